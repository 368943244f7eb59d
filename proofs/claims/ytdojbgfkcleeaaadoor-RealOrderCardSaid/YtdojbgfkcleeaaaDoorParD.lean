/-
  The program's Parse of any text.
-/
import Derived.Test.YtdojbgfkcleeaaaDoorHexPar
import Derived.Test.YtdojbgfkcleeaaaDoorRHypD
namespace Go.Proofs.YtdojbgfkcleeaaaDoor
open Ieee Go.RowKit

/-- The library's variable of faults of syntax holds an error. -/
def ErrTab (w : World) : Prop := ∃ ev, w.cell? ⟨1, 0, none⟩ = some ev ∧ (ev = .nilIface ∨ ∃ te pe, ev = .iface te pe)
theorem ErrTab.below {w w' : World} (h : ErrTab w) (hb : Below w.heap.size w w') : ErrTab w' := by
  obtain ⟨ev, h1, h2⟩ := h
  refine ⟨ev, ?_, h2⟩
  rw [hb.cell (p := ⟨1, 0, none⟩) ?_]
  · exact h1
  · rcases Nat.lt_or_ge 1 w.heap.size with h3 | h3
    · exact h3
    · exfalso
      rw [World.cell?, Array.getElem?_eq_none h3] at h1
      cases h1
set_option maxRecDepth 8000 in
set_option maxHeartbeats 800000 in
theorem pubParse_yes (s : ByteArray) (hs : s.size = 16) (w : World) (hall : ∀ c ∈ bs s, 0 ≤ hexV c) :
    Calls Tryd.prog 15 #[.string s, .int .i64 16, .int .i64 64] w fun e w' => e = .returned (.tuple #[.int .u64 (hexF (bs s) : Int), .nilIface]) ∧ Below w.heap.size w w' := by
  have C := parseIn_any s hs w
  rw [if_pos hall] at C
  replace C := Lib.hid C
  replace hs := Lib.hid hs
  replace hall := Lib.hid hall
  obtain ⟨n, hn⟩ : ∃ n, n = hexF (bs s) := ⟨_, rfl⟩
  rw [← hn] at C ⊢
  replace hn := Lib.hid hn
  go_enter Tryd.func15, Tryd.ntmps15
  go_wp2_with fail
  refine C.out.mono ?_
  rintro _ w1 ⟨rfl, hb⟩
  replace hb := Lib.hid hb
  dsimp only []
  go_wp2_with fail
  go_returns
  exact ⟨rfl, hb.out⟩
set_option maxRecDepth 8000 in
set_option maxHeartbeats 800000 in
theorem pubParse_no (s : ByteArray) (hs : s.size = 16) (w : World) (hall : ¬ ∀ c ∈ bs s, 0 ≤ hexV c) (he : ErrTab w) :
    Calls Tryd.prog 15 #[.string s, .int .i64 16, .int .i64 64] w fun e w' => (∃ N, e = .returned (.tuple #[.int .u64 0, .iface 60 (.pointer (some ⟨N, 0, none⟩))])) ∧ Below w.heap.size w w' := by
  have C := parseIn_any s hs w
  rw [if_neg hall] at C
  have CE : Hid (∀ w1, Below w.heap.size w w1 → ∀ fn : ByteArray, Calls Tryd.prog 24 #[.string fn, .string s, .int .i64 16, .int .i64 64, .iface 57 (.int .i64 2)] w1 fun e w' => ∃ N, e = .returned (.iface 60 (.pointer (some ⟨N, 0, none⟩))) ∧ Below w1.heap.size w1 w') := Lib.hid fun w1 h fn => by
    obtain ⟨ev, h1, h2⟩ := he.below h
    exact (Tryd.strconv_toError_syntax fn s 16 64 ev w1 (by omega) h1 h2).mono fun e w' ⟨N, a, _, _, b⟩ => ⟨N, a, b⟩
  replace C := Lib.hid C
  replace hs := Lib.hid hs
  replace hall := Lib.hid hall
  replace he := Lib.hid he
  go_enter Tryd.func15, Tryd.ntmps15
  go_wp2_with fail
  refine C.out.mono ?_
  rintro _ w1 ⟨rfl, hb⟩
  replace hb := Lib.hid hb
  dsimp only []
  go_wp2_with fail
  refine (CE.out w1 hb.out _).mono ?_
  rintro _ w2 ⟨N, rfl, hb2⟩
  replace hb2 := Lib.hid (below_on hb.out hb2)
  dsimp only []
  go_wp2_with fail
  go_returns
  exact ⟨⟨N, rfl⟩, hb2.out⟩
set_option maxRecDepth 8000 in
set_option maxHeartbeats 800000 in
theorem parse_any (s : ByteArray) (w : World) (he : ErrTab w) :
    Calls Tryd.prog 6 #[.string s] w fun e w' => e = .returned (.tuple #[.float .f64 ((fParse (bs s)).getD 0), .bool (fParse (bs s)).isSome]) ∧ Below w.heap.size w w' := by
  have hl := bs_len s
  obtain ⟨P, hP⟩ : ∃ P, P = fParse (bs s) := ⟨_, rfl⟩
  rw [← hP]
  by_cases h16 : s.size = 16
  · have k0 : ((s.size : Int) != 16) = false := by rw [h16]; rfl
    by_cases hall : ∀ c ∈ bs s, 0 ≤ hexV c
    · have hb : P = some (hexF (bs s)) := by
        rw [hP]
        unfold fParse
        rw [if_pos ⟨by rw [hl, h16], hall⟩]
      have C := pubParse_yes s h16 w hall
      have hfr := fun n => fun w => frombits_run n w
      obtain ⟨n, hn⟩ : ∃ n, n = hexF (bs s) := ⟨_, rfl⟩
      rw [← hn] at C hb
      replace C := Lib.hid C
      replace hb := Lib.hid hb
      replace hP := Lib.hid hP
      replace hl := Lib.hid hl
      replace h16 := Lib.hid h16
      replace hn := Lib.hid hn
      replace he := Lib.hid he
      replace hall := Lib.hid hall
      go_enter Tryd.func6, Tryd.ntmps6
      go_wp2_with fail
      refine C.out.mono ?_
      rintro _ w1 ⟨rfl, g1⟩
      replace g1 := Lib.hid g1
      dsimp only []
      go_wp2_with fail
      go_returns
      exact ⟨by rw [hb.out]; rfl, g1.out⟩
    · have hb : P = none := by
        rw [hP]
        unfold fParse
        rw [if_neg (fun e => hall e.2)]
      have C := pubParse_no s h16 w hall he
      replace C := Lib.hid C
      replace hb := Lib.hid hb
      replace hP := Lib.hid hP
      replace hl := Lib.hid hl
      replace h16 := Lib.hid h16
      replace he := Lib.hid he
      replace hall := Lib.hid hall
      go_enter Tryd.func6, Tryd.ntmps6
      go_wp2_with fail
      refine C.out.mono ?_
      rintro _ w1 ⟨⟨N, rfl⟩, g1⟩
      replace g1 := Lib.hid g1
      dsimp only []
      go_wp2_with fail
      go_returns
      exact ⟨by rw [hb.out]; rfl, g1.out⟩
  · have k0 : ((s.size : Int) != 16) = true := by simp; omega
    have hb : P = none := by
      rw [hP]
      unfold fParse
      rw [if_neg (fun e => h16 (by rw [← hl]; exact e.1))]
    replace hb := Lib.hid hb
    replace hP := Lib.hid hP
    replace he := Lib.hid he
    go_enter Tryd.func6, Tryd.ntmps6
    go_wp2_with fail
    go_returns
    exact ⟨by rw [hb.out]; rfl, Below.refl _ _⟩
end Go.Proofs.YtdojbgfkcleeaaaDoor
