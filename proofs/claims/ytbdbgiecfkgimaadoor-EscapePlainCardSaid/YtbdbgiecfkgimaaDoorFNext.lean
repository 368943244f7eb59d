/-
  The program's Next, Count and Right of any text.
-/
import Derived.Test.YtbdbgiecfkgimaaDoorFDec
import Derived.Test.YtbdbgiecfkgimaaDoorShelf
import Derived.BigGuardPart
namespace Go.Proofs.YtbdbgiecfkgimaaDoor
open Go.RowKit

/-- The library's two tables lie as they were laid. -/
def Tabs (w : World) : Prop := Lib.Utf8Tabs 1 2 w
theorem Tabs.below {w w' : World} (h : Tabs w) (hb : Below w.heap.size w w') : Tabs w' := Utf8Tabs_below h hb
theorem go_u (s : ByteArray) (h : 0 < s.size) : Lib.decodeGo s = if (uNext (bs s)).2 = 0 then (65533, 1) else uNext (bs s) := by
  unfold Lib.decodeGo
  rw [if_neg (by omega), decode_u s 0 h, List.drop_zero]

set_option maxRecDepth 8000 in
set_option maxHeartbeats 800000 in
theorem next_any (s : ByteArray) (w : World) (hT : Tabs w) :
    Calls Tryd.prog 53 #[.string s] w fun e w' => e = .returned (.tuple #[.int .i32 ((uNext (bs s)).1 : Int), .int .i64 ((uNext (bs s)).2 : Int)]) ∧ Below w.heap.size w w' := by
  have C := Tryd.utf8_DecodeRuneInString s w hT
  replace hT := Lib.hid hT
  by_cases h0 : s.size = 0
  · have e1 : Lib.decodeGo s = (65533, 0) := by unfold Lib.decodeGo; rw [if_pos h0]
    rw [e1] at C
    rw [bs_zero s h0]
    replace C : Hid (Calls Tryd.prog 60 #[.string s] w fun e w' => e = .returned (.tuple #[.int .i32 65533, .int .i64 0]) ∧ Below w.heap.size w w') := Lib.hid C
    replace e1 := Lib.hid e1
    replace h0 := Lib.hid h0
    go_enter Tryd.func53, Tryd.ntmps53
    go_wp2_with fail
    refine C.out.mono ?_
    rintro _ w2 ⟨rfl, h2⟩
    dsimp only []
    go_wp2_with fail
    go_returns
    exact ⟨rfl, h2⟩
  · have e1 := go_u s (by omega)
    by_cases h1 : (uNext (bs s)).2 = 0
    · have e2 := uNext_zero _ h1
      rw [if_pos h1] at e1
      rw [e1] at C
      rw [e2]
      replace C : Hid (Calls Tryd.prog 60 #[.string s] w fun e w' => e = .returned (.tuple #[.int .i32 65533, .int .i64 1]) ∧ Below w.heap.size w w') := Lib.hid C
      replace e1 := Lib.hid e1
      replace e2 := Lib.hid e2
      replace h1 := Lib.hid h1
      replace h0 := Lib.hid h0
      go_enter Tryd.func53, Tryd.ntmps53
      go_wp2_with fail
      refine C.out.mono ?_
      rintro _ w2 ⟨rfl, h2⟩
      dsimp only []
      go_wp2_with fail
      go_returns
      exact ⟨rfl, h2⟩
    · rw [if_neg h1] at e1
      rw [e1] at C
      obtain ⟨u1, u2, u3⟩ := uNext_ok (bs s) h1
      obtain ⟨c, hc⟩ : ∃ c, (uNext (bs s)).1 = c := ⟨_, rfl⟩
      obtain ⟨n, hn⟩ : ∃ n, (uNext (bs s)).2 = n := ⟨_, rfl⟩
      rw [hc, hn] at C
      rw [hc, hn]
      rw [hc, hn] at u3
      clear u1 u2
      by_cases h2 : c = 65533
      · subst h2
        have h3 : n = 3 := u3.trans (by decide)
        subst h3
        replace C : Hid (Calls Tryd.prog 60 #[.string s] w fun e w' => e = .returned (.tuple #[.int .i32 65533, .int .i64 3]) ∧ Below w.heap.size w w') := Lib.hid C
        replace e1 := Lib.hid e1
        replace u3 := Lib.hid u3
        replace hc := Lib.hid hc
        replace hn := Lib.hid hn
        replace h1 := Lib.hid h1
        replace h0 := Lib.hid h0
        go_enter Tryd.func53, Tryd.ntmps53
        go_wp2_with fail
        refine C.out.mono ?_
        rintro _ w2 ⟨rfl, h2⟩
        dsimp only []
        go_wp2_with fail
        go_returns
        exact ⟨rfl, h2⟩
      · have k0 : ((c : Int) == 65533) = false := beq_eq_false_iff_ne.2 (by omega)
        replace C := Lib.hid C
        replace e1 := Lib.hid e1
        replace u3 := Lib.hid u3
        replace hc := Lib.hid hc
        replace hn := Lib.hid hn
        replace h1 := Lib.hid h1
        replace h0 := Lib.hid h0
        replace h2 := Lib.hid h2
        go_enter Tryd.func53, Tryd.ntmps53
        go_wp2_with fail
        refine C.out.mono ?_
        rintro _ w2 ⟨rfl, h2⟩
        dsimp only []
        go_wp2_with fail
        go_returns
        exact ⟨rfl, h2⟩

set_option maxRecDepth 4000 in
set_option maxHeartbeats 800000 in
theorem count_any (s : ByteArray) (w : World) (hs : s.size ≤ 140737488355328) (hT : Tabs w) :
    Calls Tryd.prog 36 #[.string s] w fun e w' => e = .returned (.int .i64 (uCountI (bs s))) ∧ Below w.heap.size w w' := by
  have hnext : Hid (∀ (x : ByteArray) w', Below w.heap.size w w' → Calls Tryd.prog 53 #[.string x] w' fun e w'' => e = .returned (.tuple #[.int .i32 ((uNext (bs x)).1 : Int), .int .i64 ((uNext (bs x)).2 : Int)]) ∧ Below w'.heap.size w' w'') := Lib.hid fun x w' hb => next_any x w' (hT.below hb)
  replace hT := Lib.hid hT
  go_enter Tryd.func36, Tryd.ntmps36
  go_wp2_with fail
  go_loopw [0, 3] (fun sv kv wr => ∃ (x : ByteArray) (P : List Nat) (k : Nat), sv = .string x ∧ kv = .int .i64 (k : Int) ∧ x.size + k ≤ s.size ∧ Hid (P.length = k) ∧ Hid (uChars (bs s) = (uChars (bs x)).map (P ++ ·)) ∧ Hid (Below w.heap.size w wr)) (fun sv _ _ => lenS sv)
  case atStart => exact ⟨s, [], 0, rfl, rfl, Nat.le_refl _, Lib.hid rfl, Lib.hid (by simp), Lib.hid (Below.refl _ _)⟩
  case round =>
    obtain ⟨x, P, k, rfl, rfl, hk, HP, HC, HB⟩ := hrel
    by_cases h0 : 0 < x.size
    · have CN := hnext.out x wr HB.out
      have hle := uNext_le (bs x)
      rw [bs_len] at hle
      obtain ⟨c, hc⟩ : ∃ c, c = (uNext (bs x)).1 := ⟨_, rfl⟩
      obtain ⟨n, hn⟩ : ∃ n, n = (uNext (bs x)).2 := ⟨_, rfl⟩
      rw [← hc, ← hn] at CN
      rw [← hn] at hle
      obtain ⟨x', hx'⟩ : ∃ x', x.extract n x.size = x' := ⟨_, rfl⟩
      have HX := Lib.hid (bs_rest x x' n hx')
      have hxs : x'.size = x.size - n := by rw [← bs_len x', HX.out, List.length_drop, bs_len]
      have hbad : Hid (n = 0 → uChars (bs x) = none) := Lib.hid fun e => uChars_bad _ (bs_ne x h0) (by rw [← hn, e])
      have hstep : Hid (n ≠ 0 → uChars (bs s) = (uChars (bs x')).map ((P ++ [c]) ++ ·)) := Lib.hid fun e => by
        rw [HC.out, uChars_step _ (bs_ne x h0) (by rw [← hn]; exact e), ← hn, ← hc, ← HX.out, Option.map_map]
        congr 1
        funext y
        simp
      have hne : x.toList.isEmpty = false := by
        rw [ByteArray.toList_eq]
        rcases e : x.data.toList with _ | ⟨a, r⟩
        · have : x.data.toList.length = x.size := by simp
          rw [e, List.length_nil] at this
          omega
        · rfl
      replace hc := Lib.hid hc
      replace hn := Lib.hid hn
      replace CN := Lib.hid CN
      have i0 : (0 : Int) < (x.size : Int) := by omega
      have i1 : (n : Int) ≤ (x.size : Int) := by omega
      have i2 : (0 : Int) ≤ (n : Int) := by omega
      by_cases hn0 : n = 0
      · have j0 : ((n : Int) == 0) = true := beq_iff_eq.2 (by omega)
        have hfin : uCountI (bs s) = -1 := by
          unfold uCountI
          rw [HC.out, hbad.out hn0]
          rfl
        replace hfin := Lib.hid hfin
        clear hx' hxs
        go_wp2_with fail
        refine CN.out.mono ?_
        rintro _ w2 ⟨rfl, h2⟩
        dsimp only []
        go_wp2_with fail
        go_ret
        exact ⟨by rw [hfin.out]; rfl, HB.out.trans (h2.mono HB.out.size)⟩
      · have j0 : ((n : Int) == 0) = false := beq_eq_false_iff_ne.2 (by omega)
        have hkk : x'.size + (k + 1) ≤ s.size := by omega
        have hlt : x'.size < x.size := by omega
        have hxs' := Lib.hid hxs
        clear hxs
        go_wp2_with fail
        refine CN.out.mono ?_
        rintro _ w2 ⟨rfl, h2⟩
        dsimp only []
        go_wp2_with fail
        go_roundw
        case rel => exact ⟨x', P ++ [c], k + 1, rfl, by go_num, hkk, Lib.hid (by rw [List.length_append, HP.out]; rfl), Lib.hid (hstep.out hn0), Lib.hid (HB.out.trans (h2.mono HB.out.size))⟩
        case measure => exact hlt
    · have hfin : uCountI (bs s) = (k : Int) := by
        unfold uCountI
        rw [HC.out, bs_zero x (by omega), uChars_nil]
        simp [HP.out]
      replace hfin := Lib.hid hfin
      have i0 : ¬ ((0 : Int) < (x.size : Int)) := by omega
      have hne : x.toList.isEmpty = true := by
        have hl : x.data.toList.length = x.size := by simp
        rw [ByteArray.toList_eq, List.eq_nil_of_length_eq_zero (show x.data.toList.length = 0 by omega)]
        rfl
      go_wp2_with fail
      go_ret
      exact ⟨by rw [hfin.out]; rfl, HB.out⟩
theorem right_any (s : ByteArray) (w : World) (hs : s.size ≤ 140737488355328) (hT : Tabs w) :
    Calls Tryd.prog 15 #[.string s] w fun e w' => e = .returned (.bool (rightB s)) ∧ Below w.heap.size w w' := by
  have C := count_any s w hs hT
  replace hT := Lib.hid hT
  obtain ⟨z, hz⟩ : ∃ z, uCountI (bs s) = z := ⟨_, rfl⟩
  have hr := right_count s
  rw [hz] at C hr
  replace C := Lib.hid C
  replace hz := Lib.hid hz
  rcases hr with ⟨h1, h2⟩ | ⟨h1, h2⟩
  · rw [h1]
    replace h1 := Lib.hid h1
    go_enter Tryd.func15, Tryd.ntmps15
    go_wp2_with fail
    refine C.out.mono ?_
    rintro _ w2 ⟨rfl, h3⟩
    dsimp only []
    go_wp2_with fail
    go_ret
    exact ⟨by simp, h3⟩
  · rw [h1]
    subst h2
    replace h1 := Lib.hid h1
    go_enter Tryd.func15, Tryd.ntmps15
    go_wp2_with fail
    refine C.out.mono ?_
    rintro _ w2 ⟨rfl, h3⟩
    dsimp only []
    go_wp2_with fail
    go_ret
    exact ⟨rfl, h3⟩
end Go.Proofs.YtbdbgiecfkgimaaDoor
