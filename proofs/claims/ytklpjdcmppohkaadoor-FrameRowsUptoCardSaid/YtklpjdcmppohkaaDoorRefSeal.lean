/-
  The document's Seal of any bytes.
-/
import Derived.Test.YtklpjdcmppohkaaDoorFApp
namespace Go.Proofs.YtklpjdcmppohkaaDoor
open Go.RowKit

set_option maxRecDepth 8000 in
set_option maxHeartbeats 800000 in
theorem refSeal_big (A : Option Addr) (cp L : Nat) (w : World) (h : 65536 < L) :
    Calls Tryd.prog 10 #[.slice A L cp] w fun e w' => e = .returned (.tuple #[.slice none 0 0, .int .i64 3]) ∧ w' = w := by
  have k0 : 65536 < (L : Int) := by omega
  go_enter Tryd.func10, Tryd.ntmps10
  go_wp2_with fail
  go_returns
  exact ⟨rfl, rfl⟩
set_option maxRecDepth 8000 in
set_option maxHeartbeats 800000 in
theorem refSeal_any (A : Option Addr) (cp L : Nat) (l : List Nat) (w : World) (hs : Src w w.heap.size A cp l) (hL : l.length = L) (hl : L ≤ 65536) (hby : ∀ x ∈ l, x < 256) :
    Calls Tryd.prog 10 #[.slice A L cp] w fun e w' => ∃ A' c', e = .returned (.tuple #[.slice A' (L + 8) c', .int .i64 0]) ∧ Own w' w.heap.size (.slice A' (L + 8) c') (sealP l) ∧ Below w.heap.size w w' := by
  have k0 : ¬ (65536 < (L : Int)) := by omega
  obtain ⟨a, ha⟩ : ∃ a, a = L / 16777216 % 256 := ⟨_, rfl⟩
  obtain ⟨b, hb⟩ : ∃ b, b = L / 65536 % 256 := ⟨_, rfl⟩
  obtain ⟨c, hc⟩ : ∃ c, c = L / 256 % 256 := ⟨_, rfl⟩
  obtain ⟨d, hd⟩ : ∃ d, d = L % 256 := ⟨_, rfl⟩
  have hbes : bes l.length = [a, b, c, d] := by rw [hL, ha, hb, hc, hd]; rfl
  have f1 : (L : Int) / 16777216 = (a : Int) := by omega
  have f2 : (L : Int) / 65536 = (b : Int) := by omega
  have f3 : (L : Int) / 256 % 256 = (c : Int) := by omega
  have f4 : (L : Int) % 256 = (d : Int) := by omega
  have hq : Hid (sealP l = ([a, b, c, d] ++ l) ++ les 4 (sumN ([a, b, c, d] ++ l))) := Lib.hid (by unfold sealP; rw [hbes])
  have hby4 : Hid (∀ x ∈ [a, b, c, d] ++ l, x < 256) := Lib.hid fun x hx => by
    rcases List.mem_append.1 hx with hx | hx
    · rw [← hbes] at hx
      exact bes_byte _ x hx
    · exact hby x hx
  have hs4 := sumN_lt _ hby4.out
  obtain ⟨U, hU⟩ : ∃ U, U = [a, b, c, d] ++ l := ⟨_, rfl⟩
  have hUl : U.length = 4 + L := by rw [hU, List.length_append, hL]; rfl
  rw [← hU] at hq hs4 hby4
  obtain ⟨s, hse⟩ : ∃ s, s = sumN U := ⟨_, rfl⟩
  rw [← hse] at hq hs4
  obtain ⟨y0, hy0⟩ : ∃ y, y = s % 256 := ⟨_, rfl⟩
  obtain ⟨y1, hy1⟩ : ∃ y, y = s / 256 % 256 := ⟨_, rfl⟩
  obtain ⟨y2, hy2⟩ : ∃ y, y = s / 65536 % 256 := ⟨_, rfl⟩
  obtain ⟨y3, hy3⟩ : ∃ y, y = s / 16777216 % 256 := ⟨_, rfl⟩
  have hles : les 4 s = [y0, y1, y2, y3] := by rw [les4, hy0, hy1, hy2, hy3]
  rw [hles] at hq
  have g1 : (s : Int) % 256 = (y0 : Int) := by omega
  have g2 : (s : Int) / 256 % 256 = (y1 : Int) := by omega
  have g3 : (s : Int) / 65536 % 256 = (y2 : Int) := by omega
  have g4 : (s : Int) / 16777216 = (y3 : Int) := by omega
  have CM : Hid (∀ A' c' w', Src w' w'.heap.size A' c' U → Calls Tryd.prog 14 #[.int .u32 0, .slice A' (4 + L) c'] w' fun e w'' => e = .returned (.int .u32 (s : Int)) ∧ w'' = w') := Lib.hid fun A' c' w' h => by
    have := refMore_any A' c' (4 + L) U w' _ 0 h hUl (by omega) hby4.out (by omega)
    rw [Nat.zero_xor] at this
    rw [hse]
    exact this
  replace hs := Lib.hid hs
  replace hby := Lib.hid hby
  replace hL := Lib.hid hL
  replace ha := Lib.hid ha
  replace hb := Lib.hid hb
  replace hc := Lib.hid hc
  replace hd := Lib.hid hd
  replace hbes := Lib.hid hbes
  replace hU := Lib.hid hU
  replace hUl := Lib.hid hUl
  replace hse := Lib.hid hse
  replace hy0 := Lib.hid hy0
  replace hy1 := Lib.hid hy1
  replace hy2 := Lib.hid hy2
  replace hy3 := Lib.hid hy3
  replace hles := Lib.hid hles
  go_enter Tryd.func10, Tryd.ntmps10
  go_wp2_with (at_builtin; refine append_to rfl (.tmp 22) (.tmp 23) rfl w.heap.size _ [a, b, c, d] 4 rfl rfl (Own.four w a b c d) w.heap.size A cp l L hL.out rfl (hs.out.alloc' (Nat.le_refl _) _) (4 + L) rfl (by omega) (by simp) ?_; intro A1 c1 w1 ho1 hb1 _; rw [← hU.out] at ho1; have HO1 := Lib.hid ho1; have HB1 := Lib.hid (below_lit hb1); have hz1 := HB1.out.size; clear ho1 hb1)
  refine (CM.out A1 c1 w1 HO1.out.src).mono ?_
  rintro _ _ ⟨rfl, rfl⟩
  dsimp only []
  go_wp2_with (at_builtin; refine append_to rfl (.tmp 27) (.tmp 39) rfl w.heap.size _ U (4 + L) hUl.out rfl (HO1.out.alloc _) _ _ 4 [y0, y1, y2, y3] 4 rfl rfl (Src.four _ y0 y1 y2 y3) (L + 8) (by omega) (by omega) (by simp; omega) ?_; intro A2 c2 w2 ho2 hb2 _; have HO2 := Lib.hid ho2; have HB2 := Lib.hid (HB1.out.trans (below_lit' hz1 hb2)); clear ho2 hb2)
  go_returns
  exact ⟨A2, c2, rfl, by rw [hq.out]; exact HO2.out, HB2.out⟩
end Go.Proofs.YtklpjdcmppohkaaDoor
