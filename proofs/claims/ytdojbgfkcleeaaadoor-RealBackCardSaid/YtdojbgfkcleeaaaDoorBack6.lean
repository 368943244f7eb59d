/-
  RealBack, from any number.
-/
import Derived.Test.YtdojbgfkcleeaaaDoorOrder6
namespace Go.Proofs.YtdojbgfkcleeaaaDoor
open Ieee Go.RowKit

theorem text_nc : strB (hexL fNC) = { data := #[55, 102, 102, 56, 48, 48, 48, 48, 48, 48, 48, 48, 48, 48, 48, 48] } := by decide +kernel
theorem text_0 : strB (hexL 0) = { data := #[48, 48, 48, 48, 48, 48, 48, 48, 48, 48, 48, 48, 48, 48, 48, 48] } := by decide +kernel
theorem text_size (n : Nat) : (strB (hexL n)).size = 16 := by
  rw [← bs_len, bs_strB _ (hexL_byte n), hexL_len]
theorem parse_text (n : Nat) (h : n < 18446744073709551616) : fParse (bs (strB (hexL n))) = some n := by
  rw [bs_strB _ (hexL_byte n), fParse_hexL n h]
theorem parse_rest (T : ByteArray) (h : T.size = 16) : fParse (bs (T.extract 1 16)) = none := by
  unfold fParse
  rw [if_neg]
  intro h1
  have h2 := h1.1
  rw [bs_extract, List.length_drop, List.length_take, bs_len, h] at h2
  omega
theorem ne_zero (x : Nat) : (FloatKind.f64.format.order x 0 != some .eq) = decide (fNan x ∨ fR x ≠ 0) := by
  by_cases h : fNan x
  · have h2 : FloatKind.f64.format.order x 0 = none := order_nan_l x 0 h
    rw [h2, decide_eq_true (.inl h)]
    rfl
  · have h2 := ord_zero x h
    rw [bne, h2]
    by_cases h3 : fR x = 0 <;> simp [h, h3]

set_option maxRecDepth 8000 in
set_option maxHeartbeats 4000000 in
theorem back_walk6 (x : Nat) (w : World) (R : RHypD w) (Q : RParD w) (hx : x < 18446744073709551616) :
    Calls Tryd.prog 5 #[.float .f64 x] w fun e w' => e = .returned (.bool true) ∧ Below w.heap.size w w' := by
  have CT := fun w' (bw : Below w.heap.size w w') => R.text x w' bw hx
  have hl := fBits_lt x hx
  have hsz := text_size (fBits x)
  have CP := fun w' (bw : Below w.heap.size w w') => Q.parse (strB (hexL (fBits x))) w' bw
  rw [parse_text _ hl] at CP
  obtain ⟨T, hT⟩ : ∃ T, T = strB (hexL (fBits x)) := ⟨_, rfl⟩
  have CT2 := fun y w1 (bw : Below w.heap.size w w1) hy (e : fBits y = fBits x) => (R.text y w1 bw hy).mono fun en w' (hh : en = _ ∧ Below w1.heap.size w1 w') => show en = .returned (.string T) ∧ Below w1.heap.size w1 w' from by rw [hT, ← e]; exact hh
  have CO := fun y w1 (bw : Below w.heap.size w w1) hy (e : fBits x = fBits y) => (R.order x y w1 bw hx hy).mono fun en w' (hh : en = _ ∧ Below w1.heap.size w1 w') => show en = .returned (.int .i64 0) ∧ Below w1.heap.size w1 w' from by rw [(fOrd_zero x y hx hy).2 e] at hh; exact hh
  rw [← hT] at CT CP hsz
  have CP2 := fun w' (bw : Below w.heap.size w w') => Q.parse (T.extract 1 16) w' bw
  rw [parse_rest T hsz] at CP2
  have hbb := bits_bits x
  have e1 := ord_self x
  have e2 := ne_zero x
  have key : ((FloatKind.f64.format.order x x == some .eq) = true ∧ (FloatKind.f64.format.order x 0 != some .eq) = true) ∨ ((FloatKind.f64.format.order x x == some .eq) = true ∧ (FloatKind.f64.format.order x 0 != some .eq) = false ∧ T.toList = [48, 48, 48, 48, 48, 48, 48, 48, 48, 48, 48, 48, 48, 48, 48, 48]) ∨ ((FloatKind.f64.format.order x x == some .eq) = false ∧ (FloatKind.f64.format.order x 0 != some .eq) = true ∧ T.toList = [55, 102, 102, 56, 48, 48, 48, 48, 48, 48, 48, 48, 48, 48, 48, 48]) := by
    by_cases hn : fNan x
    · refine .inr (.inr ⟨e1.trans (decide_eq_false fun h => h hn), e2.trans (decide_eq_true (.inl hn)), ?_⟩)
      rw [hT, (nan_bits x).1 hn, text_nc]
      decide +kernel
    · by_cases h0 : fR x = 0
      · refine .inr (.inl ⟨e1.trans (decide_eq_true hn), e2.trans (decide_eq_false fun h => h.elim hn (fun h => h h0)), ?_⟩)
        have : fBits x = 0 := by unfold fBits; rw [if_neg hn, if_pos h0]
        rw [hT, this, text_0]
        decide +kernel
      · exact .inl ⟨e1.trans (decide_eq_true hn), e2.trans (decide_eq_true (.inr h0))⟩
  clear e1 e2 R Q
  have g0 := Lib.hid (Below.refl w.heap.size w)
  have htt : (T.toList == T.toList) = true := beq_self_eq_true _
  have k16 : (T.size : Int) = 16 := by rw [hsz]; rfl
  replace CT := Lib.hid CT
  replace CP := Lib.hid CP
  replace CT2 := Lib.hid CT2
  replace CO := Lib.hid CO
  replace CP2 := Lib.hid CP2
  replace hT := Lib.hid hT
  replace hl := Lib.hid hl
  go_enter Tryd.func5, Tryd.ntmps5
  go_wp2_with fail
  refine (CT.out w g0.out).mono ?_
  rintro _ w1 ⟨rfl, g1⟩
  replace g1 := Lib.hid (below_on g0.out g1)
  dsimp only []
  go_wp2_with fail
  refine (CP.out w1 g1.out).mono ?_
  rintro _ w2 ⟨y, rfl, hy, hyx, g2⟩
  replace g2 := Lib.hid (below_on g1.out g2)
  rw [show (some (fBits x)).getD 0 = fBits x from rfl, hbb] at hyx
  dsimp only []
  go_wp2_with fail
  refine (CT2.out y w2 g2.out hy hyx).mono ?_
  rintro _ w3 ⟨rfl, g3⟩
  replace g3 := Lib.hid (below_on g2.out g3)
  dsimp only []
  go_wp2_with fail
  refine (CO.out y w3 g3.out hy hyx.symm).mono ?_
  rintro _ w4 ⟨rfl, g4⟩
  replace g4 := Lib.hid (below_on g3.out g4)
  dsimp only []
  go_wp2_with fail
  refine (CP2.out w4 g4.out).mono ?_
  rintro _ w5 ⟨z, rfl, hz, hzx, g5⟩
  replace g5 := Lib.hid (below_on g4.out g5)
  replace hzx := Lib.hid hzx
  dsimp only []
  rcases key with ⟨q1, q2⟩ | ⟨q1, q2, q3⟩ | ⟨q1, q2, q3⟩
  · go_wp2_with fail
    go_ret
    exact ⟨rfl, g5.out⟩
  · go_wp2_with fail
    go_ret
    exact ⟨rfl, g5.out⟩
  · go_wp2_with fail
    go_ret
    exact ⟨rfl, g5.out⟩
end Go.Proofs.YtdojbgfkcleeaaaDoor
