/-
  The walk of the law TagOne.
-/
import Derived.Test.YtbgdhngdjakhfaaBackWalk
import Derived.Test.YtbgdhngdjakhfaaStr
import Derived.Deep.RegionHeldLaw
import Derived.BigRegion
import Derived.Lib.SlBytesConst
namespace Go.Proofs.Ytbgdhngdjakhfaa
open Go.RowKit

/-- Three structs of the call's own: two tags and an array. -/
theorem three_boxes {w W : World} {a b c a' b' c' x y : Value} {T U : TypeId} (h : Below (w.heap.size + 3) (((w.alloc (.cells #[a, b, c] T)).alloc (.cells #[a', b', c'] T)).alloc (.cells #[x, y] U)) W) :
    (W.cell? ⟨w.heap.size, 0, none⟩ = some a ∧ W.cell? ⟨w.heap.size, 1, none⟩ = some b ∧ W.cell? ⟨w.heap.size, 2, none⟩ = some c) ∧
    (W.cell? ⟨w.heap.size + 1, 0, none⟩ = some a' ∧ W.cell? ⟨w.heap.size + 1, 1, none⟩ = some b' ∧ W.cell? ⟨w.heap.size + 1, 2, none⟩ = some c') ∧
    W.cell? ⟨w.heap.size + 2, 0, none⟩ = some x ∧ W.cell? ⟨w.heap.size + 2, 1, none⟩ = some y := by
  have e0 : ∀ i, (((w.alloc (.cells #[a, b, c] T)).alloc (.cells #[a', b', c'] T)).alloc (.cells #[x, y] U)).cell? ⟨w.heap.size, i, none⟩ = #[a, b, c][i]? := fun i => by
    rw [World.cell?_alloc_past _ _ _ (by simp; omega), World.cell?_alloc_past _ _ _ (by simp), World.cell?_alloc_new]
  have e1 : ∀ i, (((w.alloc (.cells #[a, b, c] T)).alloc (.cells #[a', b', c'] T)).alloc (.cells #[x, y] U)).cell? ⟨w.heap.size + 1, i, none⟩ = #[a', b', c'][i]? := fun i => by
    rw [World.cell?_alloc_past _ _ _ (by simp), World.cell?_alloc_at _ _ _ _ (by simp)]
  have e2 : ∀ i, (((w.alloc (.cells #[a, b, c] T)).alloc (.cells #[a', b', c'] T)).alloc (.cells #[x, y] U)).cell? ⟨w.heap.size + 2, i, none⟩ = #[x, y][i]? := fun i => by
    rw [World.cell?_alloc_at _ _ _ _ (by simp)]
  have k : ∀ (p : Addr), p.block < w.heap.size + 3 → W.cell? p = _ := fun p hp => h.cell hp
  refine ⟨⟨?_, ?_, ?_⟩, ⟨?_, ?_, ?_⟩, ?_, ?_⟩
  · rw [k _ (by simp), e0]; rfl
  · rw [k _ (by simp), e0]; rfl
  · rw [k _ (by simp), e0]; rfl
  · rw [k _ (by simp), e1]; rfl
  · rw [k _ (by simp), e1]; rfl
  · rw [k _ (by simp), e1]; rfl
  · rw [k _ (by simp), e2]; rfl
  · rw [k _ (by simp), e2]; rfl
theorem below_step {K : Nat} {W w1 w4 : World} {o : Obj} (h : Below K W w1) (hK : K ≤ w1.heap.size) (hb : Below (w1.alloc o).heap.size (w1.alloc o) w4) : Below K W w4 :=
  h.trans (((Below.refl K w1).alloc hK o).trans (hb.mono (by simp; omega)))
theorem below_d2 {K : Nat} {W w2 w3 : World} (h : Below K W w2) (hK : K ≤ w2.heap.size) (hb : Below w2.drew.drew.heap.size w2.drew.drew w3) : Below K W w3 :=
  h.trans ⟨hb.os, hb.tape, hb.output, hb.size, fun k hk => hb.block k (Nat.lt_of_lt_of_le hk hK)⟩
theorem below_next {K : Nat} {W w2 w3 : World} (h : Below K W w2) (hK : K ≤ w2.heap.size) (hb : Below w2.heap.size w2 w3) : Below K W w3 := h.trans (hb.mono hK)
theorem below_three {w W : World} {o o' o'' : Obj} (h : Below (w.heap.size + 3) (((w.alloc o).alloc o').alloc o'') W) : Below w.heap.size w W :=
  ((((Below.refl w.heap.size w).alloc (Nat.le_refl _) o).alloc (by simp) o').alloc (by simp; omega) o'').trans (h.mono (by omega))

set_option maxRecDepth 8000 in
set_option maxHeartbeats 800000 in
theorem one_bad_a (c n c' n' x y : Int) (m m' : Bool) (w : World) (hr : ¬ RightT c n) :
    Calls Try.prog 6 #[.agg #[.int .i64 c, .bool m, .int .i64 n], .agg #[.int .i64 c', .bool m', .int .i64 n'], .agg #[.int .i64 x, .int .i64 y]] w fun e w' => e = .returned (.bool true) ∧ Below w.heap.size w w' := by
  replace hr := Lib.hid hr
  have kc := fun (w : World) (C : Array Value) (n c : Nat) => Lib.run_convert_bytes_const (P := Try.prog) w 22 5 C n c Try.underlying22 Try.underlying5
  go_enter Try.func6, Try.ntmps6
  go_wp2_with fail
  refine (right_no c n m _ hr.out).mono ?_
  rintro e w1 ⟨rfl, hb1⟩
  have HB1 := Lib.hid (show Below (w.heap.size + 3) (((w.alloc (.cells #[.int .i64 c, .bool m, .int .i64 n] 24)).alloc (.cells #[.int .i64 c', .bool m', .int .i64 n'] 24)).alloc (.cells #[.int .i64 x, .int .i64 y] 42)) w1 from by have := hb1; simp at this; exact this)
  obtain ⟨⟨g0, g1, g2⟩, ⟨g3, g4, g5⟩, g6, g7⟩ := three_boxes HB1.out
  clear hb1
  go_wp2_with fail
  have hsrc := (Src.oneM w1 120 (1, 2))
  refine (put_same _ 1 [120] (-1) 0 false _ (hsrc.more (by simp)) (by simp) (by unfold RightT; omega)).mono ?_
  rintro e w4 ⟨A4, c4, rfl, ho4, hb4⟩
  have hcv : (convert 22 9 (.slice A4 1 c4)).run Try.prog w4 = .ok (.string ⟨#[120]⟩) w4 := ho4.src.conv
  have HB4 := Lib.hid (below_step HB1.out (by have := HB1.out.size; simp at this; omega) hb4)
  clear ho4 hb4
  go_wp2
  go_ret
  exact ⟨rfl, below_three (HB4.out)⟩

set_option maxRecDepth 8000 in
set_option maxHeartbeats 800000 in
theorem one_bad_b (c n c' n' x y : Int) (m m' : Bool) (w : World) (hr : RightT c n) (hr' : ¬ RightT c' n') :
    Calls Try.prog 6 #[.agg #[.int .i64 c, .bool m, .int .i64 n], .agg #[.int .i64 c', .bool m', .int .i64 n'], .agg #[.int .i64 x, .int .i64 y]] w fun e w' => e = .returned (.bool true) ∧ Below w.heap.size w w' := by
  replace hr := Lib.hid hr
  replace hr' := Lib.hid hr'
  have kc := fun (w : World) (C : Array Value) (n c : Nat) => Lib.run_convert_bytes_const (P := Try.prog) w 22 5 C n c Try.underlying22 Try.underlying5
  go_enter Try.func6, Try.ntmps6
  go_wp2_with fail
  refine (right_yes c n m _ hr.out.1 hr.out.2.1 hr.out.2.2.1 hr.out.2.2.2).mono ?_
  rintro e w1 ⟨rfl, hb1⟩
  have HB1 := Lib.hid (show Below (w.heap.size + 3) (((w.alloc (.cells #[.int .i64 c, .bool m, .int .i64 n] 24)).alloc (.cells #[.int .i64 c', .bool m', .int .i64 n'] 24)).alloc (.cells #[.int .i64 x, .int .i64 y] 42)) w1 from by have := hb1; simp at this; exact this)
  obtain ⟨⟨g0, g1, g2⟩, ⟨g3, g4, g5⟩, g6, g7⟩ := three_boxes HB1.out
  clear hb1
  go_wp2_with fail
  refine (right_no c' n' m' _ hr'.out).mono ?_
  rintro e w2 ⟨rfl, hb2⟩
  have HB2 := Lib.hid (HB1.out.trans (hb2.mono (by have := HB1.out.size; simpa using this)))
  clear hb2 HB1
  obtain ⟨w1, HB1⟩ : ∃ W, Hid (W = w2 ∧ Below (w.heap.size + 3) (((w.alloc (.cells #[.int .i64 c, .bool m, .int .i64 n] 24)).alloc (.cells #[.int .i64 c', .bool m', .int .i64 n'] 24)).alloc (.cells #[.int .i64 x, .int .i64 y] 42)) W) := ⟨w2, rfl, HB2.out⟩
  obtain rfl := HB1.out.1
  replace HB1 := Lib.hid HB1.out.2
  go_wp2_with fail
  have hsrc := (Src.oneM w1 120 (1, 2))
  refine (put_same _ 1 [120] (-1) 0 false _ (hsrc.more (by simp)) (by simp) (by unfold RightT; omega)).mono ?_
  rintro e w4 ⟨A4, c4, rfl, ho4, hb4⟩
  have hcv : (convert 22 9 (.slice A4 1 c4)).run Try.prog w4 = .ok (.string ⟨#[120]⟩) w4 := ho4.src.conv
  have HB4 := Lib.hid (below_step HB1.out (by have := HB1.out.size; simp at this; omega) hb4)
  clear ho4 hb4
  go_wp2
  go_ret
  exact ⟨rfl, below_three (HB4.out)⟩

set_option maxRecDepth 8000 in
set_option maxHeartbeats 1600000 in
theorem one_good (c n c' n' x y : Int) (m m' : Bool) (N1 N2 : Nat) (Ta Tb La Lb : List Nat) (w : World) (hr : RightT c n) (hr' : RightT c' n') (hx : x % 2147483648 = (N1 : Int)) (hy : y % 2147483648 = (N2 : Int))
    (hTa : Ta = tagB c m n) (hTb : Tb = tagB c' m' n') (hLa : La = lenB N1) (hLb : Lb = lenB N2)
    (te le : Bool) (hse : ∀ W, (binOp .eql 24 (.agg #[.int .i64 c, .bool m, .int .i64 n]) (.agg #[.int .i64 c', .bool m', .int .i64 n'])).run Try.prog W = .ok (.bool te) W) (hst : (strB Ta == strB Tb) = te) (hsl : (strB La == strB Lb) = le) (hel : ((N1 : Int) == (N2 : Int)) = le) :
    Calls Try.prog 6 #[.agg #[.int .i64 c, .bool m, .int .i64 n], .agg #[.int .i64 c', .bool m', .int .i64 n'], .agg #[.int .i64 x, .int .i64 y]] w fun e w' => e = .returned (.bool true) ∧ Below w.heap.size w w' := by
  have ha1 : bits .and .i64 x 2147483647 = (N1 : Int) := by rw [and31, hx]
  have ha2 : bits .and .i64 y 2147483647 = (N2 : Int) := by rw [and31, hy]
  have hst2 : ((strB Ta).toList == (strB Tb).toList) = te := by rw [← beq_toListBytes]; exact hst
  have hsl2 : ((strB La).toList == (strB Lb).toList) = le := by rw [← beq_toListBytes]; exact hsl
  have hN1 : N1 < 2147483648 := by omega
  have hN2 : N2 < 2147483648 := by omega
  replace hr := Lib.hid hr
  replace hr' := Lib.hid hr'
  replace hTa := Lib.hid hTa
  replace hTb := Lib.hid hTb
  replace hLa := Lib.hid hLa
  replace hLb := Lib.hid hLb
  clear hx hy
  go_enter Try.func6, Try.ntmps6
  go_wp2_with fail
  refine (right_yes c n m _ hr.out.1 hr.out.2.1 hr.out.2.2.1 hr.out.2.2.2).mono ?_
  rintro e w1 ⟨rfl, hb1⟩
  have HB1 := Lib.hid (show Below (w.heap.size + 3) (((w.alloc (.cells #[.int .i64 c, .bool m, .int .i64 n] 24)).alloc (.cells #[.int .i64 c', .bool m', .int .i64 n'] 24)).alloc (.cells #[.int .i64 x, .int .i64 y] 42)) w1 from by have := hb1; simp at this; exact this)
  obtain ⟨⟨g0, g1, g2⟩, ⟨g3, g4, g5⟩, g6, g7⟩ := three_boxes HB1.out
  clear hb1
  go_wp2_with fail
  refine (right_yes c' n' m' _ hr'.out.1 hr'.out.2.1 hr'.out.2.2.1 hr'.out.2.2.2).mono ?_
  rintro e w2 ⟨rfl, hb2⟩
  have hK1 : w.heap.size + 3 ≤ w1.heap.size := by have := HB1.out.size; simp at this; omega
  have HB2 := Lib.hid (show Below (w.heap.size + 3) (((w.alloc (.cells #[.int .i64 c, .bool m, .int .i64 n] 24)).alloc (.cells #[.int .i64 c', .bool m', .int .i64 n'] 24)).alloc (.cells #[.int .i64 x, .int .i64 y] 42)) w2 from HB1.out.trans (hb2.mono hK1))
  have hK2 : w.heap.size + 3 ≤ w2.heap.size := Nat.le_trans hK1 hb2.size
  clear hb2 HB1 g0 g1 g2 g3 g4 g5 g6 g7
  obtain ⟨⟨g0, g1, g2⟩, ⟨g3, g4, g5⟩, g6, g7⟩ := three_boxes HB2.out
  go_wp2_with fail
  go_region
  clear g6 g7
  go_wp2_with fail
  go_region_held_law (fun W => W.cell? ⟨w.heap.size, 0, none⟩ = some (.int .i64 c) ∧ W.cell? ⟨w.heap.size, 1, none⟩ = some (.bool m) ∧ W.cell? ⟨w.heap.size, 2, none⟩ = some (.int .i64 n) ∧ W.cell? ⟨w.heap.size + 1, 0, none⟩ = some (.int .i64 c') ∧ W.cell? ⟨w.heap.size + 1, 1, none⟩ = some (.bool m') ∧ W.cell? ⟨w.heap.size + 1, 2, none⟩ = some (.int .i64 n')) (first | go_keep | (exact ⟨by assumption, by assumption, by assumption, by assumption, by assumption, by assumption⟩))
    (first
      | (go_at_call 8; (with_reducible refine (put_as Ta c n m hTa.out hr.out _).mono ?_); rintro e w3 ⟨A3, c3, rfl, ho3, hb3⟩; have HB3 := Lib.hid (below_d2 HB2.out hK2 hb3); have hK3 : w.heap.size + 3 ≤ w3.heap.size := Nat.le_trans hK2 hb3.size; have hcv3 := ho3.src.conv; have HO3 := Lib.hid ho3.src; clear ho3 hb3; obtain ⟨⟨k0, k1, k2⟩, ⟨k3, k4, k5⟩, _, _⟩ := three_boxes HB3.out)
      | (go_at_call 8; (with_reducible refine (put_as Tb c' n' m' hTb.out hr'.out _).mono ?_); rintro e w4 ⟨A4, c4, rfl, ho4, hb4⟩; have HB4 := Lib.hid (below_next HB3.out hK3 hb4); have hK4 : w.heap.size + 3 ≤ w4.heap.size := Nat.le_trans hK3 hb4.size; have hcv34 := (HO3.out.below hb4).conv; have hcv4 := ho4.src.conv; clear ho4 hb4; obtain ⟨⟨k0, k1, k2⟩, ⟨k3, k4, k5⟩, _, _⟩ := three_boxes HB4.out)
      | (go_at_call 9; (with_reducible refine (putLen_as La N1 hLa.out (by omega) _).mono ?_); rintro e w5 ⟨A5, c5, rfl, ho5, hb5⟩; have HB5 := Lib.hid (below_next HB4.out hK4 hb5); have hK5 : w.heap.size + 3 ≤ w5.heap.size := Nat.le_trans hK4 hb5.size; have hcv5 := ho5.src.conv; have HO5 := Lib.hid ho5.src; clear ho5 hb5; obtain ⟨⟨k0, k1, k2⟩, ⟨k3, k4, k5⟩, _, _⟩ := three_boxes HB5.out)
      | (go_at_call 9; (with_reducible refine (putLen_as Lb N2 hLb.out (by omega) _).mono ?_); rintro e w6 ⟨A6, c6, rfl, ho6, hb6⟩; have HB6 := Lib.hid (below_next HB5.out hK5 hb6); have hK6 : w.heap.size + 3 ≤ w6.heap.size := Nat.le_trans hK5 hb6.size; have hcv56 := (HO5.out.below hb6).conv; have hcv6 := ho6.src.conv; clear ho6 hb6; obtain ⟨⟨k0, k1, k2⟩, ⟨k3, k4, k5⟩, _, _⟩ := three_boxes HB6.out))
  all_goals
    go_wp2
    go_ret
    exact ⟨rfl, below_three HB6.out⟩
end Go.Proofs.Ytbgdhngdjakhfaa
