/-
  The walk of the law TagPuts.
-/
import Derived.Test.YtbgdhngdjakhfaaRefPutL
import Derived.Test.YtbgdhngdjakhfaaStr
import Derived.Test.YtbgdhngdjakhfaaBackWalk
import Derived.Deep.RegionHeldLaw
namespace Go.Proofs.Ytbgdhngdjakhfaa
open Go.RowKit

theorem below_d1 {w2 w3 : World} (hb : Below w2.drew.heap.size w2.drew w3) : Below w2.heap.size w2 w3 := ⟨hb.os, hb.tape, hb.output, hb.size, hb.block⟩
theorem below_on {w2 w3 w4 : World} (h : Below w2.heap.size w2 w3) (hb : Below w3.heap.size w3 w4) : Below w2.heap.size w2 w4 := h.trans (hb.mono h.size)
theorem str300 : strB (lenB 300) = ⟨#[130, 1, 44]⟩ := by decide +kernel
theorem len300 : (lenB 300).length = 3 := by decide +kernel

set_option maxRecDepth 8000 in
set_option maxHeartbeats 800000 in
theorem puts_yes (A : Option Addr) (cp : Nat) (l : List Nat) (c n k : Int) (m : Bool) (w : World) (hs : Src w w.heap.size A cp l) (hr : RightT c n) (hk : k ≤ 9223372036854775807) (hl : l.length ≤ 300) :
    Calls Try.prog 3 #[.slice A l.length cp, .agg #[.int .i64 c, .bool m, .int .i64 n], .int .i64 k] w fun e w' => e = .returned (.bool true) ∧ Below w.heap.size w w' := by
  obtain ⟨X, hX⟩ : ∃ X, X = l ++ tagB c m n := ⟨_, rfl⟩
  obtain ⟨Y, hY⟩ : ∃ Y, Y = l ++ lenB k := ⟨_, rfl⟩
  have c1 : ∀ W, Below w.heap.size w W → Calls Try.prog 8 #[.slice A l.length cp, .agg #[.int .i64 c, .bool m, .int .i64 n]] W fun e w' => ∃ A' c', e = .returned (.slice A' X.length c') ∧ Own w' W.heap.size (.slice A' X.length c') X ∧ Below W.heap.size W w' := by
    intro W hW
    have := put_out A cp l c n m W ((hs.below hW).more hW.size) (by omega) hr
    rw [hX]
    skip
    exact this
  have c2 : ∀ W, Below w.heap.size w W → Calls Try.prog 9 #[.slice A l.length cp, .int .i64 k] W fun e w' => ∃ A' c', e = .returned (.slice A' Y.length c') ∧ Own w' W.heap.size (.slice A' Y.length c') Y ∧ Below W.heap.size W w' := by
    intro W hW
    have := putLen_out A cp l k W ((hs.below hW).more hW.size) (by omega) hk
    rw [hY]
    skip
    exact this
  have c3 : ∀ W, Below w.heap.size w W → Calls Try.prog 12 #[.slice A l.length cp, .int .i64 c, .bool m, .int .i64 n] W fun e w' => ∃ A' c', e = .returned (.slice A' X.length c') ∧ Own w' W.heap.size (.slice A' X.length c') X ∧ Below W.heap.size W w' := by
    intro W hW
    have := refPut_out A cp l c n m W ((hs.below hW).more hW.size) (by omega) hr
    rw [hX]
    skip
    exact this
  have c4 : ∀ W, Below w.heap.size w W → Calls Try.prog 13 #[.slice A l.length cp, .int .i64 k] W fun e w' => ∃ A' c', e = .returned (.slice A' Y.length c') ∧ Own w' W.heap.size (.slice A' Y.length c') Y ∧ Below W.heap.size W w' := by
    intro W hW
    have := refPutLen_out A cp l k W ((hs.below hW).more hW.size) (by omega) hk
    rw [hY]
    skip
    exact this
  have c5 : ∀ W, Calls Try.prog 9 #[.slice none 0 0, .int .i64 300] W fun e w' => ∃ A' c', e = .returned (.slice A' 3 c') ∧ (convert 22 9 (.slice A' 3 c')).run Try.prog w' = .ok (.string ⟨#[130, 1, 44]⟩) w' ∧ Below W.heap.size W w' := by
    intro W
    refine (putLen_nil 300 W (by decide)).mono ?_
    rintro e w' ⟨A', c', he, ho, hb⟩
    have hcv := ho.src.conv
    rw [str300, len300] at hcv
    rw [len300] at he
    exact ⟨A', c', he, hcv, hb⟩
  replace c1 := Lib.hid c1
  replace c2 := Lib.hid c2
  replace c3 := Lib.hid c3
  replace c4 := Lib.hid c4
  replace c5 := Lib.hid c5
  replace hr := Lib.hid hr
  clear hX hY hs hk
  go_enter Try.func3, Try.ntmps3
  go_wp2_with fail
  refine (c1.out _ ((Below.refl w.heap.size w).alloc (Nat.le_refl _) _)).mono ?_
  rintro e w1 ⟨A7, c7, rfl, ho7, hb1⟩
  have hb1' : Below (w.heap.size + 1) (w.alloc (.cells #[.int .i64 c, .bool m, .int .i64 n] 24)) w1 := by have := hb1; simp at this; exact this
  have HBA := Lib.hid hb1'
  obtain ⟨g0, g1, g2⟩ := box3 hb1'
  have HO7 := Lib.hid ho7.src
  clear ho7 hb1 hb1'
  go_wp2_with fail
  refine (c2.out _ (below_lit (HBA.out.mono (by omega)))).mono ?_
  rintro e w2 ⟨A8, c8, rfl, ho8, hb2⟩
  have HBB := Lib.hid (below_box HBA.out hb2)
  have SX := Lib.hid ((HO7.out.below hb2).more hb2.size)
  have SY := Lib.hid ho8.src
  have hsw : w.heap.size < w2.heap.size := by have := HBB.out.size; simp at this; omega
  clear ho8 hb2 g0 g1 g2 HO7 HBA
  obtain ⟨g0, g1, g2⟩ := box3 HBB.out
  have gx := SX.out.conv
  have gy := SY.out.conv
  go_wp2_with fail
  go_region_held_law (fun W => W.cell? ⟨w.heap.size, 0, none⟩ = some (.int .i64 c) ∧ W.cell? ⟨w.heap.size, 1, none⟩ = some (.bool m) ∧ W.cell? ⟨w.heap.size, 2, none⟩ = some (.int .i64 n) ∧ (convert 22 9 (.slice A7 X.length c7)).run Try.prog W = .ok (.string (strB X)) W ∧ (convert 22 9 (.slice A8 Y.length c8)).run Try.prog W = .ok (.string (strB Y)) W)
    (first | (exact ⟨by assumption, by assumption, by assumption, by assumption, by assumption⟩) | (exact ⟨g0, g1, g2, (SX.out.keep (w' := w2.drew) (fun _ _ => rfl)).conv, (SY.out.keep (w' := w2.drew) (fun _ _ => rfl)).conv⟩) | go_keep)
    (first
      | (go_at_call 10; refine (right_yes c n m _ hr.out.1 hr.out.2.1 hr.out.2.2.1 hr.out.2.2.2).mono ?_; rintro e w3 ⟨rfl, hb3⟩; have HB3 := Lib.hid (below_d1 hb3); have HW3 := Lib.hid (below_chain HBB.out HB3.out); obtain ⟨k0, k1, k2⟩ := box3 (below_box HBB.out HB3.out); have kx := (SX.out.below HB3.out).conv; have ky := (SY.out.below HB3.out).conv; clear hb3)
      | (go_at_call 11; refine (refRight_yes c n _ hr.out.1 hr.out.2.1 hr.out.2.2.1 hr.out.2.2.2).mono ?_; rintro e wq ⟨rfl, rfl⟩)
      | (go_at_call 12; refine (c3.out _ HW3.out).mono ?_; rintro e w4 ⟨A4, c4', rfl, ho4, hb4⟩; have kc4 := ho4.src.conv; have HB4 := Lib.hid (below_on HB3.out hb4); have HW4 := Lib.hid (below_chain HBB.out HB4.out); obtain ⟨k0, k1, k2⟩ := box3 (below_box HBB.out HB4.out); have kx := (SX.out.below HB4.out).conv; have ky := (SY.out.below HB4.out).conv; clear ho4 hb4)
      | (go_at_call 13; refine (c4.out _ HW4.out).mono ?_; rintro e w5 ⟨A5, c5', rfl, ho5, hb5⟩; have kc5 := ho5.src.conv; have HB5 := Lib.hid (below_on HB4.out hb5); have HW5 := Lib.hid (below_chain HBB.out HB5.out); obtain ⟨k0, k1, k2⟩ := box3 (below_box HBB.out HB5.out); have kx := (SX.out.below HB5.out).conv; have ky := (SY.out.below HB5.out).conv; clear ho5 hb5)
      | (go_at_call 9; refine (c5.out _).mono ?_; rintro e w6 ⟨A6, c6', rfl, kc6, hb6⟩; have HB6 := Lib.hid (below_on HB5.out hb6); have HW6 := Lib.hid (below_chain HBB.out HB6.out); obtain ⟨k0, k1, k2⟩ := box3 (below_box HBB.out HB6.out); have kx := (SX.out.below HB6.out).conv; have ky := (SY.out.below HB6.out).conv; clear hb6))
  all_goals
    go_wp2
    go_ret
    exact ⟨rfl, HW6.out⟩

set_option maxRecDepth 8000 in
set_option maxHeartbeats 800000 in
theorem puts_no (A : Option Addr) (cp : Nat) (l : List Nat) (c n k : Int) (m : Bool) (w : World) (hs : Src w w.heap.size A cp l) (hr : ¬ RightT c n) (hk : k ≤ 9223372036854775807) (hl : l.length ≤ 300) :
    Calls Try.prog 3 #[.slice A l.length cp, .agg #[.int .i64 c, .bool m, .int .i64 n], .int .i64 k] w fun e w' => e = .returned (.bool true) ∧ Below w.heap.size w w' := by
  obtain ⟨X, hX⟩ : ∃ X, X = l := ⟨_, rfl⟩
  obtain ⟨Y, hY⟩ : ∃ Y, Y = l ++ lenB k := ⟨_, rfl⟩
  have c1 : ∀ W, Below w.heap.size w W → Calls Try.prog 8 #[.slice A l.length cp, .agg #[.int .i64 c, .bool m, .int .i64 n]] W fun e w' => ∃ A' c', e = .returned (.slice A' X.length c') ∧ Own w' W.heap.size (.slice A' X.length c') X ∧ Below W.heap.size W w' := by
    intro W hW
    have := put_same A cp l c n m W ((hs.below hW).more hW.size) (by omega) hr
    rw [hX]
    skip
    exact this
  have c2 : ∀ W, Below w.heap.size w W → Calls Try.prog 9 #[.slice A l.length cp, .int .i64 k] W fun e w' => ∃ A' c', e = .returned (.slice A' Y.length c') ∧ Own w' W.heap.size (.slice A' Y.length c') Y ∧ Below W.heap.size W w' := by
    intro W hW
    have := putLen_out A cp l k W ((hs.below hW).more hW.size) (by omega) hk
    rw [hY]
    skip
    exact this
  have c3 : ∀ W, Below w.heap.size w W → Calls Try.prog 12 #[.slice A l.length cp, .int .i64 c, .bool m, .int .i64 n] W fun e w' => ∃ A' c', e = .returned (.slice A' X.length c') ∧ Own w' W.heap.size (.slice A' X.length c') X ∧ Below W.heap.size W w' := by
    intro W hW
    have := refPut_no A cp l c n m W ((hs.below hW).more hW.size) (by omega) hr
    rw [hX]
    skip
    exact this
  have c4 : ∀ W, Below w.heap.size w W → Calls Try.prog 13 #[.slice A l.length cp, .int .i64 k] W fun e w' => ∃ A' c', e = .returned (.slice A' Y.length c') ∧ Own w' W.heap.size (.slice A' Y.length c') Y ∧ Below W.heap.size W w' := by
    intro W hW
    have := refPutLen_out A cp l k W ((hs.below hW).more hW.size) (by omega) hk
    rw [hY]
    skip
    exact this
  have c5 : ∀ W, Calls Try.prog 9 #[.slice none 0 0, .int .i64 300] W fun e w' => ∃ A' c', e = .returned (.slice A' 3 c') ∧ (convert 22 9 (.slice A' 3 c')).run Try.prog w' = .ok (.string ⟨#[130, 1, 44]⟩) w' ∧ Below W.heap.size W w' := by
    intro W
    refine (putLen_nil 300 W (by decide)).mono ?_
    rintro e w' ⟨A', c', he, ho, hb⟩
    have hcv := ho.src.conv
    rw [str300, len300] at hcv
    rw [len300] at he
    exact ⟨A', c', he, hcv, hb⟩
  replace c1 := Lib.hid c1
  replace c2 := Lib.hid c2
  replace c3 := Lib.hid c3
  replace c4 := Lib.hid c4
  replace c5 := Lib.hid c5
  replace hr := Lib.hid hr
  clear hX hY hs hk
  go_enter Try.func3, Try.ntmps3
  go_wp2_with fail
  refine (c1.out _ ((Below.refl w.heap.size w).alloc (Nat.le_refl _) _)).mono ?_
  rintro e w1 ⟨A7, c7, rfl, ho7, hb1⟩
  have hb1' : Below (w.heap.size + 1) (w.alloc (.cells #[.int .i64 c, .bool m, .int .i64 n] 24)) w1 := by have := hb1; simp at this; exact this
  have HBA := Lib.hid hb1'
  obtain ⟨g0, g1, g2⟩ := box3 hb1'
  have HO7 := Lib.hid ho7.src
  clear ho7 hb1 hb1'
  go_wp2_with fail
  refine (c2.out _ (below_lit (HBA.out.mono (by omega)))).mono ?_
  rintro e w2 ⟨A8, c8, rfl, ho8, hb2⟩
  have HBB := Lib.hid (below_box HBA.out hb2)
  have SX := Lib.hid ((HO7.out.below hb2).more hb2.size)
  have SY := Lib.hid ho8.src
  have hsw : w.heap.size < w2.heap.size := by have := HBB.out.size; simp at this; omega
  clear ho8 hb2 g0 g1 g2 HO7 HBA
  obtain ⟨g0, g1, g2⟩ := box3 HBB.out
  have gx := SX.out.conv
  have gy := SY.out.conv
  go_wp2_with fail
  go_region_held_law (fun W => W.cell? ⟨w.heap.size, 0, none⟩ = some (.int .i64 c) ∧ W.cell? ⟨w.heap.size, 1, none⟩ = some (.bool m) ∧ W.cell? ⟨w.heap.size, 2, none⟩ = some (.int .i64 n) ∧ (convert 22 9 (.slice A7 X.length c7)).run Try.prog W = .ok (.string (strB X)) W ∧ (convert 22 9 (.slice A8 Y.length c8)).run Try.prog W = .ok (.string (strB Y)) W)
    (first | (exact ⟨by assumption, by assumption, by assumption, by assumption, by assumption⟩) | (exact ⟨g0, g1, g2, (SX.out.keep (w' := w2.drew) (fun _ _ => rfl)).conv, (SY.out.keep (w' := w2.drew) (fun _ _ => rfl)).conv⟩) | go_keep)
    (first
      | (go_at_call 10; refine (right_no c n m _ hr.out).mono ?_; rintro e w3 ⟨rfl, hb3⟩; have HB3 := Lib.hid (below_d1 hb3); have HW3 := Lib.hid (below_chain HBB.out HB3.out); obtain ⟨k0, k1, k2⟩ := box3 (below_box HBB.out HB3.out); have kx := (SX.out.below HB3.out).conv; have ky := (SY.out.below HB3.out).conv; clear hb3)
      | (go_at_call 11; refine (refRight_no c n _ hr.out).mono ?_; rintro e wq ⟨rfl, rfl⟩)
      | (go_at_call 12; refine (c3.out _ HW3.out).mono ?_; rintro e w4 ⟨A4, c4', rfl, ho4, hb4⟩; have kc4 := ho4.src.conv; have HB4 := Lib.hid (below_on HB3.out hb4); have HW4 := Lib.hid (below_chain HBB.out HB4.out); obtain ⟨k0, k1, k2⟩ := box3 (below_box HBB.out HB4.out); have kx := (SX.out.below HB4.out).conv; have ky := (SY.out.below HB4.out).conv; clear ho4 hb4)
      | (go_at_call 13; refine (c4.out _ HW4.out).mono ?_; rintro e w5 ⟨A5, c5', rfl, ho5, hb5⟩; have kc5 := ho5.src.conv; have HB5 := Lib.hid (below_on HB4.out hb5); have HW5 := Lib.hid (below_chain HBB.out HB5.out); obtain ⟨k0, k1, k2⟩ := box3 (below_box HBB.out HB5.out); have kx := (SX.out.below HB5.out).conv; have ky := (SY.out.below HB5.out).conv; clear ho5 hb5)
      | (go_at_call 9; refine (c5.out _).mono ?_; rintro e w6 ⟨A6, c6', rfl, kc6, hb6⟩; have HB6 := Lib.hid (below_on HB5.out hb6); have HW6 := Lib.hid (below_chain HBB.out HB6.out); obtain ⟨k0, k1, k2⟩ := box3 (below_box HBB.out HB6.out); have kx := (SX.out.below HB6.out).conv; have ky := (SY.out.below HB6.out).conv; clear hb6))
  all_goals
    go_wp2
    go_ret
    exact ⟨rfl, HW6.out⟩

set_option maxRecDepth 8000 in
set_option maxHeartbeats 800000 in
theorem puts_yes_cut (A : Option Addr) (cp : Nat) (l : List Nat) (c n k : Int) (m : Bool) (w : World) (hs : Src w w.heap.size A cp l) (hr : RightT c n) (hk : k ≤ 9223372036854775807) (nn : Nat) (hnn : 300 < nn) (hnc : nn ≤ cp) (hl3 : l.length = 300) :
    Calls Try.prog 3 #[.slice A nn cp, .agg #[.int .i64 c, .bool m, .int .i64 n], .int .i64 k] w fun e w' => e = .returned (.bool true) ∧ Below w.heap.size w w' := by
  have hl : l.length ≤ 300 := by omega
  obtain ⟨X, hX⟩ : ∃ X, X = l ++ tagB c m n := ⟨_, rfl⟩
  obtain ⟨Y, hY⟩ : ∃ Y, Y = l ++ lenB k := ⟨_, rfl⟩
  have c1 : ∀ W, Below w.heap.size w W → Calls Try.prog 8 #[.slice A 300 cp, .agg #[.int .i64 c, .bool m, .int .i64 n]] W fun e w' => ∃ A' c', e = .returned (.slice A' X.length c') ∧ Own w' W.heap.size (.slice A' X.length c') X ∧ Below W.heap.size W w' := by
    intro W hW
    have := put_out A cp l c n m W ((hs.below hW).more hW.size) (by omega) hr
    rw [hX]
    rw [hl3] at this
    exact this
  have c2 : ∀ W, Below w.heap.size w W → Calls Try.prog 9 #[.slice A 300 cp, .int .i64 k] W fun e w' => ∃ A' c', e = .returned (.slice A' Y.length c') ∧ Own w' W.heap.size (.slice A' Y.length c') Y ∧ Below W.heap.size W w' := by
    intro W hW
    have := putLen_out A cp l k W ((hs.below hW).more hW.size) (by omega) hk
    rw [hY]
    rw [hl3] at this
    exact this
  have c3 : ∀ W, Below w.heap.size w W → Calls Try.prog 12 #[.slice A 300 cp, .int .i64 c, .bool m, .int .i64 n] W fun e w' => ∃ A' c', e = .returned (.slice A' X.length c') ∧ Own w' W.heap.size (.slice A' X.length c') X ∧ Below W.heap.size W w' := by
    intro W hW
    have := refPut_out A cp l c n m W ((hs.below hW).more hW.size) (by omega) hr
    rw [hX]
    rw [hl3] at this
    exact this
  have c4 : ∀ W, Below w.heap.size w W → Calls Try.prog 13 #[.slice A 300 cp, .int .i64 k] W fun e w' => ∃ A' c', e = .returned (.slice A' Y.length c') ∧ Own w' W.heap.size (.slice A' Y.length c') Y ∧ Below W.heap.size W w' := by
    intro W hW
    have := refPutLen_out A cp l k W ((hs.below hW).more hW.size) (by omega) hk
    rw [hY]
    rw [hl3] at this
    exact this
  have c5 : ∀ W, Calls Try.prog 9 #[.slice none 0 0, .int .i64 300] W fun e w' => ∃ A' c', e = .returned (.slice A' 3 c') ∧ (convert 22 9 (.slice A' 3 c')).run Try.prog w' = .ok (.string ⟨#[130, 1, 44]⟩) w' ∧ Below W.heap.size W w' := by
    intro W
    refine (putLen_nil 300 W (by decide)).mono ?_
    rintro e w' ⟨A', c', he, ho, hb⟩
    have hcv := ho.src.conv
    rw [str300, len300] at hcv
    rw [len300] at he
    exact ⟨A', c', he, hcv, hb⟩
  replace c1 := Lib.hid c1
  replace c2 := Lib.hid c2
  replace c3 := Lib.hid c3
  replace c4 := Lib.hid c4
  replace c5 := Lib.hid c5
  replace hr := Lib.hid hr
  clear hX hY hs hk hl3 hl
  go_enter Try.func3, Try.ntmps3
  go_wp2_with fail
  refine (c1.out _ ((Below.refl w.heap.size w).alloc (Nat.le_refl _) _)).mono ?_
  rintro e w1 ⟨A7, c7, rfl, ho7, hb1⟩
  have hb1' : Below (w.heap.size + 1) (w.alloc (.cells #[.int .i64 c, .bool m, .int .i64 n] 24)) w1 := by have := hb1; simp at this; exact this
  have HBA := Lib.hid hb1'
  obtain ⟨g0, g1, g2⟩ := box3 hb1'
  have HO7 := Lib.hid ho7.src
  clear ho7 hb1 hb1'
  go_wp2_with fail
  refine (c2.out _ (below_lit (HBA.out.mono (by omega)))).mono ?_
  rintro e w2 ⟨A8, c8, rfl, ho8, hb2⟩
  have HBB := Lib.hid (below_box HBA.out hb2)
  have SX := Lib.hid ((HO7.out.below hb2).more hb2.size)
  have SY := Lib.hid ho8.src
  have hsw : w.heap.size < w2.heap.size := by have := HBB.out.size; simp at this; omega
  clear ho8 hb2 g0 g1 g2 HO7 HBA
  obtain ⟨g0, g1, g2⟩ := box3 HBB.out
  have gx := SX.out.conv
  have gy := SY.out.conv
  go_wp2_with fail
  go_region_held_law (fun W => W.cell? ⟨w.heap.size, 0, none⟩ = some (.int .i64 c) ∧ W.cell? ⟨w.heap.size, 1, none⟩ = some (.bool m) ∧ W.cell? ⟨w.heap.size, 2, none⟩ = some (.int .i64 n) ∧ (convert 22 9 (.slice A7 X.length c7)).run Try.prog W = .ok (.string (strB X)) W ∧ (convert 22 9 (.slice A8 Y.length c8)).run Try.prog W = .ok (.string (strB Y)) W)
    (first | (exact ⟨by assumption, by assumption, by assumption, by assumption, by assumption⟩) | (exact ⟨g0, g1, g2, (SX.out.keep (w' := w2.drew) (fun _ _ => rfl)).conv, (SY.out.keep (w' := w2.drew) (fun _ _ => rfl)).conv⟩) | go_keep)
    (first
      | (go_at_call 10; refine (right_yes c n m _ hr.out.1 hr.out.2.1 hr.out.2.2.1 hr.out.2.2.2).mono ?_; rintro e w3 ⟨rfl, hb3⟩; have HB3 := Lib.hid (below_d1 hb3); have HW3 := Lib.hid (below_chain HBB.out HB3.out); obtain ⟨k0, k1, k2⟩ := box3 (below_box HBB.out HB3.out); have kx := (SX.out.below HB3.out).conv; have ky := (SY.out.below HB3.out).conv; clear hb3)
      | (go_at_call 11; refine (refRight_yes c n _ hr.out.1 hr.out.2.1 hr.out.2.2.1 hr.out.2.2.2).mono ?_; rintro e wq ⟨rfl, rfl⟩)
      | (go_at_call 12; refine (c3.out _ HW3.out).mono ?_; rintro e w4 ⟨A4, c4', rfl, ho4, hb4⟩; have kc4 := ho4.src.conv; have HB4 := Lib.hid (below_on HB3.out hb4); have HW4 := Lib.hid (below_chain HBB.out HB4.out); obtain ⟨k0, k1, k2⟩ := box3 (below_box HBB.out HB4.out); have kx := (SX.out.below HB4.out).conv; have ky := (SY.out.below HB4.out).conv; clear ho4 hb4)
      | (go_at_call 13; refine (c4.out _ HW4.out).mono ?_; rintro e w5 ⟨A5, c5', rfl, ho5, hb5⟩; have kc5 := ho5.src.conv; have HB5 := Lib.hid (below_on HB4.out hb5); have HW5 := Lib.hid (below_chain HBB.out HB5.out); obtain ⟨k0, k1, k2⟩ := box3 (below_box HBB.out HB5.out); have kx := (SX.out.below HB5.out).conv; have ky := (SY.out.below HB5.out).conv; clear ho5 hb5)
      | (go_at_call 9; refine (c5.out _).mono ?_; rintro e w6 ⟨A6, c6', rfl, kc6, hb6⟩; have HB6 := Lib.hid (below_on HB5.out hb6); have HW6 := Lib.hid (below_chain HBB.out HB6.out); obtain ⟨k0, k1, k2⟩ := box3 (below_box HBB.out HB6.out); have kx := (SX.out.below HB6.out).conv; have ky := (SY.out.below HB6.out).conv; clear hb6))
  all_goals
    go_wp2
    go_ret
    exact ⟨rfl, HW6.out⟩

set_option maxRecDepth 8000 in
set_option maxHeartbeats 800000 in
theorem puts_no_cut (A : Option Addr) (cp : Nat) (l : List Nat) (c n k : Int) (m : Bool) (w : World) (hs : Src w w.heap.size A cp l) (hr : ¬ RightT c n) (hk : k ≤ 9223372036854775807) (nn : Nat) (hnn : 300 < nn) (hnc : nn ≤ cp) (hl3 : l.length = 300) :
    Calls Try.prog 3 #[.slice A nn cp, .agg #[.int .i64 c, .bool m, .int .i64 n], .int .i64 k] w fun e w' => e = .returned (.bool true) ∧ Below w.heap.size w w' := by
  have hl : l.length ≤ 300 := by omega
  obtain ⟨X, hX⟩ : ∃ X, X = l := ⟨_, rfl⟩
  obtain ⟨Y, hY⟩ : ∃ Y, Y = l ++ lenB k := ⟨_, rfl⟩
  have c1 : ∀ W, Below w.heap.size w W → Calls Try.prog 8 #[.slice A 300 cp, .agg #[.int .i64 c, .bool m, .int .i64 n]] W fun e w' => ∃ A' c', e = .returned (.slice A' X.length c') ∧ Own w' W.heap.size (.slice A' X.length c') X ∧ Below W.heap.size W w' := by
    intro W hW
    have := put_same A cp l c n m W ((hs.below hW).more hW.size) (by omega) hr
    rw [hX]
    rw [hl3] at this
    rw [hl3]; exact this
  have c2 : ∀ W, Below w.heap.size w W → Calls Try.prog 9 #[.slice A 300 cp, .int .i64 k] W fun e w' => ∃ A' c', e = .returned (.slice A' Y.length c') ∧ Own w' W.heap.size (.slice A' Y.length c') Y ∧ Below W.heap.size W w' := by
    intro W hW
    have := putLen_out A cp l k W ((hs.below hW).more hW.size) (by omega) hk
    rw [hY]
    rw [hl3] at this
    exact this
  have c3 : ∀ W, Below w.heap.size w W → Calls Try.prog 12 #[.slice A 300 cp, .int .i64 c, .bool m, .int .i64 n] W fun e w' => ∃ A' c', e = .returned (.slice A' X.length c') ∧ Own w' W.heap.size (.slice A' X.length c') X ∧ Below W.heap.size W w' := by
    intro W hW
    have := refPut_no A cp l c n m W ((hs.below hW).more hW.size) (by omega) hr
    rw [hX]
    rw [hl3] at this
    rw [hl3]; exact this
  have c4 : ∀ W, Below w.heap.size w W → Calls Try.prog 13 #[.slice A 300 cp, .int .i64 k] W fun e w' => ∃ A' c', e = .returned (.slice A' Y.length c') ∧ Own w' W.heap.size (.slice A' Y.length c') Y ∧ Below W.heap.size W w' := by
    intro W hW
    have := refPutLen_out A cp l k W ((hs.below hW).more hW.size) (by omega) hk
    rw [hY]
    rw [hl3] at this
    exact this
  have c5 : ∀ W, Calls Try.prog 9 #[.slice none 0 0, .int .i64 300] W fun e w' => ∃ A' c', e = .returned (.slice A' 3 c') ∧ (convert 22 9 (.slice A' 3 c')).run Try.prog w' = .ok (.string ⟨#[130, 1, 44]⟩) w' ∧ Below W.heap.size W w' := by
    intro W
    refine (putLen_nil 300 W (by decide)).mono ?_
    rintro e w' ⟨A', c', he, ho, hb⟩
    have hcv := ho.src.conv
    rw [str300, len300] at hcv
    rw [len300] at he
    exact ⟨A', c', he, hcv, hb⟩
  replace c1 := Lib.hid c1
  replace c2 := Lib.hid c2
  replace c3 := Lib.hid c3
  replace c4 := Lib.hid c4
  replace c5 := Lib.hid c5
  replace hr := Lib.hid hr
  clear hX hY hs hk hl3 hl
  go_enter Try.func3, Try.ntmps3
  go_wp2_with fail
  refine (c1.out _ ((Below.refl w.heap.size w).alloc (Nat.le_refl _) _)).mono ?_
  rintro e w1 ⟨A7, c7, rfl, ho7, hb1⟩
  have hb1' : Below (w.heap.size + 1) (w.alloc (.cells #[.int .i64 c, .bool m, .int .i64 n] 24)) w1 := by have := hb1; simp at this; exact this
  have HBA := Lib.hid hb1'
  obtain ⟨g0, g1, g2⟩ := box3 hb1'
  have HO7 := Lib.hid ho7.src
  clear ho7 hb1 hb1'
  go_wp2_with fail
  refine (c2.out _ (below_lit (HBA.out.mono (by omega)))).mono ?_
  rintro e w2 ⟨A8, c8, rfl, ho8, hb2⟩
  have HBB := Lib.hid (below_box HBA.out hb2)
  have SX := Lib.hid ((HO7.out.below hb2).more hb2.size)
  have SY := Lib.hid ho8.src
  have hsw : w.heap.size < w2.heap.size := by have := HBB.out.size; simp at this; omega
  clear ho8 hb2 g0 g1 g2 HO7 HBA
  obtain ⟨g0, g1, g2⟩ := box3 HBB.out
  have gx := SX.out.conv
  have gy := SY.out.conv
  go_wp2_with fail
  go_region_held_law (fun W => W.cell? ⟨w.heap.size, 0, none⟩ = some (.int .i64 c) ∧ W.cell? ⟨w.heap.size, 1, none⟩ = some (.bool m) ∧ W.cell? ⟨w.heap.size, 2, none⟩ = some (.int .i64 n) ∧ (convert 22 9 (.slice A7 X.length c7)).run Try.prog W = .ok (.string (strB X)) W ∧ (convert 22 9 (.slice A8 Y.length c8)).run Try.prog W = .ok (.string (strB Y)) W)
    (first | (exact ⟨by assumption, by assumption, by assumption, by assumption, by assumption⟩) | (exact ⟨g0, g1, g2, (SX.out.keep (w' := w2.drew) (fun _ _ => rfl)).conv, (SY.out.keep (w' := w2.drew) (fun _ _ => rfl)).conv⟩) | go_keep)
    (first
      | (go_at_call 10; refine (right_no c n m _ hr.out).mono ?_; rintro e w3 ⟨rfl, hb3⟩; have HB3 := Lib.hid (below_d1 hb3); have HW3 := Lib.hid (below_chain HBB.out HB3.out); obtain ⟨k0, k1, k2⟩ := box3 (below_box HBB.out HB3.out); have kx := (SX.out.below HB3.out).conv; have ky := (SY.out.below HB3.out).conv; clear hb3)
      | (go_at_call 11; refine (refRight_no c n _ hr.out).mono ?_; rintro e wq ⟨rfl, rfl⟩)
      | (go_at_call 12; refine (c3.out _ HW3.out).mono ?_; rintro e w4 ⟨A4, c4', rfl, ho4, hb4⟩; have kc4 := ho4.src.conv; have HB4 := Lib.hid (below_on HB3.out hb4); have HW4 := Lib.hid (below_chain HBB.out HB4.out); obtain ⟨k0, k1, k2⟩ := box3 (below_box HBB.out HB4.out); have kx := (SX.out.below HB4.out).conv; have ky := (SY.out.below HB4.out).conv; clear ho4 hb4)
      | (go_at_call 13; refine (c4.out _ HW4.out).mono ?_; rintro e w5 ⟨A5, c5', rfl, ho5, hb5⟩; have kc5 := ho5.src.conv; have HB5 := Lib.hid (below_on HB4.out hb5); have HW5 := Lib.hid (below_chain HBB.out HB5.out); obtain ⟨k0, k1, k2⟩ := box3 (below_box HBB.out HB5.out); have kx := (SX.out.below HB5.out).conv; have ky := (SY.out.below HB5.out).conv; clear ho5 hb5)
      | (go_at_call 9; refine (c5.out _).mono ?_; rintro e w6 ⟨A6, c6', rfl, kc6, hb6⟩; have HB6 := Lib.hid (below_on HB5.out hb6); have HW6 := Lib.hid (below_chain HBB.out HB6.out); obtain ⟨k0, k1, k2⟩ := box3 (below_box HBB.out HB6.out); have kx := (SX.out.below HB6.out).conv; have ky := (SY.out.below HB6.out).conv; clear hb6))
  all_goals
    go_wp2
    go_ret
    exact ⟨rfl, HW6.out⟩
end Go.Proofs.Ytbgdhngdjakhfaa
