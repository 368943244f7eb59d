/-
  tag.Right and tag.Put.
-/
import Derived.Test.YtkffgdndglfcfaaGreatDoorPutLen
namespace Go.Proofs.YtkffgdndglfcfaaGreatDoor
open Go.RowKit

/-- May this be an identifier? -/
def RightT (c n : Int) : Prop := 0 ≤ c ∧ c ≤ 3 ∧ 0 ≤ n ∧ n ≤ 268435455

set_option maxHeartbeats 400000 in
theorem right_yes (c n : Int) (m : Bool) (w : World) (h1 : 0 ≤ c) (h2 : c ≤ 3) (h3 : 0 ≤ n) (h4 : n ≤ 268435455) :
    Calls Tryz.prog 92 #[.agg #[.int .i64 c, .bool m, .int .i64 n]] w fun e w' => e = .returned (.bool true) ∧ Below w.heap.size w w' := by
  go_enter Tryz.func92, Tryz.ntmps92
  go_wp2
  go_ret
  refine ⟨?_, (Below.refl _ _).alloc (Nat.le_refl _) _⟩
  simp

set_option maxHeartbeats 400000 in
theorem right_no (c n : Int) (m : Bool) (w : World) (h : ¬ RightT c n) :
    Calls Tryz.prog 92 #[.agg #[.int .i64 c, .bool m, .int .i64 n]] w fun e w' => e = .returned (.bool false) ∧ Below w.heap.size w w' := by
  unfold RightT at h
  have h := Lib.hid h
  go_enter Tryz.func92, Tryz.ntmps92
  go_wp2
  all_goals
    go_ret
    refine ⟨?_, (Below.refl _ _).alloc (Nat.le_refl _) _⟩
    first | rfl | (have := h.out; simp; omega)

/-- The first byte of an identifier, without the number. -/
def headB (c : Int) (m : Bool) : Nat := c.toNat * 64 + (if m then 32 else 0)
/-- The bytes of an identifier. -/
def tagB (c : Int) (m : Bool) (n : Int) : List Nat := if n < 31 then [headB c m + n.toNat] else (headB c m + 31) :: row more 128 n.toNat (count 7 n.toNat)

set_option maxRecDepth 4000 in
set_option maxHeartbeats 400000 in
theorem put_no (A : Option Addr) (cp : Nat) (l : List Nat) (c n : Int) (m : Bool) (w : World) (hs : Src w w.heap.size A cp l) (hl : l.length ≤ 1048000) (hr : ¬ RightT c n) :
    Calls Tryz.prog 69 #[.slice A l.length cp, .agg #[.int .i64 c, .bool m, .int .i64 n]] w fun e w' => ∃ v, e = .returned v ∧ Own w' w.heap.size v l ∧ Below w.heap.size w w' := by
  have HR := Lib.hid hr
  clear hr
  obtain ⟨i0, hi, hz0, hz1, hz2⟩ := info_parts info_u8
  go_enter Tryz.func69, Tryz.ntmps69
  go_wp2_with fail
  have hbt : Below w.heap.size w (w.alloc (.cells #[.int .i64 c, .bool m, .int .i64 n] 39)) := (Below.refl _ _).alloc (Nat.le_refl _) _
  refine (roomy_out A cp l _ ((hs.below hbt).more (by simp)) (by omega)).mono ?_
  rintro e w1 ⟨A1, c1, rfl, ho, hb⟩
  have hsz : w.heap.size < w1.heap.size := by have := hb.size; simp at this; omega
  have h0 : w1.cell? ⟨w.heap.size, 0, none⟩ = some (.int .i64 c) := (hb.cell (p := ⟨w.heap.size, 0, none⟩) (by simp)).trans (by simp)
  have h1 : w1.cell? ⟨w.heap.size, 1, none⟩ = some (.bool m) := (hb.cell (p := ⟨w.heap.size, 1, none⟩) (by simp)).trans (by simp)
  have h2 : w1.cell? ⟨w.heap.size, 2, none⟩ = some (.int .i64 n) := (hb.cell (p := ⟨w.heap.size, 2, none⟩) (by simp)).trans (by simp)
  have HO := Lib.hid (ho.base_le (base' := w.heap.size) (by simp))
  have HB := Lib.hid (hbt.trans (hb.mono (by simp)))
  have HP := Lib.hid (fun k (hk : (Value.slice A1 l.length c1).ownBlock = some k) => (ho.lt k hk).1)
  clear ho hb hs hbt
  go_wp2_with fail
  refine (right_no c n m _ HR.out).mono ?_
  rintro e w2 ⟨rfl, hb2⟩
  have hb2' : Below (w1.heap.size + 1) (w1.alloc (.cells #[.slice A1 l.length c1] 40)) w2 := by simpa using hb2
  have g0 : w2.cell? ⟨w.heap.size, 0, none⟩ = some (.int .i64 c) := (hb2'.cell (p := ⟨w.heap.size, 0, none⟩) (by simp; omega)).trans ((World.cell?_alloc_past _ _ _ hsz).trans h0)
  have g1 : w2.cell? ⟨w.heap.size, 1, none⟩ = some (.bool m) := (hb2'.cell (p := ⟨w.heap.size, 1, none⟩) (by simp; omega)).trans ((World.cell?_alloc_past _ _ _ hsz).trans h1)
  have g2 : w2.cell? ⟨w.heap.size, 2, none⟩ = some (.int .i64 n) := (hb2'.cell (p := ⟨w.heap.size, 2, none⟩) (by simp; omega)).trans ((World.cell?_alloc_past _ _ _ hsz).trans h2)
  have hv2 : w2.heap[w1.heap.size]? = some (.cells #[.slice A1 l.length c1] 40 (0, 0)) := (hb2'.block _ (by omega)).trans (heap_alloc_new w1 _)
  have g3 := cell_of_one hv2
  have g4 := free_of_one hv2
  have hsz2 : w1.heap.size < w2.heap.size := lt_of_block hv2
  have HO2 := Lib.hid (Own.below HO.out (((Below.refl _ _).alloc (Nat.le_refl _) (.cells #[.slice A1 l.length c1] 40)).trans (hb2'.mono (by omega))) (Nat.le_refl _))
  have HB2 := Lib.hid (HB.out.trans (((Below.refl _ _).alloc (by omega) (.cells #[.slice A1 l.length c1] 40)).trans (hb2'.mono (by omega))))
  have HV2 := Lib.hid hv2
  clear hb2 hb2' hv2 HO HB h0 h1 h2
  go_wp2
  go_ret
  exact ⟨_, rfl, HO2.out, HB2.out⟩

theorem or_low (a b k : Nat) (h1 : a % 2 ^ k = 0) (h2 : b < 2 ^ k) (h3 : a < 256 ∧ b < 256) : bits .or .u8 (a : Int) (b : Int) = ((a + b : Nat) : Int) := by
  rw [u8_or_nat a b h3.1 h3.2, nat_join k a b h1 h2]

set_option maxRecDepth 4000 in
set_option maxHeartbeats 400000 in
theorem put_short_true (A : Option Addr) (cp : Nat) (l : List Nat) (c n : Nat) (w : World) (hs : Src w w.heap.size A cp l) (hl : l.length ≤ 1048000) (hc : c ≤ 3) (hn : n < 31) :
    Calls Tryz.prog 69 #[.slice A l.length cp, .agg #[.int .i64 (c : Int), .bool true, .int .i64 (n : Int)]] w fun e w' => ∃ v, e = .returned v ∧ Own w' w.heap.size v (l ++ tagB c true n) ∧ Below w.heap.size w w' := by
  have e1 : bits .or .u8 ((c : Int) * 64) 32 = (c : Int) * 64 + 32 := by have := or_low (c * 64) 32 6 (by omega) (by omega) (by omega); simpa using this
  have e2 : bits .or .u8 ((c : Int) * 64 + 32) (n : Int) = (c : Int) * 64 + 32 + (n : Int) := by have := or_low (c * 64 + 32) n 5 (by omega) (by omega) (by omega); simpa using this
  obtain ⟨i0, hi, hz0, hz1, hz2⟩ := info_parts info_u8
  go_enter Tryz.func69, Tryz.ntmps69
  go_wp2_with fail
  have hbt : Below w.heap.size w (w.alloc (.cells #[.int .i64 c, .bool true, .int .i64 n] 39)) := (Below.refl _ _).alloc (Nat.le_refl _) _
  refine (roomy_out A cp l _ ((hs.below hbt).more (by simp)) (by omega)).mono ?_
  rintro e w1 ⟨A1, c1, rfl, ho, hb⟩
  have hsz : w.heap.size < w1.heap.size := by have := hb.size; simp at this; omega
  have h0 : w1.cell? ⟨w.heap.size, 0, none⟩ = some (.int .i64 c) := (hb.cell (p := ⟨w.heap.size, 0, none⟩) (by simp)).trans (by simp)
  have h1 : w1.cell? ⟨w.heap.size, 1, none⟩ = some (.bool true) := (hb.cell (p := ⟨w.heap.size, 1, none⟩) (by simp)).trans (by simp)
  have h2 : w1.cell? ⟨w.heap.size, 2, none⟩ = some (.int .i64 n) := (hb.cell (p := ⟨w.heap.size, 2, none⟩) (by simp)).trans (by simp)
  have HO := Lib.hid (ho.base_le (base' := w.heap.size) (by simp))
  have HB := Lib.hid (hbt.trans (hb.mono (by simp)))
  have HP := Lib.hid (fun k (hk : (Value.slice A1 l.length c1).ownBlock = some k) => (ho.lt k hk).1)
  clear ho hb hs hbt
  go_wp2_with fail
  refine (right_yes c n true _ (by omega) (by omega) (by omega) (by omega)).mono ?_
  rintro e w2 ⟨rfl, hb2⟩
  have hb2' : Below (w1.heap.size + 1) (w1.alloc (.cells #[.slice A1 l.length c1] 40)) w2 := by simpa using hb2
  have g0 : w2.cell? ⟨w.heap.size, 0, none⟩ = some (.int .i64 c) := (hb2'.cell (p := ⟨w.heap.size, 0, none⟩) (by simp; omega)).trans ((World.cell?_alloc_past _ _ _ hsz).trans h0)
  have g1 : w2.cell? ⟨w.heap.size, 1, none⟩ = some (.bool true) := (hb2'.cell (p := ⟨w.heap.size, 1, none⟩) (by simp; omega)).trans ((World.cell?_alloc_past _ _ _ hsz).trans h1)
  have g2 : w2.cell? ⟨w.heap.size, 2, none⟩ = some (.int .i64 n) := (hb2'.cell (p := ⟨w.heap.size, 2, none⟩) (by simp; omega)).trans ((World.cell?_alloc_past _ _ _ hsz).trans h2)
  have hv2 : w2.heap[w1.heap.size]? = some (.cells #[.slice A1 l.length c1] 40 (0, 0)) := (hb2'.block _ (by omega)).trans (heap_alloc_new w1 _)
  have g3 := cell_of_one hv2
  have g4 := free_of_one hv2
  have hsz2 : w1.heap.size < w2.heap.size := lt_of_block hv2
  have HO2 := Lib.hid (Own.below HO.out (((Below.refl _ _).alloc (Nat.le_refl _) (.cells #[.slice A1 l.length c1] 40)).trans (hb2'.mono (by omega))) (Nat.le_refl _))
  have HB2 := Lib.hid (HB.out.trans (((Below.refl _ _).alloc (by omega) (.cells #[.slice A1 l.length c1] 40)).trans (hb2'.mono (by omega))))
  have HV2 := Lib.hid hv2
  clear hb2 hb2' hv2 HO HB h0 h1 h2
  go_wp2_with (at_builtin; refine wpList_append_own _ rfl (.tmp 24) (.tmp 30) 40 rfl w.heap.size 5 i0 (.int .u8 0) 1 1 Tryz.underlying40 hi hz0 hz1 hz2 rfl (by decide) (.slice A1 l.length c1) l.length (cellsB l) rfl (World.ownsRow.alloc HO2.out _) ⟨w2.heap.size, 0, none⟩ 1 1 [.int .u8 ((c : Int) * 64 + 32 + (n : Int))] rfl rfl (news_one w2 _ _) (one_u8 _) (by simp only [maxLen]; omega) (by omega) (by simp; omega) ?_)
  intro v3 w3 hown3 hg3 _
  have HB3 := Lib.hid ((HB2.out.alloc (by omega) _).grown hg3 (by simp; omega) (fun k hk => (HO2.out.lt k hk).1))
  have HO3 := Lib.hid hown3
  clear hg3 hown3
  go_wp2
  go_ret
  refine ⟨_, rfl, ?_, HB3.out⟩
  unfold Own
  rw [tagB, if_pos (by omega), cellsB_app, List.length_append]
  have h := HO3.out
  rw [show (c : Int) * 64 + 32 + (n : Int) = ((headB (c : Int) true + (n : Int).toNat : Nat) : Int) from by simp [headB]] at h
  exact h

set_option maxRecDepth 4000 in
set_option maxHeartbeats 400000 in
theorem put_short_false (A : Option Addr) (cp : Nat) (l : List Nat) (c n : Nat) (w : World) (hs : Src w w.heap.size A cp l) (hl : l.length ≤ 1048000) (hc : c ≤ 3) (hn : n < 31) :
    Calls Tryz.prog 69 #[.slice A l.length cp, .agg #[.int .i64 (c : Int), .bool false, .int .i64 (n : Int)]] w fun e w' => ∃ v, e = .returned v ∧ Own w' w.heap.size v (l ++ tagB c false n) ∧ Below w.heap.size w w' := by
  have e2 : bits .or .u8 ((c : Int) * 64) (n : Int) = (c : Int) * 64 + (n : Int) := by have := or_low (c * 64) n 5 (by omega) (by omega) (by omega); simpa using this
  obtain ⟨i0, hi, hz0, hz1, hz2⟩ := info_parts info_u8
  go_enter Tryz.func69, Tryz.ntmps69
  go_wp2_with fail
  have hbt : Below w.heap.size w (w.alloc (.cells #[.int .i64 c, .bool false, .int .i64 n] 39)) := (Below.refl _ _).alloc (Nat.le_refl _) _
  refine (roomy_out A cp l _ ((hs.below hbt).more (by simp)) (by omega)).mono ?_
  rintro e w1 ⟨A1, c1, rfl, ho, hb⟩
  have hsz : w.heap.size < w1.heap.size := by have := hb.size; simp at this; omega
  have h0 : w1.cell? ⟨w.heap.size, 0, none⟩ = some (.int .i64 c) := (hb.cell (p := ⟨w.heap.size, 0, none⟩) (by simp)).trans (by simp)
  have h1 : w1.cell? ⟨w.heap.size, 1, none⟩ = some (.bool false) := (hb.cell (p := ⟨w.heap.size, 1, none⟩) (by simp)).trans (by simp)
  have h2 : w1.cell? ⟨w.heap.size, 2, none⟩ = some (.int .i64 n) := (hb.cell (p := ⟨w.heap.size, 2, none⟩) (by simp)).trans (by simp)
  have HO := Lib.hid (ho.base_le (base' := w.heap.size) (by simp))
  have HB := Lib.hid (hbt.trans (hb.mono (by simp)))
  have HP := Lib.hid (fun k (hk : (Value.slice A1 l.length c1).ownBlock = some k) => (ho.lt k hk).1)
  clear ho hb hs hbt
  go_wp2_with fail
  refine (right_yes c n false _ (by omega) (by omega) (by omega) (by omega)).mono ?_
  rintro e w2 ⟨rfl, hb2⟩
  have hb2' : Below (w1.heap.size + 1) (w1.alloc (.cells #[.slice A1 l.length c1] 40)) w2 := by simpa using hb2
  have g0 : w2.cell? ⟨w.heap.size, 0, none⟩ = some (.int .i64 c) := (hb2'.cell (p := ⟨w.heap.size, 0, none⟩) (by simp; omega)).trans ((World.cell?_alloc_past _ _ _ hsz).trans h0)
  have g1 : w2.cell? ⟨w.heap.size, 1, none⟩ = some (.bool false) := (hb2'.cell (p := ⟨w.heap.size, 1, none⟩) (by simp; omega)).trans ((World.cell?_alloc_past _ _ _ hsz).trans h1)
  have g2 : w2.cell? ⟨w.heap.size, 2, none⟩ = some (.int .i64 n) := (hb2'.cell (p := ⟨w.heap.size, 2, none⟩) (by simp; omega)).trans ((World.cell?_alloc_past _ _ _ hsz).trans h2)
  have hv2 : w2.heap[w1.heap.size]? = some (.cells #[.slice A1 l.length c1] 40 (0, 0)) := (hb2'.block _ (by omega)).trans (heap_alloc_new w1 _)
  have g3 := cell_of_one hv2
  have g4 := free_of_one hv2
  have hsz2 : w1.heap.size < w2.heap.size := lt_of_block hv2
  have HO2 := Lib.hid (Own.below HO.out (((Below.refl _ _).alloc (Nat.le_refl _) (.cells #[.slice A1 l.length c1] 40)).trans (hb2'.mono (by omega))) (Nat.le_refl _))
  have HB2 := Lib.hid (HB.out.trans (((Below.refl _ _).alloc (by omega) (.cells #[.slice A1 l.length c1] 40)).trans (hb2'.mono (by omega))))
  have HV2 := Lib.hid hv2
  clear hb2 hb2' hv2 HO HB h0 h1 h2
  go_wp2_with (at_builtin; refine wpList_append_own _ rfl (.tmp 24) (.tmp 30) 40 rfl w.heap.size 5 i0 (.int .u8 0) 1 1 Tryz.underlying40 hi hz0 hz1 hz2 rfl (by decide) (.slice A1 l.length c1) l.length (cellsB l) rfl (World.ownsRow.alloc HO2.out _) ⟨w2.heap.size, 0, none⟩ 1 1 [.int .u8 ((c : Int) * 64 + (n : Int))] rfl rfl (news_one w2 _ _) (one_u8 _) (by simp only [maxLen]; omega) (by omega) (by simp; omega) ?_)
  intro v3 w3 hown3 hg3 _
  have HB3 := Lib.hid ((HB2.out.alloc (by omega) _).grown hg3 (by simp; omega) (fun k hk => (HO2.out.lt k hk).1))
  have HO3 := Lib.hid hown3
  clear hg3 hown3
  go_wp2
  go_ret
  refine ⟨_, rfl, ?_, HB3.out⟩
  unfold Own
  rw [tagB, if_pos (by omega), cellsB_app, List.length_append]
  have h := HO3.out
  rw [show (c : Int) * 64 + (n : Int) = ((headB (c : Int) false + (n : Int).toNat : Nat) : Int) from by simp [headB]] at h
  exact h

set_option maxRecDepth 4000 in
set_option maxHeartbeats 400000 in
theorem put_long_true (A : Option Addr) (cp : Nat) (l : List Nat) (c n : Nat) (w : World) (hs : Src w w.heap.size A cp l) (hl : l.length ≤ 1048000) (hc : c ≤ 3) (hn : 31 ≤ n) (hn2 : n ≤ 268435455) :
    Calls Tryz.prog 69 #[.slice A l.length cp, .agg #[.int .i64 (c : Int), .bool true, .int .i64 (n : Int)]] w fun e w' => ∃ v, e = .returned v ∧ Own w' w.heap.size v (l ++ tagB c true n) ∧ Below w.heap.size w w' := by
  have e1 : bits .or .u8 ((c : Int) * 64) 32 = (c : Int) * 64 + 32 := by have := or_low (c * 64) 32 6 (by omega) (by omega) (by omega); simpa using this
  have e2 : bits .or .u8 ((c : Int) * 64 + 32) 31 = (c : Int) * 64 + 32 + 31 := by have := or_low (c * 64 + 32) 31 5 (by omega) (by omega) (by omega); simpa using this
  obtain ⟨i0, hi, hz0, hz1, hz2⟩ := info_parts info_u8
  go_enter Tryz.func69, Tryz.ntmps69
  go_wp2_with fail
  have hbt : Below w.heap.size w (w.alloc (.cells #[.int .i64 c, .bool true, .int .i64 n] 39)) := (Below.refl _ _).alloc (Nat.le_refl _) _
  refine (roomy_out A cp l _ ((hs.below hbt).more (by simp)) (by omega)).mono ?_
  rintro e w1 ⟨A1, c1, rfl, ho, hb⟩
  have hsz : w.heap.size < w1.heap.size := by have := hb.size; simp at this; omega
  have h0 : w1.cell? ⟨w.heap.size, 0, none⟩ = some (.int .i64 c) := (hb.cell (p := ⟨w.heap.size, 0, none⟩) (by simp)).trans (by simp)
  have h1 : w1.cell? ⟨w.heap.size, 1, none⟩ = some (.bool true) := (hb.cell (p := ⟨w.heap.size, 1, none⟩) (by simp)).trans (by simp)
  have h2 : w1.cell? ⟨w.heap.size, 2, none⟩ = some (.int .i64 n) := (hb.cell (p := ⟨w.heap.size, 2, none⟩) (by simp)).trans (by simp)
  have HO := Lib.hid (ho.base_le (base' := w.heap.size) (by simp))
  have HB := Lib.hid (hbt.trans (hb.mono (by simp)))
  have HP := Lib.hid (fun k (hk : (Value.slice A1 l.length c1).ownBlock = some k) => (ho.lt k hk).1)
  clear ho hb hs hbt
  go_wp2_with fail
  refine (right_yes c n true _ (by omega) (by omega) (by omega) (by omega)).mono ?_
  rintro e w2 ⟨rfl, hb2⟩
  have hb2' : Below (w1.heap.size + 1) (w1.alloc (.cells #[.slice A1 l.length c1] 40)) w2 := by simpa using hb2
  have g0 : w2.cell? ⟨w.heap.size, 0, none⟩ = some (.int .i64 c) := (hb2'.cell (p := ⟨w.heap.size, 0, none⟩) (by simp; omega)).trans ((World.cell?_alloc_past _ _ _ hsz).trans h0)
  have g1 : w2.cell? ⟨w.heap.size, 1, none⟩ = some (.bool true) := (hb2'.cell (p := ⟨w.heap.size, 1, none⟩) (by simp; omega)).trans ((World.cell?_alloc_past _ _ _ hsz).trans h1)
  have g2 : w2.cell? ⟨w.heap.size, 2, none⟩ = some (.int .i64 n) := (hb2'.cell (p := ⟨w.heap.size, 2, none⟩) (by simp; omega)).trans ((World.cell?_alloc_past _ _ _ hsz).trans h2)
  have hv2 : w2.heap[w1.heap.size]? = some (.cells #[.slice A1 l.length c1] 40 (0, 0)) := (hb2'.block _ (by omega)).trans (heap_alloc_new w1 _)
  have g3 := cell_of_one hv2
  have g4 := free_of_one hv2
  have hsz2 : w1.heap.size < w2.heap.size := lt_of_block hv2
  have HO2 := Lib.hid (Own.below HO.out (((Below.refl _ _).alloc (Nat.le_refl _) (.cells #[.slice A1 l.length c1] 40)).trans (hb2'.mono (by omega))) (Nat.le_refl _))
  have HB2 := Lib.hid (HB.out.trans (((Below.refl _ _).alloc (by omega) (.cells #[.slice A1 l.length c1] 40)).trans (hb2'.mono (by omega))))
  have HV2 := Lib.hid hv2
  clear hb2 hb2' hv2 HO HB h0 h1 h2
  go_wp2_with (at_builtin; refine wpList_append_lies _ rfl (.tmp 32) (.tmp 35) 40 rfl w.heap.size 5 i0 (.int .u8 0) 1 1 Tryz.underlying40 hi hz0 hz1 hz2 rfl (by decide) (.slice A1 l.length c1) l.length (cellsB l) rfl (World.ownsRow.alloc HO2.out _) ⟨w2.heap.size, 0, none⟩ 1 1 [.int .u8 ((c : Int) * 64 + 32 + 31)] rfl rfl (news_one w2 _ _) (one_u8 _) (by decide) (by simp only [maxLen]; omega) (by omega) (by simp; omega) _ rfl ?_)
  intro g cap w3 hown3 hg3 _ _
  rw [show (c : Int) * 64 + 32 + 31 = ((headB (c : Int) true + 31 : Nat) : Int) from by simp [headB]] at hown3 hg3
  have hb3 : w3.heap[w1.heap.size]? = some (.cells #[.slice A1 l.length c1] 40 (0, 0)) := by
    rw [hg3.block _ (by simp; omega) (own_ne HO2.out HV2.out), heap_alloc_old _ _ (by omega), HV2.out]
  have k2 : w3.cell? ⟨w.heap.size, 2, none⟩ = some (.int .i64 (n : Int)) := by
    rw [hg3.cell_far ⟨w.heap.size, 2, none⟩ (by simp; omega) (fun e => by have := HP.out _ e.symm; simp at this; omega), World.cell?_alloc_past _ _ _ (by omega)]
    exact g2
  have k3 := cell_of_one hb3
  have k4 := free_of_one hb3
  have R := Lib.hid (Box.step HV2.out HO2.out (by omega) hown3 hg3)
  clear hb3 hown3 hg3 g3 g4
  go_wp2_with fail
  refine (eachTag_any n _ w.heap.size _ _ (by omega) (by omega) R.out.1 (by rw [List.length_append]; simp; omega)).mono ?_
  rintro e w4 ⟨rfl, hB4, hb4⟩
  obtain ⟨v4, hv4, ho4, _⟩ := hB4
  have hc4 := cell_of_one hv4
  have HO4 := Lib.hid ho4
  have HB4 := Lib.hid (HB2.out.trans (R.out.2.trans hb4))
  clear hv4 ho4 hb4
  go_wp2
  go_ret
  refine ⟨_, rfl, ?_, HB4.out⟩
  have := HO4.out
  rw [tagB, if_neg (by omega), Int.toNat_natCast]
  rwa [List.append_assoc] at this

set_option maxRecDepth 4000 in
set_option maxHeartbeats 400000 in
theorem put_long_false (A : Option Addr) (cp : Nat) (l : List Nat) (c n : Nat) (w : World) (hs : Src w w.heap.size A cp l) (hl : l.length ≤ 1048000) (hc : c ≤ 3) (hn : 31 ≤ n) (hn2 : n ≤ 268435455) :
    Calls Tryz.prog 69 #[.slice A l.length cp, .agg #[.int .i64 (c : Int), .bool false, .int .i64 (n : Int)]] w fun e w' => ∃ v, e = .returned v ∧ Own w' w.heap.size v (l ++ tagB c false n) ∧ Below w.heap.size w w' := by
  have e2 : bits .or .u8 ((c : Int) * 64) 31 = (c : Int) * 64 + 31 := by have := or_low (c * 64) 31 5 (by omega) (by omega) (by omega); simpa using this
  obtain ⟨i0, hi, hz0, hz1, hz2⟩ := info_parts info_u8
  go_enter Tryz.func69, Tryz.ntmps69
  go_wp2_with fail
  have hbt : Below w.heap.size w (w.alloc (.cells #[.int .i64 c, .bool false, .int .i64 n] 39)) := (Below.refl _ _).alloc (Nat.le_refl _) _
  refine (roomy_out A cp l _ ((hs.below hbt).more (by simp)) (by omega)).mono ?_
  rintro e w1 ⟨A1, c1, rfl, ho, hb⟩
  have hsz : w.heap.size < w1.heap.size := by have := hb.size; simp at this; omega
  have h0 : w1.cell? ⟨w.heap.size, 0, none⟩ = some (.int .i64 c) := (hb.cell (p := ⟨w.heap.size, 0, none⟩) (by simp)).trans (by simp)
  have h1 : w1.cell? ⟨w.heap.size, 1, none⟩ = some (.bool false) := (hb.cell (p := ⟨w.heap.size, 1, none⟩) (by simp)).trans (by simp)
  have h2 : w1.cell? ⟨w.heap.size, 2, none⟩ = some (.int .i64 n) := (hb.cell (p := ⟨w.heap.size, 2, none⟩) (by simp)).trans (by simp)
  have HO := Lib.hid (ho.base_le (base' := w.heap.size) (by simp))
  have HB := Lib.hid (hbt.trans (hb.mono (by simp)))
  have HP := Lib.hid (fun k (hk : (Value.slice A1 l.length c1).ownBlock = some k) => (ho.lt k hk).1)
  clear ho hb hs hbt
  go_wp2_with fail
  refine (right_yes c n false _ (by omega) (by omega) (by omega) (by omega)).mono ?_
  rintro e w2 ⟨rfl, hb2⟩
  have hb2' : Below (w1.heap.size + 1) (w1.alloc (.cells #[.slice A1 l.length c1] 40)) w2 := by simpa using hb2
  have g0 : w2.cell? ⟨w.heap.size, 0, none⟩ = some (.int .i64 c) := (hb2'.cell (p := ⟨w.heap.size, 0, none⟩) (by simp; omega)).trans ((World.cell?_alloc_past _ _ _ hsz).trans h0)
  have g1 : w2.cell? ⟨w.heap.size, 1, none⟩ = some (.bool false) := (hb2'.cell (p := ⟨w.heap.size, 1, none⟩) (by simp; omega)).trans ((World.cell?_alloc_past _ _ _ hsz).trans h1)
  have g2 : w2.cell? ⟨w.heap.size, 2, none⟩ = some (.int .i64 n) := (hb2'.cell (p := ⟨w.heap.size, 2, none⟩) (by simp; omega)).trans ((World.cell?_alloc_past _ _ _ hsz).trans h2)
  have hv2 : w2.heap[w1.heap.size]? = some (.cells #[.slice A1 l.length c1] 40 (0, 0)) := (hb2'.block _ (by omega)).trans (heap_alloc_new w1 _)
  have g3 := cell_of_one hv2
  have g4 := free_of_one hv2
  have hsz2 : w1.heap.size < w2.heap.size := lt_of_block hv2
  have HO2 := Lib.hid (Own.below HO.out (((Below.refl _ _).alloc (Nat.le_refl _) (.cells #[.slice A1 l.length c1] 40)).trans (hb2'.mono (by omega))) (Nat.le_refl _))
  have HB2 := Lib.hid (HB.out.trans (((Below.refl _ _).alloc (by omega) (.cells #[.slice A1 l.length c1] 40)).trans (hb2'.mono (by omega))))
  have HV2 := Lib.hid hv2
  clear hb2 hb2' hv2 HO HB h0 h1 h2
  go_wp2_with (at_builtin; refine wpList_append_lies _ rfl (.tmp 32) (.tmp 35) 40 rfl w.heap.size 5 i0 (.int .u8 0) 1 1 Tryz.underlying40 hi hz0 hz1 hz2 rfl (by decide) (.slice A1 l.length c1) l.length (cellsB l) rfl (World.ownsRow.alloc HO2.out _) ⟨w2.heap.size, 0, none⟩ 1 1 [.int .u8 ((c : Int) * 64 + 31)] rfl rfl (news_one w2 _ _) (one_u8 _) (by decide) (by simp only [maxLen]; omega) (by omega) (by simp; omega) _ rfl ?_)
  intro g cap w3 hown3 hg3 _ _
  rw [show (c : Int) * 64 + 31 = ((headB (c : Int) false + 31 : Nat) : Int) from by simp [headB]] at hown3 hg3
  have hb3 : w3.heap[w1.heap.size]? = some (.cells #[.slice A1 l.length c1] 40 (0, 0)) := by
    rw [hg3.block _ (by simp; omega) (own_ne HO2.out HV2.out), heap_alloc_old _ _ (by omega), HV2.out]
  have k2 : w3.cell? ⟨w.heap.size, 2, none⟩ = some (.int .i64 (n : Int)) := by
    rw [hg3.cell_far ⟨w.heap.size, 2, none⟩ (by simp; omega) (fun e => by have := HP.out _ e.symm; simp at this; omega), World.cell?_alloc_past _ _ _ (by omega)]
    exact g2
  have k3 := cell_of_one hb3
  have k4 := free_of_one hb3
  have R := Lib.hid (Box.step HV2.out HO2.out (by omega) hown3 hg3)
  clear hb3 hown3 hg3 g3 g4
  go_wp2_with fail
  refine (eachTag_any n _ w.heap.size _ _ (by omega) (by omega) R.out.1 (by rw [List.length_append]; simp; omega)).mono ?_
  rintro e w4 ⟨rfl, hB4, hb4⟩
  obtain ⟨v4, hv4, ho4, _⟩ := hB4
  have hc4 := cell_of_one hv4
  have HO4 := Lib.hid ho4
  have HB4 := Lib.hid (HB2.out.trans (R.out.2.trans hb4))
  clear hv4 ho4 hb4
  go_wp2
  go_ret
  refine ⟨_, rfl, ?_, HB4.out⟩
  have := HO4.out
  rw [tagB, if_neg (by omega), Int.toNat_natCast]
  rwa [List.append_assoc] at this

/-- Put at an identifier that may be. -/
theorem put_yes (A : Option Addr) (cp : Nat) (l : List Nat) (c n : Int) (m : Bool) (w : World) (hs : Src w w.heap.size A cp l) (hl : l.length ≤ 1048000) (hr : RightT c n) :
    Calls Tryz.prog 69 #[.slice A l.length cp, .agg #[.int .i64 c, .bool m, .int .i64 n]] w fun e w' => ∃ v, e = .returned v ∧ Own w' w.heap.size v (l ++ tagB c m n) ∧ Below w.heap.size w w' := by
  obtain ⟨h1, h2, h3, h4⟩ := hr
  obtain ⟨c', rfl⟩ := Int.eq_ofNat_of_zero_le h1
  obtain ⟨n', rfl⟩ := Int.eq_ofNat_of_zero_le h3
  by_cases hn : n' < 31
  · cases m
    · exact put_short_false A cp l c' n' w hs hl (by omega) hn
    · exact put_short_true A cp l c' n' w hs hl (by omega) hn
  · cases m
    · exact put_long_false A cp l c' n' w hs hl (by omega) (by omega) (by omega)
    · exact put_long_true A cp l c' n' w hs hl (by omega) (by omega) (by omega)
end Go.Proofs.YtkffgdndglfcfaaGreatDoor
