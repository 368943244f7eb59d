/-
  tag.PutLen appends the bytes of a length.
-/
import Derived.Test.YtcbiedonmibfaaaGreatDoorGroups
import Derived.Test.YtcbiedonmibfaaaGreatDoorRoomy
import Derived.Deep.RegionLaw
namespace Go.Proofs.YtcbiedonmibfaaaGreatDoor
open Go.RowKit
def lenB (n : Int) : List Nat := if n < 0 then [] else if n < 128 then [n.toNat] else (128 + count 8 n.toNat) :: row same 256 n.toNat (count 8 n.toNat)
set_option maxHeartbeats 400000 in
theorem putLen_neg (A : Option Addr) (c : Nat) (l : List Nat) (n : Int) (w : World) (hs : Src w w.heap.size A c l) (hl : l.length ≤ 1048000) (hn : n < 0) :
 Calls Tryz.prog 76 #[.slice A l.length c, .int .i64 n] w fun e w' => ∃ v, e = .returned v ∧ Own w' w.heap.size v (l ++ lenB n) ∧ Below w.heap.size w w' := by
 go_enter Tryz.func76, Tryz.ntmps76
 go_wp2_with fail
 refine (roomy_out A c l w hs (by omega)).mono ?_
 rintro e w1 ⟨A1, c1, rfl, ho, hb⟩
 have HO := Hd ho
 have HB := Hd hb
 clear ho hb hs
 go_wp2
 go_ret
 refine ⟨_, rfl, ?_, HB.out.alloc HB.out.size _⟩
 rw [lenB, if_pos hn, List.append_nil]
 exact Own.below HO.out ((Below.refl _ _).alloc (Nat.le_refl _) _) (Nat.le_refl _)
set_option maxRecDepth 4000 in
set_option maxHeartbeats 400000 in
theorem putLen_short (A : Option Addr) (c : Nat) (l : List Nat) (n : Nat) (w : World) (hs : Src w w.heap.size A c l) (hl : l.length ≤ 1048000) (hn : n < 128) :
 Calls Tryz.prog 76 #[.slice A l.length c, .int .i64 (n : Int)] w fun e w' => ∃ v, e = .returned v ∧ Own w' w.heap.size v (l ++ lenB n) ∧ Below w.heap.size w w' := by
 obtain ⟨i0, hi, hz0, hz1, hz2⟩ := info_parts info_u8
 go_enter Tryz.func76, Tryz.ntmps76
 go_wp2_with fail
 refine (roomy_out A c l w hs (by omega)).mono ?_
 rintro e w1 ⟨A1, c1, rfl, ho, hb⟩
 have HO := Hd ho
 have HB := Hd hb
 have hsz := hb.size
 clear ho hb hs
 go_wp2_with (at_builtin; refine wpList_append_own _ rfl _ _ 40 rfl w.heap.size 5 i0 (.int .u8 0) 1 1 Tryz.underlying40 hi hz0 hz1 hz2 rfl (by decide) _ l.length (cellsB l) rfl (World.ownsRow.alloc (World.ownsRow.alloc HO.out _) _) ⟨w1.heap.size + 1, 0, none⟩ 1 1 [.int .u8 (n : Int)] rfl rfl ?_ ?_ (by simp only [maxLen]; omega) (by omega) (by simp; omega) ?_)
 · simpa using news_one (w1.alloc (.cells #[.slice A1 l.length c1] 40)) (.int .u8 (n : Int)) 5
 · exact one_u8 _
 · intro v2 w2 hown2 hg2 _
   have hb2 : Below w.heap.size w w2 := ((HB.out.alloc HB.out.size _).alloc (by simp; omega) _).grown hg2 (by simp; omega) (fun k hk => (HO.out.lt k hk).1)
   have HB2 := Hd hb2
   have HO2 := Hd hown2
   clear hb2 hg2 hown2
   go_wp2
   go_ret
   refine ⟨_, rfl, ?_, HB2.out⟩
   rw [lenB, if_neg (by omega), if_pos (by omega)]
   unfold Own
   rw [cellsB_app, List.length_append]
   exact HO2.out
theorem box_far {w1 w3 : World} {base : Nat} {v : Value} {l : List Nat} {o : Obj} (ho : Own w1 base v l) (hg : (((w1.alloc (.cells #[v] 40)).alloc o).drew).grownBy w3 v.ownBlock) :
 w3.heap[w1.heap.size]? = some (.cells #[v] 40 (0, 0)) := by
 have h1 : (((w1.alloc (.cells #[v] 40)).alloc o).drew).heap[w1.heap.size]? = some (.cells #[v] 40 (0, 0)) := by
  show ((w1.alloc (.cells #[v] 40)).alloc o).heap[w1.heap.size]? = _
  rw [heap_alloc_old _ _ (by simp), heap_alloc_new]
 rw [hg.block _ (by simp; omega) (fun e => by have := ho.lt _ e.symm; omega), h1]
theorem box_laid {w1 w3 : World} {base g cap : Nat} {v : Value} {l : List Nat} {o : Obj} {x : Nat} (ho : Own w1 base v l) (hb : base ≤ w1.heap.size)
 (h1 : w3.ownsRow base 5 1 (.slice (some ⟨g, 0, none⟩) (l.length + 1) cap) (l.length + 1) (cellsB l ++ [.int .u8 (x : Int)]))
 (hg : (((w1.alloc (.cells #[v] 40)).alloc o).drew).grownBy w3 v.ownBlock) :
 Box (w3.setCell ⟨w1.heap.size, 0, none⟩ (.slice (some ⟨g, 0, none⟩) (l.length + 1) cap)) w1.heap.size base (l ++ [x]) ∧
  Below base w1 (w3.setCell ⟨w1.heap.size, 0, none⟩ (.slice (some ⟨g, 0, none⟩) (l.length + 1) cap)) := by
 have R := Box.step (w := w1.alloc (.cells #[v] 40)) (heap_alloc_new w1 _) (World.ownsRow.alloc ho _) hb h1 (o := o) ⟨hg.os, hg.tape, hg.output, hg.size, hg.block⟩
 exact ⟨R.1, ((Below.refl _ _).alloc hb _).trans R.2⟩
set_option maxRecDepth 4000 in
set_option maxHeartbeats 400000 in
theorem putLen_long (A : Option Addr) (c : Nat) (l : List Nat) (n : Nat) (w : World) (hs : Src w w.heap.size A c l) (hl : l.length ≤ 1048000) (hn : 128 ≤ n) (hn2 : n ≤ 9223372036854775807) :
 Calls Tryz.prog 76 #[.slice A l.length c, .int .i64 (n : Int)] w fun e w' => ∃ v, e = .returned v ∧ Own w' w.heap.size v (l ++ lenB n) ∧ Below w.heap.size w w' := by
 obtain ⟨i0, hi, hz0, hz1, hz2⟩ := info_parts info_u8
 have hG : count 8 n ≤ 8 := by
  have := Lib.bitLen_le n 64 (by omega) (by omega)
  unfold count; omega
 obtain ⟨G, hGe⟩ : ∃ G, G = count 8 n := ⟨_, rfl⟩
 rw [← hGe] at hG
 have HG := Hd hGe
 clear hGe
 go_enter Tryz.func76, Tryz.ntmps76
 go_wp2_with fail
 refine (roomy_out A c l w hs (by omega)).mono ?_
 rintro e w1 ⟨A1, c1, rfl, ho, hb⟩
 have HO := Hd ho
 have HB := Hd hb
 have hsz := hb.size
 clear ho hb hs
 have hw1 : IntKind.u8.wrap (G : Int) = (G : Int) := IntWalk.u8_in _ (by omega)
 have hw2 : IntKind.u8.wrap (128 + (G : Int)) = 128 + (G : Int) := IntWalk.u8_in _ (by omega)
 go_wp2_with fail
 go_region_law (first
  | (go_simp; go_at_call 122; refine (groups_any n 8 _ (by omega) (by omega) (by omega)).mono ?_; rintro e w' ⟨rfl, rfl⟩; rw [← HG.out])
  | (refine step_append_lies _ rfl (.tmp 18) (.tmp 23) 40 rfl w.heap.size 5 i0 (.int .u8 0) 1 1 Tryz.underlying40 hi hz0 hz1 hz2 rfl (by decide) (.slice A1 l.length c1) l.length (cellsB l) rfl (World.ownsRow.drew (World.ownsRow.alloc (World.ownsRow.alloc HO.out _) _)) ⟨w1.heap.size + 1, 0, none⟩ 1 1 [.int .u8 (128 + (G : Int))] rfl rfl (by simpa using news_one (w1.alloc (.cells #[.slice A1 l.length c1] 40)) (.int .u8 (128 + (G : Int))) 5) (one_u8 _) (by decide) (by simp only [maxLen]; omega) (by omega) (by simp; omega) _ rfl ?_; intro g cap w3 hown3 hg3 _ _; have hb3 : w3.heap[w1.heap.size]? = some (.cells #[.slice A1 l.length c1] 40 (0, 0)) := (box_far HO.out hg3); have hc3 := cell_of_one hb3; have hf3 := free_of_one hb3; have R := Hd (box_laid HO.out hsz (x := 128 + G) hown3 hg3); clear hb3 hown3 hg3))
 all_goals
  go_wp2_with fail
  refine (eachLen_any n _ w.heap.size _ _ (by omega) hn2 R.out.1 (by rw [List.length_append]; simp; omega)).mono ?_
  rintro e w4 ⟨rfl, hB4, hb4⟩
  obtain ⟨v4, hv4, ho4, _⟩ := hB4
  have hc4 := cell_of_one hv4
  have HO4 := Hd ho4
  have HB4 := Hd (HB.out.trans (R.out.2.trans hb4))
  clear hv4 ho4 hb4
  go_wp2
  go_ret
  refine ⟨_, rfl, ?_, HB4.out⟩
  have := HO4.out
  rw [lenB, if_neg (by omega), if_neg (by omega), Int.toNat_natCast, ← HG.out]
  rwa [← HG.out, List.append_assoc] at this
end Go.Proofs.YtcbiedonmibfaaaGreatDoor
namespace Go.Proofs.YtcbiedonmibfaaaGreatDoor
open Go.RowKit
def RightT (c n : Int) : Prop := 0 ≤ c ∧ c ≤ 3 ∧ 0 ≤ n ∧ n ≤ 268435455
set_option maxHeartbeats 400000 in
theorem right_yes (c n : Int) (m : Bool) (w : World) (h1 : 0 ≤ c) (h2 : c ≤ 3) (h3 : 0 ≤ n) (h4 : n ≤ 268435455) :
 Calls Tryz.prog 120 #[.agg #[.int .i64 c, .bool m, .int .i64 n]] w fun e w' => e = .returned (.bool true) ∧ Below w.heap.size w w' := by
 go_enter Tryz.func120, Tryz.ntmps120
 go_wp2
 go_ret
 refine ⟨?_, (Below.refl _ _).alloc (Nat.le_refl _) _⟩
 simp
set_option maxHeartbeats 400000 in
theorem right_no (c n : Int) (m : Bool) (w : World) (h : ¬ RightT c n) :
 Calls Tryz.prog 120 #[.agg #[.int .i64 c, .bool m, .int .i64 n]] w fun e w' => e = .returned (.bool false) ∧ Below w.heap.size w w' := by
 unfold RightT at h
 have h := Hd h
 go_enter Tryz.func120, Tryz.ntmps120
 go_wp2
 all_goals
  go_ret
  refine ⟨?_, (Below.refl _ _).alloc (Nat.le_refl _) _⟩
  first | rfl | (have := h.out; simp; omega)
def headB (c : Int) (m : Bool) : Nat := c.toNat * 64 + (if m then 32 else 0)
def tagB (c : Int) (m : Bool) (n : Int) : List Nat := if n < 31 then [headB c m + n.toNat] else (headB c m + 31) :: row more 128 n.toNat (count 7 n.toNat)
theorem or_low (a b k : Nat) (h1 : a % 2 ^ k = 0) (h2 : b < 2 ^ k) (h3 : a < 256 ∧ b < 256) : bits .or .u8 (a : Int) (b : Int) = ((a + b : Nat) : Int) := by
 rw [u8_or_nat a b h3.1 h3.2, nat_join k a b h1 h2]
set_option maxRecDepth 4000 in
set_option maxHeartbeats 400000 in
theorem put_short_true (A : Option Addr) (cp : Nat) (l : List Nat) (c n : Nat) (w : World) (hs : Src w w.heap.size A cp l) (hl : l.length ≤ 1048000) (hc : c ≤ 3) (hn : n < 31) :
 Calls Tryz.prog 77 #[.slice A l.length cp, .agg #[.int .i64 (c : Int), .bool true, .int .i64 (n : Int)]] w fun e w' => ∃ v, e = .returned v ∧ Own w' w.heap.size v (l ++ tagB c true n) ∧ Below w.heap.size w w' := by
 have e1 : bits .or .u8 ((c : Int) * 64) 32 = (c : Int) * 64 + 32 := by have := or_low (c * 64) 32 6 (by omega) (by omega) (by omega); simpa using this
 have e2 : bits .or .u8 ((c : Int) * 64 + 32) (n : Int) = (c : Int) * 64 + 32 + (n : Int) := by have := or_low (c * 64 + 32) n 5 (by omega) (by omega) (by omega); simpa using this
 obtain ⟨i0, hi, hz0, hz1, hz2⟩ := info_parts info_u8
 go_enter Tryz.func77, Tryz.ntmps77
 go_wp2_with fail
 have hbt : Below w.heap.size w (w.alloc (.cells #[.int .i64 c, .bool true, .int .i64 n] 39)) := (Below.refl _ _).alloc (Nat.le_refl _) _
 refine (roomy_out A cp l _ ((hs.below hbt).more (by simp)) (by omega)).mono ?_
 rintro e w1 ⟨A1, c1, rfl, ho, hb⟩
 have hsz : w.heap.size < w1.heap.size := by have := hb.size; simp at this; omega
 have h0 : w1.cell? ⟨w.heap.size, 0, none⟩ = some (.int .i64 c) := (hb.cell (p := ⟨w.heap.size, 0, none⟩) (by simp)).trans (by simp)
 have h1 : w1.cell? ⟨w.heap.size, 1, none⟩ = some (.bool true) := (hb.cell (p := ⟨w.heap.size, 1, none⟩) (by simp)).trans (by simp)
 have h2 : w1.cell? ⟨w.heap.size, 2, none⟩ = some (.int .i64 n) := (hb.cell (p := ⟨w.heap.size, 2, none⟩) (by simp)).trans (by simp)
 have HO := Hd (ho.base_le (base' := w.heap.size) (by simp))
 have HB := Hd (hbt.trans (hb.mono (by simp)))
 have HP := Hd (fun k (hk : (Value.slice A1 l.length c1).ownBlock = some k) => (ho.lt k hk).1)
 clear ho hb hs hbt
 go_wp2_with fail
 refine (right_yes c n true _ (by omega) (by omega) (by omega) (by omega)).mono ?_
 rintro e w2 ⟨rfl, hb2⟩
 have hb2' : Below (w1.heap.size + 1) (w1.alloc (.cells #[.slice A1 l.length c1] 40)) w2 := by simpa using hb2
 have g0 : w2.cell? ⟨w.heap.size, 0, none⟩ = some (.int .i64 c) := (hb2'.cell (p := ⟨w.heap.size, 0, none⟩) (by simp; omega)).trans ((World.cell?_alloc_past _ _ _ hsz).trans h0)
 have g1 : w2.cell? ⟨w.heap.size, 1, none⟩ = some (.bool true) := (hb2'.cell (p := ⟨w.heap.size, 1, none⟩) (by simp; omega)).trans ((World.cell?_alloc_past _ _ _ hsz).trans h1)
 have g2 : w2.cell? ⟨w.heap.size, 2, none⟩ = some (.int .i64 n) := (hb2'.cell (p := ⟨w.heap.size, 2, none⟩) (by simp; omega)).trans ((World.cell?_alloc_past _ _ _ hsz).trans h2)
 have hv2 : w2.heap[w1.heap.size]? = some (.cells #[.slice A1 l.length c1] 40 (0, 0)) := (hb2'.block _ (by omega)).trans (heap_alloc_new w1 _)
 have g3 := cell_of_one hv2
 have g4 := free_of_one hv2
 have hsz2 : w1.heap.size < w2.heap.size := lt_of_block hv2
 have HO2 := Hd (Own.below HO.out (((Below.refl _ _).alloc (Nat.le_refl _) (.cells #[.slice A1 l.length c1] 40)).trans (hb2'.mono (by omega))) (Nat.le_refl _))
 have HB2 := Hd (HB.out.trans (((Below.refl _ _).alloc (by omega) (.cells #[.slice A1 l.length c1] 40)).trans (hb2'.mono (by omega))))
 have HV2 := Hd hv2
 clear hb2 hb2' hv2 HO HB h0 h1 h2
 go_wp2_with (at_builtin; refine wpList_append_own _ rfl (.tmp 24) (.tmp 30) 40 rfl w.heap.size 5 i0 (.int .u8 0) 1 1 Tryz.underlying40 hi hz0 hz1 hz2 rfl (by decide) (.slice A1 l.length c1) l.length (cellsB l) rfl (World.ownsRow.alloc HO2.out _) ⟨w2.heap.size, 0, none⟩ 1 1 [.int .u8 ((c : Int) * 64 + 32 + (n : Int))] rfl rfl (news_one w2 _ _) (one_u8 _) (by simp only [maxLen]; omega) (by omega) (by simp; omega) ?_)
 intro v3 w3 hown3 hg3 _
 have HB3 := Hd ((HB2.out.alloc (by omega) _).grown hg3 (by simp; omega) (fun k hk => (HO2.out.lt k hk).1))
 have HO3 := Hd hown3
 clear hg3 hown3
 go_wp2
 go_ret
 refine ⟨_, rfl, ?_, HB3.out⟩
 unfold Own
 rw [tagB, if_pos (by omega), cellsB_app, List.length_append]
 have h := HO3.out
 rw [show (c : Int) * 64 + 32 + (n : Int) = ((headB (c : Int) true + (n : Int).toNat : Nat) : Int) from by simp [headB]] at h
 exact h
set_option maxRecDepth 4000 in
set_option maxHeartbeats 400000 in
theorem put_short_false (A : Option Addr) (cp : Nat) (l : List Nat) (c n : Nat) (w : World) (hs : Src w w.heap.size A cp l) (hl : l.length ≤ 1048000) (hc : c ≤ 3) (hn : n < 31) :
 Calls Tryz.prog 77 #[.slice A l.length cp, .agg #[.int .i64 (c : Int), .bool false, .int .i64 (n : Int)]] w fun e w' => ∃ v, e = .returned v ∧ Own w' w.heap.size v (l ++ tagB c false n) ∧ Below w.heap.size w w' := by
 have e2 : bits .or .u8 ((c : Int) * 64) (n : Int) = (c : Int) * 64 + (n : Int) := by have := or_low (c * 64) n 5 (by omega) (by omega) (by omega); simpa using this
 obtain ⟨i0, hi, hz0, hz1, hz2⟩ := info_parts info_u8
 go_enter Tryz.func77, Tryz.ntmps77
 go_wp2_with fail
 have hbt : Below w.heap.size w (w.alloc (.cells #[.int .i64 c, .bool false, .int .i64 n] 39)) := (Below.refl _ _).alloc (Nat.le_refl _) _
 refine (roomy_out A cp l _ ((hs.below hbt).more (by simp)) (by omega)).mono ?_
 rintro e w1 ⟨A1, c1, rfl, ho, hb⟩
 have hsz : w.heap.size < w1.heap.size := by have := hb.size; simp at this; omega
 have h0 : w1.cell? ⟨w.heap.size, 0, none⟩ = some (.int .i64 c) := (hb.cell (p := ⟨w.heap.size, 0, none⟩) (by simp)).trans (by simp)
 have h1 : w1.cell? ⟨w.heap.size, 1, none⟩ = some (.bool false) := (hb.cell (p := ⟨w.heap.size, 1, none⟩) (by simp)).trans (by simp)
 have h2 : w1.cell? ⟨w.heap.size, 2, none⟩ = some (.int .i64 n) := (hb.cell (p := ⟨w.heap.size, 2, none⟩) (by simp)).trans (by simp)
 have HO := Hd (ho.base_le (base' := w.heap.size) (by simp))
 have HB := Hd (hbt.trans (hb.mono (by simp)))
 have HP := Hd (fun k (hk : (Value.slice A1 l.length c1).ownBlock = some k) => (ho.lt k hk).1)
 clear ho hb hs hbt
 go_wp2_with fail
 refine (right_yes c n false _ (by omega) (by omega) (by omega) (by omega)).mono ?_
 rintro e w2 ⟨rfl, hb2⟩
 have hb2' : Below (w1.heap.size + 1) (w1.alloc (.cells #[.slice A1 l.length c1] 40)) w2 := by simpa using hb2
 have g0 : w2.cell? ⟨w.heap.size, 0, none⟩ = some (.int .i64 c) := (hb2'.cell (p := ⟨w.heap.size, 0, none⟩) (by simp; omega)).trans ((World.cell?_alloc_past _ _ _ hsz).trans h0)
 have g1 : w2.cell? ⟨w.heap.size, 1, none⟩ = some (.bool false) := (hb2'.cell (p := ⟨w.heap.size, 1, none⟩) (by simp; omega)).trans ((World.cell?_alloc_past _ _ _ hsz).trans h1)
 have g2 : w2.cell? ⟨w.heap.size, 2, none⟩ = some (.int .i64 n) := (hb2'.cell (p := ⟨w.heap.size, 2, none⟩) (by simp; omega)).trans ((World.cell?_alloc_past _ _ _ hsz).trans h2)
 have hv2 : w2.heap[w1.heap.size]? = some (.cells #[.slice A1 l.length c1] 40 (0, 0)) := (hb2'.block _ (by omega)).trans (heap_alloc_new w1 _)
 have g3 := cell_of_one hv2
 have g4 := free_of_one hv2
 have hsz2 : w1.heap.size < w2.heap.size := lt_of_block hv2
 have HO2 := Hd (Own.below HO.out (((Below.refl _ _).alloc (Nat.le_refl _) (.cells #[.slice A1 l.length c1] 40)).trans (hb2'.mono (by omega))) (Nat.le_refl _))
 have HB2 := Hd (HB.out.trans (((Below.refl _ _).alloc (by omega) (.cells #[.slice A1 l.length c1] 40)).trans (hb2'.mono (by omega))))
 have HV2 := Hd hv2
 clear hb2 hb2' hv2 HO HB h0 h1 h2
 go_wp2_with (at_builtin; refine wpList_append_own _ rfl (.tmp 24) (.tmp 30) 40 rfl w.heap.size 5 i0 (.int .u8 0) 1 1 Tryz.underlying40 hi hz0 hz1 hz2 rfl (by decide) (.slice A1 l.length c1) l.length (cellsB l) rfl (World.ownsRow.alloc HO2.out _) ⟨w2.heap.size, 0, none⟩ 1 1 [.int .u8 ((c : Int) * 64 + (n : Int))] rfl rfl (news_one w2 _ _) (one_u8 _) (by simp only [maxLen]; omega) (by omega) (by simp; omega) ?_)
 intro v3 w3 hown3 hg3 _
 have HB3 := Hd ((HB2.out.alloc (by omega) _).grown hg3 (by simp; omega) (fun k hk => (HO2.out.lt k hk).1))
 have HO3 := Hd hown3
 clear hg3 hown3
 go_wp2
 go_ret
 refine ⟨_, rfl, ?_, HB3.out⟩
 unfold Own
 rw [tagB, if_pos (by omega), cellsB_app, List.length_append]
 have h := HO3.out
 rw [show (c : Int) * 64 + (n : Int) = ((headB (c : Int) false + (n : Int).toNat : Nat) : Int) from by simp [headB]] at h
 exact h
set_option maxRecDepth 4000 in
set_option maxHeartbeats 400000 in
theorem put_long_true (A : Option Addr) (cp : Nat) (l : List Nat) (c n : Nat) (w : World) (hs : Src w w.heap.size A cp l) (hl : l.length ≤ 1048000) (hc : c ≤ 3) (hn : 31 ≤ n) (hn2 : n ≤ 268435455) :
 Calls Tryz.prog 77 #[.slice A l.length cp, .agg #[.int .i64 (c : Int), .bool true, .int .i64 (n : Int)]] w fun e w' => ∃ v, e = .returned v ∧ Own w' w.heap.size v (l ++ tagB c true n) ∧ Below w.heap.size w w' := by
 have e1 : bits .or .u8 ((c : Int) * 64) 32 = (c : Int) * 64 + 32 := by have := or_low (c * 64) 32 6 (by omega) (by omega) (by omega); simpa using this
 have e2 : bits .or .u8 ((c : Int) * 64 + 32) 31 = (c : Int) * 64 + 32 + 31 := by have := or_low (c * 64 + 32) 31 5 (by omega) (by omega) (by omega); simpa using this
 obtain ⟨i0, hi, hz0, hz1, hz2⟩ := info_parts info_u8
 go_enter Tryz.func77, Tryz.ntmps77
 go_wp2_with fail
 have hbt : Below w.heap.size w (w.alloc (.cells #[.int .i64 c, .bool true, .int .i64 n] 39)) := (Below.refl _ _).alloc (Nat.le_refl _) _
 refine (roomy_out A cp l _ ((hs.below hbt).more (by simp)) (by omega)).mono ?_
 rintro e w1 ⟨A1, c1, rfl, ho, hb⟩
 have hsz : w.heap.size < w1.heap.size := by have := hb.size; simp at this; omega
 have h0 : w1.cell? ⟨w.heap.size, 0, none⟩ = some (.int .i64 c) := (hb.cell (p := ⟨w.heap.size, 0, none⟩) (by simp)).trans (by simp)
 have h1 : w1.cell? ⟨w.heap.size, 1, none⟩ = some (.bool true) := (hb.cell (p := ⟨w.heap.size, 1, none⟩) (by simp)).trans (by simp)
 have h2 : w1.cell? ⟨w.heap.size, 2, none⟩ = some (.int .i64 n) := (hb.cell (p := ⟨w.heap.size, 2, none⟩) (by simp)).trans (by simp)
 have HO := Hd (ho.base_le (base' := w.heap.size) (by simp))
 have HB := Hd (hbt.trans (hb.mono (by simp)))
 have HP := Hd (fun k (hk : (Value.slice A1 l.length c1).ownBlock = some k) => (ho.lt k hk).1)
 clear ho hb hs hbt
 go_wp2_with fail
 refine (right_yes c n true _ (by omega) (by omega) (by omega) (by omega)).mono ?_
 rintro e w2 ⟨rfl, hb2⟩
 have hb2' : Below (w1.heap.size + 1) (w1.alloc (.cells #[.slice A1 l.length c1] 40)) w2 := by simpa using hb2
 have g0 : w2.cell? ⟨w.heap.size, 0, none⟩ = some (.int .i64 c) := (hb2'.cell (p := ⟨w.heap.size, 0, none⟩) (by simp; omega)).trans ((World.cell?_alloc_past _ _ _ hsz).trans h0)
 have g1 : w2.cell? ⟨w.heap.size, 1, none⟩ = some (.bool true) := (hb2'.cell (p := ⟨w.heap.size, 1, none⟩) (by simp; omega)).trans ((World.cell?_alloc_past _ _ _ hsz).trans h1)
 have g2 : w2.cell? ⟨w.heap.size, 2, none⟩ = some (.int .i64 n) := (hb2'.cell (p := ⟨w.heap.size, 2, none⟩) (by simp; omega)).trans ((World.cell?_alloc_past _ _ _ hsz).trans h2)
 have hv2 : w2.heap[w1.heap.size]? = some (.cells #[.slice A1 l.length c1] 40 (0, 0)) := (hb2'.block _ (by omega)).trans (heap_alloc_new w1 _)
 have g3 := cell_of_one hv2
 have g4 := free_of_one hv2
 have hsz2 : w1.heap.size < w2.heap.size := lt_of_block hv2
 have HO2 := Hd (Own.below HO.out (((Below.refl _ _).alloc (Nat.le_refl _) (.cells #[.slice A1 l.length c1] 40)).trans (hb2'.mono (by omega))) (Nat.le_refl _))
 have HB2 := Hd (HB.out.trans (((Below.refl _ _).alloc (by omega) (.cells #[.slice A1 l.length c1] 40)).trans (hb2'.mono (by omega))))
 have HV2 := Hd hv2
 clear hb2 hb2' hv2 HO HB h0 h1 h2
 go_wp2_with (at_builtin; refine wpList_append_lies _ rfl (.tmp 32) (.tmp 35) 40 rfl w.heap.size 5 i0 (.int .u8 0) 1 1 Tryz.underlying40 hi hz0 hz1 hz2 rfl (by decide) (.slice A1 l.length c1) l.length (cellsB l) rfl (World.ownsRow.alloc HO2.out _) ⟨w2.heap.size, 0, none⟩ 1 1 [.int .u8 ((c : Int) * 64 + 32 + 31)] rfl rfl (news_one w2 _ _) (one_u8 _) (by decide) (by simp only [maxLen]; omega) (by omega) (by simp; omega) _ rfl ?_)
 intro g cap w3 hown3 hg3 _ _
 rw [show (c : Int) * 64 + 32 + 31 = ((headB (c : Int) true + 31 : Nat) : Int) from by simp [headB]] at hown3 hg3
 have hb3 : w3.heap[w1.heap.size]? = some (.cells #[.slice A1 l.length c1] 40 (0, 0)) := by
  rw [hg3.block _ (by simp; omega) (own_ne HO2.out HV2.out), heap_alloc_old _ _ (by omega), HV2.out]
 have k2 : w3.cell? ⟨w.heap.size, 2, none⟩ = some (.int .i64 (n : Int)) := by
  rw [hg3.cell_far ⟨w.heap.size, 2, none⟩ (by simp; omega) (fun e => by have := HP.out _ e.symm; simp at this; omega), World.cell?_alloc_past _ _ _ (by omega)]
  exact g2
 have k3 := cell_of_one hb3
 have k4 := free_of_one hb3
 have R := Hd (Box.step HV2.out HO2.out (by omega) hown3 hg3)
 clear hb3 hown3 hg3 g3 g4
 go_wp2_with fail
 refine (eachTag_any n _ w.heap.size _ _ (by omega) (by omega) R.out.1 (by rw [List.length_append]; simp; omega)).mono ?_
 rintro e w4 ⟨rfl, hB4, hb4⟩
 obtain ⟨v4, hv4, ho4, _⟩ := hB4
 have hc4 := cell_of_one hv4
 have HO4 := Hd ho4
 have HB4 := Hd (HB2.out.trans (R.out.2.trans hb4))
 clear hv4 ho4 hb4
 go_wp2
 go_ret
 refine ⟨_, rfl, ?_, HB4.out⟩
 have := HO4.out
 rw [tagB, if_neg (by omega), Int.toNat_natCast]
 rwa [List.append_assoc] at this
set_option maxRecDepth 4000 in
set_option maxHeartbeats 400000 in
theorem put_long_false (A : Option Addr) (cp : Nat) (l : List Nat) (c n : Nat) (w : World) (hs : Src w w.heap.size A cp l) (hl : l.length ≤ 1048000) (hc : c ≤ 3) (hn : 31 ≤ n) (hn2 : n ≤ 268435455) :
 Calls Tryz.prog 77 #[.slice A l.length cp, .agg #[.int .i64 (c : Int), .bool false, .int .i64 (n : Int)]] w fun e w' => ∃ v, e = .returned v ∧ Own w' w.heap.size v (l ++ tagB c false n) ∧ Below w.heap.size w w' := by
 have e2 : bits .or .u8 ((c : Int) * 64) 31 = (c : Int) * 64 + 31 := by have := or_low (c * 64) 31 5 (by omega) (by omega) (by omega); simpa using this
 obtain ⟨i0, hi, hz0, hz1, hz2⟩ := info_parts info_u8
 go_enter Tryz.func77, Tryz.ntmps77
 go_wp2_with fail
 have hbt : Below w.heap.size w (w.alloc (.cells #[.int .i64 c, .bool false, .int .i64 n] 39)) := (Below.refl _ _).alloc (Nat.le_refl _) _
 refine (roomy_out A cp l _ ((hs.below hbt).more (by simp)) (by omega)).mono ?_
 rintro e w1 ⟨A1, c1, rfl, ho, hb⟩
 have hsz : w.heap.size < w1.heap.size := by have := hb.size; simp at this; omega
 have h0 : w1.cell? ⟨w.heap.size, 0, none⟩ = some (.int .i64 c) := (hb.cell (p := ⟨w.heap.size, 0, none⟩) (by simp)).trans (by simp)
 have h1 : w1.cell? ⟨w.heap.size, 1, none⟩ = some (.bool false) := (hb.cell (p := ⟨w.heap.size, 1, none⟩) (by simp)).trans (by simp)
 have h2 : w1.cell? ⟨w.heap.size, 2, none⟩ = some (.int .i64 n) := (hb.cell (p := ⟨w.heap.size, 2, none⟩) (by simp)).trans (by simp)
 have HO := Hd (ho.base_le (base' := w.heap.size) (by simp))
 have HB := Hd (hbt.trans (hb.mono (by simp)))
 have HP := Hd (fun k (hk : (Value.slice A1 l.length c1).ownBlock = some k) => (ho.lt k hk).1)
 clear ho hb hs hbt
 go_wp2_with fail
 refine (right_yes c n false _ (by omega) (by omega) (by omega) (by omega)).mono ?_
 rintro e w2 ⟨rfl, hb2⟩
 have hb2' : Below (w1.heap.size + 1) (w1.alloc (.cells #[.slice A1 l.length c1] 40)) w2 := by simpa using hb2
 have g0 : w2.cell? ⟨w.heap.size, 0, none⟩ = some (.int .i64 c) := (hb2'.cell (p := ⟨w.heap.size, 0, none⟩) (by simp; omega)).trans ((World.cell?_alloc_past _ _ _ hsz).trans h0)
 have g1 : w2.cell? ⟨w.heap.size, 1, none⟩ = some (.bool false) := (hb2'.cell (p := ⟨w.heap.size, 1, none⟩) (by simp; omega)).trans ((World.cell?_alloc_past _ _ _ hsz).trans h1)
 have g2 : w2.cell? ⟨w.heap.size, 2, none⟩ = some (.int .i64 n) := (hb2'.cell (p := ⟨w.heap.size, 2, none⟩) (by simp; omega)).trans ((World.cell?_alloc_past _ _ _ hsz).trans h2)
 have hv2 : w2.heap[w1.heap.size]? = some (.cells #[.slice A1 l.length c1] 40 (0, 0)) := (hb2'.block _ (by omega)).trans (heap_alloc_new w1 _)
 have g3 := cell_of_one hv2
 have g4 := free_of_one hv2
 have hsz2 : w1.heap.size < w2.heap.size := lt_of_block hv2
 have HO2 := Hd (Own.below HO.out (((Below.refl _ _).alloc (Nat.le_refl _) (.cells #[.slice A1 l.length c1] 40)).trans (hb2'.mono (by omega))) (Nat.le_refl _))
 have HB2 := Hd (HB.out.trans (((Below.refl _ _).alloc (by omega) (.cells #[.slice A1 l.length c1] 40)).trans (hb2'.mono (by omega))))
 have HV2 := Hd hv2
 clear hb2 hb2' hv2 HO HB h0 h1 h2
 go_wp2_with (at_builtin; refine wpList_append_lies _ rfl (.tmp 32) (.tmp 35) 40 rfl w.heap.size 5 i0 (.int .u8 0) 1 1 Tryz.underlying40 hi hz0 hz1 hz2 rfl (by decide) (.slice A1 l.length c1) l.length (cellsB l) rfl (World.ownsRow.alloc HO2.out _) ⟨w2.heap.size, 0, none⟩ 1 1 [.int .u8 ((c : Int) * 64 + 31)] rfl rfl (news_one w2 _ _) (one_u8 _) (by decide) (by simp only [maxLen]; omega) (by omega) (by simp; omega) _ rfl ?_)
 intro g cap w3 hown3 hg3 _ _
 rw [show (c : Int) * 64 + 31 = ((headB (c : Int) false + 31 : Nat) : Int) from by simp [headB]] at hown3 hg3
 have hb3 : w3.heap[w1.heap.size]? = some (.cells #[.slice A1 l.length c1] 40 (0, 0)) := by
  rw [hg3.block _ (by simp; omega) (own_ne HO2.out HV2.out), heap_alloc_old _ _ (by omega), HV2.out]
 have k2 : w3.cell? ⟨w.heap.size, 2, none⟩ = some (.int .i64 (n : Int)) := by
  rw [hg3.cell_far ⟨w.heap.size, 2, none⟩ (by simp; omega) (fun e => by have := HP.out _ e.symm; simp at this; omega), World.cell?_alloc_past _ _ _ (by omega)]
  exact g2
 have k3 := cell_of_one hb3
 have k4 := free_of_one hb3
 have R := Hd (Box.step HV2.out HO2.out (by omega) hown3 hg3)
 clear hb3 hown3 hg3 g3 g4
 go_wp2_with fail
 refine (eachTag_any n _ w.heap.size _ _ (by omega) (by omega) R.out.1 (by rw [List.length_append]; simp; omega)).mono ?_
 rintro e w4 ⟨rfl, hB4, hb4⟩
 obtain ⟨v4, hv4, ho4, _⟩ := hB4
 have hc4 := cell_of_one hv4
 have HO4 := Hd ho4
 have HB4 := Hd (HB2.out.trans (R.out.2.trans hb4))
 clear hv4 ho4 hb4
 go_wp2
 go_ret
 refine ⟨_, rfl, ?_, HB4.out⟩
 have := HO4.out
 rw [tagB, if_neg (by omega), Int.toNat_natCast]
 rwa [List.append_assoc] at this
theorem put_yes (A : Option Addr) (cp : Nat) (l : List Nat) (c n : Int) (m : Bool) (w : World) (hs : Src w w.heap.size A cp l) (hl : l.length ≤ 1048000) (hr : RightT c n) :
 Calls Tryz.prog 77 #[.slice A l.length cp, .agg #[.int .i64 c, .bool m, .int .i64 n]] w fun e w' => ∃ v, e = .returned v ∧ Own w' w.heap.size v (l ++ tagB c m n) ∧ Below w.heap.size w w' := by
 obtain ⟨h1, h2, h3, h4⟩ := hr
 obtain ⟨c', rfl⟩ := Int.eq_ofNat_of_zero_le h1
 obtain ⟨n', rfl⟩ := Int.eq_ofNat_of_zero_le h3
 by_cases hn : n' < 31
 · cases m
   · exact put_short_false A cp l c' n' w hs hl (by omega) hn
   · exact put_short_true A cp l c' n' w hs hl (by omega) hn
 · cases m
   · exact put_long_false A cp l c' n' w hs hl (by omega) (by omega) (by omega)
   · exact put_long_true A cp l c' n' w hs hl (by omega) (by omega) (by omega)
end Go.Proofs.YtcbiedonmibfaaaGreatDoor
namespace Go.Proofs.YtcbiedonmibfaaaGreatDoor
open Go.RowKit
theorem put_out (A : Option Addr) (cp : Nat) (l : List Nat) (c n : Int) (m : Bool) (w : World) (hs : Src w w.heap.size A cp l) (hl : l.length ≤ 1048000) (hr : RightT c n) :
 Calls Tryz.prog 77 #[.slice A l.length cp, .agg #[.int .i64 c, .bool m, .int .i64 n]] w fun e w' =>
  ∃ A' c', e = .returned (.slice A' (l ++ tagB c m n).length c') ∧ Own w' w.heap.size (.slice A' (l ++ tagB c m n).length c') (l ++ tagB c m n) ∧ Below w.heap.size w w' :=
 (put_yes A cp l c n m w hs hl hr).mono fun e w' ⟨v, he, ho, hb⟩ => by
   obtain ⟨A', c', rfl, _⟩ := ho.form
   exact ⟨A', c', he, ho, hb⟩
theorem putLen_out (A : Option Addr) (cp : Nat) (l : List Nat) (n : Int) (w : World) (hs : Src w w.heap.size A cp l) (hl : l.length ≤ 1048000) (hn : n ≤ 9223372036854775807) :
 Calls Tryz.prog 76 #[.slice A l.length cp, .int .i64 n] w fun e w' =>
  ∃ A' c', e = .returned (.slice A' (l ++ lenB n).length c') ∧ Own w' w.heap.size (.slice A' (l ++ lenB n).length c') (l ++ lenB n) ∧ Below w.heap.size w w' := by
 have h : Calls Tryz.prog 76 #[.slice A l.length cp, .int .i64 n] w fun e w' => ∃ v, e = .returned v ∧ Own w' w.heap.size v (l ++ lenB n) ∧ Below w.heap.size w w' := by
  by_cases h0 : n < 0
  · exact putLen_neg A cp l n w hs hl h0
  · obtain ⟨n', rfl⟩ := Int.eq_ofNat_of_zero_le (by omega : 0 ≤ n)
    by_cases h1 : n' < 128
    · exact putLen_short A cp l n' w hs hl h1
    · exact putLen_long A cp l n' w hs hl (by omega) (by omega)
 exact h.mono fun e w' ⟨v, he, ho, hb⟩ => by
  obtain ⟨A', c', rfl, _⟩ := ho.form
  exact ⟨A', c', he, ho, hb⟩
theorem put_nil (c n : Int) (m : Bool) (w : World) (hr : RightT c n) :
 Calls Tryz.prog 77 #[.slice none 0 0, .agg #[.int .i64 c, .bool m, .int .i64 n]] w fun e w' =>
  ∃ A' c', e = .returned (.slice A' (tagB c m n).length c') ∧ Own w' w.heap.size (.slice A' (tagB c m n).length c') (tagB c m n) ∧ Below w.heap.size w w' :=
 put_out none 0 [] c n m w (Src.none_ _ _) (by simp) hr
theorem tagB_len (c n : Int) (m : Bool) : (tagB c m n).length = if n < 31 then 1 else 1 + count 7 n.toNat := by
 unfold tagB
 split
 · rfl
 · rw [List.length_cons, row_len, Nat.add_comm]
theorem lenB_len (n : Int) : (lenB n).length = if n < 0 then 0 else if n < 128 then 1 else 1 + count 8 n.toNat := by
 unfold lenB
 split
 · rfl
 · split
   · rfl
   · rw [List.length_cons, row_len, Nat.add_comm]
theorem count_shift (wd n j : Nat) (hw : 0 < wd) (h0 : n ≠ 0) (h : n < 2 ^ 64) (hj : j ≤ count wd n) : (n / (2 ^ wd) ^ j = 0 ↔ j = count wd n) := by
 have hb : 1 < 2 ^ wd := Nat.one_lt_two_pow (by omega)
 constructor
 · intro h1
   rcases Nat.lt_or_ge j (count wd n) with hlt | hge
   · have hc := count_ge wd n hw h0 h
     have hp := Nat.pow_le_pow_right (n := 2 ^ wd) (by omega) (show j ≤ count wd n - 1 by omega)
     have := Nat.div_pos (Nat.le_trans hp hc) (Nat.pow_pos (by omega))
     omega
   · omega
 · rintro rfl
   exact Nat.div_eq_of_lt (count_lt wd n hw h0 h)
theorem shift_step (n b j : Nat) : n / b ^ j / b = n / b ^ (j + 1) := by rw [Nat.div_div_eq_div_mul, Nat.pow_succ]
end Go.Proofs.YtcbiedonmibfaaaGreatDoor
