/-
  tag.PutLen appends the bytes of a length.
-/
import Derived.Test.YtkffgdndglfcfaaGreatDoorGroups
import Derived.Test.YtkffgdndglfcfaaGreatDoorRoomy
import Derived.Deep.RegionLaw
namespace Go.Proofs.YtkffgdndglfcfaaGreatDoor
open Go.RowKit

/-- The bytes of the length n (none of a negative number). -/
def lenB (n : Int) : List Nat := if n < 0 then [] else if n < 128 then [n.toNat] else (128 + count 8 n.toNat) :: row same 256 n.toNat (count 8 n.toNat)

set_option maxHeartbeats 400000 in
theorem putLen_neg (A : Option Addr) (c : Nat) (l : List Nat) (n : Int) (w : World) (hs : Src w w.heap.size A c l) (hl : l.length ≤ 1048000) (hn : n < 0) :
    Calls Tryz.prog 68 #[.slice A l.length c, .int .i64 n] w fun e w' => ∃ v, e = .returned v ∧ Own w' w.heap.size v (l ++ lenB n) ∧ Below w.heap.size w w' := by
  go_enter Tryz.func68, Tryz.ntmps68
  go_wp2_with fail
  refine (roomy_out A c l w hs (by omega)).mono ?_
  rintro e w1 ⟨A1, c1, rfl, ho, hb⟩
  have HO := Lib.hid ho
  have HB := Lib.hid hb
  clear ho hb hs
  go_wp2
  go_ret
  refine ⟨_, rfl, ?_, HB.out.alloc HB.out.size _⟩
  rw [lenB, if_pos hn, List.append_nil]
  exact Own.below HO.out ((Below.refl _ _).alloc (Nat.le_refl _) _) (Nat.le_refl _)

set_option maxRecDepth 4000 in
set_option maxHeartbeats 400000 in
theorem putLen_short (A : Option Addr) (c : Nat) (l : List Nat) (n : Nat) (w : World) (hs : Src w w.heap.size A c l) (hl : l.length ≤ 1048000) (hn : n < 128) :
    Calls Tryz.prog 68 #[.slice A l.length c, .int .i64 (n : Int)] w fun e w' => ∃ v, e = .returned v ∧ Own w' w.heap.size v (l ++ lenB n) ∧ Below w.heap.size w w' := by
  obtain ⟨i0, hi, hz0, hz1, hz2⟩ := info_parts info_u8
  go_enter Tryz.func68, Tryz.ntmps68
  go_wp2_with fail
  refine (roomy_out A c l w hs (by omega)).mono ?_
  rintro e w1 ⟨A1, c1, rfl, ho, hb⟩
  have HO := Lib.hid ho
  have HB := Lib.hid hb
  have hsz := hb.size
  clear ho hb hs
  go_wp2_with (at_builtin; refine wpList_append_own _ rfl _ _ 40 rfl w.heap.size 5 i0 (.int .u8 0) 1 1 Tryz.underlying40 hi hz0 hz1 hz2 rfl (by decide) _ l.length (cellsB l) rfl (World.ownsRow.alloc (World.ownsRow.alloc HO.out _) _) ⟨w1.heap.size + 1, 0, none⟩ 1 1 [.int .u8 (n : Int)] rfl rfl ?_ ?_ (by simp only [maxLen]; omega) (by omega) (by simp; omega) ?_)
  · simpa using news_one (w1.alloc (.cells #[.slice A1 l.length c1] 40)) (.int .u8 (n : Int)) 5
  · exact one_u8 _
  · intro v2 w2 hown2 hg2 _
    have hb2 : Below w.heap.size w w2 := ((HB.out.alloc HB.out.size _).alloc (by simp; omega) _).grown hg2 (by simp; omega) (fun k hk => (HO.out.lt k hk).1)
    have HB2 := Lib.hid hb2
    have HO2 := Lib.hid hown2
    clear hb2 hg2 hown2
    go_wp2
    go_ret
    refine ⟨_, rfl, ?_, HB2.out⟩
    rw [lenB, if_neg (by omega), if_pos (by omega)]
    unfold Own
    rw [cellsB_app, List.length_append]
    exact HO2.out

theorem box_far {w1 w3 : World} {base : Nat} {v : Value} {l : List Nat} {o : Obj} (ho : Own w1 base v l) (hg : (((w1.alloc (.cells #[v] 40)).alloc o).drew).grownBy w3 v.ownBlock) :
    w3.heap[w1.heap.size]? = some (.cells #[v] 40 (0, 0)) := by
  have h1 : (((w1.alloc (.cells #[v] 40)).alloc o).drew).heap[w1.heap.size]? = some (.cells #[v] 40 (0, 0)) := by
    show ((w1.alloc (.cells #[v] 40)).alloc o).heap[w1.heap.size]? = _
    rw [heap_alloc_old _ _ (by simp), heap_alloc_new]
  rw [hg.block _ (by simp; omega) (fun e => by have := ho.lt _ e.symm; omega), h1]

theorem box_laid {w1 w3 : World} {base g cap : Nat} {v : Value} {l : List Nat} {o : Obj} {x : Nat} (ho : Own w1 base v l) (hb : base ≤ w1.heap.size)
    (h1 : w3.ownsRow base 5 1 (.slice (some ⟨g, 0, none⟩) (l.length + 1) cap) (l.length + 1) (cellsB l ++ [.int .u8 (x : Int)]))
    (hg : (((w1.alloc (.cells #[v] 40)).alloc o).drew).grownBy w3 v.ownBlock) :
    Box (w3.setCell ⟨w1.heap.size, 0, none⟩ (.slice (some ⟨g, 0, none⟩) (l.length + 1) cap)) w1.heap.size base (l ++ [x]) ∧
      Below base w1 (w3.setCell ⟨w1.heap.size, 0, none⟩ (.slice (some ⟨g, 0, none⟩) (l.length + 1) cap)) := by
  have R := Box.step (w := w1.alloc (.cells #[v] 40)) (heap_alloc_new w1 _) (World.ownsRow.alloc ho _) hb h1 (o := o) ⟨hg.os, hg.tape, hg.output, hg.size, hg.block⟩
  exact ⟨R.1, ((Below.refl _ _).alloc hb _).trans R.2⟩

set_option maxRecDepth 4000 in
set_option maxHeartbeats 400000 in
theorem putLen_long (A : Option Addr) (c : Nat) (l : List Nat) (n : Nat) (w : World) (hs : Src w w.heap.size A c l) (hl : l.length ≤ 1048000) (hn : 128 ≤ n) (hn2 : n ≤ 9223372036854775807) :
    Calls Tryz.prog 68 #[.slice A l.length c, .int .i64 (n : Int)] w fun e w' => ∃ v, e = .returned v ∧ Own w' w.heap.size v (l ++ lenB n) ∧ Below w.heap.size w w' := by
  obtain ⟨i0, hi, hz0, hz1, hz2⟩ := info_parts info_u8
  have hG : count 8 n ≤ 8 := by
    have := Lib.bitLen_le n 64 (by omega) (by omega)
    unfold count; omega
  obtain ⟨G, hGe⟩ : ∃ G, G = count 8 n := ⟨_, rfl⟩
  rw [← hGe] at hG
  have HG := Lib.hid hGe
  clear hGe
  go_enter Tryz.func68, Tryz.ntmps68
  go_wp2_with fail
  refine (roomy_out A c l w hs (by omega)).mono ?_
  rintro e w1 ⟨A1, c1, rfl, ho, hb⟩
  have HO := Lib.hid ho
  have HB := Lib.hid hb
  have hsz := hb.size
  clear ho hb hs
  have hw1 : IntKind.u8.wrap (G : Int) = (G : Int) := IntWalk.u8_in _ (by omega)
  have hw2 : IntKind.u8.wrap (128 + (G : Int)) = 128 + (G : Int) := IntWalk.u8_in _ (by omega)
  go_wp2_with fail
  go_region_law (first
    | (go_simp; go_at_call 94; refine (groups_any n 8 _ (by omega) (by omega) (by omega)).mono ?_; rintro e w' ⟨rfl, rfl⟩; rw [← HG.out])
    | (refine step_append_lies _ rfl (.tmp 18) (.tmp 23) 40 rfl w.heap.size 5 i0 (.int .u8 0) 1 1 Tryz.underlying40 hi hz0 hz1 hz2 rfl (by decide) (.slice A1 l.length c1) l.length (cellsB l) rfl (World.ownsRow.drew (World.ownsRow.alloc (World.ownsRow.alloc HO.out _) _)) ⟨w1.heap.size + 1, 0, none⟩ 1 1 [.int .u8 (128 + (G : Int))] rfl rfl (by simpa using news_one (w1.alloc (.cells #[.slice A1 l.length c1] 40)) (.int .u8 (128 + (G : Int))) 5) (one_u8 _) (by decide) (by simp only [maxLen]; omega) (by omega) (by simp; omega) _ rfl ?_; intro g cap w3 hown3 hg3 _ _; have hb3 : w3.heap[w1.heap.size]? = some (.cells #[.slice A1 l.length c1] 40 (0, 0)) := (box_far HO.out hg3); have hc3 := cell_of_one hb3; have hf3 := free_of_one hb3; have R := Lib.hid (box_laid HO.out hsz (x := 128 + G) hown3 hg3); clear hb3 hown3 hg3))
  all_goals
    go_wp2_with fail
    refine (eachLen_any n _ w.heap.size _ _ (by omega) hn2 R.out.1 (by rw [List.length_append]; simp; omega)).mono ?_
    rintro e w4 ⟨rfl, hB4, hb4⟩
    obtain ⟨v4, hv4, ho4, _⟩ := hB4
    have hc4 := cell_of_one hv4
    have HO4 := Lib.hid ho4
    have HB4 := Lib.hid (HB.out.trans (R.out.2.trans hb4))
    clear hv4 ho4 hb4
    go_wp2
    go_ret
    refine ⟨_, rfl, ?_, HB4.out⟩
    have := HO4.out
    rw [lenB, if_neg (by omega), if_neg (by omega), Int.toNat_natCast, ← HG.out]
    rwa [← HG.out, List.append_assoc] at this
end Go.Proofs.YtkffgdndglfcfaaGreatDoor
