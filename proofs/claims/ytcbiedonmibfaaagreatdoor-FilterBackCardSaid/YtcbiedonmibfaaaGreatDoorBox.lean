/-
  A variable that holds a slice of the call's own (captured, so it lies in a block of one cell), and the two closures that append one byte to it.
-/
import Derived.Test.YtcbiedonmibfaaaGreatDoorWA
import Derived.Test.YtcbiedonmibfaaaGreatDoorNum
namespace Go.Proofs.YtcbiedonmibfaaaGreatDoor
open Go.RowKit
def Box (w : World) (Bo base : Nat) (l : List Nat) : Prop := ∃ v, w.heap[Bo]? = some (.cells #[v] 40 (0, 0)) ∧ Own w base v l ∧ base ≤ Bo
theorem own_ne {w : World} {base Bo : Nat} {v u : Value} {l : List Nat} (h : Own w base v l) (hb : w.heap[Bo]? = some (.cells #[u] 40 (0, 0))) : some Bo ≠ v.ownBlock := by
 intro he
 rcases h.2 with ⟨rfl, _⟩ | ⟨g, cap, cur, rfl, _, hg, _⟩
 · simp [Value.ownBlock] at he
 · have e : Bo = g := by simpa [Value.ownBlock] using he
   subst e
   rw [hb] at hg
   injection hg with hg
   injection hg with _ ht
   exact absurd ht (by decide)
theorem Box.step {w w1 : World} {Bo base g cap : Nat} {v : Value} {l : List Nat} {o : Obj} {x : Nat} (hb : w.heap[Bo]? = some (.cells #[v] 40 (0, 0))) (ho : Own w base v l) (hB : base ≤ Bo)
 (h1 : w1.ownsRow base 5 1 (.slice (some ⟨g, 0, none⟩) (l.length + 1) cap) (l.length + 1) (cellsB l ++ [.int .u8 (x : Int)])) (hg : (w.alloc o).grownBy w1 v.ownBlock) :
 Box (w1.setCell ⟨Bo, 0, none⟩ (.slice (some ⟨g, 0, none⟩) (l.length + 1) cap)) Bo base (l ++ [x]) ∧ Below base w (w1.setCell ⟨Bo, 0, none⟩ (.slice (some ⟨g, 0, none⟩) (l.length + 1) cap)) := by
 have hlt : Bo < w.heap.size := (Array.getElem?_eq_some_iff.1 hb).1
 have hb1 : w1.heap[Bo]? = some (.cells #[v] 40 (0, 0)) := by
  rw [hg.block Bo (by simp; omega) (own_ne ho hb), heap_alloc_old w o hlt, hb]
 have h2 : Own w1 base (.slice (some ⟨g, 0, none⟩) (l.length + 1) cap) (l ++ [x]) := by
  unfold Own
  rw [cellsB_app, List.length_append]
  exact h1
 have hne : (Value.slice (some ⟨g, 0, none⟩) (l.length + 1) cap).ownBlock ≠ some Bo := fun e => own_ne h2 hb1 e.symm
 have hsz : base ≤ w.heap.size := by omega
 have hbel : Below base w w1 := ((Below.refl _ _).alloc hsz o).grown hg (by simp; omega) (fun k hk => (ho.lt k hk).1)
 exact ⟨⟨_, one_setCell hb1, ownsRow_setCell_other h2 hne _, hB⟩, hbel.setCell hB _⟩
set_option maxHeartbeats 400000 in
theorem lenByte_any (x : Nat) (last : Bool) (Bo base : Nat) (l : List Nat) (w : World) (hB : Box w Bo base l) (hl : l.length ≤ 1048600) :
 Calls Tryz.prog 124 #[.int .u8 (x : Int), .bool last, .pointer (some ⟨Bo, 0, none⟩)] w fun e w' => e = .returned (.tuple #[]) ∧ Box w' Bo base (l ++ [same x last]) ∧ Below base w w' := by
 obtain ⟨v, hb, ho, hbase⟩ := hB
 have hlt : Bo < w.heap.size := (Array.getElem?_eq_some_iff.1 hb).1
 have hc := cell_of_one hb
 have hf := free_of_one hb
 obtain ⟨i0, hi, hz0, hz1, hz2⟩ := info_parts info_u8
 go_enter Tryz.func124, Tryz.ntmps124
 go_wp2_with (at_builtin; refine wpList_append_lies _ rfl _ _ 40 rfl base 5 i0 (.int .u8 0) 1 1 Tryz.underlying40 hi hz0 hz1 hz2 rfl (by decide) v l.length (cellsB l) rfl (World.ownsRow.alloc ho _) ⟨w.heap.size, 0, none⟩ 1 1 [.int .u8 (x : Int)] rfl rfl ?_ ?_ (by decide) (by simp only [maxLen]; omega) (by omega) (by simp; omega) _ rfl ?_)
 · intro j u hj
   match j, hj with
   | 0, hj => simp at hj; subst hj; simp [Addr.add]
 · intro u hu
   simp at hu
   subst hu
   rfl
 · intro g cap w1 hown1 hg1 _ _
   have hb1 : w1.heap[Bo]? = some (.cells #[v] 40 (0, 0)) := by
    rw [hg1.block Bo (by simp; omega) (own_ne ho hb), heap_alloc_old w _ hlt, hb]
   have hc1 := cell_of_one hb1
   have hf1 := free_of_one hb1
   have R := Box.step hb ho hbase hown1 hg1
   have HR := Hd R
   clear R hown1 hg1 hb1 hb ho hc hf
   go_wp2
   go_end0
   exact ⟨rfl, HR.out.1, HR.out.2⟩
set_option maxHeartbeats 400000 in
theorem tagByte_last (x : Nat) (Bo base : Nat) (l : List Nat) (w : World) (hB : Box w Bo base l) (hl : l.length ≤ 1048600) :
 Calls Tryz.prog 125 #[.int .u8 (x : Int), .bool true, .pointer (some ⟨Bo, 0, none⟩)] w fun e w' => e = .returned (.tuple #[]) ∧ Box w' Bo base (l ++ [more x true]) ∧ Below base w w' := by
 obtain ⟨v, hb, ho, hbase⟩ := hB
 have hlt : Bo < w.heap.size := (Array.getElem?_eq_some_iff.1 hb).1
 have hc := cell_of_one hb
 have hf := free_of_one hb
 obtain ⟨i0, hi, hz0, hz1, hz2⟩ := info_parts info_u8
 go_enter Tryz.func125, Tryz.ntmps125
 go_wp2_with (at_builtin; refine wpList_append_lies _ rfl _ _ 40 rfl base 5 i0 (.int .u8 0) 1 1 Tryz.underlying40 hi hz0 hz1 hz2 rfl (by decide) v l.length (cellsB l) rfl (World.ownsRow.alloc ho _) ⟨w.heap.size, 0, none⟩ 1 1 [.int .u8 (x : Int)] rfl rfl ?_ ?_ (by decide) (by simp only [maxLen]; omega) (by omega) (by simp; omega) _ rfl ?_)
 · intro j u hj
   match j, hj with
   | 0, hj => simp at hj; subst hj; simp [Addr.add]
 · intro u hu
   simp at hu
   subst hu
   rfl
 · intro g cap w1 hown1 hg1 _ _
   have hb1 : w1.heap[Bo]? = some (.cells #[v] 40 (0, 0)) := by
    rw [hg1.block Bo (by simp; omega) (own_ne ho hb), heap_alloc_old w _ hlt, hb]
   have hc1 := cell_of_one hb1
   have hf1 := free_of_one hb1
   have R := Box.step hb ho hbase hown1 hg1
   have HR := Hd R
   clear R hown1 hg1 hb1 hb ho hc hf
   go_wp2
   go_end0
   exact ⟨rfl, HR.out.1, HR.out.2⟩
set_option maxHeartbeats 400000 in
theorem tagByte_more (x : Nat) (Bo base : Nat) (l : List Nat) (w : World) (hx : x < 128) (hB : Box w Bo base l) (hl : l.length ≤ 1048600) :
 Calls Tryz.prog 125 #[.int .u8 (x : Int), .bool false, .pointer (some ⟨Bo, 0, none⟩)] w fun e w' => e = .returned (.tuple #[]) ∧ Box w' Bo base (l ++ [more x false]) ∧ Below base w w' := by
 obtain ⟨v, hb, ho, hbase⟩ := hB
 have hlt : Bo < w.heap.size := (Array.getElem?_eq_some_iff.1 hb).1
 have hc := cell_of_one hb
 have hf := free_of_one hb
 have hor : bits .or .u8 (x : Int) 128 = ((x + 128 : Nat) : Int) := by
  rw [show (128 : Int) = ((128 : Nat) : Int) from rfl, u8_or_nat x 128 (by omega) (by omega), Nat.or_comm, nat_join 7 128 x (by decide) (by omega), Nat.add_comm]
 obtain ⟨i0, hi, hz0, hz1, hz2⟩ := info_parts info_u8
 go_enter Tryz.func125, Tryz.ntmps125
 go_wp2_with (at_builtin; refine wpList_append_lies _ rfl _ _ 40 rfl base 5 i0 (.int .u8 0) 1 1 Tryz.underlying40 hi hz0 hz1 hz2 rfl (by decide) v l.length (cellsB l) rfl (World.ownsRow.alloc ho _) ⟨w.heap.size, 0, none⟩ 1 1 [.int .u8 ((x + 128 : Nat) : Int)] rfl rfl ?_ ?_ (by decide) (by simp only [maxLen]; omega) (by omega) (by simp; omega) _ rfl ?_)
 · intro j u hj
   match j, hj with
   | 0, hj => simp at hj; subst hj; simp [Addr.add]
 · intro u hu
   simp at hu
   subst hu
   rfl
 · intro g cap w1 hown1 hg1 _ _
   have hb1 : w1.heap[Bo]? = some (.cells #[v] 40 (0, 0)) := by
    rw [hg1.block Bo (by simp; omega) (own_ne ho hb), heap_alloc_old w _ hlt, hb]
   have hc1 := cell_of_one hb1
   have hf1 := free_of_one hb1
   have R := Box.step hb ho hbase hown1 hg1
   have HR := Hd R
   clear R hown1 hg1 hb1 hb ho hc hf
   go_wp2
   go_end0
   exact ⟨rfl, HR.out.1, HR.out.2⟩
end Go.Proofs.YtcbiedonmibfaaaGreatDoor
