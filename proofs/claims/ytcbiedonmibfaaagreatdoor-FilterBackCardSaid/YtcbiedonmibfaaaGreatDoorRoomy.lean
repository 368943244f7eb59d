/-
  tag.roomy returns a slice of its own with the bytes that it was given.
-/
import Derived.Test.YtcbiedonmibfaaaGreatDoorWA
namespace Go.Proofs.YtcbiedonmibfaaaGreatDoor
open Go.RowKit
set_option maxHeartbeats 400000 in
theorem roomy_any (A : Option Addr) (c : Nat) (l : List Nat) (w : World) (hs : Src w w.heap.size A c l) (hn : l.length ≤ 1048576) :
 Calls Tryz.prog 121 #[.slice A l.length c] w fun e w' => ∃ v, e = .returned v ∧ Own w' w.heap.size v l ∧ Below w.heap.size w w' := by
 obtain ⟨i0, hi, hz0, hz1, hz2⟩ := info_parts info_u8
 go_enter Tryz.func121, Tryz.ntmps121
 go_wp2_with (first
  | (at_make; refine wpList_make_own _ rfl _ _ 40 rfl w.heap.size 5 i0 _ 1 Tryz.underlying40 hi hz0 hz1 .i64 .i64 ((l.length : Int) + 9) (l.length + 9) rfl rfl (by omega) (by rw [hz2]; omega) (by simp only [maxLen]; omega) (Nat.le_refl _) ?_; intro w1 hown1 hg1)
  | (at_builtin; refine wpList_append_fits_any _ rfl _ _ 40 rfl w.heap.size 5 i0 1 Tryz.underlying40 hi hz1 w.heap.size 0 (l.length + 9) [] rfl hown1 A l.length c (cellsB l) rfl ?_ ?_ ?_ (cellsB_one l) (by omega) ?_))
 · rw [cellsB_len, Nat.mul_one]
 · intro h
   have := hs.nil h
   have := hs.le
   omega
 · intro ad e j u hu
   obtain ⟨n, h1, rfl⟩ := cellsB_get hu
   have hk : ∀ p : Addr, p.block < w.heap.size → w1.cell? p = w.cell? p := fun p hp => World.cell?_of_block (hg1.block p.block hp (by simp))
   exact (hs.keep hk).at_ ad e |>.2 j n h1
 · intro w2 hown2 hg2
   have hb1 : Below w.heap.size w w1 := (Below.refl _ _).grown hg1 (Nat.le_refl _) (by simp)
   have hb2 : Below w.heap.size w w2 := hb1.grown hg2 hb1.size (by intro k hk; injection hk; omega)
   clear hs hg1 hg2 hown1
   go_wp2
   go_ret
   exact ⟨_, rfl, hown2, hb2⟩
theorem roomy_out (A : Option Addr) (c : Nat) (l : List Nat) (w : World) (hs : Src w w.heap.size A c l) (hn : l.length ≤ 1048576) :
 Calls Tryz.prog 121 #[.slice A l.length c] w fun e w' => ∃ A' c', e = .returned (.slice A' l.length c') ∧ Own w' w.heap.size (.slice A' l.length c') l ∧ Below w.heap.size w w' :=
 (roomy_any A c l w hs hn).mono fun e w' ⟨v, he, ho, hb⟩ => by
   obtain ⟨A', c', rfl, _⟩ := ho.form
   exact ⟨A', c', he, ho, hb⟩
end Go.Proofs.YtcbiedonmibfaaaGreatDoor
