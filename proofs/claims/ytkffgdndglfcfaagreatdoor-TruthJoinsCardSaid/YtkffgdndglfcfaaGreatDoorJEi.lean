/-
  The truth package's either.
-/
import Derived.Test.YtkffgdndglfcfaaGreatDoorJOut
import Derived.BigRegion
namespace Go.Proofs.YtkffgdndglfcfaaGreatDoor.J15
open Go.RowKit

theorem takeL {P : Program} {md : Region.Mode} {ops : Array Oper} {Q : Exit → Act → World → Prop} {S : World → Prop} (i d : Nat) {oi : Oper} {v : Value} {fuel : Nat} {listed : Array Bool} {l : List Value} {df : List Deferred} {w : World} (hi : ops[i]? = some oi) (hd : oi.dst = some d)
    (hs : Region.noSelect ops = true) (hf : Region.free md ops listed i = true) (hr : (Region.ready md ops listed).contains i = true)
    (hQ : ∀ c a w, Q (.panic c) (a.put oi.dst v) w → Q (.panic c) a w) (hy : YieldsIf P ops S oi v ⟨l.toArray, df⟩) (hS : S w)
    (h : wpAnyH P md ops Q S fuel (listed.setIfInBounds i true) ⟨(l.set d v).toArray, df⟩ w) : wpAnyH P md ops Q S (fuel + 1) listed ⟨l.toArray, df⟩ w := by
  refine wpAnyH_take hi hs hf hr hQ hy hS ?_
  rw [hd]
  unfold Act.put
  simpa using h
theorem cell_beside0 {w : World} {b c j j2 k : Nat} {v u u2 : Value} (h : w.cell? ⟨c, k, none⟩ = some v) (hn : b ≠ c) : ((w.setCell ⟨b, j, none⟩ u).setCell ⟨b, j2, none⟩ u2).cell? ⟨c, k, none⟩ = some v :=
  (World.cell?_of_block ((heap_setCell_other _ _ _ _ (fun e => hn e.symm)).trans (heap_setCell_other _ _ _ _ (fun e => hn e.symm)))).trans h
set_option maxRecDepth 8000 in
set_option maxHeartbeats 1600000 in
theorem either_any (x y : Out) (w : World) : Calls Tryz.prog 45 #[outV x, outV y] w fun en w' => en = .returned (outV (e3 x y)) ∧ Below w.heap.size w w' := by
  have T1 := fun W => turned_any x W
  have T2 := fun W => turned_any y W
  have TB := fun W => both_any (t3 x) (t3 y) W
  have T3 := fun W => turned_any (b3 (t3 x) (t3 y)) W
  unfold e3
  obtain ⟨xa, xb, hx⟩ := outV_form x
  obtain ⟨ya, yb, hy⟩ := outV_form y
  obtain ⟨ua, ub, hu⟩ := outV_form (t3 x)
  obtain ⟨va, vb, hv⟩ := outV_form (t3 y)
  obtain ⟨ca, cb, hc⟩ := outV_form (b3 (t3 x) (t3 y))
  obtain ⟨ra, rb, hr⟩ := outV_form (t3 (b3 (t3 x) (t3 y)))
  rw [hx, hu] at T1
  rw [hy, hv] at T2
  rw [hu, hv, hc] at TB
  rw [hc, hr] at T3
  rw [hx, hy, hr]
  clear hx hy hu hv hc hr
  obtain ⟨W1, hW1⟩ : ∃ W1, W1 = ((w.alloc (.cells #[.bool xa, .bool xb] 88)).alloc (.cells #[.bool ya, .bool yb] 88)).alloc (.cells #[.bool false, .bool false] 88) := ⟨_, rfl⟩
  have hB1 : Below w.heap.size w W1 := by rw [hW1]; exact (((Below.refl _ _).alloc (Nat.le_refl _) _).alloc (by simp) _).alloc (by simp; omega) _
  have hX1 : W1.heap[w.heap.size]? = some (.cells #[.bool xa, .bool xb] 88 (0, 0)) := by rw [hW1, Below.heap_alloc _ _ _ (by simp; omega), Below.heap_alloc _ _ _ (by simp)]; exact heap_alloc_new w _
  have hY1 : W1.heap[w.heap.size + 1]? = some (.cells #[.bool ya, .bool yb] 88 (0, 0)) := by rw [hW1, Below.heap_alloc _ _ _ (by simp)]; exact heap_alloc_new (w.alloc _) _ |> (by simpa using ·)
  have hR1 : W1.heap[w.heap.size + 2]? = some (.cells #[.bool false, .bool false] 88 (0, 0)) := by rw [hW1]; exact heap_alloc_new ((w.alloc _).alloc _) _ |> (by simpa using ·)
  have hz1 : W1.heap.size = w.heap.size + 3 := by rw [hW1]; simp
  have KEEP : Hid (∀ W, Below W1.heap.size W1 W → W.cell? ⟨w.heap.size, 0, none⟩ = some (.bool xa) ∧ W.cell? ⟨w.heap.size, 1, none⟩ = some (.bool xb) ∧ W.cell? ⟨w.heap.size + 1, 0, none⟩ = some (.bool ya) ∧ W.cell? ⟨w.heap.size + 1, 1, none⟩ = some (.bool yb)) := Lib.hid fun W h => by
    obtain ⟨x0, x1, _, _⟩ := cellsJ ((h.block _ (by omega)).trans hX1)
    obtain ⟨y0, y1, _, _⟩ := cellsJ ((h.block _ (by omega)).trans hY1)
    exact ⟨x0, x1, y0, y1⟩
  have FIN : Hid (∀ W, Below W1.heap.size W1 W → W.heap[w.heap.size + 2]? = some (.cells #[.bool false, .bool false] 88 (0, 0)) ∧ Below w.heap.size w W) := Lib.hid fun W h => ⟨(h.block _ (by omega)).trans hR1, hB1.trans (h.mono (by omega))⟩
  obtain ⟨p0, p1, q0, q1⟩ := KEEP.out W1 (Below.refl _ _)
  replace hB1 := Lib.hid hB1
  replace hX1 := Lib.hid hX1
  replace hY1 := Lib.hid hY1
  replace hR1 := Lib.hid hR1
  replace T1 := Lib.hid T1
  replace T2 := Lib.hid T2
  replace T3 := Lib.hid T3
  replace TB := Lib.hid TB
  go_enter Tryz.func45, Tryz.ntmps45
  go_wp2_with fail
  rw [← hW1]
  replace hW1 := Lib.hid hW1
  refine wp_region_held_drew (S := (fun W => W.cell? ⟨w.heap.size, 0, none⟩ = some (.bool xa) ∧ W.cell? ⟨w.heap.size, 1, none⟩ = some (.bool xb) ∧ W.cell? ⟨w.heap.size + 1, 0, none⟩ = some (.bool ya) ∧ W.cell? ⟨w.heap.size + 1, 1, none⟩ = some (.bool yb))) (by kernel_rfl) (KEEP.out _ (Below.refl _ _).drew) ?_
  intro hHeld
  refine takeL 0 5 (v := ?_) rfl rfl (by kernel_rfl) (by kernel_rfl) (by kernel_rfl) (fun _ _ _ h => h) (Or.inl ⟨by rfl, ?hy1⟩) hHeld ?rest1
  case hy1 => intro W hS; (try dsimp only at hS); go_simp; try (with_reducible rfl)
  dsimp only [List.set]
  refine takeL 2 7 (v := ?_) rfl rfl (by kernel_rfl) (by kernel_rfl) (by kernel_rfl) (fun _ _ _ h => h) (Or.inl ⟨by rfl, ?hy2⟩) hHeld ?rest2
  case hy2 => intro W hS; (try dsimp only at hS); go_simp; try (with_reducible rfl)
  dsimp only [List.set]
  refine wpAnyH_ready (rs := [1]) (by kernel_rfl) (by simp) ?_
  refine AllReadyH.cons rfl (fun K hK => ?_) (AllReadyH.nil)
  go_simp
  go_at_call 46
  refine (T1.out _).mono ?_
  rintro _ u1 ⟨rfl, hu1⟩
  have HB1 := Lib.hid (((Below.refl W1.heap.size W1).drew).trans (hu1.mono ((Below.refl W1.heap.size W1).drew).size))
  clear hu1
  dsimp only []
  refine hK.out _ _ (KEEP.out _ HB1.out) (fun hHeld2 => ?_)
  clear hK K hHeld
  have hHeld := hHeld2
  clear hHeld2
  refine wpAnyH_ready (rs := [3]) (by kernel_rfl) (by simp) ?_
  refine AllReadyH.cons rfl (fun K hK => ?_) (AllReadyH.nil)
  go_simp
  go_at_call 46
  refine (T2.out _).mono ?_
  rintro _ u2 ⟨rfl, hu2⟩
  have HB2 := Lib.hid ((HB1.out).trans (hu2.mono (HB1.out).size))
  clear hu2
  dsimp only []
  refine hK.out _ _ (KEEP.out _ HB2.out) (fun hHeld2 => ?_)
  clear hK K hHeld
  have hHeld := hHeld2
  clear hHeld2
  refine wpAnyH_ready (rs := [4]) (by kernel_rfl) (by simp) ?_
  refine AllReadyH.cons rfl (fun K hK => ?_) (AllReadyH.nil)
  go_simp
  go_at_call 42
  refine (TB.out _).mono ?_
  rintro _ u3 ⟨rfl, hu3⟩
  have HB3 := Lib.hid ((HB2.out).trans (hu3.mono (HB2.out).size))
  clear hu3
  dsimp only []
  refine hK.out _ _ (KEEP.out _ HB3.out) (fun hHeld2 => ?_)
  clear hK K hHeld
  have hHeld := hHeld2
  clear hHeld2
  refine wpAnyH_ready (rs := [5]) (by kernel_rfl) (by simp) ?_
  refine AllReadyH.cons rfl (fun K hK => ?_) (AllReadyH.nil)
  go_simp
  go_at_call 46
  refine (T3.out _).mono ?_
  rintro _ u4 ⟨rfl, hu4⟩
  have HB4 := Lib.hid ((HB3.out).trans (hu4.mono (HB3.out).size))
  clear hu4
  dsimp only []
  refine hK.out _ _ (KEEP.out _ HB4.out) (fun hHeld2 => ?_)
  clear hK K hHeld
  have hHeld := hHeld2
  clear hHeld2
  refine wpAnyH_ready (rs := [6]) (by kernel_rfl) (by simp) ?_
  refine AllReadyH.cons rfl (fun K hK => ?_) (AllReadyH.nil)
  obtain ⟨hR9, hB9⟩ := FIN.out _ HB4.out
  obtain ⟨r0, r1, f0, f1⟩ := cellsJ hR9
  obtain ⟨m0, m1, m2, m3⟩ := KEEP.out _ HB4.out
  replace hR9 := Lib.hid hR9
  replace hB9 := Lib.hid hB9
  go_simp
  clear r0 r1 f0 f1
  refine hK.out _ _ (⟨cell_beside0 m0 (by omega), cell_beside0 m1 (by omega), cell_beside0 m2 (by omega), cell_beside0 m3 (by omega)⟩) (fun hHeld2 => ?_)
  clear hK K hHeld
  have hHeld := hHeld2
  clear hHeld2
  refine wpAnyH_done (by kernel_rfl) ?_ _
  go_wp2_with fail
  have HC := Lib.hid (setO hR9.out (.bool ra) (.bool rb))
  have HL := Lib.hid ((hB9.out.setCell (p := ⟨(w.heap.size + 2), 0, none⟩) (by show w.heap.size ≤ (w.heap.size + 2); omega) (.bool ra)).setCell (p := ⟨(w.heap.size + 2), 1, none⟩) (by show w.heap.size ≤ (w.heap.size + 2); omega) (.bool rb))
  obtain ⟨W9, hW9⟩ : ∃ W9, W9 = (u4.setCell ⟨(w.heap.size + 2), 0, none⟩ (.bool ra)).setCell ⟨(w.heap.size + 2), 1, none⟩ (.bool rb) := ⟨_, rfl⟩
  rw [← hW9] at HC HL ⊢
  clear hW9
  have c0 := cell_of_row _ _ 0 _ _ _ HC.out
  have c1 := cell_of_row _ _ 1 _ _ _ HC.out
  exact bodyPost_ret (v := .agg #[(.bool ra), (.bool rb)]) (by simp [results, Tryz.results45, go_sem, c0, c1]) rfl ⟨rfl, HL.out⟩
end Go.Proofs.YtkffgdndglfcfaaGreatDoor.J15
