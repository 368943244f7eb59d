/-
  The law's own filter has no value.
-/
import Derived.Test.YtkffgdndglfcfaaGreatDoorJAttr
import Derived.Test.YtkffgdndglfcfaaGreatDoorJEi
namespace Go.Proofs.YtkffgdndglfcfaaGreatDoor.J15
open Go.RowKit Go.Proofs.YtkffgdndglfcfaaGreatDoor.O7

set_option maxRecDepth 8000 in
set_option maxHeartbeats 800000 in
theorem evalX_any (Ak Ab : Option Addr) (ck cb g o : Nat) (w : World) (HT : TabA w g o) :
    Calls Tryz.prog 74 #[.agg #[.slice none 0 0, .slice none 0 0], .agg #[.int .i64 3, .slice Ak 0 ck, .string ⟨#[120]⟩, .string ⟨#[49]⟩, .string ⟨#[]⟩, .string ⟨#[]⟩, .slice Ab 0 cb]] w fun en w' => en = .returned (.agg #[.bool false, .bool false]) ∧ Below w.heap.size w w' := by
  obtain ⟨W1, hW1⟩ : ∃ W1, W1 = ((w.alloc (.cells #[.slice none 0 0, .slice none 0 0] 128)).alloc (.cells #[.int .i64 3, .slice Ak 0 ck, .string ⟨#[120]⟩, .string ⟨#[49]⟩, .string ⟨#[]⟩, .string ⟨#[]⟩, .slice Ab 0 cb] 25)).alloc (.cells #[.bool false, .bool false] 88) := ⟨_, rfl⟩
  have hB1 : Below w.heap.size w W1 := by rw [hW1]; exact (((Below.refl _ _).alloc (Nat.le_refl _) _).alloc (by simp) _).alloc (by simp; omega) _
  have hF1 : W1.heap[w.heap.size + 1]? = some (.cells #[.int .i64 3, .slice Ak 0 ck, .string ⟨#[120]⟩, .string ⟨#[49]⟩, .string ⟨#[]⟩, .string ⟨#[]⟩, .slice Ab 0 cb] 25 (0, 0)) := by rw [hW1, Below.heap_alloc _ _ _ (by simp)]; exact heap_alloc_new (w.alloc _) _ |> (by simpa using ·)
  have hR1 : W1.heap[w.heap.size + 2]? = some (.cells #[.bool false, .bool false] 88 (0, 0)) := by rw [hW1]; exact heap_alloc_new ((w.alloc _).alloc _) _ |> (by simpa using ·)
  have hz1 : W1.heap.size = w.heap.size + 3 := by rw [hW1]; simp
  have CA := attr_any Ak Ab ck cb g o W1 (HT.below hB1)
  obtain ⟨x0, x1, x2, x3, x4, x5, x6⟩ := cells7J hF1
  replace hB1 := Lib.hid hB1
  replace hF1 := Lib.hid hF1
  replace hR1 := Lib.hid hR1
  replace CA := Lib.hid CA
  go_enter Tryz.func74, Tryz.ntmps74
  go_wp2_with fail
  rw [← hW1]
  replace hW1 := Lib.hid hW1
  try go_wp2_with fail
  refine CA.out.mono ?_
  rintro _ w2 ⟨rfl, hb2⟩
  have hR2 := (hb2.block _ (by omega)).trans hR1.out
  have hB2 := hB1.out.trans (hb2.mono (by omega))
  have hz2 := hb2.size
  obtain ⟨W3, hW3⟩ : ∃ W3, W3 = w2.alloc (.cells #[.string ⟨#[]⟩, .string ⟨#[]⟩, .string ⟨#[]⟩, .int .i64 0, .bool false] 158) := ⟨_, rfl⟩
  have hB3 : Below w.heap.size w W3 := by rw [hW3]; exact hB2.alloc (by omega) _
  have hR3 : W3.heap[w.heap.size + 2]? = some (.cells #[.bool false, .bool false] 88 (0, 0)) := by rw [hW3, Below.heap_alloc _ _ _ (by omega)]; exact hR2
  obtain ⟨r0, r1, f0, f1⟩ := cellsJ hR3
  rw [hW3] at r0 r1 f0 f1
  clear x0 x1 x2 x3 x4 x5 x6
  replace hW3 := Lib.hid hW3
  replace hR3 := Lib.hid hR3
  replace hB3 := Lib.hid hB3
  replace hR2 := Lib.hid hR2
  replace hB2 := Lib.hid hB2
  replace hb2 := Lib.hid hb2
  dsimp only []
  go_wp2_with fail
  rw [← hW3.out]
  clear r0 r1 f0 f1
  have HC := Lib.hid (setO hR3.out (.bool false) (.bool false))
  have HL := Lib.hid ((hB3.out.setCell (p := ⟨(w.heap.size + 2), 0, none⟩) (by show w.heap.size ≤ (w.heap.size + 2); omega) (.bool false)).setCell (p := ⟨(w.heap.size + 2), 1, none⟩) (by show w.heap.size ≤ (w.heap.size + 2); omega) (.bool false))
  obtain ⟨W9, hW9⟩ : ∃ W9, W9 = (W3.setCell ⟨(w.heap.size + 2), 0, none⟩ (.bool false)).setCell ⟨(w.heap.size + 2), 1, none⟩ (.bool false) := ⟨_, rfl⟩
  rw [← hW9] at HC HL ⊢
  clear hW9
  have c0 := cell_of_row _ _ 0 _ _ _ HC.out
  have c1 := cell_of_row _ _ 1 _ _ _ HC.out
  exact bodyPost_ret (v := .agg #[(.bool false), (.bool false)]) (by simp [results, Tryz.results74, go_sem, c0, c1]) rfl ⟨rfl, HL.out⟩
theorem cell_besideJ {w : World} {b c j j2 k : Nat} {v u u2 : Value} (h : w.cell? ⟨c, k, none⟩ = some v) (hn : b ≠ c) : ((w.setCell ⟨b, j, none⟩ u).setCell ⟨b, j2, none⟩ u2).cell? ⟨c, k, none⟩ = some v :=
  (World.cell?_of_block ((heap_setCell_other _ _ _ _ (fun e => hn e.symm)).trans (heap_setCell_other _ _ _ _ (fun e => hn e.symm)))).trans h
set_option maxRecDepth 8000 in
set_option maxHeartbeats 1600000 in
theorem evalJ_any (bl off kc : Nat) (Ak Ab Ab1 : Option Addr) (ck cb cb1 g o : Nat) (w : World) (HT : TabA w g o) (hbl : bl < w.heap.size) (k0 : w.cell? ⟨bl, off, none⟩ = some (.int .i64 3)) (k1 : w.cell? ⟨bl, off + 1, none⟩ = some (.slice Ak 0 ck)) (k2 : w.cell? ⟨bl, off + 2, none⟩ = some (.string ⟨#[120]⟩)) (k3 : w.cell? ⟨bl, off + 3, none⟩ = some (.string ⟨#[49]⟩)) (k4 : w.cell? ⟨bl, off + 4, none⟩ = some (.string ⟨#[]⟩)) (k5 : w.cell? ⟨bl, off + 5, none⟩ = some (.string ⟨#[]⟩)) (k6 : w.cell? ⟨bl, off + 6, none⟩ = some (.slice Ab 0 cb)) :
    Calls Tryz.prog 74 #[.agg #[.slice none 0 0, .slice none 0 0], .agg #[.int .i64 2, .slice (some ⟨bl, off, none⟩) 1 kc, .string ⟨#[]⟩, .string ⟨#[]⟩, .string ⟨#[]⟩, .string ⟨#[]⟩, .slice Ab1 0 cb1]] w fun en w' => en = .returned (.agg #[.bool false, .bool false]) ∧ Below w.heap.size w w' := by
  obtain ⟨W1, hW1⟩ : ∃ W1, W1 = ((w.alloc (.cells #[.slice none 0 0, .slice none 0 0] 128)).alloc (.cells #[.int .i64 2, .slice (some ⟨bl, off, none⟩) 1 kc, .string ⟨#[]⟩, .string ⟨#[]⟩, .string ⟨#[]⟩, .string ⟨#[]⟩, .slice Ab1 0 cb1] 25)).alloc (.cells #[.bool false, .bool false] 88) := ⟨_, rfl⟩
  have hB1 : Below w.heap.size w W1 := by rw [hW1]; exact (((Below.refl _ _).alloc (Nat.le_refl _) _).alloc (by simp) _).alloc (by simp; omega) _
  have hS1 : W1.heap[w.heap.size]? = some (.cells #[.slice none 0 0, .slice none 0 0] 128 (0, 0)) := by rw [hW1, Below.heap_alloc _ _ _ (by simp; omega), Below.heap_alloc _ _ _ (by simp)]; exact heap_alloc_new w _
  have hF1 : W1.heap[w.heap.size + 1]? = some (.cells #[.int .i64 2, .slice (some ⟨bl, off, none⟩) 1 kc, .string ⟨#[]⟩, .string ⟨#[]⟩, .string ⟨#[]⟩, .string ⟨#[]⟩, .slice Ab1 0 cb1] 25 (0, 0)) := by rw [hW1, Below.heap_alloc _ _ _ (by simp)]; exact heap_alloc_new (w.alloc _) _ |> (by simpa using ·)
  have hR1 : W1.heap[w.heap.size + 2]? = some (.cells #[.bool false, .bool false] 88 (0, 0)) := by rw [hW1]; exact heap_alloc_new ((w.alloc _).alloc _) _ |> (by simpa using ·)
  have hz1 : W1.heap.size = w.heap.size + 3 := by rw [hW1]; simp
  have CE := fun W (hW : Below W1.heap.size W1 W) => evalX_any Ak Ab ck cb g o W (HT.below (hB1.trans (hW.mono (by omega))))
  have CT := fun W => turned_any none W
  rw [show outV (t3 none) = .agg #[.bool false, .bool false] from rfl, show outV none = .agg #[.bool false, .bool false] from rfl] at CT
  have KEEP : Hid (∀ W, Below W1.heap.size W1 W → W.cell? ⟨w.heap.size, 0, none⟩ = some (.slice none 0 0) ∧ W.cell? ⟨w.heap.size, 1, none⟩ = some (.slice none 0 0) ∧ W.cell? ⟨w.heap.size + 1, 1, none⟩ = some (.slice (some ⟨bl, off, none⟩) 1 kc) ∧ W.cell? ⟨bl, off, none⟩ = some (.int .i64 3) ∧ W.cell? ⟨bl, off + 1, none⟩ = some (.slice Ak 0 ck) ∧ W.cell? ⟨bl, off + 2, none⟩ = some (.string ⟨#[120]⟩) ∧ W.cell? ⟨bl, off + 3, none⟩ = some (.string ⟨#[49]⟩) ∧ W.cell? ⟨bl, off + 4, none⟩ = some (.string ⟨#[]⟩) ∧ W.cell? ⟨bl, off + 5, none⟩ = some (.string ⟨#[]⟩) ∧ W.cell? ⟨bl, off + 6, none⟩ = some (.slice Ab 0 cb)) := Lib.hid fun W h => by
    obtain ⟨s0, s1, _, _⟩ := cellsJ ((h.block _ (by omega)).trans hS1)
    obtain ⟨_, x1, _, _, _, _, _⟩ := cells7J ((h.block _ (by omega)).trans hF1)
    have kk : ∀ j, W.cell? ⟨bl, j, none⟩ = w.cell? ⟨bl, j, none⟩ := fun j => (hB1.trans (h.mono (by omega))).cell (p := ⟨bl, j, none⟩) hbl
    exact ⟨s0, s1, x1, (kk _).trans k0, (kk _).trans k1, (kk _).trans k2, (kk _).trans k3, (kk _).trans k4, (kk _).trans k5, (kk _).trans k6⟩
  have FIN : Hid (∀ W, Below W1.heap.size W1 W → W.heap[w.heap.size + 2]? = some (.cells #[.bool false, .bool false] 88 (0, 0)) ∧ Below w.heap.size w W) := Lib.hid fun W h => ⟨(h.block _ (by omega)).trans hR1, hB1.trans (h.mono (by omega))⟩
  obtain ⟨x0, x1, _, _, _, _, _⟩ := cells7J hF1
  replace hB1 := Lib.hid hB1
  replace hS1 := Lib.hid hS1
  replace hF1 := Lib.hid hF1
  replace hR1 := Lib.hid hR1
  replace CE := Lib.hid CE
  replace CT := Lib.hid CT
  clear k0 k1 k2 k3 k4 k5 k6
  go_enter Tryz.func74, Tryz.ntmps74
  go_wp2_with fail
  rw [← hW1]
  replace hW1 := Lib.hid hW1
  try go_wp2_with fail
  refine wp_region_held_drew (S := (fun W => W.cell? ⟨w.heap.size, 0, none⟩ = some (.slice none 0 0) ∧ W.cell? ⟨w.heap.size, 1, none⟩ = some (.slice none 0 0) ∧ W.cell? ⟨w.heap.size + 1, 1, none⟩ = some (.slice (some ⟨bl, off, none⟩) 1 kc) ∧ W.cell? ⟨bl, off, none⟩ = some (.int .i64 3) ∧ W.cell? ⟨bl, off + 1, none⟩ = some (.slice Ak 0 ck) ∧ W.cell? ⟨bl, off + 2, none⟩ = some (.string ⟨#[120]⟩) ∧ W.cell? ⟨bl, off + 3, none⟩ = some (.string ⟨#[49]⟩) ∧ W.cell? ⟨bl, off + 4, none⟩ = some (.string ⟨#[]⟩) ∧ W.cell? ⟨bl, off + 5, none⟩ = some (.string ⟨#[]⟩) ∧ W.cell? ⟨bl, off + 6, none⟩ = some (.slice Ab 0 cb))) (by kernel_rfl) (KEEP.out _ (Below.refl _ _).drew) ?_
  intro hHeld
  refine takeL 0 28 (v := ?_) rfl rfl (by kernel_rfl) (by kernel_rfl) (by kernel_rfl) (fun _ _ _ h => h) (Or.inl ⟨by rfl, ?hy1⟩) hHeld ?rest1
  case hy1 => intro W hS; (try dsimp only at hS); go_simp; try (with_reducible rfl)
  dsimp only [List.set]
  refine takeL 1 29 (v := ?_) rfl rfl (by kernel_rfl) (by kernel_rfl) (by kernel_rfl) (fun _ _ _ h => h) (Or.inl ⟨by rfl, ?hy2⟩) hHeld ?rest2
  case hy2 => intro W hS; (try dsimp only at hS); go_simp; try (with_reducible rfl)
  dsimp only [List.set]
  refine takeL 2 30 (v := ?_) rfl rfl (by kernel_rfl) (by kernel_rfl) (by kernel_rfl) (fun _ _ _ h => h) (Or.inl ⟨by rfl, ?hy3⟩) hHeld ?rest3
  case hy3 => intro W hS; (try dsimp only at hS); go_simp; try (with_reducible rfl)
  dsimp only [List.set]
  refine takeL 3 31 (v := ?_) rfl rfl (by kernel_rfl) (by kernel_rfl) (by kernel_rfl) (fun _ _ _ h => h) (Or.inl ⟨by rfl, ?hy4⟩) hHeld ?rest4
  case hy4 => intro W hS; (try dsimp only at hS); go_simp; try (with_reducible rfl)
  dsimp only [List.set]
  refine takeL 4 32 (v := ?_) rfl rfl (by kernel_rfl) (by kernel_rfl) (by kernel_rfl) (fun _ _ _ h => h) (Or.inl ⟨by rfl, ?hy5⟩) hHeld ?rest5
  case hy5 => intro W hS; (try dsimp only at hS); go_simp; try (with_reducible rfl)
  dsimp only [List.set]
  refine wpAnyH_ready (rs := [5]) (by kernel_rfl) (by simp) ?_
  refine AllReadyH.cons rfl (fun K hK => ?_) (AllReadyH.nil)
  go_simp
  go_at_call 74
  refine (CE.out _ ((Below.refl W1.heap.size W1).drew)).mono ?_
  rintro _ u1 ⟨rfl, hu1⟩
  have HB1 := Lib.hid (((Below.refl W1.heap.size W1).drew).trans (hu1.mono ((Below.refl W1.heap.size W1).drew).size))
  clear hu1
  dsimp only []
  refine hK.out _ _ (KEEP.out _ HB1.out) (fun hHeld2 => ?_)
  clear hK K hHeld
  have hHeld := hHeld2
  clear hHeld2
  refine wpAnyH_ready (rs := [6]) (by kernel_rfl) (by simp) ?_
  refine AllReadyH.cons rfl (fun K hK => ?_) (AllReadyH.nil)
  go_simp
  go_at_call 46
  refine (CT.out _).mono ?_
  rintro _ u2 ⟨rfl, hu2⟩
  have HB2 := Lib.hid ((HB1.out).trans (hu2.mono (HB1.out).size))
  clear hu2
  dsimp only []
  refine hK.out _ _ (KEEP.out _ HB2.out) (fun hHeld2 => ?_)
  clear hK K hHeld
  have hHeld := hHeld2
  clear hHeld2
  refine wpAnyH_ready (rs := [7]) (by kernel_rfl) (by simp) ?_
  refine AllReadyH.cons rfl (fun K hK => ?_) (AllReadyH.nil)
  obtain ⟨hR9, hB9⟩ := FIN.out _ HB2.out
  obtain ⟨r0, r1, f0, f1⟩ := cellsJ hR9
  obtain ⟨m0, m1, m2, m3, m4, m5, m6, m7, m8, m9⟩ := KEEP.out _ HB2.out
  replace hR9 := Lib.hid hR9
  replace hB9 := Lib.hid hB9
  go_simp
  clear r0 r1 f0 f1
  refine hK.out _ _ (⟨cell_besideJ m0 (by omega), cell_besideJ m1 (by omega), cell_besideJ m2 (by omega), cell_besideJ m3 (by omega), cell_besideJ m4 (by omega), cell_besideJ m5 (by omega), cell_besideJ m6 (by omega), cell_besideJ m7 (by omega), cell_besideJ m8 (by omega), cell_besideJ m9 (by omega)⟩) (fun hHeld2 => ?_)
  clear hK K hHeld
  have hHeld := hHeld2
  clear hHeld2
  refine wpAnyH_done (by kernel_rfl) ?_ _
  go_wp2_with fail
  have HC := Lib.hid (setO hR9.out (.bool false) (.bool false))
  have HL := Lib.hid ((hB9.out.setCell (p := ⟨(w.heap.size + 2), 0, none⟩) (by show w.heap.size ≤ (w.heap.size + 2); omega) (.bool false)).setCell (p := ⟨(w.heap.size + 2), 1, none⟩) (by show w.heap.size ≤ (w.heap.size + 2); omega) (.bool false))
  obtain ⟨W9, hW9⟩ : ∃ W9, W9 = (u2.setCell ⟨(w.heap.size + 2), 0, none⟩ (.bool false)).setCell ⟨(w.heap.size + 2), 1, none⟩ (.bool false) := ⟨_, rfl⟩
  rw [← hW9] at HC HL ⊢
  clear hW9
  have c0 := cell_of_row _ _ 0 _ _ _ HC.out
  have c1 := cell_of_row _ _ 1 _ _ _ HC.out
  exact bodyPost_ret (v := .agg #[(.bool false), (.bool false)]) (by simp [results, Tryz.results74, go_sem, c0, c1]) rfl ⟨rfl, HL.out⟩
end Go.Proofs.YtkffgdndglfcfaaGreatDoor.J15
