/-
  The attribute that the law's own filter asks for: none.
-/
import Derived.Test.YtkffgdndglfcfaaGreatDoorJFind
namespace Go.Proofs.YtkffgdndglfcfaaGreatDoor.J15
open Go.RowKit Go.Proofs.YtkffgdndglfcfaaGreatDoor.O7

theorem cells7J {w : World} {b : Nat} {v0 v1 v2 v3 v4 v5 v6 : Value} {T : TypeId} (h : w.heap[b]? = some (.cells #[v0, v1, v2, v3, v4, v5, v6] T (0, 0))) :
    w.cell? ⟨b, 0, none⟩ = some v0 ∧ w.cell? ⟨b, 1, none⟩ = some v1 ∧ w.cell? ⟨b, 2, none⟩ = some v2 ∧ w.cell? ⟨b, 3, none⟩ = some v3 ∧ w.cell? ⟨b, 4, none⟩ = some v4 ∧ w.cell? ⟨b, 5, none⟩ = some v5 ∧ w.cell? ⟨b, 6, none⟩ = some v6 :=
  ⟨cell_of_row _ _ _ _ _ _ h, cell_of_row _ _ _ _ _ _ h, cell_of_row _ _ _ _ _ _ h, cell_of_row _ _ _ _ _ _ h, cell_of_row _ _ _ _ _ _ h, cell_of_row _ _ _ _ _ _ h, cell_of_row _ _ _ _ _ _ h⟩
theorem deO_x : deO [120] = ([120], [], true) := by decide +kernel
theorem findA_x : findA [120] = none := by decide +kernel
set_option maxRecDepth 8000 in
set_option maxHeartbeats 800000 in
theorem attr_any (Ak Ab : Option Addr) (ck cb g o : Nat) (w : World) (HT : TabA w g o) :
    Calls Tryz.prog 100 #[.agg #[.int .i64 3, .slice Ak 0 ck, .string ⟨#[120]⟩, .string ⟨#[49]⟩, .string ⟨#[]⟩, .string ⟨#[]⟩, .slice Ab 0 cb]] w fun en w' => en = .returned (.tuple #[.agg #[.string ⟨#[]⟩, .string ⟨#[]⟩, .string ⟨#[]⟩, .int .i64 0, .bool false], .bool false, .bool false]) ∧ Below w.heap.size w w' := by
  obtain ⟨W1, hW1⟩ : ∃ W1, W1 = (w.alloc (.cells #[.int .i64 3, .slice Ak 0 ck, .string ⟨#[120]⟩, .string ⟨#[49]⟩, .string ⟨#[]⟩, .string ⟨#[]⟩, .slice Ab 0 cb] 25)).alloc (.cells #[.string ⟨#[]⟩, .string ⟨#[]⟩, .string ⟨#[]⟩, .int .i64 0, .bool false] 158) := ⟨_, rfl⟩
  have hB1 : Below w.heap.size w W1 := by rw [hW1]; exact ((Below.refl _ _).alloc (Nat.le_refl _) _).alloc (by simp) _
  have hF1 : W1.heap[w.heap.size]? = some (.cells #[.int .i64 3, .slice Ak 0 ck, .string ⟨#[120]⟩, .string ⟨#[49]⟩, .string ⟨#[]⟩, .string ⟨#[]⟩, .slice Ab 0 cb] 25 (0, 0)) := by rw [hW1, Below.heap_alloc _ _ _ (by simp)]; exact heap_alloc_new w _
  have hR1 : W1.heap[w.heap.size + 1]? = some (.cells #[.string ⟨#[]⟩, .string ⟨#[]⟩, .string ⟨#[]⟩, .int .i64 0, .bool false] 158 (0, 0)) := by rw [hW1]; exact heap_alloc_new (w.alloc _) _ |> (by simpa using ·)
  have hz1 : W1.heap.size = w.heap.size + 2 := by rw [hW1]; simp
  have CD := (describe_any ⟨#[120]⟩ W1 (by decide)).mono fun en w' (h : _) => (show (∃ A c, en = .returned (.tuple #[.string ⟨#[120]⟩, .slice A 0 c, .bool true])) ∧ Below W1.heap.size W1 w' from by
    obtain ⟨⟨A, c, h1, _⟩, h2⟩ := h
    refine ⟨⟨A, c, ?_⟩, h2⟩
    rw [h1]
    rw [show (⟨#[120]⟩ : ByteArray).data.toList = [120] from rfl, deO_x]
    rfl)
  have CF := fun W (hW : Below W1.heap.size W1 W) => find_any ⟨#[120]⟩ g o W (by decide) (HT.below (hB1.trans (hW.mono (by omega))))
  rw [show (⟨#[120]⟩ : ByteArray).data.toList = [120] from rfl, findA_x] at CF
  unfold valA at CF
  dsimp only [] at CF
  obtain ⟨x0, x1, x2, x3, x4, x5, x6⟩ := cells7J hF1
  replace hB1 := Lib.hid hB1
  replace hF1 := Lib.hid hF1
  replace hR1 := Lib.hid hR1
  replace CD := Lib.hid CD
  replace CF := Lib.hid CF
  go_enter Tryz.func100, Tryz.ntmps100
  go_wp2_with fail
  rw [← hW1]
  replace hW1 := Lib.hid hW1
  try go_wp2_with fail
  refine CD.out.mono ?_
  rintro _ w2 ⟨⟨A, c, rfl⟩, hb2⟩
  replace hb2 := Lib.hid hb2
  clear x0 x1 x2 x3 x4 x5 x6
  dsimp only []
  go_wp2_with fail
  refine (CF.out _ hb2.out).mono ?_
  rintro _ w3 ⟨rfl, hb3⟩
  have hb13 := hb2.out.trans (hb3.mono hb2.out.size)
  have hR3 := (hb13.block _ (by omega)).trans hR1.out
  have hB3 := hB1.out.trans (hb13.mono (by omega))
  obtain ⟨r0, r1, r2, r3, r4, f0, f1, f2, f3, f4⟩ := row5 hR3
  replace hR3 := Lib.hid hR3
  replace hB3 := Lib.hid hB3
  replace hb3 := Lib.hid hb3
  replace hb13 := Lib.hid hb13
  dsimp only []
  go_upto_region 3 with fail
  clear r0 r1 r2 r3 r4 f0 f1 f2 f3 f4
  have HC_W5 := Lib.hid (set5_same hR3.out (.string ⟨#[]⟩) (.string ⟨#[]⟩) (.string ⟨#[]⟩) (.int .i64 0) (.bool false))
  have HL_W5 := Lib.hid (set5_below hB3.out (by omega : w.heap.size ≤ w.heap.size + 1) (.string ⟨#[]⟩) (.string ⟨#[]⟩) (.string ⟨#[]⟩) (.int .i64 0) (.bool false))
  have HX : set5 w3 (w.heap.size + 1) (.string ⟨#[]⟩) (.string ⟨#[]⟩) (.string ⟨#[]⟩) (.int .i64 0) (.bool false) = (((((w3.setCell ⟨w.heap.size + 1, 0, none⟩ (.string ⟨#[]⟩)).setCell ⟨w.heap.size + 1, 1, none⟩ (.string ⟨#[]⟩)).setCell ⟨w.heap.size + 1, 2, none⟩ (.string ⟨#[]⟩)).setCell ⟨w.heap.size + 1, 3, none⟩ (.int .i64 0)).setCell ⟨w.heap.size + 1, 4, none⟩ (.bool false)) := rfl
  rw [← HX]
  obtain ⟨W5, hW5⟩ : ∃ x, x = set5 w3 (w.heap.size + 1) (.string ⟨#[]⟩) (.string ⟨#[]⟩) (.string ⟨#[]⟩) (.int .i64 0) (.bool false) := ⟨_, rfl⟩
  rw [← hW5] at HC_W5 HL_W5 ⊢
  clear HX hW5
  obtain ⟨r0, r1, r2, r3, r4, f0, f1, f2, f3, f4⟩ := row5 HC_W5.out
  go_wp2_with fail
  clear r0 r1 r2 r3 r4 f0 f1 f2 f3 f4
  have HC_W6 := Lib.hid (set5_same HC_W5.out (.string ⟨#[]⟩) (.string ⟨#[]⟩) (.string ⟨#[]⟩) (.int .i64 0) (.bool false))
  have HL_W6 := Lib.hid (set5_below HL_W5.out (by omega : w.heap.size ≤ w.heap.size + 1) (.string ⟨#[]⟩) (.string ⟨#[]⟩) (.string ⟨#[]⟩) (.int .i64 0) (.bool false))
  have HX : set5 W5 (w.heap.size + 1) (.string ⟨#[]⟩) (.string ⟨#[]⟩) (.string ⟨#[]⟩) (.int .i64 0) (.bool false) = (((((W5.setCell ⟨w.heap.size + 1, 0, none⟩ (.string ⟨#[]⟩)).setCell ⟨w.heap.size + 1, 1, none⟩ (.string ⟨#[]⟩)).setCell ⟨w.heap.size + 1, 2, none⟩ (.string ⟨#[]⟩)).setCell ⟨w.heap.size + 1, 3, none⟩ (.int .i64 0)).setCell ⟨w.heap.size + 1, 4, none⟩ (.bool false)) := rfl
  rw [← HX]
  obtain ⟨W6, hW6⟩ : ∃ x, x = set5 W5 (w.heap.size + 1) (.string ⟨#[]⟩) (.string ⟨#[]⟩) (.string ⟨#[]⟩) (.int .i64 0) (.bool false) := ⟨_, rfl⟩
  rw [← hW6] at HC_W6 HL_W6 ⊢
  clear HX hW6
  obtain ⟨v0, v1, v2, v3, v4, _⟩ := row5 HC_W6.out
  exact bodyPost_ret (v := .tuple #[.agg #[.string ⟨#[]⟩, .string ⟨#[]⟩, .string ⟨#[]⟩, .int .i64 0, .bool false], .bool false, .bool false]) (by simp [results, Tryz.results100, go_sem, v0, v1, v2, v3, v4]) rfl ⟨rfl, HL_W6.out⟩
end Go.Proofs.YtkffgdndglfcfaaGreatDoor.J15
