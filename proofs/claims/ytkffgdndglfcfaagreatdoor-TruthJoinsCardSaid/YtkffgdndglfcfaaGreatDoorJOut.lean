/-
  The truth package's outcomes: Both, Either and Turned.
-/
import Derived.Test.YtkffgdndglfcfaaGreatDoorRows
import Derived.Handy
import Derived.Lib.Hide
import Derived.BigQuiet
import Derived.Deep.RegionHeldLaw
namespace Go.Proofs.YtkffgdndglfcfaaGreatDoor
open Go.RowKit

/-- An outcome: none is undefined. -/
abbrev Out := Option Bool
def outV : Out → Value
  | none => .agg #[.bool false, .bool false]
  | some b => .agg #[.bool true, .bool b]
def b3 : Out → Out → Out
  | some false, _ => some false
  | _, some false => some false
  | some true, some true => some true
  | _, _ => none
def t3 : Out → Out
  | none => none
  | some b => some !b
def e3 (x y : Out) : Out := t3 (b3 (t3 x) (t3 y))
def outI (a : Int) : Out := if a = 0 then some false else if a = 1 then some true else none
def numI : Out → Int
  | some false => 0
  | some true => 1
  | none => 2
theorem setO {w : World} {b : Nat} {v0 v1 : Value} {T : TypeId} (h : w.heap[b]? = some (.cells #[v0, v1] T (0, 0))) (u0 u1 : Value) : ((w.setCell ⟨b, 0, none⟩ u0).setCell ⟨b, 1, none⟩ u1).heap[b]? = some (.cells #[u0, u1] T (0, 0)) := by
  rw [_root_.Go.heap_setCell_same _ _ _ _ _ _ (_root_.Go.heap_setCell_same _ _ _ _ _ _ h)]
  rfl
theorem cellsJ {w : World} {b : Nat} {v0 v1 : Value} {T : TypeId} (h : w.heap[b]? = some (.cells #[v0, v1] T (0, 0))) :
    w.cell? ⟨b, 0, none⟩ = some v0 ∧ w.cell? ⟨b, 1, none⟩ = some v1 ∧ w.frozen? ⟨b, 0, none⟩ = false ∧ w.frozen? ⟨b, 1, none⟩ = false :=
  ⟨cell_of_row _ _ _ _ _ _ h, cell_of_row _ _ _ _ _ _ h, by simp [World.frozen?, h], by simp [World.frozen?, h]⟩
theorem known_any (b : Bool) (w : World) : Calls Tryz.prog 73 #[.bool b] w fun en w' => en = .returned (.agg #[.bool true, .bool b]) ∧ Below w.heap.size w w' := by
  go_enter Tryz.func73, Tryz.ntmps73
  go_wp2_with fail
  go_returns
  exact ⟨rfl, by go_grown⟩
set_option maxRecDepth 4000 in
theorem turned_any (x : Out) (w : World) : Calls Tryz.prog 46 #[outV x] w fun en w' => en = .returned (outV (t3 x)) ∧ Below w.heap.size w w' := by
  rcases x with _ | x
  · unfold outV
    go_enter Tryz.func46, Tryz.ntmps46
    go_wp2_with fail
    go_returns
    exact ⟨rfl, by go_grown⟩
  · rw [show outV (t3 (some x)) = .agg #[.bool true, .bool (!x)] from rfl]
    unfold outV
    obtain ⟨W1, hW1⟩ : ∃ W1, W1 = (w.alloc (.cells #[.bool true, .bool x] 88)).alloc (.cells #[.bool false, .bool false] 88) := ⟨_, rfl⟩
    have hB1 : Below w.heap.size w W1 := by rw [hW1]; exact ((Below.refl _ _).alloc (Nat.le_refl _) _).alloc (by simp) _
    have hR1 : W1.heap[w.heap.size + 1]? = some (.cells #[.bool false, .bool false] 88 (0, 0)) := by rw [hW1]; exact heap_alloc_new (w.alloc _) _ |> (by simpa using ·)
    have hz1 : W1.heap.size = w.heap.size + 2 := by rw [hW1]; simp
    have CK := Lib.hid (known_any (!x) W1)
    replace hB1 := Lib.hid hB1
    replace hR1 := Lib.hid hR1
    go_enter Tryz.func46, Tryz.ntmps46
    go_wp2_with fail
    rw [← hW1]
    replace hW1 := Lib.hid hW1
    refine CK.out.mono ?_
    rintro _ w2 ⟨rfl, hb2⟩
    have hR2 := (hb2.block _ (by omega)).trans hR1.out
    have hB2 := hB1.out.trans (hb2.mono (by omega))
    obtain ⟨r0, r1, f0, f1⟩ := cellsJ hR2
    replace hR2 := Lib.hid hR2
    replace hB2 := Lib.hid hB2
    replace hb2 := Lib.hid hb2
    dsimp only []
    go_wp2_with fail
    clear r0 r1 f0 f1
    have HC := Lib.hid (setO hR2.out (.bool true) (.bool (!x)))
    have HL := Lib.hid ((hB2.out.setCell (p := ⟨(w.heap.size + 1), 0, none⟩) (by show w.heap.size ≤ (w.heap.size + 1); omega) (.bool true)).setCell (p := ⟨(w.heap.size + 1), 1, none⟩) (by show w.heap.size ≤ (w.heap.size + 1); omega) (.bool (!x)))
    obtain ⟨W9, hW9⟩ : ∃ W9, W9 = (w2.setCell ⟨(w.heap.size + 1), 0, none⟩ (.bool true)).setCell ⟨(w.heap.size + 1), 1, none⟩ (.bool (!x)) := ⟨_, rfl⟩
    rw [← hW9] at HC HL ⊢
    clear hW9
    have c0 := cell_of_row _ _ 0 _ _ _ HC.out
    have c1 := cell_of_row _ _ 1 _ _ _ HC.out
    exact bodyPost_ret (v := .agg #[(.bool true), (.bool (!x))]) (by simp [results, Tryz.results46, go_sem, c0, c1]) rfl ⟨rfl, HL.out⟩
set_option maxRecDepth 4000 in
set_option maxHeartbeats 800000 in
theorem both_any (x y : Out) (w : World) : Calls Tryz.prog 42 #[outV x, outV y] w fun en w' => en = .returned (outV (b3 x y)) ∧ Below w.heap.size w w' := by
  rcases x with _ | (_ | _) <;> rcases y with _ | (_ | _)
  · rw [show outV (b3 none none) = .agg #[.bool false, .bool false] from rfl]
    unfold outV
    obtain ⟨W1, hW1⟩ : ∃ W1, W1 = ((w.alloc (.cells #[.bool false, .bool false] 88)).alloc (.cells #[.bool false, .bool false] 88)).alloc (.cells #[.bool false, .bool false] 88) := ⟨_, rfl⟩
    have hB1 : Below w.heap.size w W1 := by rw [hW1]; exact (((Below.refl _ _).alloc (Nat.le_refl _) _).alloc (by simp) _).alloc (by simp; omega) _
    have hX1 : W1.heap[w.heap.size]? = some (.cells #[.bool false, .bool false] 88 (0, 0)) := by rw [hW1, Below.heap_alloc _ _ _ (by simp; omega), Below.heap_alloc _ _ _ (by simp)]; exact heap_alloc_new w _
    have hY1 : W1.heap[w.heap.size + 1]? = some (.cells #[.bool false, .bool false] 88 (0, 0)) := by rw [hW1, Below.heap_alloc _ _ _ (by simp)]; exact heap_alloc_new (w.alloc _) _ |> (by simpa using ·)
    have hR1 : W1.heap[w.heap.size + 2]? = some (.cells #[.bool false, .bool false] 88 (0, 0)) := by rw [hW1]; exact heap_alloc_new ((w.alloc _).alloc _) _ |> (by simpa using ·)
    have hz1 : W1.heap.size = w.heap.size + 3 := by rw [hW1]; simp
    have CK := Lib.hid (known_any false W1)
    replace hB1 := Lib.hid hB1
    replace hX1 := Lib.hid hX1
    replace hY1 := Lib.hid hY1
    replace hR1 := Lib.hid hR1
    go_enter Tryz.func42, Tryz.ntmps42
    go_wp2_with fail
    rw [← hW1]
    replace hW1 := Lib.hid hW1
    refine CK.out.mono ?_
    rintro _ w2 ⟨rfl, hb2⟩
    have hz2 := hb2.size
    obtain ⟨W3, hW3⟩ : ∃ W3, W3 = w2.alloc (.cells #[.bool true, .bool false] 88) := ⟨_, rfl⟩
    have hb3 : Below W1.heap.size W1 W3 := by rw [hW3]; exact hb2.alloc hz2 _
    have hN3 : W3.heap[w2.heap.size]? = some (.cells #[.bool true, .bool false] 88 (0, 0)) := by rw [hW3]; exact heap_alloc_new w2 _
    obtain ⟨x0, x1, _, _⟩ := cellsJ ((hb3.block _ (by omega)).trans hX1.out)
    obtain ⟨y0, y1, _, _⟩ := cellsJ ((hb3.block _ (by omega)).trans hY1.out)
    obtain ⟨n0, n1, _, _⟩ := cellsJ hN3
    have hR3 := (hb3.block _ (by omega)).trans hR1.out
    obtain ⟨r0, r1, f0, f1⟩ := cellsJ hR3
    have hB3 := hB1.out.trans (hb3.mono (by omega))
    replace hR3 := Lib.hid hR3
    replace hB3 := Lib.hid hB3
    replace hb2 := Lib.hid hb2
    replace hb3 := Lib.hid hb3
    replace hN3 := Lib.hid hN3
    rw [hW3] at x0 x1 y0 y1 n0 n1 r0 r1 f0 f1
    replace hW3 := Lib.hid hW3
    dsimp only []
    go_wp2_with fail
    rw [← hW3.out]
    clear x0 x1 y0 y1 n0 n1 r0 r1 f0 f1
    have HC := Lib.hid (setO hR3.out (.bool false) (.bool false))
    have HL := Lib.hid ((hB3.out.setCell (p := ⟨(w.heap.size + 2), 0, none⟩) (by show w.heap.size ≤ (w.heap.size + 2); omega) (.bool false)).setCell (p := ⟨(w.heap.size + 2), 1, none⟩) (by show w.heap.size ≤ (w.heap.size + 2); omega) (.bool false))
    obtain ⟨W9, hW9⟩ : ∃ W9, W9 = (W3.setCell ⟨(w.heap.size + 2), 0, none⟩ (.bool false)).setCell ⟨(w.heap.size + 2), 1, none⟩ (.bool false) := ⟨_, rfl⟩
    rw [← hW9] at HC HL ⊢
    clear hW9
    have c0 := cell_of_row _ _ 0 _ _ _ HC.out
    have c1 := cell_of_row _ _ 1 _ _ _ HC.out
    exact bodyPost_ret (v := .agg #[(.bool false), (.bool false)]) (by simp [results, Tryz.results42, go_sem, c0, c1]) rfl ⟨rfl, HL.out⟩
  · rw [show outV (b3 none (some false)) = .agg #[.bool true, .bool false] from rfl]
    unfold outV
    obtain ⟨W1, hW1⟩ : ∃ W1, W1 = ((w.alloc (.cells #[.bool false, .bool false] 88)).alloc (.cells #[.bool true, .bool false] 88)).alloc (.cells #[.bool false, .bool false] 88) := ⟨_, rfl⟩
    have hB1 : Below w.heap.size w W1 := by rw [hW1]; exact (((Below.refl _ _).alloc (Nat.le_refl _) _).alloc (by simp) _).alloc (by simp; omega) _
    have hX1 : W1.heap[w.heap.size]? = some (.cells #[.bool false, .bool false] 88 (0, 0)) := by rw [hW1, Below.heap_alloc _ _ _ (by simp; omega), Below.heap_alloc _ _ _ (by simp)]; exact heap_alloc_new w _
    have hY1 : W1.heap[w.heap.size + 1]? = some (.cells #[.bool true, .bool false] 88 (0, 0)) := by rw [hW1, Below.heap_alloc _ _ _ (by simp)]; exact heap_alloc_new (w.alloc _) _ |> (by simpa using ·)
    have hR1 : W1.heap[w.heap.size + 2]? = some (.cells #[.bool false, .bool false] 88 (0, 0)) := by rw [hW1]; exact heap_alloc_new ((w.alloc _).alloc _) _ |> (by simpa using ·)
    have hz1 : W1.heap.size = w.heap.size + 3 := by rw [hW1]; simp
    have CK := Lib.hid (known_any false W1)
    replace hB1 := Lib.hid hB1
    replace hX1 := Lib.hid hX1
    replace hY1 := Lib.hid hY1
    replace hR1 := Lib.hid hR1
    go_enter Tryz.func42, Tryz.ntmps42
    go_wp2_with fail
    rw [← hW1]
    replace hW1 := Lib.hid hW1
    refine CK.out.mono ?_
    rintro _ w2 ⟨rfl, hb2⟩
    have hz2 := hb2.size
    obtain ⟨W3, hW3⟩ : ∃ W3, W3 = w2.alloc (.cells #[.bool true, .bool false] 88) := ⟨_, rfl⟩
    have hb3 : Below W1.heap.size W1 W3 := by rw [hW3]; exact hb2.alloc hz2 _
    have hN3 : W3.heap[w2.heap.size]? = some (.cells #[.bool true, .bool false] 88 (0, 0)) := by rw [hW3]; exact heap_alloc_new w2 _
    obtain ⟨x0, x1, _, _⟩ := cellsJ ((hb3.block _ (by omega)).trans hX1.out)
    obtain ⟨y0, y1, _, _⟩ := cellsJ ((hb3.block _ (by omega)).trans hY1.out)
    obtain ⟨n0, n1, _, _⟩ := cellsJ hN3
    have hR3 := (hb3.block _ (by omega)).trans hR1.out
    obtain ⟨r0, r1, f0, f1⟩ := cellsJ hR3
    have hB3 := hB1.out.trans (hb3.mono (by omega))
    replace hR3 := Lib.hid hR3
    replace hB3 := Lib.hid hB3
    replace hb2 := Lib.hid hb2
    replace hb3 := Lib.hid hb3
    replace hN3 := Lib.hid hN3
    rw [hW3] at x0 x1 y0 y1 n0 n1 r0 r1 f0 f1
    replace hW3 := Lib.hid hW3
    dsimp only []
    go_wp2_with fail
    rw [← hW3.out]
    clear x0 x1 y0 y1 n0 n1 r0 r1 f0 f1
    have HC := Lib.hid (setO hR3.out (.bool true) (.bool false))
    have HL := Lib.hid ((hB3.out.setCell (p := ⟨(w.heap.size + 2), 0, none⟩) (by show w.heap.size ≤ (w.heap.size + 2); omega) (.bool true)).setCell (p := ⟨(w.heap.size + 2), 1, none⟩) (by show w.heap.size ≤ (w.heap.size + 2); omega) (.bool false))
    obtain ⟨W9, hW9⟩ : ∃ W9, W9 = (W3.setCell ⟨(w.heap.size + 2), 0, none⟩ (.bool true)).setCell ⟨(w.heap.size + 2), 1, none⟩ (.bool false) := ⟨_, rfl⟩
    rw [← hW9] at HC HL ⊢
    clear hW9
    have c0 := cell_of_row _ _ 0 _ _ _ HC.out
    have c1 := cell_of_row _ _ 1 _ _ _ HC.out
    exact bodyPost_ret (v := .agg #[(.bool true), (.bool false)]) (by simp [results, Tryz.results42, go_sem, c0, c1]) rfl ⟨rfl, HL.out⟩
  · rw [show outV (b3 none (some true)) = .agg #[.bool false, .bool false] from rfl]
    unfold outV
    obtain ⟨W1, hW1⟩ : ∃ W1, W1 = ((w.alloc (.cells #[.bool false, .bool false] 88)).alloc (.cells #[.bool true, .bool true] 88)).alloc (.cells #[.bool false, .bool false] 88) := ⟨_, rfl⟩
    have hB1 : Below w.heap.size w W1 := by rw [hW1]; exact (((Below.refl _ _).alloc (Nat.le_refl _) _).alloc (by simp) _).alloc (by simp; omega) _
    have hX1 : W1.heap[w.heap.size]? = some (.cells #[.bool false, .bool false] 88 (0, 0)) := by rw [hW1, Below.heap_alloc _ _ _ (by simp; omega), Below.heap_alloc _ _ _ (by simp)]; exact heap_alloc_new w _
    have hY1 : W1.heap[w.heap.size + 1]? = some (.cells #[.bool true, .bool true] 88 (0, 0)) := by rw [hW1, Below.heap_alloc _ _ _ (by simp)]; exact heap_alloc_new (w.alloc _) _ |> (by simpa using ·)
    have hR1 : W1.heap[w.heap.size + 2]? = some (.cells #[.bool false, .bool false] 88 (0, 0)) := by rw [hW1]; exact heap_alloc_new ((w.alloc _).alloc _) _ |> (by simpa using ·)
    have hz1 : W1.heap.size = w.heap.size + 3 := by rw [hW1]; simp
    have CK := Lib.hid (known_any false W1)
    replace hB1 := Lib.hid hB1
    replace hX1 := Lib.hid hX1
    replace hY1 := Lib.hid hY1
    replace hR1 := Lib.hid hR1
    go_enter Tryz.func42, Tryz.ntmps42
    go_wp2_with fail
    rw [← hW1]
    replace hW1 := Lib.hid hW1
    refine CK.out.mono ?_
    rintro _ w2 ⟨rfl, hb2⟩
    have hz2 := hb2.size
    obtain ⟨W3, hW3⟩ : ∃ W3, W3 = w2.alloc (.cells #[.bool true, .bool false] 88) := ⟨_, rfl⟩
    have hb3 : Below W1.heap.size W1 W3 := by rw [hW3]; exact hb2.alloc hz2 _
    have hN3 : W3.heap[w2.heap.size]? = some (.cells #[.bool true, .bool false] 88 (0, 0)) := by rw [hW3]; exact heap_alloc_new w2 _
    obtain ⟨x0, x1, _, _⟩ := cellsJ ((hb3.block _ (by omega)).trans hX1.out)
    obtain ⟨y0, y1, _, _⟩ := cellsJ ((hb3.block _ (by omega)).trans hY1.out)
    obtain ⟨n0, n1, _, _⟩ := cellsJ hN3
    have hR3 := (hb3.block _ (by omega)).trans hR1.out
    obtain ⟨r0, r1, f0, f1⟩ := cellsJ hR3
    have hB3 := hB1.out.trans (hb3.mono (by omega))
    replace hR3 := Lib.hid hR3
    replace hB3 := Lib.hid hB3
    replace hb2 := Lib.hid hb2
    replace hb3 := Lib.hid hb3
    replace hN3 := Lib.hid hN3
    rw [hW3] at x0 x1 y0 y1 n0 n1 r0 r1 f0 f1
    replace hW3 := Lib.hid hW3
    dsimp only []
    go_wp2_with fail
    rw [← hW3.out]
    clear x0 x1 y0 y1 n0 n1 r0 r1 f0 f1
    have HC := Lib.hid (setO hR3.out (.bool false) (.bool false))
    have HL := Lib.hid ((hB3.out.setCell (p := ⟨(w.heap.size + 2), 0, none⟩) (by show w.heap.size ≤ (w.heap.size + 2); omega) (.bool false)).setCell (p := ⟨(w.heap.size + 2), 1, none⟩) (by show w.heap.size ≤ (w.heap.size + 2); omega) (.bool false))
    obtain ⟨W9, hW9⟩ : ∃ W9, W9 = (W3.setCell ⟨(w.heap.size + 2), 0, none⟩ (.bool false)).setCell ⟨(w.heap.size + 2), 1, none⟩ (.bool false) := ⟨_, rfl⟩
    rw [← hW9] at HC HL ⊢
    clear hW9
    have c0 := cell_of_row _ _ 0 _ _ _ HC.out
    have c1 := cell_of_row _ _ 1 _ _ _ HC.out
    exact bodyPost_ret (v := .agg #[(.bool false), (.bool false)]) (by simp [results, Tryz.results42, go_sem, c0, c1]) rfl ⟨rfl, HL.out⟩
  · rw [show outV (b3 (some false) none) = .agg #[.bool true, .bool false] from rfl]
    unfold outV
    obtain ⟨W1, hW1⟩ : ∃ W1, W1 = ((w.alloc (.cells #[.bool true, .bool false] 88)).alloc (.cells #[.bool false, .bool false] 88)).alloc (.cells #[.bool false, .bool false] 88) := ⟨_, rfl⟩
    have hB1 : Below w.heap.size w W1 := by rw [hW1]; exact (((Below.refl _ _).alloc (Nat.le_refl _) _).alloc (by simp) _).alloc (by simp; omega) _
    have hX1 : W1.heap[w.heap.size]? = some (.cells #[.bool true, .bool false] 88 (0, 0)) := by rw [hW1, Below.heap_alloc _ _ _ (by simp; omega), Below.heap_alloc _ _ _ (by simp)]; exact heap_alloc_new w _
    have hY1 : W1.heap[w.heap.size + 1]? = some (.cells #[.bool false, .bool false] 88 (0, 0)) := by rw [hW1, Below.heap_alloc _ _ _ (by simp)]; exact heap_alloc_new (w.alloc _) _ |> (by simpa using ·)
    have hR1 : W1.heap[w.heap.size + 2]? = some (.cells #[.bool false, .bool false] 88 (0, 0)) := by rw [hW1]; exact heap_alloc_new ((w.alloc _).alloc _) _ |> (by simpa using ·)
    have hz1 : W1.heap.size = w.heap.size + 3 := by rw [hW1]; simp
    have CK := Lib.hid (known_any false W1)
    replace hB1 := Lib.hid hB1
    replace hX1 := Lib.hid hX1
    replace hY1 := Lib.hid hY1
    replace hR1 := Lib.hid hR1
    go_enter Tryz.func42, Tryz.ntmps42
    go_wp2_with fail
    rw [← hW1]
    replace hW1 := Lib.hid hW1
    refine CK.out.mono ?_
    rintro _ w2 ⟨rfl, hb2⟩
    have hz2 := hb2.size
    obtain ⟨W3, hW3⟩ : ∃ W3, W3 = w2.alloc (.cells #[.bool true, .bool false] 88) := ⟨_, rfl⟩
    have hb3 : Below W1.heap.size W1 W3 := by rw [hW3]; exact hb2.alloc hz2 _
    have hN3 : W3.heap[w2.heap.size]? = some (.cells #[.bool true, .bool false] 88 (0, 0)) := by rw [hW3]; exact heap_alloc_new w2 _
    obtain ⟨x0, x1, _, _⟩ := cellsJ ((hb3.block _ (by omega)).trans hX1.out)
    obtain ⟨y0, y1, _, _⟩ := cellsJ ((hb3.block _ (by omega)).trans hY1.out)
    obtain ⟨n0, n1, _, _⟩ := cellsJ hN3
    have hR3 := (hb3.block _ (by omega)).trans hR1.out
    obtain ⟨r0, r1, f0, f1⟩ := cellsJ hR3
    have hB3 := hB1.out.trans (hb3.mono (by omega))
    replace hR3 := Lib.hid hR3
    replace hB3 := Lib.hid hB3
    replace hb2 := Lib.hid hb2
    replace hb3 := Lib.hid hb3
    replace hN3 := Lib.hid hN3
    rw [hW3] at x0 x1 y0 y1 n0 n1 r0 r1 f0 f1
    replace hW3 := Lib.hid hW3
    dsimp only []
    go_wp2_with fail
    rw [← hW3.out]
    clear x0 x1 y0 y1 n0 n1 r0 r1 f0 f1
    have HC := Lib.hid (setO hR3.out (.bool true) (.bool false))
    have HL := Lib.hid ((hB3.out.setCell (p := ⟨(w.heap.size + 2), 0, none⟩) (by show w.heap.size ≤ (w.heap.size + 2); omega) (.bool true)).setCell (p := ⟨(w.heap.size + 2), 1, none⟩) (by show w.heap.size ≤ (w.heap.size + 2); omega) (.bool false))
    obtain ⟨W9, hW9⟩ : ∃ W9, W9 = (W3.setCell ⟨(w.heap.size + 2), 0, none⟩ (.bool true)).setCell ⟨(w.heap.size + 2), 1, none⟩ (.bool false) := ⟨_, rfl⟩
    rw [← hW9] at HC HL ⊢
    clear hW9
    have c0 := cell_of_row _ _ 0 _ _ _ HC.out
    have c1 := cell_of_row _ _ 1 _ _ _ HC.out
    exact bodyPost_ret (v := .agg #[(.bool true), (.bool false)]) (by simp [results, Tryz.results42, go_sem, c0, c1]) rfl ⟨rfl, HL.out⟩
  · rw [show outV (b3 (some false) (some false)) = .agg #[.bool true, .bool false] from rfl]
    unfold outV
    obtain ⟨W1, hW1⟩ : ∃ W1, W1 = ((w.alloc (.cells #[.bool true, .bool false] 88)).alloc (.cells #[.bool true, .bool false] 88)).alloc (.cells #[.bool false, .bool false] 88) := ⟨_, rfl⟩
    have hB1 : Below w.heap.size w W1 := by rw [hW1]; exact (((Below.refl _ _).alloc (Nat.le_refl _) _).alloc (by simp) _).alloc (by simp; omega) _
    have hX1 : W1.heap[w.heap.size]? = some (.cells #[.bool true, .bool false] 88 (0, 0)) := by rw [hW1, Below.heap_alloc _ _ _ (by simp; omega), Below.heap_alloc _ _ _ (by simp)]; exact heap_alloc_new w _
    have hY1 : W1.heap[w.heap.size + 1]? = some (.cells #[.bool true, .bool false] 88 (0, 0)) := by rw [hW1, Below.heap_alloc _ _ _ (by simp)]; exact heap_alloc_new (w.alloc _) _ |> (by simpa using ·)
    have hR1 : W1.heap[w.heap.size + 2]? = some (.cells #[.bool false, .bool false] 88 (0, 0)) := by rw [hW1]; exact heap_alloc_new ((w.alloc _).alloc _) _ |> (by simpa using ·)
    have hz1 : W1.heap.size = w.heap.size + 3 := by rw [hW1]; simp
    have CK := Lib.hid (known_any false W1)
    replace hB1 := Lib.hid hB1
    replace hX1 := Lib.hid hX1
    replace hY1 := Lib.hid hY1
    replace hR1 := Lib.hid hR1
    go_enter Tryz.func42, Tryz.ntmps42
    go_wp2_with fail
    rw [← hW1]
    replace hW1 := Lib.hid hW1
    refine CK.out.mono ?_
    rintro _ w2 ⟨rfl, hb2⟩
    have hz2 := hb2.size
    obtain ⟨W3, hW3⟩ : ∃ W3, W3 = w2.alloc (.cells #[.bool true, .bool false] 88) := ⟨_, rfl⟩
    have hb3 : Below W1.heap.size W1 W3 := by rw [hW3]; exact hb2.alloc hz2 _
    have hN3 : W3.heap[w2.heap.size]? = some (.cells #[.bool true, .bool false] 88 (0, 0)) := by rw [hW3]; exact heap_alloc_new w2 _
    obtain ⟨x0, x1, _, _⟩ := cellsJ ((hb3.block _ (by omega)).trans hX1.out)
    obtain ⟨y0, y1, _, _⟩ := cellsJ ((hb3.block _ (by omega)).trans hY1.out)
    obtain ⟨n0, n1, _, _⟩ := cellsJ hN3
    have hR3 := (hb3.block _ (by omega)).trans hR1.out
    obtain ⟨r0, r1, f0, f1⟩ := cellsJ hR3
    have hB3 := hB1.out.trans (hb3.mono (by omega))
    replace hR3 := Lib.hid hR3
    replace hB3 := Lib.hid hB3
    replace hb2 := Lib.hid hb2
    replace hb3 := Lib.hid hb3
    replace hN3 := Lib.hid hN3
    rw [hW3] at x0 x1 y0 y1 n0 n1 r0 r1 f0 f1
    replace hW3 := Lib.hid hW3
    dsimp only []
    go_wp2_with fail
    rw [← hW3.out]
    clear x0 x1 y0 y1 n0 n1 r0 r1 f0 f1
    have HC := Lib.hid (setO hR3.out (.bool true) (.bool false))
    have HL := Lib.hid ((hB3.out.setCell (p := ⟨(w.heap.size + 2), 0, none⟩) (by show w.heap.size ≤ (w.heap.size + 2); omega) (.bool true)).setCell (p := ⟨(w.heap.size + 2), 1, none⟩) (by show w.heap.size ≤ (w.heap.size + 2); omega) (.bool false))
    obtain ⟨W9, hW9⟩ : ∃ W9, W9 = (W3.setCell ⟨(w.heap.size + 2), 0, none⟩ (.bool true)).setCell ⟨(w.heap.size + 2), 1, none⟩ (.bool false) := ⟨_, rfl⟩
    rw [← hW9] at HC HL ⊢
    clear hW9
    have c0 := cell_of_row _ _ 0 _ _ _ HC.out
    have c1 := cell_of_row _ _ 1 _ _ _ HC.out
    exact bodyPost_ret (v := .agg #[(.bool true), (.bool false)]) (by simp [results, Tryz.results42, go_sem, c0, c1]) rfl ⟨rfl, HL.out⟩
  · rw [show outV (b3 (some false) (some true)) = .agg #[.bool true, .bool false] from rfl]
    unfold outV
    obtain ⟨W1, hW1⟩ : ∃ W1, W1 = ((w.alloc (.cells #[.bool true, .bool false] 88)).alloc (.cells #[.bool true, .bool true] 88)).alloc (.cells #[.bool false, .bool false] 88) := ⟨_, rfl⟩
    have hB1 : Below w.heap.size w W1 := by rw [hW1]; exact (((Below.refl _ _).alloc (Nat.le_refl _) _).alloc (by simp) _).alloc (by simp; omega) _
    have hX1 : W1.heap[w.heap.size]? = some (.cells #[.bool true, .bool false] 88 (0, 0)) := by rw [hW1, Below.heap_alloc _ _ _ (by simp; omega), Below.heap_alloc _ _ _ (by simp)]; exact heap_alloc_new w _
    have hY1 : W1.heap[w.heap.size + 1]? = some (.cells #[.bool true, .bool true] 88 (0, 0)) := by rw [hW1, Below.heap_alloc _ _ _ (by simp)]; exact heap_alloc_new (w.alloc _) _ |> (by simpa using ·)
    have hR1 : W1.heap[w.heap.size + 2]? = some (.cells #[.bool false, .bool false] 88 (0, 0)) := by rw [hW1]; exact heap_alloc_new ((w.alloc _).alloc _) _ |> (by simpa using ·)
    have hz1 : W1.heap.size = w.heap.size + 3 := by rw [hW1]; simp
    have CK := Lib.hid (known_any false W1)
    replace hB1 := Lib.hid hB1
    replace hX1 := Lib.hid hX1
    replace hY1 := Lib.hid hY1
    replace hR1 := Lib.hid hR1
    go_enter Tryz.func42, Tryz.ntmps42
    go_wp2_with fail
    rw [← hW1]
    replace hW1 := Lib.hid hW1
    refine CK.out.mono ?_
    rintro _ w2 ⟨rfl, hb2⟩
    have hz2 := hb2.size
    obtain ⟨W3, hW3⟩ : ∃ W3, W3 = w2.alloc (.cells #[.bool true, .bool false] 88) := ⟨_, rfl⟩
    have hb3 : Below W1.heap.size W1 W3 := by rw [hW3]; exact hb2.alloc hz2 _
    have hN3 : W3.heap[w2.heap.size]? = some (.cells #[.bool true, .bool false] 88 (0, 0)) := by rw [hW3]; exact heap_alloc_new w2 _
    obtain ⟨x0, x1, _, _⟩ := cellsJ ((hb3.block _ (by omega)).trans hX1.out)
    obtain ⟨y0, y1, _, _⟩ := cellsJ ((hb3.block _ (by omega)).trans hY1.out)
    obtain ⟨n0, n1, _, _⟩ := cellsJ hN3
    have hR3 := (hb3.block _ (by omega)).trans hR1.out
    obtain ⟨r0, r1, f0, f1⟩ := cellsJ hR3
    have hB3 := hB1.out.trans (hb3.mono (by omega))
    replace hR3 := Lib.hid hR3
    replace hB3 := Lib.hid hB3
    replace hb2 := Lib.hid hb2
    replace hb3 := Lib.hid hb3
    replace hN3 := Lib.hid hN3
    rw [hW3] at x0 x1 y0 y1 n0 n1 r0 r1 f0 f1
    replace hW3 := Lib.hid hW3
    dsimp only []
    go_wp2_with fail
    rw [← hW3.out]
    clear x0 x1 y0 y1 n0 n1 r0 r1 f0 f1
    have HC := Lib.hid (setO hR3.out (.bool true) (.bool false))
    have HL := Lib.hid ((hB3.out.setCell (p := ⟨(w.heap.size + 2), 0, none⟩) (by show w.heap.size ≤ (w.heap.size + 2); omega) (.bool true)).setCell (p := ⟨(w.heap.size + 2), 1, none⟩) (by show w.heap.size ≤ (w.heap.size + 2); omega) (.bool false))
    obtain ⟨W9, hW9⟩ : ∃ W9, W9 = (W3.setCell ⟨(w.heap.size + 2), 0, none⟩ (.bool true)).setCell ⟨(w.heap.size + 2), 1, none⟩ (.bool false) := ⟨_, rfl⟩
    rw [← hW9] at HC HL ⊢
    clear hW9
    have c0 := cell_of_row _ _ 0 _ _ _ HC.out
    have c1 := cell_of_row _ _ 1 _ _ _ HC.out
    exact bodyPost_ret (v := .agg #[(.bool true), (.bool false)]) (by simp [results, Tryz.results42, go_sem, c0, c1]) rfl ⟨rfl, HL.out⟩
  · rw [show outV (b3 (some true) none) = .agg #[.bool false, .bool false] from rfl]
    unfold outV
    obtain ⟨W1, hW1⟩ : ∃ W1, W1 = ((w.alloc (.cells #[.bool true, .bool true] 88)).alloc (.cells #[.bool false, .bool false] 88)).alloc (.cells #[.bool false, .bool false] 88) := ⟨_, rfl⟩
    have hB1 : Below w.heap.size w W1 := by rw [hW1]; exact (((Below.refl _ _).alloc (Nat.le_refl _) _).alloc (by simp) _).alloc (by simp; omega) _
    have hX1 : W1.heap[w.heap.size]? = some (.cells #[.bool true, .bool true] 88 (0, 0)) := by rw [hW1, Below.heap_alloc _ _ _ (by simp; omega), Below.heap_alloc _ _ _ (by simp)]; exact heap_alloc_new w _
    have hY1 : W1.heap[w.heap.size + 1]? = some (.cells #[.bool false, .bool false] 88 (0, 0)) := by rw [hW1, Below.heap_alloc _ _ _ (by simp)]; exact heap_alloc_new (w.alloc _) _ |> (by simpa using ·)
    have hR1 : W1.heap[w.heap.size + 2]? = some (.cells #[.bool false, .bool false] 88 (0, 0)) := by rw [hW1]; exact heap_alloc_new ((w.alloc _).alloc _) _ |> (by simpa using ·)
    have hz1 : W1.heap.size = w.heap.size + 3 := by rw [hW1]; simp
    have CK := Lib.hid (known_any false W1)
    replace hB1 := Lib.hid hB1
    replace hX1 := Lib.hid hX1
    replace hY1 := Lib.hid hY1
    replace hR1 := Lib.hid hR1
    go_enter Tryz.func42, Tryz.ntmps42
    go_wp2_with fail
    rw [← hW1]
    replace hW1 := Lib.hid hW1
    refine CK.out.mono ?_
    rintro _ w2 ⟨rfl, hb2⟩
    have hz2 := hb2.size
    obtain ⟨W3, hW3⟩ : ∃ W3, W3 = w2.alloc (.cells #[.bool true, .bool false] 88) := ⟨_, rfl⟩
    have hb3 : Below W1.heap.size W1 W3 := by rw [hW3]; exact hb2.alloc hz2 _
    have hN3 : W3.heap[w2.heap.size]? = some (.cells #[.bool true, .bool false] 88 (0, 0)) := by rw [hW3]; exact heap_alloc_new w2 _
    obtain ⟨x0, x1, _, _⟩ := cellsJ ((hb3.block _ (by omega)).trans hX1.out)
    obtain ⟨y0, y1, _, _⟩ := cellsJ ((hb3.block _ (by omega)).trans hY1.out)
    obtain ⟨n0, n1, _, _⟩ := cellsJ hN3
    have hR3 := (hb3.block _ (by omega)).trans hR1.out
    obtain ⟨r0, r1, f0, f1⟩ := cellsJ hR3
    have hB3 := hB1.out.trans (hb3.mono (by omega))
    replace hR3 := Lib.hid hR3
    replace hB3 := Lib.hid hB3
    replace hb2 := Lib.hid hb2
    replace hb3 := Lib.hid hb3
    replace hN3 := Lib.hid hN3
    rw [hW3] at x0 x1 y0 y1 n0 n1 r0 r1 f0 f1
    replace hW3 := Lib.hid hW3
    dsimp only []
    go_wp2_with fail
    rw [← hW3.out]
    clear x0 x1 y0 y1 n0 n1 r0 r1 f0 f1
    have HC := Lib.hid (setO hR3.out (.bool false) (.bool false))
    have HL := Lib.hid ((hB3.out.setCell (p := ⟨(w.heap.size + 2), 0, none⟩) (by show w.heap.size ≤ (w.heap.size + 2); omega) (.bool false)).setCell (p := ⟨(w.heap.size + 2), 1, none⟩) (by show w.heap.size ≤ (w.heap.size + 2); omega) (.bool false))
    obtain ⟨W9, hW9⟩ : ∃ W9, W9 = (W3.setCell ⟨(w.heap.size + 2), 0, none⟩ (.bool false)).setCell ⟨(w.heap.size + 2), 1, none⟩ (.bool false) := ⟨_, rfl⟩
    rw [← hW9] at HC HL ⊢
    clear hW9
    have c0 := cell_of_row _ _ 0 _ _ _ HC.out
    have c1 := cell_of_row _ _ 1 _ _ _ HC.out
    exact bodyPost_ret (v := .agg #[(.bool false), (.bool false)]) (by simp [results, Tryz.results42, go_sem, c0, c1]) rfl ⟨rfl, HL.out⟩
  · rw [show outV (b3 (some true) (some false)) = .agg #[.bool true, .bool false] from rfl]
    unfold outV
    obtain ⟨W1, hW1⟩ : ∃ W1, W1 = ((w.alloc (.cells #[.bool true, .bool true] 88)).alloc (.cells #[.bool true, .bool false] 88)).alloc (.cells #[.bool false, .bool false] 88) := ⟨_, rfl⟩
    have hB1 : Below w.heap.size w W1 := by rw [hW1]; exact (((Below.refl _ _).alloc (Nat.le_refl _) _).alloc (by simp) _).alloc (by simp; omega) _
    have hX1 : W1.heap[w.heap.size]? = some (.cells #[.bool true, .bool true] 88 (0, 0)) := by rw [hW1, Below.heap_alloc _ _ _ (by simp; omega), Below.heap_alloc _ _ _ (by simp)]; exact heap_alloc_new w _
    have hY1 : W1.heap[w.heap.size + 1]? = some (.cells #[.bool true, .bool false] 88 (0, 0)) := by rw [hW1, Below.heap_alloc _ _ _ (by simp)]; exact heap_alloc_new (w.alloc _) _ |> (by simpa using ·)
    have hR1 : W1.heap[w.heap.size + 2]? = some (.cells #[.bool false, .bool false] 88 (0, 0)) := by rw [hW1]; exact heap_alloc_new ((w.alloc _).alloc _) _ |> (by simpa using ·)
    have hz1 : W1.heap.size = w.heap.size + 3 := by rw [hW1]; simp
    have CK := Lib.hid (known_any false W1)
    replace hB1 := Lib.hid hB1
    replace hX1 := Lib.hid hX1
    replace hY1 := Lib.hid hY1
    replace hR1 := Lib.hid hR1
    go_enter Tryz.func42, Tryz.ntmps42
    go_wp2_with fail
    rw [← hW1]
    replace hW1 := Lib.hid hW1
    refine CK.out.mono ?_
    rintro _ w2 ⟨rfl, hb2⟩
    have hz2 := hb2.size
    obtain ⟨W3, hW3⟩ : ∃ W3, W3 = w2.alloc (.cells #[.bool true, .bool false] 88) := ⟨_, rfl⟩
    have hb3 : Below W1.heap.size W1 W3 := by rw [hW3]; exact hb2.alloc hz2 _
    have hN3 : W3.heap[w2.heap.size]? = some (.cells #[.bool true, .bool false] 88 (0, 0)) := by rw [hW3]; exact heap_alloc_new w2 _
    obtain ⟨x0, x1, _, _⟩ := cellsJ ((hb3.block _ (by omega)).trans hX1.out)
    obtain ⟨y0, y1, _, _⟩ := cellsJ ((hb3.block _ (by omega)).trans hY1.out)
    obtain ⟨n0, n1, _, _⟩ := cellsJ hN3
    have hR3 := (hb3.block _ (by omega)).trans hR1.out
    obtain ⟨r0, r1, f0, f1⟩ := cellsJ hR3
    have hB3 := hB1.out.trans (hb3.mono (by omega))
    replace hR3 := Lib.hid hR3
    replace hB3 := Lib.hid hB3
    replace hb2 := Lib.hid hb2
    replace hb3 := Lib.hid hb3
    replace hN3 := Lib.hid hN3
    rw [hW3] at x0 x1 y0 y1 n0 n1 r0 r1 f0 f1
    replace hW3 := Lib.hid hW3
    dsimp only []
    go_wp2_with fail
    rw [← hW3.out]
    clear x0 x1 y0 y1 n0 n1 r0 r1 f0 f1
    have HC := Lib.hid (setO hR3.out (.bool true) (.bool false))
    have HL := Lib.hid ((hB3.out.setCell (p := ⟨(w.heap.size + 2), 0, none⟩) (by show w.heap.size ≤ (w.heap.size + 2); omega) (.bool true)).setCell (p := ⟨(w.heap.size + 2), 1, none⟩) (by show w.heap.size ≤ (w.heap.size + 2); omega) (.bool false))
    obtain ⟨W9, hW9⟩ : ∃ W9, W9 = (W3.setCell ⟨(w.heap.size + 2), 0, none⟩ (.bool true)).setCell ⟨(w.heap.size + 2), 1, none⟩ (.bool false) := ⟨_, rfl⟩
    rw [← hW9] at HC HL ⊢
    clear hW9
    have c0 := cell_of_row _ _ 0 _ _ _ HC.out
    have c1 := cell_of_row _ _ 1 _ _ _ HC.out
    exact bodyPost_ret (v := .agg #[(.bool true), (.bool false)]) (by simp [results, Tryz.results42, go_sem, c0, c1]) rfl ⟨rfl, HL.out⟩
  · rw [show outV (b3 (some true) (some true)) = .agg #[.bool true, .bool true] from rfl]
    unfold outV
    obtain ⟨W1, hW1⟩ : ∃ W1, W1 = ((w.alloc (.cells #[.bool true, .bool true] 88)).alloc (.cells #[.bool true, .bool true] 88)).alloc (.cells #[.bool false, .bool false] 88) := ⟨_, rfl⟩
    have hB1 : Below w.heap.size w W1 := by rw [hW1]; exact (((Below.refl _ _).alloc (Nat.le_refl _) _).alloc (by simp) _).alloc (by simp; omega) _
    have hX1 : W1.heap[w.heap.size]? = some (.cells #[.bool true, .bool true] 88 (0, 0)) := by rw [hW1, Below.heap_alloc _ _ _ (by simp; omega), Below.heap_alloc _ _ _ (by simp)]; exact heap_alloc_new w _
    have hY1 : W1.heap[w.heap.size + 1]? = some (.cells #[.bool true, .bool true] 88 (0, 0)) := by rw [hW1, Below.heap_alloc _ _ _ (by simp)]; exact heap_alloc_new (w.alloc _) _ |> (by simpa using ·)
    have hR1 : W1.heap[w.heap.size + 2]? = some (.cells #[.bool false, .bool false] 88 (0, 0)) := by rw [hW1]; exact heap_alloc_new ((w.alloc _).alloc _) _ |> (by simpa using ·)
    have hz1 : W1.heap.size = w.heap.size + 3 := by rw [hW1]; simp
    have CK := Lib.hid (known_any false W1)
    replace hB1 := Lib.hid hB1
    replace hX1 := Lib.hid hX1
    replace hY1 := Lib.hid hY1
    replace hR1 := Lib.hid hR1
    go_enter Tryz.func42, Tryz.ntmps42
    go_wp2_with fail
    rw [← hW1]
    replace hW1 := Lib.hid hW1
    refine CK.out.mono ?_
    rintro _ w2 ⟨rfl, hb2⟩
    have hz2 := hb2.size
    obtain ⟨W3, hW3⟩ : ∃ W3, W3 = w2.alloc (.cells #[.bool true, .bool false] 88) := ⟨_, rfl⟩
    have hb3 : Below W1.heap.size W1 W3 := by rw [hW3]; exact hb2.alloc hz2 _
    have hN3 : W3.heap[w2.heap.size]? = some (.cells #[.bool true, .bool false] 88 (0, 0)) := by rw [hW3]; exact heap_alloc_new w2 _
    obtain ⟨x0, x1, _, _⟩ := cellsJ ((hb3.block _ (by omega)).trans hX1.out)
    obtain ⟨y0, y1, _, _⟩ := cellsJ ((hb3.block _ (by omega)).trans hY1.out)
    obtain ⟨n0, n1, _, _⟩ := cellsJ hN3
    have hR3 := (hb3.block _ (by omega)).trans hR1.out
    obtain ⟨r0, r1, f0, f1⟩ := cellsJ hR3
    have hB3 := hB1.out.trans (hb3.mono (by omega))
    replace hR3 := Lib.hid hR3
    replace hB3 := Lib.hid hB3
    replace hb2 := Lib.hid hb2
    replace hb3 := Lib.hid hb3
    replace hN3 := Lib.hid hN3
    rw [hW3] at x0 x1 y0 y1 n0 n1 r0 r1 f0 f1
    replace hW3 := Lib.hid hW3
    dsimp only []
    go_wp2_with fail
    rw [← hW3.out]
    clear x0 x1 y0 y1 n0 n1 r0 r1 f0 f1
    have HC := Lib.hid (setO hR3.out (.bool true) (.bool true))
    have HL := Lib.hid ((hB3.out.setCell (p := ⟨(w.heap.size + 2), 0, none⟩) (by show w.heap.size ≤ (w.heap.size + 2); omega) (.bool true)).setCell (p := ⟨(w.heap.size + 2), 1, none⟩) (by show w.heap.size ≤ (w.heap.size + 2); omega) (.bool true))
    obtain ⟨W9, hW9⟩ : ∃ W9, W9 = (W3.setCell ⟨(w.heap.size + 2), 0, none⟩ (.bool true)).setCell ⟨(w.heap.size + 2), 1, none⟩ (.bool true) := ⟨_, rfl⟩
    rw [← hW9] at HC HL ⊢
    clear hW9
    have c0 := cell_of_row _ _ 0 _ _ _ HC.out
    have c1 := cell_of_row _ _ 1 _ _ _ HC.out
    exact bodyPost_ret (v := .agg #[(.bool true), (.bool true)]) (by simp [results, Tryz.results42, go_sem, c0, c1]) rfl ⟨rfl, HL.out⟩
set_option maxRecDepth 4000 in
theorem outcomeOf_any (a : Int) (w : World) : Calls Tryz.prog 43 #[.int .i64 a] w fun en w' => en = .returned (outV (outI a)) ∧ Below w.heap.size w w' := by
  have CK := Lib.hid fun b W => known_any b W
  by_cases h0 : a = 0
  · subst h0
    rw [show outV (outI 0) = .agg #[.bool true, .bool false] from rfl]
    obtain ⟨W1, hW1⟩ : ∃ W1, W1 = w.alloc (.cells #[.bool false, .bool false] 88) := ⟨_, rfl⟩
    have hB1 : Below w.heap.size w W1 := by rw [hW1]; exact (Below.refl _ _).alloc (Nat.le_refl _) _
    have hR1 : W1.heap[w.heap.size]? = some (.cells #[.bool false, .bool false] 88 (0, 0)) := by rw [hW1]; exact heap_alloc_new w _
    have hz1 : W1.heap.size = w.heap.size + 1 := by rw [hW1]; simp
    replace hB1 := Lib.hid hB1
    replace hR1 := Lib.hid hR1
    go_enter Tryz.func43, Tryz.ntmps43
    go_wp2_with fail
    rw [← hW1]
    replace hW1 := Lib.hid hW1
    refine (CK.out _ _).mono ?_
    rintro _ w2 ⟨rfl, hb2⟩
    have hR2 := (hb2.block _ (by omega)).trans hR1.out
    have hB2 := hB1.out.trans (hb2.mono (by omega))
    obtain ⟨r0, r1, f0, f1⟩ := cellsJ hR2
    replace hR2 := Lib.hid hR2
    replace hB2 := Lib.hid hB2
    replace hb2 := Lib.hid hb2
    dsimp only []
    go_wp2_with fail
    clear r0 r1 f0 f1
    have HC := Lib.hid (setO hR2.out (.bool true) (.bool false))
    have HL := Lib.hid ((hB2.out.setCell (p := ⟨w.heap.size, 0, none⟩) (by show w.heap.size ≤ w.heap.size; omega) (.bool true)).setCell (p := ⟨w.heap.size, 1, none⟩) (by show w.heap.size ≤ w.heap.size; omega) (.bool false))
    obtain ⟨W9, hW9⟩ : ∃ W9, W9 = (w2.setCell ⟨w.heap.size, 0, none⟩ (.bool true)).setCell ⟨w.heap.size, 1, none⟩ (.bool false) := ⟨_, rfl⟩
    rw [← hW9] at HC HL ⊢
    clear hW9
    have c0 := cell_of_row _ _ 0 _ _ _ HC.out
    have c1 := cell_of_row _ _ 1 _ _ _ HC.out
    exact bodyPost_ret (v := .agg #[(.bool true), (.bool false)]) (by simp [results, Tryz.results43, go_sem, c0, c1]) rfl ⟨rfl, HL.out⟩
  by_cases h1 : a = 1
  · subst h1
    rw [show outV (outI 1) = .agg #[.bool true, .bool true] from rfl]
    obtain ⟨W1, hW1⟩ : ∃ W1, W1 = w.alloc (.cells #[.bool false, .bool false] 88) := ⟨_, rfl⟩
    have hB1 : Below w.heap.size w W1 := by rw [hW1]; exact (Below.refl _ _).alloc (Nat.le_refl _) _
    have hR1 : W1.heap[w.heap.size]? = some (.cells #[.bool false, .bool false] 88 (0, 0)) := by rw [hW1]; exact heap_alloc_new w _
    have hz1 : W1.heap.size = w.heap.size + 1 := by rw [hW1]; simp
    replace hB1 := Lib.hid hB1
    replace hR1 := Lib.hid hR1
    go_enter Tryz.func43, Tryz.ntmps43
    go_wp2_with fail
    rw [← hW1]
    replace hW1 := Lib.hid hW1
    refine (CK.out _ _).mono ?_
    rintro _ w2 ⟨rfl, hb2⟩
    have hR2 := (hb2.block _ (by omega)).trans hR1.out
    have hB2 := hB1.out.trans (hb2.mono (by omega))
    obtain ⟨r0, r1, f0, f1⟩ := cellsJ hR2
    replace hR2 := Lib.hid hR2
    replace hB2 := Lib.hid hB2
    replace hb2 := Lib.hid hb2
    dsimp only []
    go_wp2_with fail
    clear r0 r1 f0 f1
    have HC := Lib.hid (setO hR2.out (.bool true) (.bool true))
    have HL := Lib.hid ((hB2.out.setCell (p := ⟨w.heap.size, 0, none⟩) (by show w.heap.size ≤ w.heap.size; omega) (.bool true)).setCell (p := ⟨w.heap.size, 1, none⟩) (by show w.heap.size ≤ w.heap.size; omega) (.bool true))
    obtain ⟨W9, hW9⟩ : ∃ W9, W9 = (w2.setCell ⟨w.heap.size, 0, none⟩ (.bool true)).setCell ⟨w.heap.size, 1, none⟩ (.bool true) := ⟨_, rfl⟩
    rw [← hW9] at HC HL ⊢
    clear hW9
    have c0 := cell_of_row _ _ 0 _ _ _ HC.out
    have c1 := cell_of_row _ _ 1 _ _ _ HC.out
    exact bodyPost_ret (v := .agg #[(.bool true), (.bool true)]) (by simp [results, Tryz.results43, go_sem, c0, c1]) rfl ⟨rfl, HL.out⟩
  rw [show outV (outI a) = .agg #[.bool false, .bool false] by unfold outI; rw [if_neg h0, if_neg h1]; rfl]
  have k0 : (a == 0) = false := by simpa using h0
  have k1 : (a == 1) = false := by simpa using h1
  have k2 : (a != 0) = true := by simpa using h0
  have k3 : (a != 1) = true := by simpa using h1
  go_enter Tryz.func43, Tryz.ntmps43
  go_wp2_with fail
  go_returns
  exact ⟨rfl, by go_grown⟩
set_option maxRecDepth 4000 in
theorem number_any (x : Out) (w : World) : Calls Tryz.prog 44 #[outV x] w fun en w' => en = .returned (.int .i64 (numI x)) ∧ Below w.heap.size w w' := by
  have CK := Lib.hid fun b W => known_any b W
  have hbe := Lib.hid fun o : Obj => ((Below.refl w.heap.size w).alloc (Nat.le_refl _) o)
  rcases x with _ | (_ | _)
  · rw [show numI none = 2 from rfl]
    unfold outV
    go_enter Tryz.func44, Tryz.ntmps44
    go_wp2_with fail
    refine (CK.out _ _).mono ?_
    rintro _ w2 ⟨rfl, hb2⟩
    have hB2 := Lib.hid ((hbe.out _).trans (hb2.mono (by simp)))
    replace hb2 := Lib.hid hb2
    dsimp only []
    go_wp2_with fail
    refine (CK.out _ _).mono ?_
    rintro _ w3 ⟨rfl, hb3⟩
    have hB3 := Lib.hid (hB2.out.trans (hb3.mono hB2.out.size))
    replace hb3 := Lib.hid hb3
    dsimp only []
    go_wp2_with fail
    go_ret
    exact ⟨rfl, hB3.out⟩
  · rw [show numI (some false) = 0 from rfl]
    unfold outV
    go_enter Tryz.func44, Tryz.ntmps44
    go_wp2_with fail
    refine (CK.out _ _).mono ?_
    rintro _ w2 ⟨rfl, hb2⟩
    have hB2 := Lib.hid ((hbe.out _).trans (hb2.mono (by simp)))
    replace hb2 := Lib.hid hb2
    dsimp only []
    go_wp2_with fail
    go_ret
    exact ⟨rfl, hB2.out⟩
  · rw [show numI (some true) = 1 from rfl]
    unfold outV
    go_enter Tryz.func44, Tryz.ntmps44
    go_wp2_with fail
    refine (CK.out _ _).mono ?_
    rintro _ w2 ⟨rfl, hb2⟩
    have hB2 := Lib.hid ((hbe.out _).trans (hb2.mono (by simp)))
    replace hb2 := Lib.hid hb2
    dsimp only []
    go_wp2_with fail
    refine (CK.out _ _).mono ?_
    rintro _ w3 ⟨rfl, hb3⟩
    have hB3 := Lib.hid (hB2.out.trans (hb3.mono hB2.out.size))
    replace hb3 := Lib.hid hb3
    dsimp only []
    go_wp2_with fail
    go_ret
    exact ⟨rfl, hB3.out⟩
theorem outV_form (x : Out) : ∃ a b : Bool, outV x = .agg #[.bool a, .bool b] := by
  rcases x with _ | b
  · exact ⟨_, _, rfl⟩
  · exact ⟨_, _, rfl⟩
set_option maxRecDepth 4000 in
theorem Both_any (a b : Int) (w : World) : Calls Tryz.prog 15 #[.int .i64 a, .int .i64 b] w fun en w' => en = .returned (.int .i64 (numI (b3 (outI a) (outI b)))) ∧ Below w.heap.size w w' := by
  have CO := Lib.hid fun a W => outcomeOf_any a W
  have CB := Lib.hid fun W => both_any (outI a) (outI b) W
  have CN := Lib.hid fun W => number_any (b3 (outI a) (outI b)) W
  go_enter Tryz.func15, Tryz.ntmps15
  go_wp2_with fail
  refine (CO.out a _).mono ?_
  rintro _ w1 ⟨rfl, hb1⟩
  replace hb1 := Lib.hid hb1
  dsimp only []
  go_wp2_with fail
  refine (CO.out b _).mono ?_
  rintro _ w2 ⟨rfl, hb2⟩
  have hB2 := Lib.hid (hb1.out.trans (hb2.mono hb1.out.size))
  dsimp only []
  go_wp2_with fail
  refine (CB.out _).mono ?_
  rintro _ w3 ⟨rfl, hb3⟩
  have hB3 := Lib.hid (hB2.out.trans (hb3.mono hB2.out.size))
  dsimp only []
  go_wp2_with fail
  refine (CN.out _).mono ?_
  rintro _ w4 ⟨rfl, hb4⟩
  have hB4 := Lib.hid (hB3.out.trans (hb4.mono hB3.out.size))
  dsimp only []
  go_wp2_with fail
  go_ret
  exact ⟨rfl, hB4.out⟩
set_option maxRecDepth 4000 in
theorem Turned_any (a : Int) (w : World) : Calls Tryz.prog 19 #[.int .i64 a] w fun en w' => en = .returned (.int .i64 (numI (t3 (outI a)))) ∧ Below w.heap.size w w' := by
  have CO := Lib.hid fun a W => outcomeOf_any a W
  have CB := Lib.hid fun W => turned_any (outI a) W
  have CN := Lib.hid fun W => number_any (t3 (outI a)) W
  go_enter Tryz.func19, Tryz.ntmps19
  go_wp2_with fail
  refine (CO.out a _).mono ?_
  rintro _ w1 ⟨rfl, hb1⟩
  replace hb1 := Lib.hid hb1
  dsimp only []
  go_wp2_with fail
  refine (CB.out _).mono ?_
  rintro _ w2 ⟨rfl, hb2⟩
  have hB2 := Lib.hid (hb1.out.trans (hb2.mono hb1.out.size))
  dsimp only []
  go_wp2_with fail
  refine (CN.out _).mono ?_
  rintro _ w3 ⟨rfl, hb3⟩
  have hB3 := Lib.hid (hB2.out.trans (hb3.mono hB2.out.size))
  dsimp only []
  go_wp2_with fail
  go_ret
  exact ⟨rfl, hB3.out⟩
end Go.Proofs.YtkffgdndglfcfaaGreatDoor
