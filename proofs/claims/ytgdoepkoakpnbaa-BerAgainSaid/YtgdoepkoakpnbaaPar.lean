/-
  The program's Parse: the deferred closure.
-/
import Derived.Test.YtgdoepkoakpnbaaDec
import Derived.Test.YtgdoepkoakpnbaaBerParse
import Derived.Defers
import Derived.Recover
import Derived.RegionTactic
import Derived.ChangeAlike
namespace Go.Proofs.Ytgdoepkoakpnbaa
open Go.RowKit

theorem catchP_idle (p q s : Addr) (w : World) :
    CallsD Try.prog 32 #[.pointer (some p), .pointer (some q), .pointer (some s)] .returning w fun e u' w' => e = .returned (.tuple #[]) ∧ u' = .returning ∧ w' = w := by
  refine callsD_of_wpS Try.func32 rfl fun c₀ cs hu => ?_
  apply wpS_seq
  apply wpS_region
  simp [wpOpsS, go_sem, recoverD, hu, Try.ntmps32, Exit.thenS]
  refine wpS_of_wp ?_
  change Code.wp _ _ _ { tmps := #[.pointer (some p), .pointer (some q), .pointer (some s), .nilIface, .nilIface, undef, undef, undef, undef, undef], defers := [] } _
  go_wp2_with fail
  cases c₀
  simp_all [bodyPostS, results, Try.results32]
theorem catchP_pan (b1 b2 b3 e : Nat) (older : List PanicEntry) (w : World) (v0 v1 v2 v3 v4 x y : Value) (h1 : w.heap[b1]? = some (.cells #[v0, v1, v2, v3, v4] 27 (0, 0)))
    (h2 : w.heap[b2]? = some (.cells #[x] 3 (0, 0))) (h3 : w.heap[b3]? = some (.cells #[y] 33 (0, 0))) (h12 : b1 ≠ b2) (h13 : b1 ≠ b3) (h23 : b2 ≠ b3) :
    CallsD Try.prog 32 #[.pointer (some ⟨b1, 0, none⟩), .pointer (some ⟨b2, 0, none⟩), .pointer (some ⟨b3, 0, none⟩)] (.panicking ({ v := .iface 33 (.int .i64 (e : Int)), recovered := false } :: older)) w fun en u' w' =>
      en = .returned (.tuple #[]) ∧ u' = .panicking ({ v := .iface 33 (.int .i64 (e : Int)), recovered := true } :: older) ∧
        w' = (((set5 w b1 (.int .i64 0) (.bool false) (.int .i64 0) (.slice none 0 0) (.slice none 0 0)).setCell ⟨b2, 0, none⟩ (.int .i64 0)).setCell ⟨b3, 0, none⟩ (.int .i64 (e : Int))).drew := by
  refine callsD_of_wpS Try.func32 rfl fun c₀ cs hu => ?_
  apply wpS_seq
  apply wpS_region
  simp [wpOpsS, go_sem, recoverD, hu, Try.ntmps32, Exit.thenS]
  refine wpS_of_wp ?_
  change Code.wp _ _ _ { tmps := #[.pointer (some ⟨b1, 0, none⟩), .pointer (some ⟨b2, 0, none⟩), .pointer (some ⟨b3, 0, none⟩), .iface 33 (.int .i64 (e : Int)), .iface 33 (.int .i64 (e : Int)), undef, undef, undef, undef, undef], defers := [] } _
  obtain ⟨r0, r1, r2, r3, r4, f0, f1, f2, f3, f4⟩ := cells5 h1
  have x0 := cell_of_one h2
  have x1 := free_of_one h2
  have y0 := cell_of_one h3
  have y1 := free_of_one h3
  replace h1 := Lib.hid h1
  replace h2 := Lib.hid h2
  replace h3 := Lib.hid h3
  go_wp2_with fail
  have hta : ∀ w : World, (Instr.typeAssert (.iface 33 (.int .i64 (e : Int))) 20 33 false).run Try.prog w = .ok (.int .i64 (e : Int)) w := fun w => by kernel_rfl
  go_region
  all_goals
    change bodyPostS _ _ _ _ _ _ _ _ _
    simp [bodyPostS, results, Try.results32, set5]

/-- What the program's Parse answers. -/
def ParQ (q : El × Nat × Nat) (w : World) (en : Ending) (w' : World) : Prop :=
  ∃ (Ab : Option Addr) (cb : Nat) (Ak : Option Addr) (ck : Nat), en = .returned (.tuple #[elV q.1 Ab cb Ak ck, .int .i64 (q.2.1 : Int), .int .i64 (q.2.2 : Int)]) ∧
    ElIn w' (New w.heap.size w') q.1 Ab cb Ak ck ∧ Below w.heap.size w w'

theorem par_cells {w W : World} {z : Nat} {v0 v1 v2 v3 v4 x y : Value} (hXW : W.heap[z]? = some (.cells #[v0, v1, v2, v3, v4] 27 (0, 0)))
    (hNW : W.heap[z + 1]? = some (.cells #[x] 3 (0, 0))) (hEW : W.heap[z + 2]? = some (.cells #[y] 33 (0, 0))) (hB : Below z w W) (u0 u1 u2 u3 u4 a b : Value) :
    (((set5 W z u0 u1 u2 u3 u4).setCell ⟨z + 1, 0, none⟩ a).setCell ⟨z + 2, 0, none⟩ b).heap[z]? = some (.cells #[u0, u1, u2, u3, u4] 27 (0, 0)) ∧
      (((set5 W z u0 u1 u2 u3 u4).setCell ⟨z + 1, 0, none⟩ a).setCell ⟨z + 2, 0, none⟩ b).heap[z + 1]? = some (.cells #[a] 3 (0, 0)) ∧
      (((set5 W z u0 u1 u2 u3 u4).setCell ⟨z + 1, 0, none⟩ a).setCell ⟨z + 2, 0, none⟩ b).heap[z + 2]? = some (.cells #[b] 33 (0, 0)) ∧
      Below z w (((set5 W z u0 u1 u2 u3 u4).setCell ⟨z + 1, 0, none⟩ a).setCell ⟨z + 2, 0, none⟩ b) := by
  have h5 : ∀ k, z < k → (set5 W z u0 u1 u2 u3 u4).heap[k]? = W.heap[k]? := by
    intro k hk
    unfold set5
    rw [Below.heap_setCell _ _ _ _ (by show k ≠ z; omega), Below.heap_setCell _ _ _ _ (by show k ≠ z; omega), Below.heap_setCell _ _ _ _ (by show k ≠ z; omega), Below.heap_setCell _ _ _ _ (by show k ≠ z; omega), Below.heap_setCell _ _ _ _ (by show k ≠ z; omega)]
  refine ⟨?_, ?_, ?_, ((set5_below hB (Nat.le_refl _) _ _ _ _ _).setCell (by show z ≤ z + 1; omega) _).setCell (by show z ≤ z + 2; omega) _⟩
  · rw [_root_.Go.heap_setCell_other _ _ _ _ (by show z ≠ z + 2; omega), _root_.Go.heap_setCell_other _ _ _ _ (by show z ≠ z + 1; omega)]
    exact set5_same hXW _ _ _ _ _
  · rw [_root_.Go.heap_setCell_other _ _ _ _ (by show z + 1 ≠ z + 2; omega)]
    rw [_root_.Go.heap_setCell_same _ _ _ _ _ _ ((h5 _ (by omega)).trans hNW)]
    rfl
  · have h6 : ((set5 W z u0 u1 u2 u3 u4).setCell ⟨z + 1, 0, none⟩ a).heap[z + 2]? = some (.cells #[y] 33 (0, 0)) := by
      rw [_root_.Go.heap_setCell_other _ _ _ _ (by show z + 2 ≠ z + 1; omega)]
      exact (h5 _ (by omega)).trans hEW
    rw [_root_.Go.heap_setCell_same _ _ _ _ _ _ h6]
    rfl
theorem par_post {q : El × Nat × Nat} {w w' : World} (h : q.1 = el0) (hB : Below w.heap.size w w') : ParQ q w (.returned (.tuple #[.agg #[.int .i64 0, .bool false, .int .i64 0, .slice none 0 0, .slice none 0 0], .int .i64 (q.2.1 : Int), .int .i64 (q.2.2 : Int)])) w' := by
  obtain ⟨e, n, er⟩ := q
  simp only at h
  subst h
  exact ⟨none, 0, none, 0, rfl, el0_in _ _, hB⟩

set_option maxRecDepth 8000 in
set_option maxHeartbeats 800000 in
theorem par_err (A : Option Addr) (cp n e : Nat) (w : World) (he : e ≠ 0) (CN : Hid (∀ w', Below w.heap.size w w' → Calls Try.prog 30 #[.slice A n cp] w' fun en w'' => en = .returned (.tuple #[.agg #[.int .i64 0, .bool false, .int .i64 0, .int .i64 0, .int .i64 0], .int .i64 (e : Int)]) ∧ Below w'.heap.size w' w'')) :
    Calls Try.prog 17 #[.slice A n cp] w (ParQ (el0, 0, e) w) := by
  have ke : ((e : Int) != 0) = true := by simp; omega
  obtain ⟨W0, hW0⟩ : ∃ W0, W0 = ((w.alloc (.cells #[.int .i64 0, .bool false, .int .i64 0, .slice none 0 0, .slice none 0 0] 27)).alloc (.cells #[.int .i64 0] 3)).alloc (.cells #[.int .i64 0] 33) := ⟨_, rfl⟩
  have hB0 : Below w.heap.size w W0 := by rw [hW0]; go_grown
  have hz0 : W0.heap.size = w.heap.size + 3 := by rw [hW0]; simp
  have hX0 : W0.heap[w.heap.size]? = some (.cells #[.int .i64 0, .bool false, .int .i64 0, .slice none 0 0, .slice none 0 0] 27 (0, 0)) := by
    rw [hW0, Below.heap_alloc _ _ _ (by simp; omega), Below.heap_alloc _ _ _ (by simp)]; exact heap_alloc_new w _
  have hN0 : W0.heap[w.heap.size + 1]? = some (.cells #[.int .i64 0] 3 (0, 0)) := by
    rw [hW0, Below.heap_alloc _ _ _ (by simp)]; exact heap_alloc_new (w.alloc _) _ |> (by simpa using ·)
  have hE0 : W0.heap[w.heap.size + 2]? = some (.cells #[.int .i64 0] 33 (0, 0)) := by
    rw [hW0]; exact heap_alloc_new ((w.alloc _).alloc _) _ |> (by simpa using ·)
  go_enter_defers Try.func17, Try.ntmps17
  go_wp2_with fail
  rw [← hW0]
  clear hW0
  refine (CN.out W0 hB0).mono ?_
  rintro en w2 ⟨rfl, hb2⟩
  have hz2 := hb2.size
  have hE2 : ∀ ob : Obj, (w2.alloc ob).heap[w.heap.size + 2]? = some (.cells #[.int .i64 0] 33 (0, 0)) := fun ob => by
    rw [Below.heap_alloc _ _ _ (by omega), hb2.block _ (by omega)]; exact hE0
  have e0 : ∀ ob : Obj, (w2.alloc ob).cell? ⟨w.heap.size + 2, 0, none⟩ = some (.int .i64 0) := fun ob => cell_of_one (hE2 ob)
  have e1 : ∀ ob : Obj, (w2.alloc ob).frozen? ⟨w.heap.size + 2, 0, none⟩ = false := fun ob => free_of_one (hE2 ob)
  go_wp2_with fail
  obtain ⟨W, hW⟩ : ∃ W, W = (w2.alloc (.cells #[.int .i64 0, .bool false, .int .i64 0, .int .i64 0, .int .i64 0] 71)).setCell ⟨w.heap.size + 2, 0, none⟩ (.int .i64 (e : Int)) := ⟨_, rfl⟩
  have hBW : Below w.heap.size w W := by rw [hW]; exact ((hB0.trans (hb2.mono (by omega))).alloc (by omega) _).setCell (by show w.heap.size ≤ w.heap.size + 2; omega) _
  have hXW : W.heap[w.heap.size]? = some (.cells #[.int .i64 0, .bool false, .int .i64 0, .slice none 0 0, .slice none 0 0] 27 (0, 0)) := by
    rw [hW, _root_.Go.heap_setCell_other _ _ _ _ (by show w.heap.size ≠ w.heap.size + 2; omega), Below.heap_alloc _ _ _ (by omega), hb2.block _ (by omega)]; exact hX0
  have hNW : W.heap[w.heap.size + 1]? = some (.cells #[.int .i64 0] 3 (0, 0)) := by
    rw [hW, _root_.Go.heap_setCell_other _ _ _ _ (by show w.heap.size + 1 ≠ w.heap.size + 2; omega), Below.heap_alloc _ _ _ (by omega), hb2.block _ (by omega)]; exact hN0
  have hEW : W.heap[w.heap.size + 2]? = some (.cells #[.int .i64 (e : Int)] 33 (0, 0)) := by
    rw [hW, _root_.Go.heap_setCell_same _ _ _ _ _ _ (hE2 _)]; rfl
  have hHW : W.heap[w2.heap.size]? = some (.cells #[.int .i64 0, .bool false, .int .i64 0, .int .i64 0, .int .i64 0] 71 (0, 0)) := by
    rw [hW, _root_.Go.heap_setCell_other _ _ _ _ (by show w2.heap.size ≠ w.heap.size + 2; omega)]; exact heap_alloc_new w2 _
  have hsW : W.heap.size = w2.heap.size + 1 := by rw [hW]; simp [World.setCell]
  rw [← hW]
  clear hW e0 e1
  obtain ⟨r0, r1, r2, r3, r4, f0, f1, f2, f3, f4⟩ := cells5 hXW
  have n0 := cell_of_one hNW
  have n1 := free_of_one hNW
  have m0 := cell_of_one hEW
  have m1 := free_of_one hEW
  obtain ⟨k0, k1, k2, k3, k4, _⟩ := cells5 hHW
  replace hXW := Lib.hid hXW
  replace hNW := Lib.hid hNW
  replace hEW := Lib.hid hEW
  replace hHW := Lib.hid hHW
  replace hBW := Lib.hid hBW
  replace hE2 := Lib.hid hE2
  replace hb2 := Lib.hid hb2
  replace hX0 := Lib.hid hX0
  replace hN0 := Lib.hid hN0
  replace hE0 := Lib.hid hE0
  replace hB0 := Lib.hid hB0
  replace hz0 := Lib.hid hz0
  go_region
  clear r0 r1 r2 r3 r4 f0 f1 f2 f3 f4 n0 n1 m0 m1 k0 k1 k2 k3 k4
  obtain ⟨W9, hW9⟩ : ∃ W9, W9 = ((set5 W w.heap.size (.int .i64 0) (.bool false) (.int .i64 0) (.slice none 0 0) (.slice none 0 0)).setCell ⟨w.heap.size + 1, 0, none⟩ (.int .i64 0)).setCell ⟨w.heap.size + 2, 0, none⟩ (.int .i64 (e : Int)) := ⟨_, rfl⟩
  obtain ⟨c1, c2, c3, c4⟩ := par_cells hXW.out hNW.out hEW.out hBW.out (.int .i64 0) (.bool false) (.int .i64 0) (.slice none 0 0) (.slice none 0 0) (.int .i64 0) (.int .i64 (e : Int))
  rw [← hW9] at c1 c2 c3 c4
  have HX : (((((((W.setCell ⟨w.heap.size, 0, none⟩ (.int .i64 0)).setCell ⟨w.heap.size, 1, none⟩ (.bool false)).setCell ⟨w.heap.size, 2, none⟩ (.int .i64 0)).setCell ⟨w.heap.size, 3, none⟩ (.slice none 0 0)).setCell ⟨w.heap.size, 4, none⟩ (.slice none 0 0)).setCell ⟨w.heap.size + 1, 0, none⟩ (.int .i64 0)).setCell ⟨w.heap.size + 2, 0, none⟩ (.int .i64 (e : Int))) = W9 := hW9.symm
  rw [HX]
  clear HX hW9
  obtain ⟨q0, q1, q2, q3, q4, _⟩ := cells5 c1
  have q5 := cell_of_one c2
  have q6 := cell_of_one c3
  replace c1 := Lib.hid c1
  replace c2 := Lib.hid c2
  replace c3 := Lib.hid c3
  go_wp2_with fail
  exact ⟨.tuple #[.agg #[.int .i64 0, .bool false, .int .i64 0, .slice none 0 0, .slice none 0 0], .int .i64 0, .int .i64 (e : Int)], by simp [results, Try.results17, go_sem, q0, q1, q2, q3, q4, q5, q6], par_post (q := (el0, 0, e)) rfl ⟨c4.os, c4.tape, c4.output, c4.size, c4.block⟩⟩

set_option maxRecDepth 8000 in
set_option maxHeartbeats 800000 in
theorem par_short (A : Option Addr) (cp n c k fr al : Nat) (m : Bool) (w : World) (hn : n < al) (CN : Hid (∀ w', Below w.heap.size w w' → Calls Try.prog 30 #[.slice A n cp] w' fun en w'' => en = .returned (.tuple #[.agg #[.int .i64 (c : Int), .bool m, .int .i64 (k : Int), .int .i64 (fr : Int), .int .i64 (al : Int)], .int .i64 0]) ∧ Below w'.heap.size w' w'')) :
    Calls Try.prog 17 #[.slice A n cp] w (ParQ (el0, 0, 10) w) := by
  have kn : decide ((n : Int) < (al : Int)) = true := decide_eq_true (by omega)
  obtain ⟨W0, hW0⟩ : ∃ W0, W0 = ((w.alloc (.cells #[.int .i64 0, .bool false, .int .i64 0, .slice none 0 0, .slice none 0 0] 27)).alloc (.cells #[.int .i64 0] 3)).alloc (.cells #[.int .i64 0] 33) := ⟨_, rfl⟩
  have hB0 : Below w.heap.size w W0 := by rw [hW0]; go_grown
  have hz0 : W0.heap.size = w.heap.size + 3 := by rw [hW0]; simp
  have hX0 : W0.heap[w.heap.size]? = some (.cells #[.int .i64 0, .bool false, .int .i64 0, .slice none 0 0, .slice none 0 0] 27 (0, 0)) := by
    rw [hW0, Below.heap_alloc _ _ _ (by simp; omega), Below.heap_alloc _ _ _ (by simp)]; exact heap_alloc_new w _
  have hN0 : W0.heap[w.heap.size + 1]? = some (.cells #[.int .i64 0] 3 (0, 0)) := by
    rw [hW0, Below.heap_alloc _ _ _ (by simp)]; exact heap_alloc_new (w.alloc _) _ |> (by simpa using ·)
  have hE0 : W0.heap[w.heap.size + 2]? = some (.cells #[.int .i64 0] 33 (0, 0)) := by
    rw [hW0]; exact heap_alloc_new ((w.alloc _).alloc _) _ |> (by simpa using ·)
  go_enter_defers Try.func17, Try.ntmps17
  go_wp2_with fail
  rw [← hW0]
  clear hW0
  refine (CN.out W0 hB0).mono ?_
  rintro en w2 ⟨rfl, hb2⟩
  have hz2 := hb2.size
  have hE2 : ∀ ob : Obj, (w2.alloc ob).heap[w.heap.size + 2]? = some (.cells #[.int .i64 0] 33 (0, 0)) := fun ob => by
    rw [Below.heap_alloc _ _ _ (by omega), hb2.block _ (by omega)]; exact hE0
  have e0 : ∀ ob : Obj, (w2.alloc ob).cell? ⟨w.heap.size + 2, 0, none⟩ = some (.int .i64 0) := fun ob => cell_of_one (hE2 ob)
  have e1 : ∀ ob : Obj, (w2.alloc ob).frozen? ⟨w.heap.size + 2, 0, none⟩ = false := fun ob => free_of_one (hE2 ob)
  have hX2 : ∀ ob : Obj, (w2.alloc ob).heap[w.heap.size]? = some (.cells #[.int .i64 0, .bool false, .int .i64 0, .slice none 0 0, .slice none 0 0] 27 (0, 0)) := fun ob => by
    rw [Below.heap_alloc _ _ _ (by omega), hb2.block _ (by omega)]; exact hX0
  have hN2 : ∀ ob : Obj, (w2.alloc ob).heap[w.heap.size + 1]? = some (.cells #[.int .i64 0] 3 (0, 0)) := fun ob => by
    rw [Below.heap_alloc _ _ _ (by omega), hb2.block _ (by omega)]; exact hN0
  have hne : w2.heap.size ≠ w.heap.size + 2 := by omega
  obtain ⟨r0, r1, r2, r3, r4, f0, f1, f2, f3, f4⟩ := cells5A hX2
  have n0 : ∀ ob : Obj, (w2.alloc ob).cell? ⟨w.heap.size + 1, 0, none⟩ = some (.int .i64 0) := fun ob => cell_of_one (hN2 ob)
  have n1 : ∀ ob : Obj, (w2.alloc ob).frozen? ⟨w.heap.size + 1, 0, none⟩ = false := fun ob => free_of_one (hN2 ob)
  replace hX2 := Lib.hid hX2
  replace hN2 := Lib.hid hN2
  replace hE2 := Lib.hid hE2
  replace hb2 := Lib.hid hb2
  replace hX0 := Lib.hid hX0
  replace hN0 := Lib.hid hN0
  replace hE0 := Lib.hid hE0
  replace hB0 := Lib.hid hB0
  replace hz0 := Lib.hid hz0
  go_wp2_with fail
  clear r0 r1 r2 r3 r4 f0 f1 f2 f3 f4 n0 n1
  obtain ⟨W, hW⟩ : ∃ W, W = (w2.alloc (.cells #[.int .i64 (c : Int), .bool m, .int .i64 (k : Int), .int .i64 (fr : Int), .int .i64 (al : Int)] 71)).setCell ⟨w.heap.size + 2, 0, none⟩ (.int .i64 0) := ⟨_, rfl⟩
  have hBW : Below w.heap.size w W := by rw [hW]; exact ((hB0.out.trans (hb2.out.mono (by have := hz0.out; omega))).alloc (by have := hz0.out; omega) _).setCell (by show w.heap.size ≤ w.heap.size + 2; omega) _
  have hXW : W.heap[w.heap.size]? = some (.cells #[.int .i64 0, .bool false, .int .i64 0, .slice none 0 0, .slice none 0 0] 27 (0, 0)) := by
    rw [hW, _root_.Go.heap_setCell_other _ _ _ _ (by show w.heap.size ≠ w.heap.size + 2; omega), Below.heap_alloc _ _ _ (by have := hz0.out; omega), hb2.out.block _ (by have := hz0.out; omega)]; exact hX0.out
  have hNW : W.heap[w.heap.size + 1]? = some (.cells #[.int .i64 0] 3 (0, 0)) := by
    rw [hW, _root_.Go.heap_setCell_other _ _ _ _ (by show w.heap.size + 1 ≠ w.heap.size + 2; omega), Below.heap_alloc _ _ _ (by have := hz0.out; omega), hb2.out.block _ (by have := hz0.out; omega)]; exact hN0.out
  have hEW : W.heap[w.heap.size + 2]? = some (.cells #[.int .i64 0] 33 (0, 0)) := by
    rw [hW, _root_.Go.heap_setCell_same _ _ _ _ _ _ (hE2.out _)]; rfl
  have hHW : W.heap[w2.heap.size]? = some (.cells #[.int .i64 (c : Int), .bool m, .int .i64 (k : Int), .int .i64 (fr : Int), .int .i64 (al : Int)] 71 (0, 0)) := by
    rw [hW, _root_.Go.heap_setCell_other _ _ _ _ (by show w2.heap.size ≠ w.heap.size + 2; omega)]; exact heap_alloc_new w2 _
  have hsW : W.heap.size = w2.heap.size + 1 := by rw [hW]; simp [World.setCell]
  rw [← hW]
  clear hW e0 e1
  obtain ⟨r0, r1, r2, r3, r4, f0, f1, f2, f3, f4⟩ := cells5 hXW
  have n0 := cell_of_one hNW
  have n1 := free_of_one hNW
  have m0 := cell_of_one hEW
  have m1 := free_of_one hEW
  obtain ⟨k0, k1, k2, k3, k4, _⟩ := cells5 hHW
  clear r0 r1 r2 r3 r4 f0 f1 f2 f3 f4 n0 n1 m0 m1 k0 k1 k2 k3 k4
  replace hXW := Lib.hid hXW
  replace hNW := Lib.hid hNW
  replace hEW := Lib.hid hEW
  replace hBW := Lib.hid hBW
  obtain ⟨W9, hW9⟩ : ∃ W9, W9 = ((set5 W w.heap.size (.int .i64 0) (.bool false) (.int .i64 0) (.slice none 0 0) (.slice none 0 0)).setCell ⟨w.heap.size + 1, 0, none⟩ (.int .i64 0)).setCell ⟨w.heap.size + 2, 0, none⟩ (.int .i64 10) := ⟨_, rfl⟩
  obtain ⟨c1, c2, c3, c4⟩ := par_cells hXW.out hNW.out hEW.out hBW.out (.int .i64 0) (.bool false) (.int .i64 0) (.slice none 0 0) (.slice none 0 0) (.int .i64 0) (.int .i64 10)
  rw [← hW9] at c1 c2 c3 c4
  have HX : (((((((W.setCell ⟨w.heap.size, 0, none⟩ (.int .i64 0)).setCell ⟨w.heap.size, 1, none⟩ (.bool false)).setCell ⟨w.heap.size, 2, none⟩ (.int .i64 0)).setCell ⟨w.heap.size, 3, none⟩ (.slice none 0 0)).setCell ⟨w.heap.size, 4, none⟩ (.slice none 0 0)).setCell ⟨w.heap.size + 1, 0, none⟩ (.int .i64 0)).setCell ⟨w.heap.size + 2, 0, none⟩ (.int .i64 10)) = W9 := hW9.symm
  rw [HX]
  clear HX hW9
  obtain ⟨q0, q1, q2, q3, q4, _⟩ := cells5 c1
  have q5 := cell_of_one c2
  have q6 := cell_of_one c3
  replace c1 := Lib.hid c1
  replace c2 := Lib.hid c2
  replace c3 := Lib.hid c3
  exact ⟨.tuple #[.agg #[.int .i64 0, .bool false, .int .i64 0, .slice none 0 0, .slice none 0 0], .int .i64 0, .int .i64 10], by simp [results, Try.results17, go_sem, q0, q1, q2, q3, q4, q5, q6], par_post (q := (el0, 0, 10)) rfl c4⟩
end Go.Proofs.Ytgdoepkoakpnbaa
