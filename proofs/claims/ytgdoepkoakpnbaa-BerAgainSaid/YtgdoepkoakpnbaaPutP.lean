/-
  The program's Put.
-/
import Derived.Test.YtgdoepkoakpnbaaToo
import Derived.Test.YtgdoepkoakpnbaaEnc
import Derived.Defers
import Derived.Recover
import Derived.RegionTactic
import Derived.ChangeAlike
namespace Go.Proofs.Ytgdoepkoakpnbaa
open Go.RowKit

theorem catchU_idle (p q : Addr) (w : World) :
    CallsD Try.prog 22 #[.pointer (some p), .pointer (some q)] .returning w fun e u' w' => e = .returned (.tuple #[]) ∧ u' = .returning ∧ w' = w := by
  refine callsD_of_wpS Try.func22 rfl fun c₀ cs hu => ?_
  apply wpS_seq
  apply wpS_region
  simp [wpOpsS, go_sem, recoverD, hu, Try.ntmps22, Exit.thenS]
  refine wpS_of_wp ?_
  change Code.wp _ _ _ { tmps := #[.pointer (some p), .pointer (some q), .nilIface, .nilIface, undef, undef, undef, undef], defers := [] } _
  go_wp2_with fail
  cases c₀
  simp_all [bodyPostS, results, Try.results22]
theorem catchU_pan (b1 b2 e : Nat) (older : List PanicEntry) (w : World) (x y : Value) (h1 : w.heap[b1]? = some (.cells #[x] 24 (0, 0))) (h2 : w.heap[b2]? = some (.cells #[y] 33 (0, 0))) (h12 : b1 ≠ b2) :
    CallsD Try.prog 22 #[.pointer (some ⟨b1, 0, none⟩), .pointer (some ⟨b2, 0, none⟩)] (.panicking ({ v := .iface 33 (.int .i64 (e : Int)), recovered := false } :: older)) w fun en u' w' =>
      en = .returned (.tuple #[]) ∧ u' = .panicking ({ v := .iface 33 (.int .i64 (e : Int)), recovered := true } :: older) ∧ w' = ((w.setCell ⟨b1, 0, none⟩ (.slice none 0 0)).setCell ⟨b2, 0, none⟩ (.int .i64 (e : Int))).drew := by
  refine callsD_of_wpS Try.func22 rfl fun c₀ cs hu => ?_
  apply wpS_seq
  apply wpS_region
  simp [wpOpsS, go_sem, recoverD, hu, Try.ntmps22, Exit.thenS]
  refine wpS_of_wp ?_
  change Code.wp _ _ _ { tmps := #[.pointer (some ⟨b1, 0, none⟩), .pointer (some ⟨b2, 0, none⟩), .iface 33 (.int .i64 (e : Int)), .iface 33 (.int .i64 (e : Int)), undef, undef, undef, undef], defers := [] } _
  have x0 := cell_of_one h1
  have x1 := free_of_one h1
  have y0 := cell_of_one h2
  have y1 := free_of_one h2
  replace h1 := Lib.hid h1
  replace h2 := Lib.hid h2
  go_wp2_with fail
  have hta : ∀ w : World, (Instr.typeAssert (.iface 33 (.int .i64 (e : Int))) 20 33 false).run Try.prog w = .ok (.int .i64 (e : Int)) w := fun w => by kernel_rfl
  go_region
  all_goals
    change bodyPostS _ _ _ _ _ _ _ _ _
    simp [bodyPostS, results, Try.results22]
theorem two_cells {w W : World} {z : Nat} {x y : Value} (hNW : W.heap[z + 1]? = some (.cells #[x] 24 (0, 0))) (hEW : W.heap[z + 2]? = some (.cells #[y] 33 (0, 0))) (hB : Below z w W) (a b : Value) :
    ((W.setCell ⟨z + 1, 0, none⟩ a).setCell ⟨z + 2, 0, none⟩ b).heap[z + 1]? = some (.cells #[a] 24 (0, 0)) ∧ ((W.setCell ⟨z + 1, 0, none⟩ a).setCell ⟨z + 2, 0, none⟩ b).heap[z + 2]? = some (.cells #[b] 33 (0, 0)) ∧ Below z w ((W.setCell ⟨z + 1, 0, none⟩ a).setCell ⟨z + 2, 0, none⟩ b) := by
  refine ⟨?_, ?_, (hB.setCell (by show z ≤ z + 1; omega) _).setCell (by show z ≤ z + 2; omega) _⟩
  · rw [_root_.Go.heap_setCell_other _ _ _ _ (by show z + 1 ≠ z + 2; omega), _root_.Go.heap_setCell_same _ _ _ _ _ _ hNW]
    rfl
  · rw [_root_.Go.heap_setCell_same _ _ _ _ _ _ ((_root_.Go.heap_setCell_other _ _ _ _ (by show z + 2 ≠ z + 1; omega)).trans hEW)]
    rfl

/-- What Put answers. -/
def PutQ (q : List Nat × Nat) (w : World) (en : Ending) (w' : World) : Prop :=
  ∃ A' c', en = .returned (.tuple #[.slice A' q.1.length c', .int .i64 (q.2 : Int)]) ∧ Src w' w'.heap.size A' c' q.1 ∧ c' ≤ 9223372036854775807 ∧ Below w.heap.size w w'
theorem put_none (e : Nat) {w w' : World} (h : Below w.heap.size w w') : PutQ ([], e) w (.returned (.tuple #[.slice none 0 0, .int .i64 (e : Int)])) w' := ⟨none, 0, rfl, Src.none_ _ _, by omega, h⟩

set_option maxRecDepth 8000 in
set_option maxHeartbeats 800000 in
theorem putp_arg (e : El) (B K : Nat) (w : World) (Ab : Option Addr) (cb : Nat) (Ak : Option Addr) (ck : Nat) (CW : Hid (∀ w', Below w.heap.size w w' → Calls Try.prog 20 #[.agg #[.int .i64 e.c, .bool e.m, .int .i64 e.n, .slice Ab B cb, .slice Ak K ck]] w' fun en w'' => en = .returned (.bool false) ∧ Below w'.heap.size w' w'')) :
    Calls Try.prog 10 #[.agg #[.int .i64 e.c, .bool e.m, .int .i64 e.n, .slice Ab B cb, .slice Ak K ck]] w (PutQ ([], 2) w) := by
  obtain ⟨W0, hW0⟩ : ∃ W0, W0 = ((w.alloc (.cells #[.int .i64 e.c, .bool e.m, .int .i64 e.n, .slice Ab B cb, .slice Ak K ck] 27)).alloc (.cells #[.slice none 0 0] 24)).alloc (.cells #[.int .i64 0] 33) := ⟨_, rfl⟩
  have hB0 : Below w.heap.size w W0 := by rw [hW0]; go_grown
  have hz0 : W0.heap.size = w.heap.size + 3 := by rw [hW0]; simp
  have hX0 : W0.heap[w.heap.size]? = some (.cells #[.int .i64 e.c, .bool e.m, .int .i64 e.n, .slice Ab B cb, .slice Ak K ck] 27 (0, 0)) := by
    rw [hW0, Below.heap_alloc _ _ _ (by simp; omega), Below.heap_alloc _ _ _ (by simp)]; exact heap_alloc_new w _
  have hN0 : W0.heap[w.heap.size + 1]? = some (.cells #[.slice none 0 0] 24 (0, 0)) := by
    rw [hW0, Below.heap_alloc _ _ _ (by simp)]; exact heap_alloc_new (w.alloc _) _ |> (by simpa using ·)
  have hE0 : W0.heap[w.heap.size + 2]? = some (.cells #[.int .i64 0] 33 (0, 0)) := by
    rw [hW0]; exact heap_alloc_new ((w.alloc _).alloc _) _ |> (by simpa using ·)
  replace hB0 := Lib.hid hB0
  replace hz0 := Lib.hid hz0
  replace hX0 := Lib.hid hX0
  replace hN0 := Lib.hid hN0
  replace hE0 := Lib.hid hE0
  go_enter_defers Try.func10, Try.ntmps10
  go_wp2_with fail
  rw [← hW0]
  replace hW0 := Lib.hid hW0
  refine (CW.out W0 hB0.out).mono ?_
  rintro en w1 ⟨rfl, hb1⟩
  have hX1 : w1.heap[w.heap.size]? = some (.cells #[.int .i64 e.c, .bool e.m, .int .i64 e.n, .slice Ab B cb, .slice Ak K ck] 27 (0, 0)) := (hb1.block _ (by rw [hz0.out]; omega)).trans hX0.out
  have hN1 : w1.heap[w.heap.size + 1]? = some (.cells #[.slice none 0 0] 24 (0, 0)) := (hb1.block _ (by rw [hz0.out]; omega)).trans hN0.out
  have hE1 : w1.heap[w.heap.size + 2]? = some (.cells #[.int .i64 0] 33 (0, 0)) := (hb1.block _ (by rw [hz0.out]; omega)).trans hE0.out
  have hB1 : Below w.heap.size w w1 := hB0.out.trans (hb1.mono (by rw [hz0.out]; omega))
  have hs1 : w.heap.size + 3 ≤ w1.heap.size := by have := hb1.size; have := hz0.out; omega
  obtain ⟨a0, a1, a2, a3, a4, _⟩ := cells5 hX1
  have n0 := cell_of_one hN1
  have n1 := free_of_one hN1
  have m0 := cell_of_one hE1
  have m1 := free_of_one hE1
  replace hX1 := Lib.hid hX1
  replace hN1 := Lib.hid hN1
  replace hE1 := Lib.hid hE1
  replace hB1 := Lib.hid hB1
  replace hb1 := Lib.hid hb1
  dsimp only []
  go_wp2_with fail
  obtain ⟨W9, hW9⟩ : ∃ W9, W9 = (w1.setCell ⟨w.heap.size + 1, 0, none⟩ (.slice none 0 0)).setCell ⟨w.heap.size + 2, 0, none⟩ (.int .i64 2) := ⟨_, rfl⟩
  obtain ⟨c2, c3', c4⟩ := two_cells hN1.out hE1.out hB1.out (.slice none 0 0) (.int .i64 2)
  have HX : (w1.setCell ⟨w.heap.size + 1, 0, none⟩ (.slice none 0 0)).setCell ⟨w.heap.size + 2, 0, none⟩ (.int .i64 2) = W9 := hW9.symm
  rw [← hW9] at c2 c3' c4
  rw [HX]
  clear HX hW9
  have q5 := cell_of_one c2
  have q6 := cell_of_one c3'
  exact ⟨.tuple #[.slice none 0 0, .int .i64 2], by simp [results, Try.results10, go_sem, q5, q6], put_none 2 c4⟩

set_option maxRecDepth 8000 in
set_option maxHeartbeats 800000 in
theorem putp_deep (e : El) (B K : Nat) (w : World) (Ab : Option Addr) (cb : Nat) (Ak : Option Addr) (ck : Nat) (CW : Hid (∀ w', Below w.heap.size w w' → Calls Try.prog 20 #[.agg #[.int .i64 e.c, .bool e.m, .int .i64 e.n, .slice Ab B cb, .slice Ak K ck]] w' fun en w'' => en = .returned (.bool true) ∧ Below w'.heap.size w' w'')) (CT : Hid (∀ w', Below w.heap.size w w' → Calls Try.prog 21 #[.agg #[.int .i64 e.c, .bool e.m, .int .i64 e.n, .slice Ab B cb, .slice Ak K ck]] w' fun en w'' => en = .returned (.bool true) ∧ Below w'.heap.size w' w'')) :
    Calls Try.prog 10 #[.agg #[.int .i64 e.c, .bool e.m, .int .i64 e.n, .slice Ab B cb, .slice Ak K ck]] w (PutQ ([], 15) w) := by
  obtain ⟨W0, hW0⟩ : ∃ W0, W0 = ((w.alloc (.cells #[.int .i64 e.c, .bool e.m, .int .i64 e.n, .slice Ab B cb, .slice Ak K ck] 27)).alloc (.cells #[.slice none 0 0] 24)).alloc (.cells #[.int .i64 0] 33) := ⟨_, rfl⟩
  have hB0 : Below w.heap.size w W0 := by rw [hW0]; go_grown
  have hz0 : W0.heap.size = w.heap.size + 3 := by rw [hW0]; simp
  have hX0 : W0.heap[w.heap.size]? = some (.cells #[.int .i64 e.c, .bool e.m, .int .i64 e.n, .slice Ab B cb, .slice Ak K ck] 27 (0, 0)) := by
    rw [hW0, Below.heap_alloc _ _ _ (by simp; omega), Below.heap_alloc _ _ _ (by simp)]; exact heap_alloc_new w _
  have hN0 : W0.heap[w.heap.size + 1]? = some (.cells #[.slice none 0 0] 24 (0, 0)) := by
    rw [hW0, Below.heap_alloc _ _ _ (by simp)]; exact heap_alloc_new (w.alloc _) _ |> (by simpa using ·)
  have hE0 : W0.heap[w.heap.size + 2]? = some (.cells #[.int .i64 0] 33 (0, 0)) := by
    rw [hW0]; exact heap_alloc_new ((w.alloc _).alloc _) _ |> (by simpa using ·)
  replace hB0 := Lib.hid hB0
  replace hz0 := Lib.hid hz0
  replace hX0 := Lib.hid hX0
  replace hN0 := Lib.hid hN0
  replace hE0 := Lib.hid hE0
  go_enter_defers Try.func10, Try.ntmps10
  go_wp2_with fail
  rw [← hW0]
  replace hW0 := Lib.hid hW0
  refine (CW.out W0 hB0.out).mono ?_
  rintro en w1 ⟨rfl, hb1⟩
  have hX1 : w1.heap[w.heap.size]? = some (.cells #[.int .i64 e.c, .bool e.m, .int .i64 e.n, .slice Ab B cb, .slice Ak K ck] 27 (0, 0)) := (hb1.block _ (by rw [hz0.out]; omega)).trans hX0.out
  have hN1 : w1.heap[w.heap.size + 1]? = some (.cells #[.slice none 0 0] 24 (0, 0)) := (hb1.block _ (by rw [hz0.out]; omega)).trans hN0.out
  have hE1 : w1.heap[w.heap.size + 2]? = some (.cells #[.int .i64 0] 33 (0, 0)) := (hb1.block _ (by rw [hz0.out]; omega)).trans hE0.out
  have hB1 : Below w.heap.size w w1 := hB0.out.trans (hb1.mono (by rw [hz0.out]; omega))
  have hs1 : w.heap.size + 3 ≤ w1.heap.size := by have := hb1.size; have := hz0.out; omega
  obtain ⟨a0, a1, a2, a3, a4, _⟩ := cells5 hX1
  have n0 := cell_of_one hN1
  have n1 := free_of_one hN1
  have m0 := cell_of_one hE1
  have m1 := free_of_one hE1
  replace hX1 := Lib.hid hX1
  replace hN1 := Lib.hid hN1
  replace hE1 := Lib.hid hE1
  replace hB1 := Lib.hid hB1
  replace hb1 := Lib.hid hb1
  dsimp only []
  go_wp2_with fail
  refine (CT.out w1 hB1.out).mono ?_
  rintro en w2 ⟨rfl, hb2⟩
  have hX2 : w2.heap[w.heap.size]? = some (.cells #[.int .i64 e.c, .bool e.m, .int .i64 e.n, .slice Ab B cb, .slice Ak K ck] 27 (0, 0)) := (hb2.block _ (by omega)).trans hX1.out
  have hN2 : w2.heap[w.heap.size + 1]? = some (.cells #[.slice none 0 0] 24 (0, 0)) := (hb2.block _ (by omega)).trans hN1.out
  have hE2 : w2.heap[w.heap.size + 2]? = some (.cells #[.int .i64 0] 33 (0, 0)) := (hb2.block _ (by omega)).trans hE1.out
  have hB2 : Below w.heap.size w w2 := hB1.out.trans (hb2.mono (by omega))
  have hs2 : w.heap.size + 3 ≤ w2.heap.size := by have := hb2.size; omega
  clear a0 a1 a2 a3 a4 n0 n1 m0 m1
  obtain ⟨a0, a1, a2, a3, a4, _⟩ := cells5 hX2
  have n0 := cell_of_one hN2
  have n1 := free_of_one hN2
  have m0 := cell_of_one hE2
  have m1 := free_of_one hE2
  replace hX2 := Lib.hid hX2
  replace hN2 := Lib.hid hN2
  replace hE2 := Lib.hid hE2
  replace hB2 := Lib.hid hB2
  replace hb2 := Lib.hid hb2
  dsimp only []
  go_wp2_with fail
  obtain ⟨W9, hW9⟩ : ∃ W9, W9 = (w2.setCell ⟨w.heap.size + 1, 0, none⟩ (.slice none 0 0)).setCell ⟨w.heap.size + 2, 0, none⟩ (.int .i64 15) := ⟨_, rfl⟩
  obtain ⟨c2, c3', c4⟩ := two_cells hN2.out hE2.out hB2.out (.slice none 0 0) (.int .i64 15)
  have HX : (w2.setCell ⟨w.heap.size + 1, 0, none⟩ (.slice none 0 0)).setCell ⟨w.heap.size + 2, 0, none⟩ (.int .i64 15) = W9 := hW9.symm
  rw [← hW9] at c2 c3' c4
  rw [HX]
  clear HX hW9
  have q5 := cell_of_one c2
  have q6 := cell_of_one c3'
  exact ⟨.tuple #[.slice none 0 0, .int .i64 15], by simp [results, Try.results10, go_sem, q5, q6], put_none 15 c4⟩

set_option maxRecDepth 8000 in
set_option maxHeartbeats 800000 in
theorem putp_ok (e : El) (B K : Nat) (w : World) (Ab : Option Addr) (cb : Nat) (Ak : Option Addr) (ck : Nat) (CW : Hid (∀ w', Below w.heap.size w w' → Calls Try.prog 20 #[.agg #[.int .i64 e.c, .bool e.m, .int .i64 e.n, .slice Ab B cb, .slice Ak K ck]] w' fun en w'' => en = .returned (.bool true) ∧ Below w'.heap.size w' w'')) (CT : Hid (∀ w', Below w.heap.size w w' → Calls Try.prog 21 #[.agg #[.int .i64 e.c, .bool e.m, .int .i64 e.n, .slice Ab B cb, .slice Ak K ck]] w' fun en w'' => en = .returned (.bool false) ∧ Below w'.heap.size w' w'')) (CE : Hid (∀ w', Below w.heap.size w w' → Calls Try.prog 23 #[.agg #[.int .i64 e.c, .bool e.m, .int .i64 e.n, .slice Ab B cb, .slice Ak K ck]] w' (EncPost e w'))) (hL : e.enc.length ≤ 16384) :
    Calls Try.prog 10 #[.agg #[.int .i64 e.c, .bool e.m, .int .i64 e.n, .slice Ab B cb, .slice Ak K ck]] w (PutQ (e.enc, 0) w) := by
  obtain ⟨W0, hW0⟩ : ∃ W0, W0 = ((w.alloc (.cells #[.int .i64 e.c, .bool e.m, .int .i64 e.n, .slice Ab B cb, .slice Ak K ck] 27)).alloc (.cells #[.slice none 0 0] 24)).alloc (.cells #[.int .i64 0] 33) := ⟨_, rfl⟩
  have hB0 : Below w.heap.size w W0 := by rw [hW0]; go_grown
  have hz0 : W0.heap.size = w.heap.size + 3 := by rw [hW0]; simp
  have hX0 : W0.heap[w.heap.size]? = some (.cells #[.int .i64 e.c, .bool e.m, .int .i64 e.n, .slice Ab B cb, .slice Ak K ck] 27 (0, 0)) := by
    rw [hW0, Below.heap_alloc _ _ _ (by simp; omega), Below.heap_alloc _ _ _ (by simp)]; exact heap_alloc_new w _
  have hN0 : W0.heap[w.heap.size + 1]? = some (.cells #[.slice none 0 0] 24 (0, 0)) := by
    rw [hW0, Below.heap_alloc _ _ _ (by simp)]; exact heap_alloc_new (w.alloc _) _ |> (by simpa using ·)
  have hE0 : W0.heap[w.heap.size + 2]? = some (.cells #[.int .i64 0] 33 (0, 0)) := by
    rw [hW0]; exact heap_alloc_new ((w.alloc _).alloc _) _ |> (by simpa using ·)
  replace hB0 := Lib.hid hB0
  replace hz0 := Lib.hid hz0
  replace hX0 := Lib.hid hX0
  replace hN0 := Lib.hid hN0
  replace hE0 := Lib.hid hE0
  have hmf : ∀ (fn : Fn) (first cap : Array Value) (w : World), (Instr.makeFunc fn first cap).run Try.prog w = .ok (.func fn first cap) w := fun _ _ _ _ => rfl
  go_enter_defers Try.func10, Try.ntmps10
  go_wp2_with fail
  rw [← hW0]
  replace hW0 := Lib.hid hW0
  refine (CW.out W0 hB0.out).mono ?_
  rintro en w1 ⟨rfl, hb1⟩
  have hX1 : w1.heap[w.heap.size]? = some (.cells #[.int .i64 e.c, .bool e.m, .int .i64 e.n, .slice Ab B cb, .slice Ak K ck] 27 (0, 0)) := (hb1.block _ (by rw [hz0.out]; omega)).trans hX0.out
  have hN1 : w1.heap[w.heap.size + 1]? = some (.cells #[.slice none 0 0] 24 (0, 0)) := (hb1.block _ (by rw [hz0.out]; omega)).trans hN0.out
  have hE1 : w1.heap[w.heap.size + 2]? = some (.cells #[.int .i64 0] 33 (0, 0)) := (hb1.block _ (by rw [hz0.out]; omega)).trans hE0.out
  have hB1 : Below w.heap.size w w1 := hB0.out.trans (hb1.mono (by rw [hz0.out]; omega))
  have hs1 : w.heap.size + 3 ≤ w1.heap.size := by have := hb1.size; have := hz0.out; omega
  obtain ⟨a0, a1, a2, a3, a4, _⟩ := cells5 hX1
  have n0 := cell_of_one hN1
  have n1 := free_of_one hN1
  have m0 := cell_of_one hE1
  have m1 := free_of_one hE1
  replace hX1 := Lib.hid hX1
  replace hN1 := Lib.hid hN1
  replace hE1 := Lib.hid hE1
  replace hB1 := Lib.hid hB1
  replace hb1 := Lib.hid hb1
  dsimp only []
  go_wp2_with fail
  refine (CT.out w1 hB1.out).mono ?_
  rintro en w2 ⟨rfl, hb2⟩
  have hX2 : w2.heap[w.heap.size]? = some (.cells #[.int .i64 e.c, .bool e.m, .int .i64 e.n, .slice Ab B cb, .slice Ak K ck] 27 (0, 0)) := (hb2.block _ (by omega)).trans hX1.out
  have hN2 : w2.heap[w.heap.size + 1]? = some (.cells #[.slice none 0 0] 24 (0, 0)) := (hb2.block _ (by omega)).trans hN1.out
  have hE2 : w2.heap[w.heap.size + 2]? = some (.cells #[.int .i64 0] 33 (0, 0)) := (hb2.block _ (by omega)).trans hE1.out
  have hB2 : Below w.heap.size w w2 := hB1.out.trans (hb2.mono (by omega))
  have hs2 : w.heap.size + 3 ≤ w2.heap.size := by have := hb2.size; omega
  clear a0 a1 a2 a3 a4 n0 n1 m0 m1
  obtain ⟨a0, a1, a2, a3, a4, _⟩ := cells5 hX2
  have n0 := cell_of_one hN2
  have n1 := free_of_one hN2
  have m0 := cell_of_one hE2
  have m1 := free_of_one hE2
  replace hX2 := Lib.hid hX2
  replace hN2 := Lib.hid hN2
  replace hE2 := Lib.hid hE2
  replace hB2 := Lib.hid hB2
  replace hb2 := Lib.hid hb2
  dsimp only []
  go_wp2_with fail
  refine (CE.out w2 hB2.out).mono ?_
  rintro en w3 ⟨hok, hbad, hb3⟩
  have hN3 : w3.heap[w.heap.size + 1]? = some (.cells #[.slice none 0 0] 24 (0, 0)) := (hb3.block _ (by omega)).trans hN2.out
  have hE3 : w3.heap[w.heap.size + 2]? = some (.cells #[.int .i64 0] 33 (0, 0)) := (hb3.block _ (by omega)).trans hE2.out
  have hB3 : Below w.heap.size w w3 := hB2.out.trans (hb3.mono (by omega))
  clear a0 a1 a2 a3 a4 n0 n1 m0 m1
  obtain ⟨A3, c3, rfl, ho3⟩ := hok hL
  obtain ⟨Y, hY⟩ : ∃ Y, Y = e.enc.length := ⟨_, rfl⟩
  rw [← hY] at ho3 ⊢
  have hsrc := ho3.src
  have hcap := ho3.cap
  have hab : ∀ ad, A3 = some ad → w2.heap.size ≤ ad.block := fun ad h => by
    have := (ho3.lt ad.block (by rw [h]; rfl)).1
    exact this
  have n0 := cell_of_one hN3
  have n1 := free_of_one hN3
  have m0 := cell_of_one hE3
  have m1 := free_of_one hE3
  replace hN3 := Lib.hid hN3
  replace hE3 := Lib.hid hE3
  replace hB3 := Lib.hid hB3
  replace hb3 := Lib.hid hb3
  replace hY := Lib.hid hY
  replace ho3 := Lib.hid ho3
  replace hsrc := Lib.hid hsrc
  replace hab := Lib.hid hab
  clear hok hbad
  dsimp only []
  go_wp2_with fail
  obtain ⟨W9, hW9⟩ : ∃ W9, W9 = (w3.setCell ⟨w.heap.size + 1, 0, none⟩ (.slice A3 Y c3)).setCell ⟨w.heap.size + 2, 0, none⟩ (.int .i64 0) := ⟨_, rfl⟩
  obtain ⟨c2, c3', c4⟩ := two_cells hN3.out hE3.out hB3.out (.slice A3 Y c3) (.int .i64 0)
  have HX : (w3.setCell ⟨w.heap.size + 1, 0, none⟩ (.slice A3 Y c3)).setCell ⟨w.heap.size + 2, 0, none⟩ (.int .i64 0) = W9 := hW9.symm
  have hsrc9 : Src W9 W9.heap.size A3 c3 e.enc := by
    refine ⟨hsrc.out.le, hsrc.out.nil, fun ad he => ⟨fun h0 => ?_, fun j n hj => ?_⟩⟩
    · have := (hsrc.out.at_ ad he).1 h0
      rw [hW9]
      simpa [World.setCell] using this
    · have h1 := (hsrc.out.at_ ad he).2 j n hj
      have h2 := hab.out ad he
      rw [hW9, World.cell?_of_block (heap_setCell_other _ _ _ _ (by rw [add_block]; show ad.block ≠ w.heap.size + 2; omega)), World.cell?_of_block (heap_setCell_other _ _ _ _ (by rw [add_block]; show ad.block ≠ w.heap.size + 1; omega))]
      exact h1
  rw [← hW9] at c2 c3' c4
  rw [HX]
  clear HX hW9
  refine leaves_cons (f := 22) (args := #[.pointer (some ⟨w.heap.size + 1, 0, none⟩), .pointer (some ⟨w.heap.size + 2, 0, none⟩)]) (by simp) (by simp [go_sem]) ?_
  refine (catchU_idle _ _ _).mono ?_
  rintro en u' w'' ⟨rfl, rfl, rfl⟩
  have q5 := cell_of_one c2
  have q6 := cell_of_one c3'
  exact ⟨.tuple #[.slice A3 Y c3, .int .i64 0], by simp [results, Try.results10, go_sem, q5, q6], ⟨A3, c3, by rw [hY.out]; rfl, hsrc9, hcap, c4⟩⟩

set_option maxRecDepth 8000 in
set_option maxHeartbeats 800000 in
theorem putp_big (e : El) (B K : Nat) (w : World) (Ab : Option Addr) (cb : Nat) (Ak : Option Addr) (ck : Nat) (CW : Hid (∀ w', Below w.heap.size w w' → Calls Try.prog 20 #[.agg #[.int .i64 e.c, .bool e.m, .int .i64 e.n, .slice Ab B cb, .slice Ak K ck]] w' fun en w'' => en = .returned (.bool true) ∧ Below w'.heap.size w' w'')) (CT : Hid (∀ w', Below w.heap.size w w' → Calls Try.prog 21 #[.agg #[.int .i64 e.c, .bool e.m, .int .i64 e.n, .slice Ab B cb, .slice Ak K ck]] w' fun en w'' => en = .returned (.bool false) ∧ Below w'.heap.size w' w'')) (CE : Hid (∀ w', Below w.heap.size w w' → Calls Try.prog 23 #[.agg #[.int .i64 e.c, .bool e.m, .int .i64 e.n, .slice Ab B cb, .slice Ak K ck]] w' (EncPost e w'))) (hL : 16384 < e.enc.length) :
    Calls Try.prog 10 #[.agg #[.int .i64 e.c, .bool e.m, .int .i64 e.n, .slice Ab B cb, .slice Ak K ck]] w (PutQ ([], 3) w) := by
  obtain ⟨W0, hW0⟩ : ∃ W0, W0 = ((w.alloc (.cells #[.int .i64 e.c, .bool e.m, .int .i64 e.n, .slice Ab B cb, .slice Ak K ck] 27)).alloc (.cells #[.slice none 0 0] 24)).alloc (.cells #[.int .i64 0] 33) := ⟨_, rfl⟩
  have hB0 : Below w.heap.size w W0 := by rw [hW0]; go_grown
  have hz0 : W0.heap.size = w.heap.size + 3 := by rw [hW0]; simp
  have hX0 : W0.heap[w.heap.size]? = some (.cells #[.int .i64 e.c, .bool e.m, .int .i64 e.n, .slice Ab B cb, .slice Ak K ck] 27 (0, 0)) := by
    rw [hW0, Below.heap_alloc _ _ _ (by simp; omega), Below.heap_alloc _ _ _ (by simp)]; exact heap_alloc_new w _
  have hN0 : W0.heap[w.heap.size + 1]? = some (.cells #[.slice none 0 0] 24 (0, 0)) := by
    rw [hW0, Below.heap_alloc _ _ _ (by simp)]; exact heap_alloc_new (w.alloc _) _ |> (by simpa using ·)
  have hE0 : W0.heap[w.heap.size + 2]? = some (.cells #[.int .i64 0] 33 (0, 0)) := by
    rw [hW0]; exact heap_alloc_new ((w.alloc _).alloc _) _ |> (by simpa using ·)
  replace hB0 := Lib.hid hB0
  replace hz0 := Lib.hid hz0
  replace hX0 := Lib.hid hX0
  replace hN0 := Lib.hid hN0
  replace hE0 := Lib.hid hE0
  have hmf : ∀ (fn : Fn) (first cap : Array Value) (w : World), (Instr.makeFunc fn first cap).run Try.prog w = .ok (.func fn first cap) w := fun _ _ _ _ => rfl
  go_enter_defers Try.func10, Try.ntmps10
  go_wp2_with fail
  rw [← hW0]
  replace hW0 := Lib.hid hW0
  refine (CW.out W0 hB0.out).mono ?_
  rintro en w1 ⟨rfl, hb1⟩
  have hX1 : w1.heap[w.heap.size]? = some (.cells #[.int .i64 e.c, .bool e.m, .int .i64 e.n, .slice Ab B cb, .slice Ak K ck] 27 (0, 0)) := (hb1.block _ (by rw [hz0.out]; omega)).trans hX0.out
  have hN1 : w1.heap[w.heap.size + 1]? = some (.cells #[.slice none 0 0] 24 (0, 0)) := (hb1.block _ (by rw [hz0.out]; omega)).trans hN0.out
  have hE1 : w1.heap[w.heap.size + 2]? = some (.cells #[.int .i64 0] 33 (0, 0)) := (hb1.block _ (by rw [hz0.out]; omega)).trans hE0.out
  have hB1 : Below w.heap.size w w1 := hB0.out.trans (hb1.mono (by rw [hz0.out]; omega))
  have hs1 : w.heap.size + 3 ≤ w1.heap.size := by have := hb1.size; have := hz0.out; omega
  obtain ⟨a0, a1, a2, a3, a4, _⟩ := cells5 hX1
  have n0 := cell_of_one hN1
  have n1 := free_of_one hN1
  have m0 := cell_of_one hE1
  have m1 := free_of_one hE1
  replace hX1 := Lib.hid hX1
  replace hN1 := Lib.hid hN1
  replace hE1 := Lib.hid hE1
  replace hB1 := Lib.hid hB1
  replace hb1 := Lib.hid hb1
  dsimp only []
  go_wp2_with fail
  refine (CT.out w1 hB1.out).mono ?_
  rintro en w2 ⟨rfl, hb2⟩
  have hX2 : w2.heap[w.heap.size]? = some (.cells #[.int .i64 e.c, .bool e.m, .int .i64 e.n, .slice Ab B cb, .slice Ak K ck] 27 (0, 0)) := (hb2.block _ (by omega)).trans hX1.out
  have hN2 : w2.heap[w.heap.size + 1]? = some (.cells #[.slice none 0 0] 24 (0, 0)) := (hb2.block _ (by omega)).trans hN1.out
  have hE2 : w2.heap[w.heap.size + 2]? = some (.cells #[.int .i64 0] 33 (0, 0)) := (hb2.block _ (by omega)).trans hE1.out
  have hB2 : Below w.heap.size w w2 := hB1.out.trans (hb2.mono (by omega))
  have hs2 : w.heap.size + 3 ≤ w2.heap.size := by have := hb2.size; omega
  clear a0 a1 a2 a3 a4 n0 n1 m0 m1
  obtain ⟨a0, a1, a2, a3, a4, _⟩ := cells5 hX2
  have n0 := cell_of_one hN2
  have n1 := free_of_one hN2
  have m0 := cell_of_one hE2
  have m1 := free_of_one hE2
  replace hX2 := Lib.hid hX2
  replace hN2 := Lib.hid hN2
  replace hE2 := Lib.hid hE2
  replace hB2 := Lib.hid hB2
  replace hb2 := Lib.hid hb2
  dsimp only []
  go_wp2_with fail
  refine (CE.out w2 hB2.out).mono ?_
  rintro en w3 ⟨hok, hbad, hb3⟩
  have hN3 : w3.heap[w.heap.size + 1]? = some (.cells #[.slice none 0 0] 24 (0, 0)) := (hb3.block _ (by omega)).trans hN2.out
  have hE3 : w3.heap[w.heap.size + 2]? = some (.cells #[.int .i64 0] 33 (0, 0)) := (hb3.block _ (by omega)).trans hE2.out
  have hB3 : Below w.heap.size w w3 := hB2.out.trans (hb3.mono (by omega))
  clear a0 a1 a2 a3 a4 n0 n1 m0 m1
  obtain rfl := hbad hL
  obtain ⟨W9, hW9⟩ : ∃ W9, W9 = (w3.setCell ⟨w.heap.size + 1, 0, none⟩ (.slice none 0 0)).setCell ⟨w.heap.size + 2, 0, none⟩ (.int .i64 ((3 : Nat) : Int)) := ⟨_, rfl⟩
  obtain ⟨c2, c3', c4⟩ := two_cells hN3 hE3 hB3 (.slice none 0 0) (.int .i64 ((3 : Nat) : Int))
  rw [← hW9] at c2 c3' c4
  refine leaves_cons (f := 22) (args := #[.pointer (some ⟨w.heap.size + 1, 0, none⟩), .pointer (some ⟨w.heap.size + 2, 0, none⟩)]) (by simp) (by simp [go_sem]) ?_
  refine (catchU_pan _ _ 3 [] w3 _ _ hN3 hE3 (by omega)).mono ?_
  rintro en u' w'' ⟨rfl, rfl, rfl⟩
  rw [← hW9]
  clear hW9
  have q5 := cell_of_one c2
  have q6 := cell_of_one c3'
  refine ⟨.tuple #[.slice none 0 0, .int .i64 ((3 : Nat) : Int)], ?_, put_none 3 ⟨c4.os, c4.tape, c4.output, c4.size, c4.block⟩⟩
  simp [results, Try.results10, go_sem, q5, q6]

/-- The program's Put of any element in clean memory. -/
theorem putp_el (e : El) (w : World) (Ab : Option Addr) (cb : Nat) (Ak : Option Addr) (ck : Nat) (hin : ElIn w (Cl w) e Ab cb Ak ck) (hsz : e.size ≤ 1000000) :
    Calls Try.prog 10 #[elV e Ab cb Ak ck] w (PutQ e.put w) := by
  have hk : ∀ w', Below w.heap.size w w' → ElIn w' (Cl w') e Ab cb Ak ck := fun w' hb => (hin.keep fun p hp => hb.cell hp.lt).more fun b hc => hc.below hb hc.lt
  have CW := fun w' hb => well_any e e.b.length e.kids.length w' Ab cb Ak ck (hk w' hb) hsz rfl rfl
  have CT := fun w' hb => toodeep_any e e.b.length e.kids.length w' Ab cb Ak ck (hk w' hb) hsz rfl rfl
  unfold elV
  rcases e.put_cases with ⟨h1, h2⟩ | ⟨h1, h3, h2⟩ | ⟨h1, h3, h4, h2⟩ | ⟨h1, h3, h4, h2⟩
  · rw [h2]
    rw [h1] at CW
    exact putp_arg e _ _ w Ab cb Ak ck (Lib.hid CW)
  · rw [h2]
    rw [h1] at CW
    rw [decide_eq_true h3] at CT
    exact putp_deep e _ _ w Ab cb Ak ck (Lib.hid CW) (Lib.hid CT)
  · rw [h2]
    rw [h1] at CW
    rw [decide_eq_false (by omega)] at CT
    exact putp_big e _ _ w Ab cb Ak ck (Lib.hid CW) (Lib.hid CT) (Lib.hid fun w' hb => enc_el e w' Ab cb Ak ck ((hk w' hb).more fun b hc => hc.lt) h1 hsz) h4
  · rw [h2]
    rw [h1] at CW
    rw [decide_eq_false (by omega)] at CT
    exact putp_ok e _ _ w Ab cb Ak ck (Lib.hid CW) (Lib.hid CT) (Lib.hid fun w' hb => enc_el e w' Ab cb Ak ck ((hk w' hb).more fun b hc => hc.lt) h1 hsz) h4
end Go.Proofs.Ytgdoepkoakpnbaa
