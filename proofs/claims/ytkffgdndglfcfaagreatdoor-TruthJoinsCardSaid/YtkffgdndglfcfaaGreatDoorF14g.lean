/-
  What a filter has but for its kids: right or not.
-/
import Derived.Test.YtkffgdndglfcfaaGreatDoorF14A
import Derived.Test.YtkffgdndglfcfaaGreatDoorBerPa3
import Derived.Deep.RegionHeldLaw
namespace Go.Proofs.YtkffgdndglfcfaaGreatDoor
open Go.RowKit Go.Lib

theorem cmp_raw (k : Int) (K B : Nat) (Ak Ab : Option Addr) (ck cb : Nat) (st sv sa sz : ByteArray) (w : World) :
    Calls Tryz.prog 40 #[.agg #[.int .i64 k, .slice Ak K ck, .string st, .string sv, .string sa, .string sz, .slice Ab B cb]] w fun en w' => en = .returned (.agg #[.int .i64 k, .int .i64 (K : Int), .int .i64 (B : Int), .string st, .string sv, .string sa, .string sz]) ∧ Below w.heap.size w w' := by
  have hb := Lib.hid fun o o2 : Obj => ((Below.refl w.heap.size w).alloc (Nat.le_refl _) o).alloc (by simp) o2
  go_enter Tryz.func40, Tryz.ntmps40
  go_wp2_with fail
  go_returns
  exact ⟨rfl, hb.out _ _⟩
def CmpE (k k2 n n2 m m2 : Int) (t t2 v v2 a a2 z z2 : ByteArray) : Prop := k = k2 ∧ n = n2 ∧ m = m2 ∧ t.toList = t2.toList ∧ v.toList = v2.toList ∧ a.toList = a2.toList ∧ z.toList = z2.toList
instance (k k2 n n2 m m2 : Int) (t t2 v v2 a a2 z z2 : ByteArray) : Decidable (CmpE k k2 n n2 m m2 t t2 v v2 a a2 z z2) := by unfold CmpE; infer_instance
theorem cmp_eql (k k2 n n2 m m2 : Int) (t t2 v v2 a a2 z z2 : ByteArray) (w : World) :
    Sem.run Tryz.prog (binOp .eql 79 (.agg #[.int .i64 k, .int .i64 n, .int .i64 m, .string t, .string v, .string a, .string z]) (.agg #[.int .i64 k2, .int .i64 n2, .int .i64 m2, .string t2, .string v2, .string a2, .string z2])) w = .ok (.bool (decide (CmpE k k2 n n2 m m2 t t2 v v2 a a2 z z2))) w := by
  unfold CmpE
  simp [go_sem]
  by_cases h1 : k = k2 <;> simp [h1]
  by_cases h2 : n = n2 <;> simp [h2]
  by_cases h3 : m = m2 <;> simp [h3]
  by_cases h4 : t.toList = t2.toList <;> simp [h4]
  by_cases h5 : v.toList = v2.toList <;> simp [h5]
  by_cases h6 : a.toList = a2.toList <;> simp [h6]
  by_cases h7 : z.toList = z2.toList <;> simp [h7]
theorem cmp_neq (k k2 n n2 m m2 : Int) (t t2 v v2 a a2 z z2 : ByteArray) (w : World) :
    Sem.run Tryz.prog (binOp .neq 79 (.agg #[.int .i64 k, .int .i64 n, .int .i64 m, .string t, .string v, .string a, .string z]) (.agg #[.int .i64 k2, .int .i64 n2, .int .i64 m2, .string t2, .string v2, .string a2, .string z2])) w = .ok (.bool (!decide (CmpE k k2 n n2 m m2 t t2 v v2 a a2 z z2))) w := by
  unfold CmpE
  simp [go_sem]
  by_cases h1 : k = k2 <;> simp [h1]
  by_cases h2 : n = n2 <;> simp [h2]
  by_cases h3 : m = m2 <;> simp [h3]
  by_cases h4 : t.toList = t2.toList <;> simp [h4]
  by_cases h5 : v.toList = v2.toList <;> simp [h5]
  by_cases h6 : a.toList = a2.toList <;> simp [h6]
  by_cases h7 : z.toList = z2.toList <;> simp [h7]
/-- Returned, or the panic of what is no filter. -/
def okIf (c : Prop) [Decidable c] : Ending := if c then .returned (.tuple #[]) else bad14
theorem okIf_yes {c : Prop} [Decidable c] (h : c) : okIf c = .returned (.tuple #[]) := if_pos h
theorem okIf_no {c : Prop} [Decidable c] (h : ¬ c) : okIf c = bad14 := if_neg h
/-- The three variables of checkOwn. -/
structure Chk (F1 F2 F3 : Nat) (w W : World) (x h m : Array Value) : Prop where
  below : Below w.heap.size w W
  box : W.heap[F1]? = some (.cells x 25 (0, 0))
  has : W.heap[F2]? = some (.cells h 79 (0, 0))
  may : W.heap[F3]? = some (.cells m 79 (0, 0))
set_option maxRecDepth 8000 in
set_option maxHeartbeats 1600000 in
theorem check_0 (K B : Nat) (Ak Ab : Option Addr) (ck cb : Nat) (l : List UInt8) (sv sa sz : ByteArray) (w : World) :
    Calls Tryz.prog 50 #[.agg #[.int .i64 0, .slice Ak K ck, .string (baO l), .string sv, .string sa, .string sz, .slice Ab B cb]] w fun en w' => en = okIf (CmpE 0 0 (K : Int) (K : Int) (B : Int) 0 (baO l) ⟨#[]⟩ sv ⟨#[]⟩ sa ⟨#[]⟩ sz ⟨#[]⟩) ∧ Below w.heap.size w w' := by
  have CC := Lib.hid fun W => cmp_raw 0 K B Ak Ab ck cb (baO l) sv sa sz W
  obtain ⟨b, hb⟩ : ∃ b, b = decide (CmpE 0 0 (K : Int) (K : Int) (B : Int) 0 (baO l) ⟨#[]⟩ sv ⟨#[]⟩ sa ⟨#[]⟩ sz ⟨#[]⟩) := ⟨_, rfl⟩
  have hE : ∀ W, Sem.run Tryz.prog (binOp .eql 79 (.agg #[.int .i64 0, .int .i64 (K : Int), .int .i64 (B : Int), .string (baO l), .string sv, .string sa, .string sz]) (.agg #[.int .i64 0, .int .i64 (K : Int), .int .i64 0, .string ⟨#[]⟩, .string ⟨#[]⟩, .string ⟨#[]⟩, .string ⟨#[]⟩])) W = .ok (.bool b) W := fun W => by rw [hb]; exact cmp_eql _ _ _ _ _ _ _ _ _ _ _ _ _ _ W
  obtain ⟨W1, hW1⟩ : ∃ W1, W1 = w.alloc (.cells #[.int .i64 0, .slice Ak K ck, .string (baO l), .string sv, .string sa, .string sz, .slice Ab B cb] 25) := ⟨_, rfl⟩
  have hB1 : Below w.heap.size w W1 := by rw [hW1]; exact (Below.refl _ _).alloc (Nat.le_refl _) _
  have hX1 : W1.heap[w.heap.size]? = some (.cells #[.int .i64 0, .slice Ak K ck, .string (baO l), .string sv, .string sa, .string sz, .slice Ab B cb] 25 (0, 0)) := by rw [hW1]; exact heap_alloc_new w _
  have hz1 : W1.heap.size = w.heap.size + 1 := by rw [hW1]; simp
  obtain ⟨y0, y1, y2, y3, y4, y5, y6⟩ := cells7 hX1
  replace hB1 := Lib.hid hB1
  replace hX1 := Lib.hid hX1
  replace hb := Lib.hid hb
  go_enter Tryz.func50, Tryz.ntmps50
  go_wp2_with fail
  rw [← hW1]
  replace hW1 := Lib.hid hW1
  go_wp2_with fail
  refine (CC.out _).mono ?_
  rintro _ w2 ⟨rfl, h2⟩
  have hz2 := h2.size
  have hX2 : ∀ o o2 : Obj, ((w2.alloc o).alloc o2).heap[w.heap.size]? = some (.cells #[.int .i64 0, .slice Ak K ck, .string (baO l), .string sv, .string sa, .string sz, .slice Ab B cb] 25 (0, 0)) := fun o o2 => by
    rw [Below.heap_alloc _ _ _ (by simp; omega), Below.heap_alloc _ _ _ (by omega), h2.block _ (by omega)]
    exact hX1.out
  have x0 : ∀ o : Obj, (w2.alloc o).cell? ⟨w.heap.size, 0, none⟩ = some (.int .i64 0) := fun o => cell_of_row _ _ _ _ _ _ ((Below.heap_alloc _ _ _ (by omega)).trans ((h2.block _ (by omega)).trans hX1.out))
  have x00 : ∀ o o2 : Obj, ((w2.alloc o).alloc o2).cell? ⟨w.heap.size, 0, none⟩ = some (.int .i64 0) := fun o o2 => cell_of_row _ _ _ _ _ _ (hX2 o o2)
  have hB2 : ∀ o o2 : Obj, Below w.heap.size w ((w2.alloc o).alloc o2) := fun o o2 => ((hB1.out.trans (h2.mono (by omega))).alloc (by omega) _).alloc (by simp; omega) _
  have hn : w2.heap.size ≠ w2.heap.size + 1 := by omega
  have hn2 : w.heap.size ≠ w2.heap.size + 1 := by omega
  replace h2 := Lib.hid h2
  replace hX2 := Lib.hid hX2
  replace hB2 := Lib.hid hB2
  clear y0 y1 y2 y3 y4 y5 y6
  dsimp only []
  go_wp2_with fail

  cases b
  · have hno : ¬ (CmpE 0 0 (K : Int) (K : Int) (B : Int) 0 (baO l) ⟨#[]⟩ sv ⟨#[]⟩ sa ⟨#[]⟩ sz ⟨#[]⟩) := of_decide_eq_false hb.out.symm
    refine (demand_no _).mono ?_
    rintro _ w5 ⟨rfl, h5⟩
    subst w5
    dsimp only []
    exact ⟨rfl, (okIf_no (hno)).symm, (hB2.out _ _)⟩
  have hyes : CmpE 0 0 (K : Int) (K : Int) (B : Int) 0 (baO l) ⟨#[]⟩ sv ⟨#[]⟩ sa ⟨#[]⟩ sz ⟨#[]⟩ := of_decide_eq_true hb.out.symm
  refine (demand_ok _).mono ?_
  rintro _ w5 ⟨rfl, h5⟩
  subst w5
  dsimp only []
  replace hyes := Lib.hid hyes
  go_wp2_with fail
  go_end0
  exact ⟨(okIf_yes hyes.out).symm, hB2.out _ _⟩
set_option maxRecDepth 8000 in
set_option maxHeartbeats 1600000 in
theorem check_1 (K B : Nat) (Ak Ab : Option Addr) (ck cb : Nat) (l : List UInt8) (sv sa sz : ByteArray) (w : World) :
    Calls Tryz.prog 50 #[.agg #[.int .i64 1, .slice Ak K ck, .string (baO l), .string sv, .string sa, .string sz, .slice Ab B cb]] w fun en w' => en = okIf (CmpE 1 1 (K : Int) (K : Int) (B : Int) 0 (baO l) ⟨#[]⟩ sv ⟨#[]⟩ sa ⟨#[]⟩ sz ⟨#[]⟩) ∧ Below w.heap.size w w' := by
  have CC := Lib.hid fun W => cmp_raw 1 K B Ak Ab ck cb (baO l) sv sa sz W
  obtain ⟨b, hb⟩ : ∃ b, b = decide (CmpE 1 1 (K : Int) (K : Int) (B : Int) 0 (baO l) ⟨#[]⟩ sv ⟨#[]⟩ sa ⟨#[]⟩ sz ⟨#[]⟩) := ⟨_, rfl⟩
  have hE : ∀ W, Sem.run Tryz.prog (binOp .eql 79 (.agg #[.int .i64 1, .int .i64 (K : Int), .int .i64 (B : Int), .string (baO l), .string sv, .string sa, .string sz]) (.agg #[.int .i64 1, .int .i64 (K : Int), .int .i64 0, .string ⟨#[]⟩, .string ⟨#[]⟩, .string ⟨#[]⟩, .string ⟨#[]⟩])) W = .ok (.bool b) W := fun W => by rw [hb]; exact cmp_eql _ _ _ _ _ _ _ _ _ _ _ _ _ _ W
  obtain ⟨W1, hW1⟩ : ∃ W1, W1 = w.alloc (.cells #[.int .i64 1, .slice Ak K ck, .string (baO l), .string sv, .string sa, .string sz, .slice Ab B cb] 25) := ⟨_, rfl⟩
  have hB1 : Below w.heap.size w W1 := by rw [hW1]; exact (Below.refl _ _).alloc (Nat.le_refl _) _
  have hX1 : W1.heap[w.heap.size]? = some (.cells #[.int .i64 1, .slice Ak K ck, .string (baO l), .string sv, .string sa, .string sz, .slice Ab B cb] 25 (0, 0)) := by rw [hW1]; exact heap_alloc_new w _
  have hz1 : W1.heap.size = w.heap.size + 1 := by rw [hW1]; simp
  obtain ⟨y0, y1, y2, y3, y4, y5, y6⟩ := cells7 hX1
  replace hB1 := Lib.hid hB1
  replace hX1 := Lib.hid hX1
  replace hb := Lib.hid hb
  go_enter Tryz.func50, Tryz.ntmps50
  go_wp2_with fail
  rw [← hW1]
  replace hW1 := Lib.hid hW1
  go_wp2_with fail
  refine (CC.out _).mono ?_
  rintro _ w2 ⟨rfl, h2⟩
  have hz2 := h2.size
  have hX2 : ∀ o o2 : Obj, ((w2.alloc o).alloc o2).heap[w.heap.size]? = some (.cells #[.int .i64 1, .slice Ak K ck, .string (baO l), .string sv, .string sa, .string sz, .slice Ab B cb] 25 (0, 0)) := fun o o2 => by
    rw [Below.heap_alloc _ _ _ (by simp; omega), Below.heap_alloc _ _ _ (by omega), h2.block _ (by omega)]
    exact hX1.out
  have x0 : ∀ o : Obj, (w2.alloc o).cell? ⟨w.heap.size, 0, none⟩ = some (.int .i64 1) := fun o => cell_of_row _ _ _ _ _ _ ((Below.heap_alloc _ _ _ (by omega)).trans ((h2.block _ (by omega)).trans hX1.out))
  have x00 : ∀ o o2 : Obj, ((w2.alloc o).alloc o2).cell? ⟨w.heap.size, 0, none⟩ = some (.int .i64 1) := fun o o2 => cell_of_row _ _ _ _ _ _ (hX2 o o2)
  have hB2 : ∀ o o2 : Obj, Below w.heap.size w ((w2.alloc o).alloc o2) := fun o o2 => ((hB1.out.trans (h2.mono (by omega))).alloc (by omega) _).alloc (by simp; omega) _
  have hn : w2.heap.size ≠ w2.heap.size + 1 := by omega
  have hn2 : w.heap.size ≠ w2.heap.size + 1 := by omega
  replace h2 := Lib.hid h2
  replace hX2 := Lib.hid hX2
  replace hB2 := Lib.hid hB2
  clear y0 y1 y2 y3 y4 y5 y6
  dsimp only []
  go_wp2_with fail

  cases b
  · have hno : ¬ (CmpE 1 1 (K : Int) (K : Int) (B : Int) 0 (baO l) ⟨#[]⟩ sv ⟨#[]⟩ sa ⟨#[]⟩ sz ⟨#[]⟩) := of_decide_eq_false hb.out.symm
    refine (demand_no _).mono ?_
    rintro _ w5 ⟨rfl, h5⟩
    subst w5
    dsimp only []
    exact ⟨rfl, (okIf_no (hno)).symm, (hB2.out _ _)⟩
  have hyes : CmpE 1 1 (K : Int) (K : Int) (B : Int) 0 (baO l) ⟨#[]⟩ sv ⟨#[]⟩ sa ⟨#[]⟩ sz ⟨#[]⟩ := of_decide_eq_true hb.out.symm
  refine (demand_ok _).mono ?_
  rintro _ w5 ⟨rfl, h5⟩
  subst w5
  dsimp only []
  replace hyes := Lib.hid hyes
  go_wp2_with fail
  go_end0
  exact ⟨(okIf_yes hyes.out).symm, hB2.out _ _⟩
set_option maxRecDepth 8000 in
set_option maxHeartbeats 1600000 in
theorem check_2 (K B : Nat) (Ak Ab : Option Addr) (ck cb : Nat) (l : List UInt8) (sv sa sz : ByteArray) (w : World) :
    Calls Tryz.prog 50 #[.agg #[.int .i64 2, .slice Ak K ck, .string (baO l), .string sv, .string sa, .string sz, .slice Ab B cb]] w fun en w' => en = okIf (CmpE 2 2 (K : Int) 1 (B : Int) 0 (baO l) ⟨#[]⟩ sv ⟨#[]⟩ sa ⟨#[]⟩ sz ⟨#[]⟩) ∧ Below w.heap.size w w' := by
  have CC := Lib.hid fun W => cmp_raw 2 K B Ak Ab ck cb (baO l) sv sa sz W
  obtain ⟨b, hb⟩ : ∃ b, b = decide (CmpE 2 2 (K : Int) 1 (B : Int) 0 (baO l) ⟨#[]⟩ sv ⟨#[]⟩ sa ⟨#[]⟩ sz ⟨#[]⟩) := ⟨_, rfl⟩
  have hE : ∀ W, Sem.run Tryz.prog (binOp .eql 79 (.agg #[.int .i64 2, .int .i64 (K : Int), .int .i64 (B : Int), .string (baO l), .string sv, .string sa, .string sz]) (.agg #[.int .i64 2, .int .i64 1, .int .i64 0, .string ⟨#[]⟩, .string ⟨#[]⟩, .string ⟨#[]⟩, .string ⟨#[]⟩])) W = .ok (.bool b) W := fun W => by rw [hb]; exact cmp_eql _ _ _ _ _ _ _ _ _ _ _ _ _ _ W
  obtain ⟨W1, hW1⟩ : ∃ W1, W1 = w.alloc (.cells #[.int .i64 2, .slice Ak K ck, .string (baO l), .string sv, .string sa, .string sz, .slice Ab B cb] 25) := ⟨_, rfl⟩
  have hB1 : Below w.heap.size w W1 := by rw [hW1]; exact (Below.refl _ _).alloc (Nat.le_refl _) _
  have hX1 : W1.heap[w.heap.size]? = some (.cells #[.int .i64 2, .slice Ak K ck, .string (baO l), .string sv, .string sa, .string sz, .slice Ab B cb] 25 (0, 0)) := by rw [hW1]; exact heap_alloc_new w _
  have hz1 : W1.heap.size = w.heap.size + 1 := by rw [hW1]; simp
  obtain ⟨y0, y1, y2, y3, y4, y5, y6⟩ := cells7 hX1
  replace hB1 := Lib.hid hB1
  replace hX1 := Lib.hid hX1
  replace hb := Lib.hid hb
  go_enter Tryz.func50, Tryz.ntmps50
  go_wp2_with fail
  rw [← hW1]
  replace hW1 := Lib.hid hW1
  go_wp2_with fail
  refine (CC.out _).mono ?_
  rintro _ w2 ⟨rfl, h2⟩
  have hz2 := h2.size
  have hX2 : ∀ o o2 : Obj, ((w2.alloc o).alloc o2).heap[w.heap.size]? = some (.cells #[.int .i64 2, .slice Ak K ck, .string (baO l), .string sv, .string sa, .string sz, .slice Ab B cb] 25 (0, 0)) := fun o o2 => by
    rw [Below.heap_alloc _ _ _ (by simp; omega), Below.heap_alloc _ _ _ (by omega), h2.block _ (by omega)]
    exact hX1.out
  have x0 : ∀ o : Obj, (w2.alloc o).cell? ⟨w.heap.size, 0, none⟩ = some (.int .i64 2) := fun o => cell_of_row _ _ _ _ _ _ ((Below.heap_alloc _ _ _ (by omega)).trans ((h2.block _ (by omega)).trans hX1.out))
  have x00 : ∀ o o2 : Obj, ((w2.alloc o).alloc o2).cell? ⟨w.heap.size, 0, none⟩ = some (.int .i64 2) := fun o o2 => cell_of_row _ _ _ _ _ _ (hX2 o o2)
  have hB2 : ∀ o o2 : Obj, Below w.heap.size w ((w2.alloc o).alloc o2) := fun o o2 => ((hB1.out.trans (h2.mono (by omega))).alloc (by omega) _).alloc (by simp; omega) _
  have hn : w2.heap.size ≠ w2.heap.size + 1 := by omega
  have hn2 : w.heap.size ≠ w2.heap.size + 1 := by omega
  replace h2 := Lib.hid h2
  replace hX2 := Lib.hid hX2
  replace hB2 := Lib.hid hB2
  clear y0 y1 y2 y3 y4 y5 y6
  dsimp only []
  go_wp2_with fail

  cases b
  · have hno : ¬ (CmpE 2 2 (K : Int) 1 (B : Int) 0 (baO l) ⟨#[]⟩ sv ⟨#[]⟩ sa ⟨#[]⟩ sz ⟨#[]⟩) := of_decide_eq_false hb.out.symm
    refine (demand_no _).mono ?_
    rintro _ w5 ⟨rfl, h5⟩
    subst w5
    dsimp only []
    exact ⟨rfl, (okIf_no (hno)).symm, (hB2.out _ _)⟩
  have hyes : CmpE 2 2 (K : Int) 1 (B : Int) 0 (baO l) ⟨#[]⟩ sv ⟨#[]⟩ sa ⟨#[]⟩ sz ⟨#[]⟩ := of_decide_eq_true hb.out.symm
  refine (demand_ok _).mono ?_
  rintro _ w5 ⟨rfl, h5⟩
  subst w5
  dsimp only []
  replace hyes := Lib.hid hyes
  go_wp2_with fail
  go_end0
  exact ⟨(okIf_yes hyes.out).symm, hB2.out _ _⟩
set_option maxRecDepth 8000 in
set_option maxHeartbeats 1600000 in
theorem check_3 (K B : Nat) (Ak Ab : Option Addr) (ck cb : Nat) (l : List UInt8) (sv sa sz : ByteArray) (w : World) (hl : l.length ≤ 9500) :
    Calls Tryz.prog 50 #[.agg #[.int .i64 3, .slice Ak K ck, .string (baO l), .string sv, .string sa, .string sz, .slice Ab B cb]] w fun en w' => en = okIf (CmpE 3 3 (K : Int) 0 (B : Int) 0 (baO l) (baO l) sv sv sa ⟨#[]⟩ sz ⟨#[]⟩ ∧ dscU l = some l) ∧ Below w.heap.size w w' := by
  have CC := Lib.hid fun W => cmp_raw 3 K B Ak Ab ck cb (baO l) sv sa sz W
  obtain ⟨b, hb⟩ : ∃ b, b = decide (CmpE 3 3 (K : Int) 0 (B : Int) 0 (baO l) (baO l) sv sv sa ⟨#[]⟩ sz ⟨#[]⟩) := ⟨_, rfl⟩
  have hE : ∀ W, Sem.run Tryz.prog (binOp .eql 79 (.agg #[.int .i64 3, .int .i64 (K : Int), .int .i64 (B : Int), .string (baO l), .string sv, .string sa, .string sz]) (.agg #[.int .i64 3, .int .i64 0, .int .i64 0, .string (baO l), .string sv, .string ⟨#[]⟩, .string ⟨#[]⟩])) W = .ok (.bool b) W := fun W => by rw [hb]; exact cmp_eql _ _ _ _ _ _ _ _ _ _ _ _ _ _ W
  obtain ⟨W1, hW1⟩ : ∃ W1, W1 = w.alloc (.cells #[.int .i64 3, .slice Ak K ck, .string (baO l), .string sv, .string sa, .string sz, .slice Ab B cb] 25) := ⟨_, rfl⟩
  have hB1 : Below w.heap.size w W1 := by rw [hW1]; exact (Below.refl _ _).alloc (Nat.le_refl _) _
  have hX1 : W1.heap[w.heap.size]? = some (.cells #[.int .i64 3, .slice Ak K ck, .string (baO l), .string sv, .string sa, .string sz, .slice Ab B cb] 25 (0, 0)) := by rw [hW1]; exact heap_alloc_new w _
  have hz1 : W1.heap.size = w.heap.size + 1 := by rw [hW1]; simp
  obtain ⟨y0, y1, y2, y3, y4, y5, y6⟩ := cells7 hX1
  replace hB1 := Lib.hid hB1
  replace hX1 := Lib.hid hX1
  replace hb := Lib.hid hb
  go_enter Tryz.func50, Tryz.ntmps50
  go_wp2_with fail
  rw [← hW1]
  replace hW1 := Lib.hid hW1
  go_wp2_with fail
  refine (CC.out _).mono ?_
  rintro _ w2 ⟨rfl, h2⟩
  have hz2 := h2.size
  have hX2 : ∀ o o2 : Obj, ((w2.alloc o).alloc o2).heap[w.heap.size]? = some (.cells #[.int .i64 3, .slice Ak K ck, .string (baO l), .string sv, .string sa, .string sz, .slice Ab B cb] 25 (0, 0)) := fun o o2 => by
    rw [Below.heap_alloc _ _ _ (by simp; omega), Below.heap_alloc _ _ _ (by omega), h2.block _ (by omega)]
    exact hX1.out
  have x0 : ∀ o : Obj, (w2.alloc o).cell? ⟨w.heap.size, 0, none⟩ = some (.int .i64 3) := fun o => cell_of_row _ _ _ _ _ _ ((Below.heap_alloc _ _ _ (by omega)).trans ((h2.block _ (by omega)).trans hX1.out))
  have x00 : ∀ o o2 : Obj, ((w2.alloc o).alloc o2).cell? ⟨w.heap.size, 0, none⟩ = some (.int .i64 3) := fun o o2 => cell_of_row _ _ _ _ _ _ (hX2 o o2)
  have hB2 : ∀ o o2 : Obj, Below w.heap.size w ((w2.alloc o).alloc o2) := fun o o2 => ((hB1.out.trans (h2.mono (by omega))).alloc (by omega) _).alloc (by simp; omega) _
  have hn : w2.heap.size ≠ w2.heap.size + 1 := by omega
  have hn2 : w.heap.size ≠ w2.heap.size + 1 := by omega
  replace h2 := Lib.hid h2
  replace hX2 := Lib.hid hX2
  replace hB2 := Lib.hid hB2
  clear y0 y1 y2 y3 y4 y5 y6
  dsimp only []
  go_wp2_with fail

  go_region
  go_wp2_with fail
  cases b
  · have hno : ¬ (CmpE 3 3 (K : Int) 0 (B : Int) 0 (baO l) (baO l) sv sv sa ⟨#[]⟩ sz ⟨#[]⟩) := of_decide_eq_false hb.out.symm
    refine (demand_no _).mono ?_
    rintro _ w5 ⟨rfl, h5⟩
    subst w5
    dsimp only []
    exact ⟨rfl, (okIf_no (fun h => hno h.1)).symm, (hB2.out _ _).drew⟩
  have hyes : CmpE 3 3 (K : Int) 0 (B : Int) 0 (baO l) (baO l) sv sv sa ⟨#[]⟩ sz ⟨#[]⟩ := of_decide_eq_true hb.out.symm
  refine (demand_ok _).mono ?_
  rintro _ w5 ⟨rfl, h5⟩
  subst w5
  dsimp only []
  replace hyes := Lib.hid hyes
  go_wp2_with fail
  have hX3 : ((w2.alloc (.cells #[.int .i64 3, .int .i64 (K : Int), .int .i64 (B : Int), .string (baO l), .string sv, .string sa, .string sz] 79)).alloc (.cells #[.int .i64 3, .int .i64 0, .int .i64 0, .string (baO l), .string sv, .string ⟨#[]⟩, .string ⟨#[]⟩] 79)).drew.heap[w.heap.size]? = _ := hX2.out _ _
  have hB3 := (hB2.out (.cells #[.int .i64 3, .int .i64 (K : Int), .int .i64 (B : Int), .string (baO l), .string sv, .string sa, .string sz] 79) (.cells #[.int .i64 3, .int .i64 0, .int .i64 0, .string (baO l), .string sv, .string ⟨#[]⟩, .string ⟨#[]⟩] 79)).drew
  generalize ((w2.alloc (.cells #[.int .i64 3, .int .i64 (K : Int), .int .i64 (B : Int), .string (baO l), .string sv, .string sa, .string sz] 79)).alloc (.cells #[.int .i64 3, .int .i64 0, .int .i64 0, .string (baO l), .string sv, .string ⟨#[]⟩, .string ⟨#[]⟩] 79)).drew = W3 at hX3 hB3 ⊢
  have KX : Hid (∀ W, Below (w.heap.size + 1) W3 W → W.cell? ⟨w.heap.size, 2, none⟩ = some (.string (baO l))) := Lib.hid fun W hW => cell_of_row _ _ _ _ _ _ ((hW.block _ (by omega)).trans hX3)
  have hz3 : w.heap.size + 1 ≤ W3.heap.size := (Array.getElem?_eq_some_iff.1 hX3).1
  have y2 := KX.out W3 (Below.refl _ _)
  replace hX3 := Lib.hid hX3
  replace hB3 := Lib.hid hB3
  clear x0 x00 hE
  cases hd : dscU l with
  | none =>
    have CN := Lib.hid fun W => (normal_any l W hl).mono fun en w' (h : _) => (⟨h.2.1 hd, h.2.2⟩ : en = bad14 ∧ Below W.heap.size W w')
    refine wp_region_held_drew (S := (fun W => W.cell? ⟨w.heap.size, 2, none⟩ = some (.string (baO l)))) (by kernel_rfl) (KX.out _ (Below.refl _ _).drew) ?_
    intro hHeld
    refine takeL 0 68 (v := ?_) rfl rfl (by kernel_rfl) (by kernel_rfl) (by kernel_rfl) (fun _ _ _ h => h) (Or.inl ⟨by rfl, ?hy1⟩) hHeld ?rest1
    case hy1 => intro W hS; (try dsimp only at hS); go_simp; try (with_reducible rfl)
    dsimp only [List.set]
    refine takeL 1 69 (v := ?_) rfl rfl (by kernel_rfl) (by kernel_rfl) (by kernel_rfl) (fun _ _ _ h => h) (Or.inl ⟨by rfl, ?hy2⟩) hHeld ?rest2
    case hy2 => intro W hS; (try dsimp only at hS); go_simp; try (with_reducible rfl)
    dsimp only [List.set]
    refine takeL 3 71 (v := ?_) rfl rfl (by kernel_rfl) (by kernel_rfl) (by kernel_rfl) (fun _ _ _ h => h) (Or.inl ⟨by rfl, ?hy3⟩) hHeld ?rest3
    case hy3 => intro W hS; (try dsimp only at hS); go_simp; try (with_reducible rfl)
    dsimp only [List.set]
    refine takeL 4 72 (v := ?_) rfl rfl (by kernel_rfl) (by kernel_rfl) (by kernel_rfl) (fun _ _ _ h => h) (Or.inl ⟨by rfl, ?hy4⟩) hHeld ?rest4
    case hy4 => intro W hS; (try dsimp only at hS); go_simp; try (with_reducible rfl)
    dsimp only [List.set]
    refine wpAnyH_ready (rs := [2]) (by kernel_rfl) (by simp) ?_
    refine AllReadyH.cons rfl (fun K hK => ?_) (AllReadyH.nil)
    go_simp
    go_at_call 58
    refine (CN.out _).mono ?_
    rintro _ w6 ⟨rfl, hb6⟩
    have HB6 := hB3.out.trans (Below.mono (Below.trans (Below.refl W3.heap.size W3).drew hb6) (by omega))
    exact ⟨rfl, (okIf_no (fun h => by have h2 := h.2; rw [hd] at h2; cases h2)).symm, HB6⟩
  | some t =>
    have CN := Lib.hid fun W => (normal_any l W hl).mono fun en w' (h : _) => (⟨h.1 t hd, h.2.2⟩ : en = .returned (.string (baO t)) ∧ Below W.heap.size W w')
    by_cases htl : t = l
    · subst htl
      have CD := Lib.hid fun W => demand_ok W
      refine wp_region_held_drew (S := (fun W => W.cell? ⟨w.heap.size, 2, none⟩ = some (.string (baO t)))) (by kernel_rfl) (KX.out _ (Below.refl _ _).drew) ?_
      intro hHeld
      refine takeL 0 68 (v := ?_) rfl rfl (by kernel_rfl) (by kernel_rfl) (by kernel_rfl) (fun _ _ _ h => h) (Or.inl ⟨by rfl, ?hy5⟩) hHeld ?rest5
      case hy5 => intro W hS; (try dsimp only at hS); go_simp; try (with_reducible rfl)
      dsimp only [List.set]
      refine takeL 1 69 (v := ?_) rfl rfl (by kernel_rfl) (by kernel_rfl) (by kernel_rfl) (fun _ _ _ h => h) (Or.inl ⟨by rfl, ?hy6⟩) hHeld ?rest6
      case hy6 => intro W hS; (try dsimp only at hS); go_simp; try (with_reducible rfl)
      dsimp only [List.set]
      refine takeL 3 71 (v := ?_) rfl rfl (by kernel_rfl) (by kernel_rfl) (by kernel_rfl) (fun _ _ _ h => h) (Or.inl ⟨by rfl, ?hy7⟩) hHeld ?rest7
      case hy7 => intro W hS; (try dsimp only at hS); go_simp; try (with_reducible rfl)
      dsimp only [List.set]
      refine takeL 4 72 (v := ?_) rfl rfl (by kernel_rfl) (by kernel_rfl) (by kernel_rfl) (fun _ _ _ h => h) (Or.inl ⟨by rfl, ?hy8⟩) hHeld ?rest8
      case hy8 => intro W hS; (try dsimp only at hS); go_simp; try (with_reducible rfl)
      dsimp only [List.set]
      refine wpAnyH_ready (rs := [2]) (by kernel_rfl) (by simp) ?_
      refine AllReadyH.cons rfl (fun K hK => ?_) (AllReadyH.nil)
      go_simp
      go_at_call 58
      refine (CN.out _).mono ?_
      rintro _ w6 ⟨rfl, hb6⟩
      have HK6 := Lib.hid (show Below (w.heap.size + 1) W3 w6 from Below.mono (Below.trans (Below.refl W3.heap.size W3).drew hb6) hz3)
      clear hb6
      dsimp only []
      refine hK.out _ _ (KX.out _ (HK6.out)) (fun hHeld2 => ?_)
      clear hK K hHeld
      have hHeld := hHeld2
      clear hHeld2
      refine takeL 5 73 (v := ?_) rfl rfl (by kernel_rfl) (by kernel_rfl) (by kernel_rfl) (fun _ _ _ h => h) (Or.inl ⟨by rfl, ?hy9⟩) hHeld ?rest9
      case hy9 => intro W hS; (try dsimp only at hS); go_simp; try (with_reducible rfl)
      dsimp only [List.set]
      refine wpAnyH_ready (rs := [6]) (by kernel_rfl) (by simp) ?_
      refine AllReadyH.cons rfl (fun K hK => ?_) (AllReadyH.nil)
      go_simp
      go_at_call 29
      refine (CD.out _).mono ?_
      rintro _ w7 ⟨rfl, h7⟩
      subst w7
      dsimp only []
      refine hK.out _ _ (KX.out _ (HK6.out)) (fun hHeld2 => ?_)
      clear hK K hHeld
      have hHeld := hHeld2
      clear hHeld2
      refine wpAnyH_done (by kernel_rfl) ?_ _
      go_wp2_with fail
      go_end0
      exact ⟨(okIf_yes (And.intro hyes.out hd)).symm, hB3.out.trans (HK6.out.mono (by omega))⟩
    · have hne : ((baO t).toList == (baO l).toList) = false := by
        rw [beq_eq_false_iff_ne, Lib.toList_data, Lib.toList_data]
        exact htl
      have CD := Lib.hid fun W => demand_no W
      refine wp_region_held_drew (S := (fun W => W.cell? ⟨w.heap.size, 2, none⟩ = some (.string (baO l)))) (by kernel_rfl) (KX.out _ (Below.refl _ _).drew) ?_
      intro hHeld
      refine takeL 0 68 (v := ?_) rfl rfl (by kernel_rfl) (by kernel_rfl) (by kernel_rfl) (fun _ _ _ h => h) (Or.inl ⟨by rfl, ?hy10⟩) hHeld ?rest10
      case hy10 => intro W hS; (try dsimp only at hS); go_simp; try (with_reducible rfl)
      dsimp only [List.set]
      refine takeL 1 69 (v := ?_) rfl rfl (by kernel_rfl) (by kernel_rfl) (by kernel_rfl) (fun _ _ _ h => h) (Or.inl ⟨by rfl, ?hy11⟩) hHeld ?rest11
      case hy11 => intro W hS; (try dsimp only at hS); go_simp; try (with_reducible rfl)
      dsimp only [List.set]
      refine takeL 3 71 (v := ?_) rfl rfl (by kernel_rfl) (by kernel_rfl) (by kernel_rfl) (fun _ _ _ h => h) (Or.inl ⟨by rfl, ?hy12⟩) hHeld ?rest12
      case hy12 => intro W hS; (try dsimp only at hS); go_simp; try (with_reducible rfl)
      dsimp only [List.set]
      refine takeL 4 72 (v := ?_) rfl rfl (by kernel_rfl) (by kernel_rfl) (by kernel_rfl) (fun _ _ _ h => h) (Or.inl ⟨by rfl, ?hy13⟩) hHeld ?rest13
      case hy13 => intro W hS; (try dsimp only at hS); go_simp; try (with_reducible rfl)
      dsimp only [List.set]
      refine wpAnyH_ready (rs := [2]) (by kernel_rfl) (by simp) ?_
      refine AllReadyH.cons rfl (fun K hK => ?_) (AllReadyH.nil)
      go_simp
      go_at_call 58
      refine (CN.out _).mono ?_
      rintro _ w6 ⟨rfl, hb6⟩
      have HK6 := Lib.hid (show Below (w.heap.size + 1) W3 w6 from Below.mono (Below.trans (Below.refl W3.heap.size W3).drew hb6) hz3)
      clear hb6
      dsimp only []
      refine hK.out _ _ (KX.out _ (HK6.out)) (fun hHeld2 => ?_)
      clear hK K hHeld
      have hHeld := hHeld2
      clear hHeld2
      refine takeL 5 73 (v := ?_) rfl rfl (by kernel_rfl) (by kernel_rfl) (by kernel_rfl) (fun _ _ _ h => h) (Or.inl ⟨by rfl, ?hy14⟩) hHeld ?rest14
      case hy14 => intro W hS; (try dsimp only at hS); go_simp; try (with_reducible rfl)
      dsimp only [List.set]
      refine wpAnyH_ready (rs := [6]) (by kernel_rfl) (by simp) ?_
      refine AllReadyH.cons rfl (fun K hK => ?_) (AllReadyH.nil)
      go_simp
      go_at_call 29
      refine (CD.out _).mono ?_
      rintro _ w7 ⟨rfl, h7⟩
      subst w7
      exact ⟨rfl, (okIf_no (fun h => by have h2 := h.2; rw [hd] at h2; injection h2 with h2; exact htl h2)).symm, hB3.out.trans (HK6.out.mono (by omega))⟩

set_option maxRecDepth 8000 in
set_option maxHeartbeats 1600000 in
theorem check_5 (K B : Nat) (Ak Ab : Option Addr) (ck cb : Nat) (l : List UInt8) (sv sa sz : ByteArray) (w : World) (hl : l.length ≤ 9500) :
    Calls Tryz.prog 50 #[.agg #[.int .i64 5, .slice Ak K ck, .string (baO l), .string sv, .string sa, .string sz, .slice Ab B cb]] w fun en w' => en = okIf (CmpE 5 5 (K : Int) 0 (B : Int) 0 (baO l) (baO l) sv sv sa ⟨#[]⟩ sz ⟨#[]⟩ ∧ dscU l = some l) ∧ Below w.heap.size w w' := by
  have CC := Lib.hid fun W => cmp_raw 5 K B Ak Ab ck cb (baO l) sv sa sz W
  obtain ⟨b, hb⟩ : ∃ b, b = decide (CmpE 5 5 (K : Int) 0 (B : Int) 0 (baO l) (baO l) sv sv sa ⟨#[]⟩ sz ⟨#[]⟩) := ⟨_, rfl⟩
  have hE : ∀ W, Sem.run Tryz.prog (binOp .eql 79 (.agg #[.int .i64 5, .int .i64 (K : Int), .int .i64 (B : Int), .string (baO l), .string sv, .string sa, .string sz]) (.agg #[.int .i64 5, .int .i64 0, .int .i64 0, .string (baO l), .string sv, .string ⟨#[]⟩, .string ⟨#[]⟩])) W = .ok (.bool b) W := fun W => by rw [hb]; exact cmp_eql _ _ _ _ _ _ _ _ _ _ _ _ _ _ W
  obtain ⟨W1, hW1⟩ : ∃ W1, W1 = w.alloc (.cells #[.int .i64 5, .slice Ak K ck, .string (baO l), .string sv, .string sa, .string sz, .slice Ab B cb] 25) := ⟨_, rfl⟩
  have hB1 : Below w.heap.size w W1 := by rw [hW1]; exact (Below.refl _ _).alloc (Nat.le_refl _) _
  have hX1 : W1.heap[w.heap.size]? = some (.cells #[.int .i64 5, .slice Ak K ck, .string (baO l), .string sv, .string sa, .string sz, .slice Ab B cb] 25 (0, 0)) := by rw [hW1]; exact heap_alloc_new w _
  have hz1 : W1.heap.size = w.heap.size + 1 := by rw [hW1]; simp
  obtain ⟨y0, y1, y2, y3, y4, y5, y6⟩ := cells7 hX1
  replace hB1 := Lib.hid hB1
  replace hX1 := Lib.hid hX1
  replace hb := Lib.hid hb
  go_enter Tryz.func50, Tryz.ntmps50
  go_wp2_with fail
  rw [← hW1]
  replace hW1 := Lib.hid hW1
  go_wp2_with fail
  refine (CC.out _).mono ?_
  rintro _ w2 ⟨rfl, h2⟩
  have hz2 := h2.size
  have hX2 : ∀ o o2 : Obj, ((w2.alloc o).alloc o2).heap[w.heap.size]? = some (.cells #[.int .i64 5, .slice Ak K ck, .string (baO l), .string sv, .string sa, .string sz, .slice Ab B cb] 25 (0, 0)) := fun o o2 => by
    rw [Below.heap_alloc _ _ _ (by simp; omega), Below.heap_alloc _ _ _ (by omega), h2.block _ (by omega)]
    exact hX1.out
  have x0 : ∀ o : Obj, (w2.alloc o).cell? ⟨w.heap.size, 0, none⟩ = some (.int .i64 5) := fun o => cell_of_row _ _ _ _ _ _ ((Below.heap_alloc _ _ _ (by omega)).trans ((h2.block _ (by omega)).trans hX1.out))
  have x00 : ∀ o o2 : Obj, ((w2.alloc o).alloc o2).cell? ⟨w.heap.size, 0, none⟩ = some (.int .i64 5) := fun o o2 => cell_of_row _ _ _ _ _ _ (hX2 o o2)
  have hB2 : ∀ o o2 : Obj, Below w.heap.size w ((w2.alloc o).alloc o2) := fun o o2 => ((hB1.out.trans (h2.mono (by omega))).alloc (by omega) _).alloc (by simp; omega) _
  have hn : w2.heap.size ≠ w2.heap.size + 1 := by omega
  have hn2 : w.heap.size ≠ w2.heap.size + 1 := by omega
  replace h2 := Lib.hid h2
  replace hX2 := Lib.hid hX2
  replace hB2 := Lib.hid hB2
  clear y0 y1 y2 y3 y4 y5 y6
  dsimp only []
  go_wp2_with fail

  go_region
  go_wp2_with fail
  cases b
  · have hno : ¬ (CmpE 5 5 (K : Int) 0 (B : Int) 0 (baO l) (baO l) sv sv sa ⟨#[]⟩ sz ⟨#[]⟩) := of_decide_eq_false hb.out.symm
    refine (demand_no _).mono ?_
    rintro _ w5 ⟨rfl, h5⟩
    subst w5
    dsimp only []
    exact ⟨rfl, (okIf_no (fun h => hno h.1)).symm, (hB2.out _ _).drew⟩
  have hyes : CmpE 5 5 (K : Int) 0 (B : Int) 0 (baO l) (baO l) sv sv sa ⟨#[]⟩ sz ⟨#[]⟩ := of_decide_eq_true hb.out.symm
  refine (demand_ok _).mono ?_
  rintro _ w5 ⟨rfl, h5⟩
  subst w5
  dsimp only []
  replace hyes := Lib.hid hyes
  go_wp2_with fail
  have hX3 : ((w2.alloc (.cells #[.int .i64 5, .int .i64 (K : Int), .int .i64 (B : Int), .string (baO l), .string sv, .string sa, .string sz] 79)).alloc (.cells #[.int .i64 5, .int .i64 0, .int .i64 0, .string (baO l), .string sv, .string ⟨#[]⟩, .string ⟨#[]⟩] 79)).drew.heap[w.heap.size]? = _ := hX2.out _ _
  have hB3 := (hB2.out (.cells #[.int .i64 5, .int .i64 (K : Int), .int .i64 (B : Int), .string (baO l), .string sv, .string sa, .string sz] 79) (.cells #[.int .i64 5, .int .i64 0, .int .i64 0, .string (baO l), .string sv, .string ⟨#[]⟩, .string ⟨#[]⟩] 79)).drew
  generalize ((w2.alloc (.cells #[.int .i64 5, .int .i64 (K : Int), .int .i64 (B : Int), .string (baO l), .string sv, .string sa, .string sz] 79)).alloc (.cells #[.int .i64 5, .int .i64 0, .int .i64 0, .string (baO l), .string sv, .string ⟨#[]⟩, .string ⟨#[]⟩] 79)).drew = W3 at hX3 hB3 ⊢
  have KX : Hid (∀ W, Below (w.heap.size + 1) W3 W → W.cell? ⟨w.heap.size, 2, none⟩ = some (.string (baO l))) := Lib.hid fun W hW => cell_of_row _ _ _ _ _ _ ((hW.block _ (by omega)).trans hX3)
  have hz3 : w.heap.size + 1 ≤ W3.heap.size := (Array.getElem?_eq_some_iff.1 hX3).1
  have y2 := KX.out W3 (Below.refl _ _)
  replace hX3 := Lib.hid hX3
  replace hB3 := Lib.hid hB3
  clear x0 x00 hE
  cases hd : dscU l with
  | none =>
    have CN := Lib.hid fun W => (normal_any l W hl).mono fun en w' (h : _) => (⟨h.2.1 hd, h.2.2⟩ : en = bad14 ∧ Below W.heap.size W w')
    refine wp_region_held_drew (S := (fun W => W.cell? ⟨w.heap.size, 2, none⟩ = some (.string (baO l)))) (by kernel_rfl) (KX.out _ (Below.refl _ _).drew) ?_
    intro hHeld
    refine takeL 0 68 (v := ?_) rfl rfl (by kernel_rfl) (by kernel_rfl) (by kernel_rfl) (fun _ _ _ h => h) (Or.inl ⟨by rfl, ?hy15⟩) hHeld ?rest15
    case hy15 => intro W hS; (try dsimp only at hS); go_simp; try (with_reducible rfl)
    dsimp only [List.set]
    refine takeL 1 69 (v := ?_) rfl rfl (by kernel_rfl) (by kernel_rfl) (by kernel_rfl) (fun _ _ _ h => h) (Or.inl ⟨by rfl, ?hy16⟩) hHeld ?rest16
    case hy16 => intro W hS; (try dsimp only at hS); go_simp; try (with_reducible rfl)
    dsimp only [List.set]
    refine takeL 3 71 (v := ?_) rfl rfl (by kernel_rfl) (by kernel_rfl) (by kernel_rfl) (fun _ _ _ h => h) (Or.inl ⟨by rfl, ?hy17⟩) hHeld ?rest17
    case hy17 => intro W hS; (try dsimp only at hS); go_simp; try (with_reducible rfl)
    dsimp only [List.set]
    refine takeL 4 72 (v := ?_) rfl rfl (by kernel_rfl) (by kernel_rfl) (by kernel_rfl) (fun _ _ _ h => h) (Or.inl ⟨by rfl, ?hy18⟩) hHeld ?rest18
    case hy18 => intro W hS; (try dsimp only at hS); go_simp; try (with_reducible rfl)
    dsimp only [List.set]
    refine wpAnyH_ready (rs := [2]) (by kernel_rfl) (by simp) ?_
    refine AllReadyH.cons rfl (fun K hK => ?_) (AllReadyH.nil)
    go_simp
    go_at_call 58
    refine (CN.out _).mono ?_
    rintro _ w6 ⟨rfl, hb6⟩
    have HB6 := hB3.out.trans (Below.mono (Below.trans (Below.refl W3.heap.size W3).drew hb6) (by omega))
    exact ⟨rfl, (okIf_no (fun h => by have h2 := h.2; rw [hd] at h2; cases h2)).symm, HB6⟩
  | some t =>
    have CN := Lib.hid fun W => (normal_any l W hl).mono fun en w' (h : _) => (⟨h.1 t hd, h.2.2⟩ : en = .returned (.string (baO t)) ∧ Below W.heap.size W w')
    by_cases htl : t = l
    · subst htl
      have CD := Lib.hid fun W => demand_ok W
      refine wp_region_held_drew (S := (fun W => W.cell? ⟨w.heap.size, 2, none⟩ = some (.string (baO t)))) (by kernel_rfl) (KX.out _ (Below.refl _ _).drew) ?_
      intro hHeld
      refine takeL 0 68 (v := ?_) rfl rfl (by kernel_rfl) (by kernel_rfl) (by kernel_rfl) (fun _ _ _ h => h) (Or.inl ⟨by rfl, ?hy19⟩) hHeld ?rest19
      case hy19 => intro W hS; (try dsimp only at hS); go_simp; try (with_reducible rfl)
      dsimp only [List.set]
      refine takeL 1 69 (v := ?_) rfl rfl (by kernel_rfl) (by kernel_rfl) (by kernel_rfl) (fun _ _ _ h => h) (Or.inl ⟨by rfl, ?hy20⟩) hHeld ?rest20
      case hy20 => intro W hS; (try dsimp only at hS); go_simp; try (with_reducible rfl)
      dsimp only [List.set]
      refine takeL 3 71 (v := ?_) rfl rfl (by kernel_rfl) (by kernel_rfl) (by kernel_rfl) (fun _ _ _ h => h) (Or.inl ⟨by rfl, ?hy21⟩) hHeld ?rest21
      case hy21 => intro W hS; (try dsimp only at hS); go_simp; try (with_reducible rfl)
      dsimp only [List.set]
      refine takeL 4 72 (v := ?_) rfl rfl (by kernel_rfl) (by kernel_rfl) (by kernel_rfl) (fun _ _ _ h => h) (Or.inl ⟨by rfl, ?hy22⟩) hHeld ?rest22
      case hy22 => intro W hS; (try dsimp only at hS); go_simp; try (with_reducible rfl)
      dsimp only [List.set]
      refine wpAnyH_ready (rs := [2]) (by kernel_rfl) (by simp) ?_
      refine AllReadyH.cons rfl (fun K hK => ?_) (AllReadyH.nil)
      go_simp
      go_at_call 58
      refine (CN.out _).mono ?_
      rintro _ w6 ⟨rfl, hb6⟩
      have HK6 := Lib.hid (show Below (w.heap.size + 1) W3 w6 from Below.mono (Below.trans (Below.refl W3.heap.size W3).drew hb6) hz3)
      clear hb6
      dsimp only []
      refine hK.out _ _ (KX.out _ (HK6.out)) (fun hHeld2 => ?_)
      clear hK K hHeld
      have hHeld := hHeld2
      clear hHeld2
      refine takeL 5 73 (v := ?_) rfl rfl (by kernel_rfl) (by kernel_rfl) (by kernel_rfl) (fun _ _ _ h => h) (Or.inl ⟨by rfl, ?hy23⟩) hHeld ?rest23
      case hy23 => intro W hS; (try dsimp only at hS); go_simp; try (with_reducible rfl)
      dsimp only [List.set]
      refine wpAnyH_ready (rs := [6]) (by kernel_rfl) (by simp) ?_
      refine AllReadyH.cons rfl (fun K hK => ?_) (AllReadyH.nil)
      go_simp
      go_at_call 29
      refine (CD.out _).mono ?_
      rintro _ w7 ⟨rfl, h7⟩
      subst w7
      dsimp only []
      refine hK.out _ _ (KX.out _ (HK6.out)) (fun hHeld2 => ?_)
      clear hK K hHeld
      have hHeld := hHeld2
      clear hHeld2
      refine wpAnyH_done (by kernel_rfl) ?_ _
      go_wp2_with fail
      go_end0
      exact ⟨(okIf_yes (And.intro hyes.out hd)).symm, hB3.out.trans (HK6.out.mono (by omega))⟩
    · have hne : ((baO t).toList == (baO l).toList) = false := by
        rw [beq_eq_false_iff_ne, Lib.toList_data, Lib.toList_data]
        exact htl
      have CD := Lib.hid fun W => demand_no W
      refine wp_region_held_drew (S := (fun W => W.cell? ⟨w.heap.size, 2, none⟩ = some (.string (baO l)))) (by kernel_rfl) (KX.out _ (Below.refl _ _).drew) ?_
      intro hHeld
      refine takeL 0 68 (v := ?_) rfl rfl (by kernel_rfl) (by kernel_rfl) (by kernel_rfl) (fun _ _ _ h => h) (Or.inl ⟨by rfl, ?hy24⟩) hHeld ?rest24
      case hy24 => intro W hS; (try dsimp only at hS); go_simp; try (with_reducible rfl)
      dsimp only [List.set]
      refine takeL 1 69 (v := ?_) rfl rfl (by kernel_rfl) (by kernel_rfl) (by kernel_rfl) (fun _ _ _ h => h) (Or.inl ⟨by rfl, ?hy25⟩) hHeld ?rest25
      case hy25 => intro W hS; (try dsimp only at hS); go_simp; try (with_reducible rfl)
      dsimp only [List.set]
      refine takeL 3 71 (v := ?_) rfl rfl (by kernel_rfl) (by kernel_rfl) (by kernel_rfl) (fun _ _ _ h => h) (Or.inl ⟨by rfl, ?hy26⟩) hHeld ?rest26
      case hy26 => intro W hS; (try dsimp only at hS); go_simp; try (with_reducible rfl)
      dsimp only [List.set]
      refine takeL 4 72 (v := ?_) rfl rfl (by kernel_rfl) (by kernel_rfl) (by kernel_rfl) (fun _ _ _ h => h) (Or.inl ⟨by rfl, ?hy27⟩) hHeld ?rest27
      case hy27 => intro W hS; (try dsimp only at hS); go_simp; try (with_reducible rfl)
      dsimp only [List.set]
      refine wpAnyH_ready (rs := [2]) (by kernel_rfl) (by simp) ?_
      refine AllReadyH.cons rfl (fun K hK => ?_) (AllReadyH.nil)
      go_simp
      go_at_call 58
      refine (CN.out _).mono ?_
      rintro _ w6 ⟨rfl, hb6⟩
      have HK6 := Lib.hid (show Below (w.heap.size + 1) W3 w6 from Below.mono (Below.trans (Below.refl W3.heap.size W3).drew hb6) hz3)
      clear hb6
      dsimp only []
      refine hK.out _ _ (KX.out _ (HK6.out)) (fun hHeld2 => ?_)
      clear hK K hHeld
      have hHeld := hHeld2
      clear hHeld2
      refine takeL 5 73 (v := ?_) rfl rfl (by kernel_rfl) (by kernel_rfl) (by kernel_rfl) (fun _ _ _ h => h) (Or.inl ⟨by rfl, ?hy28⟩) hHeld ?rest28
      case hy28 => intro W hS; (try dsimp only at hS); go_simp; try (with_reducible rfl)
      dsimp only [List.set]
      refine wpAnyH_ready (rs := [6]) (by kernel_rfl) (by simp) ?_
      refine AllReadyH.cons rfl (fun K hK => ?_) (AllReadyH.nil)
      go_simp
      go_at_call 29
      refine (CD.out _).mono ?_
      rintro _ w7 ⟨rfl, h7⟩
      subst w7
      exact ⟨rfl, (okIf_no (fun h => by have h2 := h.2; rw [hd] at h2; injection h2 with h2; exact htl h2)).symm, hB3.out.trans (HK6.out.mono (by omega))⟩

set_option maxRecDepth 8000 in
set_option maxHeartbeats 1600000 in
theorem check_6 (K B : Nat) (Ak Ab : Option Addr) (ck cb : Nat) (l : List UInt8) (sv sa sz : ByteArray) (w : World) (hl : l.length ≤ 9500) :
    Calls Tryz.prog 50 #[.agg #[.int .i64 6, .slice Ak K ck, .string (baO l), .string sv, .string sa, .string sz, .slice Ab B cb]] w fun en w' => en = okIf (CmpE 6 6 (K : Int) 0 (B : Int) 0 (baO l) (baO l) sv sv sa ⟨#[]⟩ sz ⟨#[]⟩ ∧ dscU l = some l) ∧ Below w.heap.size w w' := by
  have CC := Lib.hid fun W => cmp_raw 6 K B Ak Ab ck cb (baO l) sv sa sz W
  obtain ⟨b, hb⟩ : ∃ b, b = decide (CmpE 6 6 (K : Int) 0 (B : Int) 0 (baO l) (baO l) sv sv sa ⟨#[]⟩ sz ⟨#[]⟩) := ⟨_, rfl⟩
  have hE : ∀ W, Sem.run Tryz.prog (binOp .eql 79 (.agg #[.int .i64 6, .int .i64 (K : Int), .int .i64 (B : Int), .string (baO l), .string sv, .string sa, .string sz]) (.agg #[.int .i64 6, .int .i64 0, .int .i64 0, .string (baO l), .string sv, .string ⟨#[]⟩, .string ⟨#[]⟩])) W = .ok (.bool b) W := fun W => by rw [hb]; exact cmp_eql _ _ _ _ _ _ _ _ _ _ _ _ _ _ W
  obtain ⟨W1, hW1⟩ : ∃ W1, W1 = w.alloc (.cells #[.int .i64 6, .slice Ak K ck, .string (baO l), .string sv, .string sa, .string sz, .slice Ab B cb] 25) := ⟨_, rfl⟩
  have hB1 : Below w.heap.size w W1 := by rw [hW1]; exact (Below.refl _ _).alloc (Nat.le_refl _) _
  have hX1 : W1.heap[w.heap.size]? = some (.cells #[.int .i64 6, .slice Ak K ck, .string (baO l), .string sv, .string sa, .string sz, .slice Ab B cb] 25 (0, 0)) := by rw [hW1]; exact heap_alloc_new w _
  have hz1 : W1.heap.size = w.heap.size + 1 := by rw [hW1]; simp
  obtain ⟨y0, y1, y2, y3, y4, y5, y6⟩ := cells7 hX1
  replace hB1 := Lib.hid hB1
  replace hX1 := Lib.hid hX1
  replace hb := Lib.hid hb
  go_enter Tryz.func50, Tryz.ntmps50
  go_wp2_with fail
  rw [← hW1]
  replace hW1 := Lib.hid hW1
  go_wp2_with fail
  refine (CC.out _).mono ?_
  rintro _ w2 ⟨rfl, h2⟩
  have hz2 := h2.size
  have hX2 : ∀ o o2 : Obj, ((w2.alloc o).alloc o2).heap[w.heap.size]? = some (.cells #[.int .i64 6, .slice Ak K ck, .string (baO l), .string sv, .string sa, .string sz, .slice Ab B cb] 25 (0, 0)) := fun o o2 => by
    rw [Below.heap_alloc _ _ _ (by simp; omega), Below.heap_alloc _ _ _ (by omega), h2.block _ (by omega)]
    exact hX1.out
  have x0 : ∀ o : Obj, (w2.alloc o).cell? ⟨w.heap.size, 0, none⟩ = some (.int .i64 6) := fun o => cell_of_row _ _ _ _ _ _ ((Below.heap_alloc _ _ _ (by omega)).trans ((h2.block _ (by omega)).trans hX1.out))
  have x00 : ∀ o o2 : Obj, ((w2.alloc o).alloc o2).cell? ⟨w.heap.size, 0, none⟩ = some (.int .i64 6) := fun o o2 => cell_of_row _ _ _ _ _ _ (hX2 o o2)
  have hB2 : ∀ o o2 : Obj, Below w.heap.size w ((w2.alloc o).alloc o2) := fun o o2 => ((hB1.out.trans (h2.mono (by omega))).alloc (by omega) _).alloc (by simp; omega) _
  have hn : w2.heap.size ≠ w2.heap.size + 1 := by omega
  have hn2 : w.heap.size ≠ w2.heap.size + 1 := by omega
  replace h2 := Lib.hid h2
  replace hX2 := Lib.hid hX2
  replace hB2 := Lib.hid hB2
  clear y0 y1 y2 y3 y4 y5 y6
  dsimp only []
  go_wp2_with fail

  go_region
  go_wp2_with fail
  cases b
  · have hno : ¬ (CmpE 6 6 (K : Int) 0 (B : Int) 0 (baO l) (baO l) sv sv sa ⟨#[]⟩ sz ⟨#[]⟩) := of_decide_eq_false hb.out.symm
    refine (demand_no _).mono ?_
    rintro _ w5 ⟨rfl, h5⟩
    subst w5
    dsimp only []
    exact ⟨rfl, (okIf_no (fun h => hno h.1)).symm, (hB2.out _ _).drew⟩
  have hyes : CmpE 6 6 (K : Int) 0 (B : Int) 0 (baO l) (baO l) sv sv sa ⟨#[]⟩ sz ⟨#[]⟩ := of_decide_eq_true hb.out.symm
  refine (demand_ok _).mono ?_
  rintro _ w5 ⟨rfl, h5⟩
  subst w5
  dsimp only []
  replace hyes := Lib.hid hyes
  go_wp2_with fail
  have hX3 : ((w2.alloc (.cells #[.int .i64 6, .int .i64 (K : Int), .int .i64 (B : Int), .string (baO l), .string sv, .string sa, .string sz] 79)).alloc (.cells #[.int .i64 6, .int .i64 0, .int .i64 0, .string (baO l), .string sv, .string ⟨#[]⟩, .string ⟨#[]⟩] 79)).drew.heap[w.heap.size]? = _ := hX2.out _ _
  have hB3 := (hB2.out (.cells #[.int .i64 6, .int .i64 (K : Int), .int .i64 (B : Int), .string (baO l), .string sv, .string sa, .string sz] 79) (.cells #[.int .i64 6, .int .i64 0, .int .i64 0, .string (baO l), .string sv, .string ⟨#[]⟩, .string ⟨#[]⟩] 79)).drew
  generalize ((w2.alloc (.cells #[.int .i64 6, .int .i64 (K : Int), .int .i64 (B : Int), .string (baO l), .string sv, .string sa, .string sz] 79)).alloc (.cells #[.int .i64 6, .int .i64 0, .int .i64 0, .string (baO l), .string sv, .string ⟨#[]⟩, .string ⟨#[]⟩] 79)).drew = W3 at hX3 hB3 ⊢
  have KX : Hid (∀ W, Below (w.heap.size + 1) W3 W → W.cell? ⟨w.heap.size, 2, none⟩ = some (.string (baO l))) := Lib.hid fun W hW => cell_of_row _ _ _ _ _ _ ((hW.block _ (by omega)).trans hX3)
  have hz3 : w.heap.size + 1 ≤ W3.heap.size := (Array.getElem?_eq_some_iff.1 hX3).1
  have y2 := KX.out W3 (Below.refl _ _)
  replace hX3 := Lib.hid hX3
  replace hB3 := Lib.hid hB3
  clear x0 x00 hE
  cases hd : dscU l with
  | none =>
    have CN := Lib.hid fun W => (normal_any l W hl).mono fun en w' (h : _) => (⟨h.2.1 hd, h.2.2⟩ : en = bad14 ∧ Below W.heap.size W w')
    refine wp_region_held_drew (S := (fun W => W.cell? ⟨w.heap.size, 2, none⟩ = some (.string (baO l)))) (by kernel_rfl) (KX.out _ (Below.refl _ _).drew) ?_
    intro hHeld
    refine takeL 0 68 (v := ?_) rfl rfl (by kernel_rfl) (by kernel_rfl) (by kernel_rfl) (fun _ _ _ h => h) (Or.inl ⟨by rfl, ?hy29⟩) hHeld ?rest29
    case hy29 => intro W hS; (try dsimp only at hS); go_simp; try (with_reducible rfl)
    dsimp only [List.set]
    refine takeL 1 69 (v := ?_) rfl rfl (by kernel_rfl) (by kernel_rfl) (by kernel_rfl) (fun _ _ _ h => h) (Or.inl ⟨by rfl, ?hy30⟩) hHeld ?rest30
    case hy30 => intro W hS; (try dsimp only at hS); go_simp; try (with_reducible rfl)
    dsimp only [List.set]
    refine takeL 3 71 (v := ?_) rfl rfl (by kernel_rfl) (by kernel_rfl) (by kernel_rfl) (fun _ _ _ h => h) (Or.inl ⟨by rfl, ?hy31⟩) hHeld ?rest31
    case hy31 => intro W hS; (try dsimp only at hS); go_simp; try (with_reducible rfl)
    dsimp only [List.set]
    refine takeL 4 72 (v := ?_) rfl rfl (by kernel_rfl) (by kernel_rfl) (by kernel_rfl) (fun _ _ _ h => h) (Or.inl ⟨by rfl, ?hy32⟩) hHeld ?rest32
    case hy32 => intro W hS; (try dsimp only at hS); go_simp; try (with_reducible rfl)
    dsimp only [List.set]
    refine wpAnyH_ready (rs := [2]) (by kernel_rfl) (by simp) ?_
    refine AllReadyH.cons rfl (fun K hK => ?_) (AllReadyH.nil)
    go_simp
    go_at_call 58
    refine (CN.out _).mono ?_
    rintro _ w6 ⟨rfl, hb6⟩
    have HB6 := hB3.out.trans (Below.mono (Below.trans (Below.refl W3.heap.size W3).drew hb6) (by omega))
    exact ⟨rfl, (okIf_no (fun h => by have h2 := h.2; rw [hd] at h2; cases h2)).symm, HB6⟩
  | some t =>
    have CN := Lib.hid fun W => (normal_any l W hl).mono fun en w' (h : _) => (⟨h.1 t hd, h.2.2⟩ : en = .returned (.string (baO t)) ∧ Below W.heap.size W w')
    by_cases htl : t = l
    · subst htl
      have CD := Lib.hid fun W => demand_ok W
      refine wp_region_held_drew (S := (fun W => W.cell? ⟨w.heap.size, 2, none⟩ = some (.string (baO t)))) (by kernel_rfl) (KX.out _ (Below.refl _ _).drew) ?_
      intro hHeld
      refine takeL 0 68 (v := ?_) rfl rfl (by kernel_rfl) (by kernel_rfl) (by kernel_rfl) (fun _ _ _ h => h) (Or.inl ⟨by rfl, ?hy33⟩) hHeld ?rest33
      case hy33 => intro W hS; (try dsimp only at hS); go_simp; try (with_reducible rfl)
      dsimp only [List.set]
      refine takeL 1 69 (v := ?_) rfl rfl (by kernel_rfl) (by kernel_rfl) (by kernel_rfl) (fun _ _ _ h => h) (Or.inl ⟨by rfl, ?hy34⟩) hHeld ?rest34
      case hy34 => intro W hS; (try dsimp only at hS); go_simp; try (with_reducible rfl)
      dsimp only [List.set]
      refine takeL 3 71 (v := ?_) rfl rfl (by kernel_rfl) (by kernel_rfl) (by kernel_rfl) (fun _ _ _ h => h) (Or.inl ⟨by rfl, ?hy35⟩) hHeld ?rest35
      case hy35 => intro W hS; (try dsimp only at hS); go_simp; try (with_reducible rfl)
      dsimp only [List.set]
      refine takeL 4 72 (v := ?_) rfl rfl (by kernel_rfl) (by kernel_rfl) (by kernel_rfl) (fun _ _ _ h => h) (Or.inl ⟨by rfl, ?hy36⟩) hHeld ?rest36
      case hy36 => intro W hS; (try dsimp only at hS); go_simp; try (with_reducible rfl)
      dsimp only [List.set]
      refine wpAnyH_ready (rs := [2]) (by kernel_rfl) (by simp) ?_
      refine AllReadyH.cons rfl (fun K hK => ?_) (AllReadyH.nil)
      go_simp
      go_at_call 58
      refine (CN.out _).mono ?_
      rintro _ w6 ⟨rfl, hb6⟩
      have HK6 := Lib.hid (show Below (w.heap.size + 1) W3 w6 from Below.mono (Below.trans (Below.refl W3.heap.size W3).drew hb6) hz3)
      clear hb6
      dsimp only []
      refine hK.out _ _ (KX.out _ (HK6.out)) (fun hHeld2 => ?_)
      clear hK K hHeld
      have hHeld := hHeld2
      clear hHeld2
      refine takeL 5 73 (v := ?_) rfl rfl (by kernel_rfl) (by kernel_rfl) (by kernel_rfl) (fun _ _ _ h => h) (Or.inl ⟨by rfl, ?hy37⟩) hHeld ?rest37
      case hy37 => intro W hS; (try dsimp only at hS); go_simp; try (with_reducible rfl)
      dsimp only [List.set]
      refine wpAnyH_ready (rs := [6]) (by kernel_rfl) (by simp) ?_
      refine AllReadyH.cons rfl (fun K hK => ?_) (AllReadyH.nil)
      go_simp
      go_at_call 29
      refine (CD.out _).mono ?_
      rintro _ w7 ⟨rfl, h7⟩
      subst w7
      dsimp only []
      refine hK.out _ _ (KX.out _ (HK6.out)) (fun hHeld2 => ?_)
      clear hK K hHeld
      have hHeld := hHeld2
      clear hHeld2
      refine wpAnyH_done (by kernel_rfl) ?_ _
      go_wp2_with fail
      go_end0
      exact ⟨(okIf_yes (And.intro hyes.out hd)).symm, hB3.out.trans (HK6.out.mono (by omega))⟩
    · have hne : ((baO t).toList == (baO l).toList) = false := by
        rw [beq_eq_false_iff_ne, Lib.toList_data, Lib.toList_data]
        exact htl
      have CD := Lib.hid fun W => demand_no W
      refine wp_region_held_drew (S := (fun W => W.cell? ⟨w.heap.size, 2, none⟩ = some (.string (baO l)))) (by kernel_rfl) (KX.out _ (Below.refl _ _).drew) ?_
      intro hHeld
      refine takeL 0 68 (v := ?_) rfl rfl (by kernel_rfl) (by kernel_rfl) (by kernel_rfl) (fun _ _ _ h => h) (Or.inl ⟨by rfl, ?hy38⟩) hHeld ?rest38
      case hy38 => intro W hS; (try dsimp only at hS); go_simp; try (with_reducible rfl)
      dsimp only [List.set]
      refine takeL 1 69 (v := ?_) rfl rfl (by kernel_rfl) (by kernel_rfl) (by kernel_rfl) (fun _ _ _ h => h) (Or.inl ⟨by rfl, ?hy39⟩) hHeld ?rest39
      case hy39 => intro W hS; (try dsimp only at hS); go_simp; try (with_reducible rfl)
      dsimp only [List.set]
      refine takeL 3 71 (v := ?_) rfl rfl (by kernel_rfl) (by kernel_rfl) (by kernel_rfl) (fun _ _ _ h => h) (Or.inl ⟨by rfl, ?hy40⟩) hHeld ?rest40
      case hy40 => intro W hS; (try dsimp only at hS); go_simp; try (with_reducible rfl)
      dsimp only [List.set]
      refine takeL 4 72 (v := ?_) rfl rfl (by kernel_rfl) (by kernel_rfl) (by kernel_rfl) (fun _ _ _ h => h) (Or.inl ⟨by rfl, ?hy41⟩) hHeld ?rest41
      case hy41 => intro W hS; (try dsimp only at hS); go_simp; try (with_reducible rfl)
      dsimp only [List.set]
      refine wpAnyH_ready (rs := [2]) (by kernel_rfl) (by simp) ?_
      refine AllReadyH.cons rfl (fun K hK => ?_) (AllReadyH.nil)
      go_simp
      go_at_call 58
      refine (CN.out _).mono ?_
      rintro _ w6 ⟨rfl, hb6⟩
      have HK6 := Lib.hid (show Below (w.heap.size + 1) W3 w6 from Below.mono (Below.trans (Below.refl W3.heap.size W3).drew hb6) hz3)
      clear hb6
      dsimp only []
      refine hK.out _ _ (KX.out _ (HK6.out)) (fun hHeld2 => ?_)
      clear hK K hHeld
      have hHeld := hHeld2
      clear hHeld2
      refine takeL 5 73 (v := ?_) rfl rfl (by kernel_rfl) (by kernel_rfl) (by kernel_rfl) (fun _ _ _ h => h) (Or.inl ⟨by rfl, ?hy42⟩) hHeld ?rest42
      case hy42 => intro W hS; (try dsimp only at hS); go_simp; try (with_reducible rfl)
      dsimp only [List.set]
      refine wpAnyH_ready (rs := [6]) (by kernel_rfl) (by simp) ?_
      refine AllReadyH.cons rfl (fun K hK => ?_) (AllReadyH.nil)
      go_simp
      go_at_call 29
      refine (CD.out _).mono ?_
      rintro _ w7 ⟨rfl, h7⟩
      subst w7
      exact ⟨rfl, (okIf_no (fun h => by have h2 := h.2; rw [hd] at h2; injection h2 with h2; exact htl h2)).symm, hB3.out.trans (HK6.out.mono (by omega))⟩

set_option maxRecDepth 8000 in
set_option maxHeartbeats 1600000 in
theorem check_8 (K B : Nat) (Ak Ab : Option Addr) (ck cb : Nat) (l : List UInt8) (sv sa sz : ByteArray) (w : World) (hl : l.length ≤ 9500) :
    Calls Tryz.prog 50 #[.agg #[.int .i64 8, .slice Ak K ck, .string (baO l), .string sv, .string sa, .string sz, .slice Ab B cb]] w fun en w' => en = okIf (CmpE 8 8 (K : Int) 0 (B : Int) 0 (baO l) (baO l) sv sv sa ⟨#[]⟩ sz ⟨#[]⟩ ∧ dscU l = some l) ∧ Below w.heap.size w w' := by
  have CC := Lib.hid fun W => cmp_raw 8 K B Ak Ab ck cb (baO l) sv sa sz W
  obtain ⟨b, hb⟩ : ∃ b, b = decide (CmpE 8 8 (K : Int) 0 (B : Int) 0 (baO l) (baO l) sv sv sa ⟨#[]⟩ sz ⟨#[]⟩) := ⟨_, rfl⟩
  have hE : ∀ W, Sem.run Tryz.prog (binOp .eql 79 (.agg #[.int .i64 8, .int .i64 (K : Int), .int .i64 (B : Int), .string (baO l), .string sv, .string sa, .string sz]) (.agg #[.int .i64 8, .int .i64 0, .int .i64 0, .string (baO l), .string sv, .string ⟨#[]⟩, .string ⟨#[]⟩])) W = .ok (.bool b) W := fun W => by rw [hb]; exact cmp_eql _ _ _ _ _ _ _ _ _ _ _ _ _ _ W
  obtain ⟨W1, hW1⟩ : ∃ W1, W1 = w.alloc (.cells #[.int .i64 8, .slice Ak K ck, .string (baO l), .string sv, .string sa, .string sz, .slice Ab B cb] 25) := ⟨_, rfl⟩
  have hB1 : Below w.heap.size w W1 := by rw [hW1]; exact (Below.refl _ _).alloc (Nat.le_refl _) _
  have hX1 : W1.heap[w.heap.size]? = some (.cells #[.int .i64 8, .slice Ak K ck, .string (baO l), .string sv, .string sa, .string sz, .slice Ab B cb] 25 (0, 0)) := by rw [hW1]; exact heap_alloc_new w _
  have hz1 : W1.heap.size = w.heap.size + 1 := by rw [hW1]; simp
  obtain ⟨y0, y1, y2, y3, y4, y5, y6⟩ := cells7 hX1
  replace hB1 := Lib.hid hB1
  replace hX1 := Lib.hid hX1
  replace hb := Lib.hid hb
  go_enter Tryz.func50, Tryz.ntmps50
  go_wp2_with fail
  rw [← hW1]
  replace hW1 := Lib.hid hW1
  go_wp2_with fail
  refine (CC.out _).mono ?_
  rintro _ w2 ⟨rfl, h2⟩
  have hz2 := h2.size
  have hX2 : ∀ o o2 : Obj, ((w2.alloc o).alloc o2).heap[w.heap.size]? = some (.cells #[.int .i64 8, .slice Ak K ck, .string (baO l), .string sv, .string sa, .string sz, .slice Ab B cb] 25 (0, 0)) := fun o o2 => by
    rw [Below.heap_alloc _ _ _ (by simp; omega), Below.heap_alloc _ _ _ (by omega), h2.block _ (by omega)]
    exact hX1.out
  have x0 : ∀ o : Obj, (w2.alloc o).cell? ⟨w.heap.size, 0, none⟩ = some (.int .i64 8) := fun o => cell_of_row _ _ _ _ _ _ ((Below.heap_alloc _ _ _ (by omega)).trans ((h2.block _ (by omega)).trans hX1.out))
  have x00 : ∀ o o2 : Obj, ((w2.alloc o).alloc o2).cell? ⟨w.heap.size, 0, none⟩ = some (.int .i64 8) := fun o o2 => cell_of_row _ _ _ _ _ _ (hX2 o o2)
  have hB2 : ∀ o o2 : Obj, Below w.heap.size w ((w2.alloc o).alloc o2) := fun o o2 => ((hB1.out.trans (h2.mono (by omega))).alloc (by omega) _).alloc (by simp; omega) _
  have hn : w2.heap.size ≠ w2.heap.size + 1 := by omega
  have hn2 : w.heap.size ≠ w2.heap.size + 1 := by omega
  replace h2 := Lib.hid h2
  replace hX2 := Lib.hid hX2
  replace hB2 := Lib.hid hB2
  clear y0 y1 y2 y3 y4 y5 y6
  dsimp only []
  go_wp2_with fail

  go_region
  go_wp2_with fail
  cases b
  · have hno : ¬ (CmpE 8 8 (K : Int) 0 (B : Int) 0 (baO l) (baO l) sv sv sa ⟨#[]⟩ sz ⟨#[]⟩) := of_decide_eq_false hb.out.symm
    refine (demand_no _).mono ?_
    rintro _ w5 ⟨rfl, h5⟩
    subst w5
    dsimp only []
    exact ⟨rfl, (okIf_no (fun h => hno h.1)).symm, (hB2.out _ _).drew⟩
  have hyes : CmpE 8 8 (K : Int) 0 (B : Int) 0 (baO l) (baO l) sv sv sa ⟨#[]⟩ sz ⟨#[]⟩ := of_decide_eq_true hb.out.symm
  refine (demand_ok _).mono ?_
  rintro _ w5 ⟨rfl, h5⟩
  subst w5
  dsimp only []
  replace hyes := Lib.hid hyes
  go_wp2_with fail
  have hX3 : ((w2.alloc (.cells #[.int .i64 8, .int .i64 (K : Int), .int .i64 (B : Int), .string (baO l), .string sv, .string sa, .string sz] 79)).alloc (.cells #[.int .i64 8, .int .i64 0, .int .i64 0, .string (baO l), .string sv, .string ⟨#[]⟩, .string ⟨#[]⟩] 79)).drew.heap[w.heap.size]? = _ := hX2.out _ _
  have hB3 := (hB2.out (.cells #[.int .i64 8, .int .i64 (K : Int), .int .i64 (B : Int), .string (baO l), .string sv, .string sa, .string sz] 79) (.cells #[.int .i64 8, .int .i64 0, .int .i64 0, .string (baO l), .string sv, .string ⟨#[]⟩, .string ⟨#[]⟩] 79)).drew
  generalize ((w2.alloc (.cells #[.int .i64 8, .int .i64 (K : Int), .int .i64 (B : Int), .string (baO l), .string sv, .string sa, .string sz] 79)).alloc (.cells #[.int .i64 8, .int .i64 0, .int .i64 0, .string (baO l), .string sv, .string ⟨#[]⟩, .string ⟨#[]⟩] 79)).drew = W3 at hX3 hB3 ⊢
  have KX : Hid (∀ W, Below (w.heap.size + 1) W3 W → W.cell? ⟨w.heap.size, 2, none⟩ = some (.string (baO l))) := Lib.hid fun W hW => cell_of_row _ _ _ _ _ _ ((hW.block _ (by omega)).trans hX3)
  have hz3 : w.heap.size + 1 ≤ W3.heap.size := (Array.getElem?_eq_some_iff.1 hX3).1
  have y2 := KX.out W3 (Below.refl _ _)
  replace hX3 := Lib.hid hX3
  replace hB3 := Lib.hid hB3
  clear x0 x00 hE
  cases hd : dscU l with
  | none =>
    have CN := Lib.hid fun W => (normal_any l W hl).mono fun en w' (h : _) => (⟨h.2.1 hd, h.2.2⟩ : en = bad14 ∧ Below W.heap.size W w')
    refine wp_region_held_drew (S := (fun W => W.cell? ⟨w.heap.size, 2, none⟩ = some (.string (baO l)))) (by kernel_rfl) (KX.out _ (Below.refl _ _).drew) ?_
    intro hHeld
    refine takeL 0 68 (v := ?_) rfl rfl (by kernel_rfl) (by kernel_rfl) (by kernel_rfl) (fun _ _ _ h => h) (Or.inl ⟨by rfl, ?hy43⟩) hHeld ?rest43
    case hy43 => intro W hS; (try dsimp only at hS); go_simp; try (with_reducible rfl)
    dsimp only [List.set]
    refine takeL 1 69 (v := ?_) rfl rfl (by kernel_rfl) (by kernel_rfl) (by kernel_rfl) (fun _ _ _ h => h) (Or.inl ⟨by rfl, ?hy44⟩) hHeld ?rest44
    case hy44 => intro W hS; (try dsimp only at hS); go_simp; try (with_reducible rfl)
    dsimp only [List.set]
    refine takeL 3 71 (v := ?_) rfl rfl (by kernel_rfl) (by kernel_rfl) (by kernel_rfl) (fun _ _ _ h => h) (Or.inl ⟨by rfl, ?hy45⟩) hHeld ?rest45
    case hy45 => intro W hS; (try dsimp only at hS); go_simp; try (with_reducible rfl)
    dsimp only [List.set]
    refine takeL 4 72 (v := ?_) rfl rfl (by kernel_rfl) (by kernel_rfl) (by kernel_rfl) (fun _ _ _ h => h) (Or.inl ⟨by rfl, ?hy46⟩) hHeld ?rest46
    case hy46 => intro W hS; (try dsimp only at hS); go_simp; try (with_reducible rfl)
    dsimp only [List.set]
    refine wpAnyH_ready (rs := [2]) (by kernel_rfl) (by simp) ?_
    refine AllReadyH.cons rfl (fun K hK => ?_) (AllReadyH.nil)
    go_simp
    go_at_call 58
    refine (CN.out _).mono ?_
    rintro _ w6 ⟨rfl, hb6⟩
    have HB6 := hB3.out.trans (Below.mono (Below.trans (Below.refl W3.heap.size W3).drew hb6) (by omega))
    exact ⟨rfl, (okIf_no (fun h => by have h2 := h.2; rw [hd] at h2; cases h2)).symm, HB6⟩
  | some t =>
    have CN := Lib.hid fun W => (normal_any l W hl).mono fun en w' (h : _) => (⟨h.1 t hd, h.2.2⟩ : en = .returned (.string (baO t)) ∧ Below W.heap.size W w')
    by_cases htl : t = l
    · subst htl
      have CD := Lib.hid fun W => demand_ok W
      refine wp_region_held_drew (S := (fun W => W.cell? ⟨w.heap.size, 2, none⟩ = some (.string (baO t)))) (by kernel_rfl) (KX.out _ (Below.refl _ _).drew) ?_
      intro hHeld
      refine takeL 0 68 (v := ?_) rfl rfl (by kernel_rfl) (by kernel_rfl) (by kernel_rfl) (fun _ _ _ h => h) (Or.inl ⟨by rfl, ?hy47⟩) hHeld ?rest47
      case hy47 => intro W hS; (try dsimp only at hS); go_simp; try (with_reducible rfl)
      dsimp only [List.set]
      refine takeL 1 69 (v := ?_) rfl rfl (by kernel_rfl) (by kernel_rfl) (by kernel_rfl) (fun _ _ _ h => h) (Or.inl ⟨by rfl, ?hy48⟩) hHeld ?rest48
      case hy48 => intro W hS; (try dsimp only at hS); go_simp; try (with_reducible rfl)
      dsimp only [List.set]
      refine takeL 3 71 (v := ?_) rfl rfl (by kernel_rfl) (by kernel_rfl) (by kernel_rfl) (fun _ _ _ h => h) (Or.inl ⟨by rfl, ?hy49⟩) hHeld ?rest49
      case hy49 => intro W hS; (try dsimp only at hS); go_simp; try (with_reducible rfl)
      dsimp only [List.set]
      refine takeL 4 72 (v := ?_) rfl rfl (by kernel_rfl) (by kernel_rfl) (by kernel_rfl) (fun _ _ _ h => h) (Or.inl ⟨by rfl, ?hy50⟩) hHeld ?rest50
      case hy50 => intro W hS; (try dsimp only at hS); go_simp; try (with_reducible rfl)
      dsimp only [List.set]
      refine wpAnyH_ready (rs := [2]) (by kernel_rfl) (by simp) ?_
      refine AllReadyH.cons rfl (fun K hK => ?_) (AllReadyH.nil)
      go_simp
      go_at_call 58
      refine (CN.out _).mono ?_
      rintro _ w6 ⟨rfl, hb6⟩
      have HK6 := Lib.hid (show Below (w.heap.size + 1) W3 w6 from Below.mono (Below.trans (Below.refl W3.heap.size W3).drew hb6) hz3)
      clear hb6
      dsimp only []
      refine hK.out _ _ (KX.out _ (HK6.out)) (fun hHeld2 => ?_)
      clear hK K hHeld
      have hHeld := hHeld2
      clear hHeld2
      refine takeL 5 73 (v := ?_) rfl rfl (by kernel_rfl) (by kernel_rfl) (by kernel_rfl) (fun _ _ _ h => h) (Or.inl ⟨by rfl, ?hy51⟩) hHeld ?rest51
      case hy51 => intro W hS; (try dsimp only at hS); go_simp; try (with_reducible rfl)
      dsimp only [List.set]
      refine wpAnyH_ready (rs := [6]) (by kernel_rfl) (by simp) ?_
      refine AllReadyH.cons rfl (fun K hK => ?_) (AllReadyH.nil)
      go_simp
      go_at_call 29
      refine (CD.out _).mono ?_
      rintro _ w7 ⟨rfl, h7⟩
      subst w7
      dsimp only []
      refine hK.out _ _ (KX.out _ (HK6.out)) (fun hHeld2 => ?_)
      clear hK K hHeld
      have hHeld := hHeld2
      clear hHeld2
      refine wpAnyH_done (by kernel_rfl) ?_ _
      go_wp2_with fail
      go_end0
      exact ⟨(okIf_yes (And.intro hyes.out hd)).symm, hB3.out.trans (HK6.out.mono (by omega))⟩
    · have hne : ((baO t).toList == (baO l).toList) = false := by
        rw [beq_eq_false_iff_ne, Lib.toList_data, Lib.toList_data]
        exact htl
      have CD := Lib.hid fun W => demand_no W
      refine wp_region_held_drew (S := (fun W => W.cell? ⟨w.heap.size, 2, none⟩ = some (.string (baO l)))) (by kernel_rfl) (KX.out _ (Below.refl _ _).drew) ?_
      intro hHeld
      refine takeL 0 68 (v := ?_) rfl rfl (by kernel_rfl) (by kernel_rfl) (by kernel_rfl) (fun _ _ _ h => h) (Or.inl ⟨by rfl, ?hy52⟩) hHeld ?rest52
      case hy52 => intro W hS; (try dsimp only at hS); go_simp; try (with_reducible rfl)
      dsimp only [List.set]
      refine takeL 1 69 (v := ?_) rfl rfl (by kernel_rfl) (by kernel_rfl) (by kernel_rfl) (fun _ _ _ h => h) (Or.inl ⟨by rfl, ?hy53⟩) hHeld ?rest53
      case hy53 => intro W hS; (try dsimp only at hS); go_simp; try (with_reducible rfl)
      dsimp only [List.set]
      refine takeL 3 71 (v := ?_) rfl rfl (by kernel_rfl) (by kernel_rfl) (by kernel_rfl) (fun _ _ _ h => h) (Or.inl ⟨by rfl, ?hy54⟩) hHeld ?rest54
      case hy54 => intro W hS; (try dsimp only at hS); go_simp; try (with_reducible rfl)
      dsimp only [List.set]
      refine takeL 4 72 (v := ?_) rfl rfl (by kernel_rfl) (by kernel_rfl) (by kernel_rfl) (fun _ _ _ h => h) (Or.inl ⟨by rfl, ?hy55⟩) hHeld ?rest55
      case hy55 => intro W hS; (try dsimp only at hS); go_simp; try (with_reducible rfl)
      dsimp only [List.set]
      refine wpAnyH_ready (rs := [2]) (by kernel_rfl) (by simp) ?_
      refine AllReadyH.cons rfl (fun K hK => ?_) (AllReadyH.nil)
      go_simp
      go_at_call 58
      refine (CN.out _).mono ?_
      rintro _ w6 ⟨rfl, hb6⟩
      have HK6 := Lib.hid (show Below (w.heap.size + 1) W3 w6 from Below.mono (Below.trans (Below.refl W3.heap.size W3).drew hb6) hz3)
      clear hb6
      dsimp only []
      refine hK.out _ _ (KX.out _ (HK6.out)) (fun hHeld2 => ?_)
      clear hK K hHeld
      have hHeld := hHeld2
      clear hHeld2
      refine takeL 5 73 (v := ?_) rfl rfl (by kernel_rfl) (by kernel_rfl) (by kernel_rfl) (fun _ _ _ h => h) (Or.inl ⟨by rfl, ?hy56⟩) hHeld ?rest56
      case hy56 => intro W hS; (try dsimp only at hS); go_simp; try (with_reducible rfl)
      dsimp only [List.set]
      refine wpAnyH_ready (rs := [6]) (by kernel_rfl) (by simp) ?_
      refine AllReadyH.cons rfl (fun K hK => ?_) (AllReadyH.nil)
      go_simp
      go_at_call 29
      refine (CD.out _).mono ?_
      rintro _ w7 ⟨rfl, h7⟩
      subst w7
      exact ⟨rfl, (okIf_no (fun h => by have h2 := h.2; rw [hd] at h2; injection h2 with h2; exact htl h2)).symm, hB3.out.trans (HK6.out.mono (by omega))⟩

set_option maxRecDepth 8000 in
set_option maxHeartbeats 1600000 in
theorem check_7 (K B : Nat) (Ak Ab : Option Addr) (ck cb : Nat) (l : List UInt8) (sv sa sz : ByteArray) (w : World) (hl : l.length ≤ 9500) :
    Calls Tryz.prog 50 #[.agg #[.int .i64 7, .slice Ak K ck, .string (baO l), .string sv, .string sa, .string sz, .slice Ab B cb]] w fun en w' => en = okIf (CmpE 7 7 (K : Int) 0 (B : Int) 0 (baO l) (baO l) sv ⟨#[]⟩ sa ⟨#[]⟩ sz ⟨#[]⟩ ∧ dscU l = some l) ∧ Below w.heap.size w w' := by
  have CC := Lib.hid fun W => cmp_raw 7 K B Ak Ab ck cb (baO l) sv sa sz W
  obtain ⟨b, hb⟩ : ∃ b, b = decide (CmpE 7 7 (K : Int) 0 (B : Int) 0 (baO l) (baO l) sv ⟨#[]⟩ sa ⟨#[]⟩ sz ⟨#[]⟩) := ⟨_, rfl⟩
  have hE : ∀ W, Sem.run Tryz.prog (binOp .eql 79 (.agg #[.int .i64 7, .int .i64 (K : Int), .int .i64 (B : Int), .string (baO l), .string sv, .string sa, .string sz]) (.agg #[.int .i64 7, .int .i64 0, .int .i64 0, .string (baO l), .string ⟨#[]⟩, .string ⟨#[]⟩, .string ⟨#[]⟩])) W = .ok (.bool b) W := fun W => by rw [hb]; exact cmp_eql _ _ _ _ _ _ _ _ _ _ _ _ _ _ W
  obtain ⟨W1, hW1⟩ : ∃ W1, W1 = w.alloc (.cells #[.int .i64 7, .slice Ak K ck, .string (baO l), .string sv, .string sa, .string sz, .slice Ab B cb] 25) := ⟨_, rfl⟩
  have hB1 : Below w.heap.size w W1 := by rw [hW1]; exact (Below.refl _ _).alloc (Nat.le_refl _) _
  have hX1 : W1.heap[w.heap.size]? = some (.cells #[.int .i64 7, .slice Ak K ck, .string (baO l), .string sv, .string sa, .string sz, .slice Ab B cb] 25 (0, 0)) := by rw [hW1]; exact heap_alloc_new w _
  have hz1 : W1.heap.size = w.heap.size + 1 := by rw [hW1]; simp
  obtain ⟨y0, y1, y2, y3, y4, y5, y6⟩ := cells7 hX1
  replace hB1 := Lib.hid hB1
  replace hX1 := Lib.hid hX1
  replace hb := Lib.hid hb
  go_enter Tryz.func50, Tryz.ntmps50
  go_wp2_with fail
  rw [← hW1]
  replace hW1 := Lib.hid hW1
  go_wp2_with fail
  refine (CC.out _).mono ?_
  rintro _ w2 ⟨rfl, h2⟩
  have hz2 := h2.size
  have hX2 : ∀ o o2 : Obj, ((w2.alloc o).alloc o2).heap[w.heap.size]? = some (.cells #[.int .i64 7, .slice Ak K ck, .string (baO l), .string sv, .string sa, .string sz, .slice Ab B cb] 25 (0, 0)) := fun o o2 => by
    rw [Below.heap_alloc _ _ _ (by simp; omega), Below.heap_alloc _ _ _ (by omega), h2.block _ (by omega)]
    exact hX1.out
  have x0 : ∀ o : Obj, (w2.alloc o).cell? ⟨w.heap.size, 0, none⟩ = some (.int .i64 7) := fun o => cell_of_row _ _ _ _ _ _ ((Below.heap_alloc _ _ _ (by omega)).trans ((h2.block _ (by omega)).trans hX1.out))
  have x00 : ∀ o o2 : Obj, ((w2.alloc o).alloc o2).cell? ⟨w.heap.size, 0, none⟩ = some (.int .i64 7) := fun o o2 => cell_of_row _ _ _ _ _ _ (hX2 o o2)
  have hB2 : ∀ o o2 : Obj, Below w.heap.size w ((w2.alloc o).alloc o2) := fun o o2 => ((hB1.out.trans (h2.mono (by omega))).alloc (by omega) _).alloc (by simp; omega) _
  have hn : w2.heap.size ≠ w2.heap.size + 1 := by omega
  have hn2 : w.heap.size ≠ w2.heap.size + 1 := by omega
  replace h2 := Lib.hid h2
  replace hX2 := Lib.hid hX2
  replace hB2 := Lib.hid hB2
  clear y0 y1 y2 y3 y4 y5 y6
  dsimp only []
  go_wp2_with fail

  cases b
  · have hno : ¬ (CmpE 7 7 (K : Int) 0 (B : Int) 0 (baO l) (baO l) sv ⟨#[]⟩ sa ⟨#[]⟩ sz ⟨#[]⟩) := of_decide_eq_false hb.out.symm
    refine (demand_no _).mono ?_
    rintro _ w5 ⟨rfl, h5⟩
    subst w5
    dsimp only []
    exact ⟨rfl, (okIf_no (fun h => hno h.1)).symm, (hB2.out _ _)⟩
  have hyes : CmpE 7 7 (K : Int) 0 (B : Int) 0 (baO l) (baO l) sv ⟨#[]⟩ sa ⟨#[]⟩ sz ⟨#[]⟩ := of_decide_eq_true hb.out.symm
  refine (demand_ok _).mono ?_
  rintro _ w5 ⟨rfl, h5⟩
  subst w5
  dsimp only []
  replace hyes := Lib.hid hyes
  go_wp2_with fail
  have hX3 : ((w2.alloc (.cells #[.int .i64 7, .int .i64 (K : Int), .int .i64 (B : Int), .string (baO l), .string sv, .string sa, .string sz] 79)).alloc (.cells #[.int .i64 7, .int .i64 0, .int .i64 0, .string (baO l), .string ⟨#[]⟩, .string ⟨#[]⟩, .string ⟨#[]⟩] 79)).heap[w.heap.size]? = _ := hX2.out _ _
  have hB3 := (hB2.out (.cells #[.int .i64 7, .int .i64 (K : Int), .int .i64 (B : Int), .string (baO l), .string sv, .string sa, .string sz] 79) (.cells #[.int .i64 7, .int .i64 0, .int .i64 0, .string (baO l), .string ⟨#[]⟩, .string ⟨#[]⟩, .string ⟨#[]⟩] 79))
  generalize ((w2.alloc (.cells #[.int .i64 7, .int .i64 (K : Int), .int .i64 (B : Int), .string (baO l), .string sv, .string sa, .string sz] 79)).alloc (.cells #[.int .i64 7, .int .i64 0, .int .i64 0, .string (baO l), .string ⟨#[]⟩, .string ⟨#[]⟩, .string ⟨#[]⟩] 79)) = W3 at hX3 hB3 ⊢
  have KX : Hid (∀ W, Below (w.heap.size + 1) W3 W → W.cell? ⟨w.heap.size, 2, none⟩ = some (.string (baO l))) := Lib.hid fun W hW => cell_of_row _ _ _ _ _ _ ((hW.block _ (by omega)).trans hX3)
  have hz3 : w.heap.size + 1 ≤ W3.heap.size := (Array.getElem?_eq_some_iff.1 hX3).1
  have y2 := KX.out W3 (Below.refl _ _)
  replace hX3 := Lib.hid hX3
  replace hB3 := Lib.hid hB3
  clear x0 x00 hE
  cases hd : dscU l with
  | none =>
    have CN := Lib.hid fun W => (normal_any l W hl).mono fun en w' (h : _) => (⟨h.2.1 hd, h.2.2⟩ : en = bad14 ∧ Below W.heap.size W w')
    refine wp_region_held_drew (S := (fun W => W.cell? ⟨w.heap.size, 2, none⟩ = some (.string (baO l)))) (by kernel_rfl) (KX.out _ (Below.refl _ _).drew) ?_
    intro hHeld
    refine takeL 0 68 (v := ?_) rfl rfl (by kernel_rfl) (by kernel_rfl) (by kernel_rfl) (fun _ _ _ h => h) (Or.inl ⟨by rfl, ?hy57⟩) hHeld ?rest57
    case hy57 => intro W hS; (try dsimp only at hS); go_simp; try (with_reducible rfl)
    dsimp only [List.set]
    refine takeL 1 69 (v := ?_) rfl rfl (by kernel_rfl) (by kernel_rfl) (by kernel_rfl) (fun _ _ _ h => h) (Or.inl ⟨by rfl, ?hy58⟩) hHeld ?rest58
    case hy58 => intro W hS; (try dsimp only at hS); go_simp; try (with_reducible rfl)
    dsimp only [List.set]
    refine takeL 3 71 (v := ?_) rfl rfl (by kernel_rfl) (by kernel_rfl) (by kernel_rfl) (fun _ _ _ h => h) (Or.inl ⟨by rfl, ?hy59⟩) hHeld ?rest59
    case hy59 => intro W hS; (try dsimp only at hS); go_simp; try (with_reducible rfl)
    dsimp only [List.set]
    refine takeL 4 72 (v := ?_) rfl rfl (by kernel_rfl) (by kernel_rfl) (by kernel_rfl) (fun _ _ _ h => h) (Or.inl ⟨by rfl, ?hy60⟩) hHeld ?rest60
    case hy60 => intro W hS; (try dsimp only at hS); go_simp; try (with_reducible rfl)
    dsimp only [List.set]
    refine wpAnyH_ready (rs := [2]) (by kernel_rfl) (by simp) ?_
    refine AllReadyH.cons rfl (fun K hK => ?_) (AllReadyH.nil)
    go_simp
    go_at_call 58
    refine (CN.out _).mono ?_
    rintro _ w6 ⟨rfl, hb6⟩
    have HB6 := hB3.out.trans (Below.mono (Below.trans (Below.refl W3.heap.size W3).drew hb6) (by omega))
    exact ⟨rfl, (okIf_no (fun h => by have h2 := h.2; rw [hd] at h2; cases h2)).symm, HB6⟩
  | some t =>
    have CN := Lib.hid fun W => (normal_any l W hl).mono fun en w' (h : _) => (⟨h.1 t hd, h.2.2⟩ : en = .returned (.string (baO t)) ∧ Below W.heap.size W w')
    by_cases htl : t = l
    · subst htl
      have CD := Lib.hid fun W => demand_ok W
      refine wp_region_held_drew (S := (fun W => W.cell? ⟨w.heap.size, 2, none⟩ = some (.string (baO t)))) (by kernel_rfl) (KX.out _ (Below.refl _ _).drew) ?_
      intro hHeld
      refine takeL 0 68 (v := ?_) rfl rfl (by kernel_rfl) (by kernel_rfl) (by kernel_rfl) (fun _ _ _ h => h) (Or.inl ⟨by rfl, ?hy61⟩) hHeld ?rest61
      case hy61 => intro W hS; (try dsimp only at hS); go_simp; try (with_reducible rfl)
      dsimp only [List.set]
      refine takeL 1 69 (v := ?_) rfl rfl (by kernel_rfl) (by kernel_rfl) (by kernel_rfl) (fun _ _ _ h => h) (Or.inl ⟨by rfl, ?hy62⟩) hHeld ?rest62
      case hy62 => intro W hS; (try dsimp only at hS); go_simp; try (with_reducible rfl)
      dsimp only [List.set]
      refine takeL 3 71 (v := ?_) rfl rfl (by kernel_rfl) (by kernel_rfl) (by kernel_rfl) (fun _ _ _ h => h) (Or.inl ⟨by rfl, ?hy63⟩) hHeld ?rest63
      case hy63 => intro W hS; (try dsimp only at hS); go_simp; try (with_reducible rfl)
      dsimp only [List.set]
      refine takeL 4 72 (v := ?_) rfl rfl (by kernel_rfl) (by kernel_rfl) (by kernel_rfl) (fun _ _ _ h => h) (Or.inl ⟨by rfl, ?hy64⟩) hHeld ?rest64
      case hy64 => intro W hS; (try dsimp only at hS); go_simp; try (with_reducible rfl)
      dsimp only [List.set]
      refine wpAnyH_ready (rs := [2]) (by kernel_rfl) (by simp) ?_
      refine AllReadyH.cons rfl (fun K hK => ?_) (AllReadyH.nil)
      go_simp
      go_at_call 58
      refine (CN.out _).mono ?_
      rintro _ w6 ⟨rfl, hb6⟩
      have HK6 := Lib.hid (show Below (w.heap.size + 1) W3 w6 from Below.mono (Below.trans (Below.refl W3.heap.size W3).drew hb6) hz3)
      clear hb6
      dsimp only []
      refine hK.out _ _ (KX.out _ (HK6.out)) (fun hHeld2 => ?_)
      clear hK K hHeld
      have hHeld := hHeld2
      clear hHeld2
      refine takeL 5 73 (v := ?_) rfl rfl (by kernel_rfl) (by kernel_rfl) (by kernel_rfl) (fun _ _ _ h => h) (Or.inl ⟨by rfl, ?hy65⟩) hHeld ?rest65
      case hy65 => intro W hS; (try dsimp only at hS); go_simp; try (with_reducible rfl)
      dsimp only [List.set]
      refine wpAnyH_ready (rs := [6]) (by kernel_rfl) (by simp) ?_
      refine AllReadyH.cons rfl (fun K hK => ?_) (AllReadyH.nil)
      go_simp
      go_at_call 29
      refine (CD.out _).mono ?_
      rintro _ w7 ⟨rfl, h7⟩
      subst w7
      dsimp only []
      refine hK.out _ _ (KX.out _ (HK6.out)) (fun hHeld2 => ?_)
      clear hK K hHeld
      have hHeld := hHeld2
      clear hHeld2
      refine wpAnyH_done (by kernel_rfl) ?_ _
      go_wp2_with fail
      go_end0
      exact ⟨(okIf_yes (And.intro hyes.out hd)).symm, hB3.out.trans (HK6.out.mono (by omega))⟩
    · have hne : ((baO t).toList == (baO l).toList) = false := by
        rw [beq_eq_false_iff_ne, Lib.toList_data, Lib.toList_data]
        exact htl
      have CD := Lib.hid fun W => demand_no W
      refine wp_region_held_drew (S := (fun W => W.cell? ⟨w.heap.size, 2, none⟩ = some (.string (baO l)))) (by kernel_rfl) (KX.out _ (Below.refl _ _).drew) ?_
      intro hHeld
      refine takeL 0 68 (v := ?_) rfl rfl (by kernel_rfl) (by kernel_rfl) (by kernel_rfl) (fun _ _ _ h => h) (Or.inl ⟨by rfl, ?hy66⟩) hHeld ?rest66
      case hy66 => intro W hS; (try dsimp only at hS); go_simp; try (with_reducible rfl)
      dsimp only [List.set]
      refine takeL 1 69 (v := ?_) rfl rfl (by kernel_rfl) (by kernel_rfl) (by kernel_rfl) (fun _ _ _ h => h) (Or.inl ⟨by rfl, ?hy67⟩) hHeld ?rest67
      case hy67 => intro W hS; (try dsimp only at hS); go_simp; try (with_reducible rfl)
      dsimp only [List.set]
      refine takeL 3 71 (v := ?_) rfl rfl (by kernel_rfl) (by kernel_rfl) (by kernel_rfl) (fun _ _ _ h => h) (Or.inl ⟨by rfl, ?hy68⟩) hHeld ?rest68
      case hy68 => intro W hS; (try dsimp only at hS); go_simp; try (with_reducible rfl)
      dsimp only [List.set]
      refine takeL 4 72 (v := ?_) rfl rfl (by kernel_rfl) (by kernel_rfl) (by kernel_rfl) (fun _ _ _ h => h) (Or.inl ⟨by rfl, ?hy69⟩) hHeld ?rest69
      case hy69 => intro W hS; (try dsimp only at hS); go_simp; try (with_reducible rfl)
      dsimp only [List.set]
      refine wpAnyH_ready (rs := [2]) (by kernel_rfl) (by simp) ?_
      refine AllReadyH.cons rfl (fun K hK => ?_) (AllReadyH.nil)
      go_simp
      go_at_call 58
      refine (CN.out _).mono ?_
      rintro _ w6 ⟨rfl, hb6⟩
      have HK6 := Lib.hid (show Below (w.heap.size + 1) W3 w6 from Below.mono (Below.trans (Below.refl W3.heap.size W3).drew hb6) hz3)
      clear hb6
      dsimp only []
      refine hK.out _ _ (KX.out _ (HK6.out)) (fun hHeld2 => ?_)
      clear hK K hHeld
      have hHeld := hHeld2
      clear hHeld2
      refine takeL 5 73 (v := ?_) rfl rfl (by kernel_rfl) (by kernel_rfl) (by kernel_rfl) (fun _ _ _ h => h) (Or.inl ⟨by rfl, ?hy70⟩) hHeld ?rest70
      case hy70 => intro W hS; (try dsimp only at hS); go_simp; try (with_reducible rfl)
      dsimp only [List.set]
      refine wpAnyH_ready (rs := [6]) (by kernel_rfl) (by simp) ?_
      refine AllReadyH.cons rfl (fun K hK => ?_) (AllReadyH.nil)
      go_simp
      go_at_call 29
      refine (CD.out _).mono ?_
      rintro _ w7 ⟨rfl, h7⟩
      subst w7
      exact ⟨rfl, (okIf_no (fun h => by have h2 := h.2; rw [hd] at h2; injection h2 with h2; exact htl h2)).symm, hB3.out.trans (HK6.out.mono (by omega))⟩

end Go.Proofs.YtkffgdndglfcfaaGreatDoor
