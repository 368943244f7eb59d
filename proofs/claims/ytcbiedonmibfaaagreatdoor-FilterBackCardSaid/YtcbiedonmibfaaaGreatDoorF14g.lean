/- Filters. -/
import Derived.Test.YtcbiedonmibfaaaGreatDoorF14A
import Derived.Test.YtcbiedonmibfaaaGreatDoorBerPa3
import Derived.Deep.RegionHeldLaw
import Derived.Deep.CutRange
import Derived.Deep.CutBlock
set_option maxRecDepth 8000
set_option maxHeartbeats 1600000
namespace Go.Proofs.YtcbiedonmibfaaaGreatDoor
open Go.RowKit Go.Lib
theorem cmp_raw (k : Int) (K B : Nat) (Ak Ab : Option Addr) (ck cb : Nat) (st sv sa sz : ByteArray) (w : World) :
 Calls Tryz.prog 42 #[.agg #[.int .i64 k, .slice Ak K ck, .string st, .string sv, .string sa, .string sz, .slice Ab B cb]] w fun en w' => en = .returned (.agg #[.int .i64 k, .int .i64 (K : Int), .int .i64 (B : Int), .string st, .string sv, .string sa, .string sz]) ∧ Below w.heap.size w w' := by
 have hb := Hd fun o o2 : Obj => ((Below.refl w.heap.size w).alloc (Nat.le_refl _) o).alloc (by simp) o2
 go_enter Tryz.func42, Tryz.ntmps42
 go_wp2_with fail
 go_returns
 exact ⟨rfl, hb.out _ _⟩
def CmpE (k k2 n n2 m m2 : Int) (t t2 v v2 a a2 z z2 : ByteArray) : Prop := k = k2 ∧ n = n2 ∧ m = m2 ∧ t.toList = t2.toList ∧ v.toList = v2.toList ∧ a.toList = a2.toList ∧ z.toList = z2.toList
instance (k k2 n n2 m m2 : Int) (t t2 v v2 a a2 z z2 : ByteArray) : Decidable (CmpE k k2 n n2 m m2 t t2 v v2 a a2 z z2) := by unfold CmpE; infer_instance
theorem cmp_eql (k k2 n n2 m m2 : Int) (t t2 v v2 a a2 z z2 : ByteArray) (w : World) :
 Sem.run Tryz.prog (binOp .eql 94 (.agg #[.int .i64 k, .int .i64 n, .int .i64 m, .string t, .string v, .string a, .string z]) (.agg #[.int .i64 k2, .int .i64 n2, .int .i64 m2, .string t2, .string v2, .string a2, .string z2])) w = .ok (.bool (decide (CmpE k k2 n n2 m m2 t t2 v v2 a a2 z z2))) w := by
 unfold CmpE
 simp [go_sem]
 by_cases h1 : k = k2 <;> simp [h1]
 by_cases h2 : n = n2 <;> simp [h2]
 by_cases h3 : m = m2 <;> simp [h3]
 by_cases h4 : t.toList = t2.toList <;> simp [h4]
 by_cases h5 : v.toList = v2.toList <;> simp [h5]
 by_cases h6 : a.toList = a2.toList <;> simp [h6]
 by_cases h7 : z.toList = z2.toList <;> simp [h7]
theorem cmp_neq (k k2 n n2 m m2 : Int) (t t2 v v2 a a2 z z2 : ByteArray) (w : World) :
 Sem.run Tryz.prog (binOp .neq 94 (.agg #[.int .i64 k, .int .i64 n, .int .i64 m, .string t, .string v, .string a, .string z]) (.agg #[.int .i64 k2, .int .i64 n2, .int .i64 m2, .string t2, .string v2, .string a2, .string z2])) w = .ok (.bool (!decide (CmpE k k2 n n2 m m2 t t2 v v2 a a2 z z2))) w := by
 unfold CmpE
 simp [go_sem]
 by_cases h1 : k = k2 <;> simp [h1]
 by_cases h2 : n = n2 <;> simp [h2]
 by_cases h3 : m = m2 <;> simp [h3]
 by_cases h4 : t.toList = t2.toList <;> simp [h4]
 by_cases h5 : v.toList = v2.toList <;> simp [h5]
 by_cases h6 : a.toList = a2.toList <;> simp [h6]
 by_cases h7 : z.toList = z2.toList <;> simp [h7]
def okIf (c : Prop) [Decidable c] : Ending := if c then .returned (.tuple #[]) else bad14
theorem okIf_yes {c : Prop} [Decidable c] (h : c) : okIf c = .returned (.tuple #[]) := if_pos h
theorem okIf_no {c : Prop} [Decidable c] (h : ¬ c) : okIf c = bad14 := if_neg h
theorem check_0 (K B : Nat) (Ak Ab : Option Addr) (ck cb : Nat) (l : List UInt8) (sv sa sz : ByteArray) (w : World) :
 Calls Tryz.prog 58 #[.agg #[.int .i64 0, .slice Ak K ck, .string (baO l), .string sv, .string sa, .string sz, .slice Ab B cb]] w fun en w' => en = okIf (CmpE 0 0 (K : Int) (K : Int) (B : Int) 0 (baO l) ⟨#[]⟩ sv ⟨#[]⟩ sa ⟨#[]⟩ sz ⟨#[]⟩) ∧ Below w.heap.size w w' := by
 have CC := Hd fun W => cmp_raw 0 K B Ak Ab ck cb (baO l) sv sa sz W
 obtain ⟨b, hb⟩ : ∃ b, b = decide (CmpE 0 0 (K : Int) (K : Int) (B : Int) 0 (baO l) ⟨#[]⟩ sv ⟨#[]⟩ sa ⟨#[]⟩ sz ⟨#[]⟩) := ⟨_, rfl⟩
 have hE : ∀ W, Sem.run Tryz.prog (binOp .eql 94 (.agg #[.int .i64 0, .int .i64 (K : Int), .int .i64 (B : Int), .string (baO l), .string sv, .string sa, .string sz]) (.agg #[.int .i64 0, .int .i64 (K : Int), .int .i64 0, .string ⟨#[]⟩, .string ⟨#[]⟩, .string ⟨#[]⟩, .string ⟨#[]⟩])) W = .ok (.bool b) W := fun W => by rw [hb]; exact cmp_eql _ _ _ _ _ _ _ _ _ _ _ _ _ _ W
 obtain ⟨W1, hW1⟩ : ∃ W1, W1 = w.alloc (.cells #[.int .i64 0, .slice Ak K ck, .string (baO l), .string sv, .string sa, .string sz, .slice Ab B cb] 25) := ⟨_, rfl⟩
 have hB1 : Below w.heap.size w W1 := by rw [hW1]; exact (Below.refl _ _).alloc (Nat.le_refl _) _
 have hX1 : W1.heap[w.heap.size]? = some (.cells #[.int .i64 0, .slice Ak K ck, .string (baO l), .string sv, .string sa, .string sz, .slice Ab B cb] 25 (0, 0)) := by rw [hW1]; exact heap_alloc_new w _
 have hz1 : W1.heap.size = w.heap.size + 1 := by rw [hW1]; simp
 obtain ⟨y0, y1, y2, y3, y4, y5, y6⟩ := cells7 hX1
 replace hB1 := Hd hB1
 replace hX1 := Hd hX1
 replace hb := Hd hb
 go_enter Tryz.func58, Tryz.ntmps58
 go_wp2_with fail
 rw [← hW1]
 replace hW1 := Hd hW1
 go_wp2_with fail
 refine (CC.out _).mono ?_
 rintro _ w2 ⟨rfl, h2⟩
 have hz2 := h2.size
 have hX2 : ∀ o o2 : Obj, ((w2.alloc o).alloc o2).heap[w.heap.size]? = some (.cells #[.int .i64 0, .slice Ak K ck, .string (baO l), .string sv, .string sa, .string sz, .slice Ab B cb] 25 (0, 0)) := fun o o2 => by
  rw [Below.heap_alloc _ _ _ (by simp; omega), Below.heap_alloc _ _ _ (by omega), h2.block _ (by omega)]
  exact hX1.out
 have x0 : ∀ o : Obj, (w2.alloc o).cell? ⟨w.heap.size, 0, none⟩ = some (.int .i64 0) := fun o => cell_of_row _ _ _ _ _ _ ((Below.heap_alloc _ _ _ (by omega)).trans ((h2.block _ (by omega)).trans hX1.out))
 have x00 : ∀ o o2 : Obj, ((w2.alloc o).alloc o2).cell? ⟨w.heap.size, 0, none⟩ = some (.int .i64 0) := fun o o2 => cell_of_row _ _ _ _ _ _ (hX2 o o2)
 have hB2 : ∀ o o2 : Obj, Below w.heap.size w ((w2.alloc o).alloc o2) := fun o o2 => ((hB1.out.trans (h2.mono (by omega))).alloc (by omega) _).alloc (by simp; omega) _
 have hn : w2.heap.size ≠ w2.heap.size + 1 := by omega
 have hn2 : w.heap.size ≠ w2.heap.size + 1 := by omega
 replace h2 := Hd h2
 replace hX2 := Hd hX2
 replace hB2 := Hd hB2
 clear y0 y1 y2 y3 y4 y5 y6
 dsimp only []
 go_wp2_with fail
 cases b
 · have hno : ¬ (CmpE 0 0 (K : Int) (K : Int) (B : Int) 0 (baO l) ⟨#[]⟩ sv ⟨#[]⟩ sa ⟨#[]⟩ sz ⟨#[]⟩) := of_decide_eq_false hb.out.symm
   refine (demand_no _).mono ?_
   rintro _ w5 ⟨rfl, h5⟩
   subst w5
   dsimp only []
   exact ⟨rfl, (okIf_no (hno)).symm, (hB2.out _ _)⟩
 have hyes : CmpE 0 0 (K : Int) (K : Int) (B : Int) 0 (baO l) ⟨#[]⟩ sv ⟨#[]⟩ sa ⟨#[]⟩ sz ⟨#[]⟩ := of_decide_eq_true hb.out.symm
 refine (demand_ok _).mono ?_
 rintro _ w5 ⟨rfl, h5⟩
 subst w5
 dsimp only []
 replace hyes := Hd hyes
 go_wp2_with fail
 go_end0
 exact ⟨(okIf_yes hyes.out).symm, hB2.out _ _⟩
theorem check_1 (K B : Nat) (Ak Ab : Option Addr) (ck cb : Nat) (l : List UInt8) (sv sa sz : ByteArray) (w : World) :
 Calls Tryz.prog 58 #[.agg #[.int .i64 1, .slice Ak K ck, .string (baO l), .string sv, .string sa, .string sz, .slice Ab B cb]] w fun en w' => en = okIf (CmpE 1 1 (K : Int) (K : Int) (B : Int) 0 (baO l) ⟨#[]⟩ sv ⟨#[]⟩ sa ⟨#[]⟩ sz ⟨#[]⟩) ∧ Below w.heap.size w w' := by
 have CC := Hd fun W => cmp_raw 1 K B Ak Ab ck cb (baO l) sv sa sz W
 obtain ⟨b, hb⟩ : ∃ b, b = decide (CmpE 1 1 (K : Int) (K : Int) (B : Int) 0 (baO l) ⟨#[]⟩ sv ⟨#[]⟩ sa ⟨#[]⟩ sz ⟨#[]⟩) := ⟨_, rfl⟩
 have hE : ∀ W, Sem.run Tryz.prog (binOp .eql 94 (.agg #[.int .i64 1, .int .i64 (K : Int), .int .i64 (B : Int), .string (baO l), .string sv, .string sa, .string sz]) (.agg #[.int .i64 1, .int .i64 (K : Int), .int .i64 0, .string ⟨#[]⟩, .string ⟨#[]⟩, .string ⟨#[]⟩, .string ⟨#[]⟩])) W = .ok (.bool b) W := fun W => by rw [hb]; exact cmp_eql _ _ _ _ _ _ _ _ _ _ _ _ _ _ W
 obtain ⟨W1, hW1⟩ : ∃ W1, W1 = w.alloc (.cells #[.int .i64 1, .slice Ak K ck, .string (baO l), .string sv, .string sa, .string sz, .slice Ab B cb] 25) := ⟨_, rfl⟩
 have hB1 : Below w.heap.size w W1 := by rw [hW1]; exact (Below.refl _ _).alloc (Nat.le_refl _) _
 have hX1 : W1.heap[w.heap.size]? = some (.cells #[.int .i64 1, .slice Ak K ck, .string (baO l), .string sv, .string sa, .string sz, .slice Ab B cb] 25 (0, 0)) := by rw [hW1]; exact heap_alloc_new w _
 have hz1 : W1.heap.size = w.heap.size + 1 := by rw [hW1]; simp
 obtain ⟨y0, y1, y2, y3, y4, y5, y6⟩ := cells7 hX1
 replace hB1 := Hd hB1
 replace hX1 := Hd hX1
 replace hb := Hd hb
 go_enter Tryz.func58, Tryz.ntmps58
 go_wp2_with fail
 rw [← hW1]
 replace hW1 := Hd hW1
 go_wp2_with fail
 refine (CC.out _).mono ?_
 rintro _ w2 ⟨rfl, h2⟩
 have hz2 := h2.size
 have hX2 : ∀ o o2 : Obj, ((w2.alloc o).alloc o2).heap[w.heap.size]? = some (.cells #[.int .i64 1, .slice Ak K ck, .string (baO l), .string sv, .string sa, .string sz, .slice Ab B cb] 25 (0, 0)) := fun o o2 => by
  rw [Below.heap_alloc _ _ _ (by simp; omega), Below.heap_alloc _ _ _ (by omega), h2.block _ (by omega)]
  exact hX1.out
 have x0 : ∀ o : Obj, (w2.alloc o).cell? ⟨w.heap.size, 0, none⟩ = some (.int .i64 1) := fun o => cell_of_row _ _ _ _ _ _ ((Below.heap_alloc _ _ _ (by omega)).trans ((h2.block _ (by omega)).trans hX1.out))
 have x00 : ∀ o o2 : Obj, ((w2.alloc o).alloc o2).cell? ⟨w.heap.size, 0, none⟩ = some (.int .i64 1) := fun o o2 => cell_of_row _ _ _ _ _ _ (hX2 o o2)
 have hB2 : ∀ o o2 : Obj, Below w.heap.size w ((w2.alloc o).alloc o2) := fun o o2 => ((hB1.out.trans (h2.mono (by omega))).alloc (by omega) _).alloc (by simp; omega) _
 have hn : w2.heap.size ≠ w2.heap.size + 1 := by omega
 have hn2 : w.heap.size ≠ w2.heap.size + 1 := by omega
 replace h2 := Hd h2
 replace hX2 := Hd hX2
 replace hB2 := Hd hB2
 clear y0 y1 y2 y3 y4 y5 y6
 dsimp only []
 go_wp2_with fail
 cases b
 · have hno : ¬ (CmpE 1 1 (K : Int) (K : Int) (B : Int) 0 (baO l) ⟨#[]⟩ sv ⟨#[]⟩ sa ⟨#[]⟩ sz ⟨#[]⟩) := of_decide_eq_false hb.out.symm
   refine (demand_no _).mono ?_
   rintro _ w5 ⟨rfl, h5⟩
   subst w5
   dsimp only []
   exact ⟨rfl, (okIf_no (hno)).symm, (hB2.out _ _)⟩
 have hyes : CmpE 1 1 (K : Int) (K : Int) (B : Int) 0 (baO l) ⟨#[]⟩ sv ⟨#[]⟩ sa ⟨#[]⟩ sz ⟨#[]⟩ := of_decide_eq_true hb.out.symm
 refine (demand_ok _).mono ?_
 rintro _ w5 ⟨rfl, h5⟩
 subst w5
 dsimp only []
 replace hyes := Hd hyes
 go_wp2_with fail
 go_end0
 exact ⟨(okIf_yes hyes.out).symm, hB2.out _ _⟩
theorem check_2 (K B : Nat) (Ak Ab : Option Addr) (ck cb : Nat) (l : List UInt8) (sv sa sz : ByteArray) (w : World) :
 Calls Tryz.prog 58 #[.agg #[.int .i64 2, .slice Ak K ck, .string (baO l), .string sv, .string sa, .string sz, .slice Ab B cb]] w fun en w' => en = okIf (CmpE 2 2 (K : Int) 1 (B : Int) 0 (baO l) ⟨#[]⟩ sv ⟨#[]⟩ sa ⟨#[]⟩ sz ⟨#[]⟩) ∧ Below w.heap.size w w' := by
 have CC := Hd fun W => cmp_raw 2 K B Ak Ab ck cb (baO l) sv sa sz W
 obtain ⟨b, hb⟩ : ∃ b, b = decide (CmpE 2 2 (K : Int) 1 (B : Int) 0 (baO l) ⟨#[]⟩ sv ⟨#[]⟩ sa ⟨#[]⟩ sz ⟨#[]⟩) := ⟨_, rfl⟩
 have hE : ∀ W, Sem.run Tryz.prog (binOp .eql 94 (.agg #[.int .i64 2, .int .i64 (K : Int), .int .i64 (B : Int), .string (baO l), .string sv, .string sa, .string sz]) (.agg #[.int .i64 2, .int .i64 1, .int .i64 0, .string ⟨#[]⟩, .string ⟨#[]⟩, .string ⟨#[]⟩, .string ⟨#[]⟩])) W = .ok (.bool b) W := fun W => by rw [hb]; exact cmp_eql _ _ _ _ _ _ _ _ _ _ _ _ _ _ W
 obtain ⟨W1, hW1⟩ : ∃ W1, W1 = w.alloc (.cells #[.int .i64 2, .slice Ak K ck, .string (baO l), .string sv, .string sa, .string sz, .slice Ab B cb] 25) := ⟨_, rfl⟩
 have hB1 : Below w.heap.size w W1 := by rw [hW1]; exact (Below.refl _ _).alloc (Nat.le_refl _) _
 have hX1 : W1.heap[w.heap.size]? = some (.cells #[.int .i64 2, .slice Ak K ck, .string (baO l), .string sv, .string sa, .string sz, .slice Ab B cb] 25 (0, 0)) := by rw [hW1]; exact heap_alloc_new w _
 have hz1 : W1.heap.size = w.heap.size + 1 := by rw [hW1]; simp
 obtain ⟨y0, y1, y2, y3, y4, y5, y6⟩ := cells7 hX1
 replace hB1 := Hd hB1
 replace hX1 := Hd hX1
 replace hb := Hd hb
 go_enter Tryz.func58, Tryz.ntmps58
 go_wp2_with fail
 rw [← hW1]
 replace hW1 := Hd hW1
 go_wp2_with fail
 refine (CC.out _).mono ?_
 rintro _ w2 ⟨rfl, h2⟩
 have hz2 := h2.size
 have hX2 : ∀ o o2 : Obj, ((w2.alloc o).alloc o2).heap[w.heap.size]? = some (.cells #[.int .i64 2, .slice Ak K ck, .string (baO l), .string sv, .string sa, .string sz, .slice Ab B cb] 25 (0, 0)) := fun o o2 => by
  rw [Below.heap_alloc _ _ _ (by simp; omega), Below.heap_alloc _ _ _ (by omega), h2.block _ (by omega)]
  exact hX1.out
 have x0 : ∀ o : Obj, (w2.alloc o).cell? ⟨w.heap.size, 0, none⟩ = some (.int .i64 2) := fun o => cell_of_row _ _ _ _ _ _ ((Below.heap_alloc _ _ _ (by omega)).trans ((h2.block _ (by omega)).trans hX1.out))
 have x00 : ∀ o o2 : Obj, ((w2.alloc o).alloc o2).cell? ⟨w.heap.size, 0, none⟩ = some (.int .i64 2) := fun o o2 => cell_of_row _ _ _ _ _ _ (hX2 o o2)
 have hB2 : ∀ o o2 : Obj, Below w.heap.size w ((w2.alloc o).alloc o2) := fun o o2 => ((hB1.out.trans (h2.mono (by omega))).alloc (by omega) _).alloc (by simp; omega) _
 have hn : w2.heap.size ≠ w2.heap.size + 1 := by omega
 have hn2 : w.heap.size ≠ w2.heap.size + 1 := by omega
 replace h2 := Hd h2
 replace hX2 := Hd hX2
 replace hB2 := Hd hB2
 clear y0 y1 y2 y3 y4 y5 y6
 dsimp only []
 go_wp2_with fail
 cases b
 · have hno : ¬ (CmpE 2 2 (K : Int) 1 (B : Int) 0 (baO l) ⟨#[]⟩ sv ⟨#[]⟩ sa ⟨#[]⟩ sz ⟨#[]⟩) := of_decide_eq_false hb.out.symm
   refine (demand_no _).mono ?_
   rintro _ w5 ⟨rfl, h5⟩
   subst w5
   dsimp only []
   exact ⟨rfl, (okIf_no (hno)).symm, (hB2.out _ _)⟩
 have hyes : CmpE 2 2 (K : Int) 1 (B : Int) 0 (baO l) ⟨#[]⟩ sv ⟨#[]⟩ sa ⟨#[]⟩ sz ⟨#[]⟩ := of_decide_eq_true hb.out.symm
 refine (demand_ok _).mono ?_
 rintro _ w5 ⟨rfl, h5⟩
 subst w5
 dsimp only []
 replace hyes := Hd hyes
 go_wp2_with fail
 go_end0
 exact ⟨(okIf_yes hyes.out).symm, hB2.out _ _⟩
theorem check_v (k : Int) (hk : k = 3 ∨ k = 5 ∨ k = 6 ∨ k = 8) (K B : Nat) (Ak Ab : Option Addr) (ck cb : Nat) (l : List UInt8) (sv sa sz : ByteArray) (w : World) (hl : l.length ≤ 9500) :
 Calls Tryz.prog 58 #[.agg #[.int .i64 k, .slice Ak K ck, .string (baO l), .string sv, .string sa, .string sz, .slice Ab B cb]] w fun en w' => en = okIf (CmpE k k (K : Int) 0 (B : Int) 0 (baO l) (baO l) sv sv sa ⟨#[]⟩ sz ⟨#[]⟩ ∧ dscU l = some l) ∧ Below w.heap.size w w' := by
 have CC := Hd fun W => cmp_raw k K B Ak Ab ck cb (baO l) sv sa sz W
 have k0 : (k == 0) = false := by rcases hk with rfl | rfl | rfl | rfl <;> rfl
 have k1 : (k == 1) = false := by rcases hk with rfl | rfl | rfl | rfl <;> rfl
 have k2 : (k == 2) = false := by rcases hk with rfl | rfl | rfl | rfl <;> rfl
 have kge : (3 : Int) ≤ k := by omega
 obtain ⟨b, hb⟩ : ∃ b, b = decide (CmpE k k (K : Int) 0 (B : Int) 0 (baO l) (baO l) sv sv sa ⟨#[]⟩ sz ⟨#[]⟩) := ⟨_, rfl⟩
 have hE : ∀ W, Sem.run Tryz.prog (binOp .eql 94 (.agg #[.int .i64 k, .int .i64 (K : Int), .int .i64 (B : Int), .string (baO l), .string sv, .string sa, .string sz]) (.agg #[.int .i64 k, .int .i64 0, .int .i64 0, .string (baO l), .string sv, .string ⟨#[]⟩, .string ⟨#[]⟩])) W = .ok (.bool b) W := fun W => by rw [hb]; exact cmp_eql _ _ _ _ _ _ _ _ _ _ _ _ _ _ W
 obtain ⟨W1, hW1⟩ : ∃ W1, W1 = w.alloc (.cells #[.int .i64 k, .slice Ak K ck, .string (baO l), .string sv, .string sa, .string sz, .slice Ab B cb] 25) := ⟨_, rfl⟩
 have hB1 : Below w.heap.size w W1 := by rw [hW1]; exact (Below.refl _ _).alloc (Nat.le_refl _) _
 have hX1 : W1.heap[w.heap.size]? = some (.cells #[.int .i64 k, .slice Ak K ck, .string (baO l), .string sv, .string sa, .string sz, .slice Ab B cb] 25 (0, 0)) := by rw [hW1]; exact heap_alloc_new w _
 have hz1 : W1.heap.size = w.heap.size + 1 := by rw [hW1]; simp
 obtain ⟨y0, y1, y2, y3, y4, y5, y6⟩ := cells7 hX1
 replace hB1 := Hd hB1
 replace hX1 := Hd hX1
 replace hb := Hd hb
 go_enter Tryz.func58, Tryz.ntmps58
 go_wp2_with fail
 rw [← hW1]
 replace hW1 := Hd hW1
 go_wp2_with fail
 refine (CC.out _).mono ?_
 rintro _ w2 ⟨rfl, h2⟩
 have hz2 := h2.size
 have hX2 : ∀ o o2 : Obj, ((w2.alloc o).alloc o2).heap[w.heap.size]? = some (.cells #[.int .i64 k, .slice Ak K ck, .string (baO l), .string sv, .string sa, .string sz, .slice Ab B cb] 25 (0, 0)) := fun o o2 => by
  rw [Below.heap_alloc _ _ _ (by simp; omega), Below.heap_alloc _ _ _ (by omega), h2.block _ (by omega)]
  exact hX1.out
 have x0 : ∀ o : Obj, (w2.alloc o).cell? ⟨w.heap.size, 0, none⟩ = some (.int .i64 k) := fun o => cell_of_row _ _ _ _ _ _ ((Below.heap_alloc _ _ _ (by omega)).trans ((h2.block _ (by omega)).trans hX1.out))
 have x00 : ∀ o o2 : Obj, ((w2.alloc o).alloc o2).cell? ⟨w.heap.size, 0, none⟩ = some (.int .i64 k) := fun o o2 => cell_of_row _ _ _ _ _ _ (hX2 o o2)
 have hB2 : ∀ o o2 : Obj, Below w.heap.size w ((w2.alloc o).alloc o2) := fun o o2 => ((hB1.out.trans (h2.mono (by omega))).alloc (by omega) _).alloc (by simp; omega) _
 have hn : w2.heap.size ≠ w2.heap.size + 1 := by omega
 have hn2 : w.heap.size ≠ w2.heap.size + 1 := by omega
 replace h2 := Hd h2
 replace hX2 := Hd hX2
 replace hB2 := Hd hB2
 clear y0 y1 y2 y3 y4 y5 y6
 dsimp only []
 go_upto_if 18 with fail
 go_step
 go_step
 go_cut [21] from 21 to 25 (fun c wx => c = .bool true ∧ wx = (w2.alloc (.cells #[.int .i64 k, .int .i64 (K : Int), .int .i64 (B : Int), .string (baO l), .string sv, .string sa, .string sz] 94)).alloc (.cells #[.int .i64 k, .int .i64 0, .int .i64 0, .string ⟨#[]⟩, .string ⟨#[]⟩, .string ⟨#[]⟩, .string ⟨#[]⟩] 94))
 case first =>
  rcases hk with h | h | h | h
  · have k3 : (k == 3) = true := by simp [h]
    replace h := Hd h
    go_wp2_with fail
    go_meet
    exact ⟨rfl, rfl⟩
  · have k3 : (k == 3) = false := by simp [h]
    have k5 : (k == 5) = true := by simp [h]
    replace h := Hd h
    go_wp2_with fail
    go_meet
    exact ⟨rfl, rfl⟩
  · have k3 : (k == 3) = false := by simp [h]
    have k5 : (k == 5) = false := by simp [h]
    have k6 : (k == 6) = true := by simp [h]
    replace h := Hd h
    go_wp2_with fail
    go_meet
    exact ⟨rfl, rfl⟩
  · have k3 : (k == 3) = false := by simp [h]
    have k5 : (k == 5) = false := by simp [h]
    have k6 : (k == 6) = false := by simp [h]
    have k8 : (k == 8) = true := by simp [h]
    replace h := Hd h
    go_wp2_with fail
    go_meet
    exact ⟨rfl, rfl⟩
 obtain ⟨rfl, hwc⟩ := hcut
 subst wc
 go_wp2_with fail
 go_region
 go_wp2_with fail
 cases b
 · have hno : ¬ (CmpE k k (K : Int) 0 (B : Int) 0 (baO l) (baO l) sv sv sa ⟨#[]⟩ sz ⟨#[]⟩) := of_decide_eq_false hb.out.symm
   refine (demand_no _).mono ?_
   rintro _ w5 ⟨rfl, h5⟩
   subst w5
   dsimp only []
   exact ⟨rfl, (okIf_no (fun h => hno h.1)).symm, (hB2.out _ _).drew⟩
 have hyes : CmpE k k (K : Int) 0 (B : Int) 0 (baO l) (baO l) sv sv sa ⟨#[]⟩ sz ⟨#[]⟩ := of_decide_eq_true hb.out.symm
 refine (demand_ok _).mono ?_
 rintro _ w5 ⟨rfl, h5⟩
 subst w5
 dsimp only []
 replace hyes := Hd hyes
 go_wp2_with fail
 have hX3 : ((w2.alloc (.cells #[.int .i64 k, .int .i64 (K : Int), .int .i64 (B : Int), .string (baO l), .string sv, .string sa, .string sz] 94)).alloc (.cells #[.int .i64 k, .int .i64 0, .int .i64 0, .string (baO l), .string sv, .string ⟨#[]⟩, .string ⟨#[]⟩] 94)).drew.heap[w.heap.size]? = _ := hX2.out _ _
 have hB3 := (hB2.out (.cells #[.int .i64 k, .int .i64 (K : Int), .int .i64 (B : Int), .string (baO l), .string sv, .string sa, .string sz] 94) (.cells #[.int .i64 k, .int .i64 0, .int .i64 0, .string (baO l), .string sv, .string ⟨#[]⟩, .string ⟨#[]⟩] 94)).drew
 generalize ((w2.alloc (.cells #[.int .i64 k, .int .i64 (K : Int), .int .i64 (B : Int), .string (baO l), .string sv, .string sa, .string sz] 94)).alloc (.cells #[.int .i64 k, .int .i64 0, .int .i64 0, .string (baO l), .string sv, .string ⟨#[]⟩, .string ⟨#[]⟩] 94)).drew = W3 at hX3 hB3 ⊢
 have KX : Hid (∀ W, Below (w.heap.size + 1) W3 W → W.cell? ⟨w.heap.size, 2, none⟩ = some (.string (baO l))) := Hd fun W hW => cell_of_row _ _ _ _ _ _ ((hW.block _ (by omega)).trans hX3)
 have hz3 : w.heap.size + 1 ≤ W3.heap.size := (Array.getElem?_eq_some_iff.1 hX3).1
 have y2 := KX.out W3 (Below.refl _ _)
 replace hX3 := Hd hX3
 replace hB3 := Hd hB3
 clear x0 x00 hE
 cases hd : dscU l with
 | none =>
   have CN := Hd fun W => (normal_any l W hl).mono fun en w' (h : _) => (⟨h.2.1 hd, h.2.2⟩ : en = bad14 ∧ Below W.heap.size W w')
   refine wp_region_held_drew (S := (fun W => W.cell? ⟨w.heap.size, 2, none⟩ = some (.string (baO l)))) (by kernel_rfl) (KX.out _ (Below.refl _ _).drew) ?_
   intro hHeld
   refine tk 0 68 hHeld ?_
   refine tk 1 69 hHeld ?_
   refine tk 3 71 hHeld ?_
   refine tk 4 72 hHeld ?_
   refine rdy [2] ?_
   refine .cons rfl (fun K hK => ?_) .nil
   go_simp
   go_at_call 66
   refine (CN.out _).mono ?_
   rintro _ w6 ⟨rfl, hb6⟩
   have HB6 := hB3.out.trans (Below.mono (Below.trans (Below.refl W3.heap.size W3).drew hb6) (by omega))
   exact ⟨rfl, (okIf_no (fun h => by have h2 := h.2; rw [hd] at h2; cases h2)).symm, HB6⟩
 | some t =>
   have CN := Hd fun W => (normal_any l W hl).mono fun en w' (h : _) => (⟨h.1 t hd, h.2.2⟩ : en = .returned (.string (baO t)) ∧ Below W.heap.size W w')
   by_cases htl : t = l
   · subst htl
     have CD := Hd fun W => demand_ok W
     refine wp_region_held_drew (S := (fun W => W.cell? ⟨w.heap.size, 2, none⟩ = some (.string (baO t)))) (by kernel_rfl) (KX.out _ (Below.refl _ _).drew) ?_
     intro hHeld
     refine tk 0 68 hHeld ?_
     refine tk 1 69 hHeld ?_
     refine tk 3 71 hHeld ?_
     refine tk 4 72 hHeld ?_
     refine rdy [2] ?_
     refine .cons rfl (fun K hK => ?_) .nil
     go_simp
     go_at_call 66
     refine (CN.out _).mono ?_
     rintro _ w6 ⟨rfl, hb6⟩
     have HK6 := Hd (show Below (w.heap.size + 1) W3 w6 from Below.mono (Below.trans (Below.refl W3.heap.size W3).drew hb6) hz3)
     clear hb6
     dsimp only []
     refine hK.out _ _ (KX.out _ (HK6.out)) ?_
     clear hK K hHeld
     intro hHeld
     refine tk 5 73 hHeld ?_
     refine rdy [6] ?_
     refine .cons rfl (fun K hK => ?_) .nil
     go_simp
     go_at_call 31
     refine (CD.out _).mono ?_
     rintro _ w7 ⟨rfl, h7⟩
     subst w7
     dsimp only []
     refine hK.out _ _ (KX.out _ (HK6.out)) ?_
     clear hK K hHeld
     intro hHeld
     refine wpAnyH_done (by kernel_rfl) ?_ _
     go_wp2_with fail
     go_end0
     exact ⟨(okIf_yes (And.intro hyes.out hd)).symm, hB3.out.trans (HK6.out.mono (by omega))⟩
   · have hne : ((baO t).toList == (baO l).toList) = false := by
      rw [beq_eq_false_iff_ne, Lib.toList_data, Lib.toList_data]
      exact htl
     have CD := Hd fun W => demand_no W
     refine wp_region_held_drew (S := (fun W => W.cell? ⟨w.heap.size, 2, none⟩ = some (.string (baO l)))) (by kernel_rfl) (KX.out _ (Below.refl _ _).drew) ?_
     intro hHeld
     refine tk 0 68 hHeld ?_
     refine tk 1 69 hHeld ?_
     refine tk 3 71 hHeld ?_
     refine tk 4 72 hHeld ?_
     refine rdy [2] ?_
     refine .cons rfl (fun K hK => ?_) .nil
     go_simp
     go_at_call 66
     refine (CN.out _).mono ?_
     rintro _ w6 ⟨rfl, hb6⟩
     have HK6 := Hd (show Below (w.heap.size + 1) W3 w6 from Below.mono (Below.trans (Below.refl W3.heap.size W3).drew hb6) hz3)
     clear hb6
     dsimp only []
     refine hK.out _ _ (KX.out _ (HK6.out)) ?_
     clear hK K hHeld
     intro hHeld
     refine tk 5 73 hHeld ?_
     refine rdy [6] ?_
     refine .cons rfl (fun K hK => ?_) .nil
     go_simp
     go_at_call 31
     refine (CD.out _).mono ?_
     rintro _ w7 ⟨rfl, h7⟩
     subst w7
     exact ⟨rfl, (okIf_no (fun h => by have h2 := h.2; rw [hd] at h2; injection h2 with h2; exact htl h2)).symm, hB3.out.trans (HK6.out.mono (by omega))⟩
theorem check_7 (K B : Nat) (Ak Ab : Option Addr) (ck cb : Nat) (l : List UInt8) (sv sa sz : ByteArray) (w : World) (hl : l.length ≤ 9500) :
 Calls Tryz.prog 58 #[.agg #[.int .i64 7, .slice Ak K ck, .string (baO l), .string sv, .string sa, .string sz, .slice Ab B cb]] w fun en w' => en = okIf (CmpE 7 7 (K : Int) 0 (B : Int) 0 (baO l) (baO l) sv ⟨#[]⟩ sa ⟨#[]⟩ sz ⟨#[]⟩ ∧ dscU l = some l) ∧ Below w.heap.size w w' := by
 have CC := Hd fun W => cmp_raw 7 K B Ak Ab ck cb (baO l) sv sa sz W
 obtain ⟨b, hb⟩ : ∃ b, b = decide (CmpE 7 7 (K : Int) 0 (B : Int) 0 (baO l) (baO l) sv ⟨#[]⟩ sa ⟨#[]⟩ sz ⟨#[]⟩) := ⟨_, rfl⟩
 have hE : ∀ W, Sem.run Tryz.prog (binOp .eql 94 (.agg #[.int .i64 7, .int .i64 (K : Int), .int .i64 (B : Int), .string (baO l), .string sv, .string sa, .string sz]) (.agg #[.int .i64 7, .int .i64 0, .int .i64 0, .string (baO l), .string ⟨#[]⟩, .string ⟨#[]⟩, .string ⟨#[]⟩])) W = .ok (.bool b) W := fun W => by rw [hb]; exact cmp_eql _ _ _ _ _ _ _ _ _ _ _ _ _ _ W
 obtain ⟨W1, hW1⟩ : ∃ W1, W1 = w.alloc (.cells #[.int .i64 7, .slice Ak K ck, .string (baO l), .string sv, .string sa, .string sz, .slice Ab B cb] 25) := ⟨_, rfl⟩
 have hB1 : Below w.heap.size w W1 := by rw [hW1]; exact (Below.refl _ _).alloc (Nat.le_refl _) _
 have hX1 : W1.heap[w.heap.size]? = some (.cells #[.int .i64 7, .slice Ak K ck, .string (baO l), .string sv, .string sa, .string sz, .slice Ab B cb] 25 (0, 0)) := by rw [hW1]; exact heap_alloc_new w _
 have hz1 : W1.heap.size = w.heap.size + 1 := by rw [hW1]; simp
 obtain ⟨y0, y1, y2, y3, y4, y5, y6⟩ := cells7 hX1
 replace hB1 := Hd hB1
 replace hX1 := Hd hX1
 replace hb := Hd hb
 go_enter Tryz.func58, Tryz.ntmps58
 go_wp2_with fail
 rw [← hW1]
 replace hW1 := Hd hW1
 go_wp2_with fail
 refine (CC.out _).mono ?_
 rintro _ w2 ⟨rfl, h2⟩
 have hz2 := h2.size
 have hX2 : ∀ o o2 : Obj, ((w2.alloc o).alloc o2).heap[w.heap.size]? = some (.cells #[.int .i64 7, .slice Ak K ck, .string (baO l), .string sv, .string sa, .string sz, .slice Ab B cb] 25 (0, 0)) := fun o o2 => by
  rw [Below.heap_alloc _ _ _ (by simp; omega), Below.heap_alloc _ _ _ (by omega), h2.block _ (by omega)]
  exact hX1.out
 have x0 : ∀ o : Obj, (w2.alloc o).cell? ⟨w.heap.size, 0, none⟩ = some (.int .i64 7) := fun o => cell_of_row _ _ _ _ _ _ ((Below.heap_alloc _ _ _ (by omega)).trans ((h2.block _ (by omega)).trans hX1.out))
 have x00 : ∀ o o2 : Obj, ((w2.alloc o).alloc o2).cell? ⟨w.heap.size, 0, none⟩ = some (.int .i64 7) := fun o o2 => cell_of_row _ _ _ _ _ _ (hX2 o o2)
 have hB2 : ∀ o o2 : Obj, Below w.heap.size w ((w2.alloc o).alloc o2) := fun o o2 => ((hB1.out.trans (h2.mono (by omega))).alloc (by omega) _).alloc (by simp; omega) _
 have hn : w2.heap.size ≠ w2.heap.size + 1 := by omega
 have hn2 : w.heap.size ≠ w2.heap.size + 1 := by omega
 replace h2 := Hd h2
 replace hX2 := Hd hX2
 replace hB2 := Hd hB2
 clear y0 y1 y2 y3 y4 y5 y6
 dsimp only []
 go_wp2_with fail
 cases b
 · have hno : ¬ (CmpE 7 7 (K : Int) 0 (B : Int) 0 (baO l) (baO l) sv ⟨#[]⟩ sa ⟨#[]⟩ sz ⟨#[]⟩) := of_decide_eq_false hb.out.symm
   refine (demand_no _).mono ?_
   rintro _ w5 ⟨rfl, h5⟩
   subst w5
   dsimp only []
   exact ⟨rfl, (okIf_no (fun h => hno h.1)).symm, (hB2.out _ _)⟩
 have hyes : CmpE 7 7 (K : Int) 0 (B : Int) 0 (baO l) (baO l) sv ⟨#[]⟩ sa ⟨#[]⟩ sz ⟨#[]⟩ := of_decide_eq_true hb.out.symm
 refine (demand_ok _).mono ?_
 rintro _ w5 ⟨rfl, h5⟩
 subst w5
 dsimp only []
 replace hyes := Hd hyes
 go_wp2_with fail
 have hX3 : ((w2.alloc (.cells #[.int .i64 7, .int .i64 (K : Int), .int .i64 (B : Int), .string (baO l), .string sv, .string sa, .string sz] 94)).alloc (.cells #[.int .i64 7, .int .i64 0, .int .i64 0, .string (baO l), .string ⟨#[]⟩, .string ⟨#[]⟩, .string ⟨#[]⟩] 94)).heap[w.heap.size]? = _ := hX2.out _ _
 have hB3 := (hB2.out (.cells #[.int .i64 7, .int .i64 (K : Int), .int .i64 (B : Int), .string (baO l), .string sv, .string sa, .string sz] 94) (.cells #[.int .i64 7, .int .i64 0, .int .i64 0, .string (baO l), .string ⟨#[]⟩, .string ⟨#[]⟩, .string ⟨#[]⟩] 94))
 generalize ((w2.alloc (.cells #[.int .i64 7, .int .i64 (K : Int), .int .i64 (B : Int), .string (baO l), .string sv, .string sa, .string sz] 94)).alloc (.cells #[.int .i64 7, .int .i64 0, .int .i64 0, .string (baO l), .string ⟨#[]⟩, .string ⟨#[]⟩, .string ⟨#[]⟩] 94)) = W3 at hX3 hB3 ⊢
 have KX : Hid (∀ W, Below (w.heap.size + 1) W3 W → W.cell? ⟨w.heap.size, 2, none⟩ = some (.string (baO l))) := Hd fun W hW => cell_of_row _ _ _ _ _ _ ((hW.block _ (by omega)).trans hX3)
 have hz3 : w.heap.size + 1 ≤ W3.heap.size := (Array.getElem?_eq_some_iff.1 hX3).1
 have y2 := KX.out W3 (Below.refl _ _)
 replace hX3 := Hd hX3
 replace hB3 := Hd hB3
 clear x0 x00 hE
 cases hd : dscU l with
 | none =>
   have CN := Hd fun W => (normal_any l W hl).mono fun en w' (h : _) => (⟨h.2.1 hd, h.2.2⟩ : en = bad14 ∧ Below W.heap.size W w')
   refine wp_region_held_drew (S := (fun W => W.cell? ⟨w.heap.size, 2, none⟩ = some (.string (baO l)))) (by kernel_rfl) (KX.out _ (Below.refl _ _).drew) ?_
   intro hHeld
   refine tk 0 68 hHeld ?_
   refine tk 1 69 hHeld ?_
   refine tk 3 71 hHeld ?_
   refine tk 4 72 hHeld ?_
   refine rdy [2] ?_
   refine .cons rfl (fun K hK => ?_) .nil
   go_simp
   go_at_call 66
   refine (CN.out _).mono ?_
   rintro _ w6 ⟨rfl, hb6⟩
   have HB6 := hB3.out.trans (Below.mono (Below.trans (Below.refl W3.heap.size W3).drew hb6) (by omega))
   exact ⟨rfl, (okIf_no (fun h => by have h2 := h.2; rw [hd] at h2; cases h2)).symm, HB6⟩
 | some t =>
   have CN := Hd fun W => (normal_any l W hl).mono fun en w' (h : _) => (⟨h.1 t hd, h.2.2⟩ : en = .returned (.string (baO t)) ∧ Below W.heap.size W w')
   by_cases htl : t = l
   · subst htl
     have CD := Hd fun W => demand_ok W
     refine wp_region_held_drew (S := (fun W => W.cell? ⟨w.heap.size, 2, none⟩ = some (.string (baO t)))) (by kernel_rfl) (KX.out _ (Below.refl _ _).drew) ?_
     intro hHeld
     refine tk 0 68 hHeld ?_
     refine tk 1 69 hHeld ?_
     refine tk 3 71 hHeld ?_
     refine tk 4 72 hHeld ?_
     refine rdy [2] ?_
     refine .cons rfl (fun K hK => ?_) .nil
     go_simp
     go_at_call 66
     refine (CN.out _).mono ?_
     rintro _ w6 ⟨rfl, hb6⟩
     have HK6 := Hd (show Below (w.heap.size + 1) W3 w6 from Below.mono (Below.trans (Below.refl W3.heap.size W3).drew hb6) hz3)
     clear hb6
     dsimp only []
     refine hK.out _ _ (KX.out _ (HK6.out)) ?_
     clear hK K hHeld
     intro hHeld
     refine tk 5 73 hHeld ?_
     refine rdy [6] ?_
     refine .cons rfl (fun K hK => ?_) .nil
     go_simp
     go_at_call 31
     refine (CD.out _).mono ?_
     rintro _ w7 ⟨rfl, h7⟩
     subst w7
     dsimp only []
     refine hK.out _ _ (KX.out _ (HK6.out)) ?_
     clear hK K hHeld
     intro hHeld
     refine wpAnyH_done (by kernel_rfl) ?_ _
     go_wp2_with fail
     go_end0
     exact ⟨(okIf_yes (And.intro hyes.out hd)).symm, hB3.out.trans (HK6.out.mono (by omega))⟩
   · have hne : ((baO t).toList == (baO l).toList) = false := by
      rw [beq_eq_false_iff_ne, Lib.toList_data, Lib.toList_data]
      exact htl
     have CD := Hd fun W => demand_no W
     refine wp_region_held_drew (S := (fun W => W.cell? ⟨w.heap.size, 2, none⟩ = some (.string (baO l)))) (by kernel_rfl) (KX.out _ (Below.refl _ _).drew) ?_
     intro hHeld
     refine tk 0 68 hHeld ?_
     refine tk 1 69 hHeld ?_
     refine tk 3 71 hHeld ?_
     refine tk 4 72 hHeld ?_
     refine rdy [2] ?_
     refine .cons rfl (fun K hK => ?_) .nil
     go_simp
     go_at_call 66
     refine (CN.out _).mono ?_
     rintro _ w6 ⟨rfl, hb6⟩
     have HK6 := Hd (show Below (w.heap.size + 1) W3 w6 from Below.mono (Below.trans (Below.refl W3.heap.size W3).drew hb6) hz3)
     clear hb6
     dsimp only []
     refine hK.out _ _ (KX.out _ (HK6.out)) ?_
     clear hK K hHeld
     intro hHeld
     refine tk 5 73 hHeld ?_
     refine rdy [6] ?_
     refine .cons rfl (fun K hK => ?_) .nil
     go_simp
     go_at_call 31
     refine (CD.out _).mono ?_
     rintro _ w7 ⟨rfl, h7⟩
     subst w7
     exact ⟨rfl, (okIf_no (fun h => by have h2 := h.2; rw [hd] at h2; injection h2 with h2; exact htl h2)).symm, hB3.out.trans (HK6.out.mono (by omega))⟩
end Go.Proofs.YtcbiedonmibfaaaGreatDoor
