/-
  The walk of the law WholeOrder.
-/
import Derived.Test.YthdiaghkpolonaaDoorTextsWalk
import Derived.Deep.RegionHeldLaw
import Derived.BigRegion
namespace Go.Proofs.YthdiaghkpolonaaDoor
open Go.RowKit Go.Lib

theorem box2 {w W : World} {x y : Value} {U : TypeId} (h : Below (w.heap.size + 1) (w.alloc (.cells #[x, y] U)) W) :
    W.cell? ⟨w.heap.size, 0, none⟩ = some x ∧ W.cell? ⟨w.heap.size, 1, none⟩ = some y := by
  have e : ∀ i, (w.alloc (.cells #[x, y] U)).cell? ⟨w.heap.size, i, none⟩ = #[x, y][i]? := fun i => by rw [World.cell?_alloc_new]
  exact ⟨by rw [h.cell (by simp), e]; rfl, by rw [h.cell (by simp), e]; rfl⟩
theorem below_box {w W : World} {o : Obj} (h : Below (w.heap.size + 1) (w.alloc o) W) : Below w.heap.size w W := ((Below.refl w.heap.size w).alloc (Nat.le_refl _) o).trans (h.mono (by omega))
theorem below_then {K : Nat} {W w2 w3 : World} (h : Below K W w2) (hK : K ≤ w2.heap.size) (hb : Below w2.heap.size w2 w3) : Below K W w3 := h.trans (hb.mono hK)
theorem below_drew1 {K : Nat} {W w2 w3 : World} (h : Below K W w2) (hK : K ≤ w2.heap.size) (hb : Below w2.drew.heap.size w2.drew w3) : Below K W w3 :=
  h.trans ⟨hb.os, hb.tape, hb.output, hb.size, fun k hk => hb.block k (Nat.lt_of_lt_of_le hk hK)⟩
theorem below_drew2 {K : Nat} {W w2 w3 : World} (h : Below K W w2) (hK : K ≤ w2.heap.size) (hb : Below w2.drew.drew.heap.size w2.drew.drew w3) : Below K W w3 :=
  h.trans ⟨hb.os, hb.tape, hb.output, hb.size, fun k hk => hb.block k (Nat.lt_of_lt_of_le hk hK)⟩

set_option maxRecDepth 8000 in
set_option maxHeartbeats 1600000 in
theorem order_ll1 (x y : Int) (s t p q u v : ByteArray) (c3 c4 : Int) (w : World) (hlen : (s.size : Int) + (t.size : Int) ≤ 600) (hxy : x < y) (h3 : c3 ≤ 0) (h4 : c4 ≤ 0) (h5 : (u.toList == v.toList) = false)
    (D1 : Hid (∀ w0, Below (w.heap.size + 1) (w.alloc (.cells #[.int .i64 x, .int .i64 y] 36)) w0 → Calls Tryd.prog 9 #[.int .i64 x] w0 fun e w' => e = .returned (.string p) ∧ Below w0.heap.size w0 w'))
    (D2 : Hid (∀ w0, Below (w.heap.size + 1) (w.alloc (.cells #[.int .i64 x, .int .i64 y] 36)) w0 → Calls Tryd.prog 9 #[.int .i64 y] w0 fun e w' => e = .returned (.string q) ∧ Below w0.heap.size w0 w'))
    (C1 : Hid (∀ w, Calls Tryd.prog 15 #[.string p, .string q] w fun e w' => e = .returned (.int .i64 (-1)) ∧ Below w.heap.size w w'))
    (C2 : Hid (∀ w, Calls Tryd.prog 15 #[.string s, .string t] w fun e w' => e = .returned (.int .i64 (-1)) ∧ Below w.heap.size w w'))
    (C3 : Hid (∀ w, Calls Tryd.prog 15 #[.string t, .string s] w fun e w' => e = .returned (.int .i64 (1)) ∧ Below w.heap.size w w'))
    (P1 : Hid (∀ w, Calls Tryd.prog 13 #[.string s] w fun e w' => e = .returned (.string u) ∧ Below w.heap.size w w'))
    (P2 : Hid (∀ w, Calls Tryd.prog 13 #[.string t] w fun e w' => e = .returned (.string v) ∧ Below w.heap.size w w'))
    (C4 : Hid (∀ w, Calls Tryd.prog 15 #[.string t, .string p] w fun e w' => e = .returned (.int .i64 c3) ∧ Below w.heap.size w w'))
    (C5 : Hid (∀ w, Calls Tryd.prog 15 #[.string s, .string p] w fun e w' => e = .returned (.int .i64 c4) ∧ Below w.heap.size w w')) :
    Calls Tryd.prog 5 #[.agg #[.int .i64 x, .int .i64 y], .string s, .string t] w fun e w' => e = .returned (.bool true) ∧ Below w.heap.size w w' := by
  have f1 : ((x : Int) == y) = false := beq_eq_false_iff_ne.2 (by omega)
  have f2 : decide (x < y) = true := decide_eq_true hxy
  have HB0 := Lib.hid (Below.refl (w.heap.size + 1) (w.alloc (.cells #[.int .i64 x, .int .i64 y] 36)))
  obtain ⟨g0, g1⟩ := box2 HB0.out
  go_enter Tryd.func5, Tryd.ntmps5
  go_wp2_with fail
  go_region_held_law (fun W => W.cell? ⟨w.heap.size, 0, none⟩ = some (.int .i64 x) ∧ W.cell? ⟨w.heap.size, 1, none⟩ = some (.int .i64 y)) (first | go_keep | (exact ⟨by assumption, by assumption⟩))
    (first
      | (go_at_call 9; (with_reducible refine (D1.out _ (by first | exact HB0.out | exact HB0.out.drew | exact HB0.out.drew.drew)).mono ?_); rintro e w3 ⟨rfl, hb3⟩; have HB3 := Lib.hid (show Below (w.heap.size + 1) (w.alloc (.cells #[.int .i64 x, .int .i64 y] 36)) w3 from by first | exact below_drew1 HB0.out (by simp) hb3 | exact below_drew2 HB0.out (by simp) hb3 | exact below_then HB0.out (by simp) hb3); have hK3 : w.heap.size + 1 ≤ w3.heap.size := (by have := HB3.out.size; simpa using this); clear hb3; obtain ⟨k0, k1⟩ := box2 HB3.out)
      | (go_at_call 9; (with_reducible refine (D2.out _ (by first | exact HB3.out | exact HB3.out.drew | exact HB3.out.drew.drew)).mono ?_); rintro e w4 ⟨rfl, hb4⟩; have HB4 := Lib.hid (show Below (w.heap.size + 1) (w.alloc (.cells #[.int .i64 x, .int .i64 y] 36)) w4 from by first | exact below_then HB3.out hK3 hb4 | exact below_drew1 HB3.out hK3 hb4 | exact below_drew2 HB3.out hK3 hb4); have hK4 : w.heap.size + 1 ≤ w4.heap.size := Nat.le_trans hK3 hb4.size; clear hb4; obtain ⟨k2, k3⟩ := box2 HB4.out))
  go_wp2_with fail
  refine (C1.out _).mono ?_
  rintro e w5 ⟨rfl, hb5⟩
  have HB5 := Lib.hid (below_then HB4.out hK4 hb5)
  have hK5 : w.heap.size + 1 ≤ w5.heap.size := Nat.le_trans hK4 hb5.size
  clear hb5
  obtain ⟨k4, k5⟩ := box2 HB5.out
  go_wp2_with fail
  refine (C2.out _).mono ?_
  rintro e w6 ⟨rfl, hb6⟩
  have HB6 := Lib.hid (below_then HB5.out hK5 hb6)
  have hK6 : w.heap.size + 1 ≤ w6.heap.size := Nat.le_trans hK5 hb6.size
  clear hb6
  go_wp2_with fail
  refine (C3.out _).mono ?_
  rintro e w7 ⟨rfl, hb7⟩
  have HB7 := Lib.hid (below_then HB6.out hK6 hb7)
  have hK7 : w.heap.size + 1 ≤ w7.heap.size := Nat.le_trans hK6 hb7.size
  clear hb7
  go_wp2_with fail
  refine (P1.out _).mono ?_
  rintro e w8 ⟨rfl, hb8⟩
  have HB8 := Lib.hid (below_then HB7.out hK7 hb8)
  have hK8 : w.heap.size + 1 ≤ w8.heap.size := Nat.le_trans hK7 hb8.size
  clear hb8
  go_wp2_with fail
  refine (P2.out _).mono ?_
  rintro e w9 ⟨rfl, hb9⟩
  have HB9 := Lib.hid (below_then HB8.out hK8 hb9)
  have hK9 : w.heap.size + 1 ≤ w9.heap.size := Nat.le_trans hK8 hb9.size
  clear hb9
  go_wp2_with fail
  refine (C4.out _).mono ?_
  rintro e wa ⟨rfl, hba⟩
  have HBa := Lib.hid (below_then HB9.out hK9 hba)
  have hKa : w.heap.size + 1 ≤ wa.heap.size := Nat.le_trans hK9 hba.size
  clear hba
  go_wp2_with fail
  refine (C5.out _).mono ?_
  rintro e wb ⟨rfl, hbb⟩
  have HBb := Lib.hid (below_then HBa.out hKa hbb)
  clear hbb
  go_wp2_with fail
  go_ret
  exact ⟨rfl, below_box HBb.out⟩

set_option maxRecDepth 8000 in
set_option maxHeartbeats 1600000 in
theorem order_ll0 (x y : Int) (s t p q u v : ByteArray) (c3 c4 : Int) (w : World) (hlen : (s.size : Int) + (t.size : Int) ≤ 600) (hxy : x < y) (h3 : 0 < c3) (h5 : (u.toList == v.toList) = false)
    (D1 : Hid (∀ w0, Below (w.heap.size + 1) (w.alloc (.cells #[.int .i64 x, .int .i64 y] 36)) w0 → Calls Tryd.prog 9 #[.int .i64 x] w0 fun e w' => e = .returned (.string p) ∧ Below w0.heap.size w0 w'))
    (D2 : Hid (∀ w0, Below (w.heap.size + 1) (w.alloc (.cells #[.int .i64 x, .int .i64 y] 36)) w0 → Calls Tryd.prog 9 #[.int .i64 y] w0 fun e w' => e = .returned (.string q) ∧ Below w0.heap.size w0 w'))
    (C1 : Hid (∀ w, Calls Tryd.prog 15 #[.string p, .string q] w fun e w' => e = .returned (.int .i64 (-1)) ∧ Below w.heap.size w w'))
    (C2 : Hid (∀ w, Calls Tryd.prog 15 #[.string s, .string t] w fun e w' => e = .returned (.int .i64 (-1)) ∧ Below w.heap.size w w'))
    (C3 : Hid (∀ w, Calls Tryd.prog 15 #[.string t, .string s] w fun e w' => e = .returned (.int .i64 (1)) ∧ Below w.heap.size w w'))
    (P1 : Hid (∀ w, Calls Tryd.prog 13 #[.string s] w fun e w' => e = .returned (.string u) ∧ Below w.heap.size w w'))
    (P2 : Hid (∀ w, Calls Tryd.prog 13 #[.string t] w fun e w' => e = .returned (.string v) ∧ Below w.heap.size w w'))
    (C4 : Hid (∀ w, Calls Tryd.prog 15 #[.string t, .string p] w fun e w' => e = .returned (.int .i64 c3) ∧ Below w.heap.size w w'))
    (_C5 : Hid (∀ w, Calls Tryd.prog 15 #[.string s, .string p] w fun e w' => e = .returned (.int .i64 c4) ∧ Below w.heap.size w w')) :
    Calls Tryd.prog 5 #[.agg #[.int .i64 x, .int .i64 y], .string s, .string t] w fun e w' => e = .returned (.bool true) ∧ Below w.heap.size w w' := by
  have f1 : ((x : Int) == y) = false := beq_eq_false_iff_ne.2 (by omega)
  have f2 : decide (x < y) = true := decide_eq_true hxy
  have HB0 := Lib.hid (Below.refl (w.heap.size + 1) (w.alloc (.cells #[.int .i64 x, .int .i64 y] 36)))
  obtain ⟨g0, g1⟩ := box2 HB0.out
  go_enter Tryd.func5, Tryd.ntmps5
  go_wp2_with fail
  go_region_held_law (fun W => W.cell? ⟨w.heap.size, 0, none⟩ = some (.int .i64 x) ∧ W.cell? ⟨w.heap.size, 1, none⟩ = some (.int .i64 y)) (first | go_keep | (exact ⟨by assumption, by assumption⟩))
    (first
      | (go_at_call 9; (with_reducible refine (D1.out _ (by first | exact HB0.out | exact HB0.out.drew | exact HB0.out.drew.drew)).mono ?_); rintro e w3 ⟨rfl, hb3⟩; have HB3 := Lib.hid (show Below (w.heap.size + 1) (w.alloc (.cells #[.int .i64 x, .int .i64 y] 36)) w3 from by first | exact below_drew1 HB0.out (by simp) hb3 | exact below_drew2 HB0.out (by simp) hb3 | exact below_then HB0.out (by simp) hb3); have hK3 : w.heap.size + 1 ≤ w3.heap.size := (by have := HB3.out.size; simpa using this); clear hb3; obtain ⟨k0, k1⟩ := box2 HB3.out)
      | (go_at_call 9; (with_reducible refine (D2.out _ (by first | exact HB3.out | exact HB3.out.drew | exact HB3.out.drew.drew)).mono ?_); rintro e w4 ⟨rfl, hb4⟩; have HB4 := Lib.hid (show Below (w.heap.size + 1) (w.alloc (.cells #[.int .i64 x, .int .i64 y] 36)) w4 from by first | exact below_then HB3.out hK3 hb4 | exact below_drew1 HB3.out hK3 hb4 | exact below_drew2 HB3.out hK3 hb4); have hK4 : w.heap.size + 1 ≤ w4.heap.size := Nat.le_trans hK3 hb4.size; clear hb4; obtain ⟨k2, k3⟩ := box2 HB4.out))
  go_wp2_with fail
  refine (C1.out _).mono ?_
  rintro e w5 ⟨rfl, hb5⟩
  have HB5 := Lib.hid (below_then HB4.out hK4 hb5)
  have hK5 : w.heap.size + 1 ≤ w5.heap.size := Nat.le_trans hK4 hb5.size
  clear hb5
  obtain ⟨k4, k5⟩ := box2 HB5.out
  go_wp2_with fail
  refine (C2.out _).mono ?_
  rintro e w6 ⟨rfl, hb6⟩
  have HB6 := Lib.hid (below_then HB5.out hK5 hb6)
  have hK6 : w.heap.size + 1 ≤ w6.heap.size := Nat.le_trans hK5 hb6.size
  clear hb6
  go_wp2_with fail
  refine (C3.out _).mono ?_
  rintro e w7 ⟨rfl, hb7⟩
  have HB7 := Lib.hid (below_then HB6.out hK6 hb7)
  have hK7 : w.heap.size + 1 ≤ w7.heap.size := Nat.le_trans hK6 hb7.size
  clear hb7
  go_wp2_with fail
  refine (P1.out _).mono ?_
  rintro e w8 ⟨rfl, hb8⟩
  have HB8 := Lib.hid (below_then HB7.out hK7 hb8)
  have hK8 : w.heap.size + 1 ≤ w8.heap.size := Nat.le_trans hK7 hb8.size
  clear hb8
  go_wp2_with fail
  refine (P2.out _).mono ?_
  rintro e w9 ⟨rfl, hb9⟩
  have HB9 := Lib.hid (below_then HB8.out hK8 hb9)
  have hK9 : w.heap.size + 1 ≤ w9.heap.size := Nat.le_trans hK8 hb9.size
  clear hb9
  go_wp2_with fail
  refine (C4.out _).mono ?_
  rintro e wa ⟨rfl, hba⟩
  have HBa := Lib.hid (below_then HB9.out hK9 hba)
  have hKa : w.heap.size + 1 ≤ wa.heap.size := Nat.le_trans hK9 hba.size
  clear hba
  go_wp2_with fail
  go_ret
  exact ⟨rfl, below_box HBa.out⟩

set_option maxRecDepth 8000 in
set_option maxHeartbeats 1600000 in
theorem order_le1 (x y : Int) (s t p q u v : ByteArray) (c3 c4 : Int) (w : World) (hlen : (s.size : Int) + (t.size : Int) ≤ 600) (hxy : x < y) (h3 : c3 ≤ 0) (h4 : c4 ≤ 0) (h5 : (u.toList == v.toList) = true)
    (D1 : Hid (∀ w0, Below (w.heap.size + 1) (w.alloc (.cells #[.int .i64 x, .int .i64 y] 36)) w0 → Calls Tryd.prog 9 #[.int .i64 x] w0 fun e w' => e = .returned (.string p) ∧ Below w0.heap.size w0 w'))
    (D2 : Hid (∀ w0, Below (w.heap.size + 1) (w.alloc (.cells #[.int .i64 x, .int .i64 y] 36)) w0 → Calls Tryd.prog 9 #[.int .i64 y] w0 fun e w' => e = .returned (.string q) ∧ Below w0.heap.size w0 w'))
    (C1 : Hid (∀ w, Calls Tryd.prog 15 #[.string p, .string q] w fun e w' => e = .returned (.int .i64 (-1)) ∧ Below w.heap.size w w'))
    (C2 : Hid (∀ w, Calls Tryd.prog 15 #[.string s, .string t] w fun e w' => e = .returned (.int .i64 (0)) ∧ Below w.heap.size w w'))
    (C3 : Hid (∀ w, Calls Tryd.prog 15 #[.string t, .string s] w fun e w' => e = .returned (.int .i64 (0)) ∧ Below w.heap.size w w'))
    (P1 : Hid (∀ w, Calls Tryd.prog 13 #[.string s] w fun e w' => e = .returned (.string u) ∧ Below w.heap.size w w'))
    (P2 : Hid (∀ w, Calls Tryd.prog 13 #[.string t] w fun e w' => e = .returned (.string v) ∧ Below w.heap.size w w'))
    (C4 : Hid (∀ w, Calls Tryd.prog 15 #[.string t, .string p] w fun e w' => e = .returned (.int .i64 c3) ∧ Below w.heap.size w w'))
    (C5 : Hid (∀ w, Calls Tryd.prog 15 #[.string s, .string p] w fun e w' => e = .returned (.int .i64 c4) ∧ Below w.heap.size w w')) :
    Calls Tryd.prog 5 #[.agg #[.int .i64 x, .int .i64 y], .string s, .string t] w fun e w' => e = .returned (.bool true) ∧ Below w.heap.size w w' := by
  have f1 : ((x : Int) == y) = false := beq_eq_false_iff_ne.2 (by omega)
  have f2 : decide (x < y) = true := decide_eq_true hxy
  have HB0 := Lib.hid (Below.refl (w.heap.size + 1) (w.alloc (.cells #[.int .i64 x, .int .i64 y] 36)))
  obtain ⟨g0, g1⟩ := box2 HB0.out
  go_enter Tryd.func5, Tryd.ntmps5
  go_wp2_with fail
  go_region_held_law (fun W => W.cell? ⟨w.heap.size, 0, none⟩ = some (.int .i64 x) ∧ W.cell? ⟨w.heap.size, 1, none⟩ = some (.int .i64 y)) (first | go_keep | (exact ⟨by assumption, by assumption⟩))
    (first
      | (go_at_call 9; (with_reducible refine (D1.out _ (by first | exact HB0.out | exact HB0.out.drew | exact HB0.out.drew.drew)).mono ?_); rintro e w3 ⟨rfl, hb3⟩; have HB3 := Lib.hid (show Below (w.heap.size + 1) (w.alloc (.cells #[.int .i64 x, .int .i64 y] 36)) w3 from by first | exact below_drew1 HB0.out (by simp) hb3 | exact below_drew2 HB0.out (by simp) hb3 | exact below_then HB0.out (by simp) hb3); have hK3 : w.heap.size + 1 ≤ w3.heap.size := (by have := HB3.out.size; simpa using this); clear hb3; obtain ⟨k0, k1⟩ := box2 HB3.out)
      | (go_at_call 9; (with_reducible refine (D2.out _ (by first | exact HB3.out | exact HB3.out.drew | exact HB3.out.drew.drew)).mono ?_); rintro e w4 ⟨rfl, hb4⟩; have HB4 := Lib.hid (show Below (w.heap.size + 1) (w.alloc (.cells #[.int .i64 x, .int .i64 y] 36)) w4 from by first | exact below_then HB3.out hK3 hb4 | exact below_drew1 HB3.out hK3 hb4 | exact below_drew2 HB3.out hK3 hb4); have hK4 : w.heap.size + 1 ≤ w4.heap.size := Nat.le_trans hK3 hb4.size; clear hb4; obtain ⟨k2, k3⟩ := box2 HB4.out))
  go_wp2_with fail
  refine (C1.out _).mono ?_
  rintro e w5 ⟨rfl, hb5⟩
  have HB5 := Lib.hid (below_then HB4.out hK4 hb5)
  have hK5 : w.heap.size + 1 ≤ w5.heap.size := Nat.le_trans hK4 hb5.size
  clear hb5
  obtain ⟨k4, k5⟩ := box2 HB5.out
  go_wp2_with fail
  refine (C2.out _).mono ?_
  rintro e w6 ⟨rfl, hb6⟩
  have HB6 := Lib.hid (below_then HB5.out hK5 hb6)
  have hK6 : w.heap.size + 1 ≤ w6.heap.size := Nat.le_trans hK5 hb6.size
  clear hb6
  go_wp2_with fail
  refine (C3.out _).mono ?_
  rintro e w7 ⟨rfl, hb7⟩
  have HB7 := Lib.hid (below_then HB6.out hK6 hb7)
  have hK7 : w.heap.size + 1 ≤ w7.heap.size := Nat.le_trans hK6 hb7.size
  clear hb7
  go_wp2_with fail
  refine (P1.out _).mono ?_
  rintro e w8 ⟨rfl, hb8⟩
  have HB8 := Lib.hid (below_then HB7.out hK7 hb8)
  have hK8 : w.heap.size + 1 ≤ w8.heap.size := Nat.le_trans hK7 hb8.size
  clear hb8
  go_wp2_with fail
  refine (P2.out _).mono ?_
  rintro e w9 ⟨rfl, hb9⟩
  have HB9 := Lib.hid (below_then HB8.out hK8 hb9)
  have hK9 : w.heap.size + 1 ≤ w9.heap.size := Nat.le_trans hK8 hb9.size
  clear hb9
  go_wp2_with fail
  refine (C4.out _).mono ?_
  rintro e wa ⟨rfl, hba⟩
  have HBa := Lib.hid (below_then HB9.out hK9 hba)
  have hKa : w.heap.size + 1 ≤ wa.heap.size := Nat.le_trans hK9 hba.size
  clear hba
  go_wp2_with fail
  refine (C5.out _).mono ?_
  rintro e wb ⟨rfl, hbb⟩
  have HBb := Lib.hid (below_then HBa.out hKa hbb)
  clear hbb
  go_wp2_with fail
  go_ret
  exact ⟨rfl, below_box HBb.out⟩

set_option maxRecDepth 8000 in
set_option maxHeartbeats 1600000 in
theorem order_le0 (x y : Int) (s t p q u v : ByteArray) (c3 c4 : Int) (w : World) (hlen : (s.size : Int) + (t.size : Int) ≤ 600) (hxy : x < y) (h3 : 0 < c3) (h5 : (u.toList == v.toList) = true)
    (D1 : Hid (∀ w0, Below (w.heap.size + 1) (w.alloc (.cells #[.int .i64 x, .int .i64 y] 36)) w0 → Calls Tryd.prog 9 #[.int .i64 x] w0 fun e w' => e = .returned (.string p) ∧ Below w0.heap.size w0 w'))
    (D2 : Hid (∀ w0, Below (w.heap.size + 1) (w.alloc (.cells #[.int .i64 x, .int .i64 y] 36)) w0 → Calls Tryd.prog 9 #[.int .i64 y] w0 fun e w' => e = .returned (.string q) ∧ Below w0.heap.size w0 w'))
    (C1 : Hid (∀ w, Calls Tryd.prog 15 #[.string p, .string q] w fun e w' => e = .returned (.int .i64 (-1)) ∧ Below w.heap.size w w'))
    (C2 : Hid (∀ w, Calls Tryd.prog 15 #[.string s, .string t] w fun e w' => e = .returned (.int .i64 (0)) ∧ Below w.heap.size w w'))
    (C3 : Hid (∀ w, Calls Tryd.prog 15 #[.string t, .string s] w fun e w' => e = .returned (.int .i64 (0)) ∧ Below w.heap.size w w'))
    (P1 : Hid (∀ w, Calls Tryd.prog 13 #[.string s] w fun e w' => e = .returned (.string u) ∧ Below w.heap.size w w'))
    (P2 : Hid (∀ w, Calls Tryd.prog 13 #[.string t] w fun e w' => e = .returned (.string v) ∧ Below w.heap.size w w'))
    (C4 : Hid (∀ w, Calls Tryd.prog 15 #[.string t, .string p] w fun e w' => e = .returned (.int .i64 c3) ∧ Below w.heap.size w w'))
    (_C5 : Hid (∀ w, Calls Tryd.prog 15 #[.string s, .string p] w fun e w' => e = .returned (.int .i64 c4) ∧ Below w.heap.size w w')) :
    Calls Tryd.prog 5 #[.agg #[.int .i64 x, .int .i64 y], .string s, .string t] w fun e w' => e = .returned (.bool true) ∧ Below w.heap.size w w' := by
  have f1 : ((x : Int) == y) = false := beq_eq_false_iff_ne.2 (by omega)
  have f2 : decide (x < y) = true := decide_eq_true hxy
  have HB0 := Lib.hid (Below.refl (w.heap.size + 1) (w.alloc (.cells #[.int .i64 x, .int .i64 y] 36)))
  obtain ⟨g0, g1⟩ := box2 HB0.out
  go_enter Tryd.func5, Tryd.ntmps5
  go_wp2_with fail
  go_region_held_law (fun W => W.cell? ⟨w.heap.size, 0, none⟩ = some (.int .i64 x) ∧ W.cell? ⟨w.heap.size, 1, none⟩ = some (.int .i64 y)) (first | go_keep | (exact ⟨by assumption, by assumption⟩))
    (first
      | (go_at_call 9; (with_reducible refine (D1.out _ (by first | exact HB0.out | exact HB0.out.drew | exact HB0.out.drew.drew)).mono ?_); rintro e w3 ⟨rfl, hb3⟩; have HB3 := Lib.hid (show Below (w.heap.size + 1) (w.alloc (.cells #[.int .i64 x, .int .i64 y] 36)) w3 from by first | exact below_drew1 HB0.out (by simp) hb3 | exact below_drew2 HB0.out (by simp) hb3 | exact below_then HB0.out (by simp) hb3); have hK3 : w.heap.size + 1 ≤ w3.heap.size := (by have := HB3.out.size; simpa using this); clear hb3; obtain ⟨k0, k1⟩ := box2 HB3.out)
      | (go_at_call 9; (with_reducible refine (D2.out _ (by first | exact HB3.out | exact HB3.out.drew | exact HB3.out.drew.drew)).mono ?_); rintro e w4 ⟨rfl, hb4⟩; have HB4 := Lib.hid (show Below (w.heap.size + 1) (w.alloc (.cells #[.int .i64 x, .int .i64 y] 36)) w4 from by first | exact below_then HB3.out hK3 hb4 | exact below_drew1 HB3.out hK3 hb4 | exact below_drew2 HB3.out hK3 hb4); have hK4 : w.heap.size + 1 ≤ w4.heap.size := Nat.le_trans hK3 hb4.size; clear hb4; obtain ⟨k2, k3⟩ := box2 HB4.out))
  go_wp2_with fail
  refine (C1.out _).mono ?_
  rintro e w5 ⟨rfl, hb5⟩
  have HB5 := Lib.hid (below_then HB4.out hK4 hb5)
  have hK5 : w.heap.size + 1 ≤ w5.heap.size := Nat.le_trans hK4 hb5.size
  clear hb5
  obtain ⟨k4, k5⟩ := box2 HB5.out
  go_wp2_with fail
  refine (C2.out _).mono ?_
  rintro e w6 ⟨rfl, hb6⟩
  have HB6 := Lib.hid (below_then HB5.out hK5 hb6)
  have hK6 : w.heap.size + 1 ≤ w6.heap.size := Nat.le_trans hK5 hb6.size
  clear hb6
  go_wp2_with fail
  refine (C3.out _).mono ?_
  rintro e w7 ⟨rfl, hb7⟩
  have HB7 := Lib.hid (below_then HB6.out hK6 hb7)
  have hK7 : w.heap.size + 1 ≤ w7.heap.size := Nat.le_trans hK6 hb7.size
  clear hb7
  go_wp2_with fail
  refine (P1.out _).mono ?_
  rintro e w8 ⟨rfl, hb8⟩
  have HB8 := Lib.hid (below_then HB7.out hK7 hb8)
  have hK8 : w.heap.size + 1 ≤ w8.heap.size := Nat.le_trans hK7 hb8.size
  clear hb8
  go_wp2_with fail
  refine (P2.out _).mono ?_
  rintro e w9 ⟨rfl, hb9⟩
  have HB9 := Lib.hid (below_then HB8.out hK8 hb9)
  have hK9 : w.heap.size + 1 ≤ w9.heap.size := Nat.le_trans hK8 hb9.size
  clear hb9
  go_wp2_with fail
  refine (C4.out _).mono ?_
  rintro e wa ⟨rfl, hba⟩
  have HBa := Lib.hid (below_then HB9.out hK9 hba)
  have hKa : w.heap.size + 1 ≤ wa.heap.size := Nat.le_trans hK9 hba.size
  clear hba
  go_wp2_with fail
  go_ret
  exact ⟨rfl, below_box HBa.out⟩

set_option maxRecDepth 8000 in
set_option maxHeartbeats 1600000 in
theorem order_lg (x y : Int) (s t p q u v : ByteArray) (c3 c4 : Int) (w : World) (hlen : (s.size : Int) + (t.size : Int) ≤ 600) (hxy : x < y) (h5 : (u.toList == v.toList) = false)
    (D1 : Hid (∀ w0, Below (w.heap.size + 1) (w.alloc (.cells #[.int .i64 x, .int .i64 y] 36)) w0 → Calls Tryd.prog 9 #[.int .i64 x] w0 fun e w' => e = .returned (.string p) ∧ Below w0.heap.size w0 w'))
    (D2 : Hid (∀ w0, Below (w.heap.size + 1) (w.alloc (.cells #[.int .i64 x, .int .i64 y] 36)) w0 → Calls Tryd.prog 9 #[.int .i64 y] w0 fun e w' => e = .returned (.string q) ∧ Below w0.heap.size w0 w'))
    (C1 : Hid (∀ w, Calls Tryd.prog 15 #[.string p, .string q] w fun e w' => e = .returned (.int .i64 (-1)) ∧ Below w.heap.size w w'))
    (C2 : Hid (∀ w, Calls Tryd.prog 15 #[.string s, .string t] w fun e w' => e = .returned (.int .i64 (1)) ∧ Below w.heap.size w w'))
    (C3 : Hid (∀ w, Calls Tryd.prog 15 #[.string t, .string s] w fun e w' => e = .returned (.int .i64 (-1)) ∧ Below w.heap.size w w'))
    (P1 : Hid (∀ w, Calls Tryd.prog 13 #[.string s] w fun e w' => e = .returned (.string u) ∧ Below w.heap.size w w'))
    (P2 : Hid (∀ w, Calls Tryd.prog 13 #[.string t] w fun e w' => e = .returned (.string v) ∧ Below w.heap.size w w'))
    (_C4 : Hid (∀ w, Calls Tryd.prog 15 #[.string t, .string p] w fun e w' => e = .returned (.int .i64 c3) ∧ Below w.heap.size w w'))
    (_C5 : Hid (∀ w, Calls Tryd.prog 15 #[.string s, .string p] w fun e w' => e = .returned (.int .i64 c4) ∧ Below w.heap.size w w')) :
    Calls Tryd.prog 5 #[.agg #[.int .i64 x, .int .i64 y], .string s, .string t] w fun e w' => e = .returned (.bool true) ∧ Below w.heap.size w w' := by
  have f1 : ((x : Int) == y) = false := beq_eq_false_iff_ne.2 (by omega)
  have f2 : decide (x < y) = true := decide_eq_true hxy
  have HB0 := Lib.hid (Below.refl (w.heap.size + 1) (w.alloc (.cells #[.int .i64 x, .int .i64 y] 36)))
  obtain ⟨g0, g1⟩ := box2 HB0.out
  go_enter Tryd.func5, Tryd.ntmps5
  go_wp2_with fail
  go_region_held_law (fun W => W.cell? ⟨w.heap.size, 0, none⟩ = some (.int .i64 x) ∧ W.cell? ⟨w.heap.size, 1, none⟩ = some (.int .i64 y)) (first | go_keep | (exact ⟨by assumption, by assumption⟩))
    (first
      | (go_at_call 9; (with_reducible refine (D1.out _ (by first | exact HB0.out | exact HB0.out.drew | exact HB0.out.drew.drew)).mono ?_); rintro e w3 ⟨rfl, hb3⟩; have HB3 := Lib.hid (show Below (w.heap.size + 1) (w.alloc (.cells #[.int .i64 x, .int .i64 y] 36)) w3 from by first | exact below_drew1 HB0.out (by simp) hb3 | exact below_drew2 HB0.out (by simp) hb3 | exact below_then HB0.out (by simp) hb3); have hK3 : w.heap.size + 1 ≤ w3.heap.size := (by have := HB3.out.size; simpa using this); clear hb3; obtain ⟨k0, k1⟩ := box2 HB3.out)
      | (go_at_call 9; (with_reducible refine (D2.out _ (by first | exact HB3.out | exact HB3.out.drew | exact HB3.out.drew.drew)).mono ?_); rintro e w4 ⟨rfl, hb4⟩; have HB4 := Lib.hid (show Below (w.heap.size + 1) (w.alloc (.cells #[.int .i64 x, .int .i64 y] 36)) w4 from by first | exact below_then HB3.out hK3 hb4 | exact below_drew1 HB3.out hK3 hb4 | exact below_drew2 HB3.out hK3 hb4); have hK4 : w.heap.size + 1 ≤ w4.heap.size := Nat.le_trans hK3 hb4.size; clear hb4; obtain ⟨k2, k3⟩ := box2 HB4.out))
  go_wp2_with fail
  refine (C1.out _).mono ?_
  rintro e w5 ⟨rfl, hb5⟩
  have HB5 := Lib.hid (below_then HB4.out hK4 hb5)
  have hK5 : w.heap.size + 1 ≤ w5.heap.size := Nat.le_trans hK4 hb5.size
  clear hb5
  obtain ⟨k4, k5⟩ := box2 HB5.out
  go_wp2_with fail
  refine (C2.out _).mono ?_
  rintro e w6 ⟨rfl, hb6⟩
  have HB6 := Lib.hid (below_then HB5.out hK5 hb6)
  have hK6 : w.heap.size + 1 ≤ w6.heap.size := Nat.le_trans hK5 hb6.size
  clear hb6
  go_wp2_with fail
  refine (C3.out _).mono ?_
  rintro e w7 ⟨rfl, hb7⟩
  have HB7 := Lib.hid (below_then HB6.out hK6 hb7)
  have hK7 : w.heap.size + 1 ≤ w7.heap.size := Nat.le_trans hK6 hb7.size
  clear hb7
  go_wp2_with fail
  refine (P1.out _).mono ?_
  rintro e w8 ⟨rfl, hb8⟩
  have HB8 := Lib.hid (below_then HB7.out hK7 hb8)
  have hK8 : w.heap.size + 1 ≤ w8.heap.size := Nat.le_trans hK7 hb8.size
  clear hb8
  go_wp2_with fail
  refine (P2.out _).mono ?_
  rintro e w9 ⟨rfl, hb9⟩
  have HB9 := Lib.hid (below_then HB8.out hK8 hb9)
  have hK9 : w.heap.size + 1 ≤ w9.heap.size := Nat.le_trans hK8 hb9.size
  clear hb9
  go_wp2_with fail
  go_ret
  exact ⟨rfl, below_box HB9.out⟩

set_option maxRecDepth 8000 in
set_option maxHeartbeats 1600000 in
theorem order_el1 (x y : Int) (s t p q u v : ByteArray) (c3 c4 : Int) (w : World) (hlen : (s.size : Int) + (t.size : Int) ≤ 600) (hxy : x = y) (h3 : c3 ≤ 0) (h4 : c4 ≤ 0) (h5 : (u.toList == v.toList) = false)
    (D1 : Hid (∀ w0, Below (w.heap.size + 1) (w.alloc (.cells #[.int .i64 x, .int .i64 y] 36)) w0 → Calls Tryd.prog 9 #[.int .i64 x] w0 fun e w' => e = .returned (.string p) ∧ Below w0.heap.size w0 w'))
    (D2 : Hid (∀ w0, Below (w.heap.size + 1) (w.alloc (.cells #[.int .i64 x, .int .i64 y] 36)) w0 → Calls Tryd.prog 9 #[.int .i64 y] w0 fun e w' => e = .returned (.string q) ∧ Below w0.heap.size w0 w'))
    (C1 : Hid (∀ w, Calls Tryd.prog 15 #[.string p, .string q] w fun e w' => e = .returned (.int .i64 (0)) ∧ Below w.heap.size w w'))
    (C2 : Hid (∀ w, Calls Tryd.prog 15 #[.string s, .string t] w fun e w' => e = .returned (.int .i64 (-1)) ∧ Below w.heap.size w w'))
    (C3 : Hid (∀ w, Calls Tryd.prog 15 #[.string t, .string s] w fun e w' => e = .returned (.int .i64 (1)) ∧ Below w.heap.size w w'))
    (P1 : Hid (∀ w, Calls Tryd.prog 13 #[.string s] w fun e w' => e = .returned (.string u) ∧ Below w.heap.size w w'))
    (P2 : Hid (∀ w, Calls Tryd.prog 13 #[.string t] w fun e w' => e = .returned (.string v) ∧ Below w.heap.size w w'))
    (C4 : Hid (∀ w, Calls Tryd.prog 15 #[.string t, .string p] w fun e w' => e = .returned (.int .i64 c3) ∧ Below w.heap.size w w'))
    (C5 : Hid (∀ w, Calls Tryd.prog 15 #[.string s, .string p] w fun e w' => e = .returned (.int .i64 c4) ∧ Below w.heap.size w w')) :
    Calls Tryd.prog 5 #[.agg #[.int .i64 x, .int .i64 y], .string s, .string t] w fun e w' => e = .returned (.bool true) ∧ Below w.heap.size w w' := by
  subst hxy
  have f1 := num_true x
  have f2 : decide (x < x) = false := decide_eq_false (by omega)
  have HB0 := Lib.hid (Below.refl (w.heap.size + 1) (w.alloc (.cells #[.int .i64 x, .int .i64 x] 36)))
  obtain ⟨g0, g1⟩ := box2 HB0.out
  go_enter Tryd.func5, Tryd.ntmps5
  go_wp2_with fail
  go_region_held_law (fun W => W.cell? ⟨w.heap.size, 0, none⟩ = some (.int .i64 x) ∧ W.cell? ⟨w.heap.size, 1, none⟩ = some (.int .i64 x)) (first | go_keep | (exact ⟨by assumption, by assumption⟩))
    (first
      | (go_at_call 9; (with_reducible refine (D1.out _ (by first | exact HB0.out | exact HB0.out.drew | exact HB0.out.drew.drew)).mono ?_); rintro e w3 ⟨rfl, hb3⟩; have HB3 := Lib.hid (show Below (w.heap.size + 1) (w.alloc (.cells #[.int .i64 x, .int .i64 x] 36)) w3 from by first | exact below_drew1 HB0.out (by simp) hb3 | exact below_drew2 HB0.out (by simp) hb3 | exact below_then HB0.out (by simp) hb3); have hK3 : w.heap.size + 1 ≤ w3.heap.size := (by have := HB3.out.size; simpa using this); clear hb3; obtain ⟨k0, k1⟩ := box2 HB3.out)
      | (go_at_call 9; (with_reducible refine (D2.out _ (by first | exact HB3.out | exact HB3.out.drew | exact HB3.out.drew.drew)).mono ?_); rintro e w4 ⟨rfl, hb4⟩; have HB4 := Lib.hid (show Below (w.heap.size + 1) (w.alloc (.cells #[.int .i64 x, .int .i64 x] 36)) w4 from by first | exact below_then HB3.out hK3 hb4 | exact below_drew1 HB3.out hK3 hb4 | exact below_drew2 HB3.out hK3 hb4); have hK4 : w.heap.size + 1 ≤ w4.heap.size := Nat.le_trans hK3 hb4.size; clear hb4; obtain ⟨k2, k3⟩ := box2 HB4.out))
  go_wp2_with fail
  refine (C1.out _).mono ?_
  rintro e w5 ⟨rfl, hb5⟩
  have HB5 := Lib.hid (below_then HB4.out hK4 hb5)
  have hK5 : w.heap.size + 1 ≤ w5.heap.size := Nat.le_trans hK4 hb5.size
  clear hb5
  obtain ⟨k4, k5⟩ := box2 HB5.out
  go_wp2_with fail
  refine (C2.out _).mono ?_
  rintro e w6 ⟨rfl, hb6⟩
  have HB6 := Lib.hid (below_then HB5.out hK5 hb6)
  have hK6 : w.heap.size + 1 ≤ w6.heap.size := Nat.le_trans hK5 hb6.size
  clear hb6
  go_wp2_with fail
  refine (C3.out _).mono ?_
  rintro e w7 ⟨rfl, hb7⟩
  have HB7 := Lib.hid (below_then HB6.out hK6 hb7)
  have hK7 : w.heap.size + 1 ≤ w7.heap.size := Nat.le_trans hK6 hb7.size
  clear hb7
  go_wp2_with fail
  refine (P1.out _).mono ?_
  rintro e w8 ⟨rfl, hb8⟩
  have HB8 := Lib.hid (below_then HB7.out hK7 hb8)
  have hK8 : w.heap.size + 1 ≤ w8.heap.size := Nat.le_trans hK7 hb8.size
  clear hb8
  go_wp2_with fail
  refine (P2.out _).mono ?_
  rintro e w9 ⟨rfl, hb9⟩
  have HB9 := Lib.hid (below_then HB8.out hK8 hb9)
  have hK9 : w.heap.size + 1 ≤ w9.heap.size := Nat.le_trans hK8 hb9.size
  clear hb9
  go_wp2_with fail
  refine (C4.out _).mono ?_
  rintro e wa ⟨rfl, hba⟩
  have HBa := Lib.hid (below_then HB9.out hK9 hba)
  have hKa : w.heap.size + 1 ≤ wa.heap.size := Nat.le_trans hK9 hba.size
  clear hba
  go_wp2_with fail
  refine (C5.out _).mono ?_
  rintro e wb ⟨rfl, hbb⟩
  have HBb := Lib.hid (below_then HBa.out hKa hbb)
  clear hbb
  go_wp2_with fail
  go_ret
  exact ⟨rfl, below_box HBb.out⟩

set_option maxRecDepth 8000 in
set_option maxHeartbeats 1600000 in
theorem order_el0 (x y : Int) (s t p q u v : ByteArray) (c3 c4 : Int) (w : World) (hlen : (s.size : Int) + (t.size : Int) ≤ 600) (hxy : x = y) (h3 : 0 < c3) (h5 : (u.toList == v.toList) = false)
    (D1 : Hid (∀ w0, Below (w.heap.size + 1) (w.alloc (.cells #[.int .i64 x, .int .i64 y] 36)) w0 → Calls Tryd.prog 9 #[.int .i64 x] w0 fun e w' => e = .returned (.string p) ∧ Below w0.heap.size w0 w'))
    (D2 : Hid (∀ w0, Below (w.heap.size + 1) (w.alloc (.cells #[.int .i64 x, .int .i64 y] 36)) w0 → Calls Tryd.prog 9 #[.int .i64 y] w0 fun e w' => e = .returned (.string q) ∧ Below w0.heap.size w0 w'))
    (C1 : Hid (∀ w, Calls Tryd.prog 15 #[.string p, .string q] w fun e w' => e = .returned (.int .i64 (0)) ∧ Below w.heap.size w w'))
    (C2 : Hid (∀ w, Calls Tryd.prog 15 #[.string s, .string t] w fun e w' => e = .returned (.int .i64 (-1)) ∧ Below w.heap.size w w'))
    (C3 : Hid (∀ w, Calls Tryd.prog 15 #[.string t, .string s] w fun e w' => e = .returned (.int .i64 (1)) ∧ Below w.heap.size w w'))
    (P1 : Hid (∀ w, Calls Tryd.prog 13 #[.string s] w fun e w' => e = .returned (.string u) ∧ Below w.heap.size w w'))
    (P2 : Hid (∀ w, Calls Tryd.prog 13 #[.string t] w fun e w' => e = .returned (.string v) ∧ Below w.heap.size w w'))
    (C4 : Hid (∀ w, Calls Tryd.prog 15 #[.string t, .string p] w fun e w' => e = .returned (.int .i64 c3) ∧ Below w.heap.size w w'))
    (_C5 : Hid (∀ w, Calls Tryd.prog 15 #[.string s, .string p] w fun e w' => e = .returned (.int .i64 c4) ∧ Below w.heap.size w w')) :
    Calls Tryd.prog 5 #[.agg #[.int .i64 x, .int .i64 y], .string s, .string t] w fun e w' => e = .returned (.bool true) ∧ Below w.heap.size w w' := by
  subst hxy
  have f1 := num_true x
  have f2 : decide (x < x) = false := decide_eq_false (by omega)
  have HB0 := Lib.hid (Below.refl (w.heap.size + 1) (w.alloc (.cells #[.int .i64 x, .int .i64 x] 36)))
  obtain ⟨g0, g1⟩ := box2 HB0.out
  go_enter Tryd.func5, Tryd.ntmps5
  go_wp2_with fail
  go_region_held_law (fun W => W.cell? ⟨w.heap.size, 0, none⟩ = some (.int .i64 x) ∧ W.cell? ⟨w.heap.size, 1, none⟩ = some (.int .i64 x)) (first | go_keep | (exact ⟨by assumption, by assumption⟩))
    (first
      | (go_at_call 9; (with_reducible refine (D1.out _ (by first | exact HB0.out | exact HB0.out.drew | exact HB0.out.drew.drew)).mono ?_); rintro e w3 ⟨rfl, hb3⟩; have HB3 := Lib.hid (show Below (w.heap.size + 1) (w.alloc (.cells #[.int .i64 x, .int .i64 x] 36)) w3 from by first | exact below_drew1 HB0.out (by simp) hb3 | exact below_drew2 HB0.out (by simp) hb3 | exact below_then HB0.out (by simp) hb3); have hK3 : w.heap.size + 1 ≤ w3.heap.size := (by have := HB3.out.size; simpa using this); clear hb3; obtain ⟨k0, k1⟩ := box2 HB3.out)
      | (go_at_call 9; (with_reducible refine (D2.out _ (by first | exact HB3.out | exact HB3.out.drew | exact HB3.out.drew.drew)).mono ?_); rintro e w4 ⟨rfl, hb4⟩; have HB4 := Lib.hid (show Below (w.heap.size + 1) (w.alloc (.cells #[.int .i64 x, .int .i64 x] 36)) w4 from by first | exact below_then HB3.out hK3 hb4 | exact below_drew1 HB3.out hK3 hb4 | exact below_drew2 HB3.out hK3 hb4); have hK4 : w.heap.size + 1 ≤ w4.heap.size := Nat.le_trans hK3 hb4.size; clear hb4; obtain ⟨k2, k3⟩ := box2 HB4.out))
  go_wp2_with fail
  refine (C1.out _).mono ?_
  rintro e w5 ⟨rfl, hb5⟩
  have HB5 := Lib.hid (below_then HB4.out hK4 hb5)
  have hK5 : w.heap.size + 1 ≤ w5.heap.size := Nat.le_trans hK4 hb5.size
  clear hb5
  obtain ⟨k4, k5⟩ := box2 HB5.out
  go_wp2_with fail
  refine (C2.out _).mono ?_
  rintro e w6 ⟨rfl, hb6⟩
  have HB6 := Lib.hid (below_then HB5.out hK5 hb6)
  have hK6 : w.heap.size + 1 ≤ w6.heap.size := Nat.le_trans hK5 hb6.size
  clear hb6
  go_wp2_with fail
  refine (C3.out _).mono ?_
  rintro e w7 ⟨rfl, hb7⟩
  have HB7 := Lib.hid (below_then HB6.out hK6 hb7)
  have hK7 : w.heap.size + 1 ≤ w7.heap.size := Nat.le_trans hK6 hb7.size
  clear hb7
  go_wp2_with fail
  refine (P1.out _).mono ?_
  rintro e w8 ⟨rfl, hb8⟩
  have HB8 := Lib.hid (below_then HB7.out hK7 hb8)
  have hK8 : w.heap.size + 1 ≤ w8.heap.size := Nat.le_trans hK7 hb8.size
  clear hb8
  go_wp2_with fail
  refine (P2.out _).mono ?_
  rintro e w9 ⟨rfl, hb9⟩
  have HB9 := Lib.hid (below_then HB8.out hK8 hb9)
  have hK9 : w.heap.size + 1 ≤ w9.heap.size := Nat.le_trans hK8 hb9.size
  clear hb9
  go_wp2_with fail
  refine (C4.out _).mono ?_
  rintro e wa ⟨rfl, hba⟩
  have HBa := Lib.hid (below_then HB9.out hK9 hba)
  have hKa : w.heap.size + 1 ≤ wa.heap.size := Nat.le_trans hK9 hba.size
  clear hba
  go_wp2_with fail
  go_ret
  exact ⟨rfl, below_box HBa.out⟩

set_option maxRecDepth 8000 in
set_option maxHeartbeats 1600000 in
theorem order_ee1 (x y : Int) (s t p q u v : ByteArray) (c3 c4 : Int) (w : World) (hlen : (s.size : Int) + (t.size : Int) ≤ 600) (hxy : x = y) (h3 : c3 ≤ 0) (h4 : c4 ≤ 0) (h5 : (u.toList == v.toList) = true)
    (D1 : Hid (∀ w0, Below (w.heap.size + 1) (w.alloc (.cells #[.int .i64 x, .int .i64 y] 36)) w0 → Calls Tryd.prog 9 #[.int .i64 x] w0 fun e w' => e = .returned (.string p) ∧ Below w0.heap.size w0 w'))
    (D2 : Hid (∀ w0, Below (w.heap.size + 1) (w.alloc (.cells #[.int .i64 x, .int .i64 y] 36)) w0 → Calls Tryd.prog 9 #[.int .i64 y] w0 fun e w' => e = .returned (.string q) ∧ Below w0.heap.size w0 w'))
    (C1 : Hid (∀ w, Calls Tryd.prog 15 #[.string p, .string q] w fun e w' => e = .returned (.int .i64 (0)) ∧ Below w.heap.size w w'))
    (C2 : Hid (∀ w, Calls Tryd.prog 15 #[.string s, .string t] w fun e w' => e = .returned (.int .i64 (0)) ∧ Below w.heap.size w w'))
    (C3 : Hid (∀ w, Calls Tryd.prog 15 #[.string t, .string s] w fun e w' => e = .returned (.int .i64 (0)) ∧ Below w.heap.size w w'))
    (P1 : Hid (∀ w, Calls Tryd.prog 13 #[.string s] w fun e w' => e = .returned (.string u) ∧ Below w.heap.size w w'))
    (P2 : Hid (∀ w, Calls Tryd.prog 13 #[.string t] w fun e w' => e = .returned (.string v) ∧ Below w.heap.size w w'))
    (C4 : Hid (∀ w, Calls Tryd.prog 15 #[.string t, .string p] w fun e w' => e = .returned (.int .i64 c3) ∧ Below w.heap.size w w'))
    (C5 : Hid (∀ w, Calls Tryd.prog 15 #[.string s, .string p] w fun e w' => e = .returned (.int .i64 c4) ∧ Below w.heap.size w w')) :
    Calls Tryd.prog 5 #[.agg #[.int .i64 x, .int .i64 y], .string s, .string t] w fun e w' => e = .returned (.bool true) ∧ Below w.heap.size w w' := by
  subst hxy
  have f1 := num_true x
  have f2 : decide (x < x) = false := decide_eq_false (by omega)
  have HB0 := Lib.hid (Below.refl (w.heap.size + 1) (w.alloc (.cells #[.int .i64 x, .int .i64 x] 36)))
  obtain ⟨g0, g1⟩ := box2 HB0.out
  go_enter Tryd.func5, Tryd.ntmps5
  go_wp2_with fail
  go_region_held_law (fun W => W.cell? ⟨w.heap.size, 0, none⟩ = some (.int .i64 x) ∧ W.cell? ⟨w.heap.size, 1, none⟩ = some (.int .i64 x)) (first | go_keep | (exact ⟨by assumption, by assumption⟩))
    (first
      | (go_at_call 9; (with_reducible refine (D1.out _ (by first | exact HB0.out | exact HB0.out.drew | exact HB0.out.drew.drew)).mono ?_); rintro e w3 ⟨rfl, hb3⟩; have HB3 := Lib.hid (show Below (w.heap.size + 1) (w.alloc (.cells #[.int .i64 x, .int .i64 x] 36)) w3 from by first | exact below_drew1 HB0.out (by simp) hb3 | exact below_drew2 HB0.out (by simp) hb3 | exact below_then HB0.out (by simp) hb3); have hK3 : w.heap.size + 1 ≤ w3.heap.size := (by have := HB3.out.size; simpa using this); clear hb3; obtain ⟨k0, k1⟩ := box2 HB3.out)
      | (go_at_call 9; (with_reducible refine (D2.out _ (by first | exact HB3.out | exact HB3.out.drew | exact HB3.out.drew.drew)).mono ?_); rintro e w4 ⟨rfl, hb4⟩; have HB4 := Lib.hid (show Below (w.heap.size + 1) (w.alloc (.cells #[.int .i64 x, .int .i64 x] 36)) w4 from by first | exact below_then HB3.out hK3 hb4 | exact below_drew1 HB3.out hK3 hb4 | exact below_drew2 HB3.out hK3 hb4); have hK4 : w.heap.size + 1 ≤ w4.heap.size := Nat.le_trans hK3 hb4.size; clear hb4; obtain ⟨k2, k3⟩ := box2 HB4.out))
  go_wp2_with fail
  refine (C1.out _).mono ?_
  rintro e w5 ⟨rfl, hb5⟩
  have HB5 := Lib.hid (below_then HB4.out hK4 hb5)
  have hK5 : w.heap.size + 1 ≤ w5.heap.size := Nat.le_trans hK4 hb5.size
  clear hb5
  obtain ⟨k4, k5⟩ := box2 HB5.out
  go_wp2_with fail
  refine (C2.out _).mono ?_
  rintro e w6 ⟨rfl, hb6⟩
  have HB6 := Lib.hid (below_then HB5.out hK5 hb6)
  have hK6 : w.heap.size + 1 ≤ w6.heap.size := Nat.le_trans hK5 hb6.size
  clear hb6
  go_wp2_with fail
  refine (C3.out _).mono ?_
  rintro e w7 ⟨rfl, hb7⟩
  have HB7 := Lib.hid (below_then HB6.out hK6 hb7)
  have hK7 : w.heap.size + 1 ≤ w7.heap.size := Nat.le_trans hK6 hb7.size
  clear hb7
  go_wp2_with fail
  refine (P1.out _).mono ?_
  rintro e w8 ⟨rfl, hb8⟩
  have HB8 := Lib.hid (below_then HB7.out hK7 hb8)
  have hK8 : w.heap.size + 1 ≤ w8.heap.size := Nat.le_trans hK7 hb8.size
  clear hb8
  go_wp2_with fail
  refine (P2.out _).mono ?_
  rintro e w9 ⟨rfl, hb9⟩
  have HB9 := Lib.hid (below_then HB8.out hK8 hb9)
  have hK9 : w.heap.size + 1 ≤ w9.heap.size := Nat.le_trans hK8 hb9.size
  clear hb9
  go_wp2_with fail
  refine (C4.out _).mono ?_
  rintro e wa ⟨rfl, hba⟩
  have HBa := Lib.hid (below_then HB9.out hK9 hba)
  have hKa : w.heap.size + 1 ≤ wa.heap.size := Nat.le_trans hK9 hba.size
  clear hba
  go_wp2_with fail
  refine (C5.out _).mono ?_
  rintro e wb ⟨rfl, hbb⟩
  have HBb := Lib.hid (below_then HBa.out hKa hbb)
  clear hbb
  go_wp2_with fail
  go_ret
  exact ⟨rfl, below_box HBb.out⟩

set_option maxRecDepth 8000 in
set_option maxHeartbeats 1600000 in
theorem order_ee0 (x y : Int) (s t p q u v : ByteArray) (c3 c4 : Int) (w : World) (hlen : (s.size : Int) + (t.size : Int) ≤ 600) (hxy : x = y) (h3 : 0 < c3) (h5 : (u.toList == v.toList) = true)
    (D1 : Hid (∀ w0, Below (w.heap.size + 1) (w.alloc (.cells #[.int .i64 x, .int .i64 y] 36)) w0 → Calls Tryd.prog 9 #[.int .i64 x] w0 fun e w' => e = .returned (.string p) ∧ Below w0.heap.size w0 w'))
    (D2 : Hid (∀ w0, Below (w.heap.size + 1) (w.alloc (.cells #[.int .i64 x, .int .i64 y] 36)) w0 → Calls Tryd.prog 9 #[.int .i64 y] w0 fun e w' => e = .returned (.string q) ∧ Below w0.heap.size w0 w'))
    (C1 : Hid (∀ w, Calls Tryd.prog 15 #[.string p, .string q] w fun e w' => e = .returned (.int .i64 (0)) ∧ Below w.heap.size w w'))
    (C2 : Hid (∀ w, Calls Tryd.prog 15 #[.string s, .string t] w fun e w' => e = .returned (.int .i64 (0)) ∧ Below w.heap.size w w'))
    (C3 : Hid (∀ w, Calls Tryd.prog 15 #[.string t, .string s] w fun e w' => e = .returned (.int .i64 (0)) ∧ Below w.heap.size w w'))
    (P1 : Hid (∀ w, Calls Tryd.prog 13 #[.string s] w fun e w' => e = .returned (.string u) ∧ Below w.heap.size w w'))
    (P2 : Hid (∀ w, Calls Tryd.prog 13 #[.string t] w fun e w' => e = .returned (.string v) ∧ Below w.heap.size w w'))
    (C4 : Hid (∀ w, Calls Tryd.prog 15 #[.string t, .string p] w fun e w' => e = .returned (.int .i64 c3) ∧ Below w.heap.size w w'))
    (_C5 : Hid (∀ w, Calls Tryd.prog 15 #[.string s, .string p] w fun e w' => e = .returned (.int .i64 c4) ∧ Below w.heap.size w w')) :
    Calls Tryd.prog 5 #[.agg #[.int .i64 x, .int .i64 y], .string s, .string t] w fun e w' => e = .returned (.bool true) ∧ Below w.heap.size w w' := by
  subst hxy
  have f1 := num_true x
  have f2 : decide (x < x) = false := decide_eq_false (by omega)
  have HB0 := Lib.hid (Below.refl (w.heap.size + 1) (w.alloc (.cells #[.int .i64 x, .int .i64 x] 36)))
  obtain ⟨g0, g1⟩ := box2 HB0.out
  go_enter Tryd.func5, Tryd.ntmps5
  go_wp2_with fail
  go_region_held_law (fun W => W.cell? ⟨w.heap.size, 0, none⟩ = some (.int .i64 x) ∧ W.cell? ⟨w.heap.size, 1, none⟩ = some (.int .i64 x)) (first | go_keep | (exact ⟨by assumption, by assumption⟩))
    (first
      | (go_at_call 9; (with_reducible refine (D1.out _ (by first | exact HB0.out | exact HB0.out.drew | exact HB0.out.drew.drew)).mono ?_); rintro e w3 ⟨rfl, hb3⟩; have HB3 := Lib.hid (show Below (w.heap.size + 1) (w.alloc (.cells #[.int .i64 x, .int .i64 x] 36)) w3 from by first | exact below_drew1 HB0.out (by simp) hb3 | exact below_drew2 HB0.out (by simp) hb3 | exact below_then HB0.out (by simp) hb3); have hK3 : w.heap.size + 1 ≤ w3.heap.size := (by have := HB3.out.size; simpa using this); clear hb3; obtain ⟨k0, k1⟩ := box2 HB3.out)
      | (go_at_call 9; (with_reducible refine (D2.out _ (by first | exact HB3.out | exact HB3.out.drew | exact HB3.out.drew.drew)).mono ?_); rintro e w4 ⟨rfl, hb4⟩; have HB4 := Lib.hid (show Below (w.heap.size + 1) (w.alloc (.cells #[.int .i64 x, .int .i64 x] 36)) w4 from by first | exact below_then HB3.out hK3 hb4 | exact below_drew1 HB3.out hK3 hb4 | exact below_drew2 HB3.out hK3 hb4); have hK4 : w.heap.size + 1 ≤ w4.heap.size := Nat.le_trans hK3 hb4.size; clear hb4; obtain ⟨k2, k3⟩ := box2 HB4.out))
  go_wp2_with fail
  refine (C1.out _).mono ?_
  rintro e w5 ⟨rfl, hb5⟩
  have HB5 := Lib.hid (below_then HB4.out hK4 hb5)
  have hK5 : w.heap.size + 1 ≤ w5.heap.size := Nat.le_trans hK4 hb5.size
  clear hb5
  obtain ⟨k4, k5⟩ := box2 HB5.out
  go_wp2_with fail
  refine (C2.out _).mono ?_
  rintro e w6 ⟨rfl, hb6⟩
  have HB6 := Lib.hid (below_then HB5.out hK5 hb6)
  have hK6 : w.heap.size + 1 ≤ w6.heap.size := Nat.le_trans hK5 hb6.size
  clear hb6
  go_wp2_with fail
  refine (C3.out _).mono ?_
  rintro e w7 ⟨rfl, hb7⟩
  have HB7 := Lib.hid (below_then HB6.out hK6 hb7)
  have hK7 : w.heap.size + 1 ≤ w7.heap.size := Nat.le_trans hK6 hb7.size
  clear hb7
  go_wp2_with fail
  refine (P1.out _).mono ?_
  rintro e w8 ⟨rfl, hb8⟩
  have HB8 := Lib.hid (below_then HB7.out hK7 hb8)
  have hK8 : w.heap.size + 1 ≤ w8.heap.size := Nat.le_trans hK7 hb8.size
  clear hb8
  go_wp2_with fail
  refine (P2.out _).mono ?_
  rintro e w9 ⟨rfl, hb9⟩
  have HB9 := Lib.hid (below_then HB8.out hK8 hb9)
  have hK9 : w.heap.size + 1 ≤ w9.heap.size := Nat.le_trans hK8 hb9.size
  clear hb9
  go_wp2_with fail
  refine (C4.out _).mono ?_
  rintro e wa ⟨rfl, hba⟩
  have HBa := Lib.hid (below_then HB9.out hK9 hba)
  have hKa : w.heap.size + 1 ≤ wa.heap.size := Nat.le_trans hK9 hba.size
  clear hba
  go_wp2_with fail
  go_ret
  exact ⟨rfl, below_box HBa.out⟩

set_option maxRecDepth 8000 in
set_option maxHeartbeats 1600000 in
theorem order_eg (x y : Int) (s t p q u v : ByteArray) (c3 c4 : Int) (w : World) (hlen : (s.size : Int) + (t.size : Int) ≤ 600) (hxy : x = y) (h5 : (u.toList == v.toList) = false)
    (D1 : Hid (∀ w0, Below (w.heap.size + 1) (w.alloc (.cells #[.int .i64 x, .int .i64 y] 36)) w0 → Calls Tryd.prog 9 #[.int .i64 x] w0 fun e w' => e = .returned (.string p) ∧ Below w0.heap.size w0 w'))
    (D2 : Hid (∀ w0, Below (w.heap.size + 1) (w.alloc (.cells #[.int .i64 x, .int .i64 y] 36)) w0 → Calls Tryd.prog 9 #[.int .i64 y] w0 fun e w' => e = .returned (.string q) ∧ Below w0.heap.size w0 w'))
    (C1 : Hid (∀ w, Calls Tryd.prog 15 #[.string p, .string q] w fun e w' => e = .returned (.int .i64 (0)) ∧ Below w.heap.size w w'))
    (C2 : Hid (∀ w, Calls Tryd.prog 15 #[.string s, .string t] w fun e w' => e = .returned (.int .i64 (1)) ∧ Below w.heap.size w w'))
    (C3 : Hid (∀ w, Calls Tryd.prog 15 #[.string t, .string s] w fun e w' => e = .returned (.int .i64 (-1)) ∧ Below w.heap.size w w'))
    (P1 : Hid (∀ w, Calls Tryd.prog 13 #[.string s] w fun e w' => e = .returned (.string u) ∧ Below w.heap.size w w'))
    (P2 : Hid (∀ w, Calls Tryd.prog 13 #[.string t] w fun e w' => e = .returned (.string v) ∧ Below w.heap.size w w'))
    (_C4 : Hid (∀ w, Calls Tryd.prog 15 #[.string t, .string p] w fun e w' => e = .returned (.int .i64 c3) ∧ Below w.heap.size w w'))
    (_C5 : Hid (∀ w, Calls Tryd.prog 15 #[.string s, .string p] w fun e w' => e = .returned (.int .i64 c4) ∧ Below w.heap.size w w')) :
    Calls Tryd.prog 5 #[.agg #[.int .i64 x, .int .i64 y], .string s, .string t] w fun e w' => e = .returned (.bool true) ∧ Below w.heap.size w w' := by
  subst hxy
  have f1 := num_true x
  have f2 : decide (x < x) = false := decide_eq_false (by omega)
  have HB0 := Lib.hid (Below.refl (w.heap.size + 1) (w.alloc (.cells #[.int .i64 x, .int .i64 x] 36)))
  obtain ⟨g0, g1⟩ := box2 HB0.out
  go_enter Tryd.func5, Tryd.ntmps5
  go_wp2_with fail
  go_region_held_law (fun W => W.cell? ⟨w.heap.size, 0, none⟩ = some (.int .i64 x) ∧ W.cell? ⟨w.heap.size, 1, none⟩ = some (.int .i64 x)) (first | go_keep | (exact ⟨by assumption, by assumption⟩))
    (first
      | (go_at_call 9; (with_reducible refine (D1.out _ (by first | exact HB0.out | exact HB0.out.drew | exact HB0.out.drew.drew)).mono ?_); rintro e w3 ⟨rfl, hb3⟩; have HB3 := Lib.hid (show Below (w.heap.size + 1) (w.alloc (.cells #[.int .i64 x, .int .i64 x] 36)) w3 from by first | exact below_drew1 HB0.out (by simp) hb3 | exact below_drew2 HB0.out (by simp) hb3 | exact below_then HB0.out (by simp) hb3); have hK3 : w.heap.size + 1 ≤ w3.heap.size := (by have := HB3.out.size; simpa using this); clear hb3; obtain ⟨k0, k1⟩ := box2 HB3.out)
      | (go_at_call 9; (with_reducible refine (D2.out _ (by first | exact HB3.out | exact HB3.out.drew | exact HB3.out.drew.drew)).mono ?_); rintro e w4 ⟨rfl, hb4⟩; have HB4 := Lib.hid (show Below (w.heap.size + 1) (w.alloc (.cells #[.int .i64 x, .int .i64 x] 36)) w4 from by first | exact below_then HB3.out hK3 hb4 | exact below_drew1 HB3.out hK3 hb4 | exact below_drew2 HB3.out hK3 hb4); have hK4 : w.heap.size + 1 ≤ w4.heap.size := Nat.le_trans hK3 hb4.size; clear hb4; obtain ⟨k2, k3⟩ := box2 HB4.out))
  go_wp2_with fail
  refine (C1.out _).mono ?_
  rintro e w5 ⟨rfl, hb5⟩
  have HB5 := Lib.hid (below_then HB4.out hK4 hb5)
  have hK5 : w.heap.size + 1 ≤ w5.heap.size := Nat.le_trans hK4 hb5.size
  clear hb5
  obtain ⟨k4, k5⟩ := box2 HB5.out
  go_wp2_with fail
  refine (C2.out _).mono ?_
  rintro e w6 ⟨rfl, hb6⟩
  have HB6 := Lib.hid (below_then HB5.out hK5 hb6)
  have hK6 : w.heap.size + 1 ≤ w6.heap.size := Nat.le_trans hK5 hb6.size
  clear hb6
  go_wp2_with fail
  refine (C3.out _).mono ?_
  rintro e w7 ⟨rfl, hb7⟩
  have HB7 := Lib.hid (below_then HB6.out hK6 hb7)
  have hK7 : w.heap.size + 1 ≤ w7.heap.size := Nat.le_trans hK6 hb7.size
  clear hb7
  go_wp2_with fail
  refine (P1.out _).mono ?_
  rintro e w8 ⟨rfl, hb8⟩
  have HB8 := Lib.hid (below_then HB7.out hK7 hb8)
  have hK8 : w.heap.size + 1 ≤ w8.heap.size := Nat.le_trans hK7 hb8.size
  clear hb8
  go_wp2_with fail
  refine (P2.out _).mono ?_
  rintro e w9 ⟨rfl, hb9⟩
  have HB9 := Lib.hid (below_then HB8.out hK8 hb9)
  have hK9 : w.heap.size + 1 ≤ w9.heap.size := Nat.le_trans hK8 hb9.size
  clear hb9
  go_wp2_with fail
  go_ret
  exact ⟨rfl, below_box HB9.out⟩

set_option maxRecDepth 8000 in
set_option maxHeartbeats 1600000 in
theorem order_gl1 (x y : Int) (s t p q u v : ByteArray) (c3 c4 : Int) (w : World) (hlen : (s.size : Int) + (t.size : Int) ≤ 600) (hxy : y < x) (h3 : c3 ≤ 0) (h4 : c4 ≤ 0) (h5 : (u.toList == v.toList) = false)
    (D1 : Hid (∀ w0, Below (w.heap.size + 1) (w.alloc (.cells #[.int .i64 x, .int .i64 y] 36)) w0 → Calls Tryd.prog 9 #[.int .i64 x] w0 fun e w' => e = .returned (.string p) ∧ Below w0.heap.size w0 w'))
    (D2 : Hid (∀ w0, Below (w.heap.size + 1) (w.alloc (.cells #[.int .i64 x, .int .i64 y] 36)) w0 → Calls Tryd.prog 9 #[.int .i64 y] w0 fun e w' => e = .returned (.string q) ∧ Below w0.heap.size w0 w'))
    (C1 : Hid (∀ w, Calls Tryd.prog 15 #[.string p, .string q] w fun e w' => e = .returned (.int .i64 (1)) ∧ Below w.heap.size w w'))
    (C2 : Hid (∀ w, Calls Tryd.prog 15 #[.string s, .string t] w fun e w' => e = .returned (.int .i64 (-1)) ∧ Below w.heap.size w w'))
    (C3 : Hid (∀ w, Calls Tryd.prog 15 #[.string t, .string s] w fun e w' => e = .returned (.int .i64 (1)) ∧ Below w.heap.size w w'))
    (P1 : Hid (∀ w, Calls Tryd.prog 13 #[.string s] w fun e w' => e = .returned (.string u) ∧ Below w.heap.size w w'))
    (P2 : Hid (∀ w, Calls Tryd.prog 13 #[.string t] w fun e w' => e = .returned (.string v) ∧ Below w.heap.size w w'))
    (C4 : Hid (∀ w, Calls Tryd.prog 15 #[.string t, .string p] w fun e w' => e = .returned (.int .i64 c3) ∧ Below w.heap.size w w'))
    (C5 : Hid (∀ w, Calls Tryd.prog 15 #[.string s, .string p] w fun e w' => e = .returned (.int .i64 c4) ∧ Below w.heap.size w w')) :
    Calls Tryd.prog 5 #[.agg #[.int .i64 x, .int .i64 y], .string s, .string t] w fun e w' => e = .returned (.bool true) ∧ Below w.heap.size w w' := by
  have f1 : ((x : Int) == y) = false := beq_eq_false_iff_ne.2 (by omega)
  have f2 : decide (x < y) = false := decide_eq_false (by omega)
  have HB0 := Lib.hid (Below.refl (w.heap.size + 1) (w.alloc (.cells #[.int .i64 x, .int .i64 y] 36)))
  obtain ⟨g0, g1⟩ := box2 HB0.out
  go_enter Tryd.func5, Tryd.ntmps5
  go_wp2_with fail
  go_region_held_law (fun W => W.cell? ⟨w.heap.size, 0, none⟩ = some (.int .i64 x) ∧ W.cell? ⟨w.heap.size, 1, none⟩ = some (.int .i64 y)) (first | go_keep | (exact ⟨by assumption, by assumption⟩))
    (first
      | (go_at_call 9; (with_reducible refine (D1.out _ (by first | exact HB0.out | exact HB0.out.drew | exact HB0.out.drew.drew)).mono ?_); rintro e w3 ⟨rfl, hb3⟩; have HB3 := Lib.hid (show Below (w.heap.size + 1) (w.alloc (.cells #[.int .i64 x, .int .i64 y] 36)) w3 from by first | exact below_drew1 HB0.out (by simp) hb3 | exact below_drew2 HB0.out (by simp) hb3 | exact below_then HB0.out (by simp) hb3); have hK3 : w.heap.size + 1 ≤ w3.heap.size := (by have := HB3.out.size; simpa using this); clear hb3; obtain ⟨k0, k1⟩ := box2 HB3.out)
      | (go_at_call 9; (with_reducible refine (D2.out _ (by first | exact HB3.out | exact HB3.out.drew | exact HB3.out.drew.drew)).mono ?_); rintro e w4 ⟨rfl, hb4⟩; have HB4 := Lib.hid (show Below (w.heap.size + 1) (w.alloc (.cells #[.int .i64 x, .int .i64 y] 36)) w4 from by first | exact below_then HB3.out hK3 hb4 | exact below_drew1 HB3.out hK3 hb4 | exact below_drew2 HB3.out hK3 hb4); have hK4 : w.heap.size + 1 ≤ w4.heap.size := Nat.le_trans hK3 hb4.size; clear hb4; obtain ⟨k2, k3⟩ := box2 HB4.out))
  go_wp2_with fail
  refine (C1.out _).mono ?_
  rintro e w5 ⟨rfl, hb5⟩
  have HB5 := Lib.hid (below_then HB4.out hK4 hb5)
  have hK5 : w.heap.size + 1 ≤ w5.heap.size := Nat.le_trans hK4 hb5.size
  clear hb5
  obtain ⟨k4, k5⟩ := box2 HB5.out
  go_wp2_with fail
  refine (C2.out _).mono ?_
  rintro e w6 ⟨rfl, hb6⟩
  have HB6 := Lib.hid (below_then HB5.out hK5 hb6)
  have hK6 : w.heap.size + 1 ≤ w6.heap.size := Nat.le_trans hK5 hb6.size
  clear hb6
  go_wp2_with fail
  refine (C3.out _).mono ?_
  rintro e w7 ⟨rfl, hb7⟩
  have HB7 := Lib.hid (below_then HB6.out hK6 hb7)
  have hK7 : w.heap.size + 1 ≤ w7.heap.size := Nat.le_trans hK6 hb7.size
  clear hb7
  go_wp2_with fail
  refine (P1.out _).mono ?_
  rintro e w8 ⟨rfl, hb8⟩
  have HB8 := Lib.hid (below_then HB7.out hK7 hb8)
  have hK8 : w.heap.size + 1 ≤ w8.heap.size := Nat.le_trans hK7 hb8.size
  clear hb8
  go_wp2_with fail
  refine (P2.out _).mono ?_
  rintro e w9 ⟨rfl, hb9⟩
  have HB9 := Lib.hid (below_then HB8.out hK8 hb9)
  have hK9 : w.heap.size + 1 ≤ w9.heap.size := Nat.le_trans hK8 hb9.size
  clear hb9
  go_wp2_with fail
  refine (C4.out _).mono ?_
  rintro e wa ⟨rfl, hba⟩
  have HBa := Lib.hid (below_then HB9.out hK9 hba)
  have hKa : w.heap.size + 1 ≤ wa.heap.size := Nat.le_trans hK9 hba.size
  clear hba
  go_wp2_with fail
  refine (C5.out _).mono ?_
  rintro e wb ⟨rfl, hbb⟩
  have HBb := Lib.hid (below_then HBa.out hKa hbb)
  clear hbb
  go_wp2_with fail
  go_ret
  exact ⟨rfl, below_box HBb.out⟩

set_option maxRecDepth 8000 in
set_option maxHeartbeats 1600000 in
theorem order_gl0 (x y : Int) (s t p q u v : ByteArray) (c3 c4 : Int) (w : World) (hlen : (s.size : Int) + (t.size : Int) ≤ 600) (hxy : y < x) (h3 : 0 < c3) (h5 : (u.toList == v.toList) = false)
    (D1 : Hid (∀ w0, Below (w.heap.size + 1) (w.alloc (.cells #[.int .i64 x, .int .i64 y] 36)) w0 → Calls Tryd.prog 9 #[.int .i64 x] w0 fun e w' => e = .returned (.string p) ∧ Below w0.heap.size w0 w'))
    (D2 : Hid (∀ w0, Below (w.heap.size + 1) (w.alloc (.cells #[.int .i64 x, .int .i64 y] 36)) w0 → Calls Tryd.prog 9 #[.int .i64 y] w0 fun e w' => e = .returned (.string q) ∧ Below w0.heap.size w0 w'))
    (C1 : Hid (∀ w, Calls Tryd.prog 15 #[.string p, .string q] w fun e w' => e = .returned (.int .i64 (1)) ∧ Below w.heap.size w w'))
    (C2 : Hid (∀ w, Calls Tryd.prog 15 #[.string s, .string t] w fun e w' => e = .returned (.int .i64 (-1)) ∧ Below w.heap.size w w'))
    (C3 : Hid (∀ w, Calls Tryd.prog 15 #[.string t, .string s] w fun e w' => e = .returned (.int .i64 (1)) ∧ Below w.heap.size w w'))
    (P1 : Hid (∀ w, Calls Tryd.prog 13 #[.string s] w fun e w' => e = .returned (.string u) ∧ Below w.heap.size w w'))
    (P2 : Hid (∀ w, Calls Tryd.prog 13 #[.string t] w fun e w' => e = .returned (.string v) ∧ Below w.heap.size w w'))
    (C4 : Hid (∀ w, Calls Tryd.prog 15 #[.string t, .string p] w fun e w' => e = .returned (.int .i64 c3) ∧ Below w.heap.size w w'))
    (_C5 : Hid (∀ w, Calls Tryd.prog 15 #[.string s, .string p] w fun e w' => e = .returned (.int .i64 c4) ∧ Below w.heap.size w w')) :
    Calls Tryd.prog 5 #[.agg #[.int .i64 x, .int .i64 y], .string s, .string t] w fun e w' => e = .returned (.bool true) ∧ Below w.heap.size w w' := by
  have f1 : ((x : Int) == y) = false := beq_eq_false_iff_ne.2 (by omega)
  have f2 : decide (x < y) = false := decide_eq_false (by omega)
  have HB0 := Lib.hid (Below.refl (w.heap.size + 1) (w.alloc (.cells #[.int .i64 x, .int .i64 y] 36)))
  obtain ⟨g0, g1⟩ := box2 HB0.out
  go_enter Tryd.func5, Tryd.ntmps5
  go_wp2_with fail
  go_region_held_law (fun W => W.cell? ⟨w.heap.size, 0, none⟩ = some (.int .i64 x) ∧ W.cell? ⟨w.heap.size, 1, none⟩ = some (.int .i64 y)) (first | go_keep | (exact ⟨by assumption, by assumption⟩))
    (first
      | (go_at_call 9; (with_reducible refine (D1.out _ (by first | exact HB0.out | exact HB0.out.drew | exact HB0.out.drew.drew)).mono ?_); rintro e w3 ⟨rfl, hb3⟩; have HB3 := Lib.hid (show Below (w.heap.size + 1) (w.alloc (.cells #[.int .i64 x, .int .i64 y] 36)) w3 from by first | exact below_drew1 HB0.out (by simp) hb3 | exact below_drew2 HB0.out (by simp) hb3 | exact below_then HB0.out (by simp) hb3); have hK3 : w.heap.size + 1 ≤ w3.heap.size := (by have := HB3.out.size; simpa using this); clear hb3; obtain ⟨k0, k1⟩ := box2 HB3.out)
      | (go_at_call 9; (with_reducible refine (D2.out _ (by first | exact HB3.out | exact HB3.out.drew | exact HB3.out.drew.drew)).mono ?_); rintro e w4 ⟨rfl, hb4⟩; have HB4 := Lib.hid (show Below (w.heap.size + 1) (w.alloc (.cells #[.int .i64 x, .int .i64 y] 36)) w4 from by first | exact below_then HB3.out hK3 hb4 | exact below_drew1 HB3.out hK3 hb4 | exact below_drew2 HB3.out hK3 hb4); have hK4 : w.heap.size + 1 ≤ w4.heap.size := Nat.le_trans hK3 hb4.size; clear hb4; obtain ⟨k2, k3⟩ := box2 HB4.out))
  go_wp2_with fail
  refine (C1.out _).mono ?_
  rintro e w5 ⟨rfl, hb5⟩
  have HB5 := Lib.hid (below_then HB4.out hK4 hb5)
  have hK5 : w.heap.size + 1 ≤ w5.heap.size := Nat.le_trans hK4 hb5.size
  clear hb5
  obtain ⟨k4, k5⟩ := box2 HB5.out
  go_wp2_with fail
  refine (C2.out _).mono ?_
  rintro e w6 ⟨rfl, hb6⟩
  have HB6 := Lib.hid (below_then HB5.out hK5 hb6)
  have hK6 : w.heap.size + 1 ≤ w6.heap.size := Nat.le_trans hK5 hb6.size
  clear hb6
  go_wp2_with fail
  refine (C3.out _).mono ?_
  rintro e w7 ⟨rfl, hb7⟩
  have HB7 := Lib.hid (below_then HB6.out hK6 hb7)
  have hK7 : w.heap.size + 1 ≤ w7.heap.size := Nat.le_trans hK6 hb7.size
  clear hb7
  go_wp2_with fail
  refine (P1.out _).mono ?_
  rintro e w8 ⟨rfl, hb8⟩
  have HB8 := Lib.hid (below_then HB7.out hK7 hb8)
  have hK8 : w.heap.size + 1 ≤ w8.heap.size := Nat.le_trans hK7 hb8.size
  clear hb8
  go_wp2_with fail
  refine (P2.out _).mono ?_
  rintro e w9 ⟨rfl, hb9⟩
  have HB9 := Lib.hid (below_then HB8.out hK8 hb9)
  have hK9 : w.heap.size + 1 ≤ w9.heap.size := Nat.le_trans hK8 hb9.size
  clear hb9
  go_wp2_with fail
  refine (C4.out _).mono ?_
  rintro e wa ⟨rfl, hba⟩
  have HBa := Lib.hid (below_then HB9.out hK9 hba)
  have hKa : w.heap.size + 1 ≤ wa.heap.size := Nat.le_trans hK9 hba.size
  clear hba
  go_wp2_with fail
  go_ret
  exact ⟨rfl, below_box HBa.out⟩

set_option maxRecDepth 8000 in
set_option maxHeartbeats 1600000 in
theorem order_ge1 (x y : Int) (s t p q u v : ByteArray) (c3 c4 : Int) (w : World) (hlen : (s.size : Int) + (t.size : Int) ≤ 600) (hxy : y < x) (h3 : c3 ≤ 0) (h4 : c4 ≤ 0) (h5 : (u.toList == v.toList) = true)
    (D1 : Hid (∀ w0, Below (w.heap.size + 1) (w.alloc (.cells #[.int .i64 x, .int .i64 y] 36)) w0 → Calls Tryd.prog 9 #[.int .i64 x] w0 fun e w' => e = .returned (.string p) ∧ Below w0.heap.size w0 w'))
    (D2 : Hid (∀ w0, Below (w.heap.size + 1) (w.alloc (.cells #[.int .i64 x, .int .i64 y] 36)) w0 → Calls Tryd.prog 9 #[.int .i64 y] w0 fun e w' => e = .returned (.string q) ∧ Below w0.heap.size w0 w'))
    (C1 : Hid (∀ w, Calls Tryd.prog 15 #[.string p, .string q] w fun e w' => e = .returned (.int .i64 (1)) ∧ Below w.heap.size w w'))
    (C2 : Hid (∀ w, Calls Tryd.prog 15 #[.string s, .string t] w fun e w' => e = .returned (.int .i64 (0)) ∧ Below w.heap.size w w'))
    (C3 : Hid (∀ w, Calls Tryd.prog 15 #[.string t, .string s] w fun e w' => e = .returned (.int .i64 (0)) ∧ Below w.heap.size w w'))
    (P1 : Hid (∀ w, Calls Tryd.prog 13 #[.string s] w fun e w' => e = .returned (.string u) ∧ Below w.heap.size w w'))
    (P2 : Hid (∀ w, Calls Tryd.prog 13 #[.string t] w fun e w' => e = .returned (.string v) ∧ Below w.heap.size w w'))
    (C4 : Hid (∀ w, Calls Tryd.prog 15 #[.string t, .string p] w fun e w' => e = .returned (.int .i64 c3) ∧ Below w.heap.size w w'))
    (C5 : Hid (∀ w, Calls Tryd.prog 15 #[.string s, .string p] w fun e w' => e = .returned (.int .i64 c4) ∧ Below w.heap.size w w')) :
    Calls Tryd.prog 5 #[.agg #[.int .i64 x, .int .i64 y], .string s, .string t] w fun e w' => e = .returned (.bool true) ∧ Below w.heap.size w w' := by
  have f1 : ((x : Int) == y) = false := beq_eq_false_iff_ne.2 (by omega)
  have f2 : decide (x < y) = false := decide_eq_false (by omega)
  have HB0 := Lib.hid (Below.refl (w.heap.size + 1) (w.alloc (.cells #[.int .i64 x, .int .i64 y] 36)))
  obtain ⟨g0, g1⟩ := box2 HB0.out
  go_enter Tryd.func5, Tryd.ntmps5
  go_wp2_with fail
  go_region_held_law (fun W => W.cell? ⟨w.heap.size, 0, none⟩ = some (.int .i64 x) ∧ W.cell? ⟨w.heap.size, 1, none⟩ = some (.int .i64 y)) (first | go_keep | (exact ⟨by assumption, by assumption⟩))
    (first
      | (go_at_call 9; (with_reducible refine (D1.out _ (by first | exact HB0.out | exact HB0.out.drew | exact HB0.out.drew.drew)).mono ?_); rintro e w3 ⟨rfl, hb3⟩; have HB3 := Lib.hid (show Below (w.heap.size + 1) (w.alloc (.cells #[.int .i64 x, .int .i64 y] 36)) w3 from by first | exact below_drew1 HB0.out (by simp) hb3 | exact below_drew2 HB0.out (by simp) hb3 | exact below_then HB0.out (by simp) hb3); have hK3 : w.heap.size + 1 ≤ w3.heap.size := (by have := HB3.out.size; simpa using this); clear hb3; obtain ⟨k0, k1⟩ := box2 HB3.out)
      | (go_at_call 9; (with_reducible refine (D2.out _ (by first | exact HB3.out | exact HB3.out.drew | exact HB3.out.drew.drew)).mono ?_); rintro e w4 ⟨rfl, hb4⟩; have HB4 := Lib.hid (show Below (w.heap.size + 1) (w.alloc (.cells #[.int .i64 x, .int .i64 y] 36)) w4 from by first | exact below_then HB3.out hK3 hb4 | exact below_drew1 HB3.out hK3 hb4 | exact below_drew2 HB3.out hK3 hb4); have hK4 : w.heap.size + 1 ≤ w4.heap.size := Nat.le_trans hK3 hb4.size; clear hb4; obtain ⟨k2, k3⟩ := box2 HB4.out))
  go_wp2_with fail
  refine (C1.out _).mono ?_
  rintro e w5 ⟨rfl, hb5⟩
  have HB5 := Lib.hid (below_then HB4.out hK4 hb5)
  have hK5 : w.heap.size + 1 ≤ w5.heap.size := Nat.le_trans hK4 hb5.size
  clear hb5
  obtain ⟨k4, k5⟩ := box2 HB5.out
  go_wp2_with fail
  refine (C2.out _).mono ?_
  rintro e w6 ⟨rfl, hb6⟩
  have HB6 := Lib.hid (below_then HB5.out hK5 hb6)
  have hK6 : w.heap.size + 1 ≤ w6.heap.size := Nat.le_trans hK5 hb6.size
  clear hb6
  go_wp2_with fail
  refine (C3.out _).mono ?_
  rintro e w7 ⟨rfl, hb7⟩
  have HB7 := Lib.hid (below_then HB6.out hK6 hb7)
  have hK7 : w.heap.size + 1 ≤ w7.heap.size := Nat.le_trans hK6 hb7.size
  clear hb7
  go_wp2_with fail
  refine (P1.out _).mono ?_
  rintro e w8 ⟨rfl, hb8⟩
  have HB8 := Lib.hid (below_then HB7.out hK7 hb8)
  have hK8 : w.heap.size + 1 ≤ w8.heap.size := Nat.le_trans hK7 hb8.size
  clear hb8
  go_wp2_with fail
  refine (P2.out _).mono ?_
  rintro e w9 ⟨rfl, hb9⟩
  have HB9 := Lib.hid (below_then HB8.out hK8 hb9)
  have hK9 : w.heap.size + 1 ≤ w9.heap.size := Nat.le_trans hK8 hb9.size
  clear hb9
  go_wp2_with fail
  refine (C4.out _).mono ?_
  rintro e wa ⟨rfl, hba⟩
  have HBa := Lib.hid (below_then HB9.out hK9 hba)
  have hKa : w.heap.size + 1 ≤ wa.heap.size := Nat.le_trans hK9 hba.size
  clear hba
  go_wp2_with fail
  refine (C5.out _).mono ?_
  rintro e wb ⟨rfl, hbb⟩
  have HBb := Lib.hid (below_then HBa.out hKa hbb)
  clear hbb
  go_wp2_with fail
  go_ret
  exact ⟨rfl, below_box HBb.out⟩

set_option maxRecDepth 8000 in
set_option maxHeartbeats 1600000 in
theorem order_ge0 (x y : Int) (s t p q u v : ByteArray) (c3 c4 : Int) (w : World) (hlen : (s.size : Int) + (t.size : Int) ≤ 600) (hxy : y < x) (h3 : 0 < c3) (h5 : (u.toList == v.toList) = true)
    (D1 : Hid (∀ w0, Below (w.heap.size + 1) (w.alloc (.cells #[.int .i64 x, .int .i64 y] 36)) w0 → Calls Tryd.prog 9 #[.int .i64 x] w0 fun e w' => e = .returned (.string p) ∧ Below w0.heap.size w0 w'))
    (D2 : Hid (∀ w0, Below (w.heap.size + 1) (w.alloc (.cells #[.int .i64 x, .int .i64 y] 36)) w0 → Calls Tryd.prog 9 #[.int .i64 y] w0 fun e w' => e = .returned (.string q) ∧ Below w0.heap.size w0 w'))
    (C1 : Hid (∀ w, Calls Tryd.prog 15 #[.string p, .string q] w fun e w' => e = .returned (.int .i64 (1)) ∧ Below w.heap.size w w'))
    (C2 : Hid (∀ w, Calls Tryd.prog 15 #[.string s, .string t] w fun e w' => e = .returned (.int .i64 (0)) ∧ Below w.heap.size w w'))
    (C3 : Hid (∀ w, Calls Tryd.prog 15 #[.string t, .string s] w fun e w' => e = .returned (.int .i64 (0)) ∧ Below w.heap.size w w'))
    (P1 : Hid (∀ w, Calls Tryd.prog 13 #[.string s] w fun e w' => e = .returned (.string u) ∧ Below w.heap.size w w'))
    (P2 : Hid (∀ w, Calls Tryd.prog 13 #[.string t] w fun e w' => e = .returned (.string v) ∧ Below w.heap.size w w'))
    (C4 : Hid (∀ w, Calls Tryd.prog 15 #[.string t, .string p] w fun e w' => e = .returned (.int .i64 c3) ∧ Below w.heap.size w w'))
    (_C5 : Hid (∀ w, Calls Tryd.prog 15 #[.string s, .string p] w fun e w' => e = .returned (.int .i64 c4) ∧ Below w.heap.size w w')) :
    Calls Tryd.prog 5 #[.agg #[.int .i64 x, .int .i64 y], .string s, .string t] w fun e w' => e = .returned (.bool true) ∧ Below w.heap.size w w' := by
  have f1 : ((x : Int) == y) = false := beq_eq_false_iff_ne.2 (by omega)
  have f2 : decide (x < y) = false := decide_eq_false (by omega)
  have HB0 := Lib.hid (Below.refl (w.heap.size + 1) (w.alloc (.cells #[.int .i64 x, .int .i64 y] 36)))
  obtain ⟨g0, g1⟩ := box2 HB0.out
  go_enter Tryd.func5, Tryd.ntmps5
  go_wp2_with fail
  go_region_held_law (fun W => W.cell? ⟨w.heap.size, 0, none⟩ = some (.int .i64 x) ∧ W.cell? ⟨w.heap.size, 1, none⟩ = some (.int .i64 y)) (first | go_keep | (exact ⟨by assumption, by assumption⟩))
    (first
      | (go_at_call 9; (with_reducible refine (D1.out _ (by first | exact HB0.out | exact HB0.out.drew | exact HB0.out.drew.drew)).mono ?_); rintro e w3 ⟨rfl, hb3⟩; have HB3 := Lib.hid (show Below (w.heap.size + 1) (w.alloc (.cells #[.int .i64 x, .int .i64 y] 36)) w3 from by first | exact below_drew1 HB0.out (by simp) hb3 | exact below_drew2 HB0.out (by simp) hb3 | exact below_then HB0.out (by simp) hb3); have hK3 : w.heap.size + 1 ≤ w3.heap.size := (by have := HB3.out.size; simpa using this); clear hb3; obtain ⟨k0, k1⟩ := box2 HB3.out)
      | (go_at_call 9; (with_reducible refine (D2.out _ (by first | exact HB3.out | exact HB3.out.drew | exact HB3.out.drew.drew)).mono ?_); rintro e w4 ⟨rfl, hb4⟩; have HB4 := Lib.hid (show Below (w.heap.size + 1) (w.alloc (.cells #[.int .i64 x, .int .i64 y] 36)) w4 from by first | exact below_then HB3.out hK3 hb4 | exact below_drew1 HB3.out hK3 hb4 | exact below_drew2 HB3.out hK3 hb4); have hK4 : w.heap.size + 1 ≤ w4.heap.size := Nat.le_trans hK3 hb4.size; clear hb4; obtain ⟨k2, k3⟩ := box2 HB4.out))
  go_wp2_with fail
  refine (C1.out _).mono ?_
  rintro e w5 ⟨rfl, hb5⟩
  have HB5 := Lib.hid (below_then HB4.out hK4 hb5)
  have hK5 : w.heap.size + 1 ≤ w5.heap.size := Nat.le_trans hK4 hb5.size
  clear hb5
  obtain ⟨k4, k5⟩ := box2 HB5.out
  go_wp2_with fail
  refine (C2.out _).mono ?_
  rintro e w6 ⟨rfl, hb6⟩
  have HB6 := Lib.hid (below_then HB5.out hK5 hb6)
  have hK6 : w.heap.size + 1 ≤ w6.heap.size := Nat.le_trans hK5 hb6.size
  clear hb6
  go_wp2_with fail
  refine (C3.out _).mono ?_
  rintro e w7 ⟨rfl, hb7⟩
  have HB7 := Lib.hid (below_then HB6.out hK6 hb7)
  have hK7 : w.heap.size + 1 ≤ w7.heap.size := Nat.le_trans hK6 hb7.size
  clear hb7
  go_wp2_with fail
  refine (P1.out _).mono ?_
  rintro e w8 ⟨rfl, hb8⟩
  have HB8 := Lib.hid (below_then HB7.out hK7 hb8)
  have hK8 : w.heap.size + 1 ≤ w8.heap.size := Nat.le_trans hK7 hb8.size
  clear hb8
  go_wp2_with fail
  refine (P2.out _).mono ?_
  rintro e w9 ⟨rfl, hb9⟩
  have HB9 := Lib.hid (below_then HB8.out hK8 hb9)
  have hK9 : w.heap.size + 1 ≤ w9.heap.size := Nat.le_trans hK8 hb9.size
  clear hb9
  go_wp2_with fail
  refine (C4.out _).mono ?_
  rintro e wa ⟨rfl, hba⟩
  have HBa := Lib.hid (below_then HB9.out hK9 hba)
  have hKa : w.heap.size + 1 ≤ wa.heap.size := Nat.le_trans hK9 hba.size
  clear hba
  go_wp2_with fail
  go_ret
  exact ⟨rfl, below_box HBa.out⟩

set_option maxRecDepth 8000 in
set_option maxHeartbeats 1600000 in
theorem order_gg (x y : Int) (s t p q u v : ByteArray) (c3 c4 : Int) (w : World) (hlen : (s.size : Int) + (t.size : Int) ≤ 600) (hxy : y < x) (h5 : (u.toList == v.toList) = false)
    (D1 : Hid (∀ w0, Below (w.heap.size + 1) (w.alloc (.cells #[.int .i64 x, .int .i64 y] 36)) w0 → Calls Tryd.prog 9 #[.int .i64 x] w0 fun e w' => e = .returned (.string p) ∧ Below w0.heap.size w0 w'))
    (D2 : Hid (∀ w0, Below (w.heap.size + 1) (w.alloc (.cells #[.int .i64 x, .int .i64 y] 36)) w0 → Calls Tryd.prog 9 #[.int .i64 y] w0 fun e w' => e = .returned (.string q) ∧ Below w0.heap.size w0 w'))
    (C1 : Hid (∀ w, Calls Tryd.prog 15 #[.string p, .string q] w fun e w' => e = .returned (.int .i64 (1)) ∧ Below w.heap.size w w'))
    (C2 : Hid (∀ w, Calls Tryd.prog 15 #[.string s, .string t] w fun e w' => e = .returned (.int .i64 (1)) ∧ Below w.heap.size w w'))
    (C3 : Hid (∀ w, Calls Tryd.prog 15 #[.string t, .string s] w fun e w' => e = .returned (.int .i64 (-1)) ∧ Below w.heap.size w w'))
    (P1 : Hid (∀ w, Calls Tryd.prog 13 #[.string s] w fun e w' => e = .returned (.string u) ∧ Below w.heap.size w w'))
    (P2 : Hid (∀ w, Calls Tryd.prog 13 #[.string t] w fun e w' => e = .returned (.string v) ∧ Below w.heap.size w w'))
    (_C4 : Hid (∀ w, Calls Tryd.prog 15 #[.string t, .string p] w fun e w' => e = .returned (.int .i64 c3) ∧ Below w.heap.size w w'))
    (_C5 : Hid (∀ w, Calls Tryd.prog 15 #[.string s, .string p] w fun e w' => e = .returned (.int .i64 c4) ∧ Below w.heap.size w w')) :
    Calls Tryd.prog 5 #[.agg #[.int .i64 x, .int .i64 y], .string s, .string t] w fun e w' => e = .returned (.bool true) ∧ Below w.heap.size w w' := by
  have f1 : ((x : Int) == y) = false := beq_eq_false_iff_ne.2 (by omega)
  have f2 : decide (x < y) = false := decide_eq_false (by omega)
  have HB0 := Lib.hid (Below.refl (w.heap.size + 1) (w.alloc (.cells #[.int .i64 x, .int .i64 y] 36)))
  obtain ⟨g0, g1⟩ := box2 HB0.out
  go_enter Tryd.func5, Tryd.ntmps5
  go_wp2_with fail
  go_region_held_law (fun W => W.cell? ⟨w.heap.size, 0, none⟩ = some (.int .i64 x) ∧ W.cell? ⟨w.heap.size, 1, none⟩ = some (.int .i64 y)) (first | go_keep | (exact ⟨by assumption, by assumption⟩))
    (first
      | (go_at_call 9; (with_reducible refine (D1.out _ (by first | exact HB0.out | exact HB0.out.drew | exact HB0.out.drew.drew)).mono ?_); rintro e w3 ⟨rfl, hb3⟩; have HB3 := Lib.hid (show Below (w.heap.size + 1) (w.alloc (.cells #[.int .i64 x, .int .i64 y] 36)) w3 from by first | exact below_drew1 HB0.out (by simp) hb3 | exact below_drew2 HB0.out (by simp) hb3 | exact below_then HB0.out (by simp) hb3); have hK3 : w.heap.size + 1 ≤ w3.heap.size := (by have := HB3.out.size; simpa using this); clear hb3; obtain ⟨k0, k1⟩ := box2 HB3.out)
      | (go_at_call 9; (with_reducible refine (D2.out _ (by first | exact HB3.out | exact HB3.out.drew | exact HB3.out.drew.drew)).mono ?_); rintro e w4 ⟨rfl, hb4⟩; have HB4 := Lib.hid (show Below (w.heap.size + 1) (w.alloc (.cells #[.int .i64 x, .int .i64 y] 36)) w4 from by first | exact below_then HB3.out hK3 hb4 | exact below_drew1 HB3.out hK3 hb4 | exact below_drew2 HB3.out hK3 hb4); have hK4 : w.heap.size + 1 ≤ w4.heap.size := Nat.le_trans hK3 hb4.size; clear hb4; obtain ⟨k2, k3⟩ := box2 HB4.out))
  go_wp2_with fail
  refine (C1.out _).mono ?_
  rintro e w5 ⟨rfl, hb5⟩
  have HB5 := Lib.hid (below_then HB4.out hK4 hb5)
  have hK5 : w.heap.size + 1 ≤ w5.heap.size := Nat.le_trans hK4 hb5.size
  clear hb5
  obtain ⟨k4, k5⟩ := box2 HB5.out
  go_wp2_with fail
  refine (C2.out _).mono ?_
  rintro e w6 ⟨rfl, hb6⟩
  have HB6 := Lib.hid (below_then HB5.out hK5 hb6)
  have hK6 : w.heap.size + 1 ≤ w6.heap.size := Nat.le_trans hK5 hb6.size
  clear hb6
  go_wp2_with fail
  refine (C3.out _).mono ?_
  rintro e w7 ⟨rfl, hb7⟩
  have HB7 := Lib.hid (below_then HB6.out hK6 hb7)
  have hK7 : w.heap.size + 1 ≤ w7.heap.size := Nat.le_trans hK6 hb7.size
  clear hb7
  go_wp2_with fail
  refine (P1.out _).mono ?_
  rintro e w8 ⟨rfl, hb8⟩
  have HB8 := Lib.hid (below_then HB7.out hK7 hb8)
  have hK8 : w.heap.size + 1 ≤ w8.heap.size := Nat.le_trans hK7 hb8.size
  clear hb8
  go_wp2_with fail
  refine (P2.out _).mono ?_
  rintro e w9 ⟨rfl, hb9⟩
  have HB9 := Lib.hid (below_then HB8.out hK8 hb9)
  have hK9 : w.heap.size + 1 ≤ w9.heap.size := Nat.le_trans hK8 hb9.size
  clear hb9
  go_wp2_with fail
  go_ret
  exact ⟨rfl, below_box HB9.out⟩

theorem cmp_lt {x y : Int} (h : x < y) : cmpL (itoa x) (itoa y) = -1 := by
  have h1 := (cmp_itoa x y).1.2 h
  rcases cmp_range (itoa x) (itoa y) with h2 | h2 | h2 <;> omega
theorem cmp_gt {x y : Int} (h : y < x) : cmpL (itoa x) (itoa y) = 1 := by
  rw [cmp_swap, cmp_lt h]
  rfl
theorem cmp_eq (x : Int) : cmpL (itoa x) (itoa x) = 0 := (cmp_itoa x x).2.2 rfl

set_option maxHeartbeats 800000 in
theorem order_walk (x y : Int) (s t : ByteArray) (w : World) (hx1 : -9223372036854775808 ≤ x) (hx2 : x ≤ 9223372036854775807) (hy1 : -9223372036854775808 ≤ y) (hy2 : y ≤ 9223372036854775807) (ms : s.size ≤ 140737488351232) (mt : t.size ≤ 140737488351232) (tab : Tab w) :
    Calls Tryd.prog 5 #[.agg #[.int .i64 x, .int .i64 y], .string s, .string t] w fun e w' => e = .returned (.bool true) ∧ Below w.heap.size w w' := by
  have ms2 : s.size ≤ maxLen := by unfold maxLen; omega
  have mt2 : t.size ≤ maxLen := by unfold maxLen; omega
  by_cases hlen : (s.size : Int) + (t.size : Int) ≤ 600
  · have mx : (baL (itoa x)).size ≤ maxLen := by
      have := itoa_size x hx1 hx2
      unfold maxLen
      omega
    have my : (baL (itoa y)).size ≤ maxLen := by
      have := itoa_size y hy1 hy2
      unfold maxLen
      omega
    have D1 := fun v (hv : Below (w.heap.size + 1) (w.alloc (.cells #[.int .i64 x, .int .i64 y] 36)) v) => w_digits x v hx1 hx2 (tab.below (below_box hv))
    have D2 := fun v (hv : Below (w.heap.size + 1) (w.alloc (.cells #[.int .i64 x, .int .i64 y] 36)) v) => w_digits y v hy1 hy2 (tab.below (below_box hv))
    have C1 := fun w => w_compare (baL (itoa x)) (baL (itoa y)) w mx my
    have C2 := fun w => w_compare s t w ms2 mt2
    have C3 := fun w => w_compare t s w mt2 ms2
    have P1 := fun w => w_plain s w ms
    have P2 := fun w => w_plain t w mt
    have C4 := fun w => w_compare t (baL (itoa x)) w mt2 mx
    have C5 := fun w => w_compare s (baL (itoa x)) w ms2 mx
    simp only [baL_list] at C1 C4 C5
    rw [cmp_swap s.data.toList t.data.toList] at C3
    have hpl : ((baL (plainL s.data.toList)).toList == (baL (plainL t.data.toList)).toList) = decide (cmpL s.data.toList t.data.toList = 0) := by
      rw [ByteArray.toList_eq, ByteArray.toList_eq, baL_list, baL_list, Bool.eq_iff_iff, beq_iff_eq, decide_eq_true_iff, cmp_zero]
    have htr := cmp_trans s.data.toList t.data.toList (itoa x)
    rcases Int.lt_trichotomy x y with hxy | hxy | hxy
    · rw [cmp_lt hxy] at C1
      rcases cmp_range s.data.toList t.data.toList with h2 | h2 | h2
      · rw [h2] at C2 C3 hpl htr
        by_cases h3 : cmpL t.data.toList (itoa x) ≤ 0
        · exact order_ll1 _ _ s t _ _ _ _ _ _ w hlen hxy h3 (htr (by decide) h3) hpl (Lib.hid D1) (Lib.hid D2) (Lib.hid C1) (Lib.hid C2) (Lib.hid C3) (Lib.hid P1) (Lib.hid P2) (Lib.hid C4) (Lib.hid C5)
        · exact order_ll0 _ _ s t _ _ _ _ _ _ w hlen hxy (by omega) hpl (Lib.hid D1) (Lib.hid D2) (Lib.hid C1) (Lib.hid C2) (Lib.hid C3) (Lib.hid P1) (Lib.hid P2) (Lib.hid C4) (Lib.hid C5)
      · rw [h2] at C2 C3 hpl htr
        by_cases h3 : cmpL t.data.toList (itoa x) ≤ 0
        · exact order_le1 _ _ s t _ _ _ _ _ _ w hlen hxy h3 (htr (by decide) h3) hpl (Lib.hid D1) (Lib.hid D2) (Lib.hid C1) (Lib.hid C2) (Lib.hid C3) (Lib.hid P1) (Lib.hid P2) (Lib.hid C4) (Lib.hid C5)
        · exact order_le0 _ _ s t _ _ _ _ _ _ w hlen hxy (by omega) hpl (Lib.hid D1) (Lib.hid D2) (Lib.hid C1) (Lib.hid C2) (Lib.hid C3) (Lib.hid P1) (Lib.hid P2) (Lib.hid C4) (Lib.hid C5)
      · rw [h2] at C2 C3 hpl
        exact order_lg _ _ s t _ _ _ _ _ _ w hlen hxy hpl (Lib.hid D1) (Lib.hid D2) (Lib.hid C1) (Lib.hid C2) (Lib.hid C3) (Lib.hid P1) (Lib.hid P2) (Lib.hid C4) (Lib.hid C5)
    · subst hxy
      rw [cmp_eq] at C1
      rcases cmp_range s.data.toList t.data.toList with h2 | h2 | h2
      · rw [h2] at C2 C3 hpl htr
        by_cases h3 : cmpL t.data.toList (itoa x) ≤ 0
        · exact order_el1 _ _ s t _ _ _ _ _ _ w hlen rfl h3 (htr (by decide) h3) hpl (Lib.hid D1) (Lib.hid D2) (Lib.hid C1) (Lib.hid C2) (Lib.hid C3) (Lib.hid P1) (Lib.hid P2) (Lib.hid C4) (Lib.hid C5)
        · exact order_el0 _ _ s t _ _ _ _ _ _ w hlen rfl (by omega) hpl (Lib.hid D1) (Lib.hid D2) (Lib.hid C1) (Lib.hid C2) (Lib.hid C3) (Lib.hid P1) (Lib.hid P2) (Lib.hid C4) (Lib.hid C5)
      · rw [h2] at C2 C3 hpl htr
        by_cases h3 : cmpL t.data.toList (itoa x) ≤ 0
        · exact order_ee1 _ _ s t _ _ _ _ _ _ w hlen rfl h3 (htr (by decide) h3) hpl (Lib.hid D1) (Lib.hid D2) (Lib.hid C1) (Lib.hid C2) (Lib.hid C3) (Lib.hid P1) (Lib.hid P2) (Lib.hid C4) (Lib.hid C5)
        · exact order_ee0 _ _ s t _ _ _ _ _ _ w hlen rfl (by omega) hpl (Lib.hid D1) (Lib.hid D2) (Lib.hid C1) (Lib.hid C2) (Lib.hid C3) (Lib.hid P1) (Lib.hid P2) (Lib.hid C4) (Lib.hid C5)
      · rw [h2] at C2 C3 hpl
        exact order_eg _ _ s t _ _ _ _ _ _ w hlen rfl hpl (Lib.hid D1) (Lib.hid D2) (Lib.hid C1) (Lib.hid C2) (Lib.hid C3) (Lib.hid P1) (Lib.hid P2) (Lib.hid C4) (Lib.hid C5)
    · rw [cmp_gt hxy] at C1
      rcases cmp_range s.data.toList t.data.toList with h2 | h2 | h2
      · rw [h2] at C2 C3 hpl htr
        by_cases h3 : cmpL t.data.toList (itoa x) ≤ 0
        · exact order_gl1 _ _ s t _ _ _ _ _ _ w hlen hxy h3 (htr (by decide) h3) hpl (Lib.hid D1) (Lib.hid D2) (Lib.hid C1) (Lib.hid C2) (Lib.hid C3) (Lib.hid P1) (Lib.hid P2) (Lib.hid C4) (Lib.hid C5)
        · exact order_gl0 _ _ s t _ _ _ _ _ _ w hlen hxy (by omega) hpl (Lib.hid D1) (Lib.hid D2) (Lib.hid C1) (Lib.hid C2) (Lib.hid C3) (Lib.hid P1) (Lib.hid P2) (Lib.hid C4) (Lib.hid C5)
      · rw [h2] at C2 C3 hpl htr
        by_cases h3 : cmpL t.data.toList (itoa x) ≤ 0
        · exact order_ge1 _ _ s t _ _ _ _ _ _ w hlen hxy h3 (htr (by decide) h3) hpl (Lib.hid D1) (Lib.hid D2) (Lib.hid C1) (Lib.hid C2) (Lib.hid C3) (Lib.hid P1) (Lib.hid P2) (Lib.hid C4) (Lib.hid C5)
        · exact order_ge0 _ _ s t _ _ _ _ _ _ w hlen hxy (by omega) hpl (Lib.hid D1) (Lib.hid D2) (Lib.hid C1) (Lib.hid C2) (Lib.hid C3) (Lib.hid P1) (Lib.hid P2) (Lib.hid C4) (Lib.hid C5)
      · rw [h2] at C2 C3 hpl
        exact order_gg _ _ s t _ _ _ _ _ _ w hlen hxy hpl (Lib.hid D1) (Lib.hid D2) (Lib.hid C1) (Lib.hid C2) (Lib.hid C3) (Lib.hid P1) (Lib.hid P2) (Lib.hid C4) (Lib.hid C5)
  · go_enter Tryd.func5, Tryd.ntmps5
    go_wp2_with fail
    go_ret
    exact ⟨rfl, below_box (Below.refl _ _)⟩
end Go.Proofs.YthdiaghkpolonaaDoor
