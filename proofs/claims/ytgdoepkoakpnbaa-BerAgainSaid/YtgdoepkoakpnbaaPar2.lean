/-
  The program's Parse.
-/
import Derived.Test.YtgdoepkoakpnbaaPar
import Derived.Deep.RegionHeldLaw
namespace Go.Proofs.Ytgdoepkoakpnbaa
open Go.RowKit

/-- What follows where the call panics. -/
def panQ (chain : List PanicEntry) (G : World → Prop) (p2 p3 p4 : Value) (D : List Deferred) (e : Exit) (a : Act) (w : World) : Prop :=
  match e with
  | .panic c => (c = chain ∧ G w) ∧ (a.tmps[2]? = some p2 ∧ a.tmps[3]? = some p3 ∧ a.tmps[4]? = some p4) ∧ a.defers = D
  | _ => False
theorem wp_panQ {P : Program} {c : Code} {chain : List PanicEntry} {G : World → Prop} {p2 p3 p4 : Value} {D : List Deferred} {Q : Exit → Act → World → Prop} {a : Act} {w : World}
    (hp : ∀ a w, G w → (a.tmps[2]? = some p2 ∧ a.tmps[3]? = some p3 ∧ a.tmps[4]? = some p4) → a.defers = D → Q (.panic chain) a w) (h : Code.wp P c (panQ chain G p2 p3 p4 D) a w) : Code.wp P c Q a w := by
  intro b k cs
  obtain ⟨e, a', w', q, r⟩ := h b k cs
  refine ⟨e, a', w', ?_, r⟩
  cases e <;> first | exact q.elim | (obtain ⟨⟨rfl, q1⟩, q2, q3⟩ := q; exact hp _ _ q1 q2 q3)
theorem panQ_put {chain : List PanicEntry} {G : World → Prop} {p2 p3 p4 : Value} {D : List Deferred} (d : Nat) (hd : 4 < d) (v : Value) (c : List PanicEntry) (a : Act) (w : World)
    (h : panQ chain G p2 p3 p4 D (.panic c) (a.put (some d) v) w) : panQ chain G p2 p3 p4 D (.panic c) a w := by
  obtain ⟨h1, ⟨h2, h3, h4⟩, h5⟩ := h
  have k : ∀ j, j < 5 → (a.put (some d) v).tmps[j]? = a.tmps[j]? := fun j hj => by
    unfold Act.put
    simp only []
    rw [Array.getElem?_setIfInBounds_ne (by omega)]
  exact ⟨h1, ⟨(k 2 (by omega)).symm.trans h2, (k 3 (by omega)).symm.trans h3, (k 4 (by omega)).symm.trans h4⟩, h5⟩
theorem keep_five {V : World} {B : Nat} {x0 x1 x2 x3 x4 : Value} (a : Addr) (u : Value) (hne : B ≠ a.block)
    (h : V.cell? ⟨B, 0, none⟩ = some x0 ∧ V.cell? ⟨B, 1, none⟩ = some x1 ∧ V.cell? ⟨B, 2, none⟩ = some x2 ∧ V.cell? ⟨B, 3, none⟩ = some x3 ∧ V.cell? ⟨B, 4, none⟩ = some x4) :
    (V.setCell a u).cell? ⟨B, 0, none⟩ = some x0 ∧ (V.setCell a u).cell? ⟨B, 1, none⟩ = some x1 ∧ (V.setCell a u).cell? ⟨B, 2, none⟩ = some x2 ∧ (V.setCell a u).cell? ⟨B, 3, none⟩ = some x3 ∧ (V.setCell a u).cell? ⟨B, 4, none⟩ = some x4 := by
  have k : ∀ o, (V.setCell a u).cell? ⟨B, o, none⟩ = V.cell? ⟨B, o, none⟩ := fun o => World.cell?_of_block (_root_.Go.heap_setCell_other _ _ _ _ hne)
  rw [k, k, k, k, k]
  exact h
/-- What follows where nothing panics. -/
def okQ (Q : Exit → Act → World → Prop) (e : Exit) (a : Act) (w : World) : Prop :=
  match e with
  | .panic _ => False
  | e => Q e a w
theorem wp_okQ {P : Program} {c : Code} {Q : Exit → Act → World → Prop} {a : Act} {w : World} (h : Code.wp P c (okQ Q) a w) : Code.wp P c Q a w := by
  intro b k cs
  obtain ⟨e, a', w', q, r⟩ := h b k cs
  refine ⟨e, a', w', ?_, r⟩
  cases e <;> first | exact q | exact q.elim

set_option maxRecDepth 8000 in
set_option maxHeartbeats 1600000 in
theorem par_ok (A : Option Addr) (cp n c k fr al : Nat) (m : Bool) (w : World) (hn : al ≤ n) (kid : El) (CN : Hid (∀ w', Below w.heap.size w w' → Calls Try.prog 30 #[.slice A n cp] w' fun en w'' => en = .returned (.tuple #[.agg #[.int .i64 (c : Int), .bool m, .int .i64 (k : Int), .int .i64 (fr : Int), .int .i64 (al : Int)], .int .i64 0]) ∧ Below w'.heap.size w' w''))
    (CD : Hid (∀ w', Below w.heap.size w w' → Calls Try.prog 33 #[.slice A n cp, .agg #[.int .i64 (c : Int), .bool m, .int .i64 (k : Int), .int .i64 (fr : Int), .int .i64 (al : Int)], .int .i64 0] w' (DecPost (kid, 0) w'))) :
    Calls Try.prog 17 #[.slice A n cp] w (ParQ (kid, al, 0) w) := by
  have kn : decide ((n : Int) < (al : Int)) = false := decide_eq_false (by omega)
  obtain ⟨W0, hW0⟩ : ∃ W0, W0 = ((w.alloc (.cells #[.int .i64 0, .bool false, .int .i64 0, .slice none 0 0, .slice none 0 0] 27)).alloc (.cells #[.int .i64 0] 3)).alloc (.cells #[.int .i64 0] 33) := ⟨_, rfl⟩
  have hB0 : Below w.heap.size w W0 := by rw [hW0]; go_grown
  have hz0 : W0.heap.size = w.heap.size + 3 := by rw [hW0]; simp
  have hX0 : W0.heap[w.heap.size]? = some (.cells #[.int .i64 0, .bool false, .int .i64 0, .slice none 0 0, .slice none 0 0] 27 (0, 0)) := by
    rw [hW0, Below.heap_alloc _ _ _ (by simp; omega), Below.heap_alloc _ _ _ (by simp)]; exact heap_alloc_new w _
  have hN0 : W0.heap[w.heap.size + 1]? = some (.cells #[.int .i64 0] 3 (0, 0)) := by
    rw [hW0, Below.heap_alloc _ _ _ (by simp)]; exact heap_alloc_new (w.alloc _) _ |> (by simpa using ·)
  have hE0 : W0.heap[w.heap.size + 2]? = some (.cells #[.int .i64 0] 33 (0, 0)) := by
    rw [hW0]; exact heap_alloc_new ((w.alloc _).alloc _) _ |> (by simpa using ·)
  go_enter_defers Try.func17, Try.ntmps17
  go_wp2_with fail
  rw [← hW0]
  clear hW0
  refine (CN.out W0 hB0).mono ?_
  rintro en w2 ⟨rfl, hb2⟩
  have hz2 := hb2.size
  have hE2 : ∀ ob : Obj, (w2.alloc ob).heap[w.heap.size + 2]? = some (.cells #[.int .i64 0] 33 (0, 0)) := fun ob => by
    rw [Below.heap_alloc _ _ _ (by omega), hb2.block _ (by omega)]; exact hE0
  have e0 : ∀ ob : Obj, (w2.alloc ob).cell? ⟨w.heap.size + 2, 0, none⟩ = some (.int .i64 0) := fun ob => cell_of_one (hE2 ob)
  have e1 : ∀ ob : Obj, (w2.alloc ob).frozen? ⟨w.heap.size + 2, 0, none⟩ = false := fun ob => free_of_one (hE2 ob)
  have hmf : ∀ (fn : Fn) (first cap : Array Value) (w : World), (Instr.makeFunc fn first cap).run Try.prog w = .ok (.func fn first cap) w := fun _ _ _ _ => rfl
  have hne : w2.heap.size ≠ w.heap.size + 2 := by omega
  have hne0 : w2.heap.size ≠ w.heap.size := by omega
  have hne1 : w2.heap.size ≠ w.heap.size + 1 := by omega
  replace hE2 := Lib.hid hE2
  replace hb2 := Lib.hid hb2
  replace hX0 := Lib.hid hX0
  replace hN0 := Lib.hid hN0
  replace hE0 := Lib.hid hE0
  replace hB0 := Lib.hid hB0
  replace hz0 := Lib.hid hz0
  go_wp2_with fail
  obtain ⟨W, hW⟩ : ∃ W, W = (w2.alloc (.cells #[.int .i64 (c : Int), .bool m, .int .i64 (k : Int), .int .i64 (fr : Int), .int .i64 (al : Int)] 71)).setCell ⟨w.heap.size + 2, 0, none⟩ (.int .i64 0) := ⟨_, rfl⟩
  have hBW : Below w.heap.size w W := by rw [hW]; exact ((hB0.out.trans (hb2.out.mono (by have := hz0.out; omega))).alloc (by have := hz0.out; omega) _).setCell (by show w.heap.size ≤ w.heap.size + 2; omega) _
  have hXW : W.heap[w.heap.size]? = some (.cells #[.int .i64 0, .bool false, .int .i64 0, .slice none 0 0, .slice none 0 0] 27 (0, 0)) := by
    rw [hW, _root_.Go.heap_setCell_other _ _ _ _ (by show w.heap.size ≠ w.heap.size + 2; omega), Below.heap_alloc _ _ _ (by have := hz0.out; omega), hb2.out.block _ (by have := hz0.out; omega)]; exact hX0.out
  have hNW : W.heap[w.heap.size + 1]? = some (.cells #[.int .i64 0] 3 (0, 0)) := by
    rw [hW, _root_.Go.heap_setCell_other _ _ _ _ (by show w.heap.size + 1 ≠ w.heap.size + 2; omega), Below.heap_alloc _ _ _ (by have := hz0.out; omega), hb2.out.block _ (by have := hz0.out; omega)]; exact hN0.out
  have hEW : W.heap[w.heap.size + 2]? = some (.cells #[.int .i64 0] 33 (0, 0)) := by
    rw [hW, _root_.Go.heap_setCell_same _ _ _ _ _ _ (hE2.out _)]; rfl
  have hHW : W.heap[w2.heap.size]? = some (.cells #[.int .i64 (c : Int), .bool m, .int .i64 (k : Int), .int .i64 (fr : Int), .int .i64 (al : Int)] 71 (0, 0)) := by
    rw [hW, _root_.Go.heap_setCell_other _ _ _ _ (by show w2.heap.size ≠ w.heap.size + 2; omega)]; exact heap_alloc_new w2 _
  have hsW : W.heap.size = w2.heap.size + 1 := by rw [hW]; simp [World.setCell]
  rw [← hW]
  clear hW e0 e1
  obtain ⟨r0, r1, r2, r3, r4, f0, f1, f2, f3, f4⟩ := cells5 hXW
  have n0 := cell_of_one hNW
  have n1 := free_of_one hNW
  have m0 := cell_of_one hEW
  have m1 := free_of_one hEW
  obtain ⟨k0, k1, k2, k3, k4, _⟩ := cells5 hHW
  have KP : Hid (∀ w3, Below W.heap.size W w3 → (w3.cell? ⟨w2.heap.size, 0, none⟩ = some (.int .i64 (c : Int)) ∧ w3.cell? ⟨w2.heap.size, 1, none⟩ = some (.bool m) ∧ w3.cell? ⟨w2.heap.size, 2, none⟩ = some (.int .i64 (k : Int)) ∧ w3.cell? ⟨w2.heap.size, 3, none⟩ = some (.int .i64 (fr : Int)) ∧ w3.cell? ⟨w2.heap.size, 4, none⟩ = some (.int .i64 (al : Int)))) := Lib.hid fun w3 h3 => by
    obtain ⟨y0, y1, y2, y3, y4, _⟩ := cells5 ((h3.block _ (by omega)).trans hHW)
    exact ⟨y0, y1, y2, y3, y4⟩
  have HW3 : Hid (∀ w3, Below W.heap.size W w3 → w3.heap[w.heap.size]? = some (.cells #[.int .i64 0, .bool false, .int .i64 0, .slice none 0 0, .slice none 0 0] 27 (0, 0)) ∧ w3.heap[w.heap.size + 1]? = some (.cells #[.int .i64 0] 3 (0, 0)) ∧ w3.heap[w.heap.size + 2]? = some (.cells #[.int .i64 0] 33 (0, 0))) := Lib.hid fun w3 h3 => by
    have := hz0.out
    exact ⟨(h3.block _ (by omega)).trans hXW, (h3.block _ (by omega)).trans hNW, (h3.block _ (by omega)).trans hEW⟩
  have hzW : w.heap.size + 3 ≤ W.heap.size := by have := hz0.out; omega
  have hwW : w2.heap.size < W.heap.size := by omega
  replace hXW := Lib.hid hXW
  replace hNW := Lib.hid hNW
  replace hEW := Lib.hid hEW
  replace hHW := Lib.hid hHW
  replace hBW := Lib.hid hBW
  clear r0 r1 r2 r3 r4 f0 f1 f2 f3 f4 n0 n1 m0 m1
  obtain ⟨s0, s1, s2, s3, s4⟩ := KP.out W (Below.refl _ _)
  clear k0 k1 k2 k3 k4
  refine wp_okQ ?_
  refine wp_region_held_drew (S := (fun W => W.cell? ⟨w2.heap.size, 0, none⟩ = some (.int .i64 (c : Int)) ∧ W.cell? ⟨w2.heap.size, 1, none⟩ = some (.bool m) ∧ W.cell? ⟨w2.heap.size, 2, none⟩ = some (.int .i64 (k : Int)) ∧ W.cell? ⟨w2.heap.size, 3, none⟩ = some (.int .i64 (fr : Int)) ∧ W.cell? ⟨w2.heap.size, 4, none⟩ = some (.int .i64 (al : Int)))) (by kernel_rfl) ⟨s0, s1, s2, s3, s4⟩ ?_
  intro hHeld
  refine takeL 0 22 (v := ?_) rfl rfl (by kernel_rfl) (by kernel_rfl) (by kernel_rfl) (fun _ _ _ h => h) (Or.inl ⟨by rfl, ?hy0⟩) hHeld ?rest0
  case hy0 => intro W hS; (try dsimp only at hS); go_simp; try (with_reducible rfl)
  dsimp only [List.set]
  refine takeL 1 23 (v := ?_) rfl rfl (by kernel_rfl) (by kernel_rfl) (by kernel_rfl) (fun _ _ _ h => h) (Or.inl ⟨by rfl, ?hy1⟩) hHeld ?rest1
  case hy1 => intro W hS; (try dsimp only at hS); go_simp; try (with_reducible rfl)
  dsimp only [List.set]
  refine takeL 3 25 (v := ?_) rfl rfl (by kernel_rfl) (by kernel_rfl) (by kernel_rfl) (fun _ _ _ h => h) (Or.inl ⟨by rfl, ?hy3⟩) hHeld ?rest3
  case hy3 => intro W hS; (try dsimp only at hS); go_simp; try (with_reducible rfl)
  dsimp only [List.set]
  refine takeL 4 26 (v := ?_) rfl rfl (by kernel_rfl) (by kernel_rfl) (by kernel_rfl) (fun _ _ _ h => h) (Or.inl ⟨by rfl, ?hy4⟩) hHeld ?rest4
  case hy4 => intro W hS; (try dsimp only at hS); go_simp; try (with_reducible rfl)
  dsimp only [List.set]
  refine wpAnyH_ready (rs := [2]) (by kernel_rfl) (by simp) ?_
  refine AllReadyH.cons rfl (fun K hK => ?_) AllReadyH.nil
  go_simp
  go_at_call 33
  refine (CD.out _ hBW.out.drew).mono ?_
  rintro en w3 ⟨hok, _, hb3⟩
  obtain ⟨Ab2, cb2, A3, c3, rfl, hkin⟩ := hok rfl
  have HB3 := Lib.hid (show Below W.heap.size W w3 from (Below.refl W.heap.size W).trans ⟨hb3.os, hb3.tape, hb3.output, hb3.size, hb3.block⟩)
  have hz3 := HB3.out.size
  replace hkin := Lib.hid (show ElIn w3 (New W.heap.size w3) kid Ab2 cb2 A3 c3 from hkin)
  have HX3 := Lib.hid (HW3.out w3 HB3.out)
  obtain ⟨r0, r1, r2, r3, r4, f0, f1, f2, f3, f4⟩ := cells5 HX3.out.1
  have n0 := cell_of_one HX3.out.2.1
  have n1 := free_of_one HX3.out.2.1
  have m0 := cell_of_one HX3.out.2.2
  have m1 := free_of_one HX3.out.2.2
  unfold elV
  clear hb3 hok
  dsimp only []
  refine hK.out _ _ ?_ (fun hHeld => ?_)
  · exact KP.out _ HB3.out
  clear hK K

  refine wpAnyH_ready (rs := [5]) (by kernel_rfl) (by simp) ?_
  refine AllReadyH.cons rfl (fun K hK => ?_) AllReadyH.nil
  go_simp
  refine hK.out _ _ (keep_five _ _ hne0 (keep_five _ _ hne0 (keep_five _ _ hne0 (keep_five _ _ hne0 (keep_five _ _ hne0 hHeld))))) (fun hHeld2 => ?_)
  clear hK K hHeld
  have hHeld := hHeld2
  clear hHeld2
  refine wpAnyH_ready (rs := [6]) (by kernel_rfl) (by simp) ?_
  refine AllReadyH.cons rfl (fun K hK => ?_) AllReadyH.nil
  go_simp
  refine hK.out _ _ (keep_five _ _ hne1 hHeld) (fun hHeld2 => ?_)
  clear hK K hHeld
  have hHeld := hHeld2
  clear hHeld2
  refine wpAnyH_ready (rs := [7]) (by kernel_rfl) (by simp) ?_
  refine AllReadyH.cons rfl (fun K hK => ?_) AllReadyH.nil
  go_simp
  refine hK.out _ _ (keep_five _ _ hne hHeld) (fun hHeld2 => ?_)
  clear hK K hHeld
  have hHeld := hHeld2
  clear hHeld2
  refine wpAnyH_done (by kernel_rfl) ?_ _
  clear r0 r1 r2 r3 r4 f0 f1 f2 f3 f4 n0 n1 m0 m1 s0 s1 s2 s3 s4 hHeld
  obtain ⟨W9, hW9⟩ : ∃ W9, W9 = ((set5 w3 w.heap.size (.int .i64 kid.c) (.bool kid.m) (.int .i64 kid.n) (.slice Ab2 kid.b.length cb2) (.slice A3 kid.kids.length c3)).setCell ⟨w.heap.size + 1, 0, none⟩ (.int .i64 (al : Int))).setCell ⟨w.heap.size + 2, 0, none⟩ (.int .i64 0) := ⟨_, rfl⟩
  have hB3 : Below w.heap.size w w3 := hBW.out.trans (HB3.out.mono (by omega))
  obtain ⟨c1, c2, c3', c4⟩ := par_cells HX3.out.1 HX3.out.2.1 HX3.out.2.2 hB3 (.int .i64 kid.c) (.bool kid.m) (.int .i64 kid.n) (.slice Ab2 kid.b.length cb2) (.slice A3 kid.kids.length c3) (.int .i64 (al : Int)) (.int .i64 0)
  have hin9 : ElIn W9 (New w.heap.size W9) kid Ab2 cb2 A3 c3 := by
    refine (hkin.out.keep fun p hp => ?_).more fun x hx => ⟨by have := hx.1; omega, ?_⟩
    · have hp1 : W.heap.size ≤ p.block := hp.1
      rw [hW9]
      refine (World.cell?_of_block (heap_setCell_other _ _ _ _ (by show p.block ≠ w.heap.size + 2; omega))).trans ((World.cell?_of_block (heap_setCell_other _ _ _ _ (by show p.block ≠ w.heap.size + 1; omega))).trans (set5_other _ _ _ _ _ _ _ p (by omega)))
    · rw [hW9]
      exact ((hx.2.set5 _ _ _ _ _ _).setCell _ _).setCell _ _
  have HX : (((((((w3.setCell ⟨w.heap.size, 0, none⟩ (.int .i64 kid.c)).setCell ⟨w.heap.size, 1, none⟩ (.bool kid.m)).setCell ⟨w.heap.size, 2, none⟩ (.int .i64 kid.n)).setCell ⟨w.heap.size, 3, none⟩ (.slice Ab2 kid.b.length cb2)).setCell ⟨w.heap.size, 4, none⟩ (.slice A3 kid.kids.length c3)).setCell ⟨w.heap.size + 1, 0, none⟩ (.int .i64 (al : Int))).setCell ⟨w.heap.size + 2, 0, none⟩ (.int .i64 0)) = W9 := hW9.symm
  rw [← hW9] at c1 c2 c3' c4
  rw [HX]
  clear HX hW9
  obtain ⟨q0, q1, q2, q3, q4, _⟩ := cells5 c1
  have q5 := cell_of_one c2
  have q6 := cell_of_one c3'
  replace c1 := Lib.hid c1
  replace c2 := Lib.hid c2
  replace c3' := Lib.hid c3'
  replace hin9 := Lib.hid hin9
  unfold okQ
  go_wp2_with fail
  refine leaves_cons (f := 32) (args := #[.pointer (some ⟨w.heap.size, 0, none⟩), .pointer (some ⟨w.heap.size + 1, 0, none⟩), .pointer (some ⟨w.heap.size + 2, 0, none⟩)]) (by simp) (by simp [go_sem]) ?_
  refine (catchP_idle _ _ _ _).mono ?_
  rintro e u' w'' ⟨rfl, rfl, rfl⟩
  exact ⟨.tuple #[.agg #[.int .i64 kid.c, .bool kid.m, .int .i64 kid.n, .slice Ab2 kid.b.length cb2, .slice A3 kid.kids.length c3], .int .i64 (al : Int), .int .i64 0], by simp [results, Try.results17, go_sem, q0, q1, q2, q3, q4, q5, q6], ⟨Ab2, cb2, A3, c3, rfl, hin9.out, c4⟩⟩

set_option maxRecDepth 8000 in
set_option maxHeartbeats 800000 in
theorem par_pan (A : Option Addr) (cp n c k fr al e : Nat) (m : Bool) (w : World) (hn : al ≤ n) (kid : El) (he : e ≠ 0) (CN : Hid (∀ w', Below w.heap.size w w' → Calls Try.prog 30 #[.slice A n cp] w' fun en w'' => en = .returned (.tuple #[.agg #[.int .i64 (c : Int), .bool m, .int .i64 (k : Int), .int .i64 (fr : Int), .int .i64 (al : Int)], .int .i64 0]) ∧ Below w'.heap.size w' w''))
    (CD : Hid (∀ w', Below w.heap.size w w' → Calls Try.prog 33 #[.slice A n cp, .agg #[.int .i64 (c : Int), .bool m, .int .i64 (k : Int), .int .i64 (fr : Int), .int .i64 (al : Int)], .int .i64 0] w' (DecPost (kid, e) w'))) :
    Calls Try.prog 17 #[.slice A n cp] w (ParQ (el0, 0, e) w) := by
  have kn : decide ((n : Int) < (al : Int)) = false := decide_eq_false (by omega)
  obtain ⟨W0, hW0⟩ : ∃ W0, W0 = ((w.alloc (.cells #[.int .i64 0, .bool false, .int .i64 0, .slice none 0 0, .slice none 0 0] 27)).alloc (.cells #[.int .i64 0] 3)).alloc (.cells #[.int .i64 0] 33) := ⟨_, rfl⟩
  have hB0 : Below w.heap.size w W0 := by rw [hW0]; go_grown
  have hz0 : W0.heap.size = w.heap.size + 3 := by rw [hW0]; simp
  have hX0 : W0.heap[w.heap.size]? = some (.cells #[.int .i64 0, .bool false, .int .i64 0, .slice none 0 0, .slice none 0 0] 27 (0, 0)) := by
    rw [hW0, Below.heap_alloc _ _ _ (by simp; omega), Below.heap_alloc _ _ _ (by simp)]; exact heap_alloc_new w _
  have hN0 : W0.heap[w.heap.size + 1]? = some (.cells #[.int .i64 0] 3 (0, 0)) := by
    rw [hW0, Below.heap_alloc _ _ _ (by simp)]; exact heap_alloc_new (w.alloc _) _ |> (by simpa using ·)
  have hE0 : W0.heap[w.heap.size + 2]? = some (.cells #[.int .i64 0] 33 (0, 0)) := by
    rw [hW0]; exact heap_alloc_new ((w.alloc _).alloc _) _ |> (by simpa using ·)
  go_enter_defers Try.func17, Try.ntmps17
  go_wp2_with fail
  rw [← hW0]
  clear hW0
  refine (CN.out W0 hB0).mono ?_
  rintro en w2 ⟨rfl, hb2⟩
  have hz2 := hb2.size
  have hE2 : ∀ ob : Obj, (w2.alloc ob).heap[w.heap.size + 2]? = some (.cells #[.int .i64 0] 33 (0, 0)) := fun ob => by
    rw [Below.heap_alloc _ _ _ (by omega), hb2.block _ (by omega)]; exact hE0
  have e0 : ∀ ob : Obj, (w2.alloc ob).cell? ⟨w.heap.size + 2, 0, none⟩ = some (.int .i64 0) := fun ob => cell_of_one (hE2 ob)
  have e1 : ∀ ob : Obj, (w2.alloc ob).frozen? ⟨w.heap.size + 2, 0, none⟩ = false := fun ob => free_of_one (hE2 ob)
  have hmf : ∀ (fn : Fn) (first cap : Array Value) (w : World), (Instr.makeFunc fn first cap).run Try.prog w = .ok (.func fn first cap) w := fun _ _ _ _ => rfl
  have hne : w2.heap.size ≠ w.heap.size + 2 := by omega
  have hne0 : w2.heap.size ≠ w.heap.size := by omega
  have hne1 : w2.heap.size ≠ w.heap.size + 1 := by omega
  replace hE2 := Lib.hid hE2
  replace hb2 := Lib.hid hb2
  replace hX0 := Lib.hid hX0
  replace hN0 := Lib.hid hN0
  replace hE0 := Lib.hid hE0
  replace hB0 := Lib.hid hB0
  replace hz0 := Lib.hid hz0
  go_wp2_with fail
  obtain ⟨W, hW⟩ : ∃ W, W = (w2.alloc (.cells #[.int .i64 (c : Int), .bool m, .int .i64 (k : Int), .int .i64 (fr : Int), .int .i64 (al : Int)] 71)).setCell ⟨w.heap.size + 2, 0, none⟩ (.int .i64 0) := ⟨_, rfl⟩
  have hBW : Below w.heap.size w W := by rw [hW]; exact ((hB0.out.trans (hb2.out.mono (by have := hz0.out; omega))).alloc (by have := hz0.out; omega) _).setCell (by show w.heap.size ≤ w.heap.size + 2; omega) _
  have hXW : W.heap[w.heap.size]? = some (.cells #[.int .i64 0, .bool false, .int .i64 0, .slice none 0 0, .slice none 0 0] 27 (0, 0)) := by
    rw [hW, _root_.Go.heap_setCell_other _ _ _ _ (by show w.heap.size ≠ w.heap.size + 2; omega), Below.heap_alloc _ _ _ (by have := hz0.out; omega), hb2.out.block _ (by have := hz0.out; omega)]; exact hX0.out
  have hNW : W.heap[w.heap.size + 1]? = some (.cells #[.int .i64 0] 3 (0, 0)) := by
    rw [hW, _root_.Go.heap_setCell_other _ _ _ _ (by show w.heap.size + 1 ≠ w.heap.size + 2; omega), Below.heap_alloc _ _ _ (by have := hz0.out; omega), hb2.out.block _ (by have := hz0.out; omega)]; exact hN0.out
  have hEW : W.heap[w.heap.size + 2]? = some (.cells #[.int .i64 0] 33 (0, 0)) := by
    rw [hW, _root_.Go.heap_setCell_same _ _ _ _ _ _ (hE2.out _)]; rfl
  have hHW : W.heap[w2.heap.size]? = some (.cells #[.int .i64 (c : Int), .bool m, .int .i64 (k : Int), .int .i64 (fr : Int), .int .i64 (al : Int)] 71 (0, 0)) := by
    rw [hW, _root_.Go.heap_setCell_other _ _ _ _ (by show w2.heap.size ≠ w.heap.size + 2; omega)]; exact heap_alloc_new w2 _
  have hsW : W.heap.size = w2.heap.size + 1 := by rw [hW]; simp [World.setCell]
  rw [← hW]
  clear hW e0 e1
  obtain ⟨r0, r1, r2, r3, r4, f0, f1, f2, f3, f4⟩ := cells5 hXW
  have n0 := cell_of_one hNW
  have n1 := free_of_one hNW
  have m0 := cell_of_one hEW
  have m1 := free_of_one hEW
  obtain ⟨k0, k1, k2, k3, k4, _⟩ := cells5 hHW
  have KP : Hid (∀ w3, Below W.heap.size W w3 → (w3.cell? ⟨w2.heap.size, 0, none⟩ = some (.int .i64 (c : Int)) ∧ w3.cell? ⟨w2.heap.size, 1, none⟩ = some (.bool m) ∧ w3.cell? ⟨w2.heap.size, 2, none⟩ = some (.int .i64 (k : Int)) ∧ w3.cell? ⟨w2.heap.size, 3, none⟩ = some (.int .i64 (fr : Int)) ∧ w3.cell? ⟨w2.heap.size, 4, none⟩ = some (.int .i64 (al : Int)))) := Lib.hid fun w3 h3 => by
    obtain ⟨y0, y1, y2, y3, y4, _⟩ := cells5 ((h3.block _ (by omega)).trans hHW)
    exact ⟨y0, y1, y2, y3, y4⟩
  have HW3 : Hid (∀ w3, Below W.heap.size W w3 → w3.heap[w.heap.size]? = some (.cells #[.int .i64 0, .bool false, .int .i64 0, .slice none 0 0, .slice none 0 0] 27 (0, 0)) ∧ w3.heap[w.heap.size + 1]? = some (.cells #[.int .i64 0] 3 (0, 0)) ∧ w3.heap[w.heap.size + 2]? = some (.cells #[.int .i64 0] 33 (0, 0))) := Lib.hid fun w3 h3 => by
    have := hz0.out
    exact ⟨(h3.block _ (by omega)).trans hXW, (h3.block _ (by omega)).trans hNW, (h3.block _ (by omega)).trans hEW⟩
  have hzW : w.heap.size + 3 ≤ W.heap.size := by have := hz0.out; omega
  have hwW : w2.heap.size < W.heap.size := by omega
  replace hXW := Lib.hid hXW
  replace hNW := Lib.hid hNW
  replace hEW := Lib.hid hEW
  replace hHW := Lib.hid hHW
  replace hBW := Lib.hid hBW
  clear r0 r1 r2 r3 r4 f0 f1 f2 f3 f4 n0 n1 m0 m1
  obtain ⟨s0, s1, s2, s3, s4⟩ := KP.out W (Below.refl _ _)
  clear k0 k1 k2 k3 k4
  replace hsW := Lib.hid hsW
  refine wp_panQ (chain := [{ v := .iface 33 (.int .i64 (e : Int)), recovered := false }]) (G := fun w3 => Below W.heap.size W w3) (p2 := .pointer (some ⟨w.heap.size, 0, none⟩)) (p3 := .pointer (some ⟨w.heap.size + 1, 0, none⟩)) (p4 := .pointer (some ⟨w.heap.size + 2, 0, none⟩))
    (D := [{ target := .fn (.func 32) #[.pointer (some ⟨w.heap.size, 0, none⟩), .pointer (some ⟨w.heap.size + 1, 0, none⟩), .pointer (some ⟨w.heap.size + 2, 0, none⟩)], args := #[] }]) ?_ ?_
  · intro a w3 h3 hp hD
    obtain ⟨t2, t3, t4⟩ := hp
    obtain ⟨x1, x2, x3⟩ := HW3.out w3 h3
    have hB3 : Below w.heap.size w w3 := hBW.out.trans (h3.mono (by omega))
    change Leaves _ _ _ _ a.defers _ _
    rw [hD]
    refine leaves_cons (f := 32) (args := #[.pointer (some ⟨w.heap.size, 0, none⟩), .pointer (some ⟨w.heap.size + 1, 0, none⟩), .pointer (some ⟨w.heap.size + 2, 0, none⟩)]) (by simp) (by simp [go_sem]) ?_
    refine (catchP_pan _ _ _ e [] w3 _ _ _ _ _ _ _ x1 x2 x3 (by omega) (by omega) (by omega)).mono ?_
    rintro en u' w'' ⟨rfl, rfl, rfl⟩
    obtain ⟨c1, c2, c3', c4⟩ := par_cells x1 x2 x3 hB3 (.int .i64 0) (.bool false) (.int .i64 0) (.slice none 0 0) (.slice none 0 0) (.int .i64 0) (.int .i64 (e : Int))
    obtain ⟨W9, hW9⟩ : ∃ W9, W9 = ((set5 w3 w.heap.size (.int .i64 0) (.bool false) (.int .i64 0) (.slice none 0 0) (.slice none 0 0)).setCell ⟨w.heap.size + 1, 0, none⟩ (.int .i64 0)).setCell ⟨w.heap.size + 2, 0, none⟩ (.int .i64 (e : Int)) := ⟨_, rfl⟩
    rw [← hW9] at c1 c2 c3' c4
    rw [← hW9]
    clear hW9
    obtain ⟨q0, q1, q2, q3, q4, _⟩ := cells5 c1
    have q5 := cell_of_one c2
    have q6 := cell_of_one c3'
    refine ⟨.tuple #[.agg #[.int .i64 0, .bool false, .int .i64 0, .slice none 0 0, .slice none 0 0], .int .i64 0, .int .i64 (e : Int)], ?_, par_post (q := (el0, 0, e)) rfl ⟨c4.os, c4.tape, c4.output, c4.size, c4.block⟩⟩
    simp [results, Try.results17, go_sem, q0, q1, q2, q3, q4, q5, q6, t2, t3, t4]
  refine wp_region_held_drew (S := (fun W => W.cell? ⟨w2.heap.size, 0, none⟩ = some (.int .i64 (c : Int)) ∧ W.cell? ⟨w2.heap.size, 1, none⟩ = some (.bool m) ∧ W.cell? ⟨w2.heap.size, 2, none⟩ = some (.int .i64 (k : Int)) ∧ W.cell? ⟨w2.heap.size, 3, none⟩ = some (.int .i64 (fr : Int)) ∧ W.cell? ⟨w2.heap.size, 4, none⟩ = some (.int .i64 (al : Int)))) (by kernel_rfl) ⟨s0, s1, s2, s3, s4⟩ ?_
  intro hHeld
  refine takeL 0 22 (v := ?_) rfl rfl (by kernel_rfl) (by kernel_rfl) (by kernel_rfl) (fun c a w h => panQ_put 22 (by decide) _ c a w h) (Or.inl ⟨by rfl, ?hy0⟩) hHeld ?rest0
  case hy0 => intro W hS; (try dsimp only at hS); go_simp; try (with_reducible rfl)
  dsimp only [List.set]
  refine takeL 1 23 (v := ?_) rfl rfl (by kernel_rfl) (by kernel_rfl) (by kernel_rfl) (fun c a w h => panQ_put 23 (by decide) _ c a w h) (Or.inl ⟨by rfl, ?hy1⟩) hHeld ?rest1
  case hy1 => intro W hS; (try dsimp only at hS); go_simp; try (with_reducible rfl)
  dsimp only [List.set]
  refine takeL 3 25 (v := ?_) rfl rfl (by kernel_rfl) (by kernel_rfl) (by kernel_rfl) (fun c a w h => panQ_put 25 (by decide) _ c a w h) (Or.inl ⟨by rfl, ?hy3⟩) hHeld ?rest3
  case hy3 => intro W hS; (try dsimp only at hS); go_simp; try (with_reducible rfl)
  dsimp only [List.set]
  refine takeL 4 26 (v := ?_) rfl rfl (by kernel_rfl) (by kernel_rfl) (by kernel_rfl) (fun c a w h => panQ_put 26 (by decide) _ c a w h) (Or.inl ⟨by rfl, ?hy4⟩) hHeld ?rest4
  case hy4 => intro W hS; (try dsimp only at hS); go_simp; try (with_reducible rfl)
  dsimp only [List.set]
  refine wpAnyH_ready (rs := [2]) (by kernel_rfl) (by simp) ?_
  refine AllReadyH.cons rfl (fun K hK => ?_) AllReadyH.nil
  go_simp
  go_at_call 33
  refine (CD.out _ hBW.out.drew).mono ?_
  rintro en w3 ⟨_, herr, hb3⟩
  obtain rfl := herr he
  exact ⟨⟨rfl, (Below.refl W.heap.size W).trans ⟨hb3.os, hb3.tape, hb3.output, hb3.size, hb3.block⟩⟩, ⟨rfl, rfl, rfl⟩, rfl⟩
/-- The program's Parse of any bytes. -/
theorem par_any (A : Option Addr) (cp : Nat) (l : List Nat) (w : World) (K : Nat) (hs : Src w K A cp l) (hK : K ≤ w.heap.size) (hl : l.length ≤ 1048600) (hcp : cp ≤ 9223372036854775807) (hby : ∀ x ∈ l, x < 256) :
    Calls Try.prog 17 #[.slice A l.length cp] w (ParQ (parP l) w) := by
  have CN := fun w' (hb : Below w.heap.size w w') => readHead_any A cp l w' K (hs.below (hb.mono hK)) (Nat.le_trans hK hb.size) hl hcp hby
  unfold parP
  by_cases h1 : (hdT l).2.2 = 0
  · rw [if_neg (by simpa using h1)]
    unfold headV at CN
    rw [if_pos h1] at CN
    by_cases h2 : l.length < (hdT l).1
    · rw [if_pos h2]
      rw [h1] at CN
      exact par_short A cp l.length _ _ _ _ _ w h2 (Lib.hid CN)
    · rw [if_neg h2]
      have CD := fun w' (hb : Below w.heap.size w w') => dec_any (2 * (hdT l).1) 0 l A cp w' K (Nat.le_refl _) (hs.below (hb.mono hK)) (Nat.le_trans hK hb.size) hl hcp hby h1 (by omega) (by omega)
      unfold headV at CD
      rw [if_pos h1] at CD
      rw [h1] at CN
      obtain ⟨q, hq⟩ : ∃ q, q = inP (2 * (hdT l).1) (l.take (hdT l).1) 0 := ⟨_, rfl⟩
      rw [← hq] at CD ⊢
      obtain ⟨kid, e2⟩ := q
      by_cases h3 : e2 = 0
      · subst h3
        rw [if_neg (by simp)]
        exact par_ok A cp l.length _ _ _ _ _ w (by omega) _ (Lib.hid CN) (Lib.hid CD)
      · rw [if_pos h3]
        exact par_pan A cp l.length _ _ _ _ _ _ w (by omega) _ h3 (Lib.hid CN) (Lib.hid CD)
  · rw [if_pos h1]
    unfold headV at CN
    rw [if_neg h1] at CN
    exact par_err A cp l.length _ w h1 (Lib.hid CN)
end Go.Proofs.Ytgdoepkoakpnbaa
