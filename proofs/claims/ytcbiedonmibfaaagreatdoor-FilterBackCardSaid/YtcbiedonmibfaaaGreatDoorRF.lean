/- Filters. -/
import Derived.Test.YtcbiedonmibfaaaGreatDoorF14rp
import Derived.Test.YtcbiedonmibfaaaGreatDoorF14B
namespace Go.Proofs.YtcbiedonmibfaaaGreatDoor
open Go.RowKit Go.Lib
theorem owns_set {w : World} {base g cap m : Nat} {T : TypeId} {xs : List Value} (h : w.ownsRow base T 7 (.slice (some ⟨g, 0, none⟩) m cap) m xs) (j : Nat) (u : Value) : (w.setCell ⟨g, j, none⟩ u).ownsRow base T 7 (.slice (some ⟨g, 0, none⟩) m cap) m (xs.set j u) := by
 obtain ⟨hl, h0 | ⟨g', cap', cur, hv, hbs, hg, hn, hm, hs, hx⟩⟩ := h
 · cases h0.1
 · injection hv with e1 e2 e3
   injection e1 with e1
   injection e1 with e1
   subst e1 e3
   refine ⟨by rw [List.length_set]; exact hl, .inr ⟨g, cap, cur.setIfInBounds j u, rfl, hbs, _root_.Go.heap_setCell_same _ _ _ _ _ _ hg, hn, hm, by rw [Array.size_setIfInBounds]; exact hs, ?_⟩⟩
   rw [Array.toList_setIfInBounds, List.take_set, hx]
theorem owns_cell {w : World} {base g cap m : Nat} {T : TypeId} {xs : List Value} (h : w.ownsRow base T 7 (.slice (some ⟨g, 0, none⟩) m cap) m xs) : ∀ i, i < m * 7 → w.cell? ⟨g, i, none⟩ = xs[i]? ∧ w.frozen? ⟨g, i, none⟩ = false := by
 obtain ⟨hl, h0 | ⟨g', cap', cur, hv, hbs, hg, hn, hm, hs, hx⟩⟩ := h
 · cases h0.1
 · injection hv with e1 e2 e3
   injection e1 with e1
   injection e1 with e1
   subst e1 e3
   intro i hi
   refine ⟨?_, free7 hg i⟩
   rw [cell_of_row w g i cur _ _ hg, ← hx, List.getElem?_take, if_pos hi]
   simp
theorem owns_last {w : World} {base g cap n : Nat} {T : TypeId} {cs : List Value} {z0 z1 z2 z3 z4 z5 z6 : Value} (h : w.ownsRow base T 7 (.slice (some ⟨g, 0, none⟩) (n + 1) cap) (n + 1) (cs ++ [z0, z1, z2, z3, z4, z5, z6])) (hcs : cs.length = n * 7) :
 w.cell? ⟨g, n * 7, none⟩ = some z0 ∧ w.cell? ⟨g, n * 7 + 1, none⟩ = some z1 ∧ w.cell? ⟨g, n * 7 + 2, none⟩ = some z2 ∧ w.cell? ⟨g, n * 7 + 3, none⟩ = some z3 ∧ w.cell? ⟨g, n * 7 + 4, none⟩ = some z4 ∧ w.cell? ⟨g, n * 7 + 5, none⟩ = some z5 ∧ w.cell? ⟨g, n * 7 + 6, none⟩ = some z6 := by
 have H : ∀ k, k < 7 → w.cell? ⟨g, n * 7 + k, none⟩ = [z0, z1, z2, z3, z4, z5, z6][k]? := fun k hk => by
  rw [(owns_cell h (n * 7 + k) (by omega)).1, ← hcs, List.getElem?_append_right (Nat.le_add_right _ _), Nat.add_sub_cancel_left]
 exact ⟨H 0 (by omega), H 1 (by omega), H 2 (by omega), H 3 (by omega), H 4 (by omega), H 5 (by omega), H 6 (by omega)⟩
theorem setCell_comm (w : World) (a b : Addr) (u v : Value) (h : a.block ≠ b.block) : (w.setCell a u).setCell b v = (w.setCell b v).setCell a u := by
 unfold World.setCell
 congr 1
 apply Array.ext_getElem?
 intro i
 simp only [Array.getElem?_modify]
 by_cases h1 : a.block = i
 · have h2 : b.block ≠ i := fun e => h (h1.trans e.symm)
   simp [h1, h2]
 · simp [h1]
def setA (w : World) (g o : Nat) (u0 u1 u2 u3 u4 u5 u6 : Value) : World := ((((((w.setCell ⟨g, o, none⟩ u0).setCell ⟨g, o + 1, none⟩ u1).setCell ⟨g, o + 2, none⟩ u2).setCell ⟨g, o + 3, none⟩ u3).setCell ⟨g, o + 4, none⟩ u4).setCell ⟨g, o + 5, none⟩ u5).setCell ⟨g, o + 6, none⟩ u6
theorem setA_comm (w : World) (g o X : Nat) (v u0 u1 u2 u3 u4 u5 u6 : Value) (h : X ≠ g) : setA (w.setCell ⟨X, 1, none⟩ v) g o u0 u1 u2 u3 u4 u5 u6 = (setA w g o u0 u1 u2 u3 u4 u5 u6).setCell ⟨X, 1, none⟩ v := by
 unfold setA
 rw [setCell_comm w _ _ v u0 h, setCell_comm _ _ _ v u1 h, setCell_comm _ _ _ v u2 h, setCell_comm _ _ _ v u3 h, setCell_comm _ _ _ v u4 h, setCell_comm _ _ _ v u5 h, setCell_comm _ _ _ v u6 h]
theorem setA_other {w : World} {g o k : Nat} (u0 u1 u2 u3 u4 u5 u6 : Value) (h : k ≠ g) : (setA w g o u0 u1 u2 u3 u4 u5 u6).heap[k]? = w.heap[k]? := by
 unfold setA
 rw [Below.heap_setCell _ _ _ _ h, Below.heap_setCell _ _ _ _ h, Below.heap_setCell _ _ _ _ h, Below.heap_setCell _ _ _ _ h, Below.heap_setCell _ _ _ _ h, Below.heap_setCell _ _ _ _ h, Below.heap_setCell _ _ _ _ h]
theorem setA_size {w : World} {g o : Nat} (u0 u1 u2 u3 u4 u5 u6 : Value) : (setA w g o u0 u1 u2 u3 u4 u5 u6).heap.size = w.heap.size := by
 unfold setA
 simp only [World.setCell, Array.size_modify]
theorem owns_setA {w : World} {base g cap n : Nat} {T : TypeId} {cs : List Value} {z0 z1 z2 z3 z4 z5 z6 : Value} (h : w.ownsRow base T 7 (.slice (some ⟨g, 0, none⟩) (n + 1) cap) (n + 1) (cs ++ [z0, z1, z2, z3, z4, z5, z6])) (hcs : cs.length = n * 7) (u0 u1 u2 u3 u4 u5 u6 : Value) :
 (setA w g (n * 7) u0 u1 u2 u3 u4 u5 u6).ownsRow base T 7 (.slice (some ⟨g, 0, none⟩) (n + 1) cap) (n + 1) (cs ++ [u0, u1, u2, u3, u4, u5, u6]) := by
 have := owns_set (owns_set (owns_set (owns_set (owns_set (owns_set (owns_set h (n * 7) u0) (n * 7 + 1) u1) (n * 7 + 2) u2) (n * 7 + 3) u3) (n * 7 + 4) u4) (n * 7 + 5) u5) (n * 7 + 6) u6
 rw [← hcs] at this
 simp only [List.set_append_right, Nat.le_add_right, Nat.le_refl, Nat.sub_self, Nat.add_sub_cancel_left, List.set_cons_zero, List.set_cons_succ] at this
 rw [hcs] at this
 exact this
theorem keepA {w : World} {Y j g o : Nat} {v u0 u1 u2 u3 u4 u5 u6 : Value} (h : w.cell? ⟨Y, j, none⟩ = some v) (hn : g ≠ Y) : (setA w g o u0 u1 u2 u3 u4 u5 u6).cell? ⟨Y, j, none⟩ = some v :=
 (World.cell?_of_block (setA_other _ _ _ _ _ _ _ hn.symm)).trans h
theorem keepH {w : World} {X Y j o : Nat} {v u : Value} (h : w.cell? ⟨Y, j, none⟩ = some v) (hn : X ≠ Y) : (w.setCell ⟨X, o, none⟩ u).cell? ⟨Y, j, none⟩ = some v :=
 (World.cell?_of_block (w := w) (Below.heap_setCell _ _ _ _ (by show Y ≠ X; exact hn.symm))).trans h
structure RdI (f : Ft) (X p : Nat) (l : Int) (w wr : World) (L : List Ft) (V : Value) : Prop where
 but : But p w wr
 lt : p < w.heap.size ∧ w.heap.size + 1 < X
 room : wr.heap[p]? = some (.cells #[.int .i64 (l - 1 - sumN L)] 69 (0, 0))
 res : wr.heap[w.heap.size + 1]? = some (.cells #[.int .i64 0, .slice none 0 0, .string ⟨#[]⟩, .string ⟨#[]⟩, .string ⟨#[]⟩, .string ⟨#[]⟩, .slice none 0 0] 25 (0, 0))
 out : wr.heap[X]? = some (.cells #[.int .i64 f.k, V, .string ⟨#[]⟩, .string ⟨#[]⟩, .string ⟨#[]⟩, .string ⟨#[]⟩, .slice none 0 0] 25 (0, 0))
 row : RowF 25 wr (X + 1) V L
theorem RdI.go {f : Ft} {X p : Nat} {l : Int} {w wr w3 : World} {L : List Ft} {V : Value} (h : RdI f X p l w wr L V) (hb : Below wr.heap.size wr w3) : RdI f X p l w w3 L V :=
 ⟨h.but.trans (But.of hb), h.lt, (hb.block p (Array.getElem?_eq_some_iff.1 h.room).1).trans h.room, (hb.block _ (Array.getElem?_eq_some_iff.1 h.res).1).trans h.res, (hb.block X (Array.getElem?_eq_some_iff.1 h.out).1).trans h.out, h.row.below hb⟩
set_option maxHeartbeats 1600000 in
theorem rd_fill {f x : Ft} {X p g cap n : Nat} {l : Int} {w wr w3 wb w6 : World} {L : List Ft} {A : Option Addr} {c : Nat} {Ak Ab : Option Addr} {ck cb : Nat} {cs : List Value} (h : RdI f X p l w wr L (.slice A n c)) (hn : L.length = n)
 (hb : But p wr w3) (hin : FtIn w3 (New wr.heap.size w3) x Ak ck Ab cb) (hroom : w3.heap[p]? = some (.cells #[.int .i64 (l - 1 - sumN L - x.num)] 69 (0, 0))) (h3 : Below w3.heap.size w3 wb)
 (hcs : cs.length = n * 7) (hrow : ∀ (i : Nat) (hi : i < L.length), ∃ Ak ck Ab cb, (∀ j, j < 7 → cs[i * 7 + j]? = (ft7 L[i] Ak ck Ab cb)[j]?) ∧ FtIn wr (RowC wr (X + 1) (.slice A n c)) L[i] Ak ck Ab cb)
 (hV : ∀ b, (Value.slice A n c).ownBlock = some b → X + 1 ≤ b ∧ b < wr.heap.size)
 (hown : w6.ownsRow (X + 1) 25 7 (.slice (some ⟨g, 0, none⟩) (n + 1) cap) (n + 1) (cs ++ [.int .i64 0, .slice none 0 0, .string ⟨#[]⟩, .string ⟨#[]⟩, .string ⟨#[]⟩, .string ⟨#[]⟩, .slice none 0 0]))
 (hg : wb.grownBy w6 (Value.slice A n c).ownBlock) (hat : (Value.slice A n c).ownBlock = some g ∨ g = wb.heap.size) :
 RdI f X p l w ((setA w6 g (n * 7) (.int .i64 x.k) (.slice Ak x.kids.length ck) (.string (baO x.t)) (.string (baO x.v)) (.string (baO x.a)) (.string (baO x.z)) (.slice Ab x.b.length cb)).setCell ⟨X, 1, none⟩ (.slice (some ⟨g, 0, none⟩) (n + 1) cap)) (L ++ [x]) (.slice (some ⟨g, 0, none⟩) (n + 1) cap)
  ∧ w6.cell? ⟨X, 1, none⟩ = some (.slice A n c) ∧ w6.frozen? ⟨X, 1, none⟩ = false ∧ X + 1 ≤ g ∧ (∀ k, k < wr.heap.size → k ≠ p → (∀ b, (Value.slice A n c).ownBlock = some b → k ≠ b) → w6.heap[k]? = wr.heap[k]?) := by
 subst hn
 have hXl := (Array.getElem?_eq_some_iff.1 h.out).1
 have hs3 := hb.size
 have hsb := h3.size
 have hs6 := hg.size
 have hsr := h.but.size
 have hlt := h.lt
 have hgX : X + 1 ≤ g := by
  rcases hat with e | e
  · exact (hV g e).1
  · omega
 have k3 : ∀ j, j < wr.heap.size → (∀ b, (Value.slice A L.length c).ownBlock = some b → j ≠ b) → w6.heap[j]? = w3.heap[j]? := fun j hj hn => by
  rw [hg.block j (by omega) (fun e => hn j e.symm rfl), h3.block j (by omega)]
 have keep : ∀ k, k < wr.heap.size → k ≠ p → (∀ b, (Value.slice A L.length c).ownBlock = some b → k ≠ b) → w6.heap[k]? = wr.heap[k]? := fun k hk hp hn => (k3 k hk hn).trans (hb.block k hk hp)
 have low : ∀ j, j ≤ X → ∀ b, (Value.slice A L.length c).ownBlock = some b → j ≠ b := fun j hj b e => by have := (hV b e).1; omega
 have hX6 : w6.heap[X]? = _ := (keep X hXl (by omega) (low X (Nat.le_refl _))).trans h.out
 obtain ⟨W7, hW7⟩ : ∃ W, W = setA w6 g (L.length * 7) (.int .i64 x.k) (.slice Ak x.kids.length ck) (.string (baO x.t)) (.string (baO x.v)) (.string (baO x.a)) (.string (baO x.z)) (.slice Ab x.b.length cb) := ⟨_, rfl⟩
 have hO7 : W7.ownsRow (X + 1) 25 7 (.slice (some ⟨g, 0, none⟩) (L.length + 1) cap) (L.length + 1) (cs ++ ft7 x Ak ck Ab cb) := by rw [hW7]; exact owns_setA hown hcs _ _ _ _ _ _ _
 have h7 : ∀ k, k ≠ g → W7.heap[k]? = w6.heap[k]? := fun k hk => by rw [hW7]; exact setA_other _ _ _ _ _ _ _ hk
 have hz7 : W7.heap.size = w6.heap.size := by rw [hW7]; exact setA_size _ _ _ _ _ _ _
 have ho7 : W7.os = w6.os ∧ W7.tape = w6.tape ∧ W7.output = w6.output := by rw [hW7]; unfold setA World.setCell; exact ⟨rfl, rfl, rfl⟩
 replace hW7 := Hd hW7
 have hg7 : wb.grownBy W7 (Value.slice A L.length c).ownBlock := ⟨ho7.1.trans hg.os, ho7.2.1.trans hg.tape, ho7.2.2.trans hg.output, by omega, fun b hb1 hb2 => by
  rw [h7 b (fun e => by
   rcases hat with e2 | e2
   · exact hb2 (by rw [e2, e])
   · omega)]
  exact hg.block b hb1 hb2⟩
 rw [← hW7.out]
 have hbb := hb.trans (But.of (p := p) h3)
 have hrow3 : ∀ (i : Nat) (hi : i < L.length), ∃ Ak ck Ab cb, (∀ j, j < 7 → cs[i * 7 + j]? = (ft7 L[i] Ak ck Ab cb)[j]?) ∧ FtIn wb (RowC wb (X + 1) (.slice A L.length c)) L[i] Ak ck Ab cb := by
  intro i hi
  obtain ⟨a1, a2, a3, a4, a5, a6⟩ := hrow i hi
  exact ⟨a1, a2, a3, a4, a5, (a6.keep fun q hq => hbb.cell hq.2.1.lt (by have := hq.1; omega)).more fun b hb2 => ⟨hb2.1, hbb.cl hb2.2.1 (by have := hb2.1; omega), hb2.2.2⟩⟩
 have hel : FtIn wb (RowC wb (X + 1) (.slice A L.length c)) x Ak ck Ab cb := by
  refine (hin.keep fun q hq => h3.cell hq.2.lt).more fun b hb2 => ⟨by have := hb2.1; omega, hb2.2.below h3 hb2.2.lt, fun e => ?_⟩
  have := (hV b e.symm).2
  have := hb2.1
  omega
 have hsn := RowF.snoc (T := 25) (w := wb) (w' := W7) (base := X + 1) (g := g) (cap := cap) (v := .slice A L.length c) (l := L) (e := x) (Ak := Ak) (ck := ck) (Ab := Ab) (cb := cb) (cs := cs) hO7 hcs hrow3 hel hg7 hat
 refine ⟨⟨?_, hlt, ?_, ?_, ?_, ?_⟩, cell_of_row _ _ _ _ _ _ hX6, free7 hX6 1, hgX, keep⟩
 · refine ⟨ho7.1.trans (hg.os.trans (h3.os.trans (hb.os.trans h.but.os))), ho7.2.1.trans (hg.tape.trans (h3.tape.trans (hb.tape.trans h.but.tape))), ho7.2.2.trans (hg.output.trans (h3.output.trans (hb.output.trans h.but.output))), by simp only [World.setCell, Array.size_modify]; omega, fun b hb1 hb2 => ?_⟩
   rw [Below.heap_setCell _ _ _ _ (by show b ≠ X; omega), h7 b (by omega), keep b (by omega) hb2 (low b (by omega))]
   exact h.but.block b hb1 hb2
 · rw [Below.heap_setCell _ _ _ _ (by show p ≠ X; omega), h7 p (by omega), k3 p (by omega) (low p (by omega)), sumN_snoc, show l - 1 - ((sumN L + x.num : Nat) : Int) = l - 1 - sumN L - x.num by omega]
   exact hroom
 · rw [Below.heap_setCell _ _ _ _ (by show w.heap.size + 1 ≠ X; omega), h7 _ (by omega), keep _ (by omega) (by omega) (low _ (by omega))]
   exact h.res
 · rw [_root_.Go.heap_setCell_same _ _ _ _ _ _ ((h7 X (by omega)).trans hX6)]
   rfl
 · exact hsn.set ⟨X, 1, none⟩ _ (by show X < X + 1; omega)
end Go.Proofs.YtcbiedonmibfaaaGreatDoor
namespace Go.Proofs.YtcbiedonmibfaaaGreatDoor
open Go.RowKit Go.Lib
def RdP (f : Ft) (p : Nat) (l : Int) (w : World) (en : Ending) (w' : World) : Prop := ∃ Ak ck Ab cb, en = .returned (ftV f Ak ck Ab cb) ∧ FtIn w' (New w.heap.size w') f Ak ck Ab cb ∧ w'.heap[p]? = some (.cells #[.int .i64 (l - f.num)] 69 (0, 0)) ∧ But p w w'
structure LfI (X p : Nat) (l : Int) (w wr : World) (cs : Array Value) : Prop where
 but : But p w wr
 lt : p < w.heap.size ∧ w.heap.size + 1 < X
 room : wr.heap[p]? = some (.cells #[.int .i64 (l - 1)] 69 (0, 0))
 res : wr.heap[w.heap.size + 1]? = some (.cells #[.int .i64 0, .slice none 0 0, .string ⟨#[]⟩, .string ⟨#[]⟩, .string ⟨#[]⟩, .string ⟨#[]⟩, .slice none 0 0] 25 (0, 0))
 out : wr.heap[X]? = some (.cells cs 25 (0, 0))
theorem LfI.go {X p : Nat} {l : Int} {w wr w3 : World} {cs : Array Value} (h : LfI X p l w wr cs) (hb : Below wr.heap.size wr w3) : LfI X p l w w3 cs :=
 ⟨h.but.trans (But.of hb), h.lt, (hb.block p (Array.getElem?_eq_some_iff.1 h.room).1).trans h.room, (hb.block _ (Array.getElem?_eq_some_iff.1 h.res).1).trans h.res, (hb.block X (Array.getElem?_eq_some_iff.1 h.out).1).trans h.out⟩
theorem LfI.at_ {X p : Nat} {l : Int} {w wr w3 : World} {cs cs' : Array Value} (h : LfI X p l w wr cs) (hb : But X wr w3) (ho : w3.heap[X]? = some (.cells cs' 25 (0, 0))) : LfI X p l w w3 cs' := by
 have hlt := h.lt
 have hs := h.but.size
 refine ⟨⟨hb.os.trans h.but.os, hb.tape.trans h.but.tape, hb.output.trans h.but.output, Nat.le_trans hs hb.size, fun b h1 h2 => ?_⟩, hlt, ?_, ?_, ho⟩
 · rw [hb.block b (by omega) (by omega)]
   exact h.but.block b h1 h2
 · rw [hb.block p (Array.getElem?_eq_some_iff.1 h.room).1 (by omega)]
   exact h.room
 · rw [hb.block _ (Array.getElem?_eq_some_iff.1 h.res).1 (by omega)]
   exact h.res
theorem LfI.set {X p : Nat} {l : Int} {w wr : World} {cs : Array Value} (h : LfI X p l w wr cs) (i : Nat) (u : Value) : LfI X p l w (wr.setCell ⟨X, i, none⟩ u) (cs.setIfInBounds i u) :=
 h.at_ (But.set i u) (_root_.Go.heap_setCell_same _ _ _ _ _ _ h.out)
end Go.Proofs.YtcbiedonmibfaaaGreatDoor
namespace Go.Proofs.YtcbiedonmibfaaaGreatDoor
open Go.RowKit Go.Lib
def ReadAny (f : Ft) : Prop := ∀ (d : Nat) (l : Int) (p : Nat) (I : Nat → Prop) (A : Option Addr) (c : Nat) (B : Option Addr) (dd : Nat) (w : World), d + f.deep ≤ 11 → (f.num : Int) ≤ l → l ≤ 64 → ElIn w I f.el A c B dd → (∀ b, I b → b < w.heap.size ∧ b ≠ p) →
 w.heap[p]? = some (.cells #[.int .i64 l] 69 (0, 0)) → Calls Tryz.prog 33 #[.pointer (some ⟨p, 0, none⟩), elV f.el A c B dd, .int .i64 (d : Int)] w (RdP f p l w)
set_option maxRecDepth 8000 in
set_option maxHeartbeats 1600000 in
theorem read1_any (f : Ft) (RA : ReadAny f) (hr : f.right = true) (I : Nat → Prop) (A : Option Addr) (c : Nat) (B : Option Addr) (dd : Nat) (sp : Nat) (w : World) (hs : ElIn w I f.el A c B dd) (hI : ∀ b, I b → b < w.heap.size) (r : El) (N2 M2 : Nat) (hel : f.el = r) (hN2 : r.b.length = N2) (hM2 : r.kids.length = M2)
 (hx : w.heap[sp]? = some (.cells #[.int .i64 r.c, .bool r.m, .int .i64 r.n, .slice A N2 c, .slice B M2 dd] 43 (0, 0))) :
 Calls Tryz.prog 32 #[.pointer (some ⟨sp, 0, none⟩)] w fun en w' => ∃ Ak ck Ab cb, en = .returned (ftV f Ak ck Ab cb) ∧ FtIn w' (New w.heap.size w') f Ak ck Ab cb ∧ Below w.heap.size w w' := by
 obtain ⟨hnum, hdeep, hall⟩ := right_parts14 hr
 have hsl := (Array.getElem?_eq_some_iff.1 hx).1
 obtain ⟨W0, hW0⟩ : ∃ W0, W0 = w.alloc (.cells #[.int .i64 0, .slice none 0 0, .string ⟨#[]⟩, .string ⟨#[]⟩, .string ⟨#[]⟩, .string ⟨#[]⟩, .slice none 0 0] 25) := ⟨_, rfl⟩
 have hB0 : Below w.heap.size w W0 := by rw [hW0]; exact (Below.refl _ _).alloc (Nat.le_refl _) _
 have hR0 : W0.heap[w.heap.size]? = some (.cells #[.int .i64 0, .slice none 0 0, .string ⟨#[]⟩, .string ⟨#[]⟩, .string ⟨#[]⟩, .string ⟨#[]⟩, .slice none 0 0] 25 (0, 0)) := by rw [hW0]; exact heap_alloc_new w _
 have hz0 : W0.heap.size = w.heap.size + 1 := by rw [hW0]; simp
 obtain ⟨W1, hW1⟩ : ∃ W1, W1 = W0.alloc (.cells #[.int .i64 64] 69) := ⟨_, rfl⟩
 have hp1 : W1.heap[w.heap.size + 1]? = some (.cells #[.int .i64 64] 69 (0, 0)) := by rw [hW1, ← hz0]; exact heap_alloc_new W0 _
 have hb1 : Below W0.heap.size W0 W1 := by rw [hW1]; exact (Below.refl _ _).alloc (Nat.le_refl _) _
 have hB1 : Below w.heap.size w W1 := hB0.trans (hb1.mono (by omega))
 have hR1 : W1.heap[w.heap.size]? = some (.cells #[.int .i64 0, .slice none 0 0, .string ⟨#[]⟩, .string ⟨#[]⟩, .string ⟨#[]⟩, .string ⟨#[]⟩, .slice none 0 0] 25 (0, 0)) := (hb1.block _ (by omega)).trans hR0
 have hz1 : W1.heap.size = w.heap.size + 2 := by rw [hW1]; simp [hz0]
 have hx1 : W1.heap[sp]? = some (.cells #[.int .i64 r.c, .bool r.m, .int .i64 r.n, .slice A N2 c, .slice B M2 dd] 43 (0, 0)) := (hB1.block _ hsl).trans hx
 have CF := RA 1 64 (w.heap.size + 1) I A c B dd W1 (by omega) (by omega) (by omega) (hs.keep fun q hq => hB1.cell (hI _ hq)) (fun b hb => ⟨by have := hI b hb; omega, by have := hI b hb; omega⟩) hp1
 have hval : elV f.el A c B dd = .agg #[.int .i64 r.c, .bool r.m, .int .i64 r.n, .slice A N2 c, .slice B M2 dd] := by rw [hel, ← hN2, ← hM2]; rfl
 rw [hval] at CF
 obtain ⟨y0, y1, y2, y3, y4⟩ := cells5e hx1
 have hxo : ∀ o o2 : Obj, ((w.alloc o).alloc o2).heap[sp]? = some (.cells #[.int .i64 r.c, .bool r.m, .int .i64 r.n, .slice A N2 c, .slice B M2 dd] 43 (0, 0)) := fun o o2 => (Below.heap_alloc _ _ _ (by simp <;> omega)).trans ((Below.heap_alloc _ _ _ hsl).trans hx)
 have hxp : ∀ o : Obj, (w.alloc o).heap[sp]? = some (.cells #[.int .i64 r.c, .bool r.m, .int .i64 r.n, .slice A N2 c, .slice B M2 dd] 43 (0, 0)) := fun o => (Below.heap_alloc _ _ _ hsl).trans hx
 have t0 := fun o o2 => (cells5e (hxo o o2)).1
 have t1 := fun o o2 => (cells5e (hxo o o2)).2.1
 have t2 := fun o o2 => (cells5e (hxo o o2)).2.2.1
 have t3 := fun o o2 => (cells5e (hxo o o2)).2.2.2.1
 have t4 := fun o o2 => (cells5e (hxo o o2)).2.2.2.2
 have s0 := fun o => (cells5e (hxp o)).1
 have s1 := fun o => (cells5e (hxp o)).2.1
 have s2 := fun o => (cells5e (hxp o)).2.2.1
 have s3 := fun o => (cells5e (hxp o)).2.2.2.1
 have s4 := fun o => (cells5e (hxp o)).2.2.2.2
 obtain ⟨n0, n1, n2, n3, n4⟩ := cells5e hx
 replace hs := Hd hs
 replace hI := Hd hI
 replace hx := Hd hx
 replace hval := Hd hval
 replace hel := Hd hel
 replace hN2 := Hd hN2
 replace hM2 := Hd hM2
 replace hB0 := Hd hB0
 replace hR0 := Hd hR0
 replace hz0 := Hd hz0
 replace hp1 := Hd hp1
 replace hb1 := Hd hb1
 replace hB1 := Hd hB1
 replace hR1 := Hd hR1
 replace hz1 := Hd hz1
 replace hx1 := Hd hx1
 replace RA := Hd RA
 replace CF := Hd CF
 replace hxo := Hd hxo
 replace hxp := Hd hxp
 go_enter Tryz.func32, Tryz.ntmps32
 go_wp2_with fail
 rw [← hW0]
 replace hW0 := Hd hW0
 go_wp2_with fail
 rw [← hW1]
 replace hW1 := Hd hW1
 go_wp2_with fail
 try rw [hz0.out]
 refine CF.out.mono ?_
 rintro en w2 ⟨Ak, ck, Ab, cb, rfl, hin2, _, hb2⟩
 have hR2 := hb2.heap hR1.out (by omega)
 have hB2 : Below w.heap.size w w2 := hB1.out.trans (hb2.below (by omega) (by have := hz1.out; omega))
 have hz2 := hb2.size
 have hz3 := hz1.out
 clear y0 y1 y2 y3 y4 t0 t1 t2 t3 t4 s0 s1 s2 s3 s4 n0 n1 n2 n3 n4
 unfold ftV
 dsimp only []
 obtain ⟨r0, r1, r2, r3, r4, r5, r6⟩ := cells7 (hR2)
 have f0 := free7 (hR2) 0
 have f1 := free7 (hR2) 1
 have f2 := free7 (hR2) 2
 have f3 := free7 (hR2) 3
 have f4 := free7 (hR2) 4
 have f5 := free7 (hR2) 5
 have f6 := free7 (hR2) 6
 replace hR2 := Hd hR2
 replace hB2 := Hd hB2
 replace hb2 := Hd hb2
 replace hin2 := Hd hin2
 go_wp2_with fail
 have HC := Hd (set7_same (hR2.out) (.int .i64 f.k) (.slice Ak f.kids.length ck) (.string (baO f.t)) (.string (baO f.v)) (.string (baO f.a)) (.string (baO f.z)) (.slice Ab f.b.length cb))
 have HL := Hd (set7_below (hB2.out) (Nat.le_refl _) (.int .i64 f.k) (.slice Ak f.kids.length ck) (.string (baO f.t)) (.string (baO f.v)) (.string (baO f.a)) (.string (baO f.z)) (.slice Ab f.b.length cb))
 have HN := Hd (fun k (hk : k ≠ w.heap.size) => set7_other (w := w2) (b := w.heap.size) (.int .i64 f.k) (.slice Ak f.kids.length ck) (.string (baO f.t)) (.string (baO f.v)) (.string (baO f.a)) (.string (baO f.z)) (.slice Ab f.b.length cb) hk)
 have HX : set7 w2 (w.heap.size) (.int .i64 f.k) (.slice Ak f.kids.length ck) (.string (baO f.t)) (.string (baO f.v)) (.string (baO f.a)) (.string (baO f.z)) (.slice Ab f.b.length cb) = (((((((w2.setCell ⟨w.heap.size, 0, none⟩ (.int .i64 f.k)).setCell ⟨w.heap.size, 1, none⟩ (.slice Ak f.kids.length ck)).setCell ⟨w.heap.size, 2, none⟩ (.string (baO f.t))).setCell ⟨w.heap.size, 3, none⟩ (.string (baO f.v))).setCell ⟨w.heap.size, 4, none⟩ (.string (baO f.a))).setCell ⟨w.heap.size, 5, none⟩ (.string (baO f.z))).setCell ⟨w.heap.size, 6, none⟩ (.slice Ab f.b.length cb)) := rfl
 rw [← HX]
 obtain ⟨W9, hW9⟩ : ∃ W9, W9 = set7 w2 (w.heap.size) (.int .i64 f.k) (.slice Ak f.kids.length ck) (.string (baO f.t)) (.string (baO f.v)) (.string (baO f.a)) (.string (baO f.z)) (.slice Ab f.b.length cb) := ⟨_, rfl⟩
 rw [← hW9] at HC HL HN ⊢
 clear HX hW9 r0 r1 r2 r3 r4 r5 r6 f0 f1 f2 f3 f4 f5 f6
 obtain ⟨v0, v1, v2, v3, v4, v5, v6⟩ := cells7 HC.out
 exact bodyPost_ret (v := .agg #[.int .i64 f.k, .slice Ak f.kids.length ck, .string (baO f.t), .string (baO f.v), .string (baO f.a), .string (baO f.z), .slice Ab f.b.length cb]) (by simp [results, Tryz.results32, go_sem, v0, v1, v2, v3, v4, v5, v6]) rfl (⟨Ak, ck, Ab, cb, rfl, (hin2.out.set HN.out (by omega)).more fun b hb => hb.mono (by omega) b, HL.out⟩)
set_option maxRecDepth 8000 in
set_option maxHeartbeats 1600000 in
theorem read14_any (f : Ft) (RA : ReadAny f) (hr : f.right = true) (I : Nat → Prop) (A : Option Addr) (c : Nat) (B : Option Addr) (dd : Nat) (w : World) (hs : ElIn w I f.el A c B dd) (hI : ∀ b, I b → b < w.heap.size) :
 Calls Tryz.prog 12 #[elV f.el A c B dd] w fun en w' => ∃ Ak ck Ab cb, en = .returned (.tuple #[ftV f Ak ck Ab cb, .int .i64 0]) ∧ FtIn w' (New w.heap.size w') f Ak ck Ab cb ∧ Below w.heap.size w w' := by
 obtain ⟨r, hel⟩ : ∃ r, f.el = r := ⟨_, rfl⟩
 obtain ⟨N2, hN2⟩ : ∃ n, r.b.length = n := ⟨_, rfl⟩
 obtain ⟨M2, hM2⟩ : ∃ n, r.kids.length = n := ⟨_, rfl⟩
 have hval : elV f.el A c B dd = .agg #[.int .i64 r.c, .bool r.m, .int .i64 r.n, .slice A N2 c, .slice B M2 dd] := by rw [hel, ← hN2, ← hM2]; rfl
 rw [hval]
 obtain ⟨W0, hW0⟩ : ∃ W0, W0 = (w.alloc (.cells #[.int .i64 r.c, .bool r.m, .int .i64 r.n, .slice A N2 c, .slice B M2 dd] 43)).alloc (.cells #[.int .i64 0, .slice none 0 0, .string ⟨#[]⟩, .string ⟨#[]⟩, .string ⟨#[]⟩, .string ⟨#[]⟩, .slice none 0 0] 25) := ⟨_, rfl⟩
 have hB0 : Below w.heap.size w W0 := by rw [hW0]; exact ((Below.refl _ _).alloc (Nat.le_refl _) _).alloc (by simp) _
 have hz0 : W0.heap.size = w.heap.size + 2 := by rw [hW0]; simp
 have hS0 : W0.heap[w.heap.size]? = some (.cells #[.int .i64 r.c, .bool r.m, .int .i64 r.n, .slice A N2 c, .slice B M2 dd] 43 (0, 0)) := by rw [hW0, Below.heap_alloc _ _ _ (by simp)]; exact heap_alloc_new w _
 have hR0 : W0.heap[w.heap.size + 1]? = some (.cells #[.int .i64 0, .slice none 0 0, .string ⟨#[]⟩, .string ⟨#[]⟩, .string ⟨#[]⟩, .string ⟨#[]⟩, .slice none 0 0] 25 (0, 0)) := by rw [hW0]; exact heap_alloc_new (w.alloc _) _ |> (by simpa using ·)
 have hmf : ∀ (fn : Fn) (first cap : Array Value) (w : World), (Instr.makeFunc fn first cap).run Tryz.prog w = .ok (.func fn first cap) w := fun _ _ _ _ => rfl
 have CO := Hd (outcome_ok_read (X := fun Ak ck Ab cb w' => FtIn w' (New (W0.heap.size + 2) w') f Ak ck Ab cb) f ⟨w.heap.size, 0, none⟩ W0 (fun W hW hWs => by
  have hwW : Below w.heap.size w W := hB0.trans (hW.mono (by omega))
  refine (read1_any f RA hr I A c B dd w.heap.size W (hs.keep fun q hq => hwW.cell (hI _ hq)) (fun b hb => Nat.lt_of_lt_of_le (hI b hb) hwW.size) r N2 M2 hel hN2 hM2 ((hW.block _ (by omega)).trans hS0)).mono fun en w' (h : _) => ?_
  obtain ⟨Ak, ck, Ab, cb, h1, h2, h3⟩ := h
  exact ⟨Ak, ck, Ab, cb, h1, h2.more fun b hb => hb.mono hWs b, h3⟩)
  (fun Ak ck Ab cb w' w'' h hk => (h.keep fun q hq => World.cell?_of_block (hk _ (by have := hq.1; omega) (by have := hq.1; omega))).more fun b hb => ⟨hb.1, hb.2.of (hk _ (by have := hb.1; omega) (by have := hb.1; omega))⟩))
 replace hs := Hd hs
 replace hI := Hd hI
 replace hval := Hd hval
 replace hel := Hd hel
 replace hN2 := Hd hN2
 replace hM2 := Hd hM2
 replace hB0 := Hd hB0
 replace hS0 := Hd hS0
 replace hR0 := Hd hR0
 replace hz0 := Hd hz0
 replace RA := Hd RA
 replace hr := Hd hr
 go_enter Tryz.func12, Tryz.ntmps12
 go_wp2_with fail
 rw [← hW0]
 replace hW0 := Hd hW0
 try go_wp2_with fail
 refine CO.out.mono ?_
 rintro _ w2 ⟨Ak, ck, Ab, cb, rfl, hin2, hb2⟩
 have hB2 : Below w.heap.size w w2 := hB0.out.trans (hb2.mono (by have := hz0.out; omega))
 have hR2 : w2.heap[w.heap.size + 1]? = _ := (hb2.block _ (by have := hz0.out; omega)).trans hR0.out
 have hz3 := hz0.out
 replace hin2 := Hd hin2
 replace hB2 := Hd hB2
 replace hb2 := Hd hb2
 replace hz3 := Hd hz3
 unfold ftV
 dsimp only []
 obtain ⟨r0, r1, r2, r3, r4, r5, r6⟩ := cells7 (hR2)
 have f0 := free7 (hR2) 0
 have f1 := free7 (hR2) 1
 have f2 := free7 (hR2) 2
 have f3 := free7 (hR2) 3
 have f4 := free7 (hR2) 4
 have f5 := free7 (hR2) 5
 have f6 := free7 (hR2) 6
 replace hR2 := Hd hR2
 go_wp2_with fail
 have HC := Hd (set7_same (hR2.out) (.int .i64 f.k) (.slice Ak f.kids.length ck) (.string (baO f.t)) (.string (baO f.v)) (.string (baO f.a)) (.string (baO f.z)) (.slice Ab f.b.length cb))
 have HL := Hd (set7_below (hB2.out) (Nat.le_succ _) (.int .i64 f.k) (.slice Ak f.kids.length ck) (.string (baO f.t)) (.string (baO f.v)) (.string (baO f.a)) (.string (baO f.z)) (.slice Ab f.b.length cb))
 have HN := Hd (fun k (hk : k ≠ w.heap.size + 1) => set7_other (w := w2) (b := w.heap.size + 1) (.int .i64 f.k) (.slice Ak f.kids.length ck) (.string (baO f.t)) (.string (baO f.v)) (.string (baO f.a)) (.string (baO f.z)) (.slice Ab f.b.length cb) hk)
 have HX : set7 w2 (w.heap.size + 1) (.int .i64 f.k) (.slice Ak f.kids.length ck) (.string (baO f.t)) (.string (baO f.v)) (.string (baO f.a)) (.string (baO f.z)) (.slice Ab f.b.length cb) = (((((((w2.setCell ⟨w.heap.size + 1, 0, none⟩ (.int .i64 f.k)).setCell ⟨w.heap.size + 1, 1, none⟩ (.slice Ak f.kids.length ck)).setCell ⟨w.heap.size + 1, 2, none⟩ (.string (baO f.t))).setCell ⟨w.heap.size + 1, 3, none⟩ (.string (baO f.v))).setCell ⟨w.heap.size + 1, 4, none⟩ (.string (baO f.a))).setCell ⟨w.heap.size + 1, 5, none⟩ (.string (baO f.z))).setCell ⟨w.heap.size + 1, 6, none⟩ (.slice Ab f.b.length cb)) := rfl
 rw [← HX]
 obtain ⟨W9, hW9⟩ : ∃ W9, W9 = set7 w2 (w.heap.size + 1) (.int .i64 f.k) (.slice Ak f.kids.length ck) (.string (baO f.t)) (.string (baO f.v)) (.string (baO f.a)) (.string (baO f.z)) (.slice Ab f.b.length cb) := ⟨_, rfl⟩
 rw [← hW9] at HC HL HN ⊢
 clear HX hW9 r0 r1 r2 r3 r4 r5 r6 f0 f1 f2 f3 f4 f5 f6
 obtain ⟨v0, v1, v2, v3, v4, v5, v6⟩ := cells7 HC.out
 exact bodyPost_ret (v := .tuple #[.agg #[.int .i64 f.k, .slice Ak f.kids.length ck, .string (baO f.t), .string (baO f.v), .string (baO f.a), .string (baO f.z), .slice Ab f.b.length cb], .int .i64 0]) (by simp [results, Tryz.results12, go_sem, v0, v1, v2, v3, v4, v5, v6]) rfl (⟨Ak, ck, Ab, cb, rfl, (hin2.out.set HN.out (by have := hz3.out; omega)).more fun b hb => hb.mono (by have := hz3.out; omega) b, HL.out⟩)
end Go.Proofs.YtcbiedonmibfaaaGreatDoor
