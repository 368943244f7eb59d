/-
  A row of elements of the call's own, in clean memory.
-/
import Derived.Test.YtgdoepkoakpnbaaEltOwn
namespace Go.Proofs.Ytgdoepkoakpnbaa
open Go.RowKit

/-- A block of cells that no string shares. -/
def Cl (w : World) (b : Nat) : Prop := ∃ cs T, w.heap[b]? = some (.cells cs T (0, 0))
theorem Cl.lt {w : World} {b : Nat} (h : Cl w b) : b < w.heap.size := by
  obtain ⟨cs, T, h⟩ := h
  exact (Array.getElem?_eq_some_iff.1 h).1
theorem Cl.of {w w' : World} {b : Nat} (h : Cl w b) (e : w'.heap[b]? = w.heap[b]?) : Cl w' b := by
  obtain ⟨cs, T, h⟩ := h
  exact ⟨cs, T, e.trans h⟩
theorem Cl.below {w w' : World} {b K : Nat} (h : Cl w b) (hb : Below K w w') (hK : b < K) : Cl w' b := h.of (hb.block b hK)
theorem Cl.alloc {w : World} {b : Nat} (h : Cl w b) (o : Obj) : Cl (w.alloc o) b := h.of (Below.heap_alloc _ _ _ h.lt)
theorem Cl.setCell {w : World} {b : Nat} (h : Cl w b) (a : Addr) (u : Value) : Cl (w.setCell a u) b := by
  obtain ⟨cs, T, h⟩ := h
  by_cases e : b = a.block
  · subst e
    refine ⟨if a.spot.isSome then cs else cs.setIfInBounds a.off u, T, ?_⟩
    unfold World.setCell
    rw [Array.getElem?_modify, if_pos rfl, h]
    rfl
  · exact ⟨cs, T, (_root_.Go.heap_setCell_other _ _ _ _ e).trans h⟩
theorem Cl.set5 {w : World} {b : Nat} (h : Cl w b) (k : Nat) (u0 u1 u2 u3 u4 : Value) : Cl (set5 w k u0 u1 u2 u3 u4) b := ((((h.setCell _ _).setCell _ _).setCell _ _).setCell _ _).setCell _ _
/-- The memory that was made since. -/
def New (lo : Nat) (w : World) (b : Nat) : Prop := lo ≤ b ∧ Cl w b
/-- Where what an element of the row leads to may lie. -/
def RowC (w : World) (base : Nat) (v : Value) (b : Nat) : Prop := base ≤ b ∧ Cl w b ∧ some b ≠ v.ownBlock
def RowP (T : TypeId) (w : World) (base : Nat) (v : Value) (l : List El) : Prop :=
  ∃ cs : List Value, w.ownsRow base T 5 v l.length cs ∧ ∀ (i : Nat) (hi : i < l.length), ∃ Ab cb Ak ck, (∀ j, j < 5 → cs[i * 5 + j]? = (el5 l[i] Ab cb Ak ck)[j]?) ∧ ElIn w (RowC w base v) l[i] Ab cb Ak ck
theorem RowP.nil (T : TypeId) (w : World) (base : Nat) : RowP T w base (.slice none 0 0) [] :=
  ⟨[], World.ownsRow_nil _ _ _ _, fun i hi => absurd hi (by simp)⟩
theorem RowP.below {T : TypeId} {w w' : World} {base : Nat} {v : Value} {l : List El} (h : RowP T w base v l) (hb : Below w.heap.size w w') : RowP T w' base v l := by
  obtain ⟨cs, h1, h2⟩ := h
  refine ⟨cs, owns_below h1 hb, fun i hi => ?_⟩
  obtain ⟨Ab, cb, Ak, ck, h3, h4⟩ := h2 i hi
  exact ⟨Ab, cb, Ak, ck, h3, (h4.keep fun p hp => hb.cell hp.2.1.lt).more fun b hb2 => ⟨hb2.1, hb2.2.1.below hb hb2.2.1.lt, hb2.2.2⟩⟩
/-- A row reads as its elements. -/
theorem RowP.sl {T : TypeId} {w : World} {base : Nat} {v : Value} {l : List El} (h : RowP T w base v l) : ∃ A c, v = .slice A l.length c ∧ SlI w (New base w) A c (Fo.of l) := by
  obtain ⟨cs, ⟨hl, h0 | ⟨g, cap, cur, hv, hbs, hg, hn, hm, hs, hx⟩⟩, h2⟩ := h
  · refine ⟨none, 0, by rw [h0.1, h0.2], ?_⟩
    have hl0 : l = [] := List.eq_nil_of_length_eq_zero h0.2
    subst hl0
    exact ⟨Nat.le_refl _, by omega, fun _ => rfl, fun _ e => by cases e⟩
  · have hgl : g < w.heap.size := (Array.getElem?_eq_some_iff.1 hg).1
    refine ⟨some ⟨g, 0, none⟩, cap, hv, ⟨by rw [Fo.list_of]; exact hn, by unfold maxLen at hm; exact hm, (by simp), fun ad e _ => ?_⟩⟩
    injection e with e
    subst e
    refine ⟨rfl, ⟨hbs, ⟨_, _, hg⟩⟩, foAt_ofR l g 0 fun i hi => ?_⟩
    obtain ⟨Ab, cb, Ak, ck, h3, h4⟩ := h2 i hi
    have cell : ∀ j, j < 5 → w.cell? ⟨g, 0 + i * 5 + j, none⟩ = (el5 l[i] Ab cb Ak ck)[j]? := by
      intro j hj
      rw [cell_of_row w g (0 + i * 5 + j) cur _ _ hg, ← h3 j hj, ← hx, List.getElem?_take, if_pos (by omega)]
      simp
    refine ⟨Ab, cb, Ak, ck, ⟨cell 0 (by omega), cell 1 (by omega), cell 2 (by omega), cell 3 (by omega), cell 4 (by omega)⟩, h4.more fun b hb => ⟨hb.1, hb.2.1⟩⟩
/-- One element more. -/
theorem RowP.snoc {T : TypeId} {w w' : World} {base g cap : Nat} {v : Value} {l : List El} {e : El} {Ab : Option Addr} {cb : Nat} {Ak : Option Addr} {ck : Nat} {cs : List Value}
    (ho : w'.ownsRow base T 5 (.slice (some ⟨g, 0, none⟩) (l.length + 1) cap) (l.length + 1) (cs ++ el5 e Ab cb Ak ck)) (hcs : cs.length = l.length * 5)
    (h2 : ∀ (i : Nat) (hi : i < l.length), ∃ Ab cb Ak ck, (∀ j, j < 5 → cs[i * 5 + j]? = (el5 l[i] Ab cb Ak ck)[j]?) ∧ ElIn w (RowC w base v) l[i] Ab cb Ak ck)
    (he : ElIn w (RowC w base v) e Ab cb Ak ck) (hg : w.grownBy w' v.ownBlock) (hat : v.ownBlock = some g ∨ g = w.heap.size) :
    RowP T w' base (.slice (some ⟨g, 0, none⟩) (l.length + 1) cap) (l ++ [e]) := by
  have hI : ∀ b, RowC w base v b → RowC w' base (.slice (some ⟨g, 0, none⟩) (l.length + 1) cap) b := by
    intro b hb
    have hlt := hb.2.1.lt
    refine ⟨hb.1, hb.2.1.of (hg.block b hlt hb.2.2), ?_⟩
    intro e
    have e2 : b = g := by injection e
    rcases hat with hat | hat
    · exact hb.2.2 (by rw [hat, e2])
    · omega
  have hK : ∀ p : Addr, RowC w base v p.block → w'.cell? p = w.cell? p := by
    intro p hp
    exact hg.cell_far p hp.2.1.lt hp.2.2
  refine ⟨cs ++ el5 e Ab cb Ak ck, by rw [List.length_append]; exact ho, fun i hi => ?_⟩
  by_cases hil : i < l.length
  · obtain ⟨Ab2, cb2, Ak2, ck2, h3, h4⟩ := h2 i hil
    refine ⟨Ab2, cb2, Ak2, ck2, fun j hj => ?_, ?_⟩
    · rw [List.getElem?_append_left (by rw [hcs]; omega), h3 j hj, List.getElem_append_left hil]
    · rw [List.getElem_append_left hil]
      exact (h4.keep hK).more hI
  · have hie : i = l.length := by simp at hi; omega
    subst hie
    refine ⟨Ab, cb, Ak, ck, fun j hj => ?_, ?_⟩
    · rw [List.getElem?_append_right (by rw [hcs]; omega), List.getElem_append_right (Nat.le_refl _)]
      simp only [Nat.sub_self, List.getElem_cons_zero]
      rw [hcs]
      congr 1
      omega
    · rw [List.getElem_append_right (Nat.le_refl _)]
      simp only [Nat.sub_self, List.getElem_cons_zero]
      exact (he.keep hK).more hI
/-- A store beside a row. -/
theorem RowP.set {T : TypeId} {w : World} {base : Nat} {v : Value} {l : List El} (h : RowP T w base v l) (a : Addr) (u : Value) (h2 : a.block < base) : RowP T (w.setCell a u) base v l := by
  obtain ⟨cs, h3, h4⟩ := h
  have hne : v.ownBlock ≠ some a.block := by
    intro e
    obtain ⟨_, h0 | ⟨g, cap, cur, hv, hbs, _⟩⟩ := h3
    · rw [h0.1] at e
      cases e
    · rw [hv] at e
      injection e with e
      have e' : g = a.block := e
      omega
  refine ⟨cs, ownsRow_setCell_other h3 hne u, fun i hi => ?_⟩
  obtain ⟨Ab, cb, Ak, ck, h5, h6⟩ := h4 i hi
  refine ⟨Ab, cb, Ak, ck, h5, (h6.keep fun p hp => ?_).more fun b hb => ⟨hb.1, hb.2.1.setCell _ _, hb.2.2⟩⟩
  refine World.cell?_of_block (heap_setCell_other _ _ _ _ fun e => ?_)
  have := hp.1
  omega
/-- The row as it lies ahead of a round's append. -/
theorem RowP.parts {T : TypeId} {w : World} {base : Nat} {v : Value} {l : List El} (h : RowP T w base v l) :
    ∃ cs : List Value, w.ownsRow base T 5 v l.length cs ∧ cs.length = l.length * 5 ∧ (∀ b, v.ownBlock = some b → base ≤ b ∧ b < w.heap.size) ∧
      ∀ (i : Nat) (hi : i < l.length), ∃ Ab cb Ak ck, (∀ j, j < 5 → cs[i * 5 + j]? = (el5 l[i] Ab cb Ak ck)[j]?) ∧ ElIn w (RowC w base v) l[i] Ab cb Ak ck := by
  obtain ⟨cs, h1, h2⟩ := h
  refine ⟨cs, h1, h1.1, fun b hb => ?_, h2⟩
  obtain ⟨_, h0 | ⟨g, cap, cur, hv, hbs, hg, _⟩⟩ := h1
  · rw [h0.1] at hb
    cases hb
  · rw [hv] at hb
    injection hb with hb
    have hb' : g = b := hb
    subst hb'
    exact ⟨hbs, (Array.getElem?_eq_some_iff.1 hg).1⟩
end Go.Proofs.Ytgdoepkoakpnbaa
