/-
  An argument that is a slice of elements.
-/
import Derived.Test.YtgdoepkoakpnbaaEltOpen
import Derived.Test.YtgdoepkoakpnbaaEltRow
namespace Go.Proofs.Ytgdoepkoakpnbaa
open Go.ChangeShapes Go.WideShapes Go.ChangeAt Go.RowKit Go.Joins

set_option maxRecDepth 20000 in
/-- The cells of a slice of elements. -/
theorem open_elsC {H : Type} {enc : TypeId × Value → H} {W : World} {fuel : Nat} {cs : List Value} {x : DataW H × List MemPlace}
    (hf : DataW.trod enc Try.prog W 0 (fun _ => true) true fuel 25 cs = some x) :
    ∃ A c f, cs = [.slice A (Fo.list f).length c] ∧ SlI W (· < W.heap.size) A c f ∧ f.byt := by
  rcases DataW.trod_slice Try.underlying25 hf with ⟨e4, _⟩ | ⟨a, len, cap, elems, rest, n2, hn2, e4, _, hb0, hle, hcap, hlen, hel, _⟩
  · subst e4
    exact ⟨none, 0, .nil, rfl, ⟨Nat.le_refl _, by omega, fun _ => rfl, fun _ h => by cases h⟩, trivial⟩
  · subst e4
    rw [cells_elt] at hel
    unfold maxLen at hcap
    by_cases hz : len = 0
    · subst hz
      exact ⟨some a, cap, .nil, rfl, ⟨Nat.zero_le _, hcap, (by simp), fun _ _ h => by cases h⟩, trivial⟩
    · have hs : a.spot = none := by
        have h := hel 0 (by omega)
        rw [List.getElem?_eq_getElem (by omega)] at h
        obtain ⟨cs', hc1, hc2⟩ := Option.bind_eq_some_iff.1 h
        obtain ⟨e, Ab2, cb2, Ak2, ck2, rfl, _⟩ := open_elC n2 cs' _ hc2
        obtain ⟨_, _, hcell⟩ := World.cells?_some hc1
        have := World.cell?_spot (hcell 0 (by omega))
        simpa [Addr.add] using this
      obtain ⟨bl, off, spot⟩ := a
      have hs' : spot = none := hs
      subst hs'
      have each : ∀ i, i < len → ∃ e Ab cb Ak ck, ElAt W (· < W.heap.size) e bl (off + i * 5) Ab cb Ak ck ∧ ElIn W (· < W.heap.size) e Ab cb Ak ck ∧ e.byt ∧ bl < W.heap.size := by
        intro i hi
        have h := hel i hi
        rw [List.getElem?_eq_getElem (by omega), add_plain2] at h
        obtain ⟨cs', hc1, hc2⟩ := Option.bind_eq_some_iff.1 h
        obtain ⟨e, Ab2, cb2, Ak2, ck2, rfl, h3, h4, _⟩ := open_elC n2 cs' _ hc2
        obtain ⟨_, _, hcell⟩ := World.cells?_some hc1
        simp only [add_plain2] at hcell
        refine ⟨e, Ab2, cb2, Ak2, ck2, ⟨hcell 0 (by omega), hcell 1 (by omega), hcell 2 (by omega), hcell 3 (by omega), hcell 4 (by omega)⟩, h3, h4, ?_⟩
        exact World.block_lt_of_cell? W _ (hcell 0 (by omega))
      have build : ∀ j, j ≤ len → ∃ l : List El, l.length = j ∧ (∀ (i : Nat) (hi : i < l.length), ∃ Ab cb Ak ck, ElAt W (· < W.heap.size) l[i] bl (off + i * 5) Ab cb Ak ck ∧ ElIn W (· < W.heap.size) l[i] Ab cb Ak ck) ∧ ∀ e ∈ l, e.byt := by
        intro j
        induction j with
        | zero => exact fun _ => ⟨[], rfl, fun i hi => absurd hi (by simp), fun e he => by cases he⟩
        | succ j ihj =>
          intro hj
          obtain ⟨l, h1, h2, h3⟩ := ihj (by omega)
          obtain ⟨e, Ab2, cb2, Ak2, ck2, g1, g2, g3, _⟩ := each j (by omega)
          refine ⟨l ++ [e], by simp [h1], fun i hi => ?_, fun x hx => ?_⟩
          · by_cases hij : i < l.length
            · rw [List.getElem_append_left hij]
              exact h2 i hij
            · have : i = l.length := by simp at hi; omega
              subst this
              rw [List.getElem_append_right (Nat.le_refl _)]
              simp only [Nat.sub_self, List.getElem_cons_zero]
              rw [h1]
              exact ⟨Ab2, cb2, Ak2, ck2, g1, g2⟩
          · rcases List.mem_append.1 hx with hx | hx
            · exact h3 x hx
            · have := List.mem_singleton.1 hx
              subst this
              exact g3
      obtain ⟨l, hl1, hl2, hl3⟩ := build len (Nat.le_refl _)
      obtain ⟨_, _, _, _, _, _, _, _, hbl⟩ := each 0 (by omega)
      have hlist : (Fo.of l).list.length = len := by rw [Fo.list_of, hl1]
      refine ⟨some ⟨bl, off, none⟩, cap, Fo.of l, ?_, ⟨by rw [hlist]; exact hle, hcap, (by simp), fun ad e _ => ?_⟩, byt_of l hl3⟩
      · rw [hlist]
      · injection e with e
        subst e
        exact ⟨rfl, hbl, foAt_ofR l bl off hl2⟩


set_option maxRecDepth 20000 in
/-- An argument that is a slice of elements. -/
theorem open_els {H : Type} {enc : TypeId × Value → H} {W : World} {r : Reach} {b0 : Nat} {v : Value} {d : DataW H} {p : List MemPlace}
    (hv : Value.okWide Try.prog W r b0 25 v) (h : DataW.Trod enc Try.prog W 0 (fun _ => true) true 25 v d p) :
    ∃ A c f, v = .slice A (Fo.list f).length c ∧ SlI W (· < W.heap.size) A c f ∧ f.byt := by
  obtain ⟨a0, len, cap, rfl⟩ := okWide_slice Try.underlying25 hv
  obtain ⟨fuel, hf⟩ := h
  obtain ⟨A, c, f, hcs, h1, h2⟩ := open_elsC hf
  simp [Value.cells] at hcs
  obtain ⟨rfl, rfl, rfl⟩ := hcs
  exact ⟨_, _, f, rfl, h1, h2⟩
end Go.Proofs.Ytgdoepkoakpnbaa
