/-
  An argument that is a slice of numbers with a fraction, opened once.
-/
import Derived.Test.YtdojbgfkcleeaaaOpenF
import Derived.Test.YtdojbgfkcleeaaaFSlc
namespace Go.Proofs.Ytdojbgfkcleeaaa
open Go.ChangeShapes Go.WideShapes Go.ChangeAt Go.RowKit Go.Joins

theorem cells_float : Try.prog.cellsOf 23 = 1 := by kernel_rfl
set_option maxRecDepth 20000 in
theorem open_floats {H : Type} {enc : TypeId × Value → H} {W : World} {r : Reach} {b0 : Nat} {v : Value} {d : DataW H} {p : List MemPlace}
    (hv : Value.okWide Try.prog W r b0 22 v) (h : DataW.Trod enc Try.prog W 0 (fun _ => true) true 22 v d p) :
    ∃ A c l, v = .slice A (l : List Nat).length c ∧ FSl W W.heap.size A c l ∧ c ≤ 9223372036854775807 := by
  obtain ⟨a0, len0, cap0, rfl⟩ := okWide_slice Try.underlying22 hv
  obtain ⟨fuel, hf⟩ := h
  rcases DataW.trod_slice Try.underlying22 hf with ⟨e4, _⟩ | ⟨a, len, cap, elems, rest, n2, hn2, e4, hx, hb0, hle, hcap, hlen, hel, hsp, _⟩
  · simp [Value.cells] at e4
    obtain ⟨rfl, rfl, rfl⟩ := e4
    exact ⟨none, 0, [], rfl, FSl.none_ _ _, by omega⟩
  · simp [Value.cells] at e4
    obtain ⟨rfl, rfl, rfl⟩ := e4
    rw [cells_float] at hel
    unfold maxLen at hcap
    have each : ∀ i, i < len0 → ∃ b, W.cell? (a.add i) = some (.float .f64 b) ∧ a.block < W.heap.size := by
      intro i hi
      have h := hel i hi
      rw [List.getElem?_eq_getElem (by omega), Nat.mul_one] at h
      obtain ⟨cs', hc1, hc2⟩ := Option.bind_eq_some_iff.1 h
      obtain ⟨b, rfl, _, _⟩ := trod_float Try.underlying23 hc2
      obtain ⟨_, _, hcell⟩ := World.cells?_some hc1
      have hc0 := hcell 0 (by simp)
      have hadd : (a.add i).add 0 = a.add i := by simp [Addr.add]
      rw [hadd] at hc0
      refine ⟨b, hc0, ?_⟩
      have := World.block_lt_of_cell? W _ hc0
      rwa [add_blockF] at this
    have build : ∀ j, j ≤ len0 → ∃ L : List Nat, L.length = j ∧ ∀ (i n : Nat), L[i]? = some n → W.cell? (a.add i) = some (.float .f64 n) := by
      intro j
      induction j with
      | zero => exact fun _ => ⟨[], rfl, fun i n hi => by simp at hi⟩
      | succ j ihj =>
        intro hj
        obtain ⟨L, h1, h2⟩ := ihj (by omega)
        obtain ⟨b, g1, _⟩ := each j (by omega)
        refine ⟨L ++ [b], by simp [h1], fun i n hi => ?_⟩
        by_cases hij : i < L.length
        · rw [List.getElem?_append_left hij] at hi
          exact h2 i n hi
        · have hi2 : i < (L ++ [b]).length := (List.getElem?_eq_some_iff.1 hi).1
          have : i = L.length := by simp at hi2; omega
          subst this
          simp at hi
          subst hi
          rw [h1]
          exact g1
    obtain ⟨L, hl1, hl2⟩ := build len0 (Nat.le_refl _)
    refine ⟨some a, cap0, L, by rw [hl1], ⟨by rw [hl1]; exact hle, (by simp), fun ad e => ?_⟩, hcap⟩
    injection e with e
    subst e
    refine ⟨fun h0 => ?_, hl2⟩
    obtain ⟨_, _, h⟩ := each 0 (by omega)
    exact h
end Go.Proofs.Ytdojbgfkcleeaaa
