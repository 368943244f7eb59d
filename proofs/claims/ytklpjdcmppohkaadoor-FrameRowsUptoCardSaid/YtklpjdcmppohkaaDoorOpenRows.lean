/-
  An argument that is a slice of slices of bytes, opened once.
-/
import Derived.Test.YtklpjdcmppohkaaDoorOpenD
namespace Go.Proofs.YtklpjdcmppohkaaDoor
open Go.ChangeShapes Go.WideShapes Go.ChangeAt Go.RowKit Go.Joins

/-- A slice of slices of bytes, below block K. -/
structure RowA (w : World) (K : Nat) (A : Option Addr) (c : Nat) (L : List (List Nat)) : Prop where
  le : L.length ≤ c
  cap : c ≤ 9223372036854775807
  nil : A = none → c = 0
  at_ : ∀ (i : Nat) (hi : i < L.length), ∃ ad A' c', A = some ad ∧ ad.block < K ∧ w.cell? (ad.add i) = some (.slice A' L[i].length c') ∧ Src w K A' c' L[i] ∧ c' ≤ 9223372036854775807 ∧ ∀ x ∈ L[i], x < 256
theorem RowA.below {w w' : World} {K : Nat} {A : Option Addr} {c : Nat} {L : List (List Nat)} (h : RowA w K A c L) (hb : Below K w w') : RowA w' K A c L := by
  refine ⟨h.le, h.cap, h.nil, fun i hi => ?_⟩
  obtain ⟨ad, A', c', h1, h2, h3, h4, h5, h6⟩ := h.at_ i hi
  exact ⟨ad, A', c', h1, h2, (hb.cell (by rw [add_block]; exact h2)).trans h3, h4.below hb, h5, h6⟩
theorem RowA.take {w : World} {K : Nat} {A : Option Addr} {c : Nat} {L : List (List Nat)} (h : RowA w K A c L) (n : Nat) : RowA w K A c (L.take n) := by
  refine ⟨Nat.le_trans (List.length_take_le' ..) h.le, h.cap, h.nil, fun i hi => ?_⟩
  have hi' : i < L.length := Nat.lt_of_lt_of_le hi (List.length_take_le' ..)
  rw [List.getElem_take]
  exact h.at_ i hi'
set_option maxRecDepth 20000 in
theorem open_bytesC {H : Type} {enc : TypeId × Value → H} {W : World} {fuel : Nat} {cs : List Value} {x : DataW H × List MemPlace}
    (hf : DataW.trod enc Tryd.prog W 0 (fun _ => true) true fuel 23 cs = some x) :
    ∃ A c l, cs = [.slice A (l : List Nat).length c] ∧ Src W W.heap.size A c l ∧ (∀ x ∈ l, x < 256) ∧ c ≤ 9223372036854775807 := by
  rcases open_ints Tryd.underlying23 Tryd.underlying5 (by kernel_rfl) hf with ⟨hcs, _⟩ | ⟨x, ln, cp, zs, hcs, _, hl, hm, hz, _, hcell, hwz⟩
  · exact ⟨none, 0, [], hcs, Src.none_ _ _, (by simp), by omega⟩
  · have hzl : zs.length = cp := by simpa using hz
    have hll : ((zs.take ln).map Int.toNat).length = ln := by rw [List.length_map, List.length_take]; omega
    have hb : ∀ z ∈ zs, 0 ≤ z ∧ z ≤ 255 := fun z hz => bounds_u8 (hwz z hz)
    refine ⟨some x, cp, (zs.take ln).map Int.toNat, by rw [hll]; exact hcs, ⟨by omega, (by simp), fun ad e => ?_⟩, fun y hy => ?_, by unfold maxLen at hm; exact hm⟩
    · injection e with e
      subst e
      refine ⟨fun h0 => ?_, fun j n hj => ?_⟩
      · have := World.block_lt_of_cell? W _ (hcell 0 (by omega))
        rwa [add_block] at this
      · rw [List.getElem?_map, Option.map_eq_some_iff] at hj
        obtain ⟨z, hj, rfl⟩ := hj
        rw [List.getElem?_take] at hj
        split at hj
        · have hjl : j < zs.length := (List.getElem?_eq_some_iff.1 hj).1
          have hzj : zs.getD j 0 = z := by rw [List.getD_eq_getElem?_getD, hj]; rfl
          rw [hcell j hjl, hzj, Int.toNat_of_nonneg (hb z (List.mem_of_getElem? hj)).1]
        · cases hj
    · rw [List.mem_map] at hy
      obtain ⟨z, hz1, rfl⟩ := hy
      have := hb z (List.mem_of_mem_take hz1)
      omega
theorem cells_bs : Tryd.prog.cellsOf 23 = 1 := by kernel_rfl
set_option maxRecDepth 20000 in
theorem open_rows {H : Type} {enc : TypeId × Value → H} {W : World} {r : Reach} {b0 : Nat} {v : Value} {d : DataW H} {p : List MemPlace}
    (hv : Value.okWide Tryd.prog W r b0 36 v) (h : DataW.Trod enc Tryd.prog W 0 (fun _ => true) true 36 v d p) :
    ∃ A c L, v = .slice A (L : List (List Nat)).length c ∧ RowA W W.heap.size A c L ∧ (c = 0 ∨ ∃ es sp, d = .slice es sp ∧ es.length + sp.length = c) := by
  obtain ⟨a0, len0, cap0, rfl⟩ := okWide_slice Tryd.underlying36 hv
  obtain ⟨fuel, hf⟩ := h
  rcases DataW.trod_slice Tryd.underlying36 hf with ⟨e4, _⟩ | ⟨a, len, cap, elems, rest, n2, hn2, e4, hx, hb0, hle, hcap, hlen, hel, hsp, _⟩
  · simp [Value.cells] at e4
    obtain ⟨rfl, rfl, rfl⟩ := e4
    exact ⟨none, 0, [], rfl, ⟨Nat.le_refl _, by omega, fun _ => rfl, fun i hi => absurd hi (by simp)⟩, .inl rfl⟩
  · simp [Value.cells] at e4
    obtain ⟨rfl, rfl, rfl⟩ := e4
    rw [cells_bs] at hel
    unfold maxLen at hcap
    have each : ∀ i, i < len0 → ∃ A' c' l, W.cell? (a.add i) = some (.slice A' (l : List Nat).length c') ∧ Src W W.heap.size A' c' l ∧ c' ≤ 9223372036854775807 ∧ (∀ x ∈ l, x < 256) ∧ a.block < W.heap.size := by
      intro i hi
      have h := hel i hi
      rw [List.getElem?_eq_getElem (by omega), Nat.mul_one] at h
      obtain ⟨cs', hc1, hc2⟩ := Option.bind_eq_some_iff.1 h
      obtain ⟨A', c', l, rfl, h3, h4, h5⟩ := open_bytesC hc2
      obtain ⟨_, _, hcell⟩ := World.cells?_some hc1
      have hc0 := hcell 0 (by simp)
      have hadd : (a.add i).add 0 = a.add i := by simp [Addr.add]
      rw [hadd] at hc0
      refine ⟨A', c', l, hc0, h3, h5, h4, ?_⟩
      have := World.block_lt_of_cell? W _ hc0
      rwa [add_block] at this
    have build : ∀ j, j ≤ len0 → ∃ L : List (List Nat), L.length = j ∧ ∀ (i : Nat) (hi : i < L.length), ∃ ad A' c', some a = some ad ∧ ad.block < W.heap.size ∧ W.cell? (ad.add i) = some (.slice A' L[i].length c') ∧ Src W W.heap.size A' c' L[i] ∧ c' ≤ 9223372036854775807 ∧ ∀ x ∈ L[i], x < 256 := by
      intro j
      induction j with
      | zero => exact fun _ => ⟨[], rfl, fun i hi => absurd hi (by simp)⟩
      | succ j ihj =>
        intro hj
        obtain ⟨L, h1, h2⟩ := ihj (by omega)
        obtain ⟨A', c', l, g1, g2, g3, g4, g5⟩ := each j (by omega)
        refine ⟨L ++ [l], by simp [h1], fun i hi => ?_⟩
        by_cases hij : i < L.length
        · rw [List.getElem_append_left hij]
          exact h2 i hij
        · have : i = L.length := by simp at hi; omega
          subst this
          rw [List.getElem_append_right (Nat.le_refl _)]
          simp only [Nat.sub_self, List.getElem_cons_zero]
          rw [h1]
          exact ⟨a, A', c', rfl, g5, g1, g2, g3, g4⟩
    obtain ⟨L, hl1, hl2⟩ := build len0 (Nat.le_refl _)
    refine ⟨some a, cap0, L, by rw [hl1], ⟨by rw [hl1]; exact hle, hcap, (by simp), hl2⟩, .inr ?_⟩
    injection hx with hx1 hx2
    refine ⟨_, _, hx1, ?_⟩
    rw [List.length_map, List.length_map, hlen, (hsp rfl).1]
    omega
theorem reach_rows {H : Type} {ts : List TypeId} {ds : List (DataW H)} (h : (DataW.weightsEach Tryd.prog ts ds).all (· ≤ reachBytes) = true) {j : Nat} {d : DataW H} {c : Nat} (ht : ts[j]? = some 36) (hd : ds[j]? = some d) (hc : c = 0 ∨ ∃ es sp, d = .slice es sp ∧ es.length + sp.length = c) : c ≤ 140737488351232 := by
  rcases hc with rfl | ⟨es, sp, rfl, hl⟩
  · omega
  · have := sized_slice h ht hd Tryd.underlying36
    have e : Tryd.prog.bytesOf 23 = 24 := by kernel_rfl
    have e2 : reachBytes = 140737488351232 := by decide
    rw [e, e2, hl] at this
    omega
end Go.Proofs.YtklpjdcmppohkaaDoor
