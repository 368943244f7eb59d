/-
  Arguments that are slices of bytes or of strings, opened once, with what the reach says of them.
-/
import Derived.Test.YtllmffmmfpecaaaDoorOpenW
import Derived.Test.YtllmffmmfpecaaaDoorMB8
import Derived.SizedLaws
import Derived.SliceStrings
namespace Go.Proofs.YtllmffmmfpecaaaDoor
open Go.ChangeShapes Go.WideShapes Go.ChangeAt Go.RowKit Go.Joins

set_option maxRecDepth 20000 in
theorem open_bytesD {H : Type} {enc : TypeId × Value → H} {W : World} {r : Reach} {b0 : Nat} {v : Value} {d : DataW H} {p : List MemPlace}
    (hv : Value.okWide Tryd.prog W r b0 59 v) (h : DataW.Trod enc Tryd.prog W 0 (fun _ => true) true 59 v d p) :
    ∃ A c l, v = .slice A (l : List Nat).length c ∧ Src W W.heap.size A c l ∧ (∀ x ∈ l, x < 256) ∧ (c = 0 ∨ ∃ es sp, d = .slice es sp ∧ es.length + sp.length = c) := by
  have hv' := hv
  have h' := h
  obtain ⟨A, c, l, rfl, h1, h2, h3⟩ := open_bytes hv' h'
  refine ⟨A, c, l, rfl, h1, h2, ?_⟩
  obtain ⟨fuel, hf⟩ := h
  rcases open_ints Tryd.underlying59 Tryd.underlying5 (by kernel_rfl) hf with ⟨hcs, _⟩ | ⟨x, ln, cp, zs, hcs, _, hl, hm, hz, hx, hcell, hwz⟩
  · simp [Value.cells] at hcs
    exact .inl hcs.2.2
  · simp [Value.cells] at hcs
    obtain ⟨_, rfl, rfl⟩ := hcs
    have hzl : zs.length = c := by simpa using hz
    injection hx with hx1 hx2
    refine .inr ⟨_, _, hx1, ?_⟩
    simp only [lits, List.length_map, List.length_take, List.length_drop]
    omega
theorem reach_bytes {H : Type} {ts : List TypeId} {ds : List (DataW H)} (h : (DataW.weightsEach Tryd.prog ts ds).all (· ≤ reachBytes) = true) {j : Nat} {d : DataW H} {c : Nat} (ht : ts[j]? = some 59) (hd : ds[j]? = some d) (hc : c = 0 ∨ ∃ es sp, d = .slice es sp ∧ es.length + sp.length = c) : c ≤ 140737488351232 := by
  rcases hc with rfl | ⟨es, sp, rfl, hl⟩
  · omega
  · have := sized_slice h ht hd Tryd.underlying59
    have e : Tryd.prog.bytesOf 5 = 1 := by kernel_rfl
    have e2 : reachBytes = 140737488351232 := by decide
    rw [e, e2, hl] at this
    omega
theorem cells_str : Tryd.prog.cellsOf 9 = 1 := by kernel_rfl
theorem weights_strs {H : Type} {P : Program} {e : TypeId} : ∀ (ss : List ByteArray) (s : ByteArray), s ∈ ss → s.size ∈ DataW.weightsAll P e (strs (H := H) ss)
  | [], _, h => by cases h
  | x :: ss, s, h => by
    show s.size ∈ DataW.weightsAll P e ((.lit (.string x.data.toList) : DataW H) :: strs ss)
    rw [DataW.weightsAll]
    rcases List.mem_cons.1 h with rfl | h
    · exact List.mem_append_left _ (by simp [DataW.weights])
    · exact List.mem_append_right _ (weights_strs ss s h)
set_option maxRecDepth 20000 in
theorem open_strs {H : Type} {enc : TypeId × Value → H} {W : World} {r : Reach} {b0 : Nat} {v : Value} {d : DataW H} {p : List MemPlace}
    (hv : Value.okWide Tryd.prog W r b0 29 v) (h : DataW.Trod enc Tryd.prog W 0 (fun _ => true) true 29 v d p) :
    ∃ A c L, v = .slice A (L : List (List UInt8)).length c ∧ SrcO W W.heap.size A c L ∧ (L = [] ∨ ∃ ss rest, d = .slice (strs ss) rest ∧ L = ss.map fun s => s.data.toList) ∧ c ≤ 9223372036854775807 := by
  obtain ⟨a0, len, cap, rfl⟩ := okWide_slice Tryd.underlying29 hv
  obtain ⟨fuel, hf⟩ := h
  rcases open_strings Tryd.underlying29 Tryd.underlying9 cells_str hf with ⟨hcs, _⟩ | ⟨a, len', cap', ss, hcs, _, hl, hm, hz, hx, hcell, _⟩
  · simp [Value.cells] at hcs
    obtain ⟨rfl, rfl, rfl⟩ := hcs
    exact ⟨none, 0, [], rfl, SrcO.none_ _ _, .inl rfl, by omega⟩
  · simp [Value.cells] at hcs
    obtain ⟨rfl, rfl, rfl⟩ := hcs
    have hzl : ss.length = cap := by simpa using hz
    have hll : ((ss.take len).map fun s => s.data.toList).length = len := by rw [List.length_map, List.length_take]; omega
    refine ⟨some a, cap, (ss.take len).map fun s => s.data.toList, by rw [hll], ⟨by omega, (by simp), fun ad e => ?_⟩, .inr ?_, by unfold maxLen at hm; exact hm⟩
    · injection e with e
      subst e
      refine ⟨fun h0 => ?_, fun j l hj => ?_⟩
      · have := World.block_lt_of_cell? W _ (hcell 0 (by omega))
        rwa [add_block] at this
      · rw [List.getElem?_map, Option.map_eq_some_iff] at hj
        obtain ⟨s, hj, rfl⟩ := hj
        rw [List.getElem?_take] at hj
        split at hj
        · have hjl : j < ss.length := (List.getElem?_eq_some_iff.1 hj).1
          have hs : ss.getD j ByteArray.empty = s := by rw [List.getD_eq_getElem?_getD, hj]; rfl
          rw [hcell j hjl, hs]
          rfl
        · cases hj
    · injection hx with hx1 _
      exact ⟨_, _, hx1, rfl⟩
theorem reach_strs {H : Type} {ts : List TypeId} {ds : List (DataW H)} (h : (DataW.weightsEach Tryd.prog ts ds).all (· ≤ reachBytes) = true) {j : Nat} {d : DataW H} {L : List (List UInt8)} (ht : ts[j]? = some 29) (hd : ds[j]? = some d)
    (hc : L = [] ∨ ∃ ss rest, d = .slice (strs ss) rest ∧ L = ss.map fun s => s.data.toList) : L.length ≤ 140737488351232 ∧ ∀ l ∈ L, l.length ≤ 140737488351232 := by
  have e2 : reachBytes = 140737488351232 := by decide
  rcases hc with rfl | ⟨ss, rest, rfl, rfl⟩
  · exact ⟨by simp, fun l hl => by cases hl⟩
  · constructor
    · have := sized_slice h ht hd Tryd.underlying29
      have e : Tryd.prog.bytesOf 9 = 16 := by kernel_rfl
      rw [e, e2] at this
      simp only [strs, List.length_map] at this ⊢
      omega
    · intro l hl
      obtain ⟨s, hs, rfl⟩ := List.mem_map.1 hl
      have hm := weights_strs (H := H) (P := Tryd.prog) (e := 9) ss s hs
      have hw : s.size ∈ (DataW.slice (strs (H := H) ss) rest).weights Tryd.prog 29 := by
        rw [DataW.weights, Tryd.underlying29]
        exact List.mem_cons_of_mem _ (List.mem_append_left _ hm)
      have := List.all_eq_true.1 h _ (DataW.weights_mem_each ht hd _ hw)
      rw [e2] at this
      have := of_decide_eq_true this
      simpa using this
end Go.Proofs.YtllmffmmfpecaaaDoor
