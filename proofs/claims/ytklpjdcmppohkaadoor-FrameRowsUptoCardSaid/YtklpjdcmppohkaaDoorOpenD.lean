/-
  Arguments that are slices of bytes, or slices of these, opened once, with what the reach says of them.
-/
import Derived.Test.YtklpjdcmppohkaaDoorOpenW
import Derived.Test.YtklpjdcmppohkaaDoorRowS
import Derived.SizedLaws
namespace Go.Proofs.YtklpjdcmppohkaaDoor
open Go.ChangeShapes Go.WideShapes Go.ChangeAt Go.RowKit Go.Joins

set_option maxRecDepth 20000 in
theorem open_bytesD {H : Type} {enc : TypeId × Value → H} {W : World} {r : Reach} {b0 : Nat} {v : Value} {d : DataW H} {p : List MemPlace}
    (hv : Value.okWide Tryd.prog W r b0 23 v) (h : DataW.Trod enc Tryd.prog W 0 (fun _ => true) true 23 v d p) :
    ∃ A c l, v = .slice A (l : List Nat).length c ∧ Src W W.heap.size A c l ∧ (∀ x ∈ l, x < 256) ∧ (c = 0 ∨ ∃ es sp, d = .slice es sp ∧ es.length + sp.length = c) := by
  have hv' := hv
  have h' := h
  obtain ⟨A, c, l, rfl, h1, h2, h3⟩ := open_bytes hv' h'
  refine ⟨A, c, l, rfl, h1, h2, ?_⟩
  obtain ⟨fuel, hf⟩ := h
  rcases open_ints Tryd.underlying23 Tryd.underlying5 (by kernel_rfl) hf with ⟨hcs, _⟩ | ⟨x, ln, cp, zs, hcs, _, hl, hm, hz, hx, hcell, hwz⟩
  · simp [Value.cells] at hcs
    exact .inl hcs.2.2
  · simp [Value.cells] at hcs
    obtain ⟨_, rfl, rfl⟩ := hcs
    have hzl : zs.length = c := by simpa using hz
    injection hx with hx1 hx2
    refine .inr ⟨_, _, hx1, ?_⟩
    simp only [lits, List.length_map, List.length_take, List.length_drop]
    omega
theorem reach_bytes {H : Type} {ts : List TypeId} {ds : List (DataW H)} (h : (DataW.weightsEach Tryd.prog ts ds).all (· ≤ reachBytes) = true) {j : Nat} {d : DataW H} {c : Nat} (ht : ts[j]? = some 23) (hd : ds[j]? = some d) (hc : c = 0 ∨ ∃ es sp, d = .slice es sp ∧ es.length + sp.length = c) : c ≤ 140737488351232 := by
  rcases hc with rfl | ⟨es, sp, rfl, hl⟩
  · omega
  · have := sized_slice h ht hd Tryd.underlying23
    have e : Tryd.prog.bytesOf 5 = 1 := by kernel_rfl
    have e2 : reachBytes = 140737488351232 := by decide
    rw [e, e2, hl] at this
    omega
end Go.Proofs.YtklpjdcmppohkaaDoor
