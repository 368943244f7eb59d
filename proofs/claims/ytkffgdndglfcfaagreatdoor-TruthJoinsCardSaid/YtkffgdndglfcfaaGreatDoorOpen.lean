/-
  An argument that is a slice of bytes, opened once: it reads as a list of bytes.
-/
import Derived.Test.YtkffgdndglfcfaaGreatDoorAppend
import Derived.ProofKit
import Derived.OpenShut
import Derived.Lib.SmallJoins
namespace Go.Proofs.YtkffgdndglfcfaaGreatDoor
open Go.ChangeShapes Go.WideShapes Go.ChangeAt Go.RowKit Go.Joins

theorem own_none : ownKnob Tryz.prog.godebug = none := by kernel_rfl
theorem laid_out : laidOutB Tryz.prog = true := by kernel_rfl

set_option maxRecDepth 20000 in
theorem open_bytes {H : Type} {enc : TypeId × Value → H} {W : World} {r : Reach} {b0 : Nat} {v : Value} {d : DataW H} {p : List MemPlace}
    (hv : Value.okWide Tryz.prog W r b0 40 v) (h : DataW.Trod enc Tryz.prog W 0 (fun _ => true) true 40 v d p) :
    ∃ A c l, v = .slice A (l : List Nat).length c ∧ Src W W.heap.size A c l ∧ (∀ x ∈ l, x < 256) ∧ c ≤ 9223372036854775807 := by
  obtain ⟨a0, len, cap, rfl⟩ := okWide_slice Tryz.underlying40 hv
  obtain ⟨fuel, hf⟩ := h
  rcases open_ints Tryz.underlying40 Tryz.underlying5 (by kernel_rfl) hf with ⟨hcs, _⟩ | ⟨x, ln, cp, zs, hcs, _, hl, hm, hz, _, hcell, hwz⟩
  · simp [Value.cells] at hcs
    obtain ⟨rfl, rfl, rfl⟩ := hcs
    exact ⟨none, 0, [], rfl, Src.none_ _ _, (by simp), by omega⟩
  · simp [Value.cells] at hcs
    obtain ⟨rfl, rfl, rfl⟩ := hcs
    have hzl : zs.length = cap := by simpa using hz
    have hll : ((zs.take len).map Int.toNat).length = len := by rw [List.length_map, List.length_take]; omega
    have hb : ∀ z ∈ zs, 0 ≤ z ∧ z ≤ 255 := fun z hz => bounds_u8 (hwz z hz)
    refine ⟨some x, cap, (zs.take len).map Int.toNat, by rw [hll], ⟨by omega, (by simp), fun ad e => ?_⟩, fun y hy => ?_, by unfold maxLen at hm; exact hm⟩
    · injection e with e
      subst e
      refine ⟨fun h0 => ?_, fun j n hj => ?_⟩
      · have := World.block_lt_of_cell? W _ (hcell 0 (by omega))
        rwa [add_block] at this
      · rw [List.getElem?_map, Option.map_eq_some_iff] at hj
        obtain ⟨z, hj, rfl⟩ := hj
        rw [List.getElem?_take] at hj
        split at hj
        · have hjl : j < zs.length := (List.getElem?_eq_some_iff.1 hj).1
          have hzj : zs.getD j 0 = z := by rw [List.getD_eq_getElem?_getD, hj]; rfl
          rw [hcell j hjl, hzj, Int.toNat_of_nonneg (hb z (List.mem_of_getElem? hj)).1]
        · cases hj
    · rw [List.mem_map] at hy
      obtain ⟨z, hz1, rfl⟩ := hy
      have := hb z (List.mem_of_mem_take hz1)
      omega
end Go.Proofs.YtkffgdndglfcfaaGreatDoor
