/-
  Bytes written in place.
-/
import Derived.Test.YtllmffmmfpecaaaDoorMA8
import Derived.Test.YtllmffmmfpecaaaDoorMB8
import Derived.Lib.ConvBytes
import Derived.Laws.IdiomStrings
import Derived.Lib.QuietBelow
import Derived.BigGuardPart
namespace Go.Proofs.YtllmffmmfpecaaaDoor
open Go.RowKit

/-- Block G reads as the bytes L, and can be written. -/
def ByB (w : World) (G : Nat) (L : List UInt8) : Prop := ∀ (j : Nat) (c : UInt8), L[j]? = some c → w.cell? ⟨G, j, none⟩ = some (.int .u8 (c.toNat : Int)) ∧ w.frozen? ⟨G, j, none⟩ = false
theorem ByB.new (w : World) (s : ByteArray) : ByB (Lib.bytesWorld w 5 s) w.heap.size s.data.toList := by
  intro j c hj
  have hlt : j < s.size := by
    have := (List.getElem?_eq_some_iff.1 hj).1
    rwa [size_listO] at this
  refine ⟨?_, ?_⟩
  · rw [Lib.bytesWorld_cell w _ s j hlt, List.getD_eq_getElem?_getD, hj]
    rfl
  · unfold World.frozen?
    rw [Lib.bytesWorld_at_new]
    have h2 : ¬ (Lib.bytesCells w 5 s).size ≤ j := by
      unfold Lib.bytesCells
      simp
      omega
    simp [h2]
theorem below_bytes (w : World) (s : ByteArray) : Below w.heap.size w (Lib.bytesWorld w 5 s) :=
  ⟨rfl, rfl, rfl, by rw [Lib.bytesWorld_size]; omega, fun k hk => Lib.bytesWorld_at_old w _ s k hk⟩
theorem ByB.set {w : World} {G : Nat} {L : List UInt8} (h : ByB w G L) (i : Nat) (hi : i < L.length) (c : UInt8) : ByB (w.setCell ⟨G, i, none⟩ (.int .u8 (c.toNat : Int))) G (L.set i c) := by
  intro j d hj
  rw [World.frozen?_setCell]
  rw [List.getElem?_set] at hj
  by_cases hij : i = j
  · subst hij
    rw [if_pos rfl, if_pos hi] at hj
    injection hj with hj
    subst hj
    obtain ⟨h1, h2⟩ := h i _ (List.getElem?_eq_getElem hi)
    exact ⟨World.cell?_setCell_same _ _ _ h1, h2⟩
  · rw [if_neg hij] at hj
    obtain ⟨h1, h2⟩ := h j d hj
    exact ⟨(World.cell?_setCell_other _ _ _ _ (by intro e; injection e with _ e; exact hij e)).trans h1, h2⟩
end Go.Proofs.YtllmffmmfpecaaaDoor
