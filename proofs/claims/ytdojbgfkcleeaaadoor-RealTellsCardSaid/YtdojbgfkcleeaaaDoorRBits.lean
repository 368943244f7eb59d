/-
  Order and sign hang on a number's bits alone, but for the bits of what is none.
-/
import Derived.Test.YtdojbgfkcleeaaaDoorRefReal
import Derived.Test.YtdojbgfkcleeaaaDoorDrawn
namespace Go.Proofs.YtdojbgfkcleeaaaDoor
open Ieee Go.RowKit

theorem nan_bits (x : Nat) : fNan x ↔ fBits x = fNC := by
  unfold fBits
  by_cases h : fNan x
  · rw [if_pos h]
    exact ⟨fun _ => rfl, fun _ => h⟩
  · rw [if_neg h]
    refine ⟨fun h1 => absurd h1 h, fun h1 => ?_⟩
    split at h1
    · exact absurd h1 (by decide)
    · rw [h1]
      exact fNC_nan
theorem bits_bits (x : Nat) : fBits (fBits x) = fBits x := by
  by_cases h : fNan x
  · rw [(nan_bits x).1 h]
    decide
  · by_cases h0 : fR x = 0
    · have : fBits x = 0 := by unfold fBits; rw [if_neg h, if_pos h0]
      rw [this]
      decide
    · have : fBits x = x := by unfold fBits; rw [if_neg h, if_neg h0]
      rw [this, this]
theorem key_bits (x : Nat) (h : ¬ fNan x) : fKey (fBits x) = fKey x := by
  by_cases h0 : fR x = 0
  · have : fBits x = 0 := by unfold fBits; rw [if_neg h, if_pos h0]
    rw [this, (key_zero x).2 h0]
    decide
  · have : fBits x = x := by unfold fBits; rw [if_neg h, if_neg h0]
    rw [this]
theorem ord_bits (a b : Nat) : fOrd (fBits a) (fBits b) = fOrd a b := by
  have e : ∀ x, fNan (fBits x) ↔ fNan x := fun x => by rw [nan_bits, bits_bits, nan_bits]
  unfold fOrd
  by_cases h1 : fNan a <;> by_cases h2 : fNan b
  · simp only [e, h1, h2, if_true]
  · simp only [e, h1, h2, if_true, if_false]
  · simp only [e, h1, h2, if_true, if_false]
  · simp only [e, h1, h2, if_false, key_bits a h1, key_bits b h2]
theorem ord_alike {a b a' b' : Nat} (h1 : fBits a = fBits a') (h2 : fBits b = fBits b') : fOrd a b = fOrd a' b' := by
  rw [← ord_bits a b, h1, h2, ord_bits]
theorem nan_alike {a b : Nat} (h : fBits a = fBits b) : fNan a ↔ fNan b := by rw [nan_bits, h, nan_bits]

theorem below_on {w wr w' : World} (hb : Below w.heap.size w wr) (h : Below wr.heap.size wr w') : Below w.heap.size w w' := hb.trans (h.mono hb.size)
end Go.Proofs.YtdojbgfkcleeaaaDoor
