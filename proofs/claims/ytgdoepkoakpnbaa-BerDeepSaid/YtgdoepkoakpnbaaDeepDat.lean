/-
  Elements one within another, as data.
-/
import Derived.Test.YtgdoepkoakpnbaaPutP
import Derived.Test.YtgdoepkoakpnbaaPar2
import Derived.Test.YtgdoepkoakpnbaaBerDeep
namespace Go.Proofs.Ytgdoepkoakpnbaa
open Go.RowKit

def dE : Nat → El
  | 0 => ⟨0, false, 4, [], .nil⟩
  | k + 1 => ⟨0, true, 16, [], Fo.of [dE k]⟩
theorem dE_kids (k : Nat) : (dE (k + 1)).kids = [dE k] := by
  unfold El.kids
  rw [dE]
  exact Fo.list_of _
theorem dE_right : ∀ k, (dE k).right = true
  | 0 => by rfl
  | k + 1 => by
    rw [El.right_kids, dE_kids, Bool.and_eq_true]
    constructor
    · exact (one_right (dE (k + 1))).2 ⟨⟨(by show (0 : Int) ≤ 0; omega), (by show (0 : Int) ≤ 3; omega), (by show (0 : Int) ≤ 16; omega), (by show (16 : Int) ≤ 268435455; omega)⟩, (fun h => by cases h), fun _ => rfl⟩
    · simpa using dE_right k
theorem dE_deep : ∀ k, (dE k).deep = k + 1
  | 0 => by rfl
  | k + 1 => by
    rw [El.deep_kids, dE_kids, List.map_singleton, dE_deep k]
    simp [maxL]
theorem dE_size : ∀ k, (dE k).size = k + 1
  | 0 => by rfl
  | k + 1 => by
    rw [El.size_kids, dE_kids, List.map_singleton, dE_size k]
    simp [sumL, dE]
    omega
theorem dE_enc (k : Nat) : (dE (k + 1)).enc = [48] ++ lenB ((dE k).enc.length : Int) ++ (dE k).enc := by
  have h : (dE (k + 1)).inner = (dE k).enc := by
    rw [El.inner_made _ rfl, dE_kids]
    simp
  rw [show (dE (k + 1)).enc = tagB (dE (k + 1)).c (dE (k + 1)).m (dE (k + 1)).n ++ lenB ((dE (k + 1)).inner.length : Int) ++ (dE (k + 1)).inner from rfl, h]
  rfl
theorem dE_len : ∀ k, k ≤ 1000 → (dE k).enc.length ≤ 2 + 6 * k
  | 0, _ => by decide
  | k + 1, h => by
    have h1 := dE_len k (by omega)
    have h2 := lenB_short ((dE k).enc.length : Int) (by omega)
    rw [dE_enc, List.length_append, List.length_append, List.length_singleton]
    omega
theorem dE_byt : ∀ k, k ≤ 1000 → ∀ x ∈ (dE k).enc, x < 256
  | 0, _ => by decide
  | k + 1, h => by
    have h1 := dE_byt k (by omega)
    have h0 := dE_len k (by omega)
    intro x hx
    rw [dE_enc] at hx
    rcases List.mem_append.1 hx with hx | hx
    · rcases List.mem_append.1 hx with hx | hx
      · simp only [List.mem_singleton] at hx
        omega
      · exact lenB_byte _ (by omega) x hx
    · exact h1 x hx
theorem dE_put (k : Nat) (hk : k ≤ 1000) : (dE k).put = if 24 < k + 1 then ([], 15) else ((dE k).enc, 0) := by
  have h1 := dE_right k
  have h2 := dE_deep k
  have h3 := dE_len k hk
  unfold El.put
  rw [if_neg (by simp [h1]), h2]
  split
  · rfl
  · rw [if_neg (by omega)]
theorem dE_parse (k : Nat) (hk : k ≤ 1000) : parP (dE k).enc = if 24 < k + 1 then (el0, 0, 15) else (dE k, (dE k).enc.length, 0) := by
  have h1 := dE_right k
  have h2 := dE_deep k
  have h3 := dE_len k hk
  split
  · have := parP_deep (dE k) h1 (by omega) (by omega) []
    rwa [List.append_nil] at this
  · have := parP_back (dE k) h1 (by omega) (by omega) []
    rwa [List.append_nil] at this
end Go.Proofs.Ytgdoepkoakpnbaa
