/-
  The program's Numeric and Find answer as the plain functions of bytes say.
-/
import Derived.Test.YtjnnjncoejdhaaaMHyp
import Derived.Test.YtjnnjncoejdhaaaFNum
import Derived.Test.YtjnnjncoejdhaaaFFind
namespace Go.Proofs.Ytjnnjncoejdhaaa
open Go.RowKit

theorem cell_lt {w : World} {a : Addr} {v : Value} (h : w.cell? a = some v) : a.block < w.heap.size := by
  rcases Nat.lt_or_ge a.block w.heap.size with h' | h'
  · exact h'
  · simp [World.cell?, Array.getElem?_eq_none h'] at h
theorem maxLen_of {W : World} (h : W.ShapedOpen Try.prog) : ∃ m, W.cell? ⟨0, 0, none⟩ = some (.int .i64 m) := Try.laysM143.s1_3 W h
theorem fhyp (W : World) (h : W.ShapedOpen Try.prog) : FHyp W := by
  obtain ⟨m, hm⟩ := maxLen_of h
  exact {
    num := fun s w' hs _ => num_any s w' hs
    find := fun s t z w' hs _ h1 h2 hb => (find_any s t z w' m hs h1 h2 ((hb.cell (cell_lt hm)).trans hm)).mono fun e w'' ⟨he, hw⟩ => ⟨he, hw ▸ Below.refl _ _⟩ }
end Go.Proofs.Ytjnnjncoejdhaaa
