/-
  What the program's Find, FindClass, Attributes and Classes are to answer.
-/
import Derived.Test.YtllmffmmfpecaaaDoorRefFindC8
namespace Go.Proofs.YtllmffmmfpecaaaDoor
open Go.RowKit

/-- What the program's Find, FindClass, Attributes and Classes answer, in any world behind w0. -/
structure FindsH (w0 : World) : Prop where
  find : ∀ (s : ByteArray) (W : World), Below w0.heap.size w0 W → s.size ≤ 600 → Calls Tryd.prog 8 #[.string s] W fun e w' => e = .returned (valA (findA s.data.toList)) ∧ Below W.heap.size W w'
  findClass : ∀ (s : ByteArray) (W : World), Below w0.heap.size w0 W → s.size ≤ 600 → Calls Tryd.prog 10 #[.string s] W fun e w' => FindCS (findC s.data.toList) e w' ∧ Below W.heap.size W w'
  attributes : ∀ (W : World), Below w0.heap.size w0 W → Calls Tryd.prog 12 #[] W fun e w' => ∃ g cp : Nat, e = .returned (.slice (some ⟨g, 0, none⟩) 20 cp) ∧ AttS w' w'.heap.size g ∧ Below W.heap.size W w'
  classes : ∀ (W : World), Below w0.heap.size w0 W → Calls Tryd.prog 14 #[] W fun e w' => ∃ g cp : Nat, e = .returned (.slice (some ⟨g, 0, none⟩) 10 cp) ∧ ClsS w' 0 w'.heap.size g ∧ Below W.heap.size W w'
end Go.Proofs.YtllmffmmfpecaaaDoor
