/-
  What the program's Filter and Unfilter are to answer.
-/
import Derived.Test.YtbdbgiecfkgimaaDoorEscStr
import Derived.Test.YtbdbgiecfkgimaaDoorFDat
namespace Go.Proofs.YtbdbgiecfkgimaaDoor
open Go.RowKit

structure FiltH (w0 : World) : Prop where
  filter : ∀ (s : ByteArray) (W : World), Below w0.heap.size w0 W → s.size ≤ 2000 → Calls Tryd.prog 9 #[.string s] W fun e w' => e = .returned (.string (strB (filterE (rightB s) (bs s)))) ∧ Below W.heap.size W w'
  unfilter : ∀ (s : ByteArray) (W : World), Below w0.heap.size w0 W → s.size ≤ 2000 → Calls Tryd.prog 7 #[.string s] W fun e w' => e = .returned (unV (unfE (bs s))) ∧ Below W.heap.size W w'
end Go.Proofs.YtbdbgiecfkgimaaDoor
