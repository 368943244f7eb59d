/-
  What the program's fold.Right is to answer.
-/
import Derived.Test.YtbdbgiecfkgimaaDoorFDat
namespace Go.Proofs.YtbdbgiecfkgimaaDoor
open Go.RowKit

structure RightH (w0 : World) : Prop where
  right : ∀ (s : ByteArray) (W : World), Below w0.heap.size w0 W → s.size ≤ 2000 → Calls Tryd.prog 15 #[.string s] W fun e w' => e = .returned (.bool (rightB s)) ∧ Below W.heap.size W w'
end Go.Proofs.YtbdbgiecfkgimaaDoor
