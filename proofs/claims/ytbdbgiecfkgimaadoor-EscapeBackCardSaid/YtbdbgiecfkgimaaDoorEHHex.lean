/-
  What the program's Hex is to answer.
-/
import Derived.Test.YtbdbgiecfkgimaaDoorEscStr
namespace Go.Proofs.YtbdbgiecfkgimaaDoor
open Go.RowKit

structure HexH (w0 : World) : Prop where
  hex : ∀ (s : ByteArray) (W : World), Below w0.heap.size w0 W → s.size ≤ 2000 → Calls Tryd.prog 14 #[.string s] W fun e w' => e = .returned (.string (strB (hexE (bs s)))) ∧ Below W.heap.size W w'
end Go.Proofs.YtbdbgiecfkgimaaDoor
