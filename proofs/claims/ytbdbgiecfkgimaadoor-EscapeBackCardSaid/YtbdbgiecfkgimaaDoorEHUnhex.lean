/-
  What the program's Unhex is to answer.
-/
import Derived.Test.YtbdbgiecfkgimaaDoorEscStr
namespace Go.Proofs.YtbdbgiecfkgimaaDoor
open Go.RowKit

structure UnhexH (w0 : World) : Prop where
  unhex : ∀ (s : ByteArray) (W : World), Below w0.heap.size w0 W → s.size ≤ 2000 → Calls Tryd.prog 13 #[.string s] W fun e w' => e = .returned (unV (unhexE (bs s))) ∧ Below W.heap.size W w'
end Go.Proofs.YtbdbgiecfkgimaaDoor
