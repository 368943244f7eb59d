/-
  What the program's Put and Read are to answer.
-/
import Derived.Test.YtbdbgiecfkgimaaDoorEscStr
import Derived.Test.YtbdbgiecfkgimaaDoorFDat
namespace Go.Proofs.YtbdbgiecfkgimaaDoor
open Go.RowKit

def readV : Option (List Nat × Nat) → Value
  | some x => .tuple #[.string (strB x.1), .int .i64 (x.2 : Int), .bool true]
  | none => .tuple #[.string ⟨#[]⟩, .int .i64 0, .bool false]
structure PutH (w0 : World) : Prop where
  put : ∀ (s : ByteArray) (W : World), Below w0.heap.size w0 W → s.size ≤ 2000 → Calls Tryd.prog 11 #[.string s] W fun e w' => e = .returned (.string (strB (putE (rightB s) true (bs s)))) ∧ Below W.heap.size W w'
  read : ∀ (s : ByteArray) (W : World), Below w0.heap.size w0 W → s.size ≤ 2000 → Calls Tryd.prog 12 #[.string s] W fun e w' => e = .returned (readV (readE (bs s))) ∧ Below W.heap.size W w'
end Go.Proofs.YtbdbgiecfkgimaaDoor
