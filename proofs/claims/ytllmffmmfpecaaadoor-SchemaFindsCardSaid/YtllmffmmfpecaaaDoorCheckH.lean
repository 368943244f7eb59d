/-
  What the program's Check is to answer.
-/
import Derived.Test.YtllmffmmfpecaaaDoorMB8
namespace Go.Proofs.YtllmffmmfpecaaaDoor
open Go.RowKit

/-- What the program's Check answers, in any world behind w0. -/
structure CheckH (w0 : World) : Prop where
  check : ∀ (A : Option Addr) (cp N : Nat) (L : List (List UInt8)) (A' : Option Addr) (cp' N' : Nat) (T : List (List UInt8)) (W : World), Below w0.heap.size w0 W → N ≤ 1000 → N' ≤ 1000 → L.length = N → T.length = N' → SrcO W W.heap.size A cp L → SrcO W W.heap.size A' cp' T → (∀ l ∈ L, l.length ≤ 600) → (∀ l ∈ T, l.length ≤ 600) →
    Calls Tryd.prog 21 #[.slice A N cp, .slice A' N' cp'] W fun e w' => e = .returned (.int .i64 (checkD L T : Int)) ∧ Below W.heap.size W w'
end Go.Proofs.YtllmffmmfpecaaaDoor
