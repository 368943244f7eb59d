/-
  What the program's Numeric and Find are to answer, as the plain functions of bytes.
-/
import Derived.Test.YtjnnjncoejdhaaaFDat
namespace Go.Proofs.Ytjnnjncoejdhaaa
open Go.RowKit

/-- In every world behind w. -/
structure FHyp (w : World) : Prop where
  num : ∀ (s : ByteArray) w', s.size ≤ 100000 → Below w.heap.size w w' → Calls Try.prog 6 #[.string s] w' fun e w'' => e = .returned (.tuple #[.string (numT s), .bool (uNum (bs s)).2]) ∧ Below w'.heap.size w' w''
  find : ∀ (s t : ByteArray) (z : Int) w', s.size ≤ 100000 → t.size ≤ 100000 → -9223372036854775808 ≤ z → z ≤ 9223372036854775807 → Below w.heap.size w w' → Calls Try.prog 5 #[.string s, .string t, .int .i64 z] w' fun e w'' => e = .returned (.int .i64 (uFind (bs s) (bs t) z.toNat)) ∧ Below w'.heap.size w' w''
end Go.Proofs.Ytjnnjncoejdhaaa
