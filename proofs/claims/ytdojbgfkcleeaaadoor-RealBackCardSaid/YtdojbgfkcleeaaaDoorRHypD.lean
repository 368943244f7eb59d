/-
  What the laws of layer 6 on texts ask of the program's own functions.
-/
import Derived.Test.YtdojbgfkcleeaaaDoorRBits
import Derived.Test.YtdojbgfkcleeaaaDoorRefHex
namespace Go.Proofs.YtdojbgfkcleeaaaDoor
open Ieee Go.RowKit

structure RHypD (w0 : World) : Prop where
  text : ∀ (x : Nat) (w : World), Below w0.heap.size w0 w → x < 18446744073709551616 → Calls Tryd.prog 9 #[.float .f64 x] w fun e w' => e = .returned (.string (strB (hexL (fBits x)))) ∧ Below w.heap.size w w'
  plain : ∀ (x : Nat) (w : World), Below w0.heap.size w0 w → x < 18446744073709551616 → Calls Tryd.prog 11 #[.float .f64 x] w fun e w' => ∃ y, e = .returned (.float .f64 y) ∧ y < 18446744073709551616 ∧ fBits y = fBits x ∧ Below w.heap.size w w'
  order : ∀ (a b : Nat) (w : World), Below w0.heap.size w0 w → a < 18446744073709551616 → b < 18446744073709551616 → Calls Tryd.prog 12 #[.float .f64 a, .float .f64 b] w fun e w' => e = .returned (.int .i64 (fOrd a b)) ∧ Below w.heap.size w w'
  rate : ∀ (n of_ : Int) (w : World), Below w0.heap.size w0 w → -9223372036854775808 ≤ n → n ≤ 9223372036854775807 → -9223372036854775808 ≤ of_ → of_ ≤ 9223372036854775807 → Calls Tryd.prog 14 #[.int .i64 n, .int .i64 of_] w fun e w' => ∃ r, e = .returned (.float .f64 r) ∧ r < 18446744073709551616 ∧ fBits r = fBits (fRate n of_) ∧ Below w.heap.size w w'
structure RParD (w0 : World) : Prop where
  parse : ∀ (s : ByteArray) (w : World), Below w0.heap.size w0 w → Calls Tryd.prog 6 #[.string s] w fun e w' => ∃ x, e = .returned (.tuple #[.float .f64 x, .bool (fParse (bs s)).isSome]) ∧ x < 18446744073709551616 ∧ fBits x = fBits ((fParse (bs s)).getD 0) ∧ Below w.heap.size w w'
end Go.Proofs.YtdojbgfkcleeaaaDoor
