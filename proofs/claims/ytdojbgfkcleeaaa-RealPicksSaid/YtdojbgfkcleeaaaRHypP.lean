/-
  What the laws of layer 6 on counts and lists ask of the program's own functions.
-/
import Derived.Test.YtdojbgfkcleeaaaRBits
import Derived.Test.YtdojbgfkcleeaaaRefGreat
import Derived.Test.YtdojbgfkcleeaaaRefMean
import Derived.Test.YtdojbgfkcleeaaaRefRate
namespace Go.Proofs.Ytdojbgfkcleeaaa
open Ieee Go.RowKit

structure RHypP : Prop where
  order : ∀ (a b : Nat) (w : World), a < 18446744073709551616 → b < 18446744073709551616 → Calls Try.prog 13 #[.float .f64 a, .float .f64 b] w fun e w' => e = .returned (.int .i64 (fOrd a b)) ∧ Below w.heap.size w w'
  rate : ∀ (n of_ : Int) (w : World), -9223372036854775808 ≤ n → n ≤ 9223372036854775807 → -9223372036854775808 ≤ of_ → of_ ≤ 9223372036854775807 → Calls Try.prog 9 #[.int .i64 n, .int .i64 of_] w fun e w' => ∃ r, e = .returned (.float .f64 r) ∧ r < 18446744073709551616 ∧ fBits r = fBits (fRate n of_) ∧ Below w.heap.size w w'
  greatest : ∀ (A : Option Addr) (cp L : Nat) (l : List Nat) (w : World), FSl w w.heap.size A cp l → l.length = L → L ≤ 300 → cp ≤ 9223372036854775807 → Calls Try.prog 11 #[.slice A L cp] w fun e w' => e = .returned (.int .i64 (fGr l L)) ∧ Below w.heap.size w w'
  mean : ∀ (A : Option Addr) (cp L : Nat) (l : List Nat) (w : World), FSl w w.heap.size A cp l → l.length = L → L ≤ 300 → cp ≤ 9223372036854775807 → Calls Try.prog 6 #[.slice A L cp] w fun e w' => ∃ r, e = .returned (.tuple #[.float .f64 r, .int .i64 ((fMn l L).2 : Int)]) ∧ r < 18446744073709551616 ∧ fBits r = fBits (fMean l L) ∧ Below w.heap.size w w'
end Go.Proofs.Ytdojbgfkcleeaaa
