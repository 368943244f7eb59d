/-
  What the program's functions are to answer, as the plain functions of bytes.
-/
import Derived.Test.YtjnnjncoejdhaaaDoorRefText
namespace Go.Proofs.YtjnnjncoejdhaaaDoor
open Go.RowKit
/-- In every world behind w. -/
structure FHyp (w : World) : Prop where
  next : ∀ (s : ByteArray) w', s.size ≤ 100000 → Below w.heap.size w w' → Calls Tryd.prog 6 #[.string s] w' fun e w'' => e = .returned (.tuple #[.int .i32 ((uNext (bs s)).1 : Int), .int .i64 ((uNext (bs s)).2 : Int)]) ∧ Below w'.heap.size w' w''
  right : ∀ (s : ByteArray) w', s.size ≤ 100000 → Below w.heap.size w w' → Calls Tryd.prog 12 #[.string s] w' fun e w'' => e = .returned (.bool (rightB s)) ∧ Below w'.heap.size w' w''
  count : ∀ (s : ByteArray) w', s.size ≤ 100000 → Below w.heap.size w w' → Calls Tryd.prog 10 #[.string s] w' fun e w'' => e = .returned (.int .i64 (uCountI (bs s))) ∧ Below w'.heap.size w' w''
  fold : ∀ (s : ByteArray) w', s.size ≤ 100000 → Below w.heap.size w w' → Calls Tryd.prog 13 #[.string s] w' fun e w'' => e = .returned (.string (txt false true s)) ∧ Below w'.heap.size w' w''
  piece : ∀ (s : ByteArray) w', s.size ≤ 100000 → Below w.heap.size w w' → Calls Tryd.prog 15 #[.string s] w' fun e w'' => e = .returned (.string (txt true true s)) ∧ Below w'.heap.size w' w''
  exact : ∀ (s : ByteArray) w', s.size ≤ 100000 → Below w.heap.size w w' → Calls Tryd.prog 17 #[.string s] w' fun e w'' => e = .returned (.string (txt false false s)) ∧ Below w'.heap.size w' w''
  num : ∀ (s : ByteArray) w', s.size ≤ 100000 → Below w.heap.size w w' → Calls Tryd.prog 8 #[.string s] w' fun e w'' => e = .returned (.tuple #[.string (numT s), .bool (uNum (bs s)).2]) ∧ Below w'.heap.size w' w''
  find : ∀ (s t : ByteArray) (z : Int) w', s.size ≤ 100000 → t.size ≤ 100000 → -9223372036854775808 ≤ z → z ≤ 9223372036854775807 → Below w.heap.size w w' → Calls Tryd.prog 19 #[.string s, .string t, .int .i64 z] w' fun e w'' => e = .returned (.int .i64 (uFind (bs s) (bs t) z.toNat)) ∧ Below w'.heap.size w' w''
theorem refF (s : ByteArray) (w : World) (hs : s.size ≤ 100000) : Calls Tryd.prog 14 #[.string s] w fun e w'' => e = .returned (.string (txt false true s)) ∧ Below w.heap.size w w'' :=
  (refFold_any s w hs).mono fun e w' ⟨x, h1, h2, h3⟩ => ⟨by rw [h1, txt_of h2], h3⟩
theorem refP (s : ByteArray) (w : World) (hs : s.size ≤ 100000) : Calls Tryd.prog 16 #[.string s] w fun e w'' => e = .returned (.string (txt true true s)) ∧ Below w.heap.size w w'' :=
  (refPiece_any s w hs).mono fun e w' ⟨x, h1, h2, h3⟩ => ⟨by rw [h1, txt_of h2], h3⟩
theorem refE (s : ByteArray) (w : World) (hs : s.size ≤ 100000) : Calls Tryd.prog 18 #[.string s] w fun e w'' => e = .returned (.string (txt false false s)) ∧ Below w.heap.size w w'' :=
  (refExact_any s w hs).mono fun e w' ⟨x, h1, h2, h3⟩ => ⟨by rw [h1, txt_of h2], h3⟩
theorem refN (s : ByteArray) (w : World) (hs : s.size ≤ 100000) : Calls Tryd.prog 9 #[.string s] w fun e w'' => e = .returned (.tuple #[.string (numT s), .bool (uNum (bs s)).2]) ∧ w'' = w :=
  (refNum_any s w hs).mono fun e w' ⟨x, h1, h2, h3⟩ => ⟨by rw [h1, numT_of h2], h3⟩
end Go.Proofs.YtjnnjncoejdhaaaDoor
