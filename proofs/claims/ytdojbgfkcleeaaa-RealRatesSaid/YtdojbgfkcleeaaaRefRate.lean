/-
  The document's Rate of any two counts.
-/
import Derived.Test.YtdojbgfkcleeaaaDrawn
namespace Go.Proofs.Ytdojbgfkcleeaaa
open Ieee Go.RowKit

set_option maxRecDepth 4000 in
theorem refRate_any (n of_ : Int) (w : World) :
    Calls Try.prog 10 #[.int .i64 n, .int .i64 of_] w fun e w' => ∃ r, e = .returned (.float .f64 r) ∧ r < 18446744073709551616 ∧ fSim r (fRate n of_) ∧ Below w.heap.size w w' := by
  have e1 : floatOfInt .f64 n = fInt n := rfl
  have e2 : floatOfInt .f64 of_ = fInt of_ := rfl
  rcases hd : double.div (fInt n) (fInt of_) with _ | r
  · have hop := run_quo_none Try.prog _ _ hd
    have hs := fDiv_none hd
    go_enter Try.func10, Try.ntmps10
    go_wp2_with (simp only [e1, e2, hop])
    all_goals (go_ret; exact ⟨_, rfl, fDrawn_lt _ _ _, .inr ⟨fDrawn_nan _ _ _, by unfold fRate; rw [hs]; exact fNC_nan⟩, by go_grown⟩)
  · have hop := run_quo_some Try.prog _ _ _ hd
    obtain ⟨h1, h2⟩ := fDiv_some hd
    go_enter Try.func10, Try.ntmps10
    go_wp2_with (simp only [e1, e2, hop])
    all_goals (go_ret; exact ⟨_, rfl, h2, .inl h1.symm, by go_grown⟩)
end Go.Proofs.Ytdojbgfkcleeaaa
