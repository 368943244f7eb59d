/-
  Sums and quotients of any numbers, whatever bits a number that is none has.
-/
import Derived.Test.YtdojbgfkcleeaaaDoorReal
import Derived.Handy
import Derived.Lib.Hide
import Derived.Laws.Cover2
import Derived.Laws.FloatArith
namespace Go.Proofs.YtdojbgfkcleeaaaDoor
open Ieee Go.RowKit

def fNC : Nat := 9221120237041090560
theorem fNC_nan : fNan fNC := by decide
/-- The bits that are drawn for what is no number. -/
def fDrawn (w : World) (x y : Nat) : Nat := Question.cut (.nanBits .f64 x y) (w.tape w.drawn (.nanBits .f64 x y))
theorem fDrawn_lt (w : World) (x y : Nat) : fDrawn w x y < 18446744073709551616 := by
  unfold fDrawn
  simp only [Question.cut]
  omega
theorem fDrawn_nan (w : World) (x y : Nat) : fNan (fDrawn w x y) := by
  unfold fDrawn
  simp only [Question.cut]
  obtain ⟨t, ht⟩ : ∃ t, t = w.tape w.drawn (.nanBits .f64 x y) := ⟨_, rfl⟩
  rw [← ht]
  obtain ⟨u, hu⟩ : ∃ u, u = t % 2 := ⟨_, rfl⟩
  obtain ⟨v, hv⟩ : ∃ v, v = t / 2 % (2 ^ 52 - 1) := ⟨_, rfl⟩
  have h1 : u < 2 := by omega
  have h2 : v < 4503599627370495 := by omega
  rw [← hu, ← hv]
  clear hu hv
  unfold fNan fR fInf fW
  rcases show u = 0 ∨ u = 1 by omega with rfl | rfl <;> omega
def fAdd (x y : Nat) : Nat := (double.add x y).getD fNC
def fDiv (x y : Nat) : Nat := (double.div x y).getD fNC
/-- Alike, but for the bits of what is no number. -/
def fSim (s t : Nat) : Prop := s = t ∨ (fNan s ∧ fNan t)
theorem fSim_bits {s t : Nat} (h : fSim s t) : fBits s = fBits t := by
  rcases h with rfl | ⟨h1, h2⟩
  · rfl
  · unfold fBits
    rw [if_pos h1, if_pos h2]
theorem run_quo_some (P : Program) (x y r : Nat) (h : double.div x y = some r) : ∀ t w, (binOp .quo t (.float .f64 x) (.float .f64 y)).run P w = .ok (.float .f64 r) w := fun t w => run_float_arith w .quo t .f64 x y r h
theorem run_quo_none (P : Program) (x y : Nat) (h : double.div x y = none) : ∀ t w, (binOp .quo t (.float .f64 x) (.float .f64 y)).run P w = .ok (.float .f64 (fDrawn w x y)) w.drew := fun t w => by
  have h2 : FloatKind.f64.format.div x y = none := h
  simp [binOp, Op.floatArith, h2, Question.forced, fDrawn]
theorem run_add_some (P : Program) (x y r : Nat) (h : double.add x y = some r) : ∀ t w, (binOp .add t (.float .f64 x) (.float .f64 y)).run P w = .ok (.float .f64 r) w := fun t w => run_float_arith w .add t .f64 x y r h
theorem run_add_none (P : Program) (x y : Nat) (h : double.add x y = none) : ∀ t w, (binOp .add t (.float .f64 x) (.float .f64 y)).run P w = .ok (.float .f64 (fDrawn w x y)) w.drew := fun t w => by
  have h2 : FloatKind.f64.format.add x y = none := h
  simp [binOp, Op.floatArith, h2, Question.forced, fDrawn]
theorem fDiv_some {x y r : Nat} (h : double.div x y = some r) : fDiv x y = r ∧ r < 18446744073709551616 := by
  refine ⟨by unfold fDiv; rw [h]; rfl, ?_⟩
  exact double.div_lt h
theorem fDiv_none {x y : Nat} (h : double.div x y = none) : fDiv x y = fNC := by unfold fDiv; rw [h]; rfl
theorem fAdd_some {x y r : Nat} (h : double.add x y = some r) : fAdd x y = r ∧ r < 18446744073709551616 := by
  refine ⟨by unfold fAdd; rw [h]; rfl, ?_⟩
  exact double.add_lt h
theorem fAdd_none {x y : Nat} (h : double.add x y = none) : fAdd x y = fNC := by unfold fAdd; rw [h]; rfl
/-- The rate: of any two counts. -/
def fRate (n of_ : Int) : Nat := fDiv (fInt n) (fInt of_)
end Go.Proofs.YtdojbgfkcleeaaaDoor
