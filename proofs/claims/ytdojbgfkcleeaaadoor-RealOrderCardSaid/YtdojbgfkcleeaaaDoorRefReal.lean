/-
  The document's Bits of any number.
-/
import Derived.Test.YtdojbgfkcleeaaaDoorReal
import Derived.Handy
import Derived.Lib.Hide
import Derived.Laws.Cover2
import Derived.Laws.FloatArith
namespace Go.Proofs.YtdojbgfkcleeaaaDoor
open Go.RowKit

theorem ord_self_ne (x : Nat) : (FloatKind.f64.format.order x x != some .eq) = decide (fNan x) := by
  have h := ord_self x
  have h2 : (FloatKind.f64.format.order x x == some .eq) = decide (¬ fNan x) := h
  rw [bne, h2]
  by_cases hn : fNan x <;> simp [hn]
theorem ord_zero (x : Nat) (h : ¬ fNan x) : (FloatKind.f64.format.order x 0 == some .eq) = decide (fR x = 0) := by
  have h2 : (FloatKind.f64.format.order x 0 == some .eq) = _ := ord_eq x 0
  rw [h2]
  have h3 : ¬ fNan 0 := by decide
  have h4 : fKey 0 = 0 := by decide
  rw [h4]
  congr 1
  simp only [h, h3, not_false_eq_true, true_and, eq_iff_iff]
  exact key_zero x
theorem bits_run (x : Nat) (w : World) : Sem.run Tryd.prog (callFunc 18 #[.float .f64 x]) w = .ok (.value (.int .u64 (x : Int))) w := by kernel_rfl
theorem frombits_run (x : Nat) (w : World) : Sem.run Tryd.prog (callFunc 16 #[.int .u64 (x : Int)]) w = .ok (.value (.float .f64 x)) w := by kernel_rfl
set_option maxRecDepth 4000 in
theorem refBits_any (x : Nat) (w : World) :
    Calls Tryd.prog 8 #[.float .f64 x] w fun e w' => e = .returned (.int .u64 (fBits x : Int)) ∧ Below w.heap.size w w' := by
  have e1 := ord_self_ne x
  by_cases h1 : fNan x
  · rw [decide_eq_true h1] at e1
    have hb : fBits x = 9221120237041090560 := by unfold fBits; rw [if_pos h1]
    replace hb := Lib.hid hb
    go_enter Tryd.func8, Tryd.ntmps8
    go_wp2_with fail
    go_ret
    exact ⟨by rw [hb.out]; rfl, by go_grown⟩
  · rw [decide_eq_false h1] at e1
    have e2 := ord_zero x h1
    have hf := bits_run x
    by_cases h2 : fR x = 0
    · rw [decide_eq_true h2] at e2
      have hb : fBits x = 0 := by unfold fBits; rw [if_neg h1, if_pos h2]
      replace hb := Lib.hid hb
      go_enter Tryd.func8, Tryd.ntmps8
      go_wp2_with fail
      go_ret
      exact ⟨by rw [hb.out]; rfl, by go_grown⟩
    · rw [decide_eq_false h2] at e2
      have hb : fBits x = x := by unfold fBits; rw [if_neg h1, if_neg h2]
      replace hb := Lib.hid hb
      go_enter Tryd.func8, Tryd.ntmps8
      go_wp2_with fail
      go_ret
      exact ⟨by rw [hb.out]; rfl, by go_grown⟩
end Go.Proofs.YtdojbgfkcleeaaaDoor
