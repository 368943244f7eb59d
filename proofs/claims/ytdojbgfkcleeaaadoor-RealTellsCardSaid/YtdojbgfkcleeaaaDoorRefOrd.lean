/-
  The document's Order of any two numbers.
-/
import Derived.Test.YtdojbgfkcleeaaaDoorRefReal
namespace Go.Proofs.YtdojbgfkcleeaaaDoor
open Go.RowKit

set_option maxRecDepth 4000 in
set_option maxHeartbeats 800000 in
theorem refOrder_any (a b : Nat) (w : World) :
    Calls Tryd.prog 13 #[.float .f64 a, .float .f64 b] w fun e w' => e = .returned (.int .i64 (fOrd a b)) ∧ w' = w := by
  have e1 := ord_self_ne a
  have e2 := ord_self_ne b
  have e3 : (FloatKind.f64.format.order a b == some .lt) = _ := ord_lt a b
  have e4 : (FloatKind.f64.format.order a b == some .gt) = _ := ord_gt a b
  by_cases h1 : fNan a <;> by_cases h2 : fNan b
  · have hb : fOrd a b = 0 := by unfold fOrd; rw [if_pos h1, if_pos h2]
    rw [decide_eq_true h1] at e1
    rw [decide_eq_true h2] at e2
    rw [hb]
    replace hb := Lib.hid hb
    clear e3 e4
    go_enter Tryd.func13, Tryd.ntmps13
    go_wp2_with fail
    go_ret
    exact ⟨rfl, rfl⟩
  · have hb : fOrd a b = 1 := by unfold fOrd; rw [if_pos h1, if_neg h2]
    rw [decide_eq_true h1] at e1
    rw [decide_eq_false h2] at e2
    rw [hb]
    replace hb := Lib.hid hb
    clear e3 e4
    go_enter Tryd.func13, Tryd.ntmps13
    go_wp2_with fail
    go_ret
    exact ⟨rfl, rfl⟩
  · have hb : fOrd a b = -1 := by unfold fOrd; rw [if_neg h1, if_pos h2]
    rw [decide_eq_false h1] at e1
    rw [decide_eq_true h2] at e2
    rw [hb]
    replace hb := Lib.hid hb
    clear e3 e4
    go_enter Tryd.func13, Tryd.ntmps13
    go_wp2_with fail
    go_ret
    exact ⟨rfl, rfl⟩
  · rw [decide_eq_false h1] at e1
    rw [decide_eq_false h2] at e2
    rcases Int.lt_trichotomy (fKey a) (fKey b) with h | h | h
    · have hb : fOrd a b = -1 := by unfold fOrd; rw [if_neg h1, if_neg h2, if_pos h]
      rw [decide_eq_true ⟨h1, h2, h⟩] at e3
      rw [hb]
      replace hb := Lib.hid hb
      clear e4
      go_enter Tryd.func13, Tryd.ntmps13
      go_wp2_with fail
      go_ret
      exact ⟨rfl, rfl⟩
    · have hb : fOrd a b = 0 := by unfold fOrd; rw [if_neg h1, if_neg h2, if_neg (by omega), if_neg (by omega)]
      rw [decide_eq_false (by omega)] at e3
      rw [decide_eq_false (by omega)] at e4
      rw [hb]
      replace hb := Lib.hid hb
      go_enter Tryd.func13, Tryd.ntmps13
      go_wp2_with fail
      go_ret
      exact ⟨rfl, rfl⟩
    · have hb : fOrd a b = 1 := by unfold fOrd; rw [if_neg h1, if_neg h2, if_neg (by omega), if_pos h]
      rw [decide_eq_false (by omega)] at e3
      rw [decide_eq_true ⟨h1, h2, h⟩] at e4
      rw [hb]
      replace hb := Lib.hid hb
      go_enter Tryd.func13, Tryd.ntmps13
      go_wp2_with fail
      go_ret
      exact ⟨rfl, rfl⟩
end Go.Proofs.YtdojbgfkcleeaaaDoor
