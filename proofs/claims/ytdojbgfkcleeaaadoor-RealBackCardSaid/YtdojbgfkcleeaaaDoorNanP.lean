/-
  The program's Order, Plain and quotients of any numbers.
-/
import Derived.Test.YtdojbgfkcleeaaaDoorRBits
import Derived.Deep.QuietTactic
import Derived.BigQuiet
namespace Go.Proofs.YtdojbgfkcleeaaaDoor
open Ieee Go.RowKit

theorem isNan_any (x : Nat) (w : World) :
    Calls Tryd.prog 21 #[.float .f64 x] w fun e w' => e = .returned (.bool (decide (fNan x))) ∧ w = w' := by
  have e1 := ord_self_ne x
  go_enter Tryd.func21, Tryd.ntmps21
  go_wp2_with fail
  go_ret
  exact ⟨rfl, rfl⟩
theorem isNan_yes (x : Nat) (h : fNan x) (w : World) : Calls Tryd.prog 21 #[.float .f64 x] w fun e w' => e = .returned (.bool true) ∧ w = w' := by
  have h2 := isNan_any x w
  rw [decide_eq_true h] at h2
  exact h2
theorem isNan_no (x : Nat) (h : ¬ fNan x) (w : World) : Calls Tryd.prog 21 #[.float .f64 x] w fun e w' => e = .returned (.bool false) ∧ w = w' := by
  have h2 := isNan_any x w
  rw [decide_eq_false h] at h2
  exact h2
theorem nc_run (w : World) : Sem.run Tryd.prog (callFunc 16 #[.int .u64 9221120237041090560]) w = .ok (.value (.float .f64 9221120237041090560)) w := by kernel_rfl
set_option maxRecDepth 4000 in
set_option maxHeartbeats 400000 in
theorem plain_any (x : Nat) (w : World) :
    Calls Tryd.prog 11 #[.float .f64 x] w fun e w' => e = .returned (.float .f64 (fBits x)) ∧ w = w' := by
  by_cases h1 : fNan x
  · have CN := fun W => isNan_yes x h1 W
    have hb : fBits x = 9221120237041090560 := by unfold fBits; rw [if_pos h1]
    have hr := nc_run
    replace CN := Lib.hid CN
    replace hb := Lib.hid hb
    go_enter Tryd.func11, Tryd.ntmps11
    go_wp2_with fail
    refine (CN.out _).mono ?_
    rintro _ _ ⟨rfl, rfl⟩
    dsimp only []
    go_wp2_with fail
    go_ret
    exact ⟨by rw [hb.out]; rfl, rfl⟩
  · have CN := fun W => isNan_no x h1 W
    have e2 := ord_zero x h1
    replace CN := Lib.hid CN
    by_cases h2 : fR x = 0
    · rw [decide_eq_true h2] at e2
      have hb : fBits x = 0 := by unfold fBits; rw [if_neg h1, if_pos h2]
      replace hb := Lib.hid hb
      go_enter Tryd.func11, Tryd.ntmps11
      go_wp2_with fail
      refine (CN.out _).mono ?_
      rintro _ _ ⟨rfl, rfl⟩
      dsimp only []
      go_wp2_with fail
      go_ret
      exact ⟨by rw [hb.out]; rfl, rfl⟩
    · rw [decide_eq_false h2] at e2
      have hb : fBits x = x := by unfold fBits; rw [if_neg h1, if_neg h2]
      replace hb := Lib.hid hb
      go_enter Tryd.func11, Tryd.ntmps11
      go_wp2_with fail
      refine (CN.out _).mono ?_
      rintro _ _ ⟨rfl, rfl⟩
      dsimp only []
      go_wp2_with fail
      go_ret
      exact ⟨by rw [hb.out]; rfl, rfl⟩
set_option maxRecDepth 4000 in
set_option maxHeartbeats 800000 in
theorem order_any (a b : Nat) (w : World) :
    Calls Tryd.prog 12 #[.float .f64 a, .float .f64 b] w fun e w' => e = .returned (.int .i64 (fOrd a b)) ∧ w = w' := by
  have e3 : (FloatKind.f64.format.order a b == some .lt) = _ := ord_lt a b
  have e4 : (FloatKind.f64.format.order a b == some .gt) = _ := ord_gt a b
  obtain ⟨o, ho⟩ : ∃ o, o = fOrd a b := ⟨_, rfl⟩
  rw [← ho]
  have CN := fun x W => isNan_any x W
  replace CN := Lib.hid CN
  by_cases h1 : fNan a <;> by_cases h2 : fNan b
  · have hb : o = 0 := by rw [ho]; unfold fOrd; rw [if_pos h1, if_pos h2]
    have d1 : decide (fNan a) = true := decide_eq_true h1
    have d2 : decide (fNan b) = true := decide_eq_true h2
    replace hb := Lib.hid hb
    replace ho := Lib.hid ho
    clear e3 e4
    replace h1 := Lib.hid h1
    replace h2 := Lib.hid h2
    go_enter Tryd.func12, Tryd.ntmps12
    go_wp2_with (go_at_call 21; refine (CN.out _ _).mono ?_; rintro _ _ ⟨rfl, rfl⟩)
    go_ret
    exact ⟨by rw [hb.out]; rfl, rfl⟩
  · have hb : o = 1 := by rw [ho]; unfold fOrd; rw [if_pos h1, if_neg h2]
    have d1 : decide (fNan a) = true := decide_eq_true h1
    have d2 : decide (fNan b) = false := decide_eq_false h2
    rw [decide_eq_false (fun h => h.1 h1)] at e3 e4
    replace hb := Lib.hid hb
    replace ho := Lib.hid ho
    replace h1 := Lib.hid h1
    replace h2 := Lib.hid h2
    go_enter Tryd.func12, Tryd.ntmps12
    go_wp2_with (go_at_call 21; refine (CN.out _ _).mono ?_; rintro _ _ ⟨rfl, rfl⟩)
    go_ret
    exact ⟨by rw [hb.out]; rfl, rfl⟩
  · have hb : o = -1 := by rw [ho]; unfold fOrd; rw [if_neg h1, if_pos h2]
    have d1 : decide (fNan a) = false := decide_eq_false h1
    have d2 : decide (fNan b) = true := decide_eq_true h2
    rw [decide_eq_false (fun h => h.2.1 h2)] at e3 e4
    replace hb := Lib.hid hb
    replace ho := Lib.hid ho
    replace h1 := Lib.hid h1
    replace h2 := Lib.hid h2
    go_enter Tryd.func12, Tryd.ntmps12
    go_wp2_with (go_at_call 21; refine (CN.out _ _).mono ?_; rintro _ _ ⟨rfl, rfl⟩)
    go_ret
    exact ⟨by rw [hb.out]; rfl, rfl⟩
  · have d1 : decide (fNan a) = false := decide_eq_false h1
    have d2 : decide (fNan b) = false := decide_eq_false h2
    rcases Int.lt_trichotomy (fKey a) (fKey b) with h | h | h
    · have hb : o = -1 := by rw [ho]; unfold fOrd; rw [if_neg h1, if_neg h2, if_pos h]
      rw [decide_eq_true ⟨h1, h2, h⟩] at e3
      clear e4
      replace hb := Lib.hid hb
      replace ho := Lib.hid ho
      replace h1 := Lib.hid h1
      replace h2 := Lib.hid h2
      replace h := Lib.hid h
      go_enter Tryd.func12, Tryd.ntmps12
      go_wp2_with (go_at_call 21; refine (CN.out _ _).mono ?_; rintro _ _ ⟨rfl, rfl⟩)
      go_ret
      exact ⟨by rw [hb.out]; rfl, rfl⟩
    · have hb : o = 0 := by rw [ho]; unfold fOrd; rw [if_neg h1, if_neg h2, if_neg (by omega), if_neg (by omega)]
      rw [decide_eq_false (by omega)] at e3
      rw [decide_eq_false (by omega)] at e4
      replace hb := Lib.hid hb
      replace ho := Lib.hid ho
      replace h1 := Lib.hid h1
      replace h2 := Lib.hid h2
      replace h := Lib.hid h
      go_enter Tryd.func12, Tryd.ntmps12
      go_wp2_with (go_at_call 21; refine (CN.out _ _).mono ?_; rintro _ _ ⟨rfl, rfl⟩)
      go_ret
      exact ⟨by rw [hb.out]; rfl, rfl⟩
    · have hb : o = 1 := by rw [ho]; unfold fOrd; rw [if_neg h1, if_neg h2, if_neg (by omega), if_pos h]
      rw [decide_eq_false (by omega)] at e3
      rw [decide_eq_true ⟨h1, h2, h⟩] at e4
      replace hb := Lib.hid hb
      replace ho := Lib.hid ho
      replace h1 := Lib.hid h1
      replace h2 := Lib.hid h2
      replace h := Lib.hid h
      go_enter Tryd.func12, Tryd.ntmps12
      go_wp2_with (go_at_call 21; refine (CN.out _ _).mono ?_; rintro _ _ ⟨rfl, rfl⟩)
      go_ret
      exact ⟨by rw [hb.out]; rfl, rfl⟩
set_option maxRecDepth 4000 in
set_option maxHeartbeats 400000 in
/-- A quotient, whatever bits are drawn for what is no number. -/
theorem divide_any (a b : Nat) (w : World) :
    Calls Tryd.prog 22 #[.float .f64 a, .float .f64 b] w fun e w' => ∃ r, e = .returned (.float .f64 r) ∧ r < 18446744073709551616 ∧ fBits r = fBits (fDiv a b) ∧ Below w.heap.size w w' := by
  have CN := fun x W => isNan_any x W
  have CP := fun x W => plain_any x W
  replace CN := Lib.hid CN
  replace CP := Lib.hid CP
  rcases hd : double.div a b with _ | r
  · have hop := run_quo_none Tryd.prog _ _ hd
    have hs := fDiv_none hd
    replace hs := Lib.hid hs
    go_enter Tryd.func22, Tryd.ntmps22
    have hdn : ∀ W, fNan (fDrawn W a b) := fun W => fDrawn_nan W a b
    have hdl : Hid (∀ W, fDrawn W a b < 18446744073709551616) := Lib.hid (fun W => fDrawn_lt W a b)
    have hdb : Hid (∀ W, fBits (fDrawn W a b) = fNC) := Lib.hid (fun W => (nan_bits _).1 (fDrawn_nan W a b))
    have hbb : Hid (fBits fNC = fNC) := Lib.hid (by decide)
    go_wp2_with (first | (go_at_call 21; refine (CN.out _ _).mono ?_; rintro _ _ ⟨rfl, rfl⟩) | (go_at_call 11; refine (CP.out _ _).mono ?_; rintro _ _ ⟨rfl, rfl⟩))
    go_ret
    exact ⟨_, rfl, by rw [hdb.out]; decide, by rw [hdb.out, hbb.out, hs.out, hbb.out], by go_grown⟩
  · have hop := run_quo_some Tryd.prog _ _ _ hd
    obtain ⟨h1, h2⟩ := fDiv_some hd
    have hbb := bits_bits r
    have hbl := fBits_lt r h2
    by_cases hn : fNan r
    · have hdn : decide (fNan r) = true := decide_eq_true hn
      replace hn := Lib.hid hn
      replace h1 := Lib.hid h1
      replace hbb := Lib.hid hbb
      go_enter Tryd.func22, Tryd.ntmps22
      go_wp2_with (first | (go_at_call 21; refine (CN.out _ _).mono ?_; rintro _ _ ⟨rfl, rfl⟩) | (go_at_call 11; refine (CP.out _ _).mono ?_; rintro _ _ ⟨rfl, rfl⟩))
      go_ret
      exact ⟨_, rfl, hbl, by rw [hbb.out, h1.out], by go_grown⟩
    · have hdn : decide (fNan r) = false := decide_eq_false hn
      replace hn := Lib.hid hn
      replace h1 := Lib.hid h1
      replace hbb := Lib.hid hbb
      go_enter Tryd.func22, Tryd.ntmps22
      go_wp2_with (go_at_call 21; refine (CN.out _ _).mono ?_; rintro _ _ ⟨rfl, rfl⟩)
      go_ret
      exact ⟨_, rfl, h2, by rw [h1.out], by go_grown⟩
set_option maxRecDepth 4000 in
theorem rate_any (n of_ : Int) (w : World) :
    Calls Tryd.prog 14 #[.int .i64 n, .int .i64 of_] w fun e w' => ∃ r, e = .returned (.float .f64 r) ∧ r < 18446744073709551616 ∧ fBits r = fBits (fRate n of_) ∧ Below w.heap.size w w' := by
  have e1 : floatOfInt .f64 n = fInt n := rfl
  have e2 : floatOfInt .f64 of_ = fInt of_ := rfl
  have CD := divide_any (fInt n) (fInt of_)
  replace CD := Lib.hid CD
  go_enter Tryd.func14, Tryd.ntmps14
  go_wp2_with fail
  refine (CD.out _).mono ?_
  rintro _ w1 ⟨r, rfl, h1, h2, h3⟩
  replace h2 := Lib.hid h2
  replace h3 := Lib.hid h3
  dsimp only []
  go_wp2_with fail
  go_ret
  exact ⟨r, rfl, h1, h2.out, h3.out⟩
end Go.Proofs.YtdojbgfkcleeaaaDoor
