/-
  Numbers with a fraction by their words: their order, the plain one, what they are told as, rates.
-/
import Derived.Test.YtdojbgfkcleeaaaDoorQuot
namespace Go.Proofs.YtdojbgfkcleeaaaDoor
open Ieee

theorem word_neg (s : Bool) (r : Nat) (h : r ≤ fInf) : fNeg (double.word s r) = s ∧ fR (double.word s r) = r ∧ double.word s r < 18446744073709551616 := by
  have hI : fInf < fW := by decide
  unfold Format.word fNeg fR
  rw [fW_eq]
  unfold fW at *
  cases s
  · simp only [Bool.false_eq_true, if_false]
    refine ⟨?_, by omega, by omega⟩
    rw [Nat.div_eq_of_lt (by omega)]
    rfl
  · simp only [if_true]
    refine ⟨?_, by omega, by omega⟩
    have : (9223372036854775808 + r) / 9223372036854775808 = 1 := by omega
    rw [this]
    rfl
theorem word_key (s : Bool) (r : Nat) (h : r ≤ fInf) : ¬ fNan (double.word s r) ∧ fKey (double.word s r) = if s then -(r : Int) else (r : Int) := by
  obtain ⟨h1, h2, _⟩ := word_neg s r h
  unfold fNan fKey
  rw [h1, h2]
  exact ⟨by omega, rfl⟩
/-- Words of one key are one, but for the zeros. -/
theorem key_inj (x y : Nat) (hx : x < 18446744073709551616) (hy : y < 18446744073709551616) (h : fKey x = fKey y) (h0 : fR x ≠ 0) : x = y := by
  unfold fKey fNeg fR fW at *
  have a1 : x / 9223372036854775808 % 2 = x / 9223372036854775808 := by omega
  have a2 : y / 9223372036854775808 % 2 = y / 9223372036854775808 := by omega
  rw [a1, a2] at h
  by_cases b1 : x / 9223372036854775808 = 1
  · have c1 : (x / 9223372036854775808 == 1) = true := by simpa using b1
    rw [c1, if_pos rfl] at h
    by_cases b2 : y / 9223372036854775808 = 1
    · have c2 : (y / 9223372036854775808 == 1) = true := by simpa using b2
      rw [c2, if_pos rfl] at h
      omega
    · have c2 : (y / 9223372036854775808 == 1) = false := by simpa using b2
      rw [c2] at h
      simp only [Bool.false_eq_true, if_false] at h
      omega
  · have c1 : (x / 9223372036854775808 == 1) = false := by simpa using b1
    rw [c1] at h
    simp only [Bool.false_eq_true, if_false] at h
    by_cases b2 : y / 9223372036854775808 = 1
    · have c2 : (y / 9223372036854775808 == 1) = true := by simpa using b2
      rw [c2, if_pos rfl] at h
      omega
    · have c2 : (y / 9223372036854775808 == 1) = false := by simpa using b2
      rw [c2] at h
      simp only [Bool.false_eq_true, if_false] at h
      omega
theorem key_zero (x : Nat) : fKey x = 0 ↔ fR x = 0 := by
  unfold fKey
  split <;> omega
/-- The bits of the plain number. -/
def fBits (x : Nat) : Nat := if fNan x then 9221120237041090560 else if fR x = 0 then 0 else x
theorem fBits_lt (x : Nat) (h : x < 18446744073709551616) : fBits x < 18446744073709551616 := by
  unfold fBits
  split
  · omega
  · split <;> omega
/-- The order: what is no number is above all that are. -/
def fOrd (a b : Nat) : Int :=
  if fNan a then (if fNan b then 0 else 1) else if fNan b then -1 else if fKey a < fKey b then -1 else if fKey b < fKey a then 1 else 0
theorem fOrd_anti (a b : Nat) : fOrd a b = -fOrd b a := by
  unfold fOrd
  by_cases h1 : fNan a
  · by_cases h2 : fNan b
    · rw [if_pos h1, if_pos h2, if_pos h2, if_pos h1]
      rfl
    · rw [if_pos h1, if_neg h2, if_neg h2, if_pos h1]
      rfl
  · by_cases h2 : fNan b
    · rw [if_neg h1, if_pos h2, if_pos h2, if_neg h1]
    · rw [if_neg h1, if_neg h2, if_neg h2, if_neg h1]
      rcases Int.lt_trichotomy (fKey a) (fKey b) with h | h | h
      · rw [if_pos h, if_neg (by omega), if_pos h]
      · rw [if_neg (by omega), if_neg (by omega), if_neg (by omega), if_neg (by omega)]
        rfl
      · rw [if_neg (by omega), if_pos h, if_pos h]
        rfl
theorem fOrd_le (a b : Nat) : fOrd a b ≤ 0 ↔ fNan b ∨ (¬ fNan a ∧ fKey a ≤ fKey b) := by
  unfold fOrd
  by_cases h1 : fNan a <;> by_cases h2 : fNan b <;> simp only [h1, h2, if_true, if_false]
  · simp
  · simp
  · simp
  · rcases Int.lt_trichotomy (fKey a) (fKey b) with h | h | h
    · rw [if_pos h]
      simp
      omega
    · rw [if_neg (by omega), if_neg (by omega)]
      simp
      omega
    · rw [if_neg (by omega), if_pos h]
      simp
      omega
theorem fOrd_trans (a b c : Nat) (h1 : fOrd a b ≤ 0) (h2 : fOrd b c ≤ 0) : fOrd a c ≤ 0 := by
  rw [fOrd_le] at *
  rcases h2 with h2 | ⟨h2, h3⟩
  · exact .inl h2
  · rcases h1 with h1 | ⟨h1, h4⟩
    · exact absurd h1 h2
    · exact .inr ⟨h1, by omega⟩
theorem fOrd_zero (a b : Nat) (ha : a < 18446744073709551616) (hb : b < 18446744073709551616) : fOrd a b = 0 ↔ fBits a = fBits b := by
  unfold fOrd fBits
  have hn : ∀ x, fNan x → fR x ≠ 0 := fun x h e => by
    unfold fNan at h
    omega
  have hq : fNan 9221120237041090560 := by decide
  by_cases h1 : fNan a <;> by_cases h2 : fNan b <;> simp only [h1, h2, if_true, if_false]
  · constructor
    · intro h
      cases h
    · intro h
      exfalso
      split at h
      · cases h
      · rw [← h] at h2
        exact h2 hq
  · constructor
    · intro h
      cases h
    · intro h
      exfalso
      split at h
      · cases h
      · rw [h] at h1
        exact h1 hq
  · by_cases z1 : fR a = 0
    · rw [if_pos z1]
      have k1 := (key_zero a).2 z1
      by_cases z2 : fR b = 0
      · rw [if_pos z2, k1, (key_zero b).2 z2]
        simp
      · rw [if_neg z2]
        have k2 : fKey b ≠ 0 := fun e => z2 ((key_zero b).1 e)
        constructor
        · intro h
          exfalso
          split at h
          · cases h
          · split at h
            · cases h
            · omega
        · intro h
          exfalso
          apply z2
          rw [← h]
          rfl
    · rw [if_neg z1]
      have k1 : fKey a ≠ 0 := fun e => z1 ((key_zero a).1 e)
      by_cases z2 : fR b = 0
      · rw [if_pos z2]
        have k2 := (key_zero b).2 z2
        constructor
        · intro h
          exfalso
          split at h
          · cases h
          · split at h
            · cases h
            · omega
        · intro h
          exfalso
          apply z1
          rw [h]
          rfl
      · rw [if_neg z2]
        constructor
        · intro h
          refine key_inj a b ha hb ?_ z1
          split at h
          · cases h
          · split at h
            · cases h
            · omega
        · rintro rfl
          rw [if_neg (by omega), if_neg (by omega)]
/-- Comparisons in the program. -/
theorem ord_lt (a b : Nat) : (double.order a b == some .lt) = decide (¬ fNan a ∧ ¬ fNan b ∧ fKey a < fKey b) := by
  by_cases h1 : fNan a
  · rw [order_nan_l a b h1, decide_eq_false (fun h => h.1 h1)]
    rfl
  · by_cases h2 : fNan b
    · rw [order_nan_r a b h2, decide_eq_false (fun h => h.2.1 h2)]
      rfl
    · rw [order_key a b h1 h2]
      rcases Int.lt_trichotomy (fKey a) (fKey b) with h | h | h
      · rw [cmp_lt h, decide_eq_true ⟨h1, h2, h⟩]
        rfl
      · rw [cmp_eq h, decide_eq_false (by omega)]
        rfl
      · rw [cmp_gt h, decide_eq_false (by omega)]
        rfl
theorem ord_gt (a b : Nat) : (double.order a b == some .gt) = decide (¬ fNan a ∧ ¬ fNan b ∧ fKey b < fKey a) := by
  by_cases h1 : fNan a
  · rw [order_nan_l a b h1, decide_eq_false (fun h => h.1 h1)]
    rfl
  · by_cases h2 : fNan b
    · rw [order_nan_r a b h2, decide_eq_false (fun h => h.2.1 h2)]
      rfl
    · rw [order_key a b h1 h2]
      rcases Int.lt_trichotomy (fKey a) (fKey b) with h | h | h
      · rw [cmp_lt h, decide_eq_false (by omega)]
        rfl
      · rw [cmp_eq h, decide_eq_false (by omega)]
        rfl
      · rw [cmp_gt h, decide_eq_true ⟨h1, h2, h⟩]
        rfl
theorem ord_eq (a b : Nat) : (double.order a b == some .eq) = decide (¬ fNan a ∧ ¬ fNan b ∧ fKey a = fKey b) := by
  by_cases h1 : fNan a
  · rw [order_nan_l a b h1, decide_eq_false (fun h => h.1 h1)]
    rfl
  · by_cases h2 : fNan b
    · rw [order_nan_r a b h2, decide_eq_false (fun h => h.2.1 h2)]
      rfl
    · rw [order_key a b h1 h2]
      rcases Int.lt_trichotomy (fKey a) (fKey b) with h | h | h
      · rw [cmp_lt h, decide_eq_false (by omega)]
        rfl
      · rw [cmp_eq h, decide_eq_true ⟨h1, h2, h⟩]
        rfl
      · rw [cmp_gt h, decide_eq_false (by omega)]
        rfl
theorem ord_self (a : Nat) : (double.order a a == some .eq) = decide (¬ fNan a) := by
  rw [ord_eq]
  congr 1
  simp

/-- The word of a whole number. -/
def fInt (n : Int) : Nat := double.nearest (decide (n < 0)) n.natAbs 0
theorem fInt_rung (n : Int) (h1 : -9223372036854775808 ≤ n) (h2 : n ≤ 9223372036854775808) : fRung n.natAbs 0 < fInf := by
  have h := fRung_int n.natAbs 9223372036854775808 (by omega)
  have h3 : fRung 9223372036854775808 0 < fInf := by decide +kernel
  omega
theorem fInt_word (n : Int) (h1 : -9223372036854775808 ≤ n) (h2 : n ≤ 9223372036854775808) : fInt n = double.word (decide (n < 0)) (fRung n.natAbs 0) := by
  unfold fInt
  rw [nearest_rung, Nat.min_eq_left (Nat.le_of_lt (fInt_rung n h1 h2))]
theorem fInt_parts (n : Int) (h1 : -9223372036854775808 ≤ n) (h2 : n ≤ 9223372036854775808) : fNeg (fInt n) = decide (n < 0) ∧ fR (fInt n) = fRung n.natAbs 0 ∧ fInt n < 18446744073709551616 := by
  rw [fInt_word n h1 h2]
  exact word_neg _ _ (Nat.le_of_lt (fInt_rung n h1 h2))
/-- The rung of a rate, for a divisor that is positive. -/
def fRateR (n of_ : Nat) : Nat :=
  min (fRung (fQuo (fM (fRung n 0)) (fM (fRung of_ 0))) (double.leastPlace + fE (fRung n 0) - (double.leastPlace + fE (fRung of_ 0)) - fMore (fM (fRung n 0)) (fM (fRung of_ 0)) - 1)) fInf
theorem fRateR_mono (n m of_ : Nat) (ho : 0 < of_) (h : n ≤ m) : fRateR n of_ ≤ fRateR m of_ := by
  have hp := fRung_pos of_ ho
  have hM : 0 < fM (fRung of_ 0) := by
    rcases Nat.eq_zero_or_pos (fM (fRung of_ 0)) with h0 | h0
    · exfalso
      have h1 := fV_lt 0 _ hp
      have h2 : fV (fRung of_ 0) = 0 := by unfold fV; rw [h0, Nat.zero_mul]
      omega
    · exact h0
  have := quo_mono (fRung n 0) (fRung m 0) (fM (fRung of_ 0)) (double.leastPlace + fE (fRung of_ 0)) hM (fRung_int n m h)
  unfold fRateR
  omega
theorem quot_num (s t : Bool) (m n : Nat) (i j : Int) (hn : n ≠ 0) : Datum.quotient 54 (.number s m i) (.number t n j) = some (.number (s ^^ t) (fQuo m n) (i - j - fMore m n - 1)) := by
  have h : Datum.quotient 54 (.number s m i) (.number t n j) = if n = 0 then if m = 0 then none else some (.infinity (s ^^ t)) else some (.number (s ^^ t) (fQuo m n) (i - j - fMore m n - 1)) := rfl
  rw [h, if_neg hn]
theorem div_rate (n of_ : Int) (h1 : -9223372036854775808 ≤ n) (h2 : n ≤ 9223372036854775808) (ho : 0 < of_) (ho2 : of_ ≤ 9223372036854775808) :
    double.div (fInt n) (fInt of_) = some (double.word (decide (n < 0)) (fRateR n.natAbs of_.natAbs)) := by
  obtain ⟨a1, a2, _⟩ := fInt_parts n h1 h2
  obtain ⟨b1, b2, _⟩ := fInt_parts of_ (by omega) ho2
  have hx := read_num (fInt n) (by rw [a2]; exact fInt_rung n h1 h2)
  have hy := read_num (fInt of_) (by rw [b2]; exact fInt_rung of_ (by omega) ho2)
  rw [a1, a2] at hx
  rw [b1, b2, decide_eq_false (by omega)] at hy
  have hp := fRung_pos of_.natAbs (by omega)
  have hM : fM (fRung of_.natAbs 0) ≠ 0 := by
    intro h0
    have h3 := fV_lt 0 _ hp
    have h4 : fV (fRung of_.natAbs 0) = 0 := by unfold fV; rw [h0, Nat.zero_mul]
    omega
  unfold Format.div
  rw [hx, hy, show double.fractionBits + 2 = 54 from rfl, quot_num _ _ _ _ _ _ hM]
  show some (double.nearest (decide (n < 0) ^^ false) _ _) = _
  rw [nearest_rung, Bool.xor_false]
  rfl
theorem fRateR_le (n of_ : Nat) : fRateR n of_ ≤ fInf := Nat.min_le_right _ _
theorem fRateR_zero (of_ : Nat) : fRateR 0 of_ = 0 := by
  have h0 : fRung 0 0 = 0 := fRung_zero 0
  have h1 : fQuo (fM 0) (fM (fRung of_ 0)) = 0 := by
    have : fM 0 = 0 := by unfold fM; rw [if_pos (by decide)]
    rw [this]
    unfold fQuo
    rw [Nat.zero_shiftLeft, Nat.zero_div, Nat.zero_mod]
    rfl
  unfold fRateR
  rw [h0, h1, fRung_zero]
  exact Nat.zero_min _
/-- Where a rate stands. -/
def fRateK (n of_ : Int) : Int := if n < 0 then -(fRateR n.natAbs of_.natAbs : Int) else (fRateR n.natAbs of_.natAbs : Int)
theorem rate_key (n of_ : Int) : ¬ fNan (double.word (decide (n < 0)) (fRateR n.natAbs of_.natAbs)) ∧ fKey (double.word (decide (n < 0)) (fRateR n.natAbs of_.natAbs)) = fRateK n of_ := by
  obtain ⟨h1, h2⟩ := word_key (decide (n < 0)) _ (fRateR_le n.natAbs of_.natAbs)
  refine ⟨h1, ?_⟩
  rw [h2]
  unfold fRateK
  by_cases h : n < 0
  · rw [decide_eq_true h, if_pos rfl, if_pos h]
  · rw [decide_eq_false h, if_neg h]
    simp
theorem rateK_mono (n m of_ : Int) (ho : 0 < of_) (h : n ≤ m) : fRateK n of_ ≤ fRateK m of_ := by
  unfold fRateK
  by_cases h1 : n < 0
  · rw [if_pos h1]
    by_cases h2 : m < 0
    · rw [if_pos h2]
      have := fRateR_mono m.natAbs n.natAbs of_.natAbs (by omega) (by omega)
      omega
    · rw [if_neg h2]
      omega
  · rw [if_neg h1, if_neg (by omega)]
    have := fRateR_mono n.natAbs m.natAbs of_.natAbs (by omega) (by omega)
    omega
theorem rateK_neg (n of_ : Int) : fRateK (-n) of_ = -fRateK n of_ := by
  unfold fRateK
  rw [Int.natAbs_neg]
  rcases Int.lt_trichotomy n 0 with h | h | h
  · rw [if_neg (by omega), if_pos h, Int.neg_neg]
  · subst h
    show (if -(0 : Int) < 0 then _ else _) = -(if (0 : Int) < 0 then _ else _)
    rw [if_neg (by omega), if_neg (by omega), Int.natAbs_zero, fRateR_zero]
    rfl
  · rw [if_pos (by omega), if_neg (by omega)]
end Go.Proofs.YtdojbgfkcleeaaaDoor
