/-
  Words of 64 bits that stand for numbers with a fraction: their order is that of their rungs.
-/
import Derived.Test.YtdojbgfkcleeaaaDoorRows
namespace Go.Proofs.YtdojbgfkcleeaaaDoor
open Ieee

def fB : Nat := 4503599627370496
def fInf : Nat := 9218868437227405312
def fW : Nat := 9223372036854775808
theorem fB_eq : double.binade = fB := by decide
theorem fInf_eq : double.infRung = fInf := by decide
theorem fW_eq : double.signWeight = fW := by decide
theorem fB_two : fB = 2 ^ 52 := by decide
/-- The magnitude of a rung, in units of the least place. -/
def fE (r : Nat) : Nat := r / fB - 1
def fM (r : Nat) : Nat := if r < fB then r else fB + r % fB
def fV (r : Nat) : Nat := fM r * 2 ^ fE r
theorem fV_lo (r : Nat) (h : r < fB) : fV r = r := by
  unfold fV fM fE
  rw [if_pos h, Nat.div_eq_of_lt h]
  simp
/-- In the binade e a rung's magnitude is its number there. -/
theorem fV_at (e j : Nat) (h1 : e = 0 ∨ fB ≤ j) (h2 : j ≤ 2 * fB) : fV (e * fB + j) = j * 2 ^ e := by
  have hB : 0 < fB := by decide
  by_cases hlo : e * fB + j < fB
  · have he : e = 0 := by
      rcases h1 with h | h
      · exact h
      · rw [Nat.add_comm] at hlo
        have := Nat.le_add_right j (e * fB)
        omega
    subst he
    rw [Nat.zero_mul, Nat.zero_add, Nat.pow_zero, Nat.mul_one]
    exact fV_lo j (by simpa using hlo)
  · by_cases h3 : j = 2 * fB
    · subst h3
      have e1 : e * fB + 2 * fB = (e + 2) * fB := by rw [Nat.add_mul]
      rw [e1]
      unfold fV fM fE
      rw [if_neg (by rw [← e1]; exact hlo), Nat.mul_mod_left, Nat.mul_div_cancel _ hB, Nat.add_zero, show e + 2 - 1 = e + 1 by omega, Nat.pow_succ]
      rw [Nat.mul_comm 2 fB, Nat.mul_assoc, Nat.mul_comm 2 (2 ^ e)]
    · have hj : fB ≤ j := by
        rcases h1 with h | h
        · subst h
          simp at hlo
          exact hlo
        · exact h
      have e1 : e * fB + j = (j - fB) + (e + 1) * fB := by rw [Nat.add_mul, Nat.one_mul]; omega
      rw [e1]
      unfold fV fM fE
      rw [if_neg (by rw [← e1]; exact hlo), Nat.add_mul_mod_self_right, Nat.mod_eq_of_lt (by omega), Nat.add_mul_div_right _ _ hB, Nat.div_eq_of_lt (by omega), show 0 + (e + 1) - 1 = e by omega, show fB + (j - fB) = j by omega]
/-- Every rung lies in one binade. -/
theorem fV_split (r : Nat) : ∃ e j, r = e * fB + j ∧ (e = 0 ∨ fB ≤ j) ∧ j < 2 * fB := by
  have hB : 0 < fB := by decide
  by_cases h : r < 2 * fB
  · exact ⟨0, r, by simp, .inl rfl, h⟩
  · refine ⟨r / fB - 1, fB + r % fB, ?_, .inr (Nat.le_add_right _ _), ?_⟩
    · have h1 := Nat.div_add_mod r fB
      have h2 : 2 ≤ r / fB := (Nat.le_div_iff_mul_le hB).2 (by omega)
      rw [Nat.sub_mul, Nat.one_mul]
      have h3 : fB ≤ r / fB * fB := by
        have := Nat.mul_le_mul_right fB (show 1 ≤ r / fB by omega)
        omega
      rw [Nat.mul_comm] at h1
      omega
    · have := Nat.mod_lt r hB
      omega
theorem fV_step (r : Nat) : fV r < fV (r + 1) := by
  obtain ⟨e, j, rfl, h1, h2⟩ := fV_split r
  rw [Nat.add_assoc, fV_at e j h1 (by omega), fV_at e (j + 1) (by omega) (by omega)]
  exact Nat.mul_lt_mul_of_pos_right (Nat.lt_succ_self j) (Nat.two_pow_pos e)
theorem fV_lt (r s : Nat) (h : r < s) : fV r < fV s := by
  obtain ⟨d, rfl⟩ : ∃ d, s = r + 1 + d := ⟨s - r - 1, by omega⟩
  clear h
  induction d with
  | zero => exact fV_step r
  | succ d ih => exact Nat.lt_trans ih (fV_step _)
theorem fV_le (r s : Nat) (h : r ≤ s) : fV r ≤ fV s := by
  rcases Nat.lt_or_ge r s with h1 | h1
  · exact Nat.le_of_lt (fV_lt r s h1)
  · have : r = s := by omega
    rw [this]
    exact Nat.le_refl _

/-- A word's sign, its rung, whether it is no number; where it stands. -/
def fNeg (x : Nat) : Bool := x / fW % 2 == 1
def fR (x : Nat) : Nat := x % fW
def fNan (x : Nat) : Prop := fInf < fR x
instance (x : Nat) : Decidable (fNan x) := by unfold fNan; infer_instance
def fKey (x : Nat) : Int := if fNeg x then -(fR x : Int) else (fR x : Int)
theorem read_of (x : Nat) : double.read x = if fR x < fB then .number (fNeg x) (fR x) double.leastPlace else if fR x < fInf then .number (fNeg x) (fB + fR x % fB) (double.leastPlace + (fR x / fB - 1 : Nat)) else if fR x = fInf then .infinity (fNeg x) else .nan (fNeg x) (fR x - fInf) := by
  unfold Format.read
  rw [fB_eq, fInf_eq, fW_eq]
  rfl
theorem read_num (x : Nat) (h : fR x < fInf) : double.read x = .number (fNeg x) (fM (fR x)) (double.leastPlace + (fE (fR x) : Nat)) := by
  rw [read_of]
  unfold fM fE
  by_cases h1 : fR x < fB
  · rw [if_pos h1, if_pos h1, Nat.div_eq_of_lt h1]
    simp
  · rw [if_neg h1, if_pos h, if_neg h1]
theorem read_inf (x : Nat) (h : fR x = fInf) : double.read x = .infinity (fNeg x) := by
  rw [read_of, if_neg (by rw [h]; decide), if_neg (by omega), if_pos h]
theorem read_nan (x : Nat) (h : fNan x) : ∃ s t, double.read x = .nan s t := by
  unfold fNan at h
  have h1 : ¬ fR x < fB := by
    have : fB < fInf := by decide
    omega
  rw [read_of, if_neg h1, if_neg (by omega), if_neg (by omega)]
  exact ⟨_, _, rfl⟩
theorem cmp_lt {a b : Int} (h : a < b) : compare a b = .lt := by
  show compareOfLessAndEq a b = _
  unfold compareOfLessAndEq
  rw [if_pos h]
theorem cmp_eq {a b : Int} (h : a = b) : compare a b = .eq := by
  show compareOfLessAndEq a b = _
  unfold compareOfLessAndEq
  rw [if_neg (by omega), if_pos h]
theorem cmp_gt {a b : Int} (h : b < a) : compare a b = .gt := by
  show compareOfLessAndEq a b = _
  unfold compareOfLessAndEq
  rw [if_neg (by omega), if_neg (by omega)]
/-- Two comparisons that go alike. -/
theorem cmp_same {a b c d : Int} (h1 : a < b ↔ c < d) (h2 : b < a ↔ d < c) : compare a b = compare c d := by
  rcases Int.lt_trichotomy a b with h | h | h
  · rw [cmp_lt h, cmp_lt (h1.1 h)]
  · have e1 : ¬ c < d := fun e => by have := h1.2 e; omega
    have e2 : ¬ d < c := fun e => by have := h2.2 e; omega
    rw [cmp_eq h, cmp_eq (by omega)]
  · rw [cmp_gt h, cmp_gt (h2.1 h)]
theorem signed_eq (s : Bool) (m k : Nat) : signed s m k = if s then -((m * 2 ^ k : Nat) : Int) else ((m * 2 ^ k : Nat) : Int) := by
  unfold signed
  rw [Nat.shiftLeft_eq]
/-- Signed magnitudes that are scaled alike go as the rungs go. -/
theorem signed_cmp (s t : Bool) (r q c : Nat) (hc : 0 < c) (a b : Nat) (ha : a * c = fV r) (hb : b * c = fV q) :
    compare (if s then -(a : Int) else (a : Int)) (if t then -(b : Int) else (b : Int)) = compare (if s then -(r : Int) else (r : Int)) (if t then -(q : Int) else (q : Int)) := by
  have hlt : a < b ↔ r < q := by
    constructor
    · intro h
      rcases Nat.lt_or_ge r q with h1 | h1
      · exact h1
      · have h2 := fV_le q r h1
        rw [← ha, ← hb] at h2
        have := Nat.le_of_mul_le_mul_right h2 hc
        omega
    · intro h
      have h2 := fV_lt r q h
      rw [← ha, ← hb] at h2
      exact Nat.lt_of_mul_lt_mul_right h2
  have hgt : b < a ↔ q < r := by
    constructor
    · intro h
      rcases Nat.lt_or_ge q r with h1 | h1
      · exact h1
      · have h2 := fV_le r q h1
        rw [← ha, ← hb] at h2
        have := Nat.le_of_mul_le_mul_right h2 hc
        omega
    · intro h
      have h2 := fV_lt q r h
      rw [← ha, ← hb] at h2
      exact Nat.lt_of_mul_lt_mul_right h2
  have z1 : a = 0 ↔ r = 0 := by
    constructor
    · intro h
      subst h
      rcases Nat.eq_zero_or_pos r with h1 | h1
      · exact h1
      · have := fV_lt 0 r h1
        rw [← ha] at this
        omega
    · intro h
      subst h
      have h3 : fV 0 = 0 := fV_lo 0 (by decide)
      rw [h3] at ha
      rcases Nat.mul_eq_zero.1 ha with h | h
      · exact h
      · omega
  have z2 : b = 0 ↔ q = 0 := by
    constructor
    · intro h
      subst h
      rcases Nat.eq_zero_or_pos q with h1 | h1
      · exact h1
      · have := fV_lt 0 q h1
        rw [← hb] at this
        omega
    · intro h
      subst h
      have h3 : fV 0 = 0 := fV_lo 0 (by decide)
      rw [h3] at hb
      rcases Nat.mul_eq_zero.1 hb with h | h
      · exact h
      · omega
  cases s <;> cases t <;> simp only [Bool.false_eq_true, if_false, if_true] <;> apply cmp_same <;> omega
/-- The order of words that are numbers. -/
theorem order_key (x y : Nat) (hx : ¬ fNan x) (hy : ¬ fNan y) : double.order x y = some (compare (fKey x) (fKey y)) := by
  unfold fNan at hx hy
  unfold Format.order fKey
  by_cases h1 : fR x < fInf
  · rw [read_num x h1]
    by_cases h2 : fR y < fInf
    · rw [read_num y h2]
      unfold Datum.order
      simp only [signed_eq]
      congr 1
      obtain ⟨L, hL⟩ : ∃ L, L = double.leastPlace := ⟨_, rfl⟩
      rw [← hL]
      have e1 : (L + (fE (fR x) : Int) - min (L + (fE (fR x) : Int)) (L + (fE (fR y) : Int))).toNat = fE (fR x) - min (fE (fR x)) (fE (fR y)) := by omega
      have e2 : (L + (fE (fR y) : Int) - min (L + (fE (fR x) : Int)) (L + (fE (fR y) : Int))).toNat = fE (fR y) - min (fE (fR x)) (fE (fR y)) := by omega
      rw [e1, e2]
      refine signed_cmp _ _ (fR x) (fR y) (2 ^ min (fE (fR x)) (fE (fR y))) (Nat.two_pow_pos _) _ _ ?_ ?_
      · unfold fV
        rw [Nat.mul_assoc, ← Nat.pow_add]
        congr 2
        omega
      · unfold fV
        rw [Nat.mul_assoc, ← Nat.pow_add]
        congr 2
        omega
    · have h3 : fR y = fInf := by omega
      rw [read_inf y h3, h3]
      unfold Datum.order
      have hI : (fR x : Int) < (fInf : Int) := by omega
      cases hs : fNeg x <;> cases ht : fNeg y <;> simp only [Bool.false_eq_true, if_false, if_true]
      · rw [cmp_lt hI]
      · rw [cmp_gt (by omega)]
      · rw [cmp_lt (by omega)]
      · rw [cmp_gt (by omega)]
  · have h3 : fR x = fInf := by omega
    rw [read_inf x h3, h3]
    by_cases h2 : fR y < fInf
    · rw [read_num y h2]
      unfold Datum.order
      have hI : (fR y : Int) < (fInf : Int) := by omega
      cases hs : fNeg x <;> cases ht : fNeg y <;> simp only [Bool.false_eq_true, if_false, if_true]
      · rw [cmp_gt hI]
      · rw [cmp_gt (by omega)]
      · rw [cmp_lt (by omega)]
      · rw [cmp_lt (by omega)]
    · have h4 : fR y = fInf := by omega
      rw [read_inf y h4, h4]
      unfold Datum.order
      cases hs : fNeg x <;> cases ht : fNeg y <;> decide
theorem order_nan_l (x y : Nat) (hx : fNan x) : double.order x y = none := by
  obtain ⟨s, t, h⟩ := read_nan x hx
  unfold Format.order
  rw [h]
  rcases double.read y with _ | _ | _ <;> rfl
theorem order_nan_r (x y : Nat) (hy : fNan y) : double.order x y = none := by
  obtain ⟨s, t, h⟩ := read_nan y hy
  unfold Format.order
  rw [h]
  rcases double.read x with _ | _ | _ <;> rfl
end Go.Proofs.YtdojbgfkcleeaaaDoor
