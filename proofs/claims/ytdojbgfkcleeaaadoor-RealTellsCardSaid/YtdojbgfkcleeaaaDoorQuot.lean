/-
  Quotients and whole numbers rounded to the nearest word: who is not less is not less rounded.
-/
import Derived.Test.YtdojbgfkcleeaaaDoorNear
namespace Go.Proofs.YtdojbgfkcleeaaaDoor
open Ieee

theorem le_of_above {r s : Nat} (h : ∀ k, k < r → k < s) : r ≤ s := by
  rcases Nat.lt_or_ge s r with h1 | h1
  · have := h s h1
    omega
  · exact h1
theorem fRung_zero (place : Int) : fRung 0 place = 0 := by
  unfold fRung
  rw [if_pos rfl]
/-- Whole numbers. -/
theorem fRung_int (m n : Nat) (h : m ≤ n) : fRung m 0 ≤ fRung n 0 := by
  rcases Nat.eq_zero_or_pos m with h0 | h0
  · subst h0
    rw [fRung_zero]
    exact Nat.zero_le _
  · refine le_of_above fun k hk => ?_
    rw [fRung_above _ _ h0] at hk
    rw [fRung_above _ _ (by omega)]
    exact fAbove_mono _ _ _ _ k (Nat.two_pow_pos _) (Nat.two_pow_pos _) (Nat.mul_le_mul_right _ (Nat.mul_le_mul_right _ h)) hk
theorem fRung_pos (m : Nat) (h : 0 < m) : 0 < fRung m 0 := by
  rw [fRung_above _ _ h]
  left
  have h0 : fV 0 = 0 := fV_lo 0 (by decide)
  have h1 : fV 1 = 1 := fV_lo 1 (by decide)
  rw [h0, h1]
  have e : (double.leastPlace - 0).toNat = 0 := by decide
  rw [e]
  have := Nat.mul_pos h (Nat.two_pow_pos (0 - double.leastPlace).toNat)
  omega
/-- The midpoints behind rungs, in units of a place: whole, or below what has 54 digits and more. -/
theorem mid_unit (k G1 G2 q : Nat) (hq : 2 ^ 53 ≤ q) : (∃ t, (fV k + fV (k + 1)) * 2 ^ G2 = t * 2 ^ (G1 + 1)) ∨ (fV k + fV (k + 1)) * 2 ^ G2 < 2 * q * 2 ^ G1 := by
  obtain ⟨e, j, rfl, h1, h2⟩ := fV_split k
  rw [Nat.add_assoc, fV_at e j h1 (by omega), fV_at e (j + 1) (by omega) (by omega), ← Nat.add_mul, show j + (j + 1) = 2 * j + 1 by omega, Nat.mul_assoc, ← Nat.pow_add]
  by_cases h : G1 + 1 ≤ e + G2
  · left
    refine ⟨(2 * j + 1) * 2 ^ (e + G2 - (G1 + 1)), ?_⟩
    rw [Nat.mul_assoc, ← Nat.pow_add]
    congr 2
    omega
  · right
    have h3 : 2 ^ (e + G2) ≤ 2 ^ G1 := Nat.pow_le_pow_right (by omega) (by omega)
    have h4 : 2 * j + 1 < 2 * q := by
      have : 2 * fB = 2 ^ 53 := by decide
      omega
    exact Nat.lt_of_le_of_lt (Nat.mul_le_mul_left _ h3) (Nat.mul_lt_mul_of_pos_right h4 (Nat.two_pow_pos _))
/-- How many digits are taken on before a division. -/
def fMore (m n : Nat) : Nat := 54 + n.log2 - m.log2
def fQuo (m n : Nat) : Nat := 2 * ((m <<< fMore m n) / n) + ((m <<< fMore m n) % n != 0).toNat
theorem quo_digits (m n : Nat) (hm : 0 < m) (hn : 0 < n) : 2 ^ 53 ≤ (m <<< fMore m n) / n := by
  rw [Nat.le_div_iff_mul_le hn, Nat.shiftLeft_eq]
  have h1 : n < 2 ^ (n.log2 + 1) := Nat.lt_log2_self
  have h2 := log2_le m (by omega)
  have h3 : 2 ^ (54 + n.log2) ≤ 2 ^ m.log2 * 2 ^ fMore m n := by
    rw [← Nat.pow_add]
    unfold fMore
    exact Nat.pow_le_pow_right (by omega) (by omega)
  have h4 : 2 ^ m.log2 * 2 ^ fMore m n ≤ m * 2 ^ fMore m n := Nat.mul_le_mul_right _ h2
  have h5 : 2 ^ 53 * n ≤ 2 ^ 53 * 2 ^ (n.log2 + 1) := Nat.mul_le_mul_left _ (by omega)
  rw [← Nat.pow_add, show 53 + (n.log2 + 1) = 54 + n.log2 by omega] at h5
  omega
/-- What is left over tells a quotient from the whole number below it, and no more is asked. -/
theorem quo_whole (d n t : Nat) (hn : 0 < n) : (2 * t < 2 * (d / n) + (d % n != 0).toNat ↔ t * n < d) ∧ (2 * t = 2 * (d / n) + (d % n != 0).toNat ↔ t * n = d) := by
  have h1 := Nat.div_add_mod d n
  have h2 := Nat.mod_lt d hn
  obtain ⟨q, hq⟩ : ∃ q, q = d / n := ⟨_, rfl⟩
  obtain ⟨r, hr⟩ : ∃ r, r = d % n := ⟨_, rfl⟩
  rw [← hq, ← hr] at h1 ⊢
  rw [← hr] at h2
  have hs : ((r != 0).toNat = 0 ∧ r = 0) ∨ ((r != 0).toNat = 1 ∧ 0 < r) := by
    rcases Nat.eq_zero_or_pos r with h | h
    · exact .inl ⟨by simp [h], h⟩
    · exact .inr ⟨by
        have : (r != 0) = true := by simp; omega
        rw [this]
        rfl, h⟩
  rcases Nat.lt_trichotomy t q with h | h | h
  · have h3 : t * n + n ≤ n * q := by
      rw [Nat.mul_comm t, ← Nat.mul_succ]
      exact Nat.mul_le_mul_left n h
    rcases hs with ⟨h4, _⟩ | ⟨h4, _⟩ <;> rw [h4] <;> constructor <;> constructor <;> intro _ <;> omega
  · subst h
    rw [Nat.mul_comm t]
    rcases hs with ⟨h4, _⟩ | ⟨h4, _⟩ <;> rw [h4] <;> constructor <;> constructor <;> intro _ <;> omega
  · have h3 : n * q + n ≤ t * n := by
      rw [Nat.mul_comm t, ← Nat.mul_succ]
      exact Nat.mul_le_mul_left n h
    rcases hs with ⟨h4, _⟩ | ⟨h4, _⟩ <;> rw [h4] <;> constructor <;> constructor <;> intro _ <;> omega
/-- The rung of a quotient is that of the exact one. -/
theorem quo_above (m n : Nat) (i j : Int) (hm : 0 < m) (hn : 0 < n) (k : Nat) :
    k < fRung (fQuo m n) (i - j - fMore m n - 1) ↔ fAbove (m * 2 ^ (i - j - double.leastPlace).toNat) (n * 2 ^ (double.leastPlace + j - i).toNat) k := by
  have hq := quo_digits m n hm hn
  obtain ⟨d, hd⟩ : ∃ d, d = m <<< fMore m n := ⟨_, rfl⟩
  have hw0 : fQuo m n = 2 * (d / n) + (d % n != 0).toNat := by rw [hd]; rfl
  rw [← hd] at hq
  have hqp : 0 < d / n := Nat.lt_of_lt_of_le (Nat.two_pow_pos 53) hq
  have hwp : 0 < fQuo m n := by rw [hw0]; omega
  rw [fRung_above _ _ hwp]
  rw [Nat.shiftLeft_eq] at hd
  obtain ⟨w, hw⟩ : ∃ w, w = fQuo m n := ⟨_, rfl⟩
  rw [← hw] at hw0 ⊢
  obtain ⟨mo, hmo⟩ : ∃ mo, mo = fMore m n := ⟨_, rfl⟩
  rw [← hmo] at hd ⊢
  obtain ⟨L, hL⟩ : ∃ L, L = double.leastPlace := ⟨_, rfl⟩
  rw [← hL]
  obtain ⟨p1, hp1⟩ : ∃ p : Nat, p = (i - j - (mo : Int) - 1 - L).toNat := ⟨_, rfl⟩
  obtain ⟨p2, hp2⟩ : ∃ p : Nat, p = (L - (i - j - (mo : Int) - 1)).toNat := ⟨_, rfl⟩
  obtain ⟨a0, ha0⟩ : ∃ p : Nat, p = (i - j - L).toNat := ⟨_, rfl⟩
  obtain ⟨b0, hb0⟩ : ∃ p : Nat, p = (L + j - i).toNat := ⟨_, rfl⟩
  rw [← hp1, ← hp2, ← ha0, ← hb0]
  obtain ⟨G1, hG1⟩ : ∃ p : Nat, p = (i - j - (mo : Int) - L).toNat := ⟨_, rfl⟩
  obtain ⟨G2, hG2⟩ : ∃ p : Nat, p = (L - (i - j - (mo : Int))).toNat := ⟨_, rfl⟩
  have x1 : p1 + 1 + G2 = G1 + p2 := by omega
  have x2 : a0 + G2 = G1 + mo + b0 := by omega
  obtain ⟨S, hS⟩ : ∃ S, S = fV k + fV (k + 1) := ⟨_, rfl⟩
  have hmid := mid_unit k G1 G2 (d / n) hq
  unfold fAbove
  rw [← hS] at hmid ⊢
  -- both sides over a common unit
  have l1 : (2 ^ p2 * S) * 2 ^ G2 = (S * 2 ^ G2) * 2 ^ p2 := by rw [Nat.mul_comm (2 ^ p2), Nat.mul_assoc, Nat.mul_assoc, Nat.mul_comm (2 ^ p2)]
  have l2 : (2 * (w * 2 ^ p1)) * 2 ^ G2 = (w * 2 ^ G1) * 2 ^ p2 := by
    rw [Nat.mul_assoc w, ← Nat.pow_add, ← x1, Nat.pow_add, Nat.pow_add, Nat.pow_one, Nat.mul_left_comm 2 w, Nat.mul_assoc w, Nat.mul_comm 2 (2 ^ p1)]
  have l3 : (n * 2 ^ b0 * S) * 2 ^ G2 = (S * 2 ^ G2 * n) * 2 ^ b0 := by
    rw [Nat.mul_comm n, Nat.mul_assoc, Nat.mul_assoc, Nat.mul_comm (2 ^ b0)]
    congr 1
    rw [Nat.mul_comm n, Nat.mul_right_comm]
  have l4 : (2 * (m * 2 ^ a0)) * 2 ^ G2 = (2 * d * 2 ^ G1) * 2 ^ b0 := by
    rw [hd, Nat.mul_assoc 2, Nat.mul_assoc 2, Nat.mul_assoc 2, Nat.mul_assoc m, ← Nat.pow_add, x2, Nat.mul_assoc m, Nat.mul_assoc m, ← Nat.pow_add, ← Nat.pow_add, Nat.add_comm mo G1]
  have c1 : (2 ^ p2 * S < 2 * (w * 2 ^ p1) ↔ S * 2 ^ G2 < w * 2 ^ G1) ∧ (2 ^ p2 * S = 2 * (w * 2 ^ p1) ↔ S * 2 ^ G2 = w * 2 ^ G1) := by
    constructor
    · rw [← Nat.mul_lt_mul_right (a := 2 ^ G2) (Nat.two_pow_pos _), l1, l2, Nat.mul_lt_mul_right (Nat.two_pow_pos _)]
    · rw [← Nat.mul_right_cancel_iff (Nat.two_pow_pos G2), l1, l2, Nat.mul_right_cancel_iff (Nat.two_pow_pos _)]
  have c2 : (n * 2 ^ b0 * S < 2 * (m * 2 ^ a0) ↔ S * 2 ^ G2 * n < 2 * d * 2 ^ G1) ∧ (n * 2 ^ b0 * S = 2 * (m * 2 ^ a0) ↔ S * 2 ^ G2 * n = 2 * d * 2 ^ G1) := by
    constructor
    · rw [← Nat.mul_lt_mul_right (a := 2 ^ G2) (Nat.two_pow_pos _), l3, l4, Nat.mul_lt_mul_right (Nat.two_pow_pos _)]
    · rw [← Nat.mul_right_cancel_iff (Nat.two_pow_pos G2), l3, l4, Nat.mul_right_cancel_iff (Nat.two_pow_pos _)]
  rw [c1.1, c1.2, c2.1, c2.2]
  rcases hmid with ⟨t, ht⟩ | hlt
  · obtain ⟨w1, w2⟩ := quo_whole d n t hn
    rw [← hw0] at w1 w2
    have e1 : S * 2 ^ G2 = 2 * t * 2 ^ G1 := by rw [ht, Nat.pow_succ, Nat.mul_comm (2 ^ G1) 2, ← Nat.mul_assoc, Nat.mul_comm t]
    have e2 : S * 2 ^ G2 * n = 2 * (t * n) * 2 ^ G1 := by rw [e1, Nat.mul_right_comm, Nat.mul_assoc 2]
    rw [e2, e1, Nat.mul_lt_mul_right (Nat.two_pow_pos _), Nat.mul_right_cancel_iff (Nat.two_pow_pos _), Nat.mul_lt_mul_right (Nat.two_pow_pos _), Nat.mul_right_cancel_iff (Nat.two_pow_pos _), w1, w2, Nat.mul_lt_mul_left (by decide), Nat.mul_left_cancel_iff (by decide)]
  · have h1 : S * 2 ^ G2 < w * 2 ^ G1 := Nat.lt_of_lt_of_le hlt (Nat.mul_le_mul_right _ (by rw [hw0]; omega))
    have h2 : S * 2 ^ G2 * n < 2 * d * 2 ^ G1 := by
      have h3 := Nat.mul_lt_mul_of_pos_right hlt hn
      have h4 : 2 * (d / n) * 2 ^ G1 * n ≤ 2 * d * 2 ^ G1 := by
        rw [Nat.mul_right_comm]
        refine Nat.mul_le_mul_right _ ?_
        rw [Nat.mul_assoc]
        exact Nat.mul_le_mul_left _ (Nat.div_mul_le_self d n)
      omega
    exact ⟨fun _ => .inl h2, fun _ => .inl h1⟩
/-- Quotients by the same number go as what is divided goes. -/
theorem quo_mono (r1 r2 n : Nat) (j : Int) (hn : 0 < n) (h : r1 ≤ r2) :
    fRung (fQuo (fM r1) n) (double.leastPlace + fE r1 - j - fMore (fM r1) n - 1) ≤ fRung (fQuo (fM r2) n) (double.leastPlace + fE r2 - j - fMore (fM r2) n - 1) := by
  rcases Nat.eq_zero_or_pos (fM r1) with h0 | h0
  · have : fQuo (fM r1) n = 0 := by
      rw [h0]
      unfold fQuo
      rw [Nat.zero_shiftLeft, Nat.zero_div, Nat.zero_mod]
      rfl
    rw [this, fRung_zero]
    exact Nat.zero_le _
  · have hV := fV_le r1 r2 h
    have h2 : 0 < fM r2 := by
      rcases Nat.eq_zero_or_pos (fM r2) with h3 | h3
      · have h4 : fV r2 = 0 := by unfold fV; rw [h3, Nat.zero_mul]
        have h5 : 0 < fV r1 := Nat.mul_pos h0 (Nat.two_pow_pos _)
        omega
      · exact h3
    refine le_of_above fun k hk => ?_
    rw [quo_above _ _ _ _ h0 hn] at hk
    rw [quo_above _ _ _ _ h2 hn]
    refine fAbove_mono _ _ _ _ k (Nat.mul_pos hn (Nat.two_pow_pos _)) (Nat.mul_pos hn (Nat.two_pow_pos _)) ?_ hk
    obtain ⟨L, hL⟩ : ∃ L, L = double.leastPlace := ⟨_, rfl⟩
    rw [← hL]
    obtain ⟨a1, ha1⟩ : ∃ p : Nat, p = (L + (fE r1 : Int) - j - L).toNat := ⟨_, rfl⟩
    obtain ⟨b1, hb1⟩ : ∃ p : Nat, p = (L + j - (L + (fE r1 : Int))).toNat := ⟨_, rfl⟩
    obtain ⟨a2, ha2⟩ : ∃ p : Nat, p = (L + (fE r2 : Int) - j - L).toNat := ⟨_, rfl⟩
    obtain ⟨b2, hb2⟩ : ∃ p : Nat, p = (L + j - (L + (fE r2 : Int))).toNat := ⟨_, rfl⟩
    rw [← ha1, ← hb1, ← ha2, ← hb2]
    obtain ⟨J1, hJ1⟩ : ∃ p : Nat, p = j.toNat := ⟨_, rfl⟩
    obtain ⟨J2, hJ2⟩ : ∃ p : Nat, p = (-j).toNat := ⟨_, rfl⟩
    have x1 : a1 + J1 = fE r1 + J2 + b1 := by omega
    have x2 : a2 + J1 = fE r2 + J2 + b2 := by omega
    have i1 : fM r1 * 2 ^ a1 * 2 ^ J1 = fV r1 * 2 ^ J2 * 2 ^ b1 := by
      unfold fV
      rw [Nat.mul_assoc, ← Nat.pow_add, x1, Nat.mul_assoc, Nat.mul_assoc, ← Nat.pow_add, ← Nat.pow_add]
      congr 2
      omega
    have i2 : fM r2 * 2 ^ a2 * 2 ^ J1 = fV r2 * 2 ^ J2 * 2 ^ b2 := by
      unfold fV
      rw [Nat.mul_assoc, ← Nat.pow_add, x2, Nat.mul_assoc, Nat.mul_assoc, ← Nat.pow_add, ← Nat.pow_add]
      congr 2
      omega
    have g1 : fM r1 * 2 ^ a1 * (n * 2 ^ b2) * 2 ^ J1 = fV r1 * (2 ^ J2 * 2 ^ b1 * (n * 2 ^ b2)) := by
      rw [Nat.mul_right_comm, i1]
      simp only [Nat.mul_assoc]
    have g2 : fM r2 * 2 ^ a2 * (n * 2 ^ b1) * 2 ^ J1 = fV r2 * (2 ^ J2 * 2 ^ b1 * (n * 2 ^ b2)) := by
      rw [Nat.mul_right_comm, i2]
      simp only [Nat.mul_assoc]
      congr 2
      rw [Nat.mul_left_comm (2 ^ b2), Nat.mul_left_comm (2 ^ b1), Nat.mul_comm (2 ^ b2)]
    have g3 : fM r1 * 2 ^ a1 * (n * 2 ^ b2) * 2 ^ J1 ≤ fM r2 * 2 ^ a2 * (n * 2 ^ b1) * 2 ^ J1 := by
      rw [g1, g2]
      exact Nat.mul_le_mul_right _ hV
    exact Nat.le_of_mul_le_mul_right g3 (Nat.two_pow_pos _)
end Go.Proofs.YtdojbgfkcleeaaaDoor
