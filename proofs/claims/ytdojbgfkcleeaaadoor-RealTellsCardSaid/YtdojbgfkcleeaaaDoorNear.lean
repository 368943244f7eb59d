/-
  Rounding to the nearest word, as data: the rungs below it are those whose midpoint to the next one lies below.
-/
import Derived.Test.YtdojbgfkcleeaaaDoorIeee
namespace Go.Proofs.YtdojbgfkcleeaaaDoor
open Ieee

/-- The number a / b, in units of the least place, lies above the midpoint behind rung k (or on it, and the next rung is the even one). -/
def fAbove (a b k : Nat) : Prop := b * (fV k + fV (k + 1)) < 2 * a ∨ b * (fV k + fV (k + 1)) = 2 * a ∧ k % 2 = 1
theorem fAbove_mono (a b a' b' k : Nat) (hb : 0 < b) (h0 : 0 < b') (h : a * b' ≤ a' * b) (ha : fAbove a b k) : fAbove a' b' k := by
  unfold fAbove at *
  obtain ⟨S, hS⟩ : ∃ S, S = fV k + fV (k + 1) := ⟨_, rfl⟩
  rw [← hS] at ha ⊢
  have e1 : b * (b' * S) = b' * (b * S) := by rw [← Nat.mul_assoc, ← Nat.mul_assoc, Nat.mul_comm b b']
  have e2 : b' * (2 * a) = 2 * (a * b') := by rw [Nat.mul_comm b', Nat.mul_assoc]
  have e3 : b * (2 * a') = 2 * (a' * b) := by rw [Nat.mul_comm b, Nat.mul_assoc]
  rcases ha with ha | ⟨ha, hk⟩
  · have h2 : b' * (b * S) < b' * (2 * a) := Nat.mul_lt_mul_of_pos_left ha h0
    rw [← e1, e2] at h2
    have h3 : b * (b' * S) < b * (2 * a') := by rw [e3]; omega
    exact .inl (Nat.lt_of_mul_lt_mul_left h3)
  · have h2 : b * (b' * S) ≤ b * (2 * a') := by
      rw [e1, ha, e2, e3]
      omega
    have h3 := Nat.le_of_mul_le_mul_left h2 hb
    rcases Nat.lt_or_eq_of_le h3 with h4 | h4
    · exact .inl h4
    · exact .inr ⟨h4, hk⟩
/-- The even one of two when a number is cut. -/
theorem cut_even (neg : Bool) (n drop j : Nat) : j < Toward.even.cut neg n drop ↔ ((2 * j + 1) * 2 ^ drop < 2 * n ∨ (2 * j + 1) * 2 ^ drop = 2 * n ∧ j % 2 = 1) := by
  unfold Toward.cut
  simp only [Nat.shiftLeft_eq, Nat.one_mul]
  obtain ⟨g, hg⟩ : ∃ g, g = 2 ^ min drop (n.log2 + 2) := ⟨_, rfl⟩
  rw [← hg]
  have hgp : 0 < g := by rw [hg]; exact Nat.two_pow_pos _
  have hd := Nat.div_add_mod n g
  have hm := Nat.mod_lt n hgp
  obtain ⟨lo, hlo⟩ : ∃ lo, lo = n / g := ⟨_, rfl⟩
  obtain ⟨re, hre⟩ : ∃ re, re = n % g := ⟨_, rfl⟩
  rw [← hlo, ← hre] at hd ⊢
  rw [← hre] at hm
  by_cases hdr : drop ≤ n.log2 + 2
  · have hgd : 2 ^ drop = g := by rw [hg, Nat.min_eq_left hdr]
    rw [hgd]
    have hmul : (2 * j + 1) * g = 2 * (g * j) + g := by
      rw [Nat.add_mul, Nat.one_mul, Nat.mul_assoc, Nat.mul_comm j g]
    rw [hmul, ← hd]
    have hmore : ((decide (g < 2 * re) || g == 2 * re && lo % 2 == 1).toNat = 1 ∧ (g < 2 * re ∨ g = 2 * re ∧ lo % 2 = 1)) ∨ ((decide (g < 2 * re) || g == 2 * re && lo % 2 == 1).toNat = 0 ∧ ¬ (g < 2 * re ∨ g = 2 * re ∧ lo % 2 = 1)) := by
      by_cases h1 : g < 2 * re
      · exact .inl ⟨by simp [h1], .inl h1⟩
      · by_cases h2 : g = 2 * re
        · by_cases h3 : lo % 2 = 1
          · exact .inl ⟨by simp [h2, h3], .inr ⟨h2, h3⟩⟩
          · refine .inr ⟨?_, fun h => by omega⟩
            have : (lo % 2 == 1) = false := by simpa using h3
            rw [this]
            simp [h1]
        · refine .inr ⟨?_, fun h => by omega⟩
          have : (g == 2 * re) = false := by simpa using h2
          rw [this]
          simp [h1]
    rcases Nat.lt_trichotomy j lo with h | h | h
    · have h1 : g * j + g ≤ g * lo := by rw [← Nat.mul_succ]; exact Nat.mul_le_mul_left g h
      constructor
      · intro _
        exact .inl (by omega)
      · intro _
        omega
    · subst h
      rcases hmore with ⟨h1, h2⟩ | ⟨h1, h2⟩
      · rw [h1]
        constructor
        · intro _
          rcases h2 with h2 | ⟨h2, h3⟩
          · exact .inl (by omega)
          · exact .inr ⟨by omega, h3⟩
        · intro _
          omega
      · rw [h1]
        constructor
        · intro h3
          omega
        · intro h3
          exfalso
          apply h2
          rcases h3 with h3 | ⟨h3, h4⟩
          · exact .inl (by omega)
          · exact .inr ⟨by omega, h4⟩
    · have h1 : g * lo + g ≤ g * j := by rw [← Nat.mul_succ]; exact Nat.mul_le_mul_left g h
      constructor
      · intro h3
        rcases hmore with ⟨h4, _⟩ | ⟨h4, _⟩ <;> rw [h4] at h3 <;> omega
      · intro h3
        omega
  · have hmin : min drop (n.log2 + 2) = n.log2 + 2 := Nat.min_eq_right (by omega)
    rw [hmin] at hg
    have hn : 4 * n < 2 * g := by
      have h1 : n < 2 ^ (n.log2 + 1) := Nat.lt_log2_self
      rw [hg, Nat.pow_succ, Nat.pow_succ] at *
      omega
    have hlo0 : lo = 0 := by rw [hlo, Nat.div_eq_of_lt (by omega)]
    have hre0 : re = n := by rw [hre, Nat.mod_eq_of_lt (by omega)]
    have hbig : g ≤ 2 ^ drop := by rw [hg]; exact Nat.pow_le_pow_right (by omega) (by omega)
    have hmul : 2 ^ drop ≤ (2 * j + 1) * 2 ^ drop := Nat.le_mul_of_pos_left _ (by omega)
    have h0 : (decide (g < 2 * re) || g == 2 * re && lo % 2 == 1).toNat = 0 := by
      have h1 : ¬ g < 2 * re := by omega
      have h2 : (g == 2 * re) = false := by
        rw [beq_eq_false_iff_ne]
        omega
      rw [h2]
      simp [h1]
    rw [h0, hlo0]
    constructor
    · intro h
      omega
    · intro h
      omega
/-- A number that is kept to so many digits in its binade: its rung. -/
theorem rung_above (a b e kept : Nat) (hb : 0 < b) (hlo : e = 0 ∨ fB * (b * 2 ^ e) ≤ a) (hhi : a < 2 * fB * (b * 2 ^ e))
    (hk : ∀ j, j < kept ↔ ((2 * j + 1) * (b * 2 ^ e) < 2 * a ∨ (2 * j + 1) * (b * 2 ^ e) = 2 * a ∧ j % 2 = 1)) (k : Nat) : k < e * fB + kept ↔ fAbove a b k := by
  obtain ⟨u, hu⟩ : ∃ u, u = b * 2 ^ e := ⟨_, rfl⟩
  rw [← hu] at hlo hhi
  simp only [← hu] at hk
  have hup : 0 < u := by rw [hu]; exact Nat.mul_pos hb (Nat.two_pow_pos e)
  have hkept : kept ≤ 2 * fB := by
    rcases Nat.lt_or_ge (2 * fB) kept with h | h
    · have h1 := (hk (2 * fB)).1 h
      have h2 : (2 * (2 * fB) + 1) * u = 2 * (2 * fB * u) + u := by rw [Nat.add_mul, Nat.one_mul, Nat.mul_assoc]
      omega
    · exact h
  have hkept2 : e = 0 ∨ fB ≤ kept := by
    rcases hlo with h | h
    · exact .inl h
    · right
      rcases Nat.lt_or_ge kept fB with h1 | h1
      · exfalso
        have h2 : ¬ (fB - 1 < kept) := by omega
        have h3 := mt (hk (fB - 1)).2 h2
        have h4 : (2 * (fB - 1) + 1) * u + u = 2 * (fB * u) := by
          have : 2 * (fB - 1) + 1 + 1 = 2 * fB := by unfold fB; omega
          rw [← Nat.mul_assoc, ← this, Nat.add_mul (2 * (fB - 1) + 1) 1, Nat.one_mul]
        omega
      · exact h1
  have hpar : ∀ j, (e * fB + j) % 2 = j % 2 := fun j => by
    have : e * fB = 2 * (e * 2251799813685248) := by unfold fB; omega
    omega
  unfold fAbove
  by_cases hin : (e = 0 ∨ e * fB + fB ≤ k) ∧ k < e * fB + 2 * fB
  · obtain ⟨j, rfl⟩ : ∃ j, k = e * fB + j := ⟨k - e * fB, by
      rcases hin.1 with h | h
      · subst h
        omega
      · omega⟩
    have hj1 : e = 0 ∨ fB ≤ j := by
      rcases hin.1 with h | h
      · exact .inl h
      · exact .inr (by omega)
    have hj2 : j < 2 * fB := by omega
    rw [hpar, Nat.add_assoc, fV_at e j hj1 (by omega), fV_at e (j + 1) (by omega) (by omega)]
    have hS : b * (j * 2 ^ e + (j + 1) * 2 ^ e) = (2 * j + 1) * u := by
      rw [hu, ← Nat.add_mul, show j + (j + 1) = 2 * j + 1 by omega, ← Nat.mul_assoc, Nat.mul_comm b, Nat.mul_assoc]
    rw [hS, ← hk j]
    omega
  · by_cases hbelow : k < e * fB + 2 * fB
    · have hk1 : e ≠ 0 ∧ k < e * fB + fB := by
        constructor
        · intro h
          exact hin ⟨.inl h, hbelow⟩
        · rcases Nat.lt_or_ge k (e * fB + fB) with h | h
          · exact h
          · exact absurd ⟨.inr h, hbelow⟩ hin
      have hf : fV (e * fB + fB) = fB * 2 ^ e := fV_at e fB (.inr (Nat.le_refl _)) (by omega)
      have h1 : fV (k + 1) ≤ fB * 2 ^ e := by rw [← hf]; exact fV_le _ _ (by omega)
      have h2 := fV_step k
      have h3 : b * (fV k + fV (k + 1)) < 2 * (fB * u) := by
        have : fV k + fV (k + 1) < 2 * (fB * 2 ^ e) := by omega
        have h4 := Nat.mul_lt_mul_of_pos_left this hb
        have e1 : b * (2 * (fB * 2 ^ e)) = 2 * (fB * u) := by
          rw [hu, Nat.mul_left_comm b 2, Nat.mul_left_comm b fB]
        rwa [e1] at h4
      have hlo' := hlo.resolve_left hk1.1
      have hkk := hkept2.resolve_left hk1.1
      constructor
      · intro _
        exact .inl (by omega)
      · intro _
        omega
    · have hf : fV (e * fB + 2 * fB) = 2 * fB * 2 ^ e := fV_at e (2 * fB) (.inr (by omega)) (Nat.le_refl _)
      have h1 : 2 * fB * 2 ^ e ≤ fV k := by rw [← hf]; exact fV_le _ _ (by omega)
      have h2 := fV_step k
      have h3 : 2 * (2 * fB * u) ≤ b * (fV k + fV (k + 1)) := by
        have : 2 * (2 * fB * 2 ^ e) ≤ fV k + fV (k + 1) := by omega
        have h4 := Nat.mul_le_mul_left b this
        have e1 : b * (2 * (2 * fB * 2 ^ e)) = 2 * (2 * fB * u) := by
          rw [hu, Nat.mul_left_comm b 2, Nat.mul_left_comm b (2 * fB)]
        rwa [e1] at h4
      constructor
      · intro h
        omega
      · intro h
        omega
/-- The rung of mag * 2 ^ place. -/
def fRung (mag : Nat) (place : Int) : Nat :=
  if mag = 0 then 0 else
  (max (place + mag.log2 - (52 : Nat)) double.leastPlace - double.leastPlace).toNat * fB + Toward.even.cut false (mag <<< (place - max (place + mag.log2 - (52 : Nat)) double.leastPlace).toNat) (max (place + mag.log2 - (52 : Nat)) double.leastPlace - place).toNat
theorem nearest_rung (neg : Bool) (mag : Nat) (place : Int) : double.nearest neg mag place = double.word neg (min (fRung mag place) fInf) := by
  unfold Format.nearest fRung
  by_cases h : mag = 0
  · rw [if_pos h, if_pos h, Nat.zero_min]
  · rw [if_neg h, if_neg h, fB_eq, fInf_eq]
    rfl
theorem log2_le (n : Nat) (h : n ≠ 0) : 2 ^ n.log2 ≤ n := (Nat.le_log2 h).1 (Nat.le_refl _)
theorem fRung_above (mag : Nat) (place : Int) (hm : 0 < mag) (k : Nat) : k < fRung mag place ↔ fAbove (mag * 2 ^ (place - double.leastPlace).toNat) (2 ^ (double.leastPlace - place).toNat) k := by
  unfold fRung
  rw [if_neg (by omega)]
  obtain ⟨L, hL⟩ : ∃ L, L = double.leastPlace := ⟨_, rfl⟩
  obtain ⟨g, hg⟩ : ∃ g, g = mag.log2 := ⟨_, rfl⟩
  have h1 : mag < 2 ^ (g + 1) := by rw [hg]; exact Nat.lt_log2_self
  have h2 : 2 ^ g ≤ mag := by rw [hg]; exact log2_le mag (by omega)
  rw [← hL, ← hg]
  obtain ⟨last, hl⟩ : ∃ last, last = max (place + (g : Int) - (52 : Nat)) L := ⟨_, rfl⟩
  rw [← hl]
  obtain ⟨e, he⟩ : ∃ e : Nat, e = (last - L).toNat := ⟨_, rfl⟩
  rw [← he, Nat.shiftLeft_eq]
  obtain ⟨p1, hp1⟩ : ∃ p : Nat, p = (place - L).toNat := ⟨_, rfl⟩
  obtain ⟨p2, hp2⟩ : ∃ p : Nat, p = (L - place).toNat := ⟨_, rfl⟩
  obtain ⟨q1, hq1⟩ : ∃ p : Nat, p = (place - last).toNat := ⟨_, rfl⟩
  obtain ⟨q2, hq2⟩ : ∃ p : Nat, p = (last - place).toNat := ⟨_, rfl⟩
  rw [← hp1, ← hp2, ← hq1, ← hq2]
  have hexp : p1 + q2 = q1 + e + p2 := by omega
  have hid : mag * 2 ^ p1 * 2 ^ q2 = mag * 2 ^ q1 * (2 ^ p2 * 2 ^ e) := by
    rw [Nat.mul_assoc, Nat.mul_assoc, ← Nat.pow_add, ← Nat.pow_add, ← Nat.pow_add, hexp]
    congr 2
    omega
  refine rung_above _ _ _ _ (Nat.two_pow_pos _) ?_ ?_ (fun j => ?_) k
  · by_cases h0 : e = 0
    · exact .inl h0
    · right
      rw [fB_two, ← Nat.pow_add, ← Nat.pow_add]
      have h3 : 2 ^ (52 + (p2 + e)) ≤ 2 ^ (g + p1) := Nat.pow_le_pow_right (by omega) (by omega)
      rw [Nat.pow_add 2 g] at h3
      exact Nat.le_trans h3 (Nat.mul_le_mul_right _ h2)
  · rw [fB_two, ← Nat.pow_add, show 2 * 2 ^ 52 = 2 ^ 53 by decide, ← Nat.pow_add]
    have h3 : 2 ^ (g + 1 + p1) ≤ 2 ^ (53 + (p2 + e)) := Nat.pow_le_pow_right (by omega) (by omega)
    rw [Nat.pow_add 2 (g + 1)] at h3
    exact Nat.lt_of_lt_of_le (Nat.mul_lt_mul_of_pos_right h1 (Nat.two_pow_pos _)) h3
  · rw [cut_even]
    have hQ : 0 < 2 ^ q2 := Nat.two_pow_pos _
    have hU : 0 < 2 ^ p2 * 2 ^ e := Nat.mul_pos (Nat.two_pow_pos _) (Nat.two_pow_pos _)
    obtain ⟨U, hUe⟩ : ∃ U, U = 2 ^ p2 * 2 ^ e := ⟨_, rfl⟩
    obtain ⟨D, hD⟩ : ∃ D, D = 2 ^ q2 := ⟨_, rfl⟩
    obtain ⟨aa, haa⟩ : ∃ aa, aa = mag * 2 ^ p1 := ⟨_, rfl⟩
    obtain ⟨nn, hnn⟩ : ∃ nn, nn = mag * 2 ^ q1 := ⟨_, rfl⟩
    rw [← hUe] at hU hid ⊢
    rw [← hD] at hQ hid ⊢
    rw [← haa] at hid ⊢
    rw [← hnn] at hid ⊢
    have e1 : (2 * j + 1) * D * U = (2 * j + 1) * U * D := by rw [Nat.mul_assoc, Nat.mul_comm D U, ← Nat.mul_assoc]
    have e2 : 2 * nn * U = 2 * aa * D := by rw [Nat.mul_assoc, ← hid, ← Nat.mul_assoc]
    constructor
    · intro h
      rcases h with h | ⟨h, hj⟩
      · left
        have := Nat.mul_lt_mul_of_pos_right h hU
        rw [e1, e2] at this
        exact Nat.lt_of_mul_lt_mul_right this
      · right
        refine ⟨?_, hj⟩
        have := congrArg (· * U) h
        simp only [e1, e2] at this
        exact Nat.eq_of_mul_eq_mul_right hQ this
    · intro h
      rcases h with h | ⟨h, hj⟩
      · left
        have := Nat.mul_lt_mul_of_pos_right h hQ
        rw [← e1, ← e2] at this
        exact Nat.lt_of_mul_lt_mul_right this
      · right
        refine ⟨?_, hj⟩
        have := congrArg (· * D) h
        simp only [← e1, ← e2] at this
        exact Nat.eq_of_mul_eq_mul_right hU this
end Go.Proofs.YtdojbgfkcleeaaaDoor
