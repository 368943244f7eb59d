/-
  The document's Digits, which calls itself, are the decimal numeral.
-/
import Derived.Test.YthdiaghkpolonaaDoorRefPlain
import Derived.Test.YthdiaghkpolonaaDoorRefNum
namespace Go.Proofs.YthdiaghkpolonaaDoor
open Go.RowKit Go.Lib

set_option maxHeartbeats 800000 in
theorem digits_small (n : Int) (w : World) (h0 : 0 ≤ n) (h9 : n ≤ 9) :
    Calls Tryd.prog 10 #[.int .i64 n] w fun e w' => e = .returned (.string (baL (itoa n))) ∧ w' = w := by
  have HX : baL (itoa n) = baL [UInt8.ofNat (48 + n.toNat)] := by
    unfold itoa
    rw [if_neg (by omega), decDigits_small (by omega)]
  rw [HX]
  clear HX
  have h : n = 0 ∨ n = 1 ∨ n = 2 ∨ n = 3 ∨ n = 4 ∨ n = 5 ∨ n = 6 ∨ n = 7 ∨ n = 8 ∨ n = 9 := by omega
  clear h0 h9
  rcases h with rfl | rfl | rfl | rfl | rfl | rfl | rfl | rfl | rfl | rfl
  all_goals
    go_enter Tryd.func10, Tryd.ntmps10
    go_wp2_with fail
    go_ret
    exact ⟨ret_str (by rfl), rfl⟩

theorem itoa_app (n : Int) (h : 10 ≤ n) : baL (itoa n) = baL (itoa (n / 10)) ++ baL (itoa (n % 10)) := by
  refine (eq_baL ?_).symm
  rw [ByteArray.data_append, Array.toList_append, baL_list, baL_list]
  unfold itoa
  rw [if_neg (by omega), if_neg (by omega), if_neg (by omega)]
  rw [decDigits_big (u := n.toNat) (by omega), decDigits_small (u := (n % 10).toNat) (by omega), show (n / 10).toNat = n.toNat / 10 from by omega, show (n % 10).toNat = n.toNat % 10 from by omega]
theorem itoa_size (n : Int) (h : -9223372036854775808 ≤ n) (h2 : n ≤ 9223372036854775807) : (baL (itoa n)).size ≤ 20 := by
  rw [← size_list, baL_list]
  have := nDigits_le 18 n.natAbs (by omega)
  unfold itoa
  split
  · rw [List.length_cons, decDigits_length]
    omega
  · rw [decDigits_length, show n.toNat = n.natAbs from by omega]
    omega

set_option maxHeartbeats 800000 in
theorem digits_pos (n : Int) (w : World) (h0 : 10 ≤ n) (h9 : n ≤ 9223372036854775807)
    (ih : ∀ w, Calls Tryd.prog 10 #[.int .i64 (n / 10)] w fun e w' => e = .returned (.string (baL (itoa (n / 10)))) ∧ w' = w) :
    Calls Tryd.prog 10 #[.int .i64 n] w fun e w' => e = .returned (.string (baL (itoa n))) ∧ w' = w := by
  have ih2 : ∀ w, Calls Tryd.prog 10 #[.int .i64 (n % 10)] w fun e w' => e = .returned (.string (baL (itoa (n % 10)))) ∧ w' = w := fun w => digits_small _ w (by omega) (by omega)
  have HX := itoa_app n h0
  have s1 := itoa_size (n / 10) (by omega) (by omega)
  have s2 := itoa_size (n % 10) (by omega) (by omega)
  obtain ⟨p, hp⟩ : ∃ p, p = baL (itoa (n / 10)) := ⟨_, rfl⟩
  obtain ⟨q, hq⟩ : ∃ q, q = baL (itoa (n % 10)) := ⟨_, rfl⟩
  rw [← hp, ← hq] at HX
  rw [← hp] at s1
  rw [← hq] at s2
  simp only [← hp] at ih
  simp only [← hq] at ih2
  rw [HX]
  clear HX hp hq
  replace ih := Lib.hid ih
  replace ih2 := Lib.hid ih2
  have e1 : Int.tdiv n 10 = n / 10 := Int.tdiv_eq_ediv_of_nonneg (by omega)
  have e2 : Int.tmod n 10 = n % 10 := Int.tmod_eq_emod_of_nonneg (by omega)
  go_enter Tryd.func10, Tryd.ntmps10
  go_wp2_with fail
  refine (ih.out _).mono ?_
  rintro e w2 ⟨rfl, rfl⟩
  go_wp2_with fail
  refine (ih2.out _).mono ?_
  rintro e w2 ⟨rfl, rfl⟩
  go_wp2_with fail
  go_ret
  exact ⟨rfl, rfl⟩

set_option maxHeartbeats 800000 in
theorem digits_few (n : Int) (w : World) (h0 : n < 0) (h9 : -10 < n) :
    Calls Tryd.prog 10 #[.int .i64 n] w fun e w' => e = .returned (.string (baL (itoa n))) ∧ w' = w := by
  have ih : ∀ w, Calls Tryd.prog 10 #[.int .i64 (-n)] w fun e w' => e = .returned (.string (baL (itoa (-n)))) ∧ w' = w := fun w => digits_small _ w (by omega) (by omega)
  have HX : baL (itoa n) = baL [45] ++ baL (itoa (-n)) := by
    refine (eq_baL ?_).symm
    rw [ByteArray.data_append, Array.toList_append, baL_list, baL_list]
    unfold itoa
    rw [if_pos h0, if_neg (by omega), show (-n).toNat = n.natAbs from by omega]
    rfl
  have s1 := itoa_size (-n) (by omega) (by omega)
  obtain ⟨p, hp⟩ : ∃ p, p = baL (itoa (-n)) := ⟨_, rfl⟩
  rw [← hp] at HX s1
  simp only [← hp] at ih
  rw [HX]
  clear HX hp
  replace ih := Lib.hid ih
  go_enter Tryd.func10, Tryd.ntmps10
  go_wp2_with fail
  refine (ih.out _).mono ?_
  rintro e w2 ⟨rfl, rfl⟩
  go_wp2_with fail
  go_ret
  exact ⟨rfl, rfl⟩

theorem itoa_neg (n : Int) (h : n ≤ -10) : baL (itoa n) = baL (itoa (Int.tdiv n 10)) ++ baL (itoa (-(Int.tmod n 10))) := by
  have e1 : Int.tdiv n 10 = -((-n) / 10) := by
    rw [show n = -(-n) from by omega, Int.neg_tdiv, Int.tdiv_eq_ediv_of_nonneg (by omega)]
    omega
  have e2 : Int.tmod n 10 = -((-n) % 10) := by
    rw [show n = -(-n) from by omega, Int.neg_tmod, Int.tmod_eq_emod_of_nonneg (by omega)]
    omega
  refine (eq_baL ?_).symm
  rw [ByteArray.data_append, Array.toList_append, baL_list, baL_list, e1, e2]
  unfold itoa
  rw [if_pos (by omega), if_neg (by omega), if_pos (by omega)]
  rw [decDigits_big (u := n.natAbs) (by omega), decDigits_small (u := (- -(-n % 10)).toNat) (by omega), show (-(-n / 10)).natAbs = n.natAbs / 10 from by omega, show (- -(-n % 10)).toNat = n.natAbs % 10 from by omega]
  rfl

set_option maxHeartbeats 800000 in
theorem digits_neg (n : Int) (w : World) (h0 : n ≤ -10) (h9 : -9223372036854775808 ≤ n)
    (ih : ∀ w, Calls Tryd.prog 10 #[.int .i64 (Int.tdiv n 10)] w fun e w' => e = .returned (.string (baL (itoa (Int.tdiv n 10)))) ∧ w' = w) :
    Calls Tryd.prog 10 #[.int .i64 n] w fun e w' => e = .returned (.string (baL (itoa n))) ∧ w' = w := by
  have e1 : Int.tdiv n 10 = -((-n) / 10) := by
    rw [show n = -(-n) from by omega, Int.neg_tdiv, Int.tdiv_eq_ediv_of_nonneg (by omega)]
    omega
  have e2 : Int.tmod n 10 = -((-n) % 10) := by
    rw [show n = -(-n) from by omega, Int.neg_tmod, Int.tmod_eq_emod_of_nonneg (by omega)]
    omega
  have ih2 : ∀ w, Calls Tryd.prog 10 #[.int .i64 (-(Int.tmod n 10))] w fun e w' => e = .returned (.string (baL (itoa (-(Int.tmod n 10))))) ∧ w' = w := fun w => digits_small _ w (by omega) (by omega)
  have HX := itoa_neg n h0
  have s1 := itoa_size (Int.tdiv n 10) (by omega) (by omega)
  have s2 := itoa_size (-(Int.tmod n 10)) (by omega) (by omega)
  obtain ⟨p, hp⟩ : ∃ p, p = baL (itoa (Int.tdiv n 10)) := ⟨_, rfl⟩
  obtain ⟨q, hq⟩ : ∃ q, q = baL (itoa (-(Int.tmod n 10))) := ⟨_, rfl⟩
  rw [← hp, ← hq] at HX
  rw [← hp] at s1
  rw [← hq] at s2
  simp only [← hp] at ih
  simp only [← hq] at ih2
  rw [HX]
  clear HX hp hq
  have m1 : -9 ≤ Int.tmod n 10 := by omega
  have m2 : Int.tmod n 10 ≤ 0 := by omega
  have d1 : -922337203685477581 ≤ Int.tdiv n 10 := by omega
  have d2 : Int.tdiv n 10 ≤ 0 := by omega
  clear e1 e2
  replace ih := Lib.hid ih
  replace ih2 := Lib.hid ih2
  go_enter Tryd.func10, Tryd.ntmps10
  go_wp2_with fail
  refine (ih.out _).mono ?_
  rintro e w2 ⟨rfl, rfl⟩
  go_wp2_with fail
  refine (ih2.out _).mono ?_
  rintro e w2 ⟨rfl, rfl⟩
  go_wp2_with fail
  go_ret
  exact ⟨rfl, rfl⟩

/-- Digits, whatever the number. -/
theorem digits_any : ∀ (m : Nat) (n : Int) (w : World), n.natAbs ≤ m → -9223372036854775808 ≤ n → n ≤ 9223372036854775807 →
    Calls Tryd.prog 10 #[.int .i64 n] w fun e w' => e = .returned (.string (baL (itoa n))) ∧ w' = w := by
  intro m
  induction m with
  | zero => intro n w hm h1 h2; exact digits_small n w (by omega) (by omega)
  | succ m ih =>
    intro n w hm h1 h2
    by_cases a : 0 ≤ n
    · by_cases b : n ≤ 9
      · exact digits_small n w a b
      · exact digits_pos n w (by omega) h2 fun w => ih _ w (by omega) (by omega) (by omega)
    · by_cases b : -10 < n
      · exact digits_few n w (by omega) b
      · have e1 : Int.tdiv n 10 = -((-n) / 10) := by
          rw [show n = -(-n) from by omega, Int.neg_tdiv, Int.tdiv_eq_ediv_of_nonneg (by omega)]
          omega
        exact digits_neg n w (by omega) h1 fun w => ih _ w (by omega) (by omega) (by omega)
end Go.Proofs.YthdiaghkpolonaaDoor
