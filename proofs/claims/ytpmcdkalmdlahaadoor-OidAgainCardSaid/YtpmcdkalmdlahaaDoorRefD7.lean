/-
  The document's ReadDigits and Digits of stage 2, over data alone.
-/
import Derived.Test.YtpmcdkalmdlahaaDoorDecI
import Derived.Test.YtpmcdkalmdlahaaDoorRows
import Derived.Handy
import Derived.Lib.Hide
namespace Go.Proofs.YtpmcdkalmdlahaaDoor
open Go.RowKit Go.Lib

theorem size_list (s : ByteArray) : s.data.toList.length = s.size := by simp
theorem get_list (s : ByteArray) (k : Nat) (h : k < s.size) : s.data.toList[k]'(by simpa using h) = s[k] := rfl
theorem take_snocB (s : ByteArray) (k : Nat) (h : k < s.size) : s.data.toList.take (k + 1) = s.data.toList.take k ++ [s[k]] := by
  rw [List.take_succ_eq_append_getElem (by simpa using h)]; rfl
theorem digs_snoc (l : List UInt8) (c : UInt8) : digsL (l ++ [c]) = (digsL l && isDig c) := by simp [digsL]
theorem digs_no (l : List UInt8) (k : Nat) (h : k < l.length) (hd : isDig l[k] = false) : digsL l = false := by
  unfold digsL
  rw [Bool.eq_false_iff]
  intro ha
  rw [List.all_eq_true] at ha
  have := ha _ (List.getElem_mem h)
  rw [hd] at this
  cases this
theorem ret_bool {a b : Bool} (h : a = b) : Ending.returned (.bool a) = .returned (.bool b) := by rw [h]
set_option maxHeartbeats 400000 in
theorem digit_any (c : UInt8) (w : World) : Calls Tryd.prog 55 #[.int .u8 (c.toNat : Int)] w fun e w' => e = .returned (.bool (isDig c)) ∧ w' = w := by
  have h : Hid (isDig c = (decide (48 ≤ (c.toNat : Int)) && decide ((c.toNat : Int) ≤ 57))) := by
    unfold isDig
    rw [show decide (48 ≤ c.toNat) = decide (48 ≤ (c.toNat : Int)) from decide_eq_decide.2 (by omega), show decide (c.toNat ≤ 57) = decide ((c.toNat : Int) ≤ 57) from decide_eq_decide.2 (by omega)]
    exact Lib.hid rfl
  go_enter Tryd.func55, Tryd.ntmps55
  go_wp2
  all_goals
    go_ret
    exact ⟨ret_bool (by rw [h.out, Bool.eq_iff_iff]; simp; omega), rfl⟩
theorem cons_list (s : ByteArray) (h : 0 < s.size) : s.data.toList = s[0] :: (s.extract 1 s.size).data.toList := by
  rw [ByteArray.data_extract, Array.toList_extract]
  rcases e : s.data.toList with _ | ⟨c, r⟩
  · have := size_list s
    rw [e] at this
    simp at this
    omega
  · have h1 := get_list s 0 h
    have h2 := size_list s
    simp only [e] at h1
    rw [e] at h2
    rw [← h1, ← h2]
    simp [List.extract]
/-- ReadDigits. -/
def rdD (l : List UInt8) : Nat × Bool :=
  if l.length < 1 ∨ 18 < l.length ∨ (l.head? = some 48 ∧ 1 < l.length) then (0, false) else if digsL l = true then (natV l, true) else (0, false)
def tupD (q : Nat × Bool) : Value := .tuple #[.int .i64 (q.1 : Int), .bool q.2]
theorem rdD_bad {l : List UInt8} (h : l.length < 1 ∨ 18 < l.length ∨ (l.head? = some 48 ∧ 1 < l.length)) : rdD l = (0, false) := if_pos h
theorem rdD_good {l : List UInt8} (h : ¬ (l.length < 1 ∨ 18 < l.length ∨ (l.head? = some 48 ∧ 1 < l.length))) : rdD l = if digsL l = true then (natV l, true) else (0, false) := if_neg h
theorem dig_le {c : UInt8} (h : isDig c = true) : 48 ≤ c.toNat ∧ c.toNat ≤ 57 := by
  simpa [isDig] using h
set_option maxHeartbeats 800000 in
/-- The reading of the digits, once the length and the first are right. -/
theorem rdD_loop (s : ByteArray) (w : World) (h0 : 0 < s.size) (h18 : s.size ≤ 18) (hh : ((s[0].toNat : Int) == 48) = false ∨ (((s[0].toNat : Int) == 48) = true ∧ s.size = 1)) (HX : Hid (rdD s.data.toList = if digsL s.data.toList = true then (natV s.data.toList, true) else (0, false))) :
    Calls Tryd.prog 44 #[.string s] w fun e w' => e = .returned (tupD (rdD s.data.toList)) ∧ w' = w := by
  rcases hh with hh | hh
  · have hone : 1 ≤ s.size := h0
    go_enter Tryd.func44, Tryd.ntmps44
    go_wp2_with fail
    go_loop [4, 5] (fun n i => ∃ k : Nat, k ≤ s.size ∧ i = .int .i64 (k : Int) ∧ n = .int .i64 ((natV (s.data.toList.take k) : Nat) : Int) ∧ Hid (digsL (s.data.toList.take k) = true)) (fun _ i => s.size - (intOf i).toNat)
    case atStart => exact ⟨0, Nat.zero_le _, rfl, rfl, Lib.hid rfl⟩
    case round =>
      obtain ⟨k, hk, rfl, hn, H⟩ := hrel
      obtain ⟨a, ha⟩ : ∃ a, a = natV (s.data.toList.take k) := ⟨_, rfl⟩
      rw [← ha] at hn
      obtain rfl := hn
      by_cases hlt : k < s.size
      · have hb : a < 100000000000000000 := by
          have h1 := natV_lt (s.data.toList.take k) H.out
          rw [← ha, List.length_take] at h1
          exact Nat.lt_of_lt_of_le h1 (show 10 ^ _ ≤ 10 ^ 17 from Nat.pow_le_pow_right (by decide) (by omega))
        obtain ⟨d, hd⟩ : ∃ d, d = isDig s[k] := ⟨_, rfl⟩
        have H2 : digsL (s.data.toList.take (k + 1)) = d := by
          rw [take_snocB s k hlt, digs_snoc, H.out, Bool.true_and, hd]
        replace H2 := Lib.hid H2
        have H3 : d = false → digsL s.data.toList = false := fun e => digs_no _ k (by simpa using hlt) (by rw [get_list s k hlt, ← hd, e])
        have H4 : d = true → 48 ≤ s[k].toNat ∧ s[k].toNat ≤ 57 := fun e => dig_le (by rw [← hd, e])
        have H5 : natV (s.data.toList.take (k + 1)) = a * 10 + (s[k].toNat - 48) := by rw [take_snocB s k hlt, natV_snoc, ha]; rfl
        replace H5 := Lib.hid H5
        replace ha := Lib.hid ha
        go_wp2_with fail
        refine (digit_any _ _).mono ?_
        rintro e w2 ⟨rfl, rfl⟩
        rw [← hd]
        clear hd ha
        cases d
        · replace H3 := Lib.hid (H3 rfl)
          clear H4
          go_wp2_with fail
          go_ret2
          exact ⟨by rw [HX.out, if_neg (by rw [H3.out]; decide)]; rfl, rfl⟩
        · obtain ⟨h48, h57⟩ := H4 rfl
          clear H3
          go_wp2_with fail
          go_round
          case rel => exact ⟨k + 1, by omega, by go_num, by rw [H5.out]; go_num, H2⟩
          case measure => simp [intOf]; omega
      · have hkk : k = s.size := by omega
        subst hkk
        have HY : rdD s.data.toList = (a, true) := by
          have e : s.data.toList.take s.size = s.data.toList := List.take_of_length_le (by simp)
          rw [HX.out, if_pos (by rw [← H.out, e]), ha, e]
        replace HY := Lib.hid HY
        clear ha
        go_wp2_with fail
        go_ret2
        exact ⟨by rw [HY.out]; rfl, rfl⟩
  · obtain ⟨hc1, hone⟩ := hh
    go_enter Tryd.func44, Tryd.ntmps44
    go_wp2_with fail
    go_loop [4, 5] (fun n i => ∃ k : Nat, k ≤ s.size ∧ i = .int .i64 (k : Int) ∧ n = .int .i64 ((natV (s.data.toList.take k) : Nat) : Int) ∧ Hid (digsL (s.data.toList.take k) = true)) (fun _ i => s.size - (intOf i).toNat)
    case atStart => exact ⟨0, Nat.zero_le _, rfl, rfl, Lib.hid rfl⟩
    case round =>
      obtain ⟨k, hk, rfl, hn, H⟩ := hrel
      obtain ⟨a, ha⟩ : ∃ a, a = natV (s.data.toList.take k) := ⟨_, rfl⟩
      rw [← ha] at hn
      obtain rfl := hn
      by_cases hlt : k < s.size
      · have hb : a < 100000000000000000 := by
          have h1 := natV_lt (s.data.toList.take k) H.out
          rw [← ha, List.length_take] at h1
          exact Nat.lt_of_lt_of_le h1 (show 10 ^ _ ≤ 10 ^ 17 from Nat.pow_le_pow_right (by decide) (by omega))
        obtain ⟨d, hd⟩ : ∃ d, d = isDig s[k] := ⟨_, rfl⟩
        have H2 : digsL (s.data.toList.take (k + 1)) = d := by
          rw [take_snocB s k hlt, digs_snoc, H.out, Bool.true_and, hd]
        replace H2 := Lib.hid H2
        have H3 : d = false → digsL s.data.toList = false := fun e => digs_no _ k (by simpa using hlt) (by rw [get_list s k hlt, ← hd, e])
        have H4 : d = true → 48 ≤ s[k].toNat ∧ s[k].toNat ≤ 57 := fun e => dig_le (by rw [← hd, e])
        have H5 : natV (s.data.toList.take (k + 1)) = a * 10 + (s[k].toNat - 48) := by rw [take_snocB s k hlt, natV_snoc, ha]; rfl
        replace H5 := Lib.hid H5
        replace ha := Lib.hid ha
        go_wp2_with fail
        refine (digit_any _ _).mono ?_
        rintro e w2 ⟨rfl, rfl⟩
        rw [← hd]
        clear hd ha
        cases d
        · replace H3 := Lib.hid (H3 rfl)
          clear H4
          go_wp2_with fail
          go_ret2
          exact ⟨by rw [HX.out, if_neg (by rw [H3.out]; decide)]; rfl, rfl⟩
        · obtain ⟨h48, h57⟩ := H4 rfl
          clear H3
          go_wp2_with fail
          go_round
          case rel => exact ⟨k + 1, by omega, by go_num, by rw [H5.out]; go_num, H2⟩
          case measure => simp [intOf]; omega
      · have hkk : k = s.size := by omega
        subst hkk
        have HY : rdD s.data.toList = (a, true) := by
          have e : s.data.toList.take s.size = s.data.toList := List.take_of_length_le (by simp)
          rw [HX.out, if_pos (by rw [← H.out, e]), ha, e]
        replace HY := Lib.hid HY
        clear ha
        go_wp2_with fail
        go_ret2
        exact ⟨by rw [HY.out]; rfl, rfl⟩
set_option maxHeartbeats 800000 in
/-- ReadDigits, whatever the text. -/
theorem readDigits_any (s : ByteArray) (w : World) (hs : s.size ≤ maxLen) :
    Calls Tryd.prog 44 #[.string s] w fun e w' => e = .returned (tupD (rdD s.data.toList)) ∧ w' = w := by
  unfold maxLen at hs
  by_cases h0 : 0 < s.size
  · have hhd : s.data.toList.head? = some s[0] := by rw [cons_list s h0]; rfl
    by_cases h18 : s.size ≤ 18
    · by_cases hz : ((s[0].toNat : Int) == 48) = true
      · have h48 : s[0] = 48 := by
          rw [beq_iff_eq] at hz
          exact UInt8.toNat_inj.1 (by rw [show (48 : UInt8).toNat = 48 from rfl]; omega)
        by_cases h1 : s.size = 1
        · exact rdD_loop s w h0 h18 (.inr ⟨hz, h1⟩) (Lib.hid (rdD_good (by rw [size_list]; omega)))
        · have HX := rdD_bad (l := s.data.toList) (.inr (.inr ⟨by rw [hhd, h48], by rw [size_list]; omega⟩))
          replace HX := Lib.hid HX
          have h2 : 1 < s.size := by omega
          clear hhd h48 h1
          go_enter Tryd.func44, Tryd.ntmps44
          go_wp2_with fail
          go_ret2
          exact ⟨by rw [HX.out]; rfl, rfl⟩
      · have hz2 : ((s[0].toNat : Int) == 48) = false := by simpa using hz
        refine rdD_loop s w h0 h18 (.inl hz2) (Lib.hid (rdD_good ?_))
        rw [size_list, hhd]
        rintro (h | h | ⟨h, _⟩)
        · omega
        · omega
        · injection h with h
          rw [h] at hz2
          cases hz2
    · have HX := rdD_bad (l := s.data.toList) (.inr (.inl (by rw [size_list]; omega)))
      replace HX := Lib.hid HX
      clear hhd
      go_enter Tryd.func44, Tryd.ntmps44
      go_wp2_with fail
      go_ret2
      exact ⟨by rw [HX.out]; rfl, rfl⟩
  · have HX := rdD_bad (l := s.data.toList) (.inl (by rw [size_list]; omega))
    replace HX := Lib.hid HX
    go_enter Tryd.func44, Tryd.ntmps44
    go_wp2_with fail
    go_ret2
    exact ⟨by rw [HX.out]; rfl, rfl⟩
theorem nDigits_le : ∀ j u, u < 10 ^ (j + 1) → nDigits u ≤ j + 1 := by
  intro j
  induction j with
  | zero => intro u hu; rw [nDigits_small (by simpa using hu)]; exact Nat.le_refl _
  | succ j ih =>
    intro u hu
    by_cases h : u < 10
    · rw [nDigits_small h]; omega
    · rw [nDigits_big h]
      have := ih (u / 10) (by rw [Nat.pow_succ] at hu; omega)
      omega
/-- The digits of a number are read back if there are at most 18 and no hyphen. -/
theorem rdD_itoa (n : Int) : rdD (itoa n) = if 0 ≤ n ∧ n < 1000000000000000000 then (n.toNat, true) else (0, false) := by
  unfold itoa
  split
  · rename_i h
    rw [if_neg (by omega)]
    unfold rdD
    have : digsL (45 :: decDigits n.natAbs) = false := by simp [digsL, isDig]
    rw [this]
    simp
  · rename_i h
    rw [show n.toNat = n.natAbs from by omega]
    have hc := canon_dec n.natAbs
    have hl := natV_lt (decDigits n.natAbs) (digs_dec n.natAbs)
    rw [natV_dec] at hl
    have hlen : (decDigits n.natAbs).length ≤ 18 ↔ n.natAbs < 10 ^ 18 := by
      constructor
      · intro h1
        exact Nat.lt_of_lt_of_le hl (Nat.pow_le_pow_right (by decide) h1)
      · intro h1
        rw [decDigits_length]
        exact nDigits_le 17 _ h1
    rw [show 10 ^ 18 = 1000000000000000000 from by decide] at hlen
    have h1 : 1 ≤ (decDigits n.natAbs).length := List.length_pos_iff.2 hc.1
    by_cases hb : n < 1000000000000000000
    · rw [if_pos ⟨by omega, hb⟩, rdD_good, if_pos (digs_dec _), natV_dec]
      have := hlen.2 (by omega)
      rintro (h | h | ⟨h, h3⟩)
      · omega
      · omega
      · rcases hc.2.2 with h4 | h4
        · omega
        · exact h4 h
    · rw [if_neg (by omega), rdD_bad]
      right
      left
      have hbig : ¬ n.natAbs < 1000000000000000000 := by omega
      have h5 : ¬ (decDigits n.natAbs).length ≤ 18 := fun e => hbig (hlen.1 e)
      exact Nat.lt_of_not_le h5
/-- A list of bytes as a string. -/
def baL (l : List UInt8) : ByteArray := ⟨l.toArray⟩
theorem baL_list (l : List UInt8) : (baL l).data.toList = l := rfl
theorem list_baL (s : ByteArray) : baL s.data.toList = s := rfl
theorem eq_baL {s : ByteArray} {l : List UInt8} (h : s.data.toList = l) : s = baL l := by rw [← h]; rfl
theorem baL_inj {l m : List UInt8} (h : baL l = baL m) : l = m := by rw [← baL_list l, h, baL_list]
theorem baL_beq (s t : ByteArray) : (s == t) = (s.data.toList == t.data.toList) := by
  rw [beq_toListBytes, ByteArray.toList_eq, ByteArray.toList_eq]
theorem ret_str {a b : ByteArray} (h : a = b) : Ending.returned (.string a) = .returned (.string b) := by rw [h]
set_option maxHeartbeats 800000 in
theorem digits_small (n : Int) (w : World) (h0 : 0 ≤ n) (h9 : n ≤ 9) :
    Calls Tryd.prog 29 #[.int .i64 n] w fun e w' => e = .returned (.string (baL (itoa n))) ∧ w' = w := by
  have HX : baL (itoa n) = baL [UInt8.ofNat (48 + n.toNat)] := by
    unfold itoa
    rw [if_neg (by omega), decDigits_small (by omega)]
  rw [HX]
  clear HX
  have h : n = 0 ∨ n = 1 ∨ n = 2 ∨ n = 3 ∨ n = 4 ∨ n = 5 ∨ n = 6 ∨ n = 7 ∨ n = 8 ∨ n = 9 := by omega
  clear h0 h9
  rcases h with rfl | rfl | rfl | rfl | rfl | rfl | rfl | rfl | rfl | rfl
  all_goals
    go_enter Tryd.func29, Tryd.ntmps29
    go_wp2_with fail
    go_ret
    exact ⟨ret_str (by rfl), rfl⟩
theorem itoa_app (n : Int) (h : 10 ≤ n) : baL (itoa n) = baL (itoa (n / 10)) ++ baL (itoa (n % 10)) := by
  refine (eq_baL ?_).symm
  rw [ByteArray.data_append, Array.toList_append, baL_list, baL_list]
  unfold itoa
  rw [if_neg (by omega), if_neg (by omega), if_neg (by omega)]
  rw [decDigits_big (u := n.toNat) (by omega), decDigits_small (u := (n % 10).toNat) (by omega), show (n / 10).toNat = n.toNat / 10 from by omega, show (n % 10).toNat = n.toNat % 10 from by omega]
theorem itoa_size (n : Int) (h : -9223372036854775808 ≤ n) (h2 : n ≤ 9223372036854775807) : (baL (itoa n)).size ≤ 20 := by
  rw [← size_list, baL_list]
  have := nDigits_le 18 n.natAbs (by omega)
  unfold itoa
  split
  · rw [List.length_cons, decDigits_length]
    omega
  · rw [decDigits_length, show n.toNat = n.natAbs from by omega]
    omega
set_option maxHeartbeats 800000 in
theorem digits_pos (n : Int) (w : World) (h0 : 10 ≤ n) (h9 : n ≤ 9223372036854775807)
    (ih : ∀ w, Calls Tryd.prog 29 #[.int .i64 (n / 10)] w fun e w' => e = .returned (.string (baL (itoa (n / 10)))) ∧ w' = w) :
    Calls Tryd.prog 29 #[.int .i64 n] w fun e w' => e = .returned (.string (baL (itoa n))) ∧ w' = w := by
  have ih2 : ∀ w, Calls Tryd.prog 29 #[.int .i64 (n % 10)] w fun e w' => e = .returned (.string (baL (itoa (n % 10)))) ∧ w' = w := fun w => digits_small _ w (by omega) (by omega)
  have HX := itoa_app n h0
  have s1 := itoa_size (n / 10) (by omega) (by omega)
  have s2 := itoa_size (n % 10) (by omega) (by omega)
  obtain ⟨p, hp⟩ : ∃ p, p = baL (itoa (n / 10)) := ⟨_, rfl⟩
  obtain ⟨q, hq⟩ : ∃ q, q = baL (itoa (n % 10)) := ⟨_, rfl⟩
  rw [← hp, ← hq] at HX
  rw [← hp] at s1
  rw [← hq] at s2
  simp only [← hp] at ih
  simp only [← hq] at ih2
  rw [HX]
  clear HX hp hq
  replace ih := Lib.hid ih
  replace ih2 := Lib.hid ih2
  have e1 : Int.tdiv n 10 = n / 10 := Int.tdiv_eq_ediv_of_nonneg (by omega)
  have e2 : Int.tmod n 10 = n % 10 := Int.tmod_eq_emod_of_nonneg (by omega)
  go_enter Tryd.func29, Tryd.ntmps29
  go_wp2_with fail
  refine (ih.out _).mono ?_
  rintro e w2 ⟨rfl, rfl⟩
  go_wp2_with fail
  refine (ih2.out _).mono ?_
  rintro e w2 ⟨rfl, rfl⟩
  go_wp2_with fail
  go_ret
  exact ⟨rfl, rfl⟩
set_option maxHeartbeats 800000 in
theorem digits_few (n : Int) (w : World) (h0 : n < 0) (h9 : -10 < n) :
    Calls Tryd.prog 29 #[.int .i64 n] w fun e w' => e = .returned (.string (baL (itoa n))) ∧ w' = w := by
  have ih : ∀ w, Calls Tryd.prog 29 #[.int .i64 (-n)] w fun e w' => e = .returned (.string (baL (itoa (-n)))) ∧ w' = w := fun w => digits_small _ w (by omega) (by omega)
  have HX : baL (itoa n) = baL [45] ++ baL (itoa (-n)) := by
    refine (eq_baL ?_).symm
    rw [ByteArray.data_append, Array.toList_append, baL_list, baL_list]
    unfold itoa
    rw [if_pos h0, if_neg (by omega), show (-n).toNat = n.natAbs from by omega]
    rfl
  have s1 := itoa_size (-n) (by omega) (by omega)
  obtain ⟨p, hp⟩ : ∃ p, p = baL (itoa (-n)) := ⟨_, rfl⟩
  rw [← hp] at HX s1
  simp only [← hp] at ih
  rw [HX]
  clear HX hp
  replace ih := Lib.hid ih
  go_enter Tryd.func29, Tryd.ntmps29
  go_wp2_with fail
  refine (ih.out _).mono ?_
  rintro e w2 ⟨rfl, rfl⟩
  go_wp2_with fail
  go_ret
  exact ⟨rfl, rfl⟩
theorem itoa_neg (n : Int) (h : n ≤ -10) : baL (itoa n) = baL (itoa (Int.tdiv n 10)) ++ baL (itoa (-(Int.tmod n 10))) := by
  have e1 : Int.tdiv n 10 = -((-n) / 10) := by
    rw [show n = -(-n) from by omega, Int.neg_tdiv, Int.tdiv_eq_ediv_of_nonneg (by omega)]
    omega
  have e2 : Int.tmod n 10 = -((-n) % 10) := by
    rw [show n = -(-n) from by omega, Int.neg_tmod, Int.tmod_eq_emod_of_nonneg (by omega)]
    omega
  refine (eq_baL ?_).symm
  rw [ByteArray.data_append, Array.toList_append, baL_list, baL_list, e1, e2]
  unfold itoa
  rw [if_pos (by omega), if_neg (by omega), if_pos (by omega)]
  rw [decDigits_big (u := n.natAbs) (by omega), decDigits_small (u := (- -(-n % 10)).toNat) (by omega), show (-(-n / 10)).natAbs = n.natAbs / 10 from by omega, show (- -(-n % 10)).toNat = n.natAbs % 10 from by omega]
  rfl
set_option maxHeartbeats 800000 in
theorem digits_neg (n : Int) (w : World) (h0 : n ≤ -10) (h9 : -9223372036854775808 ≤ n)
    (ih : ∀ w, Calls Tryd.prog 29 #[.int .i64 (Int.tdiv n 10)] w fun e w' => e = .returned (.string (baL (itoa (Int.tdiv n 10)))) ∧ w' = w) :
    Calls Tryd.prog 29 #[.int .i64 n] w fun e w' => e = .returned (.string (baL (itoa n))) ∧ w' = w := by
  have e1 : Int.tdiv n 10 = -((-n) / 10) := by
    rw [show n = -(-n) from by omega, Int.neg_tdiv, Int.tdiv_eq_ediv_of_nonneg (by omega)]
    omega
  have e2 : Int.tmod n 10 = -((-n) % 10) := by
    rw [show n = -(-n) from by omega, Int.neg_tmod, Int.tmod_eq_emod_of_nonneg (by omega)]
    omega
  have ih2 : ∀ w, Calls Tryd.prog 29 #[.int .i64 (-(Int.tmod n 10))] w fun e w' => e = .returned (.string (baL (itoa (-(Int.tmod n 10))))) ∧ w' = w := fun w => digits_small _ w (by omega) (by omega)
  have HX := itoa_neg n h0
  have s1 := itoa_size (Int.tdiv n 10) (by omega) (by omega)
  have s2 := itoa_size (-(Int.tmod n 10)) (by omega) (by omega)
  obtain ⟨p, hp⟩ : ∃ p, p = baL (itoa (Int.tdiv n 10)) := ⟨_, rfl⟩
  obtain ⟨q, hq⟩ : ∃ q, q = baL (itoa (-(Int.tmod n 10))) := ⟨_, rfl⟩
  rw [← hp, ← hq] at HX
  rw [← hp] at s1
  rw [← hq] at s2
  simp only [← hp] at ih
  simp only [← hq] at ih2
  rw [HX]
  clear HX hp hq
  have m1 : -9 ≤ Int.tmod n 10 := by omega
  have m2 : Int.tmod n 10 ≤ 0 := by omega
  have d1 : -922337203685477581 ≤ Int.tdiv n 10 := by omega
  have d2 : Int.tdiv n 10 ≤ 0 := by omega
  clear e1 e2
  replace ih := Lib.hid ih
  replace ih2 := Lib.hid ih2
  go_enter Tryd.func29, Tryd.ntmps29
  go_wp2_with fail
  refine (ih.out _).mono ?_
  rintro e w2 ⟨rfl, rfl⟩
  go_wp2_with fail
  refine (ih2.out _).mono ?_
  rintro e w2 ⟨rfl, rfl⟩
  go_wp2_with fail
  go_ret
  exact ⟨rfl, rfl⟩
/-- Digits, whatever the number. -/
theorem digits_any : ∀ (m : Nat) (n : Int) (w : World), n.natAbs ≤ m → -9223372036854775808 ≤ n → n ≤ 9223372036854775807 →
    Calls Tryd.prog 29 #[.int .i64 n] w fun e w' => e = .returned (.string (baL (itoa n))) ∧ w' = w := by
  intro m
  induction m with
  | zero => intro n w hm h1 h2; exact digits_small n w (by omega) (by omega)
  | succ m ih =>
    intro n w hm h1 h2
    by_cases a : 0 ≤ n
    · by_cases b : n ≤ 9
      · exact digits_small n w a b
      · exact digits_pos n w (by omega) h2 fun w => ih _ w (by omega) (by omega) (by omega)
    · by_cases b : -10 < n
      · exact digits_few n w (by omega) b
      · have e1 : Int.tdiv n 10 = -((-n) / 10) := by
          rw [show n = -(-n) from by omega, Int.neg_tdiv, Int.tdiv_eq_ediv_of_nonneg (by omega)]
          omega
        exact digits_neg n w (by omega) h1 fun w => ih _ w (by omega) (by omega) (by omega)
end Go.Proofs.YtpmcdkalmdlahaaDoor
