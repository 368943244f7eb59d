/-
  The document's ReadDigits is the number of a list of digits, at most 18, none of them a zero ahead.
-/
import Derived.Test.YthdiaghkpolonaaDoorRefTxt
namespace Go.Proofs.YthdiaghkpolonaaDoor
open Go.RowKit Go.Lib

/-- ReadDigits. -/
def rdD (l : List UInt8) : Nat × Bool :=
  if l.length < 1 ∨ 18 < l.length ∨ (l.head? = some 48 ∧ 1 < l.length) then (0, false) else if digsL l = true then (natV l, true) else (0, false)
def tupD (q : Nat × Bool) : Value := .tuple #[.int .i64 (q.1 : Int), .bool q.2]
theorem rdD_bad {l : List UInt8} (h : l.length < 1 ∨ 18 < l.length ∨ (l.head? = some 48 ∧ 1 < l.length)) : rdD l = (0, false) := if_pos h
theorem rdD_good {l : List UInt8} (h : ¬ (l.length < 1 ∨ 18 < l.length ∨ (l.head? = some 48 ∧ 1 < l.length))) : rdD l = if digsL l = true then (natV l, true) else (0, false) := if_neg h
theorem dig_le {c : UInt8} (h : isDig c = true) : 48 ≤ c.toNat ∧ c.toNat ≤ 57 := by
  simpa [isDig] using h

set_option maxHeartbeats 800000 in
/-- The reading of the digits, once the length and the first are right. -/
theorem rdD_loop (s : ByteArray) (w : World) (h0 : 0 < s.size) (h18 : s.size ≤ 18) (hh : ((s[0].toNat : Int) == 48) = false ∨ (((s[0].toNat : Int) == 48) = true ∧ s.size = 1)) (HX : Hid (rdD s.data.toList = if digsL s.data.toList = true then (natV s.data.toList, true) else (0, false))) :
    Calls Tryd.prog 8 #[.string s] w fun e w' => e = .returned (tupD (rdD s.data.toList)) ∧ w' = w := by
  rcases hh with hh | hh
  · have hone : 1 ≤ s.size := h0
    go_enter Tryd.func8, Tryd.ntmps8
    go_wp2_with fail
    go_loop [4, 5] (fun n i => ∃ k : Nat, k ≤ s.size ∧ i = .int .i64 (k : Int) ∧ n = .int .i64 ((natV (s.data.toList.take k) : Nat) : Int) ∧ Hid (digsL (s.data.toList.take k) = true)) (fun _ i => s.size - (intOf i).toNat)
    case atStart => exact ⟨0, Nat.zero_le _, rfl, rfl, Lib.hid rfl⟩
    case round =>
      obtain ⟨k, hk, rfl, hn, H⟩ := hrel
      obtain ⟨a, ha⟩ : ∃ a, a = natV (s.data.toList.take k) := ⟨_, rfl⟩
      rw [← ha] at hn
      obtain rfl := hn
      by_cases hlt : k < s.size
      · have hb : a < 100000000000000000 := by
          have h1 := natV_lt (s.data.toList.take k) H.out
          rw [← ha, List.length_take] at h1
          exact Nat.lt_of_lt_of_le h1 (show 10 ^ _ ≤ 10 ^ 17 from Nat.pow_le_pow_right (by decide) (by omega))
        obtain ⟨d, hd⟩ : ∃ d, d = isDig s[k] := ⟨_, rfl⟩
        have H2 : digsL (s.data.toList.take (k + 1)) = d := by
          rw [take_snocB s k hlt, digs_snoc, H.out, Bool.true_and, hd]
        replace H2 := Lib.hid H2
        have H3 : d = false → digsL s.data.toList = false := fun e => digs_no _ k (by simpa using hlt) (by rw [get_list s k hlt, ← hd, e])
        have H4 : d = true → 48 ≤ s[k].toNat ∧ s[k].toNat ≤ 57 := fun e => dig_le (by rw [← hd, e])
        have H5 : natV (s.data.toList.take (k + 1)) = a * 10 + (s[k].toNat - 48) := by rw [take_snocB s k hlt, natV_snoc, ha]; rfl
        replace H5 := Lib.hid H5
        replace ha := Lib.hid ha
        go_wp2_with fail
        refine (digit_any _ _).mono ?_
        rintro e w2 ⟨rfl, rfl⟩
        rw [← hd]
        clear hd ha
        cases d
        · replace H3 := Lib.hid (H3 rfl)
          clear H4
          go_wp2_with fail
          go_ret2
          exact ⟨by rw [HX.out, if_neg (by rw [H3.out]; decide)]; rfl, rfl⟩
        · obtain ⟨h48, h57⟩ := H4 rfl
          clear H3
          go_wp2_with fail
          go_round
          case rel => exact ⟨k + 1, by omega, by go_num, by rw [H5.out]; go_num, H2⟩
          case measure => simp [intOf]; omega
      · have hkk : k = s.size := by omega
        subst hkk
        have HY : rdD s.data.toList = (a, true) := by
          have e : s.data.toList.take s.size = s.data.toList := List.take_of_length_le (by simp)
          rw [HX.out, if_pos (by rw [← H.out, e]), ha, e]
        replace HY := Lib.hid HY
        clear ha
        go_wp2_with fail
        go_ret2
        exact ⟨by rw [HY.out]; rfl, rfl⟩
  · obtain ⟨hc1, hone⟩ := hh
    go_enter Tryd.func8, Tryd.ntmps8
    go_wp2_with fail
    go_loop [4, 5] (fun n i => ∃ k : Nat, k ≤ s.size ∧ i = .int .i64 (k : Int) ∧ n = .int .i64 ((natV (s.data.toList.take k) : Nat) : Int) ∧ Hid (digsL (s.data.toList.take k) = true)) (fun _ i => s.size - (intOf i).toNat)
    case atStart => exact ⟨0, Nat.zero_le _, rfl, rfl, Lib.hid rfl⟩
    case round =>
      obtain ⟨k, hk, rfl, hn, H⟩ := hrel
      obtain ⟨a, ha⟩ : ∃ a, a = natV (s.data.toList.take k) := ⟨_, rfl⟩
      rw [← ha] at hn
      obtain rfl := hn
      by_cases hlt : k < s.size
      · have hb : a < 100000000000000000 := by
          have h1 := natV_lt (s.data.toList.take k) H.out
          rw [← ha, List.length_take] at h1
          exact Nat.lt_of_lt_of_le h1 (show 10 ^ _ ≤ 10 ^ 17 from Nat.pow_le_pow_right (by decide) (by omega))
        obtain ⟨d, hd⟩ : ∃ d, d = isDig s[k] := ⟨_, rfl⟩
        have H2 : digsL (s.data.toList.take (k + 1)) = d := by
          rw [take_snocB s k hlt, digs_snoc, H.out, Bool.true_and, hd]
        replace H2 := Lib.hid H2
        have H3 : d = false → digsL s.data.toList = false := fun e => digs_no _ k (by simpa using hlt) (by rw [get_list s k hlt, ← hd, e])
        have H4 : d = true → 48 ≤ s[k].toNat ∧ s[k].toNat ≤ 57 := fun e => dig_le (by rw [← hd, e])
        have H5 : natV (s.data.toList.take (k + 1)) = a * 10 + (s[k].toNat - 48) := by rw [take_snocB s k hlt, natV_snoc, ha]; rfl
        replace H5 := Lib.hid H5
        replace ha := Lib.hid ha
        go_wp2_with fail
        refine (digit_any _ _).mono ?_
        rintro e w2 ⟨rfl, rfl⟩
        rw [← hd]
        clear hd ha
        cases d
        · replace H3 := Lib.hid (H3 rfl)
          clear H4
          go_wp2_with fail
          go_ret2
          exact ⟨by rw [HX.out, if_neg (by rw [H3.out]; decide)]; rfl, rfl⟩
        · obtain ⟨h48, h57⟩ := H4 rfl
          clear H3
          go_wp2_with fail
          go_round
          case rel => exact ⟨k + 1, by omega, by go_num, by rw [H5.out]; go_num, H2⟩
          case measure => simp [intOf]; omega
      · have hkk : k = s.size := by omega
        subst hkk
        have HY : rdD s.data.toList = (a, true) := by
          have e : s.data.toList.take s.size = s.data.toList := List.take_of_length_le (by simp)
          rw [HX.out, if_pos (by rw [← H.out, e]), ha, e]
        replace HY := Lib.hid HY
        clear ha
        go_wp2_with fail
        go_ret2
        exact ⟨by rw [HY.out]; rfl, rfl⟩

set_option maxHeartbeats 800000 in
/-- ReadDigits, whatever the text. -/
theorem readDigits_any (s : ByteArray) (w : World) (hs : s.size ≤ maxLen) :
    Calls Tryd.prog 8 #[.string s] w fun e w' => e = .returned (tupD (rdD s.data.toList)) ∧ w' = w := by
  unfold maxLen at hs
  by_cases h0 : 0 < s.size
  · have hhd : s.data.toList.head? = some s[0] := by rw [cons_list s h0]; rfl
    by_cases h18 : s.size ≤ 18
    · by_cases hz : ((s[0].toNat : Int) == 48) = true
      · have h48 : s[0] = 48 := by
          rw [beq_iff_eq] at hz
          exact UInt8.toNat_inj.1 (by rw [show (48 : UInt8).toNat = 48 from rfl]; omega)
        by_cases h1 : s.size = 1
        · exact rdD_loop s w h0 h18 (.inr ⟨hz, h1⟩) (Lib.hid (rdD_good (by rw [size_list]; omega)))
        · have HX := rdD_bad (l := s.data.toList) (.inr (.inr ⟨by rw [hhd, h48], by rw [size_list]; omega⟩))
          replace HX := Lib.hid HX
          have h2 : 1 < s.size := by omega
          clear hhd h48 h1
          go_enter Tryd.func8, Tryd.ntmps8
          go_wp2_with fail
          go_ret2
          exact ⟨by rw [HX.out]; rfl, rfl⟩
      · have hz2 : ((s[0].toNat : Int) == 48) = false := by simpa using hz
        refine rdD_loop s w h0 h18 (.inl hz2) (Lib.hid (rdD_good ?_))
        rw [size_list, hhd]
        rintro (h | h | ⟨h, _⟩)
        · omega
        · omega
        · injection h with h
          rw [h] at hz2
          cases hz2
    · have HX := rdD_bad (l := s.data.toList) (.inr (.inl (by rw [size_list]; omega)))
      replace HX := Lib.hid HX
      clear hhd
      go_enter Tryd.func8, Tryd.ntmps8
      go_wp2_with fail
      go_ret2
      exact ⟨by rw [HX.out]; rfl, rfl⟩
  · have HX := rdD_bad (l := s.data.toList) (.inl (by rw [size_list]; omega))
    replace HX := Lib.hid HX
    go_enter Tryd.func8, Tryd.ntmps8
    go_wp2_with fail
    go_ret2
    exact ⟨by rw [HX.out]; rfl, rfl⟩

theorem nDigits_le : ∀ j u, u < 10 ^ (j + 1) → nDigits u ≤ j + 1 := by
  intro j
  induction j with
  | zero => intro u hu; rw [nDigits_small (by simpa using hu)]; exact Nat.le_refl _
  | succ j ih =>
    intro u hu
    by_cases h : u < 10
    · rw [nDigits_small h]; omega
    · rw [nDigits_big h]
      have := ih (u / 10) (by rw [Nat.pow_succ] at hu; omega)
      omega
/-- The digits of a number are read back if there are at most 18 and no hyphen. -/
theorem rdD_itoa (n : Int) : rdD (itoa n) = if 0 ≤ n ∧ n < 1000000000000000000 then (n.toNat, true) else (0, false) := by
  unfold itoa
  split
  · rename_i h
    rw [if_neg (by omega)]
    unfold rdD
    have : digsL (45 :: decDigits n.natAbs) = false := by simp [digsL, isDig]
    rw [this]
    simp
  · rename_i h
    rw [show n.toNat = n.natAbs from by omega]
    have hc := canon_dec n.natAbs
    have hl := natV_lt (decDigits n.natAbs) (digs_dec n.natAbs)
    rw [natV_dec] at hl
    have hlen : (decDigits n.natAbs).length ≤ 18 ↔ n.natAbs < 10 ^ 18 := by
      constructor
      · intro h1
        exact Nat.lt_of_lt_of_le hl (Nat.pow_le_pow_right (by decide) h1)
      · intro h1
        rw [decDigits_length]
        exact nDigits_le 17 _ h1
    rw [show 10 ^ 18 = 1000000000000000000 from by decide] at hlen
    have h1 : 1 ≤ (decDigits n.natAbs).length := List.length_pos_iff.2 hc.1
    by_cases hb : n < 1000000000000000000
    · rw [if_pos ⟨by omega, hb⟩, rdD_good, if_pos (digs_dec _), natV_dec]
      have := hlen.2 (by omega)
      rintro (h | h | ⟨h, h3⟩)
      · omega
      · omega
      · rcases hc.2.2 with h4 | h4
        · omega
        · exact h4 h
    · rw [if_neg (by omega), rdD_bad]
      right
      left
      have hbig : ¬ n.natAbs < 1000000000000000000 := by omega
      have h5 : ¬ (decDigits n.natAbs).length ≤ 18 := fun e => hbig (hlen.1 e)
      exact Nat.lt_of_not_le h5
end Go.Proofs.YthdiaghkpolonaaDoor
