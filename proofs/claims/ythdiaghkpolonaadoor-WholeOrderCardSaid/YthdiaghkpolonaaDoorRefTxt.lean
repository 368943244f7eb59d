/-
  The document's functions on texts: digit, Valid, Plain, ReadDigits, as the plain functions of a list of bytes.
-/
import Derived.Test.YthdiaghkpolonaaDoorRows
import Derived.Test.YthdiaghkpolonaaDoorCmp
import Derived.Handy
import Derived.Lib.Hide
namespace Go.Proofs.YthdiaghkpolonaaDoor
open Go.RowKit Go.Lib

theorem size_list (s : ByteArray) : s.data.toList.length = s.size := by simp
theorem get_list (s : ByteArray) (k : Nat) (h : k < s.size) : s.data.toList[k]'(by simpa using h) = s[k] := rfl
theorem take_snocB (s : ByteArray) (k : Nat) (h : k < s.size) : s.data.toList.take (k + 1) = s.data.toList.take k ++ [s[k]] := by
  rw [List.take_succ_eq_append_getElem (by simpa using h)]; rfl
theorem digs_snoc (l : List UInt8) (c : UInt8) : digsL (l ++ [c]) = (digsL l && isDig c) := by simp [digsL]
theorem digs_no (l : List UInt8) (k : Nat) (h : k < l.length) (hd : isDig l[k] = false) : digsL l = false := by
  unfold digsL
  rw [Bool.eq_false_iff]
  intro ha
  rw [List.all_eq_true] at ha
  have := ha _ (List.getElem_mem h)
  rw [hd] at this
  cases this
theorem ret_bool {a b : Bool} (h : a = b) : Ending.returned (.bool a) = .returned (.bool b) := by rw [h]

set_option maxHeartbeats 400000 in
theorem digit_any (c : UInt8) (w : World) : Calls Tryd.prog 20 #[.int .u8 (c.toNat : Int)] w fun e w' => e = .returned (.bool (isDig c)) ∧ w' = w := by
  have h : Hid (isDig c = (decide (48 ≤ (c.toNat : Int)) && decide ((c.toNat : Int) ≤ 57))) := by
    unfold isDig
    rw [show decide (48 ≤ c.toNat) = decide (48 ≤ (c.toNat : Int)) from decide_eq_decide.2 (by omega), show decide (c.toNat ≤ 57) = decide ((c.toNat : Int) ≤ 57) from decide_eq_decide.2 (by omega)]
    exact Lib.hid rfl
  go_enter Tryd.func20, Tryd.ntmps20
  go_wp2
  all_goals
    go_ret
    exact ⟨ret_bool (by rw [h.out, Bool.eq_iff_iff]; simp; omega), rfl⟩

/-- Valid on a text with no hyphen ahead. -/
theorem valid_one (s : ByteArray) (h : ∀ c r, s.data.toList = c :: r → c ≠ 45) : validL s.data.toList = (decide (0 < s.size) && digsL s.data.toList) := by
  rw [← size_list]
  rcases e : s.data.toList with _ | ⟨c, r⟩
  · rfl
  · simp [validL, h c r e]
theorem cons_list (s : ByteArray) (h : 0 < s.size) : s.data.toList = s[0] :: (s.extract 1 s.size).data.toList := by
  rw [ByteArray.data_extract, Array.toList_extract]
  rcases e : s.data.toList with _ | ⟨c, r⟩
  · have := size_list s
    rw [e] at this
    simp at this
    omega
  · have h1 := get_list s 0 h
    have h2 := size_list s
    simp only [e] at h1
    rw [e] at h2
    rw [← h1, ← h2]
    simp [List.extract]
theorem valid_two (s : ByteArray) (h0 : 0 < s.size) (h : s[0] = 45) : validL s.data.toList = (decide (0 < (s.extract 1 s.size).size) && digsL (s.extract 1 s.size).data.toList) := by
  rw [cons_list s h0, h, ← size_list (s.extract 1 s.size)]
  obtain ⟨r, hr⟩ : ∃ r, r = (s.extract 1 s.size).data.toList := ⟨_, rfl⟩
  rw [← hr]
  clear hr
  cases r <;> simp [validL]

set_option maxHeartbeats 800000 in
theorem valid_any (s : ByteArray) (w : World) (hs : s.size ≤ maxLen) : Calls Tryd.prog 12 #[.string s] w fun e w' => e = .returned (.bool (validL s.data.toList)) ∧ w' = w := by
  unfold maxLen at hs
  by_cases h0 : 0 < s.size
  · by_cases h45 : s[0] = 45
    · obtain ⟨t, ht⟩ : ∃ t, t = s.extract 1 s.size := ⟨_, rfl⟩
      have HT := valid_two s h0 h45
      rw [← ht] at HT
      replace HT := Lib.hid HT
      have hts : t.size ≤ 9223372036854775807 := by rw [ht]; simp; omega
      have hc : s[0].toNat = 45 := by rw [h45]; rfl
      have hc2 : ((s[0].toNat : Int) == 45) = true := by rw [hc]; rfl
      clear h45
      go_enter Tryd.func12, Tryd.ntmps12
      go_wp2_with fail
      rw [← ht]
      clear ht hc hc2
      go_loop [3] (fun i => ∃ k : Nat, k ≤ t.size ∧ i = .int .i64 (k : Int) ∧ Hid (digsL (t.data.toList.take k) = true)) (fun i => t.size - (intOf i).toNat)
      case atStart => exact ⟨0, Nat.zero_le _, rfl, Lib.hid rfl⟩
      case round =>
        obtain ⟨k, hk, rfl, H⟩ := hrel
        by_cases hlt : k < t.size
        · obtain ⟨d, hd⟩ : ∃ d, d = isDig t[k] := ⟨_, rfl⟩
          have H2 : digsL (t.data.toList.take (k + 1)) = d := by
            rw [take_snocB t k hlt, digs_snoc, H.out, Bool.true_and, hd]
          replace H2 := Lib.hid H2
          have H3 : Hid (d = false → digsL t.data.toList = false) := fun e => digs_no _ k (by simpa using hlt) (by rw [get_list t k hlt, ← hd, e])
          go_wp2_with fail
          refine (digit_any _ _).mono ?_
          rintro e w2 ⟨rfl, rfl⟩
          rw [← hd]
          clear hd
          cases d
          · go_wp2_with fail
            go_ret
            exact ⟨ret_bool (by rw [HT.out, H3.out (by trivial), Bool.and_false]), rfl⟩
          · go_wp2_with fail
            go_round
            case rel => exact ⟨k + 1, by omega, by go_num, H2⟩
            case measure => simp [intOf]; omega
        · have hkk : k = t.size := by omega
          subst hkk
          have H2 : validL s.data.toList = decide (0 < t.size) := by
            rw [HT.out]
            rw [List.take_of_length_le (by simp)] at H
            rw [H.out, Bool.and_true]
          replace H2 := Lib.hid H2
          go_wp2_with fail
          go_ret
          exact ⟨ret_bool (by rw [H2.out] <;> simp [h0]), rfl⟩
    · have hc2 : ((s[0].toNat : Int) == 45) = false := by
        rw [beq_eq_false_iff_ne]
        intro e
        exact h45 (UInt8.toNat_inj.1 (by rw [show (45 : UInt8).toNat = 45 from rfl]; omega))
      have HT := valid_one s (fun c r e => by
        rw [cons_list s h0] at e
        injection e with e1 e2
        rw [← e1]
        exact h45)
      replace HT := Lib.hid HT
      go_enter Tryd.func12, Tryd.ntmps12
      go_wp2_with fail
      clear hc2 h45
      go_loop [3] (fun i => ∃ k : Nat, k ≤ s.size ∧ i = .int .i64 (k : Int) ∧ Hid (digsL (s.data.toList.take k) = true)) (fun i => s.size - (intOf i).toNat)
      case atStart => exact ⟨0, Nat.zero_le _, rfl, Lib.hid rfl⟩
      case round =>
        obtain ⟨k, hk, rfl, H⟩ := hrel
        by_cases hlt : k < s.size
        · obtain ⟨d, hd⟩ : ∃ d, d = isDig s[k] := ⟨_, rfl⟩
          have H2 : digsL (s.data.toList.take (k + 1)) = d := by
            rw [take_snocB s k hlt, digs_snoc, H.out, Bool.true_and, hd]
          replace H2 := Lib.hid H2
          have H3 : Hid (d = false → digsL s.data.toList = false) := fun e => digs_no _ k (by simpa using hlt) (by rw [get_list s k hlt, ← hd, e])
          go_wp2_with fail
          refine (digit_any _ _).mono ?_
          rintro e w2 ⟨rfl, rfl⟩
          rw [← hd]
          clear hd
          cases d
          · go_wp2_with fail
            go_ret
            exact ⟨ret_bool (by rw [HT.out, H3.out (by trivial), Bool.and_false]), rfl⟩
          · go_wp2_with fail
            go_round
            case rel => exact ⟨k + 1, by omega, by go_num, H2⟩
            case measure => simp [intOf]; omega
        · have hkk : k = s.size := by omega
          subst hkk
          have H2 : validL s.data.toList = decide (0 < s.size) := by
            rw [HT.out]
            rw [List.take_of_length_le (by simp)] at H
            rw [H.out, Bool.and_true]
          replace H2 := Lib.hid H2
          go_wp2_with fail
          go_ret
          exact ⟨ret_bool (by rw [H2.out] <;> simp [h0]), rfl⟩
  · have HT := valid_one s (fun c r e => by
      have := size_list s
      rw [e, List.length_cons] at this
      omega)
    replace HT := Lib.hid HT
    · go_enter Tryd.func12, Tryd.ntmps12
      go_wp2_with fail
      go_loop [3] (fun i => ∃ k : Nat, k ≤ s.size ∧ i = .int .i64 (k : Int) ∧ Hid (digsL (s.data.toList.take k) = true)) (fun i => s.size - (intOf i).toNat)
      case atStart => exact ⟨0, Nat.zero_le _, rfl, Lib.hid rfl⟩
      case round =>
        obtain ⟨k, hk, rfl, H⟩ := hrel
        by_cases hlt : k < s.size
        · obtain ⟨d, hd⟩ : ∃ d, d = isDig s[k] := ⟨_, rfl⟩
          have H2 : digsL (s.data.toList.take (k + 1)) = d := by
            rw [take_snocB s k hlt, digs_snoc, H.out, Bool.true_and, hd]
          replace H2 := Lib.hid H2
          have H3 : Hid (d = false → digsL s.data.toList = false) := fun e => digs_no _ k (by simpa using hlt) (by rw [get_list s k hlt, ← hd, e])
          go_wp2_with fail
          refine (digit_any _ _).mono ?_
          rintro e w2 ⟨rfl, rfl⟩
          rw [← hd]
          clear hd
          cases d
          · go_wp2_with fail
            go_ret
            exact ⟨ret_bool (by rw [HT.out, H3.out (by trivial), Bool.and_false]), rfl⟩
          · go_wp2_with fail
            go_round
            case rel => exact ⟨k + 1, by omega, by go_num, H2⟩
            case measure => simp [intOf]; omega
        · have hkk : k = s.size := by omega
          subst hkk
          have H2 : validL s.data.toList = decide (0 < s.size) := by
            rw [HT.out]
            rw [List.take_of_length_le (by simp)] at H
            rw [H.out, Bool.and_true]
          replace H2 := Lib.hid H2
          go_wp2_with fail
          go_ret
          exact ⟨ret_bool (by rw [H2.out] <;> simp [h0]), rfl⟩
end Go.Proofs.YthdiaghkpolonaaDoor
