/-
  The oid package's numbers.
-/
import Derived.Test.YtkffgdndglfcfaaGreatDoorDecI
import Derived.Test.YtkffgdndglfcfaaGreatDoorRows
import Derived.Handy
import Derived.Lib.Hide
import Derived.Test.YtkffgdndglfcfaaGreatDoorShelf
import Derived.Lib.Strings
import Derived.Lib.TrimByte
import Derived.Lib.QuietBelow
import Derived.Lib.LaidTab
import Derived.Lib.AppendIntMem
namespace Go.Proofs.YtkffgdndglfcfaaGreatDoor.O7
open Go.RowKit Go.Lib

theorem size_list (s : ByteArray) : s.data.toList.length = s.size := by simp
theorem get_list (s : ByteArray) (k : Nat) (h : k < s.size) : s.data.toList[k]'(by simpa using h) = s[k] := rfl
theorem take_snocB (s : ByteArray) (k : Nat) (h : k < s.size) : s.data.toList.take (k + 1) = s.data.toList.take k ++ [s[k]] := by
  rw [List.take_succ_eq_append_getElem (by simpa using h)]; rfl
theorem digs_snoc (l : List UInt8) (c : UInt8) : digsL (l ++ [c]) = (digsL l && isDig c) := by simp [digsL]
theorem digs_no (l : List UInt8) (k : Nat) (h : k < l.length) (hd : isDig l[k] = false) : digsL l = false := by
  unfold digsL
  rw [Bool.eq_false_iff]
  intro ha
  rw [List.all_eq_true] at ha
  have := ha _ (List.getElem_mem h)
  rw [hd] at this
  cases this
theorem ret_bool {a b : Bool} (h : a = b) : Ending.returned (.bool a) = .returned (.bool b) := by rw [h]
theorem cons_list (s : ByteArray) (h : 0 < s.size) : s.data.toList = s[0] :: (s.extract 1 s.size).data.toList := by
  rw [ByteArray.data_extract, Array.toList_extract]
  rcases e : s.data.toList with _ | ⟨c, r⟩
  · have := size_list s
    rw [e] at this
    simp at this
    omega
  · have h1 := get_list s 0 h
    have h2 := size_list s
    simp only [e] at h1
    rw [e] at h2
    rw [← h1, ← h2]
    simp [List.extract]
/-- ReadDigits. -/
def rdD (l : List UInt8) : Nat × Bool :=
  if l.length < 1 ∨ 18 < l.length ∨ (l.head? = some 48 ∧ 1 < l.length) then (0, false) else if digsL l = true then (natV l, true) else (0, false)
def tupD (q : Nat × Bool) : Value := .tuple #[.int .i64 (q.1 : Int), .bool q.2]
theorem rdD_bad {l : List UInt8} (h : l.length < 1 ∨ 18 < l.length ∨ (l.head? = some 48 ∧ 1 < l.length)) : rdD l = (0, false) := if_pos h
theorem rdD_good {l : List UInt8} (h : ¬ (l.length < 1 ∨ 18 < l.length ∨ (l.head? = some 48 ∧ 1 < l.length))) : rdD l = if digsL l = true then (natV l, true) else (0, false) := if_neg h
theorem dig_le {c : UInt8} (h : isDig c = true) : 48 ≤ c.toNat ∧ c.toNat ≤ 57 := by
  simpa [isDig] using h
theorem nDigits_le : ∀ j u, u < 10 ^ (j + 1) → nDigits u ≤ j + 1 := by
  intro j
  induction j with
  | zero => intro u hu; rw [nDigits_small (by simpa using hu)]; exact Nat.le_refl _
  | succ j ih =>
    intro u hu
    by_cases h : u < 10
    · rw [nDigits_small h]; omega
    · rw [nDigits_big h]
      have := ih (u / 10) (by rw [Nat.pow_succ] at hu; omega)
      omega
/-- The digits of a number are read back if there are at most 18 and no hyphen. -/
theorem rdD_itoa (n : Int) : rdD (itoa n) = if 0 ≤ n ∧ n < 1000000000000000000 then (n.toNat, true) else (0, false) := by
  unfold itoa
  split
  · rename_i h
    rw [if_neg (by omega)]
    unfold rdD
    have : digsL (45 :: decDigits n.natAbs) = false := by simp [digsL, isDig]
    rw [this]
    simp
  · rename_i h
    rw [show n.toNat = n.natAbs from by omega]
    have hc := canon_dec n.natAbs
    have hl := natV_lt (decDigits n.natAbs) (digs_dec n.natAbs)
    rw [natV_dec] at hl
    have hlen : (decDigits n.natAbs).length ≤ 18 ↔ n.natAbs < 10 ^ 18 := by
      constructor
      · intro h1
        exact Nat.lt_of_lt_of_le hl (Nat.pow_le_pow_right (by decide) h1)
      · intro h1
        rw [decDigits_length]
        exact nDigits_le 17 _ h1
    rw [show 10 ^ 18 = 1000000000000000000 from by decide] at hlen
    have h1 : 1 ≤ (decDigits n.natAbs).length := List.length_pos_iff.2 hc.1
    by_cases hb : n < 1000000000000000000
    · rw [if_pos ⟨by omega, hb⟩, rdD_good, if_pos (digs_dec _), natV_dec]
      have := hlen.2 (by omega)
      rintro (h | h | ⟨h, h3⟩)
      · omega
      · omega
      · rcases hc.2.2 with h4 | h4
        · omega
        · exact h4 h
    · rw [if_neg (by omega), rdD_bad]
      right
      left
      have hbig : ¬ n.natAbs < 1000000000000000000 := by omega
      have h5 : ¬ (decDigits n.natAbs).length ≤ 18 := fun e => hbig (hlen.1 e)
      exact Nat.lt_of_not_le h5
/-- A list of bytes as a string. -/
def baL (l : List UInt8) : ByteArray := ⟨l.toArray⟩
theorem baL_list (l : List UInt8) : (baL l).data.toList = l := rfl
theorem list_baL (s : ByteArray) : baL s.data.toList = s := rfl
theorem eq_baL {s : ByteArray} {l : List UInt8} (h : s.data.toList = l) : s = baL l := by rw [← h]; rfl
theorem baL_inj {l m : List UInt8} (h : baL l = baL m) : l = m := by rw [← baL_list l, h, baL_list]
theorem baL_beq (s t : ByteArray) : (s == t) = (s.data.toList == t.data.toList) := by
  rw [beq_toListBytes, ByteArray.toList_eq, ByteArray.toList_eq]
theorem ret_str {a b : ByteArray} (h : a = b) : Ending.returned (.string a) = .returned (.string b) := by rw [h]
theorem itoa_app (n : Int) (h : 10 ≤ n) : baL (itoa n) = baL (itoa (n / 10)) ++ baL (itoa (n % 10)) := by
  refine (eq_baL ?_).symm
  rw [ByteArray.data_append, Array.toList_append, baL_list, baL_list]
  unfold itoa
  rw [if_neg (by omega), if_neg (by omega), if_neg (by omega)]
  rw [decDigits_big (u := n.toNat) (by omega), decDigits_small (u := (n % 10).toNat) (by omega), show (n / 10).toNat = n.toNat / 10 from by omega, show (n % 10).toNat = n.toNat % 10 from by omega]
theorem itoa_size (n : Int) (h : -9223372036854775808 ≤ n) (h2 : n ≤ 9223372036854775807) : (baL (itoa n)).size ≤ 20 := by
  rw [← size_list, baL_list]
  have := nDigits_le 18 n.natAbs (by omega)
  unfold itoa
  split
  · rw [List.length_cons, decDigits_length]
    omega
  · rw [decDigits_length, show n.toNat = n.natAbs from by omega]
    omega
theorem itoa_neg (n : Int) (h : n ≤ -10) : baL (itoa n) = baL (itoa (Int.tdiv n 10)) ++ baL (itoa (-(Int.tmod n 10))) := by
  have e1 : Int.tdiv n 10 = -((-n) / 10) := by
    rw [show n = -(-n) from by omega, Int.neg_tdiv, Int.tdiv_eq_ediv_of_nonneg (by omega)]
    omega
  have e2 : Int.tmod n 10 = -((-n) % 10) := by
    rw [show n = -(-n) from by omega, Int.neg_tmod, Int.tmod_eq_emod_of_nonneg (by omega)]
    omega
  refine (eq_baL ?_).symm
  rw [ByteArray.data_append, Array.toList_append, baL_list, baL_list, e1, e2]
  unfold itoa
  rw [if_pos (by omega), if_neg (by omega), if_pos (by omega)]
  rw [decDigits_big (u := n.natAbs) (by omega), decDigits_small (u := (- -(-n % 10)).toNat) (by omega), show (-(-n / 10)).natAbs = n.natAbs / 10 from by omega, show (- -(-n % 10)).toNat = n.natAbs % 10 from by omega]
  rfl
end Go.Proofs.YtkffgdndglfcfaaGreatDoor.O7
namespace Go.Proofs.YtkffgdndglfcfaaGreatDoor.O7
open Go.Lib
open Go.RowKit Go.Lib

/-- The sign and the digits; neither for what is no number. -/
def psL (l : List UInt8) : Bool × List UInt8 := if validL l = true then (decide (valL l < 0), decDigits (valL l).natAbs) else (false, [])
theorem trim_dig : ∀ l : List UInt8, digsL l = true → trimLeftB l 48 = if natV l = 0 then [] else decDigits (natV l)
  | [], _ => by simp [trimLeftB, natV]
  | c :: r, hd => by
    by_cases hc : c = 48
    · subst hc
      have h2 : digsL r = true := by
        simp only [digsL, List.all_cons, Bool.and_eq_true] at hd
        exact hd.2
      have ih := trim_dig r h2
      rw [natV_cons, show dv 48 = 0 from rfl, Nat.zero_mul, Nat.zero_add, ← ih]
      simp [trimLeftB]
    · have hC : Canon (c :: r) := ⟨by simp, hd, .inr (by simpa using hc)⟩
      have h1 : 1 ≤ natV (c :: r) := by
        by_cases h1 : (c :: r).length = 1
        · have hr : r = [] := List.eq_nil_of_length_eq_zero (by simpa using h1)
          subst hr
          simp only [digsL, List.all_cons, List.all_nil, Bool.and_true, isDig, Bool.and_eq_true, decide_eq_true_eq] at hd
          have : c.toNat ≠ 48 := fun e => hc (UInt8.toNat_inj.1 (by rw [e]; rfl))
          rw [natV_cons]
          unfold dv
          simp [natV]
          omega
        · exact canon_pos hC h1
      rw [if_neg (by omega), dec_natV _ hC]
      simp [trimLeftB, hc]
theorem cut_minus (r : List UInt8) : hasPrefix (45 :: r) [45] = true ∧ trimPrefix (45 :: r) [45] = r := by simp [hasPrefix, trimPrefix]
theorem cut_plain (l : List UInt8) (h : l.head? ≠ some 45) : hasPrefix l [45] = false ∧ trimPrefix l [45] = l := by
  have e : hasPrefix l [45] = false := by
    rcases l with _ | ⟨c, r⟩
    · rfl
    · have hc : c ≠ 45 := by simpa using h
      show ((45 : UInt8) == c && [].isPrefixOf r) = false
      rw [beq_eq_false_iff_ne.2 (Ne.symm hc), Bool.false_and]
  exact ⟨e, by simp [trimPrefix, e]⟩
/-- How a parse comes to it. -/
theorem ps_of (l : List UInt8) :
    (trimPrefix l [45] = [] → psL l = (false, [])) ∧ (digsL (trimPrefix l [45]) = false → psL l = (false, [])) ∧
    (trimPrefix l [45] ≠ [] → digsL (trimPrefix l [45]) = true → trimLeftB (trimPrefix l [45]) 48 = [] → psL l = (false, [48])) ∧
    (trimPrefix l [45] ≠ [] → digsL (trimPrefix l [45]) = true → trimLeftB (trimPrefix l [45]) 48 ≠ [] → psL l = (hasPrefix l [45], trimLeftB (trimPrefix l [45]) 48)) := by
  by_cases h45 : l.head? = some 45
  · obtain ⟨r, rfl⟩ : ∃ r, l = 45 :: r := by
      rcases l with _ | ⟨c, r⟩
      · cases h45
      · exact ⟨r, by simp at h45; rw [h45]⟩
    rw [(cut_minus r).1, (cut_minus r).2]
    have hv : validL (45 :: r) = (!r.isEmpty && digsL r) := by simp [validL]
    have hw : valL (45 :: r) = -(natV r : Int) := by simp [valL]
    refine ⟨?_, ?_, ?_, ?_⟩
    · rintro rfl
      rw [psL, if_neg (by rw [hv]; decide)]
    · intro h
      rw [psL, if_neg (by rw [hv, h]; simp)]
    · intro h0 hd ht
      have hn : natV r = 0 := by
        rw [trim_dig r hd] at ht
        by_cases h : natV r = 0
        · exact h
        · rw [if_neg h] at ht
          exact absurd ht (dec_ne _)
      rw [psL, if_pos (by rw [hv, hd]; simpa using h0), hw, hn]
      simp [decDigits_small]
    · intro h0 hd ht
      have hn : natV r ≠ 0 := by
        intro h
        rw [trim_dig r hd, if_pos h] at ht
        exact ht rfl
      rw [psL, if_pos (by rw [hv, hd]; simpa using h0), hw, trim_dig r hd, if_neg hn, decide_eq_true (by omega), show (-(natV r : Int)).natAbs = natV r from by omega]
  · rw [(cut_plain l h45).1, (cut_plain l h45).2]
    have hv : validL l = (!l.isEmpty && digsL l) := by
      rcases l with _ | ⟨c, r⟩
      · rfl
      · have hc : c ≠ 45 := by simpa using h45
        simp [validL, hc]
    have hw : valL l = (natV l : Int) := by
      rcases l with _ | ⟨c, r⟩
      · rfl
      · have hc : c ≠ 45 := by simpa using h45
        simp [valL, hc]
    refine ⟨?_, ?_, ?_, ?_⟩
    · rintro rfl
      rfl
    · intro h
      rw [psL, if_neg (by rw [hv, h]; simp)]
    · intro h0 hd ht
      have hn : natV l = 0 := by
        rw [trim_dig l hd] at ht
        by_cases h : natV l = 0
        · exact h
        · rw [if_neg h] at ht
          exact absurd ht (dec_ne _)
      rw [psL, if_pos (by rw [hv, hd]; simpa using h0), hw, hn]
      simp [decDigits_small]
    · intro h0 hd ht
      have hn : natV l ≠ 0 := by
        intro h
        rw [trim_dig l hd, if_pos h] at ht
        exact ht rfl
      rw [psL, if_pos (by rw [hv, hd]; simpa using h0), hw, trim_dig l hd, if_neg hn, decide_eq_false (by omega), show ((natV l : Int)).natAbs = natV l from by omega]
theorem ps_none {l : List UInt8} (h : validL l = false) : psL l = (false, []) := by rw [psL, if_neg (by rw [h]; decide)]
theorem ps_some {l : List UInt8} (h : validL l = true) : psL l = (decide (valL l < 0), decDigits (valL l).natAbs) := if_pos h
theorem ps_valid (l : List UInt8) : (psL l).2 = [] ↔ validL l = false := by
  by_cases h : validL l = true
  · rw [ps_some h, h]
    simp [dec_ne]
  · have h2 : validL l = false := by simpa using h
    rw [ps_none h2, h2]
    simp
theorem ps_len (l : List UInt8) : (psL l).2.length ≤ l.length + 1 := by
  have hT : ∀ r : List UInt8, (trimLeftB r 48).length ≤ r.length := fun r => (List.dropWhile_sublist _).length_le
  have hP : (trimPrefix l [45]).length ≤ l.length := by
    unfold trimPrefix
    split
    · rw [List.length_drop]; omega
    · omega
  obtain ⟨h1, h2, h3, h4⟩ := ps_of l
  by_cases a : trimPrefix l [45] = []
  · rw [h1 a]; simp
  by_cases b : digsL (trimPrefix l [45]) = true
  · by_cases c : trimLeftB (trimPrefix l [45]) 48 = []
    · rw [h3 a b c]; simp
    · rw [h4 a b c]
      have := hT (trimPrefix l [45])
      simp only
      omega
  · rw [h2 (by simpa using b)]; simp
/-- A text without a sign and without zeros ahead is its own digits. -/
theorem ps_self (l : List UInt8) (h : (psL l).2 = l) : l = [] ∨ Canon l := by
  by_cases hv : validL l = true
  · right
    rw [ps_some hv] at h
    have h2 : decDigits (valL l).natAbs = l := h
    have := canon_dec (valL l).natAbs
    rw [h2] at this
    exact this
  · have h2 : validL l = false := by simpa using hv
    rw [ps_none h2] at h
    exact .inl h.symm
theorem ps_canon (l : List UInt8) (h : Canon l) : psL l = (false, l) := by
  have hd := dec_natV l h
  have hl : l.head? ≠ some 45 := by
    rw [← hd]
    exact dec_head _
  have hv : validL l = true := by
    rcases l with _ | ⟨c, r⟩
    · exact absurd rfl h.1
    · have hc : c ≠ 45 := by simpa using hl
      simp [validL, hc]
      exact h.2.1
  have hw : valL l = (natV l : Int) := by
    rcases l with _ | ⟨c, r⟩
    · rfl
    · have hc : c ≠ 45 := by simpa using hl
      simp [valL, hc]
  rw [ps_some hv, hw, decide_eq_false (by omega), show ((natV l : Int)).natAbs = natV l from by omega, hd]
def psV (q : Bool × List UInt8) : Value := .agg #[.bool q.1, .string (baL q.2)]
theorem digs_fault (l : List UInt8) (h : digsL l = false) : ∃ (k : Nat) (hk : k < l.length), isDig l[k] = false ∧ ∀ (j : Nat) (_ : j < k) (hj : j < l.length), isDig l[j] = true := by
  induction l with
  | nil => cases h
  | cons c r ih =>
    by_cases hc : isDig c = true
    · have h2 : digsL r = false := by
        simp only [digsL, List.all_cons, hc, Bool.true_and] at h
        exact h
      obtain ⟨k, hk, h1, h3⟩ := ih h2
      refine ⟨k + 1, by simp; exact hk, by simpa using h1, fun j hj hjl => ?_⟩
      rcases j with _ | j
      · exact hc
      · simpa using h3 j (by omega) (by simpa using hjl)
    · exact ⟨0, by simp, by simpa using hc, fun j hj => absurd hj (by omega)⟩
theorem digs_get (l : List UInt8) (h : digsL l = true) (k : Nat) (hk : k < l.length) : isDig l[k] = true := by
  simp only [digsL, List.all_eq_true] at h
  exact h _ (List.getElem_mem hk)
theorem isDig_no {c : UInt8} (h : isDig c = false) : ((c.toNat : Int) < 48) ∨ (57 < (c.toNat : Int)) := by
  by_cases h1 : c.toNat < 48
  · left; omega
  · right
    simp only [isDig, Bool.and_eq_false_iff, decide_eq_false_iff_not] at h
    omega
theorem isDig_yes {c : UInt8} (h : isDig c = true) : (48 ≤ (c.toNat : Int)) ∧ ((c.toNat : Int) ≤ 57) := by
  simp only [isDig, Bool.and_eq_true, decide_eq_true_eq] at h
  omega
set_option maxRecDepth 4000 in
set_option maxHeartbeats 800000 in
theorem parse_any (s : ByteArray) (w : World) (hs : s.size ≤ maxLen) :
    Calls Tryz.prog 183 #[.string s] w fun e w' => e = .returned (psV (psL s.data.toList)) ∧ Below w.heap.size w w' := by
  unfold maxLen at hs
  have HP := ps_of s.data.toList
  obtain ⟨d, hd⟩ : ∃ d, d = baL (trimPrefix s.data.toList [45]) := ⟨_, rfl⟩
  obtain ⟨t, ht⟩ : ∃ t, t = baL (trimLeftB (trimPrefix s.data.toList [45]) 48) := ⟨_, rfl⟩
  obtain ⟨m, hm⟩ : ∃ m, m = hasPrefix s.data.toList [45] := ⟨_, rfl⟩
  have hdl : trimPrefix s.data.toList [45] = d.data.toList := by rw [hd, baL_list]
  have htl : trimLeftB d.data.toList 48 = t.data.toList := by rw [ht, hd, baL_list, baL_list]
  have CUT : ∀ w, Calls Tryz.prog 82 #[.string s, .string { data := #[45] }] w fun e w' => e = .returned (.tuple #[.string d, .bool m]) ∧ w' = w := by rw [hd, hm]; exact Tryz.strings_CutPrefix s { data := #[45] }
  have TRI : ∀ w, Calls Tryz.prog 202 #[.string d, .string { data := #[48] }] w fun e w' => e = .returned (.string t) ∧ w' = w := fun w => by
    have := Tryz.strings_TrimLeft_one d 48 (by decide) w
    rw [htl] at this
    exact this
  have hds : d.size ≤ 9223372036854775807 := by
    have h1 : (trimPrefix s.data.toList [45]).length ≤ s.data.toList.length := by
      unfold trimPrefix
      split
      · rw [List.length_drop]; omega
      · omega
    rw [hdl, size_list, size_list] at h1
    omega
  rw [hdl, htl, ← hm] at HP
  obtain ⟨X, hX⟩ : ∃ X, X = psL s.data.toList := ⟨_, rfl⟩
  rw [← hX] at HP ⊢
  obtain ⟨HP1, HP2, HP3, HP4⟩ := HP
  clear hd ht hm hdl htl hX
  by_cases h0 : d.data.toList = []
  · have hb0 : d.toList.isEmpty = true := by rw [ByteArray.toList_eq, h0]; rfl
    have HX := Lib.hid (HP1 h0)
    clear HP1 HP2 HP3 HP4 h0
    replace CUT := Lib.hid CUT
    replace TRI := Lib.hid TRI
    go_enter Tryz.func183, Tryz.ntmps183
    go_wp2_with fail
    refine (CUT.out _).mono ?_
    rintro e w2 ⟨rfl, rfl⟩
    go_wp2_with fail
    rw [HX.out]
    go_returns
    exact ⟨rfl, (Below.refl _ _).alloc (Nat.le_refl _) _⟩
  have hb0 : d.toList.isEmpty = false := by rw [ByteArray.toList_eq]; simpa using h0
  have hpos : 0 < d.size := by rw [← size_list]; exact List.length_pos_iff.2 h0
  by_cases hdg : digsL d.data.toList = true
  · have hget : ∀ (k : Nat) (hk : k < d.size), 48 ≤ (d[k].toNat : Int) ∧ (d[k].toNat : Int) ≤ 57 := fun k hk => isDig_yes (digs_get _ hdg k (by simpa using hk))
    have HP3' := HP3 h0 hdg
    have HP4' := HP4 h0 hdg
    clear HP1 HP2 HP3 HP4 h0 hdg
    by_cases ht0 : t.data.toList = []
    · have hbt : t.toList.isEmpty = true := by rw [ByteArray.toList_eq, ht0]; rfl
      have HX := Lib.hid (HP3' ht0)
      clear HP3' HP4' ht0
      replace CUT := Lib.hid CUT
      replace TRI := Lib.hid TRI
      replace hget := Lib.hid hget
      go_enter Tryz.func183, Tryz.ntmps183
      go_wp2_with fail
      refine (CUT.out _).mono ?_
      rintro e w2 ⟨rfl, rfl⟩
      go_wp2_with fail
      go_loop [16] (fun i => ∃ k : Nat, k ≤ d.size ∧ i = .int .i64 (k : Int)) (fun i => d.size - (RowKit.intOf i).toNat)
      case atStart => exact ⟨0, Nat.zero_le _, rfl⟩
      case round =>
        obtain ⟨k, hk, rfl⟩ := hrel
        by_cases hlt : k < d.size
        · obtain ⟨g1, g2⟩ := hget.out k hlt
          go_wp2_with fail
          go_round
          case rel => exact ⟨k + 1, by omega, by go_num⟩
          case measure => simp [RowKit.intOf]; omega
        · have hkk : k = d.size := by omega
          subst hkk
          go_wp2_with fail
          refine (TRI.out _).mono ?_
          rintro e w3 ⟨rfl, rfl⟩
          go_wp2_with fail
          rw [HX.out]
          go_returns
          exact ⟨rfl, (Below.refl _ _).alloc (Nat.le_refl _) _⟩
    · have hbt : t.toList.isEmpty = false := by rw [ByteArray.toList_eq]; simpa using ht0
      have HX := Lib.hid (HP4' ht0)
      clear HP3' HP4' ht0
      replace CUT := Lib.hid CUT
      replace TRI := Lib.hid TRI
      replace hget := Lib.hid hget
      go_enter Tryz.func183, Tryz.ntmps183
      go_wp2_with fail
      refine (CUT.out _).mono ?_
      rintro e w2 ⟨rfl, rfl⟩
      go_wp2_with fail
      go_loop [16] (fun i => ∃ k : Nat, k ≤ d.size ∧ i = .int .i64 (k : Int)) (fun i => d.size - (RowKit.intOf i).toNat)
      case atStart => exact ⟨0, Nat.zero_le _, rfl⟩
      case round =>
        obtain ⟨k, hk, rfl⟩ := hrel
        by_cases hlt : k < d.size
        · obtain ⟨g1, g2⟩ := hget.out k hlt
          go_wp2_with fail
          go_round
          case rel => exact ⟨k + 1, by omega, by go_num⟩
          case measure => simp [RowKit.intOf]; omega
        · have hkk : k = d.size := by omega
          subst hkk
          go_wp2_with fail
          refine (TRI.out _).mono ?_
          rintro e w3 ⟨rfl, rfl⟩
          go_wp2_with fail
          rw [HX.out]
          go_returns
          exact ⟨by rw [psV, list_baL], (Below.refl _ _).alloc (Nat.le_refl _) _⟩
  · have hdg2 : digsL d.data.toList = false := by simpa using hdg
    have HX := Lib.hid (HP2 hdg2)
    obtain ⟨j, hj, hjn, hall⟩ := digs_fault _ hdg2
    have hjs : j < d.size := by rw [← size_list]; exact hj
    have hjd : (d[j].toNat : Int) < 48 ∨ 57 < (d[j].toNat : Int) := isDig_no hjn
    have hget : ∀ (k : Nat) (hk : k < d.size), k < j → 48 ≤ (d[k].toNat : Int) ∧ (d[k].toNat : Int) ≤ 57 := fun k hk hkj => isDig_yes (hall k hkj (by simpa using hk))
    clear HP1 HP2 HP3 HP4 h0 hdg hdg2 hjn hall hj
    replace CUT := Lib.hid CUT
    replace TRI := Lib.hid TRI
    replace hget := Lib.hid hget
    rcases hjd with hjd | hjd
    all_goals
      go_enter Tryz.func183, Tryz.ntmps183
      go_wp2_with fail
      refine (CUT.out _).mono ?_
      rintro e w2 ⟨rfl, rfl⟩
      go_wp2_with fail
      go_loop [16] (fun i => ∃ k : Nat, k ≤ j ∧ i = .int .i64 (k : Int)) (fun i => d.size - (RowKit.intOf i).toNat)
      case atStart => exact ⟨0, Nat.zero_le _, rfl⟩
      case round =>
        obtain ⟨k, hk, rfl⟩ := hrel
        have hks : k < d.size := by omega
        by_cases hlt : k < j
        · obtain ⟨g1, g2⟩ := hget.out k hks hlt
          go_wp2_with fail
          go_round
          case rel => exact ⟨k + 1, by omega, by go_num⟩
          case measure => simp [RowKit.intOf]; omega
        · have hkk : k = j := by omega
          subst hkk
          have hq : 48 ≤ (d[k].toNat : Int) ∨ (d[k].toNat : Int) < 48 := by omega
          go_wp2_with fail
          rw [HX.out]
          go_returns
          exact ⟨rfl, (Below.refl _ _).alloc (Nat.le_refl _) _⟩
theorem fld1 (m : Bool) (d : ByteArray) : ∀ w : World, (Instr.field 231 (.agg #[.bool m, .string d]) 1).run Tryz.prog w = .ok (.string d) w := fun _ => by kernel_rfl
theorem rdD_other {l : List UInt8} (h : (psL l).2 ≠ l) : rdD l = (0, false) := by
  by_cases hg : l.length < 1 ∨ 18 < l.length ∨ (l.head? = some 48 ∧ 1 < l.length)
  · exact rdD_bad hg
  · rw [rdD_good hg]
    by_cases hd : digsL l = true
    · refine absurd ?_ h
      rw [ps_canon l ⟨fun e => hg (.inl (by rw [e]; simp)), hd, ?_⟩]
      by_cases h1 : l.length = 1
      · exact .inl h1
      · exact .inr fun e => hg (.inr (.inr ⟨e, by omega⟩))
    · rw [if_neg hd]
theorem rdD_canon {l : List UInt8} (h : Canon l) (h18 : l.length ≤ 18) : rdD l = (natV l, true) := by
  rw [rdD_good, if_pos h.2.1]
  rintro (h1 | h1 | ⟨h1, h2⟩)
  · exact h.1 (List.eq_nil_of_length_eq_zero (by omega))
  · omega
  · rcases h.2.2 with h3 | h3
    · omega
    · exact h3 h1
set_option maxRecDepth 4000 in
set_option maxHeartbeats 1600000 in
theorem w_readDigits (s : ByteArray) (w : World) (hs : s.size ≤ maxLen) : Calls Tryz.prog 168 #[.string s] w fun e w' => e = .returned (tupD (rdD s.data.toList)) ∧ Below w.heap.size w w' := by
  have CP := fun w => parse_any s w hs
  unfold maxLen at hs
  by_cases h0 : s.size = 0
  · have HX := Lib.hid (rdD_bad (l := s.data.toList) (.inl (by rw [size_list]; omega)))
    have hb : s.toList.isEmpty = true := by
      rw [ByteArray.toList_eq]
      rw [← size_list] at h0
      rw [List.eq_nil_of_length_eq_zero h0]
      rfl
    clear CP h0
    go_enter Tryz.func168, Tryz.ntmps168
    go_wp2_with fail
    go_ret2
    exact ⟨by rw [HX.out]; rfl, Below.refl _ _⟩
  have hb : s.toList.isEmpty = false := by
    rw [ByteArray.toList_eq, List.isEmpty_eq_false_iff]
    intro e
    rw [← size_list, e] at h0
    exact h0 rfl
  by_cases h18 : 18 < s.size
  · have HX := Lib.hid (rdD_bad (l := s.data.toList) (.inr (.inl (by rw [size_list]; omega))))
    clear CP h0
    go_enter Tryz.func168, Tryz.ntmps168
    go_wp2_with fail
    go_ret2
    exact ⟨by rw [HX.out]; rfl, Below.refl _ _⟩
  have h18' : s.size ≤ 18 := by omega
  clear h18 hs
  obtain ⟨q, hq⟩ : ∃ q, q = psL s.data.toList := ⟨_, rfl⟩
  have HN := fun h => rdD_other (l := s.data.toList) h
  have HS := ps_self s.data.toList
  rw [← hq] at HN HS
  simp only [← hq] at CP
  clear hq
  obtain ⟨m, l⟩ := q
  obtain ⟨d, hd⟩ : ∃ d, d = baL l := ⟨_, rfl⟩
  obtain rfl : l = d.data.toList := by rw [hd, baL_list]
  simp only [psV, ← hd] at CP
  clear hd
  have hf := fld1 m d
  by_cases he : d.data.toList = s.data.toList
  · have hC : Canon s.data.toList := by
      rcases HS he with h | h
      · exact absurd (by rw [← size_list, h]; rfl) h0
      · exact h
    have HX := Lib.hid (rdD_canon hC (by rw [size_list]; exact h18'))
    have hdig := Lib.hid (digs_get _ hC.2.1)
    have hall := Lib.hid hC.2.1
    have heq : (d.toList == s.toList) = true := by rw [ByteArray.toList_eq, ByteArray.toList_eq, he]; simp
    have hpos : 0 < s.size := by omega
    clear HN HS he hC h0
    replace CP := Lib.hid CP
    go_enter Tryz.func168, Tryz.ntmps168
    go_wp2_with fail
    refine (CP.out _).mono ?_
    rintro e w2 ⟨rfl, hb2⟩
    replace hb2 := Lib.hid hb2
    go_wp2_with fail
    go_loop [4, 22] (fun n i => ∃ k : Nat, k ≤ s.size ∧ i = .int .i64 (k : Int) ∧ n = .int .i64 ((natV (s.data.toList.take k) : Nat) : Int)) (fun _ i => s.size - (RowKit.intOf i).toNat)
    case atStart => exact ⟨0, Nat.zero_le _, rfl, rfl⟩
    case round =>
      obtain ⟨k, hk, rfl, hn⟩ := hrel
      obtain ⟨a, ha⟩ : ∃ a, a = natV (s.data.toList.take k) := ⟨_, rfl⟩
      rw [← ha] at hn
      obtain rfl := hn
      by_cases hlt : k < s.size
      · have hbd : a < 100000000000000000 := by
          have h1 := natV_lt (s.data.toList.take k) (by
            have := hall.out
            simp only [digsL, List.all_eq_true] at this ⊢
            exact fun x hx => this x (List.mem_of_mem_take hx))
          rw [← ha, List.length_take] at h1
          exact Nat.lt_of_lt_of_le h1 (show 10 ^ _ ≤ 10 ^ 17 from Nat.pow_le_pow_right (by decide) (by omega))
        obtain ⟨h48, h57⟩ := dig_le (hdig.out k (by simpa using hlt))
        have H5 : natV (s.data.toList.take (k + 1)) = a * 10 + (s[k].toNat - 48) := by rw [take_snocB s k hlt, natV_snoc, ha]; rfl
        rw [get_list s k hlt] at h48 h57
        replace H5 := Lib.hid H5
        clear ha
        go_wp2_with fail
        go_round
        case rel => exact ⟨k + 1, by omega, by go_num, by rw [H5.out]; go_num⟩
        case measure => simp [RowKit.intOf]; omega
      · have hkk : k = s.size := by omega
        subst hkk
        have HY : rdD s.data.toList = (a, true) := by
          rw [HX.out, ha, List.take_of_length_le (by simp)]
        replace HY := Lib.hid HY
        clear ha
        go_wp2_with fail
        go_ret2
        exact ⟨by rw [HY.out]; rfl, hb2.out⟩
  · have HX := Lib.hid (HN he)
    have heq : (d.toList == s.toList) = false := by rw [ByteArray.toList_eq, ByteArray.toList_eq, beq_eq_false_iff_ne]; exact he
    clear HN HS he h0
    replace CP := Lib.hid CP
    go_enter Tryz.func168, Tryz.ntmps168
    go_wp2_with fail
    refine (CP.out _).mono ?_
    rintro e w2 ⟨rfl, hb2⟩
    replace hb2 := Lib.hid hb2
    go_wp2_with fail
    go_ret2
    exact ⟨by rw [HX.out]; rfl, hb2.out⟩
/-- The table of powers of ten that strconv reads. -/
def Tab (w : World) : Prop := Lib.TabIs Tryz.prog w "internal/strconv.uint64pow10" .u64 Lib.pow10Tab
theorem Tab.below {w w' : World} (h : Tab w) (hb : Below w.heap.size w w') : Tab w' := by
  unfold Tab Lib.TabIs World.var? at *
  rw [Option.bind_eq_some_iff] at *
  obtain ⟨g, hg, h1⟩ := h
  refine ⟨g, hg, ?_⟩
  have hlt : g < w.heap.size := by
    rcases Nat.lt_or_ge g w.heap.size with h2 | h2
    · exact h2
    · rw [Array.getElem?_eq_none h2] at h1
      cases h1
  rw [hb.block g hlt]
  exact h1
end Go.Proofs.YtkffgdndglfcfaaGreatDoor.O7
