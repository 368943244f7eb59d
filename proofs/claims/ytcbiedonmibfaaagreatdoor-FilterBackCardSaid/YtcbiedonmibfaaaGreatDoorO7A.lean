/-
  The oid package's numbers.
-/
import Derived.Test.YtcbiedonmibfaaaGreatDoorDT
import Derived.Test.YtcbiedonmibfaaaGreatDoorRows
import Derived.Handy
import Derived.Lib.Hide
import Derived.Test.YtcbiedonmibfaaaGreatDoorShelf
import Derived.Lib.Strings
import Derived.Lib.TrimByte
import Derived.Lib.QuietBelow
import Derived.Lib.LaidTab
import Derived.Lib.AppendIntMem
namespace Go.Proofs.YtcbiedonmibfaaaGreatDoor.O7
open Go.RowKit Go.Lib
theorem size_list (s : ByteArray) : s.data.toList.length = s.size := by simp
theorem get_list (s : ByteArray) (k : Nat) (h : k < s.size) : s.data.toList[k]'(by simpa using h) = s[k] := rfl
theorem take_snocB (s : ByteArray) (k : Nat) (h : k < s.size) : s.data.toList.take (k + 1) = s.data.toList.take k ++ [s[k]] := by
 rw [List.take_succ_eq_append_getElem (by simpa using h)]; rfl
def rdD (l : List UInt8) : Nat × Bool :=
 if l.length < 1 ∨ 18 < l.length ∨ (l.head? = some 48 ∧ 1 < l.length) then (0, false) else if digsL l = true then (natV l, true) else (0, false)
def tupD (q : Nat × Bool) : Value := .tuple #[.int .i64 (q.1 : Int), .bool q.2]
theorem rdD_bad {l : List UInt8} (h : l.length < 1 ∨ 18 < l.length ∨ (l.head? = some 48 ∧ 1 < l.length)) : rdD l = (0, false) := if_pos h
theorem rdD_good {l : List UInt8} (h : ¬ (l.length < 1 ∨ 18 < l.length ∨ (l.head? = some 48 ∧ 1 < l.length))) : rdD l = if digsL l = true then (natV l, true) else (0, false) := if_neg h
theorem dig_le {c : UInt8} (h : isDig c = true) : 48 ≤ c.toNat ∧ c.toNat ≤ 57 := by
 simpa [isDig] using h
def baL (l : List UInt8) : ByteArray := ⟨l.toArray⟩
theorem baL_list (l : List UInt8) : (baL l).data.toList = l := rfl
theorem list_baL (s : ByteArray) : baL s.data.toList = s := rfl
end Go.Proofs.YtcbiedonmibfaaaGreatDoor.O7
namespace Go.Proofs.YtcbiedonmibfaaaGreatDoor.O7
open Go.Lib
open Go.RowKit Go.Lib
def psL (l : List UInt8) : Bool × List UInt8 := if validL l = true then (decide (valL l < 0), decDigits (valL l).natAbs) else (false, [])
theorem trim_dig : ∀ l : List UInt8, digsL l = true → trimLeftB l 48 = if natV l = 0 then [] else decDigits (natV l)
 | [], _ => by simp [trimLeftB, natV]
 | c :: r, hd => by
   by_cases hc : c = 48
   · subst hc
     have h2 : digsL r = true := by
      simp only [digsL, List.all_cons, Bool.and_eq_true] at hd
      exact hd.2
     have ih := trim_dig r h2
     rw [natV_cons, show dv 48 = 0 from rfl, Nat.zero_mul, Nat.zero_add, ← ih]
     simp [trimLeftB]
   · have hC : Canon (c :: r) := ⟨by simp, hd, .inr (by simpa using hc)⟩
     have h1 : 1 ≤ natV (c :: r) := by
      by_cases h1 : (c :: r).length = 1
      · have hr : r = [] := List.eq_nil_of_length_eq_zero (by simpa using h1)
        subst hr
        simp only [digsL, List.all_cons, List.all_nil, Bool.and_true, isDig, Bool.and_eq_true, decide_eq_true_eq] at hd
        have : c.toNat ≠ 48 := fun e => hc (UInt8.toNat_inj.1 (by rw [e]; rfl))
        rw [natV_cons]
        unfold dv
        simp [natV]
        omega
      · exact canon_pos hC h1
     rw [if_neg (by omega), dec_natV _ hC]
     simp [trimLeftB, hc]
theorem cut_minus (r : List UInt8) : hasPrefix (45 :: r) [45] = true ∧ trimPrefix (45 :: r) [45] = r := by simp [hasPrefix, trimPrefix]
theorem cut_plain (l : List UInt8) (h : l.head? ≠ some 45) : hasPrefix l [45] = false ∧ trimPrefix l [45] = l := by
 have e : hasPrefix l [45] = false := by
  rcases l with _ | ⟨c, r⟩
  · rfl
  · have hc : c ≠ 45 := by simpa using h
    show ((45 : UInt8) == c && [].isPrefixOf r) = false
    rw [beq_eq_false_iff_ne.2 (Ne.symm hc), Bool.false_and]
 exact ⟨e, by simp [trimPrefix, e]⟩
theorem ps_of (l : List UInt8) :
 (trimPrefix l [45] = [] → psL l = (false, [])) ∧ (digsL (trimPrefix l [45]) = false → psL l = (false, [])) ∧
 (trimPrefix l [45] ≠ [] → digsL (trimPrefix l [45]) = true → trimLeftB (trimPrefix l [45]) 48 = [] → psL l = (false, [48])) ∧
 (trimPrefix l [45] ≠ [] → digsL (trimPrefix l [45]) = true → trimLeftB (trimPrefix l [45]) 48 ≠ [] → psL l = (hasPrefix l [45], trimLeftB (trimPrefix l [45]) 48)) := by
 by_cases h45 : l.head? = some 45
 · obtain ⟨r, rfl⟩ : ∃ r, l = 45 :: r := by
    rcases l with _ | ⟨c, r⟩
    · cases h45
    · exact ⟨r, by simp at h45; rw [h45]⟩
   rw [(cut_minus r).1, (cut_minus r).2]
   have hv : validL (45 :: r) = (!r.isEmpty && digsL r) := by simp [validL]
   have hw : valL (45 :: r) = -(natV r : Int) := by simp [valL]
   refine ⟨?_, ?_, ?_, ?_⟩
   · rintro rfl
     rw [psL, if_neg (by rw [hv]; decide)]
   · intro h
     rw [psL, if_neg (by rw [hv, h]; simp)]
   · intro h0 hd ht
     have hn : natV r = 0 := by
      rw [trim_dig r hd] at ht
      by_cases h : natV r = 0
      · exact h
      · rw [if_neg h] at ht
        exact absurd ht (dec_ne _)
     rw [psL, if_pos (by rw [hv, hd]; simpa using h0), hw, hn]
     simp [decDigits_small]
   · intro h0 hd ht
     have hn : natV r ≠ 0 := by
      intro h
      rw [trim_dig r hd, if_pos h] at ht
      exact ht rfl
     rw [psL, if_pos (by rw [hv, hd]; simpa using h0), hw, trim_dig r hd, if_neg hn, decide_eq_true (by omega), show (-(natV r : Int)).natAbs = natV r from by omega]
 · rw [(cut_plain l h45).1, (cut_plain l h45).2]
   have hv : validL l = (!l.isEmpty && digsL l) := by
    rcases l with _ | ⟨c, r⟩
    · rfl
    · have hc : c ≠ 45 := by simpa using h45
      simp [validL, hc]
   have hw : valL l = (natV l : Int) := by
    rcases l with _ | ⟨c, r⟩
    · rfl
    · have hc : c ≠ 45 := by simpa using h45
      simp [valL, hc]
   refine ⟨?_, ?_, ?_, ?_⟩
   · rintro rfl
     rfl
   · intro h
     rw [psL, if_neg (by rw [hv, h]; simp)]
   · intro h0 hd ht
     have hn : natV l = 0 := by
      rw [trim_dig l hd] at ht
      by_cases h : natV l = 0
      · exact h
      · rw [if_neg h] at ht
        exact absurd ht (dec_ne _)
     rw [psL, if_pos (by rw [hv, hd]; simpa using h0), hw, hn]
     simp [decDigits_small]
   · intro h0 hd ht
     have hn : natV l ≠ 0 := by
      intro h
      rw [trim_dig l hd, if_pos h] at ht
      exact ht rfl
     rw [psL, if_pos (by rw [hv, hd]; simpa using h0), hw, trim_dig l hd, if_neg hn, decide_eq_false (by omega), show ((natV l : Int)).natAbs = natV l from by omega]
theorem ps_none {l : List UInt8} (h : validL l = false) : psL l = (false, []) := by rw [psL, if_neg (by rw [h]; decide)]
theorem ps_some {l : List UInt8} (h : validL l = true) : psL l = (decide (valL l < 0), decDigits (valL l).natAbs) := if_pos h
theorem ps_self (l : List UInt8) (h : (psL l).2 = l) : l = [] ∨ Canon l := by
 by_cases hv : validL l = true
 · right
   rw [ps_some hv] at h
   have h2 : decDigits (valL l).natAbs = l := h
   have := canon_dec (valL l).natAbs
   rw [h2] at this
   exact this
 · have h2 : validL l = false := by simpa using hv
   rw [ps_none h2] at h
   exact .inl h.symm
theorem ps_canon (l : List UInt8) (h : Canon l) : psL l = (false, l) := by
 have hd := dec_natV l h
 have hl : l.head? ≠ some 45 := by
  rw [← hd]
  exact dec_head _
 have hv : validL l = true := by
  rcases l with _ | ⟨c, r⟩
  · exact absurd rfl h.1
  · have hc : c ≠ 45 := by simpa using hl
    simp [validL, hc]
    exact h.2.1
 have hw : valL l = (natV l : Int) := by
  rcases l with _ | ⟨c, r⟩
  · rfl
  · have hc : c ≠ 45 := by simpa using hl
    simp [valL, hc]
 rw [ps_some hv, hw, decide_eq_false (by omega), show ((natV l : Int)).natAbs = natV l from by omega, hd]
def psV (q : Bool × List UInt8) : Value := .agg #[.bool q.1, .string (baL q.2)]
theorem digs_fault (l : List UInt8) (h : digsL l = false) : ∃ (k : Nat) (hk : k < l.length), isDig l[k] = false ∧ ∀ (j : Nat) (_ : j < k) (hj : j < l.length), isDig l[j] = true := by
 induction l with
 | nil => cases h
 | cons c r ih =>
   by_cases hc : isDig c = true
   · have h2 : digsL r = false := by
      simp only [digsL, List.all_cons, hc, Bool.true_and] at h
      exact h
     obtain ⟨k, hk, h1, h3⟩ := ih h2
     refine ⟨k + 1, by simp; exact hk, by simpa using h1, fun j hj hjl => ?_⟩
     rcases j with _ | j
     · exact hc
     · simpa using h3 j (by omega) (by simpa using hjl)
   · exact ⟨0, by simp, by simpa using hc, fun j hj => absurd hj (by omega)⟩
theorem digs_get (l : List UInt8) (h : digsL l = true) (k : Nat) (hk : k < l.length) : isDig l[k] = true := by
 simp only [digsL, List.all_eq_true] at h
 exact h _ (List.getElem_mem hk)
theorem isDig_no {c : UInt8} (h : isDig c = false) : ((c.toNat : Int) < 48) ∨ (57 < (c.toNat : Int)) := by
 by_cases h1 : c.toNat < 48
 · left; omega
 · right
   simp only [isDig, Bool.and_eq_false_iff, decide_eq_false_iff_not] at h
   omega
theorem isDig_yes {c : UInt8} (h : isDig c = true) : (48 ≤ (c.toNat : Int)) ∧ ((c.toNat : Int) ≤ 57) := by
 simp only [isDig, Bool.and_eq_true, decide_eq_true_eq] at h
 omega
set_option maxRecDepth 4000 in
set_option maxHeartbeats 800000 in
theorem parse_any (s : ByteArray) (w : World) (hs : s.size ≤ maxLen) :
 Calls Tryz.prog 238 #[.string s] w fun e w' => e = .returned (psV (psL s.data.toList)) ∧ Below w.heap.size w w' := by
 unfold maxLen at hs
 have HP := ps_of s.data.toList
 obtain ⟨d, hd⟩ : ∃ d, d = baL (trimPrefix s.data.toList [45]) := ⟨_, rfl⟩
 obtain ⟨t, ht⟩ : ∃ t, t = baL (trimLeftB (trimPrefix s.data.toList [45]) 48) := ⟨_, rfl⟩
 obtain ⟨m, hm⟩ : ∃ m, m = hasPrefix s.data.toList [45] := ⟨_, rfl⟩
 have hdl : trimPrefix s.data.toList [45] = d.data.toList := by rw [hd, baL_list]
 have htl : trimLeftB d.data.toList 48 = t.data.toList := by rw [ht, hd, baL_list, baL_list]
 have CUT : ∀ w, Calls Tryz.prog 110 #[.string s, .string { data := #[45] }] w fun e w' => e = .returned (.tuple #[.string d, .bool m]) ∧ w' = w := by rw [hd, hm]; exact Tryz.strings_CutPrefix s { data := #[45] }
 have TRI : ∀ w, Calls Tryz.prog 254 #[.string d, .string { data := #[48] }] w fun e w' => e = .returned (.string t) ∧ w' = w := fun w => by
  have := Tryz.strings_TrimLeft_one d 48 (by decide) w
  rw [htl] at this
  exact this
 have hds : d.size ≤ 9223372036854775807 := by
  have h1 : (trimPrefix s.data.toList [45]).length ≤ s.data.toList.length := by
   unfold trimPrefix
   split
   · rw [List.length_drop]; omega
   · omega
  rw [hdl, size_list, size_list] at h1
  omega
 rw [hdl, htl, ← hm] at HP
 obtain ⟨X, hX⟩ : ∃ X, X = psL s.data.toList := ⟨_, rfl⟩
 rw [← hX] at HP ⊢
 obtain ⟨HP1, HP2, HP3, HP4⟩ := HP
 clear hd ht hm hdl htl hX
 by_cases h0 : d.data.toList = []
 · have hb0 : d.toList.isEmpty = true := by rw [ByteArray.toList_eq, h0]; rfl
   have HX := Lib.hid (HP1 h0)
   clear HP1 HP2 HP3 HP4 h0
   replace CUT := Lib.hid CUT
   replace TRI := Lib.hid TRI
   go_enter Tryz.func238, Tryz.ntmps238
   go_wp2_with fail
   refine (CUT.out _).mono ?_
   rintro e w2 ⟨rfl, rfl⟩
   go_wp2_with fail
   rw [HX.out]
   go_returns
   exact ⟨rfl, (Below.refl _ _).alloc (Nat.le_refl _) _⟩
 have hb0 : d.toList.isEmpty = false := by rw [ByteArray.toList_eq]; simpa using h0
 have hpos : 0 < d.size := by rw [← size_list]; exact List.length_pos_iff.2 h0
 by_cases hdg : digsL d.data.toList = true
 · have hget : ∀ (k : Nat) (hk : k < d.size), 48 ≤ (d[k].toNat : Int) ∧ (d[k].toNat : Int) ≤ 57 := fun k hk => isDig_yes (digs_get _ hdg k (by simpa using hk))
   have HP3' := HP3 h0 hdg
   have HP4' := HP4 h0 hdg
   clear HP1 HP2 HP3 HP4 h0 hdg
   by_cases ht0 : t.data.toList = []
   · have hbt : t.toList.isEmpty = true := by rw [ByteArray.toList_eq, ht0]; rfl
     have HX := Lib.hid (HP3' ht0)
     clear HP3' HP4' ht0
     replace CUT := Lib.hid CUT
     replace TRI := Lib.hid TRI
     replace hget := Lib.hid hget
     go_enter Tryz.func238, Tryz.ntmps238
     go_wp2_with fail
     refine (CUT.out _).mono ?_
     rintro e w2 ⟨rfl, rfl⟩
     go_wp2_with fail
     go_loop [16] (fun i => ∃ k : Nat, k ≤ d.size ∧ i = .int .i64 (k : Int)) (fun i => d.size - (RowKit.intOf i).toNat)
     case atStart => exact ⟨0, Nat.zero_le _, rfl⟩
     case round =>
      obtain ⟨k, hk, rfl⟩ := hrel
      by_cases hlt : k < d.size
      · obtain ⟨g1, g2⟩ := hget.out k hlt
        go_wp2_with fail
        go_round
        case rel => exact ⟨k + 1, by omega, by go_num⟩
        case measure => simp [RowKit.intOf]; omega
      · have hkk : k = d.size := by omega
        subst hkk
        go_wp2_with fail
        refine (TRI.out _).mono ?_
        rintro e w3 ⟨rfl, rfl⟩
        go_wp2_with fail
        rw [HX.out]
        go_returns
        exact ⟨rfl, (Below.refl _ _).alloc (Nat.le_refl _) _⟩
   · have hbt : t.toList.isEmpty = false := by rw [ByteArray.toList_eq]; simpa using ht0
     have HX := Lib.hid (HP4' ht0)
     clear HP3' HP4' ht0
     replace CUT := Lib.hid CUT
     replace TRI := Lib.hid TRI
     replace hget := Lib.hid hget
     go_enter Tryz.func238, Tryz.ntmps238
     go_wp2_with fail
     refine (CUT.out _).mono ?_
     rintro e w2 ⟨rfl, rfl⟩
     go_wp2_with fail
     go_loop [16] (fun i => ∃ k : Nat, k ≤ d.size ∧ i = .int .i64 (k : Int)) (fun i => d.size - (RowKit.intOf i).toNat)
     case atStart => exact ⟨0, Nat.zero_le _, rfl⟩
     case round =>
      obtain ⟨k, hk, rfl⟩ := hrel
      by_cases hlt : k < d.size
      · obtain ⟨g1, g2⟩ := hget.out k hlt
        go_wp2_with fail
        go_round
        case rel => exact ⟨k + 1, by omega, by go_num⟩
        case measure => simp [RowKit.intOf]; omega
      · have hkk : k = d.size := by omega
        subst hkk
        go_wp2_with fail
        refine (TRI.out _).mono ?_
        rintro e w3 ⟨rfl, rfl⟩
        go_wp2_with fail
        rw [HX.out]
        go_returns
        exact ⟨by rw [psV, list_baL], (Below.refl _ _).alloc (Nat.le_refl _) _⟩
 · have hdg2 : digsL d.data.toList = false := by simpa using hdg
   have HX := Lib.hid (HP2 hdg2)
   obtain ⟨j, hj, hjn, hall⟩ := digs_fault _ hdg2
   have hjs : j < d.size := by rw [← size_list]; exact hj
   have hjd : (d[j].toNat : Int) < 48 ∨ 57 < (d[j].toNat : Int) := isDig_no hjn
   have hget : ∀ (k : Nat) (hk : k < d.size), k < j → 48 ≤ (d[k].toNat : Int) ∧ (d[k].toNat : Int) ≤ 57 := fun k hk hkj => isDig_yes (hall k hkj (by simpa using hk))
   clear HP1 HP2 HP3 HP4 h0 hdg hdg2 hjn hall hj
   replace CUT := Lib.hid CUT
   replace TRI := Lib.hid TRI
   replace hget := Lib.hid hget
   rcases hjd with hjd | hjd
   all_goals
    go_enter Tryz.func238, Tryz.ntmps238
    go_wp2_with fail
    refine (CUT.out _).mono ?_
    rintro e w2 ⟨rfl, rfl⟩
    go_wp2_with fail
    go_loop [16] (fun i => ∃ k : Nat, k ≤ j ∧ i = .int .i64 (k : Int)) (fun i => d.size - (RowKit.intOf i).toNat)
    case atStart => exact ⟨0, Nat.zero_le _, rfl⟩
    case round =>
     obtain ⟨k, hk, rfl⟩ := hrel
     have hks : k < d.size := by omega
     by_cases hlt : k < j
     · obtain ⟨g1, g2⟩ := hget.out k hks hlt
       go_wp2_with fail
       go_round
       case rel => exact ⟨k + 1, by omega, by go_num⟩
       case measure => simp [RowKit.intOf]; omega
     · have hkk : k = j := by omega
       subst hkk
       have hq : 48 ≤ (d[k].toNat : Int) ∨ (d[k].toNat : Int) < 48 := by omega
       go_wp2_with fail
       rw [HX.out]
       go_returns
       exact ⟨rfl, (Below.refl _ _).alloc (Nat.le_refl _) _⟩
theorem fld1 (m : Bool) (d : ByteArray) : ∀ w : World, (Instr.field 302 (.agg #[.bool m, .string d]) 1).run Tryz.prog w = .ok (.string d) w := fun _ => by kernel_rfl
theorem rdD_other {l : List UInt8} (h : (psL l).2 ≠ l) : rdD l = (0, false) := by
 by_cases hg : l.length < 1 ∨ 18 < l.length ∨ (l.head? = some 48 ∧ 1 < l.length)
 · exact rdD_bad hg
 · rw [rdD_good hg]
   by_cases hd : digsL l = true
   · refine absurd ?_ h
     rw [ps_canon l ⟨fun e => hg (.inl (by rw [e]; simp)), hd, ?_⟩]
     by_cases h1 : l.length = 1
     · exact .inl h1
     · exact .inr fun e => hg (.inr (.inr ⟨e, by omega⟩))
   · rw [if_neg hd]
theorem rdD_canon {l : List UInt8} (h : Canon l) (h18 : l.length ≤ 18) : rdD l = (natV l, true) := by
 rw [rdD_good, if_pos h.2.1]
 rintro (h1 | h1 | ⟨h1, h2⟩)
 · exact h.1 (List.eq_nil_of_length_eq_zero (by omega))
 · omega
 · rcases h.2.2 with h3 | h3
   · omega
   · exact h3 h1
set_option maxRecDepth 4000 in
set_option maxHeartbeats 1600000 in
theorem w_readDigits (s : ByteArray) (w : World) (hs : s.size ≤ maxLen) : Calls Tryz.prog 227 #[.string s] w fun e w' => e = .returned (tupD (rdD s.data.toList)) ∧ Below w.heap.size w w' := by
 have CP := fun w => parse_any s w hs
 unfold maxLen at hs
 by_cases h0 : s.size = 0
 · have HX := Lib.hid (rdD_bad (l := s.data.toList) (.inl (by rw [size_list]; omega)))
   have hb : s.toList.isEmpty = true := by
    rw [ByteArray.toList_eq]
    rw [← size_list] at h0
    rw [List.eq_nil_of_length_eq_zero h0]
    rfl
   clear CP h0
   go_enter Tryz.func227, Tryz.ntmps227
   go_wp2_with fail
   go_ret2
   exact ⟨by rw [HX.out]; rfl, Below.refl _ _⟩
 have hb : s.toList.isEmpty = false := by
  rw [ByteArray.toList_eq, List.isEmpty_eq_false_iff]
  intro e
  rw [← size_list, e] at h0
  exact h0 rfl
 by_cases h18 : 18 < s.size
 · have HX := Lib.hid (rdD_bad (l := s.data.toList) (.inr (.inl (by rw [size_list]; omega))))
   clear CP h0
   go_enter Tryz.func227, Tryz.ntmps227
   go_wp2_with fail
   go_ret2
   exact ⟨by rw [HX.out]; rfl, Below.refl _ _⟩
 have h18' : s.size ≤ 18 := by omega
 clear h18 hs
 obtain ⟨q, hq⟩ : ∃ q, q = psL s.data.toList := ⟨_, rfl⟩
 have HN := fun h => rdD_other (l := s.data.toList) h
 have HS := ps_self s.data.toList
 rw [← hq] at HN HS
 simp only [← hq] at CP
 clear hq
 obtain ⟨m, l⟩ := q
 obtain ⟨d, hd⟩ : ∃ d, d = baL l := ⟨_, rfl⟩
 obtain rfl : l = d.data.toList := by rw [hd, baL_list]
 simp only [psV, ← hd] at CP
 clear hd
 have hf := fld1 m d
 by_cases he : d.data.toList = s.data.toList
 · have hC : Canon s.data.toList := by
    rcases HS he with h | h
    · exact absurd (by rw [← size_list, h]; rfl) h0
    · exact h
   have HX := Lib.hid (rdD_canon hC (by rw [size_list]; exact h18'))
   have hdig := Lib.hid (digs_get _ hC.2.1)
   have hall := Lib.hid hC.2.1
   have heq : (d.toList == s.toList) = true := by rw [ByteArray.toList_eq, ByteArray.toList_eq, he]; simp
   have hpos : 0 < s.size := by omega
   clear HN HS he hC h0
   replace CP := Lib.hid CP
   go_enter Tryz.func227, Tryz.ntmps227
   go_wp2_with fail
   refine (CP.out _).mono ?_
   rintro e w2 ⟨rfl, hb2⟩
   replace hb2 := Lib.hid hb2
   go_wp2_with fail
   go_loop [4, 22] (fun n i => ∃ k : Nat, k ≤ s.size ∧ i = .int .i64 (k : Int) ∧ n = .int .i64 ((natV (s.data.toList.take k) : Nat) : Int)) (fun _ i => s.size - (RowKit.intOf i).toNat)
   case atStart => exact ⟨0, Nat.zero_le _, rfl, rfl⟩
   case round =>
    obtain ⟨k, hk, rfl, hn⟩ := hrel
    obtain ⟨a, ha⟩ : ∃ a, a = natV (s.data.toList.take k) := ⟨_, rfl⟩
    rw [← ha] at hn
    obtain rfl := hn
    by_cases hlt : k < s.size
    · have hbd : a < 100000000000000000 := by
       have h1 := natV_lt (s.data.toList.take k) (by
        have := hall.out
        simp only [digsL, List.all_eq_true] at this ⊢
        exact fun x hx => this x (List.mem_of_mem_take hx))
       rw [← ha, List.length_take] at h1
       exact Nat.lt_of_lt_of_le h1 (show 10 ^ _ ≤ 10 ^ 17 from Nat.pow_le_pow_right (by decide) (by omega))
      obtain ⟨h48, h57⟩ := dig_le (hdig.out k (by simpa using hlt))
      have H5 : natV (s.data.toList.take (k + 1)) = a * 10 + (s[k].toNat - 48) := by rw [take_snocB s k hlt, natV_snoc, ha]; rfl
      rw [get_list s k hlt] at h48 h57
      replace H5 := Lib.hid H5
      clear ha
      go_wp2_with fail
      go_round
      case rel => exact ⟨k + 1, by omega, by go_num, by rw [H5.out]; go_num⟩
      case measure => simp [RowKit.intOf]; omega
    · have hkk : k = s.size := by omega
      subst hkk
      have HY : rdD s.data.toList = (a, true) := by
       rw [HX.out, ha, List.take_of_length_le (by simp)]
      replace HY := Lib.hid HY
      clear ha
      go_wp2_with fail
      go_ret2
      exact ⟨by rw [HY.out]; rfl, hb2.out⟩
 · have HX := Lib.hid (HN he)
   have heq : (d.toList == s.toList) = false := by rw [ByteArray.toList_eq, ByteArray.toList_eq, beq_eq_false_iff_ne]; exact he
   clear HN HS he h0
   replace CP := Lib.hid CP
   go_enter Tryz.func227, Tryz.ntmps227
   go_wp2_with fail
   refine (CP.out _).mono ?_
   rintro e w2 ⟨rfl, hb2⟩
   replace hb2 := Lib.hid hb2
   go_wp2_with fail
   go_ret2
   exact ⟨by rw [HX.out]; rfl, hb2.out⟩
end Go.Proofs.YtcbiedonmibfaaaGreatDoor.O7
