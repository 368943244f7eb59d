/-
  The program's Valid, Plain, Compare, ReadDigits and Digits.
-/
import Derived.Test.YthdiaghkpolonaaDoorWLess
import Derived.Test.YthdiaghkpolonaaDoorRefNum
import Derived.Test.YthdiaghkpolonaaDoorRefDig
import Derived.Lib.LaidTab
import Derived.Lib.AppendIntMem
namespace Go.Proofs.YthdiaghkpolonaaDoor
open Go.RowKit Go.Lib

theorem fld1 (m : Bool) (d : ByteArray) : ∀ w : World, (Instr.field 40 (.agg #[.bool m, .string d]) 1).run Tryd.prog w = .ok (.string d) w := fun _ => by kernel_rfl

theorem w_valid (s : ByteArray) (w : World) (hs : s.size ≤ maxLen) : Calls Tryd.prog 11 #[.string s] w fun e w' => e = .returned (.bool (validL s.data.toList)) ∧ Below w.heap.size w w' := by
  have CP := fun w => parse_any s w hs
  have HV := ps_valid s.data.toList
  obtain ⟨q, hq⟩ : ∃ q, q = psL s.data.toList := ⟨_, rfl⟩
  obtain ⟨v, hv⟩ : ∃ v, v = validL s.data.toList := ⟨_, rfl⟩
  rw [← hq, ← hv] at HV
  rw [← hv]
  simp only [← hq] at CP
  clear hq hv
  obtain ⟨m, l⟩ := q
  obtain ⟨d, hd⟩ : ∃ d, d = baL l := ⟨_, rfl⟩
  have hl : l = d.data.toList := by rw [hd, baL_list]
  simp only [psV, ← hd] at CP
  have hb : d.toList.isEmpty = !v := by
    rw [ByteArray.toList_eq, ← hl]
    cases v
    · rw [show l = [] from HV.2 rfl]; rfl
    · simp
      intro e
      have := HV.1 e
      cases this
  clear HV hl hd hs
  have hf := fld1 m d
  replace CP := Lib.hid CP
  cases v
  all_goals
    go_enter Tryd.func11, Tryd.ntmps11
    go_wp2_with fail
    refine (CP.out _).mono ?_
    rintro e w2 ⟨rfl, hb2⟩
    replace hb2 := Lib.hid hb2
    go_wp2_with fail
    go_ret
    exact ⟨rfl, hb2.out⟩

set_option maxHeartbeats 800000 in
theorem w_plain (s : ByteArray) (w : World) (hs : s.size ≤ 140737488351232) : Calls Tryd.prog 13 #[.string s] w fun e w' => e = .returned (.string (baL (plainL s.data.toList))) ∧ Below w.heap.size w w' := by
  have CP := fun w => parse_any s w (by unfold maxLen; omega)
  have HV := ps_plain s.data.toList
  have HL := ps_len s.data.toList
  obtain ⟨q, hq⟩ : ∃ q, q = psL s.data.toList := ⟨_, rfl⟩
  obtain ⟨X, hX⟩ : ∃ X, X = plainL s.data.toList := ⟨_, rfl⟩
  rw [← hq, ← hX] at HV
  rw [← hq, size_list] at HL
  rw [← hX]
  simp only [← hq] at CP
  clear hq hX
  obtain ⟨m, l⟩ := q
  obtain ⟨d, hd⟩ : ∃ d, d = baL l := ⟨_, rfl⟩
  have hl : l = d.data.toList := by rw [hd, baL_list]
  simp only [psV, ← hd] at CP
  have hds : d.size ≤ 140737488351233 := by
    rw [← size_list, ← hl]
    have : l.length ≤ s.size + 1 := HL
    omega
  have CC : ∀ w, Calls Tryd.prog 28 #[.string d] w fun e w' => e = .returned (.string d) ∧ Below w.heap.size w w' := fun w => Tryd.stringslite_Clone d w (by omega)
  replace CP := Lib.hid CP
  replace CC := Lib.hid CC
  clear hd
  cases m
  · have HX : X = l := HV
    subst HX
    rw [hl, list_baL]
    clear HV hl HL
    go_enter Tryd.func13, Tryd.ntmps13
    go_wp2_with fail
    refine (CP.out _).mono ?_
    rintro e w2 ⟨rfl, hb2⟩
    replace hb2 := Lib.hid hb2
    go_wp2_with (first | (go_at_call 28; refine (CC.out _).mono ?_; rintro e w3 ⟨rfl, hb3⟩; replace hb3 := Lib.hid hb3) | go_in)
    go_ret
    exact ⟨rfl, (hb2.out.alloc hb2.out.size _).trans (hb3.out.mono (by have := hb2.out.size; simp; omega))⟩
  · have HX : X = 45 :: l := HV
    subst HX
    have e : baL (45 :: l) = { data := #[45] } ++ d := by
      refine (eq_baL ?_).symm
      rw [ByteArray.data_append, Array.toList_append, ← hl]
      rfl
    rw [e]
    clear HV hl HL e
    go_enter Tryd.func13, Tryd.ntmps13
    go_wp2_with fail
    refine (CP.out _).mono ?_
    rintro e w2 ⟨rfl, hb2⟩
    replace hb2 := Lib.hid hb2
    go_wp2_with fail
    go_ret
    exact ⟨rfl, hb2.out.alloc hb2.out.size _⟩

set_option maxRecDepth 4000 in
set_option maxHeartbeats 1600000 in
theorem w_compare (s t : ByteArray) (w : World) (hs : s.size ≤ maxLen) (ht : t.size ≤ maxLen) : Calls Tryd.prog 15 #[.string s, .string t] w fun e w' => e = .returned (.int .i64 (cmpL s.data.toList t.data.toList)) ∧ Below w.heap.size w w' := by
  have CP := fun w => parse_any s w hs
  have CQ := fun w => parse_any t w ht
  have HC := ps_cmp s.data.toList t.data.toList
  obtain ⟨x, hx⟩ : ∃ x, x = psL s.data.toList := ⟨_, rfl⟩
  obtain ⟨y, hy⟩ : ∃ y, y = psL t.data.toList := ⟨_, rfl⟩
  rw [← hx, ← hy, psCmp_less] at HC
  rw [← HC]
  simp only [← hx] at CP
  simp only [← hy] at CQ
  clear HC hx hy hs ht
  obtain ⟨m, l⟩ := x
  obtain ⟨n, k⟩ := y
  obtain ⟨p, hp⟩ : ∃ p, p = baL l := ⟨_, rfl⟩
  obtain ⟨q, hq⟩ : ∃ q, q = baL k := ⟨_, rfl⟩
  obtain rfl : l = p.data.toList := by rw [hp, baL_list]
  obtain rfl : k = q.data.toList := by rw [hq, baL_list]
  have CL := fun w => less_any m n p q w
  simp only [psV, ← hp] at CP
  simp only [psV, ← hq] at CQ
  clear hp hq
  obtain ⟨z, hz⟩ : ∃ z, z = lessB m n p.data.toList q.data.toList := ⟨_, rfl⟩
  obtain ⟨X, hX⟩ : ∃ X : Int, X = (if (m, p.data.toList) = (n, q.data.toList) then 0 else if lessB m n p.data.toList q.data.toList = true then -1 else 1) := ⟨_, rfl⟩
  show Calls _ _ _ _ fun e w' => e = .returned (.int .i64 (if (m, p.data.toList) = (n, q.data.toList) then 0 else if lessB m n p.data.toList q.data.toList = true then -1 else 1)) ∧ Below w.heap.size w w'
  rw [← hX]
  rw [← hz] at hX
  simp only [← hz] at CL
  clear hz
  have main : ∀ b : Bool, (p.toList == q.toList) = b → (m = n → b = true → X = 0) → (¬ (m = n ∧ b = true) → X = if z = true then -1 else 1) → Calls Tryd.prog 15 #[.string s, .string t] w fun e w' => e = .returned (.int .i64 X) ∧ Below w.heap.size w w' := by
    intro b hb h1 h2
    clear hX
    replace CP := Lib.hid CP
    replace CQ := Lib.hid CQ
    replace CL := Lib.hid CL
    cases m <;> cases n <;> cases b <;> cases z
    all_goals
      simp at h1 h2
      subst X
      go_enter Tryd.func15, Tryd.ntmps15
      go_wp2_with fail
      refine (CP.out _).mono ?_
      rintro e w2 ⟨rfl, hb2⟩
      replace hb2 := Lib.hid hb2
      go_wp2_with fail
      refine (CQ.out _).mono ?_
      rintro e w3 ⟨rfl, hb3⟩
      replace hb3 := Lib.hid (hb2.out.trans (hb3.mono hb2.out.size))
      go_wp2_with (refine (CL.out _).mono ?_; rintro e w4 ⟨rfl, hb4⟩; replace hb4 := Lib.hid hb4)
      go_ret
      first
        | exact ⟨rfl, (hb3.out.alloc hb3.out.size _).alloc (by have := hb3.out.size; simp; omega) _⟩
        | exact ⟨rfl, ((hb3.out.alloc hb3.out.size _).alloc (by have := hb3.out.size; simp; omega) _).trans (hb4.out.mono (by have := hb3.out.size; simp; omega))⟩
  refine main _ rfl ?_ ?_
  · intro e1 e2
    rw [hX, if_pos]
    rw [e1]
    rw [beq_iff_eq, ByteArray.toList_eq, ByteArray.toList_eq] at e2
    rw [e2]
  · intro e
    rw [hX, if_neg]
    intro e2
    injection e2 with e3 e4
    exact e ⟨e3, by rw [beq_iff_eq, ByteArray.toList_eq, ByteArray.toList_eq, e4]⟩

theorem rdD_other {l : List UInt8} (h : (psL l).2 ≠ l) : rdD l = (0, false) := by
  by_cases hg : l.length < 1 ∨ 18 < l.length ∨ (l.head? = some 48 ∧ 1 < l.length)
  · exact rdD_bad hg
  · rw [rdD_good hg]
    by_cases hd : digsL l = true
    · refine absurd ?_ h
      rw [ps_canon l ⟨fun e => hg (.inl (by rw [e]; simp)), hd, ?_⟩]
      by_cases h1 : l.length = 1
      · exact .inl h1
      · exact .inr fun e => hg (.inr (.inr ⟨e, by omega⟩))
    · rw [if_neg hd]
theorem rdD_canon {l : List UInt8} (h : Canon l) (h18 : l.length ≤ 18) : rdD l = (natV l, true) := by
  rw [rdD_good, if_pos h.2.1]
  rintro (h1 | h1 | ⟨h1, h2⟩)
  · exact h.1 (List.eq_nil_of_length_eq_zero (by omega))
  · omega
  · rcases h.2.2 with h3 | h3
    · omega
    · exact h3 h1

set_option maxRecDepth 4000 in
set_option maxHeartbeats 1600000 in
theorem w_readDigits (s : ByteArray) (w : World) (hs : s.size ≤ maxLen) : Calls Tryd.prog 7 #[.string s] w fun e w' => e = .returned (tupD (rdD s.data.toList)) ∧ Below w.heap.size w w' := by
  have CP := fun w => parse_any s w hs
  unfold maxLen at hs
  by_cases h0 : s.size = 0
  · have HX := Lib.hid (rdD_bad (l := s.data.toList) (.inl (by rw [size_list]; omega)))
    have hb : s.toList.isEmpty = true := by
      rw [ByteArray.toList_eq]
      rw [← size_list] at h0
      rw [List.eq_nil_of_length_eq_zero h0]
      rfl
    clear CP h0
    go_enter Tryd.func7, Tryd.ntmps7
    go_wp2_with fail
    go_ret2
    exact ⟨by rw [HX.out]; rfl, Below.refl _ _⟩
  have hb : s.toList.isEmpty = false := by
    rw [ByteArray.toList_eq, List.isEmpty_eq_false_iff]
    intro e
    rw [← size_list, e] at h0
    exact h0 rfl
  by_cases h18 : 18 < s.size
  · have HX := Lib.hid (rdD_bad (l := s.data.toList) (.inr (.inl (by rw [size_list]; omega))))
    clear CP h0
    go_enter Tryd.func7, Tryd.ntmps7
    go_wp2_with fail
    go_ret2
    exact ⟨by rw [HX.out]; rfl, Below.refl _ _⟩
  have h18' : s.size ≤ 18 := by omega
  clear h18 hs
  obtain ⟨q, hq⟩ : ∃ q, q = psL s.data.toList := ⟨_, rfl⟩
  have HN := fun h => rdD_other (l := s.data.toList) h
  have HS := ps_self s.data.toList
  rw [← hq] at HN HS
  simp only [← hq] at CP
  clear hq
  obtain ⟨m, l⟩ := q
  obtain ⟨d, hd⟩ : ∃ d, d = baL l := ⟨_, rfl⟩
  obtain rfl : l = d.data.toList := by rw [hd, baL_list]
  simp only [psV, ← hd] at CP
  clear hd
  have hf := fld1 m d
  by_cases he : d.data.toList = s.data.toList
  · have hC : Canon s.data.toList := by
      rcases HS he with h | h
      · exact absurd (by rw [← size_list, h]; rfl) h0
      · exact h
    have HX := Lib.hid (rdD_canon hC (by rw [size_list]; exact h18'))
    have hdig := Lib.hid (digs_get _ hC.2.1)
    have hall := Lib.hid hC.2.1
    have heq : (d.toList == s.toList) = true := by rw [ByteArray.toList_eq, ByteArray.toList_eq, he]; simp
    have hpos : 0 < s.size := by omega
    clear HN HS he hC h0
    replace CP := Lib.hid CP
    go_enter Tryd.func7, Tryd.ntmps7
    go_wp2_with fail
    refine (CP.out _).mono ?_
    rintro e w2 ⟨rfl, hb2⟩
    replace hb2 := Lib.hid hb2
    go_wp2_with fail
    go_loop [4, 22] (fun n i => ∃ k : Nat, k ≤ s.size ∧ i = .int .i64 (k : Int) ∧ n = .int .i64 ((natV (s.data.toList.take k) : Nat) : Int)) (fun _ i => s.size - (RowKit.intOf i).toNat)
    case atStart => exact ⟨0, Nat.zero_le _, rfl, rfl⟩
    case round =>
      obtain ⟨k, hk, rfl, hn⟩ := hrel
      obtain ⟨a, ha⟩ : ∃ a, a = natV (s.data.toList.take k) := ⟨_, rfl⟩
      rw [← ha] at hn
      obtain rfl := hn
      by_cases hlt : k < s.size
      · have hbd : a < 100000000000000000 := by
          have h1 := natV_lt (s.data.toList.take k) (by
            have := hall.out
            simp only [digsL, List.all_eq_true] at this ⊢
            exact fun x hx => this x (List.mem_of_mem_take hx))
          rw [← ha, List.length_take] at h1
          exact Nat.lt_of_lt_of_le h1 (show 10 ^ _ ≤ 10 ^ 17 from Nat.pow_le_pow_right (by decide) (by omega))
        obtain ⟨h48, h57⟩ := dig_le (hdig.out k (by simpa using hlt))
        have H5 : natV (s.data.toList.take (k + 1)) = a * 10 + (s[k].toNat - 48) := by rw [take_snocB s k hlt, natV_snoc, ha]; rfl
        rw [get_list s k hlt] at h48 h57
        replace H5 := Lib.hid H5
        clear ha
        go_wp2_with fail
        go_round
        case rel => exact ⟨k + 1, by omega, by go_num, by rw [H5.out]; go_num⟩
        case measure => simp [RowKit.intOf]; omega
      · have hkk : k = s.size := by omega
        subst hkk
        have HY : rdD s.data.toList = (a, true) := by
          rw [HX.out, ha, List.take_of_length_le (by simp)]
        replace HY := Lib.hid HY
        clear ha
        go_wp2_with fail
        go_ret2
        exact ⟨by rw [HY.out]; rfl, hb2.out⟩
  · have HX := Lib.hid (HN he)
    have heq : (d.toList == s.toList) = false := by rw [ByteArray.toList_eq, ByteArray.toList_eq, beq_eq_false_iff_ne]; exact he
    clear HN HS he h0
    replace CP := Lib.hid CP
    go_enter Tryd.func7, Tryd.ntmps7
    go_wp2_with fail
    refine (CP.out _).mono ?_
    rintro e w2 ⟨rfl, hb2⟩
    replace hb2 := Lib.hid hb2
    go_wp2_with fail
    go_ret2
    exact ⟨by rw [HX.out]; rfl, hb2.out⟩

/-- The table of powers of ten that strconv reads. -/
def Tab (w : World) : Prop := Lib.TabIs Tryd.prog w "internal/strconv.uint64pow10" .u64 Lib.pow10Tab
theorem Tab.below {w w' : World} (h : Tab w) (hb : Below w.heap.size w w') : Tab w' := by
  unfold Tab Lib.TabIs World.var? at *
  rw [Option.bind_eq_some_iff] at *
  obtain ⟨g, hg, h1⟩ := h
  refine ⟨g, hg, ?_⟩
  have hlt : g < w.heap.size := by
    rcases Nat.lt_or_ge g w.heap.size with h2 | h2
    · exact h2
    · rw [Array.getElem?_eq_none h2] at h1
      cases h1
  rw [hb.block g hlt]
  exact h1
theorem w_digits (n : Int) (w : World) (h1 : -9223372036854775808 ≤ n) (h2 : n ≤ 9223372036854775807) (ht : Tab w) : Calls Tryd.prog 9 #[.int .i64 n] w fun e w' => e = .returned (.string (baL (itoa n))) ∧ Below w.heap.size w w' := by
  have CI := Tryd.strconv_Itoa n h1 h2 w ht
  replace CI := Lib.hid CI
  clear ht
  go_enter Tryd.func9, Tryd.ntmps9
  go_wp2_with fail
  refine CI.out.mono ?_
  rintro e w2 ⟨rfl, k, os, rfl⟩
  have hb := Lib.hid (below_grow w.heap.size w (Nat.le_refl _) k os)
  go_wp2_with fail
  go_ret
  exact ⟨rfl, hb.out⟩
end Go.Proofs.YthdiaghkpolonaaDoor
