/-
  Plain: what a parse makes of a text: a sign, and digits without zeros ahead.
-/
import Derived.Test.YthdiaghkpolonaaDoorCmp
import Derived.Lib.Strings
import Derived.Lib.TrimByte
namespace Go.Proofs.YthdiaghkpolonaaDoor
open Go.Lib

/-- The sign and the digits; neither for what is no number. -/
def psL (l : List UInt8) : Bool × List UInt8 := if validL l = true then (decide (valL l < 0), decDigits (valL l).natAbs) else (false, [])

theorem trim_dig : ∀ l : List UInt8, digsL l = true → trimLeftB l 48 = if natV l = 0 then [] else decDigits (natV l)
  | [], _ => by simp [trimLeftB, natV]
  | c :: r, hd => by
    by_cases hc : c = 48
    · subst hc
      have h2 : digsL r = true := by
        simp only [digsL, List.all_cons, Bool.and_eq_true] at hd
        exact hd.2
      have ih := trim_dig r h2
      rw [natV_cons, show dv 48 = 0 from rfl, Nat.zero_mul, Nat.zero_add, ← ih]
      simp [trimLeftB]
    · have hC : Canon (c :: r) := ⟨by simp, hd, .inr (by simpa using hc)⟩
      have h1 : 1 ≤ natV (c :: r) := by
        by_cases h1 : (c :: r).length = 1
        · have hr : r = [] := List.eq_nil_of_length_eq_zero (by simpa using h1)
          subst hr
          simp only [digsL, List.all_cons, List.all_nil, Bool.and_true, isDig, Bool.and_eq_true, decide_eq_true_eq] at hd
          have : c.toNat ≠ 48 := fun e => hc (UInt8.toNat_inj.1 (by rw [e]; rfl))
          rw [natV_cons]
          unfold dv
          simp [natV]
          omega
        · exact canon_pos hC h1
      rw [if_neg (by omega), dec_natV _ hC]
      simp [trimLeftB, hc]
theorem cut_minus (r : List UInt8) : hasPrefix (45 :: r) [45] = true ∧ trimPrefix (45 :: r) [45] = r := by simp [hasPrefix, trimPrefix]
theorem cut_plain (l : List UInt8) (h : l.head? ≠ some 45) : hasPrefix l [45] = false ∧ trimPrefix l [45] = l := by
  have e : hasPrefix l [45] = false := by
    rcases l with _ | ⟨c, r⟩
    · rfl
    · have hc : c ≠ 45 := by simpa using h
      show ((45 : UInt8) == c && [].isPrefixOf r) = false
      rw [beq_eq_false_iff_ne.2 (Ne.symm hc), Bool.false_and]
  exact ⟨e, by simp [trimPrefix, e]⟩

/-- How a parse comes to it. -/
theorem ps_of (l : List UInt8) :
    (trimPrefix l [45] = [] → psL l = (false, [])) ∧ (digsL (trimPrefix l [45]) = false → psL l = (false, [])) ∧
    (trimPrefix l [45] ≠ [] → digsL (trimPrefix l [45]) = true → trimLeftB (trimPrefix l [45]) 48 = [] → psL l = (false, [48])) ∧
    (trimPrefix l [45] ≠ [] → digsL (trimPrefix l [45]) = true → trimLeftB (trimPrefix l [45]) 48 ≠ [] → psL l = (hasPrefix l [45], trimLeftB (trimPrefix l [45]) 48)) := by
  by_cases h45 : l.head? = some 45
  · obtain ⟨r, rfl⟩ : ∃ r, l = 45 :: r := by
      rcases l with _ | ⟨c, r⟩
      · cases h45
      · exact ⟨r, by simp at h45; rw [h45]⟩
    rw [(cut_minus r).1, (cut_minus r).2]
    have hv : validL (45 :: r) = (!r.isEmpty && digsL r) := by simp [validL]
    have hw : valL (45 :: r) = -(natV r : Int) := by simp [valL]
    refine ⟨?_, ?_, ?_, ?_⟩
    · rintro rfl
      rw [psL, if_neg (by rw [hv]; decide)]
    · intro h
      rw [psL, if_neg (by rw [hv, h]; simp)]
    · intro h0 hd ht
      have hn : natV r = 0 := by
        rw [trim_dig r hd] at ht
        by_cases h : natV r = 0
        · exact h
        · rw [if_neg h] at ht
          exact absurd ht (dec_ne _)
      rw [psL, if_pos (by rw [hv, hd]; simpa using h0), hw, hn]
      simp [decDigits_small]
    · intro h0 hd ht
      have hn : natV r ≠ 0 := by
        intro h
        rw [trim_dig r hd, if_pos h] at ht
        exact ht rfl
      rw [psL, if_pos (by rw [hv, hd]; simpa using h0), hw, trim_dig r hd, if_neg hn, decide_eq_true (by omega), show (-(natV r : Int)).natAbs = natV r from by omega]
  · rw [(cut_plain l h45).1, (cut_plain l h45).2]
    have hv : validL l = (!l.isEmpty && digsL l) := by
      rcases l with _ | ⟨c, r⟩
      · rfl
      · have hc : c ≠ 45 := by simpa using h45
        simp [validL, hc]
    have hw : valL l = (natV l : Int) := by
      rcases l with _ | ⟨c, r⟩
      · rfl
      · have hc : c ≠ 45 := by simpa using h45
        simp [valL, hc]
    refine ⟨?_, ?_, ?_, ?_⟩
    · rintro rfl
      rfl
    · intro h
      rw [psL, if_neg (by rw [hv, h]; simp)]
    · intro h0 hd ht
      have hn : natV l = 0 := by
        rw [trim_dig l hd] at ht
        by_cases h : natV l = 0
        · exact h
        · rw [if_neg h] at ht
          exact absurd ht (dec_ne _)
      rw [psL, if_pos (by rw [hv, hd]; simpa using h0), hw, hn]
      simp [decDigits_small]
    · intro h0 hd ht
      have hn : natV l ≠ 0 := by
        intro h
        rw [trim_dig l hd, if_pos h] at ht
        exact ht rfl
      rw [psL, if_pos (by rw [hv, hd]; simpa using h0), hw, trim_dig l hd, if_neg hn, decide_eq_false (by omega), show ((natV l : Int)).natAbs = natV l from by omega]

theorem ps_none {l : List UInt8} (h : validL l = false) : psL l = (false, []) := by rw [psL, if_neg (by rw [h]; decide)]
theorem ps_some {l : List UInt8} (h : validL l = true) : psL l = (decide (valL l < 0), decDigits (valL l).natAbs) := if_pos h
theorem ps_valid (l : List UInt8) : (psL l).2 = [] ↔ validL l = false := by
  by_cases h : validL l = true
  · rw [ps_some h, h]
    simp [dec_ne]
  · have h2 : validL l = false := by simpa using h
    rw [ps_none h2, h2]
    simp
/-- Plain, out of the parse. -/
theorem ps_plain (l : List UInt8) : plainL l = if (psL l).1 = true then 45 :: (psL l).2 else (psL l).2 := by
  by_cases h : validL l = true
  · rw [ps_some h, plainL, if_pos h]
    unfold itoa
    by_cases hn : valL l < 0
    · simp [hn]
    · rw [if_neg hn]
      simp [hn]
      congr 1
      omega
  · have h2 : validL l = false := by simpa using h
    rw [ps_none h2, plainL, if_neg h]
    simp
theorem ps_len (l : List UInt8) : (psL l).2.length ≤ l.length + 1 := by
  have hT : ∀ r : List UInt8, (trimLeftB r 48).length ≤ r.length := fun r => (List.dropWhile_sublist _).length_le
  have hP : (trimPrefix l [45]).length ≤ l.length := by
    unfold trimPrefix
    split
    · rw [List.length_drop]; omega
    · omega
  obtain ⟨h1, h2, h3, h4⟩ := ps_of l
  by_cases a : trimPrefix l [45] = []
  · rw [h1 a]; simp
  by_cases b : digsL (trimPrefix l [45]) = true
  · by_cases c : trimLeftB (trimPrefix l [45]) 48 = []
    · rw [h3 a b c]; simp
    · rw [h4 a b c]
      have := hT (trimPrefix l [45])
      simp only
      omega
  · rw [h2 (by simpa using b)]; simp
/-- The order, out of two parses. -/
def psCmp (x y : Bool × List UInt8) : Int :=
  if x = y then 0 else if x.2 = [] then -1 else if y.2 = [] then 1
  else if x.1 ≠ y.1 then (if x.1 = true then -1 else 1)
  else if x.1 = true then (if decide (y.2.length < x.2.length) || (decide (y.2.length = x.2.length) && Op.bytesLess y.2 x.2) then -1 else 1)
  else (if decide (x.2.length < y.2.length) || (decide (x.2.length = y.2.length) && Op.bytesLess x.2 y.2) then -1 else 1)
theorem ps_cmp (a b : List UInt8) : psCmp (psL a) (psL b) = cmpL a b := by
  unfold cmpL keyL
  by_cases ha : validL a = true
  · by_cases hb : validL b = true
    · rw [if_pos ha, if_pos hb, ps_some ha, ps_some hb]
      generalize valL a = x
      generalize valL b = y
      unfold psCmp cmpO
      by_cases hxy : x = y
      · subst hxy
        simp
      · have hne : ¬ ((decide (x < 0), decDigits x.natAbs) = (decide (y < 0), decDigits y.natAbs)) := by
          intro e
          injection e with e1 e2
          have e3 := dec_inj e2
          rw [decide_eq_decide] at e1
          omega
        rw [if_neg hne, if_neg (dec_ne _), if_neg (dec_ne _)]
        simp only [less_dec, hxy, if_false]
        by_cases hx : x < 0
        · by_cases hy : y < 0
          · simp only [hx, hy]
            by_cases h : x < y
            · have : y.natAbs < x.natAbs := by omega
              simp [h, this]
            · have : ¬ y.natAbs < x.natAbs := by omega
              simp [h, this]
          · have : x < y := by omega
            simp [hx, hy, this]
        · by_cases hy : y < 0
          · have : ¬ x < y := by omega
            simp [hx, hy, this]
          · simp only [hx, hy]
            by_cases h : x < y
            · have : x.natAbs < y.natAbs := by omega
              simp [h, this]
            · have : ¬ x.natAbs < y.natAbs := by omega
              simp [h, this]
    · have hb2 : validL b = false := by simpa using hb
      rw [if_pos ha, if_neg hb, ps_some ha, ps_none hb2]
      unfold psCmp cmpO
      rw [if_neg (by intro e; injection e with e1 e2; exact dec_ne _ e2), if_neg (dec_ne _), if_pos rfl]
  · have ha2 : validL a = false := by simpa using ha
    by_cases hb : validL b = true
    · rw [if_neg ha, if_pos hb, ps_none ha2, ps_some hb]
      unfold psCmp cmpO
      rw [if_neg (by intro e; injection e with e1 e2; exact dec_ne _ e2.symm), if_pos rfl]
    · have hb2 : validL b = false := by simpa using hb
      rw [if_neg ha, if_neg hb, ps_none ha2, ps_none hb2]
      simp [psCmp, cmpO]
/-- A text without a sign and without zeros ahead is its own digits. -/
theorem ps_self (l : List UInt8) (h : (psL l).2 = l) : l = [] ∨ Canon l := by
  by_cases hv : validL l = true
  · right
    rw [ps_some hv] at h
    have h2 : decDigits (valL l).natAbs = l := h
    have := canon_dec (valL l).natAbs
    rw [h2] at this
    exact this
  · have h2 : validL l = false := by simpa using hv
    rw [ps_none h2] at h
    exact .inl h.symm
theorem ps_canon (l : List UInt8) (h : Canon l) : psL l = (false, l) := by
  have hd := dec_natV l h
  have hl : l.head? ≠ some 45 := by
    rw [← hd]
    exact dec_head _
  have hv : validL l = true := by
    rcases l with _ | ⟨c, r⟩
    · exact absurd rfl h.1
    · have hc : c ≠ 45 := by simpa using hl
      simp [validL, hc]
      exact h.2.1
  have hw : valL l = (natV l : Int) := by
    rcases l with _ | ⟨c, r⟩
    · rfl
    · have hc : c ≠ 45 := by simpa using hl
      simp [valL, hc]
  rw [ps_some hv, hw, decide_eq_false (by omega), show ((natV l : Int)).natAbs = natV l from by omega, hd]
end Go.Proofs.YthdiaghkpolonaaDoor
