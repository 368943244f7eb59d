/-
  Plain: the order of decimal texts by their plain forms; it goes both ways, and goes on; zeros ahead change nothing.
-/
import Derived.Test.YthdiaghkpolonaaDoorDec
namespace Go.Proofs.YthdiaghkpolonaaDoor
open Go.Lib

/-- The order as it is reckoned from two plain texts. -/
def cmpP (p q : List UInt8) : Int :=
  if p = q then 0 else if p = [] then -1 else if q = [] then 1
  else if (p.head? = some 45) ≠ (q.head? = some 45) then (if p.head? = some 45 then -1 else 1)
  else if (decide (p.length < q.length) || (decide (p.length = q.length) && Op.bytesLess p q)) ≠ decide (p.head? = some 45) then -1 else 1

theorem neg_head (x : Int) : (itoa x).head? = some 45 ↔ x < 0 := by
  unfold itoa
  split
  · rename_i h
    simp [h]
  · rename_i h
    simp only [dec_head, h]
theorem less_itoa_pos (x y : Int) (hx : 0 ≤ x) (hy : 0 ≤ y) : (decide ((itoa x).length < (itoa y).length) || (decide ((itoa x).length = (itoa y).length) && Op.bytesLess (itoa x) (itoa y))) = decide (x < y) := by
  unfold itoa
  rw [if_neg (by omega), if_neg (by omega), less_dec]
  congr 1
  rw [eq_iff_iff]
  omega
theorem less_itoa_neg (x y : Int) (hx : x < 0) (hy : y < 0) : (decide ((itoa x).length < (itoa y).length) || (decide ((itoa x).length = (itoa y).length) && Op.bytesLess (itoa x) (itoa y))) = decide (y < x) := by
  unfold itoa
  rw [if_pos hx, if_pos hy]
  have h := less_dec x.natAbs y.natAbs
  have h45 : decide ((45 : UInt8) < 45) = false := by decide
  simp only [List.length_cons, Op.bytesLess, h45, Bool.false_or, beq_self_eq_true, Bool.true_and, Nat.add_lt_add_iff_right, Nat.add_right_cancel_iff]
  rw [h]
  congr 1
  rw [eq_iff_iff]
  omega
theorem cmp_plain (a b : List UInt8) : cmpP (plainL a) (plainL b) = cmpL a b := by
  unfold cmpL keyL plainL
  by_cases ha : validL a = true
  · by_cases hb : validL b = true
    · rw [if_pos ha, if_pos hb, if_pos ha, if_pos hb]
      generalize valL a = x
      generalize valL b = y
      unfold cmpP cmpO
      by_cases hxy : x = y
      · subst hxy
        simp
      · rw [if_neg (fun e => hxy (itoa_inj e)), if_neg (itoa_ne x), if_neg (itoa_ne y)]
        simp only [neg_head]
        by_cases hx : x < 0
        · by_cases hy : y < 0
          · rw [if_neg (by simp [hx, hy]), less_itoa_neg x y hx hy]
            by_cases h : x < y
            · have : ¬ y < x := by omega
              simp [h, hx, this]
            · have : y < x := by omega
              simp [h, hx, this, hxy]
          · have : x < y := by omega
            simp [hx, hy, this]
        · by_cases hy : y < 0
          · have : ¬ x < y := by omega
            simp [hx, hy, this, hxy]
          · rw [if_neg (by simp [hx, hy]), less_itoa_pos x y (by omega) (by omega)]
            by_cases h : x < y
            · simp [h, hx]
            · simp [h, hx, hxy]
    · rw [if_pos ha, if_neg hb, if_pos ha, if_neg hb]
      unfold cmpP cmpO
      rw [if_neg (itoa_ne _), if_neg (itoa_ne _), if_pos rfl]
  · by_cases hb : validL b = true
    · rw [if_neg ha, if_pos hb, if_neg ha, if_pos hb]
      unfold cmpP cmpO
      rw [if_neg (fun e => itoa_ne _ e.symm), if_pos rfl]
    · rw [if_neg ha, if_neg hb, if_neg ha, if_neg hb]
      simp [cmpP, cmpO]

theorem cmp_swap (a b : List UInt8) : cmpL b a = - cmpL a b := by
  unfold cmpL
  rcases keyL a with _ | x <;> rcases keyL b with _ | y <;> simp only [cmpO] <;> (try rfl)
  repeat' split
  all_goals omega
theorem cmp_range (a b : List UInt8) : cmpL a b = -1 ∨ cmpL a b = 0 ∨ cmpL a b = 1 := by
  unfold cmpL
  rcases keyL a with _ | x <;> rcases keyL b with _ | y <;> simp [cmpO]
  repeat' split
  all_goals omega
def leO : Option Int → Option Int → Prop
  | none, _ => True
  | some _, none => False
  | some x, some y => x ≤ y
theorem cmpO_le (a b : Option Int) : cmpO a b ≤ 0 ↔ leO a b := by
  rcases a with _ | x <;> rcases b with _ | y <;> simp only [cmpO, leO]
  · simp
  · simp
  · simp
  · repeat' split
    all_goals omega
theorem cmp_trans (a b c : List UInt8) (h1 : cmpL a b ≤ 0) (h2 : cmpL b c ≤ 0) : cmpL a c ≤ 0 := by
  unfold cmpL at *
  rw [cmpO_le] at *
  generalize keyL a = p at *
  generalize keyL b = q at *
  generalize keyL c = r at *
  rcases p with _ | x
  · trivial
  · rcases q with _ | y
    · exact h1.elim
    · rcases r with _ | z
      · exact h2.elim
      · exact Int.le_trans h1 h2
theorem cmp_zero (a b : List UInt8) : cmpL a b = 0 ↔ plainL a = plainL b := by
  unfold cmpL keyL plainL
  by_cases ha : validL a = true
  · by_cases hb : validL b = true
    · rw [if_pos ha, if_pos hb, if_pos ha, if_pos hb]
      simp only [cmpO]
      constructor
      · intro h
        have : valL a = valL b := by
          repeat' split at h
          all_goals omega
        rw [this]
      · intro h
        rw [itoa_inj h]
        simp
    · rw [if_pos ha, if_neg hb, if_pos ha, if_neg hb]
      simp [cmpO, itoa_ne]
  · by_cases hb : validL b = true
    · rw [if_neg ha, if_pos hb, if_neg ha, if_pos hb]
      simp only [cmpO]
      constructor
      · intro h
        omega
      · intro h
        exact absurd h.symm (itoa_ne _)
    · rw [if_neg ha, if_neg hb, if_neg ha, if_neg hb]
      simp [cmpO]
theorem cmp_itoa (x y : Int) : (cmpL (itoa x) (itoa y) < 0 ↔ x < y) ∧ (cmpL (itoa x) (itoa y) = 0 ↔ x = y) := by
  unfold cmpL
  rw [key_itoa, key_itoa]
  simp only [cmpO]
  constructor
  · repeat' split
    all_goals omega
  · repeat' split
    all_goals omega

/-- One zero ahead, behind the sign. -/
def zeroAhead (l : List UInt8) : List UInt8 :=
  match l with
  | [] => [48]
  | c :: r => if c = 45 then 45 :: 48 :: r else 48 :: c :: r
theorem zero_valid (l : List UInt8) (h : validL l = true) : validL (zeroAhead l) = true ∧ valL (zeroAhead l) = valL l := by
  rcases l with _ | ⟨c, r⟩
  · cases h
  · by_cases hc : c = 45
    · subst hc
      rw [show zeroAhead (45 :: r) = 45 :: 48 :: r from by simp [zeroAhead]]
      rw [validL, if_pos rfl] at h
      simp only [Bool.and_eq_true] at h
      refine ⟨?_, ?_⟩
      · rw [validL, if_pos rfl]
        simp only [digsL, List.all_cons, Bool.and_eq_true]
        exact ⟨rfl, rfl, h.2⟩
      · rw [valL, if_pos rfl, valL, if_pos rfl, natV_cons, show dv 48 = 0 from rfl, Nat.zero_mul, Nat.zero_add]
    · rw [show zeroAhead (c :: r) = 48 :: c :: r from by simp [zeroAhead, hc]]
      rw [validL, if_neg hc] at h
      have h48 : ¬ (48 : UInt8) = 45 := by decide
      refine ⟨?_, ?_⟩
      · rw [validL, if_neg h48]
        simp only [digsL, List.all_cons, Bool.and_eq_true] at h ⊢
        exact ⟨rfl, h⟩
      · rw [valL, if_neg h48, valL, if_neg hc, natV_cons, show dv 48 = 0 from rfl, Nat.zero_mul, Nat.zero_add]
theorem zero_same (l : List UInt8) (h : validL l = true) : plainL (zeroAhead l) = plainL l ∧ cmpL (zeroAhead l) l = 0 := by
  obtain ⟨h1, h2⟩ := zero_valid l h
  have hp : plainL (zeroAhead l) = plainL l := by rw [plainL, if_pos h1, plainL, if_pos h, h2]
  exact ⟨hp, (cmp_zero _ _).2 hp⟩
/-- The plain form as it is written: without what need not be. -/
theorem plain_text (l : List UInt8) (h : validL l = true) : plainL l = match l with | [] => [] | c :: r => if c = 45 then (if stripL r = [48] then [48] else 45 :: stripL r) else stripL (c :: r) := by
  rw [plainL, if_pos h]
  rcases l with _ | ⟨c, r⟩
  · cases h
  · by_cases hc : c = 45
    · subst hc
      rw [validL, if_pos rfl] at h
      simp only [Bool.and_eq_true, Bool.not_eq_true', List.isEmpty_eq_false_iff] at h
      have hs := strip_dec r h.1 h.2
      simp only [if_pos]
      rw [valL, if_pos rfl, hs]
      by_cases hz : natV r = 0
      · rw [hz]
        simp [itoa, decDigits_small]
      · rw [if_neg (fun e => hz (by
          have := congrArg natV e
          rw [natV_dec] at this
          simpa [natV, dv] using this))]
        unfold itoa
        rw [if_pos (by omega)]
        simp
    · rw [validL, if_neg hc] at h
      simp only [if_neg hc]
      rw [valL, if_neg hc, strip_dec (c :: r) (by simp) h]
      unfold itoa
      rw [if_neg (by omega)]
      simp
end Go.Proofs.YthdiaghkpolonaaDoor
