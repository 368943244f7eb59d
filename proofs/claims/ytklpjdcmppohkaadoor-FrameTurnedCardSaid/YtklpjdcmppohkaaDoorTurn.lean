/-
  Bits of a frame that are turned, as data.
-/
import Derived.Test.YtklpjdcmppohkaaDoorFrm
namespace Go.Proofs.YtklpjdcmppohkaaDoor

/-- What by's lowest i bits turn, from bit a on. -/
def turn (x : List Nat) (a b i : Nat) : List Nat := List.zipWith (· ^^^ ·) x (les x.length ((b % 2 ^ i) <<< a))
theorem turn_len (x : List Nat) (a b i : Nat) : (turn x a b i).length = x.length := by
  unfold turn
  rw [List.length_zipWith, les_len, Nat.min_self]
theorem turn_get (x : List Nat) (a b i j : Nat) (hj : j < x.length) : (turn x a b i)[j]? = some (x[j] ^^^ (((b % 2 ^ i) <<< a) / 256 ^ j % 256)) := by
  unfold turn
  rw [List.getElem?_zipWith, List.getElem?_eq_getElem hj, les_get _ _ _ hj]
theorem turn_byte (x : List Nat) (a b i : Nat) (h : ∀ y ∈ x, y < 256) : ∀ y ∈ turn x a b i, y < 256 := by
  intro y hy
  obtain ⟨j, hj⟩ := List.getElem?_of_mem hy
  have hl : j < x.length := by
    rw [← turn_len x a b i]
    exact (List.getElem?_eq_some_iff.1 hj).1
  rw [turn_get _ _ _ _ _ hl] at hj
  injection hj with hj
  rw [← hj]
  exact Nat.xor_lt_two_pow (n := 8) (h _ (List.getElem_mem hl)) (Nat.mod_lt _ (by omega))
theorem turn_zero (x : List Nat) (a b : Nat) : turn x a b 0 = x := by
  refine List.ext_getElem? fun j => ?_
  rcases Nat.lt_or_ge j x.length with h | h
  · rw [turn_get _ _ _ _ _ h, List.getElem?_eq_getElem h, Nat.pow_zero, Nat.mod_one, Nat.zero_shiftLeft, Nat.zero_div, Nat.zero_mod, Nat.xor_zero]
  · rw [List.getElem?_eq_none (by rw [turn_len]; exact h), List.getElem?_eq_none h]
theorem bit_lo (b i : Nat) (h : b / 2 ^ i % 2 = 0) : b % 2 ^ (i + 1) = b % 2 ^ i := by
  refine Nat.eq_of_testBit_eq fun k => ?_
  rw [Nat.testBit_mod_two_pow, Nat.testBit_mod_two_pow]
  by_cases h1 : k < i
  · simp [h1, Nat.lt_succ_of_lt h1]
  · by_cases h2 : k = i
    · subst h2
      have : b.testBit k = false := by
        rw [Nat.testBit_eq_decide_div_mod_eq, h]
        rfl
      simp [this]
    · simp [h1, show ¬ k < i + 1 by omega]
theorem bit_hi (b i : Nat) (h : b / 2 ^ i % 2 = 1) : b % 2 ^ (i + 1) = (b % 2 ^ i) ^^^ 2 ^ i := by
  refine Nat.eq_of_testBit_eq fun k => ?_
  rw [Nat.testBit_xor, Nat.testBit_mod_two_pow, Nat.testBit_mod_two_pow, Nat.testBit_two_pow]
  by_cases h1 : k < i
  · simp [h1, Nat.lt_succ_of_lt h1, show ¬ i = k by omega]
  · by_cases h2 : k = i
    · subst h2
      have : b.testBit k = true := by
        rw [Nat.testBit_eq_decide_div_mod_eq, h]
        rfl
      simp [this]
    · simp [h1, show ¬ k < i + 1 by omega, show ¬ i = k by omega]
theorem pow_cell (p j : Nat) : 2 ^ p / 256 ^ j % 256 = if j = p / 8 then 2 ^ (p % 8) else 0 := by
  have e : (256 : Nat) ^ j = 2 ^ (8 * j) := by rw [Nat.pow_mul]
  rw [e, ← Nat.shiftRight_eq_div_pow]
  refine Nat.eq_of_testBit_eq fun k => ?_
  rw [show (256 : Nat) = 2 ^ 8 from rfl, Nat.testBit_mod_two_pow, Nat.testBit_shiftRight, Nat.testBit_two_pow]
  by_cases h : j = p / 8
  · rw [if_pos h, Nat.testBit_two_pow]
    by_cases hk : k < 8
    · simp only [hk, decide_true, Bool.true_and]
      congr 1
      simp only [eq_iff_iff]
      omega
    · simp only [hk, decide_false, Bool.false_and]
      symm
      simp only [decide_eq_false_iff_not]
      omega
  · rw [if_neg h, Nat.zero_testBit]
    by_cases hk : k < 8
    · simp only [hk, decide_true, Bool.true_and, decide_eq_false_iff_not]
      omega
    · simp [hk]
theorem turn_no (x : List Nat) (a b i : Nat) (h : b / 2 ^ i % 2 = 0) : turn x a b (i + 1) = turn x a b i := by
  unfold turn
  rw [bit_lo b i h]
theorem turn_yes (x : List Nat) (a b i : Nat) (h : b / 2 ^ i % 2 = 1) (hq : (a + i) / 8 < x.length) (v : Nat) (hv : (turn x a b i)[(a + i) / 8]? = some v) : turn x a b (i + 1) = (turn x a b i).set ((a + i) / 8) (v ^^^ 2 ^ ((a + i) % 8)) := by
  refine List.ext_getElem? fun j => ?_
  rcases Nat.lt_or_ge j x.length with hj | hj
  · have e : ((b % 2 ^ (i + 1)) <<< a) / 256 ^ j % 256 = (((b % 2 ^ i) <<< a) / 256 ^ j % 256) ^^^ (if j = (a + i) / 8 then 2 ^ ((a + i) % 8) else 0) := by
      have e1 : (256 : Nat) ^ j = 2 ^ (8 * j) := by rw [Nat.pow_mul]
      have e2 : (2 ^ i) <<< a = 2 ^ (a + i) := by rw [Nat.shiftLeft_eq, ← Nat.pow_add, Nat.add_comm]
      rw [← pow_cell, bit_hi b i h, Nat.shiftLeft_xor_distrib, e2, e1, ← Nat.shiftRight_eq_div_pow, ← Nat.shiftRight_eq_div_pow, ← Nat.shiftRight_eq_div_pow, Nat.shiftRight_xor_distrib, show (256 : Nat) = 2 ^ 8 from rfl, Nat.xor_mod_two_pow]
    rw [turn_get _ _ _ _ _ hj, e, ← Nat.xor_assoc, List.getElem?_set]
    by_cases hjq : (a + i) / 8 = j
    · rw [if_pos hjq.symm, if_pos hjq, if_pos (by rw [turn_len]; exact hq)]
      rw [hjq, turn_get _ _ _ _ _ hj] at hv
      injection hv with hv
      rw [hv]
    · rw [if_neg hjq, if_neg (fun e => hjq e.symm), Nat.xor_zero, turn_get _ _ _ _ _ hj]
  · rw [List.getElem?_eq_none (by rw [turn_len]; exact hj), List.getElem?_eq_none (by rw [List.length_set, turn_len]; exact hj)]
/-- A frame whose bits behind the length are turned is opened only if none is. -/
theorem openP_turned (l m : List Nat) (a b : Nat) (hl : l.length ≤ 65536) (hby : ∀ x ∈ l, x < 256) (hb : b < 4294967296) (ha : 32 ≤ a) (ha2 : a ≤ 32 + 8 * l.length) :
    (openP (turn (sealP l) a b 32 ++ m)).2.2 = if b = 0 then 0 else 12 := by
  obtain ⟨x, hx⟩ : ∃ x, x = turn (sealP l) a b 32 := ⟨_, rfl⟩
  have hxl : x.length = l.length + 8 := by rw [hx, turn_len, sealP_len]
  have hxb : ∀ y ∈ x, y < 256 := by rw [hx]; exact turn_byte _ _ _ _ (sealP_byte l hby)
  have hb32 : b % 2 ^ 32 = b := Nat.mod_eq_of_lt hb
  have hx' : x = List.zipWith (· ^^^ ·) (sealP l) (les (l.length + 8) (b <<< a)) := by
    rw [hx]
    unfold turn
    rw [hb32, sealP_len]
  have hlo : ∀ k, k < 4 → at4 x k = at4 (sealP l) k := fun k hk => by
    have hk2 : k < (sealP l).length := by rw [sealP_len]; omega
    unfold at4
    rw [List.getD_eq_getElem?_getD, List.getD_eq_getElem?_getD, hx, turn_get _ _ _ _ _ hk2, List.getElem?_eq_getElem hk2, hb32]
    have e : (b <<< a) / 256 ^ k % 256 = 0 := by
      rw [Nat.shiftLeft_eq, show (256 : Nat) ^ k = 2 ^ (8 * k) by rw [Nat.pow_mul], show a = (a - 8 * k - 8) + 8 + 8 * k by omega, Nat.pow_add, Nat.pow_add, ← Nat.mul_assoc, Nat.mul_div_cancel _ (Nat.two_pow_pos _), ← Nat.mul_assoc]
      exact Nat.mul_mod_left _ _
    rw [e, Nat.xor_zero]
  have hlen : lenF x = l.length := by
    have h := lenF_bes l.length (l ++ les 4 (sumN (bes l.length ++ l))) (by omega)
    rw [← List.append_assoc] at h
    unfold lenF at h ⊢
    rw [hlo 0 (by omega), hlo 1 (by omega), hlo 2 (by omega), hlo 3 (by omega)]
    exact h
  have hap : ∀ k, k < l.length + 8 → at4 (x ++ m) k = at4 x k := fun k hk => at4_app _ _ _ (by omega)
  have hlen2 : lenF (x ++ m) = l.length := by
    rw [← hlen]
    unfold lenF
    rw [hap 0 (by omega), hap 1 (by omega), hap 2 (by omega), hap 3 (by omega)]
  have hsum2 : sumF (x ++ m) l.length = sumF x l.length := by
    unfold sumF
    rw [hap _ (by omega), hap _ (by omega), hap _ (by omega), hap _ (by omega)]
  have htk : (x ++ m).take (l.length + 4) = x.take (l.length + 4) := List.take_append_of_le_length (by omega)
  have hok := sum_ok x l.length hxl hxb
  have hseal : crc 4294967295 (sealP l) = crcN 32 4294967295 := by
    have hby2 : ∀ y ∈ bes l.length ++ l, y < 256 := fun y hy => by
      rcases List.mem_append.1 hy with hy | hy
      · exact bes_byte _ y hy
      · exact hby y hy
    unfold sealP
    rw [crc_append]
    exact (crc_seal _ _ (crc_lt _ _ (by omega) hby2) (sumN_lt _ hby2)).1 rfl
  have hbits : b <<< a < 256 ^ (l.length + 8) := by
    rw [Nat.shiftLeft_eq, show (256 : Nat) ^ (l.length + 8) = 2 ^ (8 * (l.length + 8)) by rw [Nat.pow_mul]]
    have h1 : b * 2 ^ a < 2 ^ 32 * 2 ^ a := Nat.mul_lt_mul_of_pos_right hb (Nat.two_pow_pos _)
    rw [← Nat.pow_add] at h1
    exact Nat.lt_of_lt_of_le h1 (Nat.pow_le_pow_right (by omega) (by omega))
  have ht := crc_turned 4294967295 (l.length + 8) a b (sealP l) (sealP_len l) hb hbits (by omega)
  rw [← hx', hseal] at ht
  rw [ht] at hok
  rw [← hx]
  unfold openP
  rw [hlen2, hsum2, htk, if_neg (by rw [List.length_append]; omega), if_neg (by omega), if_neg (by rw [List.length_append]; omega)]
  by_cases h0 : b = 0
  · rw [if_neg (by simpa using hok.2 h0), if_pos h0]
  · rw [if_pos (by intro e; exact h0 (hok.1 e)), if_neg h0]
end Go.Proofs.YtklpjdcmppohkaaDoor
