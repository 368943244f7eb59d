/-
  Strings, their characters, numbers and places, as data.
-/
import Derived.Test.YtbdbgiecfkgimaaDoorUStr
namespace Go.Proofs.YtbdbgiecfkgimaaDoor
open Go.RowKit

theorem bs_cons (s : ByteArray) (h : 0 < s.size) : ∃ r, bs s = s[0].toNat :: r := by
  have hl : (bs s).length = s.size := bs_len s
  have hg := bs_get s 0 h
  rcases e : bs s with _ | ⟨c', r⟩
  · rw [e] at hl
    simp at hl
    omega
  · simp only [e] at hg
    rw [← hg]
    exact ⟨r, rfl⟩
theorem bs_zero (s : ByteArray) (h : s.size = 0) : bs s = [] := List.eq_nil_of_length_eq_zero (by rw [bs_len, h])
def uCountI (l : List Nat) : Int := match uChars l with
  | none => -1
  | some cs => (cs.length : Int)
/-- A string's length. -/
def lenS : Value → Nat
  | .string x => x.size
  | _ => 0
theorem bs_rest (x x' : ByteArray) (n : Nat) (h : x.extract n x.size = x') : bs x' = (bs x).drop n := by
  rw [← h, bs_extract, ← bs_len x, List.take_length]
theorem bs_own (x x' : ByteArray) (n : Nat) (h : x.extract 0 n = x') : bs x' = (bs x).take n := by
  rw [← h, bs_extract, List.drop_zero]
theorem bs_ne (x : ByteArray) (h : 0 < x.size) : bs x ≠ [] := by
  intro e
  have := bs_len x
  rw [e] at this
  simp at this
  omega
theorem ret_b {a b : Bool} (h : a = b) : Ending.returned (.bool a) = .returned (.bool b) := by rw [h]
theorem uEnc_le (c : Nat) : (uEnc c).length ≤ 4 := by
  unfold uEnc
  split
  · simp
  · split
    · simp
    · split <;> simp
theorem bs_sp : bs ⟨#[32]⟩ = [32] := rfl
theorem size_app (a b : ByteArray) : (a ++ b).size = a.size + b.size := by
  rw [← bs_len, bs_append, List.length_append, bs_len, bs_len]
theorem uNumOk_snoc (l : List Nat) (c : Nat) : uNumOk (l ++ [c]) = (uNumOk l && decide (48 ≤ c ∧ c ≤ 57 ∨ c = 32)) := by
  unfold uNumOk
  simp [List.all_append]
theorem uDigits_snoc (l : List Nat) (c : Nat) : uDigits (l ++ [c]) = uDigits l ++ (if 48 ≤ c ∧ c ≤ 57 then [c] else []) := by
  unfold uDigits
  rw [List.filter_append]
  by_cases h : 48 ≤ c ∧ c ≤ 57 <;> simp [h]
theorem uNumOk_take (l : List Nat) (k : Nat) (h : uNumOk (l.take k) = false) : uNumOk l = false := by
  rw [← List.take_append_drop k l]
  unfold uNumOk at *
  rw [List.all_append, h]
  rfl
theorem bs_take (s : ByteArray) (k : Nat) (h : k < s.size) : (bs s).take (k + 1) = (bs s).take k ++ [s[k].toNat] := by
  rw [List.take_succ_eq_append_getElem (by rw [bs_len]; exact h), bs_get s k h]
theorem bs_at (s y : ByteArray) (k : Nat) (h : k < s.size) (hy : s.extract k (k + 1) = y) : bs y = [s[k].toNat] := by
  rw [← hy, bs_extract, bs_take s k h, List.drop_append_of_le_length (by rw [List.length_take, bs_len]; omega), List.drop_eq_nil_of_le (by rw [List.length_take, bs_len]; omega)]
  rfl
/-- The least place from i on where t stands in s. -/
def uFindR : Nat → List Nat → List Nat → Nat → Int
  | 0, _, _, _ => -1
  | f + 1, s, t, i => if i ≤ s.length ∧ t.length ≤ s.length - i then (if (s.drop i).take t.length = t then (i : Int) else uFindR f s t (i + 1)) else -1
def uFind (s t : List Nat) (i : Nat) : Int := uFindR (s.length + 1 - i) s t i
theorem uFind_out (s t : List Nat) (i : Nat) (h : ¬ (i ≤ s.length ∧ t.length ≤ s.length - i)) : uFind s t i = -1 := by
  unfold uFind
  rcases e : s.length + 1 - i with _ | f
  · rw [uFindR]
  · rw [uFindR, if_neg h]
theorem uFind_yes (s t : List Nat) (i : Nat) (h : i ≤ s.length ∧ t.length ≤ s.length - i) (h2 : (s.drop i).take t.length = t) : uFind s t i = (i : Int) := by
  unfold uFind
  obtain ⟨f, hf⟩ : ∃ f, s.length + 1 - i = f + 1 := ⟨s.length - i, by omega⟩
  rw [hf, uFindR, if_pos h, if_pos h2]
theorem uFind_no (s t : List Nat) (i : Nat) (h : i ≤ s.length ∧ t.length ≤ s.length - i) (h2 : (s.drop i).take t.length ≠ t) : uFind s t i = uFind s t (i + 1) := by
  unfold uFind
  obtain ⟨f, hf⟩ : ∃ f, s.length + 1 - i = f + 1 := ⟨s.length - i, by omega⟩
  rw [hf, uFindR, if_pos h, if_neg h2]
  congr 1
  omega
theorem bs_mid (s x : ByteArray) (i n : Nat) (h : s.extract i (i + n) = x) : bs x = ((bs s).drop i).take n := by
  rw [← h, bs_extract, List.drop_take]
  congr 1
  omega
theorem str_eq (x t : ByteArray) : (x.toList == t.toList) = decide (bs x = bs t) := by
  rw [ByteArray.toList_eq, ByteArray.toList_eq, Bool.eq_iff_iff, beq_iff_eq, decide_eq_true_eq]
  constructor
  · intro h
    rw [ba_ext h]
  · intro h
    rw [bs_inj h]
def txt (e g : Bool) (s : ByteArray) : ByteArray := strB (uText e g (bs s))
theorem bs_txt (e g : Bool) (s : ByteArray) : bs (txt e g s) = uText e g (bs s) := bs_strB _ (uText_byte e g _ (bs_byte s))
theorem txt_of {e g : Bool} {s x : ByteArray} (h : bs x = uText e g (bs s)) : x = txt e g s := by
  unfold txt
  rw [← h, strB_bs]
theorem txt_size (e g : Bool) (s : ByteArray) : (txt e g s).size ≤ s.size := by
  rw [← bs_len, bs_txt, ← bs_len s]
  exact uText_len e g _
def numT (s : ByteArray) : ByteArray := strB (uNum (bs s)).1
theorem uNum_byte (l : List Nat) (h : ∀ x ∈ l, x < 256) : ∀ x ∈ (uNum l).1, x < 256 := by
  intro x hx
  unfold uNum at hx
  split at hx
  · exact h x (List.mem_filter.1 hx).1
  · cases hx
theorem bs_numT (s : ByteArray) : bs (numT s) = (uNum (bs s)).1 := bs_strB _ (uNum_byte _ (bs_byte s))
theorem numT_of {s x : ByteArray} (h : bs x = (uNum (bs s)).1) : x = numT s := by
  unfold numT
  rw [← h, strB_bs]
def rightB (s : ByteArray) : Bool := (uChars (bs s)).isSome
theorem right_count (s : ByteArray) : (rightB s = true ∧ 0 ≤ uCountI (bs s)) ∨ (rightB s = false ∧ uCountI (bs s) = -1) := by
  unfold rightB uCountI
  rcases uChars (bs s) with _ | cs
  · exact .inr ⟨rfl, rfl⟩
  · exact .inl ⟨rfl, Int.natCast_nonneg _⟩
def stands (s t : List Nat) (j : Nat) : Prop := (s.drop j).take t.length = t
theorem uFindR_spec : ∀ (f : Nat) (s t : List Nat) (i : Nat), s.length + 1 - i ≤ f →
    (uFindR f s t i = -1 ∧ ∀ j, i ≤ j → j + t.length ≤ s.length → ¬ stands s t j) ∨ (∃ j : Nat, uFindR f s t i = (j : Int) ∧ i ≤ j ∧ j + t.length ≤ s.length ∧ stands s t j ∧ ∀ m, i ≤ m → m < j → ¬ stands s t m)
  | 0, s, t, i, h => .inl ⟨by rw [uFindR], fun j h1 h2 => by omega⟩
  | f + 1, s, t, i, h => by
    rw [uFindR]
    by_cases h1 : i ≤ s.length ∧ t.length ≤ s.length - i
    · rw [if_pos h1]
      by_cases h2 : (s.drop i).take t.length = t
      · rw [if_pos h2]
        exact .inr ⟨i, rfl, Nat.le_refl _, by omega, h2, fun m h3 h4 => by omega⟩
      · rw [if_neg h2]
        rcases uFindR_spec f s t (i + 1) (by omega) with ⟨h3, h4⟩ | ⟨j, h3, h4, h5, h6, h7⟩
        · refine .inl ⟨h3, fun j h5 h6 => ?_⟩
          by_cases hj : j = i
          · rw [hj]
            exact h2
          · exact h4 j (by omega) h6
        · refine .inr ⟨j, h3, by omega, h5, h6, fun m h8 h9 => ?_⟩
          by_cases hm : m = i
          · rw [hm]
            exact h2
          · exact h7 m (by omega) h9
    · rw [if_neg h1]
      exact .inl ⟨rfl, fun j h2 h3 => by omega⟩
theorem uFind_spec (s t : List Nat) (i : Nat) :
    (uFind s t i = -1 ∧ ∀ j, i ≤ j → j + t.length ≤ s.length → ¬ stands s t j) ∨ (∃ j : Nat, uFind s t i = (j : Int) ∧ i ≤ j ∧ j + t.length ≤ s.length ∧ stands s t j ∧ ∀ m, i ≤ m → m < j → ¬ stands s t m) := uFindR_spec _ s t i (Nat.le_refl _)
end Go.Proofs.YtbdbgiecfkgimaaDoor
