/-
  A text escaped byte by byte, as data: what is marked has a backslash before it, what is coded stands as two digits.
-/
import Derived.Test.YtbdbgiecfkgimaaDoorEscStr
namespace Go.Proofs.YtbdbgiecfkgimaaDoor
open Go.RowKit

def esc1 (m d : Bool) (c : Nat) : List Nat := if d = true then [92] ++ twoE c else if m = true then [92] ++ [c] else [c]
def escF (mk cd : Nat → Bool) (l : List Nat) : Nat → List Nat
  | 0 => []
  | k + 1 => escF mk cd l k ++ (match l[k]? with
    | some c => esc1 (mk k) (cd k) c
    | none => [])
theorem escF_succ (mk cd : Nat → Bool) (s : ByteArray) (k : Nat) (h : k < s.size) : escF mk cd (bs s) (k + 1) = escF mk cd (bs s) k ++ esc1 (mk k) (cd k) s[k].toNat := by
  conv => lhs; unfold escF
  rw [bs_atE s k h]
theorem esc1_len (m d : Bool) (c : Nat) : (esc1 m d c).length ≤ 3 := by
  unfold esc1
  split
  · exact Nat.le_refl _
  · split <;> simp
theorem escF_len (mk cd : Nat → Bool) (l : List Nat) : ∀ k, (escF mk cd l k).length ≤ 3 * k
  | 0 => Nat.le_refl _
  | k + 1 => by
    have ih := escF_len mk cd l k
    unfold escF
    rw [List.length_append]
    split
    · rename_i c _
      have := esc1_len (mk k) (cd k) c
      omega
    · simp only [List.length_nil]; omega
/-- What a filter has. -/
def codF (r : Bool) (l : List Nat) (k : Nat) : Bool := match l[k]? with
  | some c => decide (c = 92 ∨ c = 42 ∨ c = 40 ∨ c = 41 ∨ c = 0 ∨ 127 < c ∧ r = false)
  | none => false
theorem filter_esc (r : Bool) (l : List Nat) : ∀ k, k ≤ l.length → escF (fun _ => false) (codF r l) l k = filterE r (l.take k)
  | 0, _ => rfl
  | k + 1, h => by
    have hk : k < l.length := by omega
    have ih := filter_esc r l k (by omega)
    conv => lhs; unfold escF
    rw [ih, List.getElem?_eq_getElem hk, List.take_succ_eq_append_getElem hk, filter_app]
    congr 1
    show _ = filt1 r l[k] ++ []
    rw [List.append_nil]
    unfold esc1 filt1 codF
    simp only [List.getElem?_eq_getElem hk, decide_eq_true_eq]
    obtain ⟨c, hc⟩ : ∃ c, l[k] = c := ⟨_, rfl⟩
    rw [hc]
    by_cases h1 : c = 92 ∨ c = 42 ∨ c = 40 ∨ c = 41 ∨ c = 0 ∨ 127 < c ∧ r = false
    · rw [if_pos h1, if_pos (by rcases h1 with h | h | h | h | h | h <;> simp [h])]
      rfl
    · rw [if_neg h1, if_neg (show ¬ (false = true) from Bool.false_ne_true), if_neg (fun h2 => h1 (by rcases h2 with h | h | h | h | h | h <;> simp [h]))]
/-- What a name has. -/
def codP (r : Bool) (l : List Nat) (k : Nat) : Bool := match l[k]? with
  | some c => decide (c < 32 ∨ c = 127 ∨ 127 < c ∧ r = false)
  | none => false
def mrkP (l : List Nat) (k : Nat) : Bool := match l[k]? with
  | some c => decide (c = 32 ∧ (k = 0 ∨ k + 1 = l.length) ∨ c = 35 ∧ k = 0 ∨ stopE c = true ∨ c = 92)
  | none => false
theorem put_from (r : Bool) (l : List Nat) : ∀ k, k ≤ l.length → escF (mrkP l) (codP r l) l k ++ putE r (decide (k = 0)) (l.drop k) = putE r true l
  | 0, _ => rfl
  | k + 1, h => by
    have hk : k < l.length := by omega
    have ih := put_from r l k (by omega)
    rw [← ih]
    conv => lhs; unfold escF
    rw [List.getElem?_eq_getElem hk, List.append_assoc, List.drop_eq_getElem_cons hk]
    congr 1
    show esc1 _ _ _ ++ putE r (decide (k + 1 = 0)) _ = put1 r (decide (k = 0)) ((l.drop (k + 1)).isEmpty) l[k] ++ putE r false (l.drop (k + 1))
    congr 1
    have he : (l.drop (k + 1)).isEmpty = decide (k + 1 = l.length) := by
      refine Bool.eq_iff_iff.2 ?_
      simp only [List.isEmpty_iff, decide_eq_true_iff, List.drop_eq_nil_iff]
      omega
    rw [he]
    unfold esc1 put1 codP mrkP
    simp only [List.getElem?_eq_getElem hk, decide_eq_true_eq]
    obtain ⟨c, hc⟩ : ∃ c, l[k] = c := ⟨_, rfl⟩
    rw [hc]
    by_cases h1 : stopE c = true ∨ c = 92 ∨ c = 32 ∧ (k = 0 ∨ k + 1 = l.length) ∨ c = 35 ∧ k = 0
    · have h2 : ¬ (c < 32 ∨ c = 127 ∨ 127 < c ∧ r = false) := by
        have h3 : stopE c = true → 32 ≤ c ∧ c < 127 := fun h => by
          unfold stopE at h
          have := of_decide_eq_true h
          omega
        rcases h1 with h1 | h1 | h1 | h1
        · have := h3 h1; omega
        · omega
        · omega
        · omega
      have h4 : c = 32 ∧ (k = 0 ∨ k + 1 = l.length) ∨ c = 35 ∧ k = 0 ∨ stopE c = true ∨ c = 92 := by
        rcases h1 with h1 | h1 | h1 | h1
        · exact .inr (.inr (.inl h1))
        · exact .inr (.inr (.inr h1))
        · exact .inl h1
        · exact .inr (.inl h1)
      rw [if_neg h2, if_pos h4, if_pos h1]
      rfl
    · have h4 : ¬ (c = 32 ∧ (k = 0 ∨ k + 1 = l.length) ∨ c = 35 ∧ k = 0 ∨ stopE c = true ∨ c = 92) := fun h => h1 (by
        rcases h with h | h | h | h
        · exact .inr (.inr (.inl h))
        · exact .inr (.inr (.inr h))
        · exact .inl h
        · exact .inr (.inl h))
      rw [if_neg h4, if_neg h1]
      rfl
theorem put_esc (r : Bool) (l : List Nat) : escF (mrkP l) (codP r l) l l.length = putE r true l := by
  have := put_from r l l.length (Nat.le_refl _)
  rw [List.drop_eq_nil_of_le (Nat.le_refl _)] at this
  rw [← this]
  show _ = _ ++ []
  rw [List.append_nil]
end Go.Proofs.YtbdbgiecfkgimaaDoor
