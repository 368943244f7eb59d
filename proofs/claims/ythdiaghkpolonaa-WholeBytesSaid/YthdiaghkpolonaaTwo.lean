/-
  Plain: an integer's bytes in two's complement, the shortest form, and the number of bytes. Nothing here speaks of a program.
-/
import Derived.Test.YthdiaghkpolonaaNum
namespace Go.Proofs.Ythdiaghkpolonaa

def beW (l : List Nat) : Nat := l.foldl (fun a c => a * 256 + c) 0
theorem beW_foldl (l : List Nat) : ∀ a : Nat, l.foldl (fun a c => a * 256 + c) a = a * 256 ^ l.length + beW l := by
  unfold beW
  induction l with
  | nil => intro a; simp
  | cons c r ih =>
    intro a
    rw [List.foldl_cons, List.foldl_cons, ih (a * 256 + c), ih (0 * 256 + c), List.length_cons, Nat.pow_succ, Nat.add_mul, Nat.zero_mul, Nat.zero_add, Nat.mul_assoc, Nat.mul_comm 256, ← Nat.add_assoc]
theorem beW_cons (c : Nat) (r : List Nat) : beW (c :: r) = c * 256 ^ r.length + beW r := by
  rw [beW, List.foldl_cons, beW_foldl, Nat.zero_mul, Nat.zero_add]
theorem beW_snoc (l : List Nat) (c : Nat) : beW (l ++ [c]) = beW l * 256 + c := by simp [beW]
theorem beW_lt : ∀ l : List Nat, (∀ x ∈ l, x < 256) → beW l < 256 ^ l.length
  | [], _ => by simp [beW]
  | c :: r, h => by
    have h1 := h c (List.mem_cons_self ..)
    have h2 := beW_lt r (fun x hx => h x (List.mem_cons_of_mem _ hx))
    rw [beW_cons, List.length_cons, Nat.pow_succ]
    have := Nat.mul_le_mul_right (256 ^ r.length) (show c ≤ 255 by omega)
    omega
theorem beW_row (n : Nat) : ∀ k, beW (row same 256 n k) = n % 256 ^ k
  | 0 => by simp [row, beW, Nat.mod_one]
  | k + 1 => by
    rw [row, beW_cons, beW_row n k, row_len, same, Nat.pow_succ, Nat.mod_mul, Nat.mul_comm, Nat.add_comm]
/-- The number of bytes in two's complement. -/
def sgn (l : List Nat) : Int :=
  match l with
  | [] => 0
  | c :: r => if 128 ≤ c then (beW (c :: r) : Int) - (256 ^ (r.length + 1) : Nat) else (beW (c :: r) : Int)
theorem sgn_cons (c : Nat) (r : List Nat) :
    sgn (c :: r) = if 128 ≤ c then (beW (c :: r) : Int) - (256 ^ (r.length + 1) : Nat) else (beW (c :: r) : Int) := rfl
/-- Could the first byte be left out? -/
def longW (l : List Nat) : Bool :=
  match l with
  | a :: b :: _ => (decide (a = 0) && decide (b < 128)) || (decide (a = 255) && decide (127 < b))
  | _ => false
def stripW : List Nat → List Nat
  | [] => []
  | [a] => [a]
  | a :: b :: r => if longW (a :: b :: r) then stripW (b :: r) else a :: b :: r
theorem sgn_drop (a b : Nat) (r : List Nat) (h : longW (a :: b :: r) = true) : sgn (a :: b :: r) = sgn (b :: r) := by
  simp only [longW, Bool.or_eq_true, Bool.and_eq_true, decide_eq_true_eq] at h
  rw [sgn_cons, sgn_cons]
  rcases h with ⟨rfl, hb⟩ | ⟨rfl, hb⟩
  · rw [if_neg (by omega), if_neg (by omega), beW_cons, Nat.zero_mul, Nat.zero_add]
  · rw [if_pos (by omega), if_pos (by omega), beW_cons, List.length_cons, Nat.pow_succ 256 (r.length + 1)]
    omega
theorem strip_sgn : ∀ l : List Nat, sgn (stripW l) = sgn l
  | [] => rfl
  | [_] => rfl
  | a :: b :: r => by
    unfold stripW
    split
    · rename_i h
      rw [strip_sgn (b :: r), sgn_drop a b r h]
    · rfl
theorem strip_short : ∀ l : List Nat, longW (stripW l) = false
  | [] => rfl
  | [_] => rfl
  | a :: b :: r => by
    unfold stripW
    split
    · exact strip_short (b :: r)
    · rename_i h
      simpa using h
theorem strip_len : ∀ l : List Nat, (stripW l).length ≤ l.length ∧ (l ≠ [] → 1 ≤ (stripW l).length)
  | [] => ⟨Nat.le_refl _, fun h => absurd rfl h⟩
  | [_] => ⟨Nat.le_refl _, fun _ => Nat.le_refl _⟩
  | a :: b :: r => by
    unfold stripW
    split
    · have := strip_len (b :: r)
      exact ⟨Nat.le_trans this.1 (by simp), fun _ => this.2 (by simp)⟩
    · exact ⟨Nat.le_refl _, fun _ => by simp⟩
theorem strip_mem : ∀ l : List Nat, ∀ x ∈ stripW l, x ∈ l
  | [], _, h => h
  | [_], _, h => h
  | a :: b :: r, x, h => by
    unfold stripW at h
    split at h
    · exact List.mem_cons_of_mem _ (strip_mem (b :: r) x h)
    · exact h
/-- The number's 64 bits. -/
def low64 (n : Int) : Nat := (n % 18446744073709551616).toNat
/-- The document's bytes of n. -/
def putW (n : Int) : List Nat := stripW (row same 256 (low64 n) 8)
/-- The document's number of bytes, or its error. -/
def rdW (l : List Nat) : Int × Nat := if l = [] ∨ longW l = true then (0, 11) else if 8 < l.length then (0, 3) else (sgn l, 0)
theorem low64_lt (n : Int) : low64 n < 18446744073709551616 := by unfold low64; omega
theorem row_byte (n k : Nat) : ∀ x ∈ row same 256 n k, x < 256 := row_lt same 256 n 256 (by decide) (fun _ _ h => h) k
theorem putW_byte (n : Int) : ∀ x ∈ putW n, x < 256 := fun x hx => row_byte _ _ x (strip_mem _ x hx)
theorem sgn_row (n : Int) (h1 : -9223372036854775808 ≤ n) (h2 : n ≤ 9223372036854775807) : sgn (row same 256 (low64 n) 8) = n := by
  have hb : beW (row same 256 (low64 n) 8) = low64 n := by
    rw [beW_row, show 256 ^ 8 = 18446744073709551616 from by decide]
    exact Nat.mod_eq_of_lt (low64_lt n)
  have hl := low64_lt n
  rw [row] at hb ⊢
  rw [sgn, hb, row_len, show 256 ^ (7 + 1) = 18446744073709551616 from by decide]
  have hh : same (low64 n / 256 ^ 7 % 256) (7 == 0) = low64 n / 72057594037927936 := by
    rw [same, show 256 ^ 7 = 72057594037927936 from by decide]
    omega
  rw [hh]
  unfold low64 at hl ⊢
  split <;> omega
theorem putW_back (n : Int) (h1 : -9223372036854775808 ≤ n) (h2 : n ≤ 9223372036854775807) : rdW (putW n) = (n, 0) := by
  have hl := strip_len (row same 256 (low64 n) 8)
  have h0 := hl.2 (by rw [row]; simp)
  rw [row_len] at hl
  unfold rdW putW
  rw [if_neg (by
    rintro (h | h)
    · rw [h] at h0
      simp at h0
    · rw [strip_short] at h
      cases h), if_neg (by omega), strip_sgn, sgn_row n h1 h2]
theorem putW_len (n : Int) : 1 ≤ (putW n).length ∧ (putW n).length ≤ 8 := by
  have hl := strip_len (row same 256 (low64 n) 8)
  rw [row_len] at hl
  exact ⟨hl.2 (by rw [row]; simp), hl.1⟩
/-- One sign byte more is one too many. -/
theorem rdW_long (c : Nat) (r : List Nat) (hc : c < 256) : rdW (c / 128 * 255 :: c :: r) = (0, 11) := by
  unfold rdW
  rw [if_pos]
  right
  simp only [longW, Bool.or_eq_true, Bool.and_eq_true, decide_eq_true_eq]
  omega

/-- The number of the first k bytes of l, whose sign is neg. -/
def part (neg : Bool) (l : List Nat) (k : Nat) : Int := (if neg then -((256 ^ k : Nat) : Int) else 0) + (beW (l.take k) : Int)
theorem part_zero (neg : Bool) (l : List Nat) : part neg l 0 = if neg then -1 else 0 := by cases neg <;> simp [part, beW]
theorem part_succ (neg : Bool) (l : List Nat) (k : Nat) (h : k < l.length) : part neg l (k + 1) = part neg l k * 256 + (l[k] : Int) := by
  unfold part
  rw [List.take_succ_eq_append_getElem h, beW_snoc, Nat.pow_succ]
  cases neg
  · simp
  · simp only [if_true]
    omega
theorem part_full (l : List Nat) (c : Nat) (r : List Nat) (h : l = c :: r) : part (decide (128 ≤ c)) l l.length = sgn l := by
  subst h
  unfold part sgn
  rw [List.take_length, List.length_cons]
  by_cases hc : 128 ≤ c
  · simp [hc]
    omega
  · simp [hc]
theorem part_range (c : Nat) (r : List Nat) (hb : ∀ x ∈ c :: r, x < 256) (k : Nat) (hk : k ≤ 7) (hl : k ≤ (c :: r).length) :
    -36028797018963968 ≤ part (decide (128 ≤ c)) (c :: r) k ∧ part (decide (128 ≤ c)) (c :: r) k < 36028797018963968 := by
  unfold part
  rcases k with _ | k
  · by_cases hc : 128 ≤ c <;> simp [hc, beW]
  · have hlt := beW_lt (r.take k) (fun x hx => hb x (List.mem_cons_of_mem _ (List.mem_of_mem_take hx)))
    have hc := hb c (List.mem_cons_self ..)
    rw [List.length_cons] at hl
    rw [List.take_succ_cons, beW_cons, List.length_take, Nat.min_eq_left (by omega)]
    rw [List.length_take, Nat.min_eq_left (by omega)] at hlt
    have hp : 256 ^ k ≤ 256 ^ 6 := Nat.pow_le_pow_right (by decide) (by omega)
    rw [show 256 ^ 6 = 281474976710656 from by decide] at hp
    rw [Nat.pow_succ]
    generalize beW (r.take k) = B at hlt ⊢
    by_cases h : 128 ≤ c
    · rw [if_pos (decide_eq_true h)]
      have h1 := Nat.mul_le_mul_right (256 ^ k) h
      have h2 := Nat.mul_le_mul_right (256 ^ k) (show c ≤ 255 by omega)
      generalize c * 256 ^ k = Q at h1 h2 ⊢
      generalize 256 ^ k = P at hlt hp h1 h2 ⊢
      omega
    · rw [if_neg (by simpa using h)]
      have h2 := Nat.mul_le_mul_right (256 ^ k) (show c ≤ 127 by omega)
      generalize c * 256 ^ k = Q at h2 ⊢
      generalize 256 ^ k = P at hlt hp h2 ⊢
      omega
end Go.Proofs.Ythdiaghkpolonaa
