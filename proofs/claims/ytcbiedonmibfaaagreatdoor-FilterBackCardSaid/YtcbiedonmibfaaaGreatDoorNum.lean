/-
  Plain numbers: the digits of a number in a base, the most significant first, and how many it has. Nothing here speaks of a program.
-/
import Derived.Lib.BitFns
import Derived.Lib.ItoaNum
namespace Go.Proofs.YtcbiedonmibfaaaGreatDoor
def row (f : Nat → Bool → Nat) (b n : Nat) : Nat → List Nat
 | 0 => []
 | G + 1 => f (n / b ^ G % b) (G == 0) :: row f b n G
theorem row_len (f : Nat → Bool → Nat) (b n : Nat) : ∀ G, (row f b n G).length = G
 | 0 => rfl
 | G + 1 => by rw [row, List.length_cons, row_len f b n G]
theorem row_drop (f : Nat → Bool → Nat) (b n : Nat) : ∀ G k, k ≤ G → (row f b n G).drop (G - k) = row f b n k
 | 0, k, h => by
   obtain rfl : k = 0 := by omega
   rfl
 | G + 1, k, h => by
   by_cases e : k = G + 1
   · subst e
     simp
   · rw [show G + 1 - k = (G - k) + 1 from by omega, row, List.drop_succ_cons]
     exact row_drop f b n G k (by omega)
theorem row_take (f : Nat → Bool → Nat) (b n G k : Nat) (h : k + 1 ≤ G) :
 (row f b n G).take (G - k) = (row f b n G).take (G - (k + 1)) ++ [f (n / b ^ k % b) (k == 0)] := by
 rw [show G - k = (G - (k + 1)) + 1 from by omega, List.take_add_one, ← List.head?_drop, row_drop f b n G (k + 1) h]
 rfl
def same (d : Nat) (_ : Bool) : Nat := d
def more (d : Nat) (last : Bool) : Nat := if last then d else d + 128
theorem row_lt (f : Nat → Bool → Nat) (b n B : Nat) (hb : 0 < b) (hf : ∀ d l, d < b → f d l < B) : ∀ G, ∀ x ∈ row f b n G, x < B
 | 0, x, h => by cases h
 | G + 1, x, h => by
   rw [row, List.mem_cons] at h
   rcases h with rfl | h
   · exact hf _ _ (Nat.mod_lt _ hb)
   · exact row_lt f b n B hb hf G x h
def count (w n : Nat) : Nat := (Lib.bitLen n + w - 1) / w
theorem bitLen_bounds (n : Nat) (h0 : n ≠ 0) (h : n < 2 ^ 64) : 1 ≤ Lib.bitLen n ∧ 2 ^ (Lib.bitLen n - 1) ≤ n ∧ n < 2 ^ Lib.bitLen n := Lib.bitLenAux_bounds 64 n h h0
theorem count_pos (w n : Nat) (hw : 0 < w) (h0 : n ≠ 0) (h : n < 2 ^ 64) : 1 ≤ count w n := by
 have := (bitLen_bounds n h0 h).1
 unfold count
 rw [Nat.le_div_iff_mul_le hw]
 omega
theorem count_lt (w n : Nat) (hw : 0 < w) (h0 : n ≠ 0) (h : n < 2 ^ 64) : n < (2 ^ w) ^ count w n := by
 have hb := (bitLen_bounds n h0 h).2.2
 rw [← Nat.pow_mul]
 refine Nat.lt_of_lt_of_le hb (Nat.pow_le_pow_right (by omega) ?_)
 unfold count
 have h1 := Nat.div_add_mod (Lib.bitLen n + w - 1) w
 have h2 := Nat.mod_lt (Lib.bitLen n + w - 1) hw
 omega
theorem count_ge (w n : Nat) (hw : 0 < w) (h0 : n ≠ 0) (h : n < 2 ^ 64) : (2 ^ w) ^ (count w n - 1) ≤ n := by
 have hb := bitLen_bounds n h0 h
 have hp := count_pos w n hw h0 h
 rw [← Nat.pow_mul]
 refine Nat.le_trans (Nat.pow_le_pow_right (by omega) ?_) hb.2.1
 have h1 : count w n * w ≤ Lib.bitLen n + w - 1 := Nat.div_mul_le_self _ _
 rw [Nat.mul_sub, Nat.mul_one, Nat.mul_comm]
 omega
theorem count_is (w n G : Nat) (hw : 0 < w) (h0 : n ≠ 0) (h : n < 2 ^ 64) (hG : 0 < G) (h1 : (2 ^ w) ^ (G - 1) ≤ n) (h2 : n < (2 ^ w) ^ G) : count w n = G := by
 have a := count_lt w n hw h0 h
 have b := count_ge w n hw h0 h
 have hp := count_pos w n hw h0 h
 have hb : 1 < 2 ^ w := Nat.one_lt_two_pow (by omega)
 rcases Nat.lt_trichotomy (count w n) G with hlt | he | hgt
 · have := Nat.pow_le_pow_right (n := 2 ^ w) (by omega) (show count w n ≤ G - 1 by omega)
   omega
 · exact he
 · have := Nat.pow_le_pow_right (n := 2 ^ w) (by omega) (show G ≤ count w n - 1 by omega)
   omega
end Go.Proofs.YtcbiedonmibfaaaGreatDoor
