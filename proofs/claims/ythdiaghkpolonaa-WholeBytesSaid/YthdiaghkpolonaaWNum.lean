/-
  Plain: a number's bytes in two's complement: the steps of reading and of writing them.
-/
import Derived.Test.YthdiaghkpolonaaMore
import Derived.Test.YthdiaghkpolonaaTwo
namespace Go.Proofs.Ythdiaghkpolonaa
open Go.RowKit

def tupW (q : Int × Nat) : Value := .tuple #[.int .i64 q.1, .int .i64 (q.2 : Int)]
theorem wrap_mod {x y : Int} (h : x % 18446744073709551616 = y % 18446744073709551616) : IntKind.i64.wrap x = IntKind.i64.wrap y := by
  unfold IntKind.wrap
  rw [show (2 ^ IntKind.i64.bits : Int) = 18446744073709551616 from by decide, h]
theorem or_low (n : Int) (c : Nat) (hc : c < 256) (h1 : -36028797018963968 ≤ n) (h2 : n < 36028797018963968) : bits .or .i64 (n * 256) (c : Int) = n * 256 + (c : Int) := by
  show IntKind.i64.wrap ((BitVec.ofInt 64 (n * 256) ||| BitVec.ofInt 64 (c : Int)).toNat : Int) = _
  have e1 : (BitVec.ofInt 64 (n * 256)).toNat = (n * 256 % 18446744073709551616).toNat := by
    rw [BitVec.toNat_ofInt]
    rfl
  have e2 : (BitVec.ofInt 64 (c : Int)).toNat = c := by
    rw [BitVec.ofInt_natCast, BitVec.toNat_ofNat, Nat.mod_eq_of_lt (by omega)]
  have h3 : (n * 256 % 18446744073709551616).toNat + c < 18446744073709551616 := by omega
  rw [BitVec.toNat_or, e1, e2, nat_join 8 _ c (by omega) (by omega)]
  rw [wrap_mod (y := n * 256 + (c : Int)) (by omega)]
  exact IntWalk.i64_in _ (by omega)

theorem rdW_err {l : List Nat} (h : l = [] ∨ longW l = true) : rdW l = (0, 11) := if_pos h
theorem rdW_big {l : List Nat} (h : ¬ (l = [] ∨ longW l = true)) (h8 : 8 < l.length) : rdW l = (0, 3) := by rw [rdW, if_neg h, if_pos h8]
theorem rdW_num {l : List Nat} (h : ¬ (l = [] ∨ longW l = true)) (h8 : ¬ 8 < l.length) : rdW l = (sgn l, 0) := by rw [rdW, if_neg h, if_neg h8]

def lenV : Value → Nat
  | .slice _ n _ => n
  | _ => 0
theorem row8_get (n : Int) (k : Nat) (hk : k < 8) : ∃ x : Nat, x < 256 ∧ n / 2 ^ (8 * (7 - k)) % 256 = (x : Int) ∧ (row same 256 (low64 n) 8).take (k + 1) = (row same 256 (low64 n) 8).take k ++ [x] := by
  refine ⟨(row same 256 (low64 n) 8)[k]'(by rw [row_len]; exact hk), row_byte _ _ _ (List.getElem_mem _), ?_, List.take_succ_eq_append_getElem (by rw [row_len]; exact hk)⟩
  have h : k = 0 ∨ k = 1 ∨ k = 2 ∨ k = 3 ∨ k = 4 ∨ k = 5 ∨ k = 6 ∨ k = 7 := by omega
  rcases h with rfl | rfl | rfl | rfl | rfl | rfl | rfl | rfl
  all_goals
    simp [row, same, low64]
    omega
theorem Src.tail {w : World} {K b off c : Nat} {x : Nat} {l : List Nat} (h : Src w K (some ⟨b, off, none⟩) c (x :: l)) : Src w K (some ⟨b, off + 1, none⟩) (c - 1) l := by
  refine ⟨by have := h.le; rw [List.length_cons] at this; omega, (by simp), fun ad e => ?_⟩
  injection e with e
  subst e
  refine ⟨fun h0 => (h.at_ _ rfl).1 (by simp), fun j n hj => ?_⟩
  have := (h.at_ _ rfl).2 (j + 1) n (by simpa using hj)
  have e1 : (⟨b, off, none⟩ : Addr).add (j + 1) = ⟨b, off + (j + 1), none⟩ := by unfold Addr.add; split <;> simp_all
  have e2 : (⟨b, off + 1, none⟩ : Addr).add j = ⟨b, off + 1 + j, none⟩ := by unfold Addr.add; split <;> simp_all
  rw [e1] at this
  rw [e2, ← this, show off + 1 + j = off + (j + 1) from by omega]
theorem strip_step2 {a b : Nat} {r : List Nat} (h : longW (a :: b :: r) = true) : stripW (a :: b :: r) = stripW (b :: r) := by
  rw [stripW, if_pos h]
theorem strip_stop2 {a b : Nat} {r : List Nat} (h : longW (a :: b :: r) = false) : stripW (a :: b :: r) = a :: b :: r := by
  rw [stripW, if_neg (by rw [h]; decide)]
theorem longW_two (a b : Nat) (r : List Nat) : longW (a :: b :: r) = ((decide (a = 0) && decide (b < 128)) || (decide (a = 255) && decide (127 < b))) := rfl

end Go.Proofs.Ythdiaghkpolonaa
