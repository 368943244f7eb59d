/-
  Put and PutLen at the nil slice, the values written out; a length's lowest 31 bits.
-/
import Derived.Test.YtkffgdndglfcfaaGreatDoorPut
namespace Go.Proofs.YtkffgdndglfcfaaGreatDoor
open Go.RowKit

theorem put_out (A : Option Addr) (cp : Nat) (l : List Nat) (c n : Int) (m : Bool) (w : World) (hs : Src w w.heap.size A cp l) (hl : l.length ≤ 1048000) (hr : RightT c n) :
    Calls Tryz.prog 69 #[.slice A l.length cp, .agg #[.int .i64 c, .bool m, .int .i64 n]] w fun e w' =>
      ∃ A' c', e = .returned (.slice A' (l ++ tagB c m n).length c') ∧ Own w' w.heap.size (.slice A' (l ++ tagB c m n).length c') (l ++ tagB c m n) ∧ Below w.heap.size w w' :=
  (put_yes A cp l c n m w hs hl hr).mono fun e w' ⟨v, he, ho, hb⟩ => by
    obtain ⟨A', c', rfl, _⟩ := ho.form
    exact ⟨A', c', he, ho, hb⟩
theorem put_same (A : Option Addr) (cp : Nat) (l : List Nat) (c n : Int) (m : Bool) (w : World) (hs : Src w w.heap.size A cp l) (hl : l.length ≤ 1048000) (hr : ¬ RightT c n) :
    Calls Tryz.prog 69 #[.slice A l.length cp, .agg #[.int .i64 c, .bool m, .int .i64 n]] w fun e w' =>
      ∃ A' c', e = .returned (.slice A' l.length c') ∧ Own w' w.heap.size (.slice A' l.length c') l ∧ Below w.heap.size w w' :=
  (put_no A cp l c n m w hs hl hr).mono fun e w' ⟨v, he, ho, hb⟩ => by
    obtain ⟨A', c', rfl, _⟩ := ho.form
    exact ⟨A', c', he, ho, hb⟩
theorem putLen_out (A : Option Addr) (cp : Nat) (l : List Nat) (n : Int) (w : World) (hs : Src w w.heap.size A cp l) (hl : l.length ≤ 1048000) (hn : n ≤ 9223372036854775807) :
    Calls Tryz.prog 68 #[.slice A l.length cp, .int .i64 n] w fun e w' =>
      ∃ A' c', e = .returned (.slice A' (l ++ lenB n).length c') ∧ Own w' w.heap.size (.slice A' (l ++ lenB n).length c') (l ++ lenB n) ∧ Below w.heap.size w w' := by
  have h : Calls Tryz.prog 68 #[.slice A l.length cp, .int .i64 n] w fun e w' => ∃ v, e = .returned v ∧ Own w' w.heap.size v (l ++ lenB n) ∧ Below w.heap.size w w' := by
    by_cases h0 : n < 0
    · exact putLen_neg A cp l n w hs hl h0
    · obtain ⟨n', rfl⟩ := Int.eq_ofNat_of_zero_le (by omega : 0 ≤ n)
      by_cases h1 : n' < 128
      · exact putLen_short A cp l n' w hs hl h1
      · exact putLen_long A cp l n' w hs hl (by omega) (by omega)
  exact h.mono fun e w' ⟨v, he, ho, hb⟩ => by
    obtain ⟨A', c', rfl, _⟩ := ho.form
    exact ⟨A', c', he, ho, hb⟩
theorem put_nil (c n : Int) (m : Bool) (w : World) (hr : RightT c n) :
    Calls Tryz.prog 69 #[.slice none 0 0, .agg #[.int .i64 c, .bool m, .int .i64 n]] w fun e w' =>
      ∃ A' c', e = .returned (.slice A' (tagB c m n).length c') ∧ Own w' w.heap.size (.slice A' (tagB c m n).length c') (tagB c m n) ∧ Below w.heap.size w w' :=
  put_out none 0 [] c n m w (Src.none_ _ _) (by simp) hr
theorem putLen_nil (n : Int) (w : World) (hn : n ≤ 9223372036854775807) :
    Calls Tryz.prog 68 #[.slice none 0 0, .int .i64 n] w fun e w' =>
      ∃ A' c', e = .returned (.slice A' (lenB n).length c') ∧ Own w' w.heap.size (.slice A' (lenB n).length c') (lenB n) ∧ Below w.heap.size w w' :=
  putLen_out none 0 [] n w (Src.none_ _ _) (by simp) hn

theorem and31 (n : Int) : bits .and .i64 n 2147483647 = n % 2147483648 := by
  show IntKind.i64.wrap ((BitVec.ofInt 64 n &&& BitVec.ofInt 64 2147483647).toNat : Int) = _
  have e : (BitVec.ofInt 64 2147483647).toNat = 2 ^ 31 - 1 := by decide
  have e2 : ((BitVec.ofInt 64 n).toNat : Int) = n % 18446744073709551616 := by
    rw [BitVec.toNat_ofInt]
    omega
  rw [BitVec.toNat_and, e, Nat.and_two_pow_sub_one_eq_mod]
  rw [IntWalk.i64_in _ (by omega)]
  omega

theorem tagB_len (c n : Int) (m : Bool) : (tagB c m n).length = if n < 31 then 1 else 1 + count 7 n.toNat := by
  unfold tagB
  split
  · rfl
  · rw [List.length_cons, row_len, Nat.add_comm]
theorem lenB_len (n : Int) : (lenB n).length = if n < 0 then 0 else if n < 128 then 1 else 1 + count 8 n.toNat := by
  unfold lenB
  split
  · rfl
  · split
    · rfl
    · rw [List.length_cons, row_len, Nat.add_comm]

/-- n shifted down to nothing, w bits a time: how often. -/
theorem count_shift (wd n j : Nat) (hw : 0 < wd) (h0 : n ≠ 0) (h : n < 2 ^ 64) (hj : j ≤ count wd n) : (n / (2 ^ wd) ^ j = 0 ↔ j = count wd n) := by
  have hb : 1 < 2 ^ wd := Nat.one_lt_two_pow (by omega)
  constructor
  · intro h1
    rcases Nat.lt_or_ge j (count wd n) with hlt | hge
    · have hc := count_ge wd n hw h0 h
      have hp := Nat.pow_le_pow_right (n := 2 ^ wd) (by omega) (show j ≤ count wd n - 1 by omega)
      have := Nat.div_pos (Nat.le_trans hp hc) (Nat.pow_pos (by omega))
      omega
    · omega
  · rintro rfl
    exact Nat.div_eq_of_lt (count_lt wd n hw h0 h)
theorem shift_step (n b j : Nat) : n / b ^ j / b = n / b ^ (j + 1) := by rw [Nat.div_div_eq_div_mul, Nat.pow_succ]
end Go.Proofs.YtkffgdndglfcfaaGreatDoor
