/-
  Plain: what is put is read back, whatever follows it; without its last byte it has not ended.
-/
import Derived.Test.YtgdoepkoakpnbaaReadTag
namespace Go.Proofs.Ytgdoepkoakpnbaa

theorem rn_row (n : Nat) (behind : List Nat) : ∀ k f i, 1 ≤ k → k ≤ f → (i = 0 → n / 128 ^ k = 0 ∧ 1 ≤ n / 128 ^ (k - 1) ∧ 31 ≤ n) →
    rn f i (n / 128 ^ k) (row more 128 n k ++ behind) = (n, i + k, 0)
  | 0, _, _, h, _, _ => absurd h (by omega)
  | k + 1, 0, _, _, h, _ => absurd h (by omega)
  | k + 1, f + 1, i, _, hf, hi => by
    have hd : n / 128 ^ (k + 1) = n / 128 ^ k / 128 := (shift_step n 128 k).symm
    rw [row, List.cons_append, rn_cons]
    by_cases hk : k = 0
    · subst hk
      have e : more (n / 128 ^ 0 % 128) (0 == 0) = n % 128 := by simp [more]
      have hn : n / 128 ^ (0 + 1) = n / 128 := by simp
      rw [e, if_neg (by
        rintro ⟨h0, h1⟩
        have := hi h0
        rw [hn] at this
        omega), if_pos (by omega), hn]
      congr 1
      · omega
    · have e : more (n / 128 ^ k % 128) (k == 0) = n / 128 ^ k % 128 + 128 := by
        have : (k == 0) = false := by simpa using hk
        rw [this]; rfl
      rw [e, if_neg (by
        rintro ⟨h0, h1⟩
        have := hi h0
        rw [hd, Nat.add_sub_cancel] at this
        omega), if_neg (by omega), show n / 128 ^ (k + 1) * 128 + (n / 128 ^ k % 128 + 128) % 128 = n / 128 ^ k from by rw [hd]; omega]
      rw [rn_row n behind k f (i + 1) (by omega) (by omega) (by omega)]
      congr 2
      omega

theorem rn_cut (n : Nat) : ∀ k f i a, 1 ≤ k → k ≤ f → (i = 0 → n / 128 ^ k = 0 ∧ 1 ≤ n / 128 ^ (k - 1)) → rn f i a ((row more 128 n k).take (k - 1)) = (0, 0, 10)
  | 0, _, _, _, h, _, _ => absurd h (by omega)
  | k + 1, 0, _, _, _, h, _ => absurd h (by omega)
  | 0 + 1, f + 1, i, a, _, _, _ => rfl
  | (k + 1) + 1, f + 1, i, a, _, hf, hi => by
    have hd : n / 128 ^ (k + 1 + 1) = n / 128 ^ (k + 1) / 128 := (shift_step n 128 (k + 1)).symm
    have e : more (n / 128 ^ (k + 1) % 128) (k + 1 == 0) = n / 128 ^ (k + 1) % 128 + 128 := rfl
    rw [Nat.add_sub_cancel, row, List.take_succ_cons, rn_cons, e, if_neg (by
        rintro ⟨h0, h1⟩
        have := hi h0
        rw [hd, Nat.add_sub_cancel] at this
        omega), if_neg (by omega)]
    have := rn_cut n (k + 1) f (i + 1) (a * 128 + (n / 128 ^ (k + 1) % 128 + 128) % 128) (by omega) (by omega) (by omega)
    rwa [Nat.add_sub_cancel] at this

theorem count7_le (n : Nat) (h0 : n ≠ 0) (h : n ≤ 268435455) : count 7 n ≤ 4 := by
  have := count_ge 7 n (by decide) h0 (by omega)
  rcases Nat.lt_or_ge 4 (count 7 n) with h1 | h1
  · have h2 := Nat.pow_le_pow_right (n := 2 ^ 7) (by decide) (show 4 ≤ count 7 n - 1 by omega)
    have h3 : (2 ^ 7) ^ 4 = 268435456 := by decide
    omega
  · exact h1
theorem count8_le (n : Nat) (h0 : n ≠ 0) (h : n ≤ 2147483647) : count 8 n ≤ 4 := by
  have := count_ge 8 n (by decide) h0 (by omega)
  rcases Nat.lt_or_ge 4 (count 8 n) with h1 | h1
  · have h2 := Nat.pow_le_pow_right (n := 2 ^ 8) (by decide) (show 4 ≤ count 8 n - 1 by omega)
    have h3 : (2 ^ 8) ^ 4 = 4294967296 := by decide
    omega
  · exact h1

theorem tagB_pos (c n : Int) (m : Bool) : 1 ≤ (tagB c m n).length := by
  rw [tagB_len]
  split <;> omega
theorem headB_mod (c : Int) (m : Bool) (hc : 0 ≤ c ∧ c ≤ 3) (x : Nat) (hx : x < 32) :
    (headB c m + x) % 32 = x ∧ (headB c m + x) / 64 = c.toNat ∧ ((headB c m + x) / 32 % 2 == 1) = m ∧ headB c m + x < 256 := by
  unfold headB
  cases m
  · refine ⟨by simp; omega, by simp; omega, ?_, by simp; omega⟩
    simp
    omega
  · refine ⟨by simp; omega, by simp; omega, ?_, by simp; omega⟩
    simp
    omega

/-- What is put is read back. -/
theorem rdT_back (c n : Int) (m : Bool) (hr : Go.Proofs.Ytgdoepkoakpnbaa.RightT c n) (behind : List Nat) : rdT (tagB c m n ++ behind) = (c.toNat, m, n.toNat, (tagB c m n).length, 0) := by
  obtain ⟨h1, h2, h3, h4⟩ := hr
  rw [tagB_len]
  unfold tagB
  by_cases hn : n < 31
  · obtain ⟨e1, e2, e3, _⟩ := headB_mod c m ⟨h1, h2⟩ n.toNat (by omega)
    rw [if_pos hn, if_pos hn, List.cons_append, rdT, if_neg (by omega), e1, e2, e3]
  · obtain ⟨e1, e2, e3, _⟩ := headB_mod c m ⟨h1, h2⟩ 31 (by omega)
    have hp := count_pos 7 n.toNat (by decide) (by omega) (by omega)
    have hl := count7_le n.toNat (by omega) (by omega)
    have hz : n.toNat / 128 ^ count 7 n.toNat = 0 := (count_shift 7 n.toNat _ (by decide) (by omega) (by omega) (Nat.le_refl _)).2 rfl
    have hg : 1 ≤ n.toNat / 128 ^ (count 7 n.toNat - 1) := by
      have := count_ge 7 n.toNat (by decide) (by omega) (by omega)
      exact (Nat.le_div_iff_mul_le (Nat.pow_pos (by decide))).2 (by rw [Nat.one_mul]; exact this)
    have hrn := rn_row n.toNat behind (count 7 n.toNat) 4 0 hp hl (fun _ => ⟨hz, hg, by omega⟩)
    rw [hz, Nat.zero_add] at hrn
    rw [if_neg hn, if_neg hn, List.cons_append, rdT, if_pos e1, hrn, if_pos rfl, e2, e3]
theorem rdT_cut (c n : Int) (m : Bool) (hr : Go.Proofs.Ytgdoepkoakpnbaa.RightT c n) : rdT ((tagB c m n).take ((tagB c m n).length - 1)) = (0, false, 0, 0, 10) := by
  obtain ⟨h1, h2, h3, h4⟩ := hr
  rw [tagB_len]
  unfold tagB
  by_cases hn : n < 31
  · rw [if_pos hn, if_pos hn]
    rfl
  · obtain ⟨e1, _, _, _⟩ := headB_mod c m ⟨h1, h2⟩ 31 (by omega)
    have hp := count_pos 7 n.toNat (by decide) (by omega) (by omega)
    have hl := count7_le n.toNat (by omega) (by omega)
    have hz : n.toNat / 128 ^ count 7 n.toNat = 0 := (count_shift 7 n.toNat _ (by decide) (by omega) (by omega) (Nat.le_refl _)).2 rfl
    have hg : 1 ≤ n.toNat / 128 ^ (count 7 n.toNat - 1) := by
      have := count_ge 7 n.toNat (by decide) (by omega) (by omega)
      exact (Nat.le_div_iff_mul_le (Nat.pow_pos (by decide))).2 (by rw [Nat.one_mul]; exact this)
    have hrn := rn_cut n.toNat (count 7 n.toNat) 4 0 0 hp hl (fun _ => ⟨hz, hg⟩)
    rw [if_neg hn, if_neg hn, show 1 + count 7 n.toNat - 1 = (count 7 n.toNat - 1) + 1 from by omega, List.take_succ_cons, rdT, if_pos e1, hrn, if_neg (by decide)]

theorem be_row (n : Nat) : ∀ k a, a = n / 256 ^ k → (row same 256 n k).foldl (fun a c => a * 256 + c) a = n
  | 0, a, h => by simpa [row] using h
  | k + 1, a, h => by
    rw [row, List.foldl_cons]
    refine be_row n k _ ?_
    rw [h, ← shift_step n 256 k]
    unfold same
    omega
theorem lenB_pos (n : Int) (h : 0 ≤ n) : 1 ≤ (lenB n).length := by
  rw [lenB_len, if_neg (by omega)]
  split <;> omega
theorem rdL_back (n : Int) (h1 : 0 ≤ n) (h2 : n ≤ 2147483647) (behind : List Nat) : rdL (lenB n ++ behind) = (n.toNat, (lenB n).length, 0) := by
  have h0 : ¬ n < 0 := by omega
  rw [lenB_len]
  unfold lenB
  rw [if_neg h0, if_neg h0]
  by_cases hn : n < 128
  · rw [if_pos hn, if_pos hn, List.cons_append, rdL_cons, if_pos (by omega)]
  · have hp := count_pos 8 n.toNat (by decide) (by omega) (by omega)
    have hl := count8_le n.toNat (by omega) (by omega)
    have hz : n.toNat / 256 ^ count 8 n.toNat = 0 := (count_shift 8 n.toNat _ (by decide) (by omega) (by omega) (Nat.le_refl _)).2 rfl
    have hb : be ((row same 256 n.toNat (count 8 n.toNat) ++ behind).take (128 + count 8 n.toNat - 128)) = n.toNat := by
      rw [Nat.add_sub_cancel_left, List.take_append_of_le_length (by rw [row_len]; omega), List.take_of_length_le (by rw [row_len]; omega)]
      exact be_row n.toNat _ 0 hz.symm
    rw [if_neg hn, if_neg hn, List.cons_append, rdL_cons, if_neg (by omega), if_neg (by omega), if_neg (by omega), if_neg (by rw [List.length_append, row_len]; omega), hb, if_neg (by omega), Nat.add_sub_cancel_left]
theorem rdL_cut (n : Int) (h1 : 0 ≤ n) (h2 : n ≤ 2147483647) : rdL ((lenB n).take ((lenB n).length - 1)) = (0, 0, 10) := by
  have h0 : ¬ n < 0 := by omega
  rw [lenB_len]
  unfold lenB
  rw [if_neg h0, if_neg h0]
  by_cases hn : n < 128
  · rw [if_pos hn, if_pos hn]
    rfl
  · have hp := count_pos 8 n.toNat (by decide) (by omega) (by omega)
    have hl := count8_le n.toNat (by omega) (by omega)
    rw [if_neg hn, if_neg hn, show 1 + count 8 n.toNat - 1 = (count 8 n.toNat - 1) + 1 from by omega, List.take_succ_cons, rdL_cons, if_neg (by omega), if_neg (by omega), if_neg (by omega), if_pos (by rw [List.length_take, row_len]; omega)]

theorem tagB_byte (c n : Int) (m : Bool) (hr : Go.Proofs.Ytgdoepkoakpnbaa.RightT c n) : ∀ x ∈ tagB c m n, x < 256 := by
  obtain ⟨h1, h2, h3, h4⟩ := hr
  intro x hx
  unfold tagB at hx
  split at hx
  · simp only [List.mem_singleton] at hx
    rw [hx]
    exact (headB_mod c m ⟨h1, h2⟩ n.toNat (by omega)).2.2.2
  · rw [List.mem_cons] at hx
    rcases hx with rfl | hx
    · exact (headB_mod c m ⟨h1, h2⟩ 31 (by omega)).2.2.2
    · exact row_lt more 128 n.toNat 256 (by decide) (fun d l hd => by unfold more; split <;> omega) _ x hx
theorem lenB_byte (n : Int) (h2 : n ≤ 9223372036854775807) : ∀ x ∈ lenB n, x < 256 := by
  intro x hx
  unfold lenB at hx
  split at hx
  · cases hx
  · split at hx
    · simp only [List.mem_singleton] at hx
      omega
    · rw [List.mem_cons] at hx
      rcases hx with rfl | hx
      · have := Lib.bitLen_le n.toNat 64 (by omega) (by omega)
        unfold count
        omega
      · exact row_lt same 256 n.toNat 256 (by decide) (fun d l hd => hd) _ x hx
/-- Two identifiers, and two lengths, have the same bytes just if they are one. -/
theorem tagB_inj {c n c' n' : Int} {m m' : Bool} (h : Go.Proofs.Ytgdoepkoakpnbaa.RightT c n) (h' : Go.Proofs.Ytgdoepkoakpnbaa.RightT c' n') (e : tagB c m n = tagB c' m' n') : c = c' ∧ m = m' ∧ n = n' := by
  have a := rdT_back c n m h []
  rw [e, rdT_back c' n' m' h' []] at a
  simp only [Prod.mk.injEq] at a
  obtain ⟨h1, _, h3, _⟩ := h
  obtain ⟨k1, _, k3, _⟩ := h'
  exact ⟨by omega, a.2.1.symm, by omega⟩
theorem lenB_inj {n n' : Int} (h1 : 0 ≤ n) (h2 : n ≤ 2147483647) (k1 : 0 ≤ n') (k2 : n' ≤ 2147483647) (e : lenB n = lenB n') : n = n' := by
  have a := rdL_back n h1 h2 []
  rw [e, rdL_back n' k1 k2 []] at a
  simp only [Prod.mk.injEq] at a
  omega
end Go.Proofs.Ytgdoepkoakpnbaa
