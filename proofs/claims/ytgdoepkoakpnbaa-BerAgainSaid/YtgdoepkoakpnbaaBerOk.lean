/-
  What is parsed is right, not too deep, and is put in at most as many bytes: as data.
-/
import Derived.Test.YtgdoepkoakpnbaaBerBack
namespace Go.Proofs.Ytgdoepkoakpnbaa
open Go.RowKit

theorem rn_lt2 : ∀ (f i a : Nat) (l : List Nat), (∀ x ∈ l, x < 256) → (rn f i a l).2.2 = 0 → i < (rn f i a l).2.1 ∧ (rn f i a l).1 < (a + 1) * 128 ^ ((rn f i a l).2.1 - i)
  | 0, _, _, _, _, h => by simp [rn] at h
  | f + 1, i, a, [], _, h => by simp [rn] at h
  | f + 1, i, a, c :: r, hb, h => by
    rw [rn_cons] at h ⊢
    split at h
    · simp at h
    · rename_i h1
      rw [if_neg h1]
      split at h
      · rename_i h2
        rw [if_pos h2]
        simp only [Nat.add_sub_cancel_left]
        omega
      · rename_i h2
        rw [if_neg h2]
        obtain ⟨h5, h6⟩ := rn_lt2 f (i + 1) (a * 128 + c % 128) r (fun x hx => hb x (List.mem_of_mem_tail hx)) h
        refine ⟨by omega, Nat.lt_of_lt_of_le h6 ?_⟩
        have h7 : (rn f (i + 1) (a * 128 + c % 128) r).2.1 - i = ((rn f (i + 1) (a * 128 + c % 128) r).2.1 - (i + 1)) + 1 := by omega
        rw [h7, Nat.pow_succ, Nat.mul_comm (128 ^ _), ← Nat.mul_assoc]
        exact Nat.mul_le_mul_right _ (by omega)
theorem count_le (w n k : Nat) (hw : 0 < w) (h : n < (2 ^ w) ^ k) (h64 : n < 2 ^ 64) : count w n ≤ k := by
  rcases Nat.eq_zero_or_pos n with h0 | h0
  · subst h0
    have : count w 0 = 0 := by
      unfold count
      rw [show Lib.bitLen 0 = 0 from rfl]
      exact Nat.div_eq_of_lt (by omega)
    omega
  · rcases Nat.lt_or_ge k (count w n) with h1 | h1
    · have h2 := count_ge w n hw (by omega) h64
      have h3 := Nat.pow_le_pow_right (n := 2 ^ w) (Nat.pow_pos (by decide)) (show k ≤ count w n - 1 by omega)
      omega
    · exact h1
theorem rdT_least (l : List Nat) (hb : ∀ x ∈ l, x < 256) (h : (rdT l).2.2.2.2 = 0) : (tagB ((rdT l).1 : Nat) (rdT l).2.1 ((rdT l).2.2.1 : Nat)).length ≤ (rdT l).2.2.2.1 := by
  have hok := rdT_ok l hb h
  rw [tagB_len]
  split
  · exact hok.2.2.1
  · rename_i hn
    rcases l with _ | ⟨x, r⟩
    · simp [rdT] at h
    · have H : rdT (x :: r) = if x % 32 = 31 then
        if (rn 4 0 0 r).2.2 = 0 then (x / 64, x / 32 % 2 == 1, (rn 4 0 0 r).1, 1 + (rn 4 0 0 r).2.1, 0) else (0, false, 0, 0, (rn 4 0 0 r).2.2)
        else (x / 64, x / 32 % 2 == 1, x % 32, 1, 0) := rfl
      rw [H] at h hn hok ⊢
      split at h
      · rename_i h1
        rw [if_pos h1] at hn hok ⊢
        split at h
        · rename_i h2
          rw [if_pos h2] at hn hok ⊢
          obtain ⟨h3, h4⟩ := rn_lt2 4 0 0 r (fun x hx => hb x (List.mem_cons_of_mem _ hx)) h2
          simp only [Nat.zero_add, Nat.one_mul, Nat.sub_zero] at h4
          simp only [] at hok ⊢
          have := count_le 7 (rn 4 0 0 r).1 (rn 4 0 0 r).2.1 (by decide) h4 (by omega)
          rw [Int.toNat_natCast]
          omega
        · rename_i h2
          exact absurd h h2
      · rename_i h1
        rw [if_neg h1] at hn
        simp only [] at hn
        omega
theorem rdL_least (l : List Nat) (hb : ∀ x ∈ l, x < 256) (h : (rdL l).2.2 = 0) : (lenB ((rdL l).1 : Nat)).length ≤ (rdL l).2.1 := by
  have hok := rdL_ok l h
  rw [lenB_len, if_neg (by omega)]
  split
  · exact hok.2.1
  · rename_i hn
    rcases l with _ | ⟨x, r⟩
    · simp [rdL] at h
    · have hr : ∀ x ∈ r, x < 256 := fun x hx => hb x (List.mem_cons_of_mem _ hx)
      rw [rdL_cons] at h hn hok ⊢
      by_cases h1 : x < 128
      · rw [if_pos h1] at hn
        simp only [] at hn
        omega
      · rw [if_neg h1] at h hn hok ⊢
        by_cases h2 : x = 128 ∨ x = 255
        · rw [if_pos h2] at h
          simp at h
        · rw [if_neg h2] at h hn hok ⊢
          by_cases h3 : 132 < x
          · rw [if_pos h3] at h
            simp at h
          · rw [if_neg h3] at h hn hok ⊢
            by_cases h4 : r.length < x - 128
            · rw [if_pos h4] at h
              simp at h
            · rw [if_neg h4] at h hn hok ⊢
              by_cases h5 : 2147483647 < be (r.take (x - 128))
              · rw [if_pos h5] at h
                simp at h
              · rw [if_neg h5] at hok ⊢
                simp only [] at hok ⊢
                have h6 := be_lt (r.take (x - 128)) fun y hy => hr y (List.mem_of_mem_take hy)
                rw [List.length_take, Nat.min_eq_left (by omega)] at h6
                have := count_le 8 (be (r.take (x - 128))) (x - 128) (by decide) h6 (by omega)
                rw [Int.toNat_natCast]
                omega
theorem lenB_mono (a b : Nat) (h : a ≤ b) (hb : b ≤ 2147483647) : (lenB (a : Int)).length ≤ (lenB (b : Int)).length := by
  have la := lenB_len (a : Int)
  have lb := lenB_len (b : Int)
  rw [if_neg (by omega), Int.toNat_natCast] at la lb
  rw [la, lb]
  by_cases h1 : (a : Int) < 128
  · rw [if_pos h1]
    split <;> omega
  · rw [if_neg h1, if_neg (by omega)]
    have h2 := count_lt 8 b (by decide) (by omega) (by omega)
    have h3 := count_le 8 a (count 8 b) (by decide) (Nat.lt_of_le_of_lt h h2) (by omega)
    omega
theorem maxL_bound (l : List Nat) (m : Nat) (h : ∀ x ∈ l, x ≤ m) : maxL l ≤ m := by
  induction l with
  | nil => simp [maxL]
  | cons a l ih =>
    rw [maxL, List.foldl_cons, foldl_max]
    have h1 := h a (List.mem_cons_self ..)
    have h2 := ih fun x hx => h x (List.mem_cons_of_mem _ hx)
    omega
theorem hdT_parts (l : List Nat) (hb : ∀ x ∈ l, x < 256) (h : (hdT l).2.2 = 0) : ∃ u k v, u = (rdT l).2.2.2.1 ∧ (hdT l).1 = u + k + v ∧ (hdT l).2.1 = u + k ∧ (lenB (v : Int)).length ≤ k ∧ (tagB ((rdT l).1 : Nat) (rdT l).2.1 ((rdT l).2.2.1 : Nat)).length ≤ u ∧ v ≤ 2147483647 := by
  obtain ⟨a1, a2, a3, a4, a5⟩ := hdT_ok l hb h
  have H : hdT l = if (rdL (l.drop (rdT l).2.2.2.1)).2.2 ≠ 0 then (0, 0, (rdL (l.drop (rdT l).2.2.2.1)).2.2)
      else if 16384 < (rdT l).2.2.2.1 + (rdL (l.drop (rdT l).2.2.2.1)).2.1 + (rdL (l.drop (rdT l).2.2.2.1)).1 then (0, 0, 3)
      else ((rdT l).2.2.2.1 + (rdL (l.drop (rdT l).2.2.2.1)).2.1 + (rdL (l.drop (rdT l).2.2.2.1)).1, (rdT l).2.2.2.1 + (rdL (l.drop (rdT l).2.2.2.1)).2.1, 0) := by
    unfold hdT
    rw [if_neg (by simpa using a1)]
  have hL : (rdL (l.drop (rdT l).2.2.2.1)).2.2 = 0 := by
    rw [H] at h
    split at h
    · rename_i h1
      exact absurd h h1
    · rename_i h1
      simpa using h1
  have hN : hdT l = ((rdT l).2.2.2.1 + (rdL (l.drop (rdT l).2.2.2.1)).2.1 + (rdL (l.drop (rdT l).2.2.2.1)).1, (rdT l).2.2.2.1 + (rdL (l.drop (rdT l).2.2.2.1)).2.1, 0) := by
    rw [H] at h ⊢
    rw [if_neg (by simpa using hL)] at h ⊢
    split at h
    · simp at h
    · rename_i h1
      rw [if_neg h1]
  refine ⟨_, _, (rdL (l.drop (rdT l).2.2.2.1)).1, rfl, by rw [hN], by rw [hN], rdL_least _ (fun x hx => hb x (List.mem_of_mem_drop hx)) hL, rdT_least l hb a1, (rdL_ok _ hL).1⟩
theorem El.enc_len (e : El) : e.enc.length = (tagB e.c e.m e.n).length + (lenB (e.inner.length : Int)).length + e.inner.length := by
  unfold El.enc
  rw [List.length_append, List.length_append]

theorem parse_ok : ∀ (f : Nat), (∀ (l : List Nat) (d : Nat), (∀ x ∈ l, x < 256) → (hdT l).2.2 = 0 → (hdT l).1 ≤ l.length → d ≤ 23 → 2 * l.length ≤ f → (inP f l d).2 = 0 →
      (inP f l d).1.right = true ∧ d + (inP f l d).1.deep ≤ 24 ∧ (inP f l d).1.enc.length ≤ (hdT l).1) ∧
    (∀ (l : List Nat) (d : Nat), (∀ x ∈ l, x < 256) → d ≤ 23 → 2 * l.length + 1 ≤ f → (rowP f l d).2 = 0 →
      (∀ k ∈ (rowP f l d).1, k.right = true ∧ d + 1 + k.deep ≤ 24) ∧ ((rowP f l d).1.flatMap El.enc).length ≤ l.length) := by
  intro f
  induction f with
  | zero =>
    constructor
    · intro l d hb h1 h2 hd hf h
      have := hdT_ok l hb h1
      omega
    · intro l d _ _ hf _
      omega
  | succ f ih =>
    obtain ⟨ih1, ih2⟩ := ih
    constructor
    · intro l d hb h1 h2 hd hf h
      obtain ⟨a1, a2, a3, a4, a5⟩ := hdT_ok l hb h1
      obtain ⟨u, k, v, hu, e1, e2, e3, e4, e5⟩ := hdT_parts l hb h1
      obtain ⟨t1, t2, t3, t4, t5⟩ := rdT_ok l hb a1
      have hlen : ((l.take (hdT l).1).drop (hdT l).2.1).length = v := by rw [List.length_drop, List.length_take]; omega
      have hbi : ∀ x ∈ (l.take (hdT l).1).drop (hdT l).2.1, x < 256 := fun x hx => hb x (List.mem_of_mem_take (List.mem_of_mem_drop hx))
      have hrt : RightT ((rdT l).1 : Nat) ((rdT l).2.2.1 : Nat) := ⟨by omega, by omega, by omega, by omega⟩
      rw [inP] at h ⊢
      by_cases hm : (rdT l).2.1 = false
      · rw [if_pos hm]
        refine ⟨?_, ?_, ?_⟩
        · rw [El.right_kids]
          rw [Bool.and_eq_true]
          exact ⟨(one_right _).2 ⟨hrt, fun _ => rfl, (fun h => by cases h)⟩, rfl⟩
        · show d + 1 ≤ 24
          omega
        · rw [El.enc_len]
          unfold El.inner
          simp only [Bool.false_eq_true, if_false]
          rw [hlen, ← hm]
          omega
      · rw [if_neg hm] at h ⊢
        have hm' : (rdT l).2.1 = true := by simpa using hm
        by_cases hr : (rowP f ((l.take (hdT l).1).drop (hdT l).2.1) d).2 ≠ 0
        · rw [if_pos hr] at h
          exact absurd h hr
        · rw [if_neg hr]
          have hr' : (rowP f ((l.take (hdT l).1).drop (hdT l).2.1) d).2 = 0 := by omega
          obtain ⟨g1, g2⟩ := ih2 _ d hbi hd (by rw [hlen]; omega) hr'
          rw [hlen] at g2
          obtain ⟨ks, hks⟩ : ∃ ks, ks = (rowP f ((l.take (hdT l).1).drop (hdT l).2.1) d).1 := ⟨_, rfl⟩
          rw [← hks] at g1 g2 ⊢
          have hkid : (⟨((rdT l).1 : Nat), true, ((rdT l).2.2.1 : Nat), [], Fo.of ks⟩ : El).kids = ks := Fo.list_of ks
          refine ⟨?_, ?_, ?_⟩
          · rw [El.right_kids, Bool.and_eq_true, hkid]
            exact ⟨(one_right _).2 ⟨hrt, (fun h => by cases h), fun _ => rfl⟩, List.all_eq_true.2 fun k hk => (g1 k hk).1⟩
          · rw [El.deep_kids, hkid]
            have := maxL_bound (ks.map El.deep) (23 - d) fun x hx => by
              obtain ⟨k, hk, rfl⟩ := List.mem_map.1 hx
              have := (g1 k hk).2
              omega
            omega
          · rw [El.enc_len]
            unfold El.inner
            simp only [if_true]
            rw [Fo.enc_list, Fo.list_of]
            have := lenB_mono _ v g2 e5
            rw [← hm']
            omega
    · intro l d hb hd hf h
      rw [rowP] at h ⊢
      by_cases h1 : l = []
      · rw [if_pos h1]
        exact ⟨(fun k hk => by cases hk), by simp⟩
      · rw [if_neg h1] at h ⊢
        by_cases h2 : 24 ≤ d + 1
        · rw [if_pos h2] at h
          simp at h
        · rw [if_neg h2] at h ⊢
          by_cases h3 : (hdT l).2.2 ≠ 0 ∨ l.length < (hdT l).1
          · rw [if_pos h3] at h
            simp at h
          · rw [if_neg h3] at h ⊢
            have hz : (hdT l).2.2 = 0 := by omega
            obtain ⟨a1, a2, a3, a4, a5⟩ := hdT_ok l hb hz
            have hlt : (l.take (hdT l).1).length = (hdT l).1 := by rw [List.length_take]; omega
            have hht := hdT_take l hb hz
            by_cases h4 : (inP f (l.take (hdT l).1) (d + 1)).2 ≠ 0
            · rw [if_pos h4] at h
              exact absurd h h4
            · rw [if_neg h4] at h ⊢
              obtain ⟨g1, g2, g3⟩ := ih1 (l.take (hdT l).1) (d + 1) (fun x hx => hb x (List.mem_of_mem_take hx)) (by rw [hht]; exact hz) (by rw [hht, hlt]; exact Nat.le_refl _) (by omega) (by rw [hlt]; omega) (by omega)
              rw [hht] at g3
              by_cases h5 : (rowP f (l.drop (hdT l).1) d).2 ≠ 0
              · rw [if_pos h5] at h
                exact absurd h h5
              · rw [if_neg h5]
                obtain ⟨k1, k2⟩ := ih2 (l.drop (hdT l).1) d (fun x hx => hb x (List.mem_of_mem_drop hx)) hd (by rw [List.length_drop]; omega) (by omega)
                rw [List.length_drop] at k2
                refine ⟨fun k hk => ?_, ?_⟩
                · rcases List.mem_cons.1 hk with rfl | hk
                  · exact ⟨g1, g2⟩
                  · exact k1 k hk
                · simp only [List.flatMap_cons, List.length_append]
                  omega

/-- What is parsed of any bytes is right, is not too deep, and is put in at most as many bytes. -/
theorem parP_ok (l : List Nat) (hb : ∀ x ∈ l, x < 256) (h : (parP l).2.2 = 0) : (parP l).1.right = true ∧ (parP l).1.deep ≤ 24 ∧ (parP l).1.enc.length ≤ (parP l).2.1 ∧ (parP l).2.1 ≤ l.length ∧ (parP l).2.1 ≤ 16384 := by
  unfold parP at h ⊢
  by_cases h1 : (hdT l).2.2 ≠ 0
  · rw [if_pos h1] at h
    exact absurd h h1
  · rw [if_neg h1] at h ⊢
    have hz : (hdT l).2.2 = 0 := by omega
    obtain ⟨a1, a2, a3, a4, a5⟩ := hdT_ok l hb hz
    by_cases h2 : l.length < (hdT l).1
    · rw [if_pos h2] at h
      simp at h
    · rw [if_neg h2] at h ⊢
      have hlt : (l.take (hdT l).1).length = (hdT l).1 := by rw [List.length_take]; omega
      have hht := hdT_take l hb hz
      by_cases h3 : (inP (2 * (hdT l).1) (l.take (hdT l).1) 0).2 ≠ 0
      · rw [if_pos h3] at h
        exact absurd h h3
      · rw [if_neg h3]
        obtain ⟨g1, g2, g3⟩ := (parse_ok (2 * (hdT l).1)).1 (l.take (hdT l).1) 0 (fun x hx => hb x (List.mem_of_mem_take hx)) (by rw [hht]; exact hz) (by rw [hht, hlt]; exact Nat.le_refl _) (by omega) (by rw [hlt]; omega) (by omega)
        rw [hht] at g3
        exact ⟨g1, by simpa using g2, g3, by simp only []; omega, a4⟩
end Go.Proofs.Ytgdoepkoakpnbaa
