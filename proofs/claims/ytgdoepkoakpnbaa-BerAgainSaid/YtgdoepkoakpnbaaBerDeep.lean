/-
  What is too deep is refused as such: as data.
-/
import Derived.Test.YtgdoepkoakpnbaaBerBack
namespace Go.Proofs.Ytgdoepkoakpnbaa
open Go.RowKit

theorem El.right_at (e : El) (h : e.right = true) : RightT e.c e.n := by
  rw [El.right_kids, Bool.and_eq_true] at h
  exact ((one_right e).1 h.1).1
theorem El.right_kid (e k : El) (h : e.right = true) (hk : k ∈ e.kids) : k.right = true := by
  rw [El.right_kids, Bool.and_eq_true] at h
  exact List.all_eq_true.1 h.2 k hk
theorem rowP_deep (d : Nat) : ∀ (ks : List El), (∀ k ∈ ks, k.right = true ∧ k.enc.length ≤ 16384 ∧ (24 < d + 1 + k.deep → d + 1 ≤ 23 → ∀ f, 2 * k.enc.length ≤ f → inP f k.enc (d + 1) = (el0, 15))) → (∃ k ∈ ks, 24 < d + 1 + k.deep) →
    ∀ f, 2 * (ks.flatMap El.enc).length + 1 ≤ f → rowP f (ks.flatMap El.enc) d = ([], 15) := by
  intro ks
  induction ks with
  | nil => intro _ h; obtain ⟨k, hk, _⟩ := h; cases hk
  | cons a ks ih =>
    intro h hx f hf
    obtain ⟨h1, h2, h4⟩ := h a (List.mem_cons_self ..)
    have h6 := enc_ge a
    rw [List.flatMap_cons] at hf ⊢
    rw [List.length_append] at hf
    obtain ⟨f, rfl⟩ : ∃ f', f = f' + 1 := ⟨f - 1, by omega⟩
    have hne : a.enc ++ ks.flatMap El.enc ≠ [] := by
      intro e
      have := congrArg List.length e
      rw [List.length_append, List.length_nil] at this
      omega
    rw [rowP, if_neg hne]
    by_cases hd : 24 ≤ d + 1
    · rw [if_pos hd]
    · rw [if_neg hd, (hdT_back a (a.right_at h1) h2 (ks.flatMap El.enc)).1]
      simp only []
      rw [if_neg (by rw [List.length_append]; omega), List.take_left, List.drop_left]
      by_cases hbad : 24 < d + 1 + a.deep
      · rw [h4 hbad (by omega) f (by omega)]
        rfl
      · rw [inP_back a h1 f (d + 1) (by omega) (by omega) h2]
        have h5 := ih (fun k hk => h k (List.mem_cons_of_mem _ hk)) (by
          obtain ⟨k, hk, hk2⟩ := hx
          rcases List.mem_cons.1 hk with rfl | hk
          · exact absurd hk2 hbad
          · exact ⟨k, hk, hk2⟩) f (by omega)
        rw [h5]
        rfl
theorem maxL_at (l : List El) (m : Nat) (h : m < maxL (l.map El.deep)) : ∃ k ∈ l, m < k.deep := by
  induction l with
  | nil => simp [maxL] at h
  | cons a l ih =>
    rw [List.map_cons, maxL, List.foldl_cons, foldl_max] at h
    by_cases h1 : m < a.deep
    · exact ⟨a, List.mem_cons_self .., h1⟩
    · obtain ⟨k, hk, hk2⟩ := ih (by omega)
      exact ⟨k, List.mem_cons_of_mem _ hk, hk2⟩
theorem inP_deep (e : El) : e.right = true → ∀ f d, 2 * e.enc.length ≤ f → d ≤ 23 → 24 < d + e.deep → e.enc.length ≤ 16384 → inP f e.enc d = (el0, 15) := by
  induction e using El.ind with
  | h e ih =>
  intro hr f d hf hd hdd hL
  have hro := hr
  rw [El.right_kids, Bool.and_eq_true] at hr
  obtain ⟨ho, hk⟩ := hr
  obtain ⟨h1, h2, h3⟩ := (one_right e).1 ho
  obtain ⟨g1, g2⟩ := hdT_back e h1 hL []
  rw [List.append_nil] at g1 g2
  have hge := enc_ge e
  obtain ⟨f, rfl⟩ : ∃ f', f = f' + 1 := ⟨f - 1, by omega⟩
  have hin : (e.enc.take e.enc.length).drop (e.enc.length - e.inner.length) = e.inner := by
    rw [List.take_length]
    unfold El.enc
    rw [List.length_append, Nat.add_sub_cancel, List.drop_left]
  have hdk := El.deep_kids e
  have hm : e.m = true := by
    cases hm : e.m
    · have h0 : e.kids = [] := List.eq_nil_of_length_eq_zero (h2 hm)
      rw [h0] at hdk
      simp [maxL] at hdk
      omega
    · rfl
  rw [inP, g1, g2]
  simp only []
  rw [hin, hm, if_neg (by simp)]
  have hib : e.inner = e.kids.flatMap El.enc := by unfold El.inner El.kids; rw [hm, ← Fo.enc_list]; rfl
  have hlen : e.inner.length + 2 ≤ e.enc.length := by
    have a1 := tagB_pos e.c e.n e.m
    have a2 := lenB_pos (e.inner.length : Int) (by omega)
    unfold El.enc
    rw [List.length_append, List.length_append]
    omega
  have hrow := rowP_deep d e.kids (fun k hkk => by
    have b5 : k.enc.length ≤ e.inner.length := by
      rw [hib]
      exact flat_mem El.enc e.kids k hkk
    exact ⟨El.right_kid e k hro hkk, by omega, fun x1 x2 f' hf' => ih k hkk (El.right_kid e k hro hkk) f' (d + 1) hf' x2 x1 (by omega)⟩)
    (by
      obtain ⟨k, x1, x2⟩ := maxL_at e.kids (23 - d) (by omega)
      exact ⟨k, x1, by omega⟩) f (by rw [← hib]; omega)
  rw [← hib] at hrow
  rw [hrow]
  rfl
theorem parP_deep (e : El) (hr : e.right = true) (hd : 24 < e.deep) (hL : e.enc.length ≤ 16384) (behind : List Nat) : parP (e.enc ++ behind) = (el0, 0, 15) := by
  obtain ⟨g1, g2⟩ := hdT_back e (e.right_at hr) hL behind
  unfold parP
  rw [g1]
  simp only []
  rw [if_neg (by simp), if_neg (by rw [List.length_append]; omega), List.take_left, inP_deep e hr _ 0 (Nat.le_refl _) (by omega) (by omega) hL]
  rfl
end Go.Proofs.Ytgdoepkoakpnbaa
