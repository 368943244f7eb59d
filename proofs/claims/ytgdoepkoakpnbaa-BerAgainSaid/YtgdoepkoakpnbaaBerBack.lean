/-
  What is put is parsed as it was: as data.
-/
import Derived.Test.YtgdoepkoakpnbaaBerParse
import Derived.Test.YtgdoepkoakpnbaaBackNum
import Derived.Test.YtgdoepkoakpnbaaEltRight
namespace Go.Proofs.Ytgdoepkoakpnbaa
open Go.RowKit

theorem hdT_back (e : El) (hr : RightT e.c e.n) (hL : e.enc.length ≤ 16384) (behind : List Nat) : hdT (e.enc ++ behind) = (e.enc.length, e.enc.length - e.inner.length, 0) ∧ rdT (e.enc ++ behind) = (e.c.toNat, e.m, e.n.toNat, (tagB e.c e.m e.n).length, 0) := by
  have h1 : rdT (e.enc ++ behind) = (e.c.toNat, e.m, e.n.toNat, (tagB e.c e.m e.n).length, 0) := by
    unfold El.enc
    rw [List.append_assoc, List.append_assoc]
    exact rdT_back e.c e.n e.m hr _
  have hLe : e.enc.length = (tagB e.c e.m e.n).length + (lenB (e.inner.length : Int)).length + e.inner.length := by
    unfold El.enc
    rw [List.length_append, List.length_append]
  have h2 : rdL ((e.enc ++ behind).drop (tagB e.c e.m e.n).length) = (e.inner.length, (lenB (e.inner.length : Int)).length, 0) := by
    unfold El.enc
    rw [List.append_assoc, List.append_assoc, List.drop_left]
    have := rdL_back (e.inner.length : Int) (by omega) (by omega) (e.inner ++ behind)
    simpa using this
  refine ⟨?_, h1⟩
  unfold hdT
  rw [h1]
  simp only []
  rw [h2, if_neg (by simp), if_neg (by simp), if_neg (by simp only []; omega)]
  have e2 : (tagB e.c e.m e.n).length + (lenB (e.inner.length : Int)).length = e.enc.length - e.inner.length := by omega
  simp only []
  rw [← hLe, e2]
theorem flat_mem (g : El → List Nat) : ∀ (l : List El), ∀ k ∈ l, (g k).length ≤ (l.flatMap g).length := by
  intro l
  induction l with
  | nil => intro k hk; cases hk
  | cons a l ih =>
    intro k hk
    rw [List.flatMap_cons, List.length_append]
    rcases List.mem_cons.1 hk with rfl | hk
    · omega
    · have := ih k hk
      omega

theorem enc_ge (e : El) : 2 ≤ e.enc.length := by
  have h1 := tagB_pos e.c e.n e.m
  have h2 := lenB_pos (e.inner.length : Int) (by omega)
  unfold El.enc
  rw [List.length_append, List.length_append]
  omega

theorem rowP_back (d : Nat) : ∀ (ks : List El), (∀ k ∈ ks, RightT k.c k.n ∧ k.enc.length ≤ 16384 ∧ d + 1 < 24 ∧ ∀ f, 2 * k.enc.length ≤ f → inP f k.enc (d + 1) = (k, 0)) →
    ∀ f, 2 * (ks.flatMap El.enc).length + 1 ≤ f → rowP f (ks.flatMap El.enc) d = (ks, 0) := by
  intro ks
  induction ks with
  | nil => intro _ f _; exact rowP_nil f d
  | cons a ks ih =>
    intro h f hf
    obtain ⟨h1, h2, h3, h4⟩ := h a (List.mem_cons_self ..)
    have h5 := ih fun k hk => h k (List.mem_cons_of_mem _ hk)
    have h6 := enc_ge a
    rw [List.flatMap_cons] at hf ⊢
    rw [List.length_append] at hf
    obtain ⟨f, rfl⟩ : ∃ f', f = f' + 1 := ⟨f - 1, by omega⟩
    have h7 := (hdT_back a h1 h2 (ks.flatMap El.enc)).1
    have hne : a.enc ++ ks.flatMap El.enc ≠ [] := by
      intro e
      have := congrArg List.length e
      rw [List.length_append, List.length_nil] at this
      omega
    rw [rowP, if_neg hne, if_neg (by omega), h7]
    simp only []
    rw [if_neg (by rw [List.length_append]; omega), List.take_left, List.drop_left, h4 f (by omega), h5 f (by omega)]
    rfl

theorem inP_back (e : El) : e.right = true → ∀ f d, 2 * e.enc.length ≤ f → d + e.deep ≤ 24 → e.enc.length ≤ 16384 → inP f e.enc d = (e, 0) := by
  induction e using El.ind with
  | h e ih =>
  intro hr f d hf hd hL
  rw [El.right_kids, Bool.and_eq_true] at hr
  obtain ⟨ho, hk⟩ := hr
  obtain ⟨h1, h2, h3⟩ := (one_right e).1 ho
  have hc : ((e.c.toNat : Nat) : Int) = e.c := Int.toNat_of_nonneg h1.1
  have hn : ((e.n.toNat : Nat) : Int) = e.n := Int.toNat_of_nonneg h1.2.2.1
  obtain ⟨g1, g2⟩ := hdT_back e h1 hL []
  rw [List.append_nil] at g1 g2
  have hge := enc_ge e
  obtain ⟨f, rfl⟩ : ∃ f', f = f' + 1 := ⟨f - 1, by omega⟩
  have hin : (e.enc.take e.enc.length).drop (e.enc.length - e.inner.length) = e.inner := by
    rw [List.take_length]
    unfold El.enc
    rw [List.length_append, Nat.add_sub_cancel, List.drop_left]
  rw [inP, g1, g2]
  simp only []
  rw [hin]
  cases hm : e.m
  · rw [if_pos rfl]
    have hk0 := h2 hm
    have hkn : e.k = .nil := by
      have : e.kids = [] := List.eq_nil_of_length_eq_zero hk0
      rw [← Fo.of_list e.k]
      unfold El.kids at this
      rw [this]
      rfl
    have hib : e.inner = e.b := by unfold El.inner; rw [hm]; rfl
    rw [hib, hc, hn]
    obtain ⟨c, m, n, b, k⟩ := e
    simp only [] at hm hkn ⊢
    rw [hm, hkn]
  · rw [if_neg (by simp)]
    have hib : e.inner = e.kids.flatMap El.enc := by unfold El.inner El.kids; rw [hm, ← Fo.enc_list]; rfl
    have hlen : e.inner.length + 2 ≤ e.enc.length := by
      have a1 := tagB_pos e.c e.n e.m
      have a2 := lenB_pos (e.inner.length : Int) (by omega)
      unfold El.enc
      rw [List.length_append, List.length_append]
      omega
    have hrow := rowP_back d e.kids (fun k hkk => by
      have b1 := El.deep_mem e k hkk
      have b2 := El.deep_pos k
      have b3 : k.right = true := List.all_eq_true.1 hk k hkk
      have b4 : RightT k.c k.n := by
        have := b3
        rw [El.right_kids, Bool.and_eq_true] at this
        exact ((one_right k).1 this.1).1
      have b5 : k.enc.length ≤ e.inner.length := by
        rw [hib]
        exact flat_mem El.enc e.kids k hkk
      exact ⟨b4, by omega, by omega, fun f' hf' => ih k hkk b3 f' (d + 1) hf' (by omega) (by omega)⟩) f (by rw [← hib]; omega)
    rw [← hib] at hrow
    rw [hrow, if_neg (by simp), hc, hn]
    have hb0 : e.b = [] := List.eq_nil_of_length_eq_zero (h3 hm)
    obtain ⟨c, m, n, b, k⟩ := e
    simp only [] at hm hb0 ⊢
    rw [hm, hb0]
    unfold El.kids
    rw [Fo.of_list]

/-- What is put is parsed as it was, whatever stands behind. -/
theorem parP_back (e : El) (hr : e.right = true) (hd : e.deep ≤ 24) (hL : e.enc.length ≤ 16384) (behind : List Nat) : parP (e.enc ++ behind) = (e, e.enc.length, 0) := by
  have h1 : RightT e.c e.n := by
    rw [El.right_kids, Bool.and_eq_true] at hr
    exact ((one_right e).1 hr.1).1
  obtain ⟨g1, g2⟩ := hdT_back e h1 hL behind
  unfold parP
  rw [g1]
  simp only []
  rw [if_neg (by simp), if_neg (by rw [List.length_append]; omega), List.take_left, inP_back e hr _ 0 (Nat.le_refl _) (by omega) hL, if_neg (by simp)]
end Go.Proofs.Ytgdoepkoakpnbaa
