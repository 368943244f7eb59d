/-
  An identifier with a number more. Nothing here speaks of a program.
-/
import Derived.Test.YtpmcdkalmdlahaaDoorOidDat
namespace Go.Proofs.YtpmcdkalmdlahaaDoor
open Go.Lib

theorem sp_app (b : UInt8) : ∀ l m : List UInt8, sp b (l ++ b :: m) = sp b l ++ sp b m
  | [], m => by
    have h : sp b (b :: m) = [] :: sp b m := by rw [sp, if_pos rfl]
    exact h
  | x :: l, m => by
    have ih := sp_app b l m
    have hne := sp_ne b l
    rw [List.cons_append, sp, sp, ih]
    cases hs : sp b l with
    | nil => exact absurd hs hne
    | cons p ps =>
      split <;> rfl
/-- How often a sign stands in a text. -/
theorem sp_count (b : UInt8) : ∀ l, (sp b l).length = l.countP (· == b) + 1
  | [] => rfl
  | x :: l => by
    have ih := sp_count b l
    have hne := sp_ne b l
    unfold sp
    by_cases h : x = b
    · rw [if_pos h, List.length_cons, ih, List.countP_cons_of_pos (by simp [h])]
    · rw [if_neg h, List.length_cons, List.length_tail, ih, List.countP_cons_of_neg (by simp [h])]
      omega
theorem mapM_app {α β : Type} (f : α → Option β) : ∀ (l m : List α), (l ++ m).mapM f = (l.mapM f).bind fun x => (m.mapM f).map fun y => x ++ y
  | [], m => by
    rw [List.nil_append]
    cases m.mapM f <;> rfl
  | a :: l, m => by
    have ih := mapM_app f l m
    rw [List.cons_append, List.mapM_cons, List.mapM_cons, ih]
    cases f a with
    | none => rfl
    | some b =>
      cases l.mapM f with
      | none => rfl
      | some x => cases m.mapM f <;> rfl
theorem okA_more {L : List Nat} (h : 2 ≤ L.length) (n : Nat) : okA (L ++ [n]) = (okA L && decide (L.length < 16)) := by
  match L, h with
  | a :: b :: r, _ =>
    simp only [List.cons_append, okA, List.length_append, List.length_cons, List.length_nil]
    by_cases h1 : r.length < 14
    · have e1 : decide (r.length + 1 ≤ 14) = true := decide_eq_true (by omega)
      have e2 : decide (r.length ≤ 14) = true := decide_eq_true (by omega)
      have e3 : decide (r.length + 1 + 1 < 16) = true := decide_eq_true (by omega)
      simp only [Nat.zero_add, e1, e2, e3, Bool.and_true]
    · have e1 : decide (r.length + 1 ≤ 14) = false := decide_eq_false (by omega)
      have e3 : decide (r.length + 1 + 1 < 16) = false := decide_eq_false (by omega)
      simp only [Nat.zero_add, e1, e3, Bool.and_false]
theorem arcsO_parts {l : List UInt8} {L : List Nat} (h : arcsO l = some L) : (sp 46 l).mapM arcV = some L := by
  unfold arcsO at h
  split at h
  · rw [Option.filter_eq_some_iff] at h
    exact h.1
  · cases h
theorem arcsO_count {l : List UInt8} {L : List Nat} (h : arcsO l = some L) : l.countP (· == 46) + 1 = L.length := by
  rw [← (mapM_get arcV _ _ (arcsO_parts h)).1, sp_count]
/-- A number more: if there are not sixteen. -/
theorem arcsO_more {l : List UInt8} {L : List Nat} (h : arcsO l = some L) {n : Nat} (hn : n < 10000000000) : arcsO (l ++ 46 :: decDigits n) = if L.length < 16 then some (L ++ [n]) else none := by
  obtain ⟨h1, h2, h3, h4⟩ := arcsO_some h
  have h5 := okA_len h2
  have hp : (sp 46 (l ++ 46 :: decDigits n)).mapM arcV = some (L ++ [n]) := by
    rw [sp_app, mapM_app, arcsO_parts h, sp_part 46 _ (dot_free _ (digs_dec n))]
    show (([decDigits n] : List (List UInt8)).mapM arcV).map (fun y => L ++ y) = _
    rw [List.mapM_cons, arcV_dec hn]
    rfl
  have ho := okA_more h5.1 n
  rw [h2, Bool.true_and] at ho
  unfold arcsO
  by_cases h16 : L.length < 16
  · have hlen : (l ++ 46 :: decDigits n).length ≤ 200 := by
      have h6 := txA_len L h3
      rw [h1] at h6
      have h7 := dec_len hn
      rw [List.length_append, List.length_cons]
      omega
    rw [if_pos hlen, if_pos h16, hp]
    rw [decide_eq_true h16] at ho
    simp [ho]
  · rw [if_neg h16, hp]
    rw [decide_eq_false h16] at ho
    split
    · simp [ho]
    · rfl
/-- What is none, and with a number more is one: one number alone. -/
theorem arcsO_less {l : List UInt8} {M : List Nat} (h : arcsO l = none) (hm : arcsO (l ++ [46, 49]) = some M) : l = [48] ∨ l = [49] ∨ l = [50] := by
  have hp := arcsO_parts hm
  have h200 : l.length ≤ 200 := by
    have := (arcsO_some hm).2.2.2
    simp at this
    omega
  rw [show l ++ [46, 49] = l ++ 46 :: [49] from rfl, sp_app, mapM_app] at hp
  cases hL : (sp 46 l).mapM arcV with
  | none => rw [hL] at hp; cases hp
  | some L =>
    rw [hL] at hp
    have e1 : (sp 46 [49]).mapM arcV = some [1] := by decide +kernel
    rw [e1] at hp
    injection hp with hp
    subst hp
    have hok := (arcsO_some hm).2.1
    have hnok : okA L = false := by
      unfold arcsO at h
      rw [if_pos h200, hL] at h
      cases hq : okA L with
      | false => rfl
      | true => simp [hq] at h
    match L, hok, hnok, hL with
    | [], hok, _, _ => simp [okA] at hok
    | [a], hok, _, hL =>
      simp only [List.cons_append, List.nil_append, okA, Bool.and_eq_true, decide_eq_true_eq] at hok
      have h2 : a ≤ 2 := hok.1.1
      obtain ⟨g1, g2⟩ := mapM_get arcV _ _ hL
      have hj := jn_sp 46 l
      cases hs : sp 46 l with
      | nil => exact absurd hs (sp_ne 46 l)
      | cons p ps =>
        rw [hs] at g1 hj
        have hps : ps = [] := List.eq_nil_of_length_eq_zero (by simpa using g1)
        subst hps
        have g3 := g2 0 (by rw [hs]; simp) (by simp)
        have g4 := arcV_some g3
        simp only [hs, List.getElem_cons_zero] at g4
        have hpl : p = l := by
          have : jn 46 [p] = p ++ [] := rfl
          rw [this, List.append_nil] at hj
          exact hj
        rw [← hpl, ← g4.1]
        rcases show a = 0 ∨ a = 1 ∨ a = 2 by omega with rfl | rfl | rfl
        · exact .inl (by decide +kernel)
        · exact .inr (.inl (by decide +kernel))
        · exact .inr (.inr (by decide +kernel))
    | a :: b :: r, hok, hnok, _ =>
      have := okA_more (L := a :: b :: r) (by simp) 1
      rw [hok, hnok] at this
      cases this
theorem putA_more {L : List Nat} (h : 2 ≤ L.length) (n : Nat) : putA (L ++ [n]) = putA L ++ sv n := by
  match L, h with
  | a :: b :: r, _ =>
    unfold putA
    simp only [List.cons_append, foldA, List.flatMap_cons, List.flatMap_append, List.flatMap_nil, List.append_nil, List.append_assoc]
theorem sv_lens : (sv 0).length = 1 ∧ (sv 127).length = 1 ∧ (sv 128).length = 2 ∧ (sv 9999999999).length = 5 := by decide +kernel
theorem dec_lens : decDigits 0 = [48] ∧ decDigits 127 = [49, 50, 55] ∧ decDigits 128 = [49, 50, 56] ∧ decDigits 9999999999 = [57, 57, 57, 57, 57, 57, 57, 57, 57, 57] := by decide +kernel
end Go.Proofs.YtpmcdkalmdlahaaDoor
