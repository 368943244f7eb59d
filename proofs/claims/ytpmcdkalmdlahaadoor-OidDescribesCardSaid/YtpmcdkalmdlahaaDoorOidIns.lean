/-
  An option at its place, step by step. Nothing here speaks of a program.
-/
import Derived.Test.YtpmcdkalmdlahaaDoorOidDesc
namespace Go.Proofs.YtpmcdkalmdlahaaDoor
open Go.Lib

theorem ins_at (x : List UInt8) : ∀ (O : List (List UInt8)) (k : Nat), k ≤ O.length → (∀ j y, j < k → O[j]? = some y → Op.bytesLess y x = true) → (∀ y, O[k]? = some y → Op.bytesLess y x = false) →
    ins x O = if O[k]? = some x then O else O.take k ++ x :: O.drop k
  | [], k, hk, _, _ => by
    have : k = 0 := by simpa using hk
    subst this
    rw [if_neg (by simp)]
    rfl
  | y :: O, 0, _, _, h2 => by
    have hy := h2 y rfl
    unfold ins
    rw [if_neg (by rw [hy]; decide)]
    by_cases e : y = x
    · rw [if_pos e, if_pos (by simp [e])]
    · rw [if_neg e, if_neg (by simpa using e)]
      rfl
  | y :: O, k + 1, hk, h1, h2 => by
    have hy := h1 0 y (by omega) rfl
    unfold ins
    rw [if_pos hy, ins_at x O k (by simpa using hk) (fun j z hj hz => h1 (j + 1) z (by omega) (by simpa using hz)) (fun z hz => h2 z (by simpa using hz))]
    by_cases e : O[k]? = some x
    · rw [if_pos e, if_pos (by simpa using e)]
    · rw [if_neg e, if_neg (by simpa using e)]
      rfl
theorem opts_snoc (L : List (List UInt8)) (x : List UInt8) : opts (L ++ [x]) = ins x (opts L) := by
  unfold opts
  rw [List.foldl_append]
  rfl
theorem ins_len (x : List UInt8) : ∀ O, (ins x O).length ≤ O.length + 1
  | [] => Nat.le_refl _
  | y :: O => by
    unfold ins
    have := ins_len x O
    split
    · simp only [List.length_cons]
      omega
    · split
      · simp
      · simp
theorem opts_len : ∀ L : List (List UInt8), (opts L).length ≤ L.length := by
  intro L
  rcases List.eq_nil_or_concat L with rfl | ⟨M, x, rfl⟩
  · exact Nat.le_refl _
  · have hm : ∀ (L O : List (List UInt8)), (L.foldl (fun O x => ins x O) O).length ≤ L.length + O.length := by
      intro L
      induction L with
      | nil => intro O; simp
      | cons x L ih =>
        intro O
        rw [List.foldl_cons, List.length_cons]
        have h1 := ih (ins x O)
        have h2 := ins_len x O
        omega
    have := hm (M.concat x) []
    simpa [opts] using this
/-- What Describe says, part by part. -/
theorem descO_bad {l : List UInt8} (h : 64 < l.length) : descO l = none := by
  unfold descO
  rw [if_pos h]
theorem descO_type {l : List UInt8} {a : List UInt8} {T : List (List UInt8)} (h : sp 59 (lowL l) = a :: T) (hl : ¬ 64 < l.length) (ha : arcsO a = none) (hw : wordB a = false) : descO l = none := by
  unfold descO
  rw [if_neg hl, h, if_neg]
  show ¬ (((arcsO a).isSome || wordB a) && T.all signsB) = true
  rw [ha, hw]
  simp
theorem descO_option {l : List UInt8} {a : List UInt8} {T : List (List UInt8)} (h : sp 59 (lowL l) = a :: T) (hl : ¬ 64 < l.length) {k : Nat} (hk : k < T.length) (hb : signsB T[k] = false) : descO l = none := by
  unfold descO
  rw [if_neg hl, h, if_neg]
  show ¬ (((arcsO a).isSome || wordB a) && T.all signsB) = true
  have : T.all signsB = false := by
    rw [Bool.eq_false_iff]
    intro e
    rw [List.all_eq_true.1 e _ (List.getElem_mem hk)] at hb
    cases hb
  rw [this, Bool.and_false]
  decide
theorem descO_good {l : List UInt8} {a : List UInt8} {T : List (List UInt8)} (h : sp 59 (lowL l) = a :: T) (hl : ¬ 64 < l.length) (ha : ((arcsO a).isSome || wordB a) = true) (ht : ∀ k (hk : k < T.length), signsB T[k] = true) : descO l = some (a, opts T) := by
  unfold descO
  rw [if_neg hl, h, if_pos]
  · rfl
  · show (((arcsO a).isSome || wordB a) && T.all signsB) = true
    rw [ha, Bool.true_and, List.all_eq_true]
    intro x hx
    obtain ⟨k, hk, rfl⟩ := List.getElem_of_mem hx
    exact ht k hk
end Go.Proofs.YtpmcdkalmdlahaaDoor
