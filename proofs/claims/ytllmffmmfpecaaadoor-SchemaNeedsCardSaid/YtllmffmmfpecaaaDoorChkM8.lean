/-
  What the program's Check asks is what the document's asks, as data.
-/
import Derived.Test.YtllmffmmfpecaaaDoorPInLine8
import Derived.Test.YtllmffmmfpecaaaDoorAllM8
import Derived.Test.YtllmffmmfpecaaaDoorPFits8
import Derived.Test.YtllmffmmfpecaaaDoorMB8
namespace Go.Proofs.YtllmffmmfpecaaaDoor
open Go.RowKit

theorem pair_iff {α : Type} (S : List α) (R : α → α → Bool) (hs : ∀ x y, R x y = R y x) (hr : ∀ x ∈ S, R x x = true) : S.Pairwise (fun y x => R x y = true) ↔ ∀ x ∈ S, ∀ y ∈ S, R x y = true := by
  rw [List.pairwise_iff_getElem]
  constructor
  · intro h x hx y hy
    obtain ⟨i, hi, rfl⟩ := List.mem_iff_getElem.1 hx
    obtain ⟨j, hj, rfl⟩ := List.mem_iff_getElem.1 hy
    rcases Nat.lt_trichotomy i j with hij | hij | hij
    · rw [hs]
      exact h i j hi hj hij
    · subst hij
      exact hr _ hx
    · exact h j i hj hi hij
  · intro h i j hi hj _
    exact h _ (List.getElem_mem hj) _ (List.getElem_mem hi)
theorem near_symm (x y : List UInt8) : nearC x y = nearC y x := Bool.or_comm _ _
theorem near_self {c : Cl} (hc : c ∈ clss) : nearC c.name c.name = true := by
  unfold nearC abv
  rw [sup_some (find_cls c hc)]
  simp
theorem above_abv {k c : Cl} (hk : k ∈ clss) (hc : c ∈ clss) : above k.name c.name = abv k.name c.name := above_cls k hk c hc
theorem apart_near {L : List (List UInt8)} (hv : validC L = true) {s t : List UInt8} (hs : s ∈ L) (ht : t ∈ L) : apart s t = !nearC (nameC s) (nameC t) := by
  obtain ⟨c, hc, _, h1⟩ := valid_find hv hs
  obtain ⟨d, hd, _, h2⟩ := valid_find hv ht
  unfold apart nearC
  rw [h1, h2, above_abv hc hd, above_abv hd hc, Bool.not_or]
theorem near_own {L : List (List UInt8)} (hv : validC L = true) {s : List UInt8} (hs : s ∈ L) : nearC (nameC s) (nameC s) = true := by
  obtain ⟨c, hc, _, h1⟩ := valid_find hv hs
  rw [h1]
  exact near_self hc
theorem good_iff {L : List (List UInt8)} (hv : validC L = true) : goodC L = true ↔ (∃ s ∈ L, kindC s = 1) ∧ ∀ s ∈ L, ∀ t ∈ L, kindC s = 1 → kindC t = 1 → nearC (nameC s) (nameC t) = true := by
  have hmem : ∀ s, s ∈ strC L ↔ s ∈ L ∧ kindC s = 1 := fun s => by
    unfold strC
    rw [List.mem_filter]
    simp
  unfold goodC
  rw [Bool.and_eq_true, decide_eq_true_eq]
  have hp : ((strC L).Pairwise fun s t => apart t s = false) ↔ ∀ x ∈ strC L, ∀ y ∈ strC L, nearC (nameC x) (nameC y) = true := by
    rw [← pair_iff (strC L) (fun x y => nearC (nameC x) (nameC y)) (fun x y => near_symm _ _) (fun x hx => near_own hv ((hmem x).1 hx).1)]
    constructor
    · intro h
      refine List.Pairwise.imp_of_mem (fun {a b} ha hb hab => ?_) h
      rw [apart_near hv ((hmem b).1 hb).1 ((hmem a).1 ha).1] at hab
      simpa using hab
    · intro h
      refine List.Pairwise.imp_of_mem (fun {a b} ha hb hab => ?_) h
      rw [apart_near hv ((hmem b).1 hb).1 ((hmem a).1 ha).1, hab]
      rfl
  rw [hp]
  constructor
  · rintro ⟨h1, h2⟩
    refine ⟨?_, fun s hs t ht h3 h4 => h2 s ((hmem s).2 ⟨hs, h3⟩) t ((hmem t).2 ⟨ht, h4⟩)⟩
    rcases hS : strC L with _ | ⟨s, S⟩
    · rw [hS] at h1
      cases h1
    · have := (hmem s).1 (by rw [hS]; exact List.mem_cons_self)
      exact ⟨s, this⟩
  · rintro ⟨⟨s, hs, h1⟩, h2⟩
    refine ⟨?_, fun x hx y hy => h2 x ((hmem x).1 hx).1 y ((hmem y).1 hy).1 ((hmem x).1 hx).2 ((hmem y).1 hy).2⟩
    rcases hS : strC L with _ | ⟨t, S⟩
    · have := (hmem s).2 ⟨hs, h1⟩
      rw [hS] at this
      cases this
    · rfl
theorem line_iff {L : List (List UInt8)} (hv : validC L = true) : lineD (onceN (L.map nameC)) = true ↔ (∃ s ∈ L, kindC s = 1) ∧ ∀ s ∈ L, ∀ t ∈ L, kindC s = 1 → kindC t = 1 → nearC (nameC s) (nameC t) = true := by
  have hmem : ∀ n, n ∈ strN (onceN (L.map nameC)) ↔ ∃ s ∈ L, kindC s = 1 ∧ nameC s = n := fun n => by
    unfold strN
    rw [List.mem_filter, mem_onceN, List.mem_map]
    constructor
    · rintro ⟨⟨s, hs, rfl⟩, h⟩
      rw [(name_again hv hs).2.2] at h
      exact ⟨s, hs, by simpa using h, rfl⟩
    · rintro ⟨s, hs, h, rfl⟩
      refine ⟨⟨s, hs, rfl⟩, ?_⟩
      rw [(name_again hv hs).2.2]
      simpa using h
  unfold lineD
  rw [Bool.and_eq_true, decide_eq_true_eq, decide_eq_true_eq, pair_iff _ nearC near_symm (fun x hx => by
    obtain ⟨s, hs, _, rfl⟩ := (hmem x).1 hx
    exact near_own hv hs)]
  constructor
  · rintro ⟨h1, h2⟩
    refine ⟨?_, fun s hs t ht h3 h4 => h2 _ ((hmem _).2 ⟨s, hs, h3, rfl⟩) _ ((hmem _).2 ⟨t, ht, h4, rfl⟩)⟩
    obtain ⟨n, hn⟩ := List.exists_mem_of_length_pos h1
    obtain ⟨s, hs, h3, _⟩ := (hmem n).1 hn
    exact ⟨s, hs, h3⟩
  · rintro ⟨⟨s, hs, h1⟩, h2⟩
    refine ⟨List.length_pos_of_mem ((hmem _).2 ⟨s, hs, h1, rfl⟩), fun x hx y hy => ?_⟩
    obtain ⟨s, hs, h3, rfl⟩ := (hmem x).1 hx
    obtain ⟨t, ht, h4, rfl⟩ := (hmem y).1 hy
    exact h2 s hs t ht h3 h4
theorem line_good {L : List (List UInt8)} (hv : validC L = true) : lineD (onceN (L.map nameC)) = goodC L := by
  rw [Bool.eq_iff_iff, line_iff hv, good_iff hv]
theorem all_once (T : List (List UInt8)) (p : List UInt8 → Bool) : (onceN T).all p = T.all p := by
  rw [Bool.eq_iff_iff, List.all_eq_true, List.all_eq_true]
  exact ⟨fun h x hx => h x ((mem_onceN _ _).2 hx), fun h x hx => h x ((mem_onceN _ _).1 hx)⟩
theorem dec_once (T : List (List UInt8)) : (fun x => decide (x ∈ onceN T)) = fun x => decide (x ∈ T) := by
  funext x
  exact decide_eq_decide.2 (mem_onceN T x)
theorem fits_once (T : List (List UInt8)) (M Y : List (List UInt8)) : fitsD (onceN T) M Y = fitsD T M Y := by
  unfold fitsD
  rw [all_once, dec_once]
theorem check_fits {L T : List (List UInt8)} (hv : validC L = true) (va : validA T = true) (hg : goodC L = true) : checkD L T = fitsD (T.map nameA) (mustD L) (restD L) := by
  unfold checkD fitsD
  rw [if_neg (by simp [hv, va]), if_neg (by simp [hg])]
theorem check_c13 {L T : List (List UInt8)} (hv : validC L = false) : checkD L T = 13 := by
  unfold checkD
  rw [if_pos (.inl hv)]
/-- What names tells, in one form. -/
theorem NamesS.form {nm : List UInt8 → List UInt8} {ok : List UInt8 → Bool} {L : List (List UInt8)} {e : Ending} {w : World} (h : NamesS nm ok L e w) : ∃ A n c, e = .returned (.tuple #[.slice A n c, .bool (L.all ok)]) ∧ (L.all ok = true → (onceN (L.map nm)).length = n ∧ SrcO w w.heap.size A c (onceN (L.map nm))) := by
  unfold NamesS at h
  by_cases hv : L.all ok = true
  · rw [if_pos hv] at h
    obtain ⟨A, c, h1, h2⟩ := h
    exact ⟨A, _, c, by rw [hv]; exact h1, fun _ => ⟨rfl, h2⟩⟩
  · rw [if_neg hv] at h
    exact ⟨none, 0, 0, by rw [Bool.eq_false_iff.2 hv]; exact h, fun h => absurd h hv⟩
end Go.Proofs.YtllmffmmfpecaaaDoor
