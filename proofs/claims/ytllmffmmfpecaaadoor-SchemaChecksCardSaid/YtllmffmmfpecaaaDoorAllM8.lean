/-
  What All gathers, class after class: the same members as the document's sets, as data.
-/
import Derived.Test.YtllmffmmfpecaaaDoorMC8
import Derived.Test.YtllmffmmfpecaaaDoorPNames8
import Derived.Test.YtllmffmmfpecaaaDoorPDel8
namespace Go.Proofs.YtllmffmmfpecaaaDoor
open Go.RowKit

def allM (f : Cl → List (List UInt8)) (N : List (List UInt8)) : List (List UInt8) := N.flatMap fun n => (sup n).flatMap f
theorem allM_nil (f : Cl → List (List UInt8)) : allM f [] = [] := rfl
theorem allM_snoc (f : Cl → List (List UInt8)) (N : List (List UInt8)) (n : List UInt8) : allM f (N ++ [n]) = allM f N ++ (sup n).flatMap f := by
  unfold allM
  rw [List.flatMap_append]
  simp
theorem flat_len (f : Cl → List (List UInt8)) (hf : ∀ c ∈ clss, (f c).length ≤ 9) : ∀ (R : List Cl), (∀ c ∈ R, c ∈ clss) → (R.flatMap f).length ≤ 9 * R.length
  | [], _ => Nat.zero_le _
  | c :: R, h => by
    rw [List.flatMap_cons, List.length_append, List.length_cons]
    have h1 := flat_len f hf R fun d hd => h d (List.mem_cons_of_mem _ hd)
    have h2 := hf c (h c List.mem_cons_self)
    omega
theorem allM_len (f : Cl → List (List UInt8)) (hf : ∀ c ∈ clss, (f c).length ≤ 9) : ∀ (N : List (List UInt8)), (allM f N).length ≤ 27 * N.length
  | [] => Nat.zero_le _
  | n :: N => by
    unfold allM
    rw [List.flatMap_cons, List.length_append, List.length_cons]
    have h1 := allM_len f hf N
    unfold allM at h1
    have h2 := flat_len f hf (sup n) (sup_mem n)
    have h3 := sup_len n
    omega
theorem name_len : ∀ c ∈ clss, c.name.length ≤ 60 := by decide +kernel
theorem nameC_len (s : List UInt8) : (nameC s).length ≤ 60 := by
  unfold nameC
  rcases h : findC s with _ | c
  · exact Nat.zero_le _
  · exact (name_len c (findC_mem h))
theorem valid_find {L : List (List UInt8)} (hv : validC L = true) {s : List UInt8} (hs : s ∈ L) : ∃ c ∈ clss, findC s = some c ∧ nameC s = c.name := by
  have := List.all_eq_true.1 hv s hs
  rcases h : findC s with _ | c
  · rw [h] at this
    cases this
  · exact ⟨c, findC_mem h, rfl, by unfold nameC; rw [h]⟩
theorem name_again {L : List (List UInt8)} (hv : validC L = true) {s : List UInt8} (hs : s ∈ L) : nameC (nameC s) = nameC s ∧ (findC (nameC s)).isSome = true ∧ kindC (nameC s) = kindC s := by
  obtain ⟨c, hc, h1, h2⟩ := valid_find hv hs
  have h3 := find_cls c hc
  unfold kindC
  rw [h2]
  unfold nameC
  rw [h3, h1]
  exact ⟨rfl, rfl, rfl⟩
theorem mem_allM (f : Cl → List (List UInt8)) (L : List (List UInt8)) (hv : validC L = true) (x : List UInt8) : x ∈ allM f (onceN (L.map nameC)) ↔ x ∈ gather f L := by
  rw [mem_gather]
  unfold allM
  simp only [List.mem_flatMap, mem_onceN, List.mem_map]
  constructor
  · rintro ⟨_, ⟨s, hs, rfl⟩, d, hd, hx⟩
    obtain ⟨c, hc, h1, h2⟩ := valid_find hv hs
    have hdc := sup_mem _ d hd
    refine ⟨d, hdc, ?_, hx⟩
    unfold meant
    refine List.any_eq_true.2 ⟨s, hs, ?_⟩
    rw [h2] at hd ⊢
    rw [above_cls d hdc c hc]
    exact List.any_eq_true.2 ⟨d, hd, by simp⟩
  · rintro ⟨k, hk, hm, hx⟩
    unfold meant at hm
    obtain ⟨s, hs, ha⟩ := List.any_eq_true.1 hm
    obtain ⟨c, hc, h1, h2⟩ := valid_find hv hs
    rw [h2, above_cls k hk c hc] at ha
    obtain ⟨d, hd, he⟩ := List.any_eq_true.1 ha
    have hdk : d = k := name_cls d (sup_mem _ d hd) k hk (by simpa using he)
    subst hdk
    exact ⟨nameC s, ⟨s, hs, rfl⟩, d, by rw [h2]; exact hd, hx⟩
theorem all_must (L : List (List UInt8)) (hv : validC L = true) : sortU (allM Cl.must (onceN (L.map nameC))) = mustD L := sortU_eq (strict_must L) (mem_allM Cl.must L hv)
theorem all_may (L : List (List UInt8)) (hv : validC L = true) : (sortU (allM Cl.may (onceN (L.map nameC)))).filter (outM (mustD L)) = restD L := by
  rw [sortU_eq (strict_gather Cl.may L) (mem_allM Cl.may L hv)]
  rfl
/-- A row's own block lies above its base. -/
theorem own_ge {w : World} {base n size : Nat} {T : TypeId} {v : Value} {xs : List Value} (h : w.ownsRow base T size v n xs) : ∀ g, v.ownBlock = some g → base ≤ g := fun g hg => (World.ownsRow.lt h g hg).1
/-- The names of classes mean what the classes mean. -/
theorem once_find {L : List (List UInt8)} (hv : validC L = true) : validC (onceN (L.map nameC)) = true := by
  refine List.all_eq_true.2 fun n hn => ?_
  rw [mem_onceN, List.mem_map] at hn
  obtain ⟨s, hs, rfl⟩ := hn
  exact (name_again hv hs).2.1
theorem once_meant {L : List (List UInt8)} (hv : validC L = true) (k : List UInt8) : meant k (onceN (L.map nameC)) = meant k L := by
  unfold meant
  rw [Bool.eq_iff_iff, List.any_eq_true, List.any_eq_true]
  constructor
  · rintro ⟨n, hn, h⟩
    rw [mem_onceN, List.mem_map] at hn
    obtain ⟨s, hs, rfl⟩ := hn
    rw [(name_again hv hs).1] at h
    exact ⟨s, hs, h⟩
  · rintro ⟨s, hs, h⟩
    refine ⟨nameC s, (mem_onceN _ _).2 (List.mem_map.2 ⟨s, hs, rfl⟩), ?_⟩
    rw [(name_again hv hs).1]
    exact h
theorem once_gather {L : List (List UInt8)} (hv : validC L = true) (f : Cl → List (List UInt8)) : gather f (onceN (L.map nameC)) = gather f L := by
  unfold gather
  simp only [once_meant hv]
theorem once_must {L : List (List UInt8)} (hv : validC L = true) : mustD (onceN (L.map nameC)) = mustD L := once_gather hv _
theorem once_rest {L : List (List UInt8)} (hv : validC L = true) : restD (onceN (L.map nameC)) = restD L := by
  unfold restD
  rw [once_must hv, once_gather hv]
end Go.Proofs.YtllmffmmfpecaaaDoor
