/-
  A slice of numbers with a fraction: opened, read.
-/
import Derived.Test.YtdojbgfkcleeaaaDrawn
import Derived.ProofKit
import Derived.OpenShut
import Derived.Lib.SmallJoins
import Derived.Deep.QuietTactic
import Derived.BigQuiet
namespace Go.Proofs.Ytdojbgfkcleeaaa
open Go.ChangeShapes Go.WideShapes Go.ChangeAt Go.RowKit Go.Joins

/-- A slice of numbers, below block K. -/
structure FSl (w : World) (K : Nat) (A : Option Addr) (c : Nat) (l : List Nat) : Prop where
  le : l.length ≤ c
  nil : A = none → c = 0
  at_ : ∀ ad, A = some ad → (0 < l.length → ad.block < K) ∧ ∀ (j n : Nat), l[j]? = some n → w.cell? (ad.add j) = some (.float .f64 n)
theorem FSl.none_ (w : World) (K : Nat) : FSl w K none 0 [] := ⟨Nat.le_refl _, fun _ => rfl, fun _ h => by cases h⟩
theorem add_blockF (a : Addr) (n : Nat) : (a.add n).block = a.block := by unfold Addr.add; split <;> rfl
theorem FSl.keep {w w' : World} {K : Nat} {A : Option Addr} {c : Nat} {l : List Nat} (h : FSl w K A c l) (hk : ∀ p : Addr, p.block < K → w'.cell? p = w.cell? p) : FSl w' K A c l := by
  refine ⟨h.le, h.nil, fun ad e => ⟨(h.at_ ad e).1, fun j n hj => ?_⟩⟩
  have hl : j < l.length := by
    rcases Nat.lt_or_ge j l.length with h0 | h0
    · exact h0
    · rw [List.getElem?_eq_none h0] at hj; cases hj
  rw [hk _ (by rw [add_blockF]; exact (h.at_ ad e).1 (by omega))]
  exact (h.at_ ad e).2 j n hj
theorem FSl.below {w w' : World} {K : Nat} {A : Option Addr} {c : Nat} {l : List Nat} (h : FSl w K A c l) (hb : Below K w w') : FSl w' K A c l := h.keep fun _ hp => hb.cell hp
theorem FSl.take {w : World} {K : Nat} {A : Option Addr} {c : Nat} {l : List Nat} (h : FSl w K A c l) (n : Nat) : FSl w K A c (l.take n) := by
  refine ⟨Nat.le_trans (List.length_take_le' ..) h.le, h.nil, fun ad e => ⟨fun h0 => (h.at_ ad e).1 (Nat.lt_of_lt_of_le h0 (List.length_take_le' ..)), fun j x hj => ?_⟩⟩
  rw [List.getElem?_take] at hj
  split at hj
  · exact (h.at_ ad e).2 j x hj
  · cases hj
theorem below_drewN {B : Nat} {a w : World} (h : Below B a w) (n : Nat) : Below B a (w.drewN n) := ⟨h.os, h.tape, h.output, h.size, h.block⟩

/-- The greatest's place, among the first so many. -/
def fGr (l : List Nat) : Nat → Int
  | 0 => -1
  | n + 1 => if ¬ fNan (l.getD n 0) ∧ (fGr l n < 0 ∨ fKey (l.getD (fGr l n).toNat 0) < fKey (l.getD n 0)) then (n : Int) else fGr l n
theorem fGr_lo (l : List Nat) : ∀ n, -1 ≤ fGr l n ∧ fGr l n < n
  | 0 => ⟨Int.le_refl _, by show (-1 : Int) < 0; omega⟩
  | n + 1 => by
    have h := fGr_lo l n
    unfold fGr
    split <;> omega
theorem fGr_num (l : List Nat) : ∀ n, 0 ≤ fGr l n → ¬ fNan (l.getD (fGr l n).toNat 0)
  | 0, h => absurd h (by show ¬ (0 : Int) ≤ -1; omega)
  | n + 1, h => by
    unfold fGr at h ⊢
    split
    · rename_i h1
      simpa using h1.1
    · rename_i h1
      rw [if_neg h1] at h
      exact fGr_num l n h
theorem floats_len {l : List Nat} {k : Nat} (h : k < l.length) : l[k]? = some (l.getD k 0) := by
  rw [List.getElem?_eq_getElem h, List.getD_eq_getElem?_getD, List.getElem?_eq_getElem h]
  rfl
end Go.Proofs.Ytdojbgfkcleeaaa
