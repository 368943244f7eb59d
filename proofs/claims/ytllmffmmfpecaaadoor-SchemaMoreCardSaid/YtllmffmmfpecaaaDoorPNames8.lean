/-
  The program's names: what a function finds for the strings of a list, each once.
-/
import Derived.Test.YtllmffmmfpecaaaDoorPAmong8
import Derived.Test.YtllmffmmfpecaaaDoorMC8
namespace Go.Proofs.YtllmffmmfpecaaaDoor
open Go.RowKit

/-- A string behind others, once. -/
def addN (acc : List (List UInt8)) (x : List UInt8) : List (List UInt8) := if x ∈ acc then acc else acc ++ [x]
def onceN (L : List (List UInt8)) : List (List UInt8) := L.foldl addN []
theorem onceN_snoc (L : List (List UInt8)) (x : List UInt8) : onceN (L ++ [x]) = addN (onceN L) x := by unfold onceN; rw [List.foldl_append]; rfl
theorem addN_len (acc : List (List UInt8)) (x : List UInt8) : (addN acc x).length ≤ acc.length + 1 := by
  unfold addN
  split <;> simp
theorem mem_addN (acc : List (List UInt8)) (x y : List UInt8) : y ∈ addN acc x ↔ y ∈ acc ∨ y = x := by
  unfold addN
  split
  · constructor
    · exact .inl
    · rintro (h | rfl) <;> assumption
  · simp
theorem mem_adds (L acc : List (List UInt8)) (y : List UInt8) : y ∈ L.foldl addN acc ↔ y ∈ acc ∨ y ∈ L := by
  induction L generalizing acc with
  | nil => simp
  | cons x L ih => rw [List.foldl_cons, ih, mem_addN, List.mem_cons, or_assoc]
theorem mem_onceN (L : List (List UInt8)) (y : List UInt8) : y ∈ onceN L ↔ y ∈ L := by unfold onceN; rw [mem_adds]; simp
theorem adds_len (L acc : List (List UInt8)) : (L.foldl addN acc).length ≤ acc.length + L.length := by
  induction L generalizing acc with
  | nil => simp
  | cons x L ih =>
    rw [List.foldl_cons, List.length_cons]
    have := ih (addN acc x)
    have := addN_len acc x
    omega
theorem onceN_len (L : List (List UInt8)) : (onceN L).length ≤ L.length := by
  have := adds_len L []
  unfold onceN
  simpa using this
/-- What names answers. -/
def NamesS (nm : List UInt8 → List UInt8) (ok : List UInt8 → Bool) (L : List (List UInt8)) (e : Ending) (w : World) : Prop :=
  if L.all ok = true then ∃ A c, e = .returned (.tuple #[.slice A (onceN (L.map nm)).length c, .bool true]) ∧ SrcO w w.heap.size A c (onceN (L.map nm))
  else e = .returned (.tuple #[.slice none 0 0, .bool false])
theorem NamesS.no {nm : List UInt8 → List UInt8} {ok : List UInt8 → Bool} {L : List (List UInt8)} {w : World} (h : L.all ok = false) : NamesS nm ok L (.returned (.tuple #[.slice none 0 0, .bool false])) w := by
  unfold NamesS
  rw [h]
  exact rfl
theorem NamesS.yes {nm : List UInt8 → List UInt8} {ok : List UInt8 → Bool} {L : List (List UInt8)} {w : World} {A : Option Addr} {c n : Nat} (h : L.all ok = true) (hn : (onceN (L.map nm)).length = n) (hs : SrcO w w.heap.size A c (onceN (L.map nm))) : NamesS nm ok L (.returned (.tuple #[.slice A n c, .bool true])) w := by
  unfold NamesS
  rw [if_pos h]
  subst hn
  exact ⟨A, c, rfl, hs⟩
end Go.Proofs.YtllmffmmfpecaaaDoor
