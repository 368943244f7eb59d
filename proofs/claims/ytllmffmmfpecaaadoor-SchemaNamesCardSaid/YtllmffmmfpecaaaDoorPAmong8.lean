/-
  The program's closure that tells whether a string is one of a list.
-/
import Derived.Test.YtllmffmmfpecaaaDoorShelf
import Derived.Test.YtllmffmmfpecaaaDoorMB8
namespace Go.Proofs.YtllmffmmfpecaaaDoor
open Go.RowKit

theorem contains_any (s : ByteArray) (A : Option Addr) (cp N K : Nat) (L : List (List UInt8)) (w : World) (hN : N ≤ 1000000) (hL : L.length = N) (hsrc : SrcO w K A cp L) :
    Calls Tryd.prog 51 #[.slice A N cp, .string s] w fun e w' => e = .returned (.bool (decide (s.data.toList ∈ L))) ∧ w' = w := by
  rcases L with _ | ⟨l, L⟩
  · subst hL
    exact (Tryd.slices_Contains_string_empty A cp s w).mono fun e w' ⟨h1, h2⟩ => ⟨h1, h2⟩
  · obtain ⟨ad, _, rfl, _, h0⟩ := hsrc.get 0 (by simp)
    have hc0 := (hsrc.at_ ad rfl).2 0 l rfl
    obtain ⟨b, o, sp⟩ := ad
    obtain rfl : sp = none := by
      unfold World.cell? at hc0
      split at hc0
      · split at hc0
        · cases hc0
        · rename_i h1
          simpa [Addr.add] using h1
      · cases hc0
    have hc := (hsrc.at_ _ rfl).2
    have hcc : ∀ j, j < ((l :: L).map baO).length → w.cell? ⟨b, o + j, none⟩ = some (.string (((l :: L).map baO).getD j ByteArray.empty)) := fun j hj => by
      have hj' : j < (l :: L).length := by simpa using hj
      have := hc j _ (List.getElem?_eq_getElem hj')
      rw [Addr.add_lit] at this
      rw [this]
      congr 2
      rw [List.getD_eq_getElem?_getD, List.getElem?_map, List.getElem?_eq_getElem hj']
      rfl
    refine (Tryd.slices_Contains_string b o N cp ((l :: L).map baO) s w (by rw [List.length_map, hL]; omega) (by omega) hcc).mono fun e w' ⟨h1, h2⟩ => ⟨?_, h2⟩
    rw [h1]
    congr 2
    rw [List.take_of_length_le (by rw [List.length_map, hL]; omega), Bool.eq_iff_iff, Lib.containsS_iff, decide_eq_true_eq]
    constructor
    · intro h
      obtain ⟨x, hx, rfl⟩ := List.mem_map.1 h
      exact hx
    · intro h
      exact List.mem_map.2 ⟨_, h, (eq_baO rfl).symm⟩
/-- What among answers: the closure, whose box at b holds the list. -/
theorem among_any (A : Option Addr) (cp N : Nat) (w : World) : Calls Tryd.prog 34 #[.slice A N cp] w fun e w' => e = .returned (.func (.func 50) #[] #[.pointer (some ⟨w.heap.size, 0, none⟩)]) ∧ w' = w.alloc (.cells #[.slice A N cp] 29) := by
  go_enter Tryd.func34, Tryd.ntmps34
  go_wp2_with fail
  go_ret
  exact ⟨rfl, rfl⟩
theorem among1_any (s : ByteArray) (b : Nat) (A : Option Addr) (cp N K : Nat) (L : List (List UInt8)) (w : World) (hN : N ≤ 1000000) (hL : L.length = N) (hsrc : SrcO w K A cp L) (hc : w.cell? ⟨b, 0, none⟩ = some (.slice A N cp)) :
    Calls Tryd.prog 50 #[.string s, .pointer (some ⟨b, 0, none⟩)] w fun e w' => e = .returned (.bool (decide (s.data.toList ∈ L))) ∧ w' = w := by
  have CC := Lib.hid (contains_any s A cp N K L w hN hL hsrc)
  obtain ⟨q, hq⟩ : ∃ q, decide (s.data.toList ∈ L) = q := ⟨_, rfl⟩
  rw [hq] at CC ⊢
  clear hq hsrc
  replace hL := Lib.hid hL
  go_enter Tryd.func50, Tryd.ntmps50
  go_wp2_with fail
  refine CC.out.mono ?_
  rintro _ w2 ⟨rfl, h2⟩
  subst w2
  dsimp only []
  go_wp2_with fail
  go_ret
  exact ⟨rfl, rfl⟩
end Go.Proofs.YtllmffmmfpecaaaDoor
