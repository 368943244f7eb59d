/-
  Whether a string is among others: the document's has, and the law's.
-/
import Derived.Test.YtllmffmmfpecaaaDoorRefFindC8
namespace Go.Proofs.YtllmffmmfpecaaaDoor
open Go.RowKit

set_option maxRecDepth 4000 in
theorem refHas_any (s : ByteArray) (A : Option Addr) (cp N K : Nat) (L : List (List UInt8)) (w : World) (hN : N ≤ 1000000) (hL : L.length = N) (hsrc : SrcO w K A cp L) :
    Calls Tryd.prog 37 #[.slice A N cp, .string s] w fun e w' => e = .returned (.bool (decide (s.data.toList ∈ L))) ∧ w' = w := by
  have hget : Hid (∀ k, k < N → ∃ ad l, A = some ad ∧ L[k]? = some l ∧ w.cell? (ad.add k) = some (.string (baO l))) := Lib.hid fun k hk => by
    have hlt : k < L.length := by omega
    rcases A with _ | a
    · have e1 := hsrc.le
      have e2 := hsrc.nil rfl
      omega
    · exact ⟨a, _, rfl, List.getElem?_eq_getElem hlt, (hsrc.at_ a rfl).2 k _ (List.getElem?_eq_getElem hlt)⟩
  replace hL := Lib.hid hL
  clear hsrc
  go_enter Tryd.func37, Tryd.ntmps37
  go_wp2_with fail
  go_loop [5] (fun i => ∃ k : Nat, k ≤ N ∧ i = .int .i64 (k : Int) ∧ Hid (∀ j < k, ∀ l, L[j]? = some l → l ≠ s.data.toList)) (fun i => N - (intOf i).toNat)
  case atStart => exact ⟨0, Nat.zero_le _, rfl, Lib.hid (fun j hj => absurd hj (Nat.not_lt_zero _))⟩
  case round =>
    obtain ⟨k, hk, rfl, HF⟩ := hrel
    by_cases hlt : k < N
    · obtain ⟨ad, l, rfl, hl, hc⟩ := hget.out k hlt
      have i0 : (0 : Int) ≤ (k : Int) := by omega
      have i1 : (k : Int) < (N : Int) := by omega
      replace hl := Lib.hid hl
      by_cases e : l = s.data.toList
      · have eb : ((baO l).toList == s.toList) = true := beq_iff_eq.2 (by rw [baO_toList, ByteArray.toList_eq, e])
        have hin : s.data.toList ∈ L := by rw [← e]; exact List.mem_of_getElem? hl.out
        replace hin := Lib.hid hin
        clear e
        go_wp2_with fail
        go_ret
        exact ⟨by rw [decide_eq_true hin.out]; rfl, rfl⟩
      · have eb : ((baO l).toList == s.toList) = false := beq_eq_false_iff_ne.2 (by rw [baO_toList, ByteArray.toList_eq]; exact e)
        have eb' : ¬ (baO l).toList = s.toList := by rw [baO_toList, ByteArray.toList_eq]; exact e
        replace e := Lib.hid e
        go_wp2_with fail
        go_round
        case rel =>
          refine ⟨k + 1, by omega, by go_num, Lib.hid (fun j hj m hm => ?_)⟩
          by_cases hjk : j < k
          · exact HF.out j hjk m hm
          · obtain rfl : j = k := by omega
            rw [hl.out] at hm
            injection hm with hm
            rw [← hm]
            exact e.out
        case measure => simp [intOf]; omega
    · obtain rfl : k = N := by omega
      have hno : ¬ s.data.toList ∈ L := fun h => by
        obtain ⟨j, hj, e⟩ := List.mem_iff_getElem.1 h
        exact HF.out j (by rw [← hL.out]; exact hj) _ (List.getElem?_eq_getElem hj) e
      have i1 : ¬ ((k : Int) < (k : Int)) := by omega
      replace hno := Lib.hid hno
      go_wp2_with fail
      go_ret
      exact ⟨by rw [decide_eq_false hno.out]; rfl, rfl⟩
end Go.Proofs.YtllmffmmfpecaaaDoor
