/-
  The program's classNames.
-/
import Derived.Test.YtllmffmmfpecaaaDoorPNamesC8
import Derived.Test.YtllmffmmfpecaaaDoorPRow8
namespace Go.Proofs.YtllmffmmfpecaaaDoor
open Go.RowKit

def isC (x : List UInt8) : Bool := (findC x).isSome
theorem valR_form (x : List UInt8) : ∃ (u1 u2 u4 u5 : ByteArray), valR (findC x) = .tuple #[.agg #[.string (baO (nameC x)), .string u1, .string u2, .int .i64 (kindC x : Int), .string u4, .string u5], .bool (isC x)] := by
  unfold valR nameC kindC isC
  rcases findC x with _ | c
  · exact ⟨_, _, _, _, rfl⟩
  · exact ⟨_, _, _, _, rfl⟩
set_option maxRecDepth 8000 in
set_option maxHeartbeats 1600000 in
theorem clsName1_any (x : List UInt8) (g o : Nat) (w : World) (hx : x.length ≤ 600) (HT : TabC w g o) :
    Calls Tryd.prog 44 #[.string (baO x)] w fun e w' => e = .returned (.tuple #[.string (baO (nameC x)), .bool (isC x)]) ∧ Below w.heap.size w w' := by
  have CF := Lib.hid (findR_any (baO x) g o w (by rw [baO_size]; exact hx) HT)
  rw [baO_list] at CF
  obtain ⟨u1, u2, u4, u5, hv⟩ := valR_form x
  rw [hv] at CF
  obtain ⟨n, hn⟩ : ∃ n, nameC x = n := ⟨_, rfl⟩
  obtain ⟨k, hk⟩ : ∃ k, kindC x = k := ⟨_, rfl⟩
  obtain ⟨q, hq⟩ : ∃ q, isC x = q := ⟨_, rfl⟩
  rw [hn, hq, hk] at CF
  rw [hn, hq]
  clear hv hn hq hk HT
  go_enter Tryd.func44, Tryd.ntmps44
  go_wp2_with fail
  refine CF.out.mono ?_
  rintro _ w1 ⟨rfl, hb⟩
  have HB := Lib.hid hb
  have z1 := hb.size
  clear hb CF
  dsimp only []
  go_wp2_with fail
  go_ret2
  exact ⟨rfl, HB.out.alloc z1 _⟩
set_option maxRecDepth 8000 in
set_option maxHeartbeats 1600000 in
theorem clsNames_any (A : Option Addr) (cp N g o : Nat) (L : List (List UInt8)) (w : World) (hN : N ≤ 1000) (hL : L.length = N) (hsrc : SrcO w w.heap.size A cp L) (hl : ∀ l ∈ L, l.length ≤ 600) (HT : TabC w g o) :
    Calls Tryd.prog 29 #[.slice A N cp] w fun e w' => NamesS nameC isC L e w' ∧ Below w.heap.size w w' := by
  have CN := Lib.hid (namesC_any nameC isC A cp N L w hN hL hsrc fun x hx W hW => clsName1_any x g o W (hl x hx) (HT.below hW))
  clear hl hsrc hL HT
  go_enter Tryd.func29, Tryd.ntmps29
  go_wp2_with fail
  refine CN.out.mono ?_
  rintro e w1 ⟨hS, hb⟩
  have HB := Lib.hid hb
  have HS := Lib.hid hS
  clear hb CN
  unfold NamesS at hS
  split at hS
  · obtain ⟨A1, c1, rfl, _⟩ := hS
    dsimp only []
    go_wp2_with fail
    go_ret2
    exact ⟨HS.out, HB.out⟩
  · subst hS
    dsimp only []
    go_wp2_with fail
    go_ret2
    exact ⟨HS.out, HB.out⟩
end Go.Proofs.YtllmffmmfpecaaaDoor
