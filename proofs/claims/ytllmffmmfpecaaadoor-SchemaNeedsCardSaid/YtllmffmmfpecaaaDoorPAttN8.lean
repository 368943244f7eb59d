/-
  The program's attributeNames.
-/
import Derived.Test.YtllmffmmfpecaaaDoorPNamesA8
import Derived.Test.YtllmffmmfpecaaaDoorPFind8
namespace Go.Proofs.YtllmffmmfpecaaaDoor
open Go.RowKit

def isA (x : List UInt8) : Bool := (findA x).isSome
theorem valA_name (x : List UInt8) : ∃ (al oi : ByteArray) (sy : Int) (si : Bool), valA (findA x) = .tuple #[.agg #[.string (baO (nameA x)), .string al, .string oi, .int .i64 sy, .bool si], .bool (isA x)] := by
  unfold valA nameA isA
  rcases findA x with _ | a
  · exact ⟨_, _, _, _, rfl⟩
  · exact ⟨_, _, _, _, rfl⟩
set_option maxRecDepth 8000 in
set_option maxHeartbeats 1600000 in
theorem attName1_any (x : List UInt8) (g o : Nat) (w : World) (hx : x.length ≤ 600) (HT : TabA w g o) :
    Calls Tryd.prog 52 #[.string (baO x)] w fun e w' => e = .returned (.tuple #[.string (baO (nameA x)), .bool (isA x)]) ∧ Below w.heap.size w w' := by
  have CF := Lib.hid (find_any (baO x) g o w (by rw [baO_size]; exact hx) HT)
  rw [baO_list] at CF
  obtain ⟨al, oi, sy, si, hv⟩ := valA_name x
  rw [hv] at CF
  obtain ⟨n, hn⟩ : ∃ n, nameA x = n := ⟨_, rfl⟩
  obtain ⟨q, hq⟩ : ∃ q, isA x = q := ⟨_, rfl⟩
  rw [hn, hq] at CF ⊢
  clear hv hn hq HT
  go_enter Tryd.func52, Tryd.ntmps52
  go_wp2_with fail
  refine CF.out.mono ?_
  rintro _ w1 ⟨rfl, hb⟩
  have HB := Lib.hid hb
  have z1 := hb.size
  clear hb CF
  dsimp only []
  go_wp2_with fail
  go_ret2
  exact ⟨rfl, HB.out.alloc z1 _⟩
set_option maxRecDepth 8000 in
set_option maxHeartbeats 1600000 in
theorem attNames_any (A : Option Addr) (cp N g o : Nat) (L : List (List UInt8)) (w : World) (hN : N ≤ 1000) (hL : L.length = N) (hsrc : SrcO w w.heap.size A cp L) (hl : ∀ l ∈ L, l.length ≤ 600) (HT : TabA w g o) :
    Calls Tryd.prog 38 #[.slice A N cp] w fun e w' => NamesS nameA isA L e w' ∧ Below w.heap.size w w' := by
  have CN := Lib.hid (namesA_any nameA isA A cp N L w hN hL hsrc fun x hx W hB => attName1_any x g o W (hl x hx) (HT.below hB))
  clear hl hsrc hL HT
  go_enter Tryd.func38, Tryd.ntmps38
  go_wp2_with fail
  refine CN.out.mono ?_
  rintro e w1 ⟨hS, hb⟩
  have HB := Lib.hid hb
  have HS := Lib.hid hS
  clear hb CN
  unfold NamesS at hS
  split at hS
  · obtain ⟨A1, c1, rfl, _⟩ := hS
    dsimp only []
    go_wp2_with fail
    go_ret2
    exact ⟨HS.out, HB.out⟩
  · subst hS
    dsimp only []
    go_wp2_with fail
    go_ret2
    exact ⟨HS.out, HB.out⟩
end Go.Proofs.YtllmffmmfpecaaaDoor
