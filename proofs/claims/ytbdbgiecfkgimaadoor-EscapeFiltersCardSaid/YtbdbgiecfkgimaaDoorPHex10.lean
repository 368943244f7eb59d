/-
  The program's small readers: is a byte among some, what number a digit stands for; and the two digits of a byte.
-/
import Derived.Test.YtbdbgiecfkgimaaDoorBld10
import Derived.BigGuardPart
namespace Go.Proofs.YtbdbgiecfkgimaaDoor
open Go.RowKit

theorem ixb_bs (s : ByteArray) (c : Nat) (hc : c < 256) : decide (0 ≤ Lib.indexByte s.data.toList c.toUInt8) = decide (c ∈ bs s) := by
  rw [← Lib.contains_iff_indexByte]
  refine Bool.eq_iff_iff.2 ?_
  rw [decide_eq_true_iff, List.contains_iff_mem]
  unfold bs
  rw [List.mem_map]
  constructor
  · exact fun h => ⟨_, h, by rw [Nat.toUInt8, UInt8.toNat_ofNat', Nat.mod_eq_of_lt hc]⟩
  · rintro ⟨x, hx, rfl⟩
    have e : x.toNat.toUInt8 = x := by simp
    rw [e]
    exact hx
set_option maxHeartbeats 800000 in
theorem pamong_any (t : ByteArray) (c : Nat) (hc : c < 256) (w : World) :
    Calls Tryd.prog 23 #[.string t, .int .u8 (c : Int)] w fun e w' => e = .returned (.bool (decide (c ∈ bs t))) ∧ w' = w := by
  have C := Tryd.strings_IndexByte t (c : Int) w
  have hx := ixb_bs t c hc
  have hq : ((c : Int)).toNat = c := by omega
  rw [hq] at C
  obtain ⟨z, hz⟩ : ∃ z, Lib.indexByte t.data.toList c.toUInt8 = z := ⟨_, rfl⟩
  rw [hz] at C hx
  rw [← hx]
  replace C := Lib.hid C
  clear hz hx
  go_enter Tryd.func23, Tryd.ntmps23
  go_wp2_with fail
  refine C.out.mono ?_
  rintro _ w2 ⟨rfl, h2⟩
  subst w2
  dsimp only []
  go_wp2_with fail
  go_ret
  exact ⟨rfl, rfl⟩
def dgV : Option Nat → Value
  | some n => .tuple #[.int .u8 (n : Int), .bool true]
  | none => .tuple #[.int .u8 0, .bool false]
set_option maxHeartbeats 1600000 in
theorem pdigit_any (c : Nat) (hc : c < 256) (w : World) :
    Calls Tryd.prog 32 #[.int .u8 (c : Int)] w fun e w' => e = .returned (dgV (dgE c)) ∧ w' = w := by
  by_cases h1 : 48 ≤ c ∧ c ≤ 57
  · have hd : dgE c = some (c - 48) := by unfold dgE; rw [if_pos h1]
    rw [hd]
    have a1 : (48 : Int) ≤ (c : Int) := by omega
    have a2 : (c : Int) ≤ 57 := by omega
    have b1 : decide ((48 : Int) ≤ (c : Int)) = true := decide_eq_true a1
    have b2 : decide ((c : Int) ≤ 57) = true := decide_eq_true a2
    replace hd := Lib.hid hd
    go_enter Tryd.func32, Tryd.ntmps32
    go_wp2_with fail
    go_ret2
    exact ⟨by unfold dgV; go_num, rfl⟩
  by_cases h2 : 97 ≤ c ∧ c ≤ 102
  · have hd : dgE c = some (c - 87) := by unfold dgE; rw [if_neg h1, if_pos h2]
    rw [hd]
    have a1 : (48 : Int) ≤ (c : Int) := by omega
    have a2 : ¬ (c : Int) ≤ 57 := by omega
    have a3 : (97 : Int) ≤ (c : Int) := by omega
    have a4 : (c : Int) ≤ 102 := by omega
    have b1 : decide ((48 : Int) ≤ (c : Int)) = true := decide_eq_true a1
    have b2 : decide ((c : Int) ≤ 57) = false := decide_eq_false a2
    have b3 : decide ((97 : Int) ≤ (c : Int)) = true := decide_eq_true a3
    have b4 : decide ((c : Int) ≤ 102) = true := decide_eq_true a4
    replace hd := Lib.hid hd
    go_enter Tryd.func32, Tryd.ntmps32
    go_wp2_with fail
    go_ret2
    exact ⟨by unfold dgV; go_num, rfl⟩
  by_cases h3 : 65 ≤ c ∧ c ≤ 70
  · have hd : dgE c = some (c - 55) := by unfold dgE; rw [if_neg h1, if_neg h2, if_pos h3]
    rw [hd]
    have a1 : (48 : Int) ≤ (c : Int) := by omega
    have a2 : ¬ (c : Int) ≤ 57 := by omega
    have a3 : ¬ (97 : Int) ≤ (c : Int) := by omega
    have a5 : (65 : Int) ≤ (c : Int) := by omega
    have a6 : (c : Int) ≤ 70 := by omega
    have b1 : decide ((48 : Int) ≤ (c : Int)) = true := decide_eq_true a1
    have b2 : decide ((c : Int) ≤ 57) = false := decide_eq_false a2
    have b3 : decide ((97 : Int) ≤ (c : Int)) = false := decide_eq_false a3
    have b5 : decide ((65 : Int) ≤ (c : Int)) = true := decide_eq_true a5
    have b6 : decide ((c : Int) ≤ 70) = true := decide_eq_true a6
    replace hd := Lib.hid hd
    go_enter Tryd.func32, Tryd.ntmps32
    go_wp2_with fail
    go_ret2
    exact ⟨by unfold dgV; go_num, rfl⟩
  have hd : dgE c = none := by unfold dgE; rw [if_neg h1, if_neg h2, if_neg h3]
  rw [hd]
  replace hd := Lib.hid hd
  by_cases h4 : c < 48
  · have a1 : ¬ (48 : Int) ≤ (c : Int) := by omega
    have a3 : ¬ (97 : Int) ≤ (c : Int) := by omega
    have a5 : ¬ (65 : Int) ≤ (c : Int) := by omega
    have b1 : decide ((48 : Int) ≤ (c : Int)) = false := decide_eq_false a1
    have b3 : decide ((97 : Int) ≤ (c : Int)) = false := decide_eq_false a3
    have b5 : decide ((65 : Int) ≤ (c : Int)) = false := decide_eq_false a5
    go_enter Tryd.func32, Tryd.ntmps32
    go_wp2_with fail
    go_ret2
    exact ⟨rfl, rfl⟩
  have a1 : (48 : Int) ≤ (c : Int) := by omega
  have a2 : ¬ (c : Int) ≤ 57 := by omega
  have b1 : decide ((48 : Int) ≤ (c : Int)) = true := decide_eq_true a1
  have b2 : decide ((c : Int) ≤ 57) = false := decide_eq_false a2
  by_cases h5 : c < 65
  · have a3 : ¬ (97 : Int) ≤ (c : Int) := by omega
    have a5 : ¬ (65 : Int) ≤ (c : Int) := by omega
    have b3 : decide ((97 : Int) ≤ (c : Int)) = false := decide_eq_false a3
    have b5 : decide ((65 : Int) ≤ (c : Int)) = false := decide_eq_false a5
    go_enter Tryd.func32, Tryd.ntmps32
    go_wp2_with fail
    go_ret2
    exact ⟨rfl, rfl⟩
  have a5 : (65 : Int) ≤ (c : Int) := by omega
  have a6 : ¬ (c : Int) ≤ 70 := by omega
  have b5 : decide ((65 : Int) ≤ (c : Int)) = true := decide_eq_true a5
  have b6 : decide ((c : Int) ≤ 70) = false := decide_eq_false a6
  by_cases h6 : c < 97
  · have a3 : ¬ (97 : Int) ≤ (c : Int) := by omega
    have b3 : decide ((97 : Int) ≤ (c : Int)) = false := decide_eq_false a3
    go_enter Tryd.func32, Tryd.ntmps32
    go_wp2_with fail
    go_ret2
    exact ⟨rfl, rfl⟩
  have a3 : (97 : Int) ≤ (c : Int) := by omega
  have a4 : ¬ (c : Int) ≤ 102 := by omega
  have b3 : decide ((97 : Int) ≤ (c : Int)) = true := decide_eq_true a3
  have b4 : decide ((c : Int) ≤ 102) = false := decide_eq_false a4
  go_enter Tryd.func32, Tryd.ntmps32
  go_wp2_with fail
  go_ret2
  exact ⟨rfl, rfl⟩
end Go.Proofs.YtbdbgiecfkgimaaDoor
