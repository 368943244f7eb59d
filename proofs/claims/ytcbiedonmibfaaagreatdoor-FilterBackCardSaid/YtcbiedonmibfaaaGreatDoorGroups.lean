/-
  tag.groups, and tag.eachGroup with either closure.
-/
import Derived.Test.YtcbiedonmibfaaaGreatDoorBox
import Derived.Test.YtcbiedonmibfaaaGreatDoorShelf
namespace Go.Proofs.YtcbiedonmibfaaaGreatDoor
open Go.RowKit
theorem ret_i64 {a b : Int} (h : a = b) : Ending.returned (.int .i64 a) = .returned (.int .i64 b) := by rw [h]
set_option maxHeartbeats 400000 in
theorem groups_any (n wd : Nat) (w : World) (h1 : n ≤ 9223372036854775807) (h2 : 1 ≤ wd) (h3 : wd ≤ 64) :
 Calls Tryz.prog 122 #[.int .i64 (n : Int), .int .i64 (wd : Int)] w fun e w' => e = .returned (.int .i64 ((count wd n : Nat) : Int)) ∧ w = w' := by
 have hb := Lib.bitLen_le n 64 (by omega) (by omega)
 go_enter Tryz.func122, Tryz.ntmps122
 go_wp2_with (go_at_call 170; refine (Tryz.bits_Len _ _ (by omega) (by omega)).mono ?_; rintro e w' ⟨rfl, rfl⟩)
 go_ret
 refine ⟨ret_i64 ?_, rfl⟩
 unfold count
 rw [show ((Lib.bitLen n : Nat) : Int) + (wd : Int) - 1 = ((Lib.bitLen n + wd - 1 : Nat) : Int) from by omega, ← Int.natCast_ediv]
theorem and_mask (n k m : Nat) (hn : n ≤ 9223372036854775807) (hk : 2 ^ k ≤ 256) (hm : m = 2 ^ k - 1) (j b : Nat) (hb : b = 2 ^ k) :
 bits .and .i64 ((n : Int) / 2 ^ (j * k)) (m : Int) % 256 = ((n / b ^ j % b : Nat) : Int) := by
 subst hm hb
 have hpos : 0 < 2 ^ k := Nat.pow_pos (by decide)
 have e1 : (n : Int) / 2 ^ (j * k) = ((n / 2 ^ (j * k) : Nat) : Int) := by
  rw [Int.natCast_ediv, Int.natCast_pow]; rfl
 have hq : n / 2 ^ (j * k) ≤ n := Nat.div_le_self _ _
 have hpow : ∀ x m : Nat, x < 18446744073709551616 → m < 18446744073709551616 → (BitVec.ofInt 64 (x : Int) &&& BitVec.ofInt 64 (m : Int)).toNat = x &&& m := by
  intro x m hx hm
  rw [BitVec.toNat_and, BitVec.ofInt_natCast, BitVec.ofInt_natCast, BitVec.toNat_ofNat, BitVec.toNat_ofNat, Nat.mod_eq_of_lt (by omega), Nat.mod_eq_of_lt (by omega)]
 rw [e1]
 show IntKind.i64.wrap ((BitVec.ofInt 64 _ &&& BitVec.ofInt 64 _).toNat : Int) % 256 = _
 rw [hpow _ _ (by omega) (by omega), Nat.and_two_pow_sub_one_eq_mod, ← Nat.pow_mul, Nat.mul_comm k j]
 have hl : n / 2 ^ (j * k) % 2 ^ k < 256 := Nat.lt_of_lt_of_le (Nat.mod_lt _ hpos) hk
 rw [IntWalk.i64_in _ (by omega)]
 omega
theorem eachLen_mask (n j : Nat) (h : n ≤ 9223372036854775807) : bits .and .i64 ((n : Int) / 2 ^ (j * 8)) 255 % 256 = ((n / 256 ^ j % 256 : Nat) : Int) :=
 and_mask n 8 255 h (by decide) rfl j 256 rfl
theorem eachLen_mask0 (n : Nat) (h : n ≤ 9223372036854775807) : bits .and .i64 (n : Int) 255 % 256 = ((n / 256 ^ 0 % 256 : Nat) : Int) := by
 have := eachLen_mask n 0 h
 simpa using this
set_option maxHeartbeats 400000 in
theorem eachLen_any (n : Nat) (Bo base : Nat) (l : List Nat) (w : World) (h0 : 0 < n) (h1 : n ≤ 9223372036854775807) (hB : Box w Bo base l) (hl : l.length ≤ 1048580) :
 Calls Tryz.prog 123 #[.int .i64 (n : Int), .int .i64 8, .func (.func 124) #[] #[.pointer (some ⟨Bo, 0, none⟩)]] w fun e w' =>
  e = .returned (.tuple #[]) ∧ Box w' Bo base (l ++ row same 256 n (count 8 n)) ∧ Below base w w' := by
 have hpos := count_pos 8 n (by decide) (by omega) (by omega)
 have hG : count 8 n ≤ 8 := by
  have := Lib.bitLen_le n 64 (by omega) (by omega)
  unfold count; omega
 obtain ⟨G, hGe⟩ : ∃ G, G = count 8 n := ⟨_, rfl⟩
 rw [← hGe] at hpos hG ⊢
 have HG := Hd hGe
 clear hGe
 go_enter Tryz.func123, Tryz.ntmps123
 go_wp2_with (go_at_call 122; refine (groups_any n 8 _ (by omega) (by omega) (by omega)).mono ?_; rintro e w' ⟨rfl, rfl⟩; rw [← HG.out])
 go_loopw [7] (fun i wr => ∃ k : Nat, k ≤ G ∧ i = .int .i64 ((k : Int) - 1) ∧ Box wr Bo base (l ++ (row same 256 n G).take (G - k)) ∧ Below base w wr) (fun i _ => (intOf i + 1).toNat)
 case atStart => exact ⟨G, Nat.le_refl _, rfl, by simpa using hB, Below.refl _ _⟩
 case round =>
  obtain ⟨k, hk, hi, hBr, hbel⟩ := hrel
  rcases k with _ | j
  · obtain rfl := hi
    go_wp2
    go_end0
    exact ⟨rfl, by rwa [Nat.sub_zero, List.take_of_length_le (by rw [row_len]; omega)] at hBr, hbel⟩
  · rw [show ((j + 1 : Nat) : Int) - 1 = (j : Int) from by omega] at hi
    subst hi
    have ht := row_take same 256 n G j hk
    have HT := Hd ht
    have HB := Hd hBr
    have HL : (l ++ (row same 256 n G).take (G - (j + 1))).length ≤ 1048600 := by
     rw [List.length_append, List.length_take]; omega
    clear hBr ht
    have HL := Hd HL
    by_cases hj : j = 0
    · subst hj
      go_wp2_with fail
      rw [eachLen_mask0 n h1]
      refine (lenByte_any _ _ Bo base _ wr HB.out HL.out).mono ?_
      rintro e w2 ⟨rfl, hB2, hbel2⟩
      have HB2 := Hd hB2
      clear hB2
      go_wp2
      go_roundw
      case rel => exact ⟨0, by omega, rfl, by rw [HT.out, ← List.append_assoc]; exact HB2.out, hbel.trans hbel2⟩
      case measure => simp [intOf]
    · go_wp2_with fail
      rw [eachLen_mask n j h1]
      refine (lenByte_any _ _ Bo base _ wr HB.out HL.out).mono ?_
      rintro e w2 ⟨rfl, hB2, hbel2⟩
      have HB2 := Hd hB2
      clear hB2
      go_wp2
      go_roundw
      case rel => exact ⟨j, by omega, rfl, by rw [HT.out, ← List.append_assoc]; exact HB2.out, hbel.trans hbel2⟩
      case measure => simp [intOf]
theorem eachTag_mask (n j : Nat) (h : n ≤ 9223372036854775807) : bits .and .i64 ((n : Int) / 2 ^ (j * 7)) 127 % 256 = ((n / 128 ^ j % 128 : Nat) : Int) :=
 and_mask n 7 127 h (by decide) rfl j 128 rfl
theorem eachTag_mask0 (n : Nat) (h : n ≤ 9223372036854775807) : bits .and .i64 (n : Int) 127 % 256 = ((n / 128 ^ 0 % 128 : Nat) : Int) := by
 have := eachTag_mask n 0 h
 simpa using this
set_option maxHeartbeats 400000 in
theorem eachTag_any (n : Nat) (Bo base : Nat) (l : List Nat) (w : World) (h0 : 0 < n) (h1 : n ≤ 9223372036854775807) (hB : Box w Bo base l) (hl : l.length ≤ 1048580) :
 Calls Tryz.prog 123 #[.int .i64 (n : Int), .int .i64 7, .func (.func 125) #[] #[.pointer (some ⟨Bo, 0, none⟩)]] w fun e w' =>
  e = .returned (.tuple #[]) ∧ Box w' Bo base (l ++ row more 128 n (count 7 n)) ∧ Below base w w' := by
 have hpos := count_pos 7 n (by decide) (by omega) (by omega)
 have hG : count 7 n ≤ 10 := by
  have := Lib.bitLen_le n 64 (by omega) (by omega)
  unfold count; omega
 obtain ⟨G, hGe⟩ : ∃ G, G = count 7 n := ⟨_, rfl⟩
 rw [← hGe] at hpos hG ⊢
 have HG := Hd hGe
 clear hGe
 go_enter Tryz.func123, Tryz.ntmps123
 go_wp2_with (go_at_call 122; refine (groups_any n 7 _ (by omega) (by omega) (by omega)).mono ?_; rintro e w' ⟨rfl, rfl⟩; rw [← HG.out])
 go_loopw [7] (fun i wr => ∃ k : Nat, k ≤ G ∧ i = .int .i64 ((k : Int) - 1) ∧ Box wr Bo base (l ++ (row more 128 n G).take (G - k)) ∧ Below base w wr) (fun i _ => (intOf i + 1).toNat)
 case atStart => exact ⟨G, Nat.le_refl _, rfl, by simpa using hB, Below.refl _ _⟩
 case round =>
  obtain ⟨k, hk, hi, hBr, hbel⟩ := hrel
  rcases k with _ | j
  · obtain rfl := hi
    go_wp2
    go_end0
    exact ⟨rfl, by rwa [Nat.sub_zero, List.take_of_length_le (by rw [row_len]; omega)] at hBr, hbel⟩
  · rw [show ((j + 1 : Nat) : Int) - 1 = (j : Int) from by omega] at hi
    subst hi
    have ht := row_take more 128 n G j hk
    have HT := Hd ht
    have HB := Hd hBr
    have HL : (l ++ (row more 128 n G).take (G - (j + 1))).length ≤ 1048600 := by
     rw [List.length_append, List.length_take]; omega
    clear hBr ht
    have HL := Hd HL
    have hm : n / 128 ^ j % 128 < 128 := Nat.mod_lt _ (by decide)
    by_cases hj : j = 0
    · subst hj
      go_wp2_with fail
      rw [eachTag_mask0 n h1]
      refine (tagByte_last _ Bo base _ wr HB.out HL.out).mono ?_
      rintro e w2 ⟨rfl, hB2, hbel2⟩
      have HB2 := Hd hB2
      clear hB2
      go_wp2
      go_roundw
      case rel => exact ⟨0, by omega, rfl, by rw [HT.out, ← List.append_assoc]; exact HB2.out, hbel.trans hbel2⟩
      case measure => simp [intOf]
    · have hjb : ((j : Int) == 0) = false := beq_eq_false_iff_ne.2 (by omega)
      go_wp2_with fail
      rw [eachTag_mask n j h1]
      refine (tagByte_more _ Bo base _ wr hm HB.out HL.out).mono ?_
      rintro e w2 ⟨rfl, hB2, hbel2⟩
      have HB2 := Hd hB2
      clear hB2
      go_wp2
      go_roundw
      case rel => exact ⟨j, by omega, rfl, by rw [HT.out, ← List.append_assoc, show (j == 0) = false from by simp [hj]]; exact HB2.out, hbel.trans hbel2⟩
      case measure => simp [intOf]
end Go.Proofs.YtcbiedonmibfaaaGreatDoor
