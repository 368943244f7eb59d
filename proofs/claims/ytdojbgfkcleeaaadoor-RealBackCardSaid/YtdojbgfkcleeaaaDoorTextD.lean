/-
  The program's Text of any number.
-/
import Derived.Test.YtdojbgfkcleeaaaDoorHexFmt
import Derived.Test.YtdojbgfkcleeaaaDoorNanP
import Derived.Test.YtdojbgfkcleeaaaDoorRHypD
namespace Go.Proofs.YtdojbgfkcleeaaaDoor
open Ieee Go.RowKit

theorem repeat_data : ∀ k, k ≤ 16 → Lib.repeatL [48] k = (List.replicate k 48).map UInt8.ofNat := by decide +kernel
theorem repeat_zeros (m : Nat) (h : m ≤ 16) (w : World) : Calls Tryd.prog 20 #[.string ⟨#[48]⟩, .int .i64 (16 - (m : Int))] w fun e w' => e = .returned (.string (strB (List.replicate (16 - m) 48))) ∧ Below w.heap.size w w' := by
  have C := Tryd.strings_Repeat ⟨#[48]⟩ (16 - m) w (by omega) (by show 1 * (16 - m) ≤ _; omega)
  rw [show ((16 - m : Nat) : Int) = 16 - (m : Int) by omega] at C
  refine C.mono fun e w' ⟨h1, h2⟩ => ⟨?_, h2⟩
  rw [h1]
  have hr := repeat_data (16 - m) (by omega)
  unfold strB
  rw [← hr]
set_option maxRecDepth 8000 in
set_option maxHeartbeats 800000 in
theorem text_any (x : Nat) (w : World) (hx : x < 18446744073709551616) (hT : TabZ w) :
    Calls Tryd.prog 9 #[.float .f64 x] w fun e w' => e = .returned (.string (strB (hexL (fBits x)))) ∧ Below w.heap.size w w' := by
  have CP := plain_any x w
  have hn := fBits_lt x hx
  obtain ⟨n, hne⟩ : ∃ n, n = fBits x := ⟨_, rfl⟩
  rw [← hne] at CP hn ⊢
  have CF := fmt_any n hn w hT
  have hbr := fun w => bits_run n w
  have CR := repeat_zeros
  replace CP := Lib.hid CP
  replace CF := Lib.hid CF
  replace CR := Lib.hid CR
  replace hne := Lib.hid hne
  replace hT := Lib.hid hT
  go_enter Tryd.func9, Tryd.ntmps9
  go_wp2_with fail
  refine CP.out.mono ?_
  rintro _ _ ⟨rfl, rfl⟩
  dsimp only []
  go_wp2_with fail
  refine CF.out.mono ?_
  rintro _ w1 ⟨⟨m, rfl, m1, m2, m3⟩, hb⟩
  replace hb := Lib.hid hb
  have hlen : (strB (hexM n m)).size = m := by rw [← bs_len, bs_strB _ (hexM_byte n m), hexM_len]
  have hfin : strB (List.replicate (16 - m) 48) ++ strB (hexM n m) = strB (hexL n) := by
    refine bs_inj ?_
    rw [bs_append, bs_strB _ (hexM_byte n m), bs_strB _ (hexL_byte n), hexL_hexM n m m2 m3, bs_strB _ (fun x hx => by rw [List.eq_of_mem_replicate hx]; omega)]
  obtain ⟨t, ht⟩ : ∃ t, t = strB (hexM n m) := ⟨_, rfl⟩
  rw [← ht] at hfin hlen ⊢
  have hlen2 : (t.size : Int) = (m : Int) := by rw [hlen]
  have ht16 : t.size ≤ 16 := by omega
  have hz16 : (strB (List.replicate (16 - m) 48)).size ≤ 16 := by
    rw [← bs_len, bs_strB _ (fun x hx => by rw [List.eq_of_mem_replicate hx]; omega), List.length_replicate]
    omega
  replace m3 := Lib.hid m3
  replace ht := Lib.hid ht
  replace hlen := Lib.hid hlen
  dsimp only []
  go_wp2_with fail
  refine (CR.out m m2 _).mono ?_
  rintro _ w2 ⟨rfl, hb2⟩
  replace hb2 := Lib.hid (below_on hb.out hb2)
  dsimp only []
  go_wp2_with fail
  go_ret
  exact ⟨rfl, hb2.out⟩
end Go.Proofs.YtdojbgfkcleeaaaDoor
