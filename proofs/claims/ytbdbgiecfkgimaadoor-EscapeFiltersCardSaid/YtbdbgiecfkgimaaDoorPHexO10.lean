/-
  The program's Hex.
-/
import Derived.Test.YtbdbgiecfkgimaaDoorBld10
import Derived.Test.YtbdbgiecfkgimaaDoorEHHex
import Derived.BigGuardPart
namespace Go.Proofs.YtbdbgiecfkgimaaDoor
open Go.RowKit

theorem digit_at : ∀ a : Nat, (h : a < 16) → (⟨#[48, 49, 50, 51, 52, 53, 54, 55, 56, 57, 97, 98, 99, 100, 101, 102]⟩ : ByteArray)[a].toNat = hxE a := by decide +kernel
theorem low_four : ∀ c < 256, bits BinOp.and IntKind.u8 ((c : Nat) : Int) 15 = ((c % 16 : Nat) : Int) := by decide +kernel
set_option maxHeartbeats 1600000 in
theorem puthex_any (base b : Nat) (l : List Nat) (c : Nat) (w : World) (h : BldN w base b l) (hc : c < 256) (hlen : l.length ≤ 999000) (hB : base ≤ w.heap.size) :
    Calls Tryd.prog 34 #[.pointer (some ⟨b, 0, none⟩), .int .u8 (c : Int)] w fun e w' => e = .returned (.tuple #[]) ∧ BldN w' base b (l ++ twoE c) ∧ Below base w w' := by
  obtain ⟨p, hp⟩ : ∃ p, c / 16 = p := ⟨_, rfl⟩
  obtain ⟨q, hq⟩ : ∃ q, c % 16 = q := ⟨_, rfl⟩
  have p16 : p < 16 := by omega
  have q16 : q < 16 := by omega
  have e1 : (c : Int) / 16 = (p : Int) := by omega
  have e2 : (c : Int) % 16 = (q : Int) := by omega
  have ht : twoE c = [hxE p] ++ [hxE q] := by unfold twoE; rw [hp, hq]; rfl
  have e3 := low_four c hc
  rw [hq] at e3
  have C1 := (bld_byte base b l (hxE p) w h (by have := hx_form p p16; omega) (by omega) hB)
  have C2 := Lib.hid fun w1 (h1 : BldN w1 base b (l ++ [hxE p])) (hB1 : base ≤ w1.heap.size) => (bld_byte base b (l ++ [hxE p]) (hxE q) w1 h1 (by have := hx_form q q16; omega) (by simp; omega) hB1)
  rw [← digit_at p p16] at C1
  simp only [← digit_at q q16] at C2
  replace C1 := Lib.hid C1
  replace hp := Lib.hid hp
  replace hq := Lib.hid hq
  replace ht := Lib.hid ht
  replace h := Lib.hid h
  go_enter Tryd.func34, Tryd.ntmps34
  go_wp2_with fail
  refine C1.out.mono ?_
  rintro _ w1 ⟨rfl, h1, hb1⟩
  rw [digit_at p p16] at h1
  have C3 := Lib.hid (C2.out w1 h1 (Nat.le_trans hB hb1.size))
  replace h1 := Lib.hid h1
  replace hb1 := Lib.hid hb1
  dsimp only []
  go_wp2_with fail
  refine C3.out.mono ?_
  rintro _ w2 ⟨rfl, h2, hb2⟩
  rw [digit_at q q16, List.append_assoc, ← ht.out] at h2
  replace h2 := Lib.hid h2
  replace hb2 := Lib.hid (hb1.out.trans hb2)
  dsimp only []
  go_wp2_with fail
  go_end0
  exact ⟨rfl, h2.out, hb2.out⟩
theorem hex_snoc (s : ByteArray) (k : Nat) (h : k < s.size) : hexE ((bs s).take (k + 1)) = hexE ((bs s).take k) ++ twoE s[k].toNat := by
  rw [bs_snocE s k h, hex_app]
  show _ ++ (twoE _ ++ []) = _
  rw [List.append_nil]
set_option maxHeartbeats 1600000 in
theorem phex_any (s : ByteArray) (w : World) (hs : s.size ≤ 2000) :
    Calls Tryd.prog 14 #[.string s] w fun e w' => e = .returned (.string (strB (hexE (bs s)))) ∧ Below w.heap.size w w' := by
  have G := bld_grow (2 * s.size) w (by omega)
  have eq2 : (((2 * s.size : Nat)) : Int) = 2 * (s.size : Int) := by push_cast; rfl
  rw [eq2] at G
  replace G := Lib.hid G
  clear eq2
  go_enter Tryd.func14, Tryd.ntmps14
  go_wp2_with fail
  refine G.out.mono ?_
  rintro _ w1 ⟨rfl, h1, hb1⟩
  replace h1 := Lib.hid h1
  replace hb1 := Lib.hid hb1
  dsimp only []
  go_wp2_with fail
  go_loopw [11] (fun iv wr => ∃ (k : Nat), k ≤ s.size ∧ iv = .int .i64 (k : Int) ∧ Hid (BldN wr w.heap.size w.heap.size (hexE ((bs s).take k))) ∧ Hid (Below w.heap.size w wr)) (fun i _ => s.size - (RowKit.intOf i).toNat)
  case atStart => exact ⟨0, Nat.zero_le _, rfl, Lib.hid (by rw [List.take_zero]; exact h1.out), hb1⟩
  case round =>
    obtain ⟨k, hk, rfl, HX, HB⟩ := hrel
    have zr := HB.out.size
    by_cases hlt : k < s.size
    · have i0 : (0 : Int) ≤ (k : Int) := by omega
      have i1 : (k : Int) < (s.size : Int) := by omega
      have hsn := hex_snoc s k hlt
      have b1 := byte_lt s k hlt
      have hlen : (hexE ((bs s).take k)).length ≤ 999000 := by
        rw [hex_len, List.length_take, bs_len]
        omega
      have C := puthex_any w.heap.size w.heap.size _ s[k].toNat wr HX.out b1 hlen zr
      rw [← hsn] at C
      obtain ⟨a, ha⟩ : ∃ a, s[k].toNat = a := ⟨_, rfl⟩
      have hai : ((s[k].toNat : Nat) : Int) = (a : Int) := by rw [ha]
      rw [ha] at C b1
      replace C := Lib.hid C
      replace ha := Lib.hid ha
      replace hsn := Lib.hid hsn
      go_wp2_with fail
      refine C.out.mono ?_
      rintro _ w2 ⟨rfl, h2, hb2⟩
      replace h2 := Lib.hid h2
      replace hb2 := Lib.hid (HB.out.trans hb2)
      dsimp only []
      go_wp2_with fail
      go_roundw
      case rel => exact ⟨k + 1, by omega, by go_num, h2, hb2⟩
      case measure => simp [RowKit.intOf]; omega
    · have hkk : k = s.size := by omega
      subst hkk
      have i1 : ¬ ((s.size : Int) < (s.size : Int)) := by omega
      have hX := HX.out
      rw [bs_endE] at hX
      have C3 := Lib.hid (bld_read w.heap.size w.heap.size _ wr hX zr)
      clear hX
      go_wp2_with fail
      refine C3.out.mono ?_
      rintro _ w2 ⟨rfl, h2⟩
      replace h2 := Lib.hid (HB.out.trans h2)
      dsimp only []
      go_wp2_with fail
      go_ret
      exact ⟨rfl, h2.out⟩
end Go.Proofs.YtbdbgiecfkgimaaDoor
