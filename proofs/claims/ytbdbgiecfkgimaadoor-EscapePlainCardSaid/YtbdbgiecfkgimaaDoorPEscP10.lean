/-
  The program's escape, with the two functions of Put.
-/
import Derived.Test.YtbdbgiecfkgimaaDoorEscF10
import Derived.Test.YtbdbgiecfkgimaaDoorPHexO10
namespace Go.Proofs.YtbdbgiecfkgimaaDoor
open Go.RowKit

set_option maxRecDepth 4000 in
set_option maxHeartbeats 3200000 in
theorem escapePut_any (s : ByteArray) (b1 b2 : Nat) (mk cd : Nat → Bool) (w : World) (hs : s.size ≤ 2000)
    (CM : ∀ k, k < s.size → ∀ W, Below w.heap.size w W → Calls Tryd.prog 27 #[.int .i64 (k : Int), .pointer (some ⟨b1, 0, none⟩)] W fun e w' => e = .returned (.bool (mk k)) ∧ w' = W)
    (CC : ∀ k, k < s.size → ∀ W, Below w.heap.size w W → Calls Tryd.prog 28 #[.int .i64 (k : Int), .pointer (some ⟨b1, 0, none⟩), .pointer (some ⟨b2, 0, none⟩)] W fun e w' => e = .returned (.bool (cd k)) ∧ w' = W) :
    Calls Tryd.prog 24 #[.string s, .func (.func 27) #[] #[.pointer (some ⟨b1, 0, none⟩)], .func (.func 28) #[] #[.pointer (some ⟨b1, 0, none⟩), .pointer (some ⟨b2, 0, none⟩)]] w fun e w' => e = .returned (.string (strB (escF mk cd (bs s) s.size))) ∧ Below w.heap.size w w' := by
  have G := Lib.hid (bld_grow s.size w (by omega))
  replace CM := Lib.hid CM
  replace CC := Lib.hid CC
  go_enter Tryd.func24, Tryd.ntmps24
  go_wp2_with fail
  refine G.out.mono ?_
  rintro _ w1 ⟨rfl, h1, hb1⟩
  replace h1 := Lib.hid h1
  replace hb1 := Lib.hid hb1
  dsimp only []
  go_wp2_with fail
  go_loopw [14] (fun iv wr => ∃ (k : Nat), k ≤ s.size ∧ iv = .int .i64 (k : Int) ∧ Hid (BldN wr w.heap.size w.heap.size (escF mk cd (bs s) k)) ∧ Hid (Below w.heap.size w wr)) (fun i _ => s.size - (RowKit.intOf i).toNat)
  case atStart => exact ⟨0, Nat.zero_le _, rfl, Lib.hid h1.out, hb1⟩
  case round =>
    obtain ⟨k, hk, rfl, HX, HB⟩ := hrel
    have zr := HB.out.size
    by_cases hlt : k < s.size
    · have i0 : (0 : Int) ≤ (k : Int) := by omega
      have i1 : (k : Int) < (s.size : Int) := by omega
      have hsn := escF_succ mk cd s k hlt
      have b1' := byte_lt s k hlt
      have hlen : (escF mk cd (bs s) k).length ≤ 900000 := by
        have := escF_len mk cd (bs s) k
        omega
      have C2 := Lib.hid (CC.out k hlt wr HB.out)
      have C1 := Lib.hid (CM.out k hlt wr HB.out)
      obtain ⟨X, hX⟩ : ∃ X, escF mk cd (bs s) k = X := ⟨_, rfl⟩
      rw [hX] at HX hsn hlen
      obtain ⟨a, ha⟩ : ∃ a, s[k].toNat = a := ⟨_, rfl⟩
      have hai : ((s[k].toNat : Nat) : Int) = (a : Int) := by rw [ha]
      rw [ha] at hsn b1'
      have B92 := Lib.hid (bld_b92 w.heap.size w.heap.size X wr HX.out (by omega) zr)
      have Bown := Lib.hid (bld_byte w.heap.size w.heap.size X a wr HX.out b1' (by omega) zr)
      replace ha := Lib.hid ha
      replace hX := Lib.hid hX
      cases hc : cd k
      · cases hm : mk k
        · rw [hc] at C2 hsn
          rw [hm] at C1 hsn
          replace hsn := Lib.hid hsn
          replace hc := Lib.hid hc
          replace hm := Lib.hid hm
          go_wp2_with fail
          refine C2.out.mono ?_
          rintro _ w2 ⟨rfl, h2⟩
          subst w2
          dsimp only []
          go_wp2_with fail
          refine C1.out.mono ?_
          rintro _ w2 ⟨rfl, h2⟩
          subst w2
          dsimp only []
          go_wp2_with fail
          refine Bown.out.mono ?_
          rintro _ w2 ⟨rfl, h2, hb2⟩
          replace h2 := Lib.hid h2
          replace hb2 := Lib.hid (HB.out.trans hb2)
          dsimp only []
          go_wp2_with fail
          go_roundw
          case rel => exact ⟨k + 1, by omega, by go_num, Lib.hid (by rw [hsn.out]; exact h2.out), hb2⟩
          case measure => simp [RowKit.intOf]; omega
        · rw [hc] at C2 hsn
          rw [hm] at C1 hsn
          replace hsn := Lib.hid hsn
          replace hc := Lib.hid hc
          replace hm := Lib.hid hm
          go_wp2_with fail
          refine C2.out.mono ?_
          rintro _ w2 ⟨rfl, h2⟩
          subst w2
          dsimp only []
          go_wp2_with fail
          refine C1.out.mono ?_
          rintro _ w2 ⟨rfl, h2⟩
          subst w2
          dsimp only []
          go_wp2_with fail
          refine B92.out.mono ?_
          rintro _ w2 ⟨rfl, h2, hb2⟩
          have zr2 := Nat.le_trans zr hb2.size
          have C3 := Lib.hid (bld_byte w.heap.size w.heap.size (X ++ [92]) a w2 h2 b1' (by simp; omega) zr2)
          replace h2 := Lib.hid h2
          replace hb2 := Lib.hid (HB.out.trans hb2)
          dsimp only []
          go_wp2_with fail
          refine C3.out.mono ?_
          rintro _ w3 ⟨rfl, h3, hb3⟩
          rw [List.append_assoc] at h3
          replace h3 := Lib.hid h3
          replace hb3 := Lib.hid (hb2.out.trans hb3)
          dsimp only []
          go_wp2_with fail
          go_roundw
          case rel => exact ⟨k + 1, by omega, by go_num, Lib.hid (by rw [hsn.out]; exact h3.out), hb3⟩
          case measure => simp [RowKit.intOf]; omega
      · rw [hc] at C2 hsn
        replace hsn := Lib.hid hsn
        replace hc := Lib.hid hc
        go_wp2_with fail
        refine C2.out.mono ?_
        rintro _ w2 ⟨rfl, h2⟩
        subst w2
        dsimp only []
        go_wp2_with fail
        refine B92.out.mono ?_
        rintro _ w2 ⟨rfl, h2, hb2⟩
        have zr2 := Nat.le_trans zr hb2.size
        have C3 := Lib.hid (puthex_any w.heap.size w.heap.size (X ++ [92]) a w2 h2 b1' (by simp; omega) zr2)
        replace h2 := Lib.hid h2
        replace hb2 := Lib.hid (HB.out.trans hb2)
        dsimp only []
        go_wp2_with fail
        refine C3.out.mono ?_
        rintro _ w3 ⟨rfl, h3, hb3⟩
        rw [List.append_assoc] at h3
        replace h3 := Lib.hid h3
        replace hb3 := Lib.hid (hb2.out.trans hb3)
        dsimp only []
        go_wp2_with fail
        go_roundw
        case rel => exact ⟨k + 1, by omega, by go_num, Lib.hid (by rw [hsn.out]; exact h3.out), hb3⟩
        case measure => simp [RowKit.intOf]; omega
    · have hkk : k = s.size := by omega
      subst hkk
      have i1 : ¬ ((s.size : Int) < (s.size : Int)) := by omega
      have C3 := Lib.hid (bld_read w.heap.size w.heap.size _ wr HX.out zr)
      go_wp2_with fail
      refine C3.out.mono ?_
      rintro _ w2 ⟨rfl, h2⟩
      replace h2 := Lib.hid (HB.out.trans h2)
      dsimp only []
      go_wp2_with fail
      go_ret
      exact ⟨rfl, h2.out⟩
end Go.Proofs.YtbdbgiecfkgimaaDoor
