/-
  The program's Mean and Greatest of any numbers.
-/
import Derived.Test.YtdojbgfkcleeaaaNanP
import Derived.Test.YtdojbgfkcleeaaaRefMean
import Derived.Test.YtdojbgfkcleeaaaFSlc
namespace Go.Proofs.Ytdojbgfkcleeaaa
open Ieee Go.RowKit

theorem number_yes (x : Nat) (h : ¬ fNan x) (w : World) : Calls Try.prog 14 #[.float .f64 x] w fun e w' => e = .returned (.bool true) ∧ w = w' := by
  have C := isNan_no x h w
  replace C := Lib.hid C
  go_enter Try.func14, Try.ntmps14
  go_wp2_with fail
  refine C.out.mono ?_
  rintro _ _ ⟨rfl, rfl⟩
  dsimp only []
  go_wp2_with fail
  go_ret
  exact ⟨rfl, rfl⟩
theorem number_no (x : Nat) (h : fNan x) (w : World) : Calls Try.prog 14 #[.float .f64 x] w fun e w' => e = .returned (.bool false) ∧ w = w' := by
  have C := isNan_yes x h w
  replace C := Lib.hid C
  go_enter Try.func14, Try.ntmps14
  go_wp2_with fail
  refine C.out.mono ?_
  rintro _ _ ⟨rfl, rfl⟩
  dsimp only []
  go_wp2_with fail
  go_ret
  exact ⟨rfl, rfl⟩
set_option maxRecDepth 4000 in
set_option maxHeartbeats 1600000 in
theorem mean_any (A : Option Addr) (cp L : Nat) (l : List Nat) (w : World) (hs : FSl w w.heap.size A cp l) (hL : l.length = L) (hl : L ≤ 300) (hcp : cp ≤ 9223372036854775807) :
    Calls Try.prog 6 #[.slice A L cp] w fun e w' => ∃ r, e = .returned (.tuple #[.float .f64 r, .int .i64 ((fMn l L).2 : Int)]) ∧ r < 18446744073709551616 ∧ fBits r = fBits (fMean l L) ∧ Below w.heap.size w w' := by
  have hl0 := hs.le
  rw [hL] at hl0
  have hget : Hid (∀ k, k < L → ∃ ad, A = some ad ∧ w.cell? (ad.add k) = some (.float .f64 (l.getD k 0)) ∧ (ad.add k).block < w.heap.size) := Lib.hid fun k hk => by
    have hx := floats_len (l := l) (k := k) (by omega)
    rcases A with _ | ad
    · have := hs.nil rfl
      omega
    · exact ⟨ad, rfl, (hs.at_ ad rfl).2 k _ hx, by rw [add_blockF]; exact (hs.at_ ad rfl).1 (by omega)⟩
  have hcn := fMn_le l
  have hstep : Hid (∀ n, fMn l (n + 1) = if fNan (l.getD n 0) then fMn l n else (fAdd (fMn l n).1 (l.getD n 0), (fMn l n).2 + 1)) := Lib.hid fun n => rfl
  have hfin : Hid (fMean l L = if (fMn l L).2 = 0 then 0 else fDiv (fMn l L).1 (fInt ((fMn l L).2 : Int))) := Lib.hid rfl
  obtain ⟨F, hF⟩ : ∃ F, F = fMean l L := ⟨_, rfl⟩
  rw [← hF] at hfin ⊢
  replace hF := Lib.hid hF
  replace hs := Lib.hid hs
  replace hL := Lib.hid hL
  replace hcn := Lib.hid hcn
  have CY := number_yes
  have CNo := number_no
  replace CY := Lib.hid CY
  replace CNo := Lib.hid CNo
  have CD := divide_any
  replace CD := Lib.hid CD
  go_enter Try.func6, Try.ntmps6
  go_wp2_with fail
  go_loopw [4, 5, 10] (fun s c u wr => ∃ n v : Nat, n ≤ L ∧ u = .int .i64 (n : Int) ∧ c = .int .i64 ((fMn l n).2 : Int) ∧ s = .float .f64 v ∧ v < 18446744073709551616 ∧ fSim v (fMn l n).1 ∧ Hid (Below w.heap.size w wr)) (fun _ _ u _ => L - (intOf u).toNat)
  case atStart => exact ⟨0, 0, Nat.zero_le _, rfl, rfl, rfl, by omega, .inl rfl, Lib.hid (Below.refl _ _)⟩
  case round =>
    obtain ⟨n, v, hn, rfl, rfl, rfl, hv, hsim, HB⟩ := hrel
    have h1 := hcn.out n
    have h3 := hstep.out n
    obtain ⟨⟨S, c⟩, hk⟩ : ∃ q, q = fMn l n := ⟨_, rfl⟩
    rw [← hk] at h1 h3 hsim ⊢
    obtain ⟨q1, hk1⟩ : ∃ q1, q1 = fMn l (n + 1) := ⟨_, rfl⟩
    rw [← hk1] at h3
    simp only [] at h1 h3 hsim
    replace hk := Lib.hid hk
    replace hk1 := Lib.hid hk1
    by_cases hnl : n < L
    · obtain ⟨ad, rfl, hc, hcb⟩ := hget.out n hnl
      replace hc := (HB.out.cell hcb).trans hc
      obtain ⟨x, hx⟩ : ∃ x, x = l.getD n 0 := ⟨_, rfl⟩
      rw [← hx] at hc h3
      replace hcb := Lib.hid hcb
      replace hx := Lib.hid hx
      have i0 : (0 : Int) ≤ (n : Int) := by omega
      have i1 : (n : Int) < (L : Int) := by omega
      by_cases hnan : fNan x
      · rw [if_pos hnan] at h3
        have C1 := CNo.out x hnan
        replace C1 := Lib.hid C1
        replace hnan := Lib.hid hnan
        replace h3 := Lib.hid h3
        replace hsim := Lib.hid hsim
        go_wp2_with (go_at_call 14; refine (C1.out _).mono ?_; rintro _ _ ⟨rfl, rfl⟩)
        go_roundw
        case rel => exact ⟨n + 1, v, by omega, by go_num, by rw [← hk1.out, h3.out], rfl, hv, by rw [← hk1.out, h3.out]; exact hsim.out, HB⟩
        case measure => simp [intOf]; omega
      · rw [if_neg hnan] at h3
        have C1 := CY.out x hnan
        replace C1 := Lib.hid C1
        replace hnan := Lib.hid hnan
        replace h3 := Lib.hid h3
        rcases hd : double.add v x with _ | r
        · have hop := run_add_none Try.prog v x hd
          have hsn := Lib.hid (fun w0 => sim_add_none (s := v) (t := S) (x := x) w0 hsim hd)
          replace hsim := Lib.hid hsim
          replace hd := Lib.hid hd
          go_wp2_with (go_at_call 14; refine (C1.out _).mono ?_; rintro _ _ ⟨rfl, rfl⟩)
          go_roundw
          case rel => exact ⟨n + 1, _, by omega, by go_num, by rw [← hk1.out, h3.out]; go_num, rfl, fDrawn_lt _ _ _, by rw [← hk1.out, h3.out]; exact hsn.out _, Lib.hid HB.out.drew⟩
          case measure => simp [intOf]; omega
        · have hop := run_add_some Try.prog v x r hd
          have hsn := Lib.hid (sim_add_some hsim hd)
          have hrl := (fAdd_some hd).2
          replace hsim := Lib.hid hsim
          replace hd := Lib.hid hd
          go_wp2_with (go_at_call 14; refine (C1.out _).mono ?_; rintro _ _ ⟨rfl, rfl⟩)
          go_roundw
          case rel => exact ⟨n + 1, r, by omega, by go_num, by rw [← hk1.out, h3.out]; go_num, rfl, hrl, by rw [← hk1.out, h3.out]; exact hsn.out, HB⟩
          case measure => simp [intOf]; omega
    · have hLn : L = n := by omega
      subst hLn
      have i1 : ¬ ((L : Int) < (L : Int)) := by omega
      replace hfin := hfin.out
      rw [← hk.out] at hfin
      simp only [] at hfin
      replace h3 := Lib.hid h3
      by_cases hc0 : c = 0
      · rw [if_pos hc0] at hfin
        have k0 : ((c : Int) == 0) = true := by simp [hc0]
        replace hfin := Lib.hid hfin
        replace hsim := Lib.hid hsim
        go_wp2_with fail
        go_returns
        exact ⟨0, by rw [← hk.out, hc0]; rfl, by omega, by rw [hfin.out], HB.out⟩
      · rw [if_neg hc0] at hfin
        have k0 : ((c : Int) == 0) = false := by simp [hc0]
        have ec : floatOfInt .f64 (c : Int) = fInt (c : Int) := rfl
        have hs2 : Hid (fBits (fDiv v (fInt (c : Int))) = fBits (fDiv S (fInt (c : Int)))) := Lib.hid (by
          rcases hd : double.div v (fInt (c : Int)) with _ | r
          · have h1 := (nan_bits _).1 (show fNan (fDiv v (fInt (c : Int))) by rw [fDiv_none hd]; exact fNC_nan)
            rw [h1]
            rcases sim_div_none default hsim hd with h | ⟨_, h⟩
            · rw [← h, (nan_bits _).1 (fDrawn_nan _ _ _)]
            · rw [(nan_bits _).1 h]
          · have h2 := fSim_bits (sim_div_some hsim hd)
            rw [← h2, (fDiv_some hd).1])
        replace hsim := Lib.hid hsim
        replace hfin := Lib.hid hfin
        go_wp2_with fail
        refine (CD.out _ _ _).mono ?_
        rintro _ w9 ⟨r, rfl, r1, r2, r3⟩
        replace r2 := Lib.hid r2
        replace r3 := Lib.hid (below_on HB.out r3)
        dsimp only []
        go_wp2_with fail
        go_returns
        exact ⟨_, by rw [← hk.out]; rfl, r1, by rw [hfin.out, r2.out, hs2.out], r3.out⟩
end Go.Proofs.Ytdojbgfkcleeaaa
