/-
  The document's mean of any numbers.
-/
import Derived.Test.YtdojbgfkcleeaaaFSlc
namespace Go.Proofs.Ytdojbgfkcleeaaa
open Ieee Go.RowKit

theorem add_nan (x y : Nat) (hx : fNan x) : double.add x y = none := by
  obtain ⟨s, t, h⟩ := read_nan x hx
  unfold Format.add
  rw [h]
  rfl
theorem div_nan (x y : Nat) (hx : fNan x) : double.div x y = none := by
  obtain ⟨s, t, h⟩ := read_nan x hx
  unfold Format.div
  rw [h]
  rfl
theorem sim_add_some {s t x r : Nat} (h : fSim s t) (hr : double.add s x = some r) : fSim r (fAdd t x) := by
  rcases h with rfl | ⟨h1, _⟩
  · exact .inl (fAdd_some hr).1.symm
  · rw [add_nan s x h1] at hr
    cases hr
theorem sim_add_none {s t x : Nat} (w : World) (h : fSim s t) (hr : double.add s x = none) : fSim (fDrawn w s x) (fAdd t x) := by
  refine .inr ⟨fDrawn_nan _ _ _, ?_⟩
  rcases h with rfl | ⟨_, h2⟩
  · rw [fAdd_none hr]
    exact fNC_nan
  · rw [fAdd_none (add_nan t x h2)]
    exact fNC_nan
theorem sim_div_some {s t x r : Nat} (h : fSim s t) (hr : double.div s x = some r) : fSim r (fDiv t x) := by
  rcases h with rfl | ⟨h1, _⟩
  · exact .inl (fDiv_some hr).1.symm
  · rw [div_nan s x h1] at hr
    cases hr
theorem sim_div_none {s t x : Nat} (w : World) (h : fSim s t) (hr : double.div s x = none) : fSim (fDrawn w s x) (fDiv t x) := by
  refine .inr ⟨fDrawn_nan _ _ _, ?_⟩
  rcases h with rfl | ⟨_, h2⟩
  · rw [fDiv_none hr]
    exact fNC_nan
  · rw [fDiv_none (div_nan t x h2)]
    exact fNC_nan

/-- The sum of the first so many that are numbers, and how many they are. -/
def fMn (l : List Nat) : Nat → Nat × Nat
  | 0 => (0, 0)
  | n + 1 => if fNan (l.getD n 0) then fMn l n else (fAdd (fMn l n).1 (l.getD n 0), (fMn l n).2 + 1)
theorem fMn_le (l : List Nat) : ∀ n, (fMn l n).2 ≤ n
  | 0 => Nat.le_refl _
  | n + 1 => by
    have := fMn_le l n
    unfold fMn
    split
    · omega
    · simp only []
      omega
def fMean (l : List Nat) (n : Nat) : Nat := if (fMn l n).2 = 0 then 0 else fDiv (fMn l n).1 (fInt ((fMn l n).2 : Int))

set_option maxRecDepth 4000 in
set_option maxHeartbeats 1600000 in
theorem refMean_any (A : Option Addr) (cp L : Nat) (l : List Nat) (w : World) (hs : FSl w w.heap.size A cp l) (hL : l.length = L) (hl : L ≤ 300) (hcp : cp ≤ 9223372036854775807) :
    Calls Try.prog 7 #[.slice A L cp] w fun e w' => ∃ r, e = .returned (.tuple #[.float .f64 r, .int .i64 ((fMn l L).2 : Int)]) ∧ r < 18446744073709551616 ∧ fSim r (fMean l L) ∧ Below w.heap.size w w' := by
  have hl0 := hs.le
  rw [hL] at hl0
  have hget : Hid (∀ k, k < L → ∃ ad, A = some ad ∧ w.cell? (ad.add k) = some (.float .f64 (l.getD k 0)) ∧ (ad.add k).block < w.heap.size) := Lib.hid fun k hk => by
    have hx := floats_len (l := l) (k := k) (by omega)
    rcases A with _ | ad
    · have := hs.nil rfl
      omega
    · exact ⟨ad, rfl, (hs.at_ ad rfl).2 k _ hx, by rw [add_blockF]; exact (hs.at_ ad rfl).1 (by omega)⟩
  have hcn := fMn_le l
  have hstep : Hid (∀ n, fMn l (n + 1) = if fNan (l.getD n 0) then fMn l n else (fAdd (fMn l n).1 (l.getD n 0), (fMn l n).2 + 1)) := Lib.hid fun n => rfl
  have hfin : Hid (fMean l L = if (fMn l L).2 = 0 then 0 else fDiv (fMn l L).1 (fInt ((fMn l L).2 : Int))) := Lib.hid rfl
  obtain ⟨F, hF⟩ : ∃ F, F = fMean l L := ⟨_, rfl⟩
  rw [← hF] at hfin ⊢
  replace hF := Lib.hid hF
  replace hs := Lib.hid hs
  replace hL := Lib.hid hL
  replace hcn := Lib.hid hcn
  go_enter Try.func7, Try.ntmps7
  go_wp2_with fail
  go_loopw [4, 5, 6] (fun s c u wr => ∃ n v : Nat, n ≤ L ∧ u = .int .i64 (n : Int) ∧ c = .int .i64 ((fMn l n).2 : Int) ∧ s = .float .f64 v ∧ v < 18446744073709551616 ∧ fSim v (fMn l n).1 ∧ Hid (Below w.heap.size w wr)) (fun _ _ u _ => L - (intOf u).toNat)
  case atStart => exact ⟨0, 0, Nat.zero_le _, rfl, rfl, rfl, by omega, .inl rfl, Lib.hid (Below.refl _ _)⟩
  case round =>
    obtain ⟨n, v, hn, rfl, rfl, rfl, hv, hsim, HB⟩ := hrel
    have h1 := hcn.out n
    have h3 := hstep.out n
    obtain ⟨⟨S, c⟩, hk⟩ : ∃ q, q = fMn l n := ⟨_, rfl⟩
    rw [← hk] at h1 h3 hsim ⊢
    obtain ⟨q1, hk1⟩ : ∃ q1, q1 = fMn l (n + 1) := ⟨_, rfl⟩
    rw [← hk1] at h3
    simp only [] at h1 h3 hsim
    replace hk := Lib.hid hk
    replace hk1 := Lib.hid hk1
    by_cases hnl : n < L
    · obtain ⟨ad, rfl, hc, hcb⟩ := hget.out n hnl
      replace hc := (HB.out.cell hcb).trans hc
      obtain ⟨x, hx⟩ : ∃ x, x = l.getD n 0 := ⟨_, rfl⟩
      rw [← hx] at hc h3
      replace hcb := Lib.hid hcb
      replace hx := Lib.hid hx
      have e1 := ord_self x
      have i0 : (0 : Int) ≤ (n : Int) := by omega
      have i1 : (n : Int) < (L : Int) := by omega
      by_cases hnan : fNan x
      · rw [if_pos hnan] at h3
        rw [decide_eq_false (fun h => h hnan)] at e1
        have e2 : (FloatKind.f64.format.order x x == some .eq) = false := e1
        clear e1
        replace hnan := Lib.hid hnan
        replace h3 := Lib.hid h3
        replace hsim := Lib.hid hsim
        go_wp2_with fail
        go_quiet (fail)
        go_wp2_with fail
        go_roundw
        case rel => exact ⟨n + 1, v, by omega, by go_num, by rw [← hk1.out, h3.out], rfl, hv, by rw [← hk1.out, h3.out]; exact hsim.out, Lib.hid (below_drewN HB.out _)⟩
        case measure => simp [intOf]; omega
      · rw [if_neg hnan] at h3
        rw [decide_eq_true hnan] at e1
        have e2 : (FloatKind.f64.format.order x x == some .eq) = true := e1
        clear e1
        replace hnan := Lib.hid hnan
        replace h3 := Lib.hid h3
        rcases hd : double.add v x with _ | r
        · have hop := run_add_none Try.prog v x hd
          have hsn := Lib.hid (fun w0 => sim_add_none (s := v) (t := S) (x := x) w0 hsim hd)
          replace hsim := Lib.hid hsim
          replace hd := Lib.hid hd
          go_wp2_with fail
          go_quiet (fail)
          go_wp2_with (simp only [hop])
          go_roundw
          case rel => exact ⟨n + 1, _, by omega, by go_num, by rw [← hk1.out, h3.out]; go_num, rfl, fDrawn_lt _ _ _, by rw [← hk1.out, h3.out]; exact hsn.out _, Lib.hid (below_drewN HB.out _).drew⟩
          case measure => simp [intOf]; omega
        · have hop := run_add_some Try.prog v x r hd
          have hsn := Lib.hid (sim_add_some hsim hd)
          have hrl := (fAdd_some hd).2
          replace hsim := Lib.hid hsim
          replace hd := Lib.hid hd
          go_wp2_with fail
          go_quiet (fail)
          go_wp2_with (simp only [hop])
          go_roundw
          case rel => exact ⟨n + 1, r, by omega, by go_num, by rw [← hk1.out, h3.out]; go_num, rfl, hrl, by rw [← hk1.out, h3.out]; exact hsn.out, Lib.hid (below_drewN HB.out _)⟩
          case measure => simp [intOf]; omega
    · have hLn : L = n := by omega
      subst hLn
      have i1 : ¬ ((L : Int) < (L : Int)) := by omega
      replace hfin := hfin.out
      rw [← hk.out] at hfin
      simp only [] at hfin
      replace h3 := Lib.hid h3
      by_cases hc0 : c = 0
      · rw [if_pos hc0] at hfin
        have k0 : ((c : Int) == 0) = true := by simp [hc0]
        replace hfin := Lib.hid hfin
        replace hsim := Lib.hid hsim
        go_wp2_with fail
        go_returns
        exact ⟨0, by rw [← hk.out, hc0]; rfl, by omega, .inl (by rw [hfin.out]), HB.out⟩
      · rw [if_neg hc0] at hfin
        have k0 : ((c : Int) == 0) = false := by simp [hc0]
        have ec : floatOfInt .f64 (c : Int) = fInt (c : Int) := rfl
        rcases hd : double.div v (fInt (c : Int)) with _ | r
        · have hop := run_quo_none Try.prog v _ hd
          have hsn := Lib.hid (fun w0 => sim_div_none (s := v) (t := S) (x := fInt (c : Int)) w0 hsim hd)
          replace hsim := Lib.hid hsim
          replace hd := Lib.hid hd
          replace hfin := Lib.hid hfin
          go_wp2_with fail
          go_returns
          exact ⟨_, by rw [← hk.out]; rfl, fDrawn_lt _ _ _, by rw [hfin.out]; exact hsn.out _, HB.out.drew⟩
        · have hop := run_quo_some Try.prog v _ r hd
          have hsn := Lib.hid (sim_div_some hsim hd)
          have hrl := (fDiv_some hd).2
          replace hsim := Lib.hid hsim
          replace hd := Lib.hid hd
          replace hfin := Lib.hid hfin
          go_wp2_with fail
          go_returns
          exact ⟨_, by rw [← hk.out]; rfl, hrl, by rw [hfin.out]; exact hsn.out, HB.out⟩
end Go.Proofs.Ytdojbgfkcleeaaa
