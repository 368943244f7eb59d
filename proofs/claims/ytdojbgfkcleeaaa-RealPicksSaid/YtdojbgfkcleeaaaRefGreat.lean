/-
  The document's greatest of any numbers.
-/
import Derived.Test.YtdojbgfkcleeaaaFSlc
namespace Go.Proofs.Ytdojbgfkcleeaaa
open Go.RowKit

set_option maxRecDepth 4000 in
set_option maxHeartbeats 1600000 in
theorem refGreatest_any (A : Option Addr) (cp L : Nat) (l : List Nat) (w : World) (hs : FSl w w.heap.size A cp l) (hL : l.length = L) (hl : L ≤ 300) (hcp : cp ≤ 9223372036854775807) :
    Calls Try.prog 12 #[.slice A L cp] w fun e w' => e = .returned (.int .i64 (fGr l L)) ∧ Below w.heap.size w w' := by
  have hl0 := hs.le
  rw [hL] at hl0
  have hget : Hid (∀ k, k < L → ∃ ad, A = some ad ∧ w.cell? (ad.add k) = some (.float .f64 (l.getD k 0)) ∧ (ad.add k).block < w.heap.size) := Lib.hid fun k hk => by
    have hx := floats_len (l := l) (k := k) (by omega)
    rcases A with _ | ad
    · have := hs.nil rfl
      omega
    · exact ⟨ad, rfl, (hs.at_ ad rfl).2 k _ hx, by rw [add_blockF]; exact (hs.at_ ad rfl).1 (by omega)⟩
  have hlo := fGr_lo l
  have hnum := fGr_num l
  have hstep : Hid (∀ n, fGr l (n + 1) = if ¬ fNan (l.getD n 0) ∧ (fGr l n < 0 ∨ fKey (l.getD (fGr l n).toNat 0) < fKey (l.getD n 0)) then (n : Int) else fGr l n) := Lib.hid fun n => rfl
  replace hs := Lib.hid hs
  replace hL := Lib.hid hL
  replace hlo := Lib.hid hlo
  replace hnum := Lib.hid hnum
  go_enter Try.func12, Try.ntmps12
  go_wp2_with fail
  go_loopw [3, 4] (fun v u wr => ∃ n : Nat, n ≤ L ∧ u = .int .i64 (n : Int) ∧ v = .int .i64 (fGr l n) ∧ Hid (Below w.heap.size w wr)) (fun _ u _ => L - (intOf u).toNat)
  case atStart => exact ⟨0, Nat.zero_le _, rfl, rfl, Lib.hid (Below.refl _ _)⟩
  case round =>
    obtain ⟨n, hn, rfl, rfl, HB⟩ := hrel
    have h1 := hlo.out n
    have h2 := hnum.out n
    have h3 := hstep.out n
    obtain ⟨k, hk⟩ : ∃ k, k = fGr l n := ⟨_, rfl⟩
    rw [← hk] at h1 h2 h3 ⊢
    obtain ⟨k1, hk1⟩ : ∃ k1, k1 = fGr l (n + 1) := ⟨_, rfl⟩
    rw [← hk1] at h3
    replace hk := Lib.hid hk
    replace hk1 := Lib.hid hk1
    by_cases hnl : n < L
    · obtain ⟨ad, rfl, hc, hcb⟩ := hget.out n hnl
      replace hc := (HB.out.cell hcb).trans hc
      obtain ⟨x, hx⟩ : ∃ x, x = l.getD n 0 := ⟨_, rfl⟩
      rw [← hx] at hc h3
      replace hcb := Lib.hid hcb
      replace hx := Lib.hid hx
      have e1 := ord_self x
      have i0 : (0 : Int) ≤ (n : Int) := by omega
      have i1 : (n : Int) < (L : Int) := by omega
      by_cases hnan : fNan x
      · rw [if_neg (fun h => h.1 hnan)] at h3
        rw [decide_eq_false (fun h => h hnan)] at e1
        have e2 : (FloatKind.f64.format.order x x == some .eq) = false := e1
        clear e1 h2
        replace hnan := Lib.hid hnan
        replace h3 := Lib.hid h3
        replace h1 := Lib.hid h1
        go_wp2_with fail
        go_quiet (fail)
        go_wp2_with fail
        go_roundw
        case rel => exact ⟨n + 1, by omega, by go_num, by rw [← hk1.out, h3.out], Lib.hid (below_drewN HB.out _)⟩
        case measure => simp [intOf]; omega
      · rw [decide_eq_true hnan] at e1
        have e2 : (FloatKind.f64.format.order x x == some .eq) = true := e1
        clear e1
        by_cases hk0 : k < 0
        · rw [if_pos ⟨hnan, .inl hk0⟩] at h3
          replace hnan := Lib.hid hnan
          replace h3 := Lib.hid h3
          replace h1 := Lib.hid h1
          replace h2 := Lib.hid h2
          go_wp2_with fail
          go_quiet (fail)
          go_wp2_with fail
          go_roundw
          case rel => exact ⟨n + 1, by omega, by go_num, by rw [← hk1.out, h3.out], Lib.hid (below_drewN HB.out _)⟩
          case measure => simp [intOf]; omega
        · obtain ⟨m, hm⟩ : ∃ m : Nat, k = (m : Int) := ⟨k.toNat, by omega⟩
          subst hm
          rw [Int.toNat_natCast] at h2 h3
          have hmL : m < L := by omega
          obtain ⟨ad', e', hd, hdb⟩ := hget.out m hmL
          injection e' with e'
          subst e'
          replace hd := (HB.out.cell hdb).trans hd
          have hy2 := h2 (by omega)
          obtain ⟨y, hy⟩ : ∃ y, y = l.getD m 0 := ⟨_, rfl⟩
          rw [← hy] at hd h3 hy2
          have e3 : (FloatKind.f64.format.order x y == some .gt) = _ := ord_gt x y
          have kf : decide ((m : Int) < 0) = false := decide_eq_false (by omega)
          have j0 : (0 : Int) ≤ (m : Int) := by omega
          have j1 : (m : Int) < (L : Int) := by omega
          replace hdb := Lib.hid hdb
          replace hy := Lib.hid hy
          by_cases hgt : fKey y < fKey x
          · rw [if_pos ⟨hnan, .inr hgt⟩] at h3
            rw [decide_eq_true ⟨hnan, hy2, hgt⟩] at e3
            replace hnan := Lib.hid hnan
            replace h3 := Lib.hid h3
            replace h1 := Lib.hid h1
            replace hgt := Lib.hid hgt
            replace hy2 := Lib.hid hy2
            clear h2
            go_wp2_with fail
            go_quiet (fail)
            go_wp2_with fail
            go_roundw
            case rel => exact ⟨n + 1, by omega, by go_num, by rw [← hk1.out, h3.out], Lib.hid (below_drewN HB.out _)⟩
            case measure => simp [intOf]; omega
          · rw [if_neg (fun h => h.2.elim (fun h => hk0 h) hgt)] at h3
            rw [decide_eq_false (fun h => hgt h.2.2)] at e3
            replace hnan := Lib.hid hnan
            replace h3 := Lib.hid h3
            replace h1 := Lib.hid h1
            replace hgt := Lib.hid hgt
            replace hy2 := Lib.hid hy2
            clear h2
            go_wp2_with fail
            go_quiet (fail)
            go_wp2_with fail
            go_roundw
            case rel => exact ⟨n + 1, by omega, by go_num, by rw [← hk1.out, h3.out], Lib.hid (below_drewN HB.out _)⟩
            case measure => simp [intOf]; omega
    · have hLn : L = n := by omega
      subst hLn
      have i1 : ¬ ((L : Int) < (L : Int)) := by omega
      replace h1 := Lib.hid h1
      replace h2 := Lib.hid h2
      replace h3 := Lib.hid h3
      go_wp2_with fail
      go_ret
      exact ⟨by rw [← hk.out]; rfl, HB.out⟩
end Go.Proofs.Ytdojbgfkcleeaaa
