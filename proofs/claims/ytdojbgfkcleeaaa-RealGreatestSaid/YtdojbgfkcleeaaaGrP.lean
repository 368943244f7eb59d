/-
  The program's Greatest of any numbers, and what the laws on counts and lists ask.
-/
import Derived.Test.YtdojbgfkcleeaaaMeanP
import Derived.Test.YtdojbgfkcleeaaaRefGreat
import Derived.Test.YtdojbgfkcleeaaaRHypP
namespace Go.Proofs.Ytdojbgfkcleeaaa
open Ieee Go.RowKit

set_option maxRecDepth 4000 in
set_option maxHeartbeats 1600000 in
theorem generic_any (A : Option Addr) (cp L : Nat) (l : List Nat) (w : World) (hs : FSl w w.heap.size A cp l) (hL : l.length = L) (hl : L ≤ 300) (hcp : cp ≤ 9223372036854775807) :
    Calls Try.prog 17 #[.slice A L cp, .func (.func 14) #[] #[], .func (.func 13) #[] #[]] w fun e w' => e = .returned (.int .i64 (fGr l L)) ∧ Below w.heap.size w w' := by
  have hl0 := hs.le
  rw [hL] at hl0
  have hget : Hid (∀ k, k < L → ∃ ad, A = some ad ∧ w.cell? (ad.add k) = some (.float .f64 (l.getD k 0)) ∧ (ad.add k).block < w.heap.size) := Lib.hid fun k hk => by
    have hx := floats_len (l := l) (k := k) (by omega)
    rcases A with _ | ad
    · have := hs.nil rfl
      omega
    · exact ⟨ad, rfl, (hs.at_ ad rfl).2 k _ hx, by rw [add_blockF]; exact (hs.at_ ad rfl).1 (by omega)⟩
  have hlo := fGr_lo l
  have hnum := fGr_num l
  have hstep : Hid (∀ n, fGr l (n + 1) = if ¬ fNan (l.getD n 0) ∧ (fGr l n < 0 ∨ fKey (l.getD (fGr l n).toNat 0) < fKey (l.getD n 0)) then (n : Int) else fGr l n) := Lib.hid fun n => rfl
  replace hs := Lib.hid hs
  replace hL := Lib.hid hL
  replace hlo := Lib.hid hlo
  replace hnum := Lib.hid hnum
  have CY := number_yes
  have CNo := number_no
  have CO := order_any
  replace CY := Lib.hid CY
  replace CNo := Lib.hid CNo
  replace CO := Lib.hid CO
  go_enter Try.func17, Try.ntmps17
  go_wp2_with fail
  go_loopw [7, 12] (fun v u wr => ∃ n : Nat, n ≤ L ∧ u = .int .i64 (n : Int) ∧ v = .int .i64 (fGr l n) ∧ Hid (Below w.heap.size w wr)) (fun _ u _ => L - (intOf u).toNat)
  case atStart => exact ⟨0, Nat.zero_le _, rfl, rfl, Lib.hid (Below.refl _ _)⟩
  case round =>
    obtain ⟨n, hn, rfl, rfl, HB⟩ := hrel
    have h1 := hlo.out n
    have h2 := hnum.out n
    have h3 := hstep.out n
    obtain ⟨k, hk⟩ : ∃ k, k = fGr l n := ⟨_, rfl⟩
    rw [← hk] at h1 h2 h3 ⊢
    obtain ⟨k1, hk1⟩ : ∃ k1, k1 = fGr l (n + 1) := ⟨_, rfl⟩
    rw [← hk1] at h3
    replace hk := Lib.hid hk
    replace hk1 := Lib.hid hk1
    by_cases hnl : n < L
    · obtain ⟨ad, rfl, hc, hcb⟩ := hget.out n hnl
      replace hc := (HB.out.cell hcb).trans hc
      obtain ⟨x, hx⟩ : ∃ x, x = l.getD n 0 := ⟨_, rfl⟩
      rw [← hx] at hc h3
      replace hcb := Lib.hid hcb
      replace hx := Lib.hid hx
      have i0 : (0 : Int) ≤ (n : Int) := by omega
      have i1 : (n : Int) < (L : Int) := by omega
      by_cases hnan : fNan x
      · rw [if_neg (fun h => h.1 hnan)] at h3
        have C1 := CNo.out x hnan
        replace C1 := Lib.hid C1
        clear h2
        replace hnan := Lib.hid hnan
        replace h3 := Lib.hid h3
        replace h1 := Lib.hid h1
        go_wp2_with (go_at_call 14; refine (C1.out _).mono ?_; rintro _ _ ⟨rfl, rfl⟩)
        go_roundw
        case rel => exact ⟨n + 1, by omega, by go_num, by rw [← hk1.out, h3.out], HB⟩
        case measure => simp [intOf]; omega
      · have C1 := CY.out x hnan
        replace C1 := Lib.hid C1
        by_cases hk0 : k < 0
        · rw [if_pos ⟨hnan, .inl hk0⟩] at h3
          replace hnan := Lib.hid hnan
          replace h3 := Lib.hid h3
          replace h1 := Lib.hid h1
          replace h2 := Lib.hid h2
          go_wp2_with (go_at_call 14; refine (C1.out _).mono ?_; rintro _ _ ⟨rfl, rfl⟩)
          go_roundw
          case rel => exact ⟨n + 1, by omega, by go_num, by rw [← hk1.out, h3.out], HB⟩
          case measure => simp [intOf]; omega
        · obtain ⟨m, hm⟩ : ∃ m : Nat, k = (m : Int) := ⟨k.toNat, by omega⟩
          subst hm
          rw [Int.toNat_natCast] at h2 h3
          have hmL : m < L := by omega
          obtain ⟨ad', e', hd, hdb⟩ := hget.out m hmL
          injection e' with e'
          subst e'
          replace hd := (HB.out.cell hdb).trans hd
          have hy2 := h2 (by omega)
          obtain ⟨y, hy⟩ : ∃ y, y = l.getD m 0 := ⟨_, rfl⟩
          rw [← hy] at hd h3 hy2
          have C2 := CO.out x y
          have kf : decide ((m : Int) < 0) = false := decide_eq_false (by omega)
          have j0 : (0 : Int) ≤ (m : Int) := by omega
          have j1 : (m : Int) < (L : Int) := by omega
          replace hdb := Lib.hid hdb
          replace hy := Lib.hid hy
          by_cases hgt : fKey y < fKey x
          · rw [if_pos ⟨hnan, .inr hgt⟩] at h3
            have ho : fOrd x y = 1 := by unfold fOrd; rw [if_neg hnan, if_neg hy2, if_neg (by omega), if_pos hgt]
            rw [ho] at C2
            replace ho := Lib.hid ho
            replace C2 := Lib.hid C2
            replace hnan := Lib.hid hnan
            replace h3 := Lib.hid h3
            replace h1 := Lib.hid h1
            replace hgt := Lib.hid hgt
            replace hy2 := Lib.hid hy2
            clear h2
            go_wp2_with (first | (go_at_call 14; refine (C1.out _).mono ?_; rintro _ _ ⟨rfl, rfl⟩) | (go_at_call 13; refine (C2.out _).mono ?_; rintro _ _ ⟨rfl, rfl⟩))
            go_roundw
            case rel => exact ⟨n + 1, by omega, by go_num, by rw [← hk1.out, h3.out], HB⟩
            case measure => simp [intOf]; omega
          · rw [if_neg (fun h => h.2.elim (fun h => hk0 h) hgt)] at h3
            have ho : fOrd x y ≤ 0 := by unfold fOrd; rw [if_neg hnan, if_neg hy2]; split <;> omega
            obtain ⟨o, hoe⟩ : ∃ o, o = fOrd x y := ⟨_, rfl⟩
            rw [← hoe] at C2 ho
            have hod : ¬ (0 < o) := by omega
            have hob : decide (0 < o) = false := decide_eq_false hod
            replace hoe := Lib.hid hoe
            replace C2 := Lib.hid C2
            replace hnan := Lib.hid hnan
            replace h3 := Lib.hid h3
            replace h1 := Lib.hid h1
            replace hgt := Lib.hid hgt
            replace hy2 := Lib.hid hy2
            clear h2
            go_wp2_with (first | (go_at_call 14; refine (C1.out _).mono ?_; rintro _ _ ⟨rfl, rfl⟩) | (go_at_call 13; refine (C2.out _).mono ?_; rintro _ _ ⟨rfl, rfl⟩))
            go_roundw
            case rel => exact ⟨n + 1, by omega, by go_num, by rw [← hk1.out, h3.out], HB⟩
            case measure => simp [intOf]; omega
    · have hLn : L = n := by omega
      subst hLn
      have i1 : ¬ ((L : Int) < (L : Int)) := by omega
      replace h1 := Lib.hid h1
      replace h2 := Lib.hid h2
      replace h3 := Lib.hid h3
      go_wp2_with fail
      go_ret
      exact ⟨by rw [← hk.out]; rfl, HB.out⟩
set_option maxRecDepth 4000 in
set_option maxHeartbeats 400000 in
theorem greatest_any (A : Option Addr) (cp L : Nat) (l : List Nat) (w : World) (hs : FSl w w.heap.size A cp l) (hL : l.length = L) (hl : L ≤ 300) (hcp : cp ≤ 9223372036854775807) :
    Calls Try.prog 11 #[.slice A L cp] w fun e w' => e = .returned (.int .i64 (fGr l L)) ∧ Below w.heap.size w w' := by
  have C := generic_any A cp L l w hs hL hl hcp
  obtain ⟨g, hg⟩ : ∃ g, g = fGr l L := ⟨_, rfl⟩
  rw [← hg] at C ⊢
  replace C := Lib.hid C
  replace hs := Lib.hid hs
  replace hL := Lib.hid hL
  replace hg := Lib.hid hg
  go_enter Try.func11, Try.ntmps11
  go_wp2_with fail
  refine C.out.mono ?_
  rintro _ w1 ⟨rfl, h1⟩
  replace h1 := Lib.hid h1
  dsimp only []
  go_wp2_with fail
  go_ret
  exact ⟨rfl, h1.out⟩
theorem rhypP : RHypP where
  order := fun a b w _ _ => (order_any a b w).mono fun e w' ⟨h1, h2⟩ => ⟨h1, by rw [← h2]; exact Below.refl _ _⟩
  rate := fun n of_ w _ _ _ _ => rate_any n of_ w
  greatest := fun A cp L l w h1 h2 h3 h4 => greatest_any A cp L l w h1 h2 h3 h4
  mean := fun A cp L l w h1 h2 h3 h4 => mean_any A cp L l w h1 h2 h3 h4
end Go.Proofs.Ytdojbgfkcleeaaa
