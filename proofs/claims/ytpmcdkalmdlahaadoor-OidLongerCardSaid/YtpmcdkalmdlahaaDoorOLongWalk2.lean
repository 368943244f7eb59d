/-
  OidLonger: its walk, over what the program's functions answer.
-/
import Derived.Test.YtpmcdkalmdlahaaDoorOHyp
import Derived.Test.YtpmcdkalmdlahaaDoorOLongWalk
import Derived.Test.YtpmcdkalmdlahaaDoorSame7
import Derived.Deep.RegionHeldLaw
import Derived.BigRegion
import Derived.Deep.RegionWith
import Derived.IntWalk
import Derived.Deep.RegionLaw
import Derived.Deep.DrawnRows
import Derived.BigGuardPart
import Derived.Deep.QuietTactic
import Derived.BigQuiet
namespace Go.Proofs.YtpmcdkalmdlahaaDoor
open Go.RowKit Go.Lib
attribute [local go_sem ↓] Go.wp_at_zero Go.wp_at_succ

set_option maxRecDepth 8000 in
set_option maxHeartbeats 4000000 in
theorem longer7_no_cut (s x : ByteArray) (hx : s.extract 0 300 = x) (hbig : 300 < s.size) (hmax : s.size ≤ 9223372036854775807) (n : Int) (w0 : World) (H : Hid (OHyp w0)) (h : x.size ≤ 300) (h1 : arcsO x.data.toList = none) :
    Calls Tryd.prog 7 #[.string s, .int .i64 n] w0 fun e w' => e = .returned (.bool true) ∧ Below w0.heap.size w0 w' := by
  have k0 : (300 : Int) < (s.size : Int) := by omega
  have k1 : (300 : Int) ≤ (s.size : Int) := by omega
  have HB0 := Lib.hid (Below.refl w0.heap.size w0)
  have C1 := fun w' hb => H.out.numeric x w' (by omega) hb
  rw [h1] at C1
  replace C1 : Hid (∀ w', Below w0.heap.size w0 w' → Calls Tryd.prog 12 #[.string x] w' fun e w'' => e = .returned (.bool false) ∧ Below w'.heap.size w' w'') := Lib.hid C1
  obtain ⟨y, hy⟩ : ∃ y, x ++ ⟨#[46, 49]⟩ = y := ⟨_, rfl⟩
  have hyl : y.data.toList = x.data.toList ++ [46, 49] := by rw [← hy, ByteArray.data_append, Array.toList_append]
  have hys : y.size ≤ 302 := by rw [← hy, ByteArray.size_append]; exact Nat.add_le_add h (Nat.le_refl 2)
  have C2 := fun w' hb => H.out.numeric y w' (by omega) hb
  have CL := fun w' hb => lives7_any w0 w' H (Lib.hid hb)
  rw [hyl] at C2
  rcases hA : arcsO (x.data.toList ++ [46, 49]) with _ | M
  · rw [hA] at C2
    replace C2 : Hid (∀ w', Below w0.heap.size w0 w' → Calls Tryd.prog 12 #[.string y] w' fun e w'' => e = .returned (.bool false) ∧ Below w'.heap.size w' w'') := Lib.hid C2
    replace CL := Lib.hid CL
    replace h1 := Lib.hid h1
    replace hA := Lib.hid hA
    replace hyl := Lib.hid hyl
    go_enter Tryd.func7, Tryd.ntmps7
    go_wp2_with fail
    refine (C1.out w0 HB0.out).mono ?_
    rintro _ w1 ⟨rfl, hb1⟩
    have HB1 := Lib.hid (below_next HB0.out (Nat.le_refl _) hb1)
    clear hb1
    dsimp only []
    go_wp2_with fail
    refine (C2.out w1 HB1.out).mono ?_
    rintro _ w2 ⟨rfl, hb2⟩
    have HB2 := Lib.hid (below_next HB1.out (Nat.le_refl _) hb2)
    clear hb2
    dsimp only []
    go_wp2_with fail
    refine (CL.out w2 HB2.out).mono ?_
    rintro _ w3 ⟨rfl, hb3⟩
    have HB3 := Lib.hid (below_next HB2.out (Nat.le_refl _) hb3)
    clear hb3
    dsimp only []
    go_wp2_with fail
    go_ret
    exact ⟨rfl, HB3.out⟩
  · have hL := arcsO_less h1 hA
    rw [hA] at C2
    replace C2 : Hid (∀ w', Below w0.heap.size w0 w' → Calls Tryd.prog 12 #[.string y] w' fun e w'' => e = .returned (.bool true) ∧ Below w'.heap.size w' w'') := Lib.hid C2
    replace CL := Lib.hid CL
    replace h1 := Lib.hid h1
    replace hA := Lib.hid hA
    replace hyl := Lib.hid hyl
    have hs2 : x.toList = x.data.toList := ByteArray.toList_eq x
    rcases hL with hL | hL | hL
    all_goals
      have f0 : (x.toList == [48]) = (x.toList == [48]) := rfl
      rw [hL] at hs2
      have g0 := congrArg (· == [48]) hs2
      have g1 := congrArg (· == [49]) hs2
      have g2 := congrArg (· == [50]) hs2
      simp only [show ((([48] : List UInt8)) == [48]) = true from rfl, show ((([48] : List UInt8)) == [49]) = false from rfl, show ((([48] : List UInt8)) == [50]) = false from rfl, show ((([49] : List UInt8)) == [48]) = false from rfl, show ((([49] : List UInt8)) == [49]) = true from rfl, show ((([49] : List UInt8)) == [50]) = false from rfl, show ((([50] : List UInt8)) == [48]) = false from rfl, show ((([50] : List UInt8)) == [49]) = false from rfl, show ((([50] : List UInt8)) == [50]) = true from rfl] at g0 g1 g2
      replace hL := Lib.hid hL
      replace hs2 := Lib.hid hs2
      clear f0
      go_enter Tryd.func7, Tryd.ntmps7
      go_wp2_with fail
      refine (C1.out w0 HB0.out).mono ?_
      rintro _ w1 ⟨rfl, hb1⟩
      have HB1 := Lib.hid (below_next HB0.out (Nat.le_refl _) hb1)
      clear hb1
      dsimp only []
      go_wp2_with fail
      refine (C2.out w1 HB1.out).mono ?_
      rintro _ w2 ⟨rfl, hb2⟩
      have HB2 := Lib.hid (below_next HB1.out (Nat.le_refl _) hb2)
      clear hb2
      dsimp only []
      go_wp2_with fail
      refine (CL.out w2 HB2.out).mono ?_
      rintro _ w3 ⟨rfl, hb3⟩
      have HB3 := Lib.hid (below_next HB2.out (Nat.le_refl _) hb3)
      clear hb3
      dsimp only []
      go_wp2_with fail
      go_ret
      exact ⟨rfl, HB3.out⟩
set_option maxRecDepth 8000 in
set_option maxHeartbeats 4000000 in
theorem longer7_0_more_cut (s x : ByteArray) (hx : s.extract 0 300 = x) (hbig : 300 < s.size) (hmax : s.size ≤ 9223372036854775807) (n : Int) (L : List Nat) (w0 : World) (H : Hid (OHyp w0)) (h : x.size ≤ 300) (h1 : arcsO x.data.toList = some L) (hj : bits .and .i64 n 3 = 0) (h16 : L.length < 16) :
    Calls Tryd.prog 7 #[.string s, .int .i64 n] w0 fun e w' => e = .returned (.bool true) ∧ Below w0.heap.size w0 w' := by
  have k0 : (300 : Int) < (s.size : Int) := by omega
  have k1 : (300 : Int) ≤ (s.size : Int) := by omega
  have HB0 := Lib.hid (Below.refl w0.heap.size w0)
  have C1 := fun w' hb => H.out.numeric x w' (by omega) hb
  have C2 := fun w' hb => H.out.put x w' (by omega) hb
  rw [h1] at C1
  rw [putO_some h1] at C2
  obtain ⟨y1, hy1⟩ : ∃ y1, x ++ ⟨#[46]⟩ = y1 := ⟨_, rfl⟩
  obtain ⟨y, hy⟩ : ∃ y, y1 ++ ⟨#[48]⟩ = y := ⟨_, rfl⟩
  have hyl : y.data.toList = x.data.toList ++ 46 :: decDigits 0 := by
    rw [← hy, ← hy1, ByteArray.data_append, Array.toList_append, ByteArray.data_append, Array.toList_append, List.append_assoc, dec_lens.1]
    rfl
  have hys1 : y1.size ≤ 301 := by rw [← hy1, ByteArray.size_append]; exact Nat.add_le_add h (Nat.le_refl 1)
  have hys : y.size ≤ 311 := by rw [← hy, ByteArray.size_append]; exact Nat.add_le_add hys1 (show 1 ≤ 10 by omega)
  have C3 := fun w' hb => H.out.put y w' (by omega) hb
  have hmore := arcsO_more h1 (n := 0) (by omega)
  have hcnt := arcsO_count h1
  have hl2 := (okA_len (valid_arcs h1).1)
  rw [if_pos h16] at hmore
  rw [hyl, putO_some hmore, putA_more hl2.1] at C3
  have hsv : (sv 0).length = 1 := by decide +kernel
  obtain ⟨Y, hY⟩ : ∃ Y, Y = sv 0 := ⟨_, rfl⟩
  rw [← hY] at C3 hsv
  obtain ⟨P, hP⟩ : ∃ P, P = putA L := ⟨_, rfl⟩
  rw [← hP] at C2 C3
  obtain ⟨m, hm⟩ : ∃ m, m = P.length := ⟨_, rfl⟩
  have hm1 : m ≤ 96 := by rw [hm, hP]; exact putA_len7 L (valid_arcs h1)
  replace C2 : Hid (∀ w', Below w0.heap.size w0 w' → Calls Tryd.prog 8 #[.string x] w' fun e w'' => ∃ A c, e = .returned (.tuple #[.slice A m c, .int .i64 0]) ∧ Src w'' w''.heap.size A c P ∧ Below w'.heap.size w' w'') := Lib.hid (by rw [hm]; exact C2)
  replace C3 : Hid (∀ w', Below w0.heap.size w0 w' → Calls Tryd.prog 8 #[.string y] w' fun e w'' => ∃ A c, e = .returned (.tuple #[.slice A (m + 1) c, .int .i64 0]) ∧ Src w'' w''.heap.size A c (P ++ Y) ∧ Below w'.heap.size w' w'') := Lib.hid (by
    rw [hm, ← hsv, ← List.length_append]
    exact C3)
  replace hsv := Lib.hid hsv
  replace hY := Lib.hid hY
  replace C1 : Hid (∀ w', Below w0.heap.size w0 w' → Calls Tryd.prog 12 #[.string x] w' fun e w'' => e = .returned (.bool true) ∧ Below w'.heap.size w' w'') := Lib.hid C1
  have hst : Hid (∀ k (h : k < x.size), (x.data.toList.take (k + 1)).countP (· == 46) = (x.data.toList.take k).countP (· == 46) + if x[k] = 46 then 1 else 0) := Lib.hid fun k h => by
    rw [take_snocO x k h, List.countP_append]
    by_cases e : x[k] = 46
    · rw [if_pos e, e]
      rfl
    · rw [if_neg e, List.countP_cons_of_neg (by simpa using e)]
      rfl
  have hend : x.data.toList.take x.size = x.data.toList := List.take_of_length_le (by simp)
  replace h1 := Lib.hid h1
  replace hyl := Lib.hid hyl
  replace hmore := Lib.hid hmore
  replace hP := Lib.hid hP
  replace hm := Lib.hid hm
  replace hcnt := Lib.hid hcnt
  replace hend := Lib.hid hend
  go_enter Tryd.func7, Tryd.ntmps7
  go_wp2_with fail
  refine (C1.out w0 HB0.out).mono ?_
  rintro _ w1 ⟨rfl, hb1⟩
  have HB1 := Lib.hid (below_next HB0.out (Nat.le_refl _) hb1)
  clear hb1
  dsimp only []
  go_wp2_with fail
  go_loop [5, 6] (fun dv iv => ∃ k d : Nat, k ≤ x.size ∧ d ≤ k ∧ iv = .int .i64 (k : Int) ∧ dv = .int .i64 (d : Int) ∧ Hid (d = (x.data.toList.take k).countP (· == 46))) (fun _ iv => x.size - (intOf iv).toNat)
  case atStart => exact ⟨0, 0, Nat.zero_le _, Nat.le_refl _, rfl, rfl, Lib.hid rfl⟩
  case round =>
    obtain ⟨k, d, hk, hd, rfl, rfl, HD⟩ := hrel
    by_cases hlt : k < x.size
    · have i0 : (0 : Int) ≤ (k : Int) := by omega
      have i1 : (k : Int) < (x.size : Int) := by omega
      have h5 := hst.out k hlt
      rw [← HD.out] at h5
      by_cases e : x[k] = 46
      · have kb : ((x[k].toNat : Int) == 46) = true := by rw [e]; rfl
        rw [if_pos e] at h5
        replace h5 := Lib.hid h5
        replace e := Lib.hid e
        go_wp2_with fail
        go_round
        case rel => exact ⟨k + 1, d + 1, by omega, by omega, by go_num, by go_num, Lib.hid h5.out.symm⟩
        case measure => simp [intOf]; omega
      · have kb : ((x[k].toNat : Int) == 46) = false := by
          rw [beq_eq_false_iff_ne]
          intro e2
          exact e (UInt8.toNat_inj.1 (by rw [show (46 : UInt8).toNat = 46 from rfl]; omega))
        rw [if_neg e] at h5
        replace h5 := Lib.hid h5
        replace e := Lib.hid e
        go_wp2_with fail
        go_round
        case rel => exact ⟨k + 1, d, by omega, by omega, by go_num, rfl, Lib.hid h5.out.symm⟩
        case measure => simp [intOf]; omega
    · have hkk : k = x.size := by omega
      subst hkk
      have hdl : d + 1 = L.length := by rw [HD.out, hend.out]; exact hcnt.out
      have d1 : (d : Int) < 15 := by omega
      have d2 : decide ((d : Int) < 15) = true := decide_eq_true d1
      have i1 : ¬ ((x.size : Int) < (x.size : Int)) := by omega
      replace hdl := Lib.hid hdl
      have j1 : (0 : Int) ≤ bits .and .i64 n 3 := by rw [hj]; decide
      have j2 : bits .and .i64 n 3 < 4 := by rw [hj]; decide
      go_wp2_with fail
      have HBa := Lib.hid (HB1.out.alloc HB1.out.size (.cells #[.string ⟨#[48]⟩, .string ⟨#[49, 50, 55]⟩, .string ⟨#[49, 50, 56]⟩, .string ⟨#[57, 57, 57, 57, 57, 57, 57, 57, 57, 57]⟩] 9))
      refine (C2.out _ HBa.out).mono ?_
      rintro _ w2 ⟨A2, c2, rfl, SX, hb2⟩
      have HB2 := Lib.hid (below_next HBa.out (Nat.le_refl _) hb2)
      replace SX := Lib.hid SX
      clear hb2
      dsimp only []
      go_wp2_with fail
      refine (C3.out w2 HB2.out).mono ?_
      rintro _ w3 ⟨A3, c3, rfl, SY, hb3⟩
      have HB3 := Lib.hid (below_next HB2.out (Nat.le_refl _) hb3)
      replace SX := Lib.hid (SX.out.next hb3)
      replace SY := Lib.hid SY
      clear hb3
      dsimp only []
      have hPl : P.length = m := hm.out.symm
      have v1 : ∀ W, Below w3.heap.size w3 W → (convert 22 9 (.slice A2 m c2)).run Tryd.prog W = .ok (.string (strB P)) W := fun W hb => by have := (SX.out.below hb).conv; rwa [hPl] at this
      have v2 : ∀ W, Below w3.heap.size w3 W → (convert 22 9 (.slice A3 m c3)).run Tryd.prog W = .ok (.string (strB P)) W := fun W hb => by
        have := ((SY.out.below hb).take m).conv
        rw [List.take_append_of_le_length (by omega), ← hPl, List.take_length, hPl] at this
        exact this
      have e1 : ((strB P).toList == (strB P).toList) = true := by simp
      obtain ⟨M, hM⟩ : ∃ M, M = m + 1 := ⟨_, rfl⟩
      rw [← hM]
      have g1 : (m : Int) < (M : Int) := by omega
      have g1' : m < M := by omega
      have g2 : decide ((m : Int) < (M : Int)) = true := decide_eq_true g1
      have g2' : decide (m < M) = true := decide_eq_true g1'
      have g3 : (M : Int) - (m : Int) = 1 := by omega
      have g4 : IntKind.i64.wrap ((M : Int) - (m : Int)) = 1 := by rw [g3]; decide
      have hc3 : M ≤ c3 := by
        rw [hM]
        have := SY.out.le
        rw [List.length_append, hPl, hsv.out] at this
        exact this
      have g5 : (m : Int) ≤ (c3 : Int) := by omega
      replace hPl := Lib.hid hPl
      replace hM := Lib.hid hM
      replace v1 := Lib.hid v1
      replace v2 := Lib.hid v2
      have u1 := v1.out w3 (Below.refl _ _)
      have u2 := v2.out w3 (Below.refl _ _)
      go_wp2_with fail
      refine wp_region_held_drew (S := (fun W => (convert 22 9 (.slice A2 m c2)).run Tryd.prog W = .ok (.string (strB P)) W ∧ (convert 22 9 (.slice A3 m c3)).run Tryd.prog W = .ok (.string (strB P)) W)) (by kernel_rfl) ⟨v1.out _ (by first | exact (Below.refl _ _).drew.alloc (by simp) _ | exact (Below.refl _ _).alloc (by simp) _ | exact (Below.refl _ _).drew | exact Below.refl _ _), v2.out _ (by first | exact (Below.refl _ _).drew.alloc (by simp) _ | exact (Below.refl _ _).alloc (by simp) _ | exact (Below.refl _ _).drew | exact Below.refl _ _)⟩ ?_
      intro hHeld
      refine takeL7 0 78 (v := ?_) rfl rfl (by kernel_rfl) (by kernel_rfl) (by kernel_rfl) (fun _ _ _ h => h) (Or.inl ⟨by rfl, ?hy0⟩) hHeld ?rest0
      case hy0 =>
        intro W hS
        obtain ⟨hS1, hS2⟩ := hS
        (try dsimp only at hS1 hS2)
        go_simp
        try (with_reducible rfl)
      dsimp only [List.set]
      refine takeL7 1 79 (v := ?_) rfl rfl (by kernel_rfl) (by kernel_rfl) (by kernel_rfl) (fun _ _ _ h => h) (Or.inl ⟨by rfl, ?hy1⟩) hHeld ?rest1
      case hy1 =>
        intro W hS
        obtain ⟨hS1, hS2⟩ := hS
        (try dsimp only at hS1 hS2)
        go_simp
        try (with_reducible rfl)
      dsimp only [List.set]
      refine takeL7 2 80 (v := ?_) rfl rfl (by kernel_rfl) (by kernel_rfl) (by kernel_rfl) (fun _ _ _ h => h) (Or.inl ⟨by rfl, ?hy2⟩) hHeld ?rest2
      case hy2 =>
        intro W hS
        obtain ⟨hS1, hS2⟩ := hS
        (try dsimp only at hS1 hS2)
        go_simp
        try (with_reducible rfl)
      dsimp only [List.set]
      refine takeL7 3 81 (v := ?_) rfl rfl (by kernel_rfl) (by kernel_rfl) (by kernel_rfl) (fun _ _ _ h => h) (Or.inl ⟨by rfl, ?hy3⟩) hHeld ?rest3
      case hy3 =>
        intro W hS
        obtain ⟨hS1, hS2⟩ := hS
        (try dsimp only at hS1 hS2)
        go_simp
        try (with_reducible rfl)
      dsimp only [List.set]
      refine takeL7 4 82 (v := ?_) rfl rfl (by kernel_rfl) (by kernel_rfl) (by kernel_rfl) (fun _ _ _ h => h) (Or.inl ⟨by rfl, ?hy4⟩) hHeld ?rest4
      case hy4 =>
        intro W hS
        obtain ⟨hS1, hS2⟩ := hS
        (try dsimp only at hS1 hS2)
        go_simp
        try (with_reducible rfl)
      dsimp only [List.set]
      refine takeL7 5 83 (v := ?_) rfl rfl (by kernel_rfl) (by kernel_rfl) (by kernel_rfl) (fun _ _ _ h => h) (Or.inl ⟨by rfl, ?hy5⟩) hHeld ?rest5
      case hy5 =>
        intro W hS
        obtain ⟨hS1, hS2⟩ := hS
        (try dsimp only at hS1 hS2)
        go_simp
        try (with_reducible rfl)
      dsimp only [List.set]
      refine takeL7 6 84 (v := ?_) rfl rfl (by kernel_rfl) (by kernel_rfl) (by kernel_rfl) (fun _ _ _ h => h) (Or.inl ⟨by rfl, ?hy6⟩) hHeld ?rest6
      case hy6 =>
        intro W hS
        obtain ⟨hS1, hS2⟩ := hS
        (try dsimp only at hS1 hS2)
        go_simp
        try (with_reducible rfl)
      dsimp only [List.set]
      refine takeL7 7 85 (v := ?_) rfl rfl (by kernel_rfl) (by kernel_rfl) (by kernel_rfl) (fun _ _ _ h => h) (Or.inl ⟨by rfl, ?hy7⟩) hHeld ?rest7
      case hy7 =>
        intro W hS
        obtain ⟨hS1, hS2⟩ := hS
        (try dsimp only at hS1 hS2)
        go_simp
        try (with_reducible rfl)
      dsimp only [List.set]
      refine takeL7 8 86 (v := ?_) rfl rfl (by kernel_rfl) (by kernel_rfl) (by kernel_rfl) (fun _ _ _ h => h) (Or.inl ⟨by rfl, ?hy8⟩) hHeld ?rest8
      case hy8 =>
        intro W hS
        obtain ⟨hS1, hS2⟩ := hS
        (try dsimp only at hS1 hS2)
        go_simp
        try (with_reducible rfl)
      dsimp only [List.set]
      refine takeL7 9 87 (v := ?_) rfl rfl (by kernel_rfl) (by kernel_rfl) (by kernel_rfl) (fun _ _ _ h => h) (Or.inl ⟨by rfl, ?hy9⟩) hHeld ?rest9
      case hy9 =>
        intro W hS
        obtain ⟨hS1, hS2⟩ := hS
        (try dsimp only at hS1 hS2)
        go_simp
        try (with_reducible rfl)
      dsimp only [List.set]
      refine takeL7 10 88 (v := ?_) rfl rfl (by kernel_rfl) (by kernel_rfl) (by kernel_rfl) (fun _ _ _ h => h) (Or.inl ⟨by rfl, ?hy10⟩) hHeld ?rest10
      case hy10 =>
        intro W hS
        obtain ⟨hS1, hS2⟩ := hS
        (try dsimp only at hS1 hS2)
        go_simp
        try (with_reducible rfl)
      dsimp only [List.set]
      refine takeL7 11 89 (v := ?_) rfl rfl (by kernel_rfl) (by kernel_rfl) (by kernel_rfl) (fun _ _ _ h => h) (Or.inl ⟨by rfl, ?hy11⟩) hHeld ?rest11
      case hy11 =>
        intro W hS
        obtain ⟨hS1, hS2⟩ := hS
        (try dsimp only at hS1 hS2)
        go_simp
        try (with_reducible rfl)
      dsimp only [List.set]
      refine takeL7 12 90 (v := ?_) rfl rfl (by kernel_rfl) (by kernel_rfl) (by kernel_rfl) (fun _ _ _ h => h) (Or.inl ⟨by rfl, ?hy12⟩) hHeld ?rest12
      case hy12 =>
        intro W hS
        obtain ⟨hS1, hS2⟩ := hS
        (try dsimp only at hS1 hS2)
        go_simp
        try (with_reducible rfl)
      dsimp only [List.set]
      refine takeL7 13 91 (v := ?_) rfl rfl (by kernel_rfl) (by kernel_rfl) (by kernel_rfl) (fun _ _ _ h => h) (Or.inl ⟨by rfl, ?hy13⟩) hHeld ?rest13
      case hy13 =>
        intro W hS
        obtain ⟨hS1, hS2⟩ := hS
        (try dsimp only at hS1 hS2)
        go_simp
        try (with_reducible rfl)
      dsimp only [List.set]
      refine takeL7 14 92 (v := ?_) rfl rfl (by kernel_rfl) (by kernel_rfl) (by kernel_rfl) (fun _ _ _ h => h) (Or.inl ⟨by rfl, ?hy14⟩) hHeld ?rest14
      case hy14 =>
        intro W hS
        obtain ⟨hS1, hS2⟩ := hS
        (try dsimp only at hS1 hS2)
        go_simp
        try (with_reducible rfl)
      dsimp only [List.set]
      refine takeL7 15 93 (v := ?_) rfl rfl (by kernel_rfl) (by kernel_rfl) (by kernel_rfl) (fun _ _ _ h => h) (Or.inl ⟨by rfl, ?hy15⟩) hHeld ?rest15
      case hy15 =>
        intro W hS
        obtain ⟨hS1, hS2⟩ := hS
        (try dsimp only at hS1 hS2)
        go_simp
        try (with_reducible rfl)
      dsimp only [List.set]
      refine takeL7 16 94 (v := ?_) rfl rfl (by kernel_rfl) (by kernel_rfl) (by kernel_rfl) (fun _ _ _ h => h) (Or.inl ⟨by rfl, ?hy16⟩) hHeld ?rest16
      case hy16 =>
        intro W hS
        obtain ⟨hS1, hS2⟩ := hS
        (try dsimp only at hS1 hS2)
        go_simp
        try (with_reducible rfl)
      dsimp only [List.set]
      refine takeL7 17 95 (v := ?_) rfl rfl (by kernel_rfl) (by kernel_rfl) (by kernel_rfl) (fun _ _ _ h => h) (Or.inl ⟨by rfl, ?hy17⟩) hHeld ?rest17
      case hy17 =>
        intro W hS
        obtain ⟨hS1, hS2⟩ := hS
        (try dsimp only at hS1 hS2)
        go_simp
        try (with_reducible rfl)
      dsimp only [List.set]
      refine takeL7 18 96 (v := ?_) rfl rfl (by kernel_rfl) (by kernel_rfl) (by kernel_rfl) (fun _ _ _ h => h) (Or.inl ⟨by rfl, ?hy18⟩) hHeld ?rest18
      case hy18 =>
        intro W hS
        obtain ⟨hS1, hS2⟩ := hS
        (try dsimp only at hS1 hS2)
        go_simp
        try (with_reducible rfl)
      dsimp only [List.set]
      refine takeL7 19 97 (v := ?_) rfl rfl (by kernel_rfl) (by kernel_rfl) (by kernel_rfl) (fun _ _ _ h => h) (Or.inl ⟨by rfl, ?hy19⟩) hHeld ?rest19
      case hy19 =>
        intro W hS
        obtain ⟨hS1, hS2⟩ := hS
        (try dsimp only at hS1 hS2)
        go_simp
        try (with_reducible rfl)
      dsimp only [List.set]
      refine takeL7 20 98 (v := ?_) rfl rfl (by kernel_rfl) (by kernel_rfl) (by kernel_rfl) (fun _ _ _ h => h) (Or.inl ⟨by rfl, ?hy20⟩) hHeld ?rest20
      case hy20 =>
        intro W hS
        obtain ⟨hS1, hS2⟩ := hS
        (try dsimp only at hS1 hS2)
        go_simp
        try (with_reducible rfl)
      dsimp only [List.set]
      refine takeL7 21 99 (v := ?_) rfl rfl (by kernel_rfl) (by kernel_rfl) (by kernel_rfl) (fun _ _ _ h => h) (Or.inl ⟨by rfl, ?hy21⟩) hHeld ?rest21
      case hy21 =>
        intro W hS
        obtain ⟨hS1, hS2⟩ := hS
        (try dsimp only at hS1 hS2)
        go_simp
        try (with_reducible rfl)
      dsimp only [List.set]
      refine takeL7 22 100 (v := ?_) rfl rfl (by kernel_rfl) (by kernel_rfl) (by kernel_rfl) (fun _ _ _ h => h) (Or.inl ⟨by rfl, ?hy22⟩) hHeld ?rest22
      case hy22 =>
        intro W hS
        obtain ⟨hS1, hS2⟩ := hS
        (try dsimp only at hS1 hS2)
        go_simp
        try (with_reducible rfl)
      dsimp only [List.set]
      refine takeL7 23 101 (v := ?_) rfl rfl (by kernel_rfl) (by kernel_rfl) (by kernel_rfl) (fun _ _ _ h => h) (Or.inl ⟨by rfl, ?hy23⟩) hHeld ?rest23
      case hy23 =>
        intro W hS
        obtain ⟨hS1, hS2⟩ := hS
        (try dsimp only at hS1 hS2)
        go_simp
        try (with_reducible rfl)
      dsimp only [List.set]
      refine takeL7 25 103 (v := ?_) rfl rfl (by kernel_rfl) (by kernel_rfl) (by kernel_rfl) (fun _ _ _ h => h) (Or.inl ⟨by rfl, ?hy25⟩) hHeld ?rest25
      case hy25 =>
        intro W hS
        obtain ⟨hS1, hS2⟩ := hS
        (try dsimp only at hS1 hS2)
        go_simp
        try (with_reducible rfl)
      dsimp only [List.set]
      refine takeL7 26 104 (v := ?_) rfl rfl (by kernel_rfl) (by kernel_rfl) (by kernel_rfl) (fun _ _ _ h => h) (Or.inl ⟨by rfl, ?hy26⟩) hHeld ?rest26
      case hy26 =>
        intro W hS
        obtain ⟨hS1, hS2⟩ := hS
        (try dsimp only at hS1 hS2)
        go_simp
        try (with_reducible rfl)
      dsimp only [List.set]
      refine wpAnyH_ready (rs := [24]) (by kernel_rfl) (by simp) ?_
      refine AllReadyH.cons rfl (fun K hK => ?_) AllReadyH.nil
      go_simp
      refine hK.out _ _ ?_ (fun hHeld => ?_)
      · exact ⟨v1.out _ (by first | exact (Below.refl _ _).drew.alloc (by simp) _ | exact (Below.refl _ _).alloc (by simp) _ | exact (Below.refl _ _).drew | exact Below.refl _ _), v2.out _ (by first | exact (Below.refl _ _).drew.alloc (by simp) _ | exact (Below.refl _ _).alloc (by simp) _ | exact (Below.refl _ _).drew | exact Below.refl _ _)⟩
      clear hK K
      refine takeL7 27 105 (v := ?_) rfl rfl (by kernel_rfl) (by kernel_rfl) (by kernel_rfl) (fun _ _ _ h => h) (Or.inl ⟨by rfl, ?hy27⟩) hHeld ?rest27
      case hy27 =>
        intro W hS
        obtain ⟨hS1, hS2⟩ := hS
        (try dsimp only at hS1 hS2)
        go_simp
        try (with_reducible rfl)
      dsimp only [List.set]
      refine wpAnyH_ready (rs := [28]) (by kernel_rfl) (by simp) ?_
      refine AllReadyH.cons rfl (fun K hK => ?_) AllReadyH.nil
      go_simp
      refine hK.out _ _ ?_ (fun hHeld => ?_)
      · exact ⟨v1.out _ (by first | exact (Below.refl _ _).drew.alloc (by simp) _ | exact (Below.refl _ _).alloc (by simp) _ | exact (Below.refl _ _).drew | exact Below.refl _ _), v2.out _ (by first | exact (Below.refl _ _).drew.alloc (by simp) _ | exact (Below.refl _ _).alloc (by simp) _ | exact (Below.refl _ _).drew | exact Below.refl _ _)⟩
      clear hK K
      refine takeL7 29 107 (v := ?_) rfl rfl (by kernel_rfl) (by kernel_rfl) (by kernel_rfl) (fun _ _ _ h => h) (Or.inl ⟨by rfl, ?hy29⟩) hHeld ?rest29
      case hy29 =>
        intro W hS
        obtain ⟨hS1, hS2⟩ := hS
        (try dsimp only at hS1 hS2)
        go_simp
        try (with_reducible rfl)
      dsimp only [List.set]
      refine takeL7 30 108 (v := ?_) rfl rfl (by kernel_rfl) (by kernel_rfl) (by kernel_rfl) (fun _ _ _ h => h) (Or.inl ⟨by rfl, ?hy30⟩) hHeld ?rest30
      case hy30 =>
        intro W hS
        obtain ⟨hS1, hS2⟩ := hS
        (try dsimp only at hS1 hS2)
        go_simp
        try (with_reducible rfl)
      dsimp only [List.set]
      refine takeL7 31 109 (v := ?_) rfl rfl (by kernel_rfl) (by kernel_rfl) (by kernel_rfl) (fun _ _ _ h => h) (Or.inl ⟨by rfl, ?hy31⟩) hHeld ?rest31
      case hy31 =>
        intro W hS
        obtain ⟨hS1, hS2⟩ := hS
        (try dsimp only at hS1 hS2)
        go_simp
        try (with_reducible rfl)
      dsimp only [List.set]
      refine takeL7 32 4 (v := ?_) rfl rfl (by kernel_rfl) (by kernel_rfl) (by kernel_rfl) (fun _ _ _ h => h) (Or.inl ⟨by rfl, ?hy32⟩) hHeld ?rest32
      case hy32 =>
        intro W hS
        obtain ⟨hS1, hS2⟩ := hS
        (try dsimp only at hS1 hS2)
        go_simp
        try (with_reducible rfl)
      dsimp only [List.set]
      refine wpAnyH_done (by kernel_rfl) ?_ _
      go_wp2_with fail
      go_ret
      exact ⟨by rfl, (HB3.out.alloc HB3.out.size _).drew⟩

set_option maxRecDepth 8000 in
set_option maxHeartbeats 4000000 in
theorem longer7_0_full_cut (s x : ByteArray) (hx : s.extract 0 300 = x) (hbig : 300 < s.size) (hmax : s.size ≤ 9223372036854775807) (n : Int) (L : List Nat) (w0 : World) (H : Hid (OHyp w0)) (h : x.size ≤ 300) (h1 : arcsO x.data.toList = some L) (hj : bits .and .i64 n 3 = 0) (h16 : ¬ L.length < 16) :
    Calls Tryd.prog 7 #[.string s, .int .i64 n] w0 fun e w' => e = .returned (.bool true) ∧ Below w0.heap.size w0 w' := by
  have k0 : (300 : Int) < (s.size : Int) := by omega
  have k1 : (300 : Int) ≤ (s.size : Int) := by omega
  have HB0 := Lib.hid (Below.refl w0.heap.size w0)
  have C1 := fun w' hb => H.out.numeric x w' (by omega) hb
  have C2 := fun w' hb => H.out.put x w' (by omega) hb
  rw [h1] at C1
  rw [putO_some h1] at C2
  obtain ⟨y1, hy1⟩ : ∃ y1, x ++ ⟨#[46]⟩ = y1 := ⟨_, rfl⟩
  obtain ⟨y, hy⟩ : ∃ y, y1 ++ ⟨#[48]⟩ = y := ⟨_, rfl⟩
  have hyl : y.data.toList = x.data.toList ++ 46 :: decDigits 0 := by
    rw [← hy, ← hy1, ByteArray.data_append, Array.toList_append, ByteArray.data_append, Array.toList_append, List.append_assoc, dec_lens.1]
    rfl
  have hys1 : y1.size ≤ 301 := by rw [← hy1, ByteArray.size_append]; exact Nat.add_le_add h (Nat.le_refl 1)
  have hys : y.size ≤ 311 := by rw [← hy, ByteArray.size_append]; exact Nat.add_le_add hys1 (show 1 ≤ 10 by omega)
  have C3 := fun w' hb => H.out.put y w' (by omega) hb
  have hmore := arcsO_more h1 (n := 0) (by omega)
  have hcnt := arcsO_count h1
  have hl2 := (okA_len (valid_arcs h1).1)
  rw [if_neg h16] at hmore
  rw [hyl, putO_none hmore] at C3
  replace C3 : Hid (∀ w', Below w0.heap.size w0 w' → Calls Tryd.prog 8 #[.string y] w' fun e w'' => ∃ A c, e = .returned (.tuple #[.slice A 0 c, .int .i64 2]) ∧ Src w'' w''.heap.size A c [] ∧ Below w'.heap.size w' w'') := Lib.hid C3
  obtain ⟨P, hP⟩ : ∃ P, P = putA L := ⟨_, rfl⟩
  rw [← hP] at C2
  obtain ⟨m, hm⟩ : ∃ m, m = P.length := ⟨_, rfl⟩
  have hm1 : m ≤ 96 := by rw [hm, hP]; exact putA_len7 L (valid_arcs h1)
  replace C2 : Hid (∀ w', Below w0.heap.size w0 w' → Calls Tryd.prog 8 #[.string x] w' fun e w'' => ∃ A c, e = .returned (.tuple #[.slice A m c, .int .i64 0]) ∧ Src w'' w''.heap.size A c P ∧ Below w'.heap.size w' w'') := Lib.hid (by rw [hm]; exact C2)
  replace C1 : Hid (∀ w', Below w0.heap.size w0 w' → Calls Tryd.prog 12 #[.string x] w' fun e w'' => e = .returned (.bool true) ∧ Below w'.heap.size w' w'') := Lib.hid C1
  have hst : Hid (∀ k (h : k < x.size), (x.data.toList.take (k + 1)).countP (· == 46) = (x.data.toList.take k).countP (· == 46) + if x[k] = 46 then 1 else 0) := Lib.hid fun k h => by
    rw [take_snocO x k h, List.countP_append]
    by_cases e : x[k] = 46
    · rw [if_pos e, e]
      rfl
    · rw [if_neg e, List.countP_cons_of_neg (by simpa using e)]
      rfl
  have hend : x.data.toList.take x.size = x.data.toList := List.take_of_length_le (by simp)
  replace h1 := Lib.hid h1
  replace hyl := Lib.hid hyl
  replace hmore := Lib.hid hmore
  replace hP := Lib.hid hP
  replace hm := Lib.hid hm
  replace hcnt := Lib.hid hcnt
  replace hend := Lib.hid hend
  go_enter Tryd.func7, Tryd.ntmps7
  go_wp2_with fail
  refine (C1.out w0 HB0.out).mono ?_
  rintro _ w1 ⟨rfl, hb1⟩
  have HB1 := Lib.hid (below_next HB0.out (Nat.le_refl _) hb1)
  clear hb1
  dsimp only []
  go_wp2_with fail
  go_loop [5, 6] (fun dv iv => ∃ k d : Nat, k ≤ x.size ∧ d ≤ k ∧ iv = .int .i64 (k : Int) ∧ dv = .int .i64 (d : Int) ∧ Hid (d = (x.data.toList.take k).countP (· == 46))) (fun _ iv => x.size - (intOf iv).toNat)
  case atStart => exact ⟨0, 0, Nat.zero_le _, Nat.le_refl _, rfl, rfl, Lib.hid rfl⟩
  case round =>
    obtain ⟨k, d, hk, hd, rfl, rfl, HD⟩ := hrel
    by_cases hlt : k < x.size
    · have i0 : (0 : Int) ≤ (k : Int) := by omega
      have i1 : (k : Int) < (x.size : Int) := by omega
      have h5 := hst.out k hlt
      rw [← HD.out] at h5
      by_cases e : x[k] = 46
      · have kb : ((x[k].toNat : Int) == 46) = true := by rw [e]; rfl
        rw [if_pos e] at h5
        replace h5 := Lib.hid h5
        replace e := Lib.hid e
        go_wp2_with fail
        go_round
        case rel => exact ⟨k + 1, d + 1, by omega, by omega, by go_num, by go_num, Lib.hid h5.out.symm⟩
        case measure => simp [intOf]; omega
      · have kb : ((x[k].toNat : Int) == 46) = false := by
          rw [beq_eq_false_iff_ne]
          intro e2
          exact e (UInt8.toNat_inj.1 (by rw [show (46 : UInt8).toNat = 46 from rfl]; omega))
        rw [if_neg e] at h5
        replace h5 := Lib.hid h5
        replace e := Lib.hid e
        go_wp2_with fail
        go_round
        case rel => exact ⟨k + 1, d, by omega, by omega, by go_num, rfl, Lib.hid h5.out.symm⟩
        case measure => simp [intOf]; omega
    · have hkk : k = x.size := by omega
      subst hkk
      have hdl : d + 1 = L.length := by rw [HD.out, hend.out]; exact hcnt.out
      have d1 : ¬ ((d : Int) < 15) := by omega
      have d2 : decide ((d : Int) < 15) = false := decide_eq_false d1
      have i1 : ¬ ((x.size : Int) < (x.size : Int)) := by omega
      replace hdl := Lib.hid hdl
      have j1 : (0 : Int) ≤ bits .and .i64 n 3 := by rw [hj]; decide
      have j2 : bits .and .i64 n 3 < 4 := by rw [hj]; decide
      go_wp2_with fail
      have HBa := Lib.hid (HB1.out.alloc HB1.out.size (.cells #[.string ⟨#[48]⟩, .string ⟨#[49, 50, 55]⟩, .string ⟨#[49, 50, 56]⟩, .string ⟨#[57, 57, 57, 57, 57, 57, 57, 57, 57, 57]⟩] 9))
      refine (C2.out _ HBa.out).mono ?_
      rintro _ w2 ⟨A2, c2, rfl, SX, hb2⟩
      have HB2 := Lib.hid (below_next HBa.out (Nat.le_refl _) hb2)
      replace SX := Lib.hid SX
      clear hb2
      dsimp only []
      go_wp2_with fail
      refine (C3.out w2 HB2.out).mono ?_
      rintro _ w3 ⟨A3, c3, rfl, SY, hb3⟩
      have HB3 := Lib.hid (below_next HB2.out (Nat.le_refl _) hb3)
      replace SX := Lib.hid (SX.out.next hb3)
      replace SY := Lib.hid SY
      clear hb3
      dsimp only []
      go_wp2_with fail
      go_quiet (fail)
      go_wp2_with fail
      go_ret
      exact ⟨rfl, below_drewN7 HB3.out _⟩

set_option maxRecDepth 8000 in
set_option maxHeartbeats 4000000 in
theorem longer7_1_more_cut (s x : ByteArray) (hx : s.extract 0 300 = x) (hbig : 300 < s.size) (hmax : s.size ≤ 9223372036854775807) (n : Int) (L : List Nat) (w0 : World) (H : Hid (OHyp w0)) (h : x.size ≤ 300) (h1 : arcsO x.data.toList = some L) (hj : bits .and .i64 n 3 = 1) (h16 : L.length < 16) :
    Calls Tryd.prog 7 #[.string s, .int .i64 n] w0 fun e w' => e = .returned (.bool true) ∧ Below w0.heap.size w0 w' := by
  have k0 : (300 : Int) < (s.size : Int) := by omega
  have k1 : (300 : Int) ≤ (s.size : Int) := by omega
  have HB0 := Lib.hid (Below.refl w0.heap.size w0)
  have C1 := fun w' hb => H.out.numeric x w' (by omega) hb
  have C2 := fun w' hb => H.out.put x w' (by omega) hb
  rw [h1] at C1
  rw [putO_some h1] at C2
  obtain ⟨y1, hy1⟩ : ∃ y1, x ++ ⟨#[46]⟩ = y1 := ⟨_, rfl⟩
  obtain ⟨y, hy⟩ : ∃ y, y1 ++ ⟨#[49, 50, 55]⟩ = y := ⟨_, rfl⟩
  have hyl : y.data.toList = x.data.toList ++ 46 :: decDigits 127 := by
    rw [← hy, ← hy1, ByteArray.data_append, Array.toList_append, ByteArray.data_append, Array.toList_append, List.append_assoc, dec_lens.2.1]
    rfl
  have hys1 : y1.size ≤ 301 := by rw [← hy1, ByteArray.size_append]; exact Nat.add_le_add h (Nat.le_refl 1)
  have hys : y.size ≤ 311 := by rw [← hy, ByteArray.size_append]; exact Nat.add_le_add hys1 (show 3 ≤ 10 by omega)
  have C3 := fun w' hb => H.out.put y w' (by omega) hb
  have hmore := arcsO_more h1 (n := 127) (by omega)
  have hcnt := arcsO_count h1
  have hl2 := (okA_len (valid_arcs h1).1)
  rw [if_pos h16] at hmore
  rw [hyl, putO_some hmore, putA_more hl2.1] at C3
  have hsv : (sv 127).length = 1 := by decide +kernel
  obtain ⟨Y, hY⟩ : ∃ Y, Y = sv 127 := ⟨_, rfl⟩
  rw [← hY] at C3 hsv
  obtain ⟨P, hP⟩ : ∃ P, P = putA L := ⟨_, rfl⟩
  rw [← hP] at C2 C3
  obtain ⟨m, hm⟩ : ∃ m, m = P.length := ⟨_, rfl⟩
  have hm1 : m ≤ 96 := by rw [hm, hP]; exact putA_len7 L (valid_arcs h1)
  replace C2 : Hid (∀ w', Below w0.heap.size w0 w' → Calls Tryd.prog 8 #[.string x] w' fun e w'' => ∃ A c, e = .returned (.tuple #[.slice A m c, .int .i64 0]) ∧ Src w'' w''.heap.size A c P ∧ Below w'.heap.size w' w'') := Lib.hid (by rw [hm]; exact C2)
  replace C3 : Hid (∀ w', Below w0.heap.size w0 w' → Calls Tryd.prog 8 #[.string y] w' fun e w'' => ∃ A c, e = .returned (.tuple #[.slice A (m + 1) c, .int .i64 0]) ∧ Src w'' w''.heap.size A c (P ++ Y) ∧ Below w'.heap.size w' w'') := Lib.hid (by
    rw [hm, ← hsv, ← List.length_append]
    exact C3)
  replace hsv := Lib.hid hsv
  replace hY := Lib.hid hY
  replace C1 : Hid (∀ w', Below w0.heap.size w0 w' → Calls Tryd.prog 12 #[.string x] w' fun e w'' => e = .returned (.bool true) ∧ Below w'.heap.size w' w'') := Lib.hid C1
  have hst : Hid (∀ k (h : k < x.size), (x.data.toList.take (k + 1)).countP (· == 46) = (x.data.toList.take k).countP (· == 46) + if x[k] = 46 then 1 else 0) := Lib.hid fun k h => by
    rw [take_snocO x k h, List.countP_append]
    by_cases e : x[k] = 46
    · rw [if_pos e, e]
      rfl
    · rw [if_neg e, List.countP_cons_of_neg (by simpa using e)]
      rfl
  have hend : x.data.toList.take x.size = x.data.toList := List.take_of_length_le (by simp)
  replace h1 := Lib.hid h1
  replace hyl := Lib.hid hyl
  replace hmore := Lib.hid hmore
  replace hP := Lib.hid hP
  replace hm := Lib.hid hm
  replace hcnt := Lib.hid hcnt
  replace hend := Lib.hid hend
  go_enter Tryd.func7, Tryd.ntmps7
  go_wp2_with fail
  refine (C1.out w0 HB0.out).mono ?_
  rintro _ w1 ⟨rfl, hb1⟩
  have HB1 := Lib.hid (below_next HB0.out (Nat.le_refl _) hb1)
  clear hb1
  dsimp only []
  go_wp2_with fail
  go_loop [5, 6] (fun dv iv => ∃ k d : Nat, k ≤ x.size ∧ d ≤ k ∧ iv = .int .i64 (k : Int) ∧ dv = .int .i64 (d : Int) ∧ Hid (d = (x.data.toList.take k).countP (· == 46))) (fun _ iv => x.size - (intOf iv).toNat)
  case atStart => exact ⟨0, 0, Nat.zero_le _, Nat.le_refl _, rfl, rfl, Lib.hid rfl⟩
  case round =>
    obtain ⟨k, d, hk, hd, rfl, rfl, HD⟩ := hrel
    by_cases hlt : k < x.size
    · have i0 : (0 : Int) ≤ (k : Int) := by omega
      have i1 : (k : Int) < (x.size : Int) := by omega
      have h5 := hst.out k hlt
      rw [← HD.out] at h5
      by_cases e : x[k] = 46
      · have kb : ((x[k].toNat : Int) == 46) = true := by rw [e]; rfl
        rw [if_pos e] at h5
        replace h5 := Lib.hid h5
        replace e := Lib.hid e
        go_wp2_with fail
        go_round
        case rel => exact ⟨k + 1, d + 1, by omega, by omega, by go_num, by go_num, Lib.hid h5.out.symm⟩
        case measure => simp [intOf]; omega
      · have kb : ((x[k].toNat : Int) == 46) = false := by
          rw [beq_eq_false_iff_ne]
          intro e2
          exact e (UInt8.toNat_inj.1 (by rw [show (46 : UInt8).toNat = 46 from rfl]; omega))
        rw [if_neg e] at h5
        replace h5 := Lib.hid h5
        replace e := Lib.hid e
        go_wp2_with fail
        go_round
        case rel => exact ⟨k + 1, d, by omega, by omega, by go_num, rfl, Lib.hid h5.out.symm⟩
        case measure => simp [intOf]; omega
    · have hkk : k = x.size := by omega
      subst hkk
      have hdl : d + 1 = L.length := by rw [HD.out, hend.out]; exact hcnt.out
      have d1 : (d : Int) < 15 := by omega
      have d2 : decide ((d : Int) < 15) = true := decide_eq_true d1
      have i1 : ¬ ((x.size : Int) < (x.size : Int)) := by omega
      replace hdl := Lib.hid hdl
      have j1 : (0 : Int) ≤ bits .and .i64 n 3 := by rw [hj]; decide
      have j2 : bits .and .i64 n 3 < 4 := by rw [hj]; decide
      go_wp2_with fail
      have HBa := Lib.hid (HB1.out.alloc HB1.out.size (.cells #[.string ⟨#[48]⟩, .string ⟨#[49, 50, 55]⟩, .string ⟨#[49, 50, 56]⟩, .string ⟨#[57, 57, 57, 57, 57, 57, 57, 57, 57, 57]⟩] 9))
      refine (C2.out _ HBa.out).mono ?_
      rintro _ w2 ⟨A2, c2, rfl, SX, hb2⟩
      have HB2 := Lib.hid (below_next HBa.out (Nat.le_refl _) hb2)
      replace SX := Lib.hid SX
      clear hb2
      dsimp only []
      go_wp2_with fail
      refine (C3.out w2 HB2.out).mono ?_
      rintro _ w3 ⟨A3, c3, rfl, SY, hb3⟩
      have HB3 := Lib.hid (below_next HB2.out (Nat.le_refl _) hb3)
      replace SX := Lib.hid (SX.out.next hb3)
      replace SY := Lib.hid SY
      clear hb3
      dsimp only []
      have hPl : P.length = m := hm.out.symm
      have v1 : ∀ W, Below w3.heap.size w3 W → (convert 22 9 (.slice A2 m c2)).run Tryd.prog W = .ok (.string (strB P)) W := fun W hb => by have := (SX.out.below hb).conv; rwa [hPl] at this
      have v2 : ∀ W, Below w3.heap.size w3 W → (convert 22 9 (.slice A3 m c3)).run Tryd.prog W = .ok (.string (strB P)) W := fun W hb => by
        have := ((SY.out.below hb).take m).conv
        rw [List.take_append_of_le_length (by omega), ← hPl, List.take_length, hPl] at this
        exact this
      have e1 : ((strB P).toList == (strB P).toList) = true := by simp
      obtain ⟨M, hM⟩ : ∃ M, M = m + 1 := ⟨_, rfl⟩
      rw [← hM]
      have g1 : (m : Int) < (M : Int) := by omega
      have g1' : m < M := by omega
      have g2 : decide ((m : Int) < (M : Int)) = true := decide_eq_true g1
      have g2' : decide (m < M) = true := decide_eq_true g1'
      have g3 : (M : Int) - (m : Int) = 1 := by omega
      have g4 : IntKind.i64.wrap ((M : Int) - (m : Int)) = 1 := by rw [g3]; decide
      have hc3 : M ≤ c3 := by
        rw [hM]
        have := SY.out.le
        rw [List.length_append, hPl, hsv.out] at this
        exact this
      have g5 : (m : Int) ≤ (c3 : Int) := by omega
      replace hPl := Lib.hid hPl
      replace hM := Lib.hid hM
      replace v1 := Lib.hid v1
      replace v2 := Lib.hid v2
      have u1 := v1.out w3 (Below.refl _ _)
      have u2 := v2.out w3 (Below.refl _ _)
      go_wp2_with fail
      refine wp_region_held_drew (S := (fun W => (convert 22 9 (.slice A2 m c2)).run Tryd.prog W = .ok (.string (strB P)) W ∧ (convert 22 9 (.slice A3 m c3)).run Tryd.prog W = .ok (.string (strB P)) W)) (by kernel_rfl) ⟨v1.out _ (by first | exact (Below.refl _ _).drew.alloc (by simp) _ | exact (Below.refl _ _).alloc (by simp) _ | exact (Below.refl _ _).drew | exact Below.refl _ _), v2.out _ (by first | exact (Below.refl _ _).drew.alloc (by simp) _ | exact (Below.refl _ _).alloc (by simp) _ | exact (Below.refl _ _).drew | exact Below.refl _ _)⟩ ?_
      intro hHeld
      refine takeL7 0 78 (v := ?_) rfl rfl (by kernel_rfl) (by kernel_rfl) (by kernel_rfl) (fun _ _ _ h => h) (Or.inl ⟨by rfl, ?hy0⟩) hHeld ?rest0
      case hy0 =>
        intro W hS
        obtain ⟨hS1, hS2⟩ := hS
        (try dsimp only at hS1 hS2)
        go_simp
        try (with_reducible rfl)
      dsimp only [List.set]
      refine takeL7 1 79 (v := ?_) rfl rfl (by kernel_rfl) (by kernel_rfl) (by kernel_rfl) (fun _ _ _ h => h) (Or.inl ⟨by rfl, ?hy1⟩) hHeld ?rest1
      case hy1 =>
        intro W hS
        obtain ⟨hS1, hS2⟩ := hS
        (try dsimp only at hS1 hS2)
        go_simp
        try (with_reducible rfl)
      dsimp only [List.set]
      refine takeL7 2 80 (v := ?_) rfl rfl (by kernel_rfl) (by kernel_rfl) (by kernel_rfl) (fun _ _ _ h => h) (Or.inl ⟨by rfl, ?hy2⟩) hHeld ?rest2
      case hy2 =>
        intro W hS
        obtain ⟨hS1, hS2⟩ := hS
        (try dsimp only at hS1 hS2)
        go_simp
        try (with_reducible rfl)
      dsimp only [List.set]
      refine takeL7 3 81 (v := ?_) rfl rfl (by kernel_rfl) (by kernel_rfl) (by kernel_rfl) (fun _ _ _ h => h) (Or.inl ⟨by rfl, ?hy3⟩) hHeld ?rest3
      case hy3 =>
        intro W hS
        obtain ⟨hS1, hS2⟩ := hS
        (try dsimp only at hS1 hS2)
        go_simp
        try (with_reducible rfl)
      dsimp only [List.set]
      refine takeL7 4 82 (v := ?_) rfl rfl (by kernel_rfl) (by kernel_rfl) (by kernel_rfl) (fun _ _ _ h => h) (Or.inl ⟨by rfl, ?hy4⟩) hHeld ?rest4
      case hy4 =>
        intro W hS
        obtain ⟨hS1, hS2⟩ := hS
        (try dsimp only at hS1 hS2)
        go_simp
        try (with_reducible rfl)
      dsimp only [List.set]
      refine takeL7 5 83 (v := ?_) rfl rfl (by kernel_rfl) (by kernel_rfl) (by kernel_rfl) (fun _ _ _ h => h) (Or.inl ⟨by rfl, ?hy5⟩) hHeld ?rest5
      case hy5 =>
        intro W hS
        obtain ⟨hS1, hS2⟩ := hS
        (try dsimp only at hS1 hS2)
        go_simp
        try (with_reducible rfl)
      dsimp only [List.set]
      refine takeL7 6 84 (v := ?_) rfl rfl (by kernel_rfl) (by kernel_rfl) (by kernel_rfl) (fun _ _ _ h => h) (Or.inl ⟨by rfl, ?hy6⟩) hHeld ?rest6
      case hy6 =>
        intro W hS
        obtain ⟨hS1, hS2⟩ := hS
        (try dsimp only at hS1 hS2)
        go_simp
        try (with_reducible rfl)
      dsimp only [List.set]
      refine takeL7 7 85 (v := ?_) rfl rfl (by kernel_rfl) (by kernel_rfl) (by kernel_rfl) (fun _ _ _ h => h) (Or.inl ⟨by rfl, ?hy7⟩) hHeld ?rest7
      case hy7 =>
        intro W hS
        obtain ⟨hS1, hS2⟩ := hS
        (try dsimp only at hS1 hS2)
        go_simp
        try (with_reducible rfl)
      dsimp only [List.set]
      refine takeL7 8 86 (v := ?_) rfl rfl (by kernel_rfl) (by kernel_rfl) (by kernel_rfl) (fun _ _ _ h => h) (Or.inl ⟨by rfl, ?hy8⟩) hHeld ?rest8
      case hy8 =>
        intro W hS
        obtain ⟨hS1, hS2⟩ := hS
        (try dsimp only at hS1 hS2)
        go_simp
        try (with_reducible rfl)
      dsimp only [List.set]
      refine takeL7 9 87 (v := ?_) rfl rfl (by kernel_rfl) (by kernel_rfl) (by kernel_rfl) (fun _ _ _ h => h) (Or.inl ⟨by rfl, ?hy9⟩) hHeld ?rest9
      case hy9 =>
        intro W hS
        obtain ⟨hS1, hS2⟩ := hS
        (try dsimp only at hS1 hS2)
        go_simp
        try (with_reducible rfl)
      dsimp only [List.set]
      refine takeL7 10 88 (v := ?_) rfl rfl (by kernel_rfl) (by kernel_rfl) (by kernel_rfl) (fun _ _ _ h => h) (Or.inl ⟨by rfl, ?hy10⟩) hHeld ?rest10
      case hy10 =>
        intro W hS
        obtain ⟨hS1, hS2⟩ := hS
        (try dsimp only at hS1 hS2)
        go_simp
        try (with_reducible rfl)
      dsimp only [List.set]
      refine takeL7 11 89 (v := ?_) rfl rfl (by kernel_rfl) (by kernel_rfl) (by kernel_rfl) (fun _ _ _ h => h) (Or.inl ⟨by rfl, ?hy11⟩) hHeld ?rest11
      case hy11 =>
        intro W hS
        obtain ⟨hS1, hS2⟩ := hS
        (try dsimp only at hS1 hS2)
        go_simp
        try (with_reducible rfl)
      dsimp only [List.set]
      refine takeL7 12 90 (v := ?_) rfl rfl (by kernel_rfl) (by kernel_rfl) (by kernel_rfl) (fun _ _ _ h => h) (Or.inl ⟨by rfl, ?hy12⟩) hHeld ?rest12
      case hy12 =>
        intro W hS
        obtain ⟨hS1, hS2⟩ := hS
        (try dsimp only at hS1 hS2)
        go_simp
        try (with_reducible rfl)
      dsimp only [List.set]
      refine takeL7 13 91 (v := ?_) rfl rfl (by kernel_rfl) (by kernel_rfl) (by kernel_rfl) (fun _ _ _ h => h) (Or.inl ⟨by rfl, ?hy13⟩) hHeld ?rest13
      case hy13 =>
        intro W hS
        obtain ⟨hS1, hS2⟩ := hS
        (try dsimp only at hS1 hS2)
        go_simp
        try (with_reducible rfl)
      dsimp only [List.set]
      refine takeL7 14 92 (v := ?_) rfl rfl (by kernel_rfl) (by kernel_rfl) (by kernel_rfl) (fun _ _ _ h => h) (Or.inl ⟨by rfl, ?hy14⟩) hHeld ?rest14
      case hy14 =>
        intro W hS
        obtain ⟨hS1, hS2⟩ := hS
        (try dsimp only at hS1 hS2)
        go_simp
        try (with_reducible rfl)
      dsimp only [List.set]
      refine takeL7 15 93 (v := ?_) rfl rfl (by kernel_rfl) (by kernel_rfl) (by kernel_rfl) (fun _ _ _ h => h) (Or.inl ⟨by rfl, ?hy15⟩) hHeld ?rest15
      case hy15 =>
        intro W hS
        obtain ⟨hS1, hS2⟩ := hS
        (try dsimp only at hS1 hS2)
        go_simp
        try (with_reducible rfl)
      dsimp only [List.set]
      refine takeL7 16 94 (v := ?_) rfl rfl (by kernel_rfl) (by kernel_rfl) (by kernel_rfl) (fun _ _ _ h => h) (Or.inl ⟨by rfl, ?hy16⟩) hHeld ?rest16
      case hy16 =>
        intro W hS
        obtain ⟨hS1, hS2⟩ := hS
        (try dsimp only at hS1 hS2)
        go_simp
        try (with_reducible rfl)
      dsimp only [List.set]
      refine takeL7 17 95 (v := ?_) rfl rfl (by kernel_rfl) (by kernel_rfl) (by kernel_rfl) (fun _ _ _ h => h) (Or.inl ⟨by rfl, ?hy17⟩) hHeld ?rest17
      case hy17 =>
        intro W hS
        obtain ⟨hS1, hS2⟩ := hS
        (try dsimp only at hS1 hS2)
        go_simp
        try (with_reducible rfl)
      dsimp only [List.set]
      refine takeL7 18 96 (v := ?_) rfl rfl (by kernel_rfl) (by kernel_rfl) (by kernel_rfl) (fun _ _ _ h => h) (Or.inl ⟨by rfl, ?hy18⟩) hHeld ?rest18
      case hy18 =>
        intro W hS
        obtain ⟨hS1, hS2⟩ := hS
        (try dsimp only at hS1 hS2)
        go_simp
        try (with_reducible rfl)
      dsimp only [List.set]
      refine takeL7 19 97 (v := ?_) rfl rfl (by kernel_rfl) (by kernel_rfl) (by kernel_rfl) (fun _ _ _ h => h) (Or.inl ⟨by rfl, ?hy19⟩) hHeld ?rest19
      case hy19 =>
        intro W hS
        obtain ⟨hS1, hS2⟩ := hS
        (try dsimp only at hS1 hS2)
        go_simp
        try (with_reducible rfl)
      dsimp only [List.set]
      refine takeL7 20 98 (v := ?_) rfl rfl (by kernel_rfl) (by kernel_rfl) (by kernel_rfl) (fun _ _ _ h => h) (Or.inl ⟨by rfl, ?hy20⟩) hHeld ?rest20
      case hy20 =>
        intro W hS
        obtain ⟨hS1, hS2⟩ := hS
        (try dsimp only at hS1 hS2)
        go_simp
        try (with_reducible rfl)
      dsimp only [List.set]
      refine takeL7 21 99 (v := ?_) rfl rfl (by kernel_rfl) (by kernel_rfl) (by kernel_rfl) (fun _ _ _ h => h) (Or.inl ⟨by rfl, ?hy21⟩) hHeld ?rest21
      case hy21 =>
        intro W hS
        obtain ⟨hS1, hS2⟩ := hS
        (try dsimp only at hS1 hS2)
        go_simp
        try (with_reducible rfl)
      dsimp only [List.set]
      refine takeL7 22 100 (v := ?_) rfl rfl (by kernel_rfl) (by kernel_rfl) (by kernel_rfl) (fun _ _ _ h => h) (Or.inl ⟨by rfl, ?hy22⟩) hHeld ?rest22
      case hy22 =>
        intro W hS
        obtain ⟨hS1, hS2⟩ := hS
        (try dsimp only at hS1 hS2)
        go_simp
        try (with_reducible rfl)
      dsimp only [List.set]
      refine takeL7 23 101 (v := ?_) rfl rfl (by kernel_rfl) (by kernel_rfl) (by kernel_rfl) (fun _ _ _ h => h) (Or.inl ⟨by rfl, ?hy23⟩) hHeld ?rest23
      case hy23 =>
        intro W hS
        obtain ⟨hS1, hS2⟩ := hS
        (try dsimp only at hS1 hS2)
        go_simp
        try (with_reducible rfl)
      dsimp only [List.set]
      refine takeL7 25 103 (v := ?_) rfl rfl (by kernel_rfl) (by kernel_rfl) (by kernel_rfl) (fun _ _ _ h => h) (Or.inl ⟨by rfl, ?hy25⟩) hHeld ?rest25
      case hy25 =>
        intro W hS
        obtain ⟨hS1, hS2⟩ := hS
        (try dsimp only at hS1 hS2)
        go_simp
        try (with_reducible rfl)
      dsimp only [List.set]
      refine takeL7 26 104 (v := ?_) rfl rfl (by kernel_rfl) (by kernel_rfl) (by kernel_rfl) (fun _ _ _ h => h) (Or.inl ⟨by rfl, ?hy26⟩) hHeld ?rest26
      case hy26 =>
        intro W hS
        obtain ⟨hS1, hS2⟩ := hS
        (try dsimp only at hS1 hS2)
        go_simp
        try (with_reducible rfl)
      dsimp only [List.set]
      refine wpAnyH_ready (rs := [24]) (by kernel_rfl) (by simp) ?_
      refine AllReadyH.cons rfl (fun K hK => ?_) AllReadyH.nil
      go_simp
      refine hK.out _ _ ?_ (fun hHeld => ?_)
      · exact ⟨v1.out _ (by first | exact (Below.refl _ _).drew.alloc (by simp) _ | exact (Below.refl _ _).alloc (by simp) _ | exact (Below.refl _ _).drew | exact Below.refl _ _), v2.out _ (by first | exact (Below.refl _ _).drew.alloc (by simp) _ | exact (Below.refl _ _).alloc (by simp) _ | exact (Below.refl _ _).drew | exact Below.refl _ _)⟩
      clear hK K
      refine takeL7 27 105 (v := ?_) rfl rfl (by kernel_rfl) (by kernel_rfl) (by kernel_rfl) (fun _ _ _ h => h) (Or.inl ⟨by rfl, ?hy27⟩) hHeld ?rest27
      case hy27 =>
        intro W hS
        obtain ⟨hS1, hS2⟩ := hS
        (try dsimp only at hS1 hS2)
        go_simp
        try (with_reducible rfl)
      dsimp only [List.set]
      refine wpAnyH_ready (rs := [28]) (by kernel_rfl) (by simp) ?_
      refine AllReadyH.cons rfl (fun K hK => ?_) AllReadyH.nil
      go_simp
      refine hK.out _ _ ?_ (fun hHeld => ?_)
      · exact ⟨v1.out _ (by first | exact (Below.refl _ _).drew.alloc (by simp) _ | exact (Below.refl _ _).alloc (by simp) _ | exact (Below.refl _ _).drew | exact Below.refl _ _), v2.out _ (by first | exact (Below.refl _ _).drew.alloc (by simp) _ | exact (Below.refl _ _).alloc (by simp) _ | exact (Below.refl _ _).drew | exact Below.refl _ _)⟩
      clear hK K
      refine takeL7 29 107 (v := ?_) rfl rfl (by kernel_rfl) (by kernel_rfl) (by kernel_rfl) (fun _ _ _ h => h) (Or.inl ⟨by rfl, ?hy29⟩) hHeld ?rest29
      case hy29 =>
        intro W hS
        obtain ⟨hS1, hS2⟩ := hS
        (try dsimp only at hS1 hS2)
        go_simp
        try (with_reducible rfl)
      dsimp only [List.set]
      refine takeL7 30 108 (v := ?_) rfl rfl (by kernel_rfl) (by kernel_rfl) (by kernel_rfl) (fun _ _ _ h => h) (Or.inl ⟨by rfl, ?hy30⟩) hHeld ?rest30
      case hy30 =>
        intro W hS
        obtain ⟨hS1, hS2⟩ := hS
        (try dsimp only at hS1 hS2)
        go_simp
        try (with_reducible rfl)
      dsimp only [List.set]
      refine takeL7 31 109 (v := ?_) rfl rfl (by kernel_rfl) (by kernel_rfl) (by kernel_rfl) (fun _ _ _ h => h) (Or.inl ⟨by rfl, ?hy31⟩) hHeld ?rest31
      case hy31 =>
        intro W hS
        obtain ⟨hS1, hS2⟩ := hS
        (try dsimp only at hS1 hS2)
        go_simp
        try (with_reducible rfl)
      dsimp only [List.set]
      refine takeL7 32 4 (v := ?_) rfl rfl (by kernel_rfl) (by kernel_rfl) (by kernel_rfl) (fun _ _ _ h => h) (Or.inl ⟨by rfl, ?hy32⟩) hHeld ?rest32
      case hy32 =>
        intro W hS
        obtain ⟨hS1, hS2⟩ := hS
        (try dsimp only at hS1 hS2)
        go_simp
        try (with_reducible rfl)
      dsimp only [List.set]
      refine wpAnyH_done (by kernel_rfl) ?_ _
      go_wp2_with fail
      go_ret
      exact ⟨by rfl, (HB3.out.alloc HB3.out.size _).drew⟩

set_option maxRecDepth 8000 in
set_option maxHeartbeats 4000000 in
theorem longer7_1_full_cut (s x : ByteArray) (hx : s.extract 0 300 = x) (hbig : 300 < s.size) (hmax : s.size ≤ 9223372036854775807) (n : Int) (L : List Nat) (w0 : World) (H : Hid (OHyp w0)) (h : x.size ≤ 300) (h1 : arcsO x.data.toList = some L) (hj : bits .and .i64 n 3 = 1) (h16 : ¬ L.length < 16) :
    Calls Tryd.prog 7 #[.string s, .int .i64 n] w0 fun e w' => e = .returned (.bool true) ∧ Below w0.heap.size w0 w' := by
  have k0 : (300 : Int) < (s.size : Int) := by omega
  have k1 : (300 : Int) ≤ (s.size : Int) := by omega
  have HB0 := Lib.hid (Below.refl w0.heap.size w0)
  have C1 := fun w' hb => H.out.numeric x w' (by omega) hb
  have C2 := fun w' hb => H.out.put x w' (by omega) hb
  rw [h1] at C1
  rw [putO_some h1] at C2
  obtain ⟨y1, hy1⟩ : ∃ y1, x ++ ⟨#[46]⟩ = y1 := ⟨_, rfl⟩
  obtain ⟨y, hy⟩ : ∃ y, y1 ++ ⟨#[49, 50, 55]⟩ = y := ⟨_, rfl⟩
  have hyl : y.data.toList = x.data.toList ++ 46 :: decDigits 127 := by
    rw [← hy, ← hy1, ByteArray.data_append, Array.toList_append, ByteArray.data_append, Array.toList_append, List.append_assoc, dec_lens.2.1]
    rfl
  have hys1 : y1.size ≤ 301 := by rw [← hy1, ByteArray.size_append]; exact Nat.add_le_add h (Nat.le_refl 1)
  have hys : y.size ≤ 311 := by rw [← hy, ByteArray.size_append]; exact Nat.add_le_add hys1 (show 3 ≤ 10 by omega)
  have C3 := fun w' hb => H.out.put y w' (by omega) hb
  have hmore := arcsO_more h1 (n := 127) (by omega)
  have hcnt := arcsO_count h1
  have hl2 := (okA_len (valid_arcs h1).1)
  rw [if_neg h16] at hmore
  rw [hyl, putO_none hmore] at C3
  replace C3 : Hid (∀ w', Below w0.heap.size w0 w' → Calls Tryd.prog 8 #[.string y] w' fun e w'' => ∃ A c, e = .returned (.tuple #[.slice A 0 c, .int .i64 2]) ∧ Src w'' w''.heap.size A c [] ∧ Below w'.heap.size w' w'') := Lib.hid C3
  obtain ⟨P, hP⟩ : ∃ P, P = putA L := ⟨_, rfl⟩
  rw [← hP] at C2
  obtain ⟨m, hm⟩ : ∃ m, m = P.length := ⟨_, rfl⟩
  have hm1 : m ≤ 96 := by rw [hm, hP]; exact putA_len7 L (valid_arcs h1)
  replace C2 : Hid (∀ w', Below w0.heap.size w0 w' → Calls Tryd.prog 8 #[.string x] w' fun e w'' => ∃ A c, e = .returned (.tuple #[.slice A m c, .int .i64 0]) ∧ Src w'' w''.heap.size A c P ∧ Below w'.heap.size w' w'') := Lib.hid (by rw [hm]; exact C2)
  replace C1 : Hid (∀ w', Below w0.heap.size w0 w' → Calls Tryd.prog 12 #[.string x] w' fun e w'' => e = .returned (.bool true) ∧ Below w'.heap.size w' w'') := Lib.hid C1
  have hst : Hid (∀ k (h : k < x.size), (x.data.toList.take (k + 1)).countP (· == 46) = (x.data.toList.take k).countP (· == 46) + if x[k] = 46 then 1 else 0) := Lib.hid fun k h => by
    rw [take_snocO x k h, List.countP_append]
    by_cases e : x[k] = 46
    · rw [if_pos e, e]
      rfl
    · rw [if_neg e, List.countP_cons_of_neg (by simpa using e)]
      rfl
  have hend : x.data.toList.take x.size = x.data.toList := List.take_of_length_le (by simp)
  replace h1 := Lib.hid h1
  replace hyl := Lib.hid hyl
  replace hmore := Lib.hid hmore
  replace hP := Lib.hid hP
  replace hm := Lib.hid hm
  replace hcnt := Lib.hid hcnt
  replace hend := Lib.hid hend
  go_enter Tryd.func7, Tryd.ntmps7
  go_wp2_with fail
  refine (C1.out w0 HB0.out).mono ?_
  rintro _ w1 ⟨rfl, hb1⟩
  have HB1 := Lib.hid (below_next HB0.out (Nat.le_refl _) hb1)
  clear hb1
  dsimp only []
  go_wp2_with fail
  go_loop [5, 6] (fun dv iv => ∃ k d : Nat, k ≤ x.size ∧ d ≤ k ∧ iv = .int .i64 (k : Int) ∧ dv = .int .i64 (d : Int) ∧ Hid (d = (x.data.toList.take k).countP (· == 46))) (fun _ iv => x.size - (intOf iv).toNat)
  case atStart => exact ⟨0, 0, Nat.zero_le _, Nat.le_refl _, rfl, rfl, Lib.hid rfl⟩
  case round =>
    obtain ⟨k, d, hk, hd, rfl, rfl, HD⟩ := hrel
    by_cases hlt : k < x.size
    · have i0 : (0 : Int) ≤ (k : Int) := by omega
      have i1 : (k : Int) < (x.size : Int) := by omega
      have h5 := hst.out k hlt
      rw [← HD.out] at h5
      by_cases e : x[k] = 46
      · have kb : ((x[k].toNat : Int) == 46) = true := by rw [e]; rfl
        rw [if_pos e] at h5
        replace h5 := Lib.hid h5
        replace e := Lib.hid e
        go_wp2_with fail
        go_round
        case rel => exact ⟨k + 1, d + 1, by omega, by omega, by go_num, by go_num, Lib.hid h5.out.symm⟩
        case measure => simp [intOf]; omega
      · have kb : ((x[k].toNat : Int) == 46) = false := by
          rw [beq_eq_false_iff_ne]
          intro e2
          exact e (UInt8.toNat_inj.1 (by rw [show (46 : UInt8).toNat = 46 from rfl]; omega))
        rw [if_neg e] at h5
        replace h5 := Lib.hid h5
        replace e := Lib.hid e
        go_wp2_with fail
        go_round
        case rel => exact ⟨k + 1, d, by omega, by omega, by go_num, rfl, Lib.hid h5.out.symm⟩
        case measure => simp [intOf]; omega
    · have hkk : k = x.size := by omega
      subst hkk
      have hdl : d + 1 = L.length := by rw [HD.out, hend.out]; exact hcnt.out
      have d1 : ¬ ((d : Int) < 15) := by omega
      have d2 : decide ((d : Int) < 15) = false := decide_eq_false d1
      have i1 : ¬ ((x.size : Int) < (x.size : Int)) := by omega
      replace hdl := Lib.hid hdl
      have j1 : (0 : Int) ≤ bits .and .i64 n 3 := by rw [hj]; decide
      have j2 : bits .and .i64 n 3 < 4 := by rw [hj]; decide
      go_wp2_with fail
      have HBa := Lib.hid (HB1.out.alloc HB1.out.size (.cells #[.string ⟨#[48]⟩, .string ⟨#[49, 50, 55]⟩, .string ⟨#[49, 50, 56]⟩, .string ⟨#[57, 57, 57, 57, 57, 57, 57, 57, 57, 57]⟩] 9))
      refine (C2.out _ HBa.out).mono ?_
      rintro _ w2 ⟨A2, c2, rfl, SX, hb2⟩
      have HB2 := Lib.hid (below_next HBa.out (Nat.le_refl _) hb2)
      replace SX := Lib.hid SX
      clear hb2
      dsimp only []
      go_wp2_with fail
      refine (C3.out w2 HB2.out).mono ?_
      rintro _ w3 ⟨A3, c3, rfl, SY, hb3⟩
      have HB3 := Lib.hid (below_next HB2.out (Nat.le_refl _) hb3)
      replace SX := Lib.hid (SX.out.next hb3)
      replace SY := Lib.hid SY
      clear hb3
      dsimp only []
      go_wp2_with fail
      go_quiet (fail)
      go_wp2_with fail
      go_ret
      exact ⟨rfl, below_drewN7 HB3.out _⟩

set_option maxRecDepth 8000 in
set_option maxHeartbeats 4000000 in
theorem longer7_2_more_cut (s x : ByteArray) (hx : s.extract 0 300 = x) (hbig : 300 < s.size) (hmax : s.size ≤ 9223372036854775807) (n : Int) (L : List Nat) (w0 : World) (H : Hid (OHyp w0)) (h : x.size ≤ 300) (h1 : arcsO x.data.toList = some L) (hj : bits .and .i64 n 3 = 2) (h16 : L.length < 16) :
    Calls Tryd.prog 7 #[.string s, .int .i64 n] w0 fun e w' => e = .returned (.bool true) ∧ Below w0.heap.size w0 w' := by
  have k0 : (300 : Int) < (s.size : Int) := by omega
  have k1 : (300 : Int) ≤ (s.size : Int) := by omega
  have HB0 := Lib.hid (Below.refl w0.heap.size w0)
  have C1 := fun w' hb => H.out.numeric x w' (by omega) hb
  have C2 := fun w' hb => H.out.put x w' (by omega) hb
  rw [h1] at C1
  rw [putO_some h1] at C2
  obtain ⟨y1, hy1⟩ : ∃ y1, x ++ ⟨#[46]⟩ = y1 := ⟨_, rfl⟩
  obtain ⟨y, hy⟩ : ∃ y, y1 ++ ⟨#[49, 50, 56]⟩ = y := ⟨_, rfl⟩
  have hyl : y.data.toList = x.data.toList ++ 46 :: decDigits 128 := by
    rw [← hy, ← hy1, ByteArray.data_append, Array.toList_append, ByteArray.data_append, Array.toList_append, List.append_assoc, dec_lens.2.2.1]
    rfl
  have hys1 : y1.size ≤ 301 := by rw [← hy1, ByteArray.size_append]; exact Nat.add_le_add h (Nat.le_refl 1)
  have hys : y.size ≤ 311 := by rw [← hy, ByteArray.size_append]; exact Nat.add_le_add hys1 (show 3 ≤ 10 by omega)
  have C3 := fun w' hb => H.out.put y w' (by omega) hb
  have hmore := arcsO_more h1 (n := 128) (by omega)
  have hcnt := arcsO_count h1
  have hl2 := (okA_len (valid_arcs h1).1)
  rw [if_pos h16] at hmore
  rw [hyl, putO_some hmore, putA_more hl2.1] at C3
  have hsv : (sv 128).length = 2 := by decide +kernel
  obtain ⟨Y, hY⟩ : ∃ Y, Y = sv 128 := ⟨_, rfl⟩
  rw [← hY] at C3 hsv
  obtain ⟨P, hP⟩ : ∃ P, P = putA L := ⟨_, rfl⟩
  rw [← hP] at C2 C3
  obtain ⟨m, hm⟩ : ∃ m, m = P.length := ⟨_, rfl⟩
  have hm1 : m ≤ 96 := by rw [hm, hP]; exact putA_len7 L (valid_arcs h1)
  replace C2 : Hid (∀ w', Below w0.heap.size w0 w' → Calls Tryd.prog 8 #[.string x] w' fun e w'' => ∃ A c, e = .returned (.tuple #[.slice A m c, .int .i64 0]) ∧ Src w'' w''.heap.size A c P ∧ Below w'.heap.size w' w'') := Lib.hid (by rw [hm]; exact C2)
  replace C3 : Hid (∀ w', Below w0.heap.size w0 w' → Calls Tryd.prog 8 #[.string y] w' fun e w'' => ∃ A c, e = .returned (.tuple #[.slice A (m + 2) c, .int .i64 0]) ∧ Src w'' w''.heap.size A c (P ++ Y) ∧ Below w'.heap.size w' w'') := Lib.hid (by
    rw [hm, ← hsv, ← List.length_append]
    exact C3)
  replace hsv := Lib.hid hsv
  replace hY := Lib.hid hY
  replace C1 : Hid (∀ w', Below w0.heap.size w0 w' → Calls Tryd.prog 12 #[.string x] w' fun e w'' => e = .returned (.bool true) ∧ Below w'.heap.size w' w'') := Lib.hid C1
  have hst : Hid (∀ k (h : k < x.size), (x.data.toList.take (k + 1)).countP (· == 46) = (x.data.toList.take k).countP (· == 46) + if x[k] = 46 then 1 else 0) := Lib.hid fun k h => by
    rw [take_snocO x k h, List.countP_append]
    by_cases e : x[k] = 46
    · rw [if_pos e, e]
      rfl
    · rw [if_neg e, List.countP_cons_of_neg (by simpa using e)]
      rfl
  have hend : x.data.toList.take x.size = x.data.toList := List.take_of_length_le (by simp)
  replace h1 := Lib.hid h1
  replace hyl := Lib.hid hyl
  replace hmore := Lib.hid hmore
  replace hP := Lib.hid hP
  replace hm := Lib.hid hm
  replace hcnt := Lib.hid hcnt
  replace hend := Lib.hid hend
  go_enter Tryd.func7, Tryd.ntmps7
  go_wp2_with fail
  refine (C1.out w0 HB0.out).mono ?_
  rintro _ w1 ⟨rfl, hb1⟩
  have HB1 := Lib.hid (below_next HB0.out (Nat.le_refl _) hb1)
  clear hb1
  dsimp only []
  go_wp2_with fail
  go_loop [5, 6] (fun dv iv => ∃ k d : Nat, k ≤ x.size ∧ d ≤ k ∧ iv = .int .i64 (k : Int) ∧ dv = .int .i64 (d : Int) ∧ Hid (d = (x.data.toList.take k).countP (· == 46))) (fun _ iv => x.size - (intOf iv).toNat)
  case atStart => exact ⟨0, 0, Nat.zero_le _, Nat.le_refl _, rfl, rfl, Lib.hid rfl⟩
  case round =>
    obtain ⟨k, d, hk, hd, rfl, rfl, HD⟩ := hrel
    by_cases hlt : k < x.size
    · have i0 : (0 : Int) ≤ (k : Int) := by omega
      have i1 : (k : Int) < (x.size : Int) := by omega
      have h5 := hst.out k hlt
      rw [← HD.out] at h5
      by_cases e : x[k] = 46
      · have kb : ((x[k].toNat : Int) == 46) = true := by rw [e]; rfl
        rw [if_pos e] at h5
        replace h5 := Lib.hid h5
        replace e := Lib.hid e
        go_wp2_with fail
        go_round
        case rel => exact ⟨k + 1, d + 1, by omega, by omega, by go_num, by go_num, Lib.hid h5.out.symm⟩
        case measure => simp [intOf]; omega
      · have kb : ((x[k].toNat : Int) == 46) = false := by
          rw [beq_eq_false_iff_ne]
          intro e2
          exact e (UInt8.toNat_inj.1 (by rw [show (46 : UInt8).toNat = 46 from rfl]; omega))
        rw [if_neg e] at h5
        replace h5 := Lib.hid h5
        replace e := Lib.hid e
        go_wp2_with fail
        go_round
        case rel => exact ⟨k + 1, d, by omega, by omega, by go_num, rfl, Lib.hid h5.out.symm⟩
        case measure => simp [intOf]; omega
    · have hkk : k = x.size := by omega
      subst hkk
      have hdl : d + 1 = L.length := by rw [HD.out, hend.out]; exact hcnt.out
      have d1 : (d : Int) < 15 := by omega
      have d2 : decide ((d : Int) < 15) = true := decide_eq_true d1
      have i1 : ¬ ((x.size : Int) < (x.size : Int)) := by omega
      replace hdl := Lib.hid hdl
      have j1 : (0 : Int) ≤ bits .and .i64 n 3 := by rw [hj]; decide
      have j2 : bits .and .i64 n 3 < 4 := by rw [hj]; decide
      go_wp2_with fail
      have HBa := Lib.hid (HB1.out.alloc HB1.out.size (.cells #[.string ⟨#[48]⟩, .string ⟨#[49, 50, 55]⟩, .string ⟨#[49, 50, 56]⟩, .string ⟨#[57, 57, 57, 57, 57, 57, 57, 57, 57, 57]⟩] 9))
      refine (C2.out _ HBa.out).mono ?_
      rintro _ w2 ⟨A2, c2, rfl, SX, hb2⟩
      have HB2 := Lib.hid (below_next HBa.out (Nat.le_refl _) hb2)
      replace SX := Lib.hid SX
      clear hb2
      dsimp only []
      go_wp2_with fail
      refine (C3.out w2 HB2.out).mono ?_
      rintro _ w3 ⟨A3, c3, rfl, SY, hb3⟩
      have HB3 := Lib.hid (below_next HB2.out (Nat.le_refl _) hb3)
      replace SX := Lib.hid (SX.out.next hb3)
      replace SY := Lib.hid SY
      clear hb3
      dsimp only []
      have hPl : P.length = m := hm.out.symm
      have v1 : ∀ W, Below w3.heap.size w3 W → (convert 22 9 (.slice A2 m c2)).run Tryd.prog W = .ok (.string (strB P)) W := fun W hb => by have := (SX.out.below hb).conv; rwa [hPl] at this
      have v2 : ∀ W, Below w3.heap.size w3 W → (convert 22 9 (.slice A3 m c3)).run Tryd.prog W = .ok (.string (strB P)) W := fun W hb => by
        have := ((SY.out.below hb).take m).conv
        rw [List.take_append_of_le_length (by omega), ← hPl, List.take_length, hPl] at this
        exact this
      have e1 : ((strB P).toList == (strB P).toList) = true := by simp
      obtain ⟨M, hM⟩ : ∃ M, M = m + 2 := ⟨_, rfl⟩
      rw [← hM]
      have g1 : (m : Int) < (M : Int) := by omega
      have g1' : m < M := by omega
      have g2 : decide ((m : Int) < (M : Int)) = true := decide_eq_true g1
      have g2' : decide (m < M) = true := decide_eq_true g1'
      have g3 : (M : Int) - (m : Int) = 2 := by omega
      have g4 : IntKind.i64.wrap ((M : Int) - (m : Int)) = 2 := by rw [g3]; decide
      have hc3 : M ≤ c3 := by
        rw [hM]
        have := SY.out.le
        rw [List.length_append, hPl, hsv.out] at this
        exact this
      have g5 : (m : Int) ≤ (c3 : Int) := by omega
      replace hPl := Lib.hid hPl
      replace hM := Lib.hid hM
      replace v1 := Lib.hid v1
      replace v2 := Lib.hid v2
      have u1 := v1.out w3 (Below.refl _ _)
      have u2 := v2.out w3 (Below.refl _ _)
      go_wp2_with fail
      refine wp_region_held_drew (S := (fun W => (convert 22 9 (.slice A2 m c2)).run Tryd.prog W = .ok (.string (strB P)) W ∧ (convert 22 9 (.slice A3 m c3)).run Tryd.prog W = .ok (.string (strB P)) W)) (by kernel_rfl) ⟨v1.out _ (by first | exact (Below.refl _ _).drew.alloc (by simp) _ | exact (Below.refl _ _).alloc (by simp) _ | exact (Below.refl _ _).drew | exact Below.refl _ _), v2.out _ (by first | exact (Below.refl _ _).drew.alloc (by simp) _ | exact (Below.refl _ _).alloc (by simp) _ | exact (Below.refl _ _).drew | exact Below.refl _ _)⟩ ?_
      intro hHeld
      refine takeL7 0 78 (v := ?_) rfl rfl (by kernel_rfl) (by kernel_rfl) (by kernel_rfl) (fun _ _ _ h => h) (Or.inl ⟨by rfl, ?hy0⟩) hHeld ?rest0
      case hy0 =>
        intro W hS
        obtain ⟨hS1, hS2⟩ := hS
        (try dsimp only at hS1 hS2)
        go_simp
        try (with_reducible rfl)
      dsimp only [List.set]
      refine takeL7 1 79 (v := ?_) rfl rfl (by kernel_rfl) (by kernel_rfl) (by kernel_rfl) (fun _ _ _ h => h) (Or.inl ⟨by rfl, ?hy1⟩) hHeld ?rest1
      case hy1 =>
        intro W hS
        obtain ⟨hS1, hS2⟩ := hS
        (try dsimp only at hS1 hS2)
        go_simp
        try (with_reducible rfl)
      dsimp only [List.set]
      refine takeL7 2 80 (v := ?_) rfl rfl (by kernel_rfl) (by kernel_rfl) (by kernel_rfl) (fun _ _ _ h => h) (Or.inl ⟨by rfl, ?hy2⟩) hHeld ?rest2
      case hy2 =>
        intro W hS
        obtain ⟨hS1, hS2⟩ := hS
        (try dsimp only at hS1 hS2)
        go_simp
        try (with_reducible rfl)
      dsimp only [List.set]
      refine takeL7 3 81 (v := ?_) rfl rfl (by kernel_rfl) (by kernel_rfl) (by kernel_rfl) (fun _ _ _ h => h) (Or.inl ⟨by rfl, ?hy3⟩) hHeld ?rest3
      case hy3 =>
        intro W hS
        obtain ⟨hS1, hS2⟩ := hS
        (try dsimp only at hS1 hS2)
        go_simp
        try (with_reducible rfl)
      dsimp only [List.set]
      refine takeL7 4 82 (v := ?_) rfl rfl (by kernel_rfl) (by kernel_rfl) (by kernel_rfl) (fun _ _ _ h => h) (Or.inl ⟨by rfl, ?hy4⟩) hHeld ?rest4
      case hy4 =>
        intro W hS
        obtain ⟨hS1, hS2⟩ := hS
        (try dsimp only at hS1 hS2)
        go_simp
        try (with_reducible rfl)
      dsimp only [List.set]
      refine takeL7 5 83 (v := ?_) rfl rfl (by kernel_rfl) (by kernel_rfl) (by kernel_rfl) (fun _ _ _ h => h) (Or.inl ⟨by rfl, ?hy5⟩) hHeld ?rest5
      case hy5 =>
        intro W hS
        obtain ⟨hS1, hS2⟩ := hS
        (try dsimp only at hS1 hS2)
        go_simp
        try (with_reducible rfl)
      dsimp only [List.set]
      refine takeL7 6 84 (v := ?_) rfl rfl (by kernel_rfl) (by kernel_rfl) (by kernel_rfl) (fun _ _ _ h => h) (Or.inl ⟨by rfl, ?hy6⟩) hHeld ?rest6
      case hy6 =>
        intro W hS
        obtain ⟨hS1, hS2⟩ := hS
        (try dsimp only at hS1 hS2)
        go_simp
        try (with_reducible rfl)
      dsimp only [List.set]
      refine takeL7 7 85 (v := ?_) rfl rfl (by kernel_rfl) (by kernel_rfl) (by kernel_rfl) (fun _ _ _ h => h) (Or.inl ⟨by rfl, ?hy7⟩) hHeld ?rest7
      case hy7 =>
        intro W hS
        obtain ⟨hS1, hS2⟩ := hS
        (try dsimp only at hS1 hS2)
        go_simp
        try (with_reducible rfl)
      dsimp only [List.set]
      refine takeL7 8 86 (v := ?_) rfl rfl (by kernel_rfl) (by kernel_rfl) (by kernel_rfl) (fun _ _ _ h => h) (Or.inl ⟨by rfl, ?hy8⟩) hHeld ?rest8
      case hy8 =>
        intro W hS
        obtain ⟨hS1, hS2⟩ := hS
        (try dsimp only at hS1 hS2)
        go_simp
        try (with_reducible rfl)
      dsimp only [List.set]
      refine takeL7 9 87 (v := ?_) rfl rfl (by kernel_rfl) (by kernel_rfl) (by kernel_rfl) (fun _ _ _ h => h) (Or.inl ⟨by rfl, ?hy9⟩) hHeld ?rest9
      case hy9 =>
        intro W hS
        obtain ⟨hS1, hS2⟩ := hS
        (try dsimp only at hS1 hS2)
        go_simp
        try (with_reducible rfl)
      dsimp only [List.set]
      refine takeL7 10 88 (v := ?_) rfl rfl (by kernel_rfl) (by kernel_rfl) (by kernel_rfl) (fun _ _ _ h => h) (Or.inl ⟨by rfl, ?hy10⟩) hHeld ?rest10
      case hy10 =>
        intro W hS
        obtain ⟨hS1, hS2⟩ := hS
        (try dsimp only at hS1 hS2)
        go_simp
        try (with_reducible rfl)
      dsimp only [List.set]
      refine takeL7 11 89 (v := ?_) rfl rfl (by kernel_rfl) (by kernel_rfl) (by kernel_rfl) (fun _ _ _ h => h) (Or.inl ⟨by rfl, ?hy11⟩) hHeld ?rest11
      case hy11 =>
        intro W hS
        obtain ⟨hS1, hS2⟩ := hS
        (try dsimp only at hS1 hS2)
        go_simp
        try (with_reducible rfl)
      dsimp only [List.set]
      refine takeL7 12 90 (v := ?_) rfl rfl (by kernel_rfl) (by kernel_rfl) (by kernel_rfl) (fun _ _ _ h => h) (Or.inl ⟨by rfl, ?hy12⟩) hHeld ?rest12
      case hy12 =>
        intro W hS
        obtain ⟨hS1, hS2⟩ := hS
        (try dsimp only at hS1 hS2)
        go_simp
        try (with_reducible rfl)
      dsimp only [List.set]
      refine takeL7 13 91 (v := ?_) rfl rfl (by kernel_rfl) (by kernel_rfl) (by kernel_rfl) (fun _ _ _ h => h) (Or.inl ⟨by rfl, ?hy13⟩) hHeld ?rest13
      case hy13 =>
        intro W hS
        obtain ⟨hS1, hS2⟩ := hS
        (try dsimp only at hS1 hS2)
        go_simp
        try (with_reducible rfl)
      dsimp only [List.set]
      refine takeL7 14 92 (v := ?_) rfl rfl (by kernel_rfl) (by kernel_rfl) (by kernel_rfl) (fun _ _ _ h => h) (Or.inl ⟨by rfl, ?hy14⟩) hHeld ?rest14
      case hy14 =>
        intro W hS
        obtain ⟨hS1, hS2⟩ := hS
        (try dsimp only at hS1 hS2)
        go_simp
        try (with_reducible rfl)
      dsimp only [List.set]
      refine takeL7 15 93 (v := ?_) rfl rfl (by kernel_rfl) (by kernel_rfl) (by kernel_rfl) (fun _ _ _ h => h) (Or.inl ⟨by rfl, ?hy15⟩) hHeld ?rest15
      case hy15 =>
        intro W hS
        obtain ⟨hS1, hS2⟩ := hS
        (try dsimp only at hS1 hS2)
        go_simp
        try (with_reducible rfl)
      dsimp only [List.set]
      refine takeL7 16 94 (v := ?_) rfl rfl (by kernel_rfl) (by kernel_rfl) (by kernel_rfl) (fun _ _ _ h => h) (Or.inl ⟨by rfl, ?hy16⟩) hHeld ?rest16
      case hy16 =>
        intro W hS
        obtain ⟨hS1, hS2⟩ := hS
        (try dsimp only at hS1 hS2)
        go_simp
        try (with_reducible rfl)
      dsimp only [List.set]
      refine takeL7 17 95 (v := ?_) rfl rfl (by kernel_rfl) (by kernel_rfl) (by kernel_rfl) (fun _ _ _ h => h) (Or.inl ⟨by rfl, ?hy17⟩) hHeld ?rest17
      case hy17 =>
        intro W hS
        obtain ⟨hS1, hS2⟩ := hS
        (try dsimp only at hS1 hS2)
        go_simp
        try (with_reducible rfl)
      dsimp only [List.set]
      refine takeL7 18 96 (v := ?_) rfl rfl (by kernel_rfl) (by kernel_rfl) (by kernel_rfl) (fun _ _ _ h => h) (Or.inl ⟨by rfl, ?hy18⟩) hHeld ?rest18
      case hy18 =>
        intro W hS
        obtain ⟨hS1, hS2⟩ := hS
        (try dsimp only at hS1 hS2)
        go_simp
        try (with_reducible rfl)
      dsimp only [List.set]
      refine takeL7 19 97 (v := ?_) rfl rfl (by kernel_rfl) (by kernel_rfl) (by kernel_rfl) (fun _ _ _ h => h) (Or.inl ⟨by rfl, ?hy19⟩) hHeld ?rest19
      case hy19 =>
        intro W hS
        obtain ⟨hS1, hS2⟩ := hS
        (try dsimp only at hS1 hS2)
        go_simp
        try (with_reducible rfl)
      dsimp only [List.set]
      refine takeL7 20 98 (v := ?_) rfl rfl (by kernel_rfl) (by kernel_rfl) (by kernel_rfl) (fun _ _ _ h => h) (Or.inl ⟨by rfl, ?hy20⟩) hHeld ?rest20
      case hy20 =>
        intro W hS
        obtain ⟨hS1, hS2⟩ := hS
        (try dsimp only at hS1 hS2)
        go_simp
        try (with_reducible rfl)
      dsimp only [List.set]
      refine takeL7 21 99 (v := ?_) rfl rfl (by kernel_rfl) (by kernel_rfl) (by kernel_rfl) (fun _ _ _ h => h) (Or.inl ⟨by rfl, ?hy21⟩) hHeld ?rest21
      case hy21 =>
        intro W hS
        obtain ⟨hS1, hS2⟩ := hS
        (try dsimp only at hS1 hS2)
        go_simp
        try (with_reducible rfl)
      dsimp only [List.set]
      refine takeL7 22 100 (v := ?_) rfl rfl (by kernel_rfl) (by kernel_rfl) (by kernel_rfl) (fun _ _ _ h => h) (Or.inl ⟨by rfl, ?hy22⟩) hHeld ?rest22
      case hy22 =>
        intro W hS
        obtain ⟨hS1, hS2⟩ := hS
        (try dsimp only at hS1 hS2)
        go_simp
        try (with_reducible rfl)
      dsimp only [List.set]
      refine takeL7 23 101 (v := ?_) rfl rfl (by kernel_rfl) (by kernel_rfl) (by kernel_rfl) (fun _ _ _ h => h) (Or.inl ⟨by rfl, ?hy23⟩) hHeld ?rest23
      case hy23 =>
        intro W hS
        obtain ⟨hS1, hS2⟩ := hS
        (try dsimp only at hS1 hS2)
        go_simp
        try (with_reducible rfl)
      dsimp only [List.set]
      refine takeL7 25 103 (v := ?_) rfl rfl (by kernel_rfl) (by kernel_rfl) (by kernel_rfl) (fun _ _ _ h => h) (Or.inl ⟨by rfl, ?hy25⟩) hHeld ?rest25
      case hy25 =>
        intro W hS
        obtain ⟨hS1, hS2⟩ := hS
        (try dsimp only at hS1 hS2)
        go_simp
        try (with_reducible rfl)
      dsimp only [List.set]
      refine takeL7 26 104 (v := ?_) rfl rfl (by kernel_rfl) (by kernel_rfl) (by kernel_rfl) (fun _ _ _ h => h) (Or.inl ⟨by rfl, ?hy26⟩) hHeld ?rest26
      case hy26 =>
        intro W hS
        obtain ⟨hS1, hS2⟩ := hS
        (try dsimp only at hS1 hS2)
        go_simp
        try (with_reducible rfl)
      dsimp only [List.set]
      refine wpAnyH_ready (rs := [24]) (by kernel_rfl) (by simp) ?_
      refine AllReadyH.cons rfl (fun K hK => ?_) AllReadyH.nil
      go_simp
      refine hK.out _ _ ?_ (fun hHeld => ?_)
      · exact ⟨v1.out _ (by first | exact (Below.refl _ _).drew.alloc (by simp) _ | exact (Below.refl _ _).alloc (by simp) _ | exact (Below.refl _ _).drew | exact Below.refl _ _), v2.out _ (by first | exact (Below.refl _ _).drew.alloc (by simp) _ | exact (Below.refl _ _).alloc (by simp) _ | exact (Below.refl _ _).drew | exact Below.refl _ _)⟩
      clear hK K
      refine takeL7 27 105 (v := ?_) rfl rfl (by kernel_rfl) (by kernel_rfl) (by kernel_rfl) (fun _ _ _ h => h) (Or.inl ⟨by rfl, ?hy27⟩) hHeld ?rest27
      case hy27 =>
        intro W hS
        obtain ⟨hS1, hS2⟩ := hS
        (try dsimp only at hS1 hS2)
        go_simp
        try (with_reducible rfl)
      dsimp only [List.set]
      refine wpAnyH_ready (rs := [28]) (by kernel_rfl) (by simp) ?_
      refine AllReadyH.cons rfl (fun K hK => ?_) AllReadyH.nil
      go_simp
      refine hK.out _ _ ?_ (fun hHeld => ?_)
      · exact ⟨v1.out _ (by first | exact (Below.refl _ _).drew.alloc (by simp) _ | exact (Below.refl _ _).alloc (by simp) _ | exact (Below.refl _ _).drew | exact Below.refl _ _), v2.out _ (by first | exact (Below.refl _ _).drew.alloc (by simp) _ | exact (Below.refl _ _).alloc (by simp) _ | exact (Below.refl _ _).drew | exact Below.refl _ _)⟩
      clear hK K
      refine takeL7 29 107 (v := ?_) rfl rfl (by kernel_rfl) (by kernel_rfl) (by kernel_rfl) (fun _ _ _ h => h) (Or.inl ⟨by rfl, ?hy29⟩) hHeld ?rest29
      case hy29 =>
        intro W hS
        obtain ⟨hS1, hS2⟩ := hS
        (try dsimp only at hS1 hS2)
        go_simp
        try (with_reducible rfl)
      dsimp only [List.set]
      refine takeL7 30 108 (v := ?_) rfl rfl (by kernel_rfl) (by kernel_rfl) (by kernel_rfl) (fun _ _ _ h => h) (Or.inl ⟨by rfl, ?hy30⟩) hHeld ?rest30
      case hy30 =>
        intro W hS
        obtain ⟨hS1, hS2⟩ := hS
        (try dsimp only at hS1 hS2)
        go_simp
        try (with_reducible rfl)
      dsimp only [List.set]
      refine takeL7 31 109 (v := ?_) rfl rfl (by kernel_rfl) (by kernel_rfl) (by kernel_rfl) (fun _ _ _ h => h) (Or.inl ⟨by rfl, ?hy31⟩) hHeld ?rest31
      case hy31 =>
        intro W hS
        obtain ⟨hS1, hS2⟩ := hS
        (try dsimp only at hS1 hS2)
        go_simp
        try (with_reducible rfl)
      dsimp only [List.set]
      refine takeL7 32 4 (v := ?_) rfl rfl (by kernel_rfl) (by kernel_rfl) (by kernel_rfl) (fun _ _ _ h => h) (Or.inl ⟨by rfl, ?hy32⟩) hHeld ?rest32
      case hy32 =>
        intro W hS
        obtain ⟨hS1, hS2⟩ := hS
        (try dsimp only at hS1 hS2)
        go_simp
        try (with_reducible rfl)
      dsimp only [List.set]
      refine wpAnyH_done (by kernel_rfl) ?_ _
      go_wp2_with fail
      go_ret
      exact ⟨by rfl, (HB3.out.alloc HB3.out.size _).drew⟩

set_option maxRecDepth 8000 in
set_option maxHeartbeats 4000000 in
theorem longer7_2_full_cut (s x : ByteArray) (hx : s.extract 0 300 = x) (hbig : 300 < s.size) (hmax : s.size ≤ 9223372036854775807) (n : Int) (L : List Nat) (w0 : World) (H : Hid (OHyp w0)) (h : x.size ≤ 300) (h1 : arcsO x.data.toList = some L) (hj : bits .and .i64 n 3 = 2) (h16 : ¬ L.length < 16) :
    Calls Tryd.prog 7 #[.string s, .int .i64 n] w0 fun e w' => e = .returned (.bool true) ∧ Below w0.heap.size w0 w' := by
  have k0 : (300 : Int) < (s.size : Int) := by omega
  have k1 : (300 : Int) ≤ (s.size : Int) := by omega
  have HB0 := Lib.hid (Below.refl w0.heap.size w0)
  have C1 := fun w' hb => H.out.numeric x w' (by omega) hb
  have C2 := fun w' hb => H.out.put x w' (by omega) hb
  rw [h1] at C1
  rw [putO_some h1] at C2
  obtain ⟨y1, hy1⟩ : ∃ y1, x ++ ⟨#[46]⟩ = y1 := ⟨_, rfl⟩
  obtain ⟨y, hy⟩ : ∃ y, y1 ++ ⟨#[49, 50, 56]⟩ = y := ⟨_, rfl⟩
  have hyl : y.data.toList = x.data.toList ++ 46 :: decDigits 128 := by
    rw [← hy, ← hy1, ByteArray.data_append, Array.toList_append, ByteArray.data_append, Array.toList_append, List.append_assoc, dec_lens.2.2.1]
    rfl
  have hys1 : y1.size ≤ 301 := by rw [← hy1, ByteArray.size_append]; exact Nat.add_le_add h (Nat.le_refl 1)
  have hys : y.size ≤ 311 := by rw [← hy, ByteArray.size_append]; exact Nat.add_le_add hys1 (show 3 ≤ 10 by omega)
  have C3 := fun w' hb => H.out.put y w' (by omega) hb
  have hmore := arcsO_more h1 (n := 128) (by omega)
  have hcnt := arcsO_count h1
  have hl2 := (okA_len (valid_arcs h1).1)
  rw [if_neg h16] at hmore
  rw [hyl, putO_none hmore] at C3
  replace C3 : Hid (∀ w', Below w0.heap.size w0 w' → Calls Tryd.prog 8 #[.string y] w' fun e w'' => ∃ A c, e = .returned (.tuple #[.slice A 0 c, .int .i64 2]) ∧ Src w'' w''.heap.size A c [] ∧ Below w'.heap.size w' w'') := Lib.hid C3
  obtain ⟨P, hP⟩ : ∃ P, P = putA L := ⟨_, rfl⟩
  rw [← hP] at C2
  obtain ⟨m, hm⟩ : ∃ m, m = P.length := ⟨_, rfl⟩
  have hm1 : m ≤ 96 := by rw [hm, hP]; exact putA_len7 L (valid_arcs h1)
  replace C2 : Hid (∀ w', Below w0.heap.size w0 w' → Calls Tryd.prog 8 #[.string x] w' fun e w'' => ∃ A c, e = .returned (.tuple #[.slice A m c, .int .i64 0]) ∧ Src w'' w''.heap.size A c P ∧ Below w'.heap.size w' w'') := Lib.hid (by rw [hm]; exact C2)
  replace C1 : Hid (∀ w', Below w0.heap.size w0 w' → Calls Tryd.prog 12 #[.string x] w' fun e w'' => e = .returned (.bool true) ∧ Below w'.heap.size w' w'') := Lib.hid C1
  have hst : Hid (∀ k (h : k < x.size), (x.data.toList.take (k + 1)).countP (· == 46) = (x.data.toList.take k).countP (· == 46) + if x[k] = 46 then 1 else 0) := Lib.hid fun k h => by
    rw [take_snocO x k h, List.countP_append]
    by_cases e : x[k] = 46
    · rw [if_pos e, e]
      rfl
    · rw [if_neg e, List.countP_cons_of_neg (by simpa using e)]
      rfl
  have hend : x.data.toList.take x.size = x.data.toList := List.take_of_length_le (by simp)
  replace h1 := Lib.hid h1
  replace hyl := Lib.hid hyl
  replace hmore := Lib.hid hmore
  replace hP := Lib.hid hP
  replace hm := Lib.hid hm
  replace hcnt := Lib.hid hcnt
  replace hend := Lib.hid hend
  go_enter Tryd.func7, Tryd.ntmps7
  go_wp2_with fail
  refine (C1.out w0 HB0.out).mono ?_
  rintro _ w1 ⟨rfl, hb1⟩
  have HB1 := Lib.hid (below_next HB0.out (Nat.le_refl _) hb1)
  clear hb1
  dsimp only []
  go_wp2_with fail
  go_loop [5, 6] (fun dv iv => ∃ k d : Nat, k ≤ x.size ∧ d ≤ k ∧ iv = .int .i64 (k : Int) ∧ dv = .int .i64 (d : Int) ∧ Hid (d = (x.data.toList.take k).countP (· == 46))) (fun _ iv => x.size - (intOf iv).toNat)
  case atStart => exact ⟨0, 0, Nat.zero_le _, Nat.le_refl _, rfl, rfl, Lib.hid rfl⟩
  case round =>
    obtain ⟨k, d, hk, hd, rfl, rfl, HD⟩ := hrel
    by_cases hlt : k < x.size
    · have i0 : (0 : Int) ≤ (k : Int) := by omega
      have i1 : (k : Int) < (x.size : Int) := by omega
      have h5 := hst.out k hlt
      rw [← HD.out] at h5
      by_cases e : x[k] = 46
      · have kb : ((x[k].toNat : Int) == 46) = true := by rw [e]; rfl
        rw [if_pos e] at h5
        replace h5 := Lib.hid h5
        replace e := Lib.hid e
        go_wp2_with fail
        go_round
        case rel => exact ⟨k + 1, d + 1, by omega, by omega, by go_num, by go_num, Lib.hid h5.out.symm⟩
        case measure => simp [intOf]; omega
      · have kb : ((x[k].toNat : Int) == 46) = false := by
          rw [beq_eq_false_iff_ne]
          intro e2
          exact e (UInt8.toNat_inj.1 (by rw [show (46 : UInt8).toNat = 46 from rfl]; omega))
        rw [if_neg e] at h5
        replace h5 := Lib.hid h5
        replace e := Lib.hid e
        go_wp2_with fail
        go_round
        case rel => exact ⟨k + 1, d, by omega, by omega, by go_num, rfl, Lib.hid h5.out.symm⟩
        case measure => simp [intOf]; omega
    · have hkk : k = x.size := by omega
      subst hkk
      have hdl : d + 1 = L.length := by rw [HD.out, hend.out]; exact hcnt.out
      have d1 : ¬ ((d : Int) < 15) := by omega
      have d2 : decide ((d : Int) < 15) = false := decide_eq_false d1
      have i1 : ¬ ((x.size : Int) < (x.size : Int)) := by omega
      replace hdl := Lib.hid hdl
      have j1 : (0 : Int) ≤ bits .and .i64 n 3 := by rw [hj]; decide
      have j2 : bits .and .i64 n 3 < 4 := by rw [hj]; decide
      go_wp2_with fail
      have HBa := Lib.hid (HB1.out.alloc HB1.out.size (.cells #[.string ⟨#[48]⟩, .string ⟨#[49, 50, 55]⟩, .string ⟨#[49, 50, 56]⟩, .string ⟨#[57, 57, 57, 57, 57, 57, 57, 57, 57, 57]⟩] 9))
      refine (C2.out _ HBa.out).mono ?_
      rintro _ w2 ⟨A2, c2, rfl, SX, hb2⟩
      have HB2 := Lib.hid (below_next HBa.out (Nat.le_refl _) hb2)
      replace SX := Lib.hid SX
      clear hb2
      dsimp only []
      go_wp2_with fail
      refine (C3.out w2 HB2.out).mono ?_
      rintro _ w3 ⟨A3, c3, rfl, SY, hb3⟩
      have HB3 := Lib.hid (below_next HB2.out (Nat.le_refl _) hb3)
      replace SX := Lib.hid (SX.out.next hb3)
      replace SY := Lib.hid SY
      clear hb3
      dsimp only []
      go_wp2_with fail
      go_quiet (fail)
      go_wp2_with fail
      go_ret
      exact ⟨rfl, below_drewN7 HB3.out _⟩

set_option maxRecDepth 8000 in
set_option maxHeartbeats 4000000 in
theorem longer7_3_more_cut (s x : ByteArray) (hx : s.extract 0 300 = x) (hbig : 300 < s.size) (hmax : s.size ≤ 9223372036854775807) (n : Int) (L : List Nat) (w0 : World) (H : Hid (OHyp w0)) (h : x.size ≤ 300) (h1 : arcsO x.data.toList = some L) (hj : bits .and .i64 n 3 = 3) (h16 : L.length < 16) :
    Calls Tryd.prog 7 #[.string s, .int .i64 n] w0 fun e w' => e = .returned (.bool true) ∧ Below w0.heap.size w0 w' := by
  have k0 : (300 : Int) < (s.size : Int) := by omega
  have k1 : (300 : Int) ≤ (s.size : Int) := by omega
  have HB0 := Lib.hid (Below.refl w0.heap.size w0)
  have C1 := fun w' hb => H.out.numeric x w' (by omega) hb
  have C2 := fun w' hb => H.out.put x w' (by omega) hb
  rw [h1] at C1
  rw [putO_some h1] at C2
  obtain ⟨y1, hy1⟩ : ∃ y1, x ++ ⟨#[46]⟩ = y1 := ⟨_, rfl⟩
  obtain ⟨y, hy⟩ : ∃ y, y1 ++ ⟨#[57, 57, 57, 57, 57, 57, 57, 57, 57, 57]⟩ = y := ⟨_, rfl⟩
  have hyl : y.data.toList = x.data.toList ++ 46 :: decDigits 9999999999 := by
    rw [← hy, ← hy1, ByteArray.data_append, Array.toList_append, ByteArray.data_append, Array.toList_append, List.append_assoc, dec_lens.2.2.2]
    rfl
  have hys1 : y1.size ≤ 301 := by rw [← hy1, ByteArray.size_append]; exact Nat.add_le_add h (Nat.le_refl 1)
  have hys : y.size ≤ 311 := by rw [← hy, ByteArray.size_append]; exact Nat.add_le_add hys1 (show 10 ≤ 10 by omega)
  have C3 := fun w' hb => H.out.put y w' (by omega) hb
  have hmore := arcsO_more h1 (n := 9999999999) (by omega)
  have hcnt := arcsO_count h1
  have hl2 := (okA_len (valid_arcs h1).1)
  rw [if_pos h16] at hmore
  rw [hyl, putO_some hmore, putA_more hl2.1] at C3
  have hsv : (sv 9999999999).length = 5 := by decide +kernel
  obtain ⟨Y, hY⟩ : ∃ Y, Y = sv 9999999999 := ⟨_, rfl⟩
  rw [← hY] at C3 hsv
  obtain ⟨P, hP⟩ : ∃ P, P = putA L := ⟨_, rfl⟩
  rw [← hP] at C2 C3
  obtain ⟨m, hm⟩ : ∃ m, m = P.length := ⟨_, rfl⟩
  have hm1 : m ≤ 96 := by rw [hm, hP]; exact putA_len7 L (valid_arcs h1)
  replace C2 : Hid (∀ w', Below w0.heap.size w0 w' → Calls Tryd.prog 8 #[.string x] w' fun e w'' => ∃ A c, e = .returned (.tuple #[.slice A m c, .int .i64 0]) ∧ Src w'' w''.heap.size A c P ∧ Below w'.heap.size w' w'') := Lib.hid (by rw [hm]; exact C2)
  replace C3 : Hid (∀ w', Below w0.heap.size w0 w' → Calls Tryd.prog 8 #[.string y] w' fun e w'' => ∃ A c, e = .returned (.tuple #[.slice A (m + 5) c, .int .i64 0]) ∧ Src w'' w''.heap.size A c (P ++ Y) ∧ Below w'.heap.size w' w'') := Lib.hid (by
    rw [hm, ← hsv, ← List.length_append]
    exact C3)
  replace hsv := Lib.hid hsv
  replace hY := Lib.hid hY
  replace C1 : Hid (∀ w', Below w0.heap.size w0 w' → Calls Tryd.prog 12 #[.string x] w' fun e w'' => e = .returned (.bool true) ∧ Below w'.heap.size w' w'') := Lib.hid C1
  have hst : Hid (∀ k (h : k < x.size), (x.data.toList.take (k + 1)).countP (· == 46) = (x.data.toList.take k).countP (· == 46) + if x[k] = 46 then 1 else 0) := Lib.hid fun k h => by
    rw [take_snocO x k h, List.countP_append]
    by_cases e : x[k] = 46
    · rw [if_pos e, e]
      rfl
    · rw [if_neg e, List.countP_cons_of_neg (by simpa using e)]
      rfl
  have hend : x.data.toList.take x.size = x.data.toList := List.take_of_length_le (by simp)
  replace h1 := Lib.hid h1
  replace hyl := Lib.hid hyl
  replace hmore := Lib.hid hmore
  replace hP := Lib.hid hP
  replace hm := Lib.hid hm
  replace hcnt := Lib.hid hcnt
  replace hend := Lib.hid hend
  go_enter Tryd.func7, Tryd.ntmps7
  go_wp2_with fail
  refine (C1.out w0 HB0.out).mono ?_
  rintro _ w1 ⟨rfl, hb1⟩
  have HB1 := Lib.hid (below_next HB0.out (Nat.le_refl _) hb1)
  clear hb1
  dsimp only []
  go_wp2_with fail
  go_loop [5, 6] (fun dv iv => ∃ k d : Nat, k ≤ x.size ∧ d ≤ k ∧ iv = .int .i64 (k : Int) ∧ dv = .int .i64 (d : Int) ∧ Hid (d = (x.data.toList.take k).countP (· == 46))) (fun _ iv => x.size - (intOf iv).toNat)
  case atStart => exact ⟨0, 0, Nat.zero_le _, Nat.le_refl _, rfl, rfl, Lib.hid rfl⟩
  case round =>
    obtain ⟨k, d, hk, hd, rfl, rfl, HD⟩ := hrel
    by_cases hlt : k < x.size
    · have i0 : (0 : Int) ≤ (k : Int) := by omega
      have i1 : (k : Int) < (x.size : Int) := by omega
      have h5 := hst.out k hlt
      rw [← HD.out] at h5
      by_cases e : x[k] = 46
      · have kb : ((x[k].toNat : Int) == 46) = true := by rw [e]; rfl
        rw [if_pos e] at h5
        replace h5 := Lib.hid h5
        replace e := Lib.hid e
        go_wp2_with fail
        go_round
        case rel => exact ⟨k + 1, d + 1, by omega, by omega, by go_num, by go_num, Lib.hid h5.out.symm⟩
        case measure => simp [intOf]; omega
      · have kb : ((x[k].toNat : Int) == 46) = false := by
          rw [beq_eq_false_iff_ne]
          intro e2
          exact e (UInt8.toNat_inj.1 (by rw [show (46 : UInt8).toNat = 46 from rfl]; omega))
        rw [if_neg e] at h5
        replace h5 := Lib.hid h5
        replace e := Lib.hid e
        go_wp2_with fail
        go_round
        case rel => exact ⟨k + 1, d, by omega, by omega, by go_num, rfl, Lib.hid h5.out.symm⟩
        case measure => simp [intOf]; omega
    · have hkk : k = x.size := by omega
      subst hkk
      have hdl : d + 1 = L.length := by rw [HD.out, hend.out]; exact hcnt.out
      have d1 : (d : Int) < 15 := by omega
      have d2 : decide ((d : Int) < 15) = true := decide_eq_true d1
      have i1 : ¬ ((x.size : Int) < (x.size : Int)) := by omega
      replace hdl := Lib.hid hdl
      have j1 : (0 : Int) ≤ bits .and .i64 n 3 := by rw [hj]; decide
      have j2 : bits .and .i64 n 3 < 4 := by rw [hj]; decide
      go_wp2_with fail
      have HBa := Lib.hid (HB1.out.alloc HB1.out.size (.cells #[.string ⟨#[48]⟩, .string ⟨#[49, 50, 55]⟩, .string ⟨#[49, 50, 56]⟩, .string ⟨#[57, 57, 57, 57, 57, 57, 57, 57, 57, 57]⟩] 9))
      refine (C2.out _ HBa.out).mono ?_
      rintro _ w2 ⟨A2, c2, rfl, SX, hb2⟩
      have HB2 := Lib.hid (below_next HBa.out (Nat.le_refl _) hb2)
      replace SX := Lib.hid SX
      clear hb2
      dsimp only []
      go_wp2_with fail
      refine (C3.out w2 HB2.out).mono ?_
      rintro _ w3 ⟨A3, c3, rfl, SY, hb3⟩
      have HB3 := Lib.hid (below_next HB2.out (Nat.le_refl _) hb3)
      replace SX := Lib.hid (SX.out.next hb3)
      replace SY := Lib.hid SY
      clear hb3
      dsimp only []
      have hPl : P.length = m := hm.out.symm
      have v1 : ∀ W, Below w3.heap.size w3 W → (convert 22 9 (.slice A2 m c2)).run Tryd.prog W = .ok (.string (strB P)) W := fun W hb => by have := (SX.out.below hb).conv; rwa [hPl] at this
      have v2 : ∀ W, Below w3.heap.size w3 W → (convert 22 9 (.slice A3 m c3)).run Tryd.prog W = .ok (.string (strB P)) W := fun W hb => by
        have := ((SY.out.below hb).take m).conv
        rw [List.take_append_of_le_length (by omega), ← hPl, List.take_length, hPl] at this
        exact this
      have e1 : ((strB P).toList == (strB P).toList) = true := by simp
      obtain ⟨M, hM⟩ : ∃ M, M = m + 5 := ⟨_, rfl⟩
      rw [← hM]
      have g1 : (m : Int) < (M : Int) := by omega
      have g1' : m < M := by omega
      have g2 : decide ((m : Int) < (M : Int)) = true := decide_eq_true g1
      have g2' : decide (m < M) = true := decide_eq_true g1'
      have g3 : (M : Int) - (m : Int) = 5 := by omega
      have g4 : IntKind.i64.wrap ((M : Int) - (m : Int)) = 5 := by rw [g3]; decide
      have hc3 : M ≤ c3 := by
        rw [hM]
        have := SY.out.le
        rw [List.length_append, hPl, hsv.out] at this
        exact this
      have g5 : (m : Int) ≤ (c3 : Int) := by omega
      replace hPl := Lib.hid hPl
      replace hM := Lib.hid hM
      replace v1 := Lib.hid v1
      replace v2 := Lib.hid v2
      have u1 := v1.out w3 (Below.refl _ _)
      have u2 := v2.out w3 (Below.refl _ _)
      go_wp2_with fail
      refine wp_region_held_drew (S := (fun W => (convert 22 9 (.slice A2 m c2)).run Tryd.prog W = .ok (.string (strB P)) W ∧ (convert 22 9 (.slice A3 m c3)).run Tryd.prog W = .ok (.string (strB P)) W)) (by kernel_rfl) ⟨v1.out _ (by first | exact (Below.refl _ _).drew.alloc (by simp) _ | exact (Below.refl _ _).alloc (by simp) _ | exact (Below.refl _ _).drew | exact Below.refl _ _), v2.out _ (by first | exact (Below.refl _ _).drew.alloc (by simp) _ | exact (Below.refl _ _).alloc (by simp) _ | exact (Below.refl _ _).drew | exact Below.refl _ _)⟩ ?_
      intro hHeld
      refine takeL7 0 78 (v := ?_) rfl rfl (by kernel_rfl) (by kernel_rfl) (by kernel_rfl) (fun _ _ _ h => h) (Or.inl ⟨by rfl, ?hy0⟩) hHeld ?rest0
      case hy0 =>
        intro W hS
        obtain ⟨hS1, hS2⟩ := hS
        (try dsimp only at hS1 hS2)
        go_simp
        try (with_reducible rfl)
      dsimp only [List.set]
      refine takeL7 1 79 (v := ?_) rfl rfl (by kernel_rfl) (by kernel_rfl) (by kernel_rfl) (fun _ _ _ h => h) (Or.inl ⟨by rfl, ?hy1⟩) hHeld ?rest1
      case hy1 =>
        intro W hS
        obtain ⟨hS1, hS2⟩ := hS
        (try dsimp only at hS1 hS2)
        go_simp
        try (with_reducible rfl)
      dsimp only [List.set]
      refine takeL7 2 80 (v := ?_) rfl rfl (by kernel_rfl) (by kernel_rfl) (by kernel_rfl) (fun _ _ _ h => h) (Or.inl ⟨by rfl, ?hy2⟩) hHeld ?rest2
      case hy2 =>
        intro W hS
        obtain ⟨hS1, hS2⟩ := hS
        (try dsimp only at hS1 hS2)
        go_simp
        try (with_reducible rfl)
      dsimp only [List.set]
      refine takeL7 3 81 (v := ?_) rfl rfl (by kernel_rfl) (by kernel_rfl) (by kernel_rfl) (fun _ _ _ h => h) (Or.inl ⟨by rfl, ?hy3⟩) hHeld ?rest3
      case hy3 =>
        intro W hS
        obtain ⟨hS1, hS2⟩ := hS
        (try dsimp only at hS1 hS2)
        go_simp
        try (with_reducible rfl)
      dsimp only [List.set]
      refine takeL7 4 82 (v := ?_) rfl rfl (by kernel_rfl) (by kernel_rfl) (by kernel_rfl) (fun _ _ _ h => h) (Or.inl ⟨by rfl, ?hy4⟩) hHeld ?rest4
      case hy4 =>
        intro W hS
        obtain ⟨hS1, hS2⟩ := hS
        (try dsimp only at hS1 hS2)
        go_simp
        try (with_reducible rfl)
      dsimp only [List.set]
      refine takeL7 5 83 (v := ?_) rfl rfl (by kernel_rfl) (by kernel_rfl) (by kernel_rfl) (fun _ _ _ h => h) (Or.inl ⟨by rfl, ?hy5⟩) hHeld ?rest5
      case hy5 =>
        intro W hS
        obtain ⟨hS1, hS2⟩ := hS
        (try dsimp only at hS1 hS2)
        go_simp
        try (with_reducible rfl)
      dsimp only [List.set]
      refine takeL7 6 84 (v := ?_) rfl rfl (by kernel_rfl) (by kernel_rfl) (by kernel_rfl) (fun _ _ _ h => h) (Or.inl ⟨by rfl, ?hy6⟩) hHeld ?rest6
      case hy6 =>
        intro W hS
        obtain ⟨hS1, hS2⟩ := hS
        (try dsimp only at hS1 hS2)
        go_simp
        try (with_reducible rfl)
      dsimp only [List.set]
      refine takeL7 7 85 (v := ?_) rfl rfl (by kernel_rfl) (by kernel_rfl) (by kernel_rfl) (fun _ _ _ h => h) (Or.inl ⟨by rfl, ?hy7⟩) hHeld ?rest7
      case hy7 =>
        intro W hS
        obtain ⟨hS1, hS2⟩ := hS
        (try dsimp only at hS1 hS2)
        go_simp
        try (with_reducible rfl)
      dsimp only [List.set]
      refine takeL7 8 86 (v := ?_) rfl rfl (by kernel_rfl) (by kernel_rfl) (by kernel_rfl) (fun _ _ _ h => h) (Or.inl ⟨by rfl, ?hy8⟩) hHeld ?rest8
      case hy8 =>
        intro W hS
        obtain ⟨hS1, hS2⟩ := hS
        (try dsimp only at hS1 hS2)
        go_simp
        try (with_reducible rfl)
      dsimp only [List.set]
      refine takeL7 9 87 (v := ?_) rfl rfl (by kernel_rfl) (by kernel_rfl) (by kernel_rfl) (fun _ _ _ h => h) (Or.inl ⟨by rfl, ?hy9⟩) hHeld ?rest9
      case hy9 =>
        intro W hS
        obtain ⟨hS1, hS2⟩ := hS
        (try dsimp only at hS1 hS2)
        go_simp
        try (with_reducible rfl)
      dsimp only [List.set]
      refine takeL7 10 88 (v := ?_) rfl rfl (by kernel_rfl) (by kernel_rfl) (by kernel_rfl) (fun _ _ _ h => h) (Or.inl ⟨by rfl, ?hy10⟩) hHeld ?rest10
      case hy10 =>
        intro W hS
        obtain ⟨hS1, hS2⟩ := hS
        (try dsimp only at hS1 hS2)
        go_simp
        try (with_reducible rfl)
      dsimp only [List.set]
      refine takeL7 11 89 (v := ?_) rfl rfl (by kernel_rfl) (by kernel_rfl) (by kernel_rfl) (fun _ _ _ h => h) (Or.inl ⟨by rfl, ?hy11⟩) hHeld ?rest11
      case hy11 =>
        intro W hS
        obtain ⟨hS1, hS2⟩ := hS
        (try dsimp only at hS1 hS2)
        go_simp
        try (with_reducible rfl)
      dsimp only [List.set]
      refine takeL7 12 90 (v := ?_) rfl rfl (by kernel_rfl) (by kernel_rfl) (by kernel_rfl) (fun _ _ _ h => h) (Or.inl ⟨by rfl, ?hy12⟩) hHeld ?rest12
      case hy12 =>
        intro W hS
        obtain ⟨hS1, hS2⟩ := hS
        (try dsimp only at hS1 hS2)
        go_simp
        try (with_reducible rfl)
      dsimp only [List.set]
      refine takeL7 13 91 (v := ?_) rfl rfl (by kernel_rfl) (by kernel_rfl) (by kernel_rfl) (fun _ _ _ h => h) (Or.inl ⟨by rfl, ?hy13⟩) hHeld ?rest13
      case hy13 =>
        intro W hS
        obtain ⟨hS1, hS2⟩ := hS
        (try dsimp only at hS1 hS2)
        go_simp
        try (with_reducible rfl)
      dsimp only [List.set]
      refine takeL7 14 92 (v := ?_) rfl rfl (by kernel_rfl) (by kernel_rfl) (by kernel_rfl) (fun _ _ _ h => h) (Or.inl ⟨by rfl, ?hy14⟩) hHeld ?rest14
      case hy14 =>
        intro W hS
        obtain ⟨hS1, hS2⟩ := hS
        (try dsimp only at hS1 hS2)
        go_simp
        try (with_reducible rfl)
      dsimp only [List.set]
      refine takeL7 15 93 (v := ?_) rfl rfl (by kernel_rfl) (by kernel_rfl) (by kernel_rfl) (fun _ _ _ h => h) (Or.inl ⟨by rfl, ?hy15⟩) hHeld ?rest15
      case hy15 =>
        intro W hS
        obtain ⟨hS1, hS2⟩ := hS
        (try dsimp only at hS1 hS2)
        go_simp
        try (with_reducible rfl)
      dsimp only [List.set]
      refine takeL7 16 94 (v := ?_) rfl rfl (by kernel_rfl) (by kernel_rfl) (by kernel_rfl) (fun _ _ _ h => h) (Or.inl ⟨by rfl, ?hy16⟩) hHeld ?rest16
      case hy16 =>
        intro W hS
        obtain ⟨hS1, hS2⟩ := hS
        (try dsimp only at hS1 hS2)
        go_simp
        try (with_reducible rfl)
      dsimp only [List.set]
      refine takeL7 17 95 (v := ?_) rfl rfl (by kernel_rfl) (by kernel_rfl) (by kernel_rfl) (fun _ _ _ h => h) (Or.inl ⟨by rfl, ?hy17⟩) hHeld ?rest17
      case hy17 =>
        intro W hS
        obtain ⟨hS1, hS2⟩ := hS
        (try dsimp only at hS1 hS2)
        go_simp
        try (with_reducible rfl)
      dsimp only [List.set]
      refine takeL7 18 96 (v := ?_) rfl rfl (by kernel_rfl) (by kernel_rfl) (by kernel_rfl) (fun _ _ _ h => h) (Or.inl ⟨by rfl, ?hy18⟩) hHeld ?rest18
      case hy18 =>
        intro W hS
        obtain ⟨hS1, hS2⟩ := hS
        (try dsimp only at hS1 hS2)
        go_simp
        try (with_reducible rfl)
      dsimp only [List.set]
      refine takeL7 19 97 (v := ?_) rfl rfl (by kernel_rfl) (by kernel_rfl) (by kernel_rfl) (fun _ _ _ h => h) (Or.inl ⟨by rfl, ?hy19⟩) hHeld ?rest19
      case hy19 =>
        intro W hS
        obtain ⟨hS1, hS2⟩ := hS
        (try dsimp only at hS1 hS2)
        go_simp
        try (with_reducible rfl)
      dsimp only [List.set]
      refine takeL7 20 98 (v := ?_) rfl rfl (by kernel_rfl) (by kernel_rfl) (by kernel_rfl) (fun _ _ _ h => h) (Or.inl ⟨by rfl, ?hy20⟩) hHeld ?rest20
      case hy20 =>
        intro W hS
        obtain ⟨hS1, hS2⟩ := hS
        (try dsimp only at hS1 hS2)
        go_simp
        try (with_reducible rfl)
      dsimp only [List.set]
      refine takeL7 21 99 (v := ?_) rfl rfl (by kernel_rfl) (by kernel_rfl) (by kernel_rfl) (fun _ _ _ h => h) (Or.inl ⟨by rfl, ?hy21⟩) hHeld ?rest21
      case hy21 =>
        intro W hS
        obtain ⟨hS1, hS2⟩ := hS
        (try dsimp only at hS1 hS2)
        go_simp
        try (with_reducible rfl)
      dsimp only [List.set]
      refine takeL7 22 100 (v := ?_) rfl rfl (by kernel_rfl) (by kernel_rfl) (by kernel_rfl) (fun _ _ _ h => h) (Or.inl ⟨by rfl, ?hy22⟩) hHeld ?rest22
      case hy22 =>
        intro W hS
        obtain ⟨hS1, hS2⟩ := hS
        (try dsimp only at hS1 hS2)
        go_simp
        try (with_reducible rfl)
      dsimp only [List.set]
      refine takeL7 23 101 (v := ?_) rfl rfl (by kernel_rfl) (by kernel_rfl) (by kernel_rfl) (fun _ _ _ h => h) (Or.inl ⟨by rfl, ?hy23⟩) hHeld ?rest23
      case hy23 =>
        intro W hS
        obtain ⟨hS1, hS2⟩ := hS
        (try dsimp only at hS1 hS2)
        go_simp
        try (with_reducible rfl)
      dsimp only [List.set]
      refine takeL7 25 103 (v := ?_) rfl rfl (by kernel_rfl) (by kernel_rfl) (by kernel_rfl) (fun _ _ _ h => h) (Or.inl ⟨by rfl, ?hy25⟩) hHeld ?rest25
      case hy25 =>
        intro W hS
        obtain ⟨hS1, hS2⟩ := hS
        (try dsimp only at hS1 hS2)
        go_simp
        try (with_reducible rfl)
      dsimp only [List.set]
      refine takeL7 26 104 (v := ?_) rfl rfl (by kernel_rfl) (by kernel_rfl) (by kernel_rfl) (fun _ _ _ h => h) (Or.inl ⟨by rfl, ?hy26⟩) hHeld ?rest26
      case hy26 =>
        intro W hS
        obtain ⟨hS1, hS2⟩ := hS
        (try dsimp only at hS1 hS2)
        go_simp
        try (with_reducible rfl)
      dsimp only [List.set]
      refine wpAnyH_ready (rs := [24]) (by kernel_rfl) (by simp) ?_
      refine AllReadyH.cons rfl (fun K hK => ?_) AllReadyH.nil
      go_simp
      refine hK.out _ _ ?_ (fun hHeld => ?_)
      · exact ⟨v1.out _ (by first | exact (Below.refl _ _).drew.alloc (by simp) _ | exact (Below.refl _ _).alloc (by simp) _ | exact (Below.refl _ _).drew | exact Below.refl _ _), v2.out _ (by first | exact (Below.refl _ _).drew.alloc (by simp) _ | exact (Below.refl _ _).alloc (by simp) _ | exact (Below.refl _ _).drew | exact Below.refl _ _)⟩
      clear hK K
      refine takeL7 27 105 (v := ?_) rfl rfl (by kernel_rfl) (by kernel_rfl) (by kernel_rfl) (fun _ _ _ h => h) (Or.inl ⟨by rfl, ?hy27⟩) hHeld ?rest27
      case hy27 =>
        intro W hS
        obtain ⟨hS1, hS2⟩ := hS
        (try dsimp only at hS1 hS2)
        go_simp
        try (with_reducible rfl)
      dsimp only [List.set]
      refine wpAnyH_ready (rs := [28]) (by kernel_rfl) (by simp) ?_
      refine AllReadyH.cons rfl (fun K hK => ?_) AllReadyH.nil
      go_simp
      refine hK.out _ _ ?_ (fun hHeld => ?_)
      · exact ⟨v1.out _ (by first | exact (Below.refl _ _).drew.alloc (by simp) _ | exact (Below.refl _ _).alloc (by simp) _ | exact (Below.refl _ _).drew | exact Below.refl _ _), v2.out _ (by first | exact (Below.refl _ _).drew.alloc (by simp) _ | exact (Below.refl _ _).alloc (by simp) _ | exact (Below.refl _ _).drew | exact Below.refl _ _)⟩
      clear hK K
      refine takeL7 29 107 (v := ?_) rfl rfl (by kernel_rfl) (by kernel_rfl) (by kernel_rfl) (fun _ _ _ h => h) (Or.inl ⟨by rfl, ?hy29⟩) hHeld ?rest29
      case hy29 =>
        intro W hS
        obtain ⟨hS1, hS2⟩ := hS
        (try dsimp only at hS1 hS2)
        go_simp
        try (with_reducible rfl)
      dsimp only [List.set]
      refine takeL7 30 108 (v := ?_) rfl rfl (by kernel_rfl) (by kernel_rfl) (by kernel_rfl) (fun _ _ _ h => h) (Or.inl ⟨by rfl, ?hy30⟩) hHeld ?rest30
      case hy30 =>
        intro W hS
        obtain ⟨hS1, hS2⟩ := hS
        (try dsimp only at hS1 hS2)
        go_simp
        try (with_reducible rfl)
      dsimp only [List.set]
      refine takeL7 31 109 (v := ?_) rfl rfl (by kernel_rfl) (by kernel_rfl) (by kernel_rfl) (fun _ _ _ h => h) (Or.inl ⟨by rfl, ?hy31⟩) hHeld ?rest31
      case hy31 =>
        intro W hS
        obtain ⟨hS1, hS2⟩ := hS
        (try dsimp only at hS1 hS2)
        go_simp
        try (with_reducible rfl)
      dsimp only [List.set]
      refine takeL7 32 4 (v := ?_) rfl rfl (by kernel_rfl) (by kernel_rfl) (by kernel_rfl) (fun _ _ _ h => h) (Or.inl ⟨by rfl, ?hy32⟩) hHeld ?rest32
      case hy32 =>
        intro W hS
        obtain ⟨hS1, hS2⟩ := hS
        (try dsimp only at hS1 hS2)
        go_simp
        try (with_reducible rfl)
      dsimp only [List.set]
      refine wpAnyH_done (by kernel_rfl) ?_ _
      go_wp2_with fail
      go_ret
      exact ⟨by rfl, (HB3.out.alloc HB3.out.size _).drew⟩

set_option maxRecDepth 8000 in
set_option maxHeartbeats 4000000 in
theorem longer7_3_full_cut (s x : ByteArray) (hx : s.extract 0 300 = x) (hbig : 300 < s.size) (hmax : s.size ≤ 9223372036854775807) (n : Int) (L : List Nat) (w0 : World) (H : Hid (OHyp w0)) (h : x.size ≤ 300) (h1 : arcsO x.data.toList = some L) (hj : bits .and .i64 n 3 = 3) (h16 : ¬ L.length < 16) :
    Calls Tryd.prog 7 #[.string s, .int .i64 n] w0 fun e w' => e = .returned (.bool true) ∧ Below w0.heap.size w0 w' := by
  have k0 : (300 : Int) < (s.size : Int) := by omega
  have k1 : (300 : Int) ≤ (s.size : Int) := by omega
  have HB0 := Lib.hid (Below.refl w0.heap.size w0)
  have C1 := fun w' hb => H.out.numeric x w' (by omega) hb
  have C2 := fun w' hb => H.out.put x w' (by omega) hb
  rw [h1] at C1
  rw [putO_some h1] at C2
  obtain ⟨y1, hy1⟩ : ∃ y1, x ++ ⟨#[46]⟩ = y1 := ⟨_, rfl⟩
  obtain ⟨y, hy⟩ : ∃ y, y1 ++ ⟨#[57, 57, 57, 57, 57, 57, 57, 57, 57, 57]⟩ = y := ⟨_, rfl⟩
  have hyl : y.data.toList = x.data.toList ++ 46 :: decDigits 9999999999 := by
    rw [← hy, ← hy1, ByteArray.data_append, Array.toList_append, ByteArray.data_append, Array.toList_append, List.append_assoc, dec_lens.2.2.2]
    rfl
  have hys1 : y1.size ≤ 301 := by rw [← hy1, ByteArray.size_append]; exact Nat.add_le_add h (Nat.le_refl 1)
  have hys : y.size ≤ 311 := by rw [← hy, ByteArray.size_append]; exact Nat.add_le_add hys1 (show 10 ≤ 10 by omega)
  have C3 := fun w' hb => H.out.put y w' (by omega) hb
  have hmore := arcsO_more h1 (n := 9999999999) (by omega)
  have hcnt := arcsO_count h1
  have hl2 := (okA_len (valid_arcs h1).1)
  rw [if_neg h16] at hmore
  rw [hyl, putO_none hmore] at C3
  replace C3 : Hid (∀ w', Below w0.heap.size w0 w' → Calls Tryd.prog 8 #[.string y] w' fun e w'' => ∃ A c, e = .returned (.tuple #[.slice A 0 c, .int .i64 2]) ∧ Src w'' w''.heap.size A c [] ∧ Below w'.heap.size w' w'') := Lib.hid C3
  obtain ⟨P, hP⟩ : ∃ P, P = putA L := ⟨_, rfl⟩
  rw [← hP] at C2
  obtain ⟨m, hm⟩ : ∃ m, m = P.length := ⟨_, rfl⟩
  have hm1 : m ≤ 96 := by rw [hm, hP]; exact putA_len7 L (valid_arcs h1)
  replace C2 : Hid (∀ w', Below w0.heap.size w0 w' → Calls Tryd.prog 8 #[.string x] w' fun e w'' => ∃ A c, e = .returned (.tuple #[.slice A m c, .int .i64 0]) ∧ Src w'' w''.heap.size A c P ∧ Below w'.heap.size w' w'') := Lib.hid (by rw [hm]; exact C2)
  replace C1 : Hid (∀ w', Below w0.heap.size w0 w' → Calls Tryd.prog 12 #[.string x] w' fun e w'' => e = .returned (.bool true) ∧ Below w'.heap.size w' w'') := Lib.hid C1
  have hst : Hid (∀ k (h : k < x.size), (x.data.toList.take (k + 1)).countP (· == 46) = (x.data.toList.take k).countP (· == 46) + if x[k] = 46 then 1 else 0) := Lib.hid fun k h => by
    rw [take_snocO x k h, List.countP_append]
    by_cases e : x[k] = 46
    · rw [if_pos e, e]
      rfl
    · rw [if_neg e, List.countP_cons_of_neg (by simpa using e)]
      rfl
  have hend : x.data.toList.take x.size = x.data.toList := List.take_of_length_le (by simp)
  replace h1 := Lib.hid h1
  replace hyl := Lib.hid hyl
  replace hmore := Lib.hid hmore
  replace hP := Lib.hid hP
  replace hm := Lib.hid hm
  replace hcnt := Lib.hid hcnt
  replace hend := Lib.hid hend
  go_enter Tryd.func7, Tryd.ntmps7
  go_wp2_with fail
  refine (C1.out w0 HB0.out).mono ?_
  rintro _ w1 ⟨rfl, hb1⟩
  have HB1 := Lib.hid (below_next HB0.out (Nat.le_refl _) hb1)
  clear hb1
  dsimp only []
  go_wp2_with fail
  go_loop [5, 6] (fun dv iv => ∃ k d : Nat, k ≤ x.size ∧ d ≤ k ∧ iv = .int .i64 (k : Int) ∧ dv = .int .i64 (d : Int) ∧ Hid (d = (x.data.toList.take k).countP (· == 46))) (fun _ iv => x.size - (intOf iv).toNat)
  case atStart => exact ⟨0, 0, Nat.zero_le _, Nat.le_refl _, rfl, rfl, Lib.hid rfl⟩
  case round =>
    obtain ⟨k, d, hk, hd, rfl, rfl, HD⟩ := hrel
    by_cases hlt : k < x.size
    · have i0 : (0 : Int) ≤ (k : Int) := by omega
      have i1 : (k : Int) < (x.size : Int) := by omega
      have h5 := hst.out k hlt
      rw [← HD.out] at h5
      by_cases e : x[k] = 46
      · have kb : ((x[k].toNat : Int) == 46) = true := by rw [e]; rfl
        rw [if_pos e] at h5
        replace h5 := Lib.hid h5
        replace e := Lib.hid e
        go_wp2_with fail
        go_round
        case rel => exact ⟨k + 1, d + 1, by omega, by omega, by go_num, by go_num, Lib.hid h5.out.symm⟩
        case measure => simp [intOf]; omega
      · have kb : ((x[k].toNat : Int) == 46) = false := by
          rw [beq_eq_false_iff_ne]
          intro e2
          exact e (UInt8.toNat_inj.1 (by rw [show (46 : UInt8).toNat = 46 from rfl]; omega))
        rw [if_neg e] at h5
        replace h5 := Lib.hid h5
        replace e := Lib.hid e
        go_wp2_with fail
        go_round
        case rel => exact ⟨k + 1, d, by omega, by omega, by go_num, rfl, Lib.hid h5.out.symm⟩
        case measure => simp [intOf]; omega
    · have hkk : k = x.size := by omega
      subst hkk
      have hdl : d + 1 = L.length := by rw [HD.out, hend.out]; exact hcnt.out
      have d1 : ¬ ((d : Int) < 15) := by omega
      have d2 : decide ((d : Int) < 15) = false := decide_eq_false d1
      have i1 : ¬ ((x.size : Int) < (x.size : Int)) := by omega
      replace hdl := Lib.hid hdl
      have j1 : (0 : Int) ≤ bits .and .i64 n 3 := by rw [hj]; decide
      have j2 : bits .and .i64 n 3 < 4 := by rw [hj]; decide
      go_wp2_with fail
      have HBa := Lib.hid (HB1.out.alloc HB1.out.size (.cells #[.string ⟨#[48]⟩, .string ⟨#[49, 50, 55]⟩, .string ⟨#[49, 50, 56]⟩, .string ⟨#[57, 57, 57, 57, 57, 57, 57, 57, 57, 57]⟩] 9))
      refine (C2.out _ HBa.out).mono ?_
      rintro _ w2 ⟨A2, c2, rfl, SX, hb2⟩
      have HB2 := Lib.hid (below_next HBa.out (Nat.le_refl _) hb2)
      replace SX := Lib.hid SX
      clear hb2
      dsimp only []
      go_wp2_with fail
      refine (C3.out w2 HB2.out).mono ?_
      rintro _ w3 ⟨A3, c3, rfl, SY, hb3⟩
      have HB3 := Lib.hid (below_next HB2.out (Nat.le_refl _) hb3)
      replace SX := Lib.hid (SX.out.next hb3)
      replace SY := Lib.hid SY
      clear hb3
      dsimp only []
      go_wp2_with fail
      go_quiet (fail)
      go_wp2_with fail
      go_ret
      exact ⟨rfl, below_drewN7 HB3.out _⟩

theorem longer7_walk (s : ByteArray) (n : Int) (w0 : World) (H : OHyp w0) (hs : s.size ≤ 140737488355328) :
    Calls Tryd.prog 7 #[.string s, .int .i64 n] w0 fun e w' => e = .returned (.bool true) ∧ Below w0.heap.size w0 w' := by
  by_cases h : s.size ≤ 300
  · rcases h1 : arcsO s.data.toList with _ | L
    · exact longer7_no s n w0 (Lib.hid H) h h1
    · by_cases h16 : L.length < 16
      · rcases and3 n with hj | hj | hj | hj
        · exact longer7_0_more s n L w0 (Lib.hid H) h h1 hj h16
        · exact longer7_1_more s n L w0 (Lib.hid H) h h1 hj h16
        · exact longer7_2_more s n L w0 (Lib.hid H) h h1 hj h16
        · exact longer7_3_more s n L w0 (Lib.hid H) h h1 hj h16
      · rcases and3 n with hj | hj | hj | hj
        · exact longer7_0_full s n L w0 (Lib.hid H) h h1 hj h16
        · exact longer7_1_full s n L w0 (Lib.hid H) h h1 hj h16
        · exact longer7_2_full s n L w0 (Lib.hid H) h h1 hj h16
        · exact longer7_3_full s n L w0 (Lib.hid H) h h1 hj h16
  · have hx : (s.extract 0 300).size ≤ 300 := by
      rw [ByteArray.size_extract]
      omega
    rcases h1 : arcsO (s.extract 0 300).data.toList with _ | L
    · exact longer7_no_cut s _ rfl (by omega) (by omega) n w0 (Lib.hid H) hx h1
    · by_cases h16 : L.length < 16
      · rcases and3 n with hj | hj | hj | hj
        · exact longer7_0_more_cut s _ rfl (by omega) (by omega) n L w0 (Lib.hid H) hx h1 hj h16
        · exact longer7_1_more_cut s _ rfl (by omega) (by omega) n L w0 (Lib.hid H) hx h1 hj h16
        · exact longer7_2_more_cut s _ rfl (by omega) (by omega) n L w0 (Lib.hid H) hx h1 hj h16
        · exact longer7_3_more_cut s _ rfl (by omega) (by omega) n L w0 (Lib.hid H) hx h1 hj h16
      · rcases and3 n with hj | hj | hj | hj
        · exact longer7_0_full_cut s _ rfl (by omega) (by omega) n L w0 (Lib.hid H) hx h1 hj h16
        · exact longer7_1_full_cut s _ rfl (by omega) (by omega) n L w0 (Lib.hid H) hx h1 hj h16
        · exact longer7_2_full_cut s _ rfl (by omega) (by omega) n L w0 (Lib.hid H) hx h1 hj h16
        · exact longer7_3_full_cut s _ rfl (by omega) (by omega) n L w0 (Lib.hid H) hx h1 hj h16
end Go.Proofs.YtpmcdkalmdlahaaDoor
