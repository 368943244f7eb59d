/-
  FoldNumbers: its walk, over what the program's functions answer.
-/
import Derived.Test.YtjnnjncoejdhaaaMHyp
import Derived.Deep.RegionWith
namespace Go.Proofs.Ytjnnjncoejdhaaa
open Go.RowKit

theorem one_num : numT ⟨#[49, 32, 50, 51]⟩ = ⟨#[49, 50, 51]⟩ ∧ (uNum (bs ⟨#[49, 32, 50, 51]⟩)).2 = true := by decide +kernel
theorem below_d (w : World) (K : Nat) : Below K w w.drew := ⟨rfl, rfl, rfl, Nat.le_refl _, fun _ _ => rfl⟩
theorem bs_cut (s : ByteArray) (d : Nat) : bs (s.extract 0 d) ++ bs (s.extract d s.size) = bs s := by
  rw [bs_own s _ d rfl, bs_rest s _ d rfl, List.take_append_drop]
set_option maxRecDepth 8000 in
set_option maxHeartbeats 4000000 in
theorem num_in_yes (s : ByteArray) (at0 : Int) (w0 : World) (H : Hid (FHyp w0)) (h : s.size ≤ 300) (hok : (uNum (bs s)).2 = true) :
    Calls Try.prog 4 #[.string s, .int .i64 at0] w0 fun e w' => e = .returned (.bool true) ∧ Below w0.heap.size w0 w' := by
  have k0 : ¬ ((300 : Int) < (s.size : Int)) := by omega
  have B0 := Lib.hid (Below.refl w0.heap.size w0)
  obtain ⟨n, hn⟩ : ∃ n : Int, n = (s.size : Int) + 1 := ⟨_, rfl⟩
  obtain ⟨r, hr⟩ : ∃ r, r = at0.tmod n := ⟨_, rfl⟩
  have hr1 := Int.tmod_lt_of_pos at0 (show (0 : Int) < n by omega)
  have hr2 := Int.tmod_lt_of_pos (-at0) (show (0 : Int) < n by omega)
  rw [Int.neg_tmod] at hr2
  rw [← hr] at hr1 hr2
  have f1 : at0.tmod n = r := hr.symm
  obtain ⟨d, hd⟩ : ∃ d : Nat, (r + n).tmod n = (d : Int) := ⟨((r + n).tmod n).toNat, by
    have := Int.tmod_nonneg n (show (0 : Int) ≤ r + n by omega)
    omega⟩
  have hd2 : (d : Int) < n := by
    have := Int.tmod_lt_of_pos (r + n) (show (0 : Int) < n by omega)
    rwa [hd] at this
  rw [hn] at f1 hd
  have hr3 : r < (s.size : Int) + 1 := by omega
  have hr4 : -((s.size : Int) + 1) < r := by omega
  have hd3 : (d : Int) ≤ (s.size : Int) := by omega
  have hd4 : (0 : Int) ≤ (d : Int) := by omega
  have hd5 : d ≤ s.size := by omega
  clear hd2 hr1 hr2
  obtain ⟨p, hp⟩ : ∃ p, s.extract 0 d = p := ⟨_, rfl⟩
  obtain ⟨q, hq⟩ : ∃ q, s.extract d s.size = q := ⟨_, rfl⟩
  have hpq := bs_cut s d
  rw [hp, hq] at hpq
  have hsz : p.size + q.size = s.size := by rw [← bs_len p, ← bs_len q, ← List.length_append, hpq, bs_len]
  obtain ⟨a1, ha1⟩ : ∃ a1, p ++ (⟨#[32, 32]⟩ : ByteArray) = a1 := ⟨_, rfl⟩
  obtain ⟨a2, ha2⟩ : ∃ a2, a1 ++ q = a2 := ⟨_, rfl⟩
  obtain ⟨b1, hb1⟩ : ∃ b1, p ++ (⟨#[120]⟩ : ByteArray) = b1 := ⟨_, rfl⟩
  obtain ⟨b2, hb2⟩ : ∃ b2, b1 ++ q = b2 := ⟨_, rfl⟩
  have z1 : a1.size ≤ 302 := by rw [← ha1, size_app]; show p.size + 2 ≤ _; omega
  have z2 : a2.size ≤ 302 := by rw [← ha2, size_app, ← ha1, size_app]; show p.size + 2 + q.size ≤ _; omega
  have z3 : b1.size ≤ 301 := by rw [← hb1, size_app]; show p.size + 1 ≤ _; omega
  have z4 : b2.size ≤ 301 := by rw [← hb2, size_app, ← hb1, size_app]; show p.size + 1 + q.size ≤ _; omega
  have hA : uNum (bs a2) = uNum (bs s) := by
    rw [← ha2, ← ha1, bs_append, bs_append, ← hpq]
    exact uNum_blanks _ _
  have hB : (uNum (bs b2)).2 = false := by
    rw [← hb2, ← hb1, bs_append, bs_append]
    exact uNum_other _ _
  have hAT : numT a2 = numT s := by unfold numT; rw [hA]
  have C1 := fun w' hb => H.out.num s w' (by omega) hb
  have C2 := fun w' hb => H.out.num a2 w' (by omega) hb
  have C3 := fun w' hb => H.out.num b2 w' (by omega) hb
  rw [hAT, hA, hok] at C2
  rw [hok] at C1
  rw [hB] at C3
  have z5 : (numT s).size ≤ 300 := by
    rw [← bs_len, bs_numT]
    unfold uNum
    split
    · exact Nat.le_trans (List.length_filter_le _ _) (by rw [bs_len]; exact h)
    · exact Nat.zero_le _
  have C4 := fun w' hb => H.out.num (numT s) w' (by omega) hb
  have hG := uNum_again (bs s) hok
  rw [← bs_numT] at hG
  have hGT : numT (numT s) = numT s := by
    refine bs_inj ?_
    rw [bs_numT, hG]
  rw [hGT, show (uNum (bs (numT s))).2 = true by rw [hG]] at C4
  replace hG := Lib.hid hG
  replace hGT := Lib.hid hGT
  have C5 := fun w' hb => H.out.num ⟨#[49, 32, 50, 51]⟩ w' (by decide) hb
  rw [one_num.1, one_num.2] at C5
  obtain ⟨X, hX⟩ : ∃ x, x = numT s := ⟨_, rfl⟩
  rw [← hX] at C1 C2 C4
  obtain ⟨Y, hY⟩ : ∃ x, x = numT b2 := ⟨_, rfl⟩
  rw [← hY] at C3
  replace C1 := Lib.hid C1
  replace C2 := Lib.hid C2
  replace C3 := Lib.hid C3
  replace C4 := Lib.hid C4
  replace C5 := Lib.hid C5
  replace hX := Lib.hid hX
  replace hY := Lib.hid hY
  replace hA := Lib.hid hA
  replace hB := Lib.hid hB
  replace hAT := Lib.hid hAT
  replace hok := Lib.hid hok
  replace hpq := Lib.hid hpq
  replace hn := Lib.hid hn
  replace hr := Lib.hid hr
  go_enter Try.func4, Try.ntmps4
  go_wp2_with fail
  refine (C1.out w0 B0.out).mono ?_
  rintro _ w1 ⟨rfl, hb1⟩
  have B1 := Lib.hid (B0.out.trans (hb1.mono B0.out.size))
  clear hb1
  dsimp only []
  go_wp2_with fail
  go_region_with (go_at_call 6; refine (C2.out _ (B1.out.trans (below_d _ _))).mono ?_; rintro _ w2 ⟨rfl, hb2⟩; dsimp only [])
  have B2 := Lib.hid ((B1.out.trans (below_d _ _)).trans (hb2.mono B1.out.size))
  clear hb2
  go_wp2_with fail
  go_region_with (go_at_call 6; refine (C3.out _ (B2.out.trans (below_d _ _))).mono ?_; rintro _ w3 ⟨rfl, hb3⟩; dsimp only [])
  have B3 := Lib.hid ((B2.out.trans (below_d _ _)).trans (hb3.mono B2.out.size))
  clear hb3
  go_wp2_with fail
  refine (C4.out w3 B3.out).mono ?_
  rintro _ w4 ⟨rfl, hb4⟩
  have B4 := Lib.hid (B3.out.trans (hb4.mono B3.out.size))
  clear hb4
  dsimp only []
  go_wp2_with fail
  refine (C5.out w4 B4.out).mono ?_
  rintro _ w5 ⟨rfl, hb5⟩
  have B5 := Lib.hid (B4.out.trans (hb5.mono B4.out.size))
  clear hb5
  dsimp only []
  go_wp2_with fail
  go_ret
  exact ⟨rfl, B5.out⟩
set_option maxRecDepth 8000 in
set_option maxHeartbeats 4000000 in
theorem num_in_no (s : ByteArray) (at0 : Int) (w0 : World) (H : Hid (FHyp w0)) (h : s.size ≤ 300) (hok : (uNum (bs s)).2 = false) :
    Calls Try.prog 4 #[.string s, .int .i64 at0] w0 fun e w' => e = .returned (.bool true) ∧ Below w0.heap.size w0 w' := by
  have k0 : ¬ ((300 : Int) < (s.size : Int)) := by omega
  have B0 := Lib.hid (Below.refl w0.heap.size w0)
  obtain ⟨n, hn⟩ : ∃ n : Int, n = (s.size : Int) + 1 := ⟨_, rfl⟩
  obtain ⟨r, hr⟩ : ∃ r, r = at0.tmod n := ⟨_, rfl⟩
  have hr1 := Int.tmod_lt_of_pos at0 (show (0 : Int) < n by omega)
  have hr2 := Int.tmod_lt_of_pos (-at0) (show (0 : Int) < n by omega)
  rw [Int.neg_tmod] at hr2
  rw [← hr] at hr1 hr2
  have f1 : at0.tmod n = r := hr.symm
  obtain ⟨d, hd⟩ : ∃ d : Nat, (r + n).tmod n = (d : Int) := ⟨((r + n).tmod n).toNat, by
    have := Int.tmod_nonneg n (show (0 : Int) ≤ r + n by omega)
    omega⟩
  have hd2 : (d : Int) < n := by
    have := Int.tmod_lt_of_pos (r + n) (show (0 : Int) < n by omega)
    rwa [hd] at this
  rw [hn] at f1 hd
  have hr3 : r < (s.size : Int) + 1 := by omega
  have hr4 : -((s.size : Int) + 1) < r := by omega
  have hd3 : (d : Int) ≤ (s.size : Int) := by omega
  have hd4 : (0 : Int) ≤ (d : Int) := by omega
  have hd5 : d ≤ s.size := by omega
  clear hd2 hr1 hr2
  obtain ⟨p, hp⟩ : ∃ p, s.extract 0 d = p := ⟨_, rfl⟩
  obtain ⟨q, hq⟩ : ∃ q, s.extract d s.size = q := ⟨_, rfl⟩
  have hpq := bs_cut s d
  rw [hp, hq] at hpq
  have hsz : p.size + q.size = s.size := by rw [← bs_len p, ← bs_len q, ← List.length_append, hpq, bs_len]
  obtain ⟨a1, ha1⟩ : ∃ a1, p ++ (⟨#[32, 32]⟩ : ByteArray) = a1 := ⟨_, rfl⟩
  obtain ⟨a2, ha2⟩ : ∃ a2, a1 ++ q = a2 := ⟨_, rfl⟩
  obtain ⟨b1, hb1⟩ : ∃ b1, p ++ (⟨#[120]⟩ : ByteArray) = b1 := ⟨_, rfl⟩
  obtain ⟨b2, hb2⟩ : ∃ b2, b1 ++ q = b2 := ⟨_, rfl⟩
  have z1 : a1.size ≤ 302 := by rw [← ha1, size_app]; show p.size + 2 ≤ _; omega
  have z2 : a2.size ≤ 302 := by rw [← ha2, size_app, ← ha1, size_app]; show p.size + 2 + q.size ≤ _; omega
  have z3 : b1.size ≤ 301 := by rw [← hb1, size_app]; show p.size + 1 ≤ _; omega
  have z4 : b2.size ≤ 301 := by rw [← hb2, size_app, ← hb1, size_app]; show p.size + 1 + q.size ≤ _; omega
  have hA : uNum (bs a2) = uNum (bs s) := by
    rw [← ha2, ← ha1, bs_append, bs_append, ← hpq]
    exact uNum_blanks _ _
  have hB : (uNum (bs b2)).2 = false := by
    rw [← hb2, ← hb1, bs_append, bs_append]
    exact uNum_other _ _
  have hAT : numT a2 = numT s := by unfold numT; rw [hA]
  have C1 := fun w' hb => H.out.num s w' (by omega) hb
  have C2 := fun w' hb => H.out.num a2 w' (by omega) hb
  have C3 := fun w' hb => H.out.num b2 w' (by omega) hb
  rw [hAT, hA, hok] at C2
  rw [hok] at C1
  rw [hB] at C3
  have z5 : (numT s).size ≤ 300 := by
    rw [← bs_len, bs_numT]
    unfold uNum
    split
    · exact Nat.le_trans (List.length_filter_le _ _) (by rw [bs_len]; exact h)
    · exact Nat.zero_le _
  have C4 := fun w' hb => H.out.num (numT s) w' (by omega) hb
  have C5 := fun w' hb => H.out.num ⟨#[49, 32, 50, 51]⟩ w' (by decide) hb
  rw [one_num.1, one_num.2] at C5
  obtain ⟨X, hX⟩ : ∃ x, x = numT s := ⟨_, rfl⟩
  rw [← hX] at C1 C2 C4
  obtain ⟨Y, hY⟩ : ∃ x, x = numT b2 := ⟨_, rfl⟩
  rw [← hY] at C3
  obtain ⟨V, hV⟩ : ∃ x, x = numT X := ⟨_, rfl⟩
  obtain ⟨vb, hvb⟩ : ∃ x, x = (uNum (bs X)).2 := ⟨_, rfl⟩
  rw [← hV, ← hvb] at C4
  replace hV := Lib.hid hV
  replace hvb := Lib.hid hvb
  replace C1 := Lib.hid C1
  replace C2 := Lib.hid C2
  replace C3 := Lib.hid C3
  replace C4 := Lib.hid C4
  replace C5 := Lib.hid C5
  replace hX := Lib.hid hX
  replace hY := Lib.hid hY
  replace hA := Lib.hid hA
  replace hB := Lib.hid hB
  replace hAT := Lib.hid hAT
  replace hok := Lib.hid hok
  replace hpq := Lib.hid hpq
  replace hn := Lib.hid hn
  replace hr := Lib.hid hr
  go_enter Try.func4, Try.ntmps4
  go_wp2_with fail
  refine (C1.out w0 B0.out).mono ?_
  rintro _ w1 ⟨rfl, hb1⟩
  have B1 := Lib.hid (B0.out.trans (hb1.mono B0.out.size))
  clear hb1
  dsimp only []
  go_wp2_with fail
  go_region_with (go_at_call 6; refine (C2.out _ (B1.out.trans (below_d _ _))).mono ?_; rintro _ w2 ⟨rfl, hb2⟩; dsimp only [])
  have B2 := Lib.hid ((B1.out.trans (below_d _ _)).trans (hb2.mono B1.out.size))
  clear hb2
  go_wp2_with fail
  go_region_with (go_at_call 6; refine (C3.out _ (B2.out.trans (below_d _ _))).mono ?_; rintro _ w3 ⟨rfl, hb3⟩; dsimp only [])
  have B3 := Lib.hid ((B2.out.trans (below_d _ _)).trans (hb3.mono B2.out.size))
  clear hb3
  go_wp2_with fail
  refine (C4.out w3 B3.out).mono ?_
  rintro _ w4 ⟨rfl, hb4⟩
  have B4 := Lib.hid (B3.out.trans (hb4.mono B3.out.size))
  clear hb4
  dsimp only []
  go_wp2_with fail
  refine (C5.out w4 B4.out).mono ?_
  rintro _ w5 ⟨rfl, hb5⟩
  have B5 := Lib.hid (B4.out.trans (hb5.mono B4.out.size))
  clear hb5
  dsimp only []
  go_wp2_with fail
  go_ret
  exact ⟨rfl, B5.out⟩
set_option maxRecDepth 8000 in
set_option maxHeartbeats 4000000 in
theorem num_cut_yes (s y : ByteArray) (h0 : 300 < s.size) (h0c : s.size ≤ 140737488355328) (hy : s.extract 0 300 = y) (at0 : Int) (w0 : World) (H : Hid (FHyp w0)) (h : y.size ≤ 300) (hok : (uNum (bs y)).2 = true) :
    Calls Try.prog 4 #[.string s, .int .i64 at0] w0 fun e w' => e = .returned (.bool true) ∧ Below w0.heap.size w0 w' := by
  have k0 : (300 : Int) < (s.size : Int) := by omega
  have k1 : (300 : Int) ≤ (s.size : Int) := by omega
  have B0 := Lib.hid (Below.refl w0.heap.size w0)
  obtain ⟨n, hn⟩ : ∃ n : Int, n = (y.size : Int) + 1 := ⟨_, rfl⟩
  obtain ⟨r, hr⟩ : ∃ r, r = at0.tmod n := ⟨_, rfl⟩
  have hr1 := Int.tmod_lt_of_pos at0 (show (0 : Int) < n by omega)
  have hr2 := Int.tmod_lt_of_pos (-at0) (show (0 : Int) < n by omega)
  rw [Int.neg_tmod] at hr2
  rw [← hr] at hr1 hr2
  have f1 : at0.tmod n = r := hr.symm
  obtain ⟨d, hd⟩ : ∃ d : Nat, (r + n).tmod n = (d : Int) := ⟨((r + n).tmod n).toNat, by
    have := Int.tmod_nonneg n (show (0 : Int) ≤ r + n by omega)
    omega⟩
  have hd2 : (d : Int) < n := by
    have := Int.tmod_lt_of_pos (r + n) (show (0 : Int) < n by omega)
    rwa [hd] at this
  rw [hn] at f1 hd
  have hr3 : r < (y.size : Int) + 1 := by omega
  have hr4 : -((y.size : Int) + 1) < r := by omega
  have hd3 : (d : Int) ≤ (y.size : Int) := by omega
  have hd4 : (0 : Int) ≤ (d : Int) := by omega
  have hd5 : d ≤ y.size := by omega
  clear hd2 hr1 hr2
  obtain ⟨p, hp⟩ : ∃ p, y.extract 0 d = p := ⟨_, rfl⟩
  obtain ⟨q, hq⟩ : ∃ q, y.extract d y.size = q := ⟨_, rfl⟩
  have hpq := bs_cut y d
  rw [hp, hq] at hpq
  have hsz : p.size + q.size = y.size := by rw [← bs_len p, ← bs_len q, ← List.length_append, hpq, bs_len]
  obtain ⟨a1, ha1⟩ : ∃ a1, p ++ (⟨#[32, 32]⟩ : ByteArray) = a1 := ⟨_, rfl⟩
  obtain ⟨a2, ha2⟩ : ∃ a2, a1 ++ q = a2 := ⟨_, rfl⟩
  obtain ⟨b1, hb1⟩ : ∃ b1, p ++ (⟨#[120]⟩ : ByteArray) = b1 := ⟨_, rfl⟩
  obtain ⟨b2, hb2⟩ : ∃ b2, b1 ++ q = b2 := ⟨_, rfl⟩
  have z1 : a1.size ≤ 302 := by rw [← ha1, size_app]; show p.size + 2 ≤ _; omega
  have z2 : a2.size ≤ 302 := by rw [← ha2, size_app, ← ha1, size_app]; show p.size + 2 + q.size ≤ _; omega
  have z3 : b1.size ≤ 301 := by rw [← hb1, size_app]; show p.size + 1 ≤ _; omega
  have z4 : b2.size ≤ 301 := by rw [← hb2, size_app, ← hb1, size_app]; show p.size + 1 + q.size ≤ _; omega
  have hA : uNum (bs a2) = uNum (bs y) := by
    rw [← ha2, ← ha1, bs_append, bs_append, ← hpq]
    exact uNum_blanks _ _
  have hB : (uNum (bs b2)).2 = false := by
    rw [← hb2, ← hb1, bs_append, bs_append]
    exact uNum_other _ _
  have hAT : numT a2 = numT y := by unfold numT; rw [hA]
  have C1 := fun w' hb => H.out.num y w' (by omega) hb
  have C2 := fun w' hb => H.out.num a2 w' (by omega) hb
  have C3 := fun w' hb => H.out.num b2 w' (by omega) hb
  rw [hAT, hA, hok] at C2
  rw [hok] at C1
  rw [hB] at C3
  have z5 : (numT y).size ≤ 300 := by
    rw [← bs_len, bs_numT]
    unfold uNum
    split
    · exact Nat.le_trans (List.length_filter_le _ _) (by rw [bs_len]; exact h)
    · exact Nat.zero_le _
  have C4 := fun w' hb => H.out.num (numT y) w' (by omega) hb
  have hG := uNum_again (bs y) hok
  rw [← bs_numT] at hG
  have hGT : numT (numT y) = numT y := by
    refine bs_inj ?_
    rw [bs_numT, hG]
  rw [hGT, show (uNum (bs (numT y))).2 = true by rw [hG]] at C4
  replace hG := Lib.hid hG
  replace hGT := Lib.hid hGT
  have C5 := fun w' hb => H.out.num ⟨#[49, 32, 50, 51]⟩ w' (by decide) hb
  rw [one_num.1, one_num.2] at C5
  obtain ⟨X, hX⟩ : ∃ x, x = numT y := ⟨_, rfl⟩
  rw [← hX] at C1 C2 C4
  obtain ⟨Y, hY⟩ : ∃ x, x = numT b2 := ⟨_, rfl⟩
  rw [← hY] at C3
  replace C1 := Lib.hid C1
  replace C2 := Lib.hid C2
  replace C3 := Lib.hid C3
  replace C4 := Lib.hid C4
  replace C5 := Lib.hid C5
  replace hX := Lib.hid hX
  replace hY := Lib.hid hY
  replace hA := Lib.hid hA
  replace hB := Lib.hid hB
  replace hAT := Lib.hid hAT
  replace hok := Lib.hid hok
  replace hpq := Lib.hid hpq
  replace hn := Lib.hid hn
  replace hr := Lib.hid hr
  go_enter Try.func4, Try.ntmps4
  go_wp2_with fail
  refine (C1.out w0 B0.out).mono ?_
  rintro _ w1 ⟨rfl, hb1⟩
  have B1 := Lib.hid (B0.out.trans (hb1.mono B0.out.size))
  clear hb1
  dsimp only []
  go_wp2_with fail
  go_region_with (go_at_call 6; refine (C2.out _ (B1.out.trans (below_d _ _))).mono ?_; rintro _ w2 ⟨rfl, hb2⟩; dsimp only [])
  have B2 := Lib.hid ((B1.out.trans (below_d _ _)).trans (hb2.mono B1.out.size))
  clear hb2
  go_wp2_with fail
  go_region_with (go_at_call 6; refine (C3.out _ (B2.out.trans (below_d _ _))).mono ?_; rintro _ w3 ⟨rfl, hb3⟩; dsimp only [])
  have B3 := Lib.hid ((B2.out.trans (below_d _ _)).trans (hb3.mono B2.out.size))
  clear hb3
  go_wp2_with fail
  refine (C4.out w3 B3.out).mono ?_
  rintro _ w4 ⟨rfl, hb4⟩
  have B4 := Lib.hid (B3.out.trans (hb4.mono B3.out.size))
  clear hb4
  dsimp only []
  go_wp2_with fail
  refine (C5.out w4 B4.out).mono ?_
  rintro _ w5 ⟨rfl, hb5⟩
  have B5 := Lib.hid (B4.out.trans (hb5.mono B4.out.size))
  clear hb5
  dsimp only []
  go_wp2_with fail
  go_ret
  exact ⟨rfl, B5.out⟩
set_option maxRecDepth 8000 in
set_option maxHeartbeats 4000000 in
theorem num_cut_no (s y : ByteArray) (h0 : 300 < s.size) (h0c : s.size ≤ 140737488355328) (hy : s.extract 0 300 = y) (at0 : Int) (w0 : World) (H : Hid (FHyp w0)) (h : y.size ≤ 300) (hok : (uNum (bs y)).2 = false) :
    Calls Try.prog 4 #[.string s, .int .i64 at0] w0 fun e w' => e = .returned (.bool true) ∧ Below w0.heap.size w0 w' := by
  have k0 : (300 : Int) < (s.size : Int) := by omega
  have k1 : (300 : Int) ≤ (s.size : Int) := by omega
  have B0 := Lib.hid (Below.refl w0.heap.size w0)
  obtain ⟨n, hn⟩ : ∃ n : Int, n = (y.size : Int) + 1 := ⟨_, rfl⟩
  obtain ⟨r, hr⟩ : ∃ r, r = at0.tmod n := ⟨_, rfl⟩
  have hr1 := Int.tmod_lt_of_pos at0 (show (0 : Int) < n by omega)
  have hr2 := Int.tmod_lt_of_pos (-at0) (show (0 : Int) < n by omega)
  rw [Int.neg_tmod] at hr2
  rw [← hr] at hr1 hr2
  have f1 : at0.tmod n = r := hr.symm
  obtain ⟨d, hd⟩ : ∃ d : Nat, (r + n).tmod n = (d : Int) := ⟨((r + n).tmod n).toNat, by
    have := Int.tmod_nonneg n (show (0 : Int) ≤ r + n by omega)
    omega⟩
  have hd2 : (d : Int) < n := by
    have := Int.tmod_lt_of_pos (r + n) (show (0 : Int) < n by omega)
    rwa [hd] at this
  rw [hn] at f1 hd
  have hr3 : r < (y.size : Int) + 1 := by omega
  have hr4 : -((y.size : Int) + 1) < r := by omega
  have hd3 : (d : Int) ≤ (y.size : Int) := by omega
  have hd4 : (0 : Int) ≤ (d : Int) := by omega
  have hd5 : d ≤ y.size := by omega
  clear hd2 hr1 hr2
  obtain ⟨p, hp⟩ : ∃ p, y.extract 0 d = p := ⟨_, rfl⟩
  obtain ⟨q, hq⟩ : ∃ q, y.extract d y.size = q := ⟨_, rfl⟩
  have hpq := bs_cut y d
  rw [hp, hq] at hpq
  have hsz : p.size + q.size = y.size := by rw [← bs_len p, ← bs_len q, ← List.length_append, hpq, bs_len]
  obtain ⟨a1, ha1⟩ : ∃ a1, p ++ (⟨#[32, 32]⟩ : ByteArray) = a1 := ⟨_, rfl⟩
  obtain ⟨a2, ha2⟩ : ∃ a2, a1 ++ q = a2 := ⟨_, rfl⟩
  obtain ⟨b1, hb1⟩ : ∃ b1, p ++ (⟨#[120]⟩ : ByteArray) = b1 := ⟨_, rfl⟩
  obtain ⟨b2, hb2⟩ : ∃ b2, b1 ++ q = b2 := ⟨_, rfl⟩
  have z1 : a1.size ≤ 302 := by rw [← ha1, size_app]; show p.size + 2 ≤ _; omega
  have z2 : a2.size ≤ 302 := by rw [← ha2, size_app, ← ha1, size_app]; show p.size + 2 + q.size ≤ _; omega
  have z3 : b1.size ≤ 301 := by rw [← hb1, size_app]; show p.size + 1 ≤ _; omega
  have z4 : b2.size ≤ 301 := by rw [← hb2, size_app, ← hb1, size_app]; show p.size + 1 + q.size ≤ _; omega
  have hA : uNum (bs a2) = uNum (bs y) := by
    rw [← ha2, ← ha1, bs_append, bs_append, ← hpq]
    exact uNum_blanks _ _
  have hB : (uNum (bs b2)).2 = false := by
    rw [← hb2, ← hb1, bs_append, bs_append]
    exact uNum_other _ _
  have hAT : numT a2 = numT y := by unfold numT; rw [hA]
  have C1 := fun w' hb => H.out.num y w' (by omega) hb
  have C2 := fun w' hb => H.out.num a2 w' (by omega) hb
  have C3 := fun w' hb => H.out.num b2 w' (by omega) hb
  rw [hAT, hA, hok] at C2
  rw [hok] at C1
  rw [hB] at C3
  have z5 : (numT y).size ≤ 300 := by
    rw [← bs_len, bs_numT]
    unfold uNum
    split
    · exact Nat.le_trans (List.length_filter_le _ _) (by rw [bs_len]; exact h)
    · exact Nat.zero_le _
  have C4 := fun w' hb => H.out.num (numT y) w' (by omega) hb
  have C5 := fun w' hb => H.out.num ⟨#[49, 32, 50, 51]⟩ w' (by decide) hb
  rw [one_num.1, one_num.2] at C5
  obtain ⟨X, hX⟩ : ∃ x, x = numT y := ⟨_, rfl⟩
  rw [← hX] at C1 C2 C4
  obtain ⟨Y, hY⟩ : ∃ x, x = numT b2 := ⟨_, rfl⟩
  rw [← hY] at C3
  obtain ⟨V, hV⟩ : ∃ x, x = numT X := ⟨_, rfl⟩
  obtain ⟨vb, hvb⟩ : ∃ x, x = (uNum (bs X)).2 := ⟨_, rfl⟩
  rw [← hV, ← hvb] at C4
  replace hV := Lib.hid hV
  replace hvb := Lib.hid hvb
  replace C1 := Lib.hid C1
  replace C2 := Lib.hid C2
  replace C3 := Lib.hid C3
  replace C4 := Lib.hid C4
  replace C5 := Lib.hid C5
  replace hX := Lib.hid hX
  replace hY := Lib.hid hY
  replace hA := Lib.hid hA
  replace hB := Lib.hid hB
  replace hAT := Lib.hid hAT
  replace hok := Lib.hid hok
  replace hpq := Lib.hid hpq
  replace hn := Lib.hid hn
  replace hr := Lib.hid hr
  go_enter Try.func4, Try.ntmps4
  go_wp2_with fail
  refine (C1.out w0 B0.out).mono ?_
  rintro _ w1 ⟨rfl, hb1⟩
  have B1 := Lib.hid (B0.out.trans (hb1.mono B0.out.size))
  clear hb1
  dsimp only []
  go_wp2_with fail
  go_region_with (go_at_call 6; refine (C2.out _ (B1.out.trans (below_d _ _))).mono ?_; rintro _ w2 ⟨rfl, hb2⟩; dsimp only [])
  have B2 := Lib.hid ((B1.out.trans (below_d _ _)).trans (hb2.mono B1.out.size))
  clear hb2
  go_wp2_with fail
  go_region_with (go_at_call 6; refine (C3.out _ (B2.out.trans (below_d _ _))).mono ?_; rintro _ w3 ⟨rfl, hb3⟩; dsimp only [])
  have B3 := Lib.hid ((B2.out.trans (below_d _ _)).trans (hb3.mono B2.out.size))
  clear hb3
  go_wp2_with fail
  refine (C4.out w3 B3.out).mono ?_
  rintro _ w4 ⟨rfl, hb4⟩
  have B4 := Lib.hid (B3.out.trans (hb4.mono B3.out.size))
  clear hb4
  dsimp only []
  go_wp2_with fail
  refine (C5.out w4 B4.out).mono ?_
  rintro _ w5 ⟨rfl, hb5⟩
  have B5 := Lib.hid (B4.out.trans (hb5.mono B4.out.size))
  clear hb5
  dsimp only []
  go_wp2_with fail
  go_ret
  exact ⟨rfl, B5.out⟩
theorem num_walk (s : ByteArray) (at0 : Int) (w : World) (H : FHyp w) (hs : s.size ≤ 140737488355328) :
    Calls Try.prog 4 #[.string s, .int .i64 at0] w fun e w' => e = .returned (.bool true) ∧ Below w.heap.size w w' := by
  by_cases h : s.size ≤ 300
  · rcases e : (uNum (bs s)).2 with _ | _
    · exact num_in_no s at0 w (Lib.hid H) h e
    · exact num_in_yes s at0 w (Lib.hid H) h e
  · have hz : (s.extract 0 300).size ≤ 300 := by rw [← bs_len, bs_extract, List.drop_zero, List.length_take]; omega
    rcases e : (uNum (bs (s.extract 0 300))).2 with _ | _
    · exact num_cut_no s _ (by omega) hs rfl at0 w (Lib.hid H) hz e
    · exact num_cut_yes s _ (by omega) hs rfl at0 w (Lib.hid H) hz e
end Go.Proofs.Ytjnnjncoejdhaaa
