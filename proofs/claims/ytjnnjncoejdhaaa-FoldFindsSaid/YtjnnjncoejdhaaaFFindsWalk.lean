/-
  FoldFinds: its walk, over what the program's functions answer.
-/
import Derived.Test.YtjnnjncoejdhaaaMHyp
namespace Go.Proofs.Ytjnnjncoejdhaaa
open Go.RowKit

theorem ab_find : uFind (bs ⟨#[97, 98]⟩) (bs ⟨#[98]⟩) (0 : Int).toNat = 1 := by decide +kernel
theorem stands_nil (s : List Nat) (j : Nat) : stands s [] j := by
  unfold stands
  rw [List.length_nil, List.take_zero]

set_option maxRecDepth 8000 in
theorem finds_long (s t : ByteArray) (z : Int) (w : World) (hs : s.size ≤ 140737488355328) (ht : t.size ≤ 140737488355328) (h : 600 < s.size + t.size) :
    Calls Try.prog 3 #[.string s, .string t, .int .i64 z] w fun e w' => e = .returned (.bool true) ∧ Below w.heap.size w w' := by
  have k0 : (600 : Int) < (s.size : Int) + (t.size : Int) := by omega
  go_enter Try.func3, Try.ntmps3
  go_wp2_with fail
  go_ret
  exact ⟨rfl, Below.refl _ _⟩
set_option maxRecDepth 8000 in
set_option maxHeartbeats 1600000 in
theorem finds_none_a (s t : ByteArray) (z : Int) (w0 : World) (H : Hid (FHyp w0)) (h : s.size + t.size ≤ 600) (h1 : -9223372036854775808 ≤ z) (h2 : z ≤ 9223372036854775807) (hr : uFind (bs s) (bs t) z.toNat = -1) (hz : z < 0) :
    Calls Try.prog 3 #[.string s, .string t, .int .i64 z] w0 fun e w' => e = .returned (.bool true) ∧ Below w0.heap.size w0 w' := by
  have k0 : ¬ ((600 : Int) < (s.size : Int) + (t.size : Int)) := by omega
  have B0 := Lib.hid (Below.refl w0.heap.size w0)
  have C1 := fun w' hb => H.out.find s t z w' (by omega) (by omega) h1 h2 hb
  rw [hr] at C1
  have C2 := fun w' hb => H.out.find ⟨#[97, 98]⟩ ⟨#[98]⟩ 0 w' (by decide) (by decide) (by omega) (by omega) hb
  rw [ab_find] at C2
  replace C1 := Lib.hid C1
  replace C2 := Lib.hid C2
  replace hr := Lib.hid hr
  go_enter Try.func3, Try.ntmps3
  go_wp2_with fail
  refine (C1.out w0 B0.out).mono ?_
  rintro _ w1 ⟨rfl, hb1⟩
  have B1 := Lib.hid (B0.out.trans (hb1.mono B0.out.size))
  clear hb1
  dsimp only []
  go_wp2_with fail
  refine (C2.out w1 B1.out).mono ?_
  rintro _ w2 ⟨rfl, hb2⟩
  have B2 := Lib.hid (B1.out.trans (hb2.mono B1.out.size))
  clear hb2
  dsimp only []
  go_wp2_with fail
  go_ret
  exact ⟨rfl, B2.out⟩
set_option maxRecDepth 8000 in
set_option maxHeartbeats 1600000 in
theorem finds_none_b (s t : ByteArray) (z : Int) (w0 : World) (H : Hid (FHyp w0)) (h : s.size + t.size ≤ 600) (h1 : -9223372036854775808 ≤ z) (h2 : z ≤ 9223372036854775807) (hr : uFind (bs s) (bs t) z.toNat = -1) (hz : (s.size : Int) < z) :
    Calls Try.prog 3 #[.string s, .string t, .int .i64 z] w0 fun e w' => e = .returned (.bool true) ∧ Below w0.heap.size w0 w' := by
  have k0 : ¬ ((600 : Int) < (s.size : Int) + (t.size : Int)) := by omega
  have B0 := Lib.hid (Below.refl w0.heap.size w0)
  have C1 := fun w' hb => H.out.find s t z w' (by omega) (by omega) h1 h2 hb
  rw [hr] at C1
  have C2 := fun w' hb => H.out.find ⟨#[97, 98]⟩ ⟨#[98]⟩ 0 w' (by decide) (by decide) (by omega) (by omega) hb
  rw [ab_find] at C2
  have hz0 : ¬ (z < 0) := by omega
  replace C1 := Lib.hid C1
  replace C2 := Lib.hid C2
  replace hr := Lib.hid hr
  go_enter Try.func3, Try.ntmps3
  go_wp2_with fail
  refine (C1.out w0 B0.out).mono ?_
  rintro _ w1 ⟨rfl, hb1⟩
  have B1 := Lib.hid (B0.out.trans (hb1.mono B0.out.size))
  clear hb1
  dsimp only []
  go_wp2_with fail
  refine (C2.out w1 B1.out).mono ?_
  rintro _ w2 ⟨rfl, hb2⟩
  have B2 := Lib.hid (B1.out.trans (hb2.mono B1.out.size))
  clear hb2
  dsimp only []
  go_wp2_with fail
  go_ret
  exact ⟨rfl, B2.out⟩
set_option maxRecDepth 8000 in
set_option maxHeartbeats 1600000 in
theorem finds_none_c (s t : ByteArray) (z : Int) (w0 : World) (H : Hid (FHyp w0)) (h : s.size + t.size ≤ 600) (h1 : -9223372036854775808 ≤ z) (h2 : z ≤ 9223372036854775807) (hr : uFind (bs s) (bs t) z.toNat = -1) (hz : 0 ≤ z) (hz1 : z ≤ (s.size : Int)) (ht : 0 < t.size) :
    Calls Try.prog 3 #[.string s, .string t, .int .i64 z] w0 fun e w' => e = .returned (.bool true) ∧ Below w0.heap.size w0 w' := by
  have k0 : ¬ ((600 : Int) < (s.size : Int) + (t.size : Int)) := by omega
  have B0 := Lib.hid (Below.refl w0.heap.size w0)
  have C1 := fun w' hb => H.out.find s t z w' (by omega) (by omega) h1 h2 hb
  rw [hr] at C1
  have C2 := fun w' hb => H.out.find ⟨#[97, 98]⟩ ⟨#[98]⟩ 0 w' (by decide) (by decide) (by omega) (by omega) hb
  rw [ab_find] at C2
  have hz0 : ¬ (z < 0) := by omega
  have hz2 : ¬ ((s.size : Int) < z) := by omega
  have ht0 : (0 : Int) < (t.size : Int) := by omega
  replace C1 := Lib.hid C1
  replace C2 := Lib.hid C2
  replace hr := Lib.hid hr
  go_enter Try.func3, Try.ntmps3
  go_wp2_with fail
  refine (C1.out w0 B0.out).mono ?_
  rintro _ w1 ⟨rfl, hb1⟩
  have B1 := Lib.hid (B0.out.trans (hb1.mono B0.out.size))
  clear hb1
  dsimp only []
  go_wp2_with fail
  refine (C2.out w1 B1.out).mono ?_
  rintro _ w2 ⟨rfl, hb2⟩
  have B2 := Lib.hid (B1.out.trans (hb2.mono B1.out.size))
  clear hb2
  dsimp only []
  go_wp2_with fail
  go_ret
  exact ⟨rfl, B2.out⟩
set_option maxRecDepth 8000 in
set_option maxHeartbeats 1600000 in
theorem finds_some_a (s t : ByteArray) (z : Int) (j : Nat) (w0 : World) (H : Hid (FHyp w0)) (h : s.size + t.size ≤ 600) (h1 : -9223372036854775808 ≤ z) (h2 : z ≤ 9223372036854775807) (hz : z < 0) (hr : uFind (bs s) (bs t) z.toNat = (j : Int)) (hj : z.toNat ≤ j) (hj2 : j + t.size ≤ s.size) (hst : stands (bs s) (bs t) j) (hno : ∀ m, z.toNat ≤ m → m < j → ¬ stands (bs s) (bs t) m) :
    Calls Try.prog 3 #[.string s, .string t, .int .i64 z] w0 fun e w' => e = .returned (.bool true) ∧ Below w0.heap.size w0 w' := by
  have k0 : ¬ ((600 : Int) < (s.size : Int) + (t.size : Int)) := by omega
  have B0 := Lib.hid (Below.refl w0.heap.size w0)
  have C1 := fun w' hb => H.out.find s t z w' (by omega) (by omega) h1 h2 hb
  rw [hr] at C1
  have C2 := fun w' hb => H.out.find ⟨#[97, 98]⟩ ⟨#[98]⟩ 0 w' (by decide) (by decide) (by omega) (by omega) hb
  rw [ab_find] at C2
  have hl1 := bs_len s
  have hl2 := bs_len t
  have j0 : ¬ ((j : Int) < 0) := by omega
  have j1 : ¬ ((j : Int) < z) := by omega
  have j2 : ¬ ((s.size : Int) < (j : Int) + (t.size : Int)) := by omega
  obtain ⟨x, hx⟩ : ∃ x, s.extract j (j + t.size) = x := ⟨_, rfl⟩
  have hxt : x = t := bs_inj (by
    rw [bs_mid s x j t.size hx, ← hl2]
    exact hst)
  rw [hxt] at hx
  have j3 : (j : Int) + (t.size : Int) ≤ (s.size : Int) := by omega
  have j4 : (j : Int) ≤ (j : Int) + (t.size : Int) := by omega
  have j5 : ((j : Int) + (t.size : Int)).toNat = j + t.size := by omega
  have j6 : (0 : Int) ≤ (j : Int) + (t.size : Int) := by omega
  have j7 : (0 : Int) ≤ (j : Int) := by omega
  have hmx : max z 0 = 0 := by omega
  have hzj : 0 ≤ j := by omega
  have hno' : Hid (∀ m, 0 ≤ m → m < j → ¬ stands (bs s) (bs t) m) := Lib.hid fun m h3 h4 => hno m (by omega) h4
  replace C1 := Lib.hid C1
  replace C2 := Lib.hid C2
  replace hr := Lib.hid hr
  replace hxt := Lib.hid hxt
  replace hst := Lib.hid hst
  replace hno := Lib.hid hno
  replace hl1 := Lib.hid hl1
  replace hl2 := Lib.hid hl2
  go_enter Try.func3, Try.ntmps3
  go_wp2_with fail
  refine (C1.out w0 B0.out).mono ?_
  rintro _ w1 ⟨rfl, hb1⟩
  have B1 := Lib.hid (B0.out.trans (hb1.mono B0.out.size))
  clear hb1
  dsimp only []
  go_wp2_with fail
  go_loop [8] (fun iv => ∃ i : Nat, 0 ≤ i ∧ i ≤ j ∧ iv = .int .i64 (i : Int)) (fun iv => j - (intOf iv).toNat)
  case atStart => exact ⟨0, Nat.le_refl _, hzj, rfl⟩
  case round =>
    obtain ⟨i, hi1, hi2, rfl⟩ := hrel
    by_cases hij : i < j
    · have i0 : (i : Int) < (j : Int) := by omega
      have i1 : (i : Int) + (t.size : Int) ≤ (s.size : Int) := by omega
      have i2 : (i : Int) ≤ (i : Int) + (t.size : Int) := by omega
      have i3 : ((i : Int) + (t.size : Int)).toNat = i + t.size := by omega
      have i4 : (0 : Int) ≤ (i : Int) + (t.size : Int) := by omega
      have i5 : (0 : Int) ≤ (i : Int) := by omega
      obtain ⟨y, hy⟩ : ∃ y, s.extract i (i + t.size) = y := ⟨_, rfl⟩
      have hse := str_eq y t
      have hne : ¬ bs y = bs t := by
        rw [bs_mid s y i t.size hy, ← hl2.out]
        exact hno'.out i hi1 hij
      rw [decide_eq_false hne] at hse
      replace hne := Lib.hid hne
      go_wp2_with fail
      go_round
      case rel => exact ⟨i + 1, by omega, by omega, by go_num⟩
      case measure => simp [intOf]; omega
    · have i0 : ¬ ((i : Int) < (j : Int)) := by omega
      go_wp2_with fail
      refine (C2.out w1 B1.out).mono ?_
      rintro _ w2 ⟨rfl, hb2⟩
      have B2 := Lib.hid (B1.out.trans (hb2.mono B1.out.size))
      clear hb2
      dsimp only []
      go_wp2_with fail
      go_ret
      exact ⟨rfl, B2.out⟩
set_option maxRecDepth 8000 in
set_option maxHeartbeats 1600000 in
theorem finds_some_b (s t : ByteArray) (z : Int) (j : Nat) (w0 : World) (H : Hid (FHyp w0)) (h : s.size + t.size ≤ 600) (h1 : -9223372036854775808 ≤ z) (h2 : z ≤ 9223372036854775807) (hz : 0 ≤ z) (hr : uFind (bs s) (bs t) z.toNat = (j : Int)) (hj : z.toNat ≤ j) (hj2 : j + t.size ≤ s.size) (hst : stands (bs s) (bs t) j) (hno : ∀ m, z.toNat ≤ m → m < j → ¬ stands (bs s) (bs t) m) :
    Calls Try.prog 3 #[.string s, .string t, .int .i64 z] w0 fun e w' => e = .returned (.bool true) ∧ Below w0.heap.size w0 w' := by
  have k0 : ¬ ((600 : Int) < (s.size : Int) + (t.size : Int)) := by omega
  have B0 := Lib.hid (Below.refl w0.heap.size w0)
  have C1 := fun w' hb => H.out.find s t z w' (by omega) (by omega) h1 h2 hb
  rw [hr] at C1
  have C2 := fun w' hb => H.out.find ⟨#[97, 98]⟩ ⟨#[98]⟩ 0 w' (by decide) (by decide) (by omega) (by omega) hb
  rw [ab_find] at C2
  have hl1 := bs_len s
  have hl2 := bs_len t
  have j0 : ¬ ((j : Int) < 0) := by omega
  have j1 : ¬ ((j : Int) < z) := by omega
  have j2 : ¬ ((s.size : Int) < (j : Int) + (t.size : Int)) := by omega
  obtain ⟨x, hx⟩ : ∃ x, s.extract j (j + t.size) = x := ⟨_, rfl⟩
  have hxt : x = t := bs_inj (by
    rw [bs_mid s x j t.size hx, ← hl2]
    exact hst)
  rw [hxt] at hx
  have j3 : (j : Int) + (t.size : Int) ≤ (s.size : Int) := by omega
  have j4 : (j : Int) ≤ (j : Int) + (t.size : Int) := by omega
  have j5 : ((j : Int) + (t.size : Int)).toNat = j + t.size := by omega
  have j6 : (0 : Int) ≤ (j : Int) + (t.size : Int) := by omega
  have j7 : (0 : Int) ≤ (j : Int) := by omega
  have hmx : max z 0 = (z.toNat : Int) := by omega
  have hzj : z.toNat ≤ j := by omega
  have hno' : Hid (∀ m, z.toNat ≤ m → m < j → ¬ stands (bs s) (bs t) m) := Lib.hid fun m h3 h4 => hno m (by omega) h4
  replace C1 := Lib.hid C1
  replace C2 := Lib.hid C2
  replace hr := Lib.hid hr
  replace hxt := Lib.hid hxt
  replace hst := Lib.hid hst
  replace hno := Lib.hid hno
  replace hl1 := Lib.hid hl1
  replace hl2 := Lib.hid hl2
  go_enter Try.func3, Try.ntmps3
  go_wp2_with fail
  refine (C1.out w0 B0.out).mono ?_
  rintro _ w1 ⟨rfl, hb1⟩
  have B1 := Lib.hid (B0.out.trans (hb1.mono B0.out.size))
  clear hb1
  dsimp only []
  go_wp2_with fail
  go_loop [8] (fun iv => ∃ i : Nat, z.toNat ≤ i ∧ i ≤ j ∧ iv = .int .i64 (i : Int)) (fun iv => j - (intOf iv).toNat)
  case atStart => exact ⟨z.toNat, Nat.le_refl _, hzj, by rw [show ((z.toNat : Nat) : Int) = z by omega]⟩
  case round =>
    obtain ⟨i, hi1, hi2, rfl⟩ := hrel
    by_cases hij : i < j
    · have i0 : (i : Int) < (j : Int) := by omega
      have i1 : (i : Int) + (t.size : Int) ≤ (s.size : Int) := by omega
      have i2 : (i : Int) ≤ (i : Int) + (t.size : Int) := by omega
      have i3 : ((i : Int) + (t.size : Int)).toNat = i + t.size := by omega
      have i4 : (0 : Int) ≤ (i : Int) + (t.size : Int) := by omega
      have i5 : (0 : Int) ≤ (i : Int) := by omega
      obtain ⟨y, hy⟩ : ∃ y, s.extract i (i + t.size) = y := ⟨_, rfl⟩
      have hse := str_eq y t
      have hne : ¬ bs y = bs t := by
        rw [bs_mid s y i t.size hy, ← hl2.out]
        exact hno'.out i hi1 hij
      rw [decide_eq_false hne] at hse
      replace hne := Lib.hid hne
      go_wp2_with fail
      go_round
      case rel => exact ⟨i + 1, by omega, by omega, by go_num⟩
      case measure => simp [intOf]; omega
    · have i0 : ¬ ((i : Int) < (j : Int)) := by omega
      go_wp2_with fail
      refine (C2.out w1 B1.out).mono ?_
      rintro _ w2 ⟨rfl, hb2⟩
      have B2 := Lib.hid (B1.out.trans (hb2.mono B1.out.size))
      clear hb2
      dsimp only []
      go_wp2_with fail
      go_ret
      exact ⟨rfl, B2.out⟩
theorem finds_walk (s t : ByteArray) (z : Int) (w : World) (H : FHyp w) (hs : s.size ≤ 140737488355328) (ht : t.size ≤ 140737488355328) (h1 : -9223372036854775808 ≤ z) (h2 : z ≤ 9223372036854775807) :
    Calls Try.prog 3 #[.string s, .string t, .int .i64 z] w fun e w' => e = .returned (.bool true) ∧ Below w.heap.size w w' := by
  have hl1 := bs_len s
  have hl2 := bs_len t
  by_cases h : s.size + t.size ≤ 600
  · rcases uFind_spec (bs s) (bs t) z.toNat with ⟨h3, h4⟩ | ⟨j, h3, h4, h5, h6, h7⟩
    · by_cases hz : z < 0
      · exact finds_none_a s t z w (Lib.hid H) h h1 h2 h3 hz
      · by_cases hz2 : (s.size : Int) < z
        · exact finds_none_b s t z w (Lib.hid H) h h1 h2 h3 hz2
        · refine finds_none_c s t z w (Lib.hid H) h h1 h2 h3 (by omega) (by omega) ?_
          rcases Nat.eq_zero_or_pos t.size with h0 | h0
          · exfalso
            have hb : bs t = [] := bs_zero t h0
            refine h4 z.toNat (Nat.le_refl _) (by rw [hb, hl1]; show z.toNat + 0 ≤ _; omega) ?_
            rw [hb]
            exact stands_nil _ _
          · exact h0
    · by_cases hz : z < 0
      · exact finds_some_a s t z j w (Lib.hid H) h h1 h2 hz h3 h4 (by omega) h6 h7
      · exact finds_some_b s t z j w (Lib.hid H) h h1 h2 (by omega) h3 h4 (by omega) h6 h7
  · exact finds_long s t z w hs ht (by omega)
end Go.Proofs.Ytjnnjncoejdhaaa
