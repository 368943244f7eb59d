/-
  The walk of the law TagSizes.
-/
import Derived.Test.YtbgdhngdjakhfaaNil
namespace Go.Proofs.Ytbgdhngdjakhfaa
open Go.RowKit

/-- What a length is to have. -/
def wantL (N : Nat) : Nat := if N < 128 then 1 else 1 + count 8 N
def wantT (n : Int) : Nat := if n < 31 then 1 else 1 + count 7 n.toNat

set_option maxRecDepth 4000 in
set_option maxHeartbeats 1000000 in
theorem sizes_snx (c : Int) (n : Int) (m : Bool) (k : Int) (N : Nat) (w : World) (hn : n < 31) (hr : ¬ RightT c n) (hk : k % 2147483648 = (N : Int)) (hN : N < 128) :
    Calls Try.prog 7 #[.agg #[.int .i64 c, .bool m, .int .i64 n], .int .i64 k] w fun e w' => e = .returned (.bool true) ∧ Below w.heap.size w w' := by
  have hr := Lib.hid hr
  have hN2 : N < 2147483648 := by omega
  have ha : bits .and .i64 k 2147483647 = (N : Int) := by rw [and31, hk]
  clear hk
  go_enter Try.func7, Try.ntmps7
  go_wp2_with fail
  go_loop [5, 6] (fun t i => t = .int .i64 1 ∧ i = .int .i64 n) (fun _ i => (intOf i).toNat)
  case atStart => exact ⟨rfl, rfl⟩
  case round =>
    obtain ⟨rfl, rfl⟩ := hrel
    go_wp2_with fail
    go_loop [7, 8] (fun t i => t = .int .i64 1 ∧ i = .int .i64 (N : Int)) (fun _ i => (intOf i).toNat)
    case atStart => exact ⟨rfl, rfl⟩
    case round =>
      obtain ⟨rfl, rfl⟩ := hrel
      have EW : (wantL N : Nat) = 1 := by rw [wantL, if_pos hN]
      have EWh := Lib.hid EW
      clear EW
      have hbt : Below w.heap.size w (w.alloc (.cells #[.int .i64 c, .bool m, .int .i64 n] 24)) := (Below.refl _ _).alloc (Nat.le_refl _) _
      have E2 := lenB_len (N : Int)
      rw [if_neg (by omega)] at E2
      have E2' : (lenB (N : Int)).length = wantL N := by
        rw [E2, wantL]
        by_cases h : N < 128
        · rw [if_pos h, if_pos (by omega)]
        · rw [if_neg h, if_neg (by omega)]; rfl
      have E2h := Lib.hid E2'
      have E3 := Lib.hid (lenB_len (-1))
      clear E2 E2'
      go_wp2_with fail
      refine (right_no c n m _ hr.out).mono ?_
      rintro e w3 ⟨rfl, hb2⟩
      have HB3 := Lib.hid (hbt.trans (hb2.mono (by simp)))
      clear hb2 hbt
      go_wp2_with fail
      refine (putLen_nil N _ (by omega)).mono ?_
      rintro e w4 ⟨A2, c2, rfl, _, hb4⟩
      rw [E2h.out, EWh.out]
      have HB4 := Lib.hid (HB3.out.trans (hb4.mono HB3.out.size))
      clear hb4
      go_wp2_with fail
      refine (putLen_nil (-1) _ (by omega)).mono ?_
      rintro e w5 ⟨A3, c3, rfl, _, hb5⟩
      rw [E3.out]
      have HB5 := Lib.hid (HB4.out.trans (hb5.mono HB4.out.size))
      clear hb5
      go_wp2
      go_ret
      exact ⟨rfl, HB5.out⟩

set_option maxRecDepth 4000 in
set_option maxHeartbeats 1000000 in
theorem sizes_sny (c : Int) (n : Int) (m : Bool) (k : Int) (N : Nat) (w : World) (hn : n < 31) (hr : RightT c n) (hk : k % 2147483648 = (N : Int)) (hN : N < 128) :
    Calls Try.prog 7 #[.agg #[.int .i64 c, .bool m, .int .i64 n], .int .i64 k] w fun e w' => e = .returned (.bool true) ∧ Below w.heap.size w w' := by
  have hr := Lib.hid hr
  have hN2 : N < 2147483648 := by omega
  have ha : bits .and .i64 k 2147483647 = (N : Int) := by rw [and31, hk]
  clear hk
  go_enter Try.func7, Try.ntmps7
  go_wp2_with fail
  go_loop [5, 6] (fun t i => t = .int .i64 1 ∧ i = .int .i64 n) (fun _ i => (intOf i).toNat)
  case atStart => exact ⟨rfl, rfl⟩
  case round =>
    obtain ⟨rfl, rfl⟩ := hrel
    go_wp2_with fail
    go_loop [7, 8] (fun t i => t = .int .i64 1 ∧ i = .int .i64 (N : Int)) (fun _ i => (intOf i).toNat)
    case atStart => exact ⟨rfl, rfl⟩
    case round =>
      obtain ⟨rfl, rfl⟩ := hrel
      have EW : (wantL N : Nat) = 1 := by rw [wantL, if_pos hN]
      have EWh := Lib.hid EW
      clear EW
      have hbt : Below w.heap.size w (w.alloc (.cells #[.int .i64 c, .bool m, .int .i64 n] 24)) := (Below.refl _ _).alloc (Nat.le_refl _) _
      have E2 := lenB_len (N : Int)
      rw [if_neg (by omega)] at E2
      have E2' : (lenB (N : Int)).length = wantL N := by
        rw [E2, wantL]
        by_cases h : N < 128
        · rw [if_pos h, if_pos (by omega)]
        · rw [if_neg h, if_neg (by omega)]; rfl
      have E2h := Lib.hid E2'
      have E3 := Lib.hid (lenB_len (-1))
      clear E2 E2'
      have E1 := Lib.hid (tagB_len c n m)
      go_wp2_with fail
      refine (right_yes c n m _ hr.out.1 hr.out.2.1 hr.out.2.2.1 hr.out.2.2.2).mono ?_
      rintro e w2 ⟨rfl, hb2⟩
      have h0 : w2.cell? ⟨w.heap.size, 0, none⟩ = some (.int .i64 c) := (hb2.cell (p := ⟨w.heap.size, 0, none⟩) (by simp)).trans (by simp)
      have h1 : w2.cell? ⟨w.heap.size, 1, none⟩ = some (.bool m) := (hb2.cell (p := ⟨w.heap.size, 1, none⟩) (by simp)).trans (by simp)
      have h2 : w2.cell? ⟨w.heap.size, 2, none⟩ = some (.int .i64 n) := (hb2.cell (p := ⟨w.heap.size, 2, none⟩) (by simp)).trans (by simp)
      have HB2 := Lib.hid (hbt.trans (hb2.mono (by simp)))
      clear hb2 hbt
      go_wp2_with fail
      refine (put_nil c n m _ hr.out).mono ?_
      rintro e w3 ⟨A1, c1, rfl, _, hb3⟩
      rw [E1.out, if_pos hn]
      have HB3 := Lib.hid (HB2.out.trans (hb3.mono HB2.out.size))
      clear hb3 h0 h1 h2 HB2
      go_wp2_with fail
      refine (putLen_nil N _ (by omega)).mono ?_
      rintro e w4 ⟨A2, c2, rfl, _, hb4⟩
      rw [E2h.out, EWh.out]
      have HB4 := Lib.hid (HB3.out.trans (hb4.mono HB3.out.size))
      clear hb4
      go_wp2_with fail
      refine (putLen_nil (-1) _ (by omega)).mono ?_
      rintro e w5 ⟨A3, c3, rfl, _, hb5⟩
      rw [E3.out]
      have HB5 := Lib.hid (HB4.out.trans (hb5.mono HB4.out.size))
      clear hb5
      go_wp2
      go_ret
      exact ⟨rfl, HB5.out⟩

set_option maxRecDepth 4000 in
set_option maxHeartbeats 1000000 in
theorem sizes_sbx (c : Int) (n : Int) (m : Bool) (k : Int) (N : Nat) (w : World) (hn : n < 31) (hr : ¬ RightT c n) (hk : k % 2147483648 = (N : Int)) (hN : 128 ≤ N) :
    Calls Try.prog 7 #[.agg #[.int .i64 c, .bool m, .int .i64 n], .int .i64 k] w fun e w' => e = .returned (.bool true) ∧ Below w.heap.size w w' := by
  have hr := Lib.hid hr
  have hN2 : N < 2147483648 := by omega
  have ha : bits .and .i64 k 2147483647 = (N : Int) := by rw [and31, hk]
  clear hk
  obtain ⟨G2, hGe2⟩ : ∃ G2, G2 = count 8 N := ⟨_, rfl⟩
  have hG2 : G2 ≤ 8 := by
    have := Lib.bitLen_le N 64 (by omega) (by omega)
    subst hGe2
    unfold count; omega
  have HG2 := Lib.hid hGe2
  clear hGe2
  go_enter Try.func7, Try.ntmps7
  go_wp2_with fail
  go_loop [5, 6] (fun t i => t = .int .i64 1 ∧ i = .int .i64 n) (fun _ i => (intOf i).toNat)
  case atStart => exact ⟨rfl, rfl⟩
  case round =>
    obtain ⟨rfl, rfl⟩ := hrel
    go_wp2_with fail
    go_loop [7, 8] (fun t i => ∃ j : Nat, j ≤ G2 ∧ t = .int .i64 (1 + (j : Int)) ∧ i = .int .i64 ((N / 256 ^ j : Nat) : Int)) (fun _ i => (intOf i).toNat)
    case atStart => exact ⟨0, Nat.zero_le _, rfl, by simp⟩
    case round =>
      obtain ⟨j, hj, rfl, hi⟩ := hrel
      obtain ⟨x, hx⟩ : ∃ x, x = N / 256 ^ j := ⟨_, rfl⟩
      rw [← hx] at hi
      have hx1 : x ≤ N := by rw [hx]; exact Nat.div_le_self _ _
      have HX := Lib.hid hx
      clear hx
      obtain rfl := hi
      by_cases h0 : x = 0
      · subst h0
        have hjG := (count_shift 8 N j (by decide) (by omega) (by omega) (by rw [← HG2.out]; exact hj)).1 HX.out.symm
        rw [← HG2.out] at hjG
        obtain rfl := hjG
        have EW : (wantL N : Nat) = 1 + j := by rw [wantL, if_neg (by omega), HG2.out]
        have EWh := Lib.hid EW
        clear EW HX hj hx1
        have hbt : Below w.heap.size w (w.alloc (.cells #[.int .i64 c, .bool m, .int .i64 n] 24)) := (Below.refl _ _).alloc (Nat.le_refl _) _
        have E2 := lenB_len (N : Int)
        rw [if_neg (by omega)] at E2
        have E2' : (lenB (N : Int)).length = wantL N := by
          rw [E2, wantL]
          by_cases h : N < 128
          · rw [if_pos h, if_pos (by omega)]
          · rw [if_neg h, if_neg (by omega)]; rfl
        have E2h := Lib.hid E2'
        have E3 := Lib.hid (lenB_len (-1))
        clear E2 E2'
        go_wp2_with fail
        refine (right_no c n m _ hr.out).mono ?_
        rintro e w3 ⟨rfl, hb2⟩
        have HB3 := Lib.hid (hbt.trans (hb2.mono (by simp)))
        clear hb2 hbt
        go_wp2_with fail
        refine (putLen_nil N _ (by omega)).mono ?_
        rintro e w4 ⟨A2, c2, rfl, _, hb4⟩
        rw [E2h.out, EWh.out]
        have HB4 := Lib.hid (HB3.out.trans (hb4.mono HB3.out.size))
        clear hb4
        go_wp2_with fail
        refine (putLen_nil (-1) _ (by omega)).mono ?_
        rintro e w5 ⟨A3, c3, rfl, _, hb5⟩
        rw [E3.out]
        have HB5 := Lib.hid (HB4.out.trans (hb5.mono HB4.out.size))
        clear hb5
        go_wp2
        go_ret
        exact ⟨rfl, HB5.out⟩
      · have hjG : j < G2 := by
          have := (count_shift 8 N j (by decide) (by omega) (by omega) (by rw [← HG2.out]; exact hj)).2
          rw [← HG2.out, show (2 : Nat) ^ 8 = 256 from rfl, ← HX.out] at this
          omega
        go_wp2_with fail
        go_round
        case rel => exact ⟨j + 1, by omega, by go_num, by rw [← shift_step, ← HX.out]; rfl⟩
        case measure => simp [intOf]; omega

set_option maxRecDepth 4000 in
set_option maxHeartbeats 1000000 in
theorem sizes_sby (c : Int) (n : Int) (m : Bool) (k : Int) (N : Nat) (w : World) (hn : n < 31) (hr : RightT c n) (hk : k % 2147483648 = (N : Int)) (hN : 128 ≤ N) :
    Calls Try.prog 7 #[.agg #[.int .i64 c, .bool m, .int .i64 n], .int .i64 k] w fun e w' => e = .returned (.bool true) ∧ Below w.heap.size w w' := by
  have hr := Lib.hid hr
  have hN2 : N < 2147483648 := by omega
  have ha : bits .and .i64 k 2147483647 = (N : Int) := by rw [and31, hk]
  clear hk
  obtain ⟨G2, hGe2⟩ : ∃ G2, G2 = count 8 N := ⟨_, rfl⟩
  have hG2 : G2 ≤ 8 := by
    have := Lib.bitLen_le N 64 (by omega) (by omega)
    subst hGe2
    unfold count; omega
  have HG2 := Lib.hid hGe2
  clear hGe2
  go_enter Try.func7, Try.ntmps7
  go_wp2_with fail
  go_loop [5, 6] (fun t i => t = .int .i64 1 ∧ i = .int .i64 n) (fun _ i => (intOf i).toNat)
  case atStart => exact ⟨rfl, rfl⟩
  case round =>
    obtain ⟨rfl, rfl⟩ := hrel
    go_wp2_with fail
    go_loop [7, 8] (fun t i => ∃ j : Nat, j ≤ G2 ∧ t = .int .i64 (1 + (j : Int)) ∧ i = .int .i64 ((N / 256 ^ j : Nat) : Int)) (fun _ i => (intOf i).toNat)
    case atStart => exact ⟨0, Nat.zero_le _, rfl, by simp⟩
    case round =>
      obtain ⟨j, hj, rfl, hi⟩ := hrel
      obtain ⟨x, hx⟩ : ∃ x, x = N / 256 ^ j := ⟨_, rfl⟩
      rw [← hx] at hi
      have hx1 : x ≤ N := by rw [hx]; exact Nat.div_le_self _ _
      have HX := Lib.hid hx
      clear hx
      obtain rfl := hi
      by_cases h0 : x = 0
      · subst h0
        have hjG := (count_shift 8 N j (by decide) (by omega) (by omega) (by rw [← HG2.out]; exact hj)).1 HX.out.symm
        rw [← HG2.out] at hjG
        obtain rfl := hjG
        have EW : (wantL N : Nat) = 1 + j := by rw [wantL, if_neg (by omega), HG2.out]
        have EWh := Lib.hid EW
        clear EW HX hj hx1
        have hbt : Below w.heap.size w (w.alloc (.cells #[.int .i64 c, .bool m, .int .i64 n] 24)) := (Below.refl _ _).alloc (Nat.le_refl _) _
        have E2 := lenB_len (N : Int)
        rw [if_neg (by omega)] at E2
        have E2' : (lenB (N : Int)).length = wantL N := by
          rw [E2, wantL]
          by_cases h : N < 128
          · rw [if_pos h, if_pos (by omega)]
          · rw [if_neg h, if_neg (by omega)]; rfl
        have E2h := Lib.hid E2'
        have E3 := Lib.hid (lenB_len (-1))
        clear E2 E2'
        have E1 := Lib.hid (tagB_len c n m)
        go_wp2_with fail
        refine (right_yes c n m _ hr.out.1 hr.out.2.1 hr.out.2.2.1 hr.out.2.2.2).mono ?_
        rintro e w2 ⟨rfl, hb2⟩
        have h0 : w2.cell? ⟨w.heap.size, 0, none⟩ = some (.int .i64 c) := (hb2.cell (p := ⟨w.heap.size, 0, none⟩) (by simp)).trans (by simp)
        have h1 : w2.cell? ⟨w.heap.size, 1, none⟩ = some (.bool m) := (hb2.cell (p := ⟨w.heap.size, 1, none⟩) (by simp)).trans (by simp)
        have h2 : w2.cell? ⟨w.heap.size, 2, none⟩ = some (.int .i64 n) := (hb2.cell (p := ⟨w.heap.size, 2, none⟩) (by simp)).trans (by simp)
        have HB2 := Lib.hid (hbt.trans (hb2.mono (by simp)))
        clear hb2 hbt
        go_wp2_with fail
        refine (put_nil c n m _ hr.out).mono ?_
        rintro e w3 ⟨A1, c1, rfl, _, hb3⟩
        rw [E1.out, if_pos hn]
        have HB3 := Lib.hid (HB2.out.trans (hb3.mono HB2.out.size))
        clear hb3 h0 h1 h2 HB2
        go_wp2_with fail
        refine (putLen_nil N _ (by omega)).mono ?_
        rintro e w4 ⟨A2, c2, rfl, _, hb4⟩
        rw [E2h.out, EWh.out]
        have HB4 := Lib.hid (HB3.out.trans (hb4.mono HB3.out.size))
        clear hb4
        go_wp2_with fail
        refine (putLen_nil (-1) _ (by omega)).mono ?_
        rintro e w5 ⟨A3, c3, rfl, _, hb5⟩
        rw [E3.out]
        have HB5 := Lib.hid (HB4.out.trans (hb5.mono HB4.out.size))
        clear hb5
        go_wp2
        go_ret
        exact ⟨rfl, HB5.out⟩
      · have hjG : j < G2 := by
          have := (count_shift 8 N j (by decide) (by omega) (by omega) (by rw [← HG2.out]; exact hj)).2
          rw [← HG2.out, show (2 : Nat) ^ 8 = 256 from rfl, ← HX.out] at this
          omega
        go_wp2_with fail
        go_round
        case rel => exact ⟨j + 1, by omega, by go_num, by rw [← shift_step, ← HX.out]; rfl⟩
        case measure => simp [intOf]; omega

set_option maxRecDepth 4000 in
set_option maxHeartbeats 1000000 in
theorem sizes_lnx (c : Int) (n : Nat) (m : Bool) (k : Int) (N : Nat) (w : World) (hn : 31 ≤ n) (hn2 : n ≤ 9223372036854775807) (hr : ¬ RightT c n) (hk : k % 2147483648 = (N : Int)) (hN : N < 128) :
    Calls Try.prog 7 #[.agg #[.int .i64 c, .bool m, .int .i64 n], .int .i64 k] w fun e w' => e = .returned (.bool true) ∧ Below w.heap.size w w' := by
  have hr := Lib.hid hr
  have hN2 : N < 2147483648 := by omega
  have ha : bits .and .i64 k 2147483647 = (N : Int) := by rw [and31, hk]
  clear hk
  obtain ⟨G, hGe⟩ : ∃ G, G = count 7 n := ⟨_, rfl⟩
  have hG : G ≤ 10 := by
    have := Lib.bitLen_le n 64 (by omega) (by omega)
    subst hGe
    unfold count; omega
  have HG := Lib.hid hGe
  clear hGe
  go_enter Try.func7, Try.ntmps7
  go_wp2_with fail
  go_loop [5, 6] (fun t i => ∃ j : Nat, j ≤ G ∧ t = .int .i64 (1 + (j : Int)) ∧ i = .int .i64 ((n / 128 ^ j : Nat) : Int)) (fun _ i => (intOf i).toNat)
  case atStart => exact ⟨0, Nat.zero_le _, rfl, by simp⟩
  case round =>
    obtain ⟨j, hj, rfl, hi⟩ := hrel
    obtain ⟨x, hx⟩ : ∃ x, x = n / 128 ^ j := ⟨_, rfl⟩
    rw [← hx] at hi
    have hx1 : x ≤ n := by rw [hx]; exact Nat.div_le_self _ _
    have HX := Lib.hid hx
    clear hx
    obtain rfl := hi
    by_cases h0 : x = 0
    · subst h0
      have hjG := (count_shift 7 n j (by decide) (by omega) (by omega) (by rw [← HG.out]; exact hj)).1 HX.out.symm
      rw [← HG.out] at hjG
      obtain rfl := hjG
      clear HX hj hx1
      go_wp2_with fail
      go_loop [7, 8] (fun t i => t = .int .i64 1 ∧ i = .int .i64 (N : Int)) (fun _ i => (intOf i).toNat)
      case atStart => exact ⟨rfl, rfl⟩
      case round =>
        obtain ⟨rfl, rfl⟩ := hrel
        have EW : (wantL N : Nat) = 1 := by rw [wantL, if_pos hN]
        have EWh := Lib.hid EW
        clear EW
        have hbt : Below w.heap.size w (w.alloc (.cells #[.int .i64 c, .bool m, .int .i64 n] 24)) := (Below.refl _ _).alloc (Nat.le_refl _) _
        have E2 := lenB_len (N : Int)
        rw [if_neg (by omega)] at E2
        have E2' : (lenB (N : Int)).length = wantL N := by
          rw [E2, wantL]
          by_cases h : N < 128
          · rw [if_pos h, if_pos (by omega)]
          · rw [if_neg h, if_neg (by omega)]; rfl
        have E2h := Lib.hid E2'
        have E3 := Lib.hid (lenB_len (-1))
        clear E2 E2'
        go_wp2_with fail
        refine (right_no c n m _ hr.out).mono ?_
        rintro e w3 ⟨rfl, hb2⟩
        have HB3 := Lib.hid (hbt.trans (hb2.mono (by simp)))
        clear hb2 hbt
        go_wp2_with fail
        refine (putLen_nil N _ (by omega)).mono ?_
        rintro e w4 ⟨A2, c2, rfl, _, hb4⟩
        rw [E2h.out, EWh.out]
        have HB4 := Lib.hid (HB3.out.trans (hb4.mono HB3.out.size))
        clear hb4
        go_wp2_with fail
        refine (putLen_nil (-1) _ (by omega)).mono ?_
        rintro e w5 ⟨A3, c3, rfl, _, hb5⟩
        rw [E3.out]
        have HB5 := Lib.hid (HB4.out.trans (hb5.mono HB4.out.size))
        clear hb5
        go_wp2
        go_ret
        exact ⟨rfl, HB5.out⟩
    · have hjG : j < G := by
        have := (count_shift 7 n j (by decide) (by omega) (by omega) (by rw [← HG.out]; exact hj)).2
        rw [← HG.out, show (2 : Nat) ^ 7 = 128 from rfl, ← HX.out] at this
        omega
      go_wp2_with fail
      go_round
      case rel => exact ⟨j + 1, by omega, by go_num, by rw [← shift_step, ← HX.out]; rfl⟩
      case measure => simp [intOf]; omega

set_option maxRecDepth 4000 in
set_option maxHeartbeats 1000000 in
theorem sizes_lny (c : Int) (n : Nat) (m : Bool) (k : Int) (N : Nat) (w : World) (hn : 31 ≤ n) (hn2 : n ≤ 9223372036854775807) (hr : RightT c n) (hk : k % 2147483648 = (N : Int)) (hN : N < 128) :
    Calls Try.prog 7 #[.agg #[.int .i64 c, .bool m, .int .i64 n], .int .i64 k] w fun e w' => e = .returned (.bool true) ∧ Below w.heap.size w w' := by
  have hr := Lib.hid hr
  have hN2 : N < 2147483648 := by omega
  have ha : bits .and .i64 k 2147483647 = (N : Int) := by rw [and31, hk]
  clear hk
  obtain ⟨G, hGe⟩ : ∃ G, G = count 7 n := ⟨_, rfl⟩
  have hG : G ≤ 10 := by
    have := Lib.bitLen_le n 64 (by omega) (by omega)
    subst hGe
    unfold count; omega
  have HG := Lib.hid hGe
  clear hGe
  go_enter Try.func7, Try.ntmps7
  go_wp2_with fail
  go_loop [5, 6] (fun t i => ∃ j : Nat, j ≤ G ∧ t = .int .i64 (1 + (j : Int)) ∧ i = .int .i64 ((n / 128 ^ j : Nat) : Int)) (fun _ i => (intOf i).toNat)
  case atStart => exact ⟨0, Nat.zero_le _, rfl, by simp⟩
  case round =>
    obtain ⟨j, hj, rfl, hi⟩ := hrel
    obtain ⟨x, hx⟩ : ∃ x, x = n / 128 ^ j := ⟨_, rfl⟩
    rw [← hx] at hi
    have hx1 : x ≤ n := by rw [hx]; exact Nat.div_le_self _ _
    have HX := Lib.hid hx
    clear hx
    obtain rfl := hi
    by_cases h0 : x = 0
    · subst h0
      have hjG := (count_shift 7 n j (by decide) (by omega) (by omega) (by rw [← HG.out]; exact hj)).1 HX.out.symm
      rw [← HG.out] at hjG
      obtain rfl := hjG
      clear HX hj hx1
      go_wp2_with fail
      go_loop [7, 8] (fun t i => t = .int .i64 1 ∧ i = .int .i64 (N : Int)) (fun _ i => (intOf i).toNat)
      case atStart => exact ⟨rfl, rfl⟩
      case round =>
        obtain ⟨rfl, rfl⟩ := hrel
        have EW : (wantL N : Nat) = 1 := by rw [wantL, if_pos hN]
        have EWh := Lib.hid EW
        clear EW
        have hbt : Below w.heap.size w (w.alloc (.cells #[.int .i64 c, .bool m, .int .i64 n] 24)) := (Below.refl _ _).alloc (Nat.le_refl _) _
        have E2 := lenB_len (N : Int)
        rw [if_neg (by omega)] at E2
        have E2' : (lenB (N : Int)).length = wantL N := by
          rw [E2, wantL]
          by_cases h : N < 128
          · rw [if_pos h, if_pos (by omega)]
          · rw [if_neg h, if_neg (by omega)]; rfl
        have E2h := Lib.hid E2'
        have E3 := Lib.hid (lenB_len (-1))
        clear E2 E2'
        have E1 := Lib.hid (tagB_len c n m)
        go_wp2_with fail
        refine (right_yes c n m _ hr.out.1 hr.out.2.1 hr.out.2.2.1 hr.out.2.2.2).mono ?_
        rintro e w2 ⟨rfl, hb2⟩
        have h0 : w2.cell? ⟨w.heap.size, 0, none⟩ = some (.int .i64 c) := (hb2.cell (p := ⟨w.heap.size, 0, none⟩) (by simp)).trans (by simp)
        have h1 : w2.cell? ⟨w.heap.size, 1, none⟩ = some (.bool m) := (hb2.cell (p := ⟨w.heap.size, 1, none⟩) (by simp)).trans (by simp)
        have h2 : w2.cell? ⟨w.heap.size, 2, none⟩ = some (.int .i64 n) := (hb2.cell (p := ⟨w.heap.size, 2, none⟩) (by simp)).trans (by simp)
        have HB2 := Lib.hid (hbt.trans (hb2.mono (by simp)))
        clear hb2 hbt
        go_wp2_with fail
        refine (put_nil c n m _ hr.out).mono ?_
        rintro e w3 ⟨A1, c1, rfl, _, hb3⟩
        rw [E1.out, if_neg (by omega), Int.toNat_natCast, ← HG.out]
        have HB3 := Lib.hid (HB2.out.trans (hb3.mono HB2.out.size))
        clear hb3 h0 h1 h2 HB2
        go_wp2_with fail
        refine (putLen_nil N _ (by omega)).mono ?_
        rintro e w4 ⟨A2, c2, rfl, _, hb4⟩
        rw [E2h.out, EWh.out]
        have HB4 := Lib.hid (HB3.out.trans (hb4.mono HB3.out.size))
        clear hb4
        go_wp2_with fail
        refine (putLen_nil (-1) _ (by omega)).mono ?_
        rintro e w5 ⟨A3, c3, rfl, _, hb5⟩
        rw [E3.out]
        have HB5 := Lib.hid (HB4.out.trans (hb5.mono HB4.out.size))
        clear hb5
        go_wp2
        go_ret
        exact ⟨rfl, HB5.out⟩
    · have hjG : j < G := by
        have := (count_shift 7 n j (by decide) (by omega) (by omega) (by rw [← HG.out]; exact hj)).2
        rw [← HG.out, show (2 : Nat) ^ 7 = 128 from rfl, ← HX.out] at this
        omega
      go_wp2_with fail
      go_round
      case rel => exact ⟨j + 1, by omega, by go_num, by rw [← shift_step, ← HX.out]; rfl⟩
      case measure => simp [intOf]; omega

set_option maxRecDepth 4000 in
set_option maxHeartbeats 1000000 in
theorem sizes_lbx (c : Int) (n : Nat) (m : Bool) (k : Int) (N : Nat) (w : World) (hn : 31 ≤ n) (hn2 : n ≤ 9223372036854775807) (hr : ¬ RightT c n) (hk : k % 2147483648 = (N : Int)) (hN : 128 ≤ N) :
    Calls Try.prog 7 #[.agg #[.int .i64 c, .bool m, .int .i64 n], .int .i64 k] w fun e w' => e = .returned (.bool true) ∧ Below w.heap.size w w' := by
  have hr := Lib.hid hr
  have hN2 : N < 2147483648 := by omega
  have ha : bits .and .i64 k 2147483647 = (N : Int) := by rw [and31, hk]
  clear hk
  obtain ⟨G, hGe⟩ : ∃ G, G = count 7 n := ⟨_, rfl⟩
  have hG : G ≤ 10 := by
    have := Lib.bitLen_le n 64 (by omega) (by omega)
    subst hGe
    unfold count; omega
  have HG := Lib.hid hGe
  clear hGe
  obtain ⟨G2, hGe2⟩ : ∃ G2, G2 = count 8 N := ⟨_, rfl⟩
  have hG2 : G2 ≤ 8 := by
    have := Lib.bitLen_le N 64 (by omega) (by omega)
    subst hGe2
    unfold count; omega
  have HG2 := Lib.hid hGe2
  clear hGe2
  go_enter Try.func7, Try.ntmps7
  go_wp2_with fail
  go_loop [5, 6] (fun t i => ∃ j : Nat, j ≤ G ∧ t = .int .i64 (1 + (j : Int)) ∧ i = .int .i64 ((n / 128 ^ j : Nat) : Int)) (fun _ i => (intOf i).toNat)
  case atStart => exact ⟨0, Nat.zero_le _, rfl, by simp⟩
  case round =>
    obtain ⟨j, hj, rfl, hi⟩ := hrel
    obtain ⟨x, hx⟩ : ∃ x, x = n / 128 ^ j := ⟨_, rfl⟩
    rw [← hx] at hi
    have hx1 : x ≤ n := by rw [hx]; exact Nat.div_le_self _ _
    have HX := Lib.hid hx
    clear hx
    obtain rfl := hi
    by_cases h0 : x = 0
    · subst h0
      have hjG := (count_shift 7 n j (by decide) (by omega) (by omega) (by rw [← HG.out]; exact hj)).1 HX.out.symm
      rw [← HG.out] at hjG
      obtain rfl := hjG
      clear HX hj hx1
      go_wp2_with fail
      go_loop [7, 8] (fun t i => ∃ j : Nat, j ≤ G2 ∧ t = .int .i64 (1 + (j : Int)) ∧ i = .int .i64 ((N / 256 ^ j : Nat) : Int)) (fun _ i => (intOf i).toNat)
      case atStart => exact ⟨0, Nat.zero_le _, rfl, by simp⟩
      case round =>
        obtain ⟨j, hj, rfl, hi⟩ := hrel
        obtain ⟨x, hx⟩ : ∃ x, x = N / 256 ^ j := ⟨_, rfl⟩
        rw [← hx] at hi
        have hx1 : x ≤ N := by rw [hx]; exact Nat.div_le_self _ _
        have HX := Lib.hid hx
        clear hx
        obtain rfl := hi
        by_cases h0 : x = 0
        · subst h0
          have hjG := (count_shift 8 N j (by decide) (by omega) (by omega) (by rw [← HG2.out]; exact hj)).1 HX.out.symm
          rw [← HG2.out] at hjG
          obtain rfl := hjG
          have EW : (wantL N : Nat) = 1 + j := by rw [wantL, if_neg (by omega), HG2.out]
          have EWh := Lib.hid EW
          clear EW HX hj hx1
          have hbt : Below w.heap.size w (w.alloc (.cells #[.int .i64 c, .bool m, .int .i64 n] 24)) := (Below.refl _ _).alloc (Nat.le_refl _) _
          have E2 := lenB_len (N : Int)
          rw [if_neg (by omega)] at E2
          have E2' : (lenB (N : Int)).length = wantL N := by
            rw [E2, wantL]
            by_cases h : N < 128
            · rw [if_pos h, if_pos (by omega)]
            · rw [if_neg h, if_neg (by omega)]; rfl
          have E2h := Lib.hid E2'
          have E3 := Lib.hid (lenB_len (-1))
          clear E2 E2'
          go_wp2_with fail
          refine (right_no c n m _ hr.out).mono ?_
          rintro e w3 ⟨rfl, hb2⟩
          have HB3 := Lib.hid (hbt.trans (hb2.mono (by simp)))
          clear hb2 hbt
          go_wp2_with fail
          refine (putLen_nil N _ (by omega)).mono ?_
          rintro e w4 ⟨A2, c2, rfl, _, hb4⟩
          rw [E2h.out, EWh.out]
          have HB4 := Lib.hid (HB3.out.trans (hb4.mono HB3.out.size))
          clear hb4
          go_wp2_with fail
          refine (putLen_nil (-1) _ (by omega)).mono ?_
          rintro e w5 ⟨A3, c3, rfl, _, hb5⟩
          rw [E3.out]
          have HB5 := Lib.hid (HB4.out.trans (hb5.mono HB4.out.size))
          clear hb5
          go_wp2
          go_ret
          exact ⟨rfl, HB5.out⟩
        · have hjG : j < G2 := by
            have := (count_shift 8 N j (by decide) (by omega) (by omega) (by rw [← HG2.out]; exact hj)).2
            rw [← HG2.out, show (2 : Nat) ^ 8 = 256 from rfl, ← HX.out] at this
            omega
          go_wp2_with fail
          go_round
          case rel => exact ⟨j + 1, by omega, by go_num, by rw [← shift_step, ← HX.out]; rfl⟩
          case measure => simp [intOf]; omega
    · have hjG : j < G := by
        have := (count_shift 7 n j (by decide) (by omega) (by omega) (by rw [← HG.out]; exact hj)).2
        rw [← HG.out, show (2 : Nat) ^ 7 = 128 from rfl, ← HX.out] at this
        omega
      go_wp2_with fail
      go_round
      case rel => exact ⟨j + 1, by omega, by go_num, by rw [← shift_step, ← HX.out]; rfl⟩
      case measure => simp [intOf]; omega

set_option maxRecDepth 4000 in
set_option maxHeartbeats 1000000 in
theorem sizes_lby (c : Int) (n : Nat) (m : Bool) (k : Int) (N : Nat) (w : World) (hn : 31 ≤ n) (hn2 : n ≤ 9223372036854775807) (hr : RightT c n) (hk : k % 2147483648 = (N : Int)) (hN : 128 ≤ N) :
    Calls Try.prog 7 #[.agg #[.int .i64 c, .bool m, .int .i64 n], .int .i64 k] w fun e w' => e = .returned (.bool true) ∧ Below w.heap.size w w' := by
  have hr := Lib.hid hr
  have hN2 : N < 2147483648 := by omega
  have ha : bits .and .i64 k 2147483647 = (N : Int) := by rw [and31, hk]
  clear hk
  obtain ⟨G, hGe⟩ : ∃ G, G = count 7 n := ⟨_, rfl⟩
  have hG : G ≤ 10 := by
    have := Lib.bitLen_le n 64 (by omega) (by omega)
    subst hGe
    unfold count; omega
  have HG := Lib.hid hGe
  clear hGe
  obtain ⟨G2, hGe2⟩ : ∃ G2, G2 = count 8 N := ⟨_, rfl⟩
  have hG2 : G2 ≤ 8 := by
    have := Lib.bitLen_le N 64 (by omega) (by omega)
    subst hGe2
    unfold count; omega
  have HG2 := Lib.hid hGe2
  clear hGe2
  go_enter Try.func7, Try.ntmps7
  go_wp2_with fail
  go_loop [5, 6] (fun t i => ∃ j : Nat, j ≤ G ∧ t = .int .i64 (1 + (j : Int)) ∧ i = .int .i64 ((n / 128 ^ j : Nat) : Int)) (fun _ i => (intOf i).toNat)
  case atStart => exact ⟨0, Nat.zero_le _, rfl, by simp⟩
  case round =>
    obtain ⟨j, hj, rfl, hi⟩ := hrel
    obtain ⟨x, hx⟩ : ∃ x, x = n / 128 ^ j := ⟨_, rfl⟩
    rw [← hx] at hi
    have hx1 : x ≤ n := by rw [hx]; exact Nat.div_le_self _ _
    have HX := Lib.hid hx
    clear hx
    obtain rfl := hi
    by_cases h0 : x = 0
    · subst h0
      have hjG := (count_shift 7 n j (by decide) (by omega) (by omega) (by rw [← HG.out]; exact hj)).1 HX.out.symm
      rw [← HG.out] at hjG
      obtain rfl := hjG
      clear HX hj hx1
      go_wp2_with fail
      go_loop [7, 8] (fun t i => ∃ j : Nat, j ≤ G2 ∧ t = .int .i64 (1 + (j : Int)) ∧ i = .int .i64 ((N / 256 ^ j : Nat) : Int)) (fun _ i => (intOf i).toNat)
      case atStart => exact ⟨0, Nat.zero_le _, rfl, by simp⟩
      case round =>
        obtain ⟨j, hj, rfl, hi⟩ := hrel
        obtain ⟨x, hx⟩ : ∃ x, x = N / 256 ^ j := ⟨_, rfl⟩
        rw [← hx] at hi
        have hx1 : x ≤ N := by rw [hx]; exact Nat.div_le_self _ _
        have HX := Lib.hid hx
        clear hx
        obtain rfl := hi
        by_cases h0 : x = 0
        · subst h0
          have hjG := (count_shift 8 N j (by decide) (by omega) (by omega) (by rw [← HG2.out]; exact hj)).1 HX.out.symm
          rw [← HG2.out] at hjG
          obtain rfl := hjG
          have EW : (wantL N : Nat) = 1 + j := by rw [wantL, if_neg (by omega), HG2.out]
          have EWh := Lib.hid EW
          clear EW HX hj hx1
          have hbt : Below w.heap.size w (w.alloc (.cells #[.int .i64 c, .bool m, .int .i64 n] 24)) := (Below.refl _ _).alloc (Nat.le_refl _) _
          have E2 := lenB_len (N : Int)
          rw [if_neg (by omega)] at E2
          have E2' : (lenB (N : Int)).length = wantL N := by
            rw [E2, wantL]
            by_cases h : N < 128
            · rw [if_pos h, if_pos (by omega)]
            · rw [if_neg h, if_neg (by omega)]; rfl
          have E2h := Lib.hid E2'
          have E3 := Lib.hid (lenB_len (-1))
          clear E2 E2'
          have E1 := Lib.hid (tagB_len c n m)
          go_wp2_with fail
          refine (right_yes c n m _ hr.out.1 hr.out.2.1 hr.out.2.2.1 hr.out.2.2.2).mono ?_
          rintro e w2 ⟨rfl, hb2⟩
          have h0 : w2.cell? ⟨w.heap.size, 0, none⟩ = some (.int .i64 c) := (hb2.cell (p := ⟨w.heap.size, 0, none⟩) (by simp)).trans (by simp)
          have h1 : w2.cell? ⟨w.heap.size, 1, none⟩ = some (.bool m) := (hb2.cell (p := ⟨w.heap.size, 1, none⟩) (by simp)).trans (by simp)
          have h2 : w2.cell? ⟨w.heap.size, 2, none⟩ = some (.int .i64 n) := (hb2.cell (p := ⟨w.heap.size, 2, none⟩) (by simp)).trans (by simp)
          have HB2 := Lib.hid (hbt.trans (hb2.mono (by simp)))
          clear hb2 hbt
          go_wp2_with fail
          refine (put_nil c n m _ hr.out).mono ?_
          rintro e w3 ⟨A1, c1, rfl, _, hb3⟩
          rw [E1.out, if_neg (by omega), Int.toNat_natCast, ← HG.out]
          have HB3 := Lib.hid (HB2.out.trans (hb3.mono HB2.out.size))
          clear hb3 h0 h1 h2 HB2
          go_wp2_with fail
          refine (putLen_nil N _ (by omega)).mono ?_
          rintro e w4 ⟨A2, c2, rfl, _, hb4⟩
          rw [E2h.out, EWh.out]
          have HB4 := Lib.hid (HB3.out.trans (hb4.mono HB3.out.size))
          clear hb4
          go_wp2_with fail
          refine (putLen_nil (-1) _ (by omega)).mono ?_
          rintro e w5 ⟨A3, c3, rfl, _, hb5⟩
          rw [E3.out]
          have HB5 := Lib.hid (HB4.out.trans (hb5.mono HB4.out.size))
          clear hb5
          go_wp2
          go_ret
          exact ⟨rfl, HB5.out⟩
        · have hjG : j < G2 := by
            have := (count_shift 8 N j (by decide) (by omega) (by omega) (by rw [← HG2.out]; exact hj)).2
            rw [← HG2.out, show (2 : Nat) ^ 8 = 256 from rfl, ← HX.out] at this
            omega
          go_wp2_with fail
          go_round
          case rel => exact ⟨j + 1, by omega, by go_num, by rw [← shift_step, ← HX.out]; rfl⟩
          case measure => simp [intOf]; omega
    · have hjG : j < G := by
        have := (count_shift 7 n j (by decide) (by omega) (by omega) (by rw [← HG.out]; exact hj)).2
        rw [← HG.out, show (2 : Nat) ^ 7 = 128 from rfl, ← HX.out] at this
        omega
      go_wp2_with fail
      go_round
      case rel => exact ⟨j + 1, by omega, by go_num, by rw [← shift_step, ← HX.out]; rfl⟩
      case measure => simp [intOf]; omega

end Go.Proofs.Ytbgdhngdjakhfaa
