/-
  RealGreatest, from any numbers.
-/
import Derived.Test.YtdojbgfkcleeaaaPicks6
import Derived.Deep.AppendLies
namespace Go.Proofs.Ytdojbgfkcleeaaa
open Ieee Go.RowKit

theorem fGr_max (l : List Nat) : ∀ n i, i < n → ¬ fNan (l.getD i 0) → 0 ≤ fGr l n ∧ fKey (l.getD i 0) ≤ fKey (l.getD (fGr l n).toNat 0) ∧ ((i : Int) < fGr l n → fKey (l.getD i 0) < fKey (l.getD (fGr l n).toNat 0))
  | 0, i, h, _ => absurd h (by omega)
  | n + 1, i, h, hn => by
    have hlo := fGr_lo l n
    have ih := fGr_max l n i
    unfold fGr
    by_cases hc : ¬ fNan (l.getD n 0) ∧ (fGr l n < 0 ∨ fKey (l.getD (fGr l n).toNat 0) < fKey (l.getD n 0))
    · rw [if_pos hc, Int.toNat_natCast]
      rcases Nat.lt_or_ge i n with hi | hi
      · obtain ⟨a, b, c⟩ := ih hi hn
        rcases hc.2 with h2 | h2
        · omega
        · exact ⟨by omega, by omega, fun _ => by omega⟩
      · have : i = n := by omega
        subst this
        exact ⟨by omega, Int.le_refl _, fun h => absurd h (Int.lt_irrefl _)⟩
    · rw [if_neg hc]
      rcases Nat.lt_or_ge i n with hi | hi
      · exact ih hi hn
      · have : i = n := by omega
        subst this
        have h0 : 0 ≤ fGr l i := by
          rcases Int.lt_or_le (fGr l i) 0 with h | h
          · exact absurd ⟨hn, .inl h⟩ hc
          · exact h
        refine ⟨h0, ?_, fun h => by omega⟩
        rcases Int.lt_or_le (fKey (l.getD (fGr l i).toNat 0)) (fKey (l.getD i 0)) with h | h
        · exact absurd ⟨hn, .inr h⟩ hc
        · exact h
theorem fGr_12 : fGr [4607182418800017408, 4611686018427387904] 2 = 1 := by decide +kernel
theorem FSl.two (w : World) (a b : Nat) : FSl (w.alloc (.cells #[.float .f64 a, .float .f64 b] 23)) (w.heap.size + 1) (some ⟨w.heap.size, 0, none⟩) 2 [a, b] :=
  ⟨Nat.le_refl _, (by simp), fun ad e => by
    injection e with e
    subst e
    refine ⟨fun _ => Nat.lt_succ_self _, fun j n hj => ?_⟩
    have h := World.news_of_block (cs := #[.float .f64 a, .float .f64 b]) (fr := (0, 0)) (heap_alloc_new w (.cells #[.float .f64 a, .float .f64 b] 23)) j (.float .f64 n)
    refine h ?_
    match j, hj with
    | 0, hj => simp at hj; subst hj; rfl
    | 1, hj => simp at hj; subst hj; rfl⟩

set_option maxRecDepth 8000 in
set_option maxHeartbeats 4000000 in
theorem great_short (R : RHypP) (A : Option Addr) (cp M : Nat) (l : List Nat) (w : World) (hf : FSl w w.heap.size A cp l) (hM : l.length = M) (hcp : cp ≤ 9223372036854775807) (hl : M ≤ 300) :
    Calls Try.prog 4 #[.slice A M cp] w fun e w' => e = .returned (.bool true) ∧ Below w.heap.size w w' := by
  have k0 : ¬ ((300 : Int) < (M : Int)) := by omega
  have CG := fun wr (hb : Below w.heap.size w wr) => R.greatest A cp M l wr (hf.later hb) hM hl hcp
  have C12 : Hid (∀ wr, Below w.heap.size w wr → Calls Try.prog 11 #[.slice (some ⟨wr.heap.size, 0, none⟩) 2 2] (wr.alloc (.cells #[.float .f64 4607182418800017408, .float .f64 4611686018427387904] 23)) fun e w' => e = .returned (.int .i64 1) ∧ Below w.heap.size w w') := Lib.hid fun wr hb => by
    have h := R.greatest (some ⟨wr.heap.size, 0, none⟩) 2 2 [4607182418800017408, 4611686018427387904] (wr.alloc (.cells #[.float .f64 4607182418800017408, .float .f64 4611686018427387904] 23)) (by rw [World.size_alloc]; exact FSl.two wr _ _) rfl (by omega) (by omega)
    rw [fGr_12] at h
    exact h.mono fun e w' hh => ⟨hh.1, below_on (hb.alloc hb.size _) hh.2⟩
  have hle' := hf.le
  rw [hM] at hle'
  have hget : Hid (∀ k, k < M → ∃ ad', A = some ad' ∧ w.cell? (ad'.add k) = some (.float .f64 (l.getD k 0)) ∧ (ad'.add k).block < w.heap.size) := Lib.hid fun k hk => by
    have hx := floats_len (l := l) (k := k) (by omega)
    rcases A with _ | ad
    · have := hf.nil rfl
      omega
    · exact ⟨ad, rfl, (hf.at_ ad rfl).2 k _ hx, by rw [add_blockF]; exact (hf.at_ ad rfl).1 (by omega)⟩
  have hlo := fGr_lo l M
  have hnum := fGr_num l M
  have hmax := fGr_max l M
  obtain ⟨k, hk⟩ : ∃ k, k = fGr l M := ⟨_, rfl⟩
  rw [← hk] at CG hlo hnum hmax
  clear R
  replace CG := Lib.hid CG
  replace hmax := Lib.hid hmax
  replace hk := Lib.hid hk
  replace hf := Lib.hid hf
  replace hM := Lib.hid hM
  have ka : ¬ (k < -1) := by omega
  have kb : ¬ ((M : Int) ≤ k) := by omega
  have kc : decide ((M : Int) ≤ k) = false := decide_eq_false kb
  have kd : decide (k < -1) = false := decide_eq_false ka
  have g0 := Lib.hid (Below.refl w.heap.size w)
  go_enter Try.func4, Try.ntmps4
  go_wp2_with fail
  refine (CG.out w g0.out).mono ?_
  rintro _ w1 ⟨rfl, g1⟩
  replace g1 := Lib.hid (below_on g0.out g1)
  dsimp only []
  by_cases hk0 : k < 0
  · have ke : decide ((0 : Int) ≤ k) = false := decide_eq_false (by omega)
    replace hnum := Lib.hid hnum
    go_wp2_with fail
    go_quiet (fail)
    go_wp2_with fail
    go_loopw [4] (fun u wr => ∃ n : Nat, n ≤ M ∧ u = .int .i64 (n : Int) ∧ Hid (Below w.heap.size w wr)) (fun u _ => M - (intOf u).toNat)
    case atStart => exact ⟨0, Nat.zero_le _, rfl, Lib.hid (below_drewN g1.out _)⟩
    case round =>
      obtain ⟨n, hn, rfl, HB⟩ := hrel
      by_cases hnl : n < M
      · obtain ⟨ad2, e2, hc, hcb⟩ := hget.out n hnl
        subst e2
        replace hc := (HB.out.cell hcb).trans hc
        have hmx := hmax.out n hnl
        obtain ⟨x, hx⟩ : ∃ x, x = l.getD n 0 := ⟨_, rfl⟩
        rw [← hx] at hc hmx
        replace hcb := Lib.hid hcb
        replace hx := Lib.hid hx
        have e1 := ord_self x
        have i0 : (0 : Int) ≤ (n : Int) := by omega
        have i1 : (n : Int) < (M : Int) := by omega
        by_cases hnan : fNan x
        · rw [decide_eq_false (fun h => h hnan)] at e1
          have e2 : (FloatKind.f64.format.order x x == some .eq) = false := e1
          clear e1 hmx
          replace hnan := Lib.hid hnan
          go_wp2_with fail
          go_quiet (fail)
          go_wp2_with fail
          go_roundw
          case rel => exact ⟨n + 1, by omega, by go_num, Lib.hid (below_drewN HB.out _)⟩
          case measure => simp [intOf]; omega
        · have := (hmx hnan).1
          omega
      · have hLn : M = n := by omega
        subst hLn
        have i1 : ¬ ((M : Int) < (M : Int)) := by omega
        go_wp2_with fail
        refine (C12.out wr HB.out).mono ?_
        rintro _ w5 ⟨rfl, g5⟩
        dsimp only []
        go_wp2_with fail
        go_ret
        exact ⟨rfl, g5⟩
  · obtain ⟨m0, hm0⟩ : ∃ m0 : Nat, k = (m0 : Int) := ⟨k.toNat, by omega⟩
    subst hm0
    rw [Int.toNat_natCast] at hnum
    replace hmax := hmax.out
    rw [Int.toNat_natCast] at hmax
    replace hmax := Lib.hid hmax
    obtain ⟨ad', e', hd, hdb⟩ := hget.out m0 (by omega)
    subst e'
    have hd1 := (g1.out.cell hdb).trans hd
    have hyn := hnum (by omega)
    obtain ⟨y, hy⟩ : ∃ y, y = l.getD m0 0 := ⟨_, rfl⟩
    rw [← hy] at hd1 hd hyn
    replace hmax := hmax.out
    rw [← hy] at hmax
    replace hmax := Lib.hid hmax
    have ey := ord_self_ne y
    rw [decide_eq_false hyn] at ey
    have ke : decide ((0 : Int) ≤ (m0 : Int)) = true := decide_eq_true (by omega)
    have kf : (0 : Int) ≤ (m0 : Int) := by omega
    have kg : (m0 : Int) < (M : Int) := by omega
    have kh : decide ((m0 : Int) < 0) = false := decide_eq_false (by omega)
    have ki : decide (M ≤ m0) = false := decide_eq_false (by omega)
    replace hdb := Lib.hid hdb
    replace hy := Lib.hid hy
    replace hyn := Lib.hid hyn
    replace hd := Lib.hid hd
    clear hnum
    go_wp2_with fail
    go_quiet (fail)
    go_wp2_with fail
    clear hd1 ey
    go_loopw [4] (fun u wr => ∃ n : Nat, n ≤ M ∧ u = .int .i64 (n : Int) ∧ Hid (Below w.heap.size w wr)) (fun u _ => M - (intOf u).toNat)
    case atStart => exact ⟨0, Nat.zero_le _, rfl, Lib.hid (below_drewN g1.out _)⟩
    case round =>
      obtain ⟨n, hn, rfl, HB⟩ := hrel
      by_cases hnl : n < M
      · obtain ⟨ad2, e2, hc, hcb⟩ := hget.out n hnl
        injection e2 with e2
        subst e2
        replace hc := (HB.out.cell hcb).trans hc
        have hmx := hmax.out n hnl
        obtain ⟨x, hx⟩ : ∃ x, x = l.getD n 0 := ⟨_, rfl⟩
        rw [← hx] at hc hmx
        replace hcb := Lib.hid hcb
        replace hx := Lib.hid hx
        have e1 := ord_self x
        have i0 : (0 : Int) ≤ (n : Int) := by omega
        have i1 : (n : Int) < (M : Int) := by omega
        by_cases hnan : fNan x
        · rw [decide_eq_false (fun h => h hnan)] at e1
          have e2 : (FloatKind.f64.format.order x x == some .eq) = false := e1
          clear e1 hmx
          replace hnan := Lib.hid hnan
          go_wp2_with fail
          go_quiet (fail)
          go_wp2_with fail
          go_roundw
          case rel => exact ⟨n + 1, by omega, by go_num, Lib.hid (below_drewN HB.out _)⟩
          case measure => simp [intOf]; omega
        · rw [decide_eq_true hnan] at e1
          have e2 : (FloatKind.f64.format.order x x == some .eq) = true := e1
          clear e1
          obtain ⟨_, hm1, hm2⟩ := hmx hnan
          clear hmx
          have hd2 := (HB.out.cell hdb.out).trans hd.out
          have e3 : (FloatKind.f64.format.order x y == some .gt) = _ := ord_gt x y
          rw [decide_eq_false (fun h => by omega)] at e3
          by_cases hnm : (n : Int) < (m0 : Int)
          · have e4 : (FloatKind.f64.format.order x y == some .eq) = _ := ord_eq x y
            rw [decide_eq_false (fun h => by have := hm2 hnm; omega)] at e4
            replace hm1 := Lib.hid hm1
            replace hm2 := Lib.hid hm2
            replace hnan := Lib.hid hnan
            go_wp2_with fail
            go_quiet (fail)
            go_wp2_with fail
            go_roundw
            case rel => exact ⟨n + 1, by omega, by go_num, Lib.hid (below_drewN HB.out _)⟩
            case measure => simp [intOf]; omega
          · have e5 : decide ((n : Int) < (m0 : Int)) = false := decide_eq_false hnm
            have e6 : decide (n < m0) = false := decide_eq_false (by omega)
            replace hm1 := Lib.hid hm1
            replace hm2 := Lib.hid hm2
            replace hnan := Lib.hid hnan
            go_wp2_with fail
            go_quiet (fail)
            go_wp2_with fail
            go_roundw
            case rel => exact ⟨n + 1, by omega, by go_num, Lib.hid (below_drewN HB.out _)⟩
            case measure => simp [intOf]; omega
      · have hLn : M = n := by omega
        subst hLn
        have i1 : ¬ ((M : Int) < (M : Int)) := by omega
        go_wp2_with fail
        refine (C12.out wr HB.out).mono ?_
        rintro _ w5 ⟨rfl, g5⟩
        dsimp only []
        go_wp2_with fail
        go_ret
        exact ⟨rfl, g5⟩
set_option maxRecDepth 8000 in
set_option maxHeartbeats 4000000 in
theorem great_long (R : RHypP) (A : Option Addr) (cp M : Nat) (l : List Nat) (w : World) (hf : FSl w w.heap.size A cp l) (hM : l.length = M) (hcp : cp ≤ 9223372036854775807) (hl : 300 < M) :
    Calls Try.prog 4 #[.slice A M cp] w fun e w' => e = .returned (.bool true) ∧ Below w.heap.size w w' := by
  have hle := hf.le
  rw [hM] at hle
  have hA : ∃ ad, A = some ad := by
    rcases A with _ | ad
    · have := hf.nil rfl
      omega
    · exact ⟨ad, rfl⟩
  obtain ⟨ad, rfl⟩ := hA
  have hf' := hf.take 300
  have hM' : (l.take 300).length = 300 := by rw [List.length_take]; omega
  obtain ⟨m, hm⟩ : ∃ m, m = l.take 300 := ⟨_, rfl⟩
  rw [← hm] at hf' hM'
  clear hf
  replace hm := Lib.hid hm
  replace hM := Lib.hid hM
  have k0 : (300 : Int) < (M : Int) := by omega
  have k1 : (300 : Int) ≤ (M : Int) := by omega
  have k2 : (300 : Int) ≤ (cp : Int) := by omega
  have CG := fun wr (hb : Below w.heap.size w wr) => R.greatest (some ad) cp 300 m wr (hf'.later hb) hM' (Nat.le_refl _) hcp
  have C12 : Hid (∀ wr, Below w.heap.size w wr → Calls Try.prog 11 #[.slice (some ⟨wr.heap.size, 0, none⟩) 2 2] (wr.alloc (.cells #[.float .f64 4607182418800017408, .float .f64 4611686018427387904] 23)) fun e w' => e = .returned (.int .i64 1) ∧ Below w.heap.size w w') := Lib.hid fun wr hb => by
    have h := R.greatest (some ⟨wr.heap.size, 0, none⟩) 2 2 [4607182418800017408, 4611686018427387904] (wr.alloc (.cells #[.float .f64 4607182418800017408, .float .f64 4611686018427387904] 23)) (by rw [World.size_alloc]; exact FSl.two wr _ _) rfl (by omega) (by omega)
    rw [fGr_12] at h
    exact h.mono fun e w' hh => ⟨hh.1, below_on (hb.alloc hb.size _) hh.2⟩
  have hle' := hf'.le
  rw [hM'] at hle'
  have hget : Hid (∀ k, k < 300 → ∃ ad', (some ad) = some ad' ∧ w.cell? (ad'.add k) = some (.float .f64 (m.getD k 0)) ∧ (ad'.add k).block < w.heap.size) := Lib.hid fun k hk => by
    have hx := floats_len (l := m) (k := k) (by omega)
    exact ⟨ad, rfl, (hf'.at_ ad rfl).2 k _ hx, by rw [add_blockF]; exact (hf'.at_ ad rfl).1 (by omega)⟩
  have hlo := fGr_lo m 300
  have hnum := fGr_num m 300
  have hmax := fGr_max m 300
  obtain ⟨k, hk⟩ : ∃ k, k = fGr m 300 := ⟨_, rfl⟩
  rw [← hk] at CG hlo hnum hmax
  clear R
  replace CG := Lib.hid CG
  replace hmax := Lib.hid hmax
  replace hk := Lib.hid hk
  replace hf' := Lib.hid hf'
  replace hM' := Lib.hid hM'
  have ka : ¬ (k < -1) := by omega
  have kb : ¬ ((300 : Int) ≤ k) := by omega
  have kc : decide ((300 : Int) ≤ k) = false := decide_eq_false kb
  have kd : decide (k < -1) = false := decide_eq_false ka
  have g0 := Lib.hid (Below.refl w.heap.size w)
  go_enter Try.func4, Try.ntmps4
  go_wp2_with fail
  refine (CG.out w g0.out).mono ?_
  rintro _ w1 ⟨rfl, g1⟩
  replace g1 := Lib.hid (below_on g0.out g1)
  dsimp only []
  by_cases hk0 : k < 0
  · have ke : decide ((0 : Int) ≤ k) = false := decide_eq_false (by omega)
    replace hnum := Lib.hid hnum
    go_wp2_with fail
    go_quiet (fail)
    go_wp2_with fail
    go_loopw [4] (fun u wr => ∃ n : Nat, n ≤ 300 ∧ u = .int .i64 (n : Int) ∧ Hid (Below w.heap.size w wr)) (fun u _ => 300 - (intOf u).toNat)
    case atStart => exact ⟨0, Nat.zero_le _, rfl, Lib.hid (below_drewN g1.out _)⟩
    case round =>
      obtain ⟨n, hn, rfl, HB⟩ := hrel
      by_cases hnl : n < 300
      · obtain ⟨ad2, e2, hc, hcb⟩ := hget.out n hnl
        injection e2 with e2
        subst e2
        replace hc := (HB.out.cell hcb).trans hc
        have hmx := hmax.out n hnl
        obtain ⟨x, hx⟩ : ∃ x, x = m.getD n 0 := ⟨_, rfl⟩
        rw [← hx] at hc hmx
        replace hcb := Lib.hid hcb
        replace hx := Lib.hid hx
        have e1 := ord_self x
        have i0 : (0 : Int) ≤ (n : Int) := by omega
        have i1 : (n : Int) < (300 : Int) := by omega
        by_cases hnan : fNan x
        · rw [decide_eq_false (fun h => h hnan)] at e1
          have e2 : (FloatKind.f64.format.order x x == some .eq) = false := e1
          clear e1 hmx
          replace hnan := Lib.hid hnan
          go_wp2_with fail
          go_quiet (fail)
          go_wp2_with fail
          go_roundw
          case rel => exact ⟨n + 1, by omega, by go_num, Lib.hid (below_drewN HB.out _)⟩
          case measure => simp [intOf]; omega
        · have := (hmx hnan).1
          omega
      · have hLn : 300 = n := by omega
        subst hLn
        have i1 : ¬ ((300 : Int) < (300 : Int)) := by omega
        go_wp2_with fail
        refine (C12.out wr HB.out).mono ?_
        rintro _ w5 ⟨rfl, g5⟩
        dsimp only []
        go_wp2_with fail
        go_ret
        exact ⟨rfl, g5⟩
  · obtain ⟨m0, hm0⟩ : ∃ m0 : Nat, k = (m0 : Int) := ⟨k.toNat, by omega⟩
    subst hm0
    rw [Int.toNat_natCast] at hnum
    replace hmax := hmax.out
    rw [Int.toNat_natCast] at hmax
    replace hmax := Lib.hid hmax
    obtain ⟨ad', e', hd, hdb⟩ := hget.out m0 (by omega)
    injection e' with e'
    subst e'
    have hd1 := (g1.out.cell hdb).trans hd
    have hyn := hnum (by omega)
    obtain ⟨y, hy⟩ : ∃ y, y = m.getD m0 0 := ⟨_, rfl⟩
    rw [← hy] at hd1 hd hyn
    replace hmax := hmax.out
    rw [← hy] at hmax
    replace hmax := Lib.hid hmax
    have ey := ord_self_ne y
    rw [decide_eq_false hyn] at ey
    have ke : decide ((0 : Int) ≤ (m0 : Int)) = true := decide_eq_true (by omega)
    have kf : (0 : Int) ≤ (m0 : Int) := by omega
    have kg : (m0 : Int) < (300 : Int) := by omega
    have kh : decide ((m0 : Int) < 0) = false := decide_eq_false (by omega)
    have ki : decide (300 ≤ m0) = false := decide_eq_false (by omega)
    replace hdb := Lib.hid hdb
    replace hy := Lib.hid hy
    replace hyn := Lib.hid hyn
    replace hd := Lib.hid hd
    clear hnum
    go_wp2_with fail
    go_quiet (fail)
    go_wp2_with fail
    clear hd1 ey
    go_loopw [4] (fun u wr => ∃ n : Nat, n ≤ 300 ∧ u = .int .i64 (n : Int) ∧ Hid (Below w.heap.size w wr)) (fun u _ => 300 - (intOf u).toNat)
    case atStart => exact ⟨0, Nat.zero_le _, rfl, Lib.hid (below_drewN g1.out _)⟩
    case round =>
      obtain ⟨n, hn, rfl, HB⟩ := hrel
      by_cases hnl : n < 300
      · obtain ⟨ad2, e2, hc, hcb⟩ := hget.out n hnl
        injection e2 with e2
        subst e2
        replace hc := (HB.out.cell hcb).trans hc
        have hmx := hmax.out n hnl
        obtain ⟨x, hx⟩ : ∃ x, x = m.getD n 0 := ⟨_, rfl⟩
        rw [← hx] at hc hmx
        replace hcb := Lib.hid hcb
        replace hx := Lib.hid hx
        have e1 := ord_self x
        have i0 : (0 : Int) ≤ (n : Int) := by omega
        have i1 : (n : Int) < (300 : Int) := by omega
        by_cases hnan : fNan x
        · rw [decide_eq_false (fun h => h hnan)] at e1
          have e2 : (FloatKind.f64.format.order x x == some .eq) = false := e1
          clear e1 hmx
          replace hnan := Lib.hid hnan
          go_wp2_with fail
          go_quiet (fail)
          go_wp2_with fail
          go_roundw
          case rel => exact ⟨n + 1, by omega, by go_num, Lib.hid (below_drewN HB.out _)⟩
          case measure => simp [intOf]; omega
        · rw [decide_eq_true hnan] at e1
          have e2 : (FloatKind.f64.format.order x x == some .eq) = true := e1
          clear e1
          obtain ⟨_, hm1, hm2⟩ := hmx hnan
          clear hmx
          have hd2 := (HB.out.cell hdb.out).trans hd.out
          have e3 : (FloatKind.f64.format.order x y == some .gt) = _ := ord_gt x y
          rw [decide_eq_false (fun h => by omega)] at e3
          by_cases hnm : (n : Int) < (m0 : Int)
          · have e4 : (FloatKind.f64.format.order x y == some .eq) = _ := ord_eq x y
            rw [decide_eq_false (fun h => by have := hm2 hnm; omega)] at e4
            replace hm1 := Lib.hid hm1
            replace hm2 := Lib.hid hm2
            replace hnan := Lib.hid hnan
            go_wp2_with fail
            go_quiet (fail)
            go_wp2_with fail
            go_roundw
            case rel => exact ⟨n + 1, by omega, by go_num, Lib.hid (below_drewN HB.out _)⟩
            case measure => simp [intOf]; omega
          · have e5 : decide ((n : Int) < (m0 : Int)) = false := decide_eq_false hnm
            have e6 : decide (n < m0) = false := decide_eq_false (by omega)
            replace hm1 := Lib.hid hm1
            replace hm2 := Lib.hid hm2
            replace hnan := Lib.hid hnan
            go_wp2_with fail
            go_quiet (fail)
            go_wp2_with fail
            go_roundw
            case rel => exact ⟨n + 1, by omega, by go_num, Lib.hid (below_drewN HB.out _)⟩
            case measure => simp [intOf]; omega
      · have hLn : 300 = n := by omega
        subst hLn
        have i1 : ¬ ((300 : Int) < (300 : Int)) := by omega
        go_wp2_with fail
        refine (C12.out wr HB.out).mono ?_
        rintro _ w5 ⟨rfl, g5⟩
        dsimp only []
        go_wp2_with fail
        go_ret
        exact ⟨rfl, g5⟩
theorem great_walk6 (R : RHypP) (A : Option Addr) (cp M : Nat) (l : List Nat) (w : World) (hf : FSl w w.heap.size A cp l) (hM : l.length = M) (hcp : cp ≤ 9223372036854775807) :
    Calls Try.prog 4 #[.slice A M cp] w fun e w' => e = .returned (.bool true) ∧ Below w.heap.size w w' := by
  rcases Nat.lt_or_ge 300 M with h | h
  · exact great_long R A cp M l w hf hM hcp h
  · exact great_short R A cp M l w hf hM hcp h
end Go.Proofs.Ytdojbgfkcleeaaa
