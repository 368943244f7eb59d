/-
  The document's Read of an integer's bytes is the plain reading of a list of bytes.
-/
import Derived.Test.YthdiaghkpolonaaWNum
namespace Go.Proofs.Ythdiaghkpolonaa
open Go.RowKit

set_option maxRecDepth 4000 in
set_option maxHeartbeats 800000 in
theorem rw_one_pos (b off cp : Nat) (l : List Nat) (w : World) (_h0 : 0 < l.length) (_h8 : l.length ≤ 8) (hc : Hid (∀ (j : Nat) (hj : j < l.length), w.cell? ⟨b, off + j, none⟩ = some (.int .u8 ((l[j] : Nat) : Int)))) (hby : Hid (∀ x ∈ l, x < 256))
    (hra : Hid (∀ k, k ≤ 7 → k ≤ l.length → -36028797018963968 ≤ part false l k ∧ part false l k < 36028797018963968)) (HF : Hid (part false l l.length = sgn l)) (HX : Hid (rdW l = (sgn l, 0))) (x : Nat) (hx : w.cell? ⟨b, off, none⟩ = some (.int .u8 (x : Int))) (h1 : l.length = 1) (hx1 : x < 128) :
    Calls Try.prog 5 #[.slice (some ⟨b, off, none⟩) l.length cp] w fun e w' => e = .returned (tupW (rdW l)) ∧ w = w' := by
  have kn : ((l.length : Int) == 0) = false := beq_eq_false_iff_ne.2 (by omega)
  have hx2 : (x : Int) ≤ 127 := by omega
  go_enter Try.func5, Try.ntmps5
  go_wp2_with fail
  go_loop [4, 5] (fun n i => ∃ k : Nat, k ≤ l.length ∧ i = .int .i64 (k : Int) ∧ n = .int .i64 (part false l k)) (fun _ i => l.length - (intOf i).toNat)
  case atStart => exact ⟨0, Nat.zero_le _, rfl, by rw [part_zero]; rfl⟩
  case round =>
    obtain ⟨k, hk, rfl, hn⟩ := hrel
    by_cases hkl : k = l.length
    · subst hkl
      rw [HF.out] at hn
      obtain rfl := hn
      go_wp2_with fail
      go_ret2
      exact ⟨by rw [HX.out]; rfl, rfl⟩
    · have hkl2 : k < l.length := by omega
      have hcell := hc.out k hkl2
      have hp := part_succ false l k hkl2
      have hr := hra.out k (by omega) (by omega)
      obtain ⟨c, hce⟩ : ∃ c, c = l[k] := ⟨_, rfl⟩
      have hc256 : c < 256 := by rw [hce]; exact hby.out _ (List.getElem_mem hkl2)
      rw [← hce] at hcell hp
      obtain ⟨a, ha⟩ : ∃ a, a = part false l k := ⟨_, rfl⟩
      rw [← ha] at hn hp hr
      obtain rfl := hn
      have hor := or_low a c hc256 hr.1 hr.2
      obtain ⟨hr1, hr2⟩ := hr
      replace hp := Lib.hid hp
      clear hce ha
      go_wp2_with fail
      go_round
      case rel => exact ⟨k + 1, by omega, by go_num, by rw [hp.out]⟩
      case measure => simp [intOf]; omega

set_option maxRecDepth 4000 in
set_option maxHeartbeats 800000 in
theorem rw_one_neg (b off cp : Nat) (l : List Nat) (w : World) (_h0 : 0 < l.length) (_h8 : l.length ≤ 8) (hc : Hid (∀ (j : Nat) (hj : j < l.length), w.cell? ⟨b, off + j, none⟩ = some (.int .u8 ((l[j] : Nat) : Int)))) (hby : Hid (∀ x ∈ l, x < 256))
    (hra : Hid (∀ k, k ≤ 7 → k ≤ l.length → -36028797018963968 ≤ part true l k ∧ part true l k < 36028797018963968)) (HF : Hid (part true l l.length = sgn l)) (HX : Hid (rdW l = (sgn l, 0))) (x : Nat) (hx : w.cell? ⟨b, off, none⟩ = some (.int .u8 (x : Int))) (h1 : l.length = 1) (hx1 : 128 ≤ x) :
    Calls Try.prog 5 #[.slice (some ⟨b, off, none⟩) l.length cp] w fun e w' => e = .returned (tupW (rdW l)) ∧ w = w' := by
  have kn : ((l.length : Int) == 0) = false := beq_eq_false_iff_ne.2 (by omega)
  have hx2 : ¬ (x : Int) ≤ 127 := by omega
  go_enter Try.func5, Try.ntmps5
  go_wp2_with fail
  go_loop [4, 5] (fun n i => ∃ k : Nat, k ≤ l.length ∧ i = .int .i64 (k : Int) ∧ n = .int .i64 (part true l k)) (fun _ i => l.length - (intOf i).toNat)
  case atStart => exact ⟨0, Nat.zero_le _, rfl, by rw [part_zero]; rfl⟩
  case round =>
    obtain ⟨k, hk, rfl, hn⟩ := hrel
    by_cases hkl : k = l.length
    · subst hkl
      rw [HF.out] at hn
      obtain rfl := hn
      go_wp2_with fail
      go_ret2
      exact ⟨by rw [HX.out]; rfl, rfl⟩
    · have hkl2 : k < l.length := by omega
      have hcell := hc.out k hkl2
      have hp := part_succ true l k hkl2
      have hr := hra.out k (by omega) (by omega)
      obtain ⟨c, hce⟩ : ∃ c, c = l[k] := ⟨_, rfl⟩
      have hc256 : c < 256 := by rw [hce]; exact hby.out _ (List.getElem_mem hkl2)
      rw [← hce] at hcell hp
      obtain ⟨a, ha⟩ : ∃ a, a = part true l k := ⟨_, rfl⟩
      rw [← ha] at hn hp hr
      obtain rfl := hn
      have hor := or_low a c hc256 hr.1 hr.2
      obtain ⟨hr1, hr2⟩ := hr
      replace hp := Lib.hid hp
      clear hce ha
      go_wp2_with fail
      go_round
      case rel => exact ⟨k + 1, by omega, by go_num, by rw [hp.out]⟩
      case measure => simp [intOf]; omega

set_option maxRecDepth 4000 in
set_option maxHeartbeats 800000 in
theorem rw_zero (b off cp : Nat) (l : List Nat) (w : World) (_h0 : 0 < l.length) (_h8 : l.length ≤ 8) (hc : Hid (∀ (j : Nat) (hj : j < l.length), w.cell? ⟨b, off + j, none⟩ = some (.int .u8 ((l[j] : Nat) : Int)))) (hby : Hid (∀ x ∈ l, x < 256))
    (hra : Hid (∀ k, k ≤ 7 → k ≤ l.length → -36028797018963968 ≤ part false l k ∧ part false l k < 36028797018963968)) (HF : Hid (part false l l.length = sgn l)) (HX : Hid (rdW l = (sgn l, 0))) (x : Nat) (hx : w.cell? ⟨b, off, none⟩ = some (.int .u8 (x : Int))) (y : Nat) (h2 : 1 < l.length) (_hy : w.cell? ⟨b, off + 1, none⟩ = some (.int .u8 (y : Int))) (hx0 : x = 0) (hy1 : 128 ≤ y) :
    Calls Try.prog 5 #[.slice (some ⟨b, off, none⟩) l.length cp] w fun e w' => e = .returned (tupW (rdW l)) ∧ w = w' := by
  have kn : ((l.length : Int) == 0) = false := beq_eq_false_iff_ne.2 (by omega)
  subst hx0
  have k3 : decide (1 < (l.length : Int)) = true := decide_eq_true (by omega)
  have ky : decide ((y : Int) < 128) = false := decide_eq_false (by omega)
  go_enter Try.func5, Try.ntmps5
  go_wp2_with fail
  go_loop [4, 5] (fun n i => ∃ k : Nat, k ≤ l.length ∧ i = .int .i64 (k : Int) ∧ n = .int .i64 (part false l k)) (fun _ i => l.length - (intOf i).toNat)
  case atStart => exact ⟨0, Nat.zero_le _, rfl, by rw [part_zero]; rfl⟩
  case round =>
    obtain ⟨k, hk, rfl, hn⟩ := hrel
    by_cases hkl : k = l.length
    · subst hkl
      rw [HF.out] at hn
      obtain rfl := hn
      go_wp2_with fail
      go_ret2
      exact ⟨by rw [HX.out]; rfl, rfl⟩
    · have hkl2 : k < l.length := by omega
      have hcell := hc.out k hkl2
      have hp := part_succ false l k hkl2
      have hr := hra.out k (by omega) (by omega)
      obtain ⟨c, hce⟩ : ∃ c, c = l[k] := ⟨_, rfl⟩
      have hc256 : c < 256 := by rw [hce]; exact hby.out _ (List.getElem_mem hkl2)
      rw [← hce] at hcell hp
      obtain ⟨a, ha⟩ : ∃ a, a = part false l k := ⟨_, rfl⟩
      rw [← ha] at hn hp hr
      obtain rfl := hn
      have hor := or_low a c hc256 hr.1 hr.2
      obtain ⟨hr1, hr2⟩ := hr
      replace hp := Lib.hid hp
      clear hce ha
      go_wp2_with fail
      go_round
      case rel => exact ⟨k + 1, by omega, by go_num, by rw [hp.out]⟩
      case measure => simp [intOf]; omega

set_option maxRecDepth 4000 in
set_option maxHeartbeats 800000 in
theorem rw_ff (b off cp : Nat) (l : List Nat) (w : World) (_h0 : 0 < l.length) (_h8 : l.length ≤ 8) (hc : Hid (∀ (j : Nat) (hj : j < l.length), w.cell? ⟨b, off + j, none⟩ = some (.int .u8 ((l[j] : Nat) : Int)))) (hby : Hid (∀ x ∈ l, x < 256))
    (hra : Hid (∀ k, k ≤ 7 → k ≤ l.length → -36028797018963968 ≤ part true l k ∧ part true l k < 36028797018963968)) (HF : Hid (part true l l.length = sgn l)) (HX : Hid (rdW l = (sgn l, 0))) (x : Nat) (hx : w.cell? ⟨b, off, none⟩ = some (.int .u8 (x : Int))) (y : Nat) (h2 : 1 < l.length) (_hy : w.cell? ⟨b, off + 1, none⟩ = some (.int .u8 (y : Int))) (hx0 : x = 255) (hy1 : y < 128) :
    Calls Try.prog 5 #[.slice (some ⟨b, off, none⟩) l.length cp] w fun e w' => e = .returned (tupW (rdW l)) ∧ w = w' := by
  have kn : ((l.length : Int) == 0) = false := beq_eq_false_iff_ne.2 (by omega)
  subst hx0
  have k3 : decide (1 < (l.length : Int)) = true := decide_eq_true (by omega)
  have ky : decide (127 < (y : Int)) = false := decide_eq_false (by omega)
  go_enter Try.func5, Try.ntmps5
  go_wp2_with fail
  go_loop [4, 5] (fun n i => ∃ k : Nat, k ≤ l.length ∧ i = .int .i64 (k : Int) ∧ n = .int .i64 (part true l k)) (fun _ i => l.length - (intOf i).toNat)
  case atStart => exact ⟨0, Nat.zero_le _, rfl, by rw [part_zero]; rfl⟩
  case round =>
    obtain ⟨k, hk, rfl, hn⟩ := hrel
    by_cases hkl : k = l.length
    · subst hkl
      rw [HF.out] at hn
      obtain rfl := hn
      go_wp2_with fail
      go_ret2
      exact ⟨by rw [HX.out]; rfl, rfl⟩
    · have hkl2 : k < l.length := by omega
      have hcell := hc.out k hkl2
      have hp := part_succ true l k hkl2
      have hr := hra.out k (by omega) (by omega)
      obtain ⟨c, hce⟩ : ∃ c, c = l[k] := ⟨_, rfl⟩
      have hc256 : c < 256 := by rw [hce]; exact hby.out _ (List.getElem_mem hkl2)
      rw [← hce] at hcell hp
      obtain ⟨a, ha⟩ : ∃ a, a = part true l k := ⟨_, rfl⟩
      rw [← ha] at hn hp hr
      obtain rfl := hn
      have hor := or_low a c hc256 hr.1 hr.2
      obtain ⟨hr1, hr2⟩ := hr
      replace hp := Lib.hid hp
      clear hce ha
      go_wp2_with fail
      go_round
      case rel => exact ⟨k + 1, by omega, by go_num, by rw [hp.out]⟩
      case measure => simp [intOf]; omega

set_option maxRecDepth 4000 in
set_option maxHeartbeats 800000 in
theorem rw_mid_pos (b off cp : Nat) (l : List Nat) (w : World) (_h0 : 0 < l.length) (_h8 : l.length ≤ 8) (hc : Hid (∀ (j : Nat) (hj : j < l.length), w.cell? ⟨b, off + j, none⟩ = some (.int .u8 ((l[j] : Nat) : Int)))) (hby : Hid (∀ x ∈ l, x < 256))
    (hra : Hid (∀ k, k ≤ 7 → k ≤ l.length → -36028797018963968 ≤ part false l k ∧ part false l k < 36028797018963968)) (HF : Hid (part false l l.length = sgn l)) (HX : Hid (rdW l = (sgn l, 0))) (x : Nat) (hx : w.cell? ⟨b, off, none⟩ = some (.int .u8 (x : Int))) (y : Nat) (h2 : 1 < l.length) (_hy : w.cell? ⟨b, off + 1, none⟩ = some (.int .u8 (y : Int))) (hx0 : x ≠ 0) (hx1 : x < 128) :
    Calls Try.prog 5 #[.slice (some ⟨b, off, none⟩) l.length cp] w fun e w' => e = .returned (tupW (rdW l)) ∧ w = w' := by
  have kn : ((l.length : Int) == 0) = false := beq_eq_false_iff_ne.2 (by omega)
  have k3 : decide (1 < (l.length : Int)) = true := decide_eq_true (by omega)
  have k1 : ((x : Int) == 0) = false := beq_eq_false_iff_ne.2 (by omega)
  have k2 : ((x : Int) == 255) = false := beq_eq_false_iff_ne.2 (by omega)
  go_enter Try.func5, Try.ntmps5
  go_wp2_with fail
  go_loop [4, 5] (fun n i => ∃ k : Nat, k ≤ l.length ∧ i = .int .i64 (k : Int) ∧ n = .int .i64 (part false l k)) (fun _ i => l.length - (intOf i).toNat)
  case atStart => exact ⟨0, Nat.zero_le _, rfl, by rw [part_zero]; rfl⟩
  case round =>
    obtain ⟨k, hk, rfl, hn⟩ := hrel
    by_cases hkl : k = l.length
    · subst hkl
      rw [HF.out] at hn
      obtain rfl := hn
      go_wp2_with fail
      go_ret2
      exact ⟨by rw [HX.out]; rfl, rfl⟩
    · have hkl2 : k < l.length := by omega
      have hcell := hc.out k hkl2
      have hp := part_succ false l k hkl2
      have hr := hra.out k (by omega) (by omega)
      obtain ⟨c, hce⟩ : ∃ c, c = l[k] := ⟨_, rfl⟩
      have hc256 : c < 256 := by rw [hce]; exact hby.out _ (List.getElem_mem hkl2)
      rw [← hce] at hcell hp
      obtain ⟨a, ha⟩ : ∃ a, a = part false l k := ⟨_, rfl⟩
      rw [← ha] at hn hp hr
      obtain rfl := hn
      have hor := or_low a c hc256 hr.1 hr.2
      obtain ⟨hr1, hr2⟩ := hr
      replace hp := Lib.hid hp
      clear hce ha
      go_wp2_with fail
      go_round
      case rel => exact ⟨k + 1, by omega, by go_num, by rw [hp.out]⟩
      case measure => simp [intOf]; omega

set_option maxRecDepth 4000 in
set_option maxHeartbeats 800000 in
theorem rw_mid_neg (b off cp : Nat) (l : List Nat) (w : World) (_h0 : 0 < l.length) (_h8 : l.length ≤ 8) (hc : Hid (∀ (j : Nat) (hj : j < l.length), w.cell? ⟨b, off + j, none⟩ = some (.int .u8 ((l[j] : Nat) : Int)))) (hby : Hid (∀ x ∈ l, x < 256))
    (hra : Hid (∀ k, k ≤ 7 → k ≤ l.length → -36028797018963968 ≤ part true l k ∧ part true l k < 36028797018963968)) (HF : Hid (part true l l.length = sgn l)) (HX : Hid (rdW l = (sgn l, 0))) (x : Nat) (hx : w.cell? ⟨b, off, none⟩ = some (.int .u8 (x : Int))) (y : Nat) (h2 : 1 < l.length) (_hy : w.cell? ⟨b, off + 1, none⟩ = some (.int .u8 (y : Int))) (hx0 : x ≠ 255) (hx1 : 128 ≤ x) :
    Calls Try.prog 5 #[.slice (some ⟨b, off, none⟩) l.length cp] w fun e w' => e = .returned (tupW (rdW l)) ∧ w = w' := by
  have kn : ((l.length : Int) == 0) = false := beq_eq_false_iff_ne.2 (by omega)
  have k3 : decide (1 < (l.length : Int)) = true := decide_eq_true (by omega)
  have k1 : ((x : Int) == 0) = false := beq_eq_false_iff_ne.2 (by omega)
  have k2 : ((x : Int) == 255) = false := beq_eq_false_iff_ne.2 (by omega)
  go_enter Try.func5, Try.ntmps5
  go_wp2_with fail
  go_loop [4, 5] (fun n i => ∃ k : Nat, k ≤ l.length ∧ i = .int .i64 (k : Int) ∧ n = .int .i64 (part true l k)) (fun _ i => l.length - (intOf i).toNat)
  case atStart => exact ⟨0, Nat.zero_le _, rfl, by rw [part_zero]; rfl⟩
  case round =>
    obtain ⟨k, hk, rfl, hn⟩ := hrel
    by_cases hkl : k = l.length
    · subst hkl
      rw [HF.out] at hn
      obtain rfl := hn
      go_wp2_with fail
      go_ret2
      exact ⟨by rw [HX.out]; rfl, rfl⟩
    · have hkl2 : k < l.length := by omega
      have hcell := hc.out k hkl2
      have hp := part_succ true l k hkl2
      have hr := hra.out k (by omega) (by omega)
      obtain ⟨c, hce⟩ : ∃ c, c = l[k] := ⟨_, rfl⟩
      have hc256 : c < 256 := by rw [hce]; exact hby.out _ (List.getElem_mem hkl2)
      rw [← hce] at hcell hp
      obtain ⟨a, ha⟩ : ∃ a, a = part true l k := ⟨_, rfl⟩
      rw [← ha] at hn hp hr
      obtain rfl := hn
      have hor := or_low a c hc256 hr.1 hr.2
      obtain ⟨hr1, hr2⟩ := hr
      replace hp := Lib.hid hp
      clear hce ha
      go_wp2_with fail
      go_round
      case rel => exact ⟨k + 1, by omega, by go_num, by rw [hp.out]⟩
      case measure => simp [intOf]; omega

set_option maxRecDepth 4000 in
set_option maxHeartbeats 800000 in
theorem rw_long0 (b off cp n x y : Nat) (w : World) (h2 : 2 ≤ n) (hn : n ≤ 1048600) (hx : w.cell? ⟨b, off, none⟩ = some (.int .u8 (x : Int))) (_hy : w.cell? ⟨b, off + 1, none⟩ = some (.int .u8 (y : Int))) (hx0 : x = 0) (hy1 : y < 128) :
    Calls Try.prog 5 #[.slice (some ⟨b, off, none⟩) n cp] w fun e w' => e = .returned (tupW (0, 11)) ∧ w = w' := by
  have kn : ((n : Int) == 0) = false := beq_eq_false_iff_ne.2 (by omega)
  have k3 : decide (1 < (n : Int)) = true := decide_eq_true (by omega)
  subst hx0
  have ky : decide ((y : Int) < 128) = true := decide_eq_true (by omega)
  go_enter Try.func5, Try.ntmps5
  go_wp2_with fail
  go_ret2
  exact ⟨rfl, rfl⟩

set_option maxRecDepth 4000 in
set_option maxHeartbeats 800000 in
theorem rw_long1 (b off cp n x y : Nat) (w : World) (h2 : 2 ≤ n) (hn : n ≤ 1048600) (hx : w.cell? ⟨b, off, none⟩ = some (.int .u8 (x : Int))) (_hy : w.cell? ⟨b, off + 1, none⟩ = some (.int .u8 (y : Int))) (hx0 : x = 255) (hy1 : 127 < y) :
    Calls Try.prog 5 #[.slice (some ⟨b, off, none⟩) n cp] w fun e w' => e = .returned (tupW (0, 11)) ∧ w = w' := by
  have kn : ((n : Int) == 0) = false := beq_eq_false_iff_ne.2 (by omega)
  have k3 : decide (1 < (n : Int)) = true := decide_eq_true (by omega)
  subst hx0
  have ky : decide (127 < (y : Int)) = true := decide_eq_true (by omega)
  go_enter Try.func5, Try.ntmps5
  go_wp2_with fail
  go_ret2
  exact ⟨rfl, rfl⟩

set_option maxRecDepth 4000 in
set_option maxHeartbeats 800000 in
theorem rw_big0 (b off cp n x y : Nat) (w : World) (h2 : 2 ≤ n) (hn : n ≤ 1048600) (hx : w.cell? ⟨b, off, none⟩ = some (.int .u8 (x : Int))) (_hy : w.cell? ⟨b, off + 1, none⟩ = some (.int .u8 (y : Int))) (h8 : 8 < n) (hx0 : x = 0) (hy1 : 128 ≤ y) :
    Calls Try.prog 5 #[.slice (some ⟨b, off, none⟩) n cp] w fun e w' => e = .returned (tupW (0, 3)) ∧ w = w' := by
  have kn : ((n : Int) == 0) = false := beq_eq_false_iff_ne.2 (by omega)
  have k3 : decide (1 < (n : Int)) = true := decide_eq_true (by omega)
  subst hx0
  have ky : decide ((y : Int) < 128) = false := decide_eq_false (by omega)
  have k8 : decide (8 < (n : Int)) = true := decide_eq_true (by omega)
  go_enter Try.func5, Try.ntmps5
  go_wp2_with fail
  go_ret2
  exact ⟨rfl, rfl⟩

set_option maxRecDepth 4000 in
set_option maxHeartbeats 800000 in
theorem rw_big1 (b off cp n x y : Nat) (w : World) (h2 : 2 ≤ n) (hn : n ≤ 1048600) (hx : w.cell? ⟨b, off, none⟩ = some (.int .u8 (x : Int))) (_hy : w.cell? ⟨b, off + 1, none⟩ = some (.int .u8 (y : Int))) (h8 : 8 < n) (hx0 : x = 255) (hy1 : y < 128) :
    Calls Try.prog 5 #[.slice (some ⟨b, off, none⟩) n cp] w fun e w' => e = .returned (tupW (0, 3)) ∧ w = w' := by
  have kn : ((n : Int) == 0) = false := beq_eq_false_iff_ne.2 (by omega)
  have k3 : decide (1 < (n : Int)) = true := decide_eq_true (by omega)
  subst hx0
  have ky : decide (127 < (y : Int)) = false := decide_eq_false (by omega)
  have k8 : decide (8 < (n : Int)) = true := decide_eq_true (by omega)
  go_enter Try.func5, Try.ntmps5
  go_wp2_with fail
  go_ret2
  exact ⟨rfl, rfl⟩

set_option maxRecDepth 4000 in
set_option maxHeartbeats 800000 in
theorem rw_big2 (b off cp n x y : Nat) (w : World) (h2 : 2 ≤ n) (hn : n ≤ 1048600) (hx : w.cell? ⟨b, off, none⟩ = some (.int .u8 (x : Int))) (_hy : w.cell? ⟨b, off + 1, none⟩ = some (.int .u8 (y : Int))) (h8 : 8 < n) (hx0 : x ≠ 0) (hx1 : x ≠ 255) :
    Calls Try.prog 5 #[.slice (some ⟨b, off, none⟩) n cp] w fun e w' => e = .returned (tupW (0, 3)) ∧ w = w' := by
  have kn : ((n : Int) == 0) = false := beq_eq_false_iff_ne.2 (by omega)
  have k3 : decide (1 < (n : Int)) = true := decide_eq_true (by omega)
  have k1 : ((x : Int) == 0) = false := beq_eq_false_iff_ne.2 (by omega)
  have k2 : ((x : Int) == 255) = false := beq_eq_false_iff_ne.2 (by omega)
  go_enter Try.func5, Try.ntmps5
  go_wp2_with fail
  go_ret2
  exact ⟨rfl, rfl⟩

/-- The document's Read, whatever the bytes. -/
theorem refRead_any (A : Option Addr) (cp : Nat) (l : List Nat) (w : World) (K : Nat) (hs : Src w K A cp l) (hl : l.length ≤ 1048600) (hby : ∀ x ∈ l, x < 256) :
    Calls Try.prog 5 #[.slice A l.length cp] w fun e w' => e = .returned (tupW (rdW l)) ∧ w = w' := by
  rcases hll : l with _ | ⟨x, r⟩
  · go_enter Try.func5, Try.ntmps5
    go_wp2_with fail
    go_ret2
    exact ⟨rfl, rfl⟩
  · rw [← hll]
    have h0 : 0 < l.length := by rw [hll]; simp
    obtain ⟨b, off, rfl, _, hc⟩ := hs.plain h0
    have hx : w.cell? ⟨b, off, none⟩ = some (.int .u8 (x : Int)) := by
      have := hc 0 h0
      simp only [hll] at this
      exact this
    have hpl := part_full l x r hll
    have hra : ∀ k, k ≤ 7 → k ≤ l.length → -36028797018963968 ≤ part (decide (128 ≤ x)) l k ∧ part (decide (128 ≤ x)) l k < 36028797018963968 := by
      intro k h1 h2
      rw [hll]
      rw [hll] at h2
      exact part_range x r (by rw [← hll]; exact hby) k h1 h2
    have hx256 : x < 256 := hby x (by rw [hll]; exact List.mem_cons_self ..)
    rcases r with _ | ⟨y, r⟩
    · have h1 : l.length = 1 := by rw [hll]; rfl
      have HX := rdW_num (l := l) (by rw [hll]; rintro (h | h) <;> cases h) (by omega)
      by_cases hx1 : x < 128
      · rw [show decide (128 ≤ x) = false from decide_eq_false (by omega)] at hpl hra
        exact rw_one_pos b off cp l w h0 (by omega) (Lib.hid hc) (Lib.hid hby) (Lib.hid hra) (Lib.hid hpl) (Lib.hid HX) x hx h1 hx1
      · rw [show decide (128 ≤ x) = true from decide_eq_true (by omega)] at hpl hra
        exact rw_one_neg b off cp l w h0 (by omega) (Lib.hid hc) (Lib.hid hby) (Lib.hid hra) (Lib.hid hpl) (Lib.hid HX) x hx h1 (by omega)
    · have h2 : 1 < l.length := by rw [hll]; simp
      have hy : w.cell? ⟨b, off + 1, none⟩ = some (.int .u8 (y : Int)) := by
        have := hc 1 h2
        simp only [hll] at this
        exact this
      have hL : longW l = ((decide (x = 0) && decide (y < 128)) || (decide (x = 255) && decide (127 < y))) := by rw [hll]; rfl
      by_cases a0 : x = 0
      · by_cases a1 : y < 128
        · rw [rdW_err (.inr (by rw [hL]; simp [a0, a1]))]
          exact rw_long0 b off cp l.length x y w (by omega) hl hx hy a0 a1
        · have hno : ¬ (l = [] ∨ longW l = true) := by
            rw [hL, hll]
            simp [a0, a1]
          by_cases h8 : 8 < l.length
          · rw [rdW_big hno h8]
            exact rw_big0 b off cp l.length x y w (by omega) hl hx hy h8 a0 (by omega)
          · rw [show decide (128 ≤ x) = false from decide_eq_false (by omega)] at hpl hra
            exact rw_zero b off cp l w h0 (by omega) (Lib.hid hc) (Lib.hid hby) (Lib.hid hra) (Lib.hid hpl) (Lib.hid (rdW_num hno h8)) x hx y h2 hy a0 (by omega)
      · by_cases a2 : x = 255
        · by_cases a1 : 127 < y
          · rw [rdW_err (.inr (by rw [hL]; simp [a2, a1]))]
            exact rw_long1 b off cp l.length x y w (by omega) hl hx hy a2 a1
          · have hno : ¬ (l = [] ∨ longW l = true) := by
              rw [hL, hll]
              simp [a2]
              omega
            by_cases h8 : 8 < l.length
            · rw [rdW_big hno h8]
              exact rw_big1 b off cp l.length x y w (by omega) hl hx hy h8 a2 (by omega)
            · rw [show decide (128 ≤ x) = true from decide_eq_true (by omega)] at hpl hra
              exact rw_ff b off cp l w h0 (by omega) (Lib.hid hc) (Lib.hid hby) (Lib.hid hra) (Lib.hid hpl) (Lib.hid (rdW_num hno h8)) x hx y h2 hy a2 (by omega)
        · have hno : ¬ (l = [] ∨ longW l = true) := by
            rw [hL, hll]
            simp [a0, a2]
          by_cases h8 : 8 < l.length
          · rw [rdW_big hno h8]
            exact rw_big2 b off cp l.length x y w (by omega) hl hx hy h8 a0 a2
          · by_cases hx1 : x < 128
            · rw [show decide (128 ≤ x) = false from decide_eq_false (by omega)] at hpl hra
              exact rw_mid_pos b off cp l w h0 (by omega) (Lib.hid hc) (Lib.hid hby) (Lib.hid hra) (Lib.hid hpl) (Lib.hid (rdW_num hno h8)) x hx y h2 hy a0 hx1
            · rw [show decide (128 ≤ x) = true from decide_eq_true (by omega)] at hpl hra
              exact rw_mid_neg b off cp l w h0 (by omega) (Lib.hid hc) (Lib.hid hby) (Lib.hid hra) (Lib.hid hpl) (Lib.hid (rdW_num hno h8)) x hx y h2 hy a2 (by omega)
end Go.Proofs.Ythdiaghkpolonaa
