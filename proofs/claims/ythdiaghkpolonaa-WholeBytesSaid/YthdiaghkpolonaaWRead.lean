/-
  The program's needless and Read: a number out of its bytes.
-/
import Derived.Test.YthdiaghkpolonaaWNum
import Derived.Deep.QuietTactic
import Derived.BigQuiet
import Derived.Lib.AppendIntMem
namespace Go.Proofs.Ythdiaghkpolonaa
open Go.RowKit Go.Lib

def ndl (x y : Nat) : Bool := (decide (x = 0) && decide (y < 128)) || (decide (x = 255) && decide (127 < y))
theorem longW_ndl (x y : Nat) (r : List Nat) : longW (x :: y :: r) = ndl x y := rfl
theorem and128 (c : Nat) (hc : c < 256) : bits .and .u8 (c : Int) 128 = ((c / 128 * 128 : Nat) : Int) := by
  have h : ∀ c : Fin 256, bits .and .u8 ((c.val : Nat) : Int) 128 = ((c.val / 128 * 128 : Nat) : Int) := by decide +kernel
  exact h ⟨c, hc⟩

set_option maxHeartbeats 400000 in
theorem needless_any (x y : Nat) (w : World) (hx : x < 256) (hy : y < 256) :
    Calls Try.prog 10 #[.int .u8 (x : Int), .int .u8 (y : Int)] w fun e w' => e = .returned (.bool (ndl x y)) ∧ w' = w := by
  have h1 := and128 y hy
  by_cases h2 : y < 128
  · have h3 : ((y / 128 * 128 : Nat) : Int) = 0 := by omega
    rw [h3] at h1
    have e : ndl x y = ((x : Int) == 0) := by
      unfold ndl
      rw [Bool.eq_iff_iff]
      simp
      omega
    rw [e]
    clear h3 e
    go_enter Try.func10, Try.ntmps10
    go_wp2_with fail
    go_ret
    exact ⟨rfl, rfl⟩
  · have h3 : ((y / 128 * 128 : Nat) : Int) = 128 := by omega
    rw [h3] at h1
    have e : ndl x y = ((x : Int) == 255) := by
      unfold ndl
      rw [Bool.eq_iff_iff]
      simp
      omega
    rw [e]
    clear h3 e
    go_enter Try.func10, Try.ntmps10
    go_wp2_with fail
    go_ret
    exact ⟨rfl, rfl⟩
theorem needless_is (v : Bool) (x y : Nat) (w : World) (hx : x < 256) (hy : y < 256) (hv : ndl x y = v) :
    Calls Try.prog 10 #[.int .u8 (x : Int), .int .u8 (y : Int)] w fun e w' => e = .returned (.bool v) ∧ w' = w := by
  rw [← hv]
  exact needless_any x y w hx hy

theorem below_drewN (w : World) (n : Nat) : Below w.heap.size w (w.drewN n) := below_grow w.heap.size w (Nat.le_refl _) n #[]

set_option maxRecDepth 4000 in
set_option maxHeartbeats 800000 in
/-- Nothing at all. -/
theorem wr_none (A : Option Addr) (cp : Nat) (w : World) :
    Calls Try.prog 4 #[.slice A 0 cp] w fun e w' => e = .returned (tupW (0, 11)) ∧ Below w.heap.size w w' := by
  go_enter Try.func4, Try.ntmps4
  go_wp2_with fail
  go_quiet (fail)
  go_wp2_with fail
  go_ret2
  exact ⟨rfl, below_drewN _ _⟩

set_option maxRecDepth 4000 in
set_option maxHeartbeats 800000 in
/-- Two bytes or more, the first needless. -/
theorem wr_long (b off cp n : Nat) (w : World) (h2 : 2 ≤ n) (hn : n ≤ 1048600) (x y : Nat) (hx : w.cell? ⟨b, off, none⟩ = some (.int .u8 (x : Int))) (hy : w.cell? ⟨b, off + 1, none⟩ = some (.int .u8 (y : Int))) (hx0 : x < 256) (hy0 : y < 256) (hv : ndl x y = true) :
    Calls Try.prog 4 #[.slice (some ⟨b, off, none⟩) n cp] w fun e w' => e = .returned (tupW (0, 11)) ∧ Below w.heap.size w w' := by
  have kn : ((n : Int) == 0) = false := beq_eq_false_iff_ne.2 (by omega)
  have k3 : decide (1 < (n : Int)) = true := decide_eq_true (by omega)
  have CN := fun w => needless_is true x y w hx0 hy0 hv
  replace CN := Lib.hid CN
  clear hv
  go_enter Try.func4, Try.ntmps4
  go_wp2_with fail
  go_quiet ((go_at_call 10; exact Calls.quiet_of_same (CN.out _)))
  go_wp2_with fail
  go_ret2
  exact ⟨rfl, below_drewN _ _⟩

set_option maxRecDepth 4000 in
set_option maxHeartbeats 800000 in
/-- Too many bytes. -/
theorem wr_big (b off cp n : Nat) (w : World) (h8 : 8 < n) (hn : n ≤ 1048600) (x y : Nat) (hx : w.cell? ⟨b, off, none⟩ = some (.int .u8 (x : Int))) (hy : w.cell? ⟨b, off + 1, none⟩ = some (.int .u8 (y : Int))) (hx0 : x < 256) (hy0 : y < 256) (hv : ndl x y = false) :
    Calls Try.prog 4 #[.slice (some ⟨b, off, none⟩) n cp] w fun e w' => e = .returned (tupW (0, 3)) ∧ Below w.heap.size w w' := by
  have kn : ((n : Int) == 0) = false := beq_eq_false_iff_ne.2 (by omega)
  have k3 : decide (1 < (n : Int)) = true := decide_eq_true (by omega)
  have k8 : decide (8 < (n : Int)) = true := decide_eq_true (by omega)
  have CN := fun w => needless_is false x y w hx0 hy0 hv
  replace CN := Lib.hid CN
  clear hv
  go_enter Try.func4, Try.ntmps4
  go_wp2_with fail
  go_quiet ((go_at_call 10; exact Calls.quiet_of_same (CN.out _)))
  go_wp2_with fail
  go_ret2
  exact ⟨rfl, below_drewN _ _⟩

set_option maxRecDepth 4000 in
set_option maxHeartbeats 800000 in
theorem wr_one_pos (b off cp : Nat) (l : List Nat) (w : World) (_h0 : 0 < l.length) (_h8 : l.length ≤ 8) (hc : Hid (∀ (j : Nat) (hj : j < l.length), w.cell? ⟨b, off + j, none⟩ = some (.int .u8 ((l[j] : Nat) : Int)))) (hby : Hid (∀ x ∈ l, x < 256))
    (hra : Hid (∀ k, k ≤ 7 → k ≤ l.length → -36028797018963968 ≤ part false l k ∧ part false l k < 36028797018963968)) (HF : Hid (part false l l.length = sgn l)) (HX : Hid (rdW l = (sgn l, 0))) (x : Nat) (hx : w.cell? ⟨b, off, none⟩ = some (.int .u8 (x : Int))) (hx0 : x < 256) (h1 : l.length = 1) (hx1 : x < 128) :
    Calls Try.prog 4 #[.slice (some ⟨b, off, none⟩) l.length cp] w fun e w' => e = .returned (tupW (rdW l)) ∧ Below w.heap.size w w' := by
  have kn : ((l.length : Int) == 0) = false := beq_eq_false_iff_ne.2 (by omega)
  have k3 : decide (1 < (l.length : Int)) = false := decide_eq_false (by omega)
  have k8 : decide (8 < (l.length : Int)) = false := decide_eq_false (by omega)
  have hs := and128 x hx0
  rw [show ((x / 128 * 128 : Nat) : Int) = 0 from by omega] at hs
  go_enter Try.func4, Try.ntmps4
  go_wp2_with fail
  go_quiet (fail)
  go_wp2_with fail
  go_loop [4, 34] (fun n i => ∃ k : Nat, k ≤ l.length ∧ i = .int .i64 (k : Int) ∧ n = .int .i64 (part false l k)) (fun _ i => l.length - (RowKit.intOf i).toNat)
  case atStart => exact ⟨0, Nat.zero_le _, rfl, by rw [part_zero]; rfl⟩
  case round =>
    obtain ⟨k, hk, rfl, hn⟩ := hrel
    by_cases hkl : k = l.length
    · subst hkl
      rw [HF.out] at hn
      obtain rfl := hn
      go_wp2_with fail
      go_ret2
      exact ⟨by rw [HX.out]; rfl, below_drewN _ _⟩
    · have hkl2 : k < l.length := by omega
      have hcell := hc.out k hkl2
      have hp := part_succ false l k hkl2
      have hr := hra.out k (by omega) (by omega)
      obtain ⟨c, hce⟩ : ∃ c, c = l[k] := ⟨_, rfl⟩
      have hc256 : c < 256 := by rw [hce]; exact hby.out _ (List.getElem_mem hkl2)
      rw [← hce] at hcell hp
      obtain ⟨a, ha⟩ : ∃ a, a = part false l k := ⟨_, rfl⟩
      rw [← ha] at hn hp hr
      obtain rfl := hn
      have hor := or_low a c hc256 hr.1 hr.2
      obtain ⟨hr1, hr2⟩ := hr
      replace hp := Lib.hid hp
      clear hce ha
      go_wp2_with fail
      go_round
      case rel => exact ⟨k + 1, by omega, by go_num, by rw [hp.out]⟩
      case measure => simp [RowKit.intOf]; omega

set_option maxRecDepth 4000 in
set_option maxHeartbeats 800000 in
theorem wr_two_pos (b off cp : Nat) (l : List Nat) (w : World) (_h0 : 0 < l.length) (_h8 : l.length ≤ 8) (hc : Hid (∀ (j : Nat) (hj : j < l.length), w.cell? ⟨b, off + j, none⟩ = some (.int .u8 ((l[j] : Nat) : Int)))) (hby : Hid (∀ x ∈ l, x < 256))
    (hra : Hid (∀ k, k ≤ 7 → k ≤ l.length → -36028797018963968 ≤ part false l k ∧ part false l k < 36028797018963968)) (HF : Hid (part false l l.length = sgn l)) (HX : Hid (rdW l = (sgn l, 0))) (x y : Nat) (hx : w.cell? ⟨b, off, none⟩ = some (.int .u8 (x : Int))) (hy : w.cell? ⟨b, off + 1, none⟩ = some (.int .u8 (y : Int))) (hx0 : x < 256) (hy0 : y < 256) (h2 : 1 < l.length) (hv : ndl x y = false) (hx1 : x < 128) :
    Calls Try.prog 4 #[.slice (some ⟨b, off, none⟩) l.length cp] w fun e w' => e = .returned (tupW (rdW l)) ∧ Below w.heap.size w w' := by
  have kn : ((l.length : Int) == 0) = false := beq_eq_false_iff_ne.2 (by omega)
  have k3 : decide (1 < (l.length : Int)) = true := decide_eq_true (by omega)
  have k8 : decide (8 < (l.length : Int)) = false := decide_eq_false (by omega)
  have hs := and128 x hx0
  rw [show ((x / 128 * 128 : Nat) : Int) = 0 from by omega] at hs
  have CN := fun w => needless_is false x y w hx0 hy0 hv
  replace CN := Lib.hid CN
  clear hv
  go_enter Try.func4, Try.ntmps4
  go_wp2_with fail
  go_quiet ((go_at_call 10; exact Calls.quiet_of_same (CN.out _)))
  go_wp2_with fail
  go_loop [4, 34] (fun n i => ∃ k : Nat, k ≤ l.length ∧ i = .int .i64 (k : Int) ∧ n = .int .i64 (part false l k)) (fun _ i => l.length - (RowKit.intOf i).toNat)
  case atStart => exact ⟨0, Nat.zero_le _, rfl, by rw [part_zero]; rfl⟩
  case round =>
    obtain ⟨k, hk, rfl, hn⟩ := hrel
    by_cases hkl : k = l.length
    · subst hkl
      rw [HF.out] at hn
      obtain rfl := hn
      go_wp2_with fail
      go_ret2
      exact ⟨by rw [HX.out]; rfl, below_drewN _ _⟩
    · have hkl2 : k < l.length := by omega
      have hcell := hc.out k hkl2
      have hp := part_succ false l k hkl2
      have hr := hra.out k (by omega) (by omega)
      obtain ⟨c, hce⟩ : ∃ c, c = l[k] := ⟨_, rfl⟩
      have hc256 : c < 256 := by rw [hce]; exact hby.out _ (List.getElem_mem hkl2)
      rw [← hce] at hcell hp
      obtain ⟨a, ha⟩ : ∃ a, a = part false l k := ⟨_, rfl⟩
      rw [← ha] at hn hp hr
      obtain rfl := hn
      have hor := or_low a c hc256 hr.1 hr.2
      obtain ⟨hr1, hr2⟩ := hr
      replace hp := Lib.hid hp
      clear hce ha
      go_wp2_with fail
      go_round
      case rel => exact ⟨k + 1, by omega, by go_num, by rw [hp.out]⟩
      case measure => simp [RowKit.intOf]; omega

set_option maxRecDepth 4000 in
set_option maxHeartbeats 800000 in
theorem wr_one_neg (b off cp : Nat) (l : List Nat) (w : World) (_h0 : 0 < l.length) (_h8 : l.length ≤ 8) (hc : Hid (∀ (j : Nat) (hj : j < l.length), w.cell? ⟨b, off + j, none⟩ = some (.int .u8 ((l[j] : Nat) : Int)))) (hby : Hid (∀ x ∈ l, x < 256))
    (hra : Hid (∀ k, k ≤ 7 → k ≤ l.length → -36028797018963968 ≤ part true l k ∧ part true l k < 36028797018963968)) (HF : Hid (part true l l.length = sgn l)) (HX : Hid (rdW l = (sgn l, 0))) (x : Nat) (hx : w.cell? ⟨b, off, none⟩ = some (.int .u8 (x : Int))) (hx0 : x < 256) (h1 : l.length = 1) (hx1 : 128 ≤ x) :
    Calls Try.prog 4 #[.slice (some ⟨b, off, none⟩) l.length cp] w fun e w' => e = .returned (tupW (rdW l)) ∧ Below w.heap.size w w' := by
  have kn : ((l.length : Int) == 0) = false := beq_eq_false_iff_ne.2 (by omega)
  have k3 : decide (1 < (l.length : Int)) = false := decide_eq_false (by omega)
  have k8 : decide (8 < (l.length : Int)) = false := decide_eq_false (by omega)
  have hs := and128 x hx0
  rw [show ((x / 128 * 128 : Nat) : Int) = 128 from by omega] at hs
  go_enter Try.func4, Try.ntmps4
  go_wp2_with fail
  go_quiet (fail)
  go_wp2_with fail
  go_loop [4, 34] (fun n i => ∃ k : Nat, k ≤ l.length ∧ i = .int .i64 (k : Int) ∧ n = .int .i64 (part true l k)) (fun _ i => l.length - (RowKit.intOf i).toNat)
  case atStart => exact ⟨0, Nat.zero_le _, rfl, by rw [part_zero]; rfl⟩
  case round =>
    obtain ⟨k, hk, rfl, hn⟩ := hrel
    by_cases hkl : k = l.length
    · subst hkl
      rw [HF.out] at hn
      obtain rfl := hn
      go_wp2_with fail
      go_ret2
      exact ⟨by rw [HX.out]; rfl, below_drewN _ _⟩
    · have hkl2 : k < l.length := by omega
      have hcell := hc.out k hkl2
      have hp := part_succ true l k hkl2
      have hr := hra.out k (by omega) (by omega)
      obtain ⟨c, hce⟩ : ∃ c, c = l[k] := ⟨_, rfl⟩
      have hc256 : c < 256 := by rw [hce]; exact hby.out _ (List.getElem_mem hkl2)
      rw [← hce] at hcell hp
      obtain ⟨a, ha⟩ : ∃ a, a = part true l k := ⟨_, rfl⟩
      rw [← ha] at hn hp hr
      obtain rfl := hn
      have hor := or_low a c hc256 hr.1 hr.2
      obtain ⟨hr1, hr2⟩ := hr
      replace hp := Lib.hid hp
      clear hce ha
      go_wp2_with fail
      go_round
      case rel => exact ⟨k + 1, by omega, by go_num, by rw [hp.out]⟩
      case measure => simp [RowKit.intOf]; omega

set_option maxRecDepth 4000 in
set_option maxHeartbeats 800000 in
theorem wr_two_neg (b off cp : Nat) (l : List Nat) (w : World) (_h0 : 0 < l.length) (_h8 : l.length ≤ 8) (hc : Hid (∀ (j : Nat) (hj : j < l.length), w.cell? ⟨b, off + j, none⟩ = some (.int .u8 ((l[j] : Nat) : Int)))) (hby : Hid (∀ x ∈ l, x < 256))
    (hra : Hid (∀ k, k ≤ 7 → k ≤ l.length → -36028797018963968 ≤ part true l k ∧ part true l k < 36028797018963968)) (HF : Hid (part true l l.length = sgn l)) (HX : Hid (rdW l = (sgn l, 0))) (x y : Nat) (hx : w.cell? ⟨b, off, none⟩ = some (.int .u8 (x : Int))) (hy : w.cell? ⟨b, off + 1, none⟩ = some (.int .u8 (y : Int))) (hx0 : x < 256) (hy0 : y < 256) (h2 : 1 < l.length) (hv : ndl x y = false) (hx1 : 128 ≤ x) :
    Calls Try.prog 4 #[.slice (some ⟨b, off, none⟩) l.length cp] w fun e w' => e = .returned (tupW (rdW l)) ∧ Below w.heap.size w w' := by
  have kn : ((l.length : Int) == 0) = false := beq_eq_false_iff_ne.2 (by omega)
  have k3 : decide (1 < (l.length : Int)) = true := decide_eq_true (by omega)
  have k8 : decide (8 < (l.length : Int)) = false := decide_eq_false (by omega)
  have hs := and128 x hx0
  rw [show ((x / 128 * 128 : Nat) : Int) = 128 from by omega] at hs
  have CN := fun w => needless_is false x y w hx0 hy0 hv
  replace CN := Lib.hid CN
  clear hv
  go_enter Try.func4, Try.ntmps4
  go_wp2_with fail
  go_quiet ((go_at_call 10; exact Calls.quiet_of_same (CN.out _)))
  go_wp2_with fail
  go_loop [4, 34] (fun n i => ∃ k : Nat, k ≤ l.length ∧ i = .int .i64 (k : Int) ∧ n = .int .i64 (part true l k)) (fun _ i => l.length - (RowKit.intOf i).toNat)
  case atStart => exact ⟨0, Nat.zero_le _, rfl, by rw [part_zero]; rfl⟩
  case round =>
    obtain ⟨k, hk, rfl, hn⟩ := hrel
    by_cases hkl : k = l.length
    · subst hkl
      rw [HF.out] at hn
      obtain rfl := hn
      go_wp2_with fail
      go_ret2
      exact ⟨by rw [HX.out]; rfl, below_drewN _ _⟩
    · have hkl2 : k < l.length := by omega
      have hcell := hc.out k hkl2
      have hp := part_succ true l k hkl2
      have hr := hra.out k (by omega) (by omega)
      obtain ⟨c, hce⟩ : ∃ c, c = l[k] := ⟨_, rfl⟩
      have hc256 : c < 256 := by rw [hce]; exact hby.out _ (List.getElem_mem hkl2)
      rw [← hce] at hcell hp
      obtain ⟨a, ha⟩ : ∃ a, a = part true l k := ⟨_, rfl⟩
      rw [← ha] at hn hp hr
      obtain rfl := hn
      have hor := or_low a c hc256 hr.1 hr.2
      obtain ⟨hr1, hr2⟩ := hr
      replace hp := Lib.hid hp
      clear hce ha
      go_wp2_with fail
      go_round
      case rel => exact ⟨k + 1, by omega, by go_num, by rw [hp.out]⟩
      case measure => simp [RowKit.intOf]; omega

/-- The program's Read, whatever the bytes. -/
theorem w_read (A : Option Addr) (cp : Nat) (l : List Nat) (w : World) (K : Nat) (hs : Src w K A cp l) (hl : l.length ≤ 1048600) (hby : ∀ x ∈ l, x < 256) :
    Calls Try.prog 4 #[.slice A l.length cp] w fun e w' => e = .returned (tupW (rdW l)) ∧ Below w.heap.size w w' := by
  rcases hll : l with _ | ⟨x, r⟩
  · exact wr_none A cp w
  · rw [← hll]
    have h0 : 0 < l.length := by rw [hll]; simp
    obtain ⟨b, off, rfl, _, hc⟩ := hs.plain h0
    have hx : w.cell? ⟨b, off, none⟩ = some (.int .u8 (x : Int)) := by
      have := hc 0 h0
      simp only [hll] at this
      exact this
    have hpl := part_full l x r hll
    have hra : ∀ k, k ≤ 7 → k ≤ l.length → -36028797018963968 ≤ part (decide (128 ≤ x)) l k ∧ part (decide (128 ≤ x)) l k < 36028797018963968 := by
      intro k h1 h2
      rw [hll]
      rw [hll] at h2
      exact part_range x r (by rw [← hll]; exact hby) k h1 h2
    have hx256 : x < 256 := hby x (by rw [hll]; exact List.mem_cons_self ..)
    rcases r with _ | ⟨y, r⟩
    · have h1 : l.length = 1 := by rw [hll]; rfl
      have HX := rdW_num (l := l) (by rw [hll]; rintro (h | h) <;> cases h) (by omega)
      by_cases hx1 : x < 128
      · rw [show decide (128 ≤ x) = false from decide_eq_false (by omega)] at hpl hra
        exact wr_one_pos b off cp l w h0 (by omega) (Lib.hid hc) (Lib.hid hby) (Lib.hid hra) (Lib.hid hpl) (Lib.hid HX) x hx hx256 h1 hx1
      · rw [show decide (128 ≤ x) = true from decide_eq_true (by omega)] at hpl hra
        exact wr_one_neg b off cp l w h0 (by omega) (Lib.hid hc) (Lib.hid hby) (Lib.hid hra) (Lib.hid hpl) (Lib.hid HX) x hx hx256 h1 (by omega)
    · have h2 : 1 < l.length := by rw [hll]; simp
      have hy : w.cell? ⟨b, off + 1, none⟩ = some (.int .u8 (y : Int)) := by
        have := hc 1 h2
        simp only [hll] at this
        exact this
      have hy256 : y < 256 := hby y (by rw [hll]; exact List.mem_cons_of_mem _ (List.mem_cons_self ..))
      have hL : longW l = ndl x y := by rw [hll]; rfl
      by_cases hv : ndl x y = true
      · rw [rdW_err (.inr (by rw [hL, hv]))]
        exact wr_long b off cp l.length w (by omega) hl x y hx hy hx256 hy256 hv
      · have hv2 : ndl x y = false := by simpa using hv
        have hno : ¬ (l = [] ∨ longW l = true) := by
          rw [hL, hv2, hll]
          simp
        by_cases h8 : 8 < l.length
        · rw [rdW_big hno h8]
          exact wr_big b off cp l.length w h8 hl x y hx hy hx256 hy256 hv2
        · by_cases hx1 : x < 128
          · rw [show decide (128 ≤ x) = false from decide_eq_false (by omega)] at hpl hra
            exact wr_two_pos b off cp l w h0 (by omega) (Lib.hid hc) (Lib.hid hby) (Lib.hid hra) (Lib.hid hpl) (Lib.hid (rdW_num hno h8)) x y hx hy hx256 hy256 h2 hv2 hx1
          · rw [show decide (128 ≤ x) = true from decide_eq_true (by omega)] at hpl hra
            exact wr_two_neg b off cp l w h0 (by omega) (Lib.hid hc) (Lib.hid hby) (Lib.hid hra) (Lib.hid hpl) (Lib.hid (rdW_num hno h8)) x y hx hy hx256 hy256 h2 hv2 (by omega)
end Go.Proofs.Ythdiaghkpolonaa
