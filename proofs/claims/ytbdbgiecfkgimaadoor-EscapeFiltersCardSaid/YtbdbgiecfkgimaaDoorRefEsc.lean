/-
  The document's small functions of escaping: among, two, digit, Unhex.
-/
import Derived.Test.YtbdbgiecfkgimaaDoorEscStr
import Derived.BigQuiet
namespace Go.Proofs.YtbdbgiecfkgimaaDoor
open Go.RowKit

set_option maxHeartbeats 400000 in
theorem among_any (l : ByteArray) (c : Nat) (w : World) (hl : l.size ≤ 1000) :
    Calls Tryd.prog 18 #[.string l, .int .u8 (c : Int)] w fun e w' => e = .returned (.bool (decide (c ∈ bs l))) ∧ w' = w := by
  go_enter Tryd.func18, Tryd.ntmps18
  go_wp2_with fail
  go_loop [5] (fun i => ∃ k : Nat, k ≤ l.size ∧ i = .int .i64 (k : Int) ∧ Hid (c ∉ (bs l).take k)) (fun i => l.size - (intOf i).toNat)
  case atStart => exact ⟨0, Nat.zero_le _, rfl, Lib.hid (by simp)⟩
  case round =>
    obtain ⟨k, hk, rfl, HF⟩ := hrel
    by_cases hlt : k < l.size
    · have i0 : (0 : Int) ≤ (k : Int) := by omega
      have i1 : (k : Int) < (l.size : Int) := by omega
      have hs := Lib.hid (bs_snocE l k hlt)
      have hm : Hid (l[k].toNat ∈ bs l) := Lib.hid (List.mem_of_getElem? (bs_atE l k hlt))
      obtain ⟨b, hb⟩ : ∃ b, l[k].toNat = b := ⟨_, rfl⟩
      have hbi : ((l[k].toNat : Nat) : Int) = (b : Int) := by rw [hb]
      rw [hb] at hs hm
      replace hb := Lib.hid hb
      by_cases e : b = c
      · have g1 : ((b : Int) == (c : Int)) = true := beq_iff_eq.2 (by omega)
        have g2 : (b : Int) = (c : Int) := by omega
        have hin : decide (c ∈ bs l) = true := decide_eq_true (by rw [← e]; exact hm.out)
        replace hin := Lib.hid hin
        replace e := Lib.hid e
        go_wp2_with fail
        go_ret
        exact ⟨by rw [hin.out]; rfl, rfl⟩
      · have g1 : ((b : Int) == (c : Int)) = false := beq_eq_false_iff_ne.2 (by omega)
        have g2 : ¬ (b : Int) = (c : Int) := by omega
        go_wp2_with fail
        go_round
        case rel =>
          refine ⟨k + 1, by omega, by go_num, Lib.hid fun h => ?_⟩
          rw [hs.out, List.mem_append, List.mem_singleton] at h
          rcases h with h | h
          · exact HF.out h
          · exact e h.symm
        case measure => simp [intOf]; omega
    · obtain rfl : k = l.size := by omega
      have hin : decide (c ∈ bs l) = false := decide_eq_false (by rw [← bs_endE l]; exact HF.out)
      replace hin := Lib.hid hin
      have i1 : ¬ ((l.size : Int) < (l.size : Int)) := by omega
      go_wp2_with fail
      go_ret
      exact ⟨by rw [hin.out]; rfl, rfl⟩
def digsE : ByteArray := ⟨#[48, 49, 50, 51, 52, 53, 54, 55, 56, 57, 97, 98, 99, 100, 101, 102]⟩
theorem digs_cut : ∀ a < 16, digsE.extract a (a + 1) = strB [hxE a] := by decide +kernel
set_option maxHeartbeats 400000 in
theorem two_any (c : Nat) (w : World) (hc : c < 256) :
    Calls Tryd.prog 26 #[.int .u8 (c : Int)] w fun e w' => e = .returned (.string (strB (twoE c))) ∧ Below w.heap.size w w' := by
  have d1 := digs_cut (c / 16) (by omega)
  have d2 := digs_cut (c % 16) (by omega)
  unfold digsE at d1 d2
  have q1 : (c : Int) / 16 = ((c / 16 : Nat) : Int) := by omega
  have q2 : (c : Int) % 16 = ((c % 16 : Nat) : Int) := by omega
  have ht : strB (twoE c) = strB [hxE (c / 16)] ++ strB [hxE (c % 16)] := by rw [strB_appE]; rfl
  have z1 := strB_sizeE [hxE (c / 16)]
  have z2 := strB_sizeE [hxE (c % 16)]
  obtain ⟨a, ha⟩ : ∃ a, c / 16 = a := ⟨_, rfl⟩
  obtain ⟨b, hb⟩ : ∃ b, c % 16 = b := ⟨_, rfl⟩
  have a16 : a < 16 := by omega
  have b16 : b < 16 := by omega
  rw [ha] at d1 q1 ht z1
  rw [hb] at d2 q2 ht z2
  have wr : ∀ n : Nat, n < 256 → IntKind.u8.wrap (n : Int) = (n : Int) := fun n h => IntWalk.u8_in _ (by omega)
  have e1 := wr a (by omega)
  have e2 : IntKind.u8.wrap ((a : Int) + 1) = (a : Int) + 1 := wr (a + 1) (by omega)
  have e3 := wr b (by omega)
  have e4 : IntKind.u8.wrap ((b : Int) + 1) = (b : Int) + 1 := wr (b + 1) (by omega)
  have a0 : (0 : Int) ≤ (a : Int) := by omega
  have a1 : (a : Int) ≤ (a : Int) + 1 := by omega
  have a2 : (a : Int) + 1 ≤ 16 := by omega
  have b0 : (0 : Int) ≤ (b : Int) := by omega
  have b1 : (b : Int) ≤ (b : Int) + 1 := by omega
  have b2 : (b : Int) + 1 ≤ 16 := by omega
  replace ha := Lib.hid ha
  replace hb := Lib.hid hb
  replace ht := Lib.hid ht
  have hsz : (⟨#[48, 49, 50, 51, 52, 53, 54, 55, 56, 57, 97, 98, 99, 100, 101, 102]⟩ : ByteArray).size = 16 := rfl
  clear wr
  go_enter Tryd.func26, Tryd.ntmps26
  go_wp2_with fail
  go_quiet (fail)
  go_wp2_with fail
  go_ret
  exact ⟨by rw [ht.out]; rfl, below_drewE (Below.refl _ _) _⟩
/-- The number of a digit, or -1. -/
def dgI (c : Nat) : Int := match dgE c with
  | some n => (n : Int)
  | none => -1
def alphE : ByteArray := ⟨#[48, 49, 50, 51, 52, 53, 54, 55, 56, 57, 97, 98, 99, 100, 101, 102, 65, 66, 67, 68, 69, 70]⟩
theorem alph_at : ∀ i : Nat, i < 22 → dgI ((bs alphE)[i]?.getD 0) = if 15 < i then (i : Int) - 6 else (i : Int) := by decide +kernel
theorem alph_all : ∀ c < 256, c ∉ bs alphE → dgI c = -1 := by decide +kernel
set_option maxHeartbeats 400000 in
theorem digit_any (c : Nat) (w : World) (hc : c < 256) :
    Calls Tryd.prog 41 #[.int .u8 (c : Int)] w fun e w' => e = .returned (.int .i64 (dgI c)) ∧ w' = w := by
  have hat : ∀ i, (h : i < 22) → ∀ l, alphE = l → (hl : i < l.size) → dgI l[i].toNat = if 15 < i then (i : Int) - 6 else (i : Int) := fun i h l hl hs => by
    subst hl
    have := alph_at i h
    rw [bs_atE alphE i hs] at this
    exact this
  have hno := alph_all c hc
  have hsz : alphE.size = 22 := rfl
  go_enter Tryd.func41, Tryd.ntmps41
  go_wp2_with fail
  unfold alphE at hat hno hsz
  obtain ⟨l, hl⟩ : ∃ l, (⟨#[48, 49, 50, 51, 52, 53, 54, 55, 56, 57, 97, 98, 99, 100, 101, 102, 65, 66, 67, 68, 69, 70]⟩ : ByteArray) = l := ⟨_, rfl⟩
  rw [hl] at hno hsz ⊢
  have hat := Lib.hid fun i h hs => hat i h l hl hs
  replace hno := Lib.hid hno
  replace hl := Lib.hid hl
  go_loop [4] (fun i => ∃ k : Nat, k ≤ 22 ∧ i = .int .i64 (k : Int) ∧ Hid (c ∉ (bs l).take k)) (fun i => 22 - (intOf i).toNat)
  case atStart => exact ⟨0, Nat.zero_le _, rfl, Lib.hid (by simp)⟩
  case round =>
    obtain ⟨k, hk, rfl, HF⟩ := hrel
    by_cases hlt : k < 22
    · have hls : k < l.size := by omega
      have i0 : (0 : Int) ≤ (k : Int) := by omega
      have i1 : (k : Int) < 22 := by omega
      have i2 : (k : Int) < (l.size : Int) := by omega
      have hs := Lib.hid (bs_snocE l k hls)
      have hd := hat.out k hlt hls
      obtain ⟨b, hb⟩ : ∃ b, l[k].toNat = b := ⟨_, rfl⟩
      have hbi : ((l[k].toNat : Nat) : Int) = (b : Int) := by rw [hb]
      rw [hb] at hs hd
      replace hb := Lib.hid hb
      by_cases e : b = c
      · have g1 : ((b : Int) == (c : Int)) = true := beq_iff_eq.2 (by omega)
        have g2 : (b : Int) = (c : Int) := by omega
        rw [e] at hd
        replace e := Lib.hid e
        by_cases h15 : 15 < k
        · rw [if_pos h15] at hd
          have j0 : (15 : Int) < (k : Int) := by omega
          have HD := Lib.hid hd
          clear hd
          go_wp2_with fail
          go_ret
          exact ⟨by rw [HD.out]; rfl, rfl⟩
        · rw [if_neg h15] at hd
          have j0 : ¬ (15 : Int) < (k : Int) := by omega
          have HD := Lib.hid hd
          clear hd
          go_wp2_with fail
          go_ret
          exact ⟨by rw [HD.out]; rfl, rfl⟩
      · have g1 : ((b : Int) == (c : Int)) = false := beq_eq_false_iff_ne.2 (by omega)
        have g2 : ¬ (b : Int) = (c : Int) := by omega
        clear hd
        go_wp2_with fail
        go_round
        case rel =>
          refine ⟨k + 1, by omega, by go_num, Lib.hid fun h => ?_⟩
          rw [hs.out, List.mem_append, List.mem_singleton] at h
          rcases h with h | h
          · exact HF.out h
          · exact e h.symm
        case measure => simp [intOf]; omega
    · obtain rfl : k = 22 := by omega
      have hin : dgI c = -1 := hno.out (by
        have := bs_endE l
        rw [hsz] at this
        rw [← this]
        exact HF.out)
      replace hin := Lib.hid hin
      have i1 : ¬ ((22 : Nat) : Int) < 22 := by omega
      go_wp2_with fail
      go_ret
      exact ⟨by rw [hin.out]; rfl, rfl⟩
end Go.Proofs.YtbdbgiecfkgimaaDoor
