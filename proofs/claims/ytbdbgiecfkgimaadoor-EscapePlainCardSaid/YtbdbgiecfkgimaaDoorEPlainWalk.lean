/-
  The walk of EscapePlain.
-/
import Derived.Test.YtbdbgiecfkgimaaDoorEHFilt
import Derived.Test.YtbdbgiecfkgimaaDoorEHHex
import Derived.Test.YtbdbgiecfkgimaaDoorEHPut
namespace Go.Proofs.YtbdbgiecfkgimaaDoor
open Go.RowKit

theorem a_put : strB (putE (rightB ⟨#[97]⟩) true (bs ⟨#[97]⟩)) = ⟨#[97]⟩ := by
  cases rightB ⟨#[97]⟩ <;> decide +kernel
set_option maxRecDepth 8000 in
set_option maxHeartbeats 4000000 in
theorem plain10_short (s : ByteArray) (w0 : World) (HP : PutH w0) (HF : FiltH w0) (HX : HexH w0) (hs : s.size ≤ 600) :
    Calls Tryd.prog 5 #[.string s] w0 fun e w' => e = .returned (.bool true) ∧ Below w0.heap.size w0 w' := by
  have j0 : decide ((s.size : Int) > 600) = false := decide_eq_false (by omega)
  have j2 : ¬ (600 : Int) < (s.size : Int) := by omega
  have hb0 := by_bs s
  have hlen := bs_len s
  obtain ⟨p, hp⟩ : ∃ p, strB (putE (rightB s) true (bs s)) = p := ⟨_, rfl⟩
  obtain ⟨f, hf⟩ : ∃ f, strB (filterE (rightB s) (bs s)) = f := ⟨_, rfl⟩
  obtain ⟨h, hh⟩ : ∃ h, strB (hexE (bs s)) = h := ⟨_, rfl⟩
  have bp : bs p = putE (rightB s) true (bs s) := by rw [← hp]; exact bs_strB _ (put_by _ _ _ hb0)
  have bf : bs f = filterE (rightB s) (bs s) := by rw [← hf]; exact bs_strB _ (fun c hc => (filter_plain _ _ hb0 c hc).2)
  have bh : bs h = hexE (bs s) := by rw [← hh]; exact bs_strB _ (hex_by _ hb0)
  have zp : p.size = (putE (rightB s) true (bs s)).length := by rw [← bs_len, bp]
  have zf : f.size = (filterE (rightB s) (bs s)).length := by rw [← bs_len, bf]
  have zh : h.size = (hexE (bs s)).length := by rw [← bs_len, bh]
  have lp := put_len (rightB s) (bs s) true hb0
  have lf := filter_len (rightB s) (bs s)
  have lh := hex_len (bs s)
  have zp2 : p.size ≤ 1800 := by omega
  have zf2 : f.size ≤ 1800 := by omega
  have HPl : Hid (plainP (bs p) = true) := Lib.hid (by rw [bp]; exact plain_put _ _ _ hb0)
  have HFl : Hid (∀ c ∈ bs f, ¬ (c = 42 ∨ c = 40 ∨ c = 41 ∨ c = 0)) := Lib.hid fun c hc => by
    rw [bf] at hc
    exact (filter_plain _ _ hb0 c hc).1
  have C1 := Lib.hid fun W hb => HP.put s W hb (by omega)
  have C4 := Lib.hid fun W hb => HF.filter s W hb (by omega)
  have C6 := Lib.hid fun W hb => HX.hex s W hb (by omega)
  have C8 := Lib.hid fun W hb => HP.put ⟨#[97]⟩ W hb (by decide)
  rw [a_put] at C8
  rw [hp] at C1
  rw [hf] at C4
  rw [hh] at C6
  have k1 : decide ((p.size : Int) ≥ (s.size : Int)) = true := decide_eq_true (by omega)
  have k2 : (s.size : Int) ≤ (p.size : Int) := by omega
  have k3 : decide ((f.size : Int) ≥ (s.size : Int)) = true := decide_eq_true (by omega)
  have k4 : (s.size : Int) ≤ (f.size : Int) := by omega
  have k5 : ((h.size : Int) == 2 * (s.size : Int)) = true := beq_iff_eq.2 (by omega)
  have e4 := same_list ⟨#[97]⟩
  have k7 := Lib.hid k5
  have k8 := Lib.hid (show (h.size : Int) = 2 * (s.size : Int) by omega)
  clear hp hf hh bp bf bh lp lf lh zp zf zh hb0 hlen
  go_enter Tryd.func5, Tryd.ntmps5
  go_wp2_with fail
  refine (C1.out w0 (Below.refl _ _)).mono ?_
  rintro _ w1 ⟨rfl, hb⟩
  have B1 := Lib.hid hb
  clear hb
  dsimp only []
  go_wp2_with fail
  go_loop [4] (fun i => ∃ k : Nat, k ≤ p.size + 1 ∧ i = .int .i64 (k : Int) ∧ Hid (plainP ((bs p).drop k) = true)) (fun i => p.size + 1 - (intOf i).toNat)
  case atStart => exact ⟨0, Nat.zero_le _, rfl, Lib.hid (by rw [List.drop_zero]; exact HPl.out)⟩
  case round =>
    obtain ⟨k, hk, rfl, HK⟩ := hrel
    by_cases hlt : k < p.size
    · have hd := bs_drop1E p k hlt
      have b1 := byte_lt p k hlt
      obtain ⟨c, hc⟩ : ∃ c, p[k].toNat = c := ⟨_, rfl⟩
      have hci : ((p[k].toNat : Nat) : Int) = (c : Int) := by rw [hc]
      rw [hc] at hd b1
      have hk2 := HK.out
      rw [hd] at hk2
      have i0 : (0 : Int) ≤ (k : Int) := by omega
      have i1 : (k : Int) < (p.size : Int) := by omega
      replace hd := Lib.hid hd
      replace hc := Lib.hid hc
      by_cases q : c = 92
      · have g1 : ((c : Int) == 92) = true := beq_iff_eq.2 (by omega)
        have hnext : plainP ((bs p).drop (k + 2)) = true := by
          rw [q] at hk2
          rw [show (bs p).drop (k + 2) = ((bs p).drop (k + 1)).drop 1 from by rw [List.drop_drop]]
          rcases ht : (bs p).drop (k + 1) with _ | ⟨a, u⟩
          · rfl
          · rw [ht, plain_esc] at hk2
            exact hk2
        replace hnext := Lib.hid hnext
        replace hk2 := Lib.hid hk2
        replace q := Lib.hid q
        go_wp2_with fail
        go_round
        case rel => exact ⟨k + 2, by omega, by go_num, hnext⟩
        case measure => simp [intOf]; omega
      · rw [plain_own c _ q] at hk2
        simp only [Bool.and_eq_true, Bool.not_eq_true', decide_eq_true_eq] at hk2
        obtain ⟨⟨⟨h1, h2⟩, h3⟩, h4⟩ := hk2
        have hst := of_decide_eq_false h1
        have g0 : ((c : Int) == 92) = false := beq_eq_false_iff_ne.2 (by omega)
        have g1 : ((c : Int) == 34) = false := beq_eq_false_iff_ne.2 (by omega)
        have g2 : ((c : Int) == 43) = false := beq_eq_false_iff_ne.2 (by omega)
        have g3 : ((c : Int) == 44) = false := beq_eq_false_iff_ne.2 (by omega)
        have g4 : ((c : Int) == 59) = false := beq_eq_false_iff_ne.2 (by omega)
        have g5 : ((c : Int) == 60) = false := beq_eq_false_iff_ne.2 (by omega)
        have g6 : ((c : Int) == 62) = false := beq_eq_false_iff_ne.2 (by omega)
        have g7 : ((c : Int) == 61) = false := beq_eq_false_iff_ne.2 (by omega)
        have g8 : ((c : Int) == 127) = false := beq_eq_false_iff_ne.2 (by omega)
        have g9 : decide ((c : Int) < 32) = false := decide_eq_false (by omega)
        have ga : ¬ (c : Int) = 92 := by omega
        have gb : ¬ (c : Int) = 34 := by omega
        have gc : ¬ (c : Int) = 43 := by omega
        have gd : ¬ (c : Int) = 44 := by omega
        have ge : ¬ (c : Int) = 59 := by omega
        have gf : ¬ (c : Int) = 60 := by omega
        have gg : ¬ (c : Int) = 62 := by omega
        have gh : ¬ (c : Int) = 61 := by omega
        have gi : ¬ (c : Int) = 127 := by omega
        have gj : ¬ (c : Int) < 32 := by omega
        replace h1 := Lib.hid h1
        replace h3 := Lib.hid h3
        replace h4 := Lib.hid h4
        replace hst := Lib.hid hst
        replace q := Lib.hid q
        go_wp2_with fail
        go_round
        case rel => exact ⟨k + 1, by omega, by go_num, h4⟩
        case measure => simp [intOf]; omega
    · have i1 : ¬ ((k : Int) < (p.size : Int)) := by omega
      clear HK
      go_wp2_with fail
      refine (C4.out w1 B1.out).mono ?_
      rintro _ w2 ⟨rfl, hb⟩
      have B2 := Lib.hid (B1.out.trans (hb.mono B1.out.size))
      clear hb i1
      dsimp only []
      go_wp2_with fail
      go_loop [7] (fun i => ∃ k : Nat, k ≤ f.size ∧ i = .int .i64 (k : Int)) (fun i => f.size - (intOf i).toNat)
      case atStart => exact ⟨0, Nat.zero_le _, rfl⟩
      case round =>
        obtain ⟨j, hj, rfl⟩ := hrel
        by_cases hjt : j < f.size
        · have hm := HFl.out _ (List.mem_of_getElem? (bs_atE f j hjt))
          obtain ⟨c, hc⟩ : ∃ c, f[j].toNat = c := ⟨_, rfl⟩
          have hci : ((f[j].toNat : Nat) : Int) = (c : Int) := by rw [hc]
          rw [hc] at hm
          have i0 : (0 : Int) ≤ (j : Int) := by omega
          have i1 : (j : Int) < (f.size : Int) := by omega
          have g1 : ((c : Int) == 42) = false := beq_eq_false_iff_ne.2 (by omega)
          have g2 : ((c : Int) == 40) = false := beq_eq_false_iff_ne.2 (by omega)
          have g3 : ((c : Int) == 41) = false := beq_eq_false_iff_ne.2 (by omega)
          have g4 : ((c : Int) == 0) = false := beq_eq_false_iff_ne.2 (by omega)
          have ga : ¬ (c : Int) = 42 := by omega
          have gb : ¬ (c : Int) = 40 := by omega
          have gc : ¬ (c : Int) = 41 := by omega
          have gd : ¬ (c : Int) = 0 := by omega
          replace hc := Lib.hid hc
          replace hm := Lib.hid hm
          go_wp2_with fail
          go_round
          case rel => exact ⟨j + 1, by omega, by go_num⟩
          case measure => simp [intOf]; omega
        · have i1 : ¬ ((j : Int) < (f.size : Int)) := by omega
          go_wp2_with fail
          refine (C6.out w2 B2.out).mono ?_
          rintro _ w3 ⟨rfl, hb⟩
          have B3 := Lib.hid (B2.out.trans (hb.mono B2.out.size))
          clear hb
          dsimp only []
          go_wp2_with fail
          refine (C8.out w3 B3.out).mono ?_
          rintro _ w4 ⟨rfl, hb⟩
          have B4 := Lib.hid (B3.out.trans (hb.mono B3.out.size))
          clear hb
          dsimp only []
          go_wp2_with fail
          go_ret
          exact ⟨rfl, B4.out⟩
set_option maxRecDepth 8000 in
set_option maxHeartbeats 4000000 in
theorem plain10_long (s : ByteArray) (w0 : World) (HP : PutH w0) (HF : FiltH w0) (HX : HexH w0) (hl : 600 < s.size) (hm : s.size ≤ 9223372036854775807) :
    Calls Tryd.prog 5 #[.string s] w0 fun e w' => e = .returned (.bool true) ∧ Below w0.heap.size w0 w' := by
  have hx := Lib.hid (show (s.extract 0 600).size = 600 by rw [ByteArray.size_extract]; omega)
  obtain ⟨x, hxe⟩ : ∃ x, s.extract 0 600 = x := ⟨_, rfl⟩
  rw [hxe] at hx
  have hs : x.size ≤ 600 := by have := hx.out; omega
  have j0 : decide ((s.size : Int) > 600) = true := decide_eq_true (by omega)
  have j1 : (600 : Int) ≤ (s.size : Int) := by omega
  have j2 : (600 : Int) < (s.size : Int) := by omega
  clear hx
  have hb0 := by_bs x
  have hlen := bs_len x
  obtain ⟨p, hp⟩ : ∃ p, strB (putE (rightB x) true (bs x)) = p := ⟨_, rfl⟩
  obtain ⟨f, hf⟩ : ∃ f, strB (filterE (rightB x) (bs x)) = f := ⟨_, rfl⟩
  obtain ⟨h, hh⟩ : ∃ h, strB (hexE (bs x)) = h := ⟨_, rfl⟩
  have bp : bs p = putE (rightB x) true (bs x) := by rw [← hp]; exact bs_strB _ (put_by _ _ _ hb0)
  have bf : bs f = filterE (rightB x) (bs x) := by rw [← hf]; exact bs_strB _ (fun c hc => (filter_plain _ _ hb0 c hc).2)
  have bh : bs h = hexE (bs x) := by rw [← hh]; exact bs_strB _ (hex_by _ hb0)
  have zp : p.size = (putE (rightB x) true (bs x)).length := by rw [← bs_len, bp]
  have zf : f.size = (filterE (rightB x) (bs x)).length := by rw [← bs_len, bf]
  have zh : h.size = (hexE (bs x)).length := by rw [← bs_len, bh]
  have lp := put_len (rightB x) (bs x) true hb0
  have lf := filter_len (rightB x) (bs x)
  have lh := hex_len (bs x)
  have zp2 : p.size ≤ 1800 := by omega
  have zf2 : f.size ≤ 1800 := by omega
  have HPl : Hid (plainP (bs p) = true) := Lib.hid (by rw [bp]; exact plain_put _ _ _ hb0)
  have HFl : Hid (∀ c ∈ bs f, ¬ (c = 42 ∨ c = 40 ∨ c = 41 ∨ c = 0)) := Lib.hid fun c hc => by
    rw [bf] at hc
    exact (filter_plain _ _ hb0 c hc).1
  have C1 := Lib.hid fun W hb => HP.put x W hb (by omega)
  have C4 := Lib.hid fun W hb => HF.filter x W hb (by omega)
  have C6 := Lib.hid fun W hb => HX.hex x W hb (by omega)
  have C8 := Lib.hid fun W hb => HP.put ⟨#[97]⟩ W hb (by decide)
  rw [a_put] at C8
  rw [hp] at C1
  rw [hf] at C4
  rw [hh] at C6
  have k1 : decide ((p.size : Int) ≥ (x.size : Int)) = true := decide_eq_true (by omega)
  have k2 : (x.size : Int) ≤ (p.size : Int) := by omega
  have k3 : decide ((f.size : Int) ≥ (x.size : Int)) = true := decide_eq_true (by omega)
  have k4 : (x.size : Int) ≤ (f.size : Int) := by omega
  have k5 : ((h.size : Int) == 2 * (x.size : Int)) = true := beq_iff_eq.2 (by omega)
  have e4 := same_list ⟨#[97]⟩
  have k7 := Lib.hid k5
  have k8 := Lib.hid (show (h.size : Int) = 2 * (x.size : Int) by omega)
  clear hp hf hh bp bf bh lp lf lh zp zf zh hb0 hlen
  go_enter Tryd.func5, Tryd.ntmps5
  go_wp2_with fail
  refine (C1.out w0 (Below.refl _ _)).mono ?_
  rintro _ w1 ⟨rfl, hb⟩
  have B1 := Lib.hid hb
  clear hb
  dsimp only []
  go_wp2_with fail
  go_loop [4] (fun i => ∃ k : Nat, k ≤ p.size + 1 ∧ i = .int .i64 (k : Int) ∧ Hid (plainP ((bs p).drop k) = true)) (fun i => p.size + 1 - (intOf i).toNat)
  case atStart => exact ⟨0, Nat.zero_le _, rfl, Lib.hid (by rw [List.drop_zero]; exact HPl.out)⟩
  case round =>
    obtain ⟨k, hk, rfl, HK⟩ := hrel
    by_cases hlt : k < p.size
    · have hd := bs_drop1E p k hlt
      have b1 := byte_lt p k hlt
      obtain ⟨c, hc⟩ : ∃ c, p[k].toNat = c := ⟨_, rfl⟩
      have hci : ((p[k].toNat : Nat) : Int) = (c : Int) := by rw [hc]
      rw [hc] at hd b1
      have hk2 := HK.out
      rw [hd] at hk2
      have i0 : (0 : Int) ≤ (k : Int) := by omega
      have i1 : (k : Int) < (p.size : Int) := by omega
      replace hd := Lib.hid hd
      replace hc := Lib.hid hc
      by_cases q : c = 92
      · have g1 : ((c : Int) == 92) = true := beq_iff_eq.2 (by omega)
        have hnext : plainP ((bs p).drop (k + 2)) = true := by
          rw [q] at hk2
          rw [show (bs p).drop (k + 2) = ((bs p).drop (k + 1)).drop 1 from by rw [List.drop_drop]]
          rcases ht : (bs p).drop (k + 1) with _ | ⟨a, u⟩
          · rfl
          · rw [ht, plain_esc] at hk2
            exact hk2
        replace hnext := Lib.hid hnext
        replace hk2 := Lib.hid hk2
        replace q := Lib.hid q
        go_wp2_with fail
        go_round
        case rel => exact ⟨k + 2, by omega, by go_num, hnext⟩
        case measure => simp [intOf]; omega
      · rw [plain_own c _ q] at hk2
        simp only [Bool.and_eq_true, Bool.not_eq_true', decide_eq_true_eq] at hk2
        obtain ⟨⟨⟨h1, h2⟩, h3⟩, h4⟩ := hk2
        have hst := of_decide_eq_false h1
        have g0 : ((c : Int) == 92) = false := beq_eq_false_iff_ne.2 (by omega)
        have g1 : ((c : Int) == 34) = false := beq_eq_false_iff_ne.2 (by omega)
        have g2 : ((c : Int) == 43) = false := beq_eq_false_iff_ne.2 (by omega)
        have g3 : ((c : Int) == 44) = false := beq_eq_false_iff_ne.2 (by omega)
        have g4 : ((c : Int) == 59) = false := beq_eq_false_iff_ne.2 (by omega)
        have g5 : ((c : Int) == 60) = false := beq_eq_false_iff_ne.2 (by omega)
        have g6 : ((c : Int) == 62) = false := beq_eq_false_iff_ne.2 (by omega)
        have g7 : ((c : Int) == 61) = false := beq_eq_false_iff_ne.2 (by omega)
        have g8 : ((c : Int) == 127) = false := beq_eq_false_iff_ne.2 (by omega)
        have g9 : decide ((c : Int) < 32) = false := decide_eq_false (by omega)
        have ga : ¬ (c : Int) = 92 := by omega
        have gb : ¬ (c : Int) = 34 := by omega
        have gc : ¬ (c : Int) = 43 := by omega
        have gd : ¬ (c : Int) = 44 := by omega
        have ge : ¬ (c : Int) = 59 := by omega
        have gf : ¬ (c : Int) = 60 := by omega
        have gg : ¬ (c : Int) = 62 := by omega
        have gh : ¬ (c : Int) = 61 := by omega
        have gi : ¬ (c : Int) = 127 := by omega
        have gj : ¬ (c : Int) < 32 := by omega
        replace h1 := Lib.hid h1
        replace h3 := Lib.hid h3
        replace h4 := Lib.hid h4
        replace hst := Lib.hid hst
        replace q := Lib.hid q
        go_wp2_with fail
        go_round
        case rel => exact ⟨k + 1, by omega, by go_num, h4⟩
        case measure => simp [intOf]; omega
    · have i1 : ¬ ((k : Int) < (p.size : Int)) := by omega
      clear HK
      go_wp2_with fail
      refine (C4.out w1 B1.out).mono ?_
      rintro _ w2 ⟨rfl, hb⟩
      have B2 := Lib.hid (B1.out.trans (hb.mono B1.out.size))
      clear hb i1
      dsimp only []
      go_wp2_with fail
      go_loop [7] (fun i => ∃ k : Nat, k ≤ f.size ∧ i = .int .i64 (k : Int)) (fun i => f.size - (intOf i).toNat)
      case atStart => exact ⟨0, Nat.zero_le _, rfl⟩
      case round =>
        obtain ⟨j, hj, rfl⟩ := hrel
        by_cases hjt : j < f.size
        · have hm := HFl.out _ (List.mem_of_getElem? (bs_atE f j hjt))
          obtain ⟨c, hc⟩ : ∃ c, f[j].toNat = c := ⟨_, rfl⟩
          have hci : ((f[j].toNat : Nat) : Int) = (c : Int) := by rw [hc]
          rw [hc] at hm
          have i0 : (0 : Int) ≤ (j : Int) := by omega
          have i1 : (j : Int) < (f.size : Int) := by omega
          have g1 : ((c : Int) == 42) = false := beq_eq_false_iff_ne.2 (by omega)
          have g2 : ((c : Int) == 40) = false := beq_eq_false_iff_ne.2 (by omega)
          have g3 : ((c : Int) == 41) = false := beq_eq_false_iff_ne.2 (by omega)
          have g4 : ((c : Int) == 0) = false := beq_eq_false_iff_ne.2 (by omega)
          have ga : ¬ (c : Int) = 42 := by omega
          have gb : ¬ (c : Int) = 40 := by omega
          have gc : ¬ (c : Int) = 41 := by omega
          have gd : ¬ (c : Int) = 0 := by omega
          replace hc := Lib.hid hc
          replace hm := Lib.hid hm
          go_wp2_with fail
          go_round
          case rel => exact ⟨j + 1, by omega, by go_num⟩
          case measure => simp [intOf]; omega
        · have i1 : ¬ ((j : Int) < (f.size : Int)) := by omega
          go_wp2_with fail
          refine (C6.out w2 B2.out).mono ?_
          rintro _ w3 ⟨rfl, hb⟩
          have B3 := Lib.hid (B2.out.trans (hb.mono B2.out.size))
          clear hb
          dsimp only []
          go_wp2_with fail
          refine (C8.out w3 B3.out).mono ?_
          rintro _ w4 ⟨rfl, hb⟩
          have B4 := Lib.hid (B3.out.trans (hb.mono B3.out.size))
          clear hb
          dsimp only []
          go_wp2_with fail
          go_ret
          exact ⟨rfl, B4.out⟩
theorem plain10_walk (s : ByteArray) (w0 : World) (HP : PutH w0) (HF : FiltH w0) (HX : HexH w0) (hm : s.size ≤ 9223372036854775807) :
    Calls Tryd.prog 5 #[.string s] w0 fun e w' => e = .returned (.bool true) ∧ Below w0.heap.size w0 w' := by
  by_cases h : s.size ≤ 600
  · exact plain10_short s w0 HP HF HX h
  · exact plain10_long s w0 HP HF HX (by omega) hm
end Go.Proofs.YtbdbgiecfkgimaaDoor
