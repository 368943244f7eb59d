/-
  The walk of EscapeBack.
-/
import Derived.Test.YtbdbgiecfkgimaaDoorEHFilt
import Derived.Test.YtbdbgiecfkgimaaDoorEHHex
import Derived.Test.YtbdbgiecfkgimaaDoorEHUnhex
import Derived.Test.YtbdbgiecfkgimaaDoorEHPut
namespace Go.Proofs.YtbdbgiecfkgimaaDoor
open Go.RowKit

theorem blank_put : strB (putE (rightB ⟨#[32]⟩) true (bs ⟨#[32]⟩)) = ⟨#[92, 32]⟩ := by
  cases rightB ⟨#[32]⟩ <;> decide +kernel
theorem two_bl : bs ⟨#[32, 32]⟩ = [32, 32] := by decide +kernel
theorem rest_bs : bs ⟨#[32, 44, 114, 101, 115, 116]⟩ = [32, 44, 114, 101, 115, 116] := by decide +kernel
set_option maxRecDepth 8000 in
set_option maxHeartbeats 4000000 in
theorem back10_short (s : ByteArray) (w0 : World) (HP : PutH w0) (HF : FiltH w0) (HX : HexH w0) (HU : UnhexH w0) (hs : s.size ≤ 600) :
    Calls Tryd.prog 4 #[.string s] w0 fun e w' => e = .returned (.bool true) ∧ Below w0.heap.size w0 w' := by
  have j0 : decide ((s.size : Int) > 600) = false := decide_eq_false (by omega)
  have j2 : ¬ (600 : Int) < (s.size : Int) := by omega
  have hb0 := by_bs s
  have hlen := bs_len s
  obtain ⟨p, hp⟩ : ∃ p, strB (putE (rightB s) true (bs s)) = p := ⟨_, rfl⟩
  obtain ⟨f, hf⟩ : ∃ f, strB (filterE (rightB s) (bs s)) = f := ⟨_, rfl⟩
  obtain ⟨h, hh⟩ : ∃ h, strB (hexE (bs s)) = h := ⟨_, rfl⟩
  have bp : bs p = putE (rightB s) true (bs s) := by rw [← hp]; exact bs_strB _ (put_by _ _ _ hb0)
  have bf : bs f = filterE (rightB s) (bs s) := by rw [← hf]; exact bs_strB _ (fun c hc => (filter_plain _ _ hb0 c hc).2)
  have bh : bs h = hexE (bs s) := by rw [← hh]; exact bs_strB _ (hex_by _ hb0)
  have zp : p.size = (putE (rightB s) true (bs s)).length := by rw [← bs_len, bp]
  have zf : f.size = (filterE (rightB s) (bs s)).length := by rw [← bs_len, bf]
  have zh : h.size = (hexE (bs s)).length := by rw [← bs_len, bh]
  have lp := put_len (rightB s) (bs s) true hb0
  have lf := filter_len (rightB s) (bs s)
  have lh := hex_len (bs s)
  have zp2 : p.size ≤ 1800 := by omega
  have zf2 : f.size ≤ 1800 := by omega
  have zh2 : h.size ≤ 1200 := by omega
  obtain ⟨u, hu⟩ : ∃ u, (⟨#[32, 32]⟩ : ByteArray) ++ p = u := ⟨_, rfl⟩
  obtain ⟨v, hv⟩ : ∃ v, u ++ (⟨#[32, 44, 114, 101, 115, 116]⟩ : ByteArray) = v := ⟨_, rfl⟩
  have zu : u.size = p.size + 2 := by rw [← hu, ByteArray.size_append, Nat.add_comm]; rfl
  have zv : v.size = u.size + 6 := by rw [← hv, ByteArray.size_append]; rfl
  have bv : bs v = 32 :: 32 :: (putE (rightB s) true (bs s) ++ 32 :: 44 :: [114, 101, 115, 116]) := by
    rw [← hv, ← hu, bs_append, bs_append, bp, two_bl, rest_bs]
    simp
  have C1 := Lib.hid fun W hb => HP.put s W hb (by omega)
  have C2 := Lib.hid fun W hb => HP.read p W hb (by omega)
  have C3 := Lib.hid fun W hb => HP.read v W hb (by omega)
  have C4 := Lib.hid fun W hb => HF.filter s W hb (by omega)
  have C5 := Lib.hid fun W hb => HF.unfilter f W hb (by omega)
  have C6 := Lib.hid fun W hb => HX.hex s W hb (by omega)
  have C7 := Lib.hid fun W hb => HU.unhex h W hb (by omega)
  have C8 := Lib.hid fun W hb => HP.put ⟨#[32]⟩ W hb (by decide)
  rw [blank_put] at C8
  rw [hp] at C1
  rw [hf] at C4
  rw [hh] at C6
  rw [bp, read_put _ _ hb0, ← zp] at C2
  rw [bv, read_around _ _ _ hb0, ← zp] at C3
  rw [bf, unf_back _ _ hb0] at C5
  rw [bh, unhex_hex _ hb0] at C7
  unfold readV at C2 C3
  unfold unV at C5 C7
  simp only [strB_bs] at C2 C3 C5 C7
  have hpi : ((p.size + 3 : Nat) : Int) = (p.size : Int) + 3 := by omega
  rw [hpi] at C3
  have e1 := same_list s
  have e2 : ((p.size : Int) == (p.size : Int)) = true := beq_self_eq_true _
  have e3 : ((p.size : Int) + 3 == (p.size : Int) + 3) = true := beq_self_eq_true _
  have e4 := same_list ⟨#[92, 32]⟩
  clear hp hf hh bp bf bh bv lp lf lh zp zf zh hb0 hlen hpi
  go_enter Tryd.func4, Tryd.ntmps4
  go_wp2_with fail
  refine (C1.out w0 (Below.refl _ _)).mono ?_
  rintro _ w1 ⟨rfl, hb⟩
  have B1 := Lib.hid (hb)
  clear hb
  dsimp only []
  go_wp2_with fail
  refine (C2.out w1 B1.out).mono ?_
  rintro _ w2 ⟨rfl, hb⟩
  have B2 := Lib.hid (B1.out.trans (hb.mono B1.out.size))
  clear hb
  dsimp only []
  go_wp2_with fail
  refine (C3.out w2 B2.out).mono ?_
  rintro _ w3 ⟨rfl, hb⟩
  have B3 := Lib.hid (B2.out.trans (hb.mono B2.out.size))
  clear hb
  dsimp only []
  go_wp2_with fail
  refine (C4.out w3 B3.out).mono ?_
  rintro _ w4 ⟨rfl, hb⟩
  have B4 := Lib.hid (B3.out.trans (hb.mono B3.out.size))
  clear hb
  dsimp only []
  go_wp2_with fail
  refine (C5.out w4 B4.out).mono ?_
  rintro _ w5 ⟨rfl, hb⟩
  have B5 := Lib.hid (B4.out.trans (hb.mono B4.out.size))
  clear hb
  dsimp only []
  go_wp2_with fail
  refine (C6.out w5 B5.out).mono ?_
  rintro _ w6 ⟨rfl, hb⟩
  have B6 := Lib.hid (B5.out.trans (hb.mono B5.out.size))
  clear hb
  dsimp only []
  go_wp2_with fail
  refine (C7.out w6 B6.out).mono ?_
  rintro _ w7 ⟨rfl, hb⟩
  have B7 := Lib.hid (B6.out.trans (hb.mono B6.out.size))
  clear hb
  dsimp only []
  go_wp2_with fail
  refine (C8.out w7 B7.out).mono ?_
  rintro _ w8 ⟨rfl, hb⟩
  have B8 := Lib.hid (B7.out.trans (hb.mono B7.out.size))
  clear hb
  dsimp only []
  go_wp2_with fail
  go_ret
  exact ⟨rfl, B8.out⟩
set_option maxRecDepth 8000 in
set_option maxHeartbeats 4000000 in
theorem back10_long (s : ByteArray) (w0 : World) (HP : PutH w0) (HF : FiltH w0) (HX : HexH w0) (HU : UnhexH w0) (hl : 600 < s.size) (hm : s.size ≤ 9223372036854775807) :
    Calls Tryd.prog 4 #[.string s] w0 fun e w' => e = .returned (.bool true) ∧ Below w0.heap.size w0 w' := by
  have hx := Lib.hid (show (s.extract 0 600).size = 600 by rw [ByteArray.size_extract]; omega)
  obtain ⟨x, hxe⟩ : ∃ x, s.extract 0 600 = x := ⟨_, rfl⟩
  rw [hxe] at hx
  have hs : x.size ≤ 600 := by have := hx.out; omega
  have j0 : decide ((s.size : Int) > 600) = true := decide_eq_true (by omega)
  have j1 : (600 : Int) ≤ (s.size : Int) := by omega
  have j2 : (600 : Int) < (s.size : Int) := by omega
  clear hx
  have hb0 := by_bs x
  have hlen := bs_len x
  obtain ⟨p, hp⟩ : ∃ p, strB (putE (rightB x) true (bs x)) = p := ⟨_, rfl⟩
  obtain ⟨f, hf⟩ : ∃ f, strB (filterE (rightB x) (bs x)) = f := ⟨_, rfl⟩
  obtain ⟨h, hh⟩ : ∃ h, strB (hexE (bs x)) = h := ⟨_, rfl⟩
  have bp : bs p = putE (rightB x) true (bs x) := by rw [← hp]; exact bs_strB _ (put_by _ _ _ hb0)
  have bf : bs f = filterE (rightB x) (bs x) := by rw [← hf]; exact bs_strB _ (fun c hc => (filter_plain _ _ hb0 c hc).2)
  have bh : bs h = hexE (bs x) := by rw [← hh]; exact bs_strB _ (hex_by _ hb0)
  have zp : p.size = (putE (rightB x) true (bs x)).length := by rw [← bs_len, bp]
  have zf : f.size = (filterE (rightB x) (bs x)).length := by rw [← bs_len, bf]
  have zh : h.size = (hexE (bs x)).length := by rw [← bs_len, bh]
  have lp := put_len (rightB x) (bs x) true hb0
  have lf := filter_len (rightB x) (bs x)
  have lh := hex_len (bs x)
  have zp2 : p.size ≤ 1800 := by omega
  have zf2 : f.size ≤ 1800 := by omega
  have zh2 : h.size ≤ 1200 := by omega
  obtain ⟨u, hu⟩ : ∃ u, (⟨#[32, 32]⟩ : ByteArray) ++ p = u := ⟨_, rfl⟩
  obtain ⟨v, hv⟩ : ∃ v, u ++ (⟨#[32, 44, 114, 101, 115, 116]⟩ : ByteArray) = v := ⟨_, rfl⟩
  have zu : u.size = p.size + 2 := by rw [← hu, ByteArray.size_append, Nat.add_comm]; rfl
  have zv : v.size = u.size + 6 := by rw [← hv, ByteArray.size_append]; rfl
  have bv : bs v = 32 :: 32 :: (putE (rightB x) true (bs x) ++ 32 :: 44 :: [114, 101, 115, 116]) := by
    rw [← hv, ← hu, bs_append, bs_append, bp, two_bl, rest_bs]
    simp
  have C1 := Lib.hid fun W hb => HP.put x W hb (by omega)
  have C2 := Lib.hid fun W hb => HP.read p W hb (by omega)
  have C3 := Lib.hid fun W hb => HP.read v W hb (by omega)
  have C4 := Lib.hid fun W hb => HF.filter x W hb (by omega)
  have C5 := Lib.hid fun W hb => HF.unfilter f W hb (by omega)
  have C6 := Lib.hid fun W hb => HX.hex x W hb (by omega)
  have C7 := Lib.hid fun W hb => HU.unhex h W hb (by omega)
  have C8 := Lib.hid fun W hb => HP.put ⟨#[32]⟩ W hb (by decide)
  rw [blank_put] at C8
  rw [hp] at C1
  rw [hf] at C4
  rw [hh] at C6
  rw [bp, read_put _ _ hb0, ← zp] at C2
  rw [bv, read_around _ _ _ hb0, ← zp] at C3
  rw [bf, unf_back _ _ hb0] at C5
  rw [bh, unhex_hex _ hb0] at C7
  unfold readV at C2 C3
  unfold unV at C5 C7
  simp only [strB_bs] at C2 C3 C5 C7
  have hpi : ((p.size + 3 : Nat) : Int) = (p.size : Int) + 3 := by omega
  rw [hpi] at C3
  have e1 := same_list x
  have e2 : ((p.size : Int) == (p.size : Int)) = true := beq_self_eq_true _
  have e3 : ((p.size : Int) + 3 == (p.size : Int) + 3) = true := beq_self_eq_true _
  have e4 := same_list ⟨#[92, 32]⟩
  clear hp hf hh bp bf bh bv lp lf lh zp zf zh hb0 hlen hpi
  go_enter Tryd.func4, Tryd.ntmps4
  go_wp2_with fail
  refine (C1.out w0 (Below.refl _ _)).mono ?_
  rintro _ w1 ⟨rfl, hb⟩
  have B1 := Lib.hid (hb)
  clear hb
  dsimp only []
  go_wp2_with fail
  refine (C2.out w1 B1.out).mono ?_
  rintro _ w2 ⟨rfl, hb⟩
  have B2 := Lib.hid (B1.out.trans (hb.mono B1.out.size))
  clear hb
  dsimp only []
  go_wp2_with fail
  refine (C3.out w2 B2.out).mono ?_
  rintro _ w3 ⟨rfl, hb⟩
  have B3 := Lib.hid (B2.out.trans (hb.mono B2.out.size))
  clear hb
  dsimp only []
  go_wp2_with fail
  refine (C4.out w3 B3.out).mono ?_
  rintro _ w4 ⟨rfl, hb⟩
  have B4 := Lib.hid (B3.out.trans (hb.mono B3.out.size))
  clear hb
  dsimp only []
  go_wp2_with fail
  refine (C5.out w4 B4.out).mono ?_
  rintro _ w5 ⟨rfl, hb⟩
  have B5 := Lib.hid (B4.out.trans (hb.mono B4.out.size))
  clear hb
  dsimp only []
  go_wp2_with fail
  refine (C6.out w5 B5.out).mono ?_
  rintro _ w6 ⟨rfl, hb⟩
  have B6 := Lib.hid (B5.out.trans (hb.mono B5.out.size))
  clear hb
  dsimp only []
  go_wp2_with fail
  refine (C7.out w6 B6.out).mono ?_
  rintro _ w7 ⟨rfl, hb⟩
  have B7 := Lib.hid (B6.out.trans (hb.mono B6.out.size))
  clear hb
  dsimp only []
  go_wp2_with fail
  refine (C8.out w7 B7.out).mono ?_
  rintro _ w8 ⟨rfl, hb⟩
  have B8 := Lib.hid (B7.out.trans (hb.mono B7.out.size))
  clear hb
  dsimp only []
  go_wp2_with fail
  go_ret
  exact ⟨rfl, B8.out⟩
theorem back10_walk (s : ByteArray) (w0 : World) (HP : PutH w0) (HF : FiltH w0) (HX : HexH w0) (HU : UnhexH w0) (hm : s.size ≤ 9223372036854775807) :
    Calls Tryd.prog 4 #[.string s] w0 fun e w' => e = .returned (.bool true) ∧ Below w0.heap.size w0 w' := by
  by_cases h : s.size ≤ 600
  · exact back10_short s w0 HP HF HX HU h
  · exact back10_long s w0 HP HF HX HU (by omega) hm
end Go.Proofs.YtbdbgiecfkgimaaDoor
