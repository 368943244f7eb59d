/-
  The walk of EscapeFilters.
-/
import Derived.Test.YtbdbgiecfkgimaaDoorEHFilt
import Derived.Test.YtbdbgiecfkgimaaDoorRefFilt
namespace Go.Proofs.YtbdbgiecfkgimaaDoor
open Go.RowKit

theorem star_a : strB (filterE (rightB ⟨#[97, 42]⟩) (bs ⟨#[97, 42]⟩)) = ⟨#[97, 92, 50, 97]⟩ := by
  cases rightB ⟨#[97, 42]⟩ <;> decide +kernel
set_option maxRecDepth 8000 in
set_option maxHeartbeats 4000000 in
theorem filters10_short (s : ByteArray) (w0 : World) (H : FiltH w0) (hs : s.size ≤ 600) :
    Calls Tryd.prog 3 #[.string s] w0 fun e w' => e = .returned (.bool true) ∧ Below w0.heap.size w0 w' := by
  have j0 : decide ((s.size : Int) > 600) = false := decide_eq_false (by omega)
  have j2 : ¬ (600 : Int) < (s.size : Int) := by omega
  obtain ⟨y, q, hy⟩ := unV_form (unfE (bs s))
  obtain ⟨f, hf⟩ : ∃ f, strB (filterE (rightB s) (bs s)) = f := ⟨_, rfl⟩
  have C1 := Lib.hid fun W hb => H.unfilter s W hb (by omega)
  have C2 := Lib.hid fun W => refUnfilter_any s W (by omega)
  have C3 := Lib.hid fun W hb => H.filter s W hb (by omega)
  have C4 := Lib.hid fun W => refFilter_any s W (by omega)
  have C5 := Lib.hid fun W hb => H.filter ⟨#[97, 42]⟩ W hb (by decide)
  rw [star_a] at C5
  rw [hy] at C1 C2
  rw [hf] at C3 C4
  have e1 := same_list y
  have e2 := same_list f
  have e3 : q = q := rfl
  have e4 := same_list ⟨#[97, 92, 50, 97]⟩
  clear hy hf
  go_enter Tryd.func3, Tryd.ntmps3
  go_wp2_with fail
  refine (C1.out w0 (Below.refl _ _)).mono ?_
  rintro _ w1 ⟨rfl, hb⟩
  have B1 := Lib.hid (hb)
  clear hb
  dsimp only []
  go_wp2_with fail
  refine (C2.out w1).mono ?_
  rintro _ w2 ⟨rfl, hb⟩
  have B2 := Lib.hid (B1.out.trans (hb.mono B1.out.size))
  clear hb
  dsimp only []
  go_wp2_with fail
  refine (C3.out w2 B2.out).mono ?_
  rintro _ w3 ⟨rfl, hb⟩
  have B3 := Lib.hid (B2.out.trans (hb.mono B2.out.size))
  clear hb
  dsimp only []
  go_wp2_with fail
  refine (C4.out w3).mono ?_
  rintro _ w4 ⟨rfl, hb⟩
  have B4 := Lib.hid (B3.out.trans (hb.mono B3.out.size))
  clear hb
  dsimp only []
  go_wp2_with fail
  refine (C5.out w4 B4.out).mono ?_
  rintro _ w5 ⟨rfl, hb⟩
  have B5 := Lib.hid (B4.out.trans (hb.mono B4.out.size))
  clear hb
  dsimp only []
  go_wp2_with fail
  go_ret
  exact ⟨rfl, B5.out⟩
set_option maxRecDepth 8000 in
set_option maxHeartbeats 4000000 in
theorem filters10_long (s : ByteArray) (w0 : World) (H : FiltH w0) (hl : 600 < s.size) (hm : s.size ≤ 9223372036854775807) :
    Calls Tryd.prog 3 #[.string s] w0 fun e w' => e = .returned (.bool true) ∧ Below w0.heap.size w0 w' := by
  have hx := Lib.hid (show (s.extract 0 600).size = 600 by rw [ByteArray.size_extract]; omega)
  obtain ⟨x, hxe⟩ : ∃ x, s.extract 0 600 = x := ⟨_, rfl⟩
  rw [hxe] at hx
  have hs : x.size ≤ 600 := by have := hx.out; omega
  have j0 : decide ((s.size : Int) > 600) = true := decide_eq_true (by omega)
  have j1 : (600 : Int) ≤ (s.size : Int) := by omega
  have j2 : (600 : Int) < (s.size : Int) := by omega
  clear hx
  obtain ⟨y, q, hy⟩ := unV_form (unfE (bs x))
  obtain ⟨f, hf⟩ : ∃ f, strB (filterE (rightB x) (bs x)) = f := ⟨_, rfl⟩
  have C1 := Lib.hid fun W hb => H.unfilter x W hb (by omega)
  have C2 := Lib.hid fun W => refUnfilter_any x W (by omega)
  have C3 := Lib.hid fun W hb => H.filter x W hb (by omega)
  have C4 := Lib.hid fun W => refFilter_any x W (by omega)
  have C5 := Lib.hid fun W hb => H.filter ⟨#[97, 42]⟩ W hb (by decide)
  rw [star_a] at C5
  rw [hy] at C1 C2
  rw [hf] at C3 C4
  have e1 := same_list y
  have e2 := same_list f
  have e3 : q = q := rfl
  have e4 := same_list ⟨#[97, 92, 50, 97]⟩
  clear hy hf
  go_enter Tryd.func3, Tryd.ntmps3
  go_wp2_with fail
  refine (C1.out w0 (Below.refl _ _)).mono ?_
  rintro _ w1 ⟨rfl, hb⟩
  have B1 := Lib.hid (hb)
  clear hb
  dsimp only []
  go_wp2_with fail
  refine (C2.out w1).mono ?_
  rintro _ w2 ⟨rfl, hb⟩
  have B2 := Lib.hid (B1.out.trans (hb.mono B1.out.size))
  clear hb
  dsimp only []
  go_wp2_with fail
  refine (C3.out w2 B2.out).mono ?_
  rintro _ w3 ⟨rfl, hb⟩
  have B3 := Lib.hid (B2.out.trans (hb.mono B2.out.size))
  clear hb
  dsimp only []
  go_wp2_with fail
  refine (C4.out w3).mono ?_
  rintro _ w4 ⟨rfl, hb⟩
  have B4 := Lib.hid (B3.out.trans (hb.mono B3.out.size))
  clear hb
  dsimp only []
  go_wp2_with fail
  refine (C5.out w4 B4.out).mono ?_
  rintro _ w5 ⟨rfl, hb⟩
  have B5 := Lib.hid (B4.out.trans (hb.mono B4.out.size))
  clear hb
  dsimp only []
  go_wp2_with fail
  go_ret
  exact ⟨rfl, B5.out⟩
theorem filters10_walk (s : ByteArray) (w0 : World) (H : FiltH w0) (hm : s.size ≤ 9223372036854775807) :
    Calls Tryd.prog 3 #[.string s] w0 fun e w' => e = .returned (.bool true) ∧ Below w0.heap.size w0 w' := by
  by_cases h : s.size ≤ 600
  · exact filters10_short s w0 H h
  · exact filters10_long s w0 H (by omega) hm
end Go.Proofs.YtbdbgiecfkgimaaDoor
