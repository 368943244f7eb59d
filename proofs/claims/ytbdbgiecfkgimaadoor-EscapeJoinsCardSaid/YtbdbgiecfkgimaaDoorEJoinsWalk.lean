/-
  The walk of EscapeJoins.
-/
import Derived.Test.YtbdbgiecfkgimaaDoorEHFilt
import Derived.Test.YtbdbgiecfkgimaaDoorEHHex
import Derived.Test.YtbdbgiecfkgimaaDoorEHRight
namespace Go.Proofs.YtbdbgiecfkgimaaDoor
open Go.RowKit

theorem right_join {a b : ByteArray} (h1 : rightB a = true) (h2 : rightB b = true) : rightB (a ++ b) = true := by
  unfold rightB at *
  rcases e1 : uChars (bs a) with _ | cs
  · rw [e1] at h1; cases h1
  · rcases e2 : uChars (bs b) with _ | ds
    · rw [e2] at h2; cases h2
    · rw [bs_append, uChars_app e1 e2]
      rfl
theorem star_one : strB (filterE (rightB ⟨#[42]⟩) (bs ⟨#[42]⟩)) = ⟨#[92, 50, 97]⟩ := by
  cases rightB ⟨#[42]⟩ <;> decide +kernel
set_option maxRecDepth 8000 in
set_option maxHeartbeats 4000000 in
theorem joins10_walk (a b : ByteArray) (w0 : World) (HF : FiltH w0) (HX : HexH w0) (HR : RightH w0) (ha : a.size ≤ 140737488355328) (hb : b.size ≤ 140737488355328) :
    Calls Tryd.prog 6 #[.string a, .string b] w0 fun e w' => e = .returned (.bool true) ∧ Below w0.heap.size w0 w' := by
  by_cases hsum : 600 < a.size + b.size
  · have j0 : decide ((a.size : Int) + (b.size : Int) > 600) = true := decide_eq_true (by omega)
    have j1 : (600 : Int) < (a.size : Int) + (b.size : Int) := by omega
    go_enter Tryd.func6, Tryd.ntmps6
    go_wp2_with fail
    go_ret
    exact ⟨rfl, Below.refl _ _⟩
  have j0 : decide ((a.size : Int) + (b.size : Int) > 600) = false := decide_eq_false (by omega)
  have j1 : ¬ (600 : Int) < (a.size : Int) + (b.size : Int) := by omega
  have ba := by_bs a
  have bb := by_bs b
  have la := bs_len a
  have lb := bs_len b
  obtain ⟨hA, eA⟩ : ∃ x, strB (hexE (bs a)) = x := ⟨_, rfl⟩
  obtain ⟨hB, eB⟩ : ∃ x, strB (hexE (bs b)) = x := ⟨_, rfl⟩
  obtain ⟨hS, eS⟩ : ∃ x, hA ++ hB = x := ⟨_, rfl⟩
  obtain ⟨fA, gA⟩ : ∃ x, strB (filterE (rightB a) (bs a)) = x := ⟨_, rfl⟩
  obtain ⟨fB, gB⟩ : ∃ x, strB (filterE (rightB b) (bs b)) = x := ⟨_, rfl⟩
  obtain ⟨fS, gS⟩ : ∃ x, fA ++ fB = x := ⟨_, rfl⟩
  obtain ⟨ab, hab⟩ : ∃ x, a ++ b = x := ⟨_, rfl⟩
  have bab : bs ab = bs a ++ bs b := by rw [← hab, bs_append]
  have zab : ab.size = a.size + b.size := by rw [← hab, ByteArray.size_append]
  have eAB : strB (hexE (bs ab)) = hS := by rw [bab, hex_app, ← strB_appE, eA, eB, eS]
  have zA : hA.size ≤ 1200 := by rw [← eA, strB_sizeE, hex_len]; omega
  have zB : hB.size ≤ 1200 := by rw [← eB, strB_sizeE, hex_len]; omega
  have yA : fA.size ≤ 3 * a.size := by
    rw [← gA, strB_sizeE]
    have := (filter_len (rightB a) (bs a)).2
    omega
  have yB : fB.size ≤ 3 * b.size := by
    rw [← gB, strB_sizeE]
    have := (filter_len (rightB b) (bs b)).2
    omega
  have yS : fS.size = fA.size + fB.size := by rw [← gS, ByteArray.size_append]
  have bfA : bs fA = filterE (rightB a) (bs a) := by rw [← gA]; exact bs_strB _ (fun c hc => (filter_plain _ _ ba c hc).2)
  have bfB : bs fB = filterE (rightB b) (bs b) := by rw [← gB]; exact bs_strB _ (fun c hc => (filter_plain _ _ bb c hc).2)
  have bfS : bs fS = filterE (rightB a) (bs a) ++ filterE (rightB b) (bs b) := by rw [← gS, bs_append, bfA, bfB]
  have hun : unfE (bs fS) = some (bs ab) := by
    rw [bfS, unf_filter _ _ _ ba, unf_back _ _ bb, bab]
    rfl
  have hjo : rightB a = true → rightB b = true → strB (filterE (rightB ab) (bs ab)) = fS := fun h1 h2 => by
    have h3 : rightB ab = true := by rw [← hab]; exact right_join h1 h2
    rw [h3, bab, filter_app, ← strB_appE, ← h1, gA, h1, ← h2, gB, gS]
  have C1 := Lib.hid fun W hb => HX.hex ab W hb (by omega)
  have C2 := Lib.hid fun W hb => HX.hex a W hb (by omega)
  have C3 := Lib.hid fun W hb => HX.hex b W hb (by omega)
  have C4 := Lib.hid fun W hb => HF.filter a W hb (by omega)
  have C5 := Lib.hid fun W hb => HF.filter b W hb (by omega)
  have C6 := Lib.hid fun W hb => HF.unfilter fS W hb (by omega)
  have C7 := Lib.hid fun W hb => HR.right a W hb (by omega)
  have C8 := Lib.hid fun W hb => HR.right b W hb (by omega)
  have C9 := Lib.hid fun W hb => HF.filter ab W hb (by omega)
  have C0 := Lib.hid fun W hb => HF.filter ⟨#[42]⟩ W hb (by decide)
  rw [star_one] at C0
  rw [eAB] at C1
  rw [eA] at C2
  rw [eB] at C3
  rw [gA] at C4
  rw [gB] at C5
  rw [hun] at C6
  unfold unV at C6
  simp only [strB_bs] at C6
  obtain ⟨ra, hra⟩ : ∃ x, rightB a = x := ⟨_, rfl⟩
  obtain ⟨rb, hrb⟩ : ∃ x, rightB b = x := ⟨_, rfl⟩
  rw [hra] at C7 hjo
  rw [hrb] at C8 hjo
  have s1 := same_list hS
  have s2 := same_list ab
  have s3 := same_list fS
  have s4 := same_list ⟨#[92, 50, 97]⟩
  have zab2 : ab.size ≤ 600 := by omega
  have yA2 : fA.size ≤ 1800 := by omega
  have yB2 : fB.size ≤ 1800 := by omega
  have zA2 : a.size ≤ 600 := by omega
  have zB2 : b.size ≤ 600 := by omega
  clear ba bb la lb eA eB gA gB bab eAB bfA bfB bfS hun hra hrb zab yA yB
  replace hjo := Lib.hid hjo
  go_enter Tryd.func6, Tryd.ntmps6
  go_wp2_with fail
  refine (C1.out w0 (Below.refl _ _)).mono ?_
  rintro _ w1 ⟨rfl, hb⟩
  have B1 := Lib.hid hb
  clear hb
  dsimp only []
  go_wp2_with fail
  refine (C2.out w1 (B1.out)).mono ?_
  rintro _ w2 ⟨rfl, hb⟩
  have B2 := Lib.hid (B1.out.trans (hb.mono B1.out.size))
  clear hb
  dsimp only []
  go_wp2_with fail
  refine (C3.out w2 (B2.out)).mono ?_
  rintro _ w3 ⟨rfl, hb⟩
  have B3 := Lib.hid (B2.out.trans (hb.mono B2.out.size))
  clear hb
  dsimp only []
  go_wp2_with fail
  refine (C4.out w3 (B3.out)).mono ?_
  rintro _ w4 ⟨rfl, hb⟩
  have B4 := Lib.hid (B3.out.trans (hb.mono B3.out.size))
  clear hb
  dsimp only []
  go_wp2_with fail
  refine (C5.out w4 (B4.out)).mono ?_
  rintro _ w5 ⟨rfl, hb⟩
  have B5 := Lib.hid (B4.out.trans (hb.mono B4.out.size))
  clear hb
  dsimp only []
  go_wp2_with fail
  refine (C6.out w5 (B5.out)).mono ?_
  rintro _ w6 ⟨rfl, hb⟩
  have B6 := Lib.hid (B5.out.trans (hb.mono B5.out.size))
  clear hb
  dsimp only []
  go_wp2_with fail
  refine (C7.out w6 (B6.out)).mono ?_
  rintro _ w7 ⟨rfl, hb⟩
  have B7 := Lib.hid (B6.out.trans (hb.mono B6.out.size))
  clear hb
  rcases ra with _ | _
  · dsimp only []
    go_wp2_with fail
    refine (C0.out w7 (B7.out)).mono ?_
    rintro _ w8 ⟨rfl, hb⟩
    have B8 := Lib.hid (B7.out.trans (hb.mono B7.out.size))
    clear hb
    dsimp only []
    go_wp2_with fail
    go_ret
    exact ⟨rfl, B8.out⟩
  · dsimp only []
    go_wp2_with fail
    refine (C8.out w7 (B7.out)).mono ?_
    rintro _ w8 ⟨rfl, hb⟩
    have B8 := Lib.hid (B7.out.trans (hb.mono B7.out.size))
    clear hb
    rcases rb with _ | _
    · dsimp only []
      go_wp2_with fail
      refine (C0.out w8 (B8.out)).mono ?_
      rintro _ w9 ⟨rfl, hb⟩
      have B9 := Lib.hid (B8.out.trans (hb.mono B8.out.size))
      clear hb
      dsimp only []
      go_wp2_with fail
      go_ret
      exact ⟨rfl, B9.out⟩
    · have hj := hjo.out (by simp) (by simp)
      rw [hj] at C9
      clear hj
      dsimp only []
      go_wp2_with fail
      refine (C9.out w8 (B8.out)).mono ?_
      rintro _ w9 ⟨rfl, hb⟩
      have B9 := Lib.hid (B8.out.trans (hb.mono B8.out.size))
      clear hb
      dsimp only []
      go_wp2_with fail
      refine (C4.out w9 (B9.out)).mono ?_
      rintro _ wa ⟨rfl, hb⟩
      have Ba := Lib.hid (B9.out.trans (hb.mono B9.out.size))
      clear hb
      dsimp only []
      go_wp2_with fail
      refine (C5.out wa (Ba.out)).mono ?_
      rintro _ wb ⟨rfl, hb⟩
      have Bb := Lib.hid (Ba.out.trans (hb.mono Ba.out.size))
      clear hb
      dsimp only []
      go_wp2_with fail
      refine (C0.out wb (Bb.out)).mono ?_
      rintro _ wc ⟨rfl, hb⟩
      have Bc := Lib.hid (Bb.out.trans (hb.mono Bb.out.size))
      clear hb
      dsimp only []
      go_wp2_with fail
      go_ret
      exact ⟨rfl, Bc.out⟩
end Go.Proofs.YtbdbgiecfkgimaaDoor
