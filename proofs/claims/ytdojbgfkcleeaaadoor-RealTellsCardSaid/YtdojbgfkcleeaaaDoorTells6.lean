/-
  RealTells, from any text and any two numbers.
-/
import Derived.Test.YtdojbgfkcleeaaaDoorRHypD
import Derived.Test.YtdojbgfkcleeaaaDoorRefOrd
namespace Go.Proofs.YtdojbgfkcleeaaaDoor
open Ieee Go.RowKit

theorem text_one : strB (hexL (fBits 4607182418800017408)) = { data := #[51, 102, 102, 48, 48, 48, 48, 48, 48, 48, 48, 48, 48, 48, 48, 48] } := by decide +kernel
theorem fParse_lt' (s : ByteArray) : (fParse (bs s)).getD 0 < 18446744073709551616 := by
  rcases h : fParse (bs s) with _ | n
  · decide
  · exact fParse_lt h

set_option maxRecDepth 8000 in
set_option maxHeartbeats 1600000 in
theorem tells_short (s : ByteArray) (a b : Nat) (w : World) (R : RHypD w) (Q : RParD w) (ha : a < 18446744073709551616) (hb : b < 18446744073709551616) (hs : s.size ≤ 100) :
    Calls Tryd.prog 3 #[.string s, .float .f64 a, .float .f64 b] w fun e w' => e = .returned (.bool true) ∧ Below w.heap.size w w' := by
  have k0 : ¬ ((100 : Int) < (s.size : Int)) := by omega
  have CP := Q.parse s w (Below.refl _ _)
  have CP2 := fun w => refParse_any s w
  have CB := fun x w => refBits_any x w
  have CT := fun x w' (bw : Below w.heap.size w w') h => R.text x w' bw h
  have CL := fun w' (bw : Below w.heap.size w w') => R.plain a w' bw ha
  have CO := fun w' (bw : Below w.heap.size w w') => R.order a b w' bw ha hb
  have CO2 := fun w => refOrder_any a b w
  have CT1 := fun w' (bw : Below w.heap.size w w') => R.text 4607182418800017408 w' bw (by omega)
  rw [text_one] at CT1
  have hy := fParse_lt' s
  obtain ⟨y, hye⟩ : ∃ y, y = (fParse (bs s)).getD 0 := ⟨_, rfl⟩
  obtain ⟨is, his⟩ : ∃ is, is = (fParse (bs s)).isSome := ⟨_, rfl⟩
  rw [← hye, ← his] at CP CP2
  rw [← hye] at hy
  obtain ⟨t, ht⟩ : ∃ t, t = strB (hexL (fBits a)) := ⟨_, rfl⟩
  have CTa := fun w' (bw : Below w.heap.size w w') => R.text a w' bw ha
  have CTb := fun w => refText_any a w ha
  have CTc := fun y w1 (bw : Below w.heap.size w w1) h (e : fBits y = fBits a) => (CT y w1 bw h).mono fun en w' (hh : en = _ ∧ Below w1.heap.size w1 w') => show en = .returned (.string t) ∧ Below w1.heap.size w1 w' from by rw [ht, ← e]; exact hh
  rw [← ht] at CTa CTb
  obtain ⟨o, ho⟩ : ∃ o, o = fOrd a b := ⟨_, rfl⟩
  rw [← ho] at CO CO2
  replace CP := Lib.hid CP
  replace CP2 := Lib.hid CP2
  replace CB := Lib.hid CB
  replace CTa := Lib.hid CTa
  replace CTb := Lib.hid CTb
  replace CTc := Lib.hid CTc
  replace CL := Lib.hid CL
  replace CO := Lib.hid CO
  replace CO2 := Lib.hid CO2
  replace CT1 := Lib.hid CT1
  clear CT R Q
  replace hye := Lib.hid hye
  replace his := Lib.hid his
  replace ht := Lib.hid ht
  replace ho := Lib.hid ho
  go_enter Tryd.func3, Tryd.ntmps3
  go_wp2_with fail
  refine CP.out.mono ?_
  rintro _ w1 ⟨x, rfl, hx, hxy, g1⟩
  have hn := nan_alike hxy
  replace g1 := Lib.hid g1
  dsimp only []
  go_wp2_with fail
  refine (CP2.out w1).mono ?_
  rintro _ w2 ⟨rfl, h2⟩
  subst w2
  dsimp only []
  go_wp2_with fail
  have CB1 := CB.out x w1
  rw [hxy] at CB1
  refine CB1.mono ?_
  clear CB1
  rintro _ w2 ⟨rfl, g2⟩
  replace g2 := Lib.hid (below_on g1.out g2)
  dsimp only []
  go_wp2_with fail
  refine (CB.out y w2).mono ?_
  rintro _ w3 ⟨rfl, g3⟩
  replace g3 := Lib.hid (below_on g2.out g3)
  dsimp only []
  have e1 := ord_self x
  have e2 := ord_self_ne y
  obtain ⟨q, hq⟩ : ∃ q, q = fBits y := ⟨_, rfl⟩
  rw [← hq]
  replace hq := Lib.hid hq
  replace hxy := Lib.hid hxy
  have en : (FloatKind.f64.format.order x x == some .eq) = true ∨ ((FloatKind.f64.format.order x x == some .eq) = false ∧ (FloatKind.f64.format.order y y != some .eq) = true) := by
    by_cases hnx : fNan x
    · exact .inr ⟨e1.trans (decide_eq_false (fun h => h hnx)), e2.trans (decide_eq_true (hn.1 hnx))⟩
    · exact .inl (e1.trans (decide_eq_true hnx))
  clear e1 e2 hn
  rcases en with en | ⟨en, en2⟩
  · go_wp2_with fail
    refine (CTa.out w3 g3.out).mono ?_
    rintro _ w4 ⟨rfl, g4⟩
    replace g4 := Lib.hid (below_on g3.out g4)
    dsimp only []
    go_wp2_with fail
    refine (CTb.out w4).mono ?_
    rintro _ w5 ⟨rfl, g5⟩
    replace g5 := Lib.hid (below_on g4.out g5)
    dsimp only []
    go_wp2_with fail
    refine (CL.out w5 g5.out).mono ?_
    rintro _ w6 ⟨z, rfl, hz, hza, g6⟩
    replace g6 := Lib.hid (below_on g5.out g6)
    dsimp only []
    go_wp2_with fail
    have CB2 := CB.out z w6
    rw [hza] at CB2
    replace hza := Lib.hid hza
    refine CB2.mono ?_
    rintro _ w7 ⟨rfl, g7⟩
    replace g7 := Lib.hid (below_on g6.out g7)
    dsimp only []
    go_wp2_with fail
    clear CB2
    refine (CB.out a w7).mono ?_
    rintro _ w8 ⟨rfl, g8⟩
    replace g8 := Lib.hid (below_on g7.out g8)
    dsimp only []
    go_wp2_with fail
    refine (CL.out w8 g8.out).mono ?_
    rintro _ w9 ⟨z2, rfl, hz2, hza2, g9⟩
    replace g9 := Lib.hid (below_on g8.out g9)
    dsimp only []
    go_wp2_with fail
    refine (CTc.out z2 w9 g9.out hz2 hza2).mono ?_
    rintro _ w10 ⟨rfl, g10⟩
    replace g10 := Lib.hid (below_on g9.out g10)
    dsimp only []
    go_wp2_with fail
    refine (CTb.out w10).mono ?_
    rintro _ w11 ⟨rfl, g11⟩
    replace g11 := Lib.hid (below_on g10.out g11)
    dsimp only []
    go_wp2_with fail
    refine (CO.out w11 g11.out).mono ?_
    rintro _ w12 ⟨rfl, g12⟩
    replace g12 := Lib.hid (below_on g11.out g12)
    dsimp only []
    go_wp2_with fail
    refine (CO2.out w12).mono ?_
    rintro _ w13 ⟨rfl, h13⟩
    subst w13
    dsimp only []
    go_wp2_with fail
    refine (CT1.out w12 g12.out).mono ?_
    rintro _ w14 ⟨rfl, g14⟩
    replace g14 := Lib.hid (below_on g12.out g14)
    dsimp only []
    go_wp2_with fail
    go_ret
    exact ⟨rfl, g14.out⟩
  · go_wp2_with fail
    refine (CTa.out w3 g3.out).mono ?_
    rintro _ w4 ⟨rfl, g4⟩
    replace g4 := Lib.hid (below_on g3.out g4)
    dsimp only []
    go_wp2_with fail
    refine (CTb.out w4).mono ?_
    rintro _ w5 ⟨rfl, g5⟩
    replace g5 := Lib.hid (below_on g4.out g5)
    dsimp only []
    go_wp2_with fail
    refine (CL.out w5 g5.out).mono ?_
    rintro _ w6 ⟨z, rfl, hz, hza, g6⟩
    replace g6 := Lib.hid (below_on g5.out g6)
    dsimp only []
    go_wp2_with fail
    have CB2 := CB.out z w6
    rw [hza] at CB2
    replace hza := Lib.hid hza
    refine CB2.mono ?_
    rintro _ w7 ⟨rfl, g7⟩
    replace g7 := Lib.hid (below_on g6.out g7)
    dsimp only []
    go_wp2_with fail
    clear CB2
    refine (CB.out a w7).mono ?_
    rintro _ w8 ⟨rfl, g8⟩
    replace g8 := Lib.hid (below_on g7.out g8)
    dsimp only []
    go_wp2_with fail
    refine (CL.out w8 g8.out).mono ?_
    rintro _ w9 ⟨z2, rfl, hz2, hza2, g9⟩
    replace g9 := Lib.hid (below_on g8.out g9)
    dsimp only []
    go_wp2_with fail
    refine (CTc.out z2 w9 g9.out hz2 hza2).mono ?_
    rintro _ w10 ⟨rfl, g10⟩
    replace g10 := Lib.hid (below_on g9.out g10)
    dsimp only []
    go_wp2_with fail
    refine (CTb.out w10).mono ?_
    rintro _ w11 ⟨rfl, g11⟩
    replace g11 := Lib.hid (below_on g10.out g11)
    dsimp only []
    go_wp2_with fail
    refine (CO.out w11 g11.out).mono ?_
    rintro _ w12 ⟨rfl, g12⟩
    replace g12 := Lib.hid (below_on g11.out g12)
    dsimp only []
    go_wp2_with fail
    refine (CO2.out w12).mono ?_
    rintro _ w13 ⟨rfl, h13⟩
    subst w13
    dsimp only []
    go_wp2_with fail
    refine (CT1.out w12 g12.out).mono ?_
    rintro _ w14 ⟨rfl, g14⟩
    replace g14 := Lib.hid (below_on g12.out g14)
    dsimp only []
    go_wp2_with fail
    go_ret
    exact ⟨rfl, g14.out⟩
set_option maxRecDepth 8000 in
set_option maxHeartbeats 1600000 in
theorem tells_long (s : ByteArray) (a b : Nat) (w : World) (R : RHypD w) (Q : RParD w) (ha : a < 18446744073709551616) (hb : b < 18446744073709551616) (hs : 100 < s.size) :
    Calls Tryd.prog 3 #[.string s, .float .f64 a, .float .f64 b] w fun e w' => e = .returned (.bool true) ∧ Below w.heap.size w w' := by
  have k0 : (100 : Int) < (s.size : Int) := by omega
  have k1 : (100 : Int) ≤ (s.size : Int) := by omega
  have CP := Q.parse (s.extract 0 100) w (Below.refl _ _)
  have CP2 := fun w => refParse_any (s.extract 0 100) w
  have CB := fun x w => refBits_any x w
  have CT := fun x w' (bw : Below w.heap.size w w') h => R.text x w' bw h
  have CL := fun w' (bw : Below w.heap.size w w') => R.plain a w' bw ha
  have CO := fun w' (bw : Below w.heap.size w w') => R.order a b w' bw ha hb
  have CO2 := fun w => refOrder_any a b w
  have CT1 := fun w' (bw : Below w.heap.size w w') => R.text 4607182418800017408 w' bw (by omega)
  rw [text_one] at CT1
  have hy := fParse_lt' (s.extract 0 100)
  obtain ⟨y, hye⟩ : ∃ y, y = (fParse (bs (s.extract 0 100))).getD 0 := ⟨_, rfl⟩
  obtain ⟨is, his⟩ : ∃ is, is = (fParse (bs (s.extract 0 100))).isSome := ⟨_, rfl⟩
  rw [← hye, ← his] at CP CP2
  rw [← hye] at hy
  obtain ⟨t, ht⟩ : ∃ t, t = strB (hexL (fBits a)) := ⟨_, rfl⟩
  have CTa := fun w' (bw : Below w.heap.size w w') => R.text a w' bw ha
  have CTb := fun w => refText_any a w ha
  have CTc := fun y w1 (bw : Below w.heap.size w w1) h (e : fBits y = fBits a) => (CT y w1 bw h).mono fun en w' (hh : en = _ ∧ Below w1.heap.size w1 w') => show en = .returned (.string t) ∧ Below w1.heap.size w1 w' from by rw [ht, ← e]; exact hh
  rw [← ht] at CTa CTb
  obtain ⟨o, ho⟩ : ∃ o, o = fOrd a b := ⟨_, rfl⟩
  rw [← ho] at CO CO2
  obtain ⟨s', hs'⟩ : ∃ s', s' = s.extract 0 100 := ⟨_, rfl⟩
  rw [← hs'] at CP CP2
  have hx' : s.extract 0 100 = s' := hs'.symm
  replace hs' := Lib.hid hs'
  replace CP := Lib.hid CP
  replace CP2 := Lib.hid CP2
  replace CB := Lib.hid CB
  replace CTa := Lib.hid CTa
  replace CTb := Lib.hid CTb
  replace CTc := Lib.hid CTc
  replace CL := Lib.hid CL
  replace CO := Lib.hid CO
  replace CO2 := Lib.hid CO2
  replace CT1 := Lib.hid CT1
  clear CT R Q
  replace hye := Lib.hid hye
  replace his := Lib.hid his
  replace ht := Lib.hid ht
  replace ho := Lib.hid ho
  go_enter Tryd.func3, Tryd.ntmps3
  go_wp2_with fail
  refine CP.out.mono ?_
  rintro _ w1 ⟨x, rfl, hx, hxy, g1⟩
  have hn := nan_alike hxy
  replace g1 := Lib.hid g1
  dsimp only []
  go_wp2_with fail
  refine (CP2.out w1).mono ?_
  rintro _ w2 ⟨rfl, h2⟩
  subst w2
  dsimp only []
  go_wp2_with fail
  have CB1 := CB.out x w1
  rw [hxy] at CB1
  refine CB1.mono ?_
  clear CB1
  rintro _ w2 ⟨rfl, g2⟩
  replace g2 := Lib.hid (below_on g1.out g2)
  dsimp only []
  go_wp2_with fail
  refine (CB.out y w2).mono ?_
  rintro _ w3 ⟨rfl, g3⟩
  replace g3 := Lib.hid (below_on g2.out g3)
  dsimp only []
  have e1 := ord_self x
  have e2 := ord_self_ne y
  obtain ⟨q, hq⟩ : ∃ q, q = fBits y := ⟨_, rfl⟩
  rw [← hq]
  replace hq := Lib.hid hq
  replace hxy := Lib.hid hxy
  have en : (FloatKind.f64.format.order x x == some .eq) = true ∨ ((FloatKind.f64.format.order x x == some .eq) = false ∧ (FloatKind.f64.format.order y y != some .eq) = true) := by
    by_cases hnx : fNan x
    · exact .inr ⟨e1.trans (decide_eq_false (fun h => h hnx)), e2.trans (decide_eq_true (hn.1 hnx))⟩
    · exact .inl (e1.trans (decide_eq_true hnx))
  clear e1 e2 hn
  rcases en with en | ⟨en, en2⟩
  · go_wp2_with fail
    refine (CTa.out w3 g3.out).mono ?_
    rintro _ w4 ⟨rfl, g4⟩
    replace g4 := Lib.hid (below_on g3.out g4)
    dsimp only []
    go_wp2_with fail
    refine (CTb.out w4).mono ?_
    rintro _ w5 ⟨rfl, g5⟩
    replace g5 := Lib.hid (below_on g4.out g5)
    dsimp only []
    go_wp2_with fail
    refine (CL.out w5 g5.out).mono ?_
    rintro _ w6 ⟨z, rfl, hz, hza, g6⟩
    replace g6 := Lib.hid (below_on g5.out g6)
    dsimp only []
    go_wp2_with fail
    have CB2 := CB.out z w6
    rw [hza] at CB2
    replace hza := Lib.hid hza
    refine CB2.mono ?_
    rintro _ w7 ⟨rfl, g7⟩
    replace g7 := Lib.hid (below_on g6.out g7)
    dsimp only []
    go_wp2_with fail
    clear CB2
    refine (CB.out a w7).mono ?_
    rintro _ w8 ⟨rfl, g8⟩
    replace g8 := Lib.hid (below_on g7.out g8)
    dsimp only []
    go_wp2_with fail
    refine (CL.out w8 g8.out).mono ?_
    rintro _ w9 ⟨z2, rfl, hz2, hza2, g9⟩
    replace g9 := Lib.hid (below_on g8.out g9)
    dsimp only []
    go_wp2_with fail
    refine (CTc.out z2 w9 g9.out hz2 hza2).mono ?_
    rintro _ w10 ⟨rfl, g10⟩
    replace g10 := Lib.hid (below_on g9.out g10)
    dsimp only []
    go_wp2_with fail
    refine (CTb.out w10).mono ?_
    rintro _ w11 ⟨rfl, g11⟩
    replace g11 := Lib.hid (below_on g10.out g11)
    dsimp only []
    go_wp2_with fail
    refine (CO.out w11 g11.out).mono ?_
    rintro _ w12 ⟨rfl, g12⟩
    replace g12 := Lib.hid (below_on g11.out g12)
    dsimp only []
    go_wp2_with fail
    refine (CO2.out w12).mono ?_
    rintro _ w13 ⟨rfl, h13⟩
    subst w13
    dsimp only []
    go_wp2_with fail
    refine (CT1.out w12 g12.out).mono ?_
    rintro _ w14 ⟨rfl, g14⟩
    replace g14 := Lib.hid (below_on g12.out g14)
    dsimp only []
    go_wp2_with fail
    go_ret
    exact ⟨rfl, g14.out⟩
  · go_wp2_with fail
    refine (CTa.out w3 g3.out).mono ?_
    rintro _ w4 ⟨rfl, g4⟩
    replace g4 := Lib.hid (below_on g3.out g4)
    dsimp only []
    go_wp2_with fail
    refine (CTb.out w4).mono ?_
    rintro _ w5 ⟨rfl, g5⟩
    replace g5 := Lib.hid (below_on g4.out g5)
    dsimp only []
    go_wp2_with fail
    refine (CL.out w5 g5.out).mono ?_
    rintro _ w6 ⟨z, rfl, hz, hza, g6⟩
    replace g6 := Lib.hid (below_on g5.out g6)
    dsimp only []
    go_wp2_with fail
    have CB2 := CB.out z w6
    rw [hza] at CB2
    replace hza := Lib.hid hza
    refine CB2.mono ?_
    rintro _ w7 ⟨rfl, g7⟩
    replace g7 := Lib.hid (below_on g6.out g7)
    dsimp only []
    go_wp2_with fail
    clear CB2
    refine (CB.out a w7).mono ?_
    rintro _ w8 ⟨rfl, g8⟩
    replace g8 := Lib.hid (below_on g7.out g8)
    dsimp only []
    go_wp2_with fail
    refine (CL.out w8 g8.out).mono ?_
    rintro _ w9 ⟨z2, rfl, hz2, hza2, g9⟩
    replace g9 := Lib.hid (below_on g8.out g9)
    dsimp only []
    go_wp2_with fail
    refine (CTc.out z2 w9 g9.out hz2 hza2).mono ?_
    rintro _ w10 ⟨rfl, g10⟩
    replace g10 := Lib.hid (below_on g9.out g10)
    dsimp only []
    go_wp2_with fail
    refine (CTb.out w10).mono ?_
    rintro _ w11 ⟨rfl, g11⟩
    replace g11 := Lib.hid (below_on g10.out g11)
    dsimp only []
    go_wp2_with fail
    refine (CO.out w11 g11.out).mono ?_
    rintro _ w12 ⟨rfl, g12⟩
    replace g12 := Lib.hid (below_on g11.out g12)
    dsimp only []
    go_wp2_with fail
    refine (CO2.out w12).mono ?_
    rintro _ w13 ⟨rfl, h13⟩
    subst w13
    dsimp only []
    go_wp2_with fail
    refine (CT1.out w12 g12.out).mono ?_
    rintro _ w14 ⟨rfl, g14⟩
    replace g14 := Lib.hid (below_on g12.out g14)
    dsimp only []
    go_wp2_with fail
    go_ret
    exact ⟨rfl, g14.out⟩
theorem tells_walk6 (s : ByteArray) (a b : Nat) (w : World) (R : RHypD w) (Q : RParD w) (ha : a < 18446744073709551616) (hb : b < 18446744073709551616) :
    Calls Tryd.prog 3 #[.string s, .float .f64 a, .float .f64 b] w fun e w' => e = .returned (.bool true) ∧ Below w.heap.size w w' := by
  rcases Nat.lt_or_ge 100 s.size with h | h
  · exact tells_long s a b w R Q ha hb h
  · exact tells_short s a b w R Q ha hb h
end Go.Proofs.YtdojbgfkcleeaaaDoor
