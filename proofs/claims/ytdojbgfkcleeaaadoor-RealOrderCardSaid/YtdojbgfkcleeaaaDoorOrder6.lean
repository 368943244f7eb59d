/-
  RealOrder, from any three numbers.
-/
import Derived.Test.YtdojbgfkcleeaaaDoorRHypD
namespace Go.Proofs.YtdojbgfkcleeaaaDoor
open Ieee Go.RowKit

theorem fOrd_bound (a b : Nat) : -1 ≤ fOrd a b ∧ fOrd a b ≤ 1 := by
  unfold fOrd
  split
  · split <;> omega
  · split
    · omega
    · split
      · omega
      · split <;> omega
theorem hexL_inj {m n : Nat} (hm : m < 18446744073709551616) (hn : n < 18446744073709551616) (h : hexL m = hexL n) : m = n := by
  have h1 := fParse_hexL m hm
  rw [h, fParse_hexL n hn] at h1
  injection h1 with h1
  exact h1.symm
theorem text_eq {a b : Nat} (ha : a < 18446744073709551616) (hb : b < 18446744073709551616) (h : fBits a ≠ fBits b) : ((strB (hexL (fBits a))).toList == (strB (hexL (fBits b))).toList) = false := by
  rw [str_eq, bs_strB _ (hexL_byte _), bs_strB _ (hexL_byte _)]
  exact decide_eq_false fun e => h (hexL_inj (fBits_lt a ha) (fBits_lt b hb) e)
theorem rate_00 : fBits (fRate 0 0) = fNC := by decide +kernel
theorem rate_m10 : fOrd (fRate (-1) 0) (fRate 1 0) = -1 := by decide +kernel
theorem rate_0m1 : fOrd 0 (fRate 0 (-1)) = 0 := by decide +kernel
theorem ord_none_nan {a b : Nat} (ha : fNan a) (hb : fNan b) : fOrd a b = 0 := by unfold fOrd; rw [if_pos ha, if_pos hb]
theorem ord_none_num {a b : Nat} (ha : ¬ fNan a) (hb : fNan b) : fOrd a b = -1 := by unfold fOrd; rw [if_neg ha, if_pos hb]

set_option maxRecDepth 8000 in
set_option maxHeartbeats 4000000 in
theorem order_walk6 (a b c : Nat) (w : World) (R : RHypD w) (ha : a < 18446744073709551616) (hb : b < 18446744073709551616) (hc : c < 18446744073709551616) :
    Calls Tryd.prog 4 #[.float .f64 a, .float .f64 b, .float .f64 c] w fun e w' => e = .returned (.bool true) ∧ Below w.heap.size w w' := by
  have CAB := fun w' (bw : Below w.heap.size w w') => R.order a b w' bw ha hb
  have CBA := fun w' (bw : Below w.heap.size w w') => R.order b a w' bw hb ha
  have CBC := fun w' (bw : Below w.heap.size w w') => R.order b c w' bw hb hc
  have CAC := fun w' (bw : Below w.heap.size w w') => R.order a c w' bw ha hc
  have CTA := fun w' (bw : Below w.heap.size w w') => R.text a w' bw ha
  have CTB := fun w' (bw : Below w.heap.size w w') => R.text b w' bw hb
  have CR0 := fun w' (bw : Below w.heap.size w w') => R.rate 0 0 w' bw (by omega) (by omega) (by omega) (by omega)
  have CR1 := fun w' (bw : Below w.heap.size w w') => R.rate (-1) 0 w' bw (by omega) (by omega) (by omega) (by omega)
  have CR2 := fun w' (bw : Below w.heap.size w w') => R.rate 1 0 w' bw (by omega) (by omega) (by omega) (by omega)
  have CR3 := fun w' (bw : Below w.heap.size w w') => R.rate 0 (-1) w' bw (by omega) (by omega) (by omega) (by omega)
  have CN := fun y w' (bw : Below w.heap.size w w') hy => R.order a y w' bw ha hy
  have CI := fun x y w1 (bw : Below w.heap.size w w1) hx hy (e1 : fBits x = fBits (fRate (-1) 0)) (e2 : fBits y = fBits (fRate 1 0)) => (R.order x y w1 bw hx hy).mono fun en w' (hh : en = _ ∧ Below w1.heap.size w1 w') => show en = .returned (.int .i64 (-1)) ∧ Below w1.heap.size w1 w' from by rw [ord_alike e1 e2, rate_m10] at hh; exact hh
  have CZ := fun y w1 (bw : Below w.heap.size w w1) hy (e2 : fBits y = fBits (fRate 0 (-1))) => (R.order 0 y w1 bw (by omega) hy).mono fun en w' (hh : en = _ ∧ Below w1.heap.size w1 w') => show en = .returned (.int .i64 0) ∧ Below w1.heap.size w1 w' from by rw [ord_alike (rfl : fBits 0 = fBits 0) e2, rate_0m1] at hh; exact hh
  have hanti := fOrd_anti b a
  have hz := fOrd_zero a b ha hb
  have htr := fOrd_trans a b c
  have b1 := fOrd_bound a b
  have hte := text_eq (a := a) (b := b) ha hb
  have htt : fBits a = fBits b → strB (hexL (fBits b)) = strB (hexL (fBits a)) := fun e => by rw [e]
  have en := ord_self_ne a
  rw [hanti] at CBA
  clear hanti R
  obtain ⟨o1, h1⟩ : ∃ o, o = fOrd a b := ⟨_, rfl⟩
  obtain ⟨o2, h2⟩ : ∃ o, o = fOrd b c := ⟨_, rfl⟩
  obtain ⟨o3, h3⟩ : ∃ o, o = fOrd a c := ⟨_, rfl⟩
  obtain ⟨ta, t1⟩ : ∃ o, o = strB (hexL (fBits a)) := ⟨_, rfl⟩
  obtain ⟨tb, t2⟩ : ∃ o, o = strB (hexL (fBits b)) := ⟨_, rfl⟩
  rw [← h1] at CAB CBA b1 hz htr
  rw [← h2] at CBC htr
  rw [← h3] at CAC htr
  rw [← t1] at CTA hte htt
  rw [← t2] at CTB hte htt
  replace CAB := Lib.hid CAB
  replace CBA := Lib.hid CBA
  replace CBC := Lib.hid CBC
  replace CAC := Lib.hid CAC
  replace CTA := Lib.hid CTA
  replace CTB := Lib.hid CTB
  replace CR0 := Lib.hid CR0
  replace CR1 := Lib.hid CR1
  replace CR2 := Lib.hid CR2
  replace CR3 := Lib.hid CR3
  replace CN := Lib.hid CN
  replace CI := Lib.hid CI
  replace CZ := Lib.hid CZ
  replace h1 := Lib.hid h1
  replace h2 := Lib.hid h2
  replace h3 := Lib.hid h3
  replace t1 := Lib.hid t1
  replace t2 := Lib.hid t2
  replace en := Lib.hid en
  replace htr := Lib.hid htr
  have n1 : -(-o1) = o1 := Int.neg_neg o1
  have g0 := Lib.hid (Below.refl w.heap.size w)
  have heq : ((o1 == 0) = true ∧ (ta.toList == tb.toList) = true) ∨ ((o1 == 0) = false ∧ (ta.toList == tb.toList) = false) := by
    by_cases e : fBits a = fBits b
    · exact .inl ⟨by rw [hz.2 e]; rfl, by rw [htt e]; exact beq_self_eq_true _⟩
    · exact .inr ⟨by rw [beq_eq_false_iff_ne]; exact fun h => e (hz.1 h), hte e⟩
  clear hte htt
  replace hz := Lib.hid hz
  go_enter Tryd.func4, Tryd.ntmps4
  go_wp2_with fail
  refine (CAB.out w g0.out).mono ?_
  rintro _ w1 ⟨rfl, g1⟩
  replace g1 := Lib.hid (below_on g0.out g1)
  dsimp only []
  go_wp2_with fail
  refine (CBA.out w1 g1.out).mono ?_
  rintro _ w2 ⟨rfl, g2⟩
  replace g2 := Lib.hid (below_on g1.out g2)
  dsimp only []
  go_wp2_with fail
  refine (CAB.out w2 g2.out).mono ?_
  rintro _ w3 ⟨rfl, g3⟩
  replace g3 := Lib.hid (below_on g2.out g3)
  dsimp only []
  go_wp2_with fail
  refine (CTA.out w3 g3.out).mono ?_
  rintro _ w4 ⟨rfl, g4⟩
  replace g4 := Lib.hid (below_on g3.out g4)
  dsimp only []
  go_wp2_with fail
  refine (CTB.out w4 g4.out).mono ?_
  rintro _ w5 ⟨rfl, g5⟩
  replace g5 := Lib.hid (below_on g4.out g5)
  dsimp only []
  rcases heq with ⟨q1, q2⟩ | ⟨q1, q2⟩
  · go_wp2_with fail
    refine (CAB.out w5 g5.out).mono ?_
    rintro _ w6 ⟨rfl, g6⟩
    replace g6 := Lib.hid (below_on g5.out g6)
    dsimp only []
    by_cases d1 : o1 ≤ 0
    · go_wp2_with fail
      refine (CBC.out w6 g6.out).mono ?_
      rintro _ w7 ⟨rfl, g7⟩
      replace g7 := Lib.hid (below_on g6.out g7)
      dsimp only []
      by_cases d2 : o2 ≤ 0
      · have d3 : ¬ (0 < o3) := by have := htr.out d1 d2; omega
        go_wp2_with fail
        refine (CAC.out w7 g7.out).mono ?_
        rintro _ w8 ⟨rfl, g8⟩
        replace g8 := Lib.hid (below_on g7.out g8)
        dsimp only []
        go_wp2_with fail
        refine (CR0.out w8 g8.out).mono ?_
        rintro _ w9 ⟨z, rfl, hz', hzb, g9⟩
        replace g9 := Lib.hid (below_on g8.out g9)
        have hzn := (nan_alike hzb).2 ((nan_bits _).2 rate_00)
        replace hzb := Lib.hid hzb
        dsimp only []
        by_cases hna : fNan a
        · have CN1 := fun w' bw => CN.out z w' bw hz'
          rw [ord_none_nan hna hzn] at CN1
          have en1 := en.out
          rw [decide_eq_true hna] at en1
          replace CN1 := Lib.hid CN1
          replace hna := Lib.hid hna
          replace hzn := Lib.hid hzn
          go_wp2_with fail
          refine (CN1.out w9 g9.out).mono ?_
          rintro _ w10 ⟨rfl, g10⟩
          replace g10 := Lib.hid (below_on g9.out g10)
          dsimp only []
          go_wp2_with fail
          refine (CR1.out w10 g10.out).mono ?_
          rintro _ w11 ⟨u1, rfl, hu1, hu2, g11⟩
          replace g11 := Lib.hid (below_on g10.out g11)
          replace hu2 := Lib.hid hu2
          dsimp only []
          go_wp2_with fail
          refine (CR2.out w11 g11.out).mono ?_
          rintro _ w12 ⟨u3, rfl, hu3, hu4, g12⟩
          replace g12 := Lib.hid (below_on g11.out g12)
          replace hu4 := Lib.hid hu4
          dsimp only []
          go_wp2_with fail
          refine (CI.out u1 u3 w12 g12.out hu1 hu3 hu2.out hu4.out).mono ?_
          rintro _ w13 ⟨rfl, g13⟩
          replace g13 := Lib.hid (below_on g12.out g13)
          dsimp only []
          go_wp2_with fail
          refine (CR3.out w13 g13.out).mono ?_
          rintro _ w14 ⟨u5, rfl, hu5, hu6, g14⟩
          replace g14 := Lib.hid (below_on g13.out g14)
          replace hu6 := Lib.hid hu6
          dsimp only []
          go_wp2_with fail
          refine (CZ.out u5 w14 g14.out hu5 hu6.out).mono ?_
          rintro _ w15 ⟨rfl, g15⟩
          replace g15 := Lib.hid (below_on g14.out g15)
          dsimp only []
          go_wp2_with fail
          go_ret
          exact ⟨rfl, g15.out⟩
        · have CN1 := fun w' bw => CN.out z w' bw hz'
          rw [ord_none_num hna hzn] at CN1
          have en1 := en.out
          rw [decide_eq_false hna] at en1
          replace CN1 := Lib.hid CN1
          replace hna := Lib.hid hna
          replace hzn := Lib.hid hzn
          go_wp2_with fail
          refine (CN1.out w9 g9.out).mono ?_
          rintro _ w10 ⟨rfl, g10⟩
          replace g10 := Lib.hid (below_on g9.out g10)
          dsimp only []
          go_wp2_with fail
          refine (CN1.out w10 g10.out).mono ?_
          rintro _ w11 ⟨rfl, g11⟩
          replace g11 := Lib.hid (below_on g10.out g11)
          dsimp only []
          go_wp2_with fail
          refine (CR1.out w11 g11.out).mono ?_
          rintro _ w12 ⟨u1, rfl, hu1, hu2, g12⟩
          replace g12 := Lib.hid (below_on g11.out g12)
          replace hu2 := Lib.hid hu2
          dsimp only []
          go_wp2_with fail
          refine (CR2.out w12 g12.out).mono ?_
          rintro _ w13 ⟨u3, rfl, hu3, hu4, g13⟩
          replace g13 := Lib.hid (below_on g12.out g13)
          replace hu4 := Lib.hid hu4
          dsimp only []
          go_wp2_with fail
          refine (CI.out u1 u3 w13 g13.out hu1 hu3 hu2.out hu4.out).mono ?_
          rintro _ w14 ⟨rfl, g14⟩
          replace g14 := Lib.hid (below_on g13.out g14)
          dsimp only []
          go_wp2_with fail
          refine (CR3.out w14 g14.out).mono ?_
          rintro _ w15 ⟨u5, rfl, hu5, hu6, g15⟩
          replace g15 := Lib.hid (below_on g14.out g15)
          replace hu6 := Lib.hid hu6
          dsimp only []
          go_wp2_with fail
          refine (CZ.out u5 w15 g15.out hu5 hu6.out).mono ?_
          rintro _ w16 ⟨rfl, g16⟩
          replace g16 := Lib.hid (below_on g15.out g16)
          dsimp only []
          go_wp2_with fail
          go_ret
          exact ⟨rfl, g16.out⟩
      · go_wp2_with fail
        refine (CR0.out w7 g7.out).mono ?_
        rintro _ w8 ⟨z, rfl, hz', hzb, g8⟩
        replace g8 := Lib.hid (below_on g7.out g8)
        have hzn := (nan_alike hzb).2 ((nan_bits _).2 rate_00)
        replace hzb := Lib.hid hzb
        dsimp only []
        by_cases hna : fNan a
        · have CN1 := fun w' bw => CN.out z w' bw hz'
          rw [ord_none_nan hna hzn] at CN1
          have en1 := en.out
          rw [decide_eq_true hna] at en1
          replace CN1 := Lib.hid CN1
          replace hna := Lib.hid hna
          replace hzn := Lib.hid hzn
          go_wp2_with fail
          refine (CN1.out w8 g8.out).mono ?_
          rintro _ w9 ⟨rfl, g9⟩
          replace g9 := Lib.hid (below_on g8.out g9)
          dsimp only []
          go_wp2_with fail
          refine (CR1.out w9 g9.out).mono ?_
          rintro _ w10 ⟨u1, rfl, hu1, hu2, g10⟩
          replace g10 := Lib.hid (below_on g9.out g10)
          replace hu2 := Lib.hid hu2
          dsimp only []
          go_wp2_with fail
          refine (CR2.out w10 g10.out).mono ?_
          rintro _ w11 ⟨u3, rfl, hu3, hu4, g11⟩
          replace g11 := Lib.hid (below_on g10.out g11)
          replace hu4 := Lib.hid hu4
          dsimp only []
          go_wp2_with fail
          refine (CI.out u1 u3 w11 g11.out hu1 hu3 hu2.out hu4.out).mono ?_
          rintro _ w12 ⟨rfl, g12⟩
          replace g12 := Lib.hid (below_on g11.out g12)
          dsimp only []
          go_wp2_with fail
          refine (CR3.out w12 g12.out).mono ?_
          rintro _ w13 ⟨u5, rfl, hu5, hu6, g13⟩
          replace g13 := Lib.hid (below_on g12.out g13)
          replace hu6 := Lib.hid hu6
          dsimp only []
          go_wp2_with fail
          refine (CZ.out u5 w13 g13.out hu5 hu6.out).mono ?_
          rintro _ w14 ⟨rfl, g14⟩
          replace g14 := Lib.hid (below_on g13.out g14)
          dsimp only []
          go_wp2_with fail
          go_ret
          exact ⟨rfl, g14.out⟩
        · have CN1 := fun w' bw => CN.out z w' bw hz'
          rw [ord_none_num hna hzn] at CN1
          have en1 := en.out
          rw [decide_eq_false hna] at en1
          replace CN1 := Lib.hid CN1
          replace hna := Lib.hid hna
          replace hzn := Lib.hid hzn
          go_wp2_with fail
          refine (CN1.out w8 g8.out).mono ?_
          rintro _ w9 ⟨rfl, g9⟩
          replace g9 := Lib.hid (below_on g8.out g9)
          dsimp only []
          go_wp2_with fail
          refine (CN1.out w9 g9.out).mono ?_
          rintro _ w10 ⟨rfl, g10⟩
          replace g10 := Lib.hid (below_on g9.out g10)
          dsimp only []
          go_wp2_with fail
          refine (CR1.out w10 g10.out).mono ?_
          rintro _ w11 ⟨u1, rfl, hu1, hu2, g11⟩
          replace g11 := Lib.hid (below_on g10.out g11)
          replace hu2 := Lib.hid hu2
          dsimp only []
          go_wp2_with fail
          refine (CR2.out w11 g11.out).mono ?_
          rintro _ w12 ⟨u3, rfl, hu3, hu4, g12⟩
          replace g12 := Lib.hid (below_on g11.out g12)
          replace hu4 := Lib.hid hu4
          dsimp only []
          go_wp2_with fail
          refine (CI.out u1 u3 w12 g12.out hu1 hu3 hu2.out hu4.out).mono ?_
          rintro _ w13 ⟨rfl, g13⟩
          replace g13 := Lib.hid (below_on g12.out g13)
          dsimp only []
          go_wp2_with fail
          refine (CR3.out w13 g13.out).mono ?_
          rintro _ w14 ⟨u5, rfl, hu5, hu6, g14⟩
          replace g14 := Lib.hid (below_on g13.out g14)
          replace hu6 := Lib.hid hu6
          dsimp only []
          go_wp2_with fail
          refine (CZ.out u5 w14 g14.out hu5 hu6.out).mono ?_
          rintro _ w15 ⟨rfl, g15⟩
          replace g15 := Lib.hid (below_on g14.out g15)
          dsimp only []
          go_wp2_with fail
          go_ret
          exact ⟨rfl, g15.out⟩
    · go_wp2_with fail
      refine (CR0.out w6 g6.out).mono ?_
      rintro _ w7 ⟨z, rfl, hz', hzb, g7⟩
      replace g7 := Lib.hid (below_on g6.out g7)
      have hzn := (nan_alike hzb).2 ((nan_bits _).2 rate_00)
      replace hzb := Lib.hid hzb
      dsimp only []
      by_cases hna : fNan a
      · have CN1 := fun w' bw => CN.out z w' bw hz'
        rw [ord_none_nan hna hzn] at CN1
        have en1 := en.out
        rw [decide_eq_true hna] at en1
        replace CN1 := Lib.hid CN1
        replace hna := Lib.hid hna
        replace hzn := Lib.hid hzn
        go_wp2_with fail
        refine (CN1.out w7 g7.out).mono ?_
        rintro _ w8 ⟨rfl, g8⟩
        replace g8 := Lib.hid (below_on g7.out g8)
        dsimp only []
        go_wp2_with fail
        refine (CR1.out w8 g8.out).mono ?_
        rintro _ w9 ⟨u1, rfl, hu1, hu2, g9⟩
        replace g9 := Lib.hid (below_on g8.out g9)
        replace hu2 := Lib.hid hu2
        dsimp only []
        go_wp2_with fail
        refine (CR2.out w9 g9.out).mono ?_
        rintro _ w10 ⟨u3, rfl, hu3, hu4, g10⟩
        replace g10 := Lib.hid (below_on g9.out g10)
        replace hu4 := Lib.hid hu4
        dsimp only []
        go_wp2_with fail
        refine (CI.out u1 u3 w10 g10.out hu1 hu3 hu2.out hu4.out).mono ?_
        rintro _ w11 ⟨rfl, g11⟩
        replace g11 := Lib.hid (below_on g10.out g11)
        dsimp only []
        go_wp2_with fail
        refine (CR3.out w11 g11.out).mono ?_
        rintro _ w12 ⟨u5, rfl, hu5, hu6, g12⟩
        replace g12 := Lib.hid (below_on g11.out g12)
        replace hu6 := Lib.hid hu6
        dsimp only []
        go_wp2_with fail
        refine (CZ.out u5 w12 g12.out hu5 hu6.out).mono ?_
        rintro _ w13 ⟨rfl, g13⟩
        replace g13 := Lib.hid (below_on g12.out g13)
        dsimp only []
        go_wp2_with fail
        go_ret
        exact ⟨rfl, g13.out⟩
      · have CN1 := fun w' bw => CN.out z w' bw hz'
        rw [ord_none_num hna hzn] at CN1
        have en1 := en.out
        rw [decide_eq_false hna] at en1
        replace CN1 := Lib.hid CN1
        replace hna := Lib.hid hna
        replace hzn := Lib.hid hzn
        go_wp2_with fail
        refine (CN1.out w7 g7.out).mono ?_
        rintro _ w8 ⟨rfl, g8⟩
        replace g8 := Lib.hid (below_on g7.out g8)
        dsimp only []
        go_wp2_with fail
        refine (CN1.out w8 g8.out).mono ?_
        rintro _ w9 ⟨rfl, g9⟩
        replace g9 := Lib.hid (below_on g8.out g9)
        dsimp only []
        go_wp2_with fail
        refine (CR1.out w9 g9.out).mono ?_
        rintro _ w10 ⟨u1, rfl, hu1, hu2, g10⟩
        replace g10 := Lib.hid (below_on g9.out g10)
        replace hu2 := Lib.hid hu2
        dsimp only []
        go_wp2_with fail
        refine (CR2.out w10 g10.out).mono ?_
        rintro _ w11 ⟨u3, rfl, hu3, hu4, g11⟩
        replace g11 := Lib.hid (below_on g10.out g11)
        replace hu4 := Lib.hid hu4
        dsimp only []
        go_wp2_with fail
        refine (CI.out u1 u3 w11 g11.out hu1 hu3 hu2.out hu4.out).mono ?_
        rintro _ w12 ⟨rfl, g12⟩
        replace g12 := Lib.hid (below_on g11.out g12)
        dsimp only []
        go_wp2_with fail
        refine (CR3.out w12 g12.out).mono ?_
        rintro _ w13 ⟨u5, rfl, hu5, hu6, g13⟩
        replace g13 := Lib.hid (below_on g12.out g13)
        replace hu6 := Lib.hid hu6
        dsimp only []
        go_wp2_with fail
        refine (CZ.out u5 w13 g13.out hu5 hu6.out).mono ?_
        rintro _ w14 ⟨rfl, g14⟩
        replace g14 := Lib.hid (below_on g13.out g14)
        dsimp only []
        go_wp2_with fail
        go_ret
        exact ⟨rfl, g14.out⟩
  · go_wp2_with fail
    refine (CAB.out w5 g5.out).mono ?_
    rintro _ w6 ⟨rfl, g6⟩
    replace g6 := Lib.hid (below_on g5.out g6)
    dsimp only []
    by_cases d1 : o1 ≤ 0
    · go_wp2_with fail
      refine (CBC.out w6 g6.out).mono ?_
      rintro _ w7 ⟨rfl, g7⟩
      replace g7 := Lib.hid (below_on g6.out g7)
      dsimp only []
      by_cases d2 : o2 ≤ 0
      · have d3 : ¬ (0 < o3) := by have := htr.out d1 d2; omega
        go_wp2_with fail
        refine (CAC.out w7 g7.out).mono ?_
        rintro _ w8 ⟨rfl, g8⟩
        replace g8 := Lib.hid (below_on g7.out g8)
        dsimp only []
        go_wp2_with fail
        refine (CR0.out w8 g8.out).mono ?_
        rintro _ w9 ⟨z, rfl, hz', hzb, g9⟩
        replace g9 := Lib.hid (below_on g8.out g9)
        have hzn := (nan_alike hzb).2 ((nan_bits _).2 rate_00)
        replace hzb := Lib.hid hzb
        dsimp only []
        by_cases hna : fNan a
        · have CN1 := fun w' bw => CN.out z w' bw hz'
          rw [ord_none_nan hna hzn] at CN1
          have en1 := en.out
          rw [decide_eq_true hna] at en1
          replace CN1 := Lib.hid CN1
          replace hna := Lib.hid hna
          replace hzn := Lib.hid hzn
          go_wp2_with fail
          refine (CN1.out w9 g9.out).mono ?_
          rintro _ w10 ⟨rfl, g10⟩
          replace g10 := Lib.hid (below_on g9.out g10)
          dsimp only []
          go_wp2_with fail
          refine (CR1.out w10 g10.out).mono ?_
          rintro _ w11 ⟨u1, rfl, hu1, hu2, g11⟩
          replace g11 := Lib.hid (below_on g10.out g11)
          replace hu2 := Lib.hid hu2
          dsimp only []
          go_wp2_with fail
          refine (CR2.out w11 g11.out).mono ?_
          rintro _ w12 ⟨u3, rfl, hu3, hu4, g12⟩
          replace g12 := Lib.hid (below_on g11.out g12)
          replace hu4 := Lib.hid hu4
          dsimp only []
          go_wp2_with fail
          refine (CI.out u1 u3 w12 g12.out hu1 hu3 hu2.out hu4.out).mono ?_
          rintro _ w13 ⟨rfl, g13⟩
          replace g13 := Lib.hid (below_on g12.out g13)
          dsimp only []
          go_wp2_with fail
          refine (CR3.out w13 g13.out).mono ?_
          rintro _ w14 ⟨u5, rfl, hu5, hu6, g14⟩
          replace g14 := Lib.hid (below_on g13.out g14)
          replace hu6 := Lib.hid hu6
          dsimp only []
          go_wp2_with fail
          refine (CZ.out u5 w14 g14.out hu5 hu6.out).mono ?_
          rintro _ w15 ⟨rfl, g15⟩
          replace g15 := Lib.hid (below_on g14.out g15)
          dsimp only []
          go_wp2_with fail
          go_ret
          exact ⟨rfl, g15.out⟩
        · have CN1 := fun w' bw => CN.out z w' bw hz'
          rw [ord_none_num hna hzn] at CN1
          have en1 := en.out
          rw [decide_eq_false hna] at en1
          replace CN1 := Lib.hid CN1
          replace hna := Lib.hid hna
          replace hzn := Lib.hid hzn
          go_wp2_with fail
          refine (CN1.out w9 g9.out).mono ?_
          rintro _ w10 ⟨rfl, g10⟩
          replace g10 := Lib.hid (below_on g9.out g10)
          dsimp only []
          go_wp2_with fail
          refine (CN1.out w10 g10.out).mono ?_
          rintro _ w11 ⟨rfl, g11⟩
          replace g11 := Lib.hid (below_on g10.out g11)
          dsimp only []
          go_wp2_with fail
          refine (CR1.out w11 g11.out).mono ?_
          rintro _ w12 ⟨u1, rfl, hu1, hu2, g12⟩
          replace g12 := Lib.hid (below_on g11.out g12)
          replace hu2 := Lib.hid hu2
          dsimp only []
          go_wp2_with fail
          refine (CR2.out w12 g12.out).mono ?_
          rintro _ w13 ⟨u3, rfl, hu3, hu4, g13⟩
          replace g13 := Lib.hid (below_on g12.out g13)
          replace hu4 := Lib.hid hu4
          dsimp only []
          go_wp2_with fail
          refine (CI.out u1 u3 w13 g13.out hu1 hu3 hu2.out hu4.out).mono ?_
          rintro _ w14 ⟨rfl, g14⟩
          replace g14 := Lib.hid (below_on g13.out g14)
          dsimp only []
          go_wp2_with fail
          refine (CR3.out w14 g14.out).mono ?_
          rintro _ w15 ⟨u5, rfl, hu5, hu6, g15⟩
          replace g15 := Lib.hid (below_on g14.out g15)
          replace hu6 := Lib.hid hu6
          dsimp only []
          go_wp2_with fail
          refine (CZ.out u5 w15 g15.out hu5 hu6.out).mono ?_
          rintro _ w16 ⟨rfl, g16⟩
          replace g16 := Lib.hid (below_on g15.out g16)
          dsimp only []
          go_wp2_with fail
          go_ret
          exact ⟨rfl, g16.out⟩
      · go_wp2_with fail
        refine (CR0.out w7 g7.out).mono ?_
        rintro _ w8 ⟨z, rfl, hz', hzb, g8⟩
        replace g8 := Lib.hid (below_on g7.out g8)
        have hzn := (nan_alike hzb).2 ((nan_bits _).2 rate_00)
        replace hzb := Lib.hid hzb
        dsimp only []
        by_cases hna : fNan a
        · have CN1 := fun w' bw => CN.out z w' bw hz'
          rw [ord_none_nan hna hzn] at CN1
          have en1 := en.out
          rw [decide_eq_true hna] at en1
          replace CN1 := Lib.hid CN1
          replace hna := Lib.hid hna
          replace hzn := Lib.hid hzn
          go_wp2_with fail
          refine (CN1.out w8 g8.out).mono ?_
          rintro _ w9 ⟨rfl, g9⟩
          replace g9 := Lib.hid (below_on g8.out g9)
          dsimp only []
          go_wp2_with fail
          refine (CR1.out w9 g9.out).mono ?_
          rintro _ w10 ⟨u1, rfl, hu1, hu2, g10⟩
          replace g10 := Lib.hid (below_on g9.out g10)
          replace hu2 := Lib.hid hu2
          dsimp only []
          go_wp2_with fail
          refine (CR2.out w10 g10.out).mono ?_
          rintro _ w11 ⟨u3, rfl, hu3, hu4, g11⟩
          replace g11 := Lib.hid (below_on g10.out g11)
          replace hu4 := Lib.hid hu4
          dsimp only []
          go_wp2_with fail
          refine (CI.out u1 u3 w11 g11.out hu1 hu3 hu2.out hu4.out).mono ?_
          rintro _ w12 ⟨rfl, g12⟩
          replace g12 := Lib.hid (below_on g11.out g12)
          dsimp only []
          go_wp2_with fail
          refine (CR3.out w12 g12.out).mono ?_
          rintro _ w13 ⟨u5, rfl, hu5, hu6, g13⟩
          replace g13 := Lib.hid (below_on g12.out g13)
          replace hu6 := Lib.hid hu6
          dsimp only []
          go_wp2_with fail
          refine (CZ.out u5 w13 g13.out hu5 hu6.out).mono ?_
          rintro _ w14 ⟨rfl, g14⟩
          replace g14 := Lib.hid (below_on g13.out g14)
          dsimp only []
          go_wp2_with fail
          go_ret
          exact ⟨rfl, g14.out⟩
        · have CN1 := fun w' bw => CN.out z w' bw hz'
          rw [ord_none_num hna hzn] at CN1
          have en1 := en.out
          rw [decide_eq_false hna] at en1
          replace CN1 := Lib.hid CN1
          replace hna := Lib.hid hna
          replace hzn := Lib.hid hzn
          go_wp2_with fail
          refine (CN1.out w8 g8.out).mono ?_
          rintro _ w9 ⟨rfl, g9⟩
          replace g9 := Lib.hid (below_on g8.out g9)
          dsimp only []
          go_wp2_with fail
          refine (CN1.out w9 g9.out).mono ?_
          rintro _ w10 ⟨rfl, g10⟩
          replace g10 := Lib.hid (below_on g9.out g10)
          dsimp only []
          go_wp2_with fail
          refine (CR1.out w10 g10.out).mono ?_
          rintro _ w11 ⟨u1, rfl, hu1, hu2, g11⟩
          replace g11 := Lib.hid (below_on g10.out g11)
          replace hu2 := Lib.hid hu2
          dsimp only []
          go_wp2_with fail
          refine (CR2.out w11 g11.out).mono ?_
          rintro _ w12 ⟨u3, rfl, hu3, hu4, g12⟩
          replace g12 := Lib.hid (below_on g11.out g12)
          replace hu4 := Lib.hid hu4
          dsimp only []
          go_wp2_with fail
          refine (CI.out u1 u3 w12 g12.out hu1 hu3 hu2.out hu4.out).mono ?_
          rintro _ w13 ⟨rfl, g13⟩
          replace g13 := Lib.hid (below_on g12.out g13)
          dsimp only []
          go_wp2_with fail
          refine (CR3.out w13 g13.out).mono ?_
          rintro _ w14 ⟨u5, rfl, hu5, hu6, g14⟩
          replace g14 := Lib.hid (below_on g13.out g14)
          replace hu6 := Lib.hid hu6
          dsimp only []
          go_wp2_with fail
          refine (CZ.out u5 w14 g14.out hu5 hu6.out).mono ?_
          rintro _ w15 ⟨rfl, g15⟩
          replace g15 := Lib.hid (below_on g14.out g15)
          dsimp only []
          go_wp2_with fail
          go_ret
          exact ⟨rfl, g15.out⟩
    · go_wp2_with fail
      refine (CR0.out w6 g6.out).mono ?_
      rintro _ w7 ⟨z, rfl, hz', hzb, g7⟩
      replace g7 := Lib.hid (below_on g6.out g7)
      have hzn := (nan_alike hzb).2 ((nan_bits _).2 rate_00)
      replace hzb := Lib.hid hzb
      dsimp only []
      by_cases hna : fNan a
      · have CN1 := fun w' bw => CN.out z w' bw hz'
        rw [ord_none_nan hna hzn] at CN1
        have en1 := en.out
        rw [decide_eq_true hna] at en1
        replace CN1 := Lib.hid CN1
        replace hna := Lib.hid hna
        replace hzn := Lib.hid hzn
        go_wp2_with fail
        refine (CN1.out w7 g7.out).mono ?_
        rintro _ w8 ⟨rfl, g8⟩
        replace g8 := Lib.hid (below_on g7.out g8)
        dsimp only []
        go_wp2_with fail
        refine (CR1.out w8 g8.out).mono ?_
        rintro _ w9 ⟨u1, rfl, hu1, hu2, g9⟩
        replace g9 := Lib.hid (below_on g8.out g9)
        replace hu2 := Lib.hid hu2
        dsimp only []
        go_wp2_with fail
        refine (CR2.out w9 g9.out).mono ?_
        rintro _ w10 ⟨u3, rfl, hu3, hu4, g10⟩
        replace g10 := Lib.hid (below_on g9.out g10)
        replace hu4 := Lib.hid hu4
        dsimp only []
        go_wp2_with fail
        refine (CI.out u1 u3 w10 g10.out hu1 hu3 hu2.out hu4.out).mono ?_
        rintro _ w11 ⟨rfl, g11⟩
        replace g11 := Lib.hid (below_on g10.out g11)
        dsimp only []
        go_wp2_with fail
        refine (CR3.out w11 g11.out).mono ?_
        rintro _ w12 ⟨u5, rfl, hu5, hu6, g12⟩
        replace g12 := Lib.hid (below_on g11.out g12)
        replace hu6 := Lib.hid hu6
        dsimp only []
        go_wp2_with fail
        refine (CZ.out u5 w12 g12.out hu5 hu6.out).mono ?_
        rintro _ w13 ⟨rfl, g13⟩
        replace g13 := Lib.hid (below_on g12.out g13)
        dsimp only []
        go_wp2_with fail
        go_ret
        exact ⟨rfl, g13.out⟩
      · have CN1 := fun w' bw => CN.out z w' bw hz'
        rw [ord_none_num hna hzn] at CN1
        have en1 := en.out
        rw [decide_eq_false hna] at en1
        replace CN1 := Lib.hid CN1
        replace hna := Lib.hid hna
        replace hzn := Lib.hid hzn
        go_wp2_with fail
        refine (CN1.out w7 g7.out).mono ?_
        rintro _ w8 ⟨rfl, g8⟩
        replace g8 := Lib.hid (below_on g7.out g8)
        dsimp only []
        go_wp2_with fail
        refine (CN1.out w8 g8.out).mono ?_
        rintro _ w9 ⟨rfl, g9⟩
        replace g9 := Lib.hid (below_on g8.out g9)
        dsimp only []
        go_wp2_with fail
        refine (CR1.out w9 g9.out).mono ?_
        rintro _ w10 ⟨u1, rfl, hu1, hu2, g10⟩
        replace g10 := Lib.hid (below_on g9.out g10)
        replace hu2 := Lib.hid hu2
        dsimp only []
        go_wp2_with fail
        refine (CR2.out w10 g10.out).mono ?_
        rintro _ w11 ⟨u3, rfl, hu3, hu4, g11⟩
        replace g11 := Lib.hid (below_on g10.out g11)
        replace hu4 := Lib.hid hu4
        dsimp only []
        go_wp2_with fail
        refine (CI.out u1 u3 w11 g11.out hu1 hu3 hu2.out hu4.out).mono ?_
        rintro _ w12 ⟨rfl, g12⟩
        replace g12 := Lib.hid (below_on g11.out g12)
        dsimp only []
        go_wp2_with fail
        refine (CR3.out w12 g12.out).mono ?_
        rintro _ w13 ⟨u5, rfl, hu5, hu6, g13⟩
        replace g13 := Lib.hid (below_on g12.out g13)
        replace hu6 := Lib.hid hu6
        dsimp only []
        go_wp2_with fail
        refine (CZ.out u5 w13 g13.out hu5 hu6.out).mono ?_
        rintro _ w14 ⟨rfl, g14⟩
        replace g14 := Lib.hid (below_on g13.out g14)
        dsimp only []
        go_wp2_with fail
        go_ret
        exact ⟨rfl, g14.out⟩
end Go.Proofs.YtdojbgfkcleeaaaDoor
