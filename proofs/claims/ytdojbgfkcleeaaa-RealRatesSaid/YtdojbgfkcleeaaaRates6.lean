/-
  RealRates, from any counts.
-/
import Derived.Test.YtdojbgfkcleeaaaNegF
namespace Go.Proofs.Ytdojbgfkcleeaaa
open Ieee Go.RowKit

theorem run_negF (P : Program) (a : Nat) (w : World) : (Op.unary .neg (.float .f64 a)).run P w = .ok (.float .f64 (Op.negFloat .f64 a)) w := rfl
set_option maxRecDepth 8000 in
set_option maxHeartbeats 4000000 in
theorem rates_1 (R : RHypP) (n m of_ : Int) (w : World) (n1 : -9223372036854775808 ≤ n) (n2 : n ≤ 9223372036854775807) (m1 : -9223372036854775808 ≤ m) (m2 : m ≤ 9223372036854775807) (_ : of_ ≤ 9223372036854775807) (ho : of_ < 0) (hs : m < n) :
    Calls Try.prog 5 #[.int .i64 n, .int .i64 m, .int .i64 of_] w fun e w' => e = .returned (.bool true) ∧ Below w.heap.size w w' := by
  have CA := fun w => R.rate m 0 w (by omega) (by omega) (by omega) (by omega)
  have CB := fun w => R.rate n 0 w (by omega) (by omega) (by omega) (by omega)
  have CO := fun x y w hx hy => R.order x y w hx hy
  have CQ := fun w => R.rate 1 4 w (by omega) (by omega) (by omega) (by omega)
  have CQ2 := fun x w hx (e : fBits x = fBits (fRate 1 4)) => (R.order x 4598175219545276416 w hx (by omega)).mono fun en w' (hh : en = _ ∧ Below w.heap.size w w') => show en = .returned (.int .i64 0) ∧ Below w.heap.size w w' from by rw [(fOrd_zero x 4598175219545276416 hx (by omega)).2 (e.trans rate_quarter)] at hh; exact hh
  have CZ := fun w => R.rate 0 0 w (by omega) (by omega) (by omega) (by omega)
  have CI := fun w => R.rate 1 0 w (by omega) (by omega) (by omega) (by omega)
  have CZI := fun x y w hx hy (e1 : fBits x = fBits (fRate 0 0)) (e2 : fBits y = fBits (fRate 1 0)) => (R.order x y w hx hy).mono fun en w' (hh : en = _ ∧ Below w.heap.size w w') => show en = .returned (.int .i64 1) ∧ Below w.heap.size w w' from by rw [ord_alike e1 e2, ord_01] at hh; exact hh
  clear R
  replace CA := Lib.hid CA
  replace CB := Lib.hid CB
  replace CO := Lib.hid CO
  replace CQ := Lib.hid CQ
  replace CQ2 := Lib.hid CQ2
  replace CZ := Lib.hid CZ
  replace CI := Lib.hid CI
  replace CZI := Lib.hid CZI
  go_enter Try.func5, Try.ntmps5
  go_wp2_with fail
  refine (CA.out w).mono ?_
  rintro _ w1 ⟨a, rfl, ha, ha2, g1⟩
  replace g1 := Lib.hid (g1)
  replace ha2 := Lib.hid ha2
  dsimp only []
  go_wp2_with fail
  refine (CB.out w1).mono ?_
  rintro _ w2 ⟨b, rfl, hb, hb2, g2⟩
  replace g2 := Lib.hid (below_on g1.out g2)
  replace hb2 := Lib.hid hb2
  dsimp only []
  go_wp2_with fail
  refine (CQ.out w2).mono ?_
  rintro _ w3 ⟨u, rfl, hu, hu2, g3⟩
  replace g3 := Lib.hid (below_on g2.out g3)
  replace hu2 := Lib.hid hu2
  dsimp only []
  go_wp2_with fail
  refine (CQ2.out u w3 hu hu2.out).mono ?_
  rintro _ w4 ⟨rfl, g4⟩
  replace g4 := Lib.hid (below_on g3.out g4)
  dsimp only []
  go_wp2_with fail
  refine (CZ.out w4).mono ?_
  rintro _ w5 ⟨v, rfl, hv, hv2, g5⟩
  replace g5 := Lib.hid (below_on g4.out g5)
  replace hv2 := Lib.hid hv2
  dsimp only []
  go_wp2_with fail
  refine (CI.out w5).mono ?_
  rintro _ w6 ⟨x, rfl, hx, hx2, g6⟩
  replace g6 := Lib.hid (below_on g5.out g6)
  replace hx2 := Lib.hid hx2
  dsimp only []
  go_wp2_with fail
  refine (CZI.out v x w6 hv hx hv2.out hx2.out).mono ?_
  rintro _ w7 ⟨rfl, g7⟩
  replace g7 := Lib.hid (below_on g6.out g7)
  dsimp only []
  go_wp2_with fail
  go_ret
  exact ⟨rfl, g7.out⟩
set_option maxRecDepth 8000 in
set_option maxHeartbeats 4000000 in
theorem rates_2 (R : RHypP) (n m of_ : Int) (w : World) (n1 : -9223372036854775808 ≤ n) (n2 : n ≤ 9223372036854775807) (m1 : -9223372036854775808 ≤ m) (m2 : m ≤ 9223372036854775807) (_ : of_ ≤ 9223372036854775807) (ho : of_ < 0) (hs : n ≤ m) :
    Calls Try.prog 5 #[.int .i64 n, .int .i64 m, .int .i64 of_] w fun e w' => e = .returned (.bool true) ∧ Below w.heap.size w w' := by
  have k1 : ¬ (m < n) := by omega
  have CA := fun w => R.rate n 0 w (by omega) (by omega) (by omega) (by omega)
  have CB := fun w => R.rate m 0 w (by omega) (by omega) (by omega) (by omega)
  have CO := fun x y w hx hy => R.order x y w hx hy
  have CQ := fun w => R.rate 1 4 w (by omega) (by omega) (by omega) (by omega)
  have CQ2 := fun x w hx (e : fBits x = fBits (fRate 1 4)) => (R.order x 4598175219545276416 w hx (by omega)).mono fun en w' (hh : en = _ ∧ Below w.heap.size w w') => show en = .returned (.int .i64 0) ∧ Below w.heap.size w w' from by rw [(fOrd_zero x 4598175219545276416 hx (by omega)).2 (e.trans rate_quarter)] at hh; exact hh
  have CZ := fun w => R.rate 0 0 w (by omega) (by omega) (by omega) (by omega)
  have CI := fun w => R.rate 1 0 w (by omega) (by omega) (by omega) (by omega)
  have CZI := fun x y w hx hy (e1 : fBits x = fBits (fRate 0 0)) (e2 : fBits y = fBits (fRate 1 0)) => (R.order x y w hx hy).mono fun en w' (hh : en = _ ∧ Below w.heap.size w w') => show en = .returned (.int .i64 1) ∧ Below w.heap.size w w' from by rw [ord_alike e1 e2, ord_01] at hh; exact hh
  clear R
  replace CA := Lib.hid CA
  replace CB := Lib.hid CB
  replace CO := Lib.hid CO
  replace CQ := Lib.hid CQ
  replace CQ2 := Lib.hid CQ2
  replace CZ := Lib.hid CZ
  replace CI := Lib.hid CI
  replace CZI := Lib.hid CZI
  go_enter Try.func5, Try.ntmps5
  go_wp2_with fail
  refine (CA.out w).mono ?_
  rintro _ w1 ⟨a, rfl, ha, ha2, g1⟩
  replace g1 := Lib.hid (g1)
  replace ha2 := Lib.hid ha2
  dsimp only []
  go_wp2_with fail
  refine (CB.out w1).mono ?_
  rintro _ w2 ⟨b, rfl, hb, hb2, g2⟩
  replace g2 := Lib.hid (below_on g1.out g2)
  replace hb2 := Lib.hid hb2
  dsimp only []
  go_wp2_with fail
  refine (CQ.out w2).mono ?_
  rintro _ w3 ⟨u, rfl, hu, hu2, g3⟩
  replace g3 := Lib.hid (below_on g2.out g3)
  replace hu2 := Lib.hid hu2
  dsimp only []
  go_wp2_with fail
  refine (CQ2.out u w3 hu hu2.out).mono ?_
  rintro _ w4 ⟨rfl, g4⟩
  replace g4 := Lib.hid (below_on g3.out g4)
  dsimp only []
  go_wp2_with fail
  refine (CZ.out w4).mono ?_
  rintro _ w5 ⟨v, rfl, hv, hv2, g5⟩
  replace g5 := Lib.hid (below_on g4.out g5)
  replace hv2 := Lib.hid hv2
  dsimp only []
  go_wp2_with fail
  refine (CI.out w5).mono ?_
  rintro _ w6 ⟨x, rfl, hx, hx2, g6⟩
  replace g6 := Lib.hid (below_on g5.out g6)
  replace hx2 := Lib.hid hx2
  dsimp only []
  go_wp2_with fail
  refine (CZI.out v x w6 hv hx hv2.out hx2.out).mono ?_
  rintro _ w7 ⟨rfl, g7⟩
  replace g7 := Lib.hid (below_on g6.out g7)
  dsimp only []
  go_wp2_with fail
  go_ret
  exact ⟨rfl, g7.out⟩
set_option maxRecDepth 8000 in
set_option maxHeartbeats 4000000 in
theorem rates_3 (R : RHypP) (n m of_ : Int) (w : World) (n1 : -9223372036854775808 ≤ n) (n2 : n ≤ 9223372036854775807) (m1 : -9223372036854775808 ≤ m) (m2 : m ≤ 9223372036854775807) (o2 : of_ ≤ 9223372036854775807) (ho : 0 ≤ of_) (hs : m < n) :
    Calls Try.prog 5 #[.int .i64 n, .int .i64 m, .int .i64 of_] w fun e w' => e = .returned (.bool true) ∧ Below w.heap.size w w' := by
  have k0 : ¬ (of_ < 0) := by omega
  have CA := fun w => R.rate m of_ w (by omega) (by omega) (by omega) (by omega)
  have CB := fun w => R.rate n of_ w (by omega) (by omega) (by omega) (by omega)
  have CO := fun x y w hx hy => R.order x y w hx hy
  have CQ := fun w => R.rate 1 4 w (by omega) (by omega) (by omega) (by omega)
  have CQ2 := fun x w hx (e : fBits x = fBits (fRate 1 4)) => (R.order x 4598175219545276416 w hx (by omega)).mono fun en w' (hh : en = _ ∧ Below w.heap.size w w') => show en = .returned (.int .i64 0) ∧ Below w.heap.size w w' from by rw [(fOrd_zero x 4598175219545276416 hx (by omega)).2 (e.trans rate_quarter)] at hh; exact hh
  have CZ := fun w => R.rate 0 0 w (by omega) (by omega) (by omega) (by omega)
  have CI := fun w => R.rate 1 0 w (by omega) (by omega) (by omega) (by omega)
  have CZI := fun x y w hx hy (e1 : fBits x = fBits (fRate 0 0)) (e2 : fBits y = fBits (fRate 1 0)) => (R.order x y w hx hy).mono fun en w' (hh : en = _ ∧ Below w.heap.size w w') => show en = .returned (.int .i64 1) ∧ Below w.heap.size w w' from by rw [ord_alike e1 e2, ord_01] at hh; exact hh
  have CN := fun (_ : -1000000000 < m) w => R.rate (-m) of_ w (by omega) (by omega) (by omega) (by omega)
  have FL := fun a b ha hb (h : 0 < of_) => rates_le (n := m) (m := n) (of_ := of_) (a := a) (b := b) ha hb (by omega) (by omega) (by omega) h (by omega)
  have FN := fun a c hal ha hc (h : 0 < of_) => rates_neg (n := m) (of_ := of_) (a := a) (c := c) hal ha hc (by omega) (by omega) h (by omega)
  have hneg : -1000000000 < m → -9223372036854775808 ≤ -m ∧ -m ≤ 9223372036854775807 := fun h => by omega
  clear R
  replace CA := Lib.hid CA
  replace CB := Lib.hid CB
  replace CO := Lib.hid CO
  replace CQ := Lib.hid CQ
  replace CQ2 := Lib.hid CQ2
  replace CZ := Lib.hid CZ
  replace CI := Lib.hid CI
  replace CZI := Lib.hid CZI
  replace CN := Lib.hid CN
  replace FL := Lib.hid FL
  replace FN := Lib.hid FN
  replace hneg := Lib.hid hneg
  go_enter Try.func5, Try.ntmps5
  go_wp2_with fail
  refine (CA.out w).mono ?_
  rintro _ w1 ⟨a, rfl, ha, ha2, g1⟩
  replace g1 := Lib.hid (g1)
  replace ha2 := Lib.hid ha2
  dsimp only []
  go_wp2_with fail
  refine (CB.out w1).mono ?_
  rintro _ w2 ⟨b, rfl, hb, hb2, g2⟩
  replace g2 := Lib.hid (below_on g1.out g2)
  replace hb2 := Lib.hid hb2
  dsimp only []
  by_cases hp : 0 < of_
  · have hle := FL.out a b ha2.out hb2.out hp
    have CO1 := fun w => CO.out a b w ha hb
    obtain ⟨o, hoo⟩ : ∃ o, o = fOrd a b := ⟨_, rfl⟩
    rw [← hoo] at CO1 hle
    have hle2 : ¬ (0 < o) := by omega
    replace hoo := Lib.hid hoo
    replace CO1 := Lib.hid CO1
    go_wp2_with fail
    refine (CO1.out w2).mono ?_
    rintro _ w3 ⟨rfl, g3⟩
    replace g3 := Lib.hid (below_on g2.out g3)
    dsimp only []
    by_cases hg : -1000000000 < m
    · obtain ⟨r1, r2⟩ := hneg.out hg
      go_wp2_with fail
      refine (CN.out hg w3).mono ?_
      rintro _ w4 ⟨c, rfl, hc, hc2, g4⟩
      replace g4 := Lib.hid (below_on g3.out g4)
      have hz := FN.out a c ha ha2.out hc2 hp
      have CO2 := fun w => CO.out c (Op.negFloat .f64 a) w hc (neg_lt a ha)
      rw [hz] at CO2
      replace CO2 := Lib.hid CO2
      have hop := fun w => run_negF Try.prog a w
      replace hz := Lib.hid hz
      replace hc2 := Lib.hid hc2
      dsimp only []
      go_wp2_with fail
      refine (CO2.out w4).mono ?_
      rintro _ w5 ⟨rfl, g5⟩
      replace g5 := Lib.hid (below_on g4.out g5)
      dsimp only []
      go_wp2_with fail
      refine (CQ.out w5).mono ?_
      rintro _ w6 ⟨u, rfl, hu, hu2, g6⟩
      replace g6 := Lib.hid (below_on g5.out g6)
      replace hu2 := Lib.hid hu2
      dsimp only []
      go_wp2_with fail
      refine (CQ2.out u w6 hu hu2.out).mono ?_
      rintro _ w7 ⟨rfl, g7⟩
      replace g7 := Lib.hid (below_on g6.out g7)
      dsimp only []
      go_wp2_with fail
      refine (CZ.out w7).mono ?_
      rintro _ w8 ⟨v, rfl, hv, hv2, g8⟩
      replace g8 := Lib.hid (below_on g7.out g8)
      replace hv2 := Lib.hid hv2
      dsimp only []
      go_wp2_with fail
      refine (CI.out w8).mono ?_
      rintro _ w9 ⟨x, rfl, hx, hx2, g9⟩
      replace g9 := Lib.hid (below_on g8.out g9)
      replace hx2 := Lib.hid hx2
      dsimp only []
      go_wp2_with fail
      refine (CZI.out v x w9 hv hx hv2.out hx2.out).mono ?_
      rintro _ w10 ⟨rfl, g10⟩
      replace g10 := Lib.hid (below_on g9.out g10)
      dsimp only []
      go_wp2_with fail
      go_ret
      exact ⟨rfl, g10.out⟩
    · go_wp2_with fail
      refine (CQ.out w3).mono ?_
      rintro _ w4 ⟨u, rfl, hu, hu2, g4⟩
      replace g4 := Lib.hid (below_on g3.out g4)
      replace hu2 := Lib.hid hu2
      dsimp only []
      go_wp2_with fail
      refine (CQ2.out u w4 hu hu2.out).mono ?_
      rintro _ w5 ⟨rfl, g5⟩
      replace g5 := Lib.hid (below_on g4.out g5)
      dsimp only []
      go_wp2_with fail
      refine (CZ.out w5).mono ?_
      rintro _ w6 ⟨v, rfl, hv, hv2, g6⟩
      replace g6 := Lib.hid (below_on g5.out g6)
      replace hv2 := Lib.hid hv2
      dsimp only []
      go_wp2_with fail
      refine (CI.out w6).mono ?_
      rintro _ w7 ⟨x, rfl, hx, hx2, g7⟩
      replace g7 := Lib.hid (below_on g6.out g7)
      replace hx2 := Lib.hid hx2
      dsimp only []
      go_wp2_with fail
      refine (CZI.out v x w7 hv hx hv2.out hx2.out).mono ?_
      rintro _ w8 ⟨rfl, g8⟩
      replace g8 := Lib.hid (below_on g7.out g8)
      dsimp only []
      go_wp2_with fail
      go_ret
      exact ⟨rfl, g8.out⟩
  · go_wp2_with fail
    refine (CQ.out w2).mono ?_
    rintro _ w3 ⟨u, rfl, hu, hu2, g3⟩
    replace g3 := Lib.hid (below_on g2.out g3)
    replace hu2 := Lib.hid hu2
    dsimp only []
    go_wp2_with fail
    refine (CQ2.out u w3 hu hu2.out).mono ?_
    rintro _ w4 ⟨rfl, g4⟩
    replace g4 := Lib.hid (below_on g3.out g4)
    dsimp only []
    go_wp2_with fail
    refine (CZ.out w4).mono ?_
    rintro _ w5 ⟨v, rfl, hv, hv2, g5⟩
    replace g5 := Lib.hid (below_on g4.out g5)
    replace hv2 := Lib.hid hv2
    dsimp only []
    go_wp2_with fail
    refine (CI.out w5).mono ?_
    rintro _ w6 ⟨x, rfl, hx, hx2, g6⟩
    replace g6 := Lib.hid (below_on g5.out g6)
    replace hx2 := Lib.hid hx2
    dsimp only []
    go_wp2_with fail
    refine (CZI.out v x w6 hv hx hv2.out hx2.out).mono ?_
    rintro _ w7 ⟨rfl, g7⟩
    replace g7 := Lib.hid (below_on g6.out g7)
    dsimp only []
    go_wp2_with fail
    go_ret
    exact ⟨rfl, g7.out⟩
set_option maxRecDepth 8000 in
set_option maxHeartbeats 4000000 in
theorem rates_4 (R : RHypP) (n m of_ : Int) (w : World) (n1 : -9223372036854775808 ≤ n) (n2 : n ≤ 9223372036854775807) (m1 : -9223372036854775808 ≤ m) (m2 : m ≤ 9223372036854775807) (o2 : of_ ≤ 9223372036854775807) (ho : 0 ≤ of_) (hs : n ≤ m) :
    Calls Try.prog 5 #[.int .i64 n, .int .i64 m, .int .i64 of_] w fun e w' => e = .returned (.bool true) ∧ Below w.heap.size w w' := by
  have k0 : ¬ (of_ < 0) := by omega
  have k1 : ¬ (m < n) := by omega
  have CA := fun w => R.rate n of_ w (by omega) (by omega) (by omega) (by omega)
  have CB := fun w => R.rate m of_ w (by omega) (by omega) (by omega) (by omega)
  have CO := fun x y w hx hy => R.order x y w hx hy
  have CQ := fun w => R.rate 1 4 w (by omega) (by omega) (by omega) (by omega)
  have CQ2 := fun x w hx (e : fBits x = fBits (fRate 1 4)) => (R.order x 4598175219545276416 w hx (by omega)).mono fun en w' (hh : en = _ ∧ Below w.heap.size w w') => show en = .returned (.int .i64 0) ∧ Below w.heap.size w w' from by rw [(fOrd_zero x 4598175219545276416 hx (by omega)).2 (e.trans rate_quarter)] at hh; exact hh
  have CZ := fun w => R.rate 0 0 w (by omega) (by omega) (by omega) (by omega)
  have CI := fun w => R.rate 1 0 w (by omega) (by omega) (by omega) (by omega)
  have CZI := fun x y w hx hy (e1 : fBits x = fBits (fRate 0 0)) (e2 : fBits y = fBits (fRate 1 0)) => (R.order x y w hx hy).mono fun en w' (hh : en = _ ∧ Below w.heap.size w w') => show en = .returned (.int .i64 1) ∧ Below w.heap.size w w' from by rw [ord_alike e1 e2, ord_01] at hh; exact hh
  have CN := fun (_ : -1000000000 < n) w => R.rate (-n) of_ w (by omega) (by omega) (by omega) (by omega)
  have FL := fun a b ha hb (h : 0 < of_) => rates_le (n := n) (m := m) (of_ := of_) (a := a) (b := b) ha hb (by omega) (by omega) (by omega) h (by omega)
  have FN := fun a c hal ha hc (h : 0 < of_) => rates_neg (n := n) (of_ := of_) (a := a) (c := c) hal ha hc (by omega) (by omega) h (by omega)
  have hneg : -1000000000 < n → -9223372036854775808 ≤ -n ∧ -n ≤ 9223372036854775807 := fun h => by omega
  clear R
  replace CA := Lib.hid CA
  replace CB := Lib.hid CB
  replace CO := Lib.hid CO
  replace CQ := Lib.hid CQ
  replace CQ2 := Lib.hid CQ2
  replace CZ := Lib.hid CZ
  replace CI := Lib.hid CI
  replace CZI := Lib.hid CZI
  replace CN := Lib.hid CN
  replace FL := Lib.hid FL
  replace FN := Lib.hid FN
  replace hneg := Lib.hid hneg
  go_enter Try.func5, Try.ntmps5
  go_wp2_with fail
  refine (CA.out w).mono ?_
  rintro _ w1 ⟨a, rfl, ha, ha2, g1⟩
  replace g1 := Lib.hid (g1)
  replace ha2 := Lib.hid ha2
  dsimp only []
  go_wp2_with fail
  refine (CB.out w1).mono ?_
  rintro _ w2 ⟨b, rfl, hb, hb2, g2⟩
  replace g2 := Lib.hid (below_on g1.out g2)
  replace hb2 := Lib.hid hb2
  dsimp only []
  by_cases hp : 0 < of_
  · have hle := FL.out a b ha2.out hb2.out hp
    have CO1 := fun w => CO.out a b w ha hb
    obtain ⟨o, hoo⟩ : ∃ o, o = fOrd a b := ⟨_, rfl⟩
    rw [← hoo] at CO1 hle
    have hle2 : ¬ (0 < o) := by omega
    replace hoo := Lib.hid hoo
    replace CO1 := Lib.hid CO1
    go_wp2_with fail
    refine (CO1.out w2).mono ?_
    rintro _ w3 ⟨rfl, g3⟩
    replace g3 := Lib.hid (below_on g2.out g3)
    dsimp only []
    by_cases hg : -1000000000 < n
    · obtain ⟨r1, r2⟩ := hneg.out hg
      go_wp2_with fail
      refine (CN.out hg w3).mono ?_
      rintro _ w4 ⟨c, rfl, hc, hc2, g4⟩
      replace g4 := Lib.hid (below_on g3.out g4)
      have hz := FN.out a c ha ha2.out hc2 hp
      have CO2 := fun w => CO.out c (Op.negFloat .f64 a) w hc (neg_lt a ha)
      rw [hz] at CO2
      replace CO2 := Lib.hid CO2
      have hop := fun w => run_negF Try.prog a w
      replace hz := Lib.hid hz
      replace hc2 := Lib.hid hc2
      dsimp only []
      go_wp2_with fail
      refine (CO2.out w4).mono ?_
      rintro _ w5 ⟨rfl, g5⟩
      replace g5 := Lib.hid (below_on g4.out g5)
      dsimp only []
      go_wp2_with fail
      refine (CQ.out w5).mono ?_
      rintro _ w6 ⟨u, rfl, hu, hu2, g6⟩
      replace g6 := Lib.hid (below_on g5.out g6)
      replace hu2 := Lib.hid hu2
      dsimp only []
      go_wp2_with fail
      refine (CQ2.out u w6 hu hu2.out).mono ?_
      rintro _ w7 ⟨rfl, g7⟩
      replace g7 := Lib.hid (below_on g6.out g7)
      dsimp only []
      go_wp2_with fail
      refine (CZ.out w7).mono ?_
      rintro _ w8 ⟨v, rfl, hv, hv2, g8⟩
      replace g8 := Lib.hid (below_on g7.out g8)
      replace hv2 := Lib.hid hv2
      dsimp only []
      go_wp2_with fail
      refine (CI.out w8).mono ?_
      rintro _ w9 ⟨x, rfl, hx, hx2, g9⟩
      replace g9 := Lib.hid (below_on g8.out g9)
      replace hx2 := Lib.hid hx2
      dsimp only []
      go_wp2_with fail
      refine (CZI.out v x w9 hv hx hv2.out hx2.out).mono ?_
      rintro _ w10 ⟨rfl, g10⟩
      replace g10 := Lib.hid (below_on g9.out g10)
      dsimp only []
      go_wp2_with fail
      go_ret
      exact ⟨rfl, g10.out⟩
    · go_wp2_with fail
      refine (CQ.out w3).mono ?_
      rintro _ w4 ⟨u, rfl, hu, hu2, g4⟩
      replace g4 := Lib.hid (below_on g3.out g4)
      replace hu2 := Lib.hid hu2
      dsimp only []
      go_wp2_with fail
      refine (CQ2.out u w4 hu hu2.out).mono ?_
      rintro _ w5 ⟨rfl, g5⟩
      replace g5 := Lib.hid (below_on g4.out g5)
      dsimp only []
      go_wp2_with fail
      refine (CZ.out w5).mono ?_
      rintro _ w6 ⟨v, rfl, hv, hv2, g6⟩
      replace g6 := Lib.hid (below_on g5.out g6)
      replace hv2 := Lib.hid hv2
      dsimp only []
      go_wp2_with fail
      refine (CI.out w6).mono ?_
      rintro _ w7 ⟨x, rfl, hx, hx2, g7⟩
      replace g7 := Lib.hid (below_on g6.out g7)
      replace hx2 := Lib.hid hx2
      dsimp only []
      go_wp2_with fail
      refine (CZI.out v x w7 hv hx hv2.out hx2.out).mono ?_
      rintro _ w8 ⟨rfl, g8⟩
      replace g8 := Lib.hid (below_on g7.out g8)
      dsimp only []
      go_wp2_with fail
      go_ret
      exact ⟨rfl, g8.out⟩
  · go_wp2_with fail
    refine (CQ.out w2).mono ?_
    rintro _ w3 ⟨u, rfl, hu, hu2, g3⟩
    replace g3 := Lib.hid (below_on g2.out g3)
    replace hu2 := Lib.hid hu2
    dsimp only []
    go_wp2_with fail
    refine (CQ2.out u w3 hu hu2.out).mono ?_
    rintro _ w4 ⟨rfl, g4⟩
    replace g4 := Lib.hid (below_on g3.out g4)
    dsimp only []
    go_wp2_with fail
    refine (CZ.out w4).mono ?_
    rintro _ w5 ⟨v, rfl, hv, hv2, g5⟩
    replace g5 := Lib.hid (below_on g4.out g5)
    replace hv2 := Lib.hid hv2
    dsimp only []
    go_wp2_with fail
    refine (CI.out w5).mono ?_
    rintro _ w6 ⟨x, rfl, hx, hx2, g6⟩
    replace g6 := Lib.hid (below_on g5.out g6)
    replace hx2 := Lib.hid hx2
    dsimp only []
    go_wp2_with fail
    refine (CZI.out v x w6 hv hx hv2.out hx2.out).mono ?_
    rintro _ w7 ⟨rfl, g7⟩
    replace g7 := Lib.hid (below_on g6.out g7)
    dsimp only []
    go_wp2_with fail
    go_ret
    exact ⟨rfl, g7.out⟩
theorem rates_walk6 (R : RHypP) (n m of_ : Int) (w : World) (n1 : -9223372036854775808 ≤ n) (n2 : n ≤ 9223372036854775807) (m1 : -9223372036854775808 ≤ m) (m2 : m ≤ 9223372036854775807) (o2 : of_ ≤ 9223372036854775807) :
    Calls Try.prog 5 #[.int .i64 n, .int .i64 m, .int .i64 of_] w fun e w' => e = .returned (.bool true) ∧ Below w.heap.size w w' := by
  rcases Int.lt_or_le of_ 0 with h | h <;> rcases Int.lt_or_le m n with k | k
  · exact rates_1 R n m of_ w n1 n2 m1 m2 o2 h k
  · exact rates_2 R n m of_ w n1 n2 m1 m2 o2 h k
  · exact rates_3 R n m of_ w n1 n2 m1 m2 o2 h k
  · exact rates_4 R n m of_ w n1 n2 m1 m2 o2 h k
end Go.Proofs.Ytdojbgfkcleeaaa
