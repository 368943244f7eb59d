/-
  RealPicks, from any two counts and any numbers.
-/
import Derived.Test.YtdojbgfkcleeaaaRHypP
namespace Go.Proofs.Ytdojbgfkcleeaaa
open Ieee Go.RowKit

theorem FSl.more {w : World} {K K' : Nat} {A : Option Addr} {c : Nat} {l : List Nat} (h : FSl w K A c l) (hb : K ≤ K') : FSl w K' A c l :=
  ⟨h.le, h.nil, fun ad e => ⟨fun h0 => Nat.lt_of_lt_of_le ((h.at_ ad e).1 h0) hb, (h.at_ ad e).2⟩⟩
theorem FSl.later {w wr : World} {A : Option Addr} {c : Nat} {l : List Nat} (h : FSl w w.heap.size A c l) (hb : Below w.heap.size w wr) : FSl wr wr.heap.size A c l := (h.below hb).more hb.size
theorem ord_ten : fOrd (fRate 1 0) (fRate 0 0) = -1 := by decide +kernel

set_option maxRecDepth 8000 in
set_option maxHeartbeats 1600000 in
theorem picks_short (R : RHypP) (n of_ : Int) (A : Option Addr) (cp M : Nat) (l : List Nat) (w : World) (n1 : -9223372036854775808 ≤ n) (n2 : n ≤ 9223372036854775807) (o1 : -9223372036854775808 ≤ of_) (o2 : of_ ≤ 9223372036854775807) (hf : FSl w w.heap.size A cp l) (hM : l.length = M) (hcp : cp ≤ 9223372036854775807) (hl : M ≤ 300) :
    Calls Try.prog 3 #[.int .i64 n, .int .i64 of_, .slice A M cp] w fun e w' => e = .returned (.bool true) ∧ Below w.heap.size w w' := by
  have k0 : ¬ ((300 : Int) < (M : Int)) := by omega
  have CG := fun wr (hb : Below w.heap.size w wr) => R.greatest A cp M l wr (hf.later hb) hM hl hcp
  have CG2 := fun wr (hb : Below w.heap.size w wr) => refGreatest_any A cp M l wr (hf.later hb) hM hl hcp
  have CM := fun wr (hb : Below w.heap.size w wr) => R.mean A cp M l wr (hf.later hb) hM hl hcp
  have CM2 := fun wr (hb : Below w.heap.size w wr) => refMean_any A cp M l wr (hf.later hb) hM hl hcp
  have CR := fun w => R.rate n of_ w n1 n2 o1 o2
  have CR2 := fun w => refRate_any n of_ w
  have CR3 := fun w => R.rate 1 0 w (by omega) (by omega) (by omega) (by omega)
  have CR4 := fun w => R.rate 0 0 w (by omega) (by omega) (by omega) (by omega)
  have CB := fun x w => refBits_any x w
  have CO := fun a b w ha hb (e1 : fBits a = fBits (fRate 1 0)) (e2 : fBits b = fBits (fRate 0 0)) => (R.order a b w ha hb).mono fun en w' (hh : en = _ ∧ Below w.heap.size w w') => show en = .returned (.int .i64 (-1)) ∧ Below w.heap.size w w' from by rw [ord_alike e1 e2, ord_ten] at hh; exact hh
  obtain ⟨g, hg⟩ : ∃ g, g = fGr l M := ⟨_, rfl⟩
  obtain ⟨c, hc⟩ : ∃ c, c = (fMn l M).2 := ⟨_, rfl⟩
  obtain ⟨F, hF⟩ : ∃ F, F = fMean l M := ⟨_, rfl⟩
  obtain ⟨r, hr⟩ : ∃ r, r = fRate n of_ := ⟨_, rfl⟩
  rw [← hg] at CG CG2
  rw [← hc, ← hF] at CM CM2
  rw [← hr] at CR CR2
  clear R
  replace CG := Lib.hid CG
  replace CG2 := Lib.hid CG2
  replace CM := Lib.hid CM
  replace CM2 := Lib.hid CM2
  replace CR := Lib.hid CR
  replace CR2 := Lib.hid CR2
  replace CR3 := Lib.hid CR3
  replace CR4 := Lib.hid CR4
  replace CB := Lib.hid CB
  replace CO := Lib.hid CO
  replace hg := Lib.hid hg
  replace hc := Lib.hid hc
  replace hF := Lib.hid hF
  replace hr := Lib.hid hr
  replace hf := Lib.hid hf
  replace hM := Lib.hid hM
  have g0 := Lib.hid (Below.refl w.heap.size w)
  go_enter Try.func3, Try.ntmps3
  go_wp2_with fail
  refine (CM.out w g0.out).mono ?_
  rintro _ w1 ⟨x, rfl, hx, hx2, g1⟩
  replace g1 := Lib.hid (below_on g0.out g1)
  replace hx2 := Lib.hid hx2
  dsimp only []
  go_wp2_with fail
  refine (CM2.out w1 g1.out).mono ?_
  rintro _ w2 ⟨y, rfl, hy, hy2, g2⟩
  replace g2 := Lib.hid (below_on g1.out g2)
  replace hy2 := Lib.hid (fSim_bits hy2)
  dsimp only []
  go_wp2_with fail
  refine (CR.out w2).mono ?_
  rintro _ w3 ⟨u, rfl, hu, hu2, g3⟩
  replace g3 := Lib.hid (below_on g2.out g3)
  have CB1 := CB.out u w3
  rw [hu2] at CB1
  replace hu2 := Lib.hid hu2
  dsimp only []
  go_wp2_with fail
  refine CB1.mono ?_
  rintro _ w4 ⟨rfl, g4⟩
  replace g4 := Lib.hid (below_on g3.out g4)
  clear CB1
  dsimp only []
  go_wp2_with fail
  refine (CR2.out w4).mono ?_
  rintro _ w5 ⟨v, rfl, hv, hv2, g5⟩
  replace g5 := Lib.hid (below_on g4.out g5)
  have CB1 := CB.out v w5
  rw [fSim_bits hv2] at CB1
  replace hv2 := Lib.hid hv2
  dsimp only []
  go_wp2_with fail
  refine CB1.mono ?_
  rintro _ w6 ⟨rfl, g6⟩
  replace g6 := Lib.hid (below_on g5.out g6)
  clear CB1
  dsimp only []
  go_wp2_with fail
  refine (CG.out w6 g6.out).mono ?_
  rintro _ w7 ⟨rfl, g7⟩
  replace g7 := Lib.hid (below_on g6.out g7)
  dsimp only []
  go_wp2_with fail
  refine (CG2.out w7 g7.out).mono ?_
  rintro _ w8 ⟨rfl, g8⟩
  replace g8 := Lib.hid (below_on g7.out g8)
  have CB1 := CB.out x w8
  rw [hx2.out] at CB1
  dsimp only []
  go_wp2_with fail
  refine CB1.mono ?_
  rintro _ w9 ⟨rfl, g9⟩
  replace g9 := Lib.hid (below_on g8.out g9)
  clear CB1
  have CB1 := CB.out y w9
  rw [hy2.out] at CB1
  dsimp only []
  go_wp2_with fail
  refine CB1.mono ?_
  rintro _ w10 ⟨rfl, g10⟩
  replace g10 := Lib.hid (below_on g9.out g10)
  clear CB1
  dsimp only []
  go_wp2_with fail
  refine (CR3.out w10).mono ?_
  rintro _ w11 ⟨u1, rfl, hu1, hu3, g11⟩
  replace g11 := Lib.hid (below_on g10.out g11)
  replace hu3 := Lib.hid hu3
  dsimp only []
  go_wp2_with fail
  refine (CR4.out w11).mono ?_
  rintro _ w12 ⟨u2, rfl, hu2', hu4, g12⟩
  replace g12 := Lib.hid (below_on g11.out g12)
  replace hu4 := Lib.hid hu4
  dsimp only []
  go_wp2_with fail
  refine (CO.out u1 u2 w12 hu1 hu2' hu3.out hu4.out).mono ?_
  rintro _ w13 ⟨rfl, g13⟩
  replace g13 := Lib.hid (below_on g12.out g13)
  dsimp only []
  go_wp2_with fail
  go_ret
  exact ⟨rfl, g13.out⟩
set_option maxRecDepth 8000 in
set_option maxHeartbeats 1600000 in
theorem picks_long (R : RHypP) (n of_ : Int) (A : Option Addr) (cp M : Nat) (l : List Nat) (w : World) (n1 : -9223372036854775808 ≤ n) (n2 : n ≤ 9223372036854775807) (o1 : -9223372036854775808 ≤ of_) (o2 : of_ ≤ 9223372036854775807) (hf : FSl w w.heap.size A cp l) (hM : l.length = M) (hcp : cp ≤ 9223372036854775807) (hl : 300 < M) :
    Calls Try.prog 3 #[.int .i64 n, .int .i64 of_, .slice A M cp] w fun e w' => e = .returned (.bool true) ∧ Below w.heap.size w w' := by
  have hle := hf.le
  rw [hM] at hle
  have hA : ∃ ad, A = some ad := by
    rcases A with _ | ad
    · have := hf.nil rfl
      omega
    · exact ⟨ad, rfl⟩
  obtain ⟨ad, rfl⟩ := hA
  have hf' := hf.take 300
  have hM' : (l.take 300).length = 300 := by rw [List.length_take]; omega
  obtain ⟨m, hm⟩ : ∃ m, m = l.take 300 := ⟨_, rfl⟩
  rw [← hm] at hf' hM'
  clear hf
  replace hm := Lib.hid hm
  replace hM := Lib.hid hM
  have k0 : (300 : Int) < (M : Int) := by omega
  have k1 : (300 : Int) ≤ (M : Int) := by omega
  have k2 : (300 : Int) ≤ (cp : Int) := by omega
  have CG := fun wr (hb : Below w.heap.size w wr) => R.greatest (some ad) cp 300 m wr (hf'.later hb) hM' (Nat.le_refl _) hcp
  have CG2 := fun wr (hb : Below w.heap.size w wr) => refGreatest_any (some ad) cp 300 m wr (hf'.later hb) hM' (Nat.le_refl _) hcp
  have CM := fun wr (hb : Below w.heap.size w wr) => R.mean (some ad) cp 300 m wr (hf'.later hb) hM' (Nat.le_refl _) hcp
  have CM2 := fun wr (hb : Below w.heap.size w wr) => refMean_any (some ad) cp 300 m wr (hf'.later hb) hM' (Nat.le_refl _) hcp
  have CR := fun w => R.rate n of_ w n1 n2 o1 o2
  have CR2 := fun w => refRate_any n of_ w
  have CR3 := fun w => R.rate 1 0 w (by omega) (by omega) (by omega) (by omega)
  have CR4 := fun w => R.rate 0 0 w (by omega) (by omega) (by omega) (by omega)
  have CB := fun x w => refBits_any x w
  have CO := fun a b w ha hb (e1 : fBits a = fBits (fRate 1 0)) (e2 : fBits b = fBits (fRate 0 0)) => (R.order a b w ha hb).mono fun en w' (hh : en = _ ∧ Below w.heap.size w w') => show en = .returned (.int .i64 (-1)) ∧ Below w.heap.size w w' from by rw [ord_alike e1 e2, ord_ten] at hh; exact hh
  obtain ⟨g, hg⟩ : ∃ g, g = fGr m 300 := ⟨_, rfl⟩
  obtain ⟨c, hc⟩ : ∃ c, c = (fMn m 300).2 := ⟨_, rfl⟩
  obtain ⟨F, hF⟩ : ∃ F, F = fMean m 300 := ⟨_, rfl⟩
  obtain ⟨r, hr⟩ : ∃ r, r = fRate n of_ := ⟨_, rfl⟩
  rw [← hg] at CG CG2
  rw [← hc, ← hF] at CM CM2
  rw [← hr] at CR CR2
  clear R
  replace CG := Lib.hid CG
  replace CG2 := Lib.hid CG2
  replace CM := Lib.hid CM
  replace CM2 := Lib.hid CM2
  replace CR := Lib.hid CR
  replace CR2 := Lib.hid CR2
  replace CR3 := Lib.hid CR3
  replace CR4 := Lib.hid CR4
  replace CB := Lib.hid CB
  replace CO := Lib.hid CO
  replace hg := Lib.hid hg
  replace hc := Lib.hid hc
  replace hF := Lib.hid hF
  replace hr := Lib.hid hr
  replace hf' := Lib.hid hf'
  replace hM' := Lib.hid hM'
  have g0 := Lib.hid (Below.refl w.heap.size w)
  go_enter Try.func3, Try.ntmps3
  go_wp2_with fail
  refine (CM.out w g0.out).mono ?_
  rintro _ w1 ⟨x, rfl, hx, hx2, g1⟩
  replace g1 := Lib.hid (below_on g0.out g1)
  replace hx2 := Lib.hid hx2
  dsimp only []
  go_wp2_with fail
  refine (CM2.out w1 g1.out).mono ?_
  rintro _ w2 ⟨y, rfl, hy, hy2, g2⟩
  replace g2 := Lib.hid (below_on g1.out g2)
  replace hy2 := Lib.hid (fSim_bits hy2)
  dsimp only []
  go_wp2_with fail
  refine (CR.out w2).mono ?_
  rintro _ w3 ⟨u, rfl, hu, hu2, g3⟩
  replace g3 := Lib.hid (below_on g2.out g3)
  have CB1 := CB.out u w3
  rw [hu2] at CB1
  replace hu2 := Lib.hid hu2
  dsimp only []
  go_wp2_with fail
  refine CB1.mono ?_
  rintro _ w4 ⟨rfl, g4⟩
  replace g4 := Lib.hid (below_on g3.out g4)
  clear CB1
  dsimp only []
  go_wp2_with fail
  refine (CR2.out w4).mono ?_
  rintro _ w5 ⟨v, rfl, hv, hv2, g5⟩
  replace g5 := Lib.hid (below_on g4.out g5)
  have CB1 := CB.out v w5
  rw [fSim_bits hv2] at CB1
  replace hv2 := Lib.hid hv2
  dsimp only []
  go_wp2_with fail
  refine CB1.mono ?_
  rintro _ w6 ⟨rfl, g6⟩
  replace g6 := Lib.hid (below_on g5.out g6)
  clear CB1
  dsimp only []
  go_wp2_with fail
  refine (CG.out w6 g6.out).mono ?_
  rintro _ w7 ⟨rfl, g7⟩
  replace g7 := Lib.hid (below_on g6.out g7)
  dsimp only []
  go_wp2_with fail
  refine (CG2.out w7 g7.out).mono ?_
  rintro _ w8 ⟨rfl, g8⟩
  replace g8 := Lib.hid (below_on g7.out g8)
  have CB1 := CB.out x w8
  rw [hx2.out] at CB1
  dsimp only []
  go_wp2_with fail
  refine CB1.mono ?_
  rintro _ w9 ⟨rfl, g9⟩
  replace g9 := Lib.hid (below_on g8.out g9)
  clear CB1
  have CB1 := CB.out y w9
  rw [hy2.out] at CB1
  dsimp only []
  go_wp2_with fail
  refine CB1.mono ?_
  rintro _ w10 ⟨rfl, g10⟩
  replace g10 := Lib.hid (below_on g9.out g10)
  clear CB1
  dsimp only []
  go_wp2_with fail
  refine (CR3.out w10).mono ?_
  rintro _ w11 ⟨u1, rfl, hu1, hu3, g11⟩
  replace g11 := Lib.hid (below_on g10.out g11)
  replace hu3 := Lib.hid hu3
  dsimp only []
  go_wp2_with fail
  refine (CR4.out w11).mono ?_
  rintro _ w12 ⟨u2, rfl, hu2', hu4, g12⟩
  replace g12 := Lib.hid (below_on g11.out g12)
  replace hu4 := Lib.hid hu4
  dsimp only []
  go_wp2_with fail
  refine (CO.out u1 u2 w12 hu1 hu2' hu3.out hu4.out).mono ?_
  rintro _ w13 ⟨rfl, g13⟩
  replace g13 := Lib.hid (below_on g12.out g13)
  dsimp only []
  go_wp2_with fail
  go_ret
  exact ⟨rfl, g13.out⟩
theorem picks_walk6 (R : RHypP) (n of_ : Int) (A : Option Addr) (cp M : Nat) (l : List Nat) (w : World) (n1 : -9223372036854775808 ≤ n) (n2 : n ≤ 9223372036854775807) (o1 : -9223372036854775808 ≤ of_) (o2 : of_ ≤ 9223372036854775807) (hf : FSl w w.heap.size A cp l) (hM : l.length = M) (hcp : cp ≤ 9223372036854775807) :
    Calls Try.prog 3 #[.int .i64 n, .int .i64 of_, .slice A M cp] w fun e w' => e = .returned (.bool true) ∧ Below w.heap.size w w' := by
  rcases Nat.lt_or_ge 300 M with h | h
  · exact picks_long R n of_ A cp M l w n1 n2 o1 o2 hf hM hcp h
  · exact picks_short R n of_ A cp M l w n1 n2 o1 o2 hf hM hcp h
end Go.Proofs.Ytdojbgfkcleeaaa
