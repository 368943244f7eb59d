/-
  The program's Check.
-/
import Derived.Test.YtllmffmmfpecaaaDoorChkM8
import Derived.Test.YtllmffmmfpecaaaDoorPAll8
import Derived.Test.YtllmffmmfpecaaaDoorPAttN8
namespace Go.Proofs.YtllmffmmfpecaaaDoor
open Go.RowKit

set_option maxRecDepth 8000 in
set_option maxHeartbeats 8000000 in
theorem check_any (A : Option Addr) (cp N : Nat) (L : List (List UInt8)) (A' : Option Addr) (cp' N' : Nat) (T : List (List UInt8)) (g o ga oa : Nat) (w : World) (hN : N ≤ 1000) (hN' : N' ≤ 1000) (hL : L.length = N) (hT : T.length = N') (hsrc : SrcO w w.heap.size A cp L) (hsrc' : SrcO w w.heap.size A' cp' T)
    (hl : ∀ l ∈ L, l.length ≤ 600) (hl' : ∀ l ∈ T, l.length ≤ 600) (HT : TabsC w g o) (HA : TabA w ga oa) :
    Calls Tryd.prog 21 #[.slice A N cp, .slice A' N' cp'] w fun e w' => e = .returned (.int .i64 (checkD L T : Int)) ∧ Below w.heap.size w w' := by
  have CN := Lib.hid (clsNames_any A cp N g o L w hN hL hsrc hl HT.cls)
  have CT := Lib.hid fun W (hb : Below w.heap.size w W) => attNames_any A' cp' N' ga oa T W hN' hT ((hsrc'.below hb).more hb.size) hl' (HA.below hb)
  have hn1 : (onceN (L.map nameC)).length ≤ 1000 := by
    have := onceN_len (L.map nameC)
    rw [List.length_map] at this
    omega
  have hn2 : (onceN (T.map nameA)).length ≤ 1000 := by
    have := onceN_len (T.map nameA)
    rw [List.length_map] at this
    omega
  have hl1 : ∀ x ∈ onceN (L.map nameC), x.length ≤ 600 := fun x hx => by
    rw [mem_onceN, List.mem_map] at hx
    obtain ⟨s, _, rfl⟩ := hx
    have := nameC_len s
    omega
  have CI := Lib.hid fun (B : Option Addr) (n c : Nat) W (hb : Below w.heap.size w W) (h1 : (onceN (L.map nameC)).length = n) (hs : SrcO W W.heap.size B c (onceN (L.map nameC))) => inLine_any B c n g o (onceN (L.map nameC)) W (by omega) h1 hs hl1 (HT.below hb)
  have CA := Lib.hid fun (B : Option Addr) (n c : Nat) W (hb : Below w.heap.size w W) (h1 : (onceN (L.map nameC)).length = n) (hs : SrcO W W.heap.size B c (onceN (L.map nameC))) => all_any B c n g o (onceN (L.map nameC)) W (by omega) h1 hs hl1 (HT.below hb)
  clear hsrc hsrc' hl hl' HT HA hL hT hl1
  have c13 : validC L = false → checkD L T = 13 := check_c13
  have c13' : validA T = false → checkD L T = 13 := check_13 L T
  have hline : validC L = true → lineD (onceN (L.map nameC)) = goodC L := line_good
  have c16 : validC L = true → validA T = true → goodC L = false → checkD L T = 16 := check_16 L T
  have cfit : validC L = true → validA T = true → goodC L = true → checkD L T = fitsD (onceN (T.map nameA)) (mustD L) (restD L) := fun h1 h2 h3 => by rw [check_fits h1 h2 h3, fits_once]
  have hvv : validC L = L.all isC := rfl
  have haa : validA T = T.all isA := rfl
  rw [hvv] at c13 hline c16 cfit
  rw [haa] at c13' c16 cfit
  obtain ⟨q1, hq1⟩ : ∃ q, L.all isC = q := ⟨_, rfl⟩
  obtain ⟨q2, hq2⟩ : ∃ q, T.all isA = q := ⟨_, rfl⟩
  have hmm : q1 = true → mustD (onceN (L.map nameC)) = mustD L ∧ restD (onceN (L.map nameC)) = restD L ∧ validC (onceN (L.map nameC)) = true := fun h => ⟨once_must (hq1.trans h), once_rest (hq1.trans h), once_find (hq1.trans h)⟩
  rw [hq1] at c13 hline c16 cfit
  rw [hq2] at c13' c16 cfit
  obtain ⟨r, hr⟩ : ∃ r, checkD L T = r := ⟨_, rfl⟩
  rw [hr] at c13 c13' c16 cfit
  rw [hr]
  replace c13 := Lib.hid c13
  replace c13' := Lib.hid c13'
  replace c16 := Lib.hid c16
  replace cfit := Lib.hid cfit
  replace hmm := Lib.hid hmm
  replace hline := Lib.hid hline
  clear hr hvv haa
  go_enter Tryd.func21, Tryd.ntmps21
  go_wp2_with fail
  refine CN.out.mono ?_
  rintro _ w1 ⟨hS, hb⟩
  obtain ⟨B, n, c, rfl, hF⟩ := hS.form
  clear hS
  have HB1 := Lib.hid hb
  have z1 := hb.size
  rw [hq1] at hF ⊢
  replace hF := Lib.hid hF
  clear hb CN
  dsimp only []
  go_wp2_with fail
  refine (CT.out w1 HB1.out).mono ?_
  rintro _ w2 ⟨hS2, hb⟩
  obtain ⟨B', n', c', rfl, hF2⟩ := hS2.form
  clear hS2
  have HB2 := Lib.hid (HB1.out.trans (hb.mono z1))
  have HW2 := Lib.hid hb
  have z2 := HB2.out.size
  rw [hq2] at hF2 ⊢
  replace hF2 := Lib.hid hF2
  clear hb CT hq1 hq2
  rcases q1 with _ | _
  · have e := Lib.hid (c13.out rfl)
    dsimp only []
    go_wp2_with fail
    go_ret
    exact ⟨by rw [e.out]; rfl, HB2.out⟩
  · rcases q2 with _ | _
    · have e := Lib.hid (c13'.out rfl)
      dsimp only []
      go_wp2_with fail
      go_ret
      exact ⟨by rw [e.out]; rfl, HB2.out⟩
    · obtain ⟨h1, hs1⟩ := hF.out rfl
      obtain ⟨h2, hs2⟩ := hF2.out rfl
      have hs1' := hs1.next8 HW2.out
      obtain ⟨em, er, ev⟩ := hmm.out rfl
      have C3 := Lib.hid (CI.out B n c w2 HB2.out h1 hs1')
      have C4 := Lib.hid fun W (hb : Below w2.heap.size w2 W) => CA.out B n c W (HB2.out.trans (hb.mono z2)) h1 (hs1'.next8 hb)
      have hs2h := Lib.hid hs2
      rw [hline.out rfl] at C3
      have h1n : n ≤ 1000 := by omega
      have h2n : n' ≤ 1000 := by omega
      have hmd := mD_len L
      have hyd := yD_len L
      have hfit := fun (m y : Nat) (A1 A2 : Option Addr) (c1 c2 : Nat) (W : World) (hm : m ≤ 1000) (hy : y ≤ 1000) (hM : (mustD L).length = m) (hY : (restD L).length = y) (s1 : SrcO W W.heap.size B' c' (onceN (T.map nameA))) (s2 : SrcO W W.heap.size A1 c1 (mustD L)) (s3 : SrcO W W.heap.size A2 c2 (restD L)) => fits_any B' A1 A2 c' c1 c2 n' m y (onceN (T.map nameA)) (mustD L) (restD L) W h2n hm hy h2 hM hY s1 s2 s3
      replace hfit := Lib.hid hfit
      have hml : (mustD L).length ≤ 90 := gatK_len Cl.must (fun c hc => (cls_few c hc).1) L 10 (Nat.le_refl _)
      have hyl : (restD L).length ≤ 90 := Nat.le_trans (List.length_filter_le _ _) (gatK_len Cl.may (fun c hc => (cls_few c hc).2.1) L 10 (Nat.le_refl _))
      obtain ⟨m, hm⟩ : ∃ m, (mustD L).length = m := ⟨_, rfl⟩
      obtain ⟨y, hy⟩ : ∃ m, (restD L).length = m := ⟨_, rfl⟩
      rw [hm] at hml
      rw [hy] at hyl
      have hall : Hid (∀ e W, AllS (onceN (L.map nameC)) e W → ∃ A1 c1 A2 c2, e = .returned (.tuple #[.slice A1 m c1, .slice A2 y c2, .int .i64 0]) ∧ SrcO W W.heap.size A1 c1 (mustD L) ∧ SrcO W W.heap.size A2 c2 (restD L)) := Lib.hid fun e W h => by
        unfold AllS at h
        rw [if_pos ev, em, er, hm, hy] at h
        exact h
      replace hm := Lib.hid hm
      replace hy := Lib.hid hy
      clear hs1 hs1' hs2 em er ev hmd hyd h1 h2 hn1 hn2
      dsimp only []
      go_wp2_with fail
      refine C3.out.mono ?_
      rintro _ w3 ⟨rfl, hb⟩
      have HW3 := Lib.hid (show Below w2.heap.size w2 w3 from hb)
      have HB3 := Lib.hid (HB2.out.trans (hb.mono z2))
      clear hb C3
      obtain ⟨q, hq⟩ : ∃ q, goodC L = q := ⟨_, rfl⟩
      rw [hq] at c16 cfit ⊢
      clear hq
      rcases q with _ | _
      · have e := Lib.hid (c16.out (by simp) (by simp) (by simp))
        dsimp only []
        go_wp2_with fail
        go_ret
        exact ⟨by rw [e.out]; rfl, HB3.out⟩
      · have e := Lib.hid (cfit.out (by simp) (by simp) (by simp))
        dsimp only []
        go_wp2_with fail
        refine (C4.out w3 HW3.out).mono ?_
        rintro e4 w4 ⟨hA, hb⟩
        obtain ⟨A1, c1, A2, c2, rfl, s1, s2⟩ := hall.out _ _ hA
        have HB4 := Lib.hid (HB3.out.trans (hb.mono HB3.out.size))
        have s0 := (hs2h.out.next8 HW3.out).next8 hb
        have C5 := Lib.hid (hfit.out m y A1 A2 c1 c2 w4 (by omega) (by omega) hm.out hy.out s0 s1 s2)
        rw [← e.out] at C5
        clear hb hA s0 s1 s2 C4
        dsimp only []
        go_wp2_with fail
        refine C5.out.mono ?_
        rintro _ w5 ⟨rfl, hb⟩
        have HB5 := Lib.hid (HB4.out.trans (hb.mono HB4.out.size))
        clear hb C5
        dsimp only []
        go_wp2_with fail
        go_ret
        exact ⟨rfl, HB5.out⟩
end Go.Proofs.YtllmffmmfpecaaaDoor
