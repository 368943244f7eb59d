/-
  The program's All.
-/
import Derived.Test.YtllmffmmfpecaaaDoorAllM8
import Derived.Test.YtllmffmmfpecaaaDoorPOrder8
import Derived.Test.YtllmffmmfpecaaaDoorPAbove8
import Derived.Test.YtllmffmmfpecaaaDoorPClsN8
import Derived.Test.YtllmffmmfpecaaaDoorMC8
namespace Go.Proofs.YtllmffmmfpecaaaDoor
open Go.RowKit

/-- A row of the table's rows, in a block that neither of two rows of the call's own lies in. -/
def RowAp (w : World) (A : Option Addr) (R : List Cl) (u v : Value) : Prop := SrcR w w.heap.size A R ∧ ∀ g, A = some ⟨g, 0, none⟩ → g < w.heap.size ∧ u.ownBlock ≠ some g ∧ v.ownBlock ≠ some g
theorem RowAp.turn {w : World} {A : Option Addr} {R : List Cl} {u v : Value} (h : RowAp w A R u v) : RowAp w A R v u := ⟨h.1, fun g hg => ⟨(h.2 g hg).1, (h.2 g hg).2.2, (h.2 g hg).2.1⟩⟩
theorem RowAp.below {w w' : World} {A : Option Addr} {R : List Cl} {u v : Value} (h : RowAp w A R u v) (hb : Below w.heap.size w w') : RowAp w' A R u v := by
  refine ⟨⟨Nat.le_refl _, fun i c hc => ?_⟩, fun g hg => ⟨Nat.lt_of_lt_of_le (h.2 g hg).1 hb.size, (h.2 g hg).2⟩⟩
  obtain ⟨g, h1, h2, h3⟩ := h.1.2 i c hc
  exact ⟨g, h1, Nat.lt_of_lt_of_le h2 hb.size, fun j x hx => (hb.cell (p := ⟨g, i * 6 + j, none⟩) h2).trans (h3 j x hx)⟩
theorem RowAp.grown {w w' : World} {A : Option Addr} {R : List Cl} {u v u' : Value} (h : RowAp w A R u v) (hg : w.grownBy w' u.ownBlock) (hat : u'.ownBlock = u.ownBlock ∨ u'.ownBlock = some w.heap.size) : RowAp w' A R u' v := by
  refine ⟨⟨Nat.le_refl _, fun i c hc => ?_⟩, fun g hA => ⟨Nat.lt_of_lt_of_le (h.2 g hA).1 hg.size, fun e => ?_, (h.2 g hA).2.2⟩⟩
  · obtain ⟨g, h1, h2, h3⟩ := h.1.2 i c hc
    exact ⟨g, h1, Nat.lt_of_lt_of_le h2 hg.size, fun j x hx => hg.cell (h3 j x hx) (Ne.symm (h.2 g h1).2.1)⟩
  · rcases hat with h1 | h1
    · exact (h.2 g hA).2.1 (h1.symm.trans e)
    · rw [h1] at e
      injection e with e
      have := (h.2 g hA).1
      omega
set_option maxRecDepth 8000 in
set_option maxHeartbeats 8000000 in
theorem all_any (A : Option Addr) (cp N g o : Nat) (L : List (List UInt8)) (w : World) (hN : N ≤ 1000) (hL : L.length = N) (hsrc : SrcO w w.heap.size A cp L) (hl : ∀ l ∈ L, l.length ≤ 600) (HT : TabsC w g o) :
    Calls Tryd.prog 18 #[.slice A N cp] w fun e w' => AllS L e w' ∧ Below w.heap.size w w' := by
  have CN := Lib.hid (clsNames_any A cp N g o L w hN hL hsrc hl HT.cls)
  have CS := Lib.hid fun (x : List UInt8) (hx : x.length ≤ 600) W (hb : Below w.heap.size w W) => sup_any x g o W hx (HT.below hb)
  have CM := Lib.hid fun (c : Cl) (hc : c ∈ clss) W (hb : Below w.heap.size w W) => flds_in (txt c.must) c.must W (txt_fields c hc).1 (txt_ascii c hc).1.1 (txt_ascii c hc).2.1 (HT.below hb).spc W (Below.refl _ _)
  have CY := Lib.hid fun (c : Cl) (hc : c ∈ clss) W (hb : Below w.heap.size w W) => flds_in (txt c.may) c.may W (txt_fields c hc).2 (txt_ascii c hc).1.2 (txt_ascii c hc).2.2 (HT.below hb).spc W (Below.refl _ _)
  have hmust := all_must L
  have hmay := all_may L
  have hTn : (onceN (L.map nameC)).length ≤ N := by
    have := onceN_len (L.map nameC)
    rw [List.length_map] at this
    omega
  have hTl : ∀ x ∈ onceN (L.map nameC), x.length ≤ 600 := fun x hx => by
    rw [mem_onceN, List.mem_map] at hx
    obtain ⟨s, _, rfl⟩ := hx
    have := nameC_len s
    omega
  obtain ⟨T, hT⟩ : ∃ T, onceN (L.map nameC) = T := ⟨_, rfl⟩
  clear hsrc hl HT hL
  go_enter Tryd.func18, Tryd.ntmps18
  go_wp2_with fail
  refine CN.out.mono ?_
  rintro e w1 ⟨hS, hb⟩
  have HB1 := Lib.hid hb
  have z1 := hb.size
  clear hb CN
  by_cases hv : L.all isC = true
  rotate_left
  · have hv' : L.all isC = false := Bool.eq_false_iff.2 hv
    have HV := Lib.hid (show validC L = false from hv')
    unfold NamesS at hS
    rw [if_neg hv] at hS
    subst hS
    clear hv hv' hmust hmay hTn hTl
    dsimp only []
    go_wp2_with fail
    go_ret3
    exact ⟨AllS.no HV.out, HB1.out⟩
  have HV := Lib.hid (show validC L = true from hv)
  have hmust := hmust hv
  have hmay := hmay hv
  unfold NamesS at hS
  rw [if_pos hv] at hS
  rw [hT] at hS hmust hmay hTn hTl
  obtain ⟨B, c0, rfl, hsT⟩ := hS
  have hgT : Hid (∀ k, k < T.length → ∃ ad l, B = some ad ∧ T[k]? = some l ∧ ∀ W, Below w1.heap.size w1 W → W.cell? (ad.add k) = some (.string (baO l))) := Lib.hid fun k hk => hsT.get k hk
  have hmust := Lib.hid hmust
  have hmay := Lib.hid hmay
  have hTl := Lib.hid hTl
  have htake : Hid (T.take T.length = T) := Lib.hid (List.take_of_length_le (Nat.le_refl _))
  obtain ⟨n, hn⟩ : ∃ n, T.length = n := ⟨_, rfl⟩
  rw [hn] at hTn hgT htake ⊢
  replace hn := Lib.hid hn
  replace hT := Lib.hid hT
  clear hsT hv
  dsimp only []
  go_wp2_with fail
  go_loopw [2, 3, 20] (fun mv yv iv wr => ∃ (k n1 c1 n2 c2 : Nat) (B1 B2 : Option Addr), k ≤ n ∧ mv = .slice B1 n1 c1 ∧ yv = .slice B2 n2 c2 ∧ iv = .int .i64 (k : Int) ∧ Hid ((allM Cl.must (T.take k)).length = n1) ∧ Hid ((allM Cl.may (T.take k)).length = n2) ∧
    Hid (TwoO wr w1.heap.size (.slice B1 n1 c1) (allM Cl.must (T.take k)) (.slice B2 n2 c2) (allM Cl.may (T.take k))) ∧ Hid (Below w1.heap.size w1 wr)) (fun _ _ iv _ => n - (intOf iv).toNat)
  case atStart => exact ⟨0, 0, 0, 0, 0, none, none, Nat.zero_le _, rfl, rfl, rfl, Lib.hid rfl, Lib.hid rfl, Lib.hid (TwoO.nil _ _), Lib.hid (Below.refl _ _)⟩
  case round =>
    obtain ⟨k, n1, c1, n2, c2, B1, B2, hk, rfl, rfl, rfl, HN1, HN2, HO, HX⟩ := hrel
    have zr := HX.out.size
    have HB := Lib.hid (HB1.out.trans (HX.out.mono z1))
    have bn1 : n1 ≤ 27 * k := by
      have := allM_len Cl.must (fun c hc => (cls_few c hc).1) (T.take k)
      rw [HN1.out, List.length_take] at this
      omega
    have bn2 : n2 ≤ 27 * k := by
      have := allM_len Cl.may (fun c hc => (cls_few c hc).2.1) (T.take k)
      rw [HN2.out, List.length_take] at this
      omega
    by_cases hlt : k < n
    · obtain ⟨ad, l, rfl, hlk, hcell⟩ := hgT.out k hlt
      have hc := hcell wr HX.out
      have hll := hTl.out l (List.mem_of_getElem? hlk)
      have htk : T.take (k + 1) = T.take k ++ [l] := by
        rw [List.take_add_one, hlk]
        rfl
      have hs1 : Hid (allM Cl.must (T.take (k + 1)) = allM Cl.must (T.take k) ++ (sup l).flatMap Cl.must) := Lib.hid (by rw [htk, allM_snoc])
      have hs2 : Hid (allM Cl.may (T.take (k + 1)) = allM Cl.may (T.take k) ++ (sup l).flatMap Cl.may) := Lib.hid (by rw [htk, allM_snoc])
      have C1 := Lib.hid (CS.out l hll wr HB.out)
      have hsm := sup_len l
      have hmemR : Hid (∀ c ∈ sup l, c ∈ clss) := Lib.hid (sup_mem l)
      obtain ⟨R, hR⟩ : ∃ R, sup l = R := ⟨_, rfl⟩
      rw [hR] at C1 hs1 hs2 hsm hmemR
      obtain ⟨X1, hX1⟩ : ∃ X, allM Cl.must (T.take k) = X := ⟨_, rfl⟩
      obtain ⟨X2, hX2⟩ : ∃ X, allM Cl.may (T.take k) = X := ⟨_, rfl⟩
      rw [hX1] at HN1 HO hs1
      rw [hX2] at HN2 HO hs2
      have htR : Hid (R.take R.length = R) := Lib.hid (List.take_of_length_le (Nat.le_refl _))
      have i0 : (0 : Int) ≤ (k : Int) := by omega
      have i1 : (k : Int) < (n : Int) := by omega
      replace hlk := Lib.hid hlk
      replace htk := Lib.hid htk
      replace hcell := Lib.hid hcell
      clear hR hX1 hX2
      go_wp2_with fail
      refine C1.out.mono ?_
      rintro _ w2 ⟨⟨A3, c3, rfl, hoR⟩, hb2⟩
      have HX2 := Lib.hid (HX.out.trans (hb2.mono zr))
      have HB2 := Lib.hid (HB.out.trans (hb2.mono HB.out.size))
      have HO2 := Lib.hid (HO.out.below hb2)
      have hAp : RowAp w2 A3 R (.slice B1 n1 c1) (.slice B2 n2 c2) := ⟨hoR.src, fun g hg => ⟨own_lt hoR g (by rw [hg]; rfl), fun e => by have h1 := own_lt HO.out.one g e; have h2 := own_ge hoR g (by rw [hg]; rfl); omega, fun e => by have h1 := own_lt HO.out.two g e; have h2 := own_ge hoR g (by rw [hg]; rfl); omega⟩⟩
      have HAp := Lib.hid hAp
      obtain ⟨m, hm⟩ : ∃ m, R.length = m := ⟨_, rfl⟩
      rw [hm] at hsm htR ⊢
      replace hm := Lib.hid hm
      clear hb2 hoR C1 hAp
      dsimp only []
      go_wp2_with fail
      go_loopw [2, 3, 27] (fun mv yv jv wy => ∃ (j m1 d1 m2 d2 : Nat) (D1 D2 : Option Addr), j ≤ m ∧ mv = .slice D1 m1 d1 ∧ yv = .slice D2 m2 d2 ∧ jv = .int .i64 (j : Int) ∧ m1 ≤ n1 + 9 * j ∧ m2 ≤ n2 + 9 * j ∧ Hid ((X1 ++ (R.take j).flatMap Cl.must).length = m1) ∧ Hid ((X2 ++ (R.take j).flatMap Cl.may).length = m2) ∧
        Hid (TwoO wy w1.heap.size (.slice D1 m1 d1) (X1 ++ (R.take j).flatMap Cl.must) (.slice D2 m2 d2) (X2 ++ (R.take j).flatMap Cl.may)) ∧ Hid (RowAp wy A3 R (.slice D1 m1 d1) (.slice D2 m2 d2)) ∧ Hid (Below w1.heap.size w1 wy)) (fun _ _ jv _ => m - (intOf jv).toNat)
      case atStart => exact ⟨0, n1, c1, n2, c2, B1, B2, Nat.zero_le _, rfl, rfl, rfl, by omega, by omega, Lib.hid (by rw [List.take_zero, List.flatMap_nil, List.append_nil]; exact HN1.out), Lib.hid (by rw [List.take_zero, List.flatMap_nil, List.append_nil]; exact HN2.out), Lib.hid (by rw [List.take_zero, List.flatMap_nil, List.append_nil, List.flatMap_nil, List.append_nil]; exact HO2.out), HAp, HX2⟩
      case round =>
        obtain ⟨j, m1, d1, m2, d2, D1, D2, hj, rfl, rfl, rfl, bm1, bm2, HM1, HM2, HP, HR, HY⟩ := hrel
        have zy := HY.out.size
        have HBw := Lib.hid (HB1.out.trans (HY.out.mono z1))
        by_cases hjm : j < m
        · obtain ⟨c, hcR⟩ : ∃ c, R[j]? = some c := ⟨R[j]'(by rw [hm.out]; exact hjm), List.getElem?_eq_getElem _⟩
          have hcc := hmemR.out c (List.mem_of_getElem? hcR)
          obtain ⟨gR, rfl, hgR, hcl⟩ := HR.out.1.2 j c hcR
          have p0 : wr.cell? ⟨gR, j * 6, none⟩ = some (.string (baO c.name)) := hcl 0 _ rfl
          have p1 : wr.cell? ⟨gR, j * 6 + 1, none⟩ = some (.string (baO c.oid)) := hcl 1 _ rfl
          have p2 : wr.cell? ⟨gR, j * 6 + 2, none⟩ = some (.string (baO c.super)) := hcl 2 _ rfl
          have p3 : wr.cell? ⟨gR, j * 6 + 3, none⟩ = some (.int .i64 (c.kind : Int)) := hcl 3 _ rfl
          have p4 : wr.cell? ⟨gR, j * 6 + 4, none⟩ = some (.string (baO (txt c.must))) := hcl 4 _ rfl
          have p5 : wr.cell? ⟨gR, j * 6 + 5, none⟩ = some (.string (baO (txt c.may))) := hcl 5 _ rfl
          have hfew := cls_few c hcc
          have htj : R.take (j + 1) = R.take j ++ [c] := by
            rw [List.take_add_one, hcR]
            rfl
          have e1 : Hid (X1 ++ (R.take (j + 1)).flatMap Cl.must = (X1 ++ (R.take j).flatMap Cl.must) ++ c.must) := Lib.hid (by rw [htj, List.flatMap_append]; simp)
          have e2 : Hid (X2 ++ (R.take (j + 1)).flatMap Cl.may = (X2 ++ (R.take j).flatMap Cl.may) ++ c.may) := Lib.hid (by rw [htj, List.flatMap_append]; simp)
          obtain ⟨Y1, hY1⟩ : ∃ X, X1 ++ (R.take j).flatMap Cl.must = X := ⟨_, rfl⟩
          obtain ⟨Y2, hY2⟩ : ∃ X, X2 ++ (R.take j).flatMap Cl.may = X := ⟨_, rfl⟩
          rw [hY1] at HM1 HP e1
          rw [hY2] at HM2 HP e2
          have f1 := hfew.1
          have f2 := hfew.2.1
          have j0 : (0 : Int) ≤ (j : Int) := by omega
          have j1 : (j : Int) < (m : Int) := by omega
          have hpm : ∀ b, (Value.slice D1 m1 d1).ownBlock = some b → b < wr.heap.size := fun b hb => (World.ownsRow.lt HP.out.one b hb).2
          have hpy : ∀ b, (Value.slice D2 m2 d2).ownBlock = some b → b < wr.heap.size := fun b hb => (World.ownsRow.lt HP.out.two b hb).2
          have HPM := Lib.hid (show (Value.slice D1 m1 d1).ownBlock ≠ some wr.heap.size from fun h => by have := hpm _ h; omega)
          replace hcR := Lib.hid hcR
          replace htj := Lib.hid htj
          clear hcl hY1 hY2 hpm hpy hfew
          go_upto_region 10 with fail
          obtain ⟨V, hV⟩ : ∃ V, V = wr.alloc (.cells #[.string (baO c.name), .string (baO c.oid), .string (baO c.super), .int .i64 (c.kind : Int), .string (baO (txt c.must)), .string (baO (txt c.may))] 64) := ⟨_, rfl⟩
          have hbv : Below wr.heap.size wr V := by rw [hV]; exact (Below.refl _ _).alloc (Nat.le_refl _) _
          have zV : V.heap.size = wr.heap.size + 1 := by rw [hV]; simp
          have HKV := Lib.hid (show V.heap[wr.heap.size]? = some (.cells #[.string (baO c.name), .string (baO c.oid), .string (baO c.super), .int .i64 (c.kind : Int), .string (baO (txt c.must)), .string (baO (txt c.may))] 64) by rw [hV]; exact heap_alloc_new wr _)
          obtain ⟨k0, k1, k2, k3, k4, k5, _, _, _, _, _, _⟩ := row6 HKV.out
          have HYV := Lib.hid (HY.out.trans (hbv.mono zy))
          have HBV := Lib.hid (HB1.out.trans (HYV.out.mono z1))
          have HPV := Lib.hid (HP.out.below hbv)
          have HRV := Lib.hid (HR.out.below hbv)
          rw [← hV]
          clear hV hbv p0 p1 p2 p3 p4 p5
          go_wp2_with fail
          refine (CM.out c hcc V HBV.out).mono ?_
          rintro _ w4 ⟨g1, rfl, hg1, hl1, ho1, hb4, _⟩
          have z4 := hb4.size
          have HY4 := Lib.hid (HYV.out.trans (hb4.mono HYV.out.size))
          have HB4 := Lib.hid (HBV.out.trans (hb4.mono HBV.out.size))
          have HP4 := Lib.hid (HPV.out.below hb4)
          have HR4 := Lib.hid (HRV.out.below hb4)
          have HK4 := Lib.hid ((hb4.block wr.heap.size (by omega)).trans HKV.out)
          have HS1 := Lib.hid (SrcO.obj ho1)
          have zb : w1.heap.size ≤ w4.heap.size := HY4.out.size
          have zk : wr.heap.size < w4.heap.size := by omega
          clear hb4 ho1 k0 k1 k2 k3 k4 k5
          dsimp only []
          go_wp2_with (at_builtin; refine append_at rfl (.tmp 31) (.tmp 34) rfl w1.heap.size _ Y1 m1 HM1.out rfl HP4.out.one w4.heap.size (some ⟨g1, 0, none⟩) c.must.length c.must.length c.must rfl rfl HS1.out (m1 + c.must.length) rfl (by omega) zb ?_; intro Ac cc wc hoc hgc hat hbc; have HPc := Lib.hid (HP4.out.grown hoc hgc hat); have HRc := Lib.hid (HR4.out.grown hgc hat); have HYc := Lib.hid (HY4.out.trans hbc); have zc := hgc.size; obtain ⟨k0, k1, k2, k3, k4, k5, _, _, _, _, _, _⟩ := row6 ((hgc.block wr.heap.size zk (Ne.symm HPM.out)).trans HK4.out); clear hoc hgc hat hbc)
          have HBc := Lib.hid (HB1.out.trans (HYc.out.mono z1))
          refine (CY.out c hcc wc HBc.out).mono ?_
          rintro _ w6 ⟨g2, rfl, hg2, hl2, ho2, hb6, _⟩
          have HY6 := Lib.hid (HYc.out.trans (hb6.mono HYc.out.size))
          have HP6 := Lib.hid (HPc.out.below hb6).turn
          have HR6 := Lib.hid (HRc.out.below hb6).turn
          have HS2 := Lib.hid (SrcO.obj ho2)
          have zb6 : w1.heap.size ≤ w6.heap.size := HY6.out.size
          have HL1 : Hid ((Y1 ++ c.must).length = m1 + c.must.length) := Lib.hid (by rw [List.length_append, HM1.out])
          have HL2 : Hid ((Y2 ++ c.may).length = m2 + c.may.length) := Lib.hid (by rw [List.length_append, HM2.out])
          clear hb6 ho2 k0 k1 k2 k3 k4 k5
          dsimp only []
          go_wp2_with (at_builtin; refine append_at rfl (.tmp 36) (.tmp 39) rfl w1.heap.size _ Y2 m2 HM2.out rfl HP6.out.one w6.heap.size (some ⟨g2, 0, none⟩) c.may.length c.may.length c.may rfl rfl HS2.out (m2 + c.may.length) rfl (by omega) zb6 ?_; intro Ad cd wd hod hgd hat hbd; have HPd := Lib.hid (HP6.out.grown hod hgd hat).turn; have HRd := Lib.hid (HR6.out.grown hgd hat).turn; have HYd := Lib.hid (HY6.out.trans hbd); clear hod hgd hat hbd)
          go_roundw
          case rel => exact ⟨j + 1, m1 + c.must.length, cc, m2 + c.may.length, cd, Ac, Ad, by omega, rfl, rfl, by go_num, by omega, by omega, Lib.hid (by rw [e1.out]; exact HL1.out), Lib.hid (by rw [e2.out]; exact HL2.out), Lib.hid (by rw [e1.out, e2.out]; exact HPd.out), HRd, HYd⟩
          case measure => simp [intOf]; omega
        · obtain rfl : m = j := by omega
          rw [htR.out] at HM1 HM2 HP
          have j1 : ¬ ((m : Int) < (m : Int)) := by omega
          clear i1
          go_wp2_with fail
          go_roundw
          case rel => exact ⟨k + 1, m1, d1, m2, d2, D1, D2, by omega, rfl, rfl, by go_num, Lib.hid (by rw [hs1.out]; exact HM1.out), Lib.hid (by rw [hs2.out]; exact HM2.out), Lib.hid (by rw [hs1.out, hs2.out]; exact HP.out), HY⟩
          case measure => simp [intOf]; omega
    · obtain rfl : n = k := by omega
      rw [htake.out] at HN1 HN2 HO
      have i1 : ¬ ((n : Int) < (n : Int)) := by omega
      obtain ⟨X1, hX1⟩ : ∃ X, allM Cl.must T = X := ⟨_, rfl⟩
      obtain ⟨X2, hX2⟩ : ∃ X, allM Cl.may T = X := ⟨_, rfl⟩
      rw [hX1] at HN1 HO hmust
      rw [hX2] at HN2 HO hmay
      clear hX1 hX2
      have CI1 := Lib.hid (inOrder_any B1 n1 c1 w1.heap.size X1 wr HN1.out (by omega) zr HO.out.one)
      go_wp2_with fail
      refine CI1.out.mono ?_
      rintro _ w7 ⟨A7, c7, rfl, ho7, hb7, hg7, hat7⟩
      have HO7 := Lib.hid (HO.out.grown ho7 hg7 (.inl hat7)).turn
      have HY7 := Lib.hid (HX.out.trans hb7)
      clear ho7 hb7 hg7 hat7 CI1
      rw [hmust.out] at HO7 ⊢
      have CI2 := Lib.hid (inOrder_any B2 n2 c2 w1.heap.size X2 w7 HN2.out (by omega) HY7.out.size HO7.out.one)
      obtain ⟨m7, hm7⟩ : ∃ m, (mustD L).length = m := ⟨_, rfl⟩
      have bm7 : m7 ≤ 90 := by
        have := gatK_len Cl.must (fun c hc => (cls_few c hc).1) L 10 (Nat.le_refl _)
        rw [gatK_end] at this
        have h2 : (mustD L).length = (gather Cl.must L).length := rfl
        omega
      rw [hm7] at HO7 ⊢
      dsimp only []
      go_wp2_with fail
      refine CI2.out.mono ?_
      rintro _ w8 ⟨A8, c8, rfl, ho8, hb8, hg8, hat8⟩
      have HO8 := Lib.hid (HO7.out.grown ho8 hg8 (.inl hat8))
      have HY8 := Lib.hid (HY7.out.trans hb8)
      clear ho8 hb8 hg8 hat8 CI2
      have hY8 : (sortU X2).length ≤ n2 := by
        have := sortU_len X2
        rw [HN2.out] at this
        exact this
      obtain ⟨Y8, hY8e⟩ : ∃ Y, sortU X2 = Y := ⟨_, rfl⟩
      rw [hY8e] at HO8 hmay hY8 ⊢
      obtain ⟨m8, hm8⟩ : ∃ m, Y8.length = m := ⟨_, rfl⟩
      rw [hm8] at HO8 hY8 ⊢
      dsimp only []
      go_wp2_with fail
      refine (among_any A7 c7 m7 w8).mono ?_
      rintro _ w9 ⟨rfl, hw9⟩
      have hb9 : Below w8.heap.size w8 w9 := by rw [hw9]; exact (Below.refl _ _).alloc (Nat.le_refl _) _
      have HO9 := Lib.hid (HO8.out.below hb9)
      have HY9 := Lib.hid (HY8.out.trans (hb9.mono HY8.out.size))
      have hbx : w9.cell? ⟨w8.heap.size, 0, none⟩ = some (.slice A7 m7 c7) := by
        rw [hw9]
        exact cell_of_row _ _ _ _ _ _ (heap_alloc_new w8 _)
      have hne : ∀ b, (Value.slice A8 m8 c8).ownBlock = some b → b < w8.heap.size := own_lt HO8.out.one
      have hkept : ∀ W, w9.grownBy W (Value.slice A8 m8 c8).ownBlock → OwnO W w1.heap.size (.slice A7 m7 c7) (mustD L) := fun W hW => by
        refine World.ownsRow.kept HO9.out.two hW ?_
        rcases hu : (Value.slice A7 m7 c7).ownBlock with _ | b
        · exact .inl rfl
        · exact .inr fun e => HO9.out.far b e.symm hu
      have CD := Lib.hid (deleteIn_any w8.heap.size m8 c8 w1.heap.size A8 Y8 (mustD L) w9 (by omega) hm8 HO9.out.one fun W hW x => by
        have hx := hW.cell hbx (fun e => by have := hne _ e.symm; simp at this)
        have := among1_any (baO x) w8.heap.size A7 c7 m7 W.heap.size (mustD L) W (by omega) hm7 (by have := (hkept W hW).src; exact this) hx
        rw [baO_list] at this
        exact this)
      have HKept := Lib.hid hkept
      unfold fnM at CD
      clear hw9 hb9 hbx hne hkept
      dsimp only []
      go_wp2_with fail
      refine CD.out.mono ?_
      rintro _ w10 ⟨A10, c10, rfl, ho10, hg10⟩
      have hsM := (HKept.out w10 hg10).src
      have hsY := ho10.src
      have hbz : Below w1.heap.size w1 w10 := HY9.out.grown hg10 HY9.out.size (own_ge HO9.out.one)
      rw [hmay.out] at hsY ⊢
      have fin : AllS L (.returned (.tuple #[.slice A7 m7 c7, .slice A10 (restD L).length c10, .int .i64 0])) w10 := by
        unfold AllS
        rw [if_pos HV.out]
        exact ⟨A7, c7, A10, c10, by rw [hm7], hsM, hsY⟩
      have HFin := Lib.hid fin
      have HBz := Lib.hid (HB1.out.trans (hbz.mono z1))
      clear hsM hsY hbz fin ho10 hg10 CD
      dsimp only []
      go_wp2_with fail
      go_ret3
      exact ⟨HFin.out, HBz.out⟩
end Go.Proofs.YtllmffmmfpecaaaDoor
