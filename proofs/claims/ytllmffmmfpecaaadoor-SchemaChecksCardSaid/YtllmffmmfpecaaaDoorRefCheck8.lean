/-
  The document's Check.
-/
import Derived.Test.YtllmffmmfpecaaaDoorMB8
import Derived.Test.YtllmffmmfpecaaaDoorRefAll8
namespace Go.Proofs.YtllmffmmfpecaaaDoor
open Go.RowKit

set_option maxRecDepth 8000 in
set_option maxHeartbeats 8000000 in
theorem refCheck_any (A : Option Addr) (cp N : Nat) (L : List (List UInt8)) (A' : Option Addr) (cp' N' : Nat) (T : List (List UInt8)) (w : World) (hN : N ≤ 1000) (hN' : N' ≤ 1000) (hL : L.length = N) (hT : T.length = N')
    (hsrc : SrcO w w.heap.size A cp L) (hsrc' : SrcO w w.heap.size A' cp' T) (hlen : ∀ l ∈ L, l.length ≤ 600) (hlen' : ∀ l ∈ T, l.length ≤ 600) :
    Calls Tryd.prog 22 #[.slice A N cp, .slice A' N' cp'] w fun e w' => e = .returned (.int .i64 (checkD L T : Int)) ∧ Below w.heap.size w w' := by
  have hget : Hid (∀ k, k < N → ∃ ad l, A = some ad ∧ L[k]? = some l ∧ l.length ≤ 600 ∧ ∀ W, Below w.heap.size w W → W.cell? (ad.add k) = some (.string (baO l))) := Lib.hid fun k hk => by
    obtain ⟨ad, l, h1, h2, h3⟩ := hsrc.get k (by omega)
    exact ⟨ad, l, h1, h2, hlen l (List.mem_of_getElem? h2), h3⟩
  have hget' : Hid (∀ k, k < N' → ∃ ad l, A' = some ad ∧ T[k]? = some l ∧ l.length ≤ 600 ∧ ∀ W, Below w.heap.size w W → W.cell? (ad.add k) = some (.string (baO l))) := Lib.hid fun k hk => by
    obtain ⟨ad, l, h1, h2, h3⟩ := hsrc'.get k (by omega)
    exact ⟨ad, l, h1, h2, hlen' l (List.mem_of_getElem? h2), h3⟩
  have CA := Lib.hid (refAll_any A cp N L w hN hL hsrc hlen)
  replace hL := Lib.hid hL
  replace hT := Lib.hid hT
  clear hsrc hlen hsrc' hlen'
  go_enter Tryd.func22, Tryd.ntmps22
  go_wp2_with fail
  refine CA.out.mono ?_
  rintro e1 w1 ⟨hA, hb1⟩
  have HB1 := Lib.hid hb1
  have hs1 := hb1.size
  clear CA hb1
  unfold AllS at hA
  rcases hval : validC L with _ | _
  · rw [hval] at hA
    obtain rfl : e1 = _ := hA
    have h13 := Lib.hid (check_none L T hval)
    clear hval
    dsimp only []
    go_wp2_with fail
    go_ret
    exact ⟨by rw [h13.out]; rfl, HB1.out⟩
  · rw [hval] at hA
    obtain ⟨A1, c1, A2, c2, rfl, s1, s2⟩ := hA
    obtain ⟨n1, hn1⟩ : ∃ n1, (mustD L).length = n1 := ⟨_, rfl⟩
    obtain ⟨n2, hn2⟩ : ∃ n2, (restD L).length = n2 := ⟨_, rfl⟩
    have b1 : n1 ≤ 90 := by
      rw [← hn1]
      exact gatK_len Cl.must (fun c hc => (cls_few c hc).1) L 10 (Nat.le_refl _)
    have b2 : n2 ≤ 90 := by
      rw [← hn2]
      refine Nat.le_trans (List.length_filter_le _ _) ?_
      exact gatK_len Cl.may (fun c hc => (cls_few c hc).2.1) L 10 (Nat.le_refl _)
    rw [hn1, hn2]
    replace hn1 := Lib.hid hn1
    replace hn2 := Lib.hid hn2
    replace s1 := Lib.hid s1
    replace s2 := Lib.hid s2
    replace hval := Lib.hid hval
    dsimp only []
    go_wp2_with fail
    go_loopw [8, 9] (fun rv iv wr => ∃ (j c : Nat) (B : Option Addr), j ≤ N' ∧ iv = .int .i64 (j : Int) ∧ rv = .slice B j c ∧ Hid (OwnO wr w1.heap.size (.slice B j c) ((T.take j).map nameA)) ∧ Hid (∀ i < j, ∀ l, T[i]? = some l → (findA l).isSome = true) ∧ Hid (Below w1.heap.size w1 wr)) (fun _ iv _ => N' - (intOf iv).toNat)
    case atStart => exact ⟨0, 0, none, Nat.zero_le _, rfl, rfl, Lib.hid (OwnO.nil _ _), Lib.hid (fun j hj => absurd hj (Nat.not_lt_zero _)), Lib.hid (Below.refl _ _)⟩
    case round =>
      obtain ⟨j, c, B, hj, rfl, rfl, HO, HV, HB⟩ := hrel
      have hsr := HB.out.size
      have HBw := Lib.hid (HB1.out.trans (HB.out.mono hs1))
      by_cases hlt : j < N'
      · obtain ⟨ad, l, hA, hl, hz, hcc⟩ := hget'.out j hlt
        have hcell := hcc wr HBw.out
        have i0 : (0 : Int) ≤ (j : Int) := by omega
        have i1 : (j : Int) < (N' : Int) := by omega
        have CF := Lib.hid (refFind_any (baO l) wr (by rw [baO_size]; exact hz))
        rw [baO_list] at CF
        obtain ⟨o, ho⟩ : ∃ o, findA l = o := ⟨_, rfl⟩
        rw [ho] at CF
        subst hA
        replace ho := Lib.hid ho
        replace hl := Lib.hid hl
        replace hcc := Lib.hid hcc
        go_wp2_with fail
        refine CF.out.mono ?_
        rintro e2 w2 ⟨hF, hb2⟩
        clear CF
        have HB2 := Lib.hid (HB.out.trans (hb2.mono hsr))
        have hs2 := hb2.size
        have HO2 := Lib.hid (HO.out.below hb2 (Nat.le_refl _))
        clear hb2 hcell
        rcases o with _ | a
        · obtain rfl : e2 = _ := hF
          have h13 := Lib.hid (check_13 L T (validA_no hl.out ho.out))
          unfold valA
          dsimp only []
          go_wp2_with fail
          go_ret
          exact ⟨by rw [h13.out]; rfl, by first | exact HB1.out.trans ((HB2.out.alloc (by omega) _).mono hs1) | exact HB1.out.trans (((HB2.out.alloc (by omega) _).drew).mono hs1)⟩
        · obtain rfl : e2 = _ := hF
          have hna : nameA l = a.name := by unfold nameA; rw [ho.out]
          have hst := Lib.hid (show (T.take (j + 1)).map nameA = (T.take j).map nameA ++ [a.name] from by
            rw [(List.take_append_getElem (by rw [hT.out]; exact hlt)).symm, List.map_append, (List.getElem?_eq_some_iff.1 hl.out).2, List.map_singleton, hna])
          have hln := Lib.hid (show ((T.take j).map nameA).length = j from by rw [List.length_map, List.length_take, hT.out]; omega)
          clear hna
          unfold valA
          dsimp only []
          go_wp2_with (at_builtin; refine append_strs rfl (.tmp 46) (.tmp 49) rfl w1.heap.size _ ((T.take j).map nameA) j hln.out rfl ((HO2.out.alloc _).alloc _) ⟨w2.heap.size + 1, 0, none⟩ 1 1 [a.name] rfl rfl (by have h := ((SrcO.one (w2.alloc (.cells #[.string (baO a.name), .string (baO a.alias), .string (baO a.oid), .int .i64 (a.syn : Int), .bool a.single] 26)) a.name).at_ _ rfl).2; simpa using h) (j + 1) rfl (by omega) (by simp; omega) ?_; intro A3 c3 w3 ho3 hb3; have HO3 := Lib.hid ho3; have HB3 := Lib.hid (((HB2.out.alloc (by omega) _).alloc (by simp; omega) _).trans hb3); clear ho3 hb3)
          rw [← hst.out] at HO3
          go_roundw
          case rel =>
            refine ⟨j + 1, c3, A3, by omega, by go_num, rfl, HO3, Lib.hid (fun i hi m hm => ?_), HB3⟩
            by_cases hjk : i < j
            · exact HV.out i hjk m hm
            · obtain rfl : i = j := by omega
              rw [hl.out] at hm
              injection hm with hm
              rw [← hm, ho.out]
              rfl
          case measure => simp [intOf]; omega
      · obtain rfl : N' = j := by omega
        have i1 : ¬ ((N' : Int) < (N' : Int)) := by omega
        have hva := Lib.hid (validA_yes (T := T) (by rw [hT.out]; exact HV.out))
        rw [List.take_of_length_le (by rw [hT.out]; exact Nat.le_refl _)] at HO
        obtain ⟨wn, rfl⟩ : ∃ wn, wn = wr := ⟨_, rfl⟩
        clear HV
        go_wp2_with fail
        go_loopw [12, 13] (fun nv iv wr => ∃ (i n : Nat), i ≤ N ∧ n ≤ i ∧ iv = .int .i64 (i : Int) ∧ nv = .int .i64 (n : Int) ∧ Hid (n = 0 ↔ ∀ (j : Nat), j < i → ∀ (y : List UInt8), L[j]? = some y → kindC y ≠ 1) ∧ Hid (∀ (j : Nat), j < i → ∀ (y : List UInt8), L[j]? = some y → kindC y = 1 → ∀ (k : Nat), k < j → ∀ (x : List UInt8), L[k]? = some x → kindC x = 1 → apart y x = false) ∧ Hid (Below wn.heap.size wn wr)) (fun _ iv _ => N - (intOf iv).toNat)
        case atStart => exact ⟨0, 0, Nat.zero_le _, Nat.le_refl _, rfl, rfl, Lib.hid ⟨fun _ j hj => absurd hj (Nat.not_lt_zero _), fun _ => rfl⟩, Lib.hid (fun j hj => absurd hj (Nat.not_lt_zero _)), Lib.hid (Below.refl _ _)⟩
        case round =>
          obtain ⟨i, n, hi, hni, rfl, rfl, HK, HP, HB5⟩ := hrel
          have hs5 := HB5.out.size
          by_cases hltN : i < N
          · obtain ⟨ad, l, hA, hl, hz, hcc⟩ := hget.out i hltN
            have HBx := Lib.hid (HBw.out.trans (HB5.out.mono HBw.out.size))
            have hcell := hcc wr HBx.out
            have i0 : (0 : Int) ≤ (i : Int) := by omega
            have i1 : (i : Int) < (N : Int) := by omega
            have CF := Lib.hid (refFindClass_any (baO l) wr (by rw [baO_size]; exact hz))
            rw [baO_list] at CF
            obtain ⟨o, ho⟩ : ∃ o, findC l = some o := by
              have := List.all_eq_true.1 hval.out l (List.mem_of_getElem? hl)
              exact Option.isSome_iff_exists.1 this
            rw [ho] at CF
            have hna : nameC l = o.name := by unfold nameC; rw [ho]
            have hki : kindC l = o.kind := by unfold kindC; rw [ho]
            have hol := (findC_len ho).1
            subst hA
            replace ho := Lib.hid ho
            replace hl := Lib.hid hl
            replace hcc := Lib.hid hcc
            replace hna := Lib.hid hna
            go_wp2_with fail
            refine CF.out.mono ?_
            rintro e2 w2 ⟨hF, hb2⟩
            clear CF
            obtain ⟨A3, c3, A4, c4, rfl, _, _⟩ := hF
            have HB6 := Lib.hid (HB5.out.trans (hb2.mono hs5))
            have hs6 := hb2.size
            clear hb2 hcell
            dsimp only []
            by_cases hk1 : o.kind = 1
            · have kd : (o.kind : Int) = 1 := by omega
              have kb : ((o.kind : Int) != 1) = false := by simp [hk1]
              rw [hk1] at hki
              replace hki := Lib.hid hki
              rw [hk1]
              clear kd kb hk1
              go_wp2_with fail
              obtain ⟨w3, hw3⟩ : ∃ w3, w3 = w2.alloc (.cells #[.string (baO o.name), .string (baO o.oid), .string (baO o.super), .int .i64 1, .slice A3 o.must.length c3, .slice A4 o.may.length c4] 34) := ⟨_, rfl⟩
              rw [← hw3]
              have HB7 : Hid (Below wn.heap.size wn w3) := Lib.hid (by
                rw [hw3]
                exact HB6.out.alloc (by omega) _)
              have hs7 : w2.heap.size < w3.heap.size := by rw [hw3]; simp
              have hs8 : wn.heap.size ≤ w3.heap.size := HB7.out.size
              have HE0 : Hid (∀ W, Below w3.heap.size w3 W → W.cell? ⟨w2.heap.size, 0, none⟩ = some (.string (baO o.name))) := Lib.hid fun W hW => by
                rw [hW.cell (p := ⟨w2.heap.size, 0, none⟩) hs7, hw3]
                simp
              have HBy := Lib.hid (HBw.out.trans (HB7.out.mono HBw.out.size))
              clear hw3 HB6
              obtain ⟨wu, rfl⟩ : ∃ wu, wu = wr := ⟨_, rfl⟩
              go_loopw [16] (fun kv wr => ∃ (k : Nat), k ≤ i ∧ kv = .int .i64 (k : Int) ∧ Hid (∀ (j : Nat), j < k → ∀ (x : List UInt8), L[j]? = some x → kindC x = 1 → apart l x = false) ∧ Hid (Below w3.heap.size w3 wr)) (fun kv _ => i - (intOf kv).toNat)
              case atStart => exact ⟨0, Nat.zero_le _, rfl, Lib.hid (fun j hj => absurd hj (Nat.not_lt_zero _)), Lib.hid (Below.refl _ _)⟩
              case round =>
                obtain ⟨k, hk, rfl, HQ, HB8⟩ := hrel
                have hs9 := HB8.out.size
                by_cases hki2 : k < i
                · obtain ⟨ad2, x, hA2, hx, hz2, hcc2⟩ := hget.out k (by omega)
                  have HBz := Lib.hid (HBy.out.trans (HB8.out.mono HBy.out.size))
                  have hcell := hcc2 wr HBz.out
                  obtain rfl : ad = ad2 := by injection hA2
                  have k0 : (0 : Int) ≤ (k : Int) := by omega
                  have k1 : (k : Int) < (i : Int) := by omega
                  have k2 : (k : Int) < (N : Int) := by omega
                  have CF := Lib.hid (refFindClass_any (baO x) wr (by rw [baO_size]; exact hz2))
                  rw [baO_list] at CF
                  obtain ⟨d, hd⟩ : ∃ d, findC x = some d := by
                    have := List.all_eq_true.1 hval.out x (List.mem_of_getElem? hx)
                    exact Option.isSome_iff_exists.1 this
                  rw [hd] at CF
                  have hna2 : nameC x = d.name := by unfold nameC; rw [hd]
                  have hki3 : kindC x = d.kind := by unfold kindC; rw [hd]
                  have hol2 := (findC_len hd).1
                  have hap := Lib.hid (show apart l x = (!above o.name d.name && !above d.name o.name) from by unfold apart; rw [hna.out, hna2])
                  have hbad := Lib.hid (fun (h1 : kindC x = 1) (h2 : apart l x = true) => check_16 L T hval.out hva.out (good_no hx hl.out hki2 h1 hki.out h2))
                  replace hx := Lib.hid hx
                  replace hcc2 := Lib.hid hcc2
                  clear hna2 hd hA2
                  go_wp2_with fail
                  refine CF.out.mono ?_
                  rintro e4 w4 ⟨hF, hb4⟩
                  clear CF
                  obtain ⟨A5, c5, A6, c6, rfl, _, _⟩ := hF
                  have HB9 := Lib.hid (HB8.out.trans (hb4.mono hs9))
                  have hs4 := hb4.size
                  clear hb4 hcell
                  dsimp only []
                  go_upto_region 23 with fail
                  obtain ⟨w5, hw5⟩ : ∃ w5, w5 = w4.alloc (.cells #[.string (baO d.name), .string (baO d.oid), .string (baO d.super), .int .i64 (d.kind : Int), .slice A5 d.must.length c5, .slice A6 d.may.length c6] 34) := ⟨_, rfl⟩
                  rw [← hw5]
                  have HB10 : Hid (Below w3.heap.size w3 w5) := Lib.hid (by
                    rw [hw5]
                    exact HB9.out.alloc (by omega) _)
                  have hs10 : w4.heap.size < w5.heap.size := by rw [hw5]; simp
                  have HD0 : Hid (∀ W, Below w5.heap.size w5 W → W.cell? ⟨w4.heap.size, 0, none⟩ = some (.string (baO d.name))) := Lib.hid fun W hW => by
                    rw [hW.cell (p := ⟨w4.heap.size, 0, none⟩) hs10, hw5]
                    simp
                  have e3 : w5.cell? ⟨w4.heap.size, 3, none⟩ = some (.int .i64 (d.kind : Int)) := by
                    rw [hw5]
                    simp
                  have e0 := HE0.out w5 HB10.out
                  have f0 := HD0.out w5 (Below.refl _ _)
                  have CX := Lib.hid fun W => refAbove_any o.name d.name W (by omega)
                  have CY := Lib.hid fun W => refAbove_any d.name o.name W (by omega)
                  obtain ⟨b, hb⟩ : ∃ b, (decide (d.kind = 1) && apart l x) = b := ⟨_, rfl⟩
                  clear hw5 HB9
                  go_cut [101] from 70 to 101 (fun c wx => c = .bool b ∧ Hid (Below w3.heap.size w3 wx))
                  case first =>
                    by_cases hd1 : d.kind = 1
                    · have kd : (d.kind : Int) = 1 := by omega
                      rw [kd] at e3
                      have hbb := Lib.hid (show b = (!above o.name d.name && !above d.name o.name) from by rw [← hb, hap.out, decide_eq_true hd1, Bool.true_and])
                      clear hb hd1 kd
                      go_wp2_with fail
                      refine (CX.out _).mono ?_
                      rintro _ w6 ⟨rfl, hb6⟩
                      have HB11 := Lib.hid (HB10.out.trans (hb6.mono HB10.out.size))
                      have e0' := HE0.out w6 HB11.out
                      have f0' := HD0.out w6 hb6
                      have HH6 := Lib.hid hb6
                      clear hb6 e0 f0 e3
                      obtain ⟨q1, hq1⟩ : ∃ q1, above o.name d.name = q1 := ⟨_, rfl⟩
                      rw [hq1] at hbb ⊢
                      replace hq1 := Lib.hid hq1
                      rcases q1 with _ | _
                      · dsimp only []
                        go_wp2_with fail
                        refine (CY.out _).mono ?_
                        rintro _ w7 ⟨rfl, hb7⟩
                        have HB12 := Lib.hid (HB11.out.trans (hb7.mono HB11.out.size))
                        clear hb7
                        dsimp only []
                        go_wp2_with fail
                        go_meet
                        exact ⟨by rw [hbb.out]; simp, HB12⟩
                      · dsimp only []
                        go_wp2_with fail
                        go_meet
                        exact ⟨by rw [hbb.out]; rfl, HB11⟩
                    · have kd : ¬ (d.kind : Int) = 1 := by omega
                      have kb : ((d.kind : Int) == 1) = false := by simpa using kd
                      have hbb := Lib.hid (show b = false from by rw [← hb, decide_eq_false hd1, Bool.false_and])
                      clear hb hd1
                      go_wp2_with fail
                      go_meet
                      exact ⟨by rw [hbb.out], HB10⟩
                  case rest =>
                    obtain ⟨rfl, HC⟩ := hcut
                    clear e0 f0 e3 HB10 HD0
                    rcases b with _ | _
                    rotate_left
                    · have h1 : d.kind = 1 := by
                        have := (Bool.and_eq_true_iff.1 hb).1
                        simpa using this
                      have h16 := Lib.hid (hbad.out (hki3.trans h1) (Bool.and_eq_true_iff.1 hb).2)
                      have HE := Lib.hid (HBy.out.trans (HC.out.mono HBy.out.size))
                      clear hb
                      go_wp2_with fail
                      go_ret
                      exact ⟨by rw [h16.out]; rfl, HE.out⟩
                    · have hok := Lib.hid (show kindC x = 1 → apart l x = false from fun h1 => by
                        rw [hki3] at h1
                        rw [decide_eq_true h1, Bool.true_and] at hb
                        exact hb)
                      clear hb
                      go_wp2_with fail
                      go_roundw
                      case rel =>
                        refine ⟨k + 1, by omega, by go_num, Lib.hid (fun j hj y hy h1 => ?_), HC⟩
                        by_cases hjk : j < k
                        · exact HQ.out j hjk y hy h1
                        · obtain rfl : j = k := by omega
                          rw [hx.out] at hy
                          injection hy with hy
                          subst hy
                          exact hok.out h1
                      case measure => simp [intOf]; omega
                · obtain rfl : i = k := by omega
                  have k1 : ¬ ((i : Int) < (i : Int)) := by omega
                  have HE := Lib.hid (HB7.out.trans (HB8.out.mono hs8))
                  go_wp2_with fail
                  go_roundw
                  case rel =>
                    refine ⟨i + 1, n + 1, by omega, by omega, by go_num, by go_num, Lib.hid ⟨fun h => absurd h (Nat.succ_ne_zero _), fun h => absurd hki.out (h i (Nat.lt_succ_self _) l hl.out)⟩, Lib.hid (fun j hj y hy h1 => ?_), HE⟩
                    by_cases hjk : j < i
                    · exact HP.out j hjk y hy h1
                    · obtain rfl : j = i := by omega
                      rw [hl.out] at hy
                      injection hy with hy
                      subst hy
                      exact HQ.out
                  case measure => simp [intOf]; omega
            · have kd : ¬ (o.kind : Int) = 1 := by omega
              have kb : ((o.kind : Int) != 1) = true := by simpa using kd
              have hkn : kindC l ≠ 1 := by rw [hki]; exact hk1
              replace hki := Lib.hid hki
              replace hkn := Lib.hid hkn
              clear hk1
              go_wp2_with fail
              go_round
              case rel =>
                refine ⟨i + 1, n, by omega, by omega, by go_num, rfl, Lib.hid ⟨fun h j hj y hy => ?_, fun h => HK.out.2 fun j hj y hy => h j (by omega) y hy⟩, Lib.hid (fun j hj y hy h1 => ?_), Lib.hid (by first | exact HB6.out.alloc (by omega) _ | exact (HB6.out.alloc (by omega) _).drew)⟩
                · by_cases hjk : j < i
                  · exact HK.out.1 h j hjk y hy
                  · obtain rfl : j = i := by omega
                    rw [hl.out] at hy
                    injection hy with hy
                    rw [← hy]
                    exact hkn.out
                · by_cases hjk : j < i
                  · exact HP.out j hjk y hy h1
                  · obtain rfl : j = i := by omega
                    rw [hl.out] at hy
                    injection hy with hy
                    rw [← hy] at h1
                    exact absurd h1 hkn.out
              case measure => simp [intOf]; omega
          · obtain rfl : N = i := by omega
            have i1 : ¬ ((N : Int) < (N : Int)) := by omega
            have HBe := Lib.hid (HBw.out.trans (HB5.out.mono HBw.out.size))
            obtain ⟨wz, rfl⟩ : ∃ wz, wz = wr := ⟨_, rfl⟩
            rcases n with _ | n
            · have h16 := Lib.hid (check_16 L T hval.out hva.out (good_none (by rw [hL.out]; exact HK.out.1 rfl)))
              clear HK HP
              go_wp2_with fail
              go_ret
              exact ⟨by rw [h16.out]; rfl, HBe.out⟩
            · have hgd := Lib.hid (show goodC L = true from good_yes (by
                rw [hL.out]
                intro h
                exact absurd (HK.out.2 h) (Nat.succ_ne_zero _)) (by rw [hL.out]; exact HP.out))
              have nz : ¬ ((n : Int) + 1 = 0) := by omega
              have nz' : ((n : Int) + 1 == 0) = false := by simpa using nz
              have nz2 : ¬ (((n + 1 : Nat) : Int) = 0) := by omega
              have nz3 : (((n + 1 : Nat) : Int) == 0) = false := by simpa using nz2
              have SN : Hid (SrcO wz wn.heap.size B c (T.map nameA)) := Lib.hid ((OwnO.src HO.out).below HB5.out)
              have SM : Hid (SrcO wz w1.heap.size A1 c1 (mustD L)) := Lib.hid (s1.out.below ((HB.out).trans (HB5.out.mono hsr)))
              have SR : Hid (SrcO wz w1.heap.size A2 c2 (restD L)) := Lib.hid (s2.out.below ((HB.out).trans (HB5.out.mono hsr)))
              have hTn : Hid ((T.map nameA).length = N') := Lib.hid (by rw [List.length_map, hT.out])
              clear HK HP HO HB5
              go_wp2_with fail
              go_loop [19] (fun iv => ∃ (i : Nat), i ≤ n1 ∧ iv = .int .i64 (i : Int) ∧ Hid (∀ (j : Nat), j < i → ∀ (x : List UInt8), (mustD L)[j]? = some x → x ∈ T.map nameA)) (fun iv => n1 - (intOf iv).toNat)
              case atStart => exact ⟨0, Nat.zero_le _, rfl, Lib.hid (fun j hj => absurd hj (Nat.not_lt_zero _))⟩
              case round =>
                obtain ⟨i, hi4, rfl, HF⟩ := hrel
                by_cases hlt4 : i < n1
                · obtain ⟨ad, x, hA, hx, hcc⟩ := SM.out.get i (by rw [hn1.out]; exact hlt4)
                  have hcell := hcc wz (Below.refl _ _)
                  have i0 : (0 : Int) ≤ (i : Int) := by omega
                  have i1 : (i : Int) < (n1 : Int) := by omega
                  have CH := Lib.hid (refHas_any (baO x) B c N' wn.heap.size (T.map nameA) wz (by omega) hTn.out SN.out)
                  rw [baO_list] at CH
                  subst hA
                  replace hx := Lib.hid hx
                  clear hcc
                  by_cases hin : x ∈ T.map nameA
                  · rw [decide_eq_true hin] at CH
                    replace hin := Lib.hid hin
                    go_wp2_with fail
                    refine CH.out.mono ?_
                    rintro _ w4 ⟨rfl, hw4⟩
                    subst w4
                    clear CH
                    dsimp only []
                    go_wp2_with fail
                    go_round
                    case rel =>
                      refine ⟨i + 1, by omega, by go_num, Lib.hid (fun j hj y hy => ?_)⟩
                      by_cases hjk : j < i
                      · exact HF.out j hjk y hy
                      · obtain rfl : j = i := by omega
                        rw [hx.out] at hy
                        injection hy with hy
                        rw [← hy]
                        exact hin.out
                    case measure => simp [intOf]; omega
                  · rw [decide_eq_false hin] at CH
                    have h11 := Lib.hid (check_11 L T hval.out hva.out hgd.out x (List.mem_of_getElem? hx.out) hin)
                    clear hin
                    go_wp2_with fail
                    refine CH.out.mono ?_
                    rintro _ w4 ⟨rfl, hw4⟩
                    subst w4
                    clear CH
                    dsimp only []
                    go_wp2_with fail
                    go_ret
                    exact ⟨by rw [h11.out]; rfl, HBe.out⟩
                · obtain rfl : n1 = i := by omega
                  have i1 : ¬ ((n1 : Int) < (n1 : Int)) := by omega
                  have hall := Lib.hid (show ∀ x ∈ mustD L, x ∈ T.map nameA from fun x hx => by
                    obtain ⟨j, hj, e⟩ := List.mem_iff_getElem.1 hx
                    exact HF.out j (by rw [← hn1.out]; exact hj) x (by rw [List.getElem?_eq_getElem hj, e]))
                  clear HF
                  go_wp2_with fail
                  go_loop [20] (fun iv => ∃ (i : Nat), i ≤ N' ∧ iv = .int .i64 (i : Int) ∧ Hid (∀ (j : Nat), j < i → ∀ (x : List UInt8), (T.map nameA)[j]? = some x → x ∈ mustD L ∨ x ∈ restD L)) (fun iv => N' - (intOf iv).toNat)
                  case atStart => exact ⟨0, Nat.zero_le _, rfl, Lib.hid (fun j hj => absurd hj (Nat.not_lt_zero _))⟩
                  case round =>
                    obtain ⟨i, hi5, rfl, HF⟩ := hrel
                    by_cases hlt5 : i < N'
                    · obtain ⟨ad, x, hA, hx, hcc⟩ := SN.out.get i (by rw [hTn.out]; exact hlt5)
                      have hcell := hcc wz (Below.refl _ _)
                      have i0 : (0 : Int) ≤ (i : Int) := by omega
                      have i1 : (i : Int) < (N' : Int) := by omega
                      have CH := Lib.hid (refHas_any (baO x) A1 c1 n1 w1.heap.size (mustD L) wz (by omega) hn1.out SM.out)
                      have CH2 := Lib.hid (refHas_any (baO x) A2 c2 n2 w1.heap.size (restD L) wz (by omega) hn2.out SR.out)
                      rw [baO_list] at CH CH2
                      subst hA
                      replace hx := Lib.hid hx
                      clear hcc
                      have hgo := Lib.hid (show (x ∈ mustD L ∨ x ∈ restD L) → ∀ j, j < i + 1 → ∀ y, (T.map nameA)[j]? = some y → y ∈ mustD L ∨ y ∈ restD L from fun h j hj y hy => by
                        by_cases hjk : j < i
                        · exact HF.out j hjk y hy
                        · obtain rfl : j = i := by omega
                          rw [hx.out] at hy
                          injection hy with hy
                          rw [← hy]
                          exact h)
                      by_cases hin : x ∈ mustD L
                      · rw [decide_eq_true hin] at CH
                        have hgo' := Lib.hid (hgo.out (.inl hin))
                        clear hin CH2 hgo
                        go_wp2_with fail
                        refine CH.out.mono ?_
                        rintro _ w4 ⟨rfl, hw4⟩
                        subst w4
                        clear CH
                        dsimp only []
                        go_wp2_with fail
                        go_round
                        case rel => exact ⟨i + 1, by omega, by go_num, hgo'⟩
                        case measure => simp [intOf]; omega
                      · rw [decide_eq_false hin] at CH
                        by_cases hin2 : x ∈ restD L
                        · rw [decide_eq_true hin2] at CH2
                          have hgo' := Lib.hid (hgo.out (.inr hin2))
                          clear hin hin2 hgo
                          go_wp2_with fail
                          refine CH.out.mono ?_
                          rintro _ w4 ⟨rfl, hw4⟩
                          subst w4
                          clear CH
                          dsimp only []
                          go_wp2_with fail
                          refine CH2.out.mono ?_
                          rintro _ w4 ⟨rfl, hw4⟩
                          subst w4
                          clear CH2
                          dsimp only []
                          go_wp2_with fail
                          go_round
                          case rel => exact ⟨i + 1, by omega, by go_num, hgo'⟩
                          case measure => simp [intOf]; omega
                        · rw [decide_eq_false hin2] at CH2
                          have h2 := Lib.hid (check_2 L T hval.out hva.out hgd.out hall.out x (List.mem_of_getElem? hx.out) hin hin2)
                          clear hin hin2 hgo
                          go_wp2_with fail
                          refine CH.out.mono ?_
                          rintro _ w4 ⟨rfl, hw4⟩
                          subst w4
                          clear CH
                          dsimp only []
                          go_wp2_with fail
                          refine CH2.out.mono ?_
                          rintro _ w4 ⟨rfl, hw4⟩
                          subst w4
                          clear CH2
                          dsimp only []
                          go_wp2_with fail
                          go_ret
                          exact ⟨by rw [h2.out]; rfl, HBe.out⟩
                    · obtain rfl : N' = i := by omega
                      have i1 : ¬ ((N' : Int) < (N' : Int)) := by omega
                      have h0 := Lib.hid (check_0 L T hval.out hva.out hgd.out hall.out fun x hx => by
                        obtain ⟨j, hj, e⟩ := List.mem_iff_getElem.1 hx
                        exact HF.out j (by rw [← hTn.out]; exact hj) x (by rw [List.getElem?_eq_getElem hj, e]))
                      clear HF
                      go_wp2_with fail
                      go_ret
                      exact ⟨by rw [h0.out]; rfl, HBe.out⟩
end Go.Proofs.YtllmffmmfpecaaaDoor
