/-
  The document's All.
-/
import Derived.Test.YtllmffmmfpecaaaDoorAbove8
import Derived.Test.YtllmffmmfpecaaaDoorMB8
import Derived.StillTailTactics
import Derived.Deep.QuietTactic
import Derived.BigQuiet
namespace Go.Proofs.YtllmffmmfpecaaaDoor
open Go.RowKit

set_option maxRecDepth 8000 in
set_option maxHeartbeats 8000000 in
theorem refAll_any (A : Option Addr) (cp N : Nat) (L : List (List UInt8)) (w : World) (hN : N ≤ 1000) (hL : L.length = N) (hsrc : SrcO w w.heap.size A cp L) (hlen : ∀ l ∈ L, l.length ≤ 600) :
    Calls Tryd.prog 19 #[.slice A N cp] w fun e w' => AllS L e w' ∧ Below w.heap.size w w' := by
  have hget : Hid (∀ k, k < N → ∃ ad l, A = some ad ∧ L[k]? = some l ∧ l.length ≤ 600 ∧ ∀ W, Below w.heap.size w W → W.cell? (ad.add k) = some (.string (baO l))) := Lib.hid fun k hk => by
    obtain ⟨ad, l, h1, h2, h3⟩ := hsrc.get k (by omega)
    exact ⟨ad, l, h1, h2, hlen l (List.mem_of_getElem? h2), h3⟩
  replace hL := Lib.hid hL
  clear hsrc hlen
  go_enter Tryd.func19, Tryd.ntmps19
  go_wp2_with fail
  go_loopw [7] (fun iv wr => ∃ i : Nat, i ≤ N ∧ iv = .int .i64 (i : Int) ∧ Hid (∀ j < i, ∀ l, L[j]? = some l → (findC l).isSome = true) ∧ Hid (Below w.heap.size w wr)) (fun iv _ => N - (intOf iv).toNat)
  case atStart => exact ⟨0, Nat.zero_le _, rfl, Lib.hid (fun j hj => absurd hj (Nat.not_lt_zero _)), Lib.hid (Below.refl _ _)⟩
  case round =>
    obtain ⟨i, hi, rfl, HV, HB⟩ := hrel
    have hsr := HB.out.size
    by_cases hlt : i < N
    · obtain ⟨ad, l, hA, hl, hz, hc⟩ := hget.out i hlt
      have hcell := hc wr HB.out
      have i0 : (0 : Int) ≤ (i : Int) := by omega
      have i1 : (i : Int) < (N : Int) := by omega
      have CF := Lib.hid (refFindClass_any (baO l) wr (by rw [baO_size]; exact hz))
      rw [baO_list] at CF
      obtain ⟨o, ho⟩ : ∃ o, findC l = o := ⟨_, rfl⟩
      rw [ho] at CF
      subst hA
      replace ho := Lib.hid ho
      replace hl := Lib.hid hl
      replace hc := Lib.hid hc
      go_wp2_with fail
      refine CF.out.mono ?_
      rintro e2 w2 ⟨hF, hb2⟩
      clear CF
      have HB2 := Lib.hid (HB.out.trans (hb2.mono hsr))
      have hs2 := hb2.size
      clear hb2 hcell
      rcases o with _ | c
      · obtain rfl : e2 = _ := hF
        have hno := Lib.hid (valid_no hl.out ho.out)
        dsimp only []
        go_wp2_with fail
        exact bodyPost_ret (v := .tuple #[.slice none 0 0, .slice none 0 0, .int .i64 13]) (by simp [results, Tryd.results19, go_sem]) rfl ⟨AllS.no hno.out, by first | exact HB2.out.alloc (by omega) _ | exact (HB2.out.alloc (by omega) _).drew⟩
      · obtain ⟨A1, c1, A2, c2, rfl, _, _⟩ := hF
        dsimp only []
        go_wp2_with fail
        go_round
        case rel =>
          refine ⟨i + 1, by omega, by go_num, Lib.hid (fun j hj m hm => ?_), Lib.hid (by first | exact HB2.out.alloc (by omega) _ | exact (HB2.out.alloc (by omega) _).drew)⟩
          by_cases hjk : j < i
          · exact HV.out j hjk m hm
          · obtain rfl : j = i := by omega
            rw [hl.out] at hm
            injection hm with hm
            rw [← hm, ho.out]
            rfl
        case measure => simp [intOf]; omega
    · obtain rfl : N = i := by omega
      have hval := Lib.hid (valid_yes (L := L) (by rw [hL.out]; exact HV.out))
      have i1 : ¬ ((N : Int) < (N : Int)) := by omega
      obtain ⟨wv, rfl⟩ : ∃ wv, wv = wr := ⟨_, rfl⟩
      go_wp2_with fail
      refine (refClasses_any _).mono ?_
      rintro _ w1 ⟨rfl, hw1⟩
      have HT : Hid (ClsS w1 wv.heap.size w1.heap.size (wv.heap.size + 16)) := Lib.hid (by
        have h2 := clsS_new wv
        have h3 : w1.heap.size = wv.heap.size + 17 := by
          rw [hw1, allocs_size]
          rfl
        rw [h3, hw1]
        exact h2)
      have HB1 : Hid (Below w.heap.size w w1) := Lib.hid (by
        rw [hw1]
        exact HB.out.trans (allocs_below _ _ _ hsr))
      have hs1 : wv.heap.size + 17 = w1.heap.size := by
        rw [hw1, allocs_size]
        rfl
      clear hw1
      obtain ⟨g, hg⟩ : ∃ g, g = wv.heap.size + 16 := ⟨_, rfl⟩
      obtain ⟨bv, hbv⟩ : ∃ bv, bv = wv.heap.size := ⟨_, rfl⟩
      rw [← hg] at HT ⊢
      rw [← hbv] at HT
      have hgw : g < w1.heap.size := by omega
      clear HB HV hg hbv hs1
      go_wp2_with fail
      go_loopw [5, 6, 11] (fun mv yv kv wr => ∃ (k n1 n2 c1 c2 : Nat) (B1 B2 : Option Addr), k ≤ 10 ∧ kv = .int .i64 (k : Int) ∧ mv = .slice B1 n1 c1 ∧ yv = .slice B2 n2 c2 ∧ Hid ((gatK Cl.must L k).length = n1) ∧ Hid ((gatK Cl.may L k).length = n2) ∧ Hid (SrcO wr wr.heap.size B1 c1 (gatK Cl.must L k)) ∧ Hid (SrcO wr wr.heap.size B2 c2 (gatK Cl.may L k)) ∧ Hid (Below w1.heap.size w1 wr)) (fun _ _ kv _ => 10 - (intOf kv).toNat)
      case atStart => exact ⟨0, 0, 0, 0, 0, none, none, Nat.zero_le _, rfl, rfl, rfl, Lib.hid rfl, Lib.hid rfl, Lib.hid (SrcO.none_ _ _), Lib.hid (SrcO.none_ _ _), Lib.hid (Below.refl _ _)⟩
      case round =>
        obtain ⟨k, n1, n2, cm, cy, B1, B2, hk, rfl, rfl, rfl, HN1, HN2, HS1, HS2, HB⟩ := hrel
        have hsr := HB.out.size
        obtain ⟨wo, rfl⟩ : ∃ wo, wo = wr := ⟨_, rfl⟩
        by_cases hlt : k < 10
        · obtain ⟨c, hc⟩ : ∃ c, clss[k]? = some c := ⟨clss[k]'hlt, List.getElem?_eq_getElem _⟩
          have k0 : (0 : Int) ≤ (k : Int) := by omega
          have k1 : (k : Int) < 10 := by omega
          have HTo := Lib.hid (HT.out.below HB.out)
          have HBo := Lib.hid (HB1.out.trans (HB.out.mono HB1.out.size))
          have hfew := Lib.hid (cls_few c (List.mem_of_getElem? hc))
          have hcl := Lib.hid (cls_len c (List.mem_of_getElem? hc))
          replace hc := Lib.hid hc
          go_wp2_with fail
          go_loopw [12, 13] (fun bv iv wr => ∃ (i : Nat) (q : Bool), i ≤ N ∧ iv = .int .i64 (i : Int) ∧ bv = .bool q ∧ Hid (meant c.name (L.take i) = q) ∧ Hid (Below wo.heap.size wo wr)) (fun _ iv _ => N - (intOf iv).toNat)
          case atStart => exact ⟨0, false, Nat.zero_le _, rfl, rfl, Lib.hid rfl, Lib.hid (Below.refl _ _)⟩
          case round =>
            obtain ⟨i, q, hi, rfl, rfl, HQ, HB3⟩ := hrel
            have hs3 := HB3.out.size
            by_cases hltN : i < N
            · obtain ⟨ad, l, hA, hl, hz, hcc⟩ := hget.out i hltN
              have HBw := Lib.hid (HBo.out.trans (HB3.out.mono HBo.out.size))
              have hcell := hcc wr HBw.out
              have i0 : (0 : Int) ≤ (i : Int) := by omega
              have i1 : (i : Int) < (N : Int) := by omega
              have CF := Lib.hid (refFindClass_any (baO l) wr (by rw [baO_size]; exact hz))
              rw [baO_list] at CF
              obtain ⟨o, ho⟩ : ∃ o, findC l = some o := by
                have := List.all_eq_true.1 hval.out l (List.mem_of_getElem? hl)
                exact Option.isSome_iff_exists.1 this
              rw [ho] at CF
              have hna : nameC l = o.name := by unfold nameC; rw [ho]
              have hol := (findC_len ho).1
              subst hA
              replace ho := Lib.hid ho
              have hmn := Lib.hid (meant_cons c.name L i l hl)
              replace hl := Lib.hid hl
              replace hcc := Lib.hid hcc
              replace hna := Lib.hid hna
              go_wp2_with fail
              refine CF.out.mono ?_
              rintro e2 w2 ⟨hF, hb2⟩
              clear CF
              obtain ⟨A1, c1, A2, c2, rfl, _, _⟩ := hF
              have HB2 := Lib.hid (HB3.out.trans (hb2.mono hs3))
              have hs2 := hb2.size
              clear hb2 hcell
              have d0 := (HTo.out.below ((HB2.out).mono hsr)).2.2 k c hc.out
              obtain ⟨_, _, _, _, d0, _⟩ := d0
              dsimp only []
              go_wp2_with fail
              obtain ⟨w3, hw3⟩ : ∃ w3, w3 = w2.alloc (.cells #[.string (baO o.name), .string (baO o.oid), .string (baO o.super), .int .i64 (o.kind : Int), .slice A1 o.must.length c1, .slice A2 o.may.length c2] 34) := ⟨_, rfl⟩
              rw [← hw3]
              have HB4 : Hid (Below wo.heap.size wo w3) := Lib.hid (by
                rw [hw3]
                exact HB2.out.alloc (by omega) _)
              have e0 : w3.cell? ⟨g, k * 6, none⟩ = some (.string (baO c.name)) := by
                rw [hw3, World.cell?_alloc_lt _ _ _ (by show g < _; omega)]
                exact d0
              have e1 : w3.cell? ⟨w2.heap.size, 0, none⟩ = some (.string (baO o.name)) := by
                rw [hw3]
                simp
              have hw3s : wo.heap.size ≤ w3.heap.size := HB4.out.size
              have CA := Lib.hid fun W => refAbove_any c.name o.name W (by omega)
              clear hw3 d0
              rcases q with _ | _
              · go_still_tail 9, (by kernel_rfl)
                go_wp2_with fail
                refine (CA.out _).mono ?_
                rintro _ w4 ⟨rfl, hb4⟩
                have HB5 := Lib.hid ((HB4.out.drew).trans (hb4.mono (by show _ ≤ w3.heap.size; omega)))
                have hmq : Hid (meant c.name (L.take (i + 1)) = above c.name o.name) := Lib.hid (by rw [hmn.out, HQ.out, hna.out, Bool.false_or])
                clear hb4
                dsimp only []
                go_wp2_with fail
                go_round
                case rel => exact ⟨i + 1, _, by omega, by go_num, rfl, hmq, HB5⟩
                case measure => simp [intOf]; omega
              · have hmq : Hid (meant c.name (L.take (i + 1)) = true) := Lib.hid (by rw [hmn.out, HQ.out, Bool.true_or])
                go_quiet (fail)
                go_wp2_with fail
                go_round
                case rel => exact ⟨i + 1, _, by omega, by go_num, rfl, hmq, Lib.hid (by first | exact HB4.out | exact HB4.out.drewN _ | exact below_drewN8 HB4.out _)⟩
                case measure => simp [intOf]; omega
            · have hmL : Hid (meant c.name L = q) := Lib.hid (by
                have := HQ.out
                rwa [List.take_of_length_le (by rw [hL.out]; exact Nat.le_of_eq (by omega))] at this)
              obtain rfl : N = i := by omega
              have i1 : ¬ ((N : Int) < (N : Int)) := by omega
              obtain ⟨wi, rfl⟩ : ∃ wi, wi = wr := ⟨_, rfl⟩
              have HB14 : Hid (Below w1.heap.size w1 wi) := Lib.hid (HB.out.trans (HB3.out.mono hsr))
              have HB4 : Hid (Below wo.heap.size wo wi) := HB3
              obtain ⟨M4, hM4⟩ : ∃ M, c.must = M := ⟨_, rfl⟩
              obtain ⟨m4, hm4⟩ : ∃ m, M4.length = m := ⟨_, rfl⟩
              have hm49 : m4 ≤ 9 := by rw [← hm4, ← hM4]; exact hfew.out.1
              have hMx4 : Hid (∀ x ∈ M4, x.length ≤ 60) := Lib.hid (by rw [← hM4]; exact hfew.out.2.2.1)
              obtain ⟨G4, hG4⟩ : ∃ G, gatK Cl.must L k = G := ⟨_, rfl⟩
              have hg4 : n1 ≤ 90 := by
                rw [← HN1.out]
                have := gatK_len Cl.must (fun c hc => (cls_few c hc).1) L k (by omega)
                omega
              have hT4 : Hid (∀ W, Below w1.heap.size w1 W → ∃ A1 c1, W.cell? ⟨g, k * 6 + 4, none⟩ = some (.slice A1 m4 c1) ∧ SrcO W w1.heap.size A1 c1 M4) := Lib.hid fun W hW => by
                obtain ⟨A1, c1, A2, c2, _, _, _, _, d4, d5, s1, s2, _, _⟩ := (HT.out.below hW).2.2 k c hc.out
                rw [← hm4, ← hM4]
                exact ⟨_, _, d4, s1⟩
              rw [hG4] at HN1 HS1
              replace hM4 := Lib.hid hM4
              replace hG4 := Lib.hid hG4
              replace hm4 := Lib.hid hm4
              go_wp2_with fail
              go_loopw [5, 16] (fun mv jv wr => ∃ (j n c' : Nat) (B : Option Addr), j ≤ m4 ∧ jv = .int .i64 (j : Int) ∧ mv = .slice B n c' ∧ n ≤ 90 + j ∧ Hid (((M4.take j).foldl putS G4).length = n) ∧ Hid (SrcO wr wr.heap.size B c' ((M4.take j).foldl putS G4)) ∧ Hid (q = false → j = 0) ∧ Hid (Below wi.heap.size wi wr)) (fun _ jv _ => m4 - (intOf jv).toNat)
              case atStart => exact ⟨0, n1, cm, B1, Nat.zero_le _, rfl, rfl, by omega, HN1, Lib.hid ((HS1.out.below HB4.out).more HB4.out.size), Lib.hid (fun _ => rfl), Lib.hid (Below.refl _ _)⟩
              case round =>
                obtain ⟨j, n, c', B, hj, rfl, rfl, hn, HNn, HSn, HJ, HBn⟩ := hrel
                have hsn := HBn.out.size
                obtain ⟨b, hb⟩ : ∃ b, (q && decide (j < m4)) = b := ⟨_, rfl⟩
                have HBt := Lib.hid (HB14.out.trans (HBn.out.mono HB14.out.size))
                obtain ⟨A1, c1, d4, s4⟩ := hT4.out wr HBt.out
                have j0 : (0 : Int) ≤ (j : Int) := by omega
                replace s4 := Lib.hid s4
                go_upto_region 19 with fail
                go_cut [78] from 68 to 90 (fun c wx => c = .bool b ∧ wr = wx)
                case first =>
                  rcases q with _ | _
                  · go_wp2_with fail
                    go_meet
                    exact ⟨by rw [← hb]; rfl, rfl⟩
                  · by_cases hjm : j < m4
                    · have j1 : (j : Int) < (m4 : Int) := by omega
                      have hb' := Lib.hid (hb.symm.trans (show (true && decide (j < m4)) = true by simp [hjm]))
                      clear hb
                      go_wp2_with fail
                      go_meet
                      exact ⟨by rw [hb'.out], rfl⟩
                    · have j1 : ¬ ((j : Int) < (m4 : Int)) := by omega
                      have j2 : decide ((j : Int) < (m4 : Int)) = false := decide_eq_false j1
                      have hb' := Lib.hid (hb.symm.trans (show (true && decide (j < m4)) = false by simp [hjm]))
                      clear hb
                      go_wp2_with fail
                      go_meet
                      exact ⟨by rw [hb'.out], rfl⟩
                case rest =>
                  obtain ⟨rfl, rfl⟩ := hcut
                  rcases b with _ | _
                  rotate_left
                  · have hjm : j < m4 := by
                      have := (Bool.and_eq_true_iff.1 hb).2
                      simpa using this
                    have hq : q = true := (Bool.and_eq_true_iff.1 hb).1
                    clear hb
                    have j1 : (j : Int) < (m4 : Int) := by omega
                    obtain ⟨ad, l, hA, hl, hx⟩ := s4.out.get j (by rw [hm4.out]; exact hjm)
                    have hcell := hx wr (Below.refl _ _)
                    have CP := Lib.hid (refPut8_any l B c' n ((M4.take j).foldl putS G4) wr (by omega) HNn.out HSn.out)
                    have hst := Lib.hid (show (M4.take (j + 1)).foldl putS G4 = putS ((M4.take j).foldl putS G4) l from by
                      rw [(List.take_append_getElem (by rw [hm4.out]; exact hjm)).symm, List.foldl_append, (List.getElem?_eq_some_iff.1 hl).2]
                      rfl)
                    have hle := putS_len ((M4.take j).foldl putS G4) l
                    rw [HNn.out] at hle
                    rw [← hst.out] at CP hle
                    subst hA
                    clear hl hx
                    replace hq := Lib.hid hq
                    obtain ⟨n', hn'⟩ : ∃ n', ((M4.take (j + 1)).foldl putS G4).length = n' := ⟨_, rfl⟩
                    rw [hn'] at CP hle
                    replace hn' := Lib.hid hn'
                    go_wp2_with fail
                    refine CP.out.mono ?_
                    rintro _ w4 ⟨A', c'', rfl, hs', hb4⟩
                    have HB4 := Lib.hid (HBn.out.trans (hb4.mono hsn))
                    replace hs' := Lib.hid hs'
                    clear hb4 CP hcell
                    dsimp only []
                    go_wp2_with fail
                    go_roundw
                    case rel => exact ⟨j + 1, n', c'', A', by omega, by go_num, rfl, by omega, hn', hs', Lib.hid (fun h => by rw [hq.out] at h; cases h), HB4⟩
                    case measure => simp [intOf]; omega
                  · have HF4 : Hid ((M4.take j).foldl putS G4 = gatK Cl.must L (k + 1)) := Lib.hid (by
                      rw [gatK_succ Cl.must L k c hc.out, hG4.out, hmL.out, hM4.out]
                      rcases q with _ | _
                      · rw [HJ.out rfl]
                        rfl
                      · have hjm : ¬ j < m4 := by simpa using hb
                        rw [List.take_of_length_le (by rw [hm4.out]; omega)]
                        rfl)
                    rw [HF4.out] at HNn HSn
                    clear hb HJ s4 d4
                    obtain ⟨wj, rfl⟩ : ∃ wj, wj = wr := ⟨_, rfl⟩
                    have HB15 : Hid (Below w1.heap.size w1 wj) := Lib.hid (HB14.out.trans (HBn.out.mono HB14.out.size))
                    have HB5 : Hid (Below wo.heap.size wo wj) := Lib.hid (HB4.out.trans (HBn.out.mono HB4.out.size))
                    have HN5 := HNn
                    have HS5 := HSn
                    obtain ⟨n5, hn5⟩ : ∃ n5, n5 = n := ⟨_, rfl⟩
                    obtain ⟨c5, hc5⟩ : ∃ c5, c5 = c' := ⟨_, rfl⟩
                    obtain ⟨B5, hB5⟩ : ∃ B5, B5 = B := ⟨_, rfl⟩
                    rw [← hn5] at HN5 ⊢
                    rw [← hB5, ← hc5] at HS5 ⊢
                    clear HBn HNn HSn hn hn5 hc5 hB5
                    obtain ⟨M5, hM5⟩ : ∃ M, c.may = M := ⟨_, rfl⟩
                    obtain ⟨m5, hm5⟩ : ∃ m, M5.length = m := ⟨_, rfl⟩
                    have hm59 : m5 ≤ 9 := by rw [← hm5, ← hM5]; exact hfew.out.2.1
                    have hMx5 : Hid (∀ x ∈ M5, x.length ≤ 60) := Lib.hid (by rw [← hM5]; exact hfew.out.2.2.2)
                    obtain ⟨G5, hG5⟩ : ∃ G, gatK Cl.may L k = G := ⟨_, rfl⟩
                    have hg5 : n2 ≤ 90 := by
                      rw [← HN2.out]
                      have := gatK_len Cl.may (fun c hc => (cls_few c hc).2.1) L k (by omega)
                      omega
                    have hT5 : Hid (∀ W, Below w1.heap.size w1 W → ∃ A1 c1, W.cell? ⟨g, k * 6 + 5, none⟩ = some (.slice A1 m5 c1) ∧ SrcO W w1.heap.size A1 c1 M5) := Lib.hid fun W hW => by
                      obtain ⟨A1, c1, A2, c2, _, _, _, _, d4, d5, s1, s2, _, _⟩ := (HT.out.below hW).2.2 k c hc.out
                      rw [← hm5, ← hM5]
                      exact ⟨_, _, d5, s2⟩
                    rw [hG5] at HN2 HS2
                    replace hM5 := Lib.hid hM5
                    replace hG5 := Lib.hid hG5
                    replace hm5 := Lib.hid hm5
                    go_wp2_with fail
                    go_loopw [6, 17] (fun mv jv wr => ∃ (j n c' : Nat) (B : Option Addr), j ≤ m5 ∧ jv = .int .i64 (j : Int) ∧ mv = .slice B n c' ∧ n ≤ 90 + j ∧ Hid (((M5.take j).foldl putS G5).length = n) ∧ Hid (SrcO wr wr.heap.size B c' ((M5.take j).foldl putS G5)) ∧ Hid (q = false → j = 0) ∧ Hid (Below wj.heap.size wj wr)) (fun _ jv _ => m5 - (intOf jv).toNat)
                    case atStart => exact ⟨0, n2, cy, B2, Nat.zero_le _, rfl, rfl, by omega, HN2, Lib.hid ((HS2.out.below HB5.out).more HB5.out.size), Lib.hid (fun _ => rfl), Lib.hid (Below.refl _ _)⟩
                    case round =>
                      obtain ⟨j, n, c', B, hj, rfl, rfl, hn, HNn, HSn, HJ, HBn⟩ := hrel
                      have hsn := HBn.out.size
                      obtain ⟨b, hb⟩ : ∃ b, (q && decide (j < m5)) = b := ⟨_, rfl⟩
                      have HBt := Lib.hid (HB15.out.trans (HBn.out.mono HB15.out.size))
                      obtain ⟨A1, c1, d4, s4⟩ := hT5.out wr HBt.out
                      have j0 : (0 : Int) ≤ (j : Int) := by omega
                      replace s4 := Lib.hid s4
                      go_upto_region 23 with fail
                      go_cut [101] from 91 to 113 (fun c wx => c = .bool b ∧ wr = wx)
                      case first =>
                        rcases q with _ | _
                        · go_wp2_with fail
                          go_meet
                          exact ⟨by rw [← hb]; rfl, rfl⟩
                        · by_cases hjm : j < m5
                          · have j1 : (j : Int) < (m5 : Int) := by omega
                            have hb' := Lib.hid (hb.symm.trans (show (true && decide (j < m5)) = true by simp [hjm]))
                            clear hb
                            go_wp2_with fail
                            go_meet
                            exact ⟨by rw [hb'.out], rfl⟩
                          · have j1 : ¬ ((j : Int) < (m5 : Int)) := by omega
                            have j2 : decide ((j : Int) < (m5 : Int)) = false := decide_eq_false j1
                            have hb' := Lib.hid (hb.symm.trans (show (true && decide (j < m5)) = false by simp [hjm]))
                            clear hb
                            go_wp2_with fail
                            go_meet
                            exact ⟨by rw [hb'.out], rfl⟩
                      case rest =>
                        obtain ⟨rfl, rfl⟩ := hcut
                        rcases b with _ | _
                        rotate_left
                        · have hjm : j < m5 := by
                            have := (Bool.and_eq_true_iff.1 hb).2
                            simpa using this
                          have hq : q = true := (Bool.and_eq_true_iff.1 hb).1
                          clear hb
                          have j1 : (j : Int) < (m5 : Int) := by omega
                          obtain ⟨ad, l, hA, hl, hx⟩ := s4.out.get j (by rw [hm5.out]; exact hjm)
                          have hcell := hx wr (Below.refl _ _)
                          have CP := Lib.hid (refPut8_any l B c' n ((M5.take j).foldl putS G5) wr (by omega) HNn.out HSn.out)
                          have hst := Lib.hid (show (M5.take (j + 1)).foldl putS G5 = putS ((M5.take j).foldl putS G5) l from by
                            rw [(List.take_append_getElem (by rw [hm5.out]; exact hjm)).symm, List.foldl_append, (List.getElem?_eq_some_iff.1 hl).2]
                            rfl)
                          have hle := putS_len ((M5.take j).foldl putS G5) l
                          rw [HNn.out] at hle
                          rw [← hst.out] at CP hle
                          subst hA
                          clear hl hx
                          replace hq := Lib.hid hq
                          obtain ⟨n', hn'⟩ : ∃ n', ((M5.take (j + 1)).foldl putS G5).length = n' := ⟨_, rfl⟩
                          rw [hn'] at CP hle
                          replace hn' := Lib.hid hn'
                          go_wp2_with fail
                          refine CP.out.mono ?_
                          rintro _ w4 ⟨A', c'', rfl, hs', hb4⟩
                          have HB4 := Lib.hid (HBn.out.trans (hb4.mono hsn))
                          replace hs' := Lib.hid hs'
                          clear hb4 CP hcell
                          dsimp only []
                          go_wp2_with fail
                          go_roundw
                          case rel => exact ⟨j + 1, n', c'', A', by omega, by go_num, rfl, by omega, hn', hs', Lib.hid (fun h => by rw [hq.out] at h; cases h), HB4⟩
                          case measure => simp [intOf]; omega
                        · have HF5 : Hid ((M5.take j).foldl putS G5 = gatK Cl.may L (k + 1)) := Lib.hid (by
                            rw [gatK_succ Cl.may L k c hc.out, hG5.out, hmL.out, hM5.out]
                            rcases q with _ | _
                            · rw [HJ.out rfl]
                              rfl
                            · have hjm : ¬ j < m5 := by simpa using hb
                              rw [List.take_of_length_le (by rw [hm5.out]; omega)]
                              rfl)
                          rw [HF5.out] at HNn HSn
                          clear hb HJ s4 d4
                          have HB6 := Lib.hid (HB15.out.trans (HBn.out.mono HB15.out.size))
                          have HS6 := Lib.hid ((HS5.out.below HBn.out).more HBn.out.size)
                          go_wp2_with fail
                          go_roundw
                          case rel => exact ⟨k + 1, n5, n, c5, c', B5, B, by omega, by go_num, rfl, rfl, HN5, HNn, HS6, HSn, HB6⟩
                          case measure => simp [intOf]; omega
        · obtain rfl : k = 10 := by omega
          have k1 : ¬ (((10 : Nat) : Int) < 10) := by omega
          have HBo := Lib.hid (HB1.out.trans (HB.out.mono HB1.out.size))
          have HM : Hid (SrcO wo wo.heap.size B1 cm (mustD L)) := HS1
          have HMn : Hid ((mustD L).length = n1) := HN1
          obtain ⟨Y, hY⟩ : ∃ Y, gatK Cl.may L 10 = Y := ⟨_, rfl⟩
          have hYn : n2 ≤ 90 := by
            rw [← HN2.out]
            exact gatK_len Cl.may (fun c hc => (cls_few c hc).2.1) L 10 (Nat.le_refl _)
          have hMn1 : n1 ≤ 90 := by
            rw [← HN1.out]
            exact gatK_len Cl.must (fun c hc => (cls_few c hc).1) L 10 (Nat.le_refl _)
          rw [hY] at HN2 HS2
          have hrest : Hid (Y.filter (fun x => decide (x ∉ mustD L)) = restD L) := Lib.hid (by rw [← hY]; rfl)
          clear HN1 HS1 hY HT
          obtain ⟨p, hp⟩ : ∃ p : List UInt8 → Bool, p = fun x => decide (x ∉ mustD L) := ⟨_, rfl⟩
          rw [← hp] at hrest
          have hpt : Hid (∀ x, p x = !decide (x ∈ mustD L)) := Lib.hid fun x => by rw [hp]; by_cases h : x ∈ mustD L <;> simp [h]
          clear hp
          go_wp2_with fail
          go_loopw [18, 19] (fun rv iv wr => ∃ (i n c' : Nat) (B : Option Addr), i ≤ n2 ∧ iv = .int .i64 (i : Int) ∧ rv = .slice B n c' ∧ n ≤ i ∧ Hid (((Y.take i).filter p).length = n) ∧ Hid (OwnO wr wo.heap.size (.slice B n c') ((Y.take i).filter p)) ∧ Hid (Below wo.heap.size wo wr)) (fun _ iv _ => n2 - (intOf iv).toNat)
          case atStart => exact ⟨0, 0, 0, none, Nat.zero_le _, rfl, rfl, Nat.le_refl _, Lib.hid rfl, Lib.hid (OwnO.nil _ _), Lib.hid (Below.refl _ _)⟩
          case round =>
            obtain ⟨i, n, c', B, hi, rfl, rfl, hn, HNn, HOn, HBn⟩ := hrel
            have hsn := HBn.out.size
            by_cases hlt : i < n2
            · have i0 : (0 : Int) ≤ (i : Int) := by omega
              have i1 : (i : Int) < (n2 : Int) := by omega
              obtain ⟨ad, l, hA, hl, hx⟩ := HS2.out.get i (by rw [HN2.out]; exact hlt)
              have hcell := hx wr HBn.out
              have CH := Lib.hid (refHas_any (baO l) B1 cm n1 wo.heap.size (mustD L) wr (by omega) HMn.out (HM.out.below HBn.out))
              rw [baO_list] at CH
              have hst := Lib.hid (show (Y.take (i + 1)).filter p = (Y.take i).filter p ++ (if p l = true then [l] else []) from by
                rw [(List.take_append_getElem (by rw [HN2.out]; exact hlt)).symm, List.filter_append, (List.getElem?_eq_some_iff.1 hl).2]
                congr 1
                rw [List.filter_cons]
                rfl)
              obtain ⟨z, hz⟩ : ∃ z, decide (l ∈ mustD L) = z := ⟨_, rfl⟩
              have hpl := Lib.hid (hpt.out l)
              rw [hz] at hpl CH
              subst hA
              clear hl hx hz
              go_wp2_with fail
              refine CH.out.mono ?_
              rintro _ w4 ⟨rfl, hw4⟩
              subst w4
              clear CH
              rcases z with _ | _
              · have hst2 := Lib.hid (show (Y.take (i + 1)).filter p = (Y.take i).filter p ++ [l] from by rw [hst.out, hpl.out]; rfl)
                have hlen2 : Hid (((Y.take (i + 1)).filter p).length = n + 1) := Lib.hid (by rw [hst2.out, List.length_append, HNn.out]; rfl)
                dsimp only []
                go_wp2_with (at_builtin; refine append_strs rfl (.tmp 127) (.tmp 132) rfl wo.heap.size _ ((Y.take i).filter p) n HNn.out rfl (HOn.out.alloc _) ⟨wr.heap.size, 0, none⟩ 1 1 [l] rfl rfl ((SrcO.one wr l).at_ _ rfl).2 (n + 1) rfl (by omega) (by simp; omega) ?_; intro A' c'' w' ho' hb'; have HO' := Lib.hid ho'; have HB' := Lib.hid (((HBn.out).alloc hsn _).trans hb'); clear ho' hb')
                rw [← hst2.out] at HO'
                go_roundw
                case rel => exact ⟨i + 1, n + 1, c'', A', by omega, by go_num, rfl, by omega, hlen2, HO', HB'⟩
                case measure => simp [intOf]; omega
              · have hst2 := Lib.hid (show (Y.take (i + 1)).filter p = (Y.take i).filter p from by rw [hst.out, hpl.out]; exact List.append_nil _)
                dsimp only []
                go_wp2_with fail
                go_round
                case rel => exact ⟨i + 1, n, c', B, by omega, by go_num, rfl, by omega, by rw [hst2.out]; exact HNn, by rw [hst2.out]; exact HOn, HBn⟩
                case measure => simp [intOf]; omega
            · obtain rfl : n2 = i := by omega
              have i1 : ¬ ((n2 : Int) < (n2 : Int)) := by omega
              have HR : Hid ((Y.take n2).filter p = restD L) := Lib.hid (by rw [List.take_of_length_le (by rw [HN2.out]; exact Nat.le_refl _), hrest.out])
              rw [HR.out] at HNn HOn
              have HE := Lib.hid (HBo.out.trans (HBn.out.mono HBo.out.size))
              have HA : Hid (AllS L (.returned (.tuple #[.slice B1 n1 cm, .slice B n c', .int .i64 0])) wr) := Lib.hid (by
                unfold AllS
                rw [if_pos hval.out]
                refine ⟨B1, cm, B, c', by rw [HMn.out, HNn.out], (HM.out.below HBn.out).more hsn, ?_⟩
                have := HOn.out
                exact OwnO.src this)
              go_wp2_with fail
              exact bodyPost_ret (v := .tuple #[.slice B1 n1 cm, .slice B n c', .int .i64 0]) (by simp [results, Tryd.results19, go_sem]) rfl ⟨HA.out, HE.out⟩
end Go.Proofs.YtllmffmmfpecaaaDoor
