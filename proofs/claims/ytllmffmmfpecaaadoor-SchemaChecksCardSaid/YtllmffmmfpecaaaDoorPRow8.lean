/-
  The program's findRow.
-/
import Derived.Test.YtllmffmmfpecaaaDoorTabC8
import Derived.Test.YtllmffmmfpecaaaDoorNamed8
import Derived.Test.YtllmffmmfpecaaaDoorRefFindC8
import Derived.Deep.CutRange
namespace Go.Proofs.YtllmffmmfpecaaaDoor
open Go.RowKit

/-- What findRow tells. -/
def valR : Option Cl → Value
  | some c => .tuple #[.agg #[.string (baO c.name), .string (baO c.oid), .string (baO c.super), .int .i64 (c.kind : Int), .string (baO (txt c.must)), .string (baO (txt c.may))], .bool true]
  | none => .tuple #[.agg #[.string ⟨#[]⟩, .string ⟨#[]⟩, .string ⟨#[]⟩, .int .i64 0, .string ⟨#[]⟩, .string ⟨#[]⟩], .bool false]
theorem clB_prog (s : List UInt8) (c : Cl) : clB (lowL s) s c = (decide (lowL c.name = lowL s) || (c.oid == s)) := by
  unfold clB
  rw [show (lowL s == lowL c.name) = decide (lowL c.name = lowL s) from (by rw [Bool.eq_iff_iff, beq_iff_eq, decide_eq_true_eq]; exact eq_comm), show (s == c.oid) = (c.oid == s) from BEq.comm]
theorem row6 {w : World} {b : Nat} {v0 v1 v2 v3 v4 v5 : Value} {T : TypeId} (h : w.heap[b]? = some (.cells #[v0, v1, v2, v3, v4, v5] T (0, 0))) :
    w.cell? ⟨b, 0, none⟩ = some v0 ∧ w.cell? ⟨b, 1, none⟩ = some v1 ∧ w.cell? ⟨b, 2, none⟩ = some v2 ∧ w.cell? ⟨b, 3, none⟩ = some v3 ∧ w.cell? ⟨b, 4, none⟩ = some v4 ∧ w.cell? ⟨b, 5, none⟩ = some v5 ∧
    w.frozen? ⟨b, 0, none⟩ = false ∧ w.frozen? ⟨b, 1, none⟩ = false ∧ w.frozen? ⟨b, 2, none⟩ = false ∧ w.frozen? ⟨b, 3, none⟩ = false ∧ w.frozen? ⟨b, 4, none⟩ = false ∧ w.frozen? ⟨b, 5, none⟩ = false :=
  ⟨cell_of_row _ _ _ _ _ _ h, cell_of_row _ _ _ _ _ _ h, cell_of_row _ _ _ _ _ _ h, cell_of_row _ _ _ _ _ _ h, cell_of_row _ _ _ _ _ _ h, cell_of_row _ _ _ _ _ _ h,
   frozen_of_row _ _ _ _ _ h, frozen_of_row _ _ _ _ _ h, frozen_of_row _ _ _ _ _ h, frozen_of_row _ _ _ _ _ h, frozen_of_row _ _ _ _ _ h, frozen_of_row _ _ _ _ _ h⟩
set_option maxRecDepth 8000 in
set_option maxHeartbeats 4000000 in
theorem findR_any (s : ByteArray) (g o : Nat) (w : World) (hs : s.size ≤ 600) (HT : TabC w g o) :
    Calls Tryd.prog 26 #[.string s] w fun e w' => e = .returned (valR (findC s.data.toList)) ∧ Below w.heap.size w w' := by
  have CN := Lib.hid fun W => named_any s W (by omega)
  have hlen : Hid (clss.length = 10) := Lib.hid rfl
  replace HT := Lib.hid HT
  go_enter Tryd.func26, Tryd.ntmps26
  go_wp2_with fail
  obtain ⟨v, hv⟩ : ∃ v, v = w.alloc (.cells #[.string ⟨#[]⟩, .string ⟨#[]⟩, .string ⟨#[]⟩, .int .i64 0, .string ⟨#[]⟩, .string ⟨#[]⟩] 64) := ⟨_, rfl⟩
  have hb : Below w.heap.size w v := by rw [hv]; exact (Below.refl _ _).alloc (Nat.le_refl _) _
  have HC0 := Lib.hid (show v.heap[w.heap.size]? = some (.cells #[.string ⟨#[]⟩, .string ⟨#[]⟩, .string ⟨#[]⟩, .int .i64 0, .string ⟨#[]⟩, .string ⟨#[]⟩] 64) by rw [hv]; exact heap_alloc_new w _)
  have zv : v.heap.size = w.heap.size + 1 := by rw [hv]; simp
  rw [← hv]
  replace hv := Lib.hid hv
  have HT1 := Lib.hid (HT.out.below hb)
  have HB0 := Lib.hid hb
  clear hb
  refine (CN.out v).mono ?_
  rintro _ w1 ⟨b, rfl, hb1, hb3, hbc, hb⟩
  have HT2 := Lib.hid (HT1.out.below hb)
  have HB1 := Lib.hid (HB0.out.trans (hb.mono (by omega)))
  have HC1 := Lib.hid ((hb.block w.heap.size (by omega)).trans HC0.out)
  have hz1 := hb.size
  have HBC := Lib.hid (show w1.cell? ⟨b, 0, none⟩ = some (.string (baO (lowL s.data.toList))) from cell_of_row _ _ _ _ _ _ hbc)
  have t0 := HT2.out.2.2.1
  clear hb CN hbc
  dsimp only []
  go_wp2_with fail
  go_loopw [11] (fun iv wr => ∃ k : Nat, k ≤ 10 ∧ iv = .int .i64 (k : Int) ∧ Hid (∀ j < k, ∀ a, clss[j]? = some a → clB (lowL s.data.toList) s.data.toList a = false) ∧ Hid (Below w1.heap.size w1 wr)) (fun iv _ => 10 - (intOf iv).toNat)
  case atStart => exact ⟨0, Nat.zero_le _, rfl, Lib.hid (fun j hj => absurd hj (Nat.not_lt_zero _)), Lib.hid (Below.refl _ _)⟩
  case round =>
    obtain ⟨k, hk, rfl, HF, HR⟩ := hrel
    have zr := HR.out.size
    by_cases hlt : k < 10
    · have i0 : (0 : Int) ≤ (k : Int) := by omega
      have i1 : (k : Int) < 10 := by omega
      obtain ⟨a, ha⟩ : ∃ a, clss[k]? = some a := ⟨clss[k]'(by rw [hlen.out]; exact hlt), List.getElem?_eq_getElem _⟩
      obtain ⟨p0, p1, p2, p3, p4, p5⟩ := (HT2.out.below HR.out).2.2.2 k a ha
      have hal := cls_len a (List.mem_of_getElem? ha)
      obtain ⟨q, hq⟩ : ∃ q, clB (lowL s.data.toList) s.data.toList a = q := ⟨_, rfl⟩
      have HQ := Lib.hid ((clB_prog s.data.toList a).symm.trans hq)
      replace hq := Lib.hid hq
      obtain ⟨V, hV⟩ : ∃ V, V = wr.alloc (.cells #[.string (baO a.name), .string (baO a.oid), .string (baO a.super), .int .i64 (a.kind : Int), .string (baO (txt a.must)), .string (baO (txt a.may))] 64) := ⟨_, rfl⟩
      have OV := Lib.hid (show V.heap[wr.heap.size]? = some (.cells #[.string (baO a.name), .string (baO a.oid), .string (baO a.super), .int .i64 (a.kind : Int), .string (baO (txt a.must)), .string (baO (txt a.may))] 64) by rw [hV]; exact heap_alloc_new wr _)
      have HRV := Lib.hid (HR.out.trans (show Below w1.heap.size wr V by rw [hV]; exact (Below.refl _ _).alloc zr _))
      have HWV := Lib.hid (show Below wr.heap.size wr V by rw [hV]; exact (Below.refl _ _).alloc (Nat.le_refl _) _)
      have zV : V.heap.size = wr.heap.size + 1 := by rw [hV]; simp
      have N1 := Lib.hid fun (x : List UInt8) (W : World) (hx : x.length ≤ 60) (hB : Below V.heap.size V W) => named1_any x (lowL s.data.toList) b W (by omega) (by have := hB.size; omega) (((HRV.out.trans (hB.mono (by omega))).cell (p := ⟨b, 0, none⟩) hb3).trans HBC.out)
      go_upto_region 5 with fail
      go_cut [11, 24] from 11 to 26 (fun iv c wx => iv = .int .i64 (k : Int) ∧ c = .bool q ∧ Hid (Below V.heap.size V wx))
      case first =>
        clear p0 p1 p2 p3 p4 p5
        have done : ∀ v : Bool, (decide (lowL a.name = lowL s.data.toList) || (a.oid == s.data.toList)) = v → Value.bool v = Value.bool q := fun v h => by rw [← HQ.out, h]
        replace done := Lib.hid done
        go_wp2_with fail
        rw [← hV]
        refine (N1.out a.name V hal.1 (Below.refl _ _)).mono ?_
        rintro _ w3 ⟨rfl, hb3⟩
        have HL3 := Lib.hid hb3
        have OV3 := (hb3.block wr.heap.size (by omega)).trans OV.out
        have d1 : w3.cell? ⟨wr.heap.size, 1, none⟩ = some (.string (baO a.oid)) := cell_of_row _ _ _ _ _ _ OV3
        replace OV3 := Lib.hid OV3
        clear hb3
        by_cases e1 : lowL a.name = lowL s.data.toList
        · rw [decide_eq_true e1] at done ⊢
          dsimp only []
          go_wp2_with fail
          go_meet
          exact ⟨rfl, done.out true (by simp), HL3⟩
        · rw [decide_eq_false e1] at done ⊢
          have hd := Lib.hid (fun v (h : (a.oid == s.data.toList) = v) => done.out v (by simpa using h))
          replace e1 := Lib.hid e1
          dsimp only []
          by_cases e4 : a.oid = s.data.toList
          · have e4b : ((baO a.oid).toList == s.toList) = true := beq_iff_eq.2 (by rw [baO_toList, ByteArray.toList_eq, e4])
            have hd1 := Lib.hid (hd.out true (beq_iff_eq.2 e4))
            replace e4 := Lib.hid e4
            go_wp2_with fail
            go_meet
            exact ⟨rfl, hd1.out, HL3⟩
          · have e4' : ¬ (baO a.oid).toList = s.toList := by rw [baO_toList, ByteArray.toList_eq]; exact e4
            have e4b : ((baO a.oid).toList == s.toList) = false := beq_eq_false_iff_ne.2 e4'
            have hd1 := Lib.hid (hd.out false (beq_eq_false_iff_ne.2 e4))
            replace e4 := Lib.hid e4
            go_wp2_with fail
            go_meet
            exact ⟨rfl, hd1.out, HL3⟩
      case rest =>
        obtain ⟨rfl, rfl, HLc⟩ := hcut
        have hsc := HLc.out.size
        have OVc := (HLc.out.block wr.heap.size (by omega)).trans OV.out
        have hcc := (HLc.out.block w.heap.size (by omega)).trans ((HRV.out.block w.heap.size (by omega)).trans HC1.out)
        have HBc := Lib.hid (HB1.out.trans ((HRV.out.trans (HLc.out.mono (by omega))).mono (by omega)))
        have HRc := Lib.hid (HRV.out.trans (HLc.out.mono (by omega)))
        clear p0 p1 p2 p3 p4 p5
        rcases q with _ | _
        rotate_left
        · have e := hq.out
          have hfa := Lib.hid (show findC s.data.toList = some a from find_at ha e HF.out)
          obtain ⟨m0, m1, m2, m3, m4, m5, _, _, _, _, _, _⟩ := row6 OVc
          replace OVc := Lib.hid OVc
          obtain ⟨r0, r1, r2, r3, r4, r5, f0, f1, f2, f3, f4, f5⟩ := row6 hcc
          have HC := Lib.hid (set6_same hcc (.string (baO a.name)) (.string (baO a.oid)) (.string (baO a.super)) (.int .i64 (a.kind : Int)) (.string (baO (txt a.must))) (.string (baO (txt a.may))))
          have HE := Lib.hid (set6_below HBc.out (Nat.le_refl _) (.string (baO a.name)) (.string (baO a.oid)) (.string (baO a.super)) (.int .i64 (a.kind : Int)) (.string (baO (txt a.must))) (.string (baO (txt a.may))))
          replace hcc := Lib.hid hcc
          try dsimp only []
          go_wp2_with fail
          have HX : set6 wc w.heap.size (.string (baO a.name)) (.string (baO a.oid)) (.string (baO a.super)) (.int .i64 (a.kind : Int)) (.string (baO (txt a.must))) (.string (baO (txt a.may))) = ((((((wc.setCell ⟨w.heap.size, 0, none⟩ (.string (baO a.name))).setCell ⟨w.heap.size, 1, none⟩ (.string (baO a.oid))).setCell ⟨w.heap.size, 2, none⟩ (.string (baO a.super))).setCell ⟨w.heap.size, 3, none⟩ (.int .i64 (a.kind : Int))).setCell ⟨w.heap.size, 4, none⟩ (.string (baO (txt a.must)))).setCell ⟨w.heap.size, 5, none⟩ (.string (baO (txt a.may)))) := rfl
          rw [← HX]
          obtain ⟨W5, hW5⟩ : ∃ W5, W5 = set6 wc w.heap.size (.string (baO a.name)) (.string (baO a.oid)) (.string (baO a.super)) (.int .i64 (a.kind : Int)) (.string (baO (txt a.must))) (.string (baO (txt a.may))) := ⟨_, rfl⟩
          rw [← hW5] at HE HC ⊢
          clear HX hW5 r0 f0 r1 f1 r2 f2 r3 f3 r4 f4 r5 f5
          obtain ⟨q0, q1, q2, q3, q4, q5, _, _, _, _, _, _⟩ := row6 HC.out
          exact bodyPost_ret (v := valR (some a)) (by simp [results, valR, Tryd.results26, go_sem, q0, q1, q2, q3, q4, q5]) rfl ⟨by rw [hfa.out], HE.out⟩
        · have hno := Lib.hid hq.out
          replace hcc := Lib.hid hcc
          replace OVc := Lib.hid OVc
          try dsimp only []
          go_wp2_with fail
          go_roundw
          case rel =>
            refine ⟨k + 1, by omega, by go_num, Lib.hid (fun j hj b hb => ?_), HRc⟩
            by_cases hjk : j < k
            · exact HF.out j hjk b hb
            · obtain rfl : j = k := by omega
              rw [ha] at hb
              injection hb with hb
              rw [← hb]
              exact hno.out
          case measure => simp [intOf]; omega
    · obtain rfl : k = 10 := by omega
      have hfa := Lib.hid (show findC s.data.toList = none from find_no (by rw [hlen.out]; exact HF.out))
      have i1 : ¬ ((10 : Nat) : Int) < 10 := by omega
      have hcc := (HR.out.block w.heap.size (by omega)).trans HC1.out
      have HBc := Lib.hid (HB1.out.trans (HR.out.mono (by omega)))
      obtain ⟨r0, r1, r2, r3, r4, r5, f0, f1, f2, f3, f4, f5⟩ := row6 hcc
      have HC := Lib.hid (set6_same hcc (.string ⟨#[]⟩) (.string ⟨#[]⟩) (.string ⟨#[]⟩) (.int .i64 0) (.string ⟨#[]⟩) (.string ⟨#[]⟩))
      have HE := Lib.hid (set6_below HBc.out (Nat.le_refl _) (.string ⟨#[]⟩) (.string ⟨#[]⟩) (.string ⟨#[]⟩) (.int .i64 0) (.string ⟨#[]⟩) (.string ⟨#[]⟩))
      replace hcc := Lib.hid hcc
      try dsimp only []
      go_wp2_with fail
      have HX : set6 wr w.heap.size (.string ⟨#[]⟩) (.string ⟨#[]⟩) (.string ⟨#[]⟩) (.int .i64 0) (.string ⟨#[]⟩) (.string ⟨#[]⟩) = ((((((wr.setCell ⟨w.heap.size, 0, none⟩ (.string ⟨#[]⟩)).setCell ⟨w.heap.size, 1, none⟩ (.string ⟨#[]⟩)).setCell ⟨w.heap.size, 2, none⟩ (.string ⟨#[]⟩)).setCell ⟨w.heap.size, 3, none⟩ (.int .i64 0)).setCell ⟨w.heap.size, 4, none⟩ (.string ⟨#[]⟩)).setCell ⟨w.heap.size, 5, none⟩ (.string ⟨#[]⟩)) := rfl
      rw [← HX]
      obtain ⟨W5, hW5⟩ : ∃ W5, W5 = set6 wr w.heap.size (.string ⟨#[]⟩) (.string ⟨#[]⟩) (.string ⟨#[]⟩) (.int .i64 0) (.string ⟨#[]⟩) (.string ⟨#[]⟩) := ⟨_, rfl⟩
      rw [← hW5] at HE HC ⊢
      clear HX hW5 r0 f0 r1 f1 r2 f2 r3 f3 r4 f4 r5 f5
      obtain ⟨q0, q1, q2, q3, q4, q5, _, _, _, _, _, _⟩ := row6 HC.out
      exact bodyPost_ret (v := valR (none)) (by simp [results, valR, Tryd.results26, go_sem, q0, q1, q2, q3, q4, q5]) rfl ⟨by rw [hfa.out], HE.out⟩
end Go.Proofs.YtllmffmmfpecaaaDoor
