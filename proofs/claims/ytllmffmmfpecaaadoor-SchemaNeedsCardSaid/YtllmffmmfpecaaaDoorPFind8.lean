/-
  The program's Find.
-/
import Derived.Test.YtllmffmmfpecaaaDoorTabA8
import Derived.Test.YtllmffmmfpecaaaDoorNamed8
import Derived.Test.YtllmffmmfpecaaaDoorRefFind8
import Derived.Deep.CutRange
namespace Go.Proofs.YtllmffmmfpecaaaDoor
open Go.RowKit

theorem low_nil {l : List UInt8} : lowL l = [] ↔ l = [] := by unfold lowL; simp
theorem beq_dec (x y : List UInt8) : (x == y) = decide (y = x) := by
  rw [Bool.eq_iff_iff, beq_iff_eq, decide_eq_true_eq]
  exact eq_comm
theorem atB_prog (s : List UInt8) (a : At) : atB (lowL s) s a = (decide (lowL a.name = lowL s) || (!(a.alias == []) && decide (lowL a.alias = lowL s)) || (a.oid == s)) := by
  unfold atB
  rw [beq_dec (lowL s) (lowL a.name), show (s == a.oid) = (a.oid == s) from BEq.comm]
  congr 2
  rw [Bool.eq_iff_iff]
  simp only [Bool.and_eq_true, beq_iff_eq, Bool.not_eq_true', beq_eq_false_iff_ne, decide_eq_true_eq]
  constructor
  · rintro ⟨h1, h2⟩
    exact ⟨fun h => h2 (by rw [h1, h]; rfl), h1.symm⟩
  · rintro ⟨h1, h2⟩
    exact ⟨h2.symm, fun h => h1 (low_nil.1 (by rw [h2, h]))⟩
theorem row5 {w : World} {b : Nat} {v0 v1 v2 v3 v4 : Value} {T : TypeId} (h : w.heap[b]? = some (.cells #[v0, v1, v2, v3, v4] T (0, 0))) :
    w.cell? ⟨b, 0, none⟩ = some v0 ∧ w.cell? ⟨b, 1, none⟩ = some v1 ∧ w.cell? ⟨b, 2, none⟩ = some v2 ∧ w.cell? ⟨b, 3, none⟩ = some v3 ∧ w.cell? ⟨b, 4, none⟩ = some v4 ∧
    w.frozen? ⟨b, 0, none⟩ = false ∧ w.frozen? ⟨b, 1, none⟩ = false ∧ w.frozen? ⟨b, 2, none⟩ = false ∧ w.frozen? ⟨b, 3, none⟩ = false ∧ w.frozen? ⟨b, 4, none⟩ = false :=
  ⟨cell_of_row _ _ _ _ _ _ h, cell_of_row _ _ _ _ _ _ h, cell_of_row _ _ _ _ _ _ h, cell_of_row _ _ _ _ _ _ h, cell_of_row _ _ _ _ _ _ h,
   frozen_of_row _ _ _ _ _ h, frozen_of_row _ _ _ _ _ h, frozen_of_row _ _ _ _ _ h, frozen_of_row _ _ _ _ _ h, frozen_of_row _ _ _ _ _ h⟩
set_option maxRecDepth 8000 in
set_option maxHeartbeats 4000000 in
theorem find_any (s : ByteArray) (g o : Nat) (w : World) (hs : s.size ≤ 600) (HT : TabA w g o) :
    Calls Tryd.prog 8 #[.string s] w fun e w' => e = .returned (valA (findA s.data.toList)) ∧ Below w.heap.size w w' := by
  have CN := Lib.hid fun W => named_any s W (by omega)
  have hlen : Hid (atts.length = 20) := Lib.hid rfl
  replace HT := Lib.hid HT
  go_enter Tryd.func8, Tryd.ntmps8
  go_wp2_with fail
  obtain ⟨v, hv⟩ : ∃ v, v = w.alloc (.cells #[.string ⟨#[]⟩, .string ⟨#[]⟩, .string ⟨#[]⟩, .int .i64 0, .bool false] 23) := ⟨_, rfl⟩
  have hb : Below w.heap.size w v := by rw [hv]; exact (Below.refl _ _).alloc (Nat.le_refl _) _
  have HC0 := Lib.hid (show v.heap[w.heap.size]? = some (.cells #[.string ⟨#[]⟩, .string ⟨#[]⟩, .string ⟨#[]⟩, .int .i64 0, .bool false] 23) by rw [hv]; exact heap_alloc_new w _)
  have zv : v.heap.size = w.heap.size + 1 := by rw [hv]; simp
  rw [← hv]
  replace hv := Lib.hid hv
  have HT1 := Lib.hid (HT.out.below hb)
  have HB0 := Lib.hid hb
  clear hb
  refine (CN.out v).mono ?_
  rintro _ w1 ⟨b, rfl, hb1, hb2, hbc, hb⟩
  have HT2 := Lib.hid (HT1.out.below hb)
  have HB1 := Lib.hid (HB0.out.trans (hb.mono (by omega)))
  have HC1 := Lib.hid ((hb.block w.heap.size (by omega)).trans HC0.out)
  have hz1 := hb.size
  have HBC := Lib.hid (show w1.cell? ⟨b, 0, none⟩ = some (.string (baO (lowL s.data.toList))) from cell_of_row _ _ _ _ _ _ hbc)
  have t0 := HT2.out.2.2.1
  clear hb CN hbc
  dsimp only []
  go_wp2_with fail
  go_loopw [11] (fun iv wr => ∃ k : Nat, k ≤ 20 ∧ iv = .int .i64 (k : Int) ∧ Hid (∀ j < k, ∀ a, atts[j]? = some a → atB (lowL s.data.toList) s.data.toList a = false) ∧ Hid (Below w1.heap.size w1 wr)) (fun iv _ => 20 - (intOf iv).toNat)
  case atStart => exact ⟨0, Nat.zero_le _, rfl, Lib.hid (fun j hj => absurd hj (Nat.not_lt_zero _)), Lib.hid (Below.refl _ _)⟩
  case round =>
    obtain ⟨k, hk, rfl, HF, HR⟩ := hrel
    have zr := HR.out.size
    by_cases hlt : k < 20
    · have i0 : (0 : Int) ≤ (k : Int) := by omega
      have i1 : (k : Int) < 20 := by omega
      obtain ⟨a, ha⟩ : ∃ a, atts[k]? = some a := ⟨atts[k]'(by rw [hlen.out]; exact hlt), List.getElem?_eq_getElem _⟩
      obtain ⟨c0, c1, c2, c3, c4⟩ := (HT2.out.below HR.out).2.2.2 k a ha
      have hal := att_len a (List.mem_of_getElem? ha)
      obtain ⟨q, hq⟩ : ∃ q, atB (lowL s.data.toList) s.data.toList a = q := ⟨_, rfl⟩
      have HQ := Lib.hid ((atB_prog s.data.toList a).symm.trans hq)
      replace hq := Lib.hid hq
      obtain ⟨V, hV⟩ : ∃ V, V = wr.alloc (.cells #[.string (baO a.name), .string (baO a.alias), .string (baO a.oid), .int .i64 (a.syn : Int), .bool a.single] 23) := ⟨_, rfl⟩
      have OV := Lib.hid (show V.heap[wr.heap.size]? = some (.cells #[.string (baO a.name), .string (baO a.alias), .string (baO a.oid), .int .i64 (a.syn : Int), .bool a.single] 23) by rw [hV]; exact heap_alloc_new wr _)
      have HRV := Lib.hid (HR.out.trans (show Below w1.heap.size wr V by rw [hV]; exact (Below.refl _ _).alloc zr _))
      have zV : V.heap.size = wr.heap.size + 1 := by rw [hV]; simp
      have N1 := Lib.hid fun (x : List UInt8) (W : World) (hx : x.length ≤ 60) (hB : Below V.heap.size V W) => named1_any x (lowL s.data.toList) b W (by omega) (by have := hB.size; omega) (((HRV.out.trans (hB.mono (by omega))).cell (p := ⟨b, 0, none⟩) hb2).trans HBC.out)
      go_upto_region 5 with fail
      go_cut [11, 35] from 11 to 37 (fun iv c wx => iv = .int .i64 (k : Int) ∧ c = .bool q ∧ Hid (Below V.heap.size V wx))
      case first =>
        have p0 : V.cell? ⟨wr.heap.size, 0, none⟩ = some (.string (baO a.name)) := cell_of_row _ _ _ _ _ _ OV.out
        clear c0 c1 c2 c3 c4
        have done : ∀ v : Bool, (decide (lowL a.name = lowL s.data.toList) || (!(a.alias == []) && decide (lowL a.alias = lowL s.data.toList)) || (a.oid == s.data.toList)) = v → Value.bool v = Value.bool q := fun v h => by rw [← HQ.out, h]
        replace done := Lib.hid done
        go_wp2_with fail
        rw [← hV]
        refine (N1.out a.name V hal.1 (Below.refl _ _)).mono ?_
        rintro _ w3 ⟨rfl, hb3⟩
        have HL3 := Lib.hid hb3
        have OV3 := (hb3.block wr.heap.size (by omega)).trans OV.out
        have d1 : w3.cell? ⟨wr.heap.size, 1, none⟩ = some (.string (baO a.alias)) := cell_of_row _ _ _ _ _ _ OV3
        have d2 : w3.cell? ⟨wr.heap.size, 2, none⟩ = some (.string (baO a.oid)) := cell_of_row _ _ _ _ _ _ OV3
        replace OV3 := Lib.hid OV3
        clear hb3 p0
        by_cases e1 : lowL a.name = lowL s.data.toList
        · rw [decide_eq_true e1] at done ⊢
          dsimp only []
          go_wp2_with fail
          go_meet
          exact ⟨rfl, done.out true (by simp), HL3⟩
        · rw [decide_eq_false e1] at done ⊢
          replace e1 := Lib.hid e1
          dsimp only []
          have oids : ∀ (W : World) (x : Bool), x = (a.oid == s.data.toList) → x = ((baO a.oid).toList == s.toList) := fun _ x h => by rw [h, baO_toList, ByteArray.toList_eq]
          by_cases e3 : a.alias = []
          · have f1 : (baO a.alias).toList = [] := by rw [baO_toList, e3]
            have f2 : (baO a.alias).toList.isEmpty = true := by rw [f1]; rfl
            have hd := Lib.hid (fun v (h : (a.oid == s.data.toList) = v) => done.out v (by rw [e3]; simpa using h))
            replace e3 := Lib.hid e3
            by_cases e4 : a.oid = s.data.toList
            · have e4b : ((baO a.oid).toList == s.toList) = true := beq_iff_eq.2 (by rw [baO_toList, ByteArray.toList_eq, e4])
              have hd1 := Lib.hid (hd.out true (beq_iff_eq.2 e4))
              replace e4 := Lib.hid e4
              go_wp2_with fail
              go_meet
              exact ⟨rfl, hd1.out, HL3⟩
            · have e4' : ¬ (baO a.oid).toList = s.toList := by rw [baO_toList, ByteArray.toList_eq]; exact e4
              have e4b : ((baO a.oid).toList == s.toList) = false := beq_eq_false_iff_ne.2 e4'
              have hd1 := Lib.hid (hd.out false (beq_eq_false_iff_ne.2 e4))
              replace e4 := Lib.hid e4
              go_wp2_with fail
              go_meet
              exact ⟨rfl, hd1.out, HL3⟩
          · have f1 : ¬ (baO a.alias).toList = [] := by rw [baO_toList]; exact e3
            have f2 : (baO a.alias).toList.isEmpty = false := by simpa using f1
            have hd0 := Lib.hid (fun v (h : (decide (lowL a.alias = lowL s.data.toList) || (a.oid == s.data.toList)) = v) => done.out v (by
              rw [show (a.alias == []) = false from beq_eq_false_iff_ne.2 e3]
              simpa using h))
            replace e3 := Lib.hid e3
            go_wp2_with fail
            refine (N1.out a.alias w3 hal.2.1 HL3.out).mono ?_
            rintro _ w4 ⟨rfl, hb4⟩
            have z3 := HL3.out.size
            have HL4 := Lib.hid (HL3.out.trans (hb4.mono z3))
            have g2 : w4.cell? ⟨wr.heap.size, 2, none⟩ = some (.string (baO a.oid)) := (hb4.cell (p := ⟨wr.heap.size, 2, none⟩) (by show wr.heap.size < _; omega)).trans d2
            clear hb4 d1 d2 HL3
            by_cases e4 : lowL a.alias = lowL s.data.toList
            · rw [decide_eq_true e4] at hd0 ⊢
              dsimp only []
              go_wp2_with fail
              go_meet
              exact ⟨rfl, hd0.out true (by simp), HL4⟩
            · rw [decide_eq_false e4] at hd0 ⊢
              have hd := Lib.hid (fun v (h : (a.oid == s.data.toList) = v) => hd0.out v (by simpa using h))
              replace e4 := Lib.hid e4
              dsimp only []
              by_cases e5 : a.oid = s.data.toList
              · have e5b : ((baO a.oid).toList == s.toList) = true := beq_iff_eq.2 (by rw [baO_toList, ByteArray.toList_eq, e5])
                have hd1 := Lib.hid (hd.out true (beq_iff_eq.2 e5))
                replace e5 := Lib.hid e5
                go_wp2_with fail
                go_meet
                exact ⟨rfl, hd1.out, HL4⟩
              · have e5' : ¬ (baO a.oid).toList = s.toList := by rw [baO_toList, ByteArray.toList_eq]; exact e5
                have e5b : ((baO a.oid).toList == s.toList) = false := beq_eq_false_iff_ne.2 e5'
                have hd1 := Lib.hid (hd.out false (beq_eq_false_iff_ne.2 e5))
                replace e5 := Lib.hid e5
                go_wp2_with fail
                go_meet
                exact ⟨rfl, hd1.out, HL4⟩
      case rest =>
        obtain ⟨rfl, rfl, HLc⟩ := hcut
        have hsc := HLc.out.size
        have OVc := (HLc.out.block wr.heap.size (by omega)).trans OV.out
        have hcc := (HLc.out.block w.heap.size (by omega)).trans ((HRV.out.block w.heap.size (by omega)).trans HC1.out)
        have HBc := Lib.hid (HB1.out.trans ((HRV.out.trans (HLc.out.mono (by omega))).mono (by omega)))
        have HRc := Lib.hid (HRV.out.trans (HLc.out.mono (by omega)))
        clear c0 c1 c2 c3 c4
        rcases q with _ | _
        rotate_left
        · have e := hq.out
          have hfa := Lib.hid (show findA s.data.toList = some a from find_at ha e HF.out)
          obtain ⟨m0, m1, m2, m3, m4, _, _, _, _, _⟩ := row5 OVc
          replace OVc := Lib.hid OVc
          obtain ⟨r0, r1, r2, r3, r4, f0, f1, f2, f3, f4⟩ := row5 hcc
          have HC := Lib.hid (set5_same hcc (.string (baO a.name)) (.string (baO a.alias)) (.string (baO a.oid)) (.int .i64 (a.syn : Int)) (.bool a.single))
          have HE := Lib.hid (set5_below HBc.out (Nat.le_refl _) (.string (baO a.name)) (.string (baO a.alias)) (.string (baO a.oid)) (.int .i64 (a.syn : Int)) (.bool a.single))
          replace hcc := Lib.hid hcc
          try dsimp only []
          go_wp2_with fail
          have HX : set5 wc w.heap.size (.string (baO a.name)) (.string (baO a.alias)) (.string (baO a.oid)) (.int .i64 (a.syn : Int)) (.bool a.single) = (((((wc.setCell ⟨w.heap.size, 0, none⟩ (.string (baO a.name))).setCell ⟨w.heap.size, 1, none⟩ (.string (baO a.alias))).setCell ⟨w.heap.size, 2, none⟩ (.string (baO a.oid))).setCell ⟨w.heap.size, 3, none⟩ (.int .i64 (a.syn : Int))).setCell ⟨w.heap.size, 4, none⟩ (.bool a.single)) := rfl
          rw [← HX]
          obtain ⟨W5, hW5⟩ : ∃ W5, W5 = set5 wc w.heap.size (.string (baO a.name)) (.string (baO a.alias)) (.string (baO a.oid)) (.int .i64 (a.syn : Int)) (.bool a.single) := ⟨_, rfl⟩
          rw [← hW5] at HE HC ⊢
          clear HX hW5 r0 f0 r1 f1 r2 f2 r3 f3 r4 f4
          obtain ⟨q0, q1, q2, q3, q4, _, _, _, _, _⟩ := row5 HC.out
          exact bodyPost_ret (v := valA (some a)) (by simp [results, valA, Tryd.results8, go_sem, q0, q1, q2, q3, q4]) rfl ⟨by rw [hfa.out], HE.out⟩
        · have hno := Lib.hid hq.out
          replace hcc := Lib.hid hcc
          replace OVc := Lib.hid OVc
          try dsimp only []
          go_wp2_with fail
          go_roundw
          case rel =>
            refine ⟨k + 1, by omega, by go_num, Lib.hid (fun j hj b hb => ?_), HRc⟩
            by_cases hjk : j < k
            · exact HF.out j hjk b hb
            · obtain rfl : j = k := by omega
              rw [ha] at hb
              injection hb with hb
              rw [← hb]
              exact hno.out
          case measure => simp [intOf]; omega
    · obtain rfl : k = 20 := by omega
      have hfa := Lib.hid (show findA s.data.toList = none from find_no (by rw [hlen.out]; exact HF.out))
      have i1 : ¬ ((20 : Nat) : Int) < 20 := by omega
      have hcc := (HR.out.block w.heap.size (by omega)).trans HC1.out
      have HBc := Lib.hid (HB1.out.trans (HR.out.mono (by omega)))
      obtain ⟨r0, r1, r2, r3, r4, f0, f1, f2, f3, f4⟩ := row5 hcc
      have HC := Lib.hid (set5_same hcc (.string ⟨#[]⟩) (.string ⟨#[]⟩) (.string ⟨#[]⟩) (.int .i64 0) (.bool false))
      have HE := Lib.hid (set5_below HBc.out (Nat.le_refl _) (.string ⟨#[]⟩) (.string ⟨#[]⟩) (.string ⟨#[]⟩) (.int .i64 0) (.bool false))
      replace hcc := Lib.hid hcc
      try dsimp only []
      go_wp2_with fail
      have HX : set5 wr w.heap.size (.string ⟨#[]⟩) (.string ⟨#[]⟩) (.string ⟨#[]⟩) (.int .i64 0) (.bool false) = (((((wr.setCell ⟨w.heap.size, 0, none⟩ (.string ⟨#[]⟩)).setCell ⟨w.heap.size, 1, none⟩ (.string ⟨#[]⟩)).setCell ⟨w.heap.size, 2, none⟩ (.string ⟨#[]⟩)).setCell ⟨w.heap.size, 3, none⟩ (.int .i64 0)).setCell ⟨w.heap.size, 4, none⟩ (.bool false)) := rfl
      rw [← HX]
      obtain ⟨W5, hW5⟩ : ∃ W5, W5 = set5 wr w.heap.size (.string ⟨#[]⟩) (.string ⟨#[]⟩) (.string ⟨#[]⟩) (.int .i64 0) (.bool false) := ⟨_, rfl⟩
      rw [← hW5] at HE HC ⊢
      clear HX hW5 r0 f0 r1 f1 r2 f2 r3 f3 r4 f4
      obtain ⟨q0, q1, q2, q3, q4, _, _, _, _, _⟩ := row5 HC.out
      exact bodyPost_ret (v := valA none) (by simp [results, valA, Tryd.results8, go_sem, q0, q1, q2, q3, q4]) rfl ⟨by rw [hfa.out], HE.out⟩
end Go.Proofs.YtllmffmmfpecaaaDoor
