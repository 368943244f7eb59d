/-
  The document's FindClass.
-/
import Derived.Test.YtllmffmmfpecaaaDoorRefFind8
namespace Go.Proofs.YtllmffmmfpecaaaDoor
open Go.RowKit

theorem cls_len : ∀ c ∈ clss, c.name.length ≤ 60 ∧ c.oid.length ≤ 60 ∧ c.super.length ≤ 60 := by decide +kernel
theorem set6_size (w : World) (b : Nat) (u0 u1 u2 u3 u4 u5 : Value) : (set6 w b u0 u1 u2 u3 u4 u5).heap.size = w.heap.size := by simp [set6, World.setCell]
theorem set6_other (w : World) (b : Nat) (u0 u1 u2 u3 u4 u5 : Value) (p : Addr) (h : p.block ≠ b) : (set6 w b u0 u1 u2 u3 u4 u5).cell? p = w.cell? p := by
  refine World.cell?_of_block ?_
  unfold set6
  rw [Below.heap_setCell _ _ _ _ h, Below.heap_setCell _ _ _ _ h, Below.heap_setCell _ _ _ _ h, Below.heap_setCell _ _ _ _ h, Below.heap_setCell _ _ _ _ h, Below.heap_setCell _ _ _ _ h]
theorem SrcO.apart {w w' : World} {K b : Nat} {A : Option Addr} {c : Nat} {L : List (List UInt8)} (h : SrcO w K A c L) (hk : ∀ p : Addr, p.block ≠ b → w'.cell? p = w.cell? p) (hA : ∀ ad, A = some ad → b + 1 ≤ ad.block) : SrcO w' K A c L := by
  refine ⟨h.le, h.nil, fun ad e => ⟨(h.at_ ad e).1, fun j l hj => ?_⟩⟩
  rw [hk _ (by rw [add_block]; have := hA ad e; omega)]
  exact (h.at_ ad e).2 j l hj
/-- What is told of a class. -/
def FindCS (o : Option Cl) (e : Ending) (w : World) : Prop := match o with
  | some c => ∃ A1 c1 A2 c2, e = .returned (.tuple #[.agg #[.string (baO c.name), .string (baO c.oid), .string (baO c.super), .int .i64 (c.kind : Int), .slice A1 c.must.length c1, .slice A2 c.may.length c2], .bool true]) ∧ SrcO w w.heap.size A1 c1 c.must ∧ SrcO w w.heap.size A2 c2 c.may
  | none => e = .returned (.tuple #[.agg #[.string ⟨#[]⟩, .string ⟨#[]⟩, .string ⟨#[]⟩, .int .i64 0, .slice none 0 0, .slice none 0 0], .bool false])
theorem FindCS.yes {o : Option Cl} {c : Cl} {w W : World} {K : Nat} {A1 A2 : Option Addr} {c1 c2 : Nat} (h : o = some c) (h1 : SrcO w K A1 c1 c.must) (h2 : SrcO w K A2 c2 c.may) (hb : Below K w W) (hK : K ≤ W.heap.size) : FindCS o (.returned (.tuple #[.agg #[.string (baO c.name), .string (baO c.oid), .string (baO c.super), .int .i64 (c.kind : Int), .slice A1 c.must.length c1, .slice A2 c.may.length c2], .bool true])) W := by
  subst h
  exact ⟨A1, c1, A2, c2, rfl, (h1.below hb).more hK, (h2.below hb).more hK⟩
theorem FindCS.no {o : Option Cl} {W : World} (h : o = none) : FindCS o (.returned (.tuple #[.agg #[.string ⟨#[]⟩, .string ⟨#[]⟩, .string ⟨#[]⟩, .int .i64 0, .slice none 0 0, .slice none 0 0], .bool false])) W := by
  subst h
  rfl
set_option maxRecDepth 8000 in
set_option maxHeartbeats 4000000 in
theorem refFindClass_any (s : ByteArray) (w : World) (hs : s.size ≤ 600) :
    Calls Tryd.prog 11 #[.string s] w fun e w' => FindCS (findC s.data.toList) e w' ∧ Below w.heap.size w w' := by
  have hlen : Hid (clss.length = 10) := Lib.hid rfl
  go_enter Tryd.func11, Tryd.ntmps11
  go_wp2_with fail
  refine (refClasses_any _).mono ?_
  rintro _ w1 ⟨rfl, hw1⟩
  obtain ⟨w0, hw0⟩ : ∃ w0, w0 = w.alloc (.cells #[.string ⟨#[]⟩, .string ⟨#[]⟩, .string ⟨#[]⟩, .int .i64 0, .slice none 0 0, .slice none 0 0] 34) := ⟨_, rfl⟩
  have h0s : w0.heap.size = w.heap.size + 1 := by rw [hw0]; simp
  rw [← hw0] at hw1 ⊢
  rw [h0s] at hw1 ⊢
  have HS : w1.heap.size = w.heap.size + 1 + 17 := by
    rw [hw1, allocs_size, h0s]
    rfl
  have HT0 : Hid (ClsS w1 (w.heap.size + 1) w1.heap.size (w.heap.size + 1 + 16)) := Lib.hid (by
    have h2 := clsS_new w0
    rw [h0s] at h2
    rw [HS, hw1]
    exact h2)
  have HB0 : Hid (Below w.heap.size w w1) := Lib.hid (by
    rw [hw1]
    refine Below.trans ?_ (allocs_below _ _ _ (by omega))
    rw [hw0]
    exact (Below.refl _ _).alloc (Nat.le_refl _) _)
  have HC0 : Hid (w1.heap[w.heap.size]? = some (.cells #[.string ⟨#[]⟩, .string ⟨#[]⟩, .string ⟨#[]⟩, .int .i64 0, .slice none 0 0, .slice none 0 0] 34)) := Lib.hid (by
    have h3 := (allocs_below w0.heap.size (objsC (w.heap.size + 1)) w0 (Nat.le_refl _)).block w.heap.size (by omega)
    rw [hw1, h3, hw0]
    exact heap_alloc_new w _)
  clear hw1 hw0 h0s w0
  go_wp2_with fail
  refine (refLower_any s _ hs).mono ?_
  rintro _ w2 ⟨x, rfl, hx, hb⟩
  obtain rfl := eq_baO hx
  clear hx
  have hs2 := hb.size
  replace HT0 := Lib.hid (HT0.out.below hb)
  replace HC0 := Lib.hid ((hb.block w.heap.size (by omega)).trans HC0.out)
  replace HB0 := Lib.hid (HB0.out.trans (hb.mono (by omega)))
  clear hb
  dsimp only []
  go_wp2_with fail
  go_loopw [6] (fun iv wr => ∃ k : Nat, k ≤ 10 ∧ iv = .int .i64 (k : Int) ∧ Hid (∀ j < k, ∀ a, clss[j]? = some a → clB (lowL s.data.toList) s.data.toList a = false) ∧ Hid (Below w2.heap.size w2 wr)) (fun iv _ => 10 - (intOf iv).toNat)
  case atStart => exact ⟨0, Nat.zero_le _, rfl, Lib.hid (fun j hj => absurd hj (Nat.not_lt_zero _)), Lib.hid (Below.refl _ _)⟩
  case round =>
    obtain ⟨k, hk, rfl, HF, HB⟩ := hrel
    by_cases hlt : k < 10
    · have i0 : (0 : Int) ≤ (k : Int) := by omega
      have i1 : (k : Int) < 10 := by omega
      obtain ⟨a, ha⟩ : ∃ a, clss[k]? = some a := ⟨clss[k]'(by rw [hlen.out]; exact hlt), List.getElem?_eq_getElem _⟩
      have HTr : ClsS wr (w.heap.size + 1) w1.heap.size (w.heap.size + 1 + 16) := HT0.out.below (HB.out.mono hs2)
      obtain ⟨A1, c1, A2, c2, d0, d1, d2, d3, d4, d5, sr1, sr2, ba1, ba2⟩ := HTr.2.2 k a ha
      have hal := cls_len a (List.mem_of_getElem? ha)
      have hsr := HB.out.size
      have z0 : (baO a.name).size ≤ 600 := by rw [baO_size]; omega
      obtain ⟨q, hq⟩ : ∃ q, clB (lowL s.data.toList) s.data.toList a = q := ⟨_, rfl⟩
      replace hq := Lib.hid hq
      go_upto_region 6 with fail
      go_cut [32] from 10 to 36 (fun c wx => c = .bool q ∧ Hid (Below wr.heap.size wr wx))
      case first =>
        go_wp2_with fail
        refine (refLower_any _ _ z0).mono ?_
        rintro _ w3 ⟨x1, rfl, hx1, hb3⟩
        rw [baO_list] at hx1
        obtain rfl := eq_baO hx1
        clear hx1
        have hs3 := hb3.size
        have g1 := (hb3.cell (p := ⟨w.heap.size + 1 + 16, k * 6 + 1, none⟩) (by show w.heap.size + 1 + 16 < _; omega)).trans d1
        replace hb3 := Lib.hid hb3
        clear d0 d1 d2 d3 d4 d5 HTr sr1 sr2
        have done : ∀ v : Bool, clB (lowL s.data.toList) s.data.toList a = v → Value.bool v = Value.bool q := fun v h => by rw [← h, hq.out]
        replace done := Lib.hid done
        by_cases e1 : lowL s.data.toList = lowL a.name
        · have e1' : (baO (lowL s.data.toList)).toList = (baO (lowL a.name)).toList := by rw [e1]
          replace e1 := Lib.hid e1
          dsimp only []
          go_wp2_with fail
          go_meet
          exact ⟨done.out true (by simp [clB, e1.out]), hb3⟩
        · have e1' := baO_ne e1
          replace e1 := Lib.hid e1
          by_cases e4 : s.data.toList = a.oid
          · have e4b : (s.toList == (baO a.oid).toList) = true := beq_iff_eq.2 (by rw [baO_toList, ByteArray.toList_eq, e4])
            replace e4 := Lib.hid e4
            dsimp only []
            go_wp2_with fail
            go_meet
            exact ⟨done.out true (by simp [clB, e4.out]), hb3⟩
          · have e4' : ¬ s.toList = (baO a.oid).toList := by rw [baO_toList, ByteArray.toList_eq]; exact e4
            have e4b : (s.toList == (baO a.oid).toList) = false := beq_eq_false_iff_ne.2 e4'
            replace e4 := Lib.hid e4
            dsimp only []
            go_wp2_with fail
            go_meet
            exact ⟨done.out false (by
              have t1 : (lowL s.data.toList == lowL a.name) = false := beq_eq_false_iff_ne.2 e1.out
              have t4 : (s.data.toList == a.oid) = false := beq_eq_false_iff_ne.2 e4.out
              unfold clB
              rw [t1, t4]
              rfl), hb3⟩
      case rest =>
        obtain ⟨rfl, HR⟩ := hcut
        have HL4 := Lib.hid (HB.out.trans (HR.out.mono hsr))
        have hs4 := HL4.out.size
        have kc : ∀ j, wc.cell? ⟨w.heap.size + 1 + 16, j, none⟩ = wr.cell? ⟨w.heap.size + 1 + 16, j, none⟩ := fun j => HR.out.cell (p := ⟨w.heap.size + 1 + 16, j, none⟩) (by show w.heap.size + 1 + 16 < _; omega)
        replace d0 := (kc _).trans d0
        replace d1 := (kc _).trans d1
        replace d2 := (kc _).trans d2
        replace d3 := (kc _).trans d3
        replace d4 := (kc _).trans d4
        replace d5 := (kc _).trans d5
        have S1 := Lib.hid (sr1.below (HR.out.mono (by omega)))
        have S2 := Lib.hid (sr2.below (HR.out.mono (by omega)))
        replace ba1 := Lib.hid ba1
        replace ba2 := Lib.hid ba2
        have HK := Lib.hid (Nat.le_trans hs2 hs4)
        clear kc HTr sr1 sr2 HR
        have hc4 := (HL4.out.block w.heap.size (by omega)).trans HC0.out
        have HB4 := Lib.hid (HB0.out.trans (HL4.out.mono (by omega)))
        rcases q with _ | _
        rotate_left
        · have e := hq.out
          have hfa := Lib.hid (show findC s.data.toList = some a from find_at ha e HF.out)
          have r0 : wc.cell? ⟨w.heap.size, 0, none⟩ = some (.string ⟨#[]⟩) := cell_of_row _ _ _ _ _ _ hc4
          have f0 : wc.frozen? ⟨w.heap.size, 0, none⟩ = false := frozen_of_row _ _ _ _ _ hc4
          have r1 : wc.cell? ⟨w.heap.size, 1, none⟩ = some (.string ⟨#[]⟩) := cell_of_row _ _ _ _ _ _ hc4
          have f1 : wc.frozen? ⟨w.heap.size, 1, none⟩ = false := frozen_of_row _ _ _ _ _ hc4
          have r2 : wc.cell? ⟨w.heap.size, 2, none⟩ = some (.string ⟨#[]⟩) := cell_of_row _ _ _ _ _ _ hc4
          have f2 : wc.frozen? ⟨w.heap.size, 2, none⟩ = false := frozen_of_row _ _ _ _ _ hc4
          have r3 : wc.cell? ⟨w.heap.size, 3, none⟩ = some (.int .i64 0) := cell_of_row _ _ _ _ _ _ hc4
          have f3 : wc.frozen? ⟨w.heap.size, 3, none⟩ = false := frozen_of_row _ _ _ _ _ hc4
          have r4 : wc.cell? ⟨w.heap.size, 4, none⟩ = some (.slice none 0 0) := cell_of_row _ _ _ _ _ _ hc4
          have f4 : wc.frozen? ⟨w.heap.size, 4, none⟩ = false := frozen_of_row _ _ _ _ _ hc4
          have r5 : wc.cell? ⟨w.heap.size, 5, none⟩ = some (.slice none 0 0) := cell_of_row _ _ _ _ _ _ hc4
          have f5 : wc.frozen? ⟨w.heap.size, 5, none⟩ = false := frozen_of_row _ _ _ _ _ hc4
          have HC := Lib.hid (set6_same hc4 (.string (baO a.name)) (.string (baO a.oid)) (.string (baO a.super)) (.int .i64 (a.kind : Int)) (.slice A1 a.must.length c1) (.slice A2 a.may.length c2))
          have HE := Lib.hid (set6_below HB4.out (Nat.le_refl _) (.string (baO a.name)) (.string (baO a.oid)) (.string (baO a.super)) (.int .i64 (a.kind : Int)) (.slice A1 a.must.length c1) (.slice A2 a.may.length c2))
          replace hc4 := Lib.hid hc4
          have SA := Lib.hid (S1.out.apart (set6_other wc w.heap.size (.string (baO a.name)) (.string (baO a.oid)) (.string (baO a.super)) (.int .i64 (a.kind : Int)) (.slice A1 a.must.length c1) (.slice A2 a.may.length c2)) ba1.out)
          have SB := Lib.hid (S2.out.apart (set6_other wc w.heap.size (.string (baO a.name)) (.string (baO a.oid)) (.string (baO a.super)) (.int .i64 (a.kind : Int)) (.slice A1 a.must.length c1) (.slice A2 a.may.length c2)) ba2.out)
          have SZ := Lib.hid (set6_size wc w.heap.size (.string (baO a.name)) (.string (baO a.oid)) (.string (baO a.super)) (.int .i64 (a.kind : Int)) (.slice A1 a.must.length c1) (.slice A2 a.may.length c2))
          try dsimp only []
          go_wp2_with fail
          have HX : set6 wc w.heap.size (.string (baO a.name)) (.string (baO a.oid)) (.string (baO a.super)) (.int .i64 (a.kind : Int)) (.slice A1 a.must.length c1) (.slice A2 a.may.length c2) = ((((((wc.setCell ⟨w.heap.size, 0, none⟩ (.string (baO a.name))).setCell ⟨w.heap.size, 1, none⟩ (.string (baO a.oid))).setCell ⟨w.heap.size, 2, none⟩ (.string (baO a.super))).setCell ⟨w.heap.size, 3, none⟩ (.int .i64 (a.kind : Int))).setCell ⟨w.heap.size, 4, none⟩ (.slice A1 a.must.length c1)).setCell ⟨w.heap.size, 5, none⟩ (.slice A2 a.may.length c2)) := rfl
          rw [← HX]
          obtain ⟨W5, hW5⟩ : ∃ W5, W5 = set6 wc w.heap.size (.string (baO a.name)) (.string (baO a.oid)) (.string (baO a.super)) (.int .i64 (a.kind : Int)) (.slice A1 a.must.length c1) (.slice A2 a.may.length c2) := ⟨_, rfl⟩
          rw [← hW5] at HE HC SA SB SZ ⊢
          clear HX hW5 r0 f0 r1 f1 r2 f2 r3 f3 r4 f4 r5 f5
          have q0 : W5.cell? ⟨w.heap.size, 0, none⟩ = some (.string (baO a.name)) := cell_of_row _ _ _ _ _ _ HC.out
          have q1 : W5.cell? ⟨w.heap.size, 1, none⟩ = some (.string (baO a.oid)) := cell_of_row _ _ _ _ _ _ HC.out
          have q2 : W5.cell? ⟨w.heap.size, 2, none⟩ = some (.string (baO a.super)) := cell_of_row _ _ _ _ _ _ HC.out
          have q3 : W5.cell? ⟨w.heap.size, 3, none⟩ = some (.int .i64 (a.kind : Int)) := cell_of_row _ _ _ _ _ _ HC.out
          have q4 : W5.cell? ⟨w.heap.size, 4, none⟩ = some (.slice A1 a.must.length c1) := cell_of_row _ _ _ _ _ _ HC.out
          have q5 : W5.cell? ⟨w.heap.size, 5, none⟩ = some (.slice A2 a.may.length c2) := cell_of_row _ _ _ _ _ _ HC.out
          exact bodyPost_ret (v := .tuple #[.agg #[.string (baO a.name), .string (baO a.oid), .string (baO a.super), .int .i64 (a.kind : Int), .slice A1 a.must.length c1, .slice A2 a.may.length c2], .bool true]) (by simp [results, Tryd.results11, go_sem, q0, q1, q2, q3, q4, q5]) rfl ⟨FindCS.yes hfa.out SA.out SB.out (Below.refl _ _) (by rw [SZ.out]; exact HK.out), HE.out⟩
        · have e0 := hq.out
          have hno := Lib.hid e0
          replace hc4 := Lib.hid hc4
          try dsimp only []
          go_wp2_with fail
          go_roundw
          case rel =>
            refine ⟨k + 1, by omega, by go_num, Lib.hid (fun j hj b hb => ?_), HL4⟩
            by_cases hjk : j < k
            · exact HF.out j hjk b hb
            · obtain rfl : j = k := by omega
              rw [ha] at hb
              injection hb with hb
              rw [← hb]
              exact hno.out
          case measure => simp [intOf]; omega
    · obtain rfl : k = 10 := by omega
      have hfa := Lib.hid (show findC s.data.toList = none from find_no (by rw [hlen.out]; exact HF.out))
      have i1 : ¬ ((10 : Nat) : Int) < 10 := by omega
      have hc3 := (HB.out.block w.heap.size (by omega)).trans HC0.out
      have HB3 := Lib.hid (HB0.out.trans (HB.out.mono (by omega)))
      have r0 : wr.cell? ⟨w.heap.size, 0, none⟩ = some (.string ⟨#[]⟩) := cell_of_row _ _ _ _ _ _ hc3
      have f0 : wr.frozen? ⟨w.heap.size, 0, none⟩ = false := frozen_of_row _ _ _ _ _ hc3
      have r1 : wr.cell? ⟨w.heap.size, 1, none⟩ = some (.string ⟨#[]⟩) := cell_of_row _ _ _ _ _ _ hc3
      have f1 : wr.frozen? ⟨w.heap.size, 1, none⟩ = false := frozen_of_row _ _ _ _ _ hc3
      have r2 : wr.cell? ⟨w.heap.size, 2, none⟩ = some (.string ⟨#[]⟩) := cell_of_row _ _ _ _ _ _ hc3
      have f2 : wr.frozen? ⟨w.heap.size, 2, none⟩ = false := frozen_of_row _ _ _ _ _ hc3
      have r3 : wr.cell? ⟨w.heap.size, 3, none⟩ = some (.int .i64 0) := cell_of_row _ _ _ _ _ _ hc3
      have f3 : wr.frozen? ⟨w.heap.size, 3, none⟩ = false := frozen_of_row _ _ _ _ _ hc3
      have r4 : wr.cell? ⟨w.heap.size, 4, none⟩ = some (.slice none 0 0) := cell_of_row _ _ _ _ _ _ hc3
      have f4 : wr.frozen? ⟨w.heap.size, 4, none⟩ = false := frozen_of_row _ _ _ _ _ hc3
      have r5 : wr.cell? ⟨w.heap.size, 5, none⟩ = some (.slice none 0 0) := cell_of_row _ _ _ _ _ _ hc3
      have f5 : wr.frozen? ⟨w.heap.size, 5, none⟩ = false := frozen_of_row _ _ _ _ _ hc3
      have HC := Lib.hid (set6_same hc3 (.string ⟨#[]⟩) (.string ⟨#[]⟩) (.string ⟨#[]⟩) (.int .i64 0) (.slice none 0 0) (.slice none 0 0))
      have HE := Lib.hid (set6_below HB3.out (Nat.le_refl _) (.string ⟨#[]⟩) (.string ⟨#[]⟩) (.string ⟨#[]⟩) (.int .i64 0) (.slice none 0 0) (.slice none 0 0))
      replace hc3 := Lib.hid hc3
      try dsimp only []
      go_wp2_with fail
      have HX : set6 wr w.heap.size (.string ⟨#[]⟩) (.string ⟨#[]⟩) (.string ⟨#[]⟩) (.int .i64 0) (.slice none 0 0) (.slice none 0 0) = ((((((wr.setCell ⟨w.heap.size, 0, none⟩ (.string ⟨#[]⟩)).setCell ⟨w.heap.size, 1, none⟩ (.string ⟨#[]⟩)).setCell ⟨w.heap.size, 2, none⟩ (.string ⟨#[]⟩)).setCell ⟨w.heap.size, 3, none⟩ (.int .i64 0)).setCell ⟨w.heap.size, 4, none⟩ (.slice none 0 0)).setCell ⟨w.heap.size, 5, none⟩ (.slice none 0 0)) := rfl
      rw [← HX]
      obtain ⟨W5, hW5⟩ : ∃ W5, W5 = set6 wr w.heap.size (.string ⟨#[]⟩) (.string ⟨#[]⟩) (.string ⟨#[]⟩) (.int .i64 0) (.slice none 0 0) (.slice none 0 0) := ⟨_, rfl⟩
      rw [← hW5] at HE HC ⊢
      clear HX hW5 r0 f0 r1 f1 r2 f2 r3 f3 r4 f4 r5 f5
      have q0 : W5.cell? ⟨w.heap.size, 0, none⟩ = some (.string ⟨#[]⟩) := cell_of_row _ _ _ _ _ _ HC.out
      have q1 : W5.cell? ⟨w.heap.size, 1, none⟩ = some (.string ⟨#[]⟩) := cell_of_row _ _ _ _ _ _ HC.out
      have q2 : W5.cell? ⟨w.heap.size, 2, none⟩ = some (.string ⟨#[]⟩) := cell_of_row _ _ _ _ _ _ HC.out
      have q3 : W5.cell? ⟨w.heap.size, 3, none⟩ = some (.int .i64 0) := cell_of_row _ _ _ _ _ _ HC.out
      have q4 : W5.cell? ⟨w.heap.size, 4, none⟩ = some (.slice none 0 0) := cell_of_row _ _ _ _ _ _ HC.out
      have q5 : W5.cell? ⟨w.heap.size, 5, none⟩ = some (.slice none 0 0) := cell_of_row _ _ _ _ _ _ HC.out
      exact bodyPost_ret (v := .tuple #[.agg #[.string ⟨#[]⟩, .string ⟨#[]⟩, .string ⟨#[]⟩, .int .i64 0, .slice none 0 0, .slice none 0 0], .bool false]) (by simp [results, Tryd.results11, go_sem, q0, q1, q2, q3, q4, q5]) rfl ⟨FindCS.no hfa.out, HE.out⟩
end Go.Proofs.YtllmffmmfpecaaaDoor
