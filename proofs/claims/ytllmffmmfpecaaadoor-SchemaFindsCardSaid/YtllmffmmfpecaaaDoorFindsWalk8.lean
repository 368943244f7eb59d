/-
  The law SchemaFinds, over what the program's functions are to answer.
-/
import Derived.Test.YtllmffmmfpecaaaDoorFindsH
import Derived.Test.YtllmffmmfpecaaaDoorLawCls8
import Derived.Deep.QuietTactic
import Derived.BigQuiet
import Derived.StillTailTactics
namespace Go.Proofs.YtllmffmmfpecaaaDoor
open Go.RowKit

theorem valA_form (o : Option At) : ∃ (n al oi : ByteArray) (sy : Int) (si ok : Bool), valA o = .tuple #[.agg #[.string n, .string al, .string oi, .int .i64 sy, .bool si], .bool ok] := by
  rcases o with _ | a
  · exact ⟨_, _, _, _, _, _, rfl⟩
  · exact ⟨_, _, _, _, _, _, rfl⟩
theorem FindCS_form (o : Option Cl) (ho : ∀ c, o = some c → c ∈ clss) : ∃ (n i s : ByteArray) (k : Int) (M Y : List (List UInt8)) (m y : Nat) (ok : Bool), M.length = m ∧ Y.length = y ∧ m ≤ 9 ∧ y ≤ 9 ∧ ∀ e w, FindCS o e w → ∃ A1 c1 A2 c2, e = .returned (.tuple #[.agg #[.string n, .string i, .string s, .int .i64 k, .slice A1 m c1, .slice A2 y c2], .bool ok]) ∧ SrcO w w.heap.size A1 c1 M ∧ SrcO w w.heap.size A2 c2 Y := by
  rcases o with _ | c
  · exact ⟨_, _, _, _, [], [], 0, 0, _, rfl, rfl, by omega, by omega, fun e w h => ⟨none, 0, none, 0, h, SrcO.none_ _ _, SrcO.none_ _ _⟩⟩
  · obtain ⟨h1, h2, _⟩ := cls_few c (ho c rfl)
    exact ⟨_, _, _, _, c.must, c.may, _, _, _, rfl, rfl, h1, h2, fun e w h => h⟩
set_option maxRecDepth 8000 in
set_option maxHeartbeats 4000000 in
theorem finds8_short (s : ByteArray) (w0 : World) (H : FindsH w0) (hs : s.size ≤ 300) :
    Calls Tryd.prog 3 #[.string s] w0 fun e w' => e = .returned (.bool true) ∧ Below w0.heap.size w0 w' := by
  have C1 := Lib.hid (H.find s w0 (Below.refl _ _) (by omega))
  have C2 := Lib.hid fun W => refFind_any s W (by omega)
  have C3 := Lib.hid fun W hB => H.findClass s W hB (by omega)
  have C4 := Lib.hid fun W => refFindClass_any s W (by omega)
  have C5 := Lib.hid H.attributes
  have C6 := Lib.hid H.classes
  obtain ⟨n, al, oi, sy, si, ok, hv⟩ := valA_form (findA s.data.toList)
  rw [hv] at C1 C2
  obtain ⟨n2, i2, s2, k2, M, Y, m, y, ok2, hM, hY, hm9, hy9, hform⟩ := FindCS_form (findC s.data.toList) (fun c h => List.mem_of_find?_eq_some h)
  replace hv := Lib.hid hv
  replace hM := Lib.hid hM
  replace hY := Lib.hid hY
  replace hform := Lib.hid hform
  have f1 : ¬ ((300 : Int) < (s.size : Int)) := by omega
  clear H
  go_enter Tryd.func3, Tryd.ntmps3
  go_wp2_with fail
  refine C1.out.mono ?_
  rintro _ w1 ⟨rfl, hb⟩
  have z1 := hb.size
  have HB := Lib.hid hb
  clear hb C1
  dsimp only []
  go_wp2_with fail
  obtain ⟨v1, hv1⟩ : ∃ v1, v1 = w1.alloc (.cells #[.string n, .string al, .string oi, .int .i64 sy, .bool si] 23) := ⟨_, rfl⟩
  have hb : Below w1.heap.size w1 v1 := by rw [hv1]; exact (Below.refl _ _).alloc (Nat.le_refl _) _
  have O1 := Lib.hid (show v1.heap[w1.heap.size]? = some (.cells #[.string n, .string al, .string oi, .int .i64 sy, .bool si] 23) by rw [hv1]; exact heap_alloc_new w1 _)
  have zv1 : v1.heap.size = w1.heap.size + 1 := by rw [hv1]; simp
  rw [← hv1]
  replace hv1 := Lib.hid hv1
  replace HB := Lib.hid (HB.out.trans (hb.mono (by omega)))
  clear hb
  refine (C2.out _).mono ?_
  rintro _ w2 ⟨rfl, hb⟩
  have z2 := hb.size
  replace O1 := Lib.hid ((hb.block w1.heap.size (by omega)).trans O1.out)
  replace HB := Lib.hid (HB.out.trans (hb.mono (by omega)))
  clear hb C2
  dsimp only []
  go_wp2_with fail
  obtain ⟨v2, hv2⟩ : ∃ v2, v2 = w2.alloc (.cells #[.string n, .string al, .string oi, .int .i64 sy, .bool si] 26) := ⟨_, rfl⟩
  have hb : Below w2.heap.size w2 v2 := by rw [hv2]; exact (Below.refl _ _).alloc (Nat.le_refl _) _
  have O2 := Lib.hid (show v2.heap[w2.heap.size]? = some (.cells #[.string n, .string al, .string oi, .int .i64 sy, .bool si] 26) by rw [hv2]; exact heap_alloc_new w2 _)
  have zv2 : v2.heap.size = w2.heap.size + 1 := by rw [hv2]; simp
  rw [← hv2]
  replace hv2 := Lib.hid hv2
  replace O1 := Lib.hid ((hb.block w1.heap.size (by omega)).trans O1.out)
  replace HB := Lib.hid (HB.out.trans (hb.mono (by omega)))
  clear hb
  refine (C3.out _ HB.out).mono ?_
  rintro _ w3 ⟨hF, hb⟩
  obtain ⟨A1, c1, A2, c2, rfl, S1, S2⟩ := hform.out _ _ hF
  have z3 := hb.size
  replace O1 := Lib.hid ((hb.block w1.heap.size (by omega)).trans O1.out)
  replace O2 := Lib.hid ((hb.block w2.heap.size (by omega)).trans O2.out)
  replace HB := Lib.hid (HB.out.trans (hb.mono (by omega)))
  replace S1 := Lib.hid S1
  replace S2 := Lib.hid S2
  clear hb hF C3
  dsimp only []
  go_wp2_with fail
  obtain ⟨v3, hv3⟩ : ∃ v3, v3 = w3.alloc (.cells #[.string n2, .string i2, .string s2, .int .i64 k2, .slice A1 m c1, .slice A2 y c2] 31) := ⟨_, rfl⟩
  have hb : Below w3.heap.size w3 v3 := by rw [hv3]; exact (Below.refl _ _).alloc (Nat.le_refl _) _
  have O3 := Lib.hid (show v3.heap[w3.heap.size]? = some (.cells #[.string n2, .string i2, .string s2, .int .i64 k2, .slice A1 m c1, .slice A2 y c2] 31) by rw [hv3]; exact heap_alloc_new w3 _)
  have zv3 : v3.heap.size = w3.heap.size + 1 := by rw [hv3]; simp
  rw [← hv3]
  replace hv3 := Lib.hid hv3
  replace O1 := Lib.hid ((hb.block w1.heap.size (by omega)).trans O1.out)
  replace O2 := Lib.hid ((hb.block w2.heap.size (by omega)).trans O2.out)
  replace S1 := Lib.hid ((S1.out.below hb).more hb.size)
  replace S2 := Lib.hid ((S2.out.below hb).more hb.size)
  replace HB := Lib.hid (HB.out.trans (hb.mono (by omega)))
  clear hb
  refine (C4.out _).mono ?_
  rintro _ w4 ⟨hF, hb⟩
  obtain ⟨B1, d1, B2, d2, rfl, T1, T2⟩ := hform.out _ _ hF
  have z4 := hb.size
  replace O1 := Lib.hid ((hb.block w1.heap.size (by omega)).trans O1.out)
  replace O2 := Lib.hid ((hb.block w2.heap.size (by omega)).trans O2.out)
  replace S1 := Lib.hid ((S1.out.below hb).more hb.size)
  replace S2 := Lib.hid ((S2.out.below hb).more hb.size)
  replace O3 := Lib.hid ((hb.block w3.heap.size (by omega)).trans O3.out)
  replace HB := Lib.hid (HB.out.trans (hb.mono (by omega)))
  replace T1 := Lib.hid T1
  replace T2 := Lib.hid T2
  clear hb hF C4 hform
  dsimp only []
  go_wp2_with fail
  obtain ⟨v4, hv4⟩ : ∃ v4, v4 = w4.alloc (.cells #[.string n2, .string i2, .string s2, .int .i64 k2, .slice B1 m d1, .slice B2 y d2] 34) := ⟨_, rfl⟩
  have hb : Below w4.heap.size w4 v4 := by rw [hv4]; exact (Below.refl _ _).alloc (Nat.le_refl _) _
  have O4 := Lib.hid (show v4.heap[w4.heap.size]? = some (.cells #[.string n2, .string i2, .string s2, .int .i64 k2, .slice B1 m d1, .slice B2 y d2] 34) by rw [hv4]; exact heap_alloc_new w4 _)
  have zv4 : v4.heap.size = w4.heap.size + 1 := by rw [hv4]; simp
  rw [← hv4]
  replace hv4 := Lib.hid hv4
  replace O1 := Lib.hid ((hb.block w1.heap.size (by omega)).trans O1.out)
  replace O2 := Lib.hid ((hb.block w2.heap.size (by omega)).trans O2.out)
  replace S1 := Lib.hid ((S1.out.below hb).more hb.size)
  replace S2 := Lib.hid ((S2.out.below hb).more hb.size)
  replace O3 := Lib.hid ((hb.block w3.heap.size (by omega)).trans O3.out)
  replace T1 := Lib.hid ((T1.out.below hb).more hb.size)
  replace T2 := Lib.hid ((T2.out.below hb).more hb.size)
  replace HB := Lib.hid (HB.out.trans (hb.mono (by omega)))
  clear hb
  refine (C5.out _ HB.out).mono ?_
  rintro _ w5 ⟨g5, cp5, rfl, hA5, hb⟩
  have z5 := hb.size
  replace O1 := Lib.hid ((hb.block w1.heap.size (by omega)).trans O1.out)
  replace O2 := Lib.hid ((hb.block w2.heap.size (by omega)).trans O2.out)
  replace S1 := Lib.hid ((S1.out.below hb).more hb.size)
  replace S2 := Lib.hid ((S2.out.below hb).more hb.size)
  replace O3 := Lib.hid ((hb.block w3.heap.size (by omega)).trans O3.out)
  replace T1 := Lib.hid ((T1.out.below hb).more hb.size)
  replace T2 := Lib.hid ((T2.out.below hb).more hb.size)
  replace O4 := Lib.hid ((hb.block w4.heap.size (by omega)).trans O4.out)
  replace HB := Lib.hid (HB.out.trans (hb.mono (by omega)))
  have G5 := hA5.1
  replace hA5 := Lib.hid hA5
  clear hb C5
  dsimp only []
  go_wp2_with fail
  refine (refAttributes_any _).mono ?_
  rintro _ w6 ⟨rfl, hw6⟩
  have hb : Below w5.heap.size w5 w6 := by rw [hw6]; exact (Below.refl _ _).alloc (Nat.le_refl _) _
  have hA6 := Lib.hid (show AttS w6 w6.heap.size w5.heap.size by rw [hw6]; have := attS_new w5 26; simpa using this)
  have zv6 : w6.heap.size = w5.heap.size + 1 := by rw [hw6]; simp
  clear hw6
  replace O1 := Lib.hid ((hb.block w1.heap.size (by omega)).trans O1.out)
  replace O2 := Lib.hid ((hb.block w2.heap.size (by omega)).trans O2.out)
  replace S1 := Lib.hid ((S1.out.below hb).more hb.size)
  replace S2 := Lib.hid ((S2.out.below hb).more hb.size)
  replace O3 := Lib.hid ((hb.block w3.heap.size (by omega)).trans O3.out)
  replace T1 := Lib.hid ((T1.out.below hb).more hb.size)
  replace T2 := Lib.hid ((T2.out.below hb).more hb.size)
  replace O4 := Lib.hid ((hb.block w4.heap.size (by omega)).trans O4.out)
  replace hA5 := Lib.hid (hA5.out.below (hb.mono (by omega)))
  replace HB := Lib.hid (HB.out.trans (hb.mono (by omega)))
  clear hb
  dsimp only []
  go_wp2_with fail
  refine (C6.out _ HB.out).mono ?_
  rintro _ w7 ⟨g7, cp7, rfl, hC7, hb⟩
  have z7 := hb.size
  replace O1 := Lib.hid ((hb.block w1.heap.size (by omega)).trans O1.out)
  replace O2 := Lib.hid ((hb.block w2.heap.size (by omega)).trans O2.out)
  replace S1 := Lib.hid ((S1.out.below hb).more hb.size)
  replace S2 := Lib.hid ((S2.out.below hb).more hb.size)
  replace O3 := Lib.hid ((hb.block w3.heap.size (by omega)).trans O3.out)
  replace T1 := Lib.hid ((T1.out.below hb).more hb.size)
  replace T2 := Lib.hid ((T2.out.below hb).more hb.size)
  replace O4 := Lib.hid ((hb.block w4.heap.size (by omega)).trans O4.out)
  replace hA5 := Lib.hid (hA5.out.below (hb.mono (by omega)))
  replace hA6 := Lib.hid (hA6.out.below (hb.mono (by omega)))
  replace HB := Lib.hid (HB.out.trans (hb.mono (by omega)))
  have G7 := hC7.1
  replace hC7 := Lib.hid hC7
  clear hb C6
  dsimp only []
  go_wp2_with fail
  refine (refClasses_any _).mono ?_
  rintro _ w8 ⟨rfl, hw8⟩
  have hb : Below w7.heap.size w7 w8 := by rw [hw8]; exact allocs_below _ _ _ (Nat.le_refl _)
  have hC8 := Lib.hid (show ClsS w8 w7.heap.size (w7.heap.size + 17) (w7.heap.size + 16) by rw [hw8]; exact clsS_new w7)
  have zv8 : w7.heap.size + 17 ≤ w8.heap.size := hC8.out.2.1
  clear hw8
  replace O1 := Lib.hid ((hb.block w1.heap.size (by omega)).trans O1.out)
  replace O2 := Lib.hid ((hb.block w2.heap.size (by omega)).trans O2.out)
  replace S1 := Lib.hid ((S1.out.below hb).more hb.size)
  replace S2 := Lib.hid ((S2.out.below hb).more hb.size)
  replace O3 := Lib.hid ((hb.block w3.heap.size (by omega)).trans O3.out)
  replace T1 := Lib.hid ((T1.out.below hb).more hb.size)
  replace T2 := Lib.hid ((T2.out.below hb).more hb.size)
  replace O4 := Lib.hid ((hb.block w4.heap.size (by omega)).trans O4.out)
  replace hA5 := Lib.hid (hA5.out.below (hb.mono (by omega)))
  replace hA6 := Lib.hid (hA6.out.below (hb.mono (by omega)))
  replace hC7 := Lib.hid (hC7.out.below (hb.mono (by omega)))
  replace HB := Lib.hid (HB.out.trans (hb.mono (by omega)))
  clear hb
  dsimp only []
  go_wp2_with fail
  go_loopw [15] (fun iv wr => ∃ k : Nat, k ≤ 20 ∧ iv = .int .i64 (k : Int) ∧ Hid (Below w8.heap.size w8 wr)) (fun iv _ => 20 - (intOf iv).toNat)
  case atStart => exact ⟨0, Nat.zero_le _, rfl, Lib.hid (Below.refl _ _)⟩
  case round =>
    obtain ⟨k, hk, rfl, HR⟩ := hrel
    by_cases hlt : k < 20
    · have i0 : (0 : Int) ≤ (k : Int) := by omega
      have i1 : (k : Int) < 20 := by omega
      obtain ⟨a, ha⟩ : ∃ a, atts[k]? = some a := ⟨atts[k]'(by show k < 20; exact hlt), List.getElem?_eq_getElem _⟩
      obtain ⟨p0, p1, p2, p3, p4⟩ := (hA5.out.below (HR.out.mono (by omega))).2 k a ha
      obtain ⟨q0, q1, q2, q3, q4⟩ := (hA6.out.below (HR.out.mono (by omega))).2 k a ha
      replace ha := Lib.hid ha
      go_wp2_with fail
      go_quiet (fail)
      go_wp2_with fail
      go_roundw
      case rel => exact ⟨k + 1, by omega, by go_num, Lib.hid (below_drewN7 HR.out _)⟩
      case measure => simp [intOf]; omega
    · obtain rfl : k = 20 := by omega
      obtain ⟨wo, rfl⟩ : ∃ wo, wo = wr := ⟨_, rfl⟩
      have i1 : ¬ ((20 : Nat) : Int) < 20 := by omega
      have hb := HR.out
      replace O1 := Lib.hid ((hb.block w1.heap.size (by omega)).trans O1.out)
      replace O2 := Lib.hid ((hb.block w2.heap.size (by omega)).trans O2.out)
      replace S1 := Lib.hid ((S1.out.below hb).more hb.size)
      replace S2 := Lib.hid ((S2.out.below hb).more hb.size)
      replace O3 := Lib.hid ((hb.block w3.heap.size (by omega)).trans O3.out)
      replace T1 := Lib.hid ((T1.out.below hb).more hb.size)
      replace T2 := Lib.hid ((T2.out.below hb).more hb.size)
      replace O4 := Lib.hid ((hb.block w4.heap.size (by omega)).trans O4.out)
      replace hA5 := Lib.hid (hA5.out.below (hb.mono (by omega)))
      replace hA6 := Lib.hid (hA6.out.below (hb.mono (by omega)))
      replace hC7 := Lib.hid (hC7.out.below (hb.mono (by omega)))
      replace hC8 := Lib.hid (hC8.out.below (hb.mono (by omega)))

      replace HB := Lib.hid (HB.out.trans (HR.out.mono (by omega)))
      have zr := HR.out.size
      clear hb
      go_wp2_with fail
      go_loopw [16] (fun iv wr => ∃ k : Nat, k ≤ 10 ∧ iv = .int .i64 (k : Int) ∧ Hid (Below wo.heap.size wo wr)) (fun iv _ => 10 - (intOf iv).toNat)
      case atStart => exact ⟨0, Nat.zero_le _, rfl, Lib.hid (Below.refl _ _)⟩
      case round =>
        obtain ⟨k, hk, rfl, HX⟩ := hrel
        have zx := HX.out.size
        by_cases hlt : k < 10
        · have i0 : (0 : Int) ≤ (k : Int) := by omega
          have i1 : (k : Int) < 10 := by omega
          obtain ⟨c, hc⟩ : ∃ c, clss[k]? = some c := ⟨clss[k]'(by show k < 10; exact hlt), List.getElem?_eq_getElem _⟩
          obtain ⟨X1, x1, X2, x2, p0, p1, p2, p3, p4, p5, r1, r2, _, _⟩ := (hC7.out.below (HX.out.mono (by omega))).2.2 k c hc
          obtain ⟨Y1, y1, Y2, y2, q0, q1, q2, q3, q4, q5, t1, t2, _, _⟩ := (hC8.out.below (HX.out.mono (by omega))).2.2 k c hc
          obtain ⟨hm, hy, _⟩ := cls_few c (List.mem_of_getElem? hc)
          have CC := Lib.hid fun (W : World) (hb : Below wr.heap.size wr W) => class8_any (baO c.name) (baO c.oid) (baO c.super) (c.kind : Int) c.must c.may _ _ X1 X2 Y1 Y2 x1 x2 y1 y2 W rfl rfl (by omega) (by omega) ((r1.below (hb.mono (by omega))).more (by have := hb.size; omega)) ((r2.below (hb.mono (by omega))).more (by have := hb.size; omega)) ((t1.below (hb.mono (by omega))).more (by have := hb.size; omega)) ((t2.below (hb.mono (by omega))).more (by have := hb.size; omega))
          clear r1 r2 t1 t2
          replace hc := Lib.hid hc
          go_wp2_with fail
          go_still_tail 8, (by kernel_rfl)
          go_wp2_with fail
          refine (CC.out _ (Below.refl _ _).drew).mono ?_
          rintro _ w9 ⟨rfl, hb⟩
          dsimp only []
          have HX9 := Lib.hid (HX.out.trans (((Below.refl wr.heap.size wr).drew.trans hb).mono zx))
          clear hb CC
          go_wp2_with fail
          go_roundw
          case rel => exact ⟨k + 1, by omega, by go_num, HX9⟩
          case measure => simp [intOf]; omega
        · obtain rfl : k = 10 := by omega
          have i1 : ¬ ((10 : Nat) : Int) < 10 := by omega
          have hb := HX.out
          replace O1 := Lib.hid ((hb.block w1.heap.size (by omega)).trans O1.out)
          replace O2 := Lib.hid ((hb.block w2.heap.size (by omega)).trans O2.out)
          replace S1 := Lib.hid ((S1.out.below hb).more hb.size)
          replace S2 := Lib.hid ((S2.out.below hb).more hb.size)
          replace O3 := Lib.hid ((hb.block w3.heap.size (by omega)).trans O3.out)
          replace T1 := Lib.hid ((T1.out.below hb).more hb.size)
          replace T2 := Lib.hid ((T2.out.below hb).more hb.size)
          replace O4 := Lib.hid ((hb.block w4.heap.size (by omega)).trans O4.out)
          replace hA5 := Lib.hid (hA5.out.below (hb.mono (by omega)))
          replace hA6 := Lib.hid (hA6.out.below (hb.mono (by omega)))
          replace hC7 := Lib.hid (hC7.out.below (hb.mono (by omega)))
          replace hC8 := Lib.hid (hC8.out.below (hb.mono (by omega)))

          replace HB := Lib.hid (HB.out.trans (HX.out.mono (by omega)))
          clear hb
          have a0 : wr.cell? ⟨w1.heap.size, 0, none⟩ = some (.string n) := cell_of_row _ _ _ _ _ _ O1.out
          have a1 : wr.cell? ⟨w1.heap.size, 1, none⟩ = some (.string al) := cell_of_row _ _ _ _ _ _ O1.out
          have a2 : wr.cell? ⟨w1.heap.size, 2, none⟩ = some (.string oi) := cell_of_row _ _ _ _ _ _ O1.out
          have a3 : wr.cell? ⟨w1.heap.size, 3, none⟩ = some (.int .i64 sy) := cell_of_row _ _ _ _ _ _ O1.out
          have a4 : wr.cell? ⟨w1.heap.size, 4, none⟩ = some (.bool si) := cell_of_row _ _ _ _ _ _ O1.out
          have b0 : wr.cell? ⟨w2.heap.size, 0, none⟩ = some (.string n) := cell_of_row _ _ _ _ _ _ O2.out
          have b1 : wr.cell? ⟨w2.heap.size, 1, none⟩ = some (.string al) := cell_of_row _ _ _ _ _ _ O2.out
          have b2 : wr.cell? ⟨w2.heap.size, 2, none⟩ = some (.string oi) := cell_of_row _ _ _ _ _ _ O2.out
          have b3 : wr.cell? ⟨w2.heap.size, 3, none⟩ = some (.int .i64 sy) := cell_of_row _ _ _ _ _ _ O2.out
          have b4 : wr.cell? ⟨w2.heap.size, 4, none⟩ = some (.bool si) := cell_of_row _ _ _ _ _ _ O2.out
          have g0 : wr.cell? ⟨w3.heap.size, 0, none⟩ = some (.string n2) := cell_of_row _ _ _ _ _ _ O3.out
          have g1 : wr.cell? ⟨w3.heap.size, 1, none⟩ = some (.string i2) := cell_of_row _ _ _ _ _ _ O3.out
          have g2 : wr.cell? ⟨w3.heap.size, 2, none⟩ = some (.string s2) := cell_of_row _ _ _ _ _ _ O3.out
          have g3 : wr.cell? ⟨w3.heap.size, 3, none⟩ = some (.int .i64 k2) := cell_of_row _ _ _ _ _ _ O3.out
          have g4 : wr.cell? ⟨w3.heap.size, 4, none⟩ = some (.slice A1 m c1) := cell_of_row _ _ _ _ _ _ O3.out
          have g5' : wr.cell? ⟨w3.heap.size, 5, none⟩ = some (.slice A2 y c2) := cell_of_row _ _ _ _ _ _ O3.out
          have h0 : wr.cell? ⟨w4.heap.size, 0, none⟩ = some (.string n2) := cell_of_row _ _ _ _ _ _ O4.out
          have h1 : wr.cell? ⟨w4.heap.size, 1, none⟩ = some (.string i2) := cell_of_row _ _ _ _ _ _ O4.out
          have h2 : wr.cell? ⟨w4.heap.size, 2, none⟩ = some (.string s2) := cell_of_row _ _ _ _ _ _ O4.out
          have h3 : wr.cell? ⟨w4.heap.size, 3, none⟩ = some (.int .i64 k2) := cell_of_row _ _ _ _ _ _ O4.out
          have h4 : wr.cell? ⟨w4.heap.size, 4, none⟩ = some (.slice B1 m d1) := cell_of_row _ _ _ _ _ _ O4.out
          have h5 : wr.cell? ⟨w4.heap.size, 5, none⟩ = some (.slice B2 y d2) := cell_of_row _ _ _ _ _ _ O4.out
          have CC := Lib.hid (class8_any n2 i2 s2 k2 M Y m y A1 A2 B1 B2 c1 c2 d1 d2 wr hM.out hY.out (by omega) (by omega) S1.out S2.out T1.out T2.out)
          have e1 : (n.toList == n.toList) = true := by simp
          rcases ok with _ | _ <;> rcases ok2 with _ | _
          all_goals
            go_wp2_with fail
            refine CC.out.mono ?_
            rintro _ w9 ⟨rfl, hb⟩
            dsimp only []
            have HB9 := Lib.hid (HB.out.trans (hb.mono (by omega)))
            clear hb
            go_wp2_with fail
            go_ret
            exact ⟨rfl, HB9.out⟩
set_option maxRecDepth 8000 in
set_option maxHeartbeats 4000000 in
theorem finds8_long (s : ByteArray) (w0 : World) (H : FindsH w0) (hs : 300 < s.size) (hmax : s.size ≤ 9223372036854775807) :
    Calls Tryd.prog 3 #[.string s] w0 fun e w' => e = .returned (.bool true) ∧ Below w0.heap.size w0 w' := by
  obtain ⟨y0, hy0⟩ : ∃ y0, s.extract 0 300 = y0 := ⟨_, rfl⟩
  have hys : y0.size ≤ 300 := by rw [← hy0, ByteArray.size_extract]; omega
  have C1 := Lib.hid (H.find y0 w0 (Below.refl _ _) (by omega))
  have C2 := Lib.hid fun W => refFind_any y0 W (by omega)
  have C3 := Lib.hid fun W hB => H.findClass y0 W hB (by omega)
  have C4 := Lib.hid fun W => refFindClass_any y0 W (by omega)
  have C5 := Lib.hid H.attributes
  have C6 := Lib.hid H.classes
  obtain ⟨n, al, oi, sy, si, ok, hv⟩ := valA_form (findA y0.data.toList)
  rw [hv] at C1 C2
  obtain ⟨n2, i2, s2, k2, M, Y, m, y, ok2, hM, hY, hm9, hy9, hform⟩ := FindCS_form (findC y0.data.toList) (fun c h => List.mem_of_find?_eq_some h)
  replace hv := Lib.hid hv
  replace hM := Lib.hid hM
  replace hY := Lib.hid hY
  replace hform := Lib.hid hform
  have f1 : (300 : Int) < (s.size : Int) := by omega
  have f2 : (300 : Int) ≤ (s.size : Int) := by omega
  clear H
  go_enter Tryd.func3, Tryd.ntmps3
  go_wp2_with fail
  refine C1.out.mono ?_
  rintro _ w1 ⟨rfl, hb⟩
  have z1 := hb.size
  have HB := Lib.hid hb
  clear hb C1
  dsimp only []
  go_wp2_with fail
  obtain ⟨v1, hv1⟩ : ∃ v1, v1 = w1.alloc (.cells #[.string n, .string al, .string oi, .int .i64 sy, .bool si] 23) := ⟨_, rfl⟩
  have hb : Below w1.heap.size w1 v1 := by rw [hv1]; exact (Below.refl _ _).alloc (Nat.le_refl _) _
  have O1 := Lib.hid (show v1.heap[w1.heap.size]? = some (.cells #[.string n, .string al, .string oi, .int .i64 sy, .bool si] 23) by rw [hv1]; exact heap_alloc_new w1 _)
  have zv1 : v1.heap.size = w1.heap.size + 1 := by rw [hv1]; simp
  rw [← hv1]
  replace hv1 := Lib.hid hv1
  replace HB := Lib.hid (HB.out.trans (hb.mono (by omega)))
  clear hb
  refine (C2.out _).mono ?_
  rintro _ w2 ⟨rfl, hb⟩
  have z2 := hb.size
  replace O1 := Lib.hid ((hb.block w1.heap.size (by omega)).trans O1.out)
  replace HB := Lib.hid (HB.out.trans (hb.mono (by omega)))
  clear hb C2
  dsimp only []
  go_wp2_with fail
  obtain ⟨v2, hv2⟩ : ∃ v2, v2 = w2.alloc (.cells #[.string n, .string al, .string oi, .int .i64 sy, .bool si] 26) := ⟨_, rfl⟩
  have hb : Below w2.heap.size w2 v2 := by rw [hv2]; exact (Below.refl _ _).alloc (Nat.le_refl _) _
  have O2 := Lib.hid (show v2.heap[w2.heap.size]? = some (.cells #[.string n, .string al, .string oi, .int .i64 sy, .bool si] 26) by rw [hv2]; exact heap_alloc_new w2 _)
  have zv2 : v2.heap.size = w2.heap.size + 1 := by rw [hv2]; simp
  rw [← hv2]
  replace hv2 := Lib.hid hv2
  replace O1 := Lib.hid ((hb.block w1.heap.size (by omega)).trans O1.out)
  replace HB := Lib.hid (HB.out.trans (hb.mono (by omega)))
  clear hb
  refine (C3.out _ HB.out).mono ?_
  rintro _ w3 ⟨hF, hb⟩
  obtain ⟨A1, c1, A2, c2, rfl, S1, S2⟩ := hform.out _ _ hF
  have z3 := hb.size
  replace O1 := Lib.hid ((hb.block w1.heap.size (by omega)).trans O1.out)
  replace O2 := Lib.hid ((hb.block w2.heap.size (by omega)).trans O2.out)
  replace HB := Lib.hid (HB.out.trans (hb.mono (by omega)))
  replace S1 := Lib.hid S1
  replace S2 := Lib.hid S2
  clear hb hF C3
  dsimp only []
  go_wp2_with fail
  obtain ⟨v3, hv3⟩ : ∃ v3, v3 = w3.alloc (.cells #[.string n2, .string i2, .string s2, .int .i64 k2, .slice A1 m c1, .slice A2 y c2] 31) := ⟨_, rfl⟩
  have hb : Below w3.heap.size w3 v3 := by rw [hv3]; exact (Below.refl _ _).alloc (Nat.le_refl _) _
  have O3 := Lib.hid (show v3.heap[w3.heap.size]? = some (.cells #[.string n2, .string i2, .string s2, .int .i64 k2, .slice A1 m c1, .slice A2 y c2] 31) by rw [hv3]; exact heap_alloc_new w3 _)
  have zv3 : v3.heap.size = w3.heap.size + 1 := by rw [hv3]; simp
  rw [← hv3]
  replace hv3 := Lib.hid hv3
  replace O1 := Lib.hid ((hb.block w1.heap.size (by omega)).trans O1.out)
  replace O2 := Lib.hid ((hb.block w2.heap.size (by omega)).trans O2.out)
  replace S1 := Lib.hid ((S1.out.below hb).more hb.size)
  replace S2 := Lib.hid ((S2.out.below hb).more hb.size)
  replace HB := Lib.hid (HB.out.trans (hb.mono (by omega)))
  clear hb
  refine (C4.out _).mono ?_
  rintro _ w4 ⟨hF, hb⟩
  obtain ⟨B1, d1, B2, d2, rfl, T1, T2⟩ := hform.out _ _ hF
  have z4 := hb.size
  replace O1 := Lib.hid ((hb.block w1.heap.size (by omega)).trans O1.out)
  replace O2 := Lib.hid ((hb.block w2.heap.size (by omega)).trans O2.out)
  replace S1 := Lib.hid ((S1.out.below hb).more hb.size)
  replace S2 := Lib.hid ((S2.out.below hb).more hb.size)
  replace O3 := Lib.hid ((hb.block w3.heap.size (by omega)).trans O3.out)
  replace HB := Lib.hid (HB.out.trans (hb.mono (by omega)))
  replace T1 := Lib.hid T1
  replace T2 := Lib.hid T2
  clear hb hF C4 hform
  dsimp only []
  go_wp2_with fail
  obtain ⟨v4, hv4⟩ : ∃ v4, v4 = w4.alloc (.cells #[.string n2, .string i2, .string s2, .int .i64 k2, .slice B1 m d1, .slice B2 y d2] 34) := ⟨_, rfl⟩
  have hb : Below w4.heap.size w4 v4 := by rw [hv4]; exact (Below.refl _ _).alloc (Nat.le_refl _) _
  have O4 := Lib.hid (show v4.heap[w4.heap.size]? = some (.cells #[.string n2, .string i2, .string s2, .int .i64 k2, .slice B1 m d1, .slice B2 y d2] 34) by rw [hv4]; exact heap_alloc_new w4 _)
  have zv4 : v4.heap.size = w4.heap.size + 1 := by rw [hv4]; simp
  rw [← hv4]
  replace hv4 := Lib.hid hv4
  replace O1 := Lib.hid ((hb.block w1.heap.size (by omega)).trans O1.out)
  replace O2 := Lib.hid ((hb.block w2.heap.size (by omega)).trans O2.out)
  replace S1 := Lib.hid ((S1.out.below hb).more hb.size)
  replace S2 := Lib.hid ((S2.out.below hb).more hb.size)
  replace O3 := Lib.hid ((hb.block w3.heap.size (by omega)).trans O3.out)
  replace T1 := Lib.hid ((T1.out.below hb).more hb.size)
  replace T2 := Lib.hid ((T2.out.below hb).more hb.size)
  replace HB := Lib.hid (HB.out.trans (hb.mono (by omega)))
  clear hb
  refine (C5.out _ HB.out).mono ?_
  rintro _ w5 ⟨g5, cp5, rfl, hA5, hb⟩
  have z5 := hb.size
  replace O1 := Lib.hid ((hb.block w1.heap.size (by omega)).trans O1.out)
  replace O2 := Lib.hid ((hb.block w2.heap.size (by omega)).trans O2.out)
  replace S1 := Lib.hid ((S1.out.below hb).more hb.size)
  replace S2 := Lib.hid ((S2.out.below hb).more hb.size)
  replace O3 := Lib.hid ((hb.block w3.heap.size (by omega)).trans O3.out)
  replace T1 := Lib.hid ((T1.out.below hb).more hb.size)
  replace T2 := Lib.hid ((T2.out.below hb).more hb.size)
  replace O4 := Lib.hid ((hb.block w4.heap.size (by omega)).trans O4.out)
  replace HB := Lib.hid (HB.out.trans (hb.mono (by omega)))
  have G5 := hA5.1
  replace hA5 := Lib.hid hA5
  clear hb C5
  dsimp only []
  go_wp2_with fail
  refine (refAttributes_any _).mono ?_
  rintro _ w6 ⟨rfl, hw6⟩
  have hb : Below w5.heap.size w5 w6 := by rw [hw6]; exact (Below.refl _ _).alloc (Nat.le_refl _) _
  have hA6 := Lib.hid (show AttS w6 w6.heap.size w5.heap.size by rw [hw6]; have := attS_new w5 26; simpa using this)
  have zv6 : w6.heap.size = w5.heap.size + 1 := by rw [hw6]; simp
  clear hw6
  replace O1 := Lib.hid ((hb.block w1.heap.size (by omega)).trans O1.out)
  replace O2 := Lib.hid ((hb.block w2.heap.size (by omega)).trans O2.out)
  replace S1 := Lib.hid ((S1.out.below hb).more hb.size)
  replace S2 := Lib.hid ((S2.out.below hb).more hb.size)
  replace O3 := Lib.hid ((hb.block w3.heap.size (by omega)).trans O3.out)
  replace T1 := Lib.hid ((T1.out.below hb).more hb.size)
  replace T2 := Lib.hid ((T2.out.below hb).more hb.size)
  replace O4 := Lib.hid ((hb.block w4.heap.size (by omega)).trans O4.out)
  replace hA5 := Lib.hid (hA5.out.below (hb.mono (by omega)))
  replace HB := Lib.hid (HB.out.trans (hb.mono (by omega)))
  clear hb
  dsimp only []
  go_wp2_with fail
  refine (C6.out _ HB.out).mono ?_
  rintro _ w7 ⟨g7, cp7, rfl, hC7, hb⟩
  have z7 := hb.size
  replace O1 := Lib.hid ((hb.block w1.heap.size (by omega)).trans O1.out)
  replace O2 := Lib.hid ((hb.block w2.heap.size (by omega)).trans O2.out)
  replace S1 := Lib.hid ((S1.out.below hb).more hb.size)
  replace S2 := Lib.hid ((S2.out.below hb).more hb.size)
  replace O3 := Lib.hid ((hb.block w3.heap.size (by omega)).trans O3.out)
  replace T1 := Lib.hid ((T1.out.below hb).more hb.size)
  replace T2 := Lib.hid ((T2.out.below hb).more hb.size)
  replace O4 := Lib.hid ((hb.block w4.heap.size (by omega)).trans O4.out)
  replace hA5 := Lib.hid (hA5.out.below (hb.mono (by omega)))
  replace hA6 := Lib.hid (hA6.out.below (hb.mono (by omega)))
  replace HB := Lib.hid (HB.out.trans (hb.mono (by omega)))
  have G7 := hC7.1
  replace hC7 := Lib.hid hC7
  clear hb C6
  dsimp only []
  go_wp2_with fail
  refine (refClasses_any _).mono ?_
  rintro _ w8 ⟨rfl, hw8⟩
  have hb : Below w7.heap.size w7 w8 := by rw [hw8]; exact allocs_below _ _ _ (Nat.le_refl _)
  have hC8 := Lib.hid (show ClsS w8 w7.heap.size (w7.heap.size + 17) (w7.heap.size + 16) by rw [hw8]; exact clsS_new w7)
  have zv8 : w7.heap.size + 17 ≤ w8.heap.size := hC8.out.2.1
  clear hw8
  replace O1 := Lib.hid ((hb.block w1.heap.size (by omega)).trans O1.out)
  replace O2 := Lib.hid ((hb.block w2.heap.size (by omega)).trans O2.out)
  replace S1 := Lib.hid ((S1.out.below hb).more hb.size)
  replace S2 := Lib.hid ((S2.out.below hb).more hb.size)
  replace O3 := Lib.hid ((hb.block w3.heap.size (by omega)).trans O3.out)
  replace T1 := Lib.hid ((T1.out.below hb).more hb.size)
  replace T2 := Lib.hid ((T2.out.below hb).more hb.size)
  replace O4 := Lib.hid ((hb.block w4.heap.size (by omega)).trans O4.out)
  replace hA5 := Lib.hid (hA5.out.below (hb.mono (by omega)))
  replace hA6 := Lib.hid (hA6.out.below (hb.mono (by omega)))
  replace hC7 := Lib.hid (hC7.out.below (hb.mono (by omega)))
  replace HB := Lib.hid (HB.out.trans (hb.mono (by omega)))
  clear hb
  dsimp only []
  go_wp2_with fail
  go_loopw [15] (fun iv wr => ∃ k : Nat, k ≤ 20 ∧ iv = .int .i64 (k : Int) ∧ Hid (Below w8.heap.size w8 wr)) (fun iv _ => 20 - (intOf iv).toNat)
  case atStart => exact ⟨0, Nat.zero_le _, rfl, Lib.hid (Below.refl _ _)⟩
  case round =>
    obtain ⟨k, hk, rfl, HR⟩ := hrel
    by_cases hlt : k < 20
    · have i0 : (0 : Int) ≤ (k : Int) := by omega
      have i1 : (k : Int) < 20 := by omega
      obtain ⟨a, ha⟩ : ∃ a, atts[k]? = some a := ⟨atts[k]'(by show k < 20; exact hlt), List.getElem?_eq_getElem _⟩
      obtain ⟨p0, p1, p2, p3, p4⟩ := (hA5.out.below (HR.out.mono (by omega))).2 k a ha
      obtain ⟨q0, q1, q2, q3, q4⟩ := (hA6.out.below (HR.out.mono (by omega))).2 k a ha
      replace ha := Lib.hid ha
      go_wp2_with fail
      go_quiet (fail)
      go_wp2_with fail
      go_roundw
      case rel => exact ⟨k + 1, by omega, by go_num, Lib.hid (below_drewN7 HR.out _)⟩
      case measure => simp [intOf]; omega
    · obtain rfl : k = 20 := by omega
      obtain ⟨wo, rfl⟩ : ∃ wo, wo = wr := ⟨_, rfl⟩
      have i1 : ¬ ((20 : Nat) : Int) < 20 := by omega
      have hb := HR.out
      replace O1 := Lib.hid ((hb.block w1.heap.size (by omega)).trans O1.out)
      replace O2 := Lib.hid ((hb.block w2.heap.size (by omega)).trans O2.out)
      replace S1 := Lib.hid ((S1.out.below hb).more hb.size)
      replace S2 := Lib.hid ((S2.out.below hb).more hb.size)
      replace O3 := Lib.hid ((hb.block w3.heap.size (by omega)).trans O3.out)
      replace T1 := Lib.hid ((T1.out.below hb).more hb.size)
      replace T2 := Lib.hid ((T2.out.below hb).more hb.size)
      replace O4 := Lib.hid ((hb.block w4.heap.size (by omega)).trans O4.out)
      replace hA5 := Lib.hid (hA5.out.below (hb.mono (by omega)))
      replace hA6 := Lib.hid (hA6.out.below (hb.mono (by omega)))
      replace hC7 := Lib.hid (hC7.out.below (hb.mono (by omega)))
      replace hC8 := Lib.hid (hC8.out.below (hb.mono (by omega)))

      replace HB := Lib.hid (HB.out.trans (HR.out.mono (by omega)))
      have zr := HR.out.size
      clear hb
      go_wp2_with fail
      go_loopw [16] (fun iv wr => ∃ k : Nat, k ≤ 10 ∧ iv = .int .i64 (k : Int) ∧ Hid (Below wo.heap.size wo wr)) (fun iv _ => 10 - (intOf iv).toNat)
      case atStart => exact ⟨0, Nat.zero_le _, rfl, Lib.hid (Below.refl _ _)⟩
      case round =>
        obtain ⟨k, hk, rfl, HX⟩ := hrel
        have zx := HX.out.size
        by_cases hlt : k < 10
        · have i0 : (0 : Int) ≤ (k : Int) := by omega
          have i1 : (k : Int) < 10 := by omega
          obtain ⟨c, hc⟩ : ∃ c, clss[k]? = some c := ⟨clss[k]'(by show k < 10; exact hlt), List.getElem?_eq_getElem _⟩
          obtain ⟨X1, x1, X2, x2, p0, p1, p2, p3, p4, p5, r1, r2, _, _⟩ := (hC7.out.below (HX.out.mono (by omega))).2.2 k c hc
          obtain ⟨Y1, y1, Y2, y2, q0, q1, q2, q3, q4, q5, t1, t2, _, _⟩ := (hC8.out.below (HX.out.mono (by omega))).2.2 k c hc
          obtain ⟨hm, hy, _⟩ := cls_few c (List.mem_of_getElem? hc)
          have CC := Lib.hid fun (W : World) (hb : Below wr.heap.size wr W) => class8_any (baO c.name) (baO c.oid) (baO c.super) (c.kind : Int) c.must c.may _ _ X1 X2 Y1 Y2 x1 x2 y1 y2 W rfl rfl (by omega) (by omega) ((r1.below (hb.mono (by omega))).more (by have := hb.size; omega)) ((r2.below (hb.mono (by omega))).more (by have := hb.size; omega)) ((t1.below (hb.mono (by omega))).more (by have := hb.size; omega)) ((t2.below (hb.mono (by omega))).more (by have := hb.size; omega))
          clear r1 r2 t1 t2
          replace hc := Lib.hid hc
          go_wp2_with fail
          go_still_tail 8, (by kernel_rfl)
          go_wp2_with fail
          refine (CC.out _ (Below.refl _ _).drew).mono ?_
          rintro _ w9 ⟨rfl, hb⟩
          dsimp only []
          have HX9 := Lib.hid (HX.out.trans (((Below.refl wr.heap.size wr).drew.trans hb).mono zx))
          clear hb CC
          go_wp2_with fail
          go_roundw
          case rel => exact ⟨k + 1, by omega, by go_num, HX9⟩
          case measure => simp [intOf]; omega
        · obtain rfl : k = 10 := by omega
          have i1 : ¬ ((10 : Nat) : Int) < 10 := by omega
          have hb := HX.out
          replace O1 := Lib.hid ((hb.block w1.heap.size (by omega)).trans O1.out)
          replace O2 := Lib.hid ((hb.block w2.heap.size (by omega)).trans O2.out)
          replace S1 := Lib.hid ((S1.out.below hb).more hb.size)
          replace S2 := Lib.hid ((S2.out.below hb).more hb.size)
          replace O3 := Lib.hid ((hb.block w3.heap.size (by omega)).trans O3.out)
          replace T1 := Lib.hid ((T1.out.below hb).more hb.size)
          replace T2 := Lib.hid ((T2.out.below hb).more hb.size)
          replace O4 := Lib.hid ((hb.block w4.heap.size (by omega)).trans O4.out)
          replace hA5 := Lib.hid (hA5.out.below (hb.mono (by omega)))
          replace hA6 := Lib.hid (hA6.out.below (hb.mono (by omega)))
          replace hC7 := Lib.hid (hC7.out.below (hb.mono (by omega)))
          replace hC8 := Lib.hid (hC8.out.below (hb.mono (by omega)))

          replace HB := Lib.hid (HB.out.trans (HX.out.mono (by omega)))
          clear hb
          have a0 : wr.cell? ⟨w1.heap.size, 0, none⟩ = some (.string n) := cell_of_row _ _ _ _ _ _ O1.out
          have a1 : wr.cell? ⟨w1.heap.size, 1, none⟩ = some (.string al) := cell_of_row _ _ _ _ _ _ O1.out
          have a2 : wr.cell? ⟨w1.heap.size, 2, none⟩ = some (.string oi) := cell_of_row _ _ _ _ _ _ O1.out
          have a3 : wr.cell? ⟨w1.heap.size, 3, none⟩ = some (.int .i64 sy) := cell_of_row _ _ _ _ _ _ O1.out
          have a4 : wr.cell? ⟨w1.heap.size, 4, none⟩ = some (.bool si) := cell_of_row _ _ _ _ _ _ O1.out
          have b0 : wr.cell? ⟨w2.heap.size, 0, none⟩ = some (.string n) := cell_of_row _ _ _ _ _ _ O2.out
          have b1 : wr.cell? ⟨w2.heap.size, 1, none⟩ = some (.string al) := cell_of_row _ _ _ _ _ _ O2.out
          have b2 : wr.cell? ⟨w2.heap.size, 2, none⟩ = some (.string oi) := cell_of_row _ _ _ _ _ _ O2.out
          have b3 : wr.cell? ⟨w2.heap.size, 3, none⟩ = some (.int .i64 sy) := cell_of_row _ _ _ _ _ _ O2.out
          have b4 : wr.cell? ⟨w2.heap.size, 4, none⟩ = some (.bool si) := cell_of_row _ _ _ _ _ _ O2.out
          have g0 : wr.cell? ⟨w3.heap.size, 0, none⟩ = some (.string n2) := cell_of_row _ _ _ _ _ _ O3.out
          have g1 : wr.cell? ⟨w3.heap.size, 1, none⟩ = some (.string i2) := cell_of_row _ _ _ _ _ _ O3.out
          have g2 : wr.cell? ⟨w3.heap.size, 2, none⟩ = some (.string s2) := cell_of_row _ _ _ _ _ _ O3.out
          have g3 : wr.cell? ⟨w3.heap.size, 3, none⟩ = some (.int .i64 k2) := cell_of_row _ _ _ _ _ _ O3.out
          have g4 : wr.cell? ⟨w3.heap.size, 4, none⟩ = some (.slice A1 m c1) := cell_of_row _ _ _ _ _ _ O3.out
          have g5' : wr.cell? ⟨w3.heap.size, 5, none⟩ = some (.slice A2 y c2) := cell_of_row _ _ _ _ _ _ O3.out
          have h0 : wr.cell? ⟨w4.heap.size, 0, none⟩ = some (.string n2) := cell_of_row _ _ _ _ _ _ O4.out
          have h1 : wr.cell? ⟨w4.heap.size, 1, none⟩ = some (.string i2) := cell_of_row _ _ _ _ _ _ O4.out
          have h2 : wr.cell? ⟨w4.heap.size, 2, none⟩ = some (.string s2) := cell_of_row _ _ _ _ _ _ O4.out
          have h3 : wr.cell? ⟨w4.heap.size, 3, none⟩ = some (.int .i64 k2) := cell_of_row _ _ _ _ _ _ O4.out
          have h4 : wr.cell? ⟨w4.heap.size, 4, none⟩ = some (.slice B1 m d1) := cell_of_row _ _ _ _ _ _ O4.out
          have h5 : wr.cell? ⟨w4.heap.size, 5, none⟩ = some (.slice B2 y d2) := cell_of_row _ _ _ _ _ _ O4.out
          have CC := Lib.hid (class8_any n2 i2 s2 k2 M Y m y A1 A2 B1 B2 c1 c2 d1 d2 wr hM.out hY.out (by omega) (by omega) S1.out S2.out T1.out T2.out)
          have e1 : (n.toList == n.toList) = true := by simp
          rcases ok with _ | _ <;> rcases ok2 with _ | _
          all_goals
            go_wp2_with fail
            refine CC.out.mono ?_
            rintro _ w9 ⟨rfl, hb⟩
            dsimp only []
            have HB9 := Lib.hid (HB.out.trans (hb.mono (by omega)))
            clear hb
            go_wp2_with fail
            go_ret
            exact ⟨rfl, HB9.out⟩
end Go.Proofs.YtllmffmmfpecaaaDoor
