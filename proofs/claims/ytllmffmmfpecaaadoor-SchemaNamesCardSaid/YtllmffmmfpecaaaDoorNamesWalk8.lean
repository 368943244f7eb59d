/-
  The law SchemaNames, over what the program's functions are to answer.
-/
import Derived.Test.YtllmffmmfpecaaaDoorFindsH
import Derived.Test.YtllmffmmfpecaaaDoorMB8
import Derived.Test.YtllmffmmfpecaaaDoorByB8
namespace Go.Proofs.YtllmffmmfpecaaaDoor
open Go.RowKit

theorem turn_of (n : Int) (m : Nat) (h0 : 0 < m) (h1 : m ≤ 1000) : ∃ k : Nat, (wrap64 (n.tmod (m : Int) + (m : Int))).tmod (m : Int) = (k : Int) ∧ k < m := by
  have p : (0 : Int) < (m : Int) := by omega
  have a1 := Int.tmod_lt_of_pos n p
  have a2 := Int.lt_tmod_of_pos n p
  have e : wrap64 (n.tmod (m : Int) + (m : Int)) = n.tmod (m : Int) + (m : Int) := IntWalk.wrap64_in _ (by omega)
  rw [e]
  have b1 := Int.tmod_lt_of_pos (n.tmod (m : Int) + (m : Int)) p
  have b2 : 0 ≤ (n.tmod (m : Int) + (m : Int)).tmod (m : Int) := Int.tmod_nonneg _ (by omega)
  exact ⟨((n.tmod (m : Int) + (m : Int)).tmod (m : Int)).toNat, by omega, by omega⟩
def upc (c : UInt8) : UInt8 := if decide (97 ≤ c.toNat) && decide (c.toNat ≤ 122) then UInt8.ofNat (c.toNat - 32) else c
def upL (l : List UInt8) : List UInt8 := l.map upc
/-- The first k letters made great. -/
def upK (l : List UInt8) (k : Nat) : List UInt8 := upL (l.take k) ++ l.drop k
theorem upK_len (l : List UInt8) (k : Nat) : (upK l k).length = l.length := by
  unfold upK upL
  rw [List.length_append, List.length_map, ← List.length_append, List.take_append_drop]
theorem upK_at (l : List UInt8) (k : Nat) (h : k < l.length) : (upK l k)[k]? = some l[k] := by
  unfold upK upL
  rw [List.getElem?_append_right (by rw [List.length_map, List.length_take]; omega), List.getElem?_drop, List.length_map, List.length_take, Nat.min_eq_left (by omega), Nat.sub_self, Nat.add_zero, List.getElem?_eq_getElem h]
theorem upK_succ (l : List UInt8) (k : Nat) (h : k < l.length) : upK l (k + 1) = (upK l k).set k (upc l[k]) := by
  unfold upK upL
  rw [List.set_append_right _ _ (by rw [List.length_map, List.length_take]; omega), List.length_map, List.length_take, Nat.min_eq_left (by omega), Nat.sub_self, List.take_succ_eq_append_getElem h, List.map_append, List.append_assoc, List.drop_eq_getElem_cons h (i := k)]
  rfl
theorem upK_end (l : List UInt8) : upK l l.length = upL l := by
  unfold upK
  rw [List.take_length, List.drop_length, List.append_nil]
theorem upK_zero (l : List UInt8) : upK l 0 = l := by unfold upK upL; simp
theorem att_up : ∀ a ∈ atts, findA (upL a.name) = some a := by decide +kernel
theorem att_size : ∀ a ∈ atts, a.name.length ≤ 60 ∧ a.oid.length ≤ 60 ∧ a.alias.length ≤ 60 ∧ 0 < a.name.length := by decide +kernel
theorem cls_same : ∀ c ∈ clss, findC c.name = some c ∧ findC c.oid = some c ∧ c.name.length ≤ 60 ∧ c.oid.length ≤ 60 := by decide +kernel
set_option maxRecDepth 8000 in
set_option maxHeartbeats 4000000 in
theorem names8_walk (n : Int) (w0 : World) (H : FindsH w0) :
    Calls Tryd.prog 7 #[.int .i64 n] w0 fun e w' => e = .returned (.bool true) ∧ Below w0.heap.size w0 w' := by
  have C5 := Lib.hid H.attributes
  have C6 := Lib.hid H.classes
  obtain ⟨k, hk, hk20⟩ := turn_of n 20 (by omega) (by omega)
  obtain ⟨j, hj, hj10⟩ := turn_of n 10 (by omega) (by omega)
  obtain ⟨a, ha⟩ : ∃ a, atts[k]? = some a := ⟨atts[k]'(by show k < 20; exact hk20), List.getElem?_eq_getElem _⟩
  obtain ⟨c, hc⟩ : ∃ c, clss[j]? = some c := ⟨clss[j]'(by show j < 10; exact hj10), List.getElem?_eq_getElem _⟩
  have k0 : (0 : Int) ≤ (k : Int) := by omega
  have k1 : (k : Int) < 20 := by omega
  have j0 : (0 : Int) ≤ (j : Int) := by omega
  have j1 : (j : Int) < 10 := by omega
  replace hk : (wrap64 (n.tmod 20 + 20)).tmod 20 = (k : Int) := hk
  replace hj : (wrap64 (n.tmod 10 + 10)).tmod 10 = (j : Int) := hj
  replace ha := Lib.hid ha
  replace hc := Lib.hid hc
  replace H := Lib.hid H
  go_enter Tryd.func7, Tryd.ntmps7
  go_wp2_with fail
  refine (C5.out w0 (Below.refl _ _)).mono ?_
  rintro _ w1 ⟨g, cp, rfl, hA, hb⟩
  have z1 := hb.size
  have HB := Lib.hid hb
  have G1 := hA.1
  replace hA := Lib.hid hA
  clear hb C5
  dsimp only []
  go_wp2_with fail
  refine (C6.out w1 HB.out).mono ?_
  rintro _ w2 ⟨g2, cp2, rfl, hC, hb⟩
  have z2 := hb.size
  replace HB := Lib.hid (HB.out.trans (hb.mono z1))
  replace hA := Lib.hid (hA.out.below hb)
  have G2 := hC.1
  replace hC := Lib.hid hC
  clear hb C6
  obtain ⟨p0, p1, p2, p3, p4⟩ := hA.out.2 k a ha.out
  obtain ⟨v2, hv2⟩ : ∃ v2, v2 = w2.alloc (.cells #[.string (baO a.name), .string (baO a.alias), .string (baO a.oid), .int .i64 (a.syn : Int), .bool a.single] 23) := ⟨_, rfl⟩
  have hb : Below w2.heap.size w2 v2 := by rw [hv2]; exact (Below.refl _ _).alloc (Nat.le_refl _) _
  have O2 := Lib.hid (show v2.heap[w2.heap.size]? = some (.cells #[.string (baO a.name), .string (baO a.alias), .string (baO a.oid), .int .i64 (a.syn : Int), .bool a.single] 23) by rw [hv2]; exact heap_alloc_new w2 _)
  have zv2 : v2.heap.size = w2.heap.size + 1 := by rw [hv2]; simp
  replace HB := Lib.hid (HB.out.trans (hb.mono (by omega)))
  replace hC := Lib.hid (hC.out.below hb)
  have zn := att_size a (List.mem_of_getElem? ha.out)
  obtain ⟨m, hm⟩ : ∃ m, m = a.name.length := ⟨_, rfl⟩
  have hsz : (baO a.name).size = m := by rw [hm, baO_size]
  have cv := Lib.run_convert_string_bytes (P := Tryd.prog) v2 9 59 5 (baO a.name) Tryd.underlying9 Tryd.underlying59 Tryd.underlying5
  have hW : ByB (Lib.bytesWorld v2 5 (baO a.name)) v2.heap.size (upK a.name 0) := by rw [upK_zero]; exact ByB.new v2 (baO a.name)
  have hBW := below_bytes v2 (baO a.name)
  have hWs : v2.heap.size < (Lib.bytesWorld v2 5 (baO a.name)).heap.size := by rw [Lib.bytesWorld_size]; omega
  obtain ⟨W, hWe⟩ : ∃ W, Lib.bytesWorld v2 5 (baO a.name) = W := ⟨_, rfl⟩
  obtain ⟨cap, hcap⟩ : ∃ cap, grownCap v2 (baO a.name).size 0 5 = cap := ⟨_, rfl⟩
  rw [hcap, hWe, hsz] at cv
  rw [hWe] at hW hBW hWs
  obtain ⟨G, hG⟩ : ∃ G, G = v2.heap.size := ⟨_, rfl⟩
  rw [← hG] at cv hW hWs
  rw [hv2] at cv
  have hGB : Hid (v2.heap.size ≤ G) := Lib.hid (by omega)
  have hend : Hid (upK a.name m = upL a.name) := Lib.hid (by rw [hm]; exact upK_end a.name)
  have hat : Hid (∀ k, k < m → ∃ c0, (upK a.name k)[k]? = some c0 ∧ upK a.name (k + 1) = (upK a.name k).set k (upc c0)) := Lib.hid fun k h => ⟨a.name[k]'(by rw [← hm]; exact h), upK_at a.name k _, upK_succ a.name k _⟩
  replace HB := Lib.hid (HB.out.trans (hBW.mono (by omega)))
  replace hC := Lib.hid (hC.out.below (hBW.mono (by omega)))
  replace O2 := Lib.hid ((hBW.block w2.heap.size (by omega)).trans O2.out)
  replace hW := Lib.hid hW
  replace hWe := Lib.hid hWe
  have hm0 : m ≤ 60 := by omega
  have zW : v2.heap.size < W.heap.size := by omega
  replace hG := Lib.hid hG
  replace hcap := Lib.hid hcap
  replace hsz := Lib.hid hsz
  replace hm := Lib.hid hm
  replace hv2 := Lib.hid hv2
  clear hb hBW
  dsimp only []
  go_wp2_with fail
  go_loopw [7] (fun i wr => ∃ k : Nat, k ≤ m ∧ i = .int .i64 (k : Int) ∧ Hid (ByB wr G (upK a.name k)) ∧ Hid (Below v2.heap.size W wr)) (fun i _ => m - (intOf i).toNat)
  case atStart => exact ⟨0, Nat.zero_le _, rfl, hW, Lib.hid (Below.refl _ _)⟩
  case round =>
    obtain ⟨q, hq, rfl, HW, HR⟩ := hrel
    by_cases hlt : q < m
    · obtain ⟨c0, h1, h2⟩ := hat.out q hlt
      obtain ⟨g1, g2⟩ := HW.out q c0 h1
      have i0 : (0 : Int) ≤ (q : Int) := by omega
      have i1 : (q : Int) < (m : Int) := by omega
      have hset := ByB.set HW.out q (by rw [upK_len]; have := hm.out; omega) (upc c0)
      rw [← h2] at hset
      obtain ⟨x, hx⟩ : ∃ x, x = c0.toNat := ⟨_, rfl⟩
      have hxb : x < 256 := by rw [hx]; exact c0.toNat_lt
      by_cases g : 97 ≤ x ∧ x ≤ 122
      · have hd : (((upc c0).toNat : Nat) : Int) = (x : Int) - 32 := by
          unfold upc
          rw [← hx, decide_eq_true g.1, decide_eq_true g.2]
          show (((UInt8.ofNat (x - 32)).toNat : Nat) : Int) = _
          rw [UInt8.toNat_ofNat']
          omega
        have e1 : 97 ≤ (x : Int) := by omega
        have e2 : (x : Int) ≤ 122 := by omega
        have e3 : decide (97 ≤ (x : Int)) = true := decide_eq_true e1
        have e4 : decide ((x : Int) ≤ 122) = true := decide_eq_true e2
        have e5 : 0 ≤ (x : Int) - 32 := by omega
        have e6 : (x : Int) - 32 < 256 := by omega
        rw [hd] at hset
        rw [← hx] at g1
        clear hd g
        replace hset := Lib.hid hset
        replace h1 := Lib.hid h1
        replace h2 := Lib.hid h2
        replace hx := Lib.hid hx
        go_wp2_with fail
        go_roundw
        case rel => exact ⟨q + 1, by omega, by go_num, hset, Lib.hid (HR.out.setCell (p := ⟨G, q, none⟩) hGB.out _)⟩
        case measure => simp [intOf]; omega
      · have hup : upc c0 = c0 := by
          unfold upc
          rw [← hx]
          by_cases g3 : 97 ≤ x
          · rw [decide_eq_false (show ¬ x ≤ 122 from fun e => g ⟨g3, e⟩), Bool.and_false]
            rfl
          · rw [decide_eq_false g3, Bool.false_and]
            rfl
        have hsame : upK a.name (q + 1) = upK a.name q := by
          rw [h2, hup]
          refine List.ext_getElem? fun j => ?_
          rw [List.getElem?_set]
          by_cases hj : q = j
          · subst hj
            rw [if_pos rfl, if_pos (by rw [upK_len]; have := hm.out; omega), h1]
          · rw [if_neg hj]
        have HC2 : Hid (ByB wr G (upK a.name (q + 1))) := Lib.hid (by rw [hsame]; exact HW.out)
        rw [← hx] at g1
        clear hsame hup
        by_cases e1 : 97 ≤ (x : Int)
        · have e2 : ¬ (x : Int) ≤ 122 := fun h => g ⟨by omega, by omega⟩
          have e3 : decide (97 ≤ (x : Int)) = true := decide_eq_true e1
          have e4 : decide ((x : Int) ≤ 122) = false := decide_eq_false e2
          clear g
          replace hset := Lib.hid hset
          replace h1 := Lib.hid h1
          replace h2 := Lib.hid h2
          replace hx := Lib.hid hx
          go_wp2_with fail
          go_roundw
          case rel => exact ⟨q + 1, by omega, by go_num, HC2, HR⟩
          case measure => simp [intOf]; omega
        · have e3 : decide (97 ≤ (x : Int)) = false := decide_eq_false e1
          clear g
          replace hset := Lib.hid hset
          replace h1 := Lib.hid h1
          replace h2 := Lib.hid h2
          replace hx := Lib.hid hx
          go_wp2_with fail
          go_roundw
          case rel => exact ⟨q + 1, by omega, by go_num, HC2, HR⟩
          case measure => simp [intOf]; omega
    · obtain rfl : q = m := by omega
      have zr := HR.out.size
      have hb := HR.out
      replace HB := Lib.hid (HB.out.trans (hb.mono (by omega)))
      replace hC := Lib.hid (hC.out.below (hb.mono (by omega)))
      replace O2 := Lib.hid ((hb.block w2.heap.size (by omega)).trans O2.out)
      clear hb
      have HW2 : Hid (ByB wr G (upL a.name)) := Lib.hid (by rw [← hend.out]; exact HW.out)
      have hul : (upL a.name).length = q := by rw [upL, List.length_map]; exact hm.out.symm
      clear HW
      have hname := att_name a (List.mem_of_getElem? ha.out)
      have hup := att_up a (List.mem_of_getElem? ha.out)
      have CF := Lib.hid fun (x : List UInt8) (W : World) (hx : findA x = some a) (hl : x.length ≤ 600) (hB : Below w0.heap.size w0 W) => show Calls Tryd.prog 8 #[.string (baO x)] W fun e w' => e = .returned (.tuple #[.agg #[.string (baO a.name), .string (baO a.alias), .string (baO a.oid), .int .i64 (a.syn : Int), .bool a.single], .bool true]) ∧ Below W.heap.size W w' by
        have := H.out.find (baO x) W hB (by rw [baO_size]; exact hl)
        rw [baO_list, hx] at this
        exact this
      have hcn := cls_same c (List.mem_of_getElem? hc.out)
      have CG := Lib.hid fun (x : List UInt8) (W : World) (hx : findC x = some c) (hl : x.length ≤ 600) (hB : Below w0.heap.size w0 W) => show Calls Tryd.prog 10 #[.string (baO x)] W fun e w' => (∃ A1 c1 A2 c2, e = .returned (.tuple #[.agg #[.string (baO c.name), .string (baO c.oid), .string (baO c.super), .int .i64 (c.kind : Int), .slice A1 c.must.length c1, .slice A2 c.may.length c2], .bool true])) ∧ Below W.heap.size W w' by
        have := H.out.findClass (baO x) W hB (by rw [baO_size]; exact hl)
        rw [baO_list, hx] at this
        exact this.mono fun _ _ ⟨⟨A1, c1, A2, c2, he, _, _⟩, hb⟩ => ⟨⟨A1, c1, A2, c2, he⟩, hb⟩
      replace hname := Lib.hid hname
      replace hup := Lib.hid hup
      replace hcn := Lib.hid hcn
      replace hul := Lib.hid hul
      have e1 : ((baO a.name).toList == (baO a.name).toList) = true := by simp
      have p0 : wr.cell? ⟨w2.heap.size, 0, none⟩ = some (.string (baO a.name)) := cell_of_row _ _ _ _ _ _ O2.out
      go_wp2_with fail
      refine (CF.out a.name _ hname.out.1 (by omega) HB.out).mono ?_
      rintro _ w3 ⟨rfl, hb⟩
      have z3 := hb.size
      replace O2 := Lib.hid ((hb.block w2.heap.size (by omega)).trans O2.out)
      replace HB := Lib.hid (HB.out.trans (hb.mono (by omega)))
      replace hC := Lib.hid (hC.out.below (hb.mono (by omega)))
      have HV := Lib.hid (show Below (v2.heap.size + 1) wr w3 from hb.mono (by omega))
      clear hb
      obtain ⟨v3, hv3⟩ : ∃ v3, v3 = w3.alloc (.cells #[.string (baO a.name), .string (baO a.alias), .string (baO a.oid), .int .i64 (a.syn : Int), .bool a.single] 23) := ⟨_, rfl⟩
      have hb : Below w3.heap.size w3 v3 := by rw [hv3]; exact (Below.refl _ _).alloc (Nat.le_refl _) _
      have O3 := Lib.hid (show v3.heap[w3.heap.size]? = some (.cells #[.string (baO a.name), .string (baO a.alias), .string (baO a.oid), .int .i64 (a.syn : Int), .bool a.single] 23) by rw [hv3]; exact heap_alloc_new w3 _)
      have zv3 : v3.heap.size = w3.heap.size + 1 := by rw [hv3]; simp
      replace O2 := Lib.hid ((hb.block w2.heap.size (by omega)).trans O2.out)
      replace HB := Lib.hid (HB.out.trans (hb.mono (by omega)))
      replace hC := Lib.hid (hC.out.below (hb.mono (by omega)))
      replace HV := Lib.hid (HV.out.trans (hb.mono (by omega)))
      clear hb
      have p0 : v3.cell? ⟨w2.heap.size, 2, none⟩ = some (.string (baO a.oid)) := cell_of_row _ _ _ _ _ _ O2.out
      rw [hv3] at p0
      replace hv3 := Lib.hid hv3
      dsimp only []
      go_wp2_with fail
      rw [← hv3.out]
      refine (CF.out a.oid _ hname.out.2.1 (by omega) HB.out).mono ?_
      rintro _ w4 ⟨rfl, hb⟩
      have z4 := hb.size
      replace O2 := Lib.hid ((hb.block w2.heap.size (by omega)).trans O2.out)
      replace O3 := Lib.hid ((hb.block w3.heap.size (by omega)).trans O3.out)
      replace HB := Lib.hid (HB.out.trans (hb.mono (by omega)))
      replace hC := Lib.hid (hC.out.below (hb.mono (by omega)))
      replace HV := Lib.hid (HV.out.trans (hb.mono (by omega)))
      clear hb
      obtain ⟨v4, hv4⟩ : ∃ v4, v4 = w4.alloc (.cells #[.string (baO a.name), .string (baO a.alias), .string (baO a.oid), .int .i64 (a.syn : Int), .bool a.single] 23) := ⟨_, rfl⟩
      have hb : Below w4.heap.size w4 v4 := by rw [hv4]; exact (Below.refl _ _).alloc (Nat.le_refl _) _
      have O4 := Lib.hid (show v4.heap[w4.heap.size]? = some (.cells #[.string (baO a.name), .string (baO a.alias), .string (baO a.oid), .int .i64 (a.syn : Int), .bool a.single] 23) by rw [hv4]; exact heap_alloc_new w4 _)
      have zv4 : v4.heap.size = w4.heap.size + 1 := by rw [hv4]; simp
      replace O2 := Lib.hid ((hb.block w2.heap.size (by omega)).trans O2.out)
      replace O3 := Lib.hid ((hb.block w3.heap.size (by omega)).trans O3.out)
      replace HB := Lib.hid (HB.out.trans (hb.mono (by omega)))
      replace hC := Lib.hid (hC.out.below (hb.mono (by omega)))
      replace HV := Lib.hid (HV.out.trans (hb.mono (by omega)))
      clear hb
      have cb := run_convert_bytes_back (P := Tryd.prog) v4 59 9 5 ⟨G, 0, none⟩ cap (upL a.name) Tryd.underlying59 Tryd.underlying5 Tryd.underlying9 (fun j hj => by
        have := (HW2.out j _ (List.getElem?_eq_getElem hj)).1
        have e0 : (⟨G, 0, none⟩ : Addr).add j = ⟨G, j, none⟩ := by unfold Addr.add; split <;> simp_all
        rw [e0]
        exact (HV.out.cell (p := ⟨G, j, none⟩) (by show G < _; have := hG.out; omega)).trans this)
      rw [hul.out] at cb
      rw [hv4] at cb
      replace hv4 := Lib.hid hv4
      dsimp only []
      go_wp2_with fail
      rw [← hv4.out]
      refine (CF.out (upL a.name) _ hup.out (by rw [hul.out]; omega) HB.out).mono ?_
      rintro _ w5 ⟨rfl, hb⟩
      have z5 := hb.size
      replace O2 := Lib.hid ((hb.block w2.heap.size (by omega)).trans O2.out)
      replace O3 := Lib.hid ((hb.block w3.heap.size (by omega)).trans O3.out)
      replace O4 := Lib.hid ((hb.block w4.heap.size (by omega)).trans O4.out)
      replace HB := Lib.hid (HB.out.trans (hb.mono (by omega)))
      replace hC := Lib.hid (hC.out.below (hb.mono (by omega)))
      replace HV := Lib.hid (HV.out.trans (hb.mono (by omega)))
      clear hb
      obtain ⟨v5, hv5⟩ : ∃ v5, v5 = w5.alloc (.cells #[.string (baO a.name), .string (baO a.alias), .string (baO a.oid), .int .i64 (a.syn : Int), .bool a.single] 23) := ⟨_, rfl⟩
      have hb : Below w5.heap.size w5 v5 := by rw [hv5]; exact (Below.refl _ _).alloc (Nat.le_refl _) _
      have O5 := Lib.hid (show v5.heap[w5.heap.size]? = some (.cells #[.string (baO a.name), .string (baO a.alias), .string (baO a.oid), .int .i64 (a.syn : Int), .bool a.single] 23) by rw [hv5]; exact heap_alloc_new w5 _)
      have zv5 : v5.heap.size = w5.heap.size + 1 := by rw [hv5]; simp
      replace O2 := Lib.hid ((hb.block w2.heap.size (by omega)).trans O2.out)
      replace O3 := Lib.hid ((hb.block w3.heap.size (by omega)).trans O3.out)
      replace O4 := Lib.hid ((hb.block w4.heap.size (by omega)).trans O4.out)
      replace HB := Lib.hid (HB.out.trans (hb.mono (by omega)))
      replace hC := Lib.hid (hC.out.below (hb.mono (by omega)))
      replace HV := Lib.hid (HV.out.trans (hb.mono (by omega)))
      clear hb
      have p0 : v5.cell? ⟨w2.heap.size, 0, none⟩ = some (.string (baO a.name)) := cell_of_row _ _ _ _ _ _ O2.out
      have p1 : v5.cell? ⟨w2.heap.size, 1, none⟩ = some (.string (baO a.alias)) := cell_of_row _ _ _ _ _ _ O2.out
      have p2 : v5.cell? ⟨w2.heap.size, 2, none⟩ = some (.string (baO a.oid)) := cell_of_row _ _ _ _ _ _ O2.out
      have p3 : v5.cell? ⟨w2.heap.size, 3, none⟩ = some (.int .i64 (a.syn : Int)) := cell_of_row _ _ _ _ _ _ O2.out
      have p4 : v5.cell? ⟨w2.heap.size, 4, none⟩ = some (.bool a.single) := cell_of_row _ _ _ _ _ _ O2.out
      have q0 : v5.cell? ⟨w3.heap.size, 0, none⟩ = some (.string (baO a.name)) := cell_of_row _ _ _ _ _ _ O3.out
      have q1 : v5.cell? ⟨w3.heap.size, 1, none⟩ = some (.string (baO a.alias)) := cell_of_row _ _ _ _ _ _ O3.out
      have q2 : v5.cell? ⟨w3.heap.size, 2, none⟩ = some (.string (baO a.oid)) := cell_of_row _ _ _ _ _ _ O3.out
      have q3 : v5.cell? ⟨w3.heap.size, 3, none⟩ = some (.int .i64 (a.syn : Int)) := cell_of_row _ _ _ _ _ _ O3.out
      have q4 : v5.cell? ⟨w3.heap.size, 4, none⟩ = some (.bool a.single) := cell_of_row _ _ _ _ _ _ O3.out
      have r0 : v5.cell? ⟨w4.heap.size, 0, none⟩ = some (.string (baO a.name)) := cell_of_row _ _ _ _ _ _ O4.out
      have r1 : v5.cell? ⟨w4.heap.size, 1, none⟩ = some (.string (baO a.alias)) := cell_of_row _ _ _ _ _ _ O4.out
      have r2 : v5.cell? ⟨w4.heap.size, 2, none⟩ = some (.string (baO a.oid)) := cell_of_row _ _ _ _ _ _ O4.out
      have r3 : v5.cell? ⟨w4.heap.size, 3, none⟩ = some (.int .i64 (a.syn : Int)) := cell_of_row _ _ _ _ _ _ O4.out
      have r4 : v5.cell? ⟨w4.heap.size, 4, none⟩ = some (.bool a.single) := cell_of_row _ _ _ _ _ _ O4.out
      rw [hv5] at p0 p1 p2 p3 p4 q0 q1 q2 q3 q4 r0 r1 r2 r3 r4
      replace hv5 := Lib.hid hv5
      by_cases ea : a.alias = []
      · have f1 : (baO a.alias).toList = [] := by rw [baO_toList, ea]
        have f2 : (baO a.alias).toList.isEmpty = true := by rw [f1]; rfl
        replace ea := Lib.hid ea
        obtain ⟨X1, x1, X2, x2, c0, c1, c2, c3, c4, c5, _, _, _, _⟩ := hC.out.2.2 j c hc.out
        rw [hv5.out] at c0 c1 c2 c3 c4 c5
        dsimp only []
        go_wp2_with fail
        rw [← hv5.out]
        obtain ⟨u, hu⟩ : ∃ u, u = v5.alloc (.cells #[.string (baO c.name), .string (baO c.oid), .string (baO c.super), .int .i64 (c.kind : Int), .slice X1 c.must.length x1, .slice X2 c.may.length x2] 31) := ⟨_, rfl⟩
        rw [← hu]
        have OU := Lib.hid (show u.heap[v5.heap.size]? = some (.cells #[.string (baO c.name), .string (baO c.oid), .string (baO c.super), .int .i64 (c.kind : Int), .slice X1 c.must.length x1, .slice X2 c.may.length x2] 31) by rw [hu]; exact heap_alloc_new v5 _)
        have zu : u.heap.size = v5.heap.size + 1 := by rw [hu]; simp
        have HBu := Lib.hid (HB.out.trans (show Below w0.heap.size v5 u by rw [hu]; exact (Below.refl _ _).alloc (by have := HB.out.size; omega) _))
        replace hu := Lib.hid hu
        refine (CG.out c.name u hcn.out.1 (by have := hcn.out.2.2.1; omega) HBu.out).mono ?_
        rintro _ y1 ⟨⟨E1, d1, E2, d2, rfl⟩, hb⟩
        have zy1 := hb.size
        have HB1 := Lib.hid (HBu.out.trans (hb.mono (by have := HBu.out.size; omega)))
        have OU1 := Lib.hid ((hb.block v5.heap.size (by omega)).trans OU.out)
        clear hb
        obtain ⟨m1, hm1⟩ : ∃ m1, m1 = y1.alloc (.cells #[.string (baO c.name), .string (baO c.oid), .string (baO c.super), .int .i64 (c.kind : Int), .slice E1 c.must.length d1, .slice E2 c.may.length d2] 31) := ⟨_, rfl⟩
        have hb : Below y1.heap.size y1 m1 := by rw [hm1]; exact (Below.refl _ _).alloc (Nat.le_refl _) _
        have zm1 : m1.heap.size = y1.heap.size + 1 := by rw [hm1]; simp
        have OP := Lib.hid (show m1.heap[y1.heap.size]? = some (.cells #[.string (baO c.name), .string (baO c.oid), .string (baO c.super), .int .i64 (c.kind : Int), .slice E1 c.must.length d1, .slice E2 c.may.length d2] 31) by rw [hm1]; exact heap_alloc_new y1 _)
        have OU2 := Lib.hid ((hb.block v5.heap.size (by omega)).trans OU1.out)
        have HB2 := Lib.hid (HB1.out.trans (hb.mono (by have := HB1.out.size; omega)))
        clear hb
        have k1 : m1.cell? ⟨v5.heap.size, 1, none⟩ = some (.string (baO c.oid)) := cell_of_row _ _ _ _ _ _ OU2.out
        rw [hm1, zv5] at k1
        replace hm1 := Lib.hid hm1
        dsimp only []
        go_wp2_with fail
        rw [← hm1.out]
        refine (CG.out c.oid m1 hcn.out.2.1 (by have := hcn.out.2.2.2; omega) HB2.out).mono ?_
        rintro _ y2 ⟨⟨E3, d3, E4, d4, rfl⟩, hb⟩
        have zy2 := hb.size
        have HB3 := Lib.hid (HB2.out.trans (hb.mono (by have := HB2.out.size; omega)))
        have OU3 := Lib.hid ((hb.block v5.heap.size (by omega)).trans OU2.out)
        have OP3 := Lib.hid ((hb.block y1.heap.size (by omega)).trans OP.out)
        clear hb
        have hb : Below y2.heap.size y2 (y2.alloc (.cells #[.string (baO c.name), .string (baO c.oid), .string (baO c.super), .int .i64 (c.kind : Int), .slice E3 c.must.length d3, .slice E4 c.may.length d4] 31)) := (Below.refl _ _).alloc (Nat.le_refl _) _
        have OU4 := (hb.block v5.heap.size (by omega)).trans OU3.out
        have OP4 := (hb.block y1.heap.size (by omega)).trans OP3.out
        have HB4 := Lib.hid (HB3.out.trans (hb.mono (by have := HB3.out.size; omega)))
        clear hb
        have l0 : (y2.alloc (.cells #[.string (baO c.name), .string (baO c.oid), .string (baO c.super), .int .i64 (c.kind : Int), .slice E3 c.must.length d3, .slice E4 c.may.length d4] 31)).cell? ⟨v5.heap.size, 0, none⟩ = some (.string (baO c.name)) := cell_of_row _ _ _ _ _ _ OU4
        have l2 : (y2.alloc (.cells #[.string (baO c.name), .string (baO c.oid), .string (baO c.super), .int .i64 (c.kind : Int), .slice E3 c.must.length d3, .slice E4 c.may.length d4] 31)).cell? ⟨v5.heap.size, 2, none⟩ = some (.string (baO c.super)) := cell_of_row _ _ _ _ _ _ OU4
        have n0 : (y2.alloc (.cells #[.string (baO c.name), .string (baO c.oid), .string (baO c.super), .int .i64 (c.kind : Int), .slice E3 c.must.length d3, .slice E4 c.may.length d4] 31)).cell? ⟨y1.heap.size, 0, none⟩ = some (.string (baO c.name)) := cell_of_row _ _ _ _ _ _ OP4
        have n2 : (y2.alloc (.cells #[.string (baO c.name), .string (baO c.oid), .string (baO c.super), .int .i64 (c.kind : Int), .slice E3 c.must.length d3, .slice E4 c.may.length d4] 31)).cell? ⟨y1.heap.size, 2, none⟩ = some (.string (baO c.super)) := cell_of_row _ _ _ _ _ _ OP4
        rw [zv5] at l0 l2
        replace OU4 := Lib.hid OU4
        replace OP4 := Lib.hid OP4
        have e1 : ((baO c.name).toList == (baO c.name).toList) = true := by simp
        have e2 : ((baO c.super).toList == (baO c.super).toList) = true := by simp
        by_cases e0 : c.super = []
        · have f1 : (baO c.super).toList = [] := by rw [baO_toList, e0]
          have f2 : (baO c.super).toList.isEmpty = true := by rw [f1]; rfl
          replace e0 := Lib.hid e0
          dsimp only []
          go_wp2_with fail
          go_ret
          exact ⟨rfl, HB4.out⟩
        · have f1 : ¬ (baO c.super).toList = [] := by rw [baO_toList]; exact e0
          have f2 : (baO c.super).toList.isEmpty = false := by simpa using f1
          replace e0 := Lib.hid e0
          dsimp only []
          go_wp2_with fail
          go_ret
          exact ⟨rfl, HB4.out⟩
      · have f1 : ¬ (baO a.alias).toList = [] := by rw [baO_toList]; exact ea
        have f2 : (baO a.alias).toList.isEmpty = false := by simpa using f1
        have hal := Lib.hid (hname.out.2.2.1.resolve_left ea)
        replace ea := Lib.hid ea
        dsimp only []
        go_wp2_with fail
        rw [← hv5.out]
        refine (CF.out a.alias _ hal.out (by omega) HB.out).mono ?_
        rintro _ w6 ⟨rfl, hb⟩
        have z6 := hb.size
        replace O2 := Lib.hid ((hb.block w2.heap.size (by omega)).trans O2.out)
        replace O3 := Lib.hid ((hb.block w3.heap.size (by omega)).trans O3.out)
        replace O4 := Lib.hid ((hb.block w4.heap.size (by omega)).trans O4.out)
        replace O5 := Lib.hid ((hb.block w5.heap.size (by omega)).trans O5.out)
        replace HB := Lib.hid (HB.out.trans (hb.mono (by omega)))
        replace hC := Lib.hid (hC.out.below (hb.mono (by omega)))
        replace HV := Lib.hid (HV.out.trans (hb.mono (by omega)))
        clear hb
        obtain ⟨v6, hv6⟩ : ∃ v6, v6 = w6.alloc (.cells #[.string (baO a.name), .string (baO a.alias), .string (baO a.oid), .int .i64 (a.syn : Int), .bool a.single] 23) := ⟨_, rfl⟩
        have hb : Below w6.heap.size w6 v6 := by rw [hv6]; exact (Below.refl _ _).alloc (Nat.le_refl _) _
        have O6 := Lib.hid (show v6.heap[w6.heap.size]? = some (.cells #[.string (baO a.name), .string (baO a.alias), .string (baO a.oid), .int .i64 (a.syn : Int), .bool a.single] 23) by rw [hv6]; exact heap_alloc_new w6 _)
        have zv6 : v6.heap.size = w6.heap.size + 1 := by rw [hv6]; simp
        replace O2 := Lib.hid ((hb.block w2.heap.size (by omega)).trans O2.out)
        replace O3 := Lib.hid ((hb.block w3.heap.size (by omega)).trans O3.out)
        replace O4 := Lib.hid ((hb.block w4.heap.size (by omega)).trans O4.out)
        replace O5 := Lib.hid ((hb.block w5.heap.size (by omega)).trans O5.out)
        replace HB := Lib.hid (HB.out.trans (hb.mono (by omega)))
        replace hC := Lib.hid (hC.out.below (hb.mono (by omega)))
        replace HV := Lib.hid (HV.out.trans (hb.mono (by omega)))
        clear hb
        have p0 : v6.cell? ⟨w2.heap.size, 0, none⟩ = some (.string (baO a.name)) := cell_of_row _ _ _ _ _ _ O2.out
        have p1 : v6.cell? ⟨w2.heap.size, 1, none⟩ = some (.string (baO a.alias)) := cell_of_row _ _ _ _ _ _ O2.out
        have p2 : v6.cell? ⟨w2.heap.size, 2, none⟩ = some (.string (baO a.oid)) := cell_of_row _ _ _ _ _ _ O2.out
        have p3 : v6.cell? ⟨w2.heap.size, 3, none⟩ = some (.int .i64 (a.syn : Int)) := cell_of_row _ _ _ _ _ _ O2.out
        have p4 : v6.cell? ⟨w2.heap.size, 4, none⟩ = some (.bool a.single) := cell_of_row _ _ _ _ _ _ O2.out
        rw [hv6] at p0 p1 p2 p3 p4
        replace hv6 := Lib.hid hv6
        obtain ⟨X1, x1, X2, x2, c0, c1, c2, c3, c4, c5, _, _, _, _⟩ := hC.out.2.2 j c hc.out
        rw [hv6.out] at c0 c1 c2 c3 c4 c5
        dsimp only []
        go_wp2_with fail
        rw [← hv6.out]
        obtain ⟨u, hu⟩ : ∃ u, u = v6.alloc (.cells #[.string (baO c.name), .string (baO c.oid), .string (baO c.super), .int .i64 (c.kind : Int), .slice X1 c.must.length x1, .slice X2 c.may.length x2] 31) := ⟨_, rfl⟩
        rw [← hu]
        have OU := Lib.hid (show u.heap[v6.heap.size]? = some (.cells #[.string (baO c.name), .string (baO c.oid), .string (baO c.super), .int .i64 (c.kind : Int), .slice X1 c.must.length x1, .slice X2 c.may.length x2] 31) by rw [hu]; exact heap_alloc_new v6 _)
        have zu : u.heap.size = v6.heap.size + 1 := by rw [hu]; simp
        have HBu := Lib.hid (HB.out.trans (show Below w0.heap.size v6 u by rw [hu]; exact (Below.refl _ _).alloc (by have := HB.out.size; omega) _))
        replace hu := Lib.hid hu
        refine (CG.out c.name u hcn.out.1 (by have := hcn.out.2.2.1; omega) HBu.out).mono ?_
        rintro _ y1 ⟨⟨E1, d1, E2, d2, rfl⟩, hb⟩
        have zy1 := hb.size
        have HB1 := Lib.hid (HBu.out.trans (hb.mono (by have := HBu.out.size; omega)))
        have OU1 := Lib.hid ((hb.block v6.heap.size (by omega)).trans OU.out)
        clear hb
        obtain ⟨m1, hm1⟩ : ∃ m1, m1 = y1.alloc (.cells #[.string (baO c.name), .string (baO c.oid), .string (baO c.super), .int .i64 (c.kind : Int), .slice E1 c.must.length d1, .slice E2 c.may.length d2] 31) := ⟨_, rfl⟩
        have hb : Below y1.heap.size y1 m1 := by rw [hm1]; exact (Below.refl _ _).alloc (Nat.le_refl _) _
        have zm1 : m1.heap.size = y1.heap.size + 1 := by rw [hm1]; simp
        have OP := Lib.hid (show m1.heap[y1.heap.size]? = some (.cells #[.string (baO c.name), .string (baO c.oid), .string (baO c.super), .int .i64 (c.kind : Int), .slice E1 c.must.length d1, .slice E2 c.may.length d2] 31) by rw [hm1]; exact heap_alloc_new y1 _)
        have OU2 := Lib.hid ((hb.block v6.heap.size (by omega)).trans OU1.out)
        have HB2 := Lib.hid (HB1.out.trans (hb.mono (by have := HB1.out.size; omega)))
        clear hb
        have k1 : m1.cell? ⟨v6.heap.size, 1, none⟩ = some (.string (baO c.oid)) := cell_of_row _ _ _ _ _ _ OU2.out
        rw [hm1, zv6] at k1
        replace hm1 := Lib.hid hm1
        dsimp only []
        go_wp2_with fail
        rw [← hm1.out]
        refine (CG.out c.oid m1 hcn.out.2.1 (by have := hcn.out.2.2.2; omega) HB2.out).mono ?_
        rintro _ y2 ⟨⟨E3, d3, E4, d4, rfl⟩, hb⟩
        have zy2 := hb.size
        have HB3 := Lib.hid (HB2.out.trans (hb.mono (by have := HB2.out.size; omega)))
        have OU3 := Lib.hid ((hb.block v6.heap.size (by omega)).trans OU2.out)
        have OP3 := Lib.hid ((hb.block y1.heap.size (by omega)).trans OP.out)
        clear hb
        have hb : Below y2.heap.size y2 (y2.alloc (.cells #[.string (baO c.name), .string (baO c.oid), .string (baO c.super), .int .i64 (c.kind : Int), .slice E3 c.must.length d3, .slice E4 c.may.length d4] 31)) := (Below.refl _ _).alloc (Nat.le_refl _) _
        have OU4 := (hb.block v6.heap.size (by omega)).trans OU3.out
        have OP4 := (hb.block y1.heap.size (by omega)).trans OP3.out
        have HB4 := Lib.hid (HB3.out.trans (hb.mono (by have := HB3.out.size; omega)))
        clear hb
        have l0 : (y2.alloc (.cells #[.string (baO c.name), .string (baO c.oid), .string (baO c.super), .int .i64 (c.kind : Int), .slice E3 c.must.length d3, .slice E4 c.may.length d4] 31)).cell? ⟨v6.heap.size, 0, none⟩ = some (.string (baO c.name)) := cell_of_row _ _ _ _ _ _ OU4
        have l2 : (y2.alloc (.cells #[.string (baO c.name), .string (baO c.oid), .string (baO c.super), .int .i64 (c.kind : Int), .slice E3 c.must.length d3, .slice E4 c.may.length d4] 31)).cell? ⟨v6.heap.size, 2, none⟩ = some (.string (baO c.super)) := cell_of_row _ _ _ _ _ _ OU4
        have n0 : (y2.alloc (.cells #[.string (baO c.name), .string (baO c.oid), .string (baO c.super), .int .i64 (c.kind : Int), .slice E3 c.must.length d3, .slice E4 c.may.length d4] 31)).cell? ⟨y1.heap.size, 0, none⟩ = some (.string (baO c.name)) := cell_of_row _ _ _ _ _ _ OP4
        have n2 : (y2.alloc (.cells #[.string (baO c.name), .string (baO c.oid), .string (baO c.super), .int .i64 (c.kind : Int), .slice E3 c.must.length d3, .slice E4 c.may.length d4] 31)).cell? ⟨y1.heap.size, 2, none⟩ = some (.string (baO c.super)) := cell_of_row _ _ _ _ _ _ OP4
        rw [zv6] at l0 l2
        replace OU4 := Lib.hid OU4
        replace OP4 := Lib.hid OP4
        have e1 : ((baO c.name).toList == (baO c.name).toList) = true := by simp
        have e2 : ((baO c.super).toList == (baO c.super).toList) = true := by simp
        by_cases e0 : c.super = []
        · have f1 : (baO c.super).toList = [] := by rw [baO_toList, e0]
          have f2 : (baO c.super).toList.isEmpty = true := by rw [f1]; rfl
          replace e0 := Lib.hid e0
          dsimp only []
          go_wp2_with fail
          go_ret
          exact ⟨rfl, HB4.out⟩
        · have f1 : ¬ (baO c.super).toList = [] := by rw [baO_toList]; exact e0
          have f2 : (baO c.super).toList.isEmpty = false := by simpa using f1
          replace e0 := Lib.hid e0
          dsimp only []
          go_wp2_with fail
          go_ret
          exact ⟨rfl, HB4.out⟩
end Go.Proofs.YtllmffmmfpecaaaDoor
