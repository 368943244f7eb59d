/-
  The program's isAbove: whether a class is a superclass of another one.
-/
import Derived.Test.YtllmffmmfpecaaaDoorPSup8
namespace Go.Proofs.YtllmffmmfpecaaaDoor
open Go.RowKit

/-- Whether a is a superclass of b. -/
def abv (a b : List UInt8) : Bool := (sup b).any fun d => d.name == a
def fnA (b : Nat) : Value := .func (.func 60) #[] #[.pointer (some ⟨b, 0, none⟩)]
set_option maxRecDepth 8000 in
set_option maxHeartbeats 1600000 in
theorem isAbove1_any (c : Cl) (a : List UInt8) (b : Nat) (w : World) (hb : b < w.heap.size) (hc : w.cell? ⟨b, 0, none⟩ = some (.string (baO a))) :
    Calls Tryd.prog 60 #[rowV c, .pointer (some ⟨b, 0, none⟩)] w fun e w' => e = .returned (.bool (c.name == a)) ∧ Below w.heap.size w w' := by
  unfold rowV
  obtain ⟨q, hq⟩ : ∃ q, (c.name == a) = q := ⟨_, rfl⟩
  have e1 : ((baO c.name).toList == (baO a).toList) = q := by
    rw [baO_toList, baO_toList]
    exact hq
  rw [hq]
  clear hq
  go_enter Tryd.func60, Tryd.ntmps60
  go_upto_region 1 with fail
  obtain ⟨V, hV⟩ : ∃ V, V = w.alloc (.cells #[.string (baO c.name), .string (baO c.oid), .string (baO c.super), .int .i64 (c.kind : Int), .string (baO (txt c.must)), .string (baO (txt c.may))] 64) := ⟨_, rfl⟩
  have hbv : Below w.heap.size w V := by rw [hV]; exact (Below.refl _ _).alloc (Nat.le_refl _) _
  obtain ⟨m0, m1, m2, m3, m4, m5, _, _, _, _, _, _⟩ := row6 (show V.heap[w.heap.size]? = some (.cells #[.string (baO c.name), .string (baO c.oid), .string (baO c.super), .int .i64 (c.kind : Int), .string (baO (txt c.must)), .string (baO (txt c.may))] 64) by rw [hV]; exact heap_alloc_new w _)
  have hc2 : V.cell? ⟨b, 0, none⟩ = some (.string (baO a)) := (hbv.cell (p := ⟨b, 0, none⟩) hb).trans hc
  rw [← hV]
  have HB := Lib.hid hbv
  clear hV hbv hc
  go_wp2_with fail
  go_ret
  exact ⟨rfl, HB.out⟩
set_option maxRecDepth 8000 in
set_option maxHeartbeats 4000000 in
theorem indexR_any (b n c : Nat) (A : Option Addr) (L : List Cl) (a : List UInt8) (w : World) (hn : n ≤ 1000) (hL : L.length = n) (hsrc : SrcR w w.heap.size A L) (hb : b < w.heap.size) (hc : w.cell? ⟨b, 0, none⟩ = some (.string (baO a))) :
    Calls Tryd.prog 74 #[.slice A n c, fnA b] w fun e w' => (∃ k : Int, e = .returned (.int .i64 k) ∧ decide (0 ≤ k) = L.any fun d => d.name == a) ∧ Below w.heap.size w w' := by
  have CA := Lib.hid fun (d : Cl) W (h : Below w.heap.size w W) => isAbove1_any d a b W (Nat.lt_of_lt_of_le hb h.size) ((h.cell (p := ⟨b, 0, none⟩) hb).trans hc)
  replace hsrc := Lib.hid hsrc
  replace hL := Lib.hid hL
  clear hc
  unfold fnA
  go_enter Tryd.func74, Tryd.ntmps74
  go_wp2_with fail
  go_loopw [8] (fun i wr => ∃ k : Nat, k ≤ n ∧ i = .int .i64 (k : Int) ∧ Hid ((L.take k).any (fun d => d.name == a) = false) ∧ Hid (Below w.heap.size w wr)) (fun i _ => n - (intOf i).toNat)
  case atStart => exact ⟨0, Nat.zero_le _, rfl, Lib.hid rfl, Lib.hid (Below.refl _ _)⟩
  case round =>
    obtain ⟨k, hk, rfl, HF, HB⟩ := hrel
    have zr := HB.out.size
    by_cases hlt : k < n
    · obtain ⟨d, hd⟩ : ∃ d, L[k]? = some d := ⟨L[k]'(by rw [hL.out]; exact hlt), List.getElem?_eq_getElem _⟩
      have i0 : (0 : Int) ≤ (k : Int) := by omega
      have i1 : (k : Int) < (n : Int) := by omega
      obtain ⟨g, rfl, hg, hcell⟩ := (hsrc.out.below HB.out).2 k d hd
      have p0 : wr.cell? ⟨g, k * 6, none⟩ = some (.string (baO d.name)) := hcell 0 _ rfl
      have p1 : wr.cell? ⟨g, k * 6 + 1, none⟩ = some (.string (baO d.oid)) := hcell 1 _ rfl
      have p2 : wr.cell? ⟨g, k * 6 + 2, none⟩ = some (.string (baO d.super)) := hcell 2 _ rfl
      have p3 : wr.cell? ⟨g, k * 6 + 3, none⟩ = some (.int .i64 (d.kind : Int)) := hcell 3 _ rfl
      have p4 : wr.cell? ⟨g, k * 6 + 4, none⟩ = some (.string (baO (txt d.must))) := hcell 4 _ rfl
      have p5 : wr.cell? ⟨g, k * 6 + 5, none⟩ = some (.string (baO (txt d.may))) := hcell 5 _ rfl
      have C1 := CA.out d wr HB.out
      unfold rowV at C1
      have htk : Hid (L.take (k + 1) = L.take k ++ [d]) := Lib.hid (by rw [List.take_add_one, hd]; rfl)
      have hmem := Lib.hid (List.mem_of_getElem? hd)
      replace hd := Lib.hid hd
      obtain ⟨q, hq⟩ : ∃ q, (d.name == a) = q := ⟨_, rfl⟩
      rw [hq] at C1
      replace hq := Lib.hid hq
      replace C1 := Lib.hid C1
      clear hcell
      go_wp2_with fail
      refine C1.out.mono ?_
      rintro _ w2 ⟨rfl, hb2⟩
      have HB2 := Lib.hid (HB.out.trans (hb2.mono zr))
      clear hb2 C1
      rcases q with _ | _
      · dsimp only []
        go_wp2_with fail
        go_roundw
        case rel =>
          refine ⟨k + 1, by omega, by go_num, Lib.hid ?_, HB2⟩
          rw [htk.out, List.any_append, HF.out]
          simp [hq.out]
        case measure => simp [intOf]; omega
      · dsimp only []
        go_wp2_with fail
        go_ret
        refine ⟨⟨(k : Int), rfl, ?_⟩, HB2.out⟩
        rw [decide_eq_true i0]
        exact (List.any_eq_true.2 ⟨d, hmem.out, hq.out⟩).symm
    · obtain rfl : n = k := by omega
      rw [List.take_of_length_le (by rw [hL.out]; omega)] at HF
      have i1 : ¬ ((n : Int) < (n : Int)) := by omega
      go_wp2_with fail
      go_ret
      exact ⟨⟨-1, rfl, by rw [HF.out]; rfl⟩, HB.out⟩
set_option maxRecDepth 8000 in
set_option maxHeartbeats 1600000 in
theorem containsR_any (b n c : Nat) (A : Option Addr) (L : List Cl) (a : List UInt8) (w : World) (hn : n ≤ 1000) (hL : L.length = n) (hsrc : SrcR w w.heap.size A L) (hb : b < w.heap.size) (hc : w.cell? ⟨b, 0, none⟩ = some (.string (baO a))) :
    Calls Tryd.prog 59 #[.slice A n c, fnA b] w fun e w' => e = .returned (.bool (L.any fun d => d.name == a)) ∧ Below w.heap.size w w' := by
  have CI := Lib.hid (indexR_any b n c A L a w hn hL hsrc hb hc)
  obtain ⟨q, hq⟩ : ∃ q, (L.any fun d => d.name == a) = q := ⟨_, rfl⟩
  rw [hq] at CI ⊢
  clear hq hL hsrc hc
  unfold fnA at CI ⊢
  go_enter Tryd.func59, Tryd.ntmps59
  go_wp2_with fail
  refine CI.out.mono ?_
  rintro _ w2 ⟨⟨k, rfl, hk⟩, hb2⟩
  have HB2 := Lib.hid hb2
  clear hb2 CI
  have hk1 : decide (k ≥ 0) = q := hk
  dsimp only []
  go_wp2_with fail
  go_ret
  exact ⟨rfl, HB2.out⟩
set_option maxRecDepth 8000 in
set_option maxHeartbeats 1600000 in
theorem isAbove_any (a b : List UInt8) (g o : Nat) (w : World) (hs : b.length ≤ 600) (HT : TabsC w g o) :
    Calls Tryd.prog 53 #[.string (baO a), .string (baO b)] w fun e w' => e = .returned (.bool (abv a b)) ∧ Below w.heap.size w w' := by
  have CS := Lib.hid fun W (h : Below w.heap.size w W) => sup_any b g o W hs (HT.below h)
  have hsl := sup_len b
  clear HT
  unfold abv
  obtain ⟨q, hq⟩ : ∃ q, ((sup b).any fun d => d.name == a) = q := ⟨_, rfl⟩
  rw [hq]
  go_enter Tryd.func53, Tryd.ntmps53
  go_wp2_with fail
  obtain ⟨V, hV⟩ : ∃ V, V = w.alloc (.cells #[.string (baO a)] 9) := ⟨_, rfl⟩
  have hbv : Below w.heap.size w V := by rw [hV]; exact (Below.refl _ _).alloc (Nat.le_refl _) _
  have HC := Lib.hid (show V.heap[w.heap.size]? = some (.cells #[.string (baO a)] 9) by rw [hV]; exact heap_alloc_new w _)
  have zV : V.heap.size = w.heap.size + 1 := by rw [hV]; simp
  have HBV := Lib.hid hbv
  rw [← hV]
  clear hV hbv
  refine (CS.out V HBV.out).mono ?_
  rintro _ w2 ⟨⟨A, c, rfl, ho⟩, hb2⟩
  have HB2 := Lib.hid (HBV.out.trans (hb2.mono (by omega)))
  have CC := Lib.hid (containsR_any w.heap.size (sup b).length c A (sup b) a w2 (by omega) rfl ho.src (by have := hb2.size; omega) ((hb2.cell (p := ⟨w.heap.size, 0, none⟩) (by show w.heap.size < _; omega)).trans (cell_of_row _ _ _ _ _ _ HC.out)))
  have z2 := hb2.size
  unfold fnA at CC
  clear hb2 ho CS
  rw [hq] at CC
  clear hq
  obtain ⟨m, hm⟩ : ∃ m, (sup b).length = m := ⟨_, rfl⟩
  rw [hm] at CC ⊢
  dsimp only []
  go_wp2_with fail
  refine CC.out.mono ?_
  rintro _ w3 ⟨rfl, hb3⟩
  have HB3 := Lib.hid (HB2.out.trans (hb3.mono (by omega)))
  clear hb3 CC
  dsimp only []
  go_wp2_with fail
  go_ret
  exact ⟨rfl, HB3.out⟩
end Go.Proofs.YtllmffmmfpecaaaDoor
