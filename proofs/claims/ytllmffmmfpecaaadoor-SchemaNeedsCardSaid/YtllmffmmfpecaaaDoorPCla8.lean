/-
  The program's class, of a row of its table.
-/
import Derived.Test.YtllmffmmfpecaaaDoorSpc8
import Derived.Test.YtllmffmmfpecaaaDoorPRow8
import Derived.Deep.RegionHeldLaw
import Derived.Deep.Heap
namespace Go.Proofs.YtllmffmmfpecaaaDoor
open Go.RowKit

def rowV (c : Cl) : Value := .agg #[.string (baO c.name), .string (baO c.oid), .string (baO c.super), .int .i64 (c.kind : Int), .string (baO (txt c.must)), .string (baO (txt c.may))]
def clsV (c : Cl) (A1 : Option Addr) (c1 : Nat) (A2 : Option Addr) (c2 : Nat) : Value := .agg #[.string (baO c.name), .string (baO c.oid), .string (baO c.super), .int .i64 (c.kind : Int), .slice A1 c.must.length c1, .slice A2 c.may.length c2]
theorem set6_heap (w : World) (b : Nat) (u0 u1 u2 u3 u4 u5 : Value) (k : Nat) (h : k ≠ b) : (set6 w b u0 u1 u2 u3 u4 u5).heap[k]? = w.heap[k]? := by
  have one : ∀ (w : World) (j : Nat) (u : Value), (w.setCell ⟨b, j, none⟩ u).heap[k]? = w.heap[k]? := fun w j u => Go.Deep.blk_setCell_other w _ u k h
  unfold set6
  rw [one, one, one, one, one, one]
/-- A block that holds these strings. -/
def rowO (L : List (List UInt8)) : Obj := .cells (cellsO L).toArray 9
theorem SrcO.obj {w : World} {g : Nat} {L : List (List UInt8)} (h : w.heap[g]? = some (rowO L)) : SrcO w w.heap.size (some ⟨g, 0, none⟩) L.length L :=
  ⟨Nat.le_refl _, (by simp), fun ad e => by
    injection e with e
    subst e
    refine ⟨fun _ => (Array.getElem?_eq_some_iff.1 h).1, fun j x hj => ?_⟩
    have ha : (⟨g, 0, none⟩ : Addr).add j = ⟨g, j, none⟩ := by
      rcases j with _ | j
      · rfl
      · simp [Addr.add]
    rw [ha, cell_of_row _ _ _ _ _ _ h, List.getElem?_toArray]
    unfold cellsO
    rw [List.getElem?_map, hj]
    rfl⟩
/-- strings.Fields, in any world behind V. -/
theorem flds_in (t : List UInt8) (L : List (List UInt8)) (V : World) (hL : Lib.fields t = L) (ha : t.all (fun b => decide (b.toNat < 128)) = true) (hl : t.length ≤ 200) (hT : Spc V) : ∀ W, Below V.heap.size V W →
    Calls Tryd.prog 31 #[.string (baO t)] W fun e w' => ∃ g : Nat, e = .returned (.slice (some ⟨g, 0, none⟩) L.length L.length) ∧ V.heap.size ≤ g ∧ g < w'.heap.size ∧ w'.heap[g]? = some (rowO L) ∧ Below W.heap.size W w' ∧ Below V.heap.size V w' := fun W hb => by
  refine (flds_any t L W hL ha hl (hT.below hb)).mono ?_
  rintro _ w1 ⟨rfl, rfl⟩
  exact ⟨_, rfl, hb.size, by simp, heap_alloc_new W _, (Below.refl _ _).alloc (Nat.le_refl _) _, hb.alloc hb.size _⟩
set_option maxRecDepth 8000 in
set_option maxHeartbeats 4000000 in
theorem class_any (c : Cl) (w : World) (hc : c ∈ clss) (hT : Spc w) :
    Calls Tryd.prog 27 #[rowV c] w fun e w' => ∃ g1 g2 : Nat, e = .returned (clsV c (some ⟨g1, 0, none⟩) c.must.length (some ⟨g2, 0, none⟩) c.may.length) ∧ w.heap.size ≤ g1 ∧ w.heap.size ≤ g2 ∧ w'.heap[g1]? = some (rowO c.must) ∧ w'.heap[g2]? = some (rowO c.may) ∧ Below w.heap.size w w' := by
  obtain ⟨f1, f2⟩ := txt_fields c hc
  obtain ⟨⟨a1, a2⟩, l1, l2⟩ := txt_ascii c hc
  replace hT := Lib.hid hT
  unfold rowV
  go_enter Tryd.func27, Tryd.ntmps27
  go_wp2_with fail
  obtain ⟨V, hV⟩ : ∃ V, V = (w.alloc (.cells #[.string (baO c.name), .string (baO c.oid), .string (baO c.super), .int .i64 (c.kind : Int), .string (baO (txt c.must)), .string (baO (txt c.may))] 64)).alloc (.cells #[.string ⟨#[]⟩, .string ⟨#[]⟩, .string ⟨#[]⟩, .int .i64 0, .slice none 0 0, .slice none 0 0] 31) := ⟨_, rfl⟩
  have BV : Below w.heap.size w V := by rw [hV]; exact ((Below.refl _ _).alloc (Nat.le_refl _) _).alloc (by simp) _
  have zV : V.heap.size = w.heap.size + 2 := by rw [hV]; simp
  have P0 : V.heap[w.heap.size]? = some (.cells #[.string (baO c.name), .string (baO c.oid), .string (baO c.super), .int .i64 (c.kind : Int), .string (baO (txt c.must)), .string (baO (txt c.may))] 64) := by
    rw [hV, heap_alloc_old _ _ (by simp)]; exact heap_alloc_new w _
  have Q0 : V.heap[w.heap.size + 1]? = some (.cells #[.string ⟨#[]⟩, .string ⟨#[]⟩, .string ⟨#[]⟩, .int .i64 0, .slice none 0 0, .slice none 0 0] 31) := by
    rw [hV]
    have := heap_alloc_new (w.alloc (.cells #[.string (baO c.name), .string (baO c.oid), .string (baO c.super), .int .i64 (c.kind : Int), .string (baO (txt c.must)), .string (baO (txt c.may))] 64)) (.cells #[.string ⟨#[]⟩, .string ⟨#[]⟩, .string ⟨#[]⟩, .int .i64 0, .slice none 0 0, .slice none 0 0] 31)
    simpa using this
  have C1 := Lib.hid (flds_in (txt c.must) c.must V f1 a1 l1 (hT.out.below BV))
  have C2 := Lib.hid (flds_in (txt c.may) c.may V f2 a2 l2 (hT.out.below BV))
  clear f1 f2 a1 a2 l1 l2 hc hT
  have KEEP : Hid (∀ W, Below V.heap.size V W → (fun W : World => W.cell? ⟨w.heap.size, 0, none⟩ = some (.string (baO c.name)) ∧ W.cell? ⟨w.heap.size, 1, none⟩ = some (.string (baO c.oid)) ∧ W.cell? ⟨w.heap.size, 2, none⟩ = some (.string (baO c.super)) ∧ W.cell? ⟨w.heap.size, 3, none⟩ = some (.int .i64 (c.kind : Int)) ∧ W.cell? ⟨w.heap.size, 4, none⟩ = some (.string (baO (txt c.must))) ∧ W.cell? ⟨w.heap.size, 5, none⟩ = some (.string (baO (txt c.may)))) W) := Lib.hid fun W hb => by
    obtain ⟨k0, k1, k2, k3, k4, k5, _⟩ := row6 ((hb.block w.heap.size (by omega)).trans P0)
    exact ⟨k0, k1, k2, k3, k4, k5⟩
  obtain ⟨k0, k1, k2, k3, k4, k5⟩ := KEEP.out V (Below.refl _ _)
  replace Q0 := Lib.hid Q0
  replace P0 := Lib.hid P0
  have hz : Hid (w.heap.size + 1 < V.heap.size) := Lib.hid (by omega)
  have BV' := Lib.hid BV
  clear BV
  rw [← hV]
  replace hV := Lib.hid hV
  go_region_held_law (fun W => W.cell? ⟨w.heap.size, 0, none⟩ = some (.string (baO c.name)) ∧ W.cell? ⟨w.heap.size, 1, none⟩ = some (.string (baO c.oid)) ∧ W.cell? ⟨w.heap.size, 2, none⟩ = some (.string (baO c.super)) ∧ W.cell? ⟨w.heap.size, 3, none⟩ = some (.int .i64 (c.kind : Int)) ∧ W.cell? ⟨w.heap.size, 4, none⟩ = some (.string (baO (txt c.must))) ∧ W.cell? ⟨w.heap.size, 5, none⟩ = some (.string (baO (txt c.may)))) (first | go_keep | exact KEEP.out _ HBb.out | exact KEEP.out _ HBa.out)
    (first
      | (go_at_call 31; (with_reducible refine (C1.out _ (by first | exact (Below.refl _ _).drew | exact (Below.refl _ _).drew.drew)).mono ?_); rintro _ w1 ⟨g1, rfl, hg1, hl1, hs1, hb1, hv1⟩; have HBa := Lib.hid hv1; have HS1 := Lib.hid hs1; clear hv1 hs1 hb1)
      | (go_at_call 31; (with_reducible refine (C2.out _ (by first | exact HBa.out | exact HBa.out.drew | exact HBa.out.drew.drew)).mono ?_); rintro _ w2 ⟨g2, rfl, hg2, hl2, hs2, hb2, hv2⟩; have HBb := Lib.hid hv2; have HS2 := Lib.hid hs2; have HS1b := Lib.hid ((hb2.block g1 hl1).trans HS1.out); obtain ⟨r0, r1, r2, r3, r4, r5, e0, e1, e2, e3, e4, e5⟩ := row6 ((hv2.block (w.heap.size + 1) hz.out).trans Q0.out); clear hv2 hs2 hb2))
  have hcc := (HBb.out.block (w.heap.size + 1) hz.out).trans Q0.out
  have HC := Lib.hid (set6_same hcc (.string (baO c.name)) (.string (baO c.oid)) (.string (baO c.super)) (.int .i64 (c.kind : Int)) (.slice (some ⟨g1, 0, none⟩) c.must.length c.must.length) (.slice (some ⟨g2, 0, none⟩) c.may.length c.may.length))
  have HE := Lib.hid (set6_below (BV'.out.trans (HBb.out.mono BV'.out.size)) (show w.heap.size ≤ w.heap.size + 1 by omega) (.string (baO c.name)) (.string (baO c.oid)) (.string (baO c.super)) (.int .i64 (c.kind : Int)) (.slice (some ⟨g1, 0, none⟩) c.must.length c.must.length) (.slice (some ⟨g2, 0, none⟩) c.may.length c.may.length))
  have SA := Lib.hid ((set6_heap w2 (w.heap.size + 1) (.string (baO c.name)) (.string (baO c.oid)) (.string (baO c.super)) (.int .i64 (c.kind : Int)) (.slice (some ⟨g1, 0, none⟩) c.must.length c.must.length) (.slice (some ⟨g2, 0, none⟩) c.may.length c.may.length) g1 (by omega)).trans HS1b.out)
  have SB := Lib.hid ((set6_heap w2 (w.heap.size + 1) (.string (baO c.name)) (.string (baO c.oid)) (.string (baO c.super)) (.int .i64 (c.kind : Int)) (.slice (some ⟨g1, 0, none⟩) c.must.length c.must.length) (.slice (some ⟨g2, 0, none⟩) c.may.length c.may.length) g2 (by omega)).trans HS2.out)
  replace hcc := Lib.hid hcc
  have HX : set6 w2 (w.heap.size + 1) (.string (baO c.name)) (.string (baO c.oid)) (.string (baO c.super)) (.int .i64 (c.kind : Int)) (.slice (some ⟨g1, 0, none⟩) c.must.length c.must.length) (.slice (some ⟨g2, 0, none⟩) c.may.length c.may.length) = ((((((w2.setCell ⟨w.heap.size + 1, 0, none⟩ (.string (baO c.name))).setCell ⟨w.heap.size + 1, 1, none⟩ (.string (baO c.oid))).setCell ⟨w.heap.size + 1, 2, none⟩ (.string (baO c.super))).setCell ⟨w.heap.size + 1, 3, none⟩ (.int .i64 (c.kind : Int))).setCell ⟨w.heap.size + 1, 4, none⟩ (.slice (some ⟨g1, 0, none⟩) c.must.length c.must.length)).setCell ⟨w.heap.size + 1, 5, none⟩ (.slice (some ⟨g2, 0, none⟩) c.may.length c.may.length)) := rfl
  rw [← HX]
  obtain ⟨W5, hW5⟩ : ∃ W5, W5 = set6 w2 (w.heap.size + 1) (.string (baO c.name)) (.string (baO c.oid)) (.string (baO c.super)) (.int .i64 (c.kind : Int)) (.slice (some ⟨g1, 0, none⟩) c.must.length c.must.length) (.slice (some ⟨g2, 0, none⟩) c.may.length c.may.length) := ⟨_, rfl⟩
  rw [← hW5] at HE HC ⊢
  rw [← hW5] at SA SB
  clear HX hW5 r0 e0 r1 e1 r2 e2 r3 e3 r4 e4 r5 e5 k0 k1 k2 k3 k4 k5
  obtain ⟨q0, q1, q2, q3, q4, q5, _, _, _, _, _, _⟩ := row6 HC.out
  go_wp2_with fail
  exact bodyPost_ret (v := clsV c (some ⟨g1, 0, none⟩) c.must.length (some ⟨g2, 0, none⟩) c.may.length) (by simp [results, clsV, Tryd.results27, go_sem, q0, q1, q2, q3, q4, q5]) rfl ⟨g1, g2, rfl, by omega, by omega, SA.out, SB.out, HE.out⟩
end Go.Proofs.YtllmffmmfpecaaaDoor
