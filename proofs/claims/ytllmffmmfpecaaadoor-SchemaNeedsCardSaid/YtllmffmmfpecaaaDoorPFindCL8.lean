/-
  The program's FindClass.
-/
import Derived.Test.YtllmffmmfpecaaaDoorPCla8
namespace Go.Proofs.YtllmffmmfpecaaaDoor
open Go.RowKit

set_option maxRecDepth 8000 in
set_option maxHeartbeats 4000000 in
theorem findClass_any (s : ByteArray) (g o : Nat) (w : World) (hs : s.size ≤ 600) (HT : TabsC w g o) :
    Calls Tryd.prog 10 #[.string s] w fun e w' => FindCS (findC s.data.toList) e w' ∧ Below w.heap.size w w' := by
  have CR := Lib.hid fun W (hb : Below w.heap.size w W) => findR_any s g o W hs (HT.below hb).cls
  have CC := Lib.hid fun (c : Cl) (hc : c ∈ clss) W (hb : Below w.heap.size w W) => class_any c W hc (HT.below hb).spc
  clear HT
  go_enter Tryd.func10, Tryd.ntmps10
  go_wp2_with fail
  obtain ⟨v, hv⟩ : ∃ v, v = w.alloc (.cells #[.string ⟨#[]⟩, .string ⟨#[]⟩, .string ⟨#[]⟩, .int .i64 0, .slice none 0 0, .slice none 0 0] 31) := ⟨_, rfl⟩
  have hb : Below w.heap.size w v := by rw [hv]; exact (Below.refl _ _).alloc (Nat.le_refl _) _
  have HC0 := Lib.hid (show v.heap[w.heap.size]? = some (.cells #[.string ⟨#[]⟩, .string ⟨#[]⟩, .string ⟨#[]⟩, .int .i64 0, .slice none 0 0, .slice none 0 0] 31) by rw [hv]; exact heap_alloc_new w _)
  have zv : v.heap.size = w.heap.size + 1 := by rw [hv]; simp
  rw [← hv]
  replace hv := Lib.hid hv
  have HB0 := Lib.hid hb
  clear hb
  refine (CR.out v HB0.out).mono ?_
  rintro _ w1 ⟨rfl, hb⟩
  have z1 := hb.size
  have HB1 := Lib.hid (HB0.out.trans (hb.mono (by omega)))
  have HC1 := Lib.hid ((hb.block w.heap.size (by omega)).trans HC0.out)
  clear hb CR
  rcases hf : findC s.data.toList with _ | c
  · unfold valR
    dsimp only []
    go_upto_region 2 with fail
    obtain ⟨V, hV⟩ : ∃ V, V = w1.alloc (.cells #[.string ⟨#[]⟩, .string ⟨#[]⟩, .string ⟨#[]⟩, .int .i64 0, .string ⟨#[]⟩, .string ⟨#[]⟩] 64) := ⟨_, rfl⟩
    have hb : Below w1.heap.size w1 V := by rw [hV]; exact (Below.refl _ _).alloc (Nat.le_refl _) _
    have HB2 := Lib.hid (HB1.out.trans (hb.mono (by omega)))
    have hcc := (hb.block w.heap.size (by omega)).trans HC1.out
    rw [← hV]
    clear hV hb
    obtain ⟨r0, r1, r2, r3, r4, r5, f0, f1, f2, f3, f4, f5⟩ := row6 hcc
    have HC := Lib.hid (set6_same hcc (.string ⟨#[]⟩) (.string ⟨#[]⟩) (.string ⟨#[]⟩) (.int .i64 0) (.slice none 0 0) (.slice none 0 0))
    have HE := Lib.hid (set6_below HB2.out (Nat.le_refl _) (.string ⟨#[]⟩) (.string ⟨#[]⟩) (.string ⟨#[]⟩) (.int .i64 0) (.slice none 0 0) (.slice none 0 0))
    replace hcc := Lib.hid hcc
    go_wp2_with fail
    have HX : set6 V w.heap.size (.string ⟨#[]⟩) (.string ⟨#[]⟩) (.string ⟨#[]⟩) (.int .i64 0) (.slice none 0 0) (.slice none 0 0) = ((((((V.setCell ⟨w.heap.size, 0, none⟩ (.string ⟨#[]⟩)).setCell ⟨w.heap.size, 1, none⟩ (.string ⟨#[]⟩)).setCell ⟨w.heap.size, 2, none⟩ (.string ⟨#[]⟩)).setCell ⟨w.heap.size, 3, none⟩ (.int .i64 0)).setCell ⟨w.heap.size, 4, none⟩ (.slice none 0 0)).setCell ⟨w.heap.size, 5, none⟩ (.slice none 0 0)) := rfl
    rw [← HX]
    obtain ⟨W5, hW5⟩ : ∃ W5, W5 = set6 V w.heap.size (.string ⟨#[]⟩) (.string ⟨#[]⟩) (.string ⟨#[]⟩) (.int .i64 0) (.slice none 0 0) (.slice none 0 0) := ⟨_, rfl⟩
    rw [← hW5] at HE HC ⊢
    clear HX hW5 r0 f0 r1 f1 r2 f2 r3 f3 r4 f4 r5 f5
    obtain ⟨q0, q1, q2, q3, q4, q5, _, _, _, _, _, _⟩ := row6 HC.out
    exact bodyPost_ret (v := .tuple #[.agg #[.string ⟨#[]⟩, .string ⟨#[]⟩, .string ⟨#[]⟩, .int .i64 0, .slice none 0 0, .slice none 0 0], .bool false]) (by simp [results, Tryd.results10, go_sem, q0, q1, q2, q3, q4, q5]) rfl ⟨FindCS.no hf, HE.out⟩
  · have hc : c ∈ clss := findC_mem hf
    unfold valR
    dsimp only []
    go_upto_region 2 with fail
    obtain ⟨V, hV⟩ : ∃ V, V = w1.alloc (.cells #[.string (baO c.name), .string (baO c.oid), .string (baO c.super), .int .i64 (c.kind : Int), .string (baO (txt c.must)), .string (baO (txt c.may))] 64) := ⟨_, rfl⟩
    have hb : Below w1.heap.size w1 V := by rw [hV]; exact (Below.refl _ _).alloc (Nat.le_refl _) _
    have HB2 := Lib.hid (HB1.out.trans (hb.mono (by omega)))
    have HC2 := Lib.hid ((hb.block w.heap.size (by omega)).trans HC1.out)
    have hz : V.heap.size = w1.heap.size + 1 := by rw [hV]; simp
    obtain ⟨m0, m1, m2, m3, m4, m5, _, _, _, _, _, _⟩ := row6 (show V.heap[w1.heap.size]? = some (.cells #[.string (baO c.name), .string (baO c.oid), .string (baO c.super), .int .i64 (c.kind : Int), .string (baO (txt c.must)), .string (baO (txt c.may))] 64) by rw [hV]; exact heap_alloc_new w1 _)
    rw [← hV]
    clear hV hb
    go_wp2_with fail
    refine (CC.out c hc V HB2.out).mono ?_
    rintro _ w3 ⟨g1, g2, rfl, hg1, hg2, hs1, hs2, hb⟩
    have HB3 := Lib.hid (HB2.out.trans (hb.mono (by omega)))
    have hcc := (hb.block w.heap.size (by omega)).trans HC2.out
    have z3 := hb.size
    have l1 : g1 < w3.heap.size := (Array.getElem?_eq_some_iff.1 hs1).1
    have l2 : g2 < w3.heap.size := (Array.getElem?_eq_some_iff.1 hs2).1
    have SA := Lib.hid (SrcO.obj (w := set6 w3 w.heap.size (.string (baO c.name)) (.string (baO c.oid)) (.string (baO c.super)) (.int .i64 (c.kind : Int)) (.slice (some ⟨g1, 0, none⟩) c.must.length c.must.length) (.slice (some ⟨g2, 0, none⟩) c.may.length c.may.length)) ((set6_heap w3 w.heap.size (.string (baO c.name)) (.string (baO c.oid)) (.string (baO c.super)) (.int .i64 (c.kind : Int)) (.slice (some ⟨g1, 0, none⟩) c.must.length c.must.length) (.slice (some ⟨g2, 0, none⟩) c.may.length c.may.length) g1 (by omega)).trans hs1))
    have SB := Lib.hid (SrcO.obj (w := set6 w3 w.heap.size (.string (baO c.name)) (.string (baO c.oid)) (.string (baO c.super)) (.int .i64 (c.kind : Int)) (.slice (some ⟨g1, 0, none⟩) c.must.length c.must.length) (.slice (some ⟨g2, 0, none⟩) c.may.length c.may.length)) ((set6_heap w3 w.heap.size (.string (baO c.name)) (.string (baO c.oid)) (.string (baO c.super)) (.int .i64 (c.kind : Int)) (.slice (some ⟨g1, 0, none⟩) c.must.length c.must.length) (.slice (some ⟨g2, 0, none⟩) c.may.length c.may.length) g2 (by omega)).trans hs2))
    clear hb hs1 hs2
    obtain ⟨r0, r1, r2, r3, r4, r5, f0, f1, f2, f3, f4, f5⟩ := row6 hcc
    have HC := Lib.hid (set6_same hcc (.string (baO c.name)) (.string (baO c.oid)) (.string (baO c.super)) (.int .i64 (c.kind : Int)) (.slice (some ⟨g1, 0, none⟩) c.must.length c.must.length) (.slice (some ⟨g2, 0, none⟩) c.may.length c.may.length))
    have HE := Lib.hid (set6_below HB3.out (Nat.le_refl _) (.string (baO c.name)) (.string (baO c.oid)) (.string (baO c.super)) (.int .i64 (c.kind : Int)) (.slice (some ⟨g1, 0, none⟩) c.must.length c.must.length) (.slice (some ⟨g2, 0, none⟩) c.may.length c.may.length))
    replace hcc := Lib.hid hcc
    unfold clsV
    dsimp only []
    go_wp2_with fail
    have HX : set6 w3 w.heap.size (.string (baO c.name)) (.string (baO c.oid)) (.string (baO c.super)) (.int .i64 (c.kind : Int)) (.slice (some ⟨g1, 0, none⟩) c.must.length c.must.length) (.slice (some ⟨g2, 0, none⟩) c.may.length c.may.length) = ((((((w3.setCell ⟨w.heap.size, 0, none⟩ (.string (baO c.name))).setCell ⟨w.heap.size, 1, none⟩ (.string (baO c.oid))).setCell ⟨w.heap.size, 2, none⟩ (.string (baO c.super))).setCell ⟨w.heap.size, 3, none⟩ (.int .i64 (c.kind : Int))).setCell ⟨w.heap.size, 4, none⟩ (.slice (some ⟨g1, 0, none⟩) c.must.length c.must.length)).setCell ⟨w.heap.size, 5, none⟩ (.slice (some ⟨g2, 0, none⟩) c.may.length c.may.length)) := rfl
    rw [← HX]
    obtain ⟨W5, hW5⟩ : ∃ W5, W5 = set6 w3 w.heap.size (.string (baO c.name)) (.string (baO c.oid)) (.string (baO c.super)) (.int .i64 (c.kind : Int)) (.slice (some ⟨g1, 0, none⟩) c.must.length c.must.length) (.slice (some ⟨g2, 0, none⟩) c.may.length c.may.length) := ⟨_, rfl⟩
    rw [← hW5] at HE HC ⊢
    rw [← hW5] at SA SB
    clear HX hW5 r0 f0 r1 f1 r2 f2 r3 f3 r4 f4 r5 f5
    obtain ⟨q0, q1, q2, q3, q4, q5, _, _, _, _, _, _⟩ := row6 HC.out
    exact bodyPost_ret (v := .tuple #[.agg #[.string (baO c.name), .string (baO c.oid), .string (baO c.super), .int .i64 (c.kind : Int), .slice (some ⟨g1, 0, none⟩) c.must.length c.must.length, .slice (some ⟨g2, 0, none⟩) c.may.length c.may.length], .bool true]) (by simp [results, Tryd.results10, go_sem, q0, q1, q2, q3, q4, q5]) rfl ⟨FindCS.yes hf SA.out SB.out (Below.refl _ _) (Nat.le_refl _), HE.out⟩
end Go.Proofs.YtllmffmmfpecaaaDoor
