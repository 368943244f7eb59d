/-
  An argument that is a filter, opened once: it reads as a tree.
-/
import Derived.Test.YtcbiedonmibfaaaGreatDoorST
import Derived.Test.YtcbiedonmibfaaaGreatDoorOP
import Derived.Deep.Strs
import Derived.SliceStrings
namespace Go.Proofs.YtcbiedonmibfaaaGreatDoor
open Go.ChangeShapes Go.WideShapes Go.ChangeAt Go.RowKit Go.Joins
theorem add_plain7 (b o j : Nat) : (⟨b, o, none⟩ : Addr).add j = ⟨b, o + j, none⟩ := by unfold Addr.add; split <;> simp_all
theorem cells_str7 : Tryz.prog.cellsOf 9 = 1 := by kernel_rfl
theorem cells_int7 : Tryz.prog.cellsOf 3 = 1 := by kernel_rfl
theorem cells_strs7 : Tryz.prog.cellsOf 23 = 1 := by kernel_rfl
theorem cells_kids7 : Tryz.prog.cellsOf 22 = 1 := by kernel_rfl
theorem cells_ft7 : Tryz.prog.cellsOf 25 = 7 := by kernel_rfl
set_option maxRecDepth 20000 in
theorem open_strsC {H : Type} {enc : TypeId × Value → H} {W : World} {fuel : Nat} {cs : List Value} {x : DataW H × List MemPlace}
 (hf : DataW.trod enc Tryz.prog W 0 (fun _ => true) true fuel 23 cs = some x) :
 ∃ A c L, cs = [.slice A (L : List (List UInt8)).length c] ∧ SrcS W (· < W.heap.size) A c L := by
 rcases open_strings Tryz.underlying23 Tryz.underlying9 cells_str7 hf with ⟨hcs, _⟩ | ⟨a, len, cap, ss, hcs, _, hl, hm, hz, hx, hcell, _⟩
 · exact ⟨none, 0, [], hcs, SrcS.none_ _ _⟩
 · have hzl : ss.length = cap := by simpa using hz
   have hll : ((ss.take len).map fun s => s.data.toList).length = len := by rw [List.length_map, List.length_take]; omega
   refine ⟨some a, cap, (ss.take len).map fun s => s.data.toList, by rw [hll]; exact hcs, ⟨by omega, by unfold maxLen at hm; exact hm, (by simp), fun ad e => ?_⟩⟩
   injection e with e
   subst e
   refine ⟨fun h0 => ?_, fun j l hj => ?_⟩
   · have := World.block_lt_of_cell? W _ (hcell 0 (by omega))
     rwa [add_block] at this
   · rw [List.getElem?_map, Option.map_eq_some_iff] at hj
     obtain ⟨s, hj, rfl⟩ := hj
     rw [List.getElem?_take] at hj
     split at hj
     · have hjl : j < ss.length := (List.getElem?_eq_some_iff.1 hj).1
       have hs : ss.getD j ByteArray.empty = s := by rw [List.getD_eq_getElem?_getD, hj]; rfl
       rw [hcell j hjl, hs]
       rfl
     · cases hj
theorem trod_struct7f {H : Type} {enc : TypeId × Value → H} {P : Program} {w : World} {base : Nat} {spare : Nat → Bool} {held : Bool} {t : TypeId} {f0 f1 f2 f3 f4 f5 f6 : Field} {fuel : Nat} {cs : List Value} {x : DataW H × List MemPlace} (ht : P.underlying t = some (.struct #[f0, f1, f2, f3, f4, f5, f6])) (h : DataW.trod enc P w base spare held fuel t cs = some x) :
 ∃ y0 y1 y2 y3 y4 y5 y6 n, fuel = n + 1 ∧ cs.length = P.cellsOf t ∧ DataW.trod enc P w base spare held n f0.type ((cs.drop f0.offset).take (P.cellsOf f0.type)) = some y0 ∧
  DataW.trod enc P w base spare held n f1.type ((cs.drop f1.offset).take (P.cellsOf f1.type)) = some y1 ∧ DataW.trod enc P w base spare held n f2.type ((cs.drop f2.offset).take (P.cellsOf f2.type)) = some y2 ∧
  DataW.trod enc P w base spare held n f3.type ((cs.drop f3.offset).take (P.cellsOf f3.type)) = some y3 ∧ DataW.trod enc P w base spare held n f4.type ((cs.drop f4.offset).take (P.cellsOf f4.type)) = some y4 ∧
  DataW.trod enc P w base spare held n f5.type ((cs.drop f5.offset).take (P.cellsOf f5.type)) = some y5 ∧ DataW.trod enc P w base spare held n f6.type ((cs.drop f6.offset).take (P.cellsOf f6.type)) = some y6 ∧ (∀ p ∈ y1.2, p ∈ x.2) := by
 obtain ⟨xs, n, hfu, rfl, hl, hlen, hf⟩ := DataW.trod_struct ht h
 match xs, hlen with
 | [y0, y1, y2, y3, y4, y5, y6], _ => exact ⟨y0, y1, y2, y3, y4, y5, y6, n, hfu, hl, by simpa using hf 0 f0 rfl, by simpa using hf 1 f1 rfl, by simpa using hf 2 f2 rfl, by simpa using hf 3 f3 rfl, by simpa using hf 4 f4 rfl, by simpa using hf 5 f5 rfl, by simpa using hf 6 f6 rfl, fun p hp => by simp [hp]⟩
theorem len7 {l : List Value} (h : l.length = 7) : ∃ a b c d e f g, l = [a, b, c, d, e, f, g] := by
 match l, h with
 | [a, b, c, d, e, f, g], _ => exact ⟨a, b, c, d, e, f, g, rfl⟩
set_option maxRecDepth 20000 in
theorem open_ftC {H : Type} {enc : TypeId × Value → H} {W : World} : ∀ (fuel : Nat) (cs : List Value) (x : DataW H × List MemPlace),
 DataW.trod enc Tryz.prog W 0 (fun _ => true) true fuel 25 cs = some x →
 ∃ f Ak ck Ab cb, cs = [.int .i64 f.k, .slice Ak f.kids.length ck, .string (baO f.t), .string (baO f.v), .string (baO f.a), .string (baO f.z), .slice Ab f.b.length cb] ∧ FtIn W (· < W.heap.size) f Ak ck Ab cb ∧ (Lit.int .i64 f.k).wf = true ∧ (W.noneFrozen x.2 → FtFz W f Ak) := by
 intro fuel
 induction fuel using Nat.strongRecOn with
 | _ fuel ih =>
 intro cs x hf
 obtain ⟨y0, y1, y2, y3, y4, y5, y6, n, _, hl, h0, h1, h2, h3, h4, h5, h6, hsub⟩ := trod_struct7f Tryz.underlying25 hf
 rw [cells_ft7] at hl
 obtain ⟨v0, v1, v2, v3, v4, v5, v6, rfl⟩ := len7 hl
 dsimp only at h0 h1 h2 h3 h4 h5 h6
 rw [cells_int7] at h0
 rw [cells_kids7] at h1
 rw [cells_str7] at h2 h3 h4 h5
 rw [cells_strs7] at h6
 simp only [List.drop_succ_cons, List.drop_zero, List.take_succ_cons, List.take_zero] at h0 h1 h2 h3 h4 h5 h6
 obtain ⟨k, e0, _, wk⟩ := DataW.trod_int Tryz.underlying3 h0
 obtain ⟨t, e2, _⟩ := DataW.trod_string Tryz.underlying9 h2
 obtain ⟨v, e3, _⟩ := DataW.trod_string Tryz.underlying9 h3
 obtain ⟨a, e4, _⟩ := DataW.trod_string Tryz.underlying9 h4
 obtain ⟨z, e5, _⟩ := DataW.trod_string Tryz.underlying9 h5
 obtain ⟨Ab, cb, b, e6, hb⟩ := open_strsC h6
 injection e0 with e0
 injection e2 with e2
 injection e3 with e3
 injection e4 with e4
 injection e5 with e5
 injection e6 with e6
 subst e0 e2 e3 e4 e5 e6
 rcases DataW.trod_slice Tryz.underlying22 h1 with ⟨e1, _⟩ | ⟨ad, len, cap, elems, rest, n2, hn2, e1, hx1, hb0, hle, hcap, hlen, hel, _⟩
 · injection e1 with e1
   subst e1
   exact ⟨⟨k, .nil, t.data.toList, v.data.toList, a.data.toList, z.data.toList, b⟩, none, 0, Ab, cb, rfl, ⟨⟨Nat.le_refl _, by omega, fun _ => rfl, fun _ h => by cases h⟩, hb⟩, wk, fun _ _ h => by cases h⟩
 · injection e1 with e1
   subst e1
   rw [cells_ft7] at hel
   unfold maxLen at hcap
   by_cases hz : len = 0
   · subst hz
     exact ⟨⟨k, .nil, t.data.toList, v.data.toList, a.data.toList, z.data.toList, b⟩, some ad, cap, Ab, cb, rfl, ⟨⟨Nat.zero_le _, hcap, (by simp), fun _ _ h => by cases h⟩, hb⟩, wk, fun _ _ _ h => by cases h⟩
   · have hs : ad.spot = none := by
      have h := hel 0 (by omega)
      rw [List.getElem?_eq_getElem (by omega)] at h
      obtain ⟨cs', hc1, hc2⟩ := Option.bind_eq_some_iff.1 h
      obtain ⟨f, Ak2, ck2, Ab2, cb2, rfl, _⟩ := ih n2 (by omega) cs' _ hc2
      obtain ⟨_, _, hcell⟩ := World.cells?_some hc1
      have := World.cell?_spot (hcell 0 (by omega))
      simpa [Addr.add] using this
     obtain ⟨bl, off, spot⟩ := ad
     have hs' : spot = none := hs
     subst hs'
     have each : ∀ i, i < len → ∃ f Ak ck Ab cb, FtAt W f bl (off + i * 7) Ak ck Ab cb ∧ FtIn W (· < W.heap.size) f Ak ck Ab cb ∧ bl < W.heap.size ∧ (W.noneFrozen x.2 → FtFz W f Ak) := by
      intro i hi
      have h := hel i hi
      rw [List.getElem?_eq_getElem (by omega), add_plain7] at h
      obtain ⟨cs', hc1, hc2⟩ := Option.bind_eq_some_iff.1 h
      obtain ⟨f, Ak2, ck2, Ab2, cb2, rfl, h3, _, h9⟩ := ih n2 (by omega) cs' _ hc2
      obtain ⟨_, _, hcell⟩ := World.cells?_some hc1
      simp only [add_plain7] at hcell
      exact ⟨f, Ak2, ck2, Ab2, cb2, ⟨hcell 0 (by omega), hcell 1 (by omega), hcell 2 (by omega), hcell 3 (by omega), hcell 4 (by omega), hcell 5 (by omega), hcell 6 (by omega)⟩, h3, World.block_lt_of_cell? W _ (hcell 0 (by omega)), fun hnf => h9 fun b o hp => hnf b o (hsub _ (by rw [hx1]; exact List.mem_append_right _ (List.mem_flatMap.2 ⟨elems[i], List.mem_append_left _ (List.getElem_mem _), hp⟩)))⟩
     have build : ∀ j, j ≤ len → ∃ l : List Ft, l.length = j ∧ ∀ (i : Nat) (hi : i < l.length), ∃ Ak ck Ab cb, FtAt W l[i] bl (off + i * 7) Ak ck Ab cb ∧ FtIn W (· < W.heap.size) l[i] Ak ck Ab cb ∧ (W.noneFrozen x.2 → FtFz W l[i] Ak) := by
      intro j
      induction j with
      | zero => exact fun _ => ⟨[], rfl, fun i hi => absurd hi (by simp)⟩
      | succ j ihj =>
        intro hj
        obtain ⟨l, h1, h2⟩ := ihj (by omega)
        obtain ⟨f, Ak2, ck2, Ab2, cb2, g1, g2, _, g3⟩ := each j (by omega)
        refine ⟨l ++ [f], by simp [h1], fun i hi => ?_⟩
        by_cases hij : i < l.length
        · rw [List.getElem_append_left hij]
          exact h2 i hij
        · have : i = l.length := by simp at hi; omega
          subst this
          rw [List.getElem_append_right (Nat.le_refl _)]
          simp only [Nat.sub_self, List.getElem_cons_zero]
          rw [h1]
          exact ⟨Ak2, ck2, Ab2, cb2, g1, g2, g3⟩
     obtain ⟨l, hl1, hl2⟩ := build len (Nat.le_refl _)
     obtain ⟨_, _, _, _, _, _, _, hbl, _⟩ := each 0 (by omega)
     have hlist : (Gl.of l).list.length = len := by rw [Gl.list_of, hl1]
     refine ⟨⟨k, Gl.of l, t.data.toList, v.data.toList, a.data.toList, z.data.toList, b⟩, some ⟨bl, off, none⟩, cap, Ab, cb, ?_, ⟨⟨by rw [hlist]; exact hle, hcap, (by simp), fun ad e _ => ?_⟩, hb⟩, wk, fun hnf ad e _ => ?_⟩
     · rw [show (Ft.mk k (Gl.of l) t.data.toList v.data.toList a.data.toList z.data.toList b).kids.length = len from hlist]
       rfl
     · injection e with e
       subst e
       exact ⟨rfl, hbl, glAt_ofR l bl off fun i hi => by
        obtain ⟨a1, a2, a3, a4, a5, a6, _⟩ := hl2 i hi
        exact ⟨a1, a2, a3, a4, a5, a6⟩⟩
     · injection e with e
       subst e
       have hmem : MemPlace.cell bl off ∈ MemPlace.row ⟨bl, off, none⟩ ((elems.length + rest.length) * Tryz.prog.cellsOf 25) := by
        unfold MemPlace.row
        rw [List.mem_map]
        exact ⟨0, List.mem_range.2 (by rw [cells_ft7]; omega), rfl⟩
       refine ⟨hnf bl off (hsub _ (by rw [hx1]; exact List.mem_append_left _ hmem)), glFz_ofR l bl off fun i hi => ?_⟩
       obtain ⟨a1, a2, a3, a4, a5, _, a7⟩ := hl2 i hi
       exact ⟨a1, a2, a3, a4, a5, a7 hnf⟩
set_option maxRecDepth 20000 in
theorem open_ft {H : Type} {enc : TypeId × Value → H} {W : World} {r : Reach} {b0 : Nat} {v : Value} {d : DataW H} {p : List MemPlace}
 (hv : Value.okWide Tryz.prog W r b0 25 v) (h : DataW.Trod enc Tryz.prog W 0 (fun _ => true) true 25 v d p) :
 ∃ f Ak ck Ab cb, v = ftV f Ak ck Ab cb ∧ FtIn W (· < W.heap.size) f Ak ck Ab cb ∧ (Lit.int .i64 f.k).wf = true ∧ (W.noneFrozen p → FtInZ W f Ak ck Ab cb) := by
 unfold Value.okWide at hv
 rw [Tryz.underlying25] at hv
 obtain ⟨cs, rfl, hsz, _⟩ := hv
 obtain ⟨fuel, hf⟩ := h
 obtain ⟨f, Ak, ck, Ab, cb, h1, h2, h4, h5⟩ := open_ftC fuel _ _ hf
 refine ⟨f, Ak, ck, Ab, cb, ?_, h2, h4, fun hnf => ⟨h2, h5 hnf⟩⟩
 have h3 : cs.toList = _ := h1
 rw [ftV, ← Array.toArray_toList (xs := cs), h3]
end Go.Proofs.YtcbiedonmibfaaaGreatDoor
