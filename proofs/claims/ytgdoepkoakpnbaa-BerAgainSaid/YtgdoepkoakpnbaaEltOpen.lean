/-
  An argument that is an element, opened once: it reads as a tree.
-/
import Derived.Test.YtgdoepkoakpnbaaEltSame
import Derived.Test.YtgdoepkoakpnbaaOpen
import Derived.Deep.Strs
namespace Go.Proofs.Ytgdoepkoakpnbaa
open Go.ChangeShapes Go.WideShapes Go.ChangeAt Go.RowKit Go.Joins

theorem add_plain2 (b o j : Nat) : (⟨b, o, none⟩ : Addr).add j = ⟨b, o + j, none⟩ := by unfold Addr.add; split <;> simp_all

set_option maxRecDepth 20000 in
/-- The cells of a slice of bytes. -/
theorem open_bytesC {H : Type} {enc : TypeId × Value → H} {W : World} {fuel : Nat} {cs : List Value} {x : DataW H × List MemPlace}
    (hf : DataW.trod enc Try.prog W 0 (fun _ => true) true fuel 24 cs = some x) :
    ∃ A c l, cs = [.slice A (l : List Nat).length c] ∧ SrcI W (· < W.heap.size) A c l ∧ (∀ x ∈ l, x < 256) ∧ c ≤ 9223372036854775807 := by
  rcases open_ints Try.underlying24 Try.underlying5 (by kernel_rfl) hf with ⟨hcs, _⟩ | ⟨x, ln, cp, zs, hcs, _, hl, hm, hz, _, hcell, hwz⟩
  · exact ⟨none, 0, [], hcs, (Src.none_ W _).toI, (by simp), by omega⟩
  · have hzl : zs.length = cp := by simpa using hz
    have hll : ((zs.take ln).map Int.toNat).length = ln := by rw [List.length_map, List.length_take]; omega
    have hb : ∀ z ∈ zs, 0 ≤ z ∧ z ≤ 255 := fun z hz => bounds_u8 (hwz z hz)
    refine ⟨some x, cp, (zs.take ln).map Int.toNat, by rw [hll]; exact hcs, ⟨by omega, (by simp), fun ad e => ?_⟩, fun y hy => ?_, by unfold maxLen at hm; exact hm⟩
    · injection e with e
      subst e
      refine ⟨fun h0 => ?_, fun j n hj => ?_⟩
      · have := World.block_lt_of_cell? W _ (hcell 0 (by omega))
        rwa [add_block] at this
      · rw [List.getElem?_map, Option.map_eq_some_iff] at hj
        obtain ⟨z, hj, rfl⟩ := hj
        rw [List.getElem?_take] at hj
        split at hj
        · have hjl : j < zs.length := (List.getElem?_eq_some_iff.1 hj).1
          have hzj : zs.getD j 0 = z := by rw [List.getD_eq_getElem?_getD, hj]; rfl
          rw [hcell j hjl, hzj, Int.toNat_of_nonneg (hb z (List.mem_of_getElem? hj)).1]
        · cases hj
    · rw [List.mem_map] at hy
      obtain ⟨z, hz1, rfl⟩ := hy
      have := hb z (List.mem_of_mem_take hz1)
      omega

theorem byt_of : ∀ (l : List El), (∀ e ∈ l, e.byt) → (Fo.of l).byt
  | [], _ => trivial
  | e :: r, h => ⟨(h e (by simp)).1, (h e (by simp)).2, byt_of r fun x hx => h x (by simp [hx])⟩

theorem trod_struct3f {H : Type} {enc : TypeId × Value → H} {P : Program} {w : World} {base : Nat} {spare : Nat → Bool} {held : Bool} {t : TypeId} {f0 f1 f2 : Field} {fuel : Nat} {cs : List Value} {x : DataW H × List MemPlace} (ht : P.underlying t = some (.struct #[f0, f1, f2])) (h : DataW.trod enc P w base spare held fuel t cs = some x) :
    ∃ y0 y1 y2 n, fuel = n + 1 ∧ x = (.agg [y0.1, y1.1, y2.1], y0.2 ++ (y1.2 ++ y2.2)) ∧ cs.length = P.cellsOf t ∧ DataW.trod enc P w base spare held n f0.type ((cs.drop f0.offset).take (P.cellsOf f0.type)) = some y0 ∧
      DataW.trod enc P w base spare held n f1.type ((cs.drop f1.offset).take (P.cellsOf f1.type)) = some y1 ∧ DataW.trod enc P w base spare held n f2.type ((cs.drop f2.offset).take (P.cellsOf f2.type)) = some y2 := by
  obtain ⟨xs, n, hfu, rfl, hl, hlen, hf⟩ := DataW.trod_struct ht h
  match xs, hlen with
  | [y0, y1, y2], _ => exact ⟨y0, y1, y2, n, hfu, by simp, hl, by simpa using hf 0 f0 rfl, by simpa using hf 1 f1 rfl, by simpa using hf 2 f2 rfl⟩

theorem cells_elt : Try.prog.cellsOf 27 = 5 := by kernel_rfl
theorem cells_tag : Try.prog.cellsOf 23 = 3 := by kernel_rfl

theorem cells_int : Try.prog.cellsOf 3 = 1 := by kernel_rfl
theorem cells_bool : Try.prog.cellsOf 4 = 1 := by kernel_rfl
theorem cells_bytes : Try.prog.cellsOf 24 = 1 := by kernel_rfl
theorem cells_kids : Try.prog.cellsOf 25 = 1 := by kernel_rfl
theorem len5 {l : List Value} (h : l.length = 5) : ∃ a b c d e, l = [a, b, c, d, e] := by
  match l, h with
  | [a, b, c, d, e], _ => exact ⟨a, b, c, d, e, rfl⟩

set_option maxRecDepth 20000 in
/-- The cells of an element. -/
theorem open_elC {H : Type} {enc : TypeId × Value → H} {W : World} : ∀ (fuel : Nat) (cs : List Value) (x : DataW H × List MemPlace),
    DataW.trod enc Try.prog W 0 (fun _ => true) true fuel 27 cs = some x →
    ∃ e Ab cb Ak ck, cs = [.int .i64 e.c, .bool e.m, .int .i64 e.n, .slice Ab e.b.length cb, .slice Ak e.kids.length ck] ∧ ElIn W (· < W.heap.size) e Ab cb Ak ck ∧ e.byt ∧ (Lit.int .i64 e.c).wf = true ∧ (Lit.int .i64 e.n).wf = true ∧ cb ≤ 9223372036854775807 := by
  intro fuel
  induction fuel using Nat.strongRecOn with
  | _ fuel ih =>
  intro cs x hf
  obtain ⟨y0, y1, y2, n, _, rfl, hl, h0, h1, h2⟩ := trod_struct3f Try.underlying27 hf
  rw [cells_elt] at hl
  obtain ⟨v0, v1, v2, v3, v4, rfl⟩ := len5 hl
  obtain ⟨z0, z1, z2, n', _, _, hl', g0, g1, g2⟩ := trod_struct3f Try.underlying23 h0
  dsimp only at h1 h2 g0 g1 g2
  rw [cells_bytes] at h1
  rw [cells_kids] at h2
  rw [cells_tag] at g0 g1 g2
  rw [cells_int] at g0 g2
  rw [cells_bool] at g1
  simp only [List.drop_succ_cons, List.drop_zero, List.take_succ_cons, List.take_zero] at h1 h2 g0 g1 g2
  obtain ⟨c, e0, _, wc⟩ := DataW.trod_int Try.underlying3 g0
  obtain ⟨m, e1, _⟩ := DataW.trod_bool Try.underlying4 g1
  obtain ⟨k, e2, _, wk⟩ := DataW.trod_int Try.underlying3 g2
  obtain ⟨Ab, cb, b, e3, hb, hby, hcb⟩ := open_bytesC h1
  injection e0 with e0
  injection e1 with e1
  injection e2 with e2
  injection e3 with e3
  subst e0 e1 e2 e3
  rcases DataW.trod_slice Try.underlying25 h2 with ⟨e4, _⟩ | ⟨a, len, cap, elems, rest, n2, hn2, e4, _, hb0, hle, hcap, hlen, hel, _⟩
  · injection e4 with e4
    subst e4
    refine ⟨⟨c, m, k, b, .nil⟩, Ab, cb, none, 0, rfl, ⟨hb, ⟨Nat.le_refl _, by omega, fun _ => rfl, fun _ h => by cases h⟩⟩, ⟨hby, trivial⟩, wc, wk, hcb⟩
  · injection e4 with e4
    subst e4
    rw [cells_elt] at hel
    unfold maxLen at hcap
    by_cases hz : len = 0
    · subst hz
      exact ⟨⟨c, m, k, b, .nil⟩, Ab, cb, some a, cap, rfl, ⟨hb, ⟨Nat.zero_le _, hcap, (by simp), fun _ _ h => by cases h⟩⟩, ⟨hby, trivial⟩, wc, wk, hcb⟩
    · have hs : a.spot = none := by
        have h := hel 0 (by omega)
        rw [List.getElem?_eq_getElem (by omega)] at h
        obtain ⟨cs', hc1, hc2⟩ := Option.bind_eq_some_iff.1 h
        obtain ⟨e, Ab2, cb2, Ak2, ck2, rfl, _⟩ := ih n2 (by omega) cs' _ hc2
        obtain ⟨_, _, hcell⟩ := World.cells?_some hc1
        have := World.cell?_spot (hcell 0 (by omega))
        simpa [Addr.add] using this
      obtain ⟨bl, off, spot⟩ := a
      have hs' : spot = none := hs
      subst hs'
      have each : ∀ i, i < len → ∃ e Ab cb Ak ck, ElAt W (· < W.heap.size) e bl (off + i * 5) Ab cb Ak ck ∧ ElIn W (· < W.heap.size) e Ab cb Ak ck ∧ e.byt ∧ bl < W.heap.size := by
        intro i hi
        have h := hel i hi
        rw [List.getElem?_eq_getElem (by omega), add_plain2] at h
        obtain ⟨cs', hc1, hc2⟩ := Option.bind_eq_some_iff.1 h
        obtain ⟨e, Ab2, cb2, Ak2, ck2, rfl, h3, h4, _⟩ := ih n2 (by omega) cs' _ hc2
        obtain ⟨_, _, hcell⟩ := World.cells?_some hc1
        simp only [add_plain2] at hcell
        refine ⟨e, Ab2, cb2, Ak2, ck2, ⟨hcell 0 (by omega), hcell 1 (by omega), hcell 2 (by omega), hcell 3 (by omega), hcell 4 (by omega)⟩, h3, h4, ?_⟩
        exact World.block_lt_of_cell? W _ (hcell 0 (by omega))
      have build : ∀ j, j ≤ len → ∃ l : List El, l.length = j ∧ (∀ (i : Nat) (hi : i < l.length), ∃ Ab cb Ak ck, ElAt W (· < W.heap.size) l[i] bl (off + i * 5) Ab cb Ak ck ∧ ElIn W (· < W.heap.size) l[i] Ab cb Ak ck) ∧ ∀ e ∈ l, e.byt := by
        intro j
        induction j with
        | zero => exact fun _ => ⟨[], rfl, fun i hi => absurd hi (by simp), fun e he => by cases he⟩
        | succ j ihj =>
          intro hj
          obtain ⟨l, h1, h2, h3⟩ := ihj (by omega)
          obtain ⟨e, Ab2, cb2, Ak2, ck2, g1, g2, g3, _⟩ := each j (by omega)
          refine ⟨l ++ [e], by simp [h1], fun i hi => ?_, fun x hx => ?_⟩
          · by_cases hij : i < l.length
            · rw [List.getElem_append_left hij]
              exact h2 i hij
            · have : i = l.length := by simp at hi; omega
              subst this
              rw [List.getElem_append_right (Nat.le_refl _)]
              simp only [Nat.sub_self, List.getElem_cons_zero]
              rw [h1]
              exact ⟨Ab2, cb2, Ak2, ck2, g1, g2⟩
          · rcases List.mem_append.1 hx with hx | hx
            · exact h3 x hx
            · have := List.mem_singleton.1 hx
              subst this
              exact g3
      obtain ⟨l, hl1, hl2, hl3⟩ := build len (Nat.le_refl _)
      obtain ⟨_, _, _, _, _, _, _, _, hbl⟩ := each 0 (by omega)
      have hlist : (Fo.of l).list.length = len := by rw [Fo.list_of, hl1]
      refine ⟨⟨c, m, k, b, Fo.of l⟩, Ab, cb, some ⟨bl, off, none⟩, cap, ?_, ⟨hb, ⟨by rw [hlist]; exact hle, hcap, (by simp), fun ad e _ => ?_⟩⟩, ⟨hby, byt_of l hl3⟩, wc, wk, hcb⟩
      · rw [show (El.mk c m k b (Fo.of l)).kids.length = len from hlist]
      · injection e with e
        subst e
        exact ⟨rfl, hbl, foAt_ofR l bl off hl2⟩

set_option maxRecDepth 20000 in
/-- An argument that is an element. -/
theorem open_el {H : Type} {enc : TypeId × Value → H} {W : World} {r : Reach} {b0 : Nat} {v : Value} {d : DataW H} {p : List MemPlace}
    (hv : Value.okWide Try.prog W r b0 27 v) (h : DataW.Trod enc Try.prog W 0 (fun _ => true) true 27 v d p) :
    ∃ e Ab cb Ak ck, v = elV e Ab cb Ak ck ∧ ElIn W (· < W.heap.size) e Ab cb Ak ck ∧ e.byt ∧ (Lit.int .i64 e.c).wf = true ∧ (Lit.int .i64 e.n).wf = true ∧ cb ≤ 9223372036854775807 := by
  unfold Value.okWide at hv
  rw [Try.underlying27] at hv
  obtain ⟨cs, rfl, hsz, _⟩ := hv
  obtain ⟨fuel, hf⟩ := h
  obtain ⟨e, Ab, cb, Ak, ck, h1, h2⟩ := open_elC fuel _ _ hf
  refine ⟨e, Ab, cb, Ak, ck, ?_, h2⟩
  have h3 : cs.toList = _ := h1
  rw [elV, ← Array.toArray_toList (xs := cs), h3]
end Go.Proofs.Ytgdoepkoakpnbaa
