/-
  Own: an element for the reference, and how great it is.
-/
import Derived.Test.YtgdoepkoakpnbaaEltRow
import Derived.OneCell
namespace Go.Proofs.Ytgdoepkoakpnbaa
open Go.RowKit

theorem info_el : (Try.prog.info? 30).map (fun i => (i.zero, i.size, i.bytes)) = some (some (.agg #[.int .i64 0, .bool false, .int .i64 0, .slice none 0 0, .slice none 0 0]), 5, 72) := by kernel_rfl

theorem El.deep_pos (e : El) : 1 ≤ e.deep := by unfold El.deep; omega
theorem sumL_cons (a : Nat) (l : List Nat) : sumL (a :: l) = a + sumL l := by rw [sumL, List.foldl_cons, foldl_add]; omega
theorem sum_take (l : List El) : ∀ (k : Nat) (hk : k < l.length), sumL ((l.take k).map El.size) + l[k].size ≤ sumL (l.map El.size) := by
  induction l with
  | nil => intro k hk; simp at hk
  | cons a l ih =>
    intro k hk
    rw [List.map_cons (l := l), sumL_cons]
    rcases k with _ | k
    · simp [sumL]
    · have h2 := ih k (by simp at hk; omega)
      rw [List.take_succ_cons, List.map_cons, sumL_cons, List.getElem_cons_succ]
      omega

theorem maxL_mem (l : List El) : ∀ r ∈ l, r.deep ≤ maxL (l.map El.deep) := by
  induction l with
  | nil => intro r hr; cases hr
  | cons a l ih =>
    intro r hr
    rw [List.map_cons, maxL, List.foldl_cons, foldl_max]
    rcases List.mem_cons.1 hr with rfl | hr
    · omega
    · have := ih r hr
      omega
theorem El.deep_mem (e r : El) (h : r ∈ e.kids) : r.deep + 1 ≤ e.deep := by
  rw [El.deep_kids e]
  have := maxL_mem e.kids r h
  omega

/-- What Own answers. -/
def OwnPost (e : El) (deep W0 : Nat) (Ab : Option Addr) (cb : Nat) (w : World) (en : Ending) (w' : World) : Prop :=
  ∃ (N : Nat) (Ak' : Option Addr) (K' ck' : Nat), en = .returned (.tuple #[.agg #[.int .i64 e.c, .bool e.m, .int .i64 e.n, .slice Ab e.b.length cb, .slice Ak' K' ck'], .int .i64 (N : Int)]) ∧ N ≤ 30001 * (62 - deep) ∧
    (N < 30000 → K' = e.kids.length ∧ SlI w' (fun b => b < W0 ∨ (w.heap.size ≤ b ∧ b < w'.heap.size)) Ak' ck' e.k ∧ N = e.size ∧ e.deep + deep ≤ 61) ∧ (e.size < 30000 → e.deep + deep ≤ 61 → N < 30000) ∧ Below w.heap.size w w'

set_option maxRecDepth 8000 in
set_option maxHeartbeats 800000 in
theorem own_stop (e : El) (W0 : Nat) (w : World) (Ab : Option Addr) (cb : Nat) (Ak : Option Addr) (ck B K : Nat) (hB : B = e.b.length) :
    Calls Try.prog 9 #[.agg #[.int .i64 e.c, .bool e.m, .int .i64 e.n, .slice Ab B cb, .slice Ak K ck], .int .i64 61] w (OwnPost e 61 W0 Ab cb w) := by
  replace hB := Lib.hid hB
  go_enter Try.func9, Try.ntmps9
  go_wp2_with fail
  go_returns
  exact ⟨30000, none, 0, 0, by rw [hB.out]; rfl, by omega, fun h => by omega, fun _ h => by have := El.deep_pos e; omega, by go_grown⟩

/-- A store beside a row. -/
theorem RowE.set {T : TypeId} {w : World} {W0 base : Nat} {v : Value} {l : List El} (h : RowE T w W0 base v l) (a : Addr) (u : Value) (h1 : W0 ≤ a.block) (h2 : a.block < base) : RowE T (w.setCell a u) W0 base v l := by
  obtain ⟨cs, h3, h4⟩ := h
  have hne : v.ownBlock ≠ some a.block := by
    intro e
    obtain ⟨_, h0 | ⟨g, cap, cur, hv, hbs, _⟩⟩ := h3
    · rw [h0.1] at e
      cases e
    · rw [hv] at e
      injection e with e
      have e' : g = a.block := e
      omega
  have hsz : (w.setCell a u).heap.size = w.heap.size := by simp [World.setCell]
  refine ⟨cs, ownsRow_setCell_other h3 hne u, fun i hi => ?_⟩
  obtain ⟨Ab, cb, Ak, ck, h5, h6⟩ := h4 i hi
  refine ⟨Ab, cb, Ak, ck, h5, (h6.keep fun p hp => ?_).more fun b hb => ?_⟩
  · refine World.cell?_of_block (heap_setCell_other _ _ _ _ fun e => ?_)
    rcases hp with hp | hp
    · omega
    · have := hp.1
      omega
  · unfold RowI at hb ⊢
    rw [hsz]
    exact hb
/-- What holds at the head of each round. -/
structure OwnInv (e : El) (deep W0 : Nat) (Ab : Option Addr) (cb : Nat) (Ak : Option Addr) (ck B K : Nat) (w wr : World) (k n : Nat) (V : Value) : Prop where
  below : Below w.heap.size w wr
  size : w.heap.size + 3 ≤ wr.heap.size
  box : wr.cell? ⟨w.heap.size, 4, none⟩ = some (.slice Ak K ck)
  res : wr.heap[w.heap.size + 1]? = some (.cells #[.int .i64 0, .bool false, .int .i64 0, .slice none 0 0, .slice none 0 0] 30 (0, 0))
  out : wr.heap[w.heap.size + 1 + 1]? = some (.cells #[.int .i64 e.c, .bool e.m, .int .i64 e.n, .slice Ab B cb, V] 30 (0, 0))
  own : ∃ cs, wr.ownsRow (w.heap.size + 3) 30 5 V k cs
  le : n ≤ 30001 * (62 - deep)
  good : n < 30000 → RowE 30 wr W0 (w.heap.size + 3) V (e.kids.take k) ∧ n = 1 + B + sumL ((e.kids.take k).map El.size) ∧ ∀ x ∈ e.kids.take k, x.deep + deep + 1 ≤ 61
  full : e.size < 30000 → e.deep + deep ≤ 61 → n < 30000
/-- An element stored into a block of its own. -/
def set5 (w : World) (b : Nat) (u0 u1 u2 u3 u4 : Value) : World := ((((w.setCell ⟨b, 0, none⟩ u0).setCell ⟨b, 1, none⟩ u1).setCell ⟨b, 2, none⟩ u2).setCell ⟨b, 3, none⟩ u3).setCell ⟨b, 4, none⟩ u4
theorem set5_same {w : World} {b : Nat} {v0 v1 v2 v3 v4 : Value} {T : TypeId} (h : w.heap[b]? = some (.cells #[v0, v1, v2, v3, v4] T (0, 0))) (u0 u1 u2 u3 u4 : Value) : (set5 w b u0 u1 u2 u3 u4).heap[b]? = some (.cells #[u0, u1, u2, u3, u4] T (0, 0)) := by
  unfold set5
  rw [_root_.Go.heap_setCell_same _ _ _ _ _ _ (_root_.Go.heap_setCell_same _ _ _ _ _ _ (_root_.Go.heap_setCell_same _ _ _ _ _ _ (_root_.Go.heap_setCell_same _ _ _ _ _ _ (_root_.Go.heap_setCell_same _ _ _ _ _ _ h))))]
  rfl
theorem set5_size (w : World) (b : Nat) (u0 u1 u2 u3 u4 : Value) : (set5 w b u0 u1 u2 u3 u4).heap.size = w.heap.size := by simp [set5, World.setCell]
theorem set5_other (w : World) (b : Nat) (u0 u1 u2 u3 u4 : Value) (p : Addr) (h : p.block ≠ b) : (set5 w b u0 u1 u2 u3 u4).cell? p = w.cell? p := by
  refine World.cell?_of_block ?_
  unfold set5
  rw [Below.heap_setCell _ _ _ _ h, Below.heap_setCell _ _ _ _ h, Below.heap_setCell _ _ _ _ h, Below.heap_setCell _ _ _ _ h, Below.heap_setCell _ _ _ _ h]
theorem set5_below {w W : World} {B b : Nat} (h : Below B w W) (hb : B ≤ b) (u0 u1 u2 u3 u4 : Value) : Below B w (set5 W b u0 u1 u2 u3 u4) := ((((h.setCell hb u0).setCell hb u1).setCell hb u2).setCell hb u3).setCell hb u4
theorem own_end {e : El} {deep W0 : Nat} {Ab : Option Addr} {cb : Nat} {Ak : Option Addr} {ck B K : Nat} {w wr : World} {k n : Nat} {A : Option Addr} {d : Nat} (HI : OwnInv e deep W0 Ab cb Ak ck B K w wr k n (.slice A k d)) (h : n < 30000 → k = e.kids.length) (hB : B = e.b.length) (hd : deep ≤ 60) (hW : W0 ≤ w.heap.size) (u0 u1 u2 u3 u4 : Value) :
    OwnPost e deep W0 Ab cb w (.returned (.tuple #[.agg #[.int .i64 e.c, .bool e.m, .int .i64 e.n, .slice Ab B cb, .slice A k d], .int .i64 (n : Int)])) (set5 wr (w.heap.size + 1) u0 u1 u2 u3 u4) := by
  subst hB
  refine ⟨n, A, k, d, rfl, HI.le, fun hn => ?_, HI.full, set5_below HI.below (by omega) _ _ _ _ _⟩
  obtain ⟨h1, h2, h3⟩ := HI.good hn
  have hk := h hn
  rw [List.take_of_length_le (by omega)] at h1 h2 h3
  obtain ⟨A', c', hv, hsl⟩ := h1.sl
  injection hv with hv1 hv2 hv3
  subst hv1 hv3
  have hof : Fo.of e.kids = e.k := Fo.of_list e.k
  rw [hof] at hsl
  refine ⟨hk, ?_, by rw [El.size_kids, h2], ?_⟩
  · refine (hsl.keep fun p hp => set5_other _ _ _ _ _ _ _ p ?_).more fun b hb => ?_
    · rcases hp with hp | hp
      · omega
      · omega
    · rw [set5_size]
      rcases hb with hb | hb
      · exact .inl hb
      · exact .inr ⟨by omega, hb.2⟩
  · rw [El.deep_kids]
    have : ∀ l : List El, (∀ x ∈ l, x.deep + deep + 1 ≤ 61) → maxL (l.map El.deep) + deep + 1 ≤ 61 := by
      intro l
      induction l with
      | nil => intro _; simp [maxL]; omega
      | cons a l ih =>
        intro hl
        have h4 := ih fun x hx => hl x (List.mem_cons_of_mem _ hx)
        have h5 := hl a (List.mem_cons_self ..)
        rw [List.map_cons, maxL, List.foldl_cons, foldl_max]
        omega
    have := this e.kids h3
    omega
theorem sum_ge (l : List El) : l.length ≤ sumL (l.map El.size) := by
  induction l with
  | nil => simp
  | cons a l ih =>
    rw [List.map_cons, sumL, List.foldl_cons, foldl_add, List.length_cons]
    have : 1 ≤ a.size := by unfold El.size; omega
    omega

/-- The row as it lies ahead of a round's append. -/
theorem OwnInv.row {e : El} {deep W0 : Nat} {Ab : Option Addr} {cb : Nat} {Ak : Option Addr} {ck B K : Nat} {w wr : World} {k n : Nat} {V : Value} (HI : OwnInv e deep W0 Ab cb Ak ck B K w wr k n V) (hn : n < 30000) (hk : k < e.kids.length) :
    ∃ cs : List Value, wr.ownsRow (w.heap.size + 3) 30 5 V k cs ∧ cs.length = k * 5 ∧ k < 30000 ∧ (∀ b, V.ownBlock = some b → w.heap.size + 3 ≤ b ∧ b < wr.heap.size) ∧
      ∀ (i : Nat) (hi : i < (e.kids.take k).length), ∃ Ab cb Ak ck, (∀ j, j < 5 → cs[i * 5 + j]? = (el5 (e.kids.take k)[i] Ab cb Ak ck)[j]?) ∧ ElIn wr (RowI wr W0 (w.heap.size + 3) V) (e.kids.take k)[i] Ab cb Ak ck := by
  obtain ⟨⟨cs, h1, h2⟩, h3, _⟩ := HI.good hn
  have hl : (e.kids.take k).length = k := by rw [List.length_take]; omega
  rw [hl] at h1
  refine ⟨cs, h1, h1.1, ?_, fun b hb => ?_, h2⟩
  · have := sum_ge (e.kids.take k)
    omega
  · obtain ⟨_, h0 | ⟨g, cap, cur, hv, hbs, hg, _⟩⟩ := h1
    · rw [h0.1] at hb
      cases hb
    · rw [hv] at hb
      injection hb with hb
      have hb' : g = b := hb
      subst hb'
      exact ⟨hbs, (Array.getElem?_eq_some_iff.1 hg).1⟩

theorem own_step {e r : El} {deep W0 : Nat} {Ab : Option Addr} {cb : Nat} {Ak : Option Addr} {ck B K : Nat} {w wr w3 w6 : World} {k n N : Nat} {V : Value} {Ab2 : Option Addr} {cb2 : Nat} {A3 : Option Addr} {K3 c3 g cap : Nat} {cs : List Value} {o1 o2 : Obj}
    (HI : OwnInv e deep W0 Ab cb Ak ck B K w wr k n V) (hB : B = e.b.length) (hn : n < 30000) (hk : k < e.kids.length) (hr : e.kids[k] = r) (hd : deep ≤ 60) (hW : W0 ≤ w.heap.size) (hb3 : Below wr.heap.size wr w3) (hN : N ≤ 30001 * (62 - (deep + 1)))
    (hg3 : N < 30000 → K3 = r.kids.length ∧ SlI w3 (fun b => b < W0 ∨ (wr.heap.size ≤ b ∧ b < w3.heap.size)) A3 c3 r.k ∧ N = r.size ∧ r.deep + (deep + 1) ≤ 61)
    (hf3 : r.size < 30000 → r.deep + (deep + 1) ≤ 61 → N < 30000) (hbr : SrcI w (· < W0) Ab2 cb2 r.b) (hcs : cs.length = k * 5) (hV : ∀ b, V.ownBlock = some b → w.heap.size + 3 ≤ b ∧ b < wr.heap.size)
    (hrow : ∀ (i : Nat) (hi : i < (e.kids.take k).length), ∃ Ab cb Ak ck, (∀ j, j < 5 → cs[i * 5 + j]? = (el5 (e.kids.take k)[i] Ab cb Ak ck)[j]?) ∧ ElIn wr (RowI wr W0 (w.heap.size + 3) V) (e.kids.take k)[i] Ab cb Ak ck)
    (hown : w6.ownsRow (w.heap.size + 3) 30 5 (.slice (some ⟨g, 0, none⟩) (k + 1) cap) (k + 1) (cs ++ [.int .i64 r.c, .bool r.m, .int .i64 r.n, .slice Ab2 r.b.length cb2, .slice A3 K3 c3]))
    (hg : ((w3.alloc o1).alloc o2).grownBy w6 V.ownBlock) (hat : V.ownBlock = some g ∨ g = w3.heap.size + 1 + 1) :
    OwnInv e deep W0 Ab cb Ak ck B K w (w6.setCell ⟨w.heap.size + 1 + 1, 4, none⟩ (.slice (some ⟨g, 0, none⟩) (k + 1) cap)) (k + 1) (n + N) (.slice (some ⟨g, 0, none⟩) (k + 1) cap) := by
  have hsz := HI.size
  have hs3 := hb3.size
  have hs5 : ((w3.alloc o1).alloc o2).heap.size = w3.heap.size + 1 + 1 := by simp
  have hs6 := hg.size
  rw [hs5] at hs6
  have hVb : ∀ b, V.ownBlock = some b → w.heap.size + 3 ≤ b := fun b hb => (hV b hb).1
  have hblk : ∀ b, b < w.heap.size + 3 → w6.heap[b]? = wr.heap[b]? := by
    intro b hb
    rw [hg.block b (by rw [hs5]; omega) (fun e => by have := hVb b e.symm; omega), Below.heap_alloc _ _ _ (by simp; omega), Below.heap_alloc _ _ _ (by omega), hb3.block b (by omega)]
  have hB5 : Below wr.heap.size wr ((w3.alloc o1).alloc o2) := (hb3.alloc hs3 _).alloc (by simp; omega) _
  have hgb : g = w.heap.size + 1 + 1 → False := by
    intro e
    rcases hat with h | h
    · have := hVb g h
      omega
    · omega
  refine ⟨?_, ?_, ?_, ?_, ?_, ⟨_, ownsRow_setCell_other hown (fun e => hgb (by injection e with e)) _⟩, by
    have h2 : 62 - deep = (62 - (deep + 1)) + 1 := by omega
    rw [h2]
    omega, fun h => ?_, fun hs hdd => ?_⟩
  · refine Below.setCell ?_ (by show w.heap.size ≤ w.heap.size + 1 + 1; omega) _
    refine HI.below.trans ?_
    refine (hB5.mono (by omega)).trans ?_
    exact (Below.refl _ _).grown hg (by rw [hs5]; omega) (fun b hb => by have := hVb b hb; omega)
  · have : (w6.setCell ⟨w.heap.size + 1 + 1, 4, none⟩ (.slice (some ⟨g, 0, none⟩) (k + 1) cap)).heap.size = w6.heap.size := by simp [World.setCell]
    rw [this]
    omega
  · rw [World.cell?_of_block (w := wr) (by rw [_root_.Go.heap_setCell_other _ _ _ _ (by show w.heap.size ≠ w.heap.size + 1 + 1; omega)]; exact hblk _ (by show w.heap.size < w.heap.size + 3; omega))]
    exact HI.box
  · rw [_root_.Go.heap_setCell_other _ _ _ _ (by show w.heap.size + 1 ≠ w.heap.size + 1 + 1; omega), hblk _ (by omega)]
    exact HI.res
  · rw [_root_.Go.heap_setCell_same _ _ _ _ _ _ ((hblk _ (by omega)).trans HI.out)]
    rfl
  · obtain ⟨h1, h2, h3⟩ := HI.good hn
    obtain ⟨g1, g2, g3, g4⟩ := hg3 (by omega)
    subst g1
    have hl : (e.kids.take k).length = k := by rw [List.length_take]; omega
    have htk : e.kids.take (k + 1) = e.kids.take k ++ [r] := by rw [List.take_succ_eq_append_getElem hk, hr]
    have hI : ∀ b, RowI wr W0 (w.heap.size + 3) V b → RowI ((w3.alloc o1).alloc o2) W0 (w.heap.size + 3) V b := by
      intro b hb
      rcases hb with hb | hb
      · exact .inl hb
      · exact .inr ⟨hb.1, by rw [hs5]; omega, hb.2.2⟩
    have hrow5 : ∀ (i : Nat) (hi : i < (e.kids.take k).length), ∃ Ab cb Ak ck, (∀ j, j < 5 → cs[i * 5 + j]? = (el5 (e.kids.take k)[i] Ab cb Ak ck)[j]?) ∧ ElIn ((w3.alloc o1).alloc o2) (RowI ((w3.alloc o1).alloc o2) W0 (w.heap.size + 3) V) (e.kids.take k)[i] Ab cb Ak ck := by
      intro i hi
      obtain ⟨a1, a2, a3, a4, a5, a6⟩ := hrow i hi
      refine ⟨a1, a2, a3, a4, a5, (a6.keep fun p hp => hB5.cell ?_).more hI⟩
      rcases hp with hp | hp
      · omega
      · exact hp.2.1
    have hel : ElIn ((w3.alloc o1).alloc o2) (RowI ((w3.alloc o1).alloc o2) W0 (w.heap.size + 3) V) r Ab2 cb2 A3 c3 := by
      refine ⟨(hbr.keep fun p hp => ((HI.below.trans (hB5.mono (by omega))).cell ?_)).more fun b hb => .inl hb, (g2.keep fun p hp => ?_).more fun b hb => ?_⟩
      · exact Nat.lt_of_lt_of_le hp hW
      · rw [World.cell?_alloc_lt _ _ _ (by rcases hp with hp | hp <;> simp <;> omega), World.cell?_alloc_lt _ _ _ (by rcases hp with hp | hp <;> omega)]
      · rcases hb with hb | hb
        · exact .inl hb
        · refine .inr ⟨by omega, by rw [hs5]; omega, fun e => ?_⟩
          have := (hV b e.symm).2
          omega
    have hsn := RowE.snoc (T := 30) (w := (w3.alloc o1).alloc o2) (w' := w6) (W0 := W0) (base := w.heap.size + 3) (g := g) (cap := cap) (v := V) (l := e.kids.take k) (e := r) (Ab := Ab2) (cb := cb2) (Ak := A3) (ck := c3) (cs := cs)
      (by rw [hl]; exact hown) (by rw [hl]; exact hcs) hrow5 hel hg (by rw [hs5]; exact hat) (by omega) (by rw [hs5]; omega) hVb
    rw [hl] at hsn
    rw [htk]
    refine ⟨hsn.set _ _ (by show W0 ≤ w.heap.size + 1 + 1; omega) (by show w.heap.size + 1 + 1 < w.heap.size + 3; omega), ?_, fun x hx => ?_⟩
    · rw [List.map_append, List.map_cons, List.map_nil, sumL_snoc]
      omega
    · rcases List.mem_append.1 hx with hx | hx
      · exact h3 x hx
      · have := List.mem_singleton.1 hx
        subst this
        omega
  · obtain ⟨h1, h2, h3⟩ := HI.good hn
    have h4 := sum_take e.kids k hk
    have h5 := El.deep_mem e r (hr ▸ List.getElem_mem hk)
    have h6 := El.size_kids e
    rw [hr] at h4
    have h7 := hf3 (by omega) (by omega)
    obtain ⟨g1, g2, g3, g4⟩ := hg3 h7
    omega


set_option maxRecDepth 40000 in
set_option maxHeartbeats 1600000 in
theorem own_made (e : El) (deep W0 : Nat) (w : World) (Ab Ak : Option Addr) (cb ck B K : Nat) (hB : B = e.b.length) (hK : e.kids.length = K) (hKc : K ≤ ck) (hck : ck ≤ 9223372036854775807) (hd : deep ≤ 60) (hW : W0 ≤ w.heap.size)
    (ih : 0 < K → ∃ bl off, Ak = some ⟨bl, off, none⟩ ∧ bl < W0 ∧ ∀ (i : Nat) (hi : i < e.kids.length), ∃ Ab2 cb2 Ak2 ck2, ElAt w (· < W0) e.kids[i] bl (off + i * 5) Ab2 cb2 Ak2 ck2 ∧ ElIn w (· < W0) e.kids[i] Ab2 cb2 Ak2 ck2 ∧
      ∀ w', Below w.heap.size w w' → Calls Try.prog 9 #[elV e.kids[i] Ab2 cb2 Ak2 ck2, .int .i64 ((deep : Int) + 1)] w' (OwnPost e.kids[i] (deep + 1) W0 Ab2 cb2 w')) :
    Calls Try.prog 9 #[.agg #[.int .i64 e.c, .bool e.m, .int .i64 e.n, .slice Ab B cb, .slice Ak K ck], .int .i64 (deep : Int)] w (OwnPost e deep W0 Ab cb w) := by
  obtain ⟨i0, hi, hz0, hz1, hz2⟩ := info_parts info_el
  replace hB := Lib.hid hB
  replace hK := Lib.hid hK
  replace ih := Lib.hid ih
  have kd : decide (60 < (deep : Int)) = false := decide_eq_false (by omega)
  have hinit : Hid (OwnInv e deep W0 Ab cb Ak ck B K w (((w.alloc (.cells #[.int .i64 e.c, .bool e.m, .int .i64 e.n, .slice Ab B cb, .slice Ak K ck] 27)).alloc (.cells #[.int .i64 0, .bool false, .int .i64 0, .slice none 0 0, .slice none 0 0] 30)).alloc (.cells #[.int .i64 e.c, .bool e.m, .int .i64 e.n, .slice Ab B cb, .slice none 0 0] 30)) 0 (1 + min B 30000) (.slice none 0 0)) := by
    refine Lib.hid ⟨by go_grown, by simp, ?_, ?_, ?_, ⟨[], World.ownsRow_nil _ _ _ _⟩, by omega, fun h => ⟨RowE.nil _ _ _ _, by simp [sumL]; omega, fun x hx => by cases hx⟩, fun hs _ => by have := El.size_kids e; have := hB.out; omega⟩
    · rw [World.cell?_alloc_lt _ _ _ (by simp; omega), World.cell?_alloc_lt _ _ _ (by simp), World.cell?_alloc_new]
      rfl
    · rw [Below.heap_alloc _ _ _ (by simp)]
      have := heap_alloc_new (w.alloc (.cells #[.int .i64 e.c, .bool e.m, .int .i64 e.n, .slice Ab B cb, .slice Ak K ck] 27)) (.cells #[.int .i64 0, .bool false, .int .i64 0, .slice none 0 0, .slice none 0 0] 30)
      simpa using this
    · have := heap_alloc_new ((w.alloc (.cells #[.int .i64 e.c, .bool e.m, .int .i64 e.n, .slice Ab B cb, .slice Ak K ck] 27)).alloc (.cells #[.int .i64 0, .bool false, .int .i64 0, .slice none 0 0, .slice none 0 0] 30)) (.cells #[.int .i64 e.c, .bool e.m, .int .i64 e.n, .slice Ab B cb, .slice none 0 0] 30)
      simpa using this
  go_enter Try.func9, Try.ntmps9
  go_wp2_with fail
  go_loopw [7, 8] (fun nv i wr => ∃ (k n : Nat) (A : Option Addr) (d : Nat), k ≤ K ∧ i = .int .i64 (k : Int) ∧ nv = .int .i64 (n : Int) ∧ Hid (OwnInv e deep W0 Ab cb Ak ck B K w wr k n (.slice A k d))) (fun _ i _ => K - (intOf i).toNat)
  case atStart => exact ⟨0, 1 + min B 30000, none, 0, Nat.zero_le _, rfl, by congr 1; omega, hinit⟩
  case round =>
    obtain ⟨k, n, A, d, hk, rfl, rfl, HI⟩ := hrel
    clear hinit
    have g4 := HI.out.box
    have hnle := HI.out.le
    have hblk : w.heap.size + 3 ≤ wr.heap.size := HI.out.size
    have hO := HI.out.out
    have o0 : wr.cell? ⟨w.heap.size + 1 + 1, 0, none⟩ = some (.int .i64 e.c) := cell_of_row _ _ _ _ _ _ hO
    have o1 : wr.cell? ⟨w.heap.size + 1 + 1, 1, none⟩ = some (.bool e.m) := cell_of_row _ _ _ _ _ _ hO
    have o2 : wr.cell? ⟨w.heap.size + 1 + 1, 2, none⟩ = some (.int .i64 e.n) := cell_of_row _ _ _ _ _ _ hO
    have o3 : wr.cell? ⟨w.heap.size + 1 + 1, 3, none⟩ = some (.slice Ab B cb) := cell_of_row _ _ _ _ _ _ hO
    have o4 : wr.cell? ⟨w.heap.size + 1 + 1, 4, none⟩ = some (.slice A k d) := cell_of_row _ _ _ _ _ _ hO
    have hR := HI.out.res
    have r0 : wr.cell? ⟨w.heap.size + 1, 0, none⟩ = some (.int .i64 0) := cell_of_row _ _ _ _ _ _ hR
    have f0 : wr.frozen? ⟨w.heap.size + 1, 0, none⟩ = false := frozen_of_row _ _ _ _ _ hR
    have r1 : wr.cell? ⟨w.heap.size + 1, 1, none⟩ = some (.bool false) := cell_of_row _ _ _ _ _ _ hR
    have f1 : wr.frozen? ⟨w.heap.size + 1, 1, none⟩ = false := frozen_of_row _ _ _ _ _ hR
    have r2 : wr.cell? ⟨w.heap.size + 1, 2, none⟩ = some (.int .i64 0) := cell_of_row _ _ _ _ _ _ hR
    have f2 : wr.frozen? ⟨w.heap.size + 1, 2, none⟩ = false := frozen_of_row _ _ _ _ _ hR
    have r3 : wr.cell? ⟨w.heap.size + 1, 3, none⟩ = some (.slice none 0 0) := cell_of_row _ _ _ _ _ _ hR
    have f3 : wr.frozen? ⟨w.heap.size + 1, 3, none⟩ = false := frozen_of_row _ _ _ _ _ hR
    have r4 : wr.cell? ⟨w.heap.size + 1, 4, none⟩ = some (.slice none 0 0) := cell_of_row _ _ _ _ _ _ hR
    have f4 : wr.frozen? ⟨w.heap.size + 1, 4, none⟩ = false := frozen_of_row _ _ _ _ _ hR
    have f9 : wr.frozen? ⟨w.heap.size + 1 + 1, 4, none⟩ = false := frozen_of_row _ _ _ _ _ hO
    replace hR := Lib.hid hR
    replace hO := Lib.hid hO
    by_cases hlt : k < K
    · by_cases hn : n < 30000
      · have kn : decide ((n : Int) < 30000) = true := decide_eq_true (by omega)
        have hke : k < e.kids.length := by rw [hK.out]; exact hlt
        obtain ⟨bl, off, rfl, hbl, hkid⟩ := ih.out (by omega)
        clear ih
        obtain ⟨Ab2, cb2, Ak2, ck2, hat, hkin, hc⟩ := hkid k hke
        clear hkid
        obtain ⟨cs, hrow1, hrow2, hk3, hrow3, hrow4⟩ := HI.out.row hn hke
        have keep : ∀ p : Addr, p.block < w.heap.size → wr.cell? p = w.cell? p := fun p hp => HI.out.below.cell hp
        have hblw : bl < w.heap.size := Nat.lt_of_lt_of_le hbl hW
        have c0 := (keep ⟨bl, off + k * 5, none⟩ hblw).trans hat.c
        have c1 := (keep ⟨bl, off + k * 5 + 1, none⟩ hblw).trans hat.m
        have c2 := (keep ⟨bl, off + k * 5 + 2, none⟩ hblw).trans hat.n
        have c3 := (keep ⟨bl, off + k * 5 + 3, none⟩ hblw).trans hat.b
        have c4 := (keep ⟨bl, off + k * 5 + 4, none⟩ hblw).trans hat.k
        replace hc := hc wr HI.out.below
        obtain ⟨r, hrr⟩ : ∃ r, e.kids[k]'hke = r := ⟨_, rfl⟩
        rw [hrr] at hc c0 c1 c2 c3 c4 hkin
        have hkb := Lib.hid hkin.b
        replace hrr := Lib.hid hrr
        replace hc := Lib.hid hc
        replace hrow1 := Lib.hid hrow1
        replace hrow2 := Lib.hid hrow2
        replace hrow3 := Lib.hid hrow3
        replace hrow4 := Lib.hid hrow4
        unfold elV at hc
        clear keep hat hkin o0 o1 o2 o3 r0 r1 r2 r3 r4 f0 f1 f2 f3 f4
        go_wp2_with fail
        refine hc.out.mono ?_
        rintro en w3 ⟨N, A3, K3, c3', rfl, hN, hg3, hf3, hb3⟩
        replace hf3 := Lib.hid hf3
        have p4 : w3.cell? ⟨w.heap.size + 1 + 1, 4, none⟩ = some (.slice A k d) := (hb3.cell (p := ⟨w.heap.size + 1 + 1, 4, none⟩) (by show w.heap.size + 1 + 1 < _; omega)).trans o4
        have hsz3 := hb3.size
        replace hb3 := Lib.hid hb3
        replace hg3 := Lib.hid hg3
        clear c0 c1 c2 c3 c4 hc g4 o4 f9
        have q4 : ∀ o : Obj, (w3.alloc o).cell? ⟨w.heap.size + 1 + 1, 4, none⟩ = some (.slice A k d) := fun o => (World.cell?_alloc_lt _ _ _ (by show w.heap.size + 1 + 1 < _; omega)).trans p4
        have q5 : ∀ o o' : Obj, ((w3.alloc o).alloc o').cell? ⟨w.heap.size + 1 + 1, 4, none⟩ = some (.slice A k d) := fun o o' => (World.cell?_alloc_lt _ _ _ (by show w.heap.size + 1 + 1 < _; simp; omega)).trans (q4 o)
        dsimp only []
        go_wp2_with (at_builtin; refine wpList_append_lies _ rfl (.tmp 54) (.tmp 56) 28 rfl (w.heap.size + 3) 30 i0 _ 5 72 Try.underlying28 hi hz0 hz1 hz2 rfl (by decide) (.slice A k d) k cs rfl (World.ownsRow.alloc (World.ownsRow.alloc (owns_below hrow1.out hb3.out) _) _) ⟨w3.heap.size + 1, 0, none⟩ 1 1 [.int .i64 r.c, .bool r.m, .int .i64 r.n, .slice Ab2 r.b.length cb2, .slice A3 K3 c3'] rfl rfl ?hnews ?hone (by decide) ?h63 ?hby ?hba (w3.heap.size + 1 + 1) ?hH ?hgo)
        case hnews => exact World.news_of_block (by simpa using heap_alloc_new (w3.alloc (.cells #[.int .i64 r.c, .bool r.m, .int .i64 r.n, .slice Ab2 r.b.length cb2, .slice A3 K3 c3'] 30)) (.cells #[.int .i64 r.c, .bool r.m, .int .i64 r.n, .slice Ab2 r.b.length cb2, .slice A3 K3 c3'] 30))
        case hone =>
          intro u hu
          simp only [List.mem_cons, List.not_mem_nil, or_false] at hu
          rcases hu with rfl | rfl | rfl | rfl | rfl <;> rfl
        case h63 => simp only [maxLen]; omega
        case hby => omega
        case hba => simp; omega
        case hH => simp
        case hgo =>
          intro g cap w6 hown hg hat hgl
          have hNb : N ≤ 1860062 := Nat.le_trans hN (by
            have : 62 - (deep + 1) ≤ 61 := by omega
            have := Nat.mul_le_mul_left 30001 this
            omega)
          have hB6 : w6.heap[w.heap.size + 1 + 1]? = wr.heap[w.heap.size + 1 + 1]? := by
            rw [hg.block _ (by simp; omega) (fun e => by have := (hrow3.out _ e.symm).1; omega), Below.heap_alloc _ _ _ (by simp; omega), Below.heap_alloc _ _ _ (by omega), hb3.out.block _ (by omega)]
          have c6 : w6.cell? ⟨w.heap.size + 1 + 1, 4, none⟩ = some (.slice A k d) := cell_of_row _ _ _ _ _ _ (hB6.trans hO.out)
          have f6 : w6.frozen? ⟨w.heap.size + 1 + 1, 4, none⟩ = false := frozen_of_row _ _ _ _ _ (hB6.trans hO.out)
          have HS := Lib.hid (own_step HI.out hB.out hn hke hrr.out hd hW hb3.out hN hg3.out hf3.out hkb.out hrow2.out hrow3.out hrow4.out hown hg hat)
          replace hB6 := Lib.hid hB6
          replace hg := Lib.hid hg
          replace hown := Lib.hid hown
          clear hat q4 q5 p4
          go_wp2_with fail
          refine ⟨⟨k + 1, n + N, some ⟨g, 0, none⟩, cap, hlt, by congr 1, by congr 1, HS⟩, ?_⟩
          show K - ((k : Int) + 1).toNat < K - (k : Int).toNat
          omega
      · have kn : decide ((n : Int) < 30000) = false := decide_eq_false (by omega)
        have HE := Lib.hid (own_end HI.out (fun h => absurd h hn) hB.out hd hW (.int .i64 e.c) (.bool e.m) (.int .i64 e.n) (.slice Ab B cb) (.slice A k d))
        have HC := Lib.hid (set5_same hR.out (.int .i64 e.c) (.bool e.m) (.int .i64 e.n) (.slice Ab B cb) (.slice A k d))
        go_wp2_with fail
        have HX : set5 wr (w.heap.size + 1) (.int .i64 e.c) (.bool e.m) (.int .i64 e.n) (.slice Ab B cb) (.slice A k d) = ((((wr.setCell ⟨w.heap.size + 1, 0, none⟩ (.int .i64 e.c)).setCell ⟨w.heap.size + 1, 1, none⟩ (.bool e.m)).setCell ⟨w.heap.size + 1, 2, none⟩ (.int .i64 e.n)).setCell ⟨w.heap.size + 1, 3, none⟩ (.slice Ab B cb)).setCell ⟨w.heap.size + 1, 4, none⟩ (.slice A k d) := rfl
        rw [← HX]
        obtain ⟨W5, hW5⟩ : ∃ W5, W5 = set5 wr (w.heap.size + 1) (.int .i64 e.c) (.bool e.m) (.int .i64 e.n) (.slice Ab B cb) (.slice A k d) := ⟨_, rfl⟩
        rw [← hW5] at HE HC ⊢
        clear HX hW5 o0 o1 o2 o3 o4 r0 r1 r2 r3 r4 f0 f1 f2 f3 f4 f9 g4
        have q0 : W5.cell? ⟨w.heap.size + 1, 0, none⟩ = some (.int .i64 e.c) := cell_of_row _ _ _ _ _ _ HC.out
        have q1 : W5.cell? ⟨w.heap.size + 1, 1, none⟩ = some (.bool e.m) := cell_of_row _ _ _ _ _ _ HC.out
        have q2 : W5.cell? ⟨w.heap.size + 1, 2, none⟩ = some (.int .i64 e.n) := cell_of_row _ _ _ _ _ _ HC.out
        have q3 : W5.cell? ⟨w.heap.size + 1, 3, none⟩ = some (.slice Ab B cb) := cell_of_row _ _ _ _ _ _ HC.out
        have q4 : W5.cell? ⟨w.heap.size + 1, 4, none⟩ = some (.slice A k d) := cell_of_row _ _ _ _ _ _ HC.out
        exact bodyPost_ret (v := .tuple #[.agg #[.int .i64 e.c, .bool e.m, .int .i64 e.n, .slice Ab B cb, .slice A k d], .int .i64 (n : Int)]) (by simp [results, Try.results9, go_sem, q0, q1, q2, q3, q4]) rfl HE.out
    · have hkk : k = K := by omega
      subst hkk
      have HE := Lib.hid (own_end HI.out (fun _ => hK.out.symm) hB.out hd hW (.int .i64 e.c) (.bool e.m) (.int .i64 e.n) (.slice Ab B cb) (.slice A k d))
      have HC := Lib.hid (set5_same hR.out (.int .i64 e.c) (.bool e.m) (.int .i64 e.n) (.slice Ab B cb) (.slice A k d))
      go_wp2_with fail
      have HX : set5 wr (w.heap.size + 1) (.int .i64 e.c) (.bool e.m) (.int .i64 e.n) (.slice Ab B cb) (.slice A k d) = ((((wr.setCell ⟨w.heap.size + 1, 0, none⟩ (.int .i64 e.c)).setCell ⟨w.heap.size + 1, 1, none⟩ (.bool e.m)).setCell ⟨w.heap.size + 1, 2, none⟩ (.int .i64 e.n)).setCell ⟨w.heap.size + 1, 3, none⟩ (.slice Ab B cb)).setCell ⟨w.heap.size + 1, 4, none⟩ (.slice A k d) := rfl
      rw [← HX]
      obtain ⟨W5, hW5⟩ : ∃ W5, W5 = set5 wr (w.heap.size + 1) (.int .i64 e.c) (.bool e.m) (.int .i64 e.n) (.slice Ab B cb) (.slice A k d) := ⟨_, rfl⟩
      rw [← hW5] at HE HC ⊢
      clear HX hW5 o0 o1 o2 o3 o4 r0 r1 r2 r3 r4 f0 f1 f2 f3 f4 f9 g4
      have q0 : W5.cell? ⟨w.heap.size + 1, 0, none⟩ = some (.int .i64 e.c) := cell_of_row _ _ _ _ _ _ HC.out
      have q1 : W5.cell? ⟨w.heap.size + 1, 1, none⟩ = some (.bool e.m) := cell_of_row _ _ _ _ _ _ HC.out
      have q2 : W5.cell? ⟨w.heap.size + 1, 2, none⟩ = some (.int .i64 e.n) := cell_of_row _ _ _ _ _ _ HC.out
      have q3 : W5.cell? ⟨w.heap.size + 1, 3, none⟩ = some (.slice Ab B cb) := cell_of_row _ _ _ _ _ _ HC.out
      have q4 : W5.cell? ⟨w.heap.size + 1, 4, none⟩ = some (.slice A k d) := cell_of_row _ _ _ _ _ _ HC.out
      exact bodyPost_ret (v := .tuple #[.agg #[.int .i64 e.c, .bool e.m, .int .i64 e.n, .slice Ab B cb, .slice A k d], .int .i64 (n : Int)]) (by simp [results, Try.results9, go_sem, q0, q1, q2, q3, q4]) rfl HE.out
/-- The law package's Own of any element. -/
theorem own_el (e : El) : ∀ (deep W0 : Nat) (w : World) (Ab : Option Addr) (cb : Nat) (Ak : Option Addr) (ck : Nat), deep ≤ 61 → W0 ≤ w.heap.size → ElIn w (· < W0) e Ab cb Ak ck →
    Calls Try.prog 9 #[elV e Ab cb Ak ck, .int .i64 (deep : Int)] w (OwnPost e deep W0 Ab cb w) := by
  induction e using El.ind with
  | h e ih =>
  intro deep W0 w Ab cb Ak ck hd hW hin
  unfold elV
  by_cases h61 : deep = 61
  · subst h61
    exact own_stop e W0 w Ab cb Ak ck e.b.length e.kids.length rfl
  · refine own_made e deep W0 w Ab Ak cb ck e.b.length e.kids.length rfl rfl hin.k.le hin.k.big (by omega) hW fun h0 => ?_
    obtain ⟨bl, off, h1, h2, h3⟩ := hin.kid h0
    refine ⟨bl, off, h1, h2, fun i hi => ?_⟩
    obtain ⟨Ab2, cb2, Ak2, ck2, g1, g2⟩ := h3 i hi
    refine ⟨Ab2, cb2, Ak2, ck2, g1, g2, fun w' hb' => ?_⟩
    have := ih _ (List.getElem_mem hi) (deep + 1) W0 w' Ab2 cb2 Ak2 ck2 (by omega) (Nat.le_trans hW hb'.size) (g2.keep fun p hp => hb'.cell (Nat.lt_of_lt_of_le hp hW))
    simpa using this
end Go.Proofs.Ytgdoepkoakpnbaa

