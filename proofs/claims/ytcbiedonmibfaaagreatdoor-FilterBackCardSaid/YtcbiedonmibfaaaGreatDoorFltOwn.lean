/-
  Own: a filter for the reference, and how great it is. Only the number is told.
-/
import Derived.Test.YtcbiedonmibfaaaGreatDoorST
import Derived.Test.YtcbiedonmibfaaaGreatDoorFE
import Derived.OneCell
namespace Go.Proofs.YtcbiedonmibfaaaGreatDoor
open Go.RowKit
theorem info_rf : (Tryz.prog.info? 28).map (fun i => (i.zero, i.size, i.bytes)) = some (some (.agg #[.int .i64 0, .slice none 0 0, .string ⟨#[]⟩, .string ⟨#[]⟩, .string ⟨#[]⟩, .string ⟨#[]⟩, .slice none 0 0]), 7, 120) := by kernel_rfl
theorem baO_len (l : List UInt8) : (baO l).size = l.length := by simp [baO, ByteArray.size]
theorem Ft.deep_pos (f : Ft) : 1 ≤ f.deep := by unfold Ft.deep; omega
theorem lens_take (b : List (List UInt8)) (i : Nat) (h : i < b.length) : lensB (b.take (i + 1)) = lensB (b.take i) + (5 + b[i].length) := by
 unfold lensB
 rw [List.take_succ_eq_append_getElem h, List.map_append, List.map_singleton, sumL_snoc]
theorem meas_take (l : List Ft) (i : Nat) (h : i < l.length) : sumL ((l.take (i + 1)).map Ft.meas) = sumL ((l.take i).map Ft.meas) + l[i].meas := by
 rw [List.take_succ_eq_append_getElem h, List.map_append, List.map_singleton, sumL_snoc]
theorem gl_deep_le : ∀ (g : Gl) (n : Nat), (∀ x ∈ g.list, x.deep ≤ n) → g.deep ≤ n
 | .nil, _, _ => Nat.zero_le _
 | .cons k g t v a z b nx, n, h => by
   have h1 := h ⟨k, g, t, v, a, z, b⟩ List.mem_cons_self
   have h2 := gl_deep_le nx n fun x hx => h x (List.mem_cons_of_mem _ hx)
   unfold Ft.deep at h1
   rw [Gl.deep]
   simp only at h1
   omega
def Ft.base (f : Ft) : Nat := 10 + f.t.length + f.v.length + f.a.length + f.z.length
def FOwnPost (f : Ft) (deep : Nat) (Ab : Option Addr) (cb : Nat) (w : World) (en : Ending) (w' : World) : Prop :=
 ∃ (N : Nat) (A : Option Addr) (K c : Nat), en = .returned (.tuple #[.agg #[.int .i64 f.k, .slice A K c, .string (baO f.t), .string (baO f.v), .string (baO f.a), .string (baO f.z), .slice Ab f.b.length cb], .int .i64 (N : Int)]) ∧ N ≤ 20000 + 20000 * (41 - deep) ∧
  (N < 3000 → N = f.meas ∧ f.deep + deep ≤ 41) ∧ Below w.heap.size w w'
set_option maxRecDepth 8000 in
set_option maxHeartbeats 800000 in
theorem fown_stop (f : Ft) (w : World) (Ak : Option Addr) (ck : Nat) (Ab : Option Addr) (cb K B : Nat) (hB : B = f.b.length) (st sv sa sz : ByteArray) (ht : st = baO f.t) (hv : sv = baO f.v) (ha : sa = baO f.a) (hz : sz = baO f.z) :
 Calls Tryz.prog 7 #[.agg #[.int .i64 f.k, .slice Ak K ck, .string st, .string sv, .string sa, .string sz, .slice Ab B cb], .int .i64 41] w (FOwnPost f 41 Ab cb w) := by
 replace hB := Hd hB
 replace ht := Hd ht
 replace hv := Hd hv
 replace ha := Hd ha
 replace hz := Hd hz
 go_enter Tryz.func7, Tryz.ntmps7
 go_wp2_with fail
 go_returns
 exact ⟨3000, none, 0, 0, by rw [ht.out, hv.out, ha.out, hz.out, hB.out]; rfl, by omega, fun h => by omega, by go_grown⟩
structure GInv (f : Ft) (deep : Nat) (Ak : Option Addr) (ck K : Nat) (Ab : Option Addr) (cb B : Nat) (st sv sa sz : ByteArray) (w wr : World) (k n : Nat) (V : Value) : Prop where
 below : Below w.heap.size w wr
 size : w.heap.size + 3 ≤ wr.heap.size
 box : wr.cell? ⟨w.heap.size, 1, none⟩ = some (.slice Ak K ck)
 res : wr.heap[w.heap.size + 1]? = some (.cells #[.int .i64 0, .slice none 0 0, .string ⟨#[]⟩, .string ⟨#[]⟩, .string ⟨#[]⟩, .string ⟨#[]⟩, .slice none 0 0] 28 (0, 0))
 out : wr.heap[w.heap.size + 1 + 1]? = some (.cells #[.int .i64 f.k, V, .string st, .string sv, .string sa, .string sz, .slice Ab B cb] 28 (0, 0))
 own : ∃ cs, wr.ownsRow (w.heap.size + 3) 28 7 V k cs
 le : n ≤ 20000 + 20000 * (41 - deep)
 good : n < 3000 → n = f.base + lensB f.b + sumL ((f.kids.take k).map Ft.meas) ∧ ∀ x ∈ f.kids.take k, x.deep + deep + 1 ≤ 41
def set7 (w : World) (b : Nat) (u0 u1 u2 u3 u4 u5 u6 : Value) : World := ((((((w.setCell ⟨b, 0, none⟩ u0).setCell ⟨b, 1, none⟩ u1).setCell ⟨b, 2, none⟩ u2).setCell ⟨b, 3, none⟩ u3).setCell ⟨b, 4, none⟩ u4).setCell ⟨b, 5, none⟩ u5).setCell ⟨b, 6, none⟩ u6
theorem set7_same {w : World} {b : Nat} {v0 v1 v2 v3 v4 v5 v6 : Value} {T : TypeId} (h : w.heap[b]? = some (.cells #[v0, v1, v2, v3, v4, v5, v6] T (0, 0))) (u0 u1 u2 u3 u4 u5 u6 : Value) : (set7 w b u0 u1 u2 u3 u4 u5 u6).heap[b]? = some (.cells #[u0, u1, u2, u3, u4, u5, u6] T (0, 0)) := by
 unfold set7
 rw [_root_.Go.heap_setCell_same _ _ _ _ _ _ (_root_.Go.heap_setCell_same _ _ _ _ _ _ (_root_.Go.heap_setCell_same _ _ _ _ _ _ (_root_.Go.heap_setCell_same _ _ _ _ _ _ (_root_.Go.heap_setCell_same _ _ _ _ _ _ (_root_.Go.heap_setCell_same _ _ _ _ _ _ (_root_.Go.heap_setCell_same _ _ _ _ _ _ h))))))]
 rfl
theorem set7_below {w W : World} {B b : Nat} (h : Below B w W) (hb : B ≤ b) (u0 u1 u2 u3 u4 u5 u6 : Value) : Below B w (set7 W b u0 u1 u2 u3 u4 u5 u6) := ((((((h.setCell hb u0).setCell hb u1).setCell hb u2).setCell hb u3).setCell hb u4).setCell hb u5).setCell hb u6
theorem gown_end {f : Ft} {deep : Nat} {Ak : Option Addr} {ck K : Nat} {Ab : Option Addr} {cb B : Nat} {st sv sa sz : ByteArray} {w wr : World} {k n : Nat} {A : Option Addr} {d : Nat} (HI : GInv f deep Ak ck K Ab cb B st sv sa sz w wr k n (.slice A k d)) (h : n < 3000 → k = f.kids.length) (hB : B = f.b.length) (ht : st = baO f.t) (hv : sv = baO f.v) (ha : sa = baO f.a) (hz : sz = baO f.z) (hd : deep ≤ 40) (u0 u1 u2 u3 u4 u5 u6 : Value) :
 FOwnPost f deep Ab cb w (.returned (.tuple #[.agg #[.int .i64 f.k, .slice A k d, .string st, .string sv, .string sa, .string sz, .slice Ab B cb], .int .i64 (n : Int)])) (set7 wr (w.heap.size + 1) u0 u1 u2 u3 u4 u5 u6) := by
 refine ⟨n, A, k, d, by rw [ht, hv, ha, hz, hB], HI.le, fun hn => ?_, set7_below HI.below (by omega) _ _ _ _ _ _ _⟩
 obtain ⟨h2, h3⟩ := HI.good hn
 have hk := h hn
 rw [List.take_of_length_le (by omega)] at h2 h3
 refine ⟨by rw [h2]; unfold Ft.meas Ft.base; rw [Gl.meas_list]; rfl, ?_⟩
 have := gl_deep_le f.g (40 - deep) fun x hx => by have := h3 x hx; omega
 unfold Ft.deep
 omega
theorem meas_pos (f : Ft) : 10 ≤ f.meas := by unfold Ft.meas; omega
theorem meas_ge (l : List Ft) : l.length ≤ sumL (l.map Ft.meas) := by
 induction l with
 | nil => exact Nat.zero_le _
 | cons x l ih =>
   rw [List.map_cons, sumL_cons, List.length_cons]
   have := meas_pos x
   omega
theorem GInv.row {f : Ft} {deep : Nat} {Ak : Option Addr} {ck K : Nat} {Ab : Option Addr} {cb B : Nat} {st sv sa sz : ByteArray} {w wr : World} {k n : Nat} {V : Value} (HI : GInv f deep Ak ck K Ab cb B st sv sa sz w wr k n V) (hn : n < 3000) (hk : k < f.kids.length) :
 ∃ cs : List Value, wr.ownsRow (w.heap.size + 3) 28 7 V k cs ∧ cs.length = k * 7 ∧ k < 3000 ∧ (∀ b, V.ownBlock = some b → w.heap.size + 3 ≤ b ∧ b < wr.heap.size) := by
 obtain ⟨cs, h1⟩ := HI.own
 obtain ⟨h2, _⟩ := HI.good hn
 refine ⟨cs, h1, h1.1, ?_, fun b hb => ?_⟩
 · have := meas_ge (f.kids.take k)
   rw [List.length_take] at this
   omega
 · obtain ⟨_, h0 | ⟨g, cap, cur, hv, hbs, hg, _⟩⟩ := h1
   · rw [h0.1] at hb
     cases hb
   · rw [hv] at hb
     injection hb with hb
     have hb' : g = b := hb
     subst hb'
     exact ⟨hbs, (Array.getElem?_eq_some_iff.1 hg).1⟩
theorem gown_step {f r : Ft} {deep : Nat} {Ak : Option Addr} {ck K : Nat} {Ab : Option Addr} {cb B : Nat} {st sv sa sz : ByteArray} {w wr w3 w6 : World} {k n N g cap : Nat} {V : Value} {cs us : List Value} {o1 o2 : Obj}
 (HI : GInv f deep Ak ck K Ab cb B st sv sa sz w wr k n V) (hn : n < 3000) (hk : k < f.kids.length) (hr : f.kids[k] = r) (hd : deep ≤ 40) (hb3 : Below wr.heap.size wr w3) (hN : N ≤ 20000 + 20000 * (41 - (deep + 1))) (hg3 : N < 3000 → N = r.meas ∧ r.deep + (deep + 1) ≤ 41)
 (hV : ∀ b, V.ownBlock = some b → w.heap.size + 3 ≤ b ∧ b < wr.heap.size) (hown : w6.ownsRow (w.heap.size + 3) 28 7 (.slice (some ⟨g, 0, none⟩) (k + 1) cap) (k + 1) (cs ++ us))
 (hg : ((w3.alloc o1).alloc o2).grownBy w6 V.ownBlock) (hat : V.ownBlock = some g ∨ g = w3.heap.size + 1 + 1) :
 GInv f deep Ak ck K Ab cb B st sv sa sz w (w6.setCell ⟨w.heap.size + 1 + 1, 1, none⟩ (.slice (some ⟨g, 0, none⟩) (k + 1) cap)) (k + 1) (n + N) (.slice (some ⟨g, 0, none⟩) (k + 1) cap) := by
 have hsz := HI.size
 have hs3 := hb3.size
 have hs5 : ((w3.alloc o1).alloc o2).heap.size = w3.heap.size + 1 + 1 := by simp
 have hs6 := hg.size
 rw [hs5] at hs6
 have hVb : ∀ b, V.ownBlock = some b → w.heap.size + 3 ≤ b := fun b hb => (hV b hb).1
 have hblk : ∀ b, b < w.heap.size + 3 → w6.heap[b]? = wr.heap[b]? := by
  intro b hb
  rw [hg.block b (by rw [hs5]; omega) (fun e => by have := hVb b e.symm; omega), Below.heap_alloc _ _ _ (by simp; omega), Below.heap_alloc _ _ _ (by omega), hb3.block b (by omega)]
 have hB5 : Below wr.heap.size wr ((w3.alloc o1).alloc o2) := (hb3.alloc hs3 _).alloc (by simp; omega) _
 have hgb : g = w.heap.size + 1 + 1 → False := by
  intro e
  rcases hat with h | h
  · have := hVb g h
    omega
  · omega
 refine ⟨?_, ?_, ?_, ?_, ?_, ⟨_, ownsRow_setCell_other hown (fun e => hgb (by injection e with e)) _⟩, by omega, fun h => ?_⟩
 · refine Below.setCell ?_ (by show w.heap.size ≤ w.heap.size + 1 + 1; omega) _
   refine HI.below.trans ?_
   refine (hB5.mono (by omega)).trans ?_
   exact (Below.refl _ _).grown hg (by rw [hs5]; omega) (fun b hb => by have := hVb b hb; omega)
 · have : (w6.setCell ⟨w.heap.size + 1 + 1, 1, none⟩ (.slice (some ⟨g, 0, none⟩) (k + 1) cap)).heap.size = w6.heap.size := by simp [World.setCell]
   rw [this]
   omega
 · rw [World.cell?_of_block (w := wr) (by rw [_root_.Go.heap_setCell_other _ _ _ _ (by show w.heap.size ≠ w.heap.size + 1 + 1; omega)]; exact hblk _ (by show w.heap.size < w.heap.size + 3; omega))]
   exact HI.box
 · rw [_root_.Go.heap_setCell_other _ _ _ _ (by show w.heap.size + 1 ≠ w.heap.size + 1 + 1; omega), hblk _ (by omega)]
   exact HI.res
 · rw [_root_.Go.heap_setCell_same _ _ _ _ _ _ ((hblk _ (by omega)).trans HI.out)]
   rfl
 · obtain ⟨h2, h3⟩ := HI.good hn
   obtain ⟨g3, g4⟩ := hg3 (by omega)
   refine ⟨?_, fun x hx => ?_⟩
   · rw [meas_take _ _ hk, hr]
     omega
   · rw [List.take_succ_eq_append_getElem hk, hr] at hx
     rcases List.mem_append.1 hx with hx | hx
     · exact h3 x hx
     · have := List.mem_singleton.1 hx
       subst this
       omega
set_option maxRecDepth 40000 in
set_option maxHeartbeats 1600000 in
theorem fown_made (f : Ft) (deep : Nat) (w : World) (Ak Ab : Option Addr) (ck cb K B : Nat) (hB : B = f.b.length) (hK : f.kids.length = K) (hKc : K ≤ ck) (hck : ck ≤ 9223372036854775807) (hBc : B ≤ cb) (hcb : cb ≤ 9223372036854775807) (hd : deep ≤ 40)
 (st sv sa sz : ByteArray) (ht : st = baO f.t) (hv : sv = baO f.v) (ha : sa = baO f.a) (hz : sz = baO f.z)
 (hbs : 0 < B → ∃ ad, Ab = some ad ∧ ad.block < w.heap.size ∧ ∀ (i : Nat) (hi : i < f.b.length), w.cell? (ad.add i) = some (.string (baO f.b[i])))
 (ih : 0 < K → ∃ bl off, Ak = some ⟨bl, off, none⟩ ∧ bl < w.heap.size ∧ ∀ (i : Nat) (hi : i < f.kids.length), ∃ Ak2 ck2 Ab2 cb2, FtAt w f.kids[i] bl (off + i * 7) Ak2 ck2 Ab2 cb2 ∧
   ∀ w', Below w.heap.size w w' → Calls Tryz.prog 7 #[ftV f.kids[i] Ak2 ck2 Ab2 cb2, .int .i64 ((deep : Int) + 1)] w' (FOwnPost f.kids[i] (deep + 1) Ab2 cb2 w')) :
 Calls Tryz.prog 7 #[.agg #[.int .i64 f.k, .slice Ak K ck, .string st, .string sv, .string sa, .string sz, .slice Ab B cb], .int .i64 (deep : Int)] w (FOwnPost f deep Ab cb w) := by
 obtain ⟨hKc, hck⟩ := And.intro hKc hck
 obtain ⟨i0, hi, hz0, hz1, hz2⟩ := info_parts info_rf
 have zt : st.size = f.t.length := by rw [ht, baO_len]
 have zv : sv.size = f.v.length := by rw [hv, baO_len]
 have za : sa.size = f.a.length := by rw [ha, baO_len]
 have zz : sz.size = f.z.length := by rw [hz, baO_len]
 have hbase : f.base = 10 + f.t.length + f.v.length + f.a.length + f.z.length := rfl
 replace hB := Hd hB
 replace hK := Hd hK
 replace ih := Hd ih
 replace hbs := Hd hbs
 replace ht := Hd ht
 replace hv := Hd hv
 replace ha := Hd ha
 replace hz := Hd hz
 have kd : decide (40 < (deep : Int)) = false := decide_eq_false (by omega)
 obtain ⟨n0, hn0⟩ : ∃ n0, n0 = 10 + min st.size 3000 + min sv.size 3000 + min sa.size 3000 + min sz.size 3000 := ⟨_, rfl⟩
 have hn1 : n0 ≤ 12010 := by omega
 have hn2 : n0 < 3000 → n0 = f.base := by omega
 obtain ⟨W0, hW0⟩ : ∃ W0, W0 = (((w.alloc (.cells #[.int .i64 f.k, .slice Ak K ck, .string st, .string sv, .string sa, .string sz, .slice Ab B cb] 25)).alloc (.cells #[.int .i64 0, .slice none 0 0, .string ⟨#[]⟩, .string ⟨#[]⟩, .string ⟨#[]⟩, .string ⟨#[]⟩, .slice none 0 0] 28)).alloc (.cells #[.int .i64 f.k, .slice none 0 0, .string st, .string sv, .string sa, .string sz, .slice Ab B cb] 28)) := ⟨_, rfl⟩
 have hB0 : Below w.heap.size w W0 := by rw [hW0]; go_grown
 have hs0 : W0.heap.size = w.heap.size + 3 := by rw [hW0]; simp
 have hbox : W0.heap[w.heap.size]? = some (.cells #[.int .i64 f.k, .slice Ak K ck, .string st, .string sv, .string sa, .string sz, .slice Ab B cb] 25 (0, 0)) := by
  rw [hW0, Below.heap_alloc _ _ _ (by simp; omega), Below.heap_alloc _ _ _ (by simp)]
  exact heap_alloc_new w _
 have hres : W0.heap[w.heap.size + 1]? = some (.cells #[.int .i64 0, .slice none 0 0, .string ⟨#[]⟩, .string ⟨#[]⟩, .string ⟨#[]⟩, .string ⟨#[]⟩, .slice none 0 0] 28 (0, 0)) := by
  rw [hW0, Below.heap_alloc _ _ _ (by simp)]
  exact heap_alloc_new (w.alloc _) _ |> (by simpa using ·)
 have hout : W0.heap[w.heap.size + 1 + 1]? = some (.cells #[.int .i64 f.k, .slice none 0 0, .string st, .string sv, .string sa, .string sz, .slice Ab B cb] 28 (0, 0)) := by
  rw [hW0]
  exact heap_alloc_new ((w.alloc _).alloc _) _ |> (by simpa using ·)
 have g1 : W0.cell? ⟨w.heap.size, 1, none⟩ = some (.slice Ak K ck) := cell_of_row _ _ _ _ _ _ hbox
 have g6 : W0.cell? ⟨w.heap.size, 6, none⟩ = some (.slice Ab B cb) := cell_of_row _ _ _ _ _ _ hbox
 replace hB0 := Hd hB0
 replace hbox := Hd hbox
 replace hres := Hd hres
 replace hout := Hd hout
 replace hs0 := Hd hs0
 go_enter Tryz.func7, Tryz.ntmps7
 go_wp2_with fail
 rw [← hW0]
 replace hW0 := Hd hW0
 go_loopw [7, 8] (fun nv i wr => ∃ (j n : Nat), j ≤ B ∧ i = .int .i64 (j : Int) ∧ nv = .int .i64 (n : Int) ∧ wr = W0 ∧ n ≤ 15000 ∧ (n < 3000 → n = f.base + lensB (f.b.take j))) (fun _ i _ => B - (intOf i).toNat)
 case atStart => exact ⟨0, n0, Nat.zero_le _, rfl, by congr 1; omega, rfl, by omega, fun h => by rw [hn2 h]; rfl⟩
 case round =>
  obtain ⟨j, n, hj, rfl, rfl, hwr, hn15, hgood⟩ := hrel
  subst hwr
  have j0 : (0 : Int) ≤ (j : Int) := by omega
  by_cases hgo : j < B ∧ n < 3000
  · have k1 : decide ((j : Int) < (B : Int)) = true := decide_eq_true (by omega)
    have k2 : decide ((n : Int) < 3000) = true := decide_eq_true (by omega)
    have j1 : (j : Int) < (B : Int) := by omega
    obtain ⟨ad, rfl, hadw, hcell⟩ := hbs.out (by omega)
    have hjl : j < f.b.length := by rw [← hB.out]; exact hgo.1
    have c0 := (hB0.out.cell (p := ad.add j) (by rw [add_block]; exact hadw)).trans (hcell j hjl)
    have hl := lens_take f.b j hjl
    have zx0 := baO_len f.b[j]
    obtain ⟨x, hx⟩ : ∃ x, baO f.b[j] = x := ⟨_, rfl⟩
    rw [hx] at c0 zx0
    obtain ⟨m, hm⟩ : ∃ m, f.b[j].length = m := ⟨_, rfl⟩
    rw [hm] at hl zx0
    have hgood2 := hgood hgo.2
    clear hx hcell hm hgood
    replace hl := Hd hl
    replace hgood2 := Hd hgood2
    go_wp2_with fail
    refine ⟨⟨j + 1, n + 5 + min x.size 3000, by omega, by congr 1, by congr 1; omega, (by trivial), by omega, fun h => by rw [hl.out]; have := hgood2.out; omega⟩, ?_⟩
    show B - ((j : Int) + 1).toNat < B - (j : Int).toNat
    omega
  have hex : (decide ((j : Int) < (B : Int)) = false ∧ decide (j < B) = false ∧ B ≤ j) ∨ (decide ((j : Int) < (B : Int)) = true ∧ decide (j < B) = true ∧ j < B ∧ decide ((n : Int) < 3000) = false ∧ decide (n < 3000) = false ∧ 3000 ≤ n) := by
   by_cases h : j < B
   · exact .inr ⟨decide_eq_true (by omega), decide_eq_true h, h, decide_eq_false (by omega), decide_eq_false (by omega), by omega⟩
   · exact .inl ⟨decide_eq_false (by omega), decide_eq_false h, by omega⟩
  have hinit : Hid (GInv f deep Ak ck K Ab cb B st sv sa sz w wr 0 n (.slice none 0 0)) := Hd ⟨hB0.out, by have := hs0.out; omega, g1, hres.out, hout.out, ⟨[], World.ownsRow_nil _ _ _ _⟩, by omega, fun h => ⟨by
   have := hgood h
   have hjB : j = f.b.length := by have := hB.out; omega
   rw [hjB, List.take_length] at this
   rw [this]
   rfl, fun x hx => by simp at hx⟩⟩
  clear hgood hgo
  rcases hex with ⟨k1, k2, k3⟩ | ⟨k1, k2, k3, k4, k5, k6⟩
  all_goals
   go_wp2_with fail
   go_loopw [7, 9] (fun nv i wr2 => ∃ (k n : Nat) (A : Option Addr) (d : Nat), k ≤ K ∧ i = .int .i64 (k : Int) ∧ nv = .int .i64 (n : Int) ∧ Hid (GInv f deep Ak ck K Ab cb B st sv sa sz w wr2 k n (.slice A k d))) (fun _ i _ => K - (intOf i).toNat)
   case atStart => exact ⟨0, n, none, 0, Nat.zero_le _, rfl, rfl, hinit⟩
   case round =>
    clear hinit g1 g6
    obtain ⟨k, n, A, d, hk, rfl, rfl, HI⟩ := hrel
    have g4 := HI.out.box
    have hnle := HI.out.le
    have hblk : w.heap.size + 3 ≤ wr.heap.size := HI.out.size
    have hO := HI.out.out
    have hR := HI.out.res
    have o0 : wr.cell? ⟨w.heap.size + 1 + 1, 0, none⟩ = some (.int .i64 f.k) := cell_of_row _ _ _ _ _ _ hO
    have o1 : wr.cell? ⟨w.heap.size + 1 + 1, 1, none⟩ = some (.slice A k d) := cell_of_row _ _ _ _ _ _ hO
    have o2 : wr.cell? ⟨w.heap.size + 1 + 1, 2, none⟩ = some (.string st) := cell_of_row _ _ _ _ _ _ hO
    have o3 : wr.cell? ⟨w.heap.size + 1 + 1, 3, none⟩ = some (.string sv) := cell_of_row _ _ _ _ _ _ hO
    have o4 : wr.cell? ⟨w.heap.size + 1 + 1, 4, none⟩ = some (.string sa) := cell_of_row _ _ _ _ _ _ hO
    have o5 : wr.cell? ⟨w.heap.size + 1 + 1, 5, none⟩ = some (.string sz) := cell_of_row _ _ _ _ _ _ hO
    have o6 : wr.cell? ⟨w.heap.size + 1 + 1, 6, none⟩ = some (.slice Ab B cb) := cell_of_row _ _ _ _ _ _ hO
    have r0 : wr.cell? ⟨w.heap.size + 1, 0, none⟩ = some (.int .i64 0) := cell_of_row _ _ _ _ _ _ hR
    have f0 : wr.frozen? ⟨w.heap.size + 1, 0, none⟩ = false := frozen_of_row _ _ _ _ _ hR
    have r1 : wr.cell? ⟨w.heap.size + 1, 1, none⟩ = some (.slice none 0 0) := cell_of_row _ _ _ _ _ _ hR
    have f1 : wr.frozen? ⟨w.heap.size + 1, 1, none⟩ = false := frozen_of_row _ _ _ _ _ hR
    have r2 : wr.cell? ⟨w.heap.size + 1, 2, none⟩ = some (.string ⟨#[]⟩) := cell_of_row _ _ _ _ _ _ hR
    have f2 : wr.frozen? ⟨w.heap.size + 1, 2, none⟩ = false := frozen_of_row _ _ _ _ _ hR
    have r3 : wr.cell? ⟨w.heap.size + 1, 3, none⟩ = some (.string ⟨#[]⟩) := cell_of_row _ _ _ _ _ _ hR
    have f3 : wr.frozen? ⟨w.heap.size + 1, 3, none⟩ = false := frozen_of_row _ _ _ _ _ hR
    have r4 : wr.cell? ⟨w.heap.size + 1, 4, none⟩ = some (.string ⟨#[]⟩) := cell_of_row _ _ _ _ _ _ hR
    have f4 : wr.frozen? ⟨w.heap.size + 1, 4, none⟩ = false := frozen_of_row _ _ _ _ _ hR
    have r5 : wr.cell? ⟨w.heap.size + 1, 5, none⟩ = some (.string ⟨#[]⟩) := cell_of_row _ _ _ _ _ _ hR
    have f5 : wr.frozen? ⟨w.heap.size + 1, 5, none⟩ = false := frozen_of_row _ _ _ _ _ hR
    have r6 : wr.cell? ⟨w.heap.size + 1, 6, none⟩ = some (.slice none 0 0) := cell_of_row _ _ _ _ _ _ hR
    have f6 : wr.frozen? ⟨w.heap.size + 1, 6, none⟩ = false := frozen_of_row _ _ _ _ _ hR
    have f9 : wr.frozen? ⟨w.heap.size + 1 + 1, 1, none⟩ = false := frozen_of_row _ _ _ _ _ hO
    replace hR := Hd hR
    replace hO := Hd hO
    have k0 : (0 : Int) ≤ (k : Int) := by omega
    by_cases hlt : k < K
    · by_cases hn : n < 3000
      · have kn : decide ((n : Int) < 3000) = true := decide_eq_true (by omega)
        have kk : decide ((k : Int) < (K : Int)) = true := decide_eq_true (by omega)
        have hke : k < f.kids.length := by rw [hK.out]; exact hlt
        obtain ⟨bl, off, rfl, hbl, hkid⟩ := ih.out (by omega)
        clear ih
        obtain ⟨Ak2, ck2, Ab2, cb2, hat, hc⟩ := hkid k hke
        clear hkid
        obtain ⟨cs, hrow1, hrow2, hk3, hrow3⟩ := HI.out.row hn hke
        have keep : ∀ p : Addr, p.block < w.heap.size → wr.cell? p = w.cell? p := fun p hp => HI.out.below.cell hp
        have c0 := (keep ⟨bl, off + k * 7, none⟩ hbl).trans hat.k
        have c1 := (keep ⟨bl, off + k * 7 + 1, none⟩ hbl).trans hat.g
        have c2 := (keep ⟨bl, off + k * 7 + 2, none⟩ hbl).trans hat.t
        have c3 := (keep ⟨bl, off + k * 7 + 3, none⟩ hbl).trans hat.v
        have c4 := (keep ⟨bl, off + k * 7 + 4, none⟩ hbl).trans hat.a
        have c5 := (keep ⟨bl, off + k * 7 + 5, none⟩ hbl).trans hat.z
        have c6 := (keep ⟨bl, off + k * 7 + 6, none⟩ hbl).trans hat.b
        replace hc := hc wr HI.out.below
        obtain ⟨r, hrr⟩ : ∃ r, f.kids[k]'hke = r := ⟨_, rfl⟩
        rw [hrr] at hc c0 c1 c2 c3 c4 c5 c6
        replace hrr := Hd hrr
        replace hc := Hd hc
        replace hrow1 := Hd hrow1
        replace hrow2 := Hd hrow2
        replace hrow3 := Hd hrow3
        unfold ftV at hc
        clear keep hat o0 o2 o3 o4 o5 o6 r0 r1 r2 r3 r4 r5 r6 f0 f1 f2 f3 f4 f5 f6
        go_wp2_with fail
        refine hc.out.mono ?_
        rintro en w3 ⟨N, A3, K3, c3', rfl, hN, hg3, hb3⟩
        have p4 : w3.cell? ⟨w.heap.size + 1 + 1, 1, none⟩ = some (.slice A k d) := (hb3.cell (p := ⟨w.heap.size + 1 + 1, 1, none⟩) (by show w.heap.size + 1 + 1 < _; omega)).trans o1
        have hsz3 := hb3.size
        replace hb3 := Hd hb3
        replace hg3 := Hd hg3
        clear c0 c1 c2 c3 c4 c5 c6 hc g4 o1 f9
        have q4 : ∀ o : Obj, (w3.alloc o).cell? ⟨w.heap.size + 1 + 1, 1, none⟩ = some (.slice A k d) := fun o => (World.cell?_alloc_lt _ _ _ (by show w.heap.size + 1 + 1 < _; omega)).trans p4
        have q5 : ∀ o o' : Obj, ((w3.alloc o).alloc o').cell? ⟨w.heap.size + 1 + 1, 1, none⟩ = some (.slice A k d) := fun o o' => (World.cell?_alloc_lt _ _ _ (by show w.heap.size + 1 + 1 < _; simp; omega)).trans (q4 o)
        dsimp only []
        go_wp2_with (at_builtin; refine wpList_append_lies _ rfl (.tmp 92) (.tmp 94) 26 rfl (w.heap.size + 3) 28 i0 _ 7 120 Tryz.underlying26 hi hz0 hz1 hz2 rfl (by decide) (.slice A k d) k cs rfl (World.ownsRow.alloc (World.ownsRow.alloc (owns_below hrow1.out hb3.out) _) _) ⟨w3.heap.size + 1, 0, none⟩ 1 1 [.int .i64 r.k, .slice A3 K3 c3', .string (baO r.t), .string (baO r.v), .string (baO r.a), .string (baO r.z), .slice Ab2 r.b.length cb2] rfl rfl ?hnews ?hone (by decide) ?h63 ?hby ?hba (w3.heap.size + 1 + 1) ?hH ?hgo)
        case hnews => exact World.news_of_block (by simpa using heap_alloc_new (w3.alloc (.cells #[.int .i64 r.k, .slice A3 K3 c3', .string (baO r.t), .string (baO r.v), .string (baO r.a), .string (baO r.z), .slice Ab2 r.b.length cb2] 28)) (.cells #[.int .i64 r.k, .slice A3 K3 c3', .string (baO r.t), .string (baO r.v), .string (baO r.a), .string (baO r.z), .slice Ab2 r.b.length cb2] 28))
        case hone =>
         intro u hu
         simp only [List.mem_cons, List.not_mem_nil, or_false] at hu
         rcases hu with rfl | rfl | rfl | rfl | rfl | rfl | rfl <;> rfl
        case h63 => simp only [maxLen]; omega
        case hby => omega
        case hba => simp; omega
        case hH => simp
        case hgo =>
         intro g cap w6 hown hg hat hgl
         have hNb : N ≤ 840000 := Nat.le_trans hN (by omega)
         have hB6 : w6.heap[w.heap.size + 1 + 1]? = wr.heap[w.heap.size + 1 + 1]? := by
          rw [hg.block _ (by simp; omega) (fun e => by have := (hrow3.out _ e.symm).1; omega), Below.heap_alloc _ _ _ (by simp; omega), Below.heap_alloc _ _ _ (by omega), hb3.out.block _ (by omega)]
         have c6 : w6.cell? ⟨w.heap.size + 1 + 1, 1, none⟩ = some (.slice A k d) := cell_of_row _ _ _ _ _ _ (hB6.trans hO.out)
         have f6 : w6.frozen? ⟨w.heap.size + 1 + 1, 1, none⟩ = false := frozen_of_row _ _ _ _ _ (hB6.trans hO.out)
         have HS := Hd (gown_step HI.out hn hke hrr.out hd hb3.out hN hg3.out hrow3.out hown hg hat)
         replace hB6 := Hd hB6
         replace hg := Hd hg
         replace hown := Hd hown
         clear hat q4 q5 p4
         go_wp2_with fail
         refine ⟨⟨k + 1, n + N, some ⟨g, 0, none⟩, cap, hlt, by congr 1, by congr 1, HS⟩, ?_⟩
         show K - ((k : Int) + 1).toNat < K - (k : Int).toNat
         omega
      · have kn : decide ((n : Int) < 3000) = false := decide_eq_false (by omega)
        have kk : decide ((k : Int) < (K : Int)) = true := decide_eq_true (by omega)
        have HE := Hd (gown_end HI.out (fun h => absurd h hn) hB.out ht.out hv.out ha.out hz.out hd (.int .i64 f.k) (.slice A k d) (.string st) (.string sv) (.string sa) (.string sz) (.slice Ab B cb))
        have HC := Hd (set7_same hR.out (.int .i64 f.k) (.slice A k d) (.string st) (.string sv) (.string sa) (.string sz) (.slice Ab B cb))
        go_wp2_with fail
        have HX : set7 wr (w.heap.size + 1) (.int .i64 f.k) (.slice A k d) (.string st) (.string sv) (.string sa) (.string sz) (.slice Ab B cb) = ((((((wr.setCell ⟨w.heap.size + 1, 0, none⟩ (.int .i64 f.k)).setCell ⟨w.heap.size + 1, 1, none⟩ (.slice A k d)).setCell ⟨w.heap.size + 1, 2, none⟩ (.string st)).setCell ⟨w.heap.size + 1, 3, none⟩ (.string sv)).setCell ⟨w.heap.size + 1, 4, none⟩ (.string sa)).setCell ⟨w.heap.size + 1, 5, none⟩ (.string sz)).setCell ⟨w.heap.size + 1, 6, none⟩ (.slice Ab B cb) := rfl
        rw [← HX]
        obtain ⟨W5, hW5⟩ : ∃ W5, W5 = set7 wr (w.heap.size + 1) (.int .i64 f.k) (.slice A k d) (.string st) (.string sv) (.string sa) (.string sz) (.slice Ab B cb) := ⟨_, rfl⟩
        rw [← hW5] at HE HC ⊢
        clear HX hW5 o0 o1 o2 o3 o4 o5 o6 r0 r1 r2 r3 r4 r5 r6 f0 f1 f2 f3 f4 f5 f6 f9 g4
        have q0 : W5.cell? ⟨w.heap.size + 1, 0, none⟩ = some (.int .i64 f.k) := cell_of_row _ _ _ _ _ _ HC.out
        have q1 : W5.cell? ⟨w.heap.size + 1, 1, none⟩ = some (.slice A k d) := cell_of_row _ _ _ _ _ _ HC.out
        have q2 : W5.cell? ⟨w.heap.size + 1, 2, none⟩ = some (.string st) := cell_of_row _ _ _ _ _ _ HC.out
        have q3 : W5.cell? ⟨w.heap.size + 1, 3, none⟩ = some (.string sv) := cell_of_row _ _ _ _ _ _ HC.out
        have q4 : W5.cell? ⟨w.heap.size + 1, 4, none⟩ = some (.string sa) := cell_of_row _ _ _ _ _ _ HC.out
        have q5 : W5.cell? ⟨w.heap.size + 1, 5, none⟩ = some (.string sz) := cell_of_row _ _ _ _ _ _ HC.out
        have q6 : W5.cell? ⟨w.heap.size + 1, 6, none⟩ = some (.slice Ab B cb) := cell_of_row _ _ _ _ _ _ HC.out
        exact bodyPost_ret (v := .tuple #[.agg #[.int .i64 f.k, .slice A k d, .string st, .string sv, .string sa, .string sz, .slice Ab B cb], .int .i64 (n : Int)]) (by simp [results, Tryz.results7, go_sem, q0, q1, q2, q3, q4, q5, q6]) rfl HE.out
    · have kk : decide ((k : Int) < (K : Int)) = false := decide_eq_false (by omega)
      have HE := Hd (gown_end HI.out (fun _ => by have := hK.out; omega) hB.out ht.out hv.out ha.out hz.out hd (.int .i64 f.k) (.slice A k d) (.string st) (.string sv) (.string sa) (.string sz) (.slice Ab B cb))
      have HC := Hd (set7_same hR.out (.int .i64 f.k) (.slice A k d) (.string st) (.string sv) (.string sa) (.string sz) (.slice Ab B cb))
      go_wp2_with fail
      have HX : set7 wr (w.heap.size + 1) (.int .i64 f.k) (.slice A k d) (.string st) (.string sv) (.string sa) (.string sz) (.slice Ab B cb) = ((((((wr.setCell ⟨w.heap.size + 1, 0, none⟩ (.int .i64 f.k)).setCell ⟨w.heap.size + 1, 1, none⟩ (.slice A k d)).setCell ⟨w.heap.size + 1, 2, none⟩ (.string st)).setCell ⟨w.heap.size + 1, 3, none⟩ (.string sv)).setCell ⟨w.heap.size + 1, 4, none⟩ (.string sa)).setCell ⟨w.heap.size + 1, 5, none⟩ (.string sz)).setCell ⟨w.heap.size + 1, 6, none⟩ (.slice Ab B cb) := rfl
      rw [← HX]
      obtain ⟨W5, hW5⟩ : ∃ W5, W5 = set7 wr (w.heap.size + 1) (.int .i64 f.k) (.slice A k d) (.string st) (.string sv) (.string sa) (.string sz) (.slice Ab B cb) := ⟨_, rfl⟩
      rw [← hW5] at HE HC ⊢
      clear HX hW5 o0 o1 o2 o3 o4 o5 o6 r0 r1 r2 r3 r4 r5 r6 f0 f1 f2 f3 f4 f5 f6 f9 g4
      have q0 : W5.cell? ⟨w.heap.size + 1, 0, none⟩ = some (.int .i64 f.k) := cell_of_row _ _ _ _ _ _ HC.out
      have q1 : W5.cell? ⟨w.heap.size + 1, 1, none⟩ = some (.slice A k d) := cell_of_row _ _ _ _ _ _ HC.out
      have q2 : W5.cell? ⟨w.heap.size + 1, 2, none⟩ = some (.string st) := cell_of_row _ _ _ _ _ _ HC.out
      have q3 : W5.cell? ⟨w.heap.size + 1, 3, none⟩ = some (.string sv) := cell_of_row _ _ _ _ _ _ HC.out
      have q4 : W5.cell? ⟨w.heap.size + 1, 4, none⟩ = some (.string sa) := cell_of_row _ _ _ _ _ _ HC.out
      have q5 : W5.cell? ⟨w.heap.size + 1, 5, none⟩ = some (.string sz) := cell_of_row _ _ _ _ _ _ HC.out
      have q6 : W5.cell? ⟨w.heap.size + 1, 6, none⟩ = some (.slice Ab B cb) := cell_of_row _ _ _ _ _ _ HC.out
      exact bodyPost_ret (v := .tuple #[.agg #[.int .i64 f.k, .slice A k d, .string st, .string sv, .string sa, .string sz, .slice Ab B cb], .int .i64 (n : Int)]) (by simp [results, Tryz.results7, go_sem, q0, q1, q2, q3, q4, q5, q6]) rfl HE.out
theorem fown_any (f : Ft) : ∀ (deep : Nat) (w : World) (Ak : Option Addr) (ck : Nat) (Ab : Option Addr) (cb : Nat), deep ≤ 41 → FtIn w (· < w.heap.size) f Ak ck Ab cb →
 Calls Tryz.prog 7 #[ftV f Ak ck Ab cb, .int .i64 (deep : Int)] w (FOwnPost f deep Ab cb w) := by
 induction f using Ft.ind with
 | h f ih =>
 intro deep w Ak ck Ab cb hd hin
 unfold ftV
 by_cases h41 : deep = 41
 · subst h41
   exact fown_stop f w Ak ck Ab cb f.kids.length f.b.length rfl _ _ _ _ rfl rfl rfl rfl
 · refine fown_made f deep w Ak Ab ck cb f.kids.length f.b.length rfl rfl hin.g.le hin.g.big hin.b.le hin.b.big (by omega) _ _ _ _ rfl rfl rfl rfl (fun h0 => hin.part h0) fun h0 => ?_
   obtain ⟨bl, off, h1, h2, h3⟩ := hin.kid h0
   refine ⟨bl, off, h1, h2, fun i hi => ?_⟩
   obtain ⟨Ak2, ck2, Ab2, cb2, g1, g2⟩ := h3 i hi
   refine ⟨Ak2, ck2, Ab2, cb2, g1, fun w' hb' => ?_⟩
   have := ih _ (List.getElem_mem hi) (deep + 1) w' Ak2 ck2 Ab2 cb2 (by omega) ((g2.keep fun p hp => hb'.cell hp).more fun b hb => Nat.lt_of_lt_of_le hb hb'.size)
   simpa using this
end Go.Proofs.YtcbiedonmibfaaaGreatDoor
