/- Filters. -/
import Derived.Test.YtcbiedonmibfaaaGreatDoorTX
import Derived.Deep.RegionHeldLaw
import Derived.Deep.AppendLies
import Derived.BigRegion
import Derived.Deep.CutRange
import Derived.Deep.CutBlock
namespace Go.Proofs.YtcbiedonmibfaaaGreatDoor
open Go.RowKit Go.Lib
structure MkI (fv : Array Value) (X : Nat) (c n : Int) (m : Bool) (w wr : World) (ks : List El) (V : Value) : Prop where
 below : Below w.heap.size w wr
 two : w.heap.size + 2 ≤ X
 size : X + 1 ≤ wr.heap.size
 box : wr.heap[w.heap.size]? = some (.cells fv 25 (0, 0))
 res : wr.heap[w.heap.size + 1]? = some (.cells #[.int .i64 0, .bool false, .int .i64 0, .slice none 0 0, .slice none 0 0] 43 (0, 0))
 out : wr.heap[X]? = some (.cells #[.int .i64 c, .bool m, .int .i64 n, .slice none 0 0, V] 43 (0, 0))
 row : RowQ 43 wr (X + 1) V ks
theorem MkI.go {fv : Array Value} {X : Nat} {c n : Int} {m : Bool} {w wr w3 : World} {ks : List El} {V : Value} (h : MkI fv X c n m w wr ks V) (hb : Below wr.heap.size wr w3) : MkI fv X c n m w w3 ks V := by
 have h1 := h.two
 have h2 := h.size
 have h3 := hb.size
 exact ⟨h.below.trans (hb.mono h.below.size), h1, by omega, (hb.block _ (by omega)).trans h.box, (hb.block _ (by omega)).trans h.res, (hb.block _ (by omega)).trans h.out, h.row.below hb⟩
theorem mk_step {fv : Array Value} {X : Nat} {r : El} {c n : Int} {m : Bool} {w wr w5 w6 : World} {ks : List El} {V : Value} {Ab2 : Option Addr} {cb2 : Nat} {A3 : Option Addr} {c3 g cap : Nat} {cs r5 : List Value}
 (HI : MkI fv X c n m w wr ks V) (hb5 : Below wr.heap.size wr w5)
 (hk : ElIn w5 (NewB wr.heap.size w5) r Ab2 cb2 A3 c3) (h5 : r5 = el5 r Ab2 cb2 A3 c3) (hcs : cs.length = ks.length * 5) (hV : ∀ b, V.ownBlock = some b → X + 1 ≤ b ∧ b < wr.heap.size)
 (hrow : ∀ (i : Nat) (hi : i < ks.length), ∃ Ab cb Ak ck, (∀ j, j < 5 → cs[i * 5 + j]? = (el5 ks[i] Ab cb Ak ck)[j]?) ∧ ElIn wr (RowCb wr (X + 1) V) ks[i] Ab cb Ak ck)
 (hown : w6.ownsRow (X + 1) 43 5 (.slice (some ⟨g, 0, none⟩) (ks.length + 1) cap) (ks.length + 1) (cs ++ r5))
 (hg : w5.grownBy w6 V.ownBlock) (hat : V.ownBlock = some g ∨ g = w5.heap.size) :
 MkI fv X c n m w (w6.setCell ⟨X, 4, none⟩ (.slice (some ⟨g, 0, none⟩) (ks.length + 1) cap)) (ks ++ [r]) (.slice (some ⟨g, 0, none⟩) (ks.length + 1) cap) ∧
  w6.cell? ⟨X, 4, none⟩ = some V ∧ w6.frozen? ⟨X, 4, none⟩ = false ∧ ∀ j v, fv[j]? = some v → w6.cell? ⟨w.heap.size, j, none⟩ = some v := by
 subst h5
 have hsz := HI.size
 have h2 := HI.two
 have hs5 := hb5.size
 have hs6 := hg.size
 have hVb : ∀ b, V.ownBlock = some b → X + 1 ≤ b := fun b hb => (hV b hb).1
 have hblk : ∀ b, b < X + 1 → w6.heap[b]? = wr.heap[b]? := by
  intro b hb
  rw [hg.block b (by omega) (fun e => by have := hVb b e.symm; omega), hb5.block b (by omega)]
 have hX6 := (hblk X (by omega)).trans HI.out
 refine ⟨⟨?_, h2, ?_, ?_, ?_, ?_, ?_⟩, cell_of_row _ _ 4 _ _ _ hX6, free7 hX6 4, fun j v hv => (cell_of_row _ _ j _ _ _ ((hblk _ (by omega)).trans HI.box)).trans hv⟩
 · refine Below.setCell ?_ (by show w.heap.size ≤ X; omega) _
   refine HI.below.trans ?_
   refine (hb5.mono (by omega)).trans ?_
   exact (Below.refl _ _).grown hg (by omega) (fun b hb => by have := hVb b hb; omega)
 · have : (w6.setCell ⟨X, 4, none⟩ (.slice (some ⟨g, 0, none⟩) (ks.length + 1) cap)).heap.size = w6.heap.size := by simp [World.setCell]
   rw [this]
   omega
 · rw [_root_.Go.heap_setCell_other _ _ _ _ (by show w.heap.size ≠ X; omega), hblk _ (by omega)]
   exact HI.box
 · rw [_root_.Go.heap_setCell_other _ _ _ _ (by show w.heap.size + 1 ≠ X; omega), hblk _ (by omega)]
   exact HI.res
 · rw [_root_.Go.heap_setCell_same _ _ _ _ _ _ hX6]
   rfl
 · have hrow5 : ∀ (i : Nat) (hi : i < ks.length), ∃ Ab cb Ak ck, (∀ j, j < 5 → cs[i * 5 + j]? = (el5 ks[i] Ab cb Ak ck)[j]?) ∧ ElIn w5 (RowCb w5 (X + 1) V) ks[i] Ab cb Ak ck := by
    intro i hi
    obtain ⟨a1, a2, a3, a4, a5, a6⟩ := hrow i hi
    exact ⟨a1, a2, a3, a4, a5, (a6.keep fun p hp => hb5.cell hp.2.1.lt).more fun b hb => ⟨hb.1, hb.2.1.below hb5 hb.2.1.lt, hb.2.2⟩⟩
   have hel : ElIn w5 (RowCb w5 (X + 1) V) r Ab2 cb2 A3 c3 := by
    refine hk.more fun b hb => ⟨by have := hb.1; omega, hb.2, fun e => ?_⟩
    have := (hV b e.symm).2
    have := hb.1
    omega
   have hsn := RowQ.snoc (T := 43) (w := w5) (w' := w6) (base := X + 1) (g := g) (cap := cap) (v := V) (l := ks) (e := r) (Ab := Ab2) (cb := cb2) (Ak := A3) (ck := c3) (cs := cs)
    hown hcs hrow5 hel hg hat
   exact hsn.set _ _ (by show X < X + 1; omega)
theorem plainC (c n : Int) (l : List UInt8) (w : World) :
 Calls Tryz.prog 70 #[.agg #[.int .i64 c, .bool false, .int .i64 n], .string (baO l)] w fun en w' => ∃ A cap, en = .returned (.agg #[.int .i64 c, .bool false, .int .i64 n, .slice A l.length cap, .slice none 0 0]) ∧ ElIn w' (NewB w.heap.size w') (octE c n l) A cap none 0 ∧ Below w.heap.size w w' :=
 (plain_any c n l w).mono fun _ _ ⟨A, cap, h1, h2, h3⟩ => ⟨A, cap, by
   rw [h1]
   show Ending.returned (Value.agg #[_, _, _, .slice _ (nb l).length _, _]) = _
   rw [nb_len]
   rfl, h2, h3⟩
theorem oct5 (c n : Int) (l : List UInt8) (A : Option Addr) (cap : Nat) : ([.int .i64 c, .bool false, .int .i64 n, .slice A l.length cap, .slice none 0 0] : List Value) = el5 (octE c n l) A cap none 0 := by
 show _ = [_, _, _, Value.slice _ (nb l).length _, _]
 rw [nb_len]
 rfl
theorem mk_start {fv : Array Value} {w W0 w1 : World} (h0 : W0 = (w.alloc (.cells fv 25)).alloc (.cells #[.int .i64 0, .bool false, .int .i64 0, .slice none 0 0, .slice none 0 0] 43)) (hb : Below W0.heap.size W0 w1) (c n : Int) (m : Bool) :
 MkI fv w1.heap.size c n m w (w1.alloc (.cells #[.int .i64 c, .bool m, .int .i64 n, .slice none 0 0, .slice none 0 0] 43)) [] (.slice none 0 0) := by
 have hz1 : (w.alloc (.cells fv 25)).heap.size = w.heap.size + 1 := by simp
 have hz0 : W0.heap.size = w.heap.size + 2 := by rw [h0]; simp
 have hB0 : Below w.heap.size w W0 := by rw [h0]; exact ((Below.refl _ _).alloc (Nat.le_refl _) _).alloc (by simp) _
 have hF0 : W0.heap[w.heap.size]? = some (.cells fv 25 (0, 0)) := by rw [h0, Below.heap_alloc _ _ _ (by simp)]; exact heap_alloc_new w _
 have hR0 : W0.heap[w.heap.size + 1]? = some (.cells #[.int .i64 0, .bool false, .int .i64 0, .slice none 0 0, .slice none 0 0] 43 (0, 0)) := by
  rw [h0, ← hz1]
  exact heap_alloc_new _ _
 have hs := hb.size
 have hlow : ∀ (k : Nat) (o : Obj), k < W0.heap.size → (w1.alloc o).heap[k]? = W0.heap[k]? := fun k o hk => by
  rw [Below.heap_alloc _ _ _ (by omega), hb.block k hk]
 exact ⟨(hB0.trans (hb.mono (by omega))).trans ((Below.refl _ _).alloc (by omega) _), by omega, by simp, (hlow _ _ (by omega)).trans hF0, (hlow _ _ (by omega)).trans hR0, heap_alloc_new _ _, RowQ.nil _ _ _⟩
theorem mk_add {fv : Array Value} {X N : Nat} {r : El} {c n : Int} {m : Bool} {w wr w3 w6 : World} {ks : List El} {A : Option Addr} {cc : Nat} {Ab2 : Option Addr} {cb2 : Nat} {A3 : Option Addr} {c3 g cap : Nat} {cs r5 : List Value} {o : Obj}
 (HI : MkI fv X c n m w wr ks (.slice A N cc)) (hN : ks.length = N) (hb3 : Below wr.heap.size wr w3)
 (hk : ElIn w3 (NewB wr.heap.size w3) r Ab2 cb2 A3 c3) (h5 : r5 = el5 r Ab2 cb2 A3 c3) (hcs : cs.length = ks.length * 5) (hV : ∀ b, (Value.slice A N cc).ownBlock = some b → X + 1 ≤ b ∧ b < wr.heap.size)
 (hrow : ∀ (i : Nat) (hi : i < ks.length), ∃ Ab cb Ak ck, (∀ j, j < 5 → cs[i * 5 + j]? = (el5 ks[i] Ab cb Ak ck)[j]?) ∧ ElIn wr (RowCb wr (X + 1) (.slice A N cc)) ks[i] Ab cb Ak ck)
 (hown : w6.ownsRow (X + 1) 43 5 (.slice (some ⟨g, 0, none⟩) (N + 1) cap) (N + 1) (cs ++ r5))
 (hg : (w3.alloc o).grownBy w6 (Value.slice A N cc).ownBlock) (hat : (Value.slice A N cc).ownBlock = some g ∨ g = (w3.alloc o).heap.size) :
 MkI fv X c n m w (w6.setCell ⟨X, 4, none⟩ (.slice (some ⟨g, 0, none⟩) (N + 1) cap)) (ks ++ [r]) (.slice (some ⟨g, 0, none⟩) (N + 1) cap) ∧
  w6.cell? ⟨X, 4, none⟩ = some (.slice A N cc) ∧ w6.frozen? ⟨X, 4, none⟩ = false ∧ ∀ j v, fv[j]? = some v → w6.cell? ⟨w.heap.size, j, none⟩ = some v := by
 subst hN
 exact mk_step HI (hb3.alloc hb3.size _) ((hk.keep fun p hp => World.cell?_alloc_lt _ _ _ hp.2.lt).more fun x hx => ⟨hx.1, hx.2.alloc _⟩) h5 hcs hV hrow hown hg hat
theorem MkI.cells {fv : Array Value} {X : Nat} {c n : Int} {m : Bool} {w wr w3 : World} {ks : List El} {V : Value} (h : MkI fv X c n m w wr ks V) (hb : Below wr.heap.size wr w3) : w3.cell? ⟨X, 4, none⟩ = some V ∧ ∀ j v, fv[j]? = some v → w3.cell? ⟨w.heap.size, j, none⟩ = some v := by
 have h2 := h.go hb
 exact ⟨cell_of_row _ _ 4 _ _ _ h2.out, fun j v hv => (cell_of_row _ _ j _ _ _ h2.box).trans hv⟩
theorem cell_beside14 {w : World} {b c : Nat} {j k : Nat} {v u : Value} (h : w.cell? ⟨c, k, none⟩ = some v) (hn : b ≠ c) : (w.setCell ⟨b, j, none⟩ u).cell? ⟨c, k, none⟩ = some v :=
 (World.cell?_of_block (heap_setCell_other _ _ _ _ (fun e => hn e.symm))).trans h
theorem mk_end {fv : Array Value} {X N c9 cc : Nat} {w wr W5 : World} {ks ps : List El} {A A9 : Option Addr} (_h : MkI fv X 0 16 true w wr ks (.slice A N cc)) (hps : ps = ks) (hsl : SlI wr (NewB (X + 1) wr) A9 c9 (Fo.of ks)) (hv : Value.slice A N cc = .slice A9 ks.length c9)
 (hb : Below w.heap.size w W5) (HN : ∀ (e : El) (A : Option Addr) (c : Nat) (B : Option Addr) (d : Nat), ElIn wr (NewB (X + 1) wr) e A c B d → w.heap.size + 1 < X + 1 → w.heap.size ≤ X + 1 → ElIn W5 (NewB w.heap.size W5) e A c B d) :
 ∃ A' c', Ending.returned (.agg #[.int .i64 0, .bool true, .int .i64 16, .slice none 0 0, .slice A N cc]) = Ending.returned (.agg #[.int .i64 0, .bool true, .int .i64 16, .slice none 0 0, .slice A' ps.length c']) ∧ ElIn W5 (NewB w.heap.size W5) ⟨0, true, 16, [], Fo.of ps⟩ none 0 A' c' ∧ Below w.heap.size w W5 := by
 subst hps
 injection hv with h1 h2 h3
 subst h1 h2 h3
 have h2 := _h.two
 exact ⟨A, cc, rfl, HN _ none 0 A cc ⟨⟨Nat.le_refl _, fun _ => rfl, fun _ e => by cases e⟩, hsl⟩ (by omega) (by omega), hb⟩
theorem isEmpty14 {l : List UInt8} (h : l ≠ []) : (baO l).toList.isEmpty = false := by
 rw [Lib.toList_data]
 cases l with
 | nil => exact absurd rfl h
 | cons _ _ => rfl
set_option maxRecDepth 8000 in
set_option maxHeartbeats 6400000 in
theorem parts_any (f : Ft) (Ak : Option Addr) (ck : Nat) (Ab : Option Addr) (cb : Nat) (w : World) (hin : FtIn w (· < w.heap.size) f Ak ck Ab cb) (hB3 : f.b.length < 3000) :
 Calls Tryz.prog 71 #[ftV f Ak ck Ab cb] w fun en w' => ∃ A cap, en = .returned (.agg #[.int .i64 0, .bool true, .int .i64 16, .slice none 0 0, .slice A f.parts.length cap]) ∧ ElIn w' (NewB w.heap.size w') ⟨0, true, 16, [], Fo.of f.parts⟩ none 0 A cap ∧ Below w.heap.size w w' := by
 obtain ⟨i0, hi, q1, q2, q3⟩ := info_parts info_ber
 obtain ⟨W0, hW0⟩ : ∃ W0, W0 = (w.alloc (.cells #[.int .i64 f.k, .slice Ak f.kids.length ck, .string (baO f.t), .string (baO f.v), .string (baO f.a), .string (baO f.z), .slice Ab f.b.length cb] 25)).alloc (.cells #[.int .i64 0, .bool false, .int .i64 0, .slice none 0 0, .slice none 0 0] 43) := ⟨_, rfl⟩
 have CU := Hd ((universal14_any 16 W0).mono fun en w' ⟨h1, h2⟩ => (show en = Ending.returned (.agg #[.int .i64 0, .bool true, .int .i64 16]) ∧ Below W0.heap.size W0 w' from ⟨h1, h2⟩))
 have ST := Hd fun w1 (hb : Below W0.heap.size W0 w1) => mk_start hW0 hb 0 16 true
 obtain ⟨B, hB⟩ : ∃ B, f.b.length = B := ⟨_, rfl⟩
 have hpart : 0 < B → ∃ ad, Ab = some ad ∧ ad.block < w.heap.size ∧ ∀ (i : Nat) (hi : i < f.b.length), w.cell? (ad.add i) = some (.string (baO f.b[i])) := fun h => hin.part (by rw [hB]; exact h)
 replace hpart := Hd hpart
 replace hin := Hd hin
 replace hi := Hd hi
 rw [hB] at ST hB3 hW0
 unfold ftV
 rw [hB]
 replace hB := Hd hB
 go_enter Tryz.func71, Tryz.ntmps71
 go_wp2_with fail
 rw [← hW0]
 replace hW0 := Hd hW0
 try go_wp2_with fail
 refine CU.out.mono ?_
 rintro _ w1 ⟨rfl, hb1⟩
 have H1 := ST.out w1 hb1
 obtain ⟨W1, hW1⟩ : ∃ W, W = w1.alloc (.cells #[.int .i64 0, .bool true, .int .i64 16, .slice none 0 0, .slice none 0 0] 43) := ⟨_, rfl⟩
 rw [← hW1] at H1
 obtain ⟨X, hX⟩ : ∃ X, X = w1.heap.size := ⟨_, rfl⟩
 rw [← hX] at H1
 have hbox := fun o j v (hv : (#[.int .i64 f.k, .slice Ak f.kids.length ck, .string (baO f.t), .string (baO f.v), .string (baO f.a), .string (baO f.z), .slice Ab B cb] : Array Value)[j]? = some v) (h : MkI #[.int .i64 f.k, .slice Ak f.kids.length ck, .string (baO f.t), .string (baO f.v), .string (baO f.a), .string (baO f.z), .slice Ab B cb] X 0 16 true w (w1.alloc o) [] (.slice none 0 0)) => (cell_of_row _ _ j _ _ _ h.box).trans hv
 have x4 := hbox _ 4 _ rfl (by rw [hW1] at H1; exact H1)
 have x6 := hbox _ 6 _ rfl (by rw [hW1] at H1; exact H1)
 clear hbox
 replace hb1 := Hd hb1
 replace H1 := Hd H1
 replace hX := Hd hX
 dsimp only []
 go_upto_if 10 with fail
 rw [← hW1] at x4 x6 ⊢
 replace hW1 := Hd hW1
 rw [← hX.out]
 go_cut [10] from 10 to 19 (fun _ wx => ∃ (ks0 : List El) (A0 : Option Addr) (N0 c0 : Nat), Hid (ks0 = if f.a = [] then [] else [octE 2 0 f.a]) ∧ N0 ≤ 1 ∧ Hid (ks0.length = N0) ∧ Hid (MkI #[.int .i64 f.k, .slice Ak f.kids.length ck, .string (baO f.t), .string (baO f.v), .string (baO f.a), .string (baO f.z), .slice Ab B cb] X 0 16 true w wx ks0 (.slice A0 N0 c0)))
 case first =>
  by_cases hfa : f.a = []
  · have ha : (baO f.a).toList.isEmpty = true := by rw [hfa, Lib.toList_data]; rfl
    replace hfa := Hd hfa
    rw [ha, Bool.not_true]
    go_wp2_with fail
    go_meet
    exact ⟨[], none, 0, 0, Hd (by rw [if_pos hfa.out]), Nat.zero_le _, Hd rfl, H1⟩
  · have ha : (baO f.a).toList.isEmpty = false := isEmpty14 hfa
    replace hfa := Hd hfa
    rw [ha, Bool.not_false]
    go_wp2_with fail
    have hN : Hid (([] : List El).length = 0) := Hd rfl
    obtain ⟨cs, hrow1, hrow2, hrow3, hrow4⟩ := H1.out.row.parts
    rw [hN.out] at hrow1
    have hXs := H1.out.size
    have CP := Hd fun W => part14_any 0 W
    have CL := Hd fun W => plainC 2 0 (f.a) W
    have T := Hd fun W (hb : Below W1.heap.size W1 W) => H1.out.cells hb
    have r0 := (T.out W1 (Below.refl _ _)).1
    have b0 := (T.out W1 (Below.refl _ _)).2 4 _ rfl
    replace hrow1 := Hd hrow1
    replace hrow2 := Hd hrow2
    replace hrow3 := Hd hrow3
    replace hrow4 := Hd hrow4
    refine wp_viaQ (Q' := fun e a W => match e with | .normal => ∃ t11 t12 t13 t14 t15 t16 t17 t18 t19, ∃ (g cap : Nat), a = { tmps := (.agg #[.int .i64 f.k, .slice Ak f.kids.length ck, .string (baO f.t), .string (baO f.v), .string (baO f.a), .string (baO f.z), .slice Ab B cb] :: .pointer (some ⟨w.heap.size, 0, none⟩) :: .pointer (some ⟨w.heap.size + 1, 0, none⟩) :: .pointer (some ⟨X, 0, none⟩) :: undef :: undef :: .agg #[.int .i64 0, .bool true, .int .i64 16] :: .agg #[.int .i64 0, .bool true, .int .i64 16, .slice none 0 0, .slice none 0 0] :: .pointer (some ⟨w.heap.size, 4, none⟩) :: .string (baO f.a) :: .bool true :: t11 :: t12 :: t13 :: t14 :: t15 :: t16 :: t17 :: t18 :: t19 :: undef :: undef :: undef :: undef :: undef :: undef :: undef :: undef :: undef :: undef :: undef :: undef :: undef :: undef :: undef :: undef :: undef :: undef :: undef :: undef :: undef :: undef :: undef :: undef :: undef :: undef :: undef :: undef :: undef :: []).toArray, defers := [] } ∧ Hid (MkI #[.int .i64 f.k, .slice Ak f.kids.length ck, .string (baO f.t), .string (baO f.v), .string (baO f.a), .string (baO f.z), .slice Ab B cb] X 0 16 true w W ([] ++ [octE 2 0 (f.a)]) (.slice (some ⟨g, 0, none⟩) (0 + 1) cap)) | _ => False) ?_ ?_
    · go_region_law
       (first
         | (go_simp; go_at_call 116; (with_reducible refine (CP.out _).mono ?_); rintro _ w2 ⟨rfl, hb2⟩; have HB2 := Hd (show Below W1.heap.size W1 w2 by first | exact (Below.refl W1.heap.size W1).trans ⟨hb2.os, hb2.tape, hb2.output, hb2.size, hb2.block⟩); have r2 := (T.out w2 HB2.out).1; have b2 := (T.out w2 HB2.out).2 4 _ rfl; clear hb2)
         | (go_simp; go_at_call 70; (with_reducible refine (CL.out _).mono ?_); rintro _ w3 ⟨A3, cap3, rfl, hin3, hb3⟩; have HB3 := Hd (show Below W1.heap.size W1 w3 from HB2.out.trans (Below.mono (show Below w2.heap.size w2 w3 from ⟨hb3.os, hb3.tape, hb3.output, hb3.size, hb3.block⟩) HB2.out.size)); have HN3 := Hd (show ElIn w3 (NewB W1.heap.size w3) (octE 2 0 (f.a)) A3 cap3 none 0 from ElIn.more hin3 fun _ hb => ⟨Nat.le_trans HB2.out.size hb.1, hb.2⟩); have r3 := (T.out w3 HB3.out).1; have rA : ∀ ob : Obj, (w3.alloc ob).cell? ⟨X, 4, none⟩ = some (.slice none 0 0) := fun ob => (T.out _ (HB3.out.alloc HB3.out.size ob)).1; have hz3 := HB3.out.size; have b3 := (T.out w3 HB3.out).2 4 _ rfl; clear hb3 hin3)
         | (refine step_append_lies _ rfl (.tmp 12) (.tmp 17) 41 rfl (X + 1) 43 i0 _ 5 72 Tryz.underlying41 hi.out q1 q2 q3 rfl (by decide) (.slice none 0 0) 0 cs rfl (World.ownsRow.alloc (owns_below hrow1.out HB3.out) _) ⟨w3.heap.size, 0, none⟩ 1 1 [.int .i64 2, .bool false, .int .i64 0, .slice A3 (f.a).length cap3, .slice none 0 0] rfl rfl (World.news_of_block (cs := #[.int .i64 2, .bool false, .int .i64 0, .slice A3 (f.a).length cap3, .slice none 0 0]) (fr := (0, 0)) (heap_alloc_new w3 _)) (by rw [oct5]; exact el5_one _ _ _ _ _) (by decide) (by simp only [maxLen]; omega) (by omega) (by simp; omega) _ rfl ?_; intro g cap w6 hown hg hat hgl; obtain ⟨HS, c6, f6, b6⟩ := mk_add H1.out hN.out HB3.out HN3.out (oct5 _ _ _ _ _) hrow2.out hrow3.out hrow4.out hown hg hat; replace HS := Hd HS; have bx6 := b6 4 _ rfl; clear hown hg hat b6))
      all_goals (first | exact ⟨_, _, _, _, _, _, _, _, _, g, cap, rfl, HS⟩ | (go_wp2_with fail; exact ⟨_, _, _, _, _, _, _, _, _, g, cap, rfl, HS⟩))
    rintro e a W h
    cases e
    all_goals first | exact h.elim | skip
    obtain ⟨t11, t12, t13, t14, t15, t16, t17, t18, t19, g, cap, rfl, HS⟩ := h
    go_wp2_with fail
    go_meet
    exact ⟨_, some ⟨g, 0, none⟩, 1, cap, Hd (by rw [if_neg hfa.out]; rfl), Nat.le_refl _, Hd rfl, HS⟩
 case rest =>
  obtain ⟨ks0, A0, N0, c0, hk0, hN1, hN0, HI0⟩ := hcut
  clear x4 x6
  have x6 := (HI0.out.cells (Below.refl _ _)).2 6 _ rfl
  go_wp2_with fail
  clear x6
  go_loopw [23] (fun jv wr => ∃ (j : Nat) (A : Option Addr) (cc : Nat), j ≤ B ∧ jv = .int .i64 (j : Int) ∧ Hid (MkI #[.int .i64 f.k, .slice Ak f.kids.length ck, .string (baO f.t), .string (baO f.v), .string (baO f.a), .string (baO f.z), .slice Ab B cb] X 0 16 true w wr (ks0 ++ (f.b.take j).map (octE 2 1)) (.slice A (N0 + j) cc))) (fun jv _ => B - (RowKit.intOf jv).toNat)
  case atStart => exact ⟨0, A0, c0, Nat.zero_le _, rfl, Hd (by simpa using HI0.out)⟩
  case round =>
   obtain ⟨j, A, cc, hj, rfl, HI⟩ := hrel
   by_cases hjt : j < B
   · obtain ⟨ad, rfl, had, hp⟩ := hpart.out (by omega)
     have hjl : j < f.b.length := by rw [hB.out]; exact hjt
     have hc := hp j hjl
     obtain ⟨x, hx⟩ : ∃ x, f.b[j] = x := ⟨_, rfl⟩
     have htk : f.b.take (j + 1) = f.b.take j ++ [f.b[j]] := by rw [List.take_succ_eq_append_getElem hjl]
     rw [hx] at hc htk
     have yc := (HI.out.below.cell (p := ad.add j) (by rw [add_block]; exact had)).trans hc
     have j0 : (0 : Int) ≤ (j : Int) := by omega
     have j1 : (j : Int) < (B : Int) := by omega
     have hNj0 : (ks0 ++ (f.b.take j).map (octE 2 1)).length = N0 + j := by rw [List.length_append, List.length_map, List.length_take, hN0.out]; omega
     obtain ⟨kj, hkj⟩ : ∃ k, k = ks0 ++ (f.b.take j).map (octE 2 1) := ⟨_, rfl⟩
     obtain ⟨Nj, hNjE⟩ : ∃ n, n = N0 + j := ⟨_, rfl⟩
     rw [← hkj, ← hNjE] at hNj0
     rw [← hkj, ← hNjE] at HI
     have hNj := Hd hNj0
     have hNjb : Nj ≤ 4000 := by omega
     clear hNj0
     replace hNjE := Hd hNjE
     replace hkj := Hd hkj
     replace hx := Hd hx
     replace htk := Hd htk
     replace hp := Hd hp
     clear hc
     go_wp2_with fail
     obtain ⟨cs, hrow1, hrow2, hrow3, hrow4⟩ := HI.out.row.parts
     rw [hNj.out] at hrow1
     have hXs := HI.out.size
     have CP := Hd fun W => part14_any 1 W
     have CL := Hd fun W => plainC 2 1 (x) W
     have T := Hd fun W (hb : Below wr.heap.size wr W) => HI.out.cells hb
     have r0 := (T.out wr (Below.refl _ _)).1
     replace hrow1 := Hd hrow1
     replace hrow2 := Hd hrow2
     replace hrow3 := Hd hrow3
     replace hrow4 := Hd hrow4
     refine wp_viaQ (Q' := fun e a W => match e with | .normal => ∃ t5 t24 t25 t26 t27 t28 t29 t30 t31 t32 t33 t34 t35, ∃ (g cap : Nat), a = { tmps := (.agg #[.int .i64 f.k, .slice Ak f.kids.length ck, .string (baO f.t), .string (baO f.v), .string (baO f.a), .string (baO f.z), .slice (some ad) B cb] :: .pointer (some ⟨w.heap.size, 0, none⟩) :: .pointer (some ⟨w.heap.size + 1, 0, none⟩) :: .pointer (some ⟨X, 0, none⟩) :: undef :: t5 :: .agg #[.int .i64 0, .bool true, .int .i64 16] :: .agg #[.int .i64 0, .bool true, .int .i64 16, .slice none 0 0, .slice none 0 0] :: .pointer (some ⟨w.heap.size, 4, none⟩) :: .string (baO f.a) :: u10 :: u11 :: u12 :: u13 :: u14 :: u15 :: u16 :: u17 :: u18 :: u19 :: .pointer (some ⟨w.heap.size, 6, none⟩) :: .slice (some ad) B cb :: .int .i64 (B : Int) :: .int .i64 (j : Int) :: t24 :: t25 :: t26 :: t27 :: t28 :: t29 :: t30 :: t31 :: t32 :: t33 :: t34 :: t35 :: undef :: undef :: undef :: undef :: undef :: undef :: undef :: undef :: undef :: undef :: undef :: undef :: undef :: []).toArray, defers := [] } ∧ Hid (MkI #[.int .i64 f.k, .slice Ak f.kids.length ck, .string (baO f.t), .string (baO f.v), .string (baO f.a), .string (baO f.z), .slice (some ad) B cb] X 0 16 true w W (kj ++ [octE 2 1 (x)]) (.slice (some ⟨g, 0, none⟩) (Nj + 1) cap)) | _ => False) ?_ ?_
     · go_region_law
        (first
          | (go_simp; go_at_call 116; (with_reducible refine (CP.out _).mono ?_); rintro _ w2 ⟨rfl, hb2⟩; have HB2 := Hd (show Below wr.heap.size wr w2 by first | exact (Below.refl wr.heap.size wr).trans ⟨hb2.os, hb2.tape, hb2.output, hb2.size, hb2.block⟩); have r2 := (T.out w2 HB2.out).1; clear hb2)
          | (go_simp; go_at_call 70; (with_reducible refine (CL.out _).mono ?_); rintro _ w3 ⟨A3, cap3, rfl, hin3, hb3⟩; have HB3 := Hd (show Below wr.heap.size wr w3 from HB2.out.trans (Below.mono (show Below w2.heap.size w2 w3 from ⟨hb3.os, hb3.tape, hb3.output, hb3.size, hb3.block⟩) HB2.out.size)); have HN3 := Hd (show ElIn w3 (NewB wr.heap.size w3) (octE 2 1 (x)) A3 cap3 none 0 from ElIn.more hin3 fun _ hb => ⟨Nat.le_trans HB2.out.size hb.1, hb.2⟩); have r3 := (T.out w3 HB3.out).1; have rA : ∀ ob : Obj, (w3.alloc ob).cell? ⟨X, 4, none⟩ = some (.slice A Nj cc) := fun ob => (T.out _ (HB3.out.alloc HB3.out.size ob)).1; have hz3 := HB3.out.size; clear hb3 hin3)
          | (refine step_append_lies _ rfl (.tmp 28) (.tmp 32) 41 rfl (X + 1) 43 i0 _ 5 72 Tryz.underlying41 hi.out q1 q2 q3 rfl (by decide) (.slice A Nj cc) Nj cs rfl (World.ownsRow.alloc (owns_below hrow1.out HB3.out) _) ⟨w3.heap.size, 0, none⟩ 1 1 [.int .i64 2, .bool false, .int .i64 1, .slice A3 (x).length cap3, .slice none 0 0] rfl rfl (World.news_of_block (cs := #[.int .i64 2, .bool false, .int .i64 1, .slice A3 (x).length cap3, .slice none 0 0]) (fr := (0, 0)) (heap_alloc_new w3 _)) (by rw [oct5]; exact el5_one _ _ _ _ _) (by decide) (by simp only [maxLen]; omega) (by omega) (by simp; omega) _ rfl ?_; intro g cap w6 hown hg hat hgl; obtain ⟨HS, c6, f6, b6⟩ := mk_add HI.out hNj.out HB3.out HN3.out (oct5 _ _ _ _ _) hrow2.out hrow3.out hrow4.out hown hg hat; replace HS := Hd HS; clear hown hg hat b6))
       all_goals (first | exact ⟨_, _, _, _, _, _, _, _, _, _, _, _, _, g, cap, rfl, HS⟩ | (go_wp2_with fail; exact ⟨_, _, _, _, _, _, _, _, _, _, _, _, _, g, cap, rfl, HS⟩))
     rintro e a W h
     cases e
     all_goals first | exact h.elim | skip
     obtain ⟨t5, t24, t25, t26, t27, t28, t29, t30, t31, t32, t33, t34, t35, g, cap, rfl, HS⟩ := h
     · have HS' : Hid (MkI #[.int .i64 f.k, .slice Ak f.kids.length ck, .string (baO f.t), .string (baO f.v), .string (baO f.a), .string (baO f.z), .slice (some ad) B cb] X 0 16 true w W (ks0 ++ (f.b.take (j + 1)).map (octE 2 1)) (.slice (some ⟨g, 0, none⟩) (N0 + (j + 1)) cap)) := Hd (by
        have := HS.out
        rw [hkj.out, List.append_assoc] at this
        rw [htk.out, List.map_append, ← Nat.add_assoc, ← hNjE.out]
        exact this)
       go_wp2_with fail
       go_roundw
       case rel => exact ⟨j + 1, some ⟨g, 0, none⟩, cap, by omega, by go_num, HS'⟩
       case measure => simp [RowKit.intOf]; omega
   · have hjB : j = B := by omega
     have j1 : ¬ ((j : Int) < (B : Int)) := by omega
     rw [List.take_of_length_le (by rw [hB.out, hjB]; exact Nat.le_refl _)] at HI
     obtain ⟨kj, hkj⟩ : ∃ k, k = ks0 ++ f.b.map (octE 2 1) := ⟨_, rfl⟩
     obtain ⟨Nj, hNjE⟩ : ∃ n, n = N0 + j := ⟨_, rfl⟩
     have hNj : Hid (kj.length = Nj) := Hd (by rw [hkj, hNjE, List.length_append, List.length_map, hN0.out, hB.out, hjB])
     have hpz : Hid (f.parts = kj ++ (if f.z = [] then [] else [octE 2 2 f.z])) := Hd (by rw [hkj, hk0.out]; unfold Ft.parts; rw [List.append_assoc])
     rw [← hkj, ← hNjE] at HI
     have hNjb : Nj ≤ 4000 := by omega
     replace hNjE := Hd hNjE
     replace hkj := Hd hkj
     replace hjB := Hd hjB
     have y5 := (HI.out.cells (Below.refl _ _)).2 5 _ rfl
     by_cases hfz : f.z = []
     · have hz : (baO f.z).toList.isEmpty = true := by rw [hfz, Lib.toList_data]; rfl
       rw [if_pos hfz, List.append_nil] at hpz
       replace hfz := Hd hfz
       have hO := HI.out.out
       have hR := HI.out.res
       obtain ⟨o0, o1, o2, o3, o4⟩ := cells5e hO
       obtain ⟨e0, e1, e2, e3, e4⟩ := cells5e hR
       have hf1 := free7 hR
       have hbl := HI.out.below
       obtain ⟨A9, c9, hv9, hsl9⟩ := HI.out.row.sl
       replace hO := Hd hO
       replace hR := Hd hR
       replace hbl := Hd hbl
       replace hsl9 := Hd hsl9
       replace hv9 := Hd hv9
       go_wp2_with fail
       have HC := Hd (set5_same (hR.out) (.int .i64 0) (.bool true) (.int .i64 16) (.slice none 0 0) (.slice A (Nj) cc))
       have HL := Hd (set5_below (hbl.out) (by omega : _ ≤ w.heap.size + 1) (.int .i64 0) (.bool true) (.int .i64 16) (.slice none 0 0) (.slice A (Nj) cc))
       have HN := Hd (fun lo lo0 ee qa qc qb qd (hin : ElIn wr (NewB lo wr) ee qa qc qb qd) (hX : w.heap.size + 1 < lo) (h0 : lo0 ≤ lo) => hin.set5 (.int .i64 0) (.bool true) (.int .i64 16) (.slice none 0 0) (.slice A (Nj) cc) hX h0)
       have HX : set5 wr (w.heap.size + 1) (.int .i64 0) (.bool true) (.int .i64 16) (.slice none 0 0) (.slice A (Nj) cc) = (((((wr.setCell ⟨w.heap.size + 1, 0, none⟩ (.int .i64 0)).setCell ⟨w.heap.size + 1, 1, none⟩ (.bool true)).setCell ⟨w.heap.size + 1, 2, none⟩ (.int .i64 16)).setCell ⟨w.heap.size + 1, 3, none⟩ (.slice none 0 0)).setCell ⟨w.heap.size + 1, 4, none⟩ (.slice A (Nj) cc)) := rfl
       rw [← HX]
       obtain ⟨W5, hW5⟩ : ∃ W5, W5 = set5 wr (w.heap.size + 1) (.int .i64 0) (.bool true) (.int .i64 16) (.slice none 0 0) (.slice A (Nj) cc) := ⟨_, rfl⟩
       rw [← hW5] at HC HL HN ⊢
       clear HX hW5 e0 e1 e2 e3 e4 hf1 o0 o1 o2 o3 o4
       obtain ⟨v0, v1, v2, v3, v4⟩ := cells5e HC.out
       exact bodyPost_ret (v := .agg #[.int .i64 0, .bool true, .int .i64 16, .slice none 0 0, .slice A (Nj) cc]) (by simp [results, Tryz.results71, go_sem, v0, v1, v2, v3, v4]) rfl (mk_end HI.out (hpz.out) hsl9.out hv9.out HL.out (fun e A c B d h1 h2 h3 => HN.out _ _ e A c B d h1 h2 h3))
     · have hz : (baO f.z).toList.isEmpty = false := isEmpty14 hfz
       rw [if_neg hfz] at hpz
       replace hfz := Hd hfz
       go_wp2_with fail
       clear y5
       obtain ⟨cs, hrow1, hrow2, hrow3, hrow4⟩ := HI.out.row.parts
       rw [hNj.out] at hrow1
       have hXs := HI.out.size
       have CP := Hd fun W => part14_any 2 W
       have CL := Hd fun W => plainC 2 2 (f.z) W
       have T := Hd fun W (hb : Below wr.heap.size wr W) => HI.out.cells hb
       have r0 := (T.out wr (Below.refl _ _)).1
       have b0 := (T.out wr (Below.refl _ _)).2 5 _ rfl
       replace hrow1 := Hd hrow1
       replace hrow2 := Hd hrow2
       replace hrow3 := Hd hrow3
       replace hrow4 := Hd hrow4
       refine wp_viaQ (Q' := fun e a W => match e with | .normal => ∃ t5 t24 t25 t26 t27 t28 t29 t30 t31 t32 t33 t34 t35 t36 t37 t38 t39 t40 t41 t42 t43 t44 t45 t46 t47 t48, ∃ (g cap : Nat), a = { tmps := (.agg #[.int .i64 f.k, .slice Ak f.kids.length ck, .string (baO f.t), .string (baO f.v), .string (baO f.a), .string (baO f.z), .slice Ab B cb] :: .pointer (some ⟨w.heap.size, 0, none⟩) :: .pointer (some ⟨w.heap.size + 1, 0, none⟩) :: .pointer (some ⟨X, 0, none⟩) :: undef :: t5 :: .agg #[.int .i64 0, .bool true, .int .i64 16] :: .agg #[.int .i64 0, .bool true, .int .i64 16, .slice none 0 0, .slice none 0 0] :: .pointer (some ⟨w.heap.size, 4, none⟩) :: .string (baO f.a) :: u10 :: u11 :: u12 :: u13 :: u14 :: u15 :: u16 :: u17 :: u18 :: u19 :: .pointer (some ⟨w.heap.size, 6, none⟩) :: .slice Ab B cb :: .int .i64 (B : Int) :: .int .i64 (j : Int) :: t24 :: t25 :: t26 :: t27 :: t28 :: t29 :: t30 :: t31 :: t32 :: t33 :: t34 :: t35 :: t36 :: t37 :: t38 :: t39 :: t40 :: t41 :: t42 :: t43 :: t44 :: t45 :: t46 :: t47 :: t48 :: []).toArray, defers := [] } ∧ Hid (MkI #[.int .i64 f.k, .slice Ak f.kids.length ck, .string (baO f.t), .string (baO f.v), .string (baO f.a), .string (baO f.z), .slice Ab B cb] X 0 16 true w W (kj ++ [octE 2 2 (f.z)]) (.slice (some ⟨g, 0, none⟩) (Nj + 1) cap)) | _ => False) ?_ ?_
       · go_region_law
          (first
            | (go_simp; go_at_call 116; (with_reducible refine (CP.out _).mono ?_); rintro _ w2 ⟨rfl, hb2⟩; have HB2 := Hd (show Below wr.heap.size wr w2 by first | exact (Below.refl wr.heap.size wr).trans ⟨hb2.os, hb2.tape, hb2.output, hb2.size, hb2.block⟩); have r2 := (T.out w2 HB2.out).1; have b2 := (T.out w2 HB2.out).2 5 _ rfl; clear hb2)
            | (go_simp; go_at_call 70; (with_reducible refine (CL.out _).mono ?_); rintro _ w3 ⟨A3, cap3, rfl, hin3, hb3⟩; have HB3 := Hd (show Below wr.heap.size wr w3 from HB2.out.trans (Below.mono (show Below w2.heap.size w2 w3 from ⟨hb3.os, hb3.tape, hb3.output, hb3.size, hb3.block⟩) HB2.out.size)); have HN3 := Hd (show ElIn w3 (NewB wr.heap.size w3) (octE 2 2 (f.z)) A3 cap3 none 0 from ElIn.more hin3 fun _ hb => ⟨Nat.le_trans HB2.out.size hb.1, hb.2⟩); have r3 := (T.out w3 HB3.out).1; have rA : ∀ ob : Obj, (w3.alloc ob).cell? ⟨X, 4, none⟩ = some (.slice A Nj cc) := fun ob => (T.out _ (HB3.out.alloc HB3.out.size ob)).1; have hz3 := HB3.out.size; have b3 := (T.out w3 HB3.out).2 5 _ rfl; clear hb3 hin3)
            | (refine step_append_lies _ rfl (.tmp 40) (.tmp 45) 41 rfl (X + 1) 43 i0 _ 5 72 Tryz.underlying41 hi.out q1 q2 q3 rfl (by decide) (.slice A Nj cc) Nj cs rfl (World.ownsRow.alloc (owns_below hrow1.out HB3.out) _) ⟨w3.heap.size, 0, none⟩ 1 1 [.int .i64 2, .bool false, .int .i64 2, .slice A3 (f.z).length cap3, .slice none 0 0] rfl rfl (World.news_of_block (cs := #[.int .i64 2, .bool false, .int .i64 2, .slice A3 (f.z).length cap3, .slice none 0 0]) (fr := (0, 0)) (heap_alloc_new w3 _)) (by rw [oct5]; exact el5_one _ _ _ _ _) (by decide) (by simp only [maxLen]; omega) (by omega) (by simp; omega) _ rfl ?_; intro g cap w6 hown hg hat hgl; obtain ⟨HS, c6, f6, b6⟩ := mk_add HI.out hNj.out HB3.out HN3.out (oct5 _ _ _ _ _) hrow2.out hrow3.out hrow4.out hown hg hat; replace HS := Hd HS; have bx6 := b6 5 _ rfl; clear hown hg hat b6))
         all_goals (first | exact ⟨_, _, _, _, _, _, _, _, _, _, _, _, _, _, _, _, _, _, _, _, _, _, _, _, _, _, g, cap, rfl, HS⟩ | (go_wp2_with fail; exact ⟨_, _, _, _, _, _, _, _, _, _, _, _, _, _, _, _, _, _, _, _, _, _, _, _, _, _, g, cap, rfl, HS⟩))
       rintro e a W h
       cases e
       all_goals first | exact h.elim | skip
       obtain ⟨t5, t24, t25, t26, t27, t28, t29, t30, t31, t32, t33, t34, t35, t36, t37, t38, t39, t40, t41, t42, t43, t44, t45, t46, t47, t48, g, cap, rfl, HS⟩ := h
       have hO := HS.out.out
       have hR := HS.out.res
       obtain ⟨o0, o1, o2, o3, o4⟩ := cells5e hO
       obtain ⟨e0, e1, e2, e3, e4⟩ := cells5e hR
       have hf1 := free7 hR
       have hbl := HS.out.below
       obtain ⟨A9, c9, hv9, hsl9⟩ := HS.out.row.sl
       replace hO := Hd hO
       replace hR := Hd hR
       replace hbl := Hd hbl
       replace hsl9 := Hd hsl9
       replace hv9 := Hd hv9
       go_wp2_with fail
       have HC := Hd (set5_same (hR.out) (.int .i64 0) (.bool true) (.int .i64 16) (.slice none 0 0) (.slice (some ⟨g, 0, none⟩) (Nj + 1) cap))
       have HL := Hd (set5_below (hbl.out) (by omega : _ ≤ w.heap.size + 1) (.int .i64 0) (.bool true) (.int .i64 16) (.slice none 0 0) (.slice (some ⟨g, 0, none⟩) (Nj + 1) cap))
       have HN := Hd (fun lo lo0 ee qa qc qb qd (hin : ElIn W (NewB lo W) ee qa qc qb qd) (hX : w.heap.size + 1 < lo) (h0 : lo0 ≤ lo) => hin.set5 (.int .i64 0) (.bool true) (.int .i64 16) (.slice none 0 0) (.slice (some ⟨g, 0, none⟩) (Nj + 1) cap) hX h0)
       have HX : set5 W (w.heap.size + 1) (.int .i64 0) (.bool true) (.int .i64 16) (.slice none 0 0) (.slice (some ⟨g, 0, none⟩) (Nj + 1) cap) = (((((W.setCell ⟨w.heap.size + 1, 0, none⟩ (.int .i64 0)).setCell ⟨w.heap.size + 1, 1, none⟩ (.bool true)).setCell ⟨w.heap.size + 1, 2, none⟩ (.int .i64 16)).setCell ⟨w.heap.size + 1, 3, none⟩ (.slice none 0 0)).setCell ⟨w.heap.size + 1, 4, none⟩ (.slice (some ⟨g, 0, none⟩) (Nj + 1) cap)) := rfl
       rw [← HX]
       obtain ⟨W5, hW5⟩ : ∃ W5, W5 = set5 W (w.heap.size + 1) (.int .i64 0) (.bool true) (.int .i64 16) (.slice none 0 0) (.slice (some ⟨g, 0, none⟩) (Nj + 1) cap) := ⟨_, rfl⟩
       rw [← hW5] at HC HL HN ⊢
       clear HX hW5 e0 e1 e2 e3 e4 hf1 o0 o1 o2 o3 o4
       obtain ⟨v0, v1, v2, v3, v4⟩ := cells5e HC.out
       exact bodyPost_ret (v := .agg #[.int .i64 0, .bool true, .int .i64 16, .slice none 0 0, .slice (some ⟨g, 0, none⟩) (Nj + 1) cap]) (by simp [results, Tryz.results71, go_sem, v0, v1, v2, v3, v4]) rfl (mk_end HS.out (hpz.out) hsl9.out hv9.out HL.out (fun e A c B d h1 h2 h3 => HN.out _ _ e A c B d h1 h2 h3))
end Go.Proofs.YtcbiedonmibfaaaGreatDoor
