/-
  The elements that the filter package makes: rows of them, and plain.
-/
import Derived.Test.YtcbiedonmibfaaaGreatDoorF14A
import Derived.Test.YtcbiedonmibfaaaGreatDoorFE
import Derived.Lib.ConvBytes
namespace Go.Proofs.YtcbiedonmibfaaaGreatDoor
open Go.RowKit Go.Lib
def NewB (lo : Nat) (w : World) (b : Nat) : Prop := lo ≤ b ∧ Cb w b
theorem NewB.below {lo K : Nat} {w w' : World} {b : Nat} (h : NewB lo w b) (hb : Below K w w') (hK : w.heap.size ≤ K) : NewB lo w' b := ⟨h.1, h.2.below hb (Nat.lt_of_lt_of_le h.2.lt hK)⟩
def RowCb (w : World) (base : Nat) (v : Value) (b : Nat) : Prop := base ≤ b ∧ Cb w b ∧ some b ≠ v.ownBlock
def RowQ (T : TypeId) (w : World) (base : Nat) (v : Value) (l : List El) : Prop :=
 ∃ cs : List Value, w.ownsRow base T 5 v l.length cs ∧ ∀ (i : Nat) (hi : i < l.length), ∃ Ab cb Ak ck, (∀ j, j < 5 → cs[i * 5 + j]? = (el5 l[i] Ab cb Ak ck)[j]?) ∧ ElIn w (RowCb w base v) l[i] Ab cb Ak ck
theorem RowQ.nil (T : TypeId) (w : World) (base : Nat) : RowQ T w base (.slice none 0 0) [] :=
 ⟨[], World.ownsRow_nil _ _ _ _, fun i hi => absurd hi (by simp)⟩
theorem RowQ.below {T : TypeId} {w w' : World} {base : Nat} {v : Value} {l : List El} (h : RowQ T w base v l) (hb : Below w.heap.size w w') : RowQ T w' base v l := by
 obtain ⟨cs, h1, h2⟩ := h
 refine ⟨cs, owns_below h1 hb, fun i hi => ?_⟩
 obtain ⟨Ab, cb, Ak, ck, h3, h4⟩ := h2 i hi
 exact ⟨Ab, cb, Ak, ck, h3, (h4.keep fun _ hp => hb.cell hp.2.1.lt).more fun b hb2 => ⟨hb2.1, hb2.2.1.below hb hb2.2.1.lt, hb2.2.2⟩⟩
theorem RowQ.sl {T : TypeId} {w : World} {base : Nat} {v : Value} {l : List El} (h : RowQ T w base v l) : ∃ A c, v = .slice A l.length c ∧ SlI w (NewB base w) A c (Fo.of l) := by
 obtain ⟨cs, ⟨hl, h0 | ⟨g, cap, cur, hv, hbs, hg, hn, hm, hs, hx⟩⟩, h2⟩ := h
 · refine ⟨none, 0, by rw [h0.1, h0.2], ?_⟩
   have hl0 : l = [] := List.eq_nil_of_length_eq_zero h0.2
   subst hl0
   exact ⟨Nat.le_refl _, by omega, fun _ => rfl, fun _ e => by cases e⟩
 · have hgl : g < w.heap.size := (Array.getElem?_eq_some_iff.1 hg).1
   refine ⟨some ⟨g, 0, none⟩, cap, hv, ⟨by rw [Fo.list_of]; exact hn, by unfold maxLen at hm; exact hm, (by simp), fun ad e _ => ?_⟩⟩
   injection e with e
   subst e
   refine ⟨rfl, ⟨hbs, ⟨_, _, _, hg, .inl rfl⟩⟩, foAt_ofR l g 0 fun i hi => ?_⟩
   obtain ⟨Ab, cb, Ak, ck, h3, h4⟩ := h2 i hi
   have cell : ∀ j, j < 5 → w.cell? ⟨g, 0 + i * 5 + j, none⟩ = (el5 l[i] Ab cb Ak ck)[j]? := by
    intro j hj
    rw [cell_of_row w g (0 + i * 5 + j) cur _ _ hg, ← h3 j hj, ← hx, List.getElem?_take, if_pos (by omega)]
    simp
   refine ⟨Ab, cb, Ak, ck, ⟨cell 0 (by omega), cell 1 (by omega), cell 2 (by omega), cell 3 (by omega), cell 4 (by omega)⟩, h4.more fun b hb => ⟨hb.1, hb.2.1⟩⟩
theorem RowQ.snoc {T : TypeId} {w w' : World} {base g cap : Nat} {v : Value} {l : List El} {e : El} {Ab : Option Addr} {cb : Nat} {Ak : Option Addr} {ck : Nat} {cs : List Value}
 (ho : w'.ownsRow base T 5 (.slice (some ⟨g, 0, none⟩) (l.length + 1) cap) (l.length + 1) (cs ++ el5 e Ab cb Ak ck)) (hcs : cs.length = l.length * 5)
 (h2 : ∀ (i : Nat) (hi : i < l.length), ∃ Ab cb Ak ck, (∀ j, j < 5 → cs[i * 5 + j]? = (el5 l[i] Ab cb Ak ck)[j]?) ∧ ElIn w (RowCb w base v) l[i] Ab cb Ak ck)
 (he : ElIn w (RowCb w base v) e Ab cb Ak ck) (hg : w.grownBy w' v.ownBlock) (hat : v.ownBlock = some g ∨ g = w.heap.size) :
 RowQ T w' base (.slice (some ⟨g, 0, none⟩) (l.length + 1) cap) (l ++ [e]) := by
 have hI : ∀ b, RowCb w base v b → RowCb w' base (.slice (some ⟨g, 0, none⟩) (l.length + 1) cap) b := by
  intro b hb
  have hlt := hb.2.1.lt
  refine ⟨hb.1, hb.2.1.of (hg.block b hlt hb.2.2), ?_⟩
  intro e
  have e2 : b = g := by injection e
  rcases hat with hat | hat
  · exact hb.2.2 (by rw [hat, e2])
  · omega
 have hK : ∀ p : Addr, RowCb w base v p.block → w'.cell? p = w.cell? p := by
  intro p hp
  exact hg.cell_far p hp.2.1.lt hp.2.2
 refine ⟨cs ++ el5 e Ab cb Ak ck, by rw [List.length_append]; exact ho, fun i hi => ?_⟩
 by_cases hil : i < l.length
 · obtain ⟨Ab2, cb2, Ak2, ck2, h3, h4⟩ := h2 i hil
   refine ⟨Ab2, cb2, Ak2, ck2, fun j hj => ?_, ?_⟩
   · rw [List.getElem?_append_left (by rw [hcs]; omega), h3 j hj, List.getElem_append_left hil]
   · rw [List.getElem_append_left hil]
     exact (h4.keep hK).more hI
 · have hie : i = l.length := by simp at hi; omega
   subst hie
   refine ⟨Ab, cb, Ak, ck, fun j hj => ?_, ?_⟩
   · rw [List.getElem?_append_right (by rw [hcs]; omega), List.getElem_append_right (Nat.le_refl _)]
     simp only [Nat.sub_self, List.getElem_cons_zero]
     rw [hcs]
     congr 1
     omega
   · rw [List.getElem_append_right (Nat.le_refl _)]
     simp only [Nat.sub_self, List.getElem_cons_zero]
     exact (he.keep hK).more hI
theorem RowQ.set {T : TypeId} {w : World} {base : Nat} {v : Value} {l : List El} (h : RowQ T w base v l) (a : Addr) (u : Value) (h2 : a.block < base) : RowQ T (w.setCell a u) base v l := by
 obtain ⟨cs, h3, h4⟩ := h
 have hne : v.ownBlock ≠ some a.block := by
  intro e
  obtain ⟨_, h0 | ⟨g, cap, cur, hv, hbs, _⟩⟩ := h3
  · rw [h0.1] at e
    cases e
  · rw [hv] at e
    injection e with e
    have e' : g = a.block := e
    omega
 refine ⟨cs, ownsRow_setCell_other h3 hne u, fun i hi => ?_⟩
 obtain ⟨Ab, cb, Ak, ck, h5, h6⟩ := h4 i hi
 refine ⟨Ab, cb, Ak, ck, h5, (h6.keep fun p hp => ?_).more fun b hb => ⟨hb.1, hb.2.1.of (heap_setCell_other _ _ _ _ fun e => by have := hb.1; omega), hb.2.2⟩⟩
 refine World.cell?_of_block (heap_setCell_other _ _ _ _ fun e => ?_)
 have := hp.1
 omega
theorem RowQ.parts {T : TypeId} {w : World} {base : Nat} {v : Value} {l : List El} (h : RowQ T w base v l) :
 ∃ cs : List Value, w.ownsRow base T 5 v l.length cs ∧ cs.length = l.length * 5 ∧ (∀ b, v.ownBlock = some b → base ≤ b ∧ b < w.heap.size) ∧
  ∀ (i : Nat) (hi : i < l.length), ∃ Ab cb Ak ck, (∀ j, j < 5 → cs[i * 5 + j]? = (el5 l[i] Ab cb Ak ck)[j]?) ∧ ElIn w (RowCb w base v) l[i] Ab cb Ak ck := by
 obtain ⟨cs, h1, h2⟩ := h
 refine ⟨cs, h1, h1.1, fun b hb => ?_, h2⟩
 obtain ⟨_, h0 | ⟨g, cap, cur, hv, hbs, hg, _⟩⟩ := h1
 · rw [h0.1] at hb
   cases hb
 · rw [hv] at hb
   injection hb with hb
   have hb' : g = b := hb
   subst hb'
   exact ⟨hbs, (Array.getElem?_eq_some_iff.1 hg).1⟩
theorem elIn_new {lo : Nat} {w w' : World} {e : El} {Ab Ak : Option Addr} {cb ck : Nat} (h : ElIn w (NewB lo w) e Ab cb Ak ck) (hb : Below w.heap.size w w') : ElIn w' (NewB lo w') e Ab cb Ak ck :=
 (h.keep fun _ hp => hb.cell hp.2.lt).more fun _ hp => hp.below hb (Nat.le_refl _)
theorem set5_block {w : World} {b k : Nat} (u0 u1 u2 u3 u4 : Value) (h : k ≠ b) : (set5 w b u0 u1 u2 u3 u4).heap[k]? = w.heap[k]? := by
 unfold set5
 rw [Below.heap_setCell _ _ _ _ h, Below.heap_setCell _ _ _ _ h, Below.heap_setCell _ _ _ _ h, Below.heap_setCell _ _ _ _ h, Below.heap_setCell _ _ _ _ h]
theorem ElIn.set5 {W : World} {lo lo0 X : Nat} {e : El} {A B : Option Addr} {c d : Nat} (h : ElIn W (NewB lo W) e A c B d) (u0 u1 u2 u3 u4 : Value) (hX : X < lo) (h0 : lo0 ≤ lo) : ElIn (set5 W X u0 u1 u2 u3 u4) (NewB lo0 (set5 W X u0 u1 u2 u3 u4)) e A c B d :=
 (h.keep fun p hp => set5_other _ _ _ _ _ _ _ p (by have := hp.1; omega)).more fun b hb => ⟨Nat.le_trans h0 hb.1, hb.2.of (set5_block _ _ _ _ _ (by have := hb.1; omega))⟩
theorem cells5e {w : World} {b : Nat} {v0 v1 v2 v3 v4 : Value} {T : TypeId} (h : w.heap[b]? = some (.cells #[v0, v1, v2, v3, v4] T (0, 0))) :
 w.cell? ⟨b, 0, none⟩ = some v0 ∧ w.cell? ⟨b, 1, none⟩ = some v1 ∧ w.cell? ⟨b, 2, none⟩ = some v2 ∧ w.cell? ⟨b, 3, none⟩ = some v3 ∧ w.cell? ⟨b, 4, none⟩ = some v4 :=
 ⟨cell_of_row _ _ _ _ _ _ h, cell_of_row _ _ _ _ _ _ h, cell_of_row _ _ _ _ _ _ h, cell_of_row _ _ _ _ _ _ h, cell_of_row _ _ _ _ _ _ h⟩
theorem bytes_cb (w : World) (s : ByteArray) : Cb (Lib.bytesWorld w 5 s) w.heap.size := by
 refine ⟨_, _, _, Lib.bytesWorld_at_new w _ s, .inr fun v hv => ?_⟩
 unfold Lib.bytesCells at hv
 rw [Array.mem_toList_iff, Array.mem_append, Array.mem_map, Array.mem_replicate] at hv
 rcases hv with ⟨b, _, rfl⟩ | ⟨_, rfl⟩
 · exact ⟨_, rfl⟩
 · exact ⟨_, rfl⟩
theorem bytes_src (w : World) (l : List UInt8) (cap : Nat) (h : grownCap w l.length 0 5 = cap) : SrcI (Lib.bytesWorld w 5 (baO l)) (NewB w.heap.size (Lib.bytesWorld w 5 (baO l))) (some ⟨w.heap.size, 0, none⟩) cap (nb l) := by
 refine ⟨?_, by simp, fun ad e => ?_⟩
 · rw [nb_len, ← h]
   exact grownCap_ge w _ _ _
 · injection e with e
   subst e
   refine ⟨fun _ => ⟨Nat.le_refl _, bytes_cb w _⟩, fun j n hj => ?_⟩
   unfold nb at hj
   rw [List.getElem?_map] at hj
   have hjl : j < l.length := by
    rcases Nat.lt_or_ge j l.length with h2 | h2
    · exact h2
    · rw [List.getElem?_eq_none h2] at hj
      cases hj
   have hc := Lib.bytesWorld_cell w 5 (baO l) j (by rw [baO_len]; exact hjl)
   rw [List.getElem?_eq_getElem hjl] at hj
   have hn : l[j].toNat = n := by injection hj
   have he : (baO l).data.toList.getD j 0 = l[j] := by
    show l.getD j 0 = l[j]
    rw [List.getD_eq_getElem?_getD, List.getElem?_eq_getElem hjl, Option.getD_some]
   rw [he, hn] at hc
   by_cases hj0 : j = 0
   · subst hj0
     exact hc
   · unfold Addr.add
     rw [if_neg hj0]
     simpa using hc
theorem below_bytes14 (w : World) (s : ByteArray) : Below w.heap.size w (Lib.bytesWorld w 5 s) :=
 ⟨rfl, rfl, rfl, by rw [Lib.bytesWorld_size]; omega, fun k hk => Lib.bytesWorld_at_old w _ s k hk⟩
set_option maxRecDepth 8000 in
theorem plain_any (c n : Int) (l : List UInt8) (w : World) :
 Calls Tryz.prog 70 #[.agg #[.int .i64 c, .bool false, .int .i64 n], .string (baO l)] w fun en w' => ∃ A cap, en = .returned (elV (octE c n l) A cap none 0) ∧ ElIn w' (NewB w.heap.size w') (octE c n l) A cap none 0 ∧ Below w.heap.size w w' := by
 obtain ⟨W0, hW0⟩ : ∃ W0, W0 = (w.alloc (.cells #[.int .i64 c, .bool false, .int .i64 n] 39)).alloc (.cells #[.int .i64 0, .bool false, .int .i64 0, .slice none 0 0, .slice none 0 0] 43) := ⟨_, rfl⟩
 have hB0 : Below w.heap.size w W0 := by rw [hW0]; exact ((Below.refl _ _).alloc (Nat.le_refl _) _).alloc (by simp) _
 have hz0 : W0.heap.size = w.heap.size + 2 := by rw [hW0]; simp
 have hT0 : W0.heap[w.heap.size]? = some (.cells #[.int .i64 c, .bool false, .int .i64 n] 39 (0, 0)) := by rw [hW0, Below.heap_alloc _ _ _ (by simp)]; exact heap_alloc_new w _
 have hE0 : W0.heap[w.heap.size + 1]? = some (.cells #[.int .i64 0, .bool false, .int .i64 0, .slice none 0 0, .slice none 0 0] 43 (0, 0)) := by
  have h2 : (w.alloc (.cells #[.int .i64 c, .bool false, .int .i64 n] 39)).heap.size = w.heap.size + 1 := by simp
  rw [hW0, ← h2]
  exact heap_alloc_new _ _
 obtain ⟨t0, t1, t2⟩ := cells3i hT0
 have cv := Lib.run_convert_string_bytes (P := Tryz.prog) W0 9 40 5 (baO l) Tryz.underlying9 Tryz.underlying40 Tryz.underlying5
 obtain ⟨cap, hcap⟩ : ∃ cap, grownCap W0 l.length 0 5 = cap := ⟨_, rfl⟩
 have hsrc := bytes_src W0 l cap hcap
 have hBB := below_bytes14 W0 (baO l)
 rw [baO_len, hcap] at cv
 obtain ⟨W1, hW1⟩ : ∃ W, W = Lib.bytesWorld W0 5 (baO l) := ⟨_, rfl⟩
 rw [← hW1] at cv hsrc hBB
 have hE1 := (hBB.block (w.heap.size + 1) (by omega)).trans hE0
 have hf1 := free7 hE1
 have e0 := cell_of_row _ _ 0 _ _ _ hE1
 have e1 := cell_of_row _ _ 1 _ _ _ hE1
 have e2 := cell_of_row _ _ 2 _ _ _ hE1
 have e3 := cell_of_row _ _ 3 _ _ _ hE1
 have e4 := cell_of_row _ _ 4 _ _ _ hE1
 replace hz0 := Hd hz0
 go_enter Tryz.func70, Tryz.ntmps70
 go_wp2_with fail
 rw [← hW0]
 replace hW0 := Hd hW0
 replace hW1 := Hd hW1
 replace hsrc := Hd hsrc
 replace hBB := Hd hBB
 replace hE0 := Hd hE0
 replace hB0 := Hd hB0
 replace hcap := Hd hcap
 rw [cv]
 dsimp only [Result.andThen]
 go_wp2_with fail
 have HC := Hd (set5_same (hE1) (.int .i64 c) (.bool false) (.int .i64 n) (.slice (some ⟨W0.heap.size, 0, none⟩) l.length cap) (.slice none 0 0))
 have HL := Hd (set5_below ((hB0.out.trans (hBB.out.mono (by have := hz0.out; omega)))) (by omega : _ ≤ w.heap.size + 1) (.int .i64 c) (.bool false) (.int .i64 n) (.slice (some ⟨W0.heap.size, 0, none⟩) l.length cap) (.slice none 0 0))
 have HN := Hd (fun lo lo0 ee AA cc BB dd (hin : ElIn W1 (NewB lo W1) ee AA cc BB dd) (hX : w.heap.size + 1 < lo) (h0 : lo0 ≤ lo) => hin.set5 (.int .i64 c) (.bool false) (.int .i64 n) (.slice (some ⟨W0.heap.size, 0, none⟩) l.length cap) (.slice none 0 0) hX h0)
 have HX : set5 W1 (w.heap.size + 1) (.int .i64 c) (.bool false) (.int .i64 n) (.slice (some ⟨W0.heap.size, 0, none⟩) l.length cap) (.slice none 0 0) = (((((W1.setCell ⟨w.heap.size + 1, 0, none⟩ (.int .i64 c)).setCell ⟨w.heap.size + 1, 1, none⟩ (.bool false)).setCell ⟨w.heap.size + 1, 2, none⟩ (.int .i64 n)).setCell ⟨w.heap.size + 1, 3, none⟩ (.slice (some ⟨W0.heap.size, 0, none⟩) l.length cap)).setCell ⟨w.heap.size + 1, 4, none⟩ (.slice none 0 0)) := rfl
 rw [← HX]
 obtain ⟨W5, hW5⟩ : ∃ W5, W5 = set5 W1 (w.heap.size + 1) (.int .i64 c) (.bool false) (.int .i64 n) (.slice (some ⟨W0.heap.size, 0, none⟩) l.length cap) (.slice none 0 0) := ⟨_, rfl⟩
 rw [← hW5] at HC HL HN ⊢
 clear HX hW5 e0 e1 e2 e3 e4 hf1
 obtain ⟨v0, v1, v2, v3, v4⟩ := cells5e HC.out
 exact bodyPost_ret (v := .agg #[.int .i64 c, .bool false, .int .i64 n, .slice (some ⟨W0.heap.size, 0, none⟩) l.length cap, .slice none 0 0]) (by simp [results, Tryz.results70, go_sem, v0, v1, v2, v3, v4]) rfl (by have hn := nb_len l; refine ⟨some ⟨W0.heap.size, 0, none⟩, cap, ?_, HN.out W0.heap.size w.heap.size (octE c n l) _ cap none 0 ⟨hsrc.out, ⟨Nat.le_refl _, by omega, fun _ => rfl, fun _ e => by cases e⟩⟩ (by have := hz0.out; omega) (by have := hz0.out; omega), HL.out⟩; show _ = Ending.returned (Value.agg #[_, _, _, .slice _ (nb l).length _, _]); rw [hn]; rfl)
end Go.Proofs.YtcbiedonmibfaaaGreatDoor
namespace Go.Proofs.YtcbiedonmibfaaaGreatDoor
open Go.RowKit Go.Lib
theorem tag_eql (c n : Int) (m : Bool) (w : World) : Sem.run Tryz.prog (binOp .eql 39 (.agg #[.int .i64 c, .bool m, .int .i64 n]) (.agg #[.int .i64 c, .bool m, .int .i64 n])) w = .ok (.bool true) w := by
 simp [go_sem]
set_option maxRecDepth 8000 in
theorem content_any (c n : Int) (l : List UInt8) (I : Nat → Prop) (A B : Option Addr) (cap d : Nat) (w : World) (hs : SrcI w I A cap (nb l)) (hI : ∀ b, I b → b < w.heap.size) :
 Calls Tryz.prog 67 #[.agg #[.int .i64 c, .bool false, .int .i64 n, .slice A l.length cap, .slice B 0 d], .agg #[.int .i64 c, .bool false, .int .i64 n]] w fun en w' => en = .returned (.string (baO l)) ∧ Below w.heap.size w w' := by
 obtain ⟨W1, hW1⟩ : ∃ W1, W1 = (w.alloc (.cells #[.int .i64 c, .bool false, .int .i64 n, .slice A l.length cap, .slice B 0 d] 43)).alloc (.cells #[.int .i64 c, .bool false, .int .i64 n] 39) := ⟨_, rfl⟩
 have hB1 : Below w.heap.size w W1 := by rw [hW1]; exact ((Below.refl _ _).alloc (Nat.le_refl _) _).alloc (by simp) _
 have hE1 : W1.heap[w.heap.size]? = some (.cells #[.int .i64 c, .bool false, .int .i64 n, .slice A l.length cap, .slice B 0 d] 43 (0, 0)) := by rw [hW1, Below.heap_alloc _ _ _ (by simp)]; exact heap_alloc_new w _
 have hT1 : W1.heap[w.heap.size + 1]? = some (.cells #[.int .i64 c, .bool false, .int .i64 n] 39 (0, 0)) := by rw [hW1]; exact heap_alloc_new (w.alloc _) _ |> (by simpa using ·)
 have cv := ((hs.keep fun p hp => hB1.cell (hI _ hp)).conv fun b hb => Nat.lt_of_lt_of_le (hI b hb) hB1.size)
 rw [nb_len, baO_nb] at cv
 obtain ⟨e0, e1, e2, e3, e4⟩ := cells5e hE1
 obtain ⟨t0, t1, t2⟩ := cells3i hT1
 have CD := Hd fun W => demand_ok W
 have TE := tag_eql c n false
 replace hE1 := Hd hE1
 replace hT1 := Hd hT1
 replace hB1 := Hd hB1
 replace hs := Hd hs
 go_enter Tryz.func67, Tryz.ntmps67
 go_wp2_with fail
 rw [← hW1]
 replace hW1 := Hd hW1
 try go_wp2_with fail
 refine (CD.out _).mono ?_
 rintro _ w2 ⟨rfl, h2⟩
 subst w2
 dsimp only []
 go_wp2_with fail
 go_ret
 exact ⟨rfl, hB1.out⟩
set_option maxRecDepth 8000 in
theorem kids_any (c n : Int) (A B : Option Addr) (cap N d : Nat) (w : World) :
 Calls Tryz.prog 64 #[.agg #[.int .i64 c, .bool true, .int .i64 n, .slice A 0 cap, .slice B N d], .agg #[.int .i64 c, .bool true, .int .i64 n]] w fun en w' => en = .returned (.slice B N d) ∧ Below w.heap.size w w' := by
 obtain ⟨W1, hW1⟩ : ∃ W1, W1 = (w.alloc (.cells #[.int .i64 c, .bool true, .int .i64 n, .slice A 0 cap, .slice B N d] 43)).alloc (.cells #[.int .i64 c, .bool true, .int .i64 n] 39) := ⟨_, rfl⟩
 have hB1 : Below w.heap.size w W1 := by rw [hW1]; exact ((Below.refl _ _).alloc (Nat.le_refl _) _).alloc (by simp) _
 have hE1 : W1.heap[w.heap.size]? = some (.cells #[.int .i64 c, .bool true, .int .i64 n, .slice A 0 cap, .slice B N d] 43 (0, 0)) := by rw [hW1, Below.heap_alloc _ _ _ (by simp)]; exact heap_alloc_new w _
 have hT1 : W1.heap[w.heap.size + 1]? = some (.cells #[.int .i64 c, .bool true, .int .i64 n] 39 (0, 0)) := by rw [hW1]; exact heap_alloc_new (w.alloc _) _ |> (by simpa using ·)
 obtain ⟨e0, e1, e2, e3, e4⟩ := cells5e hE1
 obtain ⟨t0, t1, t2⟩ := cells3i hT1
 have CD := Hd fun W => demand_ok W
 have TE := tag_eql c n true
 replace hE1 := Hd hE1
 replace hT1 := Hd hT1
 replace hB1 := Hd hB1
 go_enter Tryz.func64, Tryz.ntmps64
 go_wp2_with fail
 rw [← hW1]
 replace hW1 := Hd hW1
 try go_wp2_with fail
 refine (CD.out _).mono ?_
 rintro _ w2 ⟨rfl, h2⟩
 subst w2
 dsimp only []
 go_wp2_with fail
 go_ret
 exact ⟨rfl, hB1.out⟩
end Go.Proofs.YtcbiedonmibfaaaGreatDoor
