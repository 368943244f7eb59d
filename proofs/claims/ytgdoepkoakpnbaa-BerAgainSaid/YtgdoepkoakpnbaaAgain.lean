/-
  The law BerAgain holds: what is parsed of any bytes is put, and parsed as it was, in at most as many bytes.
  Conditions: none.
-/
import Derived.Test.YtgdoepkoakpnbaaWell
import Derived.Test.YtgdoepkoakpnbaaAlike
import Derived.Deep.RegionHeldLaw
import Derived.Test.YtgdoepkoakpnbaaPar2
import Derived.Test.YtgdoepkoakpnbaaBerOk
import Derived.Test.YtgdoepkoakpnbaaStr
import Derived.Test.YtgdoepkoakpnbaaOpen

/-! Pairs of lists that read alike: the rows of them that the program's Same goes through. -/
namespace Go.Proofs.Ytgdoepkoakpnbaa
open Go.RowKit

theorem info_lists : (Try.prog.info? 60).map (fun i => (i.zero, i.size, i.bytes)) = some (some (.agg #[.slice none 0 0, .slice none 0 0]), 2, 48) := by kernel_rfl

abbrev Twin := (Key × Key) × Fo
/-- The list at p as a value. -/
abbrev lv (p : Key) (c : Nat) : Value := .slice (some ⟨p.1, p.2.1, none⟩) p.2.2 c
def rowT (P : List Twin) (cs : List Value) : Prop := cs.length = P.length * 2 ∧ ∀ (i : Nat) (hi : i < P.length), ∃ c d, P[i].1.1.2.2 ≤ c ∧ c ≤ 9223372036854775807 ∧ P[i].1.2.2.2 ≤ d ∧ d ≤ 9223372036854775807 ∧ cs[i * 2]? = some (lv P[i].1.1 c) ∧ cs[i * 2 + 1]? = some (lv P[i].1.2 d)
def OwnT (w : World) (base : Nat) (v : Value) (P : List Twin) : Prop := ∃ cs, w.ownsRow base 60 2 v P.length cs ∧ rowT P cs
theorem OwnT.keep {w w' : World} {base : Nat} {v : Value} {P : List Twin} (h : OwnT w base v P) (hb : ∀ b, Cl w b → w'.heap[b]? = w.heap[b]?) : OwnT w' base v P := by
  obtain ⟨cs, ⟨h1, h0 | ⟨g, cap, cur, hv, hbs, hg, hn, hm, hs, hx⟩⟩, h2⟩ := h
  · exact ⟨cs, ⟨h1, .inl h0⟩, h2⟩
  · exact ⟨cs, ⟨h1, .inr ⟨g, cap, cur, hv, hbs, (hb g ⟨_, _, hg⟩).trans hg, hn, hm, hs, hx⟩⟩, h2⟩
theorem OwnT.form {w : World} {base : Nat} {v : Value} {P : List Twin} (h : OwnT w base v P) : ∃ A c, v = .slice A P.length c ∧ (0 < P.length → ∃ g, A = some ⟨g, 0, none⟩ ∧ base ≤ g ∧ Cl w g ∧ P.length ≤ c ∧ c ≤ 9223372036854775807 ∧
    ∀ (i : Nat) (hi : i < P.length), ∃ c d, P[i].1.1.2.2 ≤ c ∧ c ≤ 9223372036854775807 ∧ P[i].1.2.2.2 ≤ d ∧ d ≤ 9223372036854775807 ∧ w.cell? ⟨g, i * 2, none⟩ = some (lv P[i].1.1 c) ∧ w.cell? ⟨g, i * 2 + 1, none⟩ = some (lv P[i].1.2 d)) := by
  obtain ⟨cs, ⟨hl, h0 | ⟨g, cap, cur, hv, hbs, hg, hn, hm, hs, hx⟩⟩, h2, h3⟩ := h
  · exact ⟨none, 0, by rw [h0.1, h0.2], fun h => by omega⟩
  · refine ⟨_, cap, hv, fun h => ⟨g, rfl, hbs, ⟨_, _, hg⟩, hn, by unfold maxLen at hm; exact hm, fun i hi => ?_⟩⟩
    obtain ⟨c, d, e1, e2, e3, e4, e5, e6⟩ := h3 i hi
    refine ⟨c, d, e1, e2, e3, e4, ?_, ?_⟩
    · rw [cell_of_row w g (i * 2) cur _ _ hg, ← e5, ← hx, List.getElem?_take, if_pos (by omega)]
      simp
    · rw [cell_of_row w g (i * 2 + 1) cur _ _ hg, ← e6, ← hx, List.getElem?_take, if_pos (by omega)]
      simp
theorem OwnT.pop {w : World} {base : Nat} {A : Option Addr} {n c : Nat} {P : List Twin} {x : Twin} (h : OwnT w base (.slice A n c) (P ++ [x])) : OwnT w base (.slice A P.length c) P := by
  obtain ⟨cs, ⟨hl, h0 | ⟨g, cap, cur, hv, hbs, hg, hn, hm, hs, hx⟩⟩, h2, h3⟩ := h
  · have := h0.2
    simp at this
  · injection hv with hv1 hv2 hv3
    subst hv1 hv3
    rw [List.length_append, List.length_singleton] at hl hn hx h2
    refine ⟨cs.take (P.length * 2), ⟨?_, .inr ⟨g, c, cur, rfl, hbs, hg, by omega, hm, hs, ?_⟩⟩, ?_, fun i hi => ?_⟩
    · rw [List.length_take]
      omega
    · rw [← hx, List.take_take]
      congr 1
      omega
    · rw [List.length_take]
      omega
    · obtain ⟨a, b, e1, e2, e3, e4, e5, e6⟩ := h3 i (by simp; omega)
      have hp : (P ++ [x])[i]'(by simp; omega) = P[i] := List.getElem_append_left hi
      rw [hp] at e1 e3 e5 e6
      refine ⟨a, b, e1, e2, e3, e4, ?_, ?_⟩
      · rw [List.getElem?_take, if_pos (by omega)]
        exact e5
      · rw [List.getElem?_take, if_pos (by omega)]
        exact e6
theorem rowT.snoc {P : List Twin} {cs : List Value} (h : rowT P cs) {p q : Key} {k : Fo} {c d : Nat} (hc : p.2.2 ≤ c) (hc9 : c ≤ 9223372036854775807) (hd : q.2.2 ≤ d) (hd9 : d ≤ 9223372036854775807) : rowT (P ++ [((p, q), k)]) (cs ++ [lv p c, lv q d]) := by
  refine ⟨by simp [h.1]; omega, fun i hi => ?_⟩
  by_cases hil : i < P.length
  · obtain ⟨a, b, e1, e2, e3, e4, e5, e6⟩ := h.2 i hil
    rw [List.getElem_append_left hil]
    refine ⟨a, b, e1, e2, e3, e4, ?_, ?_⟩
    · rw [List.getElem?_append_left (by rw [h.1]; omega)]; exact e5
    · rw [List.getElem?_append_left (by rw [h.1]; omega)]; exact e6
  · have hie : i = P.length := by simp at hi; omega
    subst hie
    have hp : (P ++ [((p, q), k)])[P.length]'(by simp) = ((p, q), k) := by simp
    rw [hp]
    refine ⟨c, d, hc, hc9, hd, hd9, ?_, ?_⟩
    · rw [List.getElem?_append_right (by rw [h.1]; exact Nat.le_refl _), h.1]
      simp
    · rw [List.getElem?_append_right (by rw [h.1]; omega), h.1]
      simp
def szT (P : List Twin) : Nat := sumL (P.map fun x => x.2.size)
theorem szT_snoc (P : List Twin) (x : Twin) : szT (P ++ [x]) = szT P + x.2.size := by
  unfold szT
  rw [List.map_append, List.map_singleton, sumL_snoc]
theorem MapK.below2 {M : List (Key × Key)} {w w' : World} {mb : Nat} (h : MapK kv2 cl2 w mb M) (hb : Below w.heap.size w w') : MapK kv2 cl2 w' mb M :=
  h.keep (hb.block _ h.lt) fun _ hp => ⟨Cl.below hp.1 hb (Cl.lt hp.1), Cl.below hp.2 hb (Cl.lt hp.2)⟩

/-- What holds while Same goes on: P: what is still to do, S: how great it may be. -/
structure SRel (W0 wr : World) (mb : Nat) (V : Value) (P : List Twin) (S : Nat) : Prop where
  grown : W0.grownBy wr (some mb)
  map : ∃ M, MapK kv2 cl2 wr mb M ∧ ∀ p ∈ M, cl2 W0 p
  own : OwnT wr W0.heap.size V P
  lst : ∀ x ∈ P, Lst W0 x.1.1 x.2 ∧ Lst W0 x.1.2 x.2 ∧ x.2.byt
  sz : szT P ≤ S
theorem SRel.weaken {W0 wr : World} {mb : Nat} {V : Value} {P : List Twin} {S S' : Nat} (h : SRel W0 wr mb V P S) (hS : S ≤ S') : SRel W0 wr mb V P S' := ⟨h.grown, h.map, h.own, h.lst, Nat.le_trans h.sz hS⟩
theorem SRel.move {W0 wr w' : World} {mb : Nat} {V : Value} {P : List Twin} {S : Nat} (h : SRel W0 wr mb V P S) (hb : Below wr.heap.size wr w') : SRel W0 w' mb V P S := by
  obtain ⟨M, h1, h2⟩ := h.map
  exact ⟨grown_below h.grown hb, ⟨M, h1.below2 hb, h2⟩, h.own.keep fun b hc => hb.block b hc.lt, h.lst, h.sz⟩
theorem SRel.isMap {W0 wr : World} {mb : Nat} {V : Value} {P : List Twin} {S : Nat} (h : SRel W0 wr mb V P S) : ∃ es c, wr.heap[mb]? = some (.map es c) := by
  obtain ⟨M, h1, _⟩ := h.map
  exact h1.map
theorem SRel.turn {W0 wr w4 : World} {mb : Nat} {V : Value} {P : List Twin} {S : Nat} {M : List (Key × Key)} {q : Key × Key} (h : SRel W0 wr mb V P S) (hM : ∀ p ∈ M, cl2 W0 p) (hq : cl2 W0 q) (hm : MapK kv2 cl2 w4 mb (addK M q)) (hg : wr.grownBy w4 (some mb)) : SRel W0 w4 mb V P S := by
  refine ⟨grown_trans h.grown hg, ⟨_, hm, fun p hp => ?_⟩, h.own.keep fun b hc => grown_cl hg h.isMap hc, h.lst, h.sz⟩
  unfold addK at hp
  split at hp
  · exact hM p hp
  · rcases List.mem_append.1 hp with hp | hp
    · exact hM p hp
    · simp only [List.mem_singleton] at hp
      subst hp
      exact hq
theorem SRel.push {W0 w4 w6 : World} {mb : Nat} {V : Value} {P : List Twin} {S g cap c d : Nat} {p q : Key} {k : Fo} {cs : List Value} {o : Obj} (h : SRel W0 w4 mb V P S) (hmap0 : ∃ es c, W0.heap[mb]? = some (.map es c)) (hcs : rowT P cs) (hl1 : Lst W0 p k) (hl2 : Lst W0 q k) (hb : k.byt)
    (hc : p.2.2 ≤ c) (hc9 : c ≤ 9223372036854775807) (hd : q.2.2 ≤ d) (hd9 : d ≤ 9223372036854775807) (hown : w6.ownsRow W0.heap.size 60 2 (.slice (some ⟨g, 0, none⟩) (P.length + 1) cap) (P.length + 1) (cs ++ [lv p c, lv q d]))
    (hg6 : (w4.alloc o).grownBy w6 V.ownBlock) (hV : ∀ b, V.ownBlock = some b → W0.heap.size ≤ b) : SRel W0 w6 mb (.slice (some ⟨g, 0, none⟩) (P.length + 1) cap) (P ++ [((p, q), k)]) (S + k.size) := by
  have hmb : mb < W0.heap.size := by
    obtain ⟨es, c, h⟩ := hmap0
    exact (Array.getElem?_eq_some_iff.1 h).1
  have hw4 := h.grown
  have h4 := hw4.size
  have hw6 : W0.grownBy w6 (some mb) := by
    refine ⟨hg6.os.trans hw4.os, hg6.tape.trans hw4.tape, hg6.output.trans hw4.output, Nat.le_trans hw4.size (Nat.le_trans (by simp) hg6.size), fun i hi hne => ?_⟩
    rw [hg6.block i (by simp; omega) (fun e => by have := hV i e.symm; omega), Below.heap_alloc _ _ _ (by omega)]
    exact hw4.block i hi hne
  have hmblk : w6.heap[mb]? = w4.heap[mb]? := by
    rw [hg6.block mb (by simp; omega) (fun e => by have := hV mb e.symm; omega), Below.heap_alloc _ _ _ (by omega)]
  obtain ⟨M, ⟨⟨es, clock, hb1, hb2⟩, _⟩, hM⟩ := h.map
  refine ⟨hw6, ⟨M, ⟨⟨es, clock, hmblk.trans hb1, hb2⟩, fun p hp => ⟨Cl.grown (hM p hp).1 hw6 hmap0, Cl.grown (hM p hp).2 hw6 hmap0⟩⟩, hM⟩, ⟨cs ++ [lv p c, lv q d], by rw [List.length_append]; exact hown, hcs.snoc hc hc9 hd hd9⟩, fun x hx => ?_, ?_⟩
  · rcases List.mem_append.1 hx with hx | hx
    · exact h.lst x hx
    · simp only [List.mem_singleton] at hx
      subst hx
      exact ⟨hl1, hl2, hb⟩
  · rw [szT_snoc]
    have := h.sz
    simp only
    omega
theorem szT_len (w : World) : ∀ (P : List Twin), (∀ x ∈ P, Lst w x.1.1 x.2) → P.length ≤ szT P
  | [], _ => Nat.zero_le _
  | x :: P, h => by
    have h1 := szT_len w P fun y hy => h y (List.mem_cons_of_mem _ hy)
    have h2 := kidsz_le x.2
    have h3 := h x (List.mem_cons_self ..)
    have h4 := h3.len
    have h5 := h3.pos
    unfold szT at h1 ⊢
    rw [List.map_cons, sumL_cons, List.length_cons]
    omega
theorem El.head_self (e : El) : e.head e = true := by
  unfold El.head
  simp
end Go.Proofs.Ytgdoepkoakpnbaa


/-! The program's Same of two elements that read alike. -/
namespace Go.Proofs.Ytgdoepkoakpnbaa
open Go.RowKit

set_option maxRecDepth 8000 in
set_option maxHeartbeats 1600000 in
theorem same_twin (e : El) (B K : Nat) (w : World) (Ab Ab' : Option Addr) (cb cb' : Nat) (Ak Ak' : Option Addr) (ck ck' : Nat) (hin : ElIn w (Cl w) e Ab cb Ak ck) (hin' : ElIn w (Cl w) e Ab' cb' Ak' ck') (hby : e.byt) (hsz : e.size ≤ 1000000) (hB : B = e.b.length) (hK : K = e.kids.length) :
    Calls Try.prog 12 #[.agg #[.int .i64 e.c, .bool e.m, .int .i64 e.n, .slice Ab B cb, .slice Ak K ck], .agg #[.int .i64 e.c, .bool e.m, .int .i64 e.n, .slice Ab' B cb', .slice Ak' K ck']] w fun en w' => en = .returned (.bool true) ∧ Below w.heap.size w w' := by
  have hmm := @run_makeMap Try.prog
  obtain ⟨j0', hji, hjz0, hjz1, hjz2⟩ := info_parts info_lists
  obtain ⟨W0, hW0⟩ : ∃ W0, W0 = ((((w.alloc (.cells #[.int .i64 e.c, .bool e.m, .int .i64 e.n, .slice Ab B cb, .slice Ak K ck] 27)).alloc (.cells #[.int .i64 e.c, .bool e.m, .int .i64 e.n, .slice Ab' B cb', .slice Ak' K ck'] 27)).alloc (.map #[] 0)).alloc (.cells #[.int .i64 e.c, .bool e.m, .int .i64 e.n, .slice Ab B cb, .slice Ak K ck] 27)).alloc (.cells #[.int .i64 e.c, .bool e.m, .int .i64 e.n, .slice Ab' B cb', .slice Ak' K ck'] 27) := ⟨_, rfl⟩
  have hB0 : Below w.heap.size w W0 := by rw [hW0]; go_grown
  have hz0 : W0.heap.size = w.heap.size + 5 := by rw [hW0]; simp
  have hmap0 : W0.heap[w.heap.size + 2]? = some (.map #[] 0) := by
    rw [hW0, Below.heap_alloc _ _ _ (by simp), Below.heap_alloc _ _ _ (by simp)]
    exact (MapKept.heap_alloc ((w.alloc (.cells #[.int .i64 e.c, .bool e.m, .int .i64 e.n, .slice Ab B cb, .slice Ak K ck] 27)).alloc (.cells #[.int .i64 e.c, .bool e.m, .int .i64 e.n, .slice Ab' B cb', .slice Ak' K ck'] 27)) _).1 |> (by simpa using ·)
  have hroot1 : W0.heap[w.heap.size + 3]? = some (.cells #[.int .i64 e.c, .bool e.m, .int .i64 e.n, .slice Ab B cb, .slice Ak K ck] 27 (0, 0)) := by
    rw [hW0, Below.heap_alloc _ _ _ (by simp)]
    exact heap_alloc_new (((w.alloc _).alloc _).alloc _) _ |> (by simpa using ·)
  have hroot2 : W0.heap[w.heap.size + 4]? = some (.cells #[.int .i64 e.c, .bool e.m, .int .i64 e.n, .slice Ab' B cb', .slice Ak' K ck'] 27 (0, 0)) := by
    rw [hW0]
    exact heap_alloc_new ((((w.alloc _).alloc _).alloc _).alloc _) _ |> (by simpa using ·)
  have hL1 : Lst W0 (w.heap.size + 3, 0, 1) (Fo.of [e]) := root_lst hin hB0 (by rw [← hB, ← hK]; exact hroot1)
  have hL2 : Lst W0 (w.heap.size + 4, 0, 1) (Fo.of [e]) := root_lst hin' hB0 (by rw [← hB, ← hK]; exact hroot2)
  obtain ⟨W1, hW1⟩ : ∃ W1, W1 = W0.alloc (.cells #[.slice (some ⟨w.heap.size + 3, 0, none⟩) 1 1, .slice (some ⟨w.heap.size + 4, 0, none⟩) 1 1] 60) := ⟨_, rfl⟩
  have hb01 : Below W0.heap.size W0 W1 := by rw [hW1]; exact (Below.refl _ _).alloc (Nat.le_refl _) _
  have hlev : W1.heap[w.heap.size + 5]? = some (.cells #[.slice (some ⟨w.heap.size + 3, 0, none⟩) 1 1, .slice (some ⟨w.heap.size + 4, 0, none⟩) 1 1] 60 (0, 0)) := by
    rw [hW1, ← hz0]
    exact heap_alloc_new W0 _
  have hs0 : (Fo.of [e]).size ≤ 1000000 := by
    rw [Fo.size_list, Fo.list_of]
    simp [sumL]
    exact hsz
  have hI0 : Hid (SRel W0 W1 (w.heap.size + 2) (.slice (some ⟨w.heap.size + 5, 0, none⟩) 1 1) [(((w.heap.size + 3, 0, 1), (w.heap.size + 4, 0, 1)), Fo.of [e])] (Fo.of [e]).size) := Lib.hid (by
    refine ⟨by rw [hW1]; exact World.grownBy_alloc W0 _ _, ⟨[], ⟨⟨#[], 0, (hb01.block _ (by omega)).trans hmap0, rfl⟩, fun p hp => by cases hp⟩, fun p hp => by cases hp⟩, ⟨[.slice (some ⟨w.heap.size + 3, 0, none⟩) 1 1, .slice (some ⟨w.heap.size + 4, 0, none⟩) 1 1], ⟨rfl, .inr ⟨w.heap.size + 5, 1, _, rfl, by omega, hlev, Nat.le_refl _, by decide, rfl, rfl⟩⟩, rfl, fun i hi => ?_⟩, fun x hx => ?_, by simp [szT, sumL]⟩
    · have hi0 : i = 0 := by simpa using hi
      subst hi0
      exact ⟨1, 1, Nat.le_refl _, by omega, Nat.le_refl _, by omega, rfl, rfl⟩
    · simp only [List.mem_singleton] at hx
      subst hx
      exact ⟨hL1, hL2, byt_of [e] (by simpa using hby)⟩)
  have hEnd : Hid (∀ wr : World, W0.grownBy wr (some (w.heap.size + 2)) → Below w.heap.size w wr) := Lib.hid fun wr hg => hB0.trans ((Below.refl w.heap.size W0).grown hg (by omega) fun b hb => by injection hb with hb; omega)
  have hmap00 : Hid (∃ es c, W0.heap[w.heap.size + 2]? = some (.map es c)) := Lib.hid ⟨_, _, hmap0⟩
  replace hroot1 := Lib.hid hroot1
  replace hroot2 := Lib.hid hroot2
  replace hlev := Lib.hid hlev
  replace hmap0 := Lib.hid hmap0
  replace hL1 := Lib.hid hL1
  replace hL2 := Lib.hid hL2
  replace hin := Lib.hid hin
  replace hin' := Lib.hid hin'
  replace hB0 := Lib.hid hB0
  replace hB := Lib.hid hB
  replace hK := Lib.hid hK
  replace hz0 := Lib.hid hz0
  replace hby := Lib.hid hby
  replace hb01 := Lib.hid hb01
  go_enter Try.func12, Try.ntmps12
  go_wp2_with fail
  rw [← hW0, ← hW1]
  replace hW0 := Lib.hid hW0
  replace hW1 := Lib.hid hW1
  go_loopg [6] (Fo.of [e]).size (fun n v wr => ∃ (P : List Twin) (A : Option Addr) (c : Nat), v = .slice A P.length c ∧ n ≤ 1000000 ∧ Hid (SRel W0 wr (w.heap.size + 2) (.slice A P.length c) P n))
  case atStart => exact ⟨[(((w.heap.size + 3, 0, 1), (w.heap.size + 4, 0, 1)), Fo.of [e])], _, _, rfl, hs0, hI0⟩
  case round =>
    obtain ⟨P, A, c, rfl, hgk, HS⟩ := hrel
    clear hI0
    rcases List.eq_nil_or_concat P with rfl | ⟨P', x, hP⟩
    · have k0 : decide (0 < (([] : List Twin).length : Int)) = false := rfl
      have hX := Lib.hid (hEnd.out _ HS.out.grown)
      go_wp2_with fail
      go_ret
      exact ⟨rfl, hX.out⟩
    · rw [List.concat_eq_append] at hP
      subst hP
      obtain ⟨A', c', hv, hrow⟩ := HS.out.own.form
      injection hv with hv1 hv2 hv3
      subst hv1 hv3
      clear hv2
      obtain ⟨g, rfl, hbg, hcg, hnc, hc9, hcells⟩ := hrow (by simp)
      obtain ⟨cp, cq, e1, e2, e3, e4, hcp, hcq⟩ := hcells P'.length (by simp)
      have hx : (P' ++ [x])[P'.length]'(by simp) = x := by simp
      rw [hx] at e1 e3 hcp hcq
      clear hx hcells hrow
      obtain ⟨hl1, hl2, hfb⟩ := HS.out.lst x (by simp)
      obtain ⟨⟨⟨pb, po, pn⟩, ⟨qb, qo, qn⟩⟩, f⟩ := x
      have hsx := szT_snoc P' (((pb, po, pn), (qb, qo, qn)), f)
      simp only [lv] at e1 e3 hcp hcq hl1 hl2 hfb hsx
      have hfl : f.list.length = pn := hl1.len
      have hfp : 0 < pn := hl1.pos
      have hqn : f.list.length = qn := hl2.len
      have hqn : qn = pn := by omega
      subst hqn
      have hSp := HS.out.sz
      have hown := HS.out.own.pop
      have hgm := HS.out.grown
      have hmm2 := HS.out.map
      have hlst := HS.out.lst
      have hkz := kidsz_le f
      have hN : (P' ++ [(((pb, po, qn), (qb, qo, qn)), f)]).length = P'.length + 1 := by simp
      rw [hN] at hnc
      obtain ⟨m, hm⟩ : ∃ m, m = P'.length := ⟨_, rfl⟩
      rw [hN, ← hm]
      rw [← hm] at hnc hcp hcq
      have hgl := hcg.lt
      have HI0 : Hid (SRel W0 wr (w.heap.size + 2) (.slice (some ⟨g, 0, none⟩) P'.length c) P' (szT P')) := Lib.hid ⟨hgm, hmm2, hown, fun x hx => hlst x (List.mem_append_left _ hx), Nat.le_refl _⟩
      clear hown hgm hmm2 hlst HS
      have hszL : szT P' + f.size ≤ gk := by omega
      replace hN := Lib.hid hN
      replace hm := Lib.hid hm
      replace hsx := Lib.hid hsx
      replace hl1 := Lib.hid hl1
      replace hl2 := Lib.hid hl2
      replace hfb := Lib.hid hfb
      replace hfl := Lib.hid hfl
      replace hcg := Lib.hid hcg
      clear hSp hbg
      have k0 : decide (0 < ((m + 1 : Nat) : Int)) = true := decide_eq_true (by omega)
      have k1 : decide (0 < (m : Int) + 1) = true := decide_eq_true (by omega)
      have i0 : (0 : Int) ≤ (m : Int) := by omega
      have i1 : (m : Int) ≤ (c : Int) := by omega
      have i2 : ((m + 1 : Nat) : Int) - 1 = (m : Int) := by omega
      have i3 : (m : Int) + 1 - 1 = (m : Int) := by omega
      have HI1 : Hid (SRel W0 (wr.alloc (.cells #[.slice (some ⟨pb, po, none⟩) qn cp, .slice (some ⟨qb, qo, none⟩) qn cq] 60)) (w.heap.size + 2) (.slice (some ⟨g, 0, none⟩) P'.length c) P' (szT P' + kidsz (f.list.take 0))) := Lib.hid ((HI0.out.move ((Below.refl _ _).alloc (Nat.le_refl _) _)).weaken (Nat.le_add_right _ _))
      obtain ⟨nb, hnb0⟩ : ∃ nb, nb = wr.heap.size := ⟨_, rfl⟩
      have HN0 : Hid ((wr.alloc (.cells #[.slice (some ⟨pb, po, none⟩) qn cp, .slice (some ⟨qb, qo, none⟩) qn cq] 60)).heap[nb]? = some (.cells #[.slice (some ⟨pb, po, none⟩) qn cp, .slice (some ⟨qb, qo, none⟩) qn cq] 60 (0, 0)) ∧ ∀ b, (Value.slice (some ⟨g, 0, none⟩) P'.length c).ownBlock = some b → b ≠ nb) := Lib.hid ⟨by rw [hnb0]; exact heap_alloc_new wr _, fun b hb => by injection hb with hb; have hb' : g = b := hb; omega⟩
      replace hnb0 := Lib.hid hnb0
      clear HI0
      go_wp2_with fail
      rw [hm.out, ← hnb0.out]
      clear hgl
      go_loopw [6, 35] (fun v i wr2 => ∃ (j : Nat) (P2 : List Twin) (A : Option Addr) (c : Nat), j ≤ qn ∧ i = .int .i64 (j : Int) ∧ v = .slice A P2.length c ∧ Hid (SRel W0 wr2 (w.heap.size + 2) (.slice A P2.length c) P2 (szT P' + kidsz (f.list.take j))) ∧ Hid (wr2.heap[nb]? = some (.cells #[.slice (some ⟨pb, po, none⟩) qn cp, .slice (some ⟨qb, qo, none⟩) qn cq] 60 (0, 0)) ∧ ∀ b, (Value.slice A P2.length c).ownBlock = some b → b ≠ nb)) (fun _ i _ => qn - (intOf i).toNat)
      case atStart => exact ⟨0, P', _, _, Nat.zero_le _, rfl, rfl, HI1, HN0⟩
      case round =>
        obtain ⟨j, P2, A2, c2, hj, rfl, rfl, HI, HNB⟩ := hrel
        clear HI1 HN0 hcp hcq
        by_cases hjlt : j < qn
        · have hjl : j < f.list.length := by rw [hfl.out]; exact hjlt
          obtain ⟨Ab1, cb1, Ak1, ck1, hat1, hin1⟩ := hl1.out.elem j hjl
          obtain ⟨Ab2, cb2, Ak2, ck2, hat2, hin2⟩ := hl2.out.elem j hjl
          simp only [] at hat1 hat2
          have hkz2 := kidsz_take f.list j hjl
          have hkm := kidsz_mono f.list (j + 1)
          have hrb : f.list[j].byt := Fo.byt_mem hfb.out _ (List.getElem_mem hjl)
          obtain ⟨r, hrr⟩ : ∃ r, f.list[j] = r := ⟨_, rfl⟩
          rw [hrr] at hat1 hat2 hin1 hin2 hkz2 hrb
          clear hrr
          have hg0 := HI.out.grown
          have hs02 := hg0.size
          have hc1 : Cl W0 pb := hl1.out.cl
          have hc2 : Cl W0 qb := hl2.out.cl
          have hp1 : pb < wr.heap.size := Nat.lt_of_lt_of_le hc1.lt hs02
          have hp2 : qb < wr.heap.size := Nat.lt_of_lt_of_le hc2.lt hs02
          have hnb : nb < wr.heap.size := (Array.getElem?_eq_some_iff.1 HNB.out.1).1
          have kk : ∀ w', Below wr.heap.size wr w' → ∀ b, Cl W0 b → w'.heap[b]? = W0.heap[b]? := fun w' hb b hc => (hb.block b (Nat.lt_of_lt_of_le hc.lt hs02)).trans (grown_cl hg0 hmap00.out hc)
          have kb : ∀ ob : Obj, Below wr.heap.size wr (wr.alloc ob) := fun ob => (Below.refl _ _).alloc (Nat.le_refl _) ob
          have kw1 : ∀ o, wr.cell? ⟨pb, o, none⟩ = W0.cell? ⟨pb, o, none⟩ := fun o => World.cell?_of_block (kk _ (Below.refl _ _) _ hc1)
          have kw2 : ∀ (ob : Obj) o, (wr.alloc ob).cell? ⟨qb, o, none⟩ = W0.cell? ⟨qb, o, none⟩ := fun ob o => World.cell?_of_block (kk _ (kb ob) _ hc2)
          have a0 := (kw1 _).trans hat1.c
          have a1 := (kw1 _).trans hat1.m
          have a2 := (kw1 _).trans hat1.n
          have a3 := (kw1 _).trans hat1.b
          have a4 := (kw1 _).trans hat1.k
          have b0 := fun ob => (kw2 ob _).trans hat2.c
          have b1 := fun ob => (kw2 ob _).trans hat2.m
          have b2 := fun ob => (kw2 ob _).trans hat2.n
          have b3 := fun ob => (kw2 ob _).trans hat2.b
          have b4 := fun ob => (kw2 ob _).trans hat2.k
          have n1 : ∀ ob : Obj, (wr.alloc ob).cell? ⟨nb, 1, none⟩ = some (.slice (some ⟨qb, qo, none⟩) qn cq) := fun ob => by
            rw [World.cell?_alloc_lt _ _ _ (by show nb < _; omega), cell_of_row _ _ _ _ _ _ HNB.out.1]
            rfl
          have CA : ∀ w', Below wr.heap.size wr w' → Calls Try.prog 26 #[.agg #[.int .i64 r.c, .bool r.m, .int .i64 r.n, .slice Ab1 r.b.length cb1, .slice Ak1 r.kids.length ck1], .agg #[.int .i64 r.c, .bool r.m, .int .i64 r.n, .slice Ab2 r.b.length cb2, .slice Ak2 r.kids.length ck2]] w' fun en w'' => en = .returned (.bool true) ∧ Below w'.heap.size w' w'' := fun w' hb => by
            have := alike_el r r w' Ab1 Ab2 Ak1 Ak2 cb1 cb2 ck1 ck2
              ((hin1.keep fun p hp => World.cell?_of_block (kk w' hb _ hp)).more fun b hc => Nat.lt_of_lt_of_le hc.lt (Nat.le_trans hs02 hb.size))
              ((hin2.keep fun p hp => World.cell?_of_block (kk w' hb _ hp)).more fun b hc => Nat.lt_of_lt_of_le hc.lt (Nat.le_trans hs02 hb.size)) hrb.1 hrb.1
            rwa [El.head_self] at this
          have hkid1 := fun h0 => kid_of (p := (pb, po, qn)) (j := j) hat1 hin1 h0
          have hkid2 := fun h0 => kid_of (p := (qb, qo, qn)) (j := j) hat2 hin2 h0
          have hkle1 := hin1.k.le
          have hkle2 := hin2.k.le
          have hk91 := hin1.k.big
          have hk92 := hin2.k.big
          have hrk : r.k.byt := hrb.2
          obtain ⟨Kn, hKn⟩ : ∃ Kn, Kn = r.kids.length := ⟨_, rfl⟩
          have hKl : r.k.list.length = Kn := hKn.symm
          rw [hKl] at hkle1 hkle2
          rw [← hKn] at a4 CA hkid1 hkid2
          simp only [← hKn] at b4
          have j0 : (0 : Int) ≤ (j : Int) := by omega
          have j1 : (j : Int) < (qn : Int) := by omega
          have q1 : qn ≤ cp := e1
          have q2 : qn ≤ cq := e3
          clear kw1 kw2 hin1 hin2 hat1 hat2 hc1 hc2
          replace hg0 := Lib.hid hg0
          replace kk := Lib.hid kk
          replace CA := Lib.hid CA
          replace hkid1 := Lib.hid hkid1
          replace hkid2 := Lib.hid hkid2
          replace hkz2 := Lib.hid hkz2
          replace hkm := Lib.hid hkm
          replace hrb := Lib.hid hrb
          replace hrk := Lib.hid hrk
          replace hKn := Lib.hid hKn
          replace hKl := Lib.hid hKl
          replace kb := Lib.hid kb
          go_wp2_with fail
          obtain ⟨W2, hW2⟩ : ∃ W2, W2 = (wr.alloc (.cells #[.int .i64 r.c, .bool r.m, .int .i64 r.n, .slice Ab1 r.b.length cb1, .slice Ak1 Kn ck1] 27)).alloc (.cells #[.int .i64 r.c, .bool r.m, .int .i64 r.n, .slice Ab2 r.b.length cb2, .slice Ak2 Kn ck2] 27) := ⟨_, rfl⟩
          have hX2 : W2.heap[wr.heap.size]? = some (.cells #[.int .i64 r.c, .bool r.m, .int .i64 r.n, .slice Ab1 r.b.length cb1, .slice Ak1 Kn ck1] 27 (0, 0)) := by
            rw [hW2, Below.heap_alloc _ _ _ (by simp)]
            exact heap_alloc_new wr _
          have hY2 : W2.heap[wr.heap.size + 1]? = some (.cells #[.int .i64 r.c, .bool r.m, .int .i64 r.n, .slice Ab2 r.b.length cb2, .slice Ak2 Kn ck2] 27 (0, 0)) := by
            rw [hW2]
            exact heap_alloc_new (wr.alloc _) _ |> (by simpa using ·)
          have hs2 : W2.heap.size = wr.heap.size + 2 := by rw [hW2]; simp
          have hBW2 : Below wr.heap.size wr W2 := by rw [hW2]; go_grown
          rw [← hW2]
          clear hW2 a0 a1 a2 a3 a4 b0 b1 b2 b3 b4 n1
          refine (CA.out W2 hBW2).mono ?_
          rintro en w3 ⟨rfl, hb3⟩
          dsimp only []
          have hs3 := hb3.size
          have hX3 : w3.heap[wr.heap.size]? = some (.cells #[.int .i64 r.c, .bool r.m, .int .i64 r.n, .slice Ab1 r.b.length cb1, .slice Ak1 Kn ck1] 27 (0, 0)) := (hb3.block _ (by omega)).trans hX2
          have hY3 : w3.heap[wr.heap.size + 1]? = some (.cells #[.int .i64 r.c, .bool r.m, .int .i64 r.n, .slice Ab2 r.b.length cb2, .slice Ak2 Kn ck2] 27 (0, 0)) := (hb3.block _ (by omega)).trans hY2
          have hB3 : Below wr.heap.size wr w3 := hBW2.trans (hb3.mono (by omega))
          have hI3 := Lib.hid (HI.out.move hB3)
          have hnb3 := Lib.hid ((hB3.block _ hnb).trans HNB.out.1)
          have hnb39 : nb < w3.heap.size := by omega
          obtain ⟨x0, x1, x2, x3, x4, _⟩ := cells5 hX3
          obtain ⟨y0, y1, y2, y3, y4, _⟩ := cells5 hY3
          replace hX2 := Lib.hid hX2
          replace hY2 := Lib.hid hY2
          replace hX3 := Lib.hid hX3
          replace hY3 := Lib.hid hY3
          replace hB3 := Lib.hid hB3
          replace hb3 := Lib.hid hb3
          replace hBW2 := Lib.hid hBW2
          clear CA
          by_cases hk0 : Kn = 0
          · have kd : decide (0 < (Kn : Int)) = false := decide_eq_false (by omega)
            have HS3 := Lib.hid ((hI3.out.move (Below.refl _ _).drew).weaken (S' := szT P' + kidsz (f.list.take (j + 1))) (by have := hkz2.out; omega))
            have HN3 := Lib.hid (And.intro ((show w3.drew.heap[nb]? = w3.heap[nb]? from rfl).trans hnb3.out) HNB.out.2)
            go_wp2_with fail
            go_region
            go_wp2_with fail
            go_roundw
            case rel => exact ⟨j + 1, P2, A2, c2, by omega, by go_num, rfl, HS3, HN3⟩
            case measure => simp [intOf]; omega
          · obtain ⟨b, o, rfl, _, hlk1⟩ := hkid1.out (by omega)
            obtain ⟨b', o', rfl, _, hlk2⟩ := hkid2.out (by omega)
            have kd : decide (0 < (Kn : Int)) = true := decide_eq_true (by omega)
            have kd2 : decide (0 < Kn) = true := decide_eq_true (by omega)
            have kd3 : 0 < Kn := by omega
            obtain ⟨M, hM, hMc⟩ := hI3.out.map
            obtain ⟨v, hv⟩ : ∃ v : Bool, v = decide (((b, o, Kn), (b', o', Kn)) ∉ M) := ⟨_, rfl⟩
            have CP1 : ∀ w', Below w3.heap.size w3 w' → Calls Try.prog 28 #[.slice (some ⟨b, o, none⟩) Kn ck1] w' fun en w'' => en = .returned (.agg #[.pointer (some ⟨b, o, none⟩), .int .i64 (Kn : Int)]) ∧ Below w3.heap.size w3 w'' := fun w' hb => (placeOf_any b o Kn ck1 w' (by omega)).mono fun en w'' ⟨h1, h2⟩ => ⟨h1, hb.trans (h2.mono hb.size)⟩
            have CP2 : ∀ w', Below w3.heap.size w3 w' → Calls Try.prog 28 #[.slice (some ⟨b', o', none⟩) Kn ck2] w' fun en w'' => en = .returned (.agg #[.pointer (some ⟨b', o', none⟩), .int .i64 (Kn : Int)]) ∧ Below w3.heap.size w3 w'' := fun w' hb => (placeOf_any b' o' Kn ck2 w' (by omega)).mono fun en w'' ⟨h1, h2⟩ => ⟨h1, hb.trans (h2.mono hb.size)⟩
            have CEN : ∀ w', Below w3.heap.size w3 w' → Calls Try.prog 27 #[.map (some (w.heap.size + 2)), .agg #[.pointer (some ⟨b, o, none⟩), .int .i64 (Kn : Int), .pointer (some ⟨b', o', none⟩), .int .i64 (Kn : Int)]] w' fun en w'' => en = .returned (.bool v) ∧ SRel W0 w'' (w.heap.size + 2) (.slice A2 P2.length c2) P2 (szT P' + kidsz (f.list.take j)) ∧ (∀ bl, Cl w3 bl → w''.heap[bl]? = w3.heap[bl]?) ∧ w3.heap.size ≤ w''.heap.size := fun w' hb => by
              have hmv := hI3.out.move hb
              have hg3 := hmv.grown
              have hcl : cl2 w' ((b, o, Kn), (b', o', Kn)) := ⟨Cl.grown hlk1.cl hg3 hmap00.out, Cl.grown hlk2.cl hg3 hmap00.out⟩
              refine (enter2_any ((b, o, Kn), (b', o', Kn)) _ M w' (hM.below2 hb) hcl).mono ?_
              rintro en w'' ⟨rfl, h1, h2⟩
              refine ⟨by rw [hv], hmv.turn hMc ⟨hlk1.cl, hlk2.cl⟩ h1 h2, fun bl hc => ?_, Nat.le_trans hb.size h2.size⟩
              exact (grown_cl h2 hmv.isMap (hc.below hb hc.lt)).trans (hb.block bl hc.lt)
            have KEEP : Hid (∀ W, Below w3.heap.size w3 W → (fun W => W.cell? ⟨wr.heap.size, 4, none⟩ = some (.slice (some ⟨b, o, none⟩) Kn ck1) ∧ W.cell? ⟨wr.heap.size + 1, 4, none⟩ = some (.slice (some ⟨b', o', none⟩) Kn ck2)) W) := Lib.hid fun W hb => ⟨(hb.cell (p := ⟨wr.heap.size, 4, none⟩) (by show wr.heap.size < _; omega)).trans x4, (hb.cell (p := ⟨wr.heap.size + 1, 4, none⟩) (by show wr.heap.size + 1 < _; omega)).trans y4⟩
            have KEEP2 : Hid (∀ W : World, (∀ bl, Cl w3 bl → W.heap[bl]? = w3.heap[bl]?) → (fun W => W.cell? ⟨wr.heap.size, 4, none⟩ = some (.slice (some ⟨b, o, none⟩) Kn ck1) ∧ W.cell? ⟨wr.heap.size + 1, 4, none⟩ = some (.slice (some ⟨b', o', none⟩) Kn ck2)) W) := Lib.hid fun W hb => ⟨(World.cell?_of_block (hb _ ⟨_, _, hX3.out⟩)).trans x4, (World.cell?_of_block (hb _ ⟨_, _, hY3.out⟩)).trans y4⟩
            replace hM := Lib.hid hM
            replace hMc := Lib.hid hMc
            replace hv := Lib.hid hv
            replace CP1 := Lib.hid CP1
            replace CP2 := Lib.hid CP2
            replace CEN := Lib.hid CEN
            replace hlk1 := Lib.hid hlk1
            replace hlk2 := Lib.hid hlk2
            clear hkid1 hkid2
            cases v
            · go_wp2_with fail
              go_region_held_law (fun W => W.cell? ⟨wr.heap.size, 4, none⟩ = some (.slice (some ⟨b, o, none⟩) Kn ck1) ∧ W.cell? ⟨wr.heap.size + 1, 4, none⟩ = some (.slice (some ⟨b', o', none⟩) Kn ck2)) (first | go_keep | exact KEEP.out _ HBa.out | exact KEEP2.out _ HQ.out)
                (first
                  | (go_at_call 28; (with_reducible refine (CP1.out _ (by first | exact (Below.refl _ _).drew | exact (Below.refl _ _).drew.drew | exact HBa.out | exact HBa.out.drew | exact HBa.out.drew.drew)).mono ?_); rintro en w4 ⟨rfl, hb4⟩; have HBa := Lib.hid hb4; clear hb4)
                  | (go_at_call 28; (with_reducible refine (CP2.out _ (by first | exact (Below.refl _ _).drew | exact (Below.refl _ _).drew.drew | exact HBa.out | exact HBa.out.drew | exact HBa.out.drew.drew)).mono ?_); rintro en w4 ⟨rfl, hb4⟩; have HBa := Lib.hid hb4; clear hb4)
                  | (go_at_call 27; refine (CEN.out _ (by first | exact HBa.out.drew | exact HBa.out.drew.drew | exact HBa.out)).mono ?_; rintro en w5 ⟨rfl, hS5, hk5, hz5⟩; have HS5 := Lib.hid hS5; have HQ := Lib.hid hk5; have hz5 := hz5; clear hS5 hk5))
              all_goals
                have HS6 := Lib.hid (HS5.out.weaken (S' := szT P' + kidsz (f.list.take (j + 1))) (by have := hkz2.out; omega))
                have HN6 := Lib.hid (And.intro ((HQ.out _ ⟨_, _, hnb3.out⟩).trans hnb3.out) HNB.out.2)
                go_wp2_with fail
                go_roundw
                case rel => exact ⟨j + 1, P2, A2, c2, by omega, by go_num, rfl, HS6, HN6⟩
                case measure => simp [intOf]; omega
            · go_wp2_with fail
              go_region_held_law (fun W => W.cell? ⟨wr.heap.size, 4, none⟩ = some (.slice (some ⟨b, o, none⟩) Kn ck1) ∧ W.cell? ⟨wr.heap.size + 1, 4, none⟩ = some (.slice (some ⟨b', o', none⟩) Kn ck2)) (first | go_keep | exact KEEP.out _ HBa.out | exact KEEP2.out _ HQ.out)
                (first
                  | (go_at_call 28; (with_reducible refine (CP1.out _ (by first | exact (Below.refl _ _).drew | exact (Below.refl _ _).drew.drew | exact HBa.out | exact HBa.out.drew | exact HBa.out.drew.drew)).mono ?_); rintro en w4 ⟨rfl, hb4⟩; have HBa := Lib.hid hb4; clear hb4)
                  | (go_at_call 28; (with_reducible refine (CP2.out _ (by first | exact (Below.refl _ _).drew | exact (Below.refl _ _).drew.drew | exact HBa.out | exact HBa.out.drew | exact HBa.out.drew.drew)).mono ?_); rintro en w4 ⟨rfl, hb4⟩; have HBa := Lib.hid hb4; clear hb4)
                  | (go_at_call 27; refine (CEN.out _ (by first | exact HBa.out.drew | exact HBa.out.drew.drew | exact HBa.out)).mono ?_; rintro en w5 ⟨rfl, hS5, hk5, hz5⟩; have HS5 := Lib.hid hS5; have HQ := Lib.hid hk5; have hz5 := hz5; clear hS5 hk5))
              all_goals
                have hX5 := (HQ.out _ ⟨_, _, hX3.out⟩).trans hX3.out
                have hY5 := (HQ.out _ ⟨_, _, hY3.out⟩).trans hY3.out
                have hN5 := Lib.hid ((HQ.out _ ⟨_, _, hnb3.out⟩).trans hnb3.out)
                obtain ⟨cs, hown3, hrow3⟩ := HS5.out.own
                have hV : ∀ b, (Value.slice A2 P2.length c2).ownBlock = some b → W0.heap.size ≤ b := fun b hb => by
                  obtain ⟨_, h0 | ⟨g, cap, cur, hv, hbs, _⟩⟩ := hown3
                  · rw [h0.1] at hb
                    cases hb
                  · rw [hv] at hb
                    injection hb with hb
                    have hb' : g = b := hb
                    omega
                have hplen : P2.length ≤ 1000000 := by
                  have h1 := szT_len W0 P2 fun x hx => (HS5.out.lst x hx).1
                  have h2 := HS5.out.sz
                  have h3 := kidsz_mono f.list j
                  omega
                have hb5 := heap_alloc_new w5 (.cells #[.slice (some ⟨b, o, none⟩) Kn ck1, .slice (some ⟨b', o', none⟩) Kn ck2] 60)
                have hsz5 : W0.heap.size ≤ w5.heap.size := HS5.out.grown.size
                have FR : Hid (∀ (w6 : World) (g cap : Nat), w6.ownsRow W0.heap.size 60 2 (.slice (some ⟨g, 0, none⟩) (P2.length + 1) cap) (P2.length + 1) (cs ++ [.slice (some ⟨b, o, none⟩) Kn ck1, .slice (some ⟨b', o', none⟩) Kn ck2]) → (w5.alloc (.cells #[.slice (some ⟨b, o, none⟩) Kn ck1, .slice (some ⟨b', o', none⟩) Kn ck2] 60)).grownBy w6 (Value.slice A2 P2.length c2).ownBlock → ((Value.slice A2 P2.length c2).ownBlock = some g ∨ g = w5.heap.size + 1) →
                    SRel W0 w6 (w.heap.size + 2) (.slice (some ⟨g, 0, none⟩) (P2.length + 1) cap) (P2 ++ [(((b, o, Kn), (b', o', Kn)), r.k)]) (szT P' + kidsz (f.list.take (j + 1))) ∧ (w6.heap[nb]? = some (.cells #[.slice (some ⟨pb, po, none⟩) qn cp, .slice (some ⟨qb, qo, none⟩) qn cq] 60 (0, 0)) ∧ ∀ x, (Value.slice (some ⟨g, 0, none⟩) (P2.length + 1) cap).ownBlock = some x → x ≠ nb)) := Lib.hid fun w6 g cap h1 h2 h3 => by
                  refine ⟨(HS5.out.push hmap00.out hrow3 hlk1.out hlk2.out hrk.out hkle1 hk91 hkle2 hk92 h1 h2 hV).weaken (by have := hkz2.out; omega), ?_, fun x hx => ?_⟩
                  · rw [h2.block nb (by simp; omega) (fun e => HNB.out.2 nb e.symm rfl), Below.heap_alloc _ _ _ (by omega)]
                    exact hN5.out
                  · injection hx with hx
                    have hx' : g = x := hx
                    subst hx'
                    rcases h3 with h3 | h3
                    · exact HNB.out.2 _ h3
                    · omega
                obtain ⟨x0, x1, x2, x3, x4, _⟩ := cells5 hX5
                obtain ⟨y0, y1, y2, y3, y4, _⟩ := cells5 hY5
                have hn5 := World.news_of_block (cs := #[.slice (some ⟨b, o, none⟩) Kn ck1, .slice (some ⟨b', o', none⟩) Kn ck2]) (fr := (0, 0)) hb5
                replace hX5 := Lib.hid hX5
                replace hY5 := Lib.hid hY5
                replace hown3 := Lib.hid hown3
                replace hrow3 := Lib.hid hrow3
                replace hV := Lib.hid hV
                replace hb5 := Lib.hid hb5
                replace hn5 := Lib.hid hn5
                go_wp2_with (at_builtin; refine wpList_append_lies _ rfl (.tmp 64) (.tmp 70) 61 rfl W0.heap.size 60 j0' _ 2 48 Try.underlying61 hji hjz0 hjz1 hjz2 rfl (by decide) (.slice A2 P2.length c2) P2.length cs rfl (World.ownsRow.alloc hown3.out _) ⟨w5.heap.size, 0, none⟩ 1 1 [.slice (some ⟨b, o, none⟩) Kn ck1, .slice (some ⟨b', o', none⟩) Kn ck2] rfl rfl hn5.out (by intro u hu; simp only [List.mem_cons, List.not_mem_nil, or_false] at hu; rcases hu with rfl | rfl <;> rfl) (by decide) (by simp only [maxLen]; omega) (by omega) (by simp; omega) (w5.heap.size + 1) (by simp) ?hgo)
                case hgo =>
                  intro g9 cap9 w6 hown hg6 hat6 hgl
                  have HN := FR.out w6 g9 cap9 hown hg6 hat6
                  have HN1 := Lib.hid HN.1
                  have HN2 := Lib.hid HN.2
                  replace hown := Lib.hid hown
                  replace hg6 := Lib.hid hg6
                  replace HN := Lib.hid HN
                  clear hat6
                  have hkl2 : (P2 ++ [(((b, o, Kn), (b', o', Kn)), r.k)]).length = P2.length + 1 := by simp
                  go_wp2_with fail
                  go_roundw
                  case rel => exact ⟨j + 1, P2 ++ [(((b, o, Kn), (b', o', Kn)), r.k)], some ⟨g9, 0, none⟩, cap9, by omega, by go_num, by rw [hkl2], by rw [hkl2]; exact HN1, by rw [hkl2]; exact HN2⟩
                  case measure => simp [intOf]; omega
        · have hjj : j = qn := by omega
          have HX := Lib.hid (HI.out.weaken (S' := szT P' + kidsz f.list) (by have := kidsz_mono f.list j; omega))
          have hlt9 : szT P' + kidsz f.list < gk := by have := hfl.out; omega
          have l0 : decide (j < qn) = false := decide_eq_false (by omega)
          have l1 : decide ((j : Int) < (qn : Int)) = false := decide_eq_false (by omega)
          clear HI HNB
          go_wp2_with fail
          go_roundg (szT P' + kidsz f.list)
          case measure => exact hlt9
          case rel => exact ⟨P2, A2, c2, rfl, by omega, HX⟩
end Go.Proofs.Ytgdoepkoakpnbaa


/-! The walk of BerAgain. -/
namespace Go.Proofs.Ytgdoepkoakpnbaa
open Go.RowKit

theorem parse_byt : ∀ (f : Nat), (∀ (l : List Nat) (d : Nat), (∀ x ∈ l, x < 256) → (inP f l d).1.byt) ∧ (∀ (l : List Nat) (d : Nat), (∀ x ∈ l, x < 256) → ∀ k ∈ (rowP f l d).1, k.byt) := by
  have z : el0.byt := ⟨(fun x hx => by cases hx), trivial⟩
  intro f
  induction f with
  | zero =>
    constructor
    · intro l d _
      rw [inP]
      exact z
    · intro l d _ k hk
      rw [rowP] at hk
      cases hk
  | succ f ih =>
    obtain ⟨ih1, ih2⟩ := ih
    constructor
    · intro l d hb
      have hbi : ∀ x ∈ (l.take (hdT l).1).drop (hdT l).2.1, x < 256 := fun x hx => hb x (List.mem_of_mem_take (List.mem_of_mem_drop hx))
      rw [inP]
      split
      · exact ⟨hbi, trivial⟩
      · split
        · exact z
        · exact ⟨(fun x hx => by cases hx), byt_of _ (ih2 _ d hbi)⟩
    · intro l d hb
      rw [rowP]
      repeat' split
      all_goals first | (intro k hk; cases hk; done) | skip
      intro k hk
      rcases List.mem_cons.1 hk with rfl | hk
      · exact ih1 _ _ fun x hx => hb x (List.mem_of_mem_take hx)
      · exact ih2 _ _ (fun x hx => hb x (List.mem_of_mem_drop hx)) k hk
theorem parP_byt (l : List Nat) (hb : ∀ x ∈ l, x < 256) : (parP l).1.byt := by
  have z : el0.byt := ⟨(fun x hx => by cases hx), trivial⟩
  unfold parP
  repeat' split
  all_goals first | exact z | skip
  exact (parse_byt _).1 _ _ fun x hx => hb x (List.mem_of_mem_take hx)
theorem El.same_self0 (e : El) : e.same e = true := by
  unfold El.same
  simp [Fo.same_iff]

theorem parP_err (l : List Nat) (h : (parP l).2.2 ≠ 0) : (parP l).2.1 = 0 := by
  unfold parP at h ⊢
  repeat' split
  all_goals first | rfl | skip
  rename_i h1 h2 h3
  rw [if_neg h1, if_neg h2, if_neg h3] at h
  exact absurd rfl h
theorem parP_147 : parP [4, 1, 7] = (⟨0, false, 4, [7], .nil⟩, 3, 0) := by rfl

theorem sum_flat (g : El → Nat) (h : El → List Nat) : ∀ l : List El, (∀ e ∈ l, g e ≤ (h e).length) → sumL (l.map g) ≤ (l.flatMap h).length
  | [], _ => by simp [sumL]
  | a :: l, hl => by
    have h1 := sum_flat g h l fun e he => hl e (List.mem_cons_of_mem _ he)
    have h2 := hl a (List.mem_cons_self ..)
    rw [List.map_cons, sumL_cons, List.flatMap_cons, List.length_append]
    omega
/-- An element is no greater than its bytes are many. -/
theorem size_enc (e : El) : e.right = true → e.size + 1 ≤ e.enc.length := by
  induction e using El.ind with
  | h e ih =>
  intro hr
  rw [El.right_kids, Bool.and_eq_true, List.all_eq_true] at hr
  obtain ⟨h1, h2⟩ := hr
  obtain ⟨_, h3, h4⟩ := (one_right e).1 h1
  have ht := tagB_pos e.c e.n e.m
  have hl := lenB_pos (e.inner.length : Int) (by omega)
  rw [El.size_kids, El.enc_len]
  cases hm : e.m
  · have hk : e.kids = [] := List.eq_nil_of_length_eq_zero (h3 hm)
    have hi : e.inner = e.b := by unfold El.inner; rw [hm]; rfl
    rw [hm] at ht
    rw [hi] at hl ⊢
    rw [hk]
    simp [sumL]
    omega
  · have hb := h4 hm
    rw [hm] at ht
    have hi : e.inner = e.kids.flatMap El.enc := El.inner_made e hm
    have := sum_flat El.size El.enc e.kids fun k hk => by have := ih k hk (h2 k hk); omega
    rw [← hi] at this
    omega
theorem parP_small (l : List Nat) (hb : ∀ x ∈ l, x < 256) : (parP l).1.size < 30000 ∧ (parP l).1.deep ≤ 24 := by
  by_cases h : (parP l).2.2 = 0
  · obtain ⟨h1, h2, h3, _, h5⟩ := parP_ok l hb h
    have := size_enc _ h1
    exact ⟨by omega, h2⟩
  · have : (parP l).1 = el0 := by
      unfold parP at h ⊢
      repeat' split
      all_goals first | rfl | skip
      rename_i h1 h2 h3
      rw [if_neg h1, if_neg h2, if_neg h3] at h
      exact absurd rfl h
    rw [this]
    decide
theorem flat_lek (h : El → List Nat) : ∀ l : List El, ∀ k ∈ l, (h k).length ≤ (l.flatMap h).length
  | [], k, hk => by cases hk
  | a :: l, k, hk => by
    rw [List.flatMap_cons, List.length_append]
    rcases List.mem_cons.1 hk with rfl | hk
    · omega
    · have := flat_lek h l k hk
      omega
theorem enc_byte (e : El) : e.right = true → e.byt → e.enc.length ≤ 9223372036854775807 → ∀ x ∈ e.enc, x < 256 := by
  induction e using El.ind with
  | h e ih =>
  intro hr hb hl x hx
  rw [El.right_kids, Bool.and_eq_true, List.all_eq_true] at hr
  obtain ⟨h1, h2⟩ := hr
  obtain ⟨h3, _, _⟩ := (one_right e).1 h1
  have he : e.enc = tagB e.c e.m e.n ++ lenB (e.inner.length : Int) ++ e.inner := rfl
  rw [he] at hx hl
  rw [List.length_append, List.length_append] at hl
  rcases List.mem_append.1 hx with hx | hx
  · rcases List.mem_append.1 hx with hx | hx
    · exact tagB_byte e.c e.n e.m h3 x hx
    · exact lenB_byte _ (by omega) x hx
  · cases hm : e.m
    · have hi : e.inner = e.b := by unfold El.inner; rw [hm]; rfl
      rw [hi] at hx
      exact hb.1 x hx
    · rw [El.inner_made e hm] at hx hl
      obtain ⟨k, hk, hxk⟩ := List.mem_flatMap.1 hx
      have := flat_lek El.enc e.kids k hk
      exact ih k hk (h2 k hk) (Fo.byt_mem hb.2 k hk) (by omega) x hxk


set_option maxRecDepth 8000 in
set_option maxHeartbeats 1600000 in
theorem again_yes (A : Option Addr) (cp L : Nat) (l : List Nat) (w : World) (hs : Src w w.heap.size A cp l) (hcp : cp ≤ 9223372036854775807) (hby : ∀ x ∈ l, x < 256) (hL : l.length = L) (hl : L ≤ 20000) (he : (parP l).2.2 = 0) :
    Calls Try.prog 6 #[.slice A L cp] w fun e w' => e = .returned (.bool true) ∧ Below w.heap.size w w' := by
  obtain ⟨h1, h2, h3, h4, h5⟩ := parP_ok l hby he
  have hbx := parP_byt l hby
  obtain ⟨hsm, _⟩ := parP_small l hby
  have CP := par_any A cp l w w.heap.size hs (Nat.le_refl _) (by omega) hcp hby
  obtain ⟨⟨x, n, e0⟩, hq⟩ : ∃ q, q = parP l := ⟨_, rfl⟩
  rw [← hq] at h1 h2 h3 h4 h5 hbx CP he hsm
  simp only [] at h1 h2 h3 h4 h5 hbx CP he hsm
  subst he
  have hput : x.put = (x.enc, 0) := by
    unfold El.put
    rw [if_neg (by simp [h1]), if_neg (by omega), if_neg (by omega)]
  have hback : parP x.enc = (x, x.enc.length, 0) := by
    have := parP_back x h1 h2 (by omega) []
    rwa [List.append_nil] at this
  have henc := enc_byte x h1 hbx (by omega)
  rw [hL] at CP h4
  replace CP := Lib.hid CP
  have k0 : decide (20000 < (L : Int)) = false := decide_eq_false (by omega)
  clear hq hs hL
  go_enter Try.func6, Try.ntmps6
  go_wp2_with fail
  refine CP.out.mono ?_
  rintro en w1 ⟨Ab, cb, Ak, ck, rfl, hin, hb1⟩
  unfold elV
  dsimp only []
  have hs1 := hb1.size
  have hin1 : ElIn w1 (Cl w1) x Ab cb Ak ck := hin.more fun b hb => hb.2
  have hin2 : ∀ ob : Obj, ElIn (w1.alloc ob) (Cl w1) x Ab cb Ak ck := fun ob => hin1.keep fun p hp => World.cell?_alloc_lt _ _ _ hp.lt
  have CU : ∀ ob : Obj, Calls Try.prog 10 #[.agg #[.int .i64 x.c, .bool x.m, .int .i64 x.n, .slice Ab x.b.length cb, .slice Ak x.kids.length ck]] (w1.alloc ob) fun en w' => ∃ A' c', en = .returned (.tuple #[.slice A' x.enc.length c', .int .i64 0]) ∧ Src w' w'.heap.size A' c' x.enc ∧ c' ≤ 9223372036854775807 ∧ Below (w1.heap.size + 1) (w1.alloc ob) w' := by
    intro ob
    have := putp_el x (w1.alloc ob) Ab cb Ak ck ((hin2 ob).more fun b hb => hb.alloc ob) (by omega)
    rw [hput] at this
    unfold elV PutQ at this
    simpa using this
  replace hb1 := Lib.hid hb1
  replace hin := Lib.hid hin
  replace hin1 := Lib.hid hin1
  replace hin2 := Lib.hid hin2
  replace CU := Lib.hid CU
  go_wp2_with fail
  refine (CU.out _).mono ?_
  rintro en w2 ⟨A2, c2, rfl, hs2, hc2, hb2⟩
  dsimp only []
  have hsz2 := hb2.size
  have hw1 : (w1.alloc (.cells #[.int .i64 x.c, .bool x.m, .int .i64 x.n, .slice Ab x.b.length cb, .slice Ak x.kids.length ck] 27)).heap.size = w1.heap.size + 1 := by simp
  have CV := par_any A2 c2 x.enc w2 w2.heap.size hs2 (Nat.le_refl _) (by omega) hc2 henc
  rw [hback] at CV
  have hbox : w2.heap[w1.heap.size]? = some (.cells #[.int .i64 x.c, .bool x.m, .int .i64 x.n, .slice Ab x.b.length cb, .slice Ak x.kids.length ck] 27 (0, 0)) := (hb2.block _ (by omega)).trans (heap_alloc_new w1 _)
  have hsz2' : w1.heap.size + 1 ≤ w2.heap.size := by omega
  have hin3 : ElIn w2 (Cl w1) x Ab cb Ak ck := (hin2.out _).keep fun p hp => hb2.cell (by have := hp.lt; omega)
  have hc12 : ∀ b, Cl w1 b → Cl w2 b := fun b hb => hb.of ((hb2.block _ (by have := hb.lt; omega)).trans (Below.heap_alloc _ _ _ hb.lt))
  have hB2 : Below w.heap.size w w2 := (hb1.out.alloc hs1 _).trans (hb2.mono (by omega))
  replace hbox := Lib.hid hbox
  replace CV := Lib.hid CV
  replace hs2 := Lib.hid hs2
  replace hb2 := Lib.hid hb2
  replace hB2 := Lib.hid hB2
  replace hin3 := Lib.hid hin3
  replace hc12 := Lib.hid hc12
  replace henc := Lib.hid henc
  clear hin2 CU CP hw1 hsz2
  go_wp2_with fail
  refine CV.out.mono ?_
  rintro en w3 ⟨Ab3, cb3, Ak3, ck3, rfl, hy, hb3⟩
  unfold elV
  dsimp only []
  have hsz3 := hb3.size
  have hbox3 : ∀ ob : Obj, (w3.alloc ob).heap[w1.heap.size]? = some (.cells #[.int .i64 x.c, .bool x.m, .int .i64 x.n, .slice Ab x.b.length cb, .slice Ak x.kids.length ck] 27 (0, 0)) := fun ob => by
    rw [Below.heap_alloc _ _ _ (by omega), hb3.block _ (by omega)]
    exact hbox.out
  obtain ⟨x0, x1, x2, x3, x4, _⟩ := cells5A hbox3
  have CS : ∀ ob : Obj, Calls Try.prog 12 #[.agg #[.int .i64 x.c, .bool x.m, .int .i64 x.n, .slice Ab x.b.length cb, .slice Ak x.kids.length ck], .agg #[.int .i64 x.c, .bool x.m, .int .i64 x.n, .slice Ab3 x.b.length cb3, .slice Ak3 x.kids.length ck3]] (w3.alloc ob) fun en w' => en = .returned (.bool true) ∧ Below w.heap.size w w' := by
    intro ob
    have hc13 : ∀ b, Cl w1 b → (w3.alloc ob).heap[b]? = w2.heap[b]? := fun b hb => by
      have := hb.lt
      rw [Below.heap_alloc _ _ _ (by omega), hb3.block _ (by omega)]
    have g := same_twin x x.b.length x.kids.length (w3.alloc ob) Ab Ab3 cb cb3 Ak Ak3 ck ck3
      ((hin3.out.keep fun p hp => World.cell?_of_block (hc13 _ hp)).more fun b hb => (hc12.out b hb).of (hc13 b hb))
      ((hy.keep fun p hp => World.cell?_alloc_lt _ _ _ hp.2.lt).more fun b hb => hb.2.alloc ob) hbx (by omega) rfl rfl
    refine g.mono ?_
    rintro en w4 ⟨h8, h9⟩
    exact ⟨h8, (hB2.out.trans ((hb3.mono (by omega)).alloc (by omega) ob)).trans (h9.mono (by simp; omega))⟩
  have k1 : decide ((n : Int) ≤ (L : Int)) = true := decide_eq_true (by omega)
  have k2 : decide ((x.enc.length : Int) ≤ (n : Int)) = true := decide_eq_true (by omega)
  replace CS := Lib.hid CS
  replace hbx := Lib.hid hbx
  clear hbox3 CV
  go_wp2_with fail
  refine (CS.out _).mono ?_
  rintro en w4 ⟨rfl, hb4⟩
  dsimp only []
  replace hb4 := Lib.hid hb4
  go_wp2_with fail
  go_returns
  exact ⟨rfl, hb4.out⟩

set_option maxRecDepth 8000 in
set_option maxHeartbeats 1600000 in
theorem again_no (A : Option Addr) (cp L : Nat) (l : List Nat) (w : World) (hs : Src w w.heap.size A cp l) (hcp : cp ≤ 9223372036854775807) (hby : ∀ x ∈ l, x < 256) (hL : l.length = L) (hl : L ≤ 20000) (he : (parP l).2.2 ≠ 0) :
    Calls Try.prog 6 #[.slice A L cp] w fun e w' => e = .returned (.bool true) ∧ Below w.heap.size w w' := by
  have hn := parP_err l he
  have CP := par_any A cp l w w.heap.size hs (Nat.le_refl _) (by omega) hcp hby
  obtain ⟨⟨x, n, e0⟩, hq⟩ : ∃ q, q = parP l := ⟨_, rfl⟩
  rw [← hq] at CP he hn
  simp only [] at CP he hn
  subst hn
  rw [hL] at CP
  replace CP := Lib.hid CP
  have k0 : decide (20000 < (L : Int)) = false := decide_eq_false (by omega)
  have ke : ((e0 : Int) != 0) = true := by simp; omega
  clear hq hs hL
  go_enter Try.func6, Try.ntmps6
  go_wp2_with fail
  refine CP.out.mono ?_
  rintro en w1 ⟨Ab, cb, Ak, ck, rfl, hin, hb1⟩
  unfold elV
  dsimp only []
  have hs1 := hb1.size
  have CU : ∀ ob : Obj, Calls Try.prog 17 #[.slice (some ⟨w1.heap.size + 1, 0, none⟩) 3 3] ((w1.alloc ob).alloc (.cells #[.int .u8 4, .int .u8 1, .int .u8 7] 5)) (ParQ (⟨0, false, 4, [7], .nil⟩, 3, 0) ((w1.alloc ob).alloc (.cells #[.int .u8 4, .int .u8 1, .int .u8 7] 5))) := by
    intro ob
    have hsz : ((w1.alloc ob).alloc (.cells #[.int .u8 4, .int .u8 1, .int .u8 7] 5)).heap.size = w1.heap.size + 2 := by simp
    have := par_any (some ⟨w1.heap.size + 1, 0, none⟩) 3 [4, 1, 7] ((w1.alloc ob).alloc (.cells #[.int .u8 4, .int .u8 1, .int .u8 7] 5)) ((w1.alloc ob).alloc (.cells #[.int .u8 4, .int .u8 1, .int .u8 7] 5)).heap.size
      ⟨Nat.le_refl _, (fun e => by cases e), fun ad e => by
        injection e with e
        subst e
        refine ⟨fun _ => by rw [hsz]; show w1.heap.size + 1 < _; omega, fun j n hj => ?_⟩
        rw [add_plain2]
        have hb : ((w1.alloc ob).alloc (.cells #[.int .u8 4, .int .u8 1, .int .u8 7] 5)).heap[w1.heap.size + 1]? = some (.cells #[.int .u8 4, .int .u8 1, .int .u8 7] 5 (0, 0)) := by
          have := heap_alloc_new (w1.alloc ob) (.cells #[.int .u8 4, .int .u8 1, .int .u8 7] 5)
          simpa using this
        rw [cell_of_row _ _ _ _ _ _ hb]
        rcases j with _ | _ | _ | j
        · simp at hj ⊢; omega
        · simp at hj ⊢; omega
        · simp at hj ⊢; omega
        · simp at hj⟩ (Nat.le_refl _) (by simp) (by omega) (by decide)
    rw [parP_147] at this
    exact this
  replace hb1 := Lib.hid hb1
  replace hin := Lib.hid hin
  replace CU := Lib.hid CU
  go_wp2_with fail
  refine (CU.out _).mono ?_
  rintro en w2 ⟨Ab3, cb3, Ak3, ck3, rfl, hy, hb2⟩
  unfold elV
  dsimp only []
  have hsz : ((w1.alloc (.cells #[.int .i64 x.c, .bool x.m, .int .i64 x.n, .slice Ab x.b.length cb, .slice Ak x.kids.length ck] 27)).alloc (.cells #[.int .u8 4, .int .u8 1, .int .u8 7] 5)).heap.size = w1.heap.size + 2 := by simp
  have hs2 := hb2.size
  rw [hsz] at hs2 hb2
  have hB2 : Below w.heap.size w w2 := ((hb1.out.alloc hs1 _).alloc (by simp; omega) _).trans (hb2.mono (by omega))
  have cv : ∀ ob : Obj, (convert 24 9 (.slice Ab3 1 cb3)).run Try.prog (w2.alloc ob) = .ok (.string (strB [7])) (w2.alloc ob) := fun ob =>
    SrcI.conv (hy.b.keep fun p hp => World.cell?_alloc_lt _ _ _ hp.2.lt) fun i hi => by have := hi.2.lt; simp; omega
  replace hB2 := Lib.hid hB2
  replace hb2 := Lib.hid hb2
  replace hy := Lib.hid hy
  clear CU CP hsz
  have k7 : ((strB [7]).toList == [7]) = true := by first | decide | kernel_rfl | (simp [strB]; done)
  go_wp2_with fail
  go_returns
  exact ⟨rfl, hB2.out.alloc (by have := hb1.out.size; omega) _⟩

set_option maxRecDepth 8000 in
set_option maxHeartbeats 1600000 in
theorem again_yes_cut (A : Option Addr) (cp L : Nat) (l : List Nat) (w : World) (hs : Src w w.heap.size A cp l) (hcp : cp ≤ 9223372036854775807) (hby : ∀ x ∈ l, x < 256) (hL : l.length = 20000) (hl : 20000 < L) (hLc : L ≤ cp) (he : (parP l).2.2 = 0) :
    Calls Try.prog 6 #[.slice A L cp] w fun e w' => e = .returned (.bool true) ∧ Below w.heap.size w w' := by
  obtain ⟨h1, h2, h3, h4, h5⟩ := parP_ok l hby he
  have hbx := parP_byt l hby
  obtain ⟨hsm, _⟩ := parP_small l hby
  have CP := par_any A cp l w w.heap.size hs (Nat.le_refl _) (by omega) hcp hby
  obtain ⟨⟨x, n, e0⟩, hq⟩ : ∃ q, q = parP l := ⟨_, rfl⟩
  rw [← hq] at h1 h2 h3 h4 h5 hbx CP he hsm
  simp only [] at h1 h2 h3 h4 h5 hbx CP he hsm
  subst he
  have hput : x.put = (x.enc, 0) := by
    unfold El.put
    rw [if_neg (by simp [h1]), if_neg (by omega), if_neg (by omega)]
  have hback : parP x.enc = (x, x.enc.length, 0) := by
    have := parP_back x h1 h2 (by omega) []
    rwa [List.append_nil] at this
  have henc := enc_byte x h1 hbx (by omega)
  rw [hL] at CP h4
  replace CP := Lib.hid CP
  have k0 : decide (20000 < (L : Int)) = true := decide_eq_true (by omega)
  have hc0 : (20000 : Int) ≤ (cp : Int) := by omega
  clear hq hs hL
  go_enter Try.func6, Try.ntmps6
  go_wp2_with fail
  refine CP.out.mono ?_
  rintro en w1 ⟨Ab, cb, Ak, ck, rfl, hin, hb1⟩
  unfold elV
  dsimp only []
  have hs1 := hb1.size
  have hin1 : ElIn w1 (Cl w1) x Ab cb Ak ck := hin.more fun b hb => hb.2
  have hin2 : ∀ ob : Obj, ElIn (w1.alloc ob) (Cl w1) x Ab cb Ak ck := fun ob => hin1.keep fun p hp => World.cell?_alloc_lt _ _ _ hp.lt
  have CU : ∀ ob : Obj, Calls Try.prog 10 #[.agg #[.int .i64 x.c, .bool x.m, .int .i64 x.n, .slice Ab x.b.length cb, .slice Ak x.kids.length ck]] (w1.alloc ob) fun en w' => ∃ A' c', en = .returned (.tuple #[.slice A' x.enc.length c', .int .i64 0]) ∧ Src w' w'.heap.size A' c' x.enc ∧ c' ≤ 9223372036854775807 ∧ Below (w1.heap.size + 1) (w1.alloc ob) w' := by
    intro ob
    have := putp_el x (w1.alloc ob) Ab cb Ak ck ((hin2 ob).more fun b hb => hb.alloc ob) (by omega)
    rw [hput] at this
    unfold elV PutQ at this
    simpa using this
  replace hb1 := Lib.hid hb1
  replace hin := Lib.hid hin
  replace hin1 := Lib.hid hin1
  replace hin2 := Lib.hid hin2
  replace CU := Lib.hid CU
  go_wp2_with fail
  refine (CU.out _).mono ?_
  rintro en w2 ⟨A2, c2, rfl, hs2, hc2, hb2⟩
  dsimp only []
  have hsz2 := hb2.size
  have hw1 : (w1.alloc (.cells #[.int .i64 x.c, .bool x.m, .int .i64 x.n, .slice Ab x.b.length cb, .slice Ak x.kids.length ck] 27)).heap.size = w1.heap.size + 1 := by simp
  have CV := par_any A2 c2 x.enc w2 w2.heap.size hs2 (Nat.le_refl _) (by omega) hc2 henc
  rw [hback] at CV
  have hbox : w2.heap[w1.heap.size]? = some (.cells #[.int .i64 x.c, .bool x.m, .int .i64 x.n, .slice Ab x.b.length cb, .slice Ak x.kids.length ck] 27 (0, 0)) := (hb2.block _ (by omega)).trans (heap_alloc_new w1 _)
  have hsz2' : w1.heap.size + 1 ≤ w2.heap.size := by omega
  have hin3 : ElIn w2 (Cl w1) x Ab cb Ak ck := (hin2.out _).keep fun p hp => hb2.cell (by have := hp.lt; omega)
  have hc12 : ∀ b, Cl w1 b → Cl w2 b := fun b hb => hb.of ((hb2.block _ (by have := hb.lt; omega)).trans (Below.heap_alloc _ _ _ hb.lt))
  have hB2 : Below w.heap.size w w2 := (hb1.out.alloc hs1 _).trans (hb2.mono (by omega))
  replace hbox := Lib.hid hbox
  replace CV := Lib.hid CV
  replace hs2 := Lib.hid hs2
  replace hb2 := Lib.hid hb2
  replace hB2 := Lib.hid hB2
  replace hin3 := Lib.hid hin3
  replace hc12 := Lib.hid hc12
  replace henc := Lib.hid henc
  clear hin2 CU CP hw1 hsz2
  go_wp2_with fail
  refine CV.out.mono ?_
  rintro en w3 ⟨Ab3, cb3, Ak3, ck3, rfl, hy, hb3⟩
  unfold elV
  dsimp only []
  have hsz3 := hb3.size
  have hbox3 : ∀ ob : Obj, (w3.alloc ob).heap[w1.heap.size]? = some (.cells #[.int .i64 x.c, .bool x.m, .int .i64 x.n, .slice Ab x.b.length cb, .slice Ak x.kids.length ck] 27 (0, 0)) := fun ob => by
    rw [Below.heap_alloc _ _ _ (by omega), hb3.block _ (by omega)]
    exact hbox.out
  obtain ⟨x0, x1, x2, x3, x4, _⟩ := cells5A hbox3
  have CS : ∀ ob : Obj, Calls Try.prog 12 #[.agg #[.int .i64 x.c, .bool x.m, .int .i64 x.n, .slice Ab x.b.length cb, .slice Ak x.kids.length ck], .agg #[.int .i64 x.c, .bool x.m, .int .i64 x.n, .slice Ab3 x.b.length cb3, .slice Ak3 x.kids.length ck3]] (w3.alloc ob) fun en w' => en = .returned (.bool true) ∧ Below w.heap.size w w' := by
    intro ob
    have hc13 : ∀ b, Cl w1 b → (w3.alloc ob).heap[b]? = w2.heap[b]? := fun b hb => by
      have := hb.lt
      rw [Below.heap_alloc _ _ _ (by omega), hb3.block _ (by omega)]
    have g := same_twin x x.b.length x.kids.length (w3.alloc ob) Ab Ab3 cb cb3 Ak Ak3 ck ck3
      ((hin3.out.keep fun p hp => World.cell?_of_block (hc13 _ hp)).more fun b hb => (hc12.out b hb).of (hc13 b hb))
      ((hy.keep fun p hp => World.cell?_alloc_lt _ _ _ hp.2.lt).more fun b hb => hb.2.alloc ob) hbx (by omega) rfl rfl
    refine g.mono ?_
    rintro en w4 ⟨h8, h9⟩
    exact ⟨h8, (hB2.out.trans ((hb3.mono (by omega)).alloc (by omega) ob)).trans (h9.mono (by simp; omega))⟩
  have k1 : decide ((n : Int) ≤ 20000) = true := decide_eq_true (by omega)
  have k2 : decide ((x.enc.length : Int) ≤ (n : Int)) = true := decide_eq_true (by omega)
  replace CS := Lib.hid CS
  replace hbx := Lib.hid hbx
  clear hbox3 CV
  go_wp2_with fail
  refine (CS.out _).mono ?_
  rintro en w4 ⟨rfl, hb4⟩
  dsimp only []
  replace hb4 := Lib.hid hb4
  go_wp2_with fail
  go_returns
  exact ⟨rfl, hb4.out⟩

set_option maxRecDepth 8000 in
set_option maxHeartbeats 1600000 in
theorem again_no_cut (A : Option Addr) (cp L : Nat) (l : List Nat) (w : World) (hs : Src w w.heap.size A cp l) (hcp : cp ≤ 9223372036854775807) (hby : ∀ x ∈ l, x < 256) (hL : l.length = 20000) (hl : 20000 < L) (hLc : L ≤ cp) (he : (parP l).2.2 ≠ 0) :
    Calls Try.prog 6 #[.slice A L cp] w fun e w' => e = .returned (.bool true) ∧ Below w.heap.size w w' := by
  have hn := parP_err l he
  have CP := par_any A cp l w w.heap.size hs (Nat.le_refl _) (by omega) hcp hby
  obtain ⟨⟨x, n, e0⟩, hq⟩ : ∃ q, q = parP l := ⟨_, rfl⟩
  rw [← hq] at CP he hn
  simp only [] at CP he hn
  subst hn
  rw [hL] at CP
  replace CP := Lib.hid CP
  have k0 : decide (20000 < (L : Int)) = true := decide_eq_true (by omega)
  have hc0 : (20000 : Int) ≤ (cp : Int) := by omega
  have ke : ((e0 : Int) != 0) = true := by simp; omega
  clear hq hs hL
  go_enter Try.func6, Try.ntmps6
  go_wp2_with fail
  refine CP.out.mono ?_
  rintro en w1 ⟨Ab, cb, Ak, ck, rfl, hin, hb1⟩
  unfold elV
  dsimp only []
  have hs1 := hb1.size
  have CU : ∀ ob : Obj, Calls Try.prog 17 #[.slice (some ⟨w1.heap.size + 1, 0, none⟩) 3 3] ((w1.alloc ob).alloc (.cells #[.int .u8 4, .int .u8 1, .int .u8 7] 5)) (ParQ (⟨0, false, 4, [7], .nil⟩, 3, 0) ((w1.alloc ob).alloc (.cells #[.int .u8 4, .int .u8 1, .int .u8 7] 5))) := by
    intro ob
    have hsz : ((w1.alloc ob).alloc (.cells #[.int .u8 4, .int .u8 1, .int .u8 7] 5)).heap.size = w1.heap.size + 2 := by simp
    have := par_any (some ⟨w1.heap.size + 1, 0, none⟩) 3 [4, 1, 7] ((w1.alloc ob).alloc (.cells #[.int .u8 4, .int .u8 1, .int .u8 7] 5)) ((w1.alloc ob).alloc (.cells #[.int .u8 4, .int .u8 1, .int .u8 7] 5)).heap.size
      ⟨Nat.le_refl _, (fun e => by cases e), fun ad e => by
        injection e with e
        subst e
        refine ⟨fun _ => by rw [hsz]; show w1.heap.size + 1 < _; omega, fun j n hj => ?_⟩
        rw [add_plain2]
        have hb : ((w1.alloc ob).alloc (.cells #[.int .u8 4, .int .u8 1, .int .u8 7] 5)).heap[w1.heap.size + 1]? = some (.cells #[.int .u8 4, .int .u8 1, .int .u8 7] 5 (0, 0)) := by
          have := heap_alloc_new (w1.alloc ob) (.cells #[.int .u8 4, .int .u8 1, .int .u8 7] 5)
          simpa using this
        rw [cell_of_row _ _ _ _ _ _ hb]
        rcases j with _ | _ | _ | j
        · simp at hj ⊢; omega
        · simp at hj ⊢; omega
        · simp at hj ⊢; omega
        · simp at hj⟩ (Nat.le_refl _) (by simp) (by omega) (by decide)
    rw [parP_147] at this
    exact this
  replace hb1 := Lib.hid hb1
  replace hin := Lib.hid hin
  replace CU := Lib.hid CU
  go_wp2_with fail
  refine (CU.out _).mono ?_
  rintro en w2 ⟨Ab3, cb3, Ak3, ck3, rfl, hy, hb2⟩
  unfold elV
  dsimp only []
  have hsz : ((w1.alloc (.cells #[.int .i64 x.c, .bool x.m, .int .i64 x.n, .slice Ab x.b.length cb, .slice Ak x.kids.length ck] 27)).alloc (.cells #[.int .u8 4, .int .u8 1, .int .u8 7] 5)).heap.size = w1.heap.size + 2 := by simp
  have hs2 := hb2.size
  rw [hsz] at hs2 hb2
  have hB2 : Below w.heap.size w w2 := ((hb1.out.alloc hs1 _).alloc (by simp; omega) _).trans (hb2.mono (by omega))
  have cv : ∀ ob : Obj, (convert 24 9 (.slice Ab3 1 cb3)).run Try.prog (w2.alloc ob) = .ok (.string (strB [7])) (w2.alloc ob) := fun ob =>
    SrcI.conv (hy.b.keep fun p hp => World.cell?_alloc_lt _ _ _ hp.2.lt) fun i hi => by have := hi.2.lt; simp; omega
  replace hB2 := Lib.hid hB2
  replace hb2 := Lib.hid hb2
  replace hy := Lib.hid hy
  clear CU CP hsz
  have k7 : ((strB [7]).toList == [7]) = true := by first | decide | kernel_rfl | (simp [strB]; done)
  go_wp2_with fail
  go_returns
  exact ⟨rfl, hB2.out.alloc (by have := hb1.out.size; omega) _⟩
end Go.Proofs.Ytgdoepkoakpnbaa

namespace Go.Proofs.Ytgdoepkoakpnbaa.again
open Go.ChangeShapes Go.WideShapes Go.ChangeAt Go.RowKit Go.Joins

theorem walk (A : Option Addr) (cp : Nat) (l : List Nat) (w : World) (hs : Src w w.heap.size A cp l) (hby : ∀ x ∈ l, x < 256) (hcap : cp ≤ 9223372036854775807) :
    Calls Try.prog 6 #[.slice A l.length cp] w fun e w' => e = .returned (.bool true) ∧ Below w.heap.size w w' := by
  have hle := hs.le
  by_cases h1 : l.length ≤ 20000
  · by_cases h2 : (parP l).2.2 = 0
    · exact again_yes A cp l.length l w hs hcap hby rfl h1 h2
    · exact again_no A cp l.length l w hs hcap hby rfl h1 h2
  · by_cases h2 : (parP (l.take 20000)).2.2 = 0
    · exact again_yes_cut A cp l.length (l.take 20000) w (hs.take _) hcap (fun x hx => hby x (List.mem_of_mem_take hx)) (by rw [List.length_take]; omega) (by omega) hle h2
    · exact again_no_cut A cp l.length (l.take 20000) w (hs.take _) hcap (fun x hx => hby x (List.mem_of_mem_take hx)) (by rw [List.length_take]; omega) (by omega) hle h2

set_option maxRecDepth 100000 in
theorem lifted (os : Os) (started : os.Started) (H : Type) (enc : TypeId × Value → H) :
    ReturnsInHanded {} Try.checked os 6 .any (Rows.berAgainSpec.pre6 enc Try.prog Try.f6 Rows.berAgainRow.domain false) (Rows.berAgainSpec.post enc Try.prog Try.f6 false true false false) := by
  refine returnsInHanded_of_change (C := Try.checked) own_none started (by kernel_rfl) Try.func6
    (ChangeSpec.witness6 (enc := enc) (C := Try.checked) false ⟨#[], #[.slice none 0 0], []⟩ 8 (by kernel_rfl) (by kernel_rfl) (by kernel_rfl) (by kernel_rfl)) ?_
  intro W base args ds gs before hval0 hW _ _
  have hval : ∀ (j : Nat) t v, Try.f6.params[j]? = some t → args[j]? = some v → Value.okWide Try.prog W .any base t v := hval0
  have hW' := hW
  obtain ⟨p, q, hA0, hV, rfl, _, _⟩ := hW
  have hA : DataW.TrodAll enc Try.prog W 0 (fun _ => true) true Try.f6.params.toList args.toList ds p := hA0
  rw [Try.params6] at hA hval
  obtain ⟨v0, vs0, d0, ds0, p0, q0, hargs, rfl, rfl, h0, r0⟩ := trodAll_cons hA
  obtain ⟨rfl, rfl, rfl⟩ := trodAll_nil r0
  obtain rfl : args = #[v0] := by cases args; simp_all
  obtain ⟨rfl, rfl⟩ := trodVars_none hV
  have k0 := h0
  have lt0 : ∀ x ∈ p0, x.block < W.heap.size := by obtain ⟨m, hm⟩ := k0; exact DataW.trod_lt m _ _ _ hm
  obtain ⟨A0, c0, l0, rfl, s0, by0, cap0⟩ := open_bytes (hval 0 24 v0 rfl rfl) h0
  clear hA0 hval0
  refine (walk A0 c0 l0 W s0 by0 cap0).mono fun e W' ⟨he, bel⟩ => ?_
  subst he
  exact ⟨_, rfl, _, _, _, [], _, [], hW', trodAll_mk1 (shut_bool Try.underlying4 _), (trodAll_cons_mk (Below.trod laid_out (by kernel_rfl) (of_decide_eq_true (by kernel_rfl)) k0 bel lt0) trodAll_mk0), rfl, bel.frame _, fun h => by cases h⟩

theorem over : Rows.berAgainRow.holds Try.pinned (OpenSpec.ofChange Rows.berAgainSpec) :=
  OpenClaim.holds_of_wide 6 Try.f6 rfl rfl rfl rfl rfl rfl rfl ⟨rfl, rfl, rfl, rfl, rfl⟩ rfl rfl rfl rfl rfl (by kernel_rfl) Try.func6 (by kernel_rfl)
    (of_decide_eq_true (by kernel_rfl)) (by unfold Func.isWrapper; first | (rw [if_pos (by decide +kernel)]; kernel_rfl) | (rw [if_neg (by decide +kernel)]; exact ⟨rfl, rfl⟩))
    (fun os started H enc _ => lifted os started H enc)

theorem again_holds : Rows.BerAgainSaid := over
end Go.Proofs.Ytgdoepkoakpnbaa.again
