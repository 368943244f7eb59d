/-
  Lists of elements by the places where they lie; rows of such lists.
-/
import Derived.Test.YtgdoepkoakpnbaaBad
namespace Go.Proofs.Ytgdoepkoakpnbaa
open Go.RowKit

/-- The j-th element of the list at p has the kids at q. -/
def Kid (w : World) (p : Key) (j : Nat) (q : Key) : Prop := ∃ ck, w.cell? ⟨p.1, p.2.1 + j * 5 + 4, none⟩ = some (.slice (some ⟨q.1, q.2.1, none⟩) q.2.2 ck) ∧ 0 < q.2.2
theorem Kid.one {w : World} {p q q' : Key} {j : Nat} (h : Kid w p j q) (h' : Kid w p j q') : q' = q := by
  obtain ⟨ck, h1, _⟩ := h
  obtain ⟨ck', h2, _⟩ := h'
  rw [h1] at h2
  simp only [Option.some.injEq, Value.slice.injEq, Addr.mk.injEq, and_true] at h2
  obtain ⟨⟨a, b⟩, c, _⟩ := h2
  obtain ⟨q1, q2, q3⟩ := q
  obtain ⟨r1, r2, r3⟩ := q'
  simp only at a b c
  subst a b c
  rfl
/-- The list at p reads as g. -/
structure Lst (w : World) (p : Key) (g : Fo) : Prop where
  at_ : FoAt w (Cl w) g p.1 p.2.1
  cl : Cl w p.1
  len : g.list.length = p.2.2
  pos : 0 < p.2.2
theorem Lst.elem {w : World} {p : Key} {g : Fo} (h : Lst w p g) (j : Nat) (hj : j < g.list.length) : ∃ Ab cb Ak ck, ElAt w (Cl w) g.list[j] p.1 (p.2.1 + j * 5) Ab cb Ak ck ∧ ElIn w (Cl w) g.list[j] Ab cb Ak ck := h.at_.get j hj
theorem kid_of {w : World} {p : Key} {j : Nat} {e : El} {Ab : Option Addr} {cb : Nat} {Ak : Option Addr} {ck : Nat} (h1 : ElAt w (Cl w) e p.1 (p.2.1 + j * 5) Ab cb Ak ck) (h2 : ElIn w (Cl w) e Ab cb Ak ck) (h0 : 0 < e.kids.length) :
    ∃ b o, Ak = some ⟨b, o, none⟩ ∧ Kid w p j (b, o, e.kids.length) ∧ Lst w (b, o, e.kids.length) e.k := by
  rcases Ak with _ | ⟨b, o, spot⟩
  · have := h2.k.nil rfl
    have h3 := h2.k.le
    have h4 : 0 < e.k.list.length := h0
    omega
  · obtain ⟨g1, g2, g3⟩ := h2.k.at_ _ rfl h0
    have : spot = none := g1
    subst this
    exact ⟨b, o, rfl, ⟨ck, h1.k, h0⟩, ⟨g3, g2, rfl, h0⟩⟩
theorem kid_none {w : World} {p q : Key} {j : Nat} {e : El} {Ab : Option Addr} {cb : Nat} {Ak : Option Addr} {ck : Nat} (h1 : ElAt w (Cl w) e p.1 (p.2.1 + j * 5) Ab cb Ak ck) (h0 : e.kids.length = 0) : ¬ Kid w p j q := by
  rintro ⟨ck', h3, h4⟩
  have := h1.k
  rw [this] at h3
  simp only [Option.some.injEq, Value.slice.injEq] at h3
  omega
theorem Lst.keep {w w' : World} {p : Key} {g : Fo} (h : Lst w p g) (hb : ∀ b, Cl w b → w'.heap[b]? = w.heap[b]?) : Lst w' p g :=
  ⟨(FoAt.keep (I := Cl w) (fun _ hq => World.cell?_of_block (hb _ hq)) h.at_ h.cl).more fun b hb' => hb'.of (hb b hb'), h.cl.of (hb _ h.cl), h.len, h.pos⟩
theorem Cl.not_map {w : World} {b mb : Nat} (h : Cl w b) (hm : ∃ es c, w.heap[mb]? = some (.map es c)) : b ≠ mb := by
  rintro rfl
  obtain ⟨es, c, hm⟩ := hm
  obtain ⟨cs, T, h⟩ := h
  rw [hm] at h
  cases h
theorem MapK.map {K : Type} {f : K → Value} {cl : World → K → Prop} {w : World} {b : Nat} {M : List K} (h : MapK f cl w b M) : ∃ es c, w.heap[b]? = some (.map es c) := by
  obtain ⟨⟨es, c, h, _⟩, _⟩ := h
  exact ⟨es, c, h⟩
/-- What is clean is as it was. -/
theorem grown_cl {w w' : World} {mb b : Nat} (hg : w.grownBy w' (some mb)) (hm : ∃ es c, w.heap[mb]? = some (.map es c)) (h : Cl w b) : w'.heap[b]? = w.heap[b]? :=
  hg.block b h.lt fun e => h.not_map hm (by injection e)
theorem grown_below {w wr w3 : World} {mb : Nat} (h : w.grownBy wr (some mb)) (hb : Below wr.heap.size wr w3) : w.grownBy w3 (some mb) :=
  ⟨hb.os.trans h.os, hb.tape.trans h.tape, hb.output.trans h.output, Nat.le_trans h.size hb.size, fun i hi hne => (hb.block i (Nat.lt_of_lt_of_le hi h.size)).trans (h.block i hi hne)⟩
theorem grown_trans {w wr w3 : World} {mb : Nat} (h : w.grownBy wr (some mb)) (hb : wr.grownBy w3 (some mb)) : w.grownBy w3 (some mb) :=
  ⟨hb.os.trans h.os, hb.tape.trans h.tape, hb.output.trans h.output, Nat.le_trans h.size hb.size, fun i hi hne => (hb.block i (Nat.lt_of_lt_of_le hi h.size) hne).trans (h.block i hi hne)⟩
theorem MapK.below {M : List Key} {w w' : World} {mb : Nat} (h : MapK kv cl1 w mb M) (hb : Below w.heap.size w w') : MapK kv cl1 w' mb M :=
  h.keep (hb.block _ h.lt) fun p hp => Cl.below (show Cl w p.1 from hp) hb (Cl.lt hp)

/-- The cells of a row of lists. -/
def rowL (N : List Key) (cs : List Value) : Prop := cs.length = N.length ∧ ∀ (i : Nat) (hi : i < N.length), ∃ cap, N[i].2.2 ≤ cap ∧ cap ≤ 9223372036854775807 ∧ cs[i]? = some (.slice (some ⟨N[i].1, N[i].2.1, none⟩) N[i].2.2 cap)
def OwnL (w : World) (base : Nat) (v : Value) (N : List Key) : Prop := ∃ cs, w.ownsRow base 25 1 v N.length cs ∧ rowL N cs
theorem OwnL.nil (w : World) (base : Nat) : OwnL w base (.slice none 0 0) [] := ⟨[], World.ownsRow_nil _ _ _ _, rfl, fun i hi => absurd hi (by simp)⟩
theorem OwnL.form {w : World} {base : Nat} {v : Value} {N : List Key} (h : OwnL w base v N) : ∃ A c, v = .slice A N.length c ∧ (0 < N.length → ∃ g, A = some ⟨g, 0, none⟩ ∧ base ≤ g ∧ Cl w g ∧ N.length ≤ c ∧ c ≤ 9223372036854775807 ∧ ∀ (i : Nat) (hi : i < N.length), ∃ cap, N[i].2.2 ≤ cap ∧ cap ≤ 9223372036854775807 ∧ w.cell? ⟨g, i, none⟩ = some (.slice (some ⟨N[i].1, N[i].2.1, none⟩) N[i].2.2 cap)) := by
  obtain ⟨cs, ⟨hl, h0 | ⟨g, cap, cur, hv, hbs, hg, hn, hm, hs, hx⟩⟩, h2, h3⟩ := h
  · exact ⟨none, 0, by rw [h0.1, h0.2], fun h => by omega⟩
  · refine ⟨_, cap, hv, fun h => ⟨g, rfl, hbs, ⟨_, _, hg⟩, hn, by unfold maxLen at hm; exact hm, fun i hi => ?_⟩⟩
    obtain ⟨c, h4, h5, h6⟩ := h3 i hi
    refine ⟨c, h4, h5, ?_⟩
    rw [cell_of_row w g i cur _ _ hg, ← h6, ← hx, List.getElem?_take, if_pos (by omega)]
    simp
theorem OwnL.keep {w w' : World} {base : Nat} {v : Value} {N : List Key} (h : OwnL w base v N) (hb : ∀ b, Cl w b → w'.heap[b]? = w.heap[b]?) : OwnL w' base v N := by
  obtain ⟨cs, ⟨h1, h0 | ⟨g, cap, cur, hv, hbs, hg, hn, hm, hs, hx⟩⟩, h2⟩ := h
  · exact ⟨cs, ⟨h1, .inl h0⟩, h2⟩
  · exact ⟨cs, ⟨h1, .inr ⟨g, cap, cur, hv, hbs, (hb g ⟨_, _, hg⟩).trans hg, hn, hm, hs, hx⟩⟩, h2⟩
theorem OwnL.base_le {w : World} {base base' : Nat} {v : Value} {N : List Key} (h : OwnL w base v N) (hb : base' ≤ base) : OwnL w base' v N := by
  obtain ⟨cs, ⟨h1, h0 | ⟨g, cap, cur, hv, hbs, hg, hn, hm, hs, hx⟩⟩, h2⟩ := h
  · exact ⟨cs, ⟨h1, .inl h0⟩, h2⟩
  · exact ⟨cs, ⟨h1, .inr ⟨g, cap, cur, hv, Nat.le_trans hb hbs, hg, hn, hm, hs, hx⟩⟩, h2⟩

abbrev PL := List (Key × Fo)
def keys (L : PL) : List Key := L.map (·.1)
def szL (L : PL) : Nat := sumL (L.map fun x => x.2.size)
/-- How great what the elements of a list lead to is. -/
def kidsz (l : List El) : Nat := sumL (l.map fun e => e.k.size)
theorem szL_snoc (L : PL) (x : Key × Fo) : szL (L ++ [x]) = szL L + x.2.size := by
  unfold szL
  rw [List.map_append, List.map_singleton, sumL_snoc]
theorem kidsz_take (l : List El) (k : Nat) (h : k < l.length) : kidsz (l.take (k + 1)) = kidsz (l.take k) + l[k].k.size := by
  unfold kidsz
  rw [List.take_succ_eq_append_getElem h, List.map_append, List.map_singleton, sumL_snoc]
theorem kidsz_le (g : Fo) : kidsz g.list + g.list.length ≤ g.size := by
  rw [Fo.size_list]
  unfold kidsz
  generalize g.list = l
  induction l with
  | nil => simp [sumL]
  | cons a l ih =>
    rw [List.map_cons, List.map_cons, sumL_cons, sumL_cons, List.length_cons]
    have : a.k.size + 1 ≤ a.size := by unfold El.size; omega
    omega
theorem kidsz_mono (l : List El) (k : Nat) : kidsz (l.take k) ≤ kidsz l := by
  unfold kidsz
  induction l generalizing k with
  | nil => simp
  | cons a l ih =>
    cases k with
    | zero => simp [sumL]
    | succ k =>
      rw [List.take_succ_cons, List.map_cons, List.map_cons, sumL_cons, sumL_cons]
      have := ih k
      omega
def kidszL (L : PL) : Nat := sumL (L.map fun x => kidsz x.2.list)
theorem kidszL_take (L : PL) (k : Nat) (h : k < L.length) : kidszL (L.take (k + 1)) = kidszL (L.take k) + kidsz L[k].2.list := by
  unfold kidszL
  rw [List.take_succ_eq_append_getElem h, List.map_append, List.map_singleton, sumL_snoc]
theorem kidszL_le (w : World) : ∀ (L : PL), (∀ x ∈ L, Lst w x.1 x.2) → kidszL L + L.length ≤ szL L
  | [], _ => by simp [kidszL, szL, sumL]
  | x :: L, h => by
    have h1 := kidszL_le w L fun y hy => h y (List.mem_cons_of_mem _ hy)
    have h2 := kidsz_le x.2
    have h3 := h x (List.mem_cons_self ..)
    have h4 := h3.len
    have h5 := h3.pos
    unfold kidszL szL at h1 ⊢
    rw [List.map_cons, List.map_cons, sumL_cons, sumL_cons, List.length_cons]
    omega
theorem szL_len (w : World) (L : PL) (h : ∀ x ∈ L, Lst w x.1 x.2) : L.length ≤ szL L := by
  have := kidszL_le w L h
  omega
end Go.Proofs.Ytgdoepkoakpnbaa
