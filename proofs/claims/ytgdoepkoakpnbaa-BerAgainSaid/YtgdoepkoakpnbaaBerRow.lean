/-
  What the document parses, as data; a row of elements that a parse makes.
-/
import Derived.Test.YtgdoepkoakpnbaaBer
import Derived.Test.YtgdoepkoakpnbaaEltOwn
namespace Go.Proofs.Ytgdoepkoakpnbaa
open Go.RowKit

def el0 : El := ⟨0, false, 0, [], .nil⟩
mutual
/-- The element that l begins with, in d others, and the error. -/
def inP : Nat → List Nat → Nat → El × Nat
  | 0, _, _ => (el0, 0)
  | f + 1, l, d =>
    if (rdT l).2.1 = false then (⟨((rdT l).1 : Nat), false, ((rdT l).2.2.1 : Nat), (l.take (hdT l).1).drop (hdT l).2.1, .nil⟩, 0)
    else if (rowP f ((l.take (hdT l).1).drop (hdT l).2.1) d).2 ≠ 0 then (el0, (rowP f ((l.take (hdT l).1).drop (hdT l).2.1) d).2)
    else (⟨((rdT l).1 : Nat), true, ((rdT l).2.2.1 : Nat), [], Fo.of (rowP f ((l.take (hdT l).1).drop (hdT l).2.1) d).1⟩, 0)
/-- The elements one behind the other, and the error. -/
def rowP : Nat → List Nat → Nat → List El × Nat
  | 0, _, _ => ([], 0)
  | f + 1, l, d =>
    if l = [] then ([], 0) else if 24 ≤ d + 1 then ([], 15) else if (hdT l).2.2 ≠ 0 ∨ l.length < (hdT l).1 then ([], 11)
    else if (inP f (l.take (hdT l).1) (d + 1)).2 ≠ 0 then ([], (inP f (l.take (hdT l).1) (d + 1)).2)
    else if (rowP f (l.drop (hdT l).1) d).2 ≠ 0 then ([], (rowP f (l.drop (hdT l).1) d).2)
    else ((inP f (l.take (hdT l).1) (d + 1)).1 :: (rowP f (l.drop (hdT l).1) d).1, 0)
end
/-- A row's beginning and what follows. -/
def more2 (ks : List El) (q : List El × Nat) : List El × Nat := if q.2 ≠ 0 then ([], q.2) else (ks ++ q.1, 0)
theorem rowP_nil (f d : Nat) : rowP f [] d = ([], 0) := by
  cases f with
  | zero => rw [rowP]
  | succ f => rw [rowP, if_pos rfl]
theorem more2_nil (q : List El × Nat) (h : q.2 ≠ 0 → q.1 = []) : more2 [] q = q := by
  unfold more2
  obtain ⟨a, b⟩ := q
  split
  · rename_i h1
    have := h h1
    simp only [] at this
    rw [this]
  · rename_i h1
    have : b = 0 := by simpa using h1
    subst this
    rfl
theorem rowP_err : ∀ (f : Nat) (l : List Nat) (d : Nat), (rowP f l d).2 ≠ 0 → (rowP f l d).1 = []
  | 0, l, d, h => by rw [rowP]
  | f + 1, l, d, h => by
    rw [rowP] at h ⊢
    repeat' split
    all_goals first | rfl | skip
    rename_i h1 h2 h3 h4 h5
    rw [if_neg h1, if_neg h2, if_neg h3, if_neg h4, if_neg h5] at h
    exact absurd rfl h

theorem rn_take : ∀ (f i a k : Nat) (l : List Nat), (rn f i a l).2.2 = 0 → (rn f i a l).2.1 ≤ i + k → rn f i a (l.take k) = rn f i a l
  | 0, _, _, _, _, _, _ => rfl
  | f + 1, i, a, k, [], _, _ => by rw [List.take_nil]
  | f + 1, i, a, 0, c :: r, h, h2 => by
    exfalso
    rw [rn_cons] at h h2
    split at h
    · simp at h
    · rename_i h3
      rw [if_neg h3] at h2
      split at h
      · rename_i h4
        rw [if_pos h4] at h2
        simp only [] at h2
        omega
      · rename_i h4
        rw [if_neg h4] at h2
        have : ∀ (f i a : Nat) (l : List Nat), (rn f i a l).2.2 = 0 → i < (rn f i a l).2.1 := by
          intro f
          induction f with
          | zero => intro i a l h; simp [rn] at h
          | succ f ih =>
            intro i a l h
            cases l with
            | nil => simp [rn] at h
            | cons c r =>
              rw [rn_cons] at h ⊢
              split at h
              · simp at h
              · rename_i h1
                rw [if_neg h1]
                split at h
                · rename_i h2
                  rw [if_pos h2]
                  simp
                · rename_i h2
                  rw [if_neg h2]
                  have := ih _ _ _ h
                  omega
        have := this _ _ _ _ h
        omega
  | f + 1, i, a, k + 1, c :: r, h, h2 => by
    rw [List.take_succ_cons, rn_cons, rn_cons]
    rw [rn_cons] at h h2
    split
    · rfl
    · rename_i h3
      rw [if_neg h3] at h h2
      split
      · rfl
      · rename_i h4
        rw [if_neg h4] at h h2
        exact rn_take f _ _ k r h (by omega)
theorem rdT_take (l : List Nat) (k : Nat) (h : (rdT l).2.2.2.2 = 0) (h2 : (rdT l).2.2.2.1 ≤ k) : rdT (l.take k) = rdT l := by
  rcases l with _ | ⟨x, r⟩
  · rw [List.take_nil]
  · have H : ∀ r, rdT (x :: r) = if x % 32 = 31 then
      if (rn 4 0 0 r).2.2 = 0 then (x / 64, x / 32 % 2 == 1, (rn 4 0 0 r).1, 1 + (rn 4 0 0 r).2.1, 0) else (0, false, 0, 0, (rn 4 0 0 r).2.2)
      else (x / 64, x / 32 % 2 == 1, x % 32, 1, 0) := fun r => rfl
    rw [H] at h h2
    have hk : 0 < k := by
      split at h
      · rename_i h3
        rw [if_pos h3] at h2
        split at h
        · rename_i h4
          rw [if_pos h4] at h2
          simp only [] at h2
          omega
        · rename_i h4
          exact absurd h h4
      · rename_i h3
        rw [if_neg h3] at h2
        exact h2
    obtain ⟨k', rfl⟩ : ∃ k', k = k' + 1 := ⟨k - 1, by omega⟩
    rw [List.take_succ_cons, H, H]
    split
    · rename_i h3
      rw [if_pos h3] at h h2
      split at h
      · rename_i h4
        rw [if_pos h4] at h2
        rw [rn_take 4 0 0 k' r h4 (by simp only [] at h2; omega)]
      · rename_i h4
        exact absurd h h4
    · rfl
theorem rdL_take (l : List Nat) (k : Nat) (h : (rdL l).2.2 = 0) (h2 : (rdL l).2.1 ≤ k) : rdL (l.take k) = rdL l := by
  rcases l with _ | ⟨x, r⟩
  · rw [List.take_nil]
  · have h0 := (rdL_ok _ h).2.1
    obtain ⟨k', rfl⟩ : ∃ k', k = k' + 1 := ⟨k - 1, by omega⟩
    rw [List.take_succ_cons, rdL_cons, rdL_cons]
    rw [rdL_cons] at h h2
    by_cases h3 : x < 128
    · rw [if_pos h3, if_pos h3]
    · rw [if_neg h3] at h h2
      rw [if_neg h3, if_neg h3]
      by_cases h4 : x = 128 ∨ x = 255
      · rw [if_pos h4, if_pos h4]
      · rw [if_neg h4] at h h2
        rw [if_neg h4, if_neg h4]
        by_cases h5 : 132 < x
        · rw [if_pos h5, if_pos h5]
        · rw [if_neg h5] at h h2
          rw [if_neg h5, if_neg h5]
          by_cases h6 : r.length < x - 128
          · rw [if_pos h6] at h
            simp at h
          · rw [if_neg h6] at h h2
            rw [if_neg h6]
            by_cases h7 : 2147483647 < be (r.take (x - 128))
            · rw [if_pos h7] at h
              simp at h
            · rw [if_neg h7] at h h2
              simp only [] at h2
              rw [List.length_take, if_neg (by omega), List.take_take, Nat.min_eq_left (by omega)]
theorem hdT_take (l : List Nat) (hb : ∀ x ∈ l, x < 256) (h : (hdT l).2.2 = 0) : hdT (l.take (hdT l).1) = hdT l := by
  obtain ⟨a1, a2, a3, a4, a5⟩ := hdT_ok l hb h
  have H : hdT l = if (rdL (l.drop (rdT l).2.2.2.1)).2.2 ≠ 0 then (0, 0, (rdL (l.drop (rdT l).2.2.2.1)).2.2)
      else if 16384 < (rdT l).2.2.2.1 + (rdL (l.drop (rdT l).2.2.2.1)).2.1 + (rdL (l.drop (rdT l).2.2.2.1)).1 then (0, 0, 3)
      else ((rdT l).2.2.2.1 + (rdL (l.drop (rdT l).2.2.2.1)).2.1 + (rdL (l.drop (rdT l).2.2.2.1)).1, (rdT l).2.2.2.1 + (rdL (l.drop (rdT l).2.2.2.1)).2.1, 0) := by
    unfold hdT
    rw [if_neg (by simpa using a1)]
  have hL : (rdL (l.drop (rdT l).2.2.2.1)).2.2 = 0 := by
    rw [H] at h
    split at h
    · rename_i h1
      exact absurd h h1
    · rename_i h1
      simpa using h1
  have hN : (hdT l).2.1 = (rdT l).2.2.2.1 + (rdL (l.drop (rdT l).2.2.2.1)).2.1 := by
    rw [H] at h ⊢
    rw [if_neg (by simpa using hL)] at h ⊢
    split at h
    · simp at h
    · rename_i h1
      rw [if_neg h1]
  have e1 : rdT (l.take (hdT l).1) = rdT l := rdT_take _ _ a1 (by omega)
  have e2 : rdL ((l.take (hdT l).1).drop (rdT l).2.2.2.1) = rdL (l.drop (rdT l).2.2.2.1) := by
    rw [List.drop_take]
    exact rdL_take _ _ hL (by omega)
  have G : ∀ m, m = l.take (hdT l).1 → hdT m = hdT l := by
    intro m hm
    unfold hdT
    rw [hm, e1, e2]
  exact G _ rfl

/-- What holds at the head of each round of in. -/
structure InInv (K : Nat) (c n : Int) (w wr : World) (ks : List El) (V : Value) : Prop where
  below : Below w.heap.size w wr
  size : w.heap.size + 2 ≤ wr.heap.size
  res : wr.heap[w.heap.size]? = some (.cells #[.int .i64 0, .bool false, .int .i64 0, .slice none 0 0, .slice none 0 0] 30 (0, 0))
  out : wr.heap[w.heap.size + 1]? = some (.cells #[.int .i64 c, .bool true, .int .i64 n, .slice none 0 0, V] 30 (0, 0))
  row : RowE 30 wr K (w.heap.size + 2) V ks

/-- The row as it lies ahead of a round's append. -/
theorem RowE.parts {T : TypeId} {w : World} {W0 base : Nat} {v : Value} {l : List El} (h : RowE T w W0 base v l) :
    ∃ cs : List Value, w.ownsRow base T 5 v l.length cs ∧ cs.length = l.length * 5 ∧ (∀ b, v.ownBlock = some b → base ≤ b ∧ b < w.heap.size) ∧
      ∀ (i : Nat) (hi : i < l.length), ∃ Ab cb Ak ck, (∀ j, j < 5 → cs[i * 5 + j]? = (el5 l[i] Ab cb Ak ck)[j]?) ∧ ElIn w (RowI w W0 base v) l[i] Ab cb Ak ck := by
  obtain ⟨cs, h1, h2⟩ := h
  refine ⟨cs, h1, h1.1, fun b hb => ?_, h2⟩
  obtain ⟨_, h0 | ⟨g, cap, cur, hv, hbs, hg, _⟩⟩ := h1
  · rw [h0.1] at hb
    cases hb
  · rw [hv] at hb
    injection hb with hb
    have hb' : g = b := hb
    subst hb'
    exact ⟨hbs, (Array.getElem?_eq_some_iff.1 hg).1⟩

theorem in_step {r : El} {K : Nat} {c n : Int} {w wr w3 w6 : World} {ks : List El} {V : Value} {Ab2 : Option Addr} {cb2 : Nat} {A3 : Option Addr} {c3 g cap : Nat} {cs : List Value} {o1 o2 : Obj}
    (HI : InInv K c n w wr ks V) (hK : K ≤ w.heap.size) (hb3 : Below wr.heap.size wr w3)
    (hk : ElIn w3 (fun b => b < K ∨ (wr.heap.size ≤ b ∧ b < w3.heap.size)) r Ab2 cb2 A3 c3) (hcs : cs.length = ks.length * 5) (hV : ∀ b, V.ownBlock = some b → w.heap.size + 2 ≤ b ∧ b < wr.heap.size)
    (hrow : ∀ (i : Nat) (hi : i < ks.length), ∃ Ab cb Ak ck, (∀ j, j < 5 → cs[i * 5 + j]? = (el5 ks[i] Ab cb Ak ck)[j]?) ∧ ElIn wr (RowI wr K (w.heap.size + 2) V) ks[i] Ab cb Ak ck)
    (hown : w6.ownsRow (w.heap.size + 2) 30 5 (.slice (some ⟨g, 0, none⟩) (ks.length + 1) cap) (ks.length + 1) (cs ++ [.int .i64 r.c, .bool r.m, .int .i64 r.n, .slice Ab2 r.b.length cb2, .slice A3 r.kids.length c3]))
    (hg : ((w3.alloc o1).alloc o2).grownBy w6 V.ownBlock) (hat : V.ownBlock = some g ∨ g = w3.heap.size + 1 + 1) :
    InInv K c n w (w6.setCell ⟨w.heap.size + 1, 4, none⟩ (.slice (some ⟨g, 0, none⟩) (ks.length + 1) cap)) (ks ++ [r]) (.slice (some ⟨g, 0, none⟩) (ks.length + 1) cap) := by
  have hsz := HI.size
  have hs3 := hb3.size
  have hs5 : ((w3.alloc o1).alloc o2).heap.size = w3.heap.size + 1 + 1 := by simp
  have hs6 := hg.size
  rw [hs5] at hs6
  have hVb : ∀ b, V.ownBlock = some b → w.heap.size + 2 ≤ b := fun b hb => (hV b hb).1
  have hblk : ∀ b, b < w.heap.size + 2 → w6.heap[b]? = wr.heap[b]? := by
    intro b hb
    rw [hg.block b (by rw [hs5]; omega) (fun e => by have := hVb b e.symm; omega), Below.heap_alloc _ _ _ (by simp; omega), Below.heap_alloc _ _ _ (by omega), hb3.block b (by omega)]
  have hB5 : Below wr.heap.size wr ((w3.alloc o1).alloc o2) := (hb3.alloc hs3 _).alloc (by simp; omega) _
  refine ⟨?_, ?_, ?_, ?_, ?_⟩
  · refine Below.setCell ?_ (by show w.heap.size ≤ w.heap.size + 1; omega) _
    refine HI.below.trans ?_
    refine (hB5.mono (by omega)).trans ?_
    exact (Below.refl _ _).grown hg (by rw [hs5]; omega) (fun b hb => by have := hVb b hb; omega)
  · have : (w6.setCell ⟨w.heap.size + 1, 4, none⟩ (.slice (some ⟨g, 0, none⟩) (ks.length + 1) cap)).heap.size = w6.heap.size := by simp [World.setCell]
    rw [this]
    omega
  · rw [_root_.Go.heap_setCell_other _ _ _ _ (by show w.heap.size ≠ w.heap.size + 1; omega), hblk _ (by omega)]
    exact HI.res
  · rw [_root_.Go.heap_setCell_same _ _ _ _ _ _ ((hblk _ (by omega)).trans HI.out)]
    rfl
  · have hI : ∀ b, RowI wr K (w.heap.size + 2) V b → RowI ((w3.alloc o1).alloc o2) K (w.heap.size + 2) V b := by
      intro b hb
      rcases hb with hb | hb
      · exact .inl hb
      · exact .inr ⟨hb.1, by rw [hs5]; omega, hb.2.2⟩
    have hrow5 : ∀ (i : Nat) (hi : i < ks.length), ∃ Ab cb Ak ck, (∀ j, j < 5 → cs[i * 5 + j]? = (el5 ks[i] Ab cb Ak ck)[j]?) ∧ ElIn ((w3.alloc o1).alloc o2) (RowI ((w3.alloc o1).alloc o2) K (w.heap.size + 2) V) ks[i] Ab cb Ak ck := by
      intro i hi
      obtain ⟨a1, a2, a3, a4, a5, a6⟩ := hrow i hi
      refine ⟨a1, a2, a3, a4, a5, (a6.keep fun p hp => hB5.cell ?_).more hI⟩
      rcases hp with hp | hp
      · omega
      · exact hp.2.1
    have hel : ElIn ((w3.alloc o1).alloc o2) (RowI ((w3.alloc o1).alloc o2) K (w.heap.size + 2) V) r Ab2 cb2 A3 c3 := by
      refine (hk.keep fun p hp => ?_).more fun b hb => ?_
      · rw [World.cell?_alloc_lt _ _ _ (by rcases hp with hp | hp <;> simp <;> omega), World.cell?_alloc_lt _ _ _ (by rcases hp with hp | hp <;> omega)]
      · rcases hb with hb | hb
        · exact .inl hb
        · refine .inr ⟨by omega, by rw [hs5]; omega, fun e => ?_⟩
          have := (hV b e.symm).2
          omega
    have hsn := RowE.snoc (T := 30) (w := (w3.alloc o1).alloc o2) (w' := w6) (W0 := K) (base := w.heap.size + 2) (g := g) (cap := cap) (v := V) (l := ks) (e := r) (Ab := Ab2) (cb := cb2) (Ak := A3) (ck := c3) (cs := cs)
      hown hcs hrow5 hel hg (by rw [hs5]; exact hat) (by omega) (by rw [hs5]; omega) hVb
    exact hsn.set _ _ (by show K ≤ w.heap.size + 1; omega) (by show w.heap.size + 1 < w.heap.size + 2; omega)
end Go.Proofs.Ytgdoepkoakpnbaa
