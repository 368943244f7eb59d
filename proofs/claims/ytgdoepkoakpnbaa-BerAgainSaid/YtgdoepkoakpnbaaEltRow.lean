/-
  A row of elements of the call's own.
-/
import Derived.Test.YtgdoepkoakpnbaaEltDeep
import Derived.Test.YtgdoepkoakpnbaaEltSame
import Derived.Deep.AppendLies
namespace Go.Proofs.Ytgdoepkoakpnbaa
open Go.RowKit

def sumL (l : List Nat) : Nat := l.foldl (· + ·) 0
theorem foldl_add (l : List Nat) : ∀ a, l.foldl (· + ·) a = a + sumL l := by
  unfold sumL
  induction l with
  | nil => intro a; simp
  | cons x r ih => intro a; rw [List.foldl_cons, List.foldl_cons, ih (a + x), ih (0 + x)]; omega
theorem sumL_snoc (l : List Nat) (x : Nat) : sumL (l ++ [x]) = sumL l + x := by
  unfold sumL
  rw [List.foldl_append]
  rfl
/-- How great. -/
def Fo.size : Fo → Nat
  | .nil => 0
  | .cons _ _ _ b k nx => 1 + b.length + k.size + nx.size
def El.size (e : El) : Nat := 1 + e.b.length + e.k.size
theorem Fo.size_list : ∀ f : Fo, f.size = sumL (f.list.map El.size)
  | .nil => rfl
  | .cons c m n b k nx => by
    rw [Fo.size, Fo.list, List.map_cons, sumL, List.foldl_cons, foldl_add, Fo.size_list nx]
    simp [El.size]
theorem El.size_kids (e : El) : e.size = 1 + e.b.length + sumL (e.kids.map El.size) := by rw [El.size, Fo.size_list]; rfl

/-- An element's five cells. -/
def el5 (e : El) (Ab : Option Addr) (cb : Nat) (Ak : Option Addr) (ck : Nat) : List Value := [.int .i64 e.c, .bool e.m, .int .i64 e.n, .slice Ab e.b.length cb, .slice Ak e.kids.length ck]
theorem el5_one (e : El) (Ab : Option Addr) (cb : Nat) (Ak : Option Addr) (ck : Nat) : ∀ u ∈ el5 e Ab cb Ak ck, u.oneCell' = true := by
  intro u hu
  simp only [el5, List.mem_cons, List.not_mem_nil, or_false] at hu
  rcases hu with rfl | rfl | rfl | rfl | rfl <;> rfl
/-- Where what an element of the row leads to may lie. -/
def RowI (w : World) (W0 base : Nat) (v : Value) (b : Nat) : Prop := b < W0 ∨ (base ≤ b ∧ b < w.heap.size ∧ some b ≠ v.ownBlock)
def RowE (T : TypeId) (w : World) (W0 base : Nat) (v : Value) (l : List El) : Prop :=
  ∃ cs : List Value, w.ownsRow base T 5 v l.length cs ∧ ∀ (i : Nat) (hi : i < l.length), ∃ Ab cb Ak ck, (∀ j, j < 5 → cs[i * 5 + j]? = (el5 l[i] Ab cb Ak ck)[j]?) ∧ ElIn w (RowI w W0 base v) l[i] Ab cb Ak ck
theorem RowE.nil (T : TypeId) (w : World) (W0 base : Nat) : RowE T w W0 base (.slice none 0 0) [] :=
  ⟨[], World.ownsRow_nil _ _ _ _, fun i hi => absurd hi (by simp)⟩
theorem owns_below {w w' : World} {base size n : Nat} {T : TypeId} {v : Value} {xs : List Value} (h : w.ownsRow base T size v n xs) (hb : Below w.heap.size w w') : w'.ownsRow base T size v n xs := by
  obtain ⟨h1, h0 | ⟨g, cap, cur, hv, hbs, hg, hn, hm, hs, hx⟩⟩ := h
  · exact ⟨h1, .inl h0⟩
  · refine ⟨h1, .inr ⟨g, cap, cur, hv, hbs, ?_, hn, hm, hs, hx⟩⟩
    rw [hb.block g (Array.getElem?_eq_some_iff.1 hg).1]
    exact hg
theorem RowE.below {T : TypeId} {w w' : World} {W0 base : Nat} {v : Value} {l : List El} (h : RowE T w W0 base v l) (hb : Below w.heap.size w w') (h0 : W0 ≤ w.heap.size) : RowE T w' W0 base v l := by
  obtain ⟨cs, h1, h2⟩ := h
  refine ⟨cs, owns_below h1 hb, fun i hi => ?_⟩
  obtain ⟨Ab, cb, Ak, ck, h3, h4⟩ := h2 i hi
  refine ⟨Ab, cb, Ak, ck, h3, (h4.keep fun p hp => hb.cell ?_).more fun b hb2 => ?_⟩
  · rcases hp with hp | hp
    · exact Nat.lt_of_lt_of_le hp h0
    · exact hp.2.1
  · rcases hb2 with hb2 | hb2
    · exact .inl hb2
    · exact .inr ⟨hb2.1, Nat.lt_of_lt_of_le hb2.2.1 hb.size, hb2.2.2⟩
/-- A row reads as its elements. -/
theorem RowE.sl {T : TypeId} {w : World} {W0 base : Nat} {v : Value} {l : List El} (h : RowE T w W0 base v l) : ∃ A c, v = .slice A l.length c ∧ SlI w (fun b => b < W0 ∨ (base ≤ b ∧ b < w.heap.size)) A c (Fo.of l) := by
  obtain ⟨cs, ⟨hl, h0 | ⟨g, cap, cur, hv, hbs, hg, hn, hm, hs, hx⟩⟩, h2⟩ := h
  · refine ⟨none, 0, by rw [h0.1, h0.2], ?_⟩
    have hl0 : l = [] := List.eq_nil_of_length_eq_zero h0.2
    subst hl0
    exact ⟨Nat.le_refl _, by omega, fun _ => rfl, fun _ e => by cases e⟩
  · have hgl : g < w.heap.size := (Array.getElem?_eq_some_iff.1 hg).1
    refine ⟨some ⟨g, 0, none⟩, cap, hv, ⟨by rw [Fo.list_of]; exact hn, by unfold maxLen at hm; exact hm, (by simp), fun ad e _ => ?_⟩⟩
    injection e with e
    subst e
    refine ⟨rfl, .inr ⟨hbs, hgl⟩, foAt_ofR l g 0 fun i hi => ?_⟩
    obtain ⟨Ab, cb, Ak, ck, h3, h4⟩ := h2 i hi
    have cell : ∀ j, j < 5 → w.cell? ⟨g, 0 + i * 5 + j, none⟩ = (el5 l[i] Ab cb Ak ck)[j]? := by
      intro j hj
      rw [cell_of_row w g (0 + i * 5 + j) cur _ _ hg, ← h3 j hj, ← hx, List.getElem?_take, if_pos (by omega)]
      simp
    refine ⟨Ab, cb, Ak, ck, ⟨cell 0 (by omega), cell 1 (by omega), cell 2 (by omega), cell 3 (by omega), cell 4 (by omega)⟩, h4.more fun b hb => ?_⟩
    rcases hb with hb | hb
    · exact .inl hb
    · exact .inr ⟨hb.1, hb.2.1⟩
/-- One element more. -/
theorem RowE.snoc {T : TypeId} {w w' : World} {W0 base g cap : Nat} {v : Value} {l : List El} {e : El} {Ab : Option Addr} {cb : Nat} {Ak : Option Addr} {ck : Nat} {cs : List Value}
    (ho : w'.ownsRow base T 5 (.slice (some ⟨g, 0, none⟩) (l.length + 1) cap) (l.length + 1) (cs ++ el5 e Ab cb Ak ck)) (hcs : cs.length = l.length * 5)
    (h2 : ∀ (i : Nat) (hi : i < l.length), ∃ Ab cb Ak ck, (∀ j, j < 5 → cs[i * 5 + j]? = (el5 l[i] Ab cb Ak ck)[j]?) ∧ ElIn w (RowI w W0 base v) l[i] Ab cb Ak ck)
    (he : ElIn w (RowI w W0 base v) e Ab cb Ak ck) (hg : w.grownBy w' v.ownBlock) (hat : v.ownBlock = some g ∨ g = w.heap.size) (h0 : W0 ≤ base) (hb0 : base ≤ w.heap.size) (hv : ∀ b, v.ownBlock = some b → base ≤ b) :
    RowE T w' W0 base (.slice (some ⟨g, 0, none⟩) (l.length + 1) cap) (l ++ [e]) := by
  have hI : ∀ b, RowI w W0 base v b → RowI w' W0 base (.slice (some ⟨g, 0, none⟩) (l.length + 1) cap) b := by
    intro b hb
    rcases hb with hb | hb
    · exact .inl hb
    · refine .inr ⟨hb.1, Nat.lt_of_lt_of_le hb.2.1 hg.size, ?_⟩
      intro e
      have e2 : b = g := by injection e
      rcases hat with hat | hat
      · exact hb.2.2 (by rw [hat, e2])
      · have := hb.2.1
        omega
  have hK : ∀ p : Addr, RowI w W0 base v p.block → w'.cell? p = w.cell? p := by
    intro p hp
    rcases hp with hp | hp
    · refine hg.cell_far p (by omega) fun e => ?_
      have := hv _ e.symm
      omega
    · exact hg.cell_far p hp.2.1 hp.2.2
  refine ⟨cs ++ el5 e Ab cb Ak ck, by rw [List.length_append]; exact ho, fun i hi => ?_⟩
  by_cases hil : i < l.length
  · obtain ⟨Ab2, cb2, Ak2, ck2, h3, h4⟩ := h2 i hil
    refine ⟨Ab2, cb2, Ak2, ck2, fun j hj => ?_, ?_⟩
    · rw [List.getElem?_append_left (by rw [hcs]; omega), h3 j hj, List.getElem_append_left hil]
    · rw [List.getElem_append_left hil]
      exact (h4.keep hK).more hI
  · have hie : i = l.length := by simp at hi; omega
    subst hie
    refine ⟨Ab, cb, Ak, ck, fun j hj => ?_, ?_⟩
    · rw [List.getElem?_append_right (by rw [hcs]; omega), List.getElem_append_right (Nat.le_refl _)]
      simp only [Nat.sub_self, List.getElem_cons_zero]
      rw [hcs]
      congr 1
      omega
    · rw [List.getElem_append_right (Nat.le_refl _)]
      simp only [Nat.sub_self, List.getElem_cons_zero]
      exact (he.keep hK).more hI
end Go.Proofs.Ytgdoepkoakpnbaa
