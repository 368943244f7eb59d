/-
  Rows of slices of bytes.
-/
import Derived.Test.YtklpjdcmppohkaaDoorFApp
namespace Go.Proofs.YtklpjdcmppohkaaDoor
open Go.RowKit

theorem info_bs : (Tryd.prog.info? 23).map (fun i => (i.zero, i.size, i.bytes)) = some (some (.slice none 0 0), 1, 24) := by kernel_rfl

/-- Blocks that a row of slices does not lie in. -/
def Plain (w : World) (base b : Nat) : Prop := b < base ∨ (b < w.heap.size ∧ ∀ cs, w.heap[b]? ≠ some (.cells cs 23 (0, 0)))
def OwnS (w : World) (base : Nat) (v : Value) (L : List (List Nat)) : Prop :=
  ∃ cs, w.ownsRow base 23 1 v L.length cs ∧ ∀ (i : Nat) (hi : i < L.length), ∃ A c, cs[i]? = some (.slice A L[i].length c) ∧ SrI w base A c L[i]
theorem OwnS.nil (w : World) (base : Nat) : OwnS w base (.slice none 0 0) [] := ⟨[], World.ownsRow_nil _ _ _ _, fun i hi => absurd hi (by simp)⟩
theorem OwnS.below {w w' : World} {base K : Nat} {v : Value} {L : List (List Nat)} (h : OwnS w base v L) (hb : Below K w w') (hK : w.heap.size ≤ K) (hbase : base ≤ w.heap.size) : OwnS w' base v L := by
  obtain ⟨cs, ⟨h1, h0⟩, h2⟩ := h
  refine ⟨cs, ⟨h1, ?_⟩, fun i hi => ?_⟩
  · rcases h0 with h0 | ⟨g, cap, cur, hv, hbs, hg, hn, hm, hs, hx⟩
    · exact .inl h0
    · refine .inr ⟨g, cap, cur, hv, hbs, ?_, hn, hm, hs, hx⟩
      rw [hb.block g (Nat.lt_of_lt_of_le (Array.getElem?_eq_some_iff.1 hg).1 hK)]
      exact hg
  · obtain ⟨A, c, h3, h4⟩ := h2 i hi
    exact ⟨A, c, h3, h4.below hb hK hbase⟩
theorem OwnS.alloc {w : World} {base : Nat} {v : Value} {L : List (List Nat)} (h : OwnS w base v L) (hbase : base ≤ w.heap.size) (o : Obj) : OwnS (w.alloc o) base v L :=
  h.below ((Below.refl _ _).alloc (Nat.le_refl _) o) (Nat.le_refl _) hbase
theorem OwnS.base_le {w : World} {base base' : Nat} {v : Value} {L : List (List Nat)} (h : OwnS w base v L) (hs : ∀ l ∈ L, ∀ A c, SrI w base A c l → SrI w base' A c l) (hb : base' ≤ base) : OwnS w base' v L := by
  obtain ⟨cs, ⟨h1, h0⟩, h2⟩ := h
  refine ⟨cs, ⟨h1, ?_⟩, fun i hi => ?_⟩
  · rcases h0 with h0 | ⟨g, cap, cur, hv, hbs, hg, hn, hm, hs', hx⟩
    · exact .inl h0
    · exact .inr ⟨g, cap, cur, hv, Nat.le_trans hb hbs, hg, hn, hm, hs', hx⟩
  · obtain ⟨A, c, h3, h4⟩ := h2 i hi
    exact ⟨A, c, h3, hs _ (List.getElem_mem hi) A c h4⟩
theorem OwnS.form {w : World} {base : Nat} {v : Value} {L : List (List Nat)} (h : OwnS w base v L) : ∃ A c, v = .slice A L.length c ∧ L.length ≤ c ∧ ∀ (i : Nat) (hi : i < L.length), ∃ g A' c', A = some ⟨g, 0, none⟩ ∧ w.cell? ⟨g, i, none⟩ = some (.slice A' L[i].length c') ∧ SrI w base A' c' L[i] := by
  obtain ⟨cs, ⟨hl, h0 | ⟨g, cap, cur, hv, hbs, hg, hn, hm, hs, hx⟩⟩, h2⟩ := h
  · exact ⟨none, 0, by rw [h0.1, h0.2], by omega, fun i hi => by omega⟩
  · refine ⟨_, cap, hv, hn, fun i hi => ?_⟩
    obtain ⟨A', c', h3, h4⟩ := h2 i hi
    refine ⟨g, A', c', rfl, ?_, h4⟩
    rw [cell_of_row w g i cur _ _ hg, ← h3, ← hx, List.getElem?_take, if_pos (by omega)]
    simp
/-- The row's own block holds slices. -/
theorem OwnS.plain {w : World} {base b : Nat} {v : Value} {L : List (List Nat)} (h : OwnS w base v L) (hb : Plain w base b) : some b ≠ v.ownBlock := by
  obtain ⟨cs, ⟨hl, h0 | ⟨g, cap, cur, hv, hbs, hg, hn, hm, hs, hx⟩⟩, h2⟩ := h
  · rw [h0.1]
    simp [Value.ownBlock]
  · rw [hv]
    simp only [Value.ownBlock, ne_eq, Option.some.injEq]
    intro e
    subst e
    rcases hb with hb | hb
    · omega
    · exact hb.2 cur hg
theorem SrI.plain {w : World} {base : Nat} {A : Option Addr} {c : Nat} {l : List Nat} (h : SrI w base A c l) (ad : Addr) (e : A = some ad) (h0 : 0 < l.length) : Plain w base ad.block := by
  rcases (h.at_ ad e).1 h0 with h1 | ⟨cs, h1⟩
  · exact .inl h1
  · refine .inr ⟨(Array.getElem?_eq_some_iff.1 h1).1, fun cs' h2 => ?_⟩
    rw [h1] at h2
    simp at h2
theorem SrI.keepP {w w' : World} {base : Nat} {A : Option Addr} {c : Nat} {l : List Nat} (h : SrI w base A c l) (hk : ∀ b, Plain w base b → w'.heap[b]? = w.heap[b]?) : SrI w' base A c l :=
  h.keep fun b h1 => hk b (by
    rcases h1 with h1 | ⟨cs, h1⟩
    · exact .inl h1
    · refine .inr ⟨(Array.getElem?_eq_some_iff.1 h1).1, fun cs' h2 => ?_⟩
      rw [h1] at h2
      simp at h2)
theorem append_rows {w : World} {ops : Array Oper} {rest : List Oper} {o : Oper} {a : Act} {Q : Exit → Act → World → Prop} (hgd : o.guard = none) (s x : Operand)
    (ho : o.op = .call { callee := .builtin .append, args := #[s, x], argTypes := #[36, 36] })
    (base : Nat) (v : Value) (L : List (List Nat)) (n : Nat) (hn : L.length = n) (hs : a.eval s = v) (hown : OwnS w base v L)
    (ad : Addr) (m c : Nat) (M : List (List Nat)) (hm : M.length = m) (hx : a.eval x = .slice (some ad) m c)
    (hsrc : ∀ (i : Nat) (hi : i < M.length), ∃ A c, w.cell? (ad.add i) = some (.slice A M[i].length c) ∧ SrI w base A c M[i])
    (N : Nat) (hN : n + m = N) (hlen : N ≤ 2000000) (hbase : base ≤ w.heap.size)
    (h : ∀ A' c' w', OwnS w' base (.slice A' N c') (L ++ M) → Below base w w' → (∀ b, Plain w base b → w'.heap[b]? = w.heap[b]?) → wpList Tryd.prog ops Q rest (a.put o.dst (.slice A' N c')) w') : wpList Tryd.prog ops Q (o :: rest) a w := by
  obtain ⟨i0, hi, hz0, hz1, hz2⟩ := info_parts info_bs
  subst hn hm hN
  obtain ⟨cs, hrow, hcs⟩ := id hown
  have hnews : ∃ news : List Value, news.length = M.length ∧ ∀ (i : Nat) (hi : i < M.length), ∃ A c, news[i]? = some (.slice A M[i].length c) ∧ w.cell? (ad.add i) = some (.slice A M[i].length c) ∧ SrI w base A c M[i] := by
    refine ⟨(List.range M.length).map fun i => (w.cell? (ad.add i)).getD (.bool false), by simp, fun i hi => ?_⟩
    obtain ⟨A, c, h1, h2⟩ := hsrc i hi
    refine ⟨A, c, ?_, h1, h2⟩
    rw [List.getElem?_map, List.getElem?_range hi]
    simp [h1]
  obtain ⟨news, hnl, hnn⟩ := hnews
  refine wpList_append_own w hgd s x 36 ho base 23 i0 _ 1 24 Tryd.underlying36 hi hz0 hz1 hz2 rfl (by decide) v L.length cs hs hrow ad M.length c news hx (by rw [hnl, Nat.mul_one]) (fun j u hj => ?_) (fun u hu => ?_)
    (by simp only [maxLen]; omega) (by omega) hbase fun v' w' hown' hg _ => ?_
  · have hj' : j < M.length := by
      rw [← hnl]
      exact (List.getElem?_eq_some_iff.1 hj).1
    obtain ⟨A, c, h1, h2, _⟩ := hnn j hj'
    rw [h1] at hj
    injection hj with hj
    rw [h2, hj]
  · obtain ⟨j, hj⟩ := List.getElem?_of_mem hu
    have hj' : j < M.length := by
      rw [← hnl]
      exact (List.getElem?_eq_some_iff.1 hj).1
    obtain ⟨A, c, h1, _⟩ := hnn j hj'
    rw [h1] at hj
    injection hj with hj
    subst hj
    rfl
  · have hp : ∀ b, Plain w base b → w'.heap[b]? = w.heap[b]? := fun b hb => by
      refine hg.block b ?_ (hown.plain hb)
      rcases hb with hb | hb
      · exact Nat.lt_of_lt_of_le hb hbase
      · exact hb.1
    have hO : OwnS w' base v' (L ++ M) := by
      refine ⟨cs ++ news, by rw [List.length_append]; exact hown', fun i hi => ?_⟩
      have hcl : cs.length = L.length := by rw [hrow.1, Nat.mul_one]
      by_cases hil : i < L.length
      · obtain ⟨A, c, h1, h2⟩ := hcs i hil
        rw [List.getElem_append_left hil]
        exact ⟨A, c, by rw [List.getElem?_append_left (by omega)]; exact h1, h2.keepP hp⟩
      · have hi2 : i - L.length < M.length := by rw [List.length_append] at hi; omega
        obtain ⟨A, c, h1, _, h2⟩ := hnn _ hi2
        rw [List.getElem_append_right (by omega)]
        exact ⟨A, c, by rw [List.getElem?_append_right (by omega), hcl]; exact h1, h2.keepP hp⟩
    obtain ⟨A', c', rfl, _, _⟩ := hO.form
    rw [List.length_append] at hO ⊢
    exact h A' c' w' hO ((Below.refl _ _).grown hg hbase (fun k hk => (hrow.lt k hk).1)) hp
end Go.Proofs.YtklpjdcmppohkaaDoor
