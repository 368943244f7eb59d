/-
  Beginnings of the frames of records, as data; rows of numbers.
-/
import Derived.Test.YtklpjdcmppohkaaDoorRowS
namespace Go.Proofs.YtklpjdcmppohkaaDoor
open Go.RowKit

/-- Where the frames of the first j records end. -/
def off (L : List (List Nat)) (j : Nat) : Nat := (cat (L.take j)).length
theorem off_zero (L : List (List Nat)) : off L 0 = 0 := rfl
theorem cat_succ (L : List (List Nat)) (j : Nat) (h : j < L.length) : cat (L.take (j + 1)) = cat (L.take j) ++ sealP L[j] := by
  rw [List.take_succ_eq_append_getElem h, cat_snoc]
theorem off_succ (L : List (List Nat)) (j : Nat) (h : j < L.length) : off L (j + 1) = off L j + (L[j].length + 8) := by
  unfold off
  rw [cat_succ L j h, List.length_append, sealP_len]
theorem off_full (L : List (List Nat)) : off L L.length = (cat L).length := by
  unfold off
  rw [List.take_length]
theorem off_mono (L : List (List Nat)) (j k : Nat) (h : j ≤ k) (hk : k ≤ L.length) : off L j ≤ off L k := by
  induction k with
  | zero =>
    obtain rfl : j = 0 := by omega
    exact Nat.le_refl _
  | succ k ih =>
    by_cases hj : j = k + 1
    · subst hj
      exact Nat.le_refl _
    · have := ih (by omega) (by omega)
      rw [off_succ L k (by omega)]
      omega
theorem cat_cut (L : List (List Nat)) (j : Nat) (h : j < L.length) : cat L = cat (L.take j) ++ (sealP L[j] ++ cat (L.drop (j + 1))) := by
  have e : L = L.take j ++ (L[j] :: L.drop (j + 1)) := by
    rw [List.getElem_cons_drop h, List.take_append_drop]
  conv => lhs; rw [e]
  rw [cat_app, cat_cons]
theorem back_scan (L : List (List Nat)) (at0 j : Nat) (hok : okL L) (hj : j ≤ L.length) (h1 : off L j ≤ at0) (h2 : j = L.length ∨ at0 < off L (j + 1)) (h3 : at0 ≤ (cat L).length) :
    scanP ((cat L).take at0) = (L.take j, off L j, if off L j = at0 then 0 else 10) := by
  have hokj : okL (L.take j) := fun l hl => hok l (List.mem_of_mem_take hl)
  by_cases hjl : j = L.length
  · subst hjl
    rw [off_full] at h1 ⊢
    have : at0 = (cat L).length := by omega
    subst this
    rw [List.take_length, List.take_length, if_pos rfl]
    have := scanP_cat L [] hok
    rw [List.append_nil] at this
    rw [this, scanP_nil]
    simp
  · have hlt : j < L.length := by omega
    have h4 := h2.resolve_left hjl
    rw [off_succ L j hlt] at h4
    have hl := hok L[j] (List.getElem_mem hlt)
    have hc : (cat L).take at0 = cat (L.take j) ++ (sealP L[j]).take (at0 - off L j) := by
      rw [cat_cut L j hlt, List.take_append, List.take_of_length_le (by show off L j ≤ at0; exact h1), List.take_append_of_le_length (by rw [sealP_len]; show at0 - off L j ≤ _; omega)]
      rfl
    rw [hc, scanP_cat _ _ hokj, scanP_cut _ _ hl.1 (by omega)]
    simp only [List.append_nil, Nat.add_zero, Prod.mk.injEq, true_and]
    refine ⟨rfl, ?_⟩
    by_cases he : off L j = at0
    · rw [if_pos he, if_pos (by omega)]
    · rw [if_neg he, if_neg (by omega)]

/-- Blocks of rows of different types are different. -/
theorem row_far {w w' : World} {base base' : Nat} {e e' : TypeId} {size size' : Nat} {v v' : Value} {n n' : Nat} {xs xs' : List Value} (h : w.ownsRow base e size v n xs) (h' : w.ownsRow base' e' size' v' n' xs') (hne : e ≠ e')
    (hk : ∀ b, b < w.heap.size → some b ≠ v'.ownBlock → w'.heap[b]? = w.heap[b]?) : w'.ownsRow base e size v n xs := by
  obtain ⟨h1, h0 | ⟨g, cap, cur, hv, hbs, hg, hn, hm, hs, hx⟩⟩ := h
  · exact ⟨h1, .inl h0⟩
  · refine ⟨h1, .inr ⟨g, cap, cur, hv, hbs, ?_, hn, hm, hs, hx⟩⟩
    rw [hk g (Array.getElem?_eq_some_iff.1 hg).1 ?_]
    · exact hg
    · obtain ⟨_, h2 | ⟨g', cap', cur', hv', _, hg', _⟩⟩ := h'
      · rw [h2.1]
        simp [Value.ownBlock]
      · rw [hv']
        simp only [Value.ownBlock, ne_eq, Option.some.injEq]
        intro ee
        rw [ee, hg'] at hg
        simp only [Option.some.injEq, Obj.cells.injEq] at hg
        exact hne hg.2.1.symm
theorem row_below {w w' : World} {base K : Nat} {e : TypeId} {size : Nat} {v : Value} {n : Nat} {xs : List Value} (h : w.ownsRow base e size v n xs) (hb : Below K w w') (hK : w.heap.size ≤ K) : w'.ownsRow base e size v n xs := by
  obtain ⟨h1, h0 | ⟨g, cap, cur, hv, hbs, hg, hn, hm, hs, hx⟩⟩ := h
  · exact ⟨h1, .inl h0⟩
  · refine ⟨h1, .inr ⟨g, cap, cur, hv, hbs, ?_, hn, hm, hs, hx⟩⟩
    rw [hb.block g (Nat.lt_of_lt_of_le (Array.getElem?_eq_some_iff.1 hg).1 hK)]
    exact hg
/-- append of bytes, with the blocks that stay. -/
theorem append_toB {w : World} {ops : Array Oper} {rest : List Oper} {o : Oper} {a : Act} {Q : Exit → Act → World → Prop} (hgd : o.guard = none) (s x : Operand)
    (ho : o.op = .call { callee := .builtin .append, args := #[s, x], argTypes := #[23, 23] })
    (base : Nat) (v : Value) (l : List Nat) (n : Nat) (hn : l.length = n) (hs : a.eval s = v) (hown : Own w base v l) (K : Nat) (A : Option Addr) (c : Nat) (m : List Nat) (k : Nat) (hk : m.length = k) (hx : a.eval x = .slice A k c) (hsrc : Src w K A c m)
    (N : Nat) (hN : n + k = N) (hlen : N ≤ 2000000) (hbase : base ≤ w.heap.size)
    (h : ∀ A' c' w', Own w' base (.slice A' N c') (l ++ m) → Below base w w' → (∀ b, b < w.heap.size → some b ≠ v.ownBlock → w'.heap[b]? = w.heap[b]?) → wpList Tryd.prog ops Q rest (a.put o.dst (.slice A' N c')) w') : wpList Tryd.prog ops Q (o :: rest) a w := by
  obtain ⟨i0, hi, hz0, hz1, hz2⟩ := info_parts info_u8
  subst hn hk hN
  rcases A with _ | ad
  · have hc : c = 0 := hsrc.nil rfl
    have hm : m = [] := List.eq_nil_of_length_eq_zero (by have := hsrc.le; omega)
    subst hc hm
    obtain ⟨A', c', rfl, _⟩ := hown.form
    refine wpList_append_own_none hgd s x 23 ho base 5 i0 1 Tryd.underlying23 hi _ l.length (cellsB l) hs hown hx ?_
    exact h A' c' w (by rw [List.append_nil]; exact hown) (Below.refl _ _) (fun _ _ _ => rfl)
  · refine wpList_append_own w hgd s x 23 ho base 5 i0 (.int .u8 0) 1 1 Tryd.underlying23 hi hz0 hz1 hz2 rfl (by decide) v l.length (cellsB l) hs hown ad m.length c (cellsB m) hx (by rw [cellsB_len, Nat.mul_one]) (fun j u hj => ?_) (cellsB_one m)
      (by simp only [maxLen]; omega) (by omega) hbase fun v' w' hown' hg _ => ?_
    · obtain ⟨n, h1, rfl⟩ := cellsB_get hj
      exact (hsrc.at_ ad rfl).2 j n h1
    · have ho' : Own w' base v' (l ++ m) := by
        unfold Own
        rw [cellsB_app, List.length_append]
        exact hown'
      obtain ⟨A', c', rfl, _⟩ := ho'.form
      rw [List.length_append] at ho' ⊢
      exact h A' c' w' ho' ((Below.refl _ _).grown hg hbase (fun k hk => (hown.lt k hk).1)) hg.block

/-- A row of ints of the call's own. -/
def cellsI (l : List Nat) : List Value := l.map fun (n : Nat) => Value.int .i64 (n : Int)
def OwnN (w : World) (base : Nat) (v : Value) (l : List Nat) : Prop := w.ownsRow base 3 1 v l.length (cellsI l)
theorem info_int : (Tryd.prog.info? 3).map (fun i => (i.zero, i.size, i.bytes)) = some (some (.int .i64 0), 1, 8) := by kernel_rfl
theorem OwnN.zero (w : World) : OwnN (w.alloc (.cells #[.int .i64 0] 3)) w.heap.size (.slice (some ⟨w.heap.size, 0, none⟩) 1 1) [0] :=
  ⟨rfl, .inr ⟨w.heap.size, 1, _, rfl, Nat.le_refl _, heap_alloc_new w _, Nat.le_refl _, by simp [maxLen], rfl, rfl⟩⟩
theorem OwnN.form {w : World} {base : Nat} {v : Value} {l : List Nat} (h : OwnN w base v l) (h0 : 0 < l.length) : ∃ g c, v = .slice (some ⟨g, 0, none⟩) l.length c ∧ ∀ (i n : Nat), l[i]? = some n → w.cell? ⟨g, i, none⟩ = some (.int .i64 (n : Int)) := by
  obtain ⟨_, h2 | ⟨g, cap, cur, hv, hbs, hg, hn, hm, hs, hx⟩⟩ := h
  · omega
  · refine ⟨g, cap, hv, fun i n hi => ?_⟩
    have hil : i < l.length := (List.getElem?_eq_some_iff.1 hi).1
    rw [cell_of_row w g i cur _ _ hg]
    have h2 : (cellsI l)[i]? = some (Value.int .i64 (n : Int)) := by simp [cellsI, hi]
    rw [← hx, List.getElem?_take, if_pos (by omega)] at h2
    simpa using h2
theorem append_int {w : World} {ops : Array Oper} {rest : List Oper} {o : Oper} {a : Act} {Q : Exit → Act → World → Prop} (hgd : o.guard = none) (s x : Operand)
    (ho : o.op = .call { callee := .builtin .append, args := #[s, x], argTypes := #[42, 42] })
    (base z : Nat) (v : Value) (l : List Nat) (n : Nat) (hn : l.length = n) (hs : a.eval s = v) (hown : OwnN (w.alloc (.cells #[.int .i64 (z : Int)] 3)) base v l)
    (hx : a.eval x = .slice (some ⟨w.heap.size, 0, none⟩) 1 1) (hlen : n + 1 ≤ 2000000) (hbase : base ≤ w.heap.size)
    (h : ∀ g' c' w', OwnN w' base (.slice (some ⟨g', 0, none⟩) (n + 1) c') (l ++ [z]) → Below base (w.alloc (.cells #[.int .i64 (z : Int)] 3)) w' → (∀ b, b < (w.alloc (.cells #[.int .i64 (z : Int)] 3)).heap.size → some b ≠ v.ownBlock → w'.heap[b]? = (w.alloc (.cells #[.int .i64 (z : Int)] 3)).heap[b]?) → wpList Tryd.prog ops Q rest (a.put o.dst (.slice (some ⟨g', 0, none⟩) (n + 1) c')) w') : wpList Tryd.prog ops Q (o :: rest) a (w.alloc (.cells #[.int .i64 (z : Int)] 3)) := by
  obtain ⟨i0, hi, hz0, hz1, hz2⟩ := info_parts info_int
  subst hn
  have hb' : base ≤ (w.alloc (.cells #[.int .i64 (z : Int)] 3)).heap.size := by simp; omega
  refine wpList_append_own _ hgd s x 42 ho base 3 i0 _ 1 8 Tryd.underlying42 hi hz0 hz1 hz2 rfl (by decide) v l.length (cellsI l) hs hown ⟨w.heap.size, 0, none⟩ 1 1 [.int .i64 (z : Int)] hx rfl (news_one w _ 3) (by intro u hu; simp only [List.mem_singleton] at hu; subst hu; rfl)
    (by simp only [maxLen]; omega) (by omega) hb' fun v' w' hown' hg _ => ?_
  have ho' : OwnN w' base v' (l ++ [z]) := by
    unfold OwnN
    rw [List.length_append, show cellsI (l ++ [z]) = cellsI l ++ [.int .i64 (z : Int)] by simp [cellsI]]
    exact hown'
  obtain ⟨g', c', rfl, _⟩ := ho'.form (by simp)
  rw [List.length_append] at ho' ⊢
  exact h g' c' w' ho' ((Below.refl _ _).grown hg hb' (fun k hk => (hown.lt k hk).1)) hg.block
end Go.Proofs.YtklpjdcmppohkaaDoor
