/-
  Rows of numbers of the call's own.
-/
import Derived.Test.YtpmcdkalmdlahaaDoorWords
import Derived.Test.YtpmcdkalmdlahaaDoorAppend
import Derived.Laws.OwnMore
import Derived.Lib.AppendIntMem
namespace Go.Proofs.YtpmcdkalmdlahaaDoor
open Go.RowKit

/-- A row of ints of the call's own. -/
def cellsI (l : List Nat) : List Value := l.map fun (n : Nat) => Value.int .i64 (n : Int)
def OwnN (w : World) (base : Nat) (v : Value) (l : List Nat) : Prop := w.ownsRow base 3 1 v l.length (cellsI l)
theorem info_int : (Tryd.prog.info? 3).map (fun i => (i.zero, i.size, i.bytes)) = some (some (.int .i64 0), 1, 8) := by kernel_rfl
theorem OwnN.form {w : World} {base : Nat} {v : Value} {l : List Nat} (h : OwnN w base v l) (h0 : 0 < l.length) : ∃ g c, v = .slice (some ⟨g, 0, none⟩) l.length c ∧ ∀ (i n : Nat), l[i]? = some n → w.cell? ⟨g, i, none⟩ = some (.int .i64 (n : Int)) := by
  obtain ⟨_, h2 | ⟨g, cap, cur, hv, hbs, hg, hn, hm, hs, hx⟩⟩ := h
  · omega
  · refine ⟨g, cap, hv, fun i n hi => ?_⟩
    have hil : i < l.length := (List.getElem?_eq_some_iff.1 hi).1
    rw [cell_of_row w g i cur _ _ hg]
    have h2 : (cellsI l)[i]? = some (Value.int .i64 (n : Int)) := by simp [cellsI, hi]
    rw [← hx, List.getElem?_take, if_pos (by omega)] at h2
    simpa using h2
theorem append_int {w : World} {ops : Array Oper} {rest : List Oper} {o : Oper} {a : Act} {Q : Exit → Act → World → Prop} (hgd : o.guard = none) (s x : Operand)
    (ho : o.op = .call { callee := .builtin .append, args := #[s, x], argTypes := #[43, 43] })
    (base z : Nat) (v : Value) (l : List Nat) (n : Nat) (hn : l.length = n) (hs : a.eval s = v) (hown : OwnN (w.alloc (.cells #[.int .i64 (z : Int)] 3)) base v l)
    (hx : a.eval x = .slice (some ⟨w.heap.size, 0, none⟩) 1 1) (hlen : n + 1 ≤ 2000000) (hbase : base ≤ w.heap.size)
    (h : ∀ g' c' w', OwnN w' base (.slice (some ⟨g', 0, none⟩) (n + 1) c') (l ++ [z]) → Below base (w.alloc (.cells #[.int .i64 (z : Int)] 3)) w' → (∀ b, b < (w.alloc (.cells #[.int .i64 (z : Int)] 3)).heap.size → some b ≠ v.ownBlock → w'.heap[b]? = (w.alloc (.cells #[.int .i64 (z : Int)] 3)).heap[b]?) → wpList Tryd.prog ops Q rest (a.put o.dst (.slice (some ⟨g', 0, none⟩) (n + 1) c')) w') : wpList Tryd.prog ops Q (o :: rest) a (w.alloc (.cells #[.int .i64 (z : Int)] 3)) := by
  obtain ⟨i0, hi, hz0, hz1, hz2⟩ := info_parts info_int
  subst hn
  have hb' : base ≤ (w.alloc (.cells #[.int .i64 (z : Int)] 3)).heap.size := by simp; omega
  refine wpList_append_own _ hgd s x 43 ho base 3 i0 _ 1 8 Tryd.underlying43 hi hz0 hz1 hz2 rfl (by decide) v l.length (cellsI l) hs hown ⟨w.heap.size, 0, none⟩ 1 1 [.int .i64 (z : Int)] hx rfl (news_one w _ 3) (by intro u hu; simp only [List.mem_singleton] at hu; subst hu; rfl)
    (by simp only [maxLen]; omega) (by omega) hb' fun v' w' hown' hg _ => ?_
  have ho' : OwnN w' base v' (l ++ [z]) := by
    unfold OwnN
    rw [List.length_append, show cellsI (l ++ [z]) = cellsI l ++ [.int .i64 (z : Int)] by simp [cellsI]]
    exact hown'
  obtain ⟨g', c', rfl, _⟩ := ho'.form (by simp)
  rw [List.length_append] at ho' ⊢
  exact h g' c' w' ho' ((Below.refl _ _).grown hg hb' (fun k hk => (hown.lt k hk).1)) hg.block
theorem OwnN.nil (w : World) (base : Nat) : OwnN w base (.slice none 0 0) [] := ⟨rfl, .inl ⟨rfl, rfl⟩⟩
theorem OwnN.alloc {w : World} {base : Nat} {v : Value} {l : List Nat} (h : OwnN w base v l) (o : Obj) : OwnN (w.alloc o) base v l := World.ownsRow.alloc h o
theorem OwnN.below {w w' : World} {base K : Nat} {v : Value} {l : List Nat} (h : OwnN w base v l) (hb : Below K w w') (hK : w.heap.size ≤ K) : OwnN w' base v l := by
  obtain ⟨h1, h0 | ⟨g, cap, cur, hv, hbs, hg, hn, hm, hs, hx⟩⟩ := h
  · exact ⟨h1, .inl h0⟩
  · refine ⟨h1, .inr ⟨g, cap, cur, hv, hbs, ?_, hn, hm, hs, hx⟩⟩
    rw [hb.block g (Nat.lt_of_lt_of_le (Array.getElem?_eq_some_iff.1 hg).1 hK)]
    exact hg
theorem OwnN.base_le {w : World} {base base' : Nat} {v : Value} {l : List Nat} (h : OwnN w base v l) (hb : base' ≤ base) : OwnN w base' v l := by
  obtain ⟨h1, h0 | ⟨g, cap, cur, hv, hbs, hg, hn, hm, hs, hx⟩⟩ := h
  · exact ⟨h1, .inl h0⟩
  · exact ⟨h1, .inr ⟨g, cap, cur, hv, Nat.le_trans hb hbs, hg, hn, hm, hs, hx⟩⟩
end Go.Proofs.YtpmcdkalmdlahaaDoor
