/-
  Rows of strings of the call's own.
-/
import Derived.Test.YtkffgdndglfcfaaGreatDoorWords
import Derived.Test.YtkffgdndglfcfaaGreatDoorAppend
import Derived.Laws.OwnMore
namespace Go.Proofs.YtkffgdndglfcfaaGreatDoor
open Go.RowKit

def baO (l : List UInt8) : ByteArray := ⟨l.toArray⟩
theorem baO_list (l : List UInt8) : (baO l).data.toList = l := rfl
theorem eq_baO {s : ByteArray} {l : List UInt8} (h : s.data.toList = l) : s = baO l := by rw [← h]; rfl
def cellsO (L : List (List UInt8)) : List Value := L.map fun l => .string (baO l)
theorem cellsO_len (L : List (List UInt8)) : (cellsO L).length = L.length := by simp [cellsO]
/-- v is a row of strings of the call's own, in a block from base on, and holds L. -/
def OwnO (w : World) (base : Nat) (v : Value) (L : List (List UInt8)) : Prop := w.ownsRow base 9 1 v L.length (cellsO L)
theorem OwnO.nil (w : World) (base : Nat) : OwnO w base (.slice none 0 0) [] := ⟨rfl, .inl ⟨rfl, rfl⟩⟩
theorem OwnO.alloc {w : World} {base : Nat} {v : Value} {L : List (List UInt8)} (h : OwnO w base v L) (o : Obj) : OwnO (w.alloc o) base v L := World.ownsRow.alloc h o
theorem info_str : (Tryz.prog.info? 9).map (fun i => (i.zero, i.size, i.bytes)) = some (some (.string { data := #[] }), 1, 16) := by kernel_rfl
theorem OwnO.form {w : World} {base : Nat} {v : Value} {L : List (List UInt8)} (h : OwnO w base v L) : (v = .slice none 0 0 ∧ L = []) ∨ ∃ g c, v = .slice (some ⟨g, 0, none⟩) L.length c ∧ base ≤ g ∧ g < w.heap.size ∧ L.length ≤ c ∧ c ≤ 9223372036854775807 ∧ ∀ (j : Nat) (l : List UInt8), L[j]? = some l → w.cell? ⟨g, j, none⟩ = some (.string (baO l)) := by
  obtain ⟨_, h0 | ⟨g, cap, cur, hv, hb, hg, hn, hm, hs, hx⟩⟩ := h
  · exact .inl ⟨h0.1, List.eq_nil_of_length_eq_zero h0.2⟩
  · refine .inr ⟨g, cap, hv, hb, (Array.getElem?_eq_some_iff.1 hg).1, hn, by unfold maxLen at hm; exact hm, fun j l hj => ?_⟩
    rw [cell_of_row w g j cur _ _ hg]
    have hjl : j < L.length := (List.getElem?_eq_some_iff.1 hj).1
    have h2 : (cellsO L)[j]? = some (Value.string (baO l)) := by simp [cellsO, hj]
    rw [← hx, List.getElem?_take, if_pos (by omega)] at h2
    simpa using h2
theorem OwnO.below {w w' : World} {base K : Nat} {v : Value} {L : List (List UInt8)} (h : OwnO w base v L) (hb : Below K w w') (hK : w.heap.size ≤ K) : OwnO w' base v L := by
  obtain ⟨h1, h0 | ⟨g, cap, cur, hv, hbs, hg, hn, hm, hs, hx⟩⟩ := h
  · exact ⟨h1, .inl h0⟩
  · refine ⟨h1, .inr ⟨g, cap, cur, hv, hbs, ?_, hn, hm, hs, hx⟩⟩
    rw [hb.block g (Nat.lt_of_lt_of_le (Array.getElem?_eq_some_iff.1 hg).1 hK)]
    exact hg
theorem OwnO.one (w : World) (base : Nat) (l : List UInt8) (hb : base ≤ w.heap.size) : OwnO (w.alloc (.cells #[.string (baO l)] 9)) base (.slice (some ⟨w.heap.size, 0, none⟩) 1 1) [l] :=
  ⟨rfl, .inr ⟨w.heap.size, 1, #[.string (baO l)], rfl, hb, heap_alloc_new w _, Nat.le_refl _, by simp [maxLen], rfl, rfl⟩⟩
theorem cellsO_app (L M : List (List UInt8)) : cellsO (L ++ M) = cellsO L ++ cellsO M := by simp [cellsO]
theorem append_strs {w : World} {ops : Array Oper} {rest : List Oper} {o : Oper} {a : Act} {Q : Exit → Act → World → Prop} (hgd : o.guard = none) (s x : Operand)
    (ho : o.op = .call { callee := .builtin .append, args := #[s, x], argTypes := #[23, 23] })
    (base : Nat) (v : Value) (L : List (List UInt8)) (n : Nat) (hn : L.length = n) (hs : a.eval s = v) (hown : OwnO w base v L)
    (ad : Addr) (m c : Nat) (M : List (List UInt8)) (hm : M.length = m) (hx : a.eval x = .slice (some ad) m c)
    (hsrc : ∀ (i : Nat) (l : List UInt8), M[i]? = some l → w.cell? (ad.add i) = some (.string (baO l)))
    (N : Nat) (hN : n + m = N) (hlen : N ≤ 2000000) (hbase : base ≤ w.heap.size)
    (h : ∀ A' c' w', OwnO w' base (.slice A' N c') (L ++ M) → Below base w w' → wpList Tryz.prog ops Q rest (a.put o.dst (.slice A' N c')) w') : wpList Tryz.prog ops Q (o :: rest) a w := by
  obtain ⟨i0, hi, hz0, hz1, hz2⟩ := info_parts info_str
  subst hn hm hN
  refine wpList_append_own w hgd s x 23 ho base 9 i0 _ 1 16 Tryz.underlying23 hi hz0 hz1 hz2 rfl (by decide) v L.length (cellsO L) hs hown ad M.length c (cellsO M) hx (by rw [cellsO_len, Nat.mul_one]) (fun j u hj => ?_) (fun u hu => ?_)
    (by simp only [maxLen]; omega) (by omega) hbase fun v' w' hown' hg _ => ?_
  · unfold cellsO at hj
    rw [List.getElem?_map, Option.map_eq_some_iff] at hj
    obtain ⟨l, h1, rfl⟩ := hj
    exact hsrc j l h1
  · obtain ⟨l, _, rfl⟩ := List.mem_map.1 hu
    rfl
  · have hO : OwnO w' base v' (L ++ M) := by
      unfold OwnO
      rw [cellsO_app, List.length_append]
      exact hown'
    rcases hO.form with ⟨h1, h2⟩ | ⟨g, c', h1, _⟩
    · rw [h1] at hO ⊢
      have h3 := congrArg List.length h2
      rw [List.length_append] at h3
      rw [show L.length + M.length = 0 from by simpa using h3] at h
      exact h none 0 w' hO ((Below.refl _ _).grown hg hbase (fun k hk => (hown.lt k hk).1))
    · rw [h1, List.length_append] at hO
      rw [h1, List.length_append]
      exact h (some ⟨g, 0, none⟩) c' w' hO ((Below.refl _ _).grown hg hbase (fun k hk => (hown.lt k hk).1))
/-- A string put into its place. -/
theorem OwnO.put {w : World} {base g c : Nat} {L : List (List UInt8)} (h : OwnO w base (.slice (some ⟨g, 0, none⟩) L.length c) L) (j : Nat) (l : List UInt8) : OwnO (w.setCell ⟨g, j, none⟩ (.string (baO l))) base (.slice (some ⟨g, 0, none⟩) L.length c) (L.set j l) := by
  have h1 := (World.ownsRow.stored h j (.string (baO l))).1
  unfold OwnO
  have e : cellsO (L.set j l) = (cellsO L).set j (.string (baO l)) := by
    unfold cellsO
    rw [List.map_set]
  rw [e, List.length_set]
  exact h1
end Go.Proofs.YtkffgdndglfcfaaGreatDoor
