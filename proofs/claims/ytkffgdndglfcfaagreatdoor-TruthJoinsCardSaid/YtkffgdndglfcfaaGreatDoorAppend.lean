/-
  append of bytes onto a slice of the call's own, whatever the source is: one law for the walk.
-/
import Derived.Test.YtkffgdndglfcfaaGreatDoorWords
namespace Go.Proofs.YtkffgdndglfcfaaGreatDoor
open Go.RowKit

theorem append_src {w : World} {ops : Array Oper} {rest : List Oper} {o : Oper} {a : Act} {Q : Exit → Act → World → Prop} (hgd : o.guard = none) (s x : Operand)
    (ho : o.op = .call { callee := .builtin .append, args := #[s, x], argTypes := #[40, 40] })
    (base : Nat) (v : Value) (l : List Nat) (hs : a.eval s = v) (hown : Own w base v l) (K : Nat) (A : Option Addr) (c : Nat) (m : List Nat) (hx : a.eval x = .slice A m.length c) (hsrc : Src w K A c m)
    (hlen : l.length + m.length ≤ 2000000) (hbase : base ≤ w.heap.size)
    (h : ∀ A' c' w', Own w' base (.slice A' (l ++ m).length c') (l ++ m) → Below base w w' → wpList Tryz.prog ops Q rest (a.put o.dst (.slice A' (l ++ m).length c')) w') : wpList Tryz.prog ops Q (o :: rest) a w := by
  obtain ⟨i0, hi, hz0, hz1, hz2⟩ := info_parts info_u8
  rcases A with _ | ad
  · have hc : c = 0 := hsrc.nil rfl
    have hm : m = [] := List.eq_nil_of_length_eq_zero (by have := hsrc.le; omega)
    subst hc hm
    obtain ⟨A', c', rfl, _⟩ := hown.form
    refine wpList_append_own_none hgd s x 40 ho base 5 i0 1 Tryz.underlying40 hi _ l.length (cellsB l) hs hown hx ?_
    have := h A' c' w (by rw [List.append_nil]; exact hown) (Below.refl _ _)
    rwa [List.append_nil] at this
  · refine wpList_append_own w hgd s x 40 ho base 5 i0 (.int .u8 0) 1 1 Tryz.underlying40 hi hz0 hz1 hz2 rfl (by decide) v l.length (cellsB l) hs hown ad m.length c (cellsB m) hx (by rw [cellsB_len, Nat.mul_one]) (fun j u hj => ?_) (cellsB_one m)
      (by simp only [maxLen]; omega) (by omega) hbase fun v' w' hown' hg _ => ?_
    · obtain ⟨n, h1, rfl⟩ := cellsB_get hj
      exact (hsrc.at_ ad rfl).2 j n h1
    · have ho' : Own w' base v' (l ++ m) := by
        unfold Own
        rw [cellsB_app, List.length_append]
        exact hown'
      obtain ⟨A', c', rfl, _⟩ := ho'.form
      exact h A' c' w' ho' ((Below.refl _ _).grown hg hbase (fun k hk => (hown.lt k hk).1))
theorem append_srcN {w : World} {ops : Array Oper} {rest : List Oper} {o : Oper} {a : Act} {Q : Exit → Act → World → Prop} (hgd : o.guard = none) (s x : Operand)
    (ho : o.op = .call { callee := .builtin .append, args := #[s, x], argTypes := #[40, 40] })
    (base : Nat) (v : Value) (l : List Nat) (hs : a.eval s = v) (hown : Own w base v l) (K : Nat) (A : Option Addr) (c : Nat) (m : List Nat) (k : Nat) (hk : m.length = k) (hx : a.eval x = .slice A k c) (hsrc : Src w K A c m)
    (hlen : l.length + m.length ≤ 2000000) (hbase : base ≤ w.heap.size)
    (h : ∀ A' c' w', Own w' base (.slice A' (l ++ m).length c') (l ++ m) → Below base w w' → wpList Tryz.prog ops Q rest (a.put o.dst (.slice A' (l ++ m).length c')) w') : wpList Tryz.prog ops Q (o :: rest) a w := by
  subst hk
  exact append_src hgd s x ho base v l hs hown K A c m hx hsrc hlen hbase h
/-- The same, with what is as it was: every cell of another block than the one that was appended to. -/
theorem append_srcF {w : World} {ops : Array Oper} {rest : List Oper} {o : Oper} {a : Act} {Q : Exit → Act → World → Prop} (hgd : o.guard = none) (s x : Operand)
    (ho : o.op = .call { callee := .builtin .append, args := #[s, x], argTypes := #[40, 40] })
    (base : Nat) (v : Value) (l : List Nat) (hs : a.eval s = v) (hown : Own w base v l) (K : Nat) (A : Option Addr) (c : Nat) (m : List Nat) (k : Nat) (hk : m.length = k) (hx : a.eval x = .slice A k c) (hsrc : Src w K A c m)
    (hlen : l.length + m.length ≤ 2000000) (hbase : base ≤ w.heap.size)
    (h : ∀ A' c' w', Own w' base (.slice A' (l.length + k) c') (l ++ m) → Below base w w' → (∀ p : Addr, p.block < w.heap.size → some p.block ≠ v.ownBlock → w'.cell? p = w.cell? p) → wpList Tryz.prog ops Q rest (a.put o.dst (.slice A' (l.length + k) c')) w') : wpList Tryz.prog ops Q (o :: rest) a w := by
  obtain ⟨i0, hi, hz0, hz1, hz2⟩ := info_parts info_u8
  subst hk
  rcases A with _ | ad
  · have hc : c = 0 := hsrc.nil rfl
    have hm : m = [] := List.eq_nil_of_length_eq_zero (by have := hsrc.le; omega)
    subst hc hm
    obtain ⟨A', c', rfl, _⟩ := hown.form
    refine wpList_append_own_none hgd s x 40 ho base 5 i0 1 Tryz.underlying40 hi _ l.length (cellsB l) hs hown hx ?_
    have := h A' c' w (by rw [List.append_nil]; exact hown) (Below.refl _ _) (fun _ _ _ => rfl)
    exact this
  · refine wpList_append_own w hgd s x 40 ho base 5 i0 (.int .u8 0) 1 1 Tryz.underlying40 hi hz0 hz1 hz2 rfl (by decide) v l.length (cellsB l) hs hown ad m.length c (cellsB m) hx (by rw [cellsB_len, Nat.mul_one]) (fun j u hj => ?_) (cellsB_one m)
      (by simp only [maxLen]; omega) (by omega) hbase fun v' w' hown' hg _ => ?_
    · obtain ⟨n, h1, rfl⟩ := cellsB_get hj
      exact (hsrc.at_ ad rfl).2 j n h1
    · have ho' : Own w' base v' (l ++ m) := by
        unfold Own
        rw [cellsB_app, List.length_append]
        exact hown'
      obtain ⟨A', c', rfl, _⟩ := ho'.form
      rw [List.length_append] at ho' ⊢
      exact h A' c' w' ho' ((Below.refl _ _).grown hg hbase (fun k hk => (hown.lt k hk).1)) (fun p hp hne => hg.cell_far p hp hne)
/-- The block that holds one byte. -/
theorem Src.one (w : World) (x : Nat) : Src (w.alloc (.cells #[.int .u8 (x : Int)] 5)) (w.heap.size + 1) (some ⟨w.heap.size, 0, none⟩) 1 [x] :=
  ⟨Nat.le_refl _, (by simp), fun ad e => by
    injection e with e
    subst e
    refine ⟨fun _ => Nat.lt_succ_self _, fun j n hj => news_one w _ _ j _ ?_⟩
    match j, hj with
    | 0, hj => simp at hj; subst hj; rfl⟩
/-- The empty slice that a literal makes. -/
theorem Own.lit (w : World) : Own (w.alloc (.cells #[] 5)) w.heap.size (.slice (some ⟨w.heap.size, 0, none⟩) 0 0) [] :=
  World.ownsRow_made w #[] 0 (Nat.le_refl _) (Nat.zero_le _) rfl
/-- A slice cut at its end. -/
theorem Src.take {w : World} {K : Nat} {A : Option Addr} {c : Nat} {l : List Nat} (h : Src w K A c l) (n : Nat) : Src w K A c (l.take n) := by
  refine ⟨Nat.le_trans (List.length_take_le' ..) h.le, h.nil, fun ad e => ⟨fun h0 => (h.at_ ad e).1 (Nat.lt_of_lt_of_le h0 (List.length_take_le' ..)), fun j x hj => ?_⟩⟩
  rw [List.getElem?_take] at hj
  split at hj
  · exact (h.at_ ad e).2 j x hj
  · cases hj
theorem Own.src {w : World} {base : Nat} {A : Option Addr} {c : Nat} {n : Nat} {l : List Nat} (h : Own w base (.slice A n c) l) : Src w w.heap.size A c l := by
  obtain ⟨A', c', hv, hs⟩ := h.form
  injection hv with h1 h2 h3
  subst h1 h3
  exact hs
/-- A slice of the call's own still reads as it did, where the blocks from its base on are as they were. -/
theorem Own.srcFar {w w' : World} {base : Nat} {A : Option Addr} {c n : Nat} {l : List Nat} (h : Own w base (.slice A n c) l) (hf : ∀ p : Addr, p.block < w.heap.size → base ≤ p.block → w'.cell? p = w.cell? p) : Src w' w.heap.size A c l := by
  have hs := h.src
  refine ⟨hs.le, hs.nil, fun ad e => ⟨(hs.at_ ad e).1, fun j x hj => ?_⟩⟩
  have hjl : j < l.length := (List.getElem?_eq_some_iff.1 hj).1
  have hb : base ≤ ad.block := (h.lt ad.block (by rw [e]; rfl)).1
  rw [hf _ (by rw [add_block]; exact (hs.at_ ad e).1 (by omega)) (by rw [add_block]; exact hb)]
  exact (hs.at_ ad e).2 j x hj
theorem Own.cap {w : World} {base : Nat} {A : Option Addr} {c : Nat} {n : Nat} {l : List Nat} (h : Own w base (.slice A n c) l) : c ≤ 9223372036854775807 := by
  rcases h.2 with ⟨hv, _⟩ | ⟨g, cap, cur, hv, _, _, _, hm, _⟩
  · injection hv with _ _ h3
    omega
  · injection hv with _ _ h3
    unfold maxLen at hm
    omega
/-- A struct of three cells in a new block is there as long as only what is above it turns. -/
theorem box3 {w wi : World} {a b c : Value} {T : TypeId} (h : Below (w.heap.size + 1) (w.alloc (.cells #[a, b, c] T)) wi) :
    wi.cell? ⟨w.heap.size, 0, none⟩ = some a ∧ wi.cell? ⟨w.heap.size, 1, none⟩ = some b ∧ wi.cell? ⟨w.heap.size, 2, none⟩ = some c :=
  ⟨(h.cell (p := ⟨w.heap.size, 0, none⟩) (by simp)).trans (by simp), (h.cell (p := ⟨w.heap.size, 1, none⟩) (by simp)).trans (by simp), (h.cell (p := ⟨w.heap.size, 2, none⟩) (by simp)).trans (by simp)⟩
end Go.Proofs.YtkffgdndglfcfaaGreatDoor
