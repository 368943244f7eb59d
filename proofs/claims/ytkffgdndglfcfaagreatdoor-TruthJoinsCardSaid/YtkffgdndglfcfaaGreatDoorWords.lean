/-
  Words for slices of bytes: a slice that reads as a list, and a slice of the call's own that holds a list.
-/
import Derived.Test.YtkffgdndglfcfaaGreatDoorRows
import Derived.Handy
import Derived.Lib.Hide
import Derived.Laws.AppendOwnNone
import Derived.Deep.AppendLies
import Derived.Outline
namespace Go.Proofs.YtkffgdndglfcfaaGreatDoor
open Go.RowKit

/-- The cells of a list of bytes. -/
def cellsB (l : List Nat) : List Value := l.map fun (n : Nat) => Value.int .u8 (n : Int)
theorem cellsB_len (l : List Nat) : (cellsB l).length = l.length := by simp [cellsB]
theorem cellsB_app (l m : List Nat) : cellsB (l ++ m) = cellsB l ++ cellsB m := by simp [cellsB]
theorem cellsB_one (l : List Nat) : ∀ u ∈ cellsB l, u.oneCell' = true := by
  intro u hu
  simp only [cellsB, List.mem_map] at hu
  obtain ⟨n, _, rfl⟩ := hu
  rfl
theorem cellsB_get {l : List Nat} {j : Nat} {u : Value} (h : (cellsB l)[j]? = some u) : ∃ n, l[j]? = some n ∧ u = .int .u8 (n : Int) := by
  simp only [cellsB, List.getElem?_map, Option.map_eq_some_iff] at h
  obtain ⟨n, h1, rfl⟩ := h
  exact ⟨n, h1, rfl⟩
theorem cellsB_inj {l m : List Nat} (h : cellsB l = cellsB m) : l = m := by
  induction l generalizing m with
  | nil => cases m with
    | nil => rfl
    | cons b m => simp [cellsB] at h
  | cons a l ih =>
    cases m with
    | nil => simp [cellsB] at h
    | cons b m =>
      simp only [cellsB, List.map_cons, List.cons.injEq, Value.int.injEq, true_and] at h
      have : a = b := by omega
      rw [this, ih h.2]

/-- The slice at A, of capacity c, reads as l, below block K. -/
structure Src (w : World) (K : Nat) (A : Option Addr) (c : Nat) (l : List Nat) : Prop where
  le : l.length ≤ c
  nil : A = none → c = 0
  at_ : ∀ ad, A = some ad → (0 < l.length → ad.block < K) ∧ ∀ (j n : Nat), l[j]? = some n → w.cell? (ad.add j) = some (.int .u8 (n : Int))

theorem Src.none_ (w : World) (K : Nat) : Src w K none 0 [] := ⟨Nat.le_refl _, fun _ => rfl, fun _ h => by cases h⟩
theorem add_block (a : Addr) (n : Nat) : (a.add n).block = a.block := by unfold Addr.add; split <;> rfl
theorem Src.keep {w w' : World} {K : Nat} {A : Option Addr} {c : Nat} {l : List Nat} (h : Src w K A c l) (hk : ∀ p : Addr, p.block < K → w'.cell? p = w.cell? p) : Src w' K A c l := by
  refine ⟨h.le, h.nil, fun ad e => ⟨(h.at_ ad e).1, fun j n hj => ?_⟩⟩
  have hl : j < l.length := by
    rcases Nat.lt_or_ge j l.length with h0 | h0
    · exact h0
    · rw [List.getElem?_eq_none h0] at hj; cases hj
  rw [hk _ (by rw [add_block]; exact (h.at_ ad e).1 (by omega))]
  exact (h.at_ ad e).2 j n hj
theorem Src.below {w w' : World} {K : Nat} {A : Option Addr} {c : Nat} {l : List Nat} (h : Src w K A c l) (hb : Below K w w') : Src w' K A c l := h.keep fun _ hp => hb.cell hp
theorem Src.more {w : World} {K K' : Nat} {A : Option Addr} {c : Nat} {l : List Nat} (h : Src w K A c l) (hb : K ≤ K') : Src w K' A c l :=
  ⟨h.le, h.nil, fun ad e => ⟨fun h0 => Nat.lt_of_lt_of_le ((h.at_ ad e).1 h0) hb, (h.at_ ad e).2⟩⟩

theorem news_one (w : World) (x : Value) (t : TypeId) : ∀ j u, [x][j]? = some u → (w.alloc (.cells #[x] t)).cell? ((⟨w.heap.size, 0, none⟩ : Addr).add j) = some u :=
  World.news_of_block (cs := #[x]) (fr := (0, 0)) (heap_alloc_new w _)
theorem one_u8 (x : Int) : ∀ u ∈ [Value.int .u8 x], u.oneCell' = true := by
  intro u hu
  simp only [List.mem_singleton] at hu
  subst hu
  rfl

/-- v is a slice of the call's own, in a block from base on, and holds l. -/
def Own (w : World) (base : Nat) (v : Value) (l : List Nat) : Prop := w.ownsRow base 5 1 v l.length (cellsB l)

theorem info_u8 : (Tryz.prog.info? 5).map (fun i => (i.zero, i.size, i.bytes)) = some (some (.int .u8 0), 1, 1) := by kernel_rfl

theorem Own.form {w : World} {base : Nat} {v : Value} {l : List Nat} (h : Own w base v l) : ∃ A c, v = .slice A l.length c ∧ Src w w.heap.size A c l := by
  obtain ⟨_, h0 | ⟨g, cap, cur, hv, hb, hg, hn, hm, hs, hx⟩⟩ := h
  · have : l = [] := List.eq_nil_of_length_eq_zero h0.2
    subst this
    exact ⟨none, 0, h0.1, Src.none_ _ _⟩
  · refine ⟨_, cap, hv, hn, (by simp), fun ad e => ?_⟩
    injection e with e
    subst e
    refine ⟨fun _ => (Array.getElem?_eq_some_iff.1 hg).1, fun j n hj => ?_⟩
    have hadd : (⟨g, 0, none⟩ : Addr).add j = ⟨g, j, none⟩ := by unfold Addr.add; split <;> simp_all
    rw [hadd, cell_of_row w g j cur _ _ hg]
    have hjl : j < l.length := (List.getElem?_eq_some_iff.1 hj).1
    have h2 : (cellsB l)[j]? = some (Value.int .u8 (n : Int)) := by simp [cellsB, hj]
    rw [← hx, List.getElem?_take, if_pos (by omega)] at h2
    simpa using h2
theorem Own.below {w w' : World} {base K : Nat} {v : Value} {l : List Nat} (h : Own w base v l) (hb : Below K w w') (hK : w.heap.size ≤ K) : Own w' base v l := by
  obtain ⟨h1, h0 | ⟨g, cap, cur, hv, hbs, hg, hn, hm, hs, hx⟩⟩ := h
  · exact ⟨h1, .inl h0⟩
  · refine ⟨h1, .inr ⟨g, cap, cur, hv, hbs, ?_, hn, hm, hs, hx⟩⟩
    rw [hb.block g (Nat.lt_of_lt_of_le (Array.getElem?_eq_some_iff.1 hg).1 hK)]
    exact hg
theorem Own.base_le {w : World} {base base' : Nat} {v : Value} {l : List Nat} (h : Own w base v l) (hb : base' ≤ base) : Own w base' v l := by
  obtain ⟨h1, h0 | ⟨g, cap, cur, hv, hbs, hg, hn, hm, hs, hx⟩⟩ := h
  · exact ⟨h1, .inl h0⟩
  · exact ⟨h1, .inr ⟨g, cap, cur, hv, Nat.le_trans hb hbs, hg, hn, hm, hs, hx⟩⟩
end Go.Proofs.YtkffgdndglfcfaaGreatDoor
