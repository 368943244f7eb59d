/-
  Small laws, out of RefSign, for a seat without the functions that those reach.
  Words for slices of bytes: a slice that reads as a list, and a slice of the call's own that holds a list.
  append of bytes onto a slice of the call's own, whatever the source is: one law for the walk.
  Plain numbers: the digits of a number in a base, the most significant first, and how many it has. Nothing here speaks of a program.
  More words for slices of bytes: a readable slice's cells, a literal of one byte, what an allocation leaves; two operations on bits.
  A slice of bytes as a string.
  Rows of strings of the call's own.
  Small laws, out of RefParts, RefText7, for a seat without the functions that those reach.
  Strings and their bytes.
  Small laws, out of RefLower, for a seat without the functions that those reach.
  The document's table of attributes.
  Small laws, out of Cuts, RefDesc, for a seat without the functions that those reach.
  The document's table of classes.
  What All gathers, class by class, as data.
  What Check asks, as data.
  The law package's few, same (of two rows that read alike) and has.
-/
import Derived.Test.YtllmffmmfpecaaaDoorRows
import Derived.Test.YtllmffmmfpecaaaDoorMA8
import Derived.Handy
import Derived.Lib.Hide
import Derived.Laws.AppendOwnNone
import Derived.Deep.AppendLies
import Derived.Outline
import Derived.Lib.BitFns
import Derived.Lib.ItoaNum
import Derived.Laws.BytesArg
import Derived.Laws.OwnMore
import Derived.Deep.QuietTactic
import Derived.BigQuiet
import Derived.BigGuardPart
import Derived.Deep.RegionLaw
import Derived.Deep.RegionHeldLaw
import Derived.Deep.DrawnRows
import Derived.BigRegion
namespace Go.Proofs.YtllmffmmfpecaaaDoor
open Go.RowKit Go.Lib

theorem size_listO (s : ByteArray) : s.data.toList.length = s.size := by simp
theorem get_listO (s : ByteArray) (k : Nat) (h : k < s.size) : s.data.toList[k]'(by simpa using h) = s[k] := rfl
theorem take_snocO (s : ByteArray) (k : Nat) (h : k < s.size) : s.data.toList.take (k + 1) = s.data.toList.take k ++ [s[k]] := by
  rw [List.take_succ_eq_append_getElem (by simpa using h)]; rfl
theorem ret_boolO {a b : Bool} (h : a = b) : Ending.returned (.bool a) = .returned (.bool b) := by rw [h]
theorem all_snoc {α : Type} (p : α → Bool) (l : List α) (c : α) : (l ++ [c]).all p = (l.all p && p c) := by simp
theorem all_no {α : Type} (p : α → Bool) (l : List α) (k : Nat) (h : k < l.length) (hd : p l[k] = false) : l.all p = false := by
  rw [Bool.eq_false_iff]
  intro ha
  rw [List.all_eq_true] at ha
  have := ha _ (List.getElem_mem h)
  rw [hd] at this
  cases this
theorem head_listO (s : ByteArray) (h : 0 < s.size) : s.data.toList.headD 0 = s[0] := by
  have h1 := get_listO s 0 h
  rcases e : s.data.toList with _ | ⟨c, r⟩
  · have := size_listO s
    rw [e] at this
    simp at this
    omega
  · simp only [e] at h1
    exact h1
end Go.Proofs.YtllmffmmfpecaaaDoor
namespace Go.Proofs.YtllmffmmfpecaaaDoor
open Go.RowKit

/-- The cells of a list of bytes. -/
def cellsB (l : List Nat) : List Value := l.map fun (n : Nat) => Value.int .u8 (n : Int)
theorem cellsB_len (l : List Nat) : (cellsB l).length = l.length := by simp [cellsB]
theorem cellsB_app (l m : List Nat) : cellsB (l ++ m) = cellsB l ++ cellsB m := by simp [cellsB]
theorem cellsB_one (l : List Nat) : ∀ u ∈ cellsB l, u.oneCell' = true := by
  intro u hu
  simp only [cellsB, List.mem_map] at hu
  obtain ⟨n, _, rfl⟩ := hu
  rfl
theorem cellsB_get {l : List Nat} {j : Nat} {u : Value} (h : (cellsB l)[j]? = some u) : ∃ n, l[j]? = some n ∧ u = .int .u8 (n : Int) := by
  simp only [cellsB, List.getElem?_map, Option.map_eq_some_iff] at h
  obtain ⟨n, h1, rfl⟩ := h
  exact ⟨n, h1, rfl⟩
theorem cellsB_inj {l m : List Nat} (h : cellsB l = cellsB m) : l = m := by
  induction l generalizing m with
  | nil => cases m with
    | nil => rfl
    | cons b m => simp [cellsB] at h
  | cons a l ih =>
    cases m with
    | nil => simp [cellsB] at h
    | cons b m =>
      simp only [cellsB, List.map_cons, List.cons.injEq, Value.int.injEq, true_and] at h
      have : a = b := by omega
      rw [this, ih h.2]

/-- The slice at A, of capacity c, reads as l, below block K. -/
structure Src (w : World) (K : Nat) (A : Option Addr) (c : Nat) (l : List Nat) : Prop where
  le : l.length ≤ c
  nil : A = none → c = 0
  at_ : ∀ ad, A = some ad → (0 < l.length → ad.block < K) ∧ ∀ (j n : Nat), l[j]? = some n → w.cell? (ad.add j) = some (.int .u8 (n : Int))

theorem Src.none_ (w : World) (K : Nat) : Src w K none 0 [] := ⟨Nat.le_refl _, fun _ => rfl, fun _ h => by cases h⟩
theorem add_block (a : Addr) (n : Nat) : (a.add n).block = a.block := by unfold Addr.add; split <;> rfl
theorem Src.keep {w w' : World} {K : Nat} {A : Option Addr} {c : Nat} {l : List Nat} (h : Src w K A c l) (hk : ∀ p : Addr, p.block < K → w'.cell? p = w.cell? p) : Src w' K A c l := by
  refine ⟨h.le, h.nil, fun ad e => ⟨(h.at_ ad e).1, fun j n hj => ?_⟩⟩
  have hl : j < l.length := by
    rcases Nat.lt_or_ge j l.length with h0 | h0
    · exact h0
    · rw [List.getElem?_eq_none h0] at hj; cases hj
  rw [hk _ (by rw [add_block]; exact (h.at_ ad e).1 (by omega))]
  exact (h.at_ ad e).2 j n hj
theorem Src.below {w w' : World} {K : Nat} {A : Option Addr} {c : Nat} {l : List Nat} (h : Src w K A c l) (hb : Below K w w') : Src w' K A c l := h.keep fun _ hp => hb.cell hp
theorem Src.more {w : World} {K K' : Nat} {A : Option Addr} {c : Nat} {l : List Nat} (h : Src w K A c l) (hb : K ≤ K') : Src w K' A c l :=
  ⟨h.le, h.nil, fun ad e => ⟨fun h0 => Nat.lt_of_lt_of_le ((h.at_ ad e).1 h0) hb, (h.at_ ad e).2⟩⟩

theorem news_one (w : World) (x : Value) (t : TypeId) : ∀ j u, [x][j]? = some u → (w.alloc (.cells #[x] t)).cell? ((⟨w.heap.size, 0, none⟩ : Addr).add j) = some u :=
  World.news_of_block (cs := #[x]) (fr := (0, 0)) (heap_alloc_new w _)
theorem one_u8 (x : Int) : ∀ u ∈ [Value.int .u8 x], u.oneCell' = true := by
  intro u hu
  simp only [List.mem_singleton] at hu
  subst hu
  rfl

/-- v is a slice of the call's own, in a block from base on, and holds l. -/
def Own (w : World) (base : Nat) (v : Value) (l : List Nat) : Prop := w.ownsRow base 5 1 v l.length (cellsB l)

theorem info_u8 : (Tryd.prog.info? 5).map (fun i => (i.zero, i.size, i.bytes)) = some (some (.int .u8 0), 1, 1) := by kernel_rfl

theorem Own.form {w : World} {base : Nat} {v : Value} {l : List Nat} (h : Own w base v l) : ∃ A c, v = .slice A l.length c ∧ Src w w.heap.size A c l := by
  obtain ⟨_, h0 | ⟨g, cap, cur, hv, hb, hg, hn, hm, hs, hx⟩⟩ := h
  · have : l = [] := List.eq_nil_of_length_eq_zero h0.2
    subst this
    exact ⟨none, 0, h0.1, Src.none_ _ _⟩
  · refine ⟨_, cap, hv, hn, (by simp), fun ad e => ?_⟩
    injection e with e
    subst e
    refine ⟨fun _ => (Array.getElem?_eq_some_iff.1 hg).1, fun j n hj => ?_⟩
    have hadd : (⟨g, 0, none⟩ : Addr).add j = ⟨g, j, none⟩ := by unfold Addr.add; split <;> simp_all
    rw [hadd, cell_of_row w g j cur _ _ hg]
    have hjl : j < l.length := (List.getElem?_eq_some_iff.1 hj).1
    have h2 : (cellsB l)[j]? = some (Value.int .u8 (n : Int)) := by simp [cellsB, hj]
    rw [← hx, List.getElem?_take, if_pos (by omega)] at h2
    simpa using h2
theorem Own.below {w w' : World} {base K : Nat} {v : Value} {l : List Nat} (h : Own w base v l) (hb : Below K w w') (hK : w.heap.size ≤ K) : Own w' base v l := by
  obtain ⟨h1, h0 | ⟨g, cap, cur, hv, hbs, hg, hn, hm, hs, hx⟩⟩ := h
  · exact ⟨h1, .inl h0⟩
  · refine ⟨h1, .inr ⟨g, cap, cur, hv, hbs, ?_, hn, hm, hs, hx⟩⟩
    rw [hb.block g (Nat.lt_of_lt_of_le (Array.getElem?_eq_some_iff.1 hg).1 hK)]
    exact hg
theorem Own.base_le {w : World} {base base' : Nat} {v : Value} {l : List Nat} (h : Own w base v l) (hb : base' ≤ base) : Own w base' v l := by
  obtain ⟨h1, h0 | ⟨g, cap, cur, hv, hbs, hg, hn, hm, hs, hx⟩⟩ := h
  · exact ⟨h1, .inl h0⟩
  · exact ⟨h1, .inr ⟨g, cap, cur, hv, Nat.le_trans hb hbs, hg, hn, hm, hs, hx⟩⟩
end Go.Proofs.YtllmffmmfpecaaaDoor
namespace Go.Proofs.YtllmffmmfpecaaaDoor
open Go.RowKit

theorem append_src {w : World} {ops : Array Oper} {rest : List Oper} {o : Oper} {a : Act} {Q : Exit → Act → World → Prop} (hgd : o.guard = none) (s x : Operand)
    (ho : o.op = .call { callee := .builtin .append, args := #[s, x], argTypes := #[59, 59] })
    (base : Nat) (v : Value) (l : List Nat) (hs : a.eval s = v) (hown : Own w base v l) (K : Nat) (A : Option Addr) (c : Nat) (m : List Nat) (hx : a.eval x = .slice A m.length c) (hsrc : Src w K A c m)
    (hlen : l.length + m.length ≤ 2000000) (hbase : base ≤ w.heap.size)
    (h : ∀ A' c' w', Own w' base (.slice A' (l ++ m).length c') (l ++ m) → Below base w w' → wpList Tryd.prog ops Q rest (a.put o.dst (.slice A' (l ++ m).length c')) w') : wpList Tryd.prog ops Q (o :: rest) a w := by
  obtain ⟨i0, hi, hz0, hz1, hz2⟩ := info_parts info_u8
  rcases A with _ | ad
  · have hc : c = 0 := hsrc.nil rfl
    have hm : m = [] := List.eq_nil_of_length_eq_zero (by have := hsrc.le; omega)
    subst hc hm
    obtain ⟨A', c', rfl, _⟩ := hown.form
    refine wpList_append_own_none hgd s x 59 ho base 5 i0 1 Tryd.underlying59 hi _ l.length (cellsB l) hs hown hx ?_
    have := h A' c' w (by rw [List.append_nil]; exact hown) (Below.refl _ _)
    rwa [List.append_nil] at this
  · refine wpList_append_own w hgd s x 59 ho base 5 i0 (.int .u8 0) 1 1 Tryd.underlying59 hi hz0 hz1 hz2 rfl (by decide) v l.length (cellsB l) hs hown ad m.length c (cellsB m) hx (by rw [cellsB_len, Nat.mul_one]) (fun j u hj => ?_) (cellsB_one m)
      (by simp only [maxLen]; omega) (by omega) hbase fun v' w' hown' hg _ => ?_
    · obtain ⟨n, h1, rfl⟩ := cellsB_get hj
      exact (hsrc.at_ ad rfl).2 j n h1
    · have ho' : Own w' base v' (l ++ m) := by
        unfold Own
        rw [cellsB_app, List.length_append]
        exact hown'
      obtain ⟨A', c', rfl, _⟩ := ho'.form
      exact h A' c' w' ho' ((Below.refl _ _).grown hg hbase (fun k hk => (hown.lt k hk).1))
theorem append_srcN {w : World} {ops : Array Oper} {rest : List Oper} {o : Oper} {a : Act} {Q : Exit → Act → World → Prop} (hgd : o.guard = none) (s x : Operand)
    (ho : o.op = .call { callee := .builtin .append, args := #[s, x], argTypes := #[59, 59] })
    (base : Nat) (v : Value) (l : List Nat) (hs : a.eval s = v) (hown : Own w base v l) (K : Nat) (A : Option Addr) (c : Nat) (m : List Nat) (k : Nat) (hk : m.length = k) (hx : a.eval x = .slice A k c) (hsrc : Src w K A c m)
    (hlen : l.length + m.length ≤ 2000000) (hbase : base ≤ w.heap.size)
    (h : ∀ A' c' w', Own w' base (.slice A' (l ++ m).length c') (l ++ m) → Below base w w' → wpList Tryd.prog ops Q rest (a.put o.dst (.slice A' (l ++ m).length c')) w') : wpList Tryd.prog ops Q (o :: rest) a w := by
  subst hk
  exact append_src hgd s x ho base v l hs hown K A c m hx hsrc hlen hbase h
/-- The same, with what is as it was: every cell of another block than the one that was appended to. -/
theorem append_srcF {w : World} {ops : Array Oper} {rest : List Oper} {o : Oper} {a : Act} {Q : Exit → Act → World → Prop} (hgd : o.guard = none) (s x : Operand)
    (ho : o.op = .call { callee := .builtin .append, args := #[s, x], argTypes := #[59, 59] })
    (base : Nat) (v : Value) (l : List Nat) (hs : a.eval s = v) (hown : Own w base v l) (K : Nat) (A : Option Addr) (c : Nat) (m : List Nat) (k : Nat) (hk : m.length = k) (hx : a.eval x = .slice A k c) (hsrc : Src w K A c m)
    (hlen : l.length + m.length ≤ 2000000) (hbase : base ≤ w.heap.size)
    (h : ∀ A' c' w', Own w' base (.slice A' (l.length + k) c') (l ++ m) → Below base w w' → (∀ p : Addr, p.block < w.heap.size → some p.block ≠ v.ownBlock → w'.cell? p = w.cell? p) → wpList Tryd.prog ops Q rest (a.put o.dst (.slice A' (l.length + k) c')) w') : wpList Tryd.prog ops Q (o :: rest) a w := by
  obtain ⟨i0, hi, hz0, hz1, hz2⟩ := info_parts info_u8
  subst hk
  rcases A with _ | ad
  · have hc : c = 0 := hsrc.nil rfl
    have hm : m = [] := List.eq_nil_of_length_eq_zero (by have := hsrc.le; omega)
    subst hc hm
    obtain ⟨A', c', rfl, _⟩ := hown.form
    refine wpList_append_own_none hgd s x 59 ho base 5 i0 1 Tryd.underlying59 hi _ l.length (cellsB l) hs hown hx ?_
    have := h A' c' w (by rw [List.append_nil]; exact hown) (Below.refl _ _) (fun _ _ _ => rfl)
    exact this
  · refine wpList_append_own w hgd s x 59 ho base 5 i0 (.int .u8 0) 1 1 Tryd.underlying59 hi hz0 hz1 hz2 rfl (by decide) v l.length (cellsB l) hs hown ad m.length c (cellsB m) hx (by rw [cellsB_len, Nat.mul_one]) (fun j u hj => ?_) (cellsB_one m)
      (by simp only [maxLen]; omega) (by omega) hbase fun v' w' hown' hg _ => ?_
    · obtain ⟨n, h1, rfl⟩ := cellsB_get hj
      exact (hsrc.at_ ad rfl).2 j n h1
    · have ho' : Own w' base v' (l ++ m) := by
        unfold Own
        rw [cellsB_app, List.length_append]
        exact hown'
      obtain ⟨A', c', rfl, _⟩ := ho'.form
      rw [List.length_append] at ho' ⊢
      exact h A' c' w' ho' ((Below.refl _ _).grown hg hbase (fun k hk => (hown.lt k hk).1)) (fun p hp hne => hg.cell_far p hp hne)
/-- The block that holds one byte. -/
theorem Src.one (w : World) (x : Nat) : Src (w.alloc (.cells #[.int .u8 (x : Int)] 5)) (w.heap.size + 1) (some ⟨w.heap.size, 0, none⟩) 1 [x] :=
  ⟨Nat.le_refl _, (by simp), fun ad e => by
    injection e with e
    subst e
    refine ⟨fun _ => Nat.lt_succ_self _, fun j n hj => news_one w _ _ j _ ?_⟩
    match j, hj with
    | 0, hj => simp at hj; subst hj; rfl⟩
/-- The empty slice that a literal makes. -/
theorem Own.lit (w : World) : Own (w.alloc (.cells #[] 5)) w.heap.size (.slice (some ⟨w.heap.size, 0, none⟩) 0 0) [] :=
  World.ownsRow_made w #[] 0 (Nat.le_refl _) (Nat.zero_le _) rfl
/-- A slice cut at its end. -/
theorem Src.take {w : World} {K : Nat} {A : Option Addr} {c : Nat} {l : List Nat} (h : Src w K A c l) (n : Nat) : Src w K A c (l.take n) := by
  refine ⟨Nat.le_trans (List.length_take_le' ..) h.le, h.nil, fun ad e => ⟨fun h0 => (h.at_ ad e).1 (Nat.lt_of_lt_of_le h0 (List.length_take_le' ..)), fun j x hj => ?_⟩⟩
  rw [List.getElem?_take] at hj
  split at hj
  · exact (h.at_ ad e).2 j x hj
  · cases hj
theorem Own.src {w : World} {base : Nat} {A : Option Addr} {c : Nat} {n : Nat} {l : List Nat} (h : Own w base (.slice A n c) l) : Src w w.heap.size A c l := by
  obtain ⟨A', c', hv, hs⟩ := h.form
  injection hv with h1 h2 h3
  subst h1 h3
  exact hs
/-- A slice of the call's own still reads as it did, where the blocks from its base on are as they were. -/
theorem Own.srcFar {w w' : World} {base : Nat} {A : Option Addr} {c n : Nat} {l : List Nat} (h : Own w base (.slice A n c) l) (hf : ∀ p : Addr, p.block < w.heap.size → base ≤ p.block → w'.cell? p = w.cell? p) : Src w' w.heap.size A c l := by
  have hs := h.src
  refine ⟨hs.le, hs.nil, fun ad e => ⟨(hs.at_ ad e).1, fun j x hj => ?_⟩⟩
  have hjl : j < l.length := (List.getElem?_eq_some_iff.1 hj).1
  have hb : base ≤ ad.block := (h.lt ad.block (by rw [e]; rfl)).1
  rw [hf _ (by rw [add_block]; exact (hs.at_ ad e).1 (by omega)) (by rw [add_block]; exact hb)]
  exact (hs.at_ ad e).2 j x hj
theorem Own.cap {w : World} {base : Nat} {A : Option Addr} {c : Nat} {n : Nat} {l : List Nat} (h : Own w base (.slice A n c) l) : c ≤ 9223372036854775807 := by
  rcases h.2 with ⟨hv, _⟩ | ⟨g, cap, cur, hv, _, _, _, hm, _⟩
  · injection hv with _ _ h3
    omega
  · injection hv with _ _ h3
    unfold maxLen at hm
    omega
/-- A struct of three cells in a new block is there as long as only what is above it turns. -/
theorem box3 {w wi : World} {a b c : Value} {T : TypeId} (h : Below (w.heap.size + 1) (w.alloc (.cells #[a, b, c] T)) wi) :
    wi.cell? ⟨w.heap.size, 0, none⟩ = some a ∧ wi.cell? ⟨w.heap.size, 1, none⟩ = some b ∧ wi.cell? ⟨w.heap.size, 2, none⟩ = some c :=
  ⟨(h.cell (p := ⟨w.heap.size, 0, none⟩) (by simp)).trans (by simp), (h.cell (p := ⟨w.heap.size, 1, none⟩) (by simp)).trans (by simp), (h.cell (p := ⟨w.heap.size, 2, none⟩) (by simp)).trans (by simp)⟩
end Go.Proofs.YtllmffmmfpecaaaDoor
namespace Go.Proofs.YtllmffmmfpecaaaDoor

/-- The lowest G digits of n in base b, the most significant first, each turned by f, which is told whether it is the last one. -/
def row (f : Nat → Bool → Nat) (b n : Nat) : Nat → List Nat
  | 0 => []
  | G + 1 => f (n / b ^ G % b) (G == 0) :: row f b n G
theorem row_len (f : Nat → Bool → Nat) (b n : Nat) : ∀ G, (row f b n G).length = G
  | 0 => rfl
  | G + 1 => by rw [row, List.length_cons, row_len f b n G]
theorem row_drop (f : Nat → Bool → Nat) (b n : Nat) : ∀ G k, k ≤ G → (row f b n G).drop (G - k) = row f b n k
  | 0, k, h => by
    obtain rfl : k = 0 := by omega
    rfl
  | G + 1, k, h => by
    by_cases e : k = G + 1
    · subst e
      simp
    · rw [show G + 1 - k = (G - k) + 1 from by omega, row, List.drop_succ_cons]
      exact row_drop f b n G k (by omega)
theorem row_take (f : Nat → Bool → Nat) (b n G k : Nat) (h : k + 1 ≤ G) :
    (row f b n G).take (G - k) = (row f b n G).take (G - (k + 1)) ++ [f (n / b ^ k % b) (k == 0)] := by
  rw [show G - k = (G - (k + 1)) + 1 from by omega, List.take_add_one, ← List.head?_drop, row_drop f b n G (k + 1) h]
  rfl
/-- as it is -/
def same (d : Nat) (_ : Bool) : Nat := d
/-- 128 more, but for the last -/
def more (d : Nat) (last : Bool) : Nat := if last then d else d + 128
theorem row_lt (f : Nat → Bool → Nat) (b n B : Nat) (hb : 0 < b) (hf : ∀ d l, d < b → f d l < B) : ∀ G, ∀ x ∈ row f b n G, x < B
  | 0, x, h => by cases h
  | G + 1, x, h => by
    rw [row, List.mem_cons] at h
    rcases h with rfl | h
    · exact hf _ _ (Nat.mod_lt _ hb)
    · exact row_lt f b n B hb hf G x h

/-- How many digits n has in base 2^w. -/
def count (w n : Nat) : Nat := (Lib.bitLen n + w - 1) / w
theorem bitLen_bounds (n : Nat) (h0 : n ≠ 0) (h : n < 2 ^ 64) : 1 ≤ Lib.bitLen n ∧ 2 ^ (Lib.bitLen n - 1) ≤ n ∧ n < 2 ^ Lib.bitLen n := Lib.bitLenAux_bounds 64 n h h0
theorem count_pos (w n : Nat) (hw : 0 < w) (h0 : n ≠ 0) (h : n < 2 ^ 64) : 1 ≤ count w n := by
  have := (bitLen_bounds n h0 h).1
  unfold count
  rw [Nat.le_div_iff_mul_le hw]
  omega
theorem count_lt (w n : Nat) (hw : 0 < w) (h0 : n ≠ 0) (h : n < 2 ^ 64) : n < (2 ^ w) ^ count w n := by
  have hb := (bitLen_bounds n h0 h).2.2
  rw [← Nat.pow_mul]
  refine Nat.lt_of_lt_of_le hb (Nat.pow_le_pow_right (by omega) ?_)
  unfold count
  have h1 := Nat.div_add_mod (Lib.bitLen n + w - 1) w
  have h2 := Nat.mod_lt (Lib.bitLen n + w - 1) hw
  omega
theorem count_ge (w n : Nat) (hw : 0 < w) (h0 : n ≠ 0) (h : n < 2 ^ 64) : (2 ^ w) ^ (count w n - 1) ≤ n := by
  have hb := bitLen_bounds n h0 h
  have hp := count_pos w n hw h0 h
  rw [← Nat.pow_mul]
  refine Nat.le_trans (Nat.pow_le_pow_right (by omega) ?_) hb.2.1
  have h1 : count w n * w ≤ Lib.bitLen n + w - 1 := Nat.div_mul_le_self _ _
  rw [Nat.mul_sub, Nat.mul_one, Nat.mul_comm]
  omega
/-- It is the only number of digits that fits and needs no fewer. -/
theorem count_is (w n G : Nat) (hw : 0 < w) (h0 : n ≠ 0) (h : n < 2 ^ 64) (hG : 0 < G) (h1 : (2 ^ w) ^ (G - 1) ≤ n) (h2 : n < (2 ^ w) ^ G) : count w n = G := by
  have a := count_lt w n hw h0 h
  have b := count_ge w n hw h0 h
  have hp := count_pos w n hw h0 h
  have hb : 1 < 2 ^ w := Nat.one_lt_two_pow (by omega)
  rcases Nat.lt_trichotomy (count w n) G with hlt | he | hgt
  · have := Nat.pow_le_pow_right (n := 2 ^ w) (by omega) (show count w n ≤ G - 1 by omega)
    omega
  · exact he
  · have := Nat.pow_le_pow_right (n := 2 ^ w) (by omega) (show G ≤ count w n - 1 by omega)
    omega
end Go.Proofs.YtllmffmmfpecaaaDoor
namespace Go.Proofs.YtllmffmmfpecaaaDoor
open Go.RowKit

theorem Src.plain {w : World} {K : Nat} {A : Option Addr} {c : Nat} {l : List Nat} (h : Src w K A c l) (h0 : 0 < l.length) :
    ∃ b off, A = some ⟨b, off, none⟩ ∧ b < K ∧ ∀ (j : Nat) (hj : j < l.length), w.cell? ⟨b, off + j, none⟩ = some (.int .u8 ((l[j] : Nat) : Int)) := by
  rcases A with _ | ⟨b, off, spot⟩
  · have := h.nil rfl
    have := h.le
    omega
  · obtain ⟨hb, hc⟩ := h.at_ _ rfl
    have hc0 := hc 0 l[0] (by simp)
    have hs : spot = none := by simpa [Addr.add] using World.cell?_spot hc0
    subst hs
    refine ⟨b, off, rfl, hb h0, fun j hj => ?_⟩
    have hadd : (⟨b, off, none⟩ : Addr).add j = ⟨b, off + j, none⟩ := by unfold Addr.add; split <;> simp_all
    rw [← hadd]
    exact hc j l[j] (List.getElem?_eq_getElem hj)

theorem andNot128 (c : Nat) (hc : c < 256) : bits .andNot .u8 (c : Int) 128 = ((c % 128 : Nat) : Int) := by
  rw [show (128 : Int) = ((128 : Nat) : Int) from rfl, u8_andNot_nat c 128 hc (by decide), show 255 - 128 = 2 ^ 7 - 1 from rfl, Nat.and_two_pow_sub_one_eq_mod]
theorem or_i64 (a b k : Nat) (h1 : a % 2 ^ k = 0) (h2 : b < 2 ^ k) (h3 : a + b < 9223372036854775808) : bits .or .i64 (a : Int) (b : Int) = ((a + b : Nat) : Int) := by
  have hpow : ∀ x : Nat, x < 9223372036854775808 → (BitVec.ofInt 64 (x : Int)).toNat = x := by
    intro x hx
    rw [BitVec.ofInt_natCast, BitVec.toNat_ofNat, Nat.mod_eq_of_lt (by omega)]
  show IntKind.i64.wrap ((BitVec.ofInt 64 _ ||| BitVec.ofInt 64 _).toNat : Int) = _
  rw [BitVec.toNat_or, hpow a (by omega), hpow b (by omega), nat_join k a b h1 h2]
  exact IntWalk.i64_in _ (by omega)

/-- A literal of one byte is the call's own. -/
theorem Own.one (w : World) (base x : Nat) (hb : base ≤ w.heap.size) : Own (w.alloc (.cells #[.int .u8 (x : Int)] 5)) base (.slice (some ⟨w.heap.size, 0, none⟩) 1 1) [x] :=
  ⟨rfl, .inr ⟨w.heap.size, 1, #[.int .u8 (x : Int)], rfl, hb, heap_alloc_new w _, Nat.le_refl _, by simp [maxLen], rfl, rfl⟩⟩
theorem Src.oneI (w : World) (x : Nat) (z : Int) (hz : z = (x : Int)) : Src (w.alloc (.cells #[.int .u8 z] 5)) (w.heap.size + 1) (some ⟨w.heap.size, 0, none⟩) 1 [x] := by
  subst hz
  exact Src.one w x
theorem Own.oneI (w : World) (base x : Nat) (z : Int) (hz : z = (x : Int)) (hb : base ≤ w.heap.size) : Own (w.alloc (.cells #[.int .u8 z] 5)) base (.slice (some ⟨w.heap.size, 0, none⟩) 1 1) [x] := by
  subst hz
  exact Own.one w base x hb
theorem Own.alloc {w : World} {base : Nat} {v : Value} {l : List Nat} (h : Own w base v l) (o : Obj) : Own (w.alloc o) base v l := World.ownsRow.alloc h o
theorem Src.alloc {w : World} {K : Nat} {A : Option Addr} {c : Nat} {l : List Nat} (h : Src w K A c l) (hK : K ≤ w.heap.size) (o : Obj) : Src (w.alloc o) K A c l := h.keep fun _ hp => World.cell?_alloc_lt _ _ _ (Nat.lt_of_lt_of_le hp hK)
end Go.Proofs.YtllmffmmfpecaaaDoor
namespace Go.Proofs.YtllmffmmfpecaaaDoor
open Go.RowKit

def strB (l : List Nat) : ByteArray := strOfNums (l.map fun (n : Nat) => (n : Int))
theorem strB_list (l : List Nat) : (strB l).data.toList = l.map UInt8.ofNat := by
  rw [strB, strOfNums_data, List.map_map]
  congr 1
theorem strB_inj {l m : List Nat} (hl : ∀ x ∈ l, x < 256) (hm : ∀ x ∈ m, x < 256) (e : strB l = strB m) : l = m := by
  have h : l.map UInt8.ofNat = m.map UInt8.ofNat := by rw [← strB_list, ← strB_list, e]
  clear e
  induction l generalizing m with
  | nil => cases m with
    | nil => rfl
    | cons b m => cases h
  | cons a l ih =>
    cases m with
    | nil => cases h
    | cons b m =>
      rw [List.map_cons, List.map_cons] at h
      injection h with h1 h2
      have ha := hl a (List.mem_cons_self ..)
      have hb := hm b (List.mem_cons_self ..)
      have h3 : a = b := by
        have := congrArg UInt8.toNat h1
        rw [UInt8.toNat_ofNat', UInt8.toNat_ofNat', Nat.mod_eq_of_lt (by omega), Nat.mod_eq_of_lt (by omega)] at this
        exact this
      rw [h3, ih (fun x hx => hl x (List.mem_cons_of_mem _ hx)) (fun x hx => hm x (List.mem_cons_of_mem _ hx)) h2]

theorem strB_beq {l m : List Nat} (hl : ∀ x ∈ l, x < 256) (hm : ∀ x ∈ m, x < 256) : (strB l == strB m) = true ↔ l = m := by
  rw [beq_toListBytes, beq_iff_eq, ByteArray.toList_eq, ByteArray.toList_eq]
  constructor
  · intro e
    refine strB_inj hl hm ?_
    exact congrArg ByteArray.mk (Array.ext' e)
  · rintro rfl
    rfl

/-- The block that a constant's byte lies in, with its mark. -/
theorem Src.oneM (w : World) (x : Nat) (fr : Nat × Nat) : Src (w.alloc (.cells #[.int .u8 (x : Int)] 5 fr)) (w.heap.size + 1) (some ⟨w.heap.size, 0, none⟩) 1 [x] :=
  ⟨Nat.le_refl _, (by simp), fun ad e => by
    injection e with e
    subst e
    refine ⟨fun _ => Nat.lt_succ_self _, fun j n hj => ?_⟩
    match j, hj with
    | 0, hj =>
      simp at hj
      subst hj
      show (w.alloc (.cells #[.int .u8 (x : Int)] 5 fr)).cell? ⟨w.heap.size, 0, none⟩ = _
      rw [World.cell?_alloc_mark]
      rfl⟩

/-- string(b). -/
theorem Src.conv {W : World} {K : Nat} {A : Option Addr} {c : Nat} {l : List Nat} (h : Src W K A c l) : (convert 59 9 (.slice A l.length c)).run Tryd.prog W = .ok (.string (strB l)) W := by
  rcases A with _ | ad
  · have hl : l = [] := List.eq_nil_of_length_eq_zero (by have := h.nil rfl; have := h.le; omega)
    subst hl
    rw [run_convert_bytes_nil W 59 5 Tryd.underlying59 Tryd.underlying5 _ _ 9 Tryd.underlying9]
    rfl
  · have hl : (loadCells ad l.length).run Tryd.prog W = .ok ((l.map fun (n : Nat) => (n : Int)).map (Value.int .u8)).toArray W := by
      have := run_loadCells_list (P := Tryd.prog) W ad ((l.map fun (n : Nat) => (n : Int)).map (Value.int .u8)) (fun j v hj => by
        rw [List.map_map, List.getElem?_map, Option.map_eq_some_iff] at hj
        obtain ⟨n, hj, rfl⟩ := hj
        exact (h.at_ ad rfl).2 j n hj)
      simpa using this
    rw [run_convert_bytes_string W 59 9 5 _ l.length c Tryd.underlying59 Tryd.underlying5 Tryd.underlying9, run_bytesToString W _ l.length c _ hl, foldl_push_bytes]
    simp [strB, strOfNums, ByteArray.empty, ByteArray.emptyWithCapacity]
    rfl
end Go.Proofs.YtllmffmmfpecaaaDoor
namespace Go.Proofs.YtllmffmmfpecaaaDoor
open Go.RowKit

def baO (l : List UInt8) : ByteArray := ⟨l.toArray⟩
theorem baO_list (l : List UInt8) : (baO l).data.toList = l := rfl
theorem eq_baO {s : ByteArray} {l : List UInt8} (h : s.data.toList = l) : s = baO l := by rw [← h]; rfl
def cellsO (L : List (List UInt8)) : List Value := L.map fun l => .string (baO l)
theorem cellsO_len (L : List (List UInt8)) : (cellsO L).length = L.length := by simp [cellsO]
/-- v is a row of strings of the call's own, in a block from base on, and holds L. -/
def OwnO (w : World) (base : Nat) (v : Value) (L : List (List UInt8)) : Prop := w.ownsRow base 9 1 v L.length (cellsO L)
theorem OwnO.nil (w : World) (base : Nat) : OwnO w base (.slice none 0 0) [] := ⟨rfl, .inl ⟨rfl, rfl⟩⟩
theorem OwnO.alloc {w : World} {base : Nat} {v : Value} {L : List (List UInt8)} (h : OwnO w base v L) (o : Obj) : OwnO (w.alloc o) base v L := World.ownsRow.alloc h o
theorem info_str : (Tryd.prog.info? 9).map (fun i => (i.zero, i.size, i.bytes)) = some (some (.string { data := #[] }), 1, 16) := by kernel_rfl
theorem OwnO.form {w : World} {base : Nat} {v : Value} {L : List (List UInt8)} (h : OwnO w base v L) : (v = .slice none 0 0 ∧ L = []) ∨ ∃ g c, v = .slice (some ⟨g, 0, none⟩) L.length c ∧ base ≤ g ∧ g < w.heap.size ∧ L.length ≤ c ∧ c ≤ 9223372036854775807 ∧ ∀ (j : Nat) (l : List UInt8), L[j]? = some l → w.cell? ⟨g, j, none⟩ = some (.string (baO l)) := by
  obtain ⟨_, h0 | ⟨g, cap, cur, hv, hb, hg, hn, hm, hs, hx⟩⟩ := h
  · exact .inl ⟨h0.1, List.eq_nil_of_length_eq_zero h0.2⟩
  · refine .inr ⟨g, cap, hv, hb, (Array.getElem?_eq_some_iff.1 hg).1, hn, by unfold maxLen at hm; exact hm, fun j l hj => ?_⟩
    rw [cell_of_row w g j cur _ _ hg]
    have hjl : j < L.length := (List.getElem?_eq_some_iff.1 hj).1
    have h2 : (cellsO L)[j]? = some (Value.string (baO l)) := by simp [cellsO, hj]
    rw [← hx, List.getElem?_take, if_pos (by omega)] at h2
    simpa using h2
theorem OwnO.below {w w' : World} {base K : Nat} {v : Value} {L : List (List UInt8)} (h : OwnO w base v L) (hb : Below K w w') (hK : w.heap.size ≤ K) : OwnO w' base v L := by
  obtain ⟨h1, h0 | ⟨g, cap, cur, hv, hbs, hg, hn, hm, hs, hx⟩⟩ := h
  · exact ⟨h1, .inl h0⟩
  · refine ⟨h1, .inr ⟨g, cap, cur, hv, hbs, ?_, hn, hm, hs, hx⟩⟩
    rw [hb.block g (Nat.lt_of_lt_of_le (Array.getElem?_eq_some_iff.1 hg).1 hK)]
    exact hg
theorem OwnO.one (w : World) (base : Nat) (l : List UInt8) (hb : base ≤ w.heap.size) : OwnO (w.alloc (.cells #[.string (baO l)] 9)) base (.slice (some ⟨w.heap.size, 0, none⟩) 1 1) [l] :=
  ⟨rfl, .inr ⟨w.heap.size, 1, #[.string (baO l)], rfl, hb, heap_alloc_new w _, Nat.le_refl _, by simp [maxLen], rfl, rfl⟩⟩
theorem cellsO_app (L M : List (List UInt8)) : cellsO (L ++ M) = cellsO L ++ cellsO M := by simp [cellsO]
theorem append_strs {w : World} {ops : Array Oper} {rest : List Oper} {o : Oper} {a : Act} {Q : Exit → Act → World → Prop} (hgd : o.guard = none) (s x : Operand)
    (ho : o.op = .call { callee := .builtin .append, args := #[s, x], argTypes := #[29, 29] })
    (base : Nat) (v : Value) (L : List (List UInt8)) (n : Nat) (hn : L.length = n) (hs : a.eval s = v) (hown : OwnO w base v L)
    (ad : Addr) (m c : Nat) (M : List (List UInt8)) (hm : M.length = m) (hx : a.eval x = .slice (some ad) m c)
    (hsrc : ∀ (i : Nat) (l : List UInt8), M[i]? = some l → w.cell? (ad.add i) = some (.string (baO l)))
    (N : Nat) (hN : n + m = N) (hlen : N ≤ 2000000) (hbase : base ≤ w.heap.size)
    (h : ∀ A' c' w', OwnO w' base (.slice A' N c') (L ++ M) → Below base w w' → wpList Tryd.prog ops Q rest (a.put o.dst (.slice A' N c')) w') : wpList Tryd.prog ops Q (o :: rest) a w := by
  obtain ⟨i0, hi, hz0, hz1, hz2⟩ := info_parts info_str
  subst hn hm hN
  refine wpList_append_own w hgd s x 29 ho base 9 i0 _ 1 16 Tryd.underlying29 hi hz0 hz1 hz2 rfl (by decide) v L.length (cellsO L) hs hown ad M.length c (cellsO M) hx (by rw [cellsO_len, Nat.mul_one]) (fun j u hj => ?_) (fun u hu => ?_)
    (by simp only [maxLen]; omega) (by omega) hbase fun v' w' hown' hg _ => ?_
  · unfold cellsO at hj
    rw [List.getElem?_map, Option.map_eq_some_iff] at hj
    obtain ⟨l, h1, rfl⟩ := hj
    exact hsrc j l h1
  · obtain ⟨l, _, rfl⟩ := List.mem_map.1 hu
    rfl
  · have hO : OwnO w' base v' (L ++ M) := by
      unfold OwnO
      rw [cellsO_app, List.length_append]
      exact hown'
    rcases hO.form with ⟨h1, h2⟩ | ⟨g, c', h1, _⟩
    · rw [h1] at hO ⊢
      have h3 := congrArg List.length h2
      rw [List.length_append] at h3
      rw [show L.length + M.length = 0 from by simpa using h3] at h
      exact h none 0 w' hO ((Below.refl _ _).grown hg hbase (fun k hk => (hown.lt k hk).1))
    · rw [h1, List.length_append] at hO
      rw [h1, List.length_append]
      exact h (some ⟨g, 0, none⟩) c' w' hO ((Below.refl _ _).grown hg hbase (fun k hk => (hown.lt k hk).1))
/-- A string put into its place. -/
theorem OwnO.put {w : World} {base g c : Nat} {L : List (List UInt8)} (h : OwnO w base (.slice (some ⟨g, 0, none⟩) L.length c) L) (j : Nat) (l : List UInt8) : OwnO (w.setCell ⟨g, j, none⟩ (.string (baO l))) base (.slice (some ⟨g, 0, none⟩) L.length c) (L.set j l) := by
  have h1 := (World.ownsRow.stored h j (.string (baO l))).1
  unfold OwnO
  have e : cellsO (L.set j l) = (cellsO L).set j (.string (baO l)) := by
    unfold cellsO
    rw [List.map_set]
  rw [e, List.length_set]
  exact h1
end Go.Proofs.YtllmffmmfpecaaaDoor
namespace Go.Proofs.YtllmffmmfpecaaaDoor
open Go.RowKit

theorem last_set {α : Type} (L : List α) (d x : α) (h : L ≠ []) : L.set (L.length - 1) x = L.dropLast ++ [x] ∧ L[L.length - 1]? = some (L.getLastD d) := by
  have e := List.dropLast_concat_getLast h
  have hl : L.getLastD d = L.getLast h := by
    cases L with
    | nil => exact absurd rfl h
    | cons a l => simp [List.getLastD]
  obtain ⟨D, hD⟩ : ∃ D, D = L.dropLast := ⟨_, rfl⟩
  obtain ⟨z, hz⟩ : ∃ z, z = L.getLast h := ⟨_, rfl⟩
  rw [hl]
  rw [← hD, ← hz] at e
  rw [← hD, ← hz, ← e]
  simp
theorem sp_len (b : UInt8) : ∀ l, ∀ p ∈ sp b l, p.length ≤ l.length
  | [] => by simp [sp]
  | x :: l => by
    have ih := sp_len b l
    unfold sp
    split
    · intro p hp
      rcases List.mem_cons.1 hp with rfl | hp
      · simp
      · have := ih p hp
        simp only [List.length_cons]
        omega
    · intro p hp
      rcases List.mem_cons.1 hp with rfl | hp
      · cases hs : sp b l with
        | nil => simp
        | cons q qs =>
          have := ih q (by rw [hs]; exact List.mem_cons_self)
          simp only [List.headD_cons, List.length_cons]
          omega
      · have := ih p (List.mem_of_mem_tail hp)
        simp only [List.length_cons]
        omega
theorem one_str (w : World) (i : Nat) (l : List UInt8) (hi : ([[]] : List (List UInt8))[i]? = some l) : (w.alloc (.cells #[.string { data := #[] }] 9)).cell? ((⟨w.heap.size, 0, none⟩ : Addr).add i) = some (.string (baO l)) := by
  refine news_one w (.string { data := #[] }) 9 i _ ?_
  cases i with
  | zero => simp at hi; subst hi; rfl
  | succ i => simp at hi
/-- A row of strings, below block K. -/
structure SrcO (w : World) (K : Nat) (A : Option Addr) (c : Nat) (L : List (List UInt8)) : Prop where
  le : L.length ≤ c
  nil : A = none → c = 0
  at_ : ∀ ad, A = some ad → (0 < L.length → ad.block < K) ∧ ∀ (j : Nat) (l : List UInt8), L[j]? = some l → w.cell? (ad.add j) = some (.string (baO l))
theorem SrcO.none_ (w : World) (K : Nat) : SrcO w K none 0 [] := ⟨Nat.le_refl _, fun _ => rfl, fun _ h => by cases h⟩
theorem SrcO.keep {w w' : World} {K : Nat} {A : Option Addr} {c : Nat} {L : List (List UInt8)} (h : SrcO w K A c L) (hk : ∀ p : Addr, p.block < K → w'.cell? p = w.cell? p) : SrcO w' K A c L := by
  refine ⟨h.le, h.nil, fun ad e => ⟨(h.at_ ad e).1, fun j l hj => ?_⟩⟩
  have hl : j < L.length := (List.getElem?_eq_some_iff.1 hj).1
  rw [hk _ (by rw [add_block]; exact (h.at_ ad e).1 (by omega))]
  exact (h.at_ ad e).2 j l hj
theorem SrcO.below {w w' : World} {K : Nat} {A : Option Addr} {c : Nat} {L : List (List UInt8)} (h : SrcO w K A c L) (hb : Below K w w') : SrcO w' K A c L := h.keep fun _ hp => hb.cell hp
theorem SrcO.more {w : World} {K K' : Nat} {A : Option Addr} {c : Nat} {L : List (List UInt8)} (h : SrcO w K A c L) (hb : K ≤ K') : SrcO w K' A c L :=
  ⟨h.le, h.nil, fun ad e => ⟨fun h0 => Nat.lt_of_lt_of_le ((h.at_ ad e).1 h0) hb, (h.at_ ad e).2⟩⟩
theorem OwnO.src {w : World} {base : Nat} {A : Option Addr} {c n : Nat} {L : List (List UInt8)} (h : OwnO w base (.slice A n c) L) : SrcO w w.heap.size A c L := by
  rcases h.form with ⟨e1, rfl⟩ | ⟨g, c', e1, _, e2, e3, _, e4⟩
  · injection e1 with e1 _ e3
    subst e1 e3
    exact SrcO.none_ _ _
  · injection e1 with e1 _ e5
    subst e1 e5
    refine ⟨e3, (by simp), fun ad e => ?_⟩
    injection e with e
    subst e
    refine ⟨fun _ => e2, fun j l hj => ?_⟩
    have hadd : (⟨g, 0, none⟩ : Addr).add j = ⟨g, j, none⟩ := by unfold Addr.add; split <;> simp_all
    rw [hadd]
    exact e4 j l hj
theorem wt_take (L : List (List UInt8)) : ∀ k, wt (L.take k) ≤ wt L := fun k => by
  have h := congrArg wt (List.take_append_drop k L)
  unfold wt at h ⊢
  rw [List.flatMap_append, List.length_append] at h
  omega
end Go.Proofs.YtllmffmmfpecaaaDoor
namespace Go.Proofs.YtllmffmmfpecaaaDoor
open Go.RowKit

theorem baO_size (l : List UInt8) : (baO l).size = l.length := by simp [baO, ByteArray.size]
theorem baO_toList (l : List UInt8) : (baO l).toList = l := by rw [ByteArray.toList_eq]; rfl
theorem baO_ne {p q : List UInt8} (h : ¬ p = q) : ¬ (baO p).toList = (baO q).toList := by rw [baO_toList, baO_toList]; exact h
end Go.Proofs.YtllmffmmfpecaaaDoor
namespace Go.Proofs.YtllmffmmfpecaaaDoor
open Go.RowKit

theorem own_nilO (w : World) : Own w w.heap.size (.slice none 0 0) [] := ⟨rfl, .inl ⟨rfl, rfl⟩⟩
def nats (l : List UInt8) : List Nat := l.map UInt8.toNat
theorem strB_nats (l : List UInt8) : (strB (nats l)).data.toList = l := by
  rw [strB_list]
  unfold nats
  rw [List.map_map]
  exact (List.map_congr_left fun c _ => by simp).trans (List.map_id' l)
set_option maxRecDepth 4000 in
set_option maxHeartbeats 1600000 in
theorem refLower_any (s : ByteArray) (w : World) (hs : s.size ≤ 600) :
    Calls Tryd.prog 25 #[.string s] w fun e w' => ∃ x, e = .returned (.string x) ∧ x.data.toList = lowL s.data.toList ∧ Below w.heap.size w w' := by
  have hst : Hid (∀ k (h : k < s.size), nats (lowL (s.data.toList.take (k + 1))) = nats (lowL (s.data.toList.take k)) ++ [(low s[k]).toNat]) := Lib.hid fun k h => by
    rw [take_snocO s k h]
    simp [nats, lowL]
  have hend : Hid (s.data.toList.take s.size = s.data.toList) := Lib.hid (List.take_of_length_le (by simp))
  have hsz := fun k => show (nats (lowL (s.data.toList.take k))).length ≤ 600 by
    simp only [nats, lowL, List.length_map]
    exact Nat.le_trans (List.length_take_le' ..) (by simpa using hs)
  replace hsz := Lib.hid hsz
  go_enter Tryd.func25, Tryd.ntmps25
  go_wp2_with fail
  go_loopw [3, 4] (fun b i wr => ∃ (k N cc : Nat) (B : Option Addr) (L : List Nat), k ≤ s.size ∧ N ≤ 600 ∧ i = .int .i64 (k : Int) ∧ b = .slice B N cc ∧ Hid (L.length = N) ∧ Hid (L = nats (lowL (s.data.toList.take k))) ∧ Hid (Own wr w.heap.size (.slice B N cc) L) ∧ Hid (Below w.heap.size w wr)) (fun _ i _ => s.size - (intOf i).toNat)
  case atStart => exact ⟨0, 0, 0, none, [], Nat.zero_le _, by omega, rfl, rfl, Lib.hid rfl, Lib.hid rfl, Lib.hid (own_nilO w), Lib.hid (Below.refl _ _)⟩
  case round =>
    obtain ⟨k, N, cc, B, L, hk, hN, rfl, rfl, HN, HL, HO, HB⟩ := hrel
    have hsz1 := HB.out.size
    by_cases hlt : k < s.size
    · have h1 := hst.out k hlt
      rw [← HL.out] at h1
      have h2 := hsz.out (k + 1)
      rw [h1, List.length_append, HN.out] at h2
      have hN1 : N + 1 ≤ 600 := h2
      clear h2
      obtain ⟨c, hc⟩ : ∃ c, c = s[k].toNat := ⟨_, rfl⟩
      have hcb : c < 256 := by rw [hc]; exact s[k].toNat_lt
      obtain ⟨d, hd⟩ : ∃ d, d = (low s[k]).toNat := ⟨_, rfl⟩
      rw [← hd] at h1
      have i0 : (0 : Int) ≤ (k : Int) := by omega
      have i1 : (k : Int) < (s.size : Int) := by omega
      have hds : (65 ≤ c ∧ c ≤ 90 ∧ d = c + 32) ∨ (¬ 65 ≤ c ∧ d = c) ∨ (65 ≤ c ∧ ¬ c ≤ 90 ∧ d = c) := by
        rw [hd]
        unfold low
        rw [← hc]
        by_cases g1 : 65 ≤ c <;> by_cases g2 : c ≤ 90
        · refine .inl ⟨g1, g2, ?_⟩
          rw [decide_eq_true g1, decide_eq_true g2]
          show (UInt8.ofNat (c + 32)).toNat = _
          rw [UInt8.toNat_ofNat']
          omega
        · exact .inr (.inr ⟨g1, g2, by rw [decide_eq_false g2, Bool.and_false]; exact hc.symm⟩)
        · exact .inr (.inl ⟨g1, by rw [decide_eq_false g1]; exact hc.symm⟩)
        · exact .inr (.inl ⟨g1, by rw [decide_eq_false g1]; exact hc.symm⟩)
      have hcs : ((s[k].toNat : Nat) : Int) = (c : Int) := by rw [hc]
      replace h1 := Lib.hid h1
      replace hc := Lib.hid hc
      replace hd := Lib.hid hd
      rcases hds with ⟨g1, g2, g3⟩ | ⟨g1, g3⟩ | ⟨g1, g2, g3⟩
      · have k0 : (65 : Int) ≤ (c : Int) := by omega
        have k1 : (c : Int) ≤ 90 := by omega
        have k2 : (c : Int) + 32 = (d : Int) := by omega
        have k3 : d < 256 := by omega
        replace g3 := Lib.hid g3
        go_wp2_with (at_builtin; refine append_srcF rfl (.tmp 23) (.tmp 25) rfl w.heap.size (.slice B N cc) L rfl (HO.out.alloc _) (wr.heap.size + 1) (some ⟨wr.heap.size, 0, none⟩) 1 [d] 1 rfl rfl (Src.one wr d) (by rw [HN.out]; simp; omega) (by simp; omega) ?_; intro A3 c3 w3 ho3 hb3 _; have HO3 := Lib.hid ho3; have HB3 := Lib.hid (show Below w.heap.size w w3 from HB.out.trans (((Below.refl w.heap.size wr).alloc hsz1 _).trans hb3)); clear ho3 hb3)
        clear k2
        go_roundw
        case rel => exact ⟨k + 1, N + 1, c3, A3, L ++ [d], by omega, hN1, by go_num, by rw [HN.out], Lib.hid (by rw [List.length_append, HN.out]; rfl), Lib.hid h1.out.symm, Lib.hid (by have := HO3.out; rwa [HN.out] at this), HB3⟩
        case measure => simp [intOf]; omega
      · have k0 : ¬ ((65 : Int) ≤ (c : Int)) := by omega
        subst g3
        go_wp2_with (at_builtin; refine append_srcF rfl (.tmp 23) (.tmp 25) rfl w.heap.size (.slice B N cc) L rfl (HO.out.alloc _) (wr.heap.size + 1) (some ⟨wr.heap.size, 0, none⟩) 1 [d] 1 rfl rfl (Src.one wr d) (by rw [HN.out]; simp; omega) (by simp; omega) ?_; intro A3 c3 w3 ho3 hb3 _; have HO3 := Lib.hid ho3; have HB3 := Lib.hid (show Below w.heap.size w w3 from HB.out.trans (((Below.refl w.heap.size wr).alloc hsz1 _).trans hb3)); clear ho3 hb3)
        go_roundw
        case rel => exact ⟨k + 1, N + 1, c3, A3, L ++ [d], by omega, hN1, by go_num, by rw [HN.out], Lib.hid (by rw [List.length_append, HN.out]; rfl), Lib.hid h1.out.symm, Lib.hid (by have := HO3.out; rwa [HN.out] at this), HB3⟩
        case measure => simp [intOf]; omega
      · have k0 : (65 : Int) ≤ (c : Int) := by omega
        have k1 : ¬ ((c : Int) ≤ 90) := by omega
        subst g3
        go_wp2_with (at_builtin; refine append_srcF rfl (.tmp 23) (.tmp 25) rfl w.heap.size (.slice B N cc) L rfl (HO.out.alloc _) (wr.heap.size + 1) (some ⟨wr.heap.size, 0, none⟩) 1 [d] 1 rfl rfl (Src.one wr d) (by rw [HN.out]; simp; omega) (by simp; omega) ?_; intro A3 c3 w3 ho3 hb3 _; have HO3 := Lib.hid ho3; have HB3 := Lib.hid (show Below w.heap.size w w3 from HB.out.trans (((Below.refl w.heap.size wr).alloc hsz1 _).trans hb3)); clear ho3 hb3)
        go_roundw
        case rel => exact ⟨k + 1, N + 1, c3, A3, L ++ [d], by omega, hN1, by go_num, by rw [HN.out], Lib.hid (by rw [List.length_append, HN.out]; rfl), Lib.hid h1.out.symm, Lib.hid (by have := HO3.out; rwa [HN.out] at this), HB3⟩
        case measure => simp [intOf]; omega
    · have hkk : k = s.size := by omega
      subst hkk
      have cv := HO.out.src.conv
      rw [HN.out] at cv
      have i1 : ¬ ((s.size : Int) < (s.size : Int)) := by omega
      go_wp2_with fail
      go_ret
      exact ⟨strB L, rfl, by rw [HL.out, strB_nats, hend.out], HB.out⟩
end Go.Proofs.YtllmffmmfpecaaaDoor
namespace Go.Proofs.YtllmffmmfpecaaaDoor
open Go.RowKit

def flatA (a : At) : List Value := [.string (baO a.name), .string (baO a.alias), .string (baO a.oid), .int .i64 (a.syn : Int), .bool a.single]
def cellsAt : List Value := atts.flatMap flatA
set_option maxRecDepth 8000 in
set_option maxHeartbeats 4000000 in
theorem refAttributes_any (w : World) : Calls Tryd.prog 13 #[] w fun e w' => e = .returned (.slice (some ⟨w.heap.size, 0, none⟩) 20 20) ∧ w' = w.alloc (.cells cellsAt.toArray 26) := by
  go_enter Tryd.func13, Tryd.ntmps13
  go_wp2_with fail
  go_ret
  exact ⟨rfl, rfl⟩
end Go.Proofs.YtllmffmmfpecaaaDoor
namespace Go.Proofs.YtllmffmmfpecaaaDoor
open Go.RowKit
open Go.RowKit Go.Lib

theorem add_zero7 (B : Option Addr) : B.map (fun a => a.add 0) = B := by
  cases B with
  | none => rfl
  | some a => simp [Addr.add]
theorem cut_to (B : Option Addr) (m cc k : Nat) (hk : k ≤ m) (hm : m ≤ cc) (W : World) :
    (Instr.sliceAt 29 (.slice B m cc) none (some (.int .i64 (k : Int))) none).run Tryd.prog W = .ok (.slice B k cc) W := by
  have h1 : (0 : Int) ≤ (k : Int) := by omega
  have h2 : (k : Int) ≤ (cc : Int) := by omega
  go_simp
theorem cut_from (B : Option Addr) (m cc k : Nat) (hk : k ≤ m) (hm : m ≤ cc) (W : World) :
    (Instr.sliceAt 29 (.slice B m cc) (some (.int .i64 (k : Int))) none none).run Tryd.prog W = .ok (.slice (if cc = k then B else B.map (·.add k)) (m - k) (cc - k)) W := by
  have h1 : (0 : Int) ≤ (k : Int) := by omega
  have h2 : (k : Int) ≤ (m : Int) := by omega
  have h3 : (m : Int) ≤ (cc : Int) := by omega
  go_simp
theorem addr_add7 (a : Addr) (k j : Nat) : (a.add k).add j = a.add (k + j) := by
  rcases k with _ | k
  · rw [Nat.zero_add]
    rfl
  · rcases j with _ | j
    · rfl
    · unfold Addr.add
      simp
      omega
theorem SrcO.take {w : World} {K : Nat} {A : Option Addr} {c : Nat} {L : List (List UInt8)} (h : SrcO w K A c L) (n : Nat) : SrcO w K A c (L.take n) := by
  refine ⟨Nat.le_trans (List.length_take_le' ..) h.le, h.nil, fun ad e => ⟨fun h0 => (h.at_ ad e).1 (Nat.lt_of_lt_of_le h0 (List.length_take_le' ..)), fun j x hj => ?_⟩⟩
  rw [List.getElem?_take] at hj
  split at hj
  · exact (h.at_ ad e).2 j x hj
  · cases hj
theorem SrcO.drop {w : World} {K : Nat} {A : Option Addr} {c : Nat} {L : List (List UInt8)} (h : SrcO w K A c L) (k : Nat) : SrcO w K (if c = k then A else A.map (·.add k)) (c - k) (L.drop k) := by
  have hle := h.le
  by_cases e : c = k
  · rw [if_pos e]
    have hd : L.drop k = [] := List.drop_of_length_le (by omega)
    rw [hd]
    refine ⟨by simp, fun hA => by have := h.nil hA; omega, fun ad hA => ⟨fun h0 => by simp at h0, fun j x hj => by simp at hj⟩⟩
  · rw [if_neg e]
    refine ⟨by rw [List.length_drop]; omega, fun hA => ?_, fun ad hA => ?_⟩
    · cases A with
      | none => have := h.nil rfl; omega
      | some a => cases hA
    · cases A with
      | none => cases hA
      | some a =>
        injection hA with hA
        subst hA
        refine ⟨fun h0 => ?_, fun j x hj => ?_⟩
        · rw [add_block]
          rw [List.length_drop] at h0
          exact (h.at_ a rfl).1 (by omega)
        · rw [List.getElem?_drop] at hj
          have := (h.at_ a rfl).2 (k + j) x hj
          rwa [addr_add7]
/-- append of strings at a step of a region that draws its order. -/
theorem step_strs {w : World} {ops : Array Oper} {o : Oper} {a : Act} {K : Act → World → Prop} {Q : Exit → Act → World → Prop} {E : Prop} (hgd : o.guard = none) (s x : Operand)
    (ho : o.op = .call { callee := .builtin .append, args := #[s, x], argTypes := #[29, 29] })
    (base : Nat) (v : Value) (L : List (List UInt8)) (n : Nat) (hn : L.length = n) (hs : a.eval s = v) (hown : OwnO w base v L)
    (B : Nat) (A : Option Addr) (m c : Nat) (M : List (List UInt8)) (hm : M.length = m) (hx : a.eval x = .slice A m c) (hsrc : SrcO w B A c M)
    (N : Nat) (hN : n + m = N) (hlen : N ≤ 2000000) (hbase : base ≤ w.heap.size)
    (h : ∀ A' c' w', OwnO w' base (.slice A' N c') (L ++ M) → Below base w w' → (∀ p : Addr, p.block < w.heap.size → some p.block ≠ v.ownBlock → w'.cell? p = w.cell? p) → K (a.put o.dst (.slice A' N c')) w') :
    if Region.wanted o (yielded ops a.tmps) = true then Oper.wp Tryd.prog o a w K Q else E := by
  have hw : Region.wanted o (yielded ops a.tmps) = true := by simp [Region.wanted, hgd]
  rw [if_pos hw]
  obtain ⟨i0, hi, hz0, hz1, hz2⟩ := info_parts info_str
  subst hn hm hN
  have hform : ∀ (v' : Value) (w' : World) (T : List (List UInt8)), OwnO w' base v' T → ∃ A' c', v' = .slice A' T.length c' := fun v' w' T hO => by
    rcases hO.form with ⟨h1, h2⟩ | ⟨g, c', h1, _⟩
    · exact ⟨none, 0, by rw [h1, h2]; rfl⟩
    · exact ⟨_, c', h1⟩
  rcases A with _ | ad
  · have hc : c = 0 := hsrc.nil rfl
    have hm : M = [] := List.eq_nil_of_length_eq_zero (by have := hsrc.le; omega)
    subst hc hm
    have hrun := run_append_owned_none (P := Tryd.prog) (w := w) base 29 o.type 9 i0 1 Tryd.underlying29 hi v L.length (cellsO L) hown
    obtain ⟨A', c', rfl⟩ := hform v w L hown
    unfold Oper.wp
    simp only [List.length_nil] at hx
    simp [execOp, ho, resolve, invoke, builtin, hs, hx, hrun, Result.andThen]
    have t : K (a.put o.dst (.slice A' L.length c')) w := by
      have := h A' c' w (by rw [List.append_nil]; exact hown) (Below.refl _ _) (fun _ _ _ => rfl)
      simpa using this
    exact t
  · obtain ⟨v', w', hr, hown', hg, _⟩ := run_append_own (P := Tryd.prog) (w := w) base 29 o.type 9 i0 _ 1 16 Tryd.underlying29 hi hz0 hz1 hz2 rfl (by decide) v L.length (cellsO L) hown ad M.length c (cellsO M) (by rw [cellsO_len, Nat.mul_one]) (fun j u hj => by
      unfold cellsO at hj
      rw [List.getElem?_map, Option.map_eq_some_iff] at hj
      obtain ⟨l, h1, rfl⟩ := hj
      exact (hsrc.at_ ad rfl).2 j l h1) (fun u hu => by
      obtain ⟨l, _, rfl⟩ := List.mem_map.1 hu
      rfl) (by simp only [maxLen]; omega) (by omega) hbase
    have hO : OwnO w' base v' (L ++ M) := by
      unfold OwnO
      rw [cellsO_app, List.length_append]
      exact hown'
    obtain ⟨A', c', rfl⟩ := hform v' w' _ hO
    unfold Oper.wp execOp
    simp only [ho, resolve, invoke, builtin, Sem.run_bind, Sem.run_pure, Result.andThen_ok, List.map_toArray, List.map_cons, List.map_nil, hs, hx, hr]
    rw [List.length_append] at hO ⊢
    exact h A' c' w' hO ((Below.refl _ _).grown hg hbase (fun k hk => (hown.lt k hk).1)) (fun p hp hne => hg.cell_far p hp hne)
theorem OwnO.lit (w : World) (base : Nat) (hb : base ≤ w.heap.size) : OwnO (w.alloc (.cells #[] 9)) base (.slice (some ⟨w.heap.size, 0, none⟩) 0 0) [] :=
  ⟨rfl, .inr ⟨w.heap.size, 0, #[], rfl, hb, heap_alloc_new w _, Nat.le_refl _, by simp [maxLen], rfl, rfl⟩⟩
theorem OwnO.lit2 (w : World) (o : Obj) (base : Nat) (hb : base ≤ w.heap.size) : OwnO ((w.alloc o).alloc (.cells #[] 9)) base (.slice (some ⟨w.heap.size + 1, 0, none⟩) 0 0) [] := by
  have := OwnO.lit (w.alloc o) base (by simp; omega)
  rwa [show (w.alloc o).heap.size = w.heap.size + 1 by simp] at this
theorem SrcO.one_at {w : World} {b : Nat} {l : List UInt8} (h : w.cell? ⟨b, 0, none⟩ = some (.string (baO l))) : SrcO w (b + 1) (some ⟨b, 0, none⟩) 1 [l] :=
  ⟨Nat.le_refl _, (by simp), fun ad e => by
    injection e with e
    subst e
    refine ⟨fun _ => Nat.lt_succ_self _, fun j x hj => ?_⟩
    match j, hj with
    | 0, hj => simp at hj; subst hj; exact h⟩
theorem one_cell (w : World) (l : List UInt8) : (w.alloc (.cells #[.string (baO l)] 9)).cell? ⟨w.heap.size, 0, none⟩ = some (.string (baO l)) := by
  have := news_one w (.string (baO l)) 9 0 _ rfl
  exact this
theorem world_out {p : World → Prop} {w : World} (a b : Nat) (h : ∀ W, Below w.heap.size w W → W.heap.size = w.heap.size → p W) : p ((w.drewN a).drewN b) := by
  have hb : ∀ (W : World) n, Below w.heap.size w W → W.heap.size = w.heap.size → Below w.heap.size w (W.drewN n) ∧ (W.drewN n).heap.size = w.heap.size := fun W n => by
    induction n with
    | zero => exact fun h1 h2 => ⟨h1, h2⟩
    | succ n ih => exact fun h1 h2 => ⟨(ih h1 h2).1.drew, (ih h1 h2).2⟩
  have h1 := hb w a (Below.refl _ _) rfl
  have h2 := hb _ b h1.1 h1.2
  exact h _ h2.1 h2.2
theorem SrcO.one (w : World) (l : List UInt8) : SrcO (w.alloc (.cells #[.string (baO l)] 9)) (w.heap.size + 1) (some ⟨w.heap.size, 0, none⟩) 1 [l] :=
  ⟨Nat.le_refl _, (by simp), fun ad e => by
    injection e with e
    subst e
    refine ⟨fun _ => Nat.lt_succ_self _, fun j x hj => news_one w _ 9 j _ ?_⟩
    match j, hj with
    | 0, hj => simp at hj; subst hj; rfl⟩
attribute [local go_sem ↓] Go.wp_at_zero Go.wp_at_succ

/-- An operation taken first, the frame written out. -/
theorem takeL8 {P : Program} {md : Region.Mode} {ops : Array Oper} {Q : Exit → Act → World → Prop} {S : World → Prop} (i d : Nat) {oi : Oper} {v : Value} {fuel : Nat} {listed : Array Bool} {l : List Value} {df : List Deferred} {w : World} (hi : ops[i]? = some oi) (hd : oi.dst = some d)
    (hs : Region.noSelect ops = true) (hf : Region.free md ops listed i = true) (hr : (Region.ready md ops listed).contains i = true)
    (hQ : ∀ c a w, Q (.panic c) (a.put oi.dst v) w → Q (.panic c) a w) (hy : YieldsIf P ops S oi v ⟨l.toArray, df⟩) (hS : S w)
    (h : wpAnyH P md ops Q S fuel (listed.setIfInBounds i true) ⟨(l.set d v).toArray, df⟩ w) : wpAnyH P md ops Q S (fuel + 1) listed ⟨l.toArray, df⟩ w := by
  refine wpAnyH_take hi hs hf hr hQ hy hS ?_
  rw [hd]
  unfold Act.put
  simpa using h
theorem below_drewN8 {K : Nat} {w w' : World} (h : Below K w w') : ∀ n, Below K w (w'.drewN n)
  | 0 => h
  | n + 1 => (below_drewN8 h n).drew
theorem own_drewN {w : World} {K : Nat} {v : Value} {L : List (List UInt8)} (h : OwnO w K v L) : ∀ n, OwnO (w.drewN n) K v L
  | 0 => h
  | n + 1 => World.ownsRow.drew (own_drewN h n)
theorem OwnO.base_le7 {w : World} {base base' : Nat} {v : Value} {L : List (List UInt8)} (h : OwnO w base v L) (hb : base' ≤ base) : OwnO w base' v L := by
  obtain ⟨h1, h0 | ⟨g, cap, cur, hv, hbs, hg, hn, hm, hs, hx⟩⟩ := h
  · exact ⟨h1, .inl h0⟩
  · exact ⟨h1, .inr ⟨g, cap, cur, hv, Nat.le_trans hb hbs, hg, hn, hm, hs, hx⟩⟩
theorem OwnO.form' {w : World} {base : Nat} {v : Value} {L : List (List UInt8)} (h : OwnO w base v L) {m : Nat} (hm : L.length = m) : (v = .slice none 0 0 ∧ L = []) ∨ ∃ g c, v = .slice (some ⟨g, 0, none⟩) m c ∧ base ≤ g ∧ g < w.heap.size ∧ m ≤ c ∧ c ≤ 9223372036854775807 ∧ ∀ (j : Nat) (l : List UInt8), L[j]? = some l → w.cell? ⟨g, j, none⟩ = some (.string (baO l)) := by
  subst hm
  exact h.form
end Go.Proofs.YtllmffmmfpecaaaDoor
namespace Go.Proofs.YtllmffmmfpecaaaDoor
open Go.RowKit

def allocs (w : World) (L : List Obj) : World := L.foldl (fun w o => w.alloc o) w
theorem allocs_heap : ∀ (L : List Obj) (w : World), (allocs w L).heap.toList = w.heap.toList ++ L
  | [], w => by simp [allocs]
  | o :: L, w => by
    show (allocs (w.alloc o) L).heap.toList = _
    rw [allocs_heap L (w.alloc o)]
    have e : (w.alloc o).heap.toList = w.heap.toList ++ [o] := by
      show (w.heap.push o).toList = _
      rw [Array.toList_push]
    rw [e, List.append_assoc]
    rfl
theorem allocs_size (L : List Obj) (w : World) : (allocs w L).heap.size = w.heap.size + L.length := by
  have := congrArg List.length (allocs_heap L w)
  simpa using this
theorem allocs_at (L : List Obj) (w : World) (j : Nat) : (allocs w L).heap[w.heap.size + j]? = L[j]? := by
  rw [← Array.getElem?_toList, allocs_heap, List.getElem?_append_right (by simp)]
  simp
theorem allocs_below (K : Nat) : ∀ (L : List Obj) (w : World), K ≤ w.heap.size → Below K w (allocs w L)
  | [], w, _ => Below.refl _ _
  | o :: L, w, h => ((Below.refl K w).alloc h o).trans (allocs_below K L (w.alloc o) (by simp; omega))
def strObj (l : List (List UInt8)) : Obj := .cells (cellsO l).toArray 9
def subsC : List (List (List UInt8)) := [[[111, 98, 106, 101, 99, 116, 67, 108, 97, 115, 115]], [[99]], [[100, 101, 115, 99, 114, 105, 112, 116, 105, 111, 110]], [[111]], [[100, 101, 115, 99, 114, 105, 112, 116, 105, 111, 110], [116, 101, 108, 101, 112, 104, 111, 110, 101, 78, 117, 109, 98, 101, 114]], [[111, 117]], [[100, 101, 115, 99, 114, 105, 112, 116, 105, 111, 110], [115, 101, 101, 65, 108, 115, 111], [116, 101, 108, 101, 112, 104, 111, 110, 101, 78, 117, 109, 98, 101, 114]], [[99, 110], [115, 110]], [[100, 101, 115, 99, 114, 105, 112, 116, 105, 111, 110], [115, 101, 101, 65, 108, 115, 111], [116, 101, 108, 101, 112, 104, 111, 110, 101, 78, 117, 109, 98, 101, 114], [117, 115, 101, 114, 80, 97, 115, 115, 119, 111, 114, 100]], [[101, 109, 112, 108, 111, 121, 101, 101, 78, 117, 109, 98, 101, 114], [103, 105, 118, 101, 110, 78, 97, 109, 101], [109, 97, 105, 108], [117, 105, 100]], [[99, 110]], [[100, 101, 115, 99, 114, 105, 112, 116, 105, 111, 110], [109, 101, 109, 98, 101, 114], [111, 119, 110, 101, 114], [115, 101, 101, 65, 108, 115, 111]], [[99, 110]], [[100, 101, 115, 99, 114, 105, 112, 116, 105, 111, 110], [111, 119, 110, 101, 114], [115, 101, 114, 105, 97, 108, 78, 117, 109, 98, 101, 114], [119, 101, 105, 103, 104, 116]], [[100, 99]], [[101, 110, 97, 98, 108, 101, 100], [117, 105, 100], [117, 115, 101, 114, 80, 97, 115, 115, 119, 111, 114, 100]]]
def flatC (n : Nat) (c : Cl) (m y : Option Nat) : List Value := [.string (baO c.name), .string (baO c.oid), .string (baO c.super), .int .i64 (c.kind : Int),
  (match m with | some j => .slice (some ⟨n + j, 0, none⟩) c.must.length c.must.length | none => .slice none 0 0), (match y with | some j => .slice (some ⟨n + j, 0, none⟩) c.may.length c.may.length | none => .slice none 0 0)]
def whereC : List (Option Nat × Option Nat) := [(some 0, none), (some 1, some 2), (some 3, some 4), (some 5, some 6), (some 7, some 8), (none, some 9), (some 10, some 11), (some 12, some 13), (some 14, none), (none, some 15)]
def cellsC (n : Nat) : List Value := (clss.zip whereC).flatMap fun x => flatC n x.1 x.2.1 x.2.2
def objsC (n : Nat) : List Obj := subsC.map strObj ++ [.cells (cellsC n).toArray 34]
/-- The table of classes lies at g; what it names lies below K. -/
def ClsS (w : World) (B K g : Nat) : Prop := g < K ∧ K ≤ w.heap.size ∧ ∀ (i : Nat) (c : Cl), clss[i]? = some c → ∃ A1 c1 A2 c2,
  w.cell? ⟨g, i * 6, none⟩ = some (.string (baO c.name)) ∧ w.cell? ⟨g, i * 6 + 1, none⟩ = some (.string (baO c.oid)) ∧ w.cell? ⟨g, i * 6 + 2, none⟩ = some (.string (baO c.super)) ∧
  w.cell? ⟨g, i * 6 + 3, none⟩ = some (.int .i64 (c.kind : Int)) ∧ w.cell? ⟨g, i * 6 + 4, none⟩ = some (.slice A1 c.must.length c1) ∧ w.cell? ⟨g, i * 6 + 5, none⟩ = some (.slice A2 c.may.length c2) ∧
  SrcO w K A1 c1 c.must ∧ SrcO w K A2 c2 c.may ∧ (∀ ad, A1 = some ad → B ≤ ad.block) ∧ (∀ ad, A2 = some ad → B ≤ ad.block)
theorem ClsS.below {w w' : World} {B K g : Nat} (h : ClsS w B K g) (hb : Below K w w') : ClsS w' B K g := by
  obtain ⟨h1, h2, h3⟩ := h
  refine ⟨h1, Nat.le_trans h2 hb.size, fun i c hc => ?_⟩
  obtain ⟨A1, c1, A2, c2, e0, e1, e2, e3, e4, e5, s1, s2, b1, b2⟩ := h3 i c hc
  have hk : ∀ j, w'.cell? ⟨g, j, none⟩ = w.cell? ⟨g, j, none⟩ := fun j => hb.cell (p := ⟨g, j, none⟩) h1
  exact ⟨A1, c1, A2, c2, by rw [hk, e0], by rw [hk, e1], by rw [hk, e2], by rw [hk, e3], by rw [hk, e4], by rw [hk, e5], s1.below hb, s2.below hb, b1, b2⟩
theorem none_ge (B : Nat) : ∀ ad : Addr, (none : Option Addr) = some ad → B ≤ ad.block := fun _ h => by cases h
theorem some_ge (n j : Nat) : ∀ ad : Addr, some (⟨n + j, 0, none⟩ : Addr) = some ad → n ≤ ad.block := fun ad h => by
  injection h with h
  subst h
  exact Nat.le_add_right _ _
theorem objs_src (n j : Nat) (w : World) (l : List (List UInt8)) (hn : w.heap.size = n) (h : subsC[j]? = some l) : SrcO (allocs w (objsC n)) (n + 17) (some ⟨n + j, 0, none⟩) l.length l := by
  subst hn
  have hj : j < subsC.length := (List.getElem?_eq_some_iff.1 h).1
  have hl : subsC.length = 16 := rfl
  refine ⟨Nat.le_refl _, (by simp), fun ad e => ?_⟩
  injection e with e
  subst e
  refine ⟨fun _ => by show w.heap.size + j < _; omega, fun i x hx => ?_⟩
  have ho : (allocs w (objsC w.heap.size)).heap[w.heap.size + j]? = some (strObj l) := by
    rw [allocs_at]
    unfold objsC
    rw [List.getElem?_append_left (by simpa using hj), List.getElem?_map, h]
    rfl
  have ha : (⟨w.heap.size + j, 0, none⟩ : Addr).add i = ⟨w.heap.size + j, i, none⟩ := by
    rcases i with _ | i
    · rfl
    · simp [Addr.add]
  rw [ha, cell_of_row _ _ _ _ _ _ ho, List.getElem?_toArray]
  unfold cellsO
  rw [List.getElem?_map, hx]
  rfl
theorem clsS_new (w : World) : ClsS (allocs w (objsC w.heap.size)) w.heap.size (w.heap.size + 17) (w.heap.size + 16) := by
  obtain ⟨n, hn⟩ : ∃ n, w.heap.size = n := ⟨_, rfl⟩
  rw [hn]
  refine ⟨by omega, ?_, fun i c hc => ?_⟩
  · rw [allocs_size, hn]
    exact Nat.le_refl _
  · have ho : (allocs w (objsC n)).heap[n + 16]? = some (.cells (cellsC n).toArray 34) := by
      rw [← hn, allocs_at]
      rfl
    have hk : ∀ j v, (cellsC n)[j]? = some v → (allocs w (objsC n)).cell? ⟨n + 16, j, none⟩ = some v := fun j v h => by
      rw [cell_of_row _ _ _ _ _ _ ho, List.getElem?_toArray, h]
    have hi : i < 10 := (List.getElem?_eq_some_iff.1 hc).1
    match i, hi, hc with
    | 0, _, hc =>
      injection hc with hc
      subst hc
      exact ⟨_, _, _, _, hk _ _ rfl, hk _ _ rfl, hk _ _ rfl, hk _ _ rfl, hk _ _ rfl, hk _ _ rfl, objs_src n 0 w _ hn rfl, SrcO.none_ _ _, some_ge _ 0, none_ge _⟩
    | 1, _, hc =>
      injection hc with hc
      subst hc
      exact ⟨_, _, _, _, hk _ _ rfl, hk _ _ rfl, hk _ _ rfl, hk _ _ rfl, hk _ _ rfl, hk _ _ rfl, objs_src n 1 w _ hn rfl, objs_src n 2 w _ hn rfl, some_ge _ 1, some_ge _ 2⟩
    | 2, _, hc =>
      injection hc with hc
      subst hc
      exact ⟨_, _, _, _, hk _ _ rfl, hk _ _ rfl, hk _ _ rfl, hk _ _ rfl, hk _ _ rfl, hk _ _ rfl, objs_src n 3 w _ hn rfl, objs_src n 4 w _ hn rfl, some_ge _ 3, some_ge _ 4⟩
    | 3, _, hc =>
      injection hc with hc
      subst hc
      exact ⟨_, _, _, _, hk _ _ rfl, hk _ _ rfl, hk _ _ rfl, hk _ _ rfl, hk _ _ rfl, hk _ _ rfl, objs_src n 5 w _ hn rfl, objs_src n 6 w _ hn rfl, some_ge _ 5, some_ge _ 6⟩
    | 4, _, hc =>
      injection hc with hc
      subst hc
      exact ⟨_, _, _, _, hk _ _ rfl, hk _ _ rfl, hk _ _ rfl, hk _ _ rfl, hk _ _ rfl, hk _ _ rfl, objs_src n 7 w _ hn rfl, objs_src n 8 w _ hn rfl, some_ge _ 7, some_ge _ 8⟩
    | 5, _, hc =>
      injection hc with hc
      subst hc
      exact ⟨_, _, _, _, hk _ _ rfl, hk _ _ rfl, hk _ _ rfl, hk _ _ rfl, hk _ _ rfl, hk _ _ rfl, SrcO.none_ _ _, objs_src n 9 w _ hn rfl, none_ge _, some_ge _ 9⟩
    | 6, _, hc =>
      injection hc with hc
      subst hc
      exact ⟨_, _, _, _, hk _ _ rfl, hk _ _ rfl, hk _ _ rfl, hk _ _ rfl, hk _ _ rfl, hk _ _ rfl, objs_src n 10 w _ hn rfl, objs_src n 11 w _ hn rfl, some_ge _ 10, some_ge _ 11⟩
    | 7, _, hc =>
      injection hc with hc
      subst hc
      exact ⟨_, _, _, _, hk _ _ rfl, hk _ _ rfl, hk _ _ rfl, hk _ _ rfl, hk _ _ rfl, hk _ _ rfl, objs_src n 12 w _ hn rfl, objs_src n 13 w _ hn rfl, some_ge _ 12, some_ge _ 13⟩
    | 8, _, hc =>
      injection hc with hc
      subst hc
      exact ⟨_, _, _, _, hk _ _ rfl, hk _ _ rfl, hk _ _ rfl, hk _ _ rfl, hk _ _ rfl, hk _ _ rfl, objs_src n 14 w _ hn rfl, SrcO.none_ _ _, some_ge _ 14, none_ge _⟩
    | 9, _, hc =>
      injection hc with hc
      subst hc
      exact ⟨_, _, _, _, hk _ _ rfl, hk _ _ rfl, hk _ _ rfl, hk _ _ rfl, hk _ _ rfl, hk _ _ rfl, SrcO.none_ _ _, objs_src n 15 w _ hn rfl, none_ge _, some_ge _ 15⟩
set_option maxRecDepth 8000 in
set_option maxHeartbeats 4000000 in
theorem refClasses_any (w : World) : Calls Tryd.prog 15 #[] w fun e w' => e = .returned (.slice (some ⟨w.heap.size + 16, 0, none⟩) 10 10) ∧ w' = allocs w (objsC w.heap.size) := by
  go_enter Tryd.func15, Tryd.ntmps15
  go_wp2_with fail
  go_ret
  exact ⟨rfl, rfl⟩
end Go.Proofs.YtllmffmmfpecaaaDoor
namespace Go.Proofs.YtllmffmmfpecaaaDoor
open Go.RowKit

def gatK (f : Cl → List (List UInt8)) (L : List (List UInt8)) (k : Nat) : List (List UInt8) := (clss.take k).foldl (fun m c => if meant c.name L = true then (f c).foldl putS m else m) []
theorem gatK_zero (f : Cl → List (List UInt8)) (L : List (List UInt8)) : gatK f L 0 = [] := rfl
theorem gatK_succ (f : Cl → List (List UInt8)) (L : List (List UInt8)) (k : Nat) (c : Cl) (h : clss[k]? = some c) : gatK f L (k + 1) = if meant c.name L = true then (f c).foldl putS (gatK f L k) else gatK f L k := by
  have hk : k < clss.length := (List.getElem?_eq_some_iff.1 h).1
  have hc : clss[k] = c := (List.getElem?_eq_some_iff.1 h).2
  unfold gatK
  rw [← List.take_append_getElem hk, List.foldl_append, hc]
  rfl
theorem gatK_end (f : Cl → List (List UInt8)) (L : List (List UInt8)) : gatK f L 10 = gather f L := rfl
theorem putS_len (l : List (List UInt8)) (s : List UInt8) : (putS l s).length ≤ l.length + 1 := by
  unfold putS
  split
  · omega
  · have := congrArg List.length (List.takeWhile_append_dropWhile (p := fun x => Op.bytesLess x s) (l := l))
    rw [List.length_append] at this ⊢
    rw [List.length_cons]
    omega
theorem puts_len (M l : List (List UInt8)) : (M.foldl putS l).length ≤ l.length + M.length := by
  induction M generalizing l with
  | nil => simp
  | cons y M ih =>
    have h1 := ih (putS l y)
    have h2 := putS_len l y
    rw [List.foldl_cons, List.length_cons]
    omega
theorem cls_few : ∀ c ∈ clss, c.must.length ≤ 9 ∧ c.may.length ≤ 9 ∧ (∀ x ∈ c.must, x.length ≤ 60) ∧ (∀ x ∈ c.may, x.length ≤ 60) := by decide +kernel
theorem gatK_len (f : Cl → List (List UInt8)) (hf : ∀ c ∈ clss, (f c).length ≤ 9) (L : List (List UInt8)) : ∀ k, k ≤ 10 → (gatK f L k).length ≤ 9 * k
  | 0, _ => by simp [gatK_zero]
  | k + 1, h => by
    have hk : k < clss.length := h
    rw [gatK_succ f L k _ (List.getElem?_eq_getElem hk)]
    have h1 := gatK_len f hf L k (by omega)
    have h2 := puts_len (f clss[k]) (gatK f L k)
    have h3 := hf clss[k] (List.getElem_mem hk)
    split <;> omega
theorem meant_cons (k : List UInt8) (L : List (List UInt8)) (i : Nat) (l : List UInt8) (h : L[i]? = some l) : meant k (L.take (i + 1)) = (meant k (L.take i) || above k (nameC l)) := by
  have hi : i < L.length := (List.getElem?_eq_some_iff.1 h).1
  have hl : L[i] = l := (List.getElem?_eq_some_iff.1 h).2
  unfold meant
  rw [← List.take_append_getElem hi, List.any_append, hl]
  simp
theorem valid_no {L : List (List UInt8)} {i : Nat} {l : List UInt8} (h : L[i]? = some l) (hn : findC l = none) : validC L = false := by
  rw [Bool.eq_false_iff]
  intro hv
  have := List.all_eq_true.1 hv l (List.mem_of_getElem? h)
  rw [hn] at this
  cases this
theorem valid_yes {L : List (List UInt8)} (h : ∀ j < L.length, ∀ l, L[j]? = some l → (findC l).isSome = true) : validC L = true := by
  refine List.all_eq_true.2 fun l hl => ?_
  obtain ⟨j, hj, e⟩ := List.mem_iff_getElem.1 hl
  exact h j hj l (by rw [List.getElem?_eq_getElem hj, e])
/-- What All tells. -/
def AllS (L : List (List UInt8)) (e : Ending) (w : World) : Prop := if validC L = true then
    ∃ A1 c1 A2 c2, e = .returned (.tuple #[.slice A1 (mustD L).length c1, .slice A2 (restD L).length c2, .int .i64 0]) ∧ SrcO w w.heap.size A1 c1 (mustD L) ∧ SrcO w w.heap.size A2 c2 (restD L)
  else e = .returned (.tuple #[.slice none 0 0, .slice none 0 0, .int .i64 13])
theorem AllS.no {L : List (List UInt8)} {w : World} (h : validC L = false) : AllS L (.returned (.tuple #[.slice none 0 0, .slice none 0 0, .int .i64 13])) w := by
  unfold AllS
  rw [h]
  rfl
/-- A cell of a row that came in, in any later world. -/
theorem SrcO.get {w : World} {A : Option Addr} {cp : Nat} {L : List (List UInt8)} {K : Nat} (h : SrcO w K A cp L) (k : Nat) (hk : k < L.length) : ∃ ad l, A = some ad ∧ L[k]? = some l ∧ ∀ W, Below K w W → W.cell? (ad.add k) = some (.string (baO l)) := by
  rcases A with _ | a
  · have e1 := h.le
    have e2 := h.nil rfl
    omega
  · refine ⟨a, _, rfl, List.getElem?_eq_getElem hk, fun W hW => ?_⟩
    exact ((h.below hW).at_ a rfl).2 k _ (List.getElem?_eq_getElem hk)
end Go.Proofs.YtllmffmmfpecaaaDoor
namespace Go.Proofs.YtllmffmmfpecaaaDoor
open Go.RowKit

theorem check_16 (L T : List (List UInt8)) (hv : validC L = true) (va : validA T = true) (hg : goodC L = false) : checkD L T = 16 := check_state L T hv hg (List.all_eq_true.1 va)
theorem check_13 (L T : List (List UInt8)) (va : validA T = false) : checkD L T = 13 := by
  unfold checkD
  rw [if_pos (.inr va)]
theorem check_11 (L T : List (List UInt8)) (hv : validC L = true) (va : validA T = true) (hg : goodC L = true) (x : List UInt8) (h1 : x ∈ mustD L) (h2 : ¬ x ∈ T.map nameA) : checkD L T = 11 := by
  unfold checkD
  rw [if_neg (by simp [hv, va]), if_neg (by simp [hg]), if_pos]
  rw [Bool.eq_false_iff]
  intro h
  exact h2 (of_decide_eq_true (List.all_eq_true.1 h x h1))
theorem check_2 (L T : List (List UInt8)) (hv : validC L = true) (va : validA T = true) (hg : goodC L = true) (hm : ∀ x ∈ mustD L, x ∈ T.map nameA) (x : List UInt8) (h0 : x ∈ T.map nameA) (h1 : ¬ x ∈ mustD L) (h2 : ¬ x ∈ restD L) : checkD L T = 2 := by
  unfold checkD
  rw [if_neg (by simp [hv, va]), if_neg (by simp [hg]), if_neg, if_pos]
  · rw [Bool.eq_false_iff]
    intro h
    have := List.all_eq_true.1 h x h0
    rw [Bool.or_eq_true, decide_eq_true_eq, decide_eq_true_eq] at this
    rcases this with h | h
    · exact h1 h
    · exact h2 h
  · rw [Bool.not_eq_false, List.all_eq_true]
    exact fun y hy => decide_eq_true (hm y hy)
theorem check_0 (L T : List (List UInt8)) (hv : validC L = true) (va : validA T = true) (hg : goodC L = true) (hm : ∀ x ∈ mustD L, x ∈ T.map nameA) (hn : ∀ x ∈ T.map nameA, x ∈ mustD L ∨ x ∈ restD L) : checkD L T = 0 := by
  unfold checkD
  rw [if_neg (by simp [hv, va]), if_neg (by simp [hg]), if_neg, if_neg]
  · rw [Bool.not_eq_false, List.all_eq_true]
    intro y hy
    rw [Bool.or_eq_true, decide_eq_true_eq, decide_eq_true_eq]
    exact hn y hy
  · rw [Bool.not_eq_false, List.all_eq_true]
    exact fun y hy => decide_eq_true (hm y hy)
theorem validA_no {T : List (List UInt8)} {i : Nat} {l : List UInt8} (h : T[i]? = some l) (hn : findA l = none) : validA T = false := by
  rw [Bool.eq_false_iff]
  intro hv
  have := List.all_eq_true.1 hv l (List.mem_of_getElem? h)
  rw [hn] at this
  cases this
theorem validA_yes {T : List (List UInt8)} (h : ∀ j < T.length, ∀ l, T[j]? = some l → (findA l).isSome = true) : validA T = true := by
  refine List.all_eq_true.2 fun l hl => ?_
  obtain ⟨j, hj, e⟩ := List.mem_iff_getElem.1 hl
  exact h j hj l (by rw [List.getElem?_eq_getElem hj, e])
theorem pairs_iff (L : List (List UInt8)) : (strC L).Pairwise (fun s t => apart t s = false) ↔ ∀ (j : Nat) (y : List UInt8), L[j]? = some y → kindC y = 1 → ∀ (k : Nat), k < j → ∀ (x : List UInt8), L[k]? = some x → kindC x = 1 → apart y x = false := by
  unfold strC
  rw [List.pairwise_filter, List.pairwise_iff_getElem]
  constructor
  · intro h j y hy h1 k hk x hx h2
    have hj : j < L.length := (List.getElem?_eq_some_iff.1 hy).1
    have ey : L[j] = y := (List.getElem?_eq_some_iff.1 hy).2
    have ex : L[k]'(by omega) = x := (List.getElem?_eq_some_iff.1 hx).2
    have := h k j (by omega) hj hk (by rw [ex]; simp [h2]) (by rw [ey]; simp [h1])
    rwa [ex, ey] at this
  · intro h i j hi hj hij h1 h2
    exact h j _ (List.getElem?_eq_getElem hj) (by simpa using h2) i hij _ (List.getElem?_eq_getElem hi) (by simpa using h1)
theorem good_no {L : List (List UInt8)} {k j : Nat} {x y : List UInt8} (hx : L[k]? = some x) (hy : L[j]? = some y) (hk : k < j) (h1 : kindC x = 1) (h2 : kindC y = 1) (ha : apart y x = true) : goodC L = false := by
  unfold goodC
  rw [Bool.and_eq_false_iff]
  refine .inr (decide_eq_false fun h => ?_)
  have := (pairs_iff L).1 h j y hy h2 k hk x hx h1
  rw [ha] at this
  cases this
theorem good_none {L : List (List UInt8)} (h : ∀ j < L.length, ∀ y, L[j]? = some y → kindC y ≠ 1) : goodC L = false := by
  have e : strC L = [] := by
    unfold strC
    rw [List.filter_eq_nil_iff]
    intro y hy
    obtain ⟨j, hj, e⟩ := List.mem_iff_getElem.1 hy
    have := h j hj y (by rw [List.getElem?_eq_getElem hj, e])
    simpa using this
  unfold goodC
  rw [e]
  rfl
theorem good_yes {L : List (List UInt8)} (h0 : ¬ ∀ j < L.length, ∀ y, L[j]? = some y → kindC y ≠ 1) (hp : ∀ j < L.length, ∀ y, L[j]? = some y → kindC y = 1 → ∀ (k : Nat), k < j → ∀ (x : List UInt8), L[k]? = some x → kindC x = 1 → apart y x = false) : goodC L = true := by
  unfold goodC
  rw [Bool.and_eq_true]
  constructor
  · rw [Bool.not_eq_true']
    refine beq_eq_false_iff_ne.2 fun e => h0 fun j hj y hy h1 => ?_
    have hm : y ∈ strC L := List.mem_filter.2 ⟨List.mem_of_getElem? hy, by simp [h1]⟩
    rw [e] at hm
    cases hm
  · exact decide_eq_true ((pairs_iff L).2 fun j y hy h1 k hk x hx h2 => hp j (List.getElem?_eq_some_iff.1 hy).1 y hy h1 k hk x hx h2)
end Go.Proofs.YtllmffmmfpecaaaDoor
namespace Go.Proofs.YtllmffmmfpecaaaDoor
open Go.RowKit Go.Lib

theorem below_drewN7 {K : Nat} {w w' : World} (h : Below K w w') : ∀ n, Below K w (w'.drewN n)
  | 0 => h
  | n + 1 => (below_drewN7 h n).drew
set_option maxRecDepth 8000 in
set_option maxHeartbeats 1600000 in
theorem same8_any (A B : Option Addr) (c d N : Nat) (L : List (List UInt8)) (w : World) (hN : L.length = N) (hN1 : N ≤ 1000) (h1 : SrcO w w.heap.size A c L) (h2 : SrcO w w.heap.size B d L) :
    Calls Tryd.prog 20 #[.slice A N c, .slice B N d] w fun e w' => e = .returned (.bool true) ∧ Below w.heap.size w w' := by
  have HN := Lib.hid hN
  have H1 := Lib.hid h1
  have H2 := Lib.hid h2
  clear h1 h2 hN
  go_enter Tryd.func20, Tryd.ntmps20
  go_wp2_with fail
  go_loopw [5] (fun iv wr => ∃ k : Nat, k ≤ N ∧ iv = .int .i64 (k : Int) ∧ Hid (Below w.heap.size w wr)) (fun iv _ => N - (intOf iv).toNat)
  case atStart => exact ⟨0, Nat.zero_le _, rfl, Lib.hid (Below.refl _ _)⟩
  case round =>
    obtain ⟨k, hk, rfl, HB⟩ := hrel
    by_cases hlt : k < N
    · have hkl : k < L.length := by rw [HN.out]; exact hlt
      obtain ⟨p, hp⟩ : ∃ p, L[k] = p := ⟨_, rfl⟩
      have hpk : L[k]? = some p := by rw [List.getElem?_eq_getElem hkl, hp]
      obtain ⟨a, ha, ca⟩ : ∃ a, A = some a ∧ wr.cell? (a.add k) = some (.string (baO p)) := by
        have h := H1.out.below HB.out
        rcases A with _ | a
        · have e1 := h.le
          have e2 := h.nil rfl
          omega
        · exact ⟨a, rfl, (h.at_ a rfl).2 k p hpk⟩
      obtain ⟨b, hb, cb⟩ : ∃ b, B = some b ∧ wr.cell? (b.add k) = some (.string (baO p)) := by
        have h := H2.out.below HB.out
        rcases B with _ | b
        · have e1 := h.le
          have e2 := h.nil rfl
          omega
        · exact ⟨b, rfl, (h.at_ b rfl).2 k p hpk⟩
      subst ha hb
      have i1 : (k : Int) < (N : Int) := by omega
      have i0 : (0 : Int) ≤ (k : Int) := by omega
      have e1 : ((baO p).toList == (baO p).toList) = true := by simp
      have e2 : ((baO p).toList != (baO p).toList) = false := by simp
      replace hp := Lib.hid hp
      replace hpk := Lib.hid hpk
      go_wp2_with fail
      go_quiet (fail)
      go_wp2_with fail
      go_roundw
      case rel => exact ⟨k + 1, by omega, by go_num, Lib.hid (below_drewN7 HB.out _)⟩
      case measure => simp [intOf]; omega
    · have i1 : ¬ ((k : Int) < (N : Int)) := by omega
      go_wp2_with fail
      go_ret
      exact ⟨rfl, HB.out⟩
set_option maxRecDepth 4000 in
theorem lawHas_any (s : ByteArray) (A : Option Addr) (cp N K : Nat) (L : List (List UInt8)) (w : World) (hN : N ≤ 1000000) (hL : L.length = N) (hsrc : SrcO w K A cp L) :
    Calls Tryd.prog 23 #[.slice A N cp, .string s] w fun e w' => e = .returned (.bool (decide (s.data.toList ∈ L))) ∧ w' = w := by
  have hget : Hid (∀ k, k < N → ∃ ad l, A = some ad ∧ L[k]? = some l ∧ w.cell? (ad.add k) = some (.string (baO l))) := Lib.hid fun k hk => by
    have hlt : k < L.length := by omega
    rcases A with _ | a
    · have e1 := hsrc.le
      have e2 := hsrc.nil rfl
      omega
    · exact ⟨a, _, rfl, List.getElem?_eq_getElem hlt, (hsrc.at_ a rfl).2 k _ (List.getElem?_eq_getElem hlt)⟩
  replace hL := Lib.hid hL
  clear hsrc
  go_enter Tryd.func23, Tryd.ntmps23
  go_wp2_with fail
  go_loop [5] (fun i => ∃ k : Nat, k ≤ N ∧ i = .int .i64 (k : Int) ∧ Hid (∀ j < k, ∀ l, L[j]? = some l → l ≠ s.data.toList)) (fun i => N - (intOf i).toNat)
  case atStart => exact ⟨0, Nat.zero_le _, rfl, Lib.hid (fun j hj => absurd hj (Nat.not_lt_zero _))⟩
  case round =>
    obtain ⟨k, hk, rfl, HF⟩ := hrel
    by_cases hlt : k < N
    · obtain ⟨ad, l, rfl, hl, hc⟩ := hget.out k hlt
      have i0 : (0 : Int) ≤ (k : Int) := by omega
      have i1 : (k : Int) < (N : Int) := by omega
      replace hl := Lib.hid hl
      by_cases e : l = s.data.toList
      · have eb : ((baO l).toList == s.toList) = true := beq_iff_eq.2 (by rw [baO_toList, ByteArray.toList_eq, e])
        have hin : s.data.toList ∈ L := by rw [← e]; exact List.mem_of_getElem? hl.out
        replace hin := Lib.hid hin
        clear e
        go_wp2_with fail
        go_ret
        exact ⟨by rw [decide_eq_true hin.out]; rfl, rfl⟩
      · have eb : ((baO l).toList == s.toList) = false := beq_eq_false_iff_ne.2 (by rw [baO_toList, ByteArray.toList_eq]; exact e)
        have eb' : ¬ (baO l).toList = s.toList := by rw [baO_toList, ByteArray.toList_eq]; exact e
        replace e := Lib.hid e
        go_wp2_with fail
        go_round
        case rel =>
          refine ⟨k + 1, by omega, by go_num, Lib.hid (fun j hj m hm => ?_)⟩
          by_cases hjk : j < k
          · exact HF.out j hjk m hm
          · obtain rfl : j = k := by omega
            rw [hl.out] at hm
            injection hm with hm
            rw [← hm]
            exact e.out
        case measure => simp [intOf]; omega
    · obtain rfl : k = N := by omega
      have hno : ¬ s.data.toList ∈ L := fun h => by
        obtain ⟨j, hj, e⟩ := List.mem_iff_getElem.1 h
        exact HF.out j (by rw [← hL.out]; exact hj) _ (List.getElem?_eq_getElem hj) e
      have i1 : ¬ ((k : Int) < (k : Int)) := by omega
      replace hno := Lib.hid hno
      go_wp2_with fail
      go_ret
      exact ⟨by rw [decide_eq_false hno.out]; rfl, rfl⟩
def FewS (N : Nat) (L : List (List UInt8)) (e : Ending) (w w' : World) : Prop := ∃ b, e = .returned (.bool b) ∧ w' = w ∧ (b = true → N ≤ 60 ∧ ∀ l ∈ L, l.length ≤ 600)
set_option maxRecDepth 4000 in
theorem few8_any (A : Option Addr) (cp N K : Nat) (L : List (List UInt8)) (w : World) (hN : N ≤ 9223372036854775807) (hL : L.length = N) (hsrc : SrcO w K A cp L) (hmax : ∀ l ∈ L, l.length ≤ 9223372036854775807) :
    Calls Tryd.prog 17 #[.slice A N cp] w fun e w' => FewS N L e w w' := by
  have hget : Hid (∀ k, k < N → ∃ ad l, A = some ad ∧ L[k]? = some l ∧ w.cell? (ad.add k) = some (.string (baO l)) ∧ l.length ≤ 9223372036854775807) := Lib.hid fun k hk => by
    obtain ⟨ad, l, h1, h2, h3⟩ := hsrc.get k (by omega)
    exact ⟨ad, l, h1, h2, h3 w (Below.refl _ _), hmax l (List.mem_of_getElem? h2)⟩
  replace hL := Lib.hid hL
  clear hsrc hmax
  go_enter Tryd.func17, Tryd.ntmps17
  go_wp2_with fail
  go_loop [3, 4] (fun nv iv => ∃ k n : Nat, k ≤ N ∧ n ≤ 600 ∧ 10 * k ≤ n ∧ iv = .int .i64 (k : Int) ∧ nv = .int .i64 (n : Int) ∧ Hid (∀ (j : Nat), j < k → ∀ (l : List UInt8), L[j]? = some l → l.length ≤ 600)) (fun _ iv => N - (intOf iv).toNat)
  case atStart => exact ⟨0, 0, Nat.zero_le _, by omega, by omega, rfl, rfl, Lib.hid (fun j hj => absurd hj (Nat.not_lt_zero _))⟩
  case round =>
    obtain ⟨k, n, hk, hn, hkn, rfl, rfl, HF⟩ := hrel
    by_cases hlt : k < N
    · obtain ⟨ad, l, rfl, hl, hc, hz⟩ := hget.out k hlt
      have hbz : (baO l).size = l.length := baO_size l
      have i0 : (0 : Int) ≤ (k : Int) := by omega
      have i1 : (k : Int) < (N : Int) := by omega
      replace hl := Lib.hid hl
      by_cases hl6 : l.length ≤ 600
      · have m1 : (l.length : Int) ≤ 600 := by omega
        by_cases hbig : 600 < n + 10 + l.length
        · have d1 : (600 : Int) < (n : Int) + 10 + (l.length : Int) := by omega
          go_wp2_with fail
          go_ret
          exact ⟨false, rfl, rfl, fun h => by cases h⟩
        · have d1 : ¬ ((600 : Int) < (n : Int) + 10 + (l.length : Int)) := by omega
          replace hl6 := Lib.hid hl6
          go_wp2_with fail
          go_round
          case rel =>
            refine ⟨k + 1, n + 10 + l.length, by omega, by omega, by omega, by go_num, by go_num, Lib.hid (fun j hj y hy => ?_)⟩
            by_cases hjk : j < k
            · exact HF.out j hjk y hy
            · obtain rfl : j = k := by omega
              rw [hl.out] at hy
              injection hy with hy
              rw [← hy]
              exact hl6.out
          case measure => simp [intOf]; omega
      · have m1 : ¬ (l.length : Int) ≤ 600 := by omega
        have m2 : (600 : Int) < (l.length : Int) := by omega
        have d1 : (600 : Int) < (n : Int) + 10 + 600 := by omega
        go_wp2_with fail
        go_ret
        exact ⟨false, rfl, rfl, fun h => by cases h⟩
    · obtain rfl : N = k := by omega
      have i1 : ¬ ((N : Int) < (N : Int)) := by omega
      have hall := Lib.hid (show ∀ l ∈ L, l.length ≤ 600 from fun l hl => by
        obtain ⟨j, hj, e⟩ := List.mem_iff_getElem.1 hl
        exact HF.out j (by rw [← hL.out]; exact hj) l (by rw [List.getElem?_eq_getElem hj, e]))
      go_wp2_with fail
      go_ret
      exact ⟨true, rfl, rfl, fun _ => ⟨by omega, hall.out⟩⟩
end Go.Proofs.YtllmffmmfpecaaaDoor
