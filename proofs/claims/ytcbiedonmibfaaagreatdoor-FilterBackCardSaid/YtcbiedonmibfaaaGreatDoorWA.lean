/-
  Words for slices of bytes: a slice that reads as a list, and a slice of the call's own that holds a list.
-/
import Derived.Test.YtcbiedonmibfaaaGreatDoorRows
import Derived.Handy
import Derived.Lib.Hide
import Derived.Laws.AppendOwnNone
import Derived.Deep.AppendLies
import Derived.Outline
namespace Go.Proofs.YtcbiedonmibfaaaGreatDoor
open Go.RowKit
theorem Hd {p : Prop} (h : p) : RowKit.Hid p := h
def cellsB (l : List Nat) : List Value := l.map fun (n : Nat) => Value.int .u8 (n : Int)
theorem cellsB_len (l : List Nat) : (cellsB l).length = l.length := by simp [cellsB]
theorem cellsB_app (l m : List Nat) : cellsB (l ++ m) = cellsB l ++ cellsB m := by simp [cellsB]
theorem cellsB_one (l : List Nat) : ∀ u ∈ cellsB l, u.oneCell' = true := by
 intro u hu
 simp only [cellsB, List.mem_map] at hu
 obtain ⟨n, _, rfl⟩ := hu
 rfl
theorem cellsB_get {l : List Nat} {j : Nat} {u : Value} (h : (cellsB l)[j]? = some u) : ∃ n, l[j]? = some n ∧ u = .int .u8 (n : Int) := by
 simp only [cellsB, List.getElem?_map, Option.map_eq_some_iff] at h
 obtain ⟨n, h1, rfl⟩ := h
 exact ⟨n, h1, rfl⟩
structure Src (w : World) (K : Nat) (A : Option Addr) (c : Nat) (l : List Nat) : Prop where
 le : l.length ≤ c
 nil : A = none → c = 0
 at_ : ∀ ad, A = some ad → (0 < l.length → ad.block < K) ∧ ∀ (j n : Nat), l[j]? = some n → w.cell? (ad.add j) = some (.int .u8 (n : Int))
theorem Src.none_ (w : World) (K : Nat) : Src w K none 0 [] := ⟨Nat.le_refl _, fun _ => rfl, fun _ h => by cases h⟩
theorem add_block (a : Addr) (n : Nat) : (a.add n).block = a.block := by unfold Addr.add; split <;> rfl
theorem Src.keep {w w' : World} {K : Nat} {A : Option Addr} {c : Nat} {l : List Nat} (h : Src w K A c l) (hk : ∀ p : Addr, p.block < K → w'.cell? p = w.cell? p) : Src w' K A c l := by
 refine ⟨h.le, h.nil, fun ad e => ⟨(h.at_ ad e).1, fun j n hj => ?_⟩⟩
 have hl : j < l.length := by
  rcases Nat.lt_or_ge j l.length with h0 | h0
  · exact h0
  · rw [List.getElem?_eq_none h0] at hj; cases hj
 rw [hk _ (by rw [add_block]; exact (h.at_ ad e).1 (by omega))]
 exact (h.at_ ad e).2 j n hj
theorem Src.below {w w' : World} {K : Nat} {A : Option Addr} {c : Nat} {l : List Nat} (h : Src w K A c l) (hb : Below K w w') : Src w' K A c l := h.keep fun _ hp => hb.cell hp
theorem Src.more {w : World} {K K' : Nat} {A : Option Addr} {c : Nat} {l : List Nat} (h : Src w K A c l) (hb : K ≤ K') : Src w K' A c l :=
 ⟨h.le, h.nil, fun ad e => ⟨fun h0 => Nat.lt_of_lt_of_le ((h.at_ ad e).1 h0) hb, (h.at_ ad e).2⟩⟩
theorem news_one (w : World) (x : Value) (t : TypeId) : ∀ j u, [x][j]? = some u → (w.alloc (.cells #[x] t)).cell? ((⟨w.heap.size, 0, none⟩ : Addr).add j) = some u :=
 World.news_of_block (cs := #[x]) (fr := (0, 0)) (heap_alloc_new w _)
theorem one_u8 (x : Int) : ∀ u ∈ [Value.int .u8 x], u.oneCell' = true := by
 intro u hu
 simp only [List.mem_singleton] at hu
 subst hu
 rfl
def Own (w : World) (base : Nat) (v : Value) (l : List Nat) : Prop := w.ownsRow base 5 1 v l.length (cellsB l)
theorem info_u8 : (Tryz.prog.info? 5).map (fun i => (i.zero, i.size, i.bytes)) = some (some (.int .u8 0), 1, 1) := by kernel_rfl
theorem Own.form {w : World} {base : Nat} {v : Value} {l : List Nat} (h : Own w base v l) : ∃ A c, v = .slice A l.length c ∧ Src w w.heap.size A c l := by
 obtain ⟨_, h0 | ⟨g, cap, cur, hv, hb, hg, hn, hm, hs, hx⟩⟩ := h
 · have : l = [] := List.eq_nil_of_length_eq_zero h0.2
   subst this
   exact ⟨none, 0, h0.1, Src.none_ _ _⟩
 · refine ⟨_, cap, hv, hn, (by simp), fun ad e => ?_⟩
   injection e with e
   subst e
   refine ⟨fun _ => (Array.getElem?_eq_some_iff.1 hg).1, fun j n hj => ?_⟩
   have hadd : (⟨g, 0, none⟩ : Addr).add j = ⟨g, j, none⟩ := by unfold Addr.add; split <;> simp_all
   rw [hadd, cell_of_row w g j cur _ _ hg]
   have hjl : j < l.length := (List.getElem?_eq_some_iff.1 hj).1
   have h2 : (cellsB l)[j]? = some (Value.int .u8 (n : Int)) := by simp [cellsB, hj]
   rw [← hx, List.getElem?_take, if_pos (by omega)] at h2
   simpa using h2
theorem Own.below {w w' : World} {base K : Nat} {v : Value} {l : List Nat} (h : Own w base v l) (hb : Below K w w') (hK : w.heap.size ≤ K) : Own w' base v l := by
 obtain ⟨h1, h0 | ⟨g, cap, cur, hv, hbs, hg, hn, hm, hs, hx⟩⟩ := h
 · exact ⟨h1, .inl h0⟩
 · refine ⟨h1, .inr ⟨g, cap, cur, hv, hbs, ?_, hn, hm, hs, hx⟩⟩
   rw [hb.block g (Nat.lt_of_lt_of_le (Array.getElem?_eq_some_iff.1 hg).1 hK)]
   exact hg
theorem Own.base_le {w : World} {base base' : Nat} {v : Value} {l : List Nat} (h : Own w base v l) (hb : base' ≤ base) : Own w base' v l := by
 obtain ⟨h1, h0 | ⟨g, cap, cur, hv, hbs, hg, hn, hm, hs, hx⟩⟩ := h
 · exact ⟨h1, .inl h0⟩
 · exact ⟨h1, .inr ⟨g, cap, cur, hv, Nat.le_trans hb hbs, hg, hn, hm, hs, hx⟩⟩
end Go.Proofs.YtcbiedonmibfaaaGreatDoor
namespace Go.Proofs.YtcbiedonmibfaaaGreatDoor
open Go.RowKit
theorem append_src {w : World} {ops : Array Oper} {rest : List Oper} {o : Oper} {a : Act} {Q : Exit → Act → World → Prop} (hgd : o.guard = none) (s x : Operand)
 (ho : o.op = .call { callee := .builtin .append, args := #[s, x], argTypes := #[40, 40] })
 (base : Nat) (v : Value) (l : List Nat) (hs : a.eval s = v) (hown : Own w base v l) (K : Nat) (A : Option Addr) (c : Nat) (m : List Nat) (hx : a.eval x = .slice A m.length c) (hsrc : Src w K A c m)
 (hlen : l.length + m.length ≤ 2000000) (hbase : base ≤ w.heap.size)
 (h : ∀ A' c' w', Own w' base (.slice A' (l ++ m).length c') (l ++ m) → Below base w w' → wpList Tryz.prog ops Q rest (a.put o.dst (.slice A' (l ++ m).length c')) w') : wpList Tryz.prog ops Q (o :: rest) a w := by
 obtain ⟨i0, hi, hz0, hz1, hz2⟩ := info_parts info_u8
 rcases A with _ | ad
 · have hc : c = 0 := hsrc.nil rfl
   have hm : m = [] := List.eq_nil_of_length_eq_zero (by have := hsrc.le; omega)
   subst hc hm
   obtain ⟨A', c', rfl, _⟩ := hown.form
   refine wpList_append_own_none hgd s x 40 ho base 5 i0 1 Tryz.underlying40 hi _ l.length (cellsB l) hs hown hx ?_
   have := h A' c' w (by rw [List.append_nil]; exact hown) (Below.refl _ _)
   rwa [List.append_nil] at this
 · refine wpList_append_own w hgd s x 40 ho base 5 i0 (.int .u8 0) 1 1 Tryz.underlying40 hi hz0 hz1 hz2 rfl (by decide) v l.length (cellsB l) hs hown ad m.length c (cellsB m) hx (by rw [cellsB_len, Nat.mul_one]) (fun j u hj => ?_) (cellsB_one m)
    (by simp only [maxLen]; omega) (by omega) hbase fun v' w' hown' hg _ => ?_
   · obtain ⟨n, h1, rfl⟩ := cellsB_get hj
     exact (hsrc.at_ ad rfl).2 j n h1
   · have ho' : Own w' base v' (l ++ m) := by
      unfold Own
      rw [cellsB_app, List.length_append]
      exact hown'
     obtain ⟨A', c', rfl, _⟩ := ho'.form
     exact h A' c' w' ho' ((Below.refl _ _).grown hg hbase (fun k hk => (hown.lt k hk).1))
theorem append_srcF {w : World} {ops : Array Oper} {rest : List Oper} {o : Oper} {a : Act} {Q : Exit → Act → World → Prop} (hgd : o.guard = none) (s x : Operand)
 (ho : o.op = .call { callee := .builtin .append, args := #[s, x], argTypes := #[40, 40] })
 (base : Nat) (v : Value) (l : List Nat) (hs : a.eval s = v) (hown : Own w base v l) (K : Nat) (A : Option Addr) (c : Nat) (m : List Nat) (k : Nat) (hk : m.length = k) (hx : a.eval x = .slice A k c) (hsrc : Src w K A c m)
 (hlen : l.length + m.length ≤ 2000000) (hbase : base ≤ w.heap.size)
 (h : ∀ A' c' w', Own w' base (.slice A' (l.length + k) c') (l ++ m) → Below base w w' → (∀ p : Addr, p.block < w.heap.size → some p.block ≠ v.ownBlock → w'.cell? p = w.cell? p) → wpList Tryz.prog ops Q rest (a.put o.dst (.slice A' (l.length + k) c')) w') : wpList Tryz.prog ops Q (o :: rest) a w := by
 obtain ⟨i0, hi, hz0, hz1, hz2⟩ := info_parts info_u8
 subst hk
 rcases A with _ | ad
 · have hc : c = 0 := hsrc.nil rfl
   have hm : m = [] := List.eq_nil_of_length_eq_zero (by have := hsrc.le; omega)
   subst hc hm
   obtain ⟨A', c', rfl, _⟩ := hown.form
   refine wpList_append_own_none hgd s x 40 ho base 5 i0 1 Tryz.underlying40 hi _ l.length (cellsB l) hs hown hx ?_
   have := h A' c' w (by rw [List.append_nil]; exact hown) (Below.refl _ _) (fun _ _ _ => rfl)
   exact this
 · refine wpList_append_own w hgd s x 40 ho base 5 i0 (.int .u8 0) 1 1 Tryz.underlying40 hi hz0 hz1 hz2 rfl (by decide) v l.length (cellsB l) hs hown ad m.length c (cellsB m) hx (by rw [cellsB_len, Nat.mul_one]) (fun j u hj => ?_) (cellsB_one m)
    (by simp only [maxLen]; omega) (by omega) hbase fun v' w' hown' hg _ => ?_
   · obtain ⟨n, h1, rfl⟩ := cellsB_get hj
     exact (hsrc.at_ ad rfl).2 j n h1
   · have ho' : Own w' base v' (l ++ m) := by
      unfold Own
      rw [cellsB_app, List.length_append]
      exact hown'
     obtain ⟨A', c', rfl, _⟩ := ho'.form
     rw [List.length_append] at ho' ⊢
     exact h A' c' w' ho' ((Below.refl _ _).grown hg hbase (fun k hk => (hown.lt k hk).1)) (fun p hp hne => hg.cell_far p hp hne)
theorem Src.one (w : World) (x : Nat) : Src (w.alloc (.cells #[.int .u8 (x : Int)] 5)) (w.heap.size + 1) (some ⟨w.heap.size, 0, none⟩) 1 [x] :=
 ⟨Nat.le_refl _, (by simp), fun ad e => by
  injection e with e
  subst e
  refine ⟨fun _ => Nat.lt_succ_self _, fun j n hj => news_one w _ _ j _ ?_⟩
  match j, hj with
  | 0, hj => simp at hj; subst hj; rfl⟩
theorem Src.take {w : World} {K : Nat} {A : Option Addr} {c : Nat} {l : List Nat} (h : Src w K A c l) (n : Nat) : Src w K A c (l.take n) := by
 refine ⟨Nat.le_trans (List.length_take_le' ..) h.le, h.nil, fun ad e => ⟨fun h0 => (h.at_ ad e).1 (Nat.lt_of_lt_of_le h0 (List.length_take_le' ..)), fun j x hj => ?_⟩⟩
 rw [List.getElem?_take] at hj
 split at hj
 · exact (h.at_ ad e).2 j x hj
 · cases hj
theorem Own.src {w : World} {base : Nat} {A : Option Addr} {c : Nat} {n : Nat} {l : List Nat} (h : Own w base (.slice A n c) l) : Src w w.heap.size A c l := by
 obtain ⟨A', c', hv, hs⟩ := h.form
 injection hv with h1 h2 h3
 subst h1 h3
 exact hs
theorem Own.cap {w : World} {base : Nat} {A : Option Addr} {c : Nat} {n : Nat} {l : List Nat} (h : Own w base (.slice A n c) l) : c ≤ 9223372036854775807 := by
 rcases h.2 with ⟨hv, _⟩ | ⟨g, cap, cur, hv, _, _, _, hm, _⟩
 · injection hv with _ _ h3
   omega
 · injection hv with _ _ h3
   unfold maxLen at hm
   omega
end Go.Proofs.YtcbiedonmibfaaaGreatDoor
