/-
  What the program's functions of the schema are to answer.
  Append onto a row of strings of the call's own, from any row.
  Two rows of strings of the call's own, and append onto one of them.
  The classes above a class, and the texts that the program's table holds in the place of lists, as data.
  Strings in order, each once: sorted and compacted, and the document's sets. Nothing here speaks of a program.
  Rows of structs of six cells of the call's own, and append of one more.
-/
import Derived.Test.YtllmffmmfpecaaaDoorMB8
import Derived.Maps.AppendAt
import Derived.Lib.Strings
import Derived.Lib.FieldsLaws
import Derived.Test.YtllmffmmfpecaaaDoorMA8
import Derived.Sort.KeysCollected
import Derived.Lib.SlicesCompact
import Derived.Lib.RowBridge
namespace Go.Proofs.YtllmffmmfpecaaaDoor
open Go.RowKit

def mD (L : List (List UInt8)) : List (List UInt8) := if validC L = true then mustD L else []
def yD (L : List (List UInt8)) : List (List UInt8) := if validC L = true then restD L else []
def vD (L : List (List UInt8)) : Nat := if validC L = true then 0 else 13
theorem AllS.form {L : List (List UInt8)} {e : Ending} {w : World} (h : AllS L e w) : ∃ A1 c1 A2 c2, e = .returned (.tuple #[.slice A1 (mD L).length c1, .slice A2 (yD L).length c2, .int .i64 (vD L : Int)]) ∧ SrcO w w.heap.size A1 c1 (mD L) ∧ SrcO w w.heap.size A2 c2 (yD L) := by
  unfold AllS at h
  unfold mD yD vD
  by_cases hv : validC L = true
  · rw [if_pos hv] at h
    simp only [if_pos hv]
    obtain ⟨A1, c1, A2, c2, h1, h2, h3⟩ := h
    exact ⟨A1, c1, A2, c2, h1, h2, h3⟩
  · rw [if_neg hv] at h
    simp only [if_neg hv]
    exact ⟨none, 0, none, 0, h, SrcO.none_ _ _, SrcO.none_ _ _⟩
theorem mD_len (L : List (List UInt8)) : (mD L).length ≤ 90 := by
  unfold mD
  split
  · exact gatK_len Cl.must (fun c hc => (cls_few c hc).1) L 10 (Nat.le_refl _)
  · simp
theorem yD_len (L : List (List UInt8)) : (yD L).length ≤ 90 := by
  unfold yD
  split
  · exact Nat.le_trans (List.length_filter_le _ _) (gatK_len Cl.may (fun c hc => (cls_few c hc).2.1) L 10 (Nat.le_refl _))
  · simp
/-- What the program's All answers, in any world behind w0. -/
structure AllH (w0 : World) : Prop where
  all : ∀ (A : Option Addr) (cp N : Nat) (L : List (List UInt8)) (W : World), Below w0.heap.size w0 W → N ≤ 1000 → L.length = N → SrcO W W.heap.size A cp L → (∀ l ∈ L, l.length ≤ 600) → Calls Tryd.prog 18 #[.slice A N cp] W fun e w' => AllS L e w' ∧ Below W.heap.size W w'
end Go.Proofs.YtllmffmmfpecaaaDoor
namespace Go.Proofs.YtllmffmmfpecaaaDoor
open Go.RowKit

theorem SrcO.next8 {w w' : World} {A : Option Addr} {c : Nat} {L : List (List UInt8)} (h : SrcO w w.heap.size A c L) (hb : Below w.heap.size w w') : SrcO w' w'.heap.size A c L := (h.below hb).more hb.size
theorem append_any {w : World} {ops : Array Oper} {rest : List Oper} {o : Oper} {a : Act} {Q : Exit → Act → World → Prop} (hgd : o.guard = none) (s x : Operand)
    (ho : o.op = .call { callee := .builtin .append, args := #[s, x], argTypes := #[29, 29] })
    (base : Nat) (v : Value) (L : List (List UInt8)) (n : Nat) (hn : L.length = n) (hs : a.eval s = v) (hown : OwnO w base v L)
    (B : Nat) (A : Option Addr) (m c : Nat) (M : List (List UInt8)) (hm : M.length = m) (hx : a.eval x = .slice A m c) (hsrc : SrcO w B A c M)
    (N : Nat) (hN : n + m = N) (hlen : N ≤ 2000000) (hbase : base ≤ w.heap.size)
    (h : ∀ A' c' w', OwnO w' base (.slice A' N c') (L ++ M) → Below base w w' → wpList Tryd.prog ops Q rest (a.put o.dst (.slice A' N c')) w') : wpList Tryd.prog ops Q (o :: rest) a w := by
  have hs := step_strs (ops := ops) (K := wpList Tryd.prog ops Q rest) (Q := Q) (E := wpList Tryd.prog ops Q rest (a.put o.dst undef) w) hgd s x ho base v L n hn hs hown B A m c M hm hx hsrc N hN hlen hbase (fun A' c' w' h1 h2 _ => h A' c' w' h1 h2)
  rw [wpList]
  by_cases hw : Region.wanted o (yielded ops a.tmps) = true
  · rw [if_pos hw] at hs ⊢
    exact .inl hs
  · rw [if_neg hw] at hs ⊢
    exact hs
theorem all_form (L : List (List UInt8)) (m y v : Nat) (h1 : (mD L).length = m) (h2 : (yD L).length = y) (h3 : vD L = v) : Hid (∀ e w, AllS L e w → ∃ A1 c1 A2 c2, e = .returned (.tuple #[.slice A1 m c1, .slice A2 y c2, .int .i64 (v : Int)]) ∧ SrcO w w.heap.size A1 c1 (mD L) ∧ SrcO w w.heap.size A2 c2 (yD L)) := Lib.hid fun e w h => by
  have := h.form
  rw [h1, h2, h3] at this
  exact this
theorem SrcO.lits (w : World) (L : List (List UInt8)) : SrcO (w.alloc (.cells (cellsO L).toArray 9)) (w.heap.size + 1) (some ⟨w.heap.size, 0, none⟩) L.length L :=
  ⟨Nat.le_refl _, (by simp), fun ad e => by
    injection e with e
    subst e
    refine ⟨fun _ => Nat.lt_succ_self _, fun j x hj => ?_⟩
    have ha : (⟨w.heap.size, 0, none⟩ : Addr).add j = ⟨w.heap.size, j, none⟩ := by
      rcases j with _ | j
      · rfl
      · simp [Addr.add]
    rw [ha, cell_of_row _ _ _ _ _ _ (heap_alloc_new w _), List.getElem?_toArray]
    unfold cellsO
    rw [List.getElem?_map, hj]
    rfl⟩
end Go.Proofs.YtllmffmmfpecaaaDoor
namespace Go.Proofs.YtllmffmmfpecaaaDoor
open Go.RowKit

theorem append_at {w : World} {ops : Array Oper} {rest : List Oper} {o : Oper} {a : Act} {Q : Exit → Act → World → Prop} (hgd : o.guard = none) (s x : Operand)
    (ho : o.op = .call { callee := .builtin .append, args := #[s, x], argTypes := #[29, 29] })
    (base : Nat) (v : Value) (L : List (List UInt8)) (n : Nat) (hn : L.length = n) (hs : a.eval s = v) (hown : OwnO w base v L)
    (B : Nat) (A : Option Addr) (m c : Nat) (M : List (List UInt8)) (hm : M.length = m) (hx : a.eval x = .slice A m c) (hsrc : SrcO w B A c M)
    (N : Nat) (hN : n + m = N) (hlen : N ≤ 2000000) (hbase : base ≤ w.heap.size)
    (h : ∀ A' c' w', OwnO w' base (.slice A' N c') (L ++ M) → w.grownBy w' v.ownBlock → ((Value.slice A' N c').ownBlock = v.ownBlock ∨ (Value.slice A' N c').ownBlock = some w.heap.size) → Below base w w' → wpList Tryd.prog ops Q rest (a.put o.dst (.slice A' N c')) w') : wpList Tryd.prog ops Q (o :: rest) a w := by
  obtain ⟨i0, hi, hz0, hz1, hz2⟩ := info_parts info_str
  subst hn hm hN
  have hform : ∀ (v' : Value) (w' : World) (T : List (List UInt8)), OwnO w' base v' T → ∃ A' c', v' = .slice A' T.length c' := fun v' w' T hO => by
    rcases hO.form with ⟨h1, h2⟩ | ⟨g, c', h1, _⟩
    · exact ⟨none, 0, by rw [h1, h2]; rfl⟩
    · exact ⟨_, c', h1⟩
  rcases A with _ | ad
  · have hc : c = 0 := hsrc.nil rfl
    have hm : M = [] := List.eq_nil_of_length_eq_zero (by have := hsrc.le; omega)
    subst hc hm
    refine wpList_append_own_none hgd s x 29 ho base 9 i0 1 Tryd.underlying29 hi v L.length (cellsO L) hs hown hx ?_
    obtain ⟨A', c', rfl⟩ := hform v w L hown
    have := h A' c' w (by rw [List.append_nil]; exact hown) ⟨rfl, rfl, rfl, Nat.le_refl _, fun _ _ _ => rfl⟩ (.inl rfl) (Below.refl _ _)
    simpa using this
  · refine wpList_append_own_at w hgd s x 29 ho base 9 i0 _ 1 16 Tryd.underlying29 hi hz0 hz1 hz2 rfl (by decide) v L.length (cellsO L) hs hown ad M.length c (cellsO M) hx (by rw [cellsO_len, Nat.mul_one]) (fun j u hj => ?_) (fun u hu => ?_)
      (by simp only [maxLen]; omega) (by omega) hbase fun v' w' hown' hg _ hat => ?_
    · unfold cellsO at hj
      rw [List.getElem?_map, Option.map_eq_some_iff] at hj
      obtain ⟨l, h1, rfl⟩ := hj
      exact (hsrc.at_ ad rfl).2 j l h1
    · obtain ⟨l, _, rfl⟩ := List.mem_map.1 hu
      rfl
    · have hO : OwnO w' base v' (L ++ M) := by
        unfold OwnO
        rw [cellsO_app, List.length_append]
        exact hown'
      obtain ⟨A', c', rfl⟩ := hform v' w' _ hO
      rw [List.length_append] at hO hat ⊢
      exact h A' c' w' hO hg hat ((Below.refl _ _).grown hg hbase (fun k hk => (hown.lt k hk).1))
/-- Two rows of the call's own, in two blocks. -/
structure TwoO (w : World) (base : Nat) (v : Value) (L : List (List UInt8)) (u : Value) (M : List (List UInt8)) : Prop where
  one : OwnO w base v L
  two : OwnO w base u M
  far : ∀ g, v.ownBlock = some g → u.ownBlock = some g → False
theorem TwoO.nil (w : World) (base : Nat) : TwoO w base (.slice none 0 0) [] (.slice none 0 0) [] := ⟨OwnO.nil _ _, OwnO.nil _ _, fun _ h => by cases h⟩
theorem TwoO.turn {w : World} {base : Nat} {v u : Value} {L M : List (List UInt8)} (h : TwoO w base v L u M) : TwoO w base u M v L := ⟨h.two, h.one, fun g h1 h2 => h.far g h2 h1⟩
theorem TwoO.below {w w' : World} {base : Nat} {v u : Value} {L M : List (List UInt8)} (h : TwoO w base v L u M) (hb : Below w.heap.size w w') : TwoO w' base v L u M := ⟨h.one.below hb (Nat.le_refl _), h.two.below hb (Nat.le_refl _), h.far⟩
/-- What is behind an append onto the first row. -/
theorem TwoO.grown {w w' : World} {base : Nat} {v u v' : Value} {L M L' : List (List UInt8)} (h : TwoO w base v L u M) (ho : OwnO w' base v' L') (hg : w.grownBy w' v.ownBlock) (hat : v'.ownBlock = v.ownBlock ∨ v'.ownBlock = some w.heap.size) : TwoO w' base v' L' u M := by
  refine ⟨ho, ?_, fun g h1 h2 => ?_⟩
  · have hne : u.ownBlock = none ∨ u.ownBlock ≠ v.ownBlock := by
      rcases hu : u.ownBlock with _ | g
      · exact .inl rfl
      · exact .inr fun e => h.far g e.symm hu
    exact World.ownsRow.kept h.two hg hne
  · rcases hat with e | e
    · exact h.far g (e.symm.trans h1) h2
    · have := (World.ownsRow.lt h.two g h2).2
      rw [e] at h1
      injection h1 with h1
      omega
end Go.Proofs.YtllmffmmfpecaaaDoor
namespace Go.Proofs.YtllmffmmfpecaaaDoor

/-- Names with a blank between two. -/
def txt : List (List UInt8) → List UInt8
  | [] => []
  | [x] => x
  | x :: y :: L => x ++ 32 :: txt (y :: L)
set_option maxRecDepth 100000 in
theorem txt_fields : ∀ c ∈ clss, Lib.fields (txt c.must) = c.must ∧ Lib.fields (txt c.may) = c.may := by decide +kernel
set_option maxRecDepth 100000 in
theorem txt_ascii : ∀ c ∈ clss, ((txt c.must).all (fun b => decide (b.toNat < 128)) = true ∧ (txt c.may).all (fun b => decide (b.toNat < 128)) = true) ∧ (txt c.must).length ≤ 200 ∧ (txt c.may).length ≤ 200 := by decide +kernel
theorem find_cls : ∀ c ∈ clss, findC c.name = some c := by decide +kernel
theorem find_nil : findC [] = none := by decide +kernel
def supN : Nat → List UInt8 → List Cl
  | 0, _ => []
  | n + 1, b => match findC b with
    | none => []
    | some c => c :: supN n c.super
/-- The class with this name, and all classes above it. -/
def sup (b : List UInt8) : List Cl := supN 10 b
theorem findC_mem {s : List UInt8} {c : Cl} (h : findC s = some c) : c ∈ clss := List.mem_of_find?_eq_some h
theorem sup_nine : ∀ c ∈ clss, supN 9 c.super = supN 10 c.super := by decide +kernel
theorem sup_none {b : List UInt8} (h : findC b = none) : sup b = [] := by
  show (match findC b with | none => [] | some c => c :: supN 9 c.super) = []
  rw [h]
theorem sup_some {b : List UInt8} {c : Cl} (h : findC b = some c) : sup b = c :: sup c.super := by
  show (match findC b with | none => [] | some c => c :: supN 9 c.super) = _
  rw [h]
  show c :: supN 9 c.super = c :: supN 10 c.super
  rw [sup_nine c (findC_mem h)]
theorem supN_mem : ∀ (n : Nat) (b : List UInt8), ∀ d ∈ supN n b, d ∈ clss
  | 0, _ => fun d h => absurd h List.not_mem_nil
  | n + 1, b => fun d h => by
    unfold supN at h
    split at h
    · exact absurd h List.not_mem_nil
    · rename_i c hc
      rcases List.mem_cons.1 h with rfl | h
      · exact findC_mem hc
      · exact supN_mem n c.super d h
theorem sup_mem (b : List UInt8) : ∀ d ∈ sup b, d ∈ clss := supN_mem 10 b
theorem sup_cls_len : ∀ c ∈ clss, (sup c.super).length ≤ 2 := by decide +kernel
theorem sup_len (b : List UInt8) : (sup b).length ≤ 3 := by
  rcases h : findC b with _ | c
  · rw [sup_none h]
    exact Nat.zero_le _
  · rw [sup_some h, List.length_cons]
    have := sup_cls_len c (findC_mem h)
    omega
theorem above_cls : ∀ k ∈ clss, ∀ c ∈ clss, above k.name c.name = (sup c.name).any fun d => d.name == k.name := by decide +kernel
theorem name_cls : ∀ k ∈ clss, ∀ c ∈ clss, k.name = c.name → k = c := by decide +kernel
end Go.Proofs.YtllmffmmfpecaaaDoor
namespace Go.Proofs.YtllmffmmfpecaaaDoor
open Go.Lib

theorem bl_lt : ∀ (x y : List UInt8), Op.bytesLess x y = decide (x < y)
  | [], [] => by simp [Op.bytesLess]
  | _ :: _, [] => by simp [Op.bytesLess]
  | [], _ :: _ => by simp [Op.bytesLess]
  | a :: x, b :: y => by
    rw [Op.bytesLess, bl_lt x y, Bool.eq_iff_iff]
    simp only [Bool.or_eq_true, Bool.and_eq_true, decide_eq_true_eq, beq_iff_eq, List.cons_lt_cons_iff]
/-- In ascending order, each once. -/
def Strict (L : List (List UInt8)) : Prop := L.Pairwise fun x y => Op.bytesLess x y = true
theorem strict_nodup {L : List (List UInt8)} (h : Strict L) : L.Nodup := h.imp fun {a b} h1 e => by
  subst e
  rw [bl_irrefl] at h1
  cases h1
theorem strict_sorted {L : List (List UInt8)} (h : Strict L) : L.mergeSort leB = L := List.mergeSort_of_pairwise (h.imp fun {a b} h => by
  rw [bl_lt, decide_eq_true_eq] at h
  rw [leB, decide_eq_true_eq]
  exact List.le_of_lt h)
theorem strict_eq {L M : List (List UInt8)} (h1 : Strict L) (h2 : Strict M) (hm : ∀ x, x ∈ L ↔ x ∈ M) : L = M := by
  have hp : L.Perm M := (List.perm_ext_iff_of_nodup (strict_nodup h1) (strict_nodup h2)).2 hm
  have := mergeSort_of_perm hp
  rwa [strict_sorted h1, strict_sorted h2] at this
theorem strict_filter {L : List (List UInt8)} (h : Strict L) (p : List UInt8 → Bool) : Strict (L.filter p) := List.Pairwise.filter p h
theorem strict_putS {l : List (List UInt8)} (h : Strict l) (s : List UInt8) : Strict (putS l s) := by
  unfold putS
  split
  · exact h
  · rename_i hs
    have e := List.takeWhile_append_dropWhile (p := fun x => Op.bytesLess x s) (l := l)
    have h' : Strict (l.takeWhile (fun x => Op.bytesLess x s) ++ l.dropWhile (fun x => Op.bytesLess x s)) := by rw [e]; exact h
    obtain ⟨h1, h2, h3⟩ := List.pairwise_append.1 h'
    have hlow : ∀ x ∈ l.takeWhile (fun x => Op.bytesLess x s), Op.bytesLess x s = true := fun x hx => by
      have := List.all_takeWhile (p := fun x => Op.bytesLess x s) (l := l)
      exact List.all_eq_true.1 this x hx
    have hhigh : ∀ y ∈ l.dropWhile (fun x => Op.bytesLess x s), Op.bytesLess s y = true := fun y hy => by
      have hmem : y ∈ l := by rw [← e]; exact List.mem_append_right _ hy
      rcases hd : l.dropWhile (fun x => Op.bytesLess x s) with _ | ⟨z, r⟩
      · rw [hd] at hy; cases hy
      · have hz : Op.bytesLess z s = false := by
          have := List.head?_dropWhile_not (fun x => Op.bytesLess x s) l
          rw [hd] at this
          simpa using this
        have hzs : z ≠ s := fun h => hs (by
          rw [← h, ← e]
          exact List.mem_append_right _ (by rw [hd]; exact List.mem_cons_self ..))
        have hsz := bl_total z s hz hzs
        rw [hd] at hy h2
        rcases List.mem_cons.1 hy with rfl | hy
        · exact hsz
        · exact bl_trans _ _ _ hsz ((List.pairwise_cons.1 h2).1 y hy)
    refine List.pairwise_append.2 ⟨h1, List.pairwise_cons.2 ⟨hhigh, h2⟩, fun a ha b hb => ?_⟩
    rcases List.mem_cons.1 hb with rfl | hb
    · exact hlow a ha
    · exact h3 a ha b hb
theorem strict_puts (M : List (List UInt8)) : ∀ {l : List (List UInt8)}, Strict l → Strict (M.foldl putS l) := by
  induction M with
  | nil => exact fun h => h
  | cons y M ih => exact fun h => ih (strict_putS h y)
theorem strict_gath (f : Cl → List (List UInt8)) (b : Cl → Bool) (K : List Cl) : ∀ {m : List (List UInt8)}, Strict m → Strict (K.foldl (fun m k => if b k = true then (f k).foldl putS m else m) m) := by
  induction K with
  | nil => exact fun h => h
  | cons k K ih =>
    intro m h
    rw [List.foldl_cons]
    refine ih ?_
    split
    · exact strict_puts _ h
    · exact h
theorem strict_gather (f : Cl → List (List UInt8)) (cs : List (List UInt8)) : Strict (gather f cs) := strict_gath f (fun k => meant k.name cs) clss List.Pairwise.nil
theorem strict_must (cs : List (List UInt8)) : Strict (mustD cs) := strict_gather _ cs
theorem strict_rest (cs : List (List UInt8)) : Strict (restD cs) := strict_filter (strict_gather _ cs) _
/-- Sorted, each once. -/
def sortU (L : List (List UInt8)) : List (List UInt8) := Lib.compact (L.mergeSort leB)
theorem upto_sorted {d : Array (List UInt8)} (hs : ∀ i j, i < j → j < d.size → leB d[i]! d[j]! = true) : ∀ m, m ≤ d.size →
    (∀ x, x ∈ compactUpTo d m ↔ ∃ j, j < m ∧ d[j]! = x) ∧ Strict (compactUpTo d m)
  | 0, _ => ⟨fun x => by simp [compactUpTo], by simp [compactUpTo, Strict]⟩
  | m + 1, hm => by
    obtain ⟨h1, h2⟩ := upto_sorted hs m (by omega)
    rw [compactUpTo_succ]
    by_cases hk : keeps d m = true
    · rw [if_pos hk]
      refine ⟨fun x => ?_, List.pairwise_append.2 ⟨h2, List.pairwise_singleton _ _, fun a ha b hb => ?_⟩⟩
      · rw [List.mem_append, h1, List.mem_singleton]
        constructor
        · rintro (⟨j, h3, h4⟩ | h)
          · exact ⟨j, by omega, h4⟩
          · exact ⟨m, by omega, h.symm⟩
        · rintro ⟨j, h3, h4⟩
          by_cases hj : j < m
          · exact .inl ⟨j, hj, h4⟩
          · obtain rfl : j = m := by omega
            exact .inr h4.symm
      · rw [List.mem_singleton] at hb
        subst hb
        obtain ⟨j, hj, rfl⟩ := (h1 a).1 ha
        have hne : d[m]! ≠ d[m - 1]! := by
          unfold keeps at hk
          rw [decide_eq_true_eq] at hk
          exact hk.resolve_left (by omega)
        have h5 := hs (m - 1) m (by omega) (by omega)
        have h6 : leB d[j]! d[m - 1]! = true := by
          by_cases hjm : j = m - 1
          · rw [hjm, leB, decide_eq_true_eq]
            exact List.le_refl _
          · exact hs j (m - 1) (by omega) (by omega)
        rw [leB, decide_eq_true_eq] at h5 h6
        rw [bl_lt, decide_eq_true_eq]
        refine List.not_le.1 fun h => hne ?_
        exact List.le_antisymm (List.le_trans h h6) h5
    · rw [if_neg hk, List.append_nil]
      refine ⟨fun x => ?_, h2⟩
      rw [h1]
      constructor
      · rintro ⟨j, h3, h4⟩
        exact ⟨j, by omega, h4⟩
      · rintro ⟨j, h3, h4⟩
        by_cases hj : j < m
        · exact ⟨j, hj, h4⟩
        · obtain rfl : j = m := by omega
          have : ¬ (j = 0 ∨ d[j]! ≠ d[j - 1]!) := by
            unfold keeps at hk
            rw [decide_eq_true_eq] at hk
            exact hk
          have h0 : j ≠ 0 := fun h => this (.inl h)
          have h7 : d[j]! = d[j - 1]! := by
            by_cases h : d[j]! = d[j - 1]!
            · exact h
            · exact absurd (.inr h) this
          exact ⟨j - 1, by omega, by rw [← h7, h4]⟩
theorem sortU_spec (L : List (List UInt8)) : (∀ x, x ∈ sortU L ↔ x ∈ L) ∧ Strict (sortU L) := by
  have tr : ∀ a b c : List UInt8, leB a b = true → leB b c = true → leB a c = true := fun a b c h1 h2 => by simp only [leB, decide_eq_true_eq] at *; exact List.le_trans h1 h2
  have to : ∀ a b : List UInt8, (leB a b || leB b a) = true := fun a b => by simp only [leB, Bool.or_eq_true, decide_eq_true_eq]; exact List.le_total a b
  have hp := List.pairwise_mergeSort tr to L
  obtain ⟨S, hS⟩ : ∃ S, L.mergeSort leB = S := ⟨_, rfl⟩
  rw [hS] at hp
  have hm : ∀ x, x ∈ S ↔ x ∈ L := fun x => by rw [← hS]; exact (List.mergeSort_perm L leB).mem_iff
  have hget : ∀ j (h : j < S.length), S.toArray[j]! = S[j] := fun j h => by
    rw [getElem!_pos _ _ (by simpa using h)]
    simp
  have key := upto_sorted (d := S.toArray) (fun i j hij hj => by
    have hj' : j < S.length := by simpa using hj
    rw [hget i (by omega), hget j hj']
    exact List.pairwise_iff_getElem.1 hp i j (by omega) hj' hij) S.length (by simp)
  unfold sortU Lib.compact
  rw [hS]
  refine ⟨fun x => ?_, key.2⟩
  rw [key.1, ← hm]
  constructor
  · rintro ⟨j, h1, h2⟩
    rw [hget j h1] at h2
    rw [← h2]
    exact List.getElem_mem h1
  · intro h
    obtain ⟨j, h1, h2⟩ := List.mem_iff_getElem.1 h
    exact ⟨j, h1, by rw [hget j h1, h2]⟩
/-- What is sorted and compacted is the document's set, where it has the same members. -/
theorem sortU_eq {L M : List (List UInt8)} (h : Strict M) (hm : ∀ x, x ∈ L ↔ x ∈ M) : sortU L = M := by
  obtain ⟨h1, h2⟩ := sortU_spec L
  exact strict_eq h2 h fun x => by rw [h1, hm]
theorem sortU_len (L : List (List UInt8)) : (sortU L).length ≤ L.length := by
  have h1 := Lib.compact_length_le (L.mergeSort leB)
  rwa [List.length_mergeSort] at h1
end Go.Proofs.YtllmffmmfpecaaaDoor
namespace Go.Proofs.YtllmffmmfpecaaaDoor
open Go.RowKit

theorem append_six {w : World} {ops : Array Oper} {rest : List Oper} {o : Oper} {a : Act} {Q : Exit → Act → World → Prop} (hgd : o.guard = none) (s x : Operand) (S T : TypeId) {z : Value} {bytes : Nat}
    (ho : o.op = .call { callee := .builtin .append, args := #[s, x], argTypes := #[S, S] }) (hS : Tryd.prog.underlying S = some (.slice T))
    (hT : (Tryd.prog.info? T).map (fun i => (i.zero, i.size, i.bytes)) = some (some z, 6, bytes)) (hz : z.cells.size = 6) (hby : bytes ≤ 1000)
    (base : Nat) (v : Value) (n : Nat) (xs : List Value) (hs : a.eval s = v) (hown : w.ownsRow base T 6 v n xs)
    (ad : Addr) (c : Nat) (news : List Value) (hx : a.eval x = .slice (some ad) 1 c) (hl : news.length = 6) (hnews : ∀ j u, news[j]? = some u → w.cell? (ad.add j) = some u) (h1 : ∀ u ∈ news, u.oneCell' = true)
    (hn : n ≤ 100000) (hbase : base ≤ w.heap.size)
    (h : ∀ A' c' w', w'.ownsRow base T 6 (.slice A' (n + 1) c') (n + 1) (xs ++ news) → w.grownBy w' v.ownBlock → ((Value.slice A' (n + 1) c').ownBlock = v.ownBlock ∨ (Value.slice A' (n + 1) c').ownBlock = some w.heap.size) → Below base w w' → wpList Tryd.prog ops Q rest (a.put o.dst (.slice A' (n + 1) c')) w') : wpList Tryd.prog ops Q (o :: rest) a w := by
  obtain ⟨i0, hi, hz0, hz1, hz2⟩ := info_parts hT
  refine wpList_append_own_at w hgd s x S ho base T i0 z 6 bytes hS hi hz0 hz1 hz2 hz (by decide) v n xs hs hown ad 1 c news hx (by rw [hl]) hnews h1 (by simp only [maxLen]; omega) (Nat.le_trans (Nat.mul_le_mul (show n + 1 ≤ 100001 by omega) hby) (by decide)) hbase fun v' w' hown' hg _ hat => ?_
  have hf : ∃ A' c', v' = .slice A' (n + 1) c' := by
    obtain ⟨_, ⟨_, h0⟩ | ⟨g, cap, cur, hv, _⟩⟩ := hown'
    · omega
    · exact ⟨_, _, hv⟩
  obtain ⟨A', c', rfl⟩ := hf
  exact h A' c' w' hown' hg hat ((Below.refl _ _).grown hg hbase (fun k hk => (hown.lt k hk).1))
/-- The cells of a row of the table of classes. -/
def cellR (c : Cl) : List Value := [.string (baO c.name), .string (baO c.oid), .string (baO c.super), .int .i64 (c.kind : Int), .string (baO (txt c.must)), .string (baO (txt c.may))]
def cellsR (L : List Cl) : List Value := L.flatMap cellR
theorem cellsR_len (L : List Cl) : (cellsR L).length = L.length * 6 := by
  unfold cellsR
  induction L with
  | nil => rfl
  | cons c L ih =>
    rw [List.flatMap_cons, List.length_append, ih, List.length_cons]
    show 6 + _ = _
    omega
theorem cellsR_at : ∀ (L : List Cl) (i : Nat) (c : Cl) (j : Nat) (v : Value), L[i]? = some c → (cellR c)[j]? = some v → (cellsR L)[i * 6 + j]? = some v
  | [], i, c, j, v, h, _ => by simp at h
  | x :: L, 0, c, j, v, h, hv => by
    simp only [List.getElem?_cons_zero, Option.some.injEq] at h
    subst h
    unfold cellsR
    rw [List.flatMap_cons, Nat.zero_mul, Nat.zero_add, List.getElem?_append_left (List.getElem?_eq_some_iff.1 hv).1]
    exact hv
  | x :: L, i + 1, c, j, v, h, hv => by
    have := cellsR_at L i c j v (by simpa using h) hv
    unfold cellsR at *
    rw [List.flatMap_cons, show (i + 1) * 6 + j = 6 + (i * 6 + j) from by omega, List.getElem?_append_right (Nat.le_add_right 6 _), show 6 + (i * 6 + j) - (cellR x).length = i * 6 + j from by show 6 + (i * 6 + j) - 6 = _; omega]
    exact this
/-- v is a row of rows of the table, of the call's own, in a block from base on. -/
def OwnR (w : World) (base : Nat) (v : Value) (L : List Cl) : Prop := w.ownsRow base 64 6 v L.length (cellsR L)
theorem OwnR.nil (w : World) (base : Nat) : OwnR w base (.slice none 0 0) [] := ⟨rfl, .inl ⟨rfl, rfl⟩⟩
theorem OwnR.below {w w' : World} {base : Nat} {v : Value} {L : List Cl} (h : OwnR w base v L) (hb : Below w.heap.size w w') : OwnR w' base v L := by
  obtain ⟨h1, h0 | ⟨g, cap, cur, hv, hbs, hg, hn, hm, hs, hx⟩⟩ := h
  · exact ⟨h1, .inl h0⟩
  · refine ⟨h1, .inr ⟨g, cap, cur, hv, hbs, ?_, hn, hm, hs, hx⟩⟩
    rw [hb.block g (Array.getElem?_eq_some_iff.1 hg).1]
    exact hg
/-- The rows can be read at A. -/
def SrcR (w : World) (K : Nat) (A : Option Addr) (L : List Cl) : Prop := K ≤ w.heap.size ∧ ∀ (i : Nat) (c : Cl), L[i]? = some c → ∃ g, A = some ⟨g, 0, none⟩ ∧ g < K ∧ ∀ (j : Nat) (v : Value), (cellR c)[j]? = some v → w.cell? ⟨g, i * 6 + j, none⟩ = some v
theorem SrcR.below {w w' : World} {K : Nat} {A : Option Addr} {L : List Cl} (h : SrcR w K A L) (hb : Below K w w') : SrcR w' K A L := by
  refine ⟨Nat.le_trans h.1 hb.size, fun i c hc => ?_⟩
  obtain ⟨g, h1, h2, h3⟩ := h.2 i c hc
  exact ⟨g, h1, h2, fun j v hv => (hb.cell (p := ⟨g, i * 6 + j, none⟩) h2).trans (h3 j v hv)⟩
theorem OwnR.src {w : World} {base n cp : Nat} {A : Option Addr} {L : List Cl} (h : OwnR w base (.slice A n cp) L) : SrcR w w.heap.size A L := by
  refine ⟨Nat.le_refl _, fun i c hc => ?_⟩
  have hi : i < L.length := (List.getElem?_eq_some_iff.1 hc).1
  obtain ⟨_, ⟨_, h0⟩ | ⟨g, cap, cur, hv, hb, hg, hn, hm, hs, hx⟩⟩ := h
  · omega
  · injection hv with hA
    refine ⟨g, hA, (Array.getElem?_eq_some_iff.1 hg).1, fun j v hv => ?_⟩
    rw [cell_of_row w g (i * 6 + j) cur _ _ hg]
    have h2 := cellsR_at L i c j v hc hv
    rw [← hx] at h2
    have hj : j < 6 := (List.getElem?_eq_some_iff.1 hv).1
    rw [List.getElem?_take, if_pos (by omega)] at h2
    simpa using h2
end Go.Proofs.YtllmffmmfpecaaaDoor
