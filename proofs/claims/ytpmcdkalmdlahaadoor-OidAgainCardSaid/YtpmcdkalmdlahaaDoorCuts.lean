/-
  A row of strings cut at a place.
-/
import Derived.Test.YtpmcdkalmdlahaaDoorRefText7
import Derived.Deep.AppendLies
import Derived.Laws.AppendOwnNone
namespace Go.Proofs.YtpmcdkalmdlahaaDoor
open Go.RowKit

theorem add_zero7 (B : Option Addr) : B.map (fun a => a.add 0) = B := by
  cases B with
  | none => rfl
  | some a => simp [Addr.add]
theorem cut_to (B : Option Addr) (m cc k : Nat) (hk : k ≤ m) (hm : m ≤ cc) (W : World) :
    (Instr.sliceAt 35 (.slice B m cc) none (some (.int .i64 (k : Int))) none).run Tryd.prog W = .ok (.slice B k cc) W := by
  have h1 : (0 : Int) ≤ (k : Int) := by omega
  have h2 : (k : Int) ≤ (cc : Int) := by omega
  go_simp
theorem cut_from (B : Option Addr) (m cc k : Nat) (hk : k ≤ m) (hm : m ≤ cc) (W : World) :
    (Instr.sliceAt 35 (.slice B m cc) (some (.int .i64 (k : Int))) none none).run Tryd.prog W = .ok (.slice (if cc = k then B else B.map (·.add k)) (m - k) (cc - k)) W := by
  have h1 : (0 : Int) ≤ (k : Int) := by omega
  have h2 : (k : Int) ≤ (m : Int) := by omega
  have h3 : (m : Int) ≤ (cc : Int) := by omega
  go_simp
theorem addr_add7 (a : Addr) (k j : Nat) : (a.add k).add j = a.add (k + j) := by
  rcases k with _ | k
  · rw [Nat.zero_add]
    rfl
  · rcases j with _ | j
    · rfl
    · unfold Addr.add
      simp
      omega
theorem SrcO.take {w : World} {K : Nat} {A : Option Addr} {c : Nat} {L : List (List UInt8)} (h : SrcO w K A c L) (n : Nat) : SrcO w K A c (L.take n) := by
  refine ⟨Nat.le_trans (List.length_take_le' ..) h.le, h.nil, fun ad e => ⟨fun h0 => (h.at_ ad e).1 (Nat.lt_of_lt_of_le h0 (List.length_take_le' ..)), fun j x hj => ?_⟩⟩
  rw [List.getElem?_take] at hj
  split at hj
  · exact (h.at_ ad e).2 j x hj
  · cases hj
theorem SrcO.drop {w : World} {K : Nat} {A : Option Addr} {c : Nat} {L : List (List UInt8)} (h : SrcO w K A c L) (k : Nat) : SrcO w K (if c = k then A else A.map (·.add k)) (c - k) (L.drop k) := by
  have hle := h.le
  by_cases e : c = k
  · rw [if_pos e]
    have hd : L.drop k = [] := List.drop_of_length_le (by omega)
    rw [hd]
    refine ⟨by simp, fun hA => by have := h.nil hA; omega, fun ad hA => ⟨fun h0 => by simp at h0, fun j x hj => by simp at hj⟩⟩
  · rw [if_neg e]
    refine ⟨by rw [List.length_drop]; omega, fun hA => ?_, fun ad hA => ?_⟩
    · cases A with
      | none => have := h.nil rfl; omega
      | some a => cases hA
    · cases A with
      | none => cases hA
      | some a =>
        injection hA with hA
        subst hA
        refine ⟨fun h0 => ?_, fun j x hj => ?_⟩
        · rw [add_block]
          rw [List.length_drop] at h0
          exact (h.at_ a rfl).1 (by omega)
        · rw [List.getElem?_drop] at hj
          have := (h.at_ a rfl).2 (k + j) x hj
          rwa [addr_add7]
/-- append of strings at a step of a region that draws its order. -/
theorem step_strs {w : World} {ops : Array Oper} {o : Oper} {a : Act} {K : Act → World → Prop} {Q : Exit → Act → World → Prop} {E : Prop} (hgd : o.guard = none) (s x : Operand)
    (ho : o.op = .call { callee := .builtin .append, args := #[s, x], argTypes := #[35, 35] })
    (base : Nat) (v : Value) (L : List (List UInt8)) (n : Nat) (hn : L.length = n) (hs : a.eval s = v) (hown : OwnO w base v L)
    (B : Nat) (A : Option Addr) (m c : Nat) (M : List (List UInt8)) (hm : M.length = m) (hx : a.eval x = .slice A m c) (hsrc : SrcO w B A c M)
    (N : Nat) (hN : n + m = N) (hlen : N ≤ 2000000) (hbase : base ≤ w.heap.size)
    (h : ∀ A' c' w', OwnO w' base (.slice A' N c') (L ++ M) → Below base w w' → (∀ p : Addr, p.block < w.heap.size → some p.block ≠ v.ownBlock → w'.cell? p = w.cell? p) → K (a.put o.dst (.slice A' N c')) w') :
    if Region.wanted o (yielded ops a.tmps) = true then Oper.wp Tryd.prog o a w K Q else E := by
  have hw : Region.wanted o (yielded ops a.tmps) = true := by simp [Region.wanted, hgd]
  rw [if_pos hw]
  obtain ⟨i0, hi, hz0, hz1, hz2⟩ := info_parts info_str
  subst hn hm hN
  have hform : ∀ (v' : Value) (w' : World) (T : List (List UInt8)), OwnO w' base v' T → ∃ A' c', v' = .slice A' T.length c' := fun v' w' T hO => by
    rcases hO.form with ⟨h1, h2⟩ | ⟨g, c', h1, _⟩
    · exact ⟨none, 0, by rw [h1, h2]; rfl⟩
    · exact ⟨_, c', h1⟩
  rcases A with _ | ad
  · have hc : c = 0 := hsrc.nil rfl
    have hm : M = [] := List.eq_nil_of_length_eq_zero (by have := hsrc.le; omega)
    subst hc hm
    have hrun := run_append_owned_none (P := Tryd.prog) (w := w) base 35 o.type 9 i0 1 Tryd.underlying35 hi v L.length (cellsO L) hown
    obtain ⟨A', c', rfl⟩ := hform v w L hown
    unfold Oper.wp
    simp only [List.length_nil] at hx
    simp [execOp, ho, resolve, invoke, builtin, hs, hx, hrun, Result.andThen]
    have t : K (a.put o.dst (.slice A' L.length c')) w := by
      have := h A' c' w (by rw [List.append_nil]; exact hown) (Below.refl _ _) (fun _ _ _ => rfl)
      simpa using this
    exact t
  · obtain ⟨v', w', hr, hown', hg, _⟩ := run_append_own (P := Tryd.prog) (w := w) base 35 o.type 9 i0 _ 1 16 Tryd.underlying35 hi hz0 hz1 hz2 rfl (by decide) v L.length (cellsO L) hown ad M.length c (cellsO M) (by rw [cellsO_len, Nat.mul_one]) (fun j u hj => by
      unfold cellsO at hj
      rw [List.getElem?_map, Option.map_eq_some_iff] at hj
      obtain ⟨l, h1, rfl⟩ := hj
      exact (hsrc.at_ ad rfl).2 j l h1) (fun u hu => by
      obtain ⟨l, _, rfl⟩ := List.mem_map.1 hu
      rfl) (by simp only [maxLen]; omega) (by omega) hbase
    have hO : OwnO w' base v' (L ++ M) := by
      unfold OwnO
      rw [cellsO_app, List.length_append]
      exact hown'
    obtain ⟨A', c', rfl⟩ := hform v' w' _ hO
    unfold Oper.wp execOp
    simp only [ho, resolve, invoke, builtin, Sem.run_bind, Sem.run_pure, Result.andThen_ok, List.map_toArray, List.map_cons, List.map_nil, hs, hx, hr]
    rw [List.length_append] at hO ⊢
    exact h A' c' w' hO ((Below.refl _ _).grown hg hbase (fun k hk => (hown.lt k hk).1)) (fun p hp hne => hg.cell_far p hp hne)
theorem OwnO.lit (w : World) (base : Nat) (hb : base ≤ w.heap.size) : OwnO (w.alloc (.cells #[] 9)) base (.slice (some ⟨w.heap.size, 0, none⟩) 0 0) [] :=
  ⟨rfl, .inr ⟨w.heap.size, 0, #[], rfl, hb, heap_alloc_new w _, Nat.le_refl _, by simp [maxLen], rfl, rfl⟩⟩
theorem OwnO.lit2 (w : World) (o : Obj) (base : Nat) (hb : base ≤ w.heap.size) : OwnO ((w.alloc o).alloc (.cells #[] 9)) base (.slice (some ⟨w.heap.size + 1, 0, none⟩) 0 0) [] := by
  have := OwnO.lit (w.alloc o) base (by simp; omega)
  rwa [show (w.alloc o).heap.size = w.heap.size + 1 by simp] at this
theorem SrcO.one_at {w : World} {b : Nat} {l : List UInt8} (h : w.cell? ⟨b, 0, none⟩ = some (.string (baO l))) : SrcO w (b + 1) (some ⟨b, 0, none⟩) 1 [l] :=
  ⟨Nat.le_refl _, (by simp), fun ad e => by
    injection e with e
    subst e
    refine ⟨fun _ => Nat.lt_succ_self _, fun j x hj => ?_⟩
    match j, hj with
    | 0, hj => simp at hj; subst hj; exact h⟩
theorem one_cell (w : World) (l : List UInt8) : (w.alloc (.cells #[.string (baO l)] 9)).cell? ⟨w.heap.size, 0, none⟩ = some (.string (baO l)) := by
  have := news_one w (.string (baO l)) 9 0 _ rfl
  exact this
theorem world_out {p : World → Prop} {w : World} (a b : Nat) (h : ∀ W, Below w.heap.size w W → W.heap.size = w.heap.size → p W) : p ((w.drewN a).drewN b) := by
  have hb : ∀ (W : World) n, Below w.heap.size w W → W.heap.size = w.heap.size → Below w.heap.size w (W.drewN n) ∧ (W.drewN n).heap.size = w.heap.size := fun W n => by
    induction n with
    | zero => exact fun h1 h2 => ⟨h1, h2⟩
    | succ n ih => exact fun h1 h2 => ⟨(ih h1 h2).1.drew, (ih h1 h2).2⟩
  have h1 := hb w a (Below.refl _ _) rfl
  have h2 := hb _ b h1.1 h1.2
  exact h _ h2.1 h2.2
theorem SrcO.one (w : World) (l : List UInt8) : SrcO (w.alloc (.cells #[.string (baO l)] 9)) (w.heap.size + 1) (some ⟨w.heap.size, 0, none⟩) 1 [l] :=
  ⟨Nat.le_refl _, (by simp), fun ad e => by
    injection e with e
    subst e
    refine ⟨fun _ => Nat.lt_succ_self _, fun j x hj => news_one w _ 9 j _ ?_⟩
    match j, hj with
    | 0, hj => simp at hj; subst hj; rfl⟩
end Go.Proofs.YtpmcdkalmdlahaaDoor
