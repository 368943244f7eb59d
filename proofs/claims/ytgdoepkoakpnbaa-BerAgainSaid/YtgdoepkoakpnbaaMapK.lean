/-
  Maps whose keys are places in memory.
-/
import Derived.Test.YtgdoepkoakpnbaaMade
import Derived.LaidEqlPtr
import Derived.Laws.StructEq
import Derived.Maps.Own
namespace Go.Proofs.Ytgdoepkoakpnbaa
open Go.RowKit Go.ChangeMaps Go.MapKept

/-- Where a list lies: block, offset, how many. -/
abbrev Key := Nat × Nat × Nat
def kv (p : Key) : Value := .agg #[.pointer (some ⟨p.1, p.2.1, none⟩), .int .i64 (p.2.2 : Int)]
def kv2 (p : Key × Key) : Value := .agg #[.pointer (some ⟨p.1.1, p.1.2.1, none⟩), .int .i64 (p.1.2.2 : Int), .pointer (some ⟨p.2.1, p.2.2.1, none⟩), .int .i64 (p.2.2.2 : Int)]

def cl1 (w : World) (p : Key) : Prop := Cl w p.1
def cl2 (w : World) (p : Key × Key) : Prop := Cl w p.1.1 ∧ Cl w p.2.1
/-- What a type of keys must grant. -/
structure KeyT {K : Type} [DecidableEq K] (kt : TypeId) (f : K → Value) (cl : World → K → Prop) : Prop where
  und : ∃ fs, Try.prog.underlying kt = some (.struct fs)
  agg : ∀ p, ∃ cs, f p = .agg cs
  eq : ∀ (w : World) (p q : K), cl w p → cl w q → (Op.equal kt (f p) (f q)).run Try.prog w = .ok (decide (p = q)) w
  check : ∀ (w : World) (p : K), (Instr.checkKey false 10000 kt (f p)).run Try.prog w = .ok () w
  stays : ∀ (w : World) (p : K), (Instr.keyThatStays (f p) (f p)).run Try.prog w = .ok (f p) w

theorem addr_inj {b o b' o' : Nat} : (⟨b, o, none⟩ : Addr) = ⟨b', o', none⟩ ↔ b = b' ∧ o = o' := by simp
theorem eql_same (w : World) (d : Nat) (b o : Nat) : (Op.equalIn (d + 1) 63 (.pointer (some ⟨b, o, none⟩)) (.pointer (some ⟨b, o, none⟩))).run Try.prog w = .ok true w := by
  obtain ⟨i0, hi, hz0, hz1, hz2⟩ := info_parts (show (Try.prog.info? 27).map (fun i => (i.zero, i.size, i.bytes)) = some (some (.agg #[.int .i64 0, .bool false, .int .i64 0, .slice none 0 0, .slice none 0 0]), 5, 72) by kernel_rfl)
  simp [Op.equalIn, run_underlying Try.underlying63, sizeOf, typeInfo, hi, run_sameAddr_same]
theorem eql_other (w : World) (d : Nat) (b o b' o' : Nat) (h : ¬ (b = b' ∧ o = o')) (h1 : Cl w b) (h2 : Cl w b') : (Op.equalIn (d + 1) 63 (.pointer (some ⟨b, o, none⟩)) (.pointer (some ⟨b', o', none⟩))).run Try.prog w = .ok false w := by
  obtain ⟨i0, hi, hz0, hz1, hz2⟩ := info_parts (show (Try.prog.info? 27).map (fun i => (i.zero, i.size, i.bytes)) = some (some (.agg #[.int .i64 0, .bool false, .int .i64 0, .slice none 0 0, .slice none 0 0]), 5, 72) by kernel_rfl)
  have hs : i0.size ≠ 0 := by omega
  obtain ⟨c1, T1, h1⟩ := h1
  obtain ⟨c2, T2, h2⟩ := h2
  have hne : (⟨b, o, none⟩ : Addr) ≠ ⟨b', o', none⟩ := fun e => h (addr_inj.1 e)
  simp [Op.equalIn, run_underlying Try.underlying63, sizeOf, typeInfo, hi, hs, run_sameAddr_other w hne h1 h2]
theorem eql_ptr (w : World) (d : Nat) (b o b' o' : Nat) (h1 : Cl w b) (h2 : Cl w b') : (Op.equalIn (d + 1) 63 (.pointer (some ⟨b, o, none⟩)) (.pointer (some ⟨b', o', none⟩))).run Try.prog w = .ok (decide (b = b' ∧ o = o')) w := by
  by_cases h : b = b' ∧ o = o'
  · obtain ⟨rfl, rfl⟩ := h
    rw [eql_same]
    simp
  · rw [eql_other w d b o b' o' h h1 h2]
    simp [h]
theorem eql_num (w : World) (d : Nat) (x y : Int) : (Op.equalIn (d + 1) 3 (.int .i64 x) (.int .i64 y)).run Try.prog w = .ok (x == y) w := by
  simp [Op.equalIn, run_underlying Try.underlying3]

theorem eq_kv (w : World) (p q : Key) (h1 : Cl w p.1) (h2 : Cl w q.1) : (Op.equal 65 (kv p) (kv q)).run Try.prog w = .ok (decide (p = q)) w := by
  obtain ⟨b, o, n⟩ := p
  obtain ⟨b', o', n'⟩ := q
  have e1 : (Op.equalIn 9999 63 (.pointer (some ⟨b, o, none⟩)) (.pointer (some ⟨b', o', none⟩))).run Try.prog w = .ok (decide (b = b' ∧ o = o')) w := eql_ptr w 9998 b o b' o' h1 h2
  unfold kv Op.equal Op.maxDepth
  simp [go_sem]
  rw [e1]
  have hN : ((n : Int) = (n' : Int)) ↔ n = n' := by omega
  by_cases hb : b = b' <;> by_cases ho : o = o' <;> by_cases hn : n = n' <;> simp [Result.andThen, hb, ho, hn, hN]
theorem eq_kv2 (w : World) (p q : Key × Key) (h1 : Cl w p.1.1 ∧ Cl w p.2.1) (h2 : Cl w q.1.1 ∧ Cl w q.2.1) : (Op.equal 67 (kv2 p) (kv2 q)).run Try.prog w = .ok (decide (p = q)) w := by
  obtain ⟨⟨b, o, n⟩, ⟨c, r, m⟩⟩ := p
  obtain ⟨⟨b', o', n'⟩, ⟨c', r', m'⟩⟩ := q
  have e1 : (Op.equalIn 9998 63 (.pointer (some ⟨b, o, none⟩)) (.pointer (some ⟨b', o', none⟩))).run Try.prog w = .ok (decide (b = b' ∧ o = o')) w := eql_ptr w 9997 b o b' o' h1.1 h2.1
  have e2 : (Op.equalIn 9998 63 (.pointer (some ⟨c, r, none⟩)) (.pointer (some ⟨c', r', none⟩))).run Try.prog w = .ok (decide (c = c' ∧ r = r')) w := eql_ptr w 9997 c r c' r' h1.2 h2.2
  unfold kv2 Op.equal Op.maxDepth
  simp [go_sem]
  rw [e1]
  have hN : ((n : Int) = (n' : Int)) ↔ n = n' := by omega
  have hM : ((m : Int) = (m' : Int)) ↔ m = m' := by omega
  by_cases hb : b = b' <;> by_cases ho : o = o' <;> by_cases hn : n = n' <;> simp [Result.andThen, hb, ho, hn, hN, e2]
  by_cases hc : c = c' <;> by_cases hr : r = r' <;> by_cases hm : m = m' <;> simp [hc, hr, hm, hM]
theorem keyT2 : KeyT 67 kv2 cl2 where
  und := ⟨_, Try.underlying67⟩
  agg p := ⟨_, rfl⟩
  eq w p q h1 h2 := eq_kv2 w p q h1 h2
  check w p := by kernel_rfl
  stays w p := by
    unfold kv2 Instr.keyThatStays
    simp [Instr.sameBits]
theorem keyT1 : KeyT 65 kv cl1 where
  und := ⟨_, Try.underlying65⟩
  agg p := ⟨_, rfl⟩
  eq w p q h1 h2 := eq_kv w p q h1 h2
  check w p := by kernel_rfl
  stays w p := by
    unfold kv Instr.keyThatStays
    simp [Instr.sameBits]

section
variable {K : Type} [DecidableEq K] {kt : TypeId} {f : K → Value} {cl : World → K → Prop}
theorem run_asking (T : KeyT kt f cl) (w : World) (p : K) (hp : cl w p) : ∀ (es : List MapEntry) (M : List K) (i : Nat), es.map (·.key) = M.map f → (∀ q ∈ M, cl w q) →
    (p ∉ M ∧ (Instr.findAsking kt (f p) es i).run Try.prog w = .ok none w) ∨ (p ∈ M ∧ ∃ j e, es[j]? = some e ∧ e.key = f p ∧ (Instr.findAsking kt (f p) es i).run Try.prog w = .ok (some (i + j, e.val)) w)
  | [], M, i, h, hM => by
    have : M = [] := by cases M with
      | nil => rfl
      | cons a b => simp at h
    subst this
    exact .inl ⟨by simp, by simp [Instr.findAsking]⟩
  | e :: es, M, i, h, hM => by
    rcases M with _ | ⟨q, M⟩
    · simp at h
    · simp only [List.map_cons, List.cons.injEq] at h
      have hq := T.eq w p q hp (hM q (by simp))
      by_cases hpq : p = q
      · subst hpq
        refine .inr ⟨by simp, 0, e, rfl, h.1, ?_⟩
        simp [Instr.findAsking, h.1, hq]
      · rw [decide_eq_false hpq] at hq
        rcases run_asking T w p hp es M (i + 1) h.2 (fun r hr => hM r (by simp [hr])) with ⟨h1, h2⟩ | ⟨h1, j, e0, h2, h3, h4⟩
        · exact .inl ⟨by simp [hpq, h1], by simp [Instr.findAsking, h.1, hq, h2, Result.andThen]⟩
        · refine .inr ⟨by simp [h1], j + 1, e0, by simpa using h2, h3, ?_⟩
          simp [Instr.findAsking, h.1, hq, h4, Result.andThen]
          omega
theorem run_find (T : KeyT kt f cl) (w : World) (p : K) (hp : cl w p) (es : List MapEntry) (M : List K) (h : es.map (·.key) = M.map f) (hM : ∀ q ∈ M, cl w q) :
    (p ∉ M ∧ (Instr.findKey kt (f p) es).run Try.prog w = .ok none w) ∨ (p ∈ M ∧ ∃ j e, es[j]? = some e ∧ e.key = f p ∧ (Instr.findKey kt (f p) es).run Try.prog w = .ok (some (j, e.val)) w) := by
  obtain ⟨fs, hu⟩ := T.und
  rcases es with _ | ⟨e, es⟩
  · have : M = [] := by cases M with
      | nil => rfl
      | cons a b => simp at h
    subst this
    exact .inl ⟨by simp, by simp [Instr.findKey, Instr.findNow, run_underlying hu]⟩
  · have hn : Instr.findNow (.struct fs) (f p) (e :: es) 0 = none := by simp [Instr.findNow, Instr.sameNow]
    have := run_asking T w p hp (e :: es) M 0 h hM
    simp only [Instr.findKey, Sem.run_bind, run_underlying hu, Result.andThen, hn]
    simpa using this

/-- Block b holds the keys M, whose memory is clean. -/
structure MapK (f : K → Value) (cl : World → K → Prop) (w : World) (b : Nat) (M : List K) : Prop where
  blk : ∃ es clock, w.heap[b]? = some (.map es clock) ∧ es.toList.map (·.key) = M.map f
  cl : ∀ p ∈ M, cl w p
def addK (M : List K) (p : K) : List K := if p ∈ M then M else M ++ [p]
omit [DecidableEq K] in
theorem MapK.made (f : K → Value) (cl : World → K → Prop) (w : World) : MapK f cl (w.alloc (.map #[] 0)) w.heap.size [] := ⟨⟨#[], 0, (MapKept.heap_alloc w _).1, rfl⟩, fun p h => by cases h⟩
omit [DecidableEq K] in
theorem MapK.keep {w w' : World} {b : Nat} {M : List K} (h : MapK f cl w b M) (hb : w'.heap[b]? = w.heap[b]?) (hc : ∀ p, cl w p → cl w' p) : MapK f cl w' b M := by
  obtain ⟨⟨es, clock, h1, h2⟩, h3⟩ := h
  exact ⟨⟨es, clock, hb.trans h1, h2⟩, fun p hp => hc p (h3 p hp)⟩
omit [DecidableEq K] in
theorem MapK.lt {w : World} {b : Nat} {M : List K} (h : MapK f cl w b M) : b < w.heap.size := by
  obtain ⟨⟨es, clock, h1, _⟩, _⟩ := h
  exact (Array.getElem?_eq_some_iff.1 h1).1
omit [DecidableEq K] in
theorem MapK.len {w : World} {b : Nat} {M : List K} (h : MapK f cl w b M) {mt et : TypeId} (hm : Try.prog.underlying mt = some (.map kt et)) (ty : TypeId) : (Builtin.len_ #[mt] ty #[.map (some b)]).run Try.prog w = .ok (.int .i64 (M.length : Int)) w := by
  obtain ⟨⟨es, clock, h1, h2⟩, _⟩ := h
  have hl : es.size = M.length := by
    have := congrArg List.length h2
    simpa using this
  simp [Builtin.len_, run_underlying hm, MapKept.run_getObj_map h1, hl, goInt]
theorem MapK.update (T : KeyT kt f cl) {w : World} {b : Nat} {M : List K} (h : MapK f cl w b M) (hcl : ∀ w', w.grownBy w' (some b) → ∀ q, cl w q → cl w' q) {mt et : TypeId} (hm : Try.prog.underlying mt = some (.map kt et)) (p : K) (hp : cl w p) (val : Value) :
    ∃ w', (Instr.mapUpdate mt (.map (some b)) (f p) val).run Try.prog w = .ok () w' ∧ MapK f cl w' b (addK M p) ∧ w.grownBy w' (some b) := by
  obtain ⟨⟨es, clock, hb, hk⟩, hM⟩ := h
  have hg : ∀ es' clock', w.grownBy (setBlock w b (.map es' clock')) (some b) := fun es' clock' => ⟨rfl, rfl, rfl, by simp [setBlock], fun i _ hi => heap_setBlock_other hb _ (fun e => hi (by rw [e]))⟩
  rcases run_find T w p hp es.toList M hk hM with ⟨h1, h2⟩ | ⟨h1, j, e0, h2, h3, h4⟩
  · refine ⟨setBlock w b (.map (es.push { key := f p, val := val, born := clock }) (clock + 1)), ?_, ⟨⟨_, _, heap_setBlock_same hb _, ?_⟩, ?_⟩, hg _ _⟩
    · simp [Instr.mapUpdate, run_underlying hm, MapKept.run_getObj_map hb, T.check, h2, MapKept.run_setObj_map _ hb, Result.andThen, setBlock]
    · unfold addK
      rw [if_neg h1]
      simp [hk]
    · intro q hq
      unfold addK at hq
      rw [if_neg h1] at hq
      rcases List.mem_append.1 hq with hq | hq
      · exact hcl _ (hg _ _) q (hM q hq)
      · simp only [List.mem_singleton] at hq
        subst hq
        exact hcl _ (hg _ _) q hp
  · have hj : es[j]? = some e0 := by simpa using h2
    have hadd : addK M p = M := by unfold addK; rw [if_pos h1]
    refine ⟨setBlock w b (.map (es.modify j fun e => { e with key := f p, val := val }) clock), ?_, ⟨⟨_, _, heap_setBlock_same hb _, ?_⟩, ?_⟩, hg _ _⟩
    · simp [Instr.mapUpdate, run_underlying hm, MapKept.run_getObj_map hb, T.check, h4, hj, h3, T.stays, MapKept.run_setObj_map _ hb, Result.andThen, setBlock]
    · rw [hadd, ← hk, Array.toList_modify, modify_eq_set _ _ _ _ h2, List.map_set]
      refine List.ext_getElem? fun i => ?_
      rw [List.getElem?_set]
      split
      · rename_i hi
        subst hi
        split
        · simp [h2, h3]
        · rename_i hlt
          simp at hlt
          simp [hlt]
      · rfl
    · rw [hadd]
      exact fun q hq => hcl _ (hg _ _) q (hM q hq)
end
theorem Cl.grown {w w' : World} {b mb : Nat} (h : Cl w b) (hg : w.grownBy w' (some mb)) (hm : ∃ es c, w.heap[mb]? = some (.map es c)) : Cl w' b := by
  obtain ⟨es, c, hm⟩ := hm
  refine h.of (hg.block b h.lt fun e => ?_)
  injection e with e
  subst e
  obtain ⟨cs, T, h⟩ := h
  rw [hm] at h
  cases h
end Go.Proofs.Ytgdoepkoakpnbaa
