/-
  Small laws, out of MapK, Enter, Bad, Lvl, Below, Well, for a seat without the functions that those reach.
-/
import Derived.Test.YtcbiedonmibfaaaGreatDoorBerH3
import Derived.LaidEqlPtr
import Derived.Laws.StructEq
import Derived.Maps.Own
import Derived.Maps.OwnOps
import Derived.Maps.OwnSet
import Derived.Deep.LoopGhost
namespace Go.Proofs.YtcbiedonmibfaaaGreatDoor
open Go.RowKit Go.ChangeMaps Go.MapKept
open Go.RowKit
abbrev Key := Nat × Nat × Nat
def kv (p : Key) : Value := .agg #[.pointer (some ⟨p.1, p.2.1, none⟩), .int .i64 (p.2.2 : Int)]
def cl1 (w : World) (p : Key) : Prop := Cl w p.1
structure KeyT {K : Type} [DecidableEq K] (kt : TypeId) (f : K → Value) (cl : World → K → Prop) : Prop where
 und : ∃ fs, Tryz.prog.underlying kt = some (.struct fs)
 agg : ∀ p, ∃ cs, f p = .agg cs
 eq : ∀ (w : World) (p q : K), cl w p → cl w q → (Op.equal kt (f p) (f q)).run Tryz.prog w = .ok (decide (p = q)) w
 check : ∀ (w : World) (p : K), (Instr.checkKey false 10000 kt (f p)).run Tryz.prog w = .ok () w
 stays : ∀ (w : World) (p : K), (Instr.keyThatStays (f p) (f p)).run Tryz.prog w = .ok (f p) w
theorem addr_inj {b o b' o' : Nat} : (⟨b, o, none⟩ : Addr) = ⟨b', o', none⟩ ↔ b = b' ∧ o = o' := by simp
theorem eql_same (w : World) (d : Nat) (b o : Nat) : (Op.equalIn (d + 1) 201 (.pointer (some ⟨b, o, none⟩)) (.pointer (some ⟨b, o, none⟩))).run Tryz.prog w = .ok true w := by
 obtain ⟨i0, hi, hz0, hz1, hz2⟩ := info_parts (show (Tryz.prog.info? 43).map (fun i => (i.zero, i.size, i.bytes)) = some (some (.agg #[.int .i64 0, .bool false, .int .i64 0, .slice none 0 0, .slice none 0 0]), 5, 72) by kernel_rfl)
 simp [Op.equalIn, run_underlying Tryz.underlying201, sizeOf, typeInfo, hi, run_sameAddr_same]
theorem eql_other (w : World) (d : Nat) (b o b' o' : Nat) (h : ¬ (b = b' ∧ o = o')) (h1 : Cl w b) (h2 : Cl w b') : (Op.equalIn (d + 1) 201 (.pointer (some ⟨b, o, none⟩)) (.pointer (some ⟨b', o', none⟩))).run Tryz.prog w = .ok false w := by
 obtain ⟨i0, hi, hz0, hz1, hz2⟩ := info_parts (show (Tryz.prog.info? 43).map (fun i => (i.zero, i.size, i.bytes)) = some (some (.agg #[.int .i64 0, .bool false, .int .i64 0, .slice none 0 0, .slice none 0 0]), 5, 72) by kernel_rfl)
 have hs : i0.size ≠ 0 := by omega
 obtain ⟨c1, T1, h1⟩ := h1
 obtain ⟨c2, T2, h2⟩ := h2
 have hne : (⟨b, o, none⟩ : Addr) ≠ ⟨b', o', none⟩ := fun e => h (addr_inj.1 e)
 simp [Op.equalIn, run_underlying Tryz.underlying201, sizeOf, typeInfo, hi, hs, run_sameAddr_other w hne h1 h2]
theorem eql_ptr (w : World) (d : Nat) (b o b' o' : Nat) (h1 : Cl w b) (h2 : Cl w b') : (Op.equalIn (d + 1) 201 (.pointer (some ⟨b, o, none⟩)) (.pointer (some ⟨b', o', none⟩))).run Tryz.prog w = .ok (decide (b = b' ∧ o = o')) w := by
 by_cases h : b = b' ∧ o = o'
 · obtain ⟨rfl, rfl⟩ := h
   rw [eql_same]
   simp
 · rw [eql_other w d b o b' o' h h1 h2]
   simp [h]
theorem eq_kv (w : World) (p q : Key) (h1 : Cl w p.1) (h2 : Cl w q.1) : (Op.equal 203 (kv p) (kv q)).run Tryz.prog w = .ok (decide (p = q)) w := by
 obtain ⟨b, o, n⟩ := p
 obtain ⟨b', o', n'⟩ := q
 have e1 : (Op.equalIn 9999 201 (.pointer (some ⟨b, o, none⟩)) (.pointer (some ⟨b', o', none⟩))).run Tryz.prog w = .ok (decide (b = b' ∧ o = o')) w := eql_ptr w 9998 b o b' o' h1 h2
 unfold kv Op.equal Op.maxDepth
 simp [go_sem]
 rw [e1]
 have hN : ((n : Int) = (n' : Int)) ↔ n = n' := by omega
 by_cases hb : b = b' <;> by_cases ho : o = o' <;> by_cases hn : n = n' <;> simp [Result.andThen, hb, ho, hn, hN]
theorem keyT1 : KeyT 203 kv cl1 where
 und := ⟨_, Tryz.underlying203⟩
 agg p := ⟨_, rfl⟩
 eq w p q h1 h2 := eq_kv w p q h1 h2
 check w p := by kernel_rfl
 stays w p := by
  unfold kv Instr.keyThatStays
  simp [Instr.sameBits]
section
variable {K : Type} [DecidableEq K] {kt : TypeId} {f : K → Value} {cl : World → K → Prop}
theorem run_asking (T : KeyT kt f cl) (w : World) (p : K) (hp : cl w p) : ∀ (es : List MapEntry) (M : List K) (i : Nat), es.map (·.key) = M.map f → (∀ q ∈ M, cl w q) →
 (p ∉ M ∧ (Instr.findAsking kt (f p) es i).run Tryz.prog w = .ok none w) ∨ (p ∈ M ∧ ∃ j e, es[j]? = some e ∧ e.key = f p ∧ (Instr.findAsking kt (f p) es i).run Tryz.prog w = .ok (some (i + j, e.val)) w)
 | [], M, i, h, hM => by
   have : M = [] := by cases M with
    | nil => rfl
    | cons a b => simp at h
   subst this
   exact .inl ⟨by simp, by simp [Instr.findAsking]⟩
 | e :: es, M, i, h, hM => by
   rcases M with _ | ⟨q, M⟩
   · simp at h
   · simp only [List.map_cons, List.cons.injEq] at h
     have hq := T.eq w p q hp (hM q (by simp))
     by_cases hpq : p = q
     · subst hpq
       refine .inr ⟨by simp, 0, e, rfl, h.1, ?_⟩
       simp [Instr.findAsking, h.1, hq]
     · rw [decide_eq_false hpq] at hq
       rcases run_asking T w p hp es M (i + 1) h.2 (fun r hr => hM r (by simp [hr])) with ⟨h1, h2⟩ | ⟨h1, j, e0, h2, h3, h4⟩
       · exact .inl ⟨by simp [hpq, h1], by simp [Instr.findAsking, h.1, hq, h2, Result.andThen]⟩
       · refine .inr ⟨by simp [h1], j + 1, e0, by simpa using h2, h3, ?_⟩
         simp [Instr.findAsking, h.1, hq, h4, Result.andThen]
         omega
theorem run_find (T : KeyT kt f cl) (w : World) (p : K) (hp : cl w p) (es : List MapEntry) (M : List K) (h : es.map (·.key) = M.map f) (hM : ∀ q ∈ M, cl w q) :
 (p ∉ M ∧ (Instr.findKey kt (f p) es).run Tryz.prog w = .ok none w) ∨ (p ∈ M ∧ ∃ j e, es[j]? = some e ∧ e.key = f p ∧ (Instr.findKey kt (f p) es).run Tryz.prog w = .ok (some (j, e.val)) w) := by
 obtain ⟨fs, hu⟩ := T.und
 rcases es with _ | ⟨e, es⟩
 · have : M = [] := by cases M with
    | nil => rfl
    | cons a b => simp at h
   subst this
   exact .inl ⟨by simp, by simp [Instr.findKey, Instr.findNow, run_underlying hu]⟩
 · have hn : Instr.findNow (.struct fs) (f p) (e :: es) 0 = none := by simp [Instr.findNow, Instr.sameNow]
   have := run_asking T w p hp (e :: es) M 0 h hM
   simp only [Instr.findKey, Sem.run_bind, run_underlying hu, Result.andThen, hn]
   simpa using this
structure MapK (f : K → Value) (cl : World → K → Prop) (w : World) (b : Nat) (M : List K) : Prop where
 blk : ∃ es clock, w.heap[b]? = some (.map es clock) ∧ es.toList.map (·.key) = M.map f
 cl : ∀ p ∈ M, cl w p
def addK (M : List K) (p : K) : List K := if p ∈ M then M else M ++ [p]
omit [DecidableEq K] in
theorem MapK.keep {w w' : World} {b : Nat} {M : List K} (h : MapK f cl w b M) (hb : w'.heap[b]? = w.heap[b]?) (hc : ∀ p, cl w p → cl w' p) : MapK f cl w' b M := by
 obtain ⟨⟨es, clock, h1, h2⟩, h3⟩ := h
 exact ⟨⟨es, clock, hb.trans h1, h2⟩, fun p hp => hc p (h3 p hp)⟩
omit [DecidableEq K] in
theorem MapK.lt {w : World} {b : Nat} {M : List K} (h : MapK f cl w b M) : b < w.heap.size := by
 obtain ⟨⟨es, clock, h1, _⟩, _⟩ := h
 exact (Array.getElem?_eq_some_iff.1 h1).1
omit [DecidableEq K] in
theorem MapK.len {w : World} {b : Nat} {M : List K} (h : MapK f cl w b M) {mt et : TypeId} (hm : Tryz.prog.underlying mt = some (.map kt et)) (ty : TypeId) : (Builtin.len_ #[mt] ty #[.map (some b)]).run Tryz.prog w = .ok (.int .i64 (M.length : Int)) w := by
 obtain ⟨⟨es, clock, h1, h2⟩, _⟩ := h
 have hl : es.size = M.length := by
  have := congrArg List.length h2
  simpa using this
 simp [Builtin.len_, run_underlying hm, MapKept.run_getObj_map h1, hl, goInt]
theorem MapK.update (T : KeyT kt f cl) {w : World} {b : Nat} {M : List K} (h : MapK f cl w b M) (hcl : ∀ w', w.grownBy w' (some b) → ∀ q, cl w q → cl w' q) {mt et : TypeId} (hm : Tryz.prog.underlying mt = some (.map kt et)) (p : K) (hp : cl w p) (val : Value) :
 ∃ w', (Instr.mapUpdate mt (.map (some b)) (f p) val).run Tryz.prog w = .ok () w' ∧ MapK f cl w' b (addK M p) ∧ w.grownBy w' (some b) := by
 obtain ⟨⟨es, clock, hb, hk⟩, hM⟩ := h
 have hg : ∀ es' clock', w.grownBy (setBlock w b (.map es' clock')) (some b) := fun es' clock' => ⟨rfl, rfl, rfl, by simp [setBlock], fun i _ hi => heap_setBlock_other hb _ (fun e => hi (by rw [e]))⟩
 rcases run_find T w p hp es.toList M hk hM with ⟨h1, h2⟩ | ⟨h1, j, e0, h2, h3, h4⟩
 · refine ⟨setBlock w b (.map (es.push { key := f p, val := val, born := clock }) (clock + 1)), ?_, ⟨⟨_, _, heap_setBlock_same hb _, ?_⟩, ?_⟩, hg _ _⟩
   · simp [Instr.mapUpdate, run_underlying hm, MapKept.run_getObj_map hb, T.check, h2, MapKept.run_setObj_map _ hb, Result.andThen, setBlock]
   · unfold addK
     rw [if_neg h1]
     simp [hk]
   · intro q hq
     unfold addK at hq
     rw [if_neg h1] at hq
     rcases List.mem_append.1 hq with hq | hq
     · exact hcl _ (hg _ _) q (hM q hq)
     · simp only [List.mem_singleton] at hq
       subst hq
       exact hcl _ (hg _ _) q hp
 · have hj : es[j]? = some e0 := by simpa using h2
   have hadd : addK M p = M := by unfold addK; rw [if_pos h1]
   refine ⟨setBlock w b (.map (es.modify j fun e => { e with key := f p, val := val }) clock), ?_, ⟨⟨_, _, heap_setBlock_same hb _, ?_⟩, ?_⟩, hg _ _⟩
   · simp [Instr.mapUpdate, run_underlying hm, MapKept.run_getObj_map hb, T.check, h4, hj, h3, T.stays, MapKept.run_setObj_map _ hb, Result.andThen, setBlock]
   · rw [hadd, ← hk, Array.toList_modify, modify_eq_set _ _ _ _ h2, List.map_set]
     refine List.ext_getElem? fun i => ?_
     rw [List.getElem?_set]
     split
     · rename_i hi
       subst hi
       split
       · simp [h2, h3]
       · rename_i hlt
         simp at hlt
         simp [hlt]
     · rfl
   · rw [hadd]
     exact fun q hq => hcl _ (hg _ _) q (hM q hq)
end
theorem Cl.grown {w w' : World} {b mb : Nat} (h : Cl w b) (hg : w.grownBy w' (some mb)) (hm : ∃ es c, w.heap[mb]? = some (.map es c)) : Cl w' b := by
 obtain ⟨es, c, hm⟩ := hm
 refine h.of (hg.block b h.lt fun e => ?_)
 injection e with e
 subst e
 obtain ⟨cs, T, h⟩ := h
 rw [hm] at h
 cases h
set_option maxHeartbeats 400000 in
theorem placeOf_any (b o n c : Nat) (w : World) (hn : 0 < n) :
 Calls Tryz.prog 118 #[.slice (some ⟨b, o, none⟩) n c] w fun e w' => e = .returned (kv (b, o, n)) ∧ Below w.heap.size w w' := by
 have h0 : (0 : Int) < (n : Int) := by omega
 go_enter Tryz.func118, Tryz.ntmps118
 go_wp2_with fail
 go_returns
 exact ⟨rfl, by go_grown⟩
theorem addK_len {K : Type} [DecidableEq K] (M : List K) (p : K) : decide (M.length < (addK M p).length) = decide (p ∉ M) := by
 unfold addK
 by_cases h : p ∈ M
 · rw [if_pos h]
   simp [h]
 · rw [if_neg h, List.length_append]
   simp [h]
theorem wpList_update_K {K : Type} [DecidableEq K] {kt : TypeId} {f : K → Value} {cl : World → K → Prop} (T : KeyT kt f cl) (w : World) {ops : Array Oper} {rest : List Oper} {o : Oper} {a : Act} {Q : Exit → Act → World → Prop}
 (hg : o.guard = none) (m x v : Operand) (t : TypeId) (hop : o.op = Op.mapUpdate t m x v) (et : TypeId) (ht : Tryz.prog.underlying t = some (.map kt et)) (b : Nat) (M : List K) (hm : a.eval m = .map (some b)) (hown : MapK f cl w b M)
 (hcl : ∀ w', w.grownBy w' (some b) → ∀ q, cl w q → cl w' q) (p : K) (hp : cl w p) (hx : a.eval x = f p)
 (hK : ∀ w', MapK f cl w' b (addK M p) → w.grownBy w' (some b) → wpList Tryz.prog ops Q rest (a.put o.dst undef) w') : wpList Tryz.prog ops Q (o :: rest) a w := by
 refine wpList_plain hg fun K' hK' => ?_
 obtain ⟨w', hrun, r1, r2⟩ := hown.update T hcl ht p hp (a.eval v)
 unfold Oper.wp
 simp [execOp, hop, hm, hx, hrun, Result.andThen]
 exact hK' _ _ (hK w' r1 r2)
theorem wpList_len_K {K : Type} [DecidableEq K] {kt : TypeId} {f : K → Value} {cl : World → K → Prop} (w : World) {ops : Array Oper} {rest : List Oper} {o : Oper} {a : Act} {Q : Exit → Act → World → Prop}
 (hg : o.guard = none) (m : Operand) (t : TypeId) (hop : o.op = Op.call { callee := Callee.builtin Builtin.len, args := #[m], argTypes := #[t] }) (et : TypeId) (ht : Tryz.prog.underlying t = some (.map kt et)) (b : Nat) (M : List K) (hm : a.eval m = .map (some b)) (hown : MapK f cl w b M)
 (hK : wpList Tryz.prog ops Q rest (a.put o.dst (.int .i64 (M.length : Int))) w) : wpList Tryz.prog ops Q (o :: rest) a w := by
 refine wpList_plain hg fun K' hK' => ?_
 unfold Oper.wp
 simp [execOp, hop, resolve, invoke, builtin, hm, hown.len ht o.type, Result.andThen]
 exact hK' _ _ hK
set_option maxHeartbeats 800000 in
theorem enter_any (p : Key) (mb : Nat) (M : List (Key)) (w : World) (hM : MapK kv cl1 w mb M) (hcl : cl1 w p) :
 Calls Tryz.prog 117 #[.map (some mb), kv p] w fun e w' => e = .returned (.bool (decide (p ∉ M))) ∧ MapK kv cl1 w' mb (addK M p) ∧ w.grownBy w' (some mb) := by
 have hmk : ∃ es c, w.heap[mb]? = some (.map es c) := by
  obtain ⟨⟨es, c, h, _⟩, _⟩ := hM
  exact ⟨es, c, h⟩
 have kcl : ∀ (W : World), Below w.heap.size w W → (∃ es c, W.heap[mb]? = some (.map es c)) → ∀ w', W.grownBy w' (some mb) → ∀ q, cl1 W q → cl1 w' q := by
  intro W _ hm w' hg q hq
  exact Cl.grown (show Cl W q.1 from hq) hg hm
 have hM1 : ∀ ob : Obj, MapK kv cl1 (w.alloc ob) mb M := fun ob => hM.keep (Below.heap_alloc _ _ _ hM.lt) (fun q hq => Cl.alloc (show Cl w _ from hq) _)
 have hc1 : ∀ ob : Obj, cl1 (w.alloc ob) p := fun ob => (fun hq => Cl.alloc (show Cl w _ from hq) _) hcl
 have hlen := addK_len M p
 replace hM := Hd hM
 replace hM1 := Hd hM1
 replace hlen := Hd hlen
 replace kcl := Hd kcl
 replace hmk := Hd hmk
 replace hc1 := Hd hc1
 have hval : kv p = .agg #[.pointer (some ⟨p.1, p.2.1, none⟩), .int .i64 (p.2.2 : Int)] := rfl
 rw [hval]
 go_enter Tryz.func117, Tryz.ntmps117
 go_wp2_with (first
  | (at_mapUpdate; refine wpList_update_K keyT1 _ rfl _ _ _ 138 rfl 100 Tryz.underlying138 mb M rfl (hM1.out _) (kcl.out _ ((Below.refl _ _).alloc (Nat.le_refl _) _) (by obtain ⟨es, c, h⟩ := hmk.out; exact ⟨es, c, (Below.heap_alloc _ _ _ hM.out.lt).trans h⟩)) p (hc1.out _) rfl ?_; intro w1 hown1 hgrow1)
  | (at_len; refine wpList_len_K _ rfl _ 138 rfl 100 Tryz.underlying138 mb _ rfl (by first | exact hM1.out _ | assumption) ?_))
 have HG := (World.grownBy_alloc w _ _).trans hgrow1
 replace HG := Hd HG
 replace hown1 := Hd hown1
 go_ret
 exact ⟨congrArg (fun b : Bool => Ending.returned (.bool b)) (hlen.out.trans (decide_eq_decide.2 Iff.rfl)), hown1.out, HG.out⟩
theorem right_is (c n : Int) (m : Bool) (w : World) : Calls Tryz.prog 120 #[.agg #[.int .i64 c, .bool m, .int .i64 n]] w fun e w' => e = .returned (.bool (rtB c n)) ∧ Below w.heap.size w w' := by
 by_cases h : RightT c n
 · rw [(rtB_iff c n).2 h]
   exact right_yes c n m w h.1 h.2.1 h.2.2.1 h.2.2.2
 · have : rtB c n = false := by
    rw [Bool.eq_false_iff]
    exact fun e => h ((rtB_iff c n).1 e)
   rw [this]
   exact right_no c n m w h
theorem bad_any (c n : Int) (m : Bool) (B K : Nat) (Ab Ak : Option Addr) (cb ck : Nat) (w : World) :
 Calls Tryz.prog 74 #[.agg #[.int .i64 c, .bool m, .int .i64 n, .slice Ab B cb, .slice Ak K ck]] w fun e w' => e = .returned (.bool ((if m then decide (0 < B) else decide (0 < K)) || !rtB c n)) ∧ Below w.heap.size w w' := by
 have CR := fun w => right_is c n m w
 replace CR := Hd CR
 have hnot : ∀ (x : Bool) (w : World), (Op.unary .not (.bool x)).run Tryz.prog w = .ok (.bool (!x)) w := fun _ _ => rfl
 cases m
 · by_cases h : 0 < K
   · have hd : decide (0 < (K : Int)) = true := decide_eq_true (by omega)
     go_enter Tryz.func74, Tryz.ntmps74
     go_wp2_with fail
     go_ret
     exact ⟨by simp, by go_grown⟩
   · have hd : decide (0 < (K : Int)) = false := decide_eq_false (by omega)
     go_enter Tryz.func74, Tryz.ntmps74
     go_wp2_with fail
     refine (CR.out _).mono ?_
     rintro e w2 ⟨rfl, hb2⟩
     dsimp only []
     go_wp2_with fail
     go_ret
     exact ⟨by simp, ((Below.refl _ w).alloc (Nat.le_refl _) _).trans (hb2.mono (by simp))⟩
 · by_cases h : 0 < B
   · have hd : decide (0 < (B : Int)) = true := decide_eq_true (by omega)
     go_enter Tryz.func74, Tryz.ntmps74
     go_wp2_with fail
     go_ret
     exact ⟨by simp, by go_grown⟩
   · have hd : decide (0 < (B : Int)) = false := decide_eq_false (by omega)
     go_enter Tryz.func74, Tryz.ntmps74
     go_wp2_with fail
     refine (CR.out _).mono ?_
     rintro e w2 ⟨rfl, hb2⟩
     dsimp only []
     go_wp2_with fail
     go_ret
     exact ⟨by simp, ((Below.refl _ w).alloc (Nat.le_refl _) _).trans (hb2.mono (by simp))⟩
theorem bad_one (e : El) : ((if e.m then decide (0 < e.b.length) else decide (0 < e.kids.length)) || !rtB e.c e.n) = !e.one := by
 have h1 := one_right e
 have h2 := rtB_iff e.c e.n
 obtain ⟨B, hB⟩ : ∃ B, B = e.b.length := ⟨_, rfl⟩
 obtain ⟨K, hK⟩ : ∃ K, K = e.kids.length := ⟨_, rfl⟩
 rw [← hB, ← hK] at h1 ⊢
 rw [← h2] at h1
 clear hB hK h2
 cases hm : e.m <;> cases ho : e.one <;> cases hr : rtB e.c e.n <;> simp [hm, ho, hr] at h1 ⊢ <;> omega
set_option maxRecDepth 4000 in
set_option maxHeartbeats 800000 in
theorem index_any (l : List El) (K bl off ck : Nat) (I : Nat → Prop) (w : World) (hK : l.length = K) (hKc : K ≤ ck) (hck : ck ≤ 9223372036854775807) (hbl : bl < w.heap.size)
 (hat : ∀ (i : Nat) (hi : i < l.length), ∃ Ab cb Ak ck, ElAt w I l[i] bl (off + i * 5) Ab cb Ak ck) :
 Calls Tryz.prog 119 #[.slice (some ⟨bl, off, none⟩) K ck, .func (.func 74) #[] #[]] w fun e w' => ∃ r : Int, e = .returned (.int .i64 r) ∧ decide (0 ≤ r) = !(l.all El.one) ∧ Below w.heap.size w w' := by
 replace hat := Hd hat
 replace hK := Hd hK
 have hb0 := Hd (Below.refl w.heap.size w)
 go_enter Tryz.func119, Tryz.ntmps119
 go_wp2_with fail
 go_loopw [8] (fun i wr => ∃ k : Nat, k ≤ K ∧ i = .int .i64 (k : Int) ∧ Hid ((l.take k).all El.one = true) ∧ Hid (Below w.heap.size w wr)) (fun i _ => K - (intOf i).toNat)
 case atStart => exact ⟨0, Nat.zero_le _, rfl, Hd rfl, hb0⟩
 case round =>
  obtain ⟨k, hk, rfl, H, HB⟩ := hrel
  clear hb0
  by_cases hlt : k < K
  · obtain ⟨Ab2, cb2, Ak2, ck2, ha⟩ := hat.out k (by rw [hK.out]; exact hlt)
    have keep : ∀ p : Addr, p.block < w.heap.size → wr.cell? p = w.cell? p := fun p hp => HB.out.cell hp
    have c0 := (keep ⟨bl, off + k * 5, none⟩ hbl).trans ha.c
    have c1 := (keep ⟨bl, off + k * 5 + 1, none⟩ hbl).trans ha.m
    have c2 := (keep ⟨bl, off + k * 5 + 2, none⟩ hbl).trans ha.n
    have c3 := (keep ⟨bl, off + k * 5 + 3, none⟩ hbl).trans ha.b
    have c4 := (keep ⟨bl, off + k * 5 + 4, none⟩ hbl).trans ha.k
    have hta := Hd (take_all El.one l k (by rw [hK.out]; exact hlt))
    have hno := Hd (all_no El.one l k (by rw [hK.out]; exact hlt))
    obtain ⟨r, hrr⟩ : ∃ r, l[k]'(by rw [hK.out]; exact hlt) = r := ⟨_, rfl⟩
    rw [hrr] at c0 c1 c2 c3 c4 hta hno
    clear keep ha hrr
    have hc := fun w' => bad_any r.c r.n r.m r.b.length r.kids.length Ab2 Ak2 cb2 ck2 w'
    rw [bad_one] at hc
    obtain ⟨v, hv⟩ : ∃ v, r.one = v := ⟨_, rfl⟩
    rw [hv] at hc hta hno
    clear hv
    have i0 : (0 : Int) ≤ (k : Int) := by omega
    have i1 : (k : Int) < (K : Int) := by omega
    have hsz := HB.out.size
    replace hc := Hd hc
    cases v
    · have hX := Hd (hno.out rfl)
      go_wp2_with fail
      refine (hc.out _).mono ?_
      rintro en w3 ⟨rfl, hb3⟩
      have HB3 := Hd (HB.out.trans (hb3.mono hsz))
      clear hb3 hc
      dsimp only []
      go_wp2_with fail
      go_ret
      exact ⟨(k : Int), rfl, by rw [hX.out]; simp, HB3.out⟩
    · have hX := Hd (hta.out.trans (by rw [H.out, Bool.and_true]))
      go_wp2_with fail
      refine (hc.out _).mono ?_
      rintro en w3 ⟨rfl, hb3⟩
      have HB3 := Hd (HB.out.trans (hb3.mono hsz))
      clear hb3 hc
      dsimp only []
      go_wp2_with fail
      go_roundw
      case rel => exact ⟨k + 1, by omega, by go_num, hX, HB3⟩
      case measure => simp [intOf]; omega
  · have hkk : k = K := by omega
    subst hkk
    have hX : Hid (l.all El.one = true) := by
     have := H.out
     rw [List.take_of_length_le (by rw [hK.out]; exact Nat.le_refl _)] at this
     exact Hd this
    go_wp2_with fail
    go_ret
    exact ⟨-1, rfl, by rw [hX.out]; rfl, HB.out⟩
set_option maxHeartbeats 800000 in
theorem containsEl_any (l : List El) (K bl off ck : Nat) (I : Nat → Prop) (w : World) (hK : l.length = K) (hKc : K ≤ ck) (hck : ck ≤ 9223372036854775807) (hbl : bl < w.heap.size)
 (hat : ∀ (i : Nat) (hi : i < l.length), ∃ Ab cb Ak ck, ElAt w I l[i] bl (off + i * 5) Ab cb Ak ck) :
 Calls Tryz.prog 73 #[.slice (some ⟨bl, off, none⟩) K ck, .func (.func 74) #[] #[]] w fun e w' => e = .returned (.bool (!(l.all El.one))) ∧ Below w.heap.size w w' := by
 have C := Hd (index_any l K bl off ck I w hK hKc hck hbl hat)
 clear hat
 replace hK := Hd hK
 go_enter Tryz.func73, Tryz.ntmps73
 go_wp2_with fail
 refine C.out.mono ?_
 rintro en w3 ⟨r, rfl, hr, hb3⟩
 replace hr := Hd hr
 replace hb3 := Hd hb3
 dsimp only []
 go_wp2_with fail
 go_ret
 exact ⟨by rw [← hr.out]; rfl, hb3.out⟩
def Kid (w : World) (p : Key) (j : Nat) (q : Key) : Prop := ∃ ck, w.cell? ⟨p.1, p.2.1 + j * 5 + 4, none⟩ = some (.slice (some ⟨q.1, q.2.1, none⟩) q.2.2 ck) ∧ 0 < q.2.2
theorem Kid.one {w : World} {p q q' : Key} {j : Nat} (h : Kid w p j q) (h' : Kid w p j q') : q' = q := by
 obtain ⟨ck, h1, _⟩ := h
 obtain ⟨ck', h2, _⟩ := h'
 rw [h1] at h2
 simp only [Option.some.injEq, Value.slice.injEq, Addr.mk.injEq, and_true] at h2
 obtain ⟨⟨a, b⟩, c, _⟩ := h2
 obtain ⟨q1, q2, q3⟩ := q
 obtain ⟨r1, r2, r3⟩ := q'
 simp only at a b c
 subst a b c
 rfl
structure Lst (w : World) (p : Key) (g : Fo) : Prop where
 at_ : FoAt w (Cb w) g p.1 p.2.1
 cl : Cl w p.1
 len : g.list.length = p.2.2
 pos : 0 < p.2.2
theorem Lst.elem {w : World} {p : Key} {g : Fo} (h : Lst w p g) (j : Nat) (hj : j < g.list.length) : ∃ Ab cb Ak ck, ElAt w (Cb w) g.list[j] p.1 (p.2.1 + j * 5) Ab cb Ak ck ∧ ElIn w (Cb w) g.list[j] Ab cb Ak ck := h.at_.get j hj
theorem kid_of {w : World} {p : Key} {j : Nat} {e : El} {Ab : Option Addr} {cb : Nat} {Ak : Option Addr} {ck : Nat} (h1 : ElAt w (Cb w) e p.1 (p.2.1 + j * 5) Ab cb Ak ck) (h2 : ElIn w (Cb w) e Ab cb Ak ck) (h0 : 0 < e.kids.length) :
 ∃ b o, Ak = some ⟨b, o, none⟩ ∧ Kid w p j (b, o, e.kids.length) ∧ Lst w (b, o, e.kids.length) e.k := by
 rcases Ak with _ | ⟨b, o, spot⟩
 · have := h2.k.nil rfl
   have h3 := h2.k.le
   have h4 : 0 < e.k.list.length := h0
   omega
 · obtain ⟨g1, g2, g3⟩ := h2.k.at_ _ rfl h0
   have : spot = none := g1
   subst this
   have hcl : Cl w b := by
    obtain ⟨_, _, _, _, hat, _⟩ := g3.get 0 h0
    exact g2.cl hat.c
   exact ⟨b, o, rfl, ⟨ck, h1.k, h0⟩, ⟨g3, hcl, rfl, h0⟩⟩
theorem kid_none {w : World} {p q : Key} {j : Nat} {e : El} {Ab : Option Addr} {cb : Nat} {Ak : Option Addr} {ck : Nat} (h1 : ElAt w (Cb w) e p.1 (p.2.1 + j * 5) Ab cb Ak ck) (h0 : e.kids.length = 0) : ¬ Kid w p j q := by
 rintro ⟨ck', h3, h4⟩
 have := h1.k
 rw [this] at h3
 simp only [Option.some.injEq, Value.slice.injEq] at h3
 omega
theorem Lst.keep {w w' : World} {p : Key} {g : Fo} (h : Lst w p g) (hb : ∀ b, Cb w b → w'.heap[b]? = w.heap[b]?) : Lst w' p g :=
 ⟨(FoAt.keep (I := Cb w) (fun _ hq => World.cell?_of_block (hb _ hq)) h.at_ h.cl.cb).more fun b hb' => hb'.of (hb b hb'), h.cl.of (hb _ h.cl.cb), h.len, h.pos⟩
theorem Cl.not_map {w : World} {b mb : Nat} (h : Cl w b) (hm : ∃ es c, w.heap[mb]? = some (.map es c)) : b ≠ mb := by
 rintro rfl
 obtain ⟨es, c, hm⟩ := hm
 obtain ⟨cs, T, h⟩ := h
 rw [hm] at h
 cases h
theorem MapK.map {K : Type} {f : K → Value} {cl : World → K → Prop} {w : World} {b : Nat} {M : List K} (h : MapK f cl w b M) : ∃ es c, w.heap[b]? = some (.map es c) := by
 obtain ⟨⟨es, c, h, _⟩, _⟩ := h
 exact ⟨es, c, h⟩
theorem grown_cl {w w' : World} {mb b : Nat} (hg : w.grownBy w' (some mb)) (hm : ∃ es c, w.heap[mb]? = some (.map es c)) (h : Cl w b) : w'.heap[b]? = w.heap[b]? :=
 hg.block b h.lt fun e => h.not_map hm (by injection e)
theorem grown_below {w wr w3 : World} {mb : Nat} (h : w.grownBy wr (some mb)) (hb : Below wr.heap.size wr w3) : w.grownBy w3 (some mb) :=
 ⟨hb.os.trans h.os, hb.tape.trans h.tape, hb.output.trans h.output, Nat.le_trans h.size hb.size, fun i hi hne => (hb.block i (Nat.lt_of_lt_of_le hi h.size)).trans (h.block i hi hne)⟩
theorem grown_trans {w wr w3 : World} {mb : Nat} (h : w.grownBy wr (some mb)) (hb : wr.grownBy w3 (some mb)) : w.grownBy w3 (some mb) :=
 ⟨hb.os.trans h.os, hb.tape.trans h.tape, hb.output.trans h.output, Nat.le_trans h.size hb.size, fun i hi hne => (hb.block i (Nat.lt_of_lt_of_le hi h.size) hne).trans (h.block i hi hne)⟩
theorem MapK.below {M : List Key} {w w' : World} {mb : Nat} (h : MapK kv cl1 w mb M) (hb : Below w.heap.size w w') : MapK kv cl1 w' mb M :=
 h.keep (hb.block _ h.lt) fun p hp => Cl.below (show Cl w p.1 from hp) hb (Cl.lt hp)
def rowL (N : List Key) (cs : List Value) : Prop := cs.length = N.length ∧ ∀ (i : Nat) (hi : i < N.length), ∃ cap, N[i].2.2 ≤ cap ∧ cap ≤ 9223372036854775807 ∧ cs[i]? = some (.slice (some ⟨N[i].1, N[i].2.1, none⟩) N[i].2.2 cap)
def OwnL (w : World) (base : Nat) (v : Value) (N : List Key) : Prop := ∃ cs, w.ownsRow base 41 1 v N.length cs ∧ rowL N cs
theorem OwnL.nil (w : World) (base : Nat) : OwnL w base (.slice none 0 0) [] := ⟨[], World.ownsRow_nil _ _ _ _, rfl, fun i hi => absurd hi (by simp)⟩
theorem OwnL.form {w : World} {base : Nat} {v : Value} {N : List Key} (h : OwnL w base v N) : ∃ A c, v = .slice A N.length c ∧ (0 < N.length → ∃ g, A = some ⟨g, 0, none⟩ ∧ base ≤ g ∧ Cl w g ∧ N.length ≤ c ∧ c ≤ 9223372036854775807 ∧ ∀ (i : Nat) (hi : i < N.length), ∃ cap, N[i].2.2 ≤ cap ∧ cap ≤ 9223372036854775807 ∧ w.cell? ⟨g, i, none⟩ = some (.slice (some ⟨N[i].1, N[i].2.1, none⟩) N[i].2.2 cap)) := by
 obtain ⟨cs, ⟨hl, h0 | ⟨g, cap, cur, hv, hbs, hg, hn, hm, hs, hx⟩⟩, h2, h3⟩ := h
 · exact ⟨none, 0, by rw [h0.1, h0.2], fun h => by omega⟩
 · refine ⟨_, cap, hv, fun h => ⟨g, rfl, hbs, ⟨_, _, hg⟩, hn, by unfold maxLen at hm; exact hm, fun i hi => ?_⟩⟩
   obtain ⟨c, h4, h5, h6⟩ := h3 i hi
   refine ⟨c, h4, h5, ?_⟩
   rw [cell_of_row w g i cur _ _ hg, ← h6, ← hx, List.getElem?_take, if_pos (by omega)]
   simp
theorem OwnL.keep {w w' : World} {base : Nat} {v : Value} {N : List Key} (h : OwnL w base v N) (hb : ∀ b, Cl w b → w'.heap[b]? = w.heap[b]?) : OwnL w' base v N := by
 obtain ⟨cs, ⟨h1, h0 | ⟨g, cap, cur, hv, hbs, hg, hn, hm, hs, hx⟩⟩, h2⟩ := h
 · exact ⟨cs, ⟨h1, .inl h0⟩, h2⟩
 · exact ⟨cs, ⟨h1, .inr ⟨g, cap, cur, hv, hbs, (hb g ⟨_, _, hg⟩).trans hg, hn, hm, hs, hx⟩⟩, h2⟩
theorem OwnL.base_le {w : World} {base base' : Nat} {v : Value} {N : List Key} (h : OwnL w base v N) (hb : base' ≤ base) : OwnL w base' v N := by
 obtain ⟨cs, ⟨h1, h0 | ⟨g, cap, cur, hv, hbs, hg, hn, hm, hs, hx⟩⟩, h2⟩ := h
 · exact ⟨cs, ⟨h1, .inl h0⟩, h2⟩
 · exact ⟨cs, ⟨h1, .inr ⟨g, cap, cur, hv, Nat.le_trans hb hbs, hg, hn, hm, hs, hx⟩⟩, h2⟩
abbrev PL := List (Key × Fo)
def keys (L : PL) : List Key := L.map (·.1)
def szL (L : PL) : Nat := sumL (L.map fun x => x.2.size)
def kidsz (l : List El) : Nat := sumL (l.map fun e => e.k.size)
theorem szL_snoc (L : PL) (x : Key × Fo) : szL (L ++ [x]) = szL L + x.2.size := by
 unfold szL
 rw [List.map_append, List.map_singleton, sumL_snoc]
theorem kidsz_take (l : List El) (k : Nat) (h : k < l.length) : kidsz (l.take (k + 1)) = kidsz (l.take k) + l[k].k.size := by
 unfold kidsz
 rw [List.take_succ_eq_append_getElem h, List.map_append, List.map_singleton, sumL_snoc]
theorem kidsz_le (g : Fo) : kidsz g.list + g.list.length ≤ g.size := by
 rw [Fo.size_list]
 unfold kidsz
 generalize g.list = l
 induction l with
 | nil => simp [sumL]
 | cons a l ih =>
   rw [List.map_cons, List.map_cons, sumL_cons, sumL_cons, List.length_cons]
   have : a.k.size + 1 ≤ a.size := by unfold El.size; omega
   omega
theorem kidsz_mono (l : List El) (k : Nat) : kidsz (l.take k) ≤ kidsz l := by
 unfold kidsz
 induction l generalizing k with
 | nil => simp
 | cons a l ih =>
   cases k with
   | zero => simp [sumL]
   | succ k =>
     rw [List.take_succ_cons, List.map_cons, List.map_cons, sumL_cons, sumL_cons]
     have := ih k
     omega
def kidszL (L : PL) : Nat := sumL (L.map fun x => kidsz x.2.list)
theorem kidszL_take (L : PL) (k : Nat) (h : k < L.length) : kidszL (L.take (k + 1)) = kidszL (L.take k) + kidsz L[k].2.list := by
 unfold kidszL
 rw [List.take_succ_eq_append_getElem h, List.map_append, List.map_singleton, sumL_snoc]
theorem kidszL_le (w : World) : ∀ (L : PL), (∀ x ∈ L, Lst w x.1 x.2) → kidszL L + L.length ≤ szL L
 | [], _ => by simp [kidszL, szL, sumL]
 | x :: L, h => by
   have h1 := kidszL_le w L fun y hy => h y (List.mem_cons_of_mem _ hy)
   have h2 := kidsz_le x.2
   have h3 := h x (List.mem_cons_self ..)
   have h4 := h3.len
   have h5 := h3.pos
   unfold kidszL szL at h1 ⊢
   rw [List.map_cons, List.map_cons, sumL_cons, sumL_cons, List.length_cons]
   omega
theorem szL_len (w : World) (L : PL) (h : ∀ x ∈ L, Lst w x.1 x.2) : L.length ≤ szL L := by
 have := kidszL_le w L h
 omega
theorem info_list : (Tryz.prog.info? 41).map (fun i => (i.zero, i.size, i.bytes)) = some (some (.slice none 0 0), 1, 24) := by kernel_rfl
structure BRel (w wr : World) (mb : Nat) (M : List Key) (L L1 : PL) (V : Value) (D : Key → Prop) (S : Nat) : Prop where
 grown : w.grownBy wr (some mb)
 map : MapK kv cl1 wr mb (M ++ keys L1)
 own : OwnL wr w.heap.size V (keys L1)
 lst : ∀ x ∈ L1, Lst w x.1 x.2
 kid : ∀ x ∈ L1, ∃ y ∈ L, ∃ e ∈ y.2.list, x.2 = e.k
 closed : ∀ q, D q → q ∈ M ++ keys L1
 sz : szL L1 ≤ S
theorem BRel.weaken {w wr : World} {mb : Nat} {M : List Key} {L L1 : PL} {V : Value} {D D' : Key → Prop} {S S' : Nat} (h : BRel w wr mb M L L1 V D S) (hD : ∀ q, D' q → D q) (hS : S ≤ S') : BRel w wr mb M L L1 V D' S' :=
 ⟨h.grown, h.map, h.own, h.lst, h.kid, fun q hq => h.closed q (hD q hq), Nat.le_trans h.sz hS⟩
theorem BRel.clean {w wr : World} {mb : Nat} {M : List Key} {L L1 : PL} {V : Value} {D : Key → Prop} {S : Nat} (h : BRel w wr mb M L L1 V D S) (hM : ∀ p ∈ M, Cl w p.1) : ∀ p ∈ M ++ keys L1, Cl w p.1 := by
 intro p hp
 rcases List.mem_append.1 hp with hp | hp
 · exact hM p hp
 · unfold keys at hp
   obtain ⟨x, hx, rfl⟩ := List.mem_map.1 hp
   exact (h.lst x hx).cl
theorem BRel.move {w wr w' : World} {mb : Nat} {M : List Key} {L L1 : PL} {V : Value} {D : Key → Prop} {S : Nat} (h : BRel w wr mb M L L1 V D S) (hb : Below wr.heap.size wr w') : BRel w w' mb M L L1 V D S :=
 ⟨grown_below h.grown hb, h.map.below hb, h.own.keep fun b hc => hb.block b hc.lt, h.lst, h.kid, h.closed, h.sz⟩
theorem BRel.old {w wr w4 : World} {mb : Nat} {M : List Key} {L L1 : PL} {V : Value} {D : Key → Prop} {S : Nat} {q : Key} (h : BRel w wr mb M L L1 V D S) (hq : q ∈ M ++ keys L1) (hm : MapK kv cl1 w4 mb (addK (M ++ keys L1) q)) (hg : wr.grownBy w4 (some mb)) : BRel w w4 mb M L L1 V (fun r => D r ∨ r = q) S := by
 unfold addK at hm
 rw [if_pos hq] at hm
 refine ⟨grown_trans h.grown hg, hm, h.own.keep fun b hc => grown_cl hg h.map.map hc, h.lst, h.kid, fun r hr => ?_, h.sz⟩
 rcases hr with hr | rfl
 · exact h.closed r hr
 · exact hq
theorem BRel.fresh {w wr w4 w6 : World} {mb : Nat} {M : List Key} {L L1 : PL} {V : Value} {D : Key → Prop} {S g cap ck : Nat} {q : Key} {k : Fo} {y : Key × Fo} {e : El} {cs : List Value} {o : Obj} (h : BRel w wr mb M L L1 V D S) (hM : ∀ p ∈ M, Cl w p.1) (hmap0 : ∃ es c, w.heap[mb]? = some (.map es c))
 (hq : q ∉ M ++ keys L1) (hm : MapK kv cl1 w4 mb (addK (M ++ keys L1) q)) (hg : wr.grownBy w4 (some mb)) (hl : Lst w q k) (hy : y ∈ L) (he : e ∈ y.2.list) (hk : k = e.k) (hck : q.2.2 ≤ ck) (hck2 : ck ≤ 9223372036854775807)
 (hcs : rowL (keys L1) cs) (hown : w6.ownsRow w.heap.size 41 1 (.slice (some ⟨g, 0, none⟩) ((keys L1).length + 1) cap) ((keys L1).length + 1) (cs ++ [.slice (some ⟨q.1, q.2.1, none⟩) q.2.2 ck]))
 (hg6 : (w4.alloc o).grownBy w6 V.ownBlock) (hV : ∀ b, V.ownBlock = some b → w.heap.size ≤ b) :
 BRel w w6 mb M L (L1 ++ [(q, k)]) (.slice (some ⟨g, 0, none⟩) ((keys L1).length + 1) cap) (fun r => D r ∨ r = q) (S + k.size) := by
 have hmb : mb < w.heap.size := by
  obtain ⟨es, c, h⟩ := hmap0
  exact (Array.getElem?_eq_some_iff.1 h).1
 unfold addK at hm
 rw [if_neg hq] at hm
 have hkeys : keys (L1 ++ [(q, k)]) = keys L1 ++ [q] := by unfold keys; simp
 have hw4 : w.grownBy w4 (some mb) := grown_trans h.grown hg
 have hw6 : w.grownBy w6 (some mb) := by
  refine ⟨hg6.os.trans hw4.os, hg6.tape.trans hw4.tape, hg6.output.trans hw4.output, Nat.le_trans hw4.size (Nat.le_trans (by simp) hg6.size), fun i hi hne => ?_⟩
  have h4 := hw4.size
  rw [hg6.block i (by simp; omega) (fun e => by have := hV i e.symm; omega), Below.heap_alloc _ _ _ (by omega)]
  exact hw4.block i hi hne
 have hmblk : w6.heap[mb]? = w4.heap[mb]? := by
  have h4 := hw4.size
  rw [hg6.block mb (by simp; omega) (fun e => by have := hV mb e.symm; omega), Below.heap_alloc _ _ _ (by omega)]
 obtain ⟨⟨es, clock, hb1, hb2⟩, _⟩ := hm
 have hcl : ∀ p ∈ M ++ keys (L1 ++ [(q, k)]), Cl w p.1 := by
  intro p hp
  rw [hkeys, ← List.append_assoc] at hp
  rcases List.mem_append.1 hp with hp | hp
  · exact h.clean hM p hp
  · simp only [List.mem_singleton] at hp
    subst hp
    exact hl.cl
 refine ⟨hw6, ⟨⟨es, clock, hmblk.trans hb1, by rw [hkeys, ← List.append_assoc]; exact hb2⟩, fun p hp => Cl.grown (hcl p hp) hw6 hmap0⟩, ⟨cs ++ [.slice (some ⟨q.1, q.2.1, none⟩) q.2.2 ck], by rw [hkeys, List.length_append]; exact hown, ?_⟩, ?_, ?_, ?_, ?_⟩
 · rw [hkeys]
   refine ⟨by simp [hcs.1], fun i hi => ?_⟩
   by_cases hil : i < (keys L1).length
   · obtain ⟨c, g1, g2, g3⟩ := hcs.2 i hil
     refine ⟨c, ?_, g2, ?_⟩
     · rw [List.getElem_append_left hil]; exact g1
     · rw [List.getElem?_append_left (by rw [hcs.1]; exact hil), List.getElem_append_left hil]; exact g3
   · have hie : i = (keys L1).length := by simp at hi; omega
     subst hie
     refine ⟨ck, ?_, hck2, ?_⟩
     · rw [List.getElem_append_right (Nat.le_refl _)]; simpa using hck
     · rw [List.getElem?_append_right (by rw [hcs.1]; exact Nat.le_refl _), List.getElem_append_right (Nat.le_refl _)]
       simp [hcs.1]
 · intro x hx
   rcases List.mem_append.1 hx with hx | hx
   · exact h.lst x hx
   · simp only [List.mem_singleton] at hx
     subst hx
     exact hl
 · intro x hx
   rcases List.mem_append.1 hx with hx | hx
   · exact h.kid x hx
   · simp only [List.mem_singleton] at hx
     subst hx
     exact ⟨y, hy, e, he, hk⟩
 · intro r hr
   rw [hkeys, ← List.append_assoc]
   rcases hr with hr | rfl
   · exact List.mem_append_left _ (h.closed r hr)
   · simp
 · rw [szL_snoc]
   have := h.sz
   simp only
   omega
theorem sumL_take_le {α : Type} (f : α → Nat) (l : List α) (k : Nat) : sumL ((l.take k).map f) ≤ sumL (l.map f) := by
 induction l generalizing k with
 | nil => simp
 | cons a l ih =>
   cases k with
   | zero => simp [sumL]
   | succ k =>
     rw [List.take_succ_cons, List.map_cons, List.map_cons, sumL_cons, sumL_cons]
     have := ih k
     omega
def BelowPost (M : List Key) (L : PL) (mb : Nat) (w : World) (en : Ending) (w' : World) : Prop :=
 ∃ (L1 : PL) (A : Option Addr) (c : Nat), en = .returned (.slice A (keys L1).length c) ∧ BRel w w' mb M L L1 (.slice A (keys L1).length c) (fun q => ∃ y ∈ L, ∃ j, j < y.2.list.length ∧ Kid w y.1 j q) (kidszL L)
set_option maxRecDepth 8000 in
set_option maxHeartbeats 1600000 in
theorem below_any (M : List Key) (L : PL) (mb base lc n : Nat) (LA : Option Addr) (w : World) (hL : OwnL w base (.slice LA n lc) (keys L)) (hn : n = L.length) (hM : MapK kv cl1 w mb M) (hl : ∀ x ∈ L, Lst w x.1 x.2) (hsz : szL L ≤ 1000000) :
 Calls Tryz.prog 72 #[.slice LA n lc, .map (some mb)] w (BelowPost M L mb w) := by
 obtain ⟨i0, hi, hz0, hz1, hz2⟩ := info_parts info_list
 have hmap0 := hM.map
 have hMc : ∀ p ∈ M, Cl w p.1 := fun p hp => hM.cl p hp
 have hkl := kidszL_le w L hl
 have hlen : (keys L).length = L.length := by unfold keys; simp
 obtain ⟨A', c', hv, hrow⟩ := hL.form
 injection hv with hv1 hv2 hv3
 subst hv1 hv3
 clear hv2
 have h0 : Hid (BRel w w mb M L [] (.slice none 0 0) (fun q => ∃ y ∈ L.take 0, ∃ j, j < y.2.list.length ∧ Kid w y.1 j q) (kidszL (L.take 0))) :=
  Hd ⟨⟨rfl, rfl, rfl, Nat.le_refl _, fun _ _ _ => rfl⟩, by simpa [keys] using hM, OwnL.nil _ _, (fun x hx => by cases hx), (fun x hx => by cases hx), (fun q hq => by simp at hq), Nat.zero_le _⟩
 replace hL := Hd hL
 replace hM := Hd hM
 replace hl := Hd hl
 replace hrow := Hd hrow
 replace hlen := Hd hlen
 replace hn := Hd hn
 replace hmap0 := Hd hmap0
 replace hMc := Hd hMc
 replace hkl := Hd hkl
 go_enter Tryz.func72, Tryz.ntmps72
 go_wp2_with fail
 go_loopw [5, 12] (fun v i wr => ∃ (k : Nat) (L1 : PL) (A : Option Addr) (c : Nat), k ≤ n ∧ i = .int .i64 (k : Int) ∧ v = .slice A (keys L1).length c ∧ Hid (BRel w wr mb M L L1 (.slice A (keys L1).length c) (fun q => ∃ y ∈ L.take k, ∃ j, j < y.2.list.length ∧ Kid w y.1 j q) (kidszL (L.take k)))) (fun _ i _ => n - (intOf i).toNat)
 case atStart => exact ⟨0, [], none, 0, Nat.zero_le _, rfl, rfl, h0⟩
 case round =>
  obtain ⟨k, L1, A, c, hk, rfl, rfl, HR⟩ := hrel
  clear h0
  by_cases hlt : k < n
  · have hkL : k < L.length := by rw [← hn.out]; exact hlt
    obtain ⟨g, rfl, hbg, hcg, hnc, hc9, hcells⟩ := hrow.out (by rw [hlen.out]; omega)
    obtain ⟨cap, hcap1, hcap2, hcell⟩ := hcells k (by rw [hlen.out]; exact hkL)
    have hrow1 : wr.cell? ⟨g, k, none⟩ = w.cell? ⟨g, k, none⟩ := World.cell?_of_block (grown_cl HR.out.grown hmap0.out hcg)
    have hgc := hrow1.trans hcell
    have i0' : (0 : Int) ≤ (k : Int) := by omega
    have i1' : (k : Int) < (n : Int) := by omega
    have hnlc : n ≤ lc := by have := hn.out; have := hlen.out; omega
    obtain ⟨y, hy⟩ : ∃ y, y = L[k] := ⟨_, rfl⟩
    have hyk : (keys L)[k]'(by rw [hlen.out]; exact hkL) = y.1 := by rw [hy]; unfold keys; simp
    rw [hyk] at hgc hcap1
    have hyl := hl.out y (by rw [hy]; exact List.getElem_mem hkL)
    have hyL : y ∈ L := by rw [hy]; exact List.getElem_mem hkL
    obtain ⟨⟨yb, yo, yn⟩, yg⟩ := y
    simp only [] at hgc hcap1
    have hylen := hyl.len
    have hypos := hyl.pos
    simp only [] at hylen hypos
    clear hrow1 hcells hcell hcg hbg hyk
    replace hyl := Hd hyl
    replace hyL := Hd hyL
    replace hy := Hd hy
    replace hylen := Hd hylen
    obtain ⟨D, hD⟩ : ∃ D : Key → Prop, D = fun q => ∃ y ∈ L.take k, ∃ j, j < y.2.list.length ∧ Kid w y.1 j q := ⟨_, rfl⟩
    obtain ⟨S, hS⟩ : ∃ S, S = kidszL (L.take k) := ⟨_, rfl⟩
    rw [← hD, ← hS] at HR
    have hbig : S + kidsz yg.list ≤ 1000000 := by
     have h1 := kidszL_take L k hkL
     have h2 : kidszL (L.take (k + 1)) ≤ kidszL L := by
      unfold kidszL
      exact sumL_take_le _ L (k + 1)
     have h3 := hkl.out
     rw [← hy.out] at h1
     simp only [] at h1
     omega
    have HR0 : Hid (BRel w wr mb M L L1 (.slice A (keys L1).length c) (fun q => D q ∨ ∃ j', j' < 0 ∧ Kid w (yb, yo, yn) j' q) (S + kidsz (yg.list.take 0))) := Hd (HR.out.weaken (fun q hq => by rcases hq with hq | ⟨j', hj', _⟩; exact hq; omega) (by simp))
    replace hD := Hd hD
    replace hS := Hd hS
    go_wp2_with fail
    go_loopw [5, 18] (fun v i wr2 => ∃ (j : Nat) (L2 : PL) (A : Option Addr) (c : Nat), j ≤ yn ∧ i = .int .i64 (j : Int) ∧ v = .slice A (keys L2).length c ∧ Hid (BRel w wr2 mb M L L2 (.slice A (keys L2).length c) (fun q => D q ∨ ∃ j', j' < j ∧ Kid w (yb, yo, yn) j' q) (S + kidsz (yg.list.take j)))) (fun _ i _ => yn - (intOf i).toNat)
    case atStart => exact ⟨0, L1, A, c, Nat.zero_le _, rfl, rfl, HR0⟩
    case round =>
     obtain ⟨j, L2, A2, c2, hj, rfl, rfl, HI⟩ := hrel
     clear HR0 HR hgc
     by_cases hjlt : j < yn
     · have hjl : j < yg.list.length := by rw [hylen.out]; exact hjlt
       obtain ⟨Ab, cb, Ak, ck, hat, hin⟩ := hyl.out.elem j hjl
       simp only [] at hat
       have hin0 := hyl.out.cl
       simp only [] at hin0
       have kw : ∀ o, wr.cell? ⟨yb, o, none⟩ = w.cell? ⟨yb, o, none⟩ := fun o => World.cell?_of_block (grown_cl HI.out.grown hmap0.out hin0)
       have a0 := (kw _).trans hat.c
       have a1 := (kw _).trans hat.m
       have a2 := (kw _).trans hat.n
       have a3 := (kw _).trans hat.b
       have a4 := (kw _).trans hat.k
       have hkz := kidsz_take yg.list j hjl
       have hkm := kidsz_mono yg.list (j + 1)
       have hmem : yg.list[j] ∈ yg.list := List.getElem_mem hjl
       obtain ⟨r, hrr⟩ : ∃ r, yg.list[j] = r := ⟨_, rfl⟩
       rw [hrr] at hat hin a0 a1 a2 a3 a4 hkz hmem
       clear hrr kw hin0
       have j0 : (0 : Int) ≤ (j : Int) := by omega
       have j1 : (j : Int) < (yn : Int) := by omega
       have hcap3 : yn ≤ cap := hcap1
       have hszw := HI.out.grown.size
       by_cases hk0 : r.kids.length = 0
       · have kd : decide (0 < (r.kids.length : Int)) = false := decide_eq_false (by omega)
         have HN : Hid (∀ ob : Obj, BRel w (wr.alloc ob) mb M L L2 (.slice A2 (keys L2).length c2) (fun q => D q ∨ ∃ j', j' < j + 1 ∧ Kid w (yb, yo, yn) j' q) (S + kidsz (yg.list.take (j + 1)))) := Hd fun ob =>
          (HI.out.move ((Below.refl _ _).alloc (Nat.le_refl _) ob)).weaken (fun q hq => by
            rcases hq with hq | ⟨j', hj', hq⟩
            · exact .inl hq
            · rcases Nat.lt_or_ge j' j with h | h
              · exact .inr ⟨j', h, hq⟩
              · obtain rfl : j' = j := by omega
                exact absurd hq (kid_none (p := (yb, yo, yn)) (j := j') hat hk0)) (by omega)
         replace hat := Hd hat
         replace hin := Hd hin
         go_wp2_with fail
         go_roundw
         case rel => exact ⟨j + 1, L2, A2, c2, by omega, by go_num, rfl, HN.out _⟩
         case measure => simp [intOf]; omega
       · obtain ⟨b, o, rfl, hkid, hlst⟩ := kid_of (p := (yb, yo, yn)) (j := j) hat hin (by omega)
         have kd : decide (0 < (r.kids.length : Int)) = true := decide_eq_true (by omega)
         have hkle : r.kids.length ≤ ck := hin.k.le
         have hk9 := hin.k.big
         have CPL := fun w' => placeOf_any b o r.kids.length ck w' (by omega)
         have CEN : ∀ w', Below wr.heap.size wr w' → Calls Tryz.prog 117 #[.map (some mb), kv (b, o, r.kids.length)] w' fun e w'' => e = .returned (.bool (decide ((b, o, r.kids.length) ∉ M ++ keys L2))) ∧ MapK kv cl1 w'' mb (addK (M ++ keys L2) (b, o, r.kids.length)) ∧ w'.grownBy w'' (some mb) := fun w' hb =>
          enter_any (b, o, r.kids.length) mb _ w' (HI.out.map.below hb) ((hlst.cl.of (grown_cl HI.out.grown hmap0.out hlst.cl)).below hb (Nat.lt_of_lt_of_le hlst.cl.lt hszw))
         have hDj : ∀ q, (D q ∨ ∃ j', j' < j + 1 ∧ Kid w (yb, yo, yn) j' q) → ((D q ∨ ∃ j', j' < j ∧ Kid w (yb, yo, yn) j' q) ∨ q = (b, o, r.kids.length)) := fun q hq => by
          rcases hq with hq | ⟨j', hj', hq⟩
          · exact .inl (.inl hq)
          · rcases Nat.lt_or_ge j' j with h | h
            · exact .inl (.inr ⟨j', h, hq⟩)
            · obtain rfl : j' = j := by omega
              exact .inr (hkid.one hq)
         obtain ⟨Kn, hKn⟩ : ∃ Kn, Kn = r.kids.length := ⟨_, rfl⟩
         rw [← hKn] at CPL CEN hDj hlst a4 kd hk0 hkle hkid
         replace hat := Hd hat
         replace hin := Hd hin
         replace CPL := Hd CPL
         replace CEN := Hd CEN
         replace hDj := Hd hDj
         replace hlst := Hd hlst
         replace hkid := Hd hkid
         replace hKn := Hd hKn
         replace hkz := Hd hkz
         by_cases hq : (b, o, Kn) ∈ M ++ keys L2
         · go_wp2_with fail
           refine (CPL.out _).mono ?_
           rintro en w3 ⟨rfl, hb3⟩
           have hB3 : Below wr.heap.size wr w3 := ((Below.refl _ wr).alloc (Nat.le_refl _) _).trans (hb3.mono (by simp))
           replace hb3 := Hd hb3
           dsimp only []
           go_wp2_with fail
           refine (CEN.out _ hB3).mono ?_
           rintro en w4 ⟨rfl, hm4, hg4⟩
           rw [decide_eq_false (not_not_intro hq)]
           have HN := Hd (((HI.out.move hB3).old hq hm4 hg4).weaken hDj.out (show S + kidsz (yg.list.take j) ≤ S + kidsz (yg.list.take (j + 1)) by have := hkz.out; omega))
           replace hm4 := Hd hm4
           replace hg4 := Hd hg4
           replace hB3 := Hd hB3
           dsimp only []
           go_wp2_with fail
           go_roundw
           case rel => exact ⟨j + 1, L2, A2, c2, by omega, by go_num, rfl, HN⟩
           case measure => simp [intOf]; omega
         · go_wp2_with fail
           refine (CPL.out _).mono ?_
           rintro en w3 ⟨rfl, hb3⟩
           have hB3 : Below wr.heap.size wr w3 := ((Below.refl _ wr).alloc (Nat.le_refl _) _).trans (hb3.mono (by simp))
           have hX3 : w3.heap[wr.heap.size]? = some (.cells #[.int .i64 r.c, .bool r.m, .int .i64 r.n, .slice Ab r.b.length cb, .slice (some ⟨b, o, none⟩) Kn ck] 43 (0, 0)) := by
            rw [hb3.block _ (by simp)]
            exact heap_alloc_new wr _
           have hs3 := hB3.size
           have hs3' := hb3.size
           replace hb3 := Hd hb3
           dsimp only []
           go_wp2_with fail
           refine (CEN.out _ hB3).mono ?_
           rintro en w4 ⟨rfl, hm4, hg4⟩
           rw [decide_eq_true hq]
           have hmap3 := (HI.out.move hB3).map.map
           have hX4 : w4.heap[wr.heap.size]? = some (.cells #[.int .i64 r.c, .bool r.m, .int .i64 r.n, .slice Ab r.b.length cb, .slice (some ⟨b, o, none⟩) Kn ck] 43 (0, 0)) := by
            rw [grown_cl hg4 hmap3 ⟨_, _, hX3⟩]
            exact hX3
           have hs4 := hg4.size
           obtain ⟨cs, hown3, hrow3⟩ := (HI.out.move hB3).own
           have hV : ∀ b, (Value.slice A2 (keys L2).length c2).ownBlock = some b → w.heap.size ≤ b := fun b hb => by
            obtain ⟨_, h0 | ⟨g, cap, cur, hv, hbs, _⟩⟩ := hown3
            · rw [h0.1] at hb
              cases hb
            · rw [hv] at hb
              injection hb with hb
              have hb' : g = b := hb
              omega
           have hown4 : w4.ownsRow w.heap.size 41 1 (.slice A2 (keys L2).length c2) (keys L2).length cs := by
            obtain ⟨h1, h0 | ⟨g, cap, cur, hv, hbs, hg, hn, hm, hs, hx⟩⟩ := hown3
            · exact ⟨h1, .inl h0⟩
            · exact ⟨h1, .inr ⟨g, cap, cur, hv, hbs, (grown_cl hg4 hmap3 ⟨_, _, hg⟩).trans hg, hn, hm, hs, hx⟩⟩
           have hklen : (keys L2).length ≤ 1000000 := by
            have h1 := szL_len w L2 HI.out.lst
            have h2 := HI.out.sz
            have h3 := kidsz_mono yg.list j
            unfold keys
            rw [List.length_map]
            omega
           have hb4 := heap_alloc_new w4 (.cells #[.slice (some ⟨b, o, none⟩) Kn ck] 41)
           have FR : Hid (∀ (w6 : World) (g cap : Nat), w6.ownsRow w.heap.size 41 1 (.slice (some ⟨g, 0, none⟩) ((keys L2).length + 1) cap) ((keys L2).length + 1) (cs ++ [.slice (some ⟨b, o, none⟩) Kn ck]) → (w4.alloc (.cells #[.slice (some ⟨b, o, none⟩) Kn ck] 41)).grownBy w6 (Value.slice A2 (keys L2).length c2).ownBlock →
            BRel w w6 mb M L (L2 ++ [((b, o, Kn), r.k)]) (.slice (some ⟨g, 0, none⟩) ((keys L2).length + 1) cap) (fun q => D q ∨ ∃ j', j' < j + 1 ∧ Kid w (yb, yo, yn) j' q) (S + kidsz (yg.list.take (j + 1)))) := Hd fun w6 g cap h1 h2 =>
            ((HI.out.move hB3).fresh hMc.out hmap0.out hq hm4 hg4 hlst.out hyL.out hmem rfl hkle hk9 hrow3 h1 h2 hV).weaken hDj.out (by have := hkz.out; omega)
           replace hX3 := Hd hX3
           replace hm4 := Hd hm4
           replace hg4 := Hd hg4
           replace hB3 := Hd hB3
           replace hmap3 := Hd hmap3
           replace hown3 := Hd hown3
           replace hown4 := Hd hown4
           replace hrow3 := Hd hrow3
           replace hV := Hd hV
           obtain ⟨x0, x1, x2, x3, x4, _⟩ := cells5 hX4
           replace hX4 := Hd hX4
           have hn4 := World.news_of_block (cs := #[.slice (some ⟨b, o, none⟩) Kn ck]) (fr := (0, 0)) hb4
           replace hb4 := Hd hb4
           replace hn4 := Hd hn4
           dsimp only []
           go_wp2_with (at_builtin; refine wpList_append_lies _ rfl (.tmp 33) (.tmp 36) 139 rfl w.heap.size 41 i0 _ 1 24 Tryz.underlying139 hi hz0 hz1 hz2 rfl (by decide) (.slice A2 (keys L2).length c2) (keys L2).length cs rfl (World.ownsRow.alloc hown4.out _) ⟨w4.heap.size, 0, none⟩ 1 1 [.slice (some ⟨b, o, none⟩) Kn ck] rfl rfl hn4.out (by intro u hu; simp only [List.mem_singleton] at hu; subst hu; rfl) (by decide) (by simp only [maxLen]; omega) (by omega) (by simp; omega) (w4.heap.size + 1) (by simp) ?hgo)
           case hgo =>
            intro g cap w6 hown hg6 hat6 hgl
            have HN := Hd (FR.out w6 g cap hown hg6)
            replace hown := Hd hown
            replace hg6 := Hd hg6
            clear hat6
            have hkl2 : (keys (L2 ++ [((b, o, Kn), r.k)])).length = (keys L2).length + 1 := by unfold keys; simp
            go_wp2_with fail
            go_roundw
            case rel => exact ⟨j + 1, L2 ++ [((b, o, Kn), r.k)], some ⟨g, 0, none⟩, cap, by omega, by go_num, by rw [hkl2], by rw [hkl2]; exact HN⟩
            case measure => simp [intOf]; omega
     · have hjj : j = yn := by omega
       have HN : Hid (BRel w wr mb M L L2 (.slice A2 (keys L2).length c2) (fun q => ∃ y ∈ L.take (k + 1), ∃ j, j < y.2.list.length ∧ Kid w y.1 j q) (kidszL (L.take (k + 1)))) := Hd (HI.out.weaken (fun q hq => by
        obtain ⟨y, hy1, jj, hj1, hj2⟩ := hq
        rw [List.take_succ_eq_append_getElem hkL] at hy1
        rcases List.mem_append.1 hy1 with hy1 | hy1
        · refine .inl ?_
          rw [hD.out]
          exact ⟨y, hy1, jj, hj1, hj2⟩
        · simp only [List.mem_singleton] at hy1
          rw [← hy.out] at hy1
          subst hy1
          simp only [] at hj1 hj2
          exact .inr ⟨jj, by rw [hjj, ← hylen.out]; exact hj1, hj2⟩) (by
        have h1 := kidszL_take L k hkL
        rw [← hy.out] at h1
        simp only [] at h1
        have h2 := kidsz_mono yg.list j
        have h3 := hS.out
        omega))
       go_wp2_with fail
       go_roundw
       case rel => exact ⟨k + 1, L2, A2, c2, by omega, by go_num, rfl, HN⟩
       case measure => simp [intOf]; omega
  · have hkk : k = n := by omega
    have HN : Hid (BRel w wr mb M L L1 (.slice A (keys L1).length c) (fun q => ∃ y ∈ L, ∃ j, j < y.2.list.length ∧ Kid w y.1 j q) (kidszL L)) := by
     have := HR.out
     rw [List.take_of_length_le (by rw [hkk, hn.out]; exact Nat.le_refl _)] at this
     exact Hd this
    clear HR
    go_wp2_with fail
    go_ret
    exact ⟨L1, A, c, rfl, HN.out⟩
def ChkB (w : World) (p : Key) : Prop := ∀ j, j < p.2.2 → ∀ (r : El) (Ab : Option Addr) (cb : Nat) (Ak : Option Addr) (ck : Nat), ElAt w (Cb w) r p.1 (p.2.1 + j * 5) Ab cb Ak ck → r.one = true
def Clo (w : World) (M : List Key) (p : Key) : Prop := ∀ j, j < p.2.2 → ∀ q, Kid w p j q → q ∈ M
theorem at_one {w : World} {I J : Nat → Prop} {r e : El} {b o : Nat} {Ab Ab' : Option Addr} {cb cb' : Nat} {Ak Ak' : Option Addr} {ck ck' : Nat} (h : ElAt w I r b o Ab cb Ak ck) (h' : ElAt w J e b o Ab' cb' Ak' ck') : r.one = e.one := by
 have e1 := h.c.symm.trans h'.c
 have e2 := h.m.symm.trans h'.m
 have e3 := h.n.symm.trans h'.n
 have e4 := h.b.symm.trans h'.b
 have e5 := h.k.symm.trans h'.k
 simp only [Option.some.injEq, Value.int.injEq, Value.bool.injEq, Value.slice.injEq, true_and] at e1 e2 e3 e4 e5
 have k1 := one_right r
 have k2 := one_right e
 rw [e1, e2, e3, e4.2.1, e5.2.1] at k1
 rw [Bool.eq_iff_iff]
 exact k1.trans k2.symm
theorem chk_of {w : World} {p : Key} {g : Fo} (h : Lst w p g) (ha : g.list.all El.one = true) : ChkB w p := by
 intro j hj r Ab cb Ak ck hr
 have hjl : j < g.list.length := by rw [h.len]; exact hj
 obtain ⟨Ab', cb', Ak', ck', h1, _⟩ := h.elem j hjl
 rw [at_one hr h1]
 rw [List.all_eq_true] at ha
 exact ha _ (List.getElem_mem hjl)
theorem ElAt.back {w w' : World} {I J : Nat → Prop} {r : El} {b o : Nat} {Ab : Option Addr} {cb : Nat} {Ak : Option Addr} {ck : Nat} (h : ElAt w' I r b o Ab cb Ak ck) (hb : w'.heap[b]? = w.heap[b]?) : ElAt w J r b o Ab cb Ak ck := by
 have k : ∀ o, w.cell? ⟨b, o, none⟩ = w'.cell? ⟨b, o, none⟩ := fun o => World.cell?_of_block hb.symm
 exact ⟨(k _).trans h.c, (k _).trans h.m, (k _).trans h.n, (k _).trans h.b, (k _).trans h.k⟩
theorem Kid.back {w w' : World} {p q : Key} {j : Nat} (h : Kid w' p j q) (hb : w'.heap[p.1]? = w.heap[p.1]?) : Kid w p j q := by
 obtain ⟨ck, h1, h2⟩ := h
 exact ⟨ck, (World.cell?_of_block hb.symm).trans h1, h2⟩
theorem ChkB.move {w w' : World} {p : Key} (h : ChkB w p) (hb : w'.heap[p.1]? = w.heap[p.1]?) : ChkB w' p := fun j hj r Ab cb Ak ck hr => h j hj r Ab cb Ak ck (hr.back hb)
theorem Clo.move {w w' : World} {M : List Key} {p : Key} (h : Clo w M p) (hb : w'.heap[p.1]? = w.heap[p.1]?) : Clo w' M p := fun j hj q hq => h j hj q (hq.back hb)
theorem Clo.more {w : World} {M : List Key} {p : Key} (h : Clo w M p) (N : List Key) : Clo w (M ++ N) p := fun j hj q hq => List.mem_append_left _ (h j hj q hq)
theorem all_right {w : World} {S : List Key} (h : ∀ p ∈ S, ChkB w p ∧ Clo w S p) : ∀ (n : Nat) (g : Fo) (p : Key), g.size ≤ n → p ∈ S → Lst w p g → g.right = true := by
 intro n
 induction n with
 | zero =>
   intro g p hs hp hl
   have h1 := kidsz_le g
   have h2 := hl.len
   have h3 := hl.pos
   omega
 | succ n ih =>
   intro g p hs hp hl
   obtain ⟨hc, ho⟩ := h p hp
   rw [Fo.right_list, List.all_eq_true]
   intro e he
   obtain ⟨j, hj, rfl⟩ := List.getElem_of_mem he
   obtain ⟨Ab, cb, Ak, ck, h1, h2⟩ := hl.elem j hj
   have hjp : j < p.2.2 := by rw [← hl.len]; exact hj
   have h3 := hc j hjp _ _ _ _ _ h1
   rw [El.right, h3, Bool.true_and]
   by_cases hk : g.list[j].kids.length = 0
   · have : g.list[j].kids = [] := List.eq_nil_of_length_eq_zero hk
     rw [Fo.right_list, show g.list[j].k.list = [] from this]
     rfl
   · obtain ⟨b, o, _, h5, h6⟩ := kid_of h1 h2 (by omega)
     refine ih _ _ ?_ (ho j hjp _ h5) h6
     have h7 := kidsz_le g
     have h8 := kidsz_take g.list j hj
     have h9 := kidsz_mono g.list (j + 1)
     omega
structure WInv (e : El) (root : Key) (wr : World) (M : List Key) (L : PL) : Prop where
 lst : ∀ x ∈ L, Lst wr x.1 x.2
 cl : ∀ p ∈ root :: M, Cl wr p.1
 done : ∀ p ∈ root :: M, p ∈ keys L ∨ (ChkB wr p ∧ Clo wr M p)
 rt : e.right = true → ∀ x ∈ L, x.2.right = true
 top : Lst wr root (Fo.of [e])
theorem WInv.move {e : El} {root : Key} {wr w' : World} {M : List Key} {L : PL} (h : WInv e root wr M L) (hb : ∀ b, Cb wr b → w'.heap[b]? = wr.heap[b]?) : WInv e root w' M L :=
 ⟨fun x hx => (h.lst x hx).keep hb, fun p hp => (h.cl p hp).of (hb _ (h.cl p hp).cb), fun p hp => (h.done p hp).imp id fun ⟨a, b⟩ => ⟨a.move (hb _ (h.cl p hp).cb), b.move (hb _ (h.cl p hp).cb)⟩, h.rt, h.top.keep hb⟩
theorem WInv.last {e : El} {root : Key} {wr : World} {M : List Key} (h : WInv e root wr M []) : e.right = true := by
 have hS : ∀ p ∈ root :: M, ChkB wr p ∧ Clo wr (root :: M) p := fun p hp => by
  rcases h.done p hp with h1 | ⟨h1, h2⟩
  · simp [keys] at h1
  · exact ⟨h1, fun j hj q hq => List.mem_cons_of_mem _ (h2 j hj q hq)⟩
 have := all_right hS _ _ root (Nat.le_refl _) (List.mem_cons_self ..) h.top
 rw [Fo.right_list, Fo.list_of] at this
 simpa using this
theorem WInv.next {e : El} {root : Key} {wr w' : World} {M : List Key} {L L1 : PL} {mb : Nat} {V : Value} {S : Nat} (h : WInv e root wr M L) (hall : ∀ x ∈ L, x.2.list.all El.one = true) (hm : ∃ es c, wr.heap[mb]? = some (.map es c))
 (hB : BRel wr w' mb M L L1 V (fun q => ∃ y ∈ L, ∃ j, j < y.2.list.length ∧ Kid wr y.1 j q) S) : WInv e root w' (M ++ keys L1) L1 := by
 have hb : ∀ b, Cb wr b → w'.heap[b]? = wr.heap[b]? := fun b hc => grown_cb hB.grown hm hc
 have hM : ∀ p ∈ M, Cl wr p.1 := fun p hp => h.cl p (List.mem_cons_of_mem _ hp)
 have hc : ∀ p ∈ root :: (M ++ keys L1), Cl wr p.1 := by
  intro p hp
  rcases List.mem_cons.1 hp with rfl | hp
  · exact h.cl _ (List.mem_cons_self ..)
  · exact hB.clean hM p hp
 refine ⟨fun x hx => (hB.lst x hx).keep hb, fun p hp => (hc p hp).of (hb _ (hc p hp).cb), fun p hp => ?_, fun hr x hx => ?_, h.top.keep hb⟩
 · by_cases hin : p ∈ keys L1
   · exact .inl hin
   · have hp0 : p ∈ root :: M := by
      rcases List.mem_cons.1 hp with rfl | hp
      · exact List.mem_cons_self ..
      · rcases List.mem_append.1 hp with hp | hp
        · exact List.mem_cons_of_mem _ hp
        · exact absurd hp hin
     refine .inr ?_
     have hbp := hb _ (h.cl p hp0).cb
     rcases h.done p hp0 with h1 | ⟨h1, h2⟩
     · unfold keys at h1
       obtain ⟨x, hx, rfl⟩ := List.mem_map.1 h1
       refine ⟨(chk_of (h.lst x hx) (hall x hx)).move hbp, fun j hj q hq => ?_⟩
       exact hB.closed q ⟨x, hx, j, by rw [(h.lst x hx).len]; exact hj, hq.back hbp⟩
     · exact ⟨h1.move hbp, (h2.more _).move hbp⟩
 · obtain ⟨y, hy, e', he', hk⟩ := hB.kid x hx
   have := h.rt hr y hy
   rw [Fo.right_list, List.all_eq_true] at this
   have := this e' he'
   rw [El.right, Bool.and_eq_true] at this
   rw [hk]
   exact this.2
theorem right_ones {g : Fo} (h : g.right = true) : g.list.all El.one = true := by
 rw [Fo.right_list, List.all_eq_true] at h
 rw [List.all_eq_true]
 intro x hx
 have := h x hx
 rw [El.right, Bool.and_eq_true] at this
 exact this.1
theorem root_lst {w W : World} {e : El} {Ab : Option Addr} {cb : Nat} {Ak : Option Addr} {ck b : Nat} (hin : ElIn w (Cb w) e Ab cb Ak ck) (hb : Below w.heap.size w W) (hc : W.heap[b]? = some (.cells #[.int .i64 e.c, .bool e.m, .int .i64 e.n, .slice Ab e.b.length cb, .slice Ak e.kids.length ck] 43 (0, 0))) : Lst W (b, 0, 1) (Fo.of [e]) := by
 refine ⟨foAt_ofR [e] b 0 fun i hi => ?_, ⟨_, _, hc⟩, by rw [Fo.list_of]; rfl, Nat.one_pos⟩
 have hi0 : i = 0 := by simpa using hi
 subst hi0
 refine ⟨Ab, cb, Ak, ck, ⟨cell_of_row _ _ _ _ _ _ hc, cell_of_row _ _ _ _ _ _ hc, cell_of_row _ _ _ _ _ _ hc, cell_of_row _ _ _ _ _ _ hc, cell_of_row _ _ _ _ _ _ hc⟩, (hin.keep fun p hp => hb.cell hp.lt).more fun x hx => hx.below hb hx.lt⟩
set_option maxRecDepth 8000 in
set_option maxHeartbeats 1600000 in
theorem well_any (e : El) (B K : Nat) (w : World) (Ab : Option Addr) (cb : Nat) (Ak : Option Addr) (ck : Nat) (hin : ElIn w (Cb w) e Ab cb Ak ck) (hsz : e.size ≤ 1000000) (hB : B = e.b.length) (hK : K = e.kids.length) :
 Calls Tryz.prog 35 #[.agg #[.int .i64 e.c, .bool e.m, .int .i64 e.n, .slice Ab B cb, .slice Ak K ck]] w fun en w' => en = .returned (.bool e.right) ∧ Below w.heap.size w w' := by
 have hmm := @run_makeMap Tryz.prog
 obtain ⟨W0, hW0⟩ : ∃ W0, W0 = (((w.alloc (.cells #[.int .i64 e.c, .bool e.m, .int .i64 e.n, .slice Ab B cb, .slice Ak K ck] 43)).alloc (.map #[] 0)).alloc (.cells #[.int .i64 e.c, .bool e.m, .int .i64 e.n, .slice Ab B cb, .slice Ak K ck] 43)).alloc (.cells #[.slice (some ⟨w.heap.size + 2, 0, none⟩) 1 1] 41) := ⟨_, rfl⟩
 have hB0 : Below w.heap.size w W0 := by rw [hW0]; go_grown
 have hz0 : W0.heap.size = w.heap.size + 4 := by rw [hW0]; simp
 have hmap0 : W0.heap[w.heap.size + 1]? = some (.map #[] 0) := by
  rw [hW0, Below.heap_alloc _ _ _ (by simp), Below.heap_alloc _ _ _ (by simp)]
  exact (MapKept.heap_alloc (w.alloc (.cells #[.int .i64 e.c, .bool e.m, .int .i64 e.n, .slice Ab B cb, .slice Ak K ck] 43)) _).1 |> (by simpa using ·)
 have hroot : W0.heap[w.heap.size + 2]? = some (.cells #[.int .i64 e.c, .bool e.m, .int .i64 e.n, .slice Ab B cb, .slice Ak K ck] 43 (0, 0)) := by
  rw [hW0, Below.heap_alloc _ _ _ (by simp)]
  exact heap_alloc_new ((w.alloc _).alloc _) _ |> (by simpa using ·)
 have hlev : W0.heap[w.heap.size + 3]? = some (.cells #[.slice (some ⟨w.heap.size + 2, 0, none⟩) 1 1] 41 (0, 0)) := by
  rw [hW0]
  exact heap_alloc_new (((w.alloc _).alloc _).alloc _) _ |> (by simpa using ·)
 have hL0 : Lst W0 (w.heap.size + 2, 0, 1) (Fo.of [e]) := root_lst hin hB0 (by rw [← hB, ← hK]; exact hroot)
 have hI0 : Hid (WInv e (w.heap.size + 2, 0, 1) W0 [] [((w.heap.size + 2, 0, 1), Fo.of [e])]) := Hd ⟨(fun x hx => by simp only [List.mem_singleton] at hx; subst hx; exact hL0), (fun p hp => by simp only [List.mem_singleton] at hp; subst hp; exact hL0.cl), (fun p hp => .inl (by simpa [keys] using hp)), (fun hr x hx => by
  simp only [List.mem_singleton] at hx
  subst hx
  rw [Fo.right_list, Fo.list_of]
  simpa using hr), hL0⟩
 have hM0 : Hid (MapK kv cl1 W0 (w.heap.size + 1) []) := Hd ⟨⟨#[], 0, hmap0, rfl⟩, fun p hp => by cases hp⟩
 have hO0 : Hid (OwnL W0 w.heap.size (.slice (some ⟨w.heap.size + 3, 0, none⟩) 1 1) (keys [((w.heap.size + 2, 0, 1), Fo.of [e])])) := Hd ⟨[.slice (some ⟨w.heap.size + 2, 0, none⟩) 1 1], ⟨rfl, .inr ⟨w.heap.size + 3, 1, _, rfl, by omega, hlev, Nat.le_refl _, by decide, rfl, rfl⟩⟩, rfl, fun i hi => by
  have hi0 : i = 0 := by simpa [keys] using hi
  subst hi0
  exact ⟨1, by simp [keys], by omega, rfl⟩⟩
 have hs0 : szL [((w.heap.size + 2, 0, 1), Fo.of [e])] ≤ 1000000 := by
  unfold szL
  rw [List.map_singleton, Fo.size_list, Fo.list_of]
  simp [sumL]
  exact hsz
 replace hroot := Hd hroot
 replace hlev := Hd hlev
 replace hmap0 := Hd hmap0
 replace hL0 := Hd hL0
 replace hin := Hd hin
 replace hB0 := Hd hB0
 replace hB := Hd hB
 replace hK := Hd hK
 replace hz0 := Hd hz0
 go_enter Tryz.func35, Tryz.ntmps35
 go_wp2_with fail
 rw [← hW0]
 replace hW0 := Hd hW0
 go_loopg [4] 1000000 (fun n v wr => ∃ (L : PL) (M : List Key) (A : Option Addr) (c : Nat), v = .slice A (keys L).length c ∧ szL L ≤ n ∧ n ≤ 1000000 ∧ Hid (WInv e (w.heap.size + 2, 0, 1) wr M L) ∧ Hid (MapK kv cl1 wr (w.heap.size + 1) M) ∧ Hid (OwnL wr w.heap.size (.slice A (keys L).length c) (keys L)) ∧ Hid (Below w.heap.size w wr))
 case atStart => exact ⟨[((w.heap.size + 2, 0, 1), Fo.of [e])], [], _, _, rfl, hs0, Nat.le_refl _, hI0, hM0, hO0, hB0⟩
 case round =>
  obtain ⟨L, M, A, c, rfl, hszL, hgk, HI, HM, HO, HB⟩ := hrel
  clear hI0 hM0 hO0
  have hlen : (keys L).length = L.length := by unfold keys; simp
  have hszw := HB.out.size
  by_cases h0 : (keys L).length = 0
  · have hL : L = [] := List.eq_nil_of_length_eq_zero (by omega)
    subst hL
    have hr := Hd HI.out.last
    have k0 : decide (0 < ((keys ([] : PL)).length : Int)) = false := by rfl
    replace hlen := Hd hlen
    go_wp2_with fail
    go_ret
    exact ⟨by rw [hr.out]; rfl, HB.out⟩
  · have k0 : decide (0 < ((keys L).length : Int)) = true := decide_eq_true (by omega)
    obtain ⟨A', c', hv, hrow⟩ := HO.out.form
    injection hv with hv1 hv2 hv3
    subst hv1 hv3
    clear hv2
    obtain ⟨g, rfl, hbg, hcg, hnc, hc9, hcells⟩ := hrow (by omega)
    clear hrow
    obtain ⟨N, hN⟩ : ∃ N, N = (keys L).length := ⟨_, rfl⟩
    rw [← hN] at hlen hnc k0 h0 HO ⊢
    have k0' : decide (0 < N) = true := decide_eq_true (by omega)
    have hI : Hid (∀ x ∈ L.take 0, x.2.list.all El.one = true) := Hd fun x hx => by simp at hx
    have hb00 := Hd (Below.refl wr.heap.size wr)
    have hmapw := HM.out.map
    replace hlen := Hd hlen
    replace hN := Hd hN
    replace hcells := Hd hcells
    replace hcg := Hd hcg
    replace hmapw := Hd hmapw
    go_wp2_with fail
    go_loopw [19] (fun i wr2 => ∃ k : Nat, k ≤ N ∧ i = .int .i64 (k : Int) ∧ Hid (∀ x ∈ L.take k, x.2.list.all El.one = true) ∧ Hid (Below wr.heap.size wr wr2)) (fun i _ => N - (intOf i).toNat)
    case atStart => exact ⟨0, Nat.zero_le _, rfl, hI, hb00⟩
    case round =>
     obtain ⟨k, hk, rfl, HA, HB2⟩ := hrel
     clear hI hb00
     by_cases hlt : k < N
     · have hkL : k < L.length := by rw [← hlen.out]; exact hlt
       obtain ⟨cap, hcap1, hcap2, hcell⟩ := hcells.out k (by rw [← hN.out]; exact hlt)
       obtain ⟨y, hy⟩ : ∃ y, y = L[k] := ⟨_, rfl⟩
       have hyk : (keys L)[k]'(by rw [← hN.out]; exact hlt) = y.1 := by rw [hy]; unfold keys; simp
       rw [hyk] at hcell hcap1
       have hyL : y ∈ L := by rw [hy]; exact List.getElem_mem hkL
       have hgc := (HB2.out.cell (p := ⟨g, k, none⟩) hcg.out.lt).trans hcell
       have hl2 : Lst wr y.1 y.2 := ((HI.out.move fun b hc => HB2.out.block b hc.lt).lst y hyL)
       obtain ⟨⟨yb, yo, yn⟩, yg⟩ := y
       simp only [] at hgc hcap1 hl2
       have hylen := hl2.len
       simp only [] at hylen
       have CC := containsEl_any yg.list yn yb yo cap (Cb wr) wr hylen hcap1 hcap2 hl2.cl.lt (fun i hi => by
        obtain ⟨Ab, cb, Ak, ck, h1, _⟩ := hl2.elem i hi
        exact ⟨Ab, cb, Ak, ck, h1⟩)
       have hrt : e.right = true → yg.list.all El.one = true := fun hr => right_ones (HI.out.rt hr _ hyL)
       have i0 : (0 : Int) ≤ (k : Int) := by omega
       have i1 : (k : Int) < (N : Int) := by omega
       obtain ⟨v, hv⟩ : ∃ v, v = yg.list.all El.one := ⟨_, rfl⟩
       rw [← hv] at CC hrt
       have hnx : v = true → ∀ x ∈ L.take (k + 1), x.2.list.all El.one = true := fun h x hx => by
        rw [List.take_succ_eq_append_getElem hkL] at hx
        rcases List.mem_append.1 hx with hx | hx
        · exact HA.out x hx
        · simp only [List.mem_singleton] at hx
          rw [hx, ← hy]
          exact hv.symm.trans h
       have hsz2 := HB2.out.size
       replace CC := Hd CC
       replace hl2 := Hd hl2
       replace hnx := Hd hnx
       replace hrt := Hd hrt
       replace hy := Hd hy
       replace hv := Hd hv
       replace hylen := Hd hylen
       replace hyL := Hd hyL
       clear hcell hyk
       cases v
       · have hr : Hid (e.right = false) := by
          refine Hd ?_
          rw [Bool.eq_false_iff]
          intro h
          have := hrt.out h
          cases this
         go_wp2_with fail
         refine CC.out.mono ?_
         rintro en w3 ⟨rfl, hb3⟩
         have HB3 := Hd (HB.out.trans ((HB2.out.trans (hb3.mono hsz2)).mono hszw))
         replace hb3 := Hd hb3
         clear CC
         dsimp only []
         go_wp2_with fail
         go_ret
         exact ⟨by rw [hr.out]; rfl, HB3.out⟩
       · have HA2 := Hd (hnx.out rfl)
         go_wp2_with fail
         refine CC.out.mono ?_
         rintro en w3 ⟨rfl, hb3⟩
         have HB3 := Hd (HB2.out.trans (hb3.mono hsz2))
         replace hb3 := Hd hb3
         clear CC
         dsimp only []
         go_wp2_with fail
         go_roundw
         case rel => exact ⟨k + 1, by omega, by go_num, HA2, HB3⟩
         case measure => simp [intOf]; omega
     · have hkk : k = N := by omega
       have HAll : ∀ x ∈ L, x.2.list.all El.one = true := by
        have := HA.out
        rw [List.take_of_length_le (by rw [hkk, hlen.out]; exact Nat.le_refl _)] at this
        exact this
       have hmv : ∀ b, Cl ‹World› b → True := fun _ _ => trivial
       clear hmv
       have HI2 := HI.out.move fun b hc => HB2.out.block b hc.lt
       have CB := below_any M L (w.heap.size + 1) w.heap.size c N (some ⟨g, 0, none⟩) wr (HO.out.keep fun b hc => HB2.out.block b hc.lt) hlen.out (HM.out.below HB2.out) HI2.lst (by omega)
       have hNX : ∀ (w3 : World) (L1 : PL) (V : Value), BRel wr w3 (w.heap.size + 1) M L L1 V (fun q => ∃ y ∈ L, ∃ j, j < y.2.list.length ∧ Kid wr y.1 j q) (kidszL L) → WInv e (w.heap.size + 2, 0, 1) w3 (M ++ keys L1) L1 := fun w3 L1 V hB => HI2.next HAll (HM.out.below HB2.out).map hB
       have hkl := kidszL_le wr L HI2.lst
       have hNL : N = L.length := hlen.out
       have hBw : Below w.heap.size w wr := HB.out.trans (HB2.out.mono hszw)
       have hszw2 := hBw.size
       replace CB := Hd CB
       replace hNX := Hd hNX
       replace HI2 := Hd HI2
       replace HAll := Hd HAll
       replace hNL := Hd hNL
       replace hBw := Hd hBw
       replace hkl := Hd hkl
       go_wp2_with fail
       refine CB.out.mono ?_
       rintro en w3 ⟨L1, A3, c3, rfl, hB⟩
       have h1 := Hd (hNX.out w3 L1 _ hB)
       have h2 := Hd hB.map
       have h3 := Hd (hB.own.base_le hszw2)
       have h4 : Hid (Below w.heap.size w w3) := Hd (hBw.out.trans ((Below.refl w.heap.size wr).grown hB.grown hszw2 fun b hb => by injection hb with hb; omega))
       have h5 := hB.sz
       have h6 : szL L1 < gk := by have := hkl.out; have := hNL.out; omega
       replace hB := Hd hB
       clear CB
       dsimp only []
       go_wp2_with fail
       go_roundg (szL L1)
       case measure => exact h6
       case rel => exact ⟨L1, M ++ keys L1, A3, c3, rfl, Nat.le_refl _, by omega, h1, h2, h3, h4⟩
end Go.Proofs.YtcbiedonmibfaaaGreatDoor
