/- Filters. -/
import Derived.Test.YtcbiedonmibfaaaGreatDoorF14A
import Derived.LaidEqlPtr
import Derived.Laws.StructEq
import Derived.Maps.Own
import Derived.Deep.Draws
import Derived.Maps.OwnOps
import Derived.Maps.OwnSet
namespace Go.Proofs.YtcbiedonmibfaaaGreatDoor
open Go.RowKit Go.ChangeMaps Go.MapKept
abbrev PlF := Nat × Nat
def OkA (w : World) (p : PlF) : Prop := (∃ cs T fr, w.heap[p.1]? = some (.cells cs T fr)) ∧ w.frozen? ⟨p.1, p.2, none⟩ = false
theorem OkA.of {w w' : World} {p : PlF} (h : OkA w p) (e : w'.heap[p.1]? = w.heap[p.1]?) : OkA w' p := by
 obtain ⟨⟨cs, T, fr, h1⟩, h2⟩ := h
 refine ⟨⟨cs, T, fr, e.trans h1⟩, ?_⟩
 unfold World.frozen? at h2 ⊢
 simp only at h2 ⊢
 rw [e]
 exact h2
theorem OkA.lt {w : World} {p : PlF} (h : OkA w p) : p.1 < w.heap.size := by
 obtain ⟨⟨cs, T, fr, h⟩, _⟩ := h
 exact (Array.getElem?_eq_some_iff.1 h).1
theorem sameAddr_drew (P : Program) (w : World) (p q : PlF) (h1 : OkA w p) (h2 : OkA w q) : ∃ r n, (sameAddr ⟨p.1, p.2, none⟩ ⟨q.1, q.2, none⟩).run P w = .ok r (w.drewN n) := by
 obtain ⟨b, o⟩ := p
 obtain ⟨c, u⟩ := q
 obtain ⟨⟨cs, T, fr, h1⟩, f1⟩ := h1
 obtain ⟨⟨cs2, T2, fr2, h2⟩, f2⟩ := h2
 dsimp only at h1 h2 f1 f2 ⊢
 by_cases hbc : b = c
 · refine ⟨(⟨b, o, none⟩ : Addr) == ⟨c, u, none⟩, 0, ?_⟩
   subst hbc
   simp [sameAddr]
   rfl
 · have hS : ∀ x cs T fr o, w.heap[x]? = some (.cells cs T fr) → w.frozen? ⟨x, o, none⟩ = false → (stringish ⟨x, o, none⟩).run P w = .ok (w.frozen? ⟨x, cs.size, none⟩) w := by
    intro x cs T fr o h hf
    simp [stringish, hf, World.shape?, h]
   have hM : ∃ m, (mayBeOne ⟨b, o, none⟩ ⟨c, u, none⟩).run P w = .ok m w := by
    simp [mayBeOne, hS b cs T fr o h1 f1, hS c cs2 T2 fr2 u h2 f2, World.shape?, h1, h2]
    repeat' split
    all_goals exact ⟨_, rfl⟩
   obtain ⟨m, hM⟩ := hM
   have hv : ∀ x cs T fr o, w.heap[x]? = some (.cells cs T fr) → (noView ⟨x, o, none⟩).run P w = .ok () w := by
    intro x cs T fr o h
    simp [noView, viewAt, World.shape?, h]
   have hR : (sameAddr ⟨b, o, none⟩ ⟨c, u, none⟩).run P w = if m = true then (if (Question.extern "sameAddr.stringBytes" 2).forced = true then Result.ok false w else Result.ok ((Question.extern "sameAddr.stringBytes" 2).cut (w.tape w.drawn (Question.extern "sameAddr.stringBytes" 2)) == 1) w.drew) else Result.ok false w := by
    simp [sameAddr, hbc, f1, f2, hv b cs T fr o h1, hv c cs2 T2 fr2 u h2, hM]
    try (cases m <;> rfl)
   rw [hR]
   by_cases hm : m = true
   · rw [if_pos hm]
     by_cases hq : (Question.extern "sameAddr.stringBytes" 2).forced = true
     · rw [if_pos hq]
       exact ⟨false, 0, rfl⟩
     · rw [if_neg hq]
       exact ⟨_, 1, rfl⟩
   · rw [if_neg hm]
     exact ⟨false, 0, rfl⟩
def kvF (p : PlF × PlF) (n : Int) : Value := .agg #[.pointer (some ⟨p.1.1, p.1.2, none⟩), .pointer (some ⟨p.2.1, p.2.2, none⟩), .int .i64 n]
def AskT (P : Program) (kt : TypeId) : Prop := ∀ (w : World) (p q : PlF × PlF) (n m : Int), OkA w p.1 → OkA w p.2 → OkA w q.1 → OkA w q.2 → ∃ r k, (Op.equal kt (kvF p n) (kvF q m)).run P w = .ok r (w.drewN k)
def KeyF (w : World) (v : Value) : Prop := ∃ (p : PlF × PlF) (n : Int), v = kvF p n ∧ OkA w p.1 ∧ OkA w p.2
theorem OkA.drewN {w : World} {p : PlF} (h : OkA w p) (n : Nat) : OkA (w.drewN n) p := h.of rfl
theorem KeyF.of {w w' : World} {v : Value} (h : KeyF w v) (hk : ∀ (b : Nat) (cs : Array Value) (T : TypeId) (fr : Nat × Nat), w.heap[b]? = some (Obj.cells cs T fr) → w'.heap[b]? = w.heap[b]?) : KeyF w' v := by
 obtain ⟨p, n, h1, h2, h3⟩ := h
 refine ⟨p, n, h1, h2.of ?_, h3.of ?_⟩
 · obtain ⟨⟨cs, T, fr, h⟩, _⟩ := h2
   exact hk _ _ _ _ h
 · obtain ⟨⟨cs, T, fr, h⟩, _⟩ := h3
   exact hk _ _ _ _ h
theorem ask_any {P : Program} {kt : TypeId} (hT : AskT P kt) {v : Value} : ∀ (es : List MapEntry) (i : Nat) (w : World), KeyF w v → (∀ e ∈ es, KeyF w e.key) →
 ∃ r n, (Instr.findAsking kt v es i).run P w = .ok r (w.drewN n) ∧ ∀ j x, r = some (j, x) → i ≤ j ∧ ∃ e, es[j - i]? = some e ∧ e.val = x
 | [], i, w, _, _ => ⟨none, 0, by simp [Instr.findAsking]; rfl, fun _ _ h => by cases h⟩
 | e :: es, i, w, hv, h => by
   have hv0 := hv
   obtain ⟨p, n, rfl, a1, a2⟩ := hv
   have he := h e (by simp)
   obtain ⟨q, m, he, b1, b2⟩ := he
   obtain ⟨r, k, hr⟩ := hT w p q n m a1 a2 b1 b2
   cases r with
   | true =>
     refine ⟨some (i, e.val), k, by simp [Instr.findAsking, he, hr], fun j x hx => ?_⟩
     injection hx with hx
     injection hx with hx1 hx2
     subst hx1
     exact ⟨Nat.le_refl _, e, by simp, hx2⟩
   | false =>
     obtain ⟨r2, k2, h2, h3⟩ := ask_any hT es (i + 1) (w.drewN k) (KeyF.of hv0 fun _ _ _ _ _ => rfl) (fun x hx => KeyF.of (h x (by simp [hx])) fun _ _ _ _ _ => rfl)
     refine ⟨r2, k + k2, by simp [Instr.findAsking, he, hr, h2, Result.andThen], fun j x hx => ?_⟩
     obtain ⟨h4, h5⟩ := h3 j x hx
     refine ⟨by omega, ?_⟩
     obtain ⟨e2, h5, h6⟩ := h5
     refine ⟨e2, ?_, h6⟩
     rw [show j - i = (j - (i + 1)) + 1 by omega]
     simpa using h5
def MapF (Q : Value → Prop) (w : World) (b : Nat) : Prop := ∃ es clock, w.heap[b]? = some (.map es clock) ∧ ∀ e ∈ es.toList, Q e.key ∧ e.val = .agg #[]
theorem findF_any {P : Program} {kt : TypeId} (hT : AskT P kt) {fs : Array Field} (hu : P.underlying kt = some (.struct fs)) {v : Value} (es : List MapEntry) (w : World) (hv : KeyF w v) (h : ∀ e ∈ es, KeyF w e.key) :
 ∃ r n, (Instr.findKey kt v es).run P w = .ok r (w.drewN n) ∧ ∀ j x, r = some (j, x) → ∃ e, es[j]? = some e ∧ e.val = x := by
 rcases es with _ | ⟨e, es⟩
 · exact ⟨none, 0, by simp [Instr.findKey, Instr.findNow, run_underlying hu]; rfl, fun _ _ h => by cases h⟩
 · have hn : Instr.findNow (.struct fs) v (e :: es) 0 = none := by simp [Instr.findNow, Instr.sameNow]
   obtain ⟨r, n, h1, h2⟩ := ask_any hT (e :: es) 0 w hv h
   refine ⟨r, n, by simp [Instr.findKey, run_underlying hu, Result.andThen, hn, h1], fun j x hx => ?_⟩
   obtain ⟨_, h3⟩ := h2 j x hx
   simpa using h3
theorem lookF_any {P : Program} {kt mt et : TypeId} (hT : AskT P kt) {fs : Array Field} (hu : P.underlying kt = some (.struct fs)) (hm : P.underlying mt = some (.map kt et)) (hz : ∀ w, (zeroValue et).run P w = .ok (.agg #[]) w) (hc : ∀ b p n w, (Instr.checkKey b 10000 kt (kvF p n)).run P w = .ok () w)
 {b : Nat} {p : PlF × PlF} {n : Int} {w : World} {Q : Value → Prop} (hQ : ∀ v, Q v → KeyF w v) (h : MapF Q w b) (h1 : OkA w p.1) (h2 : OkA w p.2) :
 ∃ r k, (Instr.lookup mt (.map (some b)) (kvF p n) true).run P w = .ok (.tuple #[.agg #[], .bool r]) (w.drewN k) := by
 obtain ⟨es, clock, hb, hk⟩ := h
 obtain ⟨r, k, hr, hj⟩ := findF_any hT hu es.toList w ⟨p, n, rfl, h1, h2⟩ (fun e he => hQ _ (hk e he).1)
 rcases r with _ | ⟨j, x⟩
 · exact ⟨false, k, by simp [Instr.lookup, run_underlying hm, MapKept.run_getObj_map hb, hc, hr, hz, Result.andThen]⟩
 · obtain ⟨e, he, rfl⟩ := hj j x rfl
   have hv := (hk e (List.mem_of_getElem? he)).2
   exact ⟨true, k, by simp [Instr.lookup, run_underlying hm, MapKept.run_getObj_map hb, hc, hr, hv, Result.andThen]⟩
theorem putF_any {P : Program} {kt mt et : TypeId} (hT : AskT P kt) {fs : Array Field} (hu : P.underlying kt = some (.struct fs)) (hm : P.underlying mt = some (.map kt et)) (hc : ∀ b p n w, (Instr.checkKey b 10000 kt (kvF p n)).run P w = .ok () w)
 {b : Nat} {p : PlF × PlF} {n : Int} {w : World} {Q : Value → Prop} (hQ : ∀ v, Q v → KeyF w v) (h : MapF Q w b) (hp : Q (kvF p n)) :
 ∃ w', (Instr.mapUpdate mt (.map (some b)) (kvF p n) (.agg #[])).run P w = .ok () w' ∧ MapF Q w' b ∧ w.grownBy w' (some b) := by
 obtain ⟨es, clock, hb, hk⟩ := h
 obtain ⟨r, k, hr, hj⟩ := findF_any hT hu es.toList w (hQ _ hp) (fun e he => hQ _ (hk e he).1)
 have hb2 : (w.drewN k).heap[b]? = some (.map es clock) := hb
 have done : ∀ (w1 : World) (es' : Array MapEntry) (c' : Nat), w1.heap[b]? = some (.map es clock) → w.os = w1.os → w.tape = w1.tape → w.output = w1.output → w.heap = w1.heap → (∀ e ∈ es'.toList, Q e.key ∧ e.val = .agg #[]) → MapF Q (setBlock w1 b (.map es' c')) b ∧ w.grownBy (setBlock w1 b (.map es' c')) (some b) := by
  intro w1 es' c' hb1 e1 e2 e3 e4 hes
  have hg : ∀ i, i ≠ b → (setBlock w1 b (.map es' c')).heap[i]? = w.heap[i]? := fun i hi => by rw [e4]; exact heap_setBlock_other hb1 _ hi
  refine ⟨⟨es', c', heap_setBlock_same hb1 _, hes⟩, ⟨e1.symm, e2.symm, e3.symm, by simp [setBlock, e4], fun i _ hi => hg i (fun e => hi (by rw [e]))⟩⟩
 rcases r with _ | ⟨j, x⟩
 · refine ⟨setBlock (w.drewN k) b (.map (es.push { key := kvF p n, val := .agg #[], born := clock }) (clock + 1)), ?_, done _ _ _ hb2 rfl rfl rfl rfl ?_⟩
   · simp [Instr.mapUpdate, run_underlying hm, MapKept.run_getObj_map hb, hc, hr, MapKept.run_setObj_map _ hb2, Result.andThen, setBlock]
   · intro e he
     simp at he
     rcases he with he | rfl
     · exact hk e (by simpa using he)
     · exact ⟨hp, rfl⟩
 · obtain ⟨e0, he0, _⟩ := hj j x rfl
   have he1 : es[j]? = some e0 := by simpa using he0
   have hmod : ∀ q : Value, Q q → ∀ e ∈ (es.modify j fun e => { e with key := q, val := .agg #[] }).toList, Q e.key ∧ e.val = .agg #[] := by
    intro q hq e he
    rw [Array.toList_modify] at he
    obtain ⟨i, hi, rfl⟩ := List.getElem_of_mem he
    rw [List.getElem_modify]
    split
    · exact ⟨hq, rfl⟩
    · exact hk _ (List.getElem_mem _)
   have hstay : ∃ (q : Value) (m : Nat), (Instr.keyThatStays e0.key (kvF p n)).run P (w.drewN k) = .ok q (w.drewN m) ∧ Q q := by
    unfold Instr.keyThatStays
    by_cases hs : Instr.sameBits 10000 e0.key (kvF p n) = true
    · exact ⟨kvF p n, k, by simp [hs], hp⟩
    · have hs' : Instr.sameBits 10000 e0.key (kvF p n) = false := by simpa using hs
      by_cases hf : (Question.extern "map.whichKeyStays" 2).forced = true
      · exact ⟨kvF p n, k, by simp [hs', hf], hp⟩
      · by_cases hq : (Question.extern "map.whichKeyStays" 2).cut (w.tape (w.drewN k).drawn (Question.extern "map.whichKeyStays" 2)) = 0
        · exact ⟨kvF p n, k + 1, by simp [hs', hf, hq] <;> rfl, hp⟩
        · exact ⟨e0.key, k + 1, by simp [hs', hf, hq] <;> rfl, (hk e0 (List.mem_of_getElem? he0)).1⟩
   obtain ⟨q, m, hq1, hq2⟩ := hstay
   have hb3 : (w.drewN m).heap[b]? = some (.map es clock) := hb
   refine ⟨setBlock (w.drewN m) b (.map (es.modify j fun e => { e with key := q, val := .agg #[] }) clock), ?_, done _ _ _ hb3 rfl rfl rfl rfl (hmod q hq2)⟩
   simp [Instr.mapUpdate, run_underlying hm, MapKept.run_getObj_map hb, hc, hr, he1, hq1, MapKept.run_setObj_map _ hb3, Result.andThen, setBlock]
theorem wpList_lookup_F {P : Program} (w : World) {ops : Array Oper} {rest : List Oper} {o : Oper} {a : Act} {Q : Exit → Act → World → Prop} (hg : o.guard = none) (m x : Operand) (t : TypeId) (hop : o.op = Op.lookup t m x true) {v : Value} {w' : World}
 (hrun : (Instr.lookup t (a.eval m) (a.eval x) true).run P w = .ok v w') (hK : wpList P ops Q rest (a.put o.dst v) w') : wpList P ops Q (o :: rest) a w := by
 refine wpList_plain hg fun K' hK' => ?_
 unfold Oper.wp
 simp [execOp, hop, hrun, Result.andThen]
 exact hK' _ _ hK
theorem wpList_update_F {P : Program} (w : World) {ops : Array Oper} {rest : List Oper} {o : Oper} {a : Act} {Q : Exit → Act → World → Prop} (hg : o.guard = none) (m x y : Operand) (t : TypeId) (hop : o.op = Op.mapUpdate t m x y) {w' : World}
 (hrun : (Instr.mapUpdate t (a.eval m) (a.eval x) (a.eval y)).run P w = .ok () w') (hK : wpList P ops Q rest (a.put o.dst undef) w') : wpList P ops Q (o :: rest) a w := by
 refine wpList_plain hg fun K' hK' => ?_
 unfold Oper.wp
 simp [execOp, hop, hrun, Result.andThen]
 exact hK' _ _ hK
theorem eqlF (w : World) (d : Nat) (p q : PlF) (h1 : OkA w p) (h2 : OkA w q) : ∃ r k, (Op.equalIn (d + 1) 97 (.pointer (some ⟨p.1, p.2, none⟩)) (.pointer (some ⟨q.1, q.2, none⟩))).run Tryz.prog w = .ok r (w.drewN k) := by
 obtain ⟨i0, hi, hz0, hz1, hz2⟩ := info_parts info_ft
 have hs : i0.size ≠ 0 := by omega
 obtain ⟨r, k, h⟩ := sameAddr_drew Tryz.prog w p q h1 h2
 exact ⟨r, k, by simp [Op.equalIn, run_underlying Tryz.underlying97, sizeOf, typeInfo, hi, hs, h]⟩
theorem askF : AskT Tryz.prog 99 := by
 intro w p q n m h1 h2 h3 h4
 obtain ⟨⟨b, o⟩, ⟨c, r⟩⟩ := p
 obtain ⟨⟨b', o'⟩, ⟨c', r'⟩⟩ := q
 obtain ⟨r1, k1, e1⟩ := eqlF w 9998 (b, o) (b', o') h1 h3
 obtain ⟨r2, k2, e2⟩ := eqlF (w.drewN k1) 9998 (c, r) (c', r') (h2.drewN _) (h4.drewN _)
 have e1 : (Op.equalIn 9999 97 (.pointer (some ⟨b, o, none⟩)) (.pointer (some ⟨b', o', none⟩))).run Tryz.prog w = .ok r1 (w.drewN k1) := e1
 have e2 : (Op.equalIn 9999 97 (.pointer (some ⟨c, r, none⟩)) (.pointer (some ⟨c', r', none⟩))).run Tryz.prog (w.drewN k1) = .ok r2 ((w.drewN k1).drewN k2) := e2
 cases r1
 · refine ⟨false, k1, ?_⟩
   unfold kvF Op.equal Op.maxDepth
   simp [go_sem]
   rw [e1]
   simp [Result.andThen]
 · cases r2
   · refine ⟨false, k1 + k2, ?_⟩
     unfold kvF Op.equal Op.maxDepth
     simp [go_sem]
     rw [e1]
     simp [Result.andThen, e2]
   · refine ⟨decide (n = m), k1 + k2, ?_⟩
     unfold kvF Op.equal Op.maxDepth
     simp [go_sem]
     rw [e1]
     by_cases hn : n = m <;> simp [Result.andThen, e2, hn]
theorem lookP {W0 W : World} {b : Nat} {p : PlF × PlF} {n : Int} (hQ : ∀ v, KeyF W0 v → KeyF W v) (h : MapF (KeyF W0) W b) (h1 : OkA W p.1) (h2 : OkA W p.2) :
 ∃ r k, (Instr.lookup 89 (.map (some b)) (kvF p n) true).run Tryz.prog W = .ok (.tuple #[.agg #[], .bool r]) (W.drewN k) :=
 lookF_any askF Tryz.underlying99 Tryz.underlying89 (fun w => by kernel_rfl) (fun b p n w => by kernel_rfl) hQ h h1 h2
theorem putP {W0 W : World} {b : Nat} {p : PlF × PlF} {n : Int} (hQ : ∀ v, KeyF W0 v → KeyF W v) (h : MapF (KeyF W0) W b) (hp : KeyF W0 (kvF p n)) :
 ∃ w', (Instr.mapUpdate 89 (.map (some b)) (kvF p n) (.agg #[])).run Tryz.prog W = .ok () w' ∧ MapF (KeyF W0) w' b ∧ W.grownBy w' (some b) :=
 putF_any askF Tryz.underlying99 Tryz.underlying89 (fun b p n w => by kernel_rfl) hQ h hp
end Go.Proofs.YtcbiedonmibfaaaGreatDoor
