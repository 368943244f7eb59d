/-
  The program's placeOf and enter.
-/
import Derived.Test.YtgdoepkoakpnbaaMapK
import Derived.Maps.OwnOps
import Derived.Maps.OwnSet
namespace Go.Proofs.Ytgdoepkoakpnbaa
open Go.RowKit Go.ChangeMaps Go.MapKept

set_option maxHeartbeats 400000 in
theorem placeOf_any (b o n c : Nat) (w : World) (hn : 0 < n) :
    Calls Try.prog 28 #[.slice (some ⟨b, o, none⟩) n c] w fun e w' => e = .returned (kv (b, o, n)) ∧ Below w.heap.size w w' := by
  have h0 : (0 : Int) < (n : Int) := by omega
  go_enter Try.func28, Try.ntmps28
  go_wp2_with fail
  go_returns
  exact ⟨rfl, by go_grown⟩

theorem addK_len {K : Type} [DecidableEq K] (M : List K) (p : K) : decide (M.length < (addK M p).length) = decide (p ∉ M) := by
  unfold addK
  by_cases h : p ∈ M
  · rw [if_pos h]
    simp [h]
  · rw [if_neg h, List.length_append]
    simp [h]
/-- 'm[k] = v' at the operation. -/
theorem wpList_update_K {K : Type} [DecidableEq K] {kt : TypeId} {f : K → Value} {cl : World → K → Prop} (T : KeyT kt f cl) (w : World) {ops : Array Oper} {rest : List Oper} {o : Oper} {a : Act} {Q : Exit → Act → World → Prop}
    (hg : o.guard = none) (m x v : Operand) (t : TypeId) (hop : o.op = Op.mapUpdate t m x v) (et : TypeId) (ht : Try.prog.underlying t = some (.map kt et)) (b : Nat) (M : List K) (hm : a.eval m = .map (some b)) (hown : MapK f cl w b M)
    (hcl : ∀ w', w.grownBy w' (some b) → ∀ q, cl w q → cl w' q) (p : K) (hp : cl w p) (hx : a.eval x = f p)
    (hK : ∀ w', MapK f cl w' b (addK M p) → w.grownBy w' (some b) → wpList Try.prog ops Q rest (a.put o.dst undef) w') : wpList Try.prog ops Q (o :: rest) a w := by
  refine wpList_plain hg fun K' hK' => ?_
  obtain ⟨w', hrun, r1, r2⟩ := hown.update T hcl ht p hp (a.eval v)
  unfold Oper.wp
  simp [execOp, hop, hm, hx, hrun, Result.andThen]
  exact hK' _ _ (hK w' r1 r2)
/-- 'len(m)' at the operation. -/
theorem wpList_len_K {K : Type} [DecidableEq K] {kt : TypeId} {f : K → Value} {cl : World → K → Prop} (w : World) {ops : Array Oper} {rest : List Oper} {o : Oper} {a : Act} {Q : Exit → Act → World → Prop}
    (hg : o.guard = none) (m : Operand) (t : TypeId) (hop : o.op = Op.call { callee := Callee.builtin Builtin.len, args := #[m], argTypes := #[t] }) (et : TypeId) (ht : Try.prog.underlying t = some (.map kt et)) (b : Nat) (M : List K) (hm : a.eval m = .map (some b)) (hown : MapK f cl w b M)
    (hK : wpList Try.prog ops Q rest (a.put o.dst (.int .i64 (M.length : Int))) w) : wpList Try.prog ops Q (o :: rest) a w := by
  refine wpList_plain hg fun K' hK' => ?_
  unfold Oper.wp
  simp [execOp, hop, resolve, invoke, builtin, hm, hown.len ht o.type, Result.andThen]
  exact hK' _ _ hK

set_option maxHeartbeats 800000 in
theorem enter_any (p : Key) (mb : Nat) (M : List (Key)) (w : World) (hM : MapK kv cl1 w mb M) (hcl : cl1 w p) :
    Calls Try.prog 53 #[.map (some mb), kv p] w fun e w' => e = .returned (.bool (decide (p ∉ M))) ∧ MapK kv cl1 w' mb (addK M p) ∧ w.grownBy w' (some mb) := by
  have hmk : ∃ es c, w.heap[mb]? = some (.map es c) := by
    obtain ⟨⟨es, c, h, _⟩, _⟩ := hM
    exact ⟨es, c, h⟩
  have kcl : ∀ (W : World), Below w.heap.size w W → (∃ es c, W.heap[mb]? = some (.map es c)) → ∀ w', W.grownBy w' (some mb) → ∀ q, cl1 W q → cl1 w' q := by
    intro W _ hm w' hg q hq
    exact Cl.grown (show Cl W q.1 from hq) hg hm
  have hM1 : ∀ ob : Obj, MapK kv cl1 (w.alloc ob) mb M := fun ob => hM.keep (Below.heap_alloc _ _ _ hM.lt) (fun q hq => Cl.alloc (show Cl w _ from hq) _)
  have hc1 : ∀ ob : Obj, cl1 (w.alloc ob) p := fun ob => (fun hq => Cl.alloc (show Cl w _ from hq) _) hcl
  have hlen := addK_len M p
  replace hM := Lib.hid hM
  replace hM1 := Lib.hid hM1
  replace hlen := Lib.hid hlen
  replace kcl := Lib.hid kcl
  replace hmk := Lib.hid hmk
  replace hc1 := Lib.hid hc1
  have hval : kv p = .agg #[.pointer (some ⟨p.1, p.2.1, none⟩), .int .i64 (p.2.2 : Int)] := rfl
  rw [hval]
  go_enter Try.func53, Try.ntmps53
  go_wp2_with (first
    | (at_mapUpdate; refine wpList_update_K keyT1 _ rfl _ _ _ 82 rfl 90 Try.underlying82 mb M rfl (hM1.out _) (kcl.out _ ((Below.refl _ _).alloc (Nat.le_refl _) _) (by obtain ⟨es, c, h⟩ := hmk.out; exact ⟨es, c, (Below.heap_alloc _ _ _ hM.out.lt).trans h⟩)) p (hc1.out _) rfl ?_; intro w1 hown1 hgrow1)
    | (at_len; refine wpList_len_K _ rfl _ 82 rfl 90 Try.underlying82 mb _ rfl (by first | exact hM1.out _ | assumption) ?_))
  have HG := (World.grownBy_alloc w _ _).trans hgrow1
  replace HG := Lib.hid HG
  replace hown1 := Lib.hid hown1
  go_ret
  exact ⟨congrArg (fun b : Bool => Ending.returned (.bool b)) (hlen.out.trans (decide_eq_decide.2 Iff.rfl)), hown1.out, HG.out⟩

set_option maxHeartbeats 800000 in
theorem enter2_any (p : Key × Key) (mb : Nat) (M : List (Key × Key)) (w : World) (hM : MapK kv2 cl2 w mb M) (hcl : cl2 w p) :
    Calls Try.prog 27 #[.map (some mb), kv2 p] w fun e w' => e = .returned (.bool (decide (p ∉ M))) ∧ MapK kv2 cl2 w' mb (addK M p) ∧ w.grownBy w' (some mb) := by
  have hmk : ∃ es c, w.heap[mb]? = some (.map es c) := by
    obtain ⟨⟨es, c, h, _⟩, _⟩ := hM
    exact ⟨es, c, h⟩
  have kcl : ∀ (W : World), Below w.heap.size w W → (∃ es c, W.heap[mb]? = some (.map es c)) → ∀ w', W.grownBy w' (some mb) → ∀ q, cl2 W q → cl2 w' q := by
    intro W _ hm w' hg q hq
    exact ⟨Cl.grown hq.1 hg hm, Cl.grown hq.2 hg hm⟩
  have hM1 : ∀ ob : Obj, MapK kv2 cl2 (w.alloc ob) mb M := fun ob => hM.keep (Below.heap_alloc _ _ _ hM.lt) (fun q hq => ⟨Cl.alloc hq.1 _, Cl.alloc hq.2 _⟩)
  have hc1 : ∀ ob : Obj, cl2 (w.alloc ob) p := fun ob => (fun hq => ⟨Cl.alloc hq.1 _, Cl.alloc hq.2 _⟩) hcl
  have hlen := addK_len M p
  replace hM := Lib.hid hM
  replace hM1 := Lib.hid hM1
  replace hlen := Lib.hid hlen
  replace kcl := Lib.hid kcl
  replace hmk := Lib.hid hmk
  replace hc1 := Lib.hid hc1
  have hval : kv2 p = .agg #[.pointer (some ⟨p.1.1, p.1.2.1, none⟩), .int .i64 (p.1.2.2 : Int), .pointer (some ⟨p.2.1, p.2.2.1, none⟩), .int .i64 (p.2.2.2 : Int)] := rfl
  rw [hval]
  go_enter Try.func27, Try.ntmps27
  go_wp2_with (first
    | (at_mapUpdate; refine wpList_update_K keyT2 _ rfl _ _ _ 58 rfl 90 Try.underlying58 mb M rfl (hM1.out _) (kcl.out _ ((Below.refl _ _).alloc (Nat.le_refl _) _) (by obtain ⟨es, c, h⟩ := hmk.out; exact ⟨es, c, (Below.heap_alloc _ _ _ hM.out.lt).trans h⟩)) p (hc1.out _) rfl ?_; intro w1 hown1 hgrow1)
    | (at_len; refine wpList_len_K _ rfl _ 58 rfl 90 Try.underlying58 mb _ rfl (by first | exact hM1.out _ | assumption) ?_))
  have HG := (World.grownBy_alloc w _ _).trans hgrow1
  replace HG := Lib.hid HG
  replace hown1 := Lib.hid hown1
  go_ret
  exact ⟨congrArg (fun b : Bool => Ending.returned (.bool b)) (hlen.out.trans (decide_eq_decide.2 Iff.rfl)), hown1.out, HG.out⟩
end Go.Proofs.Ytgdoepkoakpnbaa
