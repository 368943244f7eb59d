/-
  The program's tooDeep.
-/
import Derived.Test.YtgdoepkoakpnbaaWell
import Derived.Test.YtgdoepkoakpnbaaBerDeep
namespace Go.Proofs.Ytgdoepkoakpnbaa
open Go.RowKit Go.ChangeMaps Go.MapKept

theorem fo_nil : ∀ {f : Fo}, f.list.length = 0 → f = .nil
  | .nil, _ => rfl
  | .cons .., h => by simp [Fo.list] at h
/-- What lies at a place is one list. -/
theorem foAt_one {w : World} {I J : Nat → Prop} : ∀ (f g : Fo) (bl off : Nat), FoAt w I f bl off → FoAt w J g bl off → f.list.length = g.list.length → f = g
  | .nil, g, _, _, _, _, h => (fo_nil (by simpa [Fo.list] using h.symm)).symm
  | .cons .., .nil, _, _, _, _, h => by simp [Fo.list] at h
  | .cons c m n b k nx, .cons c' m' n' b' k' nx', bl, off, h, h', hl => by
    obtain ⟨h1, h2, h3, ⟨A, cp, h4, h5⟩, ⟨A2, cp2, h6, h7, h8, h9, h10⟩, hn⟩ := h
    obtain ⟨g1, g2, g3, ⟨B, dp, g4, g5⟩, ⟨B2, dp2, g6, g7, g8, g9, g10⟩, gn⟩ := h'
    rw [h1] at g1
    rw [h2] at g2
    rw [h3] at g3
    rw [h4] at g4
    rw [h6] at g6
    simp only [Option.some.injEq, Value.int.injEq, Value.bool.injEq, Value.slice.injEq, true_and] at g1 g2 g3 g4 g6
    obtain ⟨rfl, hb, rfl⟩ := g4
    obtain ⟨rfl, hk, rfl⟩ := g6
    subst g1 g2 g3
    have eb : b = b' := by
      rcases A with _ | ad
      · have h0 := h5.nil rfl
        have h01 := h5.le
        have h02 := g5.le
        rw [List.eq_nil_of_length_eq_zero (by omega : b.length = 0), List.eq_nil_of_length_eq_zero (by omega : b'.length = 0)]
      · refine List.ext_getElem hb fun i hi hi' => ?_
        have a1 := (h5.at_ ad rfl).2 i b[i] (by simp [hi])
        have a2 := (g5.at_ ad rfl).2 i b'[i] (by simp [hi'])
        rw [a1] at a2
        simp only [Option.some.injEq, Value.int.injEq, true_and] at a2
        omega
    subst eb
    have ek : k = k' := by
      by_cases h0 : k.list.length = 0
      · rw [fo_nil h0, fo_nil (by omega : k'.list.length = 0)]
      · rcases A2 with _ | ad
        · have := h9 rfl
          omega
        · exact foAt_one k k' ad.block ad.off (h10 ad rfl (by omega)).2.2 (g10 ad rfl (by omega)).2.2 hk
    subst ek
    have en : nx = nx' := foAt_one nx nx' bl (off + 5) hn gn (by simpa [Fo.list] using hl)
    subst en
    rfl
theorem Lst.one {w : World} {p : Key} {f g : Fo} (h : Lst w p f) (h' : Lst w p g) : f = g := foAt_one f g _ _ h.at_ h'.at_ (h.len.trans h'.len.symm)
theorem deep_pos {f : Fo} (h : 0 < f.list.length) : 1 ≤ f.deep := by
  rcases f with _ | _
  · simp [Fo.list] at h
  · rw [Fo.deep]
    omega

structure DInv (e : El) (wr : World) (i : Nat) (L : PL) : Prop where
  lst : ∀ x ∈ L, Lst wr x.1 x.2
  le : ∀ x ∈ L, x.2.deep + i ≤ e.deep
  ge : i < e.deep → ∃ x ∈ L, e.deep ≤ x.2.deep + i
theorem DInv.move {e : El} {wr w' : World} {i : Nat} {L : PL} (h : DInv e wr i L) (hb : ∀ b, Cl wr b → w'.heap[b]? = wr.heap[b]?) : DInv e w' i L := ⟨fun x hx => (h.lst x hx).keep hb, h.le, h.ge⟩
theorem DInv.next {e : El} {wr w' : World} {i mb : Nat} {L L1 : PL} {V : Value} {S : Nat} (h : DInv e wr i L) (hm : ∃ es c, wr.heap[mb]? = some (.map es c))
    (hB : BRel wr w' mb [] L L1 V (fun q => ∃ y ∈ L, ∃ j, j < y.2.list.length ∧ Kid wr y.1 j q) S) : DInv e w' (i + 1) L1 := by
  have hb : ∀ b, Cl wr b → w'.heap[b]? = wr.heap[b]? := fun b hc => grown_cl hB.grown hm hc
  refine ⟨fun x hx => (hB.lst x hx).keep hb, fun x hx => ?_, fun hi => ?_⟩
  · obtain ⟨y, hy, e', he', hk⟩ := hB.kid x hx
    have h1 := h.le y hy
    have h2 := maxL_mem y.2.list e' he'
    rw [← Fo.deep_list] at h2
    have h3 : e'.deep = x.2.deep + 1 := by rw [hk]; rfl
    omega
  · obtain ⟨x, hx, hd⟩ := h.ge (by omega)
    have h1 : e.deep - i - 1 < maxL (x.2.list.map El.deep) := by rw [← Fo.deep_list]; omega
    obtain ⟨r, hr, hrd⟩ := maxL_at _ _ h1
    obtain ⟨j, hj, rfl⟩ := List.getElem_of_mem hr
    obtain ⟨Ab, cb, Ak, ck, g1, g2⟩ := (h.lst x hx).elem j hj
    have h2 : x.2.list[j].deep = x.2.list[j].k.deep + 1 := rfl
    have h3 : 0 < x.2.list[j].kids.length := by
      rcases Nat.eq_zero_or_pos x.2.list[j].kids.length with h0 | h0
      · have : x.2.list[j].k = .nil := fo_nil h0
        rw [this] at h2
        have : Fo.nil.deep = 0 := rfl
        omega
      · exact h0
    obtain ⟨b, o, _, h5, h6⟩ := kid_of g1 g2 h3
    have h7 := hB.closed _ ⟨x, hx, j, hj, h5⟩
    rw [List.nil_append] at h7
    unfold keys at h7
    obtain ⟨z, hz, hzk⟩ := List.mem_map.1 h7
    have h8 := hB.lst z hz
    rw [hzk] at h8
    have h9 := h8.one h6
    exact ⟨z, hz, by rw [h9]; omega⟩

section
variable {K : Type} [DecidableEq K] {kt : TypeId} {f : K → Value} {cl : World → K → Prop}
omit [DecidableEq K] in
theorem MapK.clear {w : World} {b : Nat} {M : List K} (h : MapK f cl w b M) {mt et : TypeId} (hm : Try.prog.underlying mt = some (.map kt et)) (ty : TypeId) :
    ∃ w', (Builtin.clear_ #[mt] ty #[.map (some b)]).run Try.prog w = .ok (.tuple #[]) w' ∧ MapK f cl w' b [] ∧ w.grownBy w' (some b) := by
  obtain ⟨⟨es, clock, hb, hk⟩, hM⟩ := h
  refine ⟨setBlock w b (.map #[] clock), ?_, ⟨⟨_, _, heap_setBlock_same hb _, rfl⟩, fun p hp => by cases hp⟩, ⟨rfl, rfl, rfl, by simp [setBlock], fun i _ hi => heap_setBlock_other hb _ (fun e => hi (by rw [e]))⟩⟩
  simp [Builtin.clear_, run_underlying hm, MapKept.run_getObj_map hb, MapKept.run_setObj_map _ hb, Result.andThen, setBlock]
omit [DecidableEq K] in
/-- 'clear(m)' at the operation. -/
theorem wpList_clear_K (w : World) {ops : Array Oper} {rest : List Oper} {o : Oper} {a : Act} {Q : Exit → Act → World → Prop}
    (hg : o.guard = none) (m : Operand) (t : TypeId) (hop : o.op = Op.call { callee := Callee.builtin Builtin.clear, args := #[m], argTypes := #[t] }) (et : TypeId) (ht : Try.prog.underlying t = some (.map kt et)) (b : Nat) (M : List K) (hm : a.eval m = .map (some b)) (hown : MapK f cl w b M)
    (hK : ∀ w', MapK f cl w' b [] → w.grownBy w' (some b) → wpList Try.prog ops Q rest (a.put o.dst (.tuple #[])) w') : wpList Try.prog ops Q (o :: rest) a w := by
  refine wpList_plain hg fun K' hK' => ?_
  obtain ⟨w', hrun, r1, r2⟩ := hown.clear ht o.type
  unfold Oper.wp
  simp [execOp, hop, resolve, invoke, builtin, hm, hrun, Result.andThen]
  exact hK' _ _ (hK w' r1 r2)
end

set_option maxRecDepth 8000 in
set_option maxHeartbeats 1600000 in
theorem toodeep_any (e : El) (B K : Nat) (w : World) (Ab : Option Addr) (cb : Nat) (Ak : Option Addr) (ck : Nat) (hin : ElIn w (Cl w) e Ab cb Ak ck) (hsz : e.size ≤ 1000000) (hB : B = e.b.length) (hK : K = e.kids.length) :
    Calls Try.prog 21 #[.agg #[.int .i64 e.c, .bool e.m, .int .i64 e.n, .slice Ab B cb, .slice Ak K ck]] w fun en w' => en = .returned (.bool (decide (24 < e.deep))) ∧ Below w.heap.size w w' := by
  have hmm := @run_makeMap Try.prog
  obtain ⟨W0, hW0⟩ : ∃ W0, W0 = (((w.alloc (.cells #[.int .i64 e.c, .bool e.m, .int .i64 e.n, .slice Ab B cb, .slice Ak K ck] 27)).alloc (.map #[] 0)).alloc (.cells #[.int .i64 e.c, .bool e.m, .int .i64 e.n, .slice Ab B cb, .slice Ak K ck] 27)).alloc (.cells #[.slice (some ⟨w.heap.size + 2, 0, none⟩) 1 1] 25) := ⟨_, rfl⟩
  have hB0 : Below w.heap.size w W0 := by rw [hW0]; go_grown
  have hz0 : W0.heap.size = w.heap.size + 4 := by rw [hW0]; simp
  have hmap0 : W0.heap[w.heap.size + 1]? = some (.map #[] 0) := by
    rw [hW0, Below.heap_alloc _ _ _ (by simp), Below.heap_alloc _ _ _ (by simp)]
    exact (MapKept.heap_alloc (w.alloc (.cells #[.int .i64 e.c, .bool e.m, .int .i64 e.n, .slice Ab B cb, .slice Ak K ck] 27)) _).1 |> (by simpa using ·)
  have hroot : W0.heap[w.heap.size + 2]? = some (.cells #[.int .i64 e.c, .bool e.m, .int .i64 e.n, .slice Ab B cb, .slice Ak K ck] 27 (0, 0)) := by
    rw [hW0, Below.heap_alloc _ _ _ (by simp)]
    exact heap_alloc_new ((w.alloc _).alloc _) _ |> (by simpa using ·)
  have hlev : W0.heap[w.heap.size + 3]? = some (.cells #[.slice (some ⟨w.heap.size + 2, 0, none⟩) 1 1] 25 (0, 0)) := by
    rw [hW0]
    exact heap_alloc_new (((w.alloc _).alloc _).alloc _) _ |> (by simpa using ·)
  have hL0 : Lst W0 (w.heap.size + 2, 0, 1) (Fo.of [e]) := root_lst hin hB0 (by rw [← hB, ← hK]; exact hroot)
  have hdp : (Fo.of [e]).deep = e.deep := by
    rw [Fo.deep_list, Fo.list_of]
    simp [maxL]
  have hI0 : Hid (DInv e W0 0 [((w.heap.size + 2, 0, 1), Fo.of [e])]) := Lib.hid ⟨(fun x hx => by simp only [List.mem_singleton] at hx; subst hx; exact hL0), (fun x hx => by simp only [List.mem_singleton] at hx; subst hx; simp only; omega), (fun _ => ⟨_, List.mem_singleton.2 rfl, by simp only; omega⟩)⟩
  clear hdp
  have hM0 : Hid (MapK kv cl1 W0 (w.heap.size + 1) []) := Lib.hid ⟨⟨#[], 0, hmap0, rfl⟩, fun p hp => by cases hp⟩
  have hO0 : Hid (OwnL W0 w.heap.size (.slice (some ⟨w.heap.size + 3, 0, none⟩) 1 1) (keys [((w.heap.size + 2, 0, 1), Fo.of [e])])) := Lib.hid ⟨[.slice (some ⟨w.heap.size + 2, 0, none⟩) 1 1], ⟨rfl, .inr ⟨w.heap.size + 3, 1, _, rfl, by omega, hlev, Nat.le_refl _, by decide, rfl, rfl⟩⟩, rfl, fun i hi => by
    have hi0 : i = 0 := by simpa [keys] using hi
    subst hi0
    exact ⟨1, by simp [keys], by omega, rfl⟩⟩
  have hs0 : szL [((w.heap.size + 2, 0, 1), Fo.of [e])] ≤ 1000000 := by
    unfold szL
    rw [List.map_singleton, Fo.size_list, Fo.list_of]
    simp [sumL]
    exact hsz
  replace hroot := Lib.hid hroot
  replace hlev := Lib.hid hlev
  replace hmap0 := Lib.hid hmap0
  replace hL0 := Lib.hid hL0
  replace hin := Lib.hid hin
  replace hB0 := Lib.hid hB0
  replace hB := Lib.hid hB
  replace hK := Lib.hid hK
  replace hz0 := Lib.hid hz0
  go_enter Try.func21, Try.ntmps21
  go_wp2_with fail
  rw [← hW0]
  replace hW0 := Lib.hid hW0
  go_loopw [4, 9] (fun v i wr => ∃ (k : Nat) (L : PL) (M : List Key) (A : Option Addr) (c : Nat), k ≤ 24 ∧ i = .int .i64 (k : Int) ∧ v = .slice A (keys L).length c ∧ szL L ≤ 1000000 ∧ Hid (DInv e wr k L) ∧ Hid (MapK kv cl1 wr (w.heap.size + 1) M) ∧ Hid (OwnL wr w.heap.size (.slice A (keys L).length c) (keys L)) ∧ Hid (Below w.heap.size w wr)) (fun _ i _ => 24 - (intOf i).toNat)
  case atStart => exact ⟨0, [((w.heap.size + 2, 0, 1), Fo.of [e])], [], _, _, by omega, rfl, rfl, hs0, hI0, hM0, hO0, hB0⟩
  case round =>
    obtain ⟨k, L, M, A, c, hk, rfl, rfl, hszL, HI, HM, HO, HB⟩ := hrel
    clear hI0 hM0 hO0
    have hlen : (keys L).length = L.length := by unfold keys; simp
    have hszw := HB.out.size
    by_cases hlt : k < 24
    · obtain ⟨N, hN⟩ : ∃ N, N = (keys L).length := ⟨_, rfl⟩
      rw [← hN] at hlen HO ⊢
      replace hlen := Lib.hid hlen
      replace hN := Lib.hid hN
      go_wp2_with (refine wpList_clear_K _ rfl _ 82 rfl 90 Try.underlying82 (w.heap.size + 1) M rfl HM.out ?_; intro w1 hm1 hg1)
      have hmap := HM.out.map
      have HI1 := HI.out.move fun b hc => grown_cl hg1 hmap hc
      have CB := below_any [] L (w.heap.size + 1) w.heap.size c N A w1 (HO.out.keep fun b hc => grown_cl hg1 hmap hc) hlen.out hm1 HI1.lst hszL
      have hNX : ∀ (w3 : World) (L1 : PL) (V : Value), BRel w1 w3 (w.heap.size + 1) [] L L1 V (fun q => ∃ y ∈ L, ∃ j, j < y.2.list.length ∧ Kid w1 y.1 j q) (kidszL L) → DInv e w3 (k + 1) L1 := fun w3 L1 V hB => HI1.next hm1.map hB
      have hkl := kidszL_le w1 L HI1.lst
      have hBw : Below w.heap.size w w1 := HB.out.trans ((Below.refl w.heap.size wr).grown hg1 hszw fun b hb => by injection hb with hb; omega)
      have hszw2 := hBw.size
      replace CB := Lib.hid CB
      replace hNX := Lib.hid hNX
      replace HI1 := Lib.hid HI1
      replace hBw := Lib.hid hBw
      replace hkl := Lib.hid hkl
      replace hm1 := Lib.hid hm1
      replace hg1 := Lib.hid hg1
      replace hmap := Lib.hid hmap
      go_wp2_with fail
      refine CB.out.mono ?_
      rintro en w3 ⟨L1, A3, c3, rfl, hB⟩
      have h1 := Lib.hid (hNX.out w3 L1 _ hB)
      have h2 := Lib.hid hB.map
      have h3 := Lib.hid (hB.own.base_le hszw2)
      have h4 : Hid (Below w.heap.size w w3) := Lib.hid (hBw.out.trans ((Below.refl w.heap.size w1).grown hB.grown hszw2 fun b hb => by injection hb with hb; omega))
      have h5 := hB.sz
      have h6 : szL L1 ≤ 1000000 := by have := hkl.out; omega
      replace hB := Lib.hid hB
      clear CB
      dsimp only []
      go_wp2_with fail
      go_roundw
      case rel => exact ⟨k + 1, L1, [] ++ keys L1, A3, c3, by omega, by go_num, rfl, h6, h1, h2, h3, h4⟩
      case measure => simp [intOf]; omega
    · have hkk : k = 24 := by omega
      subst hkk
      have hr : Hid (decide (0 < (keys L).length) = decide (24 < e.deep)) := by
        refine Lib.hid (decide_eq_decide.2 ⟨fun h => ?_, fun h => ?_⟩)
        · obtain ⟨x, hx⟩ : ∃ x, x ∈ L := List.exists_mem_of_length_pos (by omega)
          have h1 := HI.out.le x hx
          have h2 := (HI.out.lst x hx).pos
          have h3 := (HI.out.lst x hx).len
          have h4 := deep_pos (f := x.2) (by omega)
          omega
        · obtain ⟨x, hx, _⟩ := HI.out.ge h
          have := List.length_pos_of_mem hx
          omega
      replace hlen := Lib.hid hlen
      go_wp2_with fail
      go_ret
      exact ⟨by rw [← hr.out]; rfl, HB.out⟩
end Go.Proofs.Ytgdoepkoakpnbaa
