/-
  Small laws, out of Too, Enc, PutP, for a seat without the functions that those reach.
-/
import Derived.Test.YtcbiedonmibfaaaGreatDoorBerV3
import Derived.WalkLawsBesides
import Derived.Defers
import Derived.Recover
import Derived.RegionTactic
import Derived.ChangeAlike
namespace Go.Proofs.YtcbiedonmibfaaaGreatDoor
open Go.RowKit Go.ChangeMaps Go.MapKept
open Go.RowKit
theorem fo_nil : ∀ {f : Fo}, f.list.length = 0 → f = .nil
 | .nil, _ => rfl
 | .cons .., h => by simp [Fo.list] at h
theorem foAt_one {w : World} {I J : Nat → Prop} : ∀ (f g : Fo) (bl off : Nat), FoAt w I f bl off → FoAt w J g bl off → f.list.length = g.list.length → f = g
 | .nil, g, _, _, _, _, h => (fo_nil (by simpa [Fo.list] using h.symm)).symm
 | .cons .., .nil, _, _, _, _, h => by simp [Fo.list] at h
 | .cons c m n b k nx, .cons c' m' n' b' k' nx', bl, off, h, h', hl => by
   obtain ⟨h1, h2, h3, ⟨A, cp, h4, h5⟩, ⟨A2, cp2, h6, h7, h8, h9, h10⟩, hn⟩ := h
   obtain ⟨g1, g2, g3, ⟨B, dp, g4, g5⟩, ⟨B2, dp2, g6, g7, g8, g9, g10⟩, gn⟩ := h'
   rw [h1] at g1
   rw [h2] at g2
   rw [h3] at g3
   rw [h4] at g4
   rw [h6] at g6
   simp only [Option.some.injEq, Value.int.injEq, Value.bool.injEq, Value.slice.injEq, true_and] at g1 g2 g3 g4 g6
   obtain ⟨rfl, hb, rfl⟩ := g4
   obtain ⟨rfl, hk, rfl⟩ := g6
   subst g1 g2 g3
   have eb : b = b' := by
    rcases A with _ | ad
    · have h0 := h5.nil rfl
      have h01 := h5.le
      have h02 := g5.le
      rw [List.eq_nil_of_length_eq_zero (by omega : b.length = 0), List.eq_nil_of_length_eq_zero (by omega : b'.length = 0)]
    · refine List.ext_getElem hb fun i hi hi' => ?_
      have a1 := (h5.at_ ad rfl).2 i b[i] (by simp [hi])
      have a2 := (g5.at_ ad rfl).2 i b'[i] (by simp [hi'])
      rw [a1] at a2
      simp only [Option.some.injEq, Value.int.injEq, true_and] at a2
      omega
   subst eb
   have ek : k = k' := by
    by_cases h0 : k.list.length = 0
    · rw [fo_nil h0, fo_nil (by omega : k'.list.length = 0)]
    · rcases A2 with _ | ad
      · have := h9 rfl
        omega
      · exact foAt_one k k' ad.block ad.off (h10 ad rfl (by omega)).2.2 (g10 ad rfl (by omega)).2.2 hk
   subst ek
   have en : nx = nx' := foAt_one nx nx' bl (off + 5) hn gn (by simpa [Fo.list] using hl)
   subst en
   rfl
theorem Lst.one {w : World} {p : Key} {f g : Fo} (h : Lst w p f) (h' : Lst w p g) : f = g := foAt_one f g _ _ h.at_ h'.at_ (h.len.trans h'.len.symm)
theorem deep_pos {f : Fo} (h : 0 < f.list.length) : 1 ≤ f.deep := by
 rcases f with _ | _
 · simp [Fo.list] at h
 · rw [Fo.deep]
   omega
structure DInv (e : El) (wr : World) (i : Nat) (L : PL) : Prop where
 lst : ∀ x ∈ L, Lst wr x.1 x.2
 le : ∀ x ∈ L, x.2.deep + i ≤ e.deep
 ge : i < e.deep → ∃ x ∈ L, e.deep ≤ x.2.deep + i
theorem DInv.move {e : El} {wr w' : World} {i : Nat} {L : PL} (h : DInv e wr i L) (hb : ∀ b, Cb wr b → w'.heap[b]? = wr.heap[b]?) : DInv e w' i L := ⟨fun x hx => (h.lst x hx).keep hb, h.le, h.ge⟩
theorem DInv.next {e : El} {wr w' : World} {i mb : Nat} {L L1 : PL} {V : Value} {S : Nat} (h : DInv e wr i L) (hm : ∃ es c, wr.heap[mb]? = some (.map es c))
 (hB : BRel wr w' mb [] L L1 V (fun q => ∃ y ∈ L, ∃ j, j < y.2.list.length ∧ Kid wr y.1 j q) S) : DInv e w' (i + 1) L1 := by
 have hb : ∀ b, Cb wr b → w'.heap[b]? = wr.heap[b]? := fun b hc => grown_cb hB.grown hm hc
 refine ⟨fun x hx => (hB.lst x hx).keep hb, fun x hx => ?_, fun hi => ?_⟩
 · obtain ⟨y, hy, e', he', hk⟩ := hB.kid x hx
   have h1 := h.le y hy
   have h2 := maxL_mem y.2.list e' he'
   rw [← Fo.deep_list] at h2
   have h3 : e'.deep = x.2.deep + 1 := by rw [hk]; rfl
   omega
 · obtain ⟨x, hx, hd⟩ := h.ge (by omega)
   have h1 : e.deep - i - 1 < maxL (x.2.list.map El.deep) := by rw [← Fo.deep_list]; omega
   obtain ⟨r, hr, hrd⟩ := maxL_at _ _ h1
   obtain ⟨j, hj, rfl⟩ := List.getElem_of_mem hr
   obtain ⟨Ab, cb, Ak, ck, g1, g2⟩ := (h.lst x hx).elem j hj
   have h2 : x.2.list[j].deep = x.2.list[j].k.deep + 1 := rfl
   have h3 : 0 < x.2.list[j].kids.length := by
    rcases Nat.eq_zero_or_pos x.2.list[j].kids.length with h0 | h0
    · have : x.2.list[j].k = .nil := fo_nil h0
      rw [this] at h2
      have : Fo.nil.deep = 0 := rfl
      omega
    · exact h0
   obtain ⟨b, o, _, h5, h6⟩ := kid_of g1 g2 h3
   have h7 := hB.closed _ ⟨x, hx, j, hj, h5⟩
   rw [List.nil_append] at h7
   unfold keys at h7
   obtain ⟨z, hz, hzk⟩ := List.mem_map.1 h7
   have h8 := hB.lst z hz
   rw [hzk] at h8
   have h9 := h8.one h6
   exact ⟨z, hz, by rw [h9]; omega⟩
section
variable {K : Type} [DecidableEq K] {kt : TypeId} {f : K → Value} {cl : World → K → Prop}
omit [DecidableEq K] in
theorem MapK.clear {w : World} {b : Nat} {M : List K} (h : MapK f cl w b M) {mt et : TypeId} (hm : Tryz.prog.underlying mt = some (.map kt et)) (ty : TypeId) :
 ∃ w', (Builtin.clear_ #[mt] ty #[.map (some b)]).run Tryz.prog w = .ok (.tuple #[]) w' ∧ MapK f cl w' b [] ∧ w.grownBy w' (some b) := by
 obtain ⟨⟨es, clock, hb, hk⟩, hM⟩ := h
 refine ⟨setBlock w b (.map #[] clock), ?_, ⟨⟨_, _, heap_setBlock_same hb _, rfl⟩, fun p hp => by cases hp⟩, ⟨rfl, rfl, rfl, by simp [setBlock], fun i _ hi => heap_setBlock_other hb _ (fun e => hi (by rw [e]))⟩⟩
 simp [Builtin.clear_, run_underlying hm, MapKept.run_getObj_map hb, MapKept.run_setObj_map _ hb, Result.andThen, setBlock]
omit [DecidableEq K] in
theorem wpList_clear_K (w : World) {ops : Array Oper} {rest : List Oper} {o : Oper} {a : Act} {Q : Exit → Act → World → Prop}
 (hg : o.guard = none) (m : Operand) (t : TypeId) (hop : o.op = Op.call { callee := Callee.builtin Builtin.clear, args := #[m], argTypes := #[t] }) (et : TypeId) (ht : Tryz.prog.underlying t = some (.map kt et)) (b : Nat) (M : List K) (hm : a.eval m = .map (some b)) (hown : MapK f cl w b M)
 (hK : ∀ w', MapK f cl w' b [] → w.grownBy w' (some b) → wpList Tryz.prog ops Q rest (a.put o.dst (.tuple #[])) w') : wpList Tryz.prog ops Q (o :: rest) a w := by
 refine wpList_plain hg fun K' hK' => ?_
 obtain ⟨w', hrun, r1, r2⟩ := hown.clear ht o.type
 unfold Oper.wp
 simp [execOp, hop, resolve, invoke, builtin, hm, hrun, Result.andThen]
 exact hK' _ _ (hK w' r1 r2)
end
set_option maxRecDepth 8000 in
set_option maxHeartbeats 1600000 in
theorem toodeep_any (e : El) (B K : Nat) (w : World) (Ab : Option Addr) (cb : Nat) (Ak : Option Addr) (ck : Nat) (hin : ElIn w (Cb w) e Ab cb Ak ck) (hsz : e.size ≤ 1000000) (hB : B = e.b.length) (hK : K = e.kids.length) :
 Calls Tryz.prog 36 #[.agg #[.int .i64 e.c, .bool e.m, .int .i64 e.n, .slice Ab B cb, .slice Ak K ck]] w fun en w' => en = .returned (.bool (decide (24 < e.deep))) ∧ Below w.heap.size w w' := by
 have hmm := @run_makeMap Tryz.prog
 obtain ⟨W0, hW0⟩ : ∃ W0, W0 = (((w.alloc (.cells #[.int .i64 e.c, .bool e.m, .int .i64 e.n, .slice Ab B cb, .slice Ak K ck] 43)).alloc (.map #[] 0)).alloc (.cells #[.int .i64 e.c, .bool e.m, .int .i64 e.n, .slice Ab B cb, .slice Ak K ck] 43)).alloc (.cells #[.slice (some ⟨w.heap.size + 2, 0, none⟩) 1 1] 41) := ⟨_, rfl⟩
 have hB0 : Below w.heap.size w W0 := by rw [hW0]; go_grown
 have hz0 : W0.heap.size = w.heap.size + 4 := by rw [hW0]; simp
 have hmap0 : W0.heap[w.heap.size + 1]? = some (.map #[] 0) := by
  rw [hW0, Below.heap_alloc _ _ _ (by simp), Below.heap_alloc _ _ _ (by simp)]
  exact (MapKept.heap_alloc (w.alloc (.cells #[.int .i64 e.c, .bool e.m, .int .i64 e.n, .slice Ab B cb, .slice Ak K ck] 43)) _).1 |> (by simpa using ·)
 have hroot : W0.heap[w.heap.size + 2]? = some (.cells #[.int .i64 e.c, .bool e.m, .int .i64 e.n, .slice Ab B cb, .slice Ak K ck] 43 (0, 0)) := by
  rw [hW0, Below.heap_alloc _ _ _ (by simp)]
  exact heap_alloc_new ((w.alloc _).alloc _) _ |> (by simpa using ·)
 have hlev : W0.heap[w.heap.size + 3]? = some (.cells #[.slice (some ⟨w.heap.size + 2, 0, none⟩) 1 1] 41 (0, 0)) := by
  rw [hW0]
  exact heap_alloc_new (((w.alloc _).alloc _).alloc _) _ |> (by simpa using ·)
 have hL0 : Lst W0 (w.heap.size + 2, 0, 1) (Fo.of [e]) := root_lst hin hB0 (by rw [← hB, ← hK]; exact hroot)
 have hdp : (Fo.of [e]).deep = e.deep := by
  rw [Fo.deep_list, Fo.list_of]
  simp [maxL]
 have hI0 : Hid (DInv e W0 0 [((w.heap.size + 2, 0, 1), Fo.of [e])]) := Hd ⟨(fun x hx => by simp only [List.mem_singleton] at hx; subst hx; exact hL0), (fun x hx => by simp only [List.mem_singleton] at hx; subst hx; simp only; omega), (fun _ => ⟨_, List.mem_singleton.2 rfl, by simp only; omega⟩)⟩
 clear hdp
 have hM0 : Hid (MapK kv cl1 W0 (w.heap.size + 1) []) := Hd ⟨⟨#[], 0, hmap0, rfl⟩, fun p hp => by cases hp⟩
 have hO0 : Hid (OwnL W0 w.heap.size (.slice (some ⟨w.heap.size + 3, 0, none⟩) 1 1) (keys [((w.heap.size + 2, 0, 1), Fo.of [e])])) := Hd ⟨[.slice (some ⟨w.heap.size + 2, 0, none⟩) 1 1], ⟨rfl, .inr ⟨w.heap.size + 3, 1, _, rfl, by omega, hlev, Nat.le_refl _, by decide, rfl, rfl⟩⟩, rfl, fun i hi => by
  have hi0 : i = 0 := by simpa [keys] using hi
  subst hi0
  exact ⟨1, by simp [keys], by omega, rfl⟩⟩
 have hs0 : szL [((w.heap.size + 2, 0, 1), Fo.of [e])] ≤ 1000000 := by
  unfold szL
  rw [List.map_singleton, Fo.size_list, Fo.list_of]
  simp [sumL]
  exact hsz
 replace hroot := Hd hroot
 replace hlev := Hd hlev
 replace hmap0 := Hd hmap0
 replace hL0 := Hd hL0
 replace hin := Hd hin
 replace hB0 := Hd hB0
 replace hB := Hd hB
 replace hK := Hd hK
 replace hz0 := Hd hz0
 go_enter Tryz.func36, Tryz.ntmps36
 go_wp2_with fail
 rw [← hW0]
 replace hW0 := Hd hW0
 go_loopw [4, 9] (fun v i wr => ∃ (k : Nat) (L : PL) (M : List Key) (A : Option Addr) (c : Nat), k ≤ 24 ∧ i = .int .i64 (k : Int) ∧ v = .slice A (keys L).length c ∧ szL L ≤ 1000000 ∧ Hid (DInv e wr k L) ∧ Hid (MapK kv cl1 wr (w.heap.size + 1) M) ∧ Hid (OwnL wr w.heap.size (.slice A (keys L).length c) (keys L)) ∧ Hid (Below w.heap.size w wr)) (fun _ i _ => 24 - (intOf i).toNat)
 case atStart => exact ⟨0, [((w.heap.size + 2, 0, 1), Fo.of [e])], [], _, _, by omega, rfl, rfl, hs0, hI0, hM0, hO0, hB0⟩
 case round =>
  obtain ⟨k, L, M, A, c, hk, rfl, rfl, hszL, HI, HM, HO, HB⟩ := hrel
  clear hI0 hM0 hO0
  have hlen : (keys L).length = L.length := by unfold keys; simp
  have hszw := HB.out.size
  by_cases hlt : k < 24
  · obtain ⟨N, hN⟩ : ∃ N, N = (keys L).length := ⟨_, rfl⟩
    rw [← hN] at hlen HO ⊢
    replace hlen := Hd hlen
    replace hN := Hd hN
    go_wp2_with (refine wpList_clear_K _ rfl _ 138 rfl 100 Tryz.underlying138 (w.heap.size + 1) M rfl HM.out ?_; intro w1 hm1 hg1)
    have hmap := HM.out.map
    have HI1 := HI.out.move fun b hc => grown_cb hg1 hmap hc
    have CB := below_any [] L (w.heap.size + 1) w.heap.size c N A w1 (HO.out.keep fun b hc => grown_cl hg1 hmap hc) hlen.out hm1 HI1.lst hszL
    have hNX : ∀ (w3 : World) (L1 : PL) (V : Value), BRel w1 w3 (w.heap.size + 1) [] L L1 V (fun q => ∃ y ∈ L, ∃ j, j < y.2.list.length ∧ Kid w1 y.1 j q) (kidszL L) → DInv e w3 (k + 1) L1 := fun w3 L1 V hB => HI1.next hm1.map hB
    have hkl := kidszL_le w1 L HI1.lst
    have hBw : Below w.heap.size w w1 := HB.out.trans ((Below.refl w.heap.size wr).grown hg1 hszw fun b hb => by injection hb with hb; omega)
    have hszw2 := hBw.size
    replace CB := Hd CB
    replace hNX := Hd hNX
    replace HI1 := Hd HI1
    replace hBw := Hd hBw
    replace hkl := Hd hkl
    replace hm1 := Hd hm1
    replace hg1 := Hd hg1
    replace hmap := Hd hmap
    go_wp2_with fail
    refine CB.out.mono ?_
    rintro en w3 ⟨L1, A3, c3, rfl, hB⟩
    have h1 := Hd (hNX.out w3 L1 _ hB)
    have h2 := Hd hB.map
    have h3 := Hd (hB.own.base_le hszw2)
    have h4 : Hid (Below w.heap.size w w3) := Hd (hBw.out.trans ((Below.refl w.heap.size w1).grown hB.grown hszw2 fun b hb => by injection hb with hb; omega))
    have h5 := hB.sz
    have h6 : szL L1 ≤ 1000000 := by have := hkl.out; omega
    replace hB := Hd hB
    clear CB
    dsimp only []
    go_wp2_with fail
    go_roundw
    case rel => exact ⟨k + 1, L1, [] ++ keys L1, A3, c3, by omega, by go_num, rfl, h6, h1, h2, h3, h4⟩
    case measure => simp [intOf]; omega
  · have hkk : k = 24 := by omega
    subst hkk
    have hr : Hid (decide (0 < (keys L).length) = decide (24 < e.deep)) := by
     refine Hd (decide_eq_decide.2 ⟨fun h => ?_, fun h => ?_⟩)
     · obtain ⟨x, hx⟩ : ∃ x, x ∈ L := List.exists_mem_of_length_pos (by omega)
       have h1 := HI.out.le x hx
       have h2 := (HI.out.lst x hx).pos
       have h3 := (HI.out.lst x hx).len
       have h4 := deep_pos (f := x.2) (by omega)
       omega
     · obtain ⟨x, hx, _⟩ := HI.out.ge h
       have := List.length_pos_of_mem hx
       omega
    replace hlen := Hd hlen
    go_wp2_with fail
    go_ret
    exact ⟨by rw [← hr.out]; rfl, HB.out⟩
set_option maxHeartbeats 400000 in
theorem join_big (A B : Option Addr) (n c k d : Nat) (w : World) (h : 16384 < n + k) (hn : n ≤ 2000000) :
 Calls Tryz.prog 75 #[.slice B n d, .slice A k c] w fun en w' => en = errP 3 ∧ w = w' := by
 have h1 : decide (16384 - (n : Int) < (k : Int)) = true := decide_eq_true (by omega)
 go_enter Tryz.func75, Tryz.ntmps75
 go_wp2_with fail
 exact ⟨rfl, rfl, rfl⟩
set_option maxHeartbeats 400000 in
theorem join_ok (A B : Option Addr) (n c k d base K : Nat) (l m : List Nat) (w : World) (ho : Own w base (.slice B n d) l) (hl : l.length = n) (hs : Src w K A c m) (hm : m.length = k) (hb : base ≤ w.heap.size) (h : n + k ≤ 16384) :
 Calls Tryz.prog 75 #[.slice B n d, .slice A k c] w fun en w' => ∃ A' c', en = .returned (.slice A' (n + k) c') ∧ Own w' base (.slice A' (n + k) c') (l ++ m) ∧ Below base w w' := by
 have h1 : decide (16384 - (n : Int) < (k : Int)) = false := decide_eq_false (by omega)
 replace hl := Hd hl
 replace hm := Hd hm
 replace ho := Hd ho
 replace hs := Hd hs
 go_enter Tryz.func75, Tryz.ntmps75
 go_wp2_with (at_builtin; refine append_srcF rfl (.tmp 12) (.tmp 13) rfl base (.slice B n d) l rfl ho.out K A c m k hm.out rfl hs.out (by have := hl.out; have := hm.out; omega) hb ?_; intro A6 c6 w6 ho6 hb6 _; have HO6 := Hd ho6; have HB6 := Hd hb6; clear ho6 hb6)
 have HO7 : Own w6 base (.slice A6 (n + k) c6) (l ++ m) := by
  have h := HO6.out
  rw [hl.out] at h
  exact h
 replace HO7 := Hd HO7
 go_ret
 exact ⟨A6, c6, by rw [hl.out]; rfl, HO7.out, HB6.out⟩
def EncPost (e : El) (w : World) (en : Ending) (w' : World) : Prop :=
 (e.enc.length ≤ 16384 → ∃ A c, en = .returned (.slice A e.enc.length c) ∧ Own w' w.heap.size (.slice A e.enc.length c) e.enc) ∧ (16384 < e.enc.length → en = errP 3) ∧ Below w.heap.size w w'
set_option maxRecDepth 8000 in
set_option maxHeartbeats 800000 in
theorem enc_leaf (e : El) (c n : Int) (b : List Nat) (K B : Nat) (Ab Ak : Option Addr) (cb ck : Nat) (w : World) (hr : RightT c n) (hs : SrcI w (· < w.heap.size) Ab cb b) (hb : b.length ≤ 1000000) (hB : b.length = B) (hK : K = 0)
 (henc : e.enc = tagB c false n ++ lenB (b.length : Int) ++ b) :
 Calls Tryz.prog 38 #[.agg #[.int .i64 c, .bool false, .int .i64 n, .slice Ab B cb, .slice Ak K ck]] w (EncPost e w) := by
 subst hK
 rw [hB] at hb henc
 have htl := tagB_short c n false hr
 have hll := lenB_short (B : Int) (by omega)
 have CPUT := fun w => put_nil c n false w hr
 have CLEN : ∀ (w : World) (A : Option Addr) (cp : Nat), Src w w.heap.size A cp (tagB c false n) → Calls Tryz.prog 76 #[.slice A (tagB c false n).length cp, .int .i64 (B : Int)] w fun e w' => ∃ A' c', e = .returned (.slice A' (tagB c false n ++ lenB (B : Int)).length c') ∧ Own w' w.heap.size (.slice A' (tagB c false n ++ lenB (B : Int)).length c') (tagB c false n ++ lenB (B : Int)) ∧ Below w.heap.size w w' := fun w A cp hs => putLen_out A cp _ _ w hs (by omega) (by omega)
 obtain ⟨tg, htg⟩ : ∃ tg, tg = tagB c false n := ⟨_, rfl⟩
 obtain ⟨ln, hln⟩ : ∃ ln, ln = lenB (B : Int) := ⟨_, rfl⟩
 simp only [← htg, ← hln] at CPUT CLEN htl hll henc
 obtain ⟨T, hT⟩ : ∃ T, T = tg.length := ⟨_, rfl⟩
 obtain ⟨U, hU⟩ : ∃ U, U = (tg ++ ln).length := ⟨_, rfl⟩
 have hUl : U ≤ 10 := by rw [hU, List.length_append]; omega
 simp only [← hT, ← hU] at CPUT CLEN
 replace CPUT := Hd CPUT
 replace CLEN := Hd CLEN
 replace hs := Hd hs
 have hYL := hB
 replace hU := Hd hU
 replace henc := Hd henc
 replace hYL := Hd hYL
 clear htg hln hT htl hll hB
 have hb0 := Hd (Below.refl (w.heap.size + 1) (w.alloc (.cells #[.int .i64 c, .bool false, .int .i64 n, .slice Ab B cb, .slice Ak 0 ck] 43)))
 go_enter Tryz.func38, Tryz.ntmps38
 go_wp2_with fail
 go_loopw [3, 14] (fun v i wr => v = .slice Ab B cb ∧ i = .int .i64 0 ∧ Hid (Below (w.heap.size + 1) (w.alloc (.cells #[.int .i64 c, .bool false, .int .i64 n, .slice Ab B cb, .slice Ak 0 ck] 43)) wr)) (fun _ _ _ => 0)
 case atStart => exact ⟨by simp, by simp, hb0⟩
 case round =>
  obtain ⟨rfl, rfl, HB⟩ := hrel
  clear hb0
  obtain ⟨g0, g1, g2, _, g4⟩ := box5 HB.out
  have HZ : w.heap.size + 1 ≤ wr.heap.size := Nat.le_trans (by simp) HB.out.size
  go_wp2_with fail
  refine (CPUT.out _).mono ?_
  rintro en w4 ⟨A4, c4, rfl, ho4, hb4⟩
  have HB4 := Hd (HB.out.trans (hb4.mono HZ))
  have HS4 := Hd ho4.src
  clear g0 g1 g2 g4
  clear ho4 hb4
  go_wp2_with fail
  refine (CLEN.out _ _ _ HS4.out).mono ?_
  rintro en w5 ⟨A5, c5, rfl, ho5, hb5⟩
  have HO5 := Hd (ho5.base_le (Nat.le_trans (show w.heap.size + 1 ≤ _ by simp) HB4.out.size))
  have HB5 := Hd (HB4.out.trans (hb5.mono (Nat.le_trans (by simp) HB4.out.size)))
  have HX5 := Hd ((hs.out.src).below (boxB HB5.out))
  clear ho5 hb5 HS4
  have HZ5 : w.heap.size + 1 ≤ w5.heap.size := Nat.le_trans (by simp) HB5.out.size
  by_cases hbig : U + B ≤ 16384
  · go_wp2_with fail
    refine (join_ok Ab A5 U cb B c5 (w.heap.size + 1) w.heap.size (tg ++ ln) b w5 HO5.out hU.out.symm HX5.out hYL.out HZ5 hbig).mono ?_
    rintro en w6 ⟨A6, c6, rfl, ho6, hb6⟩
    have HO6 := Hd ho6
    have HB6 := Hd (boxB (HB5.out.trans hb6))
    clear ho6 hb6
    go_wp2_with fail
    go_ret
    have hel : e.enc.length = U + B := by rw [henc.out, List.length_append, ← hU.out, hYL.out]
    refine ⟨fun _ => ⟨A6, c6, by rw [hel]; rfl, ?_⟩, fun h => by omega, HB6.out⟩
    have h := HO6.out.base_le (base' := w.heap.size) (by omega)
    rw [hel, henc.out]
    exact h
  · go_wp2_with fail
    refine (join_big Ab A5 U cb B c5 w5 (by omega) (by omega)).mono ?_
    rintro en w6 ⟨rfl, rfl⟩
    have HB6 := Hd (boxB HB5.out)
    have hel : e.enc.length = U + B := by rw [henc.out, List.length_append, ← hU.out, hYL.out]
    exact ⟨rfl, ⟨fun h => by omega, fun _ => rfl, HB6.out⟩⟩
set_option maxRecDepth 8000 in
set_option maxHeartbeats 800000 in
theorem enc_none (e : El) (c n : Int) (B : Nat) (Ab Ak : Option Addr) (cb ck : Nat) (w : World) (hr : RightT c n)
 (henc : e.enc = tagB c true n ++ lenB (0 : Int) ++ []) :
 Calls Tryz.prog 38 #[.agg #[.int .i64 c, .bool true, .int .i64 n, .slice Ab B cb, .slice Ak 0 ck]] w (EncPost e w) := by
 have htl := tagB_short c n true hr
 have hll := lenB_short (0 : Int) (by omega)
 have CPUT := fun w => put_nil c n true w hr
 have CLEN : ∀ (w : World) (A : Option Addr) (cp : Nat), Src w w.heap.size A cp (tagB c true n) → Calls Tryz.prog 76 #[.slice A (tagB c true n).length cp, .int .i64 (0 : Int)] w fun e w' => ∃ A' c', e = .returned (.slice A' (tagB c true n ++ lenB (0 : Int)).length c') ∧ Own w' w.heap.size (.slice A' (tagB c true n ++ lenB (0 : Int)).length c') (tagB c true n ++ lenB (0 : Int)) ∧ Below w.heap.size w w' := fun w A cp hs => putLen_out A cp _ _ w hs (by omega) (by omega)
 obtain ⟨tg, htg⟩ : ∃ tg, tg = tagB c true n := ⟨_, rfl⟩
 obtain ⟨ln, hln⟩ : ∃ ln, ln = lenB (0 : Int) := ⟨_, rfl⟩
 simp only [← htg, ← hln] at CPUT CLEN htl hll henc
 obtain ⟨T, hT⟩ : ∃ T, T = tg.length := ⟨_, rfl⟩
 obtain ⟨U, hU⟩ : ∃ U, U = (tg ++ ln).length := ⟨_, rfl⟩
 have hUl : U ≤ 10 := by rw [hU, List.length_append]; omega
 simp only [← hT, ← hU] at CPUT CLEN
 replace CPUT := Hd CPUT
 replace CLEN := Hd CLEN
 have hYL : ([] : List Nat).length = 0 := rfl
 replace hU := Hd hU
 replace henc := Hd henc
 replace hYL := Hd hYL
 clear htg hln hT htl hll
 have hb0 := Hd (Below.refl (w.heap.size + 1) (w.alloc (.cells #[.int .i64 c, .bool true, .int .i64 n, .slice Ab B cb, .slice Ak 0 ck] 43)))
 go_enter Tryz.func38, Tryz.ntmps38
 go_wp2_with fail
 go_loopw [3, 14] (fun v i wr => v = .slice none 0 0 ∧ i = .int .i64 0 ∧ Hid (Below (w.heap.size + 1) (w.alloc (.cells #[.int .i64 c, .bool true, .int .i64 n, .slice Ab B cb, .slice Ak 0 ck] 43)) wr)) (fun _ _ _ => 0)
 case atStart => exact ⟨by simp, by simp, hb0⟩
 case round =>
  obtain ⟨rfl, rfl, HB⟩ := hrel
  clear hb0
  obtain ⟨g0, g1, g2, _, g4⟩ := box5 HB.out
  have HZ : w.heap.size + 1 ≤ wr.heap.size := Nat.le_trans (by simp) HB.out.size
  go_wp2_with fail
  refine (CPUT.out _).mono ?_
  rintro en w4 ⟨A4, c4, rfl, ho4, hb4⟩
  have HB4 := Hd (HB.out.trans (hb4.mono HZ))
  have HS4 := Hd ho4.src
  clear g0 g1 g2 g4
  clear ho4 hb4
  go_wp2_with fail
  refine (CLEN.out _ _ _ HS4.out).mono ?_
  rintro en w5 ⟨A5, c5, rfl, ho5, hb5⟩
  have HO5 := Hd (ho5.base_le (Nat.le_trans (show w.heap.size + 1 ≤ _ by simp) HB4.out.size))
  have HB5 := Hd (HB4.out.trans (hb5.mono (Nat.le_trans (by simp) HB4.out.size)))
  have HX5 := Hd (Src.none_ w5 0)
  clear ho5 hb5 HS4
  have HZ5 : w.heap.size + 1 ≤ w5.heap.size := Nat.le_trans (by simp) HB5.out.size
  by_cases hbig : U + 0 ≤ 16384
  · go_wp2_with fail
    refine (join_ok none A5 U 0 0 c5 (w.heap.size + 1) 0 (tg ++ ln) [] w5 HO5.out hU.out.symm HX5.out hYL.out HZ5 hbig).mono ?_
    rintro en w6 ⟨A6, c6, rfl, ho6, hb6⟩
    have HO6 := Hd ho6
    have HB6 := Hd (boxB (HB5.out.trans hb6))
    clear ho6 hb6
    go_wp2_with fail
    go_ret
    have hel : e.enc.length = U + 0 := by rw [henc.out, List.length_append, ← hU.out, hYL.out]
    refine ⟨fun _ => ⟨A6, c6, by rw [hel]; rfl, ?_⟩, fun h => by omega, HB6.out⟩
    have h := HO6.out.base_le (base' := w.heap.size) (by omega)
    rw [hel, henc.out]
    exact h
  · go_wp2_with fail
    refine (join_big none A5 U 0 0 c5 w5 (by omega) (by omega)).mono ?_
    rintro en w6 ⟨rfl, rfl⟩
    have HB6 := Hd (boxB HB5.out)
    have hel : e.enc.length = U + 0 := by rw [henc.out, List.length_append, ← hU.out, hYL.out]
    exact ⟨rfl, ⟨fun h => by omega, fun _ => rfl, HB6.out⟩⟩
set_option maxRecDepth 8000 in
set_option maxHeartbeats 1600000 in
theorem enc_made (e : El) (c n : Int) (l : List El) (K B : Nat) (bl off : Nat) (Ab : Option Addr) (cb ck : Nat) (w : World) (hr : RightT c n) (hK : l.length = K) (hKc : K ≤ ck) (hck : ck ≤ 9223372036854775807) (hbl : bl < w.heap.size)
 (henc : e.enc = tagB c true n ++ lenB ((l.flatMap El.enc).length : Int) ++ l.flatMap El.enc)
 (ih : ∀ (i : Nat) (hi : i < l.length), ∃ Ab cb Ak ck, ElAt w (· < w.heap.size) l[i] bl (off + i * 5) Ab cb Ak ck ∧ ∀ w', Below w.heap.size w w' → Calls Tryz.prog 38 #[elV l[i] Ab cb Ak ck] w' (EncPost l[i] w')) :
 Calls Tryz.prog 38 #[.agg #[.int .i64 c, .bool true, .int .i64 n, .slice Ab B cb, .slice (some ⟨bl, off, none⟩) K ck]] w (EncPost e w) := by
 have hpart : ∀ k, 16384 < ((l.take k).flatMap El.enc).length → 16384 < e.enc.length := fun k h => by
  have := flat_le El.enc l k
  rw [henc, List.length_append]
  omega
 replace hpart := Hd hpart
 have CFULL : Hid ((l.flatMap El.enc).length ≤ 16384 → ∀ (w4 : World), True) := Hd fun _ _ => trivial
 clear CFULL
 replace ih := Hd ih
 replace hK := Hd hK
 replace henc := Hd henc
 have hb0 := Hd (Below.refl (w.heap.size + 1) (w.alloc (.cells #[.int .i64 c, .bool true, .int .i64 n, .slice Ab B cb, .slice (some ⟨bl, off, none⟩) K ck] 43)))
 go_enter Tryz.func38, Tryz.ntmps38
 go_wp2_with fail
 go_loopw [3, 14] (fun v i wr => ∃ (k : Nat) (A : Option Addr) (d y : Nat), k ≤ K ∧ i = .int .i64 (k : Int) ∧ v = .slice A y d ∧ y ≤ 16384 ∧ Hid (y = ((l.take k).flatMap El.enc).length) ∧ Hid (Own wr (w.heap.size + 1) (.slice A y d) ((l.take k).flatMap El.enc)) ∧ Hid (Below (w.heap.size + 1) (w.alloc (.cells #[.int .i64 c, .bool true, .int .i64 n, .slice Ab B cb, .slice (some ⟨bl, off, none⟩) K ck] 43)) wr)) (fun _ i _ => K - (intOf i).toNat)
 case atStart => exact ⟨0, none, 0, 0, Nat.zero_le _, rfl, rfl, by omega, Hd rfl, Hd (World.ownsRow_nil _ _ 5 1), hb0⟩
 case round =>
  obtain ⟨k, A, d, y, hk, rfl, rfl, hyl, Hy, HO, HB⟩ := hrel
  clear hb0
  obtain ⟨g0, g1, g2, _, g4⟩ := box5 HB.out
  have HW := Hd (boxB HB.out)
  have HZ : w.heap.size + 1 ≤ wr.heap.size := Nat.le_trans (by simp) HB.out.size
  by_cases hlt : k < K
  · obtain ⟨Ab2, cb2, Ak2, ck2, hat, hc⟩ := ih.out k (by rw [hK.out]; exact hlt)
    have keep : ∀ p : Addr, p.block < w.heap.size → wr.cell? p = w.cell? p := fun p hp => HW.out.cell hp
    have c0 := (keep ⟨bl, off + k * 5, none⟩ hbl).trans hat.c
    have c1 := (keep ⟨bl, off + k * 5 + 1, none⟩ hbl).trans hat.m
    have c2 := (keep ⟨bl, off + k * 5 + 2, none⟩ hbl).trans hat.n
    have c3 := (keep ⟨bl, off + k * 5 + 3, none⟩ hbl).trans hat.b
    have c4 := (keep ⟨bl, off + k * 5 + 4, none⟩ hbl).trans hat.k
    have hsn := Hd (flat_take El.enc l k (by rw [hK.out]; exact hlt))
    obtain ⟨r, hrr⟩ : ∃ r, l[k]'(by rw [hK.out]; exact hlt) = r := ⟨_, rfl⟩
    rw [hrr] at hc c0 c1 c2 c3 c4 hsn
    clear keep hat hrr
    have hpk : 16384 < r.enc.length → 16384 < e.enc.length := fun h => hpart.out (k + 1) (by rw [hsn.out, List.length_append]; omega)
    have hpk2 : 16384 < y + r.enc.length → 16384 < e.enc.length := fun h => hpart.out (k + 1) (by rw [hsn.out, List.length_append, ← Hy.out]; exact h)
    unfold elV at hc
    clear g0 g1 g2
    obtain ⟨P, hP⟩ : ∃ P, P = (l.take k).flatMap El.enc := ⟨_, rfl⟩
    rw [← hP] at Hy HO hsn
    clear hP
    have hc2 : ∀ w', Below w.heap.size w w' → Calls Tryz.prog 38 #[.agg #[.int .i64 r.c, .bool r.m, .int .i64 r.n, .slice Ab2 r.b.length cb2, .slice Ak2 r.kids.length ck2]] w' (EncPost r w') := hc
    clear hc
    replace hc2 := Hd hc2
    obtain ⟨z, hz⟩ : ∃ z, z = r.enc.length := ⟨_, rfl⟩
    rw [← hz] at hpk hpk2
    go_wp2_with fail
    refine (hc2.out _ (by first | exact HW.out.alloc HW.out.size _ | exact HW.out)).mono ?_
    rintro en w3 ⟨hok, hbad, hb3⟩
    have hb3' : Below wr.heap.size wr w3 := ((Below.refl _ wr).alloc (Nat.le_refl _) _).trans (hb3.mono (by simp))
    rw [← hz] at hok hbad
    by_cases hz1 : z ≤ 16384
    · obtain ⟨A3, c3', rfl, ho3⟩ := hok hz1
      have HB3 := Hd (HB.out.trans (hb3'.mono HZ))
      have HO3 := Hd (HO.out.below hb3' (Nat.le_refl _))
      have HS3 := Hd ho3.src
      have HZ3 : w.heap.size + 1 ≤ w3.heap.size := Nat.le_trans HZ hb3'.size
      clear hb3 hb3' hc2 ho3 c0 c1 c2 c3 c4 g4 hok hbad
      replace hz := Hd hz
      by_cases hsum : y + z ≤ 16384
      · go_wp2_with fail
        refine (join_ok A3 A y c3' z d (w.heap.size + 1) w3.heap.size P r.enc w3 HO3.out Hy.out.symm HS3.out hz.out.symm HZ3 hsum).mono ?_
        rintro en w6 ⟨A6, c6, rfl, ho6, hb6⟩
        have HO6 := Hd ho6
        have HB6 := Hd (HB3.out.trans hb6)
        clear ho6 hb6
        have HY6 : Hid (y + z = ((l.take (k + 1)).flatMap El.enc).length) := by
         refine Hd ?_
         rw [hsn.out, List.length_append, ← Hy.out, ← hz.out]
        have HO7 : Hid (Own w6 (w.heap.size + 1) (.slice A6 (y + z) c6) ((l.take (k + 1)).flatMap El.enc)) := by
         refine Hd ?_
         rw [hsn.out]
         exact HO6.out
        go_wp2_with fail
        go_roundw
        case rel => exact ⟨k + 1, A6, c6, y + z, by omega, by go_num, rfl, hsum, HY6, HO7, HB6⟩
        case measure => simp [intOf]; omega
      · have hE := hpk2 (by omega)
        go_wp2_with fail
        refine (join_big A3 A y c3' z d w3 (by omega) (by omega)).mono ?_
        rintro en w6 ⟨rfl, rfl⟩
        have HB6 := Hd (boxB HB3.out)
        exact ⟨rfl, ⟨fun h => by omega, fun _ => rfl, HB6.out⟩⟩
    · obtain rfl := hbad (by omega)
      have hE := hpk (by omega)
      have HB6 := Hd (boxB (HB.out.trans (hb3'.mono HZ)))
      exact ⟨rfl, ⟨fun h => by omega, fun _ => rfl, HB6.out⟩⟩
  · have hkk : k = K := by omega
    subst hkk
    obtain ⟨X, hX⟩ : ∃ X, X = l.flatMap El.enc := ⟨_, rfl⟩
    have hfull : (l.take k).flatMap El.enc = X := by rw [hX, List.take_of_length_le (by rw [hK.out]; exact Nat.le_refl _)]
    rw [hfull] at HO Hy
    replace henc := henc.out
    rw [← hX] at henc
    obtain rfl : y = X.length := Hy.out
    have hB : X.length = X.length := rfl
    clear Hy hfull hX hpart ih
    obtain ⟨Y, hY⟩ : ∃ Y, Y = X.length := ⟨_, rfl⟩
    rw [← hY] at henc HO hyl ⊢
    have htl := tagB_short c n true hr
    have hll := lenB_short (Y : Int) (by omega)
    have CPUT := fun w => put_nil c n true w hr
    have CLEN : ∀ (w : World) (A : Option Addr) (cp : Nat), Src w w.heap.size A cp (tagB c true n) → Calls Tryz.prog 76 #[.slice A (tagB c true n).length cp, .int .i64 (Y : Int)] w fun e w' => ∃ A' c', e = .returned (.slice A' (tagB c true n ++ lenB (Y : Int)).length c') ∧ Own w' w.heap.size (.slice A' (tagB c true n ++ lenB (Y : Int)).length c') (tagB c true n ++ lenB (Y : Int)) ∧ Below w.heap.size w w' := fun w A cp hs => putLen_out A cp _ _ w hs (by omega) (by omega)
    obtain ⟨tg, htg⟩ : ∃ tg, tg = tagB c true n := ⟨_, rfl⟩
    obtain ⟨ln, hln⟩ : ∃ ln, ln = lenB (Y : Int) := ⟨_, rfl⟩
    simp only [← htg, ← hln] at CPUT CLEN htl hll henc
    obtain ⟨T, hT⟩ : ∃ T, T = tg.length := ⟨_, rfl⟩
    obtain ⟨U, hU⟩ : ∃ U, U = (tg ++ ln).length := ⟨_, rfl⟩
    have hUl : U ≤ 10 := by rw [hU, List.length_append]; omega
    simp only [← hT, ← hU] at CPUT CLEN
    replace CPUT := Hd CPUT
    replace CLEN := Hd CLEN
    have hYL := hY.symm
    replace hU := Hd hU
    replace henc := Hd henc
    replace hYL := Hd hYL
    clear htg hln hT htl hll hB hY
    go_wp2_with fail
    refine (CPUT.out _).mono ?_
    rintro en w4 ⟨A4, c4, rfl, ho4, hb4⟩
    have HB4 := Hd (HB.out.trans (hb4.mono HZ))
    have HS4 := Hd ho4.src
    have HX4 := Hd (HO.out.below hb4 (Nat.le_refl _))
    clear g0 g1 g2 g4
    clear ho4 hb4
    go_wp2_with fail
    refine (CLEN.out _ _ _ HS4.out).mono ?_
    rintro en w5 ⟨A5, c5, rfl, ho5, hb5⟩
    have HO5 := Hd (ho5.base_le (Nat.le_trans (show w.heap.size + 1 ≤ _ by simp) HB4.out.size))
    have HB5 := Hd (HB4.out.trans (hb5.mono (Nat.le_trans (by simp) HB4.out.size)))
    have HX5 := Hd ((HX4.out.below hb5 (Nat.le_refl _)).src)
    clear ho5 hb5 HS4
    have HZ5 : w.heap.size + 1 ≤ w5.heap.size := Nat.le_trans (by simp) HB5.out.size
    by_cases hbig : U + Y ≤ 16384
    · go_wp2_with fail
      refine (join_ok A A5 U d Y c5 (w.heap.size + 1) w5.heap.size (tg ++ ln) X w5 HO5.out hU.out.symm HX5.out hYL.out HZ5 hbig).mono ?_
      rintro en w6 ⟨A6, c6, rfl, ho6, hb6⟩
      have HO6 := Hd ho6
      have HB6 := Hd (boxB (HB5.out.trans hb6))
      clear ho6 hb6
      go_wp2_with fail
      go_ret
      have hel : e.enc.length = U + Y := by rw [henc.out, List.length_append, ← hU.out, hYL.out]
      refine ⟨fun _ => ⟨A6, c6, by rw [hel]; rfl, ?_⟩, fun h => by omega, HB6.out⟩
      have h := HO6.out.base_le (base' := w.heap.size) (by omega)
      rw [hel, henc.out]
      exact h
    · go_wp2_with fail
      refine (join_big A A5 U d Y c5 w5 (by omega) (by omega)).mono ?_
      rintro en w6 ⟨rfl, rfl⟩
      have HB6 := Hd (boxB HB5.out)
      have hel : e.enc.length = U + Y := by rw [henc.out, List.length_append, ← hU.out, hYL.out]
      exact ⟨rfl, ⟨fun h => by omega, fun _ => rfl, HB6.out⟩⟩
theorem enc_el (e : El) : ∀ (w : World) (Ab : Option Addr) (cb : Nat) (Ak : Option Addr) (ck : Nat), ElIn w (· < w.heap.size) e Ab cb Ak ck → e.right = true → e.size ≤ 1000000 →
 Calls Tryz.prog 38 #[elV e Ab cb Ak ck] w (EncPost e w) := by
 induction e using El.ind with
 | h e ih =>
 intro w Ab cb Ak ck hin hr hsz
 have hr0 := hr
 rw [El.right_kids, Bool.and_eq_true, List.all_eq_true] at hr
 obtain ⟨h1, h2⟩ := hr
 obtain ⟨ht, h3, h4⟩ := (one_right e).1 h1
 unfold elV
 cases hm : e.m
 · refine enc_leaf e e.c e.n e.b e.kids.length e.b.length Ab Ak cb ck w ht hin.b ?_ rfl (h3 hm) ?_
   · unfold El.size at hsz
     omega
   · unfold El.enc El.inner
     rw [hm]
     rfl
 · have hi := El.inner_made e hm
   by_cases hk : e.kids.length = 0
   · have hl : e.kids = [] := List.eq_nil_of_length_eq_zero hk
     rw [hk]
     refine enc_none e e.c e.n e.b.length Ab Ak cb ck w ht ?_
     rw [show e.enc = tagB e.c e.m e.n ++ lenB (e.inner.length : Int) ++ e.inner from rfl, hi, hl, hm]
     rfl
   · obtain ⟨bl, off, rfl, hbl, hkid⟩ := hin.kid (by omega)
     refine enc_made e e.c e.n e.kids e.kids.length e.b.length bl off Ab cb ck w ht rfl hin.k.le hin.k.big hbl ?_ fun i hii => ?_
     · rw [show e.enc = tagB e.c e.m e.n ++ lenB (e.inner.length : Int) ++ e.inner from rfl, hi, hm]
     · obtain ⟨Ab2, cb2, Ak2, ck2, g1, g2⟩ := hkid i hii
       refine ⟨Ab2, cb2, Ak2, ck2, g1, fun w' hb => ih _ (List.getElem_mem hii) w' Ab2 cb2 Ak2 ck2 ((g2.below hb).more fun i hi => Nat.lt_of_lt_of_le hi hb.size) (h2 _ (List.getElem_mem hii)) ?_⟩
       have hs1 := sum_take e.kids i hii
       have hs2 := El.size_kids e
       omega
theorem catchU_idle (p q : Addr) (w : World) :
 CallsD Tryz.prog 37 #[.pointer (some p), .pointer (some q)] .returning w fun e u' w' => e = .returned (.tuple #[]) ∧ u' = .returning ∧ w' = w := by
 refine callsD_of_wpS Tryz.func37 rfl fun c₀ cs hu => ?_
 apply wpS_seq
 apply wpS_region
 simp [wpOpsS, go_sem, recoverD, hu, Tryz.ntmps37, Exit.thenS]
 refine wpS_of_wp ?_
 change Code.wp _ _ _ { tmps := #[.pointer (some p), .pointer (some q), .nilIface, .nilIface, undef, undef, undef, undef], defers := [] } _
 go_wp2_with fail
 cases c₀
 simp_all [bodyPostS, results, Tryz.results37]
theorem catchU_pan (b1 b2 e : Nat) (older : List PanicEntry) (w : World) (x y : Value) (h1 : w.heap[b1]? = some (.cells #[x] 40 (0, 0))) (h2 : w.heap[b2]? = some (.cells #[y] 34 (0, 0))) (h12 : b1 ≠ b2) :
 CallsD Tryz.prog 37 #[.pointer (some ⟨b1, 0, none⟩), .pointer (some ⟨b2, 0, none⟩)] (.panicking ({ v := .iface 34 (.int .i64 (e : Int)), recovered := false } :: older)) w fun en u' w' =>
  en = .returned (.tuple #[]) ∧ u' = .panicking ({ v := .iface 34 (.int .i64 (e : Int)), recovered := true } :: older) ∧ w' = ((w.setCell ⟨b1, 0, none⟩ (.slice none 0 0)).setCell ⟨b2, 0, none⟩ (.int .i64 (e : Int))).drew := by
 refine callsD_of_wpS Tryz.func37 rfl fun c₀ cs hu => ?_
 apply wpS_seq
 apply wpS_region
 simp [wpOpsS, go_sem, recoverD, hu, Tryz.ntmps37, Exit.thenS]
 refine wpS_of_wp ?_
 change Code.wp _ _ _ { tmps := #[.pointer (some ⟨b1, 0, none⟩), .pointer (some ⟨b2, 0, none⟩), .iface 34 (.int .i64 (e : Int)), .iface 34 (.int .i64 (e : Int)), undef, undef, undef, undef], defers := [] } _
 have x0 := cell_of_one h1
 have x1 := free_of_one h1
 have y0 := cell_of_one h2
 have y1 := free_of_one h2
 replace h1 := Hd h1
 replace h2 := Hd h2
 go_wp2_with fail
 have hta : ∀ w : World, (Instr.typeAssert (.iface 34 (.int .i64 (e : Int))) 20 34 false).run Tryz.prog w = .ok (.int .i64 (e : Int)) w := fun w => by kernel_rfl
 go_region
 all_goals
  change bodyPostS _ _ _ _ _ _ _ _ _
  simp [bodyPostS, results, Tryz.results37]
theorem two_cells {w W : World} {z : Nat} {x y : Value} (hNW : W.heap[z + 1]? = some (.cells #[x] 40 (0, 0))) (hEW : W.heap[z + 2]? = some (.cells #[y] 34 (0, 0))) (hB : Below z w W) (a b : Value) :
 ((W.setCell ⟨z + 1, 0, none⟩ a).setCell ⟨z + 2, 0, none⟩ b).heap[z + 1]? = some (.cells #[a] 40 (0, 0)) ∧ ((W.setCell ⟨z + 1, 0, none⟩ a).setCell ⟨z + 2, 0, none⟩ b).heap[z + 2]? = some (.cells #[b] 34 (0, 0)) ∧ Below z w ((W.setCell ⟨z + 1, 0, none⟩ a).setCell ⟨z + 2, 0, none⟩ b) := by
 refine ⟨?_, ?_, (hB.setCell (by show z ≤ z + 1; omega) _).setCell (by show z ≤ z + 2; omega) _⟩
 · rw [_root_.Go.heap_setCell_other _ _ _ _ (by show z + 1 ≠ z + 2; omega), _root_.Go.heap_setCell_same _ _ _ _ _ _ hNW]
   rfl
 · rw [_root_.Go.heap_setCell_same _ _ _ _ _ _ ((_root_.Go.heap_setCell_other _ _ _ _ (by show z + 2 ≠ z + 1; omega)).trans hEW)]
   rfl
def PutQ (q : List Nat × Nat) (w : World) (en : Ending) (w' : World) : Prop :=
 ∃ A' c', en = .returned (.tuple #[.slice A' q.1.length c', .int .i64 (q.2 : Int)]) ∧ Src w' w'.heap.size A' c' q.1 ∧ c' ≤ 9223372036854775807 ∧ Below w.heap.size w w'
theorem put_none (e : Nat) {w w' : World} (h : Below w.heap.size w w') : PutQ ([], e) w (.returned (.tuple #[.slice none 0 0, .int .i64 (e : Int)])) w' := ⟨none, 0, rfl, Src.none_ _ _, by omega, h⟩
set_option maxRecDepth 8000 in
set_option maxHeartbeats 800000 in
theorem putp_arg (e : El) (B K : Nat) (w : World) (Ab : Option Addr) (cb : Nat) (Ak : Option Addr) (ck : Nat) (CW : Hid (∀ w', Below w.heap.size w w' → Calls Tryz.prog 35 #[.agg #[.int .i64 e.c, .bool e.m, .int .i64 e.n, .slice Ab B cb, .slice Ak K ck]] w' fun en w'' => en = .returned (.bool false) ∧ Below w'.heap.size w' w'')) :
 Calls Tryz.prog 14 #[.agg #[.int .i64 e.c, .bool e.m, .int .i64 e.n, .slice Ab B cb, .slice Ak K ck]] w (PutQ ([], 2) w) := by
 obtain ⟨W0, hW0⟩ : ∃ W0, W0 = ((w.alloc (.cells #[.int .i64 e.c, .bool e.m, .int .i64 e.n, .slice Ab B cb, .slice Ak K ck] 43)).alloc (.cells #[.slice none 0 0] 40)).alloc (.cells #[.int .i64 0] 34) := ⟨_, rfl⟩
 have hB0 : Below w.heap.size w W0 := by rw [hW0]; go_grown
 have hz0 : W0.heap.size = w.heap.size + 3 := by rw [hW0]; simp
 have hX0 : W0.heap[w.heap.size]? = some (.cells #[.int .i64 e.c, .bool e.m, .int .i64 e.n, .slice Ab B cb, .slice Ak K ck] 43 (0, 0)) := by
  rw [hW0, Below.heap_alloc _ _ _ (by simp; omega), Below.heap_alloc _ _ _ (by simp)]; exact heap_alloc_new w _
 have hN0 : W0.heap[w.heap.size + 1]? = some (.cells #[.slice none 0 0] 40 (0, 0)) := by
  rw [hW0, Below.heap_alloc _ _ _ (by simp)]; exact heap_alloc_new (w.alloc _) _ |> (by simpa using ·)
 have hE0 : W0.heap[w.heap.size + 2]? = some (.cells #[.int .i64 0] 34 (0, 0)) := by
  rw [hW0]; exact heap_alloc_new ((w.alloc _).alloc _) _ |> (by simpa using ·)
 replace hB0 := Hd hB0
 replace hz0 := Hd hz0
 replace hX0 := Hd hX0
 replace hN0 := Hd hN0
 replace hE0 := Hd hE0
 go_enter_defers Tryz.func14, Tryz.ntmps14
 go_wp2_with fail
 rw [← hW0]
 replace hW0 := Hd hW0
 refine (CW.out W0 hB0.out).mono ?_
 rintro en w1 ⟨rfl, hb1⟩
 have hX1 : w1.heap[w.heap.size]? = some (.cells #[.int .i64 e.c, .bool e.m, .int .i64 e.n, .slice Ab B cb, .slice Ak K ck] 43 (0, 0)) := (hb1.block _ (by rw [hz0.out]; omega)).trans hX0.out
 have hN1 : w1.heap[w.heap.size + 1]? = some (.cells #[.slice none 0 0] 40 (0, 0)) := (hb1.block _ (by rw [hz0.out]; omega)).trans hN0.out
 have hE1 : w1.heap[w.heap.size + 2]? = some (.cells #[.int .i64 0] 34 (0, 0)) := (hb1.block _ (by rw [hz0.out]; omega)).trans hE0.out
 have hB1 : Below w.heap.size w w1 := hB0.out.trans (hb1.mono (by rw [hz0.out]; omega))
 have hs1 : w.heap.size + 3 ≤ w1.heap.size := by have := hb1.size; have := hz0.out; omega
 obtain ⟨a0, a1, a2, a3, a4, _⟩ := cells5 hX1
 have n0 := cell_of_one hN1
 have n1 := free_of_one hN1
 have m0 := cell_of_one hE1
 have m1 := free_of_one hE1
 replace hX1 := Hd hX1
 replace hN1 := Hd hN1
 replace hE1 := Hd hE1
 replace hB1 := Hd hB1
 replace hb1 := Hd hb1
 dsimp only []
 go_wp2_with fail
 obtain ⟨W9, hW9⟩ : ∃ W9, W9 = (w1.setCell ⟨w.heap.size + 1, 0, none⟩ (.slice none 0 0)).setCell ⟨w.heap.size + 2, 0, none⟩ (.int .i64 2) := ⟨_, rfl⟩
 obtain ⟨c2, c3', c4⟩ := two_cells hN1.out hE1.out hB1.out (.slice none 0 0) (.int .i64 2)
 have HX : (w1.setCell ⟨w.heap.size + 1, 0, none⟩ (.slice none 0 0)).setCell ⟨w.heap.size + 2, 0, none⟩ (.int .i64 2) = W9 := hW9.symm
 rw [← hW9] at c2 c3' c4
 rw [HX]
 clear HX hW9
 have q5 := cell_of_one c2
 have q6 := cell_of_one c3'
 exact ⟨.tuple #[.slice none 0 0, .int .i64 2], by simp [results, Tryz.results14, go_sem, q5, q6], put_none 2 c4⟩
set_option maxRecDepth 8000 in
set_option maxHeartbeats 800000 in
theorem putp_deep (e : El) (B K : Nat) (w : World) (Ab : Option Addr) (cb : Nat) (Ak : Option Addr) (ck : Nat) (CW : Hid (∀ w', Below w.heap.size w w' → Calls Tryz.prog 35 #[.agg #[.int .i64 e.c, .bool e.m, .int .i64 e.n, .slice Ab B cb, .slice Ak K ck]] w' fun en w'' => en = .returned (.bool true) ∧ Below w'.heap.size w' w'')) (CT : Hid (∀ w', Below w.heap.size w w' → Calls Tryz.prog 36 #[.agg #[.int .i64 e.c, .bool e.m, .int .i64 e.n, .slice Ab B cb, .slice Ak K ck]] w' fun en w'' => en = .returned (.bool true) ∧ Below w'.heap.size w' w'')) :
 Calls Tryz.prog 14 #[.agg #[.int .i64 e.c, .bool e.m, .int .i64 e.n, .slice Ab B cb, .slice Ak K ck]] w (PutQ ([], 15) w) := by
 obtain ⟨W0, hW0⟩ : ∃ W0, W0 = ((w.alloc (.cells #[.int .i64 e.c, .bool e.m, .int .i64 e.n, .slice Ab B cb, .slice Ak K ck] 43)).alloc (.cells #[.slice none 0 0] 40)).alloc (.cells #[.int .i64 0] 34) := ⟨_, rfl⟩
 have hB0 : Below w.heap.size w W0 := by rw [hW0]; go_grown
 have hz0 : W0.heap.size = w.heap.size + 3 := by rw [hW0]; simp
 have hX0 : W0.heap[w.heap.size]? = some (.cells #[.int .i64 e.c, .bool e.m, .int .i64 e.n, .slice Ab B cb, .slice Ak K ck] 43 (0, 0)) := by
  rw [hW0, Below.heap_alloc _ _ _ (by simp; omega), Below.heap_alloc _ _ _ (by simp)]; exact heap_alloc_new w _
 have hN0 : W0.heap[w.heap.size + 1]? = some (.cells #[.slice none 0 0] 40 (0, 0)) := by
  rw [hW0, Below.heap_alloc _ _ _ (by simp)]; exact heap_alloc_new (w.alloc _) _ |> (by simpa using ·)
 have hE0 : W0.heap[w.heap.size + 2]? = some (.cells #[.int .i64 0] 34 (0, 0)) := by
  rw [hW0]; exact heap_alloc_new ((w.alloc _).alloc _) _ |> (by simpa using ·)
 replace hB0 := Hd hB0
 replace hz0 := Hd hz0
 replace hX0 := Hd hX0
 replace hN0 := Hd hN0
 replace hE0 := Hd hE0
 go_enter_defers Tryz.func14, Tryz.ntmps14
 go_wp2_with fail
 rw [← hW0]
 replace hW0 := Hd hW0
 refine (CW.out W0 hB0.out).mono ?_
 rintro en w1 ⟨rfl, hb1⟩
 have hX1 : w1.heap[w.heap.size]? = some (.cells #[.int .i64 e.c, .bool e.m, .int .i64 e.n, .slice Ab B cb, .slice Ak K ck] 43 (0, 0)) := (hb1.block _ (by rw [hz0.out]; omega)).trans hX0.out
 have hN1 : w1.heap[w.heap.size + 1]? = some (.cells #[.slice none 0 0] 40 (0, 0)) := (hb1.block _ (by rw [hz0.out]; omega)).trans hN0.out
 have hE1 : w1.heap[w.heap.size + 2]? = some (.cells #[.int .i64 0] 34 (0, 0)) := (hb1.block _ (by rw [hz0.out]; omega)).trans hE0.out
 have hB1 : Below w.heap.size w w1 := hB0.out.trans (hb1.mono (by rw [hz0.out]; omega))
 have hs1 : w.heap.size + 3 ≤ w1.heap.size := by have := hb1.size; have := hz0.out; omega
 obtain ⟨a0, a1, a2, a3, a4, _⟩ := cells5 hX1
 have n0 := cell_of_one hN1
 have n1 := free_of_one hN1
 have m0 := cell_of_one hE1
 have m1 := free_of_one hE1
 replace hX1 := Hd hX1
 replace hN1 := Hd hN1
 replace hE1 := Hd hE1
 replace hB1 := Hd hB1
 replace hb1 := Hd hb1
 dsimp only []
 go_wp2_with fail
 refine (CT.out w1 hB1.out).mono ?_
 rintro en w2 ⟨rfl, hb2⟩
 have hX2 : w2.heap[w.heap.size]? = some (.cells #[.int .i64 e.c, .bool e.m, .int .i64 e.n, .slice Ab B cb, .slice Ak K ck] 43 (0, 0)) := (hb2.block _ (by omega)).trans hX1.out
 have hN2 : w2.heap[w.heap.size + 1]? = some (.cells #[.slice none 0 0] 40 (0, 0)) := (hb2.block _ (by omega)).trans hN1.out
 have hE2 : w2.heap[w.heap.size + 2]? = some (.cells #[.int .i64 0] 34 (0, 0)) := (hb2.block _ (by omega)).trans hE1.out
 have hB2 : Below w.heap.size w w2 := hB1.out.trans (hb2.mono (by omega))
 have hs2 : w.heap.size + 3 ≤ w2.heap.size := by have := hb2.size; omega
 clear a0 a1 a2 a3 a4 n0 n1 m0 m1
 obtain ⟨a0, a1, a2, a3, a4, _⟩ := cells5 hX2
 have n0 := cell_of_one hN2
 have n1 := free_of_one hN2
 have m0 := cell_of_one hE2
 have m1 := free_of_one hE2
 replace hX2 := Hd hX2
 replace hN2 := Hd hN2
 replace hE2 := Hd hE2
 replace hB2 := Hd hB2
 replace hb2 := Hd hb2
 dsimp only []
 go_wp2_with fail
 obtain ⟨W9, hW9⟩ : ∃ W9, W9 = (w2.setCell ⟨w.heap.size + 1, 0, none⟩ (.slice none 0 0)).setCell ⟨w.heap.size + 2, 0, none⟩ (.int .i64 15) := ⟨_, rfl⟩
 obtain ⟨c2, c3', c4⟩ := two_cells hN2.out hE2.out hB2.out (.slice none 0 0) (.int .i64 15)
 have HX : (w2.setCell ⟨w.heap.size + 1, 0, none⟩ (.slice none 0 0)).setCell ⟨w.heap.size + 2, 0, none⟩ (.int .i64 15) = W9 := hW9.symm
 rw [← hW9] at c2 c3' c4
 rw [HX]
 clear HX hW9
 have q5 := cell_of_one c2
 have q6 := cell_of_one c3'
 exact ⟨.tuple #[.slice none 0 0, .int .i64 15], by simp [results, Tryz.results14, go_sem, q5, q6], put_none 15 c4⟩
set_option maxRecDepth 8000 in
set_option maxHeartbeats 800000 in
theorem putp_ok (e : El) (B K : Nat) (w : World) (Ab : Option Addr) (cb : Nat) (Ak : Option Addr) (ck : Nat) (CW : Hid (∀ w', Below w.heap.size w w' → Calls Tryz.prog 35 #[.agg #[.int .i64 e.c, .bool e.m, .int .i64 e.n, .slice Ab B cb, .slice Ak K ck]] w' fun en w'' => en = .returned (.bool true) ∧ Below w'.heap.size w' w'')) (CT : Hid (∀ w', Below w.heap.size w w' → Calls Tryz.prog 36 #[.agg #[.int .i64 e.c, .bool e.m, .int .i64 e.n, .slice Ab B cb, .slice Ak K ck]] w' fun en w'' => en = .returned (.bool false) ∧ Below w'.heap.size w' w'')) (CE : Hid (∀ w', Below w.heap.size w w' → Calls Tryz.prog 38 #[.agg #[.int .i64 e.c, .bool e.m, .int .i64 e.n, .slice Ab B cb, .slice Ak K ck]] w' (EncPost e w'))) (hL : e.enc.length ≤ 16384) :
 Calls Tryz.prog 14 #[.agg #[.int .i64 e.c, .bool e.m, .int .i64 e.n, .slice Ab B cb, .slice Ak K ck]] w (PutQ (e.enc, 0) w) := by
 obtain ⟨W0, hW0⟩ : ∃ W0, W0 = ((w.alloc (.cells #[.int .i64 e.c, .bool e.m, .int .i64 e.n, .slice Ab B cb, .slice Ak K ck] 43)).alloc (.cells #[.slice none 0 0] 40)).alloc (.cells #[.int .i64 0] 34) := ⟨_, rfl⟩
 have hB0 : Below w.heap.size w W0 := by rw [hW0]; go_grown
 have hz0 : W0.heap.size = w.heap.size + 3 := by rw [hW0]; simp
 have hX0 : W0.heap[w.heap.size]? = some (.cells #[.int .i64 e.c, .bool e.m, .int .i64 e.n, .slice Ab B cb, .slice Ak K ck] 43 (0, 0)) := by
  rw [hW0, Below.heap_alloc _ _ _ (by simp; omega), Below.heap_alloc _ _ _ (by simp)]; exact heap_alloc_new w _
 have hN0 : W0.heap[w.heap.size + 1]? = some (.cells #[.slice none 0 0] 40 (0, 0)) := by
  rw [hW0, Below.heap_alloc _ _ _ (by simp)]; exact heap_alloc_new (w.alloc _) _ |> (by simpa using ·)
 have hE0 : W0.heap[w.heap.size + 2]? = some (.cells #[.int .i64 0] 34 (0, 0)) := by
  rw [hW0]; exact heap_alloc_new ((w.alloc _).alloc _) _ |> (by simpa using ·)
 replace hB0 := Hd hB0
 replace hz0 := Hd hz0
 replace hX0 := Hd hX0
 replace hN0 := Hd hN0
 replace hE0 := Hd hE0
 have hmf : ∀ (fn : Fn) (first cap : Array Value) (w : World), (Instr.makeFunc fn first cap).run Tryz.prog w = .ok (.func fn first cap) w := fun _ _ _ _ => rfl
 go_enter_defers Tryz.func14, Tryz.ntmps14
 go_wp2_with fail
 rw [← hW0]
 replace hW0 := Hd hW0
 refine (CW.out W0 hB0.out).mono ?_
 rintro en w1 ⟨rfl, hb1⟩
 have hX1 : w1.heap[w.heap.size]? = some (.cells #[.int .i64 e.c, .bool e.m, .int .i64 e.n, .slice Ab B cb, .slice Ak K ck] 43 (0, 0)) := (hb1.block _ (by rw [hz0.out]; omega)).trans hX0.out
 have hN1 : w1.heap[w.heap.size + 1]? = some (.cells #[.slice none 0 0] 40 (0, 0)) := (hb1.block _ (by rw [hz0.out]; omega)).trans hN0.out
 have hE1 : w1.heap[w.heap.size + 2]? = some (.cells #[.int .i64 0] 34 (0, 0)) := (hb1.block _ (by rw [hz0.out]; omega)).trans hE0.out
 have hB1 : Below w.heap.size w w1 := hB0.out.trans (hb1.mono (by rw [hz0.out]; omega))
 have hs1 : w.heap.size + 3 ≤ w1.heap.size := by have := hb1.size; have := hz0.out; omega
 obtain ⟨a0, a1, a2, a3, a4, _⟩ := cells5 hX1
 have n0 := cell_of_one hN1
 have n1 := free_of_one hN1
 have m0 := cell_of_one hE1
 have m1 := free_of_one hE1
 replace hX1 := Hd hX1
 replace hN1 := Hd hN1
 replace hE1 := Hd hE1
 replace hB1 := Hd hB1
 replace hb1 := Hd hb1
 dsimp only []
 go_wp2_with fail
 refine (CT.out w1 hB1.out).mono ?_
 rintro en w2 ⟨rfl, hb2⟩
 have hX2 : w2.heap[w.heap.size]? = some (.cells #[.int .i64 e.c, .bool e.m, .int .i64 e.n, .slice Ab B cb, .slice Ak K ck] 43 (0, 0)) := (hb2.block _ (by omega)).trans hX1.out
 have hN2 : w2.heap[w.heap.size + 1]? = some (.cells #[.slice none 0 0] 40 (0, 0)) := (hb2.block _ (by omega)).trans hN1.out
 have hE2 : w2.heap[w.heap.size + 2]? = some (.cells #[.int .i64 0] 34 (0, 0)) := (hb2.block _ (by omega)).trans hE1.out
 have hB2 : Below w.heap.size w w2 := hB1.out.trans (hb2.mono (by omega))
 have hs2 : w.heap.size + 3 ≤ w2.heap.size := by have := hb2.size; omega
 clear a0 a1 a2 a3 a4 n0 n1 m0 m1
 obtain ⟨a0, a1, a2, a3, a4, _⟩ := cells5 hX2
 have n0 := cell_of_one hN2
 have n1 := free_of_one hN2
 have m0 := cell_of_one hE2
 have m1 := free_of_one hE2
 replace hX2 := Hd hX2
 replace hN2 := Hd hN2
 replace hE2 := Hd hE2
 replace hB2 := Hd hB2
 replace hb2 := Hd hb2
 dsimp only []
 go_wp2_with fail
 refine (CE.out w2 hB2.out).mono ?_
 rintro en w3 ⟨hok, hbad, hb3⟩
 have hN3 : w3.heap[w.heap.size + 1]? = some (.cells #[.slice none 0 0] 40 (0, 0)) := (hb3.block _ (by omega)).trans hN2.out
 have hE3 : w3.heap[w.heap.size + 2]? = some (.cells #[.int .i64 0] 34 (0, 0)) := (hb3.block _ (by omega)).trans hE2.out
 have hB3 : Below w.heap.size w w3 := hB2.out.trans (hb3.mono (by omega))
 clear a0 a1 a2 a3 a4 n0 n1 m0 m1
 obtain ⟨A3, c3, rfl, ho3⟩ := hok hL
 obtain ⟨Y, hY⟩ : ∃ Y, Y = e.enc.length := ⟨_, rfl⟩
 rw [← hY] at ho3 ⊢
 have hsrc := ho3.src
 have hcap := ho3.cap
 have hab : ∀ ad, A3 = some ad → w2.heap.size ≤ ad.block := fun ad h => by
  have := (ho3.lt ad.block (by rw [h]; rfl)).1
  exact this
 have n0 := cell_of_one hN3
 have n1 := free_of_one hN3
 have m0 := cell_of_one hE3
 have m1 := free_of_one hE3
 replace hN3 := Hd hN3
 replace hE3 := Hd hE3
 replace hB3 := Hd hB3
 replace hb3 := Hd hb3
 replace hY := Hd hY
 replace ho3 := Hd ho3
 replace hsrc := Hd hsrc
 replace hab := Hd hab
 clear hok hbad
 dsimp only []
 go_wp2_with fail
 obtain ⟨W9, hW9⟩ : ∃ W9, W9 = (w3.setCell ⟨w.heap.size + 1, 0, none⟩ (.slice A3 Y c3)).setCell ⟨w.heap.size + 2, 0, none⟩ (.int .i64 0) := ⟨_, rfl⟩
 obtain ⟨c2, c3', c4⟩ := two_cells hN3.out hE3.out hB3.out (.slice A3 Y c3) (.int .i64 0)
 have HX : (w3.setCell ⟨w.heap.size + 1, 0, none⟩ (.slice A3 Y c3)).setCell ⟨w.heap.size + 2, 0, none⟩ (.int .i64 0) = W9 := hW9.symm
 have hsrc9 : Src W9 W9.heap.size A3 c3 e.enc := by
  refine ⟨hsrc.out.le, hsrc.out.nil, fun ad he => ⟨fun h0 => ?_, fun j n hj => ?_⟩⟩
  · have := (hsrc.out.at_ ad he).1 h0
    rw [hW9]
    simpa [World.setCell] using this
  · have h1 := (hsrc.out.at_ ad he).2 j n hj
    have h2 := hab.out ad he
    rw [hW9, World.cell?_of_block (heap_setCell_other _ _ _ _ (by rw [add_block]; show ad.block ≠ w.heap.size + 2; omega)), World.cell?_of_block (heap_setCell_other _ _ _ _ (by rw [add_block]; show ad.block ≠ w.heap.size + 1; omega))]
    exact h1
 rw [← hW9] at c2 c3' c4
 rw [HX]
 clear HX hW9
 refine leaves_cons (f := 37) (args := #[.pointer (some ⟨w.heap.size + 1, 0, none⟩), .pointer (some ⟨w.heap.size + 2, 0, none⟩)]) (by simp) (by simp [go_sem]) ?_
 refine (catchU_idle _ _ _).mono ?_
 rintro en u' w'' ⟨rfl, rfl, rfl⟩
 have q5 := cell_of_one c2
 have q6 := cell_of_one c3'
 exact ⟨.tuple #[.slice A3 Y c3, .int .i64 0], by simp [results, Tryz.results14, go_sem, q5, q6], ⟨A3, c3, by rw [hY.out]; rfl, hsrc9, hcap, c4⟩⟩
set_option maxRecDepth 8000 in
set_option maxHeartbeats 800000 in
theorem putp_big (e : El) (B K : Nat) (w : World) (Ab : Option Addr) (cb : Nat) (Ak : Option Addr) (ck : Nat) (CW : Hid (∀ w', Below w.heap.size w w' → Calls Tryz.prog 35 #[.agg #[.int .i64 e.c, .bool e.m, .int .i64 e.n, .slice Ab B cb, .slice Ak K ck]] w' fun en w'' => en = .returned (.bool true) ∧ Below w'.heap.size w' w'')) (CT : Hid (∀ w', Below w.heap.size w w' → Calls Tryz.prog 36 #[.agg #[.int .i64 e.c, .bool e.m, .int .i64 e.n, .slice Ab B cb, .slice Ak K ck]] w' fun en w'' => en = .returned (.bool false) ∧ Below w'.heap.size w' w'')) (CE : Hid (∀ w', Below w.heap.size w w' → Calls Tryz.prog 38 #[.agg #[.int .i64 e.c, .bool e.m, .int .i64 e.n, .slice Ab B cb, .slice Ak K ck]] w' (EncPost e w'))) (hL : 16384 < e.enc.length) :
 Calls Tryz.prog 14 #[.agg #[.int .i64 e.c, .bool e.m, .int .i64 e.n, .slice Ab B cb, .slice Ak K ck]] w (PutQ ([], 3) w) := by
 obtain ⟨W0, hW0⟩ : ∃ W0, W0 = ((w.alloc (.cells #[.int .i64 e.c, .bool e.m, .int .i64 e.n, .slice Ab B cb, .slice Ak K ck] 43)).alloc (.cells #[.slice none 0 0] 40)).alloc (.cells #[.int .i64 0] 34) := ⟨_, rfl⟩
 have hB0 : Below w.heap.size w W0 := by rw [hW0]; go_grown
 have hz0 : W0.heap.size = w.heap.size + 3 := by rw [hW0]; simp
 have hX0 : W0.heap[w.heap.size]? = some (.cells #[.int .i64 e.c, .bool e.m, .int .i64 e.n, .slice Ab B cb, .slice Ak K ck] 43 (0, 0)) := by
  rw [hW0, Below.heap_alloc _ _ _ (by simp; omega), Below.heap_alloc _ _ _ (by simp)]; exact heap_alloc_new w _
 have hN0 : W0.heap[w.heap.size + 1]? = some (.cells #[.slice none 0 0] 40 (0, 0)) := by
  rw [hW0, Below.heap_alloc _ _ _ (by simp)]; exact heap_alloc_new (w.alloc _) _ |> (by simpa using ·)
 have hE0 : W0.heap[w.heap.size + 2]? = some (.cells #[.int .i64 0] 34 (0, 0)) := by
  rw [hW0]; exact heap_alloc_new ((w.alloc _).alloc _) _ |> (by simpa using ·)
 replace hB0 := Hd hB0
 replace hz0 := Hd hz0
 replace hX0 := Hd hX0
 replace hN0 := Hd hN0
 replace hE0 := Hd hE0
 have hmf : ∀ (fn : Fn) (first cap : Array Value) (w : World), (Instr.makeFunc fn first cap).run Tryz.prog w = .ok (.func fn first cap) w := fun _ _ _ _ => rfl
 go_enter_defers Tryz.func14, Tryz.ntmps14
 go_wp2_with fail
 rw [← hW0]
 replace hW0 := Hd hW0
 refine (CW.out W0 hB0.out).mono ?_
 rintro en w1 ⟨rfl, hb1⟩
 have hX1 : w1.heap[w.heap.size]? = some (.cells #[.int .i64 e.c, .bool e.m, .int .i64 e.n, .slice Ab B cb, .slice Ak K ck] 43 (0, 0)) := (hb1.block _ (by rw [hz0.out]; omega)).trans hX0.out
 have hN1 : w1.heap[w.heap.size + 1]? = some (.cells #[.slice none 0 0] 40 (0, 0)) := (hb1.block _ (by rw [hz0.out]; omega)).trans hN0.out
 have hE1 : w1.heap[w.heap.size + 2]? = some (.cells #[.int .i64 0] 34 (0, 0)) := (hb1.block _ (by rw [hz0.out]; omega)).trans hE0.out
 have hB1 : Below w.heap.size w w1 := hB0.out.trans (hb1.mono (by rw [hz0.out]; omega))
 have hs1 : w.heap.size + 3 ≤ w1.heap.size := by have := hb1.size; have := hz0.out; omega
 obtain ⟨a0, a1, a2, a3, a4, _⟩ := cells5 hX1
 have n0 := cell_of_one hN1
 have n1 := free_of_one hN1
 have m0 := cell_of_one hE1
 have m1 := free_of_one hE1
 replace hX1 := Hd hX1
 replace hN1 := Hd hN1
 replace hE1 := Hd hE1
 replace hB1 := Hd hB1
 replace hb1 := Hd hb1
 dsimp only []
 go_wp2_with fail
 refine (CT.out w1 hB1.out).mono ?_
 rintro en w2 ⟨rfl, hb2⟩
 have hX2 : w2.heap[w.heap.size]? = some (.cells #[.int .i64 e.c, .bool e.m, .int .i64 e.n, .slice Ab B cb, .slice Ak K ck] 43 (0, 0)) := (hb2.block _ (by omega)).trans hX1.out
 have hN2 : w2.heap[w.heap.size + 1]? = some (.cells #[.slice none 0 0] 40 (0, 0)) := (hb2.block _ (by omega)).trans hN1.out
 have hE2 : w2.heap[w.heap.size + 2]? = some (.cells #[.int .i64 0] 34 (0, 0)) := (hb2.block _ (by omega)).trans hE1.out
 have hB2 : Below w.heap.size w w2 := hB1.out.trans (hb2.mono (by omega))
 have hs2 : w.heap.size + 3 ≤ w2.heap.size := by have := hb2.size; omega
 clear a0 a1 a2 a3 a4 n0 n1 m0 m1
 obtain ⟨a0, a1, a2, a3, a4, _⟩ := cells5 hX2
 have n0 := cell_of_one hN2
 have n1 := free_of_one hN2
 have m0 := cell_of_one hE2
 have m1 := free_of_one hE2
 replace hX2 := Hd hX2
 replace hN2 := Hd hN2
 replace hE2 := Hd hE2
 replace hB2 := Hd hB2
 replace hb2 := Hd hb2
 dsimp only []
 go_wp2_with fail
 refine (CE.out w2 hB2.out).mono ?_
 rintro en w3 ⟨hok, hbad, hb3⟩
 have hN3 : w3.heap[w.heap.size + 1]? = some (.cells #[.slice none 0 0] 40 (0, 0)) := (hb3.block _ (by omega)).trans hN2.out
 have hE3 : w3.heap[w.heap.size + 2]? = some (.cells #[.int .i64 0] 34 (0, 0)) := (hb3.block _ (by omega)).trans hE2.out
 have hB3 : Below w.heap.size w w3 := hB2.out.trans (hb3.mono (by omega))
 clear a0 a1 a2 a3 a4 n0 n1 m0 m1
 obtain rfl := hbad hL
 obtain ⟨W9, hW9⟩ : ∃ W9, W9 = (w3.setCell ⟨w.heap.size + 1, 0, none⟩ (.slice none 0 0)).setCell ⟨w.heap.size + 2, 0, none⟩ (.int .i64 ((3 : Nat) : Int)) := ⟨_, rfl⟩
 obtain ⟨c2, c3', c4⟩ := two_cells hN3 hE3 hB3 (.slice none 0 0) (.int .i64 ((3 : Nat) : Int))
 rw [← hW9] at c2 c3' c4
 refine leaves_cons (f := 37) (args := #[.pointer (some ⟨w.heap.size + 1, 0, none⟩), .pointer (some ⟨w.heap.size + 2, 0, none⟩)]) (by simp) (by simp [go_sem]) ?_
 refine (catchU_pan _ _ 3 [] w3 _ _ hN3 hE3 (by omega)).mono ?_
 rintro en u' w'' ⟨rfl, rfl, rfl⟩
 rw [← hW9]
 clear hW9
 have q5 := cell_of_one c2
 have q6 := cell_of_one c3'
 refine ⟨.tuple #[.slice none 0 0, .int .i64 ((3 : Nat) : Int)], ?_, put_none 3 ⟨c4.os, c4.tape, c4.output, c4.size, c4.block⟩⟩
 simp [results, Tryz.results14, go_sem, q5, q6]
theorem putp_el (e : El) (w : World) (Ab : Option Addr) (cb : Nat) (Ak : Option Addr) (ck : Nat) (hin : ElIn w (Cb w) e Ab cb Ak ck) (hsz : e.size ≤ 1000000) :
 Calls Tryz.prog 14 #[elV e Ab cb Ak ck] w (PutQ e.put w) := by
 have hk : ∀ w', Below w.heap.size w w' → ElIn w' (Cb w') e Ab cb Ak ck := fun w' hb => (hin.keep fun p hp => hb.cell hp.lt).more fun b hc => hc.below hb hc.lt
 have CW := fun w' hb => well_any e e.b.length e.kids.length w' Ab cb Ak ck (hk w' hb) hsz rfl rfl
 have CT := fun w' hb => toodeep_any e e.b.length e.kids.length w' Ab cb Ak ck (hk w' hb) hsz rfl rfl
 unfold elV
 rcases e.put_cases with ⟨h1, h2⟩ | ⟨h1, h3, h2⟩ | ⟨h1, h3, h4, h2⟩ | ⟨h1, h3, h4, h2⟩
 · rw [h2]
   rw [h1] at CW
   exact putp_arg e _ _ w Ab cb Ak ck (Hd CW)
 · rw [h2]
   rw [h1] at CW
   rw [decide_eq_true h3] at CT
   exact putp_deep e _ _ w Ab cb Ak ck (Hd CW) (Hd CT)
 · rw [h2]
   rw [h1] at CW
   rw [decide_eq_false (by omega)] at CT
   exact putp_big e _ _ w Ab cb Ak ck (Hd CW) (Hd CT) (Hd fun w' hb => enc_el e w' Ab cb Ak ck ((hk w' hb).more fun b hc => hc.lt) h1 hsz) h4
 · rw [h2]
   rw [h1] at CW
   rw [decide_eq_false (by omega)] at CT
   exact putp_ok e _ _ w Ab cb Ak ck (Hd CW) (Hd CT) (Hd fun w' hb => enc_el e w' Ab cb Ak ck ((hk w' hb).more fun b hc => hc.lt) h1 hsz) h4
end Go.Proofs.YtcbiedonmibfaaaGreatDoor
