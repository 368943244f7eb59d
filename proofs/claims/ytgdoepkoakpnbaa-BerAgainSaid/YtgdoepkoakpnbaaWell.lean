/-
  The program's wellFormed.
-/
import Derived.Test.YtgdoepkoakpnbaaBelow
namespace Go.Proofs.Ytgdoepkoakpnbaa
open Go.RowKit

/-- All elements of the list at p are well formed but for their kids. -/
def Chk (w : World) (p : Key) : Prop := ∀ j, j < p.2.2 → ∀ (r : El) (Ab : Option Addr) (cb : Nat) (Ak : Option Addr) (ck : Nat), ElAt w (Cl w) r p.1 (p.2.1 + j * 5) Ab cb Ak ck → r.one = true
def Clo (w : World) (M : List Key) (p : Key) : Prop := ∀ j, j < p.2.2 → ∀ q, Kid w p j q → q ∈ M
theorem at_one {w : World} {I J : Nat → Prop} {r e : El} {b o : Nat} {Ab Ab' : Option Addr} {cb cb' : Nat} {Ak Ak' : Option Addr} {ck ck' : Nat} (h : ElAt w I r b o Ab cb Ak ck) (h' : ElAt w J e b o Ab' cb' Ak' ck') : r.one = e.one := by
  have e1 := h.c.symm.trans h'.c
  have e2 := h.m.symm.trans h'.m
  have e3 := h.n.symm.trans h'.n
  have e4 := h.b.symm.trans h'.b
  have e5 := h.k.symm.trans h'.k
  simp only [Option.some.injEq, Value.int.injEq, Value.bool.injEq, Value.slice.injEq, true_and] at e1 e2 e3 e4 e5
  have k1 := one_right r
  have k2 := one_right e
  rw [e1, e2, e3, e4.2.1, e5.2.1] at k1
  rw [Bool.eq_iff_iff]
  exact k1.trans k2.symm
theorem chk_of {w : World} {p : Key} {g : Fo} (h : Lst w p g) (ha : g.list.all El.one = true) : Chk w p := by
  intro j hj r Ab cb Ak ck hr
  have hjl : j < g.list.length := by rw [h.len]; exact hj
  obtain ⟨Ab', cb', Ak', ck', h1, _⟩ := h.elem j hjl
  rw [at_one hr h1]
  rw [List.all_eq_true] at ha
  exact ha _ (List.getElem_mem hjl)
theorem ElAt.back {w w' : World} {I J : Nat → Prop} {r : El} {b o : Nat} {Ab : Option Addr} {cb : Nat} {Ak : Option Addr} {ck : Nat} (h : ElAt w' I r b o Ab cb Ak ck) (hb : w'.heap[b]? = w.heap[b]?) : ElAt w J r b o Ab cb Ak ck := by
  have k : ∀ o, w.cell? ⟨b, o, none⟩ = w'.cell? ⟨b, o, none⟩ := fun o => World.cell?_of_block hb.symm
  exact ⟨(k _).trans h.c, (k _).trans h.m, (k _).trans h.n, (k _).trans h.b, (k _).trans h.k⟩
theorem Kid.back {w w' : World} {p q : Key} {j : Nat} (h : Kid w' p j q) (hb : w'.heap[p.1]? = w.heap[p.1]?) : Kid w p j q := by
  obtain ⟨ck, h1, h2⟩ := h
  exact ⟨ck, (World.cell?_of_block hb.symm).trans h1, h2⟩
theorem Chk.move {w w' : World} {p : Key} (h : Chk w p) (hb : w'.heap[p.1]? = w.heap[p.1]?) : Chk w' p := fun j hj r Ab cb Ak ck hr => h j hj r Ab cb Ak ck (hr.back hb)
theorem Clo.move {w w' : World} {M : List Key} {p : Key} (h : Clo w M p) (hb : w'.heap[p.1]? = w.heap[p.1]?) : Clo w' M p := fun j hj q hq => h j hj q (hq.back hb)
theorem Clo.more {w : World} {M : List Key} {p : Key} (h : Clo w M p) (N : List Key) : Clo w (M ++ N) p := fun j hj q hq => List.mem_append_left _ (h j hj q hq)

theorem all_right {w : World} {S : List Key} (h : ∀ p ∈ S, Chk w p ∧ Clo w S p) : ∀ (n : Nat) (g : Fo) (p : Key), g.size ≤ n → p ∈ S → Lst w p g → g.right = true := by
  intro n
  induction n with
  | zero =>
    intro g p hs hp hl
    have h1 := kidsz_le g
    have h2 := hl.len
    have h3 := hl.pos
    omega
  | succ n ih =>
    intro g p hs hp hl
    obtain ⟨hc, ho⟩ := h p hp
    rw [Fo.right_list, List.all_eq_true]
    intro e he
    obtain ⟨j, hj, rfl⟩ := List.getElem_of_mem he
    obtain ⟨Ab, cb, Ak, ck, h1, h2⟩ := hl.elem j hj
    have hjp : j < p.2.2 := by rw [← hl.len]; exact hj
    have h3 := hc j hjp _ _ _ _ _ h1
    rw [El.right, h3, Bool.true_and]
    by_cases hk : g.list[j].kids.length = 0
    · have : g.list[j].kids = [] := List.eq_nil_of_length_eq_zero hk
      rw [Fo.right_list, show g.list[j].k.list = [] from this]
      rfl
    · obtain ⟨b, o, _, h5, h6⟩ := kid_of h1 h2 (by omega)
      refine ih _ _ ?_ (ho j hjp _ h5) h6
      have h7 := kidsz_le g
      have h8 := kidsz_take g.list j hj
      have h9 := kidsz_mono g.list (j + 1)
      omega

structure WInv (e : El) (root : Key) (wr : World) (M : List Key) (L : PL) : Prop where
  lst : ∀ x ∈ L, Lst wr x.1 x.2
  cl : ∀ p ∈ root :: M, Cl wr p.1
  done : ∀ p ∈ root :: M, p ∈ keys L ∨ (Chk wr p ∧ Clo wr M p)
  rt : e.right = true → ∀ x ∈ L, x.2.right = true
  top : Lst wr root (Fo.of [e])
theorem WInv.move {e : El} {root : Key} {wr w' : World} {M : List Key} {L : PL} (h : WInv e root wr M L) (hb : ∀ b, Cl wr b → w'.heap[b]? = wr.heap[b]?) : WInv e root w' M L :=
  ⟨fun x hx => (h.lst x hx).keep hb, fun p hp => (h.cl p hp).of (hb _ (h.cl p hp)), fun p hp => (h.done p hp).imp id fun ⟨a, b⟩ => ⟨a.move (hb _ (h.cl p hp)), b.move (hb _ (h.cl p hp))⟩, h.rt, h.top.keep hb⟩
theorem WInv.last {e : El} {root : Key} {wr : World} {M : List Key} (h : WInv e root wr M []) : e.right = true := by
  have hS : ∀ p ∈ root :: M, Chk wr p ∧ Clo wr (root :: M) p := fun p hp => by
    rcases h.done p hp with h1 | ⟨h1, h2⟩
    · simp [keys] at h1
    · exact ⟨h1, fun j hj q hq => List.mem_cons_of_mem _ (h2 j hj q hq)⟩
  have := all_right hS _ _ root (Nat.le_refl _) (List.mem_cons_self ..) h.top
  rw [Fo.right_list, Fo.list_of] at this
  simpa using this
theorem WInv.next {e : El} {root : Key} {wr w' : World} {M : List Key} {L L1 : PL} {mb : Nat} {V : Value} {S : Nat} (h : WInv e root wr M L) (hall : ∀ x ∈ L, x.2.list.all El.one = true) (hm : ∃ es c, wr.heap[mb]? = some (.map es c))
    (hB : BRel wr w' mb M L L1 V (fun q => ∃ y ∈ L, ∃ j, j < y.2.list.length ∧ Kid wr y.1 j q) S) : WInv e root w' (M ++ keys L1) L1 := by
  have hb : ∀ b, Cl wr b → w'.heap[b]? = wr.heap[b]? := fun b hc => grown_cl hB.grown hm hc
  have hM : ∀ p ∈ M, Cl wr p.1 := fun p hp => h.cl p (List.mem_cons_of_mem _ hp)
  have hc : ∀ p ∈ root :: (M ++ keys L1), Cl wr p.1 := by
    intro p hp
    rcases List.mem_cons.1 hp with rfl | hp
    · exact h.cl _ (List.mem_cons_self ..)
    · exact hB.clean hM p hp
  refine ⟨fun x hx => (hB.lst x hx).keep hb, fun p hp => (hc p hp).of (hb _ (hc p hp)), fun p hp => ?_, fun hr x hx => ?_, h.top.keep hb⟩
  · by_cases hin : p ∈ keys L1
    · exact .inl hin
    · have hp0 : p ∈ root :: M := by
        rcases List.mem_cons.1 hp with rfl | hp
        · exact List.mem_cons_self ..
        · rcases List.mem_append.1 hp with hp | hp
          · exact List.mem_cons_of_mem _ hp
          · exact absurd hp hin
      refine .inr ?_
      have hbp := hb _ (h.cl p hp0)
      rcases h.done p hp0 with h1 | ⟨h1, h2⟩
      · unfold keys at h1
        obtain ⟨x, hx, rfl⟩ := List.mem_map.1 h1
        refine ⟨(chk_of (h.lst x hx) (hall x hx)).move hbp, fun j hj q hq => ?_⟩
        exact hB.closed q ⟨x, hx, j, by rw [(h.lst x hx).len]; exact hj, hq.back hbp⟩
      · exact ⟨h1.move hbp, (h2.more _).move hbp⟩
  · obtain ⟨y, hy, e', he', hk⟩ := hB.kid x hx
    have := h.rt hr y hy
    rw [Fo.right_list, List.all_eq_true] at this
    have := this e' he'
    rw [El.right, Bool.and_eq_true] at this
    rw [hk]
    exact this.2
theorem right_ones {g : Fo} (h : g.right = true) : g.list.all El.one = true := by
  rw [Fo.right_list, List.all_eq_true] at h
  rw [List.all_eq_true]
  intro x hx
  have := h x hx
  rw [El.right, Bool.and_eq_true] at this
  exact this.1
/-- A list's one element, laid into memory of the call's own. -/
theorem root_lst {w W : World} {e : El} {Ab : Option Addr} {cb : Nat} {Ak : Option Addr} {ck b : Nat} (hin : ElIn w (Cl w) e Ab cb Ak ck) (hb : Below w.heap.size w W) (hc : W.heap[b]? = some (.cells #[.int .i64 e.c, .bool e.m, .int .i64 e.n, .slice Ab e.b.length cb, .slice Ak e.kids.length ck] 27 (0, 0))) : Lst W (b, 0, 1) (Fo.of [e]) := by
  refine ⟨foAt_ofR [e] b 0 fun i hi => ?_, ⟨_, _, hc⟩, by rw [Fo.list_of]; rfl, Nat.one_pos⟩
  have hi0 : i = 0 := by simpa using hi
  subst hi0
  refine ⟨Ab, cb, Ak, ck, ⟨cell_of_row _ _ _ _ _ _ hc, cell_of_row _ _ _ _ _ _ hc, cell_of_row _ _ _ _ _ _ hc, cell_of_row _ _ _ _ _ _ hc, cell_of_row _ _ _ _ _ _ hc⟩, (hin.keep fun p hp => hb.cell hp.lt).more fun x hx => hx.below hb hx.lt⟩

set_option maxRecDepth 8000 in
set_option maxHeartbeats 1600000 in
theorem well_any (e : El) (B K : Nat) (w : World) (Ab : Option Addr) (cb : Nat) (Ak : Option Addr) (ck : Nat) (hin : ElIn w (Cl w) e Ab cb Ak ck) (hsz : e.size ≤ 1000000) (hB : B = e.b.length) (hK : K = e.kids.length) :
    Calls Try.prog 20 #[.agg #[.int .i64 e.c, .bool e.m, .int .i64 e.n, .slice Ab B cb, .slice Ak K ck]] w fun en w' => en = .returned (.bool e.right) ∧ Below w.heap.size w w' := by
  have hmm := @run_makeMap Try.prog
  obtain ⟨W0, hW0⟩ : ∃ W0, W0 = (((w.alloc (.cells #[.int .i64 e.c, .bool e.m, .int .i64 e.n, .slice Ab B cb, .slice Ak K ck] 27)).alloc (.map #[] 0)).alloc (.cells #[.int .i64 e.c, .bool e.m, .int .i64 e.n, .slice Ab B cb, .slice Ak K ck] 27)).alloc (.cells #[.slice (some ⟨w.heap.size + 2, 0, none⟩) 1 1] 25) := ⟨_, rfl⟩
  have hB0 : Below w.heap.size w W0 := by rw [hW0]; go_grown
  have hz0 : W0.heap.size = w.heap.size + 4 := by rw [hW0]; simp
  have hmap0 : W0.heap[w.heap.size + 1]? = some (.map #[] 0) := by
    rw [hW0, Below.heap_alloc _ _ _ (by simp), Below.heap_alloc _ _ _ (by simp)]
    exact (MapKept.heap_alloc (w.alloc (.cells #[.int .i64 e.c, .bool e.m, .int .i64 e.n, .slice Ab B cb, .slice Ak K ck] 27)) _).1 |> (by simpa using ·)
  have hroot : W0.heap[w.heap.size + 2]? = some (.cells #[.int .i64 e.c, .bool e.m, .int .i64 e.n, .slice Ab B cb, .slice Ak K ck] 27 (0, 0)) := by
    rw [hW0, Below.heap_alloc _ _ _ (by simp)]
    exact heap_alloc_new ((w.alloc _).alloc _) _ |> (by simpa using ·)
  have hlev : W0.heap[w.heap.size + 3]? = some (.cells #[.slice (some ⟨w.heap.size + 2, 0, none⟩) 1 1] 25 (0, 0)) := by
    rw [hW0]
    exact heap_alloc_new (((w.alloc _).alloc _).alloc _) _ |> (by simpa using ·)
  have hL0 : Lst W0 (w.heap.size + 2, 0, 1) (Fo.of [e]) := root_lst hin hB0 (by rw [← hB, ← hK]; exact hroot)
  have hI0 : Hid (WInv e (w.heap.size + 2, 0, 1) W0 [] [((w.heap.size + 2, 0, 1), Fo.of [e])]) := Lib.hid ⟨(fun x hx => by simp only [List.mem_singleton] at hx; subst hx; exact hL0), (fun p hp => by simp only [List.mem_singleton] at hp; subst hp; exact hL0.cl), (fun p hp => .inl (by simpa [keys] using hp)), (fun hr x hx => by
    simp only [List.mem_singleton] at hx
    subst hx
    rw [Fo.right_list, Fo.list_of]
    simpa using hr), hL0⟩
  have hM0 : Hid (MapK kv cl1 W0 (w.heap.size + 1) []) := Lib.hid ⟨⟨#[], 0, hmap0, rfl⟩, fun p hp => by cases hp⟩
  have hO0 : Hid (OwnL W0 w.heap.size (.slice (some ⟨w.heap.size + 3, 0, none⟩) 1 1) (keys [((w.heap.size + 2, 0, 1), Fo.of [e])])) := Lib.hid ⟨[.slice (some ⟨w.heap.size + 2, 0, none⟩) 1 1], ⟨rfl, .inr ⟨w.heap.size + 3, 1, _, rfl, by omega, hlev, Nat.le_refl _, by decide, rfl, rfl⟩⟩, rfl, fun i hi => by
    have hi0 : i = 0 := by simpa [keys] using hi
    subst hi0
    exact ⟨1, by simp [keys], by omega, rfl⟩⟩
  have hs0 : szL [((w.heap.size + 2, 0, 1), Fo.of [e])] ≤ 1000000 := by
    unfold szL
    rw [List.map_singleton, Fo.size_list, Fo.list_of]
    simp [sumL]
    exact hsz
  replace hroot := Lib.hid hroot
  replace hlev := Lib.hid hlev
  replace hmap0 := Lib.hid hmap0
  replace hL0 := Lib.hid hL0
  replace hin := Lib.hid hin
  replace hB0 := Lib.hid hB0
  replace hB := Lib.hid hB
  replace hK := Lib.hid hK
  replace hz0 := Lib.hid hz0
  go_enter Try.func20, Try.ntmps20
  go_wp2_with fail
  rw [← hW0]
  replace hW0 := Lib.hid hW0
  go_loopg [4] 1000000 (fun n v wr => ∃ (L : PL) (M : List Key) (A : Option Addr) (c : Nat), v = .slice A (keys L).length c ∧ szL L ≤ n ∧ n ≤ 1000000 ∧ Hid (WInv e (w.heap.size + 2, 0, 1) wr M L) ∧ Hid (MapK kv cl1 wr (w.heap.size + 1) M) ∧ Hid (OwnL wr w.heap.size (.slice A (keys L).length c) (keys L)) ∧ Hid (Below w.heap.size w wr))
  case atStart => exact ⟨[((w.heap.size + 2, 0, 1), Fo.of [e])], [], _, _, rfl, hs0, Nat.le_refl _, hI0, hM0, hO0, hB0⟩
  case round =>
    obtain ⟨L, M, A, c, rfl, hszL, hgk, HI, HM, HO, HB⟩ := hrel
    clear hI0 hM0 hO0
    have hlen : (keys L).length = L.length := by unfold keys; simp
    have hszw := HB.out.size
    by_cases h0 : (keys L).length = 0
    · have hL : L = [] := List.eq_nil_of_length_eq_zero (by omega)
      subst hL
      have hr := Lib.hid HI.out.last
      have k0 : decide (0 < ((keys ([] : PL)).length : Int)) = false := by rfl
      replace hlen := Lib.hid hlen
      go_wp2_with fail
      go_ret
      exact ⟨by rw [hr.out]; rfl, HB.out⟩
    · have k0 : decide (0 < ((keys L).length : Int)) = true := decide_eq_true (by omega)
      obtain ⟨A', c', hv, hrow⟩ := HO.out.form
      injection hv with hv1 hv2 hv3
      subst hv1 hv3
      clear hv2
      obtain ⟨g, rfl, hbg, hcg, hnc, hc9, hcells⟩ := hrow (by omega)
      clear hrow
      obtain ⟨N, hN⟩ : ∃ N, N = (keys L).length := ⟨_, rfl⟩
      rw [← hN] at hlen hnc k0 h0 HO ⊢
      have k0' : decide (0 < N) = true := decide_eq_true (by omega)
      have hI : Hid (∀ x ∈ L.take 0, x.2.list.all El.one = true) := Lib.hid fun x hx => by simp at hx
      have hb00 := Lib.hid (Below.refl wr.heap.size wr)
      have hmapw := HM.out.map
      replace hlen := Lib.hid hlen
      replace hN := Lib.hid hN
      replace hcells := Lib.hid hcells
      replace hcg := Lib.hid hcg
      replace hmapw := Lib.hid hmapw
      go_wp2_with fail
      go_loopw [19] (fun i wr2 => ∃ k : Nat, k ≤ N ∧ i = .int .i64 (k : Int) ∧ Hid (∀ x ∈ L.take k, x.2.list.all El.one = true) ∧ Hid (Below wr.heap.size wr wr2)) (fun i _ => N - (intOf i).toNat)
      case atStart => exact ⟨0, Nat.zero_le _, rfl, hI, hb00⟩
      case round =>
        obtain ⟨k, hk, rfl, HA, HB2⟩ := hrel
        clear hI hb00
        by_cases hlt : k < N
        · have hkL : k < L.length := by rw [← hlen.out]; exact hlt
          obtain ⟨cap, hcap1, hcap2, hcell⟩ := hcells.out k (by rw [← hN.out]; exact hlt)
          obtain ⟨y, hy⟩ : ∃ y, y = L[k] := ⟨_, rfl⟩
          have hyk : (keys L)[k]'(by rw [← hN.out]; exact hlt) = y.1 := by rw [hy]; unfold keys; simp
          rw [hyk] at hcell hcap1
          have hyL : y ∈ L := by rw [hy]; exact List.getElem_mem hkL
          have hgc := (HB2.out.cell (p := ⟨g, k, none⟩) hcg.out.lt).trans hcell
          have hl2 : Lst wr y.1 y.2 := ((HI.out.move fun b hc => HB2.out.block b hc.lt).lst y hyL)
          obtain ⟨⟨yb, yo, yn⟩, yg⟩ := y
          simp only [] at hgc hcap1 hl2
          have hylen := hl2.len
          simp only [] at hylen
          have CC := contains_any yg.list yn yb yo cap (Cl wr) wr hylen hcap1 hcap2 hl2.cl.lt (fun i hi => by
            obtain ⟨Ab, cb, Ak, ck, h1, _⟩ := hl2.elem i hi
            exact ⟨Ab, cb, Ak, ck, h1⟩)
          have hrt : e.right = true → yg.list.all El.one = true := fun hr => right_ones (HI.out.rt hr _ hyL)
          have i0 : (0 : Int) ≤ (k : Int) := by omega
          have i1 : (k : Int) < (N : Int) := by omega
          obtain ⟨v, hv⟩ : ∃ v, v = yg.list.all El.one := ⟨_, rfl⟩
          rw [← hv] at CC hrt
          have hnx : v = true → ∀ x ∈ L.take (k + 1), x.2.list.all El.one = true := fun h x hx => by
            rw [List.take_succ_eq_append_getElem hkL] at hx
            rcases List.mem_append.1 hx with hx | hx
            · exact HA.out x hx
            · simp only [List.mem_singleton] at hx
              rw [hx, ← hy]
              exact hv.symm.trans h
          have hsz2 := HB2.out.size
          replace CC := Lib.hid CC
          replace hl2 := Lib.hid hl2
          replace hnx := Lib.hid hnx
          replace hrt := Lib.hid hrt
          replace hy := Lib.hid hy
          replace hv := Lib.hid hv
          replace hylen := Lib.hid hylen
          replace hyL := Lib.hid hyL
          clear hcell hyk
          cases v
          · have hr : Hid (e.right = false) := by
              refine Lib.hid ?_
              rw [Bool.eq_false_iff]
              intro h
              have := hrt.out h
              cases this
            go_wp2_with fail
            refine CC.out.mono ?_
            rintro en w3 ⟨rfl, hb3⟩
            have HB3 := Lib.hid (HB.out.trans ((HB2.out.trans (hb3.mono hsz2)).mono hszw))
            replace hb3 := Lib.hid hb3
            clear CC
            dsimp only []
            go_wp2_with fail
            go_ret
            exact ⟨by rw [hr.out]; rfl, HB3.out⟩
          · have HA2 := Lib.hid (hnx.out rfl)
            go_wp2_with fail
            refine CC.out.mono ?_
            rintro en w3 ⟨rfl, hb3⟩
            have HB3 := Lib.hid (HB2.out.trans (hb3.mono hsz2))
            replace hb3 := Lib.hid hb3
            clear CC
            dsimp only []
            go_wp2_with fail
            go_roundw
            case rel => exact ⟨k + 1, by omega, by go_num, HA2, HB3⟩
            case measure => simp [intOf]; omega
        · have hkk : k = N := by omega
          have HAll : ∀ x ∈ L, x.2.list.all El.one = true := by
            have := HA.out
            rw [List.take_of_length_le (by rw [hkk, hlen.out]; exact Nat.le_refl _)] at this
            exact this
          have hmv : ∀ b, Cl ‹World› b → True := fun _ _ => trivial
          clear hmv
          have HI2 := HI.out.move fun b hc => HB2.out.block b hc.lt
          have CB := below_any M L (w.heap.size + 1) w.heap.size c N (some ⟨g, 0, none⟩) wr (HO.out.keep fun b hc => HB2.out.block b hc.lt) hlen.out (HM.out.below HB2.out) HI2.lst (by omega)
          have hNX : ∀ (w3 : World) (L1 : PL) (V : Value), BRel wr w3 (w.heap.size + 1) M L L1 V (fun q => ∃ y ∈ L, ∃ j, j < y.2.list.length ∧ Kid wr y.1 j q) (kidszL L) → WInv e (w.heap.size + 2, 0, 1) w3 (M ++ keys L1) L1 := fun w3 L1 V hB => HI2.next HAll (HM.out.below HB2.out).map hB
          have hkl := kidszL_le wr L HI2.lst
          have hNL : N = L.length := hlen.out
          have hBw : Below w.heap.size w wr := HB.out.trans (HB2.out.mono hszw)
          have hszw2 := hBw.size
          replace CB := Lib.hid CB
          replace hNX := Lib.hid hNX
          replace HI2 := Lib.hid HI2
          replace HAll := Lib.hid HAll
          replace hNL := Lib.hid hNL
          replace hBw := Lib.hid hBw
          replace hkl := Lib.hid hkl
          go_wp2_with fail
          refine CB.out.mono ?_
          rintro en w3 ⟨L1, A3, c3, rfl, hB⟩
          have h1 := Lib.hid (hNX.out w3 L1 _ hB)
          have h2 := Lib.hid hB.map
          have h3 := Lib.hid (hB.own.base_le hszw2)
          have h4 : Hid (Below w.heap.size w w3) := Lib.hid (hBw.out.trans ((Below.refl w.heap.size wr).grown hB.grown hszw2 fun b hb => by injection hb with hb; omega))
          have h5 := hB.sz
          have h6 : szL L1 < gk := by have := hkl.out; have := hNL.out; omega
          replace hB := Lib.hid hB
          clear CB
          dsimp only []
          go_wp2_with fail
          go_roundg (szL L1)
          case measure => exact h6
          case rel => exact ⟨L1, M ++ keys L1, A3, c3, rfl, Nat.le_refl _, by omega, h1, h2, h3, h4⟩
end Go.Proofs.Ytgdoepkoakpnbaa
