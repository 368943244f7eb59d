/-
  The program's below: the lists of the kids of what a level has.
-/
import Derived.Test.YtgdoepkoakpnbaaLvl
import Derived.Test.YtgdoepkoakpnbaaHead
import Derived.Deep.LoopGhost
namespace Go.Proofs.Ytgdoepkoakpnbaa
open Go.RowKit

theorem info_list : (Try.prog.info? 25).map (fun i => (i.zero, i.size, i.bytes)) = some (some (.slice none 0 0), 1, 24) := by kernel_rfl

/-- What holds while below goes on: what was found, D: what is in the map, S: how great it may be. -/
structure BRel (w wr : World) (mb : Nat) (M : List Key) (L L1 : PL) (V : Value) (D : Key → Prop) (S : Nat) : Prop where
  grown : w.grownBy wr (some mb)
  map : MapK kv cl1 wr mb (M ++ keys L1)
  own : OwnL wr w.heap.size V (keys L1)
  lst : ∀ x ∈ L1, Lst w x.1 x.2
  kid : ∀ x ∈ L1, ∃ y ∈ L, ∃ e ∈ y.2.list, x.2 = e.k
  closed : ∀ q, D q → q ∈ M ++ keys L1
  sz : szL L1 ≤ S
theorem BRel.weaken {w wr : World} {mb : Nat} {M : List Key} {L L1 : PL} {V : Value} {D D' : Key → Prop} {S S' : Nat} (h : BRel w wr mb M L L1 V D S) (hD : ∀ q, D' q → D q) (hS : S ≤ S') : BRel w wr mb M L L1 V D' S' :=
  ⟨h.grown, h.map, h.own, h.lst, h.kid, fun q hq => h.closed q (hD q hq), Nat.le_trans h.sz hS⟩
theorem BRel.clean {w wr : World} {mb : Nat} {M : List Key} {L L1 : PL} {V : Value} {D : Key → Prop} {S : Nat} (h : BRel w wr mb M L L1 V D S) (hM : ∀ p ∈ M, Cl w p.1) : ∀ p ∈ M ++ keys L1, Cl w p.1 := by
  intro p hp
  rcases List.mem_append.1 hp with hp | hp
  · exact hM p hp
  · unfold keys at hp
    obtain ⟨x, hx, rfl⟩ := List.mem_map.1 hp
    exact (h.lst x hx).cl
theorem BRel.move {w wr w' : World} {mb : Nat} {M : List Key} {L L1 : PL} {V : Value} {D : Key → Prop} {S : Nat} (h : BRel w wr mb M L L1 V D S) (hb : Below wr.heap.size wr w') : BRel w w' mb M L L1 V D S :=
  ⟨grown_below h.grown hb, h.map.below hb, h.own.keep fun b hc => hb.block b hc.lt, h.lst, h.kid, h.closed, h.sz⟩
/-- The map was asked, and the place was there. -/
theorem BRel.old {w wr w4 : World} {mb : Nat} {M : List Key} {L L1 : PL} {V : Value} {D : Key → Prop} {S : Nat} {q : Key} (h : BRel w wr mb M L L1 V D S) (hq : q ∈ M ++ keys L1) (hm : MapK kv cl1 w4 mb (addK (M ++ keys L1) q)) (hg : wr.grownBy w4 (some mb)) : BRel w w4 mb M L L1 V (fun r => D r ∨ r = q) S := by
  unfold addK at hm
  rw [if_pos hq] at hm
  refine ⟨grown_trans h.grown hg, hm, h.own.keep fun b hc => grown_cl hg h.map.map hc, h.lst, h.kid, fun r hr => ?_, h.sz⟩
  rcases hr with hr | rfl
  · exact h.closed r hr
  · exact hq
/-- The map was asked, the place was not there, and its list was appended. -/
theorem BRel.fresh {w wr w4 w6 : World} {mb : Nat} {M : List Key} {L L1 : PL} {V : Value} {D : Key → Prop} {S g cap ck : Nat} {q : Key} {k : Fo} {y : Key × Fo} {e : El} {cs : List Value} {o : Obj} (h : BRel w wr mb M L L1 V D S) (hM : ∀ p ∈ M, Cl w p.1) (hmap0 : ∃ es c, w.heap[mb]? = some (.map es c))
    (hq : q ∉ M ++ keys L1) (hm : MapK kv cl1 w4 mb (addK (M ++ keys L1) q)) (hg : wr.grownBy w4 (some mb)) (hl : Lst w q k) (hy : y ∈ L) (he : e ∈ y.2.list) (hk : k = e.k) (hck : q.2.2 ≤ ck) (hck2 : ck ≤ 9223372036854775807)
    (hcs : rowL (keys L1) cs) (hown : w6.ownsRow w.heap.size 25 1 (.slice (some ⟨g, 0, none⟩) ((keys L1).length + 1) cap) ((keys L1).length + 1) (cs ++ [.slice (some ⟨q.1, q.2.1, none⟩) q.2.2 ck]))
    (hg6 : (w4.alloc o).grownBy w6 V.ownBlock) (hV : ∀ b, V.ownBlock = some b → w.heap.size ≤ b) :
    BRel w w6 mb M L (L1 ++ [(q, k)]) (.slice (some ⟨g, 0, none⟩) ((keys L1).length + 1) cap) (fun r => D r ∨ r = q) (S + k.size) := by
  have hmb : mb < w.heap.size := by
    obtain ⟨es, c, h⟩ := hmap0
    exact (Array.getElem?_eq_some_iff.1 h).1
  unfold addK at hm
  rw [if_neg hq] at hm
  have hkeys : keys (L1 ++ [(q, k)]) = keys L1 ++ [q] := by unfold keys; simp
  have hw4 : w.grownBy w4 (some mb) := grown_trans h.grown hg
  have hw6 : w.grownBy w6 (some mb) := by
    refine ⟨hg6.os.trans hw4.os, hg6.tape.trans hw4.tape, hg6.output.trans hw4.output, Nat.le_trans hw4.size (Nat.le_trans (by simp) hg6.size), fun i hi hne => ?_⟩
    have h4 := hw4.size
    rw [hg6.block i (by simp; omega) (fun e => by have := hV i e.symm; omega), Below.heap_alloc _ _ _ (by omega)]
    exact hw4.block i hi hne
  have hmblk : w6.heap[mb]? = w4.heap[mb]? := by
    have h4 := hw4.size
    rw [hg6.block mb (by simp; omega) (fun e => by have := hV mb e.symm; omega), Below.heap_alloc _ _ _ (by omega)]
  obtain ⟨⟨es, clock, hb1, hb2⟩, _⟩ := hm
  have hcl : ∀ p ∈ M ++ keys (L1 ++ [(q, k)]), Cl w p.1 := by
    intro p hp
    rw [hkeys, ← List.append_assoc] at hp
    rcases List.mem_append.1 hp with hp | hp
    · exact h.clean hM p hp
    · simp only [List.mem_singleton] at hp
      subst hp
      exact hl.cl
  refine ⟨hw6, ⟨⟨es, clock, hmblk.trans hb1, by rw [hkeys, ← List.append_assoc]; exact hb2⟩, fun p hp => Cl.grown (hcl p hp) hw6 hmap0⟩, ⟨cs ++ [.slice (some ⟨q.1, q.2.1, none⟩) q.2.2 ck], by rw [hkeys, List.length_append]; exact hown, ?_⟩, ?_, ?_, ?_, ?_⟩
  · rw [hkeys]
    refine ⟨by simp [hcs.1], fun i hi => ?_⟩
    by_cases hil : i < (keys L1).length
    · obtain ⟨c, g1, g2, g3⟩ := hcs.2 i hil
      refine ⟨c, ?_, g2, ?_⟩
      · rw [List.getElem_append_left hil]; exact g1
      · rw [List.getElem?_append_left (by rw [hcs.1]; exact hil), List.getElem_append_left hil]; exact g3
    · have hie : i = (keys L1).length := by simp at hi; omega
      subst hie
      refine ⟨ck, ?_, hck2, ?_⟩
      · rw [List.getElem_append_right (Nat.le_refl _)]; simpa using hck
      · rw [List.getElem?_append_right (by rw [hcs.1]; exact Nat.le_refl _), List.getElem_append_right (Nat.le_refl _)]
        simp [hcs.1]
  · intro x hx
    rcases List.mem_append.1 hx with hx | hx
    · exact h.lst x hx
    · simp only [List.mem_singleton] at hx
      subst hx
      exact hl
  · intro x hx
    rcases List.mem_append.1 hx with hx | hx
    · exact h.kid x hx
    · simp only [List.mem_singleton] at hx
      subst hx
      exact ⟨y, hy, e, he, hk⟩
  · intro r hr
    rw [hkeys, ← List.append_assoc]
    rcases hr with hr | rfl
    · exact List.mem_append_left _ (h.closed r hr)
    · simp
  · rw [szL_snoc]
    have := h.sz
    simp only
    omega
theorem sumL_take_le {α : Type} (f : α → Nat) (l : List α) (k : Nat) : sumL ((l.take k).map f) ≤ sumL (l.map f) := by
  induction l generalizing k with
  | nil => simp
  | cons a l ih =>
    cases k with
    | zero => simp [sumL]
    | succ k =>
      rw [List.take_succ_cons, List.map_cons, List.map_cons, sumL_cons, sumL_cons]
      have := ih k
      omega
/-- What below answers. -/
def BelowPost (M : List Key) (L : PL) (mb : Nat) (w : World) (en : Ending) (w' : World) : Prop :=
  ∃ (L1 : PL) (A : Option Addr) (c : Nat), en = .returned (.slice A (keys L1).length c) ∧ BRel w w' mb M L L1 (.slice A (keys L1).length c) (fun q => ∃ y ∈ L, ∃ j, j < y.2.list.length ∧ Kid w y.1 j q) (kidszL L)

set_option maxRecDepth 8000 in
set_option maxHeartbeats 1600000 in
theorem below_any (M : List Key) (L : PL) (mb base lc n : Nat) (LA : Option Addr) (w : World) (hL : OwnL w base (.slice LA n lc) (keys L)) (hn : n = L.length) (hM : MapK kv cl1 w mb M) (hl : ∀ x ∈ L, Lst w x.1 x.2) (hsz : szL L ≤ 1000000) :
    Calls Try.prog 39 #[.slice LA n lc, .map (some mb)] w (BelowPost M L mb w) := by
  obtain ⟨i0, hi, hz0, hz1, hz2⟩ := info_parts info_list
  have hmap0 := hM.map
  have hMc : ∀ p ∈ M, Cl w p.1 := fun p hp => hM.cl p hp
  have hkl := kidszL_le w L hl
  have hlen : (keys L).length = L.length := by unfold keys; simp
  obtain ⟨A', c', hv, hrow⟩ := hL.form
  injection hv with hv1 hv2 hv3
  subst hv1 hv3
  clear hv2
  have h0 : Hid (BRel w w mb M L [] (.slice none 0 0) (fun q => ∃ y ∈ L.take 0, ∃ j, j < y.2.list.length ∧ Kid w y.1 j q) (kidszL (L.take 0))) :=
    Lib.hid ⟨⟨rfl, rfl, rfl, Nat.le_refl _, fun _ _ _ => rfl⟩, by simpa [keys] using hM, OwnL.nil _ _, (fun x hx => by cases hx), (fun x hx => by cases hx), (fun q hq => by simp at hq), Nat.zero_le _⟩
  replace hL := Lib.hid hL
  replace hM := Lib.hid hM
  replace hl := Lib.hid hl
  replace hrow := Lib.hid hrow
  replace hlen := Lib.hid hlen
  replace hn := Lib.hid hn
  replace hmap0 := Lib.hid hmap0
  replace hMc := Lib.hid hMc
  replace hkl := Lib.hid hkl
  go_enter Try.func39, Try.ntmps39
  go_wp2_with fail
  go_loopw [5, 12] (fun v i wr => ∃ (k : Nat) (L1 : PL) (A : Option Addr) (c : Nat), k ≤ n ∧ i = .int .i64 (k : Int) ∧ v = .slice A (keys L1).length c ∧ Hid (BRel w wr mb M L L1 (.slice A (keys L1).length c) (fun q => ∃ y ∈ L.take k, ∃ j, j < y.2.list.length ∧ Kid w y.1 j q) (kidszL (L.take k)))) (fun _ i _ => n - (intOf i).toNat)
  case atStart => exact ⟨0, [], none, 0, Nat.zero_le _, rfl, rfl, h0⟩
  case round =>
    obtain ⟨k, L1, A, c, hk, rfl, rfl, HR⟩ := hrel
    clear h0
    by_cases hlt : k < n
    · have hkL : k < L.length := by rw [← hn.out]; exact hlt
      obtain ⟨g, rfl, hbg, hcg, hnc, hc9, hcells⟩ := hrow.out (by rw [hlen.out]; omega)
      obtain ⟨cap, hcap1, hcap2, hcell⟩ := hcells k (by rw [hlen.out]; exact hkL)
      have hrow1 : wr.cell? ⟨g, k, none⟩ = w.cell? ⟨g, k, none⟩ := World.cell?_of_block (grown_cl HR.out.grown hmap0.out hcg)
      have hgc := hrow1.trans hcell
      have i0' : (0 : Int) ≤ (k : Int) := by omega
      have i1' : (k : Int) < (n : Int) := by omega
      have hnlc : n ≤ lc := by have := hn.out; have := hlen.out; omega
      obtain ⟨y, hy⟩ : ∃ y, y = L[k] := ⟨_, rfl⟩
      have hyk : (keys L)[k]'(by rw [hlen.out]; exact hkL) = y.1 := by rw [hy]; unfold keys; simp
      rw [hyk] at hgc hcap1
      have hyl := hl.out y (by rw [hy]; exact List.getElem_mem hkL)
      have hyL : y ∈ L := by rw [hy]; exact List.getElem_mem hkL
      obtain ⟨⟨yb, yo, yn⟩, yg⟩ := y
      simp only [] at hgc hcap1
      have hylen := hyl.len
      have hypos := hyl.pos
      simp only [] at hylen hypos
      clear hrow1 hcells hcell hcg hbg hyk
      replace hyl := Lib.hid hyl
      replace hyL := Lib.hid hyL
      replace hy := Lib.hid hy
      replace hylen := Lib.hid hylen
      obtain ⟨D, hD⟩ : ∃ D : Key → Prop, D = fun q => ∃ y ∈ L.take k, ∃ j, j < y.2.list.length ∧ Kid w y.1 j q := ⟨_, rfl⟩
      obtain ⟨S, hS⟩ : ∃ S, S = kidszL (L.take k) := ⟨_, rfl⟩
      rw [← hD, ← hS] at HR
      have hbig : S + kidsz yg.list ≤ 1000000 := by
        have h1 := kidszL_take L k hkL
        have h2 : kidszL (L.take (k + 1)) ≤ kidszL L := by
          unfold kidszL
          exact sumL_take_le _ L (k + 1)
        have h3 := hkl.out
        rw [← hy.out] at h1
        simp only [] at h1
        omega
      have HR0 : Hid (BRel w wr mb M L L1 (.slice A (keys L1).length c) (fun q => D q ∨ ∃ j', j' < 0 ∧ Kid w (yb, yo, yn) j' q) (S + kidsz (yg.list.take 0))) := Lib.hid (HR.out.weaken (fun q hq => by rcases hq with hq | ⟨j', hj', _⟩; exact hq; omega) (by simp))
      replace hD := Lib.hid hD
      replace hS := Lib.hid hS
      go_wp2_with fail
      go_loopw [5, 18] (fun v i wr2 => ∃ (j : Nat) (L2 : PL) (A : Option Addr) (c : Nat), j ≤ yn ∧ i = .int .i64 (j : Int) ∧ v = .slice A (keys L2).length c ∧ Hid (BRel w wr2 mb M L L2 (.slice A (keys L2).length c) (fun q => D q ∨ ∃ j', j' < j ∧ Kid w (yb, yo, yn) j' q) (S + kidsz (yg.list.take j)))) (fun _ i _ => yn - (intOf i).toNat)
      case atStart => exact ⟨0, L1, A, c, Nat.zero_le _, rfl, rfl, HR0⟩
      case round =>
        obtain ⟨j, L2, A2, c2, hj, rfl, rfl, HI⟩ := hrel
        clear HR0 HR hgc
        by_cases hjlt : j < yn
        · have hjl : j < yg.list.length := by rw [hylen.out]; exact hjlt
          obtain ⟨Ab, cb, Ak, ck, hat, hin⟩ := hyl.out.elem j hjl
          simp only [] at hat
          have hin0 := hyl.out.cl
          simp only [] at hin0
          have kw : ∀ o, wr.cell? ⟨yb, o, none⟩ = w.cell? ⟨yb, o, none⟩ := fun o => World.cell?_of_block (grown_cl HI.out.grown hmap0.out hin0)
          have a0 := (kw _).trans hat.c
          have a1 := (kw _).trans hat.m
          have a2 := (kw _).trans hat.n
          have a3 := (kw _).trans hat.b
          have a4 := (kw _).trans hat.k
          have hkz := kidsz_take yg.list j hjl
          have hkm := kidsz_mono yg.list (j + 1)
          have hmem : yg.list[j] ∈ yg.list := List.getElem_mem hjl
          obtain ⟨r, hrr⟩ : ∃ r, yg.list[j] = r := ⟨_, rfl⟩
          rw [hrr] at hat hin a0 a1 a2 a3 a4 hkz hmem
          clear hrr kw hin0
          have j0 : (0 : Int) ≤ (j : Int) := by omega
          have j1 : (j : Int) < (yn : Int) := by omega
          have hcap3 : yn ≤ cap := hcap1
          have hszw := HI.out.grown.size
          by_cases hk0 : r.kids.length = 0
          · have kd : decide (0 < (r.kids.length : Int)) = false := decide_eq_false (by omega)
            have HN : Hid (∀ ob : Obj, BRel w (wr.alloc ob) mb M L L2 (.slice A2 (keys L2).length c2) (fun q => D q ∨ ∃ j', j' < j + 1 ∧ Kid w (yb, yo, yn) j' q) (S + kidsz (yg.list.take (j + 1)))) := Lib.hid fun ob =>
              (HI.out.move ((Below.refl _ _).alloc (Nat.le_refl _) ob)).weaken (fun q hq => by
                rcases hq with hq | ⟨j', hj', hq⟩
                · exact .inl hq
                · rcases Nat.lt_or_ge j' j with h | h
                  · exact .inr ⟨j', h, hq⟩
                  · obtain rfl : j' = j := by omega
                    exact absurd hq (kid_none (p := (yb, yo, yn)) (j := j') hat hk0)) (by omega)
            replace hat := Lib.hid hat
            replace hin := Lib.hid hin
            go_wp2_with fail
            go_roundw
            case rel => exact ⟨j + 1, L2, A2, c2, by omega, by go_num, rfl, HN.out _⟩
            case measure => simp [intOf]; omega
          · obtain ⟨b, o, rfl, hkid, hlst⟩ := kid_of (p := (yb, yo, yn)) (j := j) hat hin (by omega)
            have kd : decide (0 < (r.kids.length : Int)) = true := decide_eq_true (by omega)
            have hkle : r.kids.length ≤ ck := hin.k.le
            have hk9 := hin.k.big
            have CPL := fun w' => placeOf_any b o r.kids.length ck w' (by omega)
            have CEN : ∀ w', Below wr.heap.size wr w' → Calls Try.prog 53 #[.map (some mb), kv (b, o, r.kids.length)] w' fun e w'' => e = .returned (.bool (decide ((b, o, r.kids.length) ∉ M ++ keys L2))) ∧ MapK kv cl1 w'' mb (addK (M ++ keys L2) (b, o, r.kids.length)) ∧ w'.grownBy w'' (some mb) := fun w' hb =>
              enter_any (b, o, r.kids.length) mb _ w' (HI.out.map.below hb) ((hlst.cl.of (grown_cl HI.out.grown hmap0.out hlst.cl)).below hb (Nat.lt_of_lt_of_le hlst.cl.lt hszw))
            have hDj : ∀ q, (D q ∨ ∃ j', j' < j + 1 ∧ Kid w (yb, yo, yn) j' q) → ((D q ∨ ∃ j', j' < j ∧ Kid w (yb, yo, yn) j' q) ∨ q = (b, o, r.kids.length)) := fun q hq => by
              rcases hq with hq | ⟨j', hj', hq⟩
              · exact .inl (.inl hq)
              · rcases Nat.lt_or_ge j' j with h | h
                · exact .inl (.inr ⟨j', h, hq⟩)
                · obtain rfl : j' = j := by omega
                  exact .inr (hkid.one hq)
            obtain ⟨Kn, hKn⟩ : ∃ Kn, Kn = r.kids.length := ⟨_, rfl⟩
            rw [← hKn] at CPL CEN hDj hlst a4 kd hk0 hkle hkid
            replace hat := Lib.hid hat
            replace hin := Lib.hid hin
            replace CPL := Lib.hid CPL
            replace CEN := Lib.hid CEN
            replace hDj := Lib.hid hDj
            replace hlst := Lib.hid hlst
            replace hkid := Lib.hid hkid
            replace hKn := Lib.hid hKn
            replace hkz := Lib.hid hkz
            by_cases hq : (b, o, Kn) ∈ M ++ keys L2
            · go_wp2_with fail
              refine (CPL.out _).mono ?_
              rintro en w3 ⟨rfl, hb3⟩
              have hB3 : Below wr.heap.size wr w3 := ((Below.refl _ wr).alloc (Nat.le_refl _) _).trans (hb3.mono (by simp))
              replace hb3 := Lib.hid hb3
              dsimp only []
              go_wp2_with fail
              refine (CEN.out _ hB3).mono ?_
              rintro en w4 ⟨rfl, hm4, hg4⟩
              rw [decide_eq_false (not_not_intro hq)]
              have HN := Lib.hid (((HI.out.move hB3).old hq hm4 hg4).weaken hDj.out (show S + kidsz (yg.list.take j) ≤ S + kidsz (yg.list.take (j + 1)) by have := hkz.out; omega))
              replace hm4 := Lib.hid hm4
              replace hg4 := Lib.hid hg4
              replace hB3 := Lib.hid hB3
              dsimp only []
              go_wp2_with fail
              go_roundw
              case rel => exact ⟨j + 1, L2, A2, c2, by omega, by go_num, rfl, HN⟩
              case measure => simp [intOf]; omega
            · go_wp2_with fail
              refine (CPL.out _).mono ?_
              rintro en w3 ⟨rfl, hb3⟩
              have hB3 : Below wr.heap.size wr w3 := ((Below.refl _ wr).alloc (Nat.le_refl _) _).trans (hb3.mono (by simp))
              have hX3 : w3.heap[wr.heap.size]? = some (.cells #[.int .i64 r.c, .bool r.m, .int .i64 r.n, .slice Ab r.b.length cb, .slice (some ⟨b, o, none⟩) Kn ck] 27 (0, 0)) := by
                rw [hb3.block _ (by simp)]
                exact heap_alloc_new wr _
              have hs3 := hB3.size
              have hs3' := hb3.size
              replace hb3 := Lib.hid hb3
              dsimp only []
              go_wp2_with fail
              refine (CEN.out _ hB3).mono ?_
              rintro en w4 ⟨rfl, hm4, hg4⟩
              rw [decide_eq_true hq]
              have hmap3 := (HI.out.move hB3).map.map
              have hX4 : w4.heap[wr.heap.size]? = some (.cells #[.int .i64 r.c, .bool r.m, .int .i64 r.n, .slice Ab r.b.length cb, .slice (some ⟨b, o, none⟩) Kn ck] 27 (0, 0)) := by
                rw [grown_cl hg4 hmap3 ⟨_, _, hX3⟩]
                exact hX3
              have hs4 := hg4.size
              obtain ⟨cs, hown3, hrow3⟩ := (HI.out.move hB3).own
              have hV : ∀ b, (Value.slice A2 (keys L2).length c2).ownBlock = some b → w.heap.size ≤ b := fun b hb => by
                obtain ⟨_, h0 | ⟨g, cap, cur, hv, hbs, _⟩⟩ := hown3
                · rw [h0.1] at hb
                  cases hb
                · rw [hv] at hb
                  injection hb with hb
                  have hb' : g = b := hb
                  omega
              have hown4 : w4.ownsRow w.heap.size 25 1 (.slice A2 (keys L2).length c2) (keys L2).length cs := by
                obtain ⟨h1, h0 | ⟨g, cap, cur, hv, hbs, hg, hn, hm, hs, hx⟩⟩ := hown3
                · exact ⟨h1, .inl h0⟩
                · exact ⟨h1, .inr ⟨g, cap, cur, hv, hbs, (grown_cl hg4 hmap3 ⟨_, _, hg⟩).trans hg, hn, hm, hs, hx⟩⟩
              have hklen : (keys L2).length ≤ 1000000 := by
                have h1 := szL_len w L2 HI.out.lst
                have h2 := HI.out.sz
                have h3 := kidsz_mono yg.list j
                unfold keys
                rw [List.length_map]
                omega
              have hb4 := heap_alloc_new w4 (.cells #[.slice (some ⟨b, o, none⟩) Kn ck] 25)
              have FR : Hid (∀ (w6 : World) (g cap : Nat), w6.ownsRow w.heap.size 25 1 (.slice (some ⟨g, 0, none⟩) ((keys L2).length + 1) cap) ((keys L2).length + 1) (cs ++ [.slice (some ⟨b, o, none⟩) Kn ck]) → (w4.alloc (.cells #[.slice (some ⟨b, o, none⟩) Kn ck] 25)).grownBy w6 (Value.slice A2 (keys L2).length c2).ownBlock →
                  BRel w w6 mb M L (L2 ++ [((b, o, Kn), r.k)]) (.slice (some ⟨g, 0, none⟩) ((keys L2).length + 1) cap) (fun q => D q ∨ ∃ j', j' < j + 1 ∧ Kid w (yb, yo, yn) j' q) (S + kidsz (yg.list.take (j + 1)))) := Lib.hid fun w6 g cap h1 h2 =>
                ((HI.out.move hB3).fresh hMc.out hmap0.out hq hm4 hg4 hlst.out hyL.out hmem rfl hkle hk9 hrow3 h1 h2 hV).weaken hDj.out (by have := hkz.out; omega)
              replace hX3 := Lib.hid hX3
              replace hm4 := Lib.hid hm4
              replace hg4 := Lib.hid hg4
              replace hB3 := Lib.hid hB3
              replace hmap3 := Lib.hid hmap3
              replace hown3 := Lib.hid hown3
              replace hown4 := Lib.hid hown4
              replace hrow3 := Lib.hid hrow3
              replace hV := Lib.hid hV
              obtain ⟨x0, x1, x2, x3, x4, _⟩ := cells5 hX4
              replace hX4 := Lib.hid hX4
              have hn4 := World.news_of_block (cs := #[.slice (some ⟨b, o, none⟩) Kn ck]) (fr := (0, 0)) hb4
              replace hb4 := Lib.hid hb4
              replace hn4 := Lib.hid hn4
              dsimp only []
              go_wp2_with (at_builtin; refine wpList_append_lies _ rfl (.tmp 33) (.tmp 36) 83 rfl w.heap.size 25 i0 _ 1 24 Try.underlying83 hi hz0 hz1 hz2 rfl (by decide) (.slice A2 (keys L2).length c2) (keys L2).length cs rfl (World.ownsRow.alloc hown4.out _) ⟨w4.heap.size, 0, none⟩ 1 1 [.slice (some ⟨b, o, none⟩) Kn ck] rfl rfl hn4.out (by intro u hu; simp only [List.mem_singleton] at hu; subst hu; rfl) (by decide) (by simp only [maxLen]; omega) (by omega) (by simp; omega) (w4.heap.size + 1) (by simp) ?hgo)
              case hgo =>
                intro g cap w6 hown hg6 hat6 hgl
                have HN := Lib.hid (FR.out w6 g cap hown hg6)
                replace hown := Lib.hid hown
                replace hg6 := Lib.hid hg6
                clear hat6
                have hkl2 : (keys (L2 ++ [((b, o, Kn), r.k)])).length = (keys L2).length + 1 := by unfold keys; simp
                go_wp2_with fail
                go_roundw
                case rel => exact ⟨j + 1, L2 ++ [((b, o, Kn), r.k)], some ⟨g, 0, none⟩, cap, by omega, by go_num, by rw [hkl2], by rw [hkl2]; exact HN⟩
                case measure => simp [intOf]; omega
        · have hjj : j = yn := by omega
          have HN : Hid (BRel w wr mb M L L2 (.slice A2 (keys L2).length c2) (fun q => ∃ y ∈ L.take (k + 1), ∃ j, j < y.2.list.length ∧ Kid w y.1 j q) (kidszL (L.take (k + 1)))) := Lib.hid (HI.out.weaken (fun q hq => by
              obtain ⟨y, hy1, jj, hj1, hj2⟩ := hq
              rw [List.take_succ_eq_append_getElem hkL] at hy1
              rcases List.mem_append.1 hy1 with hy1 | hy1
              · refine .inl ?_
                rw [hD.out]
                exact ⟨y, hy1, jj, hj1, hj2⟩
              · simp only [List.mem_singleton] at hy1
                rw [← hy.out] at hy1
                subst hy1
                simp only [] at hj1 hj2
                exact .inr ⟨jj, by rw [hjj, ← hylen.out]; exact hj1, hj2⟩) (by
              have h1 := kidszL_take L k hkL
              rw [← hy.out] at h1
              simp only [] at h1
              have h2 := kidsz_mono yg.list j
              have h3 := hS.out
              omega))
          go_wp2_with fail
          go_roundw
          case rel => exact ⟨k + 1, L2, A2, c2, by omega, by go_num, rfl, HN⟩
          case measure => simp [intOf]; omega
    · have hkk : k = n := by omega
      have HN : Hid (BRel w wr mb M L L1 (.slice A (keys L1).length c) (fun q => ∃ y ∈ L, ∃ j, j < y.2.list.length ∧ Kid w y.1 j q) (kidszL L)) := by
        have := HR.out
        rw [List.take_of_length_le (by rw [hkk, hn.out]; exact Nat.le_refl _)] at this
        exact Lib.hid this
      clear HR
      go_wp2_with fail
      go_ret
      exact ⟨L1, A, c, rfl, HN.out⟩
end Go.Proofs.Ytgdoepkoakpnbaa
