/- Filters. -/
import Derived.Test.YtcbiedonmibfaaaGreatDoorF14w
import Derived.Test.YtcbiedonmibfaaaGreatDoorF14g
import Derived.Deep.LoopGhost
import Derived.Deep.RegionHeldLaw
import Derived.BigRegion
namespace Go.Proofs.YtcbiedonmibfaaaGreatDoor
open Go.RowKit Go.Lib
theorem equalB_any (L : List (List UInt8)) (A A' : Option Addr) (c c' : Nat) (I J : Nat → Prop) (W : World) (h1 : SrcS W I A c L) (h2 : SrcS W J A' c' L) :
 Calls Tryz.prog 43 #[.slice A L.length c, .slice A' L.length c'] W fun en w' => en = .returned (.bool true) ∧ Below W.heap.size W w' := by
 have hb1 := h1.big
 have hl1 := h1.le
 rcases Nat.eq_zero_or_pos L.length with h0 | h0
 · rw [h0]
   refine (Tryz.slices_Equal_string_empty A A' c 0 c' W (by omega)).mono ?_
   rintro _ w' ⟨rfl, h⟩
   subst w'
   exact ⟨rfl, Below.refl _ _⟩
 · have form : ∀ {A : Option Addr} {c : Nat} {I : Nat → Prop}, SrcS W I A c L → ∃ b o, A = some ⟨b, o, none⟩ ∧ ∀ j, j < (L.map baO).length → W.cell? ⟨b, o + j, none⟩ = some (.string ((L.map baO).getD j ByteArray.empty)) := by
    intro A c I h
    rcases A with _ | ⟨b, o, s⟩
    · have := h.nil rfl
      have := h.le
      omega
    · have hc := (h.at_ _ rfl).2
      have hs : s = none := by
       have := World.cell?_spot (hc 0 _ (List.getElem?_eq_getElem h0))
       simpa [Addr.add] using this
      subst hs
      refine ⟨b, o, rfl, fun j hj => ?_⟩
      rw [List.length_map] at hj
      have := hc j _ (List.getElem?_eq_getElem hj)
      rw [add_plain14] at this
      rw [this, List.getD_eq_getElem?_getD, List.getElem?_map, List.getElem?_eq_getElem hj]
      rfl
   obtain ⟨b, o, rfl, e1⟩ := form h1
   obtain ⟨b', o', rfl, e2⟩ := form h2
   refine (Tryz.slices_Equal_string b o L.length c b' o' L.length c' (L.map baO) (L.map baO) W (by simp) (by simp) (by omega) (by omega) e1 e2).mono ?_
   rintro _ w' ⟨rfl, q, h⟩
   subst w'
   exact ⟨by simp, below_drewE (Below.refl _ _) q⟩
set_option maxRecDepth 8000 in
set_option maxHeartbeats 3200000 in
theorem same14_any (f : Ft) (B K : Nat) (w : World) (Ak Ak' : Option Addr) (ck ck' : Nat) (Ab Ab' : Option Addr) (cb cb' : Nat) (hin : FtInZ w f Ak ck Ab cb) (hin' : FtInZ w f Ak' ck' Ab' cb') (hsz : f.num ≤ 1000000) (hB : B = f.b.length) (hK : K = f.kids.length) :
 Calls Tryz.prog 16 #[.agg #[.int .i64 f.k, .slice Ak K ck, .string (baO f.t), .string (baO f.v), .string (baO f.a), .string (baO f.z), .slice Ab B cb], .agg #[.int .i64 f.k, .slice Ak' K ck', .string (baO f.t), .string (baO f.v), .string (baO f.a), .string (baO f.z), .slice Ab' B cb']] w fun en w' => en = .returned (.bool true) ∧ Below w.heap.size w w' := by
 have hmm := @run_makeMap Tryz.prog
 obtain ⟨j0', hji, hjz0, hjz1, hjz2⟩ := info_parts info_listsF
 obtain ⟨W0, hW0⟩ : ∃ W0, W0 = ((((w.alloc (.cells #[.int .i64 f.k, .slice Ak K ck, .string (baO f.t), .string (baO f.v), .string (baO f.a), .string (baO f.z), .slice Ab B cb] 25)).alloc (.cells #[.int .i64 f.k, .slice Ak' K ck', .string (baO f.t), .string (baO f.v), .string (baO f.a), .string (baO f.z), .slice Ab' B cb'] 25)).alloc (.map #[] 0)).alloc (.cells #[.int .i64 f.k, .slice Ak K ck, .string (baO f.t), .string (baO f.v), .string (baO f.a), .string (baO f.z), .slice Ab B cb] 25)).alloc (.cells #[.int .i64 f.k, .slice Ak' K ck', .string (baO f.t), .string (baO f.v), .string (baO f.a), .string (baO f.z), .slice Ab' B cb'] 25) := ⟨_, rfl⟩
 have hB0 : Below w.heap.size w W0 := by rw [hW0]; go_grown
 have hz0 : W0.heap.size = w.heap.size + 5 := by rw [hW0]; simp
 have hmap0 : W0.heap[w.heap.size + 2]? = some (.map #[] 0) := by
  rw [hW0, Below.heap_alloc _ _ _ (by simp), Below.heap_alloc _ _ _ (by simp)]
  exact (MapKept.heap_alloc ((w.alloc (.cells #[.int .i64 f.k, .slice Ak K ck, .string (baO f.t), .string (baO f.v), .string (baO f.a), .string (baO f.z), .slice Ab B cb] 25)).alloc (.cells #[.int .i64 f.k, .slice Ak' K ck', .string (baO f.t), .string (baO f.v), .string (baO f.a), .string (baO f.z), .slice Ab' B cb'] 25)) _).1 |> (by simpa using ·)
 have hroot1 : W0.heap[w.heap.size + 3]? = some (.cells #[.int .i64 f.k, .slice Ak K ck, .string (baO f.t), .string (baO f.v), .string (baO f.a), .string (baO f.z), .slice Ab B cb] 25 (0, 0)) := by
  rw [hW0, Below.heap_alloc _ _ _ (by simp)]
  exact heap_alloc_new (((w.alloc _).alloc _).alloc _) _ |> (by simpa using ·)
 have hroot2 : W0.heap[w.heap.size + 4]? = some (.cells #[.int .i64 f.k, .slice Ak' K ck', .string (baO f.t), .string (baO f.v), .string (baO f.a), .string (baO f.z), .slice Ab' B cb'] 25 (0, 0)) := by
  rw [hW0]
  exact heap_alloc_new ((((w.alloc _).alloc _).alloc _).alloc _) _ |> (by simpa using ·)
 have hL1 : LsG W0 (w.heap.size + 3, 0, 1) (Gl.of [f]) := root_ls hin.in_ hin.fz hB0 (by rw [← hB, ← hK]; exact hroot1)
 have hL2 : LsG W0 (w.heap.size + 4, 0, 1) (Gl.of [f]) := root_ls hin'.in_ hin'.fz hB0 (by rw [← hB, ← hK]; exact hroot2)
 obtain ⟨W1, hW1⟩ : ∃ W1, W1 = W0.alloc (.cells #[.slice (some ⟨w.heap.size + 3, 0, none⟩) 1 1, .slice (some ⟨w.heap.size + 4, 0, none⟩) 1 1] 91) := ⟨_, rfl⟩
 have hb01 : Below W0.heap.size W0 W1 := by rw [hW1]; exact (Below.refl _ _).alloc (Nat.le_refl _) _
 have hlev : W1.heap[w.heap.size + 5]? = some (.cells #[.slice (some ⟨w.heap.size + 3, 0, none⟩) 1 1, .slice (some ⟨w.heap.size + 4, 0, none⟩) 1 1] 91 (0, 0)) := by
  rw [hW1, ← hz0]
  exact heap_alloc_new W0 _
 have hs0 : (Gl.of [f]).num ≤ 1000000 := by
  rw [num_list, Gl.list_of]
  simpa [sumL] using hsz
 have hI0 : Hid (SRelG W0 W1 (w.heap.size + 2) (.slice (some ⟨w.heap.size + 5, 0, none⟩) 1 1) [(((w.heap.size + 3, 0, 1), (w.heap.size + 4, 0, 1)), Gl.of [f])] (Gl.of [f]).num) := Hd (by
  refine ⟨by rw [hW1]; exact World.grownBy_alloc W0 _ _, ⟨#[], 0, (hb01.block _ (by omega)).trans hmap0, fun e he => by simp at he⟩, ⟨[.slice (some ⟨w.heap.size + 3, 0, none⟩) 1 1, .slice (some ⟨w.heap.size + 4, 0, none⟩) 1 1], ⟨rfl, .inr ⟨w.heap.size + 5, 1, _, rfl, by omega, hlev, Nat.le_refl _, by decide, rfl, rfl⟩⟩, rfl, fun i hi => ?_⟩, fun x hx => ?_, by simp [szG, sumL]⟩
  · have hi0 : i = 0 := by simpa using hi
    subst hi0
    exact ⟨1, 1, Nat.le_refl _, by omega, Nat.le_refl _, by omega, rfl, rfl⟩
  · simp only [List.mem_singleton] at hx
    subst hx
    exact ⟨hL1, hL2⟩)
 have hEnd : Hid (∀ wr : World, W0.grownBy wr (some (w.heap.size + 2)) → Below w.heap.size w wr) := Hd fun wr hg => hB0.trans ((Below.refl w.heap.size W0).grown hg (by omega) fun b hb => by injection hb with hb; omega)
 have hmap00 : Hid (∃ es c, W0.heap[w.heap.size + 2]? = some (.map es c)) := Hd ⟨_, _, hmap0⟩
 have hmlt : Hid (w.heap.size + 2 < W0.heap.size) := Hd (by omega)
 replace hroot1 := Hd hroot1
 replace hroot2 := Hd hroot2
 replace hlev := Hd hlev
 replace hmap0 := Hd hmap0
 replace hL1 := Hd hL1
 replace hL2 := Hd hL2
 replace hin := Hd hin
 replace hin' := Hd hin'
 replace hB0 := Hd hB0
 replace hB := Hd hB
 replace hK := Hd hK
 replace hz0 := Hd hz0
 replace hb01 := Hd hb01
 go_enter Tryz.func16, Tryz.ntmps16
 go_wp2_with fail
 rw [← hW0, ← hW1]
 replace hW0 := Hd hW0
 replace hW1 := Hd hW1
 go_loopg [6] (Gl.of [f]).num (fun n v wr => ∃ (P : List TwinG) (A : Option Addr) (c : Nat), v = .slice A P.length c ∧ n ≤ 1000000 ∧ Hid (SRelG W0 wr (w.heap.size + 2) (.slice A P.length c) P n))
 case atStart => exact ⟨[(((w.heap.size + 3, 0, 1), (w.heap.size + 4, 0, 1)), Gl.of [f])], _, _, rfl, hs0, hI0⟩
 case round =>
  obtain ⟨P, A, c, rfl, hgk, HS⟩ := hrel
  clear hI0
  rcases List.eq_nil_or_concat P with rfl | ⟨P', x, hP⟩
  · have k0 : decide (0 < (([] : List TwinG).length : Int)) = false := rfl
    have hX := Hd (hEnd.out _ HS.out.grown)
    go_wp2_with fail
    go_ret
    exact ⟨rfl, hX.out⟩
  · rw [List.concat_eq_append] at hP
    subst hP
    obtain ⟨A', c', hv, hrow⟩ := HS.out.own.form
    injection hv with hv1 hv2 hv3
    subst hv1 hv3
    clear hv2
    obtain ⟨g, rfl, hbg, hcg, hnc, hc9, hcells⟩ := hrow (by simp)
    obtain ⟨cp, cq, e1, e2, e3, e4, hcp, hcq⟩ := hcells P'.length (by simp)
    have hx : (P' ++ [x])[P'.length]'(by simp) = x := by simp
    rw [hx] at e1 e3 hcp hcq
    clear hx hcells hrow
    obtain ⟨hl1, hl2⟩ := HS.out.lst x (by simp)
    obtain ⟨⟨⟨pb, po, pn⟩, ⟨qb, qo, qn⟩⟩, G⟩ := x
    have hsx := szG_snoc P' (((pb, po, pn), (qb, qo, qn)), G)
    simp only [lvF] at e1 e3 hcp hcq hl1 hl2 hsx
    have hfl : G.list.length = pn := hl1.len
    have hfp : 0 < pn := hl1.pos
    have hqn : G.list.length = qn := hl2.len
    have hqn : qn = pn := by omega
    subst hqn
    have hSp := HS.out.sz
    have hown := HS.out.own.pop
    have hgm := HS.out.grown
    have hmm2 := HS.out.map
    have hlst := HS.out.lst
    have hkz := kzF_num G
    have hN : (P' ++ [(((pb, po, qn), (qb, qo, qn)), G)]).length = P'.length + 1 := by simp
    rw [hN] at hnc
    obtain ⟨m, hm⟩ : ∃ m, m = P'.length := ⟨_, rfl⟩
    rw [hN, ← hm]
    rw [← hm] at hnc hcp hcq
    have hgl := hcg.lt
    have HI0 : Hid (SRelG W0 wr (w.heap.size + 2) (.slice (some ⟨g, 0, none⟩) P'.length c) P' (szG P')) := Hd ⟨hgm, hmm2, hown, fun x hx => hlst x (List.mem_append_left _ hx), Nat.le_refl _⟩
    clear hown hgm hmm2 hlst HS
    have hszL : szG P' + G.num ≤ gk := by omega
    replace hN := Hd hN
    replace hm := Hd hm
    replace hsx := Hd hsx
    replace hl1 := Hd hl1
    replace hl2 := Hd hl2
    replace hfl := Hd hfl
    replace hcg := Hd hcg
    clear hSp hbg
    have k0 : decide (0 < ((m + 1 : Nat) : Int)) = true := decide_eq_true (by omega)
    have k1 : decide (0 < (m : Int) + 1) = true := decide_eq_true (by omega)
    have i0 : (0 : Int) ≤ (m : Int) := by omega
    have i1 : (m : Int) ≤ (c : Int) := by omega
    have i2 : ((m + 1 : Nat) : Int) - 1 = (m : Int) := by omega
    have i3 : (m : Int) + 1 - 1 = (m : Int) := by omega
    have HI1 : Hid (SRelG W0 (wr.alloc (.cells #[.slice (some ⟨pb, po, none⟩) qn cp, .slice (some ⟨qb, qo, none⟩) qn cq] 91)) (w.heap.size + 2) (.slice (some ⟨g, 0, none⟩) P'.length c) P' (szG P' + kzF (G.list.take 0))) := Hd ((HI0.out.move ((Below.refl _ _).alloc (Nat.le_refl _) _)).weaken (Nat.le_add_right _ _))
    obtain ⟨nb, hnb0⟩ : ∃ nb, nb = wr.heap.size := ⟨_, rfl⟩
    have HN0 : Hid ((wr.alloc (.cells #[.slice (some ⟨pb, po, none⟩) qn cp, .slice (some ⟨qb, qo, none⟩) qn cq] 91)).heap[nb]? = some (.cells #[.slice (some ⟨pb, po, none⟩) qn cp, .slice (some ⟨qb, qo, none⟩) qn cq] 91 (0, 0)) ∧ ∀ b, (Value.slice (some ⟨g, 0, none⟩) P'.length c).ownBlock = some b → b ≠ nb) := Hd ⟨by rw [hnb0]; exact heap_alloc_new wr _, fun b hb => by injection hb with hb; have : g = b := hb; omega⟩
    replace hnb0 := Hd hnb0
    clear HI0
    go_wp2_with fail
    rw [hm.out, ← hnb0.out]
    clear hgl
    go_loopw [6, 38] (fun v i wr2 => ∃ (j : Nat) (P2 : List TwinG) (A : Option Addr) (c : Nat), j ≤ qn ∧ i = .int .i64 (j : Int) ∧ v = .slice A P2.length c ∧ Hid (SRelG W0 wr2 (w.heap.size + 2) (.slice A P2.length c) P2 (szG P' + kzF (G.list.take j))) ∧ Hid (wr2.heap[nb]? = some (.cells #[.slice (some ⟨pb, po, none⟩) qn cp, .slice (some ⟨qb, qo, none⟩) qn cq] 91 (0, 0)) ∧ ∀ b, (Value.slice A P2.length c).ownBlock = some b → b ≠ nb)) (fun _ i _ => qn - (intOf i).toNat)
    case atStart => exact ⟨0, P', _, _, Nat.zero_le _, rfl, rfl, HI1, HN0⟩
    case round =>
     obtain ⟨j, P2, A2, c2, hj, rfl, rfl, HI, HNB⟩ := hrel
     clear HI1 HN0 hcp hcq
     by_cases hjlt : j < qn
     · have hjl : j < G.list.length := by rw [hfl.out]; exact hjlt
       obtain ⟨Ak1, ck1, Ab1, cb1, hat1, hin1, hkid1⟩ := hl1.out.elem j hjl
       obtain ⟨Ak2, ck2, Ab2, cb2, hat2, hin2, hkid2⟩ := hl2.out.elem j hjl
       simp only [] at hat1 hat2
       have hkz2 := kzF_take G.list j hjl
       have hkm := kzF_mono G.list (j + 1)
       obtain ⟨r, hrr⟩ : ∃ r, G.list[j] = r := ⟨_, rfl⟩
       rw [hrr] at hat1 hat2 hin1 hin2 hkz2 hkid1 hkid2
       clear hrr
       have hg0 := HI.out.grown
       have hs02 := hg0.size
       have hml := hmlt.out
       have hp1 : pb < wr.heap.size := Nat.lt_of_lt_of_le hl1.out.lt hs02
       have hp2 : qb < wr.heap.size := Nat.lt_of_lt_of_le hl2.out.lt hs02
       have hpm1 : pb ≠ w.heap.size + 2 := fun e => by obtain ⟨⟨cs, T, fr, h⟩, _⟩ := hl1.out.ok; obtain ⟨es, c, h2⟩ := hmap00.out; rw [← e, h] at h2; cases h2
       have hpm2 : qb ≠ w.heap.size + 2 := fun e => by obtain ⟨⟨cs, T, fr, h⟩, _⟩ := hl2.out.ok; obtain ⟨es, c, h2⟩ := hmap00.out; rw [← e, h] at h2; cases h2
       have hnb : nb < wr.heap.size := (Array.getElem?_eq_some_iff.1 HNB.out.1).1
       have kk : ∀ w', Below wr.heap.size wr w' → ∀ p : Addr, p.block < W0.heap.size → (∃ v, W0.cell? p = some v) → w'.cell? p = W0.cell? p := fun w' hb p hp hv => by
        have hne : p.block ≠ w.heap.size + 2 := fun e => by
         obtain ⟨v, hv⟩ := hv
         obtain ⟨es, c, h2⟩ := hmap00.out
         unfold World.cell? at hv
         rw [e, h2] at hv
         cases hv
        refine World.cell?_of_block ((hb.block p.block (Nat.lt_of_lt_of_le hp hs02)).trans (hg0.block p.block hp fun e => hne ?_))
        injection e
       have kb : ∀ ob : Obj, Below wr.heap.size wr (wr.alloc ob) := fun ob => (Below.refl _ _).alloc (Nat.le_refl _) ob
       have kw1 : ∀ {o v}, W0.cell? ⟨pb, o, none⟩ = some v → wr.cell? ⟨pb, o, none⟩ = some v := fun h => (kk _ (Below.refl _ _) _ hl1.out.lt ⟨_, h⟩).trans h
       have kw2 : ∀ (ob : Obj) {o v}, W0.cell? ⟨qb, o, none⟩ = some v → (wr.alloc ob).cell? ⟨qb, o, none⟩ = some v := fun ob _ _ h => (kk _ (kb ob) _ hl2.out.lt ⟨_, h⟩).trans h
       have a0 := kw1 hat1.k
       have a1 := kw1 hat1.g
       have a2 := kw1 hat1.t
       have a3 := kw1 hat1.v
       have a4 := kw1 hat1.a
       have a5 := kw1 hat1.z
       have a6 := kw1 hat1.b
       have b0 := fun ob => kw2 ob hat2.k
       have b1 := fun ob => kw2 ob hat2.g
       have b2 := fun ob => kw2 ob hat2.t
       have b3 := fun ob => kw2 ob hat2.v
       have b4 := fun ob => kw2 ob hat2.a
       have b5 := fun ob => kw2 ob hat2.z
       have b6 := fun ob => kw2 ob hat2.b
       have n1 : ∀ ob : Obj, (wr.alloc ob).cell? ⟨nb, 1, none⟩ = some (.slice (some ⟨qb, qo, none⟩) qn cq) := fun ob => by
        rw [World.cell?_alloc_lt _ _ _ (by show nb < _; omega), cell_of_row _ _ _ _ _ _ HNB.out.1]
        rfl
       have srcB : ∀ {A : Option Addr} {c : Nat}, SrcS W0 (· < W0.heap.size) A c r.b → ∀ W, Below wr.heap.size wr W → SrcS W (· < W.heap.size) A c r.b := fun {A c} h W hW => by
        refine ⟨h.le, h.big, h.nil, fun ad e => ⟨fun h0 => Nat.lt_of_lt_of_le ((h.at_ ad e).1 h0) (Nat.le_trans hs02 hW.size), fun i l hi => ?_⟩⟩
        have h1 := (h.at_ ad e).2 i l hi
        have hl : i < r.b.length := (List.getElem?_eq_some_iff.1 hi).1
        exact (kk W hW _ (by rw [add_block]; exact (h.at_ ad e).1 (by omega)) ⟨_, h1⟩).trans h1
       have CE : ∀ W, Below wr.heap.size wr W → Calls Tryz.prog 43 #[.slice Ab1 r.b.length cb1, .slice Ab2 r.b.length cb2] W fun en w' => en = .returned (.bool true) ∧ Below W.heap.size W w' := fun W hW => equalB_any r.b Ab1 Ab2 cb1 cb2 _ _ W (srcB hin1.b W hW) (srcB hin2.b W hW)
       have hkle1 := hin1.g.le
       have hkle2 := hin2.g.le
       have hk91 := hin1.g.big
       have hk92 := hin2.g.big
       obtain ⟨Kn, hKn⟩ : ∃ Kn, Kn = r.kids.length := ⟨_, rfl⟩
       obtain ⟨Bn, hBn⟩ : ∃ Bn, Bn = r.b.length := ⟨_, rfl⟩
       have hKl : r.g.list.length = Kn := hKn.symm
       rw [hKl] at hkle1 hkle2
       rw [← hKn] at a1 hkid1 hkid2
       rw [← hBn] at a6 CE
       simp only [← hKn] at b1
       simp only [← hBn] at b6
       have CC1 := fun W => cmp_raw r.k Kn Bn Ak1 Ab1 ck1 cb1 (baO r.t) (baO r.v) (baO r.a) (baO r.z) W
       have CC2 := fun W => cmp_raw r.k Kn Bn Ak2 Ab2 ck2 cb2 (baO r.t) (baO r.v) (baO r.a) (baO r.z) W
       have hNQ : ∀ W, Sem.run Tryz.prog (binOp .neq 94 (.agg #[.int .i64 r.k, .int .i64 (Kn : Int), .int .i64 (Bn : Int), .string (baO r.t), .string (baO r.v), .string (baO r.a), .string (baO r.z)]) (.agg #[.int .i64 r.k, .int .i64 (Kn : Int), .int .i64 (Bn : Int), .string (baO r.t), .string (baO r.v), .string (baO r.a), .string (baO r.z)])) W = .ok (.bool false) W := fun W => by
        rw [cmp_neq]
        congr 2
        rw [decide_eq_true (show CmpE r.k r.k (Kn : Int) (Kn : Int) (Bn : Int) (Bn : Int) (baO r.t) (baO r.t) (baO r.v) (baO r.v) (baO r.a) (baO r.a) (baO r.z) (baO r.z) from ⟨rfl, rfl, rfl, rfl, rfl, rfl, rfl⟩)]
        rfl
       have j0 : (0 : Int) ≤ (j : Int) := by omega
       have j1 : (j : Int) < (qn : Int) := by omega
       have q1 : qn ≤ cp := e1
       have q2 : qn ≤ cq := e3
       clear kw1 kw2 srcB hat1 hat2 hin1 hin2
       replace hg0 := Hd hg0
       replace kk := Hd kk
       replace CE := Hd CE
       replace CC1 := Hd CC1
       replace CC2 := Hd CC2
       replace hkid1 := Hd hkid1
       replace hkid2 := Hd hkid2
       replace hkz2 := Hd hkz2
       replace hkm := Hd hkm
       replace hKn := Hd hKn
       replace hBn := Hd hBn
       replace hKl := Hd hKl
       replace kb := Hd kb
       replace hml := Hd hml
       replace hpm1 := Hd hpm1
       replace hpm2 := Hd hpm2
       go_upto_region 10 with fail
       obtain ⟨W2, hW2⟩ : ∃ W2, W2 = (wr.alloc (.cells #[.int .i64 r.k, .slice Ak1 Kn ck1, .string (baO r.t), .string (baO r.v), .string (baO r.a), .string (baO r.z), .slice Ab1 Bn cb1] 25)).alloc (.cells #[.int .i64 r.k, .slice Ak2 Kn ck2, .string (baO r.t), .string (baO r.v), .string (baO r.a), .string (baO r.z), .slice Ab2 Bn cb2] 25) := ⟨_, rfl⟩
       have hX2 : W2.heap[wr.heap.size]? = some (.cells #[.int .i64 r.k, .slice Ak1 Kn ck1, .string (baO r.t), .string (baO r.v), .string (baO r.a), .string (baO r.z), .slice Ab1 Bn cb1] 25 (0, 0)) := by
        rw [hW2, Below.heap_alloc _ _ _ (by simp)]
        exact heap_alloc_new wr _
       have hY2 : W2.heap[wr.heap.size + 1]? = some (.cells #[.int .i64 r.k, .slice Ak2 Kn ck2, .string (baO r.t), .string (baO r.v), .string (baO r.a), .string (baO r.z), .slice Ab2 Bn cb2] 25 (0, 0)) := by
        rw [hW2]
        exact heap_alloc_new (wr.alloc _) _ |> (by simpa using ·)
       have hs2 : W2.heap.size = wr.heap.size + 2 := by rw [hW2]; simp
       have hBW2 : Below wr.heap.size wr W2 := by rw [hW2]; go_grown
       rw [← hW2]
       clear a0 a1 a2 a3 a4 a5 a6 b0 b1 b2 b3 b4 b5 b6 n1
       have KEEP : Hid (∀ W, Below W2.heap.size W2 W → W.cell? ⟨wr.heap.size, 0, none⟩ = some (.int .i64 r.k) ∧ W.cell? ⟨wr.heap.size, 1, none⟩ = some (.slice Ak1 Kn ck1) ∧ W.cell? ⟨wr.heap.size, 2, none⟩ = some (.string (baO r.t)) ∧ W.cell? ⟨wr.heap.size, 3, none⟩ = some (.string (baO r.v)) ∧ W.cell? ⟨wr.heap.size, 4, none⟩ = some (.string (baO r.a)) ∧ W.cell? ⟨wr.heap.size, 5, none⟩ = some (.string (baO r.z)) ∧ W.cell? ⟨wr.heap.size, 6, none⟩ = some (.slice Ab1 Bn cb1) ∧ W.cell? ⟨wr.heap.size + 1, 0, none⟩ = some (.int .i64 r.k) ∧ W.cell? ⟨wr.heap.size + 1, 1, none⟩ = some (.slice Ak2 Kn ck2) ∧ W.cell? ⟨wr.heap.size + 1, 2, none⟩ = some (.string (baO r.t)) ∧ W.cell? ⟨wr.heap.size + 1, 3, none⟩ = some (.string (baO r.v)) ∧ W.cell? ⟨wr.heap.size + 1, 4, none⟩ = some (.string (baO r.a)) ∧ W.cell? ⟨wr.heap.size + 1, 5, none⟩ = some (.string (baO r.z)) ∧ W.cell? ⟨wr.heap.size + 1, 6, none⟩ = some (.slice Ab2 Bn cb2)) := Hd fun W h => by
        obtain ⟨z0, z1, z2, z3, z4, z5, z6⟩ := cells7 ((h.block _ (by omega)).trans hX2)
        obtain ⟨y0, y1, y2, y3, y4, y5, y6⟩ := cells7 ((h.block _ (by omega)).trans hY2)
        exact ⟨z0, z1, z2, z3, z4, z5, z6, y0, y1, y2, y3, y4, y5, y6⟩
       have CE2 := Hd fun W (h : Below W2.heap.size W2 W) => CE.out W (hBW2.trans (h.mono (by omega)))
       replace hW2 := Hd hW2
       replace hX2 := Hd hX2
       replace hY2 := Hd hY2
       replace hBW2 := Hd hBW2
       refine wp_region_held_drew (S := (fun W => W.cell? ⟨wr.heap.size, 0, none⟩ = some (.int .i64 r.k) ∧ W.cell? ⟨wr.heap.size, 1, none⟩ = some (.slice Ak1 Kn ck1) ∧ W.cell? ⟨wr.heap.size, 2, none⟩ = some (.string (baO r.t)) ∧ W.cell? ⟨wr.heap.size, 3, none⟩ = some (.string (baO r.v)) ∧ W.cell? ⟨wr.heap.size, 4, none⟩ = some (.string (baO r.a)) ∧ W.cell? ⟨wr.heap.size, 5, none⟩ = some (.string (baO r.z)) ∧ W.cell? ⟨wr.heap.size, 6, none⟩ = some (.slice Ab1 Bn cb1) ∧ W.cell? ⟨wr.heap.size + 1, 0, none⟩ = some (.int .i64 r.k) ∧ W.cell? ⟨wr.heap.size + 1, 1, none⟩ = some (.slice Ak2 Kn ck2) ∧ W.cell? ⟨wr.heap.size + 1, 2, none⟩ = some (.string (baO r.t)) ∧ W.cell? ⟨wr.heap.size + 1, 3, none⟩ = some (.string (baO r.v)) ∧ W.cell? ⟨wr.heap.size + 1, 4, none⟩ = some (.string (baO r.a)) ∧ W.cell? ⟨wr.heap.size + 1, 5, none⟩ = some (.string (baO r.z)) ∧ W.cell? ⟨wr.heap.size + 1, 6, none⟩ = some (.slice Ab2 Bn cb2))) (by kernel_rfl) (KEEP.out _ (Below.refl _ _).drew) ?_
       intro hHeld
       refine tk 0 48 hHeld ?_
       refine tk 2 50 hHeld ?_
       refine rdy [1] ?_
       refine .cons rfl (fun K hK => ?_) .nil
       go_simp
       go_at_call 42
       refine (CC1.out _).mono ?_
       rintro _ v1 ⟨rfl, hv1⟩
       have HB1 := Hd (((Below.refl W2.heap.size W2).drew).trans (hv1.mono ((Below.refl W2.heap.size W2).drew).size))
       clear hv1
       dsimp only []
       refine hK.out _ _ (KEEP.out _ HB1.out) ?_
       clear hK K hHeld
       intro hHeld
       refine rdy [3] ?_
       refine .cons rfl (fun K hK => ?_) .nil
       go_simp
       go_at_call 42
       refine (CC2.out _).mono ?_
       rintro _ v2 ⟨rfl, hv2⟩
       have HB2 := Hd ((HB1.out).trans (hv2.mono (HB1.out).size))
       clear hv2
       dsimp only []
       refine hK.out _ _ (KEEP.out _ HB2.out) ?_
       clear hK K hHeld
       intro hHeld
       refine tk 4 52 hHeld ?_
       refine tk 5 53 hHeld ?_
       refine tk 6 54 hHeld ?_
       refine tk 7 55 hHeld ?_
       refine tk 8 56 hHeld ?_
       refine tk 9 57 hHeld ?_
       refine rdy [10] ?_
       refine .cons rfl (fun K hK => ?_) .nil
       go_simp
       go_at_call 43
       refine (CE2.out _ HB2.out).mono ?_
       rintro _ v3 ⟨rfl, hv3⟩
       have HB3 := Hd ((HB2.out).trans (hv3.mono (HB2.out).size))
       clear hv3
       dsimp only []
       refine hK.out _ _ (KEEP.out _ HB3.out) ?_
       clear hK K hHeld
       intro hHeld
       refine tk 11 59 hHeld ?_
       refine tk 12 60 hHeld ?_
       refine wpAnyH_done (by kernel_rfl) ?_ _
       have hX3 := ((HB3.out).block wr.heap.size (by omega)).trans hX2.out
       have hY3 := ((HB3.out).block (wr.heap.size + 1) (by omega)).trans hY2.out
       have hB3 := hBW2.out.trans ((HB3.out).mono (by omega))
       have hs3 := (HB3.out).size
       have hI3 := Hd (HI.out.move hB3)
       have hnb3 := Hd ((hB3.block _ hnb).trans HNB.out.1)
       obtain ⟨x0, x1, x2, x3, x4, x5, x6⟩ := cells7 hX3
       obtain ⟨y0, y1, y2, y3, y4, y5, y6⟩ := cells7 hY3
       replace hX3 := Hd hX3
       replace hY3 := Hd hY3
       replace hB3 := Hd hB3
       clear CC1 CC2 CE CE2 hNQ
       by_cases hk0 : Kn = 0
       · have kd : ((Kn : Int) == 0) = true := by rw [hk0]; rfl
         have HS3 := Hd (hI3.out.weaken (S' := szG P' + kzF (G.list.take (j + 1))) (by have := hkz2.out; omega))
         have HN3 := Hd (And.intro hnb3.out HNB.out.2)
         clear x0 x2 x3 x4 x5 x6 y0 y1 y2 y3 y4 y5 y6
         go_wp2_with fail
         go_roundw
         case rel => exact ⟨j + 1, P2, A2, c2, by omega, by go_num, rfl, HS3, HN3⟩
         case measure => simp [intOf]; omega
       · obtain ⟨b, o, rfl, hlk1⟩ := hkid1.out (by omega)
         obtain ⟨b', o', rfl, hlk2⟩ := hkid2.out (by omega)
         have kd : ((Kn : Int) == 0) = false := beq_eq_false_iff_ne.2 (by omega)
         have kd3 : 0 < Kn := by omega
         have kd4 : (0 : Int) < (Kn : Int) := by omega
         clear x0 x2 x3 x4 x5 x6 y0 y1 y2 y3 y4 y5 y6
         go_upto_region 13 with fail
         have KEEP3 : Hid (∀ W, Below v3.heap.size v3 W → W.cell? ⟨wr.heap.size, 1, none⟩ = some (.slice (some ⟨b, o, none⟩) Kn ck1) ∧ W.cell? ⟨wr.heap.size + 1, 1, none⟩ = some (.slice (some ⟨b', o', none⟩) Kn ck2)) := Hd fun W h => by
          obtain ⟨z0, z1, z2, z3, z4, z5, z6⟩ := cells7 ((h.block _ (by omega)).trans hX3.out)
          obtain ⟨y0, y1, y2, y3, y4, y5, y6⟩ := cells7 ((h.block _ (by omega)).trans hY3.out)
          exact ⟨z1, y1⟩
         replace hlk1 := Hd hlk1
         replace hlk2 := Hd hlk2
         clear hkid1 hkid2 x1
         refine wp_region_held_drew (S := (fun W => W.cell? ⟨wr.heap.size, 1, none⟩ = some (.slice (some ⟨b, o, none⟩) Kn ck1) ∧ W.cell? ⟨wr.heap.size + 1, 1, none⟩ = some (.slice (some ⟨b', o', none⟩) Kn ck2))) (by kernel_rfl) (KEEP3.out _ (Below.refl _ _).drew) ?_
         intro hHeld
         refine tk 0 65 hHeld ?_
         refine tk 1 66 hHeld ?_
         refine tk 2 67 hHeld ?_
         refine tk 3 68 hHeld ?_
         refine tk 4 69 hHeld ?_
         refine tk 5 70 hHeld ?_
         refine tk 6 71 hHeld ?_
         refine tk 7 72 hHeld ?_
         refine tk 8 73 hHeld ?_
         refine tk 9 74 hHeld ?_
         refine rdy [10] ?_
         refine .cons rfl (fun K hK => ?_) .nil
         go_simp
         refine hK.out _ _ (KEEP3.out _ ((Below.refl v3.heap.size v3).drew.alloc ((Below.refl v3.heap.size v3).drew).size _)) ?_
         clear hK K hHeld
         intro hHeld
         refine rdy [11] ?_
         refine .cons rfl (fun K hK => ?_) .nil
         go_simp
         refine hK.out _ _ (KEEP3.out _ (by first | exact (Below.refl _ _).alloc (Nat.le_refl _) _ | exact ((Below.refl _ _).drew).alloc (Nat.le_refl _) _ | exact ((Below.refl _ _).alloc (Nat.le_refl _) _).drew)) ?_
         clear hK K hHeld
         intro hHeld
         refine wpAnyH_done (by kernel_rfl) ?_ _
         obtain ⟨W4, hW4⟩ : ∃ W4, W4 = (v3.alloc (.cells #[.pointer (some ⟨b, o, none⟩), .pointer (some ⟨b', o', none⟩), .int .i64 (Kn : Int)] 99)).drew := ⟨_, rfl⟩
         have hP4 : W4.heap[v3.heap.size]? = some (.cells #[.pointer (some ⟨b, o, none⟩), .pointer (some ⟨b', o', none⟩), .int .i64 (Kn : Int)] 99 (0, 0)) := by rw [hW4]; exact heap_alloc_new v3 _
         have hB4 : Below v3.heap.size v3 W4 := by rw [hW4]; exact ((Below.refl _ _).alloc (Nat.le_refl _) _).drew
         have hz4 : W4.heap.size = v3.heap.size + 1 := by rw [hW4]; exact (by simp : (v3.alloc _).heap.size = v3.heap.size + 1)
         have hml2 := hml.out
         rw [← hW4]
         replace hW4 := Hd hW4
         have hI4 := Hd (hI3.out.move hB4)
         have hnb4 := Hd ((hB4.block _ (by omega)).trans hnb3.out)
         obtain ⟨p0, p1, p2⟩ := cells3i hP4
         have hs4 := hB4.size
         obtain ⟨t1, t2⟩ := KEEP3.out _ hB4
         have hQ4 : ∀ v, KeyF W0 v → KeyF W4 v := KeyF.grown hI4.out.grown hmap00.out
         have hk4 : KeyF W0 (kvF ((b, o), (b', o')) (Kn : Int)) := ⟨((b, o), (b', o')), _, rfl, hlk1.out.ok, hlk2.out.ok⟩
         obtain ⟨⟨q1', q2'⟩, m', hq', hok1, hok2⟩ := hQ4 _ hk4
         have hok : OkA W4 (b, o) ∧ OkA W4 (b', o') := by
          have h1 := hlk1.out.ok
          have h2 := hlk2.out.ok
          have g4 := hI4.out.grown
          have ne : ∀ p : PlF, OkA W0 p → W4.heap[p.1]? = W0.heap[p.1]? := fun p hp => g4.block p.1 hp.lt fun e => by
           injection e with e
           obtain ⟨⟨cs, T, fr, h⟩, _⟩ := hp
           obtain ⟨es, c, h2⟩ := hmap00.out
           rw [e, h2] at h
           cases h
          exact ⟨h1.of (ne _ h1), h2.of (ne _ h2)⟩
         obtain ⟨again, kq, hlook⟩ := lookP (p := ((b, o), (b', o'))) (n := (Kn : Int)) hQ4 hI4.out.map hok.1 hok.2
         clear hq' hok1 hok2
         replace hP4 := Hd hP4
         replace hB4 := Hd hB4
         replace hQ4 := Hd hQ4
         replace hk4 := Hd hk4
         replace hok := Hd hok
         have hkv : kvF ((b, o), (b', o')) (Kn : Int) = .agg #[.pointer (some ⟨b, o, none⟩), .pointer (some ⟨b', o', none⟩), .int .i64 (Kn : Int)] := rfl
         rw [hkv] at hlook
         have hI4b := Hd (show SRelG W0 (W4.drewN kq) _ _ _ _ from hI4.out.move (below_drewE (Below.refl _ _) kq))
         obtain ⟨W5, hW5⟩ : ∃ W5, W5 = (W4.drewN kq).alloc (.cells #[] 100) := ⟨_, rfl⟩
         have hB5 : Below W4.heap.size W4 W5 := by rw [hW5]; exact (below_drewE (Below.refl _ _) kq).alloc (Nat.le_refl _) _
         have hI5 := Hd (hI4.out.move hB5)
         have hnb5 := Hd ((hB5.block _ (by omega)).trans hnb4.out)
         cases again
         · go_upto_region 16 with (first | (at_lookup; refine wpList_lookup_F _ rfl _ _ _ rfl hlook ?_))
           (try rw [← hW5])
           clear p0 p1 p2 t1 t2 hlook
           have hP5 := (hB5.block _ (by omega)).trans hP4.out
           obtain ⟨p0, p1, p2⟩ := cells3i hP5
           have hQ5 : ∀ v, KeyF W0 v → KeyF W5 v := KeyF.grown hI5.out.grown hmap00.out
           obtain ⟨w6, hupd, hm6, hg6⟩ := putP hQ5 hI5.out.map hk4.out
           rw [hkv] at hupd
           have hI6 := Hd (hI5.out.turn hm6 hg6)
           have hs5 := hB5.size
           have hs6 := hg6.size
           have hX6 : w6.heap[wr.heap.size]? = _ := (hg6.block _ (by omega) (fun e => by injection e with e; omega)).trans ((hB5.block _ (by omega)).trans ((hB4.out.block _ (by omega)).trans hX3.out))
           have hY6 : w6.heap[wr.heap.size + 1]? = _ := (hg6.block _ (by omega) (fun e => by injection e with e; omega)).trans ((hB5.block _ (by omega)).trans ((hB4.out.block _ (by omega)).trans hY3.out))
           have hN6 := Hd ((hg6.block nb (by omega) (fun e => by
            injection e with e
            obtain ⟨es, c, h⟩ := hI5.out.isMap
            rw [e, h] at hnb5
            cases hnb5.out)).trans hnb5.out)
           obtain ⟨x0, x1, x2, x3, x4, x5, x6⟩ := cells7 hX6
           obtain ⟨y0, y1, y2, y3, y4, y5, y6⟩ := cells7 hY6
           clear x0 x2 x3 x4 x5 x6 y0 y2 y3 y4 y5 y6
           obtain ⟨cs, hown3, hrow3⟩ := hI6.out.own
           have hV : ∀ b, (Value.slice A2 P2.length c2).ownBlock = some b → W0.heap.size ≤ b := fun b hb => by
            obtain ⟨_, h0 | ⟨g, cap, cur, hv, hbs, _⟩⟩ := hown3
            · rw [h0.1] at hb
              cases hb
            · rw [hv] at hb
              injection hb with hb
              have hb' : g = b := hb
              omega
           have hplen : P2.length ≤ 1000000 := by
            have h1 := szG_len W0 P2 fun x hx => (hI6.out.lst x hx).1
            have h2 := hI6.out.sz
            have h3 := kzF_mono G.list j
            omega
           have hb6 := heap_alloc_new w6 (.cells #[.slice (some ⟨b, o, none⟩) Kn ck1, .slice (some ⟨b', o', none⟩) Kn ck2] 91)
           have hsz6 : W0.heap.size ≤ w6.heap.size := hI6.out.grown.size
           have FR : Hid (∀ (w7 : World) (g cap : Nat), w7.ownsRow W0.heap.size 91 2 (.slice (some ⟨g, 0, none⟩) (P2.length + 1) cap) (P2.length + 1) (cs ++ [.slice (some ⟨b, o, none⟩) Kn ck1, .slice (some ⟨b', o', none⟩) Kn ck2]) → (w6.alloc (.cells #[.slice (some ⟨b, o, none⟩) Kn ck1, .slice (some ⟨b', o', none⟩) Kn ck2] 91)).grownBy w7 (Value.slice A2 P2.length c2).ownBlock → ((Value.slice A2 P2.length c2).ownBlock = some g ∨ g = w6.heap.size + 1) →
            SRelG W0 w7 (w.heap.size + 2) (.slice (some ⟨g, 0, none⟩) (P2.length + 1) cap) (P2 ++ [(((b, o, Kn), (b', o', Kn)), r.g)]) (szG P' + kzF (G.list.take (j + 1))) ∧ (w7.heap[nb]? = some (.cells #[.slice (some ⟨pb, po, none⟩) qn cp, .slice (some ⟨qb, qo, none⟩) qn cq] 91 (0, 0)) ∧ ∀ x, (Value.slice (some ⟨g, 0, none⟩) (P2.length + 1) cap).ownBlock = some x → x ≠ nb)) := Hd fun w7 g cap h1 h2 h3 => by
            refine ⟨(hI6.out.push hmap00.out hrow3 hlk1.out hlk2.out hkle1 hk91 hkle2 hk92 h1 h2 hV).weaken (by have := hkz2.out; omega), ?_, fun x hx => ?_⟩
            · rw [h2.block nb (by simp; omega) (fun e => HNB.out.2 nb e.symm rfl), Below.heap_alloc _ _ _ (by omega)]
              exact hN6.out
            · injection hx with hx
              have hx' : g = x := hx
              subst hx'
              rcases h3 with h3 | h3
              · exact HNB.out.2 _ h3
              · omega
           have hn6 := World.news_of_block (cs := #[.slice (some ⟨b, o, none⟩) Kn ck1, .slice (some ⟨b', o', none⟩) Kn ck2]) (fr := (0, 0)) hb6
           replace hX6 := Hd hX6
           replace hY6 := Hd hY6
           replace hP5 := Hd hP5
           replace hown3 := Hd hown3
           replace hrow3 := Hd hrow3
           replace hV := Hd hV
           replace hb6 := Hd hb6
           replace hn6 := Hd hn6
           replace hm6 := Hd hm6
           replace hg6 := Hd hg6
           replace hQ5 := Hd hQ5
           replace hB5 := Hd hB5
           replace hW5 := Hd hW5
           go_wp2_with (first | (at_mapUpdate; refine wpList_update_F _ rfl _ _ _ _ rfl hupd ?_) | (at_builtin; refine wpList_append_lies _ rfl (.tmp 86) (.tmp 92) 92 rfl W0.heap.size 91 j0' _ 2 48 Tryz.underlying92 hji hjz0 hjz1 hjz2 rfl (by decide) (.slice A2 P2.length c2) P2.length cs rfl (World.ownsRow.alloc hown3.out _) ⟨w6.heap.size, 0, none⟩ 1 1 [.slice (some ⟨b, o, none⟩) Kn ck1, .slice (some ⟨b', o', none⟩) Kn ck2] rfl rfl hn6.out (by intro u hu; simp only [List.mem_cons, List.not_mem_nil, or_false] at hu; rcases hu with rfl | rfl <;> rfl) (by decide) (by simp only [maxLen]; omega) (by omega) (by simp; omega) (w6.heap.size + 1) (by simp) ?hgo))
           case hgo =>
            intro g9 cap9 w7 hown hg7 hat7 hgl
            have HN := FR.out w7 g9 cap9 hown hg7 hat7
            have HN1 := Hd HN.1
            have HN2 := Hd HN.2
            replace hown := Hd hown
            replace hg7 := Hd hg7
            replace HN := Hd HN
            clear hat7
            have hkl2 : (P2 ++ [(((b, o, Kn), (b', o', Kn)), r.g)]).length = P2.length + 1 := by simp
            go_wp2_with fail
            go_roundw
            case rel => exact ⟨j + 1, P2 ++ [(((b, o, Kn), (b', o', Kn)), r.g)], some ⟨g9, 0, none⟩, cap9, by omega, by go_num, by rw [hkl2], by rw [hkl2]; exact HN1, by rw [hkl2]; exact HN2⟩
            case measure => simp [intOf]; omega
         · have HS5 := Hd (hI5.out.weaken (S' := szG P' + kzF (G.list.take (j + 1))) (by have := hkz2.out; omega))
           have HN5 := Hd (And.intro hnb5.out HNB.out.2)
           rw [hW5] at HS5 HN5
           go_wp2_with (first | (at_lookup; refine wpList_lookup_F _ rfl _ _ _ rfl hlook ?_))
           go_roundw
           case rel => exact ⟨j + 1, P2, A2, c2, by omega, by go_num, rfl, HS5, HN5⟩
           case measure => simp [intOf]; omega
     · have hjj : j = qn := by omega
       have HX := Hd (HI.out.weaken (S' := szG P' + kzF G.list) (by have := kzF_mono G.list j; omega))
       have hlt9 : szG P' + kzF G.list < gk := by have := hfl.out; omega
       have l0 : decide (j < qn) = false := decide_eq_false (by omega)
       have l1 : decide ((j : Int) < (qn : Int)) = false := decide_eq_false (by omega)
       clear HI HNB
       go_wp2_with fail
       go_roundg (szG P' + kzF G.list)
       case measure => exact hlt9
       case rel => exact ⟨P2, A2, c2, rfl, by omega, HX⟩
end Go.Proofs.YtcbiedonmibfaaaGreatDoor
