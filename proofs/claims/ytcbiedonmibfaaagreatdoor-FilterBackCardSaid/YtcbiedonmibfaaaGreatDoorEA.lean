/- Filters. -/
import Derived.Test.YtcbiedonmibfaaaGreatDoorF14u
import Derived.Test.YtcbiedonmibfaaaGreatDoorF14h
import Derived.Deep.CutRange
import Derived.Deep.CutBlock
import Derived.Test.YtcbiedonmibfaaaGreatDoorF14C
import Derived.Test.YtcbiedonmibfaaaGreatDoorFH
set_option maxRecDepth 8000
set_option maxHeartbeats 3200000
namespace Go.Proofs.YtcbiedonmibfaaaGreatDoor
open Go.RowKit Go.Lib
def ElP (f : Ft) (w : World) (en : Ending) (w' : World) : Prop := ∃ A c B d, en = .returned (elV f.el A c B d) ∧ ElIn w' (NewB w.heap.size w') f.el A c B d ∧ Below w.heap.size w w'
theorem mk_endG {fv : Array Value} {X N c9 cc : Nat} {c n : Int} {m : Bool} {w wr W5 : World} {ks : List El} {A A9 : Option Addr} {f : Ft} (_h : MkI fv X c n m w wr ks (.slice A N cc)) (hf : f.el = ⟨c, m, n, [], Fo.of ks⟩) (hsl : SlI wr (NewB (X + 1) wr) A9 c9 (Fo.of ks)) (hv : Value.slice A N cc = .slice A9 ks.length c9)
 (hb : Below w.heap.size w W5) (HN : ∀ (e : El) (A : Option Addr) (c : Nat) (B : Option Addr) (d : Nat), ElIn wr (NewB (X + 1) wr) e A c B d → w.heap.size + 1 < X + 1 → w.heap.size ≤ X + 1 → ElIn W5 (NewB w.heap.size W5) e A c B d) :
 ElP f w (.returned (.agg #[.int .i64 c, .bool m, .int .i64 n, .slice none 0 0, .slice A N cc])) W5 := by
 injection hv with h1 h2 h3
 subst h1 h2 h3
 have h2 := _h.two
 refine ⟨none, 0, A, cc, ?_, by rw [hf]; exact HN _ none 0 A cc ⟨⟨Nat.le_refl _, fun _ => rfl, fun _ e => by cases e⟩, hsl⟩ (by omega) (by omega), hb⟩
 rw [hf]
 show _ = Ending.returned (Value.agg #[_, _, _, _, .slice A (Fo.of ks).list.length cc])
 rw [Fo.list_of]
 rfl
theorem elV_ag (r : El) (A B : Option Addr) (c d : Nat) : elV r A c B d = .agg #[.int .i64 r.c, .bool r.m, .int .i64 r.n, .slice A r.b.length c, .slice B r.kids.length d] := rfl
theorem elem_node (f : Ft) (hfk : 0 ≤ f.k ∧ f.k < 3) (Ak : Option Addr) (ck : Nat) (Ab : Option Addr) (cb : Nat) (w : World) (hin : FtIn w (· < w.heap.size) f Ak ck Ab cb) (hK3 : f.kids.length ≤ 3000)
 (ih : ∀ x ∈ f.kids, ∀ Ak ck Ab cb W, FtIn W (· < W.heap.size) x Ak ck Ab cb → Calls Tryz.prog 34 #[ftV x Ak ck Ab cb] W (ElP x W)) :
 Calls Tryz.prog 34 #[ftV f Ak ck Ab cb] w (ElP f w) := by
 obtain ⟨i0, hi, q1, q2, q3⟩ := info_parts info_ber
 have hel : f.el = ⟨2, true, f.k, [], Fo.of (f.kids.map Ft.el)⟩ := by
  rw [el_node hfk.2]
  congr 1
  rw [← Fo.of_list f.g.el, Gl.el_list]
  rfl
 unfold ftV
 have km : (f.k != 7) = true := by
  have : f.k ≠ 7 := by omega
  simpa using this
 have hk012 : f.k = 0 ∨ f.k = 1 ∨ f.k = 2 := by omega
 obtain ⟨K, hK⟩ : ∃ K, f.kids.length = K := ⟨_, rfl⟩
 obtain ⟨B, hB⟩ : ∃ B, f.b.length = B := ⟨_, rfl⟩
 rw [hK, hB]
 rw [hK] at hK3
 have hkid : 0 < K → ∃ bl off, Ak = some ⟨bl, off, none⟩ ∧ bl < w.heap.size ∧ ∀ (i : Nat) (hi : i < f.kids.length), ∃ Ak ck Ab cb, FtAt w f.kids[i] bl (off + i * 7) Ak ck Ab cb ∧ FtIn w (· < w.heap.size) f.kids[i] Ak ck Ab cb := fun h => hin.kid (by omega)
 have hKc : K ≤ ck := by have := hin.g.le; have h2 : f.g.list.length = K := hK; omega
 obtain ⟨W0, hW0⟩ : ∃ W0, W0 = (w.alloc (.cells #[.int .i64 f.k, .slice Ak K ck, .string (baO f.t), .string (baO f.v), .string (baO f.a), .string (baO f.z), .slice Ab B cb] 25)).alloc (.cells #[.int .i64 0, .bool false, .int .i64 0, .slice none 0 0, .slice none 0 0] 43) := ⟨_, rfl⟩
 have CU := Hd ((own14_any f.k W0).mono fun en w' ⟨h1, h2⟩ => (show en = Ending.returned (.agg #[.int .i64 2, .bool true, .int .i64 f.k]) ∧ Below W0.heap.size W0 w' from ⟨by rw [h1, km], h2⟩))
 have ST := Hd fun w1 (hb : Below W0.heap.size W0 w1) => mk_start hW0 hb 2 f.k true
 have hx0 : W0.heap[w.heap.size]? = some (.cells #[.int .i64 f.k, .slice Ak K ck, .string (baO f.t), .string (baO f.v), .string (baO f.a), .string (baO f.z), .slice Ab B cb] 25 (0, 0)) := by rw [hW0, Below.heap_alloc _ _ _ (by simp)]; exact heap_alloc_new w _
 have x0 : W0.cell? ⟨w.heap.size, 0, none⟩ = some (.int .i64 f.k) := cell_of_row _ _ 0 _ _ _ hx0
 replace hx0 := Hd hx0
 replace hkid := Hd hkid
 replace hin := Hd hin
 replace hi := Hd hi
 replace hel := Hd hel
 replace hB := Hd hB
 replace hK := Hd hK
 replace ih := Hd ih
 replace hfk := Hd hfk
 replace km := Hd km
 go_enter Tryz.func34, Tryz.ntmps34
 go_wp2_with fail
 rw [← hW0]
 replace hW0 := Hd hW0
 try go_wp2_with fail
 refine CU.out.mono ?_
 rintro _ w1 ⟨rfl, hb1⟩
 have H1 := ST.out w1 hb1
 obtain ⟨W1, hW1⟩ : ∃ W, W = w1.alloc (.cells #[.int .i64 2, .bool true, .int .i64 f.k, .slice none 0 0, .slice none 0 0] 43) := ⟨_, rfl⟩
 rw [← hW1] at H1
 obtain ⟨X, hX⟩ : ∃ X, X = w1.heap.size := ⟨_, rfl⟩
 rw [← hX] at H1
 have y0 := (H1.cells (Below.refl _ _)).2 0 _ rfl
 have y1 := (H1.cells (Below.refl _ _)).2 1 _ rfl
 rw [hW1] at y0 y1
 clear x0
 replace hb1 := Hd hb1
 replace H1 := Hd H1
 replace hX := Hd hX
 replace hW1 := Hd hW1
 dsimp only []
 go_upto_block 0 with fail
 go_step
 go_step
 go_cut [22] from 22 to 25 (fun c wx => c = .bool true ∧ wx = w1.alloc (.cells #[.int .i64 2, .bool true, .int .i64 f.k, .slice none 0 0, .slice none 0 0] 43))
 case first =>
  rcases hk012 with h | h | h
  · have k0 : (f.k == 0) = true := by simp [h]
    replace h := Hd h
    go_wp2_with fail
    go_meet
    exact ⟨rfl, rfl⟩
  · have k0 : (f.k == 0) = false := by simp [h]
    have k1 : (f.k == 1) = true := by simp [h]
    replace h := Hd h
    go_wp2_with fail
    go_meet
    exact ⟨rfl, rfl⟩
  · have k0 : (f.k == 0) = false := by simp [h]
    have k1 : (f.k == 1) = false := by simp [h]
    have k2 : (f.k == 2) = true := by simp [h]
    replace h := Hd h
    go_wp2_with fail
    go_meet
    exact ⟨rfl, rfl⟩
 obtain ⟨rfl, hwc⟩ := hcut
 subst wc
 go_wp2_with fail
 rw [← hW1.out, ← hX.out]
 clear y0 y1
 go_loopw [29] (fun jv wr => ∃ (j : Nat) (A : Option Addr) (cc : Nat), j ≤ K ∧ jv = .int .i64 (j : Int) ∧ Hid (MkI #[.int .i64 f.k, .slice Ak K ck, .string (baO f.t), .string (baO f.v), .string (baO f.a), .string (baO f.z), .slice Ab B cb] X 2 f.k true w wr ((f.kids.take j).map Ft.el) (.slice A j cc))) (fun jv _ => K - (RowKit.intOf jv).toNat)
 case atStart => exact ⟨0, none, 0, Nat.zero_le _, rfl, Hd (by simpa using H1.out)⟩
 case round =>
  obtain ⟨j, A, cc, hj, rfl, HI⟩ := hrel
  by_cases hjt : j < K
  · obtain ⟨bl, off, rfl, hbl, hk⟩ := hkid.out (by omega)
    have hjl : j < f.kids.length := by rw [hK.out]; exact hjt
    obtain ⟨Ak2, ck2, Ab2, cb2, hat, hkin⟩ := hk j hjl
    have hmem : f.kids[j] ∈ f.kids := List.getElem_mem hjl
    obtain ⟨x, hx⟩ : ∃ x, f.kids[j] = x := ⟨_, rfl⟩
    have htk : f.kids.take (j + 1) = f.kids.take j ++ [f.kids[j]] := by rw [List.take_succ_eq_append_getElem hjl]
    rw [hx] at hat hkin htk hmem
    have cell : ∀ i, wr.cell? ⟨bl, i, none⟩ = w.cell? ⟨bl, i, none⟩ := fun i => HI.out.below.cell (p := ⟨bl, i, none⟩) hbl
    have y0 := (cell _).trans hat.k
    have y1 := (cell _).trans hat.g
    have y2 := (cell _).trans hat.t
    have y3 := (cell _).trans hat.v
    have y4 := (cell _).trans hat.a
    have y5 := (cell _).trans hat.z
    have y6 := (cell _).trans hat.b
    have j0 : (0 : Int) ≤ (j : Int) := by omega
    have j1 : (j : Int) < (K : Int) := by omega
    have hNj0 : ((f.kids.take j).map Ft.el).length = j := by rw [List.length_map, List.length_take, hK.out]; omega
    obtain ⟨kj, hkj⟩ : ∃ k, k = (f.kids.take j).map Ft.el := ⟨_, rfl⟩
    rw [← hkj] at hNj0 HI
    have hNj := Hd hNj0
    clear hNj0
    obtain ⟨r, hr⟩ : ∃ r, x.el = r := ⟨_, rfl⟩
    have CK : ∀ W, Below w.heap.size w W → Calls Tryz.prog 34 #[ftV x Ak2 ck2 Ab2 cb2] W fun en w' => ∃ A3 c3 B3 d3, en = .returned (.agg #[.int .i64 r.c, .bool r.m, .int .i64 r.n, .slice A3 r.b.length c3, .slice B3 r.kids.length d3]) ∧ ElIn w' (NewB W.heap.size w') r A3 c3 B3 d3 ∧ Below W.heap.size W w' := fun W hW => by
     have := ih.out x hmem Ak2 ck2 Ab2 cb2 W ((hkin.keep fun p hp => hW.cell hp).more fun b hb => Nat.lt_of_lt_of_le hb hW.size)
     unfold ElP at this
     rw [hr] at this
     exact this
    unfold ftV at CK
    obtain ⟨N2, hN2⟩ : ∃ n, n = x.kids.length := ⟨_, rfl⟩
    obtain ⟨M2, hM2⟩ : ∃ n, n = x.b.length := ⟨_, rfl⟩
    simp only [← hN2, ← hM2] at CK y1 y6
    replace CK := Hd CK
    replace hat := Hd hat
    replace hkin := Hd hkin
    replace hx := Hd hx
    replace htk := Hd htk
    replace hN2 := Hd hN2
    replace hM2 := Hd hM2
    replace hk := Hd hk
    replace hmem := Hd hmem
    replace hkj := Hd hkj
    replace hr := Hd hr
    clear cell
    go_upto_region 10 with fail
    clear y0 y1 y2 y3 y4 y5 y6
    obtain ⟨V, hV⟩ : ∃ V, V = wr.alloc (.cells #[.int .i64 x.k, .slice Ak2 N2 ck2, .string (baO x.t), .string (baO x.v), .string (baO x.a), .string (baO x.z), .slice Ab2 M2 cb2] 25) := ⟨_, rfl⟩
    have hbV : Below wr.heap.size wr V := by rw [hV]; exact (Below.refl _ _).alloc (Nat.le_refl _) _
    have hKV : V.heap[wr.heap.size]? = some (.cells #[.int .i64 x.k, .slice Ak2 N2 ck2, .string (baO x.t), .string (baO x.v), .string (baO x.a), .string (baO x.z), .slice Ab2 M2 cb2] 25 (0, 0)) := by rw [hV]; exact heap_alloc_new wr _
    have hzV : V.heap.size = wr.heap.size + 1 := by rw [hV]; simp
    rw [← hV]
    obtain ⟨Y, hY⟩ : ∃ Y, Y = wr.heap.size := ⟨_, rfl⟩
    rw [← hY]
    rw [← hY] at hKV hzV
    have HV := Hd (HI.out.go hbV)
    have hXY : X < Y := by have := HI.out.size; omega
    obtain ⟨cs, hrow1, hrow2, hrow3, hrow4⟩ := HV.out.row.parts
    rw [hNj.out] at hrow1
    have KEEP : Hid (∀ W, Below V.heap.size V W → W.cell? ⟨Y, 0, none⟩ = some (.int .i64 x.k) ∧ W.cell? ⟨Y, 1, none⟩ = some (.slice Ak2 N2 ck2) ∧ W.cell? ⟨Y, 2, none⟩ = some (.string (baO x.t)) ∧ W.cell? ⟨Y, 3, none⟩ = some (.string (baO x.v)) ∧ W.cell? ⟨Y, 4, none⟩ = some (.string (baO x.a)) ∧ W.cell? ⟨Y, 5, none⟩ = some (.string (baO x.z)) ∧ W.cell? ⟨Y, 6, none⟩ = some (.slice Ab2 M2 cb2)) := Hd fun W h => by
     obtain ⟨z0, z1, z2, z3, z4, z5, z6⟩ := cells7 ((h.block _ (by omega)).trans hKV)
     exact ⟨z0, z1, z2, z3, z4, z5, z6⟩
    have T := Hd fun W (hb : Below V.heap.size V W) => (HV.out.cells hb).1
    have CKV := Hd fun W (hb : Below V.heap.size V W) => CK.out W (HV.out.below.trans (hb.mono HV.out.below.size))
    have hsz := HV.out.size
    have hYr : Hid (∀ b, (Value.slice A j cc).ownBlock = some b → b ≠ Y) := Hd fun b hb => by
     obtain ⟨_, _, _, h4, _⟩ := HI.out.row.parts
     have := (h4 b hb).2
     omega
    replace hrow1 := Hd hrow1
    replace hrow2 := Hd hrow2
    replace hrow3 := Hd hrow3
    replace hrow4 := Hd hrow4
    replace hV := Hd hV
    replace hbV := Hd hbV
    replace hKV := Hd hKV
    replace hY := Hd hY
    replace HI := Hd HI.out
    refine wp_viaQ (Q' := fun e a W => match e with | .normal => ∃ u5 u30 u31 u32 u33 u34 u35 u36 u37 u38 u39 u40, ∃ (g cap : Nat), a = { tmps := (.agg #[.int .i64 f.k, .slice (some ⟨bl, off, none⟩) K ck, .string (baO f.t), .string (baO f.v), .string (baO f.a), .string (baO f.z), .slice Ab B cb] :: .pointer (some ⟨w.heap.size, 0, none⟩) :: .pointer (some ⟨w.heap.size + 1, 0, none⟩) :: .pointer (some ⟨X, 0, none⟩) :: undef :: u5 :: .pointer (some ⟨w.heap.size, 0, none⟩) :: .int .i64 f.k :: .agg #[.int .i64 2, .bool true, .int .i64 f.k] :: .agg #[.int .i64 2, .bool true, .int .i64 f.k, .slice none 0 0, .slice none 0 0] :: .pointer (some ⟨w.heap.size, 0, none⟩) :: .int .i64 f.k :: undef :: undef :: undef :: undef :: undef :: undef :: undef :: undef :: undef :: undef :: .bool true :: u23 :: u24 :: u25 :: .pointer (some ⟨w.heap.size, 1, none⟩) :: .slice (some ⟨bl, off, none⟩) K ck :: .int .i64 (K : Int) :: .int .i64 (j : Int) :: u30 :: u31 :: u32 :: u33 :: u34 :: u35 :: u36 :: u37 :: u38 :: u39 :: u40 :: undef :: undef :: undef :: undef :: undef :: undef :: undef :: undef :: undef :: undef :: undef :: undef :: undef :: undef :: undef :: undef :: undef :: []).toArray, defers := [] } ∧ Hid (MkI #[.int .i64 f.k, .slice (some ⟨bl, off, none⟩) K ck, .string (baO f.t), .string (baO f.v), .string (baO f.a), .string (baO f.z), .slice Ab B cb] X 2 f.k true w W (kj ++ [r]) (.slice (some ⟨g, 0, none⟩) (j + 1) cap)) | _ => False) ?_ ?_
    have rD := T.out V.drew (Below.refl _ _).drew
    · refine wp_region_held_drew (S := (fun W => W.cell? ⟨Y, 0, none⟩ = some (.int .i64 x.k) ∧ W.cell? ⟨Y, 1, none⟩ = some (.slice Ak2 N2 ck2) ∧ W.cell? ⟨Y, 2, none⟩ = some (.string (baO x.t)) ∧ W.cell? ⟨Y, 3, none⟩ = some (.string (baO x.v)) ∧ W.cell? ⟨Y, 4, none⟩ = some (.string (baO x.a)) ∧ W.cell? ⟨Y, 5, none⟩ = some (.string (baO x.z)) ∧ W.cell? ⟨Y, 6, none⟩ = some (.slice Ab2 M2 cb2))) (by kernel_rfl) (KEEP.out _ (Below.refl _ _).drew) ?_
      intro hHeld
      refine tk 0 33 hHeld ?_
      refine tk 2 35 hHeld ?_
      refine rdy [1, 3] ?_
      refine .cons rfl (fun K hK => ?_) (.cons rfl (fun K hK => ?_) .nil)
      · go_simp
        refine hK.out _ _ (KEEP.out _ (Below.refl _ _).drew) ?_
        clear hK K hHeld
        intro hHeld
        refine rdy [3] ?_
        refine .cons rfl (fun K hK => ?_) .nil
        go_simp
        go_at_call 34
        refine (CKV.out _ ((Below.refl V.heap.size V).drew)).mono ?_
        rintro _ u1 ⟨A3, c3, B3, d3, rfl, hin3, hu1⟩
        have HB1 := Hd (((Below.refl V.heap.size V).drew).trans (hu1.mono ((Below.refl V.heap.size V).drew).size))
        have HN3 := Hd (show ElIn u1 (NewB V.heap.size u1) r A3 c3 B3 d3 from ElIn.more hin3 fun _ hb => ⟨Nat.le_trans ((Below.refl V.heap.size V).drew).size hb.1, hb.2⟩)
        have rA : ∀ ob : Obj, (u1.alloc ob).cell? ⟨X, 4, none⟩ = some (.slice A j cc) := fun ob => T.out _ (HB1.out.alloc HB1.out.size ob)
        have ru1 := T.out _ HB1.out
        have hz3 := HB1.out.size
        clear hu1 hin3
        dsimp only []
        refine hK.out _ _ (KEEP.out _ HB1.out) ?_
        clear hK K hHeld
        intro hHeld
        refine rdy [4] ?_
        refine .cons rfl (fun K hK => ?_) .nil
        go_simp
        refine hK.out _ _ (KEEP.out _ (HB1.out.alloc (HB1.out).size _)) ?_
        clear hK K hHeld
        intro hHeld
        refine rdy [5] ?_
        refine .cons rfl (fun K hK => ?_) .nil
        refine step_append_lies _ rfl (.tmp 34) (.tmp 37) 41 rfl (X + 1) 43 i0 _ 5 72 Tryz.underlying41 hi.out q1 q2 q3 rfl (by decide) (.slice A j cc) j cs rfl (World.ownsRow.alloc (owns_below hrow1.out (HB1.out)) _) ⟨u1.heap.size, 0, none⟩ 1 1 (el5 r A3 c3 B3 d3) rfl rfl (World.news_of_block (cs := #[.int .i64 r.c, .bool r.m, .int .i64 r.n, .slice A3 r.b.length c3, .slice B3 r.kids.length d3]) (fr := (0, 0)) (heap_alloc_new u1 _)) (el5_one _ _ _ _ _) (by decide) (by simp only [maxLen]; omega) (by omega) (by simp; omega) _ rfl ?_
        intro g cap w6 hown hg hat hgl
        obtain ⟨HS, c6, f6, b6⟩ := mk_add HV.out hNj.out (HB1.out) HN3.out rfl hrow2.out hrow3.out hrow4.out hown hg hat
        replace HS := Hd HS
        have hy6 : w6.heap[Y]? = V.heap[Y]? := by
         rw [hg.block Y (by simp; omega) (fun e => hYr.out _ e.symm rfl), Below.heap_alloc _ _ _ (by omega)]
         exact (HB1.out).block Y (by omega)
        obtain ⟨z0, z1, z2, z3, z4, z5, z6⟩ := cells7 (hy6.trans hKV.out)
        clear hown hg hat b6 hy6
        try dsimp only []
        refine hK.out _ _ (⟨z0, z1, z2, z3, z4, z5, z6⟩) ?_
        clear hK K hHeld
        intro hHeld
        refine tk 6 39 hHeld ?_
        refine rdy [7] ?_
        refine .cons rfl (fun K hK => ?_) .nil
        have hne : X ≠ Y := by omega
        go_simp
        refine hK.out _ _ (⟨cell_beside14 z0 hne, cell_beside14 z1 hne, cell_beside14 z2 hne, cell_beside14 z3 hne, cell_beside14 z4 hne, cell_beside14 z5 hne, cell_beside14 z6 hne⟩) ?_
        clear hK K hHeld
        intro hHeld
        refine wpAnyH_done (by kernel_rfl) ?_ _
        exact ⟨_, _, _, _, _, _, _, _, _, _, _, _, g, cap, rfl, HS⟩
      · go_simp
        go_at_call 34
        refine (CKV.out _ ((Below.refl V.heap.size V).drew)).mono ?_
        rintro _ u2 ⟨A3, c3, B3, d3, rfl, hin3, hu2⟩
        have HB2 := Hd (((Below.refl V.heap.size V).drew).trans (hu2.mono ((Below.refl V.heap.size V).drew).size))
        have HN3 := Hd (show ElIn u2 (NewB V.heap.size u2) r A3 c3 B3 d3 from ElIn.more hin3 fun _ hb => ⟨Nat.le_trans ((Below.refl V.heap.size V).drew).size hb.1, hb.2⟩)
        have rA : ∀ ob : Obj, (u2.alloc ob).cell? ⟨X, 4, none⟩ = some (.slice A j cc) := fun ob => T.out _ (HB2.out.alloc HB2.out.size ob)
        have ru2 := T.out _ HB2.out
        have hz3 := HB2.out.size
        clear hu2 hin3
        dsimp only []
        refine hK.out _ _ (KEEP.out _ HB2.out) ?_
        clear hK K hHeld
        intro hHeld
        refine rdy [1, 4] ?_
        refine .cons rfl (fun K hK => ?_) (.cons rfl (fun K hK => ?_) .nil)
        · go_simp
          refine hK.out _ _ (KEEP.out _ HB2.out) ?_
          clear hK K hHeld
          intro hHeld
          refine rdy [4] ?_
          refine .cons rfl (fun K hK => ?_) .nil
          go_simp
          refine hK.out _ _ (KEEP.out _ (HB2.out.alloc (HB2.out).size _)) ?_
          clear hK K hHeld
          intro hHeld
          refine rdy [5] ?_
          refine .cons rfl (fun K hK => ?_) .nil
          refine step_append_lies _ rfl (.tmp 34) (.tmp 37) 41 rfl (X + 1) 43 i0 _ 5 72 Tryz.underlying41 hi.out q1 q2 q3 rfl (by decide) (.slice A j cc) j cs rfl (World.ownsRow.alloc (owns_below hrow1.out (HB2.out)) _) ⟨u2.heap.size, 0, none⟩ 1 1 (el5 r A3 c3 B3 d3) rfl rfl (World.news_of_block (cs := #[.int .i64 r.c, .bool r.m, .int .i64 r.n, .slice A3 r.b.length c3, .slice B3 r.kids.length d3]) (fr := (0, 0)) (heap_alloc_new u2 _)) (el5_one _ _ _ _ _) (by decide) (by simp only [maxLen]; omega) (by omega) (by simp; omega) _ rfl ?_
          intro g cap w6 hown hg hat hgl
          obtain ⟨HS, c6, f6, b6⟩ := mk_add HV.out hNj.out (HB2.out) HN3.out rfl hrow2.out hrow3.out hrow4.out hown hg hat
          replace HS := Hd HS
          have hy6 : w6.heap[Y]? = V.heap[Y]? := by
           rw [hg.block Y (by simp; omega) (fun e => hYr.out _ e.symm rfl), Below.heap_alloc _ _ _ (by omega)]
           exact (HB2.out).block Y (by omega)
          obtain ⟨z0, z1, z2, z3, z4, z5, z6⟩ := cells7 (hy6.trans hKV.out)
          clear hown hg hat b6 hy6
          try dsimp only []
          refine hK.out _ _ (⟨z0, z1, z2, z3, z4, z5, z6⟩) ?_
          clear hK K hHeld
          intro hHeld
          refine tk 6 39 hHeld ?_
          refine rdy [7] ?_
          refine .cons rfl (fun K hK => ?_) .nil
          have hne : X ≠ Y := by omega
          go_simp
          refine hK.out _ _ (⟨cell_beside14 z0 hne, cell_beside14 z1 hne, cell_beside14 z2 hne, cell_beside14 z3 hne, cell_beside14 z4 hne, cell_beside14 z5 hne, cell_beside14 z6 hne⟩) ?_
          clear hK K hHeld
          intro hHeld
          refine wpAnyH_done (by kernel_rfl) ?_ _
          exact ⟨_, _, _, _, _, _, _, _, _, _, _, _, g, cap, rfl, HS⟩
        · go_simp
          refine hK.out _ _ (KEEP.out _ (HB2.out.alloc (HB2.out).size _)) ?_
          clear hK K hHeld
          intro hHeld
          refine rdy [1] ?_
          refine .cons rfl (fun K hK => ?_) .nil
          go_simp
          refine hK.out _ _ (KEEP.out _ (HB2.out.alloc (HB2.out).size _)) ?_
          clear hK K hHeld
          intro hHeld
          refine rdy [5] ?_
          refine .cons rfl (fun K hK => ?_) .nil
          refine step_append_lies _ rfl (.tmp 34) (.tmp 37) 41 rfl (X + 1) 43 i0 _ 5 72 Tryz.underlying41 hi.out q1 q2 q3 rfl (by decide) (.slice A j cc) j cs rfl (World.ownsRow.alloc (owns_below hrow1.out (HB2.out)) _) ⟨u2.heap.size, 0, none⟩ 1 1 (el5 r A3 c3 B3 d3) rfl rfl (World.news_of_block (cs := #[.int .i64 r.c, .bool r.m, .int .i64 r.n, .slice A3 r.b.length c3, .slice B3 r.kids.length d3]) (fr := (0, 0)) (heap_alloc_new u2 _)) (el5_one _ _ _ _ _) (by decide) (by simp only [maxLen]; omega) (by omega) (by simp; omega) _ rfl ?_
          intro g cap w6 hown hg hat hgl
          obtain ⟨HS, c6, f6, b6⟩ := mk_add HV.out hNj.out (HB2.out) HN3.out rfl hrow2.out hrow3.out hrow4.out hown hg hat
          replace HS := Hd HS
          have hy6 : w6.heap[Y]? = V.heap[Y]? := by
           rw [hg.block Y (by simp; omega) (fun e => hYr.out _ e.symm rfl), Below.heap_alloc _ _ _ (by omega)]
           exact (HB2.out).block Y (by omega)
          obtain ⟨z0, z1, z2, z3, z4, z5, z6⟩ := cells7 (hy6.trans hKV.out)
          clear hown hg hat b6 hy6
          try dsimp only []
          refine hK.out _ _ (⟨z0, z1, z2, z3, z4, z5, z6⟩) ?_
          clear hK K hHeld
          intro hHeld
          refine tk 6 39 hHeld ?_
          refine rdy [7] ?_
          refine .cons rfl (fun K hK => ?_) .nil
          have hne : X ≠ Y := by omega
          go_simp
          refine hK.out _ _ (⟨cell_beside14 z0 hne, cell_beside14 z1 hne, cell_beside14 z2 hne, cell_beside14 z3 hne, cell_beside14 z4 hne, cell_beside14 z5 hne, cell_beside14 z6 hne⟩) ?_
          clear hK K hHeld
          intro hHeld
          refine wpAnyH_done (by kernel_rfl) ?_ _
          exact ⟨_, _, _, _, _, _, _, _, _, _, _, _, g, cap, rfl, HS⟩
    rintro e a W h
    cases e
    all_goals first | exact h.elim | skip
    obtain ⟨u5, u30, u31, u32, u33, u34, u35, u36, u37, u38, u39, u40, g, cap, rfl, HS⟩ := h
    have HS' : Hid (MkI #[.int .i64 f.k, .slice (some ⟨bl, off, none⟩) K ck, .string (baO f.t), .string (baO f.v), .string (baO f.a), .string (baO f.z), .slice Ab B cb] X 2 f.k true w W ((f.kids.take (j + 1)).map Ft.el) (.slice (some ⟨g, 0, none⟩) (j + 1) cap)) := Hd (by
     have := HS.out
     rw [hkj.out, ← hr.out] at this
     rw [htk.out, List.map_append]
     exact this)
    go_wp2_with fail
    go_roundw
    case rel => exact ⟨j + 1, some ⟨g, 0, none⟩, cap, by omega, by go_num, HS'⟩
    case measure => simp [RowKit.intOf]; omega
  · have hjB : j = K := by omega
    have j1 : ¬ ((j : Int) < (K : Int)) := by omega
    rw [List.take_of_length_le (by rw [hK.out, hjB]; exact Nat.le_refl _)] at HI
    replace hjB := Hd hjB
    have hO := HI.out.out
    have hR := HI.out.res
    obtain ⟨o0, o1, o2, o3, o4⟩ := cells5e hO
    obtain ⟨e0, e1, e2, e3, e4⟩ := cells5e hR
    have hf1 := free7 hR
    have hbl := HI.out.below
    obtain ⟨A9, c9, hv9, hsl9⟩ := HI.out.row.sl
    replace hO := Hd hO
    replace hR := Hd hR
    replace hbl := Hd hbl
    replace hsl9 := Hd hsl9
    replace hv9 := Hd hv9
    go_wp2_with fail
    have HC := Hd (set5_same (hR.out) (.int .i64 2) (.bool true) (.int .i64 f.k) (.slice none 0 0) (.slice A j cc))
    have HL := Hd (set5_below (hbl.out) (by omega : _ ≤ w.heap.size + 1) (.int .i64 2) (.bool true) (.int .i64 f.k) (.slice none 0 0) (.slice A j cc))
    have HN := Hd (fun lo lo0 ee qa qc qb qd (hin : ElIn wr (NewB lo wr) ee qa qc qb qd) (hX : w.heap.size + 1 < lo) (h0 : lo0 ≤ lo) => hin.set5 (.int .i64 2) (.bool true) (.int .i64 f.k) (.slice none 0 0) (.slice A j cc) hX h0)
    have HX : set5 wr (w.heap.size + 1) (.int .i64 2) (.bool true) (.int .i64 f.k) (.slice none 0 0) (.slice A j cc) = (((((wr.setCell ⟨w.heap.size + 1, 0, none⟩ (.int .i64 2)).setCell ⟨w.heap.size + 1, 1, none⟩ (.bool true)).setCell ⟨w.heap.size + 1, 2, none⟩ (.int .i64 f.k)).setCell ⟨w.heap.size + 1, 3, none⟩ (.slice none 0 0)).setCell ⟨w.heap.size + 1, 4, none⟩ (.slice A j cc)) := rfl
    rw [← HX]
    obtain ⟨W5, hW5⟩ : ∃ W5, W5 = set5 wr (w.heap.size + 1) (.int .i64 2) (.bool true) (.int .i64 f.k) (.slice none 0 0) (.slice A j cc) := ⟨_, rfl⟩
    rw [← hW5] at HC HL HN ⊢
    clear HX hW5 e0 e1 e2 e3 e4 hf1 o0 o1 o2 o3 o4
    obtain ⟨v0, v1, v2, v3, v4⟩ := cells5e HC.out
    exact bodyPost_ret (v := .agg #[.int .i64 2, .bool true, .int .i64 f.k, .slice none 0 0, .slice A j cc]) (by simp [results, Tryz.results34, go_sem, v0, v1, v2, v3, v4]) rfl (mk_endG HI.out hel.out hsl9.out hv9.out HL.out (fun e A c B d h1 h2 h3 => HN.out _ _ e A c B d h1 h2 h3))
end Go.Proofs.YtcbiedonmibfaaaGreatDoor
namespace Go.Proofs.YtcbiedonmibfaaaGreatDoor
open Go.RowKit Go.Lib
theorem two_sl {u : World} {lo : Nat} {e1 e2 : El} {A1 B1 A2 B2 : Option Addr} {c1 d1 c2 d2 : Nat} (h1 : ElIn u (NewB lo u) e1 A1 c1 B1 d1) (h2 : ElIn u (NewB lo u) e2 A2 c2 B2 d2) (hlo : lo ≤ u.heap.size) (cs : Array Value) (hcs : cs = (el5 e1 A1 c1 B1 d1 ++ el5 e2 A2 c2 B2 d2).toArray) :
 SlI (u.alloc (.cells cs 43)) (NewB lo (u.alloc (.cells cs 43))) (some ⟨u.heap.size, 0, none⟩) 2 (Fo.of [e1, e2]) := by
 have hb : Below u.heap.size u (u.alloc (.cells cs 43)) := (Below.refl _ _).alloc (Nat.le_refl _) _
 have hX : (u.alloc (.cells cs 43)).heap[u.heap.size]? = some (.cells cs 43 (0, 0)) := heap_alloc_new u _
 have up : ∀ {e : El} {A B : Option Addr} {c d : Nat}, ElIn u (NewB lo u) e A c B d → ElIn (u.alloc (.cells cs 43)) (NewB lo (u.alloc (.cells cs 43))) e A c B d := fun h => (h.keep fun p hp => hb.cell hp.2.lt).more fun b hb2 => hb2.below hb (Nat.le_refl _)
 refine ⟨by rw [Fo.list_of]; exact Nat.le_refl _, by omega, (fun e => by cases e), fun ad e _ => ?_⟩
 injection e with e
 subst e
 refine ⟨rfl, ⟨hlo, ⟨_, _, _, hX, .inl rfl⟩⟩, foAt_ofR [e1, e2] u.heap.size 0 fun i hi => ?_⟩
 have cell : ∀ j v, cs[j]? = some v → (u.alloc (.cells cs 43)).cell? ⟨u.heap.size, j, none⟩ = some v := fun j v hv => (cell_of_row _ _ j _ _ _ hX).trans hv
 subst hcs
 match i, hi with
 | 0, _ => exact ⟨A1, c1, B1, d1, ⟨cell _ _ rfl, cell _ _ rfl, cell _ _ rfl, cell _ _ rfl, cell _ _ rfl⟩, up h1⟩
 | 1, _ => exact ⟨A2, c2, B2, d2, ⟨cell _ _ rfl, cell _ _ rfl, cell _ _ rfl, cell _ _ rfl, cell _ _ rfl⟩, up h2⟩
theorem elem_leaf7 (f : Ft) (hfk : f.k = 7) (Ak : Option Addr) (ck : Nat) (Ab : Option Addr) (cb : Nat) (w : World) (hin : FtIn w (· < w.heap.size) f Ak ck Ab cb) :
 Calls Tryz.prog 34 #[ftV f Ak ck Ab cb] w (ElP f w) := by
 have hel := el_7 hfk
 obtain ⟨K, hK⟩ : ∃ K, f.kids.length = K := ⟨_, rfl⟩
 obtain ⟨B, hB⟩ : ∃ B, f.b.length = B := ⟨_, rfl⟩
 unfold ftV
 rw [hK, hB, hfk]
 obtain ⟨W0, hW0⟩ : ∃ W0, W0 = (w.alloc (.cells #[.int .i64 7, .slice Ak K ck, .string (baO f.t), .string (baO f.v), .string (baO f.a), .string (baO f.z), .slice Ab B cb] 25)).alloc (.cells #[.int .i64 0, .bool false, .int .i64 0, .slice none 0 0, .slice none 0 0] 43) := ⟨_, rfl⟩
 have CU := Hd ((own14_any (7) W0).mono fun en w' ⟨h1, h2⟩ => (show en = Ending.returned (.agg #[.int .i64 2, .bool false, .int .i64 (7)]) ∧ Below W0.heap.size W0 w' from ⟨by rw [h1]; rfl, h2⟩))
 have ST := Hd fun w1 (hb : Below W0.heap.size W0 w1) => mk_start hW0 hb 2 (7) false
 have hx0 : W0.heap[w.heap.size]? = some (.cells #[.int .i64 7, .slice Ak K ck, .string (baO f.t), .string (baO f.v), .string (baO f.a), .string (baO f.z), .slice Ab B cb] 25 (0, 0)) := by rw [hW0, Below.heap_alloc _ _ _ (by simp)]; exact heap_alloc_new w _
 have x0 : W0.cell? ⟨w.heap.size, 0, none⟩ = some (.int .i64 (7)) := cell_of_row _ _ 0 _ _ _ hx0
 replace hx0 := Hd hx0
 replace hin := Hd hin
 replace hB := Hd hB
 replace hK := Hd hK
 replace hel := Hd hel
 go_enter Tryz.func34, Tryz.ntmps34
 go_wp2_with fail
 rw [← hW0]
 replace hW0 := Hd hW0
 try go_wp2_with fail
 refine CU.out.mono ?_
 rintro _ w1 ⟨rfl, hb1⟩
 have H1 := ST.out w1 hb1
 obtain ⟨W1, hW1⟩ : ∃ W, W = w1.alloc (.cells #[.int .i64 2, .bool false, .int .i64 (7), .slice none 0 0, .slice none 0 0] 43) := ⟨_, rfl⟩
 rw [← hW1] at H1
 have hXW : W1.heap.size = w1.heap.size + 1 := by rw [hW1]; simp
 have y0 := (H1.cells (Below.refl _ _)).2 0 _ rfl
 have y2 := (H1.cells (Below.refl _ _)).2 2 _ rfl
 rw [hW1] at y0 y2
 have cv := Lib.run_convert_string_bytes (P := Tryz.prog) W1 9 40 5 (baO f.t) Tryz.underlying9 Tryz.underlying40 Tryz.underlying5
 obtain ⟨cap, hcap⟩ : ∃ cap, grownCap W1 f.t.length 0 5 = cap := ⟨_, rfl⟩
 have hsrc := bytes_src W1 f.t cap hcap
 have hBB := below_bytes14 W1 (baO f.t)
 rw [baO_len, hcap, hXW] at cv
 rw [hXW] at hsrc
 obtain ⟨W2, hW2⟩ : ∃ W, W = Lib.bytesWorld W1 5 (baO f.t) := ⟨_, rfl⟩
 rw [← hW2] at cv hsrc hBB
 rw [hW1] at cv
 have H2 := H1.go hBB
 have hO2 := H2.out
 obtain ⟨o0, o1, o2, o3, o4⟩ := cells5e hO2
 have hf2 := free7 hO2
 clear x0
 replace hb1 := Hd hb1
 replace H1 := Hd H1
 replace hW1 := Hd hW1
 replace hW2 := Hd hW2
 replace H2 := Hd H2
 replace hO2 := Hd hO2
 replace hsrc := Hd hsrc
 replace hBB := Hd hBB
 replace hcap := Hd hcap
 dsimp only []
 go_upto_region 16 with fail
 clear y0 y2 cv
 obtain ⟨W3, hW3⟩ : ∃ W3, W3 = W2.setCell ⟨w1.heap.size, 3, none⟩ (.slice (some ⟨w1.heap.size + 1, 0, none⟩) f.t.length cap) := ⟨_, rfl⟩
 have hX3 : W3.heap[w1.heap.size]? = some (.cells #[.int .i64 2, .bool false, .int .i64 7, .slice (some ⟨w1.heap.size + 1, 0, none⟩) f.t.length cap, .slice none 0 0] 43 (0, 0)) := by
  rw [hW3, _root_.Go.heap_setCell_same _ _ _ _ _ _ hO2.out]
  rfl
 have hN3 : ∀ k, k ≠ w1.heap.size → W3.heap[k]? = W2.heap[k]? := fun k hk => by rw [hW3]; exact _root_.Go.heap_setCell_other _ _ _ _ hk
 have h2s := H2.out.two
 have hB3 : Hid (Below w.heap.size w W3) := Hd (by rw [hW3]; exact H2.out.below.setCell (p := ⟨w1.heap.size, 3, none⟩) (by show w.heap.size ≤ w1.heap.size; omega) _)
 have hRZ : Hid (W3.heap[w.heap.size + 1]? = some (.cells #[.int .i64 0, .bool false, .int .i64 0, .slice none 0 0, .slice none 0 0] 43 (0, 0))) := Hd ((hN3 _ (by omega)).trans H2.out.res)
 have hE3 : Hid (ElIn W3 (NewB (w1.heap.size + 1) W3) f.el (some ⟨w1.heap.size + 1, 0, none⟩) cap none 0) := Hd (by
  rw [hel.out]
  refine ⟨(hsrc.out.keep fun p hp => World.cell?_of_block (hN3 _ (by have := hp.1; omega))).more fun b hb => ⟨by have := hb.1; omega, hb.2.of (hN3 _ (by have := hb.1; omega))⟩, ⟨Nat.le_refl _, by omega, fun _ => rfl, fun _ e => by cases e⟩⟩)
 rw [← hW3]
 clear o0 o1 o2 o3 o4 hf2
 replace hX3 := Hd hX3
 replace hN3 := Hd hN3
 replace hW3 := Hd hW3
 obtain ⟨o0, o1, o2, o3, o4⟩ := cells5e hX3.out
 obtain ⟨e0, e1, e2, e3, e4⟩ := cells5e hRZ.out
 have hf1 := free7 hRZ.out
 go_wp2_with fail
 have HC := Hd (set5_same (hRZ.out) (.int .i64 2) (.bool false) (.int .i64 7) (.slice (some ⟨w1.heap.size + 1, 0, none⟩) f.t.length cap) (.slice none 0 0))
 have HL := Hd (set5_below (hB3.out) (by omega : _ ≤ w.heap.size + 1) (.int .i64 2) (.bool false) (.int .i64 7) (.slice (some ⟨w1.heap.size + 1, 0, none⟩) f.t.length cap) (.slice none 0 0))
 have HN := Hd (fun lo lo0 ee qa qc qb qd (hin : ElIn W3 (NewB lo W3) ee qa qc qb qd) (hX : w.heap.size + 1 < lo) (h0 : lo0 ≤ lo) => hin.set5 (.int .i64 2) (.bool false) (.int .i64 7) (.slice (some ⟨w1.heap.size + 1, 0, none⟩) f.t.length cap) (.slice none 0 0) hX h0)
 have HX : set5 W3 (w.heap.size + 1) (.int .i64 2) (.bool false) (.int .i64 7) (.slice (some ⟨w1.heap.size + 1, 0, none⟩) f.t.length cap) (.slice none 0 0) = (((((W3.setCell ⟨w.heap.size + 1, 0, none⟩ (.int .i64 2)).setCell ⟨w.heap.size + 1, 1, none⟩ (.bool false)).setCell ⟨w.heap.size + 1, 2, none⟩ (.int .i64 7)).setCell ⟨w.heap.size + 1, 3, none⟩ (.slice (some ⟨w1.heap.size + 1, 0, none⟩) f.t.length cap)).setCell ⟨w.heap.size + 1, 4, none⟩ (.slice none 0 0)) := rfl
 rw [← HX]
 obtain ⟨W5, hW5⟩ : ∃ W5, W5 = set5 W3 (w.heap.size + 1) (.int .i64 2) (.bool false) (.int .i64 7) (.slice (some ⟨w1.heap.size + 1, 0, none⟩) f.t.length cap) (.slice none 0 0) := ⟨_, rfl⟩
 rw [← hW5] at HC HL HN ⊢
 clear HX hW5 e0 e1 e2 e3 e4 hf1 o0 o1 o2 o3 o4
 obtain ⟨v0, v1, v2, v3, v4⟩ := cells5e HC.out
 exact bodyPost_ret (v := .agg #[.int .i64 2, .bool false, .int .i64 7, .slice (some ⟨w1.heap.size + 1, 0, none⟩) f.t.length cap, .slice none 0 0]) (by simp [results, Tryz.results34, go_sem, v0, v1, v2, v3, v4]) rfl (⟨some ⟨w1.heap.size + 1, 0, none⟩, cap, none, 0, by rw [hel.out]; show _ = Ending.returned (Value.agg #[_, _, _, .slice _ (nb f.t).length _, _]); rw [nb_len]; rfl, HN.out _ _ _ _ _ _ _ hE3.out (by omega) (by omega), HL.out⟩)
theorem elem_leafG (f : Ft) (h3 : ¬ f.k < 3) (h7 : f.k ≠ 7) (h4 : f.k ≠ 4) (Ak : Option Addr) (ck : Nat) (Ab : Option Addr) (cb : Nat) (w : World) (hin : FtIn w (· < w.heap.size) f Ak ck Ab cb) :
 Calls Tryz.prog 34 #[ftV f Ak ck Ab cb] w (ElP f w) := by
 have hel : f.el = ⟨2, true, f.k, [], Fo.of [octE 0 4 f.t, octE 0 4 f.v]⟩ := by rw [el_two h3 h7]; unfold Ft.snd; rw [if_neg h4]
 have km : (f.k != 7) = true := by simpa using h7
 obtain ⟨K, hK⟩ : ∃ K, f.kids.length = K := ⟨_, rfl⟩
 obtain ⟨B, hB⟩ : ∃ B, f.b.length = B := ⟨_, rfl⟩
 unfold ftV
 rw [hK, hB]
 obtain ⟨W0, hW0⟩ : ∃ W0, W0 = (w.alloc (.cells #[.int .i64 f.k, .slice Ak K ck, .string (baO f.t), .string (baO f.v), .string (baO f.a), .string (baO f.z), .slice Ab B cb] 25)).alloc (.cells #[.int .i64 0, .bool false, .int .i64 0, .slice none 0 0, .slice none 0 0] 43) := ⟨_, rfl⟩
 have CU := Hd ((own14_any (f.k) W0).mono fun en w' ⟨h1, h2⟩ => (show en = Ending.returned (.agg #[.int .i64 2, .bool true, .int .i64 (f.k)]) ∧ Below W0.heap.size W0 w' from ⟨by rw [h1]; rw [show (f.k != 7) = true from km], h2⟩))
 have ST := Hd fun w1 (hb : Below W0.heap.size W0 w1) => mk_start hW0 hb 2 (f.k) true
 have hx0 : W0.heap[w.heap.size]? = some (.cells #[.int .i64 f.k, .slice Ak K ck, .string (baO f.t), .string (baO f.v), .string (baO f.a), .string (baO f.z), .slice Ab B cb] 25 (0, 0)) := by rw [hW0, Below.heap_alloc _ _ _ (by simp)]; exact heap_alloc_new w _
 have x0 : W0.cell? ⟨w.heap.size, 0, none⟩ = some (.int .i64 (f.k)) := cell_of_row _ _ 0 _ _ _ hx0
 have k0 : (f.k == 0) = false := by simpa using (by omega : ¬ f.k = 0)
 have k1 : (f.k == 1) = false := by simpa using (by omega : ¬ f.k = 1)
 have k2 : (f.k == 2) = false := by simpa using (by omega : ¬ f.k = 2)
 have k7 : (f.k == 7) = false := by simpa using h7
 have k4 : (f.k == 4) = false := by simpa using h4
 replace hx0 := Hd hx0
 replace hin := Hd hin
 replace hB := Hd hB
 replace hK := Hd hK
 replace hel := Hd hel
 go_enter Tryz.func34, Tryz.ntmps34
 go_wp2_with fail
 rw [← hW0]
 replace hW0 := Hd hW0
 try go_wp2_with fail
 refine CU.out.mono ?_
 rintro _ w1 ⟨rfl, hb1⟩
 have H1 := ST.out w1 hb1
 obtain ⟨W1, hW1⟩ : ∃ W, W = w1.alloc (.cells #[.int .i64 2, .bool true, .int .i64 (f.k), .slice none 0 0, .slice none 0 0] 43) := ⟨_, rfl⟩
 rw [← hW1] at H1
 have hXW : W1.heap.size = w1.heap.size + 1 := by rw [hW1]; simp
 have y0 := (H1.cells (Below.refl _ _)).2 0 _ rfl
 rw [hW1] at y0
 have KEEP : Hid (∀ W, Below W1.heap.size W1 W → W.cell? ⟨w.heap.size, 2, none⟩ = some (.string (baO f.t)) ∧ W.cell? ⟨w.heap.size, 3, none⟩ = some (.string (baO f.v))) := Hd fun W h => by
  have := (H1.cells h).2
  exact ⟨this 2 _ rfl, this 3 _ rfl⟩
 have GO := Hd fun W (h : Below W1.heap.size W1 W) => H1.go h
 have CU4 := Hd fun W => (universal14_any 4 W).mono fun en w' ⟨h1, h2⟩ => (show en = Ending.returned (.agg #[.int .i64 0, .bool false, .int .i64 4]) ∧ Below W.heap.size W w' from ⟨by rw [h1]; rfl, h2⟩)
 have CP1 := Hd fun W => plainC 0 4 f.t W
 have CP2 := Hd fun W => plainC 0 4 f.v W
 have h2s := H1.two
 clear x0
 replace hb1 := Hd hb1
 replace H1 := Hd H1
 replace hW1 := Hd hW1
 dsimp only []
 go_upto_region 3 with fail
 clear y0 k0 k1 k2 k7 k4
 rw [← hW1.out]
 refine wp_region_held_drew (S := (fun W => W.cell? ⟨w.heap.size, 2, none⟩ = some (.string (baO f.t)) ∧ W.cell? ⟨w.heap.size, 3, none⟩ = some (.string (baO f.v)))) (by kernel_rfl) (KEEP.out _ (Below.refl _ _).drew) ?_
 intro hHeld
 refine tk 1 13 hHeld ?_
 refine tk 2 14 hHeld ?_
 refine tk 5 17 hHeld ?_
 refine tk 6 18 hHeld ?_
 refine rdy [0] ?_
 refine .cons rfl (fun K hK => ?_) .nil
 go_simp
 go_at_call 68
 refine (CU4.out _).mono ?_
 rintro _ u1 ⟨rfl, hu1⟩
 have HB1 := Hd (((Below.refl W1.heap.size W1).drew).trans (hu1.mono ((Below.refl W1.heap.size W1).drew).size))
 clear hu1
 dsimp only []
 refine hK.out _ _ (KEEP.out _ HB1.out) ?_
 clear hK K hHeld
 intro hHeld
 refine rdy [3] ?_
 refine .cons rfl (fun K hK => ?_) .nil
 go_simp
 go_at_call 70
 refine (CP1.out _).mono ?_
 rintro _ u2 ⟨A1, c1, rfl, hin1, hu2⟩
 have HB2 := Hd ((HB1.out).trans (hu2.mono (HB1.out).size))
 have E1 := Hd (show ElIn u2 (NewB (w1.heap.size + 1) u2) (octE 0 4 f.t) A1 c1 none 0 from ElIn.more hin1 fun _ hb => ⟨Nat.le_trans (by have := (HB1.out).size; omega) hb.1, hb.2⟩)
 clear hin1
 clear hu2
 dsimp only []
 refine hK.out _ _ (KEEP.out _ HB2.out) ?_
 clear hK K hHeld
 intro hHeld
 refine rdy [4] ?_
 refine .cons rfl (fun K hK => ?_) .nil
 go_simp
 go_at_call 68
 refine (CU4.out _).mono ?_
 rintro _ u3 ⟨rfl, hu3⟩
 replace E1 := Hd (elIn_new E1.out hu3)
 have HB3 := Hd ((HB2.out).trans (hu3.mono (HB2.out).size))
 clear hu3
 dsimp only []
 refine hK.out _ _ (KEEP.out _ HB3.out) ?_
 clear hK K hHeld
 intro hHeld
 refine rdy [7] ?_
 refine .cons rfl (fun K hK => ?_) .nil
 go_simp
 go_at_call 70
 refine (CP2.out _).mono ?_
 rintro _ u4 ⟨A2, c2, rfl, hin2, hu4⟩
 replace E1 := Hd (elIn_new E1.out hu4)
 have HB4 := Hd ((HB3.out).trans (hu4.mono (HB3.out).size))
 have E2 := Hd (show ElIn u4 (NewB (w1.heap.size + 1) u4) (octE 0 4 f.v) A2 c2 none 0 from ElIn.more hin2 fun _ hb => ⟨Nat.le_trans (by have := (HB3.out).size; omega) hb.1, hb.2⟩)
 clear hin2
 clear hu4
 dsimp only []
 refine hK.out _ _ (KEEP.out _ HB4.out) ?_
 clear hK K hHeld
 intro hHeld
 refine rdy [8] ?_
 refine .cons rfl (fun K hK => ?_) .nil
 go_simp
 refine hK.out _ _ (KEEP.out _ (HB4.out.alloc (HB4.out).size _)) ?_
 clear hK K hHeld
 intro hHeld
 refine tk 9 21 hHeld ?_
 refine rdy [10] ?_
 refine .cons rfl (fun K hK => ?_) .nil
 have HV := Hd (HB4.out.alloc (HB4.out).size (.cells #[.int .i64 0, .bool false, .int .i64 4, .slice A1 f.t.length c1, .slice none 0 0, .int .i64 0, .bool false, .int .i64 4, .slice A2 f.v.length c2, .slice none 0 0] 43))
 have HG := GO.out _ HV.out
 have hO := HG.out
 obtain ⟨o0, o1, o2, o3, o4⟩ := cells5e hO
 have hf2 := free7 hO
 have HSL := Hd (two_sl E1.out E2.out (by have := (HB4.out).size; omega) #[.int .i64 0, .bool false, .int .i64 4, .slice A1 f.t.length c1, .slice none 0 0, .int .i64 0, .bool false, .int .i64 4, .slice A2 f.v.length c2, .slice none 0 0] (by rw [← oct5, ← oct5]; rfl))
 have hkp := KEEP.out _ HV.out
 have hne : w1.heap.size ≠ w.heap.size := by omega
 obtain ⟨m2, m3⟩ := hkp
 replace HG := Hd HG
 replace hO := Hd hO
 go_simp
 clear o0 o1 o2 o3 o4 hf2
 refine hK.out _ _ (⟨cell_beside14 m2 hne, cell_beside14 m3 hne⟩) ?_
 clear hK K hHeld
 intro hHeld
 refine wpAnyH_done (by kernel_rfl) ?_ _
 go_upto_region 16 with fail
 obtain ⟨V, hV⟩ : ∃ V, V = u4.alloc (.cells #[.int .i64 0, .bool false, .int .i64 4, .slice A1 f.t.length c1, .slice none 0 0, .int .i64 0, .bool false, .int .i64 4, .slice A2 f.v.length c2, .slice none 0 0] 43) := ⟨_, rfl⟩
 rw [← hV] at HSL HG hO HV
 (try rw [← hV])
 obtain ⟨W3, hW3⟩ : ∃ W3, W3 = V.setCell ⟨w1.heap.size, 4, none⟩ (.slice (some ⟨u4.heap.size, 0, none⟩) 2 2) := ⟨_, rfl⟩
 have hX3 : W3.heap[w1.heap.size]? = some (.cells #[.int .i64 2, .bool true, .int .i64 (f.k), .slice none 0 0, .slice (some ⟨u4.heap.size, 0, none⟩) 2 2] 43 (0, 0)) := by
  rw [hW3, _root_.Go.heap_setCell_same _ _ _ _ _ _ hO.out]
  rfl
 have hN3 : ∀ k, k ≠ w1.heap.size → W3.heap[k]? = V.heap[k]? := fun k hk => by rw [hW3]; exact _root_.Go.heap_setCell_other _ _ _ _ hk
 have hB3 : Hid (Below w.heap.size w W3) := Hd (by rw [hW3]; exact HG.out.below.setCell (p := ⟨w1.heap.size, 4, none⟩) (by show w.heap.size ≤ w1.heap.size; omega) _)
 have hRZ : Hid (W3.heap[w.heap.size + 1]? = some (.cells #[.int .i64 0, .bool false, .int .i64 0, .slice none 0 0, .slice none 0 0] 43 (0, 0))) := Hd ((hN3 _ (by omega)).trans HG.out.res)
 have hE3 : Hid (ElIn W3 (NewB (w1.heap.size + 1) W3) f.el none 0 (some ⟨u4.heap.size, 0, none⟩) 2) := Hd (by
  rw [hel.out]
  refine ⟨⟨Nat.le_refl _, fun _ => rfl, fun _ e => by cases e⟩, ?_⟩
  exact (HSL.out.keep fun p hp => World.cell?_of_block (hN3 _ (by have := hp.1; omega))).more fun b hb => ⟨hb.1, hb.2.of (hN3 _ (by have := hb.1; omega))⟩)
 rw [← hW3]
 replace hX3 := Hd hX3
 replace hN3 := Hd hN3
 replace hW3 := Hd hW3
 replace hV := Hd hV
 obtain ⟨o0, o1, o2, o3, o4⟩ := cells5e hX3.out
 obtain ⟨e0, e1, e2, e3, e4⟩ := cells5e hRZ.out
 have hf1 := free7 hRZ.out
 go_wp2_with fail
 have HC := Hd (set5_same (hRZ.out) (.int .i64 2) (.bool true) (.int .i64 (f.k)) (.slice none 0 0) (.slice (some ⟨u4.heap.size, 0, none⟩) 2 2))
 have HL := Hd (set5_below (hB3.out) (by omega : _ ≤ w.heap.size + 1) (.int .i64 2) (.bool true) (.int .i64 (f.k)) (.slice none 0 0) (.slice (some ⟨u4.heap.size, 0, none⟩) 2 2))
 have HN := Hd (fun lo lo0 ee qa qc qb qd (hin : ElIn W3 (NewB lo W3) ee qa qc qb qd) (hX : w.heap.size + 1 < lo) (h0 : lo0 ≤ lo) => hin.set5 (.int .i64 2) (.bool true) (.int .i64 (f.k)) (.slice none 0 0) (.slice (some ⟨u4.heap.size, 0, none⟩) 2 2) hX h0)
 have HX : set5 W3 (w.heap.size + 1) (.int .i64 2) (.bool true) (.int .i64 (f.k)) (.slice none 0 0) (.slice (some ⟨u4.heap.size, 0, none⟩) 2 2) = (((((W3.setCell ⟨w.heap.size + 1, 0, none⟩ (.int .i64 2)).setCell ⟨w.heap.size + 1, 1, none⟩ (.bool true)).setCell ⟨w.heap.size + 1, 2, none⟩ (.int .i64 (f.k))).setCell ⟨w.heap.size + 1, 3, none⟩ (.slice none 0 0)).setCell ⟨w.heap.size + 1, 4, none⟩ (.slice (some ⟨u4.heap.size, 0, none⟩) 2 2)) := rfl
 rw [← HX]
 obtain ⟨W5, hW5⟩ : ∃ W5, W5 = set5 W3 (w.heap.size + 1) (.int .i64 2) (.bool true) (.int .i64 (f.k)) (.slice none 0 0) (.slice (some ⟨u4.heap.size, 0, none⟩) 2 2) := ⟨_, rfl⟩
 rw [← hW5] at HC HL HN ⊢
 clear HX hW5 e0 e1 e2 e3 e4 hf1 o0 o1 o2 o3 o4
 obtain ⟨v0, v1, v2, v3, v4⟩ := cells5e HC.out
 exact bodyPost_ret (v := .agg #[.int .i64 2, .bool true, .int .i64 (f.k), .slice none 0 0, .slice (some ⟨u4.heap.size, 0, none⟩) 2 2]) (by simp [results, Tryz.results34, go_sem, v0, v1, v2, v3, v4]) rfl (⟨none, 0, some ⟨u4.heap.size, 0, none⟩, 2, by rw [hel.out]; rfl, HN.out _ _ _ _ _ _ _ hE3.out (by omega) (by omega), HL.out⟩)
theorem elem_leaf4 (f : Ft) (hfk : f.k = 4) (hB3 : f.b.length < 3000) (Ak : Option Addr) (ck : Nat) (Ab : Option Addr) (cb : Nat) (w : World) (hin : FtIn w (· < w.heap.size) f Ak ck Ab cb) :
 Calls Tryz.prog 34 #[ftV f Ak ck Ab cb] w (ElP f w) := by
 have hel : f.el = ⟨2, true, 4, [], Fo.of [octE 0 4 f.t, ⟨0, true, 16, [], Fo.of f.parts⟩]⟩ := by rw [el_two (by omega) (by omega), hfk]; unfold Ft.snd; rw [if_pos hfk]
 have CPA := fun W (hW : Below w.heap.size w W) => parts_any f Ak ck Ab cb W ((hin.keep fun p hp => hW.cell hp).more fun b hb => Nat.lt_of_lt_of_le hb hW.size) hB3
 obtain ⟨K, hK⟩ : ∃ K, f.kids.length = K := ⟨_, rfl⟩
 obtain ⟨B, hB⟩ : ∃ B, f.b.length = B := ⟨_, rfl⟩
 unfold ftV
 rw [hK, hB, hfk]
 unfold ftV at CPA
 simp only [hK, hB, hfk] at CPA
 replace CPA := Hd CPA
 obtain ⟨W0, hW0⟩ : ∃ W0, W0 = (w.alloc (.cells #[.int .i64 4, .slice Ak K ck, .string (baO f.t), .string (baO f.v), .string (baO f.a), .string (baO f.z), .slice Ab B cb] 25)).alloc (.cells #[.int .i64 0, .bool false, .int .i64 0, .slice none 0 0, .slice none 0 0] 43) := ⟨_, rfl⟩
 have CU := Hd ((own14_any (4) W0).mono fun en w' ⟨h1, h2⟩ => (show en = Ending.returned (.agg #[.int .i64 2, .bool true, .int .i64 (4)]) ∧ Below W0.heap.size W0 w' from ⟨by rw [h1]; rfl, h2⟩))
 have ST := Hd fun w1 (hb : Below W0.heap.size W0 w1) => mk_start hW0 hb 2 (4) true
 have hx0 : W0.heap[w.heap.size]? = some (.cells #[.int .i64 4, .slice Ak K ck, .string (baO f.t), .string (baO f.v), .string (baO f.a), .string (baO f.z), .slice Ab B cb] 25 (0, 0)) := by rw [hW0, Below.heap_alloc _ _ _ (by simp)]; exact heap_alloc_new w _
 have x0 : W0.cell? ⟨w.heap.size, 0, none⟩ = some (.int .i64 (4)) := cell_of_row _ _ 0 _ _ _ hx0
 replace hx0 := Hd hx0
 replace hin := Hd hin
 replace hB := Hd hB
 replace hK := Hd hK
 replace hel := Hd hel
 go_enter Tryz.func34, Tryz.ntmps34
 go_wp2_with fail
 rw [← hW0]
 replace hW0 := Hd hW0
 try go_wp2_with fail
 refine CU.out.mono ?_
 rintro _ w1 ⟨rfl, hb1⟩
 have H1 := ST.out w1 hb1
 obtain ⟨W1, hW1⟩ : ∃ W, W = w1.alloc (.cells #[.int .i64 2, .bool true, .int .i64 (4), .slice none 0 0, .slice none 0 0] 43) := ⟨_, rfl⟩
 rw [← hW1] at H1
 have hXW : W1.heap.size = w1.heap.size + 1 := by rw [hW1]; simp
 have y0 := (H1.cells (Below.refl _ _)).2 0 _ rfl
 rw [hW1] at y0
 have KEEP : Hid (∀ W, Below W1.heap.size W1 W → W.cell? ⟨w.heap.size, 0, none⟩ = some (.int .i64 4) ∧ W.cell? ⟨w.heap.size, 1, none⟩ = some (.slice Ak K ck) ∧ W.cell? ⟨w.heap.size, 2, none⟩ = some (.string (baO f.t)) ∧ W.cell? ⟨w.heap.size, 3, none⟩ = some (.string (baO f.v)) ∧ W.cell? ⟨w.heap.size, 4, none⟩ = some (.string (baO f.a)) ∧ W.cell? ⟨w.heap.size, 5, none⟩ = some (.string (baO f.z)) ∧ W.cell? ⟨w.heap.size, 6, none⟩ = some (.slice Ab B cb)) := Hd fun W h => by
  have := (H1.cells h).2
  exact ⟨this 0 _ rfl, this 1 _ rfl, this 2 _ rfl, this 3 _ rfl, this 4 _ rfl, this 5 _ rfl, this 6 _ rfl⟩
 have GO := Hd fun W (h : Below W1.heap.size W1 W) => H1.go h
 have CU4 := Hd fun W => (universal14_any 4 W).mono fun en w' ⟨h1, h2⟩ => (show en = Ending.returned (.agg #[.int .i64 0, .bool false, .int .i64 4]) ∧ Below W.heap.size W w' from ⟨by rw [h1]; rfl, h2⟩)
 have CP1 := Hd fun W => plainC 0 4 f.t W
 have CP2 := Hd fun W => plainC 0 4 f.v W
 have h2s := H1.two
 clear x0
 replace hb1 := Hd hb1
 replace H1 := Hd H1
 replace hW1 := Hd hW1
 dsimp only []
 go_upto_region 15 with fail
 clear y0
 rw [← hW1.out]
 refine wp_region_held_drew (S := (fun W => W.cell? ⟨w.heap.size, 0, none⟩ = some (.int .i64 4) ∧ W.cell? ⟨w.heap.size, 1, none⟩ = some (.slice Ak K ck) ∧ W.cell? ⟨w.heap.size, 2, none⟩ = some (.string (baO f.t)) ∧ W.cell? ⟨w.heap.size, 3, none⟩ = some (.string (baO f.v)) ∧ W.cell? ⟨w.heap.size, 4, none⟩ = some (.string (baO f.a)) ∧ W.cell? ⟨w.heap.size, 5, none⟩ = some (.string (baO f.z)) ∧ W.cell? ⟨w.heap.size, 6, none⟩ = some (.slice Ab B cb))) (by kernel_rfl) (KEEP.out _ (Below.refl _ _).drew) ?_
 intro hHeld
 refine tk 1 50 hHeld ?_
 refine tk 2 51 hHeld ?_
 refine tk 4 53 hHeld ?_
 refine rdy [0] ?_
 refine .cons rfl (fun K hK => ?_) .nil
 go_simp
 go_at_call 68
 refine (CU4.out _).mono ?_
 rintro _ u1 ⟨rfl, hu1⟩
 have HB1 := Hd (((Below.refl W1.heap.size W1).drew).trans (hu1.mono ((Below.refl W1.heap.size W1).drew).size))
 clear hu1
 dsimp only []
 refine hK.out _ _ (KEEP.out _ HB1.out) ?_
 clear hK K hHeld
 intro hHeld
 refine rdy [3] ?_
 refine .cons rfl (fun K hK => ?_) .nil
 go_simp
 go_at_call 70
 refine (CP1.out _).mono ?_
 rintro _ u2 ⟨A1, c1, rfl, hin1, hu2⟩
 have HB2 := Hd ((HB1.out).trans (hu2.mono (HB1.out).size))
 have E1 := Hd (show ElIn u2 (NewB (w1.heap.size + 1) u2) (octE 0 4 f.t) A1 c1 none 0 from ElIn.more hin1 fun _ hb => ⟨Nat.le_trans (by have := (HB1.out).size; omega) hb.1, hb.2⟩)
 clear hin1
 clear hu2
 dsimp only []
 refine hK.out _ _ (KEEP.out _ HB2.out) ?_
 clear hK K hHeld
 intro hHeld
 refine rdy [5] ?_
 refine .cons rfl (fun K hK => ?_) .nil
 go_simp
 go_at_call 71
 refine (CPA.out _ ((GO.out _ HB2.out).below)).mono ?_
 rintro _ u3 ⟨A2, c2, rfl, hin2, hu3⟩
 replace E1 := Hd (elIn_new E1.out hu3)
 have HB3 := Hd ((HB2.out).trans (hu3.mono (HB2.out).size))
 have E2 := Hd (show ElIn u3 (NewB (w1.heap.size + 1) u3) ⟨0, true, 16, [], Fo.of f.parts⟩ none 0 A2 c2 from ElIn.more hin2 fun _ hb => ⟨Nat.le_trans (by have := (HB2.out).size; omega) hb.1, hb.2⟩)
 clear hin2
 clear hu3
 dsimp only []
 refine hK.out _ _ (KEEP.out _ HB3.out) ?_
 clear hK K hHeld
 intro hHeld
 refine rdy [6] ?_
 refine .cons rfl (fun K hK => ?_) .nil
 go_simp
 refine hK.out _ _ (KEEP.out _ (HB3.out.alloc (HB3.out).size _)) ?_
 clear hK K hHeld
 intro hHeld
 refine tk 7 56 hHeld ?_
 refine rdy [8] ?_
 refine .cons rfl (fun K hK => ?_) .nil
 have HV := Hd (HB3.out.alloc (HB3.out).size (.cells #[.int .i64 0, .bool false, .int .i64 4, .slice A1 f.t.length c1, .slice none 0 0, .int .i64 0, .bool true, .int .i64 16, .slice none 0 0, .slice A2 f.parts.length c2] 43))
 have HG := GO.out _ HV.out
 have hO := HG.out
 obtain ⟨o0, o1, o2, o3, o4⟩ := cells5e hO
 have hf2 := free7 hO
 have HSL := Hd (two_sl E1.out E2.out (by have := (HB3.out).size; omega) #[.int .i64 0, .bool false, .int .i64 4, .slice A1 f.t.length c1, .slice none 0 0, .int .i64 0, .bool true, .int .i64 16, .slice none 0 0, .slice A2 f.parts.length c2] (by show _ = (el5 (octE 0 4 f.t) A1 c1 none 0 ++ [_, _, _, _, Value.slice A2 (Fo.of f.parts).list.length c2]).toArray; rw [Fo.list_of, ← oct5]; rfl))
 have hkp := KEEP.out _ HV.out
 have hne : w1.heap.size ≠ w.heap.size := by omega
 obtain ⟨m0, m1, m2, m3, m4, m5, m6⟩ := hkp
 replace HG := Hd HG
 replace hO := Hd hO
 go_simp
 clear o0 o1 o2 o3 o4 hf2
 refine hK.out _ _ (⟨cell_beside14 m0 hne, cell_beside14 m1 hne, cell_beside14 m2 hne, cell_beside14 m3 hne, cell_beside14 m4 hne, cell_beside14 m5 hne, cell_beside14 m6 hne⟩) ?_
 clear hK K hHeld
 intro hHeld
 refine wpAnyH_done (by kernel_rfl) ?_ _
 go_upto_region 16 with fail
 obtain ⟨V, hV⟩ : ∃ V, V = u3.alloc (.cells #[.int .i64 0, .bool false, .int .i64 4, .slice A1 f.t.length c1, .slice none 0 0, .int .i64 0, .bool true, .int .i64 16, .slice none 0 0, .slice A2 f.parts.length c2] 43) := ⟨_, rfl⟩
 rw [← hV] at HSL HG hO HV
 (try rw [← hV])
 obtain ⟨W3, hW3⟩ : ∃ W3, W3 = V.setCell ⟨w1.heap.size, 4, none⟩ (.slice (some ⟨u3.heap.size, 0, none⟩) 2 2) := ⟨_, rfl⟩
 have hX3 : W3.heap[w1.heap.size]? = some (.cells #[.int .i64 2, .bool true, .int .i64 (4), .slice none 0 0, .slice (some ⟨u3.heap.size, 0, none⟩) 2 2] 43 (0, 0)) := by
  rw [hW3, _root_.Go.heap_setCell_same _ _ _ _ _ _ hO.out]
  rfl
 have hN3 : ∀ k, k ≠ w1.heap.size → W3.heap[k]? = V.heap[k]? := fun k hk => by rw [hW3]; exact _root_.Go.heap_setCell_other _ _ _ _ hk
 have hB3 : Hid (Below w.heap.size w W3) := Hd (by rw [hW3]; exact HG.out.below.setCell (p := ⟨w1.heap.size, 4, none⟩) (by show w.heap.size ≤ w1.heap.size; omega) _)
 have hRZ : Hid (W3.heap[w.heap.size + 1]? = some (.cells #[.int .i64 0, .bool false, .int .i64 0, .slice none 0 0, .slice none 0 0] 43 (0, 0))) := Hd ((hN3 _ (by omega)).trans HG.out.res)
 have hE3 : Hid (ElIn W3 (NewB (w1.heap.size + 1) W3) f.el none 0 (some ⟨u3.heap.size, 0, none⟩) 2) := Hd (by
  rw [hel.out]
  refine ⟨⟨Nat.le_refl _, fun _ => rfl, fun _ e => by cases e⟩, ?_⟩
  exact (HSL.out.keep fun p hp => World.cell?_of_block (hN3 _ (by have := hp.1; omega))).more fun b hb => ⟨hb.1, hb.2.of (hN3 _ (by have := hb.1; omega))⟩)
 rw [← hW3]
 replace hX3 := Hd hX3
 replace hN3 := Hd hN3
 replace hW3 := Hd hW3
 replace hV := Hd hV
 obtain ⟨o0, o1, o2, o3, o4⟩ := cells5e hX3.out
 obtain ⟨e0, e1, e2, e3, e4⟩ := cells5e hRZ.out
 have hf1 := free7 hRZ.out
 go_wp2_with fail
 have HC := Hd (set5_same (hRZ.out) (.int .i64 2) (.bool true) (.int .i64 (4)) (.slice none 0 0) (.slice (some ⟨u3.heap.size, 0, none⟩) 2 2))
 have HL := Hd (set5_below (hB3.out) (by omega : _ ≤ w.heap.size + 1) (.int .i64 2) (.bool true) (.int .i64 (4)) (.slice none 0 0) (.slice (some ⟨u3.heap.size, 0, none⟩) 2 2))
 have HN := Hd (fun lo lo0 ee qa qc qb qd (hin : ElIn W3 (NewB lo W3) ee qa qc qb qd) (hX : w.heap.size + 1 < lo) (h0 : lo0 ≤ lo) => hin.set5 (.int .i64 2) (.bool true) (.int .i64 (4)) (.slice none 0 0) (.slice (some ⟨u3.heap.size, 0, none⟩) 2 2) hX h0)
 have HX : set5 W3 (w.heap.size + 1) (.int .i64 2) (.bool true) (.int .i64 (4)) (.slice none 0 0) (.slice (some ⟨u3.heap.size, 0, none⟩) 2 2) = (((((W3.setCell ⟨w.heap.size + 1, 0, none⟩ (.int .i64 2)).setCell ⟨w.heap.size + 1, 1, none⟩ (.bool true)).setCell ⟨w.heap.size + 1, 2, none⟩ (.int .i64 (4))).setCell ⟨w.heap.size + 1, 3, none⟩ (.slice none 0 0)).setCell ⟨w.heap.size + 1, 4, none⟩ (.slice (some ⟨u3.heap.size, 0, none⟩) 2 2)) := rfl
 rw [← HX]
 obtain ⟨W5, hW5⟩ : ∃ W5, W5 = set5 W3 (w.heap.size + 1) (.int .i64 2) (.bool true) (.int .i64 (4)) (.slice none 0 0) (.slice (some ⟨u3.heap.size, 0, none⟩) 2 2) := ⟨_, rfl⟩
 rw [← hW5] at HC HL HN ⊢
 clear HX hW5 e0 e1 e2 e3 e4 hf1 o0 o1 o2 o3 o4
 obtain ⟨v0, v1, v2, v3, v4⟩ := cells5e HC.out
 exact bodyPost_ret (v := .agg #[.int .i64 2, .bool true, .int .i64 (4), .slice none 0 0, .slice (some ⟨u3.heap.size, 0, none⟩) 2 2]) (by simp [results, Tryz.results34, go_sem, v0, v1, v2, v3, v4]) rfl (⟨none, 0, some ⟨u3.heap.size, 0, none⟩, 2, by rw [hel.out]; rfl, HN.out _ _ _ _ _ _ _ hE3.out (by omega) (by omega), HL.out⟩)
end Go.Proofs.YtcbiedonmibfaaaGreatDoor
namespace Go.Proofs.YtcbiedonmibfaaaGreatDoor
open Go.RowKit Go.Lib
theorem lensB_ge : ∀ b : List (List UInt8), b.length ≤ lensB b
 | [] => Nat.zero_le _
 | x :: r => by
   have := lensB_ge r
   unfold lensB at this ⊢
   simp only [List.map_cons, sumL_cons, List.length_cons] at this ⊢
   omega
theorem kids_le (f : Ft) : f.kids.length ≤ f.g.meas := by
 rw [Gl.meas_list]
 exact meas_ge _
theorem element_any (f : Ft) : ∀ (Ak : Option Addr) (ck : Nat) (Ab : Option Addr) (cb : Nat) (w : World), FtIn w (· < w.heap.size) f Ak ck Ab cb → f.all = true → f.meas < 3000 → Calls Tryz.prog 34 #[ftV f Ak ck Ab cb] w (ElP f w) := by
 induction f using Ft.ind with
 | h f ih =>
 intro Ak ck Ab cb w hin hf hm
 have hk := one_k (all_parts hf).1
 have hK3 : f.kids.length ≤ 3000 := by have := kids_le f; unfold Ft.meas at hm; omega
 have hB3 : f.b.length < 3000 := by have := lensB_ge f.b; unfold Ft.meas at hm; omega
 have ih2 : ∀ x ∈ f.kids, ∀ Ak ck Ab cb W, FtIn W (· < W.heap.size) x Ak ck Ab cb → Calls Tryz.prog 34 #[ftV x Ak ck Ab cb] W (ElP x W) := fun x hx Ak ck Ab cb W h => by
  have hxa : x.all = true := by
   have := (all_parts hf).2
   rw [Gl.all_list, List.all_eq_true] at this
   exact this x hx
  exact ih x hx Ak ck Ab cb W h hxa (by have := meas_kid hx; omega)
 by_cases h3 : f.k < 3
 · exact elem_node f ⟨hk.1, h3⟩ Ak ck Ab cb w hin hK3 ih2
 by_cases h7 : f.k = 7
 · exact elem_leaf7 f h7 Ak ck Ab cb w hin
 by_cases h4 : f.k = 4
 · exact elem_leaf4 f h4 hB3 Ak ck Ab cb w hin
 · exact elem_leafG f (by omega) h7 h4 Ak ck Ab cb w hin
theorem put14_any (f : Ft) (Ak : Option Addr) (ck : Nat) (Ab : Option Addr) (cb : Nat) (w : World) (hin : FtIn w (· < w.heap.size) f Ak ck Ab cb) (hm : f.meas < 3000) (hr : f.right = true) :
 Calls Tryz.prog 13 #[ftV f Ak ck Ab cb] w (ElP f w) := by
 obtain ⟨W1, hW1⟩ : ∃ W1, W1 = (w.alloc (.cells #[.int .i64 f.k, .slice Ak f.kids.length ck, .string (baO f.t), .string (baO f.v), .string (baO f.a), .string (baO f.z), .slice Ab f.b.length cb] 25)).alloc (.cells #[.int .i64 0, .bool false, .int .i64 0, .slice none 0 0, .slice none 0 0] 43) := ⟨_, rfl⟩
 have hB1 : Below w.heap.size w W1 := by rw [hW1]; exact ((Below.refl _ _).alloc (Nat.le_refl _) _).alloc (by simp) _
 have hF1 : W1.heap[w.heap.size]? = some (.cells #[.int .i64 f.k, .slice Ak f.kids.length ck, .string (baO f.t), .string (baO f.v), .string (baO f.a), .string (baO f.z), .slice Ab f.b.length cb] 25 (0, 0)) := by rw [hW1, Below.heap_alloc _ _ _ (by simp)]; exact heap_alloc_new w _
 have hR1 : W1.heap[w.heap.size + 1]? = some (.cells #[.int .i64 0, .bool false, .int .i64 0, .slice none 0 0, .slice none 0 0] 43 (0, 0)) := by rw [hW1]; exact heap_alloc_new (w.alloc _) _ |> (by simpa using ·)
 have hz1 : W1.heap.size = w.heap.size + 2 := by rw [hW1]; simp
 have inW : ∀ W, Below W1.heap.size W1 W → FtIn W (· < W.heap.size) f Ak ck Ab cb := fun W hW => by
  have hb : Below w.heap.size w W := hB1.trans (hW.mono (by omega))
  exact (hin.keep fun p hp => hb.cell hp).more fun b hb2 => Nat.lt_of_lt_of_le hb2 hb.size
 have CR := right14_any f Ak ck Ab cb W1 (inW _ (Below.refl _ _)) hm
 rw [hr] at CR
 have CE := fun W (hW : Below W1.heap.size W1 W) => element_any f Ak ck Ab cb W (inW W hW) (right_parts14 hr).2.2 hm
 unfold ElP at CE
 unfold ftV at CR CE ⊢
 obtain ⟨r, hre⟩ : ∃ r, f.el = r := ⟨_, rfl⟩
 unfold ElP
 rw [hre]
 simp only [hre] at CE
 simp only [elV_ag] at CE ⊢
 obtain ⟨x0, x1, x2, x3, x4, x5, x6⟩ := cells7 hF1
 replace hB1 := Hd hB1
 replace hF1 := Hd hF1
 replace hR1 := Hd hR1
 replace inW := Hd inW
 replace CR := Hd CR
 replace CE := Hd CE
 go_enter Tryz.func13, Tryz.ntmps13
 go_wp2_with fail
 rw [← hW1]
 replace hW1 := Hd hW1
 try go_wp2_with fail
 refine CR.out.mono ?_
 rintro _ w2 ⟨rfl, hb2⟩
 have hF2 := (hb2.block _ (by omega)).trans hF1.out
 clear x0 x1 x2 x3 x4 x5 x6
 obtain ⟨x0, x1, x2, x3, x4, x5, x6⟩ := cells7 hF2
 replace hF2 := Hd hF2
 replace hb2 := Hd hb2
 dsimp only []
 go_wp2_with fail
 refine (CE.out _ hb2.out).mono ?_
 rintro _ w3 ⟨A, c, B, d, rfl, hE3, hb3⟩
 have hb13 := hb2.out.trans (hb3.mono hb2.out.size)
 have hR3 := (hb13.block _ (by omega)).trans hR1.out
 have hB3 := hB1.out.trans (hb13.mono (by omega))
 have hs2 := hb2.out.size
 obtain ⟨e0, e1, e2, e3, e4⟩ := cells5e hR3
 have hf1 := free7 hR3
 clear x0 x1 x2 x3 x4 x5 x6
 replace hR3 := Hd hR3
 replace hB3 := Hd hB3
 replace hb3 := Hd hb3
 replace hb13 := Hd hb13
 replace hE3 := Hd hE3
 dsimp only []
 go_wp2_with fail
 have HC := Hd (set5_same (hR3.out) (.int .i64 r.c) (.bool r.m) (.int .i64 r.n) (.slice A r.b.length c) (.slice B r.kids.length d))
 have HL := Hd (set5_below (hB3.out) (by omega : _ ≤ w.heap.size + 1) (.int .i64 r.c) (.bool r.m) (.int .i64 r.n) (.slice A r.b.length c) (.slice B r.kids.length d))
 have HN := Hd (fun lo lo0 ee qa qc qb qd (hin : ElIn w3 (NewB lo w3) ee qa qc qb qd) (hX : w.heap.size + 1 < lo) (h0 : lo0 ≤ lo) => hin.set5 (.int .i64 r.c) (.bool r.m) (.int .i64 r.n) (.slice A r.b.length c) (.slice B r.kids.length d) hX h0)
 have HX : set5 w3 (w.heap.size + 1) (.int .i64 r.c) (.bool r.m) (.int .i64 r.n) (.slice A r.b.length c) (.slice B r.kids.length d) = (((((w3.setCell ⟨w.heap.size + 1, 0, none⟩ (.int .i64 r.c)).setCell ⟨w.heap.size + 1, 1, none⟩ (.bool r.m)).setCell ⟨w.heap.size + 1, 2, none⟩ (.int .i64 r.n)).setCell ⟨w.heap.size + 1, 3, none⟩ (.slice A r.b.length c)).setCell ⟨w.heap.size + 1, 4, none⟩ (.slice B r.kids.length d)) := rfl
 rw [← HX]
 obtain ⟨W5, hW5⟩ : ∃ W5, W5 = set5 w3 (w.heap.size + 1) (.int .i64 r.c) (.bool r.m) (.int .i64 r.n) (.slice A r.b.length c) (.slice B r.kids.length d) := ⟨_, rfl⟩
 rw [← hW5] at HC HL HN ⊢
 clear HX hW5 e0 e1 e2 e3 e4 hf1
 obtain ⟨v0, v1, v2, v3, v4⟩ := cells5e HC.out
 exact bodyPost_ret (v := .agg #[.int .i64 r.c, .bool r.m, .int .i64 r.n, .slice A r.b.length c, .slice B r.kids.length d]) (by simp [results, Tryz.results13, go_sem, v0, v1, v2, v3, v4]) rfl (⟨A, c, B, d, rfl, HN.out _ _ _ _ _ _ _ hE3.out (by omega) (by omega), HL.out⟩)
end Go.Proofs.YtcbiedonmibfaaaGreatDoor
