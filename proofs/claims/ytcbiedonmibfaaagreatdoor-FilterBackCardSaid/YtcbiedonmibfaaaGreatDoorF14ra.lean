/- Filters. -/
import Derived.Test.YtcbiedonmibfaaaGreatDoorRF
import Derived.Deep.CutRange
import Derived.Deep.CutBlock
namespace Go.Proofs.YtcbiedonmibfaaaGreatDoor
open Go.RowKit Go.Lib
set_option maxRecDepth 8000 in
set_option maxHeartbeats 64000000 in
theorem read_node (f : Ft) (hfk : 0 ≤ f.k ∧ f.k < 3) (hone : f.one = true) (hK3 : f.kids.length ≤ 3000) (d : Nat) (hd : d + f.deep ≤ 11) (l : Int) (hnl : (f.num : Int) ≤ l) (hl : l ≤ 64) (p : Nat) (I : Nat → Prop) (A : Option Addr) (c : Nat) (B : Option Addr) (dd : Nat) (w : World) (hs : ElIn w I f.el A c B dd)
 (hI : ∀ b, I b → b < w.heap.size ∧ b ≠ p) (hp : w.heap[p]? = some (.cells #[.int .i64 l] 69 (0, 0)))
 (ih : ∀ x ∈ f.kids, ∀ (l : Int) (J : Nat → Prop) (A : Option Addr) (c : Nat) (B : Option Addr) (dd : Nat) (W : World), (x.num : Int) ≤ l → l ≤ 64 → ElIn W J x.el A c B dd → (∀ b, J b → b < W.heap.size ∧ b ≠ p) → W.heap[p]? = some (.cells #[.int .i64 l] 69 (0, 0)) → Calls Tryz.prog 33 #[.pointer (some ⟨p, 0, none⟩), elV x.el A c B dd, .int .i64 ((d : Int) + 1)] W (RdP x p l W)) :
 Calls Tryz.prog 33 #[.pointer (some ⟨p, 0, none⟩), elV f.el A c B dd, .int .i64 (d : Int)] w (RdP f p l w) := by
 obtain ⟨i0, hi, q1, q2, q3⟩ := info_parts info_ft
 have hel : f.el = ⟨2, true, f.k, [], Fo.of (f.kids.map Ft.el)⟩ := by
  rw [el_node hfk.2]
  congr 1
  rw [← Fo.of_list f.g.el, Gl.el_list]
  rfl
 have hno := node_ok hone hfk.2
 have hdeep : f.deep = f.g.deep + 1 := rfl
 have hnum : f.num = f.g.num + 1 := rfl
 have hsum : sumN f.kids = f.g.num := (num_list f.g).symm
 rw [hel] at hs
 obtain ⟨K, hK⟩ : ∃ K, f.kids.length = K := ⟨_, rfl⟩
 have hkid : 0 < K → ∃ bl off, B = some ⟨bl, off, none⟩ ∧ I bl ∧ ∀ (i : Nat) (hi : i < f.kids.length), ∃ Ab cb Ak ck, ElAt w I f.kids[i].el bl (off + i * 5) Ab cb Ak ck ∧ ElIn w I f.kids[i].el Ab cb Ak ck := fun h => by
  obtain ⟨bl, off, h1, h2, h3⟩ := hs.kid (by show 0 < (Fo.of (f.kids.map Ft.el)).list.length; rw [Fo.list_of, List.length_map]; omega)
  refine ⟨bl, off, h1, h2, fun i hi => ?_⟩
  have h4 := h3 i (by show i < (Fo.of (f.kids.map Ft.el)).list.length; rw [Fo.list_of, List.length_map]; exact hi)
  have e : (El.kids ⟨2, true, f.k, [], Fo.of (f.kids.map Ft.el)⟩)[i]'(by show i < (Fo.of (f.kids.map Ft.el)).list.length; rw [Fo.list_of, List.length_map]; exact hi) = f.kids[i].el := by
   simp only [El.kids, Fo.list_of, List.getElem_map]
  rw [e] at h4
  exact h4
 have hKc : K ≤ dd := by
  have := hs.k.le
  rwa [Fo.list_of, List.length_map, hK] at this
 have hev : elV f.el A c B dd = .agg #[.int .i64 2, .bool true, .int .i64 f.k, .slice A 0 c, .slice B K dd] := by
  rw [hel]
  show Value.agg #[_, _, _, _, .slice B (Fo.of (f.kids.map Ft.el)).list.length dd] = _
  rw [Fo.list_of, List.length_map, hK]
  rfl
 rw [hev]
 have km : (f.k != 7) = true := by
  have : f.k ≠ 7 := by omega
  simpa using this
 have CU := Hd fun W => (own14_any f.k W).mono fun en w' ⟨h1, h2⟩ => (show en = Ending.returned (.agg #[.int .i64 2, .bool true, .int .i64 f.k]) ∧ Below W.heap.size W w' from ⟨by rw [h1, km], h2⟩)
 have CKI := Hd fun W => kids_any 2 f.k A B c K dd W
 replace hev := Hd hev
 replace hkid := Hd hkid
 replace hK := Hd hK
 replace ih := Hd ih
 replace hno := Hd hno
 replace hone := Hd hone
 replace hdeep := Hd hdeep
 replace hnum := Hd hnum
 replace hsum := Hd hsum
 replace km := Hd km
 have hk012 : f.k = 0 ∨ f.k = 1 ∨ f.k = 2 := by omega
 have hd2 := hd
 rw [hdeep.out] at hd
 rw [hnum.out] at hnl
 have hpl : p < w.heap.size := (Array.getElem?_eq_some_iff.1 hp).1
 obtain ⟨W0, hW0⟩ : ∃ W0, W0 = (w.alloc (.cells #[.int .i64 2, .bool true, .int .i64 f.k, .slice A 0 c, .slice B K dd] 43)).alloc (.cells #[.int .i64 0, .slice none 0 0, .string ⟨#[]⟩, .string ⟨#[]⟩, .string ⟨#[]⟩, .string ⟨#[]⟩, .slice none 0 0] 25) := ⟨_, rfl⟩
 have hz0 : W0.heap.size = w.heap.size + 2 := by rw [hW0]; simp
 have hp0 : W0.heap[p]? = some (.cells #[.int .i64 l] 69 (0, 0)) := by rw [hW0, Below.heap_alloc _ _ _ (by simp <;> omega), Below.heap_alloc _ _ _ hpl]; exact hp
 have CE := Hd (enter_ok ⟨p, 0, none⟩ (d : Int) l W0 (by omega) (by omega) (by omega) (cell_of_row _ _ _ _ _ _ hp0) (free7 hp0 0))
 obtain ⟨W1, hW1⟩ : ∃ W1, W1 = W0.setCell ⟨p, 0, none⟩ (.int .i64 (l - 1)) := ⟨_, rfl⟩
 have hB1 : But p w W1 := by rw [hW1, hW0]; exact (But.of (((Below.refl _ _).alloc (Nat.le_refl _) _).alloc (by simp) _)).trans (But.set 0 _)
 have hz1 : W1.heap.size = w.heap.size + 2 := by rw [hW1]; simp only [World.setCell, Array.size_modify]; exact hz0
 have hp1 : W1.heap[p]? = some (.cells #[.int .i64 (l - 1)] 69 (0, 0)) := by rw [hW1]; exact set_one hp0
 have hx1 : W1.heap[w.heap.size]? = some (.cells #[.int .i64 2, .bool true, .int .i64 f.k, .slice A 0 c, .slice B K dd] 43 (0, 0)) := by rw [hW1, Below.heap_setCell _ _ _ _ (by show w.heap.size ≠ p; omega), hW0, Below.heap_alloc _ _ _ (by simp)]; exact heap_alloc_new w _
 have hR1 : W1.heap[w.heap.size + 1]? = some (.cells #[.int .i64 0, .slice none 0 0, .string ⟨#[]⟩, .string ⟨#[]⟩, .string ⟨#[]⟩, .string ⟨#[]⟩, .slice none 0 0] 25 (0, 0)) := by rw [hW1, Below.heap_setCell _ _ _ _ (by show w.heap.size + 1 ≠ p; omega), hW0]; exact heap_alloc_new (w.alloc _) _ |> (by simpa using ·)
 have x2 := (cells5e hx1).2.2.1
 obtain ⟨W2, hW2⟩ : ∃ W2, W2 = W1.alloc (.cells #[.int .i64 f.k, .slice none 0 0, .string ⟨#[]⟩, .string ⟨#[]⟩, .string ⟨#[]⟩, .string ⟨#[]⟩, .slice none 0 0] 25) := ⟨_, rfl⟩
 have hI2 : RdI f (w.heap.size + 2) p l w W2 [] (.slice none 0 0) := by
  rw [hW2]
  refine ⟨hB1.trans (But.of ((Below.refl _ _).alloc (Nat.le_refl _) _)), ⟨hpl, by omega⟩, ?_, ?_, ?_, RowF.nil _ _ _⟩
  · rw [Below.heap_alloc _ _ _ (by omega)]; simpa [sumN, sumL] using hp1
  · rw [Below.heap_alloc _ _ _ (by omega)]; exact hR1
  · rw [← hz1]; exact heap_alloc_new W1 _
 have hx2 : W2.heap[w.heap.size]? = some (.cells #[.int .i64 2, .bool true, .int .i64 f.k, .slice A 0 c, .slice B K dd] 43 (0, 0)) := by rw [hW2, Below.heap_alloc _ _ _ (by omega)]; exact hx1
 have y0 : (W1.alloc (.cells #[.int .i64 f.k, .slice none 0 0, .string ⟨#[]⟩, .string ⟨#[]⟩, .string ⟨#[]⟩, .string ⟨#[]⟩, .slice none 0 0] 25)).cell? ⟨w.heap.size + 2, 0, none⟩ = some (.int .i64 f.k) := by rw [← hW2]; exact cell_of_row _ _ _ _ _ _ hI2.out
 have hz2 : W2.heap.size = w.heap.size + 3 := by rw [hW2]; simp <;> omega
 obtain ⟨v0, v1, v2, v3, v4⟩ := cells5e hx2
 rw [hW2] at v0 v1 v2 v3 v4
 replace hp := Hd hp
 replace hp0 := Hd hp0
 replace hp1 := Hd hp1
 replace hx1 := Hd hx1
 replace hR1 := Hd hR1
 replace hB1 := Hd hB1
 replace hI2 := Hd hI2
 replace hx2 := Hd hx2
 replace hW2 := Hd hW2
 replace hz0 := Hd hz0
 replace hz2 := Hd hz2
 replace hs := Hd hs
 replace hI := Hd hI
 replace hel := Hd hel
 go_enter Tryz.func33, Tryz.ntmps33
 go_wp2_with fail
 rw [← hW0]
 replace hW0 := Hd hW0
 try go_wp2_with fail
 refine CE.out.mono ?_
 rintro _ w1 ⟨rfl, h1⟩
 rw [← hW1] at h1
 subst w1
 replace hW1 := Hd hW1
 dsimp only []
 rw [← hz1] at y0
 go_upto_block 0 with fail
 go_step
 go_step
 go_cut [51] from 51 to 54 (fun c wx => c = .bool true ∧ wx = W1.alloc (.cells #[.int .i64 f.k, .slice none 0 0, .string ⟨#[]⟩, .string ⟨#[]⟩, .string ⟨#[]⟩, .string ⟨#[]⟩, .slice none 0 0] 25))
 case first =>
  rcases hk012 with h | h | h
  · have k0 : (f.k == 0) = true := by simp [h]
    replace h := Hd h
    go_wp2_with fail
    go_meet
    exact ⟨rfl, rfl⟩
  · have k0 : (f.k == 0) = false := by simp [h]
    have k1 : (f.k == 1) = true := by simp [h]
    replace h := Hd h
    go_wp2_with fail
    go_meet
    exact ⟨rfl, rfl⟩
  · have k0 : (f.k == 0) = false := by simp [h]
    have k1 : (f.k == 1) = false := by simp [h]
    have k2 : (f.k == 2) = true := by simp [h]
    replace h := Hd h
    go_wp2_with fail
    go_meet
    exact ⟨rfl, rfl⟩
 case rest =>
  obtain ⟨rfl, hwc⟩ := hcut
  subst wc
  go_upto_region 13 with fail
  clear y0 v0 v1 v2 v3 v4
  rw [← hW2.out]
  have KEEP : Hid (∀ W, Below W2.heap.size W2 W → W.cell? ⟨w.heap.size, 0, none⟩ = some (.int .i64 2) ∧ W.cell? ⟨w.heap.size, 1, none⟩ = some (.bool true) ∧ W.cell? ⟨w.heap.size, 2, none⟩ = some (.int .i64 f.k) ∧ W.cell? ⟨w.heap.size, 3, none⟩ = some (.slice A 0 c) ∧ W.cell? ⟨w.heap.size, 4, none⟩ = some (.slice B K dd) ∧ W.cell? ⟨w.heap.size + 2, 0, none⟩ = some (.int .i64 f.k)) := Hd fun W h => by
   obtain ⟨z0, z1, z2, z3, z4⟩ := cells5e ((h.block _ (Array.getElem?_eq_some_iff.1 hx2.out).1).trans hx2.out)
   obtain ⟨o0, _⟩ := cells7 ((h.block _ (Array.getElem?_eq_some_iff.1 hI2.out.out).1).trans hI2.out.out)
   exact ⟨z0, z1, z2, z3, z4, o0⟩
  refine wp_region_held_drew (S := (fun W => W.cell? ⟨w.heap.size, 0, none⟩ = some (.int .i64 2) ∧ W.cell? ⟨w.heap.size, 1, none⟩ = some (.bool true) ∧ W.cell? ⟨w.heap.size, 2, none⟩ = some (.int .i64 f.k) ∧ W.cell? ⟨w.heap.size, 3, none⟩ = some (.slice A 0 c) ∧ W.cell? ⟨w.heap.size, 4, none⟩ = some (.slice B K dd) ∧ W.cell? ⟨w.heap.size + 2, 0, none⟩ = some (.int .i64 f.k))) (by kernel_rfl) (KEEP.out _ (Below.refl _ _).drew) ?_
  intro hHeld
  refine tk 0 55 hHeld ?_
  refine tk 1 56 hHeld ?_
  refine tk 2 57 hHeld ?_
  refine tk 6 61 hHeld ?_
  refine rdy [3] ?_
  refine .cons rfl (fun K hK => ?_) .nil
  go_simp
  go_at_call 65
  refine (CU.out _).mono ?_
  rintro _ u1 ⟨rfl, hu1⟩
  have HB1 := Hd (((Below.refl W2.heap.size W2).drew).trans (hu1.mono ((Below.refl W2.heap.size W2).drew).size))
  clear hu1
  dsimp only []
  refine hK.out _ _ (KEEP.out _ HB1.out) ?_
  clear hK K hHeld
  intro hHeld
  refine rdy [4] ?_
  refine .cons rfl (fun K hK => ?_) .nil
  go_simp
  go_at_call 64
  refine (CKI.out _).mono ?_
  rintro _ u2 ⟨rfl, hu2⟩
  have HB2 := Hd ((HB1.out).trans (hu2.mono (HB1.out).size))
  clear hu2
  dsimp only []
  refine hK.out _ _ (KEEP.out _ HB2.out) ?_
  clear hK K hHeld
  intro hHeld
  refine tk 5 60 hHeld ?_
  refine wpAnyH_done (by kernel_rfl) ?_ _
  have HL0 : Hid (RdI f (w.heap.size + 2) p l w u2 (f.kids.take 0) (.slice none 0 0)) := Hd (hI2.out.go HB2.out)
  clear KEEP hHeld
  go_wp2_with fail
  go_loopw [61] (fun jv wr => ∃ (j : Nat) (V : Option Addr) (cc : Nat), j ≤ K ∧ jv = .int .i64 (j : Int) ∧ Hid (RdI f (w.heap.size + 2) p l w wr (f.kids.take j) (.slice V j cc))) (fun jv _ => K - (RowKit.intOf jv).toNat)
  case atStart => exact ⟨0, none, 0, Nat.zero_le _, rfl, HL0⟩
  case round =>
   obtain ⟨j, Va, cc, hj, rfl, HI⟩ := hrel
   by_cases hjt : j < K
   · obtain ⟨bl, off, rfl, hIb, hk2⟩ := hkid.out (by omega)
     have hjl : j < f.kids.length := by rw [hK.out]; exact hjt
     obtain ⟨Aq, cq, Bq, dq, hat, hkin⟩ := hk2 j hjl
     have hmem : f.kids[j] ∈ f.kids := List.getElem_mem hjl
     obtain ⟨x, hx⟩ : ∃ x, f.kids[j] = x := ⟨_, rfl⟩
     have htk : f.kids.take (j + 1) = f.kids.take j ++ [f.kids[j]] := by rw [List.take_succ_eq_append_getElem hjl]
     have hnx : sumN (f.kids.take j) + x.num ≤ f.g.num := by
      rw [← hsum.out, ← hx]
      have e1 : sumN f.kids = sumN (f.kids.take (j + 1)) + sumN (f.kids.drop (j + 1)) := by
       unfold sumN
       rw [← sumL_app, ← List.map_append, List.take_append_drop]
      rw [e1, htk, sumN_snoc]
      omega
     have hdx : x.deep ≤ f.g.deep := by rw [← hx]; exact deep_mem f.g _ hmem
     rw [hx] at hat hkin htk hmem
     have hbw := hI.out bl hIb
     have cell : ∀ i, wr.cell? ⟨bl, i, none⟩ = w.cell? ⟨bl, i, none⟩ := fun i => HI.out.but.cell (a := ⟨bl, i, none⟩) hbw.1 hbw.2
     obtain ⟨r, hr⟩ : ∃ r, x.el = r := ⟨_, rfl⟩
     rw [hr] at hat hkin
     have y0 := (cell _).trans hat.c
     have y1 := (cell _).trans hat.m
     have y2 := (cell _).trans hat.n
     have y3 := (cell _).trans hat.b
     have y4 := (cell _).trans hat.k
     have j0 : (0 : Int) ≤ (j : Int) := by omega
     have j1 : (j : Int) < (K : Int) := by omega
     have hNj0 : (f.kids.take j).length = j := by rw [List.length_take, hK.out]; omega
     obtain ⟨kj, hkj⟩ : ∃ k, k = f.kids.take j := ⟨_, rfl⟩
     rw [← hkj] at hNj0 HI hnx
     have hNj := Hd hNj0
     clear hNj0
     obtain ⟨N2, hN2⟩ : ∃ n, n = r.b.length := ⟨_, rfl⟩
     obtain ⟨M2, hM2⟩ : ∃ n, n = r.kids.length := ⟨_, rfl⟩
     obtain ⟨N3, hN3⟩ : ∃ n, x.kids.length = n := ⟨_, rfl⟩
     obtain ⟨M3, hM3⟩ : ∃ n, x.b.length = n := ⟨_, rfl⟩
     have hval : elV x.el Aq cq Bq dq = .agg #[.int .i64 r.c, .bool r.m, .int .i64 r.n, .slice Aq N2 cq, .slice Bq M2 dq] := by rw [hr, hN2, hM2]; rfl
     rw [← hN2] at y3
     rw [← hM2] at y4
     have CK : ∀ W, But p wr W → W.heap[p]? = some (.cells #[.int .i64 (l - 1 - sumN kj)] 69 (0, 0)) → Calls Tryz.prog 33 #[.pointer (some ⟨p, 0, none⟩), .agg #[.int .i64 r.c, .bool r.m, .int .i64 r.n, .slice Aq N2 cq, .slice Bq M2 dq], .int .i64 ((d : Int) + 1)] W fun en w' => ∃ Ak3 ck3 Ab3 cb3, en = .returned (.agg #[.int .i64 x.k, .slice Ak3 N3 ck3, .string (baO x.t), .string (baO x.v), .string (baO x.a), .string (baO x.z), .slice Ab3 M3 cb3]) ∧ FtIn w' (New W.heap.size w') x Ak3 ck3 Ab3 cb3 ∧ w'.heap[p]? = some (.cells #[.int .i64 (l - 1 - sumN kj - x.num)] 69 (0, 0)) ∧ But p W w' := fun W hW hpW => by
      have hs2 := HI.out.but.size
      have := ih.out x hmem (l - 1 - sumN kj) I Aq cq Bq dq W (by omega) (by omega) ((by rw [hr]; exact hkin.keep fun q hq => (HI.out.but.trans hW).cell (hI.out _ hq).1 (hI.out _ hq).2) : ElIn W I x.el Aq cq Bq dq) (fun b hb => ⟨Nat.lt_of_lt_of_le (hI.out b hb).1 (Nat.le_trans hs2 hW.size), (hI.out b hb).2⟩) hpW
      rw [hval] at this
      refine this.mono fun en w' ⟨Ak3, ck3, Ab3, cb3, h1, h2, h3, h4⟩ => ⟨Ak3, ck3, Ab3, cb3, ?_, h2, h3, h4⟩
      rw [h1]
      unfold ftV
      rw [hN3, hM3]
     clear cell
     replace CK := Hd CK
     replace hat := Hd hat
     replace hkin := Hd hkin
     replace hx := Hd hx
     replace hr := Hd hr
     replace htk := Hd htk
     replace hN2 := Hd hN2
     replace hM2 := Hd hM2
     replace hN3 := Hd hN3
     replace hM3 := Hd hM3
     replace hk2 := Hd hk2
     replace hmem := Hd hmem
     replace hkj := Hd hkj
     replace hnx := Hd hnx
     replace hdx := Hd hdx
     replace hval := Hd hval
     replace hbw := Hd hbw
     go_upto_region 16 with fail
     clear y0 y1 y2 y3 y4
     obtain ⟨V, hV⟩ : ∃ V, V = wr.alloc (.cells #[.int .i64 r.c, .bool r.m, .int .i64 r.n, .slice Aq N2 cq, .slice Bq M2 dq] 43) := ⟨_, rfl⟩
     have hbV : Below wr.heap.size wr V := by rw [hV]; exact (Below.refl _ _).alloc (Nat.le_refl _) _
     have hKV : V.heap[wr.heap.size]? = some (.cells #[.int .i64 r.c, .bool r.m, .int .i64 r.n, .slice Aq N2 cq, .slice Bq M2 dq] 43 (0, 0)) := by rw [hV]; exact heap_alloc_new wr _
     have hzV : V.heap.size = wr.heap.size + 1 := by rw [hV]; simp
     rw [← hV]
     obtain ⟨Y, hY⟩ : ∃ Y, Y = wr.heap.size := ⟨_, rfl⟩
     rw [← hY]
     rw [← hY] at hKV hzV
     have HV := Hd (HI.out.go hbV)
     have hXw := (Array.getElem?_eq_some_iff.1 HI.out.out).1
     have hXY : w.heap.size + 2 < Y := by omega
     have hpY : p ≠ Y := by have := HI.out.lt; omega
     have hpX : p < w.heap.size + 2 := by have := HI.out.lt; omega
     obtain ⟨cs, hrow1, hrow2, hrow3, hrow4⟩ := HV.out.row.parts
     rw [hNj.out] at hrow1 hrow2
     have KEEP : Hid (∀ W, But p V W → W.cell? ⟨Y, 0, none⟩ = some (.int .i64 r.c) ∧ W.cell? ⟨Y, 1, none⟩ = some (.bool r.m) ∧ W.cell? ⟨Y, 2, none⟩ = some (.int .i64 r.n) ∧ W.cell? ⟨Y, 3, none⟩ = some (.slice Aq N2 cq) ∧ W.cell? ⟨Y, 4, none⟩ = some (.slice Bq M2 dq)) := Hd fun W h => by
      obtain ⟨z0, z1, z2, z3, z4⟩ := cells5e ((h.block _ (by omega) hpY.symm).trans hKV)
      exact ⟨z0, z1, z2, z3, z4⟩
     have T := Hd fun W (hb : But p V W) => (cells7 ((hb.block (w.heap.size + 2) (by omega) (by omega)).trans HV.out.out)).2.1
     have CKV := Hd fun W (hb : Below V.heap.size V W) => CK.out W ((But.of hbV).trans (But.of hb)) ((hb.block p (by omega)).trans HV.out.room)
     have hYr : Hid (∀ b, (Value.slice Va j cc).ownBlock = some b → Y ≠ b) := Hd fun b hb => by
      obtain ⟨_, _, _, h4, _⟩ := HI.out.row.parts
      have := (h4 b hb).2
      omega
     replace hrow1 := Hd hrow1
     replace hrow2 := Hd hrow2
     replace hrow3 := Hd hrow3
     replace hrow4 := Hd hrow4
     replace hV := Hd hV
     replace hbV := Hd hbV
     replace hKV := Hd hKV
     replace hY := Hd hY
     replace HI := Hd HI.out
     refine wp_viaQ (Q' := fun e a W => match e with | .normal => ∃ q9 q62 q63 q64 q65 q66 q67 q68 q69 q70 q71 q72 q73 q74 q75 q76 q77, ∃ (g cap : Nat), a = { tmps := (.pointer (some ⟨p, 0, none⟩) :: .agg #[.int .i64 2, .bool true, .int .i64 f.k, .slice A 0 c, .slice (some ⟨bl, off, none⟩) K dd] :: .int .i64 (d : Int) :: undef :: .pointer (some ⟨w.heap.size, 0, none⟩) :: undef :: .pointer (some ⟨w.heap.size + 1, 0, none⟩) :: .pointer (some ⟨w.heap.size + 2, 0, none⟩) :: undef :: q9 :: undef :: .pointer (some ⟨p, 0, none⟩) :: .int .i64 (d : Int) :: .tuple #[] :: .pointer (some ⟨w.heap.size, 0, none⟩) :: .pointer (some ⟨w.heap.size, 2, none⟩) :: .int .i64 f.k :: .agg #[.int .i64 f.k, .slice none 0 0, .string ⟨#[]⟩, .string ⟨#[]⟩, .string ⟨#[]⟩, .string ⟨#[]⟩, .slice none 0 0] :: .pointer (some ⟨w.heap.size + 2, 0, none⟩) :: .int .i64 f.k :: undef :: undef :: undef :: undef :: undef :: undef :: undef :: undef :: undef :: undef :: undef :: undef :: undef :: undef :: undef :: undef :: undef :: undef :: undef :: undef :: undef :: undef :: undef :: undef :: undef :: undef :: undef :: undef :: undef :: undef :: undef :: .bool true :: u52 :: u53 :: u54 :: .agg #[.int .i64 2, .bool true, .int .i64 f.k, .slice A 0 c, .slice (some ⟨bl, off, none⟩) K dd] :: .pointer (some ⟨w.heap.size + 2, 0, none⟩) :: .int .i64 f.k :: .agg #[.int .i64 2, .bool true, .int .i64 f.k] :: .slice (some ⟨bl, off, none⟩) K dd :: .int .i64 (K : Int) :: .int .i64 (j : Int) :: q62 :: q63 :: q64 :: q65 :: q66 :: q67 :: q68 :: q69 :: q70 :: q71 :: q72 :: q73 :: q74 :: q75 :: q76 :: q77 :: undef :: undef :: undef :: undef :: undef :: undef :: undef :: undef :: undef :: undef :: []).toArray, defers := [] } ∧ Hid (RdI f (w.heap.size + 2) p l w W (kj ++ [x]) (.slice (some ⟨g, 0, none⟩) (j + 1) cap)) | _ => False) ?_ ?_
     have WD := Hd (IntWalk.i64_in ((d : Int) + 1) (by omega))
     have rD := T.out V.drew (But.of (Below.refl _ _).drew)
     have rV := T.out V (But.refl _ _)
     have rDA : ∀ ob : Obj, (V.drew.alloc ob).cell? ⟨w.heap.size + 2, 1, none⟩ = some (.slice Va j cc) := fun ob => T.out _ (But.of ((Below.refl V.heap.size V).drew.alloc (by simp) ob))
     have hXYn : w.heap.size + 2 ≠ Y := by omega
     · refine wp_region_held_drew (S := (fun W => W.cell? ⟨Y, 0, none⟩ = some (.int .i64 r.c) ∧ W.cell? ⟨Y, 1, none⟩ = some (.bool r.m) ∧ W.cell? ⟨Y, 2, none⟩ = some (.int .i64 r.n) ∧ W.cell? ⟨Y, 3, none⟩ = some (.slice Aq N2 cq) ∧ W.cell? ⟨Y, 4, none⟩ = some (.slice Bq M2 dq))) (by kernel_rfl) (KEEP.out _ (But.of (Below.refl _ _).drew)) ?_
       intro hHeld
       refine tk 0 65 hHeld ?_
       refine tk 2 67 hHeld ?_
       refine tk 3 68 hHeld ?_
       refine tk 4 69 hHeld ?_
       refine tk 5 70 hHeld ?_
       refine rdy [1, 6, 8] ?_
       refine .cons rfl (fun K hK => ?_) (.cons rfl (fun K hK => ?_) (.cons rfl (fun K hK => ?_) .nil))
       · go_simp
         refine hK.out _ _ (KEEP.out _ (But.of (Below.refl _ _).drew)) ?_
         clear hK K hHeld
         intro hHeld
         refine tk 7 72 hHeld ?_
         refine rdy [6, 8] ?_
         refine .cons rfl (fun K hK => ?_) (.cons rfl (fun K hK => ?_) .nil)
         · go_simp
           go_at_call 33
           rw [WD.out]
           refine (CKV.out _ (Below.refl V.heap.size V).drew).mono ?_
           rintro _ u3 ⟨Ak3, ck3, Ab3, cb3, rfl, hin3, hrm3, hu3⟩
           have HB3 := Hd ((But.of (Below.refl V.heap.size V).drew).trans hu3)
           have rA3 : ∀ ob : Obj, (u3.alloc ob).cell? ⟨w.heap.size + 2, 1, none⟩ = some (.slice Va j cc) := fun ob => T.out _ (HB3.out.trans (But.of ((Below.refl _ _).alloc (Nat.le_refl _) ob)))
           have ru3 := T.out _ HB3.out
           have hz3 := HB3.out.size
           replace hin3 := Hd (hin3.more fun b hb => New.mono ((Below.refl V.heap.size V).drew).size b hb)
           replace hrm3 := Hd hrm3
           clear hu3
           dsimp only []
           refine hK.out _ _ (KEEP.out _ HB3.out) ?_
           clear hK K hHeld
           intro hHeld
           refine rdy [8] ?_
           refine .cons rfl (fun K hK => ?_) .nil
           go_simp
           refine hK.out _ _ (KEEP.out _ (HB3.out.trans (But.of ((Below.refl _ _).alloc (Nat.le_refl _) _)))) ?_
           clear hK K hHeld
           intro hHeld
           refine rdy [9] ?_
           refine .cons rfl (fun K hK => ?_) .nil
           refine step_append_lies _ rfl (.tmp 66) (.tmp 73) 22 rfl (w.heap.size + 2 + 1) 25 i0 _ 7 120 Tryz.underlying22 hi q1 q2 q3 rfl (by decide) (.slice Va j cc) j cs rfl (owns_but hrow1.out (HB3.out.trans (But.of ((Below.refl _ _).alloc (Nat.le_refl _) _))) (by omega)) _ 1 1 [.int .i64 0, .slice none 0 0, .string ⟨#[]⟩, .string ⟨#[]⟩, .string ⟨#[]⟩, .string ⟨#[]⟩, .slice none 0 0] rfl rfl (World.news_of_block (fr := (0, 0)) (heap_alloc_new u3 _)) (by intro u hu; simp only [List.mem_cons, List.not_mem_nil, or_false] at hu; rcases hu with rfl | rfl | rfl | rfl | rfl | rfl | rfl <;> rfl) (by decide) (by simp only [maxLen]; omega) (by omega) (by first | omega | (simp; omega)) _ rfl ?_
           intro g cap w6 hown hg hat6 hgl
           obtain ⟨HSa, c6, f6, hgX, hk6⟩ := rd_fill HV.out hNj.out HB3.out hin3.out hrm3.out ((Below.refl _ _).alloc (Nat.le_refl _) _) hrow2.out hrow4.out hrow3.out hown hg (by simpa using hat6)
           have HSb := HSa
           rw [← setA_comm _ g _ (w.heap.size + 2) _ _ _ _ _ _ _ _ (show w.heap.size + 2 ≠ g by omega)] at HSb
           rw [hN3.out, hM3.out] at HSa HSb
           have OC := owns_cell hown
           obtain ⟨c70, c71, c72, c73, c74, c75, c76⟩ := owns_last hown hrow2.out
           have g0 := (OC (j * 7) (by omega)).2
           have g1 := (OC (j * 7 + 1) (by omega)).2
           have g2 := (OC (j * 7 + 2) (by omega)).2
           have g3 := (OC (j * 7 + 3) (by omega)).2
           have g4 := (OC (j * 7 + 4) (by omega)).2
           have g5 := (OC (j * 7 + 5) (by omega)).2
           have g6 := (OC (j * 7 + 6) (by omega)).2
           obtain ⟨z0, z1, z2, z3, z4⟩ := cells5e ((hk6 Y (by omega) hpY.symm hYr.out).trans hKV.out)
           have hgY : g ≠ Y := by
            intro e
            rcases hat6 with e2 | e2
            · exact hYr.out g e2 e.symm
            · first | omega | (simp at e2; omega)
           have jn : (j : Int) < (j : Int) + 1 := by omega
           replace HSa := Hd HSa
           replace HSb := Hd HSb
           clear hown hg hat6 hk6 OC
           try dsimp only []
           refine hK.out _ _ (⟨z0, z1, z2, z3, z4⟩) ?_
           clear hK K hHeld
           intro hHeld
           refine tk 10 75 hHeld ?_
           refine tk 12 76 hHeld ?_
           refine rdy [11, 13] ?_
           refine .cons rfl (fun K hK => ?_) (.cons rfl (fun K hK => ?_) .nil)
           · go_simp
             refine hK.out _ _ (⟨keepA z0 hgY, keepA z1 hgY, keepA z2 hgY, keepA z3 hgY, keepA z4 hgY⟩) ?_
             clear hK K hHeld
             intro hHeld
             refine rdy [13] ?_
             refine .cons rfl (fun K hK => ?_) .nil
             go_simp
             refine hK.out _ _ (⟨keepH (keepA z0 hgY) hXYn, keepH (keepA z1 hgY) hXYn, keepH (keepA z2 hgY) hXYn, keepH (keepA z3 hgY) hXYn, keepH (keepA z4 hgY) hXYn⟩) ?_
             clear hK K hHeld
             intro hHeld
             refine wpAnyH_done (by kernel_rfl) ?_ _
             exact ⟨_, _, _, _, _, _, _, _, _, _, _, _, _, _, _, _, _, g, cap, rfl, HSa⟩
           · go_simp
             refine hK.out _ _ (⟨keepH z0 hXYn, keepH z1 hXYn, keepH z2 hXYn, keepH z3 hXYn, keepH z4 hXYn⟩) ?_
             clear hK K hHeld
             intro hHeld
             refine rdy [11] ?_
             refine .cons rfl (fun K hK => ?_) .nil
             go_simp
             refine hK.out _ _ (⟨keepA (keepH z0 hXYn) hgY, keepA (keepH z1 hXYn) hgY, keepA (keepH z2 hXYn) hgY, keepA (keepH z3 hXYn) hgY, keepA (keepH z4 hXYn) hgY⟩) ?_
             clear hK K hHeld
             intro hHeld
             refine wpAnyH_done (by kernel_rfl) ?_ _
             exact ⟨_, _, _, _, _, _, _, _, _, _, _, _, _, _, _, _, _, g, cap, rfl, HSb⟩
         · go_simp
           refine hK.out _ _ (KEEP.out _ (But.of ((Below.refl V.heap.size V).drew.alloc (by simp) _))) ?_
           clear hK K hHeld
           intro hHeld
           refine rdy [6] ?_
           refine .cons rfl (fun K hK => ?_) .nil
           go_simp
           go_at_call 33
           rw [WD.out]
           refine (CKV.out _ ((Below.refl V.heap.size V).drew.alloc (by simp) _)).mono ?_
           rintro _ u4 ⟨Ak3, ck3, Ab3, cb3, rfl, hin3, hrm3, hu4⟩
           have HB4 := Hd ((But.of ((Below.refl V.heap.size V).drew.alloc (by simp) _)).trans hu4)
           have rA4 : ∀ ob : Obj, (u4.alloc ob).cell? ⟨w.heap.size + 2, 1, none⟩ = some (.slice Va j cc) := fun ob => T.out _ (HB4.out.trans (But.of ((Below.refl _ _).alloc (Nat.le_refl _) ob)))
           have ru4 := T.out _ HB4.out
           have hz3 := HB4.out.size
           have hzb : Hid (u4.heap[Y + 1]? = some (.cells #[.int .i64 0, .slice none 0 0, .string ⟨#[]⟩, .string ⟨#[]⟩, .string ⟨#[]⟩, .string ⟨#[]⟩, .slice none 0 0] 25 (0, 0))) := Hd (by rw [← hzV]; exact (hu4.block _ (by simp) (by omega)).trans (heap_alloc_new V.drew _))
           replace hin3 := Hd (hin3.more fun b hb => New.mono (((Below.refl V.heap.size V).drew.alloc (by simp) _)).size b hb)
           replace hrm3 := Hd hrm3
           clear hu4
           dsimp only []
           refine hK.out _ _ (KEEP.out _ HB4.out) ?_
           clear hK K hHeld
           intro hHeld
           refine rdy [9] ?_
           refine .cons rfl (fun K hK => ?_) .nil
           refine step_append_lies _ rfl (.tmp 66) (.tmp 73) 22 rfl (w.heap.size + 2 + 1) 25 i0 _ 7 120 Tryz.underlying22 hi q1 q2 q3 rfl (by decide) (.slice Va j cc) j cs rfl (owns_but hrow1.out HB4.out (by omega)) _ 1 1 [.int .i64 0, .slice none 0 0, .string ⟨#[]⟩, .string ⟨#[]⟩, .string ⟨#[]⟩, .string ⟨#[]⟩, .slice none 0 0] rfl rfl (World.news_of_block (fr := (0, 0)) hzb.out) (by intro u hu; simp only [List.mem_cons, List.not_mem_nil, or_false] at hu; rcases hu with rfl | rfl | rfl | rfl | rfl | rfl | rfl <;> rfl) (by decide) (by simp only [maxLen]; omega) (by omega) (by first | omega | (simp; omega)) _ rfl ?_
           intro g cap w6 hown hg hat6 hgl
           obtain ⟨HSa, c6, f6, hgX, hk6⟩ := rd_fill HV.out hNj.out HB4.out hin3.out hrm3.out (Below.refl _ _) hrow2.out hrow4.out hrow3.out hown hg (by simpa using hat6)
           have HSb := HSa
           rw [← setA_comm _ g _ (w.heap.size + 2) _ _ _ _ _ _ _ _ (show w.heap.size + 2 ≠ g by omega)] at HSb
           rw [hN3.out, hM3.out] at HSa HSb
           have OC := owns_cell hown
           obtain ⟨c70, c71, c72, c73, c74, c75, c76⟩ := owns_last hown hrow2.out
           have g0 := (OC (j * 7) (by omega)).2
           have g1 := (OC (j * 7 + 1) (by omega)).2
           have g2 := (OC (j * 7 + 2) (by omega)).2
           have g3 := (OC (j * 7 + 3) (by omega)).2
           have g4 := (OC (j * 7 + 4) (by omega)).2
           have g5 := (OC (j * 7 + 5) (by omega)).2
           have g6 := (OC (j * 7 + 6) (by omega)).2
           obtain ⟨z0, z1, z2, z3, z4⟩ := cells5e ((hk6 Y (by omega) hpY.symm hYr.out).trans hKV.out)
           have hgY : g ≠ Y := by
            intro e
            rcases hat6 with e2 | e2
            · exact hYr.out g e2 e.symm
            · first | omega | (simp at e2; omega)
           have jn : (j : Int) < (j : Int) + 1 := by omega
           replace HSa := Hd HSa
           replace HSb := Hd HSb
           clear hown hg hat6 hk6 OC
           try dsimp only []
           refine hK.out _ _ (⟨z0, z1, z2, z3, z4⟩) ?_
           clear hK K hHeld
           intro hHeld
           refine tk 10 75 hHeld ?_
           refine tk 12 76 hHeld ?_
           refine rdy [11, 13] ?_
           refine .cons rfl (fun K hK => ?_) (.cons rfl (fun K hK => ?_) .nil)
           · go_simp
             refine hK.out _ _ (⟨keepA z0 hgY, keepA z1 hgY, keepA z2 hgY, keepA z3 hgY, keepA z4 hgY⟩) ?_
             clear hK K hHeld
             intro hHeld
             refine rdy [13] ?_
             refine .cons rfl (fun K hK => ?_) .nil
             go_simp
             refine hK.out _ _ (⟨keepH (keepA z0 hgY) hXYn, keepH (keepA z1 hgY) hXYn, keepH (keepA z2 hgY) hXYn, keepH (keepA z3 hgY) hXYn, keepH (keepA z4 hgY) hXYn⟩) ?_
             clear hK K hHeld
             intro hHeld
             refine wpAnyH_done (by kernel_rfl) ?_ _
             exact ⟨_, _, _, _, _, _, _, _, _, _, _, _, _, _, _, _, _, g, cap, rfl, HSa⟩
           · go_simp
             refine hK.out _ _ (⟨keepH z0 hXYn, keepH z1 hXYn, keepH z2 hXYn, keepH z3 hXYn, keepH z4 hXYn⟩) ?_
             clear hK K hHeld
             intro hHeld
             refine rdy [11] ?_
             refine .cons rfl (fun K hK => ?_) .nil
             go_simp
             refine hK.out _ _ (⟨keepA (keepH z0 hXYn) hgY, keepA (keepH z1 hXYn) hgY, keepA (keepH z2 hXYn) hgY, keepA (keepH z3 hXYn) hgY, keepA (keepH z4 hXYn) hgY⟩) ?_
             clear hK K hHeld
             intro hHeld
             refine wpAnyH_done (by kernel_rfl) ?_ _
             exact ⟨_, _, _, _, _, _, _, _, _, _, _, _, _, _, _, _, _, g, cap, rfl, HSb⟩
       · go_simp
         go_at_call 33
         rw [WD.out]
         refine (CKV.out _ (Below.refl V.heap.size V).drew).mono ?_
         rintro _ u5 ⟨Ak3, ck3, Ab3, cb3, rfl, hin3, hrm3, hu5⟩
         have HB5 := Hd ((But.of (Below.refl V.heap.size V).drew).trans hu5)
         have rA5 : ∀ ob : Obj, (u5.alloc ob).cell? ⟨w.heap.size + 2, 1, none⟩ = some (.slice Va j cc) := fun ob => T.out _ (HB5.out.trans (But.of ((Below.refl _ _).alloc (Nat.le_refl _) ob)))
         have ru5 := T.out _ HB5.out
         have hz3 := HB5.out.size
         replace hin3 := Hd (hin3.more fun b hb => New.mono ((Below.refl V.heap.size V).drew).size b hb)
         replace hrm3 := Hd hrm3
         clear hu5
         dsimp only []
         refine hK.out _ _ (KEEP.out _ HB5.out) ?_
         clear hK K hHeld
         intro hHeld
         refine rdy [1, 8] ?_
         refine .cons rfl (fun K hK => ?_) (.cons rfl (fun K hK => ?_) .nil)
         · go_simp
           refine hK.out _ _ (KEEP.out _ HB5.out) ?_
           clear hK K hHeld
           intro hHeld
           refine tk 7 72 hHeld ?_
           refine rdy [8] ?_
           refine .cons rfl (fun K hK => ?_) .nil
           go_simp
           refine hK.out _ _ (KEEP.out _ (HB5.out.trans (But.of ((Below.refl _ _).alloc (Nat.le_refl _) _)))) ?_
           clear hK K hHeld
           intro hHeld
           refine rdy [9] ?_
           refine .cons rfl (fun K hK => ?_) .nil
           refine step_append_lies _ rfl (.tmp 66) (.tmp 73) 22 rfl (w.heap.size + 2 + 1) 25 i0 _ 7 120 Tryz.underlying22 hi q1 q2 q3 rfl (by decide) (.slice Va j cc) j cs rfl (owns_but hrow1.out (HB5.out.trans (But.of ((Below.refl _ _).alloc (Nat.le_refl _) _))) (by omega)) _ 1 1 [.int .i64 0, .slice none 0 0, .string ⟨#[]⟩, .string ⟨#[]⟩, .string ⟨#[]⟩, .string ⟨#[]⟩, .slice none 0 0] rfl rfl (World.news_of_block (fr := (0, 0)) (heap_alloc_new u5 _)) (by intro u hu; simp only [List.mem_cons, List.not_mem_nil, or_false] at hu; rcases hu with rfl | rfl | rfl | rfl | rfl | rfl | rfl <;> rfl) (by decide) (by simp only [maxLen]; omega) (by omega) (by first | omega | (simp; omega)) _ rfl ?_
           intro g cap w6 hown hg hat6 hgl
           obtain ⟨HSa, c6, f6, hgX, hk6⟩ := rd_fill HV.out hNj.out HB5.out hin3.out hrm3.out ((Below.refl _ _).alloc (Nat.le_refl _) _) hrow2.out hrow4.out hrow3.out hown hg (by simpa using hat6)
           have HSb := HSa
           rw [← setA_comm _ g _ (w.heap.size + 2) _ _ _ _ _ _ _ _ (show w.heap.size + 2 ≠ g by omega)] at HSb
           rw [hN3.out, hM3.out] at HSa HSb
           have OC := owns_cell hown
           obtain ⟨c70, c71, c72, c73, c74, c75, c76⟩ := owns_last hown hrow2.out
           have g0 := (OC (j * 7) (by omega)).2
           have g1 := (OC (j * 7 + 1) (by omega)).2
           have g2 := (OC (j * 7 + 2) (by omega)).2
           have g3 := (OC (j * 7 + 3) (by omega)).2
           have g4 := (OC (j * 7 + 4) (by omega)).2
           have g5 := (OC (j * 7 + 5) (by omega)).2
           have g6 := (OC (j * 7 + 6) (by omega)).2
           obtain ⟨z0, z1, z2, z3, z4⟩ := cells5e ((hk6 Y (by omega) hpY.symm hYr.out).trans hKV.out)
           have hgY : g ≠ Y := by
            intro e
            rcases hat6 with e2 | e2
            · exact hYr.out g e2 e.symm
            · first | omega | (simp at e2; omega)
           have jn : (j : Int) < (j : Int) + 1 := by omega
           replace HSa := Hd HSa
           replace HSb := Hd HSb
           clear hown hg hat6 hk6 OC
           try dsimp only []
           refine hK.out _ _ (⟨z0, z1, z2, z3, z4⟩) ?_
           clear hK K hHeld
           intro hHeld
           refine tk 10 75 hHeld ?_
           refine tk 12 76 hHeld ?_
           refine rdy [11, 13] ?_
           refine .cons rfl (fun K hK => ?_) (.cons rfl (fun K hK => ?_) .nil)
           · go_simp
             refine hK.out _ _ (⟨keepA z0 hgY, keepA z1 hgY, keepA z2 hgY, keepA z3 hgY, keepA z4 hgY⟩) ?_
             clear hK K hHeld
             intro hHeld
             refine rdy [13] ?_
             refine .cons rfl (fun K hK => ?_) .nil
             go_simp
             refine hK.out _ _ (⟨keepH (keepA z0 hgY) hXYn, keepH (keepA z1 hgY) hXYn, keepH (keepA z2 hgY) hXYn, keepH (keepA z3 hgY) hXYn, keepH (keepA z4 hgY) hXYn⟩) ?_
             clear hK K hHeld
             intro hHeld
             refine wpAnyH_done (by kernel_rfl) ?_ _
             exact ⟨_, _, _, _, _, _, _, _, _, _, _, _, _, _, _, _, _, g, cap, rfl, HSa⟩
           · go_simp
             refine hK.out _ _ (⟨keepH z0 hXYn, keepH z1 hXYn, keepH z2 hXYn, keepH z3 hXYn, keepH z4 hXYn⟩) ?_
             clear hK K hHeld
             intro hHeld
             refine rdy [11] ?_
             refine .cons rfl (fun K hK => ?_) .nil
             go_simp
             refine hK.out _ _ (⟨keepA (keepH z0 hXYn) hgY, keepA (keepH z1 hXYn) hgY, keepA (keepH z2 hXYn) hgY, keepA (keepH z3 hXYn) hgY, keepA (keepH z4 hXYn) hgY⟩) ?_
             clear hK K hHeld
             intro hHeld
             refine wpAnyH_done (by kernel_rfl) ?_ _
             exact ⟨_, _, _, _, _, _, _, _, _, _, _, _, _, _, _, _, _, g, cap, rfl, HSb⟩
         · go_simp
           refine hK.out _ _ (KEEP.out _ (HB5.out.trans (But.of ((Below.refl _ _).alloc (Nat.le_refl _) _)))) ?_
           clear hK K hHeld
           intro hHeld
           refine rdy [1] ?_
           refine .cons rfl (fun K hK => ?_) .nil
           go_simp
           refine hK.out _ _ (KEEP.out _ (HB5.out.trans (But.of ((Below.refl _ _).alloc (Nat.le_refl _) _)))) ?_
           clear hK K hHeld
           intro hHeld
           refine tk 7 72 hHeld ?_
           refine rdy [9] ?_
           refine .cons rfl (fun K hK => ?_) .nil
           refine step_append_lies _ rfl (.tmp 66) (.tmp 73) 22 rfl (w.heap.size + 2 + 1) 25 i0 _ 7 120 Tryz.underlying22 hi q1 q2 q3 rfl (by decide) (.slice Va j cc) j cs rfl (owns_but hrow1.out (HB5.out.trans (But.of ((Below.refl _ _).alloc (Nat.le_refl _) _))) (by omega)) _ 1 1 [.int .i64 0, .slice none 0 0, .string ⟨#[]⟩, .string ⟨#[]⟩, .string ⟨#[]⟩, .string ⟨#[]⟩, .slice none 0 0] rfl rfl (World.news_of_block (fr := (0, 0)) (heap_alloc_new u5 _)) (by intro u hu; simp only [List.mem_cons, List.not_mem_nil, or_false] at hu; rcases hu with rfl | rfl | rfl | rfl | rfl | rfl | rfl <;> rfl) (by decide) (by simp only [maxLen]; omega) (by omega) (by first | omega | (simp; omega)) _ rfl ?_
           intro g cap w6 hown hg hat6 hgl
           obtain ⟨HSa, c6, f6, hgX, hk6⟩ := rd_fill HV.out hNj.out HB5.out hin3.out hrm3.out ((Below.refl _ _).alloc (Nat.le_refl _) _) hrow2.out hrow4.out hrow3.out hown hg (by simpa using hat6)
           have HSb := HSa
           rw [← setA_comm _ g _ (w.heap.size + 2) _ _ _ _ _ _ _ _ (show w.heap.size + 2 ≠ g by omega)] at HSb
           rw [hN3.out, hM3.out] at HSa HSb
           have OC := owns_cell hown
           obtain ⟨c70, c71, c72, c73, c74, c75, c76⟩ := owns_last hown hrow2.out
           have g0 := (OC (j * 7) (by omega)).2
           have g1 := (OC (j * 7 + 1) (by omega)).2
           have g2 := (OC (j * 7 + 2) (by omega)).2
           have g3 := (OC (j * 7 + 3) (by omega)).2
           have g4 := (OC (j * 7 + 4) (by omega)).2
           have g5 := (OC (j * 7 + 5) (by omega)).2
           have g6 := (OC (j * 7 + 6) (by omega)).2
           obtain ⟨z0, z1, z2, z3, z4⟩ := cells5e ((hk6 Y (by omega) hpY.symm hYr.out).trans hKV.out)
           have hgY : g ≠ Y := by
            intro e
            rcases hat6 with e2 | e2
            · exact hYr.out g e2 e.symm
            · first | omega | (simp at e2; omega)
           have jn : (j : Int) < (j : Int) + 1 := by omega
           replace HSa := Hd HSa
           replace HSb := Hd HSb
           clear hown hg hat6 hk6 OC
           try dsimp only []
           refine hK.out _ _ (⟨z0, z1, z2, z3, z4⟩) ?_
           clear hK K hHeld
           intro hHeld
           refine tk 10 75 hHeld ?_
           refine tk 12 76 hHeld ?_
           refine rdy [11, 13] ?_
           refine .cons rfl (fun K hK => ?_) (.cons rfl (fun K hK => ?_) .nil)
           · go_simp
             refine hK.out _ _ (⟨keepA z0 hgY, keepA z1 hgY, keepA z2 hgY, keepA z3 hgY, keepA z4 hgY⟩) ?_
             clear hK K hHeld
             intro hHeld
             refine rdy [13] ?_
             refine .cons rfl (fun K hK => ?_) .nil
             go_simp
             refine hK.out _ _ (⟨keepH (keepA z0 hgY) hXYn, keepH (keepA z1 hgY) hXYn, keepH (keepA z2 hgY) hXYn, keepH (keepA z3 hgY) hXYn, keepH (keepA z4 hgY) hXYn⟩) ?_
             clear hK K hHeld
             intro hHeld
             refine wpAnyH_done (by kernel_rfl) ?_ _
             exact ⟨_, _, _, _, _, _, _, _, _, _, _, _, _, _, _, _, _, g, cap, rfl, HSa⟩
           · go_simp
             refine hK.out _ _ (⟨keepH z0 hXYn, keepH z1 hXYn, keepH z2 hXYn, keepH z3 hXYn, keepH z4 hXYn⟩) ?_
             clear hK K hHeld
             intro hHeld
             refine rdy [11] ?_
             refine .cons rfl (fun K hK => ?_) .nil
             go_simp
             refine hK.out _ _ (⟨keepA (keepH z0 hXYn) hgY, keepA (keepH z1 hXYn) hgY, keepA (keepH z2 hXYn) hgY, keepA (keepH z3 hXYn) hgY, keepA (keepH z4 hXYn) hgY⟩) ?_
             clear hK K hHeld
             intro hHeld
             refine wpAnyH_done (by kernel_rfl) ?_ _
             exact ⟨_, _, _, _, _, _, _, _, _, _, _, _, _, _, _, _, _, g, cap, rfl, HSb⟩
       · go_simp
         refine hK.out _ _ (KEEP.out _ (But.of ((Below.refl V.heap.size V).drew.alloc (by simp) _))) ?_
         clear hK K hHeld
         intro hHeld
         refine rdy [1, 6] ?_
         refine .cons rfl (fun K hK => ?_) (.cons rfl (fun K hK => ?_) .nil)
         · go_simp
           refine hK.out _ _ (KEEP.out _ (But.of ((Below.refl V.heap.size V).drew.alloc (by simp) _))) ?_
           clear hK K hHeld
           intro hHeld
           refine tk 7 72 hHeld ?_
           refine rdy [6] ?_
           refine .cons rfl (fun K hK => ?_) .nil
           go_simp
           go_at_call 33
           rw [WD.out]
           refine (CKV.out _ ((Below.refl V.heap.size V).drew.alloc (by simp) _)).mono ?_
           rintro _ u6 ⟨Ak3, ck3, Ab3, cb3, rfl, hin3, hrm3, hu6⟩
           have HB6 := Hd ((But.of ((Below.refl V.heap.size V).drew.alloc (by simp) _)).trans hu6)
           have rA6 : ∀ ob : Obj, (u6.alloc ob).cell? ⟨w.heap.size + 2, 1, none⟩ = some (.slice Va j cc) := fun ob => T.out _ (HB6.out.trans (But.of ((Below.refl _ _).alloc (Nat.le_refl _) ob)))
           have ru6 := T.out _ HB6.out
           have hz3 := HB6.out.size
           have hzb : Hid (u6.heap[Y + 1]? = some (.cells #[.int .i64 0, .slice none 0 0, .string ⟨#[]⟩, .string ⟨#[]⟩, .string ⟨#[]⟩, .string ⟨#[]⟩, .slice none 0 0] 25 (0, 0))) := Hd (by rw [← hzV]; exact (hu6.block _ (by simp) (by omega)).trans (heap_alloc_new V.drew _))
           replace hin3 := Hd (hin3.more fun b hb => New.mono (((Below.refl V.heap.size V).drew.alloc (by simp) _)).size b hb)
           replace hrm3 := Hd hrm3
           clear hu6
           dsimp only []
           refine hK.out _ _ (KEEP.out _ HB6.out) ?_
           clear hK K hHeld
           intro hHeld
           refine rdy [9] ?_
           refine .cons rfl (fun K hK => ?_) .nil
           refine step_append_lies _ rfl (.tmp 66) (.tmp 73) 22 rfl (w.heap.size + 2 + 1) 25 i0 _ 7 120 Tryz.underlying22 hi q1 q2 q3 rfl (by decide) (.slice Va j cc) j cs rfl (owns_but hrow1.out HB6.out (by omega)) _ 1 1 [.int .i64 0, .slice none 0 0, .string ⟨#[]⟩, .string ⟨#[]⟩, .string ⟨#[]⟩, .string ⟨#[]⟩, .slice none 0 0] rfl rfl (World.news_of_block (fr := (0, 0)) hzb.out) (by intro u hu; simp only [List.mem_cons, List.not_mem_nil, or_false] at hu; rcases hu with rfl | rfl | rfl | rfl | rfl | rfl | rfl <;> rfl) (by decide) (by simp only [maxLen]; omega) (by omega) (by first | omega | (simp; omega)) _ rfl ?_
           intro g cap w6 hown hg hat6 hgl
           obtain ⟨HSa, c6, f6, hgX, hk6⟩ := rd_fill HV.out hNj.out HB6.out hin3.out hrm3.out (Below.refl _ _) hrow2.out hrow4.out hrow3.out hown hg (by simpa using hat6)
           have HSb := HSa
           rw [← setA_comm _ g _ (w.heap.size + 2) _ _ _ _ _ _ _ _ (show w.heap.size + 2 ≠ g by omega)] at HSb
           rw [hN3.out, hM3.out] at HSa HSb
           have OC := owns_cell hown
           obtain ⟨c70, c71, c72, c73, c74, c75, c76⟩ := owns_last hown hrow2.out
           have g0 := (OC (j * 7) (by omega)).2
           have g1 := (OC (j * 7 + 1) (by omega)).2
           have g2 := (OC (j * 7 + 2) (by omega)).2
           have g3 := (OC (j * 7 + 3) (by omega)).2
           have g4 := (OC (j * 7 + 4) (by omega)).2
           have g5 := (OC (j * 7 + 5) (by omega)).2
           have g6 := (OC (j * 7 + 6) (by omega)).2
           obtain ⟨z0, z1, z2, z3, z4⟩ := cells5e ((hk6 Y (by omega) hpY.symm hYr.out).trans hKV.out)
           have hgY : g ≠ Y := by
            intro e
            rcases hat6 with e2 | e2
            · exact hYr.out g e2 e.symm
            · first | omega | (simp at e2; omega)
           have jn : (j : Int) < (j : Int) + 1 := by omega
           replace HSa := Hd HSa
           replace HSb := Hd HSb
           clear hown hg hat6 hk6 OC
           try dsimp only []
           refine hK.out _ _ (⟨z0, z1, z2, z3, z4⟩) ?_
           clear hK K hHeld
           intro hHeld
           refine tk 10 75 hHeld ?_
           refine tk 12 76 hHeld ?_
           refine rdy [11, 13] ?_
           refine .cons rfl (fun K hK => ?_) (.cons rfl (fun K hK => ?_) .nil)
           · go_simp
             refine hK.out _ _ (⟨keepA z0 hgY, keepA z1 hgY, keepA z2 hgY, keepA z3 hgY, keepA z4 hgY⟩) ?_
             clear hK K hHeld
             intro hHeld
             refine rdy [13] ?_
             refine .cons rfl (fun K hK => ?_) .nil
             go_simp
             refine hK.out _ _ (⟨keepH (keepA z0 hgY) hXYn, keepH (keepA z1 hgY) hXYn, keepH (keepA z2 hgY) hXYn, keepH (keepA z3 hgY) hXYn, keepH (keepA z4 hgY) hXYn⟩) ?_
             clear hK K hHeld
             intro hHeld
             refine wpAnyH_done (by kernel_rfl) ?_ _
             exact ⟨_, _, _, _, _, _, _, _, _, _, _, _, _, _, _, _, _, g, cap, rfl, HSa⟩
           · go_simp
             refine hK.out _ _ (⟨keepH z0 hXYn, keepH z1 hXYn, keepH z2 hXYn, keepH z3 hXYn, keepH z4 hXYn⟩) ?_
             clear hK K hHeld
             intro hHeld
             refine rdy [11] ?_
             refine .cons rfl (fun K hK => ?_) .nil
             go_simp
             refine hK.out _ _ (⟨keepA (keepH z0 hXYn) hgY, keepA (keepH z1 hXYn) hgY, keepA (keepH z2 hXYn) hgY, keepA (keepH z3 hXYn) hgY, keepA (keepH z4 hXYn) hgY⟩) ?_
             clear hK K hHeld
             intro hHeld
             refine wpAnyH_done (by kernel_rfl) ?_ _
             exact ⟨_, _, _, _, _, _, _, _, _, _, _, _, _, _, _, _, _, g, cap, rfl, HSb⟩
         · go_simp
           go_at_call 33
           rw [WD.out]
           refine (CKV.out _ ((Below.refl V.heap.size V).drew.alloc (by simp) _)).mono ?_
           rintro _ u7 ⟨Ak3, ck3, Ab3, cb3, rfl, hin3, hrm3, hu7⟩
           have HB7 := Hd ((But.of ((Below.refl V.heap.size V).drew.alloc (by simp) _)).trans hu7)
           have rA7 : ∀ ob : Obj, (u7.alloc ob).cell? ⟨w.heap.size + 2, 1, none⟩ = some (.slice Va j cc) := fun ob => T.out _ (HB7.out.trans (But.of ((Below.refl _ _).alloc (Nat.le_refl _) ob)))
           have ru7 := T.out _ HB7.out
           have hz3 := HB7.out.size
           have hzb : Hid (u7.heap[Y + 1]? = some (.cells #[.int .i64 0, .slice none 0 0, .string ⟨#[]⟩, .string ⟨#[]⟩, .string ⟨#[]⟩, .string ⟨#[]⟩, .slice none 0 0] 25 (0, 0))) := Hd (by rw [← hzV]; exact (hu7.block _ (by simp) (by omega)).trans (heap_alloc_new V.drew _))
           replace hin3 := Hd (hin3.more fun b hb => New.mono (((Below.refl V.heap.size V).drew.alloc (by simp) _)).size b hb)
           replace hrm3 := Hd hrm3
           clear hu7
           dsimp only []
           refine hK.out _ _ (KEEP.out _ HB7.out) ?_
           clear hK K hHeld
           intro hHeld
           refine rdy [1] ?_
           refine .cons rfl (fun K hK => ?_) .nil
           go_simp
           refine hK.out _ _ (KEEP.out _ HB7.out) ?_
           clear hK K hHeld
           intro hHeld
           refine tk 7 72 hHeld ?_
           refine rdy [9] ?_
           refine .cons rfl (fun K hK => ?_) .nil
           refine step_append_lies _ rfl (.tmp 66) (.tmp 73) 22 rfl (w.heap.size + 2 + 1) 25 i0 _ 7 120 Tryz.underlying22 hi q1 q2 q3 rfl (by decide) (.slice Va j cc) j cs rfl (owns_but hrow1.out HB7.out (by omega)) _ 1 1 [.int .i64 0, .slice none 0 0, .string ⟨#[]⟩, .string ⟨#[]⟩, .string ⟨#[]⟩, .string ⟨#[]⟩, .slice none 0 0] rfl rfl (World.news_of_block (fr := (0, 0)) hzb.out) (by intro u hu; simp only [List.mem_cons, List.not_mem_nil, or_false] at hu; rcases hu with rfl | rfl | rfl | rfl | rfl | rfl | rfl <;> rfl) (by decide) (by simp only [maxLen]; omega) (by omega) (by first | omega | (simp; omega)) _ rfl ?_
           intro g cap w6 hown hg hat6 hgl
           obtain ⟨HSa, c6, f6, hgX, hk6⟩ := rd_fill HV.out hNj.out HB7.out hin3.out hrm3.out (Below.refl _ _) hrow2.out hrow4.out hrow3.out hown hg (by simpa using hat6)
           have HSb := HSa
           rw [← setA_comm _ g _ (w.heap.size + 2) _ _ _ _ _ _ _ _ (show w.heap.size + 2 ≠ g by omega)] at HSb
           rw [hN3.out, hM3.out] at HSa HSb
           have OC := owns_cell hown
           obtain ⟨c70, c71, c72, c73, c74, c75, c76⟩ := owns_last hown hrow2.out
           have g0 := (OC (j * 7) (by omega)).2
           have g1 := (OC (j * 7 + 1) (by omega)).2
           have g2 := (OC (j * 7 + 2) (by omega)).2
           have g3 := (OC (j * 7 + 3) (by omega)).2
           have g4 := (OC (j * 7 + 4) (by omega)).2
           have g5 := (OC (j * 7 + 5) (by omega)).2
           have g6 := (OC (j * 7 + 6) (by omega)).2
           obtain ⟨z0, z1, z2, z3, z4⟩ := cells5e ((hk6 Y (by omega) hpY.symm hYr.out).trans hKV.out)
           have hgY : g ≠ Y := by
            intro e
            rcases hat6 with e2 | e2
            · exact hYr.out g e2 e.symm
            · first | omega | (simp at e2; omega)
           have jn : (j : Int) < (j : Int) + 1 := by omega
           replace HSa := Hd HSa
           replace HSb := Hd HSb
           clear hown hg hat6 hk6 OC
           try dsimp only []
           refine hK.out _ _ (⟨z0, z1, z2, z3, z4⟩) ?_
           clear hK K hHeld
           intro hHeld
           refine tk 10 75 hHeld ?_
           refine tk 12 76 hHeld ?_
           refine rdy [11, 13] ?_
           refine .cons rfl (fun K hK => ?_) (.cons rfl (fun K hK => ?_) .nil)
           · go_simp
             refine hK.out _ _ (⟨keepA z0 hgY, keepA z1 hgY, keepA z2 hgY, keepA z3 hgY, keepA z4 hgY⟩) ?_
             clear hK K hHeld
             intro hHeld
             refine rdy [13] ?_
             refine .cons rfl (fun K hK => ?_) .nil
             go_simp
             refine hK.out _ _ (⟨keepH (keepA z0 hgY) hXYn, keepH (keepA z1 hgY) hXYn, keepH (keepA z2 hgY) hXYn, keepH (keepA z3 hgY) hXYn, keepH (keepA z4 hgY) hXYn⟩) ?_
             clear hK K hHeld
             intro hHeld
             refine wpAnyH_done (by kernel_rfl) ?_ _
             exact ⟨_, _, _, _, _, _, _, _, _, _, _, _, _, _, _, _, _, g, cap, rfl, HSa⟩
           · go_simp
             refine hK.out _ _ (⟨keepH z0 hXYn, keepH z1 hXYn, keepH z2 hXYn, keepH z3 hXYn, keepH z4 hXYn⟩) ?_
             clear hK K hHeld
             intro hHeld
             refine rdy [11] ?_
             refine .cons rfl (fun K hK => ?_) .nil
             go_simp
             refine hK.out _ _ (⟨keepA (keepH z0 hXYn) hgY, keepA (keepH z1 hXYn) hgY, keepA (keepH z2 hXYn) hgY, keepA (keepH z3 hXYn) hgY, keepA (keepH z4 hXYn) hgY⟩) ?_
             clear hK K hHeld
             intro hHeld
             refine wpAnyH_done (by kernel_rfl) ?_ _
             exact ⟨_, _, _, _, _, _, _, _, _, _, _, _, _, _, _, _, _, g, cap, rfl, HSb⟩
     rintro e a W h
     cases e
     all_goals first | exact h.elim | skip
     obtain ⟨q9, q62, q63, q64, q65, q66, q67, q68, q69, q70, q71, q72, q73, q74, q75, q76, q77, g, cap, rfl, HS⟩ := h
     have HS' : Hid (RdI f (w.heap.size + 2) p l w W (f.kids.take (j + 1)) (.slice (some ⟨g, 0, none⟩) (j + 1) cap)) := Hd (by
      have := HS.out
      rw [hkj.out] at this
      rw [htk.out]
      exact this)
     go_wp2_with fail
     go_roundw
     case rel => exact ⟨j + 1, some ⟨g, 0, none⟩, cap, by omega, by go_num, HS'⟩
     case measure => simp [RowKit.intOf]; omega
   · have hjK : K = j := by omega
     subst hjK
     have htk : f.kids.take K = f.kids := List.take_of_length_le (by rw [hK.out]; exact Nat.le_refl _)
     rw [htk] at HI
     have jk : ¬ ((K : Int) < (K : Int)) := by omega
     obtain ⟨o0, o1, o2, o3, o4, o5, o6⟩ := cells7 HI.out.out
     have hn := hno.out
     have hfv : Value.agg #[.int .i64 f.k, .slice Va K cc, .string ⟨#[]⟩, .string ⟨#[]⟩, .string ⟨#[]⟩, .string ⟨#[]⟩, .slice none 0 0] = ftV f Va cc none 0 := by
      unfold ftV
      rw [hn.t, hn.v, hn.a, hn.z, hn.b, hK.out]
      rfl
     have hsb : ∀ W I, SrcS W I none 0 f.b := fun W I => by rw [hn.b]; exact SrcS.none_ _ _
     have CC := (check14_any f Va cc none 0 wr (by rw [hn.t]; simp) (hsb _ _)).mono fun en w' (h : _) => (⟨by rw [h.1]; exact okIf_yes hone.out, h.2⟩ : en = .returned (.tuple #[]) ∧ Below wr.heap.size wr w')
     rw [← hfv] at CC
     replace CC := Hd CC
     replace hfv := Hd hfv
     replace hsb := Hd hsb
     replace hn := Hd hn
     replace htk := Hd htk
     go_wp2_with fail
     refine CC.out.mono ?_
     rintro _ w5 ⟨rfl, hb5⟩
     have HI5 := HI.out.go hb5
     have hR5 := HI5.res
     have hX5 := HI5.out
     obtain ⟨p0, p1, p2, p3, p4, p5, p6⟩ := cells7 hX5
     have hsl : SlG w5 (New (w.heap.size + 2 + 1) w5) Va cc f.g := by
      obtain ⟨A', c', h1, h2⟩ := HI5.row.sl
      injection h1 with e1 e2 e3
      subst e1 e3
      rwa [show Gl.of f.kids = f.g from Gl.of_list f.g] at h2
     have hps := (Array.getElem?_eq_some_iff.1 HI5.res).1
     have hlt5 := HI5.lt
     have hroom5 := HI5.room
     have hbut5 := HI5.but
     replace hsl := Hd hsl
     replace hroom5 := Hd hroom5
     replace hbut5 := Hd hbut5
     replace hb5 := Hd hb5
     replace HI5 := Hd HI5
     clear o0 o1 o2 o3 o4 o5 o6
     dsimp only []
     obtain ⟨r0, r1, r2, r3, r4, r5, r6⟩ := cells7 (hR5)
     have f0 := free7 (hR5) 0
     have f1 := free7 (hR5) 1
     have f2 := free7 (hR5) 2
     have f3 := free7 (hR5) 3
     have f4 := free7 (hR5) 4
     have f5 := free7 (hR5) 5
     have f6 := free7 (hR5) 6
     replace hR5 := Hd hR5
     replace hX5 := Hd hX5
     go_wp2_with fail
     have HC := Hd (set7_same (hR5.out) (.int .i64 f.k) (.slice Va K cc) (.string ⟨#[]⟩) (.string ⟨#[]⟩) (.string ⟨#[]⟩) (.string ⟨#[]⟩) (.slice none 0 0))
     have HN := Hd (fun k (hk : k ≠ w.heap.size + 1) => set7_other (w := w5) (b := w.heap.size + 1) (.int .i64 f.k) (.slice Va K cc) (.string ⟨#[]⟩) (.string ⟨#[]⟩) (.string ⟨#[]⟩) (.string ⟨#[]⟩) (.slice none 0 0) hk)
     have HL := Hd (but_set7 (hbut5.out) (R := w.heap.size + 1) (by omega) (.int .i64 f.k) (.slice Va K cc) (.string ⟨#[]⟩) (.string ⟨#[]⟩) (.string ⟨#[]⟩) (.string ⟨#[]⟩) (.slice none 0 0))
     have HX : set7 w5 (w.heap.size + 1) (.int .i64 f.k) (.slice Va K cc) (.string ⟨#[]⟩) (.string ⟨#[]⟩) (.string ⟨#[]⟩) (.string ⟨#[]⟩) (.slice none 0 0) = (((((((w5.setCell ⟨w.heap.size + 1, 0, none⟩ (.int .i64 f.k)).setCell ⟨w.heap.size + 1, 1, none⟩ (.slice Va K cc)).setCell ⟨w.heap.size + 1, 2, none⟩ (.string ⟨#[]⟩)).setCell ⟨w.heap.size + 1, 3, none⟩ (.string ⟨#[]⟩)).setCell ⟨w.heap.size + 1, 4, none⟩ (.string ⟨#[]⟩)).setCell ⟨w.heap.size + 1, 5, none⟩ (.string ⟨#[]⟩)).setCell ⟨w.heap.size + 1, 6, none⟩ (.slice none 0 0)) := rfl
     rw [← HX]
     obtain ⟨W9, hW9⟩ : ∃ W9, W9 = set7 w5 (w.heap.size + 1) (.int .i64 f.k) (.slice Va K cc) (.string ⟨#[]⟩) (.string ⟨#[]⟩) (.string ⟨#[]⟩) (.string ⟨#[]⟩) (.slice none 0 0) := ⟨_, rfl⟩
     rw [← hW9] at HC HN HL ⊢
     clear HX hW9 r0 r1 r2 r3 r4 r5 r6 f0 f1 f2 f3 f4 f5 f6
     obtain ⟨v0, v1, v2, v3, v4, v5, v6⟩ := cells7 HC.out
     exact bodyPost_ret (v := .agg #[.int .i64 f.k, .slice Va K cc, .string ⟨#[]⟩, .string ⟨#[]⟩, .string ⟨#[]⟩, .string ⟨#[]⟩, .slice none 0 0]) (by simp [results, Tryz.results33, go_sem, v0, v1, v2, v3, v4, v5, v6]) rfl (⟨Va, cc, none, 0, congrArg Ending.returned hfv.out, (FtIn.set ⟨hsl.out, hsb.out _ _⟩ HN.out (by omega)).more fun b hb => hb.mono (by omega) b, (HN.out p (by omega)).trans (by rw [show l - (f.num : Int) = l - 1 - (sumN f.kids : Int) by rw [hsum.out, hnum.out]; omega]; exact hroom5.out), HL.out⟩)
end Go.Proofs.YtcbiedonmibfaaaGreatDoor
