/- Filters. -/
import Derived.Test.YtcbiedonmibfaaaGreatDoorRF
set_option maxRecDepth 8000
set_option maxHeartbeats 6400000
namespace Go.Proofs.YtcbiedonmibfaaaGreatDoor
open Go.RowKit Go.Lib
theorem read_leaf7 (f : Ft) (hfk : f.k = 7) (hone : f.one = true) (htl : f.t.length ≤ 9500) (d : Nat) (hd : d ≤ 10) (l : Int) (hnl : 1 ≤ l) (hl : l ≤ 64) (p : Nat) (I : Nat → Prop) (A : Option Addr) (c : Nat) (B : Option Addr) (dd : Nat) (w : World) (hs : ElIn w I f.el A c B dd)
 (hI : ∀ b, I b → b < w.heap.size ∧ b ≠ p) (hp : w.heap[p]? = some (.cells #[.int .i64 l] 69 (0, 0))) :
 Calls Tryz.prog 33 #[.pointer (some ⟨p, 0, none⟩), elV f.el A c B dd, .int .i64 (d : Int)] w (RdP f p l w) := by
 have hel := el_7 hfk
 rw [← hfk] at hel
 have hlf := leaf_ok hone (by omega)
 have hnum : f.num = 1 := by unfold Ft.num; rw [hlf.g]; rfl
 rw [hel] at hs
 have hev : elV f.el A c B dd = .agg #[.int .i64 2, .bool false, .int .i64 f.k, .slice A f.t.length c, .slice B 0 dd] := by
  rw [hel]
  show Value.agg #[_, _, _, .slice A (nb f.t).length c, _] = _
  rw [nb_len]
  rfl
 rw [hev]
 have hsb : SrcI w I A c (nb f.t) := hs.b
 have CU := Hd fun W => (own14_any 7 W).mono fun en w' ⟨h1, h2⟩ => (show en = Ending.returned (.agg #[.int .i64 2, .bool false, .int .i64 f.k]) ∧ Below W.heap.size W w' from ⟨by rw [h1, hfk]; rfl, h2⟩)
 have CC0 := Hd fun W (hW : But p w W) => content_any 2 f.k f.t I A B c dd W (hsb.keep fun q hq => hW.cell (hI _ hq).1 (hI _ hq).2) (fun b hb => Nat.lt_of_lt_of_le (hI b hb).1 hW.size)
 have CN := Hd fun W => (normal_any f.t W htl).mono fun en w' ⟨h1, _, h3⟩ => (show en = Ending.returned (.string (baO f.t)) ∧ Below W.heap.size W w' from ⟨h1 _ hlf.t, h3⟩)
 have k0 : (f.k == 0) = false := by simp [hfk]
 have k1 : (f.k == 1) = false := by simp [hfk]
 have k2 : (f.k == 2) = false := by simp [hfk]
 have k7 : (f.k == 7) = true := by simp [hfk]
 replace hev := Hd hev
 replace hsb := Hd hsb
 replace hlf := Hd hlf
 replace hone := Hd hone
 replace hnum := Hd hnum
 replace hfk := Hd hfk
 have hpl : p < w.heap.size := (Array.getElem?_eq_some_iff.1 hp).1
 obtain ⟨W0, hW0⟩ : ∃ W0, W0 = (w.alloc (.cells #[.int .i64 2, .bool false, .int .i64 f.k, .slice A f.t.length c, .slice B 0 dd] 43)).alloc (.cells #[.int .i64 0, .slice none 0 0, .string ⟨#[]⟩, .string ⟨#[]⟩, .string ⟨#[]⟩, .string ⟨#[]⟩, .slice none 0 0] 25) := ⟨_, rfl⟩
 have hz0 : W0.heap.size = w.heap.size + 2 := by rw [hW0]; simp
 have hp0 : W0.heap[p]? = some (.cells #[.int .i64 l] 69 (0, 0)) := by rw [hW0, Below.heap_alloc _ _ _ (by simp <;> omega), Below.heap_alloc _ _ _ hpl]; exact hp
 have CE := Hd (enter_ok ⟨p, 0, none⟩ (d : Int) l W0 (by omega) (by omega) (by omega) (cell_of_row _ _ _ _ _ _ hp0) (free7 hp0 0))
 obtain ⟨W1, hW1⟩ : ∃ W1, W1 = W0.setCell ⟨p, 0, none⟩ (.int .i64 (l - 1)) := ⟨_, rfl⟩
 have hB1 : But p w W1 := by rw [hW1, hW0]; exact (But.of (((Below.refl _ _).alloc (Nat.le_refl _) _).alloc (by simp) _)).trans (But.set 0 _)
 have hz1 : W1.heap.size = w.heap.size + 2 := by rw [hW1]; simp only [World.setCell, Array.size_modify]; exact hz0
 have hp1 : W1.heap[p]? = some (.cells #[.int .i64 (l - 1)] 69 (0, 0)) := by rw [hW1]; exact set_one hp0
 have hx1 : W1.heap[w.heap.size]? = some (.cells #[.int .i64 2, .bool false, .int .i64 f.k, .slice A f.t.length c, .slice B 0 dd] 43 (0, 0)) := by rw [hW1, Below.heap_setCell _ _ _ _ (by show w.heap.size ≠ p; omega), hW0, Below.heap_alloc _ _ _ (by simp)]; exact heap_alloc_new w _
 have hR1 : W1.heap[w.heap.size + 1]? = some (.cells #[.int .i64 0, .slice none 0 0, .string ⟨#[]⟩, .string ⟨#[]⟩, .string ⟨#[]⟩, .string ⟨#[]⟩, .slice none 0 0] 25 (0, 0)) := by rw [hW1, Below.heap_setCell _ _ _ _ (by show w.heap.size + 1 ≠ p; omega), hW0]; exact heap_alloc_new (w.alloc _) _ |> (by simpa using ·)
 have x2 := (cells5e hx1).2.2.1
 obtain ⟨W2, hW2⟩ : ∃ W2, W2 = W1.alloc (.cells #[.int .i64 f.k, .slice none 0 0, .string ⟨#[]⟩, .string ⟨#[]⟩, .string ⟨#[]⟩, .string ⟨#[]⟩, .slice none 0 0] 25) := ⟨_, rfl⟩
 have hI2 : RdI f (w.heap.size + 2) p l w W2 [] (.slice none 0 0) := by
  rw [hW2]
  refine ⟨hB1.trans (But.of ((Below.refl _ _).alloc (Nat.le_refl _) _)), ⟨hpl, by omega⟩, ?_, ?_, ?_, RowF.nil _ _ _⟩
  · rw [Below.heap_alloc _ _ _ (by omega)]; simpa [sumN, sumL] using hp1
  · rw [Below.heap_alloc _ _ _ (by omega)]; exact hR1
  · rw [← hz1]; exact heap_alloc_new W1 _
 have hx2 : W2.heap[w.heap.size]? = some (.cells #[.int .i64 2, .bool false, .int .i64 f.k, .slice A f.t.length c, .slice B 0 dd] 43 (0, 0)) := by rw [hW2, Below.heap_alloc _ _ _ (by omega)]; exact hx1
 have y0 : (W1.alloc (.cells #[.int .i64 f.k, .slice none 0 0, .string ⟨#[]⟩, .string ⟨#[]⟩, .string ⟨#[]⟩, .string ⟨#[]⟩, .slice none 0 0] 25)).cell? ⟨w.heap.size + 2, 0, none⟩ = some (.int .i64 f.k) := by rw [← hW2]; exact cell_of_row _ _ _ _ _ _ hI2.out
 have hz2 : W2.heap.size = w.heap.size + 3 := by rw [hW2]; simp <;> omega
 obtain ⟨v0, v1, v2, v3, v4⟩ := cells5e hx2
 rw [hW2] at v0 v1 v2 v3 v4
 replace hp := Hd hp
 replace hp0 := Hd hp0
 replace hp1 := Hd hp1
 replace hx1 := Hd hx1
 replace hR1 := Hd hR1
 replace hB1 := Hd hB1
 replace hI2 := Hd hI2
 replace hx2 := Hd hx2
 replace hW2 := Hd hW2
 replace hz0 := Hd hz0
 replace hz2 := Hd hz2
 replace hs := Hd hs
 replace hI := Hd hI
 replace hel := Hd hel
 go_enter Tryz.func33, Tryz.ntmps33
 go_wp2_with fail
 rw [← hW0]
 replace hW0 := Hd hW0
 try go_wp2_with fail
 refine CE.out.mono ?_
 rintro _ w1 ⟨rfl, h1⟩
 rw [← hW1] at h1
 subst w1
 replace hW1 := Hd hW1
 dsimp only []
 rw [← hz1] at y0
 go_upto_region 19 with fail
 clear y0 v0 v1 v2 v3 v4 k0 k1 k2 k7
 rw [← hW2.out]
 have HL2 : Hid (LfI (w.heap.size + 2) p l w W2 #[.int .i64 f.k, .slice none 0 0, .string ⟨#[]⟩, .string ⟨#[]⟩, .string ⟨#[]⟩, .string ⟨#[]⟩, .slice none 0 0]) := Hd ⟨hI2.out.but, hI2.out.lt, by simpa [sumN, sumL] using hI2.out.room, hI2.out.res, hI2.out.out⟩
 have KEEP : Hid (∀ W, Below W2.heap.size W2 W → W.cell? ⟨w.heap.size, 0, none⟩ = some (.int .i64 2) ∧ W.cell? ⟨w.heap.size, 1, none⟩ = some (.bool false) ∧ W.cell? ⟨w.heap.size, 2, none⟩ = some (.int .i64 f.k) ∧ W.cell? ⟨w.heap.size, 3, none⟩ = some (.slice A f.t.length c) ∧ W.cell? ⟨w.heap.size, 4, none⟩ = some (.slice B 0 dd)) := Hd fun W h => by
  obtain ⟨z0, z1, z2, z3, z4⟩ := cells5e ((h.block _ (Array.getElem?_eq_some_iff.1 hx2.out).1).trans hx2.out)
  exact ⟨z0, z1, z2, z3, z4⟩
 have CC := Hd fun W (h : Below W2.heap.size W2 W) => CC0.out W (HL2.out.go h).but
 refine wp_region_held_drew (S := (fun W => W.cell? ⟨w.heap.size, 0, none⟩ = some (.int .i64 2) ∧ W.cell? ⟨w.heap.size, 1, none⟩ = some (.bool false) ∧ W.cell? ⟨w.heap.size, 2, none⟩ = some (.int .i64 f.k) ∧ W.cell? ⟨w.heap.size, 3, none⟩ = some (.slice A f.t.length c) ∧ W.cell? ⟨w.heap.size, 4, none⟩ = some (.slice B 0 dd))) (by kernel_rfl) (KEEP.out _ (Below.refl _ _).drew) ?_
 intro hHeld
 refine tk 0 80 hHeld ?_
 refine rdy [1] ?_
 refine .cons rfl (fun K hK => ?_) .nil
 go_simp
 go_at_call 65
 refine (CU.out _).mono ?_
 rintro _ u1 ⟨rfl, hu1⟩
 have HB1 := Hd (((Below.refl W2.heap.size W2).drew).trans (hu1.mono ((Below.refl W2.heap.size W2).drew).size))
 clear hu1
 dsimp only []
 refine hK.out _ _ (KEEP.out _ HB1.out) ?_
 clear hK K hHeld
 intro hHeld
 refine rdy [2] ?_
 refine .cons rfl (fun K hK => ?_) .nil
 go_simp
 go_at_call 67
 refine (CC.out _ (HB1.out)).mono ?_
 rintro _ u2 ⟨rfl, hu2⟩
 have HB2 := Hd ((HB1.out).trans (hu2.mono (HB1.out).size))
 clear hu2
 dsimp only []
 refine hK.out _ _ (KEEP.out _ HB2.out) ?_
 clear hK K hHeld
 intro hHeld
 refine rdy [3] ?_
 refine .cons rfl (fun K hK => ?_) .nil
 go_simp
 go_at_call 66
 refine (CN.out _).mono ?_
 rintro _ u3 ⟨rfl, hu3⟩
 have HB3 := Hd ((HB2.out).trans (hu3.mono (HB2.out).size))
 clear hu3
 dsimp only []
 refine hK.out _ _ (KEEP.out _ HB3.out) ?_
 clear hK K hHeld
 intro hHeld
 refine tk 4 84 hHeld ?_
 refine rdy [5] ?_
 refine .cons rfl (fun K hK => ?_) .nil
 obtain ⟨o0, o1, o2, o3, o4, o5, o6⟩ := cells7 (HL2.out.go (HB3.out)).out
 have hf2 := free7 (HL2.out.go (HB3.out)).out 2
 obtain ⟨m0, m1, m2, m3, m4⟩ := KEEP.out _ (HB3.out)
 have hne : w.heap.size + 2 ≠ w.heap.size := by omega
 go_simp
 clear o0 o1 o2 o3 o4 o5 o6 hf2
 refine hK.out _ _ (⟨keepH m0 hne, keepH m1 hne, keepH m2 hne, keepH m3 hne, keepH m4 hne⟩) ?_
 clear hK K hHeld
 intro hHeld
 refine wpAnyH_done (by kernel_rfl) ?_ _
 obtain ⟨W3, hW3⟩ : ∃ W3, W3 = u3.setCell ⟨w.heap.size + 2, 2, none⟩ (.string (baO f.t)) := ⟨_, rfl⟩
 have H3 : Hid (LfI (w.heap.size + 2) p l w W3 #[.int .i64 f.k, .slice none 0 0, .string (baO f.t), .string ⟨#[]⟩, .string ⟨#[]⟩, .string ⟨#[]⟩, .slice none 0 0]) := Hd (by rw [hW3]; exact (HL2.out.go (HB3.out)).set 2 _)
 have hb0 : f.b = [] := (hlf.out.a (by rw [hfk.out]; omega)).2.2
 have hSb : Hid (SrcS W3 (New (w.heap.size + 3) W3) none 0 f.b) := Hd (by rw [hb0]; exact SrcS.none_ _ _)
 rw [← hW3]
 replace hW3 := Hd hW3
 replace hb0 := Hd hb0
 clear hHeld KEEP hne m0 m1 m2 m3 m4
 obtain ⟨o0, o1, o2, o3, o4, o5, o6⟩ := cells7 H3.out.out
 have hfv : Value.agg #[.int .i64 f.k, .slice none 0 0, .string (baO f.t), .string ⟨#[]⟩, .string ⟨#[]⟩, .string ⟨#[]⟩, .slice none 0 0] = ftV f none 0 (none) (0) := by
  obtain ⟨ha, hz, hb⟩ := hlf.out.a (by rw [hfk.out]; omega)
  unfold ftV Ft.kids
  rw [hlf.out.g, ha, hz, hb, hlf.out.v7 hfk.out]
  rfl
 have CC := (check14_any f none 0 (none) (0) W3 htl (hSb.out.more fun b hb => hb.2.lt)).mono fun en w' (h : _) => (⟨by rw [h.1]; exact okIf_yes hone.out, h.2⟩ : en = .returned (.tuple #[]) ∧ Below W3.heap.size W3 w')
 rw [← hfv] at CC
 replace CC := Hd CC
 replace hfv := Hd hfv
 go_wp2_with fail
 refine CC.out.mono ?_
 rintro _ w5 ⟨rfl, hb5⟩
 have HI5 := H3.out.go hb5
 have hR5 := HI5.res
 have hX5 := HI5.out
 obtain ⟨p0, p1, p2, p3, p4, p5, p6⟩ := cells7 hX5
 have hS5 : SrcS w5 (New (w.heap.size + 3) w5) (none) (0) f.b := (hSb.out.keep fun q hq => hb5.cell hq.2.lt).more fun b hb => ⟨hb.1, hb.2.below hb5 hb.2.lt⟩
 have hps := (Array.getElem?_eq_some_iff.1 HI5.res).1
 have hlt5 := HI5.lt
 have hroom5 := HI5.room
 have hbut5 := HI5.but
 replace hS5 := Hd hS5
 replace hroom5 := Hd hroom5
 replace hbut5 := Hd hbut5
 replace hb5 := Hd hb5
 replace HI5 := Hd HI5
 clear o0 o1 o2 o3 o4 o5 o6
 dsimp only []
 obtain ⟨r0, r1, r2, r3, r4, r5, r6⟩ := cells7 (hR5)
 have f0 := free7 (hR5) 0
 have f1 := free7 (hR5) 1
 have f2 := free7 (hR5) 2
 have f3 := free7 (hR5) 3
 have f4 := free7 (hR5) 4
 have f5 := free7 (hR5) 5
 have f6 := free7 (hR5) 6
 replace hR5 := Hd hR5
 replace hX5 := Hd hX5
 go_wp2_with fail
 have HC := Hd (set7_same (hR5.out) (.int .i64 f.k) (.slice none 0 0) (.string (baO f.t)) (.string ⟨#[]⟩) (.string ⟨#[]⟩) (.string ⟨#[]⟩) (.slice none 0 0))
 have HN := Hd (fun k (hk : k ≠ w.heap.size + 1) => set7_other (w := w5) (b := w.heap.size + 1) (.int .i64 f.k) (.slice none 0 0) (.string (baO f.t)) (.string ⟨#[]⟩) (.string ⟨#[]⟩) (.string ⟨#[]⟩) (.slice none 0 0) hk)
 have HL := Hd (but_set7 (hbut5.out) (R := w.heap.size + 1) (by omega) (.int .i64 f.k) (.slice none 0 0) (.string (baO f.t)) (.string ⟨#[]⟩) (.string ⟨#[]⟩) (.string ⟨#[]⟩) (.slice none 0 0))
 have HX : set7 w5 (w.heap.size + 1) (.int .i64 f.k) (.slice none 0 0) (.string (baO f.t)) (.string ⟨#[]⟩) (.string ⟨#[]⟩) (.string ⟨#[]⟩) (.slice none 0 0) = (((((((w5.setCell ⟨w.heap.size + 1, 0, none⟩ (.int .i64 f.k)).setCell ⟨w.heap.size + 1, 1, none⟩ (.slice none 0 0)).setCell ⟨w.heap.size + 1, 2, none⟩ (.string (baO f.t))).setCell ⟨w.heap.size + 1, 3, none⟩ (.string ⟨#[]⟩)).setCell ⟨w.heap.size + 1, 4, none⟩ (.string ⟨#[]⟩)).setCell ⟨w.heap.size + 1, 5, none⟩ (.string ⟨#[]⟩)).setCell ⟨w.heap.size + 1, 6, none⟩ (.slice none 0 0)) := rfl
 rw [← HX]
 obtain ⟨W9, hW9⟩ : ∃ W9, W9 = set7 w5 (w.heap.size + 1) (.int .i64 f.k) (.slice none 0 0) (.string (baO f.t)) (.string ⟨#[]⟩) (.string ⟨#[]⟩) (.string ⟨#[]⟩) (.slice none 0 0) := ⟨_, rfl⟩
 rw [← hW9] at HC HN HL ⊢
 clear HX hW9 r0 r1 r2 r3 r4 r5 r6 f0 f1 f2 f3 f4 f5 f6
 obtain ⟨v0, v1, v2, v3, v4, v5, v6⟩ := cells7 HC.out
 exact bodyPost_ret (v := .agg #[.int .i64 f.k, .slice none 0 0, .string (baO f.t), .string ⟨#[]⟩, .string ⟨#[]⟩, .string ⟨#[]⟩, .slice none 0 0]) (by simp [results, Tryz.results33, go_sem, v0, v1, v2, v3, v4, v5, v6]) rfl (⟨none, 0, none, 0, congrArg Ending.returned hfv.out, (FtIn.set ⟨by rw [hlf.out.g]; exact ⟨Nat.le_refl _, by omega, fun _ => rfl, fun _ e => by cases e⟩, hS5.out⟩ HN.out (by omega)).more fun b hb => hb.mono (by omega) b, (HN.out p (by omega)).trans (by rw [show l - (f.num : Int) = l - 1 by rw [hnum.out]; rfl]; exact hroom5.out), HL.out⟩)
end Go.Proofs.YtcbiedonmibfaaaGreatDoor
namespace Go.Proofs.YtcbiedonmibfaaaGreatDoor
open Go.RowKit Go.Lib
theorem read_leafG (f : Ft) (h3 : ¬ f.k < 3) (h7 : f.k ≠ 7) (h4 : f.k ≠ 4) (hone : f.one = true) (htl : f.t.length ≤ 9500) (d : Nat) (hd : d ≤ 10) (l : Int) (hnl : 1 ≤ l) (hl : l ≤ 64) (p : Nat) (I : Nat → Prop) (A : Option Addr) (c : Nat) (B : Option Addr) (dd : Nat) (w : World) (hs : ElIn w I f.el A c B dd)
 (hI : ∀ b, I b → b < w.heap.size ∧ b ≠ p) (hp : w.heap[p]? = some (.cells #[.int .i64 l] 69 (0, 0))) :
 Calls Tryz.prog 33 #[.pointer (some ⟨p, 0, none⟩), elV f.el A c B dd, .int .i64 (d : Int)] w (RdP f p l w) := by
 have hel : f.el = ⟨2, true, f.k, [], Fo.of [octE 0 4 f.t, octE 0 4 f.v]⟩ := by rw [el_two h3 h7]; unfold Ft.snd; rw [if_neg h4]
 have hlf := leaf_ok hone h3
 have hnum : f.num = 1 := by unfold Ft.num; rw [hlf.g]; rfl
 rw [hel] at hs
 have hev : elV f.el A c B dd = .agg #[.int .i64 2, .bool true, .int .i64 f.k, .slice A 0 c, .slice B 2 dd] := by
  rw [hel]
  rfl
 rw [hev]
 obtain ⟨bl, off, hBv, hIb, hk2⟩ := hs.kid (by show 0 < 2; omega)
 obtain ⟨A0, c0, B0, d0, hat0, hin0⟩ := hk2 0 (by show 0 < 2; omega)
 obtain ⟨A1, c1, B1, d1, hat1, hin1⟩ := hk2 1 (by show 1 < 2; omega)
 replace hat0 : ElAt w I (octE 0 4 f.t) bl off A0 c0 B0 d0 := hat0
 replace hin0 : ElIn w I (octE 0 4 f.t) A0 c0 B0 d0 := hin0
 replace hat1 : ElAt w I (octE 0 4 f.v) bl (off + 5) A1 c1 B1 d1 := hat1
 replace hin1 : ElIn w I (octE 0 4 f.v) A1 c1 B1 d1 := hin1
 have hd2 : 2 ≤ dd := hs.k.le
 subst hBv
 have hbw := hI bl hIb
 have K0 : Hid (∀ W, But p w W → W.cell? ⟨bl, off, none⟩ = some (.int .i64 0) ∧ W.cell? ⟨bl, off + 1, none⟩ = some (.bool false) ∧ W.cell? ⟨bl, off + 2, none⟩ = some (.int .i64 4) ∧ W.cell? ⟨bl, off + 3, none⟩ = some (.slice A0 f.t.length c0) ∧ W.cell? ⟨bl, off + 4, none⟩ = some (.slice B0 0 d0)) := Hd fun W h => by
  have cell : ∀ i, W.cell? ⟨bl, i, none⟩ = w.cell? ⟨bl, i, none⟩ := fun i => h.cell (a := ⟨bl, i, none⟩) hbw.1 hbw.2
  have y3 := (cell _).trans hat0.b
  rw [show (El.b (octE 0 4 f.t)).length = f.t.length from nb_len _] at y3
  exact ⟨(cell _).trans hat0.c, (cell _).trans hat0.m, (cell _).trans hat0.n, y3, (cell _).trans hat0.k⟩
 have K1 : Hid (∀ W, But p w W → W.cell? ⟨bl, off + 5, none⟩ = some (.int .i64 0) ∧ W.cell? ⟨bl, off + 6, none⟩ = some (.bool false) ∧ W.cell? ⟨bl, off + 7, none⟩ = some (.int .i64 4) ∧ W.cell? ⟨bl, off + 8, none⟩ = some (.slice A1 f.v.length c1) ∧ W.cell? ⟨bl, off + 9, none⟩ = some (.slice B1 0 d1)) := Hd fun W h => by
  have cell : ∀ i, W.cell? ⟨bl, i, none⟩ = w.cell? ⟨bl, i, none⟩ := fun i => h.cell (a := ⟨bl, i, none⟩) hbw.1 hbw.2
  have y3 := (cell _).trans hat1.b
  rw [show (El.b (octE 0 4 f.v)).length = f.v.length from nb_len _] at y3
  exact ⟨(cell _).trans hat1.c, (cell _).trans hat1.m, (cell _).trans hat1.n, y3, (cell _).trans hat1.k⟩
 have km : (f.k != 7) = true := by simpa using h7
 have CU := Hd fun W => (own14_any f.k W).mono fun en w' ⟨h1, h2⟩ => (show en = Ending.returned (.agg #[.int .i64 2, .bool true, .int .i64 f.k]) ∧ Below W.heap.size W w' from ⟨by rw [h1, km], h2⟩)
 have CU4 := Hd fun W => (universal14_any 4 W).mono fun en w' ⟨h1, h2⟩ => (show en = Ending.returned (.agg #[.int .i64 0, .bool false, .int .i64 4]) ∧ Below W.heap.size W w' from ⟨by rw [h1]; rfl, h2⟩)
 have CKI := Hd fun W => kids_any 2 f.k A (some ⟨bl, off, none⟩) c 2 dd W
 have b0 : SrcI w I A0 c0 (nb f.t) := hin0.b
 have b1 : SrcI w I A1 c1 (nb f.v) := hin1.b
 have CT := Hd fun W (hW : But p w W) => content_any 0 4 f.t I A0 B0 c0 d0 W (b0.keep fun q hq => hW.cell (hI _ hq).1 (hI _ hq).2) (fun b hb => Nat.lt_of_lt_of_le (hI b hb).1 hW.size)
 have CV := Hd fun W (hW : But p w W) => content_any 0 4 f.v I A1 B1 c1 d1 W (b1.keep fun q hq => hW.cell (hI _ hq).1 (hI _ hq).2) (fun b hb => Nat.lt_of_lt_of_le (hI b hb).1 hW.size)
 have CN := Hd fun W => (normal_any f.t W htl).mono fun en w' ⟨h1, _, h3⟩ => (show en = Ending.returned (.string (baO f.t)) ∧ Below W.heap.size W w' from ⟨h1 _ hlf.t, h3⟩)
 have CD := Hd fun W => demand_ok W
 have hfv : Value.agg #[.int .i64 f.k, .slice none 0 0, .string (baO f.t), .string (baO f.v), .string ⟨#[]⟩, .string ⟨#[]⟩, .slice none 0 0] = ftV f none 0 none 0 := by
  obtain ⟨ha, hz, hb⟩ := hlf.a h4
  unfold ftV Ft.kids
  rw [hlf.g, ha, hz, hb]
  rfl
 have hb0 : f.b = [] := (hlf.a h4).2.2
 have k0 : (f.k == 0) = false := by simpa using (by omega : ¬ f.k = 0)
 have k1 : (f.k == 1) = false := by simpa using (by omega : ¬ f.k = 1)
 have k2 : (f.k == 2) = false := by simpa using (by omega : ¬ f.k = 2)
 have k7 : (f.k == 7) = false := by simpa using h7
 have k4 : (f.k == 4) = false := by simpa using h4
 clear hat0 hat1 hk2 hin0 hin1
 replace hfv := Hd hfv
 replace hb0 := Hd hb0
 replace b0 := Hd b0
 replace b1 := Hd b1
 replace hev := Hd hev
 replace hlf := Hd hlf
 replace hone := Hd hone
 replace hnum := Hd hnum
 replace km := Hd km
 have hpl : p < w.heap.size := (Array.getElem?_eq_some_iff.1 hp).1
 obtain ⟨W0, hW0⟩ : ∃ W0, W0 = (w.alloc (.cells #[.int .i64 2, .bool true, .int .i64 f.k, .slice A 0 c, .slice (some ⟨bl, off, none⟩) 2 dd] 43)).alloc (.cells #[.int .i64 0, .slice none 0 0, .string ⟨#[]⟩, .string ⟨#[]⟩, .string ⟨#[]⟩, .string ⟨#[]⟩, .slice none 0 0] 25) := ⟨_, rfl⟩
 have hz0 : W0.heap.size = w.heap.size + 2 := by rw [hW0]; simp
 have hp0 : W0.heap[p]? = some (.cells #[.int .i64 l] 69 (0, 0)) := by rw [hW0, Below.heap_alloc _ _ _ (by simp <;> omega), Below.heap_alloc _ _ _ hpl]; exact hp
 have CE := Hd (enter_ok ⟨p, 0, none⟩ (d : Int) l W0 (by omega) (by omega) (by omega) (cell_of_row _ _ _ _ _ _ hp0) (free7 hp0 0))
 obtain ⟨W1, hW1⟩ : ∃ W1, W1 = W0.setCell ⟨p, 0, none⟩ (.int .i64 (l - 1)) := ⟨_, rfl⟩
 have hB1 : But p w W1 := by rw [hW1, hW0]; exact (But.of (((Below.refl _ _).alloc (Nat.le_refl _) _).alloc (by simp) _)).trans (But.set 0 _)
 have hz1 : W1.heap.size = w.heap.size + 2 := by rw [hW1]; simp only [World.setCell, Array.size_modify]; exact hz0
 have hp1 : W1.heap[p]? = some (.cells #[.int .i64 (l - 1)] 69 (0, 0)) := by rw [hW1]; exact set_one hp0
 have hx1 : W1.heap[w.heap.size]? = some (.cells #[.int .i64 2, .bool true, .int .i64 f.k, .slice A 0 c, .slice (some ⟨bl, off, none⟩) 2 dd] 43 (0, 0)) := by rw [hW1, Below.heap_setCell _ _ _ _ (by show w.heap.size ≠ p; omega), hW0, Below.heap_alloc _ _ _ (by simp)]; exact heap_alloc_new w _
 have hR1 : W1.heap[w.heap.size + 1]? = some (.cells #[.int .i64 0, .slice none 0 0, .string ⟨#[]⟩, .string ⟨#[]⟩, .string ⟨#[]⟩, .string ⟨#[]⟩, .slice none 0 0] 25 (0, 0)) := by rw [hW1, Below.heap_setCell _ _ _ _ (by show w.heap.size + 1 ≠ p; omega), hW0]; exact heap_alloc_new (w.alloc _) _ |> (by simpa using ·)
 have x2 := (cells5e hx1).2.2.1
 obtain ⟨W2, hW2⟩ : ∃ W2, W2 = W1.alloc (.cells #[.int .i64 f.k, .slice none 0 0, .string ⟨#[]⟩, .string ⟨#[]⟩, .string ⟨#[]⟩, .string ⟨#[]⟩, .slice none 0 0] 25) := ⟨_, rfl⟩
 have hI2 : RdI f (w.heap.size + 2) p l w W2 [] (.slice none 0 0) := by
  rw [hW2]
  refine ⟨hB1.trans (But.of ((Below.refl _ _).alloc (Nat.le_refl _) _)), ⟨hpl, by omega⟩, ?_, ?_, ?_, RowF.nil _ _ _⟩
  · rw [Below.heap_alloc _ _ _ (by omega)]; simpa [sumN, sumL] using hp1
  · rw [Below.heap_alloc _ _ _ (by omega)]; exact hR1
  · rw [← hz1]; exact heap_alloc_new W1 _
 have hx2 : W2.heap[w.heap.size]? = some (.cells #[.int .i64 2, .bool true, .int .i64 f.k, .slice A 0 c, .slice (some ⟨bl, off, none⟩) 2 dd] 43 (0, 0)) := by rw [hW2, Below.heap_alloc _ _ _ (by omega)]; exact hx1
 have y0 : (W1.alloc (.cells #[.int .i64 f.k, .slice none 0 0, .string ⟨#[]⟩, .string ⟨#[]⟩, .string ⟨#[]⟩, .string ⟨#[]⟩, .slice none 0 0] 25)).cell? ⟨w.heap.size + 2, 0, none⟩ = some (.int .i64 f.k) := by rw [← hW2]; exact cell_of_row _ _ _ _ _ _ hI2.out
 have hz2 : W2.heap.size = w.heap.size + 3 := by rw [hW2]; simp <;> omega
 obtain ⟨v0, v1, v2, v3, v4⟩ := cells5e hx2
 rw [hW2] at v0 v1 v2 v3 v4
 replace hp := Hd hp
 replace hp0 := Hd hp0
 replace hp1 := Hd hp1
 replace hx1 := Hd hx1
 replace hR1 := Hd hR1
 replace hB1 := Hd hB1
 replace hI2 := Hd hI2
 replace hx2 := Hd hx2
 replace hW2 := Hd hW2
 replace hz0 := Hd hz0
 replace hz2 := Hd hz2
 replace hs := Hd hs
 replace hI := Hd hI
 replace hel := Hd hel
 go_enter Tryz.func33, Tryz.ntmps33
 go_wp2_with fail
 rw [← hW0]
 replace hW0 := Hd hW0
 try go_wp2_with fail
 refine CE.out.mono ?_
 rintro _ w1 ⟨rfl, h1⟩
 rw [← hW1] at h1
 subst w1
 replace hW1 := Hd hW1
 dsimp only []
 rw [← hz1] at y0
 go_upto_region 4 with fail
 clear y0 v0 v1 v2 v3 v4 k0 k1 k2 k7
 rw [← hW2.out]
 have HL2 : Hid (LfI (w.heap.size + 2) p l w W2 #[.int .i64 f.k, .slice none 0 0, .string ⟨#[]⟩, .string ⟨#[]⟩, .string ⟨#[]⟩, .string ⟨#[]⟩, .slice none 0 0]) := Hd ⟨hI2.out.but, hI2.out.lt, by simpa [sumN, sumL] using hI2.out.room, hI2.out.res, hI2.out.out⟩
 have KEEP : Hid (∀ W, Below W2.heap.size W2 W → W.cell? ⟨w.heap.size, 0, none⟩ = some (.int .i64 2) ∧ W.cell? ⟨w.heap.size, 1, none⟩ = some (.bool true) ∧ W.cell? ⟨w.heap.size, 2, none⟩ = some (.int .i64 f.k) ∧ W.cell? ⟨w.heap.size, 3, none⟩ = some (.slice A 0 c) ∧ W.cell? ⟨w.heap.size, 4, none⟩ = some (.slice (some ⟨bl, off, none⟩) 2 dd) ∧ W.cell? ⟨w.heap.size + 2, 0, none⟩ = some (.int .i64 f.k)) := Hd fun W h => by
  obtain ⟨z0, z1, z2, z3, z4⟩ := cells5e ((h.block _ (Array.getElem?_eq_some_iff.1 hx2.out).1).trans hx2.out)
  obtain ⟨o0, _⟩ := cells7 ((h.block _ (Array.getElem?_eq_some_iff.1 hI2.out.out).1).trans hI2.out.out)
  exact ⟨z0, z1, z2, z3, z4, o0⟩
 refine wp_region_held_drew (S := (fun W => W.cell? ⟨w.heap.size, 0, none⟩ = some (.int .i64 2) ∧ W.cell? ⟨w.heap.size, 1, none⟩ = some (.bool true) ∧ W.cell? ⟨w.heap.size, 2, none⟩ = some (.int .i64 f.k) ∧ W.cell? ⟨w.heap.size, 3, none⟩ = some (.slice A 0 c) ∧ W.cell? ⟨w.heap.size, 4, none⟩ = some (.slice (some ⟨bl, off, none⟩) 2 dd) ∧ W.cell? ⟨w.heap.size + 2, 0, none⟩ = some (.int .i64 f.k))) (by kernel_rfl) (KEEP.out _ (Below.refl _ _).drew) ?_
 intro hHeld
 refine tk 0 20 hHeld ?_
 refine tk 1 21 hHeld ?_
 refine tk 2 22 hHeld ?_
 refine rdy [3] ?_
 refine .cons rfl (fun K hK => ?_) .nil
 go_simp
 go_at_call 65
 refine (CU.out _).mono ?_
 rintro _ u4 ⟨rfl, hu4⟩
 have HB4 := Hd (((Below.refl W2.heap.size W2).drew).trans (hu4.mono ((Below.refl W2.heap.size W2).drew).size))
 clear hu4
 dsimp only []
 refine hK.out _ _ (KEEP.out _ HB4.out) ?_
 clear hK K hHeld
 intro hHeld
 refine rdy [4] ?_
 refine .cons rfl (fun K hK => ?_) .nil
 go_simp
 go_at_call 64
 refine (CKI.out _).mono ?_
 rintro _ u5 ⟨rfl, hu5⟩
 have HB5 := Hd ((HB4.out).trans (hu5.mono (HB4.out).size))
 clear hu5
 dsimp only []
 refine hK.out _ _ (KEEP.out _ HB5.out) ?_
 clear hK K hHeld
 intro hHeld
 refine tk 5 10 hHeld ?_
 refine wpAnyH_done (by kernel_rfl) ?_ _
 obtain ⟨W4, hW4⟩ : ∃ W, W = u5 := ⟨_, rfl⟩
 have HL4 : Hid (LfI (w.heap.size + 2) p l w W4 #[.int .i64 f.k, .slice none 0 0, .string ⟨#[]⟩, .string ⟨#[]⟩, .string ⟨#[]⟩, .string ⟨#[]⟩, .slice none 0 0]) := Hd (by rw [hW4]; exact HL2.out.go HB5.out)
 rw [← hW4]
 clear hHeld KEEP
 replace hW4 := Hd hW4
 go_wp2_with fail
 refine (CD.out _).mono ?_
 rintro _ w4 ⟨rfl, h4w⟩
 subst w4
 dsimp only []
 go_upto_region 6 with fail
 refine wp_region_held_drew (S := (fun W => W.cell? ⟨bl, off, none⟩ = some (.int .i64 0) ∧ W.cell? ⟨bl, off + 1, none⟩ = some (.bool false) ∧ W.cell? ⟨bl, off + 2, none⟩ = some (.int .i64 4) ∧ W.cell? ⟨bl, off + 3, none⟩ = some (.slice A0 f.t.length c0) ∧ W.cell? ⟨bl, off + 4, none⟩ = some (.slice B0 0 d0))) (by kernel_rfl) (K0.out _ (HL4.out.go (Below.refl _ _).drew).but) ?_
 intro hHeld
 refine tk 0 29 hHeld ?_
 refine tk 1 30 hHeld ?_
 refine tk 2 31 hHeld ?_
 refine rdy [3] ?_
 refine .cons rfl (fun K hK => ?_) .nil
 go_simp
 go_at_call 68
 refine (CU4.out _).mono ?_
 rintro _ u6 ⟨rfl, hu6⟩
 have HB6 := Hd (((Below.refl W4.heap.size W4).drew).trans (hu6.mono ((Below.refl W4.heap.size W4).drew).size))
 clear hu6
 dsimp only []
 refine hK.out _ _ (K0.out _ (HL4.out.go (HB6.out)).but) ?_
 clear hK K hHeld
 intro hHeld
 refine rdy [4] ?_
 refine .cons rfl (fun K hK => ?_) .nil
 go_simp
 go_at_call 67
 refine (CT.out _ (HL4.out.go (HB6.out)).but).mono ?_
 rintro _ u7 ⟨rfl, hu7⟩
 have HB7 := Hd ((HB6.out).trans (hu7.mono (HB6.out).size))
 clear hu7
 dsimp only []
 refine hK.out _ _ (K0.out _ (HL4.out.go (HB7.out)).but) ?_
 clear hK K hHeld
 intro hHeld
 refine rdy [5] ?_
 refine .cons rfl (fun K hK => ?_) .nil
 go_simp
 go_at_call 66
 refine (CN.out _).mono ?_
 rintro _ u8 ⟨rfl, hu8⟩
 have HB8 := Hd ((HB7.out).trans (hu8.mono (HB7.out).size))
 clear hu8
 dsimp only []
 refine hK.out _ _ (K0.out _ (HL4.out.go (HB8.out)).but) ?_
 clear hK K hHeld
 intro hHeld
 refine tk 6 35 hHeld ?_
 refine rdy [7] ?_
 refine .cons rfl (fun K hK => ?_) .nil
 obtain ⟨o0, o1, o2, o3, o4, o5, o6⟩ := cells7 (HL4.out.go (HB8.out)).out
 have hf2 := free7 (HL4.out.go (HB8.out)).out 2
 obtain ⟨m0, m1, m2, m3, m4⟩ := K0.out _ (HL4.out.go (HB8.out)).but
 have hne : w.heap.size + 2 ≠ bl := by omega
 go_simp
 clear o0 o1 o2 o3 o4 o5 o6 hf2
 refine hK.out _ _ (⟨keepH m0 hne, keepH m1 hne, keepH m2 hne, keepH m3 hne, keepH m4 hne⟩) ?_
 clear hK K hHeld
 intro hHeld
 refine wpAnyH_done (by kernel_rfl) ?_ _
 obtain ⟨W6, hW6⟩ : ∃ W, W = u8.setCell ⟨w.heap.size + 2, 2, none⟩ (.string (baO f.t)) := ⟨_, rfl⟩
 have HL6 : Hid (LfI (w.heap.size + 2) p l w W6 #[.int .i64 f.k, .slice none 0 0, .string (baO f.t), .string ⟨#[]⟩, .string ⟨#[]⟩, .string ⟨#[]⟩, .slice none 0 0]) := Hd (by rw [hW6]; exact (HL4.out.go (HB8.out)).set 2 _)
 rw [← hW6]
 clear hHeld m0 m1 m2 m3 m4 hne
 replace hW6 := Hd hW6
 obtain ⟨o0, _⟩ := cells7 HL6.out.out
 go_upto_region 9 with fail
 clear o0 k4
 refine wp_region_held_drew (S := (fun W => W.cell? ⟨bl, off + 5, none⟩ = some (.int .i64 0) ∧ W.cell? ⟨bl, off + 6, none⟩ = some (.bool false) ∧ W.cell? ⟨bl, off + 7, none⟩ = some (.int .i64 4) ∧ W.cell? ⟨bl, off + 8, none⟩ = some (.slice A1 f.v.length c1) ∧ W.cell? ⟨bl, off + 9, none⟩ = some (.slice B1 0 d1))) (by kernel_rfl) (K1.out _ (HL6.out.go (Below.refl _ _).drew).but) ?_
 intro hHeld
 refine tk 0 45 hHeld ?_
 refine tk 1 46 hHeld ?_
 refine tk 2 47 hHeld ?_
 refine rdy [3] ?_
 refine .cons rfl (fun K hK => ?_) .nil
 go_simp
 go_at_call 68
 refine (CU4.out _).mono ?_
 rintro _ u9 ⟨rfl, hu9⟩
 have HB9 := Hd (((Below.refl W6.heap.size W6).drew).trans (hu9.mono ((Below.refl W6.heap.size W6).drew).size))
 clear hu9
 dsimp only []
 refine hK.out _ _ (K1.out _ (HL6.out.go (HB9.out)).but) ?_
 clear hK K hHeld
 intro hHeld
 refine rdy [4] ?_
 refine .cons rfl (fun K hK => ?_) .nil
 go_simp
 go_at_call 67
 refine (CV.out _ (HL6.out.go (HB9.out)).but).mono ?_
 rintro _ u10 ⟨rfl, hu10⟩
 have HB10 := Hd ((HB9.out).trans (hu10.mono (HB9.out).size))
 clear hu10
 dsimp only []
 refine hK.out _ _ (K1.out _ (HL6.out.go (HB10.out)).but) ?_
 clear hK K hHeld
 intro hHeld
 refine tk 5 50 hHeld ?_
 refine rdy [6] ?_
 refine .cons rfl (fun K hK => ?_) .nil
 obtain ⟨o0, o1, o2, o3, o4, o5, o6⟩ := cells7 (HL6.out.go (HB10.out)).out
 have hf2 := free7 (HL6.out.go (HB10.out)).out 3
 obtain ⟨m0, m1, m2, m3, m4⟩ := K1.out _ (HL6.out.go (HB10.out)).but
 have hne : w.heap.size + 2 ≠ bl := by omega
 go_simp
 clear o0 o1 o2 o3 o4 o5 o6 hf2
 refine hK.out _ _ (⟨keepH m0 hne, keepH m1 hne, keepH m2 hne, keepH m3 hne, keepH m4 hne⟩) ?_
 clear hK K hHeld
 intro hHeld
 refine wpAnyH_done (by kernel_rfl) ?_ _
 obtain ⟨W3, hW3⟩ : ∃ W3, W3 = u10.setCell ⟨w.heap.size + 2, 3, none⟩ (.string (baO f.v)) := ⟨_, rfl⟩
 have H3 : Hid (LfI (w.heap.size + 2) p l w W3 #[.int .i64 f.k, .slice none 0 0, .string (baO f.t), .string (baO f.v), .string ⟨#[]⟩, .string ⟨#[]⟩, .slice none 0 0]) := Hd (by rw [hW3]; exact (HL6.out.go (HB10.out)).set 3 _)
 have hSb : Hid (SrcS W3 (New (w.heap.size + 3) W3) none 0 f.b) := Hd (by rw [hb0.out]; exact SrcS.none_ _ _)
 rw [← hW3]
 replace hW3 := Hd hW3
 clear hHeld m0 m1 m2 m3 m4 hne
 have hfv0 := hfv.out
 clear hfv
 obtain ⟨o0, o1, o2, o3, o4, o5, o6⟩ := cells7 H3.out.out
 have hfv : Value.agg #[.int .i64 f.k, .slice none 0 0, .string (baO f.t), .string (baO f.v), .string ⟨#[]⟩, .string ⟨#[]⟩, .slice none 0 0] = ftV f none 0 (none) (0) := by
  exact hfv0
 have CC := (check14_any f none 0 (none) (0) W3 htl (hSb.out.more fun b hb => hb.2.lt)).mono fun en w' (h : _) => (⟨by rw [h.1]; exact okIf_yes hone.out, h.2⟩ : en = .returned (.tuple #[]) ∧ Below W3.heap.size W3 w')
 rw [← hfv] at CC
 replace CC := Hd CC
 replace hfv := Hd hfv
 clear hfv0
 go_wp2_with fail
 refine CC.out.mono ?_
 rintro _ w5 ⟨rfl, hb5⟩
 have HI5 := H3.out.go hb5
 have hR5 := HI5.res
 have hX5 := HI5.out
 obtain ⟨p0, p1, p2, p3, p4, p5, p6⟩ := cells7 hX5
 have hS5 : SrcS w5 (New (w.heap.size + 3) w5) (none) (0) f.b := (hSb.out.keep fun q hq => hb5.cell hq.2.lt).more fun b hb => ⟨hb.1, hb.2.below hb5 hb.2.lt⟩
 have hps := (Array.getElem?_eq_some_iff.1 HI5.res).1
 have hlt5 := HI5.lt
 have hroom5 := HI5.room
 have hbut5 := HI5.but
 replace hS5 := Hd hS5
 replace hroom5 := Hd hroom5
 replace hbut5 := Hd hbut5
 replace hb5 := Hd hb5
 replace HI5 := Hd HI5
 clear o0 o1 o2 o3 o4 o5 o6
 dsimp only []
 obtain ⟨r0, r1, r2, r3, r4, r5, r6⟩ := cells7 (hR5)
 have f0 := free7 (hR5) 0
 have f1 := free7 (hR5) 1
 have f2 := free7 (hR5) 2
 have f3 := free7 (hR5) 3
 have f4 := free7 (hR5) 4
 have f5 := free7 (hR5) 5
 have f6 := free7 (hR5) 6
 replace hR5 := Hd hR5
 replace hX5 := Hd hX5
 go_wp2_with fail
 have HC := Hd (set7_same (hR5.out) (.int .i64 f.k) (.slice none 0 0) (.string (baO f.t)) (.string (baO f.v)) (.string ⟨#[]⟩) (.string ⟨#[]⟩) (.slice none 0 0))
 have HN := Hd (fun k (hk : k ≠ w.heap.size + 1) => set7_other (w := w5) (b := w.heap.size + 1) (.int .i64 f.k) (.slice none 0 0) (.string (baO f.t)) (.string (baO f.v)) (.string ⟨#[]⟩) (.string ⟨#[]⟩) (.slice none 0 0) hk)
 have HL := Hd (but_set7 (hbut5.out) (R := w.heap.size + 1) (by omega) (.int .i64 f.k) (.slice none 0 0) (.string (baO f.t)) (.string (baO f.v)) (.string ⟨#[]⟩) (.string ⟨#[]⟩) (.slice none 0 0))
 have HX : set7 w5 (w.heap.size + 1) (.int .i64 f.k) (.slice none 0 0) (.string (baO f.t)) (.string (baO f.v)) (.string ⟨#[]⟩) (.string ⟨#[]⟩) (.slice none 0 0) = (((((((w5.setCell ⟨w.heap.size + 1, 0, none⟩ (.int .i64 f.k)).setCell ⟨w.heap.size + 1, 1, none⟩ (.slice none 0 0)).setCell ⟨w.heap.size + 1, 2, none⟩ (.string (baO f.t))).setCell ⟨w.heap.size + 1, 3, none⟩ (.string (baO f.v))).setCell ⟨w.heap.size + 1, 4, none⟩ (.string ⟨#[]⟩)).setCell ⟨w.heap.size + 1, 5, none⟩ (.string ⟨#[]⟩)).setCell ⟨w.heap.size + 1, 6, none⟩ (.slice none 0 0)) := rfl
 rw [← HX]
 obtain ⟨W9, hW9⟩ : ∃ W9, W9 = set7 w5 (w.heap.size + 1) (.int .i64 f.k) (.slice none 0 0) (.string (baO f.t)) (.string (baO f.v)) (.string ⟨#[]⟩) (.string ⟨#[]⟩) (.slice none 0 0) := ⟨_, rfl⟩
 rw [← hW9] at HC HN HL ⊢
 clear HX hW9 r0 r1 r2 r3 r4 r5 r6 f0 f1 f2 f3 f4 f5 f6
 obtain ⟨v0, v1, v2, v3, v4, v5, v6⟩ := cells7 HC.out
 exact bodyPost_ret (v := .agg #[.int .i64 f.k, .slice none 0 0, .string (baO f.t), .string (baO f.v), .string ⟨#[]⟩, .string ⟨#[]⟩, .slice none 0 0]) (by simp [results, Tryz.results33, go_sem, v0, v1, v2, v3, v4, v5, v6]) rfl (⟨none, 0, none, 0, congrArg Ending.returned hfv.out, (FtIn.set ⟨by rw [hlf.out.g]; exact ⟨Nat.le_refl _, by omega, fun _ => rfl, fun _ e => by cases e⟩, hS5.out⟩ HN.out (by omega)).more fun b hb => hb.mono (by omega) b, (HN.out p (by omega)).trans (by rw [show l - (f.num : Int) = l - 1 by rw [hnum.out]; rfl]; exact hroom5.out), HL.out⟩)
end Go.Proofs.YtcbiedonmibfaaaGreatDoor
namespace Go.Proofs.YtcbiedonmibfaaaGreatDoor
open Go.RowKit Go.Lib
theorem read_leaf4 (f : Ft) (hfk : f.k = 4) (hP : f.parts.length ≤ 4000) (hone : f.one = true) (htl : f.t.length ≤ 9500) (d : Nat) (hd : d ≤ 10) (l : Int) (hnl : 1 ≤ l) (hl : l ≤ 64) (p : Nat) (I : Nat → Prop) (A : Option Addr) (c : Nat) (B : Option Addr) (dd : Nat) (w : World) (hs : ElIn w I f.el A c B dd)
 (hI : ∀ b, I b → b < w.heap.size ∧ b ≠ p) (hp : w.heap[p]? = some (.cells #[.int .i64 l] 69 (0, 0))) :
 Calls Tryz.prog 33 #[.pointer (some ⟨p, 0, none⟩), elV f.el A c B dd, .int .i64 (d : Int)] w (RdP f p l w) := by
 have h3 : ¬ f.k < 3 := by omega
 have h7 : f.k ≠ 7 := by omega
 have hel : f.el = ⟨2, true, f.k, [], Fo.of [octE 0 4 f.t, ⟨0, true, 16, [], Fo.of f.parts⟩]⟩ := by rw [el_two h3 h7]; unfold Ft.snd; rw [if_pos hfk]
 have hlf := leaf_ok hone h3
 have hnum : f.num = 1 := by unfold Ft.num; rw [hlf.g]; rfl
 rw [hel] at hs
 have hev : elV f.el A c B dd = .agg #[.int .i64 2, .bool true, .int .i64 f.k, .slice A 0 c, .slice B 2 dd] := by
  rw [hel]
  rfl
 rw [hev]
 obtain ⟨bl, off, hBv, hIb, hk2⟩ := hs.kid (by show 0 < 2; omega)
 obtain ⟨A0, c0, B0, d0, hat0, hin0⟩ := hk2 0 (by show 0 < 2; omega)
 obtain ⟨A1, c1, B1, d1, hat1, hin1⟩ := hk2 1 (by show 1 < 2; omega)
 replace hat0 : ElAt w I (octE 0 4 f.t) bl off A0 c0 B0 d0 := hat0
 replace hin0 : ElIn w I (octE 0 4 f.t) A0 c0 B0 d0 := hin0
 replace hat1 : ElAt w I ⟨0, true, 16, [], Fo.of f.parts⟩ bl (off + 5) A1 c1 B1 d1 := hat1
 replace hin1 : ElIn w I ⟨0, true, 16, [], Fo.of f.parts⟩ A1 c1 B1 d1 := hin1
 have hd2 : 2 ≤ dd := hs.k.le
 subst hBv
 have hbw := hI bl hIb
 have K0 : Hid (∀ W, But p w W → W.cell? ⟨bl, off, none⟩ = some (.int .i64 0) ∧ W.cell? ⟨bl, off + 1, none⟩ = some (.bool false) ∧ W.cell? ⟨bl, off + 2, none⟩ = some (.int .i64 4) ∧ W.cell? ⟨bl, off + 3, none⟩ = some (.slice A0 f.t.length c0) ∧ W.cell? ⟨bl, off + 4, none⟩ = some (.slice B0 0 d0)) := Hd fun W h => by
  have cell : ∀ i, W.cell? ⟨bl, i, none⟩ = w.cell? ⟨bl, i, none⟩ := fun i => h.cell (a := ⟨bl, i, none⟩) hbw.1 hbw.2
  have y3 := (cell _).trans hat0.b
  rw [show (El.b (octE 0 4 f.t)).length = f.t.length from nb_len _] at y3
  exact ⟨(cell _).trans hat0.c, (cell _).trans hat0.m, (cell _).trans hat0.n, y3, (cell _).trans hat0.k⟩
 have K1 : Hid (∀ W, But p w W → W.cell? ⟨bl, off + 5, none⟩ = some (.int .i64 0) ∧ W.cell? ⟨bl, off + 6, none⟩ = some (.bool true) ∧ W.cell? ⟨bl, off + 7, none⟩ = some (.int .i64 16) ∧ W.cell? ⟨bl, off + 8, none⟩ = some (.slice A1 0 c1) ∧ W.cell? ⟨bl, off + 9, none⟩ = some (.slice B1 f.parts.length d1)) := Hd fun W h => by
  have cell : ∀ i, W.cell? ⟨bl, i, none⟩ = w.cell? ⟨bl, i, none⟩ := fun i => h.cell (a := ⟨bl, i, none⟩) hbw.1 hbw.2
  have y4 := (cell _).trans hat1.k
  rw [show (El.kids ⟨0, true, 16, [], Fo.of f.parts⟩).length = f.parts.length by show (Fo.of f.parts).list.length = _; rw [Fo.list_of]] at y4
  exact ⟨(cell _).trans hat1.c, (cell _).trans hat1.m, (cell _).trans hat1.n, (cell _).trans hat1.b, y4⟩
 have km : (f.k != 7) = true := by simpa using h7
 have CU := Hd fun W => (own14_any f.k W).mono fun en w' ⟨h1, h2⟩ => (show en = Ending.returned (.agg #[.int .i64 2, .bool true, .int .i64 f.k]) ∧ Below W.heap.size W w' from ⟨by rw [h1, km], h2⟩)
 have CU4 := Hd fun W => (universal14_any 4 W).mono fun en w' ⟨h1, h2⟩ => (show en = Ending.returned (.agg #[.int .i64 0, .bool false, .int .i64 4]) ∧ Below W.heap.size W w' from ⟨by rw [h1]; rfl, h2⟩)
 have CU16 := Hd fun W => (universal14_any 16 W).mono fun en w' ⟨h1, h2⟩ => (show en = Ending.returned (.agg #[.int .i64 0, .bool true, .int .i64 16]) ∧ Below W.heap.size W w' from ⟨by rw [h1]; rfl, h2⟩)
 have CK2 := Hd fun W => kids_any 0 16 A1 B1 c1 f.parts.length d1 W
 have CKI := Hd fun W => kids_any 2 f.k A (some ⟨bl, off, none⟩) c 2 dd W
 have b0 : SrcI w I A0 c0 (nb f.t) := hin0.b
 have b1 : SlI w I B1 d1 (Fo.of f.parts) := hin1.k
 have CT := Hd fun W (hW : But p w W) => content_any 0 4 f.t I A0 B0 c0 d0 W (b0.keep fun q hq => hW.cell (hI _ hq).1 (hI _ hq).2) (fun b hb => Nat.lt_of_lt_of_le (hI b hb).1 hW.size)
 have CV := Hd fun W (hW : But p w W) (hX : W.heap[w.heap.size + 2]? = some (.cells #[.int .i64 f.k, .slice none 0 0, .string (baO f.t), .string ⟨#[]⟩, .string ⟨#[]⟩, .string ⟨#[]⟩, .slice none 0 0] 25 (0, 0))) =>
  readParts_any f (w.heap.size + 2) I B1 d1 W (b1.keep fun q hq => hW.cell (hI _ hq).1 (hI _ hq).2) (fun b hb => ⟨Nat.lt_of_lt_of_le (hI b hb).1 hW.size, by have := (hI b hb).1; omega⟩) (hlf.b hfk) hP (by rw [hfk] at hX; exact hX)
 have CN := Hd fun W => (normal_any f.t W htl).mono fun en w' ⟨h1, _, h3⟩ => (show en = Ending.returned (.string (baO f.t)) ∧ Below W.heap.size W w' from ⟨h1 _ hlf.t, h3⟩)
 have CD := Hd fun W => demand_ok W
 have hfv : ∀ (Ab : Option Addr) (cb : Nat), Value.agg #[.int .i64 4, .slice none 0 0, .string (baO f.t), .string ⟨#[]⟩, .string (baO f.a), .string (baO f.z), .slice Ab f.b.length cb] = ftV f none 0 Ab cb := fun Ab cb => by
  unfold ftV Ft.kids
  rw [hlf.g, hlf.v4 hfk, hfk]
  rfl
 have k0 : (f.k == 0) = false := by simpa using (by omega : ¬ f.k = 0)
 have k1 : (f.k == 1) = false := by simpa using (by omega : ¬ f.k = 1)
 have k2 : (f.k == 2) = false := by simpa using (by omega : ¬ f.k = 2)
 have k7 : (f.k == 7) = false := by simpa using h7
 have k4 : (f.k == 4) = true := by simpa using hfk
 clear hat0 hat1 hk2 hin0 hin1
 replace hfv := Hd hfv
 replace hfk := Hd hfk
 replace b0 := Hd b0
 replace b1 := Hd b1
 replace hev := Hd hev
 replace hlf := Hd hlf
 replace hone := Hd hone
 replace hnum := Hd hnum
 replace km := Hd km
 have hpl : p < w.heap.size := (Array.getElem?_eq_some_iff.1 hp).1
 obtain ⟨W0, hW0⟩ : ∃ W0, W0 = (w.alloc (.cells #[.int .i64 2, .bool true, .int .i64 f.k, .slice A 0 c, .slice (some ⟨bl, off, none⟩) 2 dd] 43)).alloc (.cells #[.int .i64 0, .slice none 0 0, .string ⟨#[]⟩, .string ⟨#[]⟩, .string ⟨#[]⟩, .string ⟨#[]⟩, .slice none 0 0] 25) := ⟨_, rfl⟩
 have hz0 : W0.heap.size = w.heap.size + 2 := by rw [hW0]; simp
 have hp0 : W0.heap[p]? = some (.cells #[.int .i64 l] 69 (0, 0)) := by rw [hW0, Below.heap_alloc _ _ _ (by simp <;> omega), Below.heap_alloc _ _ _ hpl]; exact hp
 have CE := Hd (enter_ok ⟨p, 0, none⟩ (d : Int) l W0 (by omega) (by omega) (by omega) (cell_of_row _ _ _ _ _ _ hp0) (free7 hp0 0))
 obtain ⟨W1, hW1⟩ : ∃ W1, W1 = W0.setCell ⟨p, 0, none⟩ (.int .i64 (l - 1)) := ⟨_, rfl⟩
 have hB1 : But p w W1 := by rw [hW1, hW0]; exact (But.of (((Below.refl _ _).alloc (Nat.le_refl _) _).alloc (by simp) _)).trans (But.set 0 _)
 have hz1 : W1.heap.size = w.heap.size + 2 := by rw [hW1]; simp only [World.setCell, Array.size_modify]; exact hz0
 have hp1 : W1.heap[p]? = some (.cells #[.int .i64 (l - 1)] 69 (0, 0)) := by rw [hW1]; exact set_one hp0
 have hx1 : W1.heap[w.heap.size]? = some (.cells #[.int .i64 2, .bool true, .int .i64 f.k, .slice A 0 c, .slice (some ⟨bl, off, none⟩) 2 dd] 43 (0, 0)) := by rw [hW1, Below.heap_setCell _ _ _ _ (by show w.heap.size ≠ p; omega), hW0, Below.heap_alloc _ _ _ (by simp)]; exact heap_alloc_new w _
 have hR1 : W1.heap[w.heap.size + 1]? = some (.cells #[.int .i64 0, .slice none 0 0, .string ⟨#[]⟩, .string ⟨#[]⟩, .string ⟨#[]⟩, .string ⟨#[]⟩, .slice none 0 0] 25 (0, 0)) := by rw [hW1, Below.heap_setCell _ _ _ _ (by show w.heap.size + 1 ≠ p; omega), hW0]; exact heap_alloc_new (w.alloc _) _ |> (by simpa using ·)
 have x2 := (cells5e hx1).2.2.1
 obtain ⟨W2, hW2⟩ : ∃ W2, W2 = W1.alloc (.cells #[.int .i64 f.k, .slice none 0 0, .string ⟨#[]⟩, .string ⟨#[]⟩, .string ⟨#[]⟩, .string ⟨#[]⟩, .slice none 0 0] 25) := ⟨_, rfl⟩
 have hI2 : RdI f (w.heap.size + 2) p l w W2 [] (.slice none 0 0) := by
  rw [hW2]
  refine ⟨hB1.trans (But.of ((Below.refl _ _).alloc (Nat.le_refl _) _)), ⟨hpl, by omega⟩, ?_, ?_, ?_, RowF.nil _ _ _⟩
  · rw [Below.heap_alloc _ _ _ (by omega)]; simpa [sumN, sumL] using hp1
  · rw [Below.heap_alloc _ _ _ (by omega)]; exact hR1
  · rw [← hz1]; exact heap_alloc_new W1 _
 have hx2 : W2.heap[w.heap.size]? = some (.cells #[.int .i64 2, .bool true, .int .i64 f.k, .slice A 0 c, .slice (some ⟨bl, off, none⟩) 2 dd] 43 (0, 0)) := by rw [hW2, Below.heap_alloc _ _ _ (by omega)]; exact hx1
 have y0 : (W1.alloc (.cells #[.int .i64 f.k, .slice none 0 0, .string ⟨#[]⟩, .string ⟨#[]⟩, .string ⟨#[]⟩, .string ⟨#[]⟩, .slice none 0 0] 25)).cell? ⟨w.heap.size + 2, 0, none⟩ = some (.int .i64 f.k) := by rw [← hW2]; exact cell_of_row _ _ _ _ _ _ hI2.out
 have hz2 : W2.heap.size = w.heap.size + 3 := by rw [hW2]; simp <;> omega
 obtain ⟨v0, v1, v2, v3, v4⟩ := cells5e hx2
 rw [hW2] at v0 v1 v2 v3 v4
 replace hp := Hd hp
 replace hp0 := Hd hp0
 replace hp1 := Hd hp1
 replace hx1 := Hd hx1
 replace hR1 := Hd hR1
 replace hB1 := Hd hB1
 replace hI2 := Hd hI2
 replace hx2 := Hd hx2
 replace hW2 := Hd hW2
 replace hz0 := Hd hz0
 replace hz2 := Hd hz2
 replace hs := Hd hs
 replace hI := Hd hI
 replace hel := Hd hel
 go_enter Tryz.func33, Tryz.ntmps33
 go_wp2_with fail
 rw [← hW0]
 replace hW0 := Hd hW0
 try go_wp2_with fail
 refine CE.out.mono ?_
 rintro _ w1 ⟨rfl, h1⟩
 rw [← hW1] at h1
 subst w1
 replace hW1 := Hd hW1
 dsimp only []
 rw [← hz1] at y0
 go_upto_region 4 with fail
 clear y0 v0 v1 v2 v3 v4 k0 k1 k2 k7
 rw [← hW2.out]
 have HL2 : Hid (LfI (w.heap.size + 2) p l w W2 #[.int .i64 f.k, .slice none 0 0, .string ⟨#[]⟩, .string ⟨#[]⟩, .string ⟨#[]⟩, .string ⟨#[]⟩, .slice none 0 0]) := Hd ⟨hI2.out.but, hI2.out.lt, by simpa [sumN, sumL] using hI2.out.room, hI2.out.res, hI2.out.out⟩
 have KEEP : Hid (∀ W, Below W2.heap.size W2 W → W.cell? ⟨w.heap.size, 0, none⟩ = some (.int .i64 2) ∧ W.cell? ⟨w.heap.size, 1, none⟩ = some (.bool true) ∧ W.cell? ⟨w.heap.size, 2, none⟩ = some (.int .i64 f.k) ∧ W.cell? ⟨w.heap.size, 3, none⟩ = some (.slice A 0 c) ∧ W.cell? ⟨w.heap.size, 4, none⟩ = some (.slice (some ⟨bl, off, none⟩) 2 dd) ∧ W.cell? ⟨w.heap.size + 2, 0, none⟩ = some (.int .i64 f.k)) := Hd fun W h => by
  obtain ⟨z0, z1, z2, z3, z4⟩ := cells5e ((h.block _ (Array.getElem?_eq_some_iff.1 hx2.out).1).trans hx2.out)
  obtain ⟨o0, _⟩ := cells7 ((h.block _ (Array.getElem?_eq_some_iff.1 hI2.out.out).1).trans hI2.out.out)
  exact ⟨z0, z1, z2, z3, z4, o0⟩
 refine wp_region_held_drew (S := (fun W => W.cell? ⟨w.heap.size, 0, none⟩ = some (.int .i64 2) ∧ W.cell? ⟨w.heap.size, 1, none⟩ = some (.bool true) ∧ W.cell? ⟨w.heap.size, 2, none⟩ = some (.int .i64 f.k) ∧ W.cell? ⟨w.heap.size, 3, none⟩ = some (.slice A 0 c) ∧ W.cell? ⟨w.heap.size, 4, none⟩ = some (.slice (some ⟨bl, off, none⟩) 2 dd) ∧ W.cell? ⟨w.heap.size + 2, 0, none⟩ = some (.int .i64 f.k))) (by kernel_rfl) (KEEP.out _ (Below.refl _ _).drew) ?_
 intro hHeld
 refine tk 0 20 hHeld ?_
 refine tk 1 21 hHeld ?_
 refine tk 2 22 hHeld ?_
 refine rdy [3] ?_
 refine .cons rfl (fun K hK => ?_) .nil
 go_simp
 go_at_call 65
 refine (CU.out _).mono ?_
 rintro _ u11 ⟨rfl, hu11⟩
 have HB11 := Hd (((Below.refl W2.heap.size W2).drew).trans (hu11.mono ((Below.refl W2.heap.size W2).drew).size))
 clear hu11
 dsimp only []
 refine hK.out _ _ (KEEP.out _ HB11.out) ?_
 clear hK K hHeld
 intro hHeld
 refine rdy [4] ?_
 refine .cons rfl (fun K hK => ?_) .nil
 go_simp
 go_at_call 64
 refine (CKI.out _).mono ?_
 rintro _ u12 ⟨rfl, hu12⟩
 have HB12 := Hd ((HB11.out).trans (hu12.mono (HB11.out).size))
 clear hu12
 dsimp only []
 refine hK.out _ _ (KEEP.out _ HB12.out) ?_
 clear hK K hHeld
 intro hHeld
 refine tk 5 10 hHeld ?_
 refine wpAnyH_done (by kernel_rfl) ?_ _
 obtain ⟨W4, hW4⟩ : ∃ W, W = u12 := ⟨_, rfl⟩
 have HL4 : Hid (LfI (w.heap.size + 2) p l w W4 #[.int .i64 f.k, .slice none 0 0, .string ⟨#[]⟩, .string ⟨#[]⟩, .string ⟨#[]⟩, .string ⟨#[]⟩, .slice none 0 0]) := Hd (by rw [hW4]; exact HL2.out.go HB12.out)
 rw [← hW4]
 clear hHeld KEEP
 replace hW4 := Hd hW4
 go_wp2_with fail
 refine (CD.out _).mono ?_
 rintro _ w4 ⟨rfl, h4w⟩
 subst w4
 dsimp only []
 go_upto_region 6 with fail
 refine wp_region_held_drew (S := (fun W => W.cell? ⟨bl, off, none⟩ = some (.int .i64 0) ∧ W.cell? ⟨bl, off + 1, none⟩ = some (.bool false) ∧ W.cell? ⟨bl, off + 2, none⟩ = some (.int .i64 4) ∧ W.cell? ⟨bl, off + 3, none⟩ = some (.slice A0 f.t.length c0) ∧ W.cell? ⟨bl, off + 4, none⟩ = some (.slice B0 0 d0))) (by kernel_rfl) (K0.out _ (HL4.out.go (Below.refl _ _).drew).but) ?_
 intro hHeld
 refine tk 0 29 hHeld ?_
 refine tk 1 30 hHeld ?_
 refine tk 2 31 hHeld ?_
 refine rdy [3] ?_
 refine .cons rfl (fun K hK => ?_) .nil
 go_simp
 go_at_call 68
 refine (CU4.out _).mono ?_
 rintro _ u13 ⟨rfl, hu13⟩
 have HB13 := Hd (((Below.refl W4.heap.size W4).drew).trans (hu13.mono ((Below.refl W4.heap.size W4).drew).size))
 clear hu13
 dsimp only []
 refine hK.out _ _ (K0.out _ (HL4.out.go (HB13.out)).but) ?_
 clear hK K hHeld
 intro hHeld
 refine rdy [4] ?_
 refine .cons rfl (fun K hK => ?_) .nil
 go_simp
 go_at_call 67
 refine (CT.out _ (HL4.out.go (HB13.out)).but).mono ?_
 rintro _ u14 ⟨rfl, hu14⟩
 have HB14 := Hd ((HB13.out).trans (hu14.mono (HB13.out).size))
 clear hu14
 dsimp only []
 refine hK.out _ _ (K0.out _ (HL4.out.go (HB14.out)).but) ?_
 clear hK K hHeld
 intro hHeld
 refine rdy [5] ?_
 refine .cons rfl (fun K hK => ?_) .nil
 go_simp
 go_at_call 66
 refine (CN.out _).mono ?_
 rintro _ u15 ⟨rfl, hu15⟩
 have HB15 := Hd ((HB14.out).trans (hu15.mono (HB14.out).size))
 clear hu15
 dsimp only []
 refine hK.out _ _ (K0.out _ (HL4.out.go (HB15.out)).but) ?_
 clear hK K hHeld
 intro hHeld
 refine tk 6 35 hHeld ?_
 refine rdy [7] ?_
 refine .cons rfl (fun K hK => ?_) .nil
 obtain ⟨o0, o1, o2, o3, o4, o5, o6⟩ := cells7 (HL4.out.go (HB15.out)).out
 have hf2 := free7 (HL4.out.go (HB15.out)).out 2
 obtain ⟨m0, m1, m2, m3, m4⟩ := K0.out _ (HL4.out.go (HB15.out)).but
 have hne : w.heap.size + 2 ≠ bl := by omega
 go_simp
 clear o0 o1 o2 o3 o4 o5 o6 hf2
 refine hK.out _ _ (⟨keepH m0 hne, keepH m1 hne, keepH m2 hne, keepH m3 hne, keepH m4 hne⟩) ?_
 clear hK K hHeld
 intro hHeld
 refine wpAnyH_done (by kernel_rfl) ?_ _
 obtain ⟨W6, hW6⟩ : ∃ W, W = u15.setCell ⟨w.heap.size + 2, 2, none⟩ (.string (baO f.t)) := ⟨_, rfl⟩
 have HL6 : Hid (LfI (w.heap.size + 2) p l w W6 #[.int .i64 f.k, .slice none 0 0, .string (baO f.t), .string ⟨#[]⟩, .string ⟨#[]⟩, .string ⟨#[]⟩, .slice none 0 0]) := Hd (by rw [hW6]; exact (HL4.out.go (HB15.out)).set 2 _)
 rw [← hW6]
 clear hHeld m0 m1 m2 m3 m4 hne
 replace hW6 := Hd hW6
 obtain ⟨o0, _⟩ := cells7 HL6.out.out
 go_upto_region 8 with fail
 clear o0 k4
 refine wp_region_held_drew (S := (fun W => W.cell? ⟨bl, off + 5, none⟩ = some (.int .i64 0) ∧ W.cell? ⟨bl, off + 6, none⟩ = some (.bool true) ∧ W.cell? ⟨bl, off + 7, none⟩ = some (.int .i64 16) ∧ W.cell? ⟨bl, off + 8, none⟩ = some (.slice A1 0 c1) ∧ W.cell? ⟨bl, off + 9, none⟩ = some (.slice B1 f.parts.length d1))) (by kernel_rfl) (K1.out _ (HL6.out.go (Below.refl _ _).drew).but) ?_
 intro hHeld
 refine tk 0 39 hHeld ?_
 refine tk 1 40 hHeld ?_
 refine tk 2 41 hHeld ?_
 refine rdy [3] ?_
 refine .cons rfl (fun K hK => ?_) .nil
 go_simp
 go_at_call 68
 refine (CU16.out _).mono ?_
 rintro _ u16 ⟨rfl, hu16⟩
 have HB16 := Hd (((Below.refl W6.heap.size W6).drew).trans (hu16.mono ((Below.refl W6.heap.size W6).drew).size))
 clear hu16
 dsimp only []
 refine hK.out _ _ (K1.out _ (HL6.out.go (HB16.out)).but) ?_
 clear hK K hHeld
 intro hHeld
 refine rdy [4] ?_
 refine .cons rfl (fun K hK => ?_) .nil
 go_simp
 go_at_call 64
 refine (CK2.out _).mono ?_
 rintro _ u17 ⟨rfl, hu17⟩
 have HB17 := Hd ((HB16.out).trans (hu17.mono (HB16.out).size))
 clear hu17
 dsimp only []
 refine hK.out _ _ (K1.out _ (HL6.out.go (HB17.out)).but) ?_
 clear hK K hHeld
 intro hHeld
 refine rdy [5] ?_
 refine .cons rfl (fun K hK => ?_) .nil
 have hX7 := (HL6.out.go (HB17.out)).out
 have hsz7 := (Array.getElem?_eq_some_iff.1 hX7).1
 replace hX7 := Hd hX7
 go_simp
 go_at_call 69
 refine (CV.out _ (HL6.out.go (HB17.out)).but hX7.out).mono ?_
 rintro _ u18 ⟨rfl, Ab, cb, hX8, hS8, hb8⟩
 have H3 := Hd ((HL6.out.go (HB17.out)).at_ hb8 hX8)
 have hSb : Hid (SrcS u18 (New (w.heap.size + 3) u18) Ab cb f.b) := Hd (hS8.more fun b hb => hb.mono (by omega) b)
 clear hX8 hS8 hb8
 dsimp only []
 refine hK.out _ _ (K1.out _ H3.out.but) ?_
 clear hK K hHeld
 intro hHeld
 refine wpAnyH_done (by kernel_rfl) ?_ _
 obtain ⟨W3, hW3⟩ : ∃ W3, W3 = u18 := ⟨_, rfl⟩
 rw [← hW3] at H3 hSb
 rw [← hW3]
 replace hW3 := Hd hW3
 clear hHeld
 have hfv0 := hfv.out Ab cb
 clear hfv
 obtain ⟨o0, o1, o2, o3, o4, o5, o6⟩ := cells7 H3.out.out
 have hfv : Value.agg #[.int .i64 4, .slice none 0 0, .string (baO f.t), .string ⟨#[]⟩, .string (baO f.a), .string (baO f.z), .slice Ab f.b.length cb] = ftV f none 0 (Ab) (cb) := by
  exact hfv0
 have CC := (check14_any f none 0 (Ab) (cb) W3 htl (hSb.out.more fun b hb => hb.2.lt)).mono fun en w' (h : _) => (⟨by rw [h.1]; exact okIf_yes hone.out, h.2⟩ : en = .returned (.tuple #[]) ∧ Below W3.heap.size W3 w')
 rw [← hfv] at CC
 replace CC := Hd CC
 replace hfv := Hd hfv
 clear hfv0
 go_wp2_with fail
 refine CC.out.mono ?_
 rintro _ w5 ⟨rfl, hb5⟩
 have HI5 := H3.out.go hb5
 have hR5 := HI5.res
 have hX5 := HI5.out
 obtain ⟨p0, p1, p2, p3, p4, p5, p6⟩ := cells7 hX5
 have hS5 : SrcS w5 (New (w.heap.size + 3) w5) (Ab) (cb) f.b := (hSb.out.keep fun q hq => hb5.cell hq.2.lt).more fun b hb => ⟨hb.1, hb.2.below hb5 hb.2.lt⟩
 have hps := (Array.getElem?_eq_some_iff.1 HI5.res).1
 have hlt5 := HI5.lt
 have hroom5 := HI5.room
 have hbut5 := HI5.but
 replace hS5 := Hd hS5
 replace hroom5 := Hd hroom5
 replace hbut5 := Hd hbut5
 replace hb5 := Hd hb5
 replace HI5 := Hd HI5
 clear o0 o1 o2 o3 o4 o5 o6
 dsimp only []
 obtain ⟨r0, r1, r2, r3, r4, r5, r6⟩ := cells7 (hR5)
 have f0 := free7 (hR5) 0
 have f1 := free7 (hR5) 1
 have f2 := free7 (hR5) 2
 have f3 := free7 (hR5) 3
 have f4 := free7 (hR5) 4
 have f5 := free7 (hR5) 5
 have f6 := free7 (hR5) 6
 replace hR5 := Hd hR5
 replace hX5 := Hd hX5
 go_wp2_with fail
 have HC := Hd (set7_same (hR5.out) (.int .i64 4) (.slice none 0 0) (.string (baO f.t)) (.string ⟨#[]⟩) (.string (baO f.a)) (.string (baO f.z)) (.slice Ab f.b.length cb))
 have HN := Hd (fun k (hk : k ≠ w.heap.size + 1) => set7_other (w := w5) (b := w.heap.size + 1) (.int .i64 4) (.slice none 0 0) (.string (baO f.t)) (.string ⟨#[]⟩) (.string (baO f.a)) (.string (baO f.z)) (.slice Ab f.b.length cb) hk)
 have HL := Hd (but_set7 (hbut5.out) (R := w.heap.size + 1) (by omega) (.int .i64 4) (.slice none 0 0) (.string (baO f.t)) (.string ⟨#[]⟩) (.string (baO f.a)) (.string (baO f.z)) (.slice Ab f.b.length cb))
 have HX : set7 w5 (w.heap.size + 1) (.int .i64 4) (.slice none 0 0) (.string (baO f.t)) (.string ⟨#[]⟩) (.string (baO f.a)) (.string (baO f.z)) (.slice Ab f.b.length cb) = (((((((w5.setCell ⟨w.heap.size + 1, 0, none⟩ (.int .i64 4)).setCell ⟨w.heap.size + 1, 1, none⟩ (.slice none 0 0)).setCell ⟨w.heap.size + 1, 2, none⟩ (.string (baO f.t))).setCell ⟨w.heap.size + 1, 3, none⟩ (.string ⟨#[]⟩)).setCell ⟨w.heap.size + 1, 4, none⟩ (.string (baO f.a))).setCell ⟨w.heap.size + 1, 5, none⟩ (.string (baO f.z))).setCell ⟨w.heap.size + 1, 6, none⟩ (.slice Ab f.b.length cb)) := rfl
 rw [← HX]
 obtain ⟨W9, hW9⟩ : ∃ W9, W9 = set7 w5 (w.heap.size + 1) (.int .i64 4) (.slice none 0 0) (.string (baO f.t)) (.string ⟨#[]⟩) (.string (baO f.a)) (.string (baO f.z)) (.slice Ab f.b.length cb) := ⟨_, rfl⟩
 rw [← hW9] at HC HN HL ⊢
 clear HX hW9 r0 r1 r2 r3 r4 r5 r6 f0 f1 f2 f3 f4 f5 f6
 obtain ⟨v0, v1, v2, v3, v4, v5, v6⟩ := cells7 HC.out
 exact bodyPost_ret (v := .agg #[.int .i64 4, .slice none 0 0, .string (baO f.t), .string ⟨#[]⟩, .string (baO f.a), .string (baO f.z), .slice Ab f.b.length cb]) (by simp [results, Tryz.results33, go_sem, v0, v1, v2, v3, v4, v5, v6]) rfl (⟨none, 0, Ab, cb, congrArg Ending.returned hfv.out, (FtIn.set ⟨by rw [hlf.out.g]; exact ⟨Nat.le_refl _, by omega, fun _ => rfl, fun _ e => by cases e⟩, hS5.out⟩ HN.out (by omega)).more fun b hb => hb.mono (by omega) b, (HN.out p (by omega)).trans (by rw [show l - (f.num : Int) = l - 1 by rw [hnum.out]; rfl]; exact hroom5.out), HL.out⟩)
end Go.Proofs.YtcbiedonmibfaaaGreatDoor
