/- Filters. -/
import Derived.Test.YtcbiedonmibfaaaGreatDoorF14B
import Derived.Test.YtcbiedonmibfaaaGreatDoorF14h
import Derived.Lib.OthersKept
import Derived.Lib.FrozenHead2
namespace Go.Proofs.YtcbiedonmibfaaaGreatDoor
open Go.RowKit Go.Lib
structure CkP (f : Ft) (d : Nat) (l : Int) (q : Nat) (w : World) (en : Ending) (w' : World) : Prop where
 ok : Fits d f.num l f.deep → f.all = true → en = .returned (.tuple #[]) ∧ w'.heap[q]? = some (.cells #[.int .i64 (l - f.num)] 69 (0, 0))
 no : ¬ (Fits d f.num l f.deep ∧ f.all = true) → en = bad14
 but : But q w w'
theorem meas_kid {f x : Ft} (h : x ∈ f.kids) : x.meas ≤ f.meas := by
 have h1 : ∀ (l : List Ft) (y : Ft), y ∈ l → y.meas ≤ sumL (l.map Ft.meas) := by
  intro l
  induction l with
  | nil => intro y hy; cases hy
  | cons z l ih =>
    intro y hy
    rw [List.map_cons, sumL_cons]
    rcases List.mem_cons.1 hy with rfl | hy
    · omega
    · have := ih y hy
      omega
 have h2 : x.meas ≤ f.g.meas := by
  rw [Gl.meas_list]
  exact h1 f.kids x h
 have h3 : f.meas = 10 + f.t.length + f.v.length + f.a.length + f.z.length + lensB f.b + f.g.meas := rfl
 omega
theorem fits_take {f : Ft} {d : Nat} {l : Int} (h : d ≤ 10) : Fits d f.num l f.deep ↔ (∀ x ∈ f.kids, d + 1 + x.deep ≤ 11) ∧ (sumN f.kids : Int) ≤ l - 1 := by
 have e1 : f.num = f.g.num + 1 := rfl
 have e2 : f.deep = f.g.deep + 1 := rfl
 have e3 : sumN f.kids = f.g.num := (num_list f.g).symm
 unfold Fits
 rw [e1, e2, e3]
 constructor
 · rintro ⟨h1, h2⟩
   exact ⟨fun x hx => by have := deep_mem f.g x hx; omega, by omega⟩
 · rintro ⟨h1, h2⟩
   have := gl_deep_le f.g (10 - d) fun x hx => by have := h1 x hx; omega
   exact ⟨by omega, by omega⟩
structure CkI (f : Ft) (d : Nat) (l : Int) (q : Nat) (w wr : World) (i : Nat) : Prop where
 but : But q w wr
 at_ : wr.heap[q]? = some (.cells #[.int .i64 (l - 1 - sumN (f.kids.take i))] 69 (0, 0))
 good : ∀ x ∈ f.kids.take i, d + 1 + x.deep ≤ 11 ∧ x.all = true
 num : (sumN (f.kids.take i) : Int) ≤ l - 1
theorem take_snocF (L : List Ft) (i : Nat) (h : i < L.length) : L.take (i + 1) = L.take i ++ [L[i]] := by
 rw [List.take_succ_eq_append_getElem h]
set_option maxRecDepth 8000 in
set_option maxHeartbeats 1600000 in
theorem check_all (f : Ft) : ∀ (d : Nat) (l : Int) (q : Nat) (w : World) (Ak : Option Addr) (ck : Nat) (Ab : Option Addr) (cb : Nat), d ≤ 11 → 0 ≤ l → l ≤ 64 → w.heap[q]? = some (.cells #[.int .i64 l] 69 (0, 0)) →
 FtIn w (fun b => b < w.heap.size ∧ b ≠ q) f Ak ck Ab cb → f.meas < 3000 →
 Calls Tryz.prog 26 #[.pointer (some ⟨q, 0, none⟩), ftV f Ak ck Ab cb, .int .i64 (d : Int)] w (CkP f d l q w) := by
 induction f using Ft.ind with
 | h f ih =>
 intro d l q w Ak ck Ab cb hd hl0 hl hq hin hm
 have hql := (Array.getElem?_eq_some_iff.1 hq).1
 have hdp := Ft.deep_pos f
 have hnp := meas_num f
 obtain ⟨K, hK⟩ : ∃ K, f.kids.length = K := ⟨_, rfl⟩
 obtain ⟨B, hB⟩ : ∃ B, f.b.length = B := ⟨_, rfl⟩
 obtain ⟨W1, hW1⟩ : ∃ W1, W1 = w.alloc (.cells #[.int .i64 f.k, .slice Ak K ck, .string (baO f.t), .string (baO f.v), .string (baO f.a), .string (baO f.z), .slice Ab B cb] 25) := ⟨_, rfl⟩
 have hX1 : W1.heap[w.heap.size]? = some (.cells #[.int .i64 f.k, .slice Ak K ck, .string (baO f.t), .string (baO f.v), .string (baO f.a), .string (baO f.z), .slice Ab B cb] 25 (0, 0)) := by rw [hW1]; exact heap_alloc_new w _
 have hb1 : Below w.heap.size w W1 := by rw [hW1]; exact (Below.refl _ _).alloc (Nat.le_refl _) _
 have hq1 : W1.heap[q]? = _ := (hb1.block _ hql).trans hq
 have hBq : w.heap.size ≠ q := by omega
 have c1 := cell_of_one hq1
 have g1 := free_of_one hq1
 by_cases hent : d ≤ 10 ∧ 0 < l
 · obtain ⟨hd10, hl1⟩ := hent
   have CE := Hd (enter_ok ⟨q, 0, none⟩ (d : Int) l W1 (by omega) hl1 hl c1 g1)
   have hq2 : (W1.setCell ⟨q, 0, none⟩ (.int .i64 (l - 1))).heap[q]? = some (.cells #[.int .i64 (l - 1)] 69 (0, 0)) := set_one hq1
   have hB2 : But q w (W1.setCell ⟨q, 0, none⟩ (.int .i64 (l - 1))) := (But.of hb1).trans (But.set 0 _)
   have hX2 : (W1.setCell ⟨q, 0, none⟩ (.int .i64 (l - 1))).heap[w.heap.size]? = _ := (Below.heap_setCell _ _ _ _ hBq).trans hX1
   generalize hW2 : W1.setCell ⟨q, 0, none⟩ (.int .i64 (l - 1)) = W2 at CE hq2 hB2 hX2
   have htl : f.t.length ≤ 9500 := by unfold Ft.meas at hm; omega
   have hin2 : SrcS W2 (· < W2.heap.size) Ab cb f.b := (hin.b.keep fun p hp => hB2.cell hp.1 hp.2).more fun b hb => Nat.lt_of_lt_of_le hb.1 hB2.size
   have CC := check14_any f Ak ck Ab cb W2 htl hin2
   unfold ftV at CC ⊢
   rw [hK, hB] at CC ⊢
   obtain ⟨x0, x1, x2, x3, x4, x5, x6⟩ := cells7 hX2
   have hiff := fits_take (f := f) (l := l) hd10
   have hK9 := hin.g.big
   have hK8 : K ≤ ck := by rw [← hK]; exact hin.g.le
   have hkid : 0 < K → ∃ bl off, Ak = some ⟨bl, off, none⟩ ∧ (bl < w.heap.size ∧ bl ≠ q) ∧ ∀ (i : Nat) (hi : i < f.kids.length), ∃ Ak ck Ab cb, FtAt w f.kids[i] bl (off + i * 7) Ak ck Ab cb ∧ FtIn w (fun b => b < w.heap.size ∧ b ≠ q) f.kids[i] Ak ck Ab cb := fun h => hin.kid (by rw [hK]; exact h)
   replace hin := Hd hin
   replace hq := Hd hq
   replace hq1 := Hd hq1
   replace hq2 := Hd hq2
   replace hX1 := Hd hX1
   replace hX2 := Hd hX2
   replace hb1 := Hd hb1
   replace hB2 := Hd hB2
   replace hin2 := Hd hin2
   replace ih := Hd ih
   replace hK := Hd hK
   replace hB := Hd hB
   replace hW2 := Hd hW2
   replace hkid := Hd hkid
   replace hiff := Hd hiff
   by_cases hone : f.one = true
   · rw [okIf_yes hone] at CC
     replace CC := Hd CC
     go_enter Tryz.func26, Tryz.ntmps26
     go_wp2_with fail
     rw [← hW1]
     replace hW1 := Hd hW1
     try go_wp2_with fail
     refine CE.out.mono ?_
     rintro _ w3 ⟨rfl, h3⟩
     subst w3
     clear c1 g1
     dsimp only []
     go_wp2_with fail
     refine CC.out.mono ?_
     rintro _ w3 ⟨rfl, hb3⟩
     have hX3 : w3.heap[w.heap.size]? = _ := (hb3.block _ (Array.getElem?_eq_some_iff.1 hX2.out).1).trans hX2.out
     have hB3 := hB2.out.trans (But.of hb3)
     have hq3 : w3.heap[q]? = _ := (hb3.block _ (Array.getElem?_eq_some_iff.1 hq2.out).1).trans hq2.out
     clear x0 x1 x2 x3 x4 x5 x6
     have x1 : w3.cell? ⟨w.heap.size, 1, none⟩ = some (.slice Ak K ck) := cell_of_row _ _ _ _ _ _ hX3
     have hstart : CkI f d l q w w3 0 := ⟨hB3, by simpa [sumN, sumL] using hq3, by simp, by simp [sumN, sumL]; omega⟩
     replace hX3 := Hd hX3
     replace hB3 := Hd hB3
     replace hq3 := Hd hq3
     replace hb3 := Hd hb3
     replace hstart := Hd hstart
     dsimp only []
     go_wp2_with fail
     go_loopw [16] (fun iv wr => ∃ (i : Nat), i ≤ K ∧ iv = .int .i64 (i : Int) ∧ Hid (CkI f d l q w wr i)) (fun i _ => K - (RowKit.intOf i).toNat)
     case atStart => exact ⟨0, Nat.zero_le _, rfl, hstart⟩
     case round =>
      obtain ⟨i, hi, rfl, HI⟩ := hrel
      by_cases hlt : i < K
      · obtain ⟨bl, off, rfl, hbl, hk⟩ := hkid.out (by omega)
        have hil : i < f.kids.length := by rw [hK.out]; exact hlt
        obtain ⟨Ak2, ck2, Ab2, cb2, hat, hkin⟩ := hk i hil
        have hmem : f.kids[i] ∈ f.kids := List.getElem_mem hil
        have hkm := meas_kid hmem
        have hsw := HI.out.but.size
        obtain ⟨x, hx⟩ : ∃ x, f.kids[i] = x := ⟨_, rfl⟩
        have htk := take_snocF f.kids i hil
        rw [hx] at hat hkin hkm htk hmem
        have cell : ∀ j, wr.cell? ⟨bl, j, none⟩ = w.cell? ⟨bl, j, none⟩ := fun j => HI.out.but.cell (a := ⟨bl, j, none⟩) hbl.1 hbl.2
        have y0 := (cell _).trans hat.k
        have y1 := (cell _).trans hat.g
        have y2 := (cell _).trans hat.t
        have y3 := (cell _).trans hat.v
        have y4 := (cell _).trans hat.a
        have y5 := (cell _).trans hat.z
        have y6 := (cell _).trans hat.b
        have i0 : (0 : Int) ≤ (i : Int) := by omega
        have i1 : (i : Int) < (K : Int) := by omega
        have hs1 := len_sumN (f.kids.take i)
        have hn1 := HI.out.num
        have CK : ∀ W, Below wr.heap.size wr W → Calls Tryz.prog 26 #[.pointer (some ⟨q, 0, none⟩), ftV x Ak2 ck2 Ab2 cb2, .int .i64 ((d : Int) + 1)] W (CkP x (d + 1) (l - 1 - sumN (f.kids.take i)) q W) := fun W hW => by
         have hqr := (Array.getElem?_eq_some_iff.1 HI.out.at_).1
         have hbW : But q w W := HI.out.but.trans (But.of hW)
         have := ih.out x hmem (d + 1) (l - 1 - sumN (f.kids.take i)) q W Ak2 ck2 Ab2 cb2 (by omega) (by omega) (by omega) ((hW.block _ hqr).trans HI.out.at_) ((hkin.keep fun p hp => hbW.cell hp.1 hp.2).more fun b hb => ⟨Nat.lt_of_lt_of_le hb.1 hbW.size, hb.2⟩) (by omega)
         simpa using this
        unfold ftV at CK
        have hal : ∀ o : Obj, Below wr.heap.size wr (wr.alloc o) := fun o => (Below.refl _ _).alloc (Nat.le_refl _) o
        obtain ⟨N2, hN2⟩ : ∃ n, n = x.kids.length := ⟨_, rfl⟩
        obtain ⟨M2, hM2⟩ : ∃ n, n = x.b.length := ⟨_, rfl⟩
        simp only [← hN2, ← hM2] at CK y1 y6
        replace CK := Hd CK
        replace hat := Hd hat
        replace hkin := Hd hkin
        replace hx := Hd hx
        replace htk := Hd htk
        replace hal := Hd hal
        replace hN2 := Hd hN2
        replace hM2 := Hd hM2
        replace hk := Hd hk
        replace hmem := Hd hmem
        clear cell
        by_cases hgd : Fits (d + 1) x.num (l - 1 - sumN (f.kids.take i)) x.deep ∧ x.all = true
        · go_wp2_with fail
          refine (CK.out _ (hal.out _)).mono ?_
          rintro en w5 ⟨hok, _, hb5⟩
          obtain ⟨rfl, hq5⟩ := hok hgd.1 hgd.2
          clear hok
          have HI5 : CkI f d l q w w5 (i + 1) := by
           refine ⟨HI.out.but.trans ((But.of (hal.out _)).trans hb5), ?_, ?_, ?_⟩
           · have e : (l - 1 - sumN (f.kids.take i) - x.num : Int) = l - 1 - ((sumN (f.kids.take i) + x.num : Nat) : Int) := by omega
             rw [htk.out, sumN_snoc, hq5, e]
           · intro y hy
             rw [htk.out] at hy
             rcases List.mem_append.1 hy with hy | hy
             · exact HI.out.good y hy
             · rw [List.mem_singleton.1 hy]
               exact ⟨hgd.1.1, hgd.2⟩
           · rw [htk.out, sumN_snoc]
             have := hgd.1.2
             omega
          replace HI5 := Hd HI5
          replace hq5 := Hd hq5
          replace hb5 := Hd hb5
          dsimp only []
          go_wp2_with fail
          go_roundw
          case rel => exact ⟨i + 1, by omega, by go_num, HI5⟩
          case measure => simp [RowKit.intOf]; omega
        · go_wp2_with fail
          refine (CK.out _ (hal.out _)).mono ?_
          rintro en w5 ⟨_, hno, hb5⟩
          obtain rfl := hno hgd
          dsimp only []
          have hbad : ¬ (Fits d f.num l f.deep ∧ f.all = true) := fun h => by
           apply hgd
           obtain ⟨h1, h2⟩ := hiff.out.1 h.1
           have h3 := (all_parts h.2).2
           rw [Gl.all_list, List.all_eq_true] at h3
           refine ⟨⟨h1 x hmem.out, ?_⟩, h3 x hmem.out⟩
           have h4 : sumN f.kids = sumN (f.kids.take (i + 1)) + sumN (f.kids.drop (i + 1)) := by rw [← sumN_app, List.take_append_drop]
           rw [htk.out, sumN_snoc] at h4
           omega
          exact ⟨rfl, ⟨fun h1 h2 => absurd ⟨h1, h2⟩ hbad, fun _ => rfl, HI.out.but.trans ((But.of (hal.out _)).trans hb5)⟩⟩
      · have hiK : i = K := by omega
        subst hiK
        have i1 : ¬ ((i : Int) < (i : Int)) := by omega
        have hfull : f.kids.take i = f.kids := List.take_of_length_le (by rw [hK.out]; exact Nat.le_refl _)
        have hP : CkP f d l q w (.returned (.tuple #[])) wr := by
         have h1 := HI.out.at_
         have h2 := HI.out.good
         have h3 := HI.out.num
         rw [hfull] at h1 h2 h3
         have e3 : sumN f.kids = f.g.num := (num_list f.g).symm
         refine ⟨fun _ _ => ⟨rfl, ?_⟩, fun h => absurd ⟨hiff.out.2 ⟨fun x hx => (h2 x hx).1, h3⟩, ?_⟩ h, HI.out.but⟩
         · have e : (l - 1 - sumN f.kids : Int) = l - f.num := by
            have e1 : f.num = f.g.num + 1 := rfl
            omega
           rw [h1, e]
         · unfold Ft.all
           rw [hone, Gl.all_list, Bool.true_and, List.all_eq_true]
           exact fun x hx => (h2 x hx).2
        replace hP := Hd hP
        replace hfull := Hd hfull
        go_wp2_with fail
        go_end0
        exact hP.out
   · rw [okIf_no hone] at CC
     replace CC := Hd CC
     go_enter Tryz.func26, Tryz.ntmps26
     go_wp2_with fail
     rw [← hW1]
     replace hW1 := Hd hW1
     try go_wp2_with fail
     refine CE.out.mono ?_
     rintro _ w3 ⟨rfl, h3⟩
     subst w3
     clear c1 g1
     dsimp only []
     go_wp2_with fail
     refine CC.out.mono ?_
     rintro _ w3 ⟨rfl, hb3⟩
     dsimp only []
     exact ⟨rfl, ⟨fun _ h => absurd (all_parts h).1 hone, fun _ => rfl, hB2.out.trans (But.of hb3)⟩⟩
 · have hno : ¬ Fits d f.num l f.deep := fun h => hent ⟨by have := h.1; omega, by have := h.2; omega⟩
   have CE := Hd (enter_no ⟨q, 0, none⟩ (d : Int) l W1 (by omega) c1)
   unfold ftV
   rw [hK, hB]
   replace hin := Hd hin
   replace hq := Hd hq
   replace hq1 := Hd hq1
   replace hX1 := Hd hX1
   replace hb1 := Hd hb1
   replace ih := Hd ih
   replace hK := Hd hK
   replace hB := Hd hB
   clear hent
   go_enter Tryz.func26, Tryz.ntmps26
   go_wp2_with fail
   rw [← hW1]
   replace hW1 := Hd hW1
   try go_wp2_with fail
   refine CE.out.mono ?_
   rintro _ w3 ⟨rfl, h3⟩
   subst w3
   dsimp only []
   exact ⟨rfl, ⟨fun h => absurd h hno, fun _ => rfl, But.of hb1.out⟩⟩
end Go.Proofs.YtcbiedonmibfaaaGreatDoor
namespace Go.Proofs.YtcbiedonmibfaaaGreatDoor
open Go.RowKit Go.Lib
theorem right_fits (f : Ft) : f.right = true ↔ Fits 1 f.num 64 f.deep ∧ f.all = true := by
 unfold Fits Ft.right
 simp only [Bool.and_eq_true, decide_eq_true_eq]
 constructor
 · rintro ⟨⟨h1, h2⟩, h3⟩
   exact ⟨⟨by omega, by omega⟩, h3⟩
 · rintro ⟨⟨h1, h2⟩, h3⟩
   exact ⟨⟨by omega, by omega⟩, h3⟩
set_option maxRecDepth 8000 in
set_option maxHeartbeats 1600000 in
theorem right1_any (f : Ft) (Ak : Option Addr) (ck : Nat) (Ab : Option Addr) (cb F : Nat) (w : World) (hF : w.heap[F]? = some (.cells #[.int .i64 f.k, .slice Ak f.kids.length ck, .string (baO f.t), .string (baO f.v), .string (baO f.a), .string (baO f.z), .slice Ab f.b.length cb] 25 (0, 0))) (hin : FtIn w (· < w.heap.size) f Ak ck Ab cb) (hm : f.meas < 3000) :
 Calls Tryz.prog 25 #[.pointer (some ⟨F, 0, none⟩)] w fun en w' => (f.right = true → en = .returned (ftV f Ak ck Ab cb)) ∧ (f.right = false → en = bad14) ∧ Below w.heap.size w w' := by
 have hFl := (Array.getElem?_eq_some_iff.1 hF).1
 obtain ⟨W0, hW0⟩ : ∃ W0, W0 = w.alloc (.cells #[.int .i64 0, .slice none 0 0, .string ⟨#[]⟩, .string ⟨#[]⟩, .string ⟨#[]⟩, .string ⟨#[]⟩, .slice none 0 0] 25) := ⟨_, rfl⟩
 have hB0 : Below w.heap.size w W0 := by rw [hW0]; exact (Below.refl _ _).alloc (Nat.le_refl _) _
 have hR0 : W0.heap[w.heap.size]? = some (.cells #[.int .i64 0, .slice none 0 0, .string ⟨#[]⟩, .string ⟨#[]⟩, .string ⟨#[]⟩, .string ⟨#[]⟩, .slice none 0 0] 25 (0, 0)) := by rw [hW0]; exact heap_alloc_new w _
 have hz0 : W0.heap.size = w.heap.size + 1 := by rw [hW0]; simp
 obtain ⟨W1, hW1⟩ : ∃ W1, W1 = W0.alloc (.cells #[.int .i64 64] 69) := ⟨_, rfl⟩
 have hb1 : Below W0.heap.size W0 W1 := by rw [hW1]; exact (Below.refl _ _).alloc (Nat.le_refl _) _
 have hB1 : Below w.heap.size w W1 := hB0.trans (hb1.mono (by omega))
 have hR1 : W1.heap[w.heap.size]? = _ := (hb1.block _ (by omega)).trans hR0
 have hz1 : W1.heap.size = w.heap.size + 2 := by rw [hW1]; simp [hz0]
 have hq1 : W1.heap[w.heap.size + 1]? = some (.cells #[.int .i64 64] 69 (0, 0)) := by rw [hW1, ← hz0]; exact heap_alloc_new W0 _
 have hF1 : W1.heap[F]? = _ := (hB1.block _ hFl).trans hF
 have hF0 : ∀ o o2 : Obj, ((w.alloc o).alloc o2).heap[F]? = some (.cells #[.int .i64 f.k, .slice Ak f.kids.length ck, .string (baO f.t), .string (baO f.v), .string (baO f.a), .string (baO f.z), .slice Ab f.b.length cb] 25 (0, 0)) := fun o o2 => (Below.heap_alloc _ _ _ (by simp; omega)).trans ((Below.heap_alloc _ _ _ hFl).trans hF)
 have x0 : ∀ o o2 : Obj, ((w.alloc o).alloc o2).cell? ⟨F, 0, none⟩ = some (.int .i64 f.k) := fun o o2 => cell_of_row _ _ _ _ _ _ (hF0 o o2)
 have x1 : ∀ o o2 : Obj, ((w.alloc o).alloc o2).cell? ⟨F, 1, none⟩ = some (.slice Ak f.kids.length ck) := fun o o2 => cell_of_row _ _ _ _ _ _ (hF0 o o2)
 have x2 : ∀ o o2 : Obj, ((w.alloc o).alloc o2).cell? ⟨F, 2, none⟩ = some (.string (baO f.t)) := fun o o2 => cell_of_row _ _ _ _ _ _ (hF0 o o2)
 have x3 : ∀ o o2 : Obj, ((w.alloc o).alloc o2).cell? ⟨F, 3, none⟩ = some (.string (baO f.v)) := fun o o2 => cell_of_row _ _ _ _ _ _ (hF0 o o2)
 have x4 : ∀ o o2 : Obj, ((w.alloc o).alloc o2).cell? ⟨F, 4, none⟩ = some (.string (baO f.a)) := fun o o2 => cell_of_row _ _ _ _ _ _ (hF0 o o2)
 have x5 : ∀ o o2 : Obj, ((w.alloc o).alloc o2).cell? ⟨F, 5, none⟩ = some (.string (baO f.z)) := fun o o2 => cell_of_row _ _ _ _ _ _ (hF0 o o2)
 have x6 : ∀ o o2 : Obj, ((w.alloc o).alloc o2).cell? ⟨F, 6, none⟩ = some (.slice Ab f.b.length cb) := fun o o2 => cell_of_row _ _ _ _ _ _ (hF0 o o2)
 have CK := check_all f 1 64 (w.heap.size + 1) W1 Ak ck Ab cb (by omega) (by omega) (by omega) hq1 ((hin.keep fun p hp => hB1.cell hp).more fun b hb => ⟨by omega, by omega⟩) hm
 unfold ftV at CK ⊢
 replace CK := Hd CK
 have hrf := right_fits f
 replace hrf := Hd hrf
 replace hF := Hd hF
 replace hF0 := Hd hF0
 replace hF1 := Hd hF1
 replace hin := Hd hin
 replace hB0 := Hd hB0
 replace hR0 := Hd hR0
 replace hz0 := Hd hz0
 replace hb1 := Hd hb1
 replace hB1 := Hd hB1
 replace hR1 := Hd hR1
 replace hz1 := Hd hz1
 replace hq1 := Hd hq1
 go_enter Tryz.func25, Tryz.ntmps25
 go_wp2_with fail
 rw [← hW0]
 replace hW0 := Hd hW0
 try go_wp2_with fail
 rw [← hW1]
 replace hW1 := Hd hW1
 refine CK.out.mono ?_
 rintro en w2 ⟨hok, hno, hb2⟩
 have hB2 : Below w.heap.size w w2 := hB1.out.trans (hb2.below (by omega) (by have := hz1.out; omega))
 have hR2 := hb2.heap hR1.out (by omega)
 have hF2 := hb2.heap hF1.out (by omega)
 clear x0 x1 x2 x3 x4 x5 x6
 by_cases hr : f.right = true
 · obtain ⟨h1, h2⟩ := hrf.out.1 hr
   obtain ⟨rfl, _⟩ := hok h1 h2
   clear hok hno
   obtain ⟨x0, x1, x2, x3, x4, x5, x6⟩ := cells7 hF2
   replace hF2 := Hd hF2
   replace hB2 := Hd hB2
   replace hb2 := Hd hb2
   dsimp only []
   obtain ⟨r0, r1, r2, r3, r4, r5, r6⟩ := cells7 (hR2)
   have f0 := free7 (hR2) 0
   have f1 := free7 (hR2) 1
   have f2 := free7 (hR2) 2
   have f3 := free7 (hR2) 3
   have f4 := free7 (hR2) 4
   have f5 := free7 (hR2) 5
   have f6 := free7 (hR2) 6
   replace hR2 := Hd hR2
   go_wp2_with fail
   clear x0 x1 x2 x3 x4 x5 x6
   have HC := Hd (set7_same (hR2.out) (.int .i64 f.k) (.slice Ak f.kids.length ck) (.string (baO f.t)) (.string (baO f.v)) (.string (baO f.a)) (.string (baO f.z)) (.slice Ab f.b.length cb))
   have HL := Hd (set7_below (hB2.out) (Nat.le_refl _) (.int .i64 f.k) (.slice Ak f.kids.length ck) (.string (baO f.t)) (.string (baO f.v)) (.string (baO f.a)) (.string (baO f.z)) (.slice Ab f.b.length cb))
   have HN := Hd (fun k (hk : k ≠ w.heap.size) => set7_other (w := w2) (b := w.heap.size) (.int .i64 f.k) (.slice Ak f.kids.length ck) (.string (baO f.t)) (.string (baO f.v)) (.string (baO f.a)) (.string (baO f.z)) (.slice Ab f.b.length cb) hk)
   have HX : set7 w2 (w.heap.size) (.int .i64 f.k) (.slice Ak f.kids.length ck) (.string (baO f.t)) (.string (baO f.v)) (.string (baO f.a)) (.string (baO f.z)) (.slice Ab f.b.length cb) = (((((((w2.setCell ⟨w.heap.size, 0, none⟩ (.int .i64 f.k)).setCell ⟨w.heap.size, 1, none⟩ (.slice Ak f.kids.length ck)).setCell ⟨w.heap.size, 2, none⟩ (.string (baO f.t))).setCell ⟨w.heap.size, 3, none⟩ (.string (baO f.v))).setCell ⟨w.heap.size, 4, none⟩ (.string (baO f.a))).setCell ⟨w.heap.size, 5, none⟩ (.string (baO f.z))).setCell ⟨w.heap.size, 6, none⟩ (.slice Ab f.b.length cb)) := rfl
   rw [← HX]
   obtain ⟨W9, hW9⟩ : ∃ W9, W9 = set7 w2 (w.heap.size) (.int .i64 f.k) (.slice Ak f.kids.length ck) (.string (baO f.t)) (.string (baO f.v)) (.string (baO f.a)) (.string (baO f.z)) (.slice Ab f.b.length cb) := ⟨_, rfl⟩
   rw [← hW9] at HC HL HN ⊢
   clear HX hW9 r0 r1 r2 r3 r4 r5 r6 f0 f1 f2 f3 f4 f5 f6
   obtain ⟨v0, v1, v2, v3, v4, v5, v6⟩ := cells7 HC.out
   exact bodyPost_ret (v := .agg #[.int .i64 f.k, .slice Ak f.kids.length ck, .string (baO f.t), .string (baO f.v), .string (baO f.a), .string (baO f.z), .slice Ab f.b.length cb]) (by simp [results, Tryz.results25, go_sem, v0, v1, v2, v3, v4, v5, v6]) rfl (⟨fun _ => rfl, (fun h => by rw [hr] at h; cases h), HL.out⟩)
 · obtain rfl := hno (fun h => hr (hrf.out.2 h))
   dsimp only []
   exact ⟨rfl, (fun h => absurd h hr), (fun _ => rfl), hB2⟩
set_option maxRecDepth 8000 in
set_option maxHeartbeats 1600000 in
theorem right14_any (f : Ft) (Ak : Option Addr) (ck : Nat) (Ab : Option Addr) (cb : Nat) (w : World) (hin : FtIn w (· < w.heap.size) f Ak ck Ab cb) (hm : f.meas < 3000) :
 Calls Tryz.prog 9 #[ftV f Ak ck Ab cb] w fun en w' => en = .returned (.bool f.right) ∧ Below w.heap.size w w' := by
 obtain ⟨W0, hW0⟩ : ∃ W0, W0 = w.alloc (.cells #[.int .i64 f.k, .slice Ak f.kids.length ck, .string (baO f.t), .string (baO f.v), .string (baO f.a), .string (baO f.z), .slice Ab f.b.length cb] 25) := ⟨_, rfl⟩
 have hB0 : Below w.heap.size w W0 := by rw [hW0]; exact (Below.refl _ _).alloc (Nat.le_refl _) _
 have hF0 : W0.heap[w.heap.size]? = some (.cells #[.int .i64 f.k, .slice Ak f.kids.length ck, .string (baO f.t), .string (baO f.v), .string (baO f.a), .string (baO f.z), .slice Ab f.b.length cb] 25 (0, 0)) := by rw [hW0]; exact heap_alloc_new w _
 have hz0 : W0.heap.size = w.heap.size + 1 := by rw [hW0]; simp
 have hmf : ∀ (fn : Fn) (first cap : Array Value) (w : World), (Instr.makeFunc fn first cap).run Tryz.prog w = .ok (.func fn first cap) w := fun _ _ _ _ => rfl
 have CR := fun W (hW : Below W0.heap.size W0 W) => right1_any f Ak ck Ab cb w.heap.size W ((hW.block _ (by omega)).trans hF0) ((hin.keep fun p hp => (hW.cell (by omega)).trans (hB0.cell hp)).more fun b hb => by have := hW.size; omega) hm
 cases hr : f.right
 · have CO := Hd (outcome_no_right ⟨w.heap.size, 0, none⟩ W0 (fun W hW _ => (CR W hW).mono fun en w' (h : _) => ⟨h.2.1 hr, h.2.2⟩))
   clear CR
   unfold ftV
   replace hB0 := Hd hB0
   replace hF0 := Hd hF0
   replace hz0 := Hd hz0
   replace hin := Hd hin
   replace hr := Hd hr
   go_enter Tryz.func9, Tryz.ntmps9
   go_wp2_with fail
   rw [← hW0]
   replace hW0 := Hd hW0
   try go_wp2_with fail
   refine CO.out.mono ?_
   rintro _ w2 ⟨rfl, hb2⟩
   have hB2 := Hd fun o : Obj => (hB0.out.trans (hb2.mono (by have := hz0.out; omega))).alloc (by have := hz0.out; have := hb2.size; omega) o
   replace hb2 := Hd hb2
   dsimp only []
   go_wp2_with fail
   go_ret
   exact ⟨rfl, hB2.out _⟩
 · have CO := Hd (outcome_ok_right (X := fun _ _ _ _ _ => True) f ⟨w.heap.size, 0, none⟩ W0 (fun W hW _ => (CR W hW).mono fun en w' (h : _) => ⟨Ak, ck, Ab, cb, h.1 hr, trivial, h.2.2⟩) (fun _ _ _ _ _ _ _ _ => trivial))
   clear CR
   unfold ftV at CO ⊢
   replace hB0 := Hd hB0
   replace hF0 := Hd hF0
   replace hz0 := Hd hz0
   replace hin := Hd hin
   replace hr := Hd hr
   go_enter Tryz.func9, Tryz.ntmps9
   go_wp2_with fail
   rw [← hW0]
   replace hW0 := Hd hW0
   try go_wp2_with fail
   refine CO.out.mono ?_
   rintro _ w2 ⟨Ak2, ck2, Ab2, cb2, rfl, _, hb2⟩
   have hB2 := Hd fun o : Obj => (hB0.out.trans (hb2.mono (by have := hz0.out; omega))).alloc (by have := hz0.out; have := hb2.size; omega) o
   replace hb2 := Hd hb2
   dsimp only []
   go_wp2_with fail
   go_ret
   exact ⟨rfl, hB2.out _⟩
end Go.Proofs.YtcbiedonmibfaaaGreatDoor
namespace Go.Proofs.YtcbiedonmibfaaaGreatDoor
open Go.RowKit Go.Lib
abbrev Kept14 (b : Nat) (w w' : World) : Prop := Lib.OthersKept 5 (some b) w w'
theorem bcheckK (B b : Nat) (bs : List Value) (w : World) (h : Lib.IsBuilderF 74 5 B b bs w) :
 Calls Tryz.prog 104 #[.pointer (some ⟨b, 0, none⟩)] w fun e w' => e = .returned (.tuple #[]) ∧ (Lib.BuilderAtF 74 5 B b (.pointer (some ⟨b, 0, none⟩)) bs w' ∧ Below B w w' ∧ Kept14 b w w') := by
 rcases h with h | h
 · refine (bcheck_fresh b w h.cell0 h.shape h.frozen0).mono ?_
   rintro e w' ⟨rfl, rfl⟩
   exact ⟨rfl, h.used _, (Below.refl B w).setCell (p := ⟨b, 0, none⟩) h.1 _, (Lib.OthersKept.refl _ _ _).setCell ⟨b, 0, none⟩ rfl _⟩
 · refine (bcheck_used b w h.cell0).mono ?_
   rintro e w' ⟨rfl, rfl⟩
   exact ⟨rfl, h, Below.refl B _, Lib.OthersKept.refl _ _ _⟩
set_option maxHeartbeats 2000000 in
set_option maxRecDepth 100000 in
theorem wstrK (B b : Nat) (bs : List Value) (s : ByteArray) (w : World) (h : Lib.IsBuilderF 74 5 B b bs w) (hlen : bs.length + s.size ≤ 140737488355328) (hBw : B ≤ w.heap.size) :
 Calls Tryz.prog 59 #[.pointer (some ⟨b, 0, none⟩), .string s] w fun e w' => e = .returned (.tuple #[.int .i64 s.size, .nilIface]) ∧ (Lib.IsBuilderF 74 5 B b (bs ++ Lib.strCells s) w' ∧ Below B w w' ∧ Kept14 b w w') := by
 have XB : (Tryz.prog.info? 5).map (fun i => (i.zero, i.size, i.bytes)) = some (some (.int .u8 0), 1, 1) := by kernel_rfl
 obtain ⟨i0, hi, hz0, hz1, hz2⟩ := info_parts XB
 have CC := Hd (bcheckK B b bs w h)
 clear h
 go_enter Tryz.func59, Tryz.ntmps59
 go_wp2_with fail
 refine CC.out.mono ?_
 rintro _ w1 ⟨rfl, h1, hb1, hk1⟩
 obtain ⟨hB, v, hbk, hown, hne⟩ := h1
 have c0 : w1.cell? ⟨b, 0, none⟩ = some (.pointer (some ⟨b, 0, none⟩)) := by rw [Lib.cell_of_heap hbk]; rfl
 have c1 : w1.cell? ⟨b, 1, none⟩ = some v := by rw [Lib.cell_of_heap hbk]; rfl
 replace hk1 := Hd hk1
 go_wp2_with (at_builtin; refine Lib.wpList_append_own_stringF _ rfl _ _ 40 9 rfl B 5 i0 Tryz.underlying40 Tryz.underlying9 hi hz0 hz1 hz2 _ _ _ rfl hown s rfl ?c3 ?c4 ?c5 ?_)
 case c3 => unfold maxLen; omega
 case c4 => omega
 case c5 => have := hb1.size; omega
 intro v' w2 hown' hgrow _
 have hlt : b < w1.heap.size := by
  rcases Nat.lt_or_ge b w1.heap.size with h' | h'
  · exact h'
  · simp [Array.getElem?_eq_none h'] at hbk
 have hb2 : w2.heap[b]? = some (.cells #[.pointer (some ⟨b, 0, none⟩), v] 74 (0, 0)) := by
  rw [hgrow.block b hlt (fun e => hne e.symm)]
  exact hbk
 have hk2 := Hd (hk1.out.grown hgrow (fun g hg => by
  rcases hown.2 with ⟨hv, _⟩ | ⟨g', cap, cur, fz, hv, _, hgg, _⟩
  · rw [hv] at hg; cases hg
  · rw [hv] at hg
    injection hg with hg
    have hg' : g' = g := hg
    subst hg'
    exact ⟨cur, _, hgg⟩))
 have d0 : w2.cell? ⟨b, 0, none⟩ = some (.pointer (some ⟨b, 0, none⟩)) := by rw [Lib.cell_of_heap hb2]; rfl
 have d1 : w2.cell? ⟨b, 1, none⟩ = some v := by rw [Lib.cell_of_heap hb2]; rfl
 have f1 : w2.frozen? ⟨b, 1, none⟩ = false := Lib.frozen_of_heap hb2 1
 obtain ⟨ao, n', cap, rfl⟩ : ∃ ao n' cap, v' = .slice ao n' cap := by
  rcases hown'.2 with ⟨hv, _⟩ | ⟨g, cap, cur, fz, hv, _⟩
  · exact ⟨_, _, _, hv⟩
  · exact ⟨_, _, _, hv⟩
 go_wp2
 go_ret2
 refine ⟨rfl, .inr ?_, ?_, hk2.out.setCell ⟨b, 1, none⟩ rfl _⟩
 · exact Lib.BuilderAtF.put (T := 74) (e := 5) hB hb2 (bs' := bs ++ Lib.strCells s) (by simpa [Lib.strCells_length] using hown') (by decide)
 · exact (hb1.grown hgrow (by have := hb1.size; omega) (fun k hk => (hown.lt k hk).1)).setCell (p := ⟨b, 1, none⟩) hB _
theorem strK (base b : Nat) (l : List Nat) (s : ByteArray) (w : World) (h : BldN w base b l) (hlen : l.length + s.size ≤ 1000000) (hB : base ≤ w.heap.size) :
 Calls Tryz.prog 59 #[.pointer (some ⟨b, 0, none⟩), .string s] w fun e w' => e = .returned (.tuple #[.int .i64 s.size, .nilIface]) ∧ BldN w' base b (l ++ bs s) ∧ Below base w w' ∧ Kept14 b w w' := by
 refine (wstrK base b (cellsB l) s w h.2 (by rw [cellsB_len]; omega) hB).mono fun _ _ ⟨h1, h2, h3, h4⟩ => ⟨h1, ⟨byE_app h.1 (bs_byte s), ?_⟩, h3, h4⟩
 rw [cellsB_app, ← strCells_bs]
 exact h2
theorem putK (base b : Nat) (l m : List Nat) (s : ByteArray) (w : World) (hs : bs s = m) (h : BldN w base b l) (hlen : l.length + m.length ≤ 900000) (hB : base ≤ w.heap.size) :
 Calls Tryz.prog 59 #[.pointer (some ⟨b, 0, none⟩), .string s] w fun e w' => e = .returned (.tuple #[.int .i64 s.size, .nilIface]) ∧ BldN w' base b (l ++ m) ∧ Below base w w' ∧ Kept14 b w w' := by
 subst hs
 exact strK base b l s w h (by rw [bs_len] at hlen; omega) hB
theorem Kept14.box {b X : Nat} {w w' : World} {cs : Array Value} (h : Kept14 b w w') (hX : w.heap[X]? = some (.cells cs 25 (0, 0))) (hb : X ≠ b) : w'.heap[X]? = some (.cells cs 25 (0, 0)) :=
 h X _ hX (fun e => hb (by injection e)) (fun c fz e => by
  injection e with _ e2 _
  revert e2
  decide)
theorem Kept14.of {b : Nat} {w w' : World} (h : Below w.heap.size w w') : Kept14 b w w' := fun k _ hk _ _ => (h.block k (Array.getElem?_eq_some_iff.1 hk).1).trans hk
theorem bs_baO (l : List UInt8) : bs (baO l) = nb l := rfl
theorem esc14_any (v : List UInt8) (w : World) (hs : v.length ≤ 9500) (hT : Tabs w) : Calls Tryz.prog 61 #[.string (baO v)] w fun e w' => e = .returned (.string (strB (esc v))) ∧ Below w.heap.size w w' :=
 pfilter_any (baO v) w (by rw [baO_len]; exact hs) hT
def Ft.val (f : Ft) : List Nat := if f.k = 7 then [42] else if f.k = 4 then esc f.a ++ 42 :: (f.b.flatMap (fun x => esc x ++ [42]) ++ esc f.z) else esc f.v
def Ft.sig (f : Ft) : List Nat := if f.k < 3 then [sgn f.k] else opn f.k
theorem text_parts {f : Ft} (h : f.one = true) : f.text = ([40] ++ nb f.t ++ f.sig ++ f.g.text ++ f.val) ++ [41] := by
 unfold Ft.text Ft.body Ft.sig Ft.val
 by_cases hk : f.k < 3
 · have hn := node_ok h hk
   rw [if_pos hk, if_pos hk, if_neg (by omega), if_neg (by omega), hn.t, hn.v, esc_nil]
   simp [nb]
 · have hl := leaf_ok h hk
   rw [if_neg hk, if_neg hk, hl.g]
   unfold Ft.leaf Ft.rest
   simp [Gl.text]
theorem esc_by (v : List UInt8) : byE (esc v) := fun c hc => (esc_plain v c hc).2
theorem sumL_len {α : Type} (m : α → Nat) (h : ∀ x, 1 ≤ m x) : ∀ l : List α, l.length ≤ sumL (l.map m)
 | [] => Nat.zero_le _
 | x :: l => by
   have := sumL_len m h l
   have := h x
   rw [List.map_cons, sumL_cons, List.length_cons]
   omega
theorem kids_meas (f : Ft) : f.kids.length ≤ f.g.meas := by
 rw [Gl.meas_list]
 exact sumL_len _ (fun x => by unfold Ft.meas; omega) _
theorem lens_len (b : List (List UInt8)) : b.length ≤ lensB b := sumL_len _ (fun x => by omega) _
structure WrI (base b X : Nat) (fv : Array Value) (w wr : World) (L : List Nat) : Prop where
 bld : BldN wr base b L
 below : Below base w wr
 box : wr.heap[X]? = some (.cells fv 25 (0, 0))
 kept : Kept14 b w wr
theorem putI {base b X : Nat} {fv : Array Value} {w wr : World} {L : List Nat} (H : WrI base b X fv w wr L) (m : List Nat) (s : ByteArray) (hs : bs s = m) (hlen : L.length + m.length ≤ 900000) (hbs : base ≤ w.heap.size) (hX : X ≠ b) :
 Calls Tryz.prog 59 #[.pointer (some ⟨b, 0, none⟩), .string s] wr fun e w' => e = .returned (.tuple #[.int .i64 s.size, .nilIface]) ∧ WrI base b X fv w w' (L ++ m) :=
 (putK base b L m s wr hs H.bld hlen (Nat.le_trans hbs H.below.size)).mono fun _ _ ⟨h1, h2, h3, h4⟩ => ⟨h1, h2, H.below.trans h3, h4.box H.box hX, H.kept.trans h4⟩
theorem escI {base b X : Nat} {fv : Array Value} {w wr : World} {L : List Nat} (H : WrI base b X fv w wr L) (v : List UInt8) (hs : v.length ≤ 9500) (hT : Tabs wr) (hbs : base ≤ w.heap.size) :
 Calls Tryz.prog 61 #[.string (baO v)] wr fun e w' => e = .returned (.string (strB (esc v))) ∧ WrI base b X fv w w' L :=
 (esc14_any v wr hs hT).mono fun _ _ ⟨h1, h2⟩ => ⟨h1, H.bld.below h2, H.below.trans (h2.mono (Nat.le_trans hbs H.below.size)), (h2.block _ (Array.getElem?_eq_some_iff.1 H.box).1).trans H.box, H.kept.trans (Kept14.of h2)⟩
set_option maxRecDepth 8000 in
set_option maxHeartbeats 1600000 in
theorem write_any (f : Ft) : ∀ (base b : Nat) (l : List Nat) (w : World) (Ak : Option Addr) (ck : Nat) (Ab : Option Addr) (cb : Nat), f.all = true → f.meas < 3000 → BldN w base b l → base ≤ w.heap.size → b < w.heap.size → base ≤ b → (∀ W, Below base w W → Tabs W) → FtIn w (· < base) f Ak ck Ab cb → l.length + f.text.length ≤ 100000 →
 Calls Tryz.prog 27 #[.pointer (some ⟨b, 0, none⟩), ftV f Ak ck Ab cb] w fun en w' => en = .returned (.tuple #[]) ∧ BldN w' base b (l ++ f.text) ∧ Below base w w' ∧ Kept14 b w w' := by
 induction f using Ft.ind with
 | h f ih =>
 intro base b l w Ak ck Ab cb hall hm hbl hbs hbw hbb hT hin hlen
 have hone := (all_parts hall).1
 have hkr := one_k hone
 have htp := text_parts hone
 rw [htp] at hlen ⊢
 obtain ⟨K, hK⟩ : ∃ K, f.kids.length = K := ⟨_, rfl⟩
 obtain ⟨B, hB⟩ : ∃ B, f.b.length = B := ⟨_, rfl⟩
 obtain ⟨fv, hfv⟩ : ∃ fv, fv = (#[.int .i64 f.k, .slice Ak K ck, .string (baO f.t), .string (baO f.v), .string (baO f.a), .string (baO f.z), .slice Ab B cb] : Array Value) := ⟨_, rfl⟩
 have hXb : w.heap.size ≠ b := by omega
 obtain ⟨W0, hW0⟩ : ∃ W0, W0 = w.alloc (.cells #[.int .i64 f.k, .slice Ak K ck, .string (baO f.t), .string (baO f.v), .string (baO f.a), .string (baO f.z), .slice Ab B cb] 25) := ⟨_, rfl⟩
 have hb0 : Below w.heap.size w W0 := by rw [hW0]; exact (Below.refl _ _).alloc (Nat.le_refl _) _
 have H0 : WrI base b w.heap.size #[.int .i64 f.k, .slice Ak K ck, .string (baO f.t), .string (baO f.v), .string (baO f.a), .string (baO f.z), .slice Ab B cb] w W0 l := ⟨hbl.below hb0, hb0.mono hbs, by rw [hW0]; exact heap_alloc_new w _, Kept14.of hb0⟩
 have CS := Hd fun W => sign_any f.k hkr W
 have hml : f.t.length < 3000 ∧ f.v.length < 3000 ∧ f.a.length < 3000 ∧ f.z.length < 3000 ∧ ∀ x ∈ f.b, x.length < 3000 := by
  have h3 : f.meas = 10 + f.t.length + f.v.length + f.a.length + f.z.length + lensB f.b + f.g.meas := rfl
  exact ⟨by omega, by omega, by omega, by omega, fun x hx => by have := lens_mem hx; omega⟩
 have hKB : K < 3000 ∧ B < 3000 := by
  have h3 : f.meas = 10 + f.t.length + f.v.length + f.a.length + f.z.length + lensB f.b + f.g.meas := rfl
  have h4 := kids_meas f
  have h5 := lens_len f.b
  omega
 obtain ⟨hK3, hB3⟩ := hKB
 have hsb : bs (strB f.sig) = f.sig := bs_strB _ (by
  unfold Ft.sig
  split
  · exact byE_one (sgn_lt _)
  · intro c hc
    obtain ⟨_, _, _, _⟩ := opn_head f.k
    unfold opn at hc
    split at hc
    · simp at hc; omega
    · split at hc
      · simp at hc; omega
      · split at hc
        · simp at hc; omega
        · simp at hc; omega)
 have hsig : strB (if f.k < 3 then [sgn f.k] else opn f.k) = strB f.sig := rfl
 rw [hsig] at CS
 have hkid : 0 < K → ∃ bl off, Ak = some ⟨bl, off, none⟩ ∧ bl < base ∧ ∀ (i : Nat) (hi : i < f.kids.length), ∃ Ak ck Ab cb, FtAt w f.kids[i] bl (off + i * 7) Ak ck Ab cb ∧ FtIn w (· < base) f.kids[i] Ak ck Ab cb := fun h => hin.kid (by rw [hK]; exact h)
 have hpart : 0 < B → ∃ ad, Ab = some ad ∧ ad.block < base ∧ ∀ (i : Nat) (hi : i < f.b.length), w.cell? (ad.add i) = some (.string (baO f.b[i])) := fun h => hin.part (by rw [hB]; exact h)
 have hK8 : K ≤ ck := by rw [← hK]; exact hin.g.le
 have hB8 : B ≤ cb := by rw [← hB]; exact hin.b.le
 have hgt : f.g.text = f.kids.flatMap Ft.text := Gl.text_list f.g
 unfold ftV
 rw [hK, hB]
 obtain ⟨sg, hsg⟩ : ∃ s, s = strB f.sig := ⟨_, rfl⟩
 rw [← hsg] at CS hsb
 replace hone := Hd hone
 replace hall := Hd hall
 replace htp := Hd htp
 replace hK := Hd hK
 replace hB := Hd hB
 replace hb0 := Hd hb0
 replace H0 := Hd H0
 replace hbl := Hd hbl
 replace hT := Hd hT
 replace hin := Hd hin
 replace ih := Hd ih
 replace hml := Hd hml
 replace hsb := Hd hsb
 replace hsg := Hd hsg
 replace hkid := Hd hkid
 replace hpart := Hd hpart
 replace hgt := Hd hgt
 replace hfv := Hd hfv
 replace hlen := Hd hlen
 clear hsig
 go_enter Tryz.func27, Tryz.ntmps27
 go_wp2_with fail
 rw [← hW0]
 replace hW0 := Hd hW0
 try go_wp2_with fail
 refine (putI H0.out ([40]) _ (rfl) (by have := hlen.out; simp only [List.length_append, List.length_cons, List.length_nil] at this ⊢; omega) hbs hXb).mono ?_
 rintro _ w1 ⟨rfl, H1⟩
 replace H1 := Hd H1
 dsimp only []
 have x2 := cell_of_row _ _ 2 _ _ _ H1.out.box
 go_wp2_with fail
 clear x2
 refine (putI H1.out (nb f.t) _ (bs_baO _) (by have := hlen.out; simp only [List.length_append, List.length_cons, List.length_nil] at this ⊢; omega) hbs hXb).mono ?_
 rintro _ w2 ⟨rfl, H2⟩
 replace H2 := Hd H2
 dsimp only []
 have x0 := cell_of_row _ _ 0 _ _ _ H2.out.box
 go_wp2_with fail
 refine (CS.out _).mono ?_
 rintro _ wx ⟨rfl, hx⟩
 subst wx
 dsimp only []
 go_wp2_with fail
 clear x0
 refine (putI H2.out (f.sig) _ (hsb.out) (by have := hlen.out; simp only [List.length_append, List.length_cons, List.length_nil] at this ⊢; omega) hbs hXb).mono ?_
 rintro _ w3 ⟨rfl, H3⟩
 replace H3 := Hd H3
 dsimp only []
 have x1 := cell_of_row _ _ 1 _ _ _ H3.out.box
 go_wp2_with fail
 clear x1
 have hstart : WrI base b w.heap.size #[.int .i64 f.k, .slice Ak K ck, .string (baO f.t), .string (baO f.v), .string (baO f.a), .string (baO f.z), .slice Ab B cb] w w3 ((l ++ [40] ++ nb f.t ++ f.sig) ++ (f.kids.take 0).flatMap Ft.text) := by simpa using H3.out
 replace hstart := Hd hstart
 obtain ⟨L3, hL3⟩ : ∃ L, L = l ++ [40] ++ nb f.t ++ f.sig := ⟨_, rfl⟩
 rw [← hL3] at hstart
 have hlen3 : L3.length + f.g.text.length + f.val.length + 1 ≤ 100000 := by
  have := hlen.out
  rw [hL3]
  simp only [List.length_append, List.length_cons, List.length_nil] at this ⊢
  omega
 replace hL3 := Hd hL3
 go_loopw [22] (fun iv wr => ∃ (i : Nat), i ≤ K ∧ iv = .int .i64 (i : Int) ∧ Hid (WrI base b w.heap.size #[.int .i64 f.k, .slice Ak K ck, .string (baO f.t), .string (baO f.v), .string (baO f.a), .string (baO f.z), .slice Ab B cb] w wr (L3 ++ (f.kids.take i).flatMap Ft.text))) (fun i _ => K - (RowKit.intOf i).toNat)
 case atStart => exact ⟨0, Nat.zero_le _, rfl, hstart⟩
 case round =>
  obtain ⟨i, hi, rfl, HI⟩ := hrel
  by_cases hlt : i < K
  · obtain ⟨bl, off, rfl, hbl2, hk⟩ := hkid.out (by omega)
    have hil : i < f.kids.length := by rw [hK.out]; exact hlt
    obtain ⟨Ak2, ck2, Ab2, cb2, hat, hkin⟩ := hk i hil
    have hmem : f.kids[i] ∈ f.kids := List.getElem_mem hil
    have hkm := meas_kid hmem
    have hxa : f.kids[i].all = true := by
     have := (all_parts hall.out).2
     rw [Gl.all_list, List.all_eq_true] at this
     exact this _ hmem
    obtain ⟨x, hx⟩ : ∃ x, f.kids[i] = x := ⟨_, rfl⟩
    have htk := take_snocF f.kids i hil
    rw [hx] at hat hkin hkm htk hmem hxa
    have hft : (f.kids.take (i + 1)).flatMap Ft.text = (f.kids.take i).flatMap Ft.text ++ x.text := by rw [htk, List.flatMap_append]; simp
    have hle : ((f.kids.take (i + 1)).flatMap Ft.text).length ≤ f.g.text.length := by
     rw [hgt.out]
     have : f.kids.flatMap Ft.text = (f.kids.take (i + 1)).flatMap Ft.text ++ (f.kids.drop (i + 1)).flatMap Ft.text := by rw [← List.flatMap_append, List.take_append_drop]
     rw [this, List.length_append]
     omega
    rw [hft, List.length_append] at hle
    have cell : ∀ j, wr.cell? ⟨bl, j, none⟩ = w.cell? ⟨bl, j, none⟩ := fun j => HI.out.below.cell (p := ⟨bl, j, none⟩) hbl2
    have y0 := (cell _).trans hat.k
    have y1 := (cell _).trans hat.g
    have y2 := (cell _).trans hat.t
    have y3 := (cell _).trans hat.v
    have y4 := (cell _).trans hat.a
    have y5 := (cell _).trans hat.z
    have y6 := (cell _).trans hat.b
    have i0 : (0 : Int) ≤ (i : Int) := by omega
    have i1 : (i : Int) < (K : Int) := by omega
    have hsw := HI.out.below.size
    have hal : ∀ o : Obj, Below wr.heap.size wr (wr.alloc o) := fun o => (Below.refl _ _).alloc (Nat.le_refl _) o
    have CK : ∀ o : Obj, Calls Tryz.prog 27 #[.pointer (some ⟨b, 0, none⟩), ftV x Ak2 ck2 Ab2 cb2] (wr.alloc o) fun en w' => en = .returned (.tuple #[]) ∧ WrI base b w.heap.size #[.int .i64 f.k, .slice (some ⟨bl, off, none⟩) K ck, .string (baO f.t), .string (baO f.v), .string (baO f.a), .string (baO f.z), .slice Ab B cb] w w' (L3 ++ (f.kids.take (i + 1)).flatMap Ft.text) := fun o => by
     have hB2 : Below base w (wr.alloc o) := HI.out.below.trans ((hal o).mono (by omega))
     refine (ih.out x hmem base b (L3 ++ (f.kids.take i).flatMap Ft.text) (wr.alloc o) Ak2 ck2 Ab2 cb2 hxa (by omega) (HI.out.bld.below (hal o)) (by simp; omega) (by simp; omega) hbb (fun W hW => hT.out W (hB2.trans hW)) (hkin.keep fun p hp => hB2.cell hp) (by rw [List.length_append]; omega)).mono fun en w' ⟨h1, h2, h3, h4⟩ => ⟨h1, ?_, hB2.trans h3, h4.box ((Below.heap_alloc _ _ _ (Array.getElem?_eq_some_iff.1 HI.out.box).1).trans HI.out.box) hXb, HI.out.kept.trans ((Kept14.of (hal o)).trans h4)⟩
     rw [hft, ← List.append_assoc]
     exact h2
    unfold ftV at CK
    obtain ⟨N2, hN2⟩ : ∃ n, n = x.kids.length := ⟨_, rfl⟩
    obtain ⟨M2, hM2⟩ : ∃ n, n = x.b.length := ⟨_, rfl⟩
    simp only [← hN2, ← hM2] at CK y1 y6
    replace CK := Hd CK
    replace hat := Hd hat
    replace hkin := Hd hkin
    replace hx := Hd hx
    replace htk := Hd htk
    replace hft := Hd hft
    replace hal := Hd hal
    replace hN2 := Hd hN2
    replace hM2 := Hd hM2
    replace hk := Hd hk
    replace hmem := Hd hmem
    replace hxa := Hd hxa
    clear cell
    go_wp2_with fail
    refine (CK.out _).mono ?_
    rintro en w5 ⟨rfl, HI5⟩
    replace HI5 := Hd HI5
    dsimp only []
    go_wp2_with fail
    go_roundw
    case rel => exact ⟨i + 1, by omega, by go_num, HI5⟩
    case measure => simp [RowKit.intOf]; omega
  · have hiK : i = K := by omega
    have i1 : ¬ ((i : Int) < (K : Int)) := by omega
    have hfull : L3 ++ (f.kids.take i).flatMap Ft.text = L3 ++ f.g.text := by rw [List.take_of_length_le (by rw [hK.out, hiK]; exact Nat.le_refl _), hgt.out]
    rw [hfull] at HI
    obtain ⟨L4, hL4⟩ : ∃ L, L = L3 ++ f.g.text := ⟨_, rfl⟩
    rw [← hL4] at HI
    have hlen4 : L4.length + f.val.length + 1 ≤ 100000 := by rw [hL4, List.length_append]; omega
    have hdone : ∀ W, WrI base b w.heap.size #[.int .i64 f.k, .slice Ak K ck, .string (baO f.t), .string (baO f.v), .string (baO f.a), .string (baO f.z), .slice Ab B cb] w W ((L4 ++ f.val) ++ [41]) → BldN W base b (l ++ (([40] ++ nb f.t ++ f.sig ++ f.g.text ++ f.val) ++ [41])) ∧ Below base w W ∧ Kept14 b w W := fun W h => ⟨by
     have := h.bld
     rw [hL4, hL3.out] at this
     simpa only [List.append_assoc] using this, h.below, h.kept⟩
    replace hfull := Hd hfull
    replace hL4 := Hd hL4
    replace hdone := Hd hdone
    replace hiK := Hd hiK
    have y0 := cell_of_row _ _ 0 _ _ _ HI.out.box
    by_cases h7 : f.k = 7
    · have hv : f.val = [42] := by unfold Ft.val; rw [if_pos h7]
      have k7 : (f.k == 7) = true := beq_iff_eq.2 h7
      replace h7 := Hd h7
      go_wp2_with fail
      refine (putI HI.out ([42]) _ (rfl) (by first | omega | (simp only [List.length_append]; omega) | (simp only [List.length_cons, List.length_nil]; omega) | (simp only [List.length_append, List.length_cons, List.length_nil]; omega)) hbs hXb).mono ?_
      rintro _ w6 ⟨rfl, H6⟩
      replace H6 := Hd H6
      dsimp only []
      go_wp2_with fail
      refine (putI H6.out ([41]) _ (rfl) (by first | omega | (simp only [List.length_append]; omega) | (simp only [List.length_cons, List.length_nil]; omega) | (simp only [List.length_append, List.length_cons, List.length_nil]; omega)) hbs hXb).mono ?_
      rintro _ wz ⟨rfl, HZ⟩
      replace HZ := Hd HZ
      dsimp only []
      go_wp2_with fail
      go_end0
      exact ⟨rfl, hdone.out _ (by rw [hv]; exact HZ.out)⟩
    have k7 : (f.k == 7) = false := beq_eq_false_iff_ne.2 h7
    by_cases h4 : f.k = 4
    · have hv : f.val = esc f.a ++ 42 :: (f.b.flatMap (fun x => esc x ++ [42]) ++ esc f.z) := by unfold Ft.val; rw [if_neg h7, if_pos h4]
      have k4 : (f.k == 4) = true := beq_iff_eq.2 h4
      have hvl : f.val.length = (esc f.a).length + 1 + (f.b.flatMap (fun x => esc x ++ [42])).length + (esc f.z).length := by rw [hv]; simp; omega
      replace h4 := Hd h4
      replace hv := Hd hv
      have y4 := cell_of_row _ _ 4 _ _ _ HI.out.box
      go_wp2_with fail
      refine (escI HI.out f.a (by have := hml.out.2.2.1; omega) (hT.out _ HI.out.below) hbs).mono ?_
      rintro _ w5 ⟨rfl, H5⟩
      replace H5 := Hd H5
      dsimp only []
      go_wp2_with fail
      refine (putI H5.out (esc f.a) _ (bs_strB _ (esc_by _)) (by first | omega | (simp only [List.length_append]; omega) | (simp only [List.length_cons, List.length_nil]; omega) | (simp only [List.length_append, List.length_cons, List.length_nil]; omega)) hbs hXb).mono ?_
      rintro _ w6 ⟨rfl, H6⟩
      replace H6 := Hd H6
      dsimp only []
      go_wp2_with fail
      refine (putI H6.out ([42]) _ (rfl) (by first | omega | (simp only [List.length_append]; omega) | (simp only [List.length_cons, List.length_nil]; omega) | (simp only [List.length_append, List.length_cons, List.length_nil]; omega)) hbs hXb).mono ?_
      rintro _ w7 ⟨rfl, H7⟩
      replace H7 := Hd H7
      dsimp only []
      have y6 := cell_of_row _ _ 6 _ _ _ H7.out.box
      go_wp2_with fail
      have hst2 : WrI base b w.heap.size #[.int .i64 f.k, .slice Ak K ck, .string (baO f.t), .string (baO f.v), .string (baO f.a), .string (baO f.z), .slice Ab B cb] w w7 ((L4 ++ esc f.a ++ [42]) ++ (f.b.take 0).flatMap (fun x => esc x ++ [42])) := by simpa using H7.out
      replace hst2 := Hd hst2
      clear y0 y4 y6
      go_loopw [53] (fun jv wr2 => ∃ (j : Nat), j ≤ B ∧ jv = .int .i64 (j : Int) ∧ Hid (WrI base b w.heap.size #[.int .i64 f.k, .slice Ak K ck, .string (baO f.t), .string (baO f.v), .string (baO f.a), .string (baO f.z), .slice Ab B cb] w wr2 ((L4 ++ esc f.a ++ [42]) ++ (f.b.take j).flatMap (fun x => esc x ++ [42])))) (fun j _ => B - (RowKit.intOf j).toNat)
      case atStart => exact ⟨0, Nat.zero_le _, rfl, hst2⟩
      case round =>
       obtain ⟨j, hj, rfl, HJ⟩ := hrel
       by_cases hjt : j < B
       · obtain ⟨ad, rfl, had, hp⟩ := hpart.out (by omega)
         have hjl : j < f.b.length := by rw [hB.out]; exact hjt
         have hc := hp j hjl
         have hxm := hml.out.2.2.2.2 _ (List.getElem_mem hjl)
         obtain ⟨x, hx⟩ : ∃ x, f.b[j] = x := ⟨_, rfl⟩
         have htk : f.b.take (j + 1) = f.b.take j ++ [f.b[j]] := by rw [List.take_succ_eq_append_getElem hjl]
         rw [hx] at hc hxm htk
         have hft : (f.b.take (j + 1)).flatMap (fun x => esc x ++ [42]) = (f.b.take j).flatMap (fun x => esc x ++ [42]) ++ esc x ++ [42] := by rw [htk, List.flatMap_append]; simp
         have hle : ((f.b.take (j + 1)).flatMap (fun x => esc x ++ [42])).length ≤ (f.b.flatMap (fun x => esc x ++ [42])).length := by
          have : f.b.flatMap (fun x => esc x ++ [42]) = (f.b.take (j + 1)).flatMap (fun x => esc x ++ [42]) ++ (f.b.drop (j + 1)).flatMap (fun x => esc x ++ [42]) := by rw [← List.flatMap_append, List.take_append_drop]
          rw [this, List.length_append]
          omega
         rw [hft] at hle
         simp only [List.length_append, List.length_cons, List.length_nil] at hle
         have yc := (HJ.out.below.cell (p := ad.add j) (by rw [add_block]; exact had)).trans hc
         have j0 : (0 : Int) ≤ (j : Int) := by omega
         have j1 : (j : Int) < (B : Int) := by omega
         obtain ⟨P, hP⟩ : ∃ P, P = (f.b.take j).flatMap (fun x => esc x ++ [42]) := ⟨_, rfl⟩
         rw [← hP] at HJ hft hle
         replace hP := Hd hP
         replace hft := Hd hft
         replace hx := Hd hx
         replace htk := Hd htk
         replace hp := Hd hp
         clear hc
         go_wp2_with fail
         refine (escI HJ.out x (by omega) (hT.out _ HJ.out.below) hbs).mono ?_
         rintro _ v7 ⟨rfl, H7a⟩
         replace H7a := Hd H7a
         dsimp only []
         go_wp2_with fail
         refine (putI H7a.out (esc x) _ (bs_strB _ (esc_by _)) (by simp only [List.length_append, List.length_cons, List.length_nil]; omega) hbs hXb).mono ?_
         rintro _ v8 ⟨rfl, H8⟩
         replace H8 := Hd H8
         dsimp only []
         go_wp2_with fail
         refine (putI H8.out ([42]) _ (rfl) (by simp only [List.length_append, List.length_cons, List.length_nil]; omega) hbs hXb).mono ?_
         rintro _ v9 ⟨rfl, H9⟩
         replace H9 := Hd H9
         dsimp only []
         go_wp2_with fail
         have H9' : WrI base b w.heap.size #[.int .i64 f.k, .slice Ak K ck, .string (baO f.t), .string (baO f.v), .string (baO f.a), .string (baO f.z), .slice (some ad) B cb] w v9 ((L4 ++ esc f.a ++ [42]) ++ (f.b.take (j + 1)).flatMap (fun x => esc x ++ [42])) := by
          rw [hft.out]
          have := H9.out
          simpa only [List.append_assoc] using this
         replace H9' := Hd H9'
         go_roundw
         case rel => exact ⟨j + 1, by omega, by go_num, H9'⟩
         case measure => simp [RowKit.intOf]; omega
       · have hjB : j = B := by omega
         have j1 : ¬ ((j : Int) < (B : Int)) := by omega
         rw [List.take_of_length_le (by rw [hB.out, hjB]; exact Nat.le_refl _)] at HJ
         replace hjB := Hd hjB
         have y5 := cell_of_row _ _ 5 _ _ _ HJ.out.box
         go_wp2_with fail
         refine (escI HJ.out f.z (by have := hml.out.2.2.2.1; omega) (hT.out _ HJ.out.below) hbs).mono ?_
         rintro _ v7 ⟨rfl, H7a⟩
         replace H7a := Hd H7a
         dsimp only []
         go_wp2_with fail
         refine (putI H7a.out (esc f.z) _ (bs_strB _ (esc_by _)) (by simp only [List.length_append, List.length_cons, List.length_nil]; omega) hbs hXb).mono ?_
         rintro _ v8 ⟨rfl, H8⟩
         replace H8 := Hd H8
         dsimp only []
         go_wp2_with fail
         refine (putI H8.out ([41]) _ (rfl) (by simp only [List.length_append, List.length_cons, List.length_nil]; omega) hbs hXb).mono ?_
         rintro _ wz ⟨rfl, HZ⟩
         replace HZ := Hd HZ
         dsimp only []
         go_wp2_with fail
         go_end0
         exact ⟨rfl, hdone.out _ (by rw [hv.out]; have := HZ.out; simpa only [List.append_assoc, List.cons_append, List.nil_append] using this)⟩
    · have k4 : (f.k == 4) = false := beq_eq_false_iff_ne.2 h4
      have hv : f.val = esc f.v := by unfold Ft.val; rw [if_neg h7, if_neg h4]
      rw [hv] at hlen4
      replace h4 := Hd h4
      have y3 := cell_of_row _ _ 3 _ _ _ HI.out.box
      go_wp2_with fail
      refine (escI HI.out f.v (by have := hml.out.2.1; omega) (hT.out _ HI.out.below) hbs).mono ?_
      rintro _ w5 ⟨rfl, H5⟩
      replace H5 := Hd H5
      dsimp only []
      go_wp2_with fail
      refine (putI H5.out (esc f.v) _ (bs_strB _ (esc_by _)) (by first | omega | (simp only [List.length_append]; omega) | (simp only [List.length_cons, List.length_nil]; omega) | (simp only [List.length_append, List.length_cons, List.length_nil]; omega)) hbs hXb).mono ?_
      rintro _ w6 ⟨rfl, H6⟩
      replace H6 := Hd H6
      dsimp only []
      go_wp2_with fail
      refine (putI H6.out ([41]) _ (rfl) (by first | omega | (simp only [List.length_append]; omega) | (simp only [List.length_cons, List.length_nil]; omega) | (simp only [List.length_append, List.length_cons, List.length_nil]; omega)) hbs hXb).mono ?_
      rintro _ wz ⟨rfl, HZ⟩
      replace HZ := Hd HZ
      dsimp only []
      go_wp2_with fail
      go_end0
      exact ⟨rfl, hdone.out _ (by rw [hv]; exact HZ.out)⟩
end Go.Proofs.YtcbiedonmibfaaaGreatDoor
namespace Go.Proofs.YtcbiedonmibfaaaGreatDoor
open Go.RowKit Go.Lib
theorem flat_len {α β : Type} (t : α → List β) (m : α → Nat) (c : Nat) : ∀ l : List α, (∀ x ∈ l, (t x).length ≤ c * m x) → (l.flatMap t).length ≤ c * sumL (l.map m)
 | [], _ => Nat.zero_le _
 | x :: l, h => by
   have h1 := h x (.head _)
   have h2 := flat_len t m c l fun y hy => h y (.tail _ hy)
   rw [List.flatMap_cons, List.map_cons, sumL_cons, List.length_append, Nat.mul_add]
   omega
theorem text_meas (f : Ft) : f.all = true → f.text.length ≤ 3 * f.meas := by
 induction f using Ft.ind with
 | h f ih =>
 intro hall
 have hone := (all_parts hall).1
 have hk : f.g.text.length ≤ 3 * f.g.meas := by
  rw [Gl.text_list, Gl.meas_list]
  refine flat_len Ft.text Ft.meas 3 _ fun x hx => ih x hx ?_
  have := (all_parts hall).2
  rw [Gl.all_list, List.all_eq_true] at this
  exact this _ hx
 have hm : f.meas = 10 + f.t.length + f.v.length + f.a.length + f.z.length + lensB f.b + f.g.meas := rfl
 have hb : (f.b.flatMap (fun x => esc x ++ [42])).length ≤ 3 * lensB f.b := flat_len (fun x : List UInt8 => esc x ++ [42]) (fun x => 5 + x.length) 3 f.b fun x _ => by
  have := esc_len x
  rw [List.length_append, List.length_cons, List.length_nil]
  omega
 have hv := esc_len f.v
 have ha := esc_len f.a
 have hz := esc_len f.z
 have hval : f.val.length ≤ 3 * f.v.length + 3 * f.a.length + 3 * f.z.length + 3 * lensB f.b + 1 := by
  unfold Ft.val
  split
  · simp
  · split
    · rw [List.length_append, List.length_cons, List.length_append]
      omega
    · omega
 have hs : f.sig.length ≤ 2 := by
  unfold Ft.sig opn
  split
  · simp
  · split
    · simp
    · split
      · simp
      · split <;> simp
 rw [text_parts hone]
 simp only [List.length_append, List.length_cons, List.length_nil, nb_len]
 omega
set_option maxRecDepth 8000 in
theorem text14_any (f : Ft) (Ak : Option Addr) (ck : Nat) (Ab : Option Addr) (cb : Nat) (w : World) (hT : Tabs w) (hin : FtIn w (· < w.heap.size) f Ak ck Ab cb) (hm : f.meas < 3000) :
 Calls Tryz.prog 10 #[ftV f Ak ck Ab cb] w fun en w' => en = .returned (.string (if f.right = true then strB f.text else ⟨#[]⟩)) ∧ Below w.heap.size w w' := by
 obtain ⟨W0, hW0⟩ : ∃ W0, W0 = w.alloc (.cells #[.int .i64 f.k, .slice Ak f.kids.length ck, .string (baO f.t), .string (baO f.v), .string (baO f.a), .string (baO f.z), .slice Ab f.b.length cb] 25) := ⟨_, rfl⟩
 have hB0 : Below w.heap.size w W0 := by rw [hW0]; exact (Below.refl _ _).alloc (Nat.le_refl _) _
 have hF0 : W0.heap[w.heap.size]? = some (.cells #[.int .i64 f.k, .slice Ak f.kids.length ck, .string (baO f.t), .string (baO f.v), .string (baO f.a), .string (baO f.z), .slice Ab f.b.length cb] 25 (0, 0)) := by rw [hW0]; exact heap_alloc_new w _
 have hz0 : W0.heap.size = w.heap.size + 1 := by rw [hW0]; simp
 have hin0 : FtIn W0 (· < W0.heap.size) f Ak ck Ab cb := (hin.keep fun p hp => hB0.cell hp).more fun b hb => by omega
 have CR := Hd (right14_any f Ak ck Ab cb W0 hin0 hm)
 obtain ⟨y0, y1, y2, y3, y4, y5, y6⟩ := cells7 hF0
 cases hr : f.right
 · rw [hr] at CR
   unfold ftV at CR ⊢
   rw [if_neg (fun h => by cases h)]
   replace hB0 := Hd hB0
   replace hF0 := Hd hF0
   replace hin := Hd hin
   replace hin0 := Hd hin0
   replace hr := Hd hr
   replace hz0 := Hd hz0
   go_enter Tryz.func10, Tryz.ntmps10
   go_wp2_with fail
   rw [← hW0]
   replace hW0 := Hd hW0
   try go_wp2_with fail
   refine CR.out.mono ?_
   rintro _ w2 ⟨rfl, hb2⟩
   replace hb2 := Hd hb2
   dsimp only []
   go_wp2_with fail
   go_ret
   exact ⟨rfl, hB0.out.trans (hb2.out.mono (by have := hz0.out; omega))⟩
 · have hall : f.all = true := by
    unfold Ft.right at hr
    simp only [Bool.and_eq_true] at hr
    exact hr.2
   have htm := text_meas f hall
   rw [hr] at CR
   rw [if_pos rfl]
   have CW := Hd fun w2 (h2 : Below w.heap.size w w2) => write_any f w2.heap.size w2.heap.size [] (w2.alloc (.cells #[.pointer none, .slice none 0 0] 74)) Ak ck Ab cb hall hm (BldN.new w2) (by simp) (by simp) (Nat.le_refl _)
    (fun W hW => (hT.below h2).below (((Below.refl _ _).alloc (Nat.le_refl _) _).trans hW)) ((hin.keep fun p hp => (Below.alloc h2 h2.size _).cell hp).more fun b hb => by have := h2.size; omega) (by simp; omega)
   unfold ftV at CR CW ⊢
   replace hB0 := Hd hB0
   replace hF0 := Hd hF0
   replace hin := Hd hin
   replace hin0 := Hd hin0
   replace hr := Hd hr
   replace hz0 := Hd hz0
   replace hT := Hd hT
   replace hall := Hd hall
   clear htm
   go_enter Tryz.func10, Tryz.ntmps10
   go_wp2_with fail
   rw [← hW0]
   replace hW0 := Hd hW0
   try go_wp2_with fail
   refine CR.out.mono ?_
   rintro _ w2 ⟨rfl, hb2⟩
   have hF2 := (hb2.block _ (by have := hz0.out; omega)).trans hF0.out
   have hsw2 := hb2.size
   have hF3 : ∀ o : Obj, (w2.alloc o).heap[w.heap.size]? = some (.cells #[.int .i64 f.k, .slice Ak f.kids.length ck, .string (baO f.t), .string (baO f.v), .string (baO f.a), .string (baO f.z), .slice Ab f.b.length cb] 25 (0, 0)) := fun o => by
    rw [Below.heap_alloc _ _ _ (by have := hz0.out; omega)]
    exact hF2
   have z0 := fun o => cell_of_row _ _ 0 _ _ _ (hF3 o)
   have z1 := fun o => cell_of_row _ _ 1 _ _ _ (hF3 o)
   have z2 := fun o => cell_of_row _ _ 2 _ _ _ (hF3 o)
   have z3 := fun o => cell_of_row _ _ 3 _ _ _ (hF3 o)
   have z4 := fun o => cell_of_row _ _ 4 _ _ _ (hF3 o)
   have z5 := fun o => cell_of_row _ _ 5 _ _ _ (hF3 o)
   have z6 := fun o => cell_of_row _ _ 6 _ _ _ (hF3 o)
   have hB2 := hB0.out.trans (hb2.mono (by have := hz0.out; omega))
   have CW2 := Hd (CW.out w2 hB2)
   replace hb2 := Hd hb2
   replace hB2 := Hd hB2
   replace hF2 := Hd hF2
   replace hF3 := Hd hF3
   dsimp only []
   go_wp2_with fail
   refine CW2.out.mono ?_
   rintro _ w3 ⟨rfl, hbl, hb3, _⟩
   rw [List.nil_append] at hbl
   have hle3 : w2.heap.size ≤ w3.heap.size := by have := hb3.size; simp at this; omega
   have CT := Hd (bld_read w2.heap.size w2.heap.size f.text w3 hbl hle3)
   have hB3 := Hd (hB2.out.trans ((((Below.refl _ _).alloc (Nat.le_refl _) _).trans hb3).mono hB2.out.size))
   replace hb3 := Hd hb3
   replace hbl := Hd hbl
   dsimp only []
   go_wp2_with fail
   refine CT.out.mono ?_
   rintro _ w4 ⟨rfl, hb4⟩
   have hB4 := Hd (hB3.out.trans (hb4.mono hB2.out.size))
   replace hb4 := Hd hb4
   dsimp only []
   go_wp2_with fail
   go_ret
   exact ⟨rfl, hB4.out⟩
end Go.Proofs.YtcbiedonmibfaaaGreatDoor
