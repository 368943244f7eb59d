/-
  The law SchemaMore, over what the program's functions are to answer.
-/
import Derived.Test.YtllmffmmfpecaaaDoorMC8
namespace Go.Proofs.YtllmffmmfpecaaaDoor
open Go.RowKit

theorem person_0 : vD [[112, 101, 114, 115, 111, 110]] = 0 := by decide +kernel
theorem noclass_13 : vD [[110, 111, 32, 99, 108, 97, 115, 115]] = 13 := by decide +kernel
theorem v_y {L : List (List UInt8)} (h : vD L = 13) : yD L = [] := by
  unfold vD at h
  unfold yD
  split at h
  · cases h
  · rename_i hv
    rw [if_neg hv]
set_option maxRecDepth 8000 in
set_option maxHeartbeats 8000000 in
theorem more8_bad (A : Option Addr) (cp N : Nat) (L : List (List UInt8)) (A' : Option Addr) (cp' N' : Nat) (T : List (List UInt8)) (turn : Int) (w0 : World) (H : AllH w0) (v1 v2 : Nat) (hv1 : vD L = v1) (hv2 : vD (L ++ T) = v2) (hc1 : v1 = 0 ∨ v1 = 13) (hc2 : v2 = 13) (hN : N ≤ 9223372036854775807) (hN' : N' ≤ 9223372036854775807) (hL : L.length = N) (hT : T.length = N')
    (s1 : SrcO w0 w0.heap.size A cp L) (s2 : SrcO w0 w0.heap.size A' cp' T) (m1 : ∀ l ∈ L, l.length ≤ 9223372036854775807) (m2 : ∀ l ∈ T, l.length ≤ 9223372036854775807) :
    Calls Tryd.prog 5 #[.slice A N cp, .slice A' N' cp', .int .i64 turn] w0 fun e w' => e = .returned (.bool true) ∧ Below w0.heap.size w0 w' := by
  have C1 := Lib.hid (few8_any A cp N w0.heap.size L w0 hN hL s1 m1)
  have C2 := Lib.hid (few8_any A' cp' N' w0.heap.size T w0 hN' hT s2 m2)
  clear m1 m2
  replace H := Lib.hid H
  replace s1 := Lib.hid s1
  replace s2 := Lib.hid s2
  replace hL := Lib.hid hL
  replace hT := Lib.hid hT
  go_enter Tryd.func5, Tryd.ntmps5
  go_wp2_with fail
  refine C1.out.mono ?_
  rintro _ w1 ⟨b1, rfl, hw1, hb1⟩
  subst w1
  rcases b1 with _ | _
  · dsimp only []
    go_wp2_with fail
    go_ret
    exact ⟨rfl, Below.refl _ _⟩
  obtain ⟨n60, l600⟩ := hb1 rfl
  clear hb1 C1
  dsimp only []
  go_wp2_with fail
  refine C2.out.mono ?_
  rintro _ w1 ⟨b2, rfl, hw1, hb2⟩
  subst w1
  rcases b2 with _ | _
  · dsimp only []
    go_wp2_with fail
    go_ret
    exact ⟨rfl, Below.refl _ _⟩
  obtain ⟨n60', l600'⟩ := hb2 rfl
  clear hb2 C2
  have lb : ∀ l ∈ L ++ T, l.length ≤ 600 := fun l hl => (List.mem_append.1 hl).elim (l600 l) (l600' l)
  obtain ⟨nb, hnb⟩ : ∃ nb, N + N' = nb := ⟨_, rfl⟩
  have hnb6 : nb ≤ 120 := by omega
  have hbl : Hid ((L ++ T).length = nb) := Lib.hid (by rw [List.length_append, hL.out, hT.out, hnb])
  have CA := Lib.hid fun (W : World) (hB : Below w0.heap.size w0 W) (hs : SrcO W W.heap.size A cp L) => H.out.all A cp N L W hB (by omega) hL.out hs l600
  have CB := Lib.hid fun (W : World) (A2 : Option Addr) (c2 : Nat) (hB : Below w0.heap.size w0 W) (hs : SrcO W W.heap.size A2 c2 (L ++ T)) => H.out.all A2 c2 nb (L ++ T) W hB (by omega) hbl.out hs lb
  obtain ⟨ma, hma⟩ : ∃ m, (mD L).length = m := ⟨_, rfl⟩
  obtain ⟨ya, hya⟩ : ∃ m, (yD L).length = m := ⟨_, rfl⟩
  obtain ⟨mb, hmb⟩ : ∃ m, (mD (L ++ T)).length = m := ⟨_, rfl⟩
  obtain ⟨yb, hyb⟩ : ∃ m, (yD (L ++ T)).length = m := ⟨_, rfl⟩
  have hma9 : ma ≤ 90 := by rw [← hma]; exact mD_len L
  have hya9 : ya ≤ 90 := by rw [← hya]; exact yD_len L
  have hmb9 : mb ≤ 90 := by rw [← hmb]; exact mD_len _
  have hyb9 : yb ≤ 90 := by rw [← hyb]; exact yD_len _
  have hform1 := all_form L ma ya v1 hma hya hv1
  have hform2 := all_form (L ++ T) mb yb v2 hmb hyb hv2
  replace hma := Lib.hid hma
  replace hya := Lib.hid hya
  replace hmb := Lib.hid hmb
  replace hyb := Lib.hid hyb
  replace hv1 := Lib.hid hv1
  replace hv2 := Lib.hid hv2
  replace hnb := Lib.hid hnb
  have HB0 : Hid (Below w0.heap.size w0 w0) := Lib.hid (Below.refl _ _)
  replace l600 := Lib.hid l600
  replace l600' := Lib.hid l600'
  dsimp only []
  go_wp2_with fail
  refine (CA.out w0 HB0.out s1.out).mono ?_
  rintro ee w1 ⟨hA, hb1⟩
  obtain ⟨A1, c1, A2, c2, rfl, SA, SY⟩ := hform1.out _ _ hA
  clear hA
  have HB1 := Lib.hid (HB0.out.trans (hb1.mono HB0.out.size))
  have z1 := HB1.out.size
  replace s1 := Lib.hid (s1.out.next8 hb1)
  replace s2 := Lib.hid (s2.out.next8 hb1)
  replace SA := Lib.hid SA
  replace SY := Lib.hid SY
  clear hb1
  dsimp only []
  clear CA
  go_wp2_with (first | (at_builtin; refine append_any rfl (.tmp 40) (.tmp 41) rfl w1.heap.size _ [] 0 rfl rfl (OwnO.lit w1 w1.heap.size (Nat.le_refl _)) _ A N cp L hL.out rfl (s1.out.next8 ((Below.refl _ _).alloc (Nat.le_refl _) (.cells #[] 9))) N (by omega) (by omega) (by simp) ?_; intro A5 c5 w5 ho5 hb5; have HO5 := Lib.hid ho5; have BB5 := Lib.hid (((Below.refl _ _).alloc (Nat.le_refl _) _).trans hb5); clear ho5 hb5) | (at_builtin; refine append_any rfl (.tmp 42) (.tmp 43) rfl w1.heap.size _ L N hL.out rfl HO5.out _ A' N' cp' T hT.out rfl (s2.out.next8 BB5.out) nb (by have := hnb.out; omega) (by omega) BB5.out.size ?_; intro A6 c6 w6 ho6 hb6; have HO6 := Lib.hid ho6; have BB6 := Lib.hid (BB5.out.trans hb6); clear ho6 hb6))
  have HB6 := Lib.hid (HB1.out.trans (BB6.out.mono HB1.out.size))
  have z6 := HB6.out.size
  replace s1 := Lib.hid (s1.out.next8 BB6.out)
  replace s2 := Lib.hid (s2.out.next8 BB6.out)
  replace SA := Lib.hid (SA.out.next8 BB6.out)
  replace SY := Lib.hid (SY.out.next8 BB6.out)
  have SBo := Lib.hid (OwnO.src HO6.out)
  clear HO5 HO6 BB5 BB6
  refine (CB.out w6 A6 c6 HB6.out SBo.out).mono ?_
  rintro ee w7 ⟨hA, hb7⟩
  obtain ⟨A7, c7, A8, c8, rfl, SB, SZ⟩ := hform2.out _ _ hA
  clear hA
  have HB7 := Lib.hid (HB6.out.trans (hb7.mono HB6.out.size))
  have z7 := HB7.out.size
  replace s1 := Lib.hid (s1.out.next8 hb7)
  replace s2 := Lib.hid (s2.out.next8 hb7)
  replace SA := Lib.hid (SA.out.next8 hb7)
  replace SY := Lib.hid (SY.out.next8 hb7)
  replace SBo := Lib.hid (SBo.out.next8 hb7)
  replace SB := Lib.hid SB
  replace SZ := Lib.hid SZ
  clear hb7
  dsimp only []
  obtain rfl : yb = 0 := by
    have := hyb.out
    rw [v_y (hv2.out.trans hc2)] at this
    exact this.symm
  subst hc2
  obtain ⟨mp, hmp⟩ : ∃ m, (mD [[112, 101, 114, 115, 111, 110]]).length = m := ⟨_, rfl⟩
  obtain ⟨yp, hyp⟩ : ∃ m, (yD [[112, 101, 114, 115, 111, 110]]).length = m := ⟨_, rfl⟩
  have hformP := all_form [[112, 101, 114, 115, 111, 110]] mp yp 0 hmp hyp person_0
  have CP := Lib.hid fun (W : World) (ad : Option Addr) (hB : Below w0.heap.size w0 W) (h1 : SrcO W W.heap.size ad 1 [[112, 101, 114, 115, 111, 110]]) => H.out.all ad 1 1 [[112, 101, 114, 115, 111, 110]] W hB (by omega) rfl h1 (by decide)
  clear hmp hyp
  rcases hc1 with rfl | rfl
  · go_wp2_with fail
    refine (CP.out _ _ (HB7.out.alloc z7 _) ((SrcO.one w7 [112, 101, 114, 115, 111, 110]).more (by simp))).mono ?_
    rintro ee w9 ⟨hA, hb9⟩
    obtain ⟨A9, c9, B9, d9, rfl, _, _⟩ := hformP.out _ _ hA
    have HB9 := Lib.hid ((HB7.out.alloc z7 (.cells #[.string (baO [112, 101, 114, 115, 111, 110])] 9)).trans (hb9.mono (by simp; omega)))
    clear hA hb9
    dsimp only []
    go_wp2_with fail
    go_ret
    exact ⟨rfl, HB9.out⟩
  · go_wp2_with fail
    refine (CP.out _ _ (HB7.out.alloc z7 _) ((SrcO.one w7 [112, 101, 114, 115, 111, 110]).more (by simp))).mono ?_
    rintro ee w9 ⟨hA, hb9⟩
    obtain ⟨A9, c9, B9, d9, rfl, _, _⟩ := hformP.out _ _ hA
    have HB9 := Lib.hid ((HB7.out.alloc z7 (.cells #[.string (baO [112, 101, 114, 115, 111, 110])] 9)).trans (hb9.mono (by simp; omega)))
    clear hA hb9
    dsimp only []
    go_wp2_with fail
    go_ret
    exact ⟨rfl, HB9.out⟩
end Go.Proofs.YtllmffmmfpecaaaDoor
