/-
  The law SchemaMore, over what the program's functions are to answer.
-/
import Derived.Test.YtllmffmmfpecaaaDoorMoreWalk8
namespace Go.Proofs.YtllmffmmfpecaaaDoor
open Go.RowKit

theorem turn_at (turn : Int) (nb : Nat) (h0 : 0 < nb) (h1 : nb ≤ 120) : ∃ k : Nat, (wrap64 (turn.tmod (nb : Int) + (nb : Int))).tmod (nb : Int) = (k : Int) ∧ k < nb := by
  have p : (0 : Int) < (nb : Int) := by omega
  have a1 := Int.tmod_lt_of_pos turn p
  have a2 := Int.lt_tmod_of_pos turn p
  have e : wrap64 (turn.tmod (nb : Int) + (nb : Int)) = turn.tmod (nb : Int) + (nb : Int) := IntWalk.wrap64_in _ (by omega)
  rw [e]
  have b1 := Int.tmod_lt_of_pos (turn.tmod (nb : Int) + (nb : Int)) p
  have b2 : 0 ≤ (turn.tmod (nb : Int) + (nb : Int)).tmod (nb : Int) := Int.tmod_nonneg _ (by omega)
  exact ⟨((turn.tmod (nb : Int) + (nb : Int)).tmod (nb : Int)).toNat, by omega, by omega⟩
theorem m_yes {L : List (List UInt8)} (h : vD L = 0) : validC L = true ∧ mD L = mustD L ∧ yD L = restD L := by
  unfold vD at h
  unfold mD yD
  split at h
  · rename_i hv
    exact ⟨hv, if_pos hv, if_pos hv⟩
  · cases h
set_option maxRecDepth 8000 in
set_option maxHeartbeats 8000000 in
theorem more8_ok (A : Option Addr) (cp N : Nat) (L : List (List UInt8)) (A' : Option Addr) (cp' N' : Nat) (T : List (List UInt8)) (turn : Int) (w0 : World) (H : AllH w0) (v1 v2 : Nat) (hv1 : vD L = v1) (hv2 : vD (L ++ T) = v2) (hc1 : v1 = 0) (hc2 : v2 = 0) (hN : N ≤ 9223372036854775807) (hN' : N' ≤ 9223372036854775807) (hL : L.length = N) (hT : T.length = N')
    (s1 : SrcO w0 w0.heap.size A cp L) (s2 : SrcO w0 w0.heap.size A' cp' T) (m1 : ∀ l ∈ L, l.length ≤ 9223372036854775807) (m2 : ∀ l ∈ T, l.length ≤ 9223372036854775807) :
    Calls Tryd.prog 5 #[.slice A N cp, .slice A' N' cp', .int .i64 turn] w0 fun e w' => e = .returned (.bool true) ∧ Below w0.heap.size w0 w' := by
  have C1 := Lib.hid (few8_any A cp N w0.heap.size L w0 hN hL s1 m1)
  have C2 := Lib.hid (few8_any A' cp' N' w0.heap.size T w0 hN' hT s2 m2)
  clear m1 m2
  replace H := Lib.hid H
  replace s1 := Lib.hid s1
  replace s2 := Lib.hid s2
  replace hL := Lib.hid hL
  replace hT := Lib.hid hT
  go_enter Tryd.func5, Tryd.ntmps5
  go_wp2_with fail
  refine C1.out.mono ?_
  rintro _ w1 ⟨b1, rfl, hw1, hb1⟩
  subst w1
  rcases b1 with _ | _
  · dsimp only []
    go_wp2_with fail
    go_ret
    exact ⟨rfl, Below.refl _ _⟩
  obtain ⟨n60, l600⟩ := hb1 rfl
  clear hb1 C1
  dsimp only []
  go_wp2_with fail
  refine C2.out.mono ?_
  rintro _ w1 ⟨b2, rfl, hw1, hb2⟩
  subst w1
  rcases b2 with _ | _
  · dsimp only []
    go_wp2_with fail
    go_ret
    exact ⟨rfl, Below.refl _ _⟩
  obtain ⟨n60', l600'⟩ := hb2 rfl
  clear hb2 C2
  have lb : ∀ l ∈ L ++ T, l.length ≤ 600 := fun l hl => (List.mem_append.1 hl).elim (l600 l) (l600' l)
  obtain ⟨nb, hnb⟩ : ∃ nb, N + N' = nb := ⟨_, rfl⟩
  have hnb6 : nb ≤ 120 := by omega
  have hbl : Hid ((L ++ T).length = nb) := Lib.hid (by rw [List.length_append, hL.out, hT.out, hnb])
  have CA := Lib.hid fun (W : World) (hB : Below w0.heap.size w0 W) (hs : SrcO W W.heap.size A cp L) => H.out.all A cp N L W hB (by omega) hL.out hs l600
  have CB := Lib.hid fun (W : World) (A2 : Option Addr) (c2 : Nat) (hB : Below w0.heap.size w0 W) (hs : SrcO W W.heap.size A2 c2 (L ++ T)) => H.out.all A2 c2 nb (L ++ T) W hB (by omega) hbl.out hs lb
  obtain ⟨ma, hma⟩ : ∃ m, (mD L).length = m := ⟨_, rfl⟩
  obtain ⟨ya, hya⟩ : ∃ m, (yD L).length = m := ⟨_, rfl⟩
  obtain ⟨mb, hmb⟩ : ∃ m, (mD (L ++ T)).length = m := ⟨_, rfl⟩
  obtain ⟨yb, hyb⟩ : ∃ m, (yD (L ++ T)).length = m := ⟨_, rfl⟩
  have hma9 : ma ≤ 90 := by rw [← hma]; exact mD_len L
  have hya9 : ya ≤ 90 := by rw [← hya]; exact yD_len L
  have hmb9 : mb ≤ 90 := by rw [← hmb]; exact mD_len _
  have hyb9 : yb ≤ 90 := by rw [← hyb]; exact yD_len _
  have hform1 := all_form L ma ya v1 hma hya hv1
  have hform2 := all_form (L ++ T) mb yb v2 hmb hyb hv2
  replace hma := Lib.hid hma
  replace hya := Lib.hid hya
  replace hmb := Lib.hid hmb
  replace hyb := Lib.hid hyb
  replace hv1 := Lib.hid hv1
  replace hv2 := Lib.hid hv2
  replace hnb := Lib.hid hnb
  have HB0 : Hid (Below w0.heap.size w0 w0) := Lib.hid (Below.refl _ _)
  replace l600 := Lib.hid l600
  replace l600' := Lib.hid l600'
  dsimp only []
  go_wp2_with fail
  refine (CA.out w0 HB0.out s1.out).mono ?_
  rintro ee w1 ⟨hA, hb1⟩
  obtain ⟨A1, c1, A2, c2, rfl, SA, SY⟩ := hform1.out _ _ hA
  clear hA
  have HB1 := Lib.hid (HB0.out.trans (hb1.mono HB0.out.size))
  have z1 := HB1.out.size
  replace s1 := Lib.hid (s1.out.next8 hb1)
  replace s2 := Lib.hid (s2.out.next8 hb1)
  replace SA := Lib.hid SA
  replace SY := Lib.hid SY
  clear hb1
  dsimp only []
  clear CA
  go_wp2_with (first | (at_builtin; refine append_any rfl (.tmp 40) (.tmp 41) rfl w1.heap.size _ [] 0 rfl rfl (OwnO.lit w1 w1.heap.size (Nat.le_refl _)) _ A N cp L hL.out rfl (s1.out.next8 ((Below.refl _ _).alloc (Nat.le_refl _) (.cells #[] 9))) N (by omega) (by omega) (by simp) ?_; intro A5 c5 w5 ho5 hb5; have HO5 := Lib.hid ho5; have BB5 := Lib.hid (((Below.refl _ _).alloc (Nat.le_refl _) _).trans hb5); clear ho5 hb5) | (at_builtin; refine append_any rfl (.tmp 42) (.tmp 43) rfl w1.heap.size _ L N hL.out rfl HO5.out _ A' N' cp' T hT.out rfl (s2.out.next8 BB5.out) nb (by have := hnb.out; omega) (by omega) BB5.out.size ?_; intro A6 c6 w6 ho6 hb6; have HO6 := Lib.hid ho6; have BB6 := Lib.hid (BB5.out.trans hb6); clear ho6 hb6))
  have HB6 := Lib.hid (HB1.out.trans (BB6.out.mono HB1.out.size))
  have z6 := HB6.out.size
  replace s1 := Lib.hid (s1.out.next8 BB6.out)
  replace s2 := Lib.hid (s2.out.next8 BB6.out)
  replace SA := Lib.hid (SA.out.next8 BB6.out)
  replace SY := Lib.hid (SY.out.next8 BB6.out)
  have SBo := Lib.hid (OwnO.src HO6.out)
  clear HO5 HO6 BB5 BB6
  refine (CB.out w6 A6 c6 HB6.out SBo.out).mono ?_
  rintro ee w7 ⟨hA, hb7⟩
  obtain ⟨A7, c7, A8, c8, rfl, SB, SZ⟩ := hform2.out _ _ hA
  clear hA
  have HB7 := Lib.hid (HB6.out.trans (hb7.mono HB6.out.size))
  have z7 := HB7.out.size
  replace s1 := Lib.hid (s1.out.next8 hb7)
  replace s2 := Lib.hid (s2.out.next8 hb7)
  replace SA := Lib.hid (SA.out.next8 hb7)
  replace SY := Lib.hid (SY.out.next8 hb7)
  replace SBo := Lib.hid (SBo.out.next8 hb7)
  replace SB := Lib.hid SB
  replace SZ := Lib.hid SZ
  clear hb7
  dsimp only []
  have e1 := m_yes (hv1.out.trans hc1)
  have e2 := m_yes (hv2.out.trans hc2)
  have hmm : Hid (∀ x ∈ mD L, x ∈ mD (L ++ T)) := Lib.hid (by rw [e1.2.1, e2.2.1]; exact fun x hx => must_mono L T x hx)
  have hyy : Hid (∀ x ∈ yD L, x ∈ mD (L ++ T) ∨ x ∈ yD (L ++ T)) := Lib.hid (by rw [e1.2.2, e2.2.1, e2.2.2]; exact fun x hx => rest_mono L T x hx)
  have hval := Lib.hid e2.1
  clear e1 e2
  subst hc1 hc2
  go_wp2_with fail
  go_loop [17] (fun iv => ∃ (i : Nat), i ≤ ma ∧ iv = .int .i64 (i : Int) ∧ Hid (i ≤ ma)) (fun iv => ma - (intOf iv).toNat)
  case atStart => exact ⟨0, Nat.zero_le _, rfl, Lib.hid (Nat.zero_le _)⟩
  case round =>
    obtain ⟨i, hi, rfl, _⟩ := hrel
    by_cases hlt : i < ma
    · obtain ⟨ad, x, hA, hx, hcc⟩ := SA.out.get i (by rw [hma.out]; exact hlt)
      have hcell := hcc w7 (Below.refl _ _)
      have i0 : (0 : Int) ≤ (i : Int) := by omega
      have i1 : (i : Int) < (ma : Int) := by omega
      have CH := Lib.hid (lawHas_any (baO x) A7 c7 mb _ (mD (L ++ T)) w7 (by omega) hmb.out SB.out)
      rw [baO_list, decide_eq_true (hmm.out x (List.mem_of_getElem? hx))] at CH
      subst hA
      clear hx hcc
      go_wp2_with fail
      refine CH.out.mono ?_
      rintro _ w9 ⟨rfl, hw9⟩
      subst w9
      clear CH
      dsimp only []
      go_wp2_with fail
      go_roundw
      case rel =>
        refine ⟨trivial, ?_⟩
        (repeat apply Exists.intro)
        exact ⟨⟨i + 1, by omega, by go_num, Lib.hid (by omega)⟩, rfl⟩
      case measure => simp [intOf]; omega
    · obtain rfl : ma = i := by omega
      have i1 : ¬ ((ma : Int) < (ma : Int)) := by omega
      go_wp2_with fail
      go_loop [18] (fun iv => ∃ (i : Nat), i ≤ ya ∧ iv = .int .i64 (i : Int) ∧ Hid (i ≤ ya)) (fun iv => ya - (intOf iv).toNat)
      case atStart => exact ⟨0, Nat.zero_le _, rfl, Lib.hid (Nat.zero_le _)⟩
      case round =>
        obtain ⟨i, hi, rfl, _⟩ := hrel
        by_cases hlt : i < ya
        · obtain ⟨ad, x, hA, hx, hcc⟩ := SY.out.get i (by rw [hya.out]; exact hlt)
          have hcell := hcc w7 (Below.refl _ _)
          have i0 : (0 : Int) ≤ (i : Int) := by omega
          have i1 : (i : Int) < (ya : Int) := by omega
          have CH := Lib.hid (lawHas_any (baO x) A7 c7 mb _ (mD (L ++ T)) w7 (by omega) hmb.out SB.out)
          have CI := Lib.hid (lawHas_any (baO x) A8 c8 yb _ (yD (L ++ T)) w7 (by omega) hyb.out SZ.out)
          have hor := hyy.out x (List.mem_of_getElem? hx)
          rw [baO_list] at CH CI
          subst hA
          clear hx hcc
          by_cases hin : x ∈ mD (L ++ T)
          · rw [decide_eq_true hin] at CH
            clear hin hor CI
            go_wp2_with fail
            refine CH.out.mono ?_
            rintro _ w9 ⟨rfl, hw9⟩
            subst w9
            clear CH
            dsimp only []
            go_wp2_with fail
            go_round
            case rel => exact ⟨i + 1, by omega, by go_num, Lib.hid (by omega)⟩
            case measure => simp [intOf]; omega
          · rw [decide_eq_false hin] at CH
            rw [decide_eq_true (hor.resolve_left hin)] at CI
            clear hin hor
            go_wp2_with fail
            refine CH.out.mono ?_
            rintro _ w9 ⟨rfl, hw9⟩
            subst w9
            clear CH
            dsimp only []
            go_wp2_with fail
            refine CI.out.mono ?_
            rintro _ w9 ⟨rfl, hw9⟩
            subst w9
            clear CI
            dsimp only []
            go_wp2_with fail
            go_round
            case rel => exact ⟨i + 1, by omega, by go_num, Lib.hid (by omega)⟩
            case measure => simp [intOf]; omega
        · obtain rfl : ya = i := by omega
          have i1 : ¬ ((ya : Int) < (ya : Int)) := by omega
          obtain ⟨mn, hmn⟩ : ∃ m, (mD [[110, 111, 32, 99, 108, 97, 115, 115]]).length = m := ⟨_, rfl⟩
          obtain ⟨yn, hyn⟩ : ∃ m, (yD [[110, 111, 32, 99, 108, 97, 115, 115]]).length = m := ⟨_, rfl⟩
          have hformN := all_form [[110, 111, 32, 99, 108, 97, 115, 115]] mn yn 13 hmn hyn noclass_13
          have CN := Lib.hid fun (W : World) (ad : Option Addr) (hB : Below w0.heap.size w0 W) (h1 : SrcO W W.heap.size ad 1 [[110, 111, 32, 99, 108, 97, 115, 115]]) => H.out.all ad 1 1 [[110, 111, 32, 99, 108, 97, 115, 115]] W hB (by omega) rfl h1 (by decide)
          clear hmn hyn
          by_cases hn0 : nb = 0
          · subst hn0
            go_wp2_with fail
            refine (CN.out _ _ (HB7.out.alloc z7 _) ((SrcO.one w7 [110, 111, 32, 99, 108, 97, 115, 115]).more (by simp))).mono ?_
            rintro ee w9 ⟨hA, hb9⟩
            obtain ⟨A9, c9, B9, d9, rfl, _, _⟩ := hformN.out _ _ hA
            have HB9 := Lib.hid ((HB7.out.alloc z7 (.cells #[.string (baO [110, 111, 32, 99, 108, 97, 115, 115])] 9)).trans (hb9.mono (by simp; omega)))
            clear hA hb9
            dsimp only []
            go_wp2_with fail
            go_ret
            exact ⟨rfl, HB9.out⟩
          · have n1 : (0 : Int) < (nb : Int) := by omega
            obtain ⟨kk, hkk, hkl⟩ := turn_at turn nb (by omega) hnb6
            have hcc := SBo.out.le
            rw [hbl.out] at hcc
            obtain ⟨dk, hdk⟩ : ∃ dk, dk = nb - kk := ⟨_, rfl⟩
            obtain ⟨cd, hcd⟩ : ∃ cd, cd = c6 - kk := ⟨_, rfl⟩
            obtain ⟨AD, hAD⟩ : ∃ AD, AD = (if c6 = kk then A6 else A6.map (·.add kk)) := ⟨_, rfl⟩
            have hcf := fun W => cut_from A6 nb c6 kk (by omega) hcc W
            rw [← hAD, ← hcd, ← hdk] at hcf
            have SD : Hid (SrcO w7 w7.heap.size AD cd ((L ++ T).drop kk)) := Lib.hid (by
              rw [hAD, hcd]
              exact SBo.out.drop kk)
            have hDl : Hid (((L ++ T).drop kk).length = dk) := Lib.hid (by rw [List.length_drop, hbl.out, hdk])
            obtain ⟨nx, hnx⟩ : ∃ nx, dk + nb = nx := ⟨_, rfl⟩
            have hdk6 : dk ≤ nb := by omega
            have hXl : Hid (((L ++ T).drop kk ++ (L ++ T)).length = nx) := Lib.hid (by rw [List.length_append, hDl.out, hbl.out, hnx])
            have hXs : ∀ s, s ∈ (L ++ T).drop kk ++ (L ++ T) ↔ s ∈ L ++ T := fun s => by
              rw [List.mem_append]
              exact ⟨fun h => h.elim List.mem_of_mem_drop id, .inr⟩
            have hXv : vD ((L ++ T).drop kk ++ (L ++ T)) = 0 := by
              unfold vD
              rw [valid_set _ _ hXs, if_pos hval.out]
            have hXm : mD ((L ++ T).drop kk ++ (L ++ T)) = mD (L ++ T) := by
              unfold mD
              rw [valid_set _ _ hXs, must_set _ _ hXs]
            have hXy : yD ((L ++ T).drop kk ++ (L ++ T)) = yD (L ++ T) := by
              unfold yD
              rw [valid_set _ _ hXs, rest_set _ _ hXs]
            have hform3 := all_form ((L ++ T).drop kk ++ (L ++ T)) mb yb 0 (by rw [hXm, hmb.out]) (by rw [hXy, hyb.out]) hXv
            rw [hXm, hXy] at hform3
            have CX := Lib.hid fun (W : World) (A2 : Option Addr) (c2 : Nat) (hB : Below w0.heap.size w0 W) (hs : SrcO W W.heap.size A2 c2 ((L ++ T).drop kk ++ (L ++ T))) => H.out.all A2 c2 nx ((L ++ T).drop kk ++ (L ++ T)) W hB (by omega) hXl.out hs (fun l hl => lb l ((hXs l).1 hl))
            clear hXs hXv hXm hXy
            have k0 : (0 : Int) ≤ (kk : Int) := by omega
            replace hdk := Lib.hid hdk
            replace hcd := Lib.hid hcd
            replace hAD := Lib.hid hAD
            have nz : ¬ (nb : Int) = 0 := by omega
            go_wp2_with (first | (at_builtin; refine append_any rfl (.tmp 127) (.tmp 130) rfl w7.heap.size _ [] 0 rfl rfl (OwnO.lit w7 w7.heap.size (Nat.le_refl _)) _ AD dk cd ((L ++ T).drop kk) hDl.out rfl (SD.out.next8 ((Below.refl _ _).alloc (Nat.le_refl _) (.cells #[] 9))) dk (by omega) (by omega) (by simp) ?_; intro Ap cq wp ho5 hb5; have HOp := Lib.hid ho5; have BBp := Lib.hid (((Below.refl _ _).alloc (Nat.le_refl _) _).trans hb5); clear ho5 hb5) | (at_builtin; refine append_any rfl (.tmp 131) (.tmp 132) rfl w7.heap.size _ ((L ++ T).drop kk) dk hDl.out rfl HOp.out _ A6 nb c6 (L ++ T) hbl.out rfl (SBo.out.next8 BBp.out) nx (by omega) (by omega) BBp.out.size ?_; intro Aq cr wq ho6 hb6; have HOq := Lib.hid ho6; have BBq := Lib.hid (BBp.out.trans hb6); clear ho6 hb6))
            have HBq := Lib.hid (HB7.out.trans (BBq.out.mono HB7.out.size))
            have SX := Lib.hid (OwnO.src HOq.out)
            have T1 := Lib.hid (SB.out.next8 BBq.out)
            have T2 := Lib.hid (SZ.out.next8 BBq.out)
            clear HOq HOp BBp
            refine (CX.out wq Aq cr HBq.out SX.out).mono ?_
            rintro ee w8 ⟨hA, hb8⟩
            obtain ⟨Au, cu, Av, cv, rfl, SU, SV⟩ := hform3.out _ _ hA
            have HB8 := Lib.hid (HBq.out.trans (hb8.mono HBq.out.size))
            replace T1 := Lib.hid (T1.out.next8 hb8)
            replace T2 := Lib.hid (T2.out.next8 hb8)
            replace SU := Lib.hid SU
            replace SV := Lib.hid SV
            clear hA hb8 CX
            have CS1 := Lib.hid (same8_any Au A7 cu c7 mb _ w8 hmb.out (by omega) SU.out T1.out)
            dsimp only []
            go_wp2_with fail
            refine CS1.out.mono ?_
            rintro _ w9 ⟨rfl, hb9⟩
            have HB9 := Lib.hid (HB8.out.trans (hb9.mono HB8.out.size))
            replace T2 := Lib.hid (T2.out.next8 hb9)
            replace SV := Lib.hid (SV.out.next8 hb9)
            clear hb9 CS1
            have CS2 := Lib.hid (same8_any Av A8 cv c8 yb _ w9 hyb.out (by omega) SV.out T2.out)
            dsimp only []
            go_wp2_with fail
            refine CS2.out.mono ?_
            rintro _ w10 ⟨rfl, hb10⟩
            have HB10 := Lib.hid (HB9.out.trans (hb10.mono HB9.out.size))
            have z10 := HB10.out.size
            clear hb10 CS2
            dsimp only []
            go_wp2_with fail
            refine (CN.out _ _ (HB10.out.alloc z10 _) ((SrcO.one w10 [110, 111, 32, 99, 108, 97, 115, 115]).more (by simp))).mono ?_
            rintro ee w11 ⟨hA, hb11⟩
            obtain ⟨A9, c9, B9, d9, rfl, _, _⟩ := hformN.out _ _ hA
            have HB11 := Lib.hid ((HB10.out.alloc z10 (.cells #[.string (baO [110, 111, 32, 99, 108, 97, 115, 115])] 9)).trans (hb11.mono (by simp; omega)))
            clear hA hb11
            dsimp only []
            go_wp2_with fail
            go_ret
            exact ⟨rfl, HB11.out⟩
theorem v_or (L : List (List UInt8)) : vD L = 0 ∨ vD L = 13 := by
  unfold vD
  split
  · exact .inl rfl
  · exact .inr rfl
theorem more8_walk (A : Option Addr) (cp N : Nat) (L : List (List UInt8)) (A' : Option Addr) (cp' N' : Nat) (T : List (List UInt8)) (turn : Int) (w0 : World) (H : AllH w0) (hN : N ≤ 9223372036854775807) (hN' : N' ≤ 9223372036854775807) (hL : L.length = N) (hT : T.length = N')
    (s1 : SrcO w0 w0.heap.size A cp L) (s2 : SrcO w0 w0.heap.size A' cp' T) (m1 : ∀ l ∈ L, l.length ≤ 9223372036854775807) (m2 : ∀ l ∈ T, l.length ≤ 9223372036854775807) :
    Calls Tryd.prog 5 #[.slice A N cp, .slice A' N' cp', .int .i64 turn] w0 fun e w' => e = .returned (.bool true) ∧ Below w0.heap.size w0 w' := by
  rcases v_or (L ++ T) with h2 | h2
  · have h1 : vD L = 0 := by
      have := (m_yes h2).1
      rw [valid_app, Bool.and_eq_true] at this
      unfold vD
      rw [if_pos this.1]
    exact more8_ok A cp N L A' cp' N' T turn w0 H _ _ h1 h2 rfl rfl hN hN' hL hT s1 s2 m1 m2
  · exact more8_bad A cp N L A' cp' N' T turn w0 H _ _ rfl h2 (v_or L) rfl hN hN' hL hT s1 s2 m1 m2
end Go.Proofs.YtllmffmmfpecaaaDoor
