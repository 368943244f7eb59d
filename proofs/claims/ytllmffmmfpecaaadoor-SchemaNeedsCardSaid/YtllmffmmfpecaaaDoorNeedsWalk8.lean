/-
  The law SchemaNeeds, over what the program's functions are to answer.
-/
import Derived.Test.YtllmffmmfpecaaaDoorMC8
import Derived.Test.YtllmffmmfpecaaaDoorCheckH
import Derived.Test.YtllmffmmfpecaaaDoorFindsH
import Derived.Deep.RegionLaw
namespace Go.Proofs.YtllmffmmfpecaaaDoor
open Go.RowKit

theorem person_has : checkD [[112, 101, 114, 115, 111, 110]] [[99, 110], [115, 110], [111, 98, 106, 101, 99, 116, 67, 108, 97, 115, 115]] = 0 := by decide +kernel
theorem att_self : ∀ a ∈ atts, (findA a.name).isSome = true ∧ nameA a.name = a.name := by decide +kernel
/-- One attribute more than what must be there. -/
theorem check_one (cs : List (List UInt8)) (x : List UInt8) (hv : validC cs = true) (hg : goodC cs = true) (hx : (findA x).isSome = true ∧ nameA x = x) :
    checkD cs (x :: mustD cs) = if x ∈ mustD cs ∨ x ∈ restD cs then 0 else 2 := by
  have ha : ∀ y ∈ x :: mustD cs, (findA y).isSome = true ∧ nameA y = y := fun y hy => by
    rcases List.mem_cons.1 hy with rfl | hy
    · exact hx
    · exact must_name cs y (.inl hy)
  rw [check_names cs _ hv hg ha, if_pos (fun y hy => List.mem_cons_of_mem _ hy)]
  by_cases h : x ∈ mustD cs ∨ x ∈ restD cs
  · rw [if_pos h, if_pos]
    intro y hy
    rcases List.mem_cons.1 hy with rfl | hy
    · exact h
    · exact .inl hy
  · rw [if_neg h, if_neg]
    exact fun hall => h (hall x (List.mem_cons_self ..))
theorem name_short (cs : List (List UInt8)) (x : List UInt8) (h : x ∈ mustD cs ∨ x ∈ restD cs) : x.length ≤ 600 := by
  have : ∃ k ∈ clss, x ∈ k.must ∨ x ∈ k.may := by
    rcases h with h | h
    · obtain ⟨k, hk, _, hx⟩ := (mem_gather _ _ _).1 h
      exact ⟨k, hk, .inl hx⟩
    · obtain ⟨k, hk, _, hx⟩ := (mem_gather _ _ _).1 (List.mem_filter.1 h).1
      exact ⟨k, hk, .inr hx⟩
  obtain ⟨k, hk, hx⟩ := this
  obtain ⟨_, _, h1, h2⟩ := cls_few k hk
  rcases hx with hx | hx
  · have := h1 x hx
    omega
  · have := h2 x hx
    omega
/-- What the program's Attributes answers. -/
structure AttrH (w0 : World) : Prop where
  attributes : ∀ (W : World), Below w0.heap.size w0 W → Calls Tryd.prog 12 #[] W fun e w' => ∃ g cp : Nat, e = .returned (.slice (some ⟨g, 0, none⟩) 20 cp) ∧ AttS w' w'.heap.size g ∧ Below W.heap.size W w'
theorem AttrH.of {w0 : World} (h : FindsH w0) : AttrH w0 := ⟨h.attributes⟩
set_option maxRecDepth 8000 in
set_option maxHeartbeats 8000000 in
theorem needs8_walk (A : Option Addr) (cp N : Nat) (L : List (List UInt8)) (pick : Int) (w0 : World) (H : AllH w0) (HK : CheckH w0) (HA : AttrH w0) (hN : N ≤ 9223372036854775807) (hL : L.length = N)
    (s1 : SrcO w0 w0.heap.size A cp L) (m1 : ∀ l ∈ L, l.length ≤ 9223372036854775807) :
    Calls Tryd.prog 6 #[.slice A N cp, .int .i64 pick] w0 fun e w' => e = .returned (.bool true) ∧ Below w0.heap.size w0 w' := by
  have C1 := Lib.hid (few8_any A cp N w0.heap.size L w0 hN hL s1 m1)
  clear m1
  replace H := Lib.hid H
  replace HK := Lib.hid HK
  replace HA := Lib.hid HA
  replace s1 := Lib.hid s1
  replace hL := Lib.hid hL
  go_enter Tryd.func6, Tryd.ntmps6
  go_wp2_with fail
  refine C1.out.mono ?_
  rintro _ w1 ⟨b1, rfl, hw1, hb1⟩
  subst w1
  rcases b1 with _ | _
  · dsimp only []
    go_wp2_with fail
    go_ret
    exact ⟨rfl, Below.refl _ _⟩
  obtain ⟨n60, l600⟩ := hb1 rfl
  clear hb1 C1
  have CA := Lib.hid (H.out.all A cp N L w0 (Below.refl _ _) (by omega) hL.out s1.out l600)
  have CK := Lib.hid fun (A2 : Option Addr) (c2 n2 : Nat) (T : List (List UInt8)) (W : World) (hB : Below w0.heap.size w0 W) (h1 : SrcO W W.heap.size A cp L) (h2 : SrcO W W.heap.size A2 c2 T) (hn : T.length = n2) (hn1 : n2 ≤ 1000) (ht : ∀ l ∈ T, l.length ≤ 600) => HK.out.check A cp N L A2 c2 n2 T W hB (by omega) hn1 hL.out hn h1 h2 l600 ht
  obtain ⟨m, hm⟩ : ∃ m, (mD L).length = m := ⟨_, rfl⟩
  obtain ⟨y, hy⟩ : ∃ y, (yD L).length = y := ⟨_, rfl⟩
  obtain ⟨v, hv⟩ : ∃ v, vD L = v := ⟨_, rfl⟩
  have hm9 : m ≤ 90 := by rw [← hm]; exact mD_len L
  have hy9 : y ≤ 90 := by rw [← hy]; exact yD_len L
  have hform : Hid (∀ e w, AllS L e w → ∃ A1 c1 A2 c2, e = .returned (.tuple #[.slice A1 m c1, .slice A2 y c2, .int .i64 (v : Int)]) ∧ SrcO w w.heap.size A1 c1 (mD L) ∧ SrcO w w.heap.size A2 c2 (yD L)) := Lib.hid fun e w h => by
    have := h.form
    rw [hv, hm, hy] at this
    exact this
  replace hm := Lib.hid hm
  replace hy := Lib.hid hy
  replace l600 := Lib.hid l600
  dsimp only []
  go_wp2_with fail
  refine CA.out.mono ?_
  rintro ee w1 ⟨hA, hb⟩
  obtain ⟨A1, c1, A2, c2, rfl, SM, SY⟩ := hform.out _ _ hA
  have HB := Lib.hid hb
  replace s1 := Lib.hid (s1.out.next8 hb)
  replace SM := Lib.hid SM
  replace SY := Lib.hid SY
  have z1 := hb.size
  clear hb CA hform hA
  by_cases hval : validC L = true
  · obtain rfl : v = 0 := by rw [← hv]; unfold vD; rw [if_pos hval]
    have em : mD L = mustD L := by unfold mD; rw [if_pos hval]
    have ey : yD L = restD L := by unfold yD; rw [if_pos hval]
    rw [em] at hm SM
    rw [ey] at hy SY
    clear hv em ey
    have ml : ∀ l ∈ mustD L, l.length ≤ 600 := fun l h => name_short L l (.inl h)
    have yl : ∀ l ∈ restD L, l.length ≤ 600 := fun l h => name_short L l (.inr h)
    obtain ⟨M, hM⟩ : ∃ M, mustD L = M := ⟨_, rfl⟩
    obtain ⟨Y, hY⟩ : ∃ Y, restD L = Y := ⟨_, rfl⟩
    have K0 := Lib.hid (check_least L hval)
    have C2 := Lib.hid (CK.out A1 c1 m M w1 HB.out s1.out (by rw [← hM]; exact SM.out) (by rw [← hM]; exact hm.out) (by omega) (by rw [← hM]; exact ml))
    have KL : Hid (checkD L M = if goodC L = true then 0 else 16) := Lib.hid (by rw [← hM]; exact K0.out)
    by_cases hg : goodC L = true
    · have KL2 := KL.out
      rw [if_pos hg] at KL2
      rw [KL2] at C2
      have KM : checkD L (Y ++ M) = 0 := by rw [← hM, ← hY]; exact check_most L hval hg
      have KW : Hid (∀ i, i < m → checkD L (M.take i ++ M.drop (i + 1)) = 11) := Lib.hid fun i hi => by rw [← hM]; exact check_without L hval hg i (by rw [hm.out]; exact hi)
      have KO : Hid (∀ a ∈ atts, checkD L (a.name :: M) = if a.name ∈ M ∨ a.name ∈ Y then 0 else 2) := Lib.hid fun a ha => by rw [← hM, ← hY]; exact check_one L a.name hval hg (att_self a ha)
      rw [hM] at hm SM ml
      rw [hY] at hy SY yl
      have tl : Hid (∀ i, ∀ l ∈ M.take i ++ M.drop (i + 1), l.length ≤ 600) := Lib.hid fun i l h => by
        rcases List.mem_append.1 h with h | h
        · exact ml l (List.mem_of_mem_take h)
        · exact ml l (List.mem_of_mem_drop h)
      have hml := Lib.hid ml
      obtain ⟨n2, hn2⟩ : ∃ n2, y + m = n2 := ⟨_, rfl⟩
      have hn20 : n2 ≤ 180 := by omega
      have CM := Lib.hid fun (A2 : Option Addr) (c2 : Nat) (W : World) (hB : Below w0.heap.size w0 W) (h1 : SrcO W W.heap.size A cp L) (h2 : SrcO W W.heap.size A2 c2 (Y ++ M)) => CK.out A2 c2 n2 (Y ++ M) W hB h1 h2 (by rw [List.length_append, hy.out, hm.out, hn2]) (by omega) (fun l h => (List.mem_append.1 h).elim (yl l) (ml l))
      rw [KM] at CM
      clear KL KL2 K0 KM ml yl
      replace hg := Lib.hid hg
      replace hM := Lib.hid hM
      replace hY := Lib.hid hY
      replace hn2 := Lib.hid hn2
      dsimp only []
      go_wp2_with fail
      refine C2.out.mono ?_
      rintro _ w2 ⟨rfl, hb⟩
      have HB2 := Lib.hid (HB.out.trans (hb.mono z1))
      have z2 := hb.size
      replace s1 := Lib.hid (s1.out.next8 hb)
      replace SM := Lib.hid (SM.out.next8 hb)
      replace SY := Lib.hid (SY.out.next8 hb)
      clear hb C2
      dsimp only []
      go_wp2_with (first | (at_builtin; refine append_any rfl (.tmp 46) (.tmp 47) rfl w2.heap.size _ [] 0 rfl rfl (OwnO.lit w2 w2.heap.size (Nat.le_refl _)) _ A2 y c2 Y hy.out rfl (SY.out.next8 ((Below.refl _ _).alloc (Nat.le_refl _) (.cells #[] 9))) y (by omega) (by omega) (by simp) ?_; intro A5 c5 w5 ho5 hb5; have HO5 := Lib.hid ho5; have BB5 := Lib.hid (((Below.refl _ _).alloc (Nat.le_refl _) _).trans hb5); clear ho5 hb5) | (at_builtin; refine append_any rfl (.tmp 48) (.tmp 49) rfl w2.heap.size _ Y y hy.out rfl HO5.out _ A1 m c1 M hm.out rfl (SM.out.next8 BB5.out) n2 (by have := hn2.out; omega) (by omega) BB5.out.size ?_; intro A6 c6 w6 ho6 hb6; have HO6 := Lib.hid ho6; have BB6 := Lib.hid (BB5.out.trans hb6); clear ho6 hb6))
      have HB6 := Lib.hid (HB2.out.trans (BB6.out.mono (by omega)))
      have z6 := BB6.out.size
      replace s1 := Lib.hid (s1.out.next8 BB6.out)
      replace SM := Lib.hid (SM.out.next8 BB6.out)
      replace SY := Lib.hid (SY.out.next8 BB6.out)
      have SB := Lib.hid (OwnO.src HO6.out)
      clear HO5 HO6 BB5 BB6
      refine (CM.out A6 c6 w6 HB6.out s1.out SB.out).mono ?_
      rintro _ w7 ⟨rfl, hb⟩
      have HB7 := Lib.hid (HB6.out.trans (hb.mono (by omega)))
      have z7 := hb.size
      replace s1 := Lib.hid (s1.out.next8 hb)
      replace SM := Lib.hid (SM.out.next8 hb)
      replace SY := Lib.hid (SY.out.next8 hb)
      clear hb CM SB
      have hcap := SM.out.le
      rw [hm.out] at hcap
      dsimp only []
      go_wp2_with fail
      go_loopw [9] (fun iv wr => ∃ k : Nat, k ≤ m ∧ iv = .int .i64 (k : Int) ∧ Hid (Below w7.heap.size w7 wr)) (fun iv _ => m - (intOf iv).toNat)
      case atStart => exact ⟨0, Nat.zero_le _, rfl, Lib.hid (Below.refl _ _)⟩
      case round =>
        obtain ⟨k, hk, rfl, HR⟩ := hrel
        have zr := HR.out.size
        by_cases hlt : k < m
        · have i0 : (0 : Int) ≤ (k : Int) := by omega
          have i1 : (k : Int) < (m : Int) := by omega
          have hct := fun W => cut_to A1 m c1 k (by omega) hcap W
          have hcf : ∀ W, (Instr.sliceAt 29 (.slice A1 m c1) (some (.int .i64 ((k : Int) + 1))) none none).run Tryd.prog W = .ok (.slice (if c1 = k + 1 then A1 else A1.map (·.add (k + 1))) (m - (k + 1)) (c1 - (k + 1))) W := fun W => cut_from A1 m c1 (k + 1) (by omega) hcap W
          obtain ⟨d, hd⟩ : ∃ d, d = m - (k + 1) := ⟨_, rfl⟩
          obtain ⟨e, he⟩ : ∃ e, e = c1 - (k + 1) := ⟨_, rfl⟩
          obtain ⟨AD, hAD⟩ : ∃ AD, AD = (if c1 = k + 1 then A1 else A1.map (·.add (k + 1))) := ⟨_, rfl⟩
          rw [← hAD, ← he, ← hd] at hcf
          have hsm := SM.out.next8 HR.out
          have ST : Hid (SrcO wr wr.heap.size A1 c1 (M.take k)) := Lib.hid (hsm.take k)
          have SD : Hid (SrcO wr wr.heap.size AD e (M.drop (k + 1))) := Lib.hid (by rw [hAD, he]; exact hsm.drop (k + 1))
          have hTl : Hid ((M.take k).length = k) := Lib.hid (by rw [List.length_take, hm.out]; omega)
          have hDl : Hid ((M.drop (k + 1)).length = d) := Lib.hid (by rw [List.length_drop, hm.out, hd])
          have hkd : k + d ≤ 90 := by omega
          have CW := Lib.hid fun (A2 : Option Addr) (c2 : Nat) (W : World) (hB : Below wr.heap.size wr W) (h2 : SrcO W W.heap.size A2 c2 (M.take k ++ M.drop (k + 1))) => CK.out A2 c2 (k + d) (M.take k ++ M.drop (k + 1)) W (HB7.out.trans ((HR.out.trans (hB.mono zr)).mono (by omega))) ((s1.out.next8 HR.out).next8 hB) h2 (by rw [List.length_append, hTl.out, hDl.out]) (by omega) (tl.out k)
          rw [KW.out k hlt] at CW
          replace hd := Lib.hid hd
          replace he := Lib.hid he
          replace hAD := Lib.hid hAD
          have hz1 : IntKind.i64.wrap ((k : Int) + 1) = (k : Int) + 1 := IntWalk.i64_in _ (by omega)
          clear hsm
          go_wp2_with fail
          have HW := Lib.hid (fun o => ((Below.refl wr.heap.size wr).alloc (Nat.le_refl _) o).drew)
          go_region_law (first
            | (refine step_strs rfl (.tmp 60) (.tmp 63) rfl wr.heap.size _ [] 0 rfl rfl (World.ownsRow.drew (OwnO.lit wr wr.heap.size (Nat.le_refl _))) _ A1 k c1 (M.take k) hTl.out rfl (ST.out.below (HW.out _)) k (by omega) (by omega) (HW.out (.cells #[] 9)).size ?_; intro A8 c8 w8 ho8 hb8 _; have HO8 := Lib.hid ho8; have BB8 := Lib.hid ((HW.out _).trans hb8); clear ho8 hb8)
            | (refine step_strs rfl (.tmp 64) (.tmp 68) rfl wr.heap.size _ (M.take k) k hTl.out rfl HO8.out _ AD d e (M.drop (k + 1)) hDl.out rfl (SD.out.below BB8.out) (k + d) (by omega) (by omega) BB8.out.size ?_; intro A9 c9 w9 ho9 hb9 _; have HO9 := Lib.hid ho9; have BB9 := Lib.hid (BB8.out.trans hb9); clear ho9 hb9)
            | (go_simp; go_at_call 21; refine (CW.out A9 c9 w9 BB9.out (OwnO.src HO9.out)).mono ?_; rintro _ wa ⟨rfl, hba⟩))
          all_goals
            have HX := Lib.hid (HR.out.trans ((BB9.out.trans (hba.mono BB9.out.size)).mono zr))
            clear hba HO8 HO9 BB8 BB9
            go_wp2_with fail
            go_roundw
            case rel =>
              repeat apply Exists.intro
              exact ⟨⟨k + 1, by omega, by go_num, HX⟩, rfl⟩
            case measure => simp [intOf]; omega
        · obtain rfl : k = m := by omega
          obtain ⟨wo, rfl⟩ : ∃ wo, wo = wr := ⟨_, rfl⟩
          have i1 : ¬ (k : Int) < (k : Int) := by omega
          replace s1 := Lib.hid (s1.out.next8 HR.out)
          replace SM := Lib.hid (SM.out.next8 HR.out)
          replace SY := Lib.hid (SY.out.next8 HR.out)
          have HB8 := Lib.hid (HB7.out.trans (HR.out.mono (by omega)))
          clear KW tl
          go_wp2_with fail
          refine (HA.out.attributes wo HB8.out).mono ?_
          rintro _ w9 ⟨g, cg, rfl, hAt, hb⟩
          have HB9 := Lib.hid (HB8.out.trans (hb.mono (by omega)))
          have z9 := hb.size
          replace s1 := Lib.hid (s1.out.next8 hb)
          replace SM := Lib.hid (SM.out.next8 hb)
          replace SY := Lib.hid (SY.out.next8 hb)
          have hg9 := hAt.1
          have HAt := Lib.hid hAt
          clear hb hAt
          dsimp only []
          go_wp2_with fail
          go_loopw [11] (fun iv wr => ∃ k : Nat, k ≤ 20 ∧ iv = .int .i64 (k : Int) ∧ Hid (Below w9.heap.size w9 wr)) (fun iv _ => 20 - (intOf iv).toNat)
          case atStart => exact ⟨0, Nat.zero_le _, rfl, Lib.hid (Below.refl _ _)⟩
          case round =>
            obtain ⟨m, rfl⟩ : ∃ m, m = k := ⟨_, rfl⟩
            obtain ⟨k, hk2, rfl, HR2⟩ := hrel
            have zr2 := HR2.out.size
            by_cases hlt2 : k < 20
            · have j0 : (0 : Int) ≤ (k : Int) := by omega
              have j1 : (k : Int) < 20 := by omega
              obtain ⟨a, ha⟩ : ∃ a, atts[k]? = some a := ⟨atts[k]'(by show k < 20; exact hlt2), List.getElem?_eq_getElem _⟩
              obtain ⟨p0, _, _, _, _⟩ := (HAt.out.below HR2.out).2 k a ha
              have hal := att_len a (List.mem_of_getElem? ha)
              have hko := KO.out a (List.mem_of_getElem? ha)
              have SMr := Lib.hid (SM.out.next8 HR2.out)
              have SYr := Lib.hid (SY.out.next8 HR2.out)
              have s1r := Lib.hid (s1.out.next8 HR2.out)
              have CH1 := Lib.hid (lawHas_any (baO a.name) A1 c1 m wr.heap.size M wr (by omega) hm.out SMr.out)
              have CH2 := Lib.hid (lawHas_any (baO a.name) A2 c2 y wr.heap.size Y wr (by omega) hy.out SYr.out)
              rw [baO_list] at CH1 CH2
              have CO := Lib.hid fun (A5 : Option Addr) (c5 : Nat) (W : World) (hB : Below wr.heap.size wr W) (h2 : SrcO W W.heap.size A5 c5 ([a.name] ++ M)) => CK.out A5 c5 (1 + m) ([a.name] ++ M) W (HB9.out.trans ((HR2.out.trans (hB.mono zr2)).mono (by omega))) (s1r.out.next8 hB) h2 (by rw [List.length_append, hm.out]; rfl) (by omega) (fun l h => (List.mem_append.1 h).elim (fun h => by rw [List.mem_singleton.1 h]; omega) (hml.out l))
              replace ha := Lib.hid ha
              clear hal
              by_cases h1 : a.name ∈ M
              · rw [show [a.name] ++ M = a.name :: M from rfl, hko, if_pos (.inl h1)] at CO
                rw [decide_eq_true h1] at CH1
                clear hko
                replace h1 := Lib.hid h1
                go_wp2_with fail
                refine (CH1.out).mono ?_
                rintro _ wb ⟨rfl, hwb⟩
                subst wb
                dsimp only []
                go_wp2_with (at_builtin; refine append_any rfl (.tmp 94) (.tmp 95) rfl wr.heap.size _ [a.name] 1 rfl rfl (OwnO.one wr wr.heap.size a.name (Nat.le_refl _)) _ A1 m c1 M hm.out rfl (SMr.out.next8 ((Below.refl _ _).alloc (Nat.le_refl _) (.cells #[.string (baO a.name)] 9))) (1 + m) rfl (by omega) (by simp) ?_; intro Ac cc wc hoc hbc; have HOc := Lib.hid hoc; have BBc := Lib.hid (((Below.refl _ _).alloc (Nat.le_refl _) _).trans hbc); clear hoc hbc)
                refine (CO.out Ac cc wc BBc.out (OwnO.src HOc.out)).mono ?_
                rintro _ wd ⟨rfl, hbd⟩
                have HX := Lib.hid (HR2.out.trans ((BBc.out.trans (hbd.mono BBc.out.size)).mono zr2))
                clear hbd HOc BBc
                dsimp only []
                go_wp2_with fail
                go_roundw
                case rel => exact ⟨k + 1, by omega, by go_num, HX⟩
                case measure => simp [intOf]; omega
              · rw [decide_eq_false h1] at CH1
                by_cases h2 : a.name ∈ Y
                · rw [show [a.name] ++ M = a.name :: M from rfl, hko, if_pos (.inr h2)] at CO
                  rw [decide_eq_true h2] at CH2
                  clear hko
                  replace h1 := Lib.hid h1
                  replace h2 := Lib.hid h2
                  go_wp2_with fail
                  refine (CH1.out).mono ?_
                  rintro _ wb ⟨rfl, hwb⟩
                  subst wb
                  dsimp only []
                  go_wp2_with fail
                  refine (CH2.out).mono ?_
                  rintro _ wb ⟨rfl, hwb⟩
                  subst wb
                  dsimp only []
                  go_wp2_with (at_builtin; refine append_any rfl (.tmp 94) (.tmp 95) rfl wr.heap.size _ [a.name] 1 rfl rfl (OwnO.one wr wr.heap.size a.name (Nat.le_refl _)) _ A1 m c1 M hm.out rfl (SMr.out.next8 ((Below.refl _ _).alloc (Nat.le_refl _) (.cells #[.string (baO a.name)] 9))) (1 + m) rfl (by omega) (by simp) ?_; intro Ac cc wc hoc hbc; have HOc := Lib.hid hoc; have BBc := Lib.hid (((Below.refl _ _).alloc (Nat.le_refl _) _).trans hbc); clear hoc hbc)
                  refine (CO.out Ac cc wc BBc.out (OwnO.src HOc.out)).mono ?_
                  rintro _ wd ⟨rfl, hbd⟩
                  have HX := Lib.hid (HR2.out.trans ((BBc.out.trans (hbd.mono BBc.out.size)).mono zr2))
                  clear hbd HOc BBc
                  dsimp only []
                  go_wp2_with fail
                  go_roundw
                  case rel => exact ⟨k + 1, by omega, by go_num, HX⟩
                  case measure => simp [intOf]; omega
                · rw [show [a.name] ++ M = a.name :: M from rfl, hko, if_neg (fun h => h.elim h1 h2)] at CO
                  rw [decide_eq_false h2] at CH2
                  clear hko
                  replace h1 := Lib.hid h1
                  replace h2 := Lib.hid h2
                  go_wp2_with fail
                  refine (CH1.out).mono ?_
                  rintro _ wb ⟨rfl, hwb⟩
                  subst wb
                  dsimp only []
                  go_wp2_with fail
                  refine (CH2.out).mono ?_
                  rintro _ wb ⟨rfl, hwb⟩
                  subst wb
                  dsimp only []
                  go_wp2_with (at_builtin; refine append_any rfl (.tmp 94) (.tmp 95) rfl wr.heap.size _ [a.name] 1 rfl rfl (OwnO.one wr wr.heap.size a.name (Nat.le_refl _)) _ A1 m c1 M hm.out rfl (SMr.out.next8 ((Below.refl _ _).alloc (Nat.le_refl _) (.cells #[.string (baO a.name)] 9))) (1 + m) rfl (by omega) (by simp) ?_; intro Ac cc wc hoc hbc; have HOc := Lib.hid hoc; have BBc := Lib.hid (((Below.refl _ _).alloc (Nat.le_refl _) _).trans hbc); clear hoc hbc)
                  refine (CO.out Ac cc wc BBc.out (OwnO.src HOc.out)).mono ?_
                  rintro _ wd ⟨rfl, hbd⟩
                  have HX := Lib.hid (HR2.out.trans ((BBc.out.trans (hbd.mono BBc.out.size)).mono zr2))
                  clear hbd HOc BBc
                  dsimp only []
                  go_wp2_with fail
                  go_roundw
                  case rel => exact ⟨k + 1, by omega, by go_num, HX⟩
                  case measure => simp [intOf]; omega
            · obtain rfl : k = 20 := by omega
              have i1 : ¬ ((20 : Nat) : Int) < 20 := by omega
              have HBe := Lib.hid (HB9.out.trans (HR2.out.mono (by omega)))
              go_wp2_with fail
              go_ret
              exact ⟨rfl, HBe.out⟩
    · have KL2 := KL.out
      rw [if_neg hg] at KL2
      rw [KL2] at C2
      have CP := Lib.hid fun (W : World) (a1 a2 : Option Addr) (hB : Below w0.heap.size w0 W) (h1 : SrcO W W.heap.size a1 1 [[112, 101, 114, 115, 111, 110]]) (h2 : SrcO W W.heap.size a2 3 [[99, 110], [115, 110], [111, 98, 106, 101, 99, 116, 67, 108, 97, 115, 115]]) => HK.out.check a1 1 1 [[112, 101, 114, 115, 111, 110]] a2 3 3 [[99, 110], [115, 110], [111, 98, 106, 101, 99, 116, 67, 108, 97, 115, 115]] W hB (by omega) (by omega) rfl rfl h1 h2 (by decide) (by decide)
      rw [person_has] at CP
      clear KL KL2 K0 ml yl
      replace hg := Lib.hid hg
      replace hM := Lib.hid hM
      replace hY := Lib.hid hY
      dsimp only []
      go_wp2_with fail
      refine C2.out.mono ?_
      rintro _ w2 ⟨rfl, hb⟩
      have HB2 := Lib.hid (HB.out.trans (hb.mono z1))
      have z2 := hb.size
      clear hb
      have P1 := SrcO.lits w2 [[112, 101, 114, 115, 111, 110]]
      have P2 := SrcO.lits (w2.alloc (.cells (cellsO [[112, 101, 114, 115, 111, 110]]).toArray 9)) [[99, 110], [115, 110], [111, 98, 106, 101, 99, 116, 67, 108, 97, 115, 115]]
      rw [show (w2.alloc (.cells (cellsO [[112, 101, 114, 115, 111, 110]]).toArray 9)).heap.size = w2.heap.size + 1 by simp] at P2
      have Hx := Lib.hid ((Below.refl w2.heap.size w2).alloc (Nat.le_refl _) (.cells (cellsO [[112, 101, 114, 115, 111, 110]]).toArray 9))
      have Hy := Lib.hid ((Below.refl (w2.heap.size + 1) (w2.alloc (.cells (cellsO [[112, 101, 114, 115, 111, 110]]).toArray 9))).alloc (by simp) (.cells (cellsO [[99, 110], [115, 110], [111, 98, 106, 101, 99, 116, 67, 108, 97, 115, 115]]).toArray 9))
      replace P1 := Lib.hid (P1.below Hy.out)
      replace P2 := Lib.hid P2
      replace P1 := Lib.hid (P1.out.more (show w2.heap.size + 1 ≤ ((w2.alloc (.cells (cellsO [[112, 101, 114, 115, 111, 110]]).toArray 9)).alloc (.cells (cellsO [[99, 110], [115, 110], [111, 98, 106, 101, 99, 116, 67, 108, 97, 115, 115]]).toArray 9)).heap.size by simp))
      replace P2 := Lib.hid (P2.out.more (show w2.heap.size + 1 + 1 ≤ ((w2.alloc (.cells (cellsO [[112, 101, 114, 115, 111, 110]]).toArray 9)).alloc (.cells (cellsO [[99, 110], [115, 110], [111, 98, 106, 101, 99, 116, 67, 108, 97, 115, 115]]).toArray 9)).heap.size by simp))
      have HB3 := Lib.hid (HB2.out.trans ((Hx.out.trans (Hy.out.mono (by omega))).mono (by omega)))
      dsimp only []
      go_wp2_with fail
      refine (CP.out ((w2.alloc (.cells (cellsO [[112, 101, 114, 115, 111, 110]]).toArray 9)).alloc (.cells (cellsO [[99, 110], [115, 110], [111, 98, 106, 101, 99, 116, 67, 108, 97, 115, 115]]).toArray 9)) (some ⟨w2.heap.size, 0, none⟩) (some ⟨w2.heap.size + 1, 0, none⟩) HB3.out P1.out P2.out).mono ?_
      rintro _ w4 ⟨rfl, hb⟩
      have HB4 := Lib.hid (HB3.out.trans (hb.mono (by simp; omega)))
      clear hb
      dsimp only []
      go_wp2_with fail
      go_ret
      exact ⟨rfl, HB4.out⟩
  · have hval' : validC L = false := by simpa using hval
    obtain rfl : v = 13 := by rw [← hv]; unfold vD; rw [if_neg hval]
    have C2 := Lib.hid (CK.out none 0 0 [] w1 HB.out s1.out (SrcO.none_ _ _) rfl (by omega) (by intro l hl; cases hl))
    rw [check_none L [] hval'] at C2
    clear hv
    replace hval := Lib.hid hval
    replace hval' := Lib.hid hval'
    dsimp only []
    go_wp2_with fail
    refine C2.out.mono ?_
    rintro _ w2 ⟨rfl, hb⟩
    have HB2 := Lib.hid (HB.out.trans (hb.mono z1))
    clear hb
    dsimp only []
    go_wp2_with fail
    go_ret
    exact ⟨rfl, HB2.out⟩
end Go.Proofs.YtllmffmmfpecaaaDoor
