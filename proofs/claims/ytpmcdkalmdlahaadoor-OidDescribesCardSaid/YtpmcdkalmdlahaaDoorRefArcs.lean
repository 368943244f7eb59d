/-
  The document's numbers of an identifier.
-/
import Derived.Test.YtpmcdkalmdlahaaDoorRefParts
import Derived.Test.YtpmcdkalmdlahaaDoorRefD7
import Derived.Test.YtpmcdkalmdlahaaDoorOidRead
import Derived.Test.YtpmcdkalmdlahaaDoorOidLong
import Derived.Test.YtpmcdkalmdlahaaDoorInts
import Derived.BigGuardPart
namespace Go.Proofs.YtpmcdkalmdlahaaDoor
open Go.RowKit Go.Lib

theorem arcV_rd (l : List UInt8) : arcV l = if (rdD l).2 = true ∧ l.length ≤ 10 then some (rdD l).1 else none := by
  unfold arcV rdD
  by_cases hb : l.length < 1 ∨ 18 < l.length ∨ (l.head? = some 48 ∧ 1 < l.length)
  · rw [if_pos hb, if_neg, if_neg (by simp)]
    intro h
    simp only [Bool.and_eq_true, decide_eq_true_eq] at h
    obtain ⟨h1, h2⟩ := h
    have hc := (canonB_iff l).1 h1
    rcases hb with hb | hb | ⟨hb, hb2⟩
    · exact hc.1 (List.eq_nil_of_length_eq_zero (by omega))
    · omega
    · rcases hc.2.2 with h3 | h3
      · omega
      · exact h3 hb
  · rw [if_neg hb]
    by_cases hd : digsL l = true
    · rw [if_pos hd]
      have hc : canonB l = true := (canonB_iff l).2 ⟨fun e => hb (.inl (by rw [e]; decide)), hd, by
        by_cases h1 : l.length = 1
        · exact .inl h1
        · exact .inr (fun e => hb (.inr (.inr ⟨e, by
            have : l.length ≠ 0 := fun e => hb (.inl (by omega))
            omega⟩)))⟩
      by_cases h10 : l.length ≤ 10
      · rw [if_pos (by rw [hc, decide_eq_true h10]; rfl), if_pos ⟨rfl, h10⟩]
      · rw [if_neg (by rw [decide_eq_false h10]; simp), if_neg (fun h => h10 h.2)]
    · rw [if_neg hd, if_neg, if_neg (by simp)]
      intro h
      simp only [Bool.and_eq_true, decide_eq_true_eq] at h
      exact hd ((canonB_iff l).1 h.1).2.1
theorem rdD_lt (l : List UInt8) : (rdD l).1 < 1000000000000000000 := by
  unfold rdD
  split
  · decide
  · split
    · rename_i h1 h2
      have h3 := natV_lt l h2
      have h4 : 10 ^ l.length ≤ 10 ^ 18 := Nat.pow_le_pow_right (by decide) (by omega)
      have h5 : (10 : Nat) ^ 18 = 1000000000000000000 := by decide
      exact Nat.lt_of_lt_of_le h3 (h5 ▸ h4)
    · decide
theorem mapM_snoc (P : List (List UInt8)) (k : Nat) (h : k < P.length) {M : List Nat} (hM : (P.take k).mapM arcV = some M) : (P.take (k + 1)).mapM arcV = (arcV P[k]).map fun n => M ++ [n] := by
  rw [List.take_succ_eq_append_getElem h, mapM_app, hM]
  show ([P[k]].mapM arcV).map (fun y => M ++ y) = _
  rw [List.mapM_cons]
  cases arcV P[k] with
  | none => rfl
  | some n => rfl
theorem mapM_cut (P : List (List UInt8)) (k : Nat) (h : (P.take k).mapM arcV = none) : P.mapM arcV = none := by
  have e := List.take_append_drop k P
  rw [← e, mapM_app, h]
  rfl
theorem okA_two (a b : Nat) (r : List Nat) : okA (a :: b :: r) = ((decide (a ≤ 2) && (decide (2 ≤ a) || decide (b ≤ 39))) && decide (r.length ≤ 14)) := rfl
theorem okA_one (a : Nat) : ¬ okA [a] = true := by
  show ¬ false = true
  decide
/-- What Arcs answers. -/
def ArcQ (l : List UInt8) (K : Nat) (e : Ending) (w : World) : Prop :=
  match arcsO l with
  | none => e = .returned (.tuple #[.slice none 0 0, .bool false])
  | some L => ∃ g c, e = .returned (.tuple #[.slice (some ⟨g, 0, none⟩) L.length c, .bool true]) ∧ OwnN w K (.slice (some ⟨g, 0, none⟩) L.length c) L
theorem ArcQ.no {l : List UInt8} {K : Nat} {w : World} (h : arcsO l = none) : ArcQ l K (.returned (.tuple #[.slice none 0 0, .bool false])) w := by
  unfold ArcQ
  rw [h]
theorem ArcQ.yes {l : List UInt8} {K g c n : Nat} {w : World} {L : List Nat} (h : arcsO l = some L) (hn : L.length = n) (ho : OwnN w K (.slice (some ⟨g, 0, none⟩) n c) L) : ArcQ l K (.returned (.tuple #[.slice (some ⟨g, 0, none⟩) n c, .bool true])) w := by
  unfold ArcQ
  rw [h]
  subst hn
  exact ⟨g, c, rfl, ho⟩
theorem arcs_none {l : List UInt8} (h : (sp 46 l).mapM arcV = none) : arcsO l = none := by
  unfold arcsO
  split
  · rw [h]; rfl
  · rfl
theorem arcs_of {l : List UInt8} {M : List Nat} (hl : l.length ≤ 200) (h : (sp 46 l).mapM arcV = some M) : arcsO l = if okA M = true then some M else none := by
  unfold arcsO
  rw [if_pos hl, h]
  rfl
set_option maxRecDepth 8000 in
set_option maxHeartbeats 2000000 in
theorem refArcs_any (s : ByteArray) (w : World) (hs : s.size ≤ 300) :
    Calls Tryd.prog 25 #[.string s] w fun e w' => ArcQ s.data.toList w.heap.size e w' ∧ Below w.heap.size w w' := by
  have hl : s.data.toList.length = s.size := by simp
  by_cases h200 : s.size ≤ 200
  · have i0 : ¬ ((200 : Int) < (s.size : Int)) := by omega
    have hok := fun M => arcs_of (M := M) (l := s.data.toList) (by omega)
    have hno := arcs_none (l := s.data.toList)
    obtain ⟨P, hP⟩ : ∃ P, P = sp 46 s.data.toList := ⟨_, rfl⟩
    have hPl : ∀ p ∈ P, p.length ≤ 200 := fun p hp => by
      rw [hP] at hp
      have := sp_len 46 _ p hp
      omega
    have C : Hid (Calls Tryd.prog 37 #[.string s, .int .u8 46] w fun e w' => ∃ A' c', e = .returned (.slice A' P.length c') ∧ OwnO w' w.heap.size (.slice A' P.length c') P ∧ Below w.heap.size w w') := Lib.hid (by rw [hP]; exact refParts_any s 46 w (by omega))
    rw [← hP] at hok hno
    have hne : P ≠ [] := by rw [hP]; exact sp_ne 46 _
    obtain ⟨N, hN⟩ : ∃ N, N = P.length := ⟨_, rfl⟩
    have hN1 : N ≤ 301 := by
      rw [hN, hP, sp_count]
      have := List.countP_le_length (p := (· == 46)) (l := s.data.toList)
      omega
    rw [← hN] at C
    replace hok := Lib.hid hok
    replace hno := Lib.hid hno
    replace hP := Lib.hid hP
    replace hPl := Lib.hid hPl
    replace hN := Lib.hid hN
    replace hl := Lib.hid hl
    go_enter Tryd.func25, Tryd.ntmps25
    go_wp2_with fail
    refine C.out.mono ?_
    rintro _ w1 ⟨A, cp, rfl, ho, hb⟩
    rcases (show OwnO w1 w.heap.size (.slice A P.length cp) P by rw [← hN.out]; exact ho).form with ⟨_, e1⟩ | ⟨g, c', e1, _, hg1, e2, _, e4⟩
    · exact absurd e1 hne
    injection e1 with e1 _ e3
    subst e1 e3
    have HE := Lib.hid e4
    have HB1 := Lib.hid hb
    have hz1 := hb.size
    rw [← hN.out] at e2
    clear ho hb e4
    replace hne := Lib.hid hne
    dsimp only []
    go_wp2_with fail
    go_loopw [5, 6] (fun ov iv wr => ∃ (k m cc : Nat) (B : Option Addr) (M : List Nat), k ≤ N ∧ m ≤ k ∧ iv = .int .i64 (k : Int) ∧ ov = .slice B m cc ∧ Hid (M.length = m) ∧ Hid ((P.take k).mapM arcV = some M) ∧ Hid (OwnN wr w1.heap.size (.slice B m cc) M) ∧ Hid (Below w1.heap.size w1 wr)) (fun _ iv _ => N - (intOf iv).toNat)
    case atStart => exact ⟨0, 0, 0, none, [], Nat.zero_le _, Nat.le_refl _, rfl, rfl, Lib.hid rfl, Lib.hid rfl, Lib.hid (OwnN.nil _ _), Lib.hid (Below.refl _ _)⟩
    case round =>
      obtain ⟨k, m, cc, B, M, hk, hm, rfl, rfl, HM, HP, HO, HB⟩ := hrel
      have hsz1 := HB.out.size
      have HBB := Lib.hid (HB1.out.trans (HB.out.mono hz1))
      by_cases hlt : k < N
      · have hkP : k < P.length := by rw [← hN.out]; exact hlt
        obtain ⟨p, hp⟩ : ∃ p, P[k] = p := ⟨_, rfl⟩
        have hcell : wr.cell? ⟨g, k, none⟩ = some (.string (baO p)) := by
          rw [HB.out.cell (p := ⟨g, k, none⟩) hg1]
          exact HE.out k p (by rw [List.getElem?_eq_getElem hkP, hp])
        have hps : (baO p).size ≤ 200 := by
          have := hPl.out p (by rw [← hp]; exact List.getElem_mem hkP)
          simpa [baO, ByteArray.size] using this
        have hpl : p.length = (baO p).size := by simp [baO, ByteArray.size]
        have hsn := mapM_snoc P k hkP HP.out
        rw [hp, arcV_rd] at hsn
        have CR := readDigits_any (baO p) wr (by unfold maxLen; omega)
        rw [baO_list] at CR
        have hq := rdD_lt p
        obtain ⟨z, hz⟩ : ∃ z, (rdD p).1 = z := ⟨_, rfl⟩
        obtain ⟨d, hd⟩ : ∃ d, (rdD p).2 = d := ⟨_, rfl⟩
        have ht : tupD (rdD p) = .tuple #[.int .i64 (z : Int), .bool d] := by unfold tupD; rw [hz, hd]
        rw [ht] at CR
        rw [hz] at hq
        rw [hz, hd, hpl] at hsn
        have i1 : (k : Int) < (N : Int) := by omega
        have i2 : (0 : Int) ≤ (k : Int) := by omega
        replace hp := Lib.hid hp
        replace hz := Lib.hid hz
        replace hd := Lib.hid hd
        replace ht := Lib.hid ht
        replace hpl := Lib.hid hpl
        replace CR := Lib.hid CR
        cases d
        · rw [if_neg (by simp)] at hsn
          have hfin := Lib.hid (hno.out (mapM_cut P (k + 1) hsn))
          replace hsn := Lib.hid hsn
          go_wp2_with fail
          refine CR.out.mono ?_
          rintro _ w2 ⟨rfl, h2⟩
          subst w2
          dsimp only []
          go_wp2_with fail
          go_returns
          exact ⟨ArcQ.no hfin.out, HBB.out⟩
        · by_cases h10 : (baO p).size ≤ 10
          · rw [if_pos ⟨rfl, h10⟩] at hsn
            have j1 : ¬ ((10 : Int) < ((baO p).size : Int)) := by omega
            have j2 : decide ((10 : Int) < ((baO p).size : Int)) = false := decide_eq_false j1
            replace hsn := Lib.hid hsn
            go_wp2_with fail
            refine CR.out.mono ?_
            rintro _ w2 ⟨rfl, h2⟩
            subst w2
            dsimp only []
            go_wp2_with (at_builtin; refine append_int rfl (.tmp 38) (.tmp 40) rfl w1.heap.size z _ M m HM.out rfl (HO.out.alloc _) rfl (by omega) hsz1 ?_; intro g' c' w3 ho3 hb3 _; have HO3 := Lib.hid ho3; have HB3 := Lib.hid (show Below w1.heap.size w1 w3 from HB.out.trans (((Below.refl w1.heap.size wr).alloc hsz1 _).trans hb3)); clear ho3 hb3)
            go_roundw
            case rel => exact ⟨k + 1, m + 1, c', _, M ++ [z], by omega, by omega, by go_num, rfl, Lib.hid (by rw [List.length_append, HM.out]; rfl), hsn, HO3, HB3⟩
            case measure => simp [intOf]; omega
          · rw [if_neg (fun h => h10 h.2)] at hsn
            have j1 : (10 : Int) < ((baO p).size : Int) := by omega
            have j2 : decide ((10 : Int) < ((baO p).size : Int)) = true := decide_eq_true j1
            have hfin := Lib.hid (hno.out (mapM_cut P (k + 1) hsn))
            replace hsn := Lib.hid hsn
            go_wp2_with fail
            refine CR.out.mono ?_
            rintro _ w2 ⟨rfl, h2⟩
            subst w2
            dsimp only []
            go_wp2_with fail
            go_returns
            exact ⟨ArcQ.no hfin.out, HBB.out⟩
      · have hkN : k = N := by omega
        subst hkN
        have hall : P.mapM arcV = some M := by
          have := HP.out
          rwa [hN.out, List.take_length] at this
        have hfin := hok.out M hall
        have i1 : ¬ ((k : Int) < (k : Int)) := by omega
        replace hall := Lib.hid hall
        have hc := HO.out
        rcases M with _ | ⟨a, _ | ⟨b, r⟩⟩
        · have hm0 : m = 0 := HM.out.symm
          subst hm0
          have hfn := Lib.hid (hfin.trans (if_neg (by decide)))
          replace hfin := Lib.hid hfin
          replace hc := Lib.hid hc
          go_wp2_with fail
          go_returns
          exact ⟨ArcQ.no hfn.out, HBB.out⟩
        · have hm0 : m = 1 := HM.out.symm
          subst hm0
          have hfn := Lib.hid (hfin.trans (if_neg (okA_one a)))
          replace hfin := Lib.hid hfin
          replace hc := Lib.hid hc
          go_wp2_with fail
          go_returns
          exact ⟨ArcQ.no hfn.out, HBB.out⟩
        · have hm2 : m ≤ r.length + 2 := Nat.le_of_eq HM.out.symm
          have hm3 : r.length + 2 ≤ m := Nat.le_of_eq HM.out
          have hc2 : OwnN wr w1.heap.size (.slice B (a :: b :: r).length cc) (a :: b :: r) := by rw [HM.out]; exact hc
          obtain ⟨g2, c2, f1, f2⟩ := hc2.form (by simp)
          rw [HM.out] at f1
          injection f1 with f1 _ f3
          subst f1 f3
          have ca := f2 0 a rfl
          have cb := f2 1 b rfl
          have HO2 := Lib.hid (HO.out.base_le hz1)
          clear f2 hc hc2
          have o1 : ¬ ((m : Int) < 2) := by omega
          have o2 : decide ((m : Int) < 2) = false := decide_eq_false o1
          have o0 : (0 : Int) < (m : Int) := by omega
          have o9 : (1 : Int) < (m : Int) := by omega
          have o8 : 0 < m := by omega
          have o7 : 1 < m := by omega
          have ho := hfin
          rw [okA_two] at ho
          replace hfin := Lib.hid hfin
          by_cases p1 : m ≤ 16
          · have o3 : ¬ ((16 : Int) < (m : Int)) := by omega
            have o4 : decide ((16 : Int) < (m : Int)) = false := decide_eq_false o3
            have e14 : decide (r.length ≤ 14) = true := decide_eq_true (by omega)
            by_cases p2 : a ≤ 2
            · have o5 : ¬ ((2 : Int) < (a : Int)) := by omega
              have o6 : decide ((2 : Int) < (a : Int)) = false := decide_eq_false o5
              by_cases p3 : a < 2
              · have q1 : (a : Int) < 2 := by omega
                have q2 : decide ((a : Int) < 2) = true := decide_eq_true q1
                by_cases p4 : b ≤ 39
                · have q3 : ¬ ((39 : Int) < (b : Int)) := by omega
                  have q4 : decide ((39 : Int) < (b : Int)) = false := decide_eq_false q3
                  rw [decide_eq_true p2, decide_eq_true p4, e14, if_pos (by simp)] at ho
                  replace ho := Lib.hid ho
                  replace e14 := Lib.hid e14
                  go_wp2_with fail
                  go_returns
                  exact ⟨ArcQ.yes ho.out HM.out HO2.out, HBB.out⟩
                · have q3 : (39 : Int) < (b : Int) := by omega
                  have q4 : decide ((39 : Int) < (b : Int)) = true := decide_eq_true q3
                  rw [decide_eq_false p4, decide_eq_false (show ¬ 2 ≤ a by omega), if_neg (by simp)] at ho
                  replace ho := Lib.hid ho
                  replace e14 := Lib.hid e14
                  go_wp2_with fail
                  go_returns
                  exact ⟨ArcQ.no ho.out, HBB.out⟩
              · have q1 : ¬ ((a : Int) < 2) := by omega
                have q2 : decide ((a : Int) < 2) = false := decide_eq_false q1
                rw [decide_eq_true p2, decide_eq_true (show 2 ≤ a by omega), e14, if_pos (by simp)] at ho
                replace ho := Lib.hid ho
                replace e14 := Lib.hid e14
                go_wp2_with fail
                go_returns
                exact ⟨ArcQ.yes ho.out HM.out HO2.out, HBB.out⟩
            · have o5 : (2 : Int) < (a : Int) := by omega
              have o6 : decide ((2 : Int) < (a : Int)) = true := decide_eq_true o5
              rw [decide_eq_false p2, if_neg (by simp)] at ho
              replace ho := Lib.hid ho
              replace e14 := Lib.hid e14
              go_wp2_with fail
              go_returns
              exact ⟨ArcQ.no ho.out, HBB.out⟩
          · have o3 : (16 : Int) < (m : Int) := by omega
            have o4 : decide ((16 : Int) < (m : Int)) = true := decide_eq_true o3
            rw [decide_eq_false (show ¬ r.length ≤ 14 by omega), Bool.and_false, if_neg (by decide)] at ho
            replace ho := Lib.hid ho
            go_wp2_with fail
            go_returns
            exact ⟨ArcQ.no ho.out, HBB.out⟩
  · have i0 : (200 : Int) < (s.size : Int) := by omega
    have hn : arcsO s.data.toList = none := by
      unfold arcsO
      rw [if_neg (by omega)]
    replace hn := Lib.hid hn
    go_enter Tryd.func25, Tryd.ntmps25
    go_wp2_with fail
    go_returns
    exact ⟨ArcQ.no hn.out, Below.refl _ _⟩
end Go.Proofs.YtpmcdkalmdlahaaDoor
