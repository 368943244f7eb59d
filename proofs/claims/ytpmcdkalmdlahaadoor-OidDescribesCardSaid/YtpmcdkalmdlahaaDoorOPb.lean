/-
  The program's numbers of an identifier, and its bytes.
-/
import Derived.Test.YtpmcdkalmdlahaaDoorOPa
import Derived.Test.YtpmcdkalmdlahaaDoorPNum7
import Derived.Test.YtpmcdkalmdlahaaDoorRefArcs
import Derived.BigGuardPart
import Derived.Test.YtpmcdkalmdlahaaDoorRefSeven
import Derived.Test.YtpmcdkalmdlahaaDoorRefPut7
import Derived.Test.YtpmcdkalmdlahaaDoorMore
import Derived.Test.YtpmcdkalmdlahaaDoorNum
import Derived.Test.YtpmcdkalmdlahaaDoorInts
import Derived.Test.YtpmcdkalmdlahaaDoorCuts
import Derived.Test.YtpmcdkalmdlahaaDoorOHyp
namespace Go.Proofs.YtpmcdkalmdlahaaDoor
open Go.RowKit Go.Lib

/-- Block Bo is a variable of type []int; what it holds is the call's own and reads as M. -/
def BoxN (w : World) (Bo base : Nat) (M : List Nat) : Prop := ∃ v, w.heap[Bo]? = some (.cells #[v] 43 (0, 0)) ∧ OwnN w base v M ∧ base ≤ Bo
theorem ownN_ne {w : World} {base Bo : Nat} {v u : Value} {l : List Nat} (h : OwnN w base v l) (hb : w.heap[Bo]? = some (.cells #[u] 43 (0, 0))) : some Bo ≠ v.ownBlock := by
  intro he
  rcases h.2 with ⟨rfl, _⟩ | ⟨g, cap, cur, rfl, _, hg, _⟩
  · simp [Value.ownBlock] at he
  · have e : Bo = g := by simpa [Value.ownBlock] using he
    subst e
    rw [hb] at hg
    injection hg with hg
    injection hg with _ ht
    exact absurd ht (by decide)
theorem BoxN.step {w w1 : World} {Bo base g cap n : Nat} {v : Value} {l : List Nat} {o : Obj} {x : Nat} (hb : w.heap[Bo]? = some (.cells #[v] 43 (0, 0))) (ho : OwnN w base v l) (hB : base ≤ Bo)
    (h1 : OwnN w1 base (.slice (some ⟨g, 0, none⟩) n cap) (l ++ [x])) (hg : Below base (w.alloc o) w1) (hk : ∀ b, b < (w.alloc o).heap.size → some b ≠ v.ownBlock → w1.heap[b]? = (w.alloc o).heap[b]?) :
    BoxN (w1.setCell ⟨Bo, 0, none⟩ (.slice (some ⟨g, 0, none⟩) n cap)) Bo base (l ++ [x]) ∧ Below base w (w1.setCell ⟨Bo, 0, none⟩ (.slice (some ⟨g, 0, none⟩) n cap)) := by
  have hlt : Bo < w.heap.size := (Array.getElem?_eq_some_iff.1 hb).1
  have hb1 : w1.heap[Bo]? = some (.cells #[v] 43 (0, 0)) := by
    rw [hk Bo (by simp; omega) (ownN_ne ho hb), heap_alloc_old w o hlt, hb]
  have hne : (Value.slice (some ⟨g, 0, none⟩) n cap).ownBlock ≠ some Bo := fun e => ownN_ne h1 hb1 e.symm
  have hsz : base ≤ w.heap.size := by omega
  exact ⟨⟨_, one_setCell hb1, ownsRow_setCell_other h1 hne _, hB⟩, (((Below.refl _ _).alloc hsz o).trans hg).setCell hB _⟩
/-- What a part does to the numbers. -/
def SeeQ (p : List UInt8) (M : List Nat) (v : Bool) (w : World) (Bo base : Nat) : Prop :=
  (v = true ∧ M.length ≠ 16 ∧ ∃ n, arcV p = some n ∧ BoxN w Bo base (M ++ [n])) ∨ (v = false ∧ (arcV p = none ∨ M.length = 16))
set_option maxRecDepth 4000 in
set_option maxHeartbeats 1600000 in
theorem seeArc (p : List UInt8) (Bo base : Nat) (M : List Nat) (w : World) (hB : BoxN w Bo base M) (hM : M.length ≤ 16) (hp : p.length ≤ 1000) :
    Calls Tryd.prog 41 #[.string (baO p), .pointer (some ⟨Bo, 0, none⟩)] w fun e w' => ∃ v, e = .returned (.bool v) ∧ SeeQ p M v w' Bo base ∧ Below base w w' := by
  obtain ⟨v0, hb, ho, hbase⟩ := hB
  have hlt : Bo < w.heap.size := (Array.getElem?_eq_some_iff.1 hb).1
  have CR := w_readDigits (baO p) w (by rw [baO_size]; unfold maxLen; omega)
  rw [baO_list] at CR
  have hq := rdD_lt p
  have hav := arcV_rd p
  obtain ⟨z, hz⟩ : ∃ z, (rdD p).1 = z := ⟨_, rfl⟩
  obtain ⟨d, hd⟩ : ∃ d, (rdD p).2 = d := ⟨_, rfl⟩
  have ht : tupD (rdD p) = .tuple #[.int .i64 (z : Int), .bool d] := by unfold tupD; rw [hz, hd]
  rw [ht] at CR
  rw [hz] at hq
  have hpl : p.length = (baO p).size := (baO_size p).symm
  rw [hz, hd, hpl] at hav
  obtain ⟨m, hm⟩ : ∃ m, m = M.length := ⟨_, rfl⟩
  obtain ⟨A0, c0, hv0⟩ : ∃ A0 c0, v0 = .slice A0 m c0 := by
    rcases ho.2 with ⟨h1, h2⟩ | ⟨g, cap, cur, h1, _⟩
    · exact ⟨none, 0, by rw [h1, hm, h2]⟩
    · exact ⟨_, _, by rw [h1, hm]⟩
  subst hv0
  have hsz0 : base ≤ w.heap.size := by omega
  rw [← hm] at hM
  replace hz := Lib.hid hz
  replace hd := Lib.hid hd
  replace ht := Lib.hid ht
  replace hpl := Lib.hid hpl
  replace CR := Lib.hid CR
  cases d
  · rw [if_neg (by simp)] at hav
    replace hav := Lib.hid hav
    replace hm := Lib.hid hm
    replace hb := Lib.hid hb
    go_enter Tryd.func41, Tryd.ntmps41
    go_wp2_with fail
    refine CR.out.mono ?_
    rintro _ w2 ⟨rfl, h2⟩
    replace h2 := Lib.hid h2
    dsimp only []
    go_wp2_with fail
    go_returns
    exact ⟨false, rfl, .inr ⟨rfl, .inl hav.out⟩, h2.out.mono hsz0⟩
  · by_cases h10 : (baO p).size ≤ 10
    · rw [if_pos ⟨rfl, h10⟩] at hav
      have j1 : ¬ ((10 : Int) < ((baO p).size : Int)) := by omega
      have j2 : decide ((10 : Int) < ((baO p).size : Int)) = false := decide_eq_false j1
      replace hav := Lib.hid hav
      by_cases h16 : m = 16
      · subst h16
        replace hb := Lib.hid hb
        replace hm := Lib.hid hm
        go_enter Tryd.func41, Tryd.ntmps41
        go_wp2_with fail
        refine CR.out.mono ?_
        rintro _ w2 ⟨rfl, h2⟩
        have hb2 := (h2.block Bo hlt).trans hb.out
        have hc2 := cell_of_one hb2
        replace hb2 := Lib.hid hb2
        replace h2 := Lib.hid h2
        dsimp only []
        go_wp2_with fail
        go_returns
        exact ⟨false, rfl, .inr ⟨rfl, .inr hm.out.symm⟩, h2.out.mono hsz0⟩
      · have k1 : decide ((m : Int) = 16) = false := decide_eq_false (by omega)
        have k2 : ¬ ((m : Int) = 16) := by omega
        have k3 : ((m : Int) == 16) = false := by simpa using k2
        replace hb := Lib.hid hb
        replace hm := Lib.hid hm
        go_enter Tryd.func41, Tryd.ntmps41
        go_wp2_with fail
        refine CR.out.mono ?_
        rintro _ w2 ⟨rfl, h2⟩
        have hb2 := (h2.block Bo hlt).trans hb.out
        have ho2 : OwnN w2 base (.slice A0 m c0) M := ho.below h2 (Nat.le_refl _)
        have hc2 := cell_of_one hb2
        have hs2 := h2.size
        replace hb2 := Lib.hid hb2
        replace h2 := Lib.hid h2
        replace ho2 := Lib.hid ho2
        dsimp only []
        go_wp2_with (at_builtin; refine append_int rfl (.tmp 23) (.tmp 25) rfl base z _ M m hm.out.symm rfl (ho2.out.alloc _) rfl (by omega) (by omega) ?_; intro g' c' w3 ho3 hb3 hk3; have hb9 := (hk3 Bo (by simp; omega) (ownN_ne ho2.out hb2.out)).trans ((heap_alloc_old w2 _ (by omega)).trans hb2.out); have hc9 := cell_of_one hb9; have hf9 := free_of_one hb9; have R := Lib.hid (BoxN.step hb2.out ho2.out hbase ho3 hb3 hk3); clear ho3 hb3 hk3; replace hb9 := Lib.hid hb9)
        go_returns
        exact ⟨true, rfl, .inl ⟨rfl, by rw [← hm.out]; exact h16, z, hav.out, R.out.1⟩, (h2.out.mono hsz0).trans R.out.2⟩
    · rw [if_neg (fun h => h10 h.2)] at hav
      have j1 : (10 : Int) < ((baO p).size : Int) := by omega
      have j2 : decide ((10 : Int) < ((baO p).size : Int)) = true := decide_eq_true j1
      replace hav := Lib.hid hav
      replace hm := Lib.hid hm
      replace hb := Lib.hid hb
      go_enter Tryd.func41, Tryd.ntmps41
      go_wp2_with fail
      refine CR.out.mono ?_
      rintro _ w2 ⟨rfl, h2⟩
      replace h2 := Lib.hid h2
      dsimp only []
      go_wp2_with fail
      go_returns
      exact ⟨false, rfl, .inr ⟨rfl, .inl hav.out⟩, h2.out.mono hsz0⟩
end Go.Proofs.YtpmcdkalmdlahaaDoor
namespace Go.Proofs.YtpmcdkalmdlahaaDoor
open Go.RowKit Go.Lib

def szO : Value → Nat
  | .string x => x.size
  | _ => 0
theorem mapM_one (M : List Nat) (d : List (List UInt8)) (p : List UInt8) (n : Nat) (h : d.mapM arcV = some M) (h1 : arcV p = some n) : (d ++ [p]).mapM arcV = some (M ++ [n]) := by
  rw [mapM_app, h]
  show ([p].mapM arcV).map (fun y => M ++ y) = _
  rw [List.mapM_cons, h1]
  rfl
theorem arcs_stop {l p : List UInt8} {d t : List (List UInt8)} {M : List Nat} (hd : sp 46 l = d ++ p :: t) (hM : d.mapM arcV = some M) (h : arcV p = none ∨ M.length = 16) : arcsO l = none := by
  cases hs : (sp 46 l).mapM arcV with
  | none => exact arcs_none hs
  | some M' =>
    obtain ⟨h1, h2⟩ := mapM_get arcV _ _ hs
    obtain ⟨h3, _⟩ := mapM_get arcV _ _ hM
    rcases h with h | h
    · exfalso
      have h4 : d.length < (sp 46 l).length := by rw [hd]; simp
      have h5 := h2 d.length h4 (by omega)
      have h6 : (sp 46 l)[d.length] = p := by simp [hd]
      rw [h6, h] at h5
      cases h5
    · refine arcs_many hs ?_
      rw [← h1, hd, List.length_append, List.length_cons]
      omega
/-- What the visit of the parts leaves. -/
def VisQ (l : List UInt8) (v : Bool) (w : World) (Bo base : Nat) : Prop :=
  (v = true ∧ ∃ M, (sp 46 l).mapM arcV = some M ∧ M.length ≤ 16 ∧ BoxN w Bo base M) ∨ (v = false ∧ arcsO l = none)
set_option maxRecDepth 4000 in
set_option maxHeartbeats 1600000 in
theorem visitArcs (l : List UInt8) (Bo base : Nat) (w : World) (hl : l.length ≤ 1000) (hB : BoxN w Bo base []) :
    Calls Tryd.prog 40 #[.string (baO l), .string { data := #[46] }, .func (.func 41) #[] #[.pointer (some ⟨Bo, 0, none⟩)]] w fun e w' => ∃ v, e = .returned (.bool v) ∧ VisQ l v w' Bo base ∧ Below base w w' := by
  have hlt : Bo < w.heap.size := by
    obtain ⟨v, h1, _⟩ := hB
    exact (Array.getElem?_eq_some_iff.1 h1).1
  have hbs : base ≤ w.heap.size := by
    obtain ⟨v, h1, _, h3⟩ := hB
    omega
  replace hB := Lib.hid hB
  go_enter Tryd.func40, Tryd.ntmps40
  go_wp2_with fail
  go_loopw [0] (fun sv wr => ∃ (d : List (List UInt8)) (r : List UInt8) (M : List Nat), sv = .string (baO r) ∧ r.length ≤ 1000 ∧ Hid (sp 46 l = d ++ sp 46 r) ∧ Hid (d.mapM arcV = some M) ∧ M.length ≤ 16 ∧ Hid (BoxN wr Bo base M) ∧ Hid (Below base w wr)) (fun sv _ => szO sv)
  case atStart => exact ⟨[], l, [], rfl, hl, Lib.hid rfl, Lib.hid rfl, by simp, hB, Lib.hid (Below.refl _ _)⟩
  case round =>
    obtain ⟨d, r, M, rfl, hr, HS, HM, h16, HBx, HB⟩ := hrel
    have hsz := HB.out.size
    rcases part_cases 46 r with ⟨hm, hs⟩ | ⟨p, q, hr2, hm, hs⟩
    · have C1 := Lib.hid (cut_miss r 46 hm wr)
      have C2 := Lib.hid (seeArc r Bo base M wr HBx.out h16 hr)
      have HS2 := HS.out
      rw [hs] at HS2
      have hst := fun h => arcs_stop (t := []) HS2 HM.out h
      have hok := fun n (h1 : arcV r = some n) => (congrArg (List.mapM arcV) HS2).trans (mapM_one M d r n HM.out h1)
      replace hst := Lib.hid hst
      replace hok := Lib.hid hok
      replace hs := Lib.hid hs
      replace HS2 := Lib.hid HS2
      go_wp2_with fail
      refine C1.out.mono ?_
      rintro _ w2 ⟨rfl, h2⟩
      subst w2
      dsimp only []
      go_wp2_with fail
      refine C2.out.mono ?_
      rintro _ w2 ⟨v, rfl, hq, hb2⟩
      replace hb2 := Lib.hid (HB.out.trans hb2)
      rcases hq with ⟨rfl, h1, n, h2, h3⟩ | ⟨rfl, h1⟩
      · have h4 : (M ++ [n]).length ≤ 16 := by
          rw [List.length_append, List.length_singleton]
          omega
        have hfin : Hid (VisQ l true w2 Bo base) := Lib.hid (.inl ⟨rfl, M ++ [n], hok.out n h2, h4, h3⟩)
        clear h1 h2 h3 h4
        dsimp only []
        go_wp2_with fail
        go_returns
        exact ⟨true, rfl, hfin.out, hb2.out⟩
      · have hfin : Hid (VisQ l false w2 Bo base) := Lib.hid (.inr ⟨rfl, hst.out h1⟩)
        clear h1
        dsimp only []
        go_wp2_with fail
        go_returns
        exact ⟨false, rfl, hfin.out, hb2.out⟩
    · have hrl : p.length + 1 + q.length ≤ 1000 := by
        rw [hr2] at hr
        simp at hr
        omega
      have hss : szO (.string (baO q)) < szO (.string (baO r)) := by
        show (baO q).size < (baO r).size
        rw [baO_size, baO_size, hr2]
        simp
        omega
      have C1 : Hid (Calls Tryd.prog 35 #[.string (baO r), .string { data := #[46] }] wr fun e w' => e = .returned (.tuple #[.string (baO p), .string (baO q), .bool true]) ∧ Below wr.heap.size wr w') := Lib.hid (by
        rw [hr2] at hr ⊢
        exact cut_hit p q 46 hm (by omega) wr)
      have HS2 := HS.out
      rw [hs] at HS2
      have hst := fun h => arcs_stop HS2 HM.out h
      have hok := fun n (h1 : arcV p = some n) => mapM_one M d p n HM.out h1
      have HS3 : sp 46 l = (d ++ [p]) ++ sp 46 q := by rw [HS2]; simp
      replace hst := Lib.hid hst
      replace hok := Lib.hid hok
      replace hs := Lib.hid hs
      replace hr2 := Lib.hid hr2
      replace HS2 := Lib.hid HS2
      replace HS3 := Lib.hid HS3
      replace hss := Lib.hid hss
      go_wp2_with fail
      refine C1.out.mono ?_
      rintro _ w1 ⟨rfl, h1⟩
      have HBx1 : BoxN w1 Bo base M := by
        obtain ⟨v, g1, g2, g3⟩ := HBx.out
        exact ⟨v, (h1.block Bo (Nat.lt_of_lt_of_le hlt hsz)).trans g1, g2.below h1 (Nat.le_refl _), g3⟩
      have C2 := Lib.hid (seeArc p Bo base M w1 HBx1 h16 (by omega))
      have HB1 := Lib.hid (HB.out.trans (h1.mono (Nat.le_trans hbs hsz)))
      clear HBx1 h1
      dsimp only []
      go_wp2_with fail
      refine C2.out.mono ?_
      rintro _ w2 ⟨v, rfl, hq, hb2⟩
      replace hb2 := Lib.hid (HB1.out.trans hb2)
      rcases hq with ⟨rfl, h1, n, h2, h3⟩ | ⟨rfl, h1⟩
      · have h4 : (M ++ [n]).length ≤ 16 := by
          rw [List.length_append, List.length_singleton]
          omega
        have h5 := Lib.hid (hok.out n h2)
        replace h3 := Lib.hid h3
        clear h1 h2
        dsimp only []
        go_wp2_with fail
        go_roundw
        case rel => exact ⟨d ++ [p], q, M ++ [n], rfl, by omega, HS3, h5, h4, h3, hb2⟩
        case measure => exact hss.out
      · have hfin : Hid (VisQ l false w2 Bo base) := Lib.hid (.inr ⟨rfl, hst.out h1⟩)
        clear h1
        dsimp only []
        go_wp2_with fail
        go_returns
        exact ⟨false, rfl, hfin.out, hb2.out⟩
theorem box_new (w : World) : BoxN (w.alloc (.cells #[.slice none 0 0] 43)) w.heap.size w.heap.size [] := ⟨_, heap_alloc_new w _, OwnN.nil _ _, Nat.le_refl _⟩
set_option maxRecDepth 8000 in
set_option maxHeartbeats 2000000 in
theorem arcs_any (s : ByteArray) (w : World) (hs : s.size ≤ 1000) :
    Calls Tryd.prog 23 #[.string s] w fun e w' => ArcQ s.data.toList w.heap.size e w' ∧ Below w.heap.size w w' := by
  obtain ⟨l, rfl⟩ : ∃ l, s = baO l := ⟨s.data.toList, rfl⟩
  rw [baO_list]
  rw [baO_size] at hs
  have CV := visitArcs l w.heap.size w.heap.size (w.alloc (.cells #[.slice none 0 0] 43)) hs (box_new w)
  have hal : Below w.heap.size w (w.alloc (.cells #[.slice none 0 0] 43)) := (Below.refl _ _).alloc (Nat.le_refl _) _
  replace CV := Lib.hid CV
  replace hal := Lib.hid hal
  go_enter Tryd.func23, Tryd.ntmps23
  go_wp2_with fail
  refine CV.out.mono ?_
  rintro _ w2 ⟨v, rfl, hq, hb2⟩
  replace hb2 := Lib.hid (hal.out.trans hb2)
  rcases hq with ⟨rfl, M, h1, h2, hB⟩ | ⟨rfl, h1⟩
  · obtain ⟨u, hbk, ho, _⟩ := hB
    have hc := cell_of_one hbk
    have hfin := arcs_few h1 h2
    have hne : M ≠ [] := by
      intro e
      have h3 := (mapM_get arcV _ _ h1).1
      rw [e] at h3
      exact sp_ne 46 l (List.eq_nil_of_length_eq_zero h3)
    obtain ⟨g, c, rfl, hcells⟩ := ho.form (List.length_pos_iff.2 hne)
    replace ho := Lib.hid ho
    replace h1 := Lib.hid h1
    obtain ⟨m, hm⟩ : ∃ m, M.length = m := ⟨_, rfl⟩
    rw [hm] at hc ho h2
    have c0 : (M.length = 0) = False := by simp [hne]
    rcases M with _ | ⟨a, _ | ⟨b, r⟩⟩
    · exact absurd rfl hne
    · have hm1 : m = 1 := hm.symm
      subst hm1
      have hfn := Lib.hid (hfin.trans (if_neg (okA_one a)))
      clear hcells c0 hfin hne hbk
      replace hm := Lib.hid hm
      dsimp only []
      go_wp2_with fail
      go_returns
      exact ⟨ArcQ.no hfn.out, hb2.out⟩
    · have ca := hcells 0 a rfl
      have cb := hcells 1 b rfl
      have e2 : m = r.length + 2 := by rw [← hm]; rfl
      have o1 : ¬ ((m : Int) < 2) := by omega
      have o2 : decide ((m : Int) < 2) = false := decide_eq_false o1
      have o3 : (0 : Int) < (m : Int) := by omega
      have o4 : (1 : Int) < (m : Int) := by omega
      rw [okA_two, decide_eq_true (show r.length ≤ 14 by omega), Bool.and_true] at hfin
      clear hcells c0 hne hbk
      have HM := Lib.hid hm
      clear hm
      replace e2 := Lib.hid e2
      by_cases p2 : a ≤ 2
      · have o5 : ¬ ((2 : Int) < (a : Int)) := by omega
        have o6 : decide ((2 : Int) < (a : Int)) = false := decide_eq_false o5
        by_cases p3 : a < 2
        · have q1 : (a : Int) < 2 := by omega
          have q2 : decide ((a : Int) < 2) = true := decide_eq_true q1
          by_cases p4 : b ≤ 39
          · have q3 : ¬ ((40 : Int) ≤ (b : Int)) := by omega
            have q4 : decide ((40 : Int) ≤ (b : Int)) = false := decide_eq_false q3
            rw [decide_eq_true p2, decide_eq_true p4, Bool.or_true, Bool.and_true, if_pos rfl] at hfin
            have hfn := Lib.hid hfin
            clear hfin
            dsimp only []
            go_wp2_with fail
            go_returns
            exact ⟨ArcQ.yes hfn.out HM.out ho.out, hb2.out⟩
          · have q3 : (40 : Int) ≤ (b : Int) := by omega
            have q4 : decide ((40 : Int) ≤ (b : Int)) = true := decide_eq_true q3
            rw [decide_eq_false p4, decide_eq_false (show ¬ 2 ≤ a by omega), Bool.or_false, Bool.and_false, if_neg (by decide)] at hfin
            have hfn := Lib.hid hfin
            clear hfin
            dsimp only []
            go_wp2_with fail
            go_returns
            exact ⟨ArcQ.no hfn.out, hb2.out⟩
        · have q1 : ¬ ((a : Int) < 2) := by omega
          have q2 : decide ((a : Int) < 2) = false := decide_eq_false q1
          rw [decide_eq_true p2, decide_eq_true (show 2 ≤ a by omega), Bool.true_or, Bool.and_true, if_pos rfl] at hfin
          have hfn := Lib.hid hfin
          clear hfin
          dsimp only []
          go_wp2_with fail
          go_returns
          exact ⟨ArcQ.yes hfn.out HM.out ho.out, hb2.out⟩
      · have o5 : (2 : Int) < (a : Int) := by omega
        have o6 : decide ((2 : Int) < (a : Int)) = true := decide_eq_true o5
        rw [decide_eq_false p2, Bool.false_and, if_neg (by decide)] at hfin
        have hfn := Lib.hid hfin
        clear hfin
        dsimp only []
        go_wp2_with fail
        go_returns
        exact ⟨ArcQ.no hfn.out, hb2.out⟩
  · replace h1 := Lib.hid h1
    dsimp only []
    go_wp2_with fail
    go_returns
    exact ⟨ArcQ.no h1.out, hb2.out⟩
theorem numeric_any (s : ByteArray) (w : World) (hs : s.size ≤ 1000) :
    Calls Tryd.prog 12 #[.string s] w fun e w' => e = .returned (.bool (arcsO s.data.toList).isSome) ∧ Below w.heap.size w w' := by
  have CA := Lib.hid (arcs_any s w hs)
  go_enter Tryd.func12, Tryd.ntmps12
  go_wp2_with fail
  refine CA.out.mono ?_
  rintro _ w2 ⟨h1, h2⟩
  replace h2 := Lib.hid h2
  unfold ArcQ at h1
  rcases h : arcsO s.data.toList with _ | L
  · rw [h] at h1
    obtain rfl := h1
    replace h := Lib.hid h
    dsimp only []
    go_wp2_with fail
    go_returns
    exact ⟨by rw [h.out]; rfl, h2.out⟩
  · rw [h] at h1
    obtain ⟨g, c, rfl, h3⟩ := h1
    replace h := Lib.hid h
    clear h3
    dsimp only []
    go_wp2_with fail
    go_returns
    exact ⟨by rw [h.out]; rfl, h2.out⟩
end Go.Proofs.YtpmcdkalmdlahaaDoor
namespace Go.Proofs.YtpmcdkalmdlahaaDoor
open Go.RowKit Go.Lib

def lastG (n : Nat) : Nat := (max (Lib.bitLen n) 1 - 1) / 7
theorem lastG_ok (n : Nat) (hn : n ≤ 20000000000) : (∀ j, 1 ≤ j → j ≤ lastG n → 0 < n / 128 ^ j) ∧ n / 128 ^ (lastG n + 1) = 0 ∧ lastG n ≤ 9 := by
  have e : ∀ j, 128 ^ j = 2 ^ (7 * j) := fun j => by rw [Nat.pow_mul]
  by_cases h0 : n = 0
  · subst h0
    have h1 : lastG 0 = 0 := by decide
    rw [h1]
    exact ⟨fun j h2 h3 => by omega, by simp, by omega⟩
  · have h64 : n < 2 ^ 64 := by omega
    obtain ⟨h1, h2, h3⟩ := bitLen_bounds n h0 h64
    have h4 := Lib.bitLen_le n 64 (by omega) h64
    obtain ⟨L, hL⟩ : ∃ L, L = Lib.bitLen n := ⟨_, rfl⟩
    have hl : lastG n = (L - 1) / 7 := by
      unfold lastG
      rw [← hL, Nat.max_eq_left (by omega)]
    rw [← hL] at h1 h2 h3 h4
    rw [hl]
    refine ⟨fun j h5 h6 => ?_, ?_, by omega⟩
    · rw [e]
      have h7 : 2 ^ (7 * j) ≤ 2 ^ (L - 1) := Nat.pow_le_pow_right (by decide) (by omega)
      exact Nat.div_pos (Nat.le_trans h7 h2) (Nat.pow_pos (by decide))
    · rw [e]
      exact Nat.div_eq_of_lt (Nat.lt_of_lt_of_le h3 (Nat.pow_le_pow_right (by decide) (by omega)))
theorem or128 (a : Nat) (h : a < 256) : bits .or .u8 (a : Int) 128 = ((a % 128 + 128 : Nat) : Int) := by
  have h2 : ∀ n : Nat, n < 256 → bits .or .u8 (n : Int) 128 = ((n % 128 + 128 : Nat) : Int) := by decide +kernel
  exact h2 a h
theorem group_or (n j : Nat) (_h : n ≤ 20000000000) : bits .or .u8 (((n : Int) / 2 ^ (j * 7)) % 256) 128 = ((n / 128 ^ j % 128 + 128 : Nat) : Int) := by
  have e1 : (n : Int) / 2 ^ (j * 7) = ((n / 128 ^ j : Nat) : Int) := by
    rw [Int.natCast_ediv, show (128 : Nat) ^ j = 2 ^ (j * 7) from by rw [Nat.mul_comm, Nat.pow_mul]]
    rw [Int.natCast_pow]
    rfl
  rw [e1]
  rw [show (((n / 128 ^ j : Nat) : Int) % 256) = ((n / 128 ^ j % 256 : Nat) : Int) from by omega, or128 _ (by omega)]
  congr 1
  omega
theorem group_and (n : Nat) : bits .andNot .u8 ((n : Int) % 256) 128 = ((n % 128 : Nat) : Int) := by
  rw [show ((n : Int) % 256) = ((n % 256 : Nat) : Int) from by omega, andNot128 _ (by omega)]
  congr 1
  omega
set_option maxRecDepth 4000 in
set_option maxHeartbeats 1600000 in
theorem putNum_any (n N cc base : Nat) (B : Option Addr) (L : List Nat) (w : World) (hn : n ≤ 20000000000) (hO : Own w base (.slice B N cc) L) (hN : L.length = N) (hN9 : N ≤ 1000) (hbase : base ≤ w.heap.size) :
    Calls Tryd.prog 24 #[.slice B N cc, .int .i64 (n : Int)] w fun e w' => ∃ A c, e = .returned (.slice A (N + (sv n).length) c) ∧ Own w' base (.slice A (N + (sv n).length) c) (L ++ sv n) ∧ Below base w w' := by
  obtain ⟨g1, g2, g3⟩ := lastG_ok n hn
  have hb63 := Lib.bitLen_le n 64 (by omega) (by omega)
  have CL := Lib.hid (fun w => Tryd.bits_Len (n : Int) w (by omega) (by omega))
  simp only [Int.toNat_natCast] at CL
  have hK : Hid (lastG n = (max (Lib.bitLen n) 1 - 1) / 7) := Lib.hid rfl
  obtain ⟨K, hKe⟩ : ∃ K, K = lastG n := ⟨_, rfl⟩
  rw [← hKe] at g1 g2 g3 hK
  obtain ⟨b, hb⟩ : ∃ b, b = Lib.bitLen n := ⟨_, rfl⟩
  rw [← hb] at CL hK hb63
  have hmax : (max (b : Int) 1 - 1) / 7 = (K : Int) := by
    rw [hK.out]
    omega
  replace hmax := Lib.hid hmax
  replace g1 := Lib.hid g1
  replace g2 := Lib.hid g2
  replace hKe := Lib.hid hKe
  replace hb := Lib.hid hb
  replace hO := Lib.hid hO
  replace hN := Lib.hid hN
  go_enter Tryd.func24, Tryd.ntmps24
  go_wp2_with fail
  refine (CL.out _).mono ?_
  rintro _ w2 ⟨rfl, e2⟩
  subst w2
  dsimp only []
  go_wp2_with fail
  go_loopw [0, 6] (fun bv iv wr => ∃ (k m c : Nat) (A : Option Addr) (M : List Nat), k ≤ K ∧ m ≤ 5 ∧ iv = .int .i64 (k : Int) ∧ bv = .slice A (N + m) c ∧ Hid (M = L ++ svT (n / 128 ^ (k + 1))) ∧ Hid (M.length = N + m) ∧ Hid (Own wr base (.slice A (N + m) c) M) ∧ Hid (Below base w wr)) (fun _ iv _ => (RowKit.intOf iv).toNat)
  case atStart => exact ⟨K, 0, cc, B, L, Nat.le_refl _, by omega, congrArg (Value.int .i64) hmax.out, rfl, Lib.hid (by rw [g2.out]; simp [svT]), hN, hO, Lib.hid (Below.refl _ _)⟩
  case round =>
    obtain ⟨k, m, c, A, M, hk, hm, rfl, rfl, HM, HML, HO, HB⟩ := hrel
    have hsz := HB.out.size
    have hcap := HO.out.cap
    by_cases h0 : 0 < k
    · have i0 : (0 : Int) < (k : Int) := by omega
      have hst := svT_step (n / 128 ^ k) (g1.out k h0 hk)
      rw [Nat.div_div_eq_div_mul, ← Nat.pow_succ] at hst
      have hor := group_or n k hn
      have hlen := svT_len 5 (n / 128 ^ k) (by
        have h1 : n / 128 ^ k ≤ n := Nat.div_le_self _ _
        have h2 : (128 : Nat) ^ 5 = 34359738368 := by decide
        omega)
      obtain ⟨d, hd⟩ : ∃ d, d = n / 128 ^ k % 128 + 128 := ⟨_, rfl⟩
      rw [← hd] at hst hor
      have HM2 : M ++ [d] = L ++ svT (n / 128 ^ k) := by rw [HM.out, hst, List.append_assoc]
      have hm1 : m + 1 ≤ 5 := by
        have h3 := congrArg List.length HM2
        rw [List.length_append, List.length_append, HML.out, hN.out, List.length_singleton] at h3
        omega
      have HML2 : (M ++ [d]).length = N + (m + 1) := by rw [List.length_append, HML.out]; rfl
      have h9 : k - 1 + 1 = k := by omega
      rw [← h9] at HM2
      replace HM2 := Lib.hid HM2
      replace HML2 := Lib.hid HML2
      replace hd := Lib.hid hd
      replace h9 := Lib.hid h9
      replace hst := Lib.hid hst
      clear hlen
      have j1 : (k : Int) * 7 < 64 := by omega
      have j2 : (0 : Int) ≤ (k : Int) * 7 := by omega
      go_wp2_with (at_builtin; refine append_srcF rfl (.tmp 18) (.tmp 25) rfl base (.slice A (N + m) c) M rfl (HO.out.alloc _) (wr.heap.size + 1) (some ⟨wr.heap.size, 0, none⟩) 1 [d] 1 rfl rfl (Src.one wr d) (by rw [HML.out]; simp; omega) (by simp; omega) ?_; intro A3 c3 w3 ho3 hb3 _; have HO3 := Lib.hid ho3; have HB3 := Lib.hid (show Below base w w3 from HB.out.trans (((Below.refl base wr).alloc (Nat.le_trans hbase hsz) _).trans hb3)); clear ho3 hb3)
      go_roundw
      case rel => exact ⟨k - 1, m + 1, c3, A3, M ++ [d], by omega, hm1, by go_num, by rw [HML.out]; rfl, HM2, HML2, Lib.hid (by have := HO3.out; rwa [HML.out] at this), HB3⟩
      case measure => simp [RowKit.intOf]; omega
    · have hk0 : k = 0 := by omega
      subst hk0
      have hand := group_and n
      have hsv := sv_T n
      rw [show n / 128 ^ (0 + 1) = n / 128 from by rw [Nat.zero_add, Nat.pow_one]] at HM
      obtain ⟨d, hd⟩ : ∃ d, d = n % 128 := ⟨_, rfl⟩
      rw [← hd] at hsv hand
      have HM2 : M ++ [d] = L ++ sv n := by rw [HM.out, hsv, List.append_assoc]
      have hsvl : N + m + 1 = N + (sv n).length := by
        have h3 := congrArg List.length HM2
        rw [List.length_append, List.length_append, HML.out, hN.out, List.length_singleton] at h3
        exact h3
      replace HM2 := Lib.hid HM2
      replace hsv := Lib.hid hsv
      replace hsvl := Lib.hid hsvl
      replace hd := Lib.hid hd
      go_wp2_with (at_builtin; refine append_srcF rfl (.tmp 27) (.tmp 31) rfl base (.slice A (N + m) c) M rfl (HO.out.alloc _) (wr.heap.size + 1) (some ⟨wr.heap.size, 0, none⟩) 1 [d] 1 rfl rfl (Src.one wr d) (by rw [HML.out]; simp; omega) (by simp; omega) ?_; intro A3 c3 w3 ho3 hb3 _; have HO3 := Lib.hid ho3; have HB3 := Lib.hid (show Below base w w3 from HB.out.trans (((Below.refl base wr).alloc (Nat.le_trans hbase hsz) _).trans hb3)); clear ho3 hb3)
      go_returns
      have h4 := HO3.out
      rw [HM2.out, HML.out, hsvl.out] at h4
      exact ⟨A3, c3, by rw [← hsvl.out, ← HML.out]; rfl, h4, HB3.out⟩
end Go.Proofs.YtpmcdkalmdlahaaDoor
namespace Go.Proofs.YtpmcdkalmdlahaaDoor
open Go.RowKit

/-- A row of numbers, below block K. -/
structure SrcN (w : World) (K : Nat) (A : Option Addr) (c : Nat) (L : List Nat) : Prop where
  le : L.length ≤ c
  nil : A = none → c = 0
  at_ : ∀ ad, A = some ad → (0 < L.length → ad.block < K) ∧ ∀ (j : Nat) (l : Nat), L[j]? = some l → w.cell? (ad.add j) = some (.int .i64 (l : Int))
theorem SrcN.none_ (w : World) (K : Nat) : SrcN w K none 0 [] := ⟨Nat.le_refl _, fun _ => rfl, fun _ h => by cases h⟩
theorem SrcN.keep {w w' : World} {K : Nat} {A : Option Addr} {c : Nat} {L : List Nat} (h : SrcN w K A c L) (hk : ∀ p : Addr, p.block < K → w'.cell? p = w.cell? p) : SrcN w' K A c L := by
  refine ⟨h.le, h.nil, fun ad e => ⟨(h.at_ ad e).1, fun j l hj => ?_⟩⟩
  have hl : j < L.length := (List.getElem?_eq_some_iff.1 hj).1
  rw [hk _ (by rw [add_block]; exact (h.at_ ad e).1 (by omega))]
  exact (h.at_ ad e).2 j l hj
theorem SrcN.below {w w' : World} {K : Nat} {A : Option Addr} {c : Nat} {L : List Nat} (h : SrcN w K A c L) (hb : Below K w w') : SrcN w' K A c L := h.keep fun _ hp => hb.cell hp
theorem SrcN.more {w : World} {K K' : Nat} {A : Option Addr} {c : Nat} {L : List Nat} (h : SrcN w K A c L) (hb : K ≤ K') : SrcN w K' A c L :=
  ⟨h.le, h.nil, fun ad e => ⟨fun h0 => Nat.lt_of_lt_of_le ((h.at_ ad e).1 h0) hb, (h.at_ ad e).2⟩⟩
theorem OwnN.src {w : World} {base : Nat} {A : Option Addr} {c n : Nat} {L : List Nat} (h : OwnN w base (.slice A n c) L) : SrcN w w.heap.size A c L := by
  obtain ⟨_, h2 | ⟨g, cap, cur, hv, hbs, hg, hn, hm, hs, hx⟩⟩ := h
  · obtain ⟨h2, h3⟩ := h2
    injection h2 with h4 _ h5
    subst h4 h5
    rw [List.eq_nil_of_length_eq_zero h3]
    exact SrcN.none_ _ _
  · injection hv with h4 _ h5
    subst h4 h5
    refine ⟨hn, (by simp), fun ad e => ?_⟩
    injection e with e
    subst e
    refine ⟨fun _ => (Array.getElem?_eq_some_iff.1 hg).1, fun j l hj => ?_⟩
    have hil : j < L.length := (List.getElem?_eq_some_iff.1 hj).1
    have e0 : (⟨g, 0, none⟩ : Addr).add j = ⟨g, j, none⟩ := by unfold Addr.add; split <;> simp_all
    rw [e0, cell_of_row w g j cur _ _ hg]
    have h2 : (cellsI L)[j]? = some (Value.int .i64 (l : Int)) := by simp [cellsI, hj]
    rw [← hx, List.getElem?_take, if_pos (by omega)] at h2
    simpa using h2
theorem SrcN.drop {w : World} {K : Nat} {A : Option Addr} {c : Nat} {L : List Nat} (h : SrcN w K A c L) (k : Nat) : SrcN w K (if c = k then A else A.map (·.add k)) (c - k) (L.drop k) := by
  have hle := h.le
  by_cases e : c = k
  · rw [if_pos e]
    have hd : L.drop k = [] := List.drop_of_length_le (by omega)
    rw [hd]
    refine ⟨by simp, fun hA => by have := h.nil hA; omega, fun ad hA => ⟨fun h0 => by simp at h0, fun j x hj => by simp at hj⟩⟩
  · rw [if_neg e]
    refine ⟨by rw [List.length_drop]; omega, fun hA => ?_, fun ad hA => ?_⟩
    · cases A with
      | none => have := h.nil rfl; omega
      | some a => cases hA
    · cases A with
      | none => cases hA
      | some a =>
        injection hA with hA
        subst hA
        refine ⟨fun h0 => ?_, fun j x hj => ?_⟩
        · rw [add_block]
          rw [List.length_drop] at h0
          exact (h.at_ a rfl).1 (by omega)
        · rw [List.getElem?_drop] at hj
          have := (h.at_ a rfl).2 (k + j) x hj
          rwa [addr_add7]
theorem SrcN.get {w : World} {K : Nat} {A : Option Addr} {c : Nat} {L : List Nat} (h : SrcN w K A c L) (k : Nat) (hk : k < L.length) : ∃ ad, A = some ad ∧ w.cell? (ad.add k) = some (.int .i64 ((L[k] : Nat) : Int)) ∧ ad.block < K := by
  have hle := h.le
  cases A with
  | none => have := h.nil rfl; omega
  | some a => exact ⟨a, rfl, (h.at_ a rfl).2 k _ (List.getElem?_eq_getElem hk), (h.at_ a rfl).1 (by omega)⟩
theorem cutN_from (B : Option Addr) (m cc k : Nat) (hk : k ≤ m) (hm : m ≤ cc) (W : World) :
    (Instr.sliceAt 43 (.slice B m cc) (some (.int .i64 (k : Int))) none none).run Tryd.prog W = .ok (.slice (if cc = k then B else B.map (·.add k)) (m - k) (cc - k)) W := by
  have h1 : (0 : Int) ≤ (k : Int) := by omega
  have h2 : (k : Int) ≤ (m : Int) := by omega
  have h3 : (m : Int) ≤ (cc : Int) := by omega
  go_simp
end Go.Proofs.YtpmcdkalmdlahaaDoor
namespace Go.Proofs.YtpmcdkalmdlahaaDoor
open Go.RowKit Go.Lib

set_option maxRecDepth 8000 in
set_option maxHeartbeats 2000000 in
theorem put_any (s : ByteArray) (w : World) (hs : s.size ≤ 1000) :
    Calls Tryd.prog 8 #[.string s] w fun e w' => PutS s.data.toList w.heap.size e w' ∧ Below w.heap.size w w' := by
  have CA := arcs_any s w hs
  rcases hA : arcsO s.data.toList with _ | L
  · have CA' : Hid (Calls Tryd.prog 23 #[.string s] w fun e w' => e = .returned (.tuple #[.slice none 0 0, .bool false]) ∧ Below w.heap.size w w') := Lib.hid (CA.mono fun e w' ⟨h1, h2⟩ => ⟨by unfold ArcQ at h1; rw [hA] at h1; exact h1, h2⟩)
    clear CA
    replace hA := Lib.hid hA
    go_enter Tryd.func8, Tryd.ntmps8
    go_wp2_with fail
    refine CA'.out.mono ?_
    rintro _ w1 ⟨rfl, hb⟩
    dsimp only []
    go_wp2_with fail
    go_returns
    exact ⟨PutS.no hA.out, hb⟩
  · obtain ⟨hok, hlt⟩ := valid_arcs hA
    have hlen := okA_len hok
    obtain ⟨a, b, r, rfl⟩ : ∃ a b r, L = a :: b :: r := by
      match L, hlen with
      | a :: b :: r, _ => exact ⟨a, b, r, rfl⟩
    · skip
      have ha2 : a ≤ 2 := by
        rw [okA_two] at hok
        simp only [Bool.and_eq_true, decide_eq_true_eq] at hok
        exact hok.1.1
      have hb2 : b < 10000000000 := hlt b (by simp)
      have hr : ∀ n ∈ r, n < 10000000000 := fun n hn => hlt n (by simp [hn])
      obtain ⟨m, hm⟩ : ∃ m, m = (a :: b :: r).length := ⟨_, rfl⟩
      have hm1 : m ≤ r.length + 2 := by rw [hm]; exact Nat.le_refl _
      have hm3 : r.length + 2 ≤ m := by rw [hm]; exact Nat.le_refl _
      have hm16 : m ≤ 16 := by omega
      have CA' : Hid (Calls Tryd.prog 23 #[.string s] w fun e w' => ∃ g c, e = .returned (.tuple #[.slice (some ⟨g, 0, none⟩) m c, .bool true]) ∧ OwnN w' w.heap.size (.slice (some ⟨g, 0, none⟩) m c) (a :: b :: r) ∧ Below w.heap.size w w') := Lib.hid (CA.mono fun e w' ⟨h1, h2⟩ => by
        unfold ArcQ at h1
        rw [hA] at h1
        obtain ⟨g, c, h3, h4⟩ := h1
        rw [hm]
        exact ⟨g, c, h3, h4, h2⟩)
      clear CA hlen hlt hok
      have HFL := Lib.hid (flat_len r hr)
      replace hr := Lib.hid hr
      replace hA := Lib.hid hA
      replace hm := Lib.hid hm
      go_enter Tryd.func8, Tryd.ntmps8
      go_wp2_with fail
      refine CA'.out.mono ?_
      rintro _ w1 ⟨g, c, rfl, ho, hb⟩
      have HB1 := Lib.hid hb
      have hz1 := hb.size
      have hsrc := ho.src
      have hle := hsrc.le
      obtain ⟨g2, c2, e1, e4⟩ := (show OwnN w1 w.heap.size (.slice (some ⟨g, 0, none⟩) (a :: b :: r).length c) (a :: b :: r) by rw [← hm.out]; exact ho).form (by simp)
      rw [← hm.out] at hle
      injection e1 with e1 _ e3
      injection e1 with e1
      injection e1 with e1
      subst e1
      have HE := Lib.hid e4
      have ca := HE.out 0 a rfl
      have cb := HE.out 1 b rfl
      clear e3 e4 hb ho
      have hdr := hsrc.drop 2
      rw [show (a :: b :: r).drop 2 = r from rfl] at hdr
      have hcut : ∀ W, (Instr.sliceAt 43 (.slice (some ⟨g, 0, none⟩) m c) (some (.int .i64 2)) none none).run Tryd.prog W = .ok (.slice (if c = 2 then some (⟨g, 0, none⟩ : Addr) else (some (⟨g, 0, none⟩ : Addr)).map (·.add 2)) (m - 2) (c - 2)) W := cutN_from (some ⟨g, 0, none⟩) m c 2 (by omega) hle
      obtain ⟨A5, hA5⟩ : ∃ A5, (if c = 2 then some (⟨g, 0, none⟩ : Addr) else (some (⟨g, 0, none⟩ : Addr)).map (·.add 2)) = A5 := ⟨_, rfl⟩
      rw [hA5] at hdr hcut
      obtain ⟨n5, hn5⟩ : ∃ n5, m - 2 = n5 := ⟨_, rfl⟩
      obtain ⟨c5, hc5⟩ : ∃ c5, c - 2 = c5 := ⟨_, rfl⟩
      rw [hn5, hc5] at hcut
      rw [hc5] at hdr
      have hn5r : r.length = n5 := by omega
      have hn14 : n5 ≤ 14 := by omega
      have HD := Lib.hid hdr
      have k1 : (0 : Int) < (m : Int) := by omega
      have k2 : (1 : Int) < (m : Int) := by omega
      have k3 : 0 < m := by omega
      have k4 : 1 < m := by omega
      replace hA5 := Lib.hid hA5
      replace hn5 := Lib.hid hn5
      replace hc5 := Lib.hid hc5
      replace hn5r := Lib.hid hn5r
      clear hdr hsrc hm1 hm3
      have C7 : Hid (∀ W, w1.heap.size ≤ W.heap.size → Calls Tryd.prog 24 #[.slice none 0 0, .int .i64 ((a : Int) * 40 + (b : Int))] W fun e w' => ∃ A' c', e = .returned (.slice A' (sv (a * 40 + b)).length c') ∧ Own w' w1.heap.size (.slice A' (sv (a * 40 + b)).length c') (sv (a * 40 + b)) ∧ Below w1.heap.size W w') := Lib.hid fun W hW => by
        have := putNum_any (a * 40 + b) 0 0 w1.heap.size none [] W (by omega) ⟨rfl, .inl ⟨rfl, rfl⟩⟩ rfl (by omega) hW
        rw [show ((a * 40 + b : Nat) : Int) = (a : Int) * 40 + (b : Int) from by omega, Nat.zero_add, List.nil_append] at this
        exact this
      obtain ⟨X0, hX0⟩ : ∃ X0, X0 = sv (a * 40 + b) := ⟨_, rfl⟩
      have hl0 : X0.length ≤ 6 := by
        rw [hX0]
        have := sv_len5 (a * 40 + b) (by omega)
        omega
      rw [← hX0] at C7
      replace hX0 := Lib.hid hX0
      have hw1 : IntKind.i64.wrap ((a : Int) * 40) = (a : Int) * 40 := IntWalk.i64_in _ (by omega)
      have hw2 : IntKind.i64.wrap ((a : Int) * 40 + (b : Int)) = (a : Int) * 40 + (b : Int) := IntWalk.i64_in _ (by omega)
      dsimp only []
      go_wp2_with fail
      go_still_tail 8, (by kernel_rfl)
      go_wp2_with fail
      refine (C7.out w1.drew (Nat.le_refl _)).mono ?_
      rintro _ w2 ⟨A2, c2', rfl, ho2, hb2'⟩
      have hb2 : Below w1.heap.size w1 w2 := ((Below.refl w1.heap.size w1).drew).trans hb2'
      have HB2 := Lib.hid hb2
      have HO2 : Hid (Own w2 w1.heap.size (.slice A2 X0.length c2') X0) := Lib.hid ho2
      clear ho2 hb2' hb2
      dsimp only []
      go_wp2_with fail
      go_loopw [6, 28] (fun ov iv wr => ∃ (k N cc : Nat) (B : Option Addr) (X : List Nat), k ≤ n5 ∧ N ≤ 100 ∧ iv = .int .i64 (k : Int) ∧ ov = .slice B N cc ∧ Hid (X.length = N) ∧ Hid (X = X0 ++ (r.take k).flatMap sv) ∧ Hid (Own wr w1.heap.size (.slice B N cc) X) ∧ Hid (Below w1.heap.size w1 wr)) (fun _ iv _ => n5 - (RowKit.intOf iv).toNat)
      case atStart => exact ⟨0, X0.length, c2', A2, X0, Nat.zero_le _, by omega, rfl, rfl, Lib.hid rfl, Lib.hid (by simp), HO2, HB2⟩
      case round =>
        obtain ⟨k, N, cc, B, X, hkm, hN, rfl, rfl, HX, HXe, HO, HB⟩ := hrel
        have hsz1 := HB.out.size
        by_cases hlt : k < n5
        · have hkr : k < r.length := by rw [hn5r.out]; exact hlt
          obtain ⟨n, hn⟩ : ∃ n, r[k] = n := ⟨_, rfl⟩
          have hnb : n < 10000000000 := by rw [← hn]; exact hr.out _ (List.getElem_mem hkr)
          obtain ⟨ad, hA6, hc6, hb6⟩ := HD.out.get k hkr
          subst hA6
          have hcell : wr.cell? (ad.add k) = some (.int .i64 (n : Int)) := by
            rw [HB.out.cell (p := ad.add k) (by rw [add_block]; exact hb6), hc6, hn]
          have hft := flat_take r k hkr
          rw [hn] at hft
          have C8 := putNum_any n N cc w1.heap.size B X wr (by omega) HO.out HX.out (by omega) hsz1
          obtain ⟨Y, hY⟩ : ∃ Y, Y = sv n := ⟨_, rfl⟩
          rw [← hY] at C8 hft
          obtain ⟨y, hy⟩ : ∃ y, y = Y.length := ⟨_, rfl⟩
          rw [← hy] at C8
          have hXY : X ++ Y = X0 ++ (r.take (k + 1)).flatMap sv := by
            rw [HXe.out, hft, List.append_assoc]
          have hNy : N + y ≤ 100 := by
            have h1 : ((r.take (k + 1)).flatMap sv).length ≤ 6 * (k + 1) := by
              refine Nat.le_trans (flat_len _ fun x hx => hr.out x (List.mem_of_mem_take hx)) ?_
              exact Nat.mul_le_mul_left 6 (List.length_take_le _ _)
            have h2 := congrArg List.length hXY
            rw [List.length_append, List.length_append, HX.out, ← hy] at h2
            omega
          have i1 : (k : Int) < (n5 : Int) := by omega
          have i2 : (0 : Int) ≤ (k : Int) := by omega
          replace hn := Lib.hid hn
          replace hft := Lib.hid hft
          replace hY := Lib.hid hY
          replace hy := Lib.hid hy
          replace hXY := Lib.hid hXY
          replace C8 := Lib.hid C8
          clear hc6
          go_wp2_with fail
          refine C8.out.mono ?_
          rintro _ w3 ⟨A3, c3, rfl, ho3, hb3⟩
          have HO3 := Lib.hid ho3
          have HB3 := Lib.hid (HB.out.trans hb3)
          clear ho3 hb3
          dsimp only []
          go_wp2_with fail
          go_roundw
          case rel => exact ⟨k + 1, N + y, c3, A3, X ++ Y, by omega, hNy, by go_num, rfl, Lib.hid (by rw [List.length_append, HX.out, hy.out]), hXY, HO3, HB3⟩
          case measure => simp [RowKit.intOf]; omega
        · have hkk : k = n5 := by omega
          subst hkk
          have hfin : putA (a :: b :: r) = X := by
            rw [putA_two, HXe.out, ← hX0.out, List.take_of_length_le (by rw [hn5r.out]; omega)]
          replace hfin := Lib.hid hfin
          have i1 : ¬ ((k : Int) < (k : Int)) := by omega
          go_wp2_with fail
          go_returns
          exact ⟨PutS.yes hA.out hfin.out HX.out (HO.out.base_le hz1), HB1.out.trans (HB.out.mono hz1)⟩
theorem put_o (s : ByteArray) (w : World) (hs : s.size ≤ 1000) : Calls Tryd.prog 8 #[.string s] w fun e w' => ∃ A c, e = .returned (.tuple #[.slice A (putO s.data.toList).1.length c, .int .i64 ((putO s.data.toList).2 : Int)]) ∧ Src w' w'.heap.size A c (putO s.data.toList).1 ∧ Below w.heap.size w w' :=
  (put_any s w hs).mono fun e w' ⟨h1, h2⟩ => by
    unfold PutS at h1
    unfold putO
    rcases h : arcsO s.data.toList with _ | L
    · rw [h] at h1
      exact ⟨none, 0, h1, Src.none_ _ _, h2⟩
    · rw [h] at h1
      obtain ⟨A, c, h3, h4⟩ := h1
      exact ⟨A, c, h3, h4.src, h2⟩
end Go.Proofs.YtpmcdkalmdlahaaDoor
