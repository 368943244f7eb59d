/-
  The document's description of an attribute.
-/
import Derived.Test.YtpmcdkalmdlahaaDoorRefArcs
import Derived.Test.YtpmcdkalmdlahaaDoorRefRead7
import Derived.Test.YtpmcdkalmdlahaaDoorOidIns
import Derived.Test.YtpmcdkalmdlahaaDoorCuts
import Derived.Deep.QuietTactic
import Derived.BigQuiet
import Derived.BigGuardPart
import Derived.Deep.RegionLaw
import Derived.Deep.RegionHeldLaw
import Derived.Deep.DrawnRows
import Derived.BigRegion
namespace Go.Proofs.YtpmcdkalmdlahaaDoor
open Go.RowKit Go.Lib
attribute [local go_sem ↓] Go.wp_at_zero Go.wp_at_succ

/-- An operation taken first, the frame written out. -/
theorem takeL8 {P : Program} {md : Region.Mode} {ops : Array Oper} {Q : Exit → Act → World → Prop} {S : World → Prop} (i d : Nat) {oi : Oper} {v : Value} {fuel : Nat} {listed : Array Bool} {l : List Value} {df : List Deferred} {w : World} (hi : ops[i]? = some oi) (hd : oi.dst = some d)
    (hs : Region.noSelect ops = true) (hf : Region.free md ops listed i = true) (hr : (Region.ready md ops listed).contains i = true)
    (hQ : ∀ c a w, Q (.panic c) (a.put oi.dst v) w → Q (.panic c) a w) (hy : YieldsIf P ops S oi v ⟨l.toArray, df⟩) (hS : S w)
    (h : wpAnyH P md ops Q S fuel (listed.setIfInBounds i true) ⟨(l.set d v).toArray, df⟩ w) : wpAnyH P md ops Q S (fuel + 1) listed ⟨l.toArray, df⟩ w := by
  refine wpAnyH_take hi hs hf hr hQ hy hS ?_
  rw [hd]
  unfold Act.put
  simpa using h
theorem below_drewN8 {K : Nat} {w w' : World} (h : Below K w w') : ∀ n, Below K w (w'.drewN n)
  | 0 => h
  | n + 1 => (below_drewN8 h n).drew
theorem own_drewN {w : World} {K : Nat} {v : Value} {L : List (List UInt8)} (h : OwnO w K v L) : ∀ n, OwnO (w.drewN n) K v L
  | 0 => h
  | n + 1 => World.ownsRow.drew (own_drewN h n)
theorem OwnO.base_le7 {w : World} {base base' : Nat} {v : Value} {L : List (List UInt8)} (h : OwnO w base v L) (hb : base' ≤ base) : OwnO w base' v L := by
  obtain ⟨h1, h0 | ⟨g, cap, cur, hv, hbs, hg, hn, hm, hs, hx⟩⟩ := h
  · exact ⟨h1, .inl h0⟩
  · exact ⟨h1, .inr ⟨g, cap, cur, hv, Nat.le_trans hb hbs, hg, hn, hm, hs, hx⟩⟩
theorem OwnO.form' {w : World} {base : Nat} {v : Value} {L : List (List UInt8)} (h : OwnO w base v L) {m : Nat} (hm : L.length = m) : (v = .slice none 0 0 ∧ L = []) ∨ ∃ g c, v = .slice (some ⟨g, 0, none⟩) m c ∧ base ≤ g ∧ g < w.heap.size ∧ m ≤ c ∧ c ≤ 9223372036854775807 ∧ ∀ (j : Nat) (l : List UInt8), L[j]? = some l → w.cell? ⟨g, j, none⟩ = some (.string (baO l)) := by
  subst hm
  exact h.form
/-- What Describe answers. -/
def DescS (l : List UInt8) (K : Nat) (e : Ending) (w : World) : Prop :=
  match descO l with
  | none => e = .returned (.tuple #[.string ⟨#[]⟩, .slice none 0 0, .bool false])
  | some q => ∃ A c, e = .returned (.tuple #[.string (baO q.1), .slice A q.2.length c, .bool true]) ∧ OwnO w K (.slice A q.2.length c) q.2
theorem DescS.no {l : List UInt8} {K : Nat} {w : World} (h : descO l = none) : DescS l K (.returned (.tuple #[.string ⟨#[]⟩, .slice none 0 0, .bool false])) w := by
  unfold DescS
  rw [h]
theorem DescS.yes {l : List UInt8} {K n c : Nat} {A : Option Addr} {w : World} {a : List UInt8} {O : List (List UInt8)} (h : descO l = some (a, O)) (hn : O.length = n) (ho : OwnO w K (.slice A n c) O) : DescS l K (.returned (.tuple #[.string (baO a), .slice A n c, .bool true])) w := by
  unfold DescS
  rw [h]
  subst hn
  exact ⟨A, c, rfl, ho⟩
set_option maxRecDepth 8000 in
set_option maxHeartbeats 4000000 in
theorem refDesc_any (s : ByteArray) (w : World) (hs : s.size ≤ 300) :
    Calls Tryd.prog 18 #[.string s] w fun e w' => DescS s.data.toList w.heap.size e w' ∧ Below w.heap.size w w' := by
  have hsl : s.data.toList.length = s.size := by simp
  by_cases h64 : s.size ≤ 64
  · have k0 : ¬ ((64 : Int) < (s.size : Int)) := by omega
    have hl64 : ¬ 64 < s.data.toList.length := by omega
    have CL : Hid (Calls Tryd.prog 16 #[.string s] w fun e w' => e = .returned (.string (baO (lowL s.data.toList))) ∧ Below w.heap.size w w') := Lib.hid ((refLower_any s w hs).mono fun e w' ⟨x, h1, h2, h3⟩ => ⟨by rw [h1, eq_baO h2], h3⟩)
    obtain ⟨lo, hlo⟩ : ∃ lo, lo = lowL s.data.toList := ⟨_, rfl⟩
    rw [← hlo] at CL
    have hlol : lo.length = s.size := by rw [hlo]; unfold lowL; rw [List.length_map, hsl]
    obtain ⟨p0, T, hspe⟩ : ∃ p0 T, sp 59 lo = p0 :: T := by
      have := sp_ne 59 lo
      rcases e : sp 59 lo with _ | ⟨a, T⟩
      · exact absurd e this
      · exact ⟨a, T, rfl⟩
    have hall : ∀ p ∈ p0 :: T, p.length ≤ 64 := fun p hp => by
      rw [← hspe] at hp
      have := sp_len 59 _ p hp
      omega
    have hTs := Lib.hid (fun p (hp : p ∈ T) => show p.length ≤ 100 by have := hall p (List.mem_cons_of_mem _ hp); omega)
    have hp0 := hall p0 List.mem_cons_self
    have hcnt : T.length ≤ 64 := by
      have h1 := sp_count 59 lo
      have h2 := List.countP_le_length (p := (· == 59)) (l := lo)
      rw [hspe, List.length_cons] at h1
      omega
    have hsp : Hid (sp 59 (lowL s.data.toList) = p0 :: T) := Lib.hid (by rw [← hlo]; exact hspe)
    have CP : Hid (∀ W, Calls Tryd.prog 37 #[.string (baO lo), .int .u8 59] W fun e w' => ∃ A' c', e = .returned (.slice A' (p0 :: T).length c') ∧ OwnO w' W.heap.size (.slice A' (p0 :: T).length c') (p0 :: T) ∧ Below W.heap.size W w') := Lib.hid fun W => by
      rw [← hspe]
      exact refParts_any (baO lo) 59 W (by rw [baO_size]; omega)
    obtain ⟨N, hN⟩ : ∃ N, N = (p0 :: T).length := ⟨_, rfl⟩
    rw [← hN] at CP
    have hNT : N ≤ T.length + 1 := by rw [hN]; exact Nat.le_refl _
    have hNT2 : T.length + 1 ≤ N := by rw [hN]; exact Nat.le_refl _
    have hN1 : 1 ≤ N := by omega
    have CA : Hid (∀ W, Calls Tryd.prog 25 #[.string (baO p0)] W fun e w' => ∃ V, e = .returned (.tuple #[V, .bool (arcsO p0).isSome]) ∧ Below W.heap.size W w') := Lib.hid fun W => (refArcs_any (baO p0) W (by rw [baO_size]; omega)).mono fun e w' ⟨h1, h2⟩ => by
      unfold ArcQ at h1
      rw [baO_list] at h1
      rcases hA : arcsO p0 with _ | L
      · rw [hA] at h1
        exact ⟨_, h1, h2⟩
      · rw [hA] at h1
        obtain ⟨g, c, h3, _⟩ := h1
        exact ⟨_, h3, h2⟩
    have CW : Hid (∀ W, Calls Tryd.prog 14 #[.string (baO p0)] W fun e w' => e = .returned (.bool (wordB p0)) ∧ w' = W) := Lib.hid fun W => refWord_any (baO p0) W (by rw [baO_size]; omega)
    obtain ⟨nb, hnb⟩ : ∃ nb, (arcsO p0).isSome = nb := ⟨_, rfl⟩
    obtain ⟨wb, hwb⟩ : ∃ wb, wordB p0 = wb := ⟨_, rfl⟩
    rw [hnb] at CA
    rw [hwb] at CW
    replace hspe := Lib.hid hspe
    replace hlo := Lib.hid hlo
    replace hlol := Lib.hid hlol
    replace hN := Lib.hid hN
    replace hall := Lib.hid hall
    replace hsl := Lib.hid hsl
    go_enter Tryd.func18, Tryd.ntmps18
    go_wp2_with fail
    refine CL.out.mono ?_
    rintro _ w1 ⟨rfl, hb1⟩
    have HB1 := Lib.hid hb1
    clear hb1
    dsimp only []
    go_wp2_with fail
    refine (CP.out w1).mono ?_
    rintro _ w2 ⟨A, cp, rfl, ho, hb2⟩
    have HB2 := Lib.hid (HB1.out.trans (hb2.mono HB1.out.size))
    rcases (show OwnO w2 w1.heap.size (.slice A (p0 :: T).length cp) (p0 :: T) by rw [← hN.out]; exact ho).form with ⟨_, e1⟩ | ⟨g, c', e1, _, hg2, e2, _, e4⟩
    · cases e1
    injection e1 with e1 _ e3
    subst e1 e3
    have HE2 := Lib.hid e4
    have hc0 := HE2.out 0 p0 rfl
    rw [← hN.out] at e2
    clear ho hb2 e4
    have n0 : (0 : Int) < (N : Int) := by omega
    have n1 : 0 < N := hN1
    dsimp only []
    go_wp2_with fail
    refine (CA.out w2).mono ?_
    rintro _ w3 ⟨V, rfl, hb3⟩
    have HB3 := Lib.hid (HB2.out.trans (hb3.mono HB2.out.size))
    have hc3 : w3.cell? ⟨g, 0, none⟩ = some (.string (baO p0)) := (hb3.cell (p := ⟨g, 0, none⟩) hg2).trans hc0
    have HE : Hid (∀ (j : Nat) (l : List UInt8), (p0 :: T)[j]? = some l → w3.cell? ⟨g, j, none⟩ = some (.string (baO l))) := Lib.hid fun j l hj => (hb3.cell (p := ⟨g, j, none⟩) hg2).trans (HE2.out j l hj)
    have hgK : g < w3.heap.size := Nat.lt_of_lt_of_le hg2 hb3.size
    have HBK := HB3
    clear hb3 hc0
    dsimp only []
    cases nb
    · cases wb
      · have hfin := Lib.hid (descO_type hsp.out hl64 (by simpa using hnb) hwb)
        replace hnb := Lib.hid hnb
        replace hwb := Lib.hid hwb
        go_wp2_with fail
        refine (CW.out w3).mono ?_
        rintro _ w4 ⟨rfl, h4⟩
        subst w4
        dsimp only []
        go_wp2_with fail
        go_returns
        exact ⟨DescS.no hfin.out, HB3.out⟩
      · have hgood : Hid (((arcsO p0).isSome || wordB p0) = true) := Lib.hid (by rw [hwb, Bool.or_true])
        replace hnb := Lib.hid hnb
        replace hwb := Lib.hid hwb
        go_wp2_with fail
        refine (CW.out w3).mono ?_
        rintro _ w4 ⟨rfl, h4⟩
        subst w4
        dsimp only []
        go_wp2_with fail
        go_loopw [8, 9] (fun ov iv wr => ∃ (i m cc : Nat) (B : Option Addr) (O : List (List UInt8)), 1 ≤ i ∧ i ≤ N ∧ m ≤ i ∧ iv = .int .i64 (i : Int) ∧ ov = .slice B m cc ∧ Hid (O.length = m) ∧ Hid (O = opts (T.take (i - 1))) ∧ Hid (∀ j (hj : j < T.length), j < i - 1 → signsB T[j] = true) ∧ Hid (OwnO wr w3.heap.size (.slice B m cc) O) ∧ Hid (Below w3.heap.size w3 wr)) (fun _ iv _ => N - (intOf iv).toNat)
        case atStart => exact ⟨1, 0, 0, none, [], Nat.le_refl _, hN1, by omega, rfl, rfl, Lib.hid rfl, Lib.hid rfl, Lib.hid (fun j hj h0 => by omega), Lib.hid (OwnO.nil _ _), Lib.hid (Below.refl _ _)⟩
        case round =>
          obtain ⟨i, m, cc, B, O, hi1, hiN, hmi, rfl, rfl, HM, HOe, HSi, HO, HB⟩ := hrel
          have hszk := HB.out.size
          have HBB := Lib.hid (HBK.out.trans (HB.out.mono HBK.out.size))
          by_cases hlt : i < N
          · have hiT : i - 1 < T.length := by omega
            obtain ⟨x, hx⟩ : ∃ x, T[i - 1] = x := ⟨_, rfl⟩
            have hcell0 : ∀ W, Below w3.heap.size w3 W → W.cell? ⟨g, i, none⟩ = some (.string (baO x)) := fun W hW => by
              rw [hW.cell (p := ⟨g, i, none⟩) hgK]
              exact HE.out i x (by rw [show i = (i - 1) + 1 from by omega, List.getElem?_cons_succ, List.getElem?_eq_getElem hiT, hx])
            have hcell := hcell0 wr HB.out
            replace hcell0 := Lib.hid hcell0
            have hxs : (baO x).size ≤ 100 := by
              rw [baO_size]
              exact hTs.out x (by rw [← hx]; exact List.getElem_mem hiT)
            have CS := refSigns_any (baO x) wr (by omega)
            rw [baO_list] at CS
            have hbad := descO_option (k := i - 1) hsp.out hl64 hiT
            rw [hx] at hbad
            obtain ⟨sb, hsb⟩ : ∃ sb, signsB x = sb := ⟨_, rfl⟩
            rw [hsb] at CS hbad
            have hxT := Lib.hid hx
            clear hx
            replace CS := Lib.hid CS
            have i1 : (i : Int) < (N : Int) := by omega
            have i0 : (0 : Int) ≤ (i : Int) := by omega
            cases sb
            · have hfin := Lib.hid (hbad rfl)
              clear hbad
              replace hsb := Lib.hid hsb
              go_wp2_with fail
              refine CS.out.mono ?_
              rintro _ w9 ⟨rfl, h9⟩
              subst w9
              dsimp only []
              go_wp2_with fail
              go_returns
              exact ⟨DescS.no hfin.out, HBB.out⟩
            · clear hbad
              have HSG : Hid (∀ j (hj : j < T.length), j < i + 1 - 1 → signsB T[j] = true) := Lib.hid fun j hj h0 => by
                by_cases e : j = i - 1
                · subst e
                  rw [hxT.out, hsb]
                · exact HSi.out j hj (by omega)
              have hopt : opts (T.take (i + 1 - 1)) = ins x O := by
                rw [show i + 1 - 1 = (i - 1) + 1 from by omega, List.take_succ_eq_append_getElem hiT, hxT.out, opts_snoc, ← HOe.out]
              replace hopt := Lib.hid hopt
              replace hsb := Lib.hid hsb
              go_wp2_with fail
              refine CS.out.mono ?_
              rintro _ w9 ⟨rfl, h9⟩
              subst w9
              dsimp only []
              go_wp2_with fail
              go_loopw [10] (fun kv wr => ∃ k : Nat, k ≤ m ∧ kv = .int .i64 (k : Int) ∧ Hid (∀ j y, j < k → O[j]? = some y → Op.bytesLess y x = true) ∧ Hid (OwnO wr w3.heap.size (.slice B m cc) O) ∧ Hid (Below w3.heap.size w3 wr)) (fun kv _ => m - (intOf kv).toNat)
              case atStart => exact ⟨0, Nat.zero_le _, rfl, Lib.hid (fun j y h0 => by omega), HO, HB⟩
              case round =>
                obtain ⟨k, hk, rfl, HL, HO2, HB2⟩ := hrel
                have hcell2 := hcell0.out wr HB2.out
                have hkeep : Hid (∀ W, Below wr.heap.size wr W → W.cell? ⟨g, i, none⟩ = some (.string (baO x))) := Lib.hid fun W hW => hcell0.out W (HB2.out.trans (hW.mono HB2.out.size))
                have hsrc := HO2.out.src
                have hOl := HM.out
                by_cases hkm : k < m
                · have hkO : k < O.length := by omega
                  obtain ⟨y, hy⟩ : ∃ y, O[k] = y := ⟨_, rfl⟩
                  have hyk : O[k]? = some y := by rw [List.getElem?_eq_getElem hkO, hy]
                  obtain ⟨bb, cbb, e1, _, _, hcm, hcx, e4⟩ : ∃ bb cbb, (Value.slice B m cc) = .slice (some ⟨bb, 0, none⟩) m cbb ∧ w3.heap.size ≤ bb ∧ bb < wr.heap.size ∧ m ≤ cbb ∧ cbb ≤ 9223372036854775807 ∧ ∀ (j : Nat) (l : List UInt8), O[j]? = some l → wr.cell? ⟨bb, j, none⟩ = some (.string (baO l)) := by
                    rcases HO2.out.form' hOl with ⟨_, e0⟩ | h
                    · rw [e0] at hkO
                      simp at hkO
                    · exact h
                  injection e1 with e1 _ e3
                  subst e1 e3
                  have hcy := e4 k y hyk
                  clear e4
                  obtain ⟨z, hz⟩ : ∃ z, Op.bytesLess y x = z := ⟨_, rfl⟩
                  have hz1 : Op.bytesLess (baO y).toList (baO x).toList = z := by rw [ByteArray.toList_eq, ByteArray.toList_eq, baO_list, baO_list]; exact hz
                  have d1 : decide ((k : Int) < (m : Int)) = true := decide_eq_true (by omega)
                  have d2 : decide (k < m) = true := decide_eq_true hkm
                  have d3 : (k : Int) < (m : Int) := by omega
                  have d4 : (0 : Int) ≤ (k : Int) := by omega
                  replace hsrc := Lib.hid hsrc
                  replace hOl := Lib.hid hOl
                  replace hy := Lib.hid hy
                  cases z
                  · have hins := ins_at x O k (by rw [hOl.out]; exact hk) HL.out (fun q hq => by rw [hyk] at hq; injection hq with hq; rw [← hq]; exact hz)
                    rw [hyk] at hins
                    by_cases hyx : y = x
                    · subst hyx
                      rw [if_pos rfl] at hins
                      have hq1 : ((baO y).toList == (baO y).toList) = true := by simp
                      replace hins := Lib.hid hins
                      replace hz := Lib.hid hz
                      replace hyk := Lib.hid hyk
                      go_wp2_with fail
                      go_quiet (fail)
                      go_wp2_with fail
                      go_quiet (fail)
                      go_wp2_with fail
                      go_roundw
                      case rel => exact ⟨i + 1, m, _, _, O, by omega, by omega, by omega, by go_num, rfl, HM, Lib.hid (by rw [hopt.out, hins.out]), HSG, Lib.hid (own_drewN HO2.out _), Lib.hid (below_drewN8 HB2.out _)⟩
                      case measure => simp [intOf]; omega
                    · rw [if_neg (by simpa using hyx)] at hins
                      have hq1 : ((baO y).toList == (baO x).toList) = false := by
                        rw [beq_eq_false_iff_ne, ByteArray.toList_eq, ByteArray.toList_eq, baO_list, baO_list]
                        exact hyx
                      replace hins := Lib.hid hins
                      replace hz := Lib.hid hz
                      replace hyk := Lib.hid hyk
                      go_wp2_with fail
                      go_quiet (fail)
                      go_wp2_with fail
                      go_quiet (fail)
                      go_wp2_with fail
                      refine world_out (p := fun W => Code.wp _ _ _ _ W) _ _ (fun wq HBq hzq => ?_)
                      have hzq2 : w3.heap.size ≤ wq.heap.size := by
                        rw [hzq]
                        exact HB2.out.size
                      have HBW : Hid (Below w3.heap.size w3 wq) := Lib.hid (HB2.out.trans (HBq.mono HB2.out.size))
                      replace hkeep : Hid (∀ W, Below wq.heap.size wq W → W.cell? ⟨g, i, none⟩ = some (.string (baO x))) := Lib.hid fun W hW => hcell0.out W (HBW.out.trans (hW.mono hzq2))
                      obtain ⟨dk, hdk⟩ : ∃ dk, dk = m - k := ⟨_, rfl⟩
                      have hdk1 : dk + k ≤ m := by omega
                      have hdk2 : m ≤ dk + k := by omega
                      have hcc : m ≤ cc := hcm
                      obtain ⟨c2, hc2⟩ : ∃ c2, c2 = cc - k := ⟨_, rfl⟩
                      obtain ⟨A2, hA2⟩ : ∃ A2, A2 = (if cc = k then (some ⟨bb, 0, none⟩ : Option Addr) else (some ⟨bb, 0, none⟩ : Option Addr).map (·.add k)) := ⟨_, rfl⟩
                      have hct := fun W => cut_to (some ⟨bb, 0, none⟩ : Option Addr) m cc k hk hcc W
                      have hcf := fun W => cut_from (some ⟨bb, 0, none⟩ : Option Addr) m cc k hk hcc W
                      rw [← hA2, ← hc2, ← hdk] at hcf
                      have hOq : OwnO wq w3.heap.size (.slice (some ⟨bb, 0, none⟩ : Option Addr) m cc) O := HO2.out.below HBq (Nat.le_refl _)
                      have hsT : Hid (∀ W, Below wq.heap.size wq W → SrcO W wq.heap.size (some ⟨bb, 0, none⟩ : Option Addr) cc (O.take k)) := Lib.hid fun W hW => (hOq.src.below hW).take k
                      have hsD : Hid (∀ W, Below wq.heap.size wq W → SrcO W wq.heap.size A2 c2 (O.drop k)) := Lib.hid fun W hW => by
                        rw [hA2, hc2]
                        exact (hOq.src.below hW).drop k
                      have hTl : Hid ((O.take k).length = k) := Lib.hid (by rw [List.length_take, HM.out]; omega)
                      have hTl1 : Hid ((O.take k ++ [x]).length = k + 1) := Lib.hid (by rw [List.length_append, hTl.out]; rfl)
                      have hDl : Hid ((O.drop k).length = dk) := Lib.hid (by rw [List.length_drop, HM.out]; omega)
                      have hlenN : Hid ((O.take k ++ [x] ++ O.drop k).length = m + 1) := Lib.hid (by rw [List.length_append, hTl1.out, hDl.out]; omega)
                      have hinsN : Hid (O.take k ++ [x] ++ O.drop k = opts (T.take (i + 1 - 1))) := Lib.hid (by rw [hopt.out, hins.out, List.append_assoc]; rfl)
                      have hm65 : m ≤ 65 := by omega
                      clear hOq
                      replace hdk := Lib.hid hdk
                      replace hc2 := Lib.hid hc2
                      replace hA2 := Lib.hid hA2
                      replace hzq := Lib.hid hzq
                      replace HBq := Lib.hid HBq
                      refine wp_region_held_drew (S := (fun W => W.cell? ⟨g, i, none⟩ = some (.string (baO x)))) (by kernel_rfl) (hkeep.out _ (Below.refl _ _).drew) ?_
                      intro hHeld
                      refine takeL8 1 78 (v := ?_) rfl rfl (by kernel_rfl) (by kernel_rfl) (by kernel_rfl) (fun _ _ _ h => h) (Or.inl ⟨by rfl, ?hyb1⟩) hHeld ?restb1
                      case hyb1 =>
                        intro W hS
                        (try dsimp only at hS)
                        go_simp
                        try (with_reducible rfl)
                      dsimp only [List.set]
                      refine takeL8 2 79 (v := ?_) rfl rfl (by kernel_rfl) (by kernel_rfl) (by kernel_rfl) (fun _ _ _ h => h) (Or.inl ⟨by rfl, ?hyb2⟩) hHeld ?restb2
                      case hyb2 =>
                        intro W hS
                        (try dsimp only at hS)
                        go_simp
                        try (with_reducible rfl)
                      dsimp only [List.set]
                      refine takeL8 3 80 (v := ?_) rfl rfl (by kernel_rfl) (by kernel_rfl) (by kernel_rfl) (fun _ _ _ h => h) (Or.inl ⟨by rfl, ?hyb3⟩) hHeld ?restb3
                      case hyb3 =>
                        intro W hS
                        (try dsimp only at hS)
                        go_simp
                        try (with_reducible rfl)
                      dsimp only [List.set]
                      refine takeL8 5 82 (v := ?_) rfl rfl (by kernel_rfl) (by kernel_rfl) (by kernel_rfl) (fun _ _ _ h => h) (Or.inl ⟨by rfl, ?hyb5⟩) hHeld ?restb5
                      case hyb5 =>
                        intro W hS
                        (try dsimp only at hS)
                        go_simp
                        try (with_reducible rfl)
                      dsimp only [List.set]
                      refine takeL8 6 83 (v := ?_) rfl rfl (by kernel_rfl) (by kernel_rfl) (by kernel_rfl) (fun _ _ _ h => h) (Or.inl ⟨by rfl, ?hyb6⟩) hHeld ?restb6
                      case hyb6 =>
                        intro W hS
                        (try dsimp only at hS)
                        go_simp
                        try (with_reducible rfl)
                      dsimp only [List.set]
                      refine takeL8 7 84 (v := ?_) rfl rfl (by kernel_rfl) (by kernel_rfl) (by kernel_rfl) (fun _ _ _ h => h) (Or.inl ⟨by rfl, ?hyb7⟩) hHeld ?restb7
                      case hyb7 =>
                        intro W hS
                        (try dsimp only at hS)
                        go_simp
                        try (with_reducible rfl)
                      dsimp only [List.set]
                      refine takeL8 8 85 (v := ?_) rfl rfl (by kernel_rfl) (by kernel_rfl) (by kernel_rfl) (fun _ _ _ h => h) (Or.inl ⟨by rfl, ?hyb8⟩) hHeld ?restb8
                      case hyb8 =>
                        intro W hS
                        (try dsimp only at hS)
                        go_simp
                        try (with_reducible rfl)
                      dsimp only [List.set]
                      refine takeL8 11 88 (v := ?_) rfl rfl (by kernel_rfl) (by kernel_rfl) (by kernel_rfl) (fun _ _ _ h => h) (Or.inl ⟨by rfl, ?hyb11⟩) hHeld ?restb11
                      case hyb11 =>
                        intro W hS
                        (try dsimp only at hS)
                        go_simp
                        try (with_reducible rfl)
                      dsimp only [List.set]
                      refine takeL8 12 89 (v := ?_) rfl rfl (by kernel_rfl) (by kernel_rfl) (by kernel_rfl) (fun _ _ _ h => h) (Or.inl ⟨by rfl, ?hyb12⟩) hHeld ?restb12
                      case hyb12 =>
                        intro W hS
                        (try dsimp only at hS)
                        go_simp
                        try (with_reducible rfl)
                      dsimp only [List.set]
                      refine takeL8 13 90 (v := ?_) rfl rfl (by kernel_rfl) (by kernel_rfl) (by kernel_rfl) (fun _ _ _ h => h) (Or.inl ⟨by rfl, ?hyb13⟩) hHeld ?restb13
                      case hyb13 =>
                        intro W hS
                        (try dsimp only at hS)
                        go_simp
                        try (with_reducible rfl)
                      dsimp only [List.set]
                      have hW0 : Below wq.heap.size wq wq.drew := (Below.refl _ _).drew
                      have hW0z : wq.drew.heap.size = wq.heap.size := rfl
                      refine wpAnyH_ready (rs := [0, 9]) (by kernel_rfl) (by simp) ?_
                      refine AllReadyH.cons rfl (fun K hK => ?_) (AllReadyH.cons rfl (fun K hK => ?_) AllReadyH.nil)
                      · go_simp
                        refine hK.out _ _ (hkeep.out _ (hW0.alloc hW0.size _)) (fun hHeld => ?_)
                        clear hK K
                        refine wpAnyH_ready (rs := [4, 9]) (by kernel_rfl) (by simp) ?_
                        refine AllReadyH.cons rfl (fun K hK => ?_) (AllReadyH.cons rfl (fun K hK => ?_) AllReadyH.nil)
                        · refine step_strs rfl (.tmp 77) (.tmp 80) rfl wq.heap.size _ [] 0 rfl rfl (OwnO.lit wq.drew wq.heap.size hW0.size) _ (some ⟨bb, 0, none⟩ : Option Addr) k cc (O.take k) hTl.out rfl (hsT.out _ (hW0.alloc hW0.size (.cells #[] 9))) k (by omega) (by omega) ((hW0.alloc hW0.size (.cells #[] 9))).size ?_
                          intro Ap cp Wp hop hbp hfp
                          have HOp := Lib.hid hop
                          have HBBp := Lib.hid (((hW0.alloc hW0.size (.cells #[] 9))).trans hbp)
                          have HFp := Lib.hid hfp
                          clear hop hbp hfp
                          refine hK.out _ _ (hkeep.out _ HBBp.out) (fun hHeld => ?_)
                          clear hK K
                          refine wpAnyH_ready (rs := [9]) (by kernel_rfl) (by simp) ?_
                          refine AllReadyH.cons rfl (fun K hK => ?_) AllReadyH.nil
                          go_simp
                          refine hK.out _ _ (hkeep.out _ (HBBp.out.alloc HBBp.out.size _)) (fun hHeld => ?_)
                          clear hK K
                          refine wpAnyH_ready (rs := [10]) (by kernel_rfl) (by simp) ?_
                          refine AllReadyH.cons rfl (fun K hK => ?_) AllReadyH.nil
                          refine step_strs rfl (.tmp 81) (.tmp 86) rfl wq.heap.size _ (O.take k) k hTl.out rfl (HOp.out.alloc _) _ _ 1 1 [x] rfl rfl (SrcO.one Wp x) (k + 1) (by omega) (by omega) (HBBp.out.alloc HBBp.out.size (.cells #[.string (baO x)] 9)).size ?_
                          intro Aq cq Wq hoq hbq hfq
                          have HOq := Lib.hid hoq
                          have HBBq := Lib.hid ((HBBp.out.alloc HBBp.out.size (.cells #[.string (baO x)] 9)).trans hbq)
                          have HFq := Lib.hid hfq
                          clear hoq hbq hfq
                          refine hK.out _ _ (hkeep.out _ HBBq.out) (fun hHeld => ?_)
                          clear hK K
                          refine wpAnyH_ready (rs := [14]) (by kernel_rfl) (by simp) ?_
                          refine AllReadyH.cons rfl (fun K hK => ?_) AllReadyH.nil
                          refine step_strs rfl (.tmp 87) (.tmp 90) rfl wq.heap.size _ (O.take k ++ [x]) (k + 1) hTl1.out rfl HOq.out _ A2 dk c2 (O.drop k) hDl.out rfl (hsD.out _ HBBq.out) (m + 1) (by omega) (by omega) (HBBq.out).size ?_
                          intro Ar cr Wr hor hbr hfr
                          have HOr := Lib.hid hor
                          have HBBr := Lib.hid ((HBBq.out).trans hbr)
                          have HFr := Lib.hid hfr
                          clear hor hbr hfr
                          refine hK.out _ _ (hkeep.out _ HBBr.out) (fun hHeld => ?_)
                          clear hK K
                          refine wpAnyH_ready (rs := [15]) (by kernel_rfl) (by simp) ?_
                          refine AllReadyH.cons rfl (fun K hK => ?_) AllReadyH.nil
                          go_simp
                          refine hK.out _ _ (hkeep.out _ (by first | exact HBBr.out | exact HBBr.out.drew)) (fun hHeld => ?_)
                          clear hK K
                          refine wpAnyH_done (by kernel_rfl) ?_ _
                          go_wp2_with fail
                          go_roundw
                          case rel => exact ⟨i + 1, m + 1, cr, Ar, O.take k ++ [x] ++ O.drop k, by omega, by omega, by omega, by go_num, rfl, hlenN, hinsN, HSG, Lib.hid (by first | exact HOr.out.base_le7 hzq2 | exact World.ownsRow.drew (HOr.out.base_le7 hzq2)), Lib.hid (HBW.out.trans (by first | exact HBBr.out.mono hzq2 | exact HBBr.out.drew.mono hzq2))⟩
                          case measure => simp [intOf]; omega
                        · go_simp
                          refine hK.out _ _ (hkeep.out _ ((hW0.alloc hW0.size (.cells #[] 9)).alloc (hW0.alloc hW0.size (.cells #[] 9)).size (.cells #[.string (baO x)] 9))) (fun hHeld => ?_)
                          clear hK K
                          refine wpAnyH_ready (rs := [4]) (by kernel_rfl) (by simp) ?_
                          refine AllReadyH.cons rfl (fun K hK => ?_) AllReadyH.nil
                          refine step_strs rfl (.tmp 77) (.tmp 80) rfl wq.heap.size _ [] 0 rfl rfl ((OwnO.lit wq.drew wq.heap.size hW0.size).alloc _) _ (some ⟨bb, 0, none⟩ : Option Addr) k cc (O.take k) hTl.out rfl (hsT.out _ ((hW0.alloc hW0.size (.cells #[] 9)).alloc (hW0.alloc hW0.size (.cells #[] 9)).size (.cells #[.string (baO x)] 9))) k (by omega) (by omega) (((hW0.alloc hW0.size (.cells #[] 9)).alloc (hW0.alloc hW0.size (.cells #[] 9)).size (.cells #[.string (baO x)] 9))).size ?_
                          intro Ap cp Wp hop hbp hfp
                          have HOp := Lib.hid hop
                          have HBBp := Lib.hid ((((hW0.alloc hW0.size (.cells #[] 9)).alloc (hW0.alloc hW0.size (.cells #[] 9)).size (.cells #[.string (baO x)] 9))).trans hbp)
                          have HFp := Lib.hid hfp
                          clear hop hbp hfp
                          refine hK.out _ _ (hkeep.out _ HBBp.out) (fun hHeld => ?_)
                          clear hK K
                          have hxc : Wp.cell? ⟨wq.heap.size + 1, 0, none⟩ = some (.string (baO x)) := (HFp.out ⟨wq.heap.size + 1, 0, none⟩ (by simp) (show some (wq.heap.size + 1) ≠ some wq.heap.size by simp)).trans (by simp)
                          refine wpAnyH_ready (rs := [10]) (by kernel_rfl) (by simp) ?_
                          refine AllReadyH.cons rfl (fun K hK => ?_) AllReadyH.nil
                          refine step_strs rfl (.tmp 81) (.tmp 86) rfl wq.heap.size _ (O.take k) k hTl.out rfl HOp.out _ _ 1 1 [x] rfl rfl (SrcO.one_at hxc) (k + 1) (by omega) (by omega) (HBBp.out).size ?_
                          intro Aq cq Wq hoq hbq hfq
                          have HOq := Lib.hid hoq
                          have HBBq := Lib.hid ((HBBp.out).trans hbq)
                          have HFq := Lib.hid hfq
                          clear hoq hbq hfq
                          refine hK.out _ _ (hkeep.out _ HBBq.out) (fun hHeld => ?_)
                          clear hK K
                          refine wpAnyH_ready (rs := [14]) (by kernel_rfl) (by simp) ?_
                          refine AllReadyH.cons rfl (fun K hK => ?_) AllReadyH.nil
                          refine step_strs rfl (.tmp 87) (.tmp 90) rfl wq.heap.size _ (O.take k ++ [x]) (k + 1) hTl1.out rfl HOq.out _ A2 dk c2 (O.drop k) hDl.out rfl (hsD.out _ HBBq.out) (m + 1) (by omega) (by omega) (HBBq.out).size ?_
                          intro Ar cr Wr hor hbr hfr
                          have HOr := Lib.hid hor
                          have HBBr := Lib.hid ((HBBq.out).trans hbr)
                          have HFr := Lib.hid hfr
                          clear hor hbr hfr
                          refine hK.out _ _ (hkeep.out _ HBBr.out) (fun hHeld => ?_)
                          clear hK K
                          refine wpAnyH_ready (rs := [15]) (by kernel_rfl) (by simp) ?_
                          refine AllReadyH.cons rfl (fun K hK => ?_) AllReadyH.nil
                          go_simp
                          refine hK.out _ _ (hkeep.out _ (by first | exact HBBr.out | exact HBBr.out.drew)) (fun hHeld => ?_)
                          clear hK K
                          refine wpAnyH_done (by kernel_rfl) ?_ _
                          go_wp2_with fail
                          go_roundw
                          case rel => exact ⟨i + 1, m + 1, cr, Ar, O.take k ++ [x] ++ O.drop k, by omega, by omega, by omega, by go_num, rfl, hlenN, hinsN, HSG, Lib.hid (by first | exact HOr.out.base_le7 hzq2 | exact World.ownsRow.drew (HOr.out.base_le7 hzq2)), Lib.hid (HBW.out.trans (by first | exact HBBr.out.mono hzq2 | exact HBBr.out.drew.mono hzq2))⟩
                          case measure => simp [intOf]; omega
                      · go_simp
                        refine hK.out _ _ (hkeep.out _ (hW0.alloc hW0.size _)) (fun hHeld => ?_)
                        clear hK K
                        refine wpAnyH_ready (rs := [0]) (by kernel_rfl) (by simp) ?_
                        refine AllReadyH.cons rfl (fun K hK => ?_) AllReadyH.nil
                        go_simp
                        refine hK.out _ _ (hkeep.out _ ((hW0.alloc hW0.size (.cells #[.string (baO x)] 9)).alloc (hW0.alloc hW0.size (.cells #[.string (baO x)] 9)).size (.cells #[] 9))) (fun hHeld => ?_)
                        clear hK K
                        refine wpAnyH_ready (rs := [4]) (by kernel_rfl) (by simp) ?_
                        refine AllReadyH.cons rfl (fun K hK => ?_) AllReadyH.nil
                        refine step_strs rfl (.tmp 77) (.tmp 80) rfl wq.heap.size _ [] 0 rfl rfl (OwnO.lit2 wq.drew (.cells #[.string (baO x)] 9) wq.heap.size hW0.size) _ (some ⟨bb, 0, none⟩ : Option Addr) k cc (O.take k) hTl.out rfl (hsT.out _ ((hW0.alloc hW0.size (.cells #[.string (baO x)] 9)).alloc (hW0.alloc hW0.size (.cells #[.string (baO x)] 9)).size (.cells #[] 9))) k (by omega) (by omega) (((hW0.alloc hW0.size (.cells #[.string (baO x)] 9)).alloc (hW0.alloc hW0.size (.cells #[.string (baO x)] 9)).size (.cells #[] 9))).size ?_
                        intro Ap cp Wp hop hbp hfp
                        have HOp := Lib.hid hop
                        have HBBp := Lib.hid ((((hW0.alloc hW0.size (.cells #[.string (baO x)] 9)).alloc (hW0.alloc hW0.size (.cells #[.string (baO x)] 9)).size (.cells #[] 9))).trans hbp)
                        have HFp := Lib.hid hfp
                        clear hop hbp hfp
                        refine hK.out _ _ (hkeep.out _ HBBp.out) (fun hHeld => ?_)
                        clear hK K
                        have hxc : Wp.cell? ⟨wq.heap.size, 0, none⟩ = some (.string (baO x)) := (HFp.out ⟨wq.heap.size, 0, none⟩ (by simp; omega) (show some wq.heap.size ≠ some (wq.heap.size + 1) by simp)).trans ((World.cell?_alloc_lt _ _ _ (by simp)).trans (by simp))
                        refine wpAnyH_ready (rs := [10]) (by kernel_rfl) (by simp) ?_
                        refine AllReadyH.cons rfl (fun K hK => ?_) AllReadyH.nil
                        refine step_strs rfl (.tmp 81) (.tmp 86) rfl wq.heap.size _ (O.take k) k hTl.out rfl HOp.out _ _ 1 1 [x] rfl rfl (SrcO.one_at hxc) (k + 1) (by omega) (by omega) (HBBp.out).size ?_
                        intro Aq cq Wq hoq hbq hfq
                        have HOq := Lib.hid hoq
                        have HBBq := Lib.hid ((HBBp.out).trans hbq)
                        have HFq := Lib.hid hfq
                        clear hoq hbq hfq
                        refine hK.out _ _ (hkeep.out _ HBBq.out) (fun hHeld => ?_)
                        clear hK K
                        refine wpAnyH_ready (rs := [14]) (by kernel_rfl) (by simp) ?_
                        refine AllReadyH.cons rfl (fun K hK => ?_) AllReadyH.nil
                        refine step_strs rfl (.tmp 87) (.tmp 90) rfl wq.heap.size _ (O.take k ++ [x]) (k + 1) hTl1.out rfl HOq.out _ A2 dk c2 (O.drop k) hDl.out rfl (hsD.out _ HBBq.out) (m + 1) (by omega) (by omega) (HBBq.out).size ?_
                        intro Ar cr Wr hor hbr hfr
                        have HOr := Lib.hid hor
                        have HBBr := Lib.hid ((HBBq.out).trans hbr)
                        have HFr := Lib.hid hfr
                        clear hor hbr hfr
                        refine hK.out _ _ (hkeep.out _ HBBr.out) (fun hHeld => ?_)
                        clear hK K
                        refine wpAnyH_ready (rs := [15]) (by kernel_rfl) (by simp) ?_
                        refine AllReadyH.cons rfl (fun K hK => ?_) AllReadyH.nil
                        go_simp
                        refine hK.out _ _ (hkeep.out _ (by first | exact HBBr.out | exact HBBr.out.drew)) (fun hHeld => ?_)
                        clear hK K
                        refine wpAnyH_done (by kernel_rfl) ?_ _
                        go_wp2_with fail
                        go_roundw
                        case rel => exact ⟨i + 1, m + 1, cr, Ar, O.take k ++ [x] ++ O.drop k, by omega, by omega, by omega, by go_num, rfl, hlenN, hinsN, HSG, Lib.hid (by first | exact HOr.out.base_le7 hzq2 | exact World.ownsRow.drew (HOr.out.base_le7 hzq2)), Lib.hid (HBW.out.trans (by first | exact HBBr.out.mono hzq2 | exact HBBr.out.drew.mono hzq2))⟩
                        case measure => simp [intOf]; omega
                  · replace hz := Lib.hid hz
                    replace hyk := Lib.hid hyk
                    go_wp2_with fail
                    go_quiet (fail)
                    go_wp2_with fail
                    go_roundw
                    case rel => exact ⟨k + 1, by omega, by go_num, Lib.hid (fun j q hj hq => by
                      by_cases e : j = k
                      · subst e
                        rw [hyk.out] at hq
                        injection hq with hq
                        rw [← hq]
                        exact hz.out
                      · exact HL.out j q (by omega) hq), Lib.hid (own_drewN HO2.out _), Lib.hid (below_drewN8 HB2.out _)⟩
                    case measure => simp [intOf]; omega
                · have hins := ins_at x O k (by omega) HL.out (fun q hq => by rw [List.getElem?_eq_none (by omega)] at hq; cases hq)
                  rw [if_neg (by rw [List.getElem?_eq_none (by omega)]; simp)] at hins
                  have hcm : m ≤ cc := by
                    have := hsrc.le
                    omega
                  have d3 : ¬ ((k : Int) < (m : Int)) := by omega
                  have d1 : decide ((k : Int) < (m : Int)) = false := decide_eq_false d3
                  have d2 : decide (k < m) = false := decide_eq_false hkm
                  replace hins := Lib.hid hins
                  replace hsrc := Lib.hid hsrc
                  replace hOl := Lib.hid hOl
                  go_wp2_with fail
                  go_quiet (fail)
                  go_wp2_with fail
                  go_quiet (fail)
                  go_wp2_with fail
                  refine world_out (p := fun W => Code.wp _ _ _ _ W) _ _ (fun wq HBq hzq => ?_)
                  have hzq2 : w3.heap.size ≤ wq.heap.size := by
                    rw [hzq]
                    exact HB2.out.size
                  have HBW : Hid (Below w3.heap.size w3 wq) := Lib.hid (HB2.out.trans (HBq.mono HB2.out.size))
                  replace hkeep : Hid (∀ W, Below wq.heap.size wq W → W.cell? ⟨g, i, none⟩ = some (.string (baO x))) := Lib.hid fun W hW => hcell0.out W (HBW.out.trans (hW.mono hzq2))
                  obtain ⟨dk, hdk⟩ : ∃ dk, dk = m - k := ⟨_, rfl⟩
                  have hdk1 : dk + k ≤ m := by omega
                  have hdk2 : m ≤ dk + k := by omega
                  have hcc : m ≤ cc := hcm
                  obtain ⟨c2, hc2⟩ : ∃ c2, c2 = cc - k := ⟨_, rfl⟩
                  obtain ⟨A2, hA2⟩ : ∃ A2, A2 = (if cc = k then B else B.map (·.add k)) := ⟨_, rfl⟩
                  have hct := fun W => cut_to B m cc k hk hcc W
                  have hcf := fun W => cut_from B m cc k hk hcc W
                  rw [← hA2, ← hc2, ← hdk] at hcf
                  have hOq : OwnO wq w3.heap.size (.slice B m cc) O := HO2.out.below HBq (Nat.le_refl _)
                  have hsT : Hid (∀ W, Below wq.heap.size wq W → SrcO W wq.heap.size B cc (O.take k)) := Lib.hid fun W hW => (hOq.src.below hW).take k
                  have hsD : Hid (∀ W, Below wq.heap.size wq W → SrcO W wq.heap.size A2 c2 (O.drop k)) := Lib.hid fun W hW => by
                    rw [hA2, hc2]
                    exact (hOq.src.below hW).drop k
                  have hTl : Hid ((O.take k).length = k) := Lib.hid (by rw [List.length_take, HM.out]; omega)
                  have hTl1 : Hid ((O.take k ++ [x]).length = k + 1) := Lib.hid (by rw [List.length_append, hTl.out]; rfl)
                  have hDl : Hid ((O.drop k).length = dk) := Lib.hid (by rw [List.length_drop, HM.out]; omega)
                  have hlenN : Hid ((O.take k ++ [x] ++ O.drop k).length = m + 1) := Lib.hid (by rw [List.length_append, hTl1.out, hDl.out]; omega)
                  have hinsN : Hid (O.take k ++ [x] ++ O.drop k = opts (T.take (i + 1 - 1))) := Lib.hid (by rw [hopt.out, hins.out, List.append_assoc]; rfl)
                  have hm65 : m ≤ 65 := by omega
                  clear hOq
                  replace hdk := Lib.hid hdk
                  replace hc2 := Lib.hid hc2
                  replace hA2 := Lib.hid hA2
                  replace hzq := Lib.hid hzq
                  replace HBq := Lib.hid HBq
                  refine wp_region_held_drew (S := (fun W => W.cell? ⟨g, i, none⟩ = some (.string (baO x)))) (by kernel_rfl) (hkeep.out _ (Below.refl _ _).drew) ?_
                  intro hHeld
                  refine takeL8 1 78 (v := ?_) rfl rfl (by kernel_rfl) (by kernel_rfl) (by kernel_rfl) (fun _ _ _ h => h) (Or.inl ⟨by rfl, ?hya1⟩) hHeld ?resta1
                  case hya1 =>
                    intro W hS
                    (try dsimp only at hS)
                    go_simp
                    try (with_reducible rfl)
                  dsimp only [List.set]
                  refine takeL8 2 79 (v := ?_) rfl rfl (by kernel_rfl) (by kernel_rfl) (by kernel_rfl) (fun _ _ _ h => h) (Or.inl ⟨by rfl, ?hya2⟩) hHeld ?resta2
                  case hya2 =>
                    intro W hS
                    (try dsimp only at hS)
                    go_simp
                    try (with_reducible rfl)
                  dsimp only [List.set]
                  refine takeL8 3 80 (v := ?_) rfl rfl (by kernel_rfl) (by kernel_rfl) (by kernel_rfl) (fun _ _ _ h => h) (Or.inl ⟨by rfl, ?hya3⟩) hHeld ?resta3
                  case hya3 =>
                    intro W hS
                    (try dsimp only at hS)
                    go_simp
                    try (with_reducible rfl)
                  dsimp only [List.set]
                  refine takeL8 5 82 (v := ?_) rfl rfl (by kernel_rfl) (by kernel_rfl) (by kernel_rfl) (fun _ _ _ h => h) (Or.inl ⟨by rfl, ?hya5⟩) hHeld ?resta5
                  case hya5 =>
                    intro W hS
                    (try dsimp only at hS)
                    go_simp
                    try (with_reducible rfl)
                  dsimp only [List.set]
                  refine takeL8 6 83 (v := ?_) rfl rfl (by kernel_rfl) (by kernel_rfl) (by kernel_rfl) (fun _ _ _ h => h) (Or.inl ⟨by rfl, ?hya6⟩) hHeld ?resta6
                  case hya6 =>
                    intro W hS
                    (try dsimp only at hS)
                    go_simp
                    try (with_reducible rfl)
                  dsimp only [List.set]
                  refine takeL8 7 84 (v := ?_) rfl rfl (by kernel_rfl) (by kernel_rfl) (by kernel_rfl) (fun _ _ _ h => h) (Or.inl ⟨by rfl, ?hya7⟩) hHeld ?resta7
                  case hya7 =>
                    intro W hS
                    (try dsimp only at hS)
                    go_simp
                    try (with_reducible rfl)
                  dsimp only [List.set]
                  refine takeL8 8 85 (v := ?_) rfl rfl (by kernel_rfl) (by kernel_rfl) (by kernel_rfl) (fun _ _ _ h => h) (Or.inl ⟨by rfl, ?hya8⟩) hHeld ?resta8
                  case hya8 =>
                    intro W hS
                    (try dsimp only at hS)
                    go_simp
                    try (with_reducible rfl)
                  dsimp only [List.set]
                  refine takeL8 11 88 (v := ?_) rfl rfl (by kernel_rfl) (by kernel_rfl) (by kernel_rfl) (fun _ _ _ h => h) (Or.inl ⟨by rfl, ?hya11⟩) hHeld ?resta11
                  case hya11 =>
                    intro W hS
                    (try dsimp only at hS)
                    go_simp
                    try (with_reducible rfl)
                  dsimp only [List.set]
                  refine takeL8 12 89 (v := ?_) rfl rfl (by kernel_rfl) (by kernel_rfl) (by kernel_rfl) (fun _ _ _ h => h) (Or.inl ⟨by rfl, ?hya12⟩) hHeld ?resta12
                  case hya12 =>
                    intro W hS
                    (try dsimp only at hS)
                    go_simp
                    try (with_reducible rfl)
                  dsimp only [List.set]
                  refine takeL8 13 90 (v := ?_) rfl rfl (by kernel_rfl) (by kernel_rfl) (by kernel_rfl) (fun _ _ _ h => h) (Or.inl ⟨by rfl, ?hya13⟩) hHeld ?resta13
                  case hya13 =>
                    intro W hS
                    (try dsimp only at hS)
                    go_simp
                    try (with_reducible rfl)
                  dsimp only [List.set]
                  have hW0 : Below wq.heap.size wq wq.drew := (Below.refl _ _).drew
                  have hW0z : wq.drew.heap.size = wq.heap.size := rfl
                  refine wpAnyH_ready (rs := [0, 9]) (by kernel_rfl) (by simp) ?_
                  refine AllReadyH.cons rfl (fun K hK => ?_) (AllReadyH.cons rfl (fun K hK => ?_) AllReadyH.nil)
                  · go_simp
                    refine hK.out _ _ (hkeep.out _ (hW0.alloc hW0.size _)) (fun hHeld => ?_)
                    clear hK K
                    refine wpAnyH_ready (rs := [4, 9]) (by kernel_rfl) (by simp) ?_
                    refine AllReadyH.cons rfl (fun K hK => ?_) (AllReadyH.cons rfl (fun K hK => ?_) AllReadyH.nil)
                    · refine step_strs rfl (.tmp 77) (.tmp 80) rfl wq.heap.size _ [] 0 rfl rfl (OwnO.lit wq.drew wq.heap.size hW0.size) _ B k cc (O.take k) hTl.out rfl (hsT.out _ (hW0.alloc hW0.size (.cells #[] 9))) k (by omega) (by omega) ((hW0.alloc hW0.size (.cells #[] 9))).size ?_
                      intro Ap cp Wp hop hbp hfp
                      have HOp := Lib.hid hop
                      have HBBp := Lib.hid (((hW0.alloc hW0.size (.cells #[] 9))).trans hbp)
                      have HFp := Lib.hid hfp
                      clear hop hbp hfp
                      refine hK.out _ _ (hkeep.out _ HBBp.out) (fun hHeld => ?_)
                      clear hK K
                      refine wpAnyH_ready (rs := [9]) (by kernel_rfl) (by simp) ?_
                      refine AllReadyH.cons rfl (fun K hK => ?_) AllReadyH.nil
                      go_simp
                      refine hK.out _ _ (hkeep.out _ (HBBp.out.alloc HBBp.out.size _)) (fun hHeld => ?_)
                      clear hK K
                      refine wpAnyH_ready (rs := [10]) (by kernel_rfl) (by simp) ?_
                      refine AllReadyH.cons rfl (fun K hK => ?_) AllReadyH.nil
                      refine step_strs rfl (.tmp 81) (.tmp 86) rfl wq.heap.size _ (O.take k) k hTl.out rfl (HOp.out.alloc _) _ _ 1 1 [x] rfl rfl (SrcO.one Wp x) (k + 1) (by omega) (by omega) (HBBp.out.alloc HBBp.out.size (.cells #[.string (baO x)] 9)).size ?_
                      intro Aq cq Wq hoq hbq hfq
                      have HOq := Lib.hid hoq
                      have HBBq := Lib.hid ((HBBp.out.alloc HBBp.out.size (.cells #[.string (baO x)] 9)).trans hbq)
                      have HFq := Lib.hid hfq
                      clear hoq hbq hfq
                      refine hK.out _ _ (hkeep.out _ HBBq.out) (fun hHeld => ?_)
                      clear hK K
                      refine wpAnyH_ready (rs := [14]) (by kernel_rfl) (by simp) ?_
                      refine AllReadyH.cons rfl (fun K hK => ?_) AllReadyH.nil
                      refine step_strs rfl (.tmp 87) (.tmp 90) rfl wq.heap.size _ (O.take k ++ [x]) (k + 1) hTl1.out rfl HOq.out _ A2 dk c2 (O.drop k) hDl.out rfl (hsD.out _ HBBq.out) (m + 1) (by omega) (by omega) (HBBq.out).size ?_
                      intro Ar cr Wr hor hbr hfr
                      have HOr := Lib.hid hor
                      have HBBr := Lib.hid ((HBBq.out).trans hbr)
                      have HFr := Lib.hid hfr
                      clear hor hbr hfr
                      refine hK.out _ _ (hkeep.out _ HBBr.out) (fun hHeld => ?_)
                      clear hK K
                      refine wpAnyH_ready (rs := [15]) (by kernel_rfl) (by simp) ?_
                      refine AllReadyH.cons rfl (fun K hK => ?_) AllReadyH.nil
                      go_simp
                      refine hK.out _ _ (hkeep.out _ (by first | exact HBBr.out | exact HBBr.out.drew)) (fun hHeld => ?_)
                      clear hK K
                      refine wpAnyH_done (by kernel_rfl) ?_ _
                      go_wp2_with fail
                      go_roundw
                      case rel => exact ⟨i + 1, m + 1, cr, Ar, O.take k ++ [x] ++ O.drop k, by omega, by omega, by omega, by go_num, rfl, hlenN, hinsN, HSG, Lib.hid (by first | exact HOr.out.base_le7 hzq2 | exact World.ownsRow.drew (HOr.out.base_le7 hzq2)), Lib.hid (HBW.out.trans (by first | exact HBBr.out.mono hzq2 | exact HBBr.out.drew.mono hzq2))⟩
                      case measure => simp [intOf]; omega
                    · go_simp
                      refine hK.out _ _ (hkeep.out _ ((hW0.alloc hW0.size (.cells #[] 9)).alloc (hW0.alloc hW0.size (.cells #[] 9)).size (.cells #[.string (baO x)] 9))) (fun hHeld => ?_)
                      clear hK K
                      refine wpAnyH_ready (rs := [4]) (by kernel_rfl) (by simp) ?_
                      refine AllReadyH.cons rfl (fun K hK => ?_) AllReadyH.nil
                      refine step_strs rfl (.tmp 77) (.tmp 80) rfl wq.heap.size _ [] 0 rfl rfl ((OwnO.lit wq.drew wq.heap.size hW0.size).alloc _) _ B k cc (O.take k) hTl.out rfl (hsT.out _ ((hW0.alloc hW0.size (.cells #[] 9)).alloc (hW0.alloc hW0.size (.cells #[] 9)).size (.cells #[.string (baO x)] 9))) k (by omega) (by omega) (((hW0.alloc hW0.size (.cells #[] 9)).alloc (hW0.alloc hW0.size (.cells #[] 9)).size (.cells #[.string (baO x)] 9))).size ?_
                      intro Ap cp Wp hop hbp hfp
                      have HOp := Lib.hid hop
                      have HBBp := Lib.hid ((((hW0.alloc hW0.size (.cells #[] 9)).alloc (hW0.alloc hW0.size (.cells #[] 9)).size (.cells #[.string (baO x)] 9))).trans hbp)
                      have HFp := Lib.hid hfp
                      clear hop hbp hfp
                      refine hK.out _ _ (hkeep.out _ HBBp.out) (fun hHeld => ?_)
                      clear hK K
                      have hxc : Wp.cell? ⟨wq.heap.size + 1, 0, none⟩ = some (.string (baO x)) := (HFp.out ⟨wq.heap.size + 1, 0, none⟩ (by simp) (show some (wq.heap.size + 1) ≠ some wq.heap.size by simp)).trans (by simp)
                      refine wpAnyH_ready (rs := [10]) (by kernel_rfl) (by simp) ?_
                      refine AllReadyH.cons rfl (fun K hK => ?_) AllReadyH.nil
                      refine step_strs rfl (.tmp 81) (.tmp 86) rfl wq.heap.size _ (O.take k) k hTl.out rfl HOp.out _ _ 1 1 [x] rfl rfl (SrcO.one_at hxc) (k + 1) (by omega) (by omega) (HBBp.out).size ?_
                      intro Aq cq Wq hoq hbq hfq
                      have HOq := Lib.hid hoq
                      have HBBq := Lib.hid ((HBBp.out).trans hbq)
                      have HFq := Lib.hid hfq
                      clear hoq hbq hfq
                      refine hK.out _ _ (hkeep.out _ HBBq.out) (fun hHeld => ?_)
                      clear hK K
                      refine wpAnyH_ready (rs := [14]) (by kernel_rfl) (by simp) ?_
                      refine AllReadyH.cons rfl (fun K hK => ?_) AllReadyH.nil
                      refine step_strs rfl (.tmp 87) (.tmp 90) rfl wq.heap.size _ (O.take k ++ [x]) (k + 1) hTl1.out rfl HOq.out _ A2 dk c2 (O.drop k) hDl.out rfl (hsD.out _ HBBq.out) (m + 1) (by omega) (by omega) (HBBq.out).size ?_
                      intro Ar cr Wr hor hbr hfr
                      have HOr := Lib.hid hor
                      have HBBr := Lib.hid ((HBBq.out).trans hbr)
                      have HFr := Lib.hid hfr
                      clear hor hbr hfr
                      refine hK.out _ _ (hkeep.out _ HBBr.out) (fun hHeld => ?_)
                      clear hK K
                      refine wpAnyH_ready (rs := [15]) (by kernel_rfl) (by simp) ?_
                      refine AllReadyH.cons rfl (fun K hK => ?_) AllReadyH.nil
                      go_simp
                      refine hK.out _ _ (hkeep.out _ (by first | exact HBBr.out | exact HBBr.out.drew)) (fun hHeld => ?_)
                      clear hK K
                      refine wpAnyH_done (by kernel_rfl) ?_ _
                      go_wp2_with fail
                      go_roundw
                      case rel => exact ⟨i + 1, m + 1, cr, Ar, O.take k ++ [x] ++ O.drop k, by omega, by omega, by omega, by go_num, rfl, hlenN, hinsN, HSG, Lib.hid (by first | exact HOr.out.base_le7 hzq2 | exact World.ownsRow.drew (HOr.out.base_le7 hzq2)), Lib.hid (HBW.out.trans (by first | exact HBBr.out.mono hzq2 | exact HBBr.out.drew.mono hzq2))⟩
                      case measure => simp [intOf]; omega
                  · go_simp
                    refine hK.out _ _ (hkeep.out _ (hW0.alloc hW0.size _)) (fun hHeld => ?_)
                    clear hK K
                    refine wpAnyH_ready (rs := [0]) (by kernel_rfl) (by simp) ?_
                    refine AllReadyH.cons rfl (fun K hK => ?_) AllReadyH.nil
                    go_simp
                    refine hK.out _ _ (hkeep.out _ ((hW0.alloc hW0.size (.cells #[.string (baO x)] 9)).alloc (hW0.alloc hW0.size (.cells #[.string (baO x)] 9)).size (.cells #[] 9))) (fun hHeld => ?_)
                    clear hK K
                    refine wpAnyH_ready (rs := [4]) (by kernel_rfl) (by simp) ?_
                    refine AllReadyH.cons rfl (fun K hK => ?_) AllReadyH.nil
                    refine step_strs rfl (.tmp 77) (.tmp 80) rfl wq.heap.size _ [] 0 rfl rfl (OwnO.lit2 wq.drew (.cells #[.string (baO x)] 9) wq.heap.size hW0.size) _ B k cc (O.take k) hTl.out rfl (hsT.out _ ((hW0.alloc hW0.size (.cells #[.string (baO x)] 9)).alloc (hW0.alloc hW0.size (.cells #[.string (baO x)] 9)).size (.cells #[] 9))) k (by omega) (by omega) (((hW0.alloc hW0.size (.cells #[.string (baO x)] 9)).alloc (hW0.alloc hW0.size (.cells #[.string (baO x)] 9)).size (.cells #[] 9))).size ?_
                    intro Ap cp Wp hop hbp hfp
                    have HOp := Lib.hid hop
                    have HBBp := Lib.hid ((((hW0.alloc hW0.size (.cells #[.string (baO x)] 9)).alloc (hW0.alloc hW0.size (.cells #[.string (baO x)] 9)).size (.cells #[] 9))).trans hbp)
                    have HFp := Lib.hid hfp
                    clear hop hbp hfp
                    refine hK.out _ _ (hkeep.out _ HBBp.out) (fun hHeld => ?_)
                    clear hK K
                    have hxc : Wp.cell? ⟨wq.heap.size, 0, none⟩ = some (.string (baO x)) := (HFp.out ⟨wq.heap.size, 0, none⟩ (by simp; omega) (show some wq.heap.size ≠ some (wq.heap.size + 1) by simp)).trans ((World.cell?_alloc_lt _ _ _ (by simp)).trans (by simp))
                    refine wpAnyH_ready (rs := [10]) (by kernel_rfl) (by simp) ?_
                    refine AllReadyH.cons rfl (fun K hK => ?_) AllReadyH.nil
                    refine step_strs rfl (.tmp 81) (.tmp 86) rfl wq.heap.size _ (O.take k) k hTl.out rfl HOp.out _ _ 1 1 [x] rfl rfl (SrcO.one_at hxc) (k + 1) (by omega) (by omega) (HBBp.out).size ?_
                    intro Aq cq Wq hoq hbq hfq
                    have HOq := Lib.hid hoq
                    have HBBq := Lib.hid ((HBBp.out).trans hbq)
                    have HFq := Lib.hid hfq
                    clear hoq hbq hfq
                    refine hK.out _ _ (hkeep.out _ HBBq.out) (fun hHeld => ?_)
                    clear hK K
                    refine wpAnyH_ready (rs := [14]) (by kernel_rfl) (by simp) ?_
                    refine AllReadyH.cons rfl (fun K hK => ?_) AllReadyH.nil
                    refine step_strs rfl (.tmp 87) (.tmp 90) rfl wq.heap.size _ (O.take k ++ [x]) (k + 1) hTl1.out rfl HOq.out _ A2 dk c2 (O.drop k) hDl.out rfl (hsD.out _ HBBq.out) (m + 1) (by omega) (by omega) (HBBq.out).size ?_
                    intro Ar cr Wr hor hbr hfr
                    have HOr := Lib.hid hor
                    have HBBr := Lib.hid ((HBBq.out).trans hbr)
                    have HFr := Lib.hid hfr
                    clear hor hbr hfr
                    refine hK.out _ _ (hkeep.out _ HBBr.out) (fun hHeld => ?_)
                    clear hK K
                    refine wpAnyH_ready (rs := [15]) (by kernel_rfl) (by simp) ?_
                    refine AllReadyH.cons rfl (fun K hK => ?_) AllReadyH.nil
                    go_simp
                    refine hK.out _ _ (hkeep.out _ (by first | exact HBBr.out | exact HBBr.out.drew)) (fun hHeld => ?_)
                    clear hK K
                    refine wpAnyH_done (by kernel_rfl) ?_ _
                    go_wp2_with fail
                    go_roundw
                    case rel => exact ⟨i + 1, m + 1, cr, Ar, O.take k ++ [x] ++ O.drop k, by omega, by omega, by omega, by go_num, rfl, hlenN, hinsN, HSG, Lib.hid (by first | exact HOr.out.base_le7 hzq2 | exact World.ownsRow.drew (HOr.out.base_le7 hzq2)), Lib.hid (HBW.out.trans (by first | exact HBBr.out.mono hzq2 | exact HBBr.out.drew.mono hzq2))⟩
                    case measure => simp [intOf]; omega
          · have hii : T.length ≤ i - 1 := by omega
            have hOT : O = opts T := by rw [HOe.out, List.take_of_length_le hii]
            have hfin := Lib.hid (descO_good hsp.out hl64 hgood.out (fun j hj => HSi.out j hj (by omega)))
            replace hOT := Lib.hid hOT
            have hcell : wr.cell? ⟨g, 0, none⟩ = some (.string (baO p0)) := (HB.out.cell (p := ⟨g, 0, none⟩) hgK).trans hc3
            have i1 : ¬ ((i : Int) < (N : Int)) := by omega
            go_wp2_with fail
            go_returns
            exact ⟨DescS.yes (by rw [hfin.out, hOT.out]) HM.out (HO.out.base_le7 HBK.out.size), HBB.out⟩
    · have hgood : Hid (((arcsO p0).isSome || wordB p0) = true) := Lib.hid (by rw [hnb]; rfl)
      replace hnb := Lib.hid hnb
      replace hwb := Lib.hid hwb
      go_wp2_with fail
      go_loopw [8, 9] (fun ov iv wr => ∃ (i m cc : Nat) (B : Option Addr) (O : List (List UInt8)), 1 ≤ i ∧ i ≤ N ∧ m ≤ i ∧ iv = .int .i64 (i : Int) ∧ ov = .slice B m cc ∧ Hid (O.length = m) ∧ Hid (O = opts (T.take (i - 1))) ∧ Hid (∀ j (hj : j < T.length), j < i - 1 → signsB T[j] = true) ∧ Hid (OwnO wr w3.heap.size (.slice B m cc) O) ∧ Hid (Below w3.heap.size w3 wr)) (fun _ iv _ => N - (intOf iv).toNat)
      case atStart => exact ⟨1, 0, 0, none, [], Nat.le_refl _, hN1, by omega, rfl, rfl, Lib.hid rfl, Lib.hid rfl, Lib.hid (fun j hj h0 => by omega), Lib.hid (OwnO.nil _ _), Lib.hid (Below.refl _ _)⟩
      case round =>
        obtain ⟨i, m, cc, B, O, hi1, hiN, hmi, rfl, rfl, HM, HOe, HSi, HO, HB⟩ := hrel
        have hszk := HB.out.size
        have HBB := Lib.hid (HBK.out.trans (HB.out.mono HBK.out.size))
        by_cases hlt : i < N
        · have hiT : i - 1 < T.length := by omega
          obtain ⟨x, hx⟩ : ∃ x, T[i - 1] = x := ⟨_, rfl⟩
          have hcell0 : ∀ W, Below w3.heap.size w3 W → W.cell? ⟨g, i, none⟩ = some (.string (baO x)) := fun W hW => by
            rw [hW.cell (p := ⟨g, i, none⟩) hgK]
            exact HE.out i x (by rw [show i = (i - 1) + 1 from by omega, List.getElem?_cons_succ, List.getElem?_eq_getElem hiT, hx])
          have hcell := hcell0 wr HB.out
          replace hcell0 := Lib.hid hcell0
          have hxs : (baO x).size ≤ 100 := by
            rw [baO_size]
            exact hTs.out x (by rw [← hx]; exact List.getElem_mem hiT)
          have CS := refSigns_any (baO x) wr (by omega)
          rw [baO_list] at CS
          have hbad := descO_option (k := i - 1) hsp.out hl64 hiT
          rw [hx] at hbad
          obtain ⟨sb, hsb⟩ : ∃ sb, signsB x = sb := ⟨_, rfl⟩
          rw [hsb] at CS hbad
          have hxT := Lib.hid hx
          clear hx
          replace CS := Lib.hid CS
          have i1 : (i : Int) < (N : Int) := by omega
          have i0 : (0 : Int) ≤ (i : Int) := by omega
          cases sb
          · have hfin := Lib.hid (hbad rfl)
            clear hbad
            replace hsb := Lib.hid hsb
            go_wp2_with fail
            refine CS.out.mono ?_
            rintro _ w9 ⟨rfl, h9⟩
            subst w9
            dsimp only []
            go_wp2_with fail
            go_returns
            exact ⟨DescS.no hfin.out, HBB.out⟩
          · clear hbad
            have HSG : Hid (∀ j (hj : j < T.length), j < i + 1 - 1 → signsB T[j] = true) := Lib.hid fun j hj h0 => by
              by_cases e : j = i - 1
              · subst e
                rw [hxT.out, hsb]
              · exact HSi.out j hj (by omega)
            have hopt : opts (T.take (i + 1 - 1)) = ins x O := by
              rw [show i + 1 - 1 = (i - 1) + 1 from by omega, List.take_succ_eq_append_getElem hiT, hxT.out, opts_snoc, ← HOe.out]
            replace hopt := Lib.hid hopt
            replace hsb := Lib.hid hsb
            go_wp2_with fail
            refine CS.out.mono ?_
            rintro _ w9 ⟨rfl, h9⟩
            subst w9
            dsimp only []
            go_wp2_with fail
            go_loopw [10] (fun kv wr => ∃ k : Nat, k ≤ m ∧ kv = .int .i64 (k : Int) ∧ Hid (∀ j y, j < k → O[j]? = some y → Op.bytesLess y x = true) ∧ Hid (OwnO wr w3.heap.size (.slice B m cc) O) ∧ Hid (Below w3.heap.size w3 wr)) (fun kv _ => m - (intOf kv).toNat)
            case atStart => exact ⟨0, Nat.zero_le _, rfl, Lib.hid (fun j y h0 => by omega), HO, HB⟩
            case round =>
              obtain ⟨k, hk, rfl, HL, HO2, HB2⟩ := hrel
              have hcell2 := hcell0.out wr HB2.out
              have hkeep : Hid (∀ W, Below wr.heap.size wr W → W.cell? ⟨g, i, none⟩ = some (.string (baO x))) := Lib.hid fun W hW => hcell0.out W (HB2.out.trans (hW.mono HB2.out.size))
              have hsrc := HO2.out.src
              have hOl := HM.out
              by_cases hkm : k < m
              · have hkO : k < O.length := by omega
                obtain ⟨y, hy⟩ : ∃ y, O[k] = y := ⟨_, rfl⟩
                have hyk : O[k]? = some y := by rw [List.getElem?_eq_getElem hkO, hy]
                obtain ⟨bb, cbb, e1, _, _, hcm, hcx, e4⟩ : ∃ bb cbb, (Value.slice B m cc) = .slice (some ⟨bb, 0, none⟩) m cbb ∧ w3.heap.size ≤ bb ∧ bb < wr.heap.size ∧ m ≤ cbb ∧ cbb ≤ 9223372036854775807 ∧ ∀ (j : Nat) (l : List UInt8), O[j]? = some l → wr.cell? ⟨bb, j, none⟩ = some (.string (baO l)) := by
                  rcases HO2.out.form' hOl with ⟨_, e0⟩ | h
                  · rw [e0] at hkO
                    simp at hkO
                  · exact h
                injection e1 with e1 _ e3
                subst e1 e3
                have hcy := e4 k y hyk
                clear e4
                obtain ⟨z, hz⟩ : ∃ z, Op.bytesLess y x = z := ⟨_, rfl⟩
                have hz1 : Op.bytesLess (baO y).toList (baO x).toList = z := by rw [ByteArray.toList_eq, ByteArray.toList_eq, baO_list, baO_list]; exact hz
                have d1 : decide ((k : Int) < (m : Int)) = true := decide_eq_true (by omega)
                have d2 : decide (k < m) = true := decide_eq_true hkm
                have d3 : (k : Int) < (m : Int) := by omega
                have d4 : (0 : Int) ≤ (k : Int) := by omega
                replace hsrc := Lib.hid hsrc
                replace hOl := Lib.hid hOl
                replace hy := Lib.hid hy
                cases z
                · have hins := ins_at x O k (by rw [hOl.out]; exact hk) HL.out (fun q hq => by rw [hyk] at hq; injection hq with hq; rw [← hq]; exact hz)
                  rw [hyk] at hins
                  by_cases hyx : y = x
                  · subst hyx
                    rw [if_pos rfl] at hins
                    have hq1 : ((baO y).toList == (baO y).toList) = true := by simp
                    replace hins := Lib.hid hins
                    replace hz := Lib.hid hz
                    replace hyk := Lib.hid hyk
                    go_wp2_with fail
                    go_quiet (fail)
                    go_wp2_with fail
                    go_quiet (fail)
                    go_wp2_with fail
                    go_roundw
                    case rel => exact ⟨i + 1, m, _, _, O, by omega, by omega, by omega, by go_num, rfl, HM, Lib.hid (by rw [hopt.out, hins.out]), HSG, Lib.hid (own_drewN HO2.out _), Lib.hid (below_drewN8 HB2.out _)⟩
                    case measure => simp [intOf]; omega
                  · rw [if_neg (by simpa using hyx)] at hins
                    have hq1 : ((baO y).toList == (baO x).toList) = false := by
                      rw [beq_eq_false_iff_ne, ByteArray.toList_eq, ByteArray.toList_eq, baO_list, baO_list]
                      exact hyx
                    replace hins := Lib.hid hins
                    replace hz := Lib.hid hz
                    replace hyk := Lib.hid hyk
                    go_wp2_with fail
                    go_quiet (fail)
                    go_wp2_with fail
                    go_quiet (fail)
                    go_wp2_with fail
                    refine world_out (p := fun W => Code.wp _ _ _ _ W) _ _ (fun wq HBq hzq => ?_)
                    have hzq2 : w3.heap.size ≤ wq.heap.size := by
                      rw [hzq]
                      exact HB2.out.size
                    have HBW : Hid (Below w3.heap.size w3 wq) := Lib.hid (HB2.out.trans (HBq.mono HB2.out.size))
                    replace hkeep : Hid (∀ W, Below wq.heap.size wq W → W.cell? ⟨g, i, none⟩ = some (.string (baO x))) := Lib.hid fun W hW => hcell0.out W (HBW.out.trans (hW.mono hzq2))
                    obtain ⟨dk, hdk⟩ : ∃ dk, dk = m - k := ⟨_, rfl⟩
                    have hdk1 : dk + k ≤ m := by omega
                    have hdk2 : m ≤ dk + k := by omega
                    have hcc : m ≤ cc := hcm
                    obtain ⟨c2, hc2⟩ : ∃ c2, c2 = cc - k := ⟨_, rfl⟩
                    obtain ⟨A2, hA2⟩ : ∃ A2, A2 = (if cc = k then (some ⟨bb, 0, none⟩ : Option Addr) else (some ⟨bb, 0, none⟩ : Option Addr).map (·.add k)) := ⟨_, rfl⟩
                    have hct := fun W => cut_to (some ⟨bb, 0, none⟩ : Option Addr) m cc k hk hcc W
                    have hcf := fun W => cut_from (some ⟨bb, 0, none⟩ : Option Addr) m cc k hk hcc W
                    rw [← hA2, ← hc2, ← hdk] at hcf
                    have hOq : OwnO wq w3.heap.size (.slice (some ⟨bb, 0, none⟩ : Option Addr) m cc) O := HO2.out.below HBq (Nat.le_refl _)
                    have hsT : Hid (∀ W, Below wq.heap.size wq W → SrcO W wq.heap.size (some ⟨bb, 0, none⟩ : Option Addr) cc (O.take k)) := Lib.hid fun W hW => (hOq.src.below hW).take k
                    have hsD : Hid (∀ W, Below wq.heap.size wq W → SrcO W wq.heap.size A2 c2 (O.drop k)) := Lib.hid fun W hW => by
                      rw [hA2, hc2]
                      exact (hOq.src.below hW).drop k
                    have hTl : Hid ((O.take k).length = k) := Lib.hid (by rw [List.length_take, HM.out]; omega)
                    have hTl1 : Hid ((O.take k ++ [x]).length = k + 1) := Lib.hid (by rw [List.length_append, hTl.out]; rfl)
                    have hDl : Hid ((O.drop k).length = dk) := Lib.hid (by rw [List.length_drop, HM.out]; omega)
                    have hlenN : Hid ((O.take k ++ [x] ++ O.drop k).length = m + 1) := Lib.hid (by rw [List.length_append, hTl1.out, hDl.out]; omega)
                    have hinsN : Hid (O.take k ++ [x] ++ O.drop k = opts (T.take (i + 1 - 1))) := Lib.hid (by rw [hopt.out, hins.out, List.append_assoc]; rfl)
                    have hm65 : m ≤ 65 := by omega
                    clear hOq
                    replace hdk := Lib.hid hdk
                    replace hc2 := Lib.hid hc2
                    replace hA2 := Lib.hid hA2
                    replace hzq := Lib.hid hzq
                    replace HBq := Lib.hid HBq
                    refine wp_region_held_drew (S := (fun W => W.cell? ⟨g, i, none⟩ = some (.string (baO x)))) (by kernel_rfl) (hkeep.out _ (Below.refl _ _).drew) ?_
                    intro hHeld
                    refine takeL8 1 78 (v := ?_) rfl rfl (by kernel_rfl) (by kernel_rfl) (by kernel_rfl) (fun _ _ _ h => h) (Or.inl ⟨by rfl, ?hyd1⟩) hHeld ?restd1
                    case hyd1 =>
                      intro W hS
                      (try dsimp only at hS)
                      go_simp
                      try (with_reducible rfl)
                    dsimp only [List.set]
                    refine takeL8 2 79 (v := ?_) rfl rfl (by kernel_rfl) (by kernel_rfl) (by kernel_rfl) (fun _ _ _ h => h) (Or.inl ⟨by rfl, ?hyd2⟩) hHeld ?restd2
                    case hyd2 =>
                      intro W hS
                      (try dsimp only at hS)
                      go_simp
                      try (with_reducible rfl)
                    dsimp only [List.set]
                    refine takeL8 3 80 (v := ?_) rfl rfl (by kernel_rfl) (by kernel_rfl) (by kernel_rfl) (fun _ _ _ h => h) (Or.inl ⟨by rfl, ?hyd3⟩) hHeld ?restd3
                    case hyd3 =>
                      intro W hS
                      (try dsimp only at hS)
                      go_simp
                      try (with_reducible rfl)
                    dsimp only [List.set]
                    refine takeL8 5 82 (v := ?_) rfl rfl (by kernel_rfl) (by kernel_rfl) (by kernel_rfl) (fun _ _ _ h => h) (Or.inl ⟨by rfl, ?hyd5⟩) hHeld ?restd5
                    case hyd5 =>
                      intro W hS
                      (try dsimp only at hS)
                      go_simp
                      try (with_reducible rfl)
                    dsimp only [List.set]
                    refine takeL8 6 83 (v := ?_) rfl rfl (by kernel_rfl) (by kernel_rfl) (by kernel_rfl) (fun _ _ _ h => h) (Or.inl ⟨by rfl, ?hyd6⟩) hHeld ?restd6
                    case hyd6 =>
                      intro W hS
                      (try dsimp only at hS)
                      go_simp
                      try (with_reducible rfl)
                    dsimp only [List.set]
                    refine takeL8 7 84 (v := ?_) rfl rfl (by kernel_rfl) (by kernel_rfl) (by kernel_rfl) (fun _ _ _ h => h) (Or.inl ⟨by rfl, ?hyd7⟩) hHeld ?restd7
                    case hyd7 =>
                      intro W hS
                      (try dsimp only at hS)
                      go_simp
                      try (with_reducible rfl)
                    dsimp only [List.set]
                    refine takeL8 8 85 (v := ?_) rfl rfl (by kernel_rfl) (by kernel_rfl) (by kernel_rfl) (fun _ _ _ h => h) (Or.inl ⟨by rfl, ?hyd8⟩) hHeld ?restd8
                    case hyd8 =>
                      intro W hS
                      (try dsimp only at hS)
                      go_simp
                      try (with_reducible rfl)
                    dsimp only [List.set]
                    refine takeL8 11 88 (v := ?_) rfl rfl (by kernel_rfl) (by kernel_rfl) (by kernel_rfl) (fun _ _ _ h => h) (Or.inl ⟨by rfl, ?hyd11⟩) hHeld ?restd11
                    case hyd11 =>
                      intro W hS
                      (try dsimp only at hS)
                      go_simp
                      try (with_reducible rfl)
                    dsimp only [List.set]
                    refine takeL8 12 89 (v := ?_) rfl rfl (by kernel_rfl) (by kernel_rfl) (by kernel_rfl) (fun _ _ _ h => h) (Or.inl ⟨by rfl, ?hyd12⟩) hHeld ?restd12
                    case hyd12 =>
                      intro W hS
                      (try dsimp only at hS)
                      go_simp
                      try (with_reducible rfl)
                    dsimp only [List.set]
                    refine takeL8 13 90 (v := ?_) rfl rfl (by kernel_rfl) (by kernel_rfl) (by kernel_rfl) (fun _ _ _ h => h) (Or.inl ⟨by rfl, ?hyd13⟩) hHeld ?restd13
                    case hyd13 =>
                      intro W hS
                      (try dsimp only at hS)
                      go_simp
                      try (with_reducible rfl)
                    dsimp only [List.set]
                    have hW0 : Below wq.heap.size wq wq.drew := (Below.refl _ _).drew
                    have hW0z : wq.drew.heap.size = wq.heap.size := rfl
                    refine wpAnyH_ready (rs := [0, 9]) (by kernel_rfl) (by simp) ?_
                    refine AllReadyH.cons rfl (fun K hK => ?_) (AllReadyH.cons rfl (fun K hK => ?_) AllReadyH.nil)
                    · go_simp
                      refine hK.out _ _ (hkeep.out _ (hW0.alloc hW0.size _)) (fun hHeld => ?_)
                      clear hK K
                      refine wpAnyH_ready (rs := [4, 9]) (by kernel_rfl) (by simp) ?_
                      refine AllReadyH.cons rfl (fun K hK => ?_) (AllReadyH.cons rfl (fun K hK => ?_) AllReadyH.nil)
                      · refine step_strs rfl (.tmp 77) (.tmp 80) rfl wq.heap.size _ [] 0 rfl rfl (OwnO.lit wq.drew wq.heap.size hW0.size) _ (some ⟨bb, 0, none⟩ : Option Addr) k cc (O.take k) hTl.out rfl (hsT.out _ (hW0.alloc hW0.size (.cells #[] 9))) k (by omega) (by omega) ((hW0.alloc hW0.size (.cells #[] 9))).size ?_
                        intro Ap cp Wp hop hbp hfp
                        have HOp := Lib.hid hop
                        have HBBp := Lib.hid (((hW0.alloc hW0.size (.cells #[] 9))).trans hbp)
                        have HFp := Lib.hid hfp
                        clear hop hbp hfp
                        refine hK.out _ _ (hkeep.out _ HBBp.out) (fun hHeld => ?_)
                        clear hK K
                        refine wpAnyH_ready (rs := [9]) (by kernel_rfl) (by simp) ?_
                        refine AllReadyH.cons rfl (fun K hK => ?_) AllReadyH.nil
                        go_simp
                        refine hK.out _ _ (hkeep.out _ (HBBp.out.alloc HBBp.out.size _)) (fun hHeld => ?_)
                        clear hK K
                        refine wpAnyH_ready (rs := [10]) (by kernel_rfl) (by simp) ?_
                        refine AllReadyH.cons rfl (fun K hK => ?_) AllReadyH.nil
                        refine step_strs rfl (.tmp 81) (.tmp 86) rfl wq.heap.size _ (O.take k) k hTl.out rfl (HOp.out.alloc _) _ _ 1 1 [x] rfl rfl (SrcO.one Wp x) (k + 1) (by omega) (by omega) (HBBp.out.alloc HBBp.out.size (.cells #[.string (baO x)] 9)).size ?_
                        intro Aq cq Wq hoq hbq hfq
                        have HOq := Lib.hid hoq
                        have HBBq := Lib.hid ((HBBp.out.alloc HBBp.out.size (.cells #[.string (baO x)] 9)).trans hbq)
                        have HFq := Lib.hid hfq
                        clear hoq hbq hfq
                        refine hK.out _ _ (hkeep.out _ HBBq.out) (fun hHeld => ?_)
                        clear hK K
                        refine wpAnyH_ready (rs := [14]) (by kernel_rfl) (by simp) ?_
                        refine AllReadyH.cons rfl (fun K hK => ?_) AllReadyH.nil
                        refine step_strs rfl (.tmp 87) (.tmp 90) rfl wq.heap.size _ (O.take k ++ [x]) (k + 1) hTl1.out rfl HOq.out _ A2 dk c2 (O.drop k) hDl.out rfl (hsD.out _ HBBq.out) (m + 1) (by omega) (by omega) (HBBq.out).size ?_
                        intro Ar cr Wr hor hbr hfr
                        have HOr := Lib.hid hor
                        have HBBr := Lib.hid ((HBBq.out).trans hbr)
                        have HFr := Lib.hid hfr
                        clear hor hbr hfr
                        refine hK.out _ _ (hkeep.out _ HBBr.out) (fun hHeld => ?_)
                        clear hK K
                        refine wpAnyH_ready (rs := [15]) (by kernel_rfl) (by simp) ?_
                        refine AllReadyH.cons rfl (fun K hK => ?_) AllReadyH.nil
                        go_simp
                        refine hK.out _ _ (hkeep.out _ (by first | exact HBBr.out | exact HBBr.out.drew)) (fun hHeld => ?_)
                        clear hK K
                        refine wpAnyH_done (by kernel_rfl) ?_ _
                        go_wp2_with fail
                        go_roundw
                        case rel => exact ⟨i + 1, m + 1, cr, Ar, O.take k ++ [x] ++ O.drop k, by omega, by omega, by omega, by go_num, rfl, hlenN, hinsN, HSG, Lib.hid (by first | exact HOr.out.base_le7 hzq2 | exact World.ownsRow.drew (HOr.out.base_le7 hzq2)), Lib.hid (HBW.out.trans (by first | exact HBBr.out.mono hzq2 | exact HBBr.out.drew.mono hzq2))⟩
                        case measure => simp [intOf]; omega
                      · go_simp
                        refine hK.out _ _ (hkeep.out _ ((hW0.alloc hW0.size (.cells #[] 9)).alloc (hW0.alloc hW0.size (.cells #[] 9)).size (.cells #[.string (baO x)] 9))) (fun hHeld => ?_)
                        clear hK K
                        refine wpAnyH_ready (rs := [4]) (by kernel_rfl) (by simp) ?_
                        refine AllReadyH.cons rfl (fun K hK => ?_) AllReadyH.nil
                        refine step_strs rfl (.tmp 77) (.tmp 80) rfl wq.heap.size _ [] 0 rfl rfl ((OwnO.lit wq.drew wq.heap.size hW0.size).alloc _) _ (some ⟨bb, 0, none⟩ : Option Addr) k cc (O.take k) hTl.out rfl (hsT.out _ ((hW0.alloc hW0.size (.cells #[] 9)).alloc (hW0.alloc hW0.size (.cells #[] 9)).size (.cells #[.string (baO x)] 9))) k (by omega) (by omega) (((hW0.alloc hW0.size (.cells #[] 9)).alloc (hW0.alloc hW0.size (.cells #[] 9)).size (.cells #[.string (baO x)] 9))).size ?_
                        intro Ap cp Wp hop hbp hfp
                        have HOp := Lib.hid hop
                        have HBBp := Lib.hid ((((hW0.alloc hW0.size (.cells #[] 9)).alloc (hW0.alloc hW0.size (.cells #[] 9)).size (.cells #[.string (baO x)] 9))).trans hbp)
                        have HFp := Lib.hid hfp
                        clear hop hbp hfp
                        refine hK.out _ _ (hkeep.out _ HBBp.out) (fun hHeld => ?_)
                        clear hK K
                        have hxc : Wp.cell? ⟨wq.heap.size + 1, 0, none⟩ = some (.string (baO x)) := (HFp.out ⟨wq.heap.size + 1, 0, none⟩ (by simp) (show some (wq.heap.size + 1) ≠ some wq.heap.size by simp)).trans (by simp)
                        refine wpAnyH_ready (rs := [10]) (by kernel_rfl) (by simp) ?_
                        refine AllReadyH.cons rfl (fun K hK => ?_) AllReadyH.nil
                        refine step_strs rfl (.tmp 81) (.tmp 86) rfl wq.heap.size _ (O.take k) k hTl.out rfl HOp.out _ _ 1 1 [x] rfl rfl (SrcO.one_at hxc) (k + 1) (by omega) (by omega) (HBBp.out).size ?_
                        intro Aq cq Wq hoq hbq hfq
                        have HOq := Lib.hid hoq
                        have HBBq := Lib.hid ((HBBp.out).trans hbq)
                        have HFq := Lib.hid hfq
                        clear hoq hbq hfq
                        refine hK.out _ _ (hkeep.out _ HBBq.out) (fun hHeld => ?_)
                        clear hK K
                        refine wpAnyH_ready (rs := [14]) (by kernel_rfl) (by simp) ?_
                        refine AllReadyH.cons rfl (fun K hK => ?_) AllReadyH.nil
                        refine step_strs rfl (.tmp 87) (.tmp 90) rfl wq.heap.size _ (O.take k ++ [x]) (k + 1) hTl1.out rfl HOq.out _ A2 dk c2 (O.drop k) hDl.out rfl (hsD.out _ HBBq.out) (m + 1) (by omega) (by omega) (HBBq.out).size ?_
                        intro Ar cr Wr hor hbr hfr
                        have HOr := Lib.hid hor
                        have HBBr := Lib.hid ((HBBq.out).trans hbr)
                        have HFr := Lib.hid hfr
                        clear hor hbr hfr
                        refine hK.out _ _ (hkeep.out _ HBBr.out) (fun hHeld => ?_)
                        clear hK K
                        refine wpAnyH_ready (rs := [15]) (by kernel_rfl) (by simp) ?_
                        refine AllReadyH.cons rfl (fun K hK => ?_) AllReadyH.nil
                        go_simp
                        refine hK.out _ _ (hkeep.out _ (by first | exact HBBr.out | exact HBBr.out.drew)) (fun hHeld => ?_)
                        clear hK K
                        refine wpAnyH_done (by kernel_rfl) ?_ _
                        go_wp2_with fail
                        go_roundw
                        case rel => exact ⟨i + 1, m + 1, cr, Ar, O.take k ++ [x] ++ O.drop k, by omega, by omega, by omega, by go_num, rfl, hlenN, hinsN, HSG, Lib.hid (by first | exact HOr.out.base_le7 hzq2 | exact World.ownsRow.drew (HOr.out.base_le7 hzq2)), Lib.hid (HBW.out.trans (by first | exact HBBr.out.mono hzq2 | exact HBBr.out.drew.mono hzq2))⟩
                        case measure => simp [intOf]; omega
                    · go_simp
                      refine hK.out _ _ (hkeep.out _ (hW0.alloc hW0.size _)) (fun hHeld => ?_)
                      clear hK K
                      refine wpAnyH_ready (rs := [0]) (by kernel_rfl) (by simp) ?_
                      refine AllReadyH.cons rfl (fun K hK => ?_) AllReadyH.nil
                      go_simp
                      refine hK.out _ _ (hkeep.out _ ((hW0.alloc hW0.size (.cells #[.string (baO x)] 9)).alloc (hW0.alloc hW0.size (.cells #[.string (baO x)] 9)).size (.cells #[] 9))) (fun hHeld => ?_)
                      clear hK K
                      refine wpAnyH_ready (rs := [4]) (by kernel_rfl) (by simp) ?_
                      refine AllReadyH.cons rfl (fun K hK => ?_) AllReadyH.nil
                      refine step_strs rfl (.tmp 77) (.tmp 80) rfl wq.heap.size _ [] 0 rfl rfl (OwnO.lit2 wq.drew (.cells #[.string (baO x)] 9) wq.heap.size hW0.size) _ (some ⟨bb, 0, none⟩ : Option Addr) k cc (O.take k) hTl.out rfl (hsT.out _ ((hW0.alloc hW0.size (.cells #[.string (baO x)] 9)).alloc (hW0.alloc hW0.size (.cells #[.string (baO x)] 9)).size (.cells #[] 9))) k (by omega) (by omega) (((hW0.alloc hW0.size (.cells #[.string (baO x)] 9)).alloc (hW0.alloc hW0.size (.cells #[.string (baO x)] 9)).size (.cells #[] 9))).size ?_
                      intro Ap cp Wp hop hbp hfp
                      have HOp := Lib.hid hop
                      have HBBp := Lib.hid ((((hW0.alloc hW0.size (.cells #[.string (baO x)] 9)).alloc (hW0.alloc hW0.size (.cells #[.string (baO x)] 9)).size (.cells #[] 9))).trans hbp)
                      have HFp := Lib.hid hfp
                      clear hop hbp hfp
                      refine hK.out _ _ (hkeep.out _ HBBp.out) (fun hHeld => ?_)
                      clear hK K
                      have hxc : Wp.cell? ⟨wq.heap.size, 0, none⟩ = some (.string (baO x)) := (HFp.out ⟨wq.heap.size, 0, none⟩ (by simp; omega) (show some wq.heap.size ≠ some (wq.heap.size + 1) by simp)).trans ((World.cell?_alloc_lt _ _ _ (by simp)).trans (by simp))
                      refine wpAnyH_ready (rs := [10]) (by kernel_rfl) (by simp) ?_
                      refine AllReadyH.cons rfl (fun K hK => ?_) AllReadyH.nil
                      refine step_strs rfl (.tmp 81) (.tmp 86) rfl wq.heap.size _ (O.take k) k hTl.out rfl HOp.out _ _ 1 1 [x] rfl rfl (SrcO.one_at hxc) (k + 1) (by omega) (by omega) (HBBp.out).size ?_
                      intro Aq cq Wq hoq hbq hfq
                      have HOq := Lib.hid hoq
                      have HBBq := Lib.hid ((HBBp.out).trans hbq)
                      have HFq := Lib.hid hfq
                      clear hoq hbq hfq
                      refine hK.out _ _ (hkeep.out _ HBBq.out) (fun hHeld => ?_)
                      clear hK K
                      refine wpAnyH_ready (rs := [14]) (by kernel_rfl) (by simp) ?_
                      refine AllReadyH.cons rfl (fun K hK => ?_) AllReadyH.nil
                      refine step_strs rfl (.tmp 87) (.tmp 90) rfl wq.heap.size _ (O.take k ++ [x]) (k + 1) hTl1.out rfl HOq.out _ A2 dk c2 (O.drop k) hDl.out rfl (hsD.out _ HBBq.out) (m + 1) (by omega) (by omega) (HBBq.out).size ?_
                      intro Ar cr Wr hor hbr hfr
                      have HOr := Lib.hid hor
                      have HBBr := Lib.hid ((HBBq.out).trans hbr)
                      have HFr := Lib.hid hfr
                      clear hor hbr hfr
                      refine hK.out _ _ (hkeep.out _ HBBr.out) (fun hHeld => ?_)
                      clear hK K
                      refine wpAnyH_ready (rs := [15]) (by kernel_rfl) (by simp) ?_
                      refine AllReadyH.cons rfl (fun K hK => ?_) AllReadyH.nil
                      go_simp
                      refine hK.out _ _ (hkeep.out _ (by first | exact HBBr.out | exact HBBr.out.drew)) (fun hHeld => ?_)
                      clear hK K
                      refine wpAnyH_done (by kernel_rfl) ?_ _
                      go_wp2_with fail
                      go_roundw
                      case rel => exact ⟨i + 1, m + 1, cr, Ar, O.take k ++ [x] ++ O.drop k, by omega, by omega, by omega, by go_num, rfl, hlenN, hinsN, HSG, Lib.hid (by first | exact HOr.out.base_le7 hzq2 | exact World.ownsRow.drew (HOr.out.base_le7 hzq2)), Lib.hid (HBW.out.trans (by first | exact HBBr.out.mono hzq2 | exact HBBr.out.drew.mono hzq2))⟩
                      case measure => simp [intOf]; omega
                · replace hz := Lib.hid hz
                  replace hyk := Lib.hid hyk
                  go_wp2_with fail
                  go_quiet (fail)
                  go_wp2_with fail
                  go_roundw
                  case rel => exact ⟨k + 1, by omega, by go_num, Lib.hid (fun j q hj hq => by
                    by_cases e : j = k
                    · subst e
                      rw [hyk.out] at hq
                      injection hq with hq
                      rw [← hq]
                      exact hz.out
                    · exact HL.out j q (by omega) hq), Lib.hid (own_drewN HO2.out _), Lib.hid (below_drewN8 HB2.out _)⟩
                  case measure => simp [intOf]; omega
              · have hins := ins_at x O k (by omega) HL.out (fun q hq => by rw [List.getElem?_eq_none (by omega)] at hq; cases hq)
                rw [if_neg (by rw [List.getElem?_eq_none (by omega)]; simp)] at hins
                have hcm : m ≤ cc := by
                  have := hsrc.le
                  omega
                have d3 : ¬ ((k : Int) < (m : Int)) := by omega
                have d1 : decide ((k : Int) < (m : Int)) = false := decide_eq_false d3
                have d2 : decide (k < m) = false := decide_eq_false hkm
                replace hins := Lib.hid hins
                replace hsrc := Lib.hid hsrc
                replace hOl := Lib.hid hOl
                go_wp2_with fail
                go_quiet (fail)
                go_wp2_with fail
                go_quiet (fail)
                go_wp2_with fail
                refine world_out (p := fun W => Code.wp _ _ _ _ W) _ _ (fun wq HBq hzq => ?_)
                have hzq2 : w3.heap.size ≤ wq.heap.size := by
                  rw [hzq]
                  exact HB2.out.size
                have HBW : Hid (Below w3.heap.size w3 wq) := Lib.hid (HB2.out.trans (HBq.mono HB2.out.size))
                replace hkeep : Hid (∀ W, Below wq.heap.size wq W → W.cell? ⟨g, i, none⟩ = some (.string (baO x))) := Lib.hid fun W hW => hcell0.out W (HBW.out.trans (hW.mono hzq2))
                obtain ⟨dk, hdk⟩ : ∃ dk, dk = m - k := ⟨_, rfl⟩
                have hdk1 : dk + k ≤ m := by omega
                have hdk2 : m ≤ dk + k := by omega
                have hcc : m ≤ cc := hcm
                obtain ⟨c2, hc2⟩ : ∃ c2, c2 = cc - k := ⟨_, rfl⟩
                obtain ⟨A2, hA2⟩ : ∃ A2, A2 = (if cc = k then B else B.map (·.add k)) := ⟨_, rfl⟩
                have hct := fun W => cut_to B m cc k hk hcc W
                have hcf := fun W => cut_from B m cc k hk hcc W
                rw [← hA2, ← hc2, ← hdk] at hcf
                have hOq : OwnO wq w3.heap.size (.slice B m cc) O := HO2.out.below HBq (Nat.le_refl _)
                have hsT : Hid (∀ W, Below wq.heap.size wq W → SrcO W wq.heap.size B cc (O.take k)) := Lib.hid fun W hW => (hOq.src.below hW).take k
                have hsD : Hid (∀ W, Below wq.heap.size wq W → SrcO W wq.heap.size A2 c2 (O.drop k)) := Lib.hid fun W hW => by
                  rw [hA2, hc2]
                  exact (hOq.src.below hW).drop k
                have hTl : Hid ((O.take k).length = k) := Lib.hid (by rw [List.length_take, HM.out]; omega)
                have hTl1 : Hid ((O.take k ++ [x]).length = k + 1) := Lib.hid (by rw [List.length_append, hTl.out]; rfl)
                have hDl : Hid ((O.drop k).length = dk) := Lib.hid (by rw [List.length_drop, HM.out]; omega)
                have hlenN : Hid ((O.take k ++ [x] ++ O.drop k).length = m + 1) := Lib.hid (by rw [List.length_append, hTl1.out, hDl.out]; omega)
                have hinsN : Hid (O.take k ++ [x] ++ O.drop k = opts (T.take (i + 1 - 1))) := Lib.hid (by rw [hopt.out, hins.out, List.append_assoc]; rfl)
                have hm65 : m ≤ 65 := by omega
                clear hOq
                replace hdk := Lib.hid hdk
                replace hc2 := Lib.hid hc2
                replace hA2 := Lib.hid hA2
                replace hzq := Lib.hid hzq
                replace HBq := Lib.hid HBq
                refine wp_region_held_drew (S := (fun W => W.cell? ⟨g, i, none⟩ = some (.string (baO x)))) (by kernel_rfl) (hkeep.out _ (Below.refl _ _).drew) ?_
                intro hHeld
                refine takeL8 1 78 (v := ?_) rfl rfl (by kernel_rfl) (by kernel_rfl) (by kernel_rfl) (fun _ _ _ h => h) (Or.inl ⟨by rfl, ?hyc1⟩) hHeld ?restc1
                case hyc1 =>
                  intro W hS
                  (try dsimp only at hS)
                  go_simp
                  try (with_reducible rfl)
                dsimp only [List.set]
                refine takeL8 2 79 (v := ?_) rfl rfl (by kernel_rfl) (by kernel_rfl) (by kernel_rfl) (fun _ _ _ h => h) (Or.inl ⟨by rfl, ?hyc2⟩) hHeld ?restc2
                case hyc2 =>
                  intro W hS
                  (try dsimp only at hS)
                  go_simp
                  try (with_reducible rfl)
                dsimp only [List.set]
                refine takeL8 3 80 (v := ?_) rfl rfl (by kernel_rfl) (by kernel_rfl) (by kernel_rfl) (fun _ _ _ h => h) (Or.inl ⟨by rfl, ?hyc3⟩) hHeld ?restc3
                case hyc3 =>
                  intro W hS
                  (try dsimp only at hS)
                  go_simp
                  try (with_reducible rfl)
                dsimp only [List.set]
                refine takeL8 5 82 (v := ?_) rfl rfl (by kernel_rfl) (by kernel_rfl) (by kernel_rfl) (fun _ _ _ h => h) (Or.inl ⟨by rfl, ?hyc5⟩) hHeld ?restc5
                case hyc5 =>
                  intro W hS
                  (try dsimp only at hS)
                  go_simp
                  try (with_reducible rfl)
                dsimp only [List.set]
                refine takeL8 6 83 (v := ?_) rfl rfl (by kernel_rfl) (by kernel_rfl) (by kernel_rfl) (fun _ _ _ h => h) (Or.inl ⟨by rfl, ?hyc6⟩) hHeld ?restc6
                case hyc6 =>
                  intro W hS
                  (try dsimp only at hS)
                  go_simp
                  try (with_reducible rfl)
                dsimp only [List.set]
                refine takeL8 7 84 (v := ?_) rfl rfl (by kernel_rfl) (by kernel_rfl) (by kernel_rfl) (fun _ _ _ h => h) (Or.inl ⟨by rfl, ?hyc7⟩) hHeld ?restc7
                case hyc7 =>
                  intro W hS
                  (try dsimp only at hS)
                  go_simp
                  try (with_reducible rfl)
                dsimp only [List.set]
                refine takeL8 8 85 (v := ?_) rfl rfl (by kernel_rfl) (by kernel_rfl) (by kernel_rfl) (fun _ _ _ h => h) (Or.inl ⟨by rfl, ?hyc8⟩) hHeld ?restc8
                case hyc8 =>
                  intro W hS
                  (try dsimp only at hS)
                  go_simp
                  try (with_reducible rfl)
                dsimp only [List.set]
                refine takeL8 11 88 (v := ?_) rfl rfl (by kernel_rfl) (by kernel_rfl) (by kernel_rfl) (fun _ _ _ h => h) (Or.inl ⟨by rfl, ?hyc11⟩) hHeld ?restc11
                case hyc11 =>
                  intro W hS
                  (try dsimp only at hS)
                  go_simp
                  try (with_reducible rfl)
                dsimp only [List.set]
                refine takeL8 12 89 (v := ?_) rfl rfl (by kernel_rfl) (by kernel_rfl) (by kernel_rfl) (fun _ _ _ h => h) (Or.inl ⟨by rfl, ?hyc12⟩) hHeld ?restc12
                case hyc12 =>
                  intro W hS
                  (try dsimp only at hS)
                  go_simp
                  try (with_reducible rfl)
                dsimp only [List.set]
                refine takeL8 13 90 (v := ?_) rfl rfl (by kernel_rfl) (by kernel_rfl) (by kernel_rfl) (fun _ _ _ h => h) (Or.inl ⟨by rfl, ?hyc13⟩) hHeld ?restc13
                case hyc13 =>
                  intro W hS
                  (try dsimp only at hS)
                  go_simp
                  try (with_reducible rfl)
                dsimp only [List.set]
                have hW0 : Below wq.heap.size wq wq.drew := (Below.refl _ _).drew
                have hW0z : wq.drew.heap.size = wq.heap.size := rfl
                refine wpAnyH_ready (rs := [0, 9]) (by kernel_rfl) (by simp) ?_
                refine AllReadyH.cons rfl (fun K hK => ?_) (AllReadyH.cons rfl (fun K hK => ?_) AllReadyH.nil)
                · go_simp
                  refine hK.out _ _ (hkeep.out _ (hW0.alloc hW0.size _)) (fun hHeld => ?_)
                  clear hK K
                  refine wpAnyH_ready (rs := [4, 9]) (by kernel_rfl) (by simp) ?_
                  refine AllReadyH.cons rfl (fun K hK => ?_) (AllReadyH.cons rfl (fun K hK => ?_) AllReadyH.nil)
                  · refine step_strs rfl (.tmp 77) (.tmp 80) rfl wq.heap.size _ [] 0 rfl rfl (OwnO.lit wq.drew wq.heap.size hW0.size) _ B k cc (O.take k) hTl.out rfl (hsT.out _ (hW0.alloc hW0.size (.cells #[] 9))) k (by omega) (by omega) ((hW0.alloc hW0.size (.cells #[] 9))).size ?_
                    intro Ap cp Wp hop hbp hfp
                    have HOp := Lib.hid hop
                    have HBBp := Lib.hid (((hW0.alloc hW0.size (.cells #[] 9))).trans hbp)
                    have HFp := Lib.hid hfp
                    clear hop hbp hfp
                    refine hK.out _ _ (hkeep.out _ HBBp.out) (fun hHeld => ?_)
                    clear hK K
                    refine wpAnyH_ready (rs := [9]) (by kernel_rfl) (by simp) ?_
                    refine AllReadyH.cons rfl (fun K hK => ?_) AllReadyH.nil
                    go_simp
                    refine hK.out _ _ (hkeep.out _ (HBBp.out.alloc HBBp.out.size _)) (fun hHeld => ?_)
                    clear hK K
                    refine wpAnyH_ready (rs := [10]) (by kernel_rfl) (by simp) ?_
                    refine AllReadyH.cons rfl (fun K hK => ?_) AllReadyH.nil
                    refine step_strs rfl (.tmp 81) (.tmp 86) rfl wq.heap.size _ (O.take k) k hTl.out rfl (HOp.out.alloc _) _ _ 1 1 [x] rfl rfl (SrcO.one Wp x) (k + 1) (by omega) (by omega) (HBBp.out.alloc HBBp.out.size (.cells #[.string (baO x)] 9)).size ?_
                    intro Aq cq Wq hoq hbq hfq
                    have HOq := Lib.hid hoq
                    have HBBq := Lib.hid ((HBBp.out.alloc HBBp.out.size (.cells #[.string (baO x)] 9)).trans hbq)
                    have HFq := Lib.hid hfq
                    clear hoq hbq hfq
                    refine hK.out _ _ (hkeep.out _ HBBq.out) (fun hHeld => ?_)
                    clear hK K
                    refine wpAnyH_ready (rs := [14]) (by kernel_rfl) (by simp) ?_
                    refine AllReadyH.cons rfl (fun K hK => ?_) AllReadyH.nil
                    refine step_strs rfl (.tmp 87) (.tmp 90) rfl wq.heap.size _ (O.take k ++ [x]) (k + 1) hTl1.out rfl HOq.out _ A2 dk c2 (O.drop k) hDl.out rfl (hsD.out _ HBBq.out) (m + 1) (by omega) (by omega) (HBBq.out).size ?_
                    intro Ar cr Wr hor hbr hfr
                    have HOr := Lib.hid hor
                    have HBBr := Lib.hid ((HBBq.out).trans hbr)
                    have HFr := Lib.hid hfr
                    clear hor hbr hfr
                    refine hK.out _ _ (hkeep.out _ HBBr.out) (fun hHeld => ?_)
                    clear hK K
                    refine wpAnyH_ready (rs := [15]) (by kernel_rfl) (by simp) ?_
                    refine AllReadyH.cons rfl (fun K hK => ?_) AllReadyH.nil
                    go_simp
                    refine hK.out _ _ (hkeep.out _ (by first | exact HBBr.out | exact HBBr.out.drew)) (fun hHeld => ?_)
                    clear hK K
                    refine wpAnyH_done (by kernel_rfl) ?_ _
                    go_wp2_with fail
                    go_roundw
                    case rel => exact ⟨i + 1, m + 1, cr, Ar, O.take k ++ [x] ++ O.drop k, by omega, by omega, by omega, by go_num, rfl, hlenN, hinsN, HSG, Lib.hid (by first | exact HOr.out.base_le7 hzq2 | exact World.ownsRow.drew (HOr.out.base_le7 hzq2)), Lib.hid (HBW.out.trans (by first | exact HBBr.out.mono hzq2 | exact HBBr.out.drew.mono hzq2))⟩
                    case measure => simp [intOf]; omega
                  · go_simp
                    refine hK.out _ _ (hkeep.out _ ((hW0.alloc hW0.size (.cells #[] 9)).alloc (hW0.alloc hW0.size (.cells #[] 9)).size (.cells #[.string (baO x)] 9))) (fun hHeld => ?_)
                    clear hK K
                    refine wpAnyH_ready (rs := [4]) (by kernel_rfl) (by simp) ?_
                    refine AllReadyH.cons rfl (fun K hK => ?_) AllReadyH.nil
                    refine step_strs rfl (.tmp 77) (.tmp 80) rfl wq.heap.size _ [] 0 rfl rfl ((OwnO.lit wq.drew wq.heap.size hW0.size).alloc _) _ B k cc (O.take k) hTl.out rfl (hsT.out _ ((hW0.alloc hW0.size (.cells #[] 9)).alloc (hW0.alloc hW0.size (.cells #[] 9)).size (.cells #[.string (baO x)] 9))) k (by omega) (by omega) (((hW0.alloc hW0.size (.cells #[] 9)).alloc (hW0.alloc hW0.size (.cells #[] 9)).size (.cells #[.string (baO x)] 9))).size ?_
                    intro Ap cp Wp hop hbp hfp
                    have HOp := Lib.hid hop
                    have HBBp := Lib.hid ((((hW0.alloc hW0.size (.cells #[] 9)).alloc (hW0.alloc hW0.size (.cells #[] 9)).size (.cells #[.string (baO x)] 9))).trans hbp)
                    have HFp := Lib.hid hfp
                    clear hop hbp hfp
                    refine hK.out _ _ (hkeep.out _ HBBp.out) (fun hHeld => ?_)
                    clear hK K
                    have hxc : Wp.cell? ⟨wq.heap.size + 1, 0, none⟩ = some (.string (baO x)) := (HFp.out ⟨wq.heap.size + 1, 0, none⟩ (by simp) (show some (wq.heap.size + 1) ≠ some wq.heap.size by simp)).trans (by simp)
                    refine wpAnyH_ready (rs := [10]) (by kernel_rfl) (by simp) ?_
                    refine AllReadyH.cons rfl (fun K hK => ?_) AllReadyH.nil
                    refine step_strs rfl (.tmp 81) (.tmp 86) rfl wq.heap.size _ (O.take k) k hTl.out rfl HOp.out _ _ 1 1 [x] rfl rfl (SrcO.one_at hxc) (k + 1) (by omega) (by omega) (HBBp.out).size ?_
                    intro Aq cq Wq hoq hbq hfq
                    have HOq := Lib.hid hoq
                    have HBBq := Lib.hid ((HBBp.out).trans hbq)
                    have HFq := Lib.hid hfq
                    clear hoq hbq hfq
                    refine hK.out _ _ (hkeep.out _ HBBq.out) (fun hHeld => ?_)
                    clear hK K
                    refine wpAnyH_ready (rs := [14]) (by kernel_rfl) (by simp) ?_
                    refine AllReadyH.cons rfl (fun K hK => ?_) AllReadyH.nil
                    refine step_strs rfl (.tmp 87) (.tmp 90) rfl wq.heap.size _ (O.take k ++ [x]) (k + 1) hTl1.out rfl HOq.out _ A2 dk c2 (O.drop k) hDl.out rfl (hsD.out _ HBBq.out) (m + 1) (by omega) (by omega) (HBBq.out).size ?_
                    intro Ar cr Wr hor hbr hfr
                    have HOr := Lib.hid hor
                    have HBBr := Lib.hid ((HBBq.out).trans hbr)
                    have HFr := Lib.hid hfr
                    clear hor hbr hfr
                    refine hK.out _ _ (hkeep.out _ HBBr.out) (fun hHeld => ?_)
                    clear hK K
                    refine wpAnyH_ready (rs := [15]) (by kernel_rfl) (by simp) ?_
                    refine AllReadyH.cons rfl (fun K hK => ?_) AllReadyH.nil
                    go_simp
                    refine hK.out _ _ (hkeep.out _ (by first | exact HBBr.out | exact HBBr.out.drew)) (fun hHeld => ?_)
                    clear hK K
                    refine wpAnyH_done (by kernel_rfl) ?_ _
                    go_wp2_with fail
                    go_roundw
                    case rel => exact ⟨i + 1, m + 1, cr, Ar, O.take k ++ [x] ++ O.drop k, by omega, by omega, by omega, by go_num, rfl, hlenN, hinsN, HSG, Lib.hid (by first | exact HOr.out.base_le7 hzq2 | exact World.ownsRow.drew (HOr.out.base_le7 hzq2)), Lib.hid (HBW.out.trans (by first | exact HBBr.out.mono hzq2 | exact HBBr.out.drew.mono hzq2))⟩
                    case measure => simp [intOf]; omega
                · go_simp
                  refine hK.out _ _ (hkeep.out _ (hW0.alloc hW0.size _)) (fun hHeld => ?_)
                  clear hK K
                  refine wpAnyH_ready (rs := [0]) (by kernel_rfl) (by simp) ?_
                  refine AllReadyH.cons rfl (fun K hK => ?_) AllReadyH.nil
                  go_simp
                  refine hK.out _ _ (hkeep.out _ ((hW0.alloc hW0.size (.cells #[.string (baO x)] 9)).alloc (hW0.alloc hW0.size (.cells #[.string (baO x)] 9)).size (.cells #[] 9))) (fun hHeld => ?_)
                  clear hK K
                  refine wpAnyH_ready (rs := [4]) (by kernel_rfl) (by simp) ?_
                  refine AllReadyH.cons rfl (fun K hK => ?_) AllReadyH.nil
                  refine step_strs rfl (.tmp 77) (.tmp 80) rfl wq.heap.size _ [] 0 rfl rfl (OwnO.lit2 wq.drew (.cells #[.string (baO x)] 9) wq.heap.size hW0.size) _ B k cc (O.take k) hTl.out rfl (hsT.out _ ((hW0.alloc hW0.size (.cells #[.string (baO x)] 9)).alloc (hW0.alloc hW0.size (.cells #[.string (baO x)] 9)).size (.cells #[] 9))) k (by omega) (by omega) (((hW0.alloc hW0.size (.cells #[.string (baO x)] 9)).alloc (hW0.alloc hW0.size (.cells #[.string (baO x)] 9)).size (.cells #[] 9))).size ?_
                  intro Ap cp Wp hop hbp hfp
                  have HOp := Lib.hid hop
                  have HBBp := Lib.hid ((((hW0.alloc hW0.size (.cells #[.string (baO x)] 9)).alloc (hW0.alloc hW0.size (.cells #[.string (baO x)] 9)).size (.cells #[] 9))).trans hbp)
                  have HFp := Lib.hid hfp
                  clear hop hbp hfp
                  refine hK.out _ _ (hkeep.out _ HBBp.out) (fun hHeld => ?_)
                  clear hK K
                  have hxc : Wp.cell? ⟨wq.heap.size, 0, none⟩ = some (.string (baO x)) := (HFp.out ⟨wq.heap.size, 0, none⟩ (by simp; omega) (show some wq.heap.size ≠ some (wq.heap.size + 1) by simp)).trans ((World.cell?_alloc_lt _ _ _ (by simp)).trans (by simp))
                  refine wpAnyH_ready (rs := [10]) (by kernel_rfl) (by simp) ?_
                  refine AllReadyH.cons rfl (fun K hK => ?_) AllReadyH.nil
                  refine step_strs rfl (.tmp 81) (.tmp 86) rfl wq.heap.size _ (O.take k) k hTl.out rfl HOp.out _ _ 1 1 [x] rfl rfl (SrcO.one_at hxc) (k + 1) (by omega) (by omega) (HBBp.out).size ?_
                  intro Aq cq Wq hoq hbq hfq
                  have HOq := Lib.hid hoq
                  have HBBq := Lib.hid ((HBBp.out).trans hbq)
                  have HFq := Lib.hid hfq
                  clear hoq hbq hfq
                  refine hK.out _ _ (hkeep.out _ HBBq.out) (fun hHeld => ?_)
                  clear hK K
                  refine wpAnyH_ready (rs := [14]) (by kernel_rfl) (by simp) ?_
                  refine AllReadyH.cons rfl (fun K hK => ?_) AllReadyH.nil
                  refine step_strs rfl (.tmp 87) (.tmp 90) rfl wq.heap.size _ (O.take k ++ [x]) (k + 1) hTl1.out rfl HOq.out _ A2 dk c2 (O.drop k) hDl.out rfl (hsD.out _ HBBq.out) (m + 1) (by omega) (by omega) (HBBq.out).size ?_
                  intro Ar cr Wr hor hbr hfr
                  have HOr := Lib.hid hor
                  have HBBr := Lib.hid ((HBBq.out).trans hbr)
                  have HFr := Lib.hid hfr
                  clear hor hbr hfr
                  refine hK.out _ _ (hkeep.out _ HBBr.out) (fun hHeld => ?_)
                  clear hK K
                  refine wpAnyH_ready (rs := [15]) (by kernel_rfl) (by simp) ?_
                  refine AllReadyH.cons rfl (fun K hK => ?_) AllReadyH.nil
                  go_simp
                  refine hK.out _ _ (hkeep.out _ (by first | exact HBBr.out | exact HBBr.out.drew)) (fun hHeld => ?_)
                  clear hK K
                  refine wpAnyH_done (by kernel_rfl) ?_ _
                  go_wp2_with fail
                  go_roundw
                  case rel => exact ⟨i + 1, m + 1, cr, Ar, O.take k ++ [x] ++ O.drop k, by omega, by omega, by omega, by go_num, rfl, hlenN, hinsN, HSG, Lib.hid (by first | exact HOr.out.base_le7 hzq2 | exact World.ownsRow.drew (HOr.out.base_le7 hzq2)), Lib.hid (HBW.out.trans (by first | exact HBBr.out.mono hzq2 | exact HBBr.out.drew.mono hzq2))⟩
                  case measure => simp [intOf]; omega
        · have hii : T.length ≤ i - 1 := by omega
          have hOT : O = opts T := by rw [HOe.out, List.take_of_length_le hii]
          have hfin := Lib.hid (descO_good hsp.out hl64 hgood.out (fun j hj => HSi.out j hj (by omega)))
          replace hOT := Lib.hid hOT
          have hcell : wr.cell? ⟨g, 0, none⟩ = some (.string (baO p0)) := (HB.out.cell (p := ⟨g, 0, none⟩) hgK).trans hc3
          have i1 : ¬ ((i : Int) < (N : Int)) := by omega
          go_wp2_with fail
          go_returns
          exact ⟨DescS.yes (by rw [hfin.out, hOT.out]) HM.out (HO.out.base_le7 HBK.out.size), HBB.out⟩
  · have k0 : (64 : Int) < (s.size : Int) := by omega
    have hfin := Lib.hid (descO_bad (l := s.data.toList) (by omega))
    replace hsl := Lib.hid hsl
    go_enter Tryd.func18, Tryd.ntmps18
    go_wp2_with fail
    go_returns
    exact ⟨DescS.no hfin.out, Below.refl _ _⟩
end Go.Proofs.YtpmcdkalmdlahaaDoor
