/-
  The program's inLine: some classes are structural, and of any two of these one is above the other.
-/
import Derived.Test.YtllmffmmfpecaaaDoorPAbove8
import Derived.Test.YtllmffmmfpecaaaDoorPClsN8
import Derived.Test.YtllmffmmfpecaaaDoorMC8
namespace Go.Proofs.YtllmffmmfpecaaaDoor
open Go.RowKit

/-- The structural ones of these classes. -/
def strN (L : List (List UInt8)) : List (List UInt8) := L.filter fun x => kindC x == 1
/-- Two classes, one of which is above the other. -/
def nearC (x y : List UInt8) : Bool := abv x y || abv y x
def lineD (L : List (List UInt8)) : Bool := decide (0 < (strN L).length) && decide ((strN L).Pairwise fun y x => nearC x y = true)
theorem line_no {L : List (List UInt8)} {i j : Nat} {x y : List UInt8} (hj : j < i) (hx : (strN L)[i]? = some x) (hy : (strN L)[j]? = some y) (h : nearC x y = false) : lineD L = false := by
  unfold lineD
  rw [Bool.and_eq_false_iff]
  refine .inr (decide_eq_false fun hp => ?_)
  have hi := (List.getElem?_eq_some_iff.1 hx).1
  have h1 := List.pairwise_iff_getElem.1 hp j i (by omega) hi hj
  rw [(List.getElem?_eq_some_iff.1 hx).2, (List.getElem?_eq_some_iff.1 hy).2, h] at h1
  cases h1
theorem line_yes {L : List (List UInt8)} {m : Nat} (hm : (strN L).length = m) (h : ∀ i < m, ∀ x, (strN L)[i]? = some x → ∀ j < i, ∀ y, (strN L)[j]? = some y → nearC x y = true) : lineD L = decide (0 < m) := by
  unfold lineD
  rw [hm, decide_eq_true (p := (strN L).Pairwise fun y x => nearC x y = true) ?_, Bool.and_true]
  refine List.pairwise_iff_getElem.2 fun j i hj hi hji => ?_
  exact h i (by omega) _ (List.getElem?_eq_getElem hi) j hji _ (List.getElem?_eq_getElem hj)
theorem strN_len (L : List (List UInt8)) : (strN L).length ≤ L.length := List.length_filter_le _ _
theorem strN_mem {L : List (List UInt8)} {x : List UInt8} (h : x ∈ strN L) : x ∈ L := (List.mem_filter.1 h).1
set_option maxRecDepth 8000 in
set_option maxHeartbeats 8000000 in
theorem inLine_any (A : Option Addr) (cp N g o : Nat) (L : List (List UInt8)) (w : World) (hN : N ≤ 1000) (hL : L.length = N) (hsrc : SrcO w w.heap.size A cp L) (hl : ∀ l ∈ L, l.length ≤ 600) (HT : TabsC w g o) :
    Calls Tryd.prog 39 #[.slice A N cp] w fun e w' => e = .returned (.bool (lineD L)) ∧ Below w.heap.size w w' := by
  have hget : Hid (∀ k, k < N → ∃ ad l, A = some ad ∧ L[k]? = some l ∧ ∀ W, Below w.heap.size w W → W.cell? (ad.add k) = some (.string (baO l))) := Lib.hid fun k hk => hsrc.get k (by omega)
  have CR := Lib.hid fun (x : List UInt8) (hx : x.length ≤ 600) W (hb : Below w.heap.size w W) => findR_any (baO x) g o W (by rw [baO_size]; exact hx) (HT.below hb).cls
  simp only [baO_list] at CR
  have CA := Lib.hid fun (a b : List UInt8) (hb : b.length ≤ 600) W (h : Below w.heap.size w W) => isAbove_any a b g o W hb (HT.below h)
  replace hL := Lib.hid hL
  replace hl := Lib.hid hl
  clear hsrc HT
  go_enter Tryd.func39, Tryd.ntmps39
  go_wp2_with fail
  go_loopw [3, 14] (fun sv iv wr => ∃ (k n c : Nat) (B : Option Addr), k ≤ N ∧ n ≤ k ∧ sv = .slice B n c ∧ iv = .int .i64 (k : Int) ∧ Hid ((strN (L.take k)).length = n) ∧ Hid (OwnO wr w.heap.size (.slice B n c) (strN (L.take k))) ∧ Hid (Below w.heap.size w wr)) (fun _ iv _ => N - (intOf iv).toNat)
  case atStart => exact ⟨0, 0, 0, none, Nat.zero_le _, Nat.le_refl _, rfl, rfl, Lib.hid rfl, Lib.hid (OwnO.nil _ _), Lib.hid (Below.refl _ _)⟩
  case round =>
    obtain ⟨k, n, c, B, hk, hn, rfl, rfl, HN, HO, HB⟩ := hrel
    have zr := HB.out.size
    by_cases hlt : k < N
    · obtain ⟨ad, l, rfl, hlk, hcell⟩ := hget.out k hlt
      have hc := hcell wr HB.out
      have hmem := List.mem_of_getElem? hlk
      have htk : L.take (k + 1) = L.take k ++ [l] := by
        rw [List.take_add_one, hlk]
        rfl
      have C1 := Lib.hid (CR.out l (hl.out l hmem) wr HB.out)
      obtain ⟨u1, u2, u4, u5, hv⟩ := valR_form l
      rw [hv] at C1
      have hstr : Hid (strN (L.take (k + 1)) = if kindC l = 1 then strN (L.take k) ++ [l] else strN (L.take k)) := Lib.hid (by
        unfold strN
        rw [htk, List.filter_append]
        by_cases h : kindC l = 1
        · rw [if_pos h]
          simp [h]
        · rw [if_neg h]
          simp [h])
      obtain ⟨q, hq⟩ : ∃ q, isC l = q := ⟨_, rfl⟩
      obtain ⟨kk, hkk⟩ : ∃ kk, kindC l = kk := ⟨_, rfl⟩
      obtain ⟨nn, hnn⟩ : ∃ nn, nameC l = nn := ⟨_, rfl⟩
      rw [hq, hkk, hnn] at C1
      rw [hkk] at hstr
      have i0 : (0 : Int) ≤ (k : Int) := by omega
      have i1 : (k : Int) < (N : Int) := by omega
      replace hlk := Lib.hid hlk
      replace htk := Lib.hid htk
      replace hcell := Lib.hid hcell
      replace hmem := Lib.hid hmem
      clear hv hq hkk hnn
      go_wp2_with fail
      refine C1.out.mono ?_
      rintro _ w1 ⟨rfl, hb⟩
      have HB1 := Lib.hid (HB.out.trans (hb.mono zr))
      have HO1 := Lib.hid (HO.out.below hb (Nat.le_refl _))
      have z1 := hb.size
      clear hb C1
      dsimp only []
      go_upto_region 6 with fail
      obtain ⟨V, hV⟩ : ∃ V, V = w1.alloc (.cells #[.string (baO nn), .string u1, .string u2, .int .i64 (kk : Int), .string u4, .string u5] 64) := ⟨_, rfl⟩
      have hbv : Below w1.heap.size w1 V := by rw [hV]; exact (Below.refl _ _).alloc (Nat.le_refl _) _
      obtain ⟨m0, m1, m2, m3, m4, m5, _, _, _, _, _, _⟩ := row6 (show V.heap[w1.heap.size]? = some (.cells #[.string (baO nn), .string u1, .string u2, .int .i64 (kk : Int), .string u4, .string u5] 64) by rw [hV]; exact heap_alloc_new w1 _)
      have HBV := Lib.hid (HB1.out.trans (hbv.mono (by omega)))
      have HOV := Lib.hid (HO1.out.below hbv (Nat.le_refl _))
      have zV := hbv.size
      rw [← hV]
      clear hV hbv
      by_cases hkk : kk = 1
      · have hs := hstr.out
        rw [if_pos hkk] at hs
        have g1 : ((kk : Int) == 1) = true := by rw [hkk]; rfl
        have g2 : (kk : Int) = 1 := by rw [hkk]; rfl
        have HN3 := Lib.hid (show (strN (L.take (k + 1))).length = n + 1 by rw [hs, List.length_append, HN.out]; rfl)
        replace hs := Lib.hid hs
        replace hkk := Lib.hid hkk
        go_wp2_with (at_builtin; refine append_any rfl (.tmp 26) (.tmp 28) rfl w.heap.size _ (strN (L.take k)) n HN.out rfl (HOV.out.alloc _) _ (some ⟨V.heap.size, 0, none⟩) 1 1 [l] rfl rfl ((SrcO.one V l).more (Nat.le_refl _)) (n + 1) rfl (by omega) (by simp; omega) ?_; intro Ac cc wc hoc hbc; have HOc := Lib.hid hoc; have HBc := Lib.hid (HBV.out.trans ((((Below.refl _ _).alloc (by omega) _)).trans hbc)); clear hoc hbc)
        go_roundw
        case rel => exact ⟨k + 1, n + 1, cc, Ac, by omega, by omega, rfl, by go_num, HN3, Lib.hid (by rw [hs.out]; exact HOc.out), HBc⟩
        case measure => simp [intOf]; omega
      · have hs := hstr.out
        rw [if_neg hkk] at hs
        have g1 : ((kk : Int) == 1) = false := beq_eq_false_iff_ne.2 (by omega)
        have g2 : ¬ (kk : Int) = 1 := by omega
        replace hkk := Lib.hid hkk
        have HN3 := Lib.hid (show (strN (L.take (k + 1))).length = n by rw [hs]; exact HN.out)
        have HO3 := Lib.hid (show OwnO V w.heap.size (.slice B n c) (strN (L.take (k + 1))) by rw [hs]; exact HOV.out)
        replace hs := Lib.hid hs
        go_wp2_with fail
        go_roundw
        case rel => exact ⟨k + 1, n, c, B, by omega, by omega, rfl, by go_num, HN3, HO3, HBV⟩
        case measure => simp [intOf]; omega
    · obtain rfl : N = k := by omega
      have hfull : L.take N = L := List.take_of_length_le (by rw [hL.out]; omega)
      rw [hfull] at HN HO
      have i1 : ¬ ((N : Int) < (N : Int)) := by omega
      obtain ⟨S, hS⟩ : ∃ S, strN L = S := ⟨_, rfl⟩
      rw [hS] at HN HO
      have hsm : Hid (∀ x ∈ S, x.length ≤ 600) := Lib.hid fun x hx => hl.out x (strN_mem (by rw [hS]; exact hx))
      rename World => wa
      have hcap : Hid (∀ i, i < n → n ≤ c ∧ ∃ gb, B = some ⟨gb, 0, none⟩) := Lib.hid fun i hi => by
        rcases HO.out.form with ⟨_, h2⟩ | ⟨gb, c', h1, _, _, h4, _⟩
        · have := HN.out
          rw [h2] at this
          simp at this
          omega
        · injection h1 with h1 h2 h3
          subst h3
          have := HN.out
          exact ⟨by omega, gb, h1⟩
      have hgets : Hid (∀ i, i < n → ∃ ad x, B = some ad ∧ S[i]? = some x ∧ ∀ W, Below wa.heap.size wa W → W.cell? (ad.add i) = some (.string (baO x))) := Lib.hid fun i hi => HO.out.src.get i (by rw [HN.out]; exact hi)
      replace hfull := Lib.hid hfull
      replace hS := Lib.hid hS
      go_wp2_with fail
      go_loopw [33] (fun iv wx => ∃ i : Nat, i ≤ n ∧ iv = .int .i64 (i : Int) ∧ Hid (∀ i' < i, ∀ x, S[i']? = some x → ∀ j < i', ∀ y, S[j]? = some y → nearC x y = true) ∧ Hid (Below wa.heap.size wa wx)) (fun iv _ => n - (intOf iv).toNat)
      case atStart => exact ⟨0, Nat.zero_le _, rfl, Lib.hid (fun i hi => absurd hi (Nat.not_lt_zero _)), Lib.hid (Below.refl _ _)⟩
      case round =>
        obtain ⟨i, hi, rfl, HP, HX⟩ := hrel
        have zx := HX.out.size
        by_cases hin : i < n
        · obtain ⟨hcn, gb, rfl⟩ := hcap.out i hin
          have hgb : Hid (∀ j, j < n → ∃ x, S[j]? = some x ∧ ∀ W, Below wa.heap.size wa W → W.cell? ⟨gb, j, none⟩ = some (.string (baO x))) := Lib.hid fun j hj => by
            obtain ⟨ad, x, ha, hx, hcx⟩ := hgets.out j hj
            injection ha with ha
            subst ha
            refine ⟨x, hx, fun W hW => ?_⟩
            have h2 := hcx W hW
            have ha : (⟨gb, 0, none⟩ : Addr).add j = ⟨gb, j, none⟩ := by
              rcases j with _ | j
              · rfl
              · simp [Addr.add]
            rw [ha] at h2
            exact h2
          obtain ⟨x, hx, hcx⟩ := hgb.out i hin
          have p0 := hcx _ HX.out
          have i0 : (0 : Int) ≤ (i : Int) := by omega
          have i1 : (i : Int) < (n : Int) := by omega
          have i2 : (i : Int) ≤ (c : Int) := by omega
          have hxl := hsm.out x (List.mem_of_getElem? hx)
          replace hx := Lib.hid hx
          replace hcx := Lib.hid hcx
          go_wp2_with fail
          go_loopw [42] (fun jv wy => ∃ j : Nat, j ≤ i ∧ jv = .int .i64 (j : Int) ∧ Hid (∀ j' < j, ∀ y, S[j']? = some y → nearC x y = true) ∧ Hid (Below wa.heap.size wa wy)) (fun jv _ => i - (intOf jv).toNat)
          case atStart => exact ⟨0, Nat.zero_le _, rfl, Lib.hid (fun j hj => absurd hj (Nat.not_lt_zero _)), HX⟩
          case round =>
            obtain ⟨j, hj, rfl, HQ, HY⟩ := hrel
            have zy := HY.out.size
            by_cases hjn : j < i
            · obtain ⟨y, hy, hcy⟩ := hgb.out j (by omega)
              have r0 := hcy _ HY.out
              have j0 : (0 : Int) ≤ (j : Int) := by omega
              have j1 : (j : Int) < (i : Int) := by omega
              have hyl := hsm.out y (List.mem_of_getElem? hy)
              have HBY := Lib.hid (HB.out.trans (HY.out.mono zr))
              have C1 := Lib.hid (CA.out x y hyl _ HBY.out)
              have C2 := Lib.hid fun W (h : Below w.heap.size w W) => CA.out y x hxl W h
              have hnear : Hid (nearC x y = (abv x y || abv y x)) := Lib.hid rfl
              obtain ⟨q1, hq1⟩ : ∃ q1, abv x y = q1 := ⟨_, rfl⟩
              obtain ⟨q2, hq2⟩ : ∃ q2, abv y x = q2 := ⟨_, rfl⟩
              rw [hq1] at C1 hnear
              rw [hq2] at C2 hnear
              clear hq1 hq2 hcy
              replace hy := Lib.hid hy
              go_wp2_with fail
              refine C1.out.mono ?_
              rintro _ w3 ⟨rfl, hb3⟩
              have HY3 := Lib.hid (HY.out.trans (hb3.mono zy))
              have HB3 := Lib.hid (HBY.out.trans (hb3.mono HBY.out.size))
              clear hb3 C1
              rcases q1 with _ | _
              · dsimp only []
                go_wp2_with fail
                refine (C2.out w3 HB3.out).mono ?_
                rintro _ w4 ⟨rfl, hb4⟩
                have HY4 := Lib.hid (HY3.out.trans (hb4.mono HY3.out.size))
                have HB4 := Lib.hid (HB3.out.trans (hb4.mono HB3.out.size))
                clear hb4 C2
                rcases q2 with _ | _
                · dsimp only []
                  go_wp2_with fail
                  go_ret
                  exact ⟨by rw [line_no hjn (by rw [hS.out]; exact hx.out) (by rw [hS.out]; exact hy.out) hnear.out]; rfl, HB4.out⟩
                · dsimp only []
                  go_wp2_with fail
                  go_roundw
                  case rel =>
                    refine ⟨j + 1, by omega, by go_num, Lib.hid fun j' hj' z hz => ?_, HY4⟩
                    by_cases hjj : j' < j
                    · exact HQ.out j' hjj z hz
                    · obtain rfl : j' = j := by omega
                      obtain rfl : y = z := Option.some.inj (hy.out.symm.trans hz)
                      exact hnear.out
                  case measure => simp [intOf]; omega
              · dsimp only []
                go_wp2_with fail
                go_roundw
                case rel =>
                  refine ⟨j + 1, by omega, by go_num, Lib.hid fun j' hj' z hz => ?_, HY3⟩
                  by_cases hjj : j' < j
                  · exact HQ.out j' hjj z hz
                  · obtain rfl : j' = j := by omega
                    obtain rfl : y = z := Option.some.inj (hy.out.symm.trans hz)
                    exact hnear.out
                case measure => simp [intOf]; omega
            · obtain rfl : j = i := by omega
              have j1 : ¬ ((j : Int) < (j : Int)) := by omega
              clear i1
              go_wp2_with fail
              go_roundw
              case rel =>
                refine ⟨j + 1, by omega, by go_num, Lib.hid fun i' hi' z hz j' hj' y hy => ?_, HY⟩
                by_cases hii : i' < j
                · exact HP.out i' hii z hz j' hj' y hy
                · obtain rfl : i' = j := by omega
                  obtain rfl : x = z := Option.some.inj (hx.out.symm.trans hz)
                  exact HQ.out j' hj' y hy
              case measure => simp [intOf]; omega
        · obtain rfl : n = i := by omega
          have i1 : ¬ ((n : Int) < (n : Int)) := by omega
          have hfin := line_yes (L := L) (m := n) (by rw [hS.out]; exact HN.out) (by rw [hS.out]; exact HP.out)
          have HBX := Lib.hid (HB.out.trans (HX.out.mono zr))
          replace hfin := Lib.hid hfin
          go_wp2_with fail
          go_ret
          exact ⟨by rw [hfin.out]; rfl, HBX.out⟩
end Go.Proofs.YtllmffmmfpecaaaDoor
