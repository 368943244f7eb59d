/-
  The program's names, of attributes.
-/
import Derived.Test.YtllmffmmfpecaaaDoorPNames8
namespace Go.Proofs.YtllmffmmfpecaaaDoor
open Go.RowKit

set_option maxRecDepth 8000 in
set_option maxHeartbeats 4000000 in
theorem namesA_any (nm : List UInt8 → List UInt8) (ok : List UInt8 → Bool) (A : Option Addr) (cp N : Nat) (L : List (List UInt8)) (w : World) (hN : N ≤ 1000) (hL : L.length = N) (hsrc : SrcO w w.heap.size A cp L)
    (CF : ∀ x ∈ L, ∀ W, Below w.heap.size w W → Calls Tryd.prog 52 #[.string (baO x)] W fun e w' => e = .returned (.tuple #[.string (baO (nm x)), .bool (ok x)]) ∧ Below W.heap.size W w') :
    Calls Tryd.prog 43 #[.slice A N cp, .func (.func 52) #[] #[]] w fun e w' => NamesS nm ok L e w' ∧ Below w.heap.size w w' := by
  have hget : Hid (∀ k, k < N → ∃ ad l, A = some ad ∧ L[k]? = some l ∧ ∀ W, Below w.heap.size w W → W.cell? (ad.add k) = some (.string (baO l))) := Lib.hid fun k hk => hsrc.get k (by omega)
  replace hL := Lib.hid hL
  replace CF := Lib.hid CF
  clear hsrc
  go_enter Tryd.func43, Tryd.ntmps43
  go_wp2_with fail
  go_loopw [6, 13] (fun fv iv wr => ∃ (k n c : Nat) (B : Option Addr), k ≤ N ∧ n ≤ k ∧ fv = .slice B n c ∧ iv = .int .i64 (k : Int) ∧ Hid ((onceN ((L.take k).map nm)).length = n) ∧ Hid ((L.take k).all ok = true) ∧ Hid (OwnO wr w.heap.size (.slice B n c) (onceN ((L.take k).map nm))) ∧ Hid (Below w.heap.size w wr)) (fun _ iv _ => N - (intOf iv).toNat)
  case atStart => exact ⟨0, 0, 0, none, Nat.zero_le _, Nat.le_refl _, rfl, rfl, Lib.hid rfl, Lib.hid rfl, Lib.hid (OwnO.nil _ _), Lib.hid (Below.refl _ _)⟩
  case round =>
    obtain ⟨k, n, c, B, hk, hn, rfl, rfl, HN, HK, HO, HB⟩ := hrel
    have zr := HB.out.size
    by_cases hlt : k < N
    · obtain ⟨ad, l, rfl, hl, hcell⟩ := hget.out k hlt
      have hc := hcell wr HB.out
      have hmem := List.mem_of_getElem? hl
      have hkl : k < L.length := by rw [hL.out]; exact hlt
      have htk : L.take (k + 1) = L.take k ++ [l] := by
        rw [List.take_add_one, hl]
        rfl
      have C1 := Lib.hid (CF.out l hmem wr HB.out)
      obtain ⟨m, hm⟩ : ∃ m, nm l = m := ⟨_, rfl⟩
      obtain ⟨q, hq⟩ : ∃ q, ok l = q := ⟨_, rfl⟩
      rw [hm, hq] at C1
      have hno : Hid (q = false → L.all ok = false) := Lib.hid fun h => by
        rw [Bool.eq_false_iff]
        intro hall
        have := List.all_eq_true.1 hall l hmem
        rw [hq, h] at this
        cases this
      have hyes : Hid (q = true → (L.take (k + 1)).all ok = true) := Lib.hid fun h => by
        rw [htk, List.all_append, HK.out]
        simp [hq, h]
      have honce : Hid (onceN ((L.take (k + 1)).map nm) = addN (onceN ((L.take k).map nm)) m) := Lib.hid (by rw [htk, List.map_append, ← hm]; exact onceN_snoc _ _)
      have i0 : (0 : Int) ≤ (k : Int) := by omega
      have i1 : (k : Int) < (N : Int) := by omega
      replace hl := Lib.hid hl
      replace htk := Lib.hid htk
      replace hm := Lib.hid hm
      replace hq := Lib.hid hq
      replace hcell := Lib.hid hcell
      replace hmem := Lib.hid hmem
      go_wp2_with fail
      refine C1.out.mono ?_
      rintro _ w1 ⟨rfl, hb⟩
      have HB1 := Lib.hid (HB.out.trans (hb.mono zr))
      have HO1 := Lib.hid (HO.out.below hb (Nat.le_refl _))
      have z1 := hb.size
      clear hb C1
      rcases q with _ | _
      · have hall := Lib.hid (hno.out rfl)
        dsimp only []
        go_wp2_with fail
        go_ret2
        exact ⟨NamesS.no hall.out, HB1.out⟩
      · have hall := Lib.hid (hyes.out rfl)
        dsimp only []
        go_wp2_with fail
        refine (among_any B c n w1).mono ?_
        rintro _ w2 ⟨rfl, hw2⟩
        have hb : Below w1.heap.size w1 w2 := by rw [hw2]; exact (Below.refl _ _).alloc (Nat.le_refl _) _
        have hbx : w2.cell? ⟨w1.heap.size, 0, none⟩ = some (.slice B n c) := by
          rw [hw2]
          exact cell_of_row _ _ _ _ _ _ (heap_alloc_new w1 _)
        have HB2 := Lib.hid (HB1.out.trans (hb.mono (by omega)))
        have HO2 := Lib.hid (HO1.out.below hb (Nat.le_refl _))
        have z2 := hb.size
        have CA := Lib.hid (among1_any (baO m) w1.heap.size B c n w2.heap.size _ w2 (by omega) HN.out HO2.out.src hbx)
        rw [baO_list] at CA
        clear hb hw2 hbx
        by_cases hin : m ∈ onceN ((L.take k).map nm)
        · rw [decide_eq_true hin] at CA
          have hadd : addN (onceN ((L.take k).map nm)) m = onceN ((L.take k).map nm) := by unfold addN; rw [if_pos hin]
          have HN3 := Lib.hid (show (onceN ((L.take (k + 1)).map nm)).length = n by rw [honce.out, hadd]; exact HN.out)
          have HO3 := Lib.hid (show OwnO w2 w.heap.size (.slice B n c) (onceN ((L.take (k + 1)).map nm)) by rw [honce.out, hadd]; exact HO2.out)
          replace hadd := Lib.hid hadd
          replace hin := Lib.hid hin
          dsimp only []
          go_wp2_with fail
          refine CA.out.mono ?_
          rintro _ w3 ⟨rfl, h3⟩
          subst w3
          dsimp only []
          go_wp2_with fail
          go_roundw
          case rel => exact ⟨k + 1, n, c, B, by omega, by omega, rfl, by go_num, HN3, hall, HO3, HB2⟩
          case measure => simp [intOf]; omega
        · rw [decide_eq_false hin] at CA
          have hadd : addN (onceN ((L.take k).map nm)) m = onceN ((L.take k).map nm) ++ [m] := by unfold addN; rw [if_neg hin]
          have HN3 := Lib.hid (show (onceN ((L.take (k + 1)).map nm)).length = n + 1 by rw [honce.out, hadd, List.length_append, HN.out]; rfl)
          replace hadd := Lib.hid (honce.out.trans hadd)
          replace hin := Lib.hid hin
          dsimp only []
          go_wp2_with fail
          refine CA.out.mono ?_
          rintro _ w3 ⟨rfl, h3⟩
          subst w3
          dsimp only []
          go_wp2_with (at_builtin; refine append_any rfl (.tmp 30) (.tmp 32) rfl w.heap.size _ (onceN ((L.take k).map nm)) n HN.out rfl (HO2.out.alloc _) _ (some ⟨w2.heap.size, 0, none⟩) 1 1 [m] rfl rfl ((SrcO.one w2 m).more (Nat.le_refl _)) (n + 1) rfl (by omega) (by simp; omega) ?_; intro Ac cc wc hoc hbc; have HOc := Lib.hid hoc; have HBc := Lib.hid (HB2.out.trans ((((Below.refl _ _).alloc (by omega) _)).trans hbc)); clear hoc hbc)
          go_roundw
          case rel => exact ⟨k + 1, n + 1, cc, Ac, by omega, by omega, rfl, by go_num, HN3, hall, Lib.hid (by rw [hadd.out]; exact HOc.out), HBc⟩
          case measure => simp [intOf]; omega
    · obtain rfl : N = k := by omega
      have hfull : L.take N = L := List.take_of_length_le (by rw [hL.out]; omega)
      rw [hfull] at HN HK HO
      have i1 : ¬ ((N : Int) < (N : Int)) := by omega
      replace hfull := Lib.hid hfull
      go_wp2_with fail
      go_ret2
      exact ⟨NamesS.yes HK.out HN.out HO.out.src, HB.out⟩
end Go.Proofs.YtllmffmmfpecaaaDoor
