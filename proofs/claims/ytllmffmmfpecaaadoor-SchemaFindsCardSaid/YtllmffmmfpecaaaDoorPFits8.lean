/-
  The program's fits.
-/
import Derived.Test.YtllmffmmfpecaaaDoorPAmong8
import Derived.Test.YtllmffmmfpecaaaDoorMB8
namespace Go.Proofs.YtllmffmmfpecaaaDoor
open Go.RowKit

/-- Whether all of M are among G, and all of G among M and Y. -/
def fitsD (G M Y : List (List UInt8)) : Nat := if M.all (fun x => decide (x ∈ G)) = false then 11 else if G.all (fun x => decide (x ∈ M) || decide (x ∈ Y)) = false then 2 else 0
theorem fits_11 {G M Y : List (List UInt8)} {x : List UInt8} (h : x ∈ M) (hn : ¬ x ∈ G) : fitsD G M Y = 11 := by
  unfold fitsD
  rw [if_pos]
  rw [Bool.eq_false_iff]
  exact fun h2 => hn (of_decide_eq_true (List.all_eq_true.1 h2 x h))
theorem fits_2 {G M Y : List (List UInt8)} {x : List UInt8} (hm : ∀ x ∈ M, x ∈ G) (h : x ∈ G) (h1 : ¬ x ∈ M) (h2 : ¬ x ∈ Y) : fitsD G M Y = 2 := by
  unfold fitsD
  rw [if_neg, if_pos]
  · rw [Bool.eq_false_iff]
    intro h3
    have := List.all_eq_true.1 h3 x h
    rw [Bool.or_eq_true, decide_eq_true_eq, decide_eq_true_eq] at this
    exact this.elim h1 h2
  · rw [Bool.not_eq_false, List.all_eq_true]
    exact fun x hx => decide_eq_true (hm x hx)
theorem fits_0 {G M Y : List (List UInt8)} (hm : ∀ x ∈ M, x ∈ G) (hg : ∀ x ∈ G, x ∈ M ∨ x ∈ Y) : fitsD G M Y = 0 := by
  unfold fitsD
  rw [if_neg, if_neg]
  · rw [Bool.not_eq_false, List.all_eq_true]
    intro x hx
    rw [Bool.or_eq_true, decide_eq_true_eq, decide_eq_true_eq]
    exact hg x hx
  · rw [Bool.not_eq_false, List.all_eq_true]
    exact fun x hx => decide_eq_true (hm x hx)
set_option maxRecDepth 8000 in
set_option maxHeartbeats 4000000 in
theorem fits_any (A1 A2 A3 : Option Addr) (c1 c2 c3 n m y : Nat) (G M Y : List (List UInt8)) (w : World) (hn : n ≤ 1000) (hm : m ≤ 1000) (hy : y ≤ 1000) (hG : G.length = n) (hM : M.length = m) (hY : Y.length = y)
    (s1 : SrcO w w.heap.size A1 c1 G) (s2 : SrcO w w.heap.size A2 c2 M) (s3 : SrcO w w.heap.size A3 c3 Y) :
    Calls Tryd.prog 40 #[.slice A1 n c1, .slice A2 m c2, .slice A3 y c3] w fun e w' => e = .returned (.int .i64 (fitsD G M Y : Int)) ∧ Below w.heap.size w w' := by
  replace s1 := Lib.hid s1
  replace s2 := Lib.hid s2
  replace s3 := Lib.hid s3
  replace hG := Lib.hid hG
  replace hM := Lib.hid hM
  replace hY := Lib.hid hY
  go_enter Tryd.func40, Tryd.ntmps40
  go_wp2_with fail
  refine (among_any A1 c1 n w).mono ?_
  rintro _ w1 ⟨rfl, hw1⟩
  replace hw1 := Lib.hid hw1
  dsimp only []
  go_wp2_with fail
  refine (among_any A2 c2 m w1).mono ?_
  rintro _ w2 ⟨rfl, hw2⟩
  replace hw2 := Lib.hid hw2
  dsimp only []
  go_wp2_with fail
  refine (among_any A3 c3 y w2).mono ?_
  rintro _ w3 ⟨rfl, hw3⟩
  have h3 : w3 = allocs w [.cells #[.slice A1 n c1] 29, .cells #[.slice A2 m c2] 29, .cells #[.slice A3 y c3] 29] := by rw [hw3, hw2.out, hw1.out]; rfl
  have z1 : w1.heap.size = w.heap.size + 1 := by rw [hw1.out]; simp
  have z2 : w2.heap.size = w.heap.size + 2 := by rw [hw2.out, hw1.out]; simp
  have HB := Lib.hid (show Below w.heap.size w w3 by rw [h3]; exact allocs_below _ _ _ (Nat.le_refl _))
  have b1 : w3.cell? ⟨w.heap.size, 0, none⟩ = some (.slice A1 n c1) := by
    have : w3.heap[w.heap.size]? = some (.cells #[.slice A1 n c1] 29) := by rw [h3]; exact allocs_at _ _ 0
    exact cell_of_row _ _ _ _ _ _ this
  have b2 : w3.cell? ⟨w1.heap.size, 0, none⟩ = some (.slice A2 m c2) := by
    have : w3.heap[w1.heap.size]? = some (.cells #[.slice A2 m c2] 29) := by rw [z1, h3]; exact allocs_at _ _ 1
    exact cell_of_row _ _ _ _ _ _ this
  have b3 : w3.cell? ⟨w2.heap.size, 0, none⟩ = some (.slice A3 y c3) := by
    have : w3.heap[w2.heap.size]? = some (.cells #[.slice A3 y c3] 29) := by rw [z2, h3]; exact allocs_at _ _ 2
    exact cell_of_row _ _ _ _ _ _ this
  have t1 := s1.out.below HB.out
  have t2 := s2.out.below HB.out
  have t3 := s3.out.below HB.out
  have K1 := Lib.hid fun (x : List UInt8) => among1_any (baO x) w.heap.size A1 c1 n _ G w3 (by omega) hG.out t1 b1
  have K2 := Lib.hid fun (x : List UInt8) => among1_any (baO x) w1.heap.size A2 c2 m _ M w3 (by omega) hM.out t2 b2
  have K3 := Lib.hid fun (x : List UInt8) => among1_any (baO x) w2.heap.size A3 c3 y _ Y w3 (by omega) hY.out t3 b3
  have hget2 : Hid (∀ k, k < m → ∃ ad l, A2 = some ad ∧ M[k]? = some l ∧ w3.cell? (ad.add k) = some (.string (baO l))) := Lib.hid fun k hk => by
    obtain ⟨ad, l, h1, h2, h4⟩ := s2.out.get k (by rw [hM.out]; exact hk)
    exact ⟨ad, l, h1, h2, h4 w3 HB.out⟩
  have hget1 : Hid (∀ k, k < n → ∃ ad l, A1 = some ad ∧ G[k]? = some l ∧ w3.cell? (ad.add k) = some (.string (baO l))) := Lib.hid fun k hk => by
    obtain ⟨ad, l, h1, h2, h4⟩ := s1.out.get k (by rw [hG.out]; exact hk)
    exact ⟨ad, l, h1, h2, h4 w3 HB.out⟩
  clear hw1 hw2 hw3 h3 t1 t2 t3 b1 b2 b3 z1 z2
  dsimp only []
  go_wp2_with fail
  go_loop [22] (fun iv => ∃ k : Nat, k ≤ m ∧ iv = .int .i64 (k : Int) ∧ Hid (∀ x ∈ M.take k, x ∈ G)) (fun iv => m - (intOf iv).toNat)
  case atStart => exact ⟨0, Nat.zero_le _, rfl, Lib.hid (by simp)⟩
  case round =>
    obtain ⟨k, hk, rfl, HF⟩ := hrel
    by_cases hlt : k < m
    · obtain ⟨ad, l, rfl, hl, hc⟩ := hget2.out k hlt
      have i0 : (0 : Int) ≤ (k : Int) := by omega
      have i1 : (k : Int) < (m : Int) := by omega
      have CA := K1.out l
      rw [baO_list] at CA
      have hmem := Lib.hid (List.mem_of_getElem? hl)
      have htk : Hid (M.take (k + 1) = M.take k ++ [l]) := Lib.hid (by rw [List.take_add_one, hl]; rfl)
      replace hl := Lib.hid hl
      by_cases hin : l ∈ G
      · rw [decide_eq_true hin] at CA
        replace hin := Lib.hid hin
        replace CA := Lib.hid CA
        go_wp2_with fail
        refine CA.out.mono ?_
        rintro _ w4 ⟨rfl, h4⟩
        subst w4
        dsimp only []
        go_wp2_with fail
        go_round
        case rel =>
          refine ⟨k + 1, by omega, by go_num, Lib.hid fun x hx => ?_⟩
          rw [htk.out, List.mem_append, List.mem_singleton] at hx
          rcases hx with hx | rfl
          · exact HF.out x hx
          · exact hin.out
        case measure => simp [intOf]; omega
      · rw [decide_eq_false hin] at CA
        have hfin := Lib.hid (fits_11 (Y := Y) hmem.out hin)
        replace hin := Lib.hid hin
        replace CA := Lib.hid CA
        go_wp2_with fail
        refine CA.out.mono ?_
        rintro _ w4 ⟨rfl, h4⟩
        subst w4
        dsimp only []
        go_wp2_with fail
        go_ret
        exact ⟨by rw [hfin.out]; rfl, HB.out⟩
    · obtain rfl : k = m := by omega
      have i1 : ¬ ((k : Int) < (k : Int)) := by omega
      rw [List.take_of_length_le (by rw [hM.out]; omega)] at HF
      go_wp2_with fail
      go_loop [33] (fun iv => ∃ j : Nat, j ≤ n ∧ iv = .int .i64 (j : Int) ∧ Hid (∀ x ∈ G.take j, x ∈ M ∨ x ∈ Y)) (fun iv => n - (intOf iv).toNat)
      case atStart => exact ⟨0, Nat.zero_le _, rfl, Lib.hid (by simp)⟩
      case round =>
        obtain ⟨j, hj, rfl, HF2⟩ := hrel
        by_cases hlt2 : j < n
        · obtain ⟨ad, l, rfl, hl, hc⟩ := hget1.out j hlt2
          have j0 : (0 : Int) ≤ (j : Int) := by omega
          have j1 : (j : Int) < (n : Int) := by omega
          have CA := K2.out l
          have CB := K3.out l
          rw [baO_list] at CA CB
          have hmem := Lib.hid (List.mem_of_getElem? hl)
          have htk : Hid (G.take (j + 1) = G.take j ++ [l]) := Lib.hid (by rw [List.take_add_one, hl]; rfl)
          have hnext : Hid ((l ∈ M ∨ l ∈ Y) → ∀ x ∈ G.take (j + 1), x ∈ M ∨ x ∈ Y) := Lib.hid fun h x hx => by
            rw [htk.out, List.mem_append, List.mem_singleton] at hx
            rcases hx with hx | rfl
            · exact HF2.out x hx
            · exact h
          replace hl := Lib.hid hl
          by_cases hin : l ∈ M
          · rw [decide_eq_true hin] at CA
            have hN := Lib.hid (hnext.out (.inl hin))
            replace hin := Lib.hid hin
            replace CA := Lib.hid CA
            replace CB := Lib.hid CB
            go_wp2_with fail
            refine CA.out.mono ?_
            rintro _ w4 ⟨rfl, h4⟩
            subst w4
            dsimp only []
            go_wp2_with fail
            go_round
            case rel => exact ⟨j + 1, by omega, by go_num, hN⟩
            case measure => simp [intOf]; omega
          · rw [decide_eq_false hin] at CA
            by_cases hin2 : l ∈ Y
            · rw [decide_eq_true hin2] at CB
              have hN := Lib.hid (hnext.out (.inr hin2))
              replace hin := Lib.hid hin
              replace hin2 := Lib.hid hin2
              replace CA := Lib.hid CA
              replace CB := Lib.hid CB
              go_wp2_with fail
              refine CA.out.mono ?_
              rintro _ w4 ⟨rfl, h4⟩
              subst w4
              dsimp only []
              go_wp2_with fail
              refine CB.out.mono ?_
              rintro _ w4 ⟨rfl, h4⟩
              subst w4
              dsimp only []
              go_wp2_with fail
              go_round
              case rel => exact ⟨j + 1, by omega, by go_num, hN⟩
              case measure => simp [intOf]; omega
            · rw [decide_eq_false hin2] at CB
              have hfin := Lib.hid (fits_2 HF.out hmem.out hin hin2)
              replace hin := Lib.hid hin
              replace hin2 := Lib.hid hin2
              replace CA := Lib.hid CA
              replace CB := Lib.hid CB
              go_wp2_with fail
              refine CA.out.mono ?_
              rintro _ w4 ⟨rfl, h4⟩
              subst w4
              dsimp only []
              go_wp2_with fail
              refine CB.out.mono ?_
              rintro _ w4 ⟨rfl, h4⟩
              subst w4
              dsimp only []
              go_wp2_with fail
              go_ret
              exact ⟨by rw [hfin.out]; rfl, HB.out⟩
        · obtain rfl : j = n := by omega
          have j1 : ¬ ((j : Int) < (j : Int)) := by omega
          rw [List.take_of_length_le (by rw [hG.out]; omega)] at HF2
          have hfin := Lib.hid (fits_0 HF.out HF2.out)
          go_wp2_with fail
          go_ret
          exact ⟨by rw [hfin.out]; rfl, HB.out⟩
end Go.Proofs.YtllmffmmfpecaaaDoor
