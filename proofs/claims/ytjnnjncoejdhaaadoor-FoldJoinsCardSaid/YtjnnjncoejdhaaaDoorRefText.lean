/-
  The document's Fold, Piece, Exact, Numeric and Find of any text.
-/
import Derived.Test.YtjnnjncoejdhaaaDoorRefPrep
namespace Go.Proofs.YtjnnjncoejdhaaaDoor
open Go.RowKit
theorem refFold_any (s : ByteArray) (w : World) (hs : s.size ≤ 100000) :
    Calls Tryd.prog 14 #[.string s] w fun en w' => ∃ x, en = .returned (.string x) ∧ bs x = uText false true (bs s) ∧ Below w.heap.size w w' := by
  go_enter Tryd.func14, Tryd.ntmps14
  go_wp2_with fail
  refine (refPrep_any s false true w hs).mono ?_
  rintro _ w2 ⟨x, rfl, hx, hb⟩
  dsimp only []
  go_wp2_with fail
  go_ret
  exact ⟨x, rfl, hx, hb⟩
theorem refPiece_any (s : ByteArray) (w : World) (hs : s.size ≤ 100000) :
    Calls Tryd.prog 16 #[.string s] w fun en w' => ∃ x, en = .returned (.string x) ∧ bs x = uText true true (bs s) ∧ Below w.heap.size w w' := by
  go_enter Tryd.func16, Tryd.ntmps16
  go_wp2_with fail
  refine (refPrep_any s true true w hs).mono ?_
  rintro _ w2 ⟨x, rfl, hx, hb⟩
  dsimp only []
  go_wp2_with fail
  go_ret
  exact ⟨x, rfl, hx, hb⟩
theorem refExact_any (s : ByteArray) (w : World) (hs : s.size ≤ 100000) :
    Calls Tryd.prog 18 #[.string s] w fun en w' => ∃ x, en = .returned (.string x) ∧ bs x = uText false false (bs s) ∧ Below w.heap.size w w' := by
  go_enter Tryd.func18, Tryd.ntmps18
  go_wp2_with fail
  refine (refPrep_any s false false w hs).mono ?_
  rintro _ w2 ⟨x, rfl, hx, hb⟩
  dsimp only []
  go_wp2_with fail
  go_ret
  exact ⟨x, rfl, hx, hb⟩
set_option maxRecDepth 4000 in
set_option maxHeartbeats 800000 in
theorem refNum_any (s : ByteArray) (w : World) (hs : s.size ≤ 100000) :
    Calls Tryd.prog 9 #[.string s] w fun en w' => ∃ x, en = .returned (.tuple #[.string x, .bool (uNum (bs s)).2]) ∧ bs x = (uNum (bs s)).1 ∧ w' = w := by
  go_enter Tryd.func9, Tryd.ntmps9
  go_wp2_with fail
  go_loop [4, 5] (fun ov iv => ∃ (k : Nat) (o : ByteArray), k ≤ s.size ∧ iv = .int .i64 (k : Int) ∧ ov = .string o ∧ o.size ≤ k ∧ Hid (uNumOk ((bs s).take k) = true) ∧ Hid (bs o = uDigits ((bs s).take k))) (fun _ iv => s.size - (intOf iv).toNat)
  case atStart => exact ⟨0, ⟨#[]⟩, Nat.zero_le _, rfl, rfl, Nat.zero_le _, Lib.hid rfl, Lib.hid rfl⟩
  case round =>
    obtain ⟨k, o, hk, rfl, rfl, hok, HN, HO⟩ := hrel
    by_cases hlt : k < s.size
    · have i0 : (0 : Int) ≤ (k : Int) := by omega
      have i1 : (k : Int) < (s.size : Int) := by omega
      have hT := bs_take s k hlt
      obtain ⟨y, hy⟩ : ∃ y, s.extract k (k + 1) = y := ⟨_, rfl⟩
      have HY := Lib.hid (bs_at s y k hlt hy)
      obtain ⟨c, hc⟩ : ∃ c, s[k].toNat = c := ⟨_, rfl⟩
      have hc256 : c < 256 := by rw [← hc]; exact s[k].toNat_lt
      rw [hc] at hT HY
      have hN1 := uNumOk_snoc ((bs s).take k) c
      have hD1 := uDigits_snoc ((bs s).take k) c
      rw [← hT, HN.out, Bool.true_and] at hN1
      rw [← hT, ← HO.out] at hD1
      replace hT := Lib.hid hT
      by_cases hd : 48 ≤ c ∧ c ≤ 57
      · have d1 : (48 : Int) ≤ (c : Int) := by omega
        have d2 : (c : Int) ≤ 57 := by omega
        rw [decide_eq_true (.inl hd)] at hN1
        rw [if_pos hd] at hD1
        have i2 : (k : Int) + 1 ≤ (s.size : Int) := by omega
        have i3 : (k : Int) ≤ (k : Int) + 1 := by omega
        have i4 : ((k : Int) + 1).toNat = k + 1 := by omega
        have i5 : (0 : Int) ≤ (k : Int) + 1 := by omega
        obtain ⟨o2, ho2⟩ : ∃ o2, o ++ y = o2 := ⟨_, rfl⟩
        have HO2 : Hid (bs o2 = uDigits ((bs s).take (k + 1))) := Lib.hid (by rw [hD1, ← ho2, bs_append, HY.out])
        have hsz : o2.size ≤ k + 1 := by rw [← ho2, size_app, ← bs_len y, HY.out]; show o.size + 1 ≤ _; omega
        have hys : y.size ≤ 1 := by rw [← bs_len y, HY.out]; exact Nat.le_refl _
        replace hN1 := Lib.hid hN1
        replace hD1 := Lib.hid hD1
        go_wp2_with fail
        go_round
        case rel => exact ⟨k + 1, o2, by omega, by go_num, rfl, hsz, hN1, HO2⟩
        case measure => simp [intOf]; omega
      · rw [if_neg hd, List.append_nil] at hD1
        by_cases h32 : c = 32
        · have d1 : ¬ ((48 : Int) ≤ (c : Int)) := by omega
          have d3 : ((c : Int) != 32) = false := by simp; omega
          rw [decide_eq_true (.inr h32)] at hN1
          replace hN1 := Lib.hid hN1
          replace hD1 := Lib.hid hD1.symm
          replace h32 := Lib.hid h32
          go_wp2_with fail
          go_round
          case rel => exact ⟨k + 1, o, by omega, by go_num, rfl, by omega, hN1, hD1⟩
          case measure => simp [intOf]; omega
        · have d3 : ((c : Int) != 32) = true := by simp; omega
          rw [decide_eq_false (by omega)] at hN1
          have hfin : uNum (bs s) = ([], false) := by
            unfold uNum
            rw [uNumOk_take _ _ hN1, if_neg (by decide)]
          replace hN1 := Lib.hid hN1
          replace hD1 := Lib.hid hD1
          replace hfin := Lib.hid hfin
          by_cases h48 : 48 ≤ c
          · have d1 : (48 : Int) ≤ (c : Int) := by omega
            have d2 : ¬ ((c : Int) ≤ 57) := by omega
            go_wp2_with fail
            go_returns
            exact ⟨⟨#[]⟩, by rw [hfin.out]; rfl, by rw [hfin.out]; rfl, rfl⟩
          · have d1 : ¬ ((48 : Int) ≤ (c : Int)) := by omega
            go_wp2_with fail
            go_returns
            exact ⟨⟨#[]⟩, by rw [hfin.out]; rfl, by rw [hfin.out]; rfl, rfl⟩
    · have hkk : (bs s).take k = bs s := List.take_of_length_le (by rw [bs_len]; omega)
      rw [hkk] at HN HO
      have hfin : uNum (bs s) = (bs o, decide (bs o ≠ [])) := by
        unfold uNum
        rw [HN.out, if_pos rfl, HO.out]
      replace hfin := Lib.hid hfin
      replace hkk := Lib.hid hkk
      have i1 : ¬ ((k : Int) < (s.size : Int)) := by omega
      have hne : Hid (decide (bs o ≠ []) = !o.toList.isEmpty) := Lib.hid (by
        rw [ByteArray.toList_eq]
        unfold bs
        rcases o.data.toList with _ | ⟨a, r⟩ <;> simp)
      go_wp2_with fail
      go_returns
      exact ⟨o, by rw [hfin.out, hne.out]; rfl, by rw [hfin.out], rfl⟩
set_option maxRecDepth 4000 in
set_option maxHeartbeats 800000 in
theorem refFind_any (s t : ByteArray) (z : Int) (w : World) (hs : s.size ≤ 100000) (ht : t.size ≤ 100000) (h1 : -9223372036854775808 ≤ z) (h2 : z ≤ 9223372036854775807) :
    Calls Tryd.prog 20 #[.string s, .string t, .int .i64 z] w fun en w' => en = .returned (.int .i64 (uFind (bs s) (bs t) z.toNat)) ∧ w' = w := by
  obtain ⟨F, hF⟩ : ∃ F, F = uFind (bs s) (bs t) z.toNat := ⟨_, rfl⟩
  rw [← hF]
  have hl1 := bs_len s
  have hl2 := bs_len t
  by_cases hz : z < 0
  · have hz0 : z.toNat = 0 := by omega
    rw [hz0] at hF
    replace hF := Lib.hid hF
    replace hl1 := Lib.hid hl1
    replace hl2 := Lib.hid hl2
    replace hz0 := Lib.hid hz0
    go_enter Tryd.func20, Tryd.ntmps20
    go_wp2_with fail
    go_loop [7] (fun iv => ∃ i : Nat, i ≤ 9223372036854775807 ∧ iv = .int .i64 (i : Int) ∧ Hid (F = uFind (bs s) (bs t) i)) (fun iv => s.size + 1 - (intOf iv).toNat)
    case atStart => exact ⟨0, Nat.zero_le _, rfl, hF⟩
    case round =>
      obtain ⟨i, hi, rfl, HI⟩ := hrel
      by_cases ha : i ≤ s.size
      · have a1 : (i : Int) ≤ (s.size : Int) := by omega
        by_cases hb : t.size ≤ s.size - i
        · have a2 : (t.size : Int) ≤ (s.size : Int) - (i : Int) := by omega
          have hin : i ≤ (bs s).length ∧ (bs t).length ≤ (bs s).length - i := by rw [hl1.out, hl2.out]; omega
          obtain ⟨x, hx⟩ : ∃ x, s.extract i (i + t.size) = x := ⟨_, rfl⟩
          have HX := bs_mid s x i t.size hx
          rw [← hl2.out] at HX
          have hse := str_eq x t
          have j1 : (i : Int) + (t.size : Int) ≤ (s.size : Int) := by omega
          have j2 : (i : Int) ≤ (i : Int) + (t.size : Int) := by omega
          have j3 : ((i : Int) + (t.size : Int)).toNat = i + t.size := by omega
          have j4 : (0 : Int) ≤ (i : Int) + (t.size : Int) := by omega
          have j5 : (0 : Int) ≤ (i : Int) := by omega
          by_cases he : bs x = bs t
          · have hy := uFind_yes _ _ i hin (by rw [← HX, he])
            rw [decide_eq_true he] at hse
            replace hy := Lib.hid hy
            replace hin := Lib.hid hin
            replace HX := Lib.hid HX
            replace he := Lib.hid he
            go_wp2_with fail
            go_ret
            exact ⟨by rw [HI.out, hy.out]; rfl, rfl⟩
          · have hy := uFind_no _ _ i hin (by rw [← HX]; exact he)
            rw [decide_eq_false he] at hse
            replace hy := Lib.hid (HI.out.trans hy)
            replace hin := Lib.hid hin
            replace HX := Lib.hid HX
            replace he := Lib.hid he
            go_wp2_with fail
            go_round
            case rel => exact ⟨i + 1, by omega, by go_num, hy⟩
            case measure => simp [intOf]; omega
        · have a2 : ¬ ((t.size : Int) ≤ (s.size : Int) - (i : Int)) := by omega
          have hy := Lib.hid (uFind_out (bs s) (bs t) i (by rw [hl1.out, hl2.out]; omega))
          go_wp2_with fail
          go_ret
          exact ⟨by rw [HI.out, hy.out]; rfl, rfl⟩
      · have a1 : ¬ ((i : Int) ≤ (s.size : Int)) := by omega
        have hy := Lib.hid (uFind_out (bs s) (bs t) i (by rw [hl1.out, hl2.out]; omega))
        go_wp2_with fail
        go_ret
        exact ⟨by rw [HI.out, hy.out]; rfl, rfl⟩
  · obtain ⟨n, hn⟩ : ∃ n : Nat, z = (n : Int) := ⟨z.toNat, by omega⟩
    subst hn
    have hz0 : ((n : Int)).toNat = n := by omega
    rw [hz0] at hF
    have hz' : ¬ ((n : Int) < 0) := hz
    have hnb : n ≤ 9223372036854775807 := by omega
    replace hF := Lib.hid hF
    replace hl1 := Lib.hid hl1
    replace hl2 := Lib.hid hl2
    replace hz0 := Lib.hid hz0
    go_enter Tryd.func20, Tryd.ntmps20
    go_wp2_with fail
    go_loop [7] (fun iv => ∃ i : Nat, i ≤ 9223372036854775807 ∧ iv = .int .i64 (i : Int) ∧ Hid (F = uFind (bs s) (bs t) i)) (fun iv => s.size + 1 - (intOf iv).toNat)
    case atStart => exact ⟨n, hnb, rfl, hF⟩
    case round =>
      obtain ⟨i, hi, rfl, HI⟩ := hrel
      by_cases ha : i ≤ s.size
      · have a1 : (i : Int) ≤ (s.size : Int) := by omega
        by_cases hb : t.size ≤ s.size - i
        · have a2 : (t.size : Int) ≤ (s.size : Int) - (i : Int) := by omega
          have hin : i ≤ (bs s).length ∧ (bs t).length ≤ (bs s).length - i := by rw [hl1.out, hl2.out]; omega
          obtain ⟨x, hx⟩ : ∃ x, s.extract i (i + t.size) = x := ⟨_, rfl⟩
          have HX := bs_mid s x i t.size hx
          rw [← hl2.out] at HX
          have hse := str_eq x t
          have j1 : (i : Int) + (t.size : Int) ≤ (s.size : Int) := by omega
          have j2 : (i : Int) ≤ (i : Int) + (t.size : Int) := by omega
          have j3 : ((i : Int) + (t.size : Int)).toNat = i + t.size := by omega
          have j4 : (0 : Int) ≤ (i : Int) + (t.size : Int) := by omega
          have j5 : (0 : Int) ≤ (i : Int) := by omega
          by_cases he : bs x = bs t
          · have hy := uFind_yes _ _ i hin (by rw [← HX, he])
            rw [decide_eq_true he] at hse
            replace hy := Lib.hid hy
            replace hin := Lib.hid hin
            replace HX := Lib.hid HX
            replace he := Lib.hid he
            go_wp2_with fail
            go_ret
            exact ⟨by rw [HI.out, hy.out]; rfl, rfl⟩
          · have hy := uFind_no _ _ i hin (by rw [← HX]; exact he)
            rw [decide_eq_false he] at hse
            replace hy := Lib.hid (HI.out.trans hy)
            replace hin := Lib.hid hin
            replace HX := Lib.hid HX
            replace he := Lib.hid he
            go_wp2_with fail
            go_round
            case rel => exact ⟨i + 1, by omega, by go_num, hy⟩
            case measure => simp [intOf]; omega
        · have a2 : ¬ ((t.size : Int) ≤ (s.size : Int) - (i : Int)) := by omega
          have hy := Lib.hid (uFind_out (bs s) (bs t) i (by rw [hl1.out, hl2.out]; omega))
          go_wp2_with fail
          go_ret
          exact ⟨by rw [HI.out, hy.out]; rfl, rfl⟩
      · have a1 : ¬ ((i : Int) ≤ (s.size : Int)) := by omega
        have hy := Lib.hid (uFind_out (bs s) (bs t) i (by rw [hl1.out, hl2.out]; omega))
        go_wp2_with fail
        go_ret
        exact ⟨by rw [HI.out, hy.out]; rfl, rfl⟩
end Go.Proofs.YtjnnjncoejdhaaaDoor
