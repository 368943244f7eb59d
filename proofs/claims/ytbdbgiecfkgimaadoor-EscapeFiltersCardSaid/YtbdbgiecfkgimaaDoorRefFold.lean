/-
  The document's Count, blank, nothing, small of any text.
-/
import Derived.Test.YtbdbgiecfkgimaaDoorRefNext
namespace Go.Proofs.YtbdbgiecfkgimaaDoor
open Go.RowKit
set_option maxRecDepth 4000 in
set_option maxHeartbeats 800000 in
theorem refCount_any (s : ByteArray) (w : World) (hs : s.size ≤ 140737488355328) :
    Calls Tryd.prog 25 #[.string s] w fun e w' => e = .returned (.int .i64 (uCountI (bs s))) ∧ w' = w := by
  have hnext : Hid (∀ x : ByteArray, x.size ≤ 140737488355328 → Calls Tryd.prog 45 #[.string x] w fun e w' => e = .returned (.tuple #[.int .i32 ((uNext (bs x)).1 : Int), .int .i64 ((uNext (bs x)).2 : Int)]) ∧ w' = w) := Lib.hid fun x h => refNext_any x w h
  go_enter Tryd.func25, Tryd.ntmps25
  go_wp2_with fail
  go_loop [0, 3] (fun sv kv => ∃ (x : ByteArray) (P : List Nat) (k : Nat), sv = .string x ∧ kv = .int .i64 (k : Int) ∧ x.size + k ≤ s.size ∧ Hid (P.length = k) ∧ Hid (uChars (bs s) = (uChars (bs x)).map (P ++ ·))) (fun sv _ => lenS sv)
  case atStart => exact ⟨s, [], 0, rfl, rfl, Nat.le_refl _, Lib.hid rfl, Lib.hid (by simp)⟩
  case round =>
    obtain ⟨x, P, k, rfl, rfl, hk, HP, HC⟩ := hrel
    by_cases h0 : 0 < x.size
    · have CN := hnext.out x (by omega)
      have hle := uNext_le (bs x)
      rw [bs_len] at hle
      obtain ⟨c, hc⟩ : ∃ c, c = (uNext (bs x)).1 := ⟨_, rfl⟩
      obtain ⟨n, hn⟩ : ∃ n, n = (uNext (bs x)).2 := ⟨_, rfl⟩
      rw [← hc, ← hn] at CN
      rw [← hn] at hle
      obtain ⟨x', hx'⟩ : ∃ x', x.extract n x.size = x' := ⟨_, rfl⟩
      have HX := Lib.hid (bs_rest x x' n hx')
      have hxs : x'.size = x.size - n := by rw [← bs_len x', HX.out, List.length_drop, bs_len]
      have hbad : Hid (n = 0 → uChars (bs x) = none) := Lib.hid fun e => uChars_bad _ (bs_ne x h0) (by rw [← hn, e])
      have hstep : Hid (n ≠ 0 → uChars (bs s) = (uChars (bs x')).map ((P ++ [c]) ++ ·)) := Lib.hid fun e => by
        rw [HC.out, uChars_step _ (bs_ne x h0) (by rw [← hn]; exact e), ← hn, ← hc, ← HX.out, Option.map_map]
        congr 1
        funext y
        simp
      replace hc := Lib.hid hc
      replace hn := Lib.hid hn
      replace CN := Lib.hid CN
      have i0 : (0 : Int) < (x.size : Int) := by omega
      have i1 : (n : Int) ≤ (x.size : Int) := by omega
      have i2 : (0 : Int) ≤ (n : Int) := by omega
      by_cases hn0 : n = 0
      · have j0 : ((n : Int) == 0) = true := beq_iff_eq.2 (by omega)
        have hfin : uCountI (bs s) = -1 := by
          unfold uCountI
          rw [HC.out, hbad.out hn0]
          rfl
        replace hfin := Lib.hid hfin
        clear hx' hxs
        go_wp2_with fail
        refine CN.out.mono ?_
        rintro _ w2 ⟨rfl, h2⟩
        subst w2
        dsimp only []
        go_wp2_with fail
        go_ret
        exact ⟨by rw [hfin.out]; rfl, rfl⟩
      · have j0 : ((n : Int) == 0) = false := beq_eq_false_iff_ne.2 (by omega)
        have hkk : x'.size + (k + 1) ≤ s.size := by omega
        have hlt : x'.size < x.size := by omega
        have hxs' := Lib.hid hxs
        clear hxs
        go_wp2_with fail
        refine CN.out.mono ?_
        rintro _ w2 ⟨rfl, h2⟩
        subst w2
        dsimp only []
        go_wp2_with fail
        go_round
        case rel => exact ⟨x', P ++ [c], k + 1, rfl, by go_num, hkk, Lib.hid (by rw [List.length_append, HP.out]; rfl), Lib.hid (hstep.out hn0)⟩
        case measure => exact hlt
    · have hfin : uCountI (bs s) = (k : Int) := by
        unfold uCountI
        rw [HC.out, bs_zero x (by omega), uChars_nil]
        simp [HP.out]
      replace hfin := Lib.hid hfin
      have i0 : ¬ ((0 : Int) < (x.size : Int)) := by omega
      go_wp2_with fail
      go_ret
      exact ⟨by rw [hfin.out]; rfl, rfl⟩
end Go.Proofs.YtbdbgiecfkgimaaDoor
