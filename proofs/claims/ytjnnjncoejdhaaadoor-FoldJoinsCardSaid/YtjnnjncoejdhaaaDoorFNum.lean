/-
  The program's Numeric of any text.
-/
import Derived.Test.YtjnnjncoejdhaaaDoorFDat
import Derived.OwnWalk
import Derived.BigGuardPart
import Derived.Deep.QuietTactic
import Derived.BigQuiet
namespace Go.Proofs.YtjnnjncoejdhaaaDoor
open Go.RowKit

theorem own_made {w : World} {base : Nat} {n : Nat} {A : Option Addr} (h : w.ownsRow base 5 1 (.slice A 0 n) 0 []) : Own w base (.slice A 0 n) [] := h
theorem below_drewN {K : Nat} {w w' : World} (h : Below K w w') : ∀ n, Below K w (w'.drewN n)
  | 0 => h
  | n + 1 => (below_drewN h n).drew
set_option maxRecDepth 8000 in
set_option maxHeartbeats 800000 in
theorem num_any (s : ByteArray) (w : World) (hs : s.size ≤ 100000) :
    Calls Tryd.prog 8 #[.string s] w fun e w' => e = .returned (.tuple #[.string (numT s), .bool (uNum (bs s)).2]) ∧ Below w.heap.size w w' := by
  have cA0 := info_parts info_u8
  obtain ⟨iu, hiu, hz0, hz1, hz2⟩ := cA0
  go_enter Tryd.func8, Tryd.ntmps8
  go_wp2_with (refine wpList_make_own w rfl _ _ 32 rfl w.heap.size 5 iu (.int .u8 0) 1 Tryd.underlying32 hiu hz0 hz1 .i64 .i64 (s.size : Int) s.size rfl rfl rfl (by rw [hz2]; omega) (by unfold maxLen; omega) (Nat.le_refl _) ?_; intro w1 ho1 hg1; have HO1 := Lib.hid (own_made ho1); have HB1 := Lib.hid ((Below.refl w.heap.size w).grown hg1 (Nat.le_refl _) (fun k hk => by cases hk)); clear ho1 hg1)
  go_loopw [4, 11] (fun b i wr => ∃ (k N cc : Nat) (B : Option Addr) (L : List Nat), k ≤ s.size ∧ N ≤ k ∧ i = .int .i64 (k : Int) ∧ b = .slice B N cc ∧ Hid (L.length = N) ∧ Hid (uNumOk ((bs s).take k) = true) ∧ Hid (L = uDigits ((bs s).take k)) ∧ Hid (Own wr w.heap.size (.slice B N cc) L) ∧ Hid (Below w.heap.size w wr)) (fun _ i _ => s.size - (intOf i).toNat)
  case atStart => exact ⟨0, 0, s.size, _, [], Nat.zero_le _, Nat.le_refl _, rfl, rfl, Lib.hid rfl, Lib.hid rfl, Lib.hid rfl, HO1, HB1⟩
  case round =>
    obtain ⟨k, N, cc, B, L, hk, hN, rfl, rfl, HN, HK, HL, HO, HB⟩ := hrel
    have hsz1 := HB.out.size
    by_cases hlt : k < s.size
    · have i0 : (0 : Int) ≤ (k : Int) := by omega
      have i1 : (k : Int) < (s.size : Int) := by omega
      have hT := bs_take s k hlt
      obtain ⟨c, hc⟩ : ∃ c, s[k].toNat = c := ⟨_, rfl⟩
      have hc256 : c < 256 := by rw [← hc]; exact s[k].toNat_lt
      rw [hc] at hT
      have hN1 := uNumOk_snoc ((bs s).take k) c
      have hD1 := uDigits_snoc ((bs s).take k) c
      rw [← hT, HK.out, Bool.true_and] at hN1
      rw [← hT, ← HL.out] at hD1
      replace hT := Lib.hid hT
      have hcs : ((s[k].toNat : Nat) : Int) = (c : Int) := by rw [hc]
      replace hc := Lib.hid hc
      by_cases h32 : c = 32
      · have d3 : ((c : Int) == 32) = true := beq_iff_eq.2 (by omega)
        rw [decide_eq_true (.inr h32)] at hN1
        rw [if_neg (by omega), List.append_nil] at hD1
        replace hN1 := Lib.hid hN1
        replace hD1 := Lib.hid hD1.symm
        replace h32 := Lib.hid h32
        go_wp2_with fail
        go_roundw
        case rel => exact ⟨k + 1, N, cc, B, L, by omega, by omega, by go_num, rfl, HN, hN1, hD1, HO, HB⟩
        case measure => simp [intOf]; omega
      · have d3 : ((c : Int) == 32) = false := beq_eq_false_iff_ne.2 (by omega)
        by_cases hd : 48 ≤ c ∧ c ≤ 57
        · have d1 : ¬ ((c : Int) < 48) := by omega
          have d2 : ¬ ((57 : Int) < (c : Int)) := by omega
          have d4 : decide ((c : Int) < 48) = false := by simp; omega
          have d5 : decide ((57 : Int) < (c : Int)) = false := by simp; omega
          rw [decide_eq_true (.inl hd)] at hN1
          rw [if_pos hd] at hD1
          replace hN1 := Lib.hid hN1
          replace hD1 := Lib.hid hD1.symm
          go_wp2_with (at_builtin; refine append_srcF rfl (.tmp 28) (.tmp 32) rfl w.heap.size (.slice B N cc) L rfl (HO.out.alloc _) (wr.heap.size + 1) (some ⟨wr.heap.size, 0, none⟩) 1 [c] 1 rfl rfl (Src.one wr c) (by rw [HN.out]; simp; omega) (by simp; omega) ?_; intro A3 c3 w3 ho3 hb3 _; have HO3 := Lib.hid ho3; have HB3 := Lib.hid (show Below w.heap.size w w3 from HB.out.trans (((Below.refl w.heap.size wr).alloc hsz1 _).trans hb3)); clear ho3 hb3)
          go_roundw
          case rel => exact ⟨k + 1, N + 1, c3, A3, L ++ [c], by omega, by omega, by go_num, by rw [HN.out], Lib.hid (by rw [List.length_append, HN.out]; rfl), hN1, hD1, Lib.hid (by have := HO3.out; rwa [HN.out] at this), HB3⟩
          case measure => simp [intOf]; omega
        · rw [decide_eq_false (by omega)] at hN1
          have hfin : uNum (bs s) = ([], false) := by
            unfold uNum
            rw [uNumOk_take _ _ hN1, if_neg (by decide)]
          have hfi : Ending.returned (Value.tuple #[.string ⟨#[]⟩, .bool false]) = .returned (.tuple #[.string (numT s), .bool (uNum (bs s)).2]) := by
            unfold numT
            rw [hfin]
            rfl
          replace hN1 := Lib.hid hN1
          replace hD1 := Lib.hid hD1
          replace hfin := Lib.hid hfin
          replace hfi := Lib.hid hfi
          by_cases h48 : 48 ≤ c
          · have d1 : ¬ ((c : Int) < 48) := by omega
            have d2 : (57 : Int) < (c : Int) := by omega
            have d4 : decide ((c : Int) < 48) = false := by simp; omega
            have d5 : decide ((57 : Int) < (c : Int)) = true := by simp; omega
            go_wp2_with fail
            go_returns
            exact ⟨hfi.out, HB.out⟩
          · have d1 : (c : Int) < 48 := by omega
            have d4 : decide ((c : Int) < 48) = true := by simp; omega
            go_wp2_with fail
            go_returns
            exact ⟨hfi.out, HB.out⟩
    · have hkk : (bs s).take k = bs s := List.take_of_length_le (by rw [bs_len]; omega)
      rw [hkk] at HK HL
      have hfin : uNum (bs s) = (L, decide (L ≠ [])) := by
        unfold uNum
        rw [HK.out, if_pos rfl, ← HL.out]
      have hne : decide (L ≠ []) = decide (0 < N) := by
        rw [decide_eq_decide, ← HN.out]
        rcases L with _ | ⟨a, r⟩
        · simp
        · simp
      have hfi : Ending.returned (Value.tuple #[.string (strB L), .bool (decide (0 < N))]) = .returned (.tuple #[.string (numT s), .bool (uNum (bs s)).2]) := by
        unfold numT
        rw [hfin, ← hne]
      replace hfi := Lib.hid hfi
      replace hfin := Lib.hid hfin
      replace hkk := Lib.hid hkk
      replace hne := Lib.hid hne
      have i1 : ¬ ((k : Int) < (s.size : Int)) := by omega
      have cv := HO.out.src.conv
      rw [HN.out] at cv
      go_wp2_with fail
      go_returns
      exact ⟨hfi.out, HB.out⟩
end Go.Proofs.YtjnnjncoejdhaaaDoor
