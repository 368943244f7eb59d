/-
  strconv.ParseUint of sixteen digits at base 16: what it says, or that it is no number.
-/
import Derived.Test.YtdojbgfkcleeaaaDoorRefHex
import Derived.Test.YtdojbgfkcleeaaaDoorShelf
import Derived.Lib.Strings
import Derived.Lib.Walk
import Derived.Lib.ConvBytes
import Derived.Lib.AtoiAllMem
import Derived.Lib.AtoiErrMem
import Derived.Lib.Hide
import Derived.Laws.Strings3
import Derived.BigCall
import Derived.BigGuard
import Derived.Outline
namespace Go.Proofs.YtdojbgfkcleeaaaDoor
open Go.RowKit

theorem low_or : ∀ c : Nat, c < 256 → bits .or .u8 (c : Int) 32 = ((c ||| 32 : Nat) : Int) := by decide +kernel
theorem low_hex : ∀ c : Nat, c < 256 → hexV c = if 48 ≤ c ∧ c ≤ 57 then (c : Int) - 48 else if 97 ≤ c ||| 32 ∧ c ||| 32 ≤ 102 then ((c ||| 32 : Nat) : Int) - 87 else -1 := by decide +kernel
theorem low_95 : ∀ c : Nat, c < 256 → c = 95 → c ||| 32 = 127 := by decide +kernel
theorem lower_any (c : Nat) (hc : c < 256) (w : World) : Calls Tryd.prog 32 #[.int .u8 (c : Int)] w fun e w' => e = .returned (.int .u8 ((c ||| 32 : Nat) : Int)) ∧ w = w' :=
  (Tryd.internal_strconv_lower (c : Int) w).mono fun e w' ⟨h1, h2⟩ => ⟨by rw [h1, low_or c hc], h2.symm⟩

set_option maxHeartbeats 8000000 in
set_option maxRecDepth 100000 in
theorem parseIn_any (s : ByteArray) (hs : s.size = 16) (w : World) :
    Calls Tryd.prog 23 #[.string s, .int .i64 16, .int .i64 64] w fun e w' => e = .returned (if ∀ c ∈ bs s, 0 ≤ hexV c then .tuple #[.int .u64 (hexF (bs s) : Int), .nilIface] else .tuple #[.int .u64 0, .iface 57 (.int .i64 2)]) ∧ Below w.heap.size w w' := by
  have hl := bs_len s
  have hemp : s.toList.isEmpty = false := by
    rw [← decide_eq_emptyBytes]
    exact decide_eq_false (fun h => by rw [h] at hs; cases hs)
  have hcv := Lib.run_convert_string_bytes (P := Tryd.prog) w 9 49 5 s (u := .string) Tryd.underlying9 Tryd.underlying49 Tryd.underlying5
  have hB : ∀ j, j < s.size → (Lib.bytesWorld w 5 s).cell? ⟨w.heap.size, j, none⟩ = some (.int .u8 (s.data.toList.getD j 0).toNat) := fun j hj => Lib.bytesWorld_cell w 5 s j hj
  have hbw : Below w.heap.size w (Lib.bytesWorld w 5 s) := Lib.bytesWorld_below w 5 s
  have hB2 : ∀ j (h : j < s.size), (Lib.bytesWorld w 5 s).cell? ⟨w.heap.size, j, none⟩ = some (.int .u8 ((s[j]).toNat : Int)) := fun j h => by
    rw [hB j h]
    congr 2
    rw [List.getD_eq_getElem?_getD, List.getElem?_eq_getElem (by simpa using h)]
    rfl
  clear hB
  obtain ⟨W1, hW1⟩ : ∃ W1, W1 = Lib.bytesWorld w 5 s := ⟨_, rfl⟩
  rw [← hW1] at hcv hB2 hbw
  clear hW1
  replace hB2 := Lib.hid hB2
  replace hbw := Lib.hid hbw
  have hmv : IntKind.u64.wrap (IntKind.u64.wrap 18446744073709551616 - 1) = 18446744073709551615 := by
    rw [IntKind.wrap_u64, IntKind.wrap_u64]
    decide
  have CL := lower_any
  replace CL := Lib.hid CL
  obtain ⟨R, hR⟩ : ∃ R, R = (if ∀ c ∈ bs s, 0 ≤ hexV c then Value.tuple #[.int .u64 (hexF (bs s) : Int), .nilIface] else .tuple #[.int .u64 0, .iface 57 (.int .i64 2)]) := ⟨_, rfl⟩
  rw [← hR]
  have hyes : Hid ((∀ c ∈ bs s, 0 ≤ hexV c) → R = .tuple #[.int .u64 (hexF (bs s) : Int), .nilIface]) := Lib.hid fun h => by rw [hR, if_pos h]
  have hno : Hid (¬ (∀ c ∈ bs s, 0 ≤ hexV c) → R = .tuple #[.int .u64 0, .iface 57 (.int .i64 2)]) := Lib.hid fun h => by rw [hR, if_neg h]
  replace hR := Lib.hid hR
  replace hl := Lib.hid hl
  have hs0 : (s.size : Int) = 16 := by rw [hs]; rfl
  replace hs := Lib.hid hs
  go_enter Tryd.func23, Tryd.ntmps23
  go_wp2_with fail
  go_loop [12, 13, 101] (fun vu vn vi => ∃ (k : Nat) (a : Int), vu = .bool false ∧ vn = .int .u64 a ∧ vi = .int .i64 (k : Int) ∧ k ≤ 16 ∧ 0 ≤ a ∧ a < 18446744073709551616 ∧ Hid (a = (hexF ((bs s).take k) : Int) ∧ ∀ c ∈ (bs s).take k, 0 ≤ hexV c))
    (fun _ _ vi => 16 - (intOf vi).toNat)
  case atStart => exact ⟨0, 0, rfl, rfl, rfl, by omega, by omega, by omega, Lib.hid ⟨rfl, fun c hc => absurd hc (by simp)⟩⟩
  case round =>
    obtain ⟨k, a, rfl, rfl, rfl, hk, a0, a1, HA⟩ := hrel
    by_cases hlt : k < 16
    · have hks : k < s.size := by rw [hs.out]; exact hlt
      have hc := hB2.out k hks
      have i0 : (0 : Int) ≤ (k : Int) := by omega
      have i1 : (k : Int) < 16 := by omega
      obtain ⟨c, hce⟩ : ∃ c, s[k].toNat = c := ⟨_, rfl⟩
      have hc256 : c < 256 := by rw [← hce]; exact s[k].toNat_lt
      have hget : (bs s)[k]'(by rw [hl.out]; exact hks) = c := by rw [bs_get s k hks, hce]
      have htk : (bs s).take (k + 1) = (bs s).take k ++ [c] := by
        rw [List.take_succ_eq_append_getElem (by rw [hl.out]; exact hks), hget]
      have hmem : c ∈ bs s := by rw [← hget]; exact List.getElem_mem _
      rw [hce] at hc
      have hn16 : a < 1152921504606846976 := by
        have h1 := hexF_lt (bs s) k
        have h2 : 16 ^ k ≤ 16 ^ 15 := Nat.pow_le_pow_right (by omega) (by omega)
        have := HA.out.1
        omega
      have hF := hexF_snoc ((bs s).take k) c
      rw [← htk] at hF
      have hv := low_hex c hc256
      have h95 := low_95 c hc256
      have CLc := CL.out c hc256
      obtain ⟨L, hL⟩ : ∃ L, L = c ||| 32 := ⟨_, rfl⟩
      rw [← hL] at hv h95 CLc
      have hL2 : L < 256 := by
        rw [hL]
        exact Nat.or_lt_two_pow (n := 8) hc256 (by omega)
      replace CLc := Lib.hid CLc
      replace hL := Lib.hid hL
      have hbad : hexV c = -1 → Hid (R = .tuple #[.int .u64 0, .iface 57 (.int .i64 2)]) := fun h => Lib.hid (hno.out fun h2 => by have := h2 c hmem; omega)
      have hgood : ∀ d : Nat, hexV c = (d : Int) → Hid (a * 16 + (d : Int) = (hexF ((bs s).take (k + 1)) : Int) ∧ ∀ c ∈ (bs s).take (k + 1), 0 ≤ hexV c) := fun d h => Lib.hid ⟨by
          rw [hF, h, HA.out.1]
          simp, fun e he => by
          rw [htk] at he
          rcases List.mem_append.1 he with he | he
          · exact HA.out.2 e he
          · have := List.mem_singleton.1 he
            rw [this, h]
            omega⟩
      replace hget := Lib.hid hget
      replace htk := Lib.hid htk
      replace hce := Lib.hid hce
      replace hF := Lib.hid hF
      clear hmem HA
      by_cases hdig : 48 ≤ c ∧ c ≤ 57
      · rw [if_pos hdig] at hv
        obtain ⟨d0, d1⟩ := hdig
        have HG := hgood (c - 48) (by omega)
        rw [show ((c - 48 : Nat) : Int) = (c : Int) - 48 by omega] at HG
        have e95 : ((c : Int) == 95) = false := beq_eq_false_iff_ne.2 (by omega)
        clear hgood hbad hv h95
        go_wp2_with fail
        go_round
        case rel => exact ⟨k + 1, _, rfl, rfl, by go_num, by omega, by omega, by omega, HG⟩
        case measure => simp [intOf]; omega
      · rw [if_neg hdig] at hv
        by_cases hhex : 97 ≤ L ∧ L ≤ 102
        · rw [if_pos hhex] at hv
          obtain ⟨d0, d1⟩ := hhex
          have HG := hgood (L - 87) (by omega)
          rw [show ((L - 87 : Nat) : Int) = (L : Int) - 97 + 10 by omega] at HG
          have e95 : ((c : Int) == 95) = false := beq_eq_false_iff_ne.2 (by omega)
          clear hgood hbad hv h95
          by_cases d3 : 48 ≤ c
          · have d4 : ¬ ((c : Int) ≤ 57) := by omega
            clear hdig
            go_wp2_with (go_at_call 32; refine (CLc.out _).mono ?_; rintro _ _ ⟨rfl, rfl⟩)
            go_round
            case rel => exact ⟨k + 1, _, rfl, rfl, by go_num, by omega, by omega, by omega, HG⟩
            case measure => simp [intOf]; omega
          · have d4 : ¬ (48 ≤ (c : Int)) := by omega
            clear hdig
            go_wp2_with (go_at_call 32; refine (CLc.out _).mono ?_; rintro _ _ ⟨rfl, rfl⟩)
            go_round
            case rel => exact ⟨k + 1, _, rfl, rfl, by go_num, by omega, by omega, by omega, HG⟩
            case measure => simp [intOf]; omega
        · rw [if_neg hhex] at hv
          have HR := hbad hv
          clear hgood hbad hv
          replace hdig := Lib.hid hdig
          replace hhex := Lib.hid hhex
          have e95 : ((c : Int) == 95) = true ∧ 122 < L ∧ 57 < c ∨ ((c : Int) == 95) = false := by
            by_cases e : c = 95
            · exact .inl ⟨beq_iff_eq.2 (by omega), by have := h95 e; omega, by omega⟩
            · exact .inr (beq_eq_false_iff_ne.2 (by omega))
          clear h95
          rcases e95 with ⟨e95, l1, l2⟩ | e95
          · have d3 : 48 ≤ (c : Int) := by omega
            have d4 : ¬ ((c : Int) ≤ 57) := by omega
            have d5 : 97 ≤ (L : Int) := by omega
            have d6 : ¬ ((L : Int) ≤ 122) := by omega
            go_wp2_with (go_at_call 32; refine (CLc.out _).mono ?_; rintro _ _ ⟨rfl, rfl⟩)
            go_returns
            exact ⟨by rw [HR.out]; rfl, hbw.out⟩
          · by_cases d3 : 48 ≤ c
            · have d4 : ¬ ((c : Int) ≤ 57) := by have := hdig.out; omega
              rcases Nat.lt_or_ge L 97 with d5 | d5
              · have d6 : ¬ (97 ≤ (L : Int)) := by omega
                go_wp2_with (go_at_call 32; refine (CLc.out _).mono ?_; rintro _ _ ⟨rfl, rfl⟩)
                go_returns
                exact ⟨by rw [HR.out]; rfl, hbw.out⟩
              · rcases Nat.lt_or_ge 122 L with d6 | d6
                · have d7 : ¬ ((L : Int) ≤ 122) := by omega
                  go_wp2_with (go_at_call 32; refine (CLc.out _).mono ?_; rintro _ _ ⟨rfl, rfl⟩)
                  go_returns
                  exact ⟨by rw [HR.out]; rfl, hbw.out⟩
                · have d7 : 103 ≤ L := by have := hhex.out; omega
                  go_wp2_with (go_at_call 32; refine (CLc.out _).mono ?_; rintro _ _ ⟨rfl, rfl⟩)
                  go_returns
                  exact ⟨by rw [HR.out]; rfl, hbw.out⟩
            · have d4 : ¬ (48 ≤ (c : Int)) := by omega
              rcases Nat.lt_or_ge L 97 with d5 | d5
              · have d6 : ¬ (97 ≤ (L : Int)) := by omega
                go_wp2_with (go_at_call 32; refine (CLc.out _).mono ?_; rintro _ _ ⟨rfl, rfl⟩)
                go_returns
                exact ⟨by rw [HR.out]; rfl, hbw.out⟩
              · rcases Nat.lt_or_ge 122 L with d6 | d6
                · have d7 : ¬ ((L : Int) ≤ 122) := by omega
                  go_wp2_with (go_at_call 32; refine (CLc.out _).mono ?_; rintro _ _ ⟨rfl, rfl⟩)
                  go_returns
                  exact ⟨by rw [HR.out]; rfl, hbw.out⟩
                · have d7 : 103 ≤ L := by have := hhex.out; omega
                  go_wp2_with (go_at_call 32; refine (CLc.out _).mono ?_; rintro _ _ ⟨rfl, rfl⟩)
                  go_returns
                  exact ⟨by rw [HR.out]; rfl, hbw.out⟩
    · have htk : (bs s).take k = bs s := List.take_of_length_le (by rw [hl.out, hs.out]; omega)
      have hk16 : k = 16 := by omega
      obtain ⟨h1, h2⟩ := HA.out
      rw [htk] at h1 h2
      have HR := Lib.hid (hyes.out h2)
      subst h1
      replace h2 := Lib.hid h2
      replace htk := Lib.hid htk
      have i1 : ¬ ((k : Int) < 16) := by omega
      replace hk16 := Lib.hid hk16
      clear HA
      go_wp2_with fail
      go_returns
      exact ⟨by rw [HR.out]; rfl, hbw.out⟩
end Go.Proofs.YtdojbgfkcleeaaaDoor
