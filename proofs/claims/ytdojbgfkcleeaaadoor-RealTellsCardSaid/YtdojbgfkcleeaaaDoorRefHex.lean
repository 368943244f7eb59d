/-
  The document's Text and Parse.
-/
import Derived.Test.YtdojbgfkcleeaaaDoorRefReal
import Derived.Test.YtdojbgfkcleeaaaDoorBStr
namespace Go.Proofs.YtdojbgfkcleeaaaDoor
open Go.RowKit

def hexD (d : Nat) : Nat := if d < 10 then 48 + d else 87 + d
/-- A number's sixteen digits, most significant first. -/
def hexL (n : Nat) : List Nat := (List.range 16).map fun i => hexD (n / 16 ^ (15 - i) % 16)
theorem hexL_len (n : Nat) : (hexL n).length = 16 := by simp [hexL]
theorem hexL_get (n k : Nat) (h : k < 16) : (hexL n)[k]? = some (hexD (n / 16 ^ (15 - k) % 16)) := by
  unfold hexL
  rw [List.getElem?_map, List.getElem?_range h]
  rfl
theorem hexD_byte (d : Nat) (h : d < 16) : hexD d < 256 := by
  unfold hexD
  split <;> omega
theorem hexL_byte (n : Nat) : ∀ x ∈ hexL n, x < 256 := by
  intro x hx
  obtain ⟨i, _, rfl⟩ := List.mem_map.1 hx
  exact hexD_byte _ (Nat.mod_lt _ (by omega))
theorem hex_at : ∀ d, d < 16 → bs ((⟨#[48, 49, 50, 51, 52, 53, 54, 55, 56, 57, 97, 98, 99, 100, 101, 102]⟩ : ByteArray).extract d (d + 1)) = [hexD d] := by decide +kernel
theorem bits_and15 (a : Nat) (ha : a < 18446744073709551616) : bits .and .u64 (a : Int) 15 = ((a % 16 : Nat) : Int) := by
  have eo : ∀ a : Nat, a < 18446744073709551616 → (BitVec.ofInt 64 (a : Int)).toNat = a := fun a h => by
    rw [BitVec.toNat_ofInt]
    omega
  show IntKind.u64.wrap ((BitVec.ofInt 64 (a : Int) &&& BitVec.ofInt 64 15).toNat : Int) = _
  have e1 : (BitVec.ofInt 64 15).toNat = 2 ^ 4 - 1 := by decide
  rw [BitVec.toNat_and, eo a ha, e1, Nat.and_two_pow_sub_one_eq_mod]
  have e : ((a % 2 ^ 4 : Nat) : Int) % 18446744073709551616 = ((a % 16 : Nat) : Int) := by omega
  exact e
set_option maxRecDepth 4000 in
set_option maxHeartbeats 800000 in
theorem refText_any (x : Nat) (w : World) (hx : x < 18446744073709551616) :
    Calls Tryd.prog 10 #[.float .f64 x] w fun e w' => e = .returned (.string (strB (hexL (fBits x)))) ∧ Below w.heap.size w w' := by
  have CB := refBits_any x w
  have hn := fBits_lt x hx
  obtain ⟨n, hne⟩ : ∃ n, n = fBits x := ⟨_, rfl⟩
  rw [← hne] at CB hn ⊢
  replace hne := Lib.hid hne
  replace CB := Lib.hid CB
  go_enter Tryd.func10, Tryd.ntmps10
  go_wp2_with fail
  refine CB.out.mono ?_
  rintro _ w1 ⟨rfl, hb1⟩
  have B1 := Lib.hid hb1
  clear hb1
  dsimp only []
  go_wp2_with fail
  go_loop [4, 5] (fun ov iv => ∃ (k : Nat) (o : ByteArray), k ≤ 16 ∧ iv = .int .i64 (k : Int) ∧ ov = .string o ∧ Hid (bs o = (hexL n).take k)) (fun _ iv => 16 - (intOf iv).toNat)
  case atStart => exact ⟨0, ⟨#[]⟩, Nat.zero_le _, rfl, rfl, Lib.hid rfl⟩
  case round =>
    obtain ⟨k, o, hk, rfl, rfl, HO⟩ := hrel
    by_cases hlt : k < 16
    · have i0 : (0 : Int) ≤ (k : Int) := by omega
      have i1 : (k : Int) < 16 := by omega
      have i2 : (0 : Int) ≤ 60 - 4 * (k : Int) := by omega
      have i3 : (60 - 4 * (k : Int)).toNat = 60 - 4 * k := by omega
      obtain ⟨d, hd⟩ : ∃ d, d = n / 2 ^ (60 - 4 * k) % 16 := ⟨_, rfl⟩
      have hd16 : d < 16 := by omega
      have fA : bits .and .u64 ((n : Int) / 2 ^ (60 - 4 * k)) 15 = (d : Int) := by
        have e : ((n : Int) / 2 ^ (60 - 4 * k)) = ((n / 2 ^ (60 - 4 * k) : Nat) : Int) := by simp
        rw [e, hd]
        exact bits_and15 _ (by have := Nat.div_le_self n (2 ^ (60 - 4 * k)); omega)
      obtain ⟨y, hy⟩ : ∃ y, (⟨#[48, 49, 50, 51, 52, 53, 54, 55, 56, 57, 97, 98, 99, 100, 101, 102]⟩ : ByteArray).extract d (d + 1) = y := ⟨_, rfl⟩
      have HY : Hid (bs y = [hexD d]) := Lib.hid (by rw [← hy]; exact hex_at d hd16)
      obtain ⟨o2, ho2⟩ : ∃ o2, o ++ y = o2 := ⟨_, rfl⟩
      have HO2 : Hid (bs o2 = (hexL n).take (k + 1)) := Lib.hid (by
        rw [← ho2, bs_append, HO.out, HY.out, List.take_add_one, hexL_get n k hlt, hd, show 2 ^ (60 - 4 * k) = 16 ^ (15 - k) by rw [show (16 : Nat) = 2 ^ 4 from rfl, ← Nat.pow_mul]; congr 1; omega]
        rfl)
      have j1 : (d : Int) + 1 ≤ 16 := by omega
      have j2 : (d : Int) ≤ (d : Int) + 1 := by omega
      have j3 : ((d : Int) + 1).toNat = d + 1 := by omega
      have j4 : (0 : Int) ≤ (d : Int) + 1 := by omega
      have j5 : (0 : Int) ≤ (d : Int) := by omega
      have hos : o.size ≤ 16 := by rw [← bs_len, HO.out, List.length_take, hexL_len]; omega
      have hys : y.size ≤ 1 := by rw [← bs_len, HY.out]; exact Nat.le_refl _
      replace hd := Lib.hid hd
      go_wp2_with fail
      exact ⟨⟨k + 1, o2, by omega, by go_num, rfl, HO2⟩, by simp [intOf]; omega⟩
    · have hfin : o = strB (hexL n) := by
        refine bs_inj ?_
        rw [HO.out, bs_strB _ (hexL_byte n), List.take_of_length_le (by rw [hexL_len]; omega)]
      replace hfin := Lib.hid hfin
      have i1 : ¬ ((k : Int) < 16) := by omega
      go_wp2_with fail
      go_ret
      exact ⟨by rw [hfin.out]; rfl, B1.out⟩

/-- A hexadecimal digit's number. -/
def hexV (c : Nat) : Int := if 48 ≤ c ∧ c ≤ 57 then (c : Int) - 48 else if 97 ≤ c ∧ c ≤ 102 then (c : Int) - 87 else if 65 ≤ c ∧ c ≤ 70 then (c : Int) - 55 else -1
def hexS : List Nat := [48, 49, 50, 51, 52, 53, 54, 55, 56, 57, 97, 98, 99, 100, 101, 102, 65, 66, 67, 68, 69, 70]
theorem hexS_val : ∀ k, k < 22 → hexV (hexS.getD k 0) = if 15 < k then (k : Int) - 6 else (k : Int) := by decide +kernel
theorem hexS_none : ∀ c, c < 256 → (∀ k, k < 22 → hexS.getD k 0 ≠ c) → hexV c = -1 := by decide +kernel
theorem hexS_get : ∀ (k : Nat) (h : k < (⟨#[48, 49, 50, 51, 52, 53, 54, 55, 56, 57, 97, 98, 99, 100, 101, 102, 65, 66, 67, 68, 69, 70]⟩ : ByteArray).size), (⟨#[48, 49, 50, 51, 52, 53, 54, 55, 56, 57, 97, 98, 99, 100, 101, 102, 65, 66, 67, 68, 69, 70]⟩ : ByteArray)[k].toNat = hexS.getD k 0 := by decide +kernel
set_option maxRecDepth 4000 in
set_option maxHeartbeats 800000 in
theorem refDigit_any (c : Nat) (w : World) (hc : c < 256) :
    Calls Tryd.prog 17 #[.int .u8 (c : Int)] w fun e w' => e = .returned (.int .i64 (hexV c)) ∧ w' = w := by
  obtain ⟨v, hv⟩ : ∃ v, v = hexV c := ⟨_, rfl⟩
  rw [← hv]
  replace hv := Lib.hid hv
  go_enter Tryd.func17, Tryd.ntmps17
  go_wp2_with fail
  go_loop [4] (fun iv => ∃ k : Nat, k ≤ 22 ∧ iv = .int .i64 (k : Int) ∧ Hid (∀ j, j < k → hexS.getD j 0 ≠ c)) (fun iv => 22 - (intOf iv).toNat)
  case atStart => exact ⟨0, Nat.zero_le _, rfl, Lib.hid (fun j hj => absurd hj (by omega))⟩
  case round =>
    obtain ⟨k, hk, rfl, HN⟩ := hrel
    by_cases hlt : k < 22
    · have i0 : (0 : Int) ≤ (k : Int) := by omega
      have i1 : (k : Int) < 22 := by omega
      have hg := hexS_get k hlt
      have hv2 := hexS_val k hlt
      obtain ⟨d, hd⟩ : ∃ d, d = hexS.getD k 0 := ⟨_, rfl⟩
      rw [← hd] at hg hv2
      by_cases hdc : d = c
      · have e1 : ((d : Int) == (c : Int)) = true := beq_iff_eq.2 (by omega)
        rw [hdc, ← hv.out] at hv2
        replace hd := Lib.hid hd
        replace hdc := Lib.hid hdc
        by_cases h15 : 15 < k
        · have h15' : (15 : Int) < (k : Int) := by omega
          rw [if_pos h15] at hv2
          replace hv2 := Lib.hid hv2
          go_wp2_with fail
          go_ret
          exact ⟨by rw [hv2.out]; rfl, rfl⟩
        · have h15' : ¬ ((15 : Int) < (k : Int)) := by omega
          rw [if_neg h15] at hv2
          replace hv2 := Lib.hid hv2
          go_wp2_with fail
          go_ret
          exact ⟨by rw [hv2.out]; rfl, rfl⟩
      · have e1 : ((d : Int) == (c : Int)) = false := beq_eq_false_iff_ne.2 (by omega)
        have HN2 : Hid (∀ j, j < k + 1 → hexS.getD j 0 ≠ c) := Lib.hid fun j hj => by
          by_cases hjk : j = k
          · rw [hjk, ← hd]
            exact hdc
          · exact HN.out j (by omega)
        replace hd := Lib.hid hd
        replace hdc := Lib.hid hdc
        replace hv2 := Lib.hid hv2
        go_wp2_with fail
        go_round
        case rel => exact ⟨k + 1, by omega, by go_num, HN2⟩
        case measure => simp [intOf]; omega
    · have hfin := hexS_none c hc (fun j hj => HN.out j (by omega))
      rw [← hv.out] at hfin
      replace hfin := Lib.hid hfin
      have i1 : ¬ ((k : Int) < 22) := by omega
      go_wp2_with fail
      go_ret
      exact ⟨by rw [hfin.out]; rfl, rfl⟩

def hexF (l : List Nat) : Nat := l.foldl (fun n c => n * 16 + (hexV c).toNat) 0
theorem hexF_snoc (l : List Nat) (c : Nat) : hexF (l ++ [c]) = hexF l * 16 + (hexV c).toNat := by
  unfold hexF
  rw [List.foldl_append]
  rfl
theorem hexV_lt (c : Nat) : hexV c < 16 := by
  unfold hexV
  split
  · omega
  · split
    · omega
    · split <;> omega
theorem hexV_lo (c : Nat) : -1 ≤ hexV c := by
  unfold hexV
  split
  · omega
  · split
    · omega
    · split <;> omega
theorem hexF_lt (l : List Nat) : ∀ k, hexF (l.take k) < 16 ^ k
  | 0 => by simp [hexF]
  | k + 1 => by
    have h := hexF_lt l k
    rcases Nat.lt_or_ge k l.length with h1 | h1
    · rw [List.take_succ_eq_append_getElem h1, hexF_snoc, Nat.pow_succ]
      have := hexV_lt l[k]
      have h2 : (hexV l[k]).toNat < 16 := by omega
      omega
    · rw [List.take_of_length_le h1] at h
      rw [List.take_of_length_le (by omega), Nat.pow_succ]
      omega
/-- The bits that sixteen digits say. -/
def fParse (l : List Nat) : Option Nat := if l.length = 16 ∧ ∀ c ∈ l, 0 ≤ hexV c then some (hexF l) else none
theorem hexV_hexD : ∀ d, d < 16 → hexV (hexD d) = (d : Int) := by decide +kernel
theorem hexF_hexL (n : Nat) : ∀ k, k ≤ 16 → hexF ((hexL n).take k) = n / 16 ^ (16 - k) % 16 ^ k
  | 0, _ => by
    rw [List.take_zero, Nat.pow_zero, Nat.mod_one]
    rfl
  | k + 1, h => by
    have hg := hexL_get n k (by omega)
    have hl : k < (hexL n).length := by rw [hexL_len]; omega
    rw [List.getElem?_eq_getElem hl] at hg
    injection hg with hg
    rw [List.take_succ_eq_append_getElem hl, hexF_snoc, hexF_hexL n k (by omega), hg, hexV_hexD _ (Nat.mod_lt _ (by omega)), show 16 - (k + 1) = 15 - k by omega, show 16 - k = 15 - k + 1 by omega, Nat.pow_succ, ← Nat.div_div_eq_div_mul, Nat.pow_succ]
    obtain ⟨m, hm⟩ : ∃ m, m = n / 16 ^ (15 - k) := ⟨_, rfl⟩
    rw [← hm, Nat.mul_comm (16 ^ k) 16, Nat.mod_mul]
    show m / 16 % 16 ^ k * 16 + ((m % 16 : Nat) : Int).toNat = _
    omega
theorem fParse_hexL (n : Nat) (h : n < 18446744073709551616) : fParse (hexL n) = some n := by
  unfold fParse
  rw [if_pos ⟨hexL_len n, fun c hc => by
    obtain ⟨i, _, rfl⟩ := List.mem_map.1 hc
    rw [hexV_hexD _ (Nat.mod_lt _ (by omega))]
    omega⟩]
  have h1 := hexF_hexL n 16 (Nat.le_refl _)
  rw [List.take_of_length_le (by rw [hexL_len]; exact Nat.le_refl _)] at h1
  rw [h1, Nat.sub_self, Nat.pow_zero, Nat.div_one, Nat.mod_eq_of_lt h]
theorem fParse_lt {l : List Nat} {n : Nat} (h : fParse l = some n) : n < 18446744073709551616 := by
  unfold fParse at h
  by_cases h1 : l.length = 16 ∧ ∀ c ∈ l, 0 ≤ hexV c
  · rw [if_pos h1] at h
    injection h with h
    have h2 := hexF_lt l 16
    rw [List.take_of_length_le (by omega)] at h2
    omega
  · rw [if_neg h1] at h
    cases h
set_option maxRecDepth 4000 in
set_option maxHeartbeats 800000 in
theorem refParse_any (s : ByteArray) (w : World) :
    Calls Tryd.prog 7 #[.string s] w fun e w' => e = .returned (.tuple #[.float .f64 ((fParse (bs s)).getD 0), .bool (fParse (bs s)).isSome]) ∧ w' = w := by
  have hl := bs_len s
  obtain ⟨P, hP⟩ : ∃ P, P = fParse (bs s) := ⟨_, rfl⟩
  rw [← hP]
  by_cases h16 : s.size = 16
  · have k0 : ((s.size : Int) != 16) = false := by rw [h16]; rfl
    have CD : Hid (∀ c : Nat, c < 256 → Calls Tryd.prog 17 #[.int .u8 (c : Int)] w fun e w' => e = .returned (.int .i64 (hexV c)) ∧ w' = w) := Lib.hid fun c h => refDigit_any c w h
    have hfr := fun n => frombits_run n w
    have hend : Hid ((∀ c ∈ bs s, 0 ≤ hexV c) → P = some (hexF (bs s))) := Lib.hid fun h => by
      rw [hP]
      unfold fParse
      rw [if_pos ⟨by rw [hl, h16], h⟩]
    have hbad : Hid (¬ (∀ c ∈ bs s, 0 ≤ hexV c) → P = none) := Lib.hid fun h => by
      rw [hP]
      unfold fParse
      rw [if_neg (fun e => h e.2)]
    replace hP := Lib.hid hP
    replace hl := Lib.hid hl
    replace h16 := Lib.hid h16
    go_enter Tryd.func7, Tryd.ntmps7
    go_wp2_with fail
    go_loop [4, 5] (fun nv iv => ∃ k n : Nat, k ≤ 16 ∧ iv = .int .i64 (k : Int) ∧ nv = .int .u64 (n : Int) ∧ Hid (n = hexF ((bs s).take k)) ∧ Hid (∀ c ∈ (bs s).take k, 0 ≤ hexV c)) (fun _ iv => 16 - (intOf iv).toNat)
    case atStart => exact ⟨0, 0, Nat.zero_le _, rfl, rfl, Lib.hid rfl, Lib.hid (fun c hc => absurd hc (by simp))⟩
    case round =>
      obtain ⟨k, n, hk, rfl, rfl, HN, HV⟩ := hrel
      by_cases hlt : k < 16
      · have hks : k < s.size := by rw [h16.out]; exact hlt
        have i0 : (0 : Int) ≤ (k : Int) := by omega
        have i1 : (k : Int) < 16 := by omega
        have i2 : (k : Int) < (s.size : Int) := by omega
        obtain ⟨c, hc⟩ : ∃ c, s[k].toNat = c := ⟨_, rfl⟩
        have hc256 : c < 256 := by rw [← hc]; exact s[k].toNat_lt
        have hget : (bs s)[k]'(by rw [hl.out]; exact hks) = c := by rw [bs_get s k hks, hc]
        have htk : (bs s).take (k + 1) = (bs s).take k ++ [c] := by
          rw [List.take_succ_eq_append_getElem (by rw [hl.out]; exact hks), hget]
        have hn16 : n < 1152921504606846976 := by
          have h1 := hexF_lt (bs s) k
          rw [← HN.out] at h1
          have h2 : 16 ^ k ≤ 16 ^ 15 := Nat.pow_le_pow_right (by omega) (by omega)
          omega
        have C1 := CD.out c hc256
        have hv1 := hexV_lt c
        have hv0 := hexV_lo c
        have hF := hexF_snoc ((bs s).take k) c
        rw [← htk, ← HN.out] at hF
        obtain ⟨v, hv⟩ : ∃ v, v = hexV c := ⟨_, rfl⟩
        rw [← hv] at C1 hv1 hv0 hF
        replace C1 := Lib.hid C1
        by_cases hneg : v < 0
        · have hb := hbad.out (fun h => by
            have := h c (by rw [← hget]; exact List.getElem_mem _)
            omega)
          replace hb := Lib.hid hb
          replace hget := Lib.hid hget
          replace htk := Lib.hid htk
          replace hv := Lib.hid hv
          replace hF := Lib.hid hF
          go_wp2_with fail
          refine C1.out.mono ?_
          rintro _ w2 ⟨rfl, h2⟩
          subst w2
          dsimp only []
          go_wp2_with fail
          go_returns
          exact ⟨by rw [hb.out]; rfl, rfl⟩
        · obtain ⟨m, hm⟩ : ∃ m : Nat, v = (m : Int) := ⟨v.toNat, by omega⟩
          subst hm
          have hF2 : Hid (n * 16 + m = hexF ((bs s).take (k + 1))) := Lib.hid (by rw [hF]; simp)
          have HV2 : Hid (∀ c ∈ (bs s).take (k + 1), 0 ≤ hexV c) := Lib.hid fun d hd => by
            rw [htk] at hd
            rcases List.mem_append.1 hd with hd | hd
            · exact HV.out d hd
            · have := List.mem_singleton.1 hd
              rw [this, ← hv]
              omega
          replace hget := Lib.hid hget
          replace htk := Lib.hid htk
          replace hv := Lib.hid hv
          replace hF := Lib.hid hF
          go_wp2_with fail
          refine C1.out.mono ?_
          rintro _ w2 ⟨rfl, h2⟩
          subst w2
          dsimp only []
          go_wp2_with fail
          exact ⟨⟨k + 1, n * 16 + m, by omega, by go_num, by go_num, hF2, HV2⟩, by simp [intOf]; omega⟩
      · have htk : (bs s).take k = bs s := List.take_of_length_le (by rw [hl.out, h16.out]; omega)
        rw [htk] at HN HV
        have hfin := hend.out HV.out
        rw [← HN.out] at hfin
        replace hfin := Lib.hid hfin
        replace htk := Lib.hid htk
        have i1 : ¬ ((k : Int) < 16) := by omega
        go_wp2_with fail
        go_returns
        exact ⟨by rw [hfin.out]; rfl, rfl⟩
  · have k0 : ((s.size : Int) != 16) = true := by simp; omega
    have hb : P = none := by
      rw [hP]
      unfold fParse
      rw [if_neg (fun e => h16 (by rw [← hl]; exact e.1))]
    replace hb := Lib.hid hb
    replace hP := Lib.hid hP
    go_enter Tryd.func7, Tryd.ntmps7
    go_wp2_with fail
    go_returns
    exact ⟨by rw [hb.out]; rfl, rfl⟩
end Go.Proofs.YtdojbgfkcleeaaaDoor
