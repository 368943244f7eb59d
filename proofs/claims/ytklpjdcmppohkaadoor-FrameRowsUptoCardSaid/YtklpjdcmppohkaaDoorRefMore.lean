/-
  The document's sum of any bytes.
-/
import Derived.Test.YtklpjdcmppohkaaDoorWords
import Derived.Test.YtklpjdcmppohkaaDoorCrc
namespace Go.Proofs.YtklpjdcmppohkaaDoor
open Go.RowKit

theorem ofInt32 (a : Nat) (h : a < 4294967296) : (BitVec.ofInt 32 (a : Int)).toNat = a := by
  rw [BitVec.toNat_ofInt]
  omega
theorem bits_xor32 (a b : Nat) (ha : a < 4294967296) (hb : b < 4294967296) : bits .xor .u32 (a : Int) (b : Int) = ((a ^^^ b : Nat) : Int) := by
  show IntKind.u32.wrap ((BitVec.ofInt 32 (a : Int) ^^^ BitVec.ofInt 32 (b : Int)).toNat : Int) = _
  rw [BitVec.toNat_xor, ofInt32 a ha, ofInt32 b hb]
  have := Nat.xor_lt_two_pow (n := 32) ha hb
  have e : ((a ^^^ b : Nat) : Int) % 4294967296 = ((a ^^^ b : Nat) : Int) := by omega
  exact e
theorem bits_and32 (a : Nat) (ha : a < 4294967296) : bits .and .u32 (a : Int) 1 = ((a % 2 : Nat) : Int) := by
  show IntKind.u32.wrap ((BitVec.ofInt 32 (a : Int) &&& BitVec.ofInt 32 1).toNat : Int) = _
  have e1 : (BitVec.ofInt 32 1).toNat = 2 ^ 1 - 1 := by decide
  rw [BitVec.toNat_and, ofInt32 a ha, e1, Nat.and_two_pow_sub_one_eq_mod]
  have e : ((a % 2 ^ 1 : Nat) : Int) % 4294967296 = ((a % 2 : Nat) : Int) := by omega
  exact e

theorem xor_comm4' (a b c : Nat) : (a ^^^ b) ^^^ c = (a ^^^ c) ^^^ b := by rw [Nat.xor_assoc, Nat.xor_comm b c, Nat.xor_assoc]
theorem crcN_succ (n r : Nat) : crcN (n + 1) r = crcT (crcN n r) := by
  rw [crcN_add n 1]
  rfl
/-- One round of the document's inner loop. -/
theorem crc_round (j x t : Nat) : (crcT t ^^^ (x >>> (j + 1))) = ((t ^^^ (x >>> j)) >>> 1) ^^^ (if (t ^^^ (x >>> j)) % 2 = (x >>> j) % 2 then 0 else 3988292384) := by
  have h := xor_two t (x >>> j)
  have e : ((t ^^^ (x >>> j)) % 2 = (x >>> j) % 2) ↔ ¬ (t % 2 = 1) := by
    rcases Nat.mod_two_eq_zero_or_one t with ha | ha <;> rcases Nat.mod_two_eq_zero_or_one (x >>> j) with hb | hb <;> rcases Nat.mod_two_eq_zero_or_one (t ^^^ (x >>> j)) with hc | hc <;> simp_all
  unfold crcT
  rw [Nat.shiftRight_xor_distrib, ← Nat.shiftRight_add, xor_comm4']
  congr 1
  by_cases h1 : t % 2 = 1
  · rw [if_pos h1, if_neg (by rw [e]; simpa using h1)]
  · rw [if_neg h1, if_pos (by rw [e]; exact h1)]

set_option maxRecDepth 4000 in
set_option maxHeartbeats 800000 in
theorem refMore_any (A : Option Addr) (cp L : Nat) (l : List Nat) (w : World) (K s : Nat) (hs : Src w K A cp l) (hL : l.length = L) (hl : L ≤ 1048600) (hby : ∀ x ∈ l, x < 256) (hsum : s < 4294967296) :
    Calls Tryd.prog 14 #[.int .u32 (s : Int), .slice A L cp] w fun e w' => e = .returned (.int .u32 ((crc (s ^^^ 4294967295) l ^^^ 4294967295 : Nat) : Int)) ∧ w' = w := by
  have g0 : bits .xor .u32 (s : Int) 4294967295 = ((s ^^^ 4294967295 : Nat) : Int) := bits_xor32 s 4294967295 hsum (by omega)
  have hR := Nat.xor_lt_two_pow (n := 32) hsum (show 4294967295 < 2 ^ 32 by omega)
  obtain ⟨R, hRR⟩ : ∃ R, R = s ^^^ 4294967295 := ⟨_, rfl⟩
  rw [← hRR] at g0 hR ⊢
  have hl0 := hs.le
  rw [hL] at hl0
  have hget : Hid (∀ k, k < L → ∃ ad x, A = some ad ∧ l[k]? = some x ∧ x < 256 ∧ w.cell? (ad.add k) = some (.int .u8 (x : Int))) := Lib.hid fun k hk => by
    have hx : l[k]? = some l[k] := by simp
    rcases A with _ | ad
    · have := hs.nil rfl
      omega
    · exact ⟨ad, l[k], rfl, hx, hby _ (List.getElem_mem _), (hs.at_ ad rfl).2 k _ hx⟩
  have hlt : Hid (∀ k, crc R (l.take k) < 4294967296) := Lib.hid fun k => crc_lt _ _ hR fun x hx => hby x (List.mem_of_mem_take hx)
  replace hs := Lib.hid hs
  replace hby := Lib.hid hby
  replace hRR := Lib.hid hRR
  replace hL := Lib.hid hL
  go_enter Tryd.func14, Tryd.ntmps14
  go_wp2_with fail
  go_loop [5, 6] (fun r i => ∃ k : Nat, k ≤ L ∧ i = .int .i64 (k : Int) ∧ r = .int .u32 ((crc R (l.take k) : Nat) : Int)) (fun _ i => L - (intOf i).toNat)
  case atStart => exact ⟨0, Nat.zero_le _, rfl, rfl⟩
  case round =>
    obtain ⟨k, hk, rfl, rfl⟩ := hrel
    have hr := hlt.out k
    obtain ⟨r, hrr⟩ : ∃ r, r = crc R (l.take k) := ⟨_, rfl⟩
    rw [← hrr] at hr ⊢
    by_cases hkl : k < L
    · obtain ⟨ad, x, rfl, hx, hx2, hc⟩ := hget.out k hkl
      have hnx : Hid (crc R (l.take (k + 1)) = crcN 8 (r ^^^ x)) := Lib.hid (by
        have hkl' : k < l.length := by rw [hL.out]; exact hkl
        rw [List.take_succ_eq_append_getElem hkl', crc_append, ← hrr, crc_cons, crc_nil]
        have : l[k] = x := by
          have h := hx
          rw [List.getElem?_eq_getElem hkl'] at h
          injection h
        rw [this])
      have hrx := Nat.xor_lt_two_pow (n := 32) hr (show x < 2 ^ 32 by omega)
      have i0 : (0 : Int) ≤ (k : Int) := by omega
      have i1 : (k : Int) < (L : Int) := by omega
      replace hrr := Lib.hid hrr
      replace hx := Lib.hid hx
      go_wp2_with fail
      go_loop [5, 7] (fun q i => ∃ j : Nat, j ≤ 8 ∧ i = .int .i64 (j : Int) ∧ q = .int .u32 ((crcN j (r ^^^ x) ^^^ (x >>> j) : Nat) : Int)) (fun _ i => 8 - (intOf i).toNat)
      case atStart => exact ⟨0, Nat.zero_le _, rfl, by rw [show crcN 0 (r ^^^ x) ^^^ (x >>> 0) = r from by rw [Nat.shiftRight_zero, crcN, Nat.xor_assoc, Nat.xor_self, Nat.xor_zero]]⟩
      case round =>
        obtain ⟨j, hj, rfl, rfl⟩ := hrel
        by_cases hj8 : j < 8
        · have hj0 : (0 : Int) ≤ (j : Int) := by omega
          have hj1 : (j : Int) < 8 := by omega
          have hq := Nat.xor_lt_two_pow (n := 32) (crcN_lt j _ hrx) (show x >>> j < 2 ^ 32 by rw [Nat.shiftRight_eq_div_pow]; have := Nat.div_le_self x (2 ^ j); omega)
          have hst := crc_round j x (crcN j (r ^^^ x))
          rw [← crcN_succ] at hst
          have hxj : ((x : Int) / 2 ^ j) = ((x >>> j : Nat) : Int) := by
            rw [Nat.shiftRight_eq_div_pow]
            simp
          have hxlt : x >>> j < 4294967296 := by rw [Nat.shiftRight_eq_div_pow]; have := Nat.div_le_self x (2 ^ j); omega
          have fB : bits .and .u32 ((x : Int) / 2 ^ j) 1 = (((x >>> j) % 2 : Nat) : Int) := by rw [hxj]; exact bits_and32 _ hxlt
          clear hxj
          obtain ⟨y, hy⟩ : ∃ y, y = x >>> j := ⟨_, rfl⟩
          obtain ⟨q, hq0⟩ : ∃ q, q = crcN j (r ^^^ x) ^^^ (x >>> j) := ⟨_, rfl⟩
          obtain ⟨q', hq1⟩ : ∃ q', q' = crcN (j + 1) (r ^^^ x) ^^^ (x >>> (j + 1)) := ⟨_, rfl⟩
          rw [← hq0] at hq hst ⊢
          rw [← hq1] at hst
          rw [← hy] at hst fB
          have fA := bits_and32 q hq
          have f2 : @HDiv.hDiv Int Int Int _ (q : Int) (2 : Int) = Int.ofNat (q >>> 1) := by rw [Nat.shiftRight_eq_div_pow]; simp
          have hq2 : q >>> 1 < 4294967296 := by rw [Nat.shiftRight_eq_div_pow]; omega
          replace hq0 := Lib.hid hq0
          replace hq1 := Lib.hid hq1
          replace hy := Lib.hid hy
          by_cases ht : q % 2 = y % 2
          · rw [if_pos ht, Nat.xor_zero] at hst
            have fT : (bits .and .u32 (q : Int) 1 != bits .and .u32 ((x : Int) / 2 ^ j) 1) = false := by rw [fA, fB, ht]; simp
            have fX : ((q : Int) / 2) = (q' : Int) := by rw [hst]; exact f2
            clear fA fB f2 hst
            go_wp2_with fail
            go_round
            case rel => exact ⟨j + 1, by omega, by go_num, by rw [← hq1.out]⟩
            case measure => simp [intOf]; omega
          · rw [if_neg ht] at hst
            have fT : (bits .and .u32 (q : Int) 1 != bits .and .u32 ((x : Int) / 2 ^ j) 1) = true := by rw [fA, fB]; simp; omega
            have fX : bits .xor .u32 ((q : Int) / 2) 3988292384 = (q' : Int) := by
              rw [f2, hst]
              exact bits_xor32 (q >>> 1) 3988292384 hq2 (by omega)
            clear fA fB f2 hst
            go_wp2_with fail
            go_round
            case rel => exact ⟨j + 1, by omega, by go_num, by rw [← hq1.out]⟩
            case measure => simp [intOf]; omega
        · have hj9 : j = 8 := by omega
          subst hj9
          have hq9 : crcN 8 (r ^^^ x) ^^^ (x >>> 8) = crc R (l.take (k + 1)) := by
            rw [hnx.out, Nat.shiftRight_eq_div_pow, Nat.div_eq_of_lt (by omega), Nat.xor_zero]
          rw [hq9]
          clear hq9
          go_wp2_with fail
          go_round
          case rel => exact ⟨k + 1, by omega, by go_num, rfl⟩
          case measure => simp [intOf]; omega
    · have hkk : k = L := by omega
      have hfin : r = crc R l := by
        rw [hrr, List.take_of_length_le (by rw [hL.out, hkk]; exact Nat.le_refl _)]
      have g1 : bits .xor .u32 (r : Int) 4294967295 = ((r ^^^ 4294967295 : Nat) : Int) := bits_xor32 r 4294967295 hr (by omega)
      replace hfin := Lib.hid hfin
      replace hrr := Lib.hid hrr
      go_wp2_with fail
      go_ret
      exact ⟨by rw [hfin.out]; rfl, rfl⟩
end Go.Proofs.YtklpjdcmppohkaaDoor
