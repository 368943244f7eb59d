/-
  The program's More and Sum of any bytes.
-/
import Derived.Test.YtklpjdcmppohkaaDoorFHalf
namespace Go.Proofs.YtklpjdcmppohkaaDoor
open Go.RowKit

theorem bits_not32 (s : Nat) (h : s < 4294967296) : bits .xor .u32 IntKind.u32.max (s : Int) = ((s ^^^ 4294967295 : Nat) : Int) := by
  rw [Nat.xor_comm]
  exact bits_xor32 4294967295 s (by omega) h

set_option maxRecDepth 4000 in
set_option maxHeartbeats 800000 in
theorem more_any (A : Option Addr) (cp L : Nat) (l : List Nat) (w : World) (K s : Nat) (hs : Src w K A cp l) (hL : l.length = L) (hl : L ≤ 1048600) (hby : ∀ x ∈ l, x < 256) (hsum : s < 4294967296) (tab : Tab w) :
    Calls Tryd.prog 13 #[.int .u32 (s : Int), .slice A L cp] w fun e w' => e = .returned (.int .u32 ((crc (s ^^^ 4294967295) l ^^^ 4294967295 : Nat) : Int)) ∧ w' = w := by
  have g0 := bits_not32 s hsum
  have hR := Nat.xor_lt_two_pow (n := 32) hsum (show 4294967295 < 2 ^ 32 by omega)
  have CH : Hid (∀ r c : Nat, r < 4294967296 → c < 256 → Calls Tryd.prog 21 #[.int .u32 (r : Int), .int .u8 (c : Int)] w fun e w' => e = .returned (.int .u32 ((crcN 4 (r ^^^ c % 16) : Nat) : Int)) ∧ w' = w) := Lib.hid fun r c h1 h2 => addHalf_any r c w h1 h2 tab
  obtain ⟨R, hRR⟩ : ∃ R, R = s ^^^ 4294967295 := ⟨_, rfl⟩
  rw [← hRR] at g0 hR ⊢
  have hl0 := hs.le
  rw [hL] at hl0
  have hget : Hid (∀ k, k < L → ∃ ad x, A = some ad ∧ l[k]? = some x ∧ x < 256 ∧ w.cell? (ad.add k) = some (.int .u8 (x : Int))) := Lib.hid fun k hk => by
    have hx : l[k]? = some l[k] := by simp
    rcases A with _ | ad
    · have := hs.nil rfl
      omega
    · exact ⟨ad, l[k], rfl, hx, hby _ (List.getElem_mem _), (hs.at_ ad rfl).2 k _ hx⟩
  have hlt : Hid (∀ k, crc R (l.take k) < 4294967296) := Lib.hid fun k => crc_lt _ _ hR fun x hx => hby x (List.mem_of_mem_take hx)
  replace hs := Lib.hid hs
  replace hby := Lib.hid hby
  replace hRR := Lib.hid hRR
  replace hL := Lib.hid hL
  replace tab := Lib.hid tab
  go_enter Tryd.func13, Tryd.ntmps13
  go_wp2_with fail
  go_loop [5, 12] (fun r i => ∃ k : Nat, k ≤ L ∧ i = .int .i64 (k : Int) ∧ r = .int .u32 ((crc R (l.take k) : Nat) : Int)) (fun _ i => L - (intOf i).toNat)
  case atStart => exact ⟨0, Nat.zero_le _, rfl, rfl⟩
  case round =>
    obtain ⟨k, hk, rfl, rfl⟩ := hrel
    have hr := hlt.out k
    obtain ⟨r, hrr⟩ : ∃ r, r = crc R (l.take k) := ⟨_, rfl⟩
    rw [← hrr] at hr ⊢
    by_cases hkl : k < L
    · obtain ⟨ad, x, rfl, hx, hx2, hc⟩ := hget.out k hkl
      have hnx : Hid (crcN 4 (crcN 4 (r ^^^ x % 16) ^^^ (x / 16) % 16) = crc R (l.take (k + 1))) := Lib.hid (by
        have hkl' : k < l.length := by rw [hL.out]; exact hkl
        rw [List.take_succ_eq_append_getElem hkl', crc_append, ← hrr, crc_cons, crc_nil]
        have : l[k] = x := by
          have h := hx
          rw [List.getElem?_eq_getElem hkl'] at h
          injection h
        rw [this, crc_byte r x hx2])
      have hr1 := crcN_lt 4 _ (Nat.xor_lt_two_pow (n := 32) hr (show x % 16 < 2 ^ 32 by omega))
      have i0 : (0 : Int) ≤ (k : Int) := by omega
      have i1 : (k : Int) < (L : Int) := by omega
      have C1 := CH.out r x hr hx2
      obtain ⟨r1, hr1e⟩ : ∃ r1, r1 = crcN 4 (r ^^^ x % 16) := ⟨_, rfl⟩
      rw [← hr1e] at hr1 hnx C1
      have C2 := CH.out r1 (x / 16) hr1 (by omega)
      have hcast : ((x / 16 : Nat) : Int) = (x : Int) / 16 := by omega
      rw [hcast] at C2
      replace C1 := Lib.hid C1
      replace C2 := Lib.hid C2
      replace hrr := Lib.hid hrr
      replace hr1e := Lib.hid hr1e
      replace hx := Lib.hid hx
      replace hcast := Lib.hid hcast
      go_wp2_with fail
      refine C1.out.mono ?_
      rintro _ _ ⟨rfl, rfl⟩
      dsimp only []
      go_wp2_with fail
      refine C2.out.mono ?_
      rintro _ _ ⟨rfl, rfl⟩
      dsimp only []
      go_wp2_with fail
      go_round
      case rel => exact ⟨k + 1, by omega, by go_num, by rw [hnx.out]⟩
      case measure => simp [intOf]; omega
    · have hkk : k = L := by omega
      have hfin : r = crc R l := by
        rw [hrr, List.take_of_length_le (by rw [hL.out, hkk]; exact Nat.le_refl _)]
      have g1 := bits_not32 r hr
      replace hfin := Lib.hid hfin
      replace hrr := Lib.hid hrr
      go_wp2_with fail
      go_ret
      exact ⟨by rw [hfin.out]; rfl, rfl⟩
theorem sum_any (A : Option Addr) (cp L : Nat) (l : List Nat) (w : World) (K : Nat) (hs : Src w K A cp l) (hL : l.length = L) (hl : L ≤ 1048600) (hby : ∀ x ∈ l, x < 256) (tab : Tab w) :
    Calls Tryd.prog 15 #[.slice A L cp] w fun e w' => e = .returned (.int .u32 ((sumN l : Nat) : Int)) ∧ w' = w := by
  have CM := more_any A cp L l w K 0 hs hL hl hby (by omega) tab
  rw [Nat.zero_xor] at CM
  replace CM := Lib.hid CM
  unfold sumN
  go_enter Tryd.func15, Tryd.ntmps15
  go_wp2_with fail
  refine CM.out.mono ?_
  rintro _ _ ⟨rfl, rfl⟩
  dsimp only []
  go_wp2_with fail
  go_ret
  exact ⟨rfl, rfl⟩
end Go.Proofs.YtklpjdcmppohkaaDoor
