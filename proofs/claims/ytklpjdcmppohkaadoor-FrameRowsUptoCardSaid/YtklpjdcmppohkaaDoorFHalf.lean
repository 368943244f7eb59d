/-
  The table that the program keeps, and its addHalf.
-/
import Derived.Test.YtklpjdcmppohkaaDoorFrm
import Derived.Lib.LaidTab
namespace Go.Proofs.YtklpjdcmppohkaaDoor
open Go.RowKit

def effT : List Int := [0, 498536548, 997073096, 651767980, 1994146192, 1802195444, 1303535960, 1342533948, 3988292384, 4027552580, 3604390888, 3412177804, 2607071920, 2262029012, 2685067896, 3183342108]
def Tab (w : World) : Prop := Lib.TabIs Tryd.prog w "peerage/frame.effects" .u32 effT
theorem Tab.below {w w' : World} (h : Tab w) {K : Nat} (hb : Below K w w') (hK : w.heap.size ≤ K) : Tab w' := by
  unfold Tab Lib.TabIs World.var? at *
  rw [Option.bind_eq_some_iff] at *
  obtain ⟨g, hg, h1⟩ := h
  refine ⟨g, hg, ?_⟩
  have hlt : g < w.heap.size := by
    rcases Nat.lt_or_ge g w.heap.size with h2 | h2
    · exact h2
    · rw [Array.getElem?_eq_none h2] at h1
      cases h1
  rw [hb.block g (Nat.lt_of_lt_of_le hlt hK)]
  exact h1
theorem effT_crc : ∀ i, i < 16 → effT.getD i 0 = ((crcN 4 i : Nat) : Int) := by decide +kernel
theorem Tab.cell {w : World} (h : Tab w) (i : Nat) (hi : i < 16) : w.cell? ⟨0, i, none⟩ = some (.int .u32 ((crcN 4 i : Nat) : Int)) := by
  rw [← effT_crc i hi]
  exact Lib.TabIs.cell (name := "peerage/frame.effects") h (by kernel_rfl) i hi
/-- Half a byte goes in. -/
theorem crc_half (r c : Nat) : crcN 4 (r ^^^ c % 16) = (r / 16) ^^^ crcN 4 ((r ^^^ c) % 16) := by
  have h : r ^^^ c % 16 = ((r / 16) <<< 4) ^^^ ((r ^^^ c) % 16) := by
    refine Nat.eq_of_testBit_eq fun i => ?_
    rw [Nat.testBit_xor, Nat.testBit_xor, Nat.testBit_shiftLeft, show (16 : Nat) = 2 ^ 4 from rfl, Nat.testBit_mod_two_pow, Nat.testBit_mod_two_pow, Nat.testBit_div_two_pow, Nat.testBit_xor]
    by_cases h : i < 4
    · simp [h, Nat.not_le.2 h]
    · have h4 : 4 ≤ i := by omega
      have e2 : i - 4 + 4 = i := by omega
      simp [h, h4, e2]
  rw [h, crcN_xor, crcN_shl]
/-- Both halves of a byte. -/
theorem crc_byte (r c : Nat) (hc : c < 256) : crcN 8 (r ^^^ c) = crcN 4 (crcN 4 (r ^^^ c % 16) ^^^ (c / 16) % 16) := by
  have h : c = (c % 16) ^^^ ((c / 16) <<< 4) := by
    refine Nat.eq_of_testBit_eq fun i => ?_
    rw [Nat.testBit_xor, Nat.testBit_shiftLeft, show (16 : Nat) = 2 ^ 4 from rfl, Nat.testBit_mod_two_pow, Nat.testBit_div_two_pow]
    by_cases h : i < 4
    · simp [h, Nat.not_le.2 h]
    · have h4 : 4 ≤ i := by omega
      have e2 : i - 4 + 4 = i := by omega
      simp [h, h4, e2]
  have e : r ^^^ c = (r ^^^ c % 16) ^^^ ((c / 16) <<< 4) := by
    rw [Nat.xor_assoc, ← h]
  rw [e, crcN_add 4 4, crcN_xor 4 (r ^^^ c % 16), crcN_shl, Nat.mod_eq_of_lt (show c / 16 < 16 by omega)]
theorem addHalf_any (r c : Nat) (w : World) (hr : r < 4294967296) (hc : c < 256) (tab : Tab w) :
    Calls Tryd.prog 21 #[.int .u32 (r : Int), .int .u8 (c : Int)] w fun e w' => e = .returned (.int .u32 ((crcN 4 (r ^^^ c % 16) : Nat) : Int)) ∧ w' = w := by
  have hx := Nat.xor_lt_two_pow (n := 32) hr (show c < 2 ^ 32 by omega)
  have e1 : bits .xor .u32 (r : Int) (c : Int) = ((r ^^^ c : Nat) : Int) := bits_xor32 r c hr (by omega)
  have hcell := tab.cell ((r ^^^ c) % 16) (by omega)
  have ht := crcN_lt 4 ((r ^^^ c) % 16) (by omega)
  have e2 : bits .xor .u32 ((r / 16 : Nat) : Int) ((crcN 4 ((r ^^^ c) % 16) : Nat) : Int) = ((crcN 4 (r ^^^ c % 16) : Nat) : Int) := by
    rw [crc_half]
    exact bits_xor32 _ _ (by omega) ht
  obtain ⟨x, hx0⟩ : ∃ x, x = r ^^^ c := ⟨_, rfl⟩
  obtain ⟨t, ht0⟩ : ∃ t, t = crcN 4 (x % 16) := ⟨_, rfl⟩
  obtain ⟨q, hq0⟩ : ∃ q, q = crcN 4 (r ^^^ c % 16) := ⟨_, rfl⟩
  rw [← hx0] at hx e1 hcell ht e2
  rw [← ht0] at hcell ht e2
  rw [← hq0] at e2 ⊢
  have i0 : (0 : Int) ≤ (x : Int) % 16 := by omega
  have i1 : (x : Int) % 16 < 16 := by omega
  have i2 : ((x : Int) % 16).toNat = x % 16 := by omega
  have e2' : bits .xor .u32 ((r : Int) / 16) (t : Int) = (q : Int) := by
    rw [← e2]
    congr 1
  replace hx0 := Lib.hid hx0
  replace ht0 := Lib.hid ht0
  replace hq0 := Lib.hid hq0
  clear e2
  go_enter Tryd.func21, Tryd.ntmps21
  go_wp2_with fail
  go_ret
  exact ⟨rfl, rfl⟩
end Go.Proofs.YtklpjdcmppohkaaDoor
