/-
  More words for slices of bytes: a readable slice's cells, a literal of one byte, what an allocation leaves; two operations on bits.
-/
import Derived.Test.YtcbiedonmibfaaaGreatDoorWA
import Derived.Test.YtcbiedonmibfaaaGreatDoorNum
namespace Go.Proofs.YtcbiedonmibfaaaGreatDoor
open Go.RowKit
theorem Src.plain {w : World} {K : Nat} {A : Option Addr} {c : Nat} {l : List Nat} (h : Src w K A c l) (h0 : 0 < l.length) :
 ∃ b off, A = some ⟨b, off, none⟩ ∧ b < K ∧ ∀ (j : Nat) (hj : j < l.length), w.cell? ⟨b, off + j, none⟩ = some (.int .u8 ((l[j] : Nat) : Int)) := by
 rcases A with _ | ⟨b, off, spot⟩
 · have := h.nil rfl
   have := h.le
   omega
 · obtain ⟨hb, hc⟩ := h.at_ _ rfl
   have hc0 := hc 0 l[0] (by simp)
   have hs : spot = none := by simpa [Addr.add] using World.cell?_spot hc0
   subst hs
   refine ⟨b, off, rfl, hb h0, fun j hj => ?_⟩
   have hadd : (⟨b, off, none⟩ : Addr).add j = ⟨b, off + j, none⟩ := by unfold Addr.add; split <;> simp_all
   rw [← hadd]
   exact hc j l[j] (List.getElem?_eq_getElem hj)
theorem andNot128 (c : Nat) (hc : c < 256) : bits .andNot .u8 (c : Int) 128 = ((c % 128 : Nat) : Int) := by
 rw [show (128 : Int) = ((128 : Nat) : Int) from rfl, u8_andNot_nat c 128 hc (by decide), show 255 - 128 = 2 ^ 7 - 1 from rfl, Nat.and_two_pow_sub_one_eq_mod]
theorem or_i64 (a b k : Nat) (h1 : a % 2 ^ k = 0) (h2 : b < 2 ^ k) (h3 : a + b < 9223372036854775808) : bits .or .i64 (a : Int) (b : Int) = ((a + b : Nat) : Int) := by
 have hpow : ∀ x : Nat, x < 9223372036854775808 → (BitVec.ofInt 64 (x : Int)).toNat = x := by
  intro x hx
  rw [BitVec.ofInt_natCast, BitVec.toNat_ofNat, Nat.mod_eq_of_lt (by omega)]
 show IntKind.i64.wrap ((BitVec.ofInt 64 _ ||| BitVec.ofInt 64 _).toNat : Int) = _
 rw [BitVec.toNat_or, hpow a (by omega), hpow b (by omega), nat_join k a b h1 h2]
 exact IntWalk.i64_in _ (by omega)
end Go.Proofs.YtcbiedonmibfaaaGreatDoor
