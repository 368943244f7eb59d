/-
  More words for slices of bytes: a readable slice's cells, a literal of one byte, what an allocation leaves; two operations on bits.
-/
import Derived.Test.YtkffgdndglfcfaaGreatDoorAppend
import Derived.Test.YtkffgdndglfcfaaGreatDoorNum
namespace Go.Proofs.YtkffgdndglfcfaaGreatDoor
open Go.RowKit

theorem Src.plain {w : World} {K : Nat} {A : Option Addr} {c : Nat} {l : List Nat} (h : Src w K A c l) (h0 : 0 < l.length) :
    ∃ b off, A = some ⟨b, off, none⟩ ∧ b < K ∧ ∀ (j : Nat) (hj : j < l.length), w.cell? ⟨b, off + j, none⟩ = some (.int .u8 ((l[j] : Nat) : Int)) := by
  rcases A with _ | ⟨b, off, spot⟩
  · have := h.nil rfl
    have := h.le
    omega
  · obtain ⟨hb, hc⟩ := h.at_ _ rfl
    have hc0 := hc 0 l[0] (by simp)
    have hs : spot = none := by simpa [Addr.add] using World.cell?_spot hc0
    subst hs
    refine ⟨b, off, rfl, hb h0, fun j hj => ?_⟩
    have hadd : (⟨b, off, none⟩ : Addr).add j = ⟨b, off + j, none⟩ := by unfold Addr.add; split <;> simp_all
    rw [← hadd]
    exact hc j l[j] (List.getElem?_eq_getElem hj)

theorem andNot128 (c : Nat) (hc : c < 256) : bits .andNot .u8 (c : Int) 128 = ((c % 128 : Nat) : Int) := by
  rw [show (128 : Int) = ((128 : Nat) : Int) from rfl, u8_andNot_nat c 128 hc (by decide), show 255 - 128 = 2 ^ 7 - 1 from rfl, Nat.and_two_pow_sub_one_eq_mod]
theorem or_i64 (a b k : Nat) (h1 : a % 2 ^ k = 0) (h2 : b < 2 ^ k) (h3 : a + b < 9223372036854775808) : bits .or .i64 (a : Int) (b : Int) = ((a + b : Nat) : Int) := by
  have hpow : ∀ x : Nat, x < 9223372036854775808 → (BitVec.ofInt 64 (x : Int)).toNat = x := by
    intro x hx
    rw [BitVec.ofInt_natCast, BitVec.toNat_ofNat, Nat.mod_eq_of_lt (by omega)]
  show IntKind.i64.wrap ((BitVec.ofInt 64 _ ||| BitVec.ofInt 64 _).toNat : Int) = _
  rw [BitVec.toNat_or, hpow a (by omega), hpow b (by omega), nat_join k a b h1 h2]
  exact IntWalk.i64_in _ (by omega)

/-- A literal of one byte is the call's own. -/
theorem Own.one (w : World) (base x : Nat) (hb : base ≤ w.heap.size) : Own (w.alloc (.cells #[.int .u8 (x : Int)] 5)) base (.slice (some ⟨w.heap.size, 0, none⟩) 1 1) [x] :=
  ⟨rfl, .inr ⟨w.heap.size, 1, #[.int .u8 (x : Int)], rfl, hb, heap_alloc_new w _, Nat.le_refl _, by simp [maxLen], rfl, rfl⟩⟩
theorem Src.oneI (w : World) (x : Nat) (z : Int) (hz : z = (x : Int)) : Src (w.alloc (.cells #[.int .u8 z] 5)) (w.heap.size + 1) (some ⟨w.heap.size, 0, none⟩) 1 [x] := by
  subst hz
  exact Src.one w x
theorem Own.oneI (w : World) (base x : Nat) (z : Int) (hz : z = (x : Int)) (hb : base ≤ w.heap.size) : Own (w.alloc (.cells #[.int .u8 z] 5)) base (.slice (some ⟨w.heap.size, 0, none⟩) 1 1) [x] := by
  subst hz
  exact Own.one w base x hb
theorem Own.alloc {w : World} {base : Nat} {v : Value} {l : List Nat} (h : Own w base v l) (o : Obj) : Own (w.alloc o) base v l := World.ownsRow.alloc h o
theorem Src.alloc {w : World} {K : Nat} {A : Option Addr} {c : Nat} {l : List Nat} (h : Src w K A c l) (hK : K ≤ w.heap.size) (o : Obj) : Src (w.alloc o) K A c l := h.keep fun _ hp => World.cell?_alloc_lt _ _ _ (Nat.lt_of_lt_of_le hp hK)
end Go.Proofs.YtkffgdndglfcfaaGreatDoor
