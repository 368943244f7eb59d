/-
  The program's PutBool and ReadBool.
-/
import Derived.Test.YthdiaghkpolonaaWPut
import Derived.Test.YthdiaghkpolonaaRefWRead
import Derived.Test.YthdiaghkpolonaaRefWPut
import Derived.Test.YthdiaghkpolonaaStr
namespace Go.Proofs.Ythdiaghkpolonaa
open Go.RowKit Go.Lib

theorem w_putBool (x : Bool) (w : World) : Calls Try.prog 9 #[.bool x] w fun e w' => ∃ A' c', e = .returned (.slice A' 1 c') ∧ Src w' w'.heap.size A' c' [if x then 255 else 0] ∧ Below w.heap.size w w' := by
  cases x
  · go_enter Try.func9, Try.ntmps9
    go_wp2_with fail
    go_ret
    exact ⟨_, _, rfl, (Src.one w 0).more (by simp), (Below.refl _ _).alloc (Nat.le_refl _) _⟩
  · go_enter Try.func9, Try.ntmps9
    go_wp2_with fail
    go_ret
    exact ⟨_, _, rfl, (Src.one w 255).more (by simp), (Below.refl _ _).alloc (Nat.le_refl _) _⟩

/-- Wrong bytes: of another length. -/
theorem w_readBool_len (A : Option Addr) (cp n : Nat) (w : World) (h : n ≠ 1) : Calls Try.prog 6 #[.slice A n cp] w fun e w' => e = .returned (.tuple #[.bool false, .int .i64 11]) ∧ w' = w := by
  have h1 : ((n : Int) == 1) = false := beq_eq_false_iff_ne.2 (by omega)
  go_enter Try.func6, Try.ntmps6
  go_wp2_with fail
  go_ret2
  exact ⟨rfl, rfl⟩
theorem w_readBool_one (b off cp x : Nat) (w : World) (hx : w.cell? ⟨b, off, none⟩ = some (.int .u8 (x : Int))) (h0 : x ≠ 0) (h1 : x ≠ 255) : Calls Try.prog 6 #[.slice (some ⟨b, off, none⟩) 1 cp] w fun e w' => e = .returned (.tuple #[.bool false, .int .i64 11]) ∧ w' = w := by
  have k0 : ((x : Int) == 0) = false := beq_eq_false_iff_ne.2 (by omega)
  have k1 : ((x : Int) == 255) = false := beq_eq_false_iff_ne.2 (by omega)
  have k2 : ((x : Int) != 0) = true := by rw [bne, k0]; rfl
  have k3 : ((x : Int) != 255) = true := by rw [bne, k1]; rfl
  go_enter Try.func6, Try.ntmps6
  go_wp2_with fail
  go_ret2
  exact ⟨rfl, rfl⟩
theorem w_readBool_no (b off cp : Nat) (w : World) (hx : w.cell? ⟨b, off, none⟩ = some (.int .u8 0)) : Calls Try.prog 6 #[.slice (some ⟨b, off, none⟩) 1 cp] w fun e w' => e = .returned (.tuple #[.bool false, .int .i64 0]) ∧ w' = w := by
  go_enter Try.func6, Try.ntmps6
  go_wp2_with fail
  go_ret2
  exact ⟨rfl, rfl⟩
theorem w_readBool_yes (b off cp : Nat) (w : World) (hx : w.cell? ⟨b, off, none⟩ = some (.int .u8 255)) : Calls Try.prog 6 #[.slice (some ⟨b, off, none⟩) 1 cp] w fun e w' => e = .returned (.tuple #[.bool true, .int .i64 0]) ∧ w' = w := by
  go_enter Try.func6, Try.ntmps6
  go_wp2_with fail
  go_ret2
  exact ⟨rfl, rfl⟩
end Go.Proofs.Ythdiaghkpolonaa
