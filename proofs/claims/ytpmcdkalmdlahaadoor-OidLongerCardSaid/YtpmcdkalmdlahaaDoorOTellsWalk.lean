/-
  OidTells: its walk, over what the program's functions answer.
-/
import Derived.Test.YtpmcdkalmdlahaaDoorOHyp
import Derived.BigGuardPart
import Derived.Deep.QuietTactic
import Derived.BigQuiet
namespace Go.Proofs.YtpmcdkalmdlahaaDoor
open Go.RowKit Go.Lib

theorem one_put : putO [49, 46, 51, 46, 54, 46, 49] = ([43, 6, 1], 0) := by decide +kernel
theorem one_str7 : strB [43, 6, 1] = ⟨#[43, 6, 1]⟩ := by decide +kernel
theorem self_true7 (p : ByteArray) : (p.toList == p.toList) = true := by simp
set_option maxRecDepth 8000 in
theorem tells7_long (s : ByteArray) (A : Option Addr) (c N : Nat) (w : World) (hs : s.size ≤ 140737488355328) (hN : N ≤ 140737488355328) (h : 300 < s.size + N) :
    Calls Tryd.prog 3 #[.string s, .slice A N c] w fun e w' => e = .returned (.bool true) ∧ Below w.heap.size w w' := by
  have k0 : (300 : Int) < (s.size : Int) + (N : Int) := by omega
  go_enter Tryd.func3, Tryd.ntmps3
  go_wp2_with fail
  go_ret
  exact ⟨rfl, Below.refl _ _⟩
set_option maxRecDepth 8000 in
set_option maxHeartbeats 4000000 in
theorem tells7_in (s : ByteArray) (A : Option Addr) (c N : Nat) (l : List Nat) (w0 : World) (H : Hid (OHyp w0)) (HR : Hid (OReadH w0)) (h : s.size + N ≤ 300) (hN : l.length = N) (hsrc : Src w0 w0.heap.size A c l) (hby : ∀ x ∈ l, x < 256) (z : Bool) (X : List Nat) (q : Nat)
    (hz : (arcsO s.data.toList).isSome = z) (hX : putO s.data.toList = (X, q)) (hzq : ((z : Bool) == ((q : Int) == 0)) = true) :
    Calls Tryd.prog 3 #[.string s, .slice A N c] w0 fun e w' => e = .returned (.bool true) ∧ Below w0.heap.size w0 w' := by
  have k0 : ¬ ((300 : Int) < (s.size : Int) + (N : Int)) := by omega
  have HB0 := Lib.hid (Below.refl w0.heap.size w0)
  have C1 := fun w' hb => H.out.put s w' (by omega) hb
  have C2 := fun w' => refPutO s w' (by omega)
  have C3 := fun w' hs hb => HR.out.read A c N l w' hN (by omega) hby hs hb
  have C4 := fun w' hs => refReadO A c N l w' hN (by omega) hs hby
  have C5 := fun w' hb => H.out.put ⟨#[49, 46, 51, 46, 54, 46, 49]⟩ w' (by decide) hb
  have C6 := fun w' hb => H.out.numeric s w' (by omega) hb
  have C7 := fun w' hb => H.out.word s w' (by omega) hb
  have C8 := fun w' => refWord_any s w' (by omega)
  have C9 := fun w' hb => H.out.lower s w' (by omega) hb
  have C10 := fun w' => refLowerO s w' (by omega)
  rw [hX] at C1 C2
  rw [hz] at C6
  dsimp only [] at C1 C2
  have e5 : putO (⟨#[49, 46, 51, 46, 54, 46, 49]⟩ : ByteArray).data.toList = ([43, 6, 1], 0) := one_put
  rw [e5] at C5
  replace C5 : Hid (∀ w', Below w0.heap.size w0 w' → Calls Tryd.prog 8 #[.string ⟨#[49, 46, 51, 46, 54, 46, 49]⟩] w' fun e w'' => ∃ A c, e = .returned (.tuple #[.slice A 3 c, .int .i64 0]) ∧ Src w'' w''.heap.size A c [43, 6, 1] ∧ Below w'.heap.size w' w'') := Lib.hid C5
  obtain ⟨y, hy⟩ : ∃ y, y = baO (rdO l).1 := ⟨_, rfl⟩
  obtain ⟨f, hf⟩ : ∃ f, f = (rdO l).2 := ⟨_, rfl⟩
  rw [← hy, ← hf] at C3 C4
  obtain ⟨b, hb⟩ : ∃ b, b = wordB s.data.toList := ⟨_, rfl⟩
  rw [← hb] at C7 C8
  obtain ⟨lo, hlo⟩ : ∃ lo, lo = baO (lowL s.data.toList) := ⟨_, rfl⟩
  rw [← hlo] at C9 C10
  obtain ⟨n, hn⟩ : ∃ n, n = X.length := ⟨_, rfl⟩
  rw [← hn] at C1 C2
  have e1 := self_true7 (strB X)
  have e2 := self_true7 y
  have e3 := self_true7 lo
  have e4 : ((strB [43, 6, 1]).toList == [43, 6, 1]) = true := by rw [one_str7]; decide +kernel
  replace C1 := Lib.hid C1
  replace C2 := Lib.hid C2
  replace C3 := Lib.hid C3
  replace C4 := Lib.hid C4
  replace C6 := Lib.hid C6
  replace C7 := Lib.hid C7
  replace C8 := Lib.hid C8
  replace C9 := Lib.hid C9
  replace C10 := Lib.hid C10
  replace e5 := Lib.hid e5
  replace hy := Lib.hid hy
  replace hf := Lib.hid hf
  replace hb := Lib.hid hb
  replace hlo := Lib.hid hlo
  replace hn := Lib.hid hn
  replace hX := Lib.hid hX
  replace hz := Lib.hid hz
  replace hN := Lib.hid hN
  replace hby := Lib.hid hby
  have SB := Lib.hid hsrc
  clear hsrc
  go_enter Tryd.func3, Tryd.ntmps3
  go_wp2_with fail
  refine (C1.out w0 HB0.out).mono ?_
  rintro _ w1 ⟨A1, c1, rfl, SX, hb1⟩
  have HB1 := Lib.hid (below_next HB0.out (Nat.le_refl _) hb1)
  replace SB := Lib.hid (SB.out.next hb1)
  replace SX := Lib.hid SX
  clear hb1
  dsimp only []
  go_wp2_with fail
  refine (C2.out w1).mono ?_
  rintro _ w2 ⟨A2, c2, rfl, SY, hb2⟩
  have HB2 := Lib.hid (below_next HB1.out (Nat.le_refl _) hb2)
  replace SB := Lib.hid (SB.out.next hb2)
  replace SX := Lib.hid (SX.out.next hb2)
  replace SY := Lib.hid SY
  clear hb2
  dsimp only []
  go_wp2_with fail
  refine (C3.out w2 SB.out HB2.out).mono ?_
  rintro _ w3 ⟨rfl, hb3⟩
  have HB3 := Lib.hid (below_next HB2.out (Nat.le_refl _) hb3)
  replace SB := Lib.hid (SB.out.next hb3)
  replace SX := Lib.hid (SX.out.next hb3)
  replace SY := Lib.hid (SY.out.next hb3)
  clear hb3
  dsimp only []
  go_wp2_with fail
  refine (C4.out w3 SB.out).mono ?_
  rintro _ w4 ⟨rfl, hb4⟩
  have HB4 := Lib.hid (below_next HB3.out (Nat.le_refl _) hb4)
  replace SB := Lib.hid (SB.out.next hb4)
  replace SX := Lib.hid (SX.out.next hb4)
  replace SY := Lib.hid (SY.out.next hb4)
  clear hb4
  dsimp only []
  go_wp2_with fail
  refine (C5.out w4 HB4.out).mono ?_
  rintro _ w5 ⟨A5, c5, rfl, S1, hb5⟩
  have HB5 := Lib.hid (below_next HB4.out (Nat.le_refl _) hb5)
  replace SB := Lib.hid (SB.out.next hb5)
  replace SX := Lib.hid (SX.out.next hb5)
  replace SY := Lib.hid (SY.out.next hb5)
  replace S1 := Lib.hid S1
  clear hb5
  dsimp only []
  go_wp2_with fail
  refine (C6.out w5 HB5.out).mono ?_
  rintro _ w6 ⟨rfl, hb6⟩
  have HB6 := Lib.hid (below_next HB5.out (Nat.le_refl _) hb6)
  replace SB := Lib.hid (SB.out.next hb6)
  replace SX := Lib.hid (SX.out.next hb6)
  replace SY := Lib.hid (SY.out.next hb6)
  replace S1 := Lib.hid (S1.out.next hb6)
  clear hb6
  dsimp only []
  go_wp2_with fail
  refine (C7.out w6 HB6.out).mono ?_
  rintro _ w7 ⟨rfl, hb7⟩
  have HB7 := Lib.hid (below_next HB6.out (Nat.le_refl _) hb7)
  replace SB := Lib.hid (SB.out.next hb7)
  replace SX := Lib.hid (SX.out.next hb7)
  replace SY := Lib.hid (SY.out.next hb7)
  replace S1 := Lib.hid (S1.out.next hb7)
  clear hb7
  dsimp only []
  go_wp2_with fail
  refine (C8.out w7).mono ?_
  rintro _ w8 ⟨rfl, hb8⟩
  subst w8
  dsimp only []
  go_wp2_with fail
  refine (C9.out w7 HB7.out).mono ?_
  rintro _ w8 ⟨rfl, hb8⟩
  have HB8 := Lib.hid (below_next HB7.out (Nat.le_refl _) hb8)
  replace SB := Lib.hid (SB.out.next hb8)
  replace SX := Lib.hid (SX.out.next hb8)
  replace SY := Lib.hid (SY.out.next hb8)
  replace S1 := Lib.hid (S1.out.next hb8)
  clear hb8
  dsimp only []
  go_wp2_with fail
  refine (C10.out w8).mono ?_
  rintro _ w9 ⟨rfl, hb9⟩
  have HB9 := Lib.hid (below_next HB8.out (Nat.le_refl _) hb9)
  replace SB := Lib.hid (SB.out.next hb9)
  replace SX := Lib.hid (SX.out.next hb9)
  replace SY := Lib.hid (SY.out.next hb9)
  replace S1 := Lib.hid (S1.out.next hb9)
  clear hb9
  dsimp only []
  have v1 : (convert 22 9 (.slice A1 n c1)).run Tryd.prog w9 = .ok (.string (strB X)) w9 := by have := SX.out.conv; rwa [← hn.out] at this
  have v2 : (convert 22 9 (.slice A2 n c2)).run Tryd.prog w9 = .ok (.string (strB X)) w9 := by have := SY.out.conv; rwa [← hn.out] at this
  have v3 : (convert 22 9 (.slice A5 3 c5)).run Tryd.prog w9 = .ok (.string (strB [43, 6, 1])) w9 := S1.out.conv
  go_wp2_with fail
  go_ret
  exact ⟨rfl, HB9.out⟩
theorem put_is (l : List UInt8) : ((arcsO l).isSome == (((putO l).2 : Int) == 0)) = true := by
  unfold putO
  cases arcsO l <;> rfl
theorem tells7_walk (s : ByteArray) (A : Option Addr) (c N : Nat) (l : List Nat) (w0 : World) (H : OHyp w0) (HR : OReadH w0) (hs : s.size ≤ 140737488355328) (hN3 : N ≤ 140737488355328) (hN : l.length = N) (hsrc : Src w0 w0.heap.size A c l) (hby : ∀ x ∈ l, x < 256) :
    Calls Tryd.prog 3 #[.string s, .slice A N c] w0 fun e w' => e = .returned (.bool true) ∧ Below w0.heap.size w0 w' := by
  by_cases h : s.size + N ≤ 300
  · exact tells7_in s A c N l w0 (Lib.hid H) (Lib.hid HR) h hN hsrc hby _ (putO s.data.toList).1 (putO s.data.toList).2 rfl rfl (put_is _)
  · exact tells7_long s A c N w0 hs hN3 (by omega)
end Go.Proofs.YtpmcdkalmdlahaaDoor
