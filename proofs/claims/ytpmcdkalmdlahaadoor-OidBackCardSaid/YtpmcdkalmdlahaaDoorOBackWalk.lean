/-
  OidBack: its walk, over what the program's functions answer.
-/
import Derived.Test.YtpmcdkalmdlahaaDoorOHyp
import Derived.BigGuardPart
import Derived.Deep.QuietTactic
import Derived.BigQuiet
namespace Go.Proofs.YtpmcdkalmdlahaaDoor
open Go.RowKit Go.Lib

theorem num_140 : putO [49, 46, 52, 48] = ([], 2) := by decide +kernel
theorem num_240 : (arcsO [50, 46, 52, 48]).isSome = true := by decide +kernel
set_option maxRecDepth 8000 in
theorem back7_long (s t : ByteArray) (w : World) (hs : s.size ≤ 140737488355328) (ht : t.size ≤ 140737488355328) (h : 300 < s.size + t.size) :
    Calls Tryd.prog 5 #[.string s, .string t] w fun e w' => e = .returned (.bool true) ∧ Below w.heap.size w w' := by
  have k0 : (300 : Int) < (s.size : Int) + (t.size : Int) := by omega
  go_enter Tryd.func5, Tryd.ntmps5
  go_wp2_with fail
  go_ret
  exact ⟨rfl, Below.refl _ _⟩
set_option maxRecDepth 8000 in
set_option maxHeartbeats 2000000 in
theorem back7_no_a (s t : ByteArray) (w0 : World) (H : Hid (OHyp w0)) (h : s.size + t.size ≤ 300) (h1 : (arcsO s.data.toList).isSome = false) :
    Calls Tryd.prog 5 #[.string s, .string t] w0 fun e w' => e = .returned (.bool true) ∧ Below w0.heap.size w0 w' := by
  have k0 : ¬ ((300 : Int) < (s.size : Int) + (t.size : Int)) := by omega
  have HB0 := Lib.hid (Below.refl w0.heap.size w0)
  have C1 := fun w' hb => H.out.numeric s w' (by omega) hb
  have C2 := fun w' hb => H.out.numeric t w' (by omega) hb
  rw [h1] at C1
  have C3 : Hid (∀ w', Below w0.heap.size w0 w' → Calls Tryd.prog 8 #[.string ⟨#[49, 46, 52, 48]⟩] w' fun e w'' => ∃ A c, e = .returned (.tuple #[.slice A 0 c, .int .i64 2]) ∧ Src w'' w''.heap.size A c [] ∧ Below w'.heap.size w' w'') := Lib.hid fun w' hb => by
    have := H.out.put ⟨#[49, 46, 52, 48]⟩ w' (by decide) hb
    rw [show putO (⟨#[49, 46, 52, 48]⟩ : ByteArray).data.toList = ([], 2) from num_140] at this
    exact this
  have C4 : Hid (∀ w', Below w0.heap.size w0 w' → Calls Tryd.prog 12 #[.string ⟨#[50, 46, 52, 48]⟩] w' fun e w'' => e = .returned (.bool true) ∧ Below w'.heap.size w' w'') := Lib.hid fun w' hb => by
    have := H.out.numeric ⟨#[50, 46, 52, 48]⟩ w' (by decide) hb
    rw [show (arcsO (⟨#[50, 46, 52, 48]⟩ : ByteArray).data.toList).isSome = true from num_240] at this
    exact this
  replace C1 := Lib.hid C1
  replace C2 := Lib.hid C2
  replace h1 := Lib.hid h1
  go_enter Tryd.func5, Tryd.ntmps5
  go_wp2_with fail
  refine (C1.out w0 HB0.out).mono ?_
  rintro _ w1 ⟨rfl, hb1⟩
  have HB1 := Lib.hid (below_next HB0.out (Nat.le_refl _) hb1)
  clear hb1
  dsimp only []
  go_wp2_with fail
  refine (C3.out w1 HB1.out).mono ?_
  rintro _ w2 ⟨A3, c3, rfl, S3, hb2⟩
  have HB2 := Lib.hid (below_next HB1.out (Nat.le_refl _) hb2)
  replace S3 := Lib.hid S3
  clear hb2
  dsimp only []
  go_wp2_with fail
  refine (C4.out w2 HB2.out).mono ?_
  rintro _ w3 ⟨rfl, hb3⟩
  have HB3 := Lib.hid (below_next HB2.out (Nat.le_refl _) hb3)
  replace S3 := Lib.hid (S3.out.next hb3)
  clear hb3
  dsimp only []
  go_wp2_with fail
  go_ret
  exact ⟨rfl, HB3.out⟩
set_option maxRecDepth 8000 in
set_option maxHeartbeats 2000000 in
theorem back7_no_b (s t : ByteArray) (w0 : World) (H : Hid (OHyp w0)) (h : s.size + t.size ≤ 300) (h1 : (arcsO s.data.toList).isSome = true) (h2 : (arcsO t.data.toList).isSome = false) :
    Calls Tryd.prog 5 #[.string s, .string t] w0 fun e w' => e = .returned (.bool true) ∧ Below w0.heap.size w0 w' := by
  have k0 : ¬ ((300 : Int) < (s.size : Int) + (t.size : Int)) := by omega
  have HB0 := Lib.hid (Below.refl w0.heap.size w0)
  have C1 := fun w' hb => H.out.numeric s w' (by omega) hb
  have C2 := fun w' hb => H.out.numeric t w' (by omega) hb
  rw [h1] at C1
  rw [h2] at C2
  have C3 : Hid (∀ w', Below w0.heap.size w0 w' → Calls Tryd.prog 8 #[.string ⟨#[49, 46, 52, 48]⟩] w' fun e w'' => ∃ A c, e = .returned (.tuple #[.slice A 0 c, .int .i64 2]) ∧ Src w'' w''.heap.size A c [] ∧ Below w'.heap.size w' w'') := Lib.hid fun w' hb => by
    have := H.out.put ⟨#[49, 46, 52, 48]⟩ w' (by decide) hb
    rw [show putO (⟨#[49, 46, 52, 48]⟩ : ByteArray).data.toList = ([], 2) from num_140] at this
    exact this
  have C4 : Hid (∀ w', Below w0.heap.size w0 w' → Calls Tryd.prog 12 #[.string ⟨#[50, 46, 52, 48]⟩] w' fun e w'' => e = .returned (.bool true) ∧ Below w'.heap.size w' w'') := Lib.hid fun w' hb => by
    have := H.out.numeric ⟨#[50, 46, 52, 48]⟩ w' (by decide) hb
    rw [show (arcsO (⟨#[50, 46, 52, 48]⟩ : ByteArray).data.toList).isSome = true from num_240] at this
    exact this
  replace C1 := Lib.hid C1
  replace C2 := Lib.hid C2
  replace h1 := Lib.hid h1
  replace h2 := Lib.hid h2
  go_enter Tryd.func5, Tryd.ntmps5
  go_wp2_with fail
  refine (C1.out w0 HB0.out).mono ?_
  rintro _ w1 ⟨rfl, hb1⟩
  have HB1 := Lib.hid (below_next HB0.out (Nat.le_refl _) hb1)
  clear hb1
  dsimp only []
  go_wp2_with fail
  refine (C2.out w1 HB1.out).mono ?_
  rintro _ w2 ⟨rfl, hb2⟩
  have HB2 := Lib.hid (below_next HB1.out (Nat.le_refl _) hb2)
  clear hb2
  dsimp only []
  go_wp2_with fail
  refine (C3.out w2 HB2.out).mono ?_
  rintro _ w3 ⟨A3, c3, rfl, S3, hb3⟩
  have HB3 := Lib.hid (below_next HB2.out (Nat.le_refl _) hb3)
  replace S3 := Lib.hid S3
  clear hb3
  dsimp only []
  go_wp2_with fail
  refine (C4.out w3 HB3.out).mono ?_
  rintro _ w4 ⟨rfl, hb4⟩
  have HB4 := Lib.hid (below_next HB3.out (Nat.le_refl _) hb4)
  replace S3 := Lib.hid (S3.out.next hb4)
  clear hb4
  dsimp only []
  go_wp2_with fail
  go_ret
  exact ⟨rfl, HB4.out⟩
set_option maxRecDepth 8000 in
set_option maxHeartbeats 4000000 in
theorem back7_yes (s t : ByteArray) (L M : List Nat) (w0 : World) (H : Hid (OHyp w0)) (HR : Hid (OReadH w0)) (h : s.size + t.size ≤ 300) (h1 : arcsO s.data.toList = some L) (h2 : arcsO t.data.toList = some M) :
    Calls Tryd.prog 5 #[.string s, .string t] w0 fun e w' => e = .returned (.bool true) ∧ Below w0.heap.size w0 w' := by
  have k0 : ¬ ((300 : Int) < (s.size : Int) + (t.size : Int)) := by omega
  have HB0 := Lib.hid (Below.refl w0.heap.size w0)
  have C1 := fun w' hb => H.out.numeric s w' (by omega) hb
  have C2 := fun w' hb => H.out.numeric t w' (by omega) hb
  have C3 := fun w' hb => H.out.put s w' (by omega) hb
  have C4 := fun w' hb => H.out.put t w' (by omega) hb
  rw [h1] at C1
  rw [h2] at C2
  rw [putO_some h1] at C3
  rw [putO_some h2] at C4
  have hl : (putA L).length ≤ 1000 := by
    have e := putA_len7 L (valid_arcs h1)
    omega
  have C5 := fun A c w' hs hb => HR.out.read A c (putA L).length (putA L) w' rfl hl (putA_byte L) hs hb
  have hrd : rdO (putA L) = (txA L, 0) := rdO_some (rdX_put (valid_arcs h1))
  rw [hrd, (arcsO_some h1).1] at C5
  have hss : baO s.data.toList = s := rfl
  have C5' : Hid (∀ A c w', Src w' w'.heap.size A c (putA L) → Below w0.heap.size w0 w' → Calls Tryd.prog 10 #[.slice A (putA L).length c] w' fun e w'' => e = .returned (.tuple #[.string s, .int .i64 0]) ∧ Below w'.heap.size w' w'') := Lib.hid C5
  clear C5
  have C3' : Hid (∀ w', Below w0.heap.size w0 w' → Calls Tryd.prog 8 #[.string s] w' fun e w'' => ∃ A c, e = .returned (.tuple #[.slice A (putA L).length c, .int .i64 0]) ∧ Src w'' w''.heap.size A c (putA L) ∧ Below w'.heap.size w' w'') := Lib.hid C3
  have C4' : Hid (∀ w', Below w0.heap.size w0 w' → Calls Tryd.prog 8 #[.string t] w' fun e w'' => ∃ A c, e = .returned (.tuple #[.slice A (putA M).length c, .int .i64 0]) ∧ Src w'' w''.heap.size A c (putA M) ∧ Below w'.heap.size w' w'') := Lib.hid C4
  clear C3 C4
  have hq : ∃ q : Bool, ((strB (putA L)).toList == (strB (putA M)).toList) = q ∧ (s.toList == t.toList) = q := by
    refine ⟨_, rfl, ?_⟩
    rw [Bool.eq_iff_iff, beq_iff_eq, ← beq_toListBytes, strB_beq (putA_byte L) (putA_byte M), ByteArray.toList_eq, ByteArray.toList_eq]
    constructor
    · intro e
      rw [e, h2] at h1
      injection h1 with h1
      rw [h1]
    · intro e
      have e2 := putA_inj (valid_arcs h1).1 (valid_arcs h2).1 e
      rw [← (arcsO_some h1).1, ← (arcsO_some h2).1, e2]
  obtain ⟨q, q1, q2⟩ := hq
  have q3 : (s.toList == s.toList) = true := by simp
  obtain ⟨X, hX⟩ : ∃ X, X = putA L := ⟨_, rfl⟩
  obtain ⟨Y, hY⟩ : ∃ Y, Y = putA M := ⟨_, rfl⟩
  rw [← hX] at C3' C5' q1
  rw [← hY] at C4' q1
  obtain ⟨n, hn⟩ : ∃ n, n = X.length := ⟨_, rfl⟩
  obtain ⟨m, hm⟩ : ∃ m, m = Y.length := ⟨_, rfl⟩
  rw [← hn] at C3' C5'
  rw [← hm] at C4'
  replace C1 : Hid (∀ w', Below w0.heap.size w0 w' → Calls Tryd.prog 12 #[.string s] w' fun e w'' => e = .returned (.bool true) ∧ Below w'.heap.size w' w'') := Lib.hid C1
  replace C2 : Hid (∀ w', Below w0.heap.size w0 w' → Calls Tryd.prog 12 #[.string t] w' fun e w'' => e = .returned (.bool true) ∧ Below w'.heap.size w' w'') := Lib.hid C2
  replace h1 := Lib.hid h1
  replace h2 := Lib.hid h2
  replace hl := Lib.hid hl
  replace hrd := Lib.hid hrd
  replace hX := Lib.hid hX
  replace hY := Lib.hid hY
  replace hn := Lib.hid hn
  replace hm := Lib.hid hm
  clear hss
  go_enter Tryd.func5, Tryd.ntmps5
  go_wp2_with fail
  refine (C1.out w0 HB0.out).mono ?_
  rintro _ w1 ⟨rfl, hb1⟩
  have HB1 := Lib.hid (below_next HB0.out (Nat.le_refl _) hb1)
  clear hb1
  dsimp only []
  go_wp2_with fail
  refine (C2.out w1 HB1.out).mono ?_
  rintro _ w2 ⟨rfl, hb2⟩
  have HB2 := Lib.hid (below_next HB1.out (Nat.le_refl _) hb2)
  clear hb2
  dsimp only []
  go_wp2_with fail
  refine (C3'.out w2 HB2.out).mono ?_
  rintro _ w3 ⟨A3, c3, rfl, SX, hb3⟩
  have HB3 := Lib.hid (below_next HB2.out (Nat.le_refl _) hb3)
  replace SX := Lib.hid SX
  clear hb3
  dsimp only []
  go_wp2_with fail
  refine (C4'.out w3 HB3.out).mono ?_
  rintro _ w4 ⟨A4, c4, rfl, SY, hb4⟩
  have HB4 := Lib.hid (below_next HB3.out (Nat.le_refl _) hb4)
  replace SX := Lib.hid (SX.out.next hb4)
  replace SY := Lib.hid SY
  clear hb4
  dsimp only []
  go_wp2_with fail
  refine (C5'.out A3 c3 w4 SX.out HB4.out).mono ?_
  rintro _ w5 ⟨rfl, hb5⟩
  have HB5 := Lib.hid (below_next HB4.out (Nat.le_refl _) hb5)
  replace SX := Lib.hid (SX.out.next hb5)
  replace SY := Lib.hid (SY.out.next hb5)
  clear hb5
  dsimp only []
  have v1 : (convert 22 9 (.slice A3 n c3)).run Tryd.prog w5 = .ok (.string (strB X)) w5 := by have := SX.out.conv; rwa [← hn.out] at this
  have v2 : (convert 22 9 (.slice A4 m c4)).run Tryd.prog w5 = .ok (.string (strB Y)) w5 := by have := SY.out.conv; rwa [← hm.out] at this
  have q4 : (q == q) = true := by simp
  go_wp2_with fail
  go_ret
  exact ⟨rfl, HB5.out⟩
theorem back7_walk (s t : ByteArray) (w0 : World) (H : OHyp w0) (HR : OReadH w0) (hs : s.size ≤ 140737488355328) (ht : t.size ≤ 140737488355328) :
    Calls Tryd.prog 5 #[.string s, .string t] w0 fun e w' => e = .returned (.bool true) ∧ Below w0.heap.size w0 w' := by
  by_cases h : s.size + t.size ≤ 300
  · rcases h1 : arcsO s.data.toList with _ | L
    · exact back7_no_a s t w0 (Lib.hid H) h (by rw [h1]; rfl)
    · rcases h2 : arcsO t.data.toList with _ | M
      · exact back7_no_b s t w0 (Lib.hid H) h (by rw [h1]; rfl) (by rw [h2]; rfl)
      · exact back7_yes s t L M w0 (Lib.hid H) (Lib.hid HR) h h1 h2
  · exact back7_long s t w0 hs ht (by omega)
end Go.Proofs.YtpmcdkalmdlahaaDoor
