/-
  FoldTells: its walk, over what the program's functions answer.
-/
import Derived.Test.YtjnnjncoejdhaaaDoorFHyp
namespace Go.Proofs.YtjnnjncoejdhaaaDoor
open Go.RowKit

theorem fb_str : txt false true ⟨#[32, 70, 111, 111, 32, 32, 66, 97, 114, 32]⟩ = ⟨#[102, 111, 111, 32, 98, 97, 114]⟩ := by decide +kernel
set_option maxRecDepth 8000 in
theorem tells_long (s t : ByteArray) (z : Int) (w : World) (hs : s.size ≤ 140737488355328) (ht : t.size ≤ 140737488355328) (h : 600 < s.size + t.size) :
    Calls Tryd.prog 3 #[.string s, .string t, .int .i64 z] w fun e w' => e = .returned (.bool true) ∧ Below w.heap.size w w' := by
  have k0 : (600 : Int) < (s.size : Int) + (t.size : Int) := by omega
  go_enter Tryd.func3, Tryd.ntmps3
  go_wp2_with fail
  go_ret
  exact ⟨rfl, Below.refl _ _⟩
set_option maxRecDepth 8000 in
set_option maxHeartbeats 4000000 in
theorem tells_yes (s t : ByteArray) (z : Int) (w0 : World) (H : Hid (FHyp w0)) (h : s.size + t.size ≤ 600) (h1 : -9223372036854775808 ≤ z) (h2 : z ≤ 9223372036854775807) (hr : rightB s = true) (hc : 0 ≤ uCountI (bs s)) :
    Calls Tryd.prog 3 #[.string s, .string t, .int .i64 z] w0 fun e w' => e = .returned (.bool true) ∧ Below w0.heap.size w0 w' := by
  have k0 : ¬ ((600 : Int) < (s.size : Int) + (t.size : Int)) := by omega
  have hs : s.size ≤ 100000 := by omega
  have ht : t.size ≤ 100000 := by omega
  have B0 := Lib.hid (Below.refl w0.heap.size w0)
  have CR : Hid (∀ w', Below w0.heap.size w0 w' → Calls Tryd.prog 12 #[.string s] w' fun e w'' => e = .returned (.bool true) ∧ Below w'.heap.size w' w'') := Lib.hid fun w' hb => by
    have := H.out.right s w' hs hb
    rwa [hr] at this
  have C1 := fun w' hb => H.out.next s w' hs hb
  have C2 := fun w' => refNext_any s w' (by omega)
  have C3 := fun w' hb => H.out.num s w' hs hb
  have C4 := fun w' => refN s w' hs
  have C5 := fun w' hb => H.out.count s w' hs hb
  have C6 := fun w' => refCount_any s w' (by omega)
  have C7 := fun w' hb => H.out.fold s w' hs hb
  have C8 := fun w' => refF s w' hs
  have C9 := fun w' hb => H.out.piece s w' hs hb
  have C10 := fun w' => refP s w' hs
  have C11 := fun w' hb => H.out.exact s w' hs hb
  have C12 := fun w' => refE s w' hs
  have C13 := fun w' hb => H.out.find s t z w' hs ht h1 h2 hb
  have C14 := fun w' => refFind_any s t z w' hs ht h1 h2
  have C15 := fun w' hb => H.out.fold ⟨#[32, 70, 111, 111, 32, 32, 66, 97, 114, 32]⟩ w' (by decide) hb
  rw [fb_str] at C15
  obtain ⟨c, hcc⟩ : ∃ c, c = (uNext (bs s)).1 := ⟨_, rfl⟩
  obtain ⟨n, hnn⟩ : ∃ n, n = (uNext (bs s)).2 := ⟨_, rfl⟩
  rw [← hcc, ← hnn] at C1 C2
  obtain ⟨X1, hX1⟩ : ∃ x, x = numT s := ⟨_, rfl⟩
  obtain ⟨b1, hb1⟩ : ∃ x, x = (uNum (bs s)).2 := ⟨_, rfl⟩
  rw [← hX1, ← hb1] at C3 C4
  obtain ⟨k, hk⟩ : ∃ x, x = uCountI (bs s) := ⟨_, rfl⟩
  rw [← hk] at C5 C6 hc
  obtain ⟨X2, hX2⟩ : ∃ x, x = txt false true s := ⟨_, rfl⟩
  rw [← hX2] at C7 C8
  obtain ⟨X3, hX3⟩ : ∃ x, x = txt true true s := ⟨_, rfl⟩
  rw [← hX3] at C9 C10
  obtain ⟨X4, hX4⟩ : ∃ x, x = txt false false s := ⟨_, rfl⟩
  rw [← hX4] at C11 C12
  obtain ⟨r, hrr⟩ : ∃ x, x = uFind (bs s) (bs t) z.toNat := ⟨_, rfl⟩
  rw [← hrr] at C13 C14
  replace C1 := Lib.hid C1
  replace C2 := Lib.hid C2
  replace C3 := Lib.hid C3
  replace C4 := Lib.hid C4
  replace C5 := Lib.hid C5
  replace C6 := Lib.hid C6
  replace C7 := Lib.hid C7
  replace C8 := Lib.hid C8
  replace C9 := Lib.hid C9
  replace C10 := Lib.hid C10
  replace C11 := Lib.hid C11
  replace C12 := Lib.hid C12
  replace C13 := Lib.hid C13
  replace C14 := Lib.hid C14
  replace C15 := Lib.hid C15
  replace hcc := Lib.hid hcc
  replace hnn := Lib.hid hnn
  replace hX1 := Lib.hid hX1
  replace hb1 := Lib.hid hb1
  replace hk := Lib.hid hk
  replace hX2 := Lib.hid hX2
  replace hX3 := Lib.hid hX3
  replace hX4 := Lib.hid hX4
  replace hrr := Lib.hid hrr
  replace hr := Lib.hid hr
  go_enter Tryd.func3, Tryd.ntmps3
  go_wp2_with fail
  refine (C1.out w0 B0.out).mono ?_
  rintro _ w1 ⟨rfl, hb1⟩
  have B1 := Lib.hid (B0.out.trans (hb1.mono B0.out.size))
  clear hb1
  dsimp only []
  go_wp2_with fail
  refine (C2.out w1).mono ?_
  rintro _ w9 ⟨rfl, h2⟩
  subst w9
  dsimp only []
  go_wp2_with fail
  refine (C3.out w1 B1.out).mono ?_
  rintro _ w2 ⟨rfl, hb2⟩
  have B2 := Lib.hid (B1.out.trans (hb2.mono B1.out.size))
  clear hb2
  dsimp only []
  go_wp2_with fail
  refine (C4.out w2).mono ?_
  rintro _ w9 ⟨rfl, h2⟩
  subst w9
  dsimp only []
  go_wp2_with fail
  refine (C5.out w2 B2.out).mono ?_
  rintro _ w3 ⟨rfl, hb3⟩
  have B3 := Lib.hid (B2.out.trans (hb3.mono B2.out.size))
  clear hb3
  dsimp only []
  go_wp2_with fail
  refine (C6.out w3).mono ?_
  rintro _ w9 ⟨rfl, h2⟩
  subst w9
  dsimp only []
  go_wp2_with fail
  refine (CR.out w3 B3.out).mono ?_
  rintro _ w4 ⟨rfl, hb4⟩
  have B4 := Lib.hid (B3.out.trans (hb4.mono B3.out.size))
  clear hb4
  dsimp only []
  go_wp2_with fail
  refine (C6.out w4).mono ?_
  rintro _ w9 ⟨rfl, h2⟩
  subst w9
  dsimp only []
  go_wp2_with fail
  refine (C7.out w4 B4.out).mono ?_
  rintro _ w5 ⟨rfl, hb5⟩
  have B5 := Lib.hid (B4.out.trans (hb5.mono B4.out.size))
  clear hb5
  dsimp only []
  go_wp2_with fail
  refine (C8.out w5).mono ?_
  rintro _ w6 ⟨rfl, hb6⟩
  have B6 := Lib.hid (B5.out.trans (hb6.mono B5.out.size))
  clear hb6
  dsimp only []
  go_wp2_with fail
  refine (C9.out w6 B6.out).mono ?_
  rintro _ w7 ⟨rfl, hb7⟩
  have B7 := Lib.hid (B6.out.trans (hb7.mono B6.out.size))
  clear hb7
  dsimp only []
  go_wp2_with fail
  refine (C10.out w7).mono ?_
  rintro _ w8 ⟨rfl, hb8⟩
  have B8 := Lib.hid (B7.out.trans (hb8.mono B7.out.size))
  clear hb8
  dsimp only []
  go_wp2_with fail
  refine (C11.out w8 B8.out).mono ?_
  rintro _ w9 ⟨rfl, hb9⟩
  have B9 := Lib.hid (B8.out.trans (hb9.mono B8.out.size))
  clear hb9
  dsimp only []
  go_wp2_with fail
  refine (C12.out w9).mono ?_
  rintro _ w10 ⟨rfl, hb10⟩
  have B10 := Lib.hid (B9.out.trans (hb10.mono B9.out.size))
  clear hb10
  dsimp only []
  go_wp2_with fail
  refine (C13.out w10 B10.out).mono ?_
  rintro _ w11 ⟨rfl, hb11⟩
  have B11 := Lib.hid (B10.out.trans (hb11.mono B10.out.size))
  clear hb11
  dsimp only []
  go_wp2_with fail
  refine (C14.out w11).mono ?_
  rintro _ w9 ⟨rfl, h2⟩
  subst w9
  dsimp only []
  go_wp2_with fail
  refine (C15.out w11 B11.out).mono ?_
  rintro _ w12 ⟨rfl, hb12⟩
  have B12 := Lib.hid (B11.out.trans (hb12.mono B11.out.size))
  clear hb12
  dsimp only []
  go_wp2_with fail
  go_ret
  exact ⟨rfl, B12.out⟩
set_option maxRecDepth 8000 in
set_option maxHeartbeats 4000000 in
theorem tells_no (s t : ByteArray) (z : Int) (w0 : World) (H : Hid (FHyp w0)) (h : s.size + t.size ≤ 600) (h1 : -9223372036854775808 ≤ z) (h2 : z ≤ 9223372036854775807) (hr : rightB s = false) (hc : uCountI (bs s) = -1) :
    Calls Tryd.prog 3 #[.string s, .string t, .int .i64 z] w0 fun e w' => e = .returned (.bool true) ∧ Below w0.heap.size w0 w' := by
  have k0 : ¬ ((600 : Int) < (s.size : Int) + (t.size : Int)) := by omega
  have hs : s.size ≤ 100000 := by omega
  have ht : t.size ≤ 100000 := by omega
  have B0 := Lib.hid (Below.refl w0.heap.size w0)
  have CR : Hid (∀ w', Below w0.heap.size w0 w' → Calls Tryd.prog 12 #[.string s] w' fun e w'' => e = .returned (.bool false) ∧ Below w'.heap.size w' w'') := Lib.hid fun w' hb => by
    have := H.out.right s w' hs hb
    rwa [hr] at this
  have C1 := fun w' hb => H.out.next s w' hs hb
  have C2 := fun w' => refNext_any s w' (by omega)
  have C3 := fun w' hb => H.out.num s w' hs hb
  have C4 := fun w' => refN s w' hs
  have C5 := fun w' hb => H.out.count s w' hs hb
  have C6 := fun w' => refCount_any s w' (by omega)
  have C7 := fun w' hb => H.out.fold s w' hs hb
  have C8 := fun w' => refF s w' hs
  have C9 := fun w' hb => H.out.piece s w' hs hb
  have C10 := fun w' => refP s w' hs
  have C11 := fun w' hb => H.out.exact s w' hs hb
  have C12 := fun w' => refE s w' hs
  have C13 := fun w' hb => H.out.find s t z w' hs ht h1 h2 hb
  have C14 := fun w' => refFind_any s t z w' hs ht h1 h2
  have C15 := fun w' hb => H.out.fold ⟨#[32, 70, 111, 111, 32, 32, 66, 97, 114, 32]⟩ w' (by decide) hb
  rw [fb_str] at C15
  obtain ⟨c, hcc⟩ : ∃ c, c = (uNext (bs s)).1 := ⟨_, rfl⟩
  obtain ⟨n, hnn⟩ : ∃ n, n = (uNext (bs s)).2 := ⟨_, rfl⟩
  rw [← hcc, ← hnn] at C1 C2
  obtain ⟨X1, hX1⟩ : ∃ x, x = numT s := ⟨_, rfl⟩
  obtain ⟨b1, hb1⟩ : ∃ x, x = (uNum (bs s)).2 := ⟨_, rfl⟩
  rw [← hX1, ← hb1] at C3 C4
  obtain ⟨k, hk⟩ : ∃ x, x = uCountI (bs s) := ⟨_, rfl⟩
  rw [← hk] at C5 C6 hc
  obtain ⟨X2, hX2⟩ : ∃ x, x = txt false true s := ⟨_, rfl⟩
  rw [← hX2] at C7 C8
  obtain ⟨X3, hX3⟩ : ∃ x, x = txt true true s := ⟨_, rfl⟩
  rw [← hX3] at C9 C10
  obtain ⟨X4, hX4⟩ : ∃ x, x = txt false false s := ⟨_, rfl⟩
  rw [← hX4] at C11 C12
  obtain ⟨r, hrr⟩ : ∃ x, x = uFind (bs s) (bs t) z.toNat := ⟨_, rfl⟩
  rw [← hrr] at C13 C14
  replace C1 := Lib.hid C1
  replace C2 := Lib.hid C2
  replace C3 := Lib.hid C3
  replace C4 := Lib.hid C4
  replace C5 := Lib.hid C5
  replace C6 := Lib.hid C6
  replace C7 := Lib.hid C7
  replace C8 := Lib.hid C8
  replace C9 := Lib.hid C9
  replace C10 := Lib.hid C10
  replace C11 := Lib.hid C11
  replace C12 := Lib.hid C12
  replace C13 := Lib.hid C13
  replace C14 := Lib.hid C14
  replace C15 := Lib.hid C15
  replace hcc := Lib.hid hcc
  replace hnn := Lib.hid hnn
  replace hX1 := Lib.hid hX1
  replace hb1 := Lib.hid hb1
  replace hk := Lib.hid hk
  replace hX2 := Lib.hid hX2
  replace hX3 := Lib.hid hX3
  replace hX4 := Lib.hid hX4
  replace hrr := Lib.hid hrr
  replace hr := Lib.hid hr
  go_enter Tryd.func3, Tryd.ntmps3
  go_wp2_with fail
  refine (C1.out w0 B0.out).mono ?_
  rintro _ w1 ⟨rfl, hb1⟩
  have B1 := Lib.hid (B0.out.trans (hb1.mono B0.out.size))
  clear hb1
  dsimp only []
  go_wp2_with fail
  refine (C2.out w1).mono ?_
  rintro _ w9 ⟨rfl, h2⟩
  subst w9
  dsimp only []
  go_wp2_with fail
  refine (C3.out w1 B1.out).mono ?_
  rintro _ w2 ⟨rfl, hb2⟩
  have B2 := Lib.hid (B1.out.trans (hb2.mono B1.out.size))
  clear hb2
  dsimp only []
  go_wp2_with fail
  refine (C4.out w2).mono ?_
  rintro _ w9 ⟨rfl, h2⟩
  subst w9
  dsimp only []
  go_wp2_with fail
  refine (C5.out w2 B2.out).mono ?_
  rintro _ w3 ⟨rfl, hb3⟩
  have B3 := Lib.hid (B2.out.trans (hb3.mono B2.out.size))
  clear hb3
  dsimp only []
  go_wp2_with fail
  refine (C6.out w3).mono ?_
  rintro _ w9 ⟨rfl, h2⟩
  subst w9
  dsimp only []
  go_wp2_with fail
  refine (CR.out w3 B3.out).mono ?_
  rintro _ w4 ⟨rfl, hb4⟩
  have B4 := Lib.hid (B3.out.trans (hb4.mono B3.out.size))
  clear hb4
  dsimp only []
  go_wp2_with fail
  refine (C6.out w4).mono ?_
  rintro _ w9 ⟨rfl, h2⟩
  subst w9
  dsimp only []
  go_wp2_with fail
  refine (C7.out w4 B4.out).mono ?_
  rintro _ w5 ⟨rfl, hb5⟩
  have B5 := Lib.hid (B4.out.trans (hb5.mono B4.out.size))
  clear hb5
  dsimp only []
  go_wp2_with fail
  refine (C8.out w5).mono ?_
  rintro _ w6 ⟨rfl, hb6⟩
  have B6 := Lib.hid (B5.out.trans (hb6.mono B5.out.size))
  clear hb6
  dsimp only []
  go_wp2_with fail
  refine (C9.out w6 B6.out).mono ?_
  rintro _ w7 ⟨rfl, hb7⟩
  have B7 := Lib.hid (B6.out.trans (hb7.mono B6.out.size))
  clear hb7
  dsimp only []
  go_wp2_with fail
  refine (C10.out w7).mono ?_
  rintro _ w8 ⟨rfl, hb8⟩
  have B8 := Lib.hid (B7.out.trans (hb8.mono B7.out.size))
  clear hb8
  dsimp only []
  go_wp2_with fail
  refine (C11.out w8 B8.out).mono ?_
  rintro _ w9 ⟨rfl, hb9⟩
  have B9 := Lib.hid (B8.out.trans (hb9.mono B8.out.size))
  clear hb9
  dsimp only []
  go_wp2_with fail
  refine (C12.out w9).mono ?_
  rintro _ w10 ⟨rfl, hb10⟩
  have B10 := Lib.hid (B9.out.trans (hb10.mono B9.out.size))
  clear hb10
  dsimp only []
  go_wp2_with fail
  refine (C13.out w10 B10.out).mono ?_
  rintro _ w11 ⟨rfl, hb11⟩
  have B11 := Lib.hid (B10.out.trans (hb11.mono B10.out.size))
  clear hb11
  dsimp only []
  go_wp2_with fail
  refine (C14.out w11).mono ?_
  rintro _ w9 ⟨rfl, h2⟩
  subst w9
  dsimp only []
  go_wp2_with fail
  refine (C15.out w11 B11.out).mono ?_
  rintro _ w12 ⟨rfl, hb12⟩
  have B12 := Lib.hid (B11.out.trans (hb12.mono B11.out.size))
  clear hb12
  dsimp only []
  go_wp2_with fail
  go_ret
  exact ⟨rfl, B12.out⟩
theorem tells_walk (s t : ByteArray) (z : Int) (w : World) (H : FHyp w) (hs : s.size ≤ 140737488355328) (ht : t.size ≤ 140737488355328) (h1 : -9223372036854775808 ≤ z) (h2 : z ≤ 9223372036854775807) :
    Calls Tryd.prog 3 #[.string s, .string t, .int .i64 z] w fun e w' => e = .returned (.bool true) ∧ Below w.heap.size w w' := by
  by_cases h : s.size + t.size ≤ 600
  · rcases right_count s with ⟨hr, hc⟩ | ⟨hr, hc⟩
    · exact tells_yes s t z w (Lib.hid H) h h1 h2 hr hc
    · exact tells_no s t z w (Lib.hid H) h h1 h2 hr hc
  · exact tells_long s t z w hs ht (by omega)
end Go.Proofs.YtjnnjncoejdhaaaDoor
