/-
  FoldAgain and FoldJoins: their walks, over what the program's functions answer.
-/
import Derived.Test.YtjnnjncoejdhaaaDoorFHyp
namespace Go.Proofs.YtjnnjncoejdhaaaDoor
open Go.RowKit

theorem right_some {s : ByteArray} (h : rightB s = true) : ∃ cs, uChars (bs s) = some cs := by
  unfold rightB at h
  exact Option.isSome_iff_exists.1 h
theorem right_none {s : ByteArray} (h : rightB s = false) : uChars (bs s) = none := by
  unfold rightB at h
  simpa using h
theorem txt_bad {e g : Bool} {s : ByteArray} (h : rightB s = false) : txt e g s = s := by
  unfold txt
  rw [uText_bad _ _ _ (right_none h), strB_bs]
theorem txt_fold {e g : Bool} {s : ByteArray} (h : rightB s = true) : txt false true (txt e g s) = txt false true s := by
  obtain ⟨cs, hc⟩ := right_some h
  unfold txt
  rw [show bs (strB (uText e g (bs s))) = uText e g (bs s) from bs_txt e g s, uText_fold e g _ cs hc]
theorem txt_right {e g : Bool} {s : ByteArray} (h : rightB s = true) : rightB (txt e g s) = true := by
  obtain ⟨cs, hc⟩ := right_some h
  unfold rightB
  rw [bs_txt, uText_chars e g _ cs hc]
  rfl
theorem txt_ends {s : ByteArray} (h : rightB s = true) : txt false true ((⟨#[32, 9]⟩ ++ s) ++ ⟨#[1, 194, 160]⟩) = txt false true s := by
  obtain ⟨cs, hc⟩ := right_some h
  unfold txt
  rw [bs_append, bs_append]
  exact congrArg strB (uText_ends _ cs hc)
theorem txt_join {s t : ByteArray} (h1 : rightB s = true) (h2 : rightB t = true) : txt true true (txt true true s ++ txt true true t) = txt true true (s ++ t) := by
  obtain ⟨cs, hc⟩ := right_some h1
  obtain ⟨ds, hd⟩ := right_some h2
  unfold txt
  rw [bs_append, bs_append]
  exact congrArg strB (by rw [bs_strB _ (uText_byte _ _ _ (bs_byte s)), bs_strB _ (uText_byte _ _ _ (bs_byte t))]; exact uText_join _ _ cs ds hc hd)
theorem count_join {s t : ByteArray} (h1 : rightB s = true) (h2 : rightB t = true) : uCountI (bs (s ++ t)) = uCountI (bs s) + uCountI (bs t) ∧ 0 ≤ uCountI (bs s) ∧ uCountI (bs s) ≤ s.size ∧ 0 ≤ uCountI (bs t) ∧ uCountI (bs t) ≤ t.size := by
  obtain ⟨cs, hc⟩ := right_some h1
  obtain ⟨ds, hd⟩ := right_some h2
  have e1 := uEncs_len cs
  have e2 := uEncs_len ds
  rw [← (uChars_some hc).2, bs_len] at e1
  rw [← (uChars_some hd).2, bs_len] at e2
  unfold uCountI
  rw [bs_append, uChars_app hc hd, hc, hd]
  simp only [List.length_append]
  omega
theorem a_str : txt false true ⟨#[65]⟩ = ⟨#[97]⟩ := by decide +kernel
theorem ae_str : txt false true ⟨#[195, 132]⟩ = ⟨#[195, 164]⟩ := by decide +kernel
theorem sa_str : txt true true ⟨#[32, 65]⟩ = ⟨#[32, 97]⟩ := by decide +kernel
theorem as_str : txt true true ⟨#[97, 32]⟩ = ⟨#[97, 32]⟩ := by decide +kernel
set_option maxRecDepth 8000 in
set_option maxHeartbeats 4000000 in
theorem again_in_yes (s : ByteArray) (w0 : World) (H : Hid (FHyp w0)) (h : s.size ≤ 600) (hr : rightB s = true) :
    Calls Tryd.prog 4 #[.string s] w0 fun e w' => e = .returned (.bool true) ∧ Below w0.heap.size w0 w' := by
  have k0 : ¬ ((600 : Int) < (s.size : Int)) := by omega
  have hs : s.size ≤ 100000 := by omega
  have B0 := Lib.hid (Below.refl w0.heap.size w0)
  have C1 := fun w' hb => H.out.fold s w' hs hb
  have C2 := fun w' hb => H.out.right s w' hs hb
  rw [hr] at C2
  have C3 := fun w' hb => H.out.fold (txt false true s) w' (Nat.le_trans (txt_size _ _ _) hs) hb
  rw [txt_fold hr] at C3
  obtain ⟨a1, ha1⟩ : ∃ a1, (⟨#[32, 9]⟩ : ByteArray) ++ s = a1 := ⟨_, rfl⟩
  obtain ⟨a2, ha2⟩ : ∃ a2, a1 ++ (⟨#[1, 194, 160]⟩ : ByteArray) = a2 := ⟨_, rfl⟩
  have hz1 : a1.size ≤ 602 := by rw [← ha1, size_app]; show 2 + s.size ≤ 602; omega
  have hz2 : a2.size ≤ 605 := by rw [← ha2, size_app]; show a1.size + 3 ≤ 605; omega
  have C4 := fun w' hb => H.out.fold a2 w' (by omega) hb
  rw [← ha2, ← ha1, txt_ends hr, ha1, ha2] at C4
  have C5 := fun w' hb => H.out.exact s w' hs hb
  have C6 := fun w' hb => H.out.fold (txt false false s) w' (Nat.le_trans (txt_size _ _ _) hs) hb
  rw [txt_fold hr] at C6
  have C7 := fun w' hb => H.out.piece s w' hs hb
  have C8 := fun w' hb => H.out.fold (txt true true s) w' (Nat.le_trans (txt_size _ _ _) hs) hb
  rw [txt_fold hr] at C8
  have C9 := fun w' hb => H.out.right (txt false true s) w' (Nat.le_trans (txt_size _ _ _) hs) hb
  rw [txt_right hr] at C9
  have C10 := fun w' hb => H.out.fold ⟨#[195, 132]⟩ w' (by decide) hb
  rw [ae_str] at C10
  have hle := txt_size false true s
  obtain ⟨X, hX⟩ : ∃ x, x = txt false true s := ⟨_, rfl⟩
  rw [← hX] at C1 C3 C4 C6 C8 C9 hle
  obtain ⟨X2, hX2⟩ : ∃ x, x = txt false false s := ⟨_, rfl⟩
  rw [← hX2] at C5 C6
  obtain ⟨X3, hX3⟩ : ∃ x, x = txt true true s := ⟨_, rfl⟩
  rw [← hX3] at C7 C8
  have hle' : (X.size : Int) ≤ (s.size : Int) := by omega
  replace C1 := Lib.hid C1
  replace C2 := Lib.hid C2
  replace C3 := Lib.hid C3
  replace C4 := Lib.hid C4
  replace C5 := Lib.hid C5
  replace C6 := Lib.hid C6
  replace C7 := Lib.hid C7
  replace C8 := Lib.hid C8
  replace C9 := Lib.hid C9
  replace C10 := Lib.hid C10
  replace hX := Lib.hid hX
  replace hX2 := Lib.hid hX2
  replace hX3 := Lib.hid hX3
  replace hr := Lib.hid hr
  go_enter Tryd.func4, Tryd.ntmps4
  go_wp2_with fail
  refine (C1.out w0 B0.out).mono ?_
  rintro _ w1 ⟨rfl, hb1⟩
  have B1 := Lib.hid (B0.out.trans (hb1.mono B0.out.size))
  clear hb1
  dsimp only []
  go_wp2_with fail
  refine (C2.out w1 B1.out).mono ?_
  rintro _ w2 ⟨rfl, hb2⟩
  have B2 := Lib.hid (B1.out.trans (hb2.mono B1.out.size))
  clear hb2
  dsimp only []
  go_wp2_with fail
  refine (C3.out w2 B2.out).mono ?_
  rintro _ w3 ⟨rfl, hb3⟩
  have B3 := Lib.hid (B2.out.trans (hb3.mono B2.out.size))
  clear hb3
  dsimp only []
  go_wp2_with fail
  refine (C4.out w3 B3.out).mono ?_
  rintro _ w4 ⟨rfl, hb4⟩
  have B4 := Lib.hid (B3.out.trans (hb4.mono B3.out.size))
  clear hb4
  dsimp only []
  go_wp2_with fail
  refine (C5.out w4 B4.out).mono ?_
  rintro _ w5 ⟨rfl, hb5⟩
  have B5 := Lib.hid (B4.out.trans (hb5.mono B4.out.size))
  clear hb5
  dsimp only []
  go_wp2_with fail
  refine (C6.out w5 B5.out).mono ?_
  rintro _ w6 ⟨rfl, hb6⟩
  have B6 := Lib.hid (B5.out.trans (hb6.mono B5.out.size))
  clear hb6
  dsimp only []
  go_wp2_with fail
  refine (C7.out w6 B6.out).mono ?_
  rintro _ w7 ⟨rfl, hb7⟩
  have B7 := Lib.hid (B6.out.trans (hb7.mono B6.out.size))
  clear hb7
  dsimp only []
  go_wp2_with fail
  refine (C8.out w7 B7.out).mono ?_
  rintro _ w8 ⟨rfl, hb8⟩
  have B8 := Lib.hid (B7.out.trans (hb8.mono B7.out.size))
  clear hb8
  dsimp only []
  go_wp2_with fail
  refine (C9.out w8 B8.out).mono ?_
  rintro _ w9 ⟨rfl, hb9⟩
  have B9 := Lib.hid (B8.out.trans (hb9.mono B8.out.size))
  clear hb9
  dsimp only []
  go_wp2_with fail
  refine (C10.out w9 B9.out).mono ?_
  rintro _ w10 ⟨rfl, hb10⟩
  have B10 := Lib.hid (B9.out.trans (hb10.mono B9.out.size))
  clear hb10
  dsimp only []
  go_wp2_with fail
  go_ret
  exact ⟨rfl, B10.out⟩
set_option maxRecDepth 8000 in
set_option maxHeartbeats 4000000 in
theorem again_in_no (s : ByteArray) (w0 : World) (H : Hid (FHyp w0)) (h : s.size ≤ 600) (hr : rightB s = false) :
    Calls Tryd.prog 4 #[.string s] w0 fun e w' => e = .returned (.bool true) ∧ Below w0.heap.size w0 w' := by
  have k0 : ¬ ((600 : Int) < (s.size : Int)) := by omega
  have hs : s.size ≤ 100000 := by omega
  have B0 := Lib.hid (Below.refl w0.heap.size w0)
  have C1 := fun w' hb => H.out.fold s w' hs hb
  have C2 := fun w' hb => H.out.right s w' hs hb
  rw [hr] at C2
  have C3 := fun w' hb => H.out.count s w' hs hb
  have hc : uCountI (bs s) = -1 := by
    rcases right_count s with h | h
    · rw [hr] at h
      cases h.1
    · exact h.2
  rw [hc] at C3
  rw [txt_bad hr] at C1
  have C4 := fun w' hb => H.out.fold ⟨#[65]⟩ w' (by decide) hb
  rw [a_str] at C4
  replace hc := Lib.hid hc
  replace C1 := Lib.hid C1
  replace C2 := Lib.hid C2
  replace C3 := Lib.hid C3
  replace C4 := Lib.hid C4
  replace hr := Lib.hid hr
  go_enter Tryd.func4, Tryd.ntmps4
  go_wp2_with fail
  refine (C1.out w0 B0.out).mono ?_
  rintro _ w1 ⟨rfl, hb1⟩
  have B1 := Lib.hid (B0.out.trans (hb1.mono B0.out.size))
  clear hb1
  dsimp only []
  go_wp2_with fail
  refine (C2.out w1 B1.out).mono ?_
  rintro _ w2 ⟨rfl, hb2⟩
  have B2 := Lib.hid (B1.out.trans (hb2.mono B1.out.size))
  clear hb2
  dsimp only []
  go_wp2_with fail
  refine (C3.out w2 B2.out).mono ?_
  rintro _ w3 ⟨rfl, hb3⟩
  have B3 := Lib.hid (B2.out.trans (hb3.mono B2.out.size))
  clear hb3
  dsimp only []
  go_wp2_with fail
  refine (C4.out w3 B3.out).mono ?_
  rintro _ w4 ⟨rfl, hb4⟩
  have B4 := Lib.hid (B3.out.trans (hb4.mono B3.out.size))
  clear hb4
  dsimp only []
  go_wp2_with fail
  go_ret
  exact ⟨rfl, B4.out⟩
set_option maxRecDepth 8000 in
set_option maxHeartbeats 4000000 in
theorem again_cut_yes (s y : ByteArray) (h0 : 600 < s.size) (h0c : s.size ≤ 140737488355328) (hy : s.extract 0 600 = y) (w0 : World) (H : Hid (FHyp w0)) (h : y.size ≤ 600) (hr : rightB y = true) :
    Calls Tryd.prog 4 #[.string s] w0 fun e w' => e = .returned (.bool true) ∧ Below w0.heap.size w0 w' := by
  have k0 : (600 : Int) < (s.size : Int) := by omega
  have k1 : (600 : Int) ≤ (s.size : Int) := by omega
  have hs : y.size ≤ 100000 := by omega
  have B0 := Lib.hid (Below.refl w0.heap.size w0)
  have C1 := fun w' hb => H.out.fold y w' hs hb
  have C2 := fun w' hb => H.out.right y w' hs hb
  rw [hr] at C2
  have C3 := fun w' hb => H.out.fold (txt false true y) w' (Nat.le_trans (txt_size _ _ _) hs) hb
  rw [txt_fold hr] at C3
  obtain ⟨a1, ha1⟩ : ∃ a1, (⟨#[32, 9]⟩ : ByteArray) ++ y = a1 := ⟨_, rfl⟩
  obtain ⟨a2, ha2⟩ : ∃ a2, a1 ++ (⟨#[1, 194, 160]⟩ : ByteArray) = a2 := ⟨_, rfl⟩
  have hz1 : a1.size ≤ 602 := by rw [← ha1, size_app]; show 2 + y.size ≤ 602; omega
  have hz2 : a2.size ≤ 605 := by rw [← ha2, size_app]; show a1.size + 3 ≤ 605; omega
  have C4 := fun w' hb => H.out.fold a2 w' (by omega) hb
  rw [← ha2, ← ha1, txt_ends hr, ha1, ha2] at C4
  have C5 := fun w' hb => H.out.exact y w' hs hb
  have C6 := fun w' hb => H.out.fold (txt false false y) w' (Nat.le_trans (txt_size _ _ _) hs) hb
  rw [txt_fold hr] at C6
  have C7 := fun w' hb => H.out.piece y w' hs hb
  have C8 := fun w' hb => H.out.fold (txt true true y) w' (Nat.le_trans (txt_size _ _ _) hs) hb
  rw [txt_fold hr] at C8
  have C9 := fun w' hb => H.out.right (txt false true y) w' (Nat.le_trans (txt_size _ _ _) hs) hb
  rw [txt_right hr] at C9
  have C10 := fun w' hb => H.out.fold ⟨#[195, 132]⟩ w' (by decide) hb
  rw [ae_str] at C10
  have hle := txt_size false true y
  obtain ⟨X, hX⟩ : ∃ x, x = txt false true y := ⟨_, rfl⟩
  rw [← hX] at C1 C3 C4 C6 C8 C9 hle
  obtain ⟨X2, hX2⟩ : ∃ x, x = txt false false y := ⟨_, rfl⟩
  rw [← hX2] at C5 C6
  obtain ⟨X3, hX3⟩ : ∃ x, x = txt true true y := ⟨_, rfl⟩
  rw [← hX3] at C7 C8
  have hle' : (X.size : Int) ≤ (y.size : Int) := by omega
  replace C1 := Lib.hid C1
  replace C2 := Lib.hid C2
  replace C3 := Lib.hid C3
  replace C4 := Lib.hid C4
  replace C5 := Lib.hid C5
  replace C6 := Lib.hid C6
  replace C7 := Lib.hid C7
  replace C8 := Lib.hid C8
  replace C9 := Lib.hid C9
  replace C10 := Lib.hid C10
  replace hX := Lib.hid hX
  replace hX2 := Lib.hid hX2
  replace hX3 := Lib.hid hX3
  replace hr := Lib.hid hr
  go_enter Tryd.func4, Tryd.ntmps4
  go_wp2_with fail
  refine (C1.out w0 B0.out).mono ?_
  rintro _ w1 ⟨rfl, hb1⟩
  have B1 := Lib.hid (B0.out.trans (hb1.mono B0.out.size))
  clear hb1
  dsimp only []
  go_wp2_with fail
  refine (C2.out w1 B1.out).mono ?_
  rintro _ w2 ⟨rfl, hb2⟩
  have B2 := Lib.hid (B1.out.trans (hb2.mono B1.out.size))
  clear hb2
  dsimp only []
  go_wp2_with fail
  refine (C3.out w2 B2.out).mono ?_
  rintro _ w3 ⟨rfl, hb3⟩
  have B3 := Lib.hid (B2.out.trans (hb3.mono B2.out.size))
  clear hb3
  dsimp only []
  go_wp2_with fail
  refine (C4.out w3 B3.out).mono ?_
  rintro _ w4 ⟨rfl, hb4⟩
  have B4 := Lib.hid (B3.out.trans (hb4.mono B3.out.size))
  clear hb4
  dsimp only []
  go_wp2_with fail
  refine (C5.out w4 B4.out).mono ?_
  rintro _ w5 ⟨rfl, hb5⟩
  have B5 := Lib.hid (B4.out.trans (hb5.mono B4.out.size))
  clear hb5
  dsimp only []
  go_wp2_with fail
  refine (C6.out w5 B5.out).mono ?_
  rintro _ w6 ⟨rfl, hb6⟩
  have B6 := Lib.hid (B5.out.trans (hb6.mono B5.out.size))
  clear hb6
  dsimp only []
  go_wp2_with fail
  refine (C7.out w6 B6.out).mono ?_
  rintro _ w7 ⟨rfl, hb7⟩
  have B7 := Lib.hid (B6.out.trans (hb7.mono B6.out.size))
  clear hb7
  dsimp only []
  go_wp2_with fail
  refine (C8.out w7 B7.out).mono ?_
  rintro _ w8 ⟨rfl, hb8⟩
  have B8 := Lib.hid (B7.out.trans (hb8.mono B7.out.size))
  clear hb8
  dsimp only []
  go_wp2_with fail
  refine (C9.out w8 B8.out).mono ?_
  rintro _ w9 ⟨rfl, hb9⟩
  have B9 := Lib.hid (B8.out.trans (hb9.mono B8.out.size))
  clear hb9
  dsimp only []
  go_wp2_with fail
  refine (C10.out w9 B9.out).mono ?_
  rintro _ w10 ⟨rfl, hb10⟩
  have B10 := Lib.hid (B9.out.trans (hb10.mono B9.out.size))
  clear hb10
  dsimp only []
  go_wp2_with fail
  go_ret
  exact ⟨rfl, B10.out⟩
set_option maxRecDepth 8000 in
set_option maxHeartbeats 4000000 in
theorem again_cut_no (s y : ByteArray) (h0 : 600 < s.size) (h0c : s.size ≤ 140737488355328) (hy : s.extract 0 600 = y) (w0 : World) (H : Hid (FHyp w0)) (h : y.size ≤ 600) (hr : rightB y = false) :
    Calls Tryd.prog 4 #[.string s] w0 fun e w' => e = .returned (.bool true) ∧ Below w0.heap.size w0 w' := by
  have k0 : (600 : Int) < (s.size : Int) := by omega
  have k1 : (600 : Int) ≤ (s.size : Int) := by omega
  have hs : y.size ≤ 100000 := by omega
  have B0 := Lib.hid (Below.refl w0.heap.size w0)
  have C1 := fun w' hb => H.out.fold y w' hs hb
  have C2 := fun w' hb => H.out.right y w' hs hb
  rw [hr] at C2
  have C3 := fun w' hb => H.out.count y w' hs hb
  have hc : uCountI (bs y) = -1 := by
    rcases right_count y with h | h
    · rw [hr] at h
      cases h.1
    · exact h.2
  rw [hc] at C3
  rw [txt_bad hr] at C1
  have C4 := fun w' hb => H.out.fold ⟨#[65]⟩ w' (by decide) hb
  rw [a_str] at C4
  replace hc := Lib.hid hc
  replace C1 := Lib.hid C1
  replace C2 := Lib.hid C2
  replace C3 := Lib.hid C3
  replace C4 := Lib.hid C4
  replace hr := Lib.hid hr
  go_enter Tryd.func4, Tryd.ntmps4
  go_wp2_with fail
  refine (C1.out w0 B0.out).mono ?_
  rintro _ w1 ⟨rfl, hb1⟩
  have B1 := Lib.hid (B0.out.trans (hb1.mono B0.out.size))
  clear hb1
  dsimp only []
  go_wp2_with fail
  refine (C2.out w1 B1.out).mono ?_
  rintro _ w2 ⟨rfl, hb2⟩
  have B2 := Lib.hid (B1.out.trans (hb2.mono B1.out.size))
  clear hb2
  dsimp only []
  go_wp2_with fail
  refine (C3.out w2 B2.out).mono ?_
  rintro _ w3 ⟨rfl, hb3⟩
  have B3 := Lib.hid (B2.out.trans (hb3.mono B2.out.size))
  clear hb3
  dsimp only []
  go_wp2_with fail
  refine (C4.out w3 B3.out).mono ?_
  rintro _ w4 ⟨rfl, hb4⟩
  have B4 := Lib.hid (B3.out.trans (hb4.mono B3.out.size))
  clear hb4
  dsimp only []
  go_wp2_with fail
  go_ret
  exact ⟨rfl, B4.out⟩
theorem again_walk (s : ByteArray) (w : World) (H : FHyp w) (hs : s.size ≤ 140737488355328) :
    Calls Tryd.prog 4 #[.string s] w fun e w' => e = .returned (.bool true) ∧ Below w.heap.size w w' := by
  by_cases h : s.size ≤ 600
  · rcases e : rightB s with _ | _
    · exact again_in_no s w (Lib.hid H) h e
    · exact again_in_yes s w (Lib.hid H) h e
  · have hz : (s.extract 0 600).size ≤ 600 := by rw [← bs_len, bs_extract, List.drop_zero, List.length_take]; omega
    rcases e : rightB (s.extract 0 600) with _ | _
    · exact again_cut_no s _ (by omega) hs rfl w (Lib.hid H) hz e
    · exact again_cut_yes s _ (by omega) hs rfl w (Lib.hid H) hz e
set_option maxRecDepth 8000 in
set_option maxHeartbeats 4000000 in
theorem joins_long (s t : ByteArray) (w0 : World) (H : Hid (FHyp w0)) (hs : s.size ≤ 140737488355328) (ht : t.size ≤ 140737488355328) (h : 600 < s.size + t.size) :
    Calls Tryd.prog 5 #[.string s, .string t] w0 fun e w' => e = .returned (.bool true) ∧ Below w0.heap.size w0 w' := by
  have k0 : (600 : Int) < (s.size : Int) + (t.size : Int) := by omega
  have B0 := Lib.hid (Below.refl w0.heap.size w0)
  have C9 := fun w' hb => H.out.piece ⟨#[32, 65]⟩ w' (by decide) hb
  rw [sa_str] at C9
  replace C9 := Lib.hid C9
  go_enter Tryd.func5, Tryd.ntmps5
  go_wp2_with fail
  refine (C9.out w0 B0.out).mono ?_
  rintro _ w1 ⟨rfl, hb1⟩
  have B1 := Lib.hid (B0.out.trans (hb1.mono B0.out.size))
  clear hb1
  dsimp only []
  go_wp2_with fail
  go_ret
  exact ⟨rfl, B1.out⟩
set_option maxRecDepth 8000 in
set_option maxHeartbeats 4000000 in
theorem joins_n1 (s t : ByteArray) (w0 : World) (H : Hid (FHyp w0)) (h : s.size + t.size ≤ 600) (hr1 : rightB s = false) :
    Calls Tryd.prog 5 #[.string s, .string t] w0 fun e w' => e = .returned (.bool true) ∧ Below w0.heap.size w0 w' := by
  have k0 : ¬ ((600 : Int) < (s.size : Int) + (t.size : Int)) := by omega
  have B0 := Lib.hid (Below.refl w0.heap.size w0)
  have hs : s.size ≤ 100000 := by omega
  have C1 := fun w' hb => H.out.right s w' hs hb
  rw [hr1] at C1
  have C9 := fun w' hb => H.out.piece ⟨#[32, 65]⟩ w' (by decide) hb
  rw [sa_str] at C9
  replace C1 := Lib.hid C1
  replace C9 := Lib.hid C9
  go_enter Tryd.func5, Tryd.ntmps5
  go_wp2_with fail
  refine (C1.out w0 B0.out).mono ?_
  rintro _ w1 ⟨rfl, hb1⟩
  have B1 := Lib.hid (B0.out.trans (hb1.mono B0.out.size))
  clear hb1
  dsimp only []
  go_wp2_with fail
  refine (C9.out w1 B1.out).mono ?_
  rintro _ w2 ⟨rfl, hb2⟩
  have B2 := Lib.hid (B1.out.trans (hb2.mono B1.out.size))
  clear hb2
  dsimp only []
  go_wp2_with fail
  go_ret
  exact ⟨rfl, B2.out⟩
set_option maxRecDepth 8000 in
set_option maxHeartbeats 4000000 in
theorem joins_n2 (s t : ByteArray) (w0 : World) (H : Hid (FHyp w0)) (h : s.size + t.size ≤ 600) (hr1 : rightB s = true) (hr2 : rightB t = false) :
    Calls Tryd.prog 5 #[.string s, .string t] w0 fun e w' => e = .returned (.bool true) ∧ Below w0.heap.size w0 w' := by
  have k0 : ¬ ((600 : Int) < (s.size : Int) + (t.size : Int)) := by omega
  have B0 := Lib.hid (Below.refl w0.heap.size w0)
  have hs : s.size ≤ 100000 := by omega
  have C1 := fun w' hb => H.out.right s w' hs hb
  rw [hr1] at C1
  have ht : t.size ≤ 100000 := by omega
  have C2 := fun w' hb => H.out.right t w' ht hb
  rw [hr2] at C2
  have C9 := fun w' hb => H.out.piece ⟨#[32, 65]⟩ w' (by decide) hb
  rw [sa_str] at C9
  replace C1 := Lib.hid C1
  replace C2 := Lib.hid C2
  replace C9 := Lib.hid C9
  go_enter Tryd.func5, Tryd.ntmps5
  go_wp2_with fail
  refine (C1.out w0 B0.out).mono ?_
  rintro _ w1 ⟨rfl, hb1⟩
  have B1 := Lib.hid (B0.out.trans (hb1.mono B0.out.size))
  clear hb1
  dsimp only []
  go_wp2_with fail
  refine (C2.out w1 B1.out).mono ?_
  rintro _ w2 ⟨rfl, hb2⟩
  have B2 := Lib.hid (B1.out.trans (hb2.mono B1.out.size))
  clear hb2
  dsimp only []
  go_wp2_with fail
  refine (C9.out w2 B2.out).mono ?_
  rintro _ w3 ⟨rfl, hb3⟩
  have B3 := Lib.hid (B2.out.trans (hb3.mono B2.out.size))
  clear hb3
  dsimp only []
  go_wp2_with fail
  go_ret
  exact ⟨rfl, B3.out⟩
set_option maxRecDepth 8000 in
set_option maxHeartbeats 4000000 in
theorem joins_yes (s t : ByteArray) (w0 : World) (H : Hid (FHyp w0)) (h : s.size + t.size ≤ 600) (hr1 : rightB s = true) (hr2 : rightB t = true) :
    Calls Tryd.prog 5 #[.string s, .string t] w0 fun e w' => e = .returned (.bool true) ∧ Below w0.heap.size w0 w' := by
  have k0 : ¬ ((600 : Int) < (s.size : Int) + (t.size : Int)) := by omega
  have B0 := Lib.hid (Below.refl w0.heap.size w0)
  have hs : s.size ≤ 100000 := by omega
  have C1 := fun w' hb => H.out.right s w' hs hb
  rw [hr1] at C1
  have ht : t.size ≤ 100000 := by omega
  have C2 := fun w' hb => H.out.right t w' ht hb
  rw [hr2] at C2
  obtain ⟨a, ha⟩ : ∃ a, s ++ t = a := ⟨_, rfl⟩
  have hza : a.size ≤ 600 := by rw [← ha, size_app]; omega
  have C3 := fun w' hb => H.out.piece a w' (by omega) hb
  have C4 := fun w' hb => H.out.piece s w' hs hb
  have C5 := fun w' hb => H.out.piece t w' ht hb
  have z1 := txt_size true true s
  have z2 := txt_size true true t
  have hj := txt_join hr1 hr2
  rw [ha] at hj
  obtain ⟨hc, hc1, hc2, hc3, hc4⟩ := count_join hr1 hr2
  rw [ha] at hc
  obtain ⟨X1, hX1⟩ : ∃ x, x = txt true true s := ⟨_, rfl⟩
  obtain ⟨X2, hX2⟩ : ∃ x, x = txt true true t := ⟨_, rfl⟩
  rw [← hX1] at C4 hj z1
  rw [← hX2] at C5 hj z2
  obtain ⟨b, hb⟩ : ∃ b, X1 ++ X2 = b := ⟨_, rfl⟩
  have hzb : b.size ≤ 600 := by rw [← hb, size_app]; omega
  have C6 := fun w' hb => H.out.piece b w' (by omega) hb
  rw [hb] at hj
  rw [hj] at C6
  obtain ⟨X3, hX3⟩ : ∃ x, x = txt true true a := ⟨_, rfl⟩
  rw [← hX3] at C3 C6
  have C7 := fun w' hb => H.out.count a w' (by omega) hb
  have C8 := fun w' hb => H.out.count s w' hs hb
  have C9 := fun w' hb => H.out.count t w' ht hb
  rw [hc] at C7
  obtain ⟨n1, hn1⟩ : ∃ x, x = uCountI (bs s) := ⟨_, rfl⟩
  obtain ⟨n2, hn2⟩ : ∃ x, x = uCountI (bs t) := ⟨_, rfl⟩
  rw [← hn1, ← hn2] at C7
  rw [← hn1] at C8 hc1 hc2
  rw [← hn2] at C9 hc3 hc4
  have C10 := fun w' hb => H.out.piece ⟨#[97, 32]⟩ w' (by decide) hb
  rw [as_str] at C10
  replace hj := Lib.hid hj
  replace hc := Lib.hid hc
  replace C1 := Lib.hid C1
  replace C2 := Lib.hid C2
  replace C3 := Lib.hid C3
  replace C4 := Lib.hid C4
  replace C5 := Lib.hid C5
  replace C6 := Lib.hid C6
  replace C7 := Lib.hid C7
  replace C8 := Lib.hid C8
  replace C9 := Lib.hid C9
  replace C10 := Lib.hid C10
  replace hX1 := Lib.hid hX1
  replace hX2 := Lib.hid hX2
  replace hX3 := Lib.hid hX3
  replace hn1 := Lib.hid hn1
  replace hn2 := Lib.hid hn2
  go_enter Tryd.func5, Tryd.ntmps5
  go_wp2_with fail
  refine (C1.out w0 B0.out).mono ?_
  rintro _ w1 ⟨rfl, hb1⟩
  have B1 := Lib.hid (B0.out.trans (hb1.mono B0.out.size))
  clear hb1
  dsimp only []
  go_wp2_with fail
  refine (C2.out w1 B1.out).mono ?_
  rintro _ w2 ⟨rfl, hb2⟩
  have B2 := Lib.hid (B1.out.trans (hb2.mono B1.out.size))
  clear hb2
  dsimp only []
  go_wp2_with fail
  refine (C3.out w2 B2.out).mono ?_
  rintro _ w3 ⟨rfl, hb3⟩
  have B3 := Lib.hid (B2.out.trans (hb3.mono B2.out.size))
  clear hb3
  dsimp only []
  go_wp2_with fail
  refine (C4.out w3 B3.out).mono ?_
  rintro _ w4 ⟨rfl, hb4⟩
  have B4 := Lib.hid (B3.out.trans (hb4.mono B3.out.size))
  clear hb4
  dsimp only []
  go_wp2_with fail
  refine (C5.out w4 B4.out).mono ?_
  rintro _ w5 ⟨rfl, hb5⟩
  have B5 := Lib.hid (B4.out.trans (hb5.mono B4.out.size))
  clear hb5
  dsimp only []
  go_wp2_with fail
  refine (C6.out w5 B5.out).mono ?_
  rintro _ w6 ⟨rfl, hb6⟩
  have B6 := Lib.hid (B5.out.trans (hb6.mono B5.out.size))
  clear hb6
  dsimp only []
  go_wp2_with fail
  refine (C7.out w6 B6.out).mono ?_
  rintro _ w7 ⟨rfl, hb7⟩
  have B7 := Lib.hid (B6.out.trans (hb7.mono B6.out.size))
  clear hb7
  dsimp only []
  go_wp2_with fail
  refine (C8.out w7 B7.out).mono ?_
  rintro _ w8 ⟨rfl, hb8⟩
  have B8 := Lib.hid (B7.out.trans (hb8.mono B7.out.size))
  clear hb8
  dsimp only []
  go_wp2_with fail
  refine (C9.out w8 B8.out).mono ?_
  rintro _ w9 ⟨rfl, hb9⟩
  have B9 := Lib.hid (B8.out.trans (hb9.mono B8.out.size))
  clear hb9
  dsimp only []
  go_wp2_with fail
  refine (C10.out w9 B9.out).mono ?_
  rintro _ w10 ⟨rfl, hb10⟩
  have B10 := Lib.hid (B9.out.trans (hb10.mono B9.out.size))
  clear hb10
  dsimp only []
  go_wp2_with fail
  go_ret
  exact ⟨rfl, B10.out⟩
theorem joins_walk (s t : ByteArray) (w : World) (H : FHyp w) (hs : s.size ≤ 140737488355328) (ht : t.size ≤ 140737488355328) :
    Calls Tryd.prog 5 #[.string s, .string t] w fun e w' => e = .returned (.bool true) ∧ Below w.heap.size w w' := by
  by_cases h : s.size + t.size ≤ 600
  · rcases e1 : rightB s with _ | _
    · exact joins_n1 s t w (Lib.hid H) h e1
    · rcases e2 : rightB t with _ | _
      · exact joins_n2 s t w (Lib.hid H) h e1 e2
      · exact joins_yes s t w (Lib.hid H) h e1 e2
  · exact joins_long s t w (Lib.hid H) hs ht (by omega)
end Go.Proofs.YtjnnjncoejdhaaaDoor
