/-
  OidAgain: its walk, over what the program's functions answer.
-/
import Derived.Test.YtpmcdkalmdlahaaDoorOHyp
import Derived.Test.YtpmcdkalmdlahaaDoorSame7
import Derived.BigGuardPart
import Derived.Deep.QuietTactic
import Derived.BigQuiet
namespace Go.Proofs.YtpmcdkalmdlahaaDoor
open Go.RowKit Go.Lib

theorem xbab : deO [120, 59, 98, 59, 97, 59, 98] = ([120], [[97], [98]], true) := by decide +kernel
theorem nil_str : (⟨#[]⟩ : ByteArray) = baO [] := rfl
set_option maxRecDepth 8000 in
set_option maxHeartbeats 4000000 in
theorem again7_no (s : ByteArray) (w0 : World) (H : Hid (OHyp w0)) (h : s.size ≤ 300) (h1 : descO s.data.toList = none) :
    Calls Tryd.prog 6 #[.string s] w0 fun e w' => e = .returned (.bool true) ∧ Below w0.heap.size w0 w' := by
  have k0 : ¬ ((300 : Int) < (s.size : Int)) := by omega
  have HB0 := Lib.hid (Below.refl w0.heap.size w0)
  have C1 := fun w' hb => H.out.describe s w' (by omega) hb
  rw [deO_none h1] at C1
  replace C1 : Hid (∀ w', Below w0.heap.size w0 w' → Calls Tryd.prog 17 #[.string s] w' fun e w'' => ∃ A c, e = .returned (.tuple #[.string ⟨#[]⟩, .slice A 0 c, .bool false]) ∧ SrcO w'' w''.heap.size A c [] ∧ Below w'.heap.size w' w'') := Lib.hid C1
  have C2 : Hid (∀ w', Below w0.heap.size w0 w' → Calls Tryd.prog 17 #[.string ⟨#[120, 59, 98, 59, 97, 59, 98]⟩] w' fun e w'' => ∃ A c, e = .returned (.tuple #[.string ⟨#[120]⟩, .slice A 2 c, .bool true]) ∧ SrcO w'' w''.heap.size A c [[97], [98]] ∧ Below w'.heap.size w' w'') := Lib.hid fun w' hb => by
    have := H.out.describe ⟨#[120, 59, 98, 59, 97, 59, 98]⟩ w' (by decide) hb
    rw [show deO (⟨#[120, 59, 98, 59, 97, 59, 98]⟩ : ByteArray).data.toList = ([120], [[97], [98]], true) from xbab] at this
    exact this
  replace h1 := Lib.hid h1
  go_enter Tryd.func6, Tryd.ntmps6
  go_wp2_with fail
  refine (C1.out w0 HB0.out).mono ?_
  rintro _ w1 ⟨A1, c1, rfl, S1, hb1⟩
  have HB1 := Lib.hid (below_next HB0.out (Nat.le_refl _) hb1)
  replace S1 := Lib.hid S1
  clear hb1
  dsimp only []
  go_wp2_with fail
  refine (C2.out w1 HB1.out).mono ?_
  rintro _ w2 ⟨A2, c2, rfl, S2, hb2⟩
  have HB2 := Lib.hid (below_next HB1.out (Nat.le_refl _) hb2)
  replace S1 := Lib.hid (S1.out.next hb2)
  replace S2 := Lib.hid S2
  clear hb2
  dsimp only []
  go_wp2_with fail
  go_ret
  exact ⟨rfl, HB2.out⟩
set_option maxRecDepth 8000 in
set_option maxHeartbeats 4000000 in
theorem again7_yes (s : ByteArray) (a : List UInt8) (O : List (List UInt8)) (w0 : World) (H : Hid (OHyp w0)) (h : s.size ≤ 300) (h1 : descO s.data.toList = some (a, O)) :
    Calls Tryd.prog 6 #[.string s] w0 fun e w' => e = .returned (.bool true) ∧ Below w0.heap.size w0 w' := by
  have k0 : ¬ ((300 : Int) < (s.size : Int)) := by omega
  have HB0 := Lib.hid (Below.refl w0.heap.size w0)
  have C1 := fun w' hb => H.out.describe s w' (by omega) hb
  rw [deO_some h1] at C1
  have hda := desc_again h1
  have hdl := dtx_low h1
  have hdn := dtx_len h1
  have hdw := desc_low s.data.toList
  rw [h1] at hdw
  have hOn : O.length ≤ 300 ∧ a.length + wt O ≤ 300 := by
    have e1 : (dtx (a, O)).length = a.length + wt O := by
      unfold dtx jn wt
      rw [List.length_append]
    have e2 := wt_ge O
    have e3 : s.data.toList.length = s.size := by simp
    omega
  obtain ⟨N, hN⟩ : ∃ N, N = O.length := ⟨_, rfl⟩
  obtain ⟨p, hp⟩ : ∃ p, p = baO a := ⟨_, rfl⟩
  obtain ⟨t, ht⟩ : ∃ t, t = baO (dtx (a, O)) := ⟨_, rfl⟩
  obtain ⟨y, hy⟩ : ∃ y, y = baO (lowL s.data.toList) := ⟨_, rfl⟩
  have hts : t.size ≤ s.size := by
    have e3 : s.data.toList.length = s.size := by simp
    rw [ht, baO_size]
    omega
  have hys : y.size ≤ 300 := by
    have e3 : s.data.toList.length = s.size := by simp
    rw [hy, baO_size]
    unfold lowL
    rw [List.length_map]
    omega
  have hps : p.size ≤ 300 := by rw [hp, baO_size]; omega
  have C1' : Hid (∀ w', Below w0.heap.size w0 w' → Calls Tryd.prog 17 #[.string s] w' fun e w'' => ∃ A c, e = .returned (.tuple #[.string p, .slice A N c, .bool true]) ∧ SrcO w'' w''.heap.size A c O ∧ Below w'.heap.size w' w'') := Lib.hid (by rw [hp, hN]; exact C1)
  have C2 : Hid (∀ A c w', SrcO w' w'.heap.size A c O → Below w0.heap.size w0 w' → Calls Tryd.prog 20 #[.string p, .slice A N c] w' fun e w'' => e = .returned (.string t) ∧ Below w'.heap.size w' w'') := Lib.hid fun A c w' hs hb => by
    have := H.out.text p A c N O w' hN.symm (by omega) (by rw [hp, baO_size]; omega) hs hb
    rw [ht]
    rw [hp] at this ⊢
    exact this
  have C3 : Hid (∀ w', Below w0.heap.size w0 w' → Calls Tryd.prog 17 #[.string t] w' fun e w'' => ∃ A c, e = .returned (.tuple #[.string p, .slice A N c, .bool true]) ∧ SrcO w'' w''.heap.size A c O ∧ Below w'.heap.size w' w'') := Lib.hid fun w' hb => by
    have := H.out.describe t w' (by omega) hb
    rw [show t.data.toList = dtx (a, O) from by rw [ht]; rfl, deO_some hda] at this
    rw [hp, hN]
    exact this
  have C4 : Hid (∀ w', Below w0.heap.size w0 w' → Calls Tryd.prog 15 #[.string s] w' fun e w'' => e = .returned (.string y) ∧ Below w'.heap.size w' w'') := Lib.hid fun w' hb => by
    rw [hy]
    exact H.out.lower s w' (by omega) hb
  have C5 : Hid (∀ w', Below w0.heap.size w0 w' → Calls Tryd.prog 17 #[.string y] w' fun e w'' => ∃ A c, e = .returned (.tuple #[.string p, .slice A N c, .bool true]) ∧ SrcO w'' w''.heap.size A c O ∧ Below w'.heap.size w' w'') := Lib.hid fun w' hb => by
    have := H.out.describe y w' (by omega) hb
    rw [show y.data.toList = lowL s.data.toList from by rw [hy]; rfl, deO_some hdw] at this
    rw [hp, hN]
    exact this
  have C6 : Hid (∀ w', Below w0.heap.size w0 w' → Calls Tryd.prog 15 #[.string t] w' fun e w'' => e = .returned (.string t) ∧ Below w'.heap.size w' w'') := Lib.hid fun w' hb => by
    have := H.out.lower t w' (by omega) hb
    rw [show t.data.toList = dtx (a, O) from by rw [ht]; rfl, hdl, ← ht] at this
    exact this
  have CS : Hid (∀ A c B d w', SrcO w' w'.heap.size A c O → SrcO w' w'.heap.size B d O → Calls Tryd.prog 19 #[.slice A N c, .slice B N d] w' fun e w'' => e = .returned (.bool true) ∧ Below w'.heap.size w' w'') := Lib.hid fun A c B d w' g1 g2 => same7_any A B c d N O w' hN.symm (by omega) g1 g2
  have e1 : (p.toList == p.toList) = true := by simp
  have e2 : (t.toList == t.toList) = true := by simp
  have e3 : (t.size : Int) ≤ (s.size : Int) := by omega
  have e4 : decide ((t.size : Int) ≤ (s.size : Int)) = true := decide_eq_true e3
  clear C1
  replace h1 := Lib.hid h1
  replace hda := Lib.hid hda
  replace hdl := Lib.hid hdl
  replace hdn := Lib.hid hdn
  replace hdw := Lib.hid hdw
  replace hN := Lib.hid hN
  replace hp := Lib.hid hp
  replace ht := Lib.hid ht
  replace hy := Lib.hid hy
  replace hOn := Lib.hid hOn
  go_enter Tryd.func6, Tryd.ntmps6
  go_wp2_with fail
  refine (C1'.out w0 HB0.out).mono ?_
  rintro _ w1 ⟨A1, c1, rfl, S1, hb1⟩
  have HB1 := Lib.hid (below_next HB0.out (Nat.le_refl _) hb1)
  replace S1 := Lib.hid S1
  clear hb1
  dsimp only []
  go_wp2_with fail
  refine (C2.out A1 c1 w1 S1.out HB1.out).mono ?_
  rintro _ w2 ⟨rfl, hb2⟩
  have HB2 := Lib.hid (below_next HB1.out (Nat.le_refl _) hb2)
  replace S1 := Lib.hid (S1.out.next hb2)
  clear hb2
  dsimp only []
  go_wp2_with fail
  refine (C3.out w2 HB2.out).mono ?_
  rintro _ w3 ⟨A3, c3, rfl, S3, hb3⟩
  have HB3 := Lib.hid (below_next HB2.out (Nat.le_refl _) hb3)
  replace S1 := Lib.hid (S1.out.next hb3)
  replace S3 := Lib.hid S3
  clear hb3
  dsimp only []
  go_wp2_with fail
  refine (C4.out w3 HB3.out).mono ?_
  rintro _ w4 ⟨rfl, hb4⟩
  have HB4 := Lib.hid (below_next HB3.out (Nat.le_refl _) hb4)
  replace S1 := Lib.hid (S1.out.next hb4)
  replace S3 := Lib.hid (S3.out.next hb4)
  clear hb4
  dsimp only []
  go_wp2_with fail
  refine (C5.out w4 HB4.out).mono ?_
  rintro _ w5 ⟨A5, c5, rfl, S5, hb5⟩
  have HB5 := Lib.hid (below_next HB4.out (Nat.le_refl _) hb5)
  replace S1 := Lib.hid (S1.out.next hb5)
  replace S3 := Lib.hid (S3.out.next hb5)
  replace S5 := Lib.hid S5
  clear hb5
  dsimp only []
  go_wp2_with fail
  refine (CS.out A1 c1 A3 c3 w5 S1.out S3.out).mono ?_
  rintro _ w6 ⟨rfl, hb6⟩
  have HB6 := Lib.hid (below_next HB5.out (Nat.le_refl _) hb6)
  replace S1 := Lib.hid (S1.out.next hb6)
  replace S3 := Lib.hid (S3.out.next hb6)
  replace S5 := Lib.hid (S5.out.next hb6)
  clear hb6
  dsimp only []
  go_wp2_with fail
  refine (CS.out A1 c1 A5 c5 w6 S1.out S5.out).mono ?_
  rintro _ w7 ⟨rfl, hb7⟩
  have HB7 := Lib.hid (below_next HB6.out (Nat.le_refl _) hb7)
  replace S1 := Lib.hid (S1.out.next hb7)
  replace S3 := Lib.hid (S3.out.next hb7)
  replace S5 := Lib.hid (S5.out.next hb7)
  clear hb7
  dsimp only []
  go_wp2_with fail
  refine (C6.out w7 HB7.out).mono ?_
  rintro _ w8 ⟨rfl, hb8⟩
  have HB8 := Lib.hid (below_next HB7.out (Nat.le_refl _) hb8)
  replace S1 := Lib.hid (S1.out.next hb8)
  replace S3 := Lib.hid (S3.out.next hb8)
  replace S5 := Lib.hid (S5.out.next hb8)
  clear hb8
  dsimp only []
  go_wp2_with fail
  go_ret
  exact ⟨rfl, HB8.out⟩
set_option maxRecDepth 8000 in
set_option maxHeartbeats 4000000 in
theorem again7_no_cut (s x : ByteArray) (hx : s.extract 0 300 = x) (hbig : 300 < s.size) (hmax : s.size ≤ 9223372036854775807) (w0 : World) (H : Hid (OHyp w0)) (h : x.size ≤ 300) (h1 : descO x.data.toList = none) :
    Calls Tryd.prog 6 #[.string s] w0 fun e w' => e = .returned (.bool true) ∧ Below w0.heap.size w0 w' := by
  have k0 : (300 : Int) < (s.size : Int) := by omega
  have k1 : (300 : Int) ≤ (s.size : Int) := by omega
  have HB0 := Lib.hid (Below.refl w0.heap.size w0)
  have C1 := fun w' hb => H.out.describe x w' (by omega) hb
  rw [deO_none h1] at C1
  replace C1 : Hid (∀ w', Below w0.heap.size w0 w' → Calls Tryd.prog 17 #[.string x] w' fun e w'' => ∃ A c, e = .returned (.tuple #[.string ⟨#[]⟩, .slice A 0 c, .bool false]) ∧ SrcO w'' w''.heap.size A c [] ∧ Below w'.heap.size w' w'') := Lib.hid C1
  have C2 : Hid (∀ w', Below w0.heap.size w0 w' → Calls Tryd.prog 17 #[.string ⟨#[120, 59, 98, 59, 97, 59, 98]⟩] w' fun e w'' => ∃ A c, e = .returned (.tuple #[.string ⟨#[120]⟩, .slice A 2 c, .bool true]) ∧ SrcO w'' w''.heap.size A c [[97], [98]] ∧ Below w'.heap.size w' w'') := Lib.hid fun w' hb => by
    have := H.out.describe ⟨#[120, 59, 98, 59, 97, 59, 98]⟩ w' (by decide) hb
    rw [show deO (⟨#[120, 59, 98, 59, 97, 59, 98]⟩ : ByteArray).data.toList = ([120], [[97], [98]], true) from xbab] at this
    exact this
  replace h1 := Lib.hid h1
  go_enter Tryd.func6, Tryd.ntmps6
  go_wp2_with fail
  refine (C1.out w0 HB0.out).mono ?_
  rintro _ w1 ⟨A1, c1, rfl, S1, hb1⟩
  have HB1 := Lib.hid (below_next HB0.out (Nat.le_refl _) hb1)
  replace S1 := Lib.hid S1
  clear hb1
  dsimp only []
  go_wp2_with fail
  refine (C2.out w1 HB1.out).mono ?_
  rintro _ w2 ⟨A2, c2, rfl, S2, hb2⟩
  have HB2 := Lib.hid (below_next HB1.out (Nat.le_refl _) hb2)
  replace S1 := Lib.hid (S1.out.next hb2)
  replace S2 := Lib.hid S2
  clear hb2
  dsimp only []
  go_wp2_with fail
  go_ret
  exact ⟨rfl, HB2.out⟩
set_option maxRecDepth 8000 in
set_option maxHeartbeats 4000000 in
theorem again7_yes_cut (s x : ByteArray) (hx : s.extract 0 300 = x) (hbig : 300 < s.size) (hmax : s.size ≤ 9223372036854775807) (a : List UInt8) (O : List (List UInt8)) (w0 : World) (H : Hid (OHyp w0)) (h : x.size ≤ 300) (h1 : descO x.data.toList = some (a, O)) :
    Calls Tryd.prog 6 #[.string s] w0 fun e w' => e = .returned (.bool true) ∧ Below w0.heap.size w0 w' := by
  have k0 : (300 : Int) < (s.size : Int) := by omega
  have k1 : (300 : Int) ≤ (s.size : Int) := by omega
  have HB0 := Lib.hid (Below.refl w0.heap.size w0)
  have C1 := fun w' hb => H.out.describe x w' (by omega) hb
  rw [deO_some h1] at C1
  have hda := desc_again h1
  have hdl := dtx_low h1
  have hdn := dtx_len h1
  have hdw := desc_low x.data.toList
  rw [h1] at hdw
  have hOn : O.length ≤ 300 ∧ a.length + wt O ≤ 300 := by
    have e1 : (dtx (a, O)).length = a.length + wt O := by
      unfold dtx jn wt
      rw [List.length_append]
    have e2 := wt_ge O
    have e3 : x.data.toList.length = x.size := by simp
    omega
  obtain ⟨N, hN⟩ : ∃ N, N = O.length := ⟨_, rfl⟩
  obtain ⟨p, hp⟩ : ∃ p, p = baO a := ⟨_, rfl⟩
  obtain ⟨t, ht⟩ : ∃ t, t = baO (dtx (a, O)) := ⟨_, rfl⟩
  obtain ⟨y, hy⟩ : ∃ y, y = baO (lowL x.data.toList) := ⟨_, rfl⟩
  have hts : t.size ≤ x.size := by
    have e3 : x.data.toList.length = x.size := by simp
    rw [ht, baO_size]
    omega
  have hys : y.size ≤ 300 := by
    have e3 : x.data.toList.length = x.size := by simp
    rw [hy, baO_size]
    unfold lowL
    rw [List.length_map]
    omega
  have hps : p.size ≤ 300 := by rw [hp, baO_size]; omega
  have C1' : Hid (∀ w', Below w0.heap.size w0 w' → Calls Tryd.prog 17 #[.string x] w' fun e w'' => ∃ A c, e = .returned (.tuple #[.string p, .slice A N c, .bool true]) ∧ SrcO w'' w''.heap.size A c O ∧ Below w'.heap.size w' w'') := Lib.hid (by rw [hp, hN]; exact C1)
  have C2 : Hid (∀ A c w', SrcO w' w'.heap.size A c O → Below w0.heap.size w0 w' → Calls Tryd.prog 20 #[.string p, .slice A N c] w' fun e w'' => e = .returned (.string t) ∧ Below w'.heap.size w' w'') := Lib.hid fun A c w' hs hb => by
    have := H.out.text p A c N O w' hN.symm (by omega) (by rw [hp, baO_size]; omega) hs hb
    rw [ht]
    rw [hp] at this ⊢
    exact this
  have C3 : Hid (∀ w', Below w0.heap.size w0 w' → Calls Tryd.prog 17 #[.string t] w' fun e w'' => ∃ A c, e = .returned (.tuple #[.string p, .slice A N c, .bool true]) ∧ SrcO w'' w''.heap.size A c O ∧ Below w'.heap.size w' w'') := Lib.hid fun w' hb => by
    have := H.out.describe t w' (by omega) hb
    rw [show t.data.toList = dtx (a, O) from by rw [ht]; rfl, deO_some hda] at this
    rw [hp, hN]
    exact this
  have C4 : Hid (∀ w', Below w0.heap.size w0 w' → Calls Tryd.prog 15 #[.string x] w' fun e w'' => e = .returned (.string y) ∧ Below w'.heap.size w' w'') := Lib.hid fun w' hb => by
    rw [hy]
    exact H.out.lower x w' (by omega) hb
  have C5 : Hid (∀ w', Below w0.heap.size w0 w' → Calls Tryd.prog 17 #[.string y] w' fun e w'' => ∃ A c, e = .returned (.tuple #[.string p, .slice A N c, .bool true]) ∧ SrcO w'' w''.heap.size A c O ∧ Below w'.heap.size w' w'') := Lib.hid fun w' hb => by
    have := H.out.describe y w' (by omega) hb
    rw [show y.data.toList = lowL x.data.toList from by rw [hy]; rfl, deO_some hdw] at this
    rw [hp, hN]
    exact this
  have C6 : Hid (∀ w', Below w0.heap.size w0 w' → Calls Tryd.prog 15 #[.string t] w' fun e w'' => e = .returned (.string t) ∧ Below w'.heap.size w' w'') := Lib.hid fun w' hb => by
    have := H.out.lower t w' (by omega) hb
    rw [show t.data.toList = dtx (a, O) from by rw [ht]; rfl, hdl, ← ht] at this
    exact this
  have CS : Hid (∀ A c B d w', SrcO w' w'.heap.size A c O → SrcO w' w'.heap.size B d O → Calls Tryd.prog 19 #[.slice A N c, .slice B N d] w' fun e w'' => e = .returned (.bool true) ∧ Below w'.heap.size w' w'') := Lib.hid fun A c B d w' g1 g2 => same7_any A B c d N O w' hN.symm (by omega) g1 g2
  have e1 : (p.toList == p.toList) = true := by simp
  have e2 : (t.toList == t.toList) = true := by simp
  have e3 : (t.size : Int) ≤ (x.size : Int) := by omega
  have e4 : decide ((t.size : Int) ≤ (x.size : Int)) = true := decide_eq_true e3
  clear C1
  replace h1 := Lib.hid h1
  replace hda := Lib.hid hda
  replace hdl := Lib.hid hdl
  replace hdn := Lib.hid hdn
  replace hdw := Lib.hid hdw
  replace hN := Lib.hid hN
  replace hp := Lib.hid hp
  replace ht := Lib.hid ht
  replace hy := Lib.hid hy
  replace hOn := Lib.hid hOn
  go_enter Tryd.func6, Tryd.ntmps6
  go_wp2_with fail
  refine (C1'.out w0 HB0.out).mono ?_
  rintro _ w1 ⟨A1, c1, rfl, S1, hb1⟩
  have HB1 := Lib.hid (below_next HB0.out (Nat.le_refl _) hb1)
  replace S1 := Lib.hid S1
  clear hb1
  dsimp only []
  go_wp2_with fail
  refine (C2.out A1 c1 w1 S1.out HB1.out).mono ?_
  rintro _ w2 ⟨rfl, hb2⟩
  have HB2 := Lib.hid (below_next HB1.out (Nat.le_refl _) hb2)
  replace S1 := Lib.hid (S1.out.next hb2)
  clear hb2
  dsimp only []
  go_wp2_with fail
  refine (C3.out w2 HB2.out).mono ?_
  rintro _ w3 ⟨A3, c3, rfl, S3, hb3⟩
  have HB3 := Lib.hid (below_next HB2.out (Nat.le_refl _) hb3)
  replace S1 := Lib.hid (S1.out.next hb3)
  replace S3 := Lib.hid S3
  clear hb3
  dsimp only []
  go_wp2_with fail
  refine (C4.out w3 HB3.out).mono ?_
  rintro _ w4 ⟨rfl, hb4⟩
  have HB4 := Lib.hid (below_next HB3.out (Nat.le_refl _) hb4)
  replace S1 := Lib.hid (S1.out.next hb4)
  replace S3 := Lib.hid (S3.out.next hb4)
  clear hb4
  dsimp only []
  go_wp2_with fail
  refine (C5.out w4 HB4.out).mono ?_
  rintro _ w5 ⟨A5, c5, rfl, S5, hb5⟩
  have HB5 := Lib.hid (below_next HB4.out (Nat.le_refl _) hb5)
  replace S1 := Lib.hid (S1.out.next hb5)
  replace S3 := Lib.hid (S3.out.next hb5)
  replace S5 := Lib.hid S5
  clear hb5
  dsimp only []
  go_wp2_with fail
  refine (CS.out A1 c1 A3 c3 w5 S1.out S3.out).mono ?_
  rintro _ w6 ⟨rfl, hb6⟩
  have HB6 := Lib.hid (below_next HB5.out (Nat.le_refl _) hb6)
  replace S1 := Lib.hid (S1.out.next hb6)
  replace S3 := Lib.hid (S3.out.next hb6)
  replace S5 := Lib.hid (S5.out.next hb6)
  clear hb6
  dsimp only []
  go_wp2_with fail
  refine (CS.out A1 c1 A5 c5 w6 S1.out S5.out).mono ?_
  rintro _ w7 ⟨rfl, hb7⟩
  have HB7 := Lib.hid (below_next HB6.out (Nat.le_refl _) hb7)
  replace S1 := Lib.hid (S1.out.next hb7)
  replace S3 := Lib.hid (S3.out.next hb7)
  replace S5 := Lib.hid (S5.out.next hb7)
  clear hb7
  dsimp only []
  go_wp2_with fail
  refine (C6.out w7 HB7.out).mono ?_
  rintro _ w8 ⟨rfl, hb8⟩
  have HB8 := Lib.hid (below_next HB7.out (Nat.le_refl _) hb8)
  replace S1 := Lib.hid (S1.out.next hb8)
  replace S3 := Lib.hid (S3.out.next hb8)
  replace S5 := Lib.hid (S5.out.next hb8)
  clear hb8
  dsimp only []
  go_wp2_with fail
  go_ret
  exact ⟨rfl, HB8.out⟩
theorem again7_walk (s : ByteArray) (w0 : World) (H : OHyp w0) (hs : s.size ≤ 140737488355328) :
    Calls Tryd.prog 6 #[.string s] w0 fun e w' => e = .returned (.bool true) ∧ Below w0.heap.size w0 w' := by
  by_cases h : s.size ≤ 300
  · rcases h1 : descO s.data.toList with _ | ⟨a, O⟩
    · exact again7_no s w0 (Lib.hid H) h h1
    · exact again7_yes s a O w0 (Lib.hid H) h h1
  · have hx : (s.extract 0 300).size ≤ 300 := by
      rw [ByteArray.size_extract]
      omega
    rcases h1 : descO (s.extract 0 300).data.toList with _ | ⟨a, O⟩
    · exact again7_no_cut s _ rfl (by omega) (by omega) w0 (Lib.hid H) hx h1
    · exact again7_yes_cut s _ rfl (by omega) (by omega) a O w0 (Lib.hid H) hx h1
end Go.Proofs.YtpmcdkalmdlahaaDoor
