/-
  The walk of the law WholeTexts.
-/
import Derived.Test.YthdiaghkpolonaaDoorW
namespace Go.Proofs.YthdiaghkpolonaaDoor
open Go.RowKit Go.Lib

theorem self_true (p : ByteArray) : (p.toList == p.toList) = true := by simp
theorem num_true (x : Int) : (x == x) = true := by simp
theorem bool_true (x : Bool) : (x == x) = true := by simp

set_option maxRecDepth 4000 in
set_option maxHeartbeats 1600000 in
theorem texts_walk (n : Int) (s t : ByteArray) (w : World) (h1 : -9223372036854775808 ≤ n) (h2 : n ≤ 9223372036854775807) (ms : s.size ≤ 140737488351232) (mt : t.size ≤ 140737488351232) (tab : Tab w) :
    Calls Tryd.prog 3 #[.int .i64 n, .string s, .string t] w fun e w' => e = .returned (.bool true) ∧ Below w.heap.size w w' := by
  have ms2 : s.size ≤ maxLen := by unfold maxLen; omega
  have mt2 : t.size ≤ maxLen := by unfold maxLen; omega
  by_cases hlong : (600 : Int) < (s.size : Int) + (t.size : Int)
  · go_enter Tryd.func3, Tryd.ntmps3
    go_wp2_with fail
    go_ret
    exact ⟨rfl, Below.refl _ _⟩
  · obtain ⟨d, hd⟩ : ∃ d, d = rdD s.data.toList := ⟨_, rfl⟩
    obtain ⟨x, y⟩ := d
    obtain ⟨p, hp⟩ : ∃ p, p = baL (itoa n) := ⟨_, rfl⟩
    obtain ⟨q, hq⟩ : ∃ q, q = baL (plainL s.data.toList) := ⟨_, rfl⟩
    obtain ⟨v, hv⟩ : ∃ v, v = validL s.data.toList := ⟨_, rfl⟩
    obtain ⟨c, hc⟩ : ∃ c, c = cmpL s.data.toList t.data.toList := ⟨_, rfl⟩
    have C1 : ∀ w, Calls Tryd.prog 7 #[.string s] w fun e w' => e = .returned (tupD (x, y)) ∧ Below w.heap.size w w' := fun w => by rw [hd]; exact w_readDigits s w ms2
    have C2 : ∀ w, Calls Tryd.prog 8 #[.string s] w fun e w' => e = .returned (tupD (x, y)) ∧ w' = w := fun w => by rw [hd]; exact readDigits_any s w ms2
    have C3 : ∀ v, Below w.heap.size w v → Calls Tryd.prog 9 #[.int .i64 n] v fun e w' => e = .returned (.string p) ∧ Below v.heap.size v w' := fun v hv => by rw [hp]; exact w_digits n v h1 h2 (tab.below hv)
    have C4 : ∀ w, Calls Tryd.prog 10 #[.int .i64 n] w fun e w' => e = .returned (.string p) ∧ w' = w := fun w => by rw [hp]; exact digits_any n.natAbs n w (Nat.le_refl _) h1 h2
    have C5 : ∀ w, Calls Tryd.prog 11 #[.string s] w fun e w' => e = .returned (.bool v) ∧ Below w.heap.size w w' := fun w => by rw [hv]; exact w_valid s w ms2
    have C6 : ∀ w, Calls Tryd.prog 12 #[.string s] w fun e w' => e = .returned (.bool v) ∧ w' = w := fun w => by rw [hv]; exact valid_any s w ms2
    have C7 : ∀ w, Calls Tryd.prog 13 #[.string s] w fun e w' => e = .returned (.string q) ∧ Below w.heap.size w w' := fun w => by rw [hq]; exact w_plain s w ms
    have C8 : ∀ w, Calls Tryd.prog 14 #[.string s] w fun e w' => e = .returned (.string q) ∧ w' = w := fun w => by rw [hq]; exact plain_any s w ms2
    have C9 : ∀ w, Calls Tryd.prog 15 #[.string s, .string t] w fun e w' => e = .returned (.int .i64 c) ∧ Below w.heap.size w w' := fun w => by rw [hc]; exact w_compare s t w ms2 mt2
    have C0 : ∀ w, Calls Tryd.prog 16 #[.string s, .string t] w fun e w' => e = .returned (.int .i64 c) ∧ w' = w := fun w => by rw [hc]; exact compare_any s t w ms2 mt2
    have CZ : ∀ v, Below w.heap.size w v → Calls Tryd.prog 9 #[.int .i64 (-70)] v fun e w' => e = .returned (.string (baL [45, 55, 48])) ∧ Below v.heap.size v w' := fun v hv => by
      have e : itoa (-70) = [45, 55, 48] := by
        unfold itoa
        rw [if_pos (by decide), show (-70 : Int).natAbs = 70 from rfl, decDigits_big (by decide), decDigits_small (by decide)]
        rfl
      rw [← e]
      exact w_digits (-70) v (by decide) (by decide) (tab.below hv)
    clear hd hp hq hv hc tab ms ms2 mt mt2
    replace C1 := Lib.hid C1
    replace C2 := Lib.hid C2
    replace C3 := Lib.hid C3
    replace C4 := Lib.hid C4
    replace C5 := Lib.hid C5
    replace C6 := Lib.hid C6
    replace C7 := Lib.hid C7
    replace C8 := Lib.hid C8
    replace C9 := Lib.hid C9
    replace C0 := Lib.hid C0
    replace CZ := Lib.hid CZ
    have e1 := self_true p
    have e2 := self_true q
    have e3 := num_true (x : Int)
    have e4 := bool_true y
    have e5 := bool_true v
    have e6 := num_true c
    have e7 : ((baL [45, 55, 48]).toList == [45, 55, 48]) = true := by rw [ByteArray.toList_eq]; rfl
    go_enter Tryd.func3, Tryd.ntmps3
    go_wp2_with fail
    refine (C1.out _).mono ?_
    unfold tupD
    rintro e w1 ⟨rfl, hb1⟩
    replace hb1 := Lib.hid hb1
    go_wp2_with fail
    refine (C2.out _).mono ?_
    unfold tupD
    rintro e w2 ⟨rfl, rfl⟩
    go_wp2_with fail
    refine (C3.out _ hb1.out).mono ?_
    rintro e w2 ⟨rfl, hb2⟩
    replace hb2 := Lib.hid (hb1.out.trans (hb2.mono hb1.out.size))
    go_wp2_with fail
    refine (C4.out _).mono ?_
    rintro e w3 ⟨rfl, rfl⟩
    go_wp2_with fail
    refine (C5.out _).mono ?_
    rintro e w3 ⟨rfl, hb3⟩
    replace hb3 := Lib.hid (hb2.out.trans (hb3.mono hb2.out.size))
    go_wp2_with fail
    refine (C6.out _).mono ?_
    rintro e w4 ⟨rfl, rfl⟩
    go_wp2_with fail
    refine (C7.out _).mono ?_
    rintro e w4 ⟨rfl, hb4⟩
    replace hb4 := Lib.hid (hb3.out.trans (hb4.mono hb3.out.size))
    go_wp2_with fail
    refine (C8.out _).mono ?_
    rintro e w5 ⟨rfl, rfl⟩
    go_wp2_with fail
    refine (C9.out _).mono ?_
    rintro e w5 ⟨rfl, hb5⟩
    replace hb5 := Lib.hid (hb4.out.trans (hb5.mono hb4.out.size))
    go_wp2_with fail
    refine (C0.out _).mono ?_
    rintro e w6 ⟨rfl, rfl⟩
    go_wp2_with fail
    refine (CZ.out _ hb5.out).mono ?_
    rintro e w6 ⟨rfl, hb6⟩
    replace hb6 := Lib.hid (hb5.out.trans (hb6.mono hb5.out.size))
    go_wp2_with fail
    go_ret
    exact ⟨rfl, hb6.out⟩
end Go.Proofs.YthdiaghkpolonaaDoor
