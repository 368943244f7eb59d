/-
  The document's Put of an element.
-/
import Derived.Test.YtgdoepkoakpnbaaEltBytes
import Derived.Test.YtgdoepkoakpnbaaEltSame
namespace Go.Proofs.Ytgdoepkoakpnbaa
open Go.RowKit

/-- Put. -/
def El.put (e : El) : List Nat × Nat := if e.right = false then ([], 2) else if 24 < e.deep then ([], 15) else if 16384 < e.enc.length then ([], 3) else (e.enc, 0)
theorem El.put_cases (e : El) : (e.right = false ∧ e.put = ([], 2)) ∨ (e.right = true ∧ 24 < e.deep ∧ e.put = ([], 15)) ∨ (e.right = true ∧ e.deep ≤ 24 ∧ 16384 < e.enc.length ∧ e.put = ([], 3)) ∨ (e.right = true ∧ e.deep ≤ 24 ∧ e.enc.length ≤ 16384 ∧ e.put = (e.enc, 0)) := by
  unfold El.put
  by_cases h1 : e.right = false
  · left
    exact ⟨h1, if_pos h1⟩
  · have h1' : e.right = true := by simpa using h1
    rw [if_neg h1]
    by_cases h2 : 24 < e.deep
    · right; left
      exact ⟨h1', h2, if_pos h2⟩
    · rw [if_neg h2]
      by_cases h3 : 16384 < e.enc.length
      · right; right; left
        exact ⟨h1', by omega, h3, if_pos h3⟩
      · right; right; right
        exact ⟨h1', by omega, by omega, if_neg h3⟩

set_option maxRecDepth 8000 in
set_option maxHeartbeats 800000 in
theorem refPut_el (e : El) (w : World) (Ab : Option Addr) (cb : Nat) (Ak : Option Addr) (ck : Nat) (hin : ElIn w (· < w.heap.size) e Ab cb Ak ck) (hd : e.deep ≤ 1000000) (hle : e.right = true → e.enc.length ≤ 1000000) :
    Calls Try.prog 11 #[elV e Ab cb Ak ck] w fun en w' => ∃ A' c', en = .returned (.tuple #[.slice A' e.put.1.length c', .int .i64 (e.put.2 : Int)]) ∧ Src w' w'.heap.size A' c' e.put.1 ∧ Below w.heap.size w w' := by
  have CR : ∀ w', Below w.heap.size w w' → Calls Try.prog 14 #[elV e Ab cb Ak ck] w' fun en w2 => en = .returned (.bool e.right) ∧ Below w'.heap.size w' w2 := fun w' hb => refRight_el e w' Ab cb Ak ck ((hin.below hb).more fun i hi => Nat.lt_of_lt_of_le hi hb.size)
  have CD : ∀ w', Below w.heap.size w w' → Calls Try.prog 24 #[elV e Ab cb Ak ck] w' fun en w2 => en = .returned (.int .i64 (e.deep : Int)) ∧ Below w'.heap.size w' w2 := fun w' hb => refDeep_el e w' Ab cb Ak ck ((hin.below hb).more fun i hi => Nat.lt_of_lt_of_le hi hb.size) hd
  have CB : e.right = true → ∀ w', Below w.heap.size w w' → Calls Try.prog 25 #[elV e Ab cb Ak ck] w' fun en w2 => ∃ A' c', en = .returned (.slice A' e.enc.length c') ∧ Own w2 w'.heap.size (.slice A' e.enc.length c') e.enc ∧ Below w'.heap.size w' w2 := fun hr w' hb => refBytes_el e w' Ab cb Ak ck ((hin.below hb).more fun i hi => Nat.lt_of_lt_of_le hi hb.size) hr (hle hr)
  unfold elV at CR CD CB ⊢
  have HBX : Hid (∀ o, Below w.heap.size w (w.alloc o)) := Lib.hid fun o => (Below.refl _ _).alloc (Nat.le_refl _) o
  rcases e.put_cases with ⟨h1, hp⟩ | ⟨h1, h2, hp⟩ | ⟨h1, h2, h3, hp⟩ | ⟨h1, h2, h3, hp⟩
  all_goals
    rw [hp]
    rw [h1] at CR
  · replace CR := Lib.hid CR
    clear hp h1 CD CB hin
    go_enter Try.func11, Try.ntmps11
    go_wp2_with fail
    refine (CR.out _ (HBX.out _)).mono ?_
    rintro en w1 ⟨rfl, hb1⟩
    have HB1 := Lib.hid (show Below (w.heap.size + 1) (w.alloc (.cells #[.int .i64 e.c, .bool e.m, .int .i64 e.n, .slice Ab e.b.length cb, .slice Ak e.kids.length ck] 30)) w1 from hb1.mono (by simp))
    clear hb1
    go_wp2_with fail
    go_ret2
    exact ⟨none, 0, rfl, Src.none_ _ _, boxB HB1.out⟩
  · obtain ⟨D, hD⟩ : ∃ D, D = e.deep := ⟨_, rfl⟩
    rw [← hD] at CD h2 hd
    have k2 : decide (24 < (D : Int)) = true := decide_eq_true (by omega)
    replace CR := Lib.hid CR
    replace CD := Lib.hid CD
    clear hp h1 CB hin hD
    go_enter Try.func11, Try.ntmps11
    go_wp2_with fail
    refine (CR.out _ (HBX.out _)).mono ?_
    rintro en w1 ⟨rfl, hb1⟩
    have HB1 := Lib.hid (show Below (w.heap.size + 1) (w.alloc (.cells #[.int .i64 e.c, .bool e.m, .int .i64 e.n, .slice Ab e.b.length cb, .slice Ak e.kids.length ck] 30)) w1 from hb1.mono (by simp))
    clear hb1
    obtain ⟨g0, g1, g2, g3, g4⟩ := box5 HB1.out
    go_wp2_with fail
    refine (CD.out _ (boxB HB1.out)).mono ?_
    rintro en w2 ⟨rfl, hb2⟩
    have HB2 := Lib.hid (HB1.out.trans (hb2.mono (Nat.le_trans (by simp) HB1.out.size)))
    clear hb2 g0 g1 g2 g3 g4
    go_wp2_with fail
    go_ret2
    exact ⟨none, 0, rfl, Src.none_ _ _, boxB HB2.out⟩
  · obtain ⟨D, hD⟩ : ∃ D, D = e.deep := ⟨_, rfl⟩
    rw [← hD] at CD h2 hd
    have k2 : decide (24 < (D : Int)) = false := decide_eq_false (by omega)
    replace CB := CB h1
    obtain ⟨E, hE⟩ : ∃ E, E = e.enc := ⟨_, rfl⟩
    rw [← hE] at CB h3
    obtain ⟨N, hN⟩ : ∃ N, N = E.length := ⟨_, rfl⟩
    rw [← hN] at CB h3
    have hN1 : N ≤ 1000000 := by rw [hN, hE]; exact hle h1
    have k3 : decide (16384 < (N : Int)) = true := decide_eq_true (by omega)
    replace CR := Lib.hid CR
    replace CD := Lib.hid CD
    replace CB := Lib.hid CB
    clear hp h1 hin hD hE hN
    go_enter Try.func11, Try.ntmps11
    go_wp2_with fail
    refine (CR.out _ (HBX.out _)).mono ?_
    rintro en w1 ⟨rfl, hb1⟩
    have HB1 := Lib.hid (show Below (w.heap.size + 1) (w.alloc (.cells #[.int .i64 e.c, .bool e.m, .int .i64 e.n, .slice Ab e.b.length cb, .slice Ak e.kids.length ck] 30)) w1 from hb1.mono (by simp))
    clear hb1
    obtain ⟨g0, g1, g2, g3, g4⟩ := box5 HB1.out
    go_wp2_with fail
    refine (CD.out _ (boxB HB1.out)).mono ?_
    rintro en w2 ⟨rfl, hb2⟩
    have HB2 := Lib.hid (HB1.out.trans (hb2.mono (Nat.le_trans (by simp) HB1.out.size)))
    clear hb2 g0 g1 g2 g3 g4
    obtain ⟨g0, g1, g2, g3, g4⟩ := box5 HB2.out
    go_wp2_with fail
    refine (CB.out _ (boxB HB2.out)).mono ?_
    rintro en w3 ⟨A3, c3, rfl, ho3, hb3⟩
    have HO3 := Lib.hid ho3.src
    have HB3 := Lib.hid (HB2.out.trans (hb3.mono (Nat.le_trans (by simp) HB2.out.size)))
    clear hb3 ho3 g0 g1 g2 g3 g4
    go_wp2_with fail
    go_ret2
    exact ⟨none, 0, rfl, Src.none_ _ _, boxB HB3.out⟩
  · obtain ⟨D, hD⟩ : ∃ D, D = e.deep := ⟨_, rfl⟩
    rw [← hD] at CD h2 hd
    have k2 : decide (24 < (D : Int)) = false := decide_eq_false (by omega)
    replace CB := CB h1
    obtain ⟨E, hE⟩ : ∃ E, E = e.enc := ⟨_, rfl⟩
    rw [← hE] at CB h3 ⊢
    obtain ⟨N, hN⟩ : ∃ N, N = E.length := ⟨_, rfl⟩
    rw [← hN] at CB h3
    have k3 : decide (16384 < (N : Int)) = false := decide_eq_false (by omega)
    replace CR := Lib.hid CR
    replace CD := Lib.hid CD
    replace CB := Lib.hid CB
    replace hN := Lib.hid hN
    clear hp h1 hin hD hE
    go_enter Try.func11, Try.ntmps11
    go_wp2_with fail
    refine (CR.out _ (HBX.out _)).mono ?_
    rintro en w1 ⟨rfl, hb1⟩
    have HB1 := Lib.hid (show Below (w.heap.size + 1) (w.alloc (.cells #[.int .i64 e.c, .bool e.m, .int .i64 e.n, .slice Ab e.b.length cb, .slice Ak e.kids.length ck] 30)) w1 from hb1.mono (by simp))
    clear hb1
    obtain ⟨g0, g1, g2, g3, g4⟩ := box5 HB1.out
    go_wp2_with fail
    refine (CD.out _ (boxB HB1.out)).mono ?_
    rintro en w2 ⟨rfl, hb2⟩
    have HB2 := Lib.hid (HB1.out.trans (hb2.mono (Nat.le_trans (by simp) HB1.out.size)))
    clear hb2 g0 g1 g2 g3 g4
    obtain ⟨g0, g1, g2, g3, g4⟩ := box5 HB2.out
    go_wp2_with fail
    refine (CB.out _ (boxB HB2.out)).mono ?_
    rintro en w3 ⟨A3, c3, rfl, ho3, hb3⟩
    have HO3 := Lib.hid ho3.src
    have HB3 := Lib.hid (HB2.out.trans (hb3.mono (Nat.le_trans (by simp) HB2.out.size)))
    clear hb3 ho3 g0 g1 g2 g3 g4
    go_wp2_with fail
    go_ret2
    exact ⟨A3, c3, by rw [hN.out]; rfl, HO3.out, boxB HB3.out⟩
end Go.Proofs.Ytgdoepkoakpnbaa
