/-
  The program's alike.
-/
import Derived.Test.YtgdoepkoakpnbaaPutP
import Derived.Test.YtgdoepkoakpnbaaEltSame
namespace Go.Proofs.Ytgdoepkoakpnbaa
open Go.RowKit

set_option maxRecDepth 4000 in
set_option maxHeartbeats 800000 in
theorem alike_tag (c c' n n' : Int) (m m' : Bool) (B B' K K' : Nat) (Ab Ab' Ak Ak' : Option Addr) (cb cb' ck ck' : Nat) (w : World) (h : ¬ (c = c' ∧ m = m' ∧ n = n')) :
    Calls Try.prog 26 #[.agg #[.int .i64 c, .bool m, .int .i64 n, .slice Ab B cb, .slice Ak K ck], .agg #[.int .i64 c', .bool m', .int .i64 n', .slice Ab' B' cb', .slice Ak' K' ck']] w fun e w' => e = .returned (.bool false) ∧ Below w.heap.size w w' := by
  by_cases h1 : c = c'
  · subst h1
    by_cases h2 : m = m'
    · subst h2
      have h3 : n ≠ n' := fun e => h ⟨rfl, rfl, e⟩
      have h4 : (n == n') = false := by simpa using h3
      clear h
      go_enter Try.func26, Try.ntmps26
      go_wp2_with fail
      go_ret
      exact ⟨rfl, by go_grown⟩
    · have h4 : (m == m') = false := by simpa using h2
      clear h
      go_enter Try.func26, Try.ntmps26
      go_wp2_with fail
      go_ret
      exact ⟨rfl, by go_grown⟩
  · have h4 : (c == c') = false := by simpa using h1
    clear h
    go_enter Try.func26, Try.ntmps26
    go_wp2_with fail
    go_ret
    exact ⟨rfl, by go_grown⟩
set_option maxRecDepth 4000 in
set_option maxHeartbeats 800000 in
theorem alike_rest (c n : Int) (m v : Bool) (B B' K K' : Nat) (Ab Ab' Ak Ak' : Option Addr) (cb cb' ck ck' : Nat) (w : World) 
    (CB : Hid (∀ w', Below w.heap.size w w' → Calls Try.prog 46 #[.slice Ab B cb, .slice Ab' B' cb'] w' fun e w'' => e = .returned (.bool v) ∧ w'' = w')) :
    Calls Try.prog 26 #[.agg #[.int .i64 c, .bool m, .int .i64 n, .slice Ab B cb, .slice Ak K ck], .agg #[.int .i64 c, .bool m, .int .i64 n, .slice Ab' B' cb', .slice Ak' K' ck']] w fun e w' => e = .returned (.bool (v && decide (K = K'))) ∧ Below w.heap.size w w' := by
  have h1 : (c == c) = true := beq_self_eq_true _
  have h2 : (m == m) = true := beq_self_eq_true _
  have h3 : (n == n) = true := beq_self_eq_true _
  cases v
  · go_enter Try.func26, Try.ntmps26
    go_wp2_with fail
    refine (CB.out _ (by go_grown)).mono ?_
    rintro e w2 ⟨rfl, rfl⟩
    dsimp only []
    go_wp2_with fail
    go_ret
    exact ⟨by simp, by go_grown⟩
  · by_cases h : K = K'
    · subst h
      have h4 : ((K : Int) == (K : Int)) = true := beq_self_eq_true _
      go_enter Try.func26, Try.ntmps26
      go_wp2_with fail
      refine (CB.out _ (by go_grown)).mono ?_
      rintro e w2 ⟨rfl, rfl⟩
      dsimp only []
      go_wp2_with fail
      go_ret
      exact ⟨by simp, by go_grown⟩
    · have h4 : ((K : Int) == (K' : Int)) = false := by simp; omega
      have h5 : (K == K') = false := by simp; omega
      have h6 : decide (K = K') = false := decide_eq_false h
      go_enter Try.func26, Try.ntmps26
      go_wp2_with fail
      refine (CB.out _ (by go_grown)).mono ?_
      rintro e w2 ⟨rfl, rfl⟩
      dsimp only []
      go_wp2_with fail
      go_ret
      exact ⟨by simp [h], by go_grown⟩
theorem bytes_toList (a b : List Nat) (ha : ∀ x ∈ a, x < 256) (hb : ∀ x ∈ b, x < 256) : ((strB a).toList == (strB b).toList) = decide (a = b) := by
  rw [Bool.eq_iff_iff, decide_eq_true_iff, beq_iff_eq, ByteArray.toList_eq, ByteArray.toList_eq]
  constructor
  · intro h
    exact strB_inj ha hb (by
      have : (strB a).data = (strB b).data := Array.toList_inj.1 h
      cases h1 : strB a
      cases h2 : strB b
      rw [h1, h2] at this
      simp only at this
      rw [this])
  · rintro rfl
    rfl
theorem alike_el (e f : El) (w : World) (Ab Ab' Ak Ak' : Option Addr) (cb cb' ck ck' : Nat) (h1 : ElIn w (· < w.heap.size) e Ab cb Ak ck) (h2 : ElIn w (· < w.heap.size) f Ab' cb' Ak' ck') (hb1 : ∀ x ∈ e.b, x < 256) (hb2 : ∀ x ∈ f.b, x < 256) :
    Calls Try.prog 26 #[elV e Ab cb Ak ck, elV f Ab' cb' Ak' ck'] w fun en w' => en = .returned (.bool (e.head f)) ∧ Below w.heap.size w w' := by
  unfold elV
  by_cases h : e.c = f.c ∧ e.m = f.m ∧ e.n = f.n
  · have := alike_rest f.c f.n f.m (decide (e.b = f.b)) e.b.length f.b.length e.kids.length f.kids.length Ab Ab' Ak Ak' cb cb' ck ck' w (Lib.hid fun w' hb => by
      have := Try.bytes_Equal_strs (.slice Ab e.b.length cb) (.slice Ab' f.b.length cb') (strB e.b) (strB f.b) w' ((h1.b.keep fun p hp => hb.cell hp).conv fun i hi => Nat.lt_of_lt_of_le hi hb.size) ((h2.b.keep fun p hp => hb.cell hp).conv fun i hi => Nat.lt_of_lt_of_le hi hb.size)
      rwa [bytes_toList _ _ hb1 hb2] at this)
    unfold El.head
    rw [h.1, h.2.1, h.2.2]
    simpa using this
  · have := alike_tag e.c f.c e.n f.n e.m f.m e.b.length f.b.length e.kids.length f.kids.length Ab Ab' Ak Ak' cb cb' ck ck' w h
    have hh : e.head f = false := by
      unfold El.head
      rw [Bool.eq_false_iff]
      intro he
      simp at he
      exact h ⟨he.1.1.1.1, he.1.1.1.2, he.1.1.2⟩
    rw [hh]
    exact this
end Go.Proofs.Ytgdoepkoakpnbaa
