/-
  The document's own Right and Put answer the same.
-/
import Derived.Test.YtgdoepkoakpnbaaRefPutLen
import Derived.Test.YtgdoepkoakpnbaaBackNum
namespace Go.Proofs.Ytgdoepkoakpnbaa
open Go.RowKit

set_option maxHeartbeats 400000 in
theorem refRight_yes (c n : Int) (w : World) (h1 : 0 ≤ c) (h2 : c ≤ 3) (h3 : 0 ≤ n) (h4 : n ≤ 268435455) :
    Calls Try.prog 29 #[.int .i64 c, .int .i64 n] w fun e w' => e = .returned (.bool true) ∧ w = w' := by
  go_enter Try.func29, Try.ntmps29
  go_wp2
  go_ret
  refine ⟨?_, rfl⟩
  simp

set_option maxHeartbeats 400000 in
theorem refRight_no (c n : Int) (w : World) (h : ¬ RightT c n) :
    Calls Try.prog 29 #[.int .i64 c, .int .i64 n] w fun e w' => e = .returned (.bool false) ∧ w = w' := by
  unfold RightT at h
  replace h := Lib.hid h
  go_enter Try.func29, Try.ntmps29
  go_wp2
  all_goals
    go_ret
    refine ⟨?_, rfl⟩
    first | rfl | (have := h.out; simp; omega)

set_option maxRecDepth 4000 in
set_option maxHeartbeats 800000 in
theorem refPut_no (A : Option Addr) (cp : Nat) (l : List Nat) (c n : Int) (m : Bool) (w : World) (hs : Src w w.heap.size A cp l) (hl : l.length ≤ 1048000) (hr : ¬ RightT c n) :
    Calls Try.prog 45 #[.slice A l.length cp, .int .i64 c, .bool m, .int .i64 n] w fun e w' => ∃ A' c', e = .returned (.slice A' l.length c') ∧ Own w' w.heap.size (.slice A' l.length c') l ∧ Below w.heap.size w w' := by
  replace hs := Lib.hid hs
  replace hr := Lib.hid hr
  go_enter Try.func45, Try.ntmps45
  go_wp2_with (at_builtin; refine append_src rfl (.tmp 12) (.tmp 13) rfl w.heap.size _ [] rfl (Own.lit w) w.heap.size A cp l rfl (hs.out.alloc (Nat.le_refl _) _) (by simp; omega) (by simp) ?_; intro A1 c1 w1 ho1 hb1; have HO1 := Lib.hid ho1; have HB1 := Lib.hid (((Below.refl w.heap.size w).alloc (Nat.le_refl _) _).trans hb1); clear ho1 hb1)
  refine (refRight_no c n _ hr.out).mono ?_
  rintro e w2 ⟨rfl, rfl⟩
  go_wp2_with fail
  go_ret
  exact ⟨A1, c1, rfl, HO1.out, HB1.out⟩

set_option maxRecDepth 4000 in
set_option maxHeartbeats 800000 in
theorem refPut_short (A : Option Addr) (cp : Nat) (l : List Nat) (c n h : Nat) (m : Bool) (w : World) (hs : Src w w.heap.size A cp l) (hl : l.length ≤ 1048000) (hc : c ≤ 3) (hn : n < 31) (hh : h = c * 64 + (if m then 32 else 0)) :
    Calls Try.prog 45 #[.slice A l.length cp, .int .i64 (c : Int), .bool m, .int .i64 (n : Int)] w fun e w' => ∃ A' c', e = .returned (.slice A' (l.length + 1) c') ∧ Own w' w.heap.size (.slice A' (l.length + 1) c') (l ++ [h + n]) ∧ Below w.heap.size w w' := by
  replace hs := Lib.hid hs
  have hr : RightT (c : Int) (n : Int) := ⟨by omega, by omega, by omega, by omega⟩
  replace hr := Lib.hid hr
  cases m
  · have hh' : (h : Int) = (c : Int) * 64 := by simp at hh; omega
    replace hh' := Lib.hid hh'
    clear hh
    go_enter Try.func45, Try.ntmps45
    go_wp2_with (at_builtin; refine append_src rfl (.tmp 12) (.tmp 13) rfl w.heap.size _ [] rfl (Own.lit w) w.heap.size A cp l rfl (hs.out.alloc (Nat.le_refl _) _) (by simp; omega) (by simp) ?_; intro A1 c1 w1 ho1 hb1; have HO1 := Lib.hid ho1; have HB1 := Lib.hid (((Below.refl w.heap.size w).alloc (Nat.le_refl _) _).trans hb1); have hsz1 := HB1.out.size; clear ho1 hb1)
    refine (refRight_yes c n _ hr.out.1 hr.out.2.1 hr.out.2.2.1 hr.out.2.2.2).mono ?_
    rintro e w2 ⟨rfl, rfl⟩
    go_wp2_with (at_builtin; refine append_srcN rfl (.tmp 27) (.tmp 32) rfl w.heap.size _ l rfl (HO1.out.alloc _) (w1.heap.size + 1) (some ⟨w1.heap.size, 0, none⟩) 1 [h + n] 1 rfl rfl (Src.oneI w1 (h + n) ((c : Int) * 64 + (n : Int)) (by have := hh'.out; omega)) (by simp; omega) (by simp; omega) ?_; intro A2 c2 w2 ho2 hb2; have HO2 := Lib.hid ho2; have HB2 := Lib.hid (HB1.out.trans (((Below.refl w.heap.size w1).alloc hsz1 _).trans hb2)); clear ho2 hb2)
    go_ret
    have k := HO2.out
    rw [List.length_append] at k
    exact ⟨A2, c2, rfl, k, HB2.out⟩
  · have hh' : (h : Int) = (c : Int) * 64 + 32 := by simp at hh; omega
    replace hh' := Lib.hid hh'
    clear hh
    go_enter Try.func45, Try.ntmps45
    go_wp2_with (at_builtin; refine append_src rfl (.tmp 12) (.tmp 13) rfl w.heap.size _ [] rfl (Own.lit w) w.heap.size A cp l rfl (hs.out.alloc (Nat.le_refl _) _) (by simp; omega) (by simp) ?_; intro A1 c1 w1 ho1 hb1; have HO1 := Lib.hid ho1; have HB1 := Lib.hid (((Below.refl w.heap.size w).alloc (Nat.le_refl _) _).trans hb1); have hsz1 := HB1.out.size; clear ho1 hb1)
    refine (refRight_yes c n _ hr.out.1 hr.out.2.1 hr.out.2.2.1 hr.out.2.2.2).mono ?_
    rintro e w2 ⟨rfl, rfl⟩
    go_wp2_with (at_builtin; refine append_srcN rfl (.tmp 27) (.tmp 32) rfl w.heap.size _ l rfl (HO1.out.alloc _) (w1.heap.size + 1) (some ⟨w1.heap.size, 0, none⟩) 1 [h + n] 1 rfl rfl (Src.oneI w1 (h + n) ((c : Int) * 64 + 32 + (n : Int)) (by have := hh'.out; omega)) (by simp; omega) (by simp; omega) ?_; intro A2 c2 w2 ho2 hb2; have HO2 := Lib.hid ho2; have HB2 := Lib.hid (HB1.out.trans (((Below.refl w.heap.size w1).alloc hsz1 _).trans hb2)); clear ho2 hb2)
    go_ret
    have k := HO2.out
    rw [List.length_append] at k
    exact ⟨A2, c2, rfl, k, HB2.out⟩
end Go.Proofs.Ytgdoepkoakpnbaa
