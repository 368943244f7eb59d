/-
  FrameParts: its walk.
-/
import Derived.Test.YtklpjdcmppohkaaDoorFScan
import Derived.Test.YtklpjdcmppohkaaDoorOpenW
namespace Go.Proofs.YtklpjdcmppohkaaDoor
open Go.RowKit

theorem parts_sum (a b : List Nat) : crc (sumN a ^^^ 4294967295) b ^^^ 4294967295 = sumN (a ++ b) := by
  unfold sumN
  rw [Nat.xor_assoc, Nat.xor_self, Nat.xor_zero, crc_append]
theorem sumN_nil : sumN [] = 0 := by
  unfold sumN
  rw [crc_nil, Nat.xor_self]
theorem sumN_zero : sumN [0] = 3523407757 := by decide +kernel

set_option maxRecDepth 8000 in
theorem parts_long (A B : Option Addr) (ca cb n m : Nat) (w : World) (hnm : 3000 < n + m) (h63 : n + m ≤ 9223372036854775807) :
    Calls Tryd.prog 7 #[.slice A n ca, .slice B m cb] w fun e w' => e = .returned (.bool true) ∧ Below w.heap.size w w' := by
  have k0 : 3000 < (n : Int) + (m : Int) := by omega
  go_enter Tryd.func7, Tryd.ntmps7
  go_wp2_with fail
  go_ret
  exact ⟨rfl, Below.refl _ _⟩
set_option maxRecDepth 8000 in
set_option maxHeartbeats 1600000 in
theorem parts_short (A B : Option Addr) (ca cb n m : Nat) (a b : List Nat) (w : World) (ha : Src w w.heap.size A ca a) (hb : Src w w.heap.size B cb b) (hba : ∀ x ∈ a, x < 256) (hbb : ∀ x ∈ b, x < 256) (hn : a.length = n) (hm : b.length = m) (hnm : n + m ≤ 3000) (tab : Tab w) :
    Calls Tryd.prog 7 #[.slice A n ca, .slice B m cb] w fun e w' => e = .returned (.bool true) ∧ Below w.heap.size w w' := by
  have k0 : (n : Int) + (m : Int) ≤ 3000 := by omega
  have C1 := Lib.hid (sum_any A ca n a w _ ha hn (by omega) hba tab)
  have hs1 := sumN_lt a hba
  have C2 := more_any B cb m b w _ (sumN a) hb hm (by omega) hbb hs1 tab
  rw [parts_sum] at C2
  obtain ⟨U, hU⟩ : ∃ U, U = a ++ b := ⟨_, rfl⟩
  rw [← hU] at C2
  have CU : Hid (∀ A' c' w', Src w' w'.heap.size A' c' U → Below w.heap.size w w' → Calls Tryd.prog 15 #[.slice A' (n + m) c'] w' fun e w'' => e = .returned (.int .u32 ((sumN U : Nat) : Int)) ∧ w'' = w') := Lib.hid fun A' c' w' h hb => by
    refine sum_any A' c' (n + m) U w' _ h (by rw [hU, List.length_append, hn, hm]) (by omega) (fun x hx => ?_) (tab.below hb (Nat.le_refl _))
    rw [hU] at hx
    rcases List.mem_append.1 hx with hx | hx
    · exact hba x hx
    · exact hbb x hx
  have C0 : Hid (∀ w', Below w.heap.size w w' → Calls Tryd.prog 15 #[.slice none 0 0] w' fun e w'' => e = .returned (.int .u32 0) ∧ w'' = w') := Lib.hid fun w' hb => by
    have := sum_any none 0 0 [] w' w'.heap.size (Src.none_ _ _) rfl (by omega) (by simp) (tab.below hb (Nat.le_refl _))
    rw [sumN_nil] at this
    exact this
  have C9 : Hid (∀ w', Below w.heap.size w w' → Calls Tryd.prog 15 #[.slice (some ⟨w'.heap.size, 0, none⟩) 1 1] (w'.alloc (.cells #[.int .u8 0] 5)) fun e w'' => e = .returned (.int .u32 3523407757) ∧ w'' = w'.alloc (.cells #[.int .u8 0] 5)) := Lib.hid fun w' hb => by
    have := sum_any (some ⟨w'.heap.size, 0, none⟩) 1 1 [0] (w'.alloc (.cells #[.int .u8 0] 5)) _ (Src.one w' 0) rfl (by omega) (by simp) (tab.below (hb.alloc hb.size _) (Nat.le_refl _))
    rw [sumN_zero] at this
    exact this
  obtain ⟨s, hs⟩ : ∃ s, s = sumN a := ⟨_, rfl⟩
  obtain ⟨t, ht⟩ : ∃ t, t = sumN U := ⟨_, rfl⟩
  rw [← hs] at C1 C2 hs1
  rw [← ht] at C2 CU
  replace C2 := Lib.hid C2
  replace hs := Lib.hid hs
  replace ht := Lib.hid ht
  replace hU := Lib.hid hU
  replace ha := Lib.hid ha
  replace hb := Lib.hid hb
  replace hba := Lib.hid hba
  replace hbb := Lib.hid hbb
  replace hn := Lib.hid hn
  replace hm := Lib.hid hm
  replace tab := Lib.hid tab
  go_enter Tryd.func7, Tryd.ntmps7
  go_wp2_with fail
  refine C1.out.mono ?_
  rintro _ w2 ⟨rfl, h2⟩
  subst w2
  dsimp only []
  go_wp2_with fail
  refine C2.out.mono ?_
  rintro _ w2 ⟨rfl, h2⟩
  subst w2
  dsimp only []
  go_wp2_with (first
    | (at_builtin; refine append_to rfl (.tmp 15) (.tmp 16) rfl w.heap.size _ [] 0 rfl rfl (Own.lit w) w.heap.size A ca a n hn.out rfl (ha.out.alloc' (Nat.le_refl _) _) n (by omega) (by omega) (by simp) ?_; intro A1 c1 w1 ho1 hb1 _; rw [List.nil_append] at ho1; have HO1 := Lib.hid ho1; have HB1 := Lib.hid (below_lit hb1); have hz1 := HB1.out.size; clear ho1 hb1)
    | (at_builtin; refine append_to rfl (.tmp 17) (.tmp 18) rfl w.heap.size _ a n hn.out rfl HO1.out w.heap.size B cb b m hm.out rfl (hb.out.below HB1.out) (n + m) rfl (by omega) hz1 ?_; intro A2 c2 w2 ho2 hb2 _; rw [← hU.out] at ho2; have HO2 := Lib.hid ho2; have HB2 := Lib.hid (HB1.out.trans hb2); have hz2 := HB2.out.size; clear ho2 hb2))
  refine (CU.out A2 c2 w2 HO2.out.src HB2.out).mono ?_
  rintro _ w3 ⟨rfl, h2⟩
  subst w3
  dsimp only []
  go_wp2_with fail
  refine (C0.out w2 HB2.out).mono ?_
  rintro _ w3 ⟨rfl, h2⟩
  subst w3
  dsimp only []
  go_wp2_with fail
  refine (C9.out w2 HB2.out).mono ?_
  rintro _ w3 ⟨rfl, h2⟩
  subst w3
  dsimp only []
  go_wp2_with fail
  go_ret
  exact ⟨rfl, HB2.out.alloc hz2 _⟩
theorem parts_walk (A B : Option Addr) (ca cb : Nat) (a b : List Nat) (w : World) (ha : Src w w.heap.size A ca a) (hb : Src w w.heap.size B cb b) (hba : ∀ x ∈ a, x < 256) (hbb : ∀ x ∈ b, x < 256) (h1 : ca ≤ 140737488355328) (h2 : cb ≤ 140737488355328) (tab : Tab w) :
    Calls Tryd.prog 7 #[.slice A a.length ca, .slice B b.length cb] w fun e w' => e = .returned (.bool true) ∧ Below w.heap.size w w' := by
  have := ha.le
  have := hb.le
  by_cases h : a.length + b.length ≤ 3000
  · exact parts_short A B ca cb _ _ a b w ha hb hba hbb rfl rfl h tab
  · exact parts_long A B ca cb _ _ w (by omega) (by omega)
end Go.Proofs.YtklpjdcmppohkaaDoor
