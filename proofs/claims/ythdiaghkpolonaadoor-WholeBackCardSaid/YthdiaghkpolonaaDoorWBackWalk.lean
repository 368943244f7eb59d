/-
  The walk of the law WholeBack.
-/
import Derived.Test.YthdiaghkpolonaaDoorTextsWalk
import Derived.Deep.RegionLaw
namespace Go.Proofs.YthdiaghkpolonaaDoor
open Go.RowKit Go.Lib

theorem tupW_spell (q : Int × Nat) : tupW q = .tuple #[.int .i64 q.1, .int .i64 (q.2 : Int)] := rfl

set_option maxRecDepth 4000 in
set_option maxHeartbeats 1600000 in
theorem wback_in (n : Int) (w : World) (h1 : -9223372036854775808 ≤ n) (h2 : n ≤ 9223372036854775807) (hin : 0 ≤ n ∧ n < 1000000000000000000) (tab : Tab w) :
    Calls Tryd.prog 4 #[.int .i64 n] w fun e w' => e = .returned (.bool true) ∧ Below w.heap.size w w' := by
  have hlen := putW_len n
  have hby := putW_byte n
  have hback := putW_back n h1 h2
  obtain ⟨l, hl⟩ : ∃ l, l = putW n := ⟨_, rfl⟩
  have CP := fun w => w_put n w h1 h2
  rw [← hl] at hlen hby hback
  simp only [← hl] at CP
  clear hl
  rcases l with _ | ⟨h, r⟩
  · simp at hlen
  have hh : h < 256 := hby h (List.mem_cons_self ..)
  have hlong := rdW_long h r hh
  have hl8 := hlen.2
  clear hlen
  obtain ⟨L, hL⟩ : ∃ L, L = r.length := ⟨_, rfl⟩
  rw [List.length_cons, ← hL] at hl8
  simp only [List.length_cons, ← hL] at CP
  have RD : ∀ (A : Option Addr) (cp : Nat) (w : World) (K : Nat), Src w K A cp (h :: r) → Calls Tryd.prog 18 #[.slice A (L + 1) cp] w fun e w' => e = .returned (.tuple #[.int .i64 n, .int .i64 0]) ∧ Below w.heap.size w w' := fun A cp w K hs => by
    have := w_read A cp (h :: r) w K hs (by rw [List.length_cons]; omega) hby
    rw [hback, List.length_cons, ← hL] at this
    exact this
  have RL : ∀ (A : Option Addr) (cp : Nat) (w : World) (K : Nat), Src w K A cp (h / 128 * 255 :: h :: r) → Calls Tryd.prog 18 #[.slice A (1 + (L + 1)) cp] w fun e w' => e = .returned (.tuple #[.int .i64 0, .int .i64 11]) ∧ Below w.heap.size w w' := fun A cp w K hs => by
    have hby2 : ∀ x ∈ h / 128 * 255 :: h :: r, x < 256 := by
      intro x hx
      rcases List.mem_cons.1 hx with rfl | hx
      · omega
      · exact hby x hx
    have := w_read A cp (h / 128 * 255 :: h :: r) w K hs (by rw [List.length_cons, List.length_cons]; omega) hby2
    rw [hlong, List.length_cons, List.length_cons, ← hL, show L + 1 + 1 = 1 + (L + 1) from by omega] at this
    exact this
  obtain ⟨p, hp⟩ : ∃ p, p = baL (itoa n) := ⟨_, rfl⟩
  have hps : p.size ≤ 20 := by rw [hp]; exact itoa_size n h1 h2
  have mp : p.size ≤ maxLen := by unfold maxLen; omega
  have D1 : ∀ v, Below w.heap.size w v → Calls Tryd.prog 9 #[.int .i64 n] v fun e w' => e = .returned (.string p) ∧ Below v.heap.size v w' := fun v hv0 => by rw [hp]; exact w_digits n v h1 h2 (tab.below hv0)
  have D2 : ∀ w, Calls Tryd.prog 7 #[.string p] w fun e w' => e = .returned (tupD (n.toNat, true)) ∧ Below w.heap.size w w' := fun w => by
    have := w_readDigits p w mp
    rw [hp, baL_list, rdD_itoa, if_pos hin, ← hp] at this
    exact this
  have D3 : ∀ w, Calls Tryd.prog 11 #[.string p] w fun e w' => e = .returned (.bool true) ∧ Below w.heap.size w w' := fun w => by
    have := w_valid p w mp
    rw [hp, baL_list, (itoa_valid n).1, ← hp] at this
    exact this
  have D4 : ∀ w, Calls Tryd.prog 13 #[.string p] w fun e w' => e = .returned (.string p) ∧ Below w.heap.size w w' := fun w => by
    have := w_plain p w (by omega)
    rw [hp, baL_list, plain_itoa, ← hp] at this
    exact this
  have D5 : ∀ w, Calls Tryd.prog 13 #[.string { data := #[45, 48] }] w fun e w' => e = .returned (.string (baL [48])) ∧ Below w.heap.size w w' := fun w => by
    have e : plainL [45, 48] = [48] := by
      rw [plainL, if_pos (by decide), show valL [45, 48] = 0 from by decide]
      unfold itoa
      rw [if_neg (by decide), decDigits_small (by decide)]
      rfl
    have := w_plain { data := #[45, 48] } w (by decide)
    rw [show ({ data := #[45, 48] } : ByteArray).data.toList = [45, 48] from rfl, e] at this
    exact this
  have e1 := self_true p
  have e7 : ((baL [48]).toList == [48]) = true := by rw [ByteArray.toList_eq]; rfl
  have e8 := num_true n
  replace D1 := Lib.hid D1
  replace D2 := Lib.hid D2
  replace D3 := Lib.hid D3
  replace D4 := Lib.hid D4
  replace D5 := Lib.hid D5
  replace RD := Lib.hid RD
  replace RL := Lib.hid RL
  replace CP := Lib.hid CP
  replace hL := Lib.hid hL
  obtain ⟨hin1, hin2⟩ := hin
  clear hp mp hback hlong hby tab
  go_enter Tryd.func4, Tryd.ntmps4
  go_wp2_with fail
  refine (CP.out _).mono ?_
  rintro e w0 ⟨A, cp, rfl, hs0, hb0⟩
  obtain ⟨b, off, rfl, hlt, hc⟩ := hs0.plain (by simp)
  have hx0 : w0.cell? ⟨b, off, none⟩ = some (.int .u8 (h : Int)) := hc 0 (by simp)
  clear hc
  replace hx0 := Lib.hid hx0
  replace hs0 := Lib.hid hs0
  replace hb0 := Lib.hid hb0
  go_wp2_with fail
  refine (RD.out _ _ _ _ hs0.out).mono ?_
  rintro e w1 ⟨rfl, hbr⟩
  have hx : w1.cell? ⟨b, off, none⟩ = some (.int .u8 (h : Int)) := (hbr.cell (p := ⟨b, off, none⟩) hlt).trans hx0.out
  have hs := Lib.hid ((hs0.out.below hbr).more hbr.size)
  have hb1 := Lib.hid (hb0.out.trans (hbr.mono hb0.out.size))
  clear hx0 hs0 hb0 hbr
  go_wp2_with (at_builtin; refine append_srcF rfl (.tmp 41) (.tmp 42) rfl w1.heap.size (.slice (some ⟨w1.heap.size, 0, none⟩) 1 1) [h / 128 * 255] rfl (Own.oneI w1 w1.heap.size (h / 128 * 255) ((h : Int) / 128 * 255) (by omega) (Nat.le_refl _)) w1.heap.size (some ⟨b, off, none⟩) cp (h :: r) (L + 1) (by rw [List.length_cons, ← hL.out]) rfl (hs.out.alloc (Nat.le_refl _) _) (by simp [← hL.out]; omega) (by simp) ?_; intro A2 c2 w2 ho2 hb2 _; have HO2 := Lib.hid ho2; have HB2 := Lib.hid (show Below w.heap.size w w2 from hb1.out.trans ((((Below.refl w1.heap.size w1).alloc (Nat.le_refl _) _).trans hb2).mono hb1.out.size)); clear ho2 hb2)
  refine (RL.out _ _ _ _ HO2.out.src).mono ?_
  rintro e w3 ⟨rfl, hbl⟩
  replace HB2 := Lib.hid (HB2.out.trans (hbl.mono HB2.out.size))
  clear hbl
  go_wp2_with fail
  refine (D1.out _ HB2.out).mono ?_
  rintro e w3 ⟨rfl, hb3⟩
  replace hb3 := Lib.hid (HB2.out.trans (hb3.mono HB2.out.size))
  go_wp2_with fail
  refine (D2.out _).mono ?_
  unfold tupD
  rintro e w4 ⟨rfl, hb4⟩
  replace hb4 := Lib.hid (hb3.out.trans (hb4.mono hb3.out.size))
  go_wp2_with fail
  refine (D3.out _).mono ?_
  rintro e w5 ⟨rfl, hb5⟩
  replace hb5 := Lib.hid (hb4.out.trans (hb5.mono hb4.out.size))
  go_wp2_with fail
  refine (D4.out _).mono ?_
  rintro e w6 ⟨rfl, hb6⟩
  replace hb6 := Lib.hid (hb5.out.trans (hb6.mono hb5.out.size))
  go_wp2_with fail
  refine (D5.out _).mono ?_
  rintro e w7 ⟨rfl, hb7⟩
  replace hb7 := Lib.hid (hb6.out.trans (hb7.mono hb6.out.size))
  go_wp2_with fail
  go_ret
  exact ⟨rfl, hb7.out⟩

set_option maxRecDepth 4000 in
set_option maxHeartbeats 1600000 in
theorem wback_neg (n : Int) (w : World) (h1 : -9223372036854775808 ≤ n) (h2 : n ≤ 9223372036854775807) (hno : n < 0) (tab : Tab w) :
    Calls Tryd.prog 4 #[.int .i64 n] w fun e w' => e = .returned (.bool true) ∧ Below w.heap.size w w' := by
  have hin : ¬ (0 ≤ n ∧ n < 1000000000000000000) := by omega
  have hlen := putW_len n
  have hby := putW_byte n
  have hback := putW_back n h1 h2
  obtain ⟨l, hl⟩ : ∃ l, l = putW n := ⟨_, rfl⟩
  have CP := fun w => w_put n w h1 h2
  rw [← hl] at hlen hby hback
  simp only [← hl] at CP
  clear hl
  rcases l with _ | ⟨h, r⟩
  · simp at hlen
  have hh : h < 256 := hby h (List.mem_cons_self ..)
  have hlong := rdW_long h r hh
  have hl8 := hlen.2
  clear hlen
  obtain ⟨L, hL⟩ : ∃ L, L = r.length := ⟨_, rfl⟩
  rw [List.length_cons, ← hL] at hl8
  simp only [List.length_cons, ← hL] at CP
  have RD : ∀ (A : Option Addr) (cp : Nat) (w : World) (K : Nat), Src w K A cp (h :: r) → Calls Tryd.prog 18 #[.slice A (L + 1) cp] w fun e w' => e = .returned (.tuple #[.int .i64 n, .int .i64 0]) ∧ Below w.heap.size w w' := fun A cp w K hs => by
    have := w_read A cp (h :: r) w K hs (by rw [List.length_cons]; omega) hby
    rw [hback, List.length_cons, ← hL] at this
    exact this
  have RL : ∀ (A : Option Addr) (cp : Nat) (w : World) (K : Nat), Src w K A cp (h / 128 * 255 :: h :: r) → Calls Tryd.prog 18 #[.slice A (1 + (L + 1)) cp] w fun e w' => e = .returned (.tuple #[.int .i64 0, .int .i64 11]) ∧ Below w.heap.size w w' := fun A cp w K hs => by
    have hby2 : ∀ x ∈ h / 128 * 255 :: h :: r, x < 256 := by
      intro x hx
      rcases List.mem_cons.1 hx with rfl | hx
      · omega
      · exact hby x hx
    have := w_read A cp (h / 128 * 255 :: h :: r) w K hs (by rw [List.length_cons, List.length_cons]; omega) hby2
    rw [hlong, List.length_cons, List.length_cons, ← hL, show L + 1 + 1 = 1 + (L + 1) from by omega] at this
    exact this
  obtain ⟨p, hp⟩ : ∃ p, p = baL (itoa n) := ⟨_, rfl⟩
  have hps : p.size ≤ 20 := by rw [hp]; exact itoa_size n h1 h2
  have mp : p.size ≤ maxLen := by unfold maxLen; omega
  have D1 : ∀ v, Below w.heap.size w v → Calls Tryd.prog 9 #[.int .i64 n] v fun e w' => e = .returned (.string p) ∧ Below v.heap.size v w' := fun v hv0 => by rw [hp]; exact w_digits n v h1 h2 (tab.below hv0)
  have D2 : ∀ w, Calls Tryd.prog 7 #[.string p] w fun e w' => e = .returned (tupD (0, false)) ∧ Below w.heap.size w w' := fun w => by
    have := w_readDigits p w mp
    rw [hp, baL_list, rdD_itoa, if_neg hin, ← hp] at this
    exact this
  have D3 : ∀ w, Calls Tryd.prog 11 #[.string p] w fun e w' => e = .returned (.bool true) ∧ Below w.heap.size w w' := fun w => by
    have := w_valid p w mp
    rw [hp, baL_list, (itoa_valid n).1, ← hp] at this
    exact this
  have D4 : ∀ w, Calls Tryd.prog 13 #[.string p] w fun e w' => e = .returned (.string p) ∧ Below w.heap.size w w' := fun w => by
    have := w_plain p w (by omega)
    rw [hp, baL_list, plain_itoa, ← hp] at this
    exact this
  have D5 : ∀ w, Calls Tryd.prog 13 #[.string { data := #[45, 48] }] w fun e w' => e = .returned (.string (baL [48])) ∧ Below w.heap.size w w' := fun w => by
    have e : plainL [45, 48] = [48] := by
      rw [plainL, if_pos (by decide), show valL [45, 48] = 0 from by decide]
      unfold itoa
      rw [if_neg (by decide), decDigits_small (by decide)]
      rfl
    have := w_plain { data := #[45, 48] } w (by decide)
    rw [show ({ data := #[45, 48] } : ByteArray).data.toList = [45, 48] from rfl, e] at this
    exact this
  have e1 := self_true p
  have e7 : ((baL [48]).toList == [48]) = true := by rw [ByteArray.toList_eq]; rfl
  have e8 := num_true n
  replace D1 := Lib.hid D1
  replace D2 := Lib.hid D2
  replace D3 := Lib.hid D3
  replace D4 := Lib.hid D4
  replace D5 := Lib.hid D5
  replace RD := Lib.hid RD
  replace RL := Lib.hid RL
  replace CP := Lib.hid CP
  replace hL := Lib.hid hL
  clear hin
  clear hp mp hback hlong hby tab
  go_enter Tryd.func4, Tryd.ntmps4
  go_wp2_with fail
  refine (CP.out _).mono ?_
  rintro e w0 ⟨A, cp, rfl, hs0, hb0⟩
  obtain ⟨b, off, rfl, hlt, hc⟩ := hs0.plain (by simp)
  have hx0 : w0.cell? ⟨b, off, none⟩ = some (.int .u8 (h : Int)) := hc 0 (by simp)
  clear hc
  replace hx0 := Lib.hid hx0
  replace hs0 := Lib.hid hs0
  replace hb0 := Lib.hid hb0
  go_wp2_with fail
  refine (RD.out _ _ _ _ hs0.out).mono ?_
  rintro e w1 ⟨rfl, hbr⟩
  have hx : w1.cell? ⟨b, off, none⟩ = some (.int .u8 (h : Int)) := (hbr.cell (p := ⟨b, off, none⟩) hlt).trans hx0.out
  have hs := Lib.hid ((hs0.out.below hbr).more hbr.size)
  have hb1 := Lib.hid (hb0.out.trans (hbr.mono hb0.out.size))
  clear hx0 hs0 hb0 hbr
  go_wp2_with (at_builtin; refine append_srcF rfl (.tmp 41) (.tmp 42) rfl w1.heap.size (.slice (some ⟨w1.heap.size, 0, none⟩) 1 1) [h / 128 * 255] rfl (Own.oneI w1 w1.heap.size (h / 128 * 255) ((h : Int) / 128 * 255) (by omega) (Nat.le_refl _)) w1.heap.size (some ⟨b, off, none⟩) cp (h :: r) (L + 1) (by rw [List.length_cons, ← hL.out]) rfl (hs.out.alloc (Nat.le_refl _) _) (by simp [← hL.out]; omega) (by simp) ?_; intro A2 c2 w2 ho2 hb2 _; have HO2 := Lib.hid ho2; have HB2 := Lib.hid (show Below w.heap.size w w2 from hb1.out.trans ((((Below.refl w1.heap.size w1).alloc (Nat.le_refl _) _).trans hb2).mono hb1.out.size)); clear ho2 hb2)
  refine (RL.out _ _ _ _ HO2.out.src).mono ?_
  rintro e w3 ⟨rfl, hbl⟩
  replace HB2 := Lib.hid (HB2.out.trans (hbl.mono HB2.out.size))
  clear hbl
  go_wp2_with fail
  refine (D1.out _ HB2.out).mono ?_
  rintro e w3 ⟨rfl, hb3⟩
  replace hb3 := Lib.hid (HB2.out.trans (hb3.mono HB2.out.size))
  go_wp2_with fail
  refine (D2.out _).mono ?_
  unfold tupD
  rintro e w4 ⟨rfl, hb4⟩
  replace hb4 := Lib.hid (hb3.out.trans (hb4.mono hb3.out.size))
  go_wp2_with fail
  refine (D3.out _).mono ?_
  rintro e w5 ⟨rfl, hb5⟩
  replace hb5 := Lib.hid (hb4.out.trans (hb5.mono hb4.out.size))
  go_wp2_with fail
  refine (D4.out _).mono ?_
  rintro e w6 ⟨rfl, hb6⟩
  replace hb6 := Lib.hid (hb5.out.trans (hb6.mono hb5.out.size))
  go_wp2_with fail
  refine (D5.out _).mono ?_
  rintro e w7 ⟨rfl, hb7⟩
  replace hb7 := Lib.hid (hb6.out.trans (hb7.mono hb6.out.size))
  go_wp2_with fail
  go_ret
  exact ⟨rfl, hb7.out⟩

set_option maxRecDepth 4000 in
set_option maxHeartbeats 1600000 in
theorem wback_big (n : Int) (w : World) (h1 : -9223372036854775808 ≤ n) (h2 : n ≤ 9223372036854775807) (hno : 1000000000000000000 ≤ n) (tab : Tab w) :
    Calls Tryd.prog 4 #[.int .i64 n] w fun e w' => e = .returned (.bool true) ∧ Below w.heap.size w w' := by
  have hin : ¬ (0 ≤ n ∧ n < 1000000000000000000) := by omega
  have hlen := putW_len n
  have hby := putW_byte n
  have hback := putW_back n h1 h2
  obtain ⟨l, hl⟩ : ∃ l, l = putW n := ⟨_, rfl⟩
  have CP := fun w => w_put n w h1 h2
  rw [← hl] at hlen hby hback
  simp only [← hl] at CP
  clear hl
  rcases l with _ | ⟨h, r⟩
  · simp at hlen
  have hh : h < 256 := hby h (List.mem_cons_self ..)
  have hlong := rdW_long h r hh
  have hl8 := hlen.2
  clear hlen
  obtain ⟨L, hL⟩ : ∃ L, L = r.length := ⟨_, rfl⟩
  rw [List.length_cons, ← hL] at hl8
  simp only [List.length_cons, ← hL] at CP
  have RD : ∀ (A : Option Addr) (cp : Nat) (w : World) (K : Nat), Src w K A cp (h :: r) → Calls Tryd.prog 18 #[.slice A (L + 1) cp] w fun e w' => e = .returned (.tuple #[.int .i64 n, .int .i64 0]) ∧ Below w.heap.size w w' := fun A cp w K hs => by
    have := w_read A cp (h :: r) w K hs (by rw [List.length_cons]; omega) hby
    rw [hback, List.length_cons, ← hL] at this
    exact this
  have RL : ∀ (A : Option Addr) (cp : Nat) (w : World) (K : Nat), Src w K A cp (h / 128 * 255 :: h :: r) → Calls Tryd.prog 18 #[.slice A (1 + (L + 1)) cp] w fun e w' => e = .returned (.tuple #[.int .i64 0, .int .i64 11]) ∧ Below w.heap.size w w' := fun A cp w K hs => by
    have hby2 : ∀ x ∈ h / 128 * 255 :: h :: r, x < 256 := by
      intro x hx
      rcases List.mem_cons.1 hx with rfl | hx
      · omega
      · exact hby x hx
    have := w_read A cp (h / 128 * 255 :: h :: r) w K hs (by rw [List.length_cons, List.length_cons]; omega) hby2
    rw [hlong, List.length_cons, List.length_cons, ← hL, show L + 1 + 1 = 1 + (L + 1) from by omega] at this
    exact this
  obtain ⟨p, hp⟩ : ∃ p, p = baL (itoa n) := ⟨_, rfl⟩
  have hps : p.size ≤ 20 := by rw [hp]; exact itoa_size n h1 h2
  have mp : p.size ≤ maxLen := by unfold maxLen; omega
  have D1 : ∀ v, Below w.heap.size w v → Calls Tryd.prog 9 #[.int .i64 n] v fun e w' => e = .returned (.string p) ∧ Below v.heap.size v w' := fun v hv0 => by rw [hp]; exact w_digits n v h1 h2 (tab.below hv0)
  have D2 : ∀ w, Calls Tryd.prog 7 #[.string p] w fun e w' => e = .returned (tupD (0, false)) ∧ Below w.heap.size w w' := fun w => by
    have := w_readDigits p w mp
    rw [hp, baL_list, rdD_itoa, if_neg hin, ← hp] at this
    exact this
  have D3 : ∀ w, Calls Tryd.prog 11 #[.string p] w fun e w' => e = .returned (.bool true) ∧ Below w.heap.size w w' := fun w => by
    have := w_valid p w mp
    rw [hp, baL_list, (itoa_valid n).1, ← hp] at this
    exact this
  have D4 : ∀ w, Calls Tryd.prog 13 #[.string p] w fun e w' => e = .returned (.string p) ∧ Below w.heap.size w w' := fun w => by
    have := w_plain p w (by omega)
    rw [hp, baL_list, plain_itoa, ← hp] at this
    exact this
  have D5 : ∀ w, Calls Tryd.prog 13 #[.string { data := #[45, 48] }] w fun e w' => e = .returned (.string (baL [48])) ∧ Below w.heap.size w w' := fun w => by
    have e : plainL [45, 48] = [48] := by
      rw [plainL, if_pos (by decide), show valL [45, 48] = 0 from by decide]
      unfold itoa
      rw [if_neg (by decide), decDigits_small (by decide)]
      rfl
    have := w_plain { data := #[45, 48] } w (by decide)
    rw [show ({ data := #[45, 48] } : ByteArray).data.toList = [45, 48] from rfl, e] at this
    exact this
  have e1 := self_true p
  have e7 : ((baL [48]).toList == [48]) = true := by rw [ByteArray.toList_eq]; rfl
  have e8 := num_true n
  replace D1 := Lib.hid D1
  replace D2 := Lib.hid D2
  replace D3 := Lib.hid D3
  replace D4 := Lib.hid D4
  replace D5 := Lib.hid D5
  replace RD := Lib.hid RD
  replace RL := Lib.hid RL
  replace CP := Lib.hid CP
  replace hL := Lib.hid hL
  clear hin
  clear hp mp hback hlong hby tab
  go_enter Tryd.func4, Tryd.ntmps4
  go_wp2_with fail
  refine (CP.out _).mono ?_
  rintro e w0 ⟨A, cp, rfl, hs0, hb0⟩
  obtain ⟨b, off, rfl, hlt, hc⟩ := hs0.plain (by simp)
  have hx0 : w0.cell? ⟨b, off, none⟩ = some (.int .u8 (h : Int)) := hc 0 (by simp)
  clear hc
  replace hx0 := Lib.hid hx0
  replace hs0 := Lib.hid hs0
  replace hb0 := Lib.hid hb0
  go_wp2_with fail
  refine (RD.out _ _ _ _ hs0.out).mono ?_
  rintro e w1 ⟨rfl, hbr⟩
  have hx : w1.cell? ⟨b, off, none⟩ = some (.int .u8 (h : Int)) := (hbr.cell (p := ⟨b, off, none⟩) hlt).trans hx0.out
  have hs := Lib.hid ((hs0.out.below hbr).more hbr.size)
  have hb1 := Lib.hid (hb0.out.trans (hbr.mono hb0.out.size))
  clear hx0 hs0 hb0 hbr
  go_wp2_with (at_builtin; refine append_srcF rfl (.tmp 41) (.tmp 42) rfl w1.heap.size (.slice (some ⟨w1.heap.size, 0, none⟩) 1 1) [h / 128 * 255] rfl (Own.oneI w1 w1.heap.size (h / 128 * 255) ((h : Int) / 128 * 255) (by omega) (Nat.le_refl _)) w1.heap.size (some ⟨b, off, none⟩) cp (h :: r) (L + 1) (by rw [List.length_cons, ← hL.out]) rfl (hs.out.alloc (Nat.le_refl _) _) (by simp [← hL.out]; omega) (by simp) ?_; intro A2 c2 w2 ho2 hb2 _; have HO2 := Lib.hid ho2; have HB2 := Lib.hid (show Below w.heap.size w w2 from hb1.out.trans ((((Below.refl w1.heap.size w1).alloc (Nat.le_refl _) _).trans hb2).mono hb1.out.size)); clear ho2 hb2)
  refine (RL.out _ _ _ _ HO2.out.src).mono ?_
  rintro e w3 ⟨rfl, hbl⟩
  replace HB2 := Lib.hid (HB2.out.trans (hbl.mono HB2.out.size))
  clear hbl
  go_wp2_with fail
  refine (D1.out _ HB2.out).mono ?_
  rintro e w3 ⟨rfl, hb3⟩
  replace hb3 := Lib.hid (HB2.out.trans (hb3.mono HB2.out.size))
  go_wp2_with fail
  refine (D2.out _).mono ?_
  unfold tupD
  rintro e w4 ⟨rfl, hb4⟩
  replace hb4 := Lib.hid (hb3.out.trans (hb4.mono hb3.out.size))
  go_wp2_with fail
  refine (D3.out _).mono ?_
  rintro e w5 ⟨rfl, hb5⟩
  replace hb5 := Lib.hid (hb4.out.trans (hb5.mono hb4.out.size))
  go_wp2_with fail
  refine (D4.out _).mono ?_
  rintro e w6 ⟨rfl, hb6⟩
  replace hb6 := Lib.hid (hb5.out.trans (hb6.mono hb5.out.size))
  go_wp2_with fail
  refine (D5.out _).mono ?_
  rintro e w7 ⟨rfl, hb7⟩
  replace hb7 := Lib.hid (hb6.out.trans (hb7.mono hb6.out.size))
  go_wp2_with fail
  go_ret
  exact ⟨rfl, hb7.out⟩
theorem wback_walk (n : Int) (w : World) (h1 : -9223372036854775808 ≤ n) (h2 : n ≤ 9223372036854775807) (tab : Tab w) :
    Calls Tryd.prog 4 #[.int .i64 n] w fun e w' => e = .returned (.bool true) ∧ Below w.heap.size w w' := by
  by_cases a : 0 ≤ n
  · by_cases b : n < 1000000000000000000
    · exact wback_in n w h1 h2 ⟨a, b⟩ tab
    · exact wback_big n w h1 h2 (by omega) tab
  · exact wback_neg n w h1 h2 (by omega) tab
end Go.Proofs.YthdiaghkpolonaaDoor
