/-
  The walk of the law WholeSigns.
-/
import Derived.Test.YthdiaghkpolonaaDoorTextsWalk
namespace Go.Proofs.YthdiaghkpolonaaDoor
open Go.RowKit Go.Lib

theorem and7 (z : Int) : ∃ Z : Nat, Z ≤ 7 ∧ bits .and .i64 z 7 = (Z : Int) := by
  refine ⟨(BitVec.ofInt 64 z).toNat % 8, by omega, ?_⟩
  show IntKind.i64.wrap ((BitVec.ofInt 64 z &&& BitVec.ofInt 64 7).toNat : Int) = _
  rw [BitVec.toNat_and, show (BitVec.ofInt 64 7).toNat = 2 ^ 3 - 1 from rfl, Nat.and_two_pow_sub_one_eq_mod]
  exact IntWalk.i64_in _ (by omega)
theorem size_minus (u : ByteArray) (h : 0 < u.size) : (({ data := #[45, 48] } : ByteArray) ++ u.extract 1 u.size).size = u.size + 1 := by
  rw [← size_list, ByteArray.data_append, Array.toList_append, List.length_append, size_list (u.extract 1 u.size)]
  simp
  omega
theorem size_plus (u : ByteArray) : (({ data := #[48] } : ByteArray) ++ u).size = u.size + 1 := by
  rw [← size_list, ByteArray.data_append, Array.toList_append, List.length_append, size_list u]
  simp
  omega
/-- What the law's loop carries. -/
def Zs (t u : ByteArray) : Prop := validL u.data.toList = true ∧ plainL u.data.toList = plainL t.data.toList
theorem Zs.minus {t u : ByteArray} (h : Zs t u) (h0 : 0 < u.size) (h45 : u[0] = 45) : Zs t (({ data := #[45, 48] } : ByteArray) ++ u.extract 1 u.size) := by
  have e : (({ data := #[45, 48] } : ByteArray) ++ u.extract 1 u.size).data.toList = zeroAhead u.data.toList := by
    rw [ByteArray.data_append, Array.toList_append, cons_list u h0, h45]
    rfl
  exact ⟨by rw [e]; exact (zero_valid _ h.1).1, by rw [e, (zero_same _ h.1).1]; exact h.2⟩
theorem Zs.plus {t u : ByteArray} (h : Zs t u) (h0 : 0 < u.size) (h45 : u[0] ≠ 45) : Zs t (({ data := #[48] } : ByteArray) ++ u) := by
  have e : (({ data := #[48] } : ByteArray) ++ u).data.toList = zeroAhead u.data.toList := by
    rw [ByteArray.data_append, Array.toList_append, cons_list u h0]
    simp [zeroAhead, h45]
  exact ⟨by rw [e]; exact (zero_valid _ h.1).1, by rw [e, (zero_same _ h.1).1]; exact h.2⟩

set_option maxRecDepth 4000 in
set_option maxHeartbeats 1600000 in
theorem signs_000 (n : Int) (s : ByteArray) (z : Int) (w : World) (h1 : -9223372036854775808 ≤ n) (h2 : n ≤ 9223372036854775807) (hcut : s.size ≤ 300) (hn : n ≤ 0) (hv : validL s.data.toList = false) (tab : Tab w) :
    Calls Tryd.prog 6 #[.int .i64 n, .string s, .int .i64 z] w fun e w' => e = .returned (.bool true) ∧ Below w.heap.size w w' := by
  obtain ⟨t, ht⟩ : ∃ t, t = s := ⟨_, rfl⟩
  subst ht
  have hts := hcut
  have mt : t.size ≤ maxLen := by unfold maxLen; omega
  have D3 : ∀ v, Below w.heap.size w v → Calls Tryd.prog 9 #[.int .i64 0] v fun e w' => e = .returned (.string (baL [48])) ∧ Below v.heap.size v w' := fun v hv0 => by
    have e : itoa 0 = [48] := by
      unfold itoa
      rw [if_neg (by decide), decDigits_small (by decide)]
      rfl
    rw [← e]
    exact w_digits 0 v (by decide) (by decide) (tab.below hv0)
  replace D3 := Lib.hid D3
  have e7 : ((baL [48]).toList == [48]) = true := by rw [ByteArray.toList_eq]; rfl
  have CV : ∀ w, Calls Tryd.prog 11 #[.string t] w fun e w' => e = .returned (.bool false) ∧ Below w.heap.size w w' := fun w => by rw [← hv]; exact w_valid t w mt
  replace CV := Lib.hid CV
  have CP : ∀ w, Calls Tryd.prog 13 #[.string t] w fun e w' => e = .returned (.string (baL [])) ∧ Below w.heap.size w w' := fun w => by
    have e : plainL t.data.toList = [] := by rw [plainL, if_neg (by rw [hv]; decide)]
    rw [← e]
    exact w_plain t w (by omega)
  have CC : ∀ w, Calls Tryd.prog 15 #[.string t, .string { data := #[48] }] w fun e w' => e = .returned (.int .i64 (-1)) ∧ Below w.heap.size w w' := fun w => by
    have e : cmpL t.data.toList [48] = -1 := by
      unfold cmpL keyL
      rw [if_neg (by rw [hv]; decide), if_pos (by decide)]
      rfl
    rw [← e]
    exact w_compare t { data := #[48] } w mt (by decide)
  replace CP := Lib.hid CP
  replace CC := Lib.hid CC
  have e8 : (baL []).toList.isEmpty = true := by rw [ByteArray.toList_eq]; rfl
  clear hv mt tab
  go_enter Tryd.func6, Tryd.ntmps6
  go_wp2_with fail
  refine (D3.out _ (by first | exact Below.refl _ _ | exact hb1.out | exact hb2.out | exact hb3.out | exact hb4.out | exact hb5.out | exact hb6.out | exact hb7.out | exact hb8.out | exact hb9.out | exact hb10.out | exact hb11.out | exact hb12.out | exact hb13.out | exact hb14.out | exact hb15.out | exact hb16.out)).mono ?_
  rintro e w1 ⟨rfl, hb1⟩
  replace hb1 := Lib.hid hb1
  go_wp2_with fail
  refine (CV.out _).mono ?_
  rintro e w2 ⟨rfl, hb2⟩
  replace hb2 := Lib.hid (hb1.out.trans (hb2.mono hb1.out.size))
  go_wp2_with fail
  refine (CP.out _).mono ?_
  rintro e w3 ⟨rfl, hb3⟩
  replace hb3 := Lib.hid (hb2.out.trans (hb3.mono hb2.out.size))
  go_wp2_with fail
  refine (CC.out _).mono ?_
  rintro e w4 ⟨rfl, hb4⟩
  replace hb4 := Lib.hid (hb3.out.trans (hb4.mono hb3.out.size))
  go_wp2_with fail
  go_ret
  exact ⟨rfl, hb4.out⟩

set_option maxRecDepth 4000 in
set_option maxHeartbeats 1600000 in
theorem signs_001 (n : Int) (s : ByteArray) (z : Int) (w : World) (h1 : -9223372036854775808 ≤ n) (h2 : n ≤ 9223372036854775807) (hcut : s.size ≤ 300) (hn : n ≤ 0) (hv : validL s.data.toList = true) (tab : Tab w) :
    Calls Tryd.prog 6 #[.int .i64 n, .string s, .int .i64 z] w fun e w' => e = .returned (.bool true) ∧ Below w.heap.size w w' := by
  obtain ⟨t, ht⟩ : ∃ t, t = s := ⟨_, rfl⟩
  subst ht
  have hts := hcut
  have mt : t.size ≤ maxLen := by unfold maxLen; omega
  have D3 : ∀ v, Below w.heap.size w v → Calls Tryd.prog 9 #[.int .i64 0] v fun e w' => e = .returned (.string (baL [48])) ∧ Below v.heap.size v w' := fun v hv0 => by
    have e : itoa 0 = [48] := by
      unfold itoa
      rw [if_neg (by decide), decDigits_small (by decide)]
      rfl
    rw [← e]
    exact w_digits 0 v (by decide) (by decide) (tab.below hv0)
  replace D3 := Lib.hid D3
  have e7 : ((baL [48]).toList == [48]) = true := by rw [ByteArray.toList_eq]; rfl
  have CV : ∀ w, Calls Tryd.prog 11 #[.string t] w fun e w' => e = .returned (.bool true) ∧ Below w.heap.size w w' := fun w => by rw [← hv]; exact w_valid t w mt
  replace CV := Lib.hid CV
  obtain ⟨q, hq⟩ : ∃ q, q = baL (plainL t.data.toList) := ⟨_, rfl⟩
  have CP : ∀ w, Calls Tryd.prog 13 #[.string t] w fun e w' => e = .returned (.string q) ∧ Below w.heap.size w w' := fun w => by rw [hq]; exact w_plain t w (by omega)
  replace CP := Lib.hid CP
  have e2 := self_true q
  have h00 : 0 < t.size := by
    rw [← size_list]
    rcases e : t.data.toList with _ | ⟨c, r⟩
    · rw [e] at hv
      cases hv
    · simp
  have HZ0 : Hid (Zs t t) := Lib.hid ⟨hv, rfl⟩
  replace hq := Lib.hid hq
  obtain ⟨Z, hZ7, hZ⟩ := and7 z
  clear hv mt tab
  go_enter Tryd.func6, Tryd.ntmps6
  go_wp2_with fail
  refine (D3.out _ (by first | exact Below.refl _ _ | exact hb1.out | exact hb2.out | exact hb3.out | exact hb4.out | exact hb5.out | exact hb6.out | exact hb7.out | exact hb8.out | exact hb9.out | exact hb10.out | exact hb11.out | exact hb12.out | exact hb13.out | exact hb14.out | exact hb15.out | exact hb16.out)).mono ?_
  rintro e w1 ⟨rfl, hb1⟩
  replace hb1 := Lib.hid hb1
  go_wp2_with fail
  refine (CV.out _).mono ?_
  rintro e w2 ⟨rfl, hb2⟩
  replace hb2 := Lib.hid (hb1.out.trans (hb2.mono hb1.out.size))
  go_wp2_with fail
  go_loop [7, 8] (fun m i => ∃ (u : ByteArray) (k : Nat), m = .string u ∧ i = .int .i64 (k : Int) ∧ k ≤ Z ∧ u.size ≤ 300 + k ∧ 0 < u.size ∧ Hid (Zs t u)) (fun _ i => Z - (RowKit.intOf i).toNat)
  case atStart => exact ⟨t, 0, rfl, rfl, by omega, by omega, h00, HZ0⟩
  case round =>
    obtain ⟨u, k, rfl, rfl, hk, hus, hu0, HU⟩ := hrel
    by_cases hkZ : k = Z
    · subst hkZ
      have mu : u.size ≤ maxLen := by unfold maxLen; omega
      have CU : ∀ w, Calls Tryd.prog 13 #[.string u] w fun e w' => e = .returned (.string q) ∧ Below w.heap.size w w' := fun w => by rw [hq.out, ← HU.out.2]; exact w_plain u w (by omega)
      have CC : ∀ w, Calls Tryd.prog 15 #[.string u, .string t] w fun e w' => e = .returned (.int .i64 0) ∧ Below w.heap.size w w' := fun w => by
        rw [← (cmp_zero _ _).2 HU.out.2]
        exact w_compare u t w mu (by unfold maxLen; omega)
      have CW : ∀ w, Calls Tryd.prog 11 #[.string u] w fun e w' => e = .returned (.bool true) ∧ Below w.heap.size w w' := fun w => by rw [← HU.out.1]; exact w_valid u w mu
      replace CU := Lib.hid CU
      replace CC := Lib.hid CC
      replace CW := Lib.hid CW
      clear mu
      go_wp2_with fail
      refine (CU.out _).mono ?_
      rintro e w3 ⟨rfl, hb3⟩
      replace hb3 := Lib.hid (hb2.out.trans (hb3.mono hb2.out.size))
      go_wp2_with fail
      refine (CP.out _).mono ?_
      rintro e w4 ⟨rfl, hb4⟩
      replace hb4 := Lib.hid (hb3.out.trans (hb4.mono hb3.out.size))
      go_wp2_with fail
      refine (CC.out _).mono ?_
      rintro e w5 ⟨rfl, hb5⟩
      replace hb5 := Lib.hid (hb4.out.trans (hb5.mono hb4.out.size))
      go_wp2_with fail
      refine (CW.out _).mono ?_
      rintro e w6 ⟨rfl, hb6⟩
      replace hb6 := Lib.hid (hb5.out.trans (hb6.mono hb5.out.size))
      go_wp2_with fail
      go_ret
      exact ⟨rfl, hb6.out⟩
    · have hkl : k < Z := by omega
      by_cases h45 : u[0] = 45
      · have H2 := Lib.hid (HU.out.minus hu0 h45)
        have hc2 : ((u[0].toNat : Int) == 45) = true := u8_eq (n := 45) (by omega) h45
        have hc1 : u[0].toNat = 45 := by rw [h45]; rfl
        clear h45 hkZ
        go_wp2_with fail
        go_round
        case rel => exact ⟨_, k + 1, rfl, by go_num, by omega, by rw [size_minus u hu0]; omega, by rw [size_minus u hu0]; omega, H2⟩
        case measure => simp [RowKit.intOf]; omega
      · have H2 := Lib.hid (HU.out.plus hu0 h45)
        have hc2 : ((u[0].toNat : Int) == 45) = false := u8_ne (n := 45) (by omega) h45
        clear h45 hkZ
        go_wp2_with fail
        go_round
        case rel => exact ⟨_, k + 1, rfl, by go_num, by omega, by rw [size_plus u]; omega, by rw [size_plus u]; omega, H2⟩
        case measure => simp [RowKit.intOf]; omega

set_option maxRecDepth 4000 in
set_option maxHeartbeats 1600000 in
theorem signs_010 (n : Int) (s : ByteArray) (z : Int) (w : World) (h1 : -9223372036854775808 ≤ n) (h2 : n ≤ 9223372036854775807) (hcut : s.size ≤ 300) (hn : 0 < n) (hv : validL s.data.toList = false) (tab : Tab w) :
    Calls Tryd.prog 6 #[.int .i64 n, .string s, .int .i64 z] w fun e w' => e = .returned (.bool true) ∧ Below w.heap.size w w' := by
  obtain ⟨t, ht⟩ : ∃ t, t = s := ⟨_, rfl⟩
  subst ht
  have hts := hcut
  have mt : t.size ≤ maxLen := by unfold maxLen; omega
  obtain ⟨p, hp⟩ : ∃ p, p = baL (itoa n) := ⟨_, rfl⟩
  have hps : p.size ≤ 20 := by rw [hp]; exact itoa_size n h1 h2
  have hpn : baL (itoa (-n)) = ({ data := #[45] } : ByteArray) ++ p := by
    refine (eq_baL ?_).symm
    rw [ByteArray.data_append, Array.toList_append, hp, baL_list]
    unfold itoa
    rw [if_neg (by omega : ¬ n < 0), if_pos (by omega : -n < 0), show (-n).natAbs = n.toNat from by omega]
    rfl
  obtain ⟨q, hq⟩ : ∃ q, q = ({ data := #[45] } : ByteArray) ++ p := ⟨_, rfl⟩
  have D1 : ∀ v, Below w.heap.size w v → Calls Tryd.prog 9 #[.int .i64 (-n)] v fun e w' => e = .returned (.string (({ data := #[45] } : ByteArray) ++ p)) ∧ Below v.heap.size v w' := fun v hv0 => by rw [← hpn]; exact w_digits (-n) v (by omega) (by omega) (tab.below hv0)
  have D2 : ∀ v, Below w.heap.size w v → Calls Tryd.prog 9 #[.int .i64 n] v fun e w' => e = .returned (.string p) ∧ Below v.heap.size v w' := fun v hv0 => by rw [hp]; exact w_digits n v h1 h2 (tab.below hv0)
  have e0 := self_true (({ data := #[45] } : ByteArray) ++ p)
  clear hp hpn hq q
  replace D1 := Lib.hid D1
  replace D2 := Lib.hid D2
  have D3 : ∀ v, Below w.heap.size w v → Calls Tryd.prog 9 #[.int .i64 0] v fun e w' => e = .returned (.string (baL [48])) ∧ Below v.heap.size v w' := fun v hv0 => by
    have e : itoa 0 = [48] := by
      unfold itoa
      rw [if_neg (by decide), decDigits_small (by decide)]
      rfl
    rw [← e]
    exact w_digits 0 v (by decide) (by decide) (tab.below hv0)
  replace D3 := Lib.hid D3
  have e7 : ((baL [48]).toList == [48]) = true := by rw [ByteArray.toList_eq]; rfl
  have CV : ∀ w, Calls Tryd.prog 11 #[.string t] w fun e w' => e = .returned (.bool false) ∧ Below w.heap.size w w' := fun w => by rw [← hv]; exact w_valid t w mt
  replace CV := Lib.hid CV
  have CP : ∀ w, Calls Tryd.prog 13 #[.string t] w fun e w' => e = .returned (.string (baL [])) ∧ Below w.heap.size w w' := fun w => by
    have e : plainL t.data.toList = [] := by rw [plainL, if_neg (by rw [hv]; decide)]
    rw [← e]
    exact w_plain t w (by omega)
  have CC : ∀ w, Calls Tryd.prog 15 #[.string t, .string { data := #[48] }] w fun e w' => e = .returned (.int .i64 (-1)) ∧ Below w.heap.size w w' := fun w => by
    have e : cmpL t.data.toList [48] = -1 := by
      unfold cmpL keyL
      rw [if_neg (by rw [hv]; decide), if_pos (by decide)]
      rfl
    rw [← e]
    exact w_compare t { data := #[48] } w mt (by decide)
  replace CP := Lib.hid CP
  replace CC := Lib.hid CC
  have e8 : (baL []).toList.isEmpty = true := by rw [ByteArray.toList_eq]; rfl
  clear hv mt tab
  go_enter Tryd.func6, Tryd.ntmps6
  go_wp2_with fail
  refine (D1.out _ (by first | exact Below.refl _ _ | exact hb1.out | exact hb2.out | exact hb3.out | exact hb4.out | exact hb5.out | exact hb6.out | exact hb7.out | exact hb8.out | exact hb9.out | exact hb10.out | exact hb11.out | exact hb12.out | exact hb13.out | exact hb14.out | exact hb15.out | exact hb16.out)).mono ?_
  rintro e w1 ⟨rfl, hb1⟩
  replace hb1 := Lib.hid hb1
  go_wp2_with fail
  refine (D2.out _ (by first | exact Below.refl _ _ | exact hb1.out | exact hb2.out | exact hb3.out | exact hb4.out | exact hb5.out | exact hb6.out | exact hb7.out | exact hb8.out | exact hb9.out | exact hb10.out | exact hb11.out | exact hb12.out | exact hb13.out | exact hb14.out | exact hb15.out | exact hb16.out)).mono ?_
  rintro e w2 ⟨rfl, hb2⟩
  replace hb2 := Lib.hid (hb1.out.trans (hb2.mono hb1.out.size))
  go_wp2_with fail
  refine (D3.out _ (by first | exact Below.refl _ _ | exact hb1.out | exact hb2.out | exact hb3.out | exact hb4.out | exact hb5.out | exact hb6.out | exact hb7.out | exact hb8.out | exact hb9.out | exact hb10.out | exact hb11.out | exact hb12.out | exact hb13.out | exact hb14.out | exact hb15.out | exact hb16.out)).mono ?_
  rintro e w3 ⟨rfl, hb3⟩
  replace hb3 := Lib.hid (hb2.out.trans (hb3.mono hb2.out.size))
  go_wp2_with fail
  refine (CV.out _).mono ?_
  rintro e w4 ⟨rfl, hb4⟩
  replace hb4 := Lib.hid (hb3.out.trans (hb4.mono hb3.out.size))
  go_wp2_with fail
  refine (CP.out _).mono ?_
  rintro e w5 ⟨rfl, hb5⟩
  replace hb5 := Lib.hid (hb4.out.trans (hb5.mono hb4.out.size))
  go_wp2_with fail
  refine (CC.out _).mono ?_
  rintro e w6 ⟨rfl, hb6⟩
  replace hb6 := Lib.hid (hb5.out.trans (hb6.mono hb5.out.size))
  go_wp2_with fail
  go_ret
  exact ⟨rfl, hb6.out⟩

set_option maxRecDepth 4000 in
set_option maxHeartbeats 1600000 in
theorem signs_011 (n : Int) (s : ByteArray) (z : Int) (w : World) (h1 : -9223372036854775808 ≤ n) (h2 : n ≤ 9223372036854775807) (hcut : s.size ≤ 300) (hn : 0 < n) (hv : validL s.data.toList = true) (tab : Tab w) :
    Calls Tryd.prog 6 #[.int .i64 n, .string s, .int .i64 z] w fun e w' => e = .returned (.bool true) ∧ Below w.heap.size w w' := by
  obtain ⟨t, ht⟩ : ∃ t, t = s := ⟨_, rfl⟩
  subst ht
  have hts := hcut
  have mt : t.size ≤ maxLen := by unfold maxLen; omega
  obtain ⟨p, hp⟩ : ∃ p, p = baL (itoa n) := ⟨_, rfl⟩
  have hps : p.size ≤ 20 := by rw [hp]; exact itoa_size n h1 h2
  have hpn : baL (itoa (-n)) = ({ data := #[45] } : ByteArray) ++ p := by
    refine (eq_baL ?_).symm
    rw [ByteArray.data_append, Array.toList_append, hp, baL_list]
    unfold itoa
    rw [if_neg (by omega : ¬ n < 0), if_pos (by omega : -n < 0), show (-n).natAbs = n.toNat from by omega]
    rfl
  obtain ⟨q, hq⟩ : ∃ q, q = ({ data := #[45] } : ByteArray) ++ p := ⟨_, rfl⟩
  have D1 : ∀ v, Below w.heap.size w v → Calls Tryd.prog 9 #[.int .i64 (-n)] v fun e w' => e = .returned (.string (({ data := #[45] } : ByteArray) ++ p)) ∧ Below v.heap.size v w' := fun v hv0 => by rw [← hpn]; exact w_digits (-n) v (by omega) (by omega) (tab.below hv0)
  have D2 : ∀ v, Below w.heap.size w v → Calls Tryd.prog 9 #[.int .i64 n] v fun e w' => e = .returned (.string p) ∧ Below v.heap.size v w' := fun v hv0 => by rw [hp]; exact w_digits n v h1 h2 (tab.below hv0)
  have e0 := self_true (({ data := #[45] } : ByteArray) ++ p)
  clear hp hpn hq q
  replace D1 := Lib.hid D1
  replace D2 := Lib.hid D2
  have D3 : ∀ v, Below w.heap.size w v → Calls Tryd.prog 9 #[.int .i64 0] v fun e w' => e = .returned (.string (baL [48])) ∧ Below v.heap.size v w' := fun v hv0 => by
    have e : itoa 0 = [48] := by
      unfold itoa
      rw [if_neg (by decide), decDigits_small (by decide)]
      rfl
    rw [← e]
    exact w_digits 0 v (by decide) (by decide) (tab.below hv0)
  replace D3 := Lib.hid D3
  have e7 : ((baL [48]).toList == [48]) = true := by rw [ByteArray.toList_eq]; rfl
  have CV : ∀ w, Calls Tryd.prog 11 #[.string t] w fun e w' => e = .returned (.bool true) ∧ Below w.heap.size w w' := fun w => by rw [← hv]; exact w_valid t w mt
  replace CV := Lib.hid CV
  obtain ⟨q, hq⟩ : ∃ q, q = baL (plainL t.data.toList) := ⟨_, rfl⟩
  have CP : ∀ w, Calls Tryd.prog 13 #[.string t] w fun e w' => e = .returned (.string q) ∧ Below w.heap.size w w' := fun w => by rw [hq]; exact w_plain t w (by omega)
  replace CP := Lib.hid CP
  have e2 := self_true q
  have h00 : 0 < t.size := by
    rw [← size_list]
    rcases e : t.data.toList with _ | ⟨c, r⟩
    · rw [e] at hv
      cases hv
    · simp
  have HZ0 : Hid (Zs t t) := Lib.hid ⟨hv, rfl⟩
  replace hq := Lib.hid hq
  obtain ⟨Z, hZ7, hZ⟩ := and7 z
  clear hv mt tab
  go_enter Tryd.func6, Tryd.ntmps6
  go_wp2_with fail
  refine (D1.out _ (by first | exact Below.refl _ _ | exact hb1.out | exact hb2.out | exact hb3.out | exact hb4.out | exact hb5.out | exact hb6.out | exact hb7.out | exact hb8.out | exact hb9.out | exact hb10.out | exact hb11.out | exact hb12.out | exact hb13.out | exact hb14.out | exact hb15.out | exact hb16.out)).mono ?_
  rintro e w1 ⟨rfl, hb1⟩
  replace hb1 := Lib.hid hb1
  go_wp2_with fail
  refine (D2.out _ (by first | exact Below.refl _ _ | exact hb1.out | exact hb2.out | exact hb3.out | exact hb4.out | exact hb5.out | exact hb6.out | exact hb7.out | exact hb8.out | exact hb9.out | exact hb10.out | exact hb11.out | exact hb12.out | exact hb13.out | exact hb14.out | exact hb15.out | exact hb16.out)).mono ?_
  rintro e w2 ⟨rfl, hb2⟩
  replace hb2 := Lib.hid (hb1.out.trans (hb2.mono hb1.out.size))
  go_wp2_with fail
  refine (D3.out _ (by first | exact Below.refl _ _ | exact hb1.out | exact hb2.out | exact hb3.out | exact hb4.out | exact hb5.out | exact hb6.out | exact hb7.out | exact hb8.out | exact hb9.out | exact hb10.out | exact hb11.out | exact hb12.out | exact hb13.out | exact hb14.out | exact hb15.out | exact hb16.out)).mono ?_
  rintro e w3 ⟨rfl, hb3⟩
  replace hb3 := Lib.hid (hb2.out.trans (hb3.mono hb2.out.size))
  go_wp2_with fail
  refine (CV.out _).mono ?_
  rintro e w4 ⟨rfl, hb4⟩
  replace hb4 := Lib.hid (hb3.out.trans (hb4.mono hb3.out.size))
  go_wp2_with fail
  go_loop [7, 8] (fun m i => ∃ (u : ByteArray) (k : Nat), m = .string u ∧ i = .int .i64 (k : Int) ∧ k ≤ Z ∧ u.size ≤ 300 + k ∧ 0 < u.size ∧ Hid (Zs t u)) (fun _ i => Z - (RowKit.intOf i).toNat)
  case atStart => exact ⟨t, 0, rfl, rfl, by omega, by omega, h00, HZ0⟩
  case round =>
    obtain ⟨u, k, rfl, rfl, hk, hus, hu0, HU⟩ := hrel
    by_cases hkZ : k = Z
    · subst hkZ
      have mu : u.size ≤ maxLen := by unfold maxLen; omega
      have CU : ∀ w, Calls Tryd.prog 13 #[.string u] w fun e w' => e = .returned (.string q) ∧ Below w.heap.size w w' := fun w => by rw [hq.out, ← HU.out.2]; exact w_plain u w (by omega)
      have CC : ∀ w, Calls Tryd.prog 15 #[.string u, .string t] w fun e w' => e = .returned (.int .i64 0) ∧ Below w.heap.size w w' := fun w => by
        rw [← (cmp_zero _ _).2 HU.out.2]
        exact w_compare u t w mu (by unfold maxLen; omega)
      have CW : ∀ w, Calls Tryd.prog 11 #[.string u] w fun e w' => e = .returned (.bool true) ∧ Below w.heap.size w w' := fun w => by rw [← HU.out.1]; exact w_valid u w mu
      replace CU := Lib.hid CU
      replace CC := Lib.hid CC
      replace CW := Lib.hid CW
      clear mu
      go_wp2_with fail
      refine (CU.out _).mono ?_
      rintro e w5 ⟨rfl, hb5⟩
      replace hb5 := Lib.hid (hb4.out.trans (hb5.mono hb4.out.size))
      go_wp2_with fail
      refine (CP.out _).mono ?_
      rintro e w6 ⟨rfl, hb6⟩
      replace hb6 := Lib.hid (hb5.out.trans (hb6.mono hb5.out.size))
      go_wp2_with fail
      refine (CC.out _).mono ?_
      rintro e w7 ⟨rfl, hb7⟩
      replace hb7 := Lib.hid (hb6.out.trans (hb7.mono hb6.out.size))
      go_wp2_with fail
      refine (CW.out _).mono ?_
      rintro e w8 ⟨rfl, hb8⟩
      replace hb8 := Lib.hid (hb7.out.trans (hb8.mono hb7.out.size))
      go_wp2_with fail
      go_ret
      exact ⟨rfl, hb8.out⟩
    · have hkl : k < Z := by omega
      by_cases h45 : u[0] = 45
      · have H2 := Lib.hid (HU.out.minus hu0 h45)
        have hc2 : ((u[0].toNat : Int) == 45) = true := u8_eq (n := 45) (by omega) h45
        have hc1 : u[0].toNat = 45 := by rw [h45]; rfl
        clear h45 hkZ
        go_wp2_with fail
        go_round
        case rel => exact ⟨_, k + 1, rfl, by go_num, by omega, by rw [size_minus u hu0]; omega, by rw [size_minus u hu0]; omega, H2⟩
        case measure => simp [RowKit.intOf]; omega
      · have H2 := Lib.hid (HU.out.plus hu0 h45)
        have hc2 : ((u[0].toNat : Int) == 45) = false := u8_ne (n := 45) (by omega) h45
        clear h45 hkZ
        go_wp2_with fail
        go_round
        case rel => exact ⟨_, k + 1, rfl, by go_num, by omega, by rw [size_plus u]; omega, by rw [size_plus u]; omega, H2⟩
        case measure => simp [RowKit.intOf]; omega

set_option maxRecDepth 4000 in
set_option maxHeartbeats 1600000 in
theorem signs_100 (n : Int) (s : ByteArray) (z : Int) (w : World) (h1 : -9223372036854775808 ≤ n) (h2 : n ≤ 9223372036854775807) (hcut : 300 < s.size) (hs : s.size ≤ 9223372036854775807) (hn : n ≤ 0) (hv : validL (s.extract 0 300).data.toList = false) (tab : Tab w) :
    Calls Tryd.prog 6 #[.int .i64 n, .string s, .int .i64 z] w fun e w' => e = .returned (.bool true) ∧ Below w.heap.size w w' := by
  obtain ⟨t, ht⟩ : ∃ t, t = s.extract 0 300 := ⟨_, rfl⟩
  have hts : t.size ≤ 300 := by rw [ht]; simp; omega
  rw [← ht] at hv
  have mt : t.size ≤ maxLen := by unfold maxLen; omega
  have D3 : ∀ v, Below w.heap.size w v → Calls Tryd.prog 9 #[.int .i64 0] v fun e w' => e = .returned (.string (baL [48])) ∧ Below v.heap.size v w' := fun v hv0 => by
    have e : itoa 0 = [48] := by
      unfold itoa
      rw [if_neg (by decide), decDigits_small (by decide)]
      rfl
    rw [← e]
    exact w_digits 0 v (by decide) (by decide) (tab.below hv0)
  replace D3 := Lib.hid D3
  have e7 : ((baL [48]).toList == [48]) = true := by rw [ByteArray.toList_eq]; rfl
  have CV : ∀ w, Calls Tryd.prog 11 #[.string t] w fun e w' => e = .returned (.bool false) ∧ Below w.heap.size w w' := fun w => by rw [← hv]; exact w_valid t w mt
  replace CV := Lib.hid CV
  have CP : ∀ w, Calls Tryd.prog 13 #[.string t] w fun e w' => e = .returned (.string (baL [])) ∧ Below w.heap.size w w' := fun w => by
    have e : plainL t.data.toList = [] := by rw [plainL, if_neg (by rw [hv]; decide)]
    rw [← e]
    exact w_plain t w (by omega)
  have CC : ∀ w, Calls Tryd.prog 15 #[.string t, .string { data := #[48] }] w fun e w' => e = .returned (.int .i64 (-1)) ∧ Below w.heap.size w w' := fun w => by
    have e : cmpL t.data.toList [48] = -1 := by
      unfold cmpL keyL
      rw [if_neg (by rw [hv]; decide), if_pos (by decide)]
      rfl
    rw [← e]
    exact w_compare t { data := #[48] } w mt (by decide)
  replace CP := Lib.hid CP
  replace CC := Lib.hid CC
  have e8 : (baL []).toList.isEmpty = true := by rw [ByteArray.toList_eq]; rfl
  clear hv mt tab
  go_enter Tryd.func6, Tryd.ntmps6
  go_wp2_with fail
  rw [← ht]
  clear ht
  refine (D3.out _ (by first | exact Below.refl _ _ | exact hb1.out | exact hb2.out | exact hb3.out | exact hb4.out | exact hb5.out | exact hb6.out | exact hb7.out | exact hb8.out | exact hb9.out | exact hb10.out | exact hb11.out | exact hb12.out | exact hb13.out | exact hb14.out | exact hb15.out | exact hb16.out)).mono ?_
  rintro e w1 ⟨rfl, hb1⟩
  replace hb1 := Lib.hid hb1
  go_wp2_with fail
  refine (CV.out _).mono ?_
  rintro e w2 ⟨rfl, hb2⟩
  replace hb2 := Lib.hid (hb1.out.trans (hb2.mono hb1.out.size))
  go_wp2_with fail
  refine (CP.out _).mono ?_
  rintro e w3 ⟨rfl, hb3⟩
  replace hb3 := Lib.hid (hb2.out.trans (hb3.mono hb2.out.size))
  go_wp2_with fail
  refine (CC.out _).mono ?_
  rintro e w4 ⟨rfl, hb4⟩
  replace hb4 := Lib.hid (hb3.out.trans (hb4.mono hb3.out.size))
  go_wp2_with fail
  go_ret
  exact ⟨rfl, hb4.out⟩

set_option maxRecDepth 4000 in
set_option maxHeartbeats 1600000 in
theorem signs_101 (n : Int) (s : ByteArray) (z : Int) (w : World) (h1 : -9223372036854775808 ≤ n) (h2 : n ≤ 9223372036854775807) (hcut : 300 < s.size) (hs : s.size ≤ 9223372036854775807) (hn : n ≤ 0) (hv : validL (s.extract 0 300).data.toList = true) (tab : Tab w) :
    Calls Tryd.prog 6 #[.int .i64 n, .string s, .int .i64 z] w fun e w' => e = .returned (.bool true) ∧ Below w.heap.size w w' := by
  obtain ⟨t, ht⟩ : ∃ t, t = s.extract 0 300 := ⟨_, rfl⟩
  have hts : t.size ≤ 300 := by rw [ht]; simp; omega
  rw [← ht] at hv
  have mt : t.size ≤ maxLen := by unfold maxLen; omega
  have D3 : ∀ v, Below w.heap.size w v → Calls Tryd.prog 9 #[.int .i64 0] v fun e w' => e = .returned (.string (baL [48])) ∧ Below v.heap.size v w' := fun v hv0 => by
    have e : itoa 0 = [48] := by
      unfold itoa
      rw [if_neg (by decide), decDigits_small (by decide)]
      rfl
    rw [← e]
    exact w_digits 0 v (by decide) (by decide) (tab.below hv0)
  replace D3 := Lib.hid D3
  have e7 : ((baL [48]).toList == [48]) = true := by rw [ByteArray.toList_eq]; rfl
  have CV : ∀ w, Calls Tryd.prog 11 #[.string t] w fun e w' => e = .returned (.bool true) ∧ Below w.heap.size w w' := fun w => by rw [← hv]; exact w_valid t w mt
  replace CV := Lib.hid CV
  obtain ⟨q, hq⟩ : ∃ q, q = baL (plainL t.data.toList) := ⟨_, rfl⟩
  have CP : ∀ w, Calls Tryd.prog 13 #[.string t] w fun e w' => e = .returned (.string q) ∧ Below w.heap.size w w' := fun w => by rw [hq]; exact w_plain t w (by omega)
  replace CP := Lib.hid CP
  have e2 := self_true q
  have h00 : 0 < t.size := by
    rw [← size_list]
    rcases e : t.data.toList with _ | ⟨c, r⟩
    · rw [e] at hv
      cases hv
    · simp
  have HZ0 : Hid (Zs t t) := Lib.hid ⟨hv, rfl⟩
  replace hq := Lib.hid hq
  obtain ⟨Z, hZ7, hZ⟩ := and7 z
  clear hv mt tab
  go_enter Tryd.func6, Tryd.ntmps6
  go_wp2_with fail
  rw [← ht]
  clear ht
  refine (D3.out _ (by first | exact Below.refl _ _ | exact hb1.out | exact hb2.out | exact hb3.out | exact hb4.out | exact hb5.out | exact hb6.out | exact hb7.out | exact hb8.out | exact hb9.out | exact hb10.out | exact hb11.out | exact hb12.out | exact hb13.out | exact hb14.out | exact hb15.out | exact hb16.out)).mono ?_
  rintro e w1 ⟨rfl, hb1⟩
  replace hb1 := Lib.hid hb1
  go_wp2_with fail
  refine (CV.out _).mono ?_
  rintro e w2 ⟨rfl, hb2⟩
  replace hb2 := Lib.hid (hb1.out.trans (hb2.mono hb1.out.size))
  go_wp2_with fail
  go_loop [7, 8] (fun m i => ∃ (u : ByteArray) (k : Nat), m = .string u ∧ i = .int .i64 (k : Int) ∧ k ≤ Z ∧ u.size ≤ 300 + k ∧ 0 < u.size ∧ Hid (Zs t u)) (fun _ i => Z - (RowKit.intOf i).toNat)
  case atStart => exact ⟨t, 0, rfl, rfl, by omega, by omega, h00, HZ0⟩
  case round =>
    obtain ⟨u, k, rfl, rfl, hk, hus, hu0, HU⟩ := hrel
    by_cases hkZ : k = Z
    · subst hkZ
      have mu : u.size ≤ maxLen := by unfold maxLen; omega
      have CU : ∀ w, Calls Tryd.prog 13 #[.string u] w fun e w' => e = .returned (.string q) ∧ Below w.heap.size w w' := fun w => by rw [hq.out, ← HU.out.2]; exact w_plain u w (by omega)
      have CC : ∀ w, Calls Tryd.prog 15 #[.string u, .string t] w fun e w' => e = .returned (.int .i64 0) ∧ Below w.heap.size w w' := fun w => by
        rw [← (cmp_zero _ _).2 HU.out.2]
        exact w_compare u t w mu (by unfold maxLen; omega)
      have CW : ∀ w, Calls Tryd.prog 11 #[.string u] w fun e w' => e = .returned (.bool true) ∧ Below w.heap.size w w' := fun w => by rw [← HU.out.1]; exact w_valid u w mu
      replace CU := Lib.hid CU
      replace CC := Lib.hid CC
      replace CW := Lib.hid CW
      clear mu
      go_wp2_with fail
      refine (CU.out _).mono ?_
      rintro e w3 ⟨rfl, hb3⟩
      replace hb3 := Lib.hid (hb2.out.trans (hb3.mono hb2.out.size))
      go_wp2_with fail
      refine (CP.out _).mono ?_
      rintro e w4 ⟨rfl, hb4⟩
      replace hb4 := Lib.hid (hb3.out.trans (hb4.mono hb3.out.size))
      go_wp2_with fail
      refine (CC.out _).mono ?_
      rintro e w5 ⟨rfl, hb5⟩
      replace hb5 := Lib.hid (hb4.out.trans (hb5.mono hb4.out.size))
      go_wp2_with fail
      refine (CW.out _).mono ?_
      rintro e w6 ⟨rfl, hb6⟩
      replace hb6 := Lib.hid (hb5.out.trans (hb6.mono hb5.out.size))
      go_wp2_with fail
      go_ret
      exact ⟨rfl, hb6.out⟩
    · have hkl : k < Z := by omega
      by_cases h45 : u[0] = 45
      · have H2 := Lib.hid (HU.out.minus hu0 h45)
        have hc2 : ((u[0].toNat : Int) == 45) = true := u8_eq (n := 45) (by omega) h45
        have hc1 : u[0].toNat = 45 := by rw [h45]; rfl
        clear h45 hkZ
        go_wp2_with fail
        go_round
        case rel => exact ⟨_, k + 1, rfl, by go_num, by omega, by rw [size_minus u hu0]; omega, by rw [size_minus u hu0]; omega, H2⟩
        case measure => simp [RowKit.intOf]; omega
      · have H2 := Lib.hid (HU.out.plus hu0 h45)
        have hc2 : ((u[0].toNat : Int) == 45) = false := u8_ne (n := 45) (by omega) h45
        clear h45 hkZ
        go_wp2_with fail
        go_round
        case rel => exact ⟨_, k + 1, rfl, by go_num, by omega, by rw [size_plus u]; omega, by rw [size_plus u]; omega, H2⟩
        case measure => simp [RowKit.intOf]; omega

set_option maxRecDepth 4000 in
set_option maxHeartbeats 1600000 in
theorem signs_110 (n : Int) (s : ByteArray) (z : Int) (w : World) (h1 : -9223372036854775808 ≤ n) (h2 : n ≤ 9223372036854775807) (hcut : 300 < s.size) (hs : s.size ≤ 9223372036854775807) (hn : 0 < n) (hv : validL (s.extract 0 300).data.toList = false) (tab : Tab w) :
    Calls Tryd.prog 6 #[.int .i64 n, .string s, .int .i64 z] w fun e w' => e = .returned (.bool true) ∧ Below w.heap.size w w' := by
  obtain ⟨t, ht⟩ : ∃ t, t = s.extract 0 300 := ⟨_, rfl⟩
  have hts : t.size ≤ 300 := by rw [ht]; simp; omega
  rw [← ht] at hv
  have mt : t.size ≤ maxLen := by unfold maxLen; omega
  obtain ⟨p, hp⟩ : ∃ p, p = baL (itoa n) := ⟨_, rfl⟩
  have hps : p.size ≤ 20 := by rw [hp]; exact itoa_size n h1 h2
  have hpn : baL (itoa (-n)) = ({ data := #[45] } : ByteArray) ++ p := by
    refine (eq_baL ?_).symm
    rw [ByteArray.data_append, Array.toList_append, hp, baL_list]
    unfold itoa
    rw [if_neg (by omega : ¬ n < 0), if_pos (by omega : -n < 0), show (-n).natAbs = n.toNat from by omega]
    rfl
  obtain ⟨q, hq⟩ : ∃ q, q = ({ data := #[45] } : ByteArray) ++ p := ⟨_, rfl⟩
  have D1 : ∀ v, Below w.heap.size w v → Calls Tryd.prog 9 #[.int .i64 (-n)] v fun e w' => e = .returned (.string (({ data := #[45] } : ByteArray) ++ p)) ∧ Below v.heap.size v w' := fun v hv0 => by rw [← hpn]; exact w_digits (-n) v (by omega) (by omega) (tab.below hv0)
  have D2 : ∀ v, Below w.heap.size w v → Calls Tryd.prog 9 #[.int .i64 n] v fun e w' => e = .returned (.string p) ∧ Below v.heap.size v w' := fun v hv0 => by rw [hp]; exact w_digits n v h1 h2 (tab.below hv0)
  have e0 := self_true (({ data := #[45] } : ByteArray) ++ p)
  clear hp hpn hq q
  replace D1 := Lib.hid D1
  replace D2 := Lib.hid D2
  have D3 : ∀ v, Below w.heap.size w v → Calls Tryd.prog 9 #[.int .i64 0] v fun e w' => e = .returned (.string (baL [48])) ∧ Below v.heap.size v w' := fun v hv0 => by
    have e : itoa 0 = [48] := by
      unfold itoa
      rw [if_neg (by decide), decDigits_small (by decide)]
      rfl
    rw [← e]
    exact w_digits 0 v (by decide) (by decide) (tab.below hv0)
  replace D3 := Lib.hid D3
  have e7 : ((baL [48]).toList == [48]) = true := by rw [ByteArray.toList_eq]; rfl
  have CV : ∀ w, Calls Tryd.prog 11 #[.string t] w fun e w' => e = .returned (.bool false) ∧ Below w.heap.size w w' := fun w => by rw [← hv]; exact w_valid t w mt
  replace CV := Lib.hid CV
  have CP : ∀ w, Calls Tryd.prog 13 #[.string t] w fun e w' => e = .returned (.string (baL [])) ∧ Below w.heap.size w w' := fun w => by
    have e : plainL t.data.toList = [] := by rw [plainL, if_neg (by rw [hv]; decide)]
    rw [← e]
    exact w_plain t w (by omega)
  have CC : ∀ w, Calls Tryd.prog 15 #[.string t, .string { data := #[48] }] w fun e w' => e = .returned (.int .i64 (-1)) ∧ Below w.heap.size w w' := fun w => by
    have e : cmpL t.data.toList [48] = -1 := by
      unfold cmpL keyL
      rw [if_neg (by rw [hv]; decide), if_pos (by decide)]
      rfl
    rw [← e]
    exact w_compare t { data := #[48] } w mt (by decide)
  replace CP := Lib.hid CP
  replace CC := Lib.hid CC
  have e8 : (baL []).toList.isEmpty = true := by rw [ByteArray.toList_eq]; rfl
  clear hv mt tab
  go_enter Tryd.func6, Tryd.ntmps6
  go_wp2_with fail
  rw [← ht]
  clear ht
  refine (D1.out _ (by first | exact Below.refl _ _ | exact hb1.out | exact hb2.out | exact hb3.out | exact hb4.out | exact hb5.out | exact hb6.out | exact hb7.out | exact hb8.out | exact hb9.out | exact hb10.out | exact hb11.out | exact hb12.out | exact hb13.out | exact hb14.out | exact hb15.out | exact hb16.out)).mono ?_
  rintro e w1 ⟨rfl, hb1⟩
  replace hb1 := Lib.hid hb1
  go_wp2_with fail
  refine (D2.out _ (by first | exact Below.refl _ _ | exact hb1.out | exact hb2.out | exact hb3.out | exact hb4.out | exact hb5.out | exact hb6.out | exact hb7.out | exact hb8.out | exact hb9.out | exact hb10.out | exact hb11.out | exact hb12.out | exact hb13.out | exact hb14.out | exact hb15.out | exact hb16.out)).mono ?_
  rintro e w2 ⟨rfl, hb2⟩
  replace hb2 := Lib.hid (hb1.out.trans (hb2.mono hb1.out.size))
  go_wp2_with fail
  refine (D3.out _ (by first | exact Below.refl _ _ | exact hb1.out | exact hb2.out | exact hb3.out | exact hb4.out | exact hb5.out | exact hb6.out | exact hb7.out | exact hb8.out | exact hb9.out | exact hb10.out | exact hb11.out | exact hb12.out | exact hb13.out | exact hb14.out | exact hb15.out | exact hb16.out)).mono ?_
  rintro e w3 ⟨rfl, hb3⟩
  replace hb3 := Lib.hid (hb2.out.trans (hb3.mono hb2.out.size))
  go_wp2_with fail
  refine (CV.out _).mono ?_
  rintro e w4 ⟨rfl, hb4⟩
  replace hb4 := Lib.hid (hb3.out.trans (hb4.mono hb3.out.size))
  go_wp2_with fail
  refine (CP.out _).mono ?_
  rintro e w5 ⟨rfl, hb5⟩
  replace hb5 := Lib.hid (hb4.out.trans (hb5.mono hb4.out.size))
  go_wp2_with fail
  refine (CC.out _).mono ?_
  rintro e w6 ⟨rfl, hb6⟩
  replace hb6 := Lib.hid (hb5.out.trans (hb6.mono hb5.out.size))
  go_wp2_with fail
  go_ret
  exact ⟨rfl, hb6.out⟩

set_option maxRecDepth 4000 in
set_option maxHeartbeats 1600000 in
theorem signs_111 (n : Int) (s : ByteArray) (z : Int) (w : World) (h1 : -9223372036854775808 ≤ n) (h2 : n ≤ 9223372036854775807) (hcut : 300 < s.size) (hs : s.size ≤ 9223372036854775807) (hn : 0 < n) (hv : validL (s.extract 0 300).data.toList = true) (tab : Tab w) :
    Calls Tryd.prog 6 #[.int .i64 n, .string s, .int .i64 z] w fun e w' => e = .returned (.bool true) ∧ Below w.heap.size w w' := by
  obtain ⟨t, ht⟩ : ∃ t, t = s.extract 0 300 := ⟨_, rfl⟩
  have hts : t.size ≤ 300 := by rw [ht]; simp; omega
  rw [← ht] at hv
  have mt : t.size ≤ maxLen := by unfold maxLen; omega
  obtain ⟨p, hp⟩ : ∃ p, p = baL (itoa n) := ⟨_, rfl⟩
  have hps : p.size ≤ 20 := by rw [hp]; exact itoa_size n h1 h2
  have hpn : baL (itoa (-n)) = ({ data := #[45] } : ByteArray) ++ p := by
    refine (eq_baL ?_).symm
    rw [ByteArray.data_append, Array.toList_append, hp, baL_list]
    unfold itoa
    rw [if_neg (by omega : ¬ n < 0), if_pos (by omega : -n < 0), show (-n).natAbs = n.toNat from by omega]
    rfl
  obtain ⟨q, hq⟩ : ∃ q, q = ({ data := #[45] } : ByteArray) ++ p := ⟨_, rfl⟩
  have D1 : ∀ v, Below w.heap.size w v → Calls Tryd.prog 9 #[.int .i64 (-n)] v fun e w' => e = .returned (.string (({ data := #[45] } : ByteArray) ++ p)) ∧ Below v.heap.size v w' := fun v hv0 => by rw [← hpn]; exact w_digits (-n) v (by omega) (by omega) (tab.below hv0)
  have D2 : ∀ v, Below w.heap.size w v → Calls Tryd.prog 9 #[.int .i64 n] v fun e w' => e = .returned (.string p) ∧ Below v.heap.size v w' := fun v hv0 => by rw [hp]; exact w_digits n v h1 h2 (tab.below hv0)
  have e0 := self_true (({ data := #[45] } : ByteArray) ++ p)
  clear hp hpn hq q
  replace D1 := Lib.hid D1
  replace D2 := Lib.hid D2
  have D3 : ∀ v, Below w.heap.size w v → Calls Tryd.prog 9 #[.int .i64 0] v fun e w' => e = .returned (.string (baL [48])) ∧ Below v.heap.size v w' := fun v hv0 => by
    have e : itoa 0 = [48] := by
      unfold itoa
      rw [if_neg (by decide), decDigits_small (by decide)]
      rfl
    rw [← e]
    exact w_digits 0 v (by decide) (by decide) (tab.below hv0)
  replace D3 := Lib.hid D3
  have e7 : ((baL [48]).toList == [48]) = true := by rw [ByteArray.toList_eq]; rfl
  have CV : ∀ w, Calls Tryd.prog 11 #[.string t] w fun e w' => e = .returned (.bool true) ∧ Below w.heap.size w w' := fun w => by rw [← hv]; exact w_valid t w mt
  replace CV := Lib.hid CV
  obtain ⟨q, hq⟩ : ∃ q, q = baL (plainL t.data.toList) := ⟨_, rfl⟩
  have CP : ∀ w, Calls Tryd.prog 13 #[.string t] w fun e w' => e = .returned (.string q) ∧ Below w.heap.size w w' := fun w => by rw [hq]; exact w_plain t w (by omega)
  replace CP := Lib.hid CP
  have e2 := self_true q
  have h00 : 0 < t.size := by
    rw [← size_list]
    rcases e : t.data.toList with _ | ⟨c, r⟩
    · rw [e] at hv
      cases hv
    · simp
  have HZ0 : Hid (Zs t t) := Lib.hid ⟨hv, rfl⟩
  replace hq := Lib.hid hq
  obtain ⟨Z, hZ7, hZ⟩ := and7 z
  clear hv mt tab
  go_enter Tryd.func6, Tryd.ntmps6
  go_wp2_with fail
  rw [← ht]
  clear ht
  refine (D1.out _ (by first | exact Below.refl _ _ | exact hb1.out | exact hb2.out | exact hb3.out | exact hb4.out | exact hb5.out | exact hb6.out | exact hb7.out | exact hb8.out | exact hb9.out | exact hb10.out | exact hb11.out | exact hb12.out | exact hb13.out | exact hb14.out | exact hb15.out | exact hb16.out)).mono ?_
  rintro e w1 ⟨rfl, hb1⟩
  replace hb1 := Lib.hid hb1
  go_wp2_with fail
  refine (D2.out _ (by first | exact Below.refl _ _ | exact hb1.out | exact hb2.out | exact hb3.out | exact hb4.out | exact hb5.out | exact hb6.out | exact hb7.out | exact hb8.out | exact hb9.out | exact hb10.out | exact hb11.out | exact hb12.out | exact hb13.out | exact hb14.out | exact hb15.out | exact hb16.out)).mono ?_
  rintro e w2 ⟨rfl, hb2⟩
  replace hb2 := Lib.hid (hb1.out.trans (hb2.mono hb1.out.size))
  go_wp2_with fail
  refine (D3.out _ (by first | exact Below.refl _ _ | exact hb1.out | exact hb2.out | exact hb3.out | exact hb4.out | exact hb5.out | exact hb6.out | exact hb7.out | exact hb8.out | exact hb9.out | exact hb10.out | exact hb11.out | exact hb12.out | exact hb13.out | exact hb14.out | exact hb15.out | exact hb16.out)).mono ?_
  rintro e w3 ⟨rfl, hb3⟩
  replace hb3 := Lib.hid (hb2.out.trans (hb3.mono hb2.out.size))
  go_wp2_with fail
  refine (CV.out _).mono ?_
  rintro e w4 ⟨rfl, hb4⟩
  replace hb4 := Lib.hid (hb3.out.trans (hb4.mono hb3.out.size))
  go_wp2_with fail
  go_loop [7, 8] (fun m i => ∃ (u : ByteArray) (k : Nat), m = .string u ∧ i = .int .i64 (k : Int) ∧ k ≤ Z ∧ u.size ≤ 300 + k ∧ 0 < u.size ∧ Hid (Zs t u)) (fun _ i => Z - (RowKit.intOf i).toNat)
  case atStart => exact ⟨t, 0, rfl, rfl, by omega, by omega, h00, HZ0⟩
  case round =>
    obtain ⟨u, k, rfl, rfl, hk, hus, hu0, HU⟩ := hrel
    by_cases hkZ : k = Z
    · subst hkZ
      have mu : u.size ≤ maxLen := by unfold maxLen; omega
      have CU : ∀ w, Calls Tryd.prog 13 #[.string u] w fun e w' => e = .returned (.string q) ∧ Below w.heap.size w w' := fun w => by rw [hq.out, ← HU.out.2]; exact w_plain u w (by omega)
      have CC : ∀ w, Calls Tryd.prog 15 #[.string u, .string t] w fun e w' => e = .returned (.int .i64 0) ∧ Below w.heap.size w w' := fun w => by
        rw [← (cmp_zero _ _).2 HU.out.2]
        exact w_compare u t w mu (by unfold maxLen; omega)
      have CW : ∀ w, Calls Tryd.prog 11 #[.string u] w fun e w' => e = .returned (.bool true) ∧ Below w.heap.size w w' := fun w => by rw [← HU.out.1]; exact w_valid u w mu
      replace CU := Lib.hid CU
      replace CC := Lib.hid CC
      replace CW := Lib.hid CW
      clear mu
      go_wp2_with fail
      refine (CU.out _).mono ?_
      rintro e w5 ⟨rfl, hb5⟩
      replace hb5 := Lib.hid (hb4.out.trans (hb5.mono hb4.out.size))
      go_wp2_with fail
      refine (CP.out _).mono ?_
      rintro e w6 ⟨rfl, hb6⟩
      replace hb6 := Lib.hid (hb5.out.trans (hb6.mono hb5.out.size))
      go_wp2_with fail
      refine (CC.out _).mono ?_
      rintro e w7 ⟨rfl, hb7⟩
      replace hb7 := Lib.hid (hb6.out.trans (hb7.mono hb6.out.size))
      go_wp2_with fail
      refine (CW.out _).mono ?_
      rintro e w8 ⟨rfl, hb8⟩
      replace hb8 := Lib.hid (hb7.out.trans (hb8.mono hb7.out.size))
      go_wp2_with fail
      go_ret
      exact ⟨rfl, hb8.out⟩
    · have hkl : k < Z := by omega
      by_cases h45 : u[0] = 45
      · have H2 := Lib.hid (HU.out.minus hu0 h45)
        have hc2 : ((u[0].toNat : Int) == 45) = true := u8_eq (n := 45) (by omega) h45
        have hc1 : u[0].toNat = 45 := by rw [h45]; rfl
        clear h45 hkZ
        go_wp2_with fail
        go_round
        case rel => exact ⟨_, k + 1, rfl, by go_num, by omega, by rw [size_minus u hu0]; omega, by rw [size_minus u hu0]; omega, H2⟩
        case measure => simp [RowKit.intOf]; omega
      · have H2 := Lib.hid (HU.out.plus hu0 h45)
        have hc2 : ((u[0].toNat : Int) == 45) = false := u8_ne (n := 45) (by omega) h45
        clear h45 hkZ
        go_wp2_with fail
        go_round
        case rel => exact ⟨_, k + 1, rfl, by go_num, by omega, by rw [size_plus u]; omega, by rw [size_plus u]; omega, H2⟩
        case measure => simp [RowKit.intOf]; omega

theorem signs_walk (n : Int) (s : ByteArray) (z : Int) (w : World) (h1 : -9223372036854775808 ≤ n) (h2 : n ≤ 9223372036854775807) (ms : s.size ≤ 140737488351232) (tab : Tab w) :
    Calls Tryd.prog 6 #[.int .i64 n, .string s, .int .i64 z] w fun e w' => e = .returned (.bool true) ∧ Below w.heap.size w w' := by
  by_cases hc : 300 < s.size
  · cases hv : validL (s.extract 0 300).data.toList
    · by_cases hn : 0 < n
      · exact signs_110 n s z w h1 h2 hc (by omega) hn hv tab
      · exact signs_100 n s z w h1 h2 hc (by omega) (by omega) hv tab
    · by_cases hn : 0 < n
      · exact signs_111 n s z w h1 h2 hc (by omega) hn hv tab
      · exact signs_101 n s z w h1 h2 hc (by omega) (by omega) hv tab
  · cases hv : validL s.data.toList
    · by_cases hn : 0 < n
      · exact signs_010 n s z w h1 h2 (by omega) hn hv tab
      · exact signs_000 n s z w h1 h2 (by omega) (by omega) hv tab
    · by_cases hn : 0 < n
      · exact signs_011 n s z w h1 h2 (by omega) hn hv tab
      · exact signs_001 n s z w h1 h2 (by omega) (by omega) hv tab
end Go.Proofs.YthdiaghkpolonaaDoor
