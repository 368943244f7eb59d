/-
  The document's Plain is the plain form of a list of bytes.
-/
import Derived.Test.YthdiaghkpolonaaDoorRefTxt
namespace Go.Proofs.YthdiaghkpolonaaDoor
open Go.RowKit Go.Lib

/-- A list of bytes as a string. -/
def baL (l : List UInt8) : ByteArray := ⟨l.toArray⟩
theorem baL_list (l : List UInt8) : (baL l).data.toList = l := rfl
theorem list_baL (s : ByteArray) : baL s.data.toList = s := rfl
theorem eq_baL {s : ByteArray} {l : List UInt8} (h : s.data.toList = l) : s = baL l := by rw [← h]; rfl
theorem baL_inj {l m : List UInt8} (h : baL l = baL m) : l = m := by rw [← baL_list l, h, baL_list]
theorem baL_beq (s t : ByteArray) : (s == t) = (s.data.toList == t.data.toList) := by
  rw [beq_toListBytes, ByteArray.toList_eq, ByteArray.toList_eq]
theorem ret_str {a b : ByteArray} (h : a = b) : Ending.returned (.string a) = .returned (.string b) := by rw [h]
theorem plain_cons (c : UInt8) (r : List UInt8) (h : validL (c :: r) = true) : plainL (c :: r) = if c = 45 then (if stripL r = [48] then [48] else 45 :: stripL r) else stripL (c :: r) := plain_text (c :: r) h
def sizeV : Value → Nat
  | .string t => t.size
  | _ => 0
theorem strip_step (t : ByteArray) (h0 : 0 < t.size) (h : 1 < t.size) (h48 : t[0] = 48) : stripL t.data.toList = stripL (t.extract 1 t.size).data.toList := by
  rw [cons_list t h0, h48]
  obtain ⟨r, hr⟩ : ∃ r, r = (t.extract 1 t.size).data.toList := ⟨_, rfl⟩
  have hl : r.length = t.size - 1 := by rw [hr, size_list]; simp
  rw [← hr]
  rcases r with _ | ⟨d, r⟩
  · simp at hl
    omega
  · simp [stripL]
theorem strip_stop (t : ByteArray) (h0 : 0 < t.size) (h : t.size = 1 ∨ t[0] ≠ 48) : stripL t.data.toList = t.data.toList := by
  rw [cons_list t h0]
  obtain ⟨r, hr⟩ : ∃ r, r = (t.extract 1 t.size).data.toList := ⟨_, rfl⟩
  have hl : r.length = t.size - 1 := by rw [hr, size_list]; simp
  rw [← hr]
  rcases r with _ | ⟨d, r⟩
  · rfl
  · rcases h with h | h
    · rw [List.length_cons] at hl
      omega
    · simp [stripL, h]
theorem u8_ne {c : UInt8} {n : Nat} (hn : n < 256) (h : c ≠ UInt8.ofNat n) : ((c.toNat : Int) == (n : Int)) = false := by
  rw [beq_eq_false_iff_ne]
  intro e
  refine h (UInt8.toNat_inj.1 ?_)
  rw [UInt8.toNat_ofNat', Nat.mod_eq_of_lt (by omega)]
  omega
theorem u8_eq {c : UInt8} {n : Nat} (hn : n < 256) (h : c = UInt8.ofNat n) : ((c.toNat : Int) == (n : Int)) = true := by
  rw [beq_iff_eq, h, UInt8.toNat_ofNat', Nat.mod_eq_of_lt (by omega)]

set_option maxHeartbeats 800000 in
theorem plain_minus (s : ByteArray) (w : World) (hs : s.size ≤ maxLen) (hv : validL s.data.toList = true) (h0 : 0 < s.size) (h45 : s[0] = 45) :
    Calls Tryd.prog 14 #[.string s] w fun e w' => e = .returned (.string (baL (plainL s.data.toList))) ∧ w' = w := by
  obtain ⟨a, ha⟩ : ∃ a, a = s.extract 1 s.size := ⟨_, rfl⟩
  have ha1 : a.size ≤ 9223372036854775806 := by unfold maxLen at hs; rw [ha]; simp; omega
  have HL := valid_two s h0 h45
  rw [hv, ← ha] at HL
  have ha0 : 0 < a.size := by
    have := HL.symm
    simp only [Bool.and_eq_true, decide_eq_true_eq] at this
    exact this.1
  clear HL
  have HF : (stripL a.data.toList = [48] → plainL s.data.toList = [48]) ∧ (stripL a.data.toList ≠ [48] → plainL s.data.toList = 45 :: stripL a.data.toList) := by
    have E := cons_list s h0
    have hv2 := hv
    rw [E] at hv2
    have := plain_cons _ _ hv2
    rw [← E, if_pos h45, ← ha] at this
    rw [this]
    constructor
    · intro e
      simp [e]
    · intro e
      simp [e]
  replace HF := Lib.hid HF
  have HV := Lib.hid hv
  have hc1 : s[0].toNat = 45 := by rw [h45]; rfl
  have hc2 : ((s[0].toNat : Int) == 45) = true := u8_eq (n := 45) (by omega) h45
  clear hv h45
  go_enter Tryd.func14, Tryd.ntmps14
  go_wp2_with fail
  refine (valid_any s _ hs).mono ?_
  rintro e w2 ⟨rfl, rfl⟩
  rw [HV.out]
  go_wp2_with fail
  rw [← ha]
  clear ha hc1 hc2
  go_loop [0] (fun v => ∃ t : ByteArray, v = .string t ∧ t.size ≤ 9223372036854775806 ∧ 0 < t.size ∧ Hid (stripL t.data.toList = stripL a.data.toList)) (fun v => sizeV v)
  case atStart => exact ⟨a, rfl, ha1, ha0, Lib.hid rfl⟩
  case round =>
    obtain ⟨t, rfl, h1, h2, H⟩ := hrel
    by_cases hm : 1 < t.size ∧ t[0] = 48
    · have H2 := Lib.hid (strip_step t h2 hm.1 hm.2)
      have hc := u8_eq (n := 48) (by omega) hm.2
      have hc2 : ((t[0].toNat : Int) == 48) = true := hc
      have hg := hm.1
      have hc1 : t[0].toNat = 48 := by rw [hm.2]; rfl
      clear hc hm
      go_wp2_with fail
      go_round
      case rel => exact ⟨t.extract 1 t.size, rfl, by simp; omega, by simp; omega, Lib.hid (by rw [← H2.out, H.out])⟩
      case measure => simp [sizeV]; omega
    · have HZ : stripL a.data.toList = t.data.toList := by
        rw [← H.out]
        exact strip_stop t h2 (by
          by_cases h : t.size = 1
          · exact .inl h
          · exact .inr fun e => hm ⟨by omega, e⟩)
      have HP := HF.out
      rw [HZ] at HP
      replace HP := Lib.hid HP
      obtain ⟨z, hz⟩ : ∃ z, z = (t.toList == [48]) := ⟨_, rfl⟩
      have HE : z = (t.data.toList == [48]) := by rw [hz, ByteArray.toList_eq]
      replace HE := Lib.hid HE
      clear HZ
      by_cases hg : 1 < t.size
      · have hc2 : ((t[0].toNat : Int) == 48) = false := u8_ne (n := 48) (by omega) fun e => hm ⟨hg, e⟩
        clear hm
        replace hz := hz.symm
        cases z
        · go_wp2_with fail
          go_ret
          exact ⟨ret_str (by rw [HP.out.2 (by simpa using HE.out.symm)]; rfl), rfl⟩
        · go_wp2_with fail
          go_ret
          exact ⟨ret_str (by rw [HP.out.1 (by simpa using HE.out.symm)]; rfl), rfl⟩
      · clear hm
        replace hz := hz.symm
        cases z
        · go_wp2_with fail
          go_ret
          exact ⟨ret_str (by rw [HP.out.2 (by simpa using HE.out.symm)]; rfl), rfl⟩
        · go_wp2_with fail
          go_ret
          exact ⟨ret_str (by rw [HP.out.1 (by simpa using HE.out.symm)]; rfl), rfl⟩

set_option maxHeartbeats 800000 in
theorem plain_plus (s : ByteArray) (w : World) (hs : s.size ≤ maxLen) (hv : validL s.data.toList = true) (h0 : 0 < s.size) (h45 : s[0] ≠ 45) :
    Calls Tryd.prog 14 #[.string s] w fun e w' => e = .returned (.string (baL (plainL s.data.toList))) ∧ w' = w := by
  have HF : (stripL s.data.toList = [48] → plainL s.data.toList = [48]) ∧ (stripL s.data.toList ≠ [48] → plainL s.data.toList = stripL s.data.toList) := by
    have E := cons_list s h0
    have hv2 := hv
    rw [E] at hv2
    have := plain_cons _ _ hv2
    rw [← E, if_neg h45] at this
    rw [this]
    exact ⟨fun e => e, fun _ => rfl⟩
  replace HF := Lib.hid HF
  have HV := Lib.hid hv
  have hc2 : ((s[0].toNat : Int) == 45) = false := u8_ne (n := 45) (by omega) h45
  have ha1 : s.size ≤ 9223372036854775807 := by unfold maxLen at hs; omega
  have ha0 := h0
  clear hv h45
  go_enter Tryd.func14, Tryd.ntmps14
  go_wp2_with fail
  refine (valid_any s _ hs).mono ?_
  rintro e w2 ⟨rfl, rfl⟩
  rw [HV.out]
  go_wp2_with fail
  clear hc2
  go_loop [0] (fun v => ∃ t : ByteArray, v = .string t ∧ t.size ≤ 9223372036854775807 ∧ 0 < t.size ∧ Hid (stripL t.data.toList = stripL s.data.toList)) (fun v => sizeV v)
  case atStart => exact ⟨s, rfl, ha1, ha0, Lib.hid rfl⟩
  case round =>
    obtain ⟨t, rfl, h1, h2, H⟩ := hrel
    by_cases hm : 1 < t.size ∧ t[0] = 48
    · have H2 := Lib.hid (strip_step t h2 hm.1 hm.2)
      have hc := u8_eq (n := 48) (by omega) hm.2
      have hc2 : ((t[0].toNat : Int) == 48) = true := hc
      have hg := hm.1
      have hc1 : t[0].toNat = 48 := by rw [hm.2]; rfl
      clear hc hm
      go_wp2_with fail
      go_round
      case rel => exact ⟨t.extract 1 t.size, rfl, by simp; omega, by simp; omega, Lib.hid (by rw [← H2.out, H.out])⟩
      case measure => simp [sizeV]; omega
    · have HZ : stripL s.data.toList = t.data.toList := by
        rw [← H.out]
        exact strip_stop t h2 (by
          by_cases h : t.size = 1
          · exact .inl h
          · exact .inr fun e => hm ⟨by omega, e⟩)
      have HP := HF.out
      rw [HZ] at HP
      replace HP := Lib.hid HP
      obtain ⟨z, hz⟩ : ∃ z, z = (t.toList == [48]) := ⟨_, rfl⟩
      have HE : z = (t.data.toList == [48]) := by rw [hz, ByteArray.toList_eq]
      replace HE := Lib.hid HE
      clear HZ
      by_cases hg : 1 < t.size
      · have hc2 : ((t[0].toNat : Int) == 48) = false := u8_ne (n := 48) (by omega) fun e => hm ⟨hg, e⟩
        clear hm
        replace hz := hz.symm
        cases z
        · go_wp2_with fail
          go_ret
          exact ⟨ret_str (by rw [HP.out.2 (by simpa using HE.out.symm)]; rfl), rfl⟩
        · go_wp2_with fail
          go_ret
          exact ⟨ret_str (by rw [HP.out.1 (by simpa using HE.out.symm)]; rfl), rfl⟩
      · clear hm
        replace hz := hz.symm
        cases z
        · go_wp2_with fail
          go_ret
          exact ⟨ret_str (by rw [HP.out.2 (by simpa using HE.out.symm)]; rfl), rfl⟩
        · go_wp2_with fail
          go_ret
          exact ⟨ret_str (by rw [HP.out.1 (by simpa using HE.out.symm)]; rfl), rfl⟩


/-- Plain, whatever the text. -/
theorem plain_any (s : ByteArray) (w : World) (hs : s.size ≤ maxLen) : Calls Tryd.prog 14 #[.string s] w fun e w' => e = .returned (.string (baL (plainL s.data.toList))) ∧ w' = w := by
  by_cases hv : validL s.data.toList = true
  · have h0 : 0 < s.size := by
      rw [← size_list]
      rcases e : s.data.toList with _ | ⟨c, r⟩
      · rw [e] at hv
        cases hv
      · simp
    by_cases h45 : s[0] = 45
    · exact plain_minus s w hs hv h0 h45
    · exact plain_plus s w hs hv h0 h45
  · rw [Bool.not_eq_true] at hv
    have HP : plainL s.data.toList = [] := by rw [plainL, if_neg (by rw [hv]; decide)]
    replace HP := Lib.hid HP
    replace hv := Lib.hid hv
    go_enter Tryd.func14, Tryd.ntmps14
    go_wp2_with fail
    refine (valid_any s _ hs).mono ?_
    rintro e w2 ⟨rfl, rfl⟩
    rw [hv.out]
    go_wp2_with fail
    go_ret
    exact ⟨ret_str (by rw [HP.out]; rfl), rfl⟩
end Go.Proofs.YthdiaghkpolonaaDoor
