/-
  The document's letters, signs, words.
-/
import Derived.Test.YtpmcdkalmdlahaaDoorRows
import Derived.Test.YtpmcdkalmdlahaaDoorOidDesc
import Derived.Handy
import Derived.Lib.Hide
namespace Go.Proofs.YtpmcdkalmdlahaaDoor
open Go.RowKit Go.Lib

theorem size_listO (s : ByteArray) : s.data.toList.length = s.size := by simp
theorem get_listO (s : ByteArray) (k : Nat) (h : k < s.size) : s.data.toList[k]'(by simpa using h) = s[k] := rfl
theorem take_snocO (s : ByteArray) (k : Nat) (h : k < s.size) : s.data.toList.take (k + 1) = s.data.toList.take k ++ [s[k]] := by
  rw [List.take_succ_eq_append_getElem (by simpa using h)]; rfl
theorem ret_boolO {a b : Bool} (h : a = b) : Ending.returned (.bool a) = .returned (.bool b) := by rw [h]
set_option maxHeartbeats 800000 in
theorem refLetter_any (c : UInt8) (w : World) : Calls Tryd.prog 32 #[.int .u8 (c.toNat : Int)] w fun e w' => e = .returned (.bool (letterB c)) ∧ w' = w := by
  have h : Hid (letterB c = ((decide (97 ≤ (c.toNat : Int)) && decide ((c.toNat : Int) ≤ 122)) || (decide (65 ≤ (c.toNat : Int)) && decide ((c.toNat : Int) ≤ 90)))) := Lib.hid (by
    unfold letterB
    rw [show decide (97 ≤ c.toNat) = decide (97 ≤ (c.toNat : Int)) from decide_eq_decide.2 (by omega), show decide (c.toNat ≤ 122) = decide ((c.toNat : Int) ≤ 122) from decide_eq_decide.2 (by omega), show decide (65 ≤ c.toNat) = decide (65 ≤ (c.toNat : Int)) from decide_eq_decide.2 (by omega), show decide (c.toNat ≤ 90) = decide ((c.toNat : Int) ≤ 90) from decide_eq_decide.2 (by omega)])
  go_enter Tryd.func32, Tryd.ntmps32
  go_wp2
  all_goals
    go_ret
    exact ⟨ret_boolO (by rw [h.out, Bool.eq_iff_iff]; simp; omega), rfl⟩
set_option maxHeartbeats 800000 in
theorem refSign_any (c : UInt8) (w : World) : Calls Tryd.prog 47 #[.int .u8 (c.toNat : Int)] w fun e w' => e = .returned (.bool (signB c)) ∧ w' = w := by
  have CL := Lib.hid (refLetter_any c w)
  obtain ⟨a, ha⟩ : ∃ a, a = letterB c := ⟨_, rfl⟩
  have h : Hid (signB c = (a || (decide (48 ≤ (c.toNat : Int)) && decide ((c.toNat : Int) ≤ 57)) || decide ((c.toNat : Int) = 45))) := Lib.hid (by
    unfold signB
    rw [ha, show decide (48 ≤ c.toNat) = decide (48 ≤ (c.toNat : Int)) from decide_eq_decide.2 (by omega), show decide (c.toNat ≤ 57) = decide ((c.toNat : Int) ≤ 57) from decide_eq_decide.2 (by omega)]
    congr 1
    rw [Bool.eq_iff_iff]
    simp only [beq_iff_eq, decide_eq_true_eq, ← UInt8.toNat_inj]
    show c.toNat = 45 ↔ _
    omega)
  rw [← ha] at CL
  replace ha := Lib.hid ha
  go_enter Tryd.func47, Tryd.ntmps47
  go_wp2_with fail
  refine CL.out.mono ?_
  rintro _ w2 ⟨rfl, h2⟩
  subst w2
  dsimp only []
  cases a
  · go_wp2
    all_goals
      go_ret
      exact ⟨ret_boolO (by rw [h.out, Bool.eq_iff_iff]; simp; omega), rfl⟩
  · go_wp2
    all_goals
      go_ret
      exact ⟨ret_boolO (by rw [h.out, Bool.eq_iff_iff]; simp), rfl⟩
theorem all_snoc {α : Type} (p : α → Bool) (l : List α) (c : α) : (l ++ [c]).all p = (l.all p && p c) := by simp
theorem all_no {α : Type} (p : α → Bool) (l : List α) (k : Nat) (h : k < l.length) (hd : p l[k] = false) : l.all p = false := by
  rw [Bool.eq_false_iff]
  intro ha
  rw [List.all_eq_true] at ha
  have := ha _ (List.getElem_mem h)
  rw [hd] at this
  cases this
set_option maxHeartbeats 800000 in
theorem refSigns_any (s : ByteArray) (w : World) (hs : s.size ≤ 9223372036854775807) : Calls Tryd.prog 33 #[.string s] w fun e w' => e = .returned (.bool (signsB s.data.toList)) ∧ w' = w := by
  have HT : Hid (signsB s.data.toList = (s.data.toList.all signB && decide (0 < s.size))) := Lib.hid (by unfold signsB; rw [size_listO])
  go_enter Tryd.func33, Tryd.ntmps33
  go_wp2_with fail
  go_loop [3] (fun i => ∃ k : Nat, k ≤ s.size ∧ i = .int .i64 (k : Int) ∧ Hid ((s.data.toList.take k).all signB = true)) (fun i => s.size - (intOf i).toNat)
  case atStart => exact ⟨0, Nat.zero_le _, rfl, Lib.hid rfl⟩
  case round =>
    obtain ⟨k, hk, rfl, H⟩ := hrel
    by_cases hlt : k < s.size
    · obtain ⟨d, hd⟩ : ∃ d, d = signB s[k] := ⟨_, rfl⟩
      have H2 : (s.data.toList.take (k + 1)).all signB = d := by
        rw [take_snocO s k hlt, all_snoc, H.out, Bool.true_and, hd]
      replace H2 := Lib.hid H2
      have H3 : Hid (d = false → s.data.toList.all signB = false) := Lib.hid fun e => all_no _ _ k (by simpa using hlt) (by rw [get_listO s k hlt, ← hd, e])
      go_wp2_with fail
      refine (refSign_any _ _).mono ?_
      rintro e w2 ⟨rfl, rfl⟩
      rw [← hd]
      clear hd
      cases d
      · go_wp2_with fail
        go_ret
        exact ⟨ret_boolO (by rw [HT.out, H3.out (by trivial), Bool.false_and]), rfl⟩
      · go_wp2_with fail
        go_round
        case rel => exact ⟨k + 1, by omega, by go_num, H2⟩
        case measure => simp [intOf]; omega
    · have hkk : k = s.size := by omega
      subst hkk
      have H2 : signsB s.data.toList = decide (0 < s.size) := by
        rw [HT.out]
        rw [List.take_of_length_le (by simp)] at H
        rw [H.out, Bool.true_and]
      replace H2 := Lib.hid H2
      go_wp2_with fail
      go_ret
      exact ⟨ret_boolO (by rw [H2.out]), rfl⟩
theorem head_listO (s : ByteArray) (h : 0 < s.size) : s.data.toList.headD 0 = s[0] := by
  have h1 := get_listO s 0 h
  rcases e : s.data.toList with _ | ⟨c, r⟩
  · have := size_listO s
    rw [e] at this
    simp at this
    omega
  · simp only [e] at h1
    exact h1
set_option maxHeartbeats 800000 in
theorem refWord_any (s : ByteArray) (w : World) (hs : s.size ≤ 9223372036854775807) : Calls Tryd.prog 14 #[.string s] w fun e w' => e = .returned (.bool (wordB s.data.toList)) ∧ w' = w := by
  have HT : Hid (wordB s.data.toList = (decide (1 ≤ s.size) && decide (s.size ≤ 64) && letterB (s.data.toList.headD 0) && signsB s.data.toList)) := Lib.hid (by unfold wordB; rw [size_listO])
  have CS := Lib.hid (refSigns_any s w hs)
  by_cases h1 : 1 ≤ s.size
  · by_cases h2 : s.size ≤ 64
    · have hh := head_listO s h1
      have CL := Lib.hid (refLetter_any s[0] w)
      rw [← hh] at CL
      obtain ⟨a, ha⟩ : ∃ a, a = letterB (s.data.toList.headD 0) := ⟨_, rfl⟩
      obtain ⟨b, hb⟩ : ∃ b, b = signsB s.data.toList := ⟨_, rfl⟩
      rw [← ha, hh] at CL
      rw [← hb] at CS
      rw [← ha, ← hb, decide_eq_true h1, decide_eq_true h2] at HT
      replace ha := Lib.hid ha
      replace hb := Lib.hid hb
      replace hh := Lib.hid hh
      go_enter Tryd.func14, Tryd.ntmps14
      go_wp2_with fail
      refine CL.out.mono ?_
      rintro _ w2 ⟨rfl, h3⟩
      subst w2
      dsimp only []
      cases a
      · go_wp2_with fail
        go_ret
        exact ⟨ret_boolO (by rw [HT.out]; rfl), rfl⟩
      · go_wp2_with fail
        refine CS.out.mono ?_
        rintro _ w2 ⟨rfl, h3⟩
        subst w2
        dsimp only []
        go_wp2_with fail
        go_ret
        exact ⟨ret_boolO (by rw [HT.out]; rfl), rfl⟩
    · rw [decide_eq_false h2, Bool.and_false, Bool.false_and, Bool.false_and] at HT
      go_enter Tryd.func14, Tryd.ntmps14
      go_wp2_with fail
      go_ret
      exact ⟨ret_boolO (by rw [HT.out]), rfl⟩
  · rw [decide_eq_false h1, Bool.false_and, Bool.false_and, Bool.false_and] at HT
    go_enter Tryd.func14, Tryd.ntmps14
    go_wp2_with fail
    go_ret
    exact ⟨ret_boolO (by rw [HT.out]), rfl⟩
end Go.Proofs.YtpmcdkalmdlahaaDoor
