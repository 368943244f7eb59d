/-
  The document's Compare is the order of two lists of bytes by their plain forms.
-/
import Derived.Test.YthdiaghkpolonaaDoorRefPlain
namespace Go.Proofs.YthdiaghkpolonaaDoor
open Go.RowKit Go.Lib

theorem ret_num {a b : Int} (h : a = b) : Ending.returned (.int .i64 a) = .returned (.int .i64 b) := by rw [h]

set_option maxHeartbeats 1600000 in
theorem compare_any (s t : ByteArray) (w : World) (hs : s.size ≤ maxLen) (ht : t.size ≤ maxLen) :
    Calls Tryd.prog 16 #[.string s, .string t] w fun e w' => e = .returned (.int .i64 (cmpL s.data.toList t.data.toList)) ∧ w' = w := by
  have HC := cmp_plain s.data.toList t.data.toList
  obtain ⟨p, hp⟩ : ∃ p, p = baL (plainL s.data.toList) := ⟨_, rfl⟩
  obtain ⟨q, hq⟩ : ∃ q, q = baL (plainL t.data.toList) := ⟨_, rfl⟩
  rw [← baL_list (plainL s.data.toList), ← baL_list (plainL t.data.toList), ← hp, ← hq] at HC
  rw [← HC]
  clear HC
  have CP : ∀ w, Calls Tryd.prog 14 #[.string s] w fun e w' => e = .returned (.string p) ∧ w' = w := fun w => by rw [hp]; exact plain_any s w hs
  have CQ : ∀ w, Calls Tryd.prog 14 #[.string t] w fun e w' => e = .returned (.string q) ∧ w' = w := fun w => by rw [hq]; exact plain_any t w ht
  replace CP := Lib.hid CP
  replace CQ := Lib.hid CQ
  clear hp hq hs ht
  obtain ⟨X, HX⟩ : ∃ X, cmpP p.data.toList q.data.toList = X := ⟨_, rfl⟩
  rw [HX]
  unfold cmpP at HX
  by_cases h1 : p.data.toList = q.data.toList
  · rw [if_pos h1] at HX
    have hb : (p.toList == q.toList) = true := by rw [ByteArray.toList_eq, ByteArray.toList_eq, h1]; simp
    clear h1
    replace HX := Lib.hid HX
    go_enter Tryd.func16, Tryd.ntmps16
    go_wp2_with fail
    refine (CP.out _).mono ?_
    rintro e w2 ⟨rfl, rfl⟩
    go_wp2_with fail
    refine (CQ.out _).mono ?_
    rintro e w2 ⟨rfl, rfl⟩
    go_wp2_with fail
    go_ret
    exact ⟨ret_num HX.out, rfl⟩
  rw [if_neg h1] at HX
  have hb1 : (p.toList == q.toList) = false := by rw [ByteArray.toList_eq, ByteArray.toList_eq, beq_eq_false_iff_ne]; exact h1
  clear h1
  by_cases h2 : p.data.toList = []
  · rw [if_pos h2] at HX
    have hb2 : p.toList.isEmpty = true := by rw [ByteArray.toList_eq, h2]; rfl
    clear h2
    replace HX := Lib.hid HX
    go_enter Tryd.func16, Tryd.ntmps16
    go_wp2_with fail
    refine (CP.out _).mono ?_
    rintro e w2 ⟨rfl, rfl⟩
    go_wp2_with fail
    refine (CQ.out _).mono ?_
    rintro e w2 ⟨rfl, rfl⟩
    go_wp2_with fail
    go_ret
    exact ⟨ret_num HX.out, rfl⟩
  rw [if_neg h2] at HX
  have hb2 : p.toList.isEmpty = false := by rw [ByteArray.toList_eq]; simpa using h2
  have hp0 : 0 < p.size := by rw [← size_list]; exact List.length_pos_iff.2 h2
  clear h2
  by_cases h3 : q.data.toList = []
  · rw [if_pos h3] at HX
    have hb3 : q.toList.isEmpty = true := by rw [ByteArray.toList_eq, h3]; rfl
    clear h3
    replace HX := Lib.hid HX
    go_enter Tryd.func16, Tryd.ntmps16
    go_wp2_with fail
    refine (CP.out _).mono ?_
    rintro e w2 ⟨rfl, rfl⟩
    go_wp2_with fail
    refine (CQ.out _).mono ?_
    rintro e w2 ⟨rfl, rfl⟩
    go_wp2_with fail
    go_ret
    exact ⟨ret_num HX.out, rfl⟩
  rw [if_neg h3] at HX
  have hb3 : q.toList.isEmpty = false := by rw [ByteArray.toList_eq]; simpa using h3
  have hq0 : 0 < q.size := by rw [← size_list]; exact List.length_pos_iff.2 h3
  clear h3
  have head : ∀ (a : ByteArray) (h : 0 < a.size), (a.data.toList.head? = some 45) = (((a[0].toNat : Int) == 45) = true) := fun a h => by
    rw [cons_list a h, List.head?_cons, eq_iff_iff]
    constructor
    · intro e
      injection e with e
      exact u8_eq (n := 45) (by omega) e
    · intro e
      by_cases e2 : a[0] = 45
      · rw [e2]
      · have := u8_ne (n := 45) (by omega) e2
        rw [show ((45 : Nat) : Int) = 45 from rfl] at this
        rw [this] at e
        cases e
  simp only [head p hp0, head q hq0, size_list] at HX
  clear head
  obtain ⟨b, hb⟩ : ∃ b, ((p[0].toNat : Int) == 45) = b := ⟨_, rfl⟩
  obtain ⟨c, hc⟩ : ∃ c, ((q[0].toNat : Int) == 45) = c := ⟨_, rfl⟩
  obtain ⟨z, hz⟩ : ∃ z, Op.bytesLess p.toList q.toList = z := ⟨_, rfl⟩
  simp only [← ByteArray.toList_eq, hz, hb, hc] at HX
  have h4 : p.size < q.size ∨ p.size = q.size ∨ q.size < p.size := by omega
  rcases h4 with h4 | h4 | h4
  · cases b <;> cases c
    all_goals
      simp [h4] at HX
      replace HX := Lib.hid HX
      go_enter Tryd.func16, Tryd.ntmps16
      go_wp2_with fail
      refine (CP.out _).mono ?_
      rintro e w2 ⟨rfl, rfl⟩
      go_wp2_with fail
      refine (CQ.out _).mono ?_
      rintro e w2 ⟨rfl, rfl⟩
      go_wp2_with fail
      go_ret
      exact ⟨ret_num HX.out, rfl⟩
  · have h5 : ((p.size : Int) == (q.size : Int)) = true := by simp [h4]
    cases b <;> cases c <;> cases z
    all_goals
      simp [h4] at HX
      replace HX := Lib.hid HX
      go_enter Tryd.func16, Tryd.ntmps16
      go_wp2_with fail
      refine (CP.out _).mono ?_
      rintro e w2 ⟨rfl, rfl⟩
      go_wp2_with fail
      refine (CQ.out _).mono ?_
      rintro e w2 ⟨rfl, rfl⟩
      go_wp2_with fail
      go_ret
      exact ⟨ret_num HX.out, rfl⟩
  · have h5 : ¬ p.size < q.size := by omega
    have h6 : ¬ p.size = q.size := by omega
    cases b <;> cases c
    all_goals
      simp [h5, h6] at HX
      replace HX := Lib.hid HX
      go_enter Tryd.func16, Tryd.ntmps16
      go_wp2_with fail
      refine (CP.out _).mono ?_
      rintro e w2 ⟨rfl, rfl⟩
      go_wp2_with fail
      refine (CQ.out _).mono ?_
      rintro e w2 ⟨rfl, rfl⟩
      go_wp2_with fail
      go_ret
      exact ⟨ret_num HX.out, rfl⟩
end Go.Proofs.YthdiaghkpolonaaDoor
