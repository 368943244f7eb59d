/-
  The program's parse: a text's sign and its digits without zeros ahead.
-/
import Derived.Test.YthdiaghkpolonaaDoorPs
import Derived.Test.YthdiaghkpolonaaDoorRefPlain
import Derived.Test.YthdiaghkpolonaaDoorShelf
import Derived.Lib.QuietBelow
namespace Go.Proofs.YthdiaghkpolonaaDoor
open Go.RowKit Go.Lib

def psV (q : Bool × List UInt8) : Value := .agg #[.bool q.1, .string (baL q.2)]

theorem digs_fault (l : List UInt8) (h : digsL l = false) : ∃ (k : Nat) (hk : k < l.length), isDig l[k] = false ∧ ∀ (j : Nat) (_ : j < k) (hj : j < l.length), isDig l[j] = true := by
  induction l with
  | nil => cases h
  | cons c r ih =>
    by_cases hc : isDig c = true
    · have h2 : digsL r = false := by
        simp only [digsL, List.all_cons, hc, Bool.true_and] at h
        exact h
      obtain ⟨k, hk, h1, h3⟩ := ih h2
      refine ⟨k + 1, by simp; exact hk, by simpa using h1, fun j hj hjl => ?_⟩
      rcases j with _ | j
      · exact hc
      · simpa using h3 j (by omega) (by simpa using hjl)
    · exact ⟨0, by simp, by simpa using hc, fun j hj => absurd hj (by omega)⟩
theorem digs_get (l : List UInt8) (h : digsL l = true) (k : Nat) (hk : k < l.length) : isDig l[k] = true := by
  simp only [digsL, List.all_eq_true] at h
  exact h _ (List.getElem_mem hk)
theorem isDig_no {c : UInt8} (h : isDig c = false) : ((c.toNat : Int) < 48) ∨ (57 < (c.toNat : Int)) := by
  by_cases h1 : c.toNat < 48
  · left; omega
  · right
    simp only [isDig, Bool.and_eq_false_iff, decide_eq_false_iff_not] at h
    omega
theorem isDig_yes {c : UInt8} (h : isDig c = true) : (48 ≤ (c.toNat : Int)) ∧ ((c.toNat : Int) ≤ 57) := by
  simp only [isDig, Bool.and_eq_true, decide_eq_true_eq] at h
  omega

set_option maxRecDepth 4000 in
set_option maxHeartbeats 800000 in
theorem parse_any (s : ByteArray) (w : World) (hs : s.size ≤ maxLen) :
    Calls Tryd.prog 19 #[.string s] w fun e w' => e = .returned (psV (psL s.data.toList)) ∧ Below w.heap.size w w' := by
  unfold maxLen at hs
  have HP := ps_of s.data.toList
  obtain ⟨d, hd⟩ : ∃ d, d = baL (trimPrefix s.data.toList [45]) := ⟨_, rfl⟩
  obtain ⟨t, ht⟩ : ∃ t, t = baL (trimLeftB (trimPrefix s.data.toList [45]) 48) := ⟨_, rfl⟩
  obtain ⟨m, hm⟩ : ∃ m, m = hasPrefix s.data.toList [45] := ⟨_, rfl⟩
  have hdl : trimPrefix s.data.toList [45] = d.data.toList := by rw [hd, baL_list]
  have htl : trimLeftB d.data.toList 48 = t.data.toList := by rw [ht, hd, baL_list, baL_list]
  have CUT : ∀ w, Calls Tryd.prog 25 #[.string s, .string { data := #[45] }] w fun e w' => e = .returned (.tuple #[.string d, .bool m]) ∧ w' = w := by rw [hd, hm]; exact Tryd.strings_CutPrefix s { data := #[45] }
  have TRI : ∀ w, Calls Tryd.prog 26 #[.string d, .string { data := #[48] }] w fun e w' => e = .returned (.string t) ∧ w' = w := fun w => by
    have := Tryd.strings_TrimLeft_one d 48 (by decide) w
    rw [htl] at this
    exact this
  have hds : d.size ≤ 9223372036854775807 := by
    have h1 : (trimPrefix s.data.toList [45]).length ≤ s.data.toList.length := by
      unfold trimPrefix
      split
      · rw [List.length_drop]; omega
      · omega
    rw [hdl, size_list, size_list] at h1
    omega
  rw [hdl, htl, ← hm] at HP
  obtain ⟨X, hX⟩ : ∃ X, X = psL s.data.toList := ⟨_, rfl⟩
  rw [← hX] at HP ⊢
  obtain ⟨HP1, HP2, HP3, HP4⟩ := HP
  clear hd ht hm hdl htl hX
  by_cases h0 : d.data.toList = []
  · have hb0 : d.toList.isEmpty = true := by rw [ByteArray.toList_eq, h0]; rfl
    have HX := Lib.hid (HP1 h0)
    clear HP1 HP2 HP3 HP4 h0
    replace CUT := Lib.hid CUT
    replace TRI := Lib.hid TRI
    go_enter Tryd.func19, Tryd.ntmps19
    go_wp2_with fail
    refine (CUT.out _).mono ?_
    rintro e w2 ⟨rfl, rfl⟩
    go_wp2_with fail
    rw [HX.out]
    go_returns
    exact ⟨rfl, (Below.refl _ _).alloc (Nat.le_refl _) _⟩
  have hb0 : d.toList.isEmpty = false := by rw [ByteArray.toList_eq]; simpa using h0
  have hpos : 0 < d.size := by rw [← size_list]; exact List.length_pos_iff.2 h0
  by_cases hdg : digsL d.data.toList = true
  · have hget : ∀ (k : Nat) (hk : k < d.size), 48 ≤ (d[k].toNat : Int) ∧ (d[k].toNat : Int) ≤ 57 := fun k hk => isDig_yes (digs_get _ hdg k (by simpa using hk))
    have HP3' := HP3 h0 hdg
    have HP4' := HP4 h0 hdg
    clear HP1 HP2 HP3 HP4 h0 hdg
    by_cases ht0 : t.data.toList = []
    · have hbt : t.toList.isEmpty = true := by rw [ByteArray.toList_eq, ht0]; rfl
      have HX := Lib.hid (HP3' ht0)
      clear HP3' HP4' ht0
      replace CUT := Lib.hid CUT
      replace TRI := Lib.hid TRI
      replace hget := Lib.hid hget
      go_enter Tryd.func19, Tryd.ntmps19
      go_wp2_with fail
      refine (CUT.out _).mono ?_
      rintro e w2 ⟨rfl, rfl⟩
      go_wp2_with fail
      go_loop [16] (fun i => ∃ k : Nat, k ≤ d.size ∧ i = .int .i64 (k : Int)) (fun i => d.size - (RowKit.intOf i).toNat)
      case atStart => exact ⟨0, Nat.zero_le _, rfl⟩
      case round =>
        obtain ⟨k, hk, rfl⟩ := hrel
        by_cases hlt : k < d.size
        · obtain ⟨g1, g2⟩ := hget.out k hlt
          go_wp2_with fail
          go_round
          case rel => exact ⟨k + 1, by omega, by go_num⟩
          case measure => simp [RowKit.intOf]; omega
        · have hkk : k = d.size := by omega
          subst hkk
          go_wp2_with fail
          refine (TRI.out _).mono ?_
          rintro e w3 ⟨rfl, rfl⟩
          go_wp2_with fail
          rw [HX.out]
          go_returns
          exact ⟨rfl, (Below.refl _ _).alloc (Nat.le_refl _) _⟩
    · have hbt : t.toList.isEmpty = false := by rw [ByteArray.toList_eq]; simpa using ht0
      have HX := Lib.hid (HP4' ht0)
      clear HP3' HP4' ht0
      replace CUT := Lib.hid CUT
      replace TRI := Lib.hid TRI
      replace hget := Lib.hid hget
      go_enter Tryd.func19, Tryd.ntmps19
      go_wp2_with fail
      refine (CUT.out _).mono ?_
      rintro e w2 ⟨rfl, rfl⟩
      go_wp2_with fail
      go_loop [16] (fun i => ∃ k : Nat, k ≤ d.size ∧ i = .int .i64 (k : Int)) (fun i => d.size - (RowKit.intOf i).toNat)
      case atStart => exact ⟨0, Nat.zero_le _, rfl⟩
      case round =>
        obtain ⟨k, hk, rfl⟩ := hrel
        by_cases hlt : k < d.size
        · obtain ⟨g1, g2⟩ := hget.out k hlt
          go_wp2_with fail
          go_round
          case rel => exact ⟨k + 1, by omega, by go_num⟩
          case measure => simp [RowKit.intOf]; omega
        · have hkk : k = d.size := by omega
          subst hkk
          go_wp2_with fail
          refine (TRI.out _).mono ?_
          rintro e w3 ⟨rfl, rfl⟩
          go_wp2_with fail
          rw [HX.out]
          go_returns
          exact ⟨by rw [psV, list_baL], (Below.refl _ _).alloc (Nat.le_refl _) _⟩
  · have hdg2 : digsL d.data.toList = false := by simpa using hdg
    have HX := Lib.hid (HP2 hdg2)
    obtain ⟨j, hj, hjn, hall⟩ := digs_fault _ hdg2
    have hjs : j < d.size := by rw [← size_list]; exact hj
    have hjd : (d[j].toNat : Int) < 48 ∨ 57 < (d[j].toNat : Int) := isDig_no hjn
    have hget : ∀ (k : Nat) (hk : k < d.size), k < j → 48 ≤ (d[k].toNat : Int) ∧ (d[k].toNat : Int) ≤ 57 := fun k hk hkj => isDig_yes (hall k hkj (by simpa using hk))
    clear HP1 HP2 HP3 HP4 h0 hdg hdg2 hjn hall hj
    replace CUT := Lib.hid CUT
    replace TRI := Lib.hid TRI
    replace hget := Lib.hid hget
    rcases hjd with hjd | hjd
    all_goals
      go_enter Tryd.func19, Tryd.ntmps19
      go_wp2_with fail
      refine (CUT.out _).mono ?_
      rintro e w2 ⟨rfl, rfl⟩
      go_wp2_with fail
      go_loop [16] (fun i => ∃ k : Nat, k ≤ j ∧ i = .int .i64 (k : Int)) (fun i => d.size - (RowKit.intOf i).toNat)
      case atStart => exact ⟨0, Nat.zero_le _, rfl⟩
      case round =>
        obtain ⟨k, hk, rfl⟩ := hrel
        have hks : k < d.size := by omega
        by_cases hlt : k < j
        · obtain ⟨g1, g2⟩ := hget.out k hks hlt
          go_wp2_with fail
          go_round
          case rel => exact ⟨k + 1, by omega, by go_num⟩
          case measure => simp [RowKit.intOf]; omega
        · have hkk : k = j := by omega
          subst hkk
          have hq : 48 ≤ (d[k].toNat : Int) ∨ (d[k].toNat : Int) < 48 := by omega
          go_wp2_with fail
          rw [HX.out]
          go_returns
          exact ⟨rfl, (Below.refl _ _).alloc (Nat.le_refl _) _⟩
end Go.Proofs.YthdiaghkpolonaaDoor
