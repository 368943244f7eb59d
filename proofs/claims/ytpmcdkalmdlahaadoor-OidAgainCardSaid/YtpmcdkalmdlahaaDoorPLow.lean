/-
  The program's letters, words and small letters.
-/
import Derived.Test.YtpmcdkalmdlahaaDoorRefSign
import Derived.Test.YtpmcdkalmdlahaaDoorStrs
import Derived.Lib.ConvBytes
import Derived.Laws.IdiomStrings
import Derived.Lib.QuietBelow
import Derived.BigGuardPart
namespace Go.Proofs.YtpmcdkalmdlahaaDoor
open Go.RowKit

def capB (c : UInt8) : Bool := decide (65 ≤ c.toNat) && decide (c.toNat ≤ 90)
set_option maxHeartbeats 800000 in
theorem capital_any (c : UInt8) (w : World) : Calls Tryd.prog 34 #[.int .u8 (c.toNat : Int)] w fun e w' => e = .returned (.bool (capB c)) ∧ w' = w := by
  have h : Hid (capB c = (decide (65 ≤ (c.toNat : Int)) && decide ((c.toNat : Int) ≤ 90))) := Lib.hid (by
    unfold capB
    rw [show decide (65 ≤ c.toNat) = decide (65 ≤ (c.toNat : Int)) from decide_eq_decide.2 (by omega), show decide (c.toNat ≤ 90) = decide ((c.toNat : Int) ≤ 90) from decide_eq_decide.2 (by omega)])
  go_enter Tryd.func34, Tryd.ntmps34
  go_wp2
  all_goals
    go_ret
    exact ⟨ret_boolO (by rw [h.out, Bool.eq_iff_iff]; simp; omega), rfl⟩
set_option maxHeartbeats 800000 in
theorem letter_any (c : UInt8) (w : World) : Calls Tryd.prog 31 #[.int .u8 (c.toNat : Int)] w fun e w' => e = .returned (.bool (letterB c)) ∧ w' = w := by
  have h : Hid (letterB c = ((decide (97 ≤ (c.toNat : Int)) && decide ((c.toNat : Int) ≤ 122)) || capB c)) := Lib.hid (by
    unfold letterB capB
    rw [show decide (97 ≤ c.toNat) = decide (97 ≤ (c.toNat : Int)) from decide_eq_decide.2 (by omega), show decide (c.toNat ≤ 122) = decide ((c.toNat : Int) ≤ 122) from decide_eq_decide.2 (by omega)])
  have CC := Lib.hid (capital_any c w)
  obtain ⟨v, hv⟩ : ∃ v, capB c = v := ⟨_, rfl⟩
  rw [hv] at CC h
  replace hv := Lib.hid hv
  by_cases h1 : 97 ≤ (c.toNat : Int)
  · have e1 : decide (97 ≤ (c.toNat : Int)) = true := decide_eq_true h1
    by_cases h2 : (c.toNat : Int) ≤ 122
    · have e2 : decide ((c.toNat : Int) ≤ 122) = true := decide_eq_true h2
      rw [e1, e2] at h
      go_enter Tryd.func31, Tryd.ntmps31
      go_wp2_with fail
      go_returns
      exact ⟨ret_boolO (by rw [h.out]; rfl), rfl⟩
    · have e2 : decide ((c.toNat : Int) ≤ 122) = false := decide_eq_false h2
      rw [e1, e2] at h
      go_enter Tryd.func31, Tryd.ntmps31
      go_wp2_with (go_at_call 34; refine CC.out.mono ?_; rintro _ _ ⟨rfl, rfl⟩)
      go_returns
      exact ⟨ret_boolO (by rw [h.out]; rfl), rfl⟩
  · have e1 : decide (97 ≤ (c.toNat : Int)) = false := decide_eq_false h1
    rw [e1] at h
    go_enter Tryd.func31, Tryd.ntmps31
    go_wp2_with (go_at_call 34; refine CC.out.mono ?_; rintro _ _ ⟨rfl, rfl⟩)
    go_returns
    exact ⟨ret_boolO (by rw [h.out]; rfl), rfl⟩
set_option maxHeartbeats 1600000 in
theorem plain_any (s : ByteArray) (w : World) (hs : s.size ≤ 1000000) : Calls Tryd.prog 30 #[.string s] w fun e w' => e = .returned (.bool (signsB s.data.toList)) ∧ w' = w := by
  have HT : Hid (signsB s.data.toList = (s.data.toList.all signB && decide (0 < s.size))) := Lib.hid (by unfold signsB; rw [size_listO])
  have CL := Lib.hid (fun c => letter_any c w)
  obtain ⟨z, hz⟩ : ∃ z, s.toList = z := ⟨_, rfl⟩
  have hzz : decide (0 < s.size) = !z.isEmpty := by
    rw [← hz, ByteArray.toList_eq]
    rcases e : s.data.toList with _ | ⟨a, r⟩
    · have h1 := size_listO s
      rw [e] at h1
      rw [← h1]
      rfl
    · have h1 := size_listO s
      rw [e] at h1
      rw [← h1]
      rfl
  replace hzz := Lib.hid hzz
  go_enter Tryd.func30, Tryd.ntmps30
  go_wp2_with fail
  go_loop [7] (fun i => ∃ k : Nat, k ≤ s.size ∧ i = .int .i64 (k : Int) ∧ Hid ((s.data.toList.take k).all signB = true)) (fun i => s.size - (intOf i).toNat)
  case atStart => exact ⟨0, Nat.zero_le _, rfl, Lib.hid rfl⟩
  case round =>
    obtain ⟨k, hk, rfl, H⟩ := hrel
    by_cases hlt : k < s.size
    · obtain ⟨d, hd⟩ : ∃ d, d = signB s[k] := ⟨_, rfl⟩
      have H2 : (s.data.toList.take (k + 1)).all signB = d := by
        rw [take_snocO s k hlt, all_snoc, H.out, Bool.true_and, hd]
      replace H2 := Lib.hid H2
      have H3 : Hid (d = false → s.data.toList.all signB = false) := Lib.hid fun e => all_no _ _ k (by simpa using hlt) (by rw [get_listO s k hlt, ← hd, e])
      have C1 := Lib.hid (CL.out s[k])
      obtain ⟨a, ha⟩ : ∃ a, a = letterB s[k] := ⟨_, rfl⟩
      have hsg : signB s[k] = (a || (decide (48 ≤ (s[k].toNat : Int)) && decide ((s[k].toNat : Int) ≤ 57)) || decide ((s[k].toNat : Int) = 45)) := by
        unfold signB
        rw [ha, show decide (48 ≤ s[k].toNat) = decide (48 ≤ (s[k].toNat : Int)) from decide_eq_decide.2 (by omega), show decide (s[k].toNat ≤ 57) = decide ((s[k].toNat : Int) ≤ 57) from decide_eq_decide.2 (by omega)]
        congr 1
        rw [Bool.eq_iff_iff]
        simp only [beq_iff_eq, decide_eq_true_eq, ← UInt8.toNat_inj]
        show s[k].toNat = 45 ↔ _
        omega
      rw [← ha] at C1
      obtain ⟨n, hn⟩ : ∃ n, n = s[k].toNat := ⟨_, rfl⟩
      have hns : ((s[k].toNat : Nat) : Int) = (n : Int) := by rw [hn]
      have hcell : s[k].toNat = n := hn.symm
      have hnb : n < 256 := by rw [hn]; exact s[k].toNat_lt
      rw [hcell] at C1 hsg
      rw [← hd] at hsg
      have i0 : (0 : Int) ≤ (k : Int) := by omega
      have i1 : (k : Int) < (s.size : Int) := by omega
      replace hd := Lib.hid hd
      replace ha := Lib.hid ha
      replace hn := Lib.hid hn
      cases a
      · by_cases g1 : 48 ≤ (n : Int)
        · have f1 : ¬ ((n : Int) < 48) := by omega
          have f2 : decide ((n : Int) < 48) = false := decide_eq_false f1
          by_cases g2 : (n : Int) ≤ 57
          · have f3 : ¬ (57 < (n : Int)) := by omega
            have f4 : decide (57 < (n : Int)) = false := decide_eq_false f3
            rw [decide_eq_true g1, decide_eq_true g2] at hsg
            have hdt : d = true := by rw [hsg]; rfl
            rw [hdt] at H2
            clear hsg
            replace hdt := Lib.hid hdt
            go_wp2_with (go_at_call 31; refine C1.out.mono ?_; rintro _ _ ⟨rfl, rfl⟩)
            go_round
            case rel => exact ⟨k + 1, by omega, by go_num, H2⟩
            case measure => simp [intOf]; omega
          · have f3 : (57 < (n : Int)) := by omega
            have f4 : decide (57 < (n : Int)) = true := decide_eq_true f3
            have f5 : ¬ ((n : Int) = 45) := by omega
            have f6 : ((n : Int) == 45) = false := by simpa using f5
            rw [decide_eq_false g2, decide_eq_false f5, Bool.and_false] at hsg
            have hdt : d = false := by rw [hsg]; rfl
            have hfin := Lib.hid (H3.out hdt)
            clear hsg H3
            replace hdt := Lib.hid hdt
            go_wp2_with (go_at_call 31; refine C1.out.mono ?_; rintro _ _ ⟨rfl, rfl⟩)
            go_returns
            exact ⟨ret_boolO (by rw [HT.out, hfin.out, Bool.false_and]), rfl⟩
        · have f1 : (n : Int) < 48 := by omega
          have f2 : decide ((n : Int) < 48) = true := decide_eq_true f1
          by_cases g3 : (n : Int) = 45
          · have f6 : ((n : Int) == 45) = true := by simpa using g3
            rw [decide_eq_true g3, Bool.or_true] at hsg
            rw [hsg] at H2
            have g4 := Lib.hid g3
            have hn45 : n = 45 := by omega
            clear g3 hnb hns
            subst hn45
            replace hsg := Lib.hid hsg
            go_wp2_with (go_at_call 31; refine C1.out.mono ?_; rintro _ _ ⟨rfl, rfl⟩)
            go_round
            case rel => exact ⟨k + 1, by omega, by go_num, H2⟩
            case measure => simp [intOf]; omega
          · have f6 : ((n : Int) == 45) = false := by simpa using g3
            rw [decide_eq_false g1, decide_eq_false g3, Bool.false_and] at hsg
            have hdt : d = false := by rw [hsg]; rfl
            have hfin := Lib.hid (H3.out hdt)
            clear hsg H3
            replace hdt := Lib.hid hdt
            go_wp2_with (go_at_call 31; refine C1.out.mono ?_; rintro _ _ ⟨rfl, rfl⟩)
            go_returns
            exact ⟨ret_boolO (by rw [HT.out, hfin.out, Bool.false_and]), rfl⟩
      · have hdt : d = true := by rw [hsg]; rfl
        rw [hdt] at H2
        clear hsg
        replace hdt := Lib.hid hdt
        go_wp2_with (go_at_call 31; refine C1.out.mono ?_; rintro _ _ ⟨rfl, rfl⟩)
        go_round
        case rel => exact ⟨k + 1, by omega, by go_num, H2⟩
        case measure => simp [intOf]; omega
    · have hkk : k = s.size := by omega
      subst hkk
      have H2 : signsB s.data.toList = decide (0 < s.size) := by
        rw [HT.out]
        rw [List.take_of_length_le (by simp)] at H
        rw [H.out, Bool.true_and]
      replace H2 := Lib.hid H2
      go_wp2_with fail
      go_returns
      exact ⟨ret_boolO (by rw [H2.out]; exact hzz.out.symm), rfl⟩
set_option maxHeartbeats 800000 in
theorem word_any (s : ByteArray) (w : World) (hs : s.size ≤ 1000000) : Calls Tryd.prog 13 #[.string s] w fun e w' => e = .returned (.bool (wordB s.data.toList)) ∧ w' = w := by
  have HT : Hid (wordB s.data.toList = (decide (1 ≤ s.size) && decide (s.size ≤ 64) && letterB (s.data.toList.headD 0) && signsB s.data.toList)) := Lib.hid (by unfold wordB; rw [size_listO])
  have CS := Lib.hid (plain_any s w hs)
  have hne : signsB s.data.toList = true → 1 ≤ s.size := fun h => by
    unfold signsB at h
    rw [Bool.and_eq_true, decide_eq_true_eq, size_listO] at h
    omega
  obtain ⟨b, hb⟩ : ∃ b, b = signsB s.data.toList := ⟨_, rfl⟩
  rw [← hb] at CS HT hne
  replace hb := Lib.hid hb
  by_cases h2 : s.size ≤ 64
  · have i2 : (s.size : Int) ≤ 64 := by omega
    have i3 : decide ((s.size : Int) ≤ 64) = true := decide_eq_true i2
    cases b
    · rw [Bool.and_false] at HT
      replace hne := Lib.hid hne
      go_enter Tryd.func13, Tryd.ntmps13
      go_wp2_with (go_at_call 30; refine CS.out.mono ?_; rintro _ _ ⟨rfl, rfl⟩)
      go_returns
      exact ⟨ret_boolO (by rw [HT.out]), rfl⟩
    · have h1 := hne rfl
      have hh := head_listO s h1
      have CL := Lib.hid (letter_any s[0] w)
      rw [← hh] at CL
      obtain ⟨a, ha⟩ : ∃ a, a = letterB (s.data.toList.headD 0) := ⟨_, rfl⟩
      rw [← ha, hh] at CL
      rw [← ha, decide_eq_true h1, decide_eq_true h2] at HT
      have i0 : (0 : Int) < (s.size : Int) := by omega
      replace ha := Lib.hid ha
      replace hh := Lib.hid hh
      replace hne := Lib.hid hne
      go_enter Tryd.func13, Tryd.ntmps13
      go_wp2_with (first | (go_at_call 30; refine CS.out.mono ?_; rintro _ _ ⟨rfl, rfl⟩) | (go_at_call 31; refine CL.out.mono ?_; rintro _ _ ⟨rfl, rfl⟩))
      go_returns
      exact ⟨ret_boolO (by rw [HT.out]; cases a <;> rfl), rfl⟩
  · have i2 : ¬ ((s.size : Int) ≤ 64) := by omega
    have i3 : decide ((s.size : Int) ≤ 64) = false := decide_eq_false i2
    rw [decide_eq_false h2, Bool.and_false, Bool.false_and, Bool.false_and] at HT
    replace hne := Lib.hid hne
    go_enter Tryd.func13, Tryd.ntmps13
    go_wp2_with fail
    go_returns
    exact ⟨ret_boolO (by rw [HT.out]), rfl⟩
/-- Block G reads as the bytes L, and can be written. -/
def ByB (w : World) (G : Nat) (L : List UInt8) : Prop := ∀ (j : Nat) (c : UInt8), L[j]? = some c → w.cell? ⟨G, j, none⟩ = some (.int .u8 (c.toNat : Int)) ∧ w.frozen? ⟨G, j, none⟩ = false
theorem ByB.new (w : World) (s : ByteArray) : ByB (Lib.bytesWorld w 5 s) w.heap.size s.data.toList := by
  intro j c hj
  have hlt : j < s.size := by
    have := (List.getElem?_eq_some_iff.1 hj).1
    rwa [size_listO] at this
  refine ⟨?_, ?_⟩
  · rw [Lib.bytesWorld_cell w _ s j hlt, List.getD_eq_getElem?_getD, hj]
    rfl
  · unfold World.frozen?
    rw [Lib.bytesWorld_at_new]
    have h2 : ¬ (Lib.bytesCells w 5 s).size ≤ j := by
      unfold Lib.bytesCells
      simp
      omega
    simp [h2]
theorem below_bytes (w : World) (s : ByteArray) : Below w.heap.size w (Lib.bytesWorld w 5 s) :=
  ⟨rfl, rfl, rfl, by rw [Lib.bytesWorld_size]; omega, fun k hk => Lib.bytesWorld_at_old w _ s k hk⟩
theorem ByB.set {w : World} {G : Nat} {L : List UInt8} (h : ByB w G L) (i : Nat) (hi : i < L.length) (c : UInt8) : ByB (w.setCell ⟨G, i, none⟩ (.int .u8 (c.toNat : Int))) G (L.set i c) := by
  intro j d hj
  rw [World.frozen?_setCell]
  rw [List.getElem?_set] at hj
  by_cases hij : i = j
  · subst hij
    rw [if_pos rfl, if_pos hi] at hj
    injection hj with hj
    subst hj
    obtain ⟨h1, h2⟩ := h i _ (List.getElem?_eq_getElem hi)
    exact ⟨World.cell?_setCell_same _ _ _ h1, h2⟩
  · rw [if_neg hij] at hj
    obtain ⟨h1, h2⟩ := h j d hj
    exact ⟨(World.cell?_setCell_other _ _ _ _ (by intro e; injection e with _ e; exact hij e)).trans h1, h2⟩
/-- The first k letters made small. -/
def lowK (l : List UInt8) (k : Nat) : List UInt8 := lowL (l.take k) ++ l.drop k
theorem lowK_len (l : List UInt8) (k : Nat) : (lowK l k).length = l.length := by
  unfold lowK lowL
  rw [List.length_append, List.length_map, ← List.length_append, List.take_append_drop]
theorem lowK_at (l : List UInt8) (k : Nat) (h : k < l.length) : (lowK l k)[k]? = some l[k] := by
  unfold lowK lowL
  rw [List.getElem?_append_right (by rw [List.length_map, List.length_take]; omega), List.getElem?_drop, List.length_map, List.length_take, Nat.min_eq_left (by omega), Nat.sub_self, Nat.add_zero, List.getElem?_eq_getElem h]
theorem lowK_succ (l : List UInt8) (k : Nat) (h : k < l.length) : lowK l (k + 1) = (lowK l k).set k (low l[k]) := by
  unfold lowK lowL
  rw [List.set_append_right _ _ (by rw [List.length_map, List.length_take]; omega), List.length_map, List.length_take, Nat.min_eq_left (by omega), Nat.sub_self, List.take_succ_eq_append_getElem h, List.map_append, List.append_assoc, List.drop_eq_getElem_cons h (i := k)]
  rfl
theorem lowK_end (l : List UInt8) : lowK l l.length = lowL l := by
  unfold lowK
  rw [List.take_length, List.drop_length, List.append_nil]
theorem lowK_zero (l : List UInt8) : lowK l 0 = l := by unfold lowK lowL; simp
set_option maxRecDepth 4000 in
set_option maxHeartbeats 1600000 in
theorem lower_any (s : ByteArray) (w : World) (hs : s.size ≤ 1000000) : Calls Tryd.prog 15 #[.string s] w fun e w' => e = .returned (.string (baO (lowL s.data.toList))) ∧ Below w.heap.size w w' := by
  obtain ⟨l, rfl⟩ : ∃ l, s = baO l := ⟨s.data.toList, rfl⟩
  rw [baO_list]
  obtain ⟨n, hn⟩ : ∃ n, n = l.length := ⟨_, rfl⟩
  have hsz : (baO l).size = n := by rw [hn, ← size_listO, baO_list]
  have cv := Lib.run_convert_string_bytes (P := Tryd.prog) w 9 22 5 (baO l) Tryd.underlying9 Tryd.underlying22 Tryd.underlying5
  have hW : ByB (Lib.bytesWorld w 5 (baO l)) w.heap.size (lowK l 0) := by rw [lowK_zero]; exact ByB.new w (baO l)
  have hBW := below_bytes w (baO l)
  have hWs : w.heap.size < (Lib.bytesWorld w 5 (baO l)).heap.size := by rw [Lib.bytesWorld_size]; omega
  obtain ⟨W, hWe⟩ : ∃ W, Lib.bytesWorld w 5 (baO l) = W := ⟨_, rfl⟩
  obtain ⟨cap, hcap⟩ : ∃ cap, grownCap w (baO l).size 0 5 = cap := ⟨_, rfl⟩
  rw [hcap, hWe, hsz] at cv
  rw [hWe] at hW hBW hWs
  rw [hsz] at hs
  obtain ⟨G, hG⟩ : ∃ G, G = w.heap.size := ⟨_, rfl⟩
  rw [← hG] at cv hW hWs
  have hGB : Hid (w.heap.size ≤ G) := Lib.hid (by omega)
  have hend : Hid (lowK l n = lowL l) := Lib.hid (by rw [hn]; exact lowK_end l)
  have hlen : Hid (∀ k, (lowK l k).length = n) := Lib.hid fun k => by rw [lowK_len, hn]
  have hat : Hid (∀ k (h : k < n), (lowK l k)[k]? = some (l[k]'(by omega)) ∧ lowK l (k + 1) = (lowK l k).set k (low (l[k]'(by omega)))) := Lib.hid fun k h => ⟨lowK_at l k (by omega), lowK_succ l k (by omega)⟩
  replace hW := Lib.hid hW
  replace hBW := Lib.hid hBW
  replace hWe := Lib.hid hWe
  replace hG := Lib.hid hG
  replace hcap := Lib.hid hcap
  replace hsz := Lib.hid hsz
  replace hn := Lib.hid hn
  go_enter Tryd.func15, Tryd.ntmps15
  go_wp2_with fail
  go_loopw [10] (fun i wr => ∃ k : Nat, k ≤ n ∧ i = .int .i64 (k : Int) ∧ Hid (ByB wr G (lowK l k)) ∧ Hid (Below w.heap.size w wr)) (fun i _ => n - (intOf i).toNat)
  case atStart => exact ⟨0, Nat.zero_le _, rfl, hW, hBW⟩
  case round =>
    obtain ⟨k, hk, rfl, HC, HB⟩ := hrel
    by_cases hlt : k < n
    · obtain ⟨h1, h2⟩ := hat.out k hlt
      have hln := hlen.out k
      obtain ⟨c, hc⟩ : ∃ c, c = l[k]'(by have := hn.out; omega) := ⟨_, rfl⟩
      rw [← hc] at h1 h2
      obtain ⟨g1, g2⟩ := HC.out k c h1
      have C1 := Lib.hid (capital_any c wr)
      have i0 : (0 : Int) ≤ (k : Int) := by omega
      have i1 : (k : Int) < (n : Int) := by omega
      have hset := ByB.set HC.out k (by omega) (low c)
      rw [← h2] at hset
      obtain ⟨d, hd⟩ : ∃ d, d = (low c).toNat := ⟨_, rfl⟩
      obtain ⟨x, hx⟩ : ∃ x, x = c.toNat := ⟨_, rfl⟩
      have hxb : x < 256 := by rw [hx]; exact c.toNat_lt
      by_cases g : 65 ≤ x ∧ x ≤ 90
      · have hv : capB c = true := by unfold capB; rw [← hx, decide_eq_true g.1, decide_eq_true g.2]; rfl
        have hdx : (x : Int) + 32 = (d : Int) := by
          rw [hd]
          unfold low
          rw [← hx, decide_eq_true g.1, decide_eq_true g.2]
          show _ = (((UInt8.ofNat (x + 32)).toNat : Nat) : Int)
          rw [UInt8.toNat_ofNat']
          omega
        have hdb : (d : Int) < 256 := by omega
        have hdb0 : (0 : Int) ≤ (d : Int) := by omega
        rw [hv] at C1
        rw [← hx] at C1 g1
        rw [← hd] at hset
        replace hset := Lib.hid hset
        replace h1 := Lib.hid h1
        replace h2 := Lib.hid h2
        replace hc := Lib.hid hc
        replace hd := Lib.hid hd
        replace hx := Lib.hid hx
        replace hv := Lib.hid hv
        replace hln := Lib.hid hln
        go_wp2_with fail
        refine C1.out.mono ?_
        rintro _ w2 ⟨rfl, e2⟩
        subst w2
        dsimp only []
        go_wp2_with fail
        go_roundw
        case rel => exact ⟨k + 1, by omega, by go_num, hset, Lib.hid (HB.out.setCell (p := ⟨G, k, none⟩) hGB.out _)⟩
        case measure => simp [intOf]; omega
      · have hv : capB c = false := by
          unfold capB
          rw [← hx]
          by_cases g3 : 65 ≤ x
          · rw [decide_eq_false (show ¬ x ≤ 90 from fun e => g ⟨g3, e⟩), Bool.and_false]
          · rw [decide_eq_false g3, Bool.false_and]
        have hlow : low c = c := by
          have := hv
          unfold capB at this
          unfold low
          rw [this]
          rfl
        have hsame : lowK l (k + 1) = lowK l k := by
          rw [h2, hlow]
          refine List.ext_getElem? fun j => ?_
          rw [List.getElem?_set]
          by_cases hj : k = j
          · subst hj
            rw [if_pos rfl, if_pos (by rw [lowK_len]; have := hn.out; omega), h1]
          · rw [if_neg hj]
        have HC2 : Hid (ByB wr G (lowK l (k + 1))) := Lib.hid (by rw [hsame]; exact HC.out)
        rw [hv] at C1
        rw [← hx] at C1 g1
        clear hset hsame hlow hd g
        replace h1 := Lib.hid h1
        replace h2 := Lib.hid h2
        replace hc := Lib.hid hc
        replace hx := Lib.hid hx
        replace hv := Lib.hid hv
        replace hln := Lib.hid hln
        go_wp2_with fail
        refine C1.out.mono ?_
        rintro _ w2 ⟨rfl, e2⟩
        subst w2
        dsimp only []
        go_wp2_with fail
        go_roundw
        case rel => exact ⟨k + 1, by omega, by go_num, HC2, HB⟩
        case measure => simp [intOf]; omega
    · have hkk : k = n := by omega
      subst hkk
      have HC2 := HC.out
      rw [hend.out] at HC2
      have hll : (lowL l).length = l.length := by rw [lowL, List.length_map]
      have cb := run_convert_bytes_back (P := Tryd.prog) wr 22 9 5 ⟨G, 0, none⟩ cap (lowL l) Tryd.underlying22 Tryd.underlying5 Tryd.underlying9 (fun j hj => by
        have := (HC2 j _ (List.getElem?_eq_getElem hj)).1
        have e0 : (⟨G, 0, none⟩ : Addr).add j = ⟨G, j, none⟩ := by unfold Addr.add; split <;> simp_all
        rw [e0]
        exact this)
      rw [hll] at cb
      replace hll := Lib.hid hll
      clear HC2
      go_wp2_with fail
      go_returns
      exact ⟨rfl, HB.out⟩
end Go.Proofs.YtpmcdkalmdlahaaDoor
