/-
  The program's extent and decode: where a string in a name ends, and what its solid part stands for.
-/
import Derived.Test.YtbdbgiecfkgimaaDoorPUnescW10
import Derived.Test.YtbdbgiecfkgimaaDoorDecD10
namespace Go.Proofs.YtbdbgiecfkgimaaDoor
open Go.RowKit

theorem sol_le : ∀ (n : Nat) (l : List Nat), l.length ≤ n → solE l ≤ endE l
  | _, [], _ => Nat.le_refl _
  | 0, c :: t, h => by simp at h
  | n + 1, c :: t, h => by
    have ht : t.length ≤ n := by simp only [List.length_cons] at h; omega
    cases hst : stopE c
    · by_cases h92 : c = 92
      · subst h92
        rcases t with _ | ⟨a, u⟩
        · decide
        · rw [end_esc, sol_esc]
          have := sol_le n u (by simp only [List.length_cons] at ht; omega)
          omega
      · rw [end_own _ _ hst h92, sol_own _ _ hst h92]
        have := sol_le n t ht
        split <;> omega
    · rw [(sol_stop c t hst).1]
      exact Nat.zero_le _
theorem end_bs (a : Nat) : decide (a ∈ bs ⟨#[34, 43, 44, 59, 60, 62, 61]⟩) = stopE a := by
  refine Bool.eq_iff_iff.2 ?_
  rw [decide_eq_true_iff]
  show a ∈ [34, 43, 44, 59, 60, 62, 61] ↔ _
  unfold stopE
  simp
  omega
theorem wrong_bs (a : Nat) : decide (a ∈ bs ⟨#[34, 60, 62, 61]⟩) = sharpE a := by
  refine Bool.eq_iff_iff.2 ?_
  rw [decide_eq_true_iff]
  show a ∈ [34, 60, 62, 61] ↔ _
  unfold sharpE
  simp
  omega
/-- Where the reading stands: the end, and the last solid part so far. -/
def ExtP (l : List Nat) (k so : Nat) : Prop := endE l = k + endE (l.drop k) ∧ solE l = if solE (l.drop k) = 0 then so else k + solE (l.drop k)
theorem ext_zero (l : List Nat) : ExtP l 0 0 := by
  unfold ExtP
  rw [List.drop_zero]
  refine ⟨by omega, ?_⟩
  split <;> omega
theorem ext_fin {l : List Nat} {k so : Nat} (h : ExtP l k so) (h1 : l.length ≤ k) : endE l = k ∧ solE l = so := by
  unfold ExtP at h
  rw [List.drop_eq_nil_of_le h1] at h
  exact ⟨h.1, h.2⟩
theorem ext_stop {l : List Nat} {k so a : Nat} {t : List Nat} (h : ExtP l k so) (h1 : l.drop k = a :: t) (ha : stopE a = true) : endE l = k ∧ solE l = so := by
  unfold ExtP at h
  rw [h1, (sol_stop a t ha).1, (sol_stop a t ha).2] at h
  exact ⟨h.1, h.2⟩
theorem ext_esc {l : List Nat} {k so : Nat} {t : List Nat} (h : ExtP l k so) (h1 : l.drop k = 92 :: t) : ExtP l (k + 2) (k + 2) := by
  unfold ExtP at h ⊢
  have e : l.drop (k + 2) = t.drop 1 := by
    rw [← List.drop_drop, h1]
    rfl
  rw [h1] at h
  rw [e]
  rcases t with _ | ⟨b, u⟩
  · have e1 : endE [92] = 2 := by decide
    have e2 : solE [92] = 2 := by decide
    rw [e1, e2, if_neg (by decide)] at h
    exact ⟨h.1, h.2⟩
  · rw [end_esc, sol_esc, if_neg (by omega)] at h
    show _ = k + 2 + endE u ∧ _ = if solE u = 0 then k + 2 else k + 2 + solE u
    refine ⟨by omega, ?_⟩
    split <;> omega
theorem ext_own {l : List Nat} {k so a : Nat} {t : List Nat} (h : ExtP l k so) (h1 : l.drop k = a :: t) (ha : stopE a = false) (h92 : a ≠ 92) : ExtP l (k + 1) (if a = 32 then so else k + 1) := by
  unfold ExtP at h ⊢
  have e : l.drop (k + 1) = t := by
    rw [← List.drop_drop, h1]
    rfl
  rw [h1, end_own _ _ ha h92, sol_own _ _ ha h92] at h
  rw [e]
  obtain ⟨q1, q2⟩ := h
  refine ⟨by omega, ?_⟩
  by_cases h32 : a = 32
  · rw [if_pos h32]
    by_cases h0 : solE t = 0
    · rw [if_pos h0]
      rw [if_pos (show solE t = 0 ∧ a = 32 from ⟨h0, h32⟩), if_pos rfl] at q2
      exact q2
    · rw [if_neg h0]
      rw [if_neg (show ¬ (solE t = 0 ∧ a = 32) from fun h => h0 h.1), if_neg (by omega)] at q2
      omega
  · rw [if_neg h32]
    rw [if_neg (show ¬ (solE t = 0 ∧ a = 32) from fun h => h32 h.2), if_neg (by omega)] at q2
    split <;> omega
set_option maxRecDepth 4000 in
set_option maxHeartbeats 3200000 in
theorem pextent_any (s : ByteArray) (w : World) (hs : s.size ≤ 2000) :
    Calls Tryd.prog 29 #[.string s] w fun e w' => e = .returned (.tuple #[.int .i64 (endE (bs s) : Int), .int .i64 (solE (bs s) : Int), .bool (decide (endE (bs s) ≤ s.size))]) ∧ w' = w := by
  have hl := bs_len s
  go_enter Tryd.func29, Tryd.ntmps29
  go_wp2_with fail
  go_loop [2, 3] (fun i j => ∃ k so : Nat, k ≤ s.size + 1 ∧ so ≤ 2002 ∧ i = .int .i64 (k : Int) ∧ j = .int .i64 (so : Int) ∧ Hid (ExtP (bs s) k so)) (fun i _ => s.size + 1 - (intOf i).toNat)
  case atStart => exact ⟨0, 0, Nat.zero_le _, by omega, rfl, rfl, Lib.hid (ext_zero _)⟩
  case round =>
    obtain ⟨k, so, hk, hso, rfl, rfl, HE⟩ := hrel
    by_cases hlt : k < s.size
    · have i0 : (0 : Int) ≤ (k : Int) := by omega
      have i1 : (k : Int) < (s.size : Int) := by omega
      have b1 := byte_lt s k hlt
      have hd := bs_drop1E s k hlt
      obtain ⟨a, ha⟩ : ∃ a, s[k].toNat = a := ⟨_, rfl⟩
      have hai : ((s[k].toNat : Nat) : Int) = (a : Int) := by rw [ha]
      rw [ha] at b1 hd
      have CA := pamong_any ⟨#[34, 43, 44, 59, 60, 62, 61]⟩ a b1 w
      rw [end_bs] at CA
      replace ha := Lib.hid ha
      cases hst : stopE a
      · rw [hst] at CA
        by_cases h92 : a = 92
        · have CA : Hid (Calls Tryd.prog 23 #[.string ⟨#[34, 43, 44, 59, 60, 62, 61]⟩, .int .u8 92] w fun e w' => e = .returned (.bool false) ∧ w' = w) := Lib.hid (by rw [h92] at CA; exact CA)
          have g1 : ((a : Int) == 92) = true := beq_iff_eq.2 (by omega)
          have g2 : (a : Int) = 92 := by omega
          have HE2 := Lib.hid (ext_esc HE.out (by rw [hd, h92]))
          replace hd := Lib.hid hd
          replace h92 := Lib.hid h92
          replace hst := Lib.hid hst
          go_wp2_with fail
          refine CA.out.mono ?_
          rintro _ w2 ⟨rfl, h2⟩
          subst w2
          dsimp only []
          go_wp2_with fail
          go_round
          case rel => exact ⟨k + 2, k + 2, by omega, by omega, by go_num, by go_num, HE2⟩
          case measure => simp [intOf]; omega
        · have g1 : ((a : Int) == 92) = false := beq_eq_false_iff_ne.2 (by omega)
          have g2 : ¬ (a : Int) = 92 := by omega
          have HE2 := ext_own HE.out hd hst h92
          by_cases h32 : a = 32
          · have CA : Hid (Calls Tryd.prog 23 #[.string ⟨#[34, 43, 44, 59, 60, 62, 61]⟩, .int .u8 32] w fun e w' => e = .returned (.bool false) ∧ w' = w) := Lib.hid (by rw [h32] at CA; exact CA)
            have g3 : ((a : Int) == 32) = true := beq_iff_eq.2 (by omega)
            have g4 : (a : Int) = 32 := by omega
            rw [if_pos h32] at HE2
            replace HE2 := Lib.hid HE2
            replace hd := Lib.hid hd
            replace h92 := Lib.hid h92
            replace h32 := Lib.hid h32
            replace hst := Lib.hid hst
            go_wp2_with fail
            refine CA.out.mono ?_
            rintro _ w2 ⟨rfl, h2⟩
            subst w2
            dsimp only []
            go_wp2_with fail
            go_round
            case rel => exact ⟨k + 1, so, by omega, by omega, by go_num, rfl, HE2⟩
            case measure => simp [intOf]; omega
          · have g3 : ((a : Int) == 32) = false := beq_eq_false_iff_ne.2 (by omega)
            have g4 : ¬ (a : Int) = 32 := by omega
            rw [if_neg h32] at HE2
            replace CA := Lib.hid CA
            replace HE2 := Lib.hid HE2
            replace hd := Lib.hid hd
            replace h92 := Lib.hid h92
            replace h32 := Lib.hid h32
            replace hst := Lib.hid hst
            go_wp2_with fail
            refine CA.out.mono ?_
            rintro _ w2 ⟨rfl, h2⟩
            subst w2
            dsimp only []
            go_wp2_with fail
            go_round
            case rel => exact ⟨k + 1, k + 1, by omega, by omega, by go_num, by go_num, HE2⟩
            case measure => simp [intOf]; omega
      · rw [hst] at CA
        replace CA := Lib.hid CA
        have hf := ext_stop HE.out hd hst
        replace hf := Lib.hid hf
        replace hd := Lib.hid hd
        replace hst := Lib.hid hst
        go_wp2_with fail
        refine CA.out.mono ?_
        rintro _ w2 ⟨rfl, h2⟩
        subst w2
        dsimp only []
        go_wp2_with fail
        go_returns
        exact ⟨by rw [hf.out.1, hf.out.2]; try rfl, rfl⟩
    · have hf := ext_fin HE.out (by rw [hl]; omega)
      replace hf := Lib.hid hf
      have i1 : ¬ ((k : Int) < (s.size : Int)) := by omega
      go_wp2_with fail
      go_returns
      exact ⟨by rw [hf.out.1, hf.out.2]; try rfl, rfl⟩
set_option maxHeartbeats 1600000 in
theorem pdecode_any (s : ByteArray) (w : World) (hs : s.size ≤ 2000) :
    Calls Tryd.prog 30 #[.string s] w fun e w' => e = .returned (unV (decP (bs s))) ∧ Below w.heap.size w w' := by
  have CP := fun W => Tryd.strings_CutPrefix s ⟨#[35]⟩ W
  by_cases h35 : ∃ u, bs s = 35 :: u
  · obtain ⟨u, hu⟩ := h35
    have hby := by_bs s
    rw [hu] at hby
    have hd : s.data.toList = 35 :: u.map UInt8.ofNat := by
      have := congrArg (fun x => (strB x).data.toList) hu
      simp only [strB_bs, strB_list] at this
      rw [this]
      rfl
    have h1 : Lib.hasPrefix s.data.toList (⟨#[35]⟩ : ByteArray).data.toList = true := by
      rw [hd]
      unfold Lib.hasPrefix
      rfl
    have h2 : (⟨(Lib.trimPrefix s.data.toList (⟨#[35]⟩ : ByteArray).data.toList).toArray⟩ : ByteArray) = strB u := by
      unfold Lib.trimPrefix
      rw [h1, if_pos rfl, hd]
      apply ba_ext
      rw [strB_list]
      rfl
    rw [h1, h2] at CP
    replace CP := Lib.hid CP
    have hz : (strB u).size = u.length := strB_sizeE u
    have hl : s.size = u.length + 1 := by rw [← bs_len, hu]; rfl
    have hbu : bs (strB u) = u := bs_strB u hby.tail
    have CU := fun W => punhex_any (strB u) W (by omega)
    rw [hbu] at CU
    rw [hu]
    show Calls _ _ _ _ fun e w' => e = .returned (unV (if u = [] then none else unhexE u)) ∧ _
    obtain ⟨T, hT⟩ : ∃ T, strB u = T := ⟨_, rfl⟩
    rw [hT] at CP hz CU
    replace hd := Lib.hid hd
    clear h1 h2
    by_cases hn : u = []
    · subst hn
      obtain rfl : T = ⟨#[]⟩ := by rw [← hT]; rfl
      rw [if_pos rfl]
      clear CU hz
      replace hu := Lib.hid hu
      replace hT := Lib.hid hT
      replace hbu := Lib.hid hbu
      go_enter Tryd.func30, Tryd.ntmps30
      go_wp2_with fail
      refine (CP.out w).mono ?_
      rintro _ w2 ⟨rfl, h2⟩
      subst w2
      dsimp only []
      go_wp2_with fail
      go_ret2
      exact ⟨rfl, Below.refl _ _⟩
    · rw [if_neg hn]
      have hpos : 0 < T.size := by
        rcases u with _ | ⟨x, v⟩
        · exact absurd rfl hn
        · rw [hz]; simp
      have f1 := str_ne hpos
      have f2 : T.toList.isEmpty = false := by simpa using f1
      obtain ⟨y, q, hv⟩ := unV_form (unhexE u)
      rw [hv] at CU ⊢
      replace CU := Lib.hid CU
      replace hu := Lib.hid hu
      replace hT := Lib.hid hT
      replace hv := Lib.hid hv
      replace hbu := Lib.hid hbu
      go_enter Tryd.func30, Tryd.ntmps30
      go_wp2_with fail
      refine (CP.out w).mono ?_
      rintro _ w2 ⟨rfl, h2⟩
      subst w2
      dsimp only []
      go_wp2_with fail
      refine (CU.out w).mono ?_
      rintro _ w2 ⟨rfl, h2⟩
      replace h2 := Lib.hid h2
      dsimp only []
      go_wp2_with fail
      go_ret2
      exact ⟨rfl, h2.out⟩
  · have hdp : decP (bs s) = unescD selfE (bs s) := by
      rcases hb : bs s with _ | ⟨c, u⟩
      · rfl
      · show (if c = 35 then _ else _) = _
        rw [if_neg (fun e => h35 ⟨u, by rw [hb, e]⟩)]
    have h1 : Lib.hasPrefix s.data.toList (⟨#[35]⟩ : ByteArray).data.toList = false := by
      rcases hd : s.data.toList with _ | ⟨c, u⟩
      · rfl
      · cases hp : Lib.hasPrefix (c :: u) (⟨#[35]⟩ : ByteArray).data.toList
        · rfl
        · exfalso
          unfold Lib.hasPrefix at hp
          have hp : ((35 : UInt8) == c && [].isPrefixOf u) = true := hp
          have hc : (35 : UInt8) = c := by
            have := (Bool.and_eq_true_iff.1 hp).1
            simpa using this
          refine h35 ⟨u.map UInt8.toNat, ?_⟩
          unfold bs
          rw [hd, ← hc]
          rfl
    have h2 : (⟨(Lib.trimPrefix s.data.toList (⟨#[35]⟩ : ByteArray).data.toList).toArray⟩ : ByteArray) = s := by
      unfold Lib.trimPrefix
      rw [h1, if_neg (by decide)]
    rw [h1, h2] at CP
    replace CP := Lib.hid CP
    have hself : (fun a => decide (a ∈ bs ⟨#[34, 43, 44, 59, 60, 62, 61, 92, 35, 32]⟩)) = selfE := by
      funext a
      refine Bool.eq_iff_iff.2 ?_
      rw [decide_eq_true_iff]
      show a ∈ [34, 43, 44, 59, 60, 62, 61, 92, 35, 32] ↔ _
      unfold selfE stopE
      simp
      omega
    have CU := fun W => punescape_any s ⟨#[34, 43, 44, 59, 60, 62, 61, 92, 35, 32]⟩ W hs
    rw [hself] at CU
    rw [hdp]
    obtain ⟨y, q, hv⟩ := unV_form (unescD selfE (bs s))
    rw [hv] at CU ⊢
    replace CU := Lib.hid CU
    replace hv := Lib.hid hv
    replace hdp := Lib.hid hdp
    clear h1 h2 h35 hself
    go_enter Tryd.func30, Tryd.ntmps30
    go_wp2_with fail
    refine (CP.out w).mono ?_
    rintro _ w2 ⟨rfl, h2⟩
    subst w2
    dsimp only []
    go_wp2_with fail
    refine (CU.out w).mono ?_
    rintro _ w2 ⟨rfl, h2⟩
    replace h2 := Lib.hid h2
    dsimp only []
    go_wp2_with fail
    go_ret2
    exact ⟨rfl, h2.out⟩
end Go.Proofs.YtbdbgiecfkgimaaDoor
