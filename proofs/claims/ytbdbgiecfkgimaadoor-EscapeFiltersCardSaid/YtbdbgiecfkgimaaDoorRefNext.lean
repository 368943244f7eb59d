/-
  The document's Next of any text.
-/
import Derived.Test.YtbdbgiecfkgimaaDoorFDat
namespace Go.Proofs.YtbdbgiecfkgimaaDoor
open Go.RowKit
/-- The bytes behind a first one, one by one. -/
def uGo (v least n : Nat) : Nat → List Nat → Nat × Nat
  | 0, _ => uFin v least n
  | _ + 1, [] => (0, 0)
  | j + 1, d :: r => if uCont d then uGo (v * 64 + (d - 128)) least n j r else (0, 0)
def uGen (v least n : Nat) (r : List Nat) : Nat × Nat := uGo v least n (n - 1) r
theorem uGo_zero (v least n : Nat) (r : List Nat) : uGo v least n 0 r = uFin v least n := by rw [uGo]
theorem uGo_step (v least n j d : Nat) (r : List Nat) : uGo v least n (j + 1) (d :: r) = if uCont d then uGo (v * 64 + (d - 128)) least n j r else (0, 0) := by rw [uGo]
theorem uGo_short : ∀ (j v least n : Nat) (r : List Nat), r.length < j → uGo v least n j r = (0, 0)
  | 0, _, _, _, _, h => by omega
  | j + 1, v, least, n, [], _ => by rw [uGo]
  | j + 1, v, least, n, d :: r, h => by
    rw [uGo_step]
    split
    · exact uGo_short j _ least n r (by simpa using h)
    · rfl
theorem uGen_short (v least n : Nat) (r : List Nat) (h : r.length < n - 1) : uGen v least n r = (0, 0) := uGo_short _ _ _ _ _ h
theorem uNext_gen2 (c : Nat) (r : List Nat) (h1 : 194 ≤ c) (h2 : c < 224) : uNext (c :: r) = uGen (c - 192) 128 2 ((c :: r).drop 1) := by
  rw [uNext_cons, if_neg (by omega), if_pos (by omega)]
  show _ = uGo (c - 192) 128 2 1 r
  rcases r with _ | ⟨d, r⟩
  · rfl
  · rw [uTwo_cons, uGo_step, uGo_zero]
theorem uNext_gen3 (c : Nat) (r : List Nat) (h1 : 224 ≤ c) (h2 : c < 240) : uNext (c :: r) = uGen (c - 224) 2048 3 ((c :: r).drop 1) := by
  rw [uNext_cons, if_neg (by omega), if_neg (by omega), if_pos (by omega)]
  show _ = uGo (c - 224) 2048 3 2 r
  rcases r with _ | ⟨d, _ | ⟨e, r⟩⟩
  · rfl
  · rw [uGo_step]
    split <;> rfl
  · rw [uThree_cons, uGo_step, uGo_step, uGo_zero]
    by_cases hd : uCont d <;> by_cases he : uCont e <;> simp [hd, he]
theorem uNext_gen4 (c : Nat) (r : List Nat) (h1 : 240 ≤ c) (h2 : c < 245) : uNext (c :: r) = uGen (c - 240) 65536 4 ((c :: r).drop 1) := by
  rw [uNext_cons, if_neg (by omega), if_neg (by omega), if_neg (by omega), if_pos (by omega)]
  show _ = uGo (c - 240) 65536 4 3 r
  rcases r with _ | ⟨d, _ | ⟨e, _ | ⟨f, r⟩⟩⟩
  · rfl
  · rw [uGo_step]
    split <;> rfl
  · rw [uGo_step, uGo_step]
    split
    · split <;> rfl
    · rfl
  · rw [uFour_cons, uGo_step, uGo_step, uGo_step, uGo_zero]
    by_cases hd : uCont d <;> by_cases he : uCont e <;> by_cases hf : uCont f <;> simp [hd, he, hf]
theorem uNext_one (c : Nat) (r : List Nat) (h : c < 128) : uNext (c :: r) = (c, 1) := by rw [uNext_cons, if_pos h]
theorem uNext_other (c : Nat) (r : List Nat) (h : 128 ≤ c) (h2 : c < 194 ∨ 245 ≤ c) : uNext (c :: r) = (0, 0) := by
  rw [uNext_cons, if_neg (by omega), if_neg (by omega), if_neg (by omega), if_neg (by omega)]
set_option maxRecDepth 8000 in
theorem refNext_0 (s : ByteArray) (w : World) (h0 : s.size = 0) :
    Calls Tryd.prog 45 #[.string s] w fun e w' => e = .returned (.tuple #[.int .i32 0, .int .i64 0]) ∧ w' = w := by
  have hz : ((s.size : Int) == 0) = true := beq_iff_eq.2 (by omega)
  go_enter Tryd.func45, Tryd.ntmps45
  go_wp2_with fail
  go_returns
  exact ⟨rfl, rfl⟩
set_option maxRecDepth 8000 in
theorem refNext_1 (s : ByteArray) (c : Nat) (w : World) (h0 : 0 < s.size) (hc : s[0].toNat = c) (h1 : c < 128) :
    Calls Tryd.prog 45 #[.string s] w fun e w' => e = .returned (.tuple #[.int .i32 (c : Int), .int .i64 1]) ∧ w' = w := by
  have hz : ((s.size : Int) == 0) = false := beq_eq_false_iff_ne.2 (by omega)
  have k0 : (c : Int) < 128 := by omega
  have k1 : (0 : Int) ≤ (c : Int) := by omega
  go_enter Tryd.func45, Tryd.ntmps45
  go_wp2_with fail
  go_returns
  exact ⟨rfl, rfl⟩
set_option maxRecDepth 8000 in
theorem refNext_lo (s : ByteArray) (c : Nat) (w : World) (h0 : 0 < s.size) (hc : s[0].toNat = c) (h1 : 128 ≤ c) (h2 : c < 194) :
    Calls Tryd.prog 45 #[.string s] w fun e w' => e = .returned (.tuple #[.int .i32 0, .int .i64 0]) ∧ w' = w := by
  have hz : ((s.size : Int) == 0) = false := beq_eq_false_iff_ne.2 (by omega)
  have k0 : ¬ ((c : Int) < 128) := by omega
  have k1 : ¬ ((194 : Int) ≤ (c : Int)) := by omega
  have k2 : ¬ ((224 : Int) ≤ (c : Int)) := by omega
  have k3 : ¬ ((240 : Int) ≤ (c : Int)) := by omega
  go_enter Tryd.func45, Tryd.ntmps45
  go_wp2_with fail
  go_returns
  exact ⟨rfl, rfl⟩
set_option maxRecDepth 8000 in
theorem refNext_hi (s : ByteArray) (c : Nat) (w : World) (h0 : 0 < s.size) (hc : s[0].toNat = c) (h1 : 245 ≤ c) (h2 : c < 256) :
    Calls Tryd.prog 45 #[.string s] w fun e w' => e = .returned (.tuple #[.int .i32 0, .int .i64 0]) ∧ w' = w := by
  have hz : ((s.size : Int) == 0) = false := beq_eq_false_iff_ne.2 (by omega)
  have k0 : ¬ ((c : Int) < 128) := by omega
  have k1 : (194 : Int) ≤ (c : Int) := by omega
  have k2 : ¬ ((c : Int) < 224) := by omega
  have k3 : (224 : Int) ≤ (c : Int) := by omega
  have k4 : ¬ ((c : Int) < 240) := by omega
  have k5 : (240 : Int) ≤ (c : Int) := by omega
  have k6 : ¬ ((c : Int) < 245) := by omega
  go_enter Tryd.func45, Tryd.ntmps45
  go_wp2_with fail
  go_returns
  exact ⟨rfl, rfl⟩
set_option maxRecDepth 8000 in
set_option maxHeartbeats 1600000 in
theorem refNext_2 (s : ByteArray) (c : Nat) (w : World) (h0 : 0 < s.size) (hs : s.size ≤ 140737488355328) (hc : s[0].toNat = c) (h1 : 194 ≤ c) (h2 : c < 224) :
    Calls Tryd.prog 45 #[.string s] w fun e w' => e = .returned (.tuple #[.int .i32 ((uNext (bs s)).1 : Int), .int .i64 ((uNext (bs s)).2 : Int)]) ∧ w' = w := by
  have hz : ((s.size : Int) == 0) = false := beq_eq_false_iff_ne.2 (by omega)
  have k0 : ¬ ((c : Int) < 128) := by omega
  have t0a : (194 : Int) ≤ (c : Int) := by omega
  have t0b : (c : Int) < 224 := by omega
  have hG : Hid (uNext (bs s) = uGen (c - 192) 128 2 ((bs s).drop 1)) := Lib.hid (by
    have hl : (bs s).length = s.size := bs_len s
    have hg := bs_get s 0 h0
    rcases e : bs s with _ | ⟨c', r⟩
    · rw [e] at hl
      simp at hl
      omega
    · have hcc : c' = c := by
        simp only [e] at hg
        rw [← hc, ← hg]
        rfl
      subst hcc
      exact uNext_gen2 c' r h1 h2)
  obtain ⟨v0, hv0⟩ : ∃ v0, v0 = c - 192 := ⟨_, rfl⟩
  have hv0i : (c : Int) - 192 = (v0 : Int) := by omega
  have hv0b : v0 < 32 := by omega
  rw [← hv0] at hG
  replace hv0 := Lib.hid hv0
  by_cases hlen : s.size < 2
  · have hl1 : (s.size : Int) < 2 := by omega
    have hR : Hid (uNext (bs s) = (0, 0)) := Lib.hid (by rw [hG.out, uGen_short _ _ _ _ (by rw [List.length_drop, bs_len]; omega)])
    go_enter Tryd.func45, Tryd.ntmps45
    go_wp2_with fail
    go_returns
    exact ⟨by rw [hR.out]; rfl, rfl⟩
  · have hl1 : ¬ ((s.size : Int) < 2) := by omega
    go_enter Tryd.func45, Tryd.ntmps45
    go_wp2_with fail
    go_loop [4, 7] (fun cv iv => ∃ k v : Nat, 1 ≤ k ∧ k ≤ 2 ∧ iv = .int .i64 (k : Int) ∧ cv = .int .i64 (v : Int) ∧ v < 32 * 64 ^ (k - 1) ∧ Hid (uGen v0 128 2 ((bs s).drop 1) = uGo v 128 2 (2 - k) ((bs s).drop k))) (fun _ iv => 2 - (intOf iv).toNat)
    case atStart => exact ⟨1, v0, Nat.le_refl _, by omega, rfl, rfl, by simpa using hv0b, Lib.hid rfl⟩
    case round =>
      obtain ⟨k, v, hk1, hk2, rfl, rfl, hv, HG⟩ := hrel
      have hv3 : v < 8388608 := by
        have : 64 ^ (k - 1) ≤ 64 ^ 3 := Nat.pow_le_pow_right (by omega) (by omega)
        omega
      by_cases hkn : k < 2
      · have hks : k < s.size := by omega
        have i0 : (0 : Int) ≤ (k : Int) := by omega
        have i1 : (k : Int) < 2 := by omega
        have i2 : (k : Int) < (s.size : Int) := by omega
        obtain ⟨d, hd⟩ : ∃ d, s[k].toNat = d := ⟨_, rfl⟩
        have hd256 : d < 256 := by rw [← hd]; exact s[k].toNat_lt
        have hdr : Hid ((bs s).drop k = d :: (bs s).drop (k + 1)) := Lib.hid (by
          rw [List.drop_eq_getElem_cons (by rw [bs_len]; exact hks), bs_get s k hks, hd])
        have hst := uGo_step v 128 2 (2 - (k + 1)) d ((bs s).drop (k + 1))
        rw [show 2 - (k + 1) + 1 = 2 - k by omega, ← hdr.out, ← HG.out] at hst
        replace hst := Lib.hid hst
        by_cases hcd : uCont d
        · have hcd' := hcd
          unfold uCont at hcd'
          have d1 : ¬ ((d : Int) < 128) := by omega
          have d2 : ¬ (191 < (d : Int)) := by omega
          obtain ⟨v', hv'⟩ : ∃ v', v' = v * 64 + (d - 128) := ⟨_, rfl⟩
          have hvi : (v : Int) * 64 + (d : Int) - 128 = (v' : Int) := by omega
          have hvb : v' < 32 * 64 ^ (k + 1 - 1) := by
            have : 64 ^ (k + 1 - 1) = 64 ^ (k - 1) * 64 := by rw [← Nat.pow_succ]; congr 1; omega
            rw [this]
            omega
          have hst2 : Hid (uGen v0 128 2 ((bs s).drop 1) = uGo v' 128 2 (2 - (k + 1)) ((bs s).drop (k + 1))) := Lib.hid (by rw [hst.out, if_pos hcd, hv'])
          replace hv' := Lib.hid hv'
          go_wp2_with fail
          go_round
          case rel => exact ⟨k + 1, v', by omega, by omega, by go_num, rfl, hvb, hst2⟩
          case measure => simp [intOf]; omega
        · have hR : Hid (uNext (bs s) = (0, 0)) := Lib.hid (by rw [hG.out, hst.out, if_neg hcd])
          by_cases hd1 : d < 128
          · have d1 : (d : Int) < 128 := by omega
            go_wp2_with fail
            go_returns
            exact ⟨by rw [hR.out]; rfl, rfl⟩
          · have d1 : ¬ ((d : Int) < 128) := by omega
            have d2 : (191 : Int) < (d : Int) := by unfold uCont at hcd; omega
            go_wp2_with fail
            go_returns
            exact ⟨by rw [hR.out]; rfl, rfl⟩
      · obtain rfl : k = 2 := by omega
        have hR : Hid (uNext (bs s) = uFin v 128 2) := Lib.hid (by rw [hG.out, HG.out]; exact uGo_zero _ _ _ _)
        unfold uFin at hR
        by_cases ha : v < 128
        · have a1 : (v : Int) < 128 := by omega
          rw [if_pos (.inl ha)] at hR
          go_wp2_with fail
          go_returns
          exact ⟨by rw [hR.out]; rfl, rfl⟩
        · have a1 : ¬ ((v : Int) < 128) := by omega
          by_cases hb1 : 55296 ≤ v
          · have b1 : (55296 : Int) ≤ (v : Int) := by omega
            by_cases hb2 : v ≤ 57343
            · have b2 : (v : Int) ≤ 57343 := by omega
              rw [if_pos (.inr (by unfold uOk; omega))] at hR
              go_wp2_with fail
              go_returns
              exact ⟨by rw [hR.out]; rfl, rfl⟩
            · have b2 : ¬ ((v : Int) ≤ 57343) := by omega
              by_cases hc1 : 1114111 < v
              · have c1 : (1114111 : Int) < (v : Int) := by omega
                rw [if_pos (.inr (by unfold uOk; omega))] at hR
                go_wp2_with fail
                go_returns
                exact ⟨by rw [hR.out]; rfl, rfl⟩
              · have c1 : ¬ ((1114111 : Int) < (v : Int)) := by omega
                rw [if_neg (by unfold uOk; omega)] at hR
                go_wp2_with fail
                go_returns
                exact ⟨by rw [hR.out]; rfl, rfl⟩
          · have b1 : ¬ ((55296 : Int) ≤ (v : Int)) := by omega
            have c1 : ¬ ((1114111 : Int) < (v : Int)) := by omega
            rw [if_neg (by unfold uOk; omega)] at hR
            go_wp2_with fail
            go_returns
            exact ⟨by rw [hR.out]; rfl, rfl⟩
set_option maxRecDepth 8000 in
set_option maxHeartbeats 1600000 in
theorem refNext_3 (s : ByteArray) (c : Nat) (w : World) (h0 : 0 < s.size) (hs : s.size ≤ 140737488355328) (hc : s[0].toNat = c) (h1 : 224 ≤ c) (h2 : c < 240) :
    Calls Tryd.prog 45 #[.string s] w fun e w' => e = .returned (.tuple #[.int .i32 ((uNext (bs s)).1 : Int), .int .i64 ((uNext (bs s)).2 : Int)]) ∧ w' = w := by
  have hz : ((s.size : Int) == 0) = false := beq_eq_false_iff_ne.2 (by omega)
  have k0 : ¬ ((c : Int) < 128) := by omega
  have t0a : (194 : Int) ≤ (c : Int) := by omega
  have t0b : ¬ ((c : Int) < 224) := by omega
  have t1a : (224 : Int) ≤ (c : Int) := by omega
  have t1b : (c : Int) < 240 := by omega
  have hG : Hid (uNext (bs s) = uGen (c - 224) 2048 3 ((bs s).drop 1)) := Lib.hid (by
    have hl : (bs s).length = s.size := bs_len s
    have hg := bs_get s 0 h0
    rcases e : bs s with _ | ⟨c', r⟩
    · rw [e] at hl
      simp at hl
      omega
    · have hcc : c' = c := by
        simp only [e] at hg
        rw [← hc, ← hg]
        rfl
      subst hcc
      exact uNext_gen3 c' r h1 h2)
  obtain ⟨v0, hv0⟩ : ∃ v0, v0 = c - 224 := ⟨_, rfl⟩
  have hv0i : (c : Int) - 224 = (v0 : Int) := by omega
  have hv0b : v0 < 32 := by omega
  rw [← hv0] at hG
  replace hv0 := Lib.hid hv0
  by_cases hlen : s.size < 3
  · have hl1 : (s.size : Int) < 3 := by omega
    have hR : Hid (uNext (bs s) = (0, 0)) := Lib.hid (by rw [hG.out, uGen_short _ _ _ _ (by rw [List.length_drop, bs_len]; omega)])
    go_enter Tryd.func45, Tryd.ntmps45
    go_wp2_with fail
    go_returns
    exact ⟨by rw [hR.out]; rfl, rfl⟩
  · have hl1 : ¬ ((s.size : Int) < 3) := by omega
    go_enter Tryd.func45, Tryd.ntmps45
    go_wp2_with fail
    go_loop [4, 7] (fun cv iv => ∃ k v : Nat, 1 ≤ k ∧ k ≤ 3 ∧ iv = .int .i64 (k : Int) ∧ cv = .int .i64 (v : Int) ∧ v < 32 * 64 ^ (k - 1) ∧ Hid (uGen v0 2048 3 ((bs s).drop 1) = uGo v 2048 3 (3 - k) ((bs s).drop k))) (fun _ iv => 3 - (intOf iv).toNat)
    case atStart => exact ⟨1, v0, Nat.le_refl _, by omega, rfl, rfl, by simpa using hv0b, Lib.hid rfl⟩
    case round =>
      obtain ⟨k, v, hk1, hk2, rfl, rfl, hv, HG⟩ := hrel
      have hv3 : v < 8388608 := by
        have : 64 ^ (k - 1) ≤ 64 ^ 3 := Nat.pow_le_pow_right (by omega) (by omega)
        omega
      by_cases hkn : k < 3
      · have hks : k < s.size := by omega
        have i0 : (0 : Int) ≤ (k : Int) := by omega
        have i1 : (k : Int) < 3 := by omega
        have i2 : (k : Int) < (s.size : Int) := by omega
        obtain ⟨d, hd⟩ : ∃ d, s[k].toNat = d := ⟨_, rfl⟩
        have hd256 : d < 256 := by rw [← hd]; exact s[k].toNat_lt
        have hdr : Hid ((bs s).drop k = d :: (bs s).drop (k + 1)) := Lib.hid (by
          rw [List.drop_eq_getElem_cons (by rw [bs_len]; exact hks), bs_get s k hks, hd])
        have hst := uGo_step v 2048 3 (3 - (k + 1)) d ((bs s).drop (k + 1))
        rw [show 3 - (k + 1) + 1 = 3 - k by omega, ← hdr.out, ← HG.out] at hst
        replace hst := Lib.hid hst
        by_cases hcd : uCont d
        · have hcd' := hcd
          unfold uCont at hcd'
          have d1 : ¬ ((d : Int) < 128) := by omega
          have d2 : ¬ (191 < (d : Int)) := by omega
          obtain ⟨v', hv'⟩ : ∃ v', v' = v * 64 + (d - 128) := ⟨_, rfl⟩
          have hvi : (v : Int) * 64 + (d : Int) - 128 = (v' : Int) := by omega
          have hvb : v' < 32 * 64 ^ (k + 1 - 1) := by
            have : 64 ^ (k + 1 - 1) = 64 ^ (k - 1) * 64 := by rw [← Nat.pow_succ]; congr 1; omega
            rw [this]
            omega
          have hst2 : Hid (uGen v0 2048 3 ((bs s).drop 1) = uGo v' 2048 3 (3 - (k + 1)) ((bs s).drop (k + 1))) := Lib.hid (by rw [hst.out, if_pos hcd, hv'])
          replace hv' := Lib.hid hv'
          go_wp2_with fail
          go_round
          case rel => exact ⟨k + 1, v', by omega, by omega, by go_num, rfl, hvb, hst2⟩
          case measure => simp [intOf]; omega
        · have hR : Hid (uNext (bs s) = (0, 0)) := Lib.hid (by rw [hG.out, hst.out, if_neg hcd])
          by_cases hd1 : d < 128
          · have d1 : (d : Int) < 128 := by omega
            go_wp2_with fail
            go_returns
            exact ⟨by rw [hR.out]; rfl, rfl⟩
          · have d1 : ¬ ((d : Int) < 128) := by omega
            have d2 : (191 : Int) < (d : Int) := by unfold uCont at hcd; omega
            go_wp2_with fail
            go_returns
            exact ⟨by rw [hR.out]; rfl, rfl⟩
      · obtain rfl : k = 3 := by omega
        have hR : Hid (uNext (bs s) = uFin v 2048 3) := Lib.hid (by rw [hG.out, HG.out]; exact uGo_zero _ _ _ _)
        unfold uFin at hR
        by_cases ha : v < 2048
        · have a1 : (v : Int) < 2048 := by omega
          rw [if_pos (.inl ha)] at hR
          go_wp2_with fail
          go_returns
          exact ⟨by rw [hR.out]; rfl, rfl⟩
        · have a1 : ¬ ((v : Int) < 2048) := by omega
          by_cases hb1 : 55296 ≤ v
          · have b1 : (55296 : Int) ≤ (v : Int) := by omega
            by_cases hb2 : v ≤ 57343
            · have b2 : (v : Int) ≤ 57343 := by omega
              rw [if_pos (.inr (by unfold uOk; omega))] at hR
              go_wp2_with fail
              go_returns
              exact ⟨by rw [hR.out]; rfl, rfl⟩
            · have b2 : ¬ ((v : Int) ≤ 57343) := by omega
              by_cases hc1 : 1114111 < v
              · have c1 : (1114111 : Int) < (v : Int) := by omega
                rw [if_pos (.inr (by unfold uOk; omega))] at hR
                go_wp2_with fail
                go_returns
                exact ⟨by rw [hR.out]; rfl, rfl⟩
              · have c1 : ¬ ((1114111 : Int) < (v : Int)) := by omega
                rw [if_neg (by unfold uOk; omega)] at hR
                go_wp2_with fail
                go_returns
                exact ⟨by rw [hR.out]; rfl, rfl⟩
          · have b1 : ¬ ((55296 : Int) ≤ (v : Int)) := by omega
            have c1 : ¬ ((1114111 : Int) < (v : Int)) := by omega
            rw [if_neg (by unfold uOk; omega)] at hR
            go_wp2_with fail
            go_returns
            exact ⟨by rw [hR.out]; rfl, rfl⟩
set_option maxRecDepth 8000 in
set_option maxHeartbeats 1600000 in
theorem refNext_4 (s : ByteArray) (c : Nat) (w : World) (h0 : 0 < s.size) (hs : s.size ≤ 140737488355328) (hc : s[0].toNat = c) (h1 : 240 ≤ c) (h2 : c < 245) :
    Calls Tryd.prog 45 #[.string s] w fun e w' => e = .returned (.tuple #[.int .i32 ((uNext (bs s)).1 : Int), .int .i64 ((uNext (bs s)).2 : Int)]) ∧ w' = w := by
  have hz : ((s.size : Int) == 0) = false := beq_eq_false_iff_ne.2 (by omega)
  have k0 : ¬ ((c : Int) < 128) := by omega
  have t0a : (194 : Int) ≤ (c : Int) := by omega
  have t0b : ¬ ((c : Int) < 224) := by omega
  have t1a : (224 : Int) ≤ (c : Int) := by omega
  have t1b : ¬ ((c : Int) < 240) := by omega
  have t2a : (240 : Int) ≤ (c : Int) := by omega
  have t2b : (c : Int) < 245 := by omega
  have hG : Hid (uNext (bs s) = uGen (c - 240) 65536 4 ((bs s).drop 1)) := Lib.hid (by
    have hl : (bs s).length = s.size := bs_len s
    have hg := bs_get s 0 h0
    rcases e : bs s with _ | ⟨c', r⟩
    · rw [e] at hl
      simp at hl
      omega
    · have hcc : c' = c := by
        simp only [e] at hg
        rw [← hc, ← hg]
        rfl
      subst hcc
      exact uNext_gen4 c' r h1 h2)
  obtain ⟨v0, hv0⟩ : ∃ v0, v0 = c - 240 := ⟨_, rfl⟩
  have hv0i : (c : Int) - 240 = (v0 : Int) := by omega
  have hv0b : v0 < 32 := by omega
  rw [← hv0] at hG
  replace hv0 := Lib.hid hv0
  by_cases hlen : s.size < 4
  · have hl1 : (s.size : Int) < 4 := by omega
    have hR : Hid (uNext (bs s) = (0, 0)) := Lib.hid (by rw [hG.out, uGen_short _ _ _ _ (by rw [List.length_drop, bs_len]; omega)])
    go_enter Tryd.func45, Tryd.ntmps45
    go_wp2_with fail
    go_returns
    exact ⟨by rw [hR.out]; rfl, rfl⟩
  · have hl1 : ¬ ((s.size : Int) < 4) := by omega
    go_enter Tryd.func45, Tryd.ntmps45
    go_wp2_with fail
    go_loop [4, 7] (fun cv iv => ∃ k v : Nat, 1 ≤ k ∧ k ≤ 4 ∧ iv = .int .i64 (k : Int) ∧ cv = .int .i64 (v : Int) ∧ v < 32 * 64 ^ (k - 1) ∧ Hid (uGen v0 65536 4 ((bs s).drop 1) = uGo v 65536 4 (4 - k) ((bs s).drop k))) (fun _ iv => 4 - (intOf iv).toNat)
    case atStart => exact ⟨1, v0, Nat.le_refl _, by omega, rfl, rfl, by simpa using hv0b, Lib.hid rfl⟩
    case round =>
      obtain ⟨k, v, hk1, hk2, rfl, rfl, hv, HG⟩ := hrel
      have hv3 : v < 8388608 := by
        have : 64 ^ (k - 1) ≤ 64 ^ 3 := Nat.pow_le_pow_right (by omega) (by omega)
        omega
      by_cases hkn : k < 4
      · have hks : k < s.size := by omega
        have i0 : (0 : Int) ≤ (k : Int) := by omega
        have i1 : (k : Int) < 4 := by omega
        have i2 : (k : Int) < (s.size : Int) := by omega
        obtain ⟨d, hd⟩ : ∃ d, s[k].toNat = d := ⟨_, rfl⟩
        have hd256 : d < 256 := by rw [← hd]; exact s[k].toNat_lt
        have hdr : Hid ((bs s).drop k = d :: (bs s).drop (k + 1)) := Lib.hid (by
          rw [List.drop_eq_getElem_cons (by rw [bs_len]; exact hks), bs_get s k hks, hd])
        have hst := uGo_step v 65536 4 (4 - (k + 1)) d ((bs s).drop (k + 1))
        rw [show 4 - (k + 1) + 1 = 4 - k by omega, ← hdr.out, ← HG.out] at hst
        replace hst := Lib.hid hst
        by_cases hcd : uCont d
        · have hcd' := hcd
          unfold uCont at hcd'
          have d1 : ¬ ((d : Int) < 128) := by omega
          have d2 : ¬ (191 < (d : Int)) := by omega
          obtain ⟨v', hv'⟩ : ∃ v', v' = v * 64 + (d - 128) := ⟨_, rfl⟩
          have hvi : (v : Int) * 64 + (d : Int) - 128 = (v' : Int) := by omega
          have hvb : v' < 32 * 64 ^ (k + 1 - 1) := by
            have : 64 ^ (k + 1 - 1) = 64 ^ (k - 1) * 64 := by rw [← Nat.pow_succ]; congr 1; omega
            rw [this]
            omega
          have hst2 : Hid (uGen v0 65536 4 ((bs s).drop 1) = uGo v' 65536 4 (4 - (k + 1)) ((bs s).drop (k + 1))) := Lib.hid (by rw [hst.out, if_pos hcd, hv'])
          replace hv' := Lib.hid hv'
          go_wp2_with fail
          go_round
          case rel => exact ⟨k + 1, v', by omega, by omega, by go_num, rfl, hvb, hst2⟩
          case measure => simp [intOf]; omega
        · have hR : Hid (uNext (bs s) = (0, 0)) := Lib.hid (by rw [hG.out, hst.out, if_neg hcd])
          by_cases hd1 : d < 128
          · have d1 : (d : Int) < 128 := by omega
            go_wp2_with fail
            go_returns
            exact ⟨by rw [hR.out]; rfl, rfl⟩
          · have d1 : ¬ ((d : Int) < 128) := by omega
            have d2 : (191 : Int) < (d : Int) := by unfold uCont at hcd; omega
            go_wp2_with fail
            go_returns
            exact ⟨by rw [hR.out]; rfl, rfl⟩
      · obtain rfl : k = 4 := by omega
        have hR : Hid (uNext (bs s) = uFin v 65536 4) := Lib.hid (by rw [hG.out, HG.out]; exact uGo_zero _ _ _ _)
        unfold uFin at hR
        by_cases ha : v < 65536
        · have a1 : (v : Int) < 65536 := by omega
          rw [if_pos (.inl ha)] at hR
          go_wp2_with fail
          go_returns
          exact ⟨by rw [hR.out]; rfl, rfl⟩
        · have a1 : ¬ ((v : Int) < 65536) := by omega
          by_cases hb1 : 55296 ≤ v
          · have b1 : (55296 : Int) ≤ (v : Int) := by omega
            by_cases hb2 : v ≤ 57343
            · have b2 : (v : Int) ≤ 57343 := by omega
              rw [if_pos (.inr (by unfold uOk; omega))] at hR
              go_wp2_with fail
              go_returns
              exact ⟨by rw [hR.out]; rfl, rfl⟩
            · have b2 : ¬ ((v : Int) ≤ 57343) := by omega
              by_cases hc1 : 1114111 < v
              · have c1 : (1114111 : Int) < (v : Int) := by omega
                rw [if_pos (.inr (by unfold uOk; omega))] at hR
                go_wp2_with fail
                go_returns
                exact ⟨by rw [hR.out]; rfl, rfl⟩
              · have c1 : ¬ ((1114111 : Int) < (v : Int)) := by omega
                rw [if_neg (by unfold uOk; omega)] at hR
                go_wp2_with fail
                go_returns
                exact ⟨by rw [hR.out]; rfl, rfl⟩
          · have b1 : ¬ ((55296 : Int) ≤ (v : Int)) := by omega
            have c1 : ¬ ((1114111 : Int) < (v : Int)) := by omega
            rw [if_neg (by unfold uOk; omega)] at hR
            go_wp2_with fail
            go_returns
            exact ⟨by rw [hR.out]; rfl, rfl⟩
theorem refNext_any (s : ByteArray) (w : World) (hs : s.size ≤ 140737488355328) :
    Calls Tryd.prog 45 #[.string s] w fun e w' => e = .returned (.tuple #[.int .i32 ((uNext (bs s)).1 : Int), .int .i64 ((uNext (bs s)).2 : Int)]) ∧ w' = w := by
  by_cases h0 : s.size = 0
  · rw [bs_zero s h0]
    exact refNext_0 s w h0
  · have h1 : 0 < s.size := by omega
    obtain ⟨r, hr⟩ := bs_cons s h1
    obtain ⟨c, hc⟩ : ∃ c, s[0].toNat = c := ⟨_, rfl⟩
    rw [hc] at hr
    by_cases h2 : c < 128
    · rw [hr, uNext_one c r h2]
      exact refNext_1 s c w h1 hc h2
    · by_cases h3 : c < 194
      · rw [hr, uNext_other c r (by omega) (.inl h3)]
        exact refNext_lo s c w h1 hc (by omega) h3
      · by_cases h4 : c < 224
        · exact refNext_2 s c w h1 hs hc (by omega) h4
        · by_cases h5 : c < 240
          · exact refNext_3 s c w h1 hs hc (by omega) h5
          · by_cases h6 : c < 245
            · exact refNext_4 s c w h1 hs hc (by omega) h6
            · rw [hr, uNext_other c r (by omega) (.inr (by omega))]
              exact refNext_hi s c w h1 hc (by omega) (by rw [← hc]; exact s[0].toNat_lt)
end Go.Proofs.YtbdbgiecfkgimaaDoor
