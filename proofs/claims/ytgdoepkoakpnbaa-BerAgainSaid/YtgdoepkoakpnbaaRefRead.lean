/-
  The document's own Read and ReadLen follow the same plain reading.
-/
import Derived.Test.YtgdoepkoakpnbaaReadTag
namespace Go.Proofs.Ytgdoepkoakpnbaa
open Go.RowKit

def tup5 (q : Nat × Bool × Nat × Nat × Nat) : Value := .tuple #[.int .i64 (q.1 : Int), .bool q.2.1, .int .i64 (q.2.2.1 : Int), .int .i64 (q.2.2.2.1 : Int), .int .i64 (q.2.2.2.2 : Int)]

set_option maxRecDepth 4000 in
set_option maxHeartbeats 800000 in
theorem refLen_early (b off cp h : Nat) (r : List Nat) (w : World) (hl : r.length ≤ 1048600) (hcell : w.cell? ⟨b, off, none⟩ = some (.int .u8 (h : Int))) (hh : h < 256)
    (hx : h < 128 ∨ h = 128 ∨ h = 255 ∨ 132 < h ∨ r.length < h - 128) :
    Calls Try.prog 50 #[.slice (some ⟨b, off, none⟩) (r.length + 1) cp] w fun e w' => e = .returned (tup3 (rdL (h :: r))) ∧ w = w' := by
  have H := rdL_cons h r
  by_cases h1 : h < 128
  · rw [if_pos h1] at H
    replace H := Lib.hid H
    clear hx
    go_enter Try.func50, Try.ntmps50
    go_wp2_with fail
    go_ret3
    exact ⟨by rw [H.out]; rfl, rfl⟩
  · rw [if_neg h1] at H
    by_cases h2 : h = 128
    · rw [if_pos (.inl h2)] at H
      replace H := Lib.hid H
      subst h2
      clear hx
      go_enter Try.func50, Try.ntmps50
      go_wp2_with fail
      go_ret3
      exact ⟨by rw [H.out]; rfl, rfl⟩
    · by_cases h3 : h = 255
      · rw [if_pos (.inr h3)] at H
        replace H := Lib.hid H
        subst h3
        clear hx
        go_enter Try.func50, Try.ntmps50
        go_wp2_with fail
        go_ret3
        exact ⟨by rw [H.out]; rfl, rfl⟩
      · have k1 : ((h : Int) == 128) = false := beq_eq_false_iff_ne.2 (by omega)
        have k2 : ((h : Int) == 255) = false := beq_eq_false_iff_ne.2 (by omega)
        rw [if_neg (by omega)] at H
        by_cases h4 : 132 < h
        · rw [if_pos h4] at H
          replace H := Lib.hid H
          clear hx
          go_enter Try.func50, Try.ntmps50
          go_wp2_with fail
          go_ret3
          exact ⟨by rw [H.out]; rfl, rfl⟩
        · have h5 : r.length < h - 128 := by omega
          rw [if_neg h4, if_pos h5] at H
          replace H := Lib.hid H
          clear hx
          go_enter Try.func50, Try.ntmps50
          go_wp2_with fail
          go_ret3
          exact ⟨by rw [H.out]; rfl, rfl⟩

set_option maxRecDepth 4000 in
set_option maxHeartbeats 800000 in
theorem refLen_late (b off cp h : Nat) (r : List Nat) (w : World) (hl : r.length ≤ 1048600) (hcell : w.cell? ⟨b, off, none⟩ = some (.int .u8 (h : Int))) (h1 : 128 < h) (h2 : h ≤ 132) (h5 : h - 128 ≤ r.length)
    (hby : ∀ x ∈ r, x < 256) (hc : ∀ (j : Nat) (hj : j < r.length), w.cell? ⟨b, off + (1 + j), none⟩ = some (.int .u8 ((r[j] : Nat) : Int))) :
    Calls Try.prog 50 #[.slice (some ⟨b, off, none⟩) (r.length + 1) cp] w fun e w' => e = .returned (tup3 (rdL (h :: r))) ∧ w = w' := by
  have H := rdL_cons h r
  rw [if_neg (by omega), if_neg (by omega), if_neg (by omega), if_neg (by omega)] at H
  replace H := Lib.hid H
  replace hc := Lib.hid hc
  replace hby := Lib.hid hby
  have k1 : ((h : Int) == 128) = false := beq_eq_false_iff_ne.2 (by omega)
  have k2 : ((h : Int) == 255) = false := beq_eq_false_iff_ne.2 (by omega)
  go_enter Try.func50, Try.ntmps50
  go_wp2_with fail
  go_loop [6, 7] (fun t i => ∃ k : Nat, k ≤ h - 128 ∧ t = .int .i64 ((be (r.take k) : Nat) : Int) ∧ i = .int .i64 (1 + (k : Int))) (fun _ i => h - (intOf i).toNat)
  case atStart => exact ⟨0, by omega, rfl, rfl⟩
  case round =>
    obtain ⟨k, hk, ht, rfl⟩ := hrel
    by_cases he : k = h - 128
    · subst he
      obtain ⟨a, ha⟩ : ∃ a, a = be (r.take (h - 128)) := ⟨_, rfl⟩
      have hlt : a < 4294967296 := by
        have := be_lt (r.take (h - 128)) (fun x hx => hby.out x (List.mem_of_mem_take hx))
        rw [← ha] at this
        exact Nat.lt_of_lt_of_le this (show 256 ^ _ ≤ 256 ^ 4 from Nat.pow_le_pow_right (by decide) (by rw [List.length_take]; omega))
      rw [← ha] at ht
      replace ha := Lib.hid ha
      obtain rfl := ht
      by_cases hb : 2147483647 < a
      · go_wp2_with fail
        go_ret3
        exact ⟨by rw [H.out, if_pos (by rw [← ha.out]; exact hb)]; rfl, rfl⟩
      · go_wp2_with fail
        go_ret3
        refine ⟨?_, rfl⟩
        rw [H.out, if_neg (by rw [← ha.out]; exact hb), ← ha.out]
        unfold tup3
        rw [show ((1 + (h - 128) : Nat) : Int) = (h : Int) - 128 + 1 from by omega]
        rfl
    · have hkl : k < r.length := by omega
      have hcell2 := hc.out k hkl
      obtain ⟨c, hce⟩ : ∃ c, c = r[k] := ⟨_, rfl⟩
      rw [← hce] at hcell2
      have hc256 : c < 256 := by rw [hce]; exact hby.out _ (List.getElem_mem hkl)
      have hsn : be (r.take (k + 1)) = be (r.take k) * 256 + c := by
        rw [List.take_succ_eq_append_getElem hkl, be_snoc, hce]
      obtain ⟨a, ha⟩ : ∃ a, a = be (r.take k) := ⟨_, rfl⟩
      have hlt : a < 16777216 := by
        have := be_lt (r.take k) (fun x hx => hby.out x (List.mem_of_mem_take hx))
        rw [← ha] at this
        exact Nat.lt_of_lt_of_le this (show 256 ^ _ ≤ 256 ^ 3 from Nat.pow_le_pow_right (by decide) (by rw [List.length_take]; omega))
      rw [← ha] at ht hsn
      replace hsn := Lib.hid hsn
      obtain rfl := ht
      clear ha hce
      go_wp2_with fail
      go_round
      case rel => exact ⟨k + 1, by omega, by rw [hsn.out]; go_num, by go_num⟩
      case measure => simp [intOf]; omega

/-- The document's ReadLen, whatever the bytes. -/
theorem refLen_any (A : Option Addr) (cp : Nat) (l : List Nat) (w : World) (K : Nat) (hs : Src w K A cp l) (hl : l.length ≤ 1048600) (hby : ∀ x ∈ l, x < 256) :
    Calls Try.prog 50 #[.slice A l.length cp] w fun e w' => e = .returned (tup3 (rdL l)) ∧ w = w' := by
  rcases l with _ | ⟨h, r⟩
  · go_enter Try.func50, Try.ntmps50
    go_wp2_with fail
    go_ret3
    exact ⟨rfl, rfl⟩
  · obtain ⟨b, off, rfl, _, hc⟩ := hs.plain (by simp)
    have hcell : w.cell? ⟨b, off, none⟩ = some (.int .u8 (h : Int)) := hc 0 (by simp)
    rw [List.length_cons] at hl ⊢
    by_cases hx : h < 128 ∨ h = 128 ∨ h = 255 ∨ 132 < h ∨ r.length < h - 128
    · exact refLen_early b off cp h r w (by omega) hcell (hby h (List.mem_cons_self ..)) hx
    · refine refLen_late b off cp h r w (by omega) hcell (by omega) (by omega) (by omega) (fun x hx => hby x (List.mem_cons_of_mem _ hx)) fun j hj => ?_
      have := hc (j + 1) (by rw [List.length_cons]; omega)
      rw [show off + (j + 1) = off + (1 + j) from by omega] at this
      exact this

set_option maxRecDepth 4000 in
set_option maxHeartbeats 800000 in
theorem ref_one (b off cp h n : Nat) (w : World) (hl : n ≤ 1048600) (hcell : w.cell? ⟨b, off, none⟩ = some (.int .u8 (h : Int))) (hh : h < 256) (h31 : h % 32 ≠ 31) :
    Calls Try.prog 49 #[.slice (some ⟨b, off, none⟩) (n + 1) cp] w fun e w' => e = .returned (tup5 (h / 64, h / 32 % 2 == 1, h % 32, 1, 0)) ∧ w = w' := by
  obtain ⟨m, hm⟩ : ∃ m, m = (h / 32 % 2 == 1) := ⟨_, rfl⟩
  have e2 : ((h : Int) / 32 % 2 == 1) = m := by
    rw [hm, Bool.eq_iff_iff]
    simp
    omega
  rw [← hm]
  clear hm
  go_enter Try.func49, Try.ntmps49
  go_wp2_with fail
  go_returns
  exact ⟨rfl, rfl⟩

set_option maxRecDepth 4000 in
set_option maxHeartbeats 800000 in
theorem ref_more (b off cp hd : Nat) (r : List Nat) (w : World) (hl : r.length ≤ 1048600) (hcell : w.cell? ⟨b, off, none⟩ = some (.int .u8 (hd : Int))) (hh : hd < 256) (h31 : hd % 32 = 31)
    (hby : ∀ x ∈ r, x < 256) (hc : ∀ (j : Nat) (hj : j < r.length), w.cell? ⟨b, off + (1 + j), none⟩ = some (.int .u8 ((r[j] : Nat) : Int))) :
    Calls Try.prog 49 #[.slice (some ⟨b, off, none⟩) (r.length + 1) cp] w fun e w' => e = .returned (tup5 (rdT (hd :: r))) ∧ w = w' := by
  obtain ⟨m, hm⟩ : ∃ m, m = (hd / 32 % 2 == 1) := ⟨_, rfl⟩
  have e2 : ((hd : Int) / 32 % 2 == 1) = m := by
    rw [hm, Bool.eq_iff_iff]
    simp
    omega
  have h31' : (hd : Int) % 32 = 31 := by omega
  have H : rdT (hd :: r) = if (rn 4 0 0 r).2.2 = 0 then (hd / 64, m, (rn 4 0 0 r).1, 1 + (rn 4 0 0 r).2.1, 0) else (0, false, 0, 0, (rn 4 0 0 r).2.2) := by
    rw [rdT, if_pos h31, hm]
  replace H := Lib.hid H
  replace hby := Lib.hid hby
  replace hc := Lib.hid hc
  clear hm h31
  go_enter Try.func49, Try.ntmps49
  go_wp2_with fail
  go_loop [9, 10] (fun t i => ∃ k a : Nat, k ≤ 4 ∧ t = .int .i64 (a : Int) ∧ i = .int .i64 (1 + (k : Int)) ∧ a < 128 ^ k ∧ Hid (k ≤ r.length ∧ rn 4 0 0 r = rn (4 - k) k a (r.drop k))) (fun _ i => 6 - (intOf i).toNat)
  case atStart => exact ⟨0, 0, by omega, rfl, rfl, by simp, by omega, rfl⟩
  case round =>
    obtain ⟨k, a, hk, rfl, rfl, ha, HH⟩ := hrel
    by_cases hlen : k = r.length
    · by_cases h4 : k = 4
      · have e : rn 4 0 0 r = (0, 0, 11) := by rw [HH.out.2, h4]; rfl
        rw [e] at H
        replace H := Lib.hid (show rdT (hd :: r) = (0, false, 0, 0, 11) from H.out)
        clear e
        subst hlen
        go_wp2_with fail
        go_returns
        exact ⟨by rw [H.out]; rfl, rfl⟩
      · have e : rn 4 0 0 r = (0, 0, 10) := by
          rw [HH.out.2, hlen, List.drop_length, show 4 - r.length = (3 - r.length) + 1 from by omega]
          rfl
        rw [e] at H
        replace H := Lib.hid (show rdT (hd :: r) = (0, false, 0, 0, 10) from H.out)
        clear e
        subst hlen
        go_wp2_with fail
        go_returns
        exact ⟨by rw [H.out]; rfl, rfl⟩
    · have hkl : k < r.length := by have := HH.out.1; omega
      have hcell2 := hc.out k hkl
      obtain ⟨c, hce⟩ : ∃ c, c = r[k] := ⟨_, rfl⟩
      rw [← hce] at hcell2
      have hc256 : c < 256 := by rw [hce]; exact hby.out _ (List.getElem_mem hkl)
      by_cases h4 : k = 4
      · have e : rn 4 0 0 r = (0, 0, 11) := by rw [HH.out.2, h4]; rfl
        rw [e] at H
        replace H := Lib.hid (show rdT (hd :: r) = (0, false, 0, 0, 11) from H.out)
        clear e hce
        subst h4
        go_wp2_with fail
        go_returns
        exact ⟨by rw [H.out]; rfl, rfl⟩
      · have H2 : rn 4 0 0 r = rn ((3 - k) + 1) k a (c :: r.drop (k + 1)) := by
          rw [HH.out.2, show 4 - k = (3 - k) + 1 from by omega, List.drop_eq_getElem_cons hkl, ← hce]
        rw [rn_cons] at H2
        clear hce
        have ha2 : a < 2097152 := Nat.lt_of_lt_of_le ha (Nat.pow_le_pow_right (by decide) (by omega : k ≤ 3))
        have ha3 : a * 128 + c % 128 < 128 ^ (k + 1) := by rw [Nat.pow_succ]; omega
        replace ha3 := Lib.hid ha3
        by_cases hk0 : k = 0
        · subst hk0
          have hcell0 : w.cell? ⟨b, off + 1, none⟩ = some (.int .u8 (c : Int)) := hcell2
          clear hcell2
          by_cases h1 : c = 128
          · rw [if_pos ⟨rfl, .inl h1⟩] at H2
            rw [H2] at H
            replace H := Lib.hid (show rdT (hd :: r) = (0, false, 0, 0, 11) from H.out)
            clear H2
            subst h1
            go_wp2_with fail
            go_returns
            exact ⟨by rw [H.out]; rfl, rfl⟩
          · have h1b : ((c : Int) == 128) = false := beq_eq_false_iff_ne.2 (by omega)
            by_cases h2 : c < 31
            · rw [if_pos ⟨rfl, .inr h2⟩] at H2
              rw [H2] at H
              replace H := Lib.hid (show rdT (hd :: r) = (0, false, 0, 0, 11) from H.out)
              clear H2
              go_wp2_with fail
              go_returns
              exact ⟨by rw [H.out]; rfl, rfl⟩
            · rw [if_neg (by omega)] at H2
              by_cases h3 : c < 128
              · rw [if_pos h3] at H2
                rw [H2] at H
                replace H := Lib.hid (show rdT (hd :: r) = (hd / 64, m, a * 128 + c % 128, 1 + (0 + 1), 0) from H.out)
                clear H2
                go_wp2_with fail
                go_returns
                exact ⟨by rw [H.out]; rfl, rfl⟩
              · rw [if_neg h3] at H2
                replace H2 := Lib.hid H2
                go_wp2_with fail
                go_round
                case rel => exact ⟨1, a * 128 + c % 128, by omega, by go_num, by go_num, ha3.out, by omega, H2.out⟩
                case measure => simp [intOf]
        · rw [if_neg (by omega)] at H2
          by_cases h3 : c < 128
          · rw [if_pos h3] at H2
            rw [H2] at H
            replace H := Lib.hid (show rdT (hd :: r) = (hd / 64, m, a * 128 + c % 128, 1 + (k + 1), 0) from H.out)
            clear H2
            go_wp2_with fail
            go_returns
            refine ⟨?_, rfl⟩
            rw [H.out]
            unfold tup5
            rw [show ((1 + (k + 1) : Nat) : Int) = 1 + (k : Int) + 1 from by omega]
            rfl
          · rw [if_neg h3] at H2
            replace H2 := Lib.hid H2
            go_wp2_with fail
            go_round
            case rel =>
              have h9 : Hid (k + 1 ≤ r.length ∧ rn 4 0 0 r = rn (4 - (k + 1)) (k + 1) (a * 128 + c % 128) (r.drop (k + 1))) := ⟨by omega, by rw [H2.out, show 3 - k = 4 - (k + 1) from by omega]⟩
              exact ⟨_, _, _, _, _, _, _, ⟨k + 1, by omega, a * 128 + c % 128, by go_num, by go_num, ha3.out, h9⟩, rfl, rfl, rfl, rfl, rfl, rfl, rfl⟩
            case measure => simp [intOf]; omega

/-- The document's Read, whatever the bytes. -/
theorem ref_any (A : Option Addr) (cp : Nat) (l : List Nat) (w : World) (K : Nat) (hs : Src w K A cp l) (hl : l.length ≤ 1048600) (hby : ∀ x ∈ l, x < 256) :
    Calls Try.prog 49 #[.slice A l.length cp] w fun e w' => e = .returned (tup5 (rdT l)) ∧ w = w' := by
  rcases l with _ | ⟨h, r⟩
  · go_enter Try.func49, Try.ntmps49
    go_wp2_with fail
    go_returns
    exact ⟨rfl, rfl⟩
  · obtain ⟨b, off, rfl, _, hc⟩ := hs.plain (by simp)
    have hcell : w.cell? ⟨b, off, none⟩ = some (.int .u8 (h : Int)) := hc 0 (by simp)
    have hh := hby h (List.mem_cons_self ..)
    rw [List.length_cons] at hl ⊢
    by_cases h31 : h % 32 = 31
    · refine ref_more b off cp h r w (by omega) hcell hh h31 (fun x hx => hby x (List.mem_cons_of_mem _ hx)) fun j hj => ?_
      have := hc (j + 1) (by rw [List.length_cons]; omega)
      rw [show off + (j + 1) = off + (1 + j) from by omega] at this
      exact this
    · rw [rdT, if_neg h31]
      exact ref_one b off cp h r.length w (by omega) hcell hh h31
end Go.Proofs.Ytgdoepkoakpnbaa
