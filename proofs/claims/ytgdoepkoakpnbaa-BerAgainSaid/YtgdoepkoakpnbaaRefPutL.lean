/-
  The document's own Put at a number that has no short form.
-/
import Derived.Test.YtgdoepkoakpnbaaRefPut
namespace Go.Proofs.Ytgdoepkoakpnbaa
open Go.RowKit

theorem Own.len {w : World} {base : Nat} {v : Value} {l m : List Nat} (h : Own w base v l) (e : l = m) : Own w base v m := e ▸ h

set_option maxRecDepth 4000 in
set_option maxHeartbeats 1600000 in
theorem refPut_long_true (A : Option Addr) (cp : Nat) (l : List Nat) (c n h : Nat) (w : World) (hs : Src w w.heap.size A cp l) (hl : l.length ≤ 1048000) (hc : c ≤ 3) (hn : 31 ≤ n) (hn2 : n ≤ 268435455) (hh : (h : Int) = (c : Int) * 64 + 32) :
    Calls Try.prog 45 #[.slice A l.length cp, .int .i64 (c : Int), .bool true, .int .i64 (n : Int)] w fun e w' => ∃ A' c', e = .returned (.slice A' (l.length + 1 + count 7 n) c') ∧ Own w' w.heap.size (.slice A' (l.length + 1 + count 7 n) c') (l ++ (h + 31) :: row more 128 n (count 7 n)) ∧ Below w.heap.size w w' := by
  have hG := count7_le n (by omega) hn2
  have hG1 := count_pos 7 n (by decide) (by omega) (by omega)
  have hsh := fun j hj => count_shift 7 n j (by decide) (by omega) (by omega) hj
  obtain ⟨G, hGe⟩ : ∃ G, G = count 7 n := ⟨_, rfl⟩
  rw [← hGe] at hG hG1 hsh ⊢
  replace hsh : Hid (∀ j, j ≤ G → (n / 128 ^ j = 0 ↔ j = G)) := hsh
  clear hGe
  replace hs := Lib.hid hs
  have hr : RightT (c : Int) (n : Int) := ⟨by omega, by omega, by omega, by omega⟩
  replace hr := Lib.hid hr
  replace hh := Lib.hid hh
  go_enter Try.func45, Try.ntmps45
  go_wp2_with (at_builtin; refine append_src rfl (.tmp 12) (.tmp 13) rfl w.heap.size _ [] rfl (Own.lit w) w.heap.size A cp l rfl (hs.out.alloc (Nat.le_refl _) _) (by simp; omega) (by simp) ?_; intro A1 c1 w1 ho1 hb1; have HO1 := Lib.hid ho1; have HB1 := Lib.hid (((Below.refl w.heap.size w).alloc (Nat.le_refl _) _).trans hb1); have hsz1 := HB1.out.size; clear ho1 hb1)
  refine (refRight_yes c n _ hr.out.1 hr.out.2.1 hr.out.2.2.1 hr.out.2.2.2).mono ?_
  rintro e w2 ⟨rfl, rfl⟩
  go_wp2_with (at_builtin; refine append_srcF rfl (.tmp 34) (.tmp 38) rfl w.heap.size _ l rfl (HO1.out.alloc _) (w1.heap.size + 1) (some ⟨w1.heap.size, 0, none⟩) 1 [h + 31] 1 rfl rfl (Src.oneI w1 (h + 31) ((c : Int) * 64 + 32 + 31) (by have := hh.out; omega)) (by simp; omega) (by simp; omega) ?_; intro A2 c2 w2 ho2 hb2 _; have HO2 := Lib.hid ho2; have HB2 := Lib.hid (show Below w.heap.size w w2 from HB1.out.trans (((Below.refl w.heap.size w1).alloc hsz1 _).trans hb2)); clear ho2 hb2)
  go_loop [11] (fun d => ∃ j : Nat, j + 1 ≤ G ∧ d = .int .i64 ((128 ^ j : Nat) : Int)) (fun d => (268435456 - intOf d).toNat)
  case atStart => exact ⟨0, by omega, rfl⟩
  case round =>
    obtain ⟨j, hj, hi⟩ := hrel
    obtain ⟨D, hD⟩ : ∃ D, D = 128 ^ j := ⟨_, rfl⟩
    rw [← hD] at hi
    have hD1 : 1 ≤ D := by rw [hD]; exact Nat.pow_pos (by decide)
    have hD2 : D ≤ 2097152 := by rw [hD]; exact (show 128 ^ j ≤ 128 ^ 3 from Nat.pow_le_pow_right (by decide) (by omega))
    obtain ⟨x, hx⟩ : ∃ x, x = n / D := ⟨_, rfl⟩
    have hdv : (n : Int) / (D : Int) = (x : Int) := by rw [hx]; exact (Int.natCast_ediv n D).symm
    have hxn : x ≤ n := by rw [hx]; exact Nat.div_le_self _ _
    have hnx : n / 128 ^ (j + 1) = x / 128 := by rw [hx, hD, shift_step]
    have hz := hsh.out (j + 1) (by omega)
    rw [hnx] at hz
    replace hD := Lib.hid hD
    replace hz := Lib.hid hz
    clear hx hnx
    obtain rfl := hi
    by_cases hgt : 127 < x
    · have hgti : (127 : Int) < (x : Int) := by omega
      have hgtd : decide ((127 : Int) < (x : Int)) = true := by simpa using hgti
      go_wp2_with fail
      go_round
      case rel => exact ⟨j + 1, by have := hz.out; omega, by rw [Nat.pow_succ, ← hD.out]; rfl⟩
      case measure => simp [intOf]; omega
    · obtain rfl : G = j + 1 := by have := hz.out; omega
      have HS0 : Hid (Own w2 w.heap.size (.slice A2 (l.length + 1 + (j + 1 - (j + 1))) c2) (l ++ (h + 31) :: (row more 128 n (j + 1)).take (j + 1 - (j + 1)))) := by
        have k := HO2.out
        rw [Nat.sub_self, Nat.add_zero, List.take_zero]
        exact k
      have HR := Lib.hid (Below.refl w.heap.size w2)
      clear hz
      go_wp2_with fail
      go_loopw [9, 11] (fun v d wr => ∃ (i : Nat) (B : Option Addr) (cc : Nat), i ≤ j ∧ d = .int .i64 ((128 ^ i : Nat) : Int) ∧ v = .slice B (l.length + 1 + (j + 1 - (i + 1))) cc ∧ Hid (Own wr w.heap.size (.slice B (l.length + 1 + (j + 1 - (i + 1))) cc) (l ++ (h + 31) :: (row more 128 n (j + 1)).take (j + 1 - (i + 1)))) ∧ Hid (Below w.heap.size w2 wr)) (fun _ d _ => (intOf d).toNat)
      case atStart => exact ⟨j, A2, c2, Nat.le_refl _, by rw [hD.out], by rw [Nat.sub_self, Nat.add_zero], HS0, HR⟩
      case round =>
        obtain ⟨i, B, cc, hij, hi, hv, HO, HB⟩ := hrel
        obtain ⟨N, hN⟩ : ∃ N, N = l.length + 1 + (j + 1 - (i + 1)) := ⟨_, rfl⟩
        obtain ⟨L, hL⟩ : ∃ L, L = l ++ (h + 31) :: (row more 128 n (j + 1)).take (j + 1 - (i + 1)) := ⟨_, rfl⟩
        rw [← hN] at hv HO
        rw [← hL] at HO
        have hLN : L.length = N := by rw [hL, hN, List.length_append, List.length_cons, List.length_take, row_len]; omega
        have hN2 : N ≤ 1048100 := by omega
        obtain rfl := hv
        have hszr : w.heap.size ≤ wr.heap.size := Nat.le_trans HB2.out.size HB.out.size
        replace hN := Lib.hid hN
        replace hL := Lib.hid hL
        replace hLN := Lib.hid hLN
        have HO' : Hid (Own wr w.heap.size (.slice B N cc) L) := HO
        obtain ⟨E, hE⟩ : ∃ E, E = 128 ^ i := ⟨_, rfl⟩
        rw [← hE] at hi
        obtain ⟨y, hy⟩ : ∃ y, y = n / E := ⟨_, rfl⟩
        have hE1 : 1 ≤ E := by rw [hE]; exact Nat.pow_pos (by decide)
        have hE2 : E ≤ 2097152 := by rw [hE]; exact (show 128 ^ i ≤ 128 ^ 3 from Nat.pow_le_pow_right (by decide) (by omega))
        have hdv : (n : Int) / (E : Int) = (y : Int) := by rw [hy]; exact (Int.natCast_ediv n E).symm
        have hyn : y ≤ n := by rw [hy]; exact Nat.div_le_self _ _
        have hrt := row_take more 128 n (j + 1) i (by omega)
        obtain rfl := hi
        by_cases h0 : i = 0
        · subst h0
          obtain rfl : E = 1 := by rw [hE]
          replace hrt := Lib.hid hrt
          clear hE hy hdv
          go_wp2_with (at_builtin; refine append_srcF rfl (.tmp 59) (.tmp 63) rfl w.heap.size (.slice B N cc) L rfl (HO'.out.alloc _) (wr.heap.size + 1) (some ⟨wr.heap.size, 0, none⟩) 1 [n % 128] 1 rfl rfl (Src.oneI wr (n % 128) ((n : Int) % 128) (by omega)) (by rw [hLN.out]; simp; omega) (by simp; omega) ?_; intro A3 c3 w3 ho3 hb3 _; have HO3 := Lib.hid ho3; have HB3 := Lib.hid (show Below w.heap.size w w3 from HB2.out.trans (HB.out.trans (((Below.refl w.heap.size wr).alloc hszr _).trans hb3))); clear ho3 hb3)
          go_ret
          have k := HO3.out
          refine ⟨A3, c3, ?_, ?_, HB3.out⟩
          · rw [show l.length + 1 + (j + 1) = L.length + 1 from by rw [hLN.out, hN.out]; omega]
            rfl
          · rw [show l.length + 1 + (j + 1) = L.length + 1 from by rw [hLN.out, hN.out]; omega]
            refine k.len ?_
            rw [hL.out, List.append_assoc, List.cons_append]
            have q := hrt.out
            rw [Nat.sub_zero, List.take_of_length_le (by rw [row_len]; omega), show more (n / 128 ^ 0 % 128) (0 == 0) = n % 128 from by simp [more]] at q
            exact congrArg (fun z => l ++ (h + 31) :: z) q.symm
        · have hE3 : 1 < E := by
            rw [hE]
            exact Nat.one_lt_pow h0 (by decide)
          have hmore : more (n / 128 ^ i % 128) (i == 0) = y % 128 + 128 := by
            have hb : (i == 0) = false := by simpa using h0
            rw [hb, hy, hE]
            rfl
          rw [hmore] at hrt
          replace hrt := Lib.hid hrt
          replace hE := Lib.hid hE
          clear hy hmore
          go_wp2_with (at_builtin; refine append_srcF rfl (.tmp 48) (.tmp 55) rfl w.heap.size (.slice B N cc) L rfl (HO'.out.alloc _) (wr.heap.size + 1) (some ⟨wr.heap.size, 0, none⟩) 1 [y % 128 + 128] 1 rfl rfl (Src.oneI wr (y % 128 + 128) ((y : Int) % 128 + 128) (by omega)) (by rw [hLN.out]; simp; omega) (by simp; omega) ?_; intro A3 c3 w3 ho3 hb3 _; have HO3 := Lib.hid ho3; have HB3 := Lib.hid (show Below w.heap.size w2 w3 from HB.out.trans (((Below.refl w.heap.size wr).alloc hszr _).trans hb3)); clear ho3 hb3)
          have hi1 : l.length + 1 + (j + 1 - (i - 1 + 1)) = L.length + 1 := by rw [hLN.out, hN.out]; omega
          have HR3 : Hid (Own w3 w.heap.size (.slice A3 (l.length + 1 + (j + 1 - (i - 1 + 1))) c3) (l ++ (h + 31) :: (row more 128 n (j + 1)).take (j + 1 - (i - 1 + 1)))) := by
            rw [hi1]
            refine HO3.out.len ?_
            rw [hL.out, List.append_assoc, List.cons_append, show j + 1 - (i - 1 + 1) = j + 1 - i from by omega, hrt.out]
          replace hi1 := Lib.hid hi1
          go_roundw
          case rel =>
            refine ⟨i - 1, A3, c3, by omega, ?_, by rw [hi1.out], HR3, HB3⟩
            have hp : 128 ^ i = 128 ^ (i - 1) * 128 := (congrArg (fun z => 128 ^ z) (show i = i - 1 + 1 from by omega)).trans (Nat.pow_succ ..)
            have hq : E / 128 = 128 ^ (i - 1) := by rw [hE.out, hp, Nat.mul_div_cancel _ (by decide)]
            rw [← hq]
            rfl
          case measure => simp [intOf]; omega

set_option maxRecDepth 4000 in
set_option maxHeartbeats 1600000 in
theorem refPut_long_false (A : Option Addr) (cp : Nat) (l : List Nat) (c n h : Nat) (w : World) (hs : Src w w.heap.size A cp l) (hl : l.length ≤ 1048000) (hc : c ≤ 3) (hn : 31 ≤ n) (hn2 : n ≤ 268435455) (hh : (h : Int) = (c : Int) * 64) :
    Calls Try.prog 45 #[.slice A l.length cp, .int .i64 (c : Int), .bool false, .int .i64 (n : Int)] w fun e w' => ∃ A' c', e = .returned (.slice A' (l.length + 1 + count 7 n) c') ∧ Own w' w.heap.size (.slice A' (l.length + 1 + count 7 n) c') (l ++ (h + 31) :: row more 128 n (count 7 n)) ∧ Below w.heap.size w w' := by
  have hG := count7_le n (by omega) hn2
  have hG1 := count_pos 7 n (by decide) (by omega) (by omega)
  have hsh := fun j hj => count_shift 7 n j (by decide) (by omega) (by omega) hj
  obtain ⟨G, hGe⟩ : ∃ G, G = count 7 n := ⟨_, rfl⟩
  rw [← hGe] at hG hG1 hsh ⊢
  replace hsh : Hid (∀ j, j ≤ G → (n / 128 ^ j = 0 ↔ j = G)) := hsh
  clear hGe
  replace hs := Lib.hid hs
  have hr : RightT (c : Int) (n : Int) := ⟨by omega, by omega, by omega, by omega⟩
  replace hr := Lib.hid hr
  replace hh := Lib.hid hh
  go_enter Try.func45, Try.ntmps45
  go_wp2_with (at_builtin; refine append_src rfl (.tmp 12) (.tmp 13) rfl w.heap.size _ [] rfl (Own.lit w) w.heap.size A cp l rfl (hs.out.alloc (Nat.le_refl _) _) (by simp; omega) (by simp) ?_; intro A1 c1 w1 ho1 hb1; have HO1 := Lib.hid ho1; have HB1 := Lib.hid (((Below.refl w.heap.size w).alloc (Nat.le_refl _) _).trans hb1); have hsz1 := HB1.out.size; clear ho1 hb1)
  refine (refRight_yes c n _ hr.out.1 hr.out.2.1 hr.out.2.2.1 hr.out.2.2.2).mono ?_
  rintro e w2 ⟨rfl, rfl⟩
  go_wp2_with (at_builtin; refine append_srcF rfl (.tmp 34) (.tmp 38) rfl w.heap.size _ l rfl (HO1.out.alloc _) (w1.heap.size + 1) (some ⟨w1.heap.size, 0, none⟩) 1 [h + 31] 1 rfl rfl (Src.oneI w1 (h + 31) ((c : Int) * 64 + 31) (by have := hh.out; omega)) (by simp; omega) (by simp; omega) ?_; intro A2 c2 w2 ho2 hb2 _; have HO2 := Lib.hid ho2; have HB2 := Lib.hid (show Below w.heap.size w w2 from HB1.out.trans (((Below.refl w.heap.size w1).alloc hsz1 _).trans hb2)); clear ho2 hb2)
  go_loop [11] (fun d => ∃ j : Nat, j + 1 ≤ G ∧ d = .int .i64 ((128 ^ j : Nat) : Int)) (fun d => (268435456 - intOf d).toNat)
  case atStart => exact ⟨0, by omega, rfl⟩
  case round =>
    obtain ⟨j, hj, hi⟩ := hrel
    obtain ⟨D, hD⟩ : ∃ D, D = 128 ^ j := ⟨_, rfl⟩
    rw [← hD] at hi
    have hD1 : 1 ≤ D := by rw [hD]; exact Nat.pow_pos (by decide)
    have hD2 : D ≤ 2097152 := by rw [hD]; exact (show 128 ^ j ≤ 128 ^ 3 from Nat.pow_le_pow_right (by decide) (by omega))
    obtain ⟨x, hx⟩ : ∃ x, x = n / D := ⟨_, rfl⟩
    have hdv : (n : Int) / (D : Int) = (x : Int) := by rw [hx]; exact (Int.natCast_ediv n D).symm
    have hxn : x ≤ n := by rw [hx]; exact Nat.div_le_self _ _
    have hnx : n / 128 ^ (j + 1) = x / 128 := by rw [hx, hD, shift_step]
    have hz := hsh.out (j + 1) (by omega)
    rw [hnx] at hz
    replace hD := Lib.hid hD
    replace hz := Lib.hid hz
    clear hx hnx
    obtain rfl := hi
    by_cases hgt : 127 < x
    · have hgti : (127 : Int) < (x : Int) := by omega
      have hgtd : decide ((127 : Int) < (x : Int)) = true := by simpa using hgti
      go_wp2_with fail
      go_round
      case rel => exact ⟨j + 1, by have := hz.out; omega, by rw [Nat.pow_succ, ← hD.out]; rfl⟩
      case measure => simp [intOf]; omega
    · obtain rfl : G = j + 1 := by have := hz.out; omega
      have HS0 : Hid (Own w2 w.heap.size (.slice A2 (l.length + 1 + (j + 1 - (j + 1))) c2) (l ++ (h + 31) :: (row more 128 n (j + 1)).take (j + 1 - (j + 1)))) := by
        have k := HO2.out
        rw [Nat.sub_self, Nat.add_zero, List.take_zero]
        exact k
      have HR := Lib.hid (Below.refl w.heap.size w2)
      clear hz
      go_wp2_with fail
      go_loopw [9, 11] (fun v d wr => ∃ (i : Nat) (B : Option Addr) (cc : Nat), i ≤ j ∧ d = .int .i64 ((128 ^ i : Nat) : Int) ∧ v = .slice B (l.length + 1 + (j + 1 - (i + 1))) cc ∧ Hid (Own wr w.heap.size (.slice B (l.length + 1 + (j + 1 - (i + 1))) cc) (l ++ (h + 31) :: (row more 128 n (j + 1)).take (j + 1 - (i + 1)))) ∧ Hid (Below w.heap.size w2 wr)) (fun _ d _ => (intOf d).toNat)
      case atStart => exact ⟨j, A2, c2, Nat.le_refl _, by rw [hD.out], by rw [Nat.sub_self, Nat.add_zero], HS0, HR⟩
      case round =>
        obtain ⟨i, B, cc, hij, hi, hv, HO, HB⟩ := hrel
        obtain ⟨N, hN⟩ : ∃ N, N = l.length + 1 + (j + 1 - (i + 1)) := ⟨_, rfl⟩
        obtain ⟨L, hL⟩ : ∃ L, L = l ++ (h + 31) :: (row more 128 n (j + 1)).take (j + 1 - (i + 1)) := ⟨_, rfl⟩
        rw [← hN] at hv HO
        rw [← hL] at HO
        have hLN : L.length = N := by rw [hL, hN, List.length_append, List.length_cons, List.length_take, row_len]; omega
        have hN2 : N ≤ 1048100 := by omega
        obtain rfl := hv
        have hszr : w.heap.size ≤ wr.heap.size := Nat.le_trans HB2.out.size HB.out.size
        replace hN := Lib.hid hN
        replace hL := Lib.hid hL
        replace hLN := Lib.hid hLN
        have HO' : Hid (Own wr w.heap.size (.slice B N cc) L) := HO
        obtain ⟨E, hE⟩ : ∃ E, E = 128 ^ i := ⟨_, rfl⟩
        rw [← hE] at hi
        obtain ⟨y, hy⟩ : ∃ y, y = n / E := ⟨_, rfl⟩
        have hE1 : 1 ≤ E := by rw [hE]; exact Nat.pow_pos (by decide)
        have hE2 : E ≤ 2097152 := by rw [hE]; exact (show 128 ^ i ≤ 128 ^ 3 from Nat.pow_le_pow_right (by decide) (by omega))
        have hdv : (n : Int) / (E : Int) = (y : Int) := by rw [hy]; exact (Int.natCast_ediv n E).symm
        have hyn : y ≤ n := by rw [hy]; exact Nat.div_le_self _ _
        have hrt := row_take more 128 n (j + 1) i (by omega)
        obtain rfl := hi
        by_cases h0 : i = 0
        · subst h0
          obtain rfl : E = 1 := by rw [hE]
          replace hrt := Lib.hid hrt
          clear hE hy hdv
          go_wp2_with (at_builtin; refine append_srcF rfl (.tmp 59) (.tmp 63) rfl w.heap.size (.slice B N cc) L rfl (HO'.out.alloc _) (wr.heap.size + 1) (some ⟨wr.heap.size, 0, none⟩) 1 [n % 128] 1 rfl rfl (Src.oneI wr (n % 128) ((n : Int) % 128) (by omega)) (by rw [hLN.out]; simp; omega) (by simp; omega) ?_; intro A3 c3 w3 ho3 hb3 _; have HO3 := Lib.hid ho3; have HB3 := Lib.hid (show Below w.heap.size w w3 from HB2.out.trans (HB.out.trans (((Below.refl w.heap.size wr).alloc hszr _).trans hb3))); clear ho3 hb3)
          go_ret
          have k := HO3.out
          refine ⟨A3, c3, ?_, ?_, HB3.out⟩
          · rw [show l.length + 1 + (j + 1) = L.length + 1 from by rw [hLN.out, hN.out]; omega]
            rfl
          · rw [show l.length + 1 + (j + 1) = L.length + 1 from by rw [hLN.out, hN.out]; omega]
            refine k.len ?_
            rw [hL.out, List.append_assoc, List.cons_append]
            have q := hrt.out
            rw [Nat.sub_zero, List.take_of_length_le (by rw [row_len]; omega), show more (n / 128 ^ 0 % 128) (0 == 0) = n % 128 from by simp [more]] at q
            exact congrArg (fun z => l ++ (h + 31) :: z) q.symm
        · have hE3 : 1 < E := by
            rw [hE]
            exact Nat.one_lt_pow h0 (by decide)
          have hmore : more (n / 128 ^ i % 128) (i == 0) = y % 128 + 128 := by
            have hb : (i == 0) = false := by simpa using h0
            rw [hb, hy, hE]
            rfl
          rw [hmore] at hrt
          replace hrt := Lib.hid hrt
          replace hE := Lib.hid hE
          clear hy hmore
          go_wp2_with (at_builtin; refine append_srcF rfl (.tmp 48) (.tmp 55) rfl w.heap.size (.slice B N cc) L rfl (HO'.out.alloc _) (wr.heap.size + 1) (some ⟨wr.heap.size, 0, none⟩) 1 [y % 128 + 128] 1 rfl rfl (Src.oneI wr (y % 128 + 128) ((y : Int) % 128 + 128) (by omega)) (by rw [hLN.out]; simp; omega) (by simp; omega) ?_; intro A3 c3 w3 ho3 hb3 _; have HO3 := Lib.hid ho3; have HB3 := Lib.hid (show Below w.heap.size w2 w3 from HB.out.trans (((Below.refl w.heap.size wr).alloc hszr _).trans hb3)); clear ho3 hb3)
          have hi1 : l.length + 1 + (j + 1 - (i - 1 + 1)) = L.length + 1 := by rw [hLN.out, hN.out]; omega
          have HR3 : Hid (Own w3 w.heap.size (.slice A3 (l.length + 1 + (j + 1 - (i - 1 + 1))) c3) (l ++ (h + 31) :: (row more 128 n (j + 1)).take (j + 1 - (i - 1 + 1)))) := by
            rw [hi1]
            refine HO3.out.len ?_
            rw [hL.out, List.append_assoc, List.cons_append, show j + 1 - (i - 1 + 1) = j + 1 - i from by omega, hrt.out]
          replace hi1 := Lib.hid hi1
          go_roundw
          case rel =>
            refine ⟨i - 1, A3, c3, by omega, ?_, by rw [hi1.out], HR3, HB3⟩
            have hp : 128 ^ i = 128 ^ (i - 1) * 128 := (congrArg (fun z => 128 ^ z) (show i = i - 1 + 1 from by omega)).trans (Nat.pow_succ ..)
            have hq : E / 128 = 128 ^ (i - 1) := by rw [hE.out, hp, Nat.mul_div_cancel _ (by decide)]
            rw [← hq]
            rfl
          case measure => simp [intOf]; omega

/-- The document's Put at an identifier that may be. -/
theorem refPut_out (A : Option Addr) (cp : Nat) (l : List Nat) (c n : Int) (m : Bool) (w : World) (hs : Src w w.heap.size A cp l) (hl : l.length ≤ 1048000) (hr : RightT c n) :
    Calls Try.prog 45 #[.slice A l.length cp, .int .i64 c, .bool m, .int .i64 n] w fun e w' =>
      ∃ A' c', e = .returned (.slice A' (l ++ tagB c m n).length c') ∧ Own w' w.heap.size (.slice A' (l ++ tagB c m n).length c') (l ++ tagB c m n) ∧ Below w.heap.size w w' := by
  obtain ⟨h1, h2, h3, h4⟩ := hr
  obtain ⟨c', rfl⟩ := Int.eq_ofNat_of_zero_le h1
  obtain ⟨n', rfl⟩ := Int.eq_ofNat_of_zero_le h3
  by_cases hn : n' < 31
  · have := refPut_short A cp l c' n' (headB (c' : Int) m) m w hs hl (by omega) hn (by simp [headB])
    rw [tagB, if_pos (by omega), List.length_append, Int.toNat_natCast]
    exact this
  · rw [tagB, if_neg (by omega), List.length_append, List.length_cons, row_len, Int.toNat_natCast, show l.length + (count 7 n' + 1) = l.length + 1 + count 7 n' from by omega]
    cases m
    · exact refPut_long_false A cp l c' n' (headB (c' : Int) false) w hs hl (by omega) (by omega) (by omega) (by simp [headB])
    · exact refPut_long_true A cp l c' n' (headB (c' : Int) true) w hs hl (by omega) (by omega) (by omega) (by simp [headB])
end Go.Proofs.Ytgdoepkoakpnbaa
