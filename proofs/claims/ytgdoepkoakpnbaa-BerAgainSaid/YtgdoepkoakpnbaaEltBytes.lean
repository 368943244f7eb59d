/-
  The document's Bytes of an element.
-/
import Derived.Test.YtgdoepkoakpnbaaEltDeep
import Derived.Test.YtgdoepkoakpnbaaRefPutL
namespace Go.Proofs.Ytgdoepkoakpnbaa
open Go.RowKit

theorem flat_take {α : Type} (f : α → List Nat) (l : List α) (k : Nat) (h : k < l.length) : (l.take (k + 1)).flatMap f = (l.take k).flatMap f ++ f l[k] := by
  rw [List.take_succ_eq_append_getElem h, List.flatMap_append]
  simp
theorem flat_le {α : Type} (f : α → List Nat) (l : List α) (k : Nat) : ((l.take k).flatMap f).length ≤ (l.flatMap f).length := by
  conv => rhs; rw [← List.take_append_drop k l]
  rw [List.flatMap_append, List.length_append]
  omega
theorem El.inner_made (e : El) (h : e.m = true) : e.inner = e.kids.flatMap El.enc := by
  rw [El.inner, if_pos h, Fo.enc_list]
  rfl
theorem El.enc_kid (e : El) (h : e.m = true) (i : Nat) (hi : i < e.kids.length) : e.kids[i].enc.length ≤ e.enc.length := by
  have h1 := flat_take El.enc e.kids i hi
  have h2 := flat_le El.enc e.kids (i + 1)
  rw [h1, List.length_append] at h2
  rw [El.enc.eq_1 e, List.length_append, El.inner_made e h]
  omega
theorem tagB_short (c n : Int) (m : Bool) (hr : RightT c n) : (tagB c m n).length ≤ 5 := by
  rw [tagB_len]
  split
  · omega
  · have := count7_le n.toNat (by have := hr.2.2.1; omega) (by have := hr.2.2.2; omega)
    omega
theorem lenB_short (n : Int) (h : n ≤ 2147483647) : (lenB n).length ≤ 5 := by
  rw [lenB_len]
  split
  · omega
  · split
    · omega
    · have := count8_le n.toNat (by omega) (by omega)
      omega
theorem refPut_nil (c n : Int) (m : Bool) (w : World) (hr : RightT c n) :
    Calls Try.prog 45 #[.slice none 0 0, .int .i64 c, .bool m, .int .i64 n] w fun e w' =>
      ∃ A' c', e = .returned (.slice A' (tagB c m n).length c') ∧ Own w' w.heap.size (.slice A' (tagB c m n).length c') (tagB c m n) ∧ Below w.heap.size w w' :=
  refPut_out none 0 [] c n m w (Src.none_ _ _) (by simp) hr

set_option maxRecDepth 8000 in
set_option maxHeartbeats 800000 in
theorem refBytes_leaf (c n : Int) (b : List Nat) (K : Nat) (Ab Ak : Option Addr) (cb ck : Nat) (w : World) (hr : RightT c n) (hs : SrcI w (· < w.heap.size) Ab cb b) (hb : b.length ≤ 1000000) :
    Calls Try.prog 25 #[.agg #[.int .i64 c, .bool false, .int .i64 n, .slice Ab b.length cb, .slice Ak K ck]] w fun en w' =>
      ∃ A' c', en = .returned (.slice A' (tagB c false n ++ lenB (b.length : Int) ++ b).length c') ∧ Own w' w.heap.size (.slice A' (tagB c false n ++ lenB (b.length : Int) ++ b).length c') (tagB c false n ++ lenB (b.length : Int) ++ b) ∧ Below w.heap.size w w' := by
  have htl := tagB_short c n false hr
  have hll := lenB_short (b.length : Int) (by omega)
  have CPUT := fun w => refPut_nil c n false w hr
  have CLEN : ∀ (w : World) (A : Option Addr) (cp : Nat), Src w w.heap.size A cp (tagB c false n) → Calls Try.prog 44 #[.slice A (tagB c false n).length cp, .int .i64 (b.length : Int)] w fun e w' => ∃ A' c', e = .returned (.slice A' (tagB c false n ++ lenB (b.length : Int)).length c') ∧ Own w' w.heap.size (.slice A' (tagB c false n ++ lenB (b.length : Int)).length c') (tagB c false n ++ lenB (b.length : Int)) ∧ Below w.heap.size w w' := fun w A cp hs => refPutLen_out A cp _ _ w hs (by omega) (by omega)
  obtain ⟨tg, htg⟩ : ∃ tg, tg = tagB c false n := ⟨_, rfl⟩
  obtain ⟨ln, hln⟩ : ∃ ln, ln = lenB (b.length : Int) := ⟨_, rfl⟩
  simp only [← htg, ← hln] at CPUT CLEN htl hll ⊢
  obtain ⟨T, hT⟩ : ∃ T, T = tg.length := ⟨_, rfl⟩
  obtain ⟨U, hU⟩ : ∃ U, U = (tg ++ ln).length := ⟨_, rfl⟩
  obtain ⟨B, hB⟩ : ∃ B, B = b.length := ⟨_, rfl⟩
  have hUl : U ≤ 10 := by rw [hU, List.length_append]; omega
  simp only [← hT, ← hU, ← hB] at CPUT CLEN ⊢
  rw [← hB] at hb
  replace CPUT := Lib.hid CPUT
  replace CLEN := Lib.hid CLEN
  replace hs := Lib.hid hs
  replace hB := Lib.hid hB
  replace hU := Lib.hid hU
  clear htg hln hT htl hll
  have hb0 := Lib.hid (Below.refl (w.heap.size + 1) (w.alloc (.cells #[.int .i64 c, .bool false, .int .i64 n, .slice Ab B cb, .slice Ak K ck] 30)))
  go_enter Try.func25, Try.ntmps25
  go_wp2_with fail
  refine (CPUT.out _).mono ?_
  rintro en w4 ⟨A4, c4, rfl, ho4, hb4⟩
  have HB4 := Lib.hid (hb0.out.trans (hb4.mono (by simp)))
  have HS4 := Lib.hid ho4.src
  clear ho4 hb4 hb0
  go_wp2_with fail
  refine (CLEN.out _ _ _ HS4.out).mono ?_
  rintro en w5 ⟨A5, c5, rfl, ho5, hb5⟩
  have HO5 := Lib.hid (ho5.base_le (Nat.le_trans (show w.heap.size + 1 ≤ _ by simp) HB4.out.size))
  have HB5 := Lib.hid (HB4.out.trans (hb5.mono (Nat.le_trans (by simp) HB4.out.size)))
  have HS5 := Lib.hid ((hs.out.src).below (boxB HB5.out))
  clear ho5 hb5 HS4 hs
  have HZ : w.heap.size + 1 ≤ w5.heap.size := Nat.le_trans (by simp) HB5.out.size
  go_wp2_with (at_builtin; refine append_srcF rfl (.tmp 33) (.tmp 34) rfl (w.heap.size + 1) (.slice A5 U c5) (tg ++ ln) rfl HO5.out w.heap.size Ab cb b B hB.out.symm rfl HS5.out (by have h1 := hU.out; have h2 := hB.out; omega) HZ ?_; intro A6 c6 w6 ho6 hb6 _; have HO6 := Lib.hid ho6; have HB6 := Lib.hid (boxB (HB5.out.trans hb6)); clear ho6 hb6)
  have HL : (tg ++ ln ++ b).length = tg.length + ln.length + B := by rw [List.length_append, List.length_append, ← hB.out]
  have HO7 : Own w6 w.heap.size (.slice A6 (tg ++ ln ++ b).length c6) (tg ++ ln ++ b) := by
    have h := HO6.out.base_le (base' := w.heap.size) (by omega)
    rw [show (tg ++ ln).length + B = (tg ++ ln ++ b).length from by rw [HL, List.length_append]] at h
    exact h
  have HL2 := Lib.hid HL
  replace HO7 := Lib.hid HO7
  clear HL
  go_ret
  exact ⟨A6, c6, by rw [HL2.out]; rfl, HO7.out, HB6.out⟩

set_option maxRecDepth 8000 in
set_option maxHeartbeats 1600000 in
theorem refBytes_made (c n : Int) (l : List El) (K B : Nat) (bl off : Nat) (Ab : Option Addr) (cb ck : Nat) (w : World) (hr : RightT c n) (hK : l.length = K) (hKc : K ≤ ck) (hck : ck ≤ 9223372036854775807) (hbl : bl < w.heap.size)
    (hb : (l.flatMap El.enc).length ≤ 1000000)
    (ih : ∀ (i : Nat) (hi : i < l.length), ∃ Ab cb Ak ck, ElAt w (· < w.heap.size) l[i] bl (off + i * 5) Ab cb Ak ck ∧ ∀ w', Below w.heap.size w w' → Calls Try.prog 25 #[elV l[i] Ab cb Ak ck] w' fun en w2 => ∃ A' c', en = .returned (.slice A' l[i].enc.length c') ∧ Own w2 w'.heap.size (.slice A' l[i].enc.length c') l[i].enc ∧ Below w'.heap.size w' w2) :
    Calls Try.prog 25 #[.agg #[.int .i64 c, .bool true, .int .i64 n, .slice Ab B cb, .slice (some ⟨bl, off, none⟩) K ck]] w fun en w' =>
      ∃ A' c', en = .returned (.slice A' (tagB c true n ++ lenB ((l.flatMap El.enc).length : Int) ++ l.flatMap El.enc).length c') ∧ Own w' w.heap.size (.slice A' (tagB c true n ++ lenB ((l.flatMap El.enc).length : Int) ++ l.flatMap El.enc).length c') (tagB c true n ++ lenB ((l.flatMap El.enc).length : Int) ++ l.flatMap El.enc) ∧ Below w.heap.size w w' := by
  have htl := tagB_short c n true hr
  have hll := lenB_short ((l.flatMap El.enc).length : Int) (by omega)
  have CPUT := fun w => refPut_nil c n true w hr
  have CLEN : ∀ (w : World) (A : Option Addr) (cp : Nat), Src w w.heap.size A cp (tagB c true n) → Calls Try.prog 44 #[.slice A (tagB c true n).length cp, .int .i64 ((l.flatMap El.enc).length : Int)] w fun e w' => ∃ A' c', e = .returned (.slice A' (tagB c true n ++ lenB ((l.flatMap El.enc).length : Int)).length c') ∧ Own w' w.heap.size (.slice A' (tagB c true n ++ lenB ((l.flatMap El.enc).length : Int)).length c') (tagB c true n ++ lenB ((l.flatMap El.enc).length : Int)) ∧ Below w.heap.size w w' := fun w A cp hs => refPutLen_out A cp _ _ w hs (by omega) (by omega)
  obtain ⟨tg, htg⟩ : ∃ tg, tg = tagB c true n := ⟨_, rfl⟩
  obtain ⟨ln, hln⟩ : ∃ ln, ln = lenB ((l.flatMap El.enc).length : Int) := ⟨_, rfl⟩
  simp only [← htg, ← hln] at CPUT CLEN htl hll ⊢
  obtain ⟨T, hT⟩ : ∃ T, T = tg.length := ⟨_, rfl⟩
  obtain ⟨U, hU⟩ : ∃ U, U = (tg ++ ln).length := ⟨_, rfl⟩
  obtain ⟨X, hX⟩ : ∃ X, X = l.flatMap El.enc := ⟨_, rfl⟩
  have hUl : U ≤ 10 := by rw [hU, List.length_append]; omega
  simp only [← hT, ← hU, ← hX] at CPUT CLEN ⊢
  rw [← hX] at hb
  obtain ⟨Y, hY⟩ : ∃ Y, Y = X.length := ⟨_, rfl⟩
  simp only [← hY] at CLEN
  rw [← hY] at hb
  replace CPUT := Lib.hid CPUT
  replace CLEN := Lib.hid CLEN
  replace hY := Lib.hid hY
  replace hX := Lib.hid hX
  replace hU := Lib.hid hU
  replace ih := Lib.hid ih
  replace hK := Lib.hid hK
  clear htg hln hT htl hll
  have hb0 := Lib.hid (Below.refl (w.heap.size + 1) (w.alloc (.cells #[.int .i64 c, .bool true, .int .i64 n, .slice Ab B cb, .slice (some ⟨bl, off, none⟩) K ck] 30)))
  go_enter Try.func25, Try.ntmps25
  go_wp2_with fail
  go_loopw [3, 4] (fun v i wr => ∃ (k : Nat) (A : Option Addr) (d y : Nat), k ≤ K ∧ i = .int .i64 (k : Int) ∧ v = .slice A y d ∧ Hid (y = ((l.take k).flatMap El.enc).length) ∧ Hid (Own wr (w.heap.size + 1) (.slice A y d) ((l.take k).flatMap El.enc)) ∧ Hid (Below (w.heap.size + 1) (w.alloc (.cells #[.int .i64 c, .bool true, .int .i64 n, .slice Ab B cb, .slice (some ⟨bl, off, none⟩) K ck] 30)) wr)) (fun _ i _ => K - (intOf i).toNat)
  case atStart => exact ⟨0, none, 0, 0, Nat.zero_le _, rfl, rfl, Lib.hid rfl, Lib.hid (World.ownsRow_nil _ _ 5 1), hb0⟩
  case round =>
    obtain ⟨k, A, d, y, hk, rfl, rfl, Hy, HO, HB⟩ := hrel
    clear hb0
    obtain ⟨g0, g1, g2, _, g4⟩ := box5 HB.out
    have HW := Lib.hid (boxB HB.out)
    have HZ : w.heap.size + 1 ≤ wr.heap.size := Nat.le_trans (by simp) HB.out.size
    by_cases hlt : k < K
    · obtain ⟨Ab2, cb2, Ak2, ck2, hat, hc⟩ := ih.out k (by rw [hK.out]; exact hlt)
      have keep : ∀ p : Addr, p.block < w.heap.size → wr.cell? p = w.cell? p := fun p hp => HW.out.cell hp
      have c0 := (keep ⟨bl, off + k * 5, none⟩ hbl).trans hat.c
      have c1 := (keep ⟨bl, off + k * 5 + 1, none⟩ hbl).trans hat.m
      have c2 := (keep ⟨bl, off + k * 5 + 2, none⟩ hbl).trans hat.n
      have c3 := (keep ⟨bl, off + k * 5 + 3, none⟩ hbl).trans hat.b
      have c4 := (keep ⟨bl, off + k * 5 + 4, none⟩ hbl).trans hat.k
      replace hc := hc wr HW.out
      have hsn := Lib.hid (flat_take El.enc l k (by rw [hK.out]; exact hlt))
      have hle := flat_le El.enc l (k + 1)
      rw [hsn.out, List.length_append, ← Hy.out, ← hX.out, ← hY.out] at hle
      obtain ⟨r, hrr⟩ : ∃ r, l[k]'(by rw [hK.out]; exact hlt) = r := ⟨_, rfl⟩
      rw [hrr] at hc c0 c1 c2 c3 c4 hsn hle
      clear keep hat hrr
      obtain ⟨E, hE⟩ : ∃ E, E = r.enc := ⟨_, rfl⟩
      rw [← hE] at hc hsn hle
      clear hE
      obtain ⟨z, hz⟩ : ∃ z, z = E.length := ⟨_, rfl⟩
      rw [← hz] at hc hle
      replace hz := Lib.hid hz
      replace hc := Lib.hid hc
      unfold elV at hc
      clear g0 g1 g2
      obtain ⟨P, hP⟩ : ∃ P, P = (l.take k).flatMap El.enc := ⟨_, rfl⟩
      rw [← hP] at Hy HO hsn
      clear hP
      go_wp2_with fail
      refine hc.out.mono ?_
      rintro en w3 ⟨A3, c3', rfl, ho3, hb3⟩
      have HB3 := Lib.hid (HB.out.trans (hb3.mono HZ))
      have HO3 := Lib.hid (HO.out.below hb3 (Nat.le_refl _))
      have HS3 := Lib.hid ho3.src
      have HZ3 : w.heap.size + 1 ≤ w3.heap.size := Nat.le_trans HZ hb3.size
      clear hb3 hc ho3 c0 c1 c2 c3 c4 g4
      go_wp2_with (at_builtin; refine append_srcF rfl (.tmp 16) (.tmp 22) rfl (w.heap.size + 1) (.slice A y d) P rfl HO3.out w3.heap.size A3 c3' E z hz.out.symm rfl HS3.out (by have h1 := Hy.out; have h2 := hz.out; omega) HZ3 ?_; intro A6 c6 w6 ho6 hb6 _; have HO6 := Lib.hid ho6; have HB6 := Lib.hid (HB3.out.trans hb6); clear ho6 hb6)
      have HY6 : Hid (y + z = ((l.take (k + 1)).flatMap El.enc).length) := by
        refine Lib.hid ?_
        rw [hsn.out, List.length_append, ← Hy.out, ← hz.out]
      have HO7 : Hid (Own w6 (w.heap.size + 1) (.slice A6 (y + z) c6) ((l.take (k + 1)).flatMap El.enc)) := by
        refine Lib.hid ?_
        have h := HO6.out
        rw [← Hy.out, ← hsn.out] at h
        exact h
      go_roundw
      case rel => exact ⟨k + 1, A6, c6, y + z, by omega, by go_num, by rw [Hy.out], HY6, HO7, HB6⟩
      case measure => simp [intOf]; omega
    · have hkk : k = K := by omega
      subst hkk
      have hfull : (l.take k).flatMap El.enc = X := by rw [hX.out, List.take_of_length_le (by rw [hK.out]; exact Nat.le_refl _)]
      rw [hfull] at HO Hy
      obtain rfl : y = Y := by rw [Hy.out, hY.out]
      clear Hy hfull
      go_wp2_with fail
      refine (CPUT.out _).mono ?_
      rintro en w4 ⟨A4, c4, rfl, ho4, hb4⟩
      have HB4 := Lib.hid (HB.out.trans (hb4.mono HZ))
      have HS4 := Lib.hid ho4.src
      have HX4 := Lib.hid (HO.out.below hb4 (Nat.le_refl _))
      clear ho4 hb4 g0 g1 g2 g4
      go_wp2_with fail
      refine (CLEN.out _ _ _ HS4.out).mono ?_
      rintro en w5 ⟨A5, c5, rfl, ho5, hb5⟩
      have HO5 := Lib.hid (ho5.base_le (Nat.le_trans (show w.heap.size + 1 ≤ _ by simp) HB4.out.size))
      have HB5 := Lib.hid (HB4.out.trans (hb5.mono (Nat.le_trans (by simp) HB4.out.size)))
      have HX5 := Lib.hid ((HX4.out.below hb5 (Nat.le_refl _)).src)
      clear ho5 hb5 HS4
      have HZ5 : w.heap.size + 1 ≤ w5.heap.size := Nat.le_trans (by simp) HB5.out.size
      go_wp2_with (at_builtin; refine append_srcF rfl (.tmp 33) (.tmp 34) rfl (w.heap.size + 1) (.slice A5 U c5) (tg ++ ln) rfl HO5.out w5.heap.size A d X y hY.out.symm rfl HX5.out (by have h1 := hU.out; have h2 := hY.out; omega) HZ5 ?_; intro A6 c6 w6 ho6 hb6 _; have HO6 := Lib.hid ho6; have HB6 := Lib.hid (boxB (HB5.out.trans hb6)); clear ho6 hb6)
      have HL : (tg ++ ln ++ X).length = tg.length + ln.length + y := by rw [List.length_append, List.length_append, ← hY.out]
      have HO7 : Own w6 w.heap.size (.slice A6 (tg ++ ln ++ X).length c6) (tg ++ ln ++ X) := by
        have h := HO6.out.base_le (base' := w.heap.size) (by omega)
        rw [show (tg ++ ln).length + y = (tg ++ ln ++ X).length from by rw [HL, List.length_append]] at h
        exact h
      have HL2 := Lib.hid HL
      replace HO7 := Lib.hid HO7
      clear HL
      go_ret
      exact ⟨A6, c6, by rw [HL2.out]; rfl, HO7.out, HB6.out⟩

set_option maxRecDepth 8000 in
set_option maxHeartbeats 800000 in
theorem refBytes_none (c n : Int) (B : Nat) (Ab Ak : Option Addr) (cb ck : Nat) (w : World) (hr : RightT c n) :
    Calls Try.prog 25 #[.agg #[.int .i64 c, .bool true, .int .i64 n, .slice Ab B cb, .slice Ak 0 ck]] w fun en w' =>
      ∃ A' c', en = .returned (.slice A' (tagB c true n ++ lenB 0 ++ []).length c') ∧ Own w' w.heap.size (.slice A' (tagB c true n ++ lenB 0 ++ []).length c') (tagB c true n ++ lenB 0 ++ []) ∧ Below w.heap.size w w' := by
  have htl := tagB_short c n true hr
  have hll := lenB_short 0 (by omega)
  have CPUT := fun w => refPut_nil c n true w hr
  have CLEN : ∀ (w : World) (A : Option Addr) (cp : Nat), Src w w.heap.size A cp (tagB c true n) → Calls Try.prog 44 #[.slice A (tagB c true n).length cp, .int .i64 0] w fun e w' => ∃ A' c', e = .returned (.slice A' (tagB c true n ++ lenB 0).length c') ∧ Own w' w.heap.size (.slice A' (tagB c true n ++ lenB 0).length c') (tagB c true n ++ lenB 0) ∧ Below w.heap.size w w' := fun w A cp hs => refPutLen_out A cp _ _ w hs (by omega) (by omega)
  obtain ⟨tg, htg⟩ : ∃ tg, tg = tagB c true n := ⟨_, rfl⟩
  obtain ⟨ln, hln⟩ : ∃ ln, ln = lenB 0 := ⟨_, rfl⟩
  simp only [← htg, ← hln] at CPUT CLEN htl hll ⊢
  obtain ⟨T, hT⟩ : ∃ T, T = tg.length := ⟨_, rfl⟩
  obtain ⟨U, hU⟩ : ∃ U, U = (tg ++ ln).length := ⟨_, rfl⟩
  have hUl : U ≤ 10 := by rw [hU, List.length_append]; omega
  simp only [← hT, ← hU] at CPUT CLEN ⊢
  replace CPUT := Lib.hid CPUT
  replace CLEN := Lib.hid CLEN
  replace hU := Lib.hid hU
  clear htg hln hT htl hll
  have hb0 := Lib.hid (Below.refl (w.heap.size + 1) (w.alloc (.cells #[.int .i64 c, .bool true, .int .i64 n, .slice Ab B cb, .slice Ak 0 ck] 30)))
  go_enter Try.func25, Try.ntmps25
  go_wp2_with fail
  go_loop [3, 4] (fun v i => v = .slice none 0 0 ∧ i = .int .i64 0) (fun _ _ => 0)
  case atStart => exact ⟨rfl, rfl⟩
  case round =>
    obtain ⟨rfl, rfl⟩ := hrel
    go_wp2_with fail
    refine (CPUT.out _).mono ?_
    rintro en w4 ⟨A4, c4, rfl, ho4, hb4⟩
    have HB4 := Lib.hid (hb0.out.trans (hb4.mono (by simp)))
    have HS4 := Lib.hid ho4.src
    clear ho4 hb4 hb0
    go_wp2_with fail
    refine (CLEN.out _ _ _ HS4.out).mono ?_
    rintro en w5 ⟨A5, c5, rfl, ho5, hb5⟩
    have HO5 := Lib.hid (ho5.base_le (Nat.le_trans (show w.heap.size + 1 ≤ _ by simp) HB4.out.size))
    have HB5 := Lib.hid (HB4.out.trans (hb5.mono (Nat.le_trans (by simp) HB4.out.size)))
    clear ho5 hb5 HS4
    have HZ : w.heap.size + 1 ≤ w5.heap.size := Nat.le_trans (by simp) HB5.out.size
    go_wp2_with (at_builtin; refine append_srcF rfl (.tmp 33) (.tmp 34) rfl (w.heap.size + 1) (.slice A5 U c5) (tg ++ ln) rfl HO5.out w.heap.size none 0 [] 0 rfl rfl (Src.none_ _ _) (by have h1 := hU.out; simp only [List.length_nil]; omega) HZ ?_; intro A6 c6 w6 ho6 hb6 _; have HO6 := Lib.hid ho6; have HB6 := Lib.hid (boxB (HB5.out.trans hb6)); clear ho6 hb6)
    have HL : (tg ++ ln ++ []).length = tg.length + ln.length + 0 := by rw [List.length_append, List.length_append]; rfl
    have HO7 : Own w6 w.heap.size (.slice A6 (tg ++ ln ++ []).length c6) (tg ++ ln ++ []) := by
      have h := HO6.out.base_le (base' := w.heap.size) (by omega)
      rw [show (tg ++ ln).length + 0 = (tg ++ ln ++ []).length from by rw [HL, List.length_append]] at h
      exact h
    have HL2 := Lib.hid HL
    replace HO7 := Lib.hid HO7
    clear HL
    go_ret
    exact ⟨A6, c6, by rw [HL2.out]; rfl, HO7.out, HB6.out⟩

/-- The document's Bytes of any element that is well formed. -/
theorem refBytes_el (e : El) : ∀ (w : World) (Ab : Option Addr) (cb : Nat) (Ak : Option Addr) (ck : Nat), ElIn w (· < w.heap.size) e Ab cb Ak ck → e.right = true → e.enc.length ≤ 1000000 →
    Calls Try.prog 25 #[elV e Ab cb Ak ck] w fun en w' => ∃ A' c', en = .returned (.slice A' e.enc.length c') ∧ Own w' w.heap.size (.slice A' e.enc.length c') e.enc ∧ Below w.heap.size w w' := by
  induction e using El.ind with
  | h e ih =>
  intro w Ab cb Ak ck hin hr hle
  rw [El.right_kids e, Bool.and_eq_true] at hr
  obtain ⟨h1, h2⟩ := hr
  obtain ⟨h3, h4, h5⟩ := (one_right e).1 h1
  have hen : e.enc = tagB e.c e.m e.n ++ lenB (e.inner.length : Int) ++ e.inner := rfl
  have hil : e.inner.length ≤ 1000000 := by rw [hen, List.length_append] at hle; omega
  cases hm : e.m
  · have hi : e.inner = e.b := by rw [El.inner, if_neg (by rw [hm]; decide)]
    rw [hi] at hil
    have := refBytes_leaf e.c e.n e.b e.kids.length Ab Ak cb ck w h3 hin.b hil
    rw [hen, hi, hm]
    unfold elV
    rw [hm]
    exact this
  · have hi := e.inner_made hm
    by_cases hk : e.kids.length = 0
    · have hl : e.kids = [] := List.eq_nil_of_length_eq_zero hk
      have := refBytes_none e.c e.n e.b.length Ab Ak cb ck w h3
      rw [hl] at hi
      rw [hen, hi, hm]
      unfold elV
      rw [hm, hl]
      exact this
    · obtain ⟨bl, off, rfl, hbl, hkid⟩ := hin.kid (by omega)
      rw [hi] at hil
      have := refBytes_made e.c e.n e.kids e.kids.length e.b.length bl off Ab cb ck w h3 rfl hin.k.le hin.k.big hbl hil (fun i hi => by
        obtain ⟨Ab2, cb2, Ak2, ck2, g1, g2⟩ := hkid i hi
        refine ⟨Ab2, cb2, Ak2, ck2, g1, fun w' hb => ih _ (List.getElem_mem hi) w' Ab2 cb2 Ak2 ck2 ((g2.below hb).more fun i hi => Nat.lt_of_lt_of_le hi hb.size) (List.all_eq_true.1 h2 _ (List.getElem_mem hi)) (Nat.le_trans (e.enc_kid hm i hi) hle)⟩)
      rw [hen, hi, hm]
      unfold elV
      rw [hm]
      exact this
end Go.Proofs.Ytgdoepkoakpnbaa
