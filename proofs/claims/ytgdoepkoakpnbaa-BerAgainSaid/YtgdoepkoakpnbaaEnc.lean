/-
  The program's encode.
-/
import Derived.Test.YtgdoepkoakpnbaaDec1
import Derived.Test.YtgdoepkoakpnbaaNil
import Derived.Test.YtgdoepkoakpnbaaEltPut
import Derived.WalkLawsBesides
namespace Go.Proofs.Ytgdoepkoakpnbaa
open Go.RowKit

set_option maxHeartbeats 400000 in
theorem join_big (A B : Option Addr) (n c k d : Nat) (w : World) (h : 16384 < n + k) (hn : n ≤ 2000000) :
    Calls Try.prog 42 #[.slice B n d, .slice A k c] w fun en w' => en = errP 3 ∧ w = w' := by
  have h1 : decide (16384 - (n : Int) < (k : Int)) = true := decide_eq_true (by omega)
  go_enter Try.func42, Try.ntmps42
  go_wp2_with fail
  exact ⟨rfl, rfl, rfl⟩
set_option maxHeartbeats 400000 in
theorem join_ok (A B : Option Addr) (n c k d base K : Nat) (l m : List Nat) (w : World) (ho : Own w base (.slice B n d) l) (hl : l.length = n) (hs : Src w K A c m) (hm : m.length = k) (hb : base ≤ w.heap.size) (h : n + k ≤ 16384) :
    Calls Try.prog 42 #[.slice B n d, .slice A k c] w fun en w' => ∃ A' c', en = .returned (.slice A' (n + k) c') ∧ Own w' base (.slice A' (n + k) c') (l ++ m) ∧ Below base w w' := by
  have h1 : decide (16384 - (n : Int) < (k : Int)) = false := decide_eq_false (by omega)
  replace hl := Lib.hid hl
  replace hm := Lib.hid hm
  replace ho := Lib.hid ho
  replace hs := Lib.hid hs
  go_enter Try.func42, Try.ntmps42
  go_wp2_with (at_builtin; refine append_srcF rfl (.tmp 12) (.tmp 13) rfl base (.slice B n d) l rfl ho.out K A c m k hm.out rfl hs.out (by have := hl.out; have := hm.out; omega) hb ?_; intro A6 c6 w6 ho6 hb6 _; have HO6 := Lib.hid ho6; have HB6 := Lib.hid hb6; clear ho6 hb6)
  have HO7 : Own w6 base (.slice A6 (n + k) c6) (l ++ m) := by
    have h := HO6.out
    rw [hl.out] at h
    exact h
  replace HO7 := Lib.hid HO7
  go_ret
  exact ⟨A6, c6, by rw [hl.out]; rfl, HO7.out, HB6.out⟩

/-- What encode answers. -/
def EncPost (e : El) (w : World) (en : Ending) (w' : World) : Prop :=
  (e.enc.length ≤ 16384 → ∃ A c, en = .returned (.slice A e.enc.length c) ∧ Own w' w.heap.size (.slice A e.enc.length c) e.enc) ∧ (16384 < e.enc.length → en = errP 3) ∧ Below w.heap.size w w'

set_option maxRecDepth 8000 in
set_option maxHeartbeats 800000 in
theorem enc_leaf (e : El) (c n : Int) (b : List Nat) (K B : Nat) (Ab Ak : Option Addr) (cb ck : Nat) (w : World) (hr : RightT c n) (hs : SrcI w (· < w.heap.size) Ab cb b) (hb : b.length ≤ 1000000) (hB : b.length = B) (hK : K = 0)
    (henc : e.enc = tagB c false n ++ lenB (b.length : Int) ++ b) :
    Calls Try.prog 23 #[.agg #[.int .i64 c, .bool false, .int .i64 n, .slice Ab B cb, .slice Ak K ck]] w (EncPost e w) := by
  subst hK
  rw [hB] at hb henc
  have htl := tagB_short c n false hr
  have hll := lenB_short (B : Int) (by omega)
  have CPUT := fun w => put_nil c n false w hr
  have CLEN : ∀ (w : World) (A : Option Addr) (cp : Nat), Src w w.heap.size A cp (tagB c false n) → Calls Try.prog 19 #[.slice A (tagB c false n).length cp, .int .i64 (B : Int)] w fun e w' => ∃ A' c', e = .returned (.slice A' (tagB c false n ++ lenB (B : Int)).length c') ∧ Own w' w.heap.size (.slice A' (tagB c false n ++ lenB (B : Int)).length c') (tagB c false n ++ lenB (B : Int)) ∧ Below w.heap.size w w' := fun w A cp hs => putLen_out A cp _ _ w hs (by omega) (by omega)
  obtain ⟨tg, htg⟩ : ∃ tg, tg = tagB c false n := ⟨_, rfl⟩
  obtain ⟨ln, hln⟩ : ∃ ln, ln = lenB (B : Int) := ⟨_, rfl⟩
  simp only [← htg, ← hln] at CPUT CLEN htl hll henc
  obtain ⟨T, hT⟩ : ∃ T, T = tg.length := ⟨_, rfl⟩
  obtain ⟨U, hU⟩ : ∃ U, U = (tg ++ ln).length := ⟨_, rfl⟩
  have hUl : U ≤ 10 := by rw [hU, List.length_append]; omega
  simp only [← hT, ← hU] at CPUT CLEN
  replace CPUT := Lib.hid CPUT
  replace CLEN := Lib.hid CLEN
  replace hs := Lib.hid hs
  have hYL := hB
  replace hU := Lib.hid hU
  replace henc := Lib.hid henc
  replace hYL := Lib.hid hYL
  clear htg hln hT htl hll hB
  have hb0 := Lib.hid (Below.refl (w.heap.size + 1) (w.alloc (.cells #[.int .i64 c, .bool false, .int .i64 n, .slice Ab B cb, .slice Ak 0 ck] 27)))
  go_enter Try.func23, Try.ntmps23
  go_wp2_with fail
  go_loopw [3, 14] (fun v i wr => v = .slice Ab B cb ∧ i = .int .i64 0 ∧ Hid (Below (w.heap.size + 1) (w.alloc (.cells #[.int .i64 c, .bool false, .int .i64 n, .slice Ab B cb, .slice Ak 0 ck] 27)) wr)) (fun _ _ _ => 0)
  case atStart => exact ⟨by simp, by simp, hb0⟩
  case round =>
    obtain ⟨rfl, rfl, HB⟩ := hrel
    clear hb0
    obtain ⟨g0, g1, g2, _, g4⟩ := box5 HB.out
    have HZ : w.heap.size + 1 ≤ wr.heap.size := Nat.le_trans (by simp) HB.out.size
    go_wp2_with fail
    refine (CPUT.out _).mono ?_
    rintro en w4 ⟨A4, c4, rfl, ho4, hb4⟩
    have HB4 := Lib.hid (HB.out.trans (hb4.mono HZ))
    have HS4 := Lib.hid ho4.src
    clear g0 g1 g2 g4
    clear ho4 hb4
    go_wp2_with fail
    refine (CLEN.out _ _ _ HS4.out).mono ?_
    rintro en w5 ⟨A5, c5, rfl, ho5, hb5⟩
    have HO5 := Lib.hid (ho5.base_le (Nat.le_trans (show w.heap.size + 1 ≤ _ by simp) HB4.out.size))
    have HB5 := Lib.hid (HB4.out.trans (hb5.mono (Nat.le_trans (by simp) HB4.out.size)))
    have HX5 := Lib.hid ((hs.out.src).below (boxB HB5.out))
    clear ho5 hb5 HS4
    have HZ5 : w.heap.size + 1 ≤ w5.heap.size := Nat.le_trans (by simp) HB5.out.size
    by_cases hbig : U + B ≤ 16384
    · go_wp2_with fail
      refine (join_ok Ab A5 U cb B c5 (w.heap.size + 1) w.heap.size (tg ++ ln) b w5 HO5.out hU.out.symm HX5.out hYL.out HZ5 hbig).mono ?_
      rintro en w6 ⟨A6, c6, rfl, ho6, hb6⟩
      have HO6 := Lib.hid ho6
      have HB6 := Lib.hid (boxB (HB5.out.trans hb6))
      clear ho6 hb6
      go_wp2_with fail
      go_ret
      have hel : e.enc.length = U + B := by rw [henc.out, List.length_append, ← hU.out, hYL.out]
      refine ⟨fun _ => ⟨A6, c6, by rw [hel]; rfl, ?_⟩, fun h => by omega, HB6.out⟩
      have h := HO6.out.base_le (base' := w.heap.size) (by omega)
      rw [hel, henc.out]
      exact h
    · go_wp2_with fail
      refine (join_big Ab A5 U cb B c5 w5 (by omega) (by omega)).mono ?_
      rintro en w6 ⟨rfl, rfl⟩
      have HB6 := Lib.hid (boxB HB5.out)
      have hel : e.enc.length = U + B := by rw [henc.out, List.length_append, ← hU.out, hYL.out]
      exact ⟨rfl, ⟨fun h => by omega, fun _ => rfl, HB6.out⟩⟩

set_option maxRecDepth 8000 in
set_option maxHeartbeats 800000 in
theorem enc_none (e : El) (c n : Int) (B : Nat) (Ab Ak : Option Addr) (cb ck : Nat) (w : World) (hr : RightT c n)
    (henc : e.enc = tagB c true n ++ lenB (0 : Int) ++ []) :
    Calls Try.prog 23 #[.agg #[.int .i64 c, .bool true, .int .i64 n, .slice Ab B cb, .slice Ak 0 ck]] w (EncPost e w) := by
  have htl := tagB_short c n true hr
  have hll := lenB_short (0 : Int) (by omega)
  have CPUT := fun w => put_nil c n true w hr
  have CLEN : ∀ (w : World) (A : Option Addr) (cp : Nat), Src w w.heap.size A cp (tagB c true n) → Calls Try.prog 19 #[.slice A (tagB c true n).length cp, .int .i64 (0 : Int)] w fun e w' => ∃ A' c', e = .returned (.slice A' (tagB c true n ++ lenB (0 : Int)).length c') ∧ Own w' w.heap.size (.slice A' (tagB c true n ++ lenB (0 : Int)).length c') (tagB c true n ++ lenB (0 : Int)) ∧ Below w.heap.size w w' := fun w A cp hs => putLen_out A cp _ _ w hs (by omega) (by omega)
  obtain ⟨tg, htg⟩ : ∃ tg, tg = tagB c true n := ⟨_, rfl⟩
  obtain ⟨ln, hln⟩ : ∃ ln, ln = lenB (0 : Int) := ⟨_, rfl⟩
  simp only [← htg, ← hln] at CPUT CLEN htl hll henc
  obtain ⟨T, hT⟩ : ∃ T, T = tg.length := ⟨_, rfl⟩
  obtain ⟨U, hU⟩ : ∃ U, U = (tg ++ ln).length := ⟨_, rfl⟩
  have hUl : U ≤ 10 := by rw [hU, List.length_append]; omega
  simp only [← hT, ← hU] at CPUT CLEN
  replace CPUT := Lib.hid CPUT
  replace CLEN := Lib.hid CLEN
  have hYL : ([] : List Nat).length = 0 := rfl
  replace hU := Lib.hid hU
  replace henc := Lib.hid henc
  replace hYL := Lib.hid hYL
  clear htg hln hT htl hll
  have hb0 := Lib.hid (Below.refl (w.heap.size + 1) (w.alloc (.cells #[.int .i64 c, .bool true, .int .i64 n, .slice Ab B cb, .slice Ak 0 ck] 27)))
  go_enter Try.func23, Try.ntmps23
  go_wp2_with fail
  go_loopw [3, 14] (fun v i wr => v = .slice none 0 0 ∧ i = .int .i64 0 ∧ Hid (Below (w.heap.size + 1) (w.alloc (.cells #[.int .i64 c, .bool true, .int .i64 n, .slice Ab B cb, .slice Ak 0 ck] 27)) wr)) (fun _ _ _ => 0)
  case atStart => exact ⟨by simp, by simp, hb0⟩
  case round =>
    obtain ⟨rfl, rfl, HB⟩ := hrel
    clear hb0
    obtain ⟨g0, g1, g2, _, g4⟩ := box5 HB.out
    have HZ : w.heap.size + 1 ≤ wr.heap.size := Nat.le_trans (by simp) HB.out.size
    go_wp2_with fail
    refine (CPUT.out _).mono ?_
    rintro en w4 ⟨A4, c4, rfl, ho4, hb4⟩
    have HB4 := Lib.hid (HB.out.trans (hb4.mono HZ))
    have HS4 := Lib.hid ho4.src
    clear g0 g1 g2 g4
    clear ho4 hb4
    go_wp2_with fail
    refine (CLEN.out _ _ _ HS4.out).mono ?_
    rintro en w5 ⟨A5, c5, rfl, ho5, hb5⟩
    have HO5 := Lib.hid (ho5.base_le (Nat.le_trans (show w.heap.size + 1 ≤ _ by simp) HB4.out.size))
    have HB5 := Lib.hid (HB4.out.trans (hb5.mono (Nat.le_trans (by simp) HB4.out.size)))
    have HX5 := Lib.hid (Src.none_ w5 0)
    clear ho5 hb5 HS4
    have HZ5 : w.heap.size + 1 ≤ w5.heap.size := Nat.le_trans (by simp) HB5.out.size
    by_cases hbig : U + 0 ≤ 16384
    · go_wp2_with fail
      refine (join_ok none A5 U 0 0 c5 (w.heap.size + 1) 0 (tg ++ ln) [] w5 HO5.out hU.out.symm HX5.out hYL.out HZ5 hbig).mono ?_
      rintro en w6 ⟨A6, c6, rfl, ho6, hb6⟩
      have HO6 := Lib.hid ho6
      have HB6 := Lib.hid (boxB (HB5.out.trans hb6))
      clear ho6 hb6
      go_wp2_with fail
      go_ret
      have hel : e.enc.length = U + 0 := by rw [henc.out, List.length_append, ← hU.out, hYL.out]
      refine ⟨fun _ => ⟨A6, c6, by rw [hel]; rfl, ?_⟩, fun h => by omega, HB6.out⟩
      have h := HO6.out.base_le (base' := w.heap.size) (by omega)
      rw [hel, henc.out]
      exact h
    · go_wp2_with fail
      refine (join_big none A5 U 0 0 c5 w5 (by omega) (by omega)).mono ?_
      rintro en w6 ⟨rfl, rfl⟩
      have HB6 := Lib.hid (boxB HB5.out)
      have hel : e.enc.length = U + 0 := by rw [henc.out, List.length_append, ← hU.out, hYL.out]
      exact ⟨rfl, ⟨fun h => by omega, fun _ => rfl, HB6.out⟩⟩

set_option maxRecDepth 8000 in
set_option maxHeartbeats 1600000 in
theorem enc_made (e : El) (c n : Int) (l : List El) (K B : Nat) (bl off : Nat) (Ab : Option Addr) (cb ck : Nat) (w : World) (hr : RightT c n) (hK : l.length = K) (hKc : K ≤ ck) (hck : ck ≤ 9223372036854775807) (hbl : bl < w.heap.size)
    (henc : e.enc = tagB c true n ++ lenB ((l.flatMap El.enc).length : Int) ++ l.flatMap El.enc)
    (ih : ∀ (i : Nat) (hi : i < l.length), ∃ Ab cb Ak ck, ElAt w (· < w.heap.size) l[i] bl (off + i * 5) Ab cb Ak ck ∧ ∀ w', Below w.heap.size w w' → Calls Try.prog 23 #[elV l[i] Ab cb Ak ck] w' (EncPost l[i] w')) :
    Calls Try.prog 23 #[.agg #[.int .i64 c, .bool true, .int .i64 n, .slice Ab B cb, .slice (some ⟨bl, off, none⟩) K ck]] w (EncPost e w) := by
  have hpart : ∀ k, 16384 < ((l.take k).flatMap El.enc).length → 16384 < e.enc.length := fun k h => by
    have := flat_le El.enc l k
    rw [henc, List.length_append]
    omega
  replace hpart := Lib.hid hpart
  have CFULL : Hid ((l.flatMap El.enc).length ≤ 16384 → ∀ (w4 : World), True) := Lib.hid fun _ _ => trivial
  clear CFULL
  replace ih := Lib.hid ih
  replace hK := Lib.hid hK
  replace henc := Lib.hid henc
  have hb0 := Lib.hid (Below.refl (w.heap.size + 1) (w.alloc (.cells #[.int .i64 c, .bool true, .int .i64 n, .slice Ab B cb, .slice (some ⟨bl, off, none⟩) K ck] 27)))
  go_enter Try.func23, Try.ntmps23
  go_wp2_with fail
  go_loopw [3, 14] (fun v i wr => ∃ (k : Nat) (A : Option Addr) (d y : Nat), k ≤ K ∧ i = .int .i64 (k : Int) ∧ v = .slice A y d ∧ y ≤ 16384 ∧ Hid (y = ((l.take k).flatMap El.enc).length) ∧ Hid (Own wr (w.heap.size + 1) (.slice A y d) ((l.take k).flatMap El.enc)) ∧ Hid (Below (w.heap.size + 1) (w.alloc (.cells #[.int .i64 c, .bool true, .int .i64 n, .slice Ab B cb, .slice (some ⟨bl, off, none⟩) K ck] 27)) wr)) (fun _ i _ => K - (intOf i).toNat)
  case atStart => exact ⟨0, none, 0, 0, Nat.zero_le _, rfl, rfl, by omega, Lib.hid rfl, Lib.hid (World.ownsRow_nil _ _ 5 1), hb0⟩
  case round =>
    obtain ⟨k, A, d, y, hk, rfl, rfl, hyl, Hy, HO, HB⟩ := hrel
    clear hb0
    obtain ⟨g0, g1, g2, _, g4⟩ := box5 HB.out
    have HW := Lib.hid (boxB HB.out)
    have HZ : w.heap.size + 1 ≤ wr.heap.size := Nat.le_trans (by simp) HB.out.size
    by_cases hlt : k < K
    · obtain ⟨Ab2, cb2, Ak2, ck2, hat, hc⟩ := ih.out k (by rw [hK.out]; exact hlt)
      have keep : ∀ p : Addr, p.block < w.heap.size → wr.cell? p = w.cell? p := fun p hp => HW.out.cell hp
      have c0 := (keep ⟨bl, off + k * 5, none⟩ hbl).trans hat.c
      have c1 := (keep ⟨bl, off + k * 5 + 1, none⟩ hbl).trans hat.m
      have c2 := (keep ⟨bl, off + k * 5 + 2, none⟩ hbl).trans hat.n
      have c3 := (keep ⟨bl, off + k * 5 + 3, none⟩ hbl).trans hat.b
      have c4 := (keep ⟨bl, off + k * 5 + 4, none⟩ hbl).trans hat.k
      have hsn := Lib.hid (flat_take El.enc l k (by rw [hK.out]; exact hlt))
      obtain ⟨r, hrr⟩ : ∃ r, l[k]'(by rw [hK.out]; exact hlt) = r := ⟨_, rfl⟩
      rw [hrr] at hc c0 c1 c2 c3 c4 hsn
      clear keep hat hrr
      have hpk : 16384 < r.enc.length → 16384 < e.enc.length := fun h => hpart.out (k + 1) (by rw [hsn.out, List.length_append]; omega)
      have hpk2 : 16384 < y + r.enc.length → 16384 < e.enc.length := fun h => hpart.out (k + 1) (by rw [hsn.out, List.length_append, ← Hy.out]; exact h)
      unfold elV at hc
      clear g0 g1 g2
      obtain ⟨P, hP⟩ : ∃ P, P = (l.take k).flatMap El.enc := ⟨_, rfl⟩
      rw [← hP] at Hy HO hsn
      clear hP
      have hc2 : ∀ w', Below w.heap.size w w' → Calls Try.prog 23 #[.agg #[.int .i64 r.c, .bool r.m, .int .i64 r.n, .slice Ab2 r.b.length cb2, .slice Ak2 r.kids.length ck2]] w' (EncPost r w') := hc
      clear hc
      replace hc2 := Lib.hid hc2
      obtain ⟨z, hz⟩ : ∃ z, z = r.enc.length := ⟨_, rfl⟩
      rw [← hz] at hpk hpk2
      go_wp2_with fail
      refine (hc2.out _ (by first | exact HW.out.alloc HW.out.size _ | exact HW.out)).mono ?_
      rintro en w3 ⟨hok, hbad, hb3⟩
      have hb3' : Below wr.heap.size wr w3 := ((Below.refl _ wr).alloc (Nat.le_refl _) _).trans (hb3.mono (by simp))
      rw [← hz] at hok hbad
      by_cases hz1 : z ≤ 16384
      · obtain ⟨A3, c3', rfl, ho3⟩ := hok hz1
        have HB3 := Lib.hid (HB.out.trans (hb3'.mono HZ))
        have HO3 := Lib.hid (HO.out.below hb3' (Nat.le_refl _))
        have HS3 := Lib.hid ho3.src
        have HZ3 : w.heap.size + 1 ≤ w3.heap.size := Nat.le_trans HZ hb3'.size
        clear hb3 hb3' hc2 ho3 c0 c1 c2 c3 c4 g4 hok hbad
        replace hz := Lib.hid hz
        by_cases hsum : y + z ≤ 16384
        · go_wp2_with fail
          refine (join_ok A3 A y c3' z d (w.heap.size + 1) w3.heap.size P r.enc w3 HO3.out Hy.out.symm HS3.out hz.out.symm HZ3 hsum).mono ?_
          rintro en w6 ⟨A6, c6, rfl, ho6, hb6⟩
          have HO6 := Lib.hid ho6
          have HB6 := Lib.hid (HB3.out.trans hb6)
          clear ho6 hb6
          have HY6 : Hid (y + z = ((l.take (k + 1)).flatMap El.enc).length) := by
            refine Lib.hid ?_
            rw [hsn.out, List.length_append, ← Hy.out, ← hz.out]
          have HO7 : Hid (Own w6 (w.heap.size + 1) (.slice A6 (y + z) c6) ((l.take (k + 1)).flatMap El.enc)) := by
            refine Lib.hid ?_
            rw [hsn.out]
            exact HO6.out
          go_wp2_with fail
          go_roundw
          case rel => exact ⟨k + 1, A6, c6, y + z, by omega, by go_num, rfl, hsum, HY6, HO7, HB6⟩
          case measure => simp [intOf]; omega
        · have hE := hpk2 (by omega)
          go_wp2_with fail
          refine (join_big A3 A y c3' z d w3 (by omega) (by omega)).mono ?_
          rintro en w6 ⟨rfl, rfl⟩
          have HB6 := Lib.hid (boxB HB3.out)
          exact ⟨rfl, ⟨fun h => by omega, fun _ => rfl, HB6.out⟩⟩
      · obtain rfl := hbad (by omega)
        have hE := hpk (by omega)
        have HB6 := Lib.hid (boxB (HB.out.trans (hb3'.mono HZ)))
        exact ⟨rfl, ⟨fun h => by omega, fun _ => rfl, HB6.out⟩⟩
    · have hkk : k = K := by omega
      subst hkk
      obtain ⟨X, hX⟩ : ∃ X, X = l.flatMap El.enc := ⟨_, rfl⟩
      have hfull : (l.take k).flatMap El.enc = X := by rw [hX, List.take_of_length_le (by rw [hK.out]; exact Nat.le_refl _)]
      rw [hfull] at HO Hy
      replace henc := henc.out
      rw [← hX] at henc
      obtain rfl : y = X.length := Hy.out
      have hB : X.length = X.length := rfl
      clear Hy hfull hX hpart ih
      obtain ⟨Y, hY⟩ : ∃ Y, Y = X.length := ⟨_, rfl⟩
      rw [← hY] at henc HO hyl ⊢
      have htl := tagB_short c n true hr
      have hll := lenB_short (Y : Int) (by omega)
      have CPUT := fun w => put_nil c n true w hr
      have CLEN : ∀ (w : World) (A : Option Addr) (cp : Nat), Src w w.heap.size A cp (tagB c true n) → Calls Try.prog 19 #[.slice A (tagB c true n).length cp, .int .i64 (Y : Int)] w fun e w' => ∃ A' c', e = .returned (.slice A' (tagB c true n ++ lenB (Y : Int)).length c') ∧ Own w' w.heap.size (.slice A' (tagB c true n ++ lenB (Y : Int)).length c') (tagB c true n ++ lenB (Y : Int)) ∧ Below w.heap.size w w' := fun w A cp hs => putLen_out A cp _ _ w hs (by omega) (by omega)
      obtain ⟨tg, htg⟩ : ∃ tg, tg = tagB c true n := ⟨_, rfl⟩
      obtain ⟨ln, hln⟩ : ∃ ln, ln = lenB (Y : Int) := ⟨_, rfl⟩
      simp only [← htg, ← hln] at CPUT CLEN htl hll henc
      obtain ⟨T, hT⟩ : ∃ T, T = tg.length := ⟨_, rfl⟩
      obtain ⟨U, hU⟩ : ∃ U, U = (tg ++ ln).length := ⟨_, rfl⟩
      have hUl : U ≤ 10 := by rw [hU, List.length_append]; omega
      simp only [← hT, ← hU] at CPUT CLEN
      replace CPUT := Lib.hid CPUT
      replace CLEN := Lib.hid CLEN
      have hYL := hY.symm
      replace hU := Lib.hid hU
      replace henc := Lib.hid henc
      replace hYL := Lib.hid hYL
      clear htg hln hT htl hll hB hY
      go_wp2_with fail
      refine (CPUT.out _).mono ?_
      rintro en w4 ⟨A4, c4, rfl, ho4, hb4⟩
      have HB4 := Lib.hid (HB.out.trans (hb4.mono HZ))
      have HS4 := Lib.hid ho4.src
      have HX4 := Lib.hid (HO.out.below hb4 (Nat.le_refl _))
      clear g0 g1 g2 g4
      clear ho4 hb4
      go_wp2_with fail
      refine (CLEN.out _ _ _ HS4.out).mono ?_
      rintro en w5 ⟨A5, c5, rfl, ho5, hb5⟩
      have HO5 := Lib.hid (ho5.base_le (Nat.le_trans (show w.heap.size + 1 ≤ _ by simp) HB4.out.size))
      have HB5 := Lib.hid (HB4.out.trans (hb5.mono (Nat.le_trans (by simp) HB4.out.size)))
      have HX5 := Lib.hid ((HX4.out.below hb5 (Nat.le_refl _)).src)
      clear ho5 hb5 HS4
      have HZ5 : w.heap.size + 1 ≤ w5.heap.size := Nat.le_trans (by simp) HB5.out.size
      by_cases hbig : U + Y ≤ 16384
      · go_wp2_with fail
        refine (join_ok A A5 U d Y c5 (w.heap.size + 1) w5.heap.size (tg ++ ln) X w5 HO5.out hU.out.symm HX5.out hYL.out HZ5 hbig).mono ?_
        rintro en w6 ⟨A6, c6, rfl, ho6, hb6⟩
        have HO6 := Lib.hid ho6
        have HB6 := Lib.hid (boxB (HB5.out.trans hb6))
        clear ho6 hb6
        go_wp2_with fail
        go_ret
        have hel : e.enc.length = U + Y := by rw [henc.out, List.length_append, ← hU.out, hYL.out]
        refine ⟨fun _ => ⟨A6, c6, by rw [hel]; rfl, ?_⟩, fun h => by omega, HB6.out⟩
        have h := HO6.out.base_le (base' := w.heap.size) (by omega)
        rw [hel, henc.out]
        exact h
      · go_wp2_with fail
        refine (join_big A A5 U d Y c5 w5 (by omega) (by omega)).mono ?_
        rintro en w6 ⟨rfl, rfl⟩
        have HB6 := Lib.hid (boxB HB5.out)
        have hel : e.enc.length = U + Y := by rw [henc.out, List.length_append, ← hU.out, hYL.out]
        exact ⟨rfl, ⟨fun h => by omega, fun _ => rfl, HB6.out⟩⟩

/-- The program's encode of an element that is well formed. -/
theorem enc_el (e : El) : ∀ (w : World) (Ab : Option Addr) (cb : Nat) (Ak : Option Addr) (ck : Nat), ElIn w (· < w.heap.size) e Ab cb Ak ck → e.right = true → e.size ≤ 1000000 →
    Calls Try.prog 23 #[elV e Ab cb Ak ck] w (EncPost e w) := by
  induction e using El.ind with
  | h e ih =>
  intro w Ab cb Ak ck hin hr hsz
  have hr0 := hr
  rw [El.right_kids, Bool.and_eq_true, List.all_eq_true] at hr
  obtain ⟨h1, h2⟩ := hr
  obtain ⟨ht, h3, h4⟩ := (one_right e).1 h1
  unfold elV
  cases hm : e.m
  · refine enc_leaf e e.c e.n e.b e.kids.length e.b.length Ab Ak cb ck w ht hin.b ?_ rfl (h3 hm) ?_
    · unfold El.size at hsz
      omega
    · unfold El.enc El.inner
      rw [hm]
      rfl
  · have hi := El.inner_made e hm
    by_cases hk : e.kids.length = 0
    · have hl : e.kids = [] := List.eq_nil_of_length_eq_zero hk
      rw [hk]
      refine enc_none e e.c e.n e.b.length Ab Ak cb ck w ht ?_
      rw [show e.enc = tagB e.c e.m e.n ++ lenB (e.inner.length : Int) ++ e.inner from rfl, hi, hl, hm]
      rfl
    · obtain ⟨bl, off, rfl, hbl, hkid⟩ := hin.kid (by omega)
      refine enc_made e e.c e.n e.kids e.kids.length e.b.length bl off Ab cb ck w ht rfl hin.k.le hin.k.big hbl ?_ fun i hii => ?_
      · rw [show e.enc = tagB e.c e.m e.n ++ lenB (e.inner.length : Int) ++ e.inner from rfl, hi, hm]
      · obtain ⟨Ab2, cb2, Ak2, ck2, g1, g2⟩ := hkid i hii
        refine ⟨Ab2, cb2, Ak2, ck2, g1, fun w' hb => ih _ (List.getElem_mem hii) w' Ab2 cb2 Ak2 ck2 ((g2.below hb).more fun i hi => Nat.lt_of_lt_of_le hi hb.size) (h2 _ (List.getElem_mem hii)) ?_⟩
        have hs1 := sum_take e.kids i hii
        have hs2 := El.size_kids e
        omega
end Go.Proofs.Ytgdoepkoakpnbaa
