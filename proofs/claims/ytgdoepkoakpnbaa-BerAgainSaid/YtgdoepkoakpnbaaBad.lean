/-
  The program's malformed; a list that has a malformed element.
-/
import Derived.Test.YtgdoepkoakpnbaaEnter
import Derived.Test.YtgdoepkoakpnbaaNil
namespace Go.Proofs.Ytgdoepkoakpnbaa
open Go.RowKit

theorem right_is (c n : Int) (m : Bool) (w : World) : Calls Try.prog 55 #[.agg #[.int .i64 c, .bool m, .int .i64 n]] w fun e w' => e = .returned (.bool (rtB c n)) ∧ Below w.heap.size w w' := by
  by_cases h : RightT c n
  · rw [(rtB_iff c n).2 h]
    exact right_yes c n m w h.1 h.2.1 h.2.2.1 h.2.2.2
  · have : rtB c n = false := by
      rw [Bool.eq_false_iff]
      exact fun e => h ((rtB_iff c n).1 e)
    rw [this]
    exact right_no c n m w h
theorem bad_any (c n : Int) (m : Bool) (B K : Nat) (Ab Ak : Option Addr) (cb ck : Nat) (w : World) :
    Calls Try.prog 41 #[.agg #[.int .i64 c, .bool m, .int .i64 n, .slice Ab B cb, .slice Ak K ck]] w fun e w' => e = .returned (.bool ((if m then decide (0 < B) else decide (0 < K)) || !rtB c n)) ∧ Below w.heap.size w w' := by
  have CR := fun w => right_is c n m w
  replace CR := Lib.hid CR
  have hnot : ∀ (x : Bool) (w : World), (Op.unary .not (.bool x)).run Try.prog w = .ok (.bool (!x)) w := fun _ _ => rfl
  cases m
  · by_cases h : 0 < K
    · have hd : decide (0 < (K : Int)) = true := decide_eq_true (by omega)
      go_enter Try.func41, Try.ntmps41
      go_wp2_with fail
      go_ret
      exact ⟨by simp, by go_grown⟩
    · have hd : decide (0 < (K : Int)) = false := decide_eq_false (by omega)
      go_enter Try.func41, Try.ntmps41
      go_wp2_with fail
      refine (CR.out _).mono ?_
      rintro e w2 ⟨rfl, hb2⟩
      dsimp only []
      go_wp2_with fail
      go_ret
      exact ⟨by simp, ((Below.refl _ w).alloc (Nat.le_refl _) _).trans (hb2.mono (by simp))⟩
  · by_cases h : 0 < B
    · have hd : decide (0 < (B : Int)) = true := decide_eq_true (by omega)
      go_enter Try.func41, Try.ntmps41
      go_wp2_with fail
      go_ret
      exact ⟨by simp, by go_grown⟩
    · have hd : decide (0 < (B : Int)) = false := decide_eq_false (by omega)
      go_enter Try.func41, Try.ntmps41
      go_wp2_with fail
      refine (CR.out _).mono ?_
      rintro e w2 ⟨rfl, hb2⟩
      dsimp only []
      go_wp2_with fail
      go_ret
      exact ⟨by simp, ((Below.refl _ w).alloc (Nat.le_refl _) _).trans (hb2.mono (by simp))⟩
theorem bad_one (e : El) : ((if e.m then decide (0 < e.b.length) else decide (0 < e.kids.length)) || !rtB e.c e.n) = !e.one := by
  have h1 := one_right e
  have h2 := rtB_iff e.c e.n
  obtain ⟨B, hB⟩ : ∃ B, B = e.b.length := ⟨_, rfl⟩
  obtain ⟨K, hK⟩ : ∃ K, K = e.kids.length := ⟨_, rfl⟩
  rw [← hB, ← hK] at h1 ⊢
  rw [← h2] at h1
  clear hB hK h2
  cases hm : e.m <;> cases ho : e.one <;> cases hr : rtB e.c e.n <;> simp [hm, ho, hr] at h1 ⊢ <;> omega

set_option maxRecDepth 4000 in
set_option maxHeartbeats 800000 in
theorem index_any (l : List El) (K bl off ck : Nat) (I : Nat → Prop) (w : World) (hK : l.length = K) (hKc : K ≤ ck) (hck : ck ≤ 9223372036854775807) (hbl : bl < w.heap.size)
    (hat : ∀ (i : Nat) (hi : i < l.length), ∃ Ab cb Ak ck, ElAt w I l[i] bl (off + i * 5) Ab cb Ak ck) :
    Calls Try.prog 54 #[.slice (some ⟨bl, off, none⟩) K ck, .func (.func 41) #[] #[]] w fun e w' => ∃ r : Int, e = .returned (.int .i64 r) ∧ decide (0 ≤ r) = !(l.all El.one) ∧ Below w.heap.size w w' := by
  replace hat := Lib.hid hat
  replace hK := Lib.hid hK
  have hb0 := Lib.hid (Below.refl w.heap.size w)
  go_enter Try.func54, Try.ntmps54
  go_wp2_with fail
  go_loopw [8] (fun i wr => ∃ k : Nat, k ≤ K ∧ i = .int .i64 (k : Int) ∧ Hid ((l.take k).all El.one = true) ∧ Hid (Below w.heap.size w wr)) (fun i _ => K - (intOf i).toNat)
  case atStart => exact ⟨0, Nat.zero_le _, rfl, Lib.hid rfl, hb0⟩
  case round =>
    obtain ⟨k, hk, rfl, H, HB⟩ := hrel
    clear hb0
    by_cases hlt : k < K
    · obtain ⟨Ab2, cb2, Ak2, ck2, ha⟩ := hat.out k (by rw [hK.out]; exact hlt)
      have keep : ∀ p : Addr, p.block < w.heap.size → wr.cell? p = w.cell? p := fun p hp => HB.out.cell hp
      have c0 := (keep ⟨bl, off + k * 5, none⟩ hbl).trans ha.c
      have c1 := (keep ⟨bl, off + k * 5 + 1, none⟩ hbl).trans ha.m
      have c2 := (keep ⟨bl, off + k * 5 + 2, none⟩ hbl).trans ha.n
      have c3 := (keep ⟨bl, off + k * 5 + 3, none⟩ hbl).trans ha.b
      have c4 := (keep ⟨bl, off + k * 5 + 4, none⟩ hbl).trans ha.k
      have hta := Lib.hid (take_all El.one l k (by rw [hK.out]; exact hlt))
      have hno := Lib.hid (all_no El.one l k (by rw [hK.out]; exact hlt))
      obtain ⟨r, hrr⟩ : ∃ r, l[k]'(by rw [hK.out]; exact hlt) = r := ⟨_, rfl⟩
      rw [hrr] at c0 c1 c2 c3 c4 hta hno
      clear keep ha hrr
      have hc := fun w' => bad_any r.c r.n r.m r.b.length r.kids.length Ab2 Ak2 cb2 ck2 w'
      rw [bad_one] at hc
      obtain ⟨v, hv⟩ : ∃ v, r.one = v := ⟨_, rfl⟩
      rw [hv] at hc hta hno
      clear hv
      have i0 : (0 : Int) ≤ (k : Int) := by omega
      have i1 : (k : Int) < (K : Int) := by omega
      have hsz := HB.out.size
      replace hc := Lib.hid hc
      cases v
      · have hX := Lib.hid (hno.out rfl)
        go_wp2_with fail
        refine (hc.out _).mono ?_
        rintro en w3 ⟨rfl, hb3⟩
        have HB3 := Lib.hid (HB.out.trans (hb3.mono hsz))
        clear hb3 hc
        dsimp only []
        go_wp2_with fail
        go_ret
        exact ⟨(k : Int), rfl, by rw [hX.out]; simp, HB3.out⟩
      · have hX := Lib.hid (hta.out.trans (by rw [H.out, Bool.and_true]))
        go_wp2_with fail
        refine (hc.out _).mono ?_
        rintro en w3 ⟨rfl, hb3⟩
        have HB3 := Lib.hid (HB.out.trans (hb3.mono hsz))
        clear hb3 hc
        dsimp only []
        go_wp2_with fail
        go_roundw
        case rel => exact ⟨k + 1, by omega, by go_num, hX, HB3⟩
        case measure => simp [intOf]; omega
    · have hkk : k = K := by omega
      subst hkk
      have hX : Hid (l.all El.one = true) := by
        have := H.out
        rw [List.take_of_length_le (by rw [hK.out]; exact Nat.le_refl _)] at this
        exact Lib.hid this
      go_wp2_with fail
      go_ret
      exact ⟨-1, rfl, by rw [hX.out]; rfl, HB.out⟩
set_option maxHeartbeats 800000 in
theorem contains_any (l : List El) (K bl off ck : Nat) (I : Nat → Prop) (w : World) (hK : l.length = K) (hKc : K ≤ ck) (hck : ck ≤ 9223372036854775807) (hbl : bl < w.heap.size)
    (hat : ∀ (i : Nat) (hi : i < l.length), ∃ Ab cb Ak ck, ElAt w I l[i] bl (off + i * 5) Ab cb Ak ck) :
    Calls Try.prog 40 #[.slice (some ⟨bl, off, none⟩) K ck, .func (.func 41) #[] #[]] w fun e w' => e = .returned (.bool (!(l.all El.one))) ∧ Below w.heap.size w w' := by
  have C := Lib.hid (index_any l K bl off ck I w hK hKc hck hbl hat)
  clear hat
  replace hK := Lib.hid hK
  go_enter Try.func40, Try.ntmps40
  go_wp2_with fail
  refine C.out.mono ?_
  rintro en w3 ⟨r, rfl, hr, hb3⟩
  replace hr := Lib.hid hr
  replace hb3 := Lib.hid hb3
  dsimp only []
  go_wp2_with fail
  go_ret
  exact ⟨by rw [← hr.out]; rfl, hb3.out⟩
end Go.Proofs.Ytgdoepkoakpnbaa
