/-
  The document's Right of an element.
-/
import Derived.Test.YtgdoepkoakpnbaaElt
import Derived.Test.YtgdoepkoakpnbaaRefPut
namespace Go.Proofs.Ytgdoepkoakpnbaa
open Go.RowKit

theorem one_right (e : El) : e.one = true ↔ RightT e.c e.n ∧ (e.m = false → e.kids.length = 0) ∧ (e.m = true → e.b.length = 0) := by
  unfold El.one
  rcases e with ⟨c, m, n, b, k⟩
  rw [← rtB_iff]
  cases m <;> simp [El.kids]
theorem refRight_is (c n : Int) (w : World) : Calls Try.prog 29 #[.int .i64 c, .int .i64 n] w fun e w' => e = .returned (.bool (rtB c n)) ∧ w = w' := by
  by_cases h : RightT c n
  · rw [(rtB_iff c n).2 h]
    exact refRight_yes c n w h.1 h.2.1 h.2.2.1 h.2.2.2
  · have : rtB c n = false := by
      rw [Bool.eq_false_iff]
      exact fun e => h ((rtB_iff c n).1 e)
    rw [this]
    exact refRight_no c n w h
theorem box5 {w wi : World} {a b c d e : Value} {T : TypeId} (h : Below (w.heap.size + 1) (w.alloc (.cells #[a, b, c, d, e] T)) wi) :
    wi.cell? ⟨w.heap.size, 0, none⟩ = some a ∧ wi.cell? ⟨w.heap.size, 1, none⟩ = some b ∧ wi.cell? ⟨w.heap.size, 2, none⟩ = some c ∧ wi.cell? ⟨w.heap.size, 3, none⟩ = some d ∧ wi.cell? ⟨w.heap.size, 4, none⟩ = some e := by
  have f : ∀ i, wi.cell? ⟨w.heap.size, i, none⟩ = #[a, b, c, d, e][i]? := fun i => by rw [h.cell (by simp), World.cell?_alloc_new]
  exact ⟨by rw [f]; rfl, by rw [f]; rfl, by rw [f]; rfl, by rw [f]; rfl, by rw [f]; rfl⟩
theorem boxB {w W : World} {o : Obj} (h : Below (w.heap.size + 1) (w.alloc o) W) : Below w.heap.size w W := ((Below.refl w.heap.size w).alloc (Nat.le_refl _) o).trans (h.mono (by omega))

set_option maxRecDepth 8000 in
set_option maxHeartbeats 800000 in
theorem refRight_bad (c n : Int) (m r : Bool) (B K : Nat) (Ab Ak : Option Addr) (cb ck : Nat) (w : World) (hr : rtB c n = r) (h : r = true → (m = false → 0 < K) ∧ (m = true → 0 < B)) :
    Calls Try.prog 14 #[.agg #[.int .i64 c, .bool m, .int .i64 n, .slice Ab B cb, .slice Ak K ck]] w fun en w' => en = .returned (.bool false) ∧ Below w.heap.size w w' := by
  have CR := fun w => refRight_is c n w
  simp only [hr] at CR
  replace CR := Lib.hid CR
  clear hr
  cases r
  · clear h
    go_enter Try.func14, Try.ntmps14
    go_wp2_with fail
    refine (CR.out _).mono ?_
    rintro e w2 ⟨rfl, rfl⟩
    go_wp2_with fail
    go_ret
    exact ⟨rfl, (Below.refl _ _).alloc (Nat.le_refl _) _⟩
  · obtain ⟨h1, h2⟩ := h rfl
    cases m
    · have h3 := h1 rfl
      have h4 : decide (0 < (K : Int)) = true := decide_eq_true (by omega)
      clear h1 h2
      go_enter Try.func14, Try.ntmps14
      go_wp2_with fail
      refine (CR.out _).mono ?_
      rintro e w2 ⟨rfl, rfl⟩
      go_wp2_with fail
      go_ret
      exact ⟨rfl, (Below.refl _ _).alloc (Nat.le_refl _) _⟩
    · have h3 := h2 rfl
      have h4 : decide (0 < (B : Int)) = true := decide_eq_true (by omega)
      clear h1 h2
      go_enter Try.func14, Try.ntmps14
      go_wp2_with fail
      refine (CR.out _).mono ?_
      rintro e w2 ⟨rfl, rfl⟩
      go_wp2_with fail
      go_ret
      exact ⟨rfl, (Below.refl _ _).alloc (Nat.le_refl _) _⟩

theorem take_all {α : Type} (p : α → Bool) (l : List α) (k : Nat) (h : k < l.length) : (l.take (k + 1)).all p = ((l.take k).all p && p l[k]) := by
  rw [List.take_succ_eq_append_getElem h, List.all_append]
  simp
theorem all_no {α : Type} (p : α → Bool) (l : List α) (k : Nat) (h : k < l.length) (hp : p l[k] = false) : l.all p = false := by
  rw [Bool.eq_false_iff]
  intro ha
  rw [List.all_eq_true] at ha
  have := ha _ (List.getElem_mem h)
  rw [hp] at this
  cases this

set_option maxRecDepth 8000 in
set_option maxHeartbeats 800000 in
theorem refRight_made (c n : Int) (l : List El) (K : Nat) (bl off : Nat) (Ab : Option Addr) (cb ck : Nat) (w : World) (hr : rtB c n = true) (hK : l.length = K) (hKc : K ≤ ck) (hck : ck ≤ 9223372036854775807) (hbl : bl < w.heap.size)
    (ih : ∀ (i : Nat) (hi : i < l.length), ∃ Ab cb Ak ck, ElAt w (· < w.heap.size) l[i] bl (off + i * 5) Ab cb Ak ck ∧ ∀ w', Below w.heap.size w w' → Calls Try.prog 14 #[elV l[i] Ab cb Ak ck] w' fun en w2 => en = .returned (.bool l[i].right) ∧ Below w'.heap.size w' w2) :
    Calls Try.prog 14 #[.agg #[.int .i64 c, .bool true, .int .i64 n, .slice Ab 0 cb, .slice (some ⟨bl, off, none⟩) K ck]] w fun en w' => en = .returned (.bool (l.all El.right)) ∧ Below w.heap.size w w' := by
  have CR := fun w => refRight_is c n w
  simp only [hr] at CR
  replace CR := Lib.hid CR
  replace ih := Lib.hid ih
  replace hK := Lib.hid hK
  clear hr
  have hb0 := Lib.hid (Below.refl (w.heap.size + 1) (w.alloc (.cells #[.int .i64 c, .bool true, .int .i64 n, .slice Ab 0 cb, .slice (some ⟨bl, off, none⟩) K ck] 30)))
  go_enter Try.func14, Try.ntmps14
  go_wp2_with fail
  refine (CR.out _).mono ?_
  rintro en w2 ⟨rfl, rfl⟩
  go_wp2_with fail
  go_loopw [3] (fun i wr => ∃ k : Nat, k ≤ K ∧ i = .int .i64 (k : Int) ∧ Hid ((l.take k).all El.right = true) ∧ Hid (Below (w.heap.size + 1) (w.alloc (.cells #[.int .i64 c, .bool true, .int .i64 n, .slice Ab 0 cb, .slice (some ⟨bl, off, none⟩) K ck] 30)) wr)) (fun i _ => K - (intOf i).toNat)
  case atStart => exact ⟨0, Nat.zero_le _, rfl, Lib.hid rfl, hb0⟩
  case round =>
    obtain ⟨k, hk, rfl, H, HB⟩ := hrel
    clear hb0
    obtain ⟨_, _, _, _, g4⟩ := box5 HB.out
    have HW := Lib.hid (boxB HB.out)
    by_cases hlt : k < K
    · obtain ⟨Ab2, cb2, Ak2, ck2, hat, hc⟩ := ih.out k (by rw [hK.out]; exact hlt)
      have keep : ∀ p : Addr, p.block < w.heap.size → wr.cell? p = w.cell? p := fun p hp => HW.out.cell hp
      have c0 := (keep ⟨bl, off + k * 5, none⟩ hbl).trans hat.c
      have c1 := (keep ⟨bl, off + k * 5 + 1, none⟩ hbl).trans hat.m
      have c2 := (keep ⟨bl, off + k * 5 + 2, none⟩ hbl).trans hat.n
      have c3 := (keep ⟨bl, off + k * 5 + 3, none⟩ hbl).trans hat.b
      have c4 := (keep ⟨bl, off + k * 5 + 4, none⟩ hbl).trans hat.k
      replace hc := Lib.hid (hc wr HW.out)
      have hta := Lib.hid (take_all El.right l k (by rw [hK.out]; exact hlt))
      have hno := Lib.hid (all_no El.right l k (by rw [hK.out]; exact hlt))
      obtain ⟨r, hrr⟩ : ∃ r, l[k]'(by rw [hK.out]; exact hlt) = r := ⟨_, rfl⟩
      rw [hrr] at hc c0 c1 c2 c3 c4 hta hno
      clear keep hat hrr
      obtain ⟨v, hv⟩ : ∃ v, r.right = v := ⟨_, rfl⟩
      rw [hv] at hc hta hno
      clear hv
      replace hc := Lib.hid hc
      unfold elV at hc
      go_wp2_with fail
      refine hc.out.mono ?_
      rintro en w3 ⟨rfl, hb3⟩
      have HB3 := Lib.hid (HB.out.trans (hb3.mono (Nat.le_trans (by simp) HB.out.size)))
      clear hb3 hc
      cases v
      · have hX := Lib.hid (hno.out rfl)
        go_wp2_with fail
        go_ret
        exact ⟨by rw [hX.out]; rfl, boxB HB3.out⟩
      · have hX := Lib.hid (hta.out.trans (by rw [H.out, Bool.and_true]))
        go_wp2_with fail
        go_roundw
        case rel => exact ⟨k + 1, by omega, by go_num, hX, HB3⟩
        case measure => simp [intOf]; omega
    · have hkk : k = K := by omega
      subst hkk
      have hX : Hid (l.all El.right = true) := by
        have := H.out
        rw [List.take_of_length_le (by rw [hK.out]; exact Nat.le_refl _)] at this
        exact Lib.hid this
      go_wp2_with fail
      go_ret
      exact ⟨by rw [hX.out]; rfl, HW.out⟩

set_option maxRecDepth 8000 in
set_option maxHeartbeats 800000 in
theorem refRight_leaf (c n : Int) (m : Bool) (B : Nat) (Ab Ak : Option Addr) (cb ck : Nat) (w : World) (hr : rtB c n = true) (hm : m = true → B = 0) :
    Calls Try.prog 14 #[.agg #[.int .i64 c, .bool m, .int .i64 n, .slice Ab B cb, .slice Ak 0 ck]] w fun en w' => en = .returned (.bool true) ∧ Below w.heap.size w w' := by
  have CR := fun w => refRight_is c n w
  simp only [hr] at CR
  replace CR := Lib.hid CR
  clear hr
  cases m
  · go_enter Try.func14, Try.ntmps14
    go_wp2_with fail
    refine (CR.out _).mono ?_
    rintro en w2 ⟨rfl, rfl⟩
    go_wp2_with fail
    go_rounds 2
    go_wp2_with fail
    go_ret
    exact ⟨rfl, (Below.refl _ _).alloc (Nat.le_refl _) _⟩
  · obtain rfl := hm rfl
    go_enter Try.func14, Try.ntmps14
    go_wp2_with fail
    refine (CR.out _).mono ?_
    rintro en w2 ⟨rfl, rfl⟩
    go_wp2_with fail
    go_rounds 2
    go_wp2_with fail
    go_ret
    exact ⟨rfl, (Below.refl _ _).alloc (Nat.le_refl _) _⟩

/-- The document's Right of any element. -/
theorem refRight_el (e : El) : ∀ (w : World) (Ab : Option Addr) (cb : Nat) (Ak : Option Addr) (ck : Nat), ElIn w (· < w.heap.size) e Ab cb Ak ck →
    Calls Try.prog 14 #[elV e Ab cb Ak ck] w fun en w' => en = .returned (.bool e.right) ∧ Below w.heap.size w w' := by
  induction e using El.ind with
  | h e ih =>
  intro w Ab cb Ak ck hin
  rw [El.right_kids]
  by_cases h1 : e.one = true
  · rw [h1, Bool.true_and]
    obtain ⟨h2, h3, h4⟩ := (one_right e).1 h1
    have hr := (rtB_iff e.c e.n).2 h2
    by_cases hk : e.kids.length = 0
    · have hl : e.kids = [] := List.eq_nil_of_length_eq_zero hk
      have := refRight_leaf e.c e.n e.m e.b.length Ab Ak cb ck w hr h4
      unfold elV
      rw [hl]
      exact this
    · obtain ⟨bl, off, rfl, hbl, hkid⟩ := hin.kid (by omega)
      have hm : e.m = true := by
        cases hm : e.m
        · exact absurd (h3 hm) hk
        · rfl
      have := refRight_made e.c e.n e.kids e.kids.length bl off Ab cb ck w hr rfl hin.k.le hin.k.big hbl (fun i hi => by
        obtain ⟨Ab2, cb2, Ak2, ck2, g1, g2⟩ := hkid i hi
        refine ⟨Ab2, cb2, Ak2, ck2, g1, fun w' hb => ih _ (List.getElem_mem hi) w' Ab2 cb2 Ak2 ck2 ((g2.below hb).more fun i hi => Nat.lt_of_lt_of_le hi hb.size)⟩)
      unfold elV
      rw [hm, h4 hm]
      exact this
  · have h1' : e.one = false := by simpa using h1
    rw [h1', Bool.false_and]
    have := refRight_bad e.c e.n e.m (rtB e.c e.n) e.b.length e.kids.length Ab Ak cb ck w rfl (fun hr => by
      have h2 := (rtB_iff _ _).1 hr
      constructor
      · intro hm
        rcases Nat.eq_zero_or_pos e.kids.length with h0 | h0
        · exact absurd ((one_right e).2 ⟨h2, fun _ => h0, (fun h => by rw [hm] at h; cases h)⟩) h1
        · exact h0
      · intro hm
        rcases Nat.eq_zero_or_pos e.b.length with h0 | h0
        · exact absurd ((one_right e).2 ⟨h2, (fun h => by rw [hm] at h; cases h), fun _ => h0⟩) h1
        · exact h0)
    exact this
end Go.Proofs.Ytgdoepkoakpnbaa
