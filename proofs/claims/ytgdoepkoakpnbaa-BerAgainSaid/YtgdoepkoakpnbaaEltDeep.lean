/-
  The document's Deep of an element.
-/
import Derived.Test.YtgdoepkoakpnbaaEltRight
namespace Go.Proofs.Ytgdoepkoakpnbaa
open Go.RowKit

theorem maxL_snoc (l : List Nat) (x : Nat) : maxL (l ++ [x]) = max (maxL l) x := by
  unfold maxL
  rw [List.foldl_append]
  rfl
theorem maxL_le (l : List Nat) (x : Nat) (h : x ∈ l) : x ≤ maxL l := by
  obtain ⟨a, b, rfl⟩ := List.append_of_mem h
  unfold maxL
  rw [List.foldl_append, List.foldl_cons, foldl_max]
  omega
theorem maxL_take (l : List Nat) (k : Nat) : maxL (l.take k) ≤ maxL l := by
  have h : maxL l = max (maxL (l.take k)) (maxL (l.drop k)) := by
    conv => lhs; rw [← List.take_append_drop k l]
    unfold maxL
    rw [List.foldl_append, foldl_max]
    rfl
  omega
theorem El.deep_kid (e : El) (i : Nat) (hi : i < e.kids.length) : e.kids[i].deep < e.deep := by
  rw [El.deep_kids e]
  have := maxL_le (e.kids.map El.deep) e.kids[i].deep (List.mem_map.2 ⟨_, List.getElem_mem hi, rfl⟩)
  omega

set_option maxRecDepth 8000 in
set_option maxHeartbeats 800000 in
theorem refDeep_made (c n : Int) (m : Bool) (l : List El) (K B : Nat) (bl off : Nat) (Ab : Option Addr) (cb ck : Nat) (w : World) (hK : l.length = K) (hKc : K ≤ ck) (hck : ck ≤ 9223372036854775807) (hbl : bl < w.heap.size)
    (hd : maxL (l.map El.deep) ≤ 1000000)
    (ih : ∀ (i : Nat) (hi : i < l.length), ∃ Ab cb Ak ck, ElAt w (· < w.heap.size) l[i] bl (off + i * 5) Ab cb Ak ck ∧ ∀ w', Below w.heap.size w w' → Calls Try.prog 24 #[elV l[i] Ab cb Ak ck] w' fun en w2 => en = .returned (.int .i64 (l[i].deep : Int)) ∧ Below w'.heap.size w' w2) :
    Calls Try.prog 24 #[.agg #[.int .i64 c, .bool m, .int .i64 n, .slice Ab B cb, .slice (some ⟨bl, off, none⟩) K ck]] w fun en w' => en = .returned (.int .i64 ((maxL (l.map El.deep) + 1 : Nat) : Int)) ∧ Below w.heap.size w w' := by
  replace ih := Lib.hid ih
  replace hK := Lib.hid hK
  have hb0 := Lib.hid (Below.refl (w.heap.size + 1) (w.alloc (.cells #[.int .i64 c, .bool m, .int .i64 n, .slice Ab B cb, .slice (some ⟨bl, off, none⟩) K ck] 30)))
  obtain ⟨M, hM⟩ : ∃ M, M = maxL (l.map El.deep) := ⟨_, rfl⟩
  rw [← hM] at hd ⊢
  replace hM := Lib.hid hM
  go_enter Try.func24, Try.ntmps24
  go_wp2_with fail
  go_loopw [3, 4] (fun v i wr => ∃ k : Nat, k ≤ K ∧ i = .int .i64 (k : Int) ∧ v = .int .i64 ((maxL ((l.map El.deep).take k) : Nat) : Int) ∧ Hid (Below (w.heap.size + 1) (w.alloc (.cells #[.int .i64 c, .bool m, .int .i64 n, .slice Ab B cb, .slice (some ⟨bl, off, none⟩) K ck] 30)) wr)) (fun _ i _ => K - (intOf i).toNat)
  case atStart => exact ⟨0, Nat.zero_le _, rfl, rfl, hb0⟩
  case round =>
    obtain ⟨k, hk, rfl, hv, HB⟩ := hrel
    obtain ⟨a, ha⟩ : ∃ a, a = maxL ((l.map El.deep).take k) := ⟨_, rfl⟩
    rw [← ha] at hv
    obtain rfl := hv
    have ham : a ≤ M := by rw [ha, hM.out]; exact maxL_take _ _
    replace ha := Lib.hid ha
    clear hb0
    obtain ⟨_, _, _, _, g4⟩ := box5 HB.out
    have HW := Lib.hid (boxB HB.out)
    by_cases hlt : k < K
    · obtain ⟨Ab2, cb2, Ak2, ck2, hat, hc⟩ := ih.out k (by rw [hK.out]; exact hlt)
      have keep : ∀ p : Addr, p.block < w.heap.size → wr.cell? p = w.cell? p := fun p hp => HW.out.cell hp
      have c0 := (keep ⟨bl, off + k * 5, none⟩ hbl).trans hat.c
      have c1 := (keep ⟨bl, off + k * 5 + 1, none⟩ hbl).trans hat.m
      have c2 := (keep ⟨bl, off + k * 5 + 2, none⟩ hbl).trans hat.n
      have c3 := (keep ⟨bl, off + k * 5 + 3, none⟩ hbl).trans hat.b
      have c4 := (keep ⟨bl, off + k * 5 + 4, none⟩ hbl).trans hat.k
      replace hc := hc wr HW.out
      have hsn : maxL ((l.map El.deep).take (k + 1)) = max a (l[k]'(by rw [hK.out]; exact hlt)).deep := by
        rw [ha.out, List.take_succ_eq_append_getElem (by rw [List.length_map, hK.out]; exact hlt), maxL_snoc, List.getElem_map]
      have hle : (l[k]'(by rw [hK.out]; exact hlt)).deep ≤ M := by
        rw [hM.out]
        exact maxL_le _ _ (List.mem_map.2 ⟨_, List.getElem_mem _, rfl⟩)
      obtain ⟨r, hrr⟩ : ∃ r, l[k]'(by rw [hK.out]; exact hlt) = r := ⟨_, rfl⟩
      rw [hrr] at hc c0 c1 c2 c3 c4 hsn hle
      clear keep hat hrr
      obtain ⟨v, hv⟩ : ∃ v, r.deep = v := ⟨_, rfl⟩
      rw [hv] at hc hsn hle
      clear hv
      replace hc := Lib.hid hc
      replace hsn := Lib.hid hsn
      unfold elV at hc
      by_cases hav : a < v
      · have hX := Lib.hid (show maxL ((l.map El.deep).take (k + 1)) = v by rw [hsn.out]; omega)
        have ka : decide ((a : Int) < (v : Int)) = true := decide_eq_true (by omega)
        go_wp2_with fail
        refine hc.out.mono ?_
        rintro en w3 ⟨rfl, hb3⟩
        have HB3 := Lib.hid (HB.out.trans (hb3.mono (Nat.le_trans (by simp) HB.out.size)))
        clear hb3 hc
        go_wp2_with fail
        go_roundw
        case rel => exact ⟨k + 1, by omega, by go_num, by rw [hX.out], HB3⟩
        case measure => simp [intOf]; omega
      · have hX := Lib.hid (show maxL ((l.map El.deep).take (k + 1)) = a by rw [hsn.out]; omega)
        have ka : decide ((a : Int) < (v : Int)) = false := decide_eq_false (by omega)
        go_wp2_with fail
        refine hc.out.mono ?_
        rintro en w3 ⟨rfl, hb3⟩
        have HB3 := Lib.hid (HB.out.trans (hb3.mono (Nat.le_trans (by simp) HB.out.size)))
        clear hb3 hc
        go_wp2_with fail
        go_roundw
        case rel => exact ⟨k + 1, by omega, by go_num, by rw [hX.out], HB3⟩
        case measure => simp [intOf]; omega
    · have hkk : k = K := by omega
      subst hkk
      have hX : Hid (M = a) := by
        refine Lib.hid ?_
        rw [ha.out, hM.out, List.take_of_length_le (by rw [List.length_map, hK.out]; exact Nat.le_refl _)]
      go_wp2_with fail
      go_ret
      exact ⟨by rw [hX.out]; go_num, HW.out⟩

set_option maxRecDepth 8000 in
set_option maxHeartbeats 800000 in
theorem refDeep_leaf (c n : Int) (m : Bool) (B : Nat) (Ab Ak : Option Addr) (cb ck : Nat) (w : World) :
    Calls Try.prog 24 #[.agg #[.int .i64 c, .bool m, .int .i64 n, .slice Ab B cb, .slice Ak 0 ck]] w fun en w' => en = .returned (.int .i64 1) ∧ Below w.heap.size w w' := by
  go_enter Try.func24, Try.ntmps24
  go_wp2_with fail
  go_rounds 2
  go_wp2_with fail
  go_ret
  exact ⟨rfl, (Below.refl _ _).alloc (Nat.le_refl _) _⟩

/-- The document's Deep of any element. -/
theorem refDeep_el (e : El) : ∀ (w : World) (Ab : Option Addr) (cb : Nat) (Ak : Option Addr) (ck : Nat), ElIn w (· < w.heap.size) e Ab cb Ak ck → e.deep ≤ 1000000 →
    Calls Try.prog 24 #[elV e Ab cb Ak ck] w fun en w' => en = .returned (.int .i64 (e.deep : Int)) ∧ Below w.heap.size w w' := by
  induction e using El.ind with
  | h e ih =>
  intro w Ab cb Ak ck hin hde
  by_cases hk : e.kids.length = 0
  · have hl : e.kids = [] := List.eq_nil_of_length_eq_zero hk
    have := refDeep_leaf e.c e.n e.m e.b.length Ab Ak cb ck w
    unfold elV
    rw [El.deep_kids e, hl]
    exact this
  · obtain ⟨bl, off, rfl, hbl, hkid⟩ := hin.kid (by omega)
    have hdk := hde
    rw [El.deep_kids e] at hdk
    have := refDeep_made e.c e.n e.m e.kids e.kids.length e.b.length bl off Ab cb ck w rfl hin.k.le hin.k.big hbl (by omega) (fun i hi => by
      obtain ⟨Ab2, cb2, Ak2, ck2, g1, g2⟩ := hkid i hi
      refine ⟨Ab2, cb2, Ak2, ck2, g1, fun w' hb => ih _ (List.getElem_mem hi) w' Ab2 cb2 Ak2 ck2 ((g2.below hb).more fun i hi => Nat.lt_of_lt_of_le hi hb.size) (by have := e.deep_kid i hi; omega)⟩)
    rw [El.deep_kids e]
    exact this
end Go.Proofs.Ytgdoepkoakpnbaa
