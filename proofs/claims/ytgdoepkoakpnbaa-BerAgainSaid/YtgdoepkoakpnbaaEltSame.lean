/-
  The document's Same of two elements.
-/
import Derived.Test.YtgdoepkoakpnbaaEltDeep
import Derived.Test.YtgdoepkoakpnbaaStr
import Derived.Deep.RegionHeldLaw
import Derived.Deep.DrawnRows
namespace Go.Proofs.Ytgdoepkoakpnbaa
open Go.RowKit
attribute [local go_sem ↓] Go.wp_at_zero Go.wp_at_succ

def El.same (e f : El) : Bool := decide (e.c = f.c) && decide (e.m = f.m) && decide (e.n = f.n) && decide (e.b = f.b) && e.k.same f.k
/-- What is compared ahead of the kids. -/
def El.head (e f : El) : Bool := decide (e.c = f.c) && decide (e.m = f.m) && decide (e.n = f.n) && decide (e.b = f.b) && decide (e.kids.length = f.kids.length)
def sameL : List El → List El → Bool
  | [], [] => true
  | a :: l, b :: m => a.same b && sameL l m
  | _, _ => false
theorem Fo.same_list : ∀ f g : Fo, f.same g = sameL f.list g.list
  | .nil, .nil => rfl
  | .nil, .cons .. => rfl
  | .cons .., .nil => rfl
  | .cons c m n b k nx, .cons c' m' n' b' k' nx' => by
    rw [Fo.same, Fo.list, Fo.list, sameL, Fo.same_list nx nx']
    rfl
theorem El.same_kids (e f : El) : e.same f = (e.head f && sameL e.kids f.kids) := by
  have h : ∀ l m : List El, sameL l m = (decide (l.length = m.length) && sameL l m) := by
    intro l
    induction l with
    | nil => intro m; cases m <;> simp [sameL]
    | cons a l ih =>
      intro m
      cases m with
      | nil => simp [sameL]
      | cons b m =>
        rw [sameL, ih m]
        simp
        intro _
        rcases Bool.eq_false_or_eq_true (sameL l m) with h | h <;> simp [h]
  unfold El.same El.head
  rw [Fo.same_list, show e.k.list = e.kids from rfl, show f.k.list = f.kids from rfl, h]
  simp [Bool.and_assoc]
theorem sameL_take (l m : List El) (hl : l.length = m.length) (k : Nat) (h : k < l.length) : sameL (l.take (k + 1)) (m.take (k + 1)) = (sameL (l.take k) (m.take k) && l[k].same (m[k]'(by omega))) := by
  induction l generalizing m k with
  | nil => simp at h
  | cons a l ih =>
    cases m with
    | nil => simp at hl
    | cons b m =>
      cases k with
      | zero => simp [sameL]
      | succ k =>
        have := ih m (by simpa using hl) k (by simpa using h)
        simp only [List.take_succ_cons, sameL, List.getElem_cons_succ]
        rw [this, Bool.and_assoc]
theorem sameL_no (l m : List El) (hl : l.length = m.length) (k : Nat) (h : k < l.length) (hp : l[k].same (m[k]'(by omega)) = false) : sameL l m = false := by
  induction l generalizing m k with
  | nil => simp at h
  | cons a l ih =>
    cases m with
    | nil => simp at hl
    | cons b m =>
      cases k with
      | zero =>
        have hp' : a.same b = false := hp
        simp [sameL, hp']
      | succ k =>
        have := ih m (by simpa using hl) k (by simpa using h) (by simpa using hp)
        simp [sameL, this]

set_option maxRecDepth 8000 in
set_option maxHeartbeats 800000 in
theorem refSame_head (c n c' n' : Int) (m m' : Bool) (B K B' K' : Nat) (Ab Ak Ab' Ak' : Option Addr) (cb ck cb' ck' : Nat) (p q : ByteArray) (w : World)
    (hp : (convert 24 9 (.slice Ab B cb)).run Try.prog ((w.alloc (.cells #[.int .i64 c, .bool m, .int .i64 n, .slice Ab B cb, .slice Ak K ck] 30)).alloc (.cells #[.int .i64 c', .bool m', .int .i64 n', .slice Ab' B' cb', .slice Ak' K' ck'] 30)) = .ok (.string p) ((w.alloc (.cells #[.int .i64 c, .bool m, .int .i64 n, .slice Ab B cb, .slice Ak K ck] 30)).alloc (.cells #[.int .i64 c', .bool m', .int .i64 n', .slice Ab' B' cb', .slice Ak' K' ck'] 30)))
    (hq : (convert 24 9 (.slice Ab' B' cb')).run Try.prog ((w.alloc (.cells #[.int .i64 c, .bool m, .int .i64 n, .slice Ab B cb, .slice Ak K ck] 30)).alloc (.cells #[.int .i64 c', .bool m', .int .i64 n', .slice Ab' B' cb', .slice Ak' K' ck'] 30)) = .ok (.string q) ((w.alloc (.cells #[.int .i64 c, .bool m, .int .i64 n, .slice Ab B cb, .slice Ak K ck] 30)).alloc (.cells #[.int .i64 c', .bool m', .int .i64 n', .slice Ab' B' cb', .slice Ak' K' ck'] 30)))
    (h : ((c == c') && (m == m') && (n == n') && (p.toList == q.toList) && ((K : Int) == (K' : Int))) = false) :
    Calls Try.prog 13 #[.agg #[.int .i64 c, .bool m, .int .i64 n, .slice Ab B cb, .slice Ak K ck], .agg #[.int .i64 c', .bool m', .int .i64 n', .slice Ab' B' cb', .slice Ak' K' ck']] w fun en w' => en = .returned (.bool false) ∧ Below w.heap.size w w' := by
  have fin : Below w.heap.size w ((w.alloc (.cells #[.int .i64 c, .bool m, .int .i64 n, .slice Ab B cb, .slice Ak K ck] 30)).alloc (.cells #[.int .i64 c', .bool m', .int .i64 n', .slice Ab' B' cb', .slice Ak' K' ck'] 30)) := ((Below.refl _ _).alloc (Nat.le_refl _) _).alloc (by simp) _
  replace fin := Lib.hid fin
  by_cases h1 : c = c'
  · subst h1
    by_cases h2 : m = m'
    · subst h2
      by_cases h3 : n = n'
      · subst h3
        simp only [beq_self_eq_true, Bool.true_and] at h
        by_cases h4 : (p.toList == q.toList) = true
        · rw [h4, Bool.true_and] at h
          have h5 : ((K : Int) != (K' : Int)) = true := by rw [bne, h]; rfl
          go_enter Try.func13, Try.ntmps13
          go_wp2_with fail
          go_ret
          exact ⟨rfl, fin.out⟩
        · have h5 : (p.toList == q.toList) = false := by simpa using h4
          clear h h4
          go_enter Try.func13, Try.ntmps13
          go_wp2_with fail
          go_ret
          exact ⟨rfl, fin.out⟩
      · have h5 : (n == n') = false := beq_eq_false_iff_ne.2 h3
        have h6 : (n != n') = true := by rw [bne, h5]; rfl
        clear h h3 hp hq
        go_enter Try.func13, Try.ntmps13
        go_wp2_with fail
        go_ret
        exact ⟨rfl, fin.out⟩
    · clear h hp hq
      cases m <;> cases m' <;> first | exact absurd rfl h2 | skip
      all_goals
        clear h2
        go_enter Try.func13, Try.ntmps13
        go_wp2_with fail
        go_ret
        exact ⟨rfl, fin.out⟩
  · have h5 : (c == c') = false := beq_eq_false_iff_ne.2 h1
    have h6 : (c != c') = true := by rw [bne, h5]; rfl
    clear h h1 hp hq
    go_enter Try.func13, Try.ntmps13
    go_wp2_with fail
    go_ret
    exact ⟨rfl, fin.out⟩

theorem box55 {w W : World} {o1 o2 : Obj} (h : Below (w.heap.size + 2) ((w.alloc o1).alloc o2) W) : Below w.heap.size w W :=
  (((Below.refl w.heap.size w).alloc (Nat.le_refl _) o1).alloc (by simp) o2).trans (h.mono (by omega))
theorem box55_cells {w W : World} {a b c d e a' b' c' d' e' : Value} {T : TypeId} (h : Below (w.heap.size + 2) ((w.alloc (.cells #[a, b, c, d, e] T)).alloc (.cells #[a', b', c', d', e'] T)) W) :
    W.cell? ⟨w.heap.size, 4, none⟩ = some e ∧ W.cell? ⟨w.heap.size + 1, 4, none⟩ = some e' := by
  constructor
  · rw [h.cell (by simp), World.cell?_alloc_lt _ _ _ (by simp), World.cell?_alloc_new]
    rfl
  · rw [h.cell (by simp)]
    have := World.cell?_alloc_new (w.alloc (.cells #[a, b, c, d, e] T)) #[a', b', c', d', e'] T 4
    rw [show (w.alloc (.cells #[a, b, c, d, e] T)).heap.size = w.heap.size + 1 from by simp] at this
    rw [this]
    rfl

set_option maxRecDepth 8000 in
set_option maxHeartbeats 800000 in
theorem refSame_leaf (c n : Int) (m : Bool) (B B' : Nat) (Ab Ak Ab' Ak' : Option Addr) (cb ck cb' ck' : Nat) (p q : ByteArray) (w : World)
    (hp : (convert 24 9 (.slice Ab B cb)).run Try.prog ((w.alloc (.cells #[.int .i64 c, .bool m, .int .i64 n, .slice Ab B cb, .slice Ak 0 ck] 30)).alloc (.cells #[.int .i64 c, .bool m, .int .i64 n, .slice Ab' B' cb', .slice Ak' 0 ck'] 30)) = .ok (.string p) ((w.alloc (.cells #[.int .i64 c, .bool m, .int .i64 n, .slice Ab B cb, .slice Ak 0 ck] 30)).alloc (.cells #[.int .i64 c, .bool m, .int .i64 n, .slice Ab' B' cb', .slice Ak' 0 ck'] 30)))
    (hq : (convert 24 9 (.slice Ab' B' cb')).run Try.prog ((w.alloc (.cells #[.int .i64 c, .bool m, .int .i64 n, .slice Ab B cb, .slice Ak 0 ck] 30)).alloc (.cells #[.int .i64 c, .bool m, .int .i64 n, .slice Ab' B' cb', .slice Ak' 0 ck'] 30)) = .ok (.string q) ((w.alloc (.cells #[.int .i64 c, .bool m, .int .i64 n, .slice Ab B cb, .slice Ak 0 ck] 30)).alloc (.cells #[.int .i64 c, .bool m, .int .i64 n, .slice Ab' B' cb', .slice Ak' 0 ck'] 30)))
    (h : (p.toList == q.toList) = true) :
    Calls Try.prog 13 #[.agg #[.int .i64 c, .bool m, .int .i64 n, .slice Ab B cb, .slice Ak 0 ck], .agg #[.int .i64 c, .bool m, .int .i64 n, .slice Ab' B' cb', .slice Ak' 0 ck']] w fun en w' => en = .returned (.bool true) ∧ Below w.heap.size w w' := by
  have fin : Below w.heap.size w ((w.alloc (.cells #[.int .i64 c, .bool m, .int .i64 n, .slice Ab B cb, .slice Ak 0 ck] 30)).alloc (.cells #[.int .i64 c, .bool m, .int .i64 n, .slice Ab' B' cb', .slice Ak' 0 ck'] 30)) := ((Below.refl _ _).alloc (Nat.le_refl _) _).alloc (by simp) _
  replace fin := Lib.hid fin
  cases m
  all_goals
    go_enter Try.func13, Try.ntmps13
    go_wp2_with fail
    go_rounds 2
    go_wp2_with fail
    go_ret
    exact ⟨rfl, fin.out⟩

set_option maxRecDepth 8000 in
set_option maxHeartbeats 1600000 in
theorem refSame_made (c n : Int) (m : Bool) (B B' K : Nat) (Ab Ab' : Option Addr) (bl off bl' off' cb ck cb' ck' : Nat) (p q : ByteArray) (l l' : List El) (w : World)
    (hp : (convert 24 9 (.slice Ab B cb)).run Try.prog ((w.alloc (.cells #[.int .i64 c, .bool m, .int .i64 n, .slice Ab B cb, .slice (some ⟨bl, off, none⟩) K ck] 30)).alloc (.cells #[.int .i64 c, .bool m, .int .i64 n, .slice Ab' B' cb', .slice (some ⟨bl', off', none⟩) K ck'] 30)) = .ok (.string p) ((w.alloc (.cells #[.int .i64 c, .bool m, .int .i64 n, .slice Ab B cb, .slice (some ⟨bl, off, none⟩) K ck] 30)).alloc (.cells #[.int .i64 c, .bool m, .int .i64 n, .slice Ab' B' cb', .slice (some ⟨bl', off', none⟩) K ck'] 30)))
    (hq : (convert 24 9 (.slice Ab' B' cb')).run Try.prog ((w.alloc (.cells #[.int .i64 c, .bool m, .int .i64 n, .slice Ab B cb, .slice (some ⟨bl, off, none⟩) K ck] 30)).alloc (.cells #[.int .i64 c, .bool m, .int .i64 n, .slice Ab' B' cb', .slice (some ⟨bl', off', none⟩) K ck'] 30)) = .ok (.string q) ((w.alloc (.cells #[.int .i64 c, .bool m, .int .i64 n, .slice Ab B cb, .slice (some ⟨bl, off, none⟩) K ck] 30)).alloc (.cells #[.int .i64 c, .bool m, .int .i64 n, .slice Ab' B' cb', .slice (some ⟨bl', off', none⟩) K ck'] 30)))
    (h : (p.toList == q.toList) = true) (hK : l.length = K) (hK' : l'.length = K) (hKc : K ≤ ck) (hKc' : K ≤ ck') (hck : ck ≤ 9223372036854775807) (_hck' : ck' ≤ 9223372036854775807) (hbl : bl < w.heap.size) (hbl' : bl' < w.heap.size)
    (ih : ∀ (i : Nat) (hi : i < K), ∃ Ab cb Ak ck Ab' cb' Ak' ck', ElAt w (· < w.heap.size) (l[i]'(by omega)) bl (off + i * 5) Ab cb Ak ck ∧ ElAt w (· < w.heap.size) (l'[i]'(by omega)) bl' (off' + i * 5) Ab' cb' Ak' ck' ∧
      ∀ w', Below w.heap.size w w' → Calls Try.prog 13 #[elV (l[i]'(by omega)) Ab cb Ak ck, elV (l'[i]'(by omega)) Ab' cb' Ak' ck'] w' fun en w2 => en = .returned (.bool ((l[i]'(by omega)).same (l'[i]'(by omega)))) ∧ Below w'.heap.size w' w2) :
    Calls Try.prog 13 #[.agg #[.int .i64 c, .bool m, .int .i64 n, .slice Ab B cb, .slice (some ⟨bl, off, none⟩) K ck], .agg #[.int .i64 c, .bool m, .int .i64 n, .slice Ab' B' cb', .slice (some ⟨bl', off', none⟩) K ck']] w fun en w' => en = .returned (.bool (sameL l l')) ∧ Below w.heap.size w w' := by
  have hb0 := Lib.hid (Below.refl (w.heap.size + 2) ((w.alloc (.cells #[.int .i64 c, .bool m, .int .i64 n, .slice Ab B cb, .slice (some ⟨bl, off, none⟩) K ck] 30)).alloc (.cells #[.int .i64 c, .bool m, .int .i64 n, .slice Ab' B' cb', .slice (some ⟨bl', off', none⟩) K ck'] 30)))
  replace ih := Lib.hid ih
  replace hK := Lib.hid hK
  replace hK' := Lib.hid hK'
  go_enter Try.func13, Try.ntmps13
  go_wp2_with fail
  clear hp hq h
  go_loopw [5] (fun i wr => ∃ k : Nat, k ≤ K ∧ i = .int .i64 (k : Int) ∧ Hid (sameL (l.take k) (l'.take k) = true) ∧ Hid (Below (w.heap.size + 2) ((w.alloc (.cells #[.int .i64 c, .bool m, .int .i64 n, .slice Ab B cb, .slice (some ⟨bl, off, none⟩) K ck] 30)).alloc (.cells #[.int .i64 c, .bool m, .int .i64 n, .slice Ab' B' cb', .slice (some ⟨bl', off', none⟩) K ck'] 30)) wr)) (fun i _ => K - (intOf i).toNat)
  case atStart => exact ⟨0, Nat.zero_le _, rfl, Lib.hid rfl, hb0⟩
  case round =>
    obtain ⟨k, hk, rfl, H, HB⟩ := hrel
    clear hb0
    obtain ⟨g4, g5⟩ := box55_cells HB.out
    have HW := Lib.hid (box55 HB.out)
    by_cases hlt : k < K
    · obtain ⟨Ab2, cb2, Ak2, ck2, Ab3, cb3, Ak3, ck3, hat, hat', hc⟩ := ih.out k hlt
      have keep : ∀ p : Addr, p.block < w.heap.size → wr.cell? p = w.cell? p := fun p hp => HW.out.cell hp
      have c0 := (keep ⟨bl, off + k * 5, none⟩ hbl).trans hat.c
      have c1 := (keep ⟨bl, off + k * 5 + 1, none⟩ hbl).trans hat.m
      have c2 := (keep ⟨bl, off + k * 5 + 2, none⟩ hbl).trans hat.n
      have c3 := (keep ⟨bl, off + k * 5 + 3, none⟩ hbl).trans hat.b
      have c4 := (keep ⟨bl, off + k * 5 + 4, none⟩ hbl).trans hat.k
      have d0 := (keep ⟨bl', off' + k * 5, none⟩ hbl').trans hat'.c
      have d1 := (keep ⟨bl', off' + k * 5 + 1, none⟩ hbl').trans hat'.m
      have d2 := (keep ⟨bl', off' + k * 5 + 2, none⟩ hbl').trans hat'.n
      have d3 := (keep ⟨bl', off' + k * 5 + 3, none⟩ hbl').trans hat'.b
      have d4 := (keep ⟨bl', off' + k * 5 + 4, none⟩ hbl').trans hat'.k
      replace hc := fun w' hb => hc w' (HW.out.trans (show Below w.heap.size wr w' from hb))
      have hta := sameL_take l l' (by rw [hK.out, hK'.out]) k (by rw [hK.out]; exact hlt)
      have hno := sameL_no l l' (by rw [hK.out, hK'.out]) k (by rw [hK.out]; exact hlt)
      obtain ⟨r, hrr⟩ : ∃ r, l[k]'(by rw [hK.out]; exact hlt) = r := ⟨_, rfl⟩
      obtain ⟨t, htt⟩ : ∃ t, l'[k]'(by rw [hK'.out]; exact hlt) = t := ⟨_, rfl⟩
      rw [hrr] at hc c0 c1 c2 c3 c4 hta hno
      rw [htt] at hc d0 d1 d2 d3 d4 hta hno
      clear keep hat hat' hrr htt
      obtain ⟨v, hv⟩ : ∃ v, r.same t = v := ⟨_, rfl⟩
      rw [hv] at hc hta hno
      clear hv
      unfold elV at hc
      replace hc := Lib.hid hc
      replace hta := Lib.hid hta
      replace hno := Lib.hid hno
      have i0 : (0 : Int) ≤ (k : Int) := by omega
      have i1 : (k : Int) < (K : Int) := by omega
      have KEEP : Hid (∀ W, Below wr.heap.size wr W → (fun W => W.cell? ⟨w.heap.size, 4, none⟩ = some (.slice (some ⟨bl, off, none⟩) K ck) ∧ W.cell? ⟨w.heap.size + 1, 4, none⟩ = some (.slice (some ⟨bl', off', none⟩) K ck') ∧ W.cell? ⟨bl, off + k * 5, none⟩ = some (.int .i64 r.c) ∧ W.cell? ⟨bl, off + k * 5 + 1, none⟩ = some (.bool r.m) ∧ W.cell? ⟨bl, off + k * 5 + 2, none⟩ = some (.int .i64 r.n) ∧ W.cell? ⟨bl, off + k * 5 + 3, none⟩ = some (.slice Ab2 r.b.length cb2) ∧ W.cell? ⟨bl, off + k * 5 + 4, none⟩ = some (.slice Ak2 r.kids.length ck2) ∧ W.cell? ⟨bl', off' + k * 5, none⟩ = some (.int .i64 t.c) ∧ W.cell? ⟨bl', off' + k * 5 + 1, none⟩ = some (.bool t.m) ∧ W.cell? ⟨bl', off' + k * 5 + 2, none⟩ = some (.int .i64 t.n) ∧ W.cell? ⟨bl', off' + k * 5 + 3, none⟩ = some (.slice Ab3 t.b.length cb3) ∧ W.cell? ⟨bl', off' + k * 5 + 4, none⟩ = some (.slice Ak3 t.kids.length ck3)) W) := by
        refine Lib.hid fun W hb => ?_
        have kk : ∀ p : Addr, p.block < w.heap.size + 2 → W.cell? p = wr.cell? p := fun p hp => hb.cell (Nat.lt_of_lt_of_le hp (Nat.le_trans (by simp) HB.out.size))
        exact ⟨(kk _ (by simp)).trans g4, (kk _ (by simp)).trans g5, (kk _ (by simp; omega)).trans c0, (kk _ (by simp; omega)).trans c1, (kk _ (by simp; omega)).trans c2, (kk _ (by simp; omega)).trans c3, (kk _ (by simp; omega)).trans c4,
          (kk _ (by simp; omega)).trans d0, (kk _ (by simp; omega)).trans d1, (kk _ (by simp; omega)).trans d2, (kk _ (by simp; omega)).trans d3, (kk _ (by simp; omega)).trans d4⟩
      have HWR := Lib.hid (Nat.le_trans (show w.heap.size + 2 ≤ _ by simp) HB.out.size)
      cases v
      · have hX := Lib.hid (hno.out rfl)
        go_wp2_with fail
        go_region_held_law (fun W => W.cell? ⟨w.heap.size, 4, none⟩ = some (.slice (some ⟨bl, off, none⟩) K ck) ∧ W.cell? ⟨w.heap.size + 1, 4, none⟩ = some (.slice (some ⟨bl', off', none⟩) K ck') ∧ W.cell? ⟨bl, off + k * 5, none⟩ = some (.int .i64 r.c) ∧ W.cell? ⟨bl, off + k * 5 + 1, none⟩ = some (.bool r.m) ∧ W.cell? ⟨bl, off + k * 5 + 2, none⟩ = some (.int .i64 r.n) ∧ W.cell? ⟨bl, off + k * 5 + 3, none⟩ = some (.slice Ab2 r.b.length cb2) ∧ W.cell? ⟨bl, off + k * 5 + 4, none⟩ = some (.slice Ak2 r.kids.length ck2) ∧ W.cell? ⟨bl', off' + k * 5, none⟩ = some (.int .i64 t.c) ∧ W.cell? ⟨bl', off' + k * 5 + 1, none⟩ = some (.bool t.m) ∧ W.cell? ⟨bl', off' + k * 5 + 2, none⟩ = some (.int .i64 t.n) ∧ W.cell? ⟨bl', off' + k * 5 + 3, none⟩ = some (.slice Ab3 t.b.length cb3) ∧ W.cell? ⟨bl', off' + k * 5 + 4, none⟩ = some (.slice Ak3 t.kids.length ck3)) (first | go_keep | exact KEEP.out _ HB3.out)
          (first | (go_at_call 13; (with_reducible refine (hc.out _ (by first | exact (Below.refl _ _).drew | exact (Below.refl _ _).drew.drew)).mono ?_); rintro en w3 ⟨rfl, hb3⟩; have HB3 := Lib.hid (show Below wr.heap.size wr w3 from (Below.refl wr.heap.size wr).trans ⟨hb3.os, hb3.tape, hb3.output, hb3.size, hb3.block⟩); clear hb3))
        all_goals
          go_wp2_with fail
          go_ret
          exact ⟨by rw [hX.out]; rfl, HW.out.trans (HB3.out.mono HW.out.size)⟩
      · have hX := Lib.hid (hta.out.trans (by rw [H.out, Bool.and_true]))
        go_wp2_with fail
        go_region_held_law (fun W => W.cell? ⟨w.heap.size, 4, none⟩ = some (.slice (some ⟨bl, off, none⟩) K ck) ∧ W.cell? ⟨w.heap.size + 1, 4, none⟩ = some (.slice (some ⟨bl', off', none⟩) K ck') ∧ W.cell? ⟨bl, off + k * 5, none⟩ = some (.int .i64 r.c) ∧ W.cell? ⟨bl, off + k * 5 + 1, none⟩ = some (.bool r.m) ∧ W.cell? ⟨bl, off + k * 5 + 2, none⟩ = some (.int .i64 r.n) ∧ W.cell? ⟨bl, off + k * 5 + 3, none⟩ = some (.slice Ab2 r.b.length cb2) ∧ W.cell? ⟨bl, off + k * 5 + 4, none⟩ = some (.slice Ak2 r.kids.length ck2) ∧ W.cell? ⟨bl', off' + k * 5, none⟩ = some (.int .i64 t.c) ∧ W.cell? ⟨bl', off' + k * 5 + 1, none⟩ = some (.bool t.m) ∧ W.cell? ⟨bl', off' + k * 5 + 2, none⟩ = some (.int .i64 t.n) ∧ W.cell? ⟨bl', off' + k * 5 + 3, none⟩ = some (.slice Ab3 t.b.length cb3) ∧ W.cell? ⟨bl', off' + k * 5 + 4, none⟩ = some (.slice Ak3 t.kids.length ck3)) (first | go_keep | exact KEEP.out _ HB3.out)
          (first | (go_at_call 13; (with_reducible refine (hc.out _ (by first | exact (Below.refl _ _).drew | exact (Below.refl _ _).drew.drew)).mono ?_); rintro en w3 ⟨rfl, hb3⟩; have HB3 := Lib.hid (show Below wr.heap.size wr w3 from (Below.refl wr.heap.size wr).trans ⟨hb3.os, hb3.tape, hb3.output, hb3.size, hb3.block⟩); clear hb3))
        all_goals
          go_wp2_with fail
          go_roundw
          case rel => exact ⟨k + 1, by omega, by go_num, hX, Lib.hid (HB.out.trans (HB3.out.mono HWR.out))⟩
          case measure => simp [intOf]; omega
    · have hkk : k = K := by omega
      subst hkk
      have hX : Hid (sameL l l' = true) := by
        have := H.out
        rw [List.take_of_length_le (by rw [hK.out]; exact Nat.le_refl _), List.take_of_length_le (by rw [hK'.out]; exact Nat.le_refl _)] at this
        exact Lib.hid this
      go_wp2_with fail
      go_ret
      exact ⟨by rw [hX.out]; rfl, HW.out⟩

def Fo.byt : Fo → Prop
  | .nil => True
  | .cons _ _ _ b k nx => (∀ x ∈ b, x < 256) ∧ k.byt ∧ nx.byt
def El.byt (e : El) : Prop := (∀ x ∈ e.b, x < 256) ∧ e.k.byt
theorem Fo.byt_mem : ∀ {f : Fo}, f.byt → ∀ e ∈ f.list, e.byt
  | .nil, _, e, he => by cases he
  | .cons c m n b k nx, h, e, he => by
    rcases List.mem_cons.1 he with rfl | he
    · exact ⟨h.1, h.2.1⟩
    · exact Fo.byt_mem h.2.2 e he

/-- string(b) in a world behind. -/
theorem SrcI.conv {W : World} {I : Nat → Prop} {A : Option Addr} {c : Nat} {l : List Nat} (h : SrcI W I A c l) (hI : ∀ i, I i → i < W.heap.size) : (convert 24 9 (.slice A l.length c)).run Try.prog W = .ok (.string (strB l)) W :=
  (h.more hI).src.conv

/-- The document's Same of any two elements. -/
theorem refSame_el (e : El) : ∀ (f : El) (w : World) (Ab : Option Addr) (cb : Nat) (Ak : Option Addr) (ck : Nat) (Ab' : Option Addr) (cb' : Nat) (Ak' : Option Addr) (ck' : Nat),
    ElIn w (· < w.heap.size) e Ab cb Ak ck → ElIn w (· < w.heap.size) f Ab' cb' Ak' ck' → e.byt → f.byt →
    Calls Try.prog 13 #[elV e Ab cb Ak ck, elV f Ab' cb' Ak' ck'] w fun en w' => en = .returned (.bool (e.same f)) ∧ Below w.heap.size w w' := by
  induction e using El.ind with
  | h e ih =>
  intro f w Ab cb Ak ck Ab' cb' Ak' ck' he hf hbe hbf
  rw [El.same_kids]
  have hB2 : ∀ o1 o2, Below w.heap.size w ((w.alloc o1).alloc o2) := fun o1 o2 => ((Below.refl _ _).alloc (Nat.le_refl _) _).alloc (by simp) _
  have hp : ∀ o1 o2, (convert 24 9 (.slice Ab e.b.length cb)).run Try.prog ((w.alloc o1).alloc o2) = .ok (.string (strB e.b)) ((w.alloc o1).alloc o2) :=
    fun o1 o2 => (he.b.keep fun _ hp => (hB2 o1 o2).cell hp).conv (fun i hi => Nat.lt_of_lt_of_le hi (hB2 o1 o2).size)
  have hq : ∀ o1 o2, (convert 24 9 (.slice Ab' f.b.length cb')).run Try.prog ((w.alloc o1).alloc o2) = .ok (.string (strB f.b)) ((w.alloc o1).alloc o2) :=
    fun o1 o2 => (hf.b.keep fun _ hp => (hB2 o1 o2).cell hp).conv (fun i hi => Nat.lt_of_lt_of_le hi (hB2 o1 o2).size)
  have hstr : ((strB e.b).toList == (strB f.b).toList) = decide (e.b = f.b) := by
    have := strB_beq hbe.1 hbf.1
    rw [beq_toListBytes] at this
    rw [Bool.eq_iff_iff, decide_eq_true_iff]
    exact this
  by_cases hh : e.head f = true
  · rw [hh, Bool.true_and]
    unfold El.head at hh
    simp only [Bool.and_eq_true, decide_eq_true_iff] at hh
    obtain ⟨⟨⟨⟨h1, h2⟩, h3⟩, h4⟩, h5⟩ := hh
    have hs : ((strB e.b).toList == (strB f.b).toList) = true := by rw [hstr]; exact decide_eq_true h4
    by_cases hk : e.kids.length = 0
    · have hl : e.kids = [] := List.eq_nil_of_length_eq_zero hk
      have hl' : f.kids = [] := List.eq_nil_of_length_eq_zero (by omega)
      have := refSame_leaf e.c e.n e.m e.b.length f.b.length Ab Ak Ab' Ak' cb ck cb' ck' (strB e.b) (strB f.b) w (hp _ _) (hq _ _) hs
      unfold elV
      rw [hl, hl', ← h1, ← h2, ← h3]
      exact this
    · obtain ⟨bl, off, rfl, hbl, hkid⟩ := he.kid (by omega)
      obtain ⟨bl', off', rfl, hbl', hkid'⟩ := hf.kid (by omega)
      have hle' := hf.k.le
      have := refSame_made e.c e.n e.m e.b.length f.b.length e.kids.length Ab Ab' bl off bl' off' cb ck cb' ck' (strB e.b) (strB f.b) e.kids f.kids w (hp _ _) (hq _ _) hs rfl h5.symm he.k.le (by
        rw [h5]
        exact hf.k.le) he.k.big hf.k.big hbl hbl' (fun i hi => by
        obtain ⟨Ab2, cb2, Ak2, ck2, g1, g2⟩ := hkid i hi
        obtain ⟨Ab3, cb3, Ak3, ck3, g3, g4⟩ := hkid' i (by omega)
        refine ⟨Ab2, cb2, Ak2, ck2, Ab3, cb3, Ak3, ck3, g1, g3, fun w' hb => ih _ (List.getElem_mem hi) _ w' Ab2 cb2 Ak2 ck2 Ab3 cb3 Ak3 ck3 ((g2.below hb).more fun i hi => Nat.lt_of_lt_of_le hi hb.size) ((g4.below hb).more fun i hi => Nat.lt_of_lt_of_le hi hb.size) (Fo.byt_mem hbe.2 _ (List.getElem_mem hi)) (Fo.byt_mem hbf.2 _ (List.getElem_mem _))⟩)
      unfold elV
      rw [← h1, ← h2, ← h3, ← h5]
      exact this
  · have hh' : e.head f = false := by simpa using hh
    rw [hh', Bool.false_and]
    refine refSame_head e.c e.n f.c f.n e.m f.m e.b.length e.kids.length f.b.length f.kids.length Ab Ak Ab' Ak' cb ck cb' ck' (strB e.b) (strB f.b) w (hp _ _) (hq _ _) ?_
    rw [hstr, ← hh']
    unfold El.head
    have e1 : (e.c == f.c) = decide (e.c = f.c) := by rw [Bool.eq_iff_iff]; simp
    have e2 : (e.m == f.m) = decide (e.m = f.m) := by rw [Bool.eq_iff_iff]; simp
    have e3 : (e.n == f.n) = decide (e.n = f.n) := by rw [Bool.eq_iff_iff]; simp
    have e4 : ((e.kids.length : Int) == (f.kids.length : Int)) = decide (e.kids.length = f.kids.length) := by rw [Bool.eq_iff_iff]; simp; omega
    rw [e1, e2, e3, e4]
end Go.Proofs.Ytgdoepkoakpnbaa
