/-
  The document's in: the element that bytes begin with.
-/
import Derived.Test.YtgdoepkoakpnbaaBerRow
namespace Go.Proofs.Ytgdoepkoakpnbaa
open Go.RowKit

theorem SlI.nil0 (w : World) (I : Nat → Prop) : SlI w I none 0 .nil := ⟨Nat.le_refl _, by omega, fun _ => rfl, fun _ e => by cases e⟩
/-- What in answers. -/
def InPost (q : El × Nat) (K : Nat) (w : World) (en : Ending) (w' : World) : Prop :=
  ∃ (Ab : Option Addr) (cb : Nat) (Ak : Option Addr) (ck : Nat), en = .returned (.tuple #[elV q.1 Ab cb Ak ck, .int .i64 (q.2 : Int)]) ∧
    ElIn w' (fun b => b < K ∨ (w.heap.size ≤ b ∧ b < w'.heap.size)) q.1 Ab cb Ak ck ∧ Below w.heap.size w w'

set_option maxRecDepth 8000 in
set_option maxHeartbeats 800000 in
theorem in_prim (b off cp d c n u er al fr : Nat) (l : List Nat) (w : World) (K : Nat) (hK : K ≤ w.heap.size) (hs : Src w K (some ⟨b, off, none⟩) cp l) (hl : l.length ≤ 1048600) (hcp : cp ≤ 9223372036854775807) (hby : ∀ x ∈ l, x < 256)
    (hT : rdT l = (c, false, n, u, er)) (hH : hdT l = (al, fr, 0)) (h1 : fr ≤ al) (h2 : al ≤ l.length) :
    Calls Try.prog 34 #[.slice (some ⟨b, off, none⟩) l.length cp, .int .i64 (d : Int)] w (InPost (⟨(c : Int), false, (n : Int), (l.take al).drop fr, .nil⟩, 0) K w) := by
  have CH : ∀ w', Below w.heap.size w w' → Calls Try.prog 31 #[.slice (some ⟨b, off, none⟩) l.length cp] w' fun e w'' => e = .returned (tup3 (al, fr, 0)) ∧ w' = w'' := by
    intro w' hb
    rw [← hH]
    exact refHead_any _ cp l w' K (hs.below (hb.mono hK)) hl hcp hby
  have CT : ∀ w', Below w.heap.size w w' → Calls Try.prog 49 #[.slice (some ⟨b, off, none⟩) l.length cp] w' fun e w'' => e = .returned (tup5 (c, false, n, u, er)) ∧ w' = w'' := by
    intro w' hb
    rw [← hT]
    exact ref_any _ cp l w' K (hs.below (hb.mono hK)) hl hby
  replace CH := Lib.hid CH
  replace CT := Lib.hid CT
  have hcap := hs.le
  replace hs := Lib.hid hs
  have hlen : ((l.take al).drop fr).length = al - fr := by rw [List.length_drop, List.length_take]; omega
  by_cases hfc : fr = cp
  · have hac : al = cp := by omega
    subst hfc
    subst hac
    go_enter Try.func34, Try.ntmps34
    go_wp2_with fail
    refine (CH.out _ (by go_grown)).mono ?_
    rintro en w2 ⟨rfl, rfl⟩
    unfold tup3
    dsimp only []
    go_wp2_with fail
    refine (CT.out _ (by go_grown)).mono ?_
    rintro en w2 ⟨rfl, rfl⟩
    unfold tup5
    dsimp only []
    go_wp2_with fail
    go_returns
    refine ⟨some ⟨b, off, none⟩, 0, none, 0, ?_, ⟨⟨by rw [hlen]; omega, (fun e => by cases e), fun ad e => ⟨fun h0 => by rw [hlen] at h0; omega, fun j n hj => ?_⟩⟩, SlI.nil0 _ _⟩, by go_grown⟩
    · unfold elV
      rw [hlen]
      simp
      rfl
    · have := List.getElem?_eq_some_iff.1 hj
      obtain ⟨h3, _⟩ := this
      rw [hlen] at h3
      omega
  · go_enter Try.func34, Try.ntmps34
    go_wp2_with fail
    refine (CH.out _ (by go_grown)).mono ?_
    rintro en w2 ⟨rfl, rfl⟩
    unfold tup3
    dsimp only []
    go_wp2_with fail
    refine (CT.out _ (by go_grown)).mono ?_
    rintro en w2 ⟨rfl, rfl⟩
    unfold tup5
    dsimp only []
    go_wp2_with fail
    go_returns
    refine ⟨some ⟨b, off + fr, none⟩, cp - fr, none, 0, ?_, ⟨(((hs.out.take al).behind (f := fr) (by rw [List.length_take]; omega)).below (w' := (w.alloc _).alloc _) ((Below.refl _ _).alloc hK _ |>.alloc (by simp; omega) _)).toI.more fun _ h => .inl h, SlI.nil0 _ _⟩, by go_grown⟩
    unfold elV
    rw [hlen]
    rfl
end Go.Proofs.Ytgdoepkoakpnbaa
