/-
  Filters in memory that bears no mark where a list of filters begins.
-/
import Derived.Test.YtkffgdndglfcfaaGreatDoorFltMem
namespace Go.Proofs.YtkffgdndglfcfaaGreatDoor
open Go.RowKit

/-! What is not marked. -/
def GlFz (w : World) : Gl → Nat → Nat → Prop
  | .nil, _, _ => True
  | .cons _ g _ _ _ _ _ nx, bl, off => (∀ ad cp, w.cell? ⟨bl, off + 1, none⟩ = some (.slice (some ad) g.list.length cp) → 0 < g.list.length → w.frozen? ad = false ∧ GlFz w g ad.block ad.off) ∧ GlFz w nx bl (off + 7)
def FtFz (w : World) (f : Ft) (Ak : Option Addr) : Prop := ∀ ad, Ak = some ad → 0 < f.kids.length → w.frozen? ad = false ∧ GlFz w f.g ad.block ad.off
theorem GlFz.get {w : World} : ∀ {g : Gl} {bl off : Nat}, GlFz w g bl off → ∀ (i : Nat) (hi : i < g.list.length) (ad : Addr) (cp : Nat), w.cell? ⟨bl, off + i * 7 + 1, none⟩ = some (.slice (some ad) g.list[i].kids.length cp) → FtFz w g.list[i] (some ad)
  | .nil, _, _, _, i, hi => by simp [Gl.list] at hi
  | .cons k g t v a z b nx, bl, off, h, 0, hi => by
    intro ad cp hc ad2 e h0
    injection e with e
    subst e
    exact h.1 ad cp (by rw [Nat.zero_mul, Nat.add_zero] at hc; exact hc) h0
  | .cons k g t v a z b nx, bl, off, h, i + 1, hi => by
    intro ad cp hc
    have := GlFz.get h.2 i (by simpa [Gl.list] using hi) ad cp
    rw [show off + (i + 1) * 7 = off + 7 + i * 7 from by omega] at hc
    exact this hc
theorem GlFz.keep {w w' : World} {K : Nat} (hb : Below K w w') : ∀ {g : Gl} {bl off : Nat}, GlAt w (· < K) g bl off → bl < K → GlFz w g bl off → GlFz w' g bl off
  | .nil, _, _, _, _, _ => trivial
  | .cons k g t v a z b nx, bl, off, ha, hl, h => by
    obtain ⟨_, ⟨A, cq, h2, _, _, _, h6⟩, _, _, _, _, _, hn⟩ := ha
    refine ⟨fun ad cp hc h0 => ?_, GlFz.keep hb hn hl h.2⟩
    rw [hb.cell (p := ⟨bl, off + 1, none⟩) hl] at hc
    rw [h2] at hc
    injection hc with hc
    injection hc with hA _ hcp
    subst hA hcp
    obtain ⟨_, a2, a3⟩ := h6 ad rfl h0
    obtain ⟨f1, f2⟩ := h.1 ad cq h2 h0
    exact ⟨(hb.frozen (p := ad) a2).trans f1, GlFz.keep hb a3 a2 f2⟩
theorem FtFz.below {w w' : World} {K : Nat} {f : Ft} {Ak Ab : Option Addr} {ck cb : Nat} (h : FtFz w f Ak) (hin : FtIn w (· < K) f Ak ck Ab cb) (hb : Below K w w') : FtFz w' f Ak := by
  intro ad e h0
  obtain ⟨a1, a2, a3⟩ := hin.g.at_ ad e h0
  obtain ⟨f1, f2⟩ := h ad e h0
  exact ⟨(hb.frozen (p := ad) a2).trans f1, GlFz.keep hb a3 a2 f2⟩
theorem glFz_ofR {w : World} : ∀ (l : List Ft) (bl off : Nat), (∀ (i : Nat) (hi : i < l.length), ∃ Ak ck Ab cb, FtAt w l[i] bl (off + i * 7) Ak ck Ab cb ∧ FtFz w l[i] Ak) → GlFz w (Gl.of l) bl off
  | [], _, _, _ => trivial
  | f :: r, bl, off, h => by
    refine ⟨fun ad cp hc h0 => ?_, glFz_ofR r bl (off + 7) fun i hi => ?_⟩
    · obtain ⟨Ak, ck, Ab, cb, h1, h2⟩ := h 0 (by simp)
      have h3 := h1.g
      simp only [List.getElem_cons_zero, Nat.zero_mul, Nat.add_zero] at h2 h3
      rw [hc] at h3
      injection h3 with h3
      injection h3 with h4 _ _
      exact h2 ad h4.symm h0
    · have := h (i + 1) (by simpa using hi)
      rw [show off + 7 + i * 7 = off + (i + 1) * 7 from by omega]
      simpa using this
/-- A filter in memory, no list's place marked. -/
structure FtInZ (w : World) (f : Ft) (Ak : Option Addr) (ck : Nat) (Ab : Option Addr) (cb : Nat) : Prop where
  in_ : FtIn w (· < w.heap.size) f Ak ck Ab cb
  fz : FtFz w f Ak
theorem FtInZ.go {W W' : World} {f : Ft} {Ak : Option Addr} {ck : Nat} {Ab : Option Addr} {cb : Nat} (h : FtInZ W f Ak ck Ab cb) (hb : Below W.heap.size W W') : FtInZ W' f Ak ck Ab cb :=
  ⟨(h.in_.keep fun _ hp => hb.cell hp).more fun _ hp => Nat.lt_of_lt_of_le hp hb.size, h.fz.below h.in_ hb⟩
end Go.Proofs.YtkffgdndglfcfaaGreatDoor
