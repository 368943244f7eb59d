/-
  Rows of strings of the call's own.
-/
import Derived.Test.YtcbiedonmibfaaaGreatDoorWA
import Derived.Laws.OwnMore
import Derived.Test.YtcbiedonmibfaaaGreatDoorDT
namespace Go.Proofs.YtcbiedonmibfaaaGreatDoor
open Go.RowKit
def baO (l : List UInt8) : ByteArray := ⟨l.toArray⟩
theorem baO_list (l : List UInt8) : (baO l).data.toList = l := rfl
theorem eq_baO {s : ByteArray} {l : List UInt8} (h : s.data.toList = l) : s = baO l := by rw [← h]; rfl
def cellsO (L : List (List UInt8)) : List Value := L.map fun l => .string (baO l)
theorem cellsO_len (L : List (List UInt8)) : (cellsO L).length = L.length := by simp [cellsO]
def OwnO (w : World) (base : Nat) (v : Value) (L : List (List UInt8)) : Prop := w.ownsRow base 9 1 v L.length (cellsO L)
theorem OwnO.nil (w : World) (base : Nat) : OwnO w base (.slice none 0 0) [] := ⟨rfl, .inl ⟨rfl, rfl⟩⟩
theorem OwnO.alloc {w : World} {base : Nat} {v : Value} {L : List (List UInt8)} (h : OwnO w base v L) (o : Obj) : OwnO (w.alloc o) base v L := World.ownsRow.alloc h o
theorem info_str : (Tryz.prog.info? 9).map (fun i => (i.zero, i.size, i.bytes)) = some (some (.string ⟨#[]⟩), 1, 16) := by kernel_rfl
theorem OwnO.form {w : World} {base : Nat} {v : Value} {L : List (List UInt8)} (h : OwnO w base v L) : (v = .slice none 0 0 ∧ L = []) ∨ ∃ g c, v = .slice (some ⟨g, 0, none⟩) L.length c ∧ base ≤ g ∧ g < w.heap.size ∧ L.length ≤ c ∧ c ≤ 9223372036854775807 ∧ ∀ (j : Nat) (l : List UInt8), L[j]? = some l → w.cell? ⟨g, j, none⟩ = some (.string (baO l)) := by
 obtain ⟨_, h0 | ⟨g, cap, cur, hv, hb, hg, hn, hm, hs, hx⟩⟩ := h
 · exact .inl ⟨h0.1, List.eq_nil_of_length_eq_zero h0.2⟩
 · refine .inr ⟨g, cap, hv, hb, (Array.getElem?_eq_some_iff.1 hg).1, hn, by unfold maxLen at hm; exact hm, fun j l hj => ?_⟩
   rw [cell_of_row w g j cur _ _ hg]
   have hjl : j < L.length := (List.getElem?_eq_some_iff.1 hj).1
   have h2 : (cellsO L)[j]? = some (Value.string (baO l)) := by simp [cellsO, hj]
   rw [← hx, List.getElem?_take, if_pos (by omega)] at h2
   simpa using h2
theorem OwnO.below {w w' : World} {base K : Nat} {v : Value} {L : List (List UInt8)} (h : OwnO w base v L) (hb : Below K w w') (hK : w.heap.size ≤ K) : OwnO w' base v L := by
 obtain ⟨h1, h0 | ⟨g, cap, cur, hv, hbs, hg, hn, hm, hs, hx⟩⟩ := h
 · exact ⟨h1, .inl h0⟩
 · refine ⟨h1, .inr ⟨g, cap, cur, hv, hbs, ?_, hn, hm, hs, hx⟩⟩
   rw [hb.block g (Nat.lt_of_lt_of_le (Array.getElem?_eq_some_iff.1 hg).1 hK)]
   exact hg
theorem cellsO_app (L M : List (List UInt8)) : cellsO (L ++ M) = cellsO L ++ cellsO M := by simp [cellsO]
end Go.Proofs.YtcbiedonmibfaaaGreatDoor
namespace Go.Proofs.YtcbiedonmibfaaaGreatDoor
open Go.RowKit
structure SrcS (w : World) (I : Nat → Prop) (A : Option Addr) (c : Nat) (L : List (List UInt8)) : Prop where
 le : L.length ≤ c
 big : c ≤ 9223372036854775807
 nil : A = none → c = 0
 at_ : ∀ ad, A = some ad → (0 < L.length → I ad.block) ∧ ∀ (j : Nat) (l : List UInt8), L[j]? = some l → w.cell? (ad.add j) = some (.string (baO l))
theorem SrcS.none_ (w : World) (I : Nat → Prop) : SrcS w I none 0 [] := ⟨Nat.le_refl _, by omega, fun _ => rfl, fun _ h => by cases h⟩
theorem SrcS.keep {w w' : World} {I : Nat → Prop} {A : Option Addr} {c : Nat} {L : List (List UInt8)} (h : SrcS w I A c L) (hk : ∀ p : Addr, I p.block → w'.cell? p = w.cell? p) : SrcS w' I A c L := by
 refine ⟨h.le, h.big, h.nil, fun ad e => ⟨(h.at_ ad e).1, fun j l hj => ?_⟩⟩
 have hl : j < L.length := (List.getElem?_eq_some_iff.1 hj).1
 rw [hk _ (by rw [add_block]; exact (h.at_ ad e).1 (by omega))]
 exact (h.at_ ad e).2 j l hj
theorem SrcS.more {w : World} {I J : Nat → Prop} {A : Option Addr} {c : Nat} {L : List (List UInt8)} (h : SrcS w I A c L) (hb : ∀ i, I i → J i) : SrcS w J A c L :=
 ⟨h.le, h.big, h.nil, fun ad e => ⟨fun h0 => hb _ ((h.at_ ad e).1 h0), (h.at_ ad e).2⟩⟩
def GlAt (w : World) (I : Nat → Prop) : Gl → Nat → Nat → Prop
 | .nil, _, _ => True
 | .cons k g t v a z b nx, bl, off =>
   w.cell? ⟨bl, off, none⟩ = some (.int .i64 k) ∧
   (∃ A cp, w.cell? ⟨bl, off + 1, none⟩ = some (.slice A g.list.length cp) ∧ g.list.length ≤ cp ∧ cp ≤ 9223372036854775807 ∧ (A = none → cp = 0) ∧ ∀ ad, A = some ad → 0 < g.list.length → ad.spot = none ∧ I ad.block ∧ GlAt w I g ad.block ad.off) ∧
   w.cell? ⟨bl, off + 2, none⟩ = some (.string (baO t)) ∧ w.cell? ⟨bl, off + 3, none⟩ = some (.string (baO v)) ∧ w.cell? ⟨bl, off + 4, none⟩ = some (.string (baO a)) ∧ w.cell? ⟨bl, off + 5, none⟩ = some (.string (baO z)) ∧
   (∃ A cp, w.cell? ⟨bl, off + 6, none⟩ = some (.slice A b.length cp) ∧ SrcS w I A cp b) ∧
   GlAt w I nx bl (off + 7)
structure SlG (w : World) (I : Nat → Prop) (A : Option Addr) (cp : Nat) (g : Gl) : Prop where
 le : g.list.length ≤ cp
 big : cp ≤ 9223372036854775807
 nil : A = none → cp = 0
 at_ : ∀ ad, A = some ad → 0 < g.list.length → ad.spot = none ∧ I ad.block ∧ GlAt w I g ad.block ad.off
structure FtAt (w : World) (f : Ft) (bl off : Nat) (Ak : Option Addr) (ck : Nat) (Ab : Option Addr) (cb : Nat) : Prop where
 k : w.cell? ⟨bl, off, none⟩ = some (.int .i64 f.k)
 g : w.cell? ⟨bl, off + 1, none⟩ = some (.slice Ak f.kids.length ck)
 t : w.cell? ⟨bl, off + 2, none⟩ = some (.string (baO f.t))
 v : w.cell? ⟨bl, off + 3, none⟩ = some (.string (baO f.v))
 a : w.cell? ⟨bl, off + 4, none⟩ = some (.string (baO f.a))
 z : w.cell? ⟨bl, off + 5, none⟩ = some (.string (baO f.z))
 b : w.cell? ⟨bl, off + 6, none⟩ = some (.slice Ab f.b.length cb)
structure FtIn (w : World) (I : Nat → Prop) (f : Ft) (Ak : Option Addr) (ck : Nat) (Ab : Option Addr) (cb : Nat) : Prop where
 g : SlG w I Ak ck f.g
 b : SrcS w I Ab cb f.b
def ftV (f : Ft) (Ak : Option Addr) (ck : Nat) (Ab : Option Addr) (cb : Nat) : Value := .agg #[.int .i64 f.k, .slice Ak f.kids.length ck, .string (baO f.t), .string (baO f.v), .string (baO f.a), .string (baO f.z), .slice Ab f.b.length cb]
theorem GlAt.get {w : World} {I : Nat → Prop} : ∀ {g : Gl} {bl off : Nat}, GlAt w I g bl off → ∀ (i : Nat) (hi : i < g.list.length), ∃ Ak ck Ab cb, FtAt w g.list[i] bl (off + i * 7) Ak ck Ab cb ∧ FtIn w I g.list[i] Ak ck Ab cb
 | .nil, _, _, _, i, hi => by simp [Gl.list] at hi
 | .cons k g t v a z b nx, bl, off, h, 0, hi => by
   obtain ⟨h1, ⟨Ak, ck, h2, h3, h4, h5, h6⟩, h7, h8, h9, h10, ⟨Ab, cb, h11, h12⟩, _⟩ := h
   refine ⟨Ak, ck, Ab, cb, ?_, ?_⟩
   · simp only [Nat.zero_mul, Nat.add_zero]
     exact ⟨h1, h2, h7, h8, h9, h10, h11⟩
   · exact ⟨⟨h3, h4, h5, h6⟩, h12⟩
 | .cons k g t v a z b nx, bl, off, h, i + 1, hi => by
   obtain ⟨_, _, _, _, _, _, _, hn⟩ := h
   have := GlAt.get hn i (by simpa [Gl.list] using hi)
   rw [show off + (i + 1) * 7 = off + 7 + i * 7 from by omega]
   exact this
theorem GlAt.keep {w w' : World} {I : Nat → Prop} (hk : ∀ p : Addr, I p.block → w'.cell? p = w.cell? p) : ∀ {g : Gl} {bl off : Nat}, GlAt w I g bl off → I bl → GlAt w' I g bl off
 | .nil, _, _, _, _ => trivial
 | .cons k g t v a z b nx, bl, off, h, hb => by
   obtain ⟨h1, ⟨Ak, ck, h2, h3, h4, h5, h6⟩, h7, h8, h9, h10, ⟨Ab, cb, h11, h12⟩, hn⟩ := h
   refine ⟨?_, ⟨Ak, ck, ?_, h3, h4, h5, fun ad e h0 => ?_⟩, ?_, ?_, ?_, ?_, ⟨Ab, cb, ?_, h12.keep hk⟩, GlAt.keep hk hn hb⟩
   · rw [hk _ hb]; exact h1
   · rw [hk _ hb]; exact h2
   · obtain ⟨a1, a2, a3⟩ := h6 ad e h0
     exact ⟨a1, a2, GlAt.keep hk a3 a2⟩
   · rw [hk _ hb]; exact h7
   · rw [hk _ hb]; exact h8
   · rw [hk _ hb]; exact h9
   · rw [hk _ hb]; exact h10
   · rw [hk _ hb]; exact h11
theorem GlAt.more {w : World} {I J : Nat → Prop} (hJ : ∀ i, I i → J i) : ∀ {g : Gl} {bl off : Nat}, GlAt w I g bl off → GlAt w J g bl off
 | .nil, _, _, _ => trivial
 | .cons k g t v a z b nx, bl, off, h => by
   obtain ⟨h1, ⟨Ak, ck, h2, h3, h4, h5, h6⟩, h7, h8, h9, h10, ⟨Ab, cb, h11, h12⟩, hn⟩ := h
   exact ⟨h1, ⟨Ak, ck, h2, h3, h4, h5, fun ad e h0 => ⟨(h6 ad e h0).1, hJ _ (h6 ad e h0).2.1, GlAt.more hJ (h6 ad e h0).2.2⟩⟩, h7, h8, h9, h10, ⟨Ab, cb, h11, h12.more hJ⟩, GlAt.more hJ hn⟩
theorem SlG.keep {w w' : World} {I : Nat → Prop} {A : Option Addr} {cp : Nat} {g : Gl} (h : SlG w I A cp g) (hk : ∀ p : Addr, I p.block → w'.cell? p = w.cell? p) : SlG w' I A cp g :=
 ⟨h.le, h.big, h.nil, fun ad e h0 => ⟨(h.at_ ad e h0).1, (h.at_ ad e h0).2.1, GlAt.keep hk (h.at_ ad e h0).2.2 (h.at_ ad e h0).2.1⟩⟩
theorem SlG.more {w : World} {I J : Nat → Prop} {A : Option Addr} {cp : Nat} {g : Gl} (h : SlG w I A cp g) (hJ : ∀ i, I i → J i) : SlG w J A cp g :=
 ⟨h.le, h.big, h.nil, fun ad e h0 => ⟨(h.at_ ad e h0).1, hJ _ (h.at_ ad e h0).2.1, (h.at_ ad e h0).2.2.more hJ⟩⟩
theorem FtIn.keep {w w' : World} {I : Nat → Prop} {f : Ft} {Ak : Option Addr} {ck : Nat} {Ab : Option Addr} {cb : Nat} (h : FtIn w I f Ak ck Ab cb) (hk : ∀ p : Addr, I p.block → w'.cell? p = w.cell? p) : FtIn w' I f Ak ck Ab cb := ⟨h.g.keep hk, h.b.keep hk⟩
theorem FtIn.more {w : World} {I J : Nat → Prop} {f : Ft} {Ak : Option Addr} {ck : Nat} {Ab : Option Addr} {cb : Nat} (h : FtIn w I f Ak ck Ab cb) (hJ : ∀ i, I i → J i) : FtIn w J f Ak ck Ab cb := ⟨h.g.more hJ, h.b.more hJ⟩
theorem FtIn.below {w w' : World} {K : Nat} {f : Ft} {Ak : Option Addr} {ck : Nat} {Ab : Option Addr} {cb : Nat} (h : FtIn w (· < K) f Ak ck Ab cb) (hb : Below K w w') : FtIn w' (· < K) f Ak ck Ab cb := h.keep fun _ hp => hb.cell hp
theorem FtIn.kid {w : World} {I : Nat → Prop} {f : Ft} {Ak : Option Addr} {ck : Nat} {Ab : Option Addr} {cb : Nat} (h : FtIn w I f Ak ck Ab cb) (h0 : 0 < f.kids.length) :
 ∃ bl off, Ak = some ⟨bl, off, none⟩ ∧ I bl ∧ ∀ (i : Nat) (hi : i < f.kids.length), ∃ Ak ck Ab cb, FtAt w f.kids[i] bl (off + i * 7) Ak ck Ab cb ∧ FtIn w I f.kids[i] Ak ck Ab cb := by
 rcases Ak with _ | ⟨bl, off, spot⟩
 · have := h.g.nil rfl
   have h2 := h.g.le
   have h3 : 0 < f.g.list.length := h0
   omega
 · obtain ⟨h1, h2, h3⟩ := h.g.at_ _ rfl h0
   have : spot = none := h1
   subst this
   exact ⟨bl, off, rfl, h2, fun i hi => h3.get i hi⟩
theorem FtIn.part {w : World} {I : Nat → Prop} {f : Ft} {Ak : Option Addr} {ck : Nat} {Ab : Option Addr} {cb : Nat} (h : FtIn w I f Ak ck Ab cb) (h0 : 0 < f.b.length) :
 ∃ ad, Ab = some ad ∧ I ad.block ∧ ∀ (i : Nat) (hi : i < f.b.length), w.cell? (ad.add i) = some (.string (baO f.b[i])) := by
 rcases Ab with _ | ad
 · have := h.b.nil rfl
   have h2 := h.b.le
   omega
 · exact ⟨ad, rfl, (h.b.at_ ad rfl).1 h0, fun i hi => (h.b.at_ ad rfl).2 i _ (List.getElem?_eq_getElem hi)⟩
theorem glAt_ofR {w : World} {I : Nat → Prop} : ∀ (l : List Ft) (bl off : Nat), (∀ (i : Nat) (hi : i < l.length), ∃ Ak ck Ab cb, FtAt w l[i] bl (off + i * 7) Ak ck Ab cb ∧ FtIn w I l[i] Ak ck Ab cb) → GlAt w I (Gl.of l) bl off
 | [], _, _, _ => trivial
 | f :: r, bl, off, h => by
   obtain ⟨Ak, ck, Ab, cb, h1, h2⟩ := h 0 (by simp)
   simp only [List.getElem_cons_zero, Nat.zero_mul, Nat.add_zero] at h1 h2
   refine ⟨h1.k, ⟨Ak, ck, h1.g, h2.g.le, h2.g.big, h2.g.nil, h2.g.at_⟩, h1.t, h1.v, h1.a, h1.z, ⟨Ab, cb, h1.b, h2.b⟩, glAt_ofR r bl (off + 7) fun i hi => ?_⟩
   have := h (i + 1) (by simpa using hi)
   rw [show off + 7 + i * 7 = off + (i + 1) * 7 from by omega]
   simpa using this
end Go.Proofs.YtcbiedonmibfaaaGreatDoor
namespace Go.Proofs.YtcbiedonmibfaaaGreatDoor
open Go.RowKit
def GlFz (w : World) : Gl → Nat → Nat → Prop
 | .nil, _, _ => True
 | .cons _ g _ _ _ _ _ nx, bl, off => (∀ ad cp, w.cell? ⟨bl, off + 1, none⟩ = some (.slice (some ad) g.list.length cp) → 0 < g.list.length → w.frozen? ad = false ∧ GlFz w g ad.block ad.off) ∧ GlFz w nx bl (off + 7)
def FtFz (w : World) (f : Ft) (Ak : Option Addr) : Prop := ∀ ad, Ak = some ad → 0 < f.kids.length → w.frozen? ad = false ∧ GlFz w f.g ad.block ad.off
theorem GlFz.get {w : World} : ∀ {g : Gl} {bl off : Nat}, GlFz w g bl off → ∀ (i : Nat) (hi : i < g.list.length) (ad : Addr) (cp : Nat), w.cell? ⟨bl, off + i * 7 + 1, none⟩ = some (.slice (some ad) g.list[i].kids.length cp) → FtFz w g.list[i] (some ad)
 | .nil, _, _, _, i, hi => by simp [Gl.list] at hi
 | .cons k g t v a z b nx, bl, off, h, 0, hi => by
   intro ad cp hc ad2 e h0
   injection e with e
   subst e
   exact h.1 ad cp (by rw [Nat.zero_mul, Nat.add_zero] at hc; exact hc) h0
 | .cons k g t v a z b nx, bl, off, h, i + 1, hi => by
   intro ad cp hc
   have := GlFz.get h.2 i (by simpa [Gl.list] using hi) ad cp
   rw [show off + (i + 1) * 7 = off + 7 + i * 7 from by omega] at hc
   exact this hc
theorem GlFz.keep {w w' : World} {K : Nat} (hb : Below K w w') : ∀ {g : Gl} {bl off : Nat}, GlAt w (· < K) g bl off → bl < K → GlFz w g bl off → GlFz w' g bl off
 | .nil, _, _, _, _, _ => trivial
 | .cons k g t v a z b nx, bl, off, ha, hl, h => by
   obtain ⟨_, ⟨A, cq, h2, _, _, _, h6⟩, _, _, _, _, _, hn⟩ := ha
   refine ⟨fun ad cp hc h0 => ?_, GlFz.keep hb hn hl h.2⟩
   rw [hb.cell (p := ⟨bl, off + 1, none⟩) hl] at hc
   rw [h2] at hc
   injection hc with hc
   injection hc with hA _ hcp
   subst hA hcp
   obtain ⟨_, a2, a3⟩ := h6 ad rfl h0
   obtain ⟨f1, f2⟩ := h.1 ad cq h2 h0
   exact ⟨(hb.frozen (p := ad) a2).trans f1, GlFz.keep hb a3 a2 f2⟩
theorem FtFz.below {w w' : World} {K : Nat} {f : Ft} {Ak Ab : Option Addr} {ck cb : Nat} (h : FtFz w f Ak) (hin : FtIn w (· < K) f Ak ck Ab cb) (hb : Below K w w') : FtFz w' f Ak := by
 intro ad e h0
 obtain ⟨a1, a2, a3⟩ := hin.g.at_ ad e h0
 obtain ⟨f1, f2⟩ := h ad e h0
 exact ⟨(hb.frozen (p := ad) a2).trans f1, GlFz.keep hb a3 a2 f2⟩
theorem glFz_ofR {w : World} : ∀ (l : List Ft) (bl off : Nat), (∀ (i : Nat) (hi : i < l.length), ∃ Ak ck Ab cb, FtAt w l[i] bl (off + i * 7) Ak ck Ab cb ∧ FtFz w l[i] Ak) → GlFz w (Gl.of l) bl off
 | [], _, _, _ => trivial
 | f :: r, bl, off, h => by
   refine ⟨fun ad cp hc h0 => ?_, glFz_ofR r bl (off + 7) fun i hi => ?_⟩
   · obtain ⟨Ak, ck, Ab, cb, h1, h2⟩ := h 0 (by simp)
     have h3 := h1.g
     simp only [List.getElem_cons_zero, Nat.zero_mul, Nat.add_zero] at h2 h3
     rw [hc] at h3
     injection h3 with h3
     injection h3 with h4 _ _
     exact h2 ad h4.symm h0
   · have := h (i + 1) (by simpa using hi)
     rw [show off + 7 + i * 7 = off + (i + 1) * 7 from by omega]
     simpa using this
structure FtInZ (w : World) (f : Ft) (Ak : Option Addr) (ck : Nat) (Ab : Option Addr) (cb : Nat) : Prop where
 in_ : FtIn w (· < w.heap.size) f Ak ck Ab cb
 fz : FtFz w f Ak
theorem FtInZ.go {W W' : World} {f : Ft} {Ak : Option Addr} {ck : Nat} {Ab : Option Addr} {cb : Nat} (h : FtInZ W f Ak ck Ab cb) (hb : Below W.heap.size W W') : FtInZ W' f Ak ck Ab cb :=
 ⟨(h.in_.keep fun _ hp => hb.cell hp).more fun _ hp => Nat.lt_of_lt_of_le hp hb.size, h.fz.below h.in_ hb⟩
end Go.Proofs.YtcbiedonmibfaaaGreatDoor
