/-
  Trees of elements: as data, and how they lie in memory.
-/
import Derived.Test.YtgdoepkoakpnbaaAppend
import Derived.Test.YtgdoepkoakpnbaaBackNum
namespace Go.Proofs.Ytgdoepkoakpnbaa
open Go.RowKit

/-- A row of elements: class, made, number, bytes, kids; and those behind it. -/
inductive Fo where
  | nil : Fo
  | cons (c : Int) (m : Bool) (n : Int) (b : List Nat) (k nx : Fo) : Fo
/-- One element. -/
structure El where
  c : Int
  m : Bool
  n : Int
  b : List Nat
  k : Fo
def Fo.list : Fo → List El
  | .nil => []
  | .cons c m n b k nx => ⟨c, m, n, b, k⟩ :: nx.list
def El.kids (e : El) : List El := e.k.list
def Fo.of : List El → Fo
  | [] => .nil
  | e :: r => .cons e.c e.m e.n e.b e.k (Fo.of r)
theorem Fo.of_list : ∀ f : Fo, Fo.of f.list = f
  | .nil => rfl
  | .cons c m n b k nx => by rw [Fo.list, Fo.of, Fo.of_list nx]
theorem Fo.list_of : ∀ l : List El, (Fo.of l).list = l
  | [] => rfl
  | e :: r => by rw [Fo.of, Fo.list, Fo.list_of r]
/-- Induction over an element: it may be taken of all its kids. -/
theorem El.ind {Q : El → Prop} (h : ∀ e, (∀ e' ∈ e.kids, Q e') → Q e) (e : El) : Q e := by
  have all : ∀ f : Fo, ∀ e ∈ f.list, Q e := by
    intro f
    induction f with
    | nil => intro e he; cases he
    | cons c m n b k nx ihk ihn =>
      intro e he
      rcases List.mem_cons.1 he with rfl | he
      · exact h _ ihk
      · exact ihn e he
  exact h e (all e.k)

def rtB (c n : Int) : Bool := decide (0 ≤ c) && decide (c ≤ 3) && decide (0 ≤ n) && decide (n ≤ 268435455)
theorem rtB_iff (c n : Int) : rtB c n = true ↔ RightT c n := by
  unfold rtB RightT
  simp [and_assoc]
/-- Well formed. -/
def Fo.right : Fo → Bool
  | .nil => true
  | .cons c m n b k nx => rtB c n && (m || k.list.isEmpty) && (!m || b.isEmpty) && k.right && nx.right
def El.one (e : El) : Bool := rtB e.c e.n && (e.m || e.kids.isEmpty) && (!e.m || e.b.isEmpty)
def El.right (e : El) : Bool := e.one && e.k.right
theorem Fo.right_list : ∀ f : Fo, f.right = f.list.all El.right
  | .nil => rfl
  | .cons c m n b k nx => by
    rw [Fo.right, Fo.list, List.all_cons, Fo.right_list nx]
    rfl
theorem El.right_kids (e : El) : e.right = (e.one && e.kids.all El.right) := by rw [El.right, Fo.right_list]; rfl
/-- How deep. -/
def Fo.deep : Fo → Nat
  | .nil => 0
  | .cons _ _ _ _ k nx => max (k.deep + 1) nx.deep
def El.deep (e : El) : Nat := e.k.deep + 1
def maxL (l : List Nat) : Nat := l.foldl max 0
theorem foldl_max (l : List Nat) : ∀ a, l.foldl max a = max a (maxL l) := by
  unfold maxL
  induction l with
  | nil => intro a; simp
  | cons x r ih => intro a; rw [List.foldl_cons, List.foldl_cons, ih (max a x), ih (max 0 x)]; omega
theorem Fo.deep_list : ∀ f : Fo, f.deep = maxL (f.list.map El.deep)
  | .nil => rfl
  | .cons c m n b k nx => by
    rw [Fo.deep, Fo.list, List.map_cons, maxL, List.foldl_cons, foldl_max, Fo.deep_list nx]
    simp [El.deep]
theorem El.deep_kids (e : El) : e.deep = maxL (e.kids.map El.deep) + 1 := by rw [El.deep, Fo.deep_list]; rfl
/-- The bytes. -/
def Fo.enc : Fo → List Nat
  | .nil => []
  | .cons c m n b k nx => (tagB c m n ++ lenB ((if m then k.enc else b).length : Int) ++ (if m then k.enc else b)) ++ nx.enc
def El.inner (e : El) : List Nat := if e.m then e.k.enc else e.b
def El.enc (e : El) : List Nat := tagB e.c e.m e.n ++ lenB (e.inner.length : Int) ++ e.inner
theorem Fo.enc_list : ∀ f : Fo, f.enc = f.list.flatMap El.enc
  | .nil => rfl
  | .cons c m n b k nx => by
    rw [Fo.enc, Fo.list, List.flatMap_cons, Fo.enc_list nx]
    rfl
/-- Equal. -/
def Fo.same : Fo → Fo → Bool
  | .nil, .nil => true
  | .cons c m n b k nx, .cons c' m' n' b' k' nx' => decide (c = c') && decide (m = m') && decide (n = n') && decide (b = b') && k.same k' && nx.same nx'
  | _, _ => false
theorem Fo.same_iff : ∀ f g : Fo, f.same g = true ↔ f = g
  | .nil, .nil => by simp [Fo.same]
  | .nil, .cons .. => by simp [Fo.same]
  | .cons .., .nil => by simp [Fo.same]
  | .cons c m n b k nx, .cons c' m' n' b' k' nx' => by
    simp [Fo.same, Fo.same_iff k k', Fo.same_iff nx nx', and_assoc]

/-- The slice of bytes at A reads as l, in blocks of I. -/
structure SrcI (w : World) (I : Nat → Prop) (A : Option Addr) (c : Nat) (l : List Nat) : Prop where
  le : l.length ≤ c
  nil : A = none → c = 0
  at_ : ∀ ad, A = some ad → (0 < l.length → I ad.block) ∧ ∀ (j n : Nat), l[j]? = some n → w.cell? (ad.add j) = some (.int .u8 (n : Int))
theorem Src.toI {w : World} {K : Nat} {A : Option Addr} {c : Nat} {l : List Nat} (h : Src w K A c l) : SrcI w (· < K) A c l := ⟨h.le, h.nil, h.at_⟩
theorem SrcI.src {w : World} {K : Nat} {A : Option Addr} {c : Nat} {l : List Nat} (h : SrcI w (· < K) A c l) : Src w K A c l := ⟨h.le, h.nil, h.at_⟩
theorem SrcI.keep {w w' : World} {I : Nat → Prop} {A : Option Addr} {c : Nat} {l : List Nat} (h : SrcI w I A c l) (hk : ∀ p : Addr, I p.block → w'.cell? p = w.cell? p) : SrcI w' I A c l := by
  refine ⟨h.le, h.nil, fun ad e => ⟨(h.at_ ad e).1, fun j n hj => ?_⟩⟩
  have hl : 0 < l.length := by
    rcases l with _ | ⟨x, r⟩
    · simp at hj
    · simp
  rw [hk _ (by rw [add_block]; exact (h.at_ ad e).1 hl)]
  exact (h.at_ ad e).2 j n hj
theorem SrcI.more {w : World} {I J : Nat → Prop} {A : Option Addr} {c : Nat} {l : List Nat} (h : SrcI w I A c l) (hb : ∀ i, I i → J i) : SrcI w J A c l :=
  ⟨h.le, h.nil, fun ad e => ⟨fun h0 => hb _ ((h.at_ ad e).1 h0), (h.at_ ad e).2⟩⟩

/-- A row of elements lies in block bl from off on; what they lead to lies in blocks of I. -/
def FoAt (w : World) (I : Nat → Prop) : Fo → Nat → Nat → Prop
  | .nil, _, _ => True
  | .cons c m n b k nx, bl, off =>
    w.cell? ⟨bl, off, none⟩ = some (.int .i64 c) ∧ w.cell? ⟨bl, off + 1, none⟩ = some (.bool m) ∧ w.cell? ⟨bl, off + 2, none⟩ = some (.int .i64 n) ∧
    (∃ A cp, w.cell? ⟨bl, off + 3, none⟩ = some (.slice A b.length cp) ∧ SrcI w I A cp b) ∧
    (∃ A cp, w.cell? ⟨bl, off + 4, none⟩ = some (.slice A k.list.length cp) ∧ k.list.length ≤ cp ∧ cp ≤ 9223372036854775807 ∧ (A = none → cp = 0) ∧ ∀ ad, A = some ad → 0 < k.list.length → ad.spot = none ∧ I ad.block ∧ FoAt w I k ad.block ad.off) ∧
    FoAt w I nx bl (off + 5)
/-- The slice of elements at A reads as l. -/
structure SlI (w : World) (I : Nat → Prop) (A : Option Addr) (cp : Nat) (f : Fo) : Prop where
  le : f.list.length ≤ cp
  big : cp ≤ 9223372036854775807
  nil : A = none → cp = 0
  at_ : ∀ ad, A = some ad → 0 < f.list.length → ad.spot = none ∧ I ad.block ∧ FoAt w I f ad.block ad.off
/-- One element in memory. -/
structure ElAt (w : World) (I : Nat → Prop) (e : El) (bl off : Nat) (Ab : Option Addr) (cb : Nat) (Ak : Option Addr) (ck : Nat) : Prop where
  c : w.cell? ⟨bl, off, none⟩ = some (.int .i64 e.c)
  m : w.cell? ⟨bl, off + 1, none⟩ = some (.bool e.m)
  n : w.cell? ⟨bl, off + 2, none⟩ = some (.int .i64 e.n)
  b : w.cell? ⟨bl, off + 3, none⟩ = some (.slice Ab e.b.length cb)
  k : w.cell? ⟨bl, off + 4, none⟩ = some (.slice Ak e.kids.length ck)
/-- What an element's value leads to. -/
structure ElIn (w : World) (I : Nat → Prop) (e : El) (Ab : Option Addr) (cb : Nat) (Ak : Option Addr) (ck : Nat) : Prop where
  b : SrcI w I Ab cb e.b
  k : SlI w I Ak ck e.k
def elV (e : El) (Ab : Option Addr) (cb : Nat) (Ak : Option Addr) (ck : Nat) : Value := .agg #[.int .i64 e.c, .bool e.m, .int .i64 e.n, .slice Ab e.b.length cb, .slice Ak e.kids.length ck]

theorem FoAt.get {w : World} {I : Nat → Prop} : ∀ {f : Fo} {bl off : Nat}, FoAt w I f bl off → ∀ (i : Nat) (hi : i < f.list.length), ∃ Ab cb Ak ck, ElAt w I f.list[i] bl (off + i * 5) Ab cb Ak ck ∧ ElIn w I f.list[i] Ab cb Ak ck
  | .nil, _, _, _, i, hi => by simp [Fo.list] at hi
  | .cons c m n b k nx, bl, off, h, 0, hi => by
    obtain ⟨h1, h2, h3, ⟨Ab, cb, h4, h5⟩, ⟨Ak, ck, h6, h7, h8, h9, h10⟩, _⟩ := h
    refine ⟨Ab, cb, Ak, ck, ?_, ?_⟩
    · simp only [Nat.zero_mul, Nat.add_zero]
      exact ⟨h1, h2, h3, h4, h6⟩
    · exact ⟨h5, ⟨h7, h8, h9, h10⟩⟩
  | .cons c m n b k nx, bl, off, h, i + 1, hi => by
    obtain ⟨_, _, _, _, _, hn⟩ := h
    have := FoAt.get hn i (by simpa [Fo.list] using hi)
    rw [show off + (i + 1) * 5 = off + 5 + i * 5 from by omega]
    exact this
theorem FoAt.keep {w w' : World} {I : Nat → Prop} (hk : ∀ p : Addr, I p.block → w'.cell? p = w.cell? p) : ∀ {f : Fo} {bl off : Nat}, FoAt w I f bl off → I bl → FoAt w' I f bl off
  | .nil, _, _, _, _ => trivial
  | .cons c m n b k nx, bl, off, h, hb => by
    obtain ⟨h1, h2, h3, ⟨Ab, cb, h4, h5⟩, ⟨Ak, ck, h6, h7, h8, h9, h10⟩, hn⟩ := h
    refine ⟨?_, ?_, ?_, ⟨Ab, cb, ?_, h5.keep hk⟩, ⟨Ak, ck, ?_, h7, h8, h9, fun ad e h0 => ?_⟩, FoAt.keep hk hn hb⟩
    · rw [hk _ hb]; exact h1
    · rw [hk _ hb]; exact h2
    · rw [hk _ hb]; exact h3
    · rw [hk _ hb]; exact h4
    · rw [hk _ hb]; exact h6
    · obtain ⟨a1, a2, a3⟩ := h10 ad e h0
      exact ⟨a1, a2, FoAt.keep hk a3 a2⟩
theorem FoAt.more {w : World} {I J : Nat → Prop} (hJ : ∀ i, I i → J i) : ∀ {f : Fo} {bl off : Nat}, FoAt w I f bl off → FoAt w J f bl off
  | .nil, _, _, _ => trivial
  | .cons c m n b k nx, bl, off, h => by
    obtain ⟨h1, h2, h3, ⟨Ab, cb, h4, h5⟩, ⟨Ak, ck, h6, h7, h8, h9, h10⟩, hn⟩ := h
    exact ⟨h1, h2, h3, ⟨Ab, cb, h4, h5.more hJ⟩, ⟨Ak, ck, h6, h7, h8, h9, fun ad e h0 => ⟨(h10 ad e h0).1, hJ _ (h10 ad e h0).2.1, FoAt.more hJ (h10 ad e h0).2.2⟩⟩, FoAt.more hJ hn⟩
theorem SlI.keep {w w' : World} {I : Nat → Prop} {A : Option Addr} {cp : Nat} {f : Fo} (h : SlI w I A cp f) (hk : ∀ p : Addr, I p.block → w'.cell? p = w.cell? p) : SlI w' I A cp f :=
  ⟨h.le, h.big, h.nil, fun ad e h0 => ⟨(h.at_ ad e h0).1, (h.at_ ad e h0).2.1, FoAt.keep hk (h.at_ ad e h0).2.2 (h.at_ ad e h0).2.1⟩⟩
theorem SlI.more {w : World} {I J : Nat → Prop} {A : Option Addr} {cp : Nat} {f : Fo} (h : SlI w I A cp f) (hJ : ∀ i, I i → J i) : SlI w J A cp f :=
  ⟨h.le, h.big, h.nil, fun ad e h0 => ⟨(h.at_ ad e h0).1, hJ _ (h.at_ ad e h0).2.1, (h.at_ ad e h0).2.2.more hJ⟩⟩
theorem ElIn.keep {w w' : World} {I : Nat → Prop} {e : El} {Ab : Option Addr} {cb : Nat} {Ak : Option Addr} {ck : Nat} (h : ElIn w I e Ab cb Ak ck) (hk : ∀ p : Addr, I p.block → w'.cell? p = w.cell? p) : ElIn w' I e Ab cb Ak ck := ⟨h.b.keep hk, h.k.keep hk⟩
theorem ElIn.more {w : World} {I J : Nat → Prop} {e : El} {Ab : Option Addr} {cb : Nat} {Ak : Option Addr} {ck : Nat} (h : ElIn w I e Ab cb Ak ck) (hJ : ∀ i, I i → J i) : ElIn w J e Ab cb Ak ck := ⟨h.b.more hJ, h.k.more hJ⟩
theorem ElIn.below {w w' : World} {K : Nat} {e : El} {Ab : Option Addr} {cb : Nat} {Ak : Option Addr} {ck : Nat} (h : ElIn w (· < K) e Ab cb Ak ck) (hb : Below K w w') : ElIn w' (· < K) e Ab cb Ak ck := h.keep fun _ hp => hb.cell hp
/-- A kid. -/
theorem ElIn.kid {w : World} {I : Nat → Prop} {e : El} {Ab : Option Addr} {cb : Nat} {Ak : Option Addr} {ck : Nat} (h : ElIn w I e Ab cb Ak ck) (h0 : 0 < e.kids.length) :
    ∃ bl off, Ak = some ⟨bl, off, none⟩ ∧ I bl ∧ ∀ (i : Nat) (hi : i < e.kids.length), ∃ Ab cb Ak ck, ElAt w I e.kids[i] bl (off + i * 5) Ab cb Ak ck ∧ ElIn w I e.kids[i] Ab cb Ak ck := by
  rcases Ak with _ | ⟨bl, off, spot⟩
  · have := h.k.nil rfl
    have h2 := h.k.le
    have h3 : 0 < e.k.list.length := h0
    omega
  · obtain ⟨h1, h2, h3⟩ := h.k.at_ _ rfl h0
    have : spot = none := h1
    subst this
    exact ⟨bl, off, rfl, h2, fun i hi => h3.get i hi⟩
/-- Elements that lie one behind the other. -/
theorem foAt_ofR {w : World} {I : Nat → Prop} : ∀ (l : List El) (bl off : Nat), (∀ (i : Nat) (hi : i < l.length), ∃ Ab cb Ak ck, ElAt w I l[i] bl (off + i * 5) Ab cb Ak ck ∧ ElIn w I l[i] Ab cb Ak ck) → FoAt w I (Fo.of l) bl off
  | [], _, _, _ => trivial
  | e :: r, bl, off, h => by
    obtain ⟨Ab, cb, Ak, ck, h1, h2⟩ := h 0 (by simp)
    simp only [List.getElem_cons_zero, Nat.zero_mul, Nat.add_zero] at h1 h2
    refine ⟨h1.c, h1.m, h1.n, ⟨Ab, cb, h1.b, h2.b⟩, ⟨Ak, ck, h1.k, h2.k.le, h2.k.big, h2.k.nil, h2.k.at_⟩, foAt_ofR r bl (off + 5) fun i hi => ?_⟩
    have := h (i + 1) (by simpa using hi)
    rw [show off + 5 + i * 5 = off + (i + 1) * 5 from by omega]
    simpa using this
end Go.Proofs.Ytgdoepkoakpnbaa
