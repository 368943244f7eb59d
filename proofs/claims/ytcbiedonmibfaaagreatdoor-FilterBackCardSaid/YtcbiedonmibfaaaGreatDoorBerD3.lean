/-
  Small laws, out of RefRead, BackNum, Elt, RefPutLen, RefPut, EltRight, EltDeep, EltSame, EltRow, EltOwn, Ber, BerRow, BerIn, BerMade, BerParse, BerBack, BerDeep, BerOk, BerCut, RefPutL, EltBytes, EltPut, for a seat without the functions that those reach.
-/
import Derived.Test.YtcbiedonmibfaaaGreatDoorWA
import Derived.Test.YtcbiedonmibfaaaGreatDoorMore
import Derived.Test.YtcbiedonmibfaaaGreatDoorNum
import Derived.Test.YtcbiedonmibfaaaGreatDoorBox
import Derived.Test.YtcbiedonmibfaaaGreatDoorGroups
import Derived.Test.YtcbiedonmibfaaaGreatDoorRoomy
import Derived.Test.YtcbiedonmibfaaaGreatDoorPT
import Derived.Test.YtcbiedonmibfaaaGreatDoorRD
import Derived.Test.YtcbiedonmibfaaaGreatDoorReadTag
import Derived.Test.YtcbiedonmibfaaaGreatDoorStr
import Derived.Deep.RegionHeldLaw
import Derived.Deep.DrawnRows
import Derived.Deep.AppendLies
import Derived.OneCell
namespace Go.Proofs.YtcbiedonmibfaaaGreatDoor
open Go.RowKit
theorem add_plain2 (b o j : Nat) : (⟨b, o, none⟩ : Addr).add j = ⟨b, o + j, none⟩ := by unfold Addr.add; split <;> simp_all
theorem rn_row (n : Nat) (behind : List Nat) : ∀ k f i, 1 ≤ k → k ≤ f → (i = 0 → n / 128 ^ k = 0 ∧ 1 ≤ n / 128 ^ (k - 1) ∧ 31 ≤ n) →
 rn f i (n / 128 ^ k) (row more 128 n k ++ behind) = (n, i + k, 0)
 | 0, _, _, h, _, _ => absurd h (by omega)
 | k + 1, 0, _, _, h, _ => absurd h (by omega)
 | k + 1, f + 1, i, _, hf, hi => by
   have hd : n / 128 ^ (k + 1) = n / 128 ^ k / 128 := (shift_step n 128 k).symm
   rw [row, List.cons_append, rn_cons]
   by_cases hk : k = 0
   · subst hk
     have e : more (n / 128 ^ 0 % 128) (0 == 0) = n % 128 := by simp [more]
     have hn : n / 128 ^ (0 + 1) = n / 128 := by simp
     rw [e, if_neg (by
      rintro ⟨h0, h1⟩
      have := hi h0
      rw [hn] at this
      omega), if_pos (by omega), hn]
     congr 1
     · omega
   · have e : more (n / 128 ^ k % 128) (k == 0) = n / 128 ^ k % 128 + 128 := by
      have : (k == 0) = false := by simpa using hk
      rw [this]; rfl
     rw [e, if_neg (by
      rintro ⟨h0, h1⟩
      have := hi h0
      rw [hd, Nat.add_sub_cancel] at this
      omega), if_neg (by omega), show n / 128 ^ (k + 1) * 128 + (n / 128 ^ k % 128 + 128) % 128 = n / 128 ^ k from by rw [hd]; omega]
     rw [rn_row n behind k f (i + 1) (by omega) (by omega) (by omega)]
     congr 2
     omega
theorem count7_le (n : Nat) (h0 : n ≠ 0) (h : n ≤ 268435455) : count 7 n ≤ 4 := by
 have := count_ge 7 n (by decide) h0 (by omega)
 rcases Nat.lt_or_ge 4 (count 7 n) with h1 | h1
 · have h2 := Nat.pow_le_pow_right (n := 2 ^ 7) (by decide) (show 4 ≤ count 7 n - 1 by omega)
   have h3 : (2 ^ 7) ^ 4 = 268435456 := by decide
   omega
 · exact h1
theorem count8_le (n : Nat) (h0 : n ≠ 0) (h : n ≤ 2147483647) : count 8 n ≤ 4 := by
 have := count_ge 8 n (by decide) h0 (by omega)
 rcases Nat.lt_or_ge 4 (count 8 n) with h1 | h1
 · have h2 := Nat.pow_le_pow_right (n := 2 ^ 8) (by decide) (show 4 ≤ count 8 n - 1 by omega)
   have h3 : (2 ^ 8) ^ 4 = 4294967296 := by decide
   omega
 · exact h1
theorem tagB_pos (c n : Int) (m : Bool) : 1 ≤ (tagB c m n).length := by
 rw [tagB_len]
 split <;> omega
theorem headB_mod (c : Int) (m : Bool) (hc : 0 ≤ c ∧ c ≤ 3) (x : Nat) (hx : x < 32) :
 (headB c m + x) % 32 = x ∧ (headB c m + x) / 64 = c.toNat ∧ ((headB c m + x) / 32 % 2 == 1) = m ∧ headB c m + x < 256 := by
 unfold headB
 cases m
 · refine ⟨by simp; omega, by simp; omega, ?_, by simp; omega⟩
   simp
   omega
 · refine ⟨by simp; omega, by simp; omega, ?_, by simp; omega⟩
   simp
   omega
theorem rdT_back (c n : Int) (m : Bool) (hr : Go.Proofs.YtcbiedonmibfaaaGreatDoor.RightT c n) (behind : List Nat) : rdT (tagB c m n ++ behind) = (c.toNat, m, n.toNat, (tagB c m n).length, 0) := by
 obtain ⟨h1, h2, h3, h4⟩ := hr
 rw [tagB_len]
 unfold tagB
 by_cases hn : n < 31
 · obtain ⟨e1, e2, e3, _⟩ := headB_mod c m ⟨h1, h2⟩ n.toNat (by omega)
   rw [if_pos hn, if_pos hn, List.cons_append, rdT, if_neg (by omega), e1, e2, e3]
 · obtain ⟨e1, e2, e3, _⟩ := headB_mod c m ⟨h1, h2⟩ 31 (by omega)
   have hp := count_pos 7 n.toNat (by decide) (by omega) (by omega)
   have hl := count7_le n.toNat (by omega) (by omega)
   have hz : n.toNat / 128 ^ count 7 n.toNat = 0 := (count_shift 7 n.toNat _ (by decide) (by omega) (by omega) (Nat.le_refl _)).2 rfl
   have hg : 1 ≤ n.toNat / 128 ^ (count 7 n.toNat - 1) := by
    have := count_ge 7 n.toNat (by decide) (by omega) (by omega)
    exact (Nat.le_div_iff_mul_le (Nat.pow_pos (by decide))).2 (by rw [Nat.one_mul]; exact this)
   have hrn := rn_row n.toNat behind (count 7 n.toNat) 4 0 hp hl (fun _ => ⟨hz, hg, by omega⟩)
   rw [hz, Nat.zero_add] at hrn
   rw [if_neg hn, if_neg hn, List.cons_append, rdT, if_pos e1, hrn, if_pos rfl, e2, e3]
theorem be_row (n : Nat) : ∀ k a, a = n / 256 ^ k → (row same 256 n k).foldl (fun a c => a * 256 + c) a = n
 | 0, a, h => by simpa [row] using h
 | k + 1, a, h => by
   rw [row, List.foldl_cons]
   refine be_row n k _ ?_
   rw [h, ← shift_step n 256 k]
   unfold same
   omega
theorem lenB_pos (n : Int) (h : 0 ≤ n) : 1 ≤ (lenB n).length := by
 rw [lenB_len, if_neg (by omega)]
 split <;> omega
theorem rdL_back (n : Int) (h1 : 0 ≤ n) (h2 : n ≤ 2147483647) (behind : List Nat) : rdL (lenB n ++ behind) = (n.toNat, (lenB n).length, 0) := by
 have h0 : ¬ n < 0 := by omega
 rw [lenB_len]
 unfold lenB
 rw [if_neg h0, if_neg h0]
 by_cases hn : n < 128
 · rw [if_pos hn, if_pos hn, List.cons_append, rdL_cons, if_pos (by omega)]
 · have hp := count_pos 8 n.toNat (by decide) (by omega) (by omega)
   have hl := count8_le n.toNat (by omega) (by omega)
   have hz : n.toNat / 256 ^ count 8 n.toNat = 0 := (count_shift 8 n.toNat _ (by decide) (by omega) (by omega) (Nat.le_refl _)).2 rfl
   have hb : be ((row same 256 n.toNat (count 8 n.toNat) ++ behind).take (128 + count 8 n.toNat - 128)) = n.toNat := by
    rw [Nat.add_sub_cancel_left, List.take_append_of_le_length (by rw [row_len]; omega), List.take_of_length_le (by rw [row_len]; omega)]
    exact be_row n.toNat _ 0 hz.symm
   rw [if_neg hn, if_neg hn, List.cons_append, rdL_cons, if_neg (by omega), if_neg (by omega), if_neg (by omega), if_neg (by rw [List.length_append, row_len]; omega), hb, if_neg (by omega), Nat.add_sub_cancel_left]
theorem tagB_byte (c n : Int) (m : Bool) (hr : Go.Proofs.YtcbiedonmibfaaaGreatDoor.RightT c n) : ∀ x ∈ tagB c m n, x < 256 := by
 obtain ⟨h1, h2, h3, h4⟩ := hr
 intro x hx
 unfold tagB at hx
 split at hx
 · simp only [List.mem_singleton] at hx
   rw [hx]
   exact (headB_mod c m ⟨h1, h2⟩ n.toNat (by omega)).2.2.2
 · rw [List.mem_cons] at hx
   rcases hx with rfl | hx
   · exact (headB_mod c m ⟨h1, h2⟩ 31 (by omega)).2.2.2
   · exact row_lt more 128 n.toNat 256 (by decide) (fun d l hd => by unfold more; split <;> omega) _ x hx
theorem lenB_byte (n : Int) (h2 : n ≤ 9223372036854775807) : ∀ x ∈ lenB n, x < 256 := by
 intro x hx
 unfold lenB at hx
 split at hx
 · cases hx
 · split at hx
   · simp only [List.mem_singleton] at hx
     omega
   · rw [List.mem_cons] at hx
     rcases hx with rfl | hx
     · have := Lib.bitLen_le n.toNat 64 (by omega) (by omega)
       unfold count
       omega
     · exact row_lt same 256 n.toNat 256 (by decide) (fun d l hd => hd) _ x hx
inductive Fo where
 | nil : Fo
 | cons (c : Int) (m : Bool) (n : Int) (b : List Nat) (k nx : Fo) : Fo
structure El where
 c : Int
 m : Bool
 n : Int
 b : List Nat
 k : Fo
def Fo.list : Fo → List El
 | .nil => []
 | .cons c m n b k nx => ⟨c, m, n, b, k⟩ :: nx.list
def El.kids (e : El) : List El := e.k.list
def Fo.of : List El → Fo
 | [] => .nil
 | e :: r => .cons e.c e.m e.n e.b e.k (Fo.of r)
theorem Fo.of_list : ∀ f : Fo, Fo.of f.list = f
 | .nil => rfl
 | .cons c m n b k nx => by rw [Fo.list, Fo.of, Fo.of_list nx]
theorem Fo.list_of : ∀ l : List El, (Fo.of l).list = l
 | [] => rfl
 | e :: r => by rw [Fo.of, Fo.list, Fo.list_of r]
theorem El.ind {Q : El → Prop} (h : ∀ e, (∀ e' ∈ e.kids, Q e') → Q e) (e : El) : Q e := by
 have all : ∀ f : Fo, ∀ e ∈ f.list, Q e := by
  intro f
  induction f with
  | nil => intro e he; cases he
  | cons c m n b k nx ihk ihn =>
    intro e he
    rcases List.mem_cons.1 he with rfl | he
    · exact h _ ihk
    · exact ihn e he
 exact h e (all e.k)
def rtB (c n : Int) : Bool := decide (0 ≤ c) && decide (c ≤ 3) && decide (0 ≤ n) && decide (n ≤ 268435455)
theorem rtB_iff (c n : Int) : rtB c n = true ↔ RightT c n := by
 unfold rtB RightT
 simp [and_assoc]
def Fo.right : Fo → Bool
 | .nil => true
 | .cons c m n b k nx => rtB c n && (m || k.list.isEmpty) && (!m || b.isEmpty) && k.right && nx.right
def El.one (e : El) : Bool := rtB e.c e.n && (e.m || e.kids.isEmpty) && (!e.m || e.b.isEmpty)
def El.right (e : El) : Bool := e.one && e.k.right
theorem Fo.right_list : ∀ f : Fo, f.right = f.list.all El.right
 | .nil => rfl
 | .cons c m n b k nx => by
   rw [Fo.right, Fo.list, List.all_cons, Fo.right_list nx]
   rfl
theorem El.right_kids (e : El) : e.right = (e.one && e.kids.all El.right) := by rw [El.right, Fo.right_list]; rfl
def Fo.deep : Fo → Nat
 | .nil => 0
 | .cons _ _ _ _ k nx => max (k.deep + 1) nx.deep
def El.deep (e : El) : Nat := e.k.deep + 1
def maxL (l : List Nat) : Nat := l.foldl max 0
theorem foldl_max (l : List Nat) : ∀ a, l.foldl max a = max a (maxL l) := by
 unfold maxL
 induction l with
 | nil => intro a; simp
 | cons x r ih => intro a; rw [List.foldl_cons, List.foldl_cons, ih (max a x), ih (max 0 x)]; omega
theorem Fo.deep_list : ∀ f : Fo, f.deep = maxL (f.list.map El.deep)
 | .nil => rfl
 | .cons c m n b k nx => by
   rw [Fo.deep, Fo.list, List.map_cons, maxL, List.foldl_cons, foldl_max, Fo.deep_list nx]
   simp [El.deep]
theorem El.deep_kids (e : El) : e.deep = maxL (e.kids.map El.deep) + 1 := by rw [El.deep, Fo.deep_list]; rfl
def Fo.enc : Fo → List Nat
 | .nil => []
 | .cons c m n b k nx => (tagB c m n ++ lenB ((if m then k.enc else b).length : Int) ++ (if m then k.enc else b)) ++ nx.enc
def El.inner (e : El) : List Nat := if e.m then e.k.enc else e.b
def El.enc (e : El) : List Nat := tagB e.c e.m e.n ++ lenB (e.inner.length : Int) ++ e.inner
theorem Fo.enc_list : ∀ f : Fo, f.enc = f.list.flatMap El.enc
 | .nil => rfl
 | .cons c m n b k nx => by
   rw [Fo.enc, Fo.list, List.flatMap_cons, Fo.enc_list nx]
   rfl
structure SrcI (w : World) (I : Nat → Prop) (A : Option Addr) (c : Nat) (l : List Nat) : Prop where
 le : l.length ≤ c
 nil : A = none → c = 0
 at_ : ∀ ad, A = some ad → (0 < l.length → I ad.block) ∧ ∀ (j n : Nat), l[j]? = some n → w.cell? (ad.add j) = some (.int .u8 (n : Int))
theorem SrcI.src {w : World} {K : Nat} {A : Option Addr} {c : Nat} {l : List Nat} (h : SrcI w (· < K) A c l) : Src w K A c l := ⟨h.le, h.nil, h.at_⟩
theorem SrcI.keep {w w' : World} {I : Nat → Prop} {A : Option Addr} {c : Nat} {l : List Nat} (h : SrcI w I A c l) (hk : ∀ p : Addr, I p.block → w'.cell? p = w.cell? p) : SrcI w' I A c l := by
 refine ⟨h.le, h.nil, fun ad e => ⟨(h.at_ ad e).1, fun j n hj => ?_⟩⟩
 have hl : 0 < l.length := by
  rcases l with _ | ⟨x, r⟩
  · simp at hj
  · simp
 rw [hk _ (by rw [add_block]; exact (h.at_ ad e).1 hl)]
 exact (h.at_ ad e).2 j n hj
theorem SrcI.more {w : World} {I J : Nat → Prop} {A : Option Addr} {c : Nat} {l : List Nat} (h : SrcI w I A c l) (hb : ∀ i, I i → J i) : SrcI w J A c l :=
 ⟨h.le, h.nil, fun ad e => ⟨fun h0 => hb _ ((h.at_ ad e).1 h0), (h.at_ ad e).2⟩⟩
def FoAt (w : World) (I : Nat → Prop) : Fo → Nat → Nat → Prop
 | .nil, _, _ => True
 | .cons c m n b k nx, bl, off =>
   w.cell? ⟨bl, off, none⟩ = some (.int .i64 c) ∧ w.cell? ⟨bl, off + 1, none⟩ = some (.bool m) ∧ w.cell? ⟨bl, off + 2, none⟩ = some (.int .i64 n) ∧
   (∃ A cp, w.cell? ⟨bl, off + 3, none⟩ = some (.slice A b.length cp) ∧ SrcI w I A cp b) ∧
   (∃ A cp, w.cell? ⟨bl, off + 4, none⟩ = some (.slice A k.list.length cp) ∧ k.list.length ≤ cp ∧ cp ≤ 9223372036854775807 ∧ (A = none → cp = 0) ∧ ∀ ad, A = some ad → 0 < k.list.length → ad.spot = none ∧ I ad.block ∧ FoAt w I k ad.block ad.off) ∧
   FoAt w I nx bl (off + 5)
structure SlI (w : World) (I : Nat → Prop) (A : Option Addr) (cp : Nat) (f : Fo) : Prop where
 le : f.list.length ≤ cp
 big : cp ≤ 9223372036854775807
 nil : A = none → cp = 0
 at_ : ∀ ad, A = some ad → 0 < f.list.length → ad.spot = none ∧ I ad.block ∧ FoAt w I f ad.block ad.off
structure ElAt (w : World) (I : Nat → Prop) (e : El) (bl off : Nat) (Ab : Option Addr) (cb : Nat) (Ak : Option Addr) (ck : Nat) : Prop where
 c : w.cell? ⟨bl, off, none⟩ = some (.int .i64 e.c)
 m : w.cell? ⟨bl, off + 1, none⟩ = some (.bool e.m)
 n : w.cell? ⟨bl, off + 2, none⟩ = some (.int .i64 e.n)
 b : w.cell? ⟨bl, off + 3, none⟩ = some (.slice Ab e.b.length cb)
 k : w.cell? ⟨bl, off + 4, none⟩ = some (.slice Ak e.kids.length ck)
structure ElIn (w : World) (I : Nat → Prop) (e : El) (Ab : Option Addr) (cb : Nat) (Ak : Option Addr) (ck : Nat) : Prop where
 b : SrcI w I Ab cb e.b
 k : SlI w I Ak ck e.k
def elV (e : El) (Ab : Option Addr) (cb : Nat) (Ak : Option Addr) (ck : Nat) : Value := .agg #[.int .i64 e.c, .bool e.m, .int .i64 e.n, .slice Ab e.b.length cb, .slice Ak e.kids.length ck]
theorem FoAt.get {w : World} {I : Nat → Prop} : ∀ {f : Fo} {bl off : Nat}, FoAt w I f bl off → ∀ (i : Nat) (hi : i < f.list.length), ∃ Ab cb Ak ck, ElAt w I f.list[i] bl (off + i * 5) Ab cb Ak ck ∧ ElIn w I f.list[i] Ab cb Ak ck
 | .nil, _, _, _, i, hi => by simp [Fo.list] at hi
 | .cons c m n b k nx, bl, off, h, 0, hi => by
   obtain ⟨h1, h2, h3, ⟨Ab, cb, h4, h5⟩, ⟨Ak, ck, h6, h7, h8, h9, h10⟩, _⟩ := h
   refine ⟨Ab, cb, Ak, ck, ?_, ?_⟩
   · simp only [Nat.zero_mul, Nat.add_zero]
     exact ⟨h1, h2, h3, h4, h6⟩
   · exact ⟨h5, ⟨h7, h8, h9, h10⟩⟩
 | .cons c m n b k nx, bl, off, h, i + 1, hi => by
   obtain ⟨_, _, _, _, _, hn⟩ := h
   have := FoAt.get hn i (by simpa [Fo.list] using hi)
   rw [show off + (i + 1) * 5 = off + 5 + i * 5 from by omega]
   exact this
theorem FoAt.keep {w w' : World} {I : Nat → Prop} (hk : ∀ p : Addr, I p.block → w'.cell? p = w.cell? p) : ∀ {f : Fo} {bl off : Nat}, FoAt w I f bl off → I bl → FoAt w' I f bl off
 | .nil, _, _, _, _ => trivial
 | .cons c m n b k nx, bl, off, h, hb => by
   obtain ⟨h1, h2, h3, ⟨Ab, cb, h4, h5⟩, ⟨Ak, ck, h6, h7, h8, h9, h10⟩, hn⟩ := h
   refine ⟨?_, ?_, ?_, ⟨Ab, cb, ?_, h5.keep hk⟩, ⟨Ak, ck, ?_, h7, h8, h9, fun ad e h0 => ?_⟩, FoAt.keep hk hn hb⟩
   · rw [hk _ hb]; exact h1
   · rw [hk _ hb]; exact h2
   · rw [hk _ hb]; exact h3
   · rw [hk _ hb]; exact h4
   · rw [hk _ hb]; exact h6
   · obtain ⟨a1, a2, a3⟩ := h10 ad e h0
     exact ⟨a1, a2, FoAt.keep hk a3 a2⟩
theorem FoAt.more {w : World} {I J : Nat → Prop} (hJ : ∀ i, I i → J i) : ∀ {f : Fo} {bl off : Nat}, FoAt w I f bl off → FoAt w J f bl off
 | .nil, _, _, _ => trivial
 | .cons c m n b k nx, bl, off, h => by
   obtain ⟨h1, h2, h3, ⟨Ab, cb, h4, h5⟩, ⟨Ak, ck, h6, h7, h8, h9, h10⟩, hn⟩ := h
   exact ⟨h1, h2, h3, ⟨Ab, cb, h4, h5.more hJ⟩, ⟨Ak, ck, h6, h7, h8, h9, fun ad e h0 => ⟨(h10 ad e h0).1, hJ _ (h10 ad e h0).2.1, FoAt.more hJ (h10 ad e h0).2.2⟩⟩, FoAt.more hJ hn⟩
theorem SlI.keep {w w' : World} {I : Nat → Prop} {A : Option Addr} {cp : Nat} {f : Fo} (h : SlI w I A cp f) (hk : ∀ p : Addr, I p.block → w'.cell? p = w.cell? p) : SlI w' I A cp f :=
 ⟨h.le, h.big, h.nil, fun ad e h0 => ⟨(h.at_ ad e h0).1, (h.at_ ad e h0).2.1, FoAt.keep hk (h.at_ ad e h0).2.2 (h.at_ ad e h0).2.1⟩⟩
theorem SlI.more {w : World} {I J : Nat → Prop} {A : Option Addr} {cp : Nat} {f : Fo} (h : SlI w I A cp f) (hJ : ∀ i, I i → J i) : SlI w J A cp f :=
 ⟨h.le, h.big, h.nil, fun ad e h0 => ⟨(h.at_ ad e h0).1, hJ _ (h.at_ ad e h0).2.1, (h.at_ ad e h0).2.2.more hJ⟩⟩
theorem ElIn.keep {w w' : World} {I : Nat → Prop} {e : El} {Ab : Option Addr} {cb : Nat} {Ak : Option Addr} {ck : Nat} (h : ElIn w I e Ab cb Ak ck) (hk : ∀ p : Addr, I p.block → w'.cell? p = w.cell? p) : ElIn w' I e Ab cb Ak ck := ⟨h.b.keep hk, h.k.keep hk⟩
theorem ElIn.more {w : World} {I J : Nat → Prop} {e : El} {Ab : Option Addr} {cb : Nat} {Ak : Option Addr} {ck : Nat} (h : ElIn w I e Ab cb Ak ck) (hJ : ∀ i, I i → J i) : ElIn w J e Ab cb Ak ck := ⟨h.b.more hJ, h.k.more hJ⟩
theorem ElIn.below {w w' : World} {K : Nat} {e : El} {Ab : Option Addr} {cb : Nat} {Ak : Option Addr} {ck : Nat} (h : ElIn w (· < K) e Ab cb Ak ck) (hb : Below K w w') : ElIn w' (· < K) e Ab cb Ak ck := h.keep fun _ hp => hb.cell hp
theorem ElIn.kid {w : World} {I : Nat → Prop} {e : El} {Ab : Option Addr} {cb : Nat} {Ak : Option Addr} {ck : Nat} (h : ElIn w I e Ab cb Ak ck) (h0 : 0 < e.kids.length) :
 ∃ bl off, Ak = some ⟨bl, off, none⟩ ∧ I bl ∧ ∀ (i : Nat) (hi : i < e.kids.length), ∃ Ab cb Ak ck, ElAt w I e.kids[i] bl (off + i * 5) Ab cb Ak ck ∧ ElIn w I e.kids[i] Ab cb Ak ck := by
 rcases Ak with _ | ⟨bl, off, spot⟩
 · have := h.k.nil rfl
   have h2 := h.k.le
   have h3 : 0 < e.k.list.length := h0
   omega
 · obtain ⟨h1, h2, h3⟩ := h.k.at_ _ rfl h0
   have : spot = none := h1
   subst this
   exact ⟨bl, off, rfl, h2, fun i hi => h3.get i hi⟩
theorem foAt_ofR {w : World} {I : Nat → Prop} : ∀ (l : List El) (bl off : Nat), (∀ (i : Nat) (hi : i < l.length), ∃ Ab cb Ak ck, ElAt w I l[i] bl (off + i * 5) Ab cb Ak ck ∧ ElIn w I l[i] Ab cb Ak ck) → FoAt w I (Fo.of l) bl off
 | [], _, _, _ => trivial
 | e :: r, bl, off, h => by
   obtain ⟨Ab, cb, Ak, ck, h1, h2⟩ := h 0 (by simp)
   simp only [List.getElem_cons_zero, Nat.zero_mul, Nat.add_zero] at h1 h2
   refine ⟨h1.c, h1.m, h1.n, ⟨Ab, cb, h1.b, h2.b⟩, ⟨Ak, ck, h1.k, h2.k.le, h2.k.big, h2.k.nil, h2.k.at_⟩, foAt_ofR r bl (off + 5) fun i hi => ?_⟩
   have := h (i + 1) (by simpa using hi)
   rw [show off + 5 + i * 5 = off + (i + 1) * 5 from by omega]
   simpa using this
theorem one_right (e : El) : e.one = true ↔ RightT e.c e.n ∧ (e.m = false → e.kids.length = 0) ∧ (e.m = true → e.b.length = 0) := by
 unfold El.one
 rcases e with ⟨c, m, n, b, k⟩
 rw [← rtB_iff]
 cases m <;> simp [El.kids]
theorem box5 {w wi : World} {a b c d e : Value} {T : TypeId} (h : Below (w.heap.size + 1) (w.alloc (.cells #[a, b, c, d, e] T)) wi) :
 wi.cell? ⟨w.heap.size, 0, none⟩ = some a ∧ wi.cell? ⟨w.heap.size, 1, none⟩ = some b ∧ wi.cell? ⟨w.heap.size, 2, none⟩ = some c ∧ wi.cell? ⟨w.heap.size, 3, none⟩ = some d ∧ wi.cell? ⟨w.heap.size, 4, none⟩ = some e := by
 have f : ∀ i, wi.cell? ⟨w.heap.size, i, none⟩ = #[a, b, c, d, e][i]? := fun i => by rw [h.cell (by simp), World.cell?_alloc_new]
 exact ⟨by rw [f]; rfl, by rw [f]; rfl, by rw [f]; rfl, by rw [f]; rfl, by rw [f]; rfl⟩
theorem boxB {w W : World} {o : Obj} (h : Below (w.heap.size + 1) (w.alloc o) W) : Below w.heap.size w W := ((Below.refl w.heap.size w).alloc (Nat.le_refl _) o).trans (h.mono (by omega))
theorem take_all {α : Type} (p : α → Bool) (l : List α) (k : Nat) (h : k < l.length) : (l.take (k + 1)).all p = ((l.take k).all p && p l[k]) := by
 rw [List.take_succ_eq_append_getElem h, List.all_append]
 simp
theorem all_no {α : Type} (p : α → Bool) (l : List α) (k : Nat) (h : k < l.length) (hp : p l[k] = false) : l.all p = false := by
 rw [Bool.eq_false_iff]
 intro ha
 rw [List.all_eq_true] at ha
 have := ha _ (List.getElem_mem h)
 rw [hp] at this
 cases this
attribute [local go_sem ↓] Go.wp_at_zero Go.wp_at_succ
def Fo.byt : Fo → Prop
 | .nil => True
 | .cons _ _ _ b k nx => (∀ x ∈ b, x < 256) ∧ k.byt ∧ nx.byt
def El.byt (e : El) : Prop := (∀ x ∈ e.b, x < 256) ∧ e.k.byt
theorem Fo.byt_mem : ∀ {f : Fo}, f.byt → ∀ e ∈ f.list, e.byt
 | .nil, _, e, he => by cases he
 | .cons c m n b k nx, h, e, he => by
   rcases List.mem_cons.1 he with rfl | he
   · exact ⟨h.1, h.2.1⟩
   · exact Fo.byt_mem h.2.2 e he
theorem SrcI.conv {W : World} {I : Nat → Prop} {A : Option Addr} {c : Nat} {l : List Nat} (h : SrcI W I A c l) (hI : ∀ i, I i → i < W.heap.size) : (convert 40 9 (.slice A l.length c)).run Tryz.prog W = .ok (.string (strB l)) W :=
 (h.more hI).src.conv
def sumL (l : List Nat) : Nat := l.foldl (· + ·) 0
theorem foldl_add (l : List Nat) : ∀ a, l.foldl (· + ·) a = a + sumL l := by
 unfold sumL
 induction l with
 | nil => intro a; simp
 | cons x r ih => intro a; rw [List.foldl_cons, List.foldl_cons, ih (a + x), ih (0 + x)]; omega
theorem sumL_snoc (l : List Nat) (x : Nat) : sumL (l ++ [x]) = sumL l + x := by
 unfold sumL
 rw [List.foldl_append]
 rfl
def Fo.size : Fo → Nat
 | .nil => 0
 | .cons _ _ _ b k nx => 1 + b.length + k.size + nx.size
def El.size (e : El) : Nat := 1 + e.b.length + e.k.size
theorem Fo.size_list : ∀ f : Fo, f.size = sumL (f.list.map El.size)
 | .nil => rfl
 | .cons c m n b k nx => by
   rw [Fo.size, Fo.list, List.map_cons, sumL, List.foldl_cons, foldl_add, Fo.size_list nx]
   simp [El.size]
theorem El.size_kids (e : El) : e.size = 1 + e.b.length + sumL (e.kids.map El.size) := by rw [El.size, Fo.size_list]; rfl
def el5 (e : El) (Ab : Option Addr) (cb : Nat) (Ak : Option Addr) (ck : Nat) : List Value := [.int .i64 e.c, .bool e.m, .int .i64 e.n, .slice Ab e.b.length cb, .slice Ak e.kids.length ck]
theorem el5_one (e : El) (Ab : Option Addr) (cb : Nat) (Ak : Option Addr) (ck : Nat) : ∀ u ∈ el5 e Ab cb Ak ck, u.oneCell' = true := by
 intro u hu
 simp only [el5, List.mem_cons, List.not_mem_nil, or_false] at hu
 rcases hu with rfl | rfl | rfl | rfl | rfl <;> rfl
theorem owns_below {w w' : World} {base size n : Nat} {T : TypeId} {v : Value} {xs : List Value} (h : w.ownsRow base T size v n xs) (hb : Below w.heap.size w w') : w'.ownsRow base T size v n xs := by
 obtain ⟨h1, h0 | ⟨g, cap, cur, hv, hbs, hg, hn, hm, hs, hx⟩⟩ := h
 · exact ⟨h1, .inl h0⟩
 · refine ⟨h1, .inr ⟨g, cap, cur, hv, hbs, ?_, hn, hm, hs, hx⟩⟩
   rw [hb.block g (Array.getElem?_eq_some_iff.1 hg).1]
   exact hg
theorem El.deep_pos (e : El) : 1 ≤ e.deep := by unfold El.deep; omega
theorem sumL_cons (a : Nat) (l : List Nat) : sumL (a :: l) = a + sumL l := by rw [sumL, List.foldl_cons, foldl_add]; omega
theorem sum_take (l : List El) : ∀ (k : Nat) (hk : k < l.length), sumL ((l.take k).map El.size) + l[k].size ≤ sumL (l.map El.size) := by
 induction l with
 | nil => intro k hk; simp at hk
 | cons a l ih =>
   intro k hk
   rw [List.map_cons (l := l), sumL_cons]
   rcases k with _ | k
   · simp [sumL]
   · have h2 := ih k (by simp at hk; omega)
     rw [List.take_succ_cons, List.map_cons, sumL_cons, List.getElem_cons_succ]
     omega
theorem maxL_mem (l : List El) : ∀ r ∈ l, r.deep ≤ maxL (l.map El.deep) := by
 induction l with
 | nil => intro r hr; cases hr
 | cons a l ih =>
   intro r hr
   rw [List.map_cons, maxL, List.foldl_cons, foldl_max]
   rcases List.mem_cons.1 hr with rfl | hr
   · omega
   · have := ih r hr
     omega
theorem El.deep_mem (e r : El) (h : r ∈ e.kids) : r.deep + 1 ≤ e.deep := by
 rw [El.deep_kids e]
 have := maxL_mem e.kids r h
 omega
def set5 (w : World) (b : Nat) (u0 u1 u2 u3 u4 : Value) : World := ((((w.setCell ⟨b, 0, none⟩ u0).setCell ⟨b, 1, none⟩ u1).setCell ⟨b, 2, none⟩ u2).setCell ⟨b, 3, none⟩ u3).setCell ⟨b, 4, none⟩ u4
theorem set5_same {w : World} {b : Nat} {v0 v1 v2 v3 v4 : Value} {T : TypeId} (h : w.heap[b]? = some (.cells #[v0, v1, v2, v3, v4] T (0, 0))) (u0 u1 u2 u3 u4 : Value) : (set5 w b u0 u1 u2 u3 u4).heap[b]? = some (.cells #[u0, u1, u2, u3, u4] T (0, 0)) := by
 unfold set5
 rw [_root_.Go.heap_setCell_same _ _ _ _ _ _ (_root_.Go.heap_setCell_same _ _ _ _ _ _ (_root_.Go.heap_setCell_same _ _ _ _ _ _ (_root_.Go.heap_setCell_same _ _ _ _ _ _ (_root_.Go.heap_setCell_same _ _ _ _ _ _ h))))]
 rfl
theorem set5_other (w : World) (b : Nat) (u0 u1 u2 u3 u4 : Value) (p : Addr) (h : p.block ≠ b) : (set5 w b u0 u1 u2 u3 u4).cell? p = w.cell? p := by
 refine World.cell?_of_block ?_
 unfold set5
 rw [Below.heap_setCell _ _ _ _ h, Below.heap_setCell _ _ _ _ h, Below.heap_setCell _ _ _ _ h, Below.heap_setCell _ _ _ _ h, Below.heap_setCell _ _ _ _ h]
theorem set5_below {w W : World} {B b : Nat} (h : Below B w W) (hb : B ≤ b) (u0 u1 u2 u3 u4 : Value) : Below B w (set5 W b u0 u1 u2 u3 u4) := ((((h.setCell hb u0).setCell hb u1).setCell hb u2).setCell hb u3).setCell hb u4
theorem rn_ok : ∀ (f i a : Nat) (l : List Nat), (∀ x ∈ l, x < 256) → (rn f i a l).2.2 = 0 → i < (rn f i a l).2.1 ∧ (rn f i a l).2.1 ≤ i + l.length ∧ (rn f i a l).2.1 ≤ i + f ∧ (rn f i a l).1 < (a + 1) * 128 ^ f
 | 0, _, _, _, _, h => by simp [rn] at h
 | f + 1, i, a, [], _, h => by simp [rn] at h
 | f + 1, i, a, c :: r, hb, h => by
   rw [rn_cons] at h ⊢
   split at h
   · simp at h
   · rename_i h1
     rw [if_neg h1]
     split at h
     · rename_i h2
       rw [if_pos h2]
       have : (a + 1) * 128 * 1 ≤ (a + 1) * 128 * 128 ^ f := Nat.mul_le_mul_left _ (Nat.pow_pos (by decide))
       rw [Nat.pow_succ, Nat.mul_comm (128 ^ f), ← Nat.mul_assoc]
       simp only [List.length_cons]
       omega
     · rename_i h2
       rw [if_neg h2]
       obtain ⟨h3, h4, h5, h6⟩ := rn_ok f (i + 1) (a * 128 + c % 128) r (fun x hx => hb x (List.mem_cons_of_mem _ hx)) h
       have : (a * 128 + c % 128 + 1) * 128 ^ f ≤ ((a + 1) * 128) * 128 ^ f := Nat.mul_le_mul_right _ (by omega)
       rw [Nat.pow_succ, Nat.mul_comm (128 ^ f), ← Nat.mul_assoc]
       simp only [List.length_cons]
       omega
theorem rdT_ok (l : List Nat) (hb : ∀ x ∈ l, x < 256) (h : (rdT l).2.2.2.2 = 0) : (rdT l).1 ≤ 3 ∧ (rdT l).2.2.1 ≤ 268435455 ∧ 1 ≤ (rdT l).2.2.2.1 ∧ (rdT l).2.2.2.1 ≤ l.length ∧ (rdT l).2.2.2.1 ≤ 5 := by
 rcases l with _ | ⟨x, r⟩
 · simp [rdT] at h
 · have hx := hb x (List.mem_cons_self ..)
   have H : rdT (x :: r) = if x % 32 = 31 then
    if (rn 4 0 0 r).2.2 = 0 then (x / 64, x / 32 % 2 == 1, (rn 4 0 0 r).1, 1 + (rn 4 0 0 r).2.1, 0) else (0, false, 0, 0, (rn 4 0 0 r).2.2)
    else (x / 64, x / 32 % 2 == 1, x % 32, 1, 0) := rfl
   rw [H] at h ⊢
   split at h
   · rename_i h1
     rw [if_pos h1]
     split at h
     · rename_i h2
       rw [if_pos h2]
       obtain ⟨h3, h4, h5, h6⟩ := rn_ok 4 0 0 r (fun x hx => hb x (List.mem_cons_of_mem _ hx)) h2
       simp only [List.length_cons]
       omega
     · rename_i h2
       exact absurd h h2
   · rename_i h1
     rw [if_neg h1]
     simp only [List.length_cons]
     omega
theorem rdL_ok (l : List Nat) (h : (rdL l).2.2 = 0) : (rdL l).1 ≤ 2147483647 ∧ 1 ≤ (rdL l).2.1 ∧ (rdL l).2.1 ≤ l.length ∧ (rdL l).2.1 ≤ 5 := by
 rcases l with _ | ⟨x, r⟩
 · simp [rdL] at h
 · rw [rdL_cons] at h ⊢
   repeat' (split at h)
   all_goals first | (simp at h; done) | skip
   · rename_i h1
     rw [if_pos h1]
     simp only [List.length_cons]
     omega
   · rename_i h1 h2 h3 h4 h5
     rw [if_neg h1, if_neg h2, if_neg h3, if_neg h4, if_neg h5]
     simp only [List.length_cons]
     omega
def hdT (l : List Nat) : Nat × Nat × Nat :=
 if (rdT l).2.2.2.2 ≠ 0 then (0, 0, (rdT l).2.2.2.2) else if (rdL (l.drop (rdT l).2.2.2.1)).2.2 ≠ 0 then (0, 0, (rdL (l.drop (rdT l).2.2.2.1)).2.2)
 else if 16384 < (rdT l).2.2.2.1 + (rdL (l.drop (rdT l).2.2.2.1)).2.1 + (rdL (l.drop (rdT l).2.2.2.1)).1 then (0, 0, 3)
 else ((rdT l).2.2.2.1 + (rdL (l.drop (rdT l).2.2.2.1)).2.1 + (rdL (l.drop (rdT l).2.2.2.1)).1, (rdT l).2.2.2.1 + (rdL (l.drop (rdT l).2.2.2.1)).2.1, 0)
theorem hdT_ok (l : List Nat) (hb : ∀ x ∈ l, x < 256) (h : (hdT l).2.2 = 0) : (rdT l).2.2.2.2 = 0 ∧ 2 ≤ (hdT l).2.1 ∧ (hdT l).2.1 ≤ (hdT l).1 ∧ (hdT l).1 ≤ 16384 ∧ (hdT l).2.1 ≤ l.length := by
 unfold hdT at h ⊢
 split at h
 · rename_i h1
   exact absurd h h1
 · rename_i h1
   rw [if_neg h1]
   have h1' : (rdT l).2.2.2.2 = 0 := by simpa using h1
   obtain ⟨a1, a2, a3, a4, a5⟩ := rdT_ok l hb h1'
   split at h
   · rename_i h2
     exact absurd h h2
   · rename_i h2
     rw [if_neg h2]
     have h2' : (rdL (l.drop (rdT l).2.2.2.1)).2.2 = 0 := by simpa using h2
     obtain ⟨b1, b2, b3, b4⟩ := rdL_ok _ h2'
     rw [List.length_drop] at b3
     split at h
     · simp at h
     · rename_i h3
       rw [if_neg h3]
       simp only []
       omega
theorem Src.behind {w : World} {K b off c f : Nat} {l : List Nat} (h : Src w K (some ⟨b, off, none⟩) c l) (hf : f ≤ l.length) : Src w K (some ⟨b, off + f, none⟩) (c - f) (l.drop f) := by
 refine ⟨by rw [List.length_drop]; have := h.le; omega, (fun e => by cases e), fun ad e => ?_⟩
 injection e with e
 subst e
 refine ⟨fun h0 => ?_, fun j n hj => ?_⟩
 · rw [List.length_drop] at h0
   exact (h.at_ _ rfl).1 (by omega)
 · rw [List.getElem?_drop] at hj
   have := (h.at_ _ rfl).2 _ _ hj
   rw [add_plain2] at this ⊢
   rw [show off + f + j = off + (f + j) by omega]
   exact this
def el0 : El := ⟨0, false, 0, [], .nil⟩
mutual
def inP : Nat → List Nat → Nat → El × Nat
 | 0, _, _ => (el0, 0)
 | f + 1, l, d =>
   if (rdT l).2.1 = false then (⟨((rdT l).1 : Nat), false, ((rdT l).2.2.1 : Nat), (l.take (hdT l).1).drop (hdT l).2.1, .nil⟩, 0)
   else if (rowP f ((l.take (hdT l).1).drop (hdT l).2.1) d).2 ≠ 0 then (el0, (rowP f ((l.take (hdT l).1).drop (hdT l).2.1) d).2)
   else (⟨((rdT l).1 : Nat), true, ((rdT l).2.2.1 : Nat), [], Fo.of (rowP f ((l.take (hdT l).1).drop (hdT l).2.1) d).1⟩, 0)
def rowP : Nat → List Nat → Nat → List El × Nat
 | 0, _, _ => ([], 0)
 | f + 1, l, d =>
   if l = [] then ([], 0) else if 24 ≤ d + 1 then ([], 15) else if (hdT l).2.2 ≠ 0 ∨ l.length < (hdT l).1 then ([], 11)
   else if (inP f (l.take (hdT l).1) (d + 1)).2 ≠ 0 then ([], (inP f (l.take (hdT l).1) (d + 1)).2)
   else if (rowP f (l.drop (hdT l).1) d).2 ≠ 0 then ([], (rowP f (l.drop (hdT l).1) d).2)
   else ((inP f (l.take (hdT l).1) (d + 1)).1 :: (rowP f (l.drop (hdT l).1) d).1, 0)
end
def more2 (ks : List El) (q : List El × Nat) : List El × Nat := if q.2 ≠ 0 then ([], q.2) else (ks ++ q.1, 0)
theorem rowP_nil (f d : Nat) : rowP f [] d = ([], 0) := by
 cases f with
 | zero => rw [rowP]
 | succ f => rw [rowP, if_pos rfl]
theorem more2_nil (q : List El × Nat) (h : q.2 ≠ 0 → q.1 = []) : more2 [] q = q := by
 unfold more2
 obtain ⟨a, b⟩ := q
 split
 · rename_i h1
   have := h h1
   simp only [] at this
   rw [this]
 · rename_i h1
   have : b = 0 := by simpa using h1
   subst this
   rfl
theorem rowP_err : ∀ (f : Nat) (l : List Nat) (d : Nat), (rowP f l d).2 ≠ 0 → (rowP f l d).1 = []
 | 0, l, d, h => by rw [rowP]
 | f + 1, l, d, h => by
   rw [rowP] at h ⊢
   repeat' split
   all_goals first | rfl | skip
   rename_i h1 h2 h3 h4 h5
   rw [if_neg h1, if_neg h2, if_neg h3, if_neg h4, if_neg h5] at h
   exact absurd rfl h
theorem rn_take : ∀ (f i a k : Nat) (l : List Nat), (rn f i a l).2.2 = 0 → (rn f i a l).2.1 ≤ i + k → rn f i a (l.take k) = rn f i a l
 | 0, _, _, _, _, _, _ => rfl
 | f + 1, i, a, k, [], _, _ => by rw [List.take_nil]
 | f + 1, i, a, 0, c :: r, h, h2 => by
   exfalso
   rw [rn_cons] at h h2
   split at h
   · simp at h
   · rename_i h3
     rw [if_neg h3] at h2
     split at h
     · rename_i h4
       rw [if_pos h4] at h2
       simp only [] at h2
       omega
     · rename_i h4
       rw [if_neg h4] at h2
       have : ∀ (f i a : Nat) (l : List Nat), (rn f i a l).2.2 = 0 → i < (rn f i a l).2.1 := by
        intro f
        induction f with
        | zero => intro i a l h; simp [rn] at h
        | succ f ih =>
          intro i a l h
          cases l with
          | nil => simp [rn] at h
          | cons c r =>
            rw [rn_cons] at h ⊢
            split at h
            · simp at h
            · rename_i h1
              rw [if_neg h1]
              split at h
              · rename_i h2
                rw [if_pos h2]
                simp
              · rename_i h2
                rw [if_neg h2]
                have := ih _ _ _ h
                omega
       have := this _ _ _ _ h
       omega
 | f + 1, i, a, k + 1, c :: r, h, h2 => by
   rw [List.take_succ_cons, rn_cons, rn_cons]
   rw [rn_cons] at h h2
   split
   · rfl
   · rename_i h3
     rw [if_neg h3] at h h2
     split
     · rfl
     · rename_i h4
       rw [if_neg h4] at h h2
       exact rn_take f _ _ k r h (by omega)
theorem rdT_take (l : List Nat) (k : Nat) (h : (rdT l).2.2.2.2 = 0) (h2 : (rdT l).2.2.2.1 ≤ k) : rdT (l.take k) = rdT l := by
 rcases l with _ | ⟨x, r⟩
 · rw [List.take_nil]
 · have H : ∀ r, rdT (x :: r) = if x % 32 = 31 then
    if (rn 4 0 0 r).2.2 = 0 then (x / 64, x / 32 % 2 == 1, (rn 4 0 0 r).1, 1 + (rn 4 0 0 r).2.1, 0) else (0, false, 0, 0, (rn 4 0 0 r).2.2)
    else (x / 64, x / 32 % 2 == 1, x % 32, 1, 0) := fun r => rfl
   rw [H] at h h2
   have hk : 0 < k := by
    split at h
    · rename_i h3
      rw [if_pos h3] at h2
      split at h
      · rename_i h4
        rw [if_pos h4] at h2
        simp only [] at h2
        omega
      · rename_i h4
        exact absurd h h4
    · rename_i h3
      rw [if_neg h3] at h2
      exact h2
   obtain ⟨k', rfl⟩ : ∃ k', k = k' + 1 := ⟨k - 1, by omega⟩
   rw [List.take_succ_cons, H, H]
   split
   · rename_i h3
     rw [if_pos h3] at h h2
     split at h
     · rename_i h4
       rw [if_pos h4] at h2
       rw [rn_take 4 0 0 k' r h4 (by simp only [] at h2; omega)]
     · rename_i h4
       exact absurd h h4
   · rfl
theorem rdL_take (l : List Nat) (k : Nat) (h : (rdL l).2.2 = 0) (h2 : (rdL l).2.1 ≤ k) : rdL (l.take k) = rdL l := by
 rcases l with _ | ⟨x, r⟩
 · rw [List.take_nil]
 · have h0 := (rdL_ok _ h).2.1
   obtain ⟨k', rfl⟩ : ∃ k', k = k' + 1 := ⟨k - 1, by omega⟩
   rw [List.take_succ_cons, rdL_cons, rdL_cons]
   rw [rdL_cons] at h h2
   by_cases h3 : x < 128
   · rw [if_pos h3, if_pos h3]
   · rw [if_neg h3] at h h2
     rw [if_neg h3, if_neg h3]
     by_cases h4 : x = 128 ∨ x = 255
     · rw [if_pos h4, if_pos h4]
     · rw [if_neg h4] at h h2
       rw [if_neg h4, if_neg h4]
       by_cases h5 : 132 < x
       · rw [if_pos h5, if_pos h5]
       · rw [if_neg h5] at h h2
         rw [if_neg h5, if_neg h5]
         by_cases h6 : r.length < x - 128
         · rw [if_pos h6] at h
           simp at h
         · rw [if_neg h6] at h h2
           rw [if_neg h6]
           by_cases h7 : 2147483647 < be (r.take (x - 128))
           · rw [if_pos h7] at h
             simp at h
           · rw [if_neg h7] at h h2
             simp only [] at h2
             rw [List.length_take, if_neg (by omega), List.take_take, Nat.min_eq_left (by omega)]
theorem hdT_take (l : List Nat) (hb : ∀ x ∈ l, x < 256) (h : (hdT l).2.2 = 0) : hdT (l.take (hdT l).1) = hdT l := by
 obtain ⟨a1, a2, a3, a4, a5⟩ := hdT_ok l hb h
 have H : hdT l = if (rdL (l.drop (rdT l).2.2.2.1)).2.2 ≠ 0 then (0, 0, (rdL (l.drop (rdT l).2.2.2.1)).2.2)
  else if 16384 < (rdT l).2.2.2.1 + (rdL (l.drop (rdT l).2.2.2.1)).2.1 + (rdL (l.drop (rdT l).2.2.2.1)).1 then (0, 0, 3)
  else ((rdT l).2.2.2.1 + (rdL (l.drop (rdT l).2.2.2.1)).2.1 + (rdL (l.drop (rdT l).2.2.2.1)).1, (rdT l).2.2.2.1 + (rdL (l.drop (rdT l).2.2.2.1)).2.1, 0) := by
  unfold hdT
  rw [if_neg (by simpa using a1)]
 have hL : (rdL (l.drop (rdT l).2.2.2.1)).2.2 = 0 := by
  rw [H] at h
  split at h
  · rename_i h1
    exact absurd h h1
  · rename_i h1
    simpa using h1
 have hN : (hdT l).2.1 = (rdT l).2.2.2.1 + (rdL (l.drop (rdT l).2.2.2.1)).2.1 := by
  rw [H] at h ⊢
  rw [if_neg (by simpa using hL)] at h ⊢
  split at h
  · simp at h
  · rename_i h1
    rw [if_neg h1]
 have e1 : rdT (l.take (hdT l).1) = rdT l := rdT_take _ _ a1 (by omega)
 have e2 : rdL ((l.take (hdT l).1).drop (rdT l).2.2.2.1) = rdL (l.drop (rdT l).2.2.2.1) := by
  rw [List.drop_take]
  exact rdL_take _ _ hL (by omega)
 have G : ∀ m, m = l.take (hdT l).1 → hdT m = hdT l := by
  intro m hm
  unfold hdT
  rw [hm, e1, e2]
 exact G _ rfl
theorem SlI.nil0 (w : World) (I : Nat → Prop) : SlI w I none 0 .nil := ⟨Nat.le_refl _, by omega, fun _ => rfl, fun _ e => by cases e⟩
def lenV : Value → Nat
 | .slice _ n _ => n
 | _ => 0
def madeP (c n : Nat) (R : List El × Nat) : El × Nat := if R.2 ≠ 0 then (el0, R.2) else (⟨(c : Int), true, (n : Int), [], Fo.of R.1⟩, 0)
theorem more2_cons (ks : List El) (kid : El) (q : List El × Nat) : more2 ks (if q.2 ≠ 0 then ([], q.2) else (kid :: q.1, 0)) = more2 (ks ++ [kid]) q := by
 unfold more2
 by_cases h : q.2 ≠ 0
 · rw [if_pos h, if_pos h, if_pos h]
 · rw [if_neg h, if_neg h, if_neg (by simp), List.append_assoc]
   rfl
def parP (l : List Nat) : El × Nat × Nat :=
 if (hdT l).2.2 ≠ 0 then (el0, 0, (hdT l).2.2) else if l.length < (hdT l).1 then (el0, 0, 10)
 else if (inP (2 * (hdT l).1) (l.take (hdT l).1) 0).2 ≠ 0 then (el0, 0, (inP (2 * (hdT l).1) (l.take (hdT l).1) 0).2)
 else ((inP (2 * (hdT l).1) (l.take (hdT l).1) 0).1, (hdT l).1, 0)
theorem el0_in (w : World) (I : Nat → Prop) : ElIn w I el0 none 0 none 0 := ⟨⟨Nat.le_refl _, fun _ => rfl, fun _ e => by cases e⟩, SlI.nil0 _ _⟩
theorem hdT_back (e : El) (hr : RightT e.c e.n) (hL : e.enc.length ≤ 16384) (behind : List Nat) : hdT (e.enc ++ behind) = (e.enc.length, e.enc.length - e.inner.length, 0) ∧ rdT (e.enc ++ behind) = (e.c.toNat, e.m, e.n.toNat, (tagB e.c e.m e.n).length, 0) := by
 have h1 : rdT (e.enc ++ behind) = (e.c.toNat, e.m, e.n.toNat, (tagB e.c e.m e.n).length, 0) := by
  unfold El.enc
  rw [List.append_assoc, List.append_assoc]
  exact rdT_back e.c e.n e.m hr _
 have hLe : e.enc.length = (tagB e.c e.m e.n).length + (lenB (e.inner.length : Int)).length + e.inner.length := by
  unfold El.enc
  rw [List.length_append, List.length_append]
 have h2 : rdL ((e.enc ++ behind).drop (tagB e.c e.m e.n).length) = (e.inner.length, (lenB (e.inner.length : Int)).length, 0) := by
  unfold El.enc
  rw [List.append_assoc, List.append_assoc, List.drop_left]
  have := rdL_back (e.inner.length : Int) (by omega) (by omega) (e.inner ++ behind)
  simpa using this
 refine ⟨?_, h1⟩
 unfold hdT
 rw [h1]
 simp only []
 rw [h2, if_neg (by simp), if_neg (by simp), if_neg (by simp only []; omega)]
 have e2 : (tagB e.c e.m e.n).length + (lenB (e.inner.length : Int)).length = e.enc.length - e.inner.length := by omega
 simp only []
 rw [← hLe, e2]
theorem flat_mem (g : El → List Nat) : ∀ (l : List El), ∀ k ∈ l, (g k).length ≤ (l.flatMap g).length := by
 intro l
 induction l with
 | nil => intro k hk; cases hk
 | cons a l ih =>
   intro k hk
   rw [List.flatMap_cons, List.length_append]
   rcases List.mem_cons.1 hk with rfl | hk
   · omega
   · have := ih k hk
     omega
theorem enc_ge (e : El) : 2 ≤ e.enc.length := by
 have h1 := tagB_pos e.c e.n e.m
 have h2 := lenB_pos (e.inner.length : Int) (by omega)
 unfold El.enc
 rw [List.length_append, List.length_append]
 omega
theorem rowP_back (d : Nat) : ∀ (ks : List El), (∀ k ∈ ks, RightT k.c k.n ∧ k.enc.length ≤ 16384 ∧ d + 1 < 24 ∧ ∀ f, 2 * k.enc.length ≤ f → inP f k.enc (d + 1) = (k, 0)) →
 ∀ f, 2 * (ks.flatMap El.enc).length + 1 ≤ f → rowP f (ks.flatMap El.enc) d = (ks, 0) := by
 intro ks
 induction ks with
 | nil => intro _ f _; exact rowP_nil f d
 | cons a ks ih =>
   intro h f hf
   obtain ⟨h1, h2, h3, h4⟩ := h a (List.mem_cons_self ..)
   have h5 := ih fun k hk => h k (List.mem_cons_of_mem _ hk)
   have h6 := enc_ge a
   rw [List.flatMap_cons] at hf ⊢
   rw [List.length_append] at hf
   obtain ⟨f, rfl⟩ : ∃ f', f = f' + 1 := ⟨f - 1, by omega⟩
   have h7 := (hdT_back a h1 h2 (ks.flatMap El.enc)).1
   have hne : a.enc ++ ks.flatMap El.enc ≠ [] := by
    intro e
    have := congrArg List.length e
    rw [List.length_append, List.length_nil] at this
    omega
   rw [rowP, if_neg hne, if_neg (by omega), h7]
   simp only []
   rw [if_neg (by rw [List.length_append]; omega), List.take_left, List.drop_left, h4 f (by omega), h5 f (by omega)]
   rfl
theorem inP_back (e : El) : e.right = true → ∀ f d, 2 * e.enc.length ≤ f → d + e.deep ≤ 24 → e.enc.length ≤ 16384 → inP f e.enc d = (e, 0) := by
 induction e using El.ind with
 | h e ih =>
 intro hr f d hf hd hL
 rw [El.right_kids, Bool.and_eq_true] at hr
 obtain ⟨ho, hk⟩ := hr
 obtain ⟨h1, h2, h3⟩ := (one_right e).1 ho
 have hc : ((e.c.toNat : Nat) : Int) = e.c := Int.toNat_of_nonneg h1.1
 have hn : ((e.n.toNat : Nat) : Int) = e.n := Int.toNat_of_nonneg h1.2.2.1
 obtain ⟨g1, g2⟩ := hdT_back e h1 hL []
 rw [List.append_nil] at g1 g2
 have hge := enc_ge e
 obtain ⟨f, rfl⟩ : ∃ f', f = f' + 1 := ⟨f - 1, by omega⟩
 have hin : (e.enc.take e.enc.length).drop (e.enc.length - e.inner.length) = e.inner := by
  rw [List.take_length]
  unfold El.enc
  rw [List.length_append, Nat.add_sub_cancel, List.drop_left]
 rw [inP, g1, g2]
 simp only []
 rw [hin]
 cases hm : e.m
 · rw [if_pos rfl]
   have hk0 := h2 hm
   have hkn : e.k = .nil := by
    have : e.kids = [] := List.eq_nil_of_length_eq_zero hk0
    rw [← Fo.of_list e.k]
    unfold El.kids at this
    rw [this]
    rfl
   have hib : e.inner = e.b := by unfold El.inner; rw [hm]; rfl
   rw [hib, hc, hn]
   obtain ⟨c, m, n, b, k⟩ := e
   simp only [] at hm hkn ⊢
   rw [hm, hkn]
 · rw [if_neg (by simp)]
   have hib : e.inner = e.kids.flatMap El.enc := by unfold El.inner El.kids; rw [hm, ← Fo.enc_list]; rfl
   have hlen : e.inner.length + 2 ≤ e.enc.length := by
    have a1 := tagB_pos e.c e.n e.m
    have a2 := lenB_pos (e.inner.length : Int) (by omega)
    unfold El.enc
    rw [List.length_append, List.length_append]
    omega
   have hrow := rowP_back d e.kids (fun k hkk => by
    have b1 := El.deep_mem e k hkk
    have b2 := El.deep_pos k
    have b3 : k.right = true := List.all_eq_true.1 hk k hkk
    have b4 : RightT k.c k.n := by
     have := b3
     rw [El.right_kids, Bool.and_eq_true] at this
     exact ((one_right k).1 this.1).1
    have b5 : k.enc.length ≤ e.inner.length := by
     rw [hib]
     exact flat_mem El.enc e.kids k hkk
    exact ⟨b4, by omega, by omega, fun f' hf' => ih k hkk b3 f' (d + 1) hf' (by omega) (by omega)⟩) f (by rw [← hib]; omega)
   rw [← hib] at hrow
   rw [hrow, if_neg (by simp), hc, hn]
   have hb0 : e.b = [] := List.eq_nil_of_length_eq_zero (h3 hm)
   obtain ⟨c, m, n, b, k⟩ := e
   simp only [] at hm hb0 ⊢
   rw [hm, hb0]
   unfold El.kids
   rw [Fo.of_list]
theorem parP_back (e : El) (hr : e.right = true) (hd : e.deep ≤ 24) (hL : e.enc.length ≤ 16384) (behind : List Nat) : parP (e.enc ++ behind) = (e, e.enc.length, 0) := by
 have h1 : RightT e.c e.n := by
  rw [El.right_kids, Bool.and_eq_true] at hr
  exact ((one_right e).1 hr.1).1
 obtain ⟨g1, g2⟩ := hdT_back e h1 hL behind
 unfold parP
 rw [g1]
 simp only []
 rw [if_neg (by simp), if_neg (by rw [List.length_append]; omega), List.take_left, inP_back e hr _ 0 (Nat.le_refl _) (by omega) hL, if_neg (by simp)]
theorem maxL_at (l : List El) (m : Nat) (h : m < maxL (l.map El.deep)) : ∃ k ∈ l, m < k.deep := by
 induction l with
 | nil => simp [maxL] at h
 | cons a l ih =>
   rw [List.map_cons, maxL, List.foldl_cons, foldl_max] at h
   by_cases h1 : m < a.deep
   · exact ⟨a, List.mem_cons_self .., h1⟩
   · obtain ⟨k, hk, hk2⟩ := ih (by omega)
     exact ⟨k, List.mem_cons_of_mem _ hk, hk2⟩
theorem flat_take {α : Type} (f : α → List Nat) (l : List α) (k : Nat) (h : k < l.length) : (l.take (k + 1)).flatMap f = (l.take k).flatMap f ++ f l[k] := by
 rw [List.take_succ_eq_append_getElem h, List.flatMap_append]
 simp
theorem flat_le {α : Type} (f : α → List Nat) (l : List α) (k : Nat) : ((l.take k).flatMap f).length ≤ (l.flatMap f).length := by
 conv => rhs; rw [← List.take_append_drop k l]
 rw [List.flatMap_append, List.length_append]
 omega
theorem El.inner_made (e : El) (h : e.m = true) : e.inner = e.kids.flatMap El.enc := by
 rw [El.inner, if_pos h, Fo.enc_list]
 rfl
theorem tagB_short (c n : Int) (m : Bool) (hr : RightT c n) : (tagB c m n).length ≤ 5 := by
 rw [tagB_len]
 split
 · omega
 · have := count7_le n.toNat (by have := hr.2.2.1; omega) (by have := hr.2.2.2; omega)
   omega
theorem lenB_short (n : Int) (h : n ≤ 2147483647) : (lenB n).length ≤ 5 := by
 rw [lenB_len]
 split
 · omega
 · split
   · omega
   · have := count8_le n.toNat (by omega) (by omega)
     omega
def El.put (e : El) : List Nat × Nat := if e.right = false then ([], 2) else if 24 < e.deep then ([], 15) else if 16384 < e.enc.length then ([], 3) else (e.enc, 0)
theorem El.put_cases (e : El) : (e.right = false ∧ e.put = ([], 2)) ∨ (e.right = true ∧ 24 < e.deep ∧ e.put = ([], 15)) ∨ (e.right = true ∧ e.deep ≤ 24 ∧ 16384 < e.enc.length ∧ e.put = ([], 3)) ∨ (e.right = true ∧ e.deep ≤ 24 ∧ e.enc.length ≤ 16384 ∧ e.put = (e.enc, 0)) := by
 unfold El.put
 by_cases h1 : e.right = false
 · left
   exact ⟨h1, if_pos h1⟩
 · have h1' : e.right = true := by simpa using h1
   rw [if_neg h1]
   by_cases h2 : 24 < e.deep
   · right; left
     exact ⟨h1', h2, if_pos h2⟩
   · rw [if_neg h2]
     by_cases h3 : 16384 < e.enc.length
     · right; right; left
       exact ⟨h1', by omega, h3, if_pos h3⟩
     · right; right; right
       exact ⟨h1', by omega, by omega, if_neg h3⟩
theorem byt_of : ∀ (l : List El), (∀ e ∈ l, e.byt) → (Fo.of l).byt
 | [], _ => trivial
 | e :: r, h => ⟨(h e (by simp)).1, (h e (by simp)).2, byt_of r fun x hx => h x (by simp [hx])⟩
end Go.Proofs.YtcbiedonmibfaaaGreatDoor
