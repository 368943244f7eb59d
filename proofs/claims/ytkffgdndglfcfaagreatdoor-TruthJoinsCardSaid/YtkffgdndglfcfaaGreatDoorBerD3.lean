/-
  Small laws, out of RefRead, BackNum, Elt, RefPutLen, RefPut, EltRight, EltDeep, EltSame, EltRow, EltOwn, Ber, BerRow, BerIn, BerMade, BerParse, BerBack, BerDeep, BerOk, BerCut, RefPutL, EltBytes, EltPut, for a seat without the functions that those reach.
-/
import Derived.Test.YtkffgdndglfcfaaGreatDoorWords
import Derived.Test.YtkffgdndglfcfaaGreatDoorAppend
import Derived.Test.YtkffgdndglfcfaaGreatDoorMore
import Derived.Test.YtkffgdndglfcfaaGreatDoorNum
import Derived.Test.YtkffgdndglfcfaaGreatDoorBox
import Derived.Test.YtkffgdndglfcfaaGreatDoorGroups
import Derived.Test.YtkffgdndglfcfaaGreatDoorRoomy
import Derived.Test.YtkffgdndglfcfaaGreatDoorPutLen
import Derived.Test.YtkffgdndglfcfaaGreatDoorPut
import Derived.Test.YtkffgdndglfcfaaGreatDoorNil
import Derived.Test.YtkffgdndglfcfaaGreatDoorRead
import Derived.Test.YtkffgdndglfcfaaGreatDoorReadLen
import Derived.Test.YtkffgdndglfcfaaGreatDoorReadTag
import Derived.Test.YtkffgdndglfcfaaGreatDoorStr
import Derived.Deep.RegionHeldLaw
import Derived.Deep.DrawnRows
import Derived.Deep.AppendLies
import Derived.OneCell
namespace Go.Proofs.YtkffgdndglfcfaaGreatDoor
open Go.RowKit

theorem add_plain2 (b o j : Nat) : (⟨b, o, none⟩ : Addr).add j = ⟨b, o + j, none⟩ := by unfold Addr.add; split <;> simp_all
def tup5 (q : Nat × Bool × Nat × Nat × Nat) : Value := .tuple #[.int .i64 (q.1 : Int), .bool q.2.1, .int .i64 (q.2.2.1 : Int), .int .i64 (q.2.2.2.1 : Int), .int .i64 (q.2.2.2.2 : Int)]
theorem rn_row (n : Nat) (behind : List Nat) : ∀ k f i, 1 ≤ k → k ≤ f → (i = 0 → n / 128 ^ k = 0 ∧ 1 ≤ n / 128 ^ (k - 1) ∧ 31 ≤ n) →
    rn f i (n / 128 ^ k) (row more 128 n k ++ behind) = (n, i + k, 0)
  | 0, _, _, h, _, _ => absurd h (by omega)
  | k + 1, 0, _, _, h, _ => absurd h (by omega)
  | k + 1, f + 1, i, _, hf, hi => by
    have hd : n / 128 ^ (k + 1) = n / 128 ^ k / 128 := (shift_step n 128 k).symm
    rw [row, List.cons_append, rn_cons]
    by_cases hk : k = 0
    · subst hk
      have e : more (n / 128 ^ 0 % 128) (0 == 0) = n % 128 := by simp [more]
      have hn : n / 128 ^ (0 + 1) = n / 128 := by simp
      rw [e, if_neg (by
        rintro ⟨h0, h1⟩
        have := hi h0
        rw [hn] at this
        omega), if_pos (by omega), hn]
      congr 1
      · omega
    · have e : more (n / 128 ^ k % 128) (k == 0) = n / 128 ^ k % 128 + 128 := by
        have : (k == 0) = false := by simpa using hk
        rw [this]; rfl
      rw [e, if_neg (by
        rintro ⟨h0, h1⟩
        have := hi h0
        rw [hd, Nat.add_sub_cancel] at this
        omega), if_neg (by omega), show n / 128 ^ (k + 1) * 128 + (n / 128 ^ k % 128 + 128) % 128 = n / 128 ^ k from by rw [hd]; omega]
      rw [rn_row n behind k f (i + 1) (by omega) (by omega) (by omega)]
      congr 2
      omega
theorem rn_cut (n : Nat) : ∀ k f i a, 1 ≤ k → k ≤ f → (i = 0 → n / 128 ^ k = 0 ∧ 1 ≤ n / 128 ^ (k - 1)) → rn f i a ((row more 128 n k).take (k - 1)) = (0, 0, 10)
  | 0, _, _, _, h, _, _ => absurd h (by omega)
  | k + 1, 0, _, _, _, h, _ => absurd h (by omega)
  | 0 + 1, f + 1, i, a, _, _, _ => rfl
  | (k + 1) + 1, f + 1, i, a, _, hf, hi => by
    have hd : n / 128 ^ (k + 1 + 1) = n / 128 ^ (k + 1) / 128 := (shift_step n 128 (k + 1)).symm
    have e : more (n / 128 ^ (k + 1) % 128) (k + 1 == 0) = n / 128 ^ (k + 1) % 128 + 128 := rfl
    rw [Nat.add_sub_cancel, row, List.take_succ_cons, rn_cons, e, if_neg (by
        rintro ⟨h0, h1⟩
        have := hi h0
        rw [hd, Nat.add_sub_cancel] at this
        omega), if_neg (by omega)]
    have := rn_cut n (k + 1) f (i + 1) (a * 128 + (n / 128 ^ (k + 1) % 128 + 128) % 128) (by omega) (by omega) (by omega)
    rwa [Nat.add_sub_cancel] at this
theorem count7_le (n : Nat) (h0 : n ≠ 0) (h : n ≤ 268435455) : count 7 n ≤ 4 := by
  have := count_ge 7 n (by decide) h0 (by omega)
  rcases Nat.lt_or_ge 4 (count 7 n) with h1 | h1
  · have h2 := Nat.pow_le_pow_right (n := 2 ^ 7) (by decide) (show 4 ≤ count 7 n - 1 by omega)
    have h3 : (2 ^ 7) ^ 4 = 268435456 := by decide
    omega
  · exact h1
theorem count8_le (n : Nat) (h0 : n ≠ 0) (h : n ≤ 2147483647) : count 8 n ≤ 4 := by
  have := count_ge 8 n (by decide) h0 (by omega)
  rcases Nat.lt_or_ge 4 (count 8 n) with h1 | h1
  · have h2 := Nat.pow_le_pow_right (n := 2 ^ 8) (by decide) (show 4 ≤ count 8 n - 1 by omega)
    have h3 : (2 ^ 8) ^ 4 = 4294967296 := by decide
    omega
  · exact h1
theorem tagB_pos (c n : Int) (m : Bool) : 1 ≤ (tagB c m n).length := by
  rw [tagB_len]
  split <;> omega
theorem headB_mod (c : Int) (m : Bool) (hc : 0 ≤ c ∧ c ≤ 3) (x : Nat) (hx : x < 32) :
    (headB c m + x) % 32 = x ∧ (headB c m + x) / 64 = c.toNat ∧ ((headB c m + x) / 32 % 2 == 1) = m ∧ headB c m + x < 256 := by
  unfold headB
  cases m
  · refine ⟨by simp; omega, by simp; omega, ?_, by simp; omega⟩
    simp
    omega
  · refine ⟨by simp; omega, by simp; omega, ?_, by simp; omega⟩
    simp
    omega
/-- What is put is read back. -/
theorem rdT_back (c n : Int) (m : Bool) (hr : Go.Proofs.YtkffgdndglfcfaaGreatDoor.RightT c n) (behind : List Nat) : rdT (tagB c m n ++ behind) = (c.toNat, m, n.toNat, (tagB c m n).length, 0) := by
  obtain ⟨h1, h2, h3, h4⟩ := hr
  rw [tagB_len]
  unfold tagB
  by_cases hn : n < 31
  · obtain ⟨e1, e2, e3, _⟩ := headB_mod c m ⟨h1, h2⟩ n.toNat (by omega)
    rw [if_pos hn, if_pos hn, List.cons_append, rdT, if_neg (by omega), e1, e2, e3]
  · obtain ⟨e1, e2, e3, _⟩ := headB_mod c m ⟨h1, h2⟩ 31 (by omega)
    have hp := count_pos 7 n.toNat (by decide) (by omega) (by omega)
    have hl := count7_le n.toNat (by omega) (by omega)
    have hz : n.toNat / 128 ^ count 7 n.toNat = 0 := (count_shift 7 n.toNat _ (by decide) (by omega) (by omega) (Nat.le_refl _)).2 rfl
    have hg : 1 ≤ n.toNat / 128 ^ (count 7 n.toNat - 1) := by
      have := count_ge 7 n.toNat (by decide) (by omega) (by omega)
      exact (Nat.le_div_iff_mul_le (Nat.pow_pos (by decide))).2 (by rw [Nat.one_mul]; exact this)
    have hrn := rn_row n.toNat behind (count 7 n.toNat) 4 0 hp hl (fun _ => ⟨hz, hg, by omega⟩)
    rw [hz, Nat.zero_add] at hrn
    rw [if_neg hn, if_neg hn, List.cons_append, rdT, if_pos e1, hrn, if_pos rfl, e2, e3]
theorem rdT_cut (c n : Int) (m : Bool) (hr : Go.Proofs.YtkffgdndglfcfaaGreatDoor.RightT c n) : rdT ((tagB c m n).take ((tagB c m n).length - 1)) = (0, false, 0, 0, 10) := by
  obtain ⟨h1, h2, h3, h4⟩ := hr
  rw [tagB_len]
  unfold tagB
  by_cases hn : n < 31
  · rw [if_pos hn, if_pos hn]
    rfl
  · obtain ⟨e1, _, _, _⟩ := headB_mod c m ⟨h1, h2⟩ 31 (by omega)
    have hp := count_pos 7 n.toNat (by decide) (by omega) (by omega)
    have hl := count7_le n.toNat (by omega) (by omega)
    have hz : n.toNat / 128 ^ count 7 n.toNat = 0 := (count_shift 7 n.toNat _ (by decide) (by omega) (by omega) (Nat.le_refl _)).2 rfl
    have hg : 1 ≤ n.toNat / 128 ^ (count 7 n.toNat - 1) := by
      have := count_ge 7 n.toNat (by decide) (by omega) (by omega)
      exact (Nat.le_div_iff_mul_le (Nat.pow_pos (by decide))).2 (by rw [Nat.one_mul]; exact this)
    have hrn := rn_cut n.toNat (count 7 n.toNat) 4 0 0 hp hl (fun _ => ⟨hz, hg⟩)
    rw [if_neg hn, if_neg hn, show 1 + count 7 n.toNat - 1 = (count 7 n.toNat - 1) + 1 from by omega, List.take_succ_cons, rdT, if_pos e1, hrn, if_neg (by decide)]
theorem be_row (n : Nat) : ∀ k a, a = n / 256 ^ k → (row same 256 n k).foldl (fun a c => a * 256 + c) a = n
  | 0, a, h => by simpa [row] using h
  | k + 1, a, h => by
    rw [row, List.foldl_cons]
    refine be_row n k _ ?_
    rw [h, ← shift_step n 256 k]
    unfold same
    omega
theorem lenB_pos (n : Int) (h : 0 ≤ n) : 1 ≤ (lenB n).length := by
  rw [lenB_len, if_neg (by omega)]
  split <;> omega
theorem rdL_back (n : Int) (h1 : 0 ≤ n) (h2 : n ≤ 2147483647) (behind : List Nat) : rdL (lenB n ++ behind) = (n.toNat, (lenB n).length, 0) := by
  have h0 : ¬ n < 0 := by omega
  rw [lenB_len]
  unfold lenB
  rw [if_neg h0, if_neg h0]
  by_cases hn : n < 128
  · rw [if_pos hn, if_pos hn, List.cons_append, rdL_cons, if_pos (by omega)]
  · have hp := count_pos 8 n.toNat (by decide) (by omega) (by omega)
    have hl := count8_le n.toNat (by omega) (by omega)
    have hz : n.toNat / 256 ^ count 8 n.toNat = 0 := (count_shift 8 n.toNat _ (by decide) (by omega) (by omega) (Nat.le_refl _)).2 rfl
    have hb : be ((row same 256 n.toNat (count 8 n.toNat) ++ behind).take (128 + count 8 n.toNat - 128)) = n.toNat := by
      rw [Nat.add_sub_cancel_left, List.take_append_of_le_length (by rw [row_len]; omega), List.take_of_length_le (by rw [row_len]; omega)]
      exact be_row n.toNat _ 0 hz.symm
    rw [if_neg hn, if_neg hn, List.cons_append, rdL_cons, if_neg (by omega), if_neg (by omega), if_neg (by omega), if_neg (by rw [List.length_append, row_len]; omega), hb, if_neg (by omega), Nat.add_sub_cancel_left]
theorem rdL_cut (n : Int) (h1 : 0 ≤ n) (h2 : n ≤ 2147483647) : rdL ((lenB n).take ((lenB n).length - 1)) = (0, 0, 10) := by
  have h0 : ¬ n < 0 := by omega
  rw [lenB_len]
  unfold lenB
  rw [if_neg h0, if_neg h0]
  by_cases hn : n < 128
  · rw [if_pos hn, if_pos hn]
    rfl
  · have hp := count_pos 8 n.toNat (by decide) (by omega) (by omega)
    have hl := count8_le n.toNat (by omega) (by omega)
    rw [if_neg hn, if_neg hn, show 1 + count 8 n.toNat - 1 = (count 8 n.toNat - 1) + 1 from by omega, List.take_succ_cons, rdL_cons, if_neg (by omega), if_neg (by omega), if_neg (by omega), if_pos (by rw [List.length_take, row_len]; omega)]
theorem tagB_byte (c n : Int) (m : Bool) (hr : Go.Proofs.YtkffgdndglfcfaaGreatDoor.RightT c n) : ∀ x ∈ tagB c m n, x < 256 := by
  obtain ⟨h1, h2, h3, h4⟩ := hr
  intro x hx
  unfold tagB at hx
  split at hx
  · simp only [List.mem_singleton] at hx
    rw [hx]
    exact (headB_mod c m ⟨h1, h2⟩ n.toNat (by omega)).2.2.2
  · rw [List.mem_cons] at hx
    rcases hx with rfl | hx
    · exact (headB_mod c m ⟨h1, h2⟩ 31 (by omega)).2.2.2
    · exact row_lt more 128 n.toNat 256 (by decide) (fun d l hd => by unfold more; split <;> omega) _ x hx
theorem lenB_byte (n : Int) (h2 : n ≤ 9223372036854775807) : ∀ x ∈ lenB n, x < 256 := by
  intro x hx
  unfold lenB at hx
  split at hx
  · cases hx
  · split at hx
    · simp only [List.mem_singleton] at hx
      omega
    · rw [List.mem_cons] at hx
      rcases hx with rfl | hx
      · have := Lib.bitLen_le n.toNat 64 (by omega) (by omega)
        unfold count
        omega
      · exact row_lt same 256 n.toNat 256 (by decide) (fun d l hd => hd) _ x hx
/-- Two identifiers, and two lengths, have the same bytes just if they are one. -/
theorem tagB_inj {c n c' n' : Int} {m m' : Bool} (h : Go.Proofs.YtkffgdndglfcfaaGreatDoor.RightT c n) (h' : Go.Proofs.YtkffgdndglfcfaaGreatDoor.RightT c' n') (e : tagB c m n = tagB c' m' n') : c = c' ∧ m = m' ∧ n = n' := by
  have a := rdT_back c n m h []
  rw [e, rdT_back c' n' m' h' []] at a
  simp only [Prod.mk.injEq] at a
  obtain ⟨h1, _, h3, _⟩ := h
  obtain ⟨k1, _, k3, _⟩ := h'
  exact ⟨by omega, a.2.1.symm, by omega⟩
theorem lenB_inj {n n' : Int} (h1 : 0 ≤ n) (h2 : n ≤ 2147483647) (k1 : 0 ≤ n') (k2 : n' ≤ 2147483647) (e : lenB n = lenB n') : n = n' := by
  have a := rdL_back n h1 h2 []
  rw [e, rdL_back n' k1 k2 []] at a
  simp only [Prod.mk.injEq] at a
  omega
/-- A row of elements: class, made, number, bytes, kids; and those behind it. -/
inductive Fo where
  | nil : Fo
  | cons (c : Int) (m : Bool) (n : Int) (b : List Nat) (k nx : Fo) : Fo
/-- One element. -/
structure El where
  c : Int
  m : Bool
  n : Int
  b : List Nat
  k : Fo
def Fo.list : Fo → List El
  | .nil => []
  | .cons c m n b k nx => ⟨c, m, n, b, k⟩ :: nx.list
def El.kids (e : El) : List El := e.k.list
def Fo.of : List El → Fo
  | [] => .nil
  | e :: r => .cons e.c e.m e.n e.b e.k (Fo.of r)
theorem Fo.of_list : ∀ f : Fo, Fo.of f.list = f
  | .nil => rfl
  | .cons c m n b k nx => by rw [Fo.list, Fo.of, Fo.of_list nx]
theorem Fo.list_of : ∀ l : List El, (Fo.of l).list = l
  | [] => rfl
  | e :: r => by rw [Fo.of, Fo.list, Fo.list_of r]
/-- Induction over an element: it may be taken of all its kids. -/
theorem El.ind {Q : El → Prop} (h : ∀ e, (∀ e' ∈ e.kids, Q e') → Q e) (e : El) : Q e := by
  have all : ∀ f : Fo, ∀ e ∈ f.list, Q e := by
    intro f
    induction f with
    | nil => intro e he; cases he
    | cons c m n b k nx ihk ihn =>
      intro e he
      rcases List.mem_cons.1 he with rfl | he
      · exact h _ ihk
      · exact ihn e he
  exact h e (all e.k)
def rtB (c n : Int) : Bool := decide (0 ≤ c) && decide (c ≤ 3) && decide (0 ≤ n) && decide (n ≤ 268435455)
theorem rtB_iff (c n : Int) : rtB c n = true ↔ RightT c n := by
  unfold rtB RightT
  simp [and_assoc]
/-- Well formed. -/
def Fo.right : Fo → Bool
  | .nil => true
  | .cons c m n b k nx => rtB c n && (m || k.list.isEmpty) && (!m || b.isEmpty) && k.right && nx.right
def El.one (e : El) : Bool := rtB e.c e.n && (e.m || e.kids.isEmpty) && (!e.m || e.b.isEmpty)
def El.right (e : El) : Bool := e.one && e.k.right
theorem Fo.right_list : ∀ f : Fo, f.right = f.list.all El.right
  | .nil => rfl
  | .cons c m n b k nx => by
    rw [Fo.right, Fo.list, List.all_cons, Fo.right_list nx]
    rfl
theorem El.right_kids (e : El) : e.right = (e.one && e.kids.all El.right) := by rw [El.right, Fo.right_list]; rfl
/-- How deep. -/
def Fo.deep : Fo → Nat
  | .nil => 0
  | .cons _ _ _ _ k nx => max (k.deep + 1) nx.deep
def El.deep (e : El) : Nat := e.k.deep + 1
def maxL (l : List Nat) : Nat := l.foldl max 0
theorem foldl_max (l : List Nat) : ∀ a, l.foldl max a = max a (maxL l) := by
  unfold maxL
  induction l with
  | nil => intro a; simp
  | cons x r ih => intro a; rw [List.foldl_cons, List.foldl_cons, ih (max a x), ih (max 0 x)]; omega
theorem Fo.deep_list : ∀ f : Fo, f.deep = maxL (f.list.map El.deep)
  | .nil => rfl
  | .cons c m n b k nx => by
    rw [Fo.deep, Fo.list, List.map_cons, maxL, List.foldl_cons, foldl_max, Fo.deep_list nx]
    simp [El.deep]
theorem El.deep_kids (e : El) : e.deep = maxL (e.kids.map El.deep) + 1 := by rw [El.deep, Fo.deep_list]; rfl
/-- The bytes. -/
def Fo.enc : Fo → List Nat
  | .nil => []
  | .cons c m n b k nx => (tagB c m n ++ lenB ((if m then k.enc else b).length : Int) ++ (if m then k.enc else b)) ++ nx.enc
def El.inner (e : El) : List Nat := if e.m then e.k.enc else e.b
def El.enc (e : El) : List Nat := tagB e.c e.m e.n ++ lenB (e.inner.length : Int) ++ e.inner
theorem Fo.enc_list : ∀ f : Fo, f.enc = f.list.flatMap El.enc
  | .nil => rfl
  | .cons c m n b k nx => by
    rw [Fo.enc, Fo.list, List.flatMap_cons, Fo.enc_list nx]
    rfl
/-- Equal. -/
def Fo.same : Fo → Fo → Bool
  | .nil, .nil => true
  | .cons c m n b k nx, .cons c' m' n' b' k' nx' => decide (c = c') && decide (m = m') && decide (n = n') && decide (b = b') && k.same k' && nx.same nx'
  | _, _ => false
theorem Fo.same_iff : ∀ f g : Fo, f.same g = true ↔ f = g
  | .nil, .nil => by simp [Fo.same]
  | .nil, .cons .. => by simp [Fo.same]
  | .cons .., .nil => by simp [Fo.same]
  | .cons c m n b k nx, .cons c' m' n' b' k' nx' => by
    simp [Fo.same, Fo.same_iff k k', Fo.same_iff nx nx', and_assoc]
/-- The slice of bytes at A reads as l, in blocks of I. -/
structure SrcI (w : World) (I : Nat → Prop) (A : Option Addr) (c : Nat) (l : List Nat) : Prop where
  le : l.length ≤ c
  nil : A = none → c = 0
  at_ : ∀ ad, A = some ad → (0 < l.length → I ad.block) ∧ ∀ (j n : Nat), l[j]? = some n → w.cell? (ad.add j) = some (.int .u8 (n : Int))
theorem Src.toI {w : World} {K : Nat} {A : Option Addr} {c : Nat} {l : List Nat} (h : Src w K A c l) : SrcI w (· < K) A c l := ⟨h.le, h.nil, h.at_⟩
theorem SrcI.src {w : World} {K : Nat} {A : Option Addr} {c : Nat} {l : List Nat} (h : SrcI w (· < K) A c l) : Src w K A c l := ⟨h.le, h.nil, h.at_⟩
theorem SrcI.keep {w w' : World} {I : Nat → Prop} {A : Option Addr} {c : Nat} {l : List Nat} (h : SrcI w I A c l) (hk : ∀ p : Addr, I p.block → w'.cell? p = w.cell? p) : SrcI w' I A c l := by
  refine ⟨h.le, h.nil, fun ad e => ⟨(h.at_ ad e).1, fun j n hj => ?_⟩⟩
  have hl : 0 < l.length := by
    rcases l with _ | ⟨x, r⟩
    · simp at hj
    · simp
  rw [hk _ (by rw [add_block]; exact (h.at_ ad e).1 hl)]
  exact (h.at_ ad e).2 j n hj
theorem SrcI.more {w : World} {I J : Nat → Prop} {A : Option Addr} {c : Nat} {l : List Nat} (h : SrcI w I A c l) (hb : ∀ i, I i → J i) : SrcI w J A c l :=
  ⟨h.le, h.nil, fun ad e => ⟨fun h0 => hb _ ((h.at_ ad e).1 h0), (h.at_ ad e).2⟩⟩
/-- A row of elements lies in block bl from off on; what they lead to lies in blocks of I. -/
def FoAt (w : World) (I : Nat → Prop) : Fo → Nat → Nat → Prop
  | .nil, _, _ => True
  | .cons c m n b k nx, bl, off =>
    w.cell? ⟨bl, off, none⟩ = some (.int .i64 c) ∧ w.cell? ⟨bl, off + 1, none⟩ = some (.bool m) ∧ w.cell? ⟨bl, off + 2, none⟩ = some (.int .i64 n) ∧
    (∃ A cp, w.cell? ⟨bl, off + 3, none⟩ = some (.slice A b.length cp) ∧ SrcI w I A cp b) ∧
    (∃ A cp, w.cell? ⟨bl, off + 4, none⟩ = some (.slice A k.list.length cp) ∧ k.list.length ≤ cp ∧ cp ≤ 9223372036854775807 ∧ (A = none → cp = 0) ∧ ∀ ad, A = some ad → 0 < k.list.length → ad.spot = none ∧ I ad.block ∧ FoAt w I k ad.block ad.off) ∧
    FoAt w I nx bl (off + 5)
/-- The slice of elements at A reads as l. -/
structure SlI (w : World) (I : Nat → Prop) (A : Option Addr) (cp : Nat) (f : Fo) : Prop where
  le : f.list.length ≤ cp
  big : cp ≤ 9223372036854775807
  nil : A = none → cp = 0
  at_ : ∀ ad, A = some ad → 0 < f.list.length → ad.spot = none ∧ I ad.block ∧ FoAt w I f ad.block ad.off
/-- One element in memory. -/
structure ElAt (w : World) (I : Nat → Prop) (e : El) (bl off : Nat) (Ab : Option Addr) (cb : Nat) (Ak : Option Addr) (ck : Nat) : Prop where
  c : w.cell? ⟨bl, off, none⟩ = some (.int .i64 e.c)
  m : w.cell? ⟨bl, off + 1, none⟩ = some (.bool e.m)
  n : w.cell? ⟨bl, off + 2, none⟩ = some (.int .i64 e.n)
  b : w.cell? ⟨bl, off + 3, none⟩ = some (.slice Ab e.b.length cb)
  k : w.cell? ⟨bl, off + 4, none⟩ = some (.slice Ak e.kids.length ck)
/-- What an element's value leads to. -/
structure ElIn (w : World) (I : Nat → Prop) (e : El) (Ab : Option Addr) (cb : Nat) (Ak : Option Addr) (ck : Nat) : Prop where
  b : SrcI w I Ab cb e.b
  k : SlI w I Ak ck e.k
def elV (e : El) (Ab : Option Addr) (cb : Nat) (Ak : Option Addr) (ck : Nat) : Value := .agg #[.int .i64 e.c, .bool e.m, .int .i64 e.n, .slice Ab e.b.length cb, .slice Ak e.kids.length ck]
theorem FoAt.get {w : World} {I : Nat → Prop} : ∀ {f : Fo} {bl off : Nat}, FoAt w I f bl off → ∀ (i : Nat) (hi : i < f.list.length), ∃ Ab cb Ak ck, ElAt w I f.list[i] bl (off + i * 5) Ab cb Ak ck ∧ ElIn w I f.list[i] Ab cb Ak ck
  | .nil, _, _, _, i, hi => by simp [Fo.list] at hi
  | .cons c m n b k nx, bl, off, h, 0, hi => by
    obtain ⟨h1, h2, h3, ⟨Ab, cb, h4, h5⟩, ⟨Ak, ck, h6, h7, h8, h9, h10⟩, _⟩ := h
    refine ⟨Ab, cb, Ak, ck, ?_, ?_⟩
    · simp only [Nat.zero_mul, Nat.add_zero]
      exact ⟨h1, h2, h3, h4, h6⟩
    · exact ⟨h5, ⟨h7, h8, h9, h10⟩⟩
  | .cons c m n b k nx, bl, off, h, i + 1, hi => by
    obtain ⟨_, _, _, _, _, hn⟩ := h
    have := FoAt.get hn i (by simpa [Fo.list] using hi)
    rw [show off + (i + 1) * 5 = off + 5 + i * 5 from by omega]
    exact this
theorem FoAt.keep {w w' : World} {I : Nat → Prop} (hk : ∀ p : Addr, I p.block → w'.cell? p = w.cell? p) : ∀ {f : Fo} {bl off : Nat}, FoAt w I f bl off → I bl → FoAt w' I f bl off
  | .nil, _, _, _, _ => trivial
  | .cons c m n b k nx, bl, off, h, hb => by
    obtain ⟨h1, h2, h3, ⟨Ab, cb, h4, h5⟩, ⟨Ak, ck, h6, h7, h8, h9, h10⟩, hn⟩ := h
    refine ⟨?_, ?_, ?_, ⟨Ab, cb, ?_, h5.keep hk⟩, ⟨Ak, ck, ?_, h7, h8, h9, fun ad e h0 => ?_⟩, FoAt.keep hk hn hb⟩
    · rw [hk _ hb]; exact h1
    · rw [hk _ hb]; exact h2
    · rw [hk _ hb]; exact h3
    · rw [hk _ hb]; exact h4
    · rw [hk _ hb]; exact h6
    · obtain ⟨a1, a2, a3⟩ := h10 ad e h0
      exact ⟨a1, a2, FoAt.keep hk a3 a2⟩
theorem FoAt.more {w : World} {I J : Nat → Prop} (hJ : ∀ i, I i → J i) : ∀ {f : Fo} {bl off : Nat}, FoAt w I f bl off → FoAt w J f bl off
  | .nil, _, _, _ => trivial
  | .cons c m n b k nx, bl, off, h => by
    obtain ⟨h1, h2, h3, ⟨Ab, cb, h4, h5⟩, ⟨Ak, ck, h6, h7, h8, h9, h10⟩, hn⟩ := h
    exact ⟨h1, h2, h3, ⟨Ab, cb, h4, h5.more hJ⟩, ⟨Ak, ck, h6, h7, h8, h9, fun ad e h0 => ⟨(h10 ad e h0).1, hJ _ (h10 ad e h0).2.1, FoAt.more hJ (h10 ad e h0).2.2⟩⟩, FoAt.more hJ hn⟩
theorem SlI.keep {w w' : World} {I : Nat → Prop} {A : Option Addr} {cp : Nat} {f : Fo} (h : SlI w I A cp f) (hk : ∀ p : Addr, I p.block → w'.cell? p = w.cell? p) : SlI w' I A cp f :=
  ⟨h.le, h.big, h.nil, fun ad e h0 => ⟨(h.at_ ad e h0).1, (h.at_ ad e h0).2.1, FoAt.keep hk (h.at_ ad e h0).2.2 (h.at_ ad e h0).2.1⟩⟩
theorem SlI.more {w : World} {I J : Nat → Prop} {A : Option Addr} {cp : Nat} {f : Fo} (h : SlI w I A cp f) (hJ : ∀ i, I i → J i) : SlI w J A cp f :=
  ⟨h.le, h.big, h.nil, fun ad e h0 => ⟨(h.at_ ad e h0).1, hJ _ (h.at_ ad e h0).2.1, (h.at_ ad e h0).2.2.more hJ⟩⟩
theorem ElIn.keep {w w' : World} {I : Nat → Prop} {e : El} {Ab : Option Addr} {cb : Nat} {Ak : Option Addr} {ck : Nat} (h : ElIn w I e Ab cb Ak ck) (hk : ∀ p : Addr, I p.block → w'.cell? p = w.cell? p) : ElIn w' I e Ab cb Ak ck := ⟨h.b.keep hk, h.k.keep hk⟩
theorem ElIn.more {w : World} {I J : Nat → Prop} {e : El} {Ab : Option Addr} {cb : Nat} {Ak : Option Addr} {ck : Nat} (h : ElIn w I e Ab cb Ak ck) (hJ : ∀ i, I i → J i) : ElIn w J e Ab cb Ak ck := ⟨h.b.more hJ, h.k.more hJ⟩
theorem ElIn.below {w w' : World} {K : Nat} {e : El} {Ab : Option Addr} {cb : Nat} {Ak : Option Addr} {ck : Nat} (h : ElIn w (· < K) e Ab cb Ak ck) (hb : Below K w w') : ElIn w' (· < K) e Ab cb Ak ck := h.keep fun _ hp => hb.cell hp
/-- A kid. -/
theorem ElIn.kid {w : World} {I : Nat → Prop} {e : El} {Ab : Option Addr} {cb : Nat} {Ak : Option Addr} {ck : Nat} (h : ElIn w I e Ab cb Ak ck) (h0 : 0 < e.kids.length) :
    ∃ bl off, Ak = some ⟨bl, off, none⟩ ∧ I bl ∧ ∀ (i : Nat) (hi : i < e.kids.length), ∃ Ab cb Ak ck, ElAt w I e.kids[i] bl (off + i * 5) Ab cb Ak ck ∧ ElIn w I e.kids[i] Ab cb Ak ck := by
  rcases Ak with _ | ⟨bl, off, spot⟩
  · have := h.k.nil rfl
    have h2 := h.k.le
    have h3 : 0 < e.k.list.length := h0
    omega
  · obtain ⟨h1, h2, h3⟩ := h.k.at_ _ rfl h0
    have : spot = none := h1
    subst this
    exact ⟨bl, off, rfl, h2, fun i hi => h3.get i hi⟩
/-- Elements that lie one behind the other. -/
theorem foAt_ofR {w : World} {I : Nat → Prop} : ∀ (l : List El) (bl off : Nat), (∀ (i : Nat) (hi : i < l.length), ∃ Ab cb Ak ck, ElAt w I l[i] bl (off + i * 5) Ab cb Ak ck ∧ ElIn w I l[i] Ab cb Ak ck) → FoAt w I (Fo.of l) bl off
  | [], _, _, _ => trivial
  | e :: r, bl, off, h => by
    obtain ⟨Ab, cb, Ak, ck, h1, h2⟩ := h 0 (by simp)
    simp only [List.getElem_cons_zero, Nat.zero_mul, Nat.add_zero] at h1 h2
    refine ⟨h1.c, h1.m, h1.n, ⟨Ab, cb, h1.b, h2.b⟩, ⟨Ak, ck, h1.k, h2.k.le, h2.k.big, h2.k.nil, h2.k.at_⟩, foAt_ofR r bl (off + 5) fun i hi => ?_⟩
    have := h (i + 1) (by simpa using hi)
    rw [show off + 5 + i * 5 = off + (i + 1) * 5 from by omega]
    simpa using this
theorem one_right (e : El) : e.one = true ↔ RightT e.c e.n ∧ (e.m = false → e.kids.length = 0) ∧ (e.m = true → e.b.length = 0) := by
  unfold El.one
  rcases e with ⟨c, m, n, b, k⟩
  rw [← rtB_iff]
  cases m <;> simp [El.kids]
theorem box5 {w wi : World} {a b c d e : Value} {T : TypeId} (h : Below (w.heap.size + 1) (w.alloc (.cells #[a, b, c, d, e] T)) wi) :
    wi.cell? ⟨w.heap.size, 0, none⟩ = some a ∧ wi.cell? ⟨w.heap.size, 1, none⟩ = some b ∧ wi.cell? ⟨w.heap.size, 2, none⟩ = some c ∧ wi.cell? ⟨w.heap.size, 3, none⟩ = some d ∧ wi.cell? ⟨w.heap.size, 4, none⟩ = some e := by
  have f : ∀ i, wi.cell? ⟨w.heap.size, i, none⟩ = #[a, b, c, d, e][i]? := fun i => by rw [h.cell (by simp), World.cell?_alloc_new]
  exact ⟨by rw [f]; rfl, by rw [f]; rfl, by rw [f]; rfl, by rw [f]; rfl, by rw [f]; rfl⟩
theorem boxB {w W : World} {o : Obj} (h : Below (w.heap.size + 1) (w.alloc o) W) : Below w.heap.size w W := ((Below.refl w.heap.size w).alloc (Nat.le_refl _) o).trans (h.mono (by omega))
theorem take_all {α : Type} (p : α → Bool) (l : List α) (k : Nat) (h : k < l.length) : (l.take (k + 1)).all p = ((l.take k).all p && p l[k]) := by
  rw [List.take_succ_eq_append_getElem h, List.all_append]
  simp
theorem all_no {α : Type} (p : α → Bool) (l : List α) (k : Nat) (h : k < l.length) (hp : p l[k] = false) : l.all p = false := by
  rw [Bool.eq_false_iff]
  intro ha
  rw [List.all_eq_true] at ha
  have := ha _ (List.getElem_mem h)
  rw [hp] at this
  cases this
theorem maxL_snoc (l : List Nat) (x : Nat) : maxL (l ++ [x]) = max (maxL l) x := by
  unfold maxL
  rw [List.foldl_append]
  rfl
theorem maxL_le (l : List Nat) (x : Nat) (h : x ∈ l) : x ≤ maxL l := by
  obtain ⟨a, b, rfl⟩ := List.append_of_mem h
  unfold maxL
  rw [List.foldl_append, List.foldl_cons, foldl_max]
  omega
theorem maxL_take (l : List Nat) (k : Nat) : maxL (l.take k) ≤ maxL l := by
  have h : maxL l = max (maxL (l.take k)) (maxL (l.drop k)) := by
    conv => lhs; rw [← List.take_append_drop k l]
    unfold maxL
    rw [List.foldl_append, foldl_max]
    rfl
  omega
theorem El.deep_kid (e : El) (i : Nat) (hi : i < e.kids.length) : e.kids[i].deep < e.deep := by
  rw [El.deep_kids e]
  have := maxL_le (e.kids.map El.deep) e.kids[i].deep (List.mem_map.2 ⟨_, List.getElem_mem hi, rfl⟩)
  omega
attribute [local go_sem ↓] Go.wp_at_zero Go.wp_at_succ

def El.same (e f : El) : Bool := decide (e.c = f.c) && decide (e.m = f.m) && decide (e.n = f.n) && decide (e.b = f.b) && e.k.same f.k
/-- What is compared ahead of the kids. -/
def El.head (e f : El) : Bool := decide (e.c = f.c) && decide (e.m = f.m) && decide (e.n = f.n) && decide (e.b = f.b) && decide (e.kids.length = f.kids.length)
def sameL : List El → List El → Bool
  | [], [] => true
  | a :: l, b :: m => a.same b && sameL l m
  | _, _ => false
theorem Fo.same_list : ∀ f g : Fo, f.same g = sameL f.list g.list
  | .nil, .nil => rfl
  | .nil, .cons .. => rfl
  | .cons .., .nil => rfl
  | .cons c m n b k nx, .cons c' m' n' b' k' nx' => by
    rw [Fo.same, Fo.list, Fo.list, sameL, Fo.same_list nx nx']
    rfl
theorem El.same_kids (e f : El) : e.same f = (e.head f && sameL e.kids f.kids) := by
  have h : ∀ l m : List El, sameL l m = (decide (l.length = m.length) && sameL l m) := by
    intro l
    induction l with
    | nil => intro m; cases m <;> simp [sameL]
    | cons a l ih =>
      intro m
      cases m with
      | nil => simp [sameL]
      | cons b m =>
        rw [sameL, ih m]
        simp
        intro _
        rcases Bool.eq_false_or_eq_true (sameL l m) with h | h <;> simp [h]
  unfold El.same El.head
  rw [Fo.same_list, show e.k.list = e.kids from rfl, show f.k.list = f.kids from rfl, h]
  simp [Bool.and_assoc]
theorem sameL_take (l m : List El) (hl : l.length = m.length) (k : Nat) (h : k < l.length) : sameL (l.take (k + 1)) (m.take (k + 1)) = (sameL (l.take k) (m.take k) && l[k].same (m[k]'(by omega))) := by
  induction l generalizing m k with
  | nil => simp at h
  | cons a l ih =>
    cases m with
    | nil => simp at hl
    | cons b m =>
      cases k with
      | zero => simp [sameL]
      | succ k =>
        have := ih m (by simpa using hl) k (by simpa using h)
        simp only [List.take_succ_cons, sameL, List.getElem_cons_succ]
        rw [this, Bool.and_assoc]
theorem sameL_no (l m : List El) (hl : l.length = m.length) (k : Nat) (h : k < l.length) (hp : l[k].same (m[k]'(by omega)) = false) : sameL l m = false := by
  induction l generalizing m k with
  | nil => simp at h
  | cons a l ih =>
    cases m with
    | nil => simp at hl
    | cons b m =>
      cases k with
      | zero =>
        have hp' : a.same b = false := hp
        simp [sameL, hp']
      | succ k =>
        have := ih m (by simpa using hl) k (by simpa using h) (by simpa using hp)
        simp [sameL, this]
theorem box55 {w W : World} {o1 o2 : Obj} (h : Below (w.heap.size + 2) ((w.alloc o1).alloc o2) W) : Below w.heap.size w W :=
  (((Below.refl w.heap.size w).alloc (Nat.le_refl _) o1).alloc (by simp) o2).trans (h.mono (by omega))
theorem box55_cells {w W : World} {a b c d e a' b' c' d' e' : Value} {T : TypeId} (h : Below (w.heap.size + 2) ((w.alloc (.cells #[a, b, c, d, e] T)).alloc (.cells #[a', b', c', d', e'] T)) W) :
    W.cell? ⟨w.heap.size, 4, none⟩ = some e ∧ W.cell? ⟨w.heap.size + 1, 4, none⟩ = some e' := by
  constructor
  · rw [h.cell (by simp), World.cell?_alloc_lt _ _ _ (by simp), World.cell?_alloc_new]
    rfl
  · rw [h.cell (by simp)]
    have := World.cell?_alloc_new (w.alloc (.cells #[a, b, c, d, e] T)) #[a', b', c', d', e'] T 4
    rw [show (w.alloc (.cells #[a, b, c, d, e] T)).heap.size = w.heap.size + 1 from by simp] at this
    rw [this]
    rfl
def Fo.byt : Fo → Prop
  | .nil => True
  | .cons _ _ _ b k nx => (∀ x ∈ b, x < 256) ∧ k.byt ∧ nx.byt
def El.byt (e : El) : Prop := (∀ x ∈ e.b, x < 256) ∧ e.k.byt
theorem Fo.byt_mem : ∀ {f : Fo}, f.byt → ∀ e ∈ f.list, e.byt
  | .nil, _, e, he => by cases he
  | .cons c m n b k nx, h, e, he => by
    rcases List.mem_cons.1 he with rfl | he
    · exact ⟨h.1, h.2.1⟩
    · exact Fo.byt_mem h.2.2 e he
/-- string(b) in a world behind. -/
theorem SrcI.conv {W : World} {I : Nat → Prop} {A : Option Addr} {c : Nat} {l : List Nat} (h : SrcI W I A c l) (hI : ∀ i, I i → i < W.heap.size) : (convert 40 9 (.slice A l.length c)).run Tryz.prog W = .ok (.string (strB l)) W :=
  (h.more hI).src.conv
def sumL (l : List Nat) : Nat := l.foldl (· + ·) 0
theorem foldl_add (l : List Nat) : ∀ a, l.foldl (· + ·) a = a + sumL l := by
  unfold sumL
  induction l with
  | nil => intro a; simp
  | cons x r ih => intro a; rw [List.foldl_cons, List.foldl_cons, ih (a + x), ih (0 + x)]; omega
theorem sumL_snoc (l : List Nat) (x : Nat) : sumL (l ++ [x]) = sumL l + x := by
  unfold sumL
  rw [List.foldl_append]
  rfl
/-- How great. -/
def Fo.size : Fo → Nat
  | .nil => 0
  | .cons _ _ _ b k nx => 1 + b.length + k.size + nx.size
def El.size (e : El) : Nat := 1 + e.b.length + e.k.size
theorem Fo.size_list : ∀ f : Fo, f.size = sumL (f.list.map El.size)
  | .nil => rfl
  | .cons c m n b k nx => by
    rw [Fo.size, Fo.list, List.map_cons, sumL, List.foldl_cons, foldl_add, Fo.size_list nx]
    simp [El.size]
theorem El.size_kids (e : El) : e.size = 1 + e.b.length + sumL (e.kids.map El.size) := by rw [El.size, Fo.size_list]; rfl
/-- An element's five cells. -/
def el5 (e : El) (Ab : Option Addr) (cb : Nat) (Ak : Option Addr) (ck : Nat) : List Value := [.int .i64 e.c, .bool e.m, .int .i64 e.n, .slice Ab e.b.length cb, .slice Ak e.kids.length ck]
theorem el5_one (e : El) (Ab : Option Addr) (cb : Nat) (Ak : Option Addr) (ck : Nat) : ∀ u ∈ el5 e Ab cb Ak ck, u.oneCell' = true := by
  intro u hu
  simp only [el5, List.mem_cons, List.not_mem_nil, or_false] at hu
  rcases hu with rfl | rfl | rfl | rfl | rfl <;> rfl
/-- Where what an element of the row leads to may lie. -/
def RowI (w : World) (W0 base : Nat) (v : Value) (b : Nat) : Prop := b < W0 ∨ (base ≤ b ∧ b < w.heap.size ∧ some b ≠ v.ownBlock)
def RowE (T : TypeId) (w : World) (W0 base : Nat) (v : Value) (l : List El) : Prop :=
  ∃ cs : List Value, w.ownsRow base T 5 v l.length cs ∧ ∀ (i : Nat) (hi : i < l.length), ∃ Ab cb Ak ck, (∀ j, j < 5 → cs[i * 5 + j]? = (el5 l[i] Ab cb Ak ck)[j]?) ∧ ElIn w (RowI w W0 base v) l[i] Ab cb Ak ck
theorem RowE.nil (T : TypeId) (w : World) (W0 base : Nat) : RowE T w W0 base (.slice none 0 0) [] :=
  ⟨[], World.ownsRow_nil _ _ _ _, fun i hi => absurd hi (by simp)⟩
theorem owns_below {w w' : World} {base size n : Nat} {T : TypeId} {v : Value} {xs : List Value} (h : w.ownsRow base T size v n xs) (hb : Below w.heap.size w w') : w'.ownsRow base T size v n xs := by
  obtain ⟨h1, h0 | ⟨g, cap, cur, hv, hbs, hg, hn, hm, hs, hx⟩⟩ := h
  · exact ⟨h1, .inl h0⟩
  · refine ⟨h1, .inr ⟨g, cap, cur, hv, hbs, ?_, hn, hm, hs, hx⟩⟩
    rw [hb.block g (Array.getElem?_eq_some_iff.1 hg).1]
    exact hg
theorem RowE.below {T : TypeId} {w w' : World} {W0 base : Nat} {v : Value} {l : List El} (h : RowE T w W0 base v l) (hb : Below w.heap.size w w') (h0 : W0 ≤ w.heap.size) : RowE T w' W0 base v l := by
  obtain ⟨cs, h1, h2⟩ := h
  refine ⟨cs, owns_below h1 hb, fun i hi => ?_⟩
  obtain ⟨Ab, cb, Ak, ck, h3, h4⟩ := h2 i hi
  refine ⟨Ab, cb, Ak, ck, h3, (h4.keep fun p hp => hb.cell ?_).more fun b hb2 => ?_⟩
  · rcases hp with hp | hp
    · exact Nat.lt_of_lt_of_le hp h0
    · exact hp.2.1
  · rcases hb2 with hb2 | hb2
    · exact .inl hb2
    · exact .inr ⟨hb2.1, Nat.lt_of_lt_of_le hb2.2.1 hb.size, hb2.2.2⟩
/-- A row reads as its elements. -/
theorem RowE.sl {T : TypeId} {w : World} {W0 base : Nat} {v : Value} {l : List El} (h : RowE T w W0 base v l) : ∃ A c, v = .slice A l.length c ∧ SlI w (fun b => b < W0 ∨ (base ≤ b ∧ b < w.heap.size)) A c (Fo.of l) := by
  obtain ⟨cs, ⟨hl, h0 | ⟨g, cap, cur, hv, hbs, hg, hn, hm, hs, hx⟩⟩, h2⟩ := h
  · refine ⟨none, 0, by rw [h0.1, h0.2], ?_⟩
    have hl0 : l = [] := List.eq_nil_of_length_eq_zero h0.2
    subst hl0
    exact ⟨Nat.le_refl _, by omega, fun _ => rfl, fun _ e => by cases e⟩
  · have hgl : g < w.heap.size := (Array.getElem?_eq_some_iff.1 hg).1
    refine ⟨some ⟨g, 0, none⟩, cap, hv, ⟨by rw [Fo.list_of]; exact hn, by unfold maxLen at hm; exact hm, (by simp), fun ad e _ => ?_⟩⟩
    injection e with e
    subst e
    refine ⟨rfl, .inr ⟨hbs, hgl⟩, foAt_ofR l g 0 fun i hi => ?_⟩
    obtain ⟨Ab, cb, Ak, ck, h3, h4⟩ := h2 i hi
    have cell : ∀ j, j < 5 → w.cell? ⟨g, 0 + i * 5 + j, none⟩ = (el5 l[i] Ab cb Ak ck)[j]? := by
      intro j hj
      rw [cell_of_row w g (0 + i * 5 + j) cur _ _ hg, ← h3 j hj, ← hx, List.getElem?_take, if_pos (by omega)]
      simp
    refine ⟨Ab, cb, Ak, ck, ⟨cell 0 (by omega), cell 1 (by omega), cell 2 (by omega), cell 3 (by omega), cell 4 (by omega)⟩, h4.more fun b hb => ?_⟩
    rcases hb with hb | hb
    · exact .inl hb
    · exact .inr ⟨hb.1, hb.2.1⟩
/-- One element more. -/
theorem RowE.snoc {T : TypeId} {w w' : World} {W0 base g cap : Nat} {v : Value} {l : List El} {e : El} {Ab : Option Addr} {cb : Nat} {Ak : Option Addr} {ck : Nat} {cs : List Value}
    (ho : w'.ownsRow base T 5 (.slice (some ⟨g, 0, none⟩) (l.length + 1) cap) (l.length + 1) (cs ++ el5 e Ab cb Ak ck)) (hcs : cs.length = l.length * 5)
    (h2 : ∀ (i : Nat) (hi : i < l.length), ∃ Ab cb Ak ck, (∀ j, j < 5 → cs[i * 5 + j]? = (el5 l[i] Ab cb Ak ck)[j]?) ∧ ElIn w (RowI w W0 base v) l[i] Ab cb Ak ck)
    (he : ElIn w (RowI w W0 base v) e Ab cb Ak ck) (hg : w.grownBy w' v.ownBlock) (hat : v.ownBlock = some g ∨ g = w.heap.size) (h0 : W0 ≤ base) (hb0 : base ≤ w.heap.size) (hv : ∀ b, v.ownBlock = some b → base ≤ b) :
    RowE T w' W0 base (.slice (some ⟨g, 0, none⟩) (l.length + 1) cap) (l ++ [e]) := by
  have hI : ∀ b, RowI w W0 base v b → RowI w' W0 base (.slice (some ⟨g, 0, none⟩) (l.length + 1) cap) b := by
    intro b hb
    rcases hb with hb | hb
    · exact .inl hb
    · refine .inr ⟨hb.1, Nat.lt_of_lt_of_le hb.2.1 hg.size, ?_⟩
      intro e
      have e2 : b = g := by injection e
      rcases hat with hat | hat
      · exact hb.2.2 (by rw [hat, e2])
      · have := hb.2.1
        omega
  have hK : ∀ p : Addr, RowI w W0 base v p.block → w'.cell? p = w.cell? p := by
    intro p hp
    rcases hp with hp | hp
    · refine hg.cell_far p (by omega) fun e => ?_
      have := hv _ e.symm
      omega
    · exact hg.cell_far p hp.2.1 hp.2.2
  refine ⟨cs ++ el5 e Ab cb Ak ck, by rw [List.length_append]; exact ho, fun i hi => ?_⟩
  by_cases hil : i < l.length
  · obtain ⟨Ab2, cb2, Ak2, ck2, h3, h4⟩ := h2 i hil
    refine ⟨Ab2, cb2, Ak2, ck2, fun j hj => ?_, ?_⟩
    · rw [List.getElem?_append_left (by rw [hcs]; omega), h3 j hj, List.getElem_append_left hil]
    · rw [List.getElem_append_left hil]
      exact (h4.keep hK).more hI
  · have hie : i = l.length := by simp at hi; omega
    subst hie
    refine ⟨Ab, cb, Ak, ck, fun j hj => ?_, ?_⟩
    · rw [List.getElem?_append_right (by rw [hcs]; omega), List.getElem_append_right (Nat.le_refl _)]
      simp only [Nat.sub_self, List.getElem_cons_zero]
      rw [hcs]
      congr 1
      omega
    · rw [List.getElem_append_right (Nat.le_refl _)]
      simp only [Nat.sub_self, List.getElem_cons_zero]
      exact (he.keep hK).more hI
theorem El.deep_pos (e : El) : 1 ≤ e.deep := by unfold El.deep; omega
theorem sumL_cons (a : Nat) (l : List Nat) : sumL (a :: l) = a + sumL l := by rw [sumL, List.foldl_cons, foldl_add]; omega
theorem sum_take (l : List El) : ∀ (k : Nat) (hk : k < l.length), sumL ((l.take k).map El.size) + l[k].size ≤ sumL (l.map El.size) := by
  induction l with
  | nil => intro k hk; simp at hk
  | cons a l ih =>
    intro k hk
    rw [List.map_cons (l := l), sumL_cons]
    rcases k with _ | k
    · simp [sumL]
    · have h2 := ih k (by simp at hk; omega)
      rw [List.take_succ_cons, List.map_cons, sumL_cons, List.getElem_cons_succ]
      omega
theorem maxL_mem (l : List El) : ∀ r ∈ l, r.deep ≤ maxL (l.map El.deep) := by
  induction l with
  | nil => intro r hr; cases hr
  | cons a l ih =>
    intro r hr
    rw [List.map_cons, maxL, List.foldl_cons, foldl_max]
    rcases List.mem_cons.1 hr with rfl | hr
    · omega
    · have := ih r hr
      omega
theorem El.deep_mem (e r : El) (h : r ∈ e.kids) : r.deep + 1 ≤ e.deep := by
  rw [El.deep_kids e]
  have := maxL_mem e.kids r h
  omega
/-- What Own answers. -/
def OwnPost (e : El) (deep W0 : Nat) (Ab : Option Addr) (cb : Nat) (w : World) (en : Ending) (w' : World) : Prop :=
  ∃ (N : Nat) (Ak' : Option Addr) (K' ck' : Nat), en = .returned (.tuple #[.agg #[.int .i64 e.c, .bool e.m, .int .i64 e.n, .slice Ab e.b.length cb, .slice Ak' K' ck'], .int .i64 (N : Int)]) ∧ N ≤ 30001 * (62 - deep) ∧
    (N < 30000 → K' = e.kids.length ∧ SlI w' (fun b => b < W0 ∨ (w.heap.size ≤ b ∧ b < w'.heap.size)) Ak' ck' e.k ∧ N = e.size ∧ e.deep + deep ≤ 61) ∧ (e.size < 30000 → e.deep + deep ≤ 61 → N < 30000) ∧ Below w.heap.size w w'
/-- A store beside a row. -/
theorem RowE.set {T : TypeId} {w : World} {W0 base : Nat} {v : Value} {l : List El} (h : RowE T w W0 base v l) (a : Addr) (u : Value) (h1 : W0 ≤ a.block) (h2 : a.block < base) : RowE T (w.setCell a u) W0 base v l := by
  obtain ⟨cs, h3, h4⟩ := h
  have hne : v.ownBlock ≠ some a.block := by
    intro e
    obtain ⟨_, h0 | ⟨g, cap, cur, hv, hbs, _⟩⟩ := h3
    · rw [h0.1] at e
      cases e
    · rw [hv] at e
      injection e with e
      have e' : g = a.block := e
      omega
  have hsz : (w.setCell a u).heap.size = w.heap.size := by simp [World.setCell]
  refine ⟨cs, ownsRow_setCell_other h3 hne u, fun i hi => ?_⟩
  obtain ⟨Ab, cb, Ak, ck, h5, h6⟩ := h4 i hi
  refine ⟨Ab, cb, Ak, ck, h5, (h6.keep fun p hp => ?_).more fun b hb => ?_⟩
  · refine World.cell?_of_block (heap_setCell_other _ _ _ _ fun e => ?_)
    rcases hp with hp | hp
    · omega
    · have := hp.1
      omega
  · unfold RowI at hb ⊢
    rw [hsz]
    exact hb
/-- An element stored into a block of its own. -/
def set5 (w : World) (b : Nat) (u0 u1 u2 u3 u4 : Value) : World := ((((w.setCell ⟨b, 0, none⟩ u0).setCell ⟨b, 1, none⟩ u1).setCell ⟨b, 2, none⟩ u2).setCell ⟨b, 3, none⟩ u3).setCell ⟨b, 4, none⟩ u4
theorem set5_same {w : World} {b : Nat} {v0 v1 v2 v3 v4 : Value} {T : TypeId} (h : w.heap[b]? = some (.cells #[v0, v1, v2, v3, v4] T (0, 0))) (u0 u1 u2 u3 u4 : Value) : (set5 w b u0 u1 u2 u3 u4).heap[b]? = some (.cells #[u0, u1, u2, u3, u4] T (0, 0)) := by
  unfold set5
  rw [_root_.Go.heap_setCell_same _ _ _ _ _ _ (_root_.Go.heap_setCell_same _ _ _ _ _ _ (_root_.Go.heap_setCell_same _ _ _ _ _ _ (_root_.Go.heap_setCell_same _ _ _ _ _ _ (_root_.Go.heap_setCell_same _ _ _ _ _ _ h))))]
  rfl
theorem set5_size (w : World) (b : Nat) (u0 u1 u2 u3 u4 : Value) : (set5 w b u0 u1 u2 u3 u4).heap.size = w.heap.size := by simp [set5, World.setCell]
theorem set5_other (w : World) (b : Nat) (u0 u1 u2 u3 u4 : Value) (p : Addr) (h : p.block ≠ b) : (set5 w b u0 u1 u2 u3 u4).cell? p = w.cell? p := by
  refine World.cell?_of_block ?_
  unfold set5
  rw [Below.heap_setCell _ _ _ _ h, Below.heap_setCell _ _ _ _ h, Below.heap_setCell _ _ _ _ h, Below.heap_setCell _ _ _ _ h, Below.heap_setCell _ _ _ _ h]
theorem set5_below {w W : World} {B b : Nat} (h : Below B w W) (hb : B ≤ b) (u0 u1 u2 u3 u4 : Value) : Below B w (set5 W b u0 u1 u2 u3 u4) := ((((h.setCell hb u0).setCell hb u1).setCell hb u2).setCell hb u3).setCell hb u4
theorem sum_ge (l : List El) : l.length ≤ sumL (l.map El.size) := by
  induction l with
  | nil => simp
  | cons a l ih =>
    rw [List.map_cons, sumL, List.foldl_cons, foldl_add, List.length_cons]
    have : 1 ≤ a.size := by unfold El.size; omega
    omega
theorem rn_ok : ∀ (f i a : Nat) (l : List Nat), (∀ x ∈ l, x < 256) → (rn f i a l).2.2 = 0 → i < (rn f i a l).2.1 ∧ (rn f i a l).2.1 ≤ i + l.length ∧ (rn f i a l).2.1 ≤ i + f ∧ (rn f i a l).1 < (a + 1) * 128 ^ f
  | 0, _, _, _, _, h => by simp [rn] at h
  | f + 1, i, a, [], _, h => by simp [rn] at h
  | f + 1, i, a, c :: r, hb, h => by
    rw [rn_cons] at h ⊢
    split at h
    · simp at h
    · rename_i h1
      rw [if_neg h1]
      split at h
      · rename_i h2
        rw [if_pos h2]
        have : (a + 1) * 128 * 1 ≤ (a + 1) * 128 * 128 ^ f := Nat.mul_le_mul_left _ (Nat.pow_pos (by decide))
        rw [Nat.pow_succ, Nat.mul_comm (128 ^ f), ← Nat.mul_assoc]
        simp only [List.length_cons]
        omega
      · rename_i h2
        rw [if_neg h2]
        obtain ⟨h3, h4, h5, h6⟩ := rn_ok f (i + 1) (a * 128 + c % 128) r (fun x hx => hb x (List.mem_cons_of_mem _ hx)) h
        have : (a * 128 + c % 128 + 1) * 128 ^ f ≤ ((a + 1) * 128) * 128 ^ f := Nat.mul_le_mul_right _ (by omega)
        rw [Nat.pow_succ, Nat.mul_comm (128 ^ f), ← Nat.mul_assoc]
        simp only [List.length_cons]
        omega
theorem rdT_ok (l : List Nat) (hb : ∀ x ∈ l, x < 256) (h : (rdT l).2.2.2.2 = 0) : (rdT l).1 ≤ 3 ∧ (rdT l).2.2.1 ≤ 268435455 ∧ 1 ≤ (rdT l).2.2.2.1 ∧ (rdT l).2.2.2.1 ≤ l.length ∧ (rdT l).2.2.2.1 ≤ 5 := by
  rcases l with _ | ⟨x, r⟩
  · simp [rdT] at h
  · have hx := hb x (List.mem_cons_self ..)
    have H : rdT (x :: r) = if x % 32 = 31 then
      if (rn 4 0 0 r).2.2 = 0 then (x / 64, x / 32 % 2 == 1, (rn 4 0 0 r).1, 1 + (rn 4 0 0 r).2.1, 0) else (0, false, 0, 0, (rn 4 0 0 r).2.2)
      else (x / 64, x / 32 % 2 == 1, x % 32, 1, 0) := rfl
    rw [H] at h ⊢
    split at h
    · rename_i h1
      rw [if_pos h1]
      split at h
      · rename_i h2
        rw [if_pos h2]
        obtain ⟨h3, h4, h5, h6⟩ := rn_ok 4 0 0 r (fun x hx => hb x (List.mem_cons_of_mem _ hx)) h2
        simp only [List.length_cons]
        omega
      · rename_i h2
        exact absurd h h2
    · rename_i h1
      rw [if_neg h1]
      simp only [List.length_cons]
      omega
theorem rdL_ok (l : List Nat) (h : (rdL l).2.2 = 0) : (rdL l).1 ≤ 2147483647 ∧ 1 ≤ (rdL l).2.1 ∧ (rdL l).2.1 ≤ l.length ∧ (rdL l).2.1 ≤ 5 := by
  rcases l with _ | ⟨x, r⟩
  · simp [rdL] at h
  · rw [rdL_cons] at h ⊢
    repeat' (split at h)
    all_goals first | (simp at h; done) | skip
    · rename_i h1
      rw [if_pos h1]
      simp only [List.length_cons]
      omega
    · rename_i h1 h2 h3 h4 h5
      rw [if_neg h1, if_neg h2, if_neg h3, if_neg h4, if_neg h5]
      simp only [List.length_cons]
      omega
/-- What an element's beginning says: how many bytes it has, where its inside begins, the error. -/
def hdT (l : List Nat) : Nat × Nat × Nat :=
  if (rdT l).2.2.2.2 ≠ 0 then (0, 0, (rdT l).2.2.2.2) else if (rdL (l.drop (rdT l).2.2.2.1)).2.2 ≠ 0 then (0, 0, (rdL (l.drop (rdT l).2.2.2.1)).2.2)
  else if 16384 < (rdT l).2.2.2.1 + (rdL (l.drop (rdT l).2.2.2.1)).2.1 + (rdL (l.drop (rdT l).2.2.2.1)).1 then (0, 0, 3)
  else ((rdT l).2.2.2.1 + (rdL (l.drop (rdT l).2.2.2.1)).2.1 + (rdL (l.drop (rdT l).2.2.2.1)).1, (rdT l).2.2.2.1 + (rdL (l.drop (rdT l).2.2.2.1)).2.1, 0)
theorem hdT_ok (l : List Nat) (hb : ∀ x ∈ l, x < 256) (h : (hdT l).2.2 = 0) : (rdT l).2.2.2.2 = 0 ∧ 2 ≤ (hdT l).2.1 ∧ (hdT l).2.1 ≤ (hdT l).1 ∧ (hdT l).1 ≤ 16384 ∧ (hdT l).2.1 ≤ l.length := by
  unfold hdT at h ⊢
  split at h
  · rename_i h1
    exact absurd h h1
  · rename_i h1
    rw [if_neg h1]
    have h1' : (rdT l).2.2.2.2 = 0 := by simpa using h1
    obtain ⟨a1, a2, a3, a4, a5⟩ := rdT_ok l hb h1'
    split at h
    · rename_i h2
      exact absurd h h2
    · rename_i h2
      rw [if_neg h2]
      have h2' : (rdL (l.drop (rdT l).2.2.2.1)).2.2 = 0 := by simpa using h2
      obtain ⟨b1, b2, b3, b4⟩ := rdL_ok _ h2'
      rw [List.length_drop] at b3
      split at h
      · simp at h
      · rename_i h3
        rw [if_neg h3]
        simp only []
        omega
theorem Src.behind {w : World} {K b off c f : Nat} {l : List Nat} (h : Src w K (some ⟨b, off, none⟩) c l) (hf : f ≤ l.length) : Src w K (some ⟨b, off + f, none⟩) (c - f) (l.drop f) := by
  refine ⟨by rw [List.length_drop]; have := h.le; omega, (fun e => by cases e), fun ad e => ?_⟩
  injection e with e
  subst e
  refine ⟨fun h0 => ?_, fun j n hj => ?_⟩
  · rw [List.length_drop] at h0
    exact (h.at_ _ rfl).1 (by omega)
  · rw [List.getElem?_drop] at hj
    have := (h.at_ _ rfl).2 _ _ hj
    rw [add_plain2] at this ⊢
    rw [show off + f + j = off + (f + j) by omega]
    exact this
def el0 : El := ⟨0, false, 0, [], .nil⟩
mutual
/-- The element that l begins with, in d others, and the error. -/
def inP : Nat → List Nat → Nat → El × Nat
  | 0, _, _ => (el0, 0)
  | f + 1, l, d =>
    if (rdT l).2.1 = false then (⟨((rdT l).1 : Nat), false, ((rdT l).2.2.1 : Nat), (l.take (hdT l).1).drop (hdT l).2.1, .nil⟩, 0)
    else if (rowP f ((l.take (hdT l).1).drop (hdT l).2.1) d).2 ≠ 0 then (el0, (rowP f ((l.take (hdT l).1).drop (hdT l).2.1) d).2)
    else (⟨((rdT l).1 : Nat), true, ((rdT l).2.2.1 : Nat), [], Fo.of (rowP f ((l.take (hdT l).1).drop (hdT l).2.1) d).1⟩, 0)
/-- The elements one behind the other, and the error. -/
def rowP : Nat → List Nat → Nat → List El × Nat
  | 0, _, _ => ([], 0)
  | f + 1, l, d =>
    if l = [] then ([], 0) else if 24 ≤ d + 1 then ([], 15) else if (hdT l).2.2 ≠ 0 ∨ l.length < (hdT l).1 then ([], 11)
    else if (inP f (l.take (hdT l).1) (d + 1)).2 ≠ 0 then ([], (inP f (l.take (hdT l).1) (d + 1)).2)
    else if (rowP f (l.drop (hdT l).1) d).2 ≠ 0 then ([], (rowP f (l.drop (hdT l).1) d).2)
    else ((inP f (l.take (hdT l).1) (d + 1)).1 :: (rowP f (l.drop (hdT l).1) d).1, 0)
end
/-- A row's beginning and what follows. -/
def more2 (ks : List El) (q : List El × Nat) : List El × Nat := if q.2 ≠ 0 then ([], q.2) else (ks ++ q.1, 0)
theorem rowP_nil (f d : Nat) : rowP f [] d = ([], 0) := by
  cases f with
  | zero => rw [rowP]
  | succ f => rw [rowP, if_pos rfl]
theorem more2_nil (q : List El × Nat) (h : q.2 ≠ 0 → q.1 = []) : more2 [] q = q := by
  unfold more2
  obtain ⟨a, b⟩ := q
  split
  · rename_i h1
    have := h h1
    simp only [] at this
    rw [this]
  · rename_i h1
    have : b = 0 := by simpa using h1
    subst this
    rfl
theorem rowP_err : ∀ (f : Nat) (l : List Nat) (d : Nat), (rowP f l d).2 ≠ 0 → (rowP f l d).1 = []
  | 0, l, d, h => by rw [rowP]
  | f + 1, l, d, h => by
    rw [rowP] at h ⊢
    repeat' split
    all_goals first | rfl | skip
    rename_i h1 h2 h3 h4 h5
    rw [if_neg h1, if_neg h2, if_neg h3, if_neg h4, if_neg h5] at h
    exact absurd rfl h
theorem rn_take : ∀ (f i a k : Nat) (l : List Nat), (rn f i a l).2.2 = 0 → (rn f i a l).2.1 ≤ i + k → rn f i a (l.take k) = rn f i a l
  | 0, _, _, _, _, _, _ => rfl
  | f + 1, i, a, k, [], _, _ => by rw [List.take_nil]
  | f + 1, i, a, 0, c :: r, h, h2 => by
    exfalso
    rw [rn_cons] at h h2
    split at h
    · simp at h
    · rename_i h3
      rw [if_neg h3] at h2
      split at h
      · rename_i h4
        rw [if_pos h4] at h2
        simp only [] at h2
        omega
      · rename_i h4
        rw [if_neg h4] at h2
        have : ∀ (f i a : Nat) (l : List Nat), (rn f i a l).2.2 = 0 → i < (rn f i a l).2.1 := by
          intro f
          induction f with
          | zero => intro i a l h; simp [rn] at h
          | succ f ih =>
            intro i a l h
            cases l with
            | nil => simp [rn] at h
            | cons c r =>
              rw [rn_cons] at h ⊢
              split at h
              · simp at h
              · rename_i h1
                rw [if_neg h1]
                split at h
                · rename_i h2
                  rw [if_pos h2]
                  simp
                · rename_i h2
                  rw [if_neg h2]
                  have := ih _ _ _ h
                  omega
        have := this _ _ _ _ h
        omega
  | f + 1, i, a, k + 1, c :: r, h, h2 => by
    rw [List.take_succ_cons, rn_cons, rn_cons]
    rw [rn_cons] at h h2
    split
    · rfl
    · rename_i h3
      rw [if_neg h3] at h h2
      split
      · rfl
      · rename_i h4
        rw [if_neg h4] at h h2
        exact rn_take f _ _ k r h (by omega)
theorem rdT_take (l : List Nat) (k : Nat) (h : (rdT l).2.2.2.2 = 0) (h2 : (rdT l).2.2.2.1 ≤ k) : rdT (l.take k) = rdT l := by
  rcases l with _ | ⟨x, r⟩
  · rw [List.take_nil]
  · have H : ∀ r, rdT (x :: r) = if x % 32 = 31 then
      if (rn 4 0 0 r).2.2 = 0 then (x / 64, x / 32 % 2 == 1, (rn 4 0 0 r).1, 1 + (rn 4 0 0 r).2.1, 0) else (0, false, 0, 0, (rn 4 0 0 r).2.2)
      else (x / 64, x / 32 % 2 == 1, x % 32, 1, 0) := fun r => rfl
    rw [H] at h h2
    have hk : 0 < k := by
      split at h
      · rename_i h3
        rw [if_pos h3] at h2
        split at h
        · rename_i h4
          rw [if_pos h4] at h2
          simp only [] at h2
          omega
        · rename_i h4
          exact absurd h h4
      · rename_i h3
        rw [if_neg h3] at h2
        exact h2
    obtain ⟨k', rfl⟩ : ∃ k', k = k' + 1 := ⟨k - 1, by omega⟩
    rw [List.take_succ_cons, H, H]
    split
    · rename_i h3
      rw [if_pos h3] at h h2
      split at h
      · rename_i h4
        rw [if_pos h4] at h2
        rw [rn_take 4 0 0 k' r h4 (by simp only [] at h2; omega)]
      · rename_i h4
        exact absurd h h4
    · rfl
theorem rdL_take (l : List Nat) (k : Nat) (h : (rdL l).2.2 = 0) (h2 : (rdL l).2.1 ≤ k) : rdL (l.take k) = rdL l := by
  rcases l with _ | ⟨x, r⟩
  · rw [List.take_nil]
  · have h0 := (rdL_ok _ h).2.1
    obtain ⟨k', rfl⟩ : ∃ k', k = k' + 1 := ⟨k - 1, by omega⟩
    rw [List.take_succ_cons, rdL_cons, rdL_cons]
    rw [rdL_cons] at h h2
    by_cases h3 : x < 128
    · rw [if_pos h3, if_pos h3]
    · rw [if_neg h3] at h h2
      rw [if_neg h3, if_neg h3]
      by_cases h4 : x = 128 ∨ x = 255
      · rw [if_pos h4, if_pos h4]
      · rw [if_neg h4] at h h2
        rw [if_neg h4, if_neg h4]
        by_cases h5 : 132 < x
        · rw [if_pos h5, if_pos h5]
        · rw [if_neg h5] at h h2
          rw [if_neg h5, if_neg h5]
          by_cases h6 : r.length < x - 128
          · rw [if_pos h6] at h
            simp at h
          · rw [if_neg h6] at h h2
            rw [if_neg h6]
            by_cases h7 : 2147483647 < be (r.take (x - 128))
            · rw [if_pos h7] at h
              simp at h
            · rw [if_neg h7] at h h2
              simp only [] at h2
              rw [List.length_take, if_neg (by omega), List.take_take, Nat.min_eq_left (by omega)]
theorem hdT_take (l : List Nat) (hb : ∀ x ∈ l, x < 256) (h : (hdT l).2.2 = 0) : hdT (l.take (hdT l).1) = hdT l := by
  obtain ⟨a1, a2, a3, a4, a5⟩ := hdT_ok l hb h
  have H : hdT l = if (rdL (l.drop (rdT l).2.2.2.1)).2.2 ≠ 0 then (0, 0, (rdL (l.drop (rdT l).2.2.2.1)).2.2)
      else if 16384 < (rdT l).2.2.2.1 + (rdL (l.drop (rdT l).2.2.2.1)).2.1 + (rdL (l.drop (rdT l).2.2.2.1)).1 then (0, 0, 3)
      else ((rdT l).2.2.2.1 + (rdL (l.drop (rdT l).2.2.2.1)).2.1 + (rdL (l.drop (rdT l).2.2.2.1)).1, (rdT l).2.2.2.1 + (rdL (l.drop (rdT l).2.2.2.1)).2.1, 0) := by
    unfold hdT
    rw [if_neg (by simpa using a1)]
  have hL : (rdL (l.drop (rdT l).2.2.2.1)).2.2 = 0 := by
    rw [H] at h
    split at h
    · rename_i h1
      exact absurd h h1
    · rename_i h1
      simpa using h1
  have hN : (hdT l).2.1 = (rdT l).2.2.2.1 + (rdL (l.drop (rdT l).2.2.2.1)).2.1 := by
    rw [H] at h ⊢
    rw [if_neg (by simpa using hL)] at h ⊢
    split at h
    · simp at h
    · rename_i h1
      rw [if_neg h1]
  have e1 : rdT (l.take (hdT l).1) = rdT l := rdT_take _ _ a1 (by omega)
  have e2 : rdL ((l.take (hdT l).1).drop (rdT l).2.2.2.1) = rdL (l.drop (rdT l).2.2.2.1) := by
    rw [List.drop_take]
    exact rdL_take _ _ hL (by omega)
  have G : ∀ m, m = l.take (hdT l).1 → hdT m = hdT l := by
    intro m hm
    unfold hdT
    rw [hm, e1, e2]
  exact G _ rfl
/-- The row as it lies ahead of a round's append. -/
theorem RowE.parts {T : TypeId} {w : World} {W0 base : Nat} {v : Value} {l : List El} (h : RowE T w W0 base v l) :
    ∃ cs : List Value, w.ownsRow base T 5 v l.length cs ∧ cs.length = l.length * 5 ∧ (∀ b, v.ownBlock = some b → base ≤ b ∧ b < w.heap.size) ∧
      ∀ (i : Nat) (hi : i < l.length), ∃ Ab cb Ak ck, (∀ j, j < 5 → cs[i * 5 + j]? = (el5 l[i] Ab cb Ak ck)[j]?) ∧ ElIn w (RowI w W0 base v) l[i] Ab cb Ak ck := by
  obtain ⟨cs, h1, h2⟩ := h
  refine ⟨cs, h1, h1.1, fun b hb => ?_, h2⟩
  obtain ⟨_, h0 | ⟨g, cap, cur, hv, hbs, hg, _⟩⟩ := h1
  · rw [h0.1] at hb
    cases hb
  · rw [hv] at hb
    injection hb with hb
    have hb' : g = b := hb
    subst hb'
    exact ⟨hbs, (Array.getElem?_eq_some_iff.1 hg).1⟩
theorem SlI.nil0 (w : World) (I : Nat → Prop) : SlI w I none 0 .nil := ⟨Nat.le_refl _, by omega, fun _ => rfl, fun _ e => by cases e⟩
/-- What in answers. -/
def InPost (q : El × Nat) (K : Nat) (w : World) (en : Ending) (w' : World) : Prop :=
  ∃ (Ab : Option Addr) (cb : Nat) (Ak : Option Addr) (ck : Nat), en = .returned (.tuple #[elV q.1 Ab cb Ak ck, .int .i64 (q.2 : Int)]) ∧
    ElIn w' (fun b => b < K ∨ (w.heap.size ≤ b ∧ b < w'.heap.size)) q.1 Ab cb Ak ck ∧ Below w.heap.size w w'
def lenV : Value → Nat
  | .slice _ n _ => n
  | _ => 0
def madeP (c n : Nat) (R : List El × Nat) : El × Nat := if R.2 ≠ 0 then (el0, R.2) else (⟨(c : Int), true, (n : Int), [], Fo.of R.1⟩, 0)
theorem in_err0 {K c n : Nat} {w wr : World} {R : List El × Nat} (h : Below w.heap.size w wr) (e : Nat) (he : R = ([], e)) (h0 : e ≠ 0) :
    InPost (madeP c n R) K w (.returned (.tuple #[.agg #[.int .i64 0, .bool false, .int .i64 0, .slice none 0 0, .slice none 0 0], .int .i64 (e : Int)])) (set5 wr w.heap.size (.int .i64 0) (.bool false) (.int .i64 0) (.slice none 0 0) (.slice none 0 0)) := by
  subst he
  unfold madeP
  rw [if_pos h0]
  exact ⟨none, 0, none, 0, rfl, ⟨⟨Nat.le_refl _, fun _ => rfl, fun _ e => by cases e⟩, SlI.nil0 _ _⟩, set5_below h (Nat.le_refl _) _ _ _ _ _⟩
theorem more2_cons (ks : List El) (kid : El) (q : List El × Nat) : more2 ks (if q.2 ≠ 0 then ([], q.2) else (kid :: q.1, 0)) = more2 (ks ++ [kid]) q := by
  unfold more2
  by_cases h : q.2 ≠ 0
  · rw [if_pos h, if_pos h, if_pos h]
  · rw [if_neg h, if_neg h, if_neg (by simp), List.append_assoc]
    rfl
/-- What Parse says: the element, how many bytes, the error. -/
def parP (l : List Nat) : El × Nat × Nat :=
  if (hdT l).2.2 ≠ 0 then (el0, 0, (hdT l).2.2) else if l.length < (hdT l).1 then (el0, 0, 10)
  else if (inP (2 * (hdT l).1) (l.take (hdT l).1) 0).2 ≠ 0 then (el0, 0, (inP (2 * (hdT l).1) (l.take (hdT l).1) 0).2)
  else ((inP (2 * (hdT l).1) (l.take (hdT l).1) 0).1, (hdT l).1, 0)
/-- What Parse answers. -/
def ParPost (q : El × Nat × Nat) (K : Nat) (w : World) (en : Ending) (w' : World) : Prop :=
  ∃ (Ab : Option Addr) (cb : Nat) (Ak : Option Addr) (ck : Nat), en = .returned (.tuple #[elV q.1 Ab cb Ak ck, .int .i64 (q.2.1 : Int), .int .i64 (q.2.2 : Int)]) ∧
    ElIn w' (fun b => b < K ∨ (w.heap.size ≤ b ∧ b < w'.heap.size)) q.1 Ab cb Ak ck ∧ Below w.heap.size w w'
theorem el0_in (w : World) (I : Nat → Prop) : ElIn w I el0 none 0 none 0 := ⟨⟨Nat.le_refl _, fun _ => rfl, fun _ e => by cases e⟩, SlI.nil0 _ _⟩
theorem hdT_back (e : El) (hr : RightT e.c e.n) (hL : e.enc.length ≤ 16384) (behind : List Nat) : hdT (e.enc ++ behind) = (e.enc.length, e.enc.length - e.inner.length, 0) ∧ rdT (e.enc ++ behind) = (e.c.toNat, e.m, e.n.toNat, (tagB e.c e.m e.n).length, 0) := by
  have h1 : rdT (e.enc ++ behind) = (e.c.toNat, e.m, e.n.toNat, (tagB e.c e.m e.n).length, 0) := by
    unfold El.enc
    rw [List.append_assoc, List.append_assoc]
    exact rdT_back e.c e.n e.m hr _
  have hLe : e.enc.length = (tagB e.c e.m e.n).length + (lenB (e.inner.length : Int)).length + e.inner.length := by
    unfold El.enc
    rw [List.length_append, List.length_append]
  have h2 : rdL ((e.enc ++ behind).drop (tagB e.c e.m e.n).length) = (e.inner.length, (lenB (e.inner.length : Int)).length, 0) := by
    unfold El.enc
    rw [List.append_assoc, List.append_assoc, List.drop_left]
    have := rdL_back (e.inner.length : Int) (by omega) (by omega) (e.inner ++ behind)
    simpa using this
  refine ⟨?_, h1⟩
  unfold hdT
  rw [h1]
  simp only []
  rw [h2, if_neg (by simp), if_neg (by simp), if_neg (by simp only []; omega)]
  have e2 : (tagB e.c e.m e.n).length + (lenB (e.inner.length : Int)).length = e.enc.length - e.inner.length := by omega
  simp only []
  rw [← hLe, e2]
theorem flat_mem (g : El → List Nat) : ∀ (l : List El), ∀ k ∈ l, (g k).length ≤ (l.flatMap g).length := by
  intro l
  induction l with
  | nil => intro k hk; cases hk
  | cons a l ih =>
    intro k hk
    rw [List.flatMap_cons, List.length_append]
    rcases List.mem_cons.1 hk with rfl | hk
    · omega
    · have := ih k hk
      omega
theorem enc_ge (e : El) : 2 ≤ e.enc.length := by
  have h1 := tagB_pos e.c e.n e.m
  have h2 := lenB_pos (e.inner.length : Int) (by omega)
  unfold El.enc
  rw [List.length_append, List.length_append]
  omega
theorem rowP_back (d : Nat) : ∀ (ks : List El), (∀ k ∈ ks, RightT k.c k.n ∧ k.enc.length ≤ 16384 ∧ d + 1 < 24 ∧ ∀ f, 2 * k.enc.length ≤ f → inP f k.enc (d + 1) = (k, 0)) →
    ∀ f, 2 * (ks.flatMap El.enc).length + 1 ≤ f → rowP f (ks.flatMap El.enc) d = (ks, 0) := by
  intro ks
  induction ks with
  | nil => intro _ f _; exact rowP_nil f d
  | cons a ks ih =>
    intro h f hf
    obtain ⟨h1, h2, h3, h4⟩ := h a (List.mem_cons_self ..)
    have h5 := ih fun k hk => h k (List.mem_cons_of_mem _ hk)
    have h6 := enc_ge a
    rw [List.flatMap_cons] at hf ⊢
    rw [List.length_append] at hf
    obtain ⟨f, rfl⟩ : ∃ f', f = f' + 1 := ⟨f - 1, by omega⟩
    have h7 := (hdT_back a h1 h2 (ks.flatMap El.enc)).1
    have hne : a.enc ++ ks.flatMap El.enc ≠ [] := by
      intro e
      have := congrArg List.length e
      rw [List.length_append, List.length_nil] at this
      omega
    rw [rowP, if_neg hne, if_neg (by omega), h7]
    simp only []
    rw [if_neg (by rw [List.length_append]; omega), List.take_left, List.drop_left, h4 f (by omega), h5 f (by omega)]
    rfl
theorem inP_back (e : El) : e.right = true → ∀ f d, 2 * e.enc.length ≤ f → d + e.deep ≤ 24 → e.enc.length ≤ 16384 → inP f e.enc d = (e, 0) := by
  induction e using El.ind with
  | h e ih =>
  intro hr f d hf hd hL
  rw [El.right_kids, Bool.and_eq_true] at hr
  obtain ⟨ho, hk⟩ := hr
  obtain ⟨h1, h2, h3⟩ := (one_right e).1 ho
  have hc : ((e.c.toNat : Nat) : Int) = e.c := Int.toNat_of_nonneg h1.1
  have hn : ((e.n.toNat : Nat) : Int) = e.n := Int.toNat_of_nonneg h1.2.2.1
  obtain ⟨g1, g2⟩ := hdT_back e h1 hL []
  rw [List.append_nil] at g1 g2
  have hge := enc_ge e
  obtain ⟨f, rfl⟩ : ∃ f', f = f' + 1 := ⟨f - 1, by omega⟩
  have hin : (e.enc.take e.enc.length).drop (e.enc.length - e.inner.length) = e.inner := by
    rw [List.take_length]
    unfold El.enc
    rw [List.length_append, Nat.add_sub_cancel, List.drop_left]
  rw [inP, g1, g2]
  simp only []
  rw [hin]
  cases hm : e.m
  · rw [if_pos rfl]
    have hk0 := h2 hm
    have hkn : e.k = .nil := by
      have : e.kids = [] := List.eq_nil_of_length_eq_zero hk0
      rw [← Fo.of_list e.k]
      unfold El.kids at this
      rw [this]
      rfl
    have hib : e.inner = e.b := by unfold El.inner; rw [hm]; rfl
    rw [hib, hc, hn]
    obtain ⟨c, m, n, b, k⟩ := e
    simp only [] at hm hkn ⊢
    rw [hm, hkn]
  · rw [if_neg (by simp)]
    have hib : e.inner = e.kids.flatMap El.enc := by unfold El.inner El.kids; rw [hm, ← Fo.enc_list]; rfl
    have hlen : e.inner.length + 2 ≤ e.enc.length := by
      have a1 := tagB_pos e.c e.n e.m
      have a2 := lenB_pos (e.inner.length : Int) (by omega)
      unfold El.enc
      rw [List.length_append, List.length_append]
      omega
    have hrow := rowP_back d e.kids (fun k hkk => by
      have b1 := El.deep_mem e k hkk
      have b2 := El.deep_pos k
      have b3 : k.right = true := List.all_eq_true.1 hk k hkk
      have b4 : RightT k.c k.n := by
        have := b3
        rw [El.right_kids, Bool.and_eq_true] at this
        exact ((one_right k).1 this.1).1
      have b5 : k.enc.length ≤ e.inner.length := by
        rw [hib]
        exact flat_mem El.enc e.kids k hkk
      exact ⟨b4, by omega, by omega, fun f' hf' => ih k hkk b3 f' (d + 1) hf' (by omega) (by omega)⟩) f (by rw [← hib]; omega)
    rw [← hib] at hrow
    rw [hrow, if_neg (by simp), hc, hn]
    have hb0 : e.b = [] := List.eq_nil_of_length_eq_zero (h3 hm)
    obtain ⟨c, m, n, b, k⟩ := e
    simp only [] at hm hb0 ⊢
    rw [hm, hb0]
    unfold El.kids
    rw [Fo.of_list]
/-- What is put is parsed as it was, whatever stands behind. -/
theorem parP_back (e : El) (hr : e.right = true) (hd : e.deep ≤ 24) (hL : e.enc.length ≤ 16384) (behind : List Nat) : parP (e.enc ++ behind) = (e, e.enc.length, 0) := by
  have h1 : RightT e.c e.n := by
    rw [El.right_kids, Bool.and_eq_true] at hr
    exact ((one_right e).1 hr.1).1
  obtain ⟨g1, g2⟩ := hdT_back e h1 hL behind
  unfold parP
  rw [g1]
  simp only []
  rw [if_neg (by simp), if_neg (by rw [List.length_append]; omega), List.take_left, inP_back e hr _ 0 (Nat.le_refl _) (by omega) hL, if_neg (by simp)]
theorem El.right_at (e : El) (h : e.right = true) : RightT e.c e.n := by
  rw [El.right_kids, Bool.and_eq_true] at h
  exact ((one_right e).1 h.1).1
theorem El.right_kid (e k : El) (h : e.right = true) (hk : k ∈ e.kids) : k.right = true := by
  rw [El.right_kids, Bool.and_eq_true] at h
  exact List.all_eq_true.1 h.2 k hk
theorem rowP_deep (d : Nat) : ∀ (ks : List El), (∀ k ∈ ks, k.right = true ∧ k.enc.length ≤ 16384 ∧ (24 < d + 1 + k.deep → d + 1 ≤ 23 → ∀ f, 2 * k.enc.length ≤ f → inP f k.enc (d + 1) = (el0, 15))) → (∃ k ∈ ks, 24 < d + 1 + k.deep) →
    ∀ f, 2 * (ks.flatMap El.enc).length + 1 ≤ f → rowP f (ks.flatMap El.enc) d = ([], 15) := by
  intro ks
  induction ks with
  | nil => intro _ h; obtain ⟨k, hk, _⟩ := h; cases hk
  | cons a ks ih =>
    intro h hx f hf
    obtain ⟨h1, h2, h4⟩ := h a (List.mem_cons_self ..)
    have h6 := enc_ge a
    rw [List.flatMap_cons] at hf ⊢
    rw [List.length_append] at hf
    obtain ⟨f, rfl⟩ : ∃ f', f = f' + 1 := ⟨f - 1, by omega⟩
    have hne : a.enc ++ ks.flatMap El.enc ≠ [] := by
      intro e
      have := congrArg List.length e
      rw [List.length_append, List.length_nil] at this
      omega
    rw [rowP, if_neg hne]
    by_cases hd : 24 ≤ d + 1
    · rw [if_pos hd]
    · rw [if_neg hd, (hdT_back a (a.right_at h1) h2 (ks.flatMap El.enc)).1]
      simp only []
      rw [if_neg (by rw [List.length_append]; omega), List.take_left, List.drop_left]
      by_cases hbad : 24 < d + 1 + a.deep
      · rw [h4 hbad (by omega) f (by omega)]
        rfl
      · rw [inP_back a h1 f (d + 1) (by omega) (by omega) h2]
        have h5 := ih (fun k hk => h k (List.mem_cons_of_mem _ hk)) (by
          obtain ⟨k, hk, hk2⟩ := hx
          rcases List.mem_cons.1 hk with rfl | hk
          · exact absurd hk2 hbad
          · exact ⟨k, hk, hk2⟩) f (by omega)
        rw [h5]
        rfl
theorem maxL_at (l : List El) (m : Nat) (h : m < maxL (l.map El.deep)) : ∃ k ∈ l, m < k.deep := by
  induction l with
  | nil => simp [maxL] at h
  | cons a l ih =>
    rw [List.map_cons, maxL, List.foldl_cons, foldl_max] at h
    by_cases h1 : m < a.deep
    · exact ⟨a, List.mem_cons_self .., h1⟩
    · obtain ⟨k, hk, hk2⟩ := ih (by omega)
      exact ⟨k, List.mem_cons_of_mem _ hk, hk2⟩
theorem inP_deep (e : El) : e.right = true → ∀ f d, 2 * e.enc.length ≤ f → d ≤ 23 → 24 < d + e.deep → e.enc.length ≤ 16384 → inP f e.enc d = (el0, 15) := by
  induction e using El.ind with
  | h e ih =>
  intro hr f d hf hd hdd hL
  have hro := hr
  rw [El.right_kids, Bool.and_eq_true] at hr
  obtain ⟨ho, hk⟩ := hr
  obtain ⟨h1, h2, h3⟩ := (one_right e).1 ho
  obtain ⟨g1, g2⟩ := hdT_back e h1 hL []
  rw [List.append_nil] at g1 g2
  have hge := enc_ge e
  obtain ⟨f, rfl⟩ : ∃ f', f = f' + 1 := ⟨f - 1, by omega⟩
  have hin : (e.enc.take e.enc.length).drop (e.enc.length - e.inner.length) = e.inner := by
    rw [List.take_length]
    unfold El.enc
    rw [List.length_append, Nat.add_sub_cancel, List.drop_left]
  have hdk := El.deep_kids e
  have hm : e.m = true := by
    cases hm : e.m
    · have h0 : e.kids = [] := List.eq_nil_of_length_eq_zero (h2 hm)
      rw [h0] at hdk
      simp [maxL] at hdk
      omega
    · rfl
  rw [inP, g1, g2]
  simp only []
  rw [hin, hm, if_neg (by simp)]
  have hib : e.inner = e.kids.flatMap El.enc := by unfold El.inner El.kids; rw [hm, ← Fo.enc_list]; rfl
  have hlen : e.inner.length + 2 ≤ e.enc.length := by
    have a1 := tagB_pos e.c e.n e.m
    have a2 := lenB_pos (e.inner.length : Int) (by omega)
    unfold El.enc
    rw [List.length_append, List.length_append]
    omega
  have hrow := rowP_deep d e.kids (fun k hkk => by
    have b5 : k.enc.length ≤ e.inner.length := by
      rw [hib]
      exact flat_mem El.enc e.kids k hkk
    exact ⟨El.right_kid e k hro hkk, by omega, fun x1 x2 f' hf' => ih k hkk (El.right_kid e k hro hkk) f' (d + 1) hf' x2 x1 (by omega)⟩)
    (by
      obtain ⟨k, x1, x2⟩ := maxL_at e.kids (23 - d) (by omega)
      exact ⟨k, x1, by omega⟩) f (by rw [← hib]; omega)
  rw [← hib] at hrow
  rw [hrow]
  rfl
theorem parP_deep (e : El) (hr : e.right = true) (hd : 24 < e.deep) (hL : e.enc.length ≤ 16384) (behind : List Nat) : parP (e.enc ++ behind) = (el0, 0, 15) := by
  obtain ⟨g1, g2⟩ := hdT_back e (e.right_at hr) hL behind
  unfold parP
  rw [g1]
  simp only []
  rw [if_neg (by simp), if_neg (by rw [List.length_append]; omega), List.take_left, inP_deep e hr _ 0 (Nat.le_refl _) (by omega) (by omega) hL]
  rfl
theorem rn_lt2 : ∀ (f i a : Nat) (l : List Nat), (∀ x ∈ l, x < 256) → (rn f i a l).2.2 = 0 → i < (rn f i a l).2.1 ∧ (rn f i a l).1 < (a + 1) * 128 ^ ((rn f i a l).2.1 - i)
  | 0, _, _, _, _, h => by simp [rn] at h
  | f + 1, i, a, [], _, h => by simp [rn] at h
  | f + 1, i, a, c :: r, hb, h => by
    rw [rn_cons] at h ⊢
    split at h
    · simp at h
    · rename_i h1
      rw [if_neg h1]
      split at h
      · rename_i h2
        rw [if_pos h2]
        simp only [Nat.add_sub_cancel_left]
        omega
      · rename_i h2
        rw [if_neg h2]
        obtain ⟨h5, h6⟩ := rn_lt2 f (i + 1) (a * 128 + c % 128) r (fun x hx => hb x (List.mem_of_mem_tail hx)) h
        refine ⟨by omega, Nat.lt_of_lt_of_le h6 ?_⟩
        have h7 : (rn f (i + 1) (a * 128 + c % 128) r).2.1 - i = ((rn f (i + 1) (a * 128 + c % 128) r).2.1 - (i + 1)) + 1 := by omega
        rw [h7, Nat.pow_succ, Nat.mul_comm (128 ^ _), ← Nat.mul_assoc]
        exact Nat.mul_le_mul_right _ (by omega)
theorem count_le (w n k : Nat) (hw : 0 < w) (h : n < (2 ^ w) ^ k) (h64 : n < 2 ^ 64) : count w n ≤ k := by
  rcases Nat.eq_zero_or_pos n with h0 | h0
  · subst h0
    have : count w 0 = 0 := by
      unfold count
      rw [show Lib.bitLen 0 = 0 from rfl]
      exact Nat.div_eq_of_lt (by omega)
    omega
  · rcases Nat.lt_or_ge k (count w n) with h1 | h1
    · have h2 := count_ge w n hw (by omega) h64
      have h3 := Nat.pow_le_pow_right (n := 2 ^ w) (Nat.pow_pos (by decide)) (show k ≤ count w n - 1 by omega)
      omega
    · exact h1
theorem rdT_least (l : List Nat) (hb : ∀ x ∈ l, x < 256) (h : (rdT l).2.2.2.2 = 0) : (tagB ((rdT l).1 : Nat) (rdT l).2.1 ((rdT l).2.2.1 : Nat)).length ≤ (rdT l).2.2.2.1 := by
  have hok := rdT_ok l hb h
  rw [tagB_len]
  split
  · exact hok.2.2.1
  · rename_i hn
    rcases l with _ | ⟨x, r⟩
    · simp [rdT] at h
    · have H : rdT (x :: r) = if x % 32 = 31 then
        if (rn 4 0 0 r).2.2 = 0 then (x / 64, x / 32 % 2 == 1, (rn 4 0 0 r).1, 1 + (rn 4 0 0 r).2.1, 0) else (0, false, 0, 0, (rn 4 0 0 r).2.2)
        else (x / 64, x / 32 % 2 == 1, x % 32, 1, 0) := rfl
      rw [H] at h hn hok ⊢
      split at h
      · rename_i h1
        rw [if_pos h1] at hn hok ⊢
        split at h
        · rename_i h2
          rw [if_pos h2] at hn hok ⊢
          obtain ⟨h3, h4⟩ := rn_lt2 4 0 0 r (fun x hx => hb x (List.mem_cons_of_mem _ hx)) h2
          simp only [Nat.zero_add, Nat.one_mul, Nat.sub_zero] at h4
          simp only [] at hok ⊢
          have := count_le 7 (rn 4 0 0 r).1 (rn 4 0 0 r).2.1 (by decide) h4 (by omega)
          rw [Int.toNat_natCast]
          omega
        · rename_i h2
          exact absurd h h2
      · rename_i h1
        rw [if_neg h1] at hn
        simp only [] at hn
        omega
theorem rdL_least (l : List Nat) (hb : ∀ x ∈ l, x < 256) (h : (rdL l).2.2 = 0) : (lenB ((rdL l).1 : Nat)).length ≤ (rdL l).2.1 := by
  have hok := rdL_ok l h
  rw [lenB_len, if_neg (by omega)]
  split
  · exact hok.2.1
  · rename_i hn
    rcases l with _ | ⟨x, r⟩
    · simp [rdL] at h
    · have hr : ∀ x ∈ r, x < 256 := fun x hx => hb x (List.mem_cons_of_mem _ hx)
      rw [rdL_cons] at h hn hok ⊢
      by_cases h1 : x < 128
      · rw [if_pos h1] at hn
        simp only [] at hn
        omega
      · rw [if_neg h1] at h hn hok ⊢
        by_cases h2 : x = 128 ∨ x = 255
        · rw [if_pos h2] at h
          simp at h
        · rw [if_neg h2] at h hn hok ⊢
          by_cases h3 : 132 < x
          · rw [if_pos h3] at h
            simp at h
          · rw [if_neg h3] at h hn hok ⊢
            by_cases h4 : r.length < x - 128
            · rw [if_pos h4] at h
              simp at h
            · rw [if_neg h4] at h hn hok ⊢
              by_cases h5 : 2147483647 < be (r.take (x - 128))
              · rw [if_pos h5] at h
                simp at h
              · rw [if_neg h5] at hok ⊢
                simp only [] at hok ⊢
                have h6 := be_lt (r.take (x - 128)) fun y hy => hr y (List.mem_of_mem_take hy)
                rw [List.length_take, Nat.min_eq_left (by omega)] at h6
                have := count_le 8 (be (r.take (x - 128))) (x - 128) (by decide) h6 (by omega)
                rw [Int.toNat_natCast]
                omega
theorem lenB_mono (a b : Nat) (h : a ≤ b) (hb : b ≤ 2147483647) : (lenB (a : Int)).length ≤ (lenB (b : Int)).length := by
  have la := lenB_len (a : Int)
  have lb := lenB_len (b : Int)
  rw [if_neg (by omega), Int.toNat_natCast] at la lb
  rw [la, lb]
  by_cases h1 : (a : Int) < 128
  · rw [if_pos h1]
    split <;> omega
  · rw [if_neg h1, if_neg (by omega)]
    have h2 := count_lt 8 b (by decide) (by omega) (by omega)
    have h3 := count_le 8 a (count 8 b) (by decide) (Nat.lt_of_le_of_lt h h2) (by omega)
    omega
theorem maxL_bound (l : List Nat) (m : Nat) (h : ∀ x ∈ l, x ≤ m) : maxL l ≤ m := by
  induction l with
  | nil => simp [maxL]
  | cons a l ih =>
    rw [maxL, List.foldl_cons, foldl_max]
    have h1 := h a (List.mem_cons_self ..)
    have h2 := ih fun x hx => h x (List.mem_cons_of_mem _ hx)
    omega
theorem hdT_parts (l : List Nat) (hb : ∀ x ∈ l, x < 256) (h : (hdT l).2.2 = 0) : ∃ u k v, u = (rdT l).2.2.2.1 ∧ (hdT l).1 = u + k + v ∧ (hdT l).2.1 = u + k ∧ (lenB (v : Int)).length ≤ k ∧ (tagB ((rdT l).1 : Nat) (rdT l).2.1 ((rdT l).2.2.1 : Nat)).length ≤ u ∧ v ≤ 2147483647 := by
  obtain ⟨a1, a2, a3, a4, a5⟩ := hdT_ok l hb h
  have H : hdT l = if (rdL (l.drop (rdT l).2.2.2.1)).2.2 ≠ 0 then (0, 0, (rdL (l.drop (rdT l).2.2.2.1)).2.2)
      else if 16384 < (rdT l).2.2.2.1 + (rdL (l.drop (rdT l).2.2.2.1)).2.1 + (rdL (l.drop (rdT l).2.2.2.1)).1 then (0, 0, 3)
      else ((rdT l).2.2.2.1 + (rdL (l.drop (rdT l).2.2.2.1)).2.1 + (rdL (l.drop (rdT l).2.2.2.1)).1, (rdT l).2.2.2.1 + (rdL (l.drop (rdT l).2.2.2.1)).2.1, 0) := by
    unfold hdT
    rw [if_neg (by simpa using a1)]
  have hL : (rdL (l.drop (rdT l).2.2.2.1)).2.2 = 0 := by
    rw [H] at h
    split at h
    · rename_i h1
      exact absurd h h1
    · rename_i h1
      simpa using h1
  have hN : hdT l = ((rdT l).2.2.2.1 + (rdL (l.drop (rdT l).2.2.2.1)).2.1 + (rdL (l.drop (rdT l).2.2.2.1)).1, (rdT l).2.2.2.1 + (rdL (l.drop (rdT l).2.2.2.1)).2.1, 0) := by
    rw [H] at h ⊢
    rw [if_neg (by simpa using hL)] at h ⊢
    split at h
    · simp at h
    · rename_i h1
      rw [if_neg h1]
  refine ⟨_, _, (rdL (l.drop (rdT l).2.2.2.1)).1, rfl, by rw [hN], by rw [hN], rdL_least _ (fun x hx => hb x (List.mem_of_mem_drop hx)) hL, rdT_least l hb a1, (rdL_ok _ hL).1⟩
theorem El.enc_len (e : El) : e.enc.length = (tagB e.c e.m e.n).length + (lenB (e.inner.length : Int)).length + e.inner.length := by
  unfold El.enc
  rw [List.length_append, List.length_append]
theorem parse_ok : ∀ (f : Nat), (∀ (l : List Nat) (d : Nat), (∀ x ∈ l, x < 256) → (hdT l).2.2 = 0 → (hdT l).1 ≤ l.length → d ≤ 23 → 2 * l.length ≤ f → (inP f l d).2 = 0 →
      (inP f l d).1.right = true ∧ d + (inP f l d).1.deep ≤ 24 ∧ (inP f l d).1.enc.length ≤ (hdT l).1) ∧
    (∀ (l : List Nat) (d : Nat), (∀ x ∈ l, x < 256) → d ≤ 23 → 2 * l.length + 1 ≤ f → (rowP f l d).2 = 0 →
      (∀ k ∈ (rowP f l d).1, k.right = true ∧ d + 1 + k.deep ≤ 24) ∧ ((rowP f l d).1.flatMap El.enc).length ≤ l.length) := by
  intro f
  induction f with
  | zero =>
    constructor
    · intro l d hb h1 h2 hd hf h
      have := hdT_ok l hb h1
      omega
    · intro l d _ _ hf _
      omega
  | succ f ih =>
    obtain ⟨ih1, ih2⟩ := ih
    constructor
    · intro l d hb h1 h2 hd hf h
      obtain ⟨a1, a2, a3, a4, a5⟩ := hdT_ok l hb h1
      obtain ⟨u, k, v, hu, e1, e2, e3, e4, e5⟩ := hdT_parts l hb h1
      obtain ⟨t1, t2, t3, t4, t5⟩ := rdT_ok l hb a1
      have hlen : ((l.take (hdT l).1).drop (hdT l).2.1).length = v := by rw [List.length_drop, List.length_take]; omega
      have hbi : ∀ x ∈ (l.take (hdT l).1).drop (hdT l).2.1, x < 256 := fun x hx => hb x (List.mem_of_mem_take (List.mem_of_mem_drop hx))
      have hrt : RightT ((rdT l).1 : Nat) ((rdT l).2.2.1 : Nat) := ⟨by omega, by omega, by omega, by omega⟩
      rw [inP] at h ⊢
      by_cases hm : (rdT l).2.1 = false
      · rw [if_pos hm]
        refine ⟨?_, ?_, ?_⟩
        · rw [El.right_kids]
          rw [Bool.and_eq_true]
          exact ⟨(one_right _).2 ⟨hrt, fun _ => rfl, (fun h => by cases h)⟩, rfl⟩
        · show d + 1 ≤ 24
          omega
        · rw [El.enc_len]
          unfold El.inner
          simp only [Bool.false_eq_true, if_false]
          rw [hlen, ← hm]
          omega
      · rw [if_neg hm] at h ⊢
        have hm' : (rdT l).2.1 = true := by simpa using hm
        by_cases hr : (rowP f ((l.take (hdT l).1).drop (hdT l).2.1) d).2 ≠ 0
        · rw [if_pos hr] at h
          exact absurd h hr
        · rw [if_neg hr]
          have hr' : (rowP f ((l.take (hdT l).1).drop (hdT l).2.1) d).2 = 0 := by omega
          obtain ⟨g1, g2⟩ := ih2 _ d hbi hd (by rw [hlen]; omega) hr'
          rw [hlen] at g2
          obtain ⟨ks, hks⟩ : ∃ ks, ks = (rowP f ((l.take (hdT l).1).drop (hdT l).2.1) d).1 := ⟨_, rfl⟩
          rw [← hks] at g1 g2 ⊢
          have hkid : (⟨((rdT l).1 : Nat), true, ((rdT l).2.2.1 : Nat), [], Fo.of ks⟩ : El).kids = ks := Fo.list_of ks
          refine ⟨?_, ?_, ?_⟩
          · rw [El.right_kids, Bool.and_eq_true, hkid]
            exact ⟨(one_right _).2 ⟨hrt, (fun h => by cases h), fun _ => rfl⟩, List.all_eq_true.2 fun k hk => (g1 k hk).1⟩
          · rw [El.deep_kids, hkid]
            have := maxL_bound (ks.map El.deep) (23 - d) fun x hx => by
              obtain ⟨k, hk, rfl⟩ := List.mem_map.1 hx
              have := (g1 k hk).2
              omega
            omega
          · rw [El.enc_len]
            unfold El.inner
            simp only [if_true]
            rw [Fo.enc_list, Fo.list_of]
            have := lenB_mono _ v g2 e5
            rw [← hm']
            omega
    · intro l d hb hd hf h
      rw [rowP] at h ⊢
      by_cases h1 : l = []
      · rw [if_pos h1]
        exact ⟨(fun k hk => by cases hk), by simp⟩
      · rw [if_neg h1] at h ⊢
        by_cases h2 : 24 ≤ d + 1
        · rw [if_pos h2] at h
          simp at h
        · rw [if_neg h2] at h ⊢
          by_cases h3 : (hdT l).2.2 ≠ 0 ∨ l.length < (hdT l).1
          · rw [if_pos h3] at h
            simp at h
          · rw [if_neg h3] at h ⊢
            have hz : (hdT l).2.2 = 0 := by omega
            obtain ⟨a1, a2, a3, a4, a5⟩ := hdT_ok l hb hz
            have hlt : (l.take (hdT l).1).length = (hdT l).1 := by rw [List.length_take]; omega
            have hht := hdT_take l hb hz
            by_cases h4 : (inP f (l.take (hdT l).1) (d + 1)).2 ≠ 0
            · rw [if_pos h4] at h
              exact absurd h h4
            · rw [if_neg h4] at h ⊢
              obtain ⟨g1, g2, g3⟩ := ih1 (l.take (hdT l).1) (d + 1) (fun x hx => hb x (List.mem_of_mem_take hx)) (by rw [hht]; exact hz) (by rw [hht, hlt]; exact Nat.le_refl _) (by omega) (by rw [hlt]; omega) (by omega)
              rw [hht] at g3
              by_cases h5 : (rowP f (l.drop (hdT l).1) d).2 ≠ 0
              · rw [if_pos h5] at h
                exact absurd h h5
              · rw [if_neg h5]
                obtain ⟨k1, k2⟩ := ih2 (l.drop (hdT l).1) d (fun x hx => hb x (List.mem_of_mem_drop hx)) hd (by rw [List.length_drop]; omega) (by omega)
                rw [List.length_drop] at k2
                refine ⟨fun k hk => ?_, ?_⟩
                · rcases List.mem_cons.1 hk with rfl | hk
                  · exact ⟨g1, g2⟩
                  · exact k1 k hk
                · simp only [List.flatMap_cons, List.length_append]
                  omega
/-- What is parsed of any bytes is right, is not too deep, and is put in at most as many bytes. -/
theorem parP_ok (l : List Nat) (hb : ∀ x ∈ l, x < 256) (h : (parP l).2.2 = 0) : (parP l).1.right = true ∧ (parP l).1.deep ≤ 24 ∧ (parP l).1.enc.length ≤ (parP l).2.1 ∧ (parP l).2.1 ≤ l.length ∧ (parP l).2.1 ≤ 16384 := by
  unfold parP at h ⊢
  by_cases h1 : (hdT l).2.2 ≠ 0
  · rw [if_pos h1] at h
    exact absurd h h1
  · rw [if_neg h1] at h ⊢
    have hz : (hdT l).2.2 = 0 := by omega
    obtain ⟨a1, a2, a3, a4, a5⟩ := hdT_ok l hb hz
    by_cases h2 : l.length < (hdT l).1
    · rw [if_pos h2] at h
      simp at h
    · rw [if_neg h2] at h ⊢
      have hlt : (l.take (hdT l).1).length = (hdT l).1 := by rw [List.length_take]; omega
      have hht := hdT_take l hb hz
      by_cases h3 : (inP (2 * (hdT l).1) (l.take (hdT l).1) 0).2 ≠ 0
      · rw [if_pos h3] at h
        exact absurd h h3
      · rw [if_neg h3]
        obtain ⟨g1, g2, g3⟩ := (parse_ok (2 * (hdT l).1)).1 (l.take (hdT l).1) 0 (fun x hx => hb x (List.mem_of_mem_take hx)) (by rw [hht]; exact hz) (by rw [hht, hlt]; exact Nat.le_refl _) (by omega) (by rw [hlt]; omega) (by omega)
        rw [hht] at g3
        exact ⟨g1, by simpa using g2, g3, by simp only []; omega, a4⟩
theorem rn_cutN (n : Nat) : ∀ k f i a j, j < k → k ≤ f → (i = 0 → n / 128 ^ k = 0 ∧ 1 ≤ n / 128 ^ (k - 1)) → rn f i a ((row more 128 n k).take j) = (0, 0, 10)
  | 0, _, _, _, _, h, _, _ => absurd h (by omega)
  | k + 1, 0, _, _, _, _, h, _ => absurd h (by omega)
  | k + 1, f + 1, i, a, 0, _, _, _ => rfl
  | 0 + 1, f + 1, i, a, j + 1, h, _, _ => absurd h (by omega)
  | (k + 1) + 1, f + 1, i, a, j + 1, hj, hf, hi => by
    have hd : n / 128 ^ (k + 1 + 1) = n / 128 ^ (k + 1) / 128 := (shift_step n 128 (k + 1)).symm
    have e : more (n / 128 ^ (k + 1) % 128) (k + 1 == 0) = n / 128 ^ (k + 1) % 128 + 128 := rfl
    rw [row, List.take_succ_cons, rn_cons, e, if_neg (by
        rintro ⟨h0, h1⟩
        have := hi h0
        rw [hd, Nat.add_sub_cancel] at this
        omega), if_neg (by omega)]
    exact rn_cutN n (k + 1) f (i + 1) (a * 128 + (n / 128 ^ (k + 1) % 128 + 128) % 128) j (by omega) (by omega) (by omega)
theorem rdT_cutN (c n : Int) (m : Bool) (hr : RightT c n) (j : Nat) (hj : j < (tagB c m n).length) : rdT ((tagB c m n).take j) = (0, false, 0, 0, 10) := by
  obtain ⟨h1, h2, h3, h4⟩ := hr
  rcases j with _ | j
  · rfl
  rw [tagB_len] at hj
  unfold tagB
  by_cases hn : n < 31
  · rw [if_pos hn] at hj
    omega
  · rw [if_neg hn] at hj
    obtain ⟨e1, _, _, _⟩ := headB_mod c m ⟨h1, h2⟩ 31 (by omega)
    have hp := count_pos 7 n.toNat (by decide) (by omega) (by omega)
    have hl := count7_le n.toNat (by omega) (by omega)
    have hz : n.toNat / 128 ^ count 7 n.toNat = 0 := (count_shift 7 n.toNat _ (by decide) (by omega) (by omega) (Nat.le_refl _)).2 rfl
    have hg : 1 ≤ n.toNat / 128 ^ (count 7 n.toNat - 1) := by
      have := count_ge 7 n.toNat (by decide) (by omega) (by omega)
      exact (Nat.le_div_iff_mul_le (Nat.pow_pos (by decide))).2 (by rw [Nat.one_mul]; exact this)
    have hrn := rn_cutN n.toNat (count 7 n.toNat) 4 0 0 j (by omega) hl (fun _ => ⟨hz, hg⟩)
    rw [if_neg hn, List.take_succ_cons, rdT, if_pos e1, hrn, if_neg (by decide)]
theorem rdL_cutN (n : Int) (h1 : 0 ≤ n) (h2 : n ≤ 2147483647) (j : Nat) (hj : j < (lenB n).length) : rdL ((lenB n).take j) = (0, 0, 10) := by
  have h0 : ¬ n < 0 := by omega
  rcases j with _ | j
  · rfl
  rw [lenB_len, if_neg h0] at hj
  unfold lenB
  rw [if_neg h0]
  by_cases hn : n < 128
  · rw [if_pos hn] at hj
    omega
  · rw [if_neg hn] at hj
    have hp := count_pos 8 n.toNat (by decide) (by omega) (by omega)
    have hl := count8_le n.toNat (by omega) (by omega)
    rw [if_neg hn, List.take_succ_cons, rdL_cons, if_neg (by omega), if_neg (by omega), if_neg (by omega), if_pos (by rw [List.length_take, row_len]; omega)]
/-- Any beginning has not ended. -/
theorem parP_cut (e : El) (hr : RightT e.c e.n) (hL : e.enc.length ≤ 16384) (at' : Nat) (ha : at' < e.enc.length) : parP (e.enc.take at') = (el0, 0, 10) := by
  have hLe : e.enc.length = (tagB e.c e.m e.n).length + (lenB (e.inner.length : Int)).length + e.inner.length := by
    unfold El.enc
    rw [List.length_append, List.length_append]
  have hE : e.enc = tagB e.c e.m e.n ++ (lenB (e.inner.length : Int) ++ e.inner) := by
    unfold El.enc
    rw [List.append_assoc]
  by_cases h1 : at' < (tagB e.c e.m e.n).length
  · have : e.enc.take at' = (tagB e.c e.m e.n).take at' := by
      rw [hE, List.take_append_of_le_length (by omega)]
    have hd : hdT (e.enc.take at') = (0, 0, 10) := by
      rw [this]
      unfold hdT
      rw [rdT_cutN _ _ _ hr _ h1]
      rfl
    unfold parP
    rw [hd]
    rfl
  · have ht : e.enc.take at' = tagB e.c e.m e.n ++ (lenB (e.inner.length : Int) ++ e.inner).take (at' - (tagB e.c e.m e.n).length) := by
      rw [hE, List.take_append, List.take_of_length_le (by omega)]
    have hT := rdT_back e.c e.n e.m hr ((lenB (e.inner.length : Int) ++ e.inner).take (at' - (tagB e.c e.m e.n).length))
    by_cases h2 : at' - (tagB e.c e.m e.n).length < (lenB (e.inner.length : Int)).length
    · have hd : hdT (e.enc.take at') = (0, 0, 10) := by
        rw [ht]
        unfold hdT
        rw [hT]
        simp only []
        rw [List.drop_left, List.take_append_of_le_length (by omega), rdL_cutN _ (by omega) (by omega) _ h2]
        rfl
      unfold parP
      rw [hd]
      rfl
    · have hd : hdT (e.enc.take at') = (e.enc.length, e.enc.length - e.inner.length, 0) := by
        rw [ht]
        unfold hdT
        rw [hT]
        simp only []
        have := rdL_back (e.inner.length : Int) (by omega) (by omega) (e.inner.take (at' - (tagB e.c e.m e.n).length - (lenB (e.inner.length : Int)).length))
        rw [List.drop_left, List.take_append, List.take_of_length_le (by omega), this, if_neg (by simp), if_neg (by simp), if_neg (by simp only []; omega)]
        have e2 : (tagB e.c e.m e.n).length + (lenB (e.inner.length : Int)).length = e.enc.length - e.inner.length := by omega
        simp only [Int.toNat_natCast]
        rw [← hLe, e2]
      unfold parP
      rw [hd]
      simp only []
      rw [if_neg (by simp), if_pos (by rw [List.length_take]; omega)]
theorem Own.len {w : World} {base : Nat} {v : Value} {l m : List Nat} (h : Own w base v l) (e : l = m) : Own w base v m := e ▸ h
theorem flat_take {α : Type} (f : α → List Nat) (l : List α) (k : Nat) (h : k < l.length) : (l.take (k + 1)).flatMap f = (l.take k).flatMap f ++ f l[k] := by
  rw [List.take_succ_eq_append_getElem h, List.flatMap_append]
  simp
theorem flat_le {α : Type} (f : α → List Nat) (l : List α) (k : Nat) : ((l.take k).flatMap f).length ≤ (l.flatMap f).length := by
  conv => rhs; rw [← List.take_append_drop k l]
  rw [List.flatMap_append, List.length_append]
  omega
theorem El.inner_made (e : El) (h : e.m = true) : e.inner = e.kids.flatMap El.enc := by
  rw [El.inner, if_pos h, Fo.enc_list]
  rfl
theorem El.enc_kid (e : El) (h : e.m = true) (i : Nat) (hi : i < e.kids.length) : e.kids[i].enc.length ≤ e.enc.length := by
  have h1 := flat_take El.enc e.kids i hi
  have h2 := flat_le El.enc e.kids (i + 1)
  rw [h1, List.length_append] at h2
  rw [El.enc.eq_1 e, List.length_append, El.inner_made e h]
  omega
theorem tagB_short (c n : Int) (m : Bool) (hr : RightT c n) : (tagB c m n).length ≤ 5 := by
  rw [tagB_len]
  split
  · omega
  · have := count7_le n.toNat (by have := hr.2.2.1; omega) (by have := hr.2.2.2; omega)
    omega
theorem lenB_short (n : Int) (h : n ≤ 2147483647) : (lenB n).length ≤ 5 := by
  rw [lenB_len]
  split
  · omega
  · split
    · omega
    · have := count8_le n.toNat (by omega) (by omega)
      omega
/-- Put. -/
def El.put (e : El) : List Nat × Nat := if e.right = false then ([], 2) else if 24 < e.deep then ([], 15) else if 16384 < e.enc.length then ([], 3) else (e.enc, 0)
theorem El.put_cases (e : El) : (e.right = false ∧ e.put = ([], 2)) ∨ (e.right = true ∧ 24 < e.deep ∧ e.put = ([], 15)) ∨ (e.right = true ∧ e.deep ≤ 24 ∧ 16384 < e.enc.length ∧ e.put = ([], 3)) ∨ (e.right = true ∧ e.deep ≤ 24 ∧ e.enc.length ≤ 16384 ∧ e.put = (e.enc, 0)) := by
  unfold El.put
  by_cases h1 : e.right = false
  · left
    exact ⟨h1, if_pos h1⟩
  · have h1' : e.right = true := by simpa using h1
    rw [if_neg h1]
    by_cases h2 : 24 < e.deep
    · right; left
      exact ⟨h1', h2, if_pos h2⟩
    · rw [if_neg h2]
      by_cases h3 : 16384 < e.enc.length
      · right; right; left
        exact ⟨h1', by omega, h3, if_pos h3⟩
      · right; right; right
        exact ⟨h1', by omega, by omega, if_neg h3⟩
theorem byt_of : ∀ (l : List El), (∀ e ∈ l, e.byt) → (Fo.of l).byt
  | [], _ => trivial
  | e :: r, h => ⟨(h e (by simp)).1, (h e (by simp)).2, byt_of r fun x hx => h x (by simp [hx])⟩
end Go.Proofs.YtkffgdndglfcfaaGreatDoor
