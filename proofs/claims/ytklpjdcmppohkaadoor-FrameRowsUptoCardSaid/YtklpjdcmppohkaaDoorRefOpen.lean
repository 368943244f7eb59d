/-
  The document's Open of any bytes.
-/
import Derived.Test.YtklpjdcmppohkaaDoorRefMore
import Derived.Test.YtklpjdcmppohkaaDoorAppend
namespace Go.Proofs.YtklpjdcmppohkaaDoor
open Go.RowKit

/-- Four bytes, most significant first. -/
def be4 (a b c d : Nat) : Nat := ((a * 256 + b) * 256 + c) * 256 + d
def at4 (l : List Nat) (k : Nat) : Nat := l.getD k 0
/-- The record's length that bytes begin with; the checksum that stands behind n bytes and four. -/
def lenF (l : List Nat) : Nat := be4 (at4 l 0) (at4 l 1) (at4 l 2) (at4 l 3)
def sumF (l : List Nat) (n : Nat) : Nat := be4 (at4 l (n + 7)) (at4 l (n + 6)) (at4 l (n + 5)) (at4 l (n + 4))
def sumN (l : List Nat) : Nat := crc 4294967295 l ^^^ 4294967295
def openP (l : List Nat) : List Nat × Nat × Nat :=
  if l.length < 4 then ([], 0, 10)
  else if 65536 < lenF l then ([], 0, 3)
  else if l.length < lenF l + 8 then ([], 0, 10)
  else if sumF l (lenF l) ≠ sumN (l.take (lenF l + 4)) then ([], 0, 12)
  else ((l.drop 4).take (lenF l), lenF l + 8, 0)

theorem ofInt64 (a : Nat) (h : a < 9223372036854775808) : (BitVec.ofInt 64 (a : Int)).toNat = a := by
  rw [BitVec.toNat_ofInt]
  omega
theorem bits_or64 (a b : Nat) (ha : a < 9223372036854775808) (hb : b < 9223372036854775808) : bits .or .i64 (a : Int) (b : Int) = ((a ||| b : Nat) : Int) := by
  show IntKind.i64.wrap ((BitVec.ofInt 64 (a : Int) ||| BitVec.ofInt 64 (b : Int)).toNat : Int) = _
  rw [BitVec.toNat_or, ofInt64 a ha, ofInt64 b hb]
  have := Nat.or_lt_two_pow (n := 63) ha hb
  exact IntWalk.i64_in _ (by omega)
theorem bits_or32 (a b : Nat) (ha : a < 4294967296) (hb : b < 4294967296) : bits .or .u32 (a : Int) (b : Int) = ((a ||| b : Nat) : Int) := by
  show IntKind.u32.wrap ((BitVec.ofInt 32 (a : Int) ||| BitVec.ofInt 32 (b : Int)).toNat : Int) = _
  rw [BitVec.toNat_or, ofInt32 a ha, ofInt32 b hb]
  have := Nat.or_lt_two_pow (n := 32) ha hb
  exact IntWalk.u32_in _ (by omega)
theorem or_add (i a b : Nat) (h : b < 2 ^ i) : (2 ^ i * a) ||| b = 2 ^ i * a + b := (Nat.two_pow_add_eq_or_of_lt h a).symm
theorem bits_be4 (a b c d : Nat) (ha : a < 256) (hb : b < 256) (hc : c < 256) (hd : d < 256) : bits .or .i64 (bits .or .i64 (bits .or .i64 ((a : Int) * 16777216) ((b : Int) * 65536)) ((c : Int) * 256)) (d : Int) = (be4 a b c d : Int) := by
  have e1 : ((a : Int) * 16777216) = ((2 ^ 24 * a : Nat) : Int) := by omega
  have e2 : ((b : Int) * 65536) = ((b * 65536 : Nat) : Int) := by omega
  have e3 : ((c : Int) * 256) = ((c * 256 : Nat) : Int) := by omega
  rw [e1, e2, e3, bits_or64 _ _ (by omega) (by omega), or_add 24 a _ (by omega)]
  rw [show 2 ^ 24 * a + b * 65536 = 2 ^ 16 * (256 * a + b) by omega, bits_or64 _ _ (by omega) (by omega), or_add 16 _ _ (by omega)]
  rw [show 2 ^ 16 * (256 * a + b) + c * 256 = 2 ^ 8 * (256 * (256 * a + b) + c) by omega, bits_or64 _ _ (by omega) (by omega), or_add 8 _ _ (by omega)]
  unfold be4
  omega
/-- The same, lowest first. -/
theorem bits_le4 (a b c d : Nat) (ha : a < 256) (hb : b < 256) (hc : c < 256) (hd : d < 256) : bits .or .u32 (bits .or .u32 (bits .or .u32 (a : Int) ((b : Int) * 256)) ((c : Int) * 65536)) ((d : Int) * 16777216) = (be4 d c b a : Int) := by
  have e1 : ((d : Int) * 16777216) = ((2 ^ 24 * d : Nat) : Int) := by omega
  have e2 : ((c : Int) * 65536) = ((2 ^ 16 * c : Nat) : Int) := by omega
  have e3 : ((b : Int) * 256) = ((2 ^ 8 * b : Nat) : Int) := by omega
  rw [e1, e2, e3, bits_or32 _ _ (by omega) (by omega), Nat.or_comm a, or_add 8 b _ (by omega)]
  rw [bits_or32 _ _ (by omega) (by omega), Nat.or_comm, or_add 16 _ _ (by omega)]
  rw [bits_or32 _ _ (by omega) (by omega), Nat.or_comm, or_add 24 _ _ (by omega)]
  unfold be4
  omega

set_option maxRecDepth 8000 in
set_option maxHeartbeats 800000 in
theorem refOpen_short (A : Option Addr) (cp L : Nat) (w : World) (h4 : L < 4) :
    Calls Tryd.prog 12 #[.slice A L cp] w fun e w' => e = .returned (.tuple #[.slice none 0 0, .int .i64 0, .int .i64 10]) ∧ Below w.heap.size w w' := by
  have i0 : decide ((L : Int) < 4) = true := decide_eq_true (by omega)
  go_enter Tryd.func12, Tryd.ntmps12
  go_wp2_with fail
  go_returns
  exact ⟨rfl, by go_grown⟩
set_option maxRecDepth 8000 in
set_option maxHeartbeats 800000 in
theorem refOpen_big (ad : Addr) (cp L n : Nat) (w : World) (x0 x1 x2 x3 : Nat) (h4 : 4 ≤ L) (hl : L ≤ 1048600)
    (c0 : w.cell? ad = some (.int .u8 (x0 : Int))) (c1 : w.cell? ⟨ad.block, ad.off + 1, none⟩ = some (.int .u8 (x1 : Int))) (c2 : w.cell? ⟨ad.block, ad.off + 2, none⟩ = some (.int .u8 (x2 : Int))) (c3 : w.cell? ⟨ad.block, ad.off + 3, none⟩ = some (.int .u8 (x3 : Int)))
    (b0 : x0 < 256) (b1 : x1 < 256) (b2 : x2 < 256) (b3 : x3 < 256)
    (hn : bits .or .i64 (bits .or .i64 (bits .or .i64 ((x0 : Int) * 16777216) ((x1 : Int) * 65536)) ((x2 : Int) * 256)) (x3 : Int) = (n : Int)) (h5 : 65536 < n) :
    Calls Tryd.prog 12 #[.slice (some ad) L cp] w fun e w' => e = .returned (.tuple #[.slice none 0 0, .int .i64 0, .int .i64 3]) ∧ Below w.heap.size w w' := by
  have i0 : decide ((L : Int) < 4) = false := decide_eq_false (by omega)
  have i1 : (0 : Int) < (L : Int) := by omega
  have i2 : (1 : Int) < (L : Int) := by omega
  have i3 : (2 : Int) < (L : Int) := by omega
  have i4 : (3 : Int) < (L : Int) := by omega
  have j1 : 0 < L := by omega
  have j2 : 1 < L := by omega
  have j3 : 2 < L := by omega
  have j4 : 3 < L := by omega
  have k0 : decide (65536 < (n : Int)) = true := decide_eq_true (by omega)
  have k1 : decide (65536 < n) = true := decide_eq_true (by omega)
  go_enter Tryd.func12, Tryd.ntmps12
  go_wp2_with fail
  go_region
  go_wp2_with fail
  go_returns
  exact ⟨rfl, by go_grown⟩
set_option maxRecDepth 8000 in
set_option maxHeartbeats 800000 in
theorem refOpen_end (ad : Addr) (cp L n : Nat) (w : World) (x0 x1 x2 x3 : Nat) (h4 : 4 ≤ L) (hl : L ≤ 1048600)
    (c0 : w.cell? ad = some (.int .u8 (x0 : Int))) (c1 : w.cell? ⟨ad.block, ad.off + 1, none⟩ = some (.int .u8 (x1 : Int))) (c2 : w.cell? ⟨ad.block, ad.off + 2, none⟩ = some (.int .u8 (x2 : Int))) (c3 : w.cell? ⟨ad.block, ad.off + 3, none⟩ = some (.int .u8 (x3 : Int)))
    (b0 : x0 < 256) (b1 : x1 < 256) (b2 : x2 < 256) (b3 : x3 < 256)
    (hn : bits .or .i64 (bits .or .i64 (bits .or .i64 ((x0 : Int) * 16777216) ((x1 : Int) * 65536)) ((x2 : Int) * 256)) (x3 : Int) = (n : Int)) (h5 : n ≤ 65536) (h6 : L < n + 8) :
    Calls Tryd.prog 12 #[.slice (some ad) L cp] w fun e w' => e = .returned (.tuple #[.slice none 0 0, .int .i64 0, .int .i64 10]) ∧ Below w.heap.size w w' := by
  have i0 : decide ((L : Int) < 4) = false := decide_eq_false (by omega)
  have i1 : (0 : Int) < (L : Int) := by omega
  have i2 : (1 : Int) < (L : Int) := by omega
  have i3 : (2 : Int) < (L : Int) := by omega
  have i4 : (3 : Int) < (L : Int) := by omega
  have j1 : 0 < L := by omega
  have j2 : 1 < L := by omega
  have j3 : 2 < L := by omega
  have j4 : 3 < L := by omega
  have k0 : decide (65536 < (n : Int)) = false := decide_eq_false (by omega)
  have k1 : decide (65536 < n) = false := decide_eq_false (by omega)
  have k2 : decide ((L : Int) < (n : Int) + 8) = true := decide_eq_true (by omega)
  go_enter Tryd.func12, Tryd.ntmps12
  go_wp2_with fail
  go_region
  go_wp2_with fail
  go_returns
  exact ⟨rfl, by go_grown⟩
set_option maxRecDepth 8000 in
set_option maxHeartbeats 800000 in
theorem refOpen_no (ad : Addr) (cp L n : Nat) (w : World) (x0 x1 x2 x3 : Nat) (h4 : 4 ≤ L) (hl : L ≤ 1048600)
    (c0 : w.cell? ad = some (.int .u8 (x0 : Int))) (c1 : w.cell? ⟨ad.block, ad.off + 1, none⟩ = some (.int .u8 (x1 : Int))) (c2 : w.cell? ⟨ad.block, ad.off + 2, none⟩ = some (.int .u8 (x2 : Int))) (c3 : w.cell? ⟨ad.block, ad.off + 3, none⟩ = some (.int .u8 (x3 : Int)))
    (b0 : x0 < 256) (b1 : x1 < 256) (b2 : x2 < 256) (b3 : x3 < 256)
    (hn : bits .or .i64 (bits .or .i64 (bits .or .i64 ((x0 : Int) * 16777216) ((x1 : Int) * 65536)) ((x2 : Int) * 256)) (x3 : Int) = (n : Int)) (h5 : n ≤ 65536) (h6 : n + 8 ≤ L) (hLc : L ≤ cp) (y0 y1 y2 y3 s v : Nat) (d0 : w.cell? ⟨ad.block, ad.off + (n + 4), none⟩ = some (.int .u8 (y0 : Int))) (d1 : w.cell? ⟨ad.block, ad.off + (n + 5), none⟩ = some (.int .u8 (y1 : Int))) (d2 : w.cell? ⟨ad.block, ad.off + (n + 6), none⟩ = some (.int .u8 (y2 : Int))) (d3 : w.cell? ⟨ad.block, ad.off + (n + 7), none⟩ = some (.int .u8 (y3 : Int)))
    (e0 : y0 < 256) (e1 : y1 < 256) (e2 : y2 < 256) (e3 : y3 < 256)
    (hsv : bits .or .u32 (bits .or .u32 (bits .or .u32 (y0 : Int) ((y1 : Int) * 256)) ((y2 : Int) * 65536)) ((y3 : Int) * 16777216) = (s : Int))
    (CM : Hid (∀ w', Below w.heap.size w w' → Calls Tryd.prog 14 #[.int .u32 0, .slice (some ad) (n + 4) cp] w' fun e w'' => e = .returned (.int .u32 (v : Int)) ∧ w'' = w')) (hq : s ≠ v) :
    Calls Tryd.prog 12 #[.slice (some ad) L cp] w fun e w' => e = .returned (.tuple #[.slice none 0 0, .int .i64 0, .int .i64 12]) ∧ Below w.heap.size w w' := by
  have i0 : decide ((L : Int) < 4) = false := decide_eq_false (by omega)
  have i1 : (0 : Int) < (L : Int) := by omega
  have i2 : (1 : Int) < (L : Int) := by omega
  have i3 : (2 : Int) < (L : Int) := by omega
  have i4 : (3 : Int) < (L : Int) := by omega
  have j1 : 0 < L := by omega
  have j2 : 1 < L := by omega
  have j3 : 2 < L := by omega
  have j4 : 3 < L := by omega
  have k0 : decide (65536 < (n : Int)) = false := decide_eq_false (by omega)
  have k1 : decide (65536 < n) = false := decide_eq_false (by omega)
  have k2 : decide ((L : Int) < (n : Int) + 8) = false := decide_eq_false (by omega)
  have m0 : (0 : Int) ≤ (n : Int) + 4 := by omega
  have m1 : (n : Int) + 4 < (L : Int) := by omega
  have m2 : (n : Int) + 5 < (L : Int) := by omega
  have m3 : (n : Int) + 6 < (L : Int) := by omega
  have m4 : (n : Int) + 7 < (L : Int) := by omega
  have m5 : (0 : Int) ≤ (n : Int) + 5 := by omega
  have m6 : (0 : Int) ≤ (n : Int) + 6 := by omega
  have m7 : (0 : Int) ≤ (n : Int) + 7 := by omega
  have m8 : (n : Int) + 4 ≤ (cp : Int) := by omega
  have m9 : (4 : Int) ≤ (n : Int) + 4 := by omega
  have t0 : ((n : Int) + 4).toNat = n + 4 := by omega
  have t1 : ((n : Int) + 5).toNat = n + 5 := by omega
  have t2 : ((n : Int) + 6).toNat = n + 6 := by omega
  have t3 : ((n : Int) + 7).toNat = n + 7 := by omega
  have fq : ((s : Int) != (v : Int)) = true := by simp; omega
  go_enter Tryd.func12, Tryd.ntmps12
  go_wp2_with fail
  go_region
  go_wp2_with fail
  go_region
  go_wp2_with fail
  refine (CM.out _ (by go_grown)).mono ?_
  rintro en w2 ⟨rfl, rfl⟩
  dsimp only []
  go_wp2_with fail
  go_returns
  exact ⟨rfl, by go_grown⟩
set_option maxRecDepth 8000 in
set_option maxHeartbeats 800000 in
theorem refOpen_yes (ad : Addr) (cp L n : Nat) (w : World) (x0 x1 x2 x3 : Nat) (h4 : 4 ≤ L) (hl : L ≤ 1048600)
    (c0 : w.cell? ad = some (.int .u8 (x0 : Int))) (c1 : w.cell? ⟨ad.block, ad.off + 1, none⟩ = some (.int .u8 (x1 : Int))) (c2 : w.cell? ⟨ad.block, ad.off + 2, none⟩ = some (.int .u8 (x2 : Int))) (c3 : w.cell? ⟨ad.block, ad.off + 3, none⟩ = some (.int .u8 (x3 : Int)))
    (b0 : x0 < 256) (b1 : x1 < 256) (b2 : x2 < 256) (b3 : x3 < 256)
    (hn : bits .or .i64 (bits .or .i64 (bits .or .i64 ((x0 : Int) * 16777216) ((x1 : Int) * 65536)) ((x2 : Int) * 256)) (x3 : Int) = (n : Int)) (h5 : n ≤ 65536) (h6 : n + 8 ≤ L) (hLc : L ≤ cp) (y0 y1 y2 y3 s v : Nat) (d0 : w.cell? ⟨ad.block, ad.off + (n + 4), none⟩ = some (.int .u8 (y0 : Int))) (d1 : w.cell? ⟨ad.block, ad.off + (n + 5), none⟩ = some (.int .u8 (y1 : Int))) (d2 : w.cell? ⟨ad.block, ad.off + (n + 6), none⟩ = some (.int .u8 (y2 : Int))) (d3 : w.cell? ⟨ad.block, ad.off + (n + 7), none⟩ = some (.int .u8 (y3 : Int)))
    (e0 : y0 < 256) (e1 : y1 < 256) (e2 : y2 < 256) (e3 : y3 < 256)
    (hsv : bits .or .u32 (bits .or .u32 (bits .or .u32 (y0 : Int) ((y1 : Int) * 256)) ((y2 : Int) * 65536)) ((y3 : Int) * 16777216) = (s : Int))
    (CM : Hid (∀ w', Below w.heap.size w w' → Calls Tryd.prog 14 #[.int .u32 0, .slice (some ad) (n + 4) cp] w' fun e w'' => e = .returned (.int .u32 (v : Int)) ∧ w'' = w')) (hq : s = v) :
    Calls Tryd.prog 12 #[.slice (some ad) L cp] w fun e w' => e = .returned (.tuple #[.slice (some ⟨ad.block, ad.off + 4, none⟩) n (cp - 4), .int .i64 ((n : Int) + 8), .int .i64 0]) ∧ Below w.heap.size w w' := by
  have i0 : decide ((L : Int) < 4) = false := decide_eq_false (by omega)
  have i1 : (0 : Int) < (L : Int) := by omega
  have i2 : (1 : Int) < (L : Int) := by omega
  have i3 : (2 : Int) < (L : Int) := by omega
  have i4 : (3 : Int) < (L : Int) := by omega
  have j1 : 0 < L := by omega
  have j2 : 1 < L := by omega
  have j3 : 2 < L := by omega
  have j4 : 3 < L := by omega
  have k0 : decide (65536 < (n : Int)) = false := decide_eq_false (by omega)
  have k1 : decide (65536 < n) = false := decide_eq_false (by omega)
  have k2 : decide ((L : Int) < (n : Int) + 8) = false := decide_eq_false (by omega)
  have m0 : (0 : Int) ≤ (n : Int) + 4 := by omega
  have m1 : (n : Int) + 4 < (L : Int) := by omega
  have m2 : (n : Int) + 5 < (L : Int) := by omega
  have m3 : (n : Int) + 6 < (L : Int) := by omega
  have m4 : (n : Int) + 7 < (L : Int) := by omega
  have m5 : (0 : Int) ≤ (n : Int) + 5 := by omega
  have m6 : (0 : Int) ≤ (n : Int) + 6 := by omega
  have m7 : (0 : Int) ≤ (n : Int) + 7 := by omega
  have m8 : (n : Int) + 4 ≤ (cp : Int) := by omega
  have m9 : (4 : Int) ≤ (n : Int) + 4 := by omega
  have t0 : ((n : Int) + 4).toNat = n + 4 := by omega
  have t1 : ((n : Int) + 5).toNat = n + 5 := by omega
  have t2 : ((n : Int) + 6).toNat = n + 6 := by omega
  have t3 : ((n : Int) + 7).toNat = n + 7 := by omega
  have fq : ((s : Int) != (v : Int)) = false := by simp; omega
  go_enter Tryd.func12, Tryd.ntmps12
  go_wp2_with fail
  go_region
  go_wp2_with fail
  go_region
  go_wp2_with fail
  refine (CM.out _ (by go_grown)).mono ?_
  rintro en w2 ⟨rfl, rfl⟩
  dsimp only []
  go_wp2_with fail
  go_returns
  exact ⟨rfl, by go_grown⟩
theorem add_two (a : Addr) (f j : Nat) (hf : 0 < f) : (a.add f).add j = a.add (f + j) := by
  unfold Addr.add
  rw [if_neg (by omega : ¬ f = 0), if_neg (by omega : ¬ f + j = 0)]
  by_cases h : j = 0
  · rw [if_pos h, h]
    rfl
  · rw [if_neg h, Nat.add_assoc]
theorem Src.drop {w : World} {K : Nat} {ad : Addr} {c : Nat} {l : List Nat} (h : Src w K (some ad) c l) (f : Nat) (hf : 0 < f) : Src w K (some (ad.add f)) (c - f) (l.drop f) := by
  refine ⟨by have := h.le; rw [List.length_drop]; omega, (fun e => by cases e), fun ad' e => ?_⟩
  injection e with e
  subst e
  refine ⟨fun h0 => ?_, fun j n hj => ?_⟩
  · rw [add_block]
    exact (h.at_ ad rfl).1 (by rw [List.length_drop] at h0; omega)
  · rw [List.getElem?_drop] at hj
    rw [add_two _ _ _ hf]
    exact (h.at_ ad rfl).2 (f + j) n hj
theorem refOpen_any (A : Option Addr) (cp L : Nat) (l : List Nat) (w : World) (K : Nat) (hs : Src w K A cp l) (hK : K ≤ w.heap.size) (hL : l.length = L) (hl : L ≤ 1048600) (hcp : cp ≤ 9223372036854775807) (hby : ∀ x ∈ l, x < 256) :
    Calls Tryd.prog 12 #[.slice A L cp] w fun e w' => ∃ A' c', e = .returned (.tuple #[.slice A' (openP l).1.length c', .int .i64 ((openP l).2.1 : Int), .int .i64 ((openP l).2.2 : Int)]) ∧ Src w' K A' c' (openP l).1 ∧ c' ≤ 9223372036854775807 ∧ Below w.heap.size w w' := by
  have hle := hs.le
  rw [hL] at hle
  unfold openP
  rw [hL]
  by_cases h4 : L < 4
  · rw [if_pos h4]
    exact (refOpen_short A cp L w h4).mono fun e w' ⟨h1, h2⟩ => ⟨none, 0, h1, Src.none_ _ _, by omega, h2⟩
  · rw [if_neg h4]
    rcases A with _ | ad
    · have := hs.nil rfl
      omega
    · have get : ∀ k, k < L → w.cell? (ad.add k) = some (.int .u8 ((at4 l k : Nat) : Int)) ∧ at4 l k < 256 := fun k hk => by
        have hk' : k < l.length := by omega
        have e : at4 l k = l[k] := by
          unfold at4
          simp [hk']
        rw [e]
        exact ⟨(hs.at_ ad rfl).2 k _ (by simp), hby _ (List.getElem_mem hk')⟩
      have a0 : ad.add 0 = ad := by simp [Addr.add]
      have ak : ∀ k, 0 < k → ad.add k = ⟨ad.block, ad.off + k, none⟩ := fun k hk => by
        unfold Addr.add
        rw [if_neg (by omega)]
      obtain ⟨c0, b0⟩ := get 0 (by omega)
      obtain ⟨c1, b1⟩ := get 1 (by omega)
      obtain ⟨c2, b2⟩ := get 2 (by omega)
      obtain ⟨c3, b3⟩ := get 3 (by omega)
      rw [a0] at c0
      rw [ak 1 (by omega)] at c1
      rw [ak 2 (by omega)] at c2
      rw [ak 3 (by omega)] at c3
      have hn : _ = ((lenF l : Nat) : Int) := bits_be4 (at4 l 0) (at4 l 1) (at4 l 2) (at4 l 3) b0 b1 b2 b3
      obtain ⟨n, hn0⟩ : ∃ n, n = lenF l := ⟨_, rfl⟩
      rw [← hn0] at hn ⊢
      by_cases h5 : 65536 < n
      · rw [if_pos h5]
        exact (refOpen_big ad cp L n w _ _ _ _ (by omega) hl c0 c1 c2 c3 b0 b1 b2 b3 hn h5).mono fun e w' ⟨h1, h2⟩ => ⟨none, 0, h1, Src.none_ _ _, by omega, h2⟩
      · rw [if_neg h5]
        by_cases h6 : L < n + 8
        · rw [if_pos h6]
          exact (refOpen_end ad cp L n w _ _ _ _ (by omega) hl c0 c1 c2 c3 b0 b1 b2 b3 hn (by omega) h6).mono fun e w' ⟨h1, h2⟩ => ⟨none, 0, h1, Src.none_ _ _, by omega, h2⟩
        · rw [if_neg h6]
          obtain ⟨d0, e0⟩ := get (n + 4) (by omega)
          obtain ⟨d1, e1⟩ := get (n + 5) (by omega)
          obtain ⟨d2, e2⟩ := get (n + 6) (by omega)
          obtain ⟨d3, e3⟩ := get (n + 7) (by omega)
          rw [ak _ (by omega)] at d0 d1 d2 d3
          have hsv : _ = ((sumF l n : Nat) : Int) := bits_le4 (at4 l (n + 4)) (at4 l (n + 5)) (at4 l (n + 6)) (at4 l (n + 7)) e0 e1 e2 e3
          have CM : Hid (∀ w', Below w.heap.size w w' → Calls Tryd.prog 14 #[.int .u32 0, .slice (some ad) (n + 4) cp] w' fun e w'' => e = .returned (.int .u32 ((sumN (l.take (n + 4)) : Nat) : Int)) ∧ w'' = w') := Lib.hid fun w' hb => by
            have := refMore_any (some ad) cp (n + 4) (l.take (n + 4)) w' K 0 ((hs.below (hb.mono hK)).take (n + 4)) (by rw [List.length_take]; omega) (by omega) (fun x hx => hby x (List.mem_of_mem_take hx)) (by omega)
            rw [Nat.zero_xor] at this
            exact this
          by_cases h7 : sumF l n = sumN (l.take (n + 4))
          · rw [if_neg (by simpa using h7)]
            refine (refOpen_yes ad cp L n w _ _ _ _ (by omega) hl c0 c1 c2 c3 b0 b1 b2 b3 hn (by omega) (by omega) hle _ _ _ _ _ _ d0 d1 d2 d3 e0 e1 e2 e3 hsv CM h7).mono fun e w' ⟨h1, h2⟩ => ⟨some ⟨ad.block, ad.off + 4, none⟩, cp - 4, ?_, ?_, by omega, h2⟩
            · rw [h1]
              have : ((l.drop 4).take n).length = n := by rw [List.length_take, List.length_drop]; omega
              simp only [this]
              simp
            · have := ((hs.below (h2.mono hK)).drop 4 (by omega)).take n
              rw [ak 4 (by omega)] at this
              exact this
          · rw [if_pos (by simpa using h7)]
            exact (refOpen_no ad cp L n w _ _ _ _ (by omega) hl c0 c1 c2 c3 b0 b1 b2 b3 hn (by omega) (by omega) hle _ _ _ _ _ _ d0 d1 d2 d3 e0 e1 e2 e3 hsv CM h7).mono fun e w' ⟨h1, h2⟩ => ⟨none, 0, h1, Src.none_ _ _, by omega, h2⟩
end Go.Proofs.YtklpjdcmppohkaaDoor
