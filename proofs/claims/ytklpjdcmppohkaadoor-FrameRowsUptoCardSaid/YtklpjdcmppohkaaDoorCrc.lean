/-
  The checksum of frames, as data: a register that goes on by one bit is linear, and loses nothing.
-/
import Derived.Test.YtklpjdcmppohkaaDoorWords
namespace Go.Proofs.YtklpjdcmppohkaaDoor

/-- The register goes on by one bit. -/
def crcT (r : Nat) : Nat := (r >>> 1) ^^^ (if r % 2 = 1 then 3988292384 else 0)
def crcN : Nat → Nat → Nat
  | 0, r => r
  | n + 1, r => crcN n (crcT r)
theorem xor_two (a b : Nat) : ((a ^^^ b) % 2 = 1) ↔ ¬ (a % 2 = 1 ↔ b % 2 = 1) := by
  have h := Nat.testBit_xor a b 0
  simp only [Nat.testBit_zero] at h
  have h' := congrArg (· = true) h
  simp only [decide_eq_true_eq, eq_iff_iff] at h'
  rw [h']
  by_cases h1 : a % 2 = 1 <;> by_cases h2 : b % 2 = 1 <;> simp [h1, h2]
theorem xor_comm4 (a b c d : Nat) : (a ^^^ b) ^^^ (c ^^^ d) = (a ^^^ c) ^^^ (b ^^^ d) := by
  rw [Nat.xor_assoc, Nat.xor_assoc, ← Nat.xor_assoc b, Nat.xor_comm b c, Nat.xor_assoc c]
theorem crcT_xor (a b : Nat) : crcT (a ^^^ b) = crcT a ^^^ crcT b := by
  unfold crcT
  rw [xor_comm4, ← Nat.shiftRight_xor_distrib]
  congr 1
  have h := xor_two a b
  by_cases h1 : a % 2 = 1 <;> by_cases h2 : b % 2 = 1
  · rw [if_neg (by rw [h]; simp [h1, h2]), if_pos h1, if_pos h2, Nat.xor_self]
  · rw [if_pos (by rw [h]; simp [h1, h2]), if_pos h1, if_neg h2, Nat.xor_zero]
  · rw [if_pos (by rw [h]; simp [h1, h2]), if_neg h1, if_pos h2, Nat.zero_xor]
  · rw [if_neg (by rw [h]; simp [h1, h2]), if_neg h1, if_neg h2, Nat.xor_zero]
theorem crcN_xor : ∀ (n a b : Nat), crcN n (a ^^^ b) = crcN n a ^^^ crcN n b
  | 0, _, _ => rfl
  | n + 1, a, b => by
    rw [crcN, crcT_xor, crcN_xor n]
    rfl
theorem crcN_zero : ∀ n, crcN n 0 = 0
  | 0 => rfl
  | n + 1 => crcN_zero n
theorem crcN_add : ∀ (n m r : Nat), crcN (n + m) r = crcN m (crcN n r)
  | 0, m, r => by rw [Nat.zero_add]; rfl
  | n + 1, m, r => by rw [Nat.add_right_comm, crcN, crcN_add n]; rfl
theorem crcT_lt (r : Nat) (h : r < 4294967296) : crcT r < 4294967296 := by
  unfold crcT
  refine Nat.xor_lt_two_pow (n := 32) ?_ ?_
  · rw [Nat.shiftRight_eq_div_pow]
    omega
  · split <;> omega
theorem crcN_lt : ∀ (n r : Nat), r < 4294967296 → crcN n r < 4294967296
  | 0, _, h => h
  | n + 1, r, h => crcN_lt n _ (crcT_lt r h)
/-- Nothing but nought goes to nought. -/
theorem crcT_kernel (r : Nat) (h : r < 4294967296) (h0 : crcT r = 0) : r = 0 := by
  unfold crcT at h0
  have e : r >>> 1 = if r % 2 = 1 then 3988292384 else 0 := by
    have := congrArg (· ^^^ (if r % 2 = 1 then 3988292384 else 0)) h0
    simpa [Nat.xor_assoc] using this
  rw [Nat.shiftRight_eq_div_pow] at e
  split at e <;> omega
theorem crcN_kernel : ∀ (n r : Nat), r < 4294967296 → crcN n r = 0 → r = 0
  | 0, _, _, h0 => h0
  | n + 1, r, h, h0 => crcT_kernel r h (crcN_kernel n _ (crcT_lt r h) h0)
theorem crcN_inj (n a b : Nat) (ha : a < 4294967296) (hb : b < 4294967296) (h : crcN n a = crcN n b) : a = b := by
  have h1 : crcN n (a ^^^ b) = 0 := by rw [crcN_xor, h, Nat.xor_self]
  have h2 := crcN_kernel n _ (Nat.xor_lt_two_pow (n := 32) ha hb) h1
  have := congrArg (· ^^^ b) h2
  simpa [Nat.xor_assoc] using this
/-- Nought bits at the lower end are gone first. -/
theorem crcN_shl : ∀ (n m : Nat), crcN n (m <<< n) = m
  | 0, m => rfl
  | n + 1, m => by
    have h : crcT (m <<< (n + 1)) = m <<< n := by
      have e : m <<< (n + 1) = 2 * (m <<< n) := by
        rw [Nat.shiftLeft_eq, Nat.shiftLeft_eq, Nat.pow_succ]
        rw [Nat.mul_comm 2, Nat.mul_assoc]
      unfold crcT
      rw [e, if_neg (by omega), Nat.xor_zero, Nat.shiftRight_eq_div_pow]
      omega
    rw [crcN, h, crcN_shl n]

/-- The register goes on by bytes. -/
def crc (r : Nat) (l : List Nat) : Nat := l.foldl (fun r x => crcN 8 (r ^^^ x)) r
theorem crc_nil (r : Nat) : crc r [] = r := rfl
theorem crc_cons (r x : Nat) (l : List Nat) : crc r (x :: l) = crc (crcN 8 (r ^^^ x)) l := rfl
theorem crc_append (r : Nat) (l m : List Nat) : crc r (l ++ m) = crc (crc r l) m := List.foldl_append ..
theorem crc_lt : ∀ (l : List Nat) (r : Nat), r < 4294967296 → (∀ x ∈ l, x < 256) → crc r l < 4294967296
  | [], _, h, _ => h
  | x :: l, r, h, hl => crc_lt l _ (crcN_lt 8 _ (Nat.xor_lt_two_pow (n := 32) h (by have := hl x (List.mem_cons_self ..); omega))) fun y hy => hl y (List.mem_cons_of_mem _ hy)
theorem crc_xor : ∀ (l m : List Nat) (r s : Nat), l.length = m.length → crc (r ^^^ s) (List.zipWith (· ^^^ ·) l m) = crc r l ^^^ crc s m
  | [], [], r, s, _ => rfl
  | x :: l, y :: m, r, s, h => by
    rw [List.zipWith_cons_cons, crc_cons, crc_cons, crc_cons, xor_comm4, crcN_xor, crc_xor l m _ _ (by simpa using h)]
  | [], _ :: _, _, _, h => by simp at h
  | _ :: _, [], _, _, h => by simp at h
/-- The lowest n bytes of a number, lowest first. -/
def les : Nat → Nat → List Nat
  | 0, _ => []
  | n + 1, m => m % 256 :: les n (m / 256)
theorem les_len : ∀ n m, (les n m).length = n
  | 0, _ => rfl
  | n + 1, m => by rw [les, List.length_cons, les_len n]
theorem les_byte : ∀ (n m : Nat), ∀ x ∈ les n m, x < 256
  | 0, _, x, h => by cases h
  | n + 1, m, x, h => by
    rcases List.mem_cons.1 h with rfl | h
    · omega
    · exact les_byte n _ x h
theorem les_get : ∀ (n m j : Nat), j < n → (les n m)[j]? = some (m / 256 ^ j % 256)
  | 0, _, _, h => by omega
  | n + 1, m, 0, _ => by simp [les]
  | n + 1, m, j + 1, h => by
    rw [les, List.getElem?_cons_succ, les_get n _ j (by omega), Nat.div_div_eq_div_mul, Nat.pow_succ, Nat.mul_comm 256]
theorem xor_split (m : Nat) : m = (m % 256) ^^^ ((m / 256) <<< 8) := by
  refine Nat.eq_of_testBit_eq fun i => ?_
  rw [Nat.testBit_xor, Nat.testBit_shiftLeft, show (256 : Nat) = 2 ^ 8 from rfl, Nat.testBit_mod_two_pow, Nat.testBit_div_two_pow]
  by_cases h : i < 8
  · simp [h, Nat.not_le.2 h]
  · have h8 : 8 ≤ i := by omega
    have e2 : i - 8 + 8 = i := by omega
    simp [h, h8, e2]
/-- Bytes that go in are as if they stood in the register. -/
theorem crc_les : ∀ (n r m : Nat), m < 256 ^ n → crc r (les n m) = crcN (8 * n) (r ^^^ m)
  | 0, r, m, h => by
    have : m = 0 := by simpa using h
    subst this
    rw [Nat.xor_zero]
    rfl
  | n + 1, r, m, h => by
    have hm : m / 256 < 256 ^ n := by
      rw [Nat.pow_succ] at h
      exact Nat.div_lt_of_lt_mul (by rwa [Nat.mul_comm])
    rw [les, crc_cons, crc_les n _ _ hm, Nat.mul_succ, Nat.add_comm, crcN_add]
    congr 1
    have e : r ^^^ m = (r ^^^ m % 256) ^^^ ((m / 256) <<< 8) := by
      rw [Nat.xor_assoc, ← xor_split]
    rw [e, crcN_xor 8 (r ^^^ m % 256), crcN_shl]

/-- Four bytes behind, lowest first, are the checksum just when the register comes to one certain number. -/
theorem crc_seal (R s : Nat) (hR : R < 4294967296) (hs : s < 4294967296) : s = R ^^^ 4294967295 ↔ crc R (les 4 s) = crcN 32 4294967295 := by
  rw [crc_les 4 R s (by omega)]
  constructor
  · rintro rfl
    rw [← Nat.xor_assoc, Nat.xor_self, Nat.zero_xor]
  · intro h
    have h1 := crcN_inj 32 _ _ (Nat.xor_lt_two_pow (n := 32) hR hs) (by omega) h
    have := congrArg (R ^^^ ·) h1
    simpa [← Nat.xor_assoc] using this
/-- Bits that are turned within 32 side by side are not unseen. -/
theorem crc_turned (r n at_ by_ : Nat) (l : List Nat) (hl : l.length = n) (hb : by_ < 4294967296) (ha : by_ <<< at_ < 256 ^ n) (han : at_ ≤ 8 * n) :
    crc r (List.zipWith (· ^^^ ·) l (les n (by_ <<< at_))) = crc r l ↔ by_ = 0 := by
  have h := crc_xor l (les n (by_ <<< at_)) r 0 (by rw [les_len, hl])
  rw [Nat.xor_zero, crc_les n 0 _ ha, Nat.zero_xor] at h
  have h2 : crcN (8 * n) (by_ <<< at_) = crcN (8 * n - at_) by_ := by
    rw [show 8 * n = at_ + (8 * n - at_) by omega, crcN_add, crcN_shl]
    congr 1
    omega
  rw [h, h2]
  constructor
  · intro e
    have := congrArg (crc r l ^^^ ·) e
    simp only [← Nat.xor_assoc, Nat.xor_self, Nat.zero_xor] at this
    exact crcN_kernel _ _ hb this
  · rintro rfl
    rw [crcN_zero, Nat.xor_zero]
end Go.Proofs.YtklpjdcmppohkaaDoor
