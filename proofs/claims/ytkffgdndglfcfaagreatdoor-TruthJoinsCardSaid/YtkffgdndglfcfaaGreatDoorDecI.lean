/-
  Plain: decimal texts as lists of bytes: which are valid, what number each is, its plain form, and the order of any two. Nothing here speaks of a program.
-/
import Derived.Lib.ItoaNum
import GoSem.Op.String
namespace Go.Proofs.YtkffgdndglfcfaaGreatDoor
open Go.Lib

def isDig (c : UInt8) : Bool := decide (48 ≤ c.toNat) && decide (c.toNat ≤ 57)
def dv (c : UInt8) : Nat := c.toNat - 48
def natV (l : List UInt8) : Nat := l.foldl (fun a c => a * 10 + dv c) 0
def digsL (l : List UInt8) : Bool := l.all isDig
def validL (l : List UInt8) : Bool :=
  match l with
  | [] => false
  | c :: r => if c = 45 then !r.isEmpty && digsL r else digsL (c :: r)
def stripL : List UInt8 → List UInt8
  | [] => []
  | [c] => [c]
  | c :: d :: r => if c = 48 then stripL (d :: r) else c :: d :: r
def valL (l : List UInt8) : Int :=
  match l with
  | [] => 0
  | c :: r => if c = 45 then -(natV r : Int) else (natV (c :: r) : Int)
/-- The plain form. -/
def plainL (l : List UInt8) : List UInt8 := if validL l then itoa (valL l) else []
/-- What is compared. -/
def keyL (l : List UInt8) : Option Int := if validL l then some (valL l) else none
def cmpO : Option Int → Option Int → Int
  | none, none => 0
  | none, some _ => -1
  | some _, none => 1
  | some a, some b => if a < b then -1 else if a = b then 0 else 1
def cmpL (a b : List UInt8) : Int := cmpO (keyL a) (keyL b)

theorem natV_foldl (l : List UInt8) : ∀ a : Nat, l.foldl (fun a c => a * 10 + dv c) a = a * 10 ^ l.length + natV l := by
  unfold natV
  induction l with
  | nil => intro a; simp
  | cons c r ih =>
    intro a
    rw [List.foldl_cons, List.foldl_cons, ih (a * 10 + dv c), ih (0 * 10 + dv c), List.length_cons, Nat.pow_succ, Nat.add_mul, Nat.zero_mul, Nat.zero_add, Nat.mul_assoc, Nat.mul_comm 10, ← Nat.add_assoc]
theorem natV_cons (c : UInt8) (r : List UInt8) : natV (c :: r) = dv c * 10 ^ r.length + natV r := by
  rw [natV, List.foldl_cons, natV_foldl, Nat.zero_mul, Nat.zero_add]
theorem natV_snoc (l : List UInt8) (c : UInt8) : natV (l ++ [c]) = natV l * 10 + dv c := by simp [natV]
theorem natV_lt : ∀ l : List UInt8, digsL l = true → natV l < 10 ^ l.length
  | [], _ => by simp [natV]
  | c :: r, h => by
    simp only [digsL, List.all_cons, Bool.and_eq_true, isDig, decide_eq_true_eq] at h
    have := natV_lt r (by simpa [digsL] using h.2)
    rw [natV_cons, List.length_cons, Nat.pow_succ]
    have hd : dv c ≤ 9 := by unfold dv; omega
    have := Nat.mul_le_mul_right (10 ^ r.length) hd
    omega
theorem dig_ofNat (d : Nat) (h : d < 10) : (UInt8.ofNat (48 + d)).toNat = 48 + d := by
  rw [UInt8.toNat_ofNat', Nat.mod_eq_of_lt (by omega)]
theorem dv_ofNat (d : Nat) (h : d < 10) : dv (UInt8.ofNat (48 + d)) = d := by
  unfold dv
  rw [dig_ofNat d h]
  omega
theorem ofNat_dv (c : UInt8) (h : isDig c = true) : UInt8.ofNat (48 + dv c) = c := by
  simp only [isDig, Bool.and_eq_true, decide_eq_true_eq] at h
  apply UInt8.toNat_inj.1
  have : dv c < 10 := by unfold dv; omega
  rw [dig_ofNat _ this]
  unfold dv
  omega
theorem decDigits_small {u : Nat} (h : u < 10) : decDigits u = [UInt8.ofNat (48 + u)] := by rw [decDigits, dif_pos h]
theorem decDigits_big {u : Nat} (h : ¬ u < 10) : decDigits u = decDigits (u / 10) ++ [UInt8.ofNat (48 + u % 10)] := by rw [decDigits, dif_neg h]
theorem natV_dec (u : Nat) : natV (decDigits u) = u := by
  induction u using Nat.strongRecOn with
  | _ u ih =>
    by_cases h : u < 10
    · rw [decDigits_small h, natV_cons, dv_ofNat u h]
      simp [natV]
    · rw [decDigits_big h, natV_snoc, ih (u / 10) (by omega), dv_ofNat _ (by omega)]
      omega
theorem digs_dec (u : Nat) : digsL (decDigits u) = true := by
  induction u using Nat.strongRecOn with
  | _ u ih =>
    by_cases h : u < 10
    · rw [decDigits_small h, digsL, List.all_cons, isDig, dig_ofNat u h]
      simp
      omega
    · rw [decDigits_big h]
      have := ih (u / 10) (by omega)
      simp only [digsL, List.all_append, Bool.and_eq_true] at this ⊢
      refine ⟨this, ?_⟩
      rw [List.all_cons, isDig, dig_ofNat (u % 10) (by omega)]
      simp
      omega
theorem dec_ne (u : Nat) : decDigits u ≠ [] := by
  intro h
  have := decDigits_length u
  rw [h] at this
  have h1 := nDigits_pos u
  simp at this
  omega
theorem head_app {m : List UInt8} (h : m ≠ []) (x : List UInt8) : (m ++ x).head? = m.head? := by
  cases m with
  | nil => exact absurd rfl h
  | cons => rfl
/-- A numeral has no superfluous zero ahead. -/
def Canon (l : List UInt8) : Prop := l ≠ [] ∧ digsL l = true ∧ (l.length = 1 ∨ l.head? ≠ some 48)
theorem canon_pos {l : List UInt8} (h : Canon l) (h1 : l.length ≠ 1) : 1 ≤ natV l := by
  obtain ⟨h0, hd, hh⟩ := h
  rcases l with _ | ⟨c, r⟩
  · exact absurd rfl h0
  · have hc : c ≠ 48 := by
      rcases hh with hh | hh
      · exact absurd hh h1
      · simpa using hh
    simp only [digsL, List.all_cons, Bool.and_eq_true, isDig, decide_eq_true_eq] at hd
    rw [natV_cons]
    have : 1 ≤ dv c := by
      unfold dv
      have : c.toNat ≠ 48 := fun e => hc (UInt8.toNat_inj.1 (by rw [e]; rfl))
      omega
    have := Nat.mul_le_mul this (Nat.one_le_pow r.length 10 (by decide))
    omega
theorem dec_natV (l : List UInt8) (h : Canon l) : decDigits (natV l) = l := by
  obtain ⟨n, hn⟩ : ∃ n, n = l.length := ⟨_, rfl⟩
  induction n using Nat.strongRecOn generalizing l with
  | _ n ih =>
    obtain ⟨h0, hd, hh⟩ := h
    rcases List.eq_nil_or_concat l with e | ⟨m, c, e⟩
    · exact absurd e h0
    · rw [List.concat_eq_append] at e
      subst e
      simp only [digsL, List.all_append, List.all_cons, List.all_nil, Bool.and_true, Bool.and_eq_true] at hd
      have hc9 : dv c < 10 := by
        have := hd.2
        simp only [isDig, Bool.and_eq_true, decide_eq_true_eq] at this
        unfold dv
        omega
      rw [natV_snoc]
      by_cases hm : m = []
      · subst hm
        rw [show natV [] * 10 + dv c = dv c from by simp [natV], decDigits_small hc9, ofNat_dv c hd.2]
        rfl
      · have hlen : 1 ≤ m.length := by
          rcases m with _ | ⟨a, m⟩
          · exact absurd rfl hm
          · simp
        have hhm : m.head? ≠ some 48 := by
          rcases hh with hh | hh
          · rw [List.length_append, List.length_singleton] at hh
            omega
          · rw [head_app hm] at hh
            exact hh
        have hcm : Canon m := ⟨hm, hd.1, .inr hhm⟩
        have hp : 1 ≤ natV m := by
          by_cases h1 : m.length = 1
          · rcases m with _ | ⟨a, m⟩
            · exact absurd rfl hm
            · have : m = [] := List.eq_nil_of_length_eq_zero (by simpa using h1)
              subst this
              have ha : a ≠ 48 := by simpa using hhm
              have hda := hd.1
              simp only [List.all_cons, List.all_nil, Bool.and_true, isDig, Bool.and_eq_true, decide_eq_true_eq] at hda
              have : a.toNat ≠ 48 := fun e => ha (UInt8.toNat_inj.1 (by rw [e]; rfl))
              rw [natV_cons]
              unfold dv
              simp
              omega
          · exact canon_pos hcm h1
        rw [decDigits_big (by omega), show (natV m * 10 + dv c) / 10 = natV m from by omega, show (natV m * 10 + dv c) % 10 = dv c from by omega, ofNat_dv c hd.2,
          ih m.length (by rw [hn, List.length_append, List.length_singleton]; omega) m hcm rfl]
theorem canon_dec (u : Nat) : Canon (decDigits u) := by
  refine ⟨dec_ne u, digs_dec u, ?_⟩
  induction u using Nat.strongRecOn with
  | _ u ih =>
    by_cases h : u < 10
    · left
      rw [decDigits_small h]
      rfl
    · right
      rw [decDigits_big h, head_app (dec_ne _)]
      rcases ih (u / 10) (by omega) with h1 | h1
      · by_cases h2 : u / 10 < 10
        · rw [decDigits_small h2]
          simp only [List.head?_cons, ne_eq, Option.some.injEq]
          intro e
          have := congrArg UInt8.toNat e
          rw [dig_ofNat _ h2] at this
          have h48 : (48 : UInt8).toNat = 48 := rfl
          omega
        · rw [decDigits_length, nDigits_big h2] at h1
          have := nDigits_pos (u / 10 / 10)
          omega
      · exact h1
theorem strip_canon : ∀ l : List UInt8, l ≠ [] → digsL l = true → Canon (stripL l) ∧ natV (stripL l) = natV l
  | [], h, _ => absurd rfl h
  | [c], _, hd => ⟨⟨by simp [stripL], hd, .inl rfl⟩, rfl⟩
  | c :: d :: r, _, hd => by
    unfold stripL
    have hd' := hd
    simp only [digsL, List.all_cons, Bool.and_eq_true] at hd
    split
    · rename_i h
      have ih := strip_canon (d :: r) (by simp) (by simp [digsL, hd.2])
      refine ⟨ih.1, ?_⟩
      rw [ih.2, natV_cons c (d :: r), h, show dv 48 = 0 from rfl, Nat.zero_mul, Nat.zero_add]
    · rename_i h
      exact ⟨⟨by simp, hd', .inr (by simpa using h)⟩, rfl⟩
theorem strip_dec (l : List UInt8) (h0 : l ≠ []) (hd : digsL l = true) : stripL l = decDigits (natV l) := by
  have := strip_canon l h0 hd
  rw [← this.2, dec_natV _ this.1]

/-- The order of numerals of one length is the order of their bytes. -/
theorem less_same : ∀ a b : List UInt8, a.length = b.length → digsL a = true → digsL b = true → Op.bytesLess a b = decide (natV a < natV b)
  | [], [], _, _, _ => by simp [Op.bytesLess]
  | [], _ :: _, h, _, _ => by simp at h
  | _ :: _, [], h, _, _ => by simp at h
  | x :: a, y :: b, h, ha, hb => by
    have hl : a.length = b.length := by simpa using h
    simp only [digsL, List.all_cons, Bool.and_eq_true] at ha hb
    have ih := less_same a b hl ha.2 hb.2
    have la := natV_lt a ha.2
    have lb := natV_lt b hb.2
    have hx := ha.1
    have hy := hb.1
    simp only [isDig, Bool.and_eq_true, decide_eq_true_eq] at hx hy
    rw [Op.bytesLess, ih, natV_cons, natV_cons, hl]
    rw [hl] at la
    rcases Nat.lt_trichotomy x.toNat y.toNat with hlt | he | hgt
    · have h1 : decide (x < y) = true := by simpa [UInt8.lt_iff_toNat_lt] using hlt
      have h2 : dv x + 1 ≤ dv y := by unfold dv; omega
      have := Nat.mul_le_mul_right (10 ^ b.length) h2
      rw [Nat.add_mul, Nat.one_mul] at this
      rw [h1, Bool.true_or, eq_comm, decide_eq_true_eq]
      omega
    · have e : x = y := UInt8.toNat_inj.1 he
      subst e
      have h1 : decide (x < x) = false := by simp
      rw [h1, Bool.false_or, beq_self_eq_true, Bool.true_and]
      congr 1
      rw [eq_iff_iff]
      omega
    · have h1 : decide (x < y) = false := by simp [UInt8.lt_iff_toNat_lt]; omega
      have h3 : (x == y) = false := by
        rw [beq_eq_false_iff_ne]
        rintro rfl
        omega
      have h2 : dv y + 1 ≤ dv x := by unfold dv; omega
      have := Nat.mul_le_mul_right (10 ^ b.length) h2
      rw [Nat.add_mul, Nat.one_mul] at this
      rw [h1, h3, Bool.false_or, Bool.false_and, eq_comm, decide_eq_false_iff_not]
      omega
theorem nDigits_mono {u v : Nat} (h : u ≤ v) : nDigits u ≤ nDigits v := by
  rcases Nat.lt_or_ge (nDigits v) (nDigits u) with hlt | hge
  · have h1 := lt_pow_nDigits v
    obtain ⟨k, hk⟩ : ∃ k, nDigits u = k + 1 := ⟨nDigits u - 1, by have := nDigits_pos u; omega⟩
    have h2 : 10 ^ k ≤ u ∨ u < 10 ^ k := by omega
    rcases h2 with h2 | h2
    · have := Nat.pow_le_pow_right (n := 10) (by decide) (show nDigits v ≤ k by omega)
      omega
    · rcases k with _ | k
      · have := nDigits_pos v
        omega
      · have hs : ∀ j u, u < 10 ^ (j + 1) → nDigits u ≤ j + 1 := by
          intro j
          induction j with
          | zero => intro u hu; rw [nDigits_small (by simpa using hu)]; exact Nat.le_refl _
          | succ j ih =>
            intro u hu
            by_cases h : u < 10
            · rw [nDigits_small h]; omega
            · rw [nDigits_big h]
              have := ih (u / 10) (by rw [Nat.pow_succ] at hu; omega)
              omega
        have := hs k u h2
        omega
  · exact hge
/-- The order of plain numerals: shorter is less; of one length the bytes decide. -/
theorem less_dec (u v : Nat) : (decide ((decDigits u).length < (decDigits v).length) || (decide ((decDigits u).length = (decDigits v).length) && Op.bytesLess (decDigits u) (decDigits v))) = decide (u < v) := by
  rw [decDigits_length, decDigits_length]
  rcases Nat.lt_trichotomy (nDigits u) (nDigits v) with hlt | he | hgt
  · have : u < v := by
      rcases Nat.lt_or_ge u v with h | h
      · exact h
      · have := nDigits_mono h
        omega
    simp [hlt, this]
  · rw [less_same _ _ (by rw [decDigits_length, decDigits_length]; exact he) (digs_dec u) (digs_dec v), natV_dec, natV_dec]
    simp [he]
  · have : ¬ u < v := fun h => by
      have := nDigits_mono (Nat.le_of_lt h)
      omega
    have h1 : ¬ nDigits u < nDigits v := by omega
    have h2 : ¬ nDigits u = nDigits v := by omega
    simp [h1, h2, this]
theorem dec_inj {u v : Nat} (h : decDigits u = decDigits v) : u = v := by
  have := congrArg natV h
  rwa [natV_dec, natV_dec] at this
theorem dec_head (u : Nat) : (decDigits u).head? ≠ some 45 := by
  have h0 := dec_ne u
  have hd := digs_dec u
  rcases h : decDigits u with _ | ⟨c, r⟩
  · exact absurd h h0
  · rw [h] at hd
    simp only [digsL, List.all_cons, Bool.and_eq_true, isDig, decide_eq_true_eq] at hd
    simp only [List.head?_cons, ne_eq, Option.some.injEq]
    rintro rfl
    have : (45 : UInt8).toNat = 45 := rfl
    omega
theorem itoa_inj {x y : Int} (h : itoa x = itoa y) : x = y := by
  unfold itoa at h
  split at h <;> split at h
  · injection h with _ h
    have := dec_inj h
    omega
  · have := dec_head y.toNat
    rw [← h] at this
    exact absurd rfl this
  · have := dec_head x.toNat
    rw [h] at this
    exact absurd rfl this
  · have := dec_inj h
    omega
theorem itoa_ne (x : Int) : itoa x ≠ [] := by
  unfold itoa
  split
  · simp
  · exact dec_ne _
theorem itoa_valid (x : Int) : validL (itoa x) = true ∧ valL (itoa x) = x := by
  unfold itoa
  split
  · rename_i h
    have h0 : (decDigits x.natAbs).isEmpty = false := by
      have := dec_ne x.natAbs
      cases hd : decDigits x.natAbs with
      | nil => exact absurd hd this
      | cons => rfl
    refine ⟨by simp [validL, h0, digs_dec], ?_⟩
    simp [valL, natV_dec]
    omega
  · rename_i h
    have hh := dec_head x.toNat
    have hd := digs_dec x.toNat
    have hv := natV_dec x.toNat
    rcases e : decDigits x.toNat with _ | ⟨c, r⟩
    · exact absurd e (dec_ne _)
    · rw [e] at hh hd hv
      have hc : c ≠ 45 := by simpa using hh
      refine ⟨by rw [validL, if_neg hc]; exact hd, ?_⟩
      rw [valL, if_neg hc, hv]
      omega
theorem plain_itoa (x : Int) : plainL (itoa x) = itoa x := by
  rw [plainL, if_pos (itoa_valid x).1, (itoa_valid x).2]
theorem key_itoa (x : Int) : keyL (itoa x) = some x := by
  rw [keyL, if_pos (itoa_valid x).1, (itoa_valid x).2]
end Go.Proofs.YtkffgdndglfcfaaGreatDoor
