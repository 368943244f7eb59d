/-
  Plain: decimal texts as lists of bytes: which are valid, what number each is, its plain form, and the order of any two. Nothing here speaks of a program.
  Identifiers of objects, as data: parts, numbers, groups of seven bits. Nothing here speaks of a program.
  Descriptions of attributes, as data: small letters, words, options in order, each once. Nothing here speaks of a program.
  The schema's tables and what is asked of them, as data. Nothing here speaks of a program.
-/
import Derived.Lib.ItoaNum
import GoSem.Op.String
namespace Go.Proofs.YtllmffmmfpecaaaDoor
open Go.Lib

def isDig (c : UInt8) : Bool := decide (48 ≤ c.toNat) && decide (c.toNat ≤ 57)
def dv (c : UInt8) : Nat := c.toNat - 48
def natV (l : List UInt8) : Nat := l.foldl (fun a c => a * 10 + dv c) 0
def digsL (l : List UInt8) : Bool := l.all isDig
def validL (l : List UInt8) : Bool :=
  match l with
  | [] => false
  | c :: r => if c = 45 then !r.isEmpty && digsL r else digsL (c :: r)
def stripL : List UInt8 → List UInt8
  | [] => []
  | [c] => [c]
  | c :: d :: r => if c = 48 then stripL (d :: r) else c :: d :: r
def valL (l : List UInt8) : Int :=
  match l with
  | [] => 0
  | c :: r => if c = 45 then -(natV r : Int) else (natV (c :: r) : Int)
/-- The plain form. -/
def plainL (l : List UInt8) : List UInt8 := if validL l then itoa (valL l) else []
/-- What is compared. -/
def keyL (l : List UInt8) : Option Int := if validL l then some (valL l) else none
def cmpO : Option Int → Option Int → Int
  | none, none => 0
  | none, some _ => -1
  | some _, none => 1
  | some a, some b => if a < b then -1 else if a = b then 0 else 1
def cmpL (a b : List UInt8) : Int := cmpO (keyL a) (keyL b)

theorem natV_foldl (l : List UInt8) : ∀ a : Nat, l.foldl (fun a c => a * 10 + dv c) a = a * 10 ^ l.length + natV l := by
  unfold natV
  induction l with
  | nil => intro a; simp
  | cons c r ih =>
    intro a
    rw [List.foldl_cons, List.foldl_cons, ih (a * 10 + dv c), ih (0 * 10 + dv c), List.length_cons, Nat.pow_succ, Nat.add_mul, Nat.zero_mul, Nat.zero_add, Nat.mul_assoc, Nat.mul_comm 10, ← Nat.add_assoc]
theorem natV_cons (c : UInt8) (r : List UInt8) : natV (c :: r) = dv c * 10 ^ r.length + natV r := by
  rw [natV, List.foldl_cons, natV_foldl, Nat.zero_mul, Nat.zero_add]
theorem natV_snoc (l : List UInt8) (c : UInt8) : natV (l ++ [c]) = natV l * 10 + dv c := by simp [natV]
theorem natV_lt : ∀ l : List UInt8, digsL l = true → natV l < 10 ^ l.length
  | [], _ => by simp [natV]
  | c :: r, h => by
    simp only [digsL, List.all_cons, Bool.and_eq_true, isDig, decide_eq_true_eq] at h
    have := natV_lt r (by simpa [digsL] using h.2)
    rw [natV_cons, List.length_cons, Nat.pow_succ]
    have hd : dv c ≤ 9 := by unfold dv; omega
    have := Nat.mul_le_mul_right (10 ^ r.length) hd
    omega
theorem dig_ofNat (d : Nat) (h : d < 10) : (UInt8.ofNat (48 + d)).toNat = 48 + d := by
  rw [UInt8.toNat_ofNat', Nat.mod_eq_of_lt (by omega)]
theorem dv_ofNat (d : Nat) (h : d < 10) : dv (UInt8.ofNat (48 + d)) = d := by
  unfold dv
  rw [dig_ofNat d h]
  omega
theorem ofNat_dv (c : UInt8) (h : isDig c = true) : UInt8.ofNat (48 + dv c) = c := by
  simp only [isDig, Bool.and_eq_true, decide_eq_true_eq] at h
  apply UInt8.toNat_inj.1
  have : dv c < 10 := by unfold dv; omega
  rw [dig_ofNat _ this]
  unfold dv
  omega
theorem decDigits_small {u : Nat} (h : u < 10) : decDigits u = [UInt8.ofNat (48 + u)] := by rw [decDigits, dif_pos h]
theorem decDigits_big {u : Nat} (h : ¬ u < 10) : decDigits u = decDigits (u / 10) ++ [UInt8.ofNat (48 + u % 10)] := by rw [decDigits, dif_neg h]
theorem natV_dec (u : Nat) : natV (decDigits u) = u := by
  induction u using Nat.strongRecOn with
  | _ u ih =>
    by_cases h : u < 10
    · rw [decDigits_small h, natV_cons, dv_ofNat u h]
      simp [natV]
    · rw [decDigits_big h, natV_snoc, ih (u / 10) (by omega), dv_ofNat _ (by omega)]
      omega
theorem digs_dec (u : Nat) : digsL (decDigits u) = true := by
  induction u using Nat.strongRecOn with
  | _ u ih =>
    by_cases h : u < 10
    · rw [decDigits_small h, digsL, List.all_cons, isDig, dig_ofNat u h]
      simp
      omega
    · rw [decDigits_big h]
      have := ih (u / 10) (by omega)
      simp only [digsL, List.all_append, Bool.and_eq_true] at this ⊢
      refine ⟨this, ?_⟩
      rw [List.all_cons, isDig, dig_ofNat (u % 10) (by omega)]
      simp
      omega
theorem dec_ne (u : Nat) : decDigits u ≠ [] := by
  intro h
  have := decDigits_length u
  rw [h] at this
  have h1 := nDigits_pos u
  simp at this
  omega
theorem head_app {m : List UInt8} (h : m ≠ []) (x : List UInt8) : (m ++ x).head? = m.head? := by
  cases m with
  | nil => exact absurd rfl h
  | cons => rfl
/-- A numeral has no superfluous zero ahead. -/
def Canon (l : List UInt8) : Prop := l ≠ [] ∧ digsL l = true ∧ (l.length = 1 ∨ l.head? ≠ some 48)
theorem canon_pos {l : List UInt8} (h : Canon l) (h1 : l.length ≠ 1) : 1 ≤ natV l := by
  obtain ⟨h0, hd, hh⟩ := h
  rcases l with _ | ⟨c, r⟩
  · exact absurd rfl h0
  · have hc : c ≠ 48 := by
      rcases hh with hh | hh
      · exact absurd hh h1
      · simpa using hh
    simp only [digsL, List.all_cons, Bool.and_eq_true, isDig, decide_eq_true_eq] at hd
    rw [natV_cons]
    have : 1 ≤ dv c := by
      unfold dv
      have : c.toNat ≠ 48 := fun e => hc (UInt8.toNat_inj.1 (by rw [e]; rfl))
      omega
    have := Nat.mul_le_mul this (Nat.one_le_pow r.length 10 (by decide))
    omega
theorem dec_natV (l : List UInt8) (h : Canon l) : decDigits (natV l) = l := by
  obtain ⟨n, hn⟩ : ∃ n, n = l.length := ⟨_, rfl⟩
  induction n using Nat.strongRecOn generalizing l with
  | _ n ih =>
    obtain ⟨h0, hd, hh⟩ := h
    rcases List.eq_nil_or_concat l with e | ⟨m, c, e⟩
    · exact absurd e h0
    · rw [List.concat_eq_append] at e
      subst e
      simp only [digsL, List.all_append, List.all_cons, List.all_nil, Bool.and_true, Bool.and_eq_true] at hd
      have hc9 : dv c < 10 := by
        have := hd.2
        simp only [isDig, Bool.and_eq_true, decide_eq_true_eq] at this
        unfold dv
        omega
      rw [natV_snoc]
      by_cases hm : m = []
      · subst hm
        rw [show natV [] * 10 + dv c = dv c from by simp [natV], decDigits_small hc9, ofNat_dv c hd.2]
        rfl
      · have hlen : 1 ≤ m.length := by
          rcases m with _ | ⟨a, m⟩
          · exact absurd rfl hm
          · simp
        have hhm : m.head? ≠ some 48 := by
          rcases hh with hh | hh
          · rw [List.length_append, List.length_singleton] at hh
            omega
          · rw [head_app hm] at hh
            exact hh
        have hcm : Canon m := ⟨hm, hd.1, .inr hhm⟩
        have hp : 1 ≤ natV m := by
          by_cases h1 : m.length = 1
          · rcases m with _ | ⟨a, m⟩
            · exact absurd rfl hm
            · have : m = [] := List.eq_nil_of_length_eq_zero (by simpa using h1)
              subst this
              have ha : a ≠ 48 := by simpa using hhm
              have hda := hd.1
              simp only [List.all_cons, List.all_nil, Bool.and_true, isDig, Bool.and_eq_true, decide_eq_true_eq] at hda
              have : a.toNat ≠ 48 := fun e => ha (UInt8.toNat_inj.1 (by rw [e]; rfl))
              rw [natV_cons]
              unfold dv
              simp
              omega
          · exact canon_pos hcm h1
        rw [decDigits_big (by omega), show (natV m * 10 + dv c) / 10 = natV m from by omega, show (natV m * 10 + dv c) % 10 = dv c from by omega, ofNat_dv c hd.2,
          ih m.length (by rw [hn, List.length_append, List.length_singleton]; omega) m hcm rfl]
theorem canon_dec (u : Nat) : Canon (decDigits u) := by
  refine ⟨dec_ne u, digs_dec u, ?_⟩
  induction u using Nat.strongRecOn with
  | _ u ih =>
    by_cases h : u < 10
    · left
      rw [decDigits_small h]
      rfl
    · right
      rw [decDigits_big h, head_app (dec_ne _)]
      rcases ih (u / 10) (by omega) with h1 | h1
      · by_cases h2 : u / 10 < 10
        · rw [decDigits_small h2]
          simp only [List.head?_cons, ne_eq, Option.some.injEq]
          intro e
          have := congrArg UInt8.toNat e
          rw [dig_ofNat _ h2] at this
          have h48 : (48 : UInt8).toNat = 48 := rfl
          omega
        · rw [decDigits_length, nDigits_big h2] at h1
          have := nDigits_pos (u / 10 / 10)
          omega
      · exact h1
theorem strip_canon : ∀ l : List UInt8, l ≠ [] → digsL l = true → Canon (stripL l) ∧ natV (stripL l) = natV l
  | [], h, _ => absurd rfl h
  | [c], _, hd => ⟨⟨by simp [stripL], hd, .inl rfl⟩, rfl⟩
  | c :: d :: r, _, hd => by
    unfold stripL
    have hd' := hd
    simp only [digsL, List.all_cons, Bool.and_eq_true] at hd
    split
    · rename_i h
      have ih := strip_canon (d :: r) (by simp) (by simp [digsL, hd.2])
      refine ⟨ih.1, ?_⟩
      rw [ih.2, natV_cons c (d :: r), h, show dv 48 = 0 from rfl, Nat.zero_mul, Nat.zero_add]
    · rename_i h
      exact ⟨⟨by simp, hd', .inr (by simpa using h)⟩, rfl⟩
theorem strip_dec (l : List UInt8) (h0 : l ≠ []) (hd : digsL l = true) : stripL l = decDigits (natV l) := by
  have := strip_canon l h0 hd
  rw [← this.2, dec_natV _ this.1]

/-- The order of numerals of one length is the order of their bytes. -/
theorem less_same : ∀ a b : List UInt8, a.length = b.length → digsL a = true → digsL b = true → Op.bytesLess a b = decide (natV a < natV b)
  | [], [], _, _, _ => by simp [Op.bytesLess]
  | [], _ :: _, h, _, _ => by simp at h
  | _ :: _, [], h, _, _ => by simp at h
  | x :: a, y :: b, h, ha, hb => by
    have hl : a.length = b.length := by simpa using h
    simp only [digsL, List.all_cons, Bool.and_eq_true] at ha hb
    have ih := less_same a b hl ha.2 hb.2
    have la := natV_lt a ha.2
    have lb := natV_lt b hb.2
    have hx := ha.1
    have hy := hb.1
    simp only [isDig, Bool.and_eq_true, decide_eq_true_eq] at hx hy
    rw [Op.bytesLess, ih, natV_cons, natV_cons, hl]
    rw [hl] at la
    rcases Nat.lt_trichotomy x.toNat y.toNat with hlt | he | hgt
    · have h1 : decide (x < y) = true := by simpa [UInt8.lt_iff_toNat_lt] using hlt
      have h2 : dv x + 1 ≤ dv y := by unfold dv; omega
      have := Nat.mul_le_mul_right (10 ^ b.length) h2
      rw [Nat.add_mul, Nat.one_mul] at this
      rw [h1, Bool.true_or, eq_comm, decide_eq_true_eq]
      omega
    · have e : x = y := UInt8.toNat_inj.1 he
      subst e
      have h1 : decide (x < x) = false := by simp
      rw [h1, Bool.false_or, beq_self_eq_true, Bool.true_and]
      congr 1
      rw [eq_iff_iff]
      omega
    · have h1 : decide (x < y) = false := by simp [UInt8.lt_iff_toNat_lt]; omega
      have h3 : (x == y) = false := by
        rw [beq_eq_false_iff_ne]
        rintro rfl
        omega
      have h2 : dv y + 1 ≤ dv x := by unfold dv; omega
      have := Nat.mul_le_mul_right (10 ^ b.length) h2
      rw [Nat.add_mul, Nat.one_mul] at this
      rw [h1, h3, Bool.false_or, Bool.false_and, eq_comm, decide_eq_false_iff_not]
      omega
theorem nDigits_mono {u v : Nat} (h : u ≤ v) : nDigits u ≤ nDigits v := by
  rcases Nat.lt_or_ge (nDigits v) (nDigits u) with hlt | hge
  · have h1 := lt_pow_nDigits v
    obtain ⟨k, hk⟩ : ∃ k, nDigits u = k + 1 := ⟨nDigits u - 1, by have := nDigits_pos u; omega⟩
    have h2 : 10 ^ k ≤ u ∨ u < 10 ^ k := by omega
    rcases h2 with h2 | h2
    · have := Nat.pow_le_pow_right (n := 10) (by decide) (show nDigits v ≤ k by omega)
      omega
    · rcases k with _ | k
      · have := nDigits_pos v
        omega
      · have hs : ∀ j u, u < 10 ^ (j + 1) → nDigits u ≤ j + 1 := by
          intro j
          induction j with
          | zero => intro u hu; rw [nDigits_small (by simpa using hu)]; exact Nat.le_refl _
          | succ j ih =>
            intro u hu
            by_cases h : u < 10
            · rw [nDigits_small h]; omega
            · rw [nDigits_big h]
              have := ih (u / 10) (by rw [Nat.pow_succ] at hu; omega)
              omega
        have := hs k u h2
        omega
  · exact hge
/-- The order of plain numerals: shorter is less; of one length the bytes decide. -/
theorem less_dec (u v : Nat) : (decide ((decDigits u).length < (decDigits v).length) || (decide ((decDigits u).length = (decDigits v).length) && Op.bytesLess (decDigits u) (decDigits v))) = decide (u < v) := by
  rw [decDigits_length, decDigits_length]
  rcases Nat.lt_trichotomy (nDigits u) (nDigits v) with hlt | he | hgt
  · have : u < v := by
      rcases Nat.lt_or_ge u v with h | h
      · exact h
      · have := nDigits_mono h
        omega
    simp [hlt, this]
  · rw [less_same _ _ (by rw [decDigits_length, decDigits_length]; exact he) (digs_dec u) (digs_dec v), natV_dec, natV_dec]
    simp [he]
  · have : ¬ u < v := fun h => by
      have := nDigits_mono (Nat.le_of_lt h)
      omega
    have h1 : ¬ nDigits u < nDigits v := by omega
    have h2 : ¬ nDigits u = nDigits v := by omega
    simp [h1, h2, this]
theorem dec_inj {u v : Nat} (h : decDigits u = decDigits v) : u = v := by
  have := congrArg natV h
  rwa [natV_dec, natV_dec] at this
theorem dec_head (u : Nat) : (decDigits u).head? ≠ some 45 := by
  have h0 := dec_ne u
  have hd := digs_dec u
  rcases h : decDigits u with _ | ⟨c, r⟩
  · exact absurd h h0
  · rw [h] at hd
    simp only [digsL, List.all_cons, Bool.and_eq_true, isDig, decide_eq_true_eq] at hd
    simp only [List.head?_cons, ne_eq, Option.some.injEq]
    rintro rfl
    have : (45 : UInt8).toNat = 45 := rfl
    omega
theorem itoa_inj {x y : Int} (h : itoa x = itoa y) : x = y := by
  unfold itoa at h
  split at h <;> split at h
  · injection h with _ h
    have := dec_inj h
    omega
  · have := dec_head y.toNat
    rw [← h] at this
    exact absurd rfl this
  · have := dec_head x.toNat
    rw [h] at this
    exact absurd rfl this
  · have := dec_inj h
    omega
theorem itoa_ne (x : Int) : itoa x ≠ [] := by
  unfold itoa
  split
  · simp
  · exact dec_ne _
theorem itoa_valid (x : Int) : validL (itoa x) = true ∧ valL (itoa x) = x := by
  unfold itoa
  split
  · rename_i h
    have h0 : (decDigits x.natAbs).isEmpty = false := by
      have := dec_ne x.natAbs
      cases hd : decDigits x.natAbs with
      | nil => exact absurd hd this
      | cons => rfl
    refine ⟨by simp [validL, h0, digs_dec], ?_⟩
    simp [valL, natV_dec]
    omega
  · rename_i h
    have hh := dec_head x.toNat
    have hd := digs_dec x.toNat
    have hv := natV_dec x.toNat
    rcases e : decDigits x.toNat with _ | ⟨c, r⟩
    · exact absurd e (dec_ne _)
    · rw [e] at hh hd hv
      have hc : c ≠ 45 := by simpa using hh
      refine ⟨by rw [validL, if_neg hc]; exact hd, ?_⟩
      rw [valL, if_neg hc, hv]
      omega
theorem plain_itoa (x : Int) : plainL (itoa x) = itoa x := by
  rw [plainL, if_pos (itoa_valid x).1, (itoa_valid x).2]
theorem key_itoa (x : Int) : keyL (itoa x) = some x := by
  rw [keyL, if_pos (itoa_valid x).1, (itoa_valid x).2]
end Go.Proofs.YtllmffmmfpecaaaDoor
namespace Go.Proofs.YtllmffmmfpecaaaDoor
open Go.Lib

/-- What stands between the signs b. -/
def sp (b : UInt8) : List UInt8 → List (List UInt8)
  | [] => [[]]
  | x :: l => if x = b then [] :: sp b l else (x :: (sp b l).headD []) :: (sp b l).tail
def jn (b : UInt8) : List (List UInt8) → List UInt8
  | [] => []
  | p :: ps => p ++ ps.flatMap fun q => b :: q
theorem sp_ne (b : UInt8) : ∀ l, sp b l ≠ []
  | [] => by simp [sp]
  | x :: l => by unfold sp; split <;> simp
theorem headD_tail {α : Type} {l : List α} (h : l ≠ []) (d : α) : l.headD d :: l.tail = l := by
  cases l with
  | nil => exact absurd rfl h
  | cons a l => rfl
theorem jn_sp (b : UInt8) : ∀ l, jn b (sp b l) = l
  | [] => rfl
  | x :: l => by
    have ih := jn_sp b l
    have hne := sp_ne b l
    unfold sp
    split
    · rename_i h
      subst h
      cases hs : sp x l with
      | nil => exact absurd hs hne
      | cons p ps =>
        rw [hs] at ih
        simp only [jn, List.nil_append, List.flatMap_cons] at ih ⊢
        rw [List.cons_append, ih]
    · cases hs : sp b l with
      | nil => exact absurd hs hne
      | cons p ps =>
        rw [hs] at ih
        simp only [jn, List.headD_cons, List.tail_cons] at ih ⊢
        rw [List.cons_append, ih]
theorem sp_free (b : UInt8) : ∀ l, ∀ p ∈ sp b l, b ∉ p
  | [] => by simp [sp]
  | x :: l => by
    have ih := sp_free b l
    unfold sp
    split
    · intro p hp
      rcases List.mem_cons.1 hp with rfl | hp
      · simp
      · exact ih p hp
    · rename_i hx
      intro p hp
      rcases List.mem_cons.1 hp with rfl | hp
      · intro h
        rcases List.mem_cons.1 h with h | h
        · exact hx h.symm
        · cases hs : sp b l with
          | nil => rw [hs] at h; simp at h
          | cons q qs =>
            rw [hs] at h
            exact ih q (by rw [hs]; exact List.mem_cons_self) h
      · exact ih p (List.mem_of_mem_tail hp)
theorem sp_part (b : UInt8) : ∀ p : List UInt8, b ∉ p → sp b p = [p]
  | [], _ => rfl
  | x :: p, h => by
    have hx : x ≠ b := fun e => h (by rw [e]; exact List.mem_cons_self)
    unfold sp
    rw [if_neg hx, sp_part b p (fun e => h (List.mem_cons_of_mem _ e))]
    rfl
theorem sp_cons (b : UInt8) : ∀ p l : List UInt8, b ∉ p → sp b (p ++ b :: l) = p :: sp b l
  | [], l, _ => by
    show sp b (b :: l) = _
    rw [sp, if_pos rfl]
  | x :: p, l, h => by
    have hx : x ≠ b := fun e => h (by rw [e]; exact List.mem_cons_self)
    rw [List.cons_append, sp, if_neg hx, sp_cons b p l (fun e => h (List.mem_cons_of_mem _ e))]
    rfl
theorem sp_jn (b : UInt8) : ∀ ps : List (List UInt8), ps ≠ [] → (∀ p ∈ ps, b ∉ p) → sp b (jn b ps) = ps
  | [], h, _ => absurd rfl h
  | [p], _, h => by
    show sp b (p ++ []) = [p]
    rw [List.append_nil]
    exact sp_part b p (h p List.mem_cons_self)
  | p :: q :: ps, _, h => by
    show sp b (p ++ (b :: q ++ ps.flatMap fun q => b :: q)) = _
    rw [List.cons_append, sp_cons b p _ (h p List.mem_cons_self)]
    have := sp_jn b (q :: ps) (by simp) (fun p hp => h p (List.mem_cons_of_mem _ hp))
    rw [show q ++ (ps.flatMap fun q => b :: q) = jn b (q :: ps) from rfl, this]
/-- One letter more: as a loop goes on. -/
theorem sp_snoc (b : UInt8) (x : UInt8) : ∀ l, sp b (l ++ [x]) = if x = b then sp b l ++ [[]] else (sp b l).dropLast ++ [(sp b l).getLastD [] ++ [x]]
  | [] => by
    rw [List.nil_append, sp, sp]
    split <;> rfl
  | y :: l => by
    have ih := sp_snoc b x l
    have hne := sp_ne b l
    rw [List.cons_append, sp, sp, ih]
    cases hs : sp b l with
    | nil => exact absurd hs hne
    | cons p ps =>
      by_cases hx : x = b
      · rw [if_pos hx, if_pos hx]
        by_cases hy : y = b
        · rw [if_pos hy, if_pos hy]
          rfl
        · rw [if_neg hy, if_neg hy]
          rfl
      · rw [if_neg hx, if_neg hx]
        by_cases hy : y = b
        · rw [if_pos hy, if_pos hy]
          cases ps <;> rfl
        · rw [if_neg hy, if_neg hy]
          cases ps <;> rfl

/-- A part's number. -/
def canonB (l : List UInt8) : Bool := !l.isEmpty && digsL l && (l.length == 1 || l.head? != some 48)
theorem canonB_iff (l : List UInt8) : canonB l = true ↔ Canon l := by
  unfold canonB Canon
  simp [and_assoc]
def arcV (l : List UInt8) : Option Nat := if canonB l && l.length ≤ 10 then some (natV l) else none
theorem arcV_some {l : List UInt8} {n : Nat} (h : arcV l = some n) : decDigits n = l ∧ l.length ≤ 10 ∧ n < 10000000000 := by
  unfold arcV at h
  split at h
  · rename_i h1
    rw [Bool.and_eq_true, canonB_iff, decide_eq_true_eq] at h1
    injection h with h
    subst h
    refine ⟨dec_natV l h1.1, h1.2, ?_⟩
    have := natV_lt l h1.1.2.1
    have h2 : 10 ^ l.length ≤ 10 ^ 10 := Nat.pow_le_pow_right (by omega) h1.2
    omega
  · cases h
theorem dot_free (l : List UInt8) (h : digsL l = true) : (46 : UInt8) ∉ l := by
  intro hm
  have := List.all_eq_true.1 h 46 hm
  exact absurd this (by decide)
def okA : List Nat → Bool
  | a :: b :: r => (a ≤ 2 && (2 ≤ a || b ≤ 39)) && r.length ≤ 14
  | _ => false
def arcsO (l : List UInt8) : Option (List Nat) := if l.length ≤ 200 then ((sp 46 l).mapM arcV).filter okA else none
theorem mapM_get {α β : Type} (f : α → Option β) : ∀ (l : List α) (r : List β), l.mapM f = some r → l.length = r.length ∧ ∀ i (h : i < l.length) (h2 : i < r.length), f l[i] = some r[i]
  | [], r, h => by
    simp at h
    subst h
    exact ⟨rfl, fun i h => absurd h (by simp)⟩
  | a :: l, r, h => by
    rw [List.mapM_cons] at h
    cases ha : f a with
    | none => rw [ha] at h; cases h
    | some b =>
      rw [ha] at h
      cases hl : l.mapM f with
      | none => rw [hl] at h; cases h
      | some q =>
        rw [hl] at h
        injection h with h
        subst h
        obtain ⟨h1, h2⟩ := mapM_get f l q hl
        refine ⟨by simp [h1], fun i hi hi2 => ?_⟩
        cases i with
        | zero => exact ha
        | succ i => exact h2 i (by simpa using hi) (by simpa using hi2)
/-- The text of numbers. -/
def txA (L : List Nat) : List UInt8 := jn 46 (L.map decDigits)
theorem arcsO_some {l : List UInt8} {L : List Nat} (h : arcsO l = some L) : txA L = l ∧ okA L = true ∧ (∀ n ∈ L, n < 10000000000) ∧ l.length ≤ 200 := by
  unfold arcsO at h
  split at h
  · rename_i h200
    rw [Option.filter_eq_some_iff] at h
    obtain ⟨h1, h2⟩ := h
    obtain ⟨h3, h4⟩ := mapM_get arcV _ _ h1
    refine ⟨?_, h2, fun n hn => ?_, h200⟩
    · have e : L.map decDigits = sp 46 l := by
        refine List.ext_getElem (by rw [List.length_map, h3]) fun i h5 h6 => ?_
        rw [List.getElem_map]
        exact (arcV_some (h4 i h6 (by simpa using h5))).1
      unfold txA
      rw [e, jn_sp]
    · obtain ⟨i, hi, rfl⟩ := List.getElem_of_mem hn
      exact (arcV_some (h4 i (by omega) hi)).2.2
  · cases h
theorem dec_len {n : Nat} (h : n < 10000000000) : (decDigits n).length ≤ 10 := by
  have hc := canon_dec n
  have h2 := natV_dec n
  rcases Nat.lt_or_ge 10 (decDigits n).length with h3 | h3
  · exfalso
    have h4 := canon_pos hc (by omega)
    cases hd : decDigits n with
    | nil => rw [hd] at h3; simp at h3
    | cons c r =>
      rw [hd] at hc h2 h3
      have h5 : dv c ≠ 0 := by
        intro e
        have h6 := hc.2.2
        rcases h6 with h6 | h6
        · omega
        · refine h6 ?_
          have h7 : isDig c = true := by
            have := hc.2.1
            unfold digsL at this
            rw [List.all_cons, Bool.and_eq_true] at this
            exact this.1
          have h8 := ofNat_dv c h7
          rw [e] at h8
          rw [List.head?_cons, ← h8]
          rfl
      rw [natV_cons] at h2
      have h9 : 10 ^ 10 ≤ 10 ^ r.length := Nat.pow_le_pow_right (by omega) (by simp at h3; omega)
      have h10 : 1 * 10 ^ r.length ≤ dv c * 10 ^ r.length := Nat.mul_le_mul_right _ (by omega)
      omega
  · exact h3
theorem arcV_dec {n : Nat} (h : n < 10000000000) : arcV (decDigits n) = some n := by
  unfold arcV
  rw [if_pos, natV_dec]
  rw [Bool.and_eq_true, canonB_iff, decide_eq_true_eq]
  exact ⟨canon_dec n, dec_len h⟩
theorem mapM_dec : ∀ L : List Nat, (∀ n ∈ L, n < 10000000000) → (L.map decDigits).mapM arcV = some L
  | [], _ => rfl
  | n :: L, h => by
    rw [List.map_cons, List.mapM_cons, arcV_dec (h n List.mem_cons_self), mapM_dec L (fun m hm => h m (List.mem_cons_of_mem _ hm))]
    rfl
theorem txA_len : ∀ L : List Nat, (∀ n ∈ L, n < 10000000000) → (txA L).length + 1 ≤ L.length * 11 + 1
  | [], _ => by simp [txA, jn]
  | n :: L, h => by
    have h1 := dec_len (h n List.mem_cons_self)
    have h2 : ∀ M : List Nat, (∀ n ∈ M, n < 10000000000) → ((M.map decDigits).flatMap fun q => (46 : UInt8) :: q).length ≤ M.length * 11 := by
      intro M
      induction M with
      | nil => exact fun _ => Nat.le_refl _
      | cons m M ih =>
        intro hM
        have := ih (fun n hn => hM n (List.mem_cons_of_mem _ hn))
        have h3 := dec_len (hM m List.mem_cons_self)
        simp only [List.map_cons, List.flatMap_cons, List.length_append, List.length_cons]
        omega
    have h4 := h2 L (fun m hm => h m (List.mem_cons_of_mem _ hm))
    unfold txA jn
    simp only [List.map_cons, List.length_append, List.length_cons]
    omega
theorem okA_len {L : List Nat} (h : okA L = true) : 2 ≤ L.length ∧ L.length ≤ 16 := by
  match L, h with
  | a :: b :: r, h =>
    simp only [okA, Bool.and_eq_true, decide_eq_true_eq] at h
    simp only [List.length_cons]
    omega
/-- The text of valid numbers is an identifier: theirs. -/
theorem arcsO_txA {L : List Nat} (h : okA L = true) (hn : ∀ n ∈ L, n < 10000000000) : arcsO (txA L) = some L := by
  have hl := okA_len h
  have h1 := txA_len L hn
  unfold arcsO
  rw [if_pos (by omega)]
  unfold txA
  rw [sp_jn 46 _ (by intro e; rw [List.map_eq_nil_iff] at e; rw [e] at hl; simp at hl) (fun p hp => by
    obtain ⟨n, _, rfl⟩ := List.mem_map.1 hp
    exact dot_free _ (digs_dec n)), mapM_dec L hn]
  simp [h]

/-- A number in groups of seven bits, all marked; and with the last one unmarked. -/
def svHi (n : Nat) : List Nat := if h : n < 128 then [n + 128] else svHi (n / 128) ++ [n % 128 + 128]
termination_by n
decreasing_by omega
def sv (n : Nat) : List Nat := if n < 128 then [n] else svHi (n / 128) ++ [n % 128]
/-- The numbers that bytes tell, one after the other; what is left of one at the end is dropped. -/
def rdS : Nat → List Nat → List Nat
  | _, [] => []
  | m, x :: l => if 127 < x then rdS (m * 128 + x % 128) l else (m * 128 + x) :: rdS 0 l
theorem rdS_hi (n : Nat) : ∀ r, 0 < n → rdS 0 (svHi n ++ r) = rdS n r := by
  induction n using Nat.strongRecOn with
  | ind n ih =>
    intro r h
    rw [svHi]
    split
    · rw [List.cons_append, rdS, if_pos (by omega)]
      have : 0 * 128 + (n + 128) % 128 = n := by omega
      rw [this]
      rfl
    · rename_i h1
      rw [List.append_assoc, ih (n / 128) (by omega) _ (by omega), List.cons_append, rdS, if_pos (by omega)]
      have : n / 128 * 128 + (n % 128 + 128) % 128 = n := by omega
      rw [this]
      rfl
theorem rdS_sv (n : Nat) (r : List Nat) : rdS 0 (sv n ++ r) = n :: rdS 0 r := by
  unfold sv
  split
  · rw [List.cons_append, rdS, if_neg (by omega), Nat.zero_mul, Nat.zero_add]
    rfl
  · rename_i h
    rw [List.append_assoc, rdS_hi (n / 128) _ (by omega), List.cons_append, rdS, if_neg (by omega)]
    have : n / 128 * 128 + n % 128 = n := by omega
    rw [this]
    rfl
/-- The numbers that are put. -/
def foldA : List Nat → List Nat
  | a :: b :: r => (a * 40 + b) :: r
  | _ => []
def unfoldA : List Nat → List Nat
  | c :: r => min (c / 40) 2 :: (c - 40 * min (c / 40) 2) :: r
  | [] => []
theorem unfold_fold {L : List Nat} (h : okA L = true) : unfoldA (foldA L) = L := by
  match L, h with
  | a :: b :: r, h =>
    simp only [okA, Bool.and_eq_true, Bool.or_eq_true, decide_eq_true_eq] at h
    have e : min ((a * 40 + b) / 40) 2 = a := by omega
    simp only [foldA, unfoldA, e]
    congr 2
    omega
def putA (L : List Nat) : List Nat := (foldA L).flatMap sv
theorem rdS_all : ∀ M : List Nat, rdS 0 (M.flatMap sv) = M
  | [] => rfl
  | n :: M => by rw [List.flatMap_cons, rdS_sv, rdS_all M]
theorem read_put {L : List Nat} (h : okA L = true) : unfoldA (rdS 0 (putA L)) = L := by
  unfold putA
  rw [rdS_all, unfold_fold h]
theorem putA_inj {L M : List Nat} (h1 : okA L = true) (h2 : okA M = true) (h : putA L = putA M) : L = M := by
  rw [← read_put h1, h, read_put h2]
end Go.Proofs.YtllmffmmfpecaaaDoor
namespace Go.Proofs.YtllmffmmfpecaaaDoor
open Go.Lib

theorem bl_irrefl : ∀ x : List UInt8, Op.bytesLess x x = false
  | [] => rfl
  | a :: x => by
    unfold Op.bytesLess
    rw [bl_irrefl x]
    simp
theorem bl_trans : ∀ x y z : List UInt8, Op.bytesLess x y = true → Op.bytesLess y z = true → Op.bytesLess x z = true
  | _, [], _, h, _ => by unfold Op.bytesLess at h; cases h
  | _, _ :: _, [], _, h => by unfold Op.bytesLess at h; cases h
  | [], _ :: _, _ :: _, _, _ => rfl
  | a :: x, b :: y, c :: z, h1, h2 => by
    unfold Op.bytesLess at h1 h2 ⊢
    have ih := bl_trans x y z
    simp only [Bool.or_eq_true, Bool.and_eq_true, decide_eq_true_eq, beq_iff_eq, UInt8.lt_iff_toNat_lt, ← UInt8.toNat_inj] at h1 h2 ⊢
    rcases h1 with h1 | h1 <;> rcases h2 with h2 | h2
    · exact .inl (by omega)
    · exact .inl (by omega)
    · exact .inl (by omega)
    · exact .inr ⟨by omega, ih h1.2 h2.2⟩
theorem bl_total : ∀ x y : List UInt8, Op.bytesLess x y = false → x ≠ y → Op.bytesLess y x = true
  | [], [], _, h => absurd rfl h
  | [], _ :: _, h, _ => by unfold Op.bytesLess at h; cases h
  | _ :: _, [], _, _ => rfl
  | a :: x, b :: y, h1, h2 => by
    have ih := bl_total x y
    unfold Op.bytesLess at h1 ⊢
    simp only [Bool.or_eq_false_iff, Bool.and_eq_false_iff, decide_eq_false_iff_not, beq_eq_false_iff_ne, ne_eq, Bool.or_eq_true, Bool.and_eq_true, decide_eq_true_eq, beq_iff_eq, UInt8.lt_iff_toNat_lt, ← UInt8.toNat_inj] at h1 ⊢
    by_cases h : a.toNat = b.toNat
    · rcases h1.2 with h3 | h3
      · exact absurd h h3
      · refine .inr ⟨h.symm, ih h3 (fun e => h2 ?_)⟩
        rw [e, UInt8.toNat_inj.1 h]
    · exact .inl (by omega)

def low (c : UInt8) : UInt8 := if decide (65 ≤ c.toNat) && decide (c.toNat ≤ 90) then UInt8.ofNat (c.toNat + 32) else c
def lowL (l : List UInt8) : List UInt8 := l.map low
theorem low_low (c : UInt8) : low (low c) = low c := by
  have h : ∀ n, n < 256 → low (low (UInt8.ofNat n)) = low (UInt8.ofNat n) := by decide +kernel
  have := h c.toNat c.toNat_lt
  rwa [UInt8.ofNat_toNat] at this
theorem lowL_low (l : List UInt8) : lowL (lowL l) = lowL l := by
  unfold lowL
  rw [List.map_map]
  exact List.map_congr_left fun c _ => low_low c
def letterB (c : UInt8) : Bool := (decide (97 ≤ c.toNat) && decide (c.toNat ≤ 122)) || (decide (65 ≤ c.toNat) && decide (c.toNat ≤ 90))
def signB (c : UInt8) : Bool := letterB c || (decide (48 ≤ c.toNat) && decide (c.toNat ≤ 57)) || c == 45
def signsB (l : List UInt8) : Bool := l.all signB && decide (0 < l.length)
def wordB (l : List UInt8) : Bool := decide (1 ≤ l.length) && decide (l.length ≤ 64) && letterB (l.headD 0) && signsB l
/-- An option at its place, if it is not there. -/
def ins (x : List UInt8) : List (List UInt8) → List (List UInt8)
  | [] => [x]
  | y :: r => if Op.bytesLess y x then y :: ins x r else if y = x then y :: r else x :: y :: r
def opts (L : List (List UInt8)) : List (List UInt8) := L.foldl (fun O x => ins x O) []
def descO (l : List UInt8) : Option (List UInt8 × List (List UInt8)) :=
  if 64 < l.length then none
  else if ((arcsO ((sp 59 (lowL l)).headD [])).isSome || wordB ((sp 59 (lowL l)).headD [])) && (sp 59 (lowL l)).tail.all signsB then some ((sp 59 (lowL l)).headD [], opts (sp 59 (lowL l)).tail)
  else none

/-- In order, each once. -/
def Asc : List (List UInt8) → Prop
  | [] => True
  | x :: r => (∀ y ∈ r, Op.bytesLess x y = true) ∧ Asc r
theorem ins_mem (x : List UInt8) : ∀ (L : List (List UInt8)) (y : List UInt8), y ∈ ins x L → y = x ∨ y ∈ L
  | [], y, h => by simpa [ins] using h
  | z :: r, y, h => by
    unfold ins at h
    split at h
    · rcases List.mem_cons.1 h with rfl | h
      · exact .inr List.mem_cons_self
      · rcases ins_mem x r y h with h | h
        · exact .inl h
        · exact .inr (List.mem_cons_of_mem _ h)
    · split at h
      · exact .inr h
      · rcases List.mem_cons.1 h with rfl | h
        · exact .inl rfl
        · exact .inr h
theorem ins_asc (x : List UInt8) : ∀ L, Asc L → Asc (ins x L)
  | [], _ => ⟨fun y h => by simp at h, trivial⟩
  | y :: r, h => by
    unfold ins
    split
    · rename_i h1
      refine ⟨fun z hz => ?_, ins_asc x r h.2⟩
      rcases ins_mem x r z hz with rfl | hz
      · exact h1
      · exact h.1 z hz
    · rename_i h1
      split
      · exact h
      · rename_i h2
        have h3 := bl_total y x (by simpa using h1) h2
        refine ⟨fun z hz => ?_, h⟩
        rcases List.mem_cons.1 hz with rfl | hz
        · exact h3
        · exact bl_trans x y z h3 (h.1 z hz)
theorem foldl_asc : ∀ (L O : List (List UInt8)), Asc O → Asc (L.foldl (fun O x => ins x O) O)
  | [], _, h => h
  | x :: L, O, h => foldl_asc L (ins x O) (ins_asc x O h)
theorem opts_asc (L : List (List UInt8)) : Asc (opts L) := foldl_asc L [] trivial
theorem foldl_mem : ∀ (L O : List (List UInt8)) (y : List UInt8), y ∈ L.foldl (fun O x => ins x O) O → y ∈ L ∨ y ∈ O
  | [], _, _, h => .inr h
  | x :: L, O, y, h => by
    rcases foldl_mem L (ins x O) y h with h | h
    · exact .inl (List.mem_cons_of_mem _ h)
    · rcases ins_mem x O y h with rfl | h
      · exact .inl List.mem_cons_self
      · exact .inr h
theorem opts_mem {L : List (List UInt8)} {y : List UInt8} (h : y ∈ opts L) : y ∈ L := by
  rcases foldl_mem L [] y h with h | h
  · exact h
  · simp at h
/-- Above all that are there, it comes last. -/
theorem ins_end (x : List UInt8) : ∀ O : List (List UInt8), (∀ y ∈ O, Op.bytesLess y x = true) → ins x O = O ++ [x]
  | [], _ => rfl
  | y :: r, h => by
    unfold ins
    rw [if_pos (h y List.mem_cons_self), ins_end x r (fun z hz => h z (List.mem_cons_of_mem _ hz))]
    rfl
theorem foldl_self : ∀ (L O : List (List UInt8)), Asc L → (∀ y ∈ O, ∀ x ∈ L, Op.bytesLess y x = true) → L.foldl (fun O x => ins x O) O = O ++ L
  | [], O, _, _ => by simp
  | x :: L, O, h, ho => by
    rw [List.foldl_cons, ins_end x O (fun y hy => ho y hy x List.mem_cons_self), foldl_self L (O ++ [x]) h.2 (fun y hy z hz => ?_)]
    · simp
    · rcases List.mem_append.1 hy with hy | hy
      · exact ho y hy z (List.mem_cons_of_mem _ hz)
      · rw [List.mem_singleton] at hy
        subst hy
        exact h.1 z hz
theorem opts_self {L : List (List UInt8)} (h : Asc L) : opts L = L := foldl_self L [] h (fun y hy => by simp at hy)
/-- What a text of them measures. -/
def wt (L : List (List UInt8)) : Nat := (L.flatMap fun q => (59 : UInt8) :: q).length
theorem wt_cons (x : List UInt8) (L : List (List UInt8)) : wt (x :: L) = x.length + 1 + wt L := by
  unfold wt
  simp only [List.flatMap_cons, List.length_append, List.length_cons]
theorem wt_ins (x : List UInt8) : ∀ L, wt (ins x L) ≤ x.length + 1 + wt L
  | [] => by rw [ins, wt_cons]; exact Nat.le_refl _
  | y :: r => by
    unfold ins
    have := wt_ins x r
    split
    · rw [wt_cons, wt_cons]
      omega
    · split
      · omega
      · rw [wt_cons]
        exact Nat.le_refl _
theorem wt_fold : ∀ L O : List (List UInt8), wt (L.foldl (fun O x => ins x O) O) ≤ wt L + wt O
  | [], O => by show wt O ≤ 0 + wt O; omega
  | x :: L, O => by
    have h1 := wt_fold L (ins x O)
    have h2 := wt_ins x O
    rw [List.foldl_cons, wt_cons]
    omega
theorem wt_opts (L : List (List UInt8)) : wt (opts L) ≤ wt L := by
  have := wt_fold L []
  unfold opts
  have h : wt [] = 0 := rfl
  omega
/-- The text of a description. -/
def dtx (q : List UInt8 × List (List UInt8)) : List UInt8 := jn 59 (q.1 :: q.2)
theorem low_parts (l : List UInt8) : ∀ p ∈ sp 59 (lowL l), lowL p = p := by
  intro p hp
  have h1 := jn_sp 59 (lowL l)
  have h2 : ∀ (P : List (List UInt8)), p ∈ P → ∀ c ∈ p, c ∈ jn 59 P := by
    intro P hP c hc
    cases P with
    | nil => simp at hP
    | cons q Q =>
      show c ∈ q ++ Q.flatMap fun q => (59 : UInt8) :: q
      rcases List.mem_cons.1 hP with rfl | hP
      · exact List.mem_append_left _ hc
      · exact List.mem_append_right _ (List.mem_flatMap.2 ⟨p, hP, List.mem_cons_of_mem _ hc⟩)
  have h3 : ∀ c ∈ p, low c = c := fun c hc => by
    have := h2 _ hp c hc
    rw [h1] at this
    obtain ⟨d, _, rfl⟩ := List.mem_map.1 this
    exact low_low d
  unfold lowL
  exact (List.map_congr_left h3).trans (by simp)
theorem desc_low (l : List UInt8) : descO (lowL l) = descO l := by
  unfold descO
  rw [lowL_low]
  have : (lowL l).length = l.length := by simp [lowL]
  rw [this]
theorem desc_parts {l : List UInt8} {q : List UInt8 × List (List UInt8)} (h : descO l = some q) : l.length ≤ 64 ∧ ((arcsO q.1).isSome || wordB q.1) = true ∧ (sp 59 (lowL l)).tail.all signsB = true ∧ q.1 = (sp 59 (lowL l)).headD [] ∧ q.2 = opts (sp 59 (lowL l)).tail := by
  unfold descO at h
  split at h
  · cases h
  · split at h
    · rename_i h1 h2
      injection h with h
      subst h
      rw [Bool.and_eq_true] at h2
      exact ⟨by omega, h2.1, h2.2, rfl, rfl⟩
    · cases h
theorem desc_mem {l : List UInt8} {q : List UInt8 × List (List UInt8)} (h : descO l = some q) : ∀ p ∈ q.1 :: q.2, p ∈ sp 59 (lowL l) := by
  obtain ⟨_, _, _, h4, h5⟩ := desc_parts h
  intro p hp
  have hne := headD_tail (sp_ne 59 (lowL l)) []
  rcases List.mem_cons.1 hp with rfl | hp
  · rw [← hne, ← h4]
    exact List.mem_cons_self
  · rw [h5] at hp
    rw [← hne]
    exact List.mem_cons_of_mem _ (opts_mem hp)
theorem dtx_low {l : List UInt8} {q : List UInt8 × List (List UInt8)} (h : descO l = some q) : lowL (dtx q) = dtx q := by
  have hm := desc_mem h
  have hl : ∀ p ∈ q.1 :: q.2, lowL p = p := fun p hp => low_parts l p (hm p hp)
  have hc : ∀ c ∈ dtx q, low c = c := by
    have each : ∀ p ∈ q.1 :: q.2, ∀ c ∈ p, low c = c := fun p hp c hc => by
      have := hl p hp
      unfold lowL at this
      obtain ⟨i, hi, rfl⟩ := List.getElem_of_mem hc
      have h2 := congrArg (fun z => z[i]?) this
      simp only [List.getElem?_map] at h2
      rw [List.getElem?_eq_getElem hi] at h2
      injection h2
    intro c hc
    unfold dtx jn at hc
    rcases List.mem_append.1 hc with hc | hc
    · exact each q.1 List.mem_cons_self c hc
    · obtain ⟨p, hp, hc⟩ := List.mem_flatMap.1 hc
      rcases List.mem_cons.1 hc with rfl | hc
      · decide
      · exact each p (List.mem_cons_of_mem _ hp) c hc
  unfold lowL
  exact (List.map_congr_left hc).trans (by simp)
theorem dtx_len {l : List UInt8} {q : List UInt8 × List (List UInt8)} (h : descO l = some q) : (dtx q).length ≤ l.length := by
  obtain ⟨_, _, _, h4, h5⟩ := desc_parts h
  have hne := headD_tail (sp_ne 59 (lowL l)) []
  have hj := jn_sp 59 (lowL l)
  rw [← hne] at hj
  have h6 := congrArg List.length hj
  unfold jn at h6
  rw [List.length_append] at h6
  have h7 : (lowL l).length = l.length := by simp [lowL]
  have h8 := wt_opts (sp 59 (lowL l)).tail
  unfold wt at h8
  unfold dtx jn
  rw [List.length_append, h4, h5]
  omega
/-- A description is told, and described again, as itself. -/
theorem desc_again {l : List UInt8} {q : List UInt8 × List (List UInt8)} (h : descO l = some q) : descO (dtx q) = some q := by
  have h0 := dtx_len h
  have h1 := dtx_low h
  have hm := desc_mem h
  obtain ⟨g1, g2, g3, g4, g5⟩ := desc_parts h
  have hs : sp 59 (dtx q) = q.1 :: q.2 := sp_jn 59 (q.1 :: q.2) (by simp) (fun p hp => sp_free 59 _ p (hm p hp))
  have hall : q.2.all signsB = true := by
    rw [List.all_eq_true] at g3 ⊢
    intro p hp
    rw [g5] at hp
    exact g3 p (opts_mem hp)
  have ho : opts q.2 = q.2 := opts_self (by rw [g5]; exact opts_asc _)
  unfold descO
  rw [if_neg (by omega), h1, hs]
  have hc : (((arcsO ((q.1 :: q.2).headD [])).isSome || wordB ((q.1 :: q.2).headD [])) && (q.1 :: q.2).tail.all signsB) = true := by
    show (((arcsO q.1).isSome || wordB q.1) && q.2.all signsB) = true
    rw [g2, hall]
    rfl
  rw [if_pos hc]
  show some (q.1, opts q.2) = some q
  rw [ho]
end Go.Proofs.YtllmffmmfpecaaaDoor
namespace Go.Proofs.YtllmffmmfpecaaaDoor

structure At where
  name : List UInt8
  alias : List UInt8
  oid : List UInt8
  syn : Nat
  single : Bool
deriving DecidableEq
structure Cl where
  name : List UInt8
  oid : List UInt8
  super : List UInt8
  kind : Nat
  must : List (List UInt8)
  may : List (List UInt8)
deriving DecidableEq
def atts : List At := [
  ⟨[111, 98, 106, 101, 99, 116, 67, 108, 97, 115, 115], [], [50, 46, 53, 46, 52, 46, 48], 9, false⟩,
  ⟨[99, 110], [99, 111, 109, 109, 111, 110, 78, 97, 109, 101], [50, 46, 53, 46, 52, 46, 51], 1, false⟩,
  ⟨[115, 110], [115, 117, 114, 110, 97, 109, 101], [50, 46, 53, 46, 52, 46, 52], 1, false⟩,
  ⟨[115, 101, 114, 105, 97, 108, 78, 117, 109, 98, 101, 114], [], [50, 46, 53, 46, 52, 46, 53], 2, false⟩,
  ⟨[99], [99, 111, 117, 110, 116, 114, 121, 78, 97, 109, 101], [50, 46, 53, 46, 52, 46, 54], 1, true⟩,
  ⟨[111], [111, 114, 103, 97, 110, 105, 122, 97, 116, 105, 111, 110, 78, 97, 109, 101], [50, 46, 53, 46, 52, 46, 49, 48], 1, false⟩,
  ⟨[111, 117], [111, 114, 103, 97, 110, 105, 122, 97, 116, 105, 111, 110, 97, 108, 85, 110, 105, 116, 78, 97, 109, 101], [50, 46, 53, 46, 52, 46, 49, 49], 1, false⟩,
  ⟨[100, 101, 115, 99, 114, 105, 112, 116, 105, 111, 110], [], [50, 46, 53, 46, 52, 46, 49, 51], 1, false⟩,
  ⟨[116, 101, 108, 101, 112, 104, 111, 110, 101, 78, 117, 109, 98, 101, 114], [], [50, 46, 53, 46, 52, 46, 50, 48], 7, false⟩,
  ⟨[109, 101, 109, 98, 101, 114], [], [50, 46, 53, 46, 52, 46, 51, 49], 6, false⟩,
  ⟨[111, 119, 110, 101, 114], [], [50, 46, 53, 46, 52, 46, 51, 50], 6, false⟩,
  ⟨[115, 101, 101, 65, 108, 115, 111], [], [50, 46, 53, 46, 52, 46, 51, 52], 6, false⟩,
  ⟨[117, 115, 101, 114, 80, 97, 115, 115, 119, 111, 114, 100], [], [50, 46, 53, 46, 52, 46, 51, 53], 5, false⟩,
  ⟨[103, 105, 118, 101, 110, 78, 97, 109, 101], [], [50, 46, 53, 46, 52, 46, 52, 50], 1, false⟩,
  ⟨[117, 105, 100], [117, 115, 101, 114, 105, 100], [48, 46, 57, 46, 50, 51, 52, 50, 46, 49, 57, 50, 48, 48, 51, 48, 48, 46, 49, 48, 48, 46, 49, 46, 49], 1, false⟩,
  ⟨[109, 97, 105, 108], [], [48, 46, 57, 46, 50, 51, 52, 50, 46, 49, 57, 50, 48, 48, 51, 48, 48, 46, 49, 48, 48, 46, 49, 46, 51], 1, false⟩,
  ⟨[100, 99], [100, 111, 109, 97, 105, 110, 67, 111, 109, 112, 111, 110, 101, 110, 116], [48, 46, 57, 46, 50, 51, 52, 50, 46, 49, 57, 50, 48, 48, 51, 48, 48, 46, 49, 48, 48, 46, 49, 46, 50, 53], 1, true⟩,
  ⟨[101, 109, 112, 108, 111, 121, 101, 101, 78, 117, 109, 98, 101, 114], [], [50, 46, 49, 54, 46, 56, 52, 48, 46, 49, 46, 49, 49, 51, 55, 51, 48, 46, 51, 46, 49, 46, 51], 3, true⟩,
  ⟨[101, 110, 97, 98, 108, 101, 100], [], [49, 46, 51, 46, 54, 46, 49, 46, 52, 46, 49, 46, 57, 57, 57, 57, 57, 46, 49], 4, true⟩,
  ⟨[119, 101, 105, 103, 104, 116], [], [49, 46, 51, 46, 54, 46, 49, 46, 52, 46, 49, 46, 57, 57, 57, 57, 57, 46, 50], 8, true⟩]
def clss : List Cl := [
  ⟨[116, 111, 112], [50, 46, 53, 46, 54, 46, 48], [], 0, [[111, 98, 106, 101, 99, 116, 67, 108, 97, 115, 115]], []⟩,
  ⟨[99, 111, 117, 110, 116, 114, 121], [50, 46, 53, 46, 54, 46, 50], [116, 111, 112], 1, [[99]], [[100, 101, 115, 99, 114, 105, 112, 116, 105, 111, 110]]⟩,
  ⟨[111, 114, 103, 97, 110, 105, 122, 97, 116, 105, 111, 110], [50, 46, 53, 46, 54, 46, 52], [116, 111, 112], 1, [[111]], [[100, 101, 115, 99, 114, 105, 112, 116, 105, 111, 110], [116, 101, 108, 101, 112, 104, 111, 110, 101, 78, 117, 109, 98, 101, 114]]⟩,
  ⟨[111, 114, 103, 97, 110, 105, 122, 97, 116, 105, 111, 110, 97, 108, 85, 110, 105, 116], [50, 46, 53, 46, 54, 46, 53], [116, 111, 112], 1, [[111, 117]], [[100, 101, 115, 99, 114, 105, 112, 116, 105, 111, 110], [115, 101, 101, 65, 108, 115, 111], [116, 101, 108, 101, 112, 104, 111, 110, 101, 78, 117, 109, 98, 101, 114]]⟩,
  ⟨[112, 101, 114, 115, 111, 110], [50, 46, 53, 46, 54, 46, 54], [116, 111, 112], 1, [[99, 110], [115, 110]], [[100, 101, 115, 99, 114, 105, 112, 116, 105, 111, 110], [115, 101, 101, 65, 108, 115, 111], [116, 101, 108, 101, 112, 104, 111, 110, 101, 78, 117, 109, 98, 101, 114], [117, 115, 101, 114, 80, 97, 115, 115, 119, 111, 114, 100]]⟩,
  ⟨[105, 110, 101, 116, 79, 114, 103, 80, 101, 114, 115, 111, 110], [50, 46, 49, 54, 46, 56, 52, 48, 46, 49, 46, 49, 49, 51, 55, 51, 48, 46, 51, 46, 50, 46, 50], [112, 101, 114, 115, 111, 110], 1, [], [[101, 109, 112, 108, 111, 121, 101, 101, 78, 117, 109, 98, 101, 114], [103, 105, 118, 101, 110, 78, 97, 109, 101], [109, 97, 105, 108], [117, 105, 100]]⟩,
  ⟨[103, 114, 111, 117, 112], [49, 46, 51, 46, 54, 46, 49, 46, 52, 46, 49, 46, 57, 57, 57, 57, 57, 46, 51, 46, 49], [116, 111, 112], 1, [[99, 110]], [[100, 101, 115, 99, 114, 105, 112, 116, 105, 111, 110], [109, 101, 109, 98, 101, 114], [111, 119, 110, 101, 114], [115, 101, 101, 65, 108, 115, 111]]⟩,
  ⟨[100, 101, 118, 105, 99, 101], [50, 46, 53, 46, 54, 46, 49, 52], [116, 111, 112], 1, [[99, 110]], [[100, 101, 115, 99, 114, 105, 112, 116, 105, 111, 110], [111, 119, 110, 101, 114], [115, 101, 114, 105, 97, 108, 78, 117, 109, 98, 101, 114], [119, 101, 105, 103, 104, 116]]⟩,
  ⟨[100, 99, 79, 98, 106, 101, 99, 116], [49, 46, 51, 46, 54, 46, 49, 46, 52, 46, 49, 46, 49, 52, 54, 54, 46, 51, 52, 52], [116, 111, 112], 2, [[100, 99]], []⟩,
  ⟨[108, 111, 103, 105, 110], [49, 46, 51, 46, 54, 46, 49, 46, 52, 46, 49, 46, 57, 57, 57, 57, 57, 46, 51, 46, 50], [116, 111, 112], 2, [], [[101, 110, 97, 98, 108, 101, 100], [117, 105, 100], [117, 115, 101, 114, 80, 97, 115, 115, 119, 111, 114, 100]]⟩]
def atB (k s : List UInt8) (a : At) : Bool := k == lowL a.name || (k == lowL a.alias && !(k == [])) || s == a.oid
def clB (k s : List UInt8) (c : Cl) : Bool := k == lowL c.name || s == c.oid
def findA (s : List UInt8) : Option At := atts.find? (atB (lowL s) s)
def findC (s : List UInt8) : Option Cl := clss.find? (clB (lowL s) s)
def aboveN : Nat → List UInt8 → List UInt8 → Bool
  | 0, _, _ => false
  | n + 1, a, b => if a = b then true else match findC b with
    | none => false
    | some c => if c.super = [] then false else aboveN n a c.super
def above (a b : List UInt8) : Bool := aboveN 10 a b
/-- A text into its place, once. -/
def putS (l : List (List UInt8)) (s : List UInt8) : List (List UInt8) :=
  if s ∈ l then l else l.takeWhile (fun x => Op.bytesLess x s) ++ s :: l.dropWhile (fun x => Op.bytesLess x s)
def nameC (s : List UInt8) : List UInt8 := match findC s with
  | some c => c.name
  | none => []
def meant (k : List UInt8) (cs : List (List UInt8)) : Bool := cs.any fun s => above k (nameC s)
def gather (f : Cl → List (List UInt8)) (cs : List (List UInt8)) : List (List UInt8) := clss.foldl (fun m k => if meant k.name cs = true then (f k).foldl putS m else m) []
def mustD (cs : List (List UInt8)) : List (List UInt8) := gather Cl.must cs
def restD (cs : List (List UInt8)) : List (List UInt8) := (gather Cl.may cs).filter fun x => decide (x ∉ mustD cs)
def validC (cs : List (List UInt8)) : Bool := cs.all fun s => (findC s).isSome
def kindC (s : List UInt8) : Nat := match findC s with
  | some c => c.kind
  | none => 0
def nameA (s : List UInt8) : List UInt8 := match findA s with
  | some a => a.name
  | none => []
def validA (as : List (List UInt8)) : Bool := as.all fun s => (findA s).isSome
/-- Two classes of which neither is above the other. -/
def apart (s t : List UInt8) : Bool := !above (nameC s) (nameC t) && !above (nameC t) (nameC s)
def strC (cs : List (List UInt8)) : List (List UInt8) := cs.filter fun s => kindC s == 1
def goodC (cs : List (List UInt8)) : Bool := !(strC cs == []) && decide ((strC cs).Pairwise fun s t => apart t s = false)
def checkD (cs as : List (List UInt8)) : Nat :=
  if validC cs = false ∨ validA as = false then 13
  else if goodC cs = false then 16
  else if (mustD cs).all (fun x => decide (x ∈ as.map nameA)) = false then 11
  else if (as.map nameA).all (fun x => decide (x ∈ mustD cs) || decide (x ∈ restD cs)) = false then 2
  else 0

theorem mem_putS (l : List (List UInt8)) (s x : List UInt8) : x ∈ putS l s ↔ x ∈ l ∨ x = s := by
  unfold putS
  split
  · constructor
    · exact .inl
    · rintro (h | rfl)
      · exact h
      · assumption
  · conv => rhs; rw [← List.takeWhile_append_dropWhile (p := fun x => Op.bytesLess x s) (l := l)]
    simp only [List.mem_append, List.mem_cons]
    constructor
    · rintro (h | h | h)
      · exact .inl (.inl h)
      · exact .inr h
      · exact .inl (.inr h)
    · rintro ((h | h) | h)
      · exact .inl h
      · exact .inr (.inr h)
      · exact .inr (.inl h)
theorem nodup_putS (l : List (List UInt8)) (s : List UInt8) (h : l.Nodup) : (putS l s).Nodup := by
  unfold putS
  split
  · exact h
  · rename_i hs
    have e := List.takeWhile_append_dropWhile (p := fun x => Op.bytesLess x s) (l := l)
    have h' : (l.takeWhile (fun x => Op.bytesLess x s) ++ l.dropWhile (fun x => Op.bytesLess x s)).Nodup := by rw [e]; exact h
    have hm : ∀ x, x ∈ l.takeWhile (fun x => Op.bytesLess x s) ∨ x ∈ l.dropWhile (fun x => Op.bytesLess x s) → x ≠ s := fun x hx he => hs (by
      rw [← he, ← e]
      exact List.mem_append.2 hx)
    rw [List.nodup_append] at h' ⊢
    obtain ⟨h1, h2, h3⟩ := h'
    refine ⟨h1, List.nodup_cons.2 ⟨fun hx => hm s (.inr hx) rfl, h2⟩, fun a ha b hb => ?_⟩
    rcases List.mem_cons.1 hb with rfl | hb
    · exact hm a (.inl ha)
    · exact h3 a ha b hb
theorem mem_puts (M l : List (List UInt8)) (x : List UInt8) : x ∈ M.foldl putS l ↔ x ∈ l ∨ x ∈ M := by
  induction M generalizing l with
  | nil => simp
  | cons y M ih =>
    rw [List.foldl_cons, ih, mem_putS, List.mem_cons, or_assoc]
theorem nodup_puts (M l : List (List UInt8)) (h : l.Nodup) : (M.foldl putS l).Nodup := by
  induction M generalizing l with
  | nil => exact h
  | cons y M ih => exact ih _ (nodup_putS l y h)
theorem mem_gath (f : Cl → List (List UInt8)) (b : Cl → Bool) (K : List Cl) (m : List (List UInt8)) (x : List UInt8) :
    x ∈ K.foldl (fun m k => if b k = true then (f k).foldl putS m else m) m ↔ x ∈ m ∨ ∃ k ∈ K, b k = true ∧ x ∈ f k := by
  induction K generalizing m with
  | nil => simp
  | cons k K ih =>
    rw [List.foldl_cons, ih]
    by_cases hb : b k = true
    · rw [if_pos hb, mem_puts]
      simp [hb, or_assoc]
    · rw [if_neg hb]
      simp [hb]
theorem nodup_gath (f : Cl → List (List UInt8)) (b : Cl → Bool) (K : List Cl) (m : List (List UInt8)) (h : m.Nodup) :
    (K.foldl (fun m k => if b k = true then (f k).foldl putS m else m) m).Nodup := by
  induction K generalizing m with
  | nil => exact h
  | cons k K ih =>
    rw [List.foldl_cons]
    refine ih _ ?_
    split
    · exact nodup_puts _ _ h
    · exact h
theorem mem_gather (f : Cl → List (List UInt8)) (cs : List (List UInt8)) (x : List UInt8) : x ∈ gather f cs ↔ ∃ k ∈ clss, meant k.name cs = true ∧ x ∈ f k := by
  unfold gather
  rw [mem_gath f (fun k => meant k.name cs)]
  simp
theorem nodup_must (cs : List (List UInt8)) : (mustD cs).Nodup := nodup_gath _ (fun k => meant k.name cs) _ _ List.nodup_nil
/-- What is gathered depends on the set of the classes alone. -/
theorem gather_set (f : Cl → List (List UInt8)) (cs ds : List (List UInt8)) (h : ∀ s, s ∈ cs ↔ s ∈ ds) : gather f cs = gather f ds := by
  have e : ∀ k, meant k cs = meant k ds := fun k => by
    unfold meant
    rw [Bool.eq_iff_iff, List.any_eq_true, List.any_eq_true]
    exact ⟨fun ⟨s, h1, h2⟩ => ⟨s, (h s).1 h1, h2⟩, fun ⟨s, h1, h2⟩ => ⟨s, (h s).2 h1, h2⟩⟩
  unfold gather
  congr 1
  funext m k
  rw [e]
theorem must_set (cs ds : List (List UInt8)) (h : ∀ s, s ∈ cs ↔ s ∈ ds) : mustD cs = mustD ds := gather_set _ cs ds h
theorem rest_set (cs ds : List (List UInt8)) (h : ∀ s, s ∈ cs ↔ s ∈ ds) : restD cs = restD ds := by
  unfold restD
  rw [must_set cs ds h, gather_set _ cs ds h]
theorem valid_set (cs ds : List (List UInt8)) (h : ∀ s, s ∈ cs ↔ s ∈ ds) : validC cs = validC ds := by
  unfold validC
  rw [Bool.eq_iff_iff, List.all_eq_true, List.all_eq_true]
  exact ⟨fun g s hs => g s ((h s).2 hs), fun g s hs => g s ((h s).1 hs)⟩
theorem gather_mono (f : Cl → List (List UInt8)) (cs ds : List (List UInt8)) (x : List UInt8) (h : x ∈ gather f cs) : x ∈ gather f (cs ++ ds) := by
  rw [mem_gather] at h ⊢
  obtain ⟨k, hk, hm, hx⟩ := h
  refine ⟨k, hk, ?_, hx⟩
  unfold meant at hm ⊢
  rw [List.any_append, hm, Bool.true_or]
theorem must_mono (cs ds : List (List UInt8)) (x : List UInt8) (h : x ∈ mustD cs) : x ∈ mustD (cs ++ ds) := gather_mono _ cs ds x h
theorem rest_mono (cs ds : List (List UInt8)) (x : List UInt8) (h : x ∈ restD cs) : x ∈ mustD (cs ++ ds) ∨ x ∈ restD (cs ++ ds) := by
  have h1 := gather_mono Cl.may cs ds x (List.mem_filter.1 h).1
  by_cases hm : x ∈ mustD (cs ++ ds)
  · exact .inl hm
  · exact .inr (List.mem_filter.2 ⟨h1, decide_eq_true hm⟩)
theorem valid_app (cs ds : List (List UInt8)) : validC (cs ++ ds) = (validC cs && validC ds) := List.all_append
/-- What a class must or may have is an attribute's name. -/
theorem must_att : ∀ k ∈ clss, ∀ x ∈ k.must ++ k.may, (findA x).isSome = true ∧ nameA x = x := by decide +kernel
theorem must_name (cs : List (List UInt8)) (x : List UInt8) (h : x ∈ mustD cs ∨ x ∈ restD cs) : (findA x).isSome = true ∧ nameA x = x := by
  have : ∃ k ∈ clss, x ∈ k.must ++ k.may := by
    rcases h with h | h
    · obtain ⟨k, hk, _, hx⟩ := (mem_gather _ _ _).1 h
      exact ⟨k, hk, List.mem_append_left _ hx⟩
    · obtain ⟨k, hk, _, hx⟩ := (mem_gather _ _ _).1 (List.mem_filter.1 h).1
      exact ⟨k, hk, List.mem_append_right _ hx⟩
  obtain ⟨k, hk, hx⟩ := this
  exact must_att k hk x hx
theorem att_name : ∀ a ∈ atts, findA a.name = some a ∧ findA a.oid = some a ∧ (a.alias = [] ∨ findA a.alias = some a) ∧ (a.name ≠ []) := by decide +kernel
theorem cls_name : ∀ c ∈ clss, findC c.name = some c ∧ findC c.oid = some c := by decide +kernel
theorem names_id (L : List (List UInt8)) (h : ∀ x ∈ L, nameA x = x) : L.map nameA = L := (List.map_congr_left h).trans (List.map_id' L)
/-- Names of attributes are checked so. -/
theorem check_names (cs as : List (List UInt8)) (hv : validC cs = true) (hg : goodC cs = true) (ha : ∀ x ∈ as, (findA x).isSome = true ∧ nameA x = x) :
    checkD cs as = if (∀ x ∈ mustD cs, x ∈ as) then (if ∀ x ∈ as, x ∈ mustD cs ∨ x ∈ restD cs then 0 else 2) else 11 := by
  have e : as.map nameA = as := names_id as fun x hx => (ha x hx).2
  have va : validA as = true := List.all_eq_true.2 fun x hx => (ha x hx).1
  unfold checkD
  rw [e, if_neg (by simp [hv, va]), if_neg (by simp [hg])]
  by_cases h1 : ∀ x ∈ mustD cs, x ∈ as
  · rw [if_pos h1, if_neg (by
      rw [Bool.not_eq_false, List.all_eq_true]
      exact fun x hx => decide_eq_true (h1 x hx))]
    by_cases h2 : ∀ x ∈ as, x ∈ mustD cs ∨ x ∈ restD cs
    · rw [if_pos h2, if_neg (by
        rw [Bool.not_eq_false, List.all_eq_true]
        intro x hx
        rw [Bool.or_eq_true, decide_eq_true_eq, decide_eq_true_eq]
        exact h2 x hx)]
    · rw [if_neg h2, if_pos (by
        rw [Bool.eq_false_iff]
        intro h
        refine h2 fun x hx => ?_
        have := List.all_eq_true.1 h x hx
        rwa [Bool.or_eq_true, decide_eq_true_eq, decide_eq_true_eq] at this)]
  · rw [if_neg h1, if_pos (by
      rw [Bool.eq_false_iff]
      intro h
      exact h1 fun x hx => of_decide_eq_true (List.all_eq_true.1 h x hx))]
theorem check_state (cs as : List (List UInt8)) (hv : validC cs = true) (hg : goodC cs = false) (ha : ∀ x ∈ as, (findA x).isSome = true) : checkD cs as = 16 := by
  have va : validA as = true := List.all_eq_true.2 ha
  unfold checkD
  rw [if_neg (by simp [hv, va]), if_pos hg]
theorem check_none (cs as : List (List UInt8)) (hv : validC cs = false) : checkD cs as = 13 := by
  unfold checkD
  rw [if_pos (.inl hv)]
/-- Just what must be there. -/
theorem check_least (cs : List (List UInt8)) (hv : validC cs = true) : checkD cs (mustD cs) = if goodC cs = true then 0 else 16 := by
  have ha : ∀ x ∈ mustD cs, (findA x).isSome = true ∧ nameA x = x := fun x hx => must_name cs x (.inl hx)
  cases hg : goodC cs
  · rw [check_state cs _ hv hg fun x hx => (ha x hx).1]
    rfl
  · rw [check_names cs _ hv hg ha, if_pos (fun x hx => hx), if_pos (fun x hx => .inl hx)]
    rfl
theorem check_most (cs : List (List UInt8)) (hv : validC cs = true) (hg : goodC cs = true) : checkD cs (restD cs ++ mustD cs) = 0 := by
  have ha : ∀ x ∈ restD cs ++ mustD cs, (findA x).isSome = true ∧ nameA x = x := fun x hx => must_name cs x (List.mem_append.1 hx).symm
  rw [check_names cs _ hv hg ha, if_pos (fun x hx => List.mem_append_right _ hx), if_pos (fun x hx => (List.mem_append.1 hx).symm)]
theorem check_without (cs : List (List UInt8)) (hv : validC cs = true) (hg : goodC cs = true) (i : Nat) (h : i < (mustD cs).length) : checkD cs ((mustD cs).take i ++ (mustD cs).drop (i + 1)) = 11 := by
  have hsub : ∀ x ∈ (mustD cs).take i ++ (mustD cs).drop (i + 1), x ∈ mustD cs := fun x hx => by
    rcases List.mem_append.1 hx with h | h
    · exact List.mem_of_mem_take h
    · exact List.mem_of_mem_drop h
  have ha : ∀ x ∈ (mustD cs).take i ++ (mustD cs).drop (i + 1), (findA x).isSome = true ∧ nameA x = x := fun x hx => must_name cs x (.inl (hsub x hx))
  rw [check_names cs _ hv hg ha, if_neg]
  intro hall
  have hn := nodup_must cs
  have hx := hall _ (List.getElem_mem h)
  have hd : (mustD cs).take i ++ (mustD cs)[i] :: (mustD cs).drop (i + 1) = mustD cs := by
    rw [← List.drop_eq_getElem_cons h, List.take_append_drop]
  rw [← hd, List.nodup_append] at hn
  obtain ⟨_, h2, h3⟩ := hn
  rcases List.mem_append.1 hx with hx | hx
  · exact absurd rfl (h3 _ hx _ List.mem_cons_self)
  · rw [List.nodup_cons] at h2
    exact h2.1 hx
theorem check_more (cs : List (List UInt8)) (hv : validC cs = true) (hg : goodC cs = true) (a : At) (ha : a ∈ atts) : checkD cs (a.name :: mustD cs) = if a.name ∈ mustD cs ∨ a.name ∈ restD cs then 0 else 2 := by
  have hn := att_name a ha
  have hall : ∀ x ∈ a.name :: mustD cs, (findA x).isSome = true ∧ nameA x = x := fun x hx => by
    rcases List.mem_cons.1 hx with rfl | hx
    · refine ⟨by rw [hn.1]; rfl, ?_⟩
      unfold nameA
      rw [hn.1]
    · exact must_name cs x (.inl hx)
  rw [check_names cs _ hv hg hall, if_pos (fun x hx => List.mem_cons_of_mem _ hx)]
  by_cases h : a.name ∈ mustD cs ∨ a.name ∈ restD cs
  · rw [if_pos h, if_pos]
    intro x hx
    rcases List.mem_cons.1 hx with rfl | hx
    · exact h
    · exact .inl hx
  · rw [if_neg h, if_neg]
    intro hx
    exact h (hx _ (by simp))
end Go.Proofs.YtllmffmmfpecaaaDoor
