/-
  Identifiers of objects, as data: parts, numbers, groups of seven bits. Nothing here speaks of a program.
-/
import Derived.Test.YtkffgdndglfcfaaGreatDoorDecI
namespace Go.Proofs.YtkffgdndglfcfaaGreatDoor
open Go.Lib

/-- What stands between the signs b. -/
def sp (b : UInt8) : List UInt8 → List (List UInt8)
  | [] => [[]]
  | x :: l => if x = b then [] :: sp b l else (x :: (sp b l).headD []) :: (sp b l).tail
def jn (b : UInt8) : List (List UInt8) → List UInt8
  | [] => []
  | p :: ps => p ++ ps.flatMap fun q => b :: q
theorem sp_ne (b : UInt8) : ∀ l, sp b l ≠ []
  | [] => by simp [sp]
  | x :: l => by unfold sp; split <;> simp
theorem headD_tail {α : Type} {l : List α} (h : l ≠ []) (d : α) : l.headD d :: l.tail = l := by
  cases l with
  | nil => exact absurd rfl h
  | cons a l => rfl
theorem jn_sp (b : UInt8) : ∀ l, jn b (sp b l) = l
  | [] => rfl
  | x :: l => by
    have ih := jn_sp b l
    have hne := sp_ne b l
    unfold sp
    split
    · rename_i h
      subst h
      cases hs : sp x l with
      | nil => exact absurd hs hne
      | cons p ps =>
        rw [hs] at ih
        simp only [jn, List.nil_append, List.flatMap_cons] at ih ⊢
        rw [List.cons_append, ih]
    · cases hs : sp b l with
      | nil => exact absurd hs hne
      | cons p ps =>
        rw [hs] at ih
        simp only [jn, List.headD_cons, List.tail_cons] at ih ⊢
        rw [List.cons_append, ih]
theorem sp_free (b : UInt8) : ∀ l, ∀ p ∈ sp b l, b ∉ p
  | [] => by simp [sp]
  | x :: l => by
    have ih := sp_free b l
    unfold sp
    split
    · intro p hp
      rcases List.mem_cons.1 hp with rfl | hp
      · simp
      · exact ih p hp
    · rename_i hx
      intro p hp
      rcases List.mem_cons.1 hp with rfl | hp
      · intro h
        rcases List.mem_cons.1 h with h | h
        · exact hx h.symm
        · cases hs : sp b l with
          | nil => rw [hs] at h; simp at h
          | cons q qs =>
            rw [hs] at h
            exact ih q (by rw [hs]; exact List.mem_cons_self) h
      · exact ih p (List.mem_of_mem_tail hp)
theorem sp_part (b : UInt8) : ∀ p : List UInt8, b ∉ p → sp b p = [p]
  | [], _ => rfl
  | x :: p, h => by
    have hx : x ≠ b := fun e => h (by rw [e]; exact List.mem_cons_self)
    unfold sp
    rw [if_neg hx, sp_part b p (fun e => h (List.mem_cons_of_mem _ e))]
    rfl
theorem sp_cons (b : UInt8) : ∀ p l : List UInt8, b ∉ p → sp b (p ++ b :: l) = p :: sp b l
  | [], l, _ => by
    show sp b (b :: l) = _
    rw [sp, if_pos rfl]
  | x :: p, l, h => by
    have hx : x ≠ b := fun e => h (by rw [e]; exact List.mem_cons_self)
    rw [List.cons_append, sp, if_neg hx, sp_cons b p l (fun e => h (List.mem_cons_of_mem _ e))]
    rfl
theorem sp_jn (b : UInt8) : ∀ ps : List (List UInt8), ps ≠ [] → (∀ p ∈ ps, b ∉ p) → sp b (jn b ps) = ps
  | [], h, _ => absurd rfl h
  | [p], _, h => by
    show sp b (p ++ []) = [p]
    rw [List.append_nil]
    exact sp_part b p (h p List.mem_cons_self)
  | p :: q :: ps, _, h => by
    show sp b (p ++ (b :: q ++ ps.flatMap fun q => b :: q)) = _
    rw [List.cons_append, sp_cons b p _ (h p List.mem_cons_self)]
    have := sp_jn b (q :: ps) (by simp) (fun p hp => h p (List.mem_cons_of_mem _ hp))
    rw [show q ++ (ps.flatMap fun q => b :: q) = jn b (q :: ps) from rfl, this]
/-- One letter more: as a loop goes on. -/
theorem sp_snoc (b : UInt8) (x : UInt8) : ∀ l, sp b (l ++ [x]) = if x = b then sp b l ++ [[]] else (sp b l).dropLast ++ [(sp b l).getLastD [] ++ [x]]
  | [] => by
    rw [List.nil_append, sp, sp]
    split <;> rfl
  | y :: l => by
    have ih := sp_snoc b x l
    have hne := sp_ne b l
    rw [List.cons_append, sp, sp, ih]
    cases hs : sp b l with
    | nil => exact absurd hs hne
    | cons p ps =>
      by_cases hx : x = b
      · rw [if_pos hx, if_pos hx]
        by_cases hy : y = b
        · rw [if_pos hy, if_pos hy]
          rfl
        · rw [if_neg hy, if_neg hy]
          rfl
      · rw [if_neg hx, if_neg hx]
        by_cases hy : y = b
        · rw [if_pos hy, if_pos hy]
          cases ps <;> rfl
        · rw [if_neg hy, if_neg hy]
          cases ps <;> rfl

/-- A part's number. -/
def canonB (l : List UInt8) : Bool := !l.isEmpty && digsL l && (l.length == 1 || l.head? != some 48)
theorem canonB_iff (l : List UInt8) : canonB l = true ↔ Canon l := by
  unfold canonB Canon
  simp [and_assoc]
def arcV (l : List UInt8) : Option Nat := if canonB l && l.length ≤ 10 then some (natV l) else none
theorem arcV_some {l : List UInt8} {n : Nat} (h : arcV l = some n) : decDigits n = l ∧ l.length ≤ 10 ∧ n < 10000000000 := by
  unfold arcV at h
  split at h
  · rename_i h1
    rw [Bool.and_eq_true, canonB_iff, decide_eq_true_eq] at h1
    injection h with h
    subst h
    refine ⟨dec_natV l h1.1, h1.2, ?_⟩
    have := natV_lt l h1.1.2.1
    have h2 : 10 ^ l.length ≤ 10 ^ 10 := Nat.pow_le_pow_right (by omega) h1.2
    omega
  · cases h
theorem dot_free (l : List UInt8) (h : digsL l = true) : (46 : UInt8) ∉ l := by
  intro hm
  have := List.all_eq_true.1 h 46 hm
  exact absurd this (by decide)
def okA : List Nat → Bool
  | a :: b :: r => (a ≤ 2 && (2 ≤ a || b ≤ 39)) && r.length ≤ 14
  | _ => false
def arcsO (l : List UInt8) : Option (List Nat) := if l.length ≤ 200 then ((sp 46 l).mapM arcV).filter okA else none
theorem mapM_get {α β : Type} (f : α → Option β) : ∀ (l : List α) (r : List β), l.mapM f = some r → l.length = r.length ∧ ∀ i (h : i < l.length) (h2 : i < r.length), f l[i] = some r[i]
  | [], r, h => by
    simp at h
    subst h
    exact ⟨rfl, fun i h => absurd h (by simp)⟩
  | a :: l, r, h => by
    rw [List.mapM_cons] at h
    cases ha : f a with
    | none => rw [ha] at h; cases h
    | some b =>
      rw [ha] at h
      cases hl : l.mapM f with
      | none => rw [hl] at h; cases h
      | some q =>
        rw [hl] at h
        injection h with h
        subst h
        obtain ⟨h1, h2⟩ := mapM_get f l q hl
        refine ⟨by simp [h1], fun i hi hi2 => ?_⟩
        cases i with
        | zero => exact ha
        | succ i => exact h2 i (by simpa using hi) (by simpa using hi2)
/-- The text of numbers. -/
def txA (L : List Nat) : List UInt8 := jn 46 (L.map decDigits)
theorem arcsO_some {l : List UInt8} {L : List Nat} (h : arcsO l = some L) : txA L = l ∧ okA L = true ∧ (∀ n ∈ L, n < 10000000000) ∧ l.length ≤ 200 := by
  unfold arcsO at h
  split at h
  · rename_i h200
    rw [Option.filter_eq_some_iff] at h
    obtain ⟨h1, h2⟩ := h
    obtain ⟨h3, h4⟩ := mapM_get arcV _ _ h1
    refine ⟨?_, h2, fun n hn => ?_, h200⟩
    · have e : L.map decDigits = sp 46 l := by
        refine List.ext_getElem (by rw [List.length_map, h3]) fun i h5 h6 => ?_
        rw [List.getElem_map]
        exact (arcV_some (h4 i h6 (by simpa using h5))).1
      unfold txA
      rw [e, jn_sp]
    · obtain ⟨i, hi, rfl⟩ := List.getElem_of_mem hn
      exact (arcV_some (h4 i (by omega) hi)).2.2
  · cases h
theorem dec_len {n : Nat} (h : n < 10000000000) : (decDigits n).length ≤ 10 := by
  have hc := canon_dec n
  have h2 := natV_dec n
  rcases Nat.lt_or_ge 10 (decDigits n).length with h3 | h3
  · exfalso
    have h4 := canon_pos hc (by omega)
    cases hd : decDigits n with
    | nil => rw [hd] at h3; simp at h3
    | cons c r =>
      rw [hd] at hc h2 h3
      have h5 : dv c ≠ 0 := by
        intro e
        have h6 := hc.2.2
        rcases h6 with h6 | h6
        · omega
        · refine h6 ?_
          have h7 : isDig c = true := by
            have := hc.2.1
            unfold digsL at this
            rw [List.all_cons, Bool.and_eq_true] at this
            exact this.1
          have h8 := ofNat_dv c h7
          rw [e] at h8
          rw [List.head?_cons, ← h8]
          rfl
      rw [natV_cons] at h2
      have h9 : 10 ^ 10 ≤ 10 ^ r.length := Nat.pow_le_pow_right (by omega) (by simp at h3; omega)
      have h10 : 1 * 10 ^ r.length ≤ dv c * 10 ^ r.length := Nat.mul_le_mul_right _ (by omega)
      omega
  · exact h3
theorem arcV_dec {n : Nat} (h : n < 10000000000) : arcV (decDigits n) = some n := by
  unfold arcV
  rw [if_pos, natV_dec]
  rw [Bool.and_eq_true, canonB_iff, decide_eq_true_eq]
  exact ⟨canon_dec n, dec_len h⟩
theorem mapM_dec : ∀ L : List Nat, (∀ n ∈ L, n < 10000000000) → (L.map decDigits).mapM arcV = some L
  | [], _ => rfl
  | n :: L, h => by
    rw [List.map_cons, List.mapM_cons, arcV_dec (h n List.mem_cons_self), mapM_dec L (fun m hm => h m (List.mem_cons_of_mem _ hm))]
    rfl
theorem txA_len : ∀ L : List Nat, (∀ n ∈ L, n < 10000000000) → (txA L).length + 1 ≤ L.length * 11 + 1
  | [], _ => by simp [txA, jn]
  | n :: L, h => by
    have h1 := dec_len (h n List.mem_cons_self)
    have h2 : ∀ M : List Nat, (∀ n ∈ M, n < 10000000000) → ((M.map decDigits).flatMap fun q => (46 : UInt8) :: q).length ≤ M.length * 11 := by
      intro M
      induction M with
      | nil => exact fun _ => Nat.le_refl _
      | cons m M ih =>
        intro hM
        have := ih (fun n hn => hM n (List.mem_cons_of_mem _ hn))
        have h3 := dec_len (hM m List.mem_cons_self)
        simp only [List.map_cons, List.flatMap_cons, List.length_append, List.length_cons]
        omega
    have h4 := h2 L (fun m hm => h m (List.mem_cons_of_mem _ hm))
    unfold txA jn
    simp only [List.map_cons, List.length_append, List.length_cons]
    omega
theorem okA_len {L : List Nat} (h : okA L = true) : 2 ≤ L.length ∧ L.length ≤ 16 := by
  match L, h with
  | a :: b :: r, h =>
    simp only [okA, Bool.and_eq_true, decide_eq_true_eq] at h
    simp only [List.length_cons]
    omega
/-- The text of valid numbers is an identifier: theirs. -/
theorem arcsO_txA {L : List Nat} (h : okA L = true) (hn : ∀ n ∈ L, n < 10000000000) : arcsO (txA L) = some L := by
  have hl := okA_len h
  have h1 := txA_len L hn
  unfold arcsO
  rw [if_pos (by omega)]
  unfold txA
  rw [sp_jn 46 _ (by intro e; rw [List.map_eq_nil_iff] at e; rw [e] at hl; simp at hl) (fun p hp => by
    obtain ⟨n, _, rfl⟩ := List.mem_map.1 hp
    exact dot_free _ (digs_dec n)), mapM_dec L hn]
  simp [h]

/-- A number in groups of seven bits, all marked; and with the last one unmarked. -/
def svHi (n : Nat) : List Nat := if h : n < 128 then [n + 128] else svHi (n / 128) ++ [n % 128 + 128]
termination_by n
decreasing_by omega
def sv (n : Nat) : List Nat := if n < 128 then [n] else svHi (n / 128) ++ [n % 128]
/-- The numbers that bytes tell, one after the other; what is left of one at the end is dropped. -/
def rdS : Nat → List Nat → List Nat
  | _, [] => []
  | m, x :: l => if 127 < x then rdS (m * 128 + x % 128) l else (m * 128 + x) :: rdS 0 l
theorem rdS_hi (n : Nat) : ∀ r, 0 < n → rdS 0 (svHi n ++ r) = rdS n r := by
  induction n using Nat.strongRecOn with
  | ind n ih =>
    intro r h
    rw [svHi]
    split
    · rw [List.cons_append, rdS, if_pos (by omega)]
      have : 0 * 128 + (n + 128) % 128 = n := by omega
      rw [this]
      rfl
    · rename_i h1
      rw [List.append_assoc, ih (n / 128) (by omega) _ (by omega), List.cons_append, rdS, if_pos (by omega)]
      have : n / 128 * 128 + (n % 128 + 128) % 128 = n := by omega
      rw [this]
      rfl
theorem rdS_sv (n : Nat) (r : List Nat) : rdS 0 (sv n ++ r) = n :: rdS 0 r := by
  unfold sv
  split
  · rw [List.cons_append, rdS, if_neg (by omega), Nat.zero_mul, Nat.zero_add]
    rfl
  · rename_i h
    rw [List.append_assoc, rdS_hi (n / 128) _ (by omega), List.cons_append, rdS, if_neg (by omega)]
    have : n / 128 * 128 + n % 128 = n := by omega
    rw [this]
    rfl
/-- The numbers that are put. -/
def foldA : List Nat → List Nat
  | a :: b :: r => (a * 40 + b) :: r
  | _ => []
def unfoldA : List Nat → List Nat
  | c :: r => min (c / 40) 2 :: (c - 40 * min (c / 40) 2) :: r
  | [] => []
theorem unfold_fold {L : List Nat} (h : okA L = true) : unfoldA (foldA L) = L := by
  match L, h with
  | a :: b :: r, h =>
    simp only [okA, Bool.and_eq_true, Bool.or_eq_true, decide_eq_true_eq] at h
    have e : min ((a * 40 + b) / 40) 2 = a := by omega
    simp only [foldA, unfoldA, e]
    congr 2
    omega
def putA (L : List Nat) : List Nat := (foldA L).flatMap sv
theorem rdS_all : ∀ M : List Nat, rdS 0 (M.flatMap sv) = M
  | [] => rfl
  | n :: M => by rw [List.flatMap_cons, rdS_sv, rdS_all M]
theorem read_put {L : List Nat} (h : okA L = true) : unfoldA (rdS 0 (putA L)) = L := by
  unfold putA
  rw [rdS_all, unfold_fold h]
theorem putA_inj {L M : List Nat} (h1 : okA L = true) (h2 : okA M = true) (h : putA L = putA M) : L = M := by
  rw [← read_put h1, h, read_put h2]
end Go.Proofs.YtkffgdndglfcfaaGreatDoor
