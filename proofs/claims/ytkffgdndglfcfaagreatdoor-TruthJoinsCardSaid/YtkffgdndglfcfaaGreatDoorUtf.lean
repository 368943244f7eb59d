/-
  Characters of UTF-8 and their folds, as data.
-/
import Derived.Test.YtkffgdndglfcfaaGreatDoorRows
namespace Go.Proofs.YtkffgdndglfcfaaGreatDoor

/-- A character's number; its bytes. -/
def uOk (c : Nat) : Prop := c ≤ 1114111 ∧ ¬ (55296 ≤ c ∧ c ≤ 57343)
instance (c : Nat) : Decidable (uOk c) := by unfold uOk; infer_instance
def uEnc (c : Nat) : List Nat :=
  if c < 128 then [c]
  else if c < 2048 then [192 + c / 64, 128 + c % 64]
  else if c < 65536 then [224 + c / 4096, 128 + c / 64 % 64, 128 + c % 64]
  else [240 + c / 262144, 128 + c / 4096 % 64, 128 + c / 64 % 64, 128 + c % 64]
def uCont (d : Nat) : Prop := 128 ≤ d ∧ d ≤ 191
instance (d : Nat) : Decidable (uCont d) := by unfold uCont; infer_instance
def uFin (v least n : Nat) : Nat × Nat := if v < least ∨ ¬ uOk v then (0, 0) else (v, n)
def uTwo (c : Nat) : List Nat → Nat × Nat
  | d :: _ => if uCont d then uFin ((c - 192) * 64 + (d - 128)) 128 2 else (0, 0)
  | _ => (0, 0)
def uThree (c : Nat) : List Nat → Nat × Nat
  | d :: e :: _ => if uCont d ∧ uCont e then uFin (((c - 224) * 64 + (d - 128)) * 64 + (e - 128)) 2048 3 else (0, 0)
  | _ => (0, 0)
def uFour (c : Nat) : List Nat → Nat × Nat
  | d :: e :: f :: _ => if uCont d ∧ uCont e ∧ uCont f then uFin ((((c - 240) * 64 + (d - 128)) * 64 + (e - 128)) * 64 + (f - 128)) 65536 4 else (0, 0)
  | _ => (0, 0)
/-- The character that bytes begin with, and how many bytes it has. -/
def uNext : List Nat → Nat × Nat
  | [] => (0, 0)
  | c :: r =>
    if c < 128 then (c, 1)
    else if 194 ≤ c ∧ c < 224 then uTwo c r
    else if 224 ≤ c ∧ c < 240 then uThree c r
    else if 240 ≤ c ∧ c < 245 then uFour c r
    else (0, 0)
theorem uNext_cons (c : Nat) (r : List Nat) : uNext (c :: r) = if c < 128 then (c, 1) else if 194 ≤ c ∧ c < 224 then uTwo c r else if 224 ≤ c ∧ c < 240 then uThree c r else if 240 ≤ c ∧ c < 245 then uFour c r else (0, 0) := by rw [uNext]
theorem uTwo_cons (c d : Nat) (r : List Nat) : uTwo c (d :: r) = if uCont d then uFin ((c - 192) * 64 + (d - 128)) 128 2 else (0, 0) := by rw [uTwo]
theorem uThree_cons (c d e : Nat) (r : List Nat) : uThree c (d :: e :: r) = if uCont d ∧ uCont e then uFin (((c - 224) * 64 + (d - 128)) * 64 + (e - 128)) 2048 3 else (0, 0) := by rw [uThree]
theorem uFour_cons (c d e f : Nat) (r : List Nat) : uFour c (d :: e :: f :: r) = if uCont d ∧ uCont e ∧ uCont f then uFin ((((c - 240) * 64 + (d - 128)) * 64 + (e - 128)) * 64 + (f - 128)) 65536 4 else (0, 0) := by rw [uFour]
theorem uEnc_pos (c : Nat) : 0 < (uEnc c).length := by
  unfold uEnc
  split
  · simp
  · split
    · simp
    · split <;> simp
theorem uEnc_byte (c : Nat) (h : uOk c) : ∀ x ∈ uEnc c, x < 256 := by
  intro x hx
  unfold uOk at h
  unfold uEnc at hx
  split at hx
  · simp at hx; omega
  · split at hx
    · simp at hx; omega
    · split at hx
      · simp at hx; omega
      · simp at hx; omega
theorem uNext_enc (c : Nat) (m : List Nat) (h : uOk c) : uNext (uEnc c ++ m) = (c, (uEnc c).length) := by
  have h' := h
  unfold uOk at h'
  unfold uEnc
  by_cases h1 : c < 128
  · rw [if_pos h1]
    simp [uNext, h1]
  · rw [if_neg h1]
    by_cases h2 : c < 2048
    · rw [if_pos h2]
      have hv : ((192 + c / 64 - 192) * 64 + (128 + c % 64 - 128)) = c := by omega
      show uNext ((192 + c / 64) :: (128 + c % 64) :: m) = _
      rw [uNext, if_neg (by omega), if_pos (by omega), uTwo, if_pos ⟨by omega, by omega⟩, hv, uFin, if_neg (by intro e; rcases e with e | e; omega; exact e h)]
      rfl
    · rw [if_neg h2]
      by_cases h3 : c < 65536
      · rw [if_pos h3]
        have hv : (((224 + c / 4096 - 224) * 64 + (128 + c / 64 % 64 - 128)) * 64 + (128 + c % 64 - 128)) = c := by omega
        show uNext ((224 + c / 4096) :: (128 + c / 64 % 64) :: (128 + c % 64) :: m) = _
        rw [uNext, if_neg (by omega), if_neg (by omega), if_pos (by omega), uThree, if_pos ⟨⟨by omega, by omega⟩, ⟨by omega, by omega⟩⟩, hv, uFin, if_neg (by intro e; rcases e with e | e; omega; exact e h)]
        rfl
      · rw [if_neg h3]
        have hv : ((((240 + c / 262144 - 240) * 64 + (128 + c / 4096 % 64 - 128)) * 64 + (128 + c / 64 % 64 - 128)) * 64 + (128 + c % 64 - 128)) = c := by omega
        show uNext ((240 + c / 262144) :: (128 + c / 4096 % 64) :: (128 + c / 64 % 64) :: (128 + c % 64) :: m) = _
        rw [uNext, if_neg (by omega), if_neg (by omega), if_neg (by omega), if_pos (by omega), uFour, if_pos ⟨⟨by omega, by omega⟩, ⟨by omega, by omega⟩, ⟨by omega, by omega⟩⟩, hv, uFin, if_neg (by intro e; rcases e with e | e; omega; exact e h)]
        rfl
theorem uFin_ok {v least n : Nat} (h : (uFin v least n).2 ≠ 0) : uFin v least n = (v, n) ∧ least ≤ v ∧ uOk v := by
  unfold uFin at h ⊢
  by_cases h1 : v < least ∨ ¬ uOk v
  · rw [if_pos h1] at h
    exact absurd rfl h
  · rw [if_neg h1]
    by_cases h2 : uOk v
    · exact ⟨rfl, by by_cases h3 : v < least; exact absurd (.inl h3) h1; omega, h2⟩
    · exact absurd (.inr h2) h1
theorem uNext_ok (l : List Nat) (h : (uNext l).2 ≠ 0) : uOk (uNext l).1 ∧ l = uEnc (uNext l).1 ++ l.drop (uNext l).2 ∧ (uNext l).2 = (uEnc (uNext l).1).length := by
  rcases l with _ | ⟨c, r⟩
  · exact absurd rfl h
  · rw [uNext_cons] at h ⊢
    by_cases h1 : c < 128
    · rw [if_pos h1] at h ⊢
      refine ⟨⟨by show c ≤ _; omega, by show ¬ (_ ≤ c ∧ _); omega⟩, ?_⟩
      simp [uEnc, h1]
    · rw [if_neg h1] at h ⊢
      by_cases h2 : 194 ≤ c ∧ c < 224
      · rw [if_pos h2] at h ⊢
        rcases r with _ | ⟨d, r⟩
        · exact absurd rfl h
        · rw [uTwo_cons] at h ⊢
          by_cases hd : uCont d
          · rw [if_pos hd] at h ⊢
            obtain ⟨e1, e2, e3⟩ := uFin_ok h
            rw [e1]
            unfold uCont at hd
            have hE : uEnc ((c - 192) * 64 + (d - 128)) = [c, d] := by
              unfold uEnc
              rw [if_neg (by omega), if_pos (by omega)]
              simp only [List.cons.injEq, and_true]
              omega
            refine ⟨e3, ?_, ?_⟩
            · show _ = uEnc ((c - 192) * 64 + (d - 128)) ++ _
              rw [hE]
              rfl
            · show _ = (uEnc ((c - 192) * 64 + (d - 128))).length
              rw [hE]
              rfl
          · rw [if_neg hd] at h
            exact absurd rfl h
      · rw [if_neg h2] at h ⊢
        by_cases h3 : 224 ≤ c ∧ c < 240
        · rw [if_pos h3] at h ⊢
          rcases r with _ | ⟨d, _ | ⟨e, r⟩⟩
          · exact absurd rfl h
          · exact absurd rfl h
          · rw [uThree_cons] at h ⊢
            by_cases hd : uCont d ∧ uCont e
            · rw [if_pos hd] at h ⊢
              obtain ⟨e1, e2, e3⟩ := uFin_ok h
              rw [e1]
              unfold uCont at hd
              have hE : uEnc (((c - 224) * 64 + (d - 128)) * 64 + (e - 128)) = [c, d, e] := by
                unfold uEnc
                rw [if_neg (by omega), if_neg (by omega), if_pos (by omega)]
                simp only [List.cons.injEq, and_true]
                omega
              refine ⟨e3, ?_, ?_⟩
              · show _ = uEnc (((c - 224) * 64 + (d - 128)) * 64 + (e - 128)) ++ _
                rw [hE]
                rfl
              · show _ = (uEnc (((c - 224) * 64 + (d - 128)) * 64 + (e - 128))).length
                rw [hE]
                rfl
            · rw [if_neg hd] at h
              exact absurd rfl h
        · rw [if_neg h3] at h ⊢
          by_cases h4 : 240 ≤ c ∧ c < 245
          · rw [if_pos h4] at h ⊢
            rcases r with _ | ⟨d, _ | ⟨e, _ | ⟨f, r⟩⟩⟩
            · exact absurd rfl h
            · exact absurd rfl h
            · exact absurd rfl h
            · rw [uFour_cons] at h ⊢
              by_cases hd : uCont d ∧ uCont e ∧ uCont f
              · rw [if_pos hd] at h ⊢
                obtain ⟨e1, e2, e3⟩ := uFin_ok h
                rw [e1]
                unfold uCont at hd
                have e4 := e3.1
                have hE : uEnc ((((c - 240) * 64 + (d - 128)) * 64 + (e - 128)) * 64 + (f - 128)) = [c, d, e, f] := by
                  unfold uEnc
                  rw [if_neg (by omega), if_neg (by omega), if_neg (by omega)]
                  simp only [List.cons.injEq, and_true]
                  omega
                refine ⟨e3, ?_, ?_⟩
                · show _ = uEnc ((((c - 240) * 64 + (d - 128)) * 64 + (e - 128)) * 64 + (f - 128)) ++ _
                  rw [hE]
                  rfl
                · show _ = (uEnc ((((c - 240) * 64 + (d - 128)) * 64 + (e - 128)) * 64 + (f - 128))).length
                  rw [hE]
                  rfl
              · rw [if_neg hd] at h
                exact absurd rfl h
          · rw [if_neg h4] at h
            exact absurd rfl h

/-- The bytes of characters; the characters of bytes. -/
def uEncs (cs : List Nat) : List Nat := cs.flatMap uEnc
theorem uEncs_nil : uEncs [] = [] := rfl
theorem uEncs_cons (c : Nat) (cs : List Nat) : uEncs (c :: cs) = uEnc c ++ uEncs cs := List.flatMap_cons ..
theorem uEncs_app (a b : List Nat) : uEncs (a ++ b) = uEncs a ++ uEncs b := List.flatMap_append ..
def uAll (cs : List Nat) : Prop := ∀ c ∈ cs, uOk c
theorem uEncs_byte (cs : List Nat) (h : uAll cs) : ∀ x ∈ uEncs cs, x < 256 := by
  intro x hx
  obtain ⟨c, hc, hx⟩ := List.mem_flatMap.1 hx
  exact uEnc_byte c (h c hc) x hx
theorem uEncs_len (cs : List Nat) : cs.length ≤ (uEncs cs).length := by
  induction cs with
  | nil => exact Nat.le_refl _
  | cons c cs ih =>
    have := uEnc_pos c
    rw [uEncs_cons, List.length_append, List.length_cons]
    omega
def uCharsR : Nat → List Nat → Option (List Nat)
  | 0, l => if l = [] then some [] else none
  | f + 1, l =>
    if l = [] then some []
    else if (uNext l).2 = 0 then none
    else (uCharsR f (l.drop (uNext l).2)).map ((uNext l).1 :: ·)
def uChars (l : List Nat) : Option (List Nat) := uCharsR l.length l
theorem uCharsR_encs : ∀ (cs : List Nat) (f : Nat), uAll cs → cs.length ≤ f → uCharsR f (uEncs cs) = some cs
  | [], 0, _, _ => rfl
  | [], f + 1, _, _ => by rw [uCharsR, uEncs_nil, if_pos rfl]
  | c :: cs, 0, _, h => by simp at h
  | c :: cs, f + 1, ha, h => by
    have hn := uNext_enc c (uEncs cs) (ha c (List.mem_cons_self ..))
    have hp := uEnc_pos c
    rw [uCharsR, uEncs_cons, hn, if_neg (by intro e; have := congrArg List.length e; rw [List.length_append, List.length_nil] at this; omega), if_neg (by show ¬ _ = 0; omega)]
    show (uCharsR f ((uEnc c ++ uEncs cs).drop (uEnc c).length)).map _ = _
    rw [List.drop_left' rfl, uCharsR_encs cs f (fun x hx => ha x (List.mem_cons_of_mem _ hx)) (by simpa using h)]
    rfl
theorem uCharsR_some : ∀ (f : Nat) (l cs : List Nat), uCharsR f l = some cs → uAll cs ∧ l = uEncs cs
  | 0, l, cs, h => by
    unfold uCharsR at h
    by_cases h0 : l = []
    · rw [if_pos h0] at h
      injection h with h
      subst h
      exact ⟨fun c hc => (by cases hc), h0⟩
    · rw [if_neg h0] at h
      cases h
  | f + 1, l, cs, h => by
    unfold uCharsR at h
    by_cases h0 : l = []
    · rw [if_pos h0] at h
      injection h with h
      subst h
      exact ⟨fun c hc => (by cases hc), h0⟩
    · rw [if_neg h0] at h
      by_cases h1 : (uNext l).2 = 0
      · rw [if_pos h1] at h
        cases h
      · rw [if_neg h1] at h
        obtain ⟨r, hr, rfl⟩ := Option.map_eq_some_iff.1 h
        obtain ⟨h2, h3, h4⟩ := uNext_ok l h1
        obtain ⟨h5, h6⟩ := uCharsR_some f _ _ hr
        refine ⟨fun c hc => ?_, ?_⟩
        · rcases List.mem_cons.1 hc with rfl | hc
          · exact h2
          · exact h5 c hc
        · rw [uEncs_cons, ← h6]
          exact h3
theorem uChars_encs (cs : List Nat) (h : uAll cs) : uChars (uEncs cs) = some cs := uCharsR_encs cs _ h (uEncs_len cs)
theorem uChars_some {l cs : List Nat} (h : uChars l = some cs) : uAll cs ∧ l = uEncs cs := uCharsR_some _ _ _ h
/-- By characters, one by one. -/
theorem uChars_nil : uChars [] = some [] := rfl
theorem uChars_bad (l : List Nat) (h0 : l ≠ []) (h : (uNext l).2 = 0) : uChars l = none := by
  unfold uChars
  rcases l with _ | ⟨c, r⟩
  · exact absurd rfl h0
  · rw [List.length_cons, uCharsR, if_neg h0, if_pos h]
theorem uCharsR_more : ∀ (f g : Nat) (l : List Nat), l.length ≤ f → l.length ≤ g → uCharsR f l = uCharsR g l
  | 0, 0, _, _, _ => rfl
  | 0, g + 1, l, h, _ => by
    have : l = [] := List.eq_nil_of_length_eq_zero (by omega)
    rw [uCharsR, uCharsR, if_pos this, if_pos this]
  | f + 1, 0, l, _, h => by
    have : l = [] := List.eq_nil_of_length_eq_zero (by omega)
    rw [uCharsR, uCharsR, if_pos this, if_pos this]
  | f + 1, g + 1, l, hf, hg => by
    rw [uCharsR, uCharsR]
    by_cases h0 : l = []
    · rw [if_pos h0, if_pos h0]
    · rw [if_neg h0, if_neg h0]
      by_cases h1 : (uNext l).2 = 0
      · rw [if_pos h1, if_pos h1]
      · rw [if_neg h1, if_neg h1]
        have : 0 < l.length := List.length_pos_iff.2 h0
        rw [uCharsR_more f g _ (by rw [List.length_drop]; omega) (by rw [List.length_drop]; omega)]
theorem uChars_step (l : List Nat) (h0 : l ≠ []) (h : (uNext l).2 ≠ 0) : uChars l = (uChars (l.drop (uNext l).2)).map ((uNext l).1 :: ·) := by
  have hl : 0 < l.length := List.length_pos_iff.2 h0
  have e : uCharsR (l.length - 1) (l.drop (uNext l).2) = uChars (l.drop (uNext l).2) := uCharsR_more _ _ _ (by rw [List.length_drop]; omega) (Nat.le_refl _)
  rw [← e]
  unfold uChars
  obtain ⟨f, hf⟩ : ∃ f, l.length = f + 1 := ⟨l.length - 1, by omega⟩
  rw [hf, uCharsR, if_neg h0, if_neg h, Nat.add_sub_cancel]
theorem uNext_le (l : List Nat) : (uNext l).2 ≤ l.length := by
  by_cases h : (uNext l).2 = 0
  · omega
  · obtain ⟨_, h2, h3⟩ := uNext_ok l h
    have := congrArg List.length h2
    rw [List.length_append, List.length_drop] at this
    have hp := uEnc_pos (uNext l).1
    omega
theorem uFin_zero (v least n : Nat) (hn : n ≠ 0) (h : (uFin v least n).2 = 0) : uFin v least n = (0, 0) := by
  unfold uFin at h ⊢
  by_cases h1 : v < least ∨ ¬ uOk v
  · rw [if_pos h1]
  · rw [if_neg h1] at h
    exact absurd h hn
theorem uNext_zero (l : List Nat) (h : (uNext l).2 = 0) : uNext l = (0, 0) := by
  rcases l with _ | ⟨c, r⟩
  · rfl
  · rw [uNext_cons] at h ⊢
    by_cases h1 : c < 128
    · rw [if_pos h1] at h
      exact absurd h (Nat.succ_ne_zero 0)
    · rw [if_neg h1] at h ⊢
      by_cases h2 : 194 ≤ c ∧ c < 224
      · rw [if_pos h2] at h ⊢
        rcases r with _ | ⟨d, r⟩
        · rfl
        · rw [uTwo_cons] at h ⊢
          by_cases hd : uCont d
          · rw [if_pos hd] at h ⊢
            exact uFin_zero _ _ _ (by decide) h
          · rw [if_neg hd]
      · rw [if_neg h2] at h ⊢
        by_cases h3 : 224 ≤ c ∧ c < 240
        · rw [if_pos h3] at h ⊢
          rcases r with _ | ⟨d, _ | ⟨e, r⟩⟩
          · rfl
          · rfl
          · rw [uThree_cons] at h ⊢
            by_cases hd : uCont d ∧ uCont e
            · rw [if_pos hd] at h ⊢
              exact uFin_zero _ _ _ (by decide) h
            · rw [if_neg hd]
        · rw [if_neg h3] at h ⊢
          by_cases h4 : 240 ≤ c ∧ c < 245
          · rw [if_pos h4] at h ⊢
            rcases r with _ | ⟨d, _ | ⟨e, _ | ⟨f, r⟩⟩⟩
            · rfl
            · rfl
            · rfl
            · rw [uFour_cons] at h ⊢
              by_cases hd : uCont d ∧ uCont e ∧ uCont f
              · rw [if_pos hd] at h ⊢
                exact uFin_zero _ _ _ (by decide) h
              · rw [if_neg hd]
          · rw [if_neg h4]
theorem uNext_lt (l : List Nat) : (uNext l).1 ≤ 1114111 := by
  by_cases h : (uNext l).2 = 0
  · rw [uNext_zero l h]
    exact Nat.zero_le _
  · exact (uNext_ok l h).1.1
/-- How many characters bytes have. -/
def uCount (l : List Nat) : Option Nat := (uChars l).map List.length
theorem uChars_app {a b cs ds : List Nat} (h1 : uChars a = some cs) (h2 : uChars b = some ds) : uChars (a ++ b) = some (cs ++ ds) := by
  obtain ⟨h3, rfl⟩ := uChars_some h1
  obtain ⟨h4, rfl⟩ := uChars_some h2
  rw [← uEncs_app]
  exact uChars_encs _ fun c hc => by
    rcases List.mem_append.1 hc with hc | hc
    · exact h3 c hc
    · exact h4 c hc

/-- White space, what is ignored, small letters. -/
def uBlank (c : Nat) : Bool := decide (9 ≤ c ∧ c ≤ 13 ∨ c = 32 ∨ c = 133 ∨ c = 160)
def uNone (c : Nat) : Bool := decide (c < 32 ∧ ¬ (9 ≤ c ∧ c ≤ 13) ∨ c = 127 ∨ c = 173 ∨ c = 8203)
def uSmall (c : Nat) : Nat := if 65 ≤ c ∧ c ≤ 90 ∨ 192 ≤ c ∧ c ≤ 222 ∧ c ≠ 215 then c + 32 else c
theorem uSmall_ok (c : Nat) (h : uOk c) : uOk (uSmall c) := by
  unfold uOk at *
  unfold uSmall
  split <;> omega
theorem uSmall_small (c : Nat) : uSmall (uSmall c) = uSmall c := by
  unfold uSmall
  by_cases h : 65 ≤ c ∧ c ≤ 90 ∨ 192 ≤ c ∧ c ≤ 222 ∧ c ≠ 215
  · rw [if_pos h, if_neg (by omega)]
  · rw [if_neg h, if_neg h]
theorem uSmall_blank (c : Nat) : uBlank (uSmall c) = uBlank c := by
  unfold uBlank uSmall
  split
  · rw [decide_eq_decide]; omega
  · rfl
theorem uSmall_none (c : Nat) : uNone (uSmall c) = uNone c := by
  unfold uNone uSmall
  split
  · rw [decide_eq_decide]; omega
  · rfl
theorem uSmall_len (c : Nat) : (uEnc (uSmall c)).length = (uEnc c).length := by
  unfold uSmall
  split
  · rename_i h
    unfold uEnc
    by_cases h1 : c < 128
    · rw [if_pos (by omega), if_pos h1]
      rfl
    · rw [if_neg (by omega), if_neg h1, if_pos (by omega), if_pos (by omega)]
      rfl
  · rfl
/-- What characters are prepared as: b: there was white space; f: nothing stands ahead. -/
def uPrep (e g : Bool) : Bool → Bool → List Nat → List Nat
  | b, _, [] => if b && e then [32] else []
  | b, f, c :: cs =>
    if uNone c then uPrep e g b f cs
    else if uBlank c then uPrep e g true f cs
    else (if b && (!f || e) then [32] else []) ++ (if g then uSmall c else c) :: uPrep e g false false cs
theorem uPrep_nil (e g b f : Bool) : uPrep e g b f [] = if b && e then [32] else [] := by rw [uPrep]
theorem uPrep_cons (e g b f : Bool) (c : Nat) (cs : List Nat) : uPrep e g b f (c :: cs) = if uNone c then uPrep e g b f cs else if uBlank c then uPrep e g true f cs else (if b && (!f || e) then [32] else []) ++ (if g then uSmall c else c) :: uPrep e g false false cs := by rw [uPrep]
theorem uPrep_ok (e g : Bool) : ∀ (cs : List Nat) (b f : Bool), uAll cs → uAll (uPrep e g b f cs)
  | [], b, f, _ => by
    intro x hx
    rw [uPrep_nil] at hx
    split at hx
    · have : x = 32 := by simpa using hx
      rw [this]
      decide
    · cases hx
  | c :: cs, b, f, h => by
    have h1 : uAll cs := fun x hx => h x (List.mem_cons_of_mem _ hx)
    have hc := h c (List.mem_cons_self ..)
    rw [uPrep_cons]
    split
    · exact uPrep_ok e g cs b f h1
    · split
      · exact uPrep_ok e g cs true f h1
      · intro x hx
        rcases List.mem_append.1 hx with hx | hx
        · split at hx
          · have : x = 32 := by simpa using hx
            rw [this]
            decide
          · cases hx
        · rcases List.mem_cons.1 hx with hx | hx
          · rw [hx]
            split
            · exact uSmall_ok c hc
            · exact hc
          · exact uPrep_ok e g cs false false h1 x hx
theorem uPrep_len (e g : Bool) : ∀ (cs : List Nat) (b f : Bool), (uEncs (uPrep e g b f cs)).length ≤ (uEncs cs).length + (if b then 1 else 0)
  | [], b, f => by
    rw [uPrep_nil]
    cases b <;> cases e <;> simp [uEncs, uEnc]
  | c :: cs, b, f => by
    have hp := uEnc_pos c
    rw [uPrep_cons]
    rw [uEncs_cons, List.length_append]
    split
    · have := uPrep_len e g cs b f
      omega
    · split
      · have h9 := uPrep_len e g cs true f
        simp only [if_true] at h9
        omega
      · have h9 := uPrep_len e g cs false false
        have hs := uSmall_len c
        rw [uEncs_app, uEncs_cons, List.length_append, List.length_append]
        have h8 : (uEnc (if g then uSmall c else c)).length = (uEnc c).length := by cases g <;> simp [hs]
        have h7 : (uEncs (if b && (!f || e) then [32] else [])).length ≤ (if b then 1 else 0) := by
          cases b
          · simp [uEncs]
          · cases f <;> cases e <;> simp [uEncs, uEnc]
        rw [h8]
        simp only [Bool.false_eq_true, if_false] at h9
        omega
/-- The fold of what was prepared is the fold. -/
theorem uFold_prep (e g : Bool) : ∀ (cs : List Nat) (b f bt fs : Bool), (fs = true → e = true ∨ f = true) → uPrep false true b f (uPrep e g bt fs cs) = uPrep false true (b || bt) f cs
  | [], b, f, bt, fs, _ => by
    have h0 : ∀ b f, uPrep false true b f [] = [] := fun b f => by rw [uPrep_nil]; simp
    rw [h0, uPrep_nil]
    by_cases h : (bt && e) = true
    · rw [if_pos h, uPrep_cons, if_neg (by decide), if_pos (by decide), h0]
    · rw [if_neg h, h0]
  | c :: cs, b, f, bt, fs, hc => by
    conv => rhs; rw [uPrep_cons]
    conv => lhs; arg 5; rw [uPrep_cons]
    by_cases h1 : uNone c = true
    · rw [if_pos h1, if_pos h1]
      exact uFold_prep e g cs b f bt fs hc
    · rw [if_neg h1, if_neg h1]
      by_cases h2 : uBlank c = true
      · rw [if_pos h2, if_pos h2, uFold_prep e g cs b f true fs hc, Bool.or_true]
      · rw [if_neg h2, if_neg h2]
        have hg1 : uNone (if g then uSmall c else c) ≠ true := by cases g <;> simp [uSmall_none, h1]
        have hg2 : uBlank (if g then uSmall c else c) ≠ true := by cases g <;> simp [uSmall_blank, h2]
        have hg3 : uSmall (if g then uSmall c else c) = uSmall c := by cases g <;> simp [uSmall_small]
        have step : ∀ b', uPrep false true b' f ((if g then uSmall c else c) :: uPrep e g false false cs) = (if b' && (!f || false) then [32] else []) ++ uSmall c :: uPrep false true false false cs := fun b' => by
          rw [uPrep_cons, if_neg hg1, if_neg hg2, uFold_prep e g cs false false false false (by simp)]
          simp [hg3]
        by_cases h3 : (bt && (!fs || e)) = true
        · rw [if_pos h3]
          show uPrep false true b f (32 :: (if g then uSmall c else c) :: uPrep e g false false cs) = _
          rw [uPrep_cons, if_neg (by decide), if_pos (by decide), step]
          have : bt = true := by
            cases bt
            · simp at h3
            · rfl
          rw [this, Bool.or_true]
          rfl
        · rw [if_neg h3]
          show uPrep false true b f ((if g then uSmall c else c) :: uPrep e g false false cs) = _
          rw [step]
          simp only [if_true]
          congr 1
          cases f
          · have hbt : bt = false := by
              cases bt
              · rfl
              · exfalso
                cases fs
                · simp at h3
                · have := hc rfl
                  simp at this
                  rw [this] at h3
                  simp at h3
            rw [hbt, Bool.or_false, Bool.or_false]
          · simp
/-- White space ahead does not matter to a fold; nor what stands behind. -/
theorem uFold_ahead (cs : List Nat) : uPrep false true true true cs = uPrep false true false true cs := by
  induction cs with
  | nil => rfl
  | cons c cs ih =>
    rw [uPrep_cons, uPrep_cons]
    by_cases h1 : uNone c = true
    · rw [if_pos h1, if_pos h1, ih]
    · rw [if_neg h1, if_neg h1]
      by_cases h2 : uBlank c = true
      · rw [if_pos h2, if_pos h2]
      · rw [if_neg h2, if_neg h2]
        rfl
theorem uFold_behind (ds : List Nat) (hd : ∀ d ∈ ds, uNone d = true ∨ uBlank d = true) : ∀ (cs : List Nat) (b f : Bool), uPrep false true b f (cs ++ ds) = uPrep false true b f cs
  | [], b, f => by
    rw [List.nil_append]
    have h0 : ∀ b f, uPrep false true b f [] = [] := fun b f => by rw [uPrep_nil]; simp
    rw [h0]
    induction ds generalizing b with
    | nil => exact h0 b f
    | cons d ds ih =>
      rw [uPrep_cons]
      have ih' := fun b => ih (fun x hx => hd x (List.mem_cons_of_mem _ hx)) b
      rcases hd d (List.mem_cons_self ..) with h | h
      · rw [if_pos h, ih']
      · split
        · rw [ih']
        · rw [ih']
  | c :: cs, b, f => by
    rw [List.cons_append, uPrep_cons, uPrep_cons]
    rw [uFold_behind ds hd cs b f, uFold_behind ds hd cs true f, uFold_behind ds hd cs false false]
/-- Pieces of joined texts. -/
theorem uPiece_first (cs : List Nat) : ∀ (b f f' : Bool), uPrep true true b f cs = uPrep true true b f' cs := by
  induction cs with
  | nil => intro b f f'; rfl
  | cons c cs ih =>
    intro b f f'
    rw [uPrep_cons, uPrep_cons]
    rw [ih b f f', ih true f f']
    simp
theorem uPiece_prep (ds : List Nat) : ∀ (cs : List Nat) (b f bt fs : Bool), uPrep true true b f (uPrep true true bt fs cs ++ ds) = uPrep true true (b || bt) f (cs ++ ds)
  | [], b, f, bt, fs => by
    rw [uPrep_nil]
    cases bt
    · simp
    · show uPrep true true b f (32 :: ds) = uPrep true true (b || true) f ds
      rw [uPrep_cons, if_neg (by decide), if_pos (by decide), Bool.or_true]
  | c :: cs, b, f, bt, fs => by
    conv => lhs; arg 5; arg 1; rw [uPrep_cons]
    conv => rhs; rw [List.cons_append, uPrep_cons]
    by_cases h1 : uNone c = true
    · rw [if_pos h1, if_pos h1]
      exact uPiece_prep ds cs b f bt fs
    · rw [if_neg h1, if_neg h1]
      by_cases h2 : uBlank c = true
      · rw [if_pos h2, if_pos h2, uPiece_prep ds cs b f true fs, Bool.or_true]
      · rw [if_neg h2, if_neg h2]
        have hg1 : uNone (uSmall c) ≠ true := by simp [uSmall_none, h1]
        have hg2 : uBlank (uSmall c) ≠ true := by simp [uSmall_blank, h2]
        have step : ∀ b', uPrep true true b' f (uSmall c :: (uPrep true true false false cs ++ ds)) = (if b' && (!f || true) then [32] else []) ++ uSmall c :: uPrep true true false false (cs ++ ds) := fun b' => by
          rw [uPrep_cons, if_neg hg1, if_neg hg2, uPiece_prep ds cs false false false false]
          simp [uSmall_small]
        cases bt
        · show uPrep true true b f (uSmall c :: (uPrep true true false false cs ++ ds)) = _
          rw [step, Bool.or_false]
          rfl
        · have hb : (true && (!fs || true)) = true := by simp
          rw [if_pos hb]
          show uPrep true true b f (32 :: uSmall c :: (uPrep true true false false cs ++ ds)) = _
          rw [uPrep_cons, if_neg (by decide), if_pos (by decide), step]
          simp
theorem uPiece_behind (ds : List Nat) : ∀ (cs : List Nat) (b f : Bool), uPrep true true b f (cs ++ uPrep true true false true ds) = uPrep true true b f (cs ++ ds)
  | [], b, f => by
    rw [List.nil_append, List.nil_append]
    have := uPiece_prep [] ds b f false true
    rw [List.append_nil, List.append_nil, Bool.or_false] at this
    exact this
  | c :: cs, b, f => by
    rw [List.cons_append, List.cons_append, uPrep_cons, uPrep_cons]
    rw [uPiece_behind ds cs b f, uPiece_behind ds cs true f, uPiece_behind ds cs false false]
theorem uPiece_join (cs ds : List Nat) : uPrep true true false true (uPrep true true false true cs ++ uPrep true true false true ds) = uPrep true true false true (cs ++ ds) := by
  rw [uPiece_prep, uPiece_behind]
  rfl
/-- What bytes are prepared as. -/
def uText (e g : Bool) (l : List Nat) : List Nat :=
  match uChars l with
  | none => l
  | some cs => uEncs (uPrep e g false true cs)
theorem uText_bad (e g : Bool) (l : List Nat) (h : uChars l = none) : uText e g l = l := by unfold uText; rw [h]
theorem uText_some (e g : Bool) (l cs : List Nat) (h : uChars l = some cs) : uText e g l = uEncs (uPrep e g false true cs) := by unfold uText; rw [h]
theorem uText_chars (e g : Bool) (l cs : List Nat) (h : uChars l = some cs) : uChars (uText e g l) = some (uPrep e g false true cs) := by
  rw [uText_some e g l cs h]
  exact uChars_encs _ (uPrep_ok e g cs false true (uChars_some h).1)
theorem uText_byte (e g : Bool) (l : List Nat) (hb : ∀ x ∈ l, x < 256) : ∀ x ∈ uText e g l, x < 256 := by
  rcases h : uChars l with _ | cs
  · rw [uText_bad e g l h]
    exact hb
  · rw [uText_some e g l cs h]
    exact uEncs_byte _ (uPrep_ok e g cs false true (uChars_some h).1)
theorem uText_len (e g : Bool) (l : List Nat) : (uText e g l).length ≤ l.length := by
  rcases h : uChars l with _ | cs
  · rw [uText_bad e g l h]
    exact Nat.le_refl _
  · rw [uText_some e g l cs h]
    have := uPrep_len e g cs false true
    rw [← (uChars_some h).2] at this
    simpa using this
theorem uText_fold (e g : Bool) (l cs : List Nat) (h : uChars l = some cs) : uText false true (uText e g l) = uText false true l := by
  rw [uText_some false true _ _ (uText_chars e g l cs h), uText_some false true l cs h, uFold_prep e g cs false true false true (fun _ => .inr rfl)]
  rfl
theorem uText_ends (l cs : List Nat) (h : uChars l = some cs) : uText false true ([32, 9] ++ l ++ [1, 194, 160]) = uText false true l := by
  have h1 : uChars [32, 9] = some [32, 9] := by decide +kernel
  have h2 : uChars [1, 194, 160] = some [1, 160] := by decide +kernel
  rw [uText_some false true _ _ (uChars_app (uChars_app h1 h) h2), uText_some false true l cs h, uFold_behind [1, 160] (by decide)]
  congr 1
  show uPrep false true false true (32 :: 9 :: cs) = _
  rw [uPrep_cons, if_neg (by decide), if_pos (by decide), uPrep_cons, if_neg (by decide), if_pos (by decide), uFold_ahead]
theorem uText_join (a b cs ds : List Nat) (h1 : uChars a = some cs) (h2 : uChars b = some ds) : uText true true (uText true true a ++ uText true true b) = uText true true (a ++ b) := by
  rw [uText_some true true _ _ (uChars_app (uText_chars true true a cs h1) (uText_chars true true b ds h2)), uText_some true true _ _ (uChars_app h1 h2), uPiece_join]

/-- Digits with blanks between them. -/
def uNumOk (l : List Nat) : Bool := l.all fun c => decide (48 ≤ c ∧ c ≤ 57 ∨ c = 32)
def uDigits (l : List Nat) : List Nat := l.filter fun c => decide (48 ≤ c ∧ c ≤ 57)
def uNum (l : List Nat) : List Nat × Bool := if uNumOk l = true then (uDigits l, decide (uDigits l ≠ [])) else ([], false)
theorem uNum_blanks (a b : List Nat) : uNum (a ++ [32, 32] ++ b) = uNum (a ++ b) := by
  unfold uNum uNumOk uDigits
  simp [List.all_append, List.filter_append]
theorem uNum_other (a b : List Nat) : (uNum (a ++ [120] ++ b)).2 = false := by
  unfold uNum uNumOk
  rw [if_neg (by simp [List.all_append])]
theorem uNum_again (l : List Nat) (h : (uNum l).2 = true) : uNum (uNum l).1 = ((uNum l).1, true) := by
  unfold uNum at h ⊢
  by_cases h1 : uNumOk l = true
  · rw [if_pos h1] at h ⊢
    have h2 : uNumOk (uDigits l) = true := by
      unfold uNumOk uDigits
      rw [List.all_eq_true]
      intro x hx
      have := (List.mem_filter.1 hx).2
      simp only [decide_eq_true_eq] at this ⊢
      exact .inl this
    have h3 : uDigits (uDigits l) = uDigits l := by
      unfold uDigits
      rw [List.filter_filter]
      simp
    rw [if_pos h2, h3]
    simp only [Prod.mk.injEq, true_and]
    exact h
  · rw [if_neg h1] at h
    cases h
end Go.Proofs.YtkffgdndglfcfaaGreatDoor
