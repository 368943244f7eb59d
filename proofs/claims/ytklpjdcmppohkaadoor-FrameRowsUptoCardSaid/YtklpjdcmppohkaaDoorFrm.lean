/-
  Frames as data: what a record's frame is, what bytes are scanned as.
-/
import Derived.Test.YtklpjdcmppohkaaDoorRefOpen
namespace Go.Proofs.YtklpjdcmppohkaaDoor

/-- Four bytes of a number, highest first. -/
def bes (n : Nat) : List Nat := [n / 16777216 % 256, n / 65536 % 256, n / 256 % 256, n % 256]
theorem bes_len (n : Nat) : (bes n).length = 4 := rfl
theorem bes_byte (n : Nat) : ∀ x ∈ bes n, x < 256 := by
  intro x hx
  simp only [bes, List.mem_cons, List.not_mem_nil, or_false] at hx
  omega
/-- The frame of a record. -/
def sealP (l : List Nat) : List Nat := (bes l.length ++ l) ++ les 4 (sumN (bes l.length ++ l))
theorem sealP_len (l : List Nat) : (sealP l).length = l.length + 8 := by
  unfold sealP
  rw [List.length_append, List.length_append, les_len, bes_len]
  omega
theorem sealP_byte (l : List Nat) (h : ∀ x ∈ l, x < 256) : ∀ x ∈ sealP l, x < 256 := by
  intro x hx
  unfold sealP at hx
  rcases List.mem_append.1 hx with hx | hx
  · rcases List.mem_append.1 hx with hx | hx
    · exact bes_byte _ x hx
    · exact h x hx
  · exact les_byte _ _ x hx
theorem sumN_lt (l : List Nat) (h : ∀ x ∈ l, x < 256) : sumN l < 4294967296 := by
  unfold sumN
  exact Nat.xor_lt_two_pow (n := 32) (crc_lt l _ (by omega) h) (by omega)
theorem at4_app (l m : List Nat) (k : Nat) (h : k < l.length) : at4 (l ++ m) k = at4 l k := by
  unfold at4
  rw [List.getD_eq_getElem?_getD, List.getD_eq_getElem?_getD, List.getElem?_append_left h]
theorem at4_right (l m : List Nat) (k : Nat) : at4 (l ++ m) (l.length + k) = at4 m k := by
  unfold at4
  rw [List.getD_eq_getElem?_getD, List.getD_eq_getElem?_getD, List.getElem?_append_right (by omega), Nat.add_sub_cancel_left]
theorem at4_take (l : List Nat) (n k : Nat) (h : k < n) : at4 (l.take n) k = at4 l k := by
  unfold at4
  rw [List.getD_eq_getElem?_getD, List.getD_eq_getElem?_getD, List.getElem?_take, if_pos h]
theorem lenF_bes (n : Nat) (m : List Nat) (h : n < 4294967296) : lenF (bes n ++ m) = n := by
  unfold lenF be4 at4 bes
  simp
  omega
theorem lenF_take (l : List Nat) (n : Nat) (h : 4 ≤ n) : lenF (l.take n) = lenF l := by
  unfold lenF
  rw [at4_take _ _ _ (by omega), at4_take _ _ _ (by omega), at4_take _ _ _ (by omega), at4_take _ _ _ (by omega)]
theorem les4 (s : Nat) : les 4 s = [s % 256, s / 256 % 256, s / 65536 % 256, s / 16777216 % 256] := by
  simp [les, Nat.div_div_eq_div_mul]
/-- Four bytes are those of the number that they are. -/
theorem les_be4 (a b c d : Nat) (ha : a < 256) (hb : b < 256) (hc : c < 256) (hd : d < 256) : les 4 (be4 d c b a) = [a, b, c, d] := by
  rw [les4]
  unfold be4
  simp only [List.cons.injEq, and_true]
  omega
theorem sumF_les (l m : List Nat) (n s : Nat) (hl : l.length = n + 4) (hs : s < 4294967296) : sumF (l ++ (les 4 s ++ m)) n = s := by
  have h : ∀ k, k < 4 → at4 (l ++ (les 4 s ++ m)) (n + (4 + k)) = at4 (les 4 s) k := fun k hk => by
    rw [← Nat.add_assoc, ← hl, at4_right, at4_app _ _ _ (by rw [les_len]; exact hk)]
  have e0 := h 0 (by omega)
  have e1 := h 1 (by omega)
  have e2 := h 2 (by omega)
  have e3 := h 3 (by omega)
  unfold sumF
  simp only [Nat.reduceAdd] at e0 e1 e2 e3
  rw [e0, e1, e2, e3, les4]
  unfold be4 at4
  simp
  omega
/-- Bytes of a frame's form are opened just when the register comes to one certain number. -/
theorem sum_ok (m : List Nat) (n : Nat) (hm : m.length = n + 8) (hb : ∀ x ∈ m, x < 256) : sumF m n = sumN (m.take (n + 4)) ↔ crc 4294967295 m = crcN 32 4294967295 := by
  have hR : crc 4294967295 (m.take (n + 4)) < 4294967296 := crc_lt _ _ (by omega) fun x hx => hb x (List.mem_of_mem_take hx)
  have g : ∀ k, k < m.length → at4 m k < 256 := fun k hk => by
    unfold at4
    rw [List.getD_eq_getElem?_getD, List.getElem?_eq_getElem hk]
    exact hb _ (List.getElem_mem hk)
  have hs : sumF m n < 4294967296 := by
    have h4 := g (n + 4) (by omega)
    have h5 := g (n + 5) (by omega)
    have h6 := g (n + 6) (by omega)
    have h7 := g (n + 7) (by omega)
    unfold sumF be4
    omega
  have hd : m.drop (n + 4) = les 4 (sumF m n) := by
    have h4 := g (n + 4) (by omega)
    have h5 := g (n + 5) (by omega)
    have h6 := g (n + 6) (by omega)
    have h7 := g (n + 7) (by omega)
    unfold sumF
    rw [les_be4 _ _ _ _ h4 h5 h6 h7]
    refine List.ext_getElem (by rw [List.length_drop, hm]; show n + 8 - (n + 4) = 4; omega) fun i h1 h2 => ?_
    rw [List.getElem_drop]
    have e : ∀ k (hk : k < m.length), at4 m k = m[k] := fun k hk => by
      unfold at4
      rw [List.getD_eq_getElem?_getD, List.getElem?_eq_getElem hk]
      rfl
    match i, h2 with
    | 0, _ => exact (e _ _).symm
    | 1, _ => exact (e _ _).symm
    | 2, _ => exact (e _ _).symm
    | 3, _ => exact (e _ _).symm
    | i + 4, h2 => exact absurd (show i + 4 < 4 from h2) (by omega)
  unfold sumN
  rw [crc_seal _ _ hR hs, ← hd, ← crc_append, List.take_append_drop]
theorem openP_seal (l m : List Nat) (hl : l.length ≤ 65536) (hb : ∀ x ∈ l, x < 256) : openP (sealP l ++ m) = (l, l.length + 8, 0) := by
  have h0 : lenF (sealP l ++ m) = l.length := by
    unfold sealP
    rw [List.append_assoc, List.append_assoc]
    exact lenF_bes _ _ (by omega)
  have h1 : (sealP l ++ m).length = l.length + 8 + m.length := by rw [List.length_append, sealP_len]
  have hby : ∀ x ∈ bes l.length ++ l, x < 256 := fun x hx => by
    rcases List.mem_append.1 hx with hx | hx
    · exact bes_byte _ x hx
    · exact hb x hx
  have h2 : (sealP l ++ m).take (l.length + 4) = bes l.length ++ l := by
    unfold sealP
    rw [List.append_assoc]
    exact List.take_left' (by rw [List.length_append, bes_len]; omega)
  have h3 : sumF (sealP l ++ m) l.length = sumN (bes l.length ++ l) := by
    unfold sealP
    rw [List.append_assoc]
    exact sumF_les _ _ _ _ (by rw [List.length_append, bes_len]; omega) (sumN_lt _ hby)
  have h4 : ((sealP l ++ m).drop 4).take l.length = l := by
    unfold sealP
    rw [List.append_assoc, List.append_assoc]
    show List.take l.length (l ++ _) = l
    exact List.take_left' rfl
  unfold openP
  rw [h0, h1, h2, h3, h4, if_neg (by omega), if_neg (by omega), if_neg (by omega), if_neg (by simp)]
theorem openP_short (l : List Nat) (k : Nat) (hl : l.length ≤ 65536) (hk : k < l.length + 8) : openP ((sealP l).take k) = ([], 0, 10) := by
  have h1 : ((sealP l).take k).length = k := by rw [List.length_take, sealP_len]; omega
  unfold openP
  rw [h1]
  by_cases h4 : k < 4
  · rw [if_pos h4]
  · have h0 : lenF ((sealP l).take k) = l.length := by
      rw [lenF_take _ _ (by omega)]
      unfold sealP
      rw [List.append_assoc]
      exact lenF_bes _ _ (by omega)
    rw [if_neg h4, h0, if_neg (by omega), if_pos hk]
theorem openP_ok (l : List Nat) (h : (openP l).2.2 = 0) : 8 ≤ (openP l).2.1 ∧ (openP l).2.1 ≤ l.length ∧ (openP l).1.length + 8 = (openP l).2.1 := by
  unfold openP at h ⊢
  by_cases h1 : l.length < 4
  · rw [if_pos h1] at h; simp at h
  · rw [if_neg h1] at h ⊢
    by_cases h2 : 65536 < lenF l
    · rw [if_pos h2] at h; simp at h
    · rw [if_neg h2] at h ⊢
      by_cases h3 : l.length < lenF l + 8
      · rw [if_pos h3] at h; simp at h
      · rw [if_neg h3] at h ⊢
        by_cases h4 : sumF l (lenF l) ≠ sumN (l.take (lenF l + 4))
        · rw [if_pos h4] at h; simp at h
        · rw [if_neg h4]
          simp only [List.length_take, List.length_drop]
          omega
theorem openP_byte (l : List Nat) (hb : ∀ x ∈ l, x < 256) : ∀ x ∈ (openP l).1, x < 256 := by
  intro x hx
  unfold openP at hx
  split at hx
  · cases hx
  · split at hx
    · cases hx
    · split at hx
      · cases hx
      · split at hx
        · cases hx
        · exact hb x (List.mem_of_mem_drop (List.mem_of_mem_take hx))
theorem openP_len (l : List Nat) : (openP l).1.length ≤ 65536 ∧ (openP l).2.1 ≤ 65544 ∧ (openP l).2.2 ≤ 12 := by
  unfold openP
  split
  · simp
  · split
    · simp
    · split
      · simp
      · split
        · simp
        · simp only [List.length_take, List.length_drop]
          omega

/-- What bytes are scanned as. -/
def scanR : Nat → List Nat → List (List Nat) × Nat × Nat
  | 0, _ => ([], 0, 0)
  | f + 1, l =>
    if l.length = 0 then ([], 0, 0)
    else if (openP l).2.2 ≠ 0 then ([], 0, (openP l).2.2)
    else ((openP l).1 :: (scanR f (l.drop (openP l).2.1)).1, (openP l).2.1 + (scanR f (l.drop (openP l).2.1)).2.1, (scanR f (l.drop (openP l).2.1)).2.2)
theorem scanR_more : ∀ (f g : Nat) (l : List Nat), l.length ≤ f → l.length ≤ g → scanR f l = scanR g l
  | 0, 0, _, _, _ => rfl
  | 0, g + 1, l, h, _ => by rw [scanR, scanR, if_pos (by omega)]
  | f + 1, 0, l, _, h => by rw [scanR, scanR, if_pos (by omega)]
  | f + 1, g + 1, l, hf, hg => by
    rw [scanR, scanR]
    by_cases h0 : l.length = 0
    · rw [if_pos h0, if_pos h0]
    · rw [if_neg h0, if_neg h0]
      by_cases h1 : (openP l).2.2 ≠ 0
      · rw [if_pos h1, if_pos h1]
      · rw [if_neg h1, if_neg h1]
        have := openP_ok l (by simpa using h1)
        rw [scanR_more f g _ (by rw [List.length_drop]; omega) (by rw [List.length_drop]; omega)]
def scanP (l : List Nat) : List (List Nat) × Nat × Nat := scanR l.length l
theorem scanP_nil : scanP [] = ([], 0, 0) := rfl
theorem scanP_bad (l : List Nat) (h0 : l.length ≠ 0) (h : (openP l).2.2 ≠ 0) : scanP l = ([], 0, (openP l).2.2) := by
  unfold scanP
  obtain ⟨f, hf⟩ : ∃ f, l.length = f + 1 := ⟨l.length - 1, by omega⟩
  rw [hf, scanR, if_neg h0, if_pos h]
theorem scanP_ok (l : List Nat) (h0 : l.length ≠ 0) (h : (openP l).2.2 = 0) : scanP l = ((openP l).1 :: (scanP (l.drop (openP l).2.1)).1, (openP l).2.1 + (scanP (l.drop (openP l).2.1)).2.1, (scanP (l.drop (openP l).2.1)).2.2) := by
  have ho := openP_ok l h
  have e : scanR (l.length - 1) (l.drop (openP l).2.1) = scanP (l.drop (openP l).2.1) := scanR_more _ _ _ (by rw [List.length_drop]; omega) (Nat.le_refl _)
  rw [← e]
  unfold scanP
  obtain ⟨f, hf⟩ : ∃ f, l.length = f + 1 := ⟨l.length - 1, by omega⟩
  rw [hf, scanR, if_neg h0, if_neg (by simpa using h), Nat.add_sub_cancel]
/-- The frames of records, one behind the other. -/
def cat (L : List (List Nat)) : List Nat := (L.map sealP).flatten
theorem cat_nil : cat [] = [] := rfl
theorem cat_cons (l : List Nat) (L : List (List Nat)) : cat (l :: L) = sealP l ++ cat L := rfl
theorem cat_app (L M : List (List Nat)) : cat (L ++ M) = cat L ++ cat M := by
  unfold cat
  rw [List.map_append, List.flatten_append]
theorem cat_snoc (L : List (List Nat)) (l : List Nat) : cat (L ++ [l]) = cat L ++ sealP l := by
  rw [cat_app, cat_cons, cat_nil, List.append_nil]
/-- Records that fit. -/
def okL (L : List (List Nat)) : Prop := ∀ l ∈ L, l.length ≤ 65536 ∧ ∀ x ∈ l, x < 256
theorem scanP_cat : ∀ (L : List (List Nat)) (m : List Nat), okL L → scanP (cat L ++ m) = (L ++ (scanP m).1, (cat L).length + (scanP m).2.1, (scanP m).2.2)
  | [], m, _ => by
    rw [cat_nil]
    simp
  | l :: L, m, h => by
    have hl := h l (List.mem_cons_self ..)
    have ho := openP_seal l (cat L ++ m) hl.1 hl.2
    have hd : (sealP l ++ (cat L ++ m)).drop (l.length + 8) = cat L ++ m := List.drop_left' (by rw [sealP_len])
    rw [cat_cons, List.append_assoc, scanP_ok _ (by rw [List.length_append, sealP_len]; omega) (by rw [ho]), ho]
    simp only []
    rw [hd, scanP_cat L m fun x hx => h x (List.mem_cons_of_mem _ hx)]
    simp only [List.cons_append, List.length_append, sealP_len, Nat.add_assoc]
theorem scanP_cut (l : List Nat) (k : Nat) (hl : l.length ≤ 65536) (hk : k < l.length + 8) : scanP ((sealP l).take k) = ([], 0, if k = 0 then 0 else 10) := by
  by_cases h0 : k = 0
  · subst h0
    rw [if_pos rfl, List.take_zero]
    rfl
  · rw [if_neg h0]
    have ho := openP_short l k hl hk
    rw [scanP_bad _ (by rw [List.length_take, sealP_len]; omega) (by rw [ho]; simp), ho]
end Go.Proofs.YtklpjdcmppohkaaDoor
