/-
  Characters as the library decodes and encodes them, as data.
-/
import Derived.Test.YtbdbgiecfkgimaaDoorFDat
import Derived.Lib.MapLaws
import Derived.Lib.TrimByte
import Derived.Lib.DecodeN
namespace Go.Proofs.YtbdbgiecfkgimaaDoor
open Go.RowKit

theorem uNext_one' (a : Nat) (h : 128 ≤ a) : uNext [a] = (0, 0) := by
  rw [uNext_cons, if_neg (by omega)]
  split
  · rfl
  · split
    · rfl
    · split <;> rfl
theorem uFin_pos {v least n : Nat} (h : least ≤ v) (h1 : v ≤ 1114111) (h2 : ¬ (55296 ≤ v ∧ v ≤ 57343)) : uFin v least n = (v, n) := by
  unfold uFin
  rw [if_neg]
  unfold uOk
  omega
theorem uFin_neg {v least n : Nat} (h : v < least ∨ 1114111 < v ∨ (55296 ≤ v ∧ v ≤ 57343)) : uFin v least n = (0, 0) := by
  unfold uFin
  rw [if_pos]
  unfold uOk
  omega
theorem uCont_div (d : Nat) (h : d < 256) : uCont d ↔ d / 64 = 2 := by
  unfold uCont
  omega
/-- The model's decoder and the document's. -/
theorem dec_two (n b0 b1 b2 b3 : Nat) (r : List Nat) (h0 : 194 ≤ b0 ∧ b0 < 224) (hb1 : b1 < 256) (hn : 1 < n) :
    Lib.decodeN n b0 b1 b2 b3 = if (uTwo b0 (b1 :: r)).2 = 0 then (65533, 1) else uTwo b0 (b1 :: r) := by
  unfold Lib.decodeN
  rw [uTwo_cons, if_neg (by omega)]
  by_cases hc : uCont b1
  · rw [if_pos hc]
    have hd := (uCont_div b1 hb1).1 hc
    rw [if_pos ⟨by omega, hn, hd⟩]
    unfold uCont at hc
    have e : (b0 - 192) * 64 + (b1 - 128) = b0 % 32 * 64 + b1 % 64 := by omega
    rw [e, if_pos (show b0 % 32 * 64 + b1 % 64 ≥ 128 by omega), uFin_pos (by omega) (by omega) (by omega), if_neg (by simp)]
  · rw [if_neg hc]
    have hd : ¬ b1 / 64 = 2 := fun h => hc ((uCont_div b1 hb1).2 h)
    rw [if_neg (by omega), if_neg (by omega), if_neg (by omega), if_pos rfl]
theorem dec_three (n b0 b1 b2 b3 : Nat) (r : List Nat) (h0 : 224 ≤ b0 ∧ b0 < 240) (hb1 : b1 < 256) (hb2 : b2 < 256) (hn : 2 < n) :
    Lib.decodeN n b0 b1 b2 b3 = if (uThree b0 (b1 :: b2 :: r)).2 = 0 then (65533, 1) else uThree b0 (b1 :: b2 :: r) := by
  unfold Lib.decodeN
  rw [uThree_cons, if_neg (by omega), if_neg (by omega)]
  by_cases hc : uCont b1 ∧ uCont b2
  · rw [if_pos hc]
    have hd := (uCont_div b1 hb1).1 hc.1
    have hd2 := (uCont_div b2 hb2).1 hc.2
    rw [if_pos ⟨by omega, ⟨by omega, hd⟩, hn, hd2⟩]
    unfold uCont at hc
    have e : ((b0 - 224) * 64 + (b1 - 128)) * 64 + (b2 - 128) = b0 % 16 * 4096 + b1 % 64 * 64 + b2 % 64 := by omega
    rw [e]
    by_cases hv : b0 % 16 * 4096 + b1 % 64 * 64 + b2 % 64 ≥ 2048 ∧ (b0 % 16 * 4096 + b1 % 64 * 64 + b2 % 64 < 55296 ∨ (57344 ≤ b0 % 16 * 4096 + b1 % 64 * 64 + b2 % 64 ∧ b0 % 16 * 4096 + b1 % 64 * 64 + b2 % 64 ≤ 1114111))
    · rw [if_pos hv, uFin_pos (by omega) (by omega) (by omega), if_neg (by simp)]
    · rw [if_neg hv, uFin_neg (by omega), if_pos rfl]
  · rw [if_neg hc]
    have hd : ¬ (b1 / 64 = 2 ∧ b2 / 64 = 2) := fun h => hc ⟨(uCont_div b1 hb1).2 h.1, (uCont_div b2 hb2).2 h.2⟩
    rw [if_neg (by omega), if_neg (by omega), if_pos rfl]
theorem dec_four (n b0 b1 b2 b3 : Nat) (r : List Nat) (h0 : 240 ≤ b0 ∧ b0 < 245) (hb1 : b1 < 256) (hb2 : b2 < 256) (hb3 : b3 < 256) (hn : 3 < n) :
    Lib.decodeN n b0 b1 b2 b3 = if (uFour b0 (b1 :: b2 :: b3 :: r)).2 = 0 then (65533, 1) else uFour b0 (b1 :: b2 :: b3 :: r) := by
  unfold Lib.decodeN
  rw [uFour_cons, if_neg (by omega), if_neg (by omega), if_neg (by omega)]
  by_cases hc : uCont b1 ∧ uCont b2 ∧ uCont b3
  · rw [if_pos hc]
    have hd := (uCont_div b1 hb1).1 hc.1
    have hd2 := (uCont_div b2 hb2).1 hc.2.1
    have hd3 := (uCont_div b3 hb3).1 hc.2.2
    rw [if_pos ⟨by omega, ⟨by omega, hd⟩, ⟨by omega, hd2⟩, hn, hd3⟩]
    unfold uCont at hc
    have e : (((b0 - 240) * 64 + (b1 - 128)) * 64 + (b2 - 128)) * 64 + (b3 - 128) = b0 % 8 * 262144 + b1 % 64 * 4096 + b2 % 64 * 64 + b3 % 64 := by omega
    rw [e]
    by_cases hv : b0 % 8 * 262144 + b1 % 64 * 4096 + b2 % 64 * 64 + b3 % 64 ≥ 65536 ∧ (b0 % 8 * 262144 + b1 % 64 * 4096 + b2 % 64 * 64 + b3 % 64 < 55296 ∨ (57344 ≤ b0 % 8 * 262144 + b1 % 64 * 4096 + b2 % 64 * 64 + b3 % 64 ∧ b0 % 8 * 262144 + b1 % 64 * 4096 + b2 % 64 * 64 + b3 % 64 ≤ 1114111))
    · rw [if_pos hv, uFin_pos (by omega) (by omega) (by omega), if_neg (by simp)]
    · rw [if_neg hv, uFin_neg (by omega), if_pos rfl]
  · rw [if_neg hc]
    have hd : ¬ (b1 / 64 = 2 ∧ b2 / 64 = 2 ∧ b3 / 64 = 2) := fun h => hc ⟨(uCont_div b1 hb1).2 h.1, (uCont_div b2 hb2).2 h.2.1, (uCont_div b3 hb3).2 h.2.2⟩
    rw [if_neg (by omega), if_pos rfl]
theorem dec_bad (n b0 b1 b2 b3 : Nat) (h0 : 128 ≤ b0) (h : (b0 < 194) ∨ 245 ≤ b0) (hb0 : b0 < 256) : Lib.decodeN n b0 b1 b2 b3 = (65533, 1) := by
  unfold Lib.decodeN
  rw [if_neg (by omega)]
  rcases h with h | h
  · by_cases h1 : b0 / 32 = 6 ∧ (1 < n ∧ b1 / 64 = 2)
    · rw [if_pos h1, if_neg (by omega)]
    · rw [if_neg h1, if_neg (by omega), if_neg (by omega)]
  · rw [if_neg (by omega), if_neg (by omega)]
    by_cases h1 : b0 / 8 = 30 ∧ (1 < n ∧ b1 / 64 = 2) ∧ (2 < n ∧ b2 / 64 = 2) ∧ (3 < n ∧ b3 / 64 = 2)
    · rw [if_pos h1, if_neg (by omega)]
    · rw [if_neg h1]
theorem dec_short (n b0 b1 b2 b3 : Nat) (h0 : 194 ≤ b0) (h : (n ≤ 1) ∨ (224 ≤ b0 ∧ n ≤ 2) ∨ (240 ≤ b0 ∧ n ≤ 3)) : Lib.decodeN n b0 b1 b2 b3 = (65533, 1) := by
  unfold Lib.decodeN
  rw [if_neg (by omega), if_neg (by omega), if_neg (by omega), if_neg (by omega)]
theorem decodeN_u (l : List Nat) (hb : ∀ x ∈ l, x < 256) (h0 : l ≠ []) :
    Lib.decodeN l.length (l.getD 0 0) (l.getD 1 0) (l.getD 2 0) (l.getD 3 0) = if (uNext l).2 = 0 then (65533, 1) else uNext l := by
  rcases l with _ | ⟨a, r⟩
  · exact absurd rfl h0
  · have ha := hb a (List.mem_cons_self ..)
    have hr : ∀ k, r.getD k 0 < 256 := fun k => by
      rcases Nat.lt_or_ge k r.length with h | h
      · rw [List.getD_eq_getElem?_getD, List.getElem?_eq_getElem h]
        exact hb _ (List.mem_cons_of_mem _ (List.getElem_mem h))
      · rw [List.getD_eq_getElem?_getD, List.getElem?_eq_none h]
        show 0 < 256
        omega
    have g0 : (a :: r).getD 0 0 = a := rfl
    have g1 : ∀ k, (a :: r).getD (k + 1) 0 = r.getD k 0 := fun k => rfl
    rw [g0, g1 0, g1 1, g1 2, uNext_cons]
    by_cases h1 : a < 128
    · rw [if_pos h1, if_neg (by simp)]
      unfold Lib.decodeN
      rw [if_pos h1]
    · rw [if_neg h1]
      by_cases h2 : 194 ≤ a ∧ a < 224
      · rw [if_pos h2]
        rcases r with _ | ⟨b, r⟩
        · exact dec_short _ _ _ _ _ h2.1 (.inl (Nat.le_refl _))
        · exact dec_two _ _ _ _ _ r h2 (hr 0) (by simp)
      · rw [if_neg h2]
        by_cases h3 : 224 ≤ a ∧ a < 240
        · rw [if_pos h3]
          rcases r with _ | ⟨b, _ | ⟨c, r⟩⟩
          · exact dec_short _ _ _ _ _ (by omega) (.inl (Nat.le_refl _))
          · exact dec_short _ _ _ _ _ (by omega) (.inr (.inl ⟨h3.1, Nat.le_refl _⟩))
          · exact dec_three _ _ _ _ _ r h3 (hr 0) (hr 1) (by simp)
        · rw [if_neg h3]
          by_cases h4 : 240 ≤ a ∧ a < 245
          · rw [if_pos h4]
            rcases r with _ | ⟨b, _ | ⟨c, _ | ⟨d, r⟩⟩⟩
            · exact dec_short _ _ _ _ _ (by omega) (.inl (Nat.le_refl _))
            · exact dec_short _ _ _ _ _ (by omega) (.inr (.inl ⟨by omega, Nat.le_refl _⟩))
            · exact dec_short _ _ _ _ _ (by omega) (.inr (.inr ⟨by omega, Nat.le_refl _⟩))
            · exact dec_four _ _ _ _ _ r h4 (hr 0) (hr 1) (hr 2) (by simp)
          · rw [if_neg h4, if_pos rfl]
            exact dec_bad _ _ _ _ _ (by omega) (by omega) ha
theorem getD_nats (l : List UInt8) (k : Nat) : (l.getD k 0).toNat = (l.map UInt8.toNat).getD k 0 := by
  rw [List.getD_eq_getElem?_getD, List.getD_eq_getElem?_getD, List.getElem?_map]
  rcases l[k]? with _ | x
  · rfl
  · rfl
theorem decodeL_u (l : List UInt8) (h0 : l ≠ []) : Lib.decodeL l = if (uNext (l.map UInt8.toNat)).2 = 0 then (65533, 1) else uNext (l.map UInt8.toNat) := by
  rw [Lib.decodeL_N, getD_nats, getD_nats, getD_nats, getD_nats, ← decodeN_u _ (fun x hx => by obtain ⟨c, _, rfl⟩ := List.mem_map.1 hx; exact c.toNat_lt) (by simpa using h0), List.length_map]
theorem decode_u (s : ByteArray) (pos : Nat) (h : pos < s.size) : Utf8.decode s pos = if (uNext ((bs s).drop pos)).2 = 0 then (65533, 1) else uNext ((bs s).drop pos) := by
  have hn : s.data.toList.drop pos ≠ [] := by
    intro e
    have := congrArg List.length e
    rw [List.length_drop, List.length_nil] at this
    have : s.data.toList.length = s.size := by simp
    omega
  rw [← Lib.decodeL_drop, decodeL_u _ hn, List.map_drop]
  rfl
theorem encodeRune_u (c : Nat) (h : uOk c) : (Lib.encodeRune (c : Int)).map UInt8.toNat = uEnc c := by
  unfold uOk at h
  unfold Lib.encodeRune uEnc
  have hb : ∀ z : Int, 0 ≤ z → z < 256 → (z.toNat.toUInt8).toNat = z.toNat := fun z h1 h2 => by
    show (UInt8.ofNat z.toNat).toNat = _
    rw [UInt8.toNat_ofNat']
    omega
  by_cases h1 : c < 128
  · rw [if_pos h1, Lib.encodeRuneZ_one (by omega) (by omega)]
    simp only [List.map_cons, List.map_nil]
    rw [hb _ (by omega) (by omega)]
    simp
  · rw [if_neg h1]
    by_cases h2 : c < 2048
    · rw [if_pos h2, Lib.encodeRuneZ_two (by omega) (by omega)]
      simp only [List.map_cons, List.map_nil]
      rw [hb _ (by omega) (by omega), hb _ (by omega) (by omega)]
      simp only [List.cons.injEq, and_true]
      omega
    · rw [if_neg h2]
      by_cases h3 : c < 65536
      · rw [if_pos h3, Lib.encodeRuneZ_three (by omega)]
        simp only [List.map_cons, List.map_nil]
        rw [hb _ (by omega) (by omega), hb _ (by omega) (by omega), hb _ (by omega) (by omega)]
        simp only [List.cons.injEq, and_true]
        omega
      · rw [if_neg h3, Lib.encodeRuneZ_four (by omega) (by omega)]
        simp only [List.map_cons, List.map_nil]
        rw [hb _ (by omega) (by omega), hb _ (by omega) (by omega), hb _ (by omega) (by omega), hb _ (by omega) (by omega)]
        simp only [List.cons.injEq, and_true]
        omega

/-- strings.Map at valid bytes. -/
def smallI (z : Int) : Int := (uSmall z.toNat : Int)
theorem mapD_u : ∀ (cs : List Nat) (l : List UInt8), uAll cs → l.map UInt8.toNat = uEncs cs → (Lib.mapD smallI l).map UInt8.toNat = uEncs (cs.map uSmall)
  | [], l, _, h => by
    have : l = [] := by
      rcases l with _ | ⟨a, r⟩
      · rfl
      · cases h
    rw [this]
    rfl
  | c :: cs, l, ha, h => by
    have hc := ha c (List.mem_cons_self ..)
    have hp := uEnc_pos c
    have hne : l ≠ [] := by
      intro e
      rw [e, uEncs_cons] at h
      have := congrArg List.length h
      rw [List.length_append] at this
      simp at this
      omega
    have hd : Lib.decodeL l = (c, (uEnc c).length) := by
      rw [decodeL_u l hne, h, uEncs_cons, uNext_enc c _ hc, if_neg (by show ¬ _ = 0; omega)]
    rw [Lib.mapD_step smallI l hne, hd]
    have hf : smallI (c : Int) = (uSmall c : Int) := rfl
    show List.map UInt8.toNat ((if 0 ≤ smallI (c : Int) then Lib.encodeRune (smallI (c : Int)) else []) ++ Lib.mapD smallI (l.drop (uEnc c).length)) = _
    rw [hf, if_pos (by omega), List.map_append, encodeRune_u _ (uSmall_ok c hc), List.map_cons, uEncs_cons]
    congr 1
    refine mapD_u cs _ (fun x hx => ha x (List.mem_cons_of_mem _ hx)) ?_
    rw [List.map_drop, h, uEncs_cons, List.drop_left' rfl]

/-- One blank for each run of white space, without what is ignored. -/
def sqz : Bool → List Nat → List Nat
  | _, [] => []
  | b, c :: cs => if uBlank c then (if b then [] else [32]) ++ sqz true cs else if uNone c then sqz b cs else c :: sqz false cs
theorem sqz_blank (b : Bool) (c : Nat) (cs : List Nat) (h : uBlank c = true) : sqz b (c :: cs) = (if b then [] else [32]) ++ sqz true cs := by rw [sqz, if_pos h]
theorem sqz_none (b : Bool) (c : Nat) (cs : List Nat) (h : uBlank c = false) (h1 : uNone c = true) : sqz b (c :: cs) = sqz b cs := by rw [sqz, if_neg (by rw [h]; decide), if_pos h1]
theorem sqz_other (b : Bool) (c : Nat) (cs : List Nat) (h : uBlank c = false) (h1 : uNone c = false) : sqz b (c :: cs) = c :: sqz false cs := by rw [sqz, if_neg (by rw [h]; decide), if_neg (by rw [h1]; decide)]
theorem none_blank (c : Nat) (h : uNone c = true) : uBlank c = false := by
  unfold uNone at h
  unfold uBlank
  have := of_decide_eq_true h
  exact decide_eq_false (by omega)
theorem sqz_prep : ∀ (cs : List Nat) (f : Bool), uPrep true false false f cs = sqz false cs ∧ uPrep true false true f cs = 32 :: sqz true cs
  | [], f => by rw [uPrep_nil, uPrep_nil]; exact ⟨rfl, rfl⟩
  | c :: cs, f => by
    rw [uPrep_cons, uPrep_cons]
    by_cases h1 : uNone c = true
    · rw [if_pos h1, if_pos h1, sqz_none _ _ _ (none_blank c h1) h1, sqz_none _ _ _ (none_blank c h1) h1]
      exact sqz_prep cs f
    · rw [if_neg h1, if_neg h1]
      by_cases h2 : uBlank c = true
      · rw [if_pos h2, if_pos h2, sqz_blank _ _ _ h2, sqz_blank _ _ _ h2, (sqz_prep cs f).2]
        exact ⟨rfl, rfl⟩
      · rw [if_neg h2, if_neg h2, sqz_other _ _ _ (by simpa using h2) (by simpa using h1), sqz_other _ _ _ (by simpa using h2) (by simpa using h1), (sqz_prep cs false).1]
        simp
/-- The document's preparation, step by step. -/
theorem prep_small (e : Bool) : ∀ (cs : List Nat) (b f : Bool), (uPrep e false b f cs).map uSmall = uPrep e true b f cs
  | [], b, f => by
    rw [uPrep_nil, uPrep_nil]
    split <;> rfl
  | c :: cs, b, f => by
    rw [uPrep_cons, uPrep_cons]
    by_cases h1 : uNone c = true
    · rw [if_pos h1, if_pos h1]
      exact prep_small e cs b f
    · rw [if_neg h1, if_neg h1]
      by_cases h2 : uBlank c = true
      · rw [if_pos h2, if_pos h2]
        exact prep_small e cs true f
      · rw [if_neg h2, if_neg h2, List.map_append, List.map_cons, prep_small e cs false false]
        split <;> rfl
/-- Blanks at the ends. -/
def trimN (l : List Nat) : List Nat := ((l.reverse.dropWhile (· == 32)).reverse).dropWhile (· == 32)
theorem small_sp (g : Bool) (c : Nat) (h : uBlank c = false) : (if g then uSmall c else c) ≠ 32 := by
  have k : ∀ d, uBlank d = false → d ≠ 32 := by
    intro d hd e
    rw [e] at hd
    cases hd
  cases g
  · exact k c h
  · exact k (uSmall c) (by rw [uSmall_blank]; exact h)
theorem prep_tail (g : Bool) : ∀ (cs : List Nat) (b : Bool), ∃ y : Bool, uPrep true g b false cs = uPrep false g b false cs ++ (if y then [32] else []) ∧ (uPrep false g b false cs).getLast? ≠ some 32
  | [], b => by
    rw [uPrep_nil, uPrep_nil]
    refine ⟨b, ?_, ?_⟩
    · cases b <;> rfl
    · cases b <;> simp
  | c :: cs, b => by
    rw [uPrep_cons, uPrep_cons]
    by_cases h1 : uNone c = true
    · rw [if_pos h1, if_pos h1]
      exact prep_tail g cs b
    · rw [if_neg h1, if_neg h1]
      by_cases h2 : uBlank c = true
      · rw [if_pos h2, if_pos h2]
        exact prep_tail g cs true
      · rw [if_neg h2, if_neg h2]
        have hs := small_sp g c (by simpa using h2)
        obtain ⟨y, e1, e2⟩ := prep_tail g cs false
        refine ⟨y, ?_, ?_⟩
        · rw [e1]
          cases b <;> simp
        · rw [List.getLast?_append, List.getLast?_cons]
          rcases e : (uPrep false g false false cs).getLast? with _ | z
          · simp [hs]
          · rw [e] at e2
            simpa using e2
theorem prep_ends (g : Bool) : ∀ (cs : List Nat) (b : Bool), ∃ (x y : Bool), uPrep true g b true cs = (if x then [32] else []) ++ uPrep false g b true cs ++ (if y then [32] else []) ∧
    (uPrep false g b true cs).getLast? ≠ some 32 ∧ (uPrep false g b true cs).head? ≠ some 32
  | [], b => by
    rw [uPrep_nil, uPrep_nil]
    refine ⟨b, false, ?_, ?_⟩
    · cases b <;> rfl
    · cases b <;> simp
  | c :: cs, b => by
    rw [uPrep_cons, uPrep_cons]
    by_cases h1 : uNone c = true
    · rw [if_pos h1, if_pos h1]
      exact prep_ends g cs b
    · rw [if_neg h1, if_neg h1]
      by_cases h2 : uBlank c = true
      · rw [if_pos h2, if_pos h2]
        exact prep_ends g cs true
      · rw [if_neg h2, if_neg h2]
        have hs := small_sp g c (by simpa using h2)
        obtain ⟨y, e1, e2⟩ := prep_tail g cs false
        refine ⟨b, y, ?_, ?_, ?_⟩
        · rw [e1]
          cases b <;> simp
        · rw [List.getLast?_append, List.getLast?_cons]
          rcases e : (uPrep false g false false cs).getLast? with _ | z
          · simp [hs]
          · rw [e] at e2
            simpa using e2
        · cases b <;> simp [hs]
theorem drop_sp (x : Bool) (l : List Nat) (h : l.head? ≠ some 32) : ((if x then [32] else []) ++ l).dropWhile (· == 32) = l := by
  have h1 : l.dropWhile (· == 32) = l := by
    rcases l with _ | ⟨a, r⟩
    · rfl
    · rw [List.dropWhile_cons, if_neg]
      intro e
      exact h (by rw [beq_iff_eq.1 e]; rfl)
  cases x
  · simpa using h1
  · show List.dropWhile _ (32 :: l) = l
    rw [List.dropWhile_cons, if_pos (by decide), h1]
theorem trimN_ends (x y : Bool) (l : List Nat) (h1 : l.getLast? ≠ some 32) (h2 : l.head? ≠ some 32) : trimN ((if x then [32] else []) ++ l ++ (if y then [32] else [])) = l := by
  unfold trimN
  have hr : ∀ z : Bool, (if z then [32] else [] : List Nat).reverse = (if z then [32] else []) := fun z => by cases z <;> rfl
  rw [List.reverse_append, List.reverse_append, hr, hr]
  by_cases hl : l = []
  · subst hl
    cases x <;> cases y <;> rfl
  · rw [drop_sp y _ (by
      rw [List.head?_append, List.head?_reverse]
      rcases e : l.getLast? with _ | z
      · exact absurd (List.getLast?_eq_none_iff.1 e) hl
      · rw [e] at h1
        simpa using h1), List.reverse_append, List.reverse_reverse, hr, drop_sp x l h2]
theorem enc_head (d : Nat) (hd : d ≠ 32) (m : List Nat) : (uEnc d ++ m).head? ≠ some 32 := by
  unfold uEnc
  split
  · simpa using hd
  · split
    · simp; omega
    · split
      · simp; omega
      · simp; omega
theorem enc_last (d : Nat) (hd : d ≠ 32) (m : List Nat) : (m ++ uEnc d).getLast? ≠ some 32 := by
  unfold uEnc
  split
  · simpa using hd
  · split
    · simp; omega
    · split
      · simp; omega
      · simp; omega
theorem encs_head (l : List Nat) (h : l.head? ≠ some 32) : (uEncs l).head? ≠ some 32 := by
  rcases l with _ | ⟨a, r⟩
  · simp [uEncs]
  · rw [uEncs_cons]
    exact enc_head a (fun e => h (by rw [e]; rfl)) _
theorem encs_last (l : List Nat) (h : l.getLast? ≠ some 32) : (uEncs l).getLast? ≠ some 32 := by
  rcases List.eq_nil_or_concat l with rfl | ⟨r, a, rfl⟩
  · simp [uEncs]
  · rw [List.concat_eq_append] at h ⊢
    rw [uEncs_app, uEncs_cons, uEncs_nil, List.append_nil]
    exact enc_last a (fun e => h (by rw [e]; simp)) _
theorem trim_prep (g : Bool) (cs : List Nat) : trimN (uEncs (uPrep true g false true cs)) = uEncs (uPrep false g false true cs) := by
  obtain ⟨x, y, e1, e2, e3⟩ := prep_ends g cs false
  have hx : ∀ z : Bool, uEncs (if z then [32] else []) = (if z then [32] else []) := fun z => by cases z <;> rfl
  rw [e1, uEncs_app, uEncs_app, hx, hx]
  exact trimN_ends x y _ (encs_last _ e2) (encs_head _ e3)
theorem dropWhile_nats (l : List UInt8) : (l.dropWhile (· == 32)).map UInt8.toNat = (l.map UInt8.toNat).dropWhile (· == 32) := by
  induction l with
  | nil => rfl
  | cons a r ih =>
    rw [List.map_cons, List.dropWhile_cons, List.dropWhile_cons]
    have e : (a == 32) = (a.toNat == 32) := by
      rw [Bool.eq_iff_iff, beq_iff_eq, beq_iff_eq]
      constructor
      · rintro rfl; rfl
      · intro h; exact UInt8.toNat_inj.1 h
    rw [e]
    split
    · exact ih
    · rfl
theorem trimB_nats (l : List UInt8) : (Lib.trimB l 32).map UInt8.toNat = trimN (l.map UInt8.toNat) := by
  unfold Lib.trimB Lib.trimLeftB Lib.trimRightB trimN
  rw [dropWhile_nats, List.map_reverse, dropWhile_nats, List.map_reverse]
end Go.Proofs.YtbdbgiecfkgimaaDoor
