/-
  What oid.Describe and oid.Text answer.
-/
import Derived.Test.YtkffgdndglfcfaaGreatDoorO7A
import Derived.Test.YtkffgdndglfcfaaGreatDoorOidDesc
import Derived.Test.YtkffgdndglfcfaaGreatDoorWords
import Derived.Test.YtkffgdndglfcfaaGreatDoorAppend
import Derived.Test.YtkffgdndglfcfaaGreatDoorStrs
import Derived.Test.YtkffgdndglfcfaaGreatDoorStr
import Derived.Test.YtkffgdndglfcfaaGreatDoorNum
import Derived.Test.YtkffgdndglfcfaaGreatDoorMore
import Derived.Sort.KeysCollected
import Derived.Lib.Bytealg
import Derived.Handy
import Derived.Lib.Hide
import Derived.Deep.QuietTactic
import Derived.BigQuiet
import Derived.Deep.AppendLies
import Derived.Laws.AppendOwnNone
import Derived.Laws.OwnMore
import Derived.Lib.AppendIntMem
import Derived.BigGuardPart
import Derived.Deep.RegionHeldLaw
import Derived.BigRegion
import Derived.StillTailTactics
import Derived.IntWalk
import Derived.Test.YtkffgdndglfcfaaGreatDoorShelf
import Derived.Lib.CutLaws
import Derived.Lib.ConvBytes
import Derived.Laws.IdiomStrings
import Derived.Lib.QuietBelow
import Derived.Maps.OwnOps
import Derived.Maps.OwnSet
import Derived.Maps.Views
import Derived.Sort.OwnSorted
import Derived.Shelf.Strings.BuilderF
namespace Go.Proofs.YtkffgdndglfcfaaGreatDoor.O7
open Go.Lib
open Go.RowKit Go.Lib
open Go.RowKit

theorem ins_at (x : List UInt8) : ∀ (O : List (List UInt8)) (k : Nat), k ≤ O.length → (∀ j y, j < k → O[j]? = some y → Op.bytesLess y x = true) → (∀ y, O[k]? = some y → Op.bytesLess y x = false) →
    ins x O = if O[k]? = some x then O else O.take k ++ x :: O.drop k
  | [], k, hk, _, _ => by
    have : k = 0 := by simpa using hk
    subst this
    rw [if_neg (by simp)]
    rfl
  | y :: O, 0, _, _, h2 => by
    have hy := h2 y rfl
    unfold ins
    rw [if_neg (by rw [hy]; decide)]
    by_cases e : y = x
    · rw [if_pos e, if_pos (by simp [e])]
    · rw [if_neg e, if_neg (by simpa using e)]
      rfl
  | y :: O, k + 1, hk, h1, h2 => by
    have hy := h1 0 y (by omega) rfl
    unfold ins
    rw [if_pos hy, ins_at x O k (by simpa using hk) (fun j z hj hz => h1 (j + 1) z (by omega) (by simpa using hz)) (fun z hz => h2 z (by simpa using hz))]
    by_cases e : O[k]? = some x
    · rw [if_pos e, if_pos (by simpa using e)]
    · rw [if_neg e, if_neg (by simpa using e)]
      rfl
theorem opts_snoc (L : List (List UInt8)) (x : List UInt8) : opts (L ++ [x]) = ins x (opts L) := by
  unfold opts
  rw [List.foldl_append]
  rfl
theorem ins_len (x : List UInt8) : ∀ O, (ins x O).length ≤ O.length + 1
  | [] => Nat.le_refl _
  | y :: O => by
    unfold ins
    have := ins_len x O
    split
    · simp only [List.length_cons]
      omega
    · split
      · simp
      · simp
theorem opts_len : ∀ L : List (List UInt8), (opts L).length ≤ L.length := by
  intro L
  rcases List.eq_nil_or_concat L with rfl | ⟨M, x, rfl⟩
  · exact Nat.le_refl _
  · have hm : ∀ (L O : List (List UInt8)), (L.foldl (fun O x => ins x O) O).length ≤ L.length + O.length := by
      intro L
      induction L with
      | nil => intro O; simp
      | cons x L ih =>
        intro O
        rw [List.foldl_cons, List.length_cons]
        have h1 := ih (ins x O)
        have h2 := ins_len x O
        omega
    have := hm (M.concat x) []
    simpa [opts] using this
/-- What Describe says, part by part. -/
theorem descO_bad {l : List UInt8} (h : 64 < l.length) : descO l = none := by
  unfold descO
  rw [if_pos h]
theorem descO_type {l : List UInt8} {a : List UInt8} {T : List (List UInt8)} (h : sp 59 (lowL l) = a :: T) (hl : ¬ 64 < l.length) (ha : arcsO a = none) (hw : wordB a = false) : descO l = none := by
  unfold descO
  rw [if_neg hl, h, if_neg]
  show ¬ (((arcsO a).isSome || wordB a) && T.all signsB) = true
  rw [ha, hw]
  simp
theorem descO_option {l : List UInt8} {a : List UInt8} {T : List (List UInt8)} (h : sp 59 (lowL l) = a :: T) (hl : ¬ 64 < l.length) {k : Nat} (hk : k < T.length) (hb : signsB T[k] = false) : descO l = none := by
  unfold descO
  rw [if_neg hl, h, if_neg]
  show ¬ (((arcsO a).isSome || wordB a) && T.all signsB) = true
  have : T.all signsB = false := by
    rw [Bool.eq_false_iff]
    intro e
    rw [List.all_eq_true.1 e _ (List.getElem_mem hk)] at hb
    cases hb
  rw [this, Bool.and_false]
  decide
theorem descO_good {l : List UInt8} {a : List UInt8} {T : List (List UInt8)} (h : sp 59 (lowL l) = a :: T) (hl : ¬ 64 < l.length) (ha : ((arcsO a).isSome || wordB a) = true) (ht : ∀ k (hk : k < T.length), signsB T[k] = true) : descO l = some (a, opts T) := by
  unfold descO
  rw [if_neg hl, h, if_pos]
  · rfl
  · show (((arcsO a).isSome || wordB a) && T.all signsB) = true
    rw [ha, Bool.true_and, List.all_eq_true]
    intro x hx
    obtain ⟨k, hk, rfl⟩ := List.getElem_of_mem hx
    exact ht k hk
theorem bl_lt : ∀ (x y : List UInt8), Op.bytesLess x y = decide (x < y)
  | [], [] => by simp [Op.bytesLess]
  | _ :: _, [] => by simp [Op.bytesLess]
  | [], _ :: _ => by simp [Op.bytesLess]
  | a :: x, b :: y => by
    rw [Op.bytesLess, bl_lt x y, Bool.eq_iff_iff]
    simp only [Bool.or_eq_true, Bool.and_eq_true, decide_eq_true_eq, beq_iff_eq, List.cons_lt_cons_iff]
theorem ins_has (x : List UInt8) : ∀ (L : List (List UInt8)) (y : List UInt8), y = x ∨ y ∈ L → y ∈ ins x L
  | [], y, h => by simpa [ins] using h
  | z :: r, y, h => by
    unfold ins
    split
    · rcases h with h | h
      · exact List.mem_cons_of_mem _ (ins_has x r y (.inl h))
      · rcases List.mem_cons.1 h with h | h
        · simp [h]
        · exact List.mem_cons_of_mem _ (ins_has x r y (.inr h))
    · split
      · rename_i h1
        rcases h with h | h
        · simp [h, h1]
        · exact h
      · rcases h with h | h
        · simp [h]
        · exact List.mem_cons_of_mem _ h
theorem foldl_has : ∀ (L O : List (List UInt8)) (y : List UInt8), y ∈ L ∨ y ∈ O → y ∈ L.foldl (fun O x => ins x O) O
  | [], _, _, h => by simpa using h
  | x :: L, O, y, h => by
    rw [List.foldl_cons]
    refine foldl_has L _ y ?_
    rcases h with h | h
    · rcases List.mem_cons.1 h with h | h
      · exact .inr (ins_has x O y (.inl h))
      · exact .inl h
    · exact .inr (ins_has x O y (.inr h))
theorem opts_iff (L : List (List UInt8)) (y : List UInt8) : y ∈ opts L ↔ y ∈ L :=
  ⟨opts_mem, fun h => foldl_has L [] y (.inl h)⟩
theorem asc_pair : ∀ {L : List (List UInt8)}, Asc L → L.Pairwise (fun x y => Op.bytesLess x y = true)
  | [], _ => List.Pairwise.nil
  | _ :: _, h => List.Pairwise.cons h.1 (asc_pair h.2)
theorem asc_nodup {L : List (List UInt8)} (h : Asc L) : L.Nodup := (asc_pair h).imp fun {a b} h1 e => by
  subst e
  rw [bl_irrefl] at h1
  cases h1
theorem sort_opts (D L : List (List UInt8)) (hD : D.Nodup) (hm : ∀ x, x ∈ D ↔ x ∈ L) : D.mergeSort leB = opts L := by
  have hp : D.Perm (opts L) := (List.perm_ext_iff_of_nodup hD (asc_nodup (opts_asc L))).2 fun x => by rw [hm, opts_iff]
  rw [mergeSort_of_perm hp]
  refine List.mergeSort_of_pairwise ((asc_pair (opts_asc L)).imp fun {a b} h => ?_)
  rw [bl_lt, decide_eq_true_eq] at h
  rw [leB, decide_eq_true_eq]
  exact List.le_of_lt h
theorem ix_miss {b : UInt8} : ∀ {r : List UInt8}, b ∉ r → indexByte r b = -1
  | [], _ => rfl
  | x :: l, h => by
    have h1 : ¬ x = b := fun e => h (by simp [e])
    have h2 : b ∉ l := fun e => h (List.mem_cons_of_mem _ e)
    unfold indexByte
    rw [ix_miss h2]
    simp [h1]
theorem ix_hit {b : UInt8} : ∀ {p r : List UInt8}, b ∉ p → indexByte (p ++ b :: r) b = (p.length : Int)
  | [], r, _ => by simp [indexByte]
  | x :: l, r, h => by
    have h1 : ¬ x = b := fun e => h (by simp [e])
    have h2 : b ∉ l := fun e => h (List.mem_cons_of_mem _ e)
    rw [List.cons_append]
    unfold indexByte
    rw [ix_hit h2]
    have h3 : ¬ ((l.length : Int) = -1) := by omega
    simp [h1, h3]
theorem part_cases (b : UInt8) : ∀ r : List UInt8, (b ∉ r ∧ sp b r = [r]) ∨ ∃ p q, r = p ++ b :: q ∧ b ∉ p ∧ sp b r = p :: sp b q
  | [] => .inl ⟨by simp, rfl⟩
  | x :: l => by
    by_cases h : x = b
    · subst h
      exact .inr ⟨[], l, rfl, by simp, by simp [sp]⟩
    · rcases part_cases b l with ⟨h1, h2⟩ | ⟨p, q, h1, h2, h3⟩
      · refine .inl ⟨?_, ?_⟩
        · intro hm
          rcases List.mem_cons.1 hm with h4 | h4
          · exact h h4.symm
          · exact h1 h4
        · rw [sp, if_neg h, h2]
          rfl
      · refine .inr ⟨x :: p, q, by rw [h1]; rfl, ?_, ?_⟩
        · intro hm
          rcases List.mem_cons.1 hm with h4 | h4
          · exact h h4.symm
          · exact h2 h4
        · rw [sp, if_neg h, h3]
          rfl
theorem mapM_arcs {l : List UInt8} {M : List Nat} (h : (sp 46 l).mapM arcV = some M) : txA M = l ∧ ∀ n ∈ M, n < 10000000000 := by
  obtain ⟨h3, h4⟩ := mapM_get arcV _ _ h
  refine ⟨?_, fun n hn => ?_⟩
  · have e : M.map decDigits = sp 46 l := by
      refine List.ext_getElem (by rw [List.length_map, h3]) fun i h5 h6 => ?_
      rw [List.getElem_map]
      exact (arcV_some (h4 i h6 (by simpa using h5))).1
    unfold txA
    rw [e, jn_sp]
  · obtain ⟨i, hi, rfl⟩ := List.getElem_of_mem hn
    exact (arcV_some (h4 i (by omega) hi)).2.2
/-- Up to sixteen numbers: the text is short enough by itself. -/
theorem arcs_few {l : List UInt8} {M : List Nat} (h : (sp 46 l).mapM arcV = some M) (h16 : M.length ≤ 16) : arcsO l = if okA M = true then some M else none := by
  obtain ⟨h1, h2⟩ := mapM_arcs h
  have h3 := txA_len M h2
  rw [h1] at h3
  unfold arcsO
  rw [if_pos (by omega), h]
  by_cases hk : okA M = true
  · rw [if_pos hk]; simp [hk]
  · rw [if_neg hk]; simp [hk]
theorem arcs_many {l : List UInt8} {M : List Nat} (h : (sp 46 l).mapM arcV = some M) (h16 : 16 < M.length) : arcsO l = none := by
  unfold arcsO
  split
  · rw [h, Option.filter_eq_none_iff]
    intro a ha hk
    have := okA_len hk
    simp at ha
    subst ha
    omega
  · rfl
theorem low_semi (c : UInt8) : low c = 59 ↔ c = 59 := by
  have h : ∀ n, n < 256 → (low (UInt8.ofNat n) = 59 ↔ UInt8.ofNat n = 59) := by decide +kernel
  have := h c.toNat c.toNat_lt
  rwa [UInt8.ofNat_toNat] at this
theorem low_sign (c : UInt8) : signB (low c) = signB c := by
  have h : ∀ n, n < 256 → (signB (low (UInt8.ofNat n)) = signB (UInt8.ofNat n)) := by decide +kernel
  have := h c.toNat c.toNat_lt
  rwa [UInt8.ofNat_toNat] at this
theorem low_letter (c : UInt8) : letterB (low c) = letterB c := by
  have h : ∀ n, n < 256 → (letterB (low (UInt8.ofNat n)) = letterB (UInt8.ofNat n)) := by decide +kernel
  have := h c.toNat c.toNat_lt
  rwa [UInt8.ofNat_toNat] at this
theorem low_digit (c : UInt8) : (low c = 46 ∨ isDig (low c) = true) → low c = c := by
  have h : ∀ n, n < 256 → ((low (UInt8.ofNat n) = 46 ∨ isDig (low (UInt8.ofNat n)) = true) → low (UInt8.ofNat n) = UInt8.ofNat n) := by decide +kernel
  have := h c.toNat c.toNat_lt
  rwa [UInt8.ofNat_toNat] at this
theorem digit_low (c : UInt8) : (c = 46 ∨ isDig c = true) → low c = c := by
  have h : ∀ n, n < 256 → ((UInt8.ofNat n = 46 ∨ isDig (UInt8.ofNat n) = true) → low (UInt8.ofNat n) = UInt8.ofNat n) := by decide +kernel
  have := h c.toNat c.toNat_lt
  rwa [UInt8.ofNat_toNat] at this
theorem sp_low : ∀ l : List UInt8, sp 59 (lowL l) = (sp 59 l).map lowL
  | [] => rfl
  | c :: l => by
    have ih := sp_low l
    show sp 59 (low c :: lowL l) = _
    unfold sp
    by_cases h : c = 59
    · rw [if_pos ((low_semi c).2 h), if_pos h, ih]
      rfl
    · rw [if_neg (fun e => h ((low_semi c).1 e)), if_neg h, ih]
      have hne := sp_ne 59 l
      obtain ⟨a, t, e⟩ : ∃ a t, sp 59 l = a :: t := by
        cases hs : sp 59 l with
        | nil => exact absurd hs hne
        | cons a t => exact ⟨a, t, rfl⟩
      rw [e]
      rfl
theorem lowL_len (l : List UInt8) : (lowL l).length = l.length := by simp [lowL]
theorem signs_low (l : List UInt8) : signsB (lowL l) = signsB l := by
  unfold signsB
  rw [lowL_len]
  congr 1
  unfold lowL
  rw [List.all_map]
  have e : (signB ∘ low) = signB := funext fun c => low_sign c
  rw [e]
theorem word_low (l : List UInt8) : wordB (lowL l) = wordB l := by
  unfold wordB
  rw [lowL_len, signs_low]
  congr 2
  cases l with
  | nil => rfl
  | cons c l => exact low_letter c
theorem arcs_digits {l : List UInt8} {L : List Nat} (h : arcsO l = some L) : ∀ c ∈ l, c = 46 ∨ isDig c = true := by
  intro c hc
  rw [← (arcsO_some h).1] at hc
  unfold txA at hc
  have hd : ∀ n, ∀ x ∈ decDigits n, isDig x = true := fun n x hx => List.all_eq_true.1 (digs_dec n) x hx
  cases L with
  | nil => simp [jn] at hc
  | cons a L =>
    simp only [List.map_cons, jn, List.mem_append, List.mem_flatMap, List.mem_map] at hc
    rcases hc with hc | ⟨p, ⟨n, _, rfl⟩, hc⟩
    · exact .inr (hd a c hc)
    · rcases List.mem_cons.1 hc with hc | hc
      · exact .inl hc
      · exact .inr (hd n c hc)
theorem arcs_low (l : List UInt8) : (arcsO (lowL l)).isSome = (arcsO l).isSome := by
  by_cases h : lowL l = l
  · rw [h]
  · have h1 : arcsO l = none := by
      cases ha : arcsO l with
      | none => rfl
      | some L =>
        exfalso
        refine h ?_
        unfold lowL
        exact (List.map_congr_left (g := id) fun c hc => digit_low c (arcs_digits ha c hc)).trans (by simp)
    have h2 : arcsO (lowL l) = none := by
      cases ha : arcsO (lowL l) with
      | none => rfl
      | some L =>
        exfalso
        refine h ?_
        have h3 := arcs_digits ha
        unfold lowL at h3 ⊢
        exact (List.map_congr_left (g := id) fun c hc => low_digit c (h3 (low c) (List.mem_map_of_mem hc))).trans (by simp)
    rw [h1, h2]
/-- The text has a type and parts behind it. -/
theorem desc_of {l a : List UInt8} {T : List (List UInt8)} (h : sp 59 l = a :: T) : descO l =
    if 64 < l.length then none else if ((arcsO a).isSome || wordB a) && T.all signsB then some (lowL a, opts (T.map lowL)) else none := by
  unfold descO
  rw [sp_low, h]
  simp only [List.map_cons, List.headD_cons, List.tail_cons]
  rw [arcs_low, word_low, List.all_map]
  have e : (signsB ∘ lowL) = signsB := funext fun x => signs_low x
  rw [e]
theorem all_bad {T : List (List UInt8)} {p : List UInt8} (hp : p ∈ T) (h : signsB p = false) : T.all signsB = false := by
  rw [Bool.eq_false_iff]
  intro e
  rw [List.all_eq_true.1 e p hp] at h
  cases h
/-- One more option, if it is not there. -/
def addO (D : List (List UInt8)) (x : List UInt8) : List (List UInt8) := if x ∈ D then D else D ++ [x]
theorem addO_nodup {D : List (List UInt8)} {x : List UInt8} (h : D.Nodup) : (addO D x).Nodup := by
  unfold addO
  split
  · exact h
  · rename_i hx
    rw [List.nodup_append]
    exact ⟨h, by simp, fun a ha b hb e => hx (by
      rw [List.mem_singleton] at hb
      rw [← hb, ← e]
      exact ha)⟩
theorem addO_mem {D : List (List UInt8)} {x y : List UInt8} : y ∈ addO D x ↔ y ∈ D ∨ y = x := by
  unfold addO
  split
  · rename_i hx
    constructor
    · exact .inl
    · rintro (h | rfl)
      · exact h
      · exact hx
  · simp
theorem addO_len (D : List (List UInt8)) (x : List UInt8) : (addO D x).length ≤ D.length + 1 := by
  unfold addO
  split
  · omega
  · simp
theorem size_listO (s : ByteArray) : s.data.toList.length = s.size := by simp
theorem get_listO (s : ByteArray) (k : Nat) (h : k < s.size) : s.data.toList[k]'(by simpa using h) = s[k] := rfl
theorem take_snocO (s : ByteArray) (k : Nat) (h : k < s.size) : s.data.toList.take (k + 1) = s.data.toList.take k ++ [s[k]] := by
  rw [List.take_succ_eq_append_getElem (by simpa using h)]; rfl
theorem ret_boolO {a b : Bool} (h : a = b) : Ending.returned (.bool a) = .returned (.bool b) := by rw [h]
theorem all_snoc {α : Type} (p : α → Bool) (l : List α) (c : α) : (l ++ [c]).all p = (l.all p && p c) := by simp
theorem all_no {α : Type} (p : α → Bool) (l : List α) (k : Nat) (h : k < l.length) (hd : p l[k] = false) : l.all p = false := by
  rw [Bool.eq_false_iff]
  intro ha
  rw [List.all_eq_true] at ha
  have := ha _ (List.getElem_mem h)
  rw [hd] at this
  cases this
theorem head_listO (s : ByteArray) (h : 0 < s.size) : s.data.toList.headD 0 = s[0] := by
  have h1 := get_listO s 0 h
  rcases e : s.data.toList with _ | ⟨c, r⟩
  · have := size_listO s
    rw [e] at this
    simp at this
    omega
  · simp only [e] at h1
    exact h1
def svT (m : Nat) : List Nat := if 0 < m then svHi m else []
theorem svT_step (m : Nat) (h : 0 < m) : svT m = svT (m / 128) ++ [m % 128 + 128] := by
  unfold svT
  rw [if_pos h, svHi]
  split
  · rw [if_neg (by omega)]
    have : m % 128 = m := Nat.mod_eq_of_lt (by omega)
    rw [this]
    rfl
  · rw [if_pos (by omega)]
theorem sv_T (n : Nat) : sv n = svT (n / 128) ++ [n % 128] := by
  unfold sv svT
  split
  · rw [if_neg (by omega), Nat.mod_eq_of_lt (by omega)]
    rfl
  · rw [if_pos (by omega)]
theorem svT_len : ∀ k m, m < 128 ^ k → (svT m).length ≤ k
  | 0, m, h => by
    have : m = 0 := by simpa using h
    subst this
    exact Nat.le_refl _
  | k + 1, m, h => by
    by_cases h0 : 0 < m
    · rw [svT_step m h0, List.length_append]
      have := svT_len k (m / 128) (by rw [Nat.pow_succ] at h; omega)
      simp only [List.length_cons, List.length_nil]
      omega
    · unfold svT
      rw [if_neg h0]
      exact Nat.zero_le _
theorem sv_len5 (n : Nat) (h : n ≤ 20000000000) : (sv n).length ≤ 5 := by
  rw [sv_T, List.length_append]
  have := svT_len 4 (n / 128) (by omega)
  simp only [List.length_cons, List.length_nil]
  omega
theorem own_nilO (w : World) : Own w w.heap.size (.slice none 0 0) [] := ⟨rfl, .inl ⟨rfl, rfl⟩⟩
def nats (l : List UInt8) : List Nat := l.map UInt8.toNat
theorem strB_nats (l : List UInt8) : (strB (nats l)).data.toList = l := by
  rw [strB_list]
  unfold nats
  rw [List.map_map]
  exact (List.map_congr_left fun c _ => by simp).trans (List.map_id' l)
theorem last_set {α : Type} (L : List α) (d x : α) (h : L ≠ []) : L.set (L.length - 1) x = L.dropLast ++ [x] ∧ L[L.length - 1]? = some (L.getLastD d) := by
  have e := List.dropLast_concat_getLast h
  have hl : L.getLastD d = L.getLast h := by
    cases L with
    | nil => exact absurd rfl h
    | cons a l => simp [List.getLastD]
  obtain ⟨D, hD⟩ : ∃ D, D = L.dropLast := ⟨_, rfl⟩
  obtain ⟨z, hz⟩ : ∃ z, z = L.getLast h := ⟨_, rfl⟩
  rw [hl]
  rw [← hD, ← hz] at e
  rw [← hD, ← hz, ← e]
  simp
theorem sp_len (b : UInt8) : ∀ l, ∀ p ∈ sp b l, p.length ≤ l.length
  | [] => by simp [sp]
  | x :: l => by
    have ih := sp_len b l
    unfold sp
    split
    · intro p hp
      rcases List.mem_cons.1 hp with rfl | hp
      · simp
      · have := ih p hp
        simp only [List.length_cons]
        omega
    · intro p hp
      rcases List.mem_cons.1 hp with rfl | hp
      · cases hs : sp b l with
        | nil => simp
        | cons q qs =>
          have := ih q (by rw [hs]; exact List.mem_cons_self)
          simp only [List.headD_cons, List.length_cons]
          omega
      · have := ih p (List.mem_of_mem_tail hp)
        simp only [List.length_cons]
        omega
theorem one_str (w : World) (i : Nat) (l : List UInt8) (hi : ([[]] : List (List UInt8))[i]? = some l) : (w.alloc (.cells #[.string { data := #[] }] 9)).cell? ((⟨w.heap.size, 0, none⟩ : Addr).add i) = some (.string (baO l)) := by
  refine news_one w (.string { data := #[] }) 9 i _ ?_
  cases i with
  | zero => simp at hi; subst hi; rfl
  | succ i => simp at hi
/-- A row of strings, below block K. -/
structure SrcO (w : World) (K : Nat) (A : Option Addr) (c : Nat) (L : List (List UInt8)) : Prop where
  le : L.length ≤ c
  nil : A = none → c = 0
  at_ : ∀ ad, A = some ad → (0 < L.length → ad.block < K) ∧ ∀ (j : Nat) (l : List UInt8), L[j]? = some l → w.cell? (ad.add j) = some (.string (baO l))
theorem SrcO.none_ (w : World) (K : Nat) : SrcO w K none 0 [] := ⟨Nat.le_refl _, fun _ => rfl, fun _ h => by cases h⟩
theorem SrcO.keep {w w' : World} {K : Nat} {A : Option Addr} {c : Nat} {L : List (List UInt8)} (h : SrcO w K A c L) (hk : ∀ p : Addr, p.block < K → w'.cell? p = w.cell? p) : SrcO w' K A c L := by
  refine ⟨h.le, h.nil, fun ad e => ⟨(h.at_ ad e).1, fun j l hj => ?_⟩⟩
  have hl : j < L.length := (List.getElem?_eq_some_iff.1 hj).1
  rw [hk _ (by rw [add_block]; exact (h.at_ ad e).1 (by omega))]
  exact (h.at_ ad e).2 j l hj
theorem SrcO.below {w w' : World} {K : Nat} {A : Option Addr} {c : Nat} {L : List (List UInt8)} (h : SrcO w K A c L) (hb : Below K w w') : SrcO w' K A c L := h.keep fun _ hp => hb.cell hp
theorem SrcO.more {w : World} {K K' : Nat} {A : Option Addr} {c : Nat} {L : List (List UInt8)} (h : SrcO w K A c L) (hb : K ≤ K') : SrcO w K' A c L :=
  ⟨h.le, h.nil, fun ad e => ⟨fun h0 => Nat.lt_of_lt_of_le ((h.at_ ad e).1 h0) hb, (h.at_ ad e).2⟩⟩
theorem OwnO.src {w : World} {base : Nat} {A : Option Addr} {c n : Nat} {L : List (List UInt8)} (h : OwnO w base (.slice A n c) L) : SrcO w w.heap.size A c L := by
  rcases h.form with ⟨e1, rfl⟩ | ⟨g, c', e1, _, e2, e3, _, e4⟩
  · injection e1 with e1 _ e3
    subst e1 e3
    exact SrcO.none_ _ _
  · injection e1 with e1 _ e5
    subst e1 e5
    refine ⟨e3, (by simp), fun ad e => ?_⟩
    injection e with e
    subst e
    refine ⟨fun _ => e2, fun j l hj => ?_⟩
    have hadd : (⟨g, 0, none⟩ : Addr).add j = ⟨g, j, none⟩ := by unfold Addr.add; split <;> simp_all
    rw [hadd]
    exact e4 j l hj
theorem wt_take (L : List (List UInt8)) : ∀ k, wt (L.take k) ≤ wt L := fun k => by
  have h := congrArg wt (List.take_append_drop k L)
  unfold wt at h ⊢
  rw [List.flatMap_append, List.length_append] at h
  omega
theorem add_zero7 (B : Option Addr) : B.map (fun a => a.add 0) = B := by
  cases B with
  | none => rfl
  | some a => simp [Addr.add]
theorem cut_to (B : Option Addr) (m cc k : Nat) (hk : k ≤ m) (hm : m ≤ cc) (W : World) :
    (Instr.sliceAt 23 (.slice B m cc) none (some (.int .i64 (k : Int))) none).run Tryz.prog W = .ok (.slice B k cc) W := by
  have h1 : (0 : Int) ≤ (k : Int) := by omega
  have h2 : (k : Int) ≤ (cc : Int) := by omega
  go_simp
theorem cut_from (B : Option Addr) (m cc k : Nat) (hk : k ≤ m) (hm : m ≤ cc) (W : World) :
    (Instr.sliceAt 23 (.slice B m cc) (some (.int .i64 (k : Int))) none none).run Tryz.prog W = .ok (.slice (if cc = k then B else B.map (·.add k)) (m - k) (cc - k)) W := by
  have h1 : (0 : Int) ≤ (k : Int) := by omega
  have h2 : (k : Int) ≤ (m : Int) := by omega
  have h3 : (m : Int) ≤ (cc : Int) := by omega
  go_simp
theorem addr_add7 (a : Addr) (k j : Nat) : (a.add k).add j = a.add (k + j) := by
  rcases k with _ | k
  · rw [Nat.zero_add]
    rfl
  · rcases j with _ | j
    · rfl
    · unfold Addr.add
      simp
      omega
theorem SrcO.take {w : World} {K : Nat} {A : Option Addr} {c : Nat} {L : List (List UInt8)} (h : SrcO w K A c L) (n : Nat) : SrcO w K A c (L.take n) := by
  refine ⟨Nat.le_trans (List.length_take_le' ..) h.le, h.nil, fun ad e => ⟨fun h0 => (h.at_ ad e).1 (Nat.lt_of_lt_of_le h0 (List.length_take_le' ..)), fun j x hj => ?_⟩⟩
  rw [List.getElem?_take] at hj
  split at hj
  · exact (h.at_ ad e).2 j x hj
  · cases hj
theorem SrcO.drop {w : World} {K : Nat} {A : Option Addr} {c : Nat} {L : List (List UInt8)} (h : SrcO w K A c L) (k : Nat) : SrcO w K (if c = k then A else A.map (·.add k)) (c - k) (L.drop k) := by
  have hle := h.le
  by_cases e : c = k
  · rw [if_pos e]
    have hd : L.drop k = [] := List.drop_of_length_le (by omega)
    rw [hd]
    refine ⟨by simp, fun hA => by have := h.nil hA; omega, fun ad hA => ⟨fun h0 => by simp at h0, fun j x hj => by simp at hj⟩⟩
  · rw [if_neg e]
    refine ⟨by rw [List.length_drop]; omega, fun hA => ?_, fun ad hA => ?_⟩
    · cases A with
      | none => have := h.nil rfl; omega
      | some a => cases hA
    · cases A with
      | none => cases hA
      | some a =>
        injection hA with hA
        subst hA
        refine ⟨fun h0 => ?_, fun j x hj => ?_⟩
        · rw [add_block]
          rw [List.length_drop] at h0
          exact (h.at_ a rfl).1 (by omega)
        · rw [List.getElem?_drop] at hj
          have := (h.at_ a rfl).2 (k + j) x hj
          rwa [addr_add7]
/-- append of strings at a step of a region that draws its order. -/
theorem step_strs {w : World} {ops : Array Oper} {o : Oper} {a : Act} {K : Act → World → Prop} {Q : Exit → Act → World → Prop} {E : Prop} (hgd : o.guard = none) (s x : Operand)
    (ho : o.op = .call { callee := .builtin .append, args := #[s, x], argTypes := #[23, 23] })
    (base : Nat) (v : Value) (L : List (List UInt8)) (n : Nat) (hn : L.length = n) (hs : a.eval s = v) (hown : OwnO w base v L)
    (B : Nat) (A : Option Addr) (m c : Nat) (M : List (List UInt8)) (hm : M.length = m) (hx : a.eval x = .slice A m c) (hsrc : SrcO w B A c M)
    (N : Nat) (hN : n + m = N) (hlen : N ≤ 2000000) (hbase : base ≤ w.heap.size)
    (h : ∀ A' c' w', OwnO w' base (.slice A' N c') (L ++ M) → Below base w w' → (∀ p : Addr, p.block < w.heap.size → some p.block ≠ v.ownBlock → w'.cell? p = w.cell? p) → K (a.put o.dst (.slice A' N c')) w') :
    if Region.wanted o (yielded ops a.tmps) = true then Oper.wp Tryz.prog o a w K Q else E := by
  have hw : Region.wanted o (yielded ops a.tmps) = true := by simp [Region.wanted, hgd]
  rw [if_pos hw]
  obtain ⟨i0, hi, hz0, hz1, hz2⟩ := info_parts info_str
  subst hn hm hN
  have hform : ∀ (v' : Value) (w' : World) (T : List (List UInt8)), OwnO w' base v' T → ∃ A' c', v' = .slice A' T.length c' := fun v' w' T hO => by
    rcases hO.form with ⟨h1, h2⟩ | ⟨g, c', h1, _⟩
    · exact ⟨none, 0, by rw [h1, h2]; rfl⟩
    · exact ⟨_, c', h1⟩
  rcases A with _ | ad
  · have hc : c = 0 := hsrc.nil rfl
    have hm : M = [] := List.eq_nil_of_length_eq_zero (by have := hsrc.le; omega)
    subst hc hm
    have hrun := run_append_owned_none (P := Tryz.prog) (w := w) base 23 o.type 9 i0 1 Tryz.underlying23 hi v L.length (cellsO L) hown
    obtain ⟨A', c', rfl⟩ := hform v w L hown
    unfold Oper.wp
    simp only [List.length_nil] at hx
    simp [execOp, ho, resolve, invoke, builtin, hs, hx, hrun, Result.andThen]
    have t : K (a.put o.dst (.slice A' L.length c')) w := by
      have := h A' c' w (by rw [List.append_nil]; exact hown) (Below.refl _ _) (fun _ _ _ => rfl)
      simpa using this
    exact t
  · obtain ⟨v', w', hr, hown', hg, _⟩ := run_append_own (P := Tryz.prog) (w := w) base 23 o.type 9 i0 _ 1 16 Tryz.underlying23 hi hz0 hz1 hz2 rfl (by decide) v L.length (cellsO L) hown ad M.length c (cellsO M) (by rw [cellsO_len, Nat.mul_one]) (fun j u hj => by
      unfold cellsO at hj
      rw [List.getElem?_map, Option.map_eq_some_iff] at hj
      obtain ⟨l, h1, rfl⟩ := hj
      exact (hsrc.at_ ad rfl).2 j l h1) (fun u hu => by
      obtain ⟨l, _, rfl⟩ := List.mem_map.1 hu
      rfl) (by simp only [maxLen]; omega) (by omega) hbase
    have hO : OwnO w' base v' (L ++ M) := by
      unfold OwnO
      rw [cellsO_app, List.length_append]
      exact hown'
    obtain ⟨A', c', rfl⟩ := hform v' w' _ hO
    unfold Oper.wp execOp
    simp only [ho, resolve, invoke, builtin, Sem.run_bind, Sem.run_pure, Result.andThen_ok, List.map_toArray, List.map_cons, List.map_nil, hs, hx, hr]
    rw [List.length_append] at hO ⊢
    exact h A' c' w' hO ((Below.refl _ _).grown hg hbase (fun k hk => (hown.lt k hk).1)) (fun p hp hne => hg.cell_far p hp hne)
theorem OwnO.lit (w : World) (base : Nat) (hb : base ≤ w.heap.size) : OwnO (w.alloc (.cells #[] 9)) base (.slice (some ⟨w.heap.size, 0, none⟩) 0 0) [] :=
  ⟨rfl, .inr ⟨w.heap.size, 0, #[], rfl, hb, heap_alloc_new w _, Nat.le_refl _, by simp [maxLen], rfl, rfl⟩⟩
theorem OwnO.lit2 (w : World) (o : Obj) (base : Nat) (hb : base ≤ w.heap.size) : OwnO ((w.alloc o).alloc (.cells #[] 9)) base (.slice (some ⟨w.heap.size + 1, 0, none⟩) 0 0) [] := by
  have := OwnO.lit (w.alloc o) base (by simp; omega)
  rwa [show (w.alloc o).heap.size = w.heap.size + 1 by simp] at this
theorem SrcO.one_at {w : World} {b : Nat} {l : List UInt8} (h : w.cell? ⟨b, 0, none⟩ = some (.string (baO l))) : SrcO w (b + 1) (some ⟨b, 0, none⟩) 1 [l] :=
  ⟨Nat.le_refl _, (by simp), fun ad e => by
    injection e with e
    subst e
    refine ⟨fun _ => Nat.lt_succ_self _, fun j x hj => ?_⟩
    match j, hj with
    | 0, hj => simp at hj; subst hj; exact h⟩
theorem one_cell (w : World) (l : List UInt8) : (w.alloc (.cells #[.string (baO l)] 9)).cell? ⟨w.heap.size, 0, none⟩ = some (.string (baO l)) := by
  have := news_one w (.string (baO l)) 9 0 _ rfl
  exact this
theorem world_out {p : World → Prop} {w : World} (a b : Nat) (h : ∀ W, Below w.heap.size w W → W.heap.size = w.heap.size → p W) : p ((w.drewN a).drewN b) := by
  have hb : ∀ (W : World) n, Below w.heap.size w W → W.heap.size = w.heap.size → Below w.heap.size w (W.drewN n) ∧ (W.drewN n).heap.size = w.heap.size := fun W n => by
    induction n with
    | zero => exact fun h1 h2 => ⟨h1, h2⟩
    | succ n ih => exact fun h1 h2 => ⟨(ih h1 h2).1.drew, (ih h1 h2).2⟩
  have h1 := hb w a (Below.refl _ _) rfl
  have h2 := hb _ b h1.1 h1.2
  exact h _ h2.1 h2.2
theorem SrcO.one (w : World) (l : List UInt8) : SrcO (w.alloc (.cells #[.string (baO l)] 9)) (w.heap.size + 1) (some ⟨w.heap.size, 0, none⟩) 1 [l] :=
  ⟨Nat.le_refl _, (by simp), fun ad e => by
    injection e with e
    subst e
    refine ⟨fun _ => Nat.lt_succ_self _, fun j x hj => news_one w _ 9 j _ ?_⟩
    match j, hj with
    | 0, hj => simp at hj; subst hj; rfl⟩
def Valid7 (M : List Nat) : Prop := okA M = true ∧ ∀ n ∈ M, n < 10000000000
/-- The numbers whose bytes these are. -/
def rdX (l : List Nat) : Option (List Nat) :=
  if okA (unfoldA (rdS 0 l)) && (unfoldA (rdS 0 l)).all (fun n => decide (n < 10000000000)) && (putA (unfoldA (rdS 0 l)) == l) then some (unfoldA (rdS 0 l)) else none
theorem rdX_some {l M : List Nat} (h : rdX l = some M) : Valid7 M ∧ putA M = l := by
  unfold rdX at h
  split at h
  · rename_i h1
    injection h with h
    rw [h] at h1
    simp only [Bool.and_eq_true, List.all_eq_true, decide_eq_true_eq, beq_iff_eq] at h1
    exact ⟨⟨h1.1.1, h1.1.2⟩, h1.2⟩
  · cases h
theorem rdX_put {M : List Nat} (h : Valid7 M) : rdX (putA M) = some M := by
  unfold rdX
  rw [read_put h.1, if_pos]
  simp only [Bool.and_eq_true, List.all_eq_true, decide_eq_true_eq, beq_iff_eq]
  exact ⟨⟨h.1, h.2⟩, trivial⟩
theorem valid_arcs {l : List UInt8} {L : List Nat} (h : arcsO l = some L) : Valid7 L := ⟨(arcsO_some h).2.1, (arcsO_some h).2.2.1⟩
theorem arcs_valid {L : List Nat} (h : Valid7 L) : arcsO (txA L) = some L := arcsO_txA h.1 h.2
/-- The document's reading, byte by byte. -/
def pushT (s : List UInt8) (m : Nat) : List UInt8 := if s = [] then decDigits (min (m / 40) 2) ++ 46 :: decDigits (m - 40 * min (m / 40) 2) else s ++ 46 :: decDigits m
def rdL : List UInt8 → Nat → List Nat → Option (List UInt8)
  | s, _, [] => some s
  | s, n, x :: r => if 200 ≤ s.length then some s else if 100000000000 < n then none else if 127 < x then rdL s (n * 128 + x % 128) r else rdL (pushT s (n * 128 + x % 128)) 0 r
theorem rdL_long (s : List UInt8) (n : Nat) (l : List Nat) (h : 200 ≤ s.length) : rdL s n l = some s := by
  cases l with
  | nil => rw [rdL]
  | cons x r => rw [rdL, if_pos h]
theorem rdL_cons (s : List UInt8) (n x : Nat) (r : List Nat) (h : s.length < 200) (h1 : n ≤ 100000000000) : rdL s n (x :: r) = if 127 < x then rdL s (n * 128 + x % 128) r else rdL (pushT s (n * 128 + x % 128)) 0 r := by
  rw [rdL, if_neg (by omega), if_neg (by omega)]
theorem rdL_big (s : List UInt8) (n x : Nat) (r : List Nat) (h : s.length < 200) (h1 : 100000000000 < n) : rdL s n (x :: r) = none := by
  rw [rdL, if_neg (by omega), if_pos h1]
theorem rdL_hi (s : List UInt8) (hs : s.length < 200) (n : Nat) : ∀ r, 0 < n → n ≤ 100000000000 → rdL s 0 (svHi n ++ r) = rdL s n r := by
  induction n using Nat.strongRecOn with
  | ind n ih =>
    intro r h hb
    rw [svHi]
    split
    · rw [List.cons_append, rdL_cons s _ _ _ hs (by omega), if_pos (by omega)]
      have : 0 * 128 + (n + 128) % 128 = n := by omega
      rw [this]
      rfl
    · rename_i h1
      rw [List.append_assoc, ih (n / 128) (by omega) _ (by omega) (by omega), List.cons_append, rdL_cons s _ _ _ hs (by omega), if_pos (by omega)]
      have : n / 128 * 128 + (n % 128 + 128) % 128 = n := by omega
      rw [this]
      rfl
theorem rdL_sv (s : List UInt8) (hs : s.length < 200) (n : Nat) (r : List Nat) (hb : n ≤ 100000000000) : rdL s 0 (sv n ++ r) = rdL (pushT s n) 0 r := by
  unfold sv
  split
  · rw [List.cons_append, rdL_cons s _ _ _ hs (by omega), if_neg (by omega)]
    have : 0 * 128 + n % 128 = n := by omega
    rw [this]
    rfl
  · rename_i h
    rw [List.append_assoc, rdL_hi s hs (n / 128) _ (by omega) (by omega), List.cons_append, rdL_cons s _ _ _ hs (by omega), if_neg (by omega)]
    have : n / 128 * 128 + n % 128 % 128 = n := by omega
    rw [this]
    rfl
theorem rdL_more : ∀ (r : List Nat) (s : List UInt8), s ≠ [] → (∀ n ∈ r, n ≤ 100000000000) → s.length + (r.flatMap fun q => (46 : UInt8) :: decDigits q).length < 200 → rdL s 0 (r.flatMap sv) = some (s ++ r.flatMap fun q => (46 : UInt8) :: decDigits q)
  | [], s, _, _, _ => by
    rw [List.flatMap_nil, List.flatMap_nil, List.append_nil, rdL]
  | n :: r, s, h0, hn, hl => by
    rw [List.flatMap_cons, List.length_append] at hl
    rw [List.flatMap_cons, List.flatMap_cons, rdL_sv s (by omega) n _ (hn n List.mem_cons_self)]
    have e : pushT s n = s ++ 46 :: decDigits n := if_neg h0
    rw [e, rdL_more r _ (by simp) (fun m hm => hn m (List.mem_cons_of_mem _ hm)) (by rw [List.length_append]; omega), List.append_assoc]
theorem rdL_put {M : List Nat} (h : Valid7 M) : rdL [] 0 (putA M) = some (txA M) := by
  obtain ⟨h1, h2⟩ := h
  have hl := txA_len M h2
  have hk := okA_len h1
  match M, h1, h2, hl, hk with
  | a :: b :: r, h1, h2, hl, hk =>
    simp only [okA, Bool.and_eq_true, Bool.or_eq_true, decide_eq_true_eq] at h1
    have e : min ((a * 40 + b) / 40) 2 = a := by omega
    have e2 : a * 40 + b - 40 * a = b := by omega
    have hb := h2 b (by simp)
    have ht : txA (a :: b :: r) = (decDigits a ++ 46 :: decDigits b) ++ r.flatMap fun q => (46 : UInt8) :: decDigits q := by
      unfold txA jn
      simp only [List.map_cons, List.flatMap_cons, List.flatMap_map]
      simp
    rw [ht] at hl ⊢
    unfold putA foldA
    rw [List.flatMap_cons, rdL_sv [] (by simp) _ _ (by omega)]
    have ep : pushT [] (a * 40 + b) = decDigits a ++ 46 :: decDigits b := by
      unfold pushT
      rw [if_pos rfl, e, e2]
    rw [List.length_append] at hl
    rw [ep, rdL_more r _ (by simp) (fun n hn => Nat.le_of_lt (Nat.lt_trans (h2 n (List.mem_cons_of_mem _ (List.mem_cons_of_mem _ hn))) (by omega))) (by omega)]
theorem rdX_rdL {l M : List Nat} (h : rdX l = some M) : rdL [] 0 l = some (txA M) := by
  obtain ⟨h1, h2⟩ := rdX_some h
  rw [← h2]
  exact rdL_put h1
theorem rdX_none {l : List Nat} (h : rdX l = none) {s : List UInt8} {L : List Nat} (hs : arcsO s = some L) : putA L ≠ l := by
  intro e
  have := rdX_put (valid_arcs hs)
  rw [e, h] at this
  cases this
theorem sp_app (b : UInt8) : ∀ l m : List UInt8, sp b (l ++ b :: m) = sp b l ++ sp b m
  | [], m => by
    have h : sp b (b :: m) = [] :: sp b m := by rw [sp, if_pos rfl]
    exact h
  | x :: l, m => by
    have ih := sp_app b l m
    have hne := sp_ne b l
    rw [List.cons_append, sp, sp, ih]
    cases hs : sp b l with
    | nil => exact absurd hs hne
    | cons p ps =>
      split <;> rfl
/-- How often a sign stands in a text. -/
theorem sp_count (b : UInt8) : ∀ l, (sp b l).length = l.countP (· == b) + 1
  | [] => rfl
  | x :: l => by
    have ih := sp_count b l
    have hne := sp_ne b l
    unfold sp
    by_cases h : x = b
    · rw [if_pos h, List.length_cons, ih, List.countP_cons_of_pos (by simp [h])]
    · rw [if_neg h, List.length_cons, List.length_tail, ih, List.countP_cons_of_neg (by simp [h])]
      omega
theorem mapM_app {α β : Type} (f : α → Option β) : ∀ (l m : List α), (l ++ m).mapM f = (l.mapM f).bind fun x => (m.mapM f).map fun y => x ++ y
  | [], m => by
    rw [List.nil_append]
    cases m.mapM f <;> rfl
  | a :: l, m => by
    have ih := mapM_app f l m
    rw [List.cons_append, List.mapM_cons, List.mapM_cons, ih]
    cases f a with
    | none => rfl
    | some b =>
      cases l.mapM f with
      | none => rfl
      | some x => cases m.mapM f <;> rfl
theorem okA_more {L : List Nat} (h : 2 ≤ L.length) (n : Nat) : okA (L ++ [n]) = (okA L && decide (L.length < 16)) := by
  match L, h with
  | a :: b :: r, _ =>
    simp only [List.cons_append, okA, List.length_append, List.length_cons, List.length_nil]
    by_cases h1 : r.length < 14
    · have e1 : decide (r.length + 1 ≤ 14) = true := decide_eq_true (by omega)
      have e2 : decide (r.length ≤ 14) = true := decide_eq_true (by omega)
      have e3 : decide (r.length + 1 + 1 < 16) = true := decide_eq_true (by omega)
      simp only [Nat.zero_add, e1, e2, e3, Bool.and_true]
    · have e1 : decide (r.length + 1 ≤ 14) = false := decide_eq_false (by omega)
      have e3 : decide (r.length + 1 + 1 < 16) = false := decide_eq_false (by omega)
      simp only [Nat.zero_add, e1, e3, Bool.and_false]
theorem arcsO_parts {l : List UInt8} {L : List Nat} (h : arcsO l = some L) : (sp 46 l).mapM arcV = some L := by
  unfold arcsO at h
  split at h
  · rw [Option.filter_eq_some_iff] at h
    exact h.1
  · cases h
theorem arcsO_count {l : List UInt8} {L : List Nat} (h : arcsO l = some L) : l.countP (· == 46) + 1 = L.length := by
  rw [← (mapM_get arcV _ _ (arcsO_parts h)).1, sp_count]
/-- A number more: if there are not sixteen. -/
theorem arcsO_more {l : List UInt8} {L : List Nat} (h : arcsO l = some L) {n : Nat} (hn : n < 10000000000) : arcsO (l ++ 46 :: decDigits n) = if L.length < 16 then some (L ++ [n]) else none := by
  obtain ⟨h1, h2, h3, h4⟩ := arcsO_some h
  have h5 := okA_len h2
  have hp : (sp 46 (l ++ 46 :: decDigits n)).mapM arcV = some (L ++ [n]) := by
    rw [sp_app, mapM_app, arcsO_parts h, sp_part 46 _ (dot_free _ (digs_dec n))]
    show (([decDigits n] : List (List UInt8)).mapM arcV).map (fun y => L ++ y) = _
    rw [List.mapM_cons, arcV_dec hn]
    rfl
  have ho := okA_more h5.1 n
  rw [h2, Bool.true_and] at ho
  unfold arcsO
  by_cases h16 : L.length < 16
  · have hlen : (l ++ 46 :: decDigits n).length ≤ 200 := by
      have h6 := txA_len L h3
      rw [h1] at h6
      have h7 := dec_len hn
      rw [List.length_append, List.length_cons]
      omega
    rw [if_pos hlen, if_pos h16, hp]
    rw [decide_eq_true h16] at ho
    simp [ho]
  · rw [if_neg h16, hp]
    rw [decide_eq_false h16] at ho
    split
    · simp [ho]
    · rfl
/-- What is none, and with a number more is one: one number alone. -/
theorem arcsO_less {l : List UInt8} {M : List Nat} (h : arcsO l = none) (hm : arcsO (l ++ [46, 49]) = some M) : l = [48] ∨ l = [49] ∨ l = [50] := by
  have hp := arcsO_parts hm
  have h200 : l.length ≤ 200 := by
    have := (arcsO_some hm).2.2.2
    simp at this
    omega
  rw [show l ++ [46, 49] = l ++ 46 :: [49] from rfl, sp_app, mapM_app] at hp
  cases hL : (sp 46 l).mapM arcV with
  | none => rw [hL] at hp; cases hp
  | some L =>
    rw [hL] at hp
    have e1 : (sp 46 [49]).mapM arcV = some [1] := by decide +kernel
    rw [e1] at hp
    injection hp with hp
    subst hp
    have hok := (arcsO_some hm).2.1
    have hnok : okA L = false := by
      unfold arcsO at h
      rw [if_pos h200, hL] at h
      cases hq : okA L with
      | false => rfl
      | true => simp [hq] at h
    match L, hok, hnok, hL with
    | [], hok, _, _ => simp [okA] at hok
    | [a], hok, _, hL =>
      simp only [List.cons_append, List.nil_append, okA, Bool.and_eq_true, decide_eq_true_eq] at hok
      have h2 : a ≤ 2 := hok.1.1
      obtain ⟨g1, g2⟩ := mapM_get arcV _ _ hL
      have hj := jn_sp 46 l
      cases hs : sp 46 l with
      | nil => exact absurd hs (sp_ne 46 l)
      | cons p ps =>
        rw [hs] at g1 hj
        have hps : ps = [] := List.eq_nil_of_length_eq_zero (by simpa using g1)
        subst hps
        have g3 := g2 0 (by rw [hs]; simp) (by simp)
        have g4 := arcV_some g3
        simp only [hs, List.getElem_cons_zero] at g4
        have hpl : p = l := by
          have : jn 46 [p] = p ++ [] := rfl
          rw [this, List.append_nil] at hj
          exact hj
        rw [← hpl, ← g4.1]
        rcases show a = 0 ∨ a = 1 ∨ a = 2 by omega with rfl | rfl | rfl
        · exact .inl (by decide +kernel)
        · exact .inr (.inl (by decide +kernel))
        · exact .inr (.inr (by decide +kernel))
    | a :: b :: r, hok, hnok, _ =>
      have := okA_more (L := a :: b :: r) (by simp) 1
      rw [hok, hnok] at this
      cases this
theorem putA_more {L : List Nat} (h : 2 ≤ L.length) (n : Nat) : putA (L ++ [n]) = putA L ++ sv n := by
  match L, h with
  | a :: b :: r, _ =>
    unfold putA
    simp only [List.cons_append, foldA, List.flatMap_cons, List.flatMap_append, List.flatMap_nil, List.append_nil, List.append_assoc]
theorem sv_lens : (sv 0).length = 1 ∧ (sv 127).length = 1 ∧ (sv 128).length = 2 ∧ (sv 9999999999).length = 5 := by decide +kernel
theorem dec_lens : decDigits 0 = [48] ∧ decDigits 127 = [49, 50, 55] ∧ decDigits 128 = [49, 50, 56] ∧ decDigits 9999999999 = [57, 57, 57, 57, 57, 57, 57, 57, 57, 57] := by decide +kernel
/-- A row of ints of the call's own. -/
def cellsI (l : List Nat) : List Value := l.map fun (n : Nat) => Value.int .i64 (n : Int)
def OwnN (w : World) (base : Nat) (v : Value) (l : List Nat) : Prop := w.ownsRow base 3 1 v l.length (cellsI l)
theorem info_int : (Tryz.prog.info? 3).map (fun i => (i.zero, i.size, i.bytes)) = some (some (.int .i64 0), 1, 8) := by kernel_rfl
theorem OwnN.form {w : World} {base : Nat} {v : Value} {l : List Nat} (h : OwnN w base v l) (h0 : 0 < l.length) : ∃ g c, v = .slice (some ⟨g, 0, none⟩) l.length c ∧ ∀ (i n : Nat), l[i]? = some n → w.cell? ⟨g, i, none⟩ = some (.int .i64 (n : Int)) := by
  obtain ⟨_, h2 | ⟨g, cap, cur, hv, hbs, hg, hn, hm, hs, hx⟩⟩ := h
  · omega
  · refine ⟨g, cap, hv, fun i n hi => ?_⟩
    have hil : i < l.length := (List.getElem?_eq_some_iff.1 hi).1
    rw [cell_of_row w g i cur _ _ hg]
    have h2 : (cellsI l)[i]? = some (Value.int .i64 (n : Int)) := by simp [cellsI, hi]
    rw [← hx, List.getElem?_take, if_pos (by omega)] at h2
    simpa using h2
theorem append_int {w : World} {ops : Array Oper} {rest : List Oper} {o : Oper} {a : Act} {Q : Exit → Act → World → Prop} (hgd : o.guard = none) (s x : Operand)
    (ho : o.op = .call { callee := .builtin .append, args := #[s, x], argTypes := #[137, 137] })
    (base z : Nat) (v : Value) (l : List Nat) (n : Nat) (hn : l.length = n) (hs : a.eval s = v) (hown : OwnN (w.alloc (.cells #[.int .i64 (z : Int)] 3)) base v l)
    (hx : a.eval x = .slice (some ⟨w.heap.size, 0, none⟩) 1 1) (hlen : n + 1 ≤ 2000000) (hbase : base ≤ w.heap.size)
    (h : ∀ g' c' w', OwnN w' base (.slice (some ⟨g', 0, none⟩) (n + 1) c') (l ++ [z]) → Below base (w.alloc (.cells #[.int .i64 (z : Int)] 3)) w' → (∀ b, b < (w.alloc (.cells #[.int .i64 (z : Int)] 3)).heap.size → some b ≠ v.ownBlock → w'.heap[b]? = (w.alloc (.cells #[.int .i64 (z : Int)] 3)).heap[b]?) → wpList Tryz.prog ops Q rest (a.put o.dst (.slice (some ⟨g', 0, none⟩) (n + 1) c')) w') : wpList Tryz.prog ops Q (o :: rest) a (w.alloc (.cells #[.int .i64 (z : Int)] 3)) := by
  obtain ⟨i0, hi, hz0, hz1, hz2⟩ := info_parts info_int
  subst hn
  have hb' : base ≤ (w.alloc (.cells #[.int .i64 (z : Int)] 3)).heap.size := by simp; omega
  refine wpList_append_own _ hgd s x 137 ho base 3 i0 _ 1 8 Tryz.underlying137 hi hz0 hz1 hz2 rfl (by decide) v l.length (cellsI l) hs hown ⟨w.heap.size, 0, none⟩ 1 1 [.int .i64 (z : Int)] hx rfl (news_one w _ 3) (by intro u hu; simp only [List.mem_singleton] at hu; subst hu; rfl)
    (by simp only [maxLen]; omega) (by omega) hb' fun v' w' hown' hg _ => ?_
  have ho' : OwnN w' base v' (l ++ [z]) := by
    unfold OwnN
    rw [List.length_append, show cellsI (l ++ [z]) = cellsI l ++ [.int .i64 (z : Int)] by simp [cellsI]]
    exact hown'
  obtain ⟨g', c', rfl, _⟩ := ho'.form (by simp)
  rw [List.length_append] at ho' ⊢
  exact h g' c' w' ho' ((Below.refl _ _).grown hg hb' (fun k hk => (hown.lt k hk).1)) hg.block
theorem OwnN.nil (w : World) (base : Nat) : OwnN w base (.slice none 0 0) [] := ⟨rfl, .inl ⟨rfl, rfl⟩⟩
theorem OwnN.alloc {w : World} {base : Nat} {v : Value} {l : List Nat} (h : OwnN w base v l) (o : Obj) : OwnN (w.alloc o) base v l := World.ownsRow.alloc h o
theorem OwnN.below {w w' : World} {base K : Nat} {v : Value} {l : List Nat} (h : OwnN w base v l) (hb : Below K w w') (hK : w.heap.size ≤ K) : OwnN w' base v l := by
  obtain ⟨h1, h0 | ⟨g, cap, cur, hv, hbs, hg, hn, hm, hs, hx⟩⟩ := h
  · exact ⟨h1, .inl h0⟩
  · refine ⟨h1, .inr ⟨g, cap, cur, hv, hbs, ?_, hn, hm, hs, hx⟩⟩
    rw [hb.block g (Nat.lt_of_lt_of_le (Array.getElem?_eq_some_iff.1 hg).1 hK)]
    exact hg
theorem OwnN.base_le {w : World} {base base' : Nat} {v : Value} {l : List Nat} (h : OwnN w base v l) (hb : base' ≤ base) : OwnN w base' v l := by
  obtain ⟨h1, h0 | ⟨g, cap, cur, hv, hbs, hg, hn, hm, hs, hx⟩⟩ := h
  · exact ⟨h1, .inl h0⟩
  · exact ⟨h1, .inr ⟨g, cap, cur, hv, Nat.le_trans hb hbs, hg, hn, hm, hs, hx⟩⟩
theorem arcV_rd (l : List UInt8) : arcV l = if (rdD l).2 = true ∧ l.length ≤ 10 then some (rdD l).1 else none := by
  unfold arcV rdD
  by_cases hb : l.length < 1 ∨ 18 < l.length ∨ (l.head? = some 48 ∧ 1 < l.length)
  · rw [if_pos hb, if_neg, if_neg (by simp)]
    intro h
    simp only [Bool.and_eq_true, decide_eq_true_eq] at h
    obtain ⟨h1, h2⟩ := h
    have hc := (canonB_iff l).1 h1
    rcases hb with hb | hb | ⟨hb, hb2⟩
    · exact hc.1 (List.eq_nil_of_length_eq_zero (by omega))
    · omega
    · rcases hc.2.2 with h3 | h3
      · omega
      · exact h3 hb
  · rw [if_neg hb]
    by_cases hd : digsL l = true
    · rw [if_pos hd]
      have hc : canonB l = true := (canonB_iff l).2 ⟨fun e => hb (.inl (by rw [e]; decide)), hd, by
        by_cases h1 : l.length = 1
        · exact .inl h1
        · exact .inr (fun e => hb (.inr (.inr ⟨e, by
            have : l.length ≠ 0 := fun e => hb (.inl (by omega))
            omega⟩)))⟩
      by_cases h10 : l.length ≤ 10
      · rw [if_pos (by rw [hc, decide_eq_true h10]; rfl), if_pos ⟨rfl, h10⟩]
      · rw [if_neg (by rw [decide_eq_false h10]; simp), if_neg (fun h => h10 h.2)]
    · rw [if_neg hd, if_neg, if_neg (by simp)]
      intro h
      simp only [Bool.and_eq_true, decide_eq_true_eq] at h
      exact hd ((canonB_iff l).1 h.1).2.1
theorem rdD_lt (l : List UInt8) : (rdD l).1 < 1000000000000000000 := by
  unfold rdD
  split
  · decide
  · split
    · rename_i h1 h2
      have h3 := natV_lt l h2
      have h4 : 10 ^ l.length ≤ 10 ^ 18 := Nat.pow_le_pow_right (by decide) (by omega)
      have h5 : (10 : Nat) ^ 18 = 1000000000000000000 := by decide
      exact Nat.lt_of_lt_of_le h3 (h5 ▸ h4)
    · decide
theorem mapM_snoc (P : List (List UInt8)) (k : Nat) (h : k < P.length) {M : List Nat} (hM : (P.take k).mapM arcV = some M) : (P.take (k + 1)).mapM arcV = (arcV P[k]).map fun n => M ++ [n] := by
  rw [List.take_succ_eq_append_getElem h, mapM_app, hM]
  show ([P[k]].mapM arcV).map (fun y => M ++ y) = _
  rw [List.mapM_cons]
  cases arcV P[k] with
  | none => rfl
  | some n => rfl
theorem mapM_cut (P : List (List UInt8)) (k : Nat) (h : (P.take k).mapM arcV = none) : P.mapM arcV = none := by
  have e := List.take_append_drop k P
  rw [← e, mapM_app, h]
  rfl
theorem okA_two (a b : Nat) (r : List Nat) : okA (a :: b :: r) = ((decide (a ≤ 2) && (decide (2 ≤ a) || decide (b ≤ 39))) && decide (r.length ≤ 14)) := rfl
theorem okA_one (a : Nat) : ¬ okA [a] = true := by
  show ¬ false = true
  decide
/-- What Arcs answers. -/
def ArcQ (l : List UInt8) (K : Nat) (e : Ending) (w : World) : Prop :=
  match arcsO l with
  | none => e = .returned (.tuple #[.slice none 0 0, .bool false])
  | some L => ∃ g c, e = .returned (.tuple #[.slice (some ⟨g, 0, none⟩) L.length c, .bool true]) ∧ OwnN w K (.slice (some ⟨g, 0, none⟩) L.length c) L
theorem ArcQ.no {l : List UInt8} {K : Nat} {w : World} (h : arcsO l = none) : ArcQ l K (.returned (.tuple #[.slice none 0 0, .bool false])) w := by
  unfold ArcQ
  rw [h]
theorem ArcQ.yes {l : List UInt8} {K g c n : Nat} {w : World} {L : List Nat} (h : arcsO l = some L) (hn : L.length = n) (ho : OwnN w K (.slice (some ⟨g, 0, none⟩) n c) L) : ArcQ l K (.returned (.tuple #[.slice (some ⟨g, 0, none⟩) n c, .bool true])) w := by
  unfold ArcQ
  rw [h]
  subst hn
  exact ⟨g, c, rfl, ho⟩
theorem arcs_none {l : List UInt8} (h : (sp 46 l).mapM arcV = none) : arcsO l = none := by
  unfold arcsO
  split
  · rw [h]; rfl
  · rfl
theorem arcs_of {l : List UInt8} {M : List Nat} (hl : l.length ≤ 200) (h : (sp 46 l).mapM arcV = some M) : arcsO l = if okA M = true then some M else none := by
  unfold arcsO
  rw [if_pos hl, h]
  rfl
/-- What Put answers. -/
def PutS (l : List UInt8) (K : Nat) (e : Ending) (w : World) : Prop :=
  match arcsO l with
  | none => e = .returned (.tuple #[.slice none 0 0, .int .i64 2])
  | some L => ∃ A c, e = .returned (.tuple #[.slice A (putA L).length c, .int .i64 0]) ∧ Own w K (.slice A (putA L).length c) (putA L)
theorem PutS.no {l : List UInt8} {K : Nat} {w : World} (h : arcsO l = none) : PutS l K (.returned (.tuple #[.slice none 0 0, .int .i64 2])) w := by
  unfold PutS
  rw [h]
theorem PutS.yes {l : List UInt8} {K n c : Nat} {A : Option Addr} {w : World} {L : List Nat} (h : arcsO l = some L) {X : List Nat} (hX : putA L = X) (hn : X.length = n) (ho : Own w K (.slice A n c) X) : PutS l K (.returned (.tuple #[.slice A n c, .int .i64 0])) w := by
  unfold PutS
  rw [h]
  subst hX hn
  exact ⟨A, c, rfl, ho⟩
theorem putA_two (a b : Nat) (r : List Nat) : putA (a :: b :: r) = sv (a * 40 + b) ++ r.flatMap sv := by
  unfold putA foldA
  rw [List.flatMap_cons]
theorem flat_len (r : List Nat) (h : ∀ n ∈ r, n < 10000000000) : (r.flatMap sv).length ≤ 6 * r.length := by
  induction r with
  | nil => exact Nat.le_refl _
  | cons n r ih =>
    have h1 := sv_len5 n (by have := h n List.mem_cons_self; omega)
    have h2 := ih (fun m hm => h m (List.mem_cons_of_mem _ hm))
    rw [List.flatMap_cons, List.length_append, List.length_cons]
    omega
theorem flat_take (r : List Nat) (k : Nat) (h : k < r.length) : (r.take (k + 1)).flatMap sv = (r.take k).flatMap sv ++ sv r[k] := by
  rw [List.take_succ_eq_append_getElem h, List.flatMap_append]
  simp
theorem baO_app (a b : List UInt8) : baO a ++ baO b = baO (a ++ b) := by
  refine eq_baO ?_
  rw [ByteArray.data_append, Array.toList_append, baO_list, baO_list]
theorem baO_size (l : List UInt8) : (baO l).size = l.length := by simp [baO, ByteArray.size]
theorem dec_len15 (n : Nat) (h : n ≤ 100000000000000) : (decDigits n).length ≤ 15 := by
  rw [decDigits_length]
  exact nDigits_le 14 n (by omega)
theorem sv_byte (n : Nat) : ∀ x ∈ sv n, x < 256 := by
  have hi : ∀ n, ∀ x ∈ svHi n, x < 256 := by
    intro n
    induction n using Nat.strongRecOn with
    | ind n ih =>
      intro x hx
      rw [svHi] at hx
      split at hx
      · rw [List.mem_singleton] at hx
        omega
      · rcases List.mem_append.1 hx with hx | hx
        · exact ih (n / 128) (by omega) x hx
        · rw [List.mem_singleton] at hx
          omega
  intro x hx
  unfold sv at hx
  split at hx
  · rw [List.mem_singleton] at hx
    omega
  · rcases List.mem_append.1 hx with hx | hx
    · exact hi _ x hx
    · rw [List.mem_singleton] at hx
      omega
theorem putA_byte (L : List Nat) : ∀ x ∈ putA L, x < 256 := by
  intro x hx
  obtain ⟨n, _, hx⟩ := List.mem_flatMap.1 hx
  exact sv_byte n x hx
/-- What Read answers. -/
def ReadS (l : List Nat) (e : Ending) : Prop :=
  match rdX l with
  | none => e = .returned (.tuple #[.string ⟨#[]⟩, .int .i64 11])
  | some M => e = .returned (.tuple #[.string (baO (txA M)), .int .i64 0])
theorem ReadS.no {l : List Nat} (h : rdX l = none) : ReadS l (.returned (.tuple #[.string ⟨#[]⟩, .int .i64 11])) := by
  unfold ReadS
  rw [h]
theorem ReadS.yes {l : List Nat} {M : List Nat} {s : ByteArray} (h : rdX l = some M) (hs : s = baO (txA M)) : ReadS l (.returned (.tuple #[.string s, .int .i64 0])) := by
  unfold ReadS
  rw [h, hs]
theorem rdX_no {l : List Nat} (h : rdL [] 0 l = none) : rdX l = none := by
  rcases e : rdX l with _ | M
  · rfl
  · rw [rdX_rdL e] at h
    cases h
theorem rdX_bad {l : List Nat} {s : List UInt8} (h : rdL [] 0 l = some s) (hs : arcsO s = none) : rdX l = none := by
  rcases e : rdX l with _ | M
  · rfl
  · rw [rdX_rdL e] at h
    injection h with h
    rw [← h, arcs_valid (rdX_some e).1] at hs
    cases hs
theorem rdX_ne {l : List Nat} {s : List UInt8} {L : List Nat} (h : rdL [] 0 l = some s) (hs : arcsO s = some L) (hne : putA L ≠ l) : rdX l = none := by
  rcases e : rdX l with _ | M
  · rfl
  · rw [rdX_rdL e] at h
    injection h with h
    rw [← h, arcs_valid (rdX_some e).1] at hs
    injection hs with hs
    exact absurd (hs ▸ (rdX_some e).2) hne
theorem rdX_eq {l : List Nat} {s : List UInt8} {L : List Nat} (hs : arcsO s = some L) (he : putA L = l) : rdX l = some L ∧ baO s = baO (txA L) := by
  rw [← he, (arcsO_some hs).1]
  exact ⟨rdX_put (valid_arcs hs), rfl⟩
theorem drop_get (l : List Nat) (i : Nat) (h : i < l.length) : l.drop i = l[i] :: l.drop (i + 1) := List.drop_eq_getElem_cons h
theorem pushT_nil (m : Nat) : pushT [] m = decDigits (min (m / 40) 2) ++ 46 :: decDigits (m - 40 * min (m / 40) 2) := if_pos rfl
theorem pushT_cons (s : List UInt8) (m : Nat) (h : s ≠ []) : pushT s m = s ++ 46 :: decDigits m := if_neg h
theorem Src.next {w w' : World} {A : Option Addr} {c : Nat} {l : List Nat} (h : Src w w.heap.size A c l) (hb : Below w.heap.size w w') : Src w' w'.heap.size A c l := (h.below hb).more hb.size
theorem SrcO.next {w w' : World} {A : Option Addr} {c : Nat} {L : List (List UInt8)} (h : SrcO w w.heap.size A c L) (hb : Below w.heap.size w w') : SrcO w' w'.heap.size A c L := (h.below hb).more hb.size
theorem below_next {K : Nat} {w w1 w2 : World} (h : Below K w w1) (hK : K ≤ w.heap.size) (hb : Below w1.heap.size w1 w2) : Below K w w2 := h.trans (hb.mono (Nat.le_trans hK h.size))
def putO (l : List UInt8) : List Nat × Nat := match arcsO l with | none => ([], 2) | some L => (putA L, 0)
def rdO (l : List Nat) : List UInt8 × Nat := match rdX l with | none => ([], 11) | some M => (txA M, 0)
def deO (l : List UInt8) : List UInt8 × List (List UInt8) × Bool := match descO l with | none => ([], [], false) | some q => (q.1, q.2, true)
theorem putO_none {l : List UInt8} (h : arcsO l = none) : putO l = ([], 2) := by unfold putO; rw [h]
theorem putO_some {l : List UInt8} {L : List Nat} (h : arcsO l = some L) : putO l = (putA L, 0) := by unfold putO; rw [h]
theorem rdO_none {l : List Nat} (h : rdX l = none) : rdO l = ([], 11) := by unfold rdO; rw [h]
theorem rdO_some {l : List Nat} {M : List Nat} (h : rdX l = some M) : rdO l = (txA M, 0) := by unfold rdO; rw [h]
theorem deO_none {l : List UInt8} (h : descO l = none) : deO l = ([], [], false) := by unfold deO; rw [h]
theorem deO_some {l : List UInt8} {q : List UInt8 × List (List UInt8)} (h : descO l = some q) : deO l = (q.1, q.2, true) := by unfold deO; rw [h]
theorem putO_byte (l : List UInt8) : ∀ x ∈ (putO l).1, x < 256 := by
  unfold putO
  cases arcsO l with
  | none => intro x hx; cases hx
  | some L => exact putA_byte L
theorem putA_len7 (L : List Nat) (h : Valid7 L) : (putA L).length ≤ 96 := by
  have hl := okA_len h.1
  obtain ⟨a, b, r, rfl⟩ : ∃ a b r, L = a :: b :: r := by
    match L, hl with
    | a :: b :: r, _ => exact ⟨a, b, r, rfl⟩
  have hk := h.1
  rw [okA_two] at hk
  simp only [Bool.and_eq_true, decide_eq_true_eq] at hk
  have hb := h.2 b (by simp)
  have h1 := sv_len5 (a * 40 + b) (by omega)
  have h2 := flat_len r (fun n hn => h.2 n (by simp [hn]))
  rw [putA_two, List.length_append]
  simp only [List.length_cons] at hl
  omega
end Go.Proofs.YtkffgdndglfcfaaGreatDoor.O7
namespace Go.Proofs.YtkffgdndglfcfaaGreatDoor.O7
open Go.RowKit Go.Lib
open Go.RowKit

theorem baO_hit1 (p q : List UInt8) (b : UInt8) : (baO (p ++ b :: q)).extract 0 p.length = baO p := by
  apply ByteArray.ext
  rw [ByteArray.data_extract]
  apply Array.ext'
  rw [Array.toList_extract]
  simp [baO]
theorem baO_hit2 (p q : List UInt8) (b : UInt8) (n : Nat) (hn : n = (p ++ b :: q).length) : (baO (p ++ b :: q)).extract (p.length + 1) n = baO q := by
  subst hn
  apply ByteArray.ext
  rw [ByteArray.data_extract]
  apply Array.ext'
  rw [Array.toList_extract, List.extract_eq_take_drop]
  show List.take _ (List.drop _ (p ++ b :: q)) = q
  rw [show p.length + 1 = (p ++ [b]).length by simp, show p ++ b :: q = (p ++ [b]) ++ q by simp, List.drop_left]
  exact List.take_of_length_le (by simp; omega)
set_option maxHeartbeats 800000 in
theorem lcut_miss (r : List UInt8) (b : UInt8) (h : b ∉ r) (w : World) :
    Calls Tryz.prog 112 #[.string (baO r), .string { data := #[b] }] w fun e w' => e = .returned (.tuple #[.string (baO r), .string { data := #[] }, .bool false]) ∧ w' = w := by
  have CI := fun w => Tryz.stringslite_Index_one (baO r) b w
  simp only [baO_list, ix_miss h] at CI
  replace CI := Lib.hid CI
  go_enter Tryz.func112, Tryz.ntmps112
  go_wp2_with fail
  refine (CI.out _).mono ?_
  rintro _ w2 ⟨rfl, h2⟩
  subst w2
  dsimp only []
  go_wp2_with fail
  go_returns
  exact ⟨rfl, rfl⟩
set_option maxHeartbeats 800000 in
theorem lcut_hit (p q : List UInt8) (b : UInt8) (h : b ∉ p) (hl : (p ++ b :: q).length ≤ 1000000) (w : World) :
    Calls Tryz.prog 112 #[.string (baO (p ++ b :: q)), .string { data := #[b] }] w fun e w' => e = .returned (.tuple #[.string (baO p), .string (baO q), .bool true]) ∧ Below w.heap.size w w' := by
  have CI := fun w => Tryz.stringslite_Index_one (baO (p ++ b :: q)) b w
  simp only [baO_list, ix_hit h] at CI
  obtain ⟨x, hx⟩ : ∃ x, baO (p ++ b :: q) = x := ⟨_, rfl⟩
  obtain ⟨t, ht⟩ : ∃ t : ByteArray, { data := #[b] } = t := ⟨_, rfl⟩
  have ht1 : t.size = 1 := by rw [← ht]; rfl
  have hxs : x.size = p.length + 1 + q.length := by rw [← hx, baO_size]; simp; omega
  have e1 := baO_hit1 p q b
  have e2 := baO_hit2 p q b x.size (by rw [← hx, baO_size])
  obtain ⟨k, hk⟩ : ∃ k, k = p.length := ⟨_, rfl⟩
  rw [hx, ← hk] at e1 e2
  rw [← ht1] at e2
  rw [hx, ht] at CI ⊢
  rw [← hk] at CI hxs
  have c1 : (0 : Int) ≤ (k : Int) := by omega
  have c2 : (k : Int) ≤ (x.size : Int) := by omega
  have c3 : (0 : Int) ≤ (k : Int) + (t.size : Int) := by omega
  have c4 : (k : Int) + (t.size : Int) ≤ (x.size : Int) := by omega
  have c5 : x.size ≤ 1000000 := by
    rw [← hx, baO_size]; exact hl
  have c6 : t.size ≤ 1 := by omega
  have hb := Lib.hid (below_grow w.heap.size w (Nat.le_refl _) 1 #[])
  replace CI := Lib.hid CI
  clear hx ht hk hxs h hl ht1
  go_enter Tryz.func112, Tryz.ntmps112
  go_wp2_with fail
  refine (CI.out _).mono ?_
  rintro _ w2 ⟨rfl, h2⟩
  subst w2
  dsimp only []
  go_wp2_with fail
  go_region
  go_wp2_with fail
  go_returns
  exact ⟨by rw [← e2]; try rfl, hb.out⟩
theorem cut_miss (r : List UInt8) (b : UInt8) (h : b ∉ r) (w : World) :
    Calls Tryz.prog 84 #[.string (baO r), .string { data := #[b] }] w fun e w' => e = .returned (.tuple #[.string (baO r), .string { data := #[] }, .bool false]) ∧ w' = w := by
  have C := Lib.hid (lcut_miss r b h w)
  go_enter Tryz.func84, Tryz.ntmps84
  go_wp2_with fail
  refine C.out.mono ?_
  rintro _ w2 ⟨rfl, h2⟩
  subst w2
  dsimp only []
  go_wp2_with fail
  go_returns
  exact ⟨rfl, rfl⟩
theorem cut_hit (p q : List UInt8) (b : UInt8) (h : b ∉ p) (hl : (p ++ b :: q).length ≤ 1000000) (w : World) :
    Calls Tryz.prog 84 #[.string (baO (p ++ b :: q)), .string { data := #[b] }] w fun e w' => e = .returned (.tuple #[.string (baO p), .string (baO q), .bool true]) ∧ Below w.heap.size w w' := by
  have C := Lib.hid (lcut_hit p q b h hl w)
  go_enter Tryz.func84, Tryz.ntmps84
  go_wp2_with fail
  refine C.out.mono ?_
  rintro _ w2 ⟨rfl, h2⟩
  replace h2 := Lib.hid h2
  dsimp only []
  go_wp2_with fail
  go_returns
  exact ⟨rfl, h2.out⟩
def capB (c : UInt8) : Bool := decide (65 ≤ c.toNat) && decide (c.toNat ≤ 90)
set_option maxHeartbeats 800000 in
theorem capital_any (c : UInt8) (w : World) : Calls Tryz.prog 145 #[.int .u8 (c.toNat : Int)] w fun e w' => e = .returned (.bool (capB c)) ∧ w' = w := by
  have h : Hid (capB c = (decide (65 ≤ (c.toNat : Int)) && decide ((c.toNat : Int) ≤ 90))) := Lib.hid (by
    unfold capB
    rw [show decide (65 ≤ c.toNat) = decide (65 ≤ (c.toNat : Int)) from decide_eq_decide.2 (by omega), show decide (c.toNat ≤ 90) = decide ((c.toNat : Int) ≤ 90) from decide_eq_decide.2 (by omega)])
  go_enter Tryz.func145, Tryz.ntmps145
  go_wp2
  all_goals
    go_ret
    exact ⟨ret_boolO (by rw [h.out, Bool.eq_iff_iff]; simp; omega), rfl⟩
set_option maxHeartbeats 800000 in
theorem letter_any (c : UInt8) (w : World) : Calls Tryz.prog 141 #[.int .u8 (c.toNat : Int)] w fun e w' => e = .returned (.bool (letterB c)) ∧ w' = w := by
  have h : Hid (letterB c = ((decide (97 ≤ (c.toNat : Int)) && decide ((c.toNat : Int) ≤ 122)) || capB c)) := Lib.hid (by
    unfold letterB capB
    rw [show decide (97 ≤ c.toNat) = decide (97 ≤ (c.toNat : Int)) from decide_eq_decide.2 (by omega), show decide (c.toNat ≤ 122) = decide ((c.toNat : Int) ≤ 122) from decide_eq_decide.2 (by omega)])
  have CC := Lib.hid (capital_any c w)
  obtain ⟨v, hv⟩ : ∃ v, capB c = v := ⟨_, rfl⟩
  rw [hv] at CC h
  replace hv := Lib.hid hv
  by_cases h1 : 97 ≤ (c.toNat : Int)
  · have e1 : decide (97 ≤ (c.toNat : Int)) = true := decide_eq_true h1
    by_cases h2 : (c.toNat : Int) ≤ 122
    · have e2 : decide ((c.toNat : Int) ≤ 122) = true := decide_eq_true h2
      rw [e1, e2] at h
      go_enter Tryz.func141, Tryz.ntmps141
      go_wp2_with fail
      go_returns
      exact ⟨ret_boolO (by rw [h.out]; rfl), rfl⟩
    · have e2 : decide ((c.toNat : Int) ≤ 122) = false := decide_eq_false h2
      rw [e1, e2] at h
      go_enter Tryz.func141, Tryz.ntmps141
      go_wp2_with (go_at_call 145; refine CC.out.mono ?_; rintro _ _ ⟨rfl, rfl⟩)
      go_returns
      exact ⟨ret_boolO (by rw [h.out]; rfl), rfl⟩
  · have e1 : decide (97 ≤ (c.toNat : Int)) = false := decide_eq_false h1
    rw [e1] at h
    go_enter Tryz.func141, Tryz.ntmps141
    go_wp2_with (go_at_call 145; refine CC.out.mono ?_; rintro _ _ ⟨rfl, rfl⟩)
    go_returns
    exact ⟨ret_boolO (by rw [h.out]; rfl), rfl⟩
set_option maxHeartbeats 1600000 in
theorem plain_any (s : ByteArray) (w : World) (hs : s.size ≤ 1000000) : Calls Tryz.prog 140 #[.string s] w fun e w' => e = .returned (.bool (signsB s.data.toList)) ∧ w' = w := by
  have HT : Hid (signsB s.data.toList = (s.data.toList.all signB && decide (0 < s.size))) := Lib.hid (by unfold signsB; rw [size_listO])
  have CL := Lib.hid (fun c => letter_any c w)
  obtain ⟨z, hz⟩ : ∃ z, s.toList = z := ⟨_, rfl⟩
  have hzz : decide (0 < s.size) = !z.isEmpty := by
    rw [← hz, ByteArray.toList_eq]
    rcases e : s.data.toList with _ | ⟨a, r⟩
    · have h1 := size_listO s
      rw [e] at h1
      rw [← h1]
      rfl
    · have h1 := size_listO s
      rw [e] at h1
      rw [← h1]
      rfl
  replace hzz := Lib.hid hzz
  go_enter Tryz.func140, Tryz.ntmps140
  go_wp2_with fail
  go_loop [7] (fun i => ∃ k : Nat, k ≤ s.size ∧ i = .int .i64 (k : Int) ∧ Hid ((s.data.toList.take k).all signB = true)) (fun i => s.size - (intOf i).toNat)
  case atStart => exact ⟨0, Nat.zero_le _, rfl, Lib.hid rfl⟩
  case round =>
    obtain ⟨k, hk, rfl, H⟩ := hrel
    by_cases hlt : k < s.size
    · obtain ⟨d, hd⟩ : ∃ d, d = signB s[k] := ⟨_, rfl⟩
      have H2 : (s.data.toList.take (k + 1)).all signB = d := by
        rw [take_snocO s k hlt, all_snoc, H.out, Bool.true_and, hd]
      replace H2 := Lib.hid H2
      have H3 : Hid (d = false → s.data.toList.all signB = false) := Lib.hid fun e => all_no _ _ k (by simpa using hlt) (by rw [get_listO s k hlt, ← hd, e])
      have C1 := Lib.hid (CL.out s[k])
      obtain ⟨a, ha⟩ : ∃ a, a = letterB s[k] := ⟨_, rfl⟩
      have hsg : signB s[k] = (a || (decide (48 ≤ (s[k].toNat : Int)) && decide ((s[k].toNat : Int) ≤ 57)) || decide ((s[k].toNat : Int) = 45)) := by
        unfold signB
        rw [ha, show decide (48 ≤ s[k].toNat) = decide (48 ≤ (s[k].toNat : Int)) from decide_eq_decide.2 (by omega), show decide (s[k].toNat ≤ 57) = decide ((s[k].toNat : Int) ≤ 57) from decide_eq_decide.2 (by omega)]
        congr 1
        rw [Bool.eq_iff_iff]
        simp only [beq_iff_eq, decide_eq_true_eq, ← UInt8.toNat_inj]
        show s[k].toNat = 45 ↔ _
        omega
      rw [← ha] at C1
      obtain ⟨n, hn⟩ : ∃ n, n = s[k].toNat := ⟨_, rfl⟩
      have hns : ((s[k].toNat : Nat) : Int) = (n : Int) := by rw [hn]
      have hcell : s[k].toNat = n := hn.symm
      have hnb : n < 256 := by rw [hn]; exact s[k].toNat_lt
      rw [hcell] at C1 hsg
      rw [← hd] at hsg
      have i0 : (0 : Int) ≤ (k : Int) := by omega
      have i1 : (k : Int) < (s.size : Int) := by omega
      replace hd := Lib.hid hd
      replace ha := Lib.hid ha
      replace hn := Lib.hid hn
      cases a
      · by_cases g1 : 48 ≤ (n : Int)
        · have f1 : ¬ ((n : Int) < 48) := by omega
          have f2 : decide ((n : Int) < 48) = false := decide_eq_false f1
          by_cases g2 : (n : Int) ≤ 57
          · have f3 : ¬ (57 < (n : Int)) := by omega
            have f4 : decide (57 < (n : Int)) = false := decide_eq_false f3
            rw [decide_eq_true g1, decide_eq_true g2] at hsg
            have hdt : d = true := by rw [hsg]; rfl
            rw [hdt] at H2
            clear hsg
            replace hdt := Lib.hid hdt
            go_wp2_with (go_at_call 141; refine C1.out.mono ?_; rintro _ _ ⟨rfl, rfl⟩)
            go_round
            case rel => exact ⟨k + 1, by omega, by go_num, H2⟩
            case measure => simp [intOf]; omega
          · have f3 : (57 < (n : Int)) := by omega
            have f4 : decide (57 < (n : Int)) = true := decide_eq_true f3
            have f5 : ¬ ((n : Int) = 45) := by omega
            have f6 : ((n : Int) == 45) = false := by simpa using f5
            rw [decide_eq_false g2, decide_eq_false f5, Bool.and_false] at hsg
            have hdt : d = false := by rw [hsg]; rfl
            have hfin := Lib.hid (H3.out hdt)
            clear hsg H3
            replace hdt := Lib.hid hdt
            go_wp2_with (go_at_call 141; refine C1.out.mono ?_; rintro _ _ ⟨rfl, rfl⟩)
            go_returns
            exact ⟨ret_boolO (by rw [HT.out, hfin.out, Bool.false_and]), rfl⟩
        · have f1 : (n : Int) < 48 := by omega
          have f2 : decide ((n : Int) < 48) = true := decide_eq_true f1
          by_cases g3 : (n : Int) = 45
          · have f6 : ((n : Int) == 45) = true := by simpa using g3
            rw [decide_eq_true g3, Bool.or_true] at hsg
            rw [hsg] at H2
            have g4 := Lib.hid g3
            have hn45 : n = 45 := by omega
            clear g3 hnb hns
            subst hn45
            replace hsg := Lib.hid hsg
            go_wp2_with (go_at_call 141; refine C1.out.mono ?_; rintro _ _ ⟨rfl, rfl⟩)
            go_round
            case rel => exact ⟨k + 1, by omega, by go_num, H2⟩
            case measure => simp [intOf]; omega
          · have f6 : ((n : Int) == 45) = false := by simpa using g3
            rw [decide_eq_false g1, decide_eq_false g3, Bool.false_and] at hsg
            have hdt : d = false := by rw [hsg]; rfl
            have hfin := Lib.hid (H3.out hdt)
            clear hsg H3
            replace hdt := Lib.hid hdt
            go_wp2_with (go_at_call 141; refine C1.out.mono ?_; rintro _ _ ⟨rfl, rfl⟩)
            go_returns
            exact ⟨ret_boolO (by rw [HT.out, hfin.out, Bool.false_and]), rfl⟩
      · have hdt : d = true := by rw [hsg]; rfl
        rw [hdt] at H2
        clear hsg
        replace hdt := Lib.hid hdt
        go_wp2_with (go_at_call 141; refine C1.out.mono ?_; rintro _ _ ⟨rfl, rfl⟩)
        go_round
        case rel => exact ⟨k + 1, by omega, by go_num, H2⟩
        case measure => simp [intOf]; omega
    · have hkk : k = s.size := by omega
      subst hkk
      have H2 : signsB s.data.toList = decide (0 < s.size) := by
        rw [HT.out]
        rw [List.take_of_length_le (by simp)] at H
        rw [H.out, Bool.true_and]
      replace H2 := Lib.hid H2
      go_wp2_with fail
      go_returns
      exact ⟨ret_boolO (by rw [H2.out]; exact hzz.out.symm), rfl⟩
set_option maxHeartbeats 800000 in
theorem word_any (s : ByteArray) (w : World) (hs : s.size ≤ 1000000) : Calls Tryz.prog 119 #[.string s] w fun e w' => e = .returned (.bool (wordB s.data.toList)) ∧ w' = w := by
  have HT : Hid (wordB s.data.toList = (decide (1 ≤ s.size) && decide (s.size ≤ 64) && letterB (s.data.toList.headD 0) && signsB s.data.toList)) := Lib.hid (by unfold wordB; rw [size_listO])
  have CS := Lib.hid (plain_any s w hs)
  have hne : signsB s.data.toList = true → 1 ≤ s.size := fun h => by
    unfold signsB at h
    rw [Bool.and_eq_true, decide_eq_true_eq, size_listO] at h
    omega
  obtain ⟨b, hb⟩ : ∃ b, b = signsB s.data.toList := ⟨_, rfl⟩
  rw [← hb] at CS HT hne
  replace hb := Lib.hid hb
  by_cases h2 : s.size ≤ 64
  · have i2 : (s.size : Int) ≤ 64 := by omega
    have i3 : decide ((s.size : Int) ≤ 64) = true := decide_eq_true i2
    cases b
    · rw [Bool.and_false] at HT
      replace hne := Lib.hid hne
      go_enter Tryz.func119, Tryz.ntmps119
      go_wp2_with (go_at_call 140; refine CS.out.mono ?_; rintro _ _ ⟨rfl, rfl⟩)
      go_returns
      exact ⟨ret_boolO (by rw [HT.out]), rfl⟩
    · have h1 := hne rfl
      have hh := head_listO s h1
      have CL := Lib.hid (letter_any s[0] w)
      rw [← hh] at CL
      obtain ⟨a, ha⟩ : ∃ a, a = letterB (s.data.toList.headD 0) := ⟨_, rfl⟩
      rw [← ha, hh] at CL
      rw [← ha, decide_eq_true h1, decide_eq_true h2] at HT
      have i0 : (0 : Int) < (s.size : Int) := by omega
      replace ha := Lib.hid ha
      replace hh := Lib.hid hh
      replace hne := Lib.hid hne
      go_enter Tryz.func119, Tryz.ntmps119
      go_wp2_with (first | (go_at_call 140; refine CS.out.mono ?_; rintro _ _ ⟨rfl, rfl⟩) | (go_at_call 141; refine CL.out.mono ?_; rintro _ _ ⟨rfl, rfl⟩))
      go_returns
      exact ⟨ret_boolO (by rw [HT.out]; cases a <;> rfl), rfl⟩
  · have i2 : ¬ ((s.size : Int) ≤ 64) := by omega
    have i3 : decide ((s.size : Int) ≤ 64) = false := decide_eq_false i2
    rw [decide_eq_false h2, Bool.and_false, Bool.false_and, Bool.false_and] at HT
    replace hne := Lib.hid hne
    go_enter Tryz.func119, Tryz.ntmps119
    go_wp2_with fail
    go_returns
    exact ⟨ret_boolO (by rw [HT.out]), rfl⟩
/-- Block G reads as the bytes L, and can be written. -/
def ByB (w : World) (G : Nat) (L : List UInt8) : Prop := ∀ (j : Nat) (c : UInt8), L[j]? = some c → w.cell? ⟨G, j, none⟩ = some (.int .u8 (c.toNat : Int)) ∧ w.frozen? ⟨G, j, none⟩ = false
theorem ByB.new (w : World) (s : ByteArray) : ByB (Lib.bytesWorld w 5 s) w.heap.size s.data.toList := by
  intro j c hj
  have hlt : j < s.size := by
    have := (List.getElem?_eq_some_iff.1 hj).1
    rwa [size_listO] at this
  refine ⟨?_, ?_⟩
  · rw [Lib.bytesWorld_cell w _ s j hlt, List.getD_eq_getElem?_getD, hj]
    rfl
  · unfold World.frozen?
    rw [Lib.bytesWorld_at_new]
    have h2 : ¬ (Lib.bytesCells w 5 s).size ≤ j := by
      unfold Lib.bytesCells
      simp
      omega
    simp [h2]
theorem below_bytes (w : World) (s : ByteArray) : Below w.heap.size w (Lib.bytesWorld w 5 s) :=
  ⟨rfl, rfl, rfl, by rw [Lib.bytesWorld_size]; omega, fun k hk => Lib.bytesWorld_at_old w _ s k hk⟩
theorem ByB.set {w : World} {G : Nat} {L : List UInt8} (h : ByB w G L) (i : Nat) (hi : i < L.length) (c : UInt8) : ByB (w.setCell ⟨G, i, none⟩ (.int .u8 (c.toNat : Int))) G (L.set i c) := by
  intro j d hj
  rw [World.frozen?_setCell]
  rw [List.getElem?_set] at hj
  by_cases hij : i = j
  · subst hij
    rw [if_pos rfl, if_pos hi] at hj
    injection hj with hj
    subst hj
    obtain ⟨h1, h2⟩ := h i _ (List.getElem?_eq_getElem hi)
    exact ⟨World.cell?_setCell_same _ _ _ h1, h2⟩
  · rw [if_neg hij] at hj
    obtain ⟨h1, h2⟩ := h j d hj
    exact ⟨(World.cell?_setCell_other _ _ _ _ (by intro e; injection e with _ e; exact hij e)).trans h1, h2⟩
/-- The first k letters made small. -/
def lowK (l : List UInt8) (k : Nat) : List UInt8 := lowL (l.take k) ++ l.drop k
theorem lowK_len (l : List UInt8) (k : Nat) : (lowK l k).length = l.length := by
  unfold lowK lowL
  rw [List.length_append, List.length_map, ← List.length_append, List.take_append_drop]
theorem lowK_at (l : List UInt8) (k : Nat) (h : k < l.length) : (lowK l k)[k]? = some l[k] := by
  unfold lowK lowL
  rw [List.getElem?_append_right (by rw [List.length_map, List.length_take]; omega), List.getElem?_drop, List.length_map, List.length_take, Nat.min_eq_left (by omega), Nat.sub_self, Nat.add_zero, List.getElem?_eq_getElem h]
theorem lowK_succ (l : List UInt8) (k : Nat) (h : k < l.length) : lowK l (k + 1) = (lowK l k).set k (low l[k]) := by
  unfold lowK lowL
  rw [List.set_append_right _ _ (by rw [List.length_map, List.length_take]; omega), List.length_map, List.length_take, Nat.min_eq_left (by omega), Nat.sub_self, List.take_succ_eq_append_getElem h, List.map_append, List.append_assoc, List.drop_eq_getElem_cons h (i := k)]
  rfl
theorem lowK_end (l : List UInt8) : lowK l l.length = lowL l := by
  unfold lowK
  rw [List.take_length, List.drop_length, List.append_nil]
theorem lowK_zero (l : List UInt8) : lowK l 0 = l := by unfold lowK lowL; simp
set_option maxRecDepth 4000 in
set_option maxHeartbeats 1600000 in
theorem lower_any (s : ByteArray) (w : World) (hs : s.size ≤ 1000000) : Calls Tryz.prog 121 #[.string s] w fun e w' => e = .returned (.string (baO (lowL s.data.toList))) ∧ Below w.heap.size w w' := by
  obtain ⟨l, rfl⟩ : ∃ l, s = baO l := ⟨s.data.toList, rfl⟩
  rw [baO_list]
  obtain ⟨n, hn⟩ : ∃ n, n = l.length := ⟨_, rfl⟩
  have hsz : (baO l).size = n := by rw [hn, ← size_listO, baO_list]
  have cv := Lib.run_convert_string_bytes (P := Tryz.prog) w 9 40 5 (baO l) Tryz.underlying9 Tryz.underlying40 Tryz.underlying5
  have hW : ByB (Lib.bytesWorld w 5 (baO l)) w.heap.size (lowK l 0) := by rw [lowK_zero]; exact ByB.new w (baO l)
  have hBW := below_bytes w (baO l)
  have hWs : w.heap.size < (Lib.bytesWorld w 5 (baO l)).heap.size := by rw [Lib.bytesWorld_size]; omega
  obtain ⟨W, hWe⟩ : ∃ W, Lib.bytesWorld w 5 (baO l) = W := ⟨_, rfl⟩
  obtain ⟨cap, hcap⟩ : ∃ cap, grownCap w (baO l).size 0 5 = cap := ⟨_, rfl⟩
  rw [hcap, hWe, hsz] at cv
  rw [hWe] at hW hBW hWs
  rw [hsz] at hs
  obtain ⟨G, hG⟩ : ∃ G, G = w.heap.size := ⟨_, rfl⟩
  rw [← hG] at cv hW hWs
  have hGB : Hid (w.heap.size ≤ G) := Lib.hid (by omega)
  have hend : Hid (lowK l n = lowL l) := Lib.hid (by rw [hn]; exact lowK_end l)
  have hlen : Hid (∀ k, (lowK l k).length = n) := Lib.hid fun k => by rw [lowK_len, hn]
  have hat : Hid (∀ k (h : k < n), (lowK l k)[k]? = some (l[k]'(by omega)) ∧ lowK l (k + 1) = (lowK l k).set k (low (l[k]'(by omega)))) := Lib.hid fun k h => ⟨lowK_at l k (by omega), lowK_succ l k (by omega)⟩
  replace hW := Lib.hid hW
  replace hBW := Lib.hid hBW
  replace hWe := Lib.hid hWe
  replace hG := Lib.hid hG
  replace hcap := Lib.hid hcap
  replace hsz := Lib.hid hsz
  replace hn := Lib.hid hn
  go_enter Tryz.func121, Tryz.ntmps121
  go_wp2_with fail
  go_loopw [10] (fun i wr => ∃ k : Nat, k ≤ n ∧ i = .int .i64 (k : Int) ∧ Hid (ByB wr G (lowK l k)) ∧ Hid (Below w.heap.size w wr)) (fun i _ => n - (intOf i).toNat)
  case atStart => exact ⟨0, Nat.zero_le _, rfl, hW, hBW⟩
  case round =>
    obtain ⟨k, hk, rfl, HC, HB⟩ := hrel
    by_cases hlt : k < n
    · obtain ⟨h1, h2⟩ := hat.out k hlt
      have hln := hlen.out k
      obtain ⟨c, hc⟩ : ∃ c, c = l[k]'(by have := hn.out; omega) := ⟨_, rfl⟩
      rw [← hc] at h1 h2
      obtain ⟨g1, g2⟩ := HC.out k c h1
      have C1 := Lib.hid (capital_any c wr)
      have i0 : (0 : Int) ≤ (k : Int) := by omega
      have i1 : (k : Int) < (n : Int) := by omega
      have hset := ByB.set HC.out k (by omega) (low c)
      rw [← h2] at hset
      obtain ⟨d, hd⟩ : ∃ d, d = (low c).toNat := ⟨_, rfl⟩
      obtain ⟨x, hx⟩ : ∃ x, x = c.toNat := ⟨_, rfl⟩
      have hxb : x < 256 := by rw [hx]; exact c.toNat_lt
      by_cases g : 65 ≤ x ∧ x ≤ 90
      · have hv : capB c = true := by unfold capB; rw [← hx, decide_eq_true g.1, decide_eq_true g.2]; rfl
        have hdx : (x : Int) + 32 = (d : Int) := by
          rw [hd]
          unfold low
          rw [← hx, decide_eq_true g.1, decide_eq_true g.2]
          show _ = (((UInt8.ofNat (x + 32)).toNat : Nat) : Int)
          rw [UInt8.toNat_ofNat']
          omega
        have hdb : (d : Int) < 256 := by omega
        have hdb0 : (0 : Int) ≤ (d : Int) := by omega
        rw [hv] at C1
        rw [← hx] at C1 g1
        rw [← hd] at hset
        replace hset := Lib.hid hset
        replace h1 := Lib.hid h1
        replace h2 := Lib.hid h2
        replace hc := Lib.hid hc
        replace hd := Lib.hid hd
        replace hx := Lib.hid hx
        replace hv := Lib.hid hv
        replace hln := Lib.hid hln
        go_wp2_with fail
        refine C1.out.mono ?_
        rintro _ w2 ⟨rfl, e2⟩
        subst w2
        dsimp only []
        go_wp2_with fail
        go_roundw
        case rel => exact ⟨k + 1, by omega, by go_num, hset, Lib.hid (HB.out.setCell (p := ⟨G, k, none⟩) hGB.out _)⟩
        case measure => simp [intOf]; omega
      · have hv : capB c = false := by
          unfold capB
          rw [← hx]
          by_cases g3 : 65 ≤ x
          · rw [decide_eq_false (show ¬ x ≤ 90 from fun e => g ⟨g3, e⟩), Bool.and_false]
          · rw [decide_eq_false g3, Bool.false_and]
        have hlow : low c = c := by
          have := hv
          unfold capB at this
          unfold low
          rw [this]
          rfl
        have hsame : lowK l (k + 1) = lowK l k := by
          rw [h2, hlow]
          refine List.ext_getElem? fun j => ?_
          rw [List.getElem?_set]
          by_cases hj : k = j
          · subst hj
            rw [if_pos rfl, if_pos (by rw [lowK_len]; have := hn.out; omega), h1]
          · rw [if_neg hj]
        have HC2 : Hid (ByB wr G (lowK l (k + 1))) := Lib.hid (by rw [hsame]; exact HC.out)
        rw [hv] at C1
        rw [← hx] at C1 g1
        clear hset hsame hlow hd g
        replace h1 := Lib.hid h1
        replace h2 := Lib.hid h2
        replace hc := Lib.hid hc
        replace hx := Lib.hid hx
        replace hv := Lib.hid hv
        replace hln := Lib.hid hln
        go_wp2_with fail
        refine C1.out.mono ?_
        rintro _ w2 ⟨rfl, e2⟩
        subst w2
        dsimp only []
        go_wp2_with fail
        go_roundw
        case rel => exact ⟨k + 1, by omega, by go_num, HC2, HB⟩
        case measure => simp [intOf]; omega
    · have hkk : k = n := by omega
      subst hkk
      have HC2 := HC.out
      rw [hend.out] at HC2
      have hll : (lowL l).length = l.length := by rw [lowL, List.length_map]
      have cb := run_convert_bytes_back (P := Tryz.prog) wr 40 9 5 ⟨G, 0, none⟩ cap (lowL l) Tryz.underlying40 Tryz.underlying5 Tryz.underlying9 (fun j hj => by
        have := (HC2 j _ (List.getElem?_eq_getElem hj)).1
        have e0 : (⟨G, 0, none⟩ : Addr).add j = ⟨G, j, none⟩ := by unfold Addr.add; split <;> simp_all
        rw [e0]
        exact this)
      rw [hll] at cb
      replace hll := Lib.hid hll
      clear HC2
      go_wp2_with fail
      go_returns
      exact ⟨rfl, HB.out⟩
end Go.Proofs.YtkffgdndglfcfaaGreatDoor.O7
namespace Go.Proofs.YtkffgdndglfcfaaGreatDoor.O7
open Go.RowKit Go.Lib

theorem ownO_ne {w : World} {base B : Nat} {v : Value} {l : List (List UInt8)} {o : Obj} (h : OwnO w base v l) (hb : w.heap[B]? = some o) (ho : ∀ cur fr, o ≠ .cells cur 9 fr) : some B ≠ v.ownBlock := by
  intro he
  rcases h.2 with ⟨rfl, _⟩ | ⟨g, cap, cur, rfl, _, hg, _⟩
  · simp [Value.ownBlock] at he
  · have e : B = g := by simpa [Value.ownBlock] using he
    subst e
    rw [hb] at hg
    injection hg with hg
    exact ho _ _ hg
theorem cells_ne {a b : Array Value} {t u : TypeId} {f g : Nat × Nat} (h : t ≠ u) : (Obj.cells a t f) ≠ .cells b u g := fun e => h (by cases e; rfl)
theorem append_strsK {w : World} {ops : Array Oper} {rest : List Oper} {o : Oper} {a : Act} {Q : Exit → Act → World → Prop} (hgd : o.guard = none) (s x : Operand)
    (ho : o.op = .call { callee := .builtin .append, args := #[s, x], argTypes := #[23, 23] })
    (base : Nat) (p : List UInt8) (v : Value) (l : List (List UInt8)) (n : Nat) (hn : l.length = n) (hs : a.eval s = v) (hown : OwnO (w.alloc (.cells #[.string (baO p)] 9)) base v l)
    (hx : a.eval x = .slice (some ⟨w.heap.size, 0, none⟩) 1 1) (hlen : n + 1 ≤ 2000000) (hbase : base ≤ w.heap.size)
    (h : ∀ g' c' w', OwnO w' base (.slice (some ⟨g', 0, none⟩) (n + 1) c') (l ++ [p]) → w.grownBy w' v.ownBlock → Below base w w' → wpList Tryz.prog ops Q rest (a.put o.dst (.slice (some ⟨g', 0, none⟩) (n + 1) c')) w') : wpList Tryz.prog ops Q (o :: rest) a (w.alloc (.cells #[.string (baO p)] 9)) := by
  obtain ⟨i0, hi, hz0, hz1, hz2⟩ := info_parts info_str
  subst hn
  have hb' : base ≤ (w.alloc (.cells #[.string (baO p)] 9)).heap.size := by simp; omega
  refine wpList_append_own _ hgd s x 23 ho base 9 i0 _ 1 16 Tryz.underlying23 hi hz0 hz1 hz2 rfl (by decide) v l.length (cellsO l) hs hown ⟨w.heap.size, 0, none⟩ 1 1 [.string (baO p)] hx rfl (news_one w _ 9) (by intro u hu; simp only [List.mem_singleton] at hu; subst hu; rfl)
    (by simp only [maxLen]; omega) (by omega) hb' fun v' w' hown' hg _ => ?_
  have ho' : OwnO w' base v' (l ++ [p]) := by
    unfold OwnO
    rw [List.length_append, show cellsO (l ++ [p]) = cellsO l ++ [.string (baO p)] by simp [cellsO]]
    exact hown'
  rcases ho'.form with ⟨_, h2⟩ | ⟨g', c', rfl, _⟩
  · exact absurd h2 (by simp)
  · rw [List.length_append] at ho' ⊢
    have hg0 : w.grownBy (w.alloc (.cells #[.string (baO p)] 9)) v.ownBlock := World.grownBy_alloc w _ _
    exact h g' c' w' ho' (hg0.trans hg) (((Below.refl _ _).alloc hbase _).grown hg hb' (fun k hk => (hown.lt k hk).1))
/-- Block Bo is a variable of type []string that holds D, all of the call's own; block Bm a variable that holds a map with just these keys. -/
def BoxS (w : World) (Bm Bo base : Nat) (D : List (List UInt8)) : Prop :=
  ∃ (v : Value) (mb : Nat) (DD : DataW Unit), w.heap[Bo]? = some (.cells #[v] 23 (0, 0)) ∧ w.heap[Bm]? = some (.cells #[.map (some mb)] 189 (0, 0)) ∧ base ≤ Bo ∧ base ≤ Bm ∧ base ≤ mb ∧
    OwnO w base v D ∧ w.ownsMap Tryz.prog 9 unitElem mb D.length DD ∧ Maps.IsMap DD ∧ ∀ x : List UInt8, Maps.has DD (.string x) = decide (x ∈ D)
/-- What a part does to the options. -/
def SeeS (p : List UInt8) (D : List (List UInt8)) (v : Bool) (w : World) (Bm Bo base : Nat) : Prop :=
  (v = true ∧ signsB p = true ∧ BoxS w Bm Bo base (addO D (lowL p))) ∨ (v = false ∧ signsB p = false)
theorem key_str : Maps.Keyed Tryz.prog 9 := Maps.string_keyed Tryz.underlying9
theorem zero_unit (w : World) : (zeroValue 85).run Tryz.prog w = .ok (.agg #[]) w := by kernel_rfl
set_option maxRecDepth 4000 in
set_option maxHeartbeats 1600000 in
theorem seeOpt (p : List UInt8) (Bm Bo base : Nat) (D : List (List UInt8)) (w : World) (hB : BoxS w Bm Bo base D) (hD : D.length ≤ 9500) (hp : p.length ≤ 9500) (hbase : base ≤ w.heap.size) :
    Calls Tryz.prog 143 #[.string (baO p), .pointer (some ⟨Bm, 0, none⟩), .pointer (some ⟨Bo, 0, none⟩)] w fun e w' => ∃ v, e = .returned (.bool v) ∧ SeeS p D v w' Bm Bo base ∧ Below base w w' := by
  obtain ⟨v0, mb, DD, b1, b2, b3, b4, b5, ho, hm, hmap, hhas⟩ := hB
  have CP := Lib.hid (plain_any (baO p) w (by rw [baO_size]; omega))
  rw [baO_list] at CP
  cases hsg : signsB p with
  | false =>
    rw [hsg] at CP
    replace hsg := Lib.hid hsg
    go_enter Tryz.func143, Tryz.ntmps143
    go_wp2_with fail
    refine CP.out.mono ?_
    rintro _ w2 ⟨rfl, rfl⟩
    dsimp only []
    go_wp2_with fail
    go_returns
    exact ⟨false, rfl, .inr ⟨rfl, hsg.out⟩, Below.refl _ _⟩
  | true =>
    rw [hsg] at CP
    have CL := Lib.hid (lower_any (baO p) w (by rw [baO_size]; omega))
    rw [baO_list] at CL
    replace hsg := Lib.hid hsg
    go_enter Tryz.func143, Tryz.ntmps143
    go_wp2_with fail
    refine CP.out.mono ?_
    rintro _ w2 ⟨rfl, rfl⟩
    dsimp only []
    go_wp2_with fail
    refine CL.out.mono ?_
    rintro _ w3 ⟨rfl, h3⟩
    obtain ⟨X, hX⟩ : ∃ X, X = lowL p := ⟨_, rfl⟩
    rw [← hX]
    have hXl : X.length ≤ 9500 := by rw [hX, lowL_len]; exact hp
    have hkey := WideMaps.keyOf_string_mk Tryz.underlying9 (s := baO X) (by rw [baO_size]; unfold maxLen; omega)
    rw [baO_list] at hkey
    have d2 := (h3.block Bm (Array.getElem?_eq_some_iff.1 b2).1).trans b2
    have d1 := (h3.block Bo (Array.getElem?_eq_some_iff.1 b1).1).trans b1
    have c2 := cell_of_one d2
    have hm3 : w3.ownsMap Tryz.prog 9 unitElem mb D.length DD := hm.kept (row := none) ⟨h3.os, h3.tape, h3.output, h3.size, fun k hk _ => h3.block k hk⟩ (by simp)
    have ho3 : OwnO w3 base v0 D := ho.below h3 (Nat.le_refl _)
    have hb3 : Below base w2 w3 := h3.mono hbase
    have hz3 : base ≤ w3.heap.size := Nat.le_trans hbase h3.size
    have hh := hhas X
    replace d1 := Lib.hid d1
    replace d2 := Lib.hid d2
    replace ho3 := Lib.hid ho3
    replace hm3 := Lib.hid hm3
    replace hb3 := Lib.hid hb3
    replace hX := Lib.hid hX
    replace b1 := Lib.hid b1
    replace b2 := Lib.hid b2
    clear ho hm h3
    by_cases hmem : X ∈ D
    · rw [decide_eq_true hmem] at hh
      have hadd : addO D (lowL p) = D := by rw [← hX.out]; exact if_pos hmem
      replace hadd := Lib.hid hadd
      dsimp only []
      go_wp2_with (at_lookup; refine wpList_lookup_own_unit _ rfl _ _ 189 rfl 9 85 key_str Tryz.underlying189 (zero_unit _) mb D.length DD rfl hm3.out _ _ rfl hkey ?_; rw [hh])
      go_returns
      exact ⟨true, rfl, .inl ⟨rfl, hsg.out, by
        rw [hadd.out]
        exact ⟨v0, mb, DD, (Below.heap_alloc w3 _ _ (Array.getElem?_eq_some_iff.1 d1.out).1).trans d1.out, (Below.heap_alloc w3 _ _ (Array.getElem?_eq_some_iff.1 d2.out).1).trans d2.out, b3, b4, b5, ho3.out.alloc _, hm3.out.alloc _, hmap, hhas⟩⟩, hb3.out.alloc hz3 _⟩
    · rw [decide_eq_false hmem] at hh
      have hadd : addO D (lowL p) = D ++ [X] := by rw [← hX.out]; exact if_neg hmem
      replace hadd := Lib.hid hadd
      obtain ⟨g3, hg3⟩ : ∃ g3, g3 = w3.heap.size := ⟨_, rfl⟩
      have q1 : (w3.alloc (.cells #[] 85)).heap[Bo]? = some (.cells #[v0] 23 (0, 0)) := (Below.heap_alloc w3 _ _ (Array.getElem?_eq_some_iff.1 d1.out).1).trans d1.out
      have q2 : (w3.alloc (.cells #[] 85)).heap[Bm]? = some (.cells #[.map (some mb)] 189 (0, 0)) := (Below.heap_alloc w3 _ _ (Array.getElem?_eq_some_iff.1 d2.out).1).trans d2.out
      have q3 := hm3.out.alloc (.cells #[] 85)
      have q4 := ho3.out.alloc (.cells #[] 85)
      have q5 := hb3.out.alloc hz3 (.cells #[] 85)
      have q6 : base ≤ (w3.alloc (.cells #[] 85)).heap.size := by simp; omega
      have n1 : ∀ W : World, W.ownsMap Tryz.prog 9 unitElem mb D.length DD → ∀ k v t, W.heap[k]? = some (.cells #[v] t (0, 0)) → k ≠ mb := by
        rintro W ⟨es, cl, h1, _⟩ k v t h2 rfl
        rw [h1] at h2
        injection h2 with h2
        cases h2
      have n2 := n1 _ q3 _ _ _ q1
      have n3 := n1 _ q3 _ _ _ q2
      have n4 : Bm ≠ Bo := by
        intro e
        subst e
        rw [q1] at q2
        injection q2 with q2
        injection q2 with _ q2 _
        exact absurd q2 (by decide)
      have n5 : v0.ownBlock = none ∨ v0.ownBlock ≠ some mb := by
        right
        intro e
        obtain ⟨es, cl, h1, _⟩ := q3
        exact ownO_ne q4 h1 (fun _ _ h => by cases h) e.symm
      have c2' := cell_of_one q2
      replace q1 := Lib.hid q1
      replace q2 := Lib.hid q2
      replace q3 := Lib.hid q3
      replace q4 := Lib.hid q4
      replace q5 := Lib.hid q5
      replace n1 := Lib.hid n1
      replace hg3 := Lib.hid hg3
      obtain ⟨m, hm⟩ : ∃ m, D.length = m := ⟨_, rfl⟩
      obtain ⟨A0, c0, hv0⟩ := show ∃ A0 c0, v0 = .slice A0 m c0 by
        rcases ho3.out.form with ⟨h1, h2⟩ | ⟨g, c, h1, _⟩
        · exact ⟨none, 0, by rw [h1, ← hm, h2]; rfl⟩
        · exact ⟨_, _, by rw [h1, hm]⟩
      subst hv0
      rw [hm] at hD
      replace hm := Lib.hid hm
      dsimp only []
      go_wp2_with (first
        | (at_lookup; refine wpList_lookup_own_unit _ rfl _ _ 189 rfl 9 85 key_str Tryz.underlying189 (zero_unit _) mb D.length DD rfl hm3.out _ _ rfl hkey ?_; rw [hh])
        | (at_mapUpdate; refine wpList_mapUpdate_in _ rfl _ _ _ 189 rfl 9 85 key_str Tryz.underlying189 unitElem mb D.length DD rfl q3.out (by rw [hm.out]; unfold maxLen; omega) _ _ (Lit.string X) rfl rfl hkey (.agg []) [] unitElem_mk ?_; intro w5 hm5 ht5
           have r1 := ((ht5.grown.block Bo (Array.getElem?_eq_some_iff.1 q1.out).1 (by simpa using n2)).trans q1.out)
           have r2 := ((ht5.grown.block Bm (Array.getElem?_eq_some_iff.1 q2.out).1 (by simpa using n3)).trans q2.out)
           have r4 : OwnO w5 base _ D := World.ownsRow.kept q4.out ht5.grown n5
           have r5 := q5.out.grown ht5.grown q6 (fun k hk => by injection hk with hk; omega)
           have r6 := r5.size
           have rc := cell_of_one r1
           have rf := free_of_one r1
           replace r1 := Lib.hid r1
           replace r2 := Lib.hid r2
           replace r4 := Lib.hid r4
           replace r5 := Lib.hid r5
           replace hm5 := Lib.hid hm5
           clear ht5)
        | (at_builtin; (refine append_strsK rfl (.tmp 24) (.tmp 26) rfl base X _ D m hm.out rfl (r4.out.alloc _) rfl (by omega) (by omega) ?_; intro g7 c7 w7 ho7 hg7 hb7; have s1 := (hg7.block Bo (Array.getElem?_eq_some_iff.1 r1.out).1 (ownO_ne r4.out r1.out (fun _ _ => cells_ne (by decide)))).trans r1.out; have s2 := (hg7.block Bm (Array.getElem?_eq_some_iff.1 r2.out).1 (ownO_ne r4.out r2.out (fun _ _ => cells_ne (by decide)))).trans r2.out; have s3 := hm5.out.kept hg7 (by obtain ⟨es, cl, h1, _⟩ := hm5.out; exact ownO_ne r4.out h1 (fun _ _ h => by cases h)); have s5 := r5.out.trans hb7; have sc := cell_of_one s1; have sf := free_of_one s1; replace s1 := Lib.hid s1; replace s2 := Lib.hid s2; replace s3 := Lib.hid s3; replace s5 := Lib.hid s5; replace ho7 := Lib.hid ho7; clear hg7 hb7)))
      go_returns
      refine ⟨true, rfl, .inl ⟨rfl, hsg.out, ?_⟩, s5.out.setCell b3 _⟩
      rw [hadd.out]
      refine ⟨_, mb, DD.put (.string X) (.agg []), one_setCell s1.out, (Below.heap_setCell w7 _ _ Bm n4).trans s2.out, b3, b4, b5, ownsRow_setCell_other (by have := ho7.out; rwa [show m = D.length from hm.out.symm] at this ⊢) (fun e => ownO_ne ho7.out s1.out (fun _ _ => cells_ne (by decide)) e.symm) _, ?_, ?_, ?_⟩
      · have := s3.out.setCell (a := ⟨Bo, 0, none⟩) (fun e => n2 e.symm) (.slice (some ⟨g7, 0, none⟩) (m + 1) c7)
        rw [List.length_append, List.length_singleton]
        exact this
      · obtain ⟨es, rfl⟩ := hmap
        exact ⟨_, rfl⟩
      · intro x
        by_cases hx : x = X
        · subst hx
          rw [Maps.has_put_same (k := .string x) hmap (by simp [WideAt.IsKeyLit])]
          simp
        · rw [Maps.has_put_other (by simpa using hx), hhas]
          simp [hx]
end Go.Proofs.YtkffgdndglfcfaaGreatDoor.O7
namespace Go.Proofs.YtkffgdndglfcfaaGreatDoor.O7
open Go.RowKit Go.Lib

/-- Block Bo is a variable of type []int; what it holds is the call's own and reads as M. -/
def BoxN (w : World) (Bo base : Nat) (M : List Nat) : Prop := ∃ v, w.heap[Bo]? = some (.cells #[v] 137 (0, 0)) ∧ OwnN w base v M ∧ base ≤ Bo
theorem ownN_ne {w : World} {base Bo : Nat} {v u : Value} {l : List Nat} (h : OwnN w base v l) (hb : w.heap[Bo]? = some (.cells #[u] 137 (0, 0))) : some Bo ≠ v.ownBlock := by
  intro he
  rcases h.2 with ⟨rfl, _⟩ | ⟨g, cap, cur, rfl, _, hg, _⟩
  · simp [Value.ownBlock] at he
  · have e : Bo = g := by simpa [Value.ownBlock] using he
    subst e
    rw [hb] at hg
    injection hg with hg
    injection hg with _ ht
    exact absurd ht (by decide)
theorem BoxN.step {w w1 : World} {Bo base g cap n : Nat} {v : Value} {l : List Nat} {o : Obj} {x : Nat} (hb : w.heap[Bo]? = some (.cells #[v] 137 (0, 0))) (ho : OwnN w base v l) (hB : base ≤ Bo)
    (h1 : OwnN w1 base (.slice (some ⟨g, 0, none⟩) n cap) (l ++ [x])) (hg : Below base (w.alloc o) w1) (hk : ∀ b, b < (w.alloc o).heap.size → some b ≠ v.ownBlock → w1.heap[b]? = (w.alloc o).heap[b]?) :
    BoxN (w1.setCell ⟨Bo, 0, none⟩ (.slice (some ⟨g, 0, none⟩) n cap)) Bo base (l ++ [x]) ∧ Below base w (w1.setCell ⟨Bo, 0, none⟩ (.slice (some ⟨g, 0, none⟩) n cap)) := by
  have hlt : Bo < w.heap.size := (Array.getElem?_eq_some_iff.1 hb).1
  have hb1 : w1.heap[Bo]? = some (.cells #[v] 137 (0, 0)) := by
    rw [hk Bo (by simp; omega) (ownN_ne ho hb), heap_alloc_old w o hlt, hb]
  have hne : (Value.slice (some ⟨g, 0, none⟩) n cap).ownBlock ≠ some Bo := fun e => ownN_ne h1 hb1 e.symm
  have hsz : base ≤ w.heap.size := by omega
  exact ⟨⟨_, one_setCell hb1, ownsRow_setCell_other h1 hne _, hB⟩, (((Below.refl _ _).alloc hsz o).trans hg).setCell hB _⟩
/-- What a part does to the numbers. -/
def SeeQ (p : List UInt8) (M : List Nat) (v : Bool) (w : World) (Bo base : Nat) : Prop :=
  (v = true ∧ M.length ≠ 16 ∧ ∃ n, arcV p = some n ∧ BoxN w Bo base (M ++ [n])) ∨ (v = false ∧ (arcV p = none ∨ M.length = 16))
set_option maxRecDepth 4000 in
set_option maxHeartbeats 1600000 in
theorem seeArc (p : List UInt8) (Bo base : Nat) (M : List Nat) (w : World) (hB : BoxN w Bo base M) (hM : M.length ≤ 16) (hp : p.length ≤ 9500) :
    Calls Tryz.prog 167 #[.string (baO p), .pointer (some ⟨Bo, 0, none⟩)] w fun e w' => ∃ v, e = .returned (.bool v) ∧ SeeQ p M v w' Bo base ∧ Below base w w' := by
  obtain ⟨v0, hb, ho, hbase⟩ := hB
  have hlt : Bo < w.heap.size := (Array.getElem?_eq_some_iff.1 hb).1
  have CR := w_readDigits (baO p) w (by rw [baO_size]; unfold maxLen; omega)
  rw [baO_list] at CR
  have hq := rdD_lt p
  have hav := arcV_rd p
  obtain ⟨z, hz⟩ : ∃ z, (rdD p).1 = z := ⟨_, rfl⟩
  obtain ⟨d, hd⟩ : ∃ d, (rdD p).2 = d := ⟨_, rfl⟩
  have ht : tupD (rdD p) = .tuple #[.int .i64 (z : Int), .bool d] := by unfold tupD; rw [hz, hd]
  rw [ht] at CR
  rw [hz] at hq
  have hpl : p.length = (baO p).size := (baO_size p).symm
  rw [hz, hd, hpl] at hav
  obtain ⟨m, hm⟩ : ∃ m, m = M.length := ⟨_, rfl⟩
  obtain ⟨A0, c0, hv0⟩ : ∃ A0 c0, v0 = .slice A0 m c0 := by
    rcases ho.2 with ⟨h1, h2⟩ | ⟨g, cap, cur, h1, _⟩
    · exact ⟨none, 0, by rw [h1, hm, h2]⟩
    · exact ⟨_, _, by rw [h1, hm]⟩
  subst hv0
  have hsz0 : base ≤ w.heap.size := by omega
  rw [← hm] at hM
  replace hz := Lib.hid hz
  replace hd := Lib.hid hd
  replace ht := Lib.hid ht
  replace hpl := Lib.hid hpl
  replace CR := Lib.hid CR
  cases d
  · rw [if_neg (by simp)] at hav
    replace hav := Lib.hid hav
    replace hm := Lib.hid hm
    replace hb := Lib.hid hb
    go_enter Tryz.func167, Tryz.ntmps167
    go_wp2_with fail
    refine CR.out.mono ?_
    rintro _ w2 ⟨rfl, h2⟩
    replace h2 := Lib.hid h2
    dsimp only []
    go_wp2_with fail
    go_returns
    exact ⟨false, rfl, .inr ⟨rfl, .inl hav.out⟩, h2.out.mono hsz0⟩
  · by_cases h10 : (baO p).size ≤ 10
    · rw [if_pos ⟨rfl, h10⟩] at hav
      have j1 : ¬ ((10 : Int) < ((baO p).size : Int)) := by omega
      have j2 : decide ((10 : Int) < ((baO p).size : Int)) = false := decide_eq_false j1
      replace hav := Lib.hid hav
      by_cases h16 : m = 16
      · subst h16
        replace hb := Lib.hid hb
        replace hm := Lib.hid hm
        go_enter Tryz.func167, Tryz.ntmps167
        go_wp2_with fail
        refine CR.out.mono ?_
        rintro _ w2 ⟨rfl, h2⟩
        have hb2 := (h2.block Bo hlt).trans hb.out
        have hc2 := cell_of_one hb2
        replace hb2 := Lib.hid hb2
        replace h2 := Lib.hid h2
        dsimp only []
        go_wp2_with fail
        go_returns
        exact ⟨false, rfl, .inr ⟨rfl, .inr hm.out.symm⟩, h2.out.mono hsz0⟩
      · have k1 : decide ((m : Int) = 16) = false := decide_eq_false (by omega)
        have k2 : ¬ ((m : Int) = 16) := by omega
        have k3 : ((m : Int) == 16) = false := by simpa using k2
        replace hb := Lib.hid hb
        replace hm := Lib.hid hm
        go_enter Tryz.func167, Tryz.ntmps167
        go_wp2_with fail
        refine CR.out.mono ?_
        rintro _ w2 ⟨rfl, h2⟩
        have hb2 := (h2.block Bo hlt).trans hb.out
        have ho2 : OwnN w2 base (.slice A0 m c0) M := ho.below h2 (Nat.le_refl _)
        have hc2 := cell_of_one hb2
        have hs2 := h2.size
        replace hb2 := Lib.hid hb2
        replace h2 := Lib.hid h2
        replace ho2 := Lib.hid ho2
        dsimp only []
        go_wp2_with (at_builtin; refine append_int rfl (.tmp 23) (.tmp 25) rfl base z _ M m hm.out.symm rfl (ho2.out.alloc _) rfl (by omega) (by omega) ?_; intro g' c' w3 ho3 hb3 hk3; have hb9 := (hk3 Bo (by simp; omega) (ownN_ne ho2.out hb2.out)).trans ((heap_alloc_old w2 _ (by omega)).trans hb2.out); have hc9 := cell_of_one hb9; have hf9 := free_of_one hb9; have R := Lib.hid (BoxN.step hb2.out ho2.out hbase ho3 hb3 hk3); clear ho3 hb3 hk3; replace hb9 := Lib.hid hb9)
        go_returns
        exact ⟨true, rfl, .inl ⟨rfl, by rw [← hm.out]; exact h16, z, hav.out, R.out.1⟩, (h2.out.mono hsz0).trans R.out.2⟩
    · rw [if_neg (fun h => h10 h.2)] at hav
      have j1 : (10 : Int) < ((baO p).size : Int) := by omega
      have j2 : decide ((10 : Int) < ((baO p).size : Int)) = true := decide_eq_true j1
      replace hav := Lib.hid hav
      replace hm := Lib.hid hm
      replace hb := Lib.hid hb
      go_enter Tryz.func167, Tryz.ntmps167
      go_wp2_with fail
      refine CR.out.mono ?_
      rintro _ w2 ⟨rfl, h2⟩
      replace h2 := Lib.hid h2
      dsimp only []
      go_wp2_with fail
      go_returns
      exact ⟨false, rfl, .inr ⟨rfl, .inl hav.out⟩, h2.out.mono hsz0⟩
def szO : Value → Nat
  | .string x => x.size
  | _ => 0
theorem mapM_one (M : List Nat) (d : List (List UInt8)) (p : List UInt8) (n : Nat) (h : d.mapM arcV = some M) (h1 : arcV p = some n) : (d ++ [p]).mapM arcV = some (M ++ [n]) := by
  rw [mapM_app, h]
  show ([p].mapM arcV).map (fun y => M ++ y) = _
  rw [List.mapM_cons, h1]
  rfl
theorem arcs_stop {l p : List UInt8} {d t : List (List UInt8)} {M : List Nat} (hd : sp 46 l = d ++ p :: t) (hM : d.mapM arcV = some M) (h : arcV p = none ∨ M.length = 16) : arcsO l = none := by
  cases hs : (sp 46 l).mapM arcV with
  | none => exact arcs_none hs
  | some M' =>
    obtain ⟨h1, h2⟩ := mapM_get arcV _ _ hs
    obtain ⟨h3, _⟩ := mapM_get arcV _ _ hM
    rcases h with h | h
    · exfalso
      have h4 : d.length < (sp 46 l).length := by rw [hd]; simp
      have h5 := h2 d.length h4 (by omega)
      have h6 : (sp 46 l)[d.length] = p := by simp [hd]
      rw [h6, h] at h5
      cases h5
    · refine arcs_many hs ?_
      rw [← h1, hd, List.length_append, List.length_cons]
      omega
/-- What the visit of the parts leaves. -/
def VisQ (l : List UInt8) (v : Bool) (w : World) (Bo base : Nat) : Prop :=
  (v = true ∧ ∃ M, (sp 46 l).mapM arcV = some M ∧ M.length ≤ 16 ∧ BoxN w Bo base M) ∨ (v = false ∧ arcsO l = none)
set_option maxRecDepth 4000 in
set_option maxHeartbeats 1600000 in
theorem visitArcs (l : List UInt8) (Bo base : Nat) (w : World) (hl : l.length ≤ 9500) (hB : BoxN w Bo base []) :
    Calls Tryz.prog 142 #[.string (baO l), .string { data := #[46] }, .func (.func 167) #[] #[.pointer (some ⟨Bo, 0, none⟩)]] w fun e w' => ∃ v, e = .returned (.bool v) ∧ VisQ l v w' Bo base ∧ Below base w w' := by
  have hlt : Bo < w.heap.size := by
    obtain ⟨v, h1, _⟩ := hB
    exact (Array.getElem?_eq_some_iff.1 h1).1
  have hbs : base ≤ w.heap.size := by
    obtain ⟨v, h1, _, h3⟩ := hB
    omega
  replace hB := Lib.hid hB
  go_enter Tryz.func142, Tryz.ntmps142
  go_wp2_with fail
  go_loopw [0] (fun sv wr => ∃ (d : List (List UInt8)) (r : List UInt8) (M : List Nat), sv = .string (baO r) ∧ r.length ≤ 9500 ∧ Hid (sp 46 l = d ++ sp 46 r) ∧ Hid (d.mapM arcV = some M) ∧ M.length ≤ 16 ∧ Hid (BoxN wr Bo base M) ∧ Hid (Below base w wr)) (fun sv _ => szO sv)
  case atStart => exact ⟨[], l, [], rfl, hl, Lib.hid rfl, Lib.hid rfl, by simp, hB, Lib.hid (Below.refl _ _)⟩
  case round =>
    obtain ⟨d, r, M, rfl, hr, HS, HM, h16, HBx, HB⟩ := hrel
    have hsz := HB.out.size
    rcases part_cases 46 r with ⟨hm, hs⟩ | ⟨p, q, hr2, hm, hs⟩
    · have C1 := Lib.hid (cut_miss r 46 hm wr)
      have C2 := Lib.hid (seeArc r Bo base M wr HBx.out h16 hr)
      have HS2 := HS.out
      rw [hs] at HS2
      have hst := fun h => arcs_stop (t := []) HS2 HM.out h
      have hok := fun n (h1 : arcV r = some n) => (congrArg (List.mapM arcV) HS2).trans (mapM_one M d r n HM.out h1)
      replace hst := Lib.hid hst
      replace hok := Lib.hid hok
      replace hs := Lib.hid hs
      replace HS2 := Lib.hid HS2
      go_wp2_with fail
      refine C1.out.mono ?_
      rintro _ w2 ⟨rfl, h2⟩
      subst w2
      dsimp only []
      go_wp2_with fail
      refine C2.out.mono ?_
      rintro _ w2 ⟨v, rfl, hq, hb2⟩
      replace hb2 := Lib.hid (HB.out.trans hb2)
      rcases hq with ⟨rfl, h1, n, h2, h3⟩ | ⟨rfl, h1⟩
      · have h4 : (M ++ [n]).length ≤ 16 := by
          rw [List.length_append, List.length_singleton]
          omega
        have hfin : Hid (VisQ l true w2 Bo base) := Lib.hid (.inl ⟨rfl, M ++ [n], hok.out n h2, h4, h3⟩)
        clear h1 h2 h3 h4
        dsimp only []
        go_wp2_with fail
        go_returns
        exact ⟨true, rfl, hfin.out, hb2.out⟩
      · have hfin : Hid (VisQ l false w2 Bo base) := Lib.hid (.inr ⟨rfl, hst.out h1⟩)
        clear h1
        dsimp only []
        go_wp2_with fail
        go_returns
        exact ⟨false, rfl, hfin.out, hb2.out⟩
    · have hrl : p.length + 1 + q.length ≤ 9500 := by
        rw [hr2] at hr
        simp at hr
        omega
      have hss : szO (.string (baO q)) < szO (.string (baO r)) := by
        show (baO q).size < (baO r).size
        rw [baO_size, baO_size, hr2]
        simp
        omega
      have C1 : Hid (Calls Tryz.prog 84 #[.string (baO r), .string { data := #[46] }] wr fun e w' => e = .returned (.tuple #[.string (baO p), .string (baO q), .bool true]) ∧ Below wr.heap.size wr w') := Lib.hid (by
        rw [hr2] at hr ⊢
        exact cut_hit p q 46 hm (by omega) wr)
      have HS2 := HS.out
      rw [hs] at HS2
      have hst := fun h => arcs_stop HS2 HM.out h
      have hok := fun n (h1 : arcV p = some n) => mapM_one M d p n HM.out h1
      have HS3 : sp 46 l = (d ++ [p]) ++ sp 46 q := by rw [HS2]; simp
      replace hst := Lib.hid hst
      replace hok := Lib.hid hok
      replace hs := Lib.hid hs
      replace hr2 := Lib.hid hr2
      replace HS2 := Lib.hid HS2
      replace HS3 := Lib.hid HS3
      replace hss := Lib.hid hss
      go_wp2_with fail
      refine C1.out.mono ?_
      rintro _ w1 ⟨rfl, h1⟩
      have HBx1 : BoxN w1 Bo base M := by
        obtain ⟨v, g1, g2, g3⟩ := HBx.out
        exact ⟨v, (h1.block Bo (Nat.lt_of_lt_of_le hlt hsz)).trans g1, g2.below h1 (Nat.le_refl _), g3⟩
      have C2 := Lib.hid (seeArc p Bo base M w1 HBx1 h16 (by omega))
      have HB1 := Lib.hid (HB.out.trans (h1.mono (Nat.le_trans hbs hsz)))
      clear HBx1 h1
      dsimp only []
      go_wp2_with fail
      refine C2.out.mono ?_
      rintro _ w2 ⟨v, rfl, hq, hb2⟩
      replace hb2 := Lib.hid (HB1.out.trans hb2)
      rcases hq with ⟨rfl, h1, n, h2, h3⟩ | ⟨rfl, h1⟩
      · have h4 : (M ++ [n]).length ≤ 16 := by
          rw [List.length_append, List.length_singleton]
          omega
        have h5 := Lib.hid (hok.out n h2)
        replace h3 := Lib.hid h3
        clear h1 h2
        dsimp only []
        go_wp2_with fail
        go_roundw
        case rel => exact ⟨d ++ [p], q, M ++ [n], rfl, by omega, HS3, h5, h4, h3, hb2⟩
        case measure => exact hss.out
      · have hfin : Hid (VisQ l false w2 Bo base) := Lib.hid (.inr ⟨rfl, hst.out h1⟩)
        clear h1
        dsimp only []
        go_wp2_with fail
        go_returns
        exact ⟨false, rfl, hfin.out, hb2.out⟩
theorem box_new (w : World) : BoxN (w.alloc (.cells #[.slice none 0 0] 137)) w.heap.size w.heap.size [] := ⟨_, heap_alloc_new w _, OwnN.nil _ _, Nat.le_refl _⟩
set_option maxRecDepth 8000 in
set_option maxHeartbeats 2000000 in
theorem arcs_any (s : ByteArray) (w : World) (hs : s.size ≤ 9500) :
    Calls Tryz.prog 139 #[.string s] w fun e w' => ArcQ s.data.toList w.heap.size e w' ∧ Below w.heap.size w w' := by
  obtain ⟨l, rfl⟩ : ∃ l, s = baO l := ⟨s.data.toList, rfl⟩
  rw [baO_list]
  rw [baO_size] at hs
  have CV := visitArcs l w.heap.size w.heap.size (w.alloc (.cells #[.slice none 0 0] 137)) hs (box_new w)
  have hal : Below w.heap.size w (w.alloc (.cells #[.slice none 0 0] 137)) := (Below.refl _ _).alloc (Nat.le_refl _) _
  replace CV := Lib.hid CV
  replace hal := Lib.hid hal
  go_enter Tryz.func139, Tryz.ntmps139
  go_wp2_with fail
  refine CV.out.mono ?_
  rintro _ w2 ⟨v, rfl, hq, hb2⟩
  replace hb2 := Lib.hid (hal.out.trans hb2)
  rcases hq with ⟨rfl, M, h1, h2, hB⟩ | ⟨rfl, h1⟩
  · obtain ⟨u, hbk, ho, _⟩ := hB
    have hc := cell_of_one hbk
    have hfin := arcs_few h1 h2
    have hne : M ≠ [] := by
      intro e
      have h3 := (mapM_get arcV _ _ h1).1
      rw [e] at h3
      exact sp_ne 46 l (List.eq_nil_of_length_eq_zero h3)
    obtain ⟨g, c, rfl, hcells⟩ := ho.form (List.length_pos_iff.2 hne)
    replace ho := Lib.hid ho
    replace h1 := Lib.hid h1
    obtain ⟨m, hm⟩ : ∃ m, M.length = m := ⟨_, rfl⟩
    rw [hm] at hc ho h2
    have c0 : (M.length = 0) = False := by simp [hne]
    rcases M with _ | ⟨a, _ | ⟨b, r⟩⟩
    · exact absurd rfl hne
    · have hm1 : m = 1 := hm.symm
      subst hm1
      have hfn := Lib.hid (hfin.trans (if_neg (okA_one a)))
      clear hcells c0 hfin hne hbk
      replace hm := Lib.hid hm
      dsimp only []
      go_wp2_with fail
      go_returns
      exact ⟨ArcQ.no hfn.out, hb2.out⟩
    · have ca := hcells 0 a rfl
      have cb := hcells 1 b rfl
      have e2 : m = r.length + 2 := by rw [← hm]; rfl
      have o1 : ¬ ((m : Int) < 2) := by omega
      have o2 : decide ((m : Int) < 2) = false := decide_eq_false o1
      have o3 : (0 : Int) < (m : Int) := by omega
      have o4 : (1 : Int) < (m : Int) := by omega
      rw [okA_two, decide_eq_true (show r.length ≤ 14 by omega), Bool.and_true] at hfin
      clear hcells c0 hne hbk
      have HM := Lib.hid hm
      clear hm
      replace e2 := Lib.hid e2
      by_cases p2 : a ≤ 2
      · have o5 : ¬ ((2 : Int) < (a : Int)) := by omega
        have o6 : decide ((2 : Int) < (a : Int)) = false := decide_eq_false o5
        by_cases p3 : a < 2
        · have q1 : (a : Int) < 2 := by omega
          have q2 : decide ((a : Int) < 2) = true := decide_eq_true q1
          by_cases p4 : b ≤ 39
          · have q3 : ¬ ((40 : Int) ≤ (b : Int)) := by omega
            have q4 : decide ((40 : Int) ≤ (b : Int)) = false := decide_eq_false q3
            rw [decide_eq_true p2, decide_eq_true p4, Bool.or_true, Bool.and_true, if_pos rfl] at hfin
            have hfn := Lib.hid hfin
            clear hfin
            dsimp only []
            go_wp2_with fail
            go_returns
            exact ⟨ArcQ.yes hfn.out HM.out ho.out, hb2.out⟩
          · have q3 : (40 : Int) ≤ (b : Int) := by omega
            have q4 : decide ((40 : Int) ≤ (b : Int)) = true := decide_eq_true q3
            rw [decide_eq_false p4, decide_eq_false (show ¬ 2 ≤ a by omega), Bool.or_false, Bool.and_false, if_neg (by decide)] at hfin
            have hfn := Lib.hid hfin
            clear hfin
            dsimp only []
            go_wp2_with fail
            go_returns
            exact ⟨ArcQ.no hfn.out, hb2.out⟩
        · have q1 : ¬ ((a : Int) < 2) := by omega
          have q2 : decide ((a : Int) < 2) = false := decide_eq_false q1
          rw [decide_eq_true p2, decide_eq_true (show 2 ≤ a by omega), Bool.true_or, Bool.and_true, if_pos rfl] at hfin
          have hfn := Lib.hid hfin
          clear hfin
          dsimp only []
          go_wp2_with fail
          go_returns
          exact ⟨ArcQ.yes hfn.out HM.out ho.out, hb2.out⟩
      · have o5 : (2 : Int) < (a : Int) := by omega
        have o6 : decide ((2 : Int) < (a : Int)) = true := decide_eq_true o5
        rw [decide_eq_false p2, Bool.false_and, if_neg (by decide)] at hfin
        have hfn := Lib.hid hfin
        clear hfin
        dsimp only []
        go_wp2_with fail
        go_returns
        exact ⟨ArcQ.no hfn.out, hb2.out⟩
  · replace h1 := Lib.hid h1
    dsimp only []
    go_wp2_with fail
    go_returns
    exact ⟨ArcQ.no h1.out, hb2.out⟩
theorem numeric_any (s : ByteArray) (w : World) (hs : s.size ≤ 9500) :
    Calls Tryz.prog 118 #[.string s] w fun e w' => e = .returned (.bool (arcsO s.data.toList).isSome) ∧ Below w.heap.size w w' := by
  have CA := Lib.hid (arcs_any s w hs)
  go_enter Tryz.func118, Tryz.ntmps118
  go_wp2_with fail
  refine CA.out.mono ?_
  rintro _ w2 ⟨h1, h2⟩
  replace h2 := Lib.hid h2
  unfold ArcQ at h1
  rcases h : arcsO s.data.toList with _ | L
  · rw [h] at h1
    obtain rfl := h1
    replace h := Lib.hid h
    dsimp only []
    go_wp2_with fail
    go_returns
    exact ⟨by rw [h.out]; rfl, h2.out⟩
  · rw [h] at h1
    obtain ⟨g, c, rfl, h3⟩ := h1
    replace h := Lib.hid h
    clear h3
    dsimp only []
    go_wp2_with fail
    go_returns
    exact ⟨by rw [h.out]; rfl, h2.out⟩
end Go.Proofs.YtkffgdndglfcfaaGreatDoor.O7
namespace Go.Proofs.YtkffgdndglfcfaaGreatDoor.O7
open Go.RowKit Go.Lib

theorem BoxS.below {w w' : World} {Bm Bo base : Nat} {D : List (List UInt8)} (h : BoxS w Bm Bo base D) (hb : Below w.heap.size w w') : BoxS w' Bm Bo base D := by
  obtain ⟨v, mb, DD, b1, b2, b3, b4, b5, ho, hm, h1, h2⟩ := h
  exact ⟨v, mb, DD, (hb.block Bo (Array.getElem?_eq_some_iff.1 b1).1).trans b1, (hb.block Bm (Array.getElem?_eq_some_iff.1 b2).1).trans b2, b3, b4, b5, ho.below hb (Nat.le_refl _),
    hm.kept (row := none) ⟨hb.os, hb.tape, hb.output, hb.size, fun k hk _ => hb.block k hk⟩ (by simp), h1, h2⟩
/-- What the visit of the parts leaves. -/
def VisS (l : List UInt8) (v : Bool) (w : World) (Bm Bo base : Nat) : Prop :=
  (v = true ∧ (∀ q ∈ sp 59 l, signsB q = true) ∧ ∃ D, D.Nodup ∧ (∀ x, x ∈ D ↔ x ∈ (sp 59 l).map lowL) ∧ D.length ≤ 9501 ∧ BoxS w Bm Bo base D) ∨ (v = false ∧ ∃ q ∈ sp 59 l, signsB q = false)
theorem alls_snoc {d : List (List UInt8)} {p : List UInt8} (h : ∀ q ∈ d, signsB q = true) (hp : signsB p = true) : ∀ q ∈ d ++ [p], signsB q = true := by
  intro q hq
  rcases List.mem_append.1 hq with hq | hq
  · exact h q hq
  · rw [List.mem_singleton.1 hq]
    exact hp
theorem mem_snoc {d D : List (List UInt8)} {p : List UInt8} (h : ∀ x, x ∈ D ↔ x ∈ d.map lowL) : ∀ x, x ∈ addO D (lowL p) ↔ x ∈ (d ++ [p]).map lowL := by
  intro x
  rw [addO_mem, h]
  simp
set_option maxRecDepth 4000 in
set_option maxHeartbeats 1600000 in
theorem visitOpts (l : List UInt8) (Bm Bo base : Nat) (w : World) (hl : l.length ≤ 9500) (hB : BoxS w Bm Bo base []) (hbs : base ≤ w.heap.size) :
    Calls Tryz.prog 142 #[.string (baO l), .string { data := #[59] }, .func (.func 143) #[] #[.pointer (some ⟨Bm, 0, none⟩), .pointer (some ⟨Bo, 0, none⟩)]] w fun e w' => ∃ v, e = .returned (.bool v) ∧ VisS l v w' Bm Bo base ∧ Below base w w' := by
  replace hB := Lib.hid hB
  go_enter Tryz.func142, Tryz.ntmps142
  go_wp2_with fail
  go_loopw [0] (fun sv wr => ∃ (d : List (List UInt8)) (r : List UInt8) (D : List (List UInt8)), sv = .string (baO r) ∧ d.length + r.length ≤ 9500 ∧ D.length ≤ d.length ∧ Hid (sp 59 l = d ++ sp 59 r) ∧ Hid (∀ q ∈ d, signsB q = true) ∧ Hid D.Nodup ∧ Hid (∀ x, x ∈ D ↔ x ∈ d.map lowL) ∧ Hid (BoxS wr Bm Bo base D) ∧ Hid (Below base w wr)) (fun sv _ => szO sv)
  case atStart => exact ⟨[], l, [], rfl, by simpa using hl, Nat.le_refl _, Lib.hid rfl, Lib.hid (by simp), Lib.hid List.nodup_nil, Lib.hid (by simp), hB, Lib.hid (Below.refl _ _)⟩
  case round =>
    obtain ⟨d, r, D, rfl, hr, hD, HS, HA, HN, HM, HBx, HB⟩ := hrel
    have hsz := HB.out.size
    have hbz := Nat.le_trans hbs hsz
    rcases part_cases 59 r with ⟨hm, hs⟩ | ⟨p, q, hr2, hm, hs⟩
    · have C1 := Lib.hid (cut_miss r 59 hm wr)
      have C2 := Lib.hid (seeOpt r Bm Bo base D wr HBx.out (by omega) (by omega) hbz)
      have HS2 := HS.out
      rw [hs] at HS2
      replace hs := Lib.hid hs
      replace HS2 := Lib.hid HS2
      go_wp2_with fail
      refine C1.out.mono ?_
      rintro _ w2 ⟨rfl, h2⟩
      subst w2
      dsimp only []
      go_wp2_with fail
      refine C2.out.mono ?_
      rintro _ w2 ⟨v, rfl, hq, hb2⟩
      replace hb2 := Lib.hid (HB.out.trans hb2)
      rcases hq with ⟨rfl, h1, h3⟩ | ⟨rfl, h1⟩
      · have hfin : Hid (VisS l true w2 Bm Bo base) := Lib.hid (.inl ⟨rfl, by rw [HS2.out]; exact alls_snoc HA.out h1, addO D (lowL r), addO_nodup HN.out, by rw [HS2.out]; exact mem_snoc HM.out, Nat.le_trans (addO_len _ _) (by omega), h3⟩)
        clear h1 h3
        dsimp only []
        go_wp2_with fail
        go_returns
        exact ⟨true, rfl, hfin.out, hb2.out⟩
      · have hfin : Hid (VisS l false w2 Bm Bo base) := Lib.hid (.inr ⟨rfl, r, by rw [HS2.out]; simp, h1⟩)
        clear h1
        dsimp only []
        go_wp2_with fail
        go_returns
        exact ⟨false, rfl, hfin.out, hb2.out⟩
    · have hrl : d.length + (p.length + 1 + q.length) ≤ 9500 := by
        rw [hr2] at hr
        simp at hr
        omega
      have hss : szO (.string (baO q)) < szO (.string (baO r)) := by
        show (baO q).size < (baO r).size
        rw [baO_size, baO_size, hr2]
        simp
        omega
      have C1 : Hid (Calls Tryz.prog 84 #[.string (baO r), .string { data := #[59] }] wr fun e w' => e = .returned (.tuple #[.string (baO p), .string (baO q), .bool true]) ∧ Below wr.heap.size wr w') := Lib.hid (by
        rw [hr2] at hr ⊢
        exact cut_hit p q 59 hm (by omega) wr)
      have HS2 := HS.out
      rw [hs] at HS2
      have HS3 : sp 59 l = (d ++ [p]) ++ sp 59 q := by rw [HS2]; simp
      replace hs := Lib.hid hs
      replace hr2 := Lib.hid hr2
      replace HS2 := Lib.hid HS2
      replace HS3 := Lib.hid HS3
      replace hss := Lib.hid hss
      go_wp2_with fail
      refine C1.out.mono ?_
      rintro _ w1 ⟨rfl, h1⟩
      have C2 := Lib.hid (seeOpt p Bm Bo base D w1 (HBx.out.below h1) (by omega) (by omega) (Nat.le_trans hbz h1.size))
      have HB1 := Lib.hid (HB.out.trans (h1.mono hbz))
      clear h1
      dsimp only []
      go_wp2_with fail
      refine C2.out.mono ?_
      rintro _ w2 ⟨v, rfl, hq, hb2⟩
      replace hb2 := Lib.hid (HB1.out.trans hb2)
      rcases hq with ⟨rfl, h1, h3⟩ | ⟨rfl, h1⟩
      · have h4 := Lib.hid (alls_snoc HA.out h1)
        have h5 := Lib.hid (mem_snoc (p := p) HM.out)
        have h6 := Lib.hid (addO_nodup (x := lowL p) HN.out)
        have h7 := addO_len D (lowL p)
        replace h3 := Lib.hid h3
        clear h1
        dsimp only []
        go_wp2_with fail
        go_roundw
        case rel => exact ⟨d ++ [p], q, addO D (lowL p), rfl, by rw [List.length_append, List.length_singleton]; omega, by rw [List.length_append, List.length_singleton]; omega, HS3, h4, h6, h5, h3, hb2⟩
        case measure => exact hss.out
      · have hfin : Hid (VisS l false w2 Bm Bo base) := Lib.hid (.inr ⟨rfl, p, by rw [HS2.out]; simp, h1⟩)
        clear h1
        dsimp only []
        go_wp2_with fail
        go_returns
        exact ⟨false, rfl, hfin.out, hb2.out⟩
def OptQ (l : List UInt8) (base : Nat) (e : Ending) (w' : World) : Prop :=
  ((∃ q ∈ sp 59 l, signsB q = false) ∧ e = .returned (.tuple #[.slice none 0 0, .bool false])) ∨
  ((∀ q ∈ sp 59 l, signsB q = true) ∧ ∃ A c, e = .returned (.tuple #[.slice A (opts ((sp 59 l).map lowL)).length c, .bool true]) ∧ OwnO w' base (.slice A (opts ((sp 59 l).map lowL)).length c) (opts ((sp 59 l).map lowL)))
theorem boxS_new (w : World) : BoxS (((w.alloc (.cells #[.slice none 0 0] 23)).alloc (.map #[] 0)).alloc (.cells #[.map (some (w.heap.size + 1))] 189)) (w.heap.size + 2) w.heap.size w.heap.size [] := by
  have z1 : (w.alloc (.cells #[.slice none 0 0] 23)).heap.size = w.heap.size + 1 := by simp
  have z2 : ((w.alloc (.cells #[.slice none 0 0] 23)).alloc (.map #[] 0)).heap.size = w.heap.size + 2 := by simp
  have h1 := heap_alloc_new w (.cells #[.slice none 0 0] 23)
  have h2 := heap_alloc_new ((w.alloc (.cells #[.slice none 0 0] 23)).alloc (.map #[] 0)) (.cells #[.map (some (w.heap.size + 1))] 189)
  rw [z2] at h2
  have h3 := World.ownsMap_made (H := Unit) (w.alloc (.cells #[.slice none 0 0] 23)) Tryz.prog 9 unitElem
  rw [z1] at h3
  refine ⟨.slice none 0 0, w.heap.size + 1, .map [], ?_, h2, Nat.le_refl _, by omega, by omega, OwnO.nil _ _, h3.alloc _, Maps.isMap_empty, fun x => by simp [Maps.has]⟩
  exact (Below.heap_alloc _ _ _ (by rw [z2]; omega)).trans ((Below.heap_alloc _ _ _ (by rw [z1]; omega)).trans h1)
set_option maxRecDepth 8000 in
set_option maxHeartbeats 2000000 in
theorem opts_any (s : ByteArray) (w : World) (hs : s.size ≤ 9500) :
    Calls Tryz.prog 120 #[.string s] w fun e w' => OptQ s.data.toList w.heap.size e w' ∧ Below w.heap.size w w' := by
  obtain ⟨l, rfl⟩ : ∃ l, s = baO l := ⟨s.data.toList, rfl⟩
  rw [baO_list]
  rw [baO_size] at hs
  have hmm := @run_makeMap Tryz.prog
  have hal : Below w.heap.size w (((w.alloc (.cells #[.slice none 0 0] 23)).alloc (.map #[] 0)).alloc (.cells #[.map (some (w.heap.size + 1))] 189)) :=
    (((Below.refl _ _).alloc (Nat.le_refl _) _).alloc (by simp) _).alloc (by simp; omega) _
  have CV := Lib.hid (visitOpts l (w.heap.size + 2) w.heap.size w.heap.size _ hs (boxS_new w) hal.size)
  replace hal := Lib.hid hal
  go_enter Tryz.func120, Tryz.ntmps120
  go_wp2_with fail
  refine CV.out.mono ?_
  rintro _ w2 ⟨v, rfl, hq, hb2⟩
  replace hb2 := Lib.hid (hal.out.trans hb2)
  rcases hq with ⟨rfl, h1, D, h2, h3, h4, hB⟩ | ⟨rfl, q, h1, h2⟩
  · obtain ⟨u, mb, DD, b1, _, _, _, _, ho, _⟩ := hB
    have hc := cell_of_one b1
    have hne : D ≠ [] := by
      intro e
      have hx := sp_ne 59 l
      cases hsp : sp 59 l with
      | nil => exact hx hsp
      | cons a T =>
        have := (h3 (lowL a)).2 (by rw [hsp]; simp)
        rw [e] at this
        cases this
    have hso := sort_opts D ((sp 59 l).map lowL) h2 h3
    obtain ⟨O, hO⟩ : ∃ O, O = opts ((sp 59 l).map lowL) := ⟨_, rfl⟩
    rw [← hO] at hso
    have hlen : O.length = D.length := by rw [← hso, List.length_mergeSort]
    obtain ⟨_, hx⟩ := ho
    rcases hx with ⟨_, h5⟩ | ⟨g, cap, cur, rfl, hbs, hg, k1, k2, k3, k4⟩
    · exact absurd (List.eq_nil_of_length_eq_zero h5) hne
    · rw [Nat.mul_one] at k4
      have hH : Go.Sort.Holds encStr w2 g 0 D.toArray := holds_of_block hg k4
      have CS := Tryz.slices_Sort_string g 0 cap D w2 hH (Array.getElem?_eq_some_iff.1 hg).1 (by omega)
      rw [show (D.mergeSort fun x y => decide (x ≤ y)) = O from hso] at CS
      obtain ⟨m, hm⟩ : ∃ m, m = D.length := ⟨_, rfl⟩
      rw [← hm] at CS hc hlen
      have hgB : w.heap.size ≠ g := by
        intro e
        rw [e] at b1
        rw [b1] at hg
        injection hg with hg
        exact cells_ne (by decide) hg
      have HR : Hid (∀ n os, ∃ W, W = Sort.grow (Sort.putRow encStr (Sort.ahead w2 n) g 0 O.toArray) os ∧ OwnO W w.heap.size (.slice (some ⟨g, 0, none⟩) m cap) O ∧ Below w.heap.size w W ∧ W.heap[w.heap.size]? = w2.heap[w.heap.size]?) := Lib.hid fun n os => by
        have hr1 := ownsRow_sorted (n := n) (os := os) (ss := D) (ts := O) (by rw [hlen, hm]) hbs hg k1 k2 (by rw [k3])
        have hgr := grownBy_sorted (w := w2) (g := g) (n := n) (os := os) O.toArray
        refine ⟨_, rfl, ?_, hb2.out.grown hgr hb2.out.size (fun k hk => by injection hk with hk; omega), hgr.block _ (Array.getElem?_eq_some_iff.1 b1).1 (by simpa using hgB)⟩
        unfold OwnO
        rw [hlen, hm]
        exact hr1
      replace CS := Lib.hid CS
      replace hm := Lib.hid hm
      replace hO := Lib.hid hO
      replace hlen := Lib.hid hlen
      replace h1 := Lib.hid h1
      replace b1 := Lib.hid b1
      clear hH k1 k2 k3 k4 hg h2 h3 hso
      dsimp only []
      go_wp2_with fail
      refine CS.out.mono ?_
      rintro _ w3 ⟨rfl, n, os, hw3⟩
      obtain ⟨W, hW, hO3, hB3, hk3⟩ := HR.out n os
      rw [← hW] at hw3
      subst hw3
      have hc3 := cell_of_one (hk3.trans b1.out)
      replace hO3 := Lib.hid hO3
      replace hB3 := Lib.hid hB3
      clear hW hk3 hc
      dsimp only []
      go_wp2_with fail
      go_returns
      refine ⟨.inr ⟨h1.out, some ⟨g, 0, none⟩, cap, ?_, ?_⟩, hB3.out⟩
      · rw [← hO.out, hlen.out, hm.out]
        rfl
      · rw [← hO.out, hlen.out]
        exact hO3.out
  · have hfin : Hid (OptQ l w.heap.size (.returned (.tuple #[.slice none 0 0, .bool false])) w2) := Lib.hid (.inl ⟨⟨q, h1, h2⟩, rfl⟩)
    clear h1 h2
    dsimp only []
    go_wp2_with fail
    go_returns
    exact ⟨hfin.out, hb2.out⟩
theorem cut_desc (l : List UInt8) (w : World) (hl : l.length ≤ 9500) : ∃ (p q : List UInt8) (m : Bool), (Calls Tryz.prog 84 #[.string (baO l), .string { data := #[59] }] w fun e w' => e = .returned (.tuple #[.string (baO p), .string (baO q), .bool m]) ∧ Below w.heap.size w w') ∧ sp 59 l = p :: (if m = true then sp 59 q else []) ∧ p.length ≤ 9500 ∧ q.length ≤ 9500 := by
  rcases part_cases 59 l with ⟨hm, hs⟩ | ⟨p, q, hr, hm, hs⟩
  · refine ⟨l, [], false, (cut_miss l 59 hm w).mono fun e w' ⟨h1, h2⟩ => ⟨h1, h2 ▸ Below.refl _ _⟩, hs, hl, by simp⟩
  · refine ⟨p, q, true, ?_, hs, ?_, ?_⟩
    · subst hr
      exact cut_hit p q 59 hm (by omega) w
    · rw [hr] at hl
      simp at hl
      omega
    · rw [hr] at hl
      simp at hl
      omega
/-- What Describe answers. -/
def DesQ (l : List UInt8) (e : Ending) (w' : World) : Prop := ∃ A c, e = .returned (.tuple #[.string (baO (deO l).1), .slice A (deO l).2.1.length c, .bool (deO l).2.2]) ∧ SrcO w' w'.heap.size A c (deO l).2.1
theorem DesQ.no {l : List UInt8} {w' : World} (h : descO l = none) : DesQ l (.returned (.tuple #[.string ⟨#[]⟩, .slice none 0 0, .bool false])) w' := by
  unfold DesQ
  rw [deO_none h]
  exact ⟨none, 0, rfl, SrcO.none_ _ _⟩
theorem DesQ.yes {l a : List UInt8} {O : List (List UInt8)} {A : Option Addr} {n c : Nat} {w' : World} (h : descO l = some (a, O)) (hn : O.length = n) (hs : SrcO w' w'.heap.size A c O) : DesQ l (.returned (.tuple #[.string (baO a), .slice A n c, .bool true])) w' := by
  unfold DesQ
  rw [deO_some h]
  subst hn
  exact ⟨A, c, rfl, hs⟩
set_option maxRecDepth 8000 in
set_option maxHeartbeats 4000000 in
theorem describe_any (s : ByteArray) (w : World) (hs : s.size ≤ 9500) :
    Calls Tryz.prog 86 #[.string s] w fun e w' => DesQ s.data.toList e w' ∧ Below w.heap.size w w' := by
  obtain ⟨l, rfl⟩ : ∃ l, s = baO l := ⟨s.data.toList, rfl⟩
  rw [baO_list]
  rw [baO_size] at hs
  obtain ⟨p, q, m, CC, hsp, hp, hq⟩ := cut_desc l w hs
  have hd := desc_of hsp
  have hsz := baO_size l
  have CN := fun W => numeric_any (baO p) W (by rw [baO_size]; exact hp)
  have CW := fun W => word_any (baO p) W (by rw [baO_size]; omega)
  have CO := fun W => opts_any (baO q) W (by rw [baO_size]; exact hq)
  have CL := fun W => lower_any (baO p) W (by rw [baO_size]; omega)
  simp only [baO_list] at CN CW CO CL
  replace CC := Lib.hid CC
  replace CL := Lib.hid CL
  replace hsp := Lib.hid hsp
  by_cases hbig : 64 < l.length
  · rw [if_pos hbig] at hd
    have k1 : (64 : Int) < ((baO l).size : Int) := by omega
    have k2 : decide ((64 : Int) < ((baO l).size : Int)) = true := decide_eq_true k1
    replace hd := Lib.hid hd
    replace hsz := Lib.hid hsz
    replace CN := Lib.hid CN
    replace CW := Lib.hid CW
    replace CO := Lib.hid CO
    go_enter Tryz.func86, Tryz.ntmps86
    go_wp2_with fail
    refine CC.out.mono ?_
    rintro _ w1 ⟨rfl, h1⟩
    have HB1 := Lib.hid h1
    clear h1
    dsimp only []
    go_wp2_with fail
    go_returns
    exact ⟨DesQ.no hd.out, HB1.out⟩
  · rw [if_neg hbig] at hd
    have k1 : ¬ ((64 : Int) < ((baO l).size : Int)) := by omega
    have k2 : decide ((64 : Int) < ((baO l).size : Int)) = false := decide_eq_false k1
    replace hsz := Lib.hid hsz
    cases ha : (arcsO p).isSome with
    | true =>
      rw [ha, Bool.true_or, Bool.true_and] at hd
      rw [ha] at CN
      replace hd := Lib.hid hd
      replace CN := Lib.hid CN
      replace CW := Lib.hid CW
      replace CO := Lib.hid CO
      cases m with
      | false =>
        have hd2 : descO l = some (lowL p, []) := by rw [hd.out]; rfl
        replace hd2 := Lib.hid hd2
        go_enter Tryz.func86, Tryz.ntmps86
        go_wp2_with fail
        refine CC.out.mono ?_
        rintro _ w1 ⟨rfl, h1⟩
        have HB1 := Lib.hid h1
        clear h1
        dsimp only []
        go_wp2_with fail
        refine (CN.out _).mono ?_
        rintro _ w2 ⟨rfl, h2⟩
        have HB2 := Lib.hid (HB1.out.trans (h2.mono HB1.out.size))
        clear h2
        dsimp only []
        go_wp2_with fail
        refine (CL.out _).mono ?_
        rintro _ w5 ⟨rfl, h5⟩
        have HB5 := Lib.hid (HB2.out.trans (h5.mono HB2.out.size))
        clear h5
        dsimp only []
        go_wp2_with fail
        go_returns
        exact ⟨DesQ.yes hd2.out rfl (SrcO.none_ _ _), HB5.out⟩
      | true =>
        have hd1 : descO l = if (sp 59 q).all signsB = true then some (lowL p, opts ((sp 59 q).map lowL)) else none := hd.out
        replace hd1 := Lib.hid hd1
        clear hd
        go_enter Tryz.func86, Tryz.ntmps86
        go_wp2_with fail
        refine CC.out.mono ?_
        rintro _ w1 ⟨rfl, h1⟩
        have HB1 := Lib.hid h1
        clear h1
        dsimp only []
        go_wp2_with fail
        refine (CN.out _).mono ?_
        rintro _ w2 ⟨rfl, h2⟩
        have HB2 := Lib.hid (HB1.out.trans (h2.mono HB1.out.size))
        clear h2
        dsimp only []
        go_wp2_with fail
        refine (CO.out _).mono ?_
        rintro _ w4 ⟨h3, h4⟩
        have HB4 := Lib.hid (HB2.out.trans (h4.mono HB2.out.size))
        have hz4 := h4.size
        clear h4
        rcases h3 with ⟨⟨z, z1, z2⟩, rfl⟩ | ⟨z1, A, c, rfl, ho⟩
        · have hd2 : descO l = none := by
            rw [hd1.out, all_bad z1 z2]
            rfl
          replace hd2 := Lib.hid hd2
          clear z1 z2
          dsimp only []
          go_wp2_with fail
          go_returns
          exact ⟨DesQ.no hd2.out, HB4.out⟩
        · have hd2 : descO l = some (lowL p, opts ((sp 59 q).map lowL)) := by
            rw [hd1.out, List.all_eq_true.2 z1]
            rfl
          obtain ⟨O, hO⟩ : ∃ O, O = opts ((sp 59 q).map lowL) := ⟨_, rfl⟩
          rw [← hO] at hd2 ho ⊢
          obtain ⟨n, hn⟩ : ∃ n, O.length = n := ⟨_, rfl⟩
          rw [hn] at ho ⊢
          have hs4 := Lib.hid (OwnO.src ho)
          replace hd2 := Lib.hid hd2
          replace hO := Lib.hid hO
          replace hn := Lib.hid hn
          clear z1 ho
          dsimp only []
          go_wp2_with fail
          refine (CL.out _).mono ?_
          rintro _ w5 ⟨rfl, h5⟩
          have HB5 := Lib.hid (HB4.out.trans (h5.mono HB4.out.size))
          have hs5 := Lib.hid (hs4.out.next h5)
          clear h5
          dsimp only []
          go_wp2_with fail
          go_returns
          exact ⟨DesQ.yes hd2.out hn.out hs5.out, HB5.out⟩
    | false =>
      rw [ha, Bool.false_or] at hd
      rw [ha] at CN
      cases hw : wordB p with
      | false =>
        rw [hw, Bool.false_and, if_neg (by decide)] at hd
        rw [hw] at CW
        replace hd := Lib.hid hd
        replace CN := Lib.hid CN
        replace CW := Lib.hid CW
        replace CO := Lib.hid CO
        go_enter Tryz.func86, Tryz.ntmps86
        go_wp2_with fail
        refine CC.out.mono ?_
        rintro _ w1 ⟨rfl, h1⟩
        have HB1 := Lib.hid h1
        clear h1
        dsimp only []
        go_wp2_with fail
        refine (CN.out _).mono ?_
        rintro _ w2 ⟨rfl, h2⟩
        have HB2 := Lib.hid (HB1.out.trans (h2.mono HB1.out.size))
        clear h2
        dsimp only []
        go_wp2_with fail
        refine (CW.out _).mono ?_
        rintro _ w3 ⟨rfl, e3⟩
        subst w3
        dsimp only []
        go_wp2_with fail
        go_returns
        exact ⟨DesQ.no hd.out, HB2.out⟩
      | true =>
        rw [hw, Bool.true_and] at hd
        rw [hw] at CW
        replace hd := Lib.hid hd
        replace CN := Lib.hid CN
        replace CW := Lib.hid CW
        replace CO := Lib.hid CO
        cases m with
        | false =>
          have hd2 : descO l = some (lowL p, []) := by rw [hd.out]; rfl
          replace hd2 := Lib.hid hd2
          go_enter Tryz.func86, Tryz.ntmps86
          go_wp2_with fail
          refine CC.out.mono ?_
          rintro _ w1 ⟨rfl, h1⟩
          have HB1 := Lib.hid h1
          clear h1
          dsimp only []
          go_wp2_with fail
          refine (CN.out _).mono ?_
          rintro _ w2 ⟨rfl, h2⟩
          have HB2 := Lib.hid (HB1.out.trans (h2.mono HB1.out.size))
          clear h2
          dsimp only []
          go_wp2_with fail
          refine (CW.out _).mono ?_
          rintro _ w3 ⟨rfl, e3⟩
          subst w3
          dsimp only []
          go_wp2_with fail
          refine (CL.out _).mono ?_
          rintro _ w5 ⟨rfl, h5⟩
          have HB5 := Lib.hid (HB2.out.trans (h5.mono HB2.out.size))
          clear h5
          dsimp only []
          go_wp2_with fail
          go_returns
          exact ⟨DesQ.yes hd2.out rfl (SrcO.none_ _ _), HB5.out⟩
        | true =>
          have hd1 : descO l = if (sp 59 q).all signsB = true then some (lowL p, opts ((sp 59 q).map lowL)) else none := hd.out
          replace hd1 := Lib.hid hd1
          clear hd
          go_enter Tryz.func86, Tryz.ntmps86
          go_wp2_with fail
          refine CC.out.mono ?_
          rintro _ w1 ⟨rfl, h1⟩
          have HB1 := Lib.hid h1
          clear h1
          dsimp only []
          go_wp2_with fail
          refine (CN.out _).mono ?_
          rintro _ w2 ⟨rfl, h2⟩
          have HB2 := Lib.hid (HB1.out.trans (h2.mono HB1.out.size))
          clear h2
          dsimp only []
          go_wp2_with fail
          refine (CW.out _).mono ?_
          rintro _ w3 ⟨rfl, e3⟩
          subst w3
          dsimp only []
          go_wp2_with fail
          refine (CO.out _).mono ?_
          rintro _ w4 ⟨h3, h4⟩
          have HB4 := Lib.hid (HB2.out.trans (h4.mono HB2.out.size))
          have hz4 := h4.size
          clear h4
          rcases h3 with ⟨⟨z, z1, z2⟩, rfl⟩ | ⟨z1, A, c, rfl, ho⟩
          · have hd2 : descO l = none := by
              rw [hd1.out, all_bad z1 z2]
              rfl
            replace hd2 := Lib.hid hd2
            clear z1 z2
            dsimp only []
            go_wp2_with fail
            go_returns
            exact ⟨DesQ.no hd2.out, HB4.out⟩
          · have hd2 : descO l = some (lowL p, opts ((sp 59 q).map lowL)) := by
              rw [hd1.out, List.all_eq_true.2 z1]
              rfl
            obtain ⟨O, hO⟩ : ∃ O, O = opts ((sp 59 q).map lowL) := ⟨_, rfl⟩
            rw [← hO] at hd2 ho ⊢
            obtain ⟨n, hn⟩ : ∃ n, O.length = n := ⟨_, rfl⟩
            rw [hn] at ho ⊢
            have hs4 := Lib.hid (OwnO.src ho)
            replace hd2 := Lib.hid hd2
            replace hO := Lib.hid hO
            replace hn := Lib.hid hn
            clear z1 ho
            dsimp only []
            go_wp2_with fail
            refine (CL.out _).mono ?_
            rintro _ w5 ⟨rfl, h5⟩
            have HB5 := Lib.hid (HB4.out.trans (h5.mono HB4.out.size))
            have hs5 := Lib.hid (hs4.out.next h5)
            clear h5
            dsimp only []
            go_wp2_with fail
            go_returns
            exact ⟨DesQ.yes hd2.out hn.out hs5.out, HB5.out⟩
end Go.Proofs.YtkffgdndglfcfaaGreatDoor.O7
namespace Go.Proofs.YtkffgdndglfcfaaGreatDoor.O7
open Go.RowKit Go.Lib
open Go.RowKit

set_option maxHeartbeats 1000000 in
set_option maxRecDepth 100000 in
theorem bcheck_used (b : Nat) (w : World) (h0 : w.cell? ⟨b, 0, none⟩ = some (.pointer (some ⟨b, 0, none⟩))) :
    Calls Tryz.prog 76 #[.pointer (some ⟨b, 0, none⟩)] w fun e w' => e = .returned (.tuple #[]) ∧ w' = w := by
  have X : (Tryz.prog.info? 59).map (·.size) = some 2 := by kernel_rfl
  obtain ⟨j, hj, _⟩ := Option.map_eq_some_iff.1 X
  go_enter Tryz.func76, Tryz.ntmps76
  go_wp2
  rw [Lib.run_neq_ptr_same w _ Tryz.underlying57 hj]
  go_wp2
  go_end0
  exact ⟨rfl, rfl⟩
set_option maxHeartbeats 1000000 in
set_option maxRecDepth 100000 in
theorem bcheck_fresh (b : Nat) (w : World) (h0 : w.cell? ⟨b, 0, none⟩ = some (.pointer none)) (hsh : w.shape? b = some (59, 2)) (hfz : w.frozen? ⟨b, 0, none⟩ = false) :
    Calls Tryz.prog 76 #[.pointer (some ⟨b, 0, none⟩)] w fun e w' => e = .returned (.tuple #[]) ∧ w' = w.setCell ⟨b, 0, none⟩ (.pointer (some ⟨b, 0, none⟩)) := by
  have X : (Tryz.prog.info? 59).map (·.size) = some 2 := by kernel_rfl
  obtain ⟨j, hj, hjs⟩ := Option.map_eq_some_iff.1 X
  have XL : liesAt Tryz.prog Tryz.prog.depth 59 (2 / Tryz.prog.cellsOf 59) 0 59 1 = true := by kernel_rfl
  go_enter Tryz.func76, Tryz.ntmps76
  go_wp2
  rw [Lib.run_to_unsafe w ⟨b, 0, none⟩ Tryz.underlying57 Tryz.underlying163 hj (by rw [hjs]; decide) hsh (Nat.zero_lt_succ 1)]
  simp only [Result.andThen]
  rw [Oper.upon_value]
  go_wp2
  rw [run_callFunc_extern Tryz.func103 (by kernel_rfl) (by kernel_rfl) (by kernel_rfl) (e := Extern.AbiNoEscape.same) (by kernel_rfl)]
  rw [Lib.run_noEscape]
  simp only [Result.andThen]
  rw [Oper.upon_value]
  go_wp2
  rw [Lib.run_from_unsafe w ⟨b, 0, none⟩ Tryz.underlying163 Tryz.underlying57 hj hsh XL]
  simp only [Result.andThen]
  rw [Oper.upon_value]
  go_wp2
  go_end0
  exact ⟨rfl, rfl⟩
theorem bcheck_any (B b : Nat) (bs : List Value) (w : World) (h : Lib.IsBuilderF 59 5 B b bs w) :
    Calls Tryz.prog 76 #[.pointer (some ⟨b, 0, none⟩)] w fun e w' => e = .returned (.tuple #[]) ∧ (Lib.BuilderAtF 59 5 B b (.pointer (some ⟨b, 0, none⟩)) bs w' ∧ Below B w w') := by
  rcases h with h | h
  · refine (bcheck_fresh b w h.cell0 h.shape h.frozen0).mono ?_
    rintro e w' ⟨rfl, rfl⟩
    exact ⟨rfl, h.used _, (Below.refl B w).setCell (p := ⟨b, 0, none⟩) h.1 _⟩
  · refine (bcheck_used b w h.cell0).mono ?_
    rintro e w' ⟨rfl, rfl⟩
    exact ⟨rfl, h, Below.refl B _⟩
set_option maxHeartbeats 2000000 in
set_option maxRecDepth 100000 in
theorem wstr_any (B b : Nat) (bs : List Value) (s : ByteArray) (w : World) (h : Lib.IsBuilderF 59 5 B b bs w) (hlen : bs.length + s.size ≤ 140737488355328) (hBw : B ≤ w.heap.size) :
    Calls Tryz.prog 51 #[.pointer (some ⟨b, 0, none⟩), .string s] w fun e w' => e = .returned (.tuple #[.int .i64 s.size, .nilIface]) ∧ (Lib.IsBuilderF 59 5 B b (bs ++ Lib.strCells s) w' ∧ Below B w w') := by
  have XB : (Tryz.prog.info? 5).map (fun i => (i.zero, i.size, i.bytes)) = some (some (.int .u8 0), 1, 1) := by kernel_rfl
  obtain ⟨i0, hi, hz0, hz1, hz2⟩ := info_parts XB
  have CC := Lib.hid (bcheck_any B b bs w h)
  clear h
  go_enter Tryz.func51, Tryz.ntmps51
  go_wp2_with fail
  refine CC.out.mono ?_
  rintro _ w1 ⟨rfl, h1, hb1⟩
  obtain ⟨hB, v, hbk, hown, hne⟩ := h1
  have c0 : w1.cell? ⟨b, 0, none⟩ = some (.pointer (some ⟨b, 0, none⟩)) := by rw [Lib.cell_of_heap hbk]; rfl
  have c1 : w1.cell? ⟨b, 1, none⟩ = some v := by rw [Lib.cell_of_heap hbk]; rfl
  go_wp2_with (at_builtin; refine Lib.wpList_append_own_stringF _ rfl _ _ 40 9 rfl B 5 i0 Tryz.underlying40 Tryz.underlying9 hi hz0 hz1 hz2 _ _ _ rfl hown s rfl ?c3 ?c4 ?c5 ?_)
  case c3 => unfold maxLen; omega
  case c4 => omega
  case c5 => have := hb1.size; omega
  intro v' w2 hown' hgrow _
  have hlt : b < w1.heap.size := by
    rcases Nat.lt_or_ge b w1.heap.size with h' | h'
    · exact h'
    · simp [Array.getElem?_eq_none h'] at hbk
  have hb2 : w2.heap[b]? = some (.cells #[.pointer (some ⟨b, 0, none⟩), v] 59 (0, 0)) := by
    rw [hgrow.block b hlt (fun e => hne e.symm)]
    exact hbk
  have d0 : w2.cell? ⟨b, 0, none⟩ = some (.pointer (some ⟨b, 0, none⟩)) := by rw [Lib.cell_of_heap hb2]; rfl
  have d1 : w2.cell? ⟨b, 1, none⟩ = some v := by rw [Lib.cell_of_heap hb2]; rfl
  have f1 : w2.frozen? ⟨b, 1, none⟩ = false := Lib.frozen_of_heap hb2 1
  obtain ⟨ao, n', cap, rfl⟩ : ∃ ao n' cap, v' = .slice ao n' cap := by
    rcases hown'.2 with ⟨hv, _⟩ | ⟨g, cap, cur, fz, hv, _⟩
    · exact ⟨_, _, _, hv⟩
    · exact ⟨_, _, _, hv⟩
  go_wp2
  go_ret2
  refine ⟨rfl, .inr ?_, ?_⟩
  · exact Lib.BuilderAtF.put (T := 59) (e := 5) hB hb2 (bs' := bs ++ Lib.strCells s) (by simpa [Lib.strCells_length] using hown') (by decide)
  · exact (hb1.grown hgrow (by have := hb1.size; omega) (fun k hk => (hown.lt k hk).1)).setCell (p := ⟨b, 1, none⟩) hB _
/-- A row of numbers, below block K. -/
structure SrcN (w : World) (K : Nat) (A : Option Addr) (c : Nat) (L : List Nat) : Prop where
  le : L.length ≤ c
  nil : A = none → c = 0
  at_ : ∀ ad, A = some ad → (0 < L.length → ad.block < K) ∧ ∀ (j : Nat) (l : Nat), L[j]? = some l → w.cell? (ad.add j) = some (.int .i64 (l : Int))
theorem SrcN.none_ (w : World) (K : Nat) : SrcN w K none 0 [] := ⟨Nat.le_refl _, fun _ => rfl, fun _ h => by cases h⟩
theorem SrcN.keep {w w' : World} {K : Nat} {A : Option Addr} {c : Nat} {L : List Nat} (h : SrcN w K A c L) (hk : ∀ p : Addr, p.block < K → w'.cell? p = w.cell? p) : SrcN w' K A c L := by
  refine ⟨h.le, h.nil, fun ad e => ⟨(h.at_ ad e).1, fun j l hj => ?_⟩⟩
  have hl : j < L.length := (List.getElem?_eq_some_iff.1 hj).1
  rw [hk _ (by rw [add_block]; exact (h.at_ ad e).1 (by omega))]
  exact (h.at_ ad e).2 j l hj
theorem SrcN.below {w w' : World} {K : Nat} {A : Option Addr} {c : Nat} {L : List Nat} (h : SrcN w K A c L) (hb : Below K w w') : SrcN w' K A c L := h.keep fun _ hp => hb.cell hp
theorem SrcN.more {w : World} {K K' : Nat} {A : Option Addr} {c : Nat} {L : List Nat} (h : SrcN w K A c L) (hb : K ≤ K') : SrcN w K' A c L :=
  ⟨h.le, h.nil, fun ad e => ⟨fun h0 => Nat.lt_of_lt_of_le ((h.at_ ad e).1 h0) hb, (h.at_ ad e).2⟩⟩
theorem OwnN.src {w : World} {base : Nat} {A : Option Addr} {c n : Nat} {L : List Nat} (h : OwnN w base (.slice A n c) L) : SrcN w w.heap.size A c L := by
  obtain ⟨_, h2 | ⟨g, cap, cur, hv, hbs, hg, hn, hm, hs, hx⟩⟩ := h
  · obtain ⟨h2, h3⟩ := h2
    injection h2 with h4 _ h5
    subst h4 h5
    rw [List.eq_nil_of_length_eq_zero h3]
    exact SrcN.none_ _ _
  · injection hv with h4 _ h5
    subst h4 h5
    refine ⟨hn, (by simp), fun ad e => ?_⟩
    injection e with e
    subst e
    refine ⟨fun _ => (Array.getElem?_eq_some_iff.1 hg).1, fun j l hj => ?_⟩
    have hil : j < L.length := (List.getElem?_eq_some_iff.1 hj).1
    have e0 : (⟨g, 0, none⟩ : Addr).add j = ⟨g, j, none⟩ := by unfold Addr.add; split <;> simp_all
    rw [e0, cell_of_row w g j cur _ _ hg]
    have h2 : (cellsI L)[j]? = some (Value.int .i64 (l : Int)) := by simp [cellsI, hj]
    rw [← hx, List.getElem?_take, if_pos (by omega)] at h2
    simpa using h2
theorem SrcN.drop {w : World} {K : Nat} {A : Option Addr} {c : Nat} {L : List Nat} (h : SrcN w K A c L) (k : Nat) : SrcN w K (if c = k then A else A.map (·.add k)) (c - k) (L.drop k) := by
  have hle := h.le
  by_cases e : c = k
  · rw [if_pos e]
    have hd : L.drop k = [] := List.drop_of_length_le (by omega)
    rw [hd]
    refine ⟨by simp, fun hA => by have := h.nil hA; omega, fun ad hA => ⟨fun h0 => by simp at h0, fun j x hj => by simp at hj⟩⟩
  · rw [if_neg e]
    refine ⟨by rw [List.length_drop]; omega, fun hA => ?_, fun ad hA => ?_⟩
    · cases A with
      | none => have := h.nil rfl; omega
      | some a => cases hA
    · cases A with
      | none => cases hA
      | some a =>
        injection hA with hA
        subst hA
        refine ⟨fun h0 => ?_, fun j x hj => ?_⟩
        · rw [add_block]
          rw [List.length_drop] at h0
          exact (h.at_ a rfl).1 (by omega)
        · rw [List.getElem?_drop] at hj
          have := (h.at_ a rfl).2 (k + j) x hj
          rwa [addr_add7]
theorem SrcN.get {w : World} {K : Nat} {A : Option Addr} {c : Nat} {L : List Nat} (h : SrcN w K A c L) (k : Nat) (hk : k < L.length) : ∃ ad, A = some ad ∧ w.cell? (ad.add k) = some (.int .i64 ((L[k] : Nat) : Int)) ∧ ad.block < K := by
  have hle := h.le
  cases A with
  | none => have := h.nil rfl; omega
  | some a => exact ⟨a, rfl, (h.at_ a rfl).2 k _ (List.getElem?_eq_getElem hk), (h.at_ a rfl).1 (by omega)⟩
theorem cutN_from (B : Option Addr) (m cc k : Nat) (hk : k ≤ m) (hm : m ≤ cc) (W : World) :
    (Instr.sliceAt 137 (.slice B m cc) (some (.int .i64 (k : Int))) none none).run Tryz.prog W = .ok (.slice (if cc = k then B else B.map (·.add k)) (m - k) (cc - k)) W := by
  have h1 : (0 : Int) ≤ (k : Int) := by omega
  have h2 : (k : Int) ≤ (m : Int) := by omega
  have h3 : (m : Int) ≤ (cc : Int) := by omega
  go_simp
/-- The builder at b holds l. -/
def Bld (w : World) (base b : Nat) (l : List UInt8) : Prop := Lib.IsBuilderF 59 5 base b (Lib.byteCells l) w
theorem Bld.new (w : World) : Bld (w.alloc (.cells #[.pointer none, .slice none 0 0] 59)) w.heap.size w.heap.size [] := Lib.IsBuilderF.of (Lib.fresh_isBuilder _ _ _)
theorem Bld.below {w w' : World} {base b : Nat} {l : List UInt8} (h : Bld w base b l) (hb : Below w.heap.size w w') : Bld w' base b l := by
  have key : ∀ p, Lib.BuilderAtF 59 5 base b p (Lib.byteCells l) w → Lib.BuilderAtF 59 5 base b p (Lib.byteCells l) w' := by
    intro p h
    have hlt := h.lt
    obtain ⟨hB, v, hv, hown, hne⟩ := h
    exact ⟨hB, v, (hb.block b hlt).trans hv, hown.kept (row := none) ⟨hb.os, hb.tape, hb.output, hb.size, fun k hk _ => hb.block k hk⟩ (Classical.em _), hne⟩
  exact h.elim (fun x => .inl (key _ x)) (fun x => .inr (key _ x))
theorem bld_write (base b : Nat) (l m : List UInt8) (w : World) (h : Bld w base b l) (hlen : l.length + m.length ≤ 1000000) (hB : base ≤ w.heap.size) :
    Calls Tryz.prog 51 #[.pointer (some ⟨b, 0, none⟩), .string (baO m)] w fun e w' => e = .returned (.tuple #[.int .i64 (baO m).size, .nilIface]) ∧ Bld w' base b (l ++ m) ∧ Below base w w' := by
  refine (wstr_any base b (Lib.byteCells l) (baO m) w h (by rw [Lib.byteCells_length, baO_size]; omega) hB).mono fun _ _ ⟨h1, h2, h3⟩ => ⟨h1, ?_, h3⟩
  unfold Bld
  rw [Lib.byteCells_append]
  exact h2
theorem bld_read (base b : Nat) (l : List UInt8) (w : World) (h : Bld w base b l) (hB : base ≤ w.heap.size) :
    Calls Tryz.prog 26 #[.pointer (some ⟨b, 0, none⟩)] w fun e w' => e = .returned (.string (baO l)) ∧ Below base w w' :=
  (Tryz.Builder_String_any_f base b l w h hB).mono fun _ _ ⟨h1, _, h3⟩ => ⟨h1, h3⟩
theorem flat_succ (L : List (List UInt8)) (k : Nat) (hk : k < L.length) : ((L.take (k + 1)).flatMap fun q => (59 : UInt8) :: q) = ((L.take k).flatMap fun q => (59 : UInt8) :: q) ++ 59 :: L[k] := by
  rw [List.take_succ_eq_append_getElem hk, List.flatMap_append]
  simp
set_option maxRecDepth 8000 in
set_option maxHeartbeats 2000000 in
theorem text_any (s : ByteArray) (A : Option Addr) (c N : Nat) (L : List (List UInt8)) (w : World) (hL : L.length = N) (hN : N ≤ 9500) (hs : s.size + wt L ≤ 100000) (hsrc : SrcO w w.heap.size A c L) :
    Calls Tryz.prog 87 #[.string s, .slice A N c] w fun e w' => e = .returned (.string (baO (s.data.toList ++ L.flatMap fun q => (59 : UInt8) :: q))) ∧ Below w.heap.size w w' := by
  obtain ⟨l, rfl⟩ : ∃ l, s = baO l := ⟨s.data.toList, rfl⟩
  rw [baO_list]
  rw [baO_size] at hs
  have hget : Hid (∀ k, k < N → ∃ ad l, A = some ad ∧ L[k]? = some l ∧ w.cell? (ad.add k) = some (.string (baO l)) ∧ ad.block < w.heap.size ∧ ((L.take (k + 1)).flatMap fun q => (59 : UInt8) :: q) = ((L.take k).flatMap fun q => (59 : UInt8) :: q) ++ 59 :: l) := Lib.hid fun k hk => by
    have hkl : k < L.length := by omega
    have hx : L[k]? = some L[k] := List.getElem?_eq_getElem hkl
    rcases A with _ | ad
    · have := hsrc.nil rfl
      have := hsrc.le
      omega
    · exact ⟨ad, L[k], rfl, hx, (hsrc.at_ ad rfl).2 k _ hx, (hsrc.at_ ad rfl).1 (by omega), flat_succ L k hkl⟩
  have hend : Hid (L.take N = L) := Lib.hid (List.take_of_length_le (by omega))
  have hwt := Lib.hid (wt_take L)
  have hle := hsrc.le
  rw [hL] at hle
  have hal : Below w.heap.size w (w.alloc (.cells #[.pointer none, .slice none 0 0] 59)) := (Below.refl _ _).alloc (Nat.le_refl _) _
  have C0 := Lib.hid (bld_write w.heap.size w.heap.size [] l _ (Bld.new w) (by simp; omega) hal.size)
  replace hal := Lib.hid hal
  replace hsrc := Lib.hid hsrc
  replace hL := Lib.hid hL
  go_enter Tryz.func87, Tryz.ntmps87
  go_wp2_with fail
  refine C0.out.mono ?_
  rintro _ w1 ⟨rfl, h1, h2⟩
  have HB0 := Lib.hid h1
  have HB1 := Lib.hid (hal.out.trans h2)
  clear h1 h2
  dsimp only []
  go_wp2_with fail
  go_loopw [12] (fun iv wr => ∃ (k : Nat), k ≤ N ∧ iv = .int .i64 (k : Int) ∧ Hid (Bld wr w.heap.size w.heap.size (l ++ ((L.take k).flatMap fun q => (59 : UInt8) :: q))) ∧ Hid (Below w.heap.size w wr)) (fun i _ => N - (RowKit.intOf i).toNat)
  case atStart => exact ⟨0, Nat.zero_le _, rfl, Lib.hid (by simpa using HB0.out), HB1⟩
  case round =>
    obtain ⟨k, hk, rfl, HX, HB⟩ := hrel
    have hsz := HB.out.size
    by_cases hlt : k < N
    · obtain ⟨ad, m, rfl, hl, hc, hbk, htk⟩ := hget.out k hlt
      have hcw : wr.cell? (ad.add k) = some (.string (baO m)) := by
        rw [HB.out.cell (p := ad.add k) (by rw [add_block]; exact hbk), hc]
      have i0 : (0 : Int) ≤ (k : Int) := by omega
      have i1 : (k : Int) < (N : Int) := by omega
      obtain ⟨X, hX⟩ : ∃ X, X = l ++ ((L.take k).flatMap fun q => (59 : UInt8) :: q) := ⟨_, rfl⟩
      rw [← hX] at HX
      have hX2 : (X ++ [59]) ++ m = l ++ ((L.take (k + 1)).flatMap fun q => (59 : UInt8) :: q) := by rw [hX, htk]; simp
      have hlen : X.length + 1 + m.length ≤ 100000 := by
        have h1 := hwt.out (k + 1)
        have h2 := congrArg List.length hX2
        simp only [List.length_append, List.length_singleton] at h2
        unfold wt at h1 hs
        omega
      have C1 := Lib.hid (bld_write w.heap.size w.heap.size X [59] wr HX.out (by simp; omega) hsz)
      replace hX := Lib.hid hX
      replace hX2 := Lib.hid hX2
      replace hl := Lib.hid hl
      replace htk := Lib.hid htk
      clear hc
      go_wp2_with fail
      refine C1.out.mono ?_
      rintro _ w2 ⟨rfl, h1, h2⟩
      have C2 := Lib.hid (bld_write w.heap.size w.heap.size (X ++ [59]) m w2 h1 (by simp; omega) (Nat.le_trans hsz h2.size))
      have HB2 := Lib.hid (HB.out.trans h2)
      clear h1 h2
      dsimp only []
      go_wp2_with fail
      refine C2.out.mono ?_
      rintro _ w3 ⟨rfl, h1, h2⟩
      rw [hX2.out] at h1
      have HX3 := Lib.hid h1
      have HB3 := Lib.hid (HB2.out.trans h2)
      clear h1 h2
      dsimp only []
      go_wp2_with fail
      go_roundw
      case rel => exact ⟨k + 1, by omega, by go_num, HX3, HB3⟩
      case measure => simp [RowKit.intOf]; omega
    · have hkk : k = N := by omega
      subst hkk
      have i1 : ¬ ((k : Int) < (k : Int)) := by omega
      rw [hend.out] at HX
      have C3 := Lib.hid (bld_read w.heap.size w.heap.size _ wr HX.out hsz)
      go_wp2_with fail
      refine C3.out.mono ?_
      rintro _ w2 ⟨rfl, h2⟩
      replace h2 := Lib.hid (HB.out.trans h2)
      dsimp only []
      go_wp2_with fail
      go_returns
      exact ⟨rfl, h2.out⟩
/-- The numbers so far, with a sign between any two. -/
theorem txA_cons (a : Nat) (L : List Nat) : txA (a :: L) = decDigits a ++ L.flatMap fun n => (46 : UInt8) :: decDigits n := by
  unfold txA jn
  simp [List.flatMap_map]
theorem txA_take (L : List Nat) (k : Nat) (hk : k < L.length) : txA (L.take (k + 1)) = if k = 0 then decDigits L[k] else (txA (L.take k) ++ [46]) ++ decDigits L[k] := by
  cases L with
  | nil => simp at hk
  | cons a L =>
    cases k with
    | zero =>
      rw [if_pos rfl]
      show txA [a] = _
      rw [txA_cons]
      simp
    | succ k =>
      rw [if_neg (by omega), List.take_succ_cons, List.take_succ_cons, txA_cons, txA_cons]
      simp only [List.length_cons] at hk
      rw [List.take_succ_eq_append_getElem (by omega), List.flatMap_append]
      simp
theorem txA_long : ∀ L : List Nat, (∀ n ∈ L, n ≤ 100000000000000) → (txA L).length ≤ 16 * L.length
  | [], _ => by simp [txA, jn]
  | a :: L, h => by
    rw [txA_cons, List.length_append, List.length_cons]
    have h1 := dec_len15 a (h a List.mem_cons_self)
    have h2 : ∀ M : List Nat, (∀ n ∈ M, n ≤ 100000000000000) → (M.flatMap fun n => (46 : UInt8) :: decDigits n).length ≤ 16 * M.length := by
      intro M
      induction M with
      | nil => simp
      | cons b M ih =>
        intro hM
        have h3 := dec_len15 b (hM b List.mem_cons_self)
        have h4 := ih fun n hn => hM n (List.mem_cons_of_mem _ hn)
        rw [List.flatMap_cons, List.length_append, List.length_cons, List.length_cons]
        omega
    have := h2 L fun n hn => h n (List.mem_cons_of_mem _ hn)
    omega
end Go.Proofs.YtkffgdndglfcfaaGreatDoor.O7
