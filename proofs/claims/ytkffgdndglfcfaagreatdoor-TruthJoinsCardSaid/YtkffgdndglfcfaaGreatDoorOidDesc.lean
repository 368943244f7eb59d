/-
  Descriptions of attributes, as data: small letters, words, options in order, each once. Nothing here speaks of a program.
-/
import Derived.Test.YtkffgdndglfcfaaGreatDoorOidDat
namespace Go.Proofs.YtkffgdndglfcfaaGreatDoor
open Go.Lib

theorem bl_irrefl : ∀ x : List UInt8, Op.bytesLess x x = false
  | [] => rfl
  | a :: x => by
    unfold Op.bytesLess
    rw [bl_irrefl x]
    simp
theorem bl_trans : ∀ x y z : List UInt8, Op.bytesLess x y = true → Op.bytesLess y z = true → Op.bytesLess x z = true
  | _, [], _, h, _ => by unfold Op.bytesLess at h; cases h
  | _, _ :: _, [], _, h => by unfold Op.bytesLess at h; cases h
  | [], _ :: _, _ :: _, _, _ => rfl
  | a :: x, b :: y, c :: z, h1, h2 => by
    unfold Op.bytesLess at h1 h2 ⊢
    have ih := bl_trans x y z
    simp only [Bool.or_eq_true, Bool.and_eq_true, decide_eq_true_eq, beq_iff_eq, UInt8.lt_iff_toNat_lt, ← UInt8.toNat_inj] at h1 h2 ⊢
    rcases h1 with h1 | h1 <;> rcases h2 with h2 | h2
    · exact .inl (by omega)
    · exact .inl (by omega)
    · exact .inl (by omega)
    · exact .inr ⟨by omega, ih h1.2 h2.2⟩
theorem bl_total : ∀ x y : List UInt8, Op.bytesLess x y = false → x ≠ y → Op.bytesLess y x = true
  | [], [], _, h => absurd rfl h
  | [], _ :: _, h, _ => by unfold Op.bytesLess at h; cases h
  | _ :: _, [], _, _ => rfl
  | a :: x, b :: y, h1, h2 => by
    have ih := bl_total x y
    unfold Op.bytesLess at h1 ⊢
    simp only [Bool.or_eq_false_iff, Bool.and_eq_false_iff, decide_eq_false_iff_not, beq_eq_false_iff_ne, ne_eq, Bool.or_eq_true, Bool.and_eq_true, decide_eq_true_eq, beq_iff_eq, UInt8.lt_iff_toNat_lt, ← UInt8.toNat_inj] at h1 ⊢
    by_cases h : a.toNat = b.toNat
    · rcases h1.2 with h3 | h3
      · exact absurd h h3
      · refine .inr ⟨h.symm, ih h3 (fun e => h2 ?_)⟩
        rw [e, UInt8.toNat_inj.1 h]
    · exact .inl (by omega)

def low (c : UInt8) : UInt8 := if decide (65 ≤ c.toNat) && decide (c.toNat ≤ 90) then UInt8.ofNat (c.toNat + 32) else c
def lowL (l : List UInt8) : List UInt8 := l.map low
theorem low_low (c : UInt8) : low (low c) = low c := by
  have h : ∀ n, n < 256 → low (low (UInt8.ofNat n)) = low (UInt8.ofNat n) := by decide +kernel
  have := h c.toNat c.toNat_lt
  rwa [UInt8.ofNat_toNat] at this
theorem lowL_low (l : List UInt8) : lowL (lowL l) = lowL l := by
  unfold lowL
  rw [List.map_map]
  exact List.map_congr_left fun c _ => low_low c
def letterB (c : UInt8) : Bool := (decide (97 ≤ c.toNat) && decide (c.toNat ≤ 122)) || (decide (65 ≤ c.toNat) && decide (c.toNat ≤ 90))
def signB (c : UInt8) : Bool := letterB c || (decide (48 ≤ c.toNat) && decide (c.toNat ≤ 57)) || c == 45
def signsB (l : List UInt8) : Bool := l.all signB && decide (0 < l.length)
def wordB (l : List UInt8) : Bool := decide (1 ≤ l.length) && decide (l.length ≤ 64) && letterB (l.headD 0) && signsB l
/-- An option at its place, if it is not there. -/
def ins (x : List UInt8) : List (List UInt8) → List (List UInt8)
  | [] => [x]
  | y :: r => if Op.bytesLess y x then y :: ins x r else if y = x then y :: r else x :: y :: r
def opts (L : List (List UInt8)) : List (List UInt8) := L.foldl (fun O x => ins x O) []
def descO (l : List UInt8) : Option (List UInt8 × List (List UInt8)) :=
  if 64 < l.length then none
  else if ((arcsO ((sp 59 (lowL l)).headD [])).isSome || wordB ((sp 59 (lowL l)).headD [])) && (sp 59 (lowL l)).tail.all signsB then some ((sp 59 (lowL l)).headD [], opts (sp 59 (lowL l)).tail)
  else none

/-- In order, each once. -/
def Asc : List (List UInt8) → Prop
  | [] => True
  | x :: r => (∀ y ∈ r, Op.bytesLess x y = true) ∧ Asc r
theorem ins_mem (x : List UInt8) : ∀ (L : List (List UInt8)) (y : List UInt8), y ∈ ins x L → y = x ∨ y ∈ L
  | [], y, h => by simpa [ins] using h
  | z :: r, y, h => by
    unfold ins at h
    split at h
    · rcases List.mem_cons.1 h with rfl | h
      · exact .inr List.mem_cons_self
      · rcases ins_mem x r y h with h | h
        · exact .inl h
        · exact .inr (List.mem_cons_of_mem _ h)
    · split at h
      · exact .inr h
      · rcases List.mem_cons.1 h with rfl | h
        · exact .inl rfl
        · exact .inr h
theorem ins_asc (x : List UInt8) : ∀ L, Asc L → Asc (ins x L)
  | [], _ => ⟨fun y h => by simp at h, trivial⟩
  | y :: r, h => by
    unfold ins
    split
    · rename_i h1
      refine ⟨fun z hz => ?_, ins_asc x r h.2⟩
      rcases ins_mem x r z hz with rfl | hz
      · exact h1
      · exact h.1 z hz
    · rename_i h1
      split
      · exact h
      · rename_i h2
        have h3 := bl_total y x (by simpa using h1) h2
        refine ⟨fun z hz => ?_, h⟩
        rcases List.mem_cons.1 hz with rfl | hz
        · exact h3
        · exact bl_trans x y z h3 (h.1 z hz)
theorem foldl_asc : ∀ (L O : List (List UInt8)), Asc O → Asc (L.foldl (fun O x => ins x O) O)
  | [], _, h => h
  | x :: L, O, h => foldl_asc L (ins x O) (ins_asc x O h)
theorem opts_asc (L : List (List UInt8)) : Asc (opts L) := foldl_asc L [] trivial
theorem foldl_mem : ∀ (L O : List (List UInt8)) (y : List UInt8), y ∈ L.foldl (fun O x => ins x O) O → y ∈ L ∨ y ∈ O
  | [], _, _, h => .inr h
  | x :: L, O, y, h => by
    rcases foldl_mem L (ins x O) y h with h | h
    · exact .inl (List.mem_cons_of_mem _ h)
    · rcases ins_mem x O y h with rfl | h
      · exact .inl List.mem_cons_self
      · exact .inr h
theorem opts_mem {L : List (List UInt8)} {y : List UInt8} (h : y ∈ opts L) : y ∈ L := by
  rcases foldl_mem L [] y h with h | h
  · exact h
  · simp at h
/-- Above all that are there, it comes last. -/
theorem ins_end (x : List UInt8) : ∀ O : List (List UInt8), (∀ y ∈ O, Op.bytesLess y x = true) → ins x O = O ++ [x]
  | [], _ => rfl
  | y :: r, h => by
    unfold ins
    rw [if_pos (h y List.mem_cons_self), ins_end x r (fun z hz => h z (List.mem_cons_of_mem _ hz))]
    rfl
theorem foldl_self : ∀ (L O : List (List UInt8)), Asc L → (∀ y ∈ O, ∀ x ∈ L, Op.bytesLess y x = true) → L.foldl (fun O x => ins x O) O = O ++ L
  | [], O, _, _ => by simp
  | x :: L, O, h, ho => by
    rw [List.foldl_cons, ins_end x O (fun y hy => ho y hy x List.mem_cons_self), foldl_self L (O ++ [x]) h.2 (fun y hy z hz => ?_)]
    · simp
    · rcases List.mem_append.1 hy with hy | hy
      · exact ho y hy z (List.mem_cons_of_mem _ hz)
      · rw [List.mem_singleton] at hy
        subst hy
        exact h.1 z hz
theorem opts_self {L : List (List UInt8)} (h : Asc L) : opts L = L := foldl_self L [] h (fun y hy => by simp at hy)
/-- What a text of them measures. -/
def wt (L : List (List UInt8)) : Nat := (L.flatMap fun q => (59 : UInt8) :: q).length
theorem wt_cons (x : List UInt8) (L : List (List UInt8)) : wt (x :: L) = x.length + 1 + wt L := by
  unfold wt
  simp only [List.flatMap_cons, List.length_append, List.length_cons]
theorem wt_ins (x : List UInt8) : ∀ L, wt (ins x L) ≤ x.length + 1 + wt L
  | [] => by rw [ins, wt_cons]; exact Nat.le_refl _
  | y :: r => by
    unfold ins
    have := wt_ins x r
    split
    · rw [wt_cons, wt_cons]
      omega
    · split
      · omega
      · rw [wt_cons]
        exact Nat.le_refl _
theorem wt_fold : ∀ L O : List (List UInt8), wt (L.foldl (fun O x => ins x O) O) ≤ wt L + wt O
  | [], O => by show wt O ≤ 0 + wt O; omega
  | x :: L, O => by
    have h1 := wt_fold L (ins x O)
    have h2 := wt_ins x O
    rw [List.foldl_cons, wt_cons]
    omega
theorem wt_opts (L : List (List UInt8)) : wt (opts L) ≤ wt L := by
  have := wt_fold L []
  unfold opts
  have h : wt [] = 0 := rfl
  omega
/-- The text of a description. -/
def dtx (q : List UInt8 × List (List UInt8)) : List UInt8 := jn 59 (q.1 :: q.2)
theorem low_parts (l : List UInt8) : ∀ p ∈ sp 59 (lowL l), lowL p = p := by
  intro p hp
  have h1 := jn_sp 59 (lowL l)
  have h2 : ∀ (P : List (List UInt8)), p ∈ P → ∀ c ∈ p, c ∈ jn 59 P := by
    intro P hP c hc
    cases P with
    | nil => simp at hP
    | cons q Q =>
      show c ∈ q ++ Q.flatMap fun q => (59 : UInt8) :: q
      rcases List.mem_cons.1 hP with rfl | hP
      · exact List.mem_append_left _ hc
      · exact List.mem_append_right _ (List.mem_flatMap.2 ⟨p, hP, List.mem_cons_of_mem _ hc⟩)
  have h3 : ∀ c ∈ p, low c = c := fun c hc => by
    have := h2 _ hp c hc
    rw [h1] at this
    obtain ⟨d, _, rfl⟩ := List.mem_map.1 this
    exact low_low d
  unfold lowL
  exact (List.map_congr_left h3).trans (by simp)
theorem desc_low (l : List UInt8) : descO (lowL l) = descO l := by
  unfold descO
  rw [lowL_low]
  have : (lowL l).length = l.length := by simp [lowL]
  rw [this]
theorem desc_parts {l : List UInt8} {q : List UInt8 × List (List UInt8)} (h : descO l = some q) : l.length ≤ 64 ∧ ((arcsO q.1).isSome || wordB q.1) = true ∧ (sp 59 (lowL l)).tail.all signsB = true ∧ q.1 = (sp 59 (lowL l)).headD [] ∧ q.2 = opts (sp 59 (lowL l)).tail := by
  unfold descO at h
  split at h
  · cases h
  · split at h
    · rename_i h1 h2
      injection h with h
      subst h
      rw [Bool.and_eq_true] at h2
      exact ⟨by omega, h2.1, h2.2, rfl, rfl⟩
    · cases h
theorem desc_mem {l : List UInt8} {q : List UInt8 × List (List UInt8)} (h : descO l = some q) : ∀ p ∈ q.1 :: q.2, p ∈ sp 59 (lowL l) := by
  obtain ⟨_, _, _, h4, h5⟩ := desc_parts h
  intro p hp
  have hne := headD_tail (sp_ne 59 (lowL l)) []
  rcases List.mem_cons.1 hp with rfl | hp
  · rw [← hne, ← h4]
    exact List.mem_cons_self
  · rw [h5] at hp
    rw [← hne]
    exact List.mem_cons_of_mem _ (opts_mem hp)
theorem dtx_low {l : List UInt8} {q : List UInt8 × List (List UInt8)} (h : descO l = some q) : lowL (dtx q) = dtx q := by
  have hm := desc_mem h
  have hl : ∀ p ∈ q.1 :: q.2, lowL p = p := fun p hp => low_parts l p (hm p hp)
  have hc : ∀ c ∈ dtx q, low c = c := by
    have each : ∀ p ∈ q.1 :: q.2, ∀ c ∈ p, low c = c := fun p hp c hc => by
      have := hl p hp
      unfold lowL at this
      obtain ⟨i, hi, rfl⟩ := List.getElem_of_mem hc
      have h2 := congrArg (fun z => z[i]?) this
      simp only [List.getElem?_map] at h2
      rw [List.getElem?_eq_getElem hi] at h2
      injection h2
    intro c hc
    unfold dtx jn at hc
    rcases List.mem_append.1 hc with hc | hc
    · exact each q.1 List.mem_cons_self c hc
    · obtain ⟨p, hp, hc⟩ := List.mem_flatMap.1 hc
      rcases List.mem_cons.1 hc with rfl | hc
      · decide
      · exact each p (List.mem_cons_of_mem _ hp) c hc
  unfold lowL
  exact (List.map_congr_left hc).trans (by simp)
theorem dtx_len {l : List UInt8} {q : List UInt8 × List (List UInt8)} (h : descO l = some q) : (dtx q).length ≤ l.length := by
  obtain ⟨_, _, _, h4, h5⟩ := desc_parts h
  have hne := headD_tail (sp_ne 59 (lowL l)) []
  have hj := jn_sp 59 (lowL l)
  rw [← hne] at hj
  have h6 := congrArg List.length hj
  unfold jn at h6
  rw [List.length_append] at h6
  have h7 : (lowL l).length = l.length := by simp [lowL]
  have h8 := wt_opts (sp 59 (lowL l)).tail
  unfold wt at h8
  unfold dtx jn
  rw [List.length_append, h4, h5]
  omega
/-- A description is told, and described again, as itself. -/
theorem desc_again {l : List UInt8} {q : List UInt8 × List (List UInt8)} (h : descO l = some q) : descO (dtx q) = some q := by
  have h0 := dtx_len h
  have h1 := dtx_low h
  have hm := desc_mem h
  obtain ⟨g1, g2, g3, g4, g5⟩ := desc_parts h
  have hs : sp 59 (dtx q) = q.1 :: q.2 := sp_jn 59 (q.1 :: q.2) (by simp) (fun p hp => sp_free 59 _ p (hm p hp))
  have hall : q.2.all signsB = true := by
    rw [List.all_eq_true] at g3 ⊢
    intro p hp
    rw [g5] at hp
    exact g3 p (opts_mem hp)
  have ho : opts q.2 = q.2 := opts_self (by rw [g5]; exact opts_asc _)
  unfold descO
  rw [if_neg (by omega), h1, hs]
  have hc : (((arcsO ((q.1 :: q.2).headD [])).isSome || wordB ((q.1 :: q.2).headD [])) && (q.1 :: q.2).tail.all signsB) = true := by
    show (((arcsO q.1).isSome || wordB q.1) && q.2.all signsB) = true
    rw [g2, hall]
    rfl
  rw [if_pos hc]
  show some (q.1, opts q.2) = some q
  rw [ho]
end Go.Proofs.YtkffgdndglfcfaaGreatDoor
