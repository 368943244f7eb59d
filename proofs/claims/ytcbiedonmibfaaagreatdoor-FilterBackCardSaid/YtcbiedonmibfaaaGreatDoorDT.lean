/-
  Characters of UTF-8 and their folds, as data.
-/
import Derived.Test.YtcbiedonmibfaaaGreatDoorRows
import Derived.Lib.ItoaNum
import GoSem.Op.String
namespace Go.Proofs.YtcbiedonmibfaaaGreatDoor
def uOk (c : Nat) : Prop := c ≤ 1114111 ∧ ¬ (55296 ≤ c ∧ c ≤ 57343)
instance (c : Nat) : Decidable (uOk c) := by unfold uOk; infer_instance
def uEnc (c : Nat) : List Nat :=
 if c < 128 then [c]
 else if c < 2048 then [192 + c / 64, 128 + c % 64]
 else if c < 65536 then [224 + c / 4096, 128 + c / 64 % 64, 128 + c % 64]
 else [240 + c / 262144, 128 + c / 4096 % 64, 128 + c / 64 % 64, 128 + c % 64]
def uCont (d : Nat) : Prop := 128 ≤ d ∧ d ≤ 191
instance (d : Nat) : Decidable (uCont d) := by unfold uCont; infer_instance
def uFin (v least n : Nat) : Nat × Nat := if v < least ∨ ¬ uOk v then (0, 0) else (v, n)
def uTwo (c : Nat) : List Nat → Nat × Nat
 | d :: _ => if uCont d then uFin ((c - 192) * 64 + (d - 128)) 128 2 else (0, 0)
 | _ => (0, 0)
def uThree (c : Nat) : List Nat → Nat × Nat
 | d :: e :: _ => if uCont d ∧ uCont e then uFin (((c - 224) * 64 + (d - 128)) * 64 + (e - 128)) 2048 3 else (0, 0)
 | _ => (0, 0)
def uFour (c : Nat) : List Nat → Nat × Nat
 | d :: e :: f :: _ => if uCont d ∧ uCont e ∧ uCont f then uFin ((((c - 240) * 64 + (d - 128)) * 64 + (e - 128)) * 64 + (f - 128)) 65536 4 else (0, 0)
 | _ => (0, 0)
def uNext : List Nat → Nat × Nat
 | [] => (0, 0)
 | c :: r =>
   if c < 128 then (c, 1)
   else if 194 ≤ c ∧ c < 224 then uTwo c r
   else if 224 ≤ c ∧ c < 240 then uThree c r
   else if 240 ≤ c ∧ c < 245 then uFour c r
   else (0, 0)
theorem uNext_cons (c : Nat) (r : List Nat) : uNext (c :: r) = if c < 128 then (c, 1) else if 194 ≤ c ∧ c < 224 then uTwo c r else if 224 ≤ c ∧ c < 240 then uThree c r else if 240 ≤ c ∧ c < 245 then uFour c r else (0, 0) := by rw [uNext]
theorem uTwo_cons (c d : Nat) (r : List Nat) : uTwo c (d :: r) = if uCont d then uFin ((c - 192) * 64 + (d - 128)) 128 2 else (0, 0) := by rw [uTwo]
theorem uThree_cons (c d e : Nat) (r : List Nat) : uThree c (d :: e :: r) = if uCont d ∧ uCont e then uFin (((c - 224) * 64 + (d - 128)) * 64 + (e - 128)) 2048 3 else (0, 0) := by rw [uThree]
theorem uFour_cons (c d e f : Nat) (r : List Nat) : uFour c (d :: e :: f :: r) = if uCont d ∧ uCont e ∧ uCont f then uFin ((((c - 240) * 64 + (d - 128)) * 64 + (e - 128)) * 64 + (f - 128)) 65536 4 else (0, 0) := by rw [uFour]
theorem uEnc_pos (c : Nat) : 0 < (uEnc c).length := by
 unfold uEnc
 split
 · simp
 · split
   · simp
   · split <;> simp
theorem uFin_ok {v least n : Nat} (h : (uFin v least n).2 ≠ 0) : uFin v least n = (v, n) ∧ least ≤ v ∧ uOk v := by
 unfold uFin at h ⊢
 by_cases h1 : v < least ∨ ¬ uOk v
 · rw [if_pos h1] at h
   exact absurd rfl h
 · rw [if_neg h1]
   by_cases h2 : uOk v
   · exact ⟨rfl, by by_cases h3 : v < least; exact absurd (.inl h3) h1; omega, h2⟩
   · exact absurd (.inr h2) h1
theorem uNext_ok (l : List Nat) (h : (uNext l).2 ≠ 0) : uOk (uNext l).1 ∧ l = uEnc (uNext l).1 ++ l.drop (uNext l).2 ∧ (uNext l).2 = (uEnc (uNext l).1).length := by
 rcases l with _ | ⟨c, r⟩
 · exact absurd rfl h
 · rw [uNext_cons] at h ⊢
   by_cases h1 : c < 128
   · rw [if_pos h1] at h ⊢
     refine ⟨⟨by show c ≤ _; omega, by show ¬ (_ ≤ c ∧ _); omega⟩, ?_⟩
     simp [uEnc, h1]
   · rw [if_neg h1] at h ⊢
     by_cases h2 : 194 ≤ c ∧ c < 224
     · rw [if_pos h2] at h ⊢
       rcases r with _ | ⟨d, r⟩
       · exact absurd rfl h
       · rw [uTwo_cons] at h ⊢
         by_cases hd : uCont d
         · rw [if_pos hd] at h ⊢
           obtain ⟨e1, e2, e3⟩ := uFin_ok h
           rw [e1]
           unfold uCont at hd
           have hE : uEnc ((c - 192) * 64 + (d - 128)) = [c, d] := by
            unfold uEnc
            rw [if_neg (by omega), if_pos (by omega)]
            simp only [List.cons.injEq, and_true]
            omega
           refine ⟨e3, ?_, ?_⟩
           · show _ = uEnc ((c - 192) * 64 + (d - 128)) ++ _
             rw [hE]
             rfl
           · show _ = (uEnc ((c - 192) * 64 + (d - 128))).length
             rw [hE]
             rfl
         · rw [if_neg hd] at h
           exact absurd rfl h
     · rw [if_neg h2] at h ⊢
       by_cases h3 : 224 ≤ c ∧ c < 240
       · rw [if_pos h3] at h ⊢
         rcases r with _ | ⟨d, _ | ⟨e, r⟩⟩
         · exact absurd rfl h
         · exact absurd rfl h
         · rw [uThree_cons] at h ⊢
           by_cases hd : uCont d ∧ uCont e
           · rw [if_pos hd] at h ⊢
             obtain ⟨e1, e2, e3⟩ := uFin_ok h
             rw [e1]
             unfold uCont at hd
             have hE : uEnc (((c - 224) * 64 + (d - 128)) * 64 + (e - 128)) = [c, d, e] := by
              unfold uEnc
              rw [if_neg (by omega), if_neg (by omega), if_pos (by omega)]
              simp only [List.cons.injEq, and_true]
              omega
             refine ⟨e3, ?_, ?_⟩
             · show _ = uEnc (((c - 224) * 64 + (d - 128)) * 64 + (e - 128)) ++ _
               rw [hE]
               rfl
             · show _ = (uEnc (((c - 224) * 64 + (d - 128)) * 64 + (e - 128))).length
               rw [hE]
               rfl
           · rw [if_neg hd] at h
             exact absurd rfl h
       · rw [if_neg h3] at h ⊢
         by_cases h4 : 240 ≤ c ∧ c < 245
         · rw [if_pos h4] at h ⊢
           rcases r with _ | ⟨d, _ | ⟨e, _ | ⟨f, r⟩⟩⟩
           · exact absurd rfl h
           · exact absurd rfl h
           · exact absurd rfl h
           · rw [uFour_cons] at h ⊢
             by_cases hd : uCont d ∧ uCont e ∧ uCont f
             · rw [if_pos hd] at h ⊢
               obtain ⟨e1, e2, e3⟩ := uFin_ok h
               rw [e1]
               unfold uCont at hd
               have e4 := e3.1
               have hE : uEnc ((((c - 240) * 64 + (d - 128)) * 64 + (e - 128)) * 64 + (f - 128)) = [c, d, e, f] := by
                unfold uEnc
                rw [if_neg (by omega), if_neg (by omega), if_neg (by omega)]
                simp only [List.cons.injEq, and_true]
                omega
               refine ⟨e3, ?_, ?_⟩
               · show _ = uEnc ((((c - 240) * 64 + (d - 128)) * 64 + (e - 128)) * 64 + (f - 128)) ++ _
                 rw [hE]
                 rfl
               · show _ = (uEnc ((((c - 240) * 64 + (d - 128)) * 64 + (e - 128)) * 64 + (f - 128))).length
                 rw [hE]
                 rfl
             · rw [if_neg hd] at h
               exact absurd rfl h
         · rw [if_neg h4] at h
           exact absurd rfl h
def uCharsR : Nat → List Nat → Option (List Nat)
 | 0, l => if l = [] then some [] else none
 | f + 1, l =>
   if l = [] then some []
   else if (uNext l).2 = 0 then none
   else (uCharsR f (l.drop (uNext l).2)).map ((uNext l).1 :: ·)
def uChars (l : List Nat) : Option (List Nat) := uCharsR l.length l
theorem uChars_nil : uChars [] = some [] := rfl
theorem uChars_bad (l : List Nat) (h0 : l ≠ []) (h : (uNext l).2 = 0) : uChars l = none := by
 unfold uChars
 rcases l with _ | ⟨c, r⟩
 · exact absurd rfl h0
 · rw [List.length_cons, uCharsR, if_neg h0, if_pos h]
theorem uCharsR_more : ∀ (f g : Nat) (l : List Nat), l.length ≤ f → l.length ≤ g → uCharsR f l = uCharsR g l
 | 0, 0, _, _, _ => rfl
 | 0, g + 1, l, h, _ => by
   have : l = [] := List.eq_nil_of_length_eq_zero (by omega)
   rw [uCharsR, uCharsR, if_pos this, if_pos this]
 | f + 1, 0, l, _, h => by
   have : l = [] := List.eq_nil_of_length_eq_zero (by omega)
   rw [uCharsR, uCharsR, if_pos this, if_pos this]
 | f + 1, g + 1, l, hf, hg => by
   rw [uCharsR, uCharsR]
   by_cases h0 : l = []
   · rw [if_pos h0, if_pos h0]
   · rw [if_neg h0, if_neg h0]
     by_cases h1 : (uNext l).2 = 0
     · rw [if_pos h1, if_pos h1]
     · rw [if_neg h1, if_neg h1]
       have : 0 < l.length := List.length_pos_iff.2 h0
       rw [uCharsR_more f g _ (by rw [List.length_drop]; omega) (by rw [List.length_drop]; omega)]
theorem uChars_step (l : List Nat) (h0 : l ≠ []) (h : (uNext l).2 ≠ 0) : uChars l = (uChars (l.drop (uNext l).2)).map ((uNext l).1 :: ·) := by
 have hl : 0 < l.length := List.length_pos_iff.2 h0
 have e : uCharsR (l.length - 1) (l.drop (uNext l).2) = uChars (l.drop (uNext l).2) := uCharsR_more _ _ _ (by rw [List.length_drop]; omega) (Nat.le_refl _)
 rw [← e]
 unfold uChars
 obtain ⟨f, hf⟩ : ∃ f, l.length = f + 1 := ⟨l.length - 1, by omega⟩
 rw [hf, uCharsR, if_neg h0, if_neg h, Nat.add_sub_cancel]
theorem uNext_le (l : List Nat) : (uNext l).2 ≤ l.length := by
 by_cases h : (uNext l).2 = 0
 · omega
 · obtain ⟨_, h2, h3⟩ := uNext_ok l h
   have := congrArg List.length h2
   rw [List.length_append, List.length_drop] at this
   have hp := uEnc_pos (uNext l).1
   omega
theorem uFin_zero (v least n : Nat) (hn : n ≠ 0) (h : (uFin v least n).2 = 0) : uFin v least n = (0, 0) := by
 unfold uFin at h ⊢
 by_cases h1 : v < least ∨ ¬ uOk v
 · rw [if_pos h1]
 · rw [if_neg h1] at h
   exact absurd h hn
theorem uNext_zero (l : List Nat) (h : (uNext l).2 = 0) : uNext l = (0, 0) := by
 rcases l with _ | ⟨c, r⟩
 · rfl
 · rw [uNext_cons] at h ⊢
   by_cases h1 : c < 128
   · rw [if_pos h1] at h
     exact absurd h (Nat.succ_ne_zero 0)
   · rw [if_neg h1] at h ⊢
     by_cases h2 : 194 ≤ c ∧ c < 224
     · rw [if_pos h2] at h ⊢
       rcases r with _ | ⟨d, r⟩
       · rfl
       · rw [uTwo_cons] at h ⊢
         by_cases hd : uCont d
         · rw [if_pos hd] at h ⊢
           exact uFin_zero _ _ _ (by decide) h
         · rw [if_neg hd]
     · rw [if_neg h2] at h ⊢
       by_cases h3 : 224 ≤ c ∧ c < 240
       · rw [if_pos h3] at h ⊢
         rcases r with _ | ⟨d, _ | ⟨e, r⟩⟩
         · rfl
         · rfl
         · rw [uThree_cons] at h ⊢
           by_cases hd : uCont d ∧ uCont e
           · rw [if_pos hd] at h ⊢
             exact uFin_zero _ _ _ (by decide) h
           · rw [if_neg hd]
       · rw [if_neg h3] at h ⊢
         by_cases h4 : 240 ≤ c ∧ c < 245
         · rw [if_pos h4] at h ⊢
           rcases r with _ | ⟨d, _ | ⟨e, _ | ⟨f, r⟩⟩⟩
           · rfl
           · rfl
           · rfl
           · rw [uFour_cons] at h ⊢
             by_cases hd : uCont d ∧ uCont e ∧ uCont f
             · rw [if_pos hd] at h ⊢
               exact uFin_zero _ _ _ (by decide) h
             · rw [if_neg hd]
         · rw [if_neg h4]
end Go.Proofs.YtcbiedonmibfaaaGreatDoor
namespace Go.Proofs.YtcbiedonmibfaaaGreatDoor
def hxE (n : Nat) : Nat := if n < 10 then 48 + n else 87 + n
def twoE (c : Nat) : List Nat := [hxE (c / 16), hxE (c % 16)]
def hexE (l : List Nat) : List Nat := l.flatMap twoE
def dgE (c : Nat) : Option Nat := if 48 ≤ c ∧ c ≤ 57 then some (c - 48) else if 97 ≤ c ∧ c ≤ 102 then some (c - 87) else if 65 ≤ c ∧ c ≤ 70 then some (c - 55) else none
def pairE (a b : Nat) : Option Nat := match dgE a, dgE b with
 | some x, some y => some (x * 16 + y)
 | _, _ => none
def unhexE : List Nat → Option (List Nat)
 | [] => some []
 | [_] => none
 | a :: b :: t => (pairE a b).bind fun x => (unhexE t).map (x :: ·)
def filt1 (r : Bool) (c : Nat) : List Nat := if c = 42 ∨ c = 40 ∨ c = 41 ∨ c = 92 ∨ c = 0 ∨ 127 < c ∧ r = false then 92 :: twoE c else [c]
def filterE (r : Bool) (l : List Nat) : List Nat := l.flatMap (filt1 r)
def unfE : List Nat → Option (List Nat)
 | [] => some []
 | c :: t => if c = 42 ∨ c = 40 ∨ c = 41 ∨ c = 0 then none else if c = 92 then match t with
    | a :: b :: u => (pairE a b).bind fun x => (unfE u).map (x :: ·)
    | _ => none
   else (unfE t).map (c :: ·)
def stopE (c : Nat) : Bool := decide (c = 34 ∨ c = 43 ∨ c = 44 ∨ c = 59 ∨ c = 60 ∨ c = 61 ∨ c = 62)
def put1 (r f e : Bool) (c : Nat) : List Nat :=
 if stopE c = true ∨ c = 92 ∨ c = 32 ∧ (f = true ∨ e = true) ∨ c = 35 ∧ f = true then [92, c]
 else if c < 32 ∨ c = 127 ∨ 127 < c ∧ r = false then 92 :: twoE c
 else [c]
def putE (r : Bool) : Bool → List Nat → List Nat
 | _, [] => []
 | f, c :: t => put1 r f t.isEmpty c ++ putE r false t
theorem hx_small : ∀ n < 16, (48 ≤ hxE n ∧ hxE n ≤ 57 ∨ 97 ≤ hxE n ∧ hxE n ≤ 102) ∧ dgE (hxE n) = some n := by decide
theorem hx_form (n : Nat) (h : n < 16) : 48 ≤ hxE n ∧ hxE n ≤ 57 ∨ 97 ≤ hxE n ∧ hxE n ≤ 102 := (hx_small n h).1
theorem pair_two {c : Nat} (h : c < 256) : pairE (hxE (c / 16)) (hxE (c % 16)) = some c := by
 unfold pairE
 rw [(hx_small (c / 16) (by omega)).2, (hx_small (c % 16) (by omega)).2]
 show some (c / 16 * 16 + c % 16) = some c
 rw [show c / 16 * 16 + c % 16 = c from by omega]
def byE (l : List Nat) : Prop := ∀ c ∈ l, c < 256
theorem byE.tail {c : Nat} {l : List Nat} (h : byE (c :: l)) : byE l := fun d hd => h d (List.mem_cons_of_mem _ hd)
theorem byE.head {c : Nat} {l : List Nat} (h : byE (c :: l)) : c < 256 := h c List.mem_cons_self
theorem unhex_hex : ∀ (l : List Nat), byE l → unhexE (hexE l) = some l
 | [], _ => rfl
 | c :: l, h => by
   show unhexE (hxE (c / 16) :: hxE (c % 16) :: hexE l) = _
   unfold unhexE
   rw [pair_two h.head, unhex_hex l h.tail]
   rfl
theorem filter_app (r : Bool) (a b : List Nat) : filterE r (a ++ b) = filterE r a ++ filterE r b := List.flatMap_append
theorem filter_cons (r : Bool) (c : Nat) (l : List Nat) : filterE r (c :: l) = filt1 r c ++ filterE r l := List.flatMap_cons
theorem unf_esc (a b : Nat) (u : List Nat) : unfE (92 :: a :: b :: u) = (pairE a b).bind fun x => (unfE u).map (x :: ·) := by
 conv => lhs; unfold unfE
 rw [if_neg (by decide), if_pos rfl]
theorem unf_own (c : Nat) (u : List Nat) (h : ¬ (c = 42 ∨ c = 40 ∨ c = 41 ∨ c = 0)) (h2 : c ≠ 92) : unfE (c :: u) = (unfE u).map (c :: ·) := by
 conv => lhs; unfold unfE
 rw [if_neg h, if_neg h2]
theorem unf_filter (r : Bool) (t : List Nat) : ∀ (l : List Nat), byE l → unfE (filterE r l ++ t) = (unfE t).map (l ++ ·)
 | [], _ => by
   show unfE t = _
   cases unfE t <;> rfl
 | c :: l, h => by
   rw [filter_cons, List.append_assoc]
   have ih := unf_filter r t l h.tail
   unfold filt1
   split
   · show unfE (92 :: hxE (c / 16) :: hxE (c % 16) :: (filterE r l ++ t)) = _
     rw [unf_esc, pair_two h.head, ih]
     cases unfE t <;> rfl
   · rename_i hn
     show unfE (c :: (filterE r l ++ t)) = _
     rw [unf_own _ _ (by omega) (by omega), ih]
     cases unfE t <;> rfl
theorem unf_back (r : Bool) (l : List Nat) (h : byE l) : unfE (filterE r l) = some l := by
 have := unf_filter r [] l h
 rw [List.append_nil] at this
 rw [this]
 show some (l ++ []) = _
 rw [List.append_nil]
theorem filter_len (r : Bool) (l : List Nat) : l.length ≤ (filterE r l).length ∧ (filterE r l).length ≤ 3 * l.length := by
 induction l with
 | nil => exact ⟨Nat.le_refl _, Nat.le_refl _⟩
 | cons c l ih =>
   rw [filter_cons, List.length_append, List.length_cons]
   have : 1 ≤ (filt1 r c).length ∧ (filt1 r c).length ≤ 3 := by
    unfold filt1
    split <;> simp [twoE]
   omega
theorem filter_plain (r : Bool) (l : List Nat) (h : byE l) : ∀ c ∈ filterE r l, ¬ (c = 42 ∨ c = 40 ∨ c = 41 ∨ c = 0) ∧ c < 256 := by
 intro c hc
 unfold filterE at hc
 obtain ⟨d, hd, hm⟩ := List.mem_flatMap.1 hc
 have hb := h d hd
 unfold filt1 at hm
 split at hm
 · have h1 := hx_form (d / 16) (by omega)
   have h2 := hx_form (d % 16) (by omega)
   rcases List.mem_cons.1 hm with rfl | hm
   · omega
   · rcases List.mem_cons.1 hm with rfl | hm
     · omega
     · rw [List.mem_singleton] at hm
       omega
 · rw [List.mem_singleton] at hm
   omega
end Go.Proofs.YtcbiedonmibfaaaGreatDoor
namespace Go.Proofs.YtcbiedonmibfaaaGreatDoor
open Go.Lib
def isDig (c : UInt8) : Bool := decide (48 ≤ c.toNat) && decide (c.toNat ≤ 57)
def dv (c : UInt8) : Nat := c.toNat - 48
def natV (l : List UInt8) : Nat := l.foldl (fun a c => a * 10 + dv c) 0
def digsL (l : List UInt8) : Bool := l.all isDig
def validL (l : List UInt8) : Bool :=
 match l with
 | [] => false
 | c :: r => if c = 45 then !r.isEmpty && digsL r else digsL (c :: r)
def valL (l : List UInt8) : Int :=
 match l with
 | [] => 0
 | c :: r => if c = 45 then -(natV r : Int) else (natV (c :: r) : Int)
theorem natV_foldl (l : List UInt8) : ∀ a : Nat, l.foldl (fun a c => a * 10 + dv c) a = a * 10 ^ l.length + natV l := by
 unfold natV
 induction l with
 | nil => intro a; simp
 | cons c r ih =>
   intro a
   rw [List.foldl_cons, List.foldl_cons, ih (a * 10 + dv c), ih (0 * 10 + dv c), List.length_cons, Nat.pow_succ, Nat.add_mul, Nat.zero_mul, Nat.zero_add, Nat.mul_assoc, Nat.mul_comm 10, ← Nat.add_assoc]
theorem natV_cons (c : UInt8) (r : List UInt8) : natV (c :: r) = dv c * 10 ^ r.length + natV r := by
 rw [natV, List.foldl_cons, natV_foldl, Nat.zero_mul, Nat.zero_add]
theorem natV_snoc (l : List UInt8) (c : UInt8) : natV (l ++ [c]) = natV l * 10 + dv c := by simp [natV]
theorem natV_lt : ∀ l : List UInt8, digsL l = true → natV l < 10 ^ l.length
 | [], _ => by simp [natV]
 | c :: r, h => by
   simp only [digsL, List.all_cons, Bool.and_eq_true, isDig, decide_eq_true_eq] at h
   have := natV_lt r (by simpa [digsL] using h.2)
   rw [natV_cons, List.length_cons, Nat.pow_succ]
   have hd : dv c ≤ 9 := by unfold dv; omega
   have := Nat.mul_le_mul_right (10 ^ r.length) hd
   omega
theorem dig_ofNat (d : Nat) (h : d < 10) : (UInt8.ofNat (48 + d)).toNat = 48 + d := by
 rw [UInt8.toNat_ofNat', Nat.mod_eq_of_lt (by omega)]
theorem dv_ofNat (d : Nat) (h : d < 10) : dv (UInt8.ofNat (48 + d)) = d := by
 unfold dv
 rw [dig_ofNat d h]
 omega
theorem ofNat_dv (c : UInt8) (h : isDig c = true) : UInt8.ofNat (48 + dv c) = c := by
 simp only [isDig, Bool.and_eq_true, decide_eq_true_eq] at h
 apply UInt8.toNat_inj.1
 have : dv c < 10 := by unfold dv; omega
 rw [dig_ofNat _ this]
 unfold dv
 omega
theorem decDigits_small {u : Nat} (h : u < 10) : decDigits u = [UInt8.ofNat (48 + u)] := by rw [decDigits, dif_pos h]
theorem decDigits_big {u : Nat} (h : ¬ u < 10) : decDigits u = decDigits (u / 10) ++ [UInt8.ofNat (48 + u % 10)] := by rw [decDigits, dif_neg h]
theorem natV_dec (u : Nat) : natV (decDigits u) = u := by
 induction u using Nat.strongRecOn with
 | _ u ih =>
   by_cases h : u < 10
   · rw [decDigits_small h, natV_cons, dv_ofNat u h]
     simp [natV]
   · rw [decDigits_big h, natV_snoc, ih (u / 10) (by omega), dv_ofNat _ (by omega)]
     omega
theorem digs_dec (u : Nat) : digsL (decDigits u) = true := by
 induction u using Nat.strongRecOn with
 | _ u ih =>
   by_cases h : u < 10
   · rw [decDigits_small h, digsL, List.all_cons, isDig, dig_ofNat u h]
     simp
     omega
   · rw [decDigits_big h]
     have := ih (u / 10) (by omega)
     simp only [digsL, List.all_append, Bool.and_eq_true] at this ⊢
     refine ⟨this, ?_⟩
     rw [List.all_cons, isDig, dig_ofNat (u % 10) (by omega)]
     simp
     omega
theorem dec_ne (u : Nat) : decDigits u ≠ [] := by
 intro h
 have := decDigits_length u
 rw [h] at this
 have h1 := nDigits_pos u
 simp at this
 omega
theorem head_app {m : List UInt8} (h : m ≠ []) (x : List UInt8) : (m ++ x).head? = m.head? := by
 cases m with
 | nil => exact absurd rfl h
 | cons => rfl
def Canon (l : List UInt8) : Prop := l ≠ [] ∧ digsL l = true ∧ (l.length = 1 ∨ l.head? ≠ some 48)
theorem canon_pos {l : List UInt8} (h : Canon l) (h1 : l.length ≠ 1) : 1 ≤ natV l := by
 obtain ⟨h0, hd, hh⟩ := h
 rcases l with _ | ⟨c, r⟩
 · exact absurd rfl h0
 · have hc : c ≠ 48 := by
    rcases hh with hh | hh
    · exact absurd hh h1
    · simpa using hh
   simp only [digsL, List.all_cons, Bool.and_eq_true, isDig, decide_eq_true_eq] at hd
   rw [natV_cons]
   have : 1 ≤ dv c := by
    unfold dv
    have : c.toNat ≠ 48 := fun e => hc (UInt8.toNat_inj.1 (by rw [e]; rfl))
    omega
   have := Nat.mul_le_mul this (Nat.one_le_pow r.length 10 (by decide))
   omega
theorem dec_natV (l : List UInt8) (h : Canon l) : decDigits (natV l) = l := by
 obtain ⟨n, hn⟩ : ∃ n, n = l.length := ⟨_, rfl⟩
 induction n using Nat.strongRecOn generalizing l with
 | _ n ih =>
   obtain ⟨h0, hd, hh⟩ := h
   rcases List.eq_nil_or_concat l with e | ⟨m, c, e⟩
   · exact absurd e h0
   · rw [List.concat_eq_append] at e
     subst e
     simp only [digsL, List.all_append, List.all_cons, List.all_nil, Bool.and_true, Bool.and_eq_true] at hd
     have hc9 : dv c < 10 := by
      have := hd.2
      simp only [isDig, Bool.and_eq_true, decide_eq_true_eq] at this
      unfold dv
      omega
     rw [natV_snoc]
     by_cases hm : m = []
     · subst hm
       rw [show natV [] * 10 + dv c = dv c from by simp [natV], decDigits_small hc9, ofNat_dv c hd.2]
       rfl
     · have hlen : 1 ≤ m.length := by
        rcases m with _ | ⟨a, m⟩
        · exact absurd rfl hm
        · simp
       have hhm : m.head? ≠ some 48 := by
        rcases hh with hh | hh
        · rw [List.length_append, List.length_singleton] at hh
          omega
        · rw [head_app hm] at hh
          exact hh
       have hcm : Canon m := ⟨hm, hd.1, .inr hhm⟩
       have hp : 1 ≤ natV m := by
        by_cases h1 : m.length = 1
        · rcases m with _ | ⟨a, m⟩
          · exact absurd rfl hm
          · have : m = [] := List.eq_nil_of_length_eq_zero (by simpa using h1)
            subst this
            have ha : a ≠ 48 := by simpa using hhm
            have hda := hd.1
            simp only [List.all_cons, List.all_nil, Bool.and_true, isDig, Bool.and_eq_true, decide_eq_true_eq] at hda
            have : a.toNat ≠ 48 := fun e => ha (UInt8.toNat_inj.1 (by rw [e]; rfl))
            rw [natV_cons]
            unfold dv
            simp
            omega
        · exact canon_pos hcm h1
       rw [decDigits_big (by omega), show (natV m * 10 + dv c) / 10 = natV m from by omega, show (natV m * 10 + dv c) % 10 = dv c from by omega, ofNat_dv c hd.2,
        ih m.length (by rw [hn, List.length_append, List.length_singleton]; omega) m hcm rfl]
theorem canon_dec (u : Nat) : Canon (decDigits u) := by
 refine ⟨dec_ne u, digs_dec u, ?_⟩
 induction u using Nat.strongRecOn with
 | _ u ih =>
   by_cases h : u < 10
   · left
     rw [decDigits_small h]
     rfl
   · right
     rw [decDigits_big h, head_app (dec_ne _)]
     rcases ih (u / 10) (by omega) with h1 | h1
     · by_cases h2 : u / 10 < 10
       · rw [decDigits_small h2]
         simp only [List.head?_cons, ne_eq, Option.some.injEq]
         intro e
         have := congrArg UInt8.toNat e
         rw [dig_ofNat _ h2] at this
         have h48 : (48 : UInt8).toNat = 48 := rfl
         omega
       · rw [decDigits_length, nDigits_big h2] at h1
         have := nDigits_pos (u / 10 / 10)
         omega
     · exact h1
theorem dec_head (u : Nat) : (decDigits u).head? ≠ some 45 := by
 have h0 := dec_ne u
 have hd := digs_dec u
 rcases h : decDigits u with _ | ⟨c, r⟩
 · exact absurd h h0
 · rw [h] at hd
   simp only [digsL, List.all_cons, Bool.and_eq_true, isDig, decide_eq_true_eq] at hd
   simp only [List.head?_cons, ne_eq, Option.some.injEq]
   rintro rfl
   have : (45 : UInt8).toNat = 45 := rfl
   omega
end Go.Proofs.YtcbiedonmibfaaaGreatDoor
namespace Go.Proofs.YtcbiedonmibfaaaGreatDoor
open Go.Lib
def sp (b : UInt8) : List UInt8 → List (List UInt8)
 | [] => [[]]
 | x :: l => if x = b then [] :: sp b l else (x :: (sp b l).headD []) :: (sp b l).tail
def jn (b : UInt8) : List (List UInt8) → List UInt8
 | [] => []
 | p :: ps => p ++ ps.flatMap fun q => b :: q
theorem sp_ne (b : UInt8) : ∀ l, sp b l ≠ []
 | [] => by simp [sp]
 | x :: l => by unfold sp; split <;> simp
theorem headD_tail {α : Type} {l : List α} (h : l ≠ []) (d : α) : l.headD d :: l.tail = l := by
 cases l with
 | nil => exact absurd rfl h
 | cons a l => rfl
theorem jn_sp (b : UInt8) : ∀ l, jn b (sp b l) = l
 | [] => rfl
 | x :: l => by
   have ih := jn_sp b l
   have hne := sp_ne b l
   unfold sp
   split
   · rename_i h
     subst h
     cases hs : sp x l with
     | nil => exact absurd hs hne
     | cons p ps =>
       rw [hs] at ih
       simp only [jn, List.nil_append, List.flatMap_cons] at ih ⊢
       rw [List.cons_append, ih]
   · cases hs : sp b l with
     | nil => exact absurd hs hne
     | cons p ps =>
       rw [hs] at ih
       simp only [jn, List.headD_cons, List.tail_cons] at ih ⊢
       rw [List.cons_append, ih]
def canonB (l : List UInt8) : Bool := !l.isEmpty && digsL l && (l.length == 1 || l.head? != some 48)
theorem canonB_iff (l : List UInt8) : canonB l = true ↔ Canon l := by
 unfold canonB Canon
 simp [and_assoc]
def arcV (l : List UInt8) : Option Nat := if canonB l && l.length ≤ 10 then some (natV l) else none
theorem arcV_some {l : List UInt8} {n : Nat} (h : arcV l = some n) : decDigits n = l ∧ l.length ≤ 10 ∧ n < 10000000000 := by
 unfold arcV at h
 split at h
 · rename_i h1
   rw [Bool.and_eq_true, canonB_iff, decide_eq_true_eq] at h1
   injection h with h
   subst h
   refine ⟨dec_natV l h1.1, h1.2, ?_⟩
   have := natV_lt l h1.1.2.1
   have h2 : 10 ^ l.length ≤ 10 ^ 10 := Nat.pow_le_pow_right (by omega) h1.2
   omega
 · cases h
def okA : List Nat → Bool
 | a :: b :: r => (a ≤ 2 && (2 ≤ a || b ≤ 39)) && r.length ≤ 14
 | _ => false
def arcsO (l : List UInt8) : Option (List Nat) := if l.length ≤ 200 then ((sp 46 l).mapM arcV).filter okA else none
theorem mapM_get {α β : Type} (f : α → Option β) : ∀ (l : List α) (r : List β), l.mapM f = some r → l.length = r.length ∧ ∀ i (h : i < l.length) (h2 : i < r.length), f l[i] = some r[i]
 | [], r, h => by
   simp at h
   subst h
   exact ⟨rfl, fun i h => absurd h (by simp)⟩
 | a :: l, r, h => by
   rw [List.mapM_cons] at h
   cases ha : f a with
   | none => rw [ha] at h; cases h
   | some b =>
     rw [ha] at h
     cases hl : l.mapM f with
     | none => rw [hl] at h; cases h
     | some q =>
       rw [hl] at h
       injection h with h
       subst h
       obtain ⟨h1, h2⟩ := mapM_get f l q hl
       refine ⟨by simp [h1], fun i hi hi2 => ?_⟩
       cases i with
       | zero => exact ha
       | succ i => exact h2 i (by simpa using hi) (by simpa using hi2)
def txA (L : List Nat) : List UInt8 := jn 46 (L.map decDigits)
theorem arcsO_some {l : List UInt8} {L : List Nat} (h : arcsO l = some L) : txA L = l ∧ okA L = true ∧ (∀ n ∈ L, n < 10000000000) ∧ l.length ≤ 200 := by
 unfold arcsO at h
 split at h
 · rename_i h200
   rw [Option.filter_eq_some_iff] at h
   obtain ⟨h1, h2⟩ := h
   obtain ⟨h3, h4⟩ := mapM_get arcV _ _ h1
   refine ⟨?_, h2, fun n hn => ?_, h200⟩
   · have e : L.map decDigits = sp 46 l := by
      refine List.ext_getElem (by rw [List.length_map, h3]) fun i h5 h6 => ?_
      rw [List.getElem_map]
      exact (arcV_some (h4 i h6 (by simpa using h5))).1
     unfold txA
     rw [e, jn_sp]
   · obtain ⟨i, hi, rfl⟩ := List.getElem_of_mem hn
     exact (arcV_some (h4 i (by omega) hi)).2.2
 · cases h
theorem dec_len {n : Nat} (h : n < 10000000000) : (decDigits n).length ≤ 10 := by
 have hc := canon_dec n
 have h2 := natV_dec n
 rcases Nat.lt_or_ge 10 (decDigits n).length with h3 | h3
 · exfalso
   have h4 := canon_pos hc (by omega)
   cases hd : decDigits n with
   | nil => rw [hd] at h3; simp at h3
   | cons c r =>
     rw [hd] at hc h2 h3
     have h5 : dv c ≠ 0 := by
      intro e
      have h6 := hc.2.2
      rcases h6 with h6 | h6
      · omega
      · refine h6 ?_
        have h7 : isDig c = true := by
         have := hc.2.1
         unfold digsL at this
         rw [List.all_cons, Bool.and_eq_true] at this
         exact this.1
        have h8 := ofNat_dv c h7
        rw [e] at h8
        rw [List.head?_cons, ← h8]
        rfl
     rw [natV_cons] at h2
     have h9 : 10 ^ 10 ≤ 10 ^ r.length := Nat.pow_le_pow_right (by omega) (by simp at h3; omega)
     have h10 : 1 * 10 ^ r.length ≤ dv c * 10 ^ r.length := Nat.mul_le_mul_right _ (by omega)
     omega
 · exact h3
theorem arcV_dec {n : Nat} (h : n < 10000000000) : arcV (decDigits n) = some n := by
 unfold arcV
 rw [if_pos, natV_dec]
 rw [Bool.and_eq_true, canonB_iff, decide_eq_true_eq]
 exact ⟨canon_dec n, dec_len h⟩
theorem mapM_dec : ∀ L : List Nat, (∀ n ∈ L, n < 10000000000) → (L.map decDigits).mapM arcV = some L
 | [], _ => rfl
 | n :: L, h => by
   rw [List.map_cons, List.mapM_cons, arcV_dec (h n List.mem_cons_self), mapM_dec L (fun m hm => h m (List.mem_cons_of_mem _ hm))]
   rfl
theorem txA_len : ∀ L : List Nat, (∀ n ∈ L, n < 10000000000) → (txA L).length + 1 ≤ L.length * 11 + 1
 | [], _ => by simp [txA, jn]
 | n :: L, h => by
   have h1 := dec_len (h n List.mem_cons_self)
   have h2 : ∀ M : List Nat, (∀ n ∈ M, n < 10000000000) → ((M.map decDigits).flatMap fun q => (46 : UInt8) :: q).length ≤ M.length * 11 := by
    intro M
    induction M with
    | nil => exact fun _ => Nat.le_refl _
    | cons m M ih =>
      intro hM
      have := ih (fun n hn => hM n (List.mem_cons_of_mem _ hn))
      have h3 := dec_len (hM m List.mem_cons_self)
      simp only [List.map_cons, List.flatMap_cons, List.length_append, List.length_cons]
      omega
   have h4 := h2 L (fun m hm => h m (List.mem_cons_of_mem _ hm))
   unfold txA jn
   simp only [List.map_cons, List.length_append, List.length_cons]
   omega
theorem okA_len {L : List Nat} (h : okA L = true) : 2 ≤ L.length ∧ L.length ≤ 16 := by
 match L, h with
 | a :: b :: r, h =>
   simp only [okA, Bool.and_eq_true, decide_eq_true_eq] at h
   simp only [List.length_cons]
   omega
def svHi (n : Nat) : List Nat := if h : n < 128 then [n + 128] else svHi (n / 128) ++ [n % 128 + 128]
termination_by n
decreasing_by omega
def sv (n : Nat) : List Nat := if n < 128 then [n] else svHi (n / 128) ++ [n % 128]
end Go.Proofs.YtcbiedonmibfaaaGreatDoor
namespace Go.Proofs.YtcbiedonmibfaaaGreatDoor
open Go.Lib
theorem bl_irrefl : ∀ x : List UInt8, Op.bytesLess x x = false
 | [] => rfl
 | a :: x => by
   unfold Op.bytesLess
   rw [bl_irrefl x]
   simp
theorem bl_trans : ∀ x y z : List UInt8, Op.bytesLess x y = true → Op.bytesLess y z = true → Op.bytesLess x z = true
 | _, [], _, h, _ => by unfold Op.bytesLess at h; cases h
 | _, _ :: _, [], _, h => by unfold Op.bytesLess at h; cases h
 | [], _ :: _, _ :: _, _, _ => rfl
 | a :: x, b :: y, c :: z, h1, h2 => by
   unfold Op.bytesLess at h1 h2 ⊢
   have ih := bl_trans x y z
   simp only [Bool.or_eq_true, Bool.and_eq_true, decide_eq_true_eq, beq_iff_eq, UInt8.lt_iff_toNat_lt, ← UInt8.toNat_inj] at h1 h2 ⊢
   rcases h1 with h1 | h1 <;> rcases h2 with h2 | h2
   · exact .inl (by omega)
   · exact .inl (by omega)
   · exact .inl (by omega)
   · exact .inr ⟨by omega, ih h1.2 h2.2⟩
theorem bl_total : ∀ x y : List UInt8, Op.bytesLess x y = false → x ≠ y → Op.bytesLess y x = true
 | [], [], _, h => absurd rfl h
 | [], _ :: _, h, _ => by unfold Op.bytesLess at h; cases h
 | _ :: _, [], _, _ => rfl
 | a :: x, b :: y, h1, h2 => by
   have ih := bl_total x y
   unfold Op.bytesLess at h1 ⊢
   simp only [Bool.or_eq_false_iff, Bool.and_eq_false_iff, decide_eq_false_iff_not, beq_eq_false_iff_ne, ne_eq, Bool.or_eq_true, Bool.and_eq_true, decide_eq_true_eq, beq_iff_eq, UInt8.lt_iff_toNat_lt, ← UInt8.toNat_inj] at h1 ⊢
   by_cases h : a.toNat = b.toNat
   · rcases h1.2 with h3 | h3
     · exact absurd h h3
     · refine .inr ⟨h.symm, ih h3 (fun e => h2 ?_)⟩
       rw [e, UInt8.toNat_inj.1 h]
   · exact .inl (by omega)
def low (c : UInt8) : UInt8 := if decide (65 ≤ c.toNat) && decide (c.toNat ≤ 90) then UInt8.ofNat (c.toNat + 32) else c
def lowL (l : List UInt8) : List UInt8 := l.map low
theorem low_low (c : UInt8) : low (low c) = low c := by
 have h : ∀ n, n < 256 → low (low (UInt8.ofNat n)) = low (UInt8.ofNat n) := by decide +kernel
 have := h c.toNat c.toNat_lt
 rwa [UInt8.ofNat_toNat] at this
def letterB (c : UInt8) : Bool := (decide (97 ≤ c.toNat) && decide (c.toNat ≤ 122)) || (decide (65 ≤ c.toNat) && decide (c.toNat ≤ 90))
def signB (c : UInt8) : Bool := letterB c || (decide (48 ≤ c.toNat) && decide (c.toNat ≤ 57)) || c == 45
def signsB (l : List UInt8) : Bool := l.all signB && decide (0 < l.length)
def wordB (l : List UInt8) : Bool := decide (1 ≤ l.length) && decide (l.length ≤ 64) && letterB (l.headD 0) && signsB l
def ins (x : List UInt8) : List (List UInt8) → List (List UInt8)
 | [] => [x]
 | y :: r => if Op.bytesLess y x then y :: ins x r else if y = x then y :: r else x :: y :: r
def opts (L : List (List UInt8)) : List (List UInt8) := L.foldl (fun O x => ins x O) []
def descO (l : List UInt8) : Option (List UInt8 × List (List UInt8)) :=
 if 64 < l.length then none
 else if ((arcsO ((sp 59 (lowL l)).headD [])).isSome || wordB ((sp 59 (lowL l)).headD [])) && (sp 59 (lowL l)).tail.all signsB then some ((sp 59 (lowL l)).headD [], opts (sp 59 (lowL l)).tail)
 else none
def Asc : List (List UInt8) → Prop
 | [] => True
 | x :: r => (∀ y ∈ r, Op.bytesLess x y = true) ∧ Asc r
theorem ins_mem (x : List UInt8) : ∀ (L : List (List UInt8)) (y : List UInt8), y ∈ ins x L → y = x ∨ y ∈ L
 | [], y, h => by simpa [ins] using h
 | z :: r, y, h => by
   unfold ins at h
   split at h
   · rcases List.mem_cons.1 h with rfl | h
     · exact .inr List.mem_cons_self
     · rcases ins_mem x r y h with h | h
       · exact .inl h
       · exact .inr (List.mem_cons_of_mem _ h)
   · split at h
     · exact .inr h
     · rcases List.mem_cons.1 h with rfl | h
       · exact .inl rfl
       · exact .inr h
theorem ins_asc (x : List UInt8) : ∀ L, Asc L → Asc (ins x L)
 | [], _ => ⟨fun y h => by simp at h, trivial⟩
 | y :: r, h => by
   unfold ins
   split
   · rename_i h1
     refine ⟨fun z hz => ?_, ins_asc x r h.2⟩
     rcases ins_mem x r z hz with rfl | hz
     · exact h1
     · exact h.1 z hz
   · rename_i h1
     split
     · exact h
     · rename_i h2
       have h3 := bl_total y x (by simpa using h1) h2
       refine ⟨fun z hz => ?_, h⟩
       rcases List.mem_cons.1 hz with rfl | hz
       · exact h3
       · exact bl_trans x y z h3 (h.1 z hz)
theorem foldl_asc : ∀ (L O : List (List UInt8)), Asc O → Asc (L.foldl (fun O x => ins x O) O)
 | [], _, h => h
 | x :: L, O, h => foldl_asc L (ins x O) (ins_asc x O h)
theorem opts_asc (L : List (List UInt8)) : Asc (opts L) := foldl_asc L [] trivial
theorem foldl_mem : ∀ (L O : List (List UInt8)) (y : List UInt8), y ∈ L.foldl (fun O x => ins x O) O → y ∈ L ∨ y ∈ O
 | [], _, _, h => .inr h
 | x :: L, O, y, h => by
   rcases foldl_mem L (ins x O) y h with h | h
   · exact .inl (List.mem_cons_of_mem _ h)
   · rcases ins_mem x O y h with rfl | h
     · exact .inl List.mem_cons_self
     · exact .inr h
theorem opts_mem {L : List (List UInt8)} {y : List UInt8} (h : y ∈ opts L) : y ∈ L := by
 rcases foldl_mem L [] y h with h | h
 · exact h
 · simp at h
def wt (L : List (List UInt8)) : Nat := (L.flatMap fun q => (59 : UInt8) :: q).length
theorem wt_cons (x : List UInt8) (L : List (List UInt8)) : wt (x :: L) = x.length + 1 + wt L := by
 unfold wt
 simp only [List.flatMap_cons, List.length_append, List.length_cons]
theorem wt_ins (x : List UInt8) : ∀ L, wt (ins x L) ≤ x.length + 1 + wt L
 | [] => by rw [ins, wt_cons]; exact Nat.le_refl _
 | y :: r => by
   unfold ins
   have := wt_ins x r
   split
   · rw [wt_cons, wt_cons]
     omega
   · split
     · omega
     · rw [wt_cons]
       exact Nat.le_refl _
theorem wt_fold : ∀ L O : List (List UInt8), wt (L.foldl (fun O x => ins x O) O) ≤ wt L + wt O
 | [], O => by show wt O ≤ 0 + wt O; omega
 | x :: L, O => by
   have h1 := wt_fold L (ins x O)
   have h2 := wt_ins x O
   rw [List.foldl_cons, wt_cons]
   omega
theorem wt_opts (L : List (List UInt8)) : wt (opts L) ≤ wt L := by
 have := wt_fold L []
 unfold opts
 have h : wt [] = 0 := rfl
 omega
def dtx (q : List UInt8 × List (List UInt8)) : List UInt8 := jn 59 (q.1 :: q.2)
theorem low_parts (l : List UInt8) : ∀ p ∈ sp 59 (lowL l), lowL p = p := by
 intro p hp
 have h1 := jn_sp 59 (lowL l)
 have h2 : ∀ (P : List (List UInt8)), p ∈ P → ∀ c ∈ p, c ∈ jn 59 P := by
  intro P hP c hc
  cases P with
  | nil => simp at hP
  | cons q Q =>
    show c ∈ q ++ Q.flatMap fun q => (59 : UInt8) :: q
    rcases List.mem_cons.1 hP with rfl | hP
    · exact List.mem_append_left _ hc
    · exact List.mem_append_right _ (List.mem_flatMap.2 ⟨p, hP, List.mem_cons_of_mem _ hc⟩)
 have h3 : ∀ c ∈ p, low c = c := fun c hc => by
  have := h2 _ hp c hc
  rw [h1] at this
  obtain ⟨d, _, rfl⟩ := List.mem_map.1 this
  exact low_low d
 unfold lowL
 exact (List.map_congr_left h3).trans (by simp)
theorem desc_parts {l : List UInt8} {q : List UInt8 × List (List UInt8)} (h : descO l = some q) : l.length ≤ 64 ∧ ((arcsO q.1).isSome || wordB q.1) = true ∧ (sp 59 (lowL l)).tail.all signsB = true ∧ q.1 = (sp 59 (lowL l)).headD [] ∧ q.2 = opts (sp 59 (lowL l)).tail := by
 unfold descO at h
 split at h
 · cases h
 · split at h
   · rename_i h1 h2
     injection h with h
     subst h
     rw [Bool.and_eq_true] at h2
     exact ⟨by omega, h2.1, h2.2, rfl, rfl⟩
   · cases h
theorem desc_mem {l : List UInt8} {q : List UInt8 × List (List UInt8)} (h : descO l = some q) : ∀ p ∈ q.1 :: q.2, p ∈ sp 59 (lowL l) := by
 obtain ⟨_, _, _, h4, h5⟩ := desc_parts h
 intro p hp
 have hne := headD_tail (sp_ne 59 (lowL l)) []
 rcases List.mem_cons.1 hp with rfl | hp
 · rw [← hne, ← h4]
   exact List.mem_cons_self
 · rw [h5] at hp
   rw [← hne]
   exact List.mem_cons_of_mem _ (opts_mem hp)
theorem dtx_low {l : List UInt8} {q : List UInt8 × List (List UInt8)} (h : descO l = some q) : lowL (dtx q) = dtx q := by
 have hm := desc_mem h
 have hl : ∀ p ∈ q.1 :: q.2, lowL p = p := fun p hp => low_parts l p (hm p hp)
 have hc : ∀ c ∈ dtx q, low c = c := by
  have each : ∀ p ∈ q.1 :: q.2, ∀ c ∈ p, low c = c := fun p hp c hc => by
   have := hl p hp
   unfold lowL at this
   obtain ⟨i, hi, rfl⟩ := List.getElem_of_mem hc
   have h2 := congrArg (fun z => z[i]?) this
   simp only [List.getElem?_map] at h2
   rw [List.getElem?_eq_getElem hi] at h2
   injection h2
  intro c hc
  unfold dtx jn at hc
  rcases List.mem_append.1 hc with hc | hc
  · exact each q.1 List.mem_cons_self c hc
  · obtain ⟨p, hp, hc⟩ := List.mem_flatMap.1 hc
    rcases List.mem_cons.1 hc with rfl | hc
    · decide
    · exact each p (List.mem_cons_of_mem _ hp) c hc
 unfold lowL
 exact (List.map_congr_left hc).trans (by simp)
theorem dtx_len {l : List UInt8} {q : List UInt8 × List (List UInt8)} (h : descO l = some q) : (dtx q).length ≤ l.length := by
 obtain ⟨_, _, _, h4, h5⟩ := desc_parts h
 have hne := headD_tail (sp_ne 59 (lowL l)) []
 have hj := jn_sp 59 (lowL l)
 rw [← hne] at hj
 have h6 := congrArg List.length hj
 unfold jn at h6
 rw [List.length_append] at h6
 have h7 : (lowL l).length = l.length := by simp [lowL]
 have h8 := wt_opts (sp 59 (lowL l)).tail
 unfold wt at h8
 unfold dtx jn
 rw [List.length_append, h4, h5]
 omega
end Go.Proofs.YtcbiedonmibfaaaGreatDoor
namespace Go.Proofs.YtcbiedonmibfaaaGreatDoor
open Go.Lib
inductive Gl where
 | nil : Gl
 | cons (k : Int) (g : Gl) (t v a z : List UInt8) (b : List (List UInt8)) (nx : Gl) : Gl
structure Ft where
 k : Int
 g : Gl
 t : List UInt8
 v : List UInt8
 a : List UInt8
 z : List UInt8
 b : List (List UInt8)
def Gl.list : Gl → List Ft
 | .nil => []
 | .cons k g t v a z b nx => ⟨k, g, t, v, a, z, b⟩ :: nx.list
def Ft.kids (f : Ft) : List Ft := f.g.list
def Gl.of : List Ft → Gl
 | [] => .nil
 | f :: r => .cons f.k f.g f.t f.v f.a f.z f.b (Gl.of r)
theorem Gl.of_list : ∀ g : Gl, Gl.of g.list = g
 | .nil => rfl
 | .cons k g t v a z b nx => by rw [Gl.list, Gl.of, Gl.of_list nx]
theorem Gl.list_of : ∀ l : List Ft, (Gl.of l).list = l
 | [] => rfl
 | f :: r => by rw [Gl.of, Gl.list, Gl.list_of r]
theorem Ft.ind {Q : Ft → Prop} (h : ∀ f, (∀ f' ∈ f.kids, Q f') → Q f) (f : Ft) : Q f := by
 have all : ∀ g : Gl, ∀ f ∈ g.list, Q f := by
  intro g
  induction g with
  | nil => intro f hf; cases hf
  | cons k g t v a z b nx ihg ihn =>
    intro f hf
    rcases List.mem_cons.1 hf with rfl | hf
    · exact h _ ihg
    · exact ihn f hf
 exact h f (all f.g)
def Gl.num : Gl → Nat
 | .nil => 0
 | .cons _ g _ _ _ _ _ nx => g.num + 1 + nx.num
def Ft.num (f : Ft) : Nat := f.g.num + 1
def Gl.deep : Gl → Nat
 | .nil => 0
 | .cons _ g _ _ _ _ _ nx => max (g.deep + 1) nx.deep
def Ft.deep (f : Ft) : Nat := f.g.deep + 1
def dscU (l : List UInt8) : Option (List UInt8) := (descO l).map dtx
def Ft.bare (f : Ft) : Bool := f.a.isEmpty && f.z.isEmpty && f.b.isEmpty
def Ft.one (f : Ft) : Bool :=
 if f.k < 0 ∨ 8 < f.k then false
 else if f.k < 3 then f.bare && f.t.isEmpty && f.v.isEmpty && (decide (f.k < 2) || decide (f.kids.length = 1))
 else decide (dscU f.t = some f.t) && f.kids.isEmpty && (if f.k = 4 then f.v.isEmpty && !f.bare && f.b.all (fun x => !x.isEmpty) else f.bare && (decide (f.k ≠ 7) || f.v.isEmpty))
def Gl.all : Gl → Bool
 | .nil => true
 | .cons k g t v a z b nx => (⟨k, g, t, v, a, z, b⟩ : Ft).one && g.all && nx.all
def Ft.all (f : Ft) : Bool := f.one && f.g.all
def Ft.right (f : Ft) : Bool := decide (f.num ≤ 64) && decide (f.deep ≤ 10) && f.all
theorem Gl.all_list : ∀ g : Gl, g.all = g.list.all Ft.all
 | .nil => rfl
 | .cons k g t v a z b nx => by
   rw [Gl.all, Gl.list, List.all_cons, Gl.all_list nx]
   rfl
def nb (l : List UInt8) : List Nat := l.map UInt8.toNat
def ub (l : List Nat) : List UInt8 := l.map UInt8.ofNat
theorem ub_nb (l : List UInt8) : ub (nb l) = l := by
 unfold ub nb
 rw [List.map_map]
 conv => rhs; rw [← List.map_id l]
 exact List.map_congr_left fun x _ => UInt8.ofNat_toNat
theorem nb_byte (l : List UInt8) : byE (nb l) := by
 intro c hc
 obtain ⟨x, _, rfl⟩ := List.mem_map.1 hc
 exact x.toNat_lt
theorem nb_nil {l : List UInt8} (h : nb l = []) : l = [] := by cases l with
 | nil => rfl
 | cons => simp [nb] at h
def esc (l : List UInt8) : List Nat := filterE ((uChars (nb l)).isSome) (nb l)
def unesc (l : List Nat) : Option (List UInt8) := (unfE l).map ub
theorem unesc_esc (l : List UInt8) : unesc (esc l) = some l := by
 unfold unesc esc
 rw [unf_back _ _ (nb_byte l), Option.map_some, ub_nb]
theorem esc_plain (l : List UInt8) : ∀ c ∈ esc l, ¬ (c = 42 ∨ c = 40 ∨ c = 41 ∨ c = 0) ∧ c < 256 := filter_plain _ _ (nb_byte l)
theorem esc_nil : esc [] = [] := rfl
theorem esc_len (l : List UInt8) : (esc l).length ≤ 3 * l.length := by
 have := (filter_len ((uChars (nb l)).isSome) (nb l)).2
 have h2 : (nb l).length = l.length := by simp [nb]
 rw [h2] at this
 exact this
def opn (k : Int) : List Nat := if k = 5 then [62, 61] else if k = 6 then [60, 61] else if k = 8 then [126, 61] else [61]
def Ft.rest (f : Ft) : List Nat := if f.k = 7 then [42] else if f.k = 4 then esc f.a ++ 42 :: (f.b.flatMap (fun x => esc x ++ [42]) ++ esc f.z) else esc f.v
def Ft.leaf (f : Ft) : List Nat := nb f.t ++ (opn f.k ++ f.rest)
def sgn (k : Int) : Nat := if k = 0 then 38 else if k = 1 then 124 else 33
def Gl.text : Gl → List Nat
 | .nil => []
 | .cons k g t v a z b nx => 40 :: ((if k < 3 then sgn k :: g.text else (⟨k, g, t, v, a, z, b⟩ : Ft).leaf) ++ 41 :: nx.text)
def Ft.body (f : Ft) : List Nat := if f.k < 3 then sgn f.k :: f.g.text else f.leaf
def Ft.text (f : Ft) : List Nat := 40 :: (f.body ++ [41])
theorem Gl.text_list : ∀ g : Gl, g.text = g.list.flatMap Ft.text
 | .nil => rfl
 | .cons k g t v a z b nx => by
   rw [Gl.text, Gl.list, List.flatMap_cons, Gl.text_list nx]
   show _ = (40 :: ((if k < 3 then sgn k :: g.text else (⟨k, g, t, v, a, z, b⟩ : Ft).leaf) ++ [41])) ++ _
   simp
def dch (c : UInt8) : Bool := decide (c.toNat = 45 ∨ c.toNat = 46 ∨ c.toNat = 59 ∨ 48 ≤ c.toNat ∧ c.toNat ≤ 57 ∨ 97 ≤ c.toNat ∧ c.toNat ≤ 122)
theorem low_not (c : UInt8) (h : low c = c) : ¬ (65 ≤ c.toNat ∧ c.toNat ≤ 90) := by
 have hh : ∀ n, n < 256 → low (UInt8.ofNat n) = UInt8.ofNat n → ¬ (65 ≤ n ∧ n ≤ 90) := by decide +kernel
 exact hh c.toNat c.toNat_lt (by rw [UInt8.ofNat_toNat]; exact h)
theorem sign_dch {c : UInt8} (h : signB c = true) (hl : low c = c) : dch c = true := by
 have hn := low_not c hl
 unfold signB letterB at h
 simp only [Bool.or_eq_true, Bool.and_eq_true, decide_eq_true_eq, beq_iff_eq] at h
 refine decide_eq_true ?_
 rcases h with (h | h) | h
 · rcases h with h | h
   · omega
   · omega
 · omega
 · rw [h]
   exact .inl rfl
theorem digs_dch {l : List UInt8} (h : (arcsO l).isSome = true) : ∀ c ∈ l, dch c = true := by
 obtain ⟨L, hL⟩ := Option.isSome_iff_exists.1 h
 obtain ⟨h1, _, h3, _⟩ := arcsO_some hL
 intro c hc
 rw [← h1] at hc
 unfold txA at hc
 have each : ∀ p ∈ L.map decDigits, ∀ c ∈ p, dch c = true := by
  intro p hp c hc
  obtain ⟨n, hn, rfl⟩ := List.mem_map.1 hp
  have hv := arcV_dec (h3 n hn)
  unfold arcV at hv
  split at hv
  · rename_i hcn
    rw [Bool.and_eq_true] at hcn
    have hd := hcn.1
    unfold canonB digsL at hd
    simp only [Bool.and_eq_true, List.all_eq_true] at hd
    have := hd.1.2 c hc
    unfold dch
    unfold isDig at this
    simp only [Bool.and_eq_true, decide_eq_true_eq] at this ⊢
    omega
  · cases hv
 cases hM : L.map decDigits with
 | nil => rw [hM] at hc; simp [jn] at hc
 | cons p ps =>
   rw [hM] at hc each
   unfold jn at hc
   rcases List.mem_append.1 hc with hc | hc
   · exact each p List.mem_cons_self c hc
   · obtain ⟨q, hq, hc⟩ := List.mem_flatMap.1 hc
     rcases List.mem_cons.1 hc with rfl | hc
     · decide
     · exact each q (List.mem_cons_of_mem _ hq) c hc
theorem dsc_some {l t : List UInt8} (h : dscU l = some t) : ∃ q, descO l = some q ∧ t = dtx q := by
 unfold dscU at h
 rw [Option.map_eq_some_iff] at h
 obtain ⟨q, h1, h2⟩ := h
 exact ⟨q, h1, h2.symm⟩
theorem dsc_ch {l t : List UInt8} (h : dscU l = some t) : ∀ c ∈ t, dch c = true := by
 obtain ⟨q, h1, rfl⟩ := dsc_some h
 have hl := dtx_low h1
 have hlow : ∀ c ∈ dtx q, low c = c := by
  intro c hc
  obtain ⟨i, hi, rfl⟩ := List.getElem_of_mem hc
  have h2 := congrArg (fun z => z[i]?) hl
  unfold lowL at h2
  simp only [List.getElem?_map, List.getElem?_eq_getElem hi, Option.map_some, Option.some.injEq] at h2
  exact h2
 obtain ⟨_, g2, g3, g4, g5⟩ := desc_parts h1
 intro c hc
 have hlc := hlow c hc
 unfold dtx jn at hc
 rcases List.mem_append.1 hc with hc | hc
 · rcases Bool.or_eq_true _ _ ▸ g2 with g2 | g2
   · exact digs_dch g2 c hc
   · unfold wordB signsB at g2
     simp only [Bool.and_eq_true, List.all_eq_true] at g2
     exact sign_dch (g2.2.1 c hc) hlc
 · obtain ⟨p, hp, hc⟩ := List.mem_flatMap.1 hc
   rcases List.mem_cons.1 hc with rfl | hc
   · decide
   · rw [g5] at hp
     rw [List.all_eq_true] at g3
     have := g3 p (opts_mem hp)
     unfold signsB at this
     simp only [Bool.and_eq_true, List.all_eq_true] at this
     exact sign_dch (this.1 c hc) hlc
theorem dsc_len {l t : List UInt8} (h : dscU l = some t) : t.length ≤ 64 ∧ t.length ≤ l.length := by
 obtain ⟨q, h1, rfl⟩ := dsc_some h
 have := dtx_len h1
 have := (desc_parts h1).1
 omega
theorem dsc_ne {l t : List UInt8} (h : dscU l = some t) : t ≠ [] := by
 obtain ⟨q, h1, rfl⟩ := dsc_some h
 obtain ⟨_, g2, _⟩ := desc_parts h1
 intro e
 unfold dtx jn at e
 have hq : q.1 = [] := (List.append_eq_nil_iff.1 e).1
 rw [hq] at g2
 revert g2
 decide
theorem nb_dch {t : List UInt8} (h : ∀ c ∈ t, dch c = true) : ∀ c ∈ nb t, c = 45 ∨ c = 46 ∨ c = 59 ∨ 48 ≤ c ∧ c ≤ 57 ∨ 97 ≤ c ∧ c ≤ 122 := by
 intro c hc
 obtain ⟨x, hx, rfl⟩ := List.mem_map.1 hc
 exact of_decide_eq_true (h x hx)
end Go.Proofs.YtcbiedonmibfaaaGreatDoor
namespace Go.Proofs.YtcbiedonmibfaaaGreatDoor
open Go.Lib
theorem esc_inj {l m : List UInt8} (h : esc l = esc m) : l = m := by
 have h1 := unesc_esc l
 rw [h, unesc_esc m] at h1
 injection h1 with h1
 exact h1.symm
theorem esc_star (l : List UInt8) : ∀ c ∈ esc l, c ≠ 42 := fun c hc h => (esc_plain l c hc).1 (.inl h)
structure LeafOk (f : Ft) : Prop where
 hi : f.k ≤ 8
 lo : 3 ≤ f.k
 t : dscU f.t = some f.t
 g : f.g = .nil
 v4 : f.k = 4 → f.v = []
 v7 : f.k = 7 → f.v = []
 a : f.k ≠ 4 → f.a = [] ∧ f.z = [] ∧ f.b = []
 bare : f.k = 4 → f.bare = false
 b : f.k = 4 → ∀ x ∈ f.b, x ≠ []
theorem leaf_ok {f : Ft} (h : f.one = true) (hk : ¬ f.k < 3) : LeafOk f := by
 unfold Ft.one at h
 split at h
 · cases h
 · rename_i h1
   simp only [Bool.and_eq_true, decide_eq_true_eq, List.isEmpty_iff] at h
   obtain ⟨⟨h2, h3⟩, h4⟩ := h
   have hg : f.g = .nil := by
    have := Gl.of_list f.g
    rw [show f.g.list = [] from h3] at this
    exact this.symm
   by_cases h5 : f.k = 4
   · rw [if_pos h5] at h4
     simp only [Bool.and_eq_true, List.isEmpty_iff, List.all_eq_true] at h4
     obtain ⟨⟨h6, h7⟩, h8⟩ := h4
     refine ⟨by omega, by omega, h2, hg, fun _ => h6, fun h => by omega, fun h => absurd h5 h, fun _ => by simpa using h7, fun _ x hx e => ?_⟩
     have := h8 x hx
     rw [e] at this
     cases this
   · rw [if_neg h5] at h4
     rw [Bool.and_eq_true] at h4
     obtain ⟨h6, h7⟩ := h4
     unfold Ft.bare at h6
     simp only [Bool.and_eq_true, List.isEmpty_iff] at h6
     refine ⟨by omega, by omega, h2, hg, fun h => absurd h h5, fun h => ?_, fun _ => ⟨h6.1.1, h6.1.2, h6.2⟩, fun h => absurd h h5, fun h => absurd h h5⟩
     rw [h] at h7
     simpa using h7
structure NodeOk (f : Ft) : Prop where
 lo : 0 ≤ f.k
 hi : f.k < 3
 t : f.t = []
 v : f.v = []
 a : f.a = []
 z : f.z = []
 b : f.b = []
 one : f.k = 2 → f.kids.length = 1
theorem node_ok {f : Ft} (h : f.one = true) (hk : f.k < 3) : NodeOk f := by
 unfold Ft.one at h
 split at h
 · cases h
 · rename_i h1
   unfold Ft.bare at h
   simp only [Bool.and_eq_true, Bool.or_eq_true, decide_eq_true_eq, List.isEmpty_iff] at h
   obtain ⟨⟨⟨⟨⟨ha, hz⟩, hb⟩, ht⟩, hv⟩, ho⟩ := h
   exact ⟨by omega, hk, ht, hv, ha, hz, hb, fun h2 => ho.resolve_left (by omega)⟩
def isD (c : Nat) : Prop := c = 45 ∨ c = 46 ∨ c = 59 ∨ 48 ≤ c ∧ c ≤ 57 ∨ 97 ≤ c ∧ c ≤ 122
theorem opn_head (k : Int) : ∃ c r, opn k = c :: r ∧ (c = 60 ∨ c = 61 ∨ c = 62 ∨ c = 126) := by
 unfold opn
 split
 · exact ⟨_, _, rfl, by omega⟩
 · split
   · exact ⟨_, _, rfl, by omega⟩
   · split
     · exact ⟨_, _, rfl, by omega⟩
     · exact ⟨_, _, rfl, by omega⟩
theorem rest4 {f : Ft} (h : f.k = 4) : f.rest = esc f.a ++ 42 :: (f.b.flatMap (fun x => esc x ++ [42]) ++ esc f.z) := by
 unfold Ft.rest
 rw [if_neg (by omega), if_pos h]
theorem rest7 {f : Ft} (h : f.k = 7) : f.rest = [42] := by
 unfold Ft.rest
 rw [if_pos h]
theorem restV {f : Ft} (h : f.k ≠ 7) (h4 : f.k ≠ 4) : f.rest = esc f.v := by
 unfold Ft.rest
 rw [if_neg h, if_neg h4]
theorem rest_47 {f : Ft} (hf : LeafOk f) (h : f.k = 4) (e : f.rest = [42]) : False := by
 rw [rest4 h] at e
 have h2 := hf.bare h
 have ha : esc f.a = [] := by
  cases hE : esc f.a with
  | nil => rfl
  | cons c r =>
    rw [hE] at e
    simp at e
 rw [ha] at e
 have hr : f.b.flatMap (fun x => esc x ++ [42]) ++ esc f.z = [] := by simpa using e
 obtain ⟨h3, h4⟩ := List.append_eq_nil_iff.1 hr
 have hb : f.b = [] := by
  cases hB : f.b with
  | nil => rfl
  | cons x r =>
    rw [hB, List.flatMap_cons] at h3
    simp at h3
 have ez : ∀ l : List UInt8, esc l = [] → l = [] := fun l hl => esc_inj (hl.trans esc_nil.symm)
 unfold Ft.bare at h2
 rw [ez _ ha, ez _ h4, hb] at h2
 cases h2
theorem leaf_plain {f : Ft} (hf : LeafOk f) : ∀ c ∈ f.leaf, c ≠ 40 ∧ c ≠ 41 ∧ c < 256 := by
 have he : ∀ l : List UInt8, ∀ c ∈ esc l, c ≠ 40 ∧ c ≠ 41 ∧ c < 256 := fun l c hc => by
  have := esc_plain l c hc
  omega
 intro c hc
 unfold Ft.leaf at hc
 rcases List.mem_append.1 hc with hc | hc
 · have := nb_dch (dsc_ch hf.t) c hc
   omega
 · rcases List.mem_append.1 hc with hc | hc
   · unfold opn at hc
     split at hc
     · simp at hc; omega
     · split at hc
       · simp at hc; omega
       · split at hc
         · simp at hc; omega
         · simp at hc; omega
   · unfold Ft.rest at hc
     split at hc
     · simp at hc; omega
     · split at hc
       · rcases List.mem_append.1 hc with hc | hc
         · exact he _ c hc
         · rcases List.mem_cons.1 hc with hc | hc
           · omega
           · rcases List.mem_append.1 hc with hc | hc
             · obtain ⟨x, _, hc⟩ := List.mem_flatMap.1 hc
               rcases List.mem_append.1 hc with hc | hc
               · exact he _ c hc
               · simp at hc; omega
             · exact he _ c hc
       · exact he _ c hc
theorem leaf_head {f : Ft} (hf : LeafOk f) (r : List Nat) : ∃ c, (f.leaf ++ r).head? = some c ∧ isD c := by
 have h1 := dsc_ne hf.t
 have h2 := nb_dch (dsc_ch hf.t)
 unfold Ft.leaf
 cases hn : nb f.t with
 | nil => exact absurd (nb_nil hn) h1
 | cons c s => exact ⟨c, rfl, h2 c (by rw [hn]; exact List.mem_cons_self)⟩
theorem ft_text (f : Ft) : f.text = (Gl.cons f.k f.g f.t f.v f.a f.z f.b .nil).text := by
 unfold Ft.text Ft.body
 rw [Gl.text]
 show _ = 40 :: ((if f.k < 3 then _ else f.leaf) ++ [41])
 rfl
end Go.Proofs.YtcbiedonmibfaaaGreatDoor
