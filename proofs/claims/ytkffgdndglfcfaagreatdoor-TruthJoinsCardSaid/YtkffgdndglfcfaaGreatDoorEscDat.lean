/-
  Escaping in names and filters, as data: rows of bytes. Nothing here speaks of a program.
-/
import Derived.Test.YtkffgdndglfcfaaGreatDoorUtf
namespace Go.Proofs.YtkffgdndglfcfaaGreatDoor

/-- The digit of a number below 16. -/
def hxE (n : Nat) : Nat := if n < 10 then 48 + n else 87 + n
def twoE (c : Nat) : List Nat := [hxE (c / 16), hxE (c % 16)]
def hexE (l : List Nat) : List Nat := l.flatMap twoE
/-- The number of a digit. -/
def dgE (c : Nat) : Option Nat := if 48 ≤ c ∧ c ≤ 57 then some (c - 48) else if 97 ≤ c ∧ c ≤ 102 then some (c - 87) else if 65 ≤ c ∧ c ≤ 70 then some (c - 55) else none
def pairE (a b : Nat) : Option Nat := match dgE a, dgE b with
  | some x, some y => some (x * 16 + y)
  | _, _ => none
def unhexE : List Nat → Option (List Nat)
  | [] => some []
  | [_] => none
  | a :: b :: t => (pairE a b).bind fun x => (unhexE t).map (x :: ·)
def filt1 (r : Bool) (c : Nat) : List Nat := if c = 42 ∨ c = 40 ∨ c = 41 ∨ c = 92 ∨ c = 0 ∨ 127 < c ∧ r = false then 92 :: twoE c else [c]
/-- What stands in a filter; r: the text is characters alone. -/
def filterE (r : Bool) (l : List Nat) : List Nat := l.flatMap (filt1 r)
def unfE : List Nat → Option (List Nat)
  | [] => some []
  | c :: t => if c = 42 ∨ c = 40 ∨ c = 41 ∨ c = 0 then none else if c = 92 then match t with
      | a :: b :: u => (pairE a b).bind fun x => (unfE u).map (x :: ·)
      | _ => none
    else (unfE t).map (c :: ·)
/-- The signs that end a string in a name. -/
def stopE (c : Nat) : Bool := decide (c = 34 ∨ c = 43 ∨ c = 44 ∨ c = 59 ∨ c = 60 ∨ c = 61 ∨ c = 62)
def put1 (r f e : Bool) (c : Nat) : List Nat :=
  if stopE c = true ∨ c = 92 ∨ c = 32 ∧ (f = true ∨ e = true) ∨ c = 35 ∧ f = true then [92, c]
  else if c < 32 ∨ c = 127 ∨ 127 < c ∧ r = false then 92 :: twoE c
  else [c]
/-- What stands in a name; f: the text begins here. -/
def putE (r : Bool) : Bool → List Nat → List Nat
  | _, [] => []
  | f, c :: t => put1 r f t.isEmpty c ++ putE r false t
/-- Where a string in a name ends: beyond its end if a backslash is its last byte. -/
def endE : List Nat → Nat
  | [] => 0
  | c :: t => if stopE c = true then 0 else if c = 92 then match t with
      | [] => 2
      | _ :: u => 2 + endE u
    else 1 + endE t
/-- What may stand behind a backslash for itself. -/
def selfE (c : Nat) : Bool := stopE c || decide (c = 35 ∨ c = 32 ∨ c = 92)
/-- The bytes of a string in a name; the mark: it was behind a backslash. -/
def itemsE : List Nat → Option (List (Nat × Bool))
  | [] => some []
  | c :: t => if c = 92 then match t with
      | [] => none
      | a :: u => if selfE a = true then (itemsE u).map ((a, true) :: ·) else match u with
          | [] => none
          | b :: v => (pairE a b).bind fun x => (itemsE v).map ((x, true) :: ·)
    else (itemsE t).map ((c, false) :: ·)
def blankI (x : Nat × Bool) : Bool := x.1 == 32 && !x.2
def trimE (l : List (Nat × Bool)) : List Nat := (l.reverse.dropWhile blankI).reverse.map Prod.fst
def trimB (l : List Nat) : List Nat := (l.reverse.dropWhile (· == 32)).reverse
def decV : List Nat → Option (List Nat)
  | [] => some []
  | c :: u => if c = 35 then match unhexE (trimB u) with
      | some (x :: r) => some (x :: r)
      | _ => none
    else (itemsE (c :: u)).map trimE
def decE (t : List Nat) : Option (List Nat) := decV (t.dropWhile (· == 32))
def sharpE (c : Nat) : Bool := decide (c = 34 ∨ c = 60 ∨ c = 61 ∨ c = 62)
def badE (l : List Nat) : Bool := match l[endE l]? with
  | some c => sharpE c
  | none => false
def readE (l : List Nat) : Option (List Nat × Nat) := if l.length < endE l then none else if badE l = true then none else (decE (l.take (endE l))).map fun x => (x, endE l)

theorem hx_small : ∀ n < 16, (48 ≤ hxE n ∧ hxE n ≤ 57 ∨ 97 ≤ hxE n ∧ hxE n ≤ 102) ∧ dgE (hxE n) = some n := by decide
theorem hx_form (n : Nat) (h : n < 16) : 48 ≤ hxE n ∧ hxE n ≤ 57 ∨ 97 ≤ hxE n ∧ hxE n ≤ 102 := (hx_small n h).1
theorem pair_two {c : Nat} (h : c < 256) : pairE (hxE (c / 16)) (hxE (c % 16)) = some c := by
  unfold pairE
  rw [(hx_small (c / 16) (by omega)).2, (hx_small (c % 16) (by omega)).2]
  show some (c / 16 * 16 + c % 16) = some c
  rw [show c / 16 * 16 + c % 16 = c from by omega]
def byE (l : List Nat) : Prop := ∀ c ∈ l, c < 256
theorem byE.tail {c : Nat} {l : List Nat} (h : byE (c :: l)) : byE l := fun d hd => h d (List.mem_cons_of_mem _ hd)
theorem byE.head {c : Nat} {l : List Nat} (h : byE (c :: l)) : c < 256 := h c List.mem_cons_self
theorem unhex_hex : ∀ (l : List Nat), byE l → unhexE (hexE l) = some l
  | [], _ => rfl
  | c :: l, h => by
    show unhexE (hxE (c / 16) :: hxE (c % 16) :: hexE l) = _
    unfold unhexE
    rw [pair_two h.head, unhex_hex l h.tail]
    rfl
theorem hex_app (a b : List Nat) : hexE (a ++ b) = hexE a ++ hexE b := List.flatMap_append
theorem hex_len (l : List Nat) : (hexE l).length = 2 * l.length := by
  induction l with
  | nil => rfl
  | cons c l ih =>
    show (twoE c ++ hexE l).length = _
    rw [List.length_append, ih, List.length_cons]
    show 2 + _ = _
    omega
theorem filter_app (r : Bool) (a b : List Nat) : filterE r (a ++ b) = filterE r a ++ filterE r b := List.flatMap_append
theorem filter_cons (r : Bool) (c : Nat) (l : List Nat) : filterE r (c :: l) = filt1 r c ++ filterE r l := List.flatMap_cons
theorem unf_esc (a b : Nat) (u : List Nat) : unfE (92 :: a :: b :: u) = (pairE a b).bind fun x => (unfE u).map (x :: ·) := by
  conv => lhs; unfold unfE
  rw [if_neg (by decide), if_pos rfl]
theorem unf_own (c : Nat) (u : List Nat) (h : ¬ (c = 42 ∨ c = 40 ∨ c = 41 ∨ c = 0)) (h2 : c ≠ 92) : unfE (c :: u) = (unfE u).map (c :: ·) := by
  conv => lhs; unfold unfE
  rw [if_neg h, if_neg h2]
theorem unf_filter (r : Bool) (t : List Nat) : ∀ (l : List Nat), byE l → unfE (filterE r l ++ t) = (unfE t).map (l ++ ·)
  | [], _ => by
    show unfE t = _
    cases unfE t <;> rfl
  | c :: l, h => by
    rw [filter_cons, List.append_assoc]
    have ih := unf_filter r t l h.tail
    unfold filt1
    split
    · show unfE (92 :: hxE (c / 16) :: hxE (c % 16) :: (filterE r l ++ t)) = _
      rw [unf_esc, pair_two h.head, ih]
      cases unfE t <;> rfl
    · rename_i hn
      show unfE (c :: (filterE r l ++ t)) = _
      rw [unf_own _ _ (by omega) (by omega), ih]
      cases unfE t <;> rfl
theorem unf_back (r : Bool) (l : List Nat) (h : byE l) : unfE (filterE r l) = some l := by
  have := unf_filter r [] l h
  rw [List.append_nil] at this
  rw [this]
  show some (l ++ []) = _
  rw [List.append_nil]
theorem filter_len (r : Bool) (l : List Nat) : l.length ≤ (filterE r l).length ∧ (filterE r l).length ≤ 3 * l.length := by
  induction l with
  | nil => exact ⟨Nat.le_refl _, Nat.le_refl _⟩
  | cons c l ih =>
    rw [filter_cons, List.length_append, List.length_cons]
    have : 1 ≤ (filt1 r c).length ∧ (filt1 r c).length ≤ 3 := by
      unfold filt1
      split <;> simp [twoE]
    omega
theorem filter_plain (r : Bool) (l : List Nat) (h : byE l) : ∀ c ∈ filterE r l, ¬ (c = 42 ∨ c = 40 ∨ c = 41 ∨ c = 0) ∧ c < 256 := by
  intro c hc
  unfold filterE at hc
  obtain ⟨d, hd, hm⟩ := List.mem_flatMap.1 hc
  have hb := h d hd
  unfold filt1 at hm
  split at hm
  · have h1 := hx_form (d / 16) (by omega)
    have h2 := hx_form (d % 16) (by omega)
    rcases List.mem_cons.1 hm with rfl | hm
    · omega
    · rcases List.mem_cons.1 hm with rfl | hm
      · omega
      · rw [List.mem_singleton] at hm
        omega
  · rw [List.mem_singleton] at hm
    omega
theorem hex_by (l : List Nat) (h : byE l) : byE (hexE l) := by
  intro c hc
  obtain ⟨d, hd, hm⟩ := List.mem_flatMap.1 hc
  have hb := h d hd
  have h1 := hx_form (d / 16) (by omega)
  have h2 := hx_form (d % 16) (by omega)
  rcases List.mem_cons.1 hm with rfl | hm
  · omega
  · rw [List.mem_singleton] at hm
    omega

/-! What stands in a name. -/
theorem put1_form (r f e : Bool) (c : Nat) (h : c < 256) : (put1 r f e c = [92, c] ∧ selfE c = true) ∨ put1 r f e c = [92, hxE (c / 16), hxE (c % 16)] ∨
    (put1 r f e c = [c] ∧ stopE c = false ∧ c ≠ 92 ∧ (f = true ∨ e = true → c ≠ 32) ∧ (f = true → c ≠ 35) ∧ 32 ≤ c ∧ c ≠ 127) := by
  unfold put1
  split
  · rename_i h1
    refine .inl ⟨rfl, ?_⟩
    unfold selfE
    rcases h1 with h1 | h1 | h1 | h1
    · rw [h1]; rfl
    · rw [h1]; rfl
    · rw [h1.1]; rfl
    · rw [h1.1]; rfl
  · rename_i h1
    split
    · exact .inr (.inl rfl)
    · rename_i h2
      refine .inr (.inr ⟨rfl, ?_, ?_, ?_, ?_, ?_, ?_⟩)
      · rw [Bool.eq_false_iff]
        exact fun h => h1 (.inl h)
      · exact fun h => h1 (.inr (.inl h))
      · exact fun hfe hc => h1 (.inr (.inr (.inl ⟨hc, hfe⟩)))
      · exact fun hf hc => h1 (.inr (.inr (.inr ⟨hc, hf⟩)))
      · omega
      · omega
theorem stop_not (c : Nat) (h : 48 ≤ c ∧ c ≤ 57 ∨ 97 ≤ c ∧ c ≤ 102) : stopE c = false ∧ c ≠ 92 ∧ selfE c = false := by
  have h1 : stopE c = false := decide_eq_false (by omega)
  refine ⟨h1, by omega, ?_⟩
  unfold selfE
  rw [h1]
  exact decide_eq_false (by omega)
theorem end_esc (a : Nat) (u : List Nat) : endE (92 :: a :: u) = 2 + endE u := by
  conv => lhs; unfold endE
  rw [if_neg (by decide), if_pos rfl]
theorem end_own (c : Nat) (u : List Nat) (h1 : stopE c = false) (h2 : c ≠ 92) : endE (c :: u) = 1 + endE u := by
  conv => lhs; unfold endE
  rw [if_neg (by rw [h1]; decide), if_neg h2]
theorem end_put (r : Bool) (t : List Nat) : ∀ (l : List Nat) (f : Bool), byE l → endE (putE r f l ++ t) = (putE r f l).length + endE t
  | [], f, _ => by
    show endE t = 0 + endE t
    omega
  | c :: l, f, h => by
    show endE (put1 r f l.isEmpty c ++ putE r false l ++ t) = (put1 r f l.isEmpty c ++ putE r false l).length + _
    rw [List.append_assoc, List.length_append]
    have ih := end_put r t l false h.tail
    rcases put1_form r f l.isEmpty c h.head with ⟨e, _⟩ | e | ⟨e, h1, h2, _⟩
    · rw [e]
      show endE (92 :: c :: (putE r false l ++ t)) = 2 + _ + _
      rw [end_esc, ih]
      omega
    · have hd := stop_not _ (hx_form (c % 16) (by omega))
      rw [e]
      show endE (92 :: hxE (c / 16) :: hxE (c % 16) :: (putE r false l ++ t)) = 3 + _ + _
      rw [end_esc, end_own _ _ hd.1 hd.2.1, ih]
      omega
    · rw [e]
      show endE (c :: (putE r false l ++ t)) = 1 + _ + _
      rw [end_own _ _ h1 h2, ih]
      omega
/-- The marks of what was put. -/
def mk1 (r f e : Bool) (c : Nat) : Nat × Bool := (c, decide (put1 r f e c ≠ [c]))
def mkE (r : Bool) : Bool → List Nat → List (Nat × Bool)
  | _, [] => []
  | f, c :: t => mk1 r f t.isEmpty c :: mkE r false t
theorem items_self (a : Nat) (u : List Nat) (h : selfE a = true) : itemsE (92 :: a :: u) = (itemsE u).map ((a, true) :: ·) := by
  conv => lhs; unfold itemsE
  rw [if_pos rfl]
  show (if selfE a = true then _ else _) = _
  rw [if_pos h]
theorem items_pair (a b x : Nat) (u : List Nat) (h : selfE a = false) (hp : pairE a b = some x) : itemsE (92 :: a :: b :: u) = (itemsE u).map ((x, true) :: ·) := by
  conv => lhs; unfold itemsE
  rw [if_pos rfl]
  show (if selfE a = true then _ else _) = _
  rw [if_neg (by rw [h]; decide)]
  show (pairE a b).bind _ = _
  rw [hp]
  rfl
theorem items_own (c : Nat) (u : List Nat) (h : c ≠ 92) : itemsE (c :: u) = (itemsE u).map ((c, false) :: ·) := by
  conv => lhs; unfold itemsE
  rw [if_neg h]
theorem items_put (r : Bool) (t : List Nat) : ∀ (l : List Nat) (f : Bool), byE l → itemsE (putE r f l ++ t) = (itemsE t).map (mkE r f l ++ ·)
  | [], f, _ => by
    show itemsE t = _
    cases itemsE t <;> rfl
  | c :: l, f, h => by
    show itemsE (put1 r f l.isEmpty c ++ putE r false l ++ t) = _
    rw [List.append_assoc]
    have ih := items_put r t l false h.tail
    have hm : mkE r f (c :: l) = mk1 r f l.isEmpty c :: mkE r false l := rfl
    rw [hm]
    unfold mk1
    rcases put1_form r f l.isEmpty c h.head with ⟨e, h1⟩ | e | ⟨e, _, h2, _⟩
    · rw [e, show decide ([92, c] ≠ [c]) = true from decide_eq_true (by simp)]
      show itemsE (92 :: c :: (putE r false l ++ t)) = _
      rw [items_self _ _ h1, ih]
      cases itemsE t <;> rfl
    · have hd := stop_not _ (hx_form (c / 16) (by have := h.head; omega))
      rw [e, show decide ([92, hxE (c / 16), hxE (c % 16)] ≠ [c]) = true from decide_eq_true (by simp)]
      show itemsE (92 :: hxE (c / 16) :: hxE (c % 16) :: (putE r false l ++ t)) = _
      rw [items_pair _ _ _ _ hd.2.2 (pair_two h.head), ih]
      cases itemsE t <;> rfl
    · rw [e, show decide ([c] ≠ [c]) = false from decide_eq_false (by simp)]
      show itemsE (c :: (putE r false l ++ t)) = _
      rw [items_own _ _ h2, ih]
      cases itemsE t <;> rfl
theorem mk_fst (r : Bool) : ∀ (l : List Nat) (f : Bool), (mkE r f l).map Prod.fst = l
  | [], _ => rfl
  | c :: l, f => by
    show c :: (mkE r false l).map Prod.fst = _
    rw [mk_fst r l false]
/-- The last one is no blank that may be left off. -/
theorem mk_last (r : Bool) : ∀ (l : List Nat) (f : Bool), byE l → ∀ x, (mkE r f l).getLast? = some x → blankI x = false
  | [], _, _, x, hx => by cases hx
  | [c], f, h, x, hx => by
    have hx : some (mk1 r f true c) = some x := hx
    injection hx with hx
    subst hx
    unfold mk1 blankI
    rcases put1_form r f true c h.head with ⟨e, _⟩ | e | ⟨e, _, _, h3, _⟩
    · rw [e, show decide ([92, c] ≠ [c]) = true from decide_eq_true (by simp)]
      simp
    · rw [e, show decide ([92, hxE (c / 16), hxE (c % 16)] ≠ [c]) = true from decide_eq_true (by simp)]
      simp
    · have := h3 (.inr rfl)
      simp [this]
  | c :: d :: l, f, h, x, hx => by
    refine mk_last r (d :: l) false h.tail x ?_
    rw [← hx]
    show _ = (mk1 r f false c :: mk1 r false l.isEmpty d :: mkE r false l).getLast?
    rfl
theorem trim_keep (l : List (Nat × Bool)) (h : ∀ x, l.getLast? = some x → blankI x = false) : trimE l = l.map Prod.fst := by
  unfold trimE
  rcases hr : l.reverse with _ | ⟨x, u⟩
  · have : l = [] := by simpa using hr
    subst this
    rfl
  · have hx : blankI x = false := h x (by rw [List.getLast?_eq_head?_reverse, hr]; rfl)
    rw [List.dropWhile_cons_of_neg (by rw [hx]; decide), ← hr, List.reverse_reverse]
theorem trim_one (l : List (Nat × Bool)) (x : Nat × Bool) (h : blankI x = true) : trimE (l ++ [x]) = trimE l := by
  unfold trimE
  rw [List.reverse_append]
  show ((x :: l.reverse).dropWhile blankI).reverse.map Prod.fst = _
  rw [List.dropWhile_cons_of_pos h]
theorem put_head (r : Bool) (c : Nat) (l : List Nat) (h : byE (c :: l)) : ∃ d u, putE r true (c :: l) = d :: u ∧ d ≠ 32 ∧ d ≠ 35 := by
  show ∃ d u, put1 r true l.isEmpty c ++ putE r false l = d :: u ∧ _
  rcases put1_form r true l.isEmpty c h.head with ⟨e, _⟩ | e | ⟨e, _, _, h3, h4, _⟩
  · exact ⟨92, c :: putE r false l, by rw [e]; rfl, by decide, by decide⟩
  · exact ⟨92, hxE (c / 16) :: hxE (c % 16) :: putE r false l, by rw [e]; rfl, by decide, by decide⟩
  · exact ⟨c, putE r false l, by rw [e]; rfl, h3 (.inl rfl), h4 rfl⟩
/-- What is put is decoded as it was, also with blanks around. -/
theorem dec_put (r : Bool) (l : List Nat) (h : byE l) (n : Nat) (hn : n ≤ 1) (m : Nat) : decE (List.replicate m 32 ++ putE r true l ++ List.replicate n 32) = some l := by
  have hd : ∀ m (t : List Nat), (List.replicate m 32 ++ t).dropWhile (· == 32) = t.dropWhile (· == 32) := fun m t => by
    induction m with
    | zero => rfl
    | succ m ih =>
      show (32 :: (List.replicate m 32 ++ t)).dropWhile (· == 32) = _
      rw [List.dropWhile_cons_of_pos (by rfl), ih]
  unfold decE
  rw [List.append_assoc, hd]
  rcases l with _ | ⟨c, l⟩
  · show decV ((List.replicate n 32).dropWhile (· == 32)) = _
    have := hd n []
    rw [List.append_nil] at this
    rw [this]
    rfl
  · obtain ⟨d, u, e, h1, h2⟩ := put_head r c l h
    have hk : ((putE r true (c :: l)) ++ List.replicate n 32).dropWhile (· == 32) = putE r true (c :: l) ++ List.replicate n 32 := by
      rw [e]
      exact List.dropWhile_cons_of_neg (by simpa using h1)
    have hv : decV (putE r true (c :: l) ++ List.replicate n 32) = (itemsE (putE r true (c :: l) ++ List.replicate n 32)).map trimE := by
      rw [e]
      show (if d = 35 then _ else _) = _
      rw [if_neg h2]
      rfl
    rw [hk, hv, items_put r _ (c :: l) true h]
    have hl := trim_keep _ (mk_last r (c :: l) true h)
    rw [mk_fst] at hl
    rcases Nat.lt_or_ge n 1 with hn0 | hn0
    · obtain rfl : n = 0 := by omega
      show some (trimE (mkE r true (c :: l) ++ [])) = _
      rw [List.append_nil, hl]
    · obtain rfl : n = 1 := by omega
      show some (trimE (mkE r true (c :: l) ++ [(32, false)])) = _
      rw [trim_one _ _ rfl, hl]
theorem readE_put (r : Bool) (l : List Nat) (h : byE l) : readE (putE r true l) = some (l, (putE r true l).length) := by
  have he : endE (putE r true l) = (putE r true l).length := by
    have := end_put r [] l true h
    rw [List.append_nil] at this
    rw [this]
    rfl
  have hb : badE (putE r true l) = false := by
    unfold badE
    rw [he, List.getElem?_eq_none (Nat.le_refl _)]
  unfold readE
  rw [he, if_neg (Nat.lt_irrefl _), hb, if_neg (by decide), List.take_of_length_le (Nat.le_refl _)]
  have := dec_put r l h 0 (by decide) 0
  rw [show List.replicate 0 32 ++ putE r true l ++ List.replicate 0 32 = putE r true l from by simp] at this
  rw [this]
  rfl
theorem read_around (r : Bool) (l t : List Nat) (h : byE l) : readE (32 :: 32 :: (putE r true l ++ 32 :: 44 :: t)) = some (l, (putE r true l).length + 3) := by
  have he : endE (32 :: 32 :: (putE r true l ++ 32 :: 44 :: t)) = (putE r true l).length + 3 := by
    rw [end_own _ _ (by decide) (by decide), end_own _ _ (by decide) (by decide), end_put r _ l true h, end_own _ _ (by decide) (by decide)]
    have : endE (44 :: t) = 0 := by
      conv => lhs; unfold endE
      rw [if_pos (by decide)]
    omega
  have hg : (32 :: 32 :: (putE r true l ++ 32 :: 44 :: t))[(putE r true l).length + 3]? = some 44 := by
    show (putE r true l ++ 32 :: 44 :: t)[(putE r true l).length + 1]? = some 44
    rw [List.getElem?_append_right (by omega), show (putE r true l).length + 1 - (putE r true l).length = 1 from by omega]
    rfl
  have hb : badE (32 :: 32 :: (putE r true l ++ 32 :: 44 :: t)) = false := by
    unfold badE
    rw [he, hg]
    rfl
  have hl : (32 :: 32 :: (putE r true l ++ 32 :: 44 :: t)).length = (putE r true l).length + 4 + t.length := by
    simp only [List.length_cons, List.length_append]
    omega
  unfold readE
  rw [he, if_neg (by rw [hl]; omega), hb, if_neg (by decide)]
  have ht : (32 :: 32 :: (putE r true l ++ 32 :: 44 :: t)).take ((putE r true l).length + 3) = List.replicate 2 32 ++ putE r true l ++ List.replicate 1 32 := by
    show 32 :: 32 :: (putE r true l ++ 32 :: 44 :: t).take ((putE r true l).length + 1) = 32 :: 32 :: (putE r true l ++ [32])
    rw [List.take_append, List.take_of_length_le (by omega), show (putE r true l).length + 1 - (putE r true l).length = 1 from by omega]
    rfl
  rw [ht, dec_put r l h 1 (by decide) 2]
  rfl
theorem put_len (r : Bool) : ∀ (l : List Nat) (f : Bool), byE l → l.length ≤ (putE r f l).length ∧ (putE r f l).length ≤ 3 * l.length
  | [], _, _ => ⟨Nat.le_refl _, Nat.le_refl _⟩
  | c :: l, f, h => by
    show _ ≤ (put1 r f l.isEmpty c ++ putE r false l).length ∧ (put1 r f l.isEmpty c ++ putE r false l).length ≤ _
    rw [List.length_append, List.length_cons]
    have ih := put_len r l false h.tail
    rcases put1_form r f l.isEmpty c h.head with ⟨e, _⟩ | e | ⟨e, _⟩
    · rw [e]; simp only [List.length_cons, List.length_nil]; omega
    · rw [e]; simp only [List.length_cons, List.length_nil]; omega
    · rw [e]; simp only [List.length_cons, List.length_nil]; omega
theorem put_by (r : Bool) : ∀ (l : List Nat) (f : Bool), byE l → byE (putE r f l)
  | [], _, _ => fun c hc => absurd hc List.not_mem_nil
  | c :: l, f, h => by
    intro d hd
    have hd : d ∈ put1 r f l.isEmpty c ++ putE r false l := hd
    rcases List.mem_append.1 hd with hd | hd
    · have hb := h.head
      have h1 := hx_form (c / 16) (by omega)
      have h2 := hx_form (c % 16) (by omega)
      rcases put1_form r f l.isEmpty c hb with ⟨e, _⟩ | e | ⟨e, _⟩ <;> rw [e] at hd
      · simp only [List.mem_cons, List.not_mem_nil, or_false] at hd
        omega
      · simp only [List.mem_cons, List.not_mem_nil, or_false] at hd
        omega
      · simp only [List.mem_cons, List.not_mem_nil, or_false] at hd
        omega
    · exact put_by r l false h.tail d hd
/-- None of the signs that end a string, nor what is no sign, but behind a backslash. -/
def plainP : List Nat → Bool
  | [] => true
  | c :: t => if c = 92 then match t with
      | [] => true
      | _ :: u => plainP u
    else !stopE c && decide (32 ≤ c) && decide (c ≠ 127) && plainP t
theorem plain_esc (a : Nat) (u : List Nat) : plainP (92 :: a :: u) = plainP u := by
  conv => lhs; unfold plainP
  rw [if_pos rfl]
theorem plain_own (c : Nat) (u : List Nat) (h : c ≠ 92) : plainP (c :: u) = (!stopE c && decide (32 ≤ c) && decide (c ≠ 127) && plainP u) := by
  conv => lhs; unfold plainP
  rw [if_neg h]
theorem plain_put (r : Bool) : ∀ (l : List Nat) (f : Bool), byE l → plainP (putE r f l) = true
  | [], _, _ => rfl
  | c :: l, f, h => by
    show plainP (put1 r f l.isEmpty c ++ putE r false l) = true
    have ih := plain_put r l false h.tail
    rcases put1_form r f l.isEmpty c h.head with ⟨e, _⟩ | e | ⟨e, h1, h2, _, _, h5, h6⟩
    · rw [e]
      show plainP (92 :: c :: putE r false l) = true
      rw [plain_esc, ih]
    · have hf := hx_form (c % 16) (by omega)
      have hd := stop_not _ hf
      rw [e]
      show plainP (92 :: hxE (c / 16) :: hxE (c % 16) :: putE r false l) = true
      rw [plain_esc, plain_own _ _ hd.2.1, hd.1, ih, decide_eq_true (show 32 ≤ hxE (c % 16) by omega), decide_eq_true (show hxE (c % 16) ≠ 127 by omega)]
      rfl
    · rw [e]
      show plainP (c :: putE r false l) = true
      rw [plain_own _ _ h2, h1, ih, decide_eq_true h5, decide_eq_true h6]
      rfl
end Go.Proofs.YtkffgdndglfcfaaGreatDoor
