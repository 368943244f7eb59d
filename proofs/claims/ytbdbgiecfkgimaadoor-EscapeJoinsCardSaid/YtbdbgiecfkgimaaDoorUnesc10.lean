/-
  What stands behind a backslash, and a text read without its backslashes, as data; where a string in a name ends, and its last part that is no blank.
-/
import Derived.Test.YtbdbgiecfkgimaaDoorEscStr
namespace Go.Proofs.YtbdbgiecfkgimaaDoor

/-- What a text begins with behind a backslash, and how many bytes it takes. -/
def escD (self : Nat → Bool) : List Nat → Option (Nat × Nat)
  | [] => none
  | a :: u => if self a = true then some (a, 1) else match u with
    | [] => none
    | b :: _ => (pairE a b).map fun x => (x, 2)
def escR (a : Nat) : List Nat → Option (Nat × Nat)
  | [] => none
  | b :: _ => (pairE a b).map fun x => (x, 2)
theorem escD_cons (self : Nat → Bool) (a : Nat) (u : List Nat) : escD self (a :: u) = if self a = true then some (a, 1) else escR a u := by
  cases u <;> rfl
def unescD (self : Nat → Bool) : List Nat → Option (List Nat)
  | [] => some []
  | c :: t => if c = 92 then match t with
      | [] => none
      | a :: u => if self a = true then (unescD self u).map (a :: ·) else match u with
          | [] => none
          | b :: v => (pairE a b).bind fun x => (unescD self v).map (x :: ·)
    else (unescD self t).map (c :: ·)
theorem unesc_own (self : Nat → Bool) (c : Nat) (t : List Nat) (h : c ≠ 92) : unescD self (c :: t) = (unescD self t).map (c :: ·) := by
  conv => lhs; unfold unescD
  rw [if_neg h]
theorem unesc_pre (self : Nat → Bool) (t : List Nat) : ∀ (p : List Nat), 92 ∉ p → unescD self (p ++ t) = (unescD self t).map (p ++ ·)
  | [], _ => by
    show unescD self t = _
    cases unescD self t <;> rfl
  | c :: p, h => by
    have h1 : c ≠ 92 := fun e => h (by simp [e])
    have h2 : 92 ∉ p := fun e => h (List.mem_cons_of_mem _ e)
    show unescD self (c :: (p ++ t)) = _
    rw [unesc_own _ _ _ h1, unesc_pre self t p h2]
    cases unescD self t <;> rfl
theorem unesc_none (self : Nat → Bool) (t : List Nat) (h : escD self t = none) : unescD self (92 :: t) = none := by
  conv => lhs; unfold unescD
  rw [if_pos rfl]
  rcases t with _ | ⟨a, u⟩
  · rfl
  · rw [escD_cons] at h
    show (if self a = true then _ else _) = _
    by_cases hs : self a = true
    · rw [if_pos hs] at h; cases h
    · rw [if_neg hs] at h ⊢
      rcases u with _ | ⟨b, v⟩
      · rfl
      · have h : (pairE a b).map (fun x => (x, 2)) = none := h
        rw [Option.map_eq_none_iff] at h
        show (pairE a b).bind _ = none
        rw [h]
        rfl
theorem unesc_some (self : Nat → Bool) (t : List Nat) (x n : Nat) (h : escD self t = some (x, n)) : unescD self (92 :: t) = (unescD self (t.drop n)).map (x :: ·) ∧ 1 ≤ n ∧ n ≤ 2 ∧ n ≤ t.length := by
  conv => lhs; lhs; unfold unescD
  rw [if_pos rfl]
  rcases t with _ | ⟨a, u⟩
  · cases h
  · rw [escD_cons] at h
    show (if self a = true then _ else _) = _ ∧ _
    by_cases hs : self a = true
    · rw [if_pos hs] at h ⊢
      injection h with h
      injection h with h1 h2
      subst h1; subst h2
      exact ⟨rfl, Nat.le_refl _, by omega, by simp⟩
    · rw [if_neg hs] at h ⊢
      rcases u with _ | ⟨b, v⟩
      · cases h
      · have h : (pairE a b).map (fun x => (x, 2)) = some (x, n) := h
        obtain ⟨y, h1, h2⟩ := Option.map_eq_some_iff.1 h
        injection h2 with h3 h4
        subst h3; subst h4
        show (pairE a b).bind _ = _ ∧ _
        rw [h1]
        exact ⟨rfl, by omega, Nat.le_refl _, by simp⟩
theorem esc_lt (self : Nat → Bool) (t : List Nat) (x n : Nat) (hb : byE t) (h : escD self t = some (x, n)) : x < 256 := by
  rcases t with _ | ⟨a, u⟩
  · cases h
  · rw [escD_cons] at h
    by_cases hs : self a = true
    · rw [if_pos hs] at h
      injection h with h
      injection h with h1 h2
      rw [← h1]
      exact hb.head
    · rw [if_neg hs] at h
      rcases u with _ | ⟨b, v⟩
      · cases h
      · have h : (pairE a b).map (fun x => (x, 2)) = some (x, n) := h
        obtain ⟨y, h1, h2⟩ := Option.map_eq_some_iff.1 h
        injection h2 with h3 h4
        subst h3
        unfold pairE at h1
        have hd : ∀ c n, dgE c = some n → n < 16 := fun c n h => by
          unfold dgE at h
          split at h
          · injection h; omega
          · split at h
            · injection h; omega
            · split at h
              · injection h; omega
              · cases h
        rcases e1 : dgE a with _ | p
        · rw [e1] at h1; cases h1
        · rcases e2 : dgE b with _ | q
          · rw [e1, e2] at h1; cases h1
          · rw [e1, e2] at h1
            have h1 : some (p * 16 + q) = some y := h1
            injection h1 with h1
            have := hd _ _ e1
            have := hd _ _ e2
            omega
/-- What no string in a filter has. -/
def sgE (c : Nat) : Bool := decide (c = 42 ∨ c = 40 ∨ c = 41 ∨ c = 0)
theorem pair_sg1 {a b : Nat} (h : sgE a = true) : pairE a b = none := by
  unfold sgE at h
  have h := of_decide_eq_true h
  have : dgE a = none := by unfold dgE; rw [if_neg (by omega), if_neg (by omega), if_neg (by omega)]
  unfold pairE
  rw [this]
theorem pair_sg2 {a b : Nat} (h : sgE b = true) : pairE a b = none := by
  unfold sgE at h
  have h := of_decide_eq_true h
  have : dgE b = none := by unfold dgE; rw [if_neg (by omega), if_neg (by omega), if_neg (by omega)]
  unfold pairE
  rw [this]
  split <;> simp_all
theorem unf_cons (c : Nat) (t : List Nat) : unfE (c :: t) = if sgE c = true then none else if c = 92 then match t with
      | a :: b :: u => (pairE a b).bind fun x => (unfE u).map (x :: ·)
      | _ => none
    else (unfE t).map (c :: ·) := by
  conv => lhs; unfold unfE
  unfold sgE
  simp only [decide_eq_true_eq]
  rcases t with _ | ⟨a, _ | ⟨b, u⟩⟩ <;> rfl
theorem unf_two : ∀ (n : Nat) (l : List Nat), l.length ≤ n → unfE l = if l.any sgE = true then none else unescD (fun _ => false) l
  | 0, l, h => by
    obtain rfl : l = [] := List.eq_nil_of_length_eq_zero (by omega)
    rfl
  | n + 1, [], _ => rfl
  | n + 1, c :: t, h => by
    have ht : t.length ≤ n := by simp only [List.length_cons] at h; omega
    rw [unf_cons, List.any_cons]
    cases hc : sgE c
    · rw [if_neg (by decide), Bool.false_or]
      by_cases h92 : c = 92
      · subst h92
        rw [if_pos rfl]
        conv => rhs; rhs; unfold unescD
        rw [if_pos rfl]
        rcases t with _ | ⟨a, u⟩
        · rfl
        · rcases u with _ | ⟨b, v⟩
          · show none = _
            split <;> rfl
          · show (pairE a b).bind _ = if (a :: b :: v).any sgE = true then none else (pairE a b).bind fun x => (unescD (fun _ => false) v).map (x :: ·)
            have ih := unf_two n v (by simp only [List.length_cons] at ht; omega)
            rw [List.any_cons, List.any_cons]
            cases ha : sgE a
            · cases hb : sgE b
              · rw [Bool.false_or, Bool.false_or, ih]
                split
                · cases pairE a b <;> rfl
                · rfl
              · rw [pair_sg2 hb]
                split <;> rfl
            · rw [pair_sg1 ha]
              split <;> rfl
      · rw [if_neg h92, unesc_own _ _ _ h92, unf_two n t ht]
        split
        · rfl
        · rfl
    · rw [if_pos rfl, Bool.true_or, if_pos rfl]
theorem items_unesc : ∀ (n : Nat) (l : List Nat), l.length ≤ n → unescD selfE l = (itemsE l).map (List.map Prod.fst)
  | 0, l, h => by
    obtain rfl : l = [] := List.eq_nil_of_length_eq_zero (by omega)
    rfl
  | n + 1, [], _ => rfl
  | n + 1, c :: t, h => by
    have ht : t.length ≤ n := by simp only [List.length_cons] at h; omega
    by_cases h92 : c = 92
    · subst h92
      unfold unescD itemsE
      rw [if_pos rfl, if_pos rfl]
      rcases t with _ | ⟨a, u⟩
      · rfl
      · show (if selfE a = true then _ else _) = Option.map _ (if selfE a = true then _ else _)
        have ih := items_unesc n u (by simp only [List.length_cons] at ht; omega)
        split
        · rw [ih]
          cases itemsE u <;> rfl
        · rcases u with _ | ⟨b, v⟩
          · rfl
          · have ih := items_unesc n v (by simp only [List.length_cons] at ht; omega)
            show (pairE a b).bind _ = Option.map _ ((pairE a b).bind _)
            cases pairE a b with
            | none => rfl
            | some x =>
              show (unescD selfE v).map _ = Option.map _ ((itemsE v).map _)
              rw [ih]
              cases itemsE v <;> rfl
    · rw [unesc_own _ _ _ h92, items_own _ _ h92, items_unesc n t ht]
      cases itemsE t <;> rfl
/-- Where the last part ends that is no blank. -/
def solE : List Nat → Nat
  | [] => 0
  | c :: t => if stopE c = true then 0 else if c = 92 then match t with
      | [] => 2
      | _ :: u => 2 + solE u
    else if solE t = 0 ∧ c = 32 then 0 else 1 + solE t
theorem sol_stop (c : Nat) (t : List Nat) (h : stopE c = true) : solE (c :: t) = 0 ∧ endE (c :: t) = 0 := by
  unfold solE endE
  rw [if_pos h, if_pos h]
  exact ⟨rfl, rfl⟩
theorem sol_esc (a : Nat) (u : List Nat) : solE (92 :: a :: u) = 2 + solE u := by
  conv => lhs; unfold solE
  rw [if_neg (by decide), if_pos rfl]
theorem sol_own (c : Nat) (t : List Nat) (h1 : stopE c = false) (h2 : c ≠ 92) : solE (c :: t) = if solE t = 0 ∧ c = 32 then 0 else 1 + solE t := by
  conv => lhs; unfold solE
  rw [if_neg (by rw [h1]; decide), if_neg h2]
theorem items_blank : ∀ j, itemsE (List.replicate j 32) = some (List.replicate j (32, false))
  | 0 => rfl
  | j + 1 => by
    show itemsE (32 :: List.replicate j 32) = _
    rw [items_own _ _ (by decide), items_blank j]
    rfl
theorem items_nil {l : List Nat} (h : itemsE l = some []) : l = [] := by
  rcases l with _ | ⟨c, t⟩
  · rfl
  · exfalso
    by_cases h92 : c = 92
    · subst h92
      unfold itemsE at h
      rw [if_pos rfl] at h
      rcases t with _ | ⟨a, u⟩
      · cases h
      · have h : (if selfE a = true then (itemsE u).map ((a, true) :: ·) else _) = some [] := h
        split at h
        · cases hi : itemsE u <;> rw [hi] at h <;> cases h
        · rcases u with _ | ⟨b, v⟩
          · cases h
          · have h : (pairE a b).bind (fun x => (itemsE v).map ((x, true) :: ·)) = some [] := h
            cases hp : pairE a b with
            | none => rw [hp] at h; cases h
            | some x =>
              rw [hp] at h
              have h : (itemsE v).map ((x, true) :: ·) = some [] := h
              cases hi : itemsE v <;> rw [hi] at h <;> cases h
    · rw [items_own _ _ h92] at h
      cases hi : itemsE t <;> rw [hi] at h <;> cases h
theorem pair_digit {a b x : Nat} (h : pairE a b = some x) : stopE b = false ∧ b ≠ 92 ∧ b ≠ 32 := by
  have hd : ¬ (dgE b = none) := fun e => by
    unfold pairE at h
    rw [e] at h
    revert h
    split <;> simp_all
  have h3 : 48 ≤ b ∧ b ≤ 57 ∨ 97 ≤ b ∧ b ≤ 102 ∨ 65 ≤ b ∧ b ≤ 70 := by
    unfold dgE at hd
    by_cases h1 : 48 ≤ b ∧ b ≤ 57
    · exact .inl h1
    · by_cases h2 : 97 ≤ b ∧ b ≤ 102
      · exact .inr (.inl h2)
      · by_cases h3 : 65 ≤ b ∧ b ≤ 70
        · exact .inr (.inr h3)
        · rw [if_neg h1, if_neg h2, if_neg h3] at hd
          exact absurd rfl hd
  exact ⟨decide_eq_false (by omega), by omega, by omega⟩
/-- A string up to its end is its solid part and blanks; so are its items; the last item of the solid part is no blank that may be left off. -/
theorem sol_items : ∀ (n : Nat) (l : List Nat), l.length ≤ n → endE l ≤ l.length → ∃ j, l.take (endE l) = l.take (solE l) ++ List.replicate j 32 ∧
    itemsE (l.take (endE l)) = (itemsE (l.take (solE l))).map (· ++ List.replicate j (32, false)) ∧ (∀ it, itemsE (l.take (solE l)) = some it → ∀ x, it.getLast? = some x → blankI x = false)
  | n, [], _, _ => ⟨0, rfl, rfl, fun it h x hx => by
      have h : some [] = some it := h
      injection h with h
      subst h
      cases hx⟩
  | 0, c :: t, h, _ => by simp at h
  | n + 1, c :: t, h, he => by
    have ht : t.length ≤ n := by simp only [List.length_cons] at h; omega
    cases hst : stopE c
    · by_cases h92 : c = 92
      · subst h92
        rcases t with _ | ⟨a, u⟩
        · exfalso
          have : endE [92] = 2 := by decide
          rw [this] at he
          simp at he
        · rw [end_esc] at he ⊢
          rw [sol_esc]
          have he2 : endE u ≤ u.length := by simp only [List.length_cons] at he; omega
          have hu : u.length ≤ n := by simp only [List.length_cons] at ht; omega
          obtain ⟨j, h1, h2, h3⟩ := sol_items n u hu he2
          have t1 : ∀ k, (92 :: a :: u).take (2 + k) = 92 :: a :: u.take k := fun k => by rw [Nat.add_comm]; rfl
          rw [t1, t1]
          refine ⟨j, by rw [h1]; rfl, ?_⟩
          cases hs : selfE a
          · by_cases hx0 : u.take (solE u) = []
            · have i1 : itemsE [92, a] = none := by
                unfold itemsE
                rw [if_pos rfl]
                show (if selfE a = true then _ else _) = _
                rw [if_neg (by rw [hs]; decide)]
              rw [h1, hx0, i1]
              refine ⟨?_, fun it h => by cases h⟩
              rcases j with _ | j
              · exact i1
              · show itemsE (92 :: a :: 32 :: List.replicate j 32) = none
                unfold itemsE
                rw [if_pos rfl]
                show (if selfE a = true then _ else _) = _
                rw [if_neg (by rw [hs]; decide)]
                show (pairE a 32).bind _ = none
                have : pairE a 32 = none := by
                  cases hp : pairE a 32 with
                  | none => rfl
                  | some x => exact absurd rfl (pair_digit hp).2.2
                rw [this]
                rfl
            · rcases u with _ | ⟨b, v⟩
              · exact absurd rfl hx0
              · have key : ∀ V, itemsE (92 :: a :: b :: V) = (pairE a b).bind fun x => (itemsE V).map ((x, true) :: ·) := fun V => by
                  conv => lhs; unfold itemsE
                  rw [if_pos rfl]
                  show (if selfE a = true then _ else _) = _
                  rw [if_neg (by rw [hs]; decide)]
                have hsol : solE (b :: v) ≠ 0 := fun e => hx0 (by rw [e]; rfl)
                cases hp : pairE a b with
                | none =>
                  have s1 : ∃ k, solE (b :: v) = k + 1 := ⟨solE (b :: v) - 1, by omega⟩
                  obtain ⟨k, hk⟩ := s1
                  have e1 : ∃ m, endE (b :: v) = m + 1 := by
                    rcases he0 : endE (b :: v) with _ | m
                    · exfalso
                      rw [he0, hk] at h1
                      have := congrArg List.length h1
                      simp at this
                    · exact ⟨m, rfl⟩
                  obtain ⟨m, hm⟩ := e1
                  rw [hk, hm]
                  show itemsE (92 :: a :: b :: v.take m) = (itemsE (92 :: a :: b :: v.take k)).map _ ∧ _
                  rw [key, key, hp]
                  exact ⟨rfl, fun it h => by
                    have h : itemsE (92 :: a :: b :: v.take k) = some it := h
                    rw [key, hp] at h
                    cases h⟩
                | some x =>
                  obtain ⟨d1, d2, d3⟩ := pair_digit hp
                  rw [end_own _ _ d1 d2] at he2 h1 ⊢
                  rw [sol_own _ _ d1 d2, if_neg (fun h => d3 h.2)] at h1 ⊢
                  have he3 : endE v ≤ v.length := by simp only [List.length_cons] at he2; omega
                  obtain ⟨j2, g1, g2, g3⟩ := sol_items n v (by simp only [List.length_cons] at hu; omega) he3
                  have t2 : ∀ k, (b :: v).take (1 + k) = b :: v.take k := fun k => by rw [Nat.add_comm]; rfl
                  rw [t2, t2] at h1 ⊢
                  have hj : j2 = j := by
                    have := congrArg List.length h1
                    rw [g1] at this
                    simp only [List.length_cons, List.length_append, List.length_replicate] at this
                    omega
                  subst hj
                  rw [key, key, hp]
                  show (itemsE (v.take (endE v))).map _ = Option.map _ ((itemsE (v.take (solE v))).map _) ∧ ∀ it, (itemsE (v.take (solE v))).map _ = some it → _
                  rw [g2]
                  refine ⟨by cases itemsE (v.take (solE v)) <;> rfl, fun it hit y hy => ?_⟩
                  obtain ⟨it2, q1, q2⟩ := Option.map_eq_some_iff.1 hit
                  subst q2
                  rcases hl : it2.getLast? with _ | z
                  · have : it2 = [] := by simpa using hl
                    subst this
                    have hy : some (x, true) = some y := hy
                    injection hy with hy
                    subst hy
                    unfold blankI
                    simp
                  · have : ((x, true) :: it2).getLast? = some z := by rw [List.getLast?_cons, hl]; rfl
                    rw [this] at hy
                    injection hy with hy
                    subst hy
                    exact g3 it2 q1 z hl
          · rw [items_self _ _ hs, items_self _ _ hs, h2]
            refine ⟨by cases itemsE (u.take (solE u)) <;> rfl, fun it hit y hy => ?_⟩
            obtain ⟨it2, q1, q2⟩ := Option.map_eq_some_iff.1 hit
            subst q2
            rcases hl : it2.getLast? with _ | z
            · have : it2 = [] := by simpa using hl
              subst this
              have hy : some (a, true) = some y := hy
              injection hy with hy
              subst hy
              unfold blankI
              simp
            · have : ((a, true) :: it2).getLast? = some z := by rw [List.getLast?_cons, hl]; rfl
              rw [this] at hy
              injection hy with hy
              subst hy
              exact h3 it2 q1 z hl
      · rw [end_own _ _ hst h92] at he ⊢
        have he2 : endE t ≤ t.length := by simp only [List.length_cons] at he; omega
        obtain ⟨j, h1, h2, h3⟩ := sol_items n t ht he2
        have t1 : ∀ k, (c :: t).take (1 + k) = c :: t.take k := fun k => by rw [Nat.add_comm]; rfl
        rw [sol_own _ _ hst h92]
        by_cases h0 : solE t = 0 ∧ c = 32
        · rw [if_pos h0]
          rw [h0.1] at h1
          have h1 : t.take (endE t) = List.replicate j 32 := h1
          refine ⟨j + 1, ?_, ?_, fun it h x hx => ?_⟩
          · rw [t1, h1, h0.2]
            rfl
          · rw [t1, h1, h0.2]
            show itemsE (List.replicate (j + 1) 32) = some (List.replicate (j + 1) (32, false))
            exact items_blank _
          · have h : some [] = some it := h
            injection h with h
            subst h
            cases hx
        · rw [if_neg h0, t1, t1]
          refine ⟨j, by rw [h1]; rfl, ?_, fun it hit y hy => ?_⟩
          · rw [items_own _ _ h92, items_own _ _ h92, h2]
            cases itemsE (t.take (solE t)) <;> rfl
          · rw [items_own _ _ h92] at hit
            obtain ⟨it2, q1, q2⟩ := Option.map_eq_some_iff.1 hit
            subst q2
            rcases hl : it2.getLast? with _ | z
            · have : it2 = [] := by simpa using hl
              subst this
              have hy : some (c, false) = some y := hy
              injection hy with hy
              subst hy
              have hn := items_nil q1
              have ht0 : solE t = 0 := by
                rcases t with _ | ⟨d, t'⟩
                · rfl
                · rcases hk : solE (d :: t') with _ | k
                  · rfl
                  · rw [hk] at hn
                    cases hn
              have hc : c ≠ 32 := fun e => h0 ⟨ht0, e⟩
              unfold blankI
              simp [hc]
            · have : ((c, false) :: it2).getLast? = some z := by rw [List.getLast?_cons, hl]; rfl
              rw [this] at hy
              injection hy with hy
              subst hy
              exact h3 it2 q1 z hl
    · obtain ⟨s1, s2⟩ := sol_stop c t hst
      rw [s1, s2]
      exact ⟨0, rfl, rfl, fun it h x hx => by
        have h : some [] = some it := h
        injection h with h
        subst h
        cases hx⟩
end Go.Proofs.YtbdbgiecfkgimaaDoor
