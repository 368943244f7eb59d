/-
  A string in a name, read from its solid part alone, as data.
-/
import Derived.Test.YtbdbgiecfkgimaaDoorUnesc10
namespace Go.Proofs.YtbdbgiecfkgimaaDoor

/-- What the solid part of a string, without the blanks ahead, stands for. -/
def decP : List Nat → Option (List Nat)
  | [] => some []
  | c :: u => if c = 35 then (if u = [] then none else unhexE u) else unescD selfE (c :: u)
theorem sol_last : ∀ (n : Nat) (l : List Nat), l.length ≤ n → endE l ≤ l.length → l.take (solE l) = [] ∨ (∃ z c, l.take (solE l) = z ++ [c] ∧ c ≠ 32) ∨ ∃ z, l.take (solE l) = z ++ [92, 32]
  | _, [], _, _ => .inl rfl
  | 0, c :: t, h, _ => by simp at h
  | n + 1, c :: t, h, he => by
    have ht : t.length ≤ n := by simp only [List.length_cons] at h; omega
    cases hst : stopE c
    · by_cases h92 : c = 92
      · subst h92
        rcases t with _ | ⟨a, u⟩
        · exfalso
          have : endE [92] = 2 := by decide
          rw [this] at he
          simp at he
        · rw [end_esc] at he
          have he2 : endE u ≤ u.length := by simp only [List.length_cons] at he; omega
          have ih := sol_last n u (by simp only [List.length_cons] at ht; omega) he2
          rw [sol_esc]
          have t1 : (92 :: a :: u).take (2 + solE u) = 92 :: a :: u.take (solE u) := by rw [Nat.add_comm]; rfl
          rw [t1]
          rcases ih with ih | ⟨z, d, ih, hd⟩ | ⟨z, ih⟩
          · rw [ih]
            by_cases ha : a = 32
            · subst ha
              exact .inr (.inr ⟨[], rfl⟩)
            · exact .inr (.inl ⟨[92], a, rfl, ha⟩)
          · exact .inr (.inl ⟨92 :: a :: z, d, by rw [ih]; rfl, hd⟩)
          · exact .inr (.inr ⟨92 :: a :: z, by rw [ih]; rfl⟩)
      · rw [end_own _ _ hst h92] at he
        have he2 : endE t ≤ t.length := by simp only [List.length_cons] at he; omega
        have ih := sol_last n t ht he2
        rw [sol_own _ _ hst h92]
        by_cases h0 : solE t = 0 ∧ c = 32
        · rw [if_pos h0]
          exact .inl rfl
        · rw [if_neg h0]
          have t1 : (c :: t).take (1 + solE t) = c :: t.take (solE t) := by rw [Nat.add_comm]; rfl
          rw [t1]
          rcases ih with ih | ⟨z, d, ih, hd⟩ | ⟨z, ih⟩
          · rw [ih]
            have ht0 : solE t = 0 := by
              rcases t with _ | ⟨d, t'⟩
              · rfl
              · rcases hk : solE (d :: t') with _ | k
                · rfl
                · rw [hk] at ih
                  cases ih
            exact .inr (.inl ⟨[], c, rfl, fun e => h0 ⟨ht0, e⟩⟩)
          · exact .inr (.inl ⟨c :: z, d, by rw [ih]; rfl, hd⟩)
          · exact .inr (.inr ⟨c :: z, by rw [ih]; rfl⟩)
    · rw [(sol_stop c t hst).1]
      exact .inl rfl
theorem unhex_not : ∀ (n : Nat) (l : List Nat), l.length ≤ n → 92 ∈ l → unhexE l = none
  | _, [], _, h => absurd h List.not_mem_nil
  | _, [_], _, _ => rfl
  | 0, _ :: _ :: _, h, _ => by simp at h
  | n + 1, a :: b :: t, h, hm => by
    unfold unhexE
    by_cases ha : a = 92
    · have : pairE a b = none := by rw [ha]; rfl
      rw [this]
      rfl
    · by_cases hb : b = 92
      · have : pairE a b = none := by
          cases hp : pairE a b with
          | none => rfl
          | some x => exact absurd hb (pair_digit hp).2.1
        rw [this]
        rfl
      · have hm2 : 92 ∈ t := by
          rcases List.mem_cons.1 hm with h1 | h1
          · exact absurd h1.symm ha
          · rcases List.mem_cons.1 h1 with h2 | h2
            · exact absurd h2.symm hb
            · exact h2
        rw [unhex_not n t (by simp only [List.length_cons] at h; omega) hm2]
        cases pairE a b <;> rfl
theorem unhex_nil {l : List Nat} (h : unhexE l = some []) : l = [] := by
  rcases l with _ | ⟨a, _ | ⟨b, t⟩⟩
  · rfl
  · cases h
  · unfold unhexE at h
    cases hp : pairE a b with
    | none => rw [hp] at h; cases h
    | some x =>
      rw [hp] at h
      have h : (unhexE t).map (x :: ·) = some [] := h
      cases hi : unhexE t <;> rw [hi] at h <;> cases h
theorem trimB_blanks (u : List Nat) : ∀ j, trimB (u ++ List.replicate j 32) = trimB u
  | 0 => by rw [List.replicate_zero, List.append_nil]
  | j + 1 => by
    rw [← trimB_blanks u j]
    unfold trimB
    rw [show List.replicate (j + 1) 32 = List.replicate j 32 ++ [32] from List.replicate_succ', ← List.append_assoc, List.reverse_append]
    show ((32 :: (u ++ List.replicate j 32).reverse).dropWhile _).reverse = _
    rw [List.dropWhile_cons_of_pos (by rfl)]
theorem trimB_keep (z : List Nat) (c : Nat) (h : c ≠ 32) : trimB (z ++ [c]) = z ++ [c] := by
  unfold trimB
  rw [List.reverse_append]
  show ((c :: z.reverse).dropWhile _).reverse = _
  rw [List.dropWhile_cons_of_neg (by simpa using h)]
  simp
theorem trimE_blanks (it : List (Nat × Bool)) : ∀ j, trimE (it ++ List.replicate j (32, false)) = trimE it
  | 0 => by rw [List.replicate_zero, List.append_nil]
  | j + 1 => by
    rw [← trimE_blanks it j, show List.replicate (j + 1) ((32, false) : Nat × Bool) = List.replicate j (32, false) ++ [(32, false)] from List.replicate_succ', ← List.append_assoc]
    exact trim_one _ _ rfl
theorem items_ahead (w : List Nat) : ∀ i, itemsE (List.replicate i 32 ++ w) = (itemsE w).map (List.replicate i (32, false) ++ ·)
  | 0 => by
    show itemsE w = _
    cases itemsE w <;> rfl
  | i + 1 => by
    show itemsE (32 :: (List.replicate i 32 ++ w)) = _
    rw [items_own _ _ (by decide), items_ahead w i]
    cases itemsE w <;> rfl
theorem drop_ahead (w : List Nat) : ∀ i, (List.replicate i 32 ++ w).dropWhile (· == 32) = w.dropWhile (· == 32)
  | 0 => rfl
  | i + 1 => by
    show (32 :: (List.replicate i 32 ++ w)).dropWhile _ = _
    rw [List.dropWhile_cons_of_pos (by rfl), drop_ahead w i]
theorem ahead_of : ∀ x : List Nat, ∃ i, x = List.replicate i 32 ++ x.dropWhile (· == 32)
  | [] => ⟨0, rfl⟩
  | c :: t => by
    by_cases h : c = 32
    · obtain ⟨i, hi⟩ := ahead_of t
      refine ⟨i + 1, ?_⟩
      rw [h, List.dropWhile_cons_of_pos (by rfl)]
      show 32 :: t = 32 :: (List.replicate i 32 ++ _)
      rw [← hi]
    · refine ⟨0, ?_⟩
      rw [List.dropWhile_cons_of_neg (by simpa using h)]
      rfl
theorem head_drop {x : List Nat} {c : Nat} {u : List Nat} (h : x.dropWhile (· == 32) = c :: u) : c ≠ 32 := by
  intro e
  have h1 := List.head?_dropWhile_not (· == 32) x
  rw [h] at h1
  have h1 : (!(c == 32)) = true := by simpa using h1
  rw [e] at h1
  exact absurd h1 (by decide)
theorem dec_sol (l : List Nat) (he : endE l ≤ l.length) : decE (l.take (endE l)) = decP ((l.take (solE l)).dropWhile (· == 32)) := by
  obtain ⟨j, h1, h2, h3⟩ := sol_items l.length l (Nat.le_refl _) he
  have h4 := sol_last l.length l (Nat.le_refl _) he
  rw [h1] at h2 ⊢
  obtain ⟨x, hx⟩ : ∃ x, l.take (solE l) = x := ⟨_, rfl⟩
  rw [hx] at h2 h3 h4 ⊢
  clear h1 hx he
  obtain ⟨i, hi⟩ := ahead_of x
  unfold decE
  rcases hy : x.dropWhile (· == 32) with _ | ⟨c, u⟩
  · rw [hy, List.append_nil] at hi
    rw [hi, drop_ahead]
    have : (List.replicate j 32).dropWhile (· == 32) = [] := by
      have := drop_ahead [] j
      rw [List.append_nil] at this
      rw [this]
      rfl
    rw [this]
    rfl
  · have hc := head_drop hy
    rw [hy] at hi
    rw [hi] at h2 h3 h4 ⊢
    have hd : ((List.replicate i 32 ++ c :: u) ++ List.replicate j 32).dropWhile (· == 32) = c :: (u ++ List.replicate j 32) := by
      rw [List.append_assoc, drop_ahead]
      exact List.dropWhile_cons_of_neg (by simpa using hc)
    rw [hd]
    show (if c = 35 then _ else _) = if c = 35 then _ else _
    by_cases h35 : c = 35
    · subst h35
      rw [if_pos rfl, if_pos rfl, trimB_blanks]
      by_cases hu : u = []
      · subst hu
        rfl
      · rw [if_neg hu]
        have key : (∃ z d, u = z ++ [d] ∧ d ≠ 32) ∨ ∃ z, u = z ++ [92, 32] := by
          rcases h4 with h4 | ⟨z, d, h4, hdd⟩ | ⟨z, h4⟩
          · exfalso
            have := congrArg List.length h4
            simp at this
          · left
            refine ⟨u.dropLast, u.getLast hu, (List.dropLast_concat_getLast hu).symm, ?_⟩
            have e1 : (List.replicate i 32 ++ 35 :: u).getLast? = u.getLast? := by
              rw [List.getLast?_append, List.getLast?_cons]
              rcases hg : u.getLast? with _ | g
              · exact absurd (by simpa using hg) hu
              · rfl
            rw [h4, List.getLast?_append] at e1
            rw [List.getLast?_eq_some_getLast hu] at e1
            have e1 : some d = some (u.getLast hu) := e1
            injection e1 with e1
            rw [← e1]
            exact hdd
          · right
            have e1 := congrArg List.reverse h4
            rw [List.reverse_append, List.reverse_append, List.reverse_cons] at e1
            rcases hr : u.reverse with _ | ⟨p, v⟩
            · exact absurd (by simpa using hr) hu
            · rw [hr] at e1
              have e2 : p :: ((v ++ [35]) ++ (List.replicate i 32).reverse) = 32 :: 92 :: z.reverse := by simpa using e1
              injection e2 with e3 e4
              rcases v with _ | ⟨q, v⟩
              · injection e4 with e5 _
                cases e5
              · injection e4 with e5 _
                refine ⟨v.reverse, ?_⟩
                have := congrArg List.reverse hr
                rw [List.reverse_reverse] at this
                rw [this, e3, e5]
                simp
        rcases key with ⟨z, d, hz, hdd⟩ | ⟨z, hz⟩
        · rw [hz, trimB_keep z d hdd, ← hz]
          rcases hq : unhexE u with _ | _ | ⟨r, q⟩
          · rfl
          · exact absurd (unhex_nil hq) hu
          · rfl
        · have n1 : unhexE u = none := unhex_not _ u (Nat.le_refl _) (by rw [hz]; simp)
          have n2 : trimB u = z ++ [92] := by
            rw [hz, show z ++ [92, 32] = (z ++ [92]) ++ List.replicate 1 32 by simp, trimB_blanks, trimB_keep _ _ (by decide)]
          have n3 : unhexE (z ++ [92]) = none := unhex_not _ _ (Nat.le_refl _) (by simp)
          rw [n2, n3, n1]
    · rw [if_neg h35, if_neg h35, items_unesc _ _ (Nat.le_refl _)]
      have e0 : List.replicate i 32 ++ c :: u ++ List.replicate j 32 = List.replicate i 32 ++ (c :: (u ++ List.replicate j 32)) := by simp
      rw [e0, items_ahead, items_ahead] at h2
      rw [items_ahead] at h3
      rcases hy1 : itemsE (c :: u) with _ | it
      · rw [hy1] at h2
        rcases hy2 : itemsE (c :: (u ++ List.replicate j 32)) with _ | it2
        · rfl
        · rw [hy2] at h2
          cases h2
      · rw [hy1] at h2 h3
        rcases hy2 : itemsE (c :: (u ++ List.replicate j 32)) with _ | it2
        · rw [hy2] at h2
          cases h2
        · rw [hy2] at h2
          have h2 : some (List.replicate i (32, false) ++ it2) = some (List.replicate i (32, false) ++ it ++ List.replicate j (32, false)) := h2
          injection h2 with h2
          rw [List.append_assoc] at h2
          have h2 := List.append_cancel_left h2
          subst h2
          show some (trimE (it ++ _)) = some (it.map Prod.fst)
          rw [trimE_blanks]
          congr 1
          refine trim_keep it fun x hx => h3 _ rfl x ?_
          rw [List.getLast?_append, hx]
          rfl
end Go.Proofs.YtbdbgiecfkgimaaDoor
