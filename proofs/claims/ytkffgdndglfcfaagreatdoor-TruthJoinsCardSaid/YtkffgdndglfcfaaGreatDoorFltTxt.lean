/-
  A text is one right filter's alone, as data.
-/
import Derived.Test.YtkffgdndglfcfaaGreatDoorFltDat
namespace Go.Proofs.YtkffgdndglfcfaaGreatDoor
open Go.Lib

/-- Two rows without c, each with c behind it (or nothing, or what begins otherwise): the same in both. -/
theorem cut_one {P : Nat → Prop} {a b s t : List Nat} (ha : ∀ x ∈ a, P x) (hb : ∀ x ∈ b, P x) (hs : ∀ x, s.head? = some x → ¬ P x) (ht : ∀ x, t.head? = some x → ¬ P x) (h : a ++ s = b ++ t) : a = b ∧ s = t := by
  induction a generalizing b with
  | nil =>
    cases b with
    | nil => exact ⟨rfl, h⟩
    | cons y b =>
      exfalso
      rw [List.nil_append] at h
      exact hs y (by rw [h]; rfl) (hb y List.mem_cons_self)
  | cons x a ih =>
    cases b with
    | nil =>
      exfalso
      rw [List.nil_append] at h
      exact ht x (by rw [← h]; rfl) (ha x List.mem_cons_self)
    | cons y b =>
      rw [List.cons_append, List.cons_append] at h
      injection h with h1 h2
      subst h1
      obtain ⟨h3, h4⟩ := ih (fun z hz => ha z (List.mem_cons_of_mem _ hz)) (fun z hz => hb z (List.mem_cons_of_mem _ hz)) h2
      exact ⟨by rw [h3], h4⟩
theorem esc_inj {l m : List UInt8} (h : esc l = esc m) : l = m := by
  have h1 := unesc_esc l
  rw [h, unesc_esc m] at h1
  injection h1 with h1
  exact h1.symm
theorem esc_star (l : List UInt8) : ∀ c ∈ esc l, c ≠ 42 := fun c hc h => (esc_plain l c hc).1 (.inl h)
theorem esc_cut {l m : List UInt8} {s t : List Nat} (h : esc l ++ 42 :: s = esc m ++ 42 :: t) : l = m ∧ s = t := by
  obtain ⟨h1, h2⟩ := cut_one (P := (· ≠ 42)) (esc_star l) (esc_star m) (by simp) (by simp) h
  injection h2 with _ h2
  exact ⟨esc_inj h1, h2⟩
/-- The parts of a text with stars. -/
theorem parts_one : ∀ (b d : List (List UInt8)) (z w : List UInt8), b.flatMap (fun x => esc x ++ [42]) ++ esc z = d.flatMap (fun x => esc x ++ [42]) ++ esc w → b = d ∧ z = w
  | [], [], z, w, h => ⟨rfl, esc_inj h⟩
  | [], y :: d, z, w, h => by
    exfalso
    rw [List.flatMap_nil, List.nil_append, List.flatMap_cons] at h
    exact esc_star z 42 (by rw [h]; simp) rfl
  | x :: b, [], z, w, h => by
    exfalso
    rw [List.flatMap_nil, List.nil_append, List.flatMap_cons] at h
    exact esc_star w 42 (by rw [← h]; simp) rfl
  | x :: b, y :: d, z, w, h => by
    rw [List.flatMap_cons, List.flatMap_cons, List.append_assoc, List.append_assoc, List.append_assoc, List.append_assoc] at h
    obtain ⟨h1, h2⟩ := esc_cut h
    obtain ⟨h3, h4⟩ := parts_one b d z w h2
    exact ⟨by rw [h1, h3], h4⟩
/-- What one says of a filter without kids. -/
structure LeafOk (f : Ft) : Prop where
  hi : f.k ≤ 8
  lo : 3 ≤ f.k
  t : dscU f.t = some f.t
  g : f.g = .nil
  v4 : f.k = 4 → f.v = []
  v7 : f.k = 7 → f.v = []
  a : f.k ≠ 4 → f.a = [] ∧ f.z = [] ∧ f.b = []
  bare : f.k = 4 → f.bare = false
  b : f.k = 4 → ∀ x ∈ f.b, x ≠ []
theorem leaf_ok {f : Ft} (h : f.one = true) (hk : ¬ f.k < 3) : LeafOk f := by
  unfold Ft.one at h
  split at h
  · cases h
  · rename_i h1
    simp only [Bool.and_eq_true, decide_eq_true_eq, List.isEmpty_iff] at h
    obtain ⟨⟨h2, h3⟩, h4⟩ := h
    have hg : f.g = .nil := by
      have := Gl.of_list f.g
      rw [show f.g.list = [] from h3] at this
      exact this.symm
    by_cases h5 : f.k = 4
    · rw [if_pos h5] at h4
      simp only [Bool.and_eq_true, List.isEmpty_iff, List.all_eq_true] at h4
      obtain ⟨⟨h6, h7⟩, h8⟩ := h4
      refine ⟨by omega, by omega, h2, hg, fun _ => h6, fun h => by omega, fun h => absurd h5 h, fun _ => by simpa using h7, fun _ x hx e => ?_⟩
      have := h8 x hx
      rw [e] at this
      cases this
    · rw [if_neg h5] at h4
      rw [Bool.and_eq_true] at h4
      obtain ⟨h6, h7⟩ := h4
      unfold Ft.bare at h6
      simp only [Bool.and_eq_true, List.isEmpty_iff] at h6
      refine ⟨by omega, by omega, h2, hg, fun h => absurd h h5, fun h => ?_, fun _ => ⟨h6.1.1, h6.1.2, h6.2⟩, fun h => absurd h h5, fun h => absurd h h5⟩
      rw [h] at h7
      simpa using h7
/-- What one says of a filter with kids. -/
structure NodeOk (f : Ft) : Prop where
  lo : 0 ≤ f.k
  hi : f.k < 3
  t : f.t = []
  v : f.v = []
  a : f.a = []
  z : f.z = []
  b : f.b = []
  one : f.k = 2 → f.kids.length = 1
theorem node_ok {f : Ft} (h : f.one = true) (hk : f.k < 3) : NodeOk f := by
  unfold Ft.one at h
  split at h
  · cases h
  · rename_i h1
    unfold Ft.bare at h
    simp only [Bool.and_eq_true, Bool.or_eq_true, decide_eq_true_eq, List.isEmpty_iff] at h
    obtain ⟨⟨⟨⟨⟨ha, hz⟩, hb⟩, ht⟩, hv⟩, ho⟩ := h
    exact ⟨by omega, hk, ht, hv, ha, hz, hb, fun h2 => ho.resolve_left (by omega)⟩
theorem ft_ext {f g : Ft} (h1 : f.k = g.k) (h2 : f.g = g.g) (h3 : f.t = g.t) (h4 : f.v = g.v) (h5 : f.a = g.a) (h6 : f.z = g.z) (h7 : f.b = g.b) : f = g := by
  obtain ⟨k, x, t, v, a, z, b⟩ := f
  obtain ⟨k', x', t', v', a', z', b'⟩ := g
  simp only at h1 h2 h3 h4 h5 h6 h7
  subst h1 h2 h3 h4 h5 h6 h7
  rfl
def isD (c : Nat) : Prop := c = 45 ∨ c = 46 ∨ c = 59 ∨ 48 ≤ c ∧ c ≤ 57 ∨ 97 ≤ c ∧ c ≤ 122
theorem opn_head (k : Int) : ∃ c r, opn k = c :: r ∧ (c = 60 ∨ c = 61 ∨ c = 62 ∨ c = 126) := by
  unfold opn
  split
  · exact ⟨_, _, rfl, by omega⟩
  · split
    · exact ⟨_, _, rfl, by omega⟩
    · split
      · exact ⟨_, _, rfl, by omega⟩
      · exact ⟨_, _, rfl, by omega⟩
theorem leaf_cut {f g : Ft} (hf : LeafOk f) (hg : LeafOk g) (h : f.leaf = g.leaf) : f.t = g.t ∧ opn f.k ++ f.rest = opn g.k ++ g.rest := by
  unfold Ft.leaf at h
  have hd : ∀ (k : Int) (r : List Nat) (x : Nat), (opn k ++ r).head? = some x → ¬ isD x := by
    intro k r x hx
    obtain ⟨c, r', h1, h2⟩ := opn_head k
    rw [h1] at hx
    have : c = x := by simpa using hx
    subst this
    unfold isD
    omega
  obtain ⟨h1, h2⟩ := cut_one (P := isD) (nb_dch (dsc_ch hf.t)) (nb_dch (dsc_ch hg.t)) (hd _ _) (hd _ _) h
  exact ⟨nb_inj h1, h2⟩
theorem rest4 {f : Ft} (h : f.k = 4) : f.rest = esc f.a ++ 42 :: (f.b.flatMap (fun x => esc x ++ [42]) ++ esc f.z) := by
  unfold Ft.rest
  rw [if_neg (by omega), if_pos h]
theorem rest7 {f : Ft} (h : f.k = 7) : f.rest = [42] := by
  unfold Ft.rest
  rw [if_pos h]
theorem restV {f : Ft} (h : f.k ≠ 7) (h4 : f.k ≠ 4) : f.rest = esc f.v := by
  unfold Ft.rest
  rw [if_neg h, if_neg h4]
theorem rest_47 {f : Ft} (hf : LeafOk f) (h : f.k = 4) (e : f.rest = [42]) : False := by
  rw [rest4 h] at e
  have h2 := hf.bare h
  have ha : esc f.a = [] := by
    cases hE : esc f.a with
    | nil => rfl
    | cons c r =>
      rw [hE] at e
      simp at e
  rw [ha] at e
  have hr : f.b.flatMap (fun x => esc x ++ [42]) ++ esc f.z = [] := by simpa using e
  obtain ⟨h3, h4⟩ := List.append_eq_nil_iff.1 hr
  have hb : f.b = [] := by
    cases hB : f.b with
    | nil => rfl
    | cons x r =>
      rw [hB, List.flatMap_cons] at h3
      simp at h3
  have ez : ∀ l : List UInt8, esc l = [] → l = [] := fun l hl => esc_inj (hl.trans esc_nil.symm)
  unfold Ft.bare at h2
  rw [ez _ ha, ez _ h4, hb] at h2
  cases h2
theorem leaf_one {f g : Ft} (hf : LeafOk f) (hg : LeafOk g) (h : f.leaf = g.leaf) : f = g := by
  obtain ⟨ht, hr⟩ := leaf_cut hf hg h
  have hgg : f.g = g.g := hf.g.trans hg.g.symm
  have f1 := hf.lo
  have f2 := hf.hi
  have g1 := hg.lo
  have g2 := hg.hi
  have key : f.k = g.k ∧ f.rest = g.rest := by
    have c4 : ∀ {f g : Ft}, LeafOk f → LeafOk g → f.k = 4 → g.k ≠ 4 → f.rest = g.rest → False := by
      intro f g hf hg h4 h4' e
      by_cases h7 : g.k = 7
      · exact rest_47 hf h4 (e.trans (rest7 h7))
      · rw [restV h7 h4', rest4 h4] at e
        exact esc_star g.v 42 (by rw [← e]; simp) rfl
    have c7 : ∀ {f g : Ft}, LeafOk f → LeafOk g → f.k = 7 → g.k ≠ 7 → g.k ≠ 4 → f.rest = g.rest → False := by
      intro f g hf hg h7 h7' h4' e
      rw [restV h7' h4', rest7 h7] at e
      exact esc_star g.v 42 (by rw [← e]; simp) rfl
    unfold opn at hr
    by_cases a5 : f.k = 5 <;> by_cases b5 : g.k = 5 <;> by_cases a6 : f.k = 6 <;> by_cases b6 : g.k = 6 <;> by_cases a8 : f.k = 8 <;> by_cases b8 : g.k = 8 <;> first | omega | skip
    all_goals simp only [a5, b5, a6, b6, a8, b8, if_true, if_false, List.cons_append, List.nil_append, List.cons.injEq, true_and, Nat.reduceEqDiff, false_and, Int.reduceEq] at hr
    · exact ⟨by omega, hr⟩
    · exact ⟨by omega, hr⟩
    · exact ⟨by omega, hr⟩
    · by_cases a4 : f.k = 4
      · by_cases b4 : g.k = 4
        · exact ⟨by omega, hr⟩
        · exact (c4 hf hg a4 b4 hr).elim
      · by_cases b4 : g.k = 4
        · exact (c4 hg hf b4 a4 hr.symm).elim
        · by_cases a7 : f.k = 7
          · by_cases b7 : g.k = 7
            · exact ⟨by omega, hr⟩
            · exact (c7 hf hg a7 b7 b4 hr).elim
          · by_cases b7 : g.k = 7
            · exact (c7 hg hf b7 a7 a4 hr.symm).elim
            · exact ⟨by omega, hr⟩
  obtain ⟨hk, he⟩ := key
  by_cases a4 : f.k = 4
  · have b4 : g.k = 4 := hk.symm.trans a4
    rw [rest4 a4, rest4 b4] at he
    obtain ⟨h1, h2⟩ := esc_cut he
    obtain ⟨h3, h4⟩ := parts_one _ _ _ _ h2
    exact ft_ext hk hgg ht ((hf.v4 a4).trans (hg.v4 b4).symm) h1 h4 h3
  · have b4 : g.k ≠ 4 := fun e => a4 (hk.trans e)
    obtain ⟨x1, x2, x3⟩ := hf.a a4
    obtain ⟨y1, y2, y3⟩ := hg.a b4
    refine ft_ext hk hgg ht ?_ (x1.trans y1.symm) (x2.trans y2.symm) (x3.trans y3.symm)
    by_cases a7 : f.k = 7
    · exact (hf.v7 a7).trans (hg.v7 (hk.symm.trans a7)).symm
    · rw [restV a7 a4, restV (fun e => a7 (hk.trans e)) b4] at he
      exact esc_inj he
/-- No bracket stands in the body of a filter without kids. -/
theorem leaf_plain {f : Ft} (hf : LeafOk f) : ∀ c ∈ f.leaf, c ≠ 40 ∧ c ≠ 41 ∧ c < 256 := by
  have he : ∀ l : List UInt8, ∀ c ∈ esc l, c ≠ 40 ∧ c ≠ 41 ∧ c < 256 := fun l c hc => by
    have := esc_plain l c hc
    omega
  intro c hc
  unfold Ft.leaf at hc
  rcases List.mem_append.1 hc with hc | hc
  · have := nb_dch (dsc_ch hf.t) c hc
    omega
  · rcases List.mem_append.1 hc with hc | hc
    · unfold opn at hc
      split at hc
      · simp at hc; omega
      · split at hc
        · simp at hc; omega
        · split at hc
          · simp at hc; omega
          · simp at hc; omega
    · unfold Ft.rest at hc
      split at hc
      · simp at hc; omega
      · split at hc
        · rcases List.mem_append.1 hc with hc | hc
          · exact he _ c hc
          · rcases List.mem_cons.1 hc with hc | hc
            · omega
            · rcases List.mem_append.1 hc with hc | hc
              · obtain ⟨x, _, hc⟩ := List.mem_flatMap.1 hc
                rcases List.mem_append.1 hc with hc | hc
                · exact he _ c hc
                · simp at hc; omega
              · exact he _ c hc
        · exact he _ c hc
theorem leaf_head {f : Ft} (hf : LeafOk f) (r : List Nat) : ∃ c, (f.leaf ++ r).head? = some c ∧ isD c := by
  have h1 := dsc_ne hf.t
  have h2 := nb_dch (dsc_ch hf.t)
  unfold Ft.leaf
  cases hn : nb f.t with
  | nil => exact absurd (nb_nil hn) h1
  | cons c s => exact ⟨c, rfl, h2 c (by rw [hn]; exact List.mem_cons_self)⟩
/-- A row's text, with what stands behind it, is one row's alone. -/
theorem text_one : ∀ (g h : Gl), g.all = true → h.all = true → ∀ s t : List Nat, s.head? ≠ some 40 → t.head? ≠ some 40 → g.text ++ s = h.text ++ t → g = h ∧ s = t
  | .nil, .nil, _, _, s, t, _, _, e => ⟨rfl, e⟩
  | .nil, .cons .., _, _, s, t, hs, _, e => by
    exfalso
    apply hs
    rw [Gl.text, List.nil_append] at e
    rw [e, Gl.text]
    rfl
  | .cons .., .nil, _, _, s, t, _, ht, e => by
    exfalso
    apply ht
    rw [Gl.text, Gl.text, List.nil_append] at e
    rw [← e]
    rfl
  | .cons k x t v a z b nx, .cons k' x' t' v' a' z' b' nx', hg, hh, s, r, hs, hr, e => by
    rw [Gl.all, Bool.and_eq_true, Bool.and_eq_true] at hg hh
    obtain ⟨⟨o1, o2⟩, o3⟩ := hg
    obtain ⟨⟨p1, p2⟩, p3⟩ := hh
    rw [Gl.text, Gl.text, List.cons_append, List.cons_append, List.append_assoc, List.append_assoc, List.cons_append, List.cons_append] at e
    injection e with _ e
    by_cases hk : k < 3
    · rw [if_pos hk] at e
      have n1 := node_ok o1 hk
      by_cases hk' : k' < 3
      · rw [if_pos hk'] at e
        have n2 := node_ok p1 hk'
        rw [List.cons_append, List.cons_append] at e
        injection e with e1 e2
        obtain ⟨q1, q2⟩ := text_one x x' o2 p2 _ _ (by simp) (by simp) e2
        injection q2 with _ q2
        obtain ⟨q3, q4⟩ := text_one nx nx' o3 p3 s r hs hr q2
        have hkk : k = k' := by
          have i1 := n1.lo
          have i2 := n2.lo
          simp only at i1 i2
          unfold sgn at e1
          by_cases a0 : k = 0 <;> by_cases b0 : k' = 0 <;> by_cases a1 : k = 1 <;> by_cases b1 : k' = 1 <;> first | omega | simp_all
        have j1 := n1.t; have j2 := n1.v; have j3 := n1.a; have j4 := n1.z; have j5 := n1.b
        have l1 := n2.t; have l2 := n2.v; have l3 := n2.a; have l4 := n2.z; have l5 := n2.b
        simp only at j1 j2 j3 j4 j5 l1 l2 l3 l4 l5
        exact ⟨by rw [hkk, q1, q3, j1, j2, j3, j4, j5, l1, l2, l3, l4, l5], q4⟩
      · exfalso
        rw [if_neg hk'] at e
        obtain ⟨c, h1, h2⟩ := leaf_head (leaf_ok p1 hk') (41 :: (nx'.text ++ r))
        rw [← e] at h1
        have : sgn k = c := by simpa using h1
        subst this
        unfold sgn isD at h2
        split at h2
        · omega
        · split at h2 <;> omega
    · rw [if_neg hk] at e
      by_cases hk' : k' < 3
      · exfalso
        rw [if_pos hk'] at e
        obtain ⟨c, h1, h2⟩ := leaf_head (leaf_ok o1 hk) (41 :: (nx.text ++ s))
        rw [e] at h1
        have : sgn k' = c := by simpa using h1
        subst this
        unfold sgn isD at h2
        split at h2
        · omega
        · split at h2 <;> omega
      · rw [if_neg hk'] at e
        have n1 := leaf_ok o1 hk
        have n2 := leaf_ok p1 hk'
        obtain ⟨q1, q2⟩ := cut_one (P := (· ≠ 41)) (fun c hc => (leaf_plain n1 c hc).2.1) (fun c hc => (leaf_plain n2 c hc).2.1) (by simp) (by simp) e
        injection q2 with _ q2
        obtain ⟨q3, q4⟩ := text_one nx nx' o3 p3 s r hs hr q2
        have q5 := leaf_one n1 n2 q1
        injection q5 with w1 w2 w3 w4 w5 w6 w7
        subst w1 w2 w3 w4 w5 w6 w7 q3
        exact ⟨rfl, q4⟩
theorem ft_text (f : Ft) : f.text = (Gl.cons f.k f.g f.t f.v f.a f.z f.b .nil).text := by
  unfold Ft.text Ft.body
  rw [Gl.text]
  show _ = 40 :: ((if f.k < 3 then _ else f.leaf) ++ [41])
  rfl
theorem ft_text_inj {f g : Ft} (hf : f.all = true) (hg : g.all = true) (h : f.text = g.text) : f = g := by
  rw [ft_text, ft_text] at h
  have e := text_one (Gl.cons f.k f.g f.t f.v f.a f.z f.b .nil) (Gl.cons g.k g.g g.t g.v g.a g.z g.b .nil) (by rw [Gl.all]; unfold Ft.all at hf; rw [Gl.all, Bool.and_true]; exact hf) (by rw [Gl.all]; unfold Ft.all at hg; rw [Gl.all, Bool.and_true]; exact hg) [] [] (by simp) (by simp) (by rw [List.append_nil, List.append_nil]; exact h)
  injection e.1 with w1 w2 w3 w4 w5 w6 w7
  exact ft_ext w1 w2 w3 w4 w5 w6 w7
end Go.Proofs.YtkffgdndglfcfaaGreatDoor
