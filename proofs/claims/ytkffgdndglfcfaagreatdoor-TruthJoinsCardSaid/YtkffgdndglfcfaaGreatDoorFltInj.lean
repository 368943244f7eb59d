/-
  An element is one right filter's alone, as data.
-/
import Derived.Test.YtkffgdndglfcfaaGreatDoorFltEl
namespace Go.Proofs.YtkffgdndglfcfaaGreatDoor

theorem oct_inj {c n : Int} {l m : List UInt8} (h : octE c n l = octE c n m) : l = m := by
  unfold octE at h
  injection h with _ _ _ h _
  exact nb_inj h
theorem parts_num (f : Ft) (n : Int) : f.parts.filter (fun e => decide (e.n = n)) = (if n = 0 then (if f.a = [] then [] else [octE 2 0 f.a]) else []) ++ ((if n = 1 then f.b.map (octE 2 1) else []) ++ (if n = 2 then (if f.z = [] then [] else [octE 2 2 f.z]) else [])) := by
  unfold Ft.parts
  rw [List.filter_append, List.filter_append]
  have h1 : ∀ (m : Int) (l : List UInt8), (if l = [] then [] else [octE 2 m l]).filter (fun e => decide (e.n = n)) = if n = m then (if l = [] then [] else [octE 2 m l]) else [] := by
    intro m l
    split
    · simp
    · have : (octE 2 m l).n = m := rfl
      by_cases h : n = m
      · subst h
        simp [this]
      · have h' : ¬ m = n := fun e => h e.symm
        simp [this, h, h']
  have h2 : (f.b.map (octE 2 1)).filter (fun e => decide (e.n = n)) = if n = 1 then f.b.map (octE 2 1) else [] := by
    have h3 : ∀ l : List El, (∀ e ∈ l, e.n = 1) → l.filter (fun e => decide (e.n = n)) = if n = 1 then l else [] := by
      intro l hl
      by_cases h : n = 1
      · rw [if_pos h, List.filter_eq_self]
        exact fun e he => decide_eq_true ((hl e he).trans h.symm)
      · rw [if_neg h, List.filter_eq_nil_iff]
        intro e he hd
        exact h ((of_decide_eq_true hd).symm.trans (hl e he))
    refine h3 _ fun e he => ?_
    obtain ⟨x, _, rfl⟩ := List.mem_map.1 he
    rfl
  rw [h1, h2, h1]
theorem opt_inj {n : Int} {l m : List UInt8} (h : (if l = [] then [] else [octE 2 n l]) = (if m = [] then [] else [octE 2 n m])) : l = m := by
  by_cases hl : l = []
  · by_cases hm : m = []
    · rw [hl, hm]
    · rw [if_pos hl, if_neg hm] at h
      cases h
  · by_cases hm : m = []
    · rw [if_neg hl, if_pos hm] at h
      cases h
    · rw [if_neg hl, if_neg hm] at h
      injection h with h
      exact oct_inj h
theorem parts_inj {f g : Ft} (h : f.parts = g.parts) : f.a = g.a ∧ f.b = g.b ∧ f.z = g.z := by
  have key : ∀ n : Int, _ = _ := fun n => (parts_num f n).symm.trans ((congrArg (fun l : List El => l.filter (fun e => decide (e.n = n))) h).trans (parts_num g n))
  have k0 := key 0
  have k1 := key 1
  have k2 := key 2
  have e01 : ¬ (0 : Int) = 1 := by omega
  have e02 : ¬ (0 : Int) = 2 := by omega
  have e10 : ¬ (1 : Int) = 0 := by omega
  have e12 : ¬ (1 : Int) = 2 := by omega
  have e20 : ¬ (2 : Int) = 0 := by omega
  have e21 : ¬ (2 : Int) = 1 := by omega
  rw [if_pos rfl, if_neg e01, if_neg e02, if_pos rfl, if_neg e01, if_neg e02, List.append_nil, List.append_nil, List.append_nil] at k0
  rw [if_neg e10, if_pos rfl, if_neg e12, if_neg e10, if_pos rfl, if_neg e12, List.append_nil, List.append_nil, List.nil_append, List.nil_append] at k1
  rw [if_neg e20, if_neg e21, if_pos rfl, if_neg e20, if_neg e21, if_pos rfl, List.nil_append, List.nil_append, List.nil_append, List.nil_append] at k2
  refine ⟨opt_inj k0, ?_, opt_inj k2⟩
  revert k1
  generalize f.b = b
  generalize g.b = d
  intro k1
  induction b generalizing d with
  | nil =>
    cases d with
    | nil => rfl
    | cons => simp at k1
  | cons x b ih =>
    cases d with
    | nil => simp at k1
    | cons y d =>
      rw [List.map_cons, List.map_cons] at k1
      injection k1 with h1 h2
      rw [oct_inj h1, ih d h2]
theorem of_inj {a b : List El} (h : Fo.of a = Fo.of b) : a = b := by
  have := congrArg Fo.list h
  rwa [Fo.list_of, Fo.list_of] at this
theorem ft_el_one {f g : Ft} (hf : f.one = true) (hg : g.one = true) (ih : f.g.el = g.g.el → f.g = g.g) (h : f.el = g.el) : f = g := by
  have hk : f.k = g.k := by
    unfold Ft.el at h
    injection h
  by_cases h3 : f.k < 3
  · have h3' : g.k < 3 := by omega
    rw [el_node h3, el_node h3'] at h
    injection h with _ _ _ _ h
    have a := node_ok hf h3
    have b := node_ok hg h3'
    exact ft_ext hk (ih h) (a.t.trans b.t.symm) (a.v.trans b.v.symm) (a.a.trans b.a.symm) (a.z.trans b.z.symm) (a.b.trans b.b.symm)
  · have h3' : ¬ g.k < 3 := by omega
    have a := leaf_ok hf h3
    have b := leaf_ok hg h3'
    have hgg := a.g.trans b.g.symm
    by_cases h7 : f.k = 7
    · have h7' : g.k = 7 := by omega
      rw [el_7 h7, el_7 h7'] at h
      injection h with _ _ _ h _
      obtain ⟨x1, x2, x3⟩ := a.a (by omega)
      obtain ⟨y1, y2, y3⟩ := b.a (by omega)
      exact ft_ext hk hgg (nb_inj h) ((a.v7 h7).trans (b.v7 h7').symm) (x1.trans y1.symm) (x2.trans y2.symm) (x3.trans y3.symm)
    · have h7' : g.k ≠ 7 := by omega
      rw [el_two h3 h7, el_two h3' h7'] at h
      injection h with _ _ _ _ h
      have h := of_inj h
      injection h with h1 h2
      injection h2 with h2 _
      have ht := oct_inj h1
      by_cases h4 : f.k = 4
      · have h4' : g.k = 4 := by omega
        unfold Ft.snd at h2
        rw [if_pos h4, if_pos h4'] at h2
        injection h2 with _ _ _ _ h2
        obtain ⟨p1, p2, p3⟩ := parts_inj (of_inj h2)
        exact ft_ext hk hgg ht ((a.v4 h4).trans (b.v4 h4').symm) p1 p3 p2
      · have h4' : g.k ≠ 4 := by omega
        unfold Ft.snd at h2
        rw [if_neg h4, if_neg h4'] at h2
        obtain ⟨x1, x2, x3⟩ := a.a h4
        obtain ⟨y1, y2, y3⟩ := b.a h4'
        exact ft_ext hk hgg ht (oct_inj h2) (x1.trans y1.symm) (x2.trans y2.symm) (x3.trans y3.symm)
theorem gl_el_inj : ∀ g h : Gl, g.all = true → h.all = true → g.el = h.el → g = h
  | .nil, .nil, _, _, _ => rfl
  | .nil, .cons .., _, _, e => by rw [Gl.el, Gl.el] at e; cases e
  | .cons .., .nil, _, _, e => by rw [Gl.el, Gl.el] at e; cases e
  | .cons k g t v a z b nx, .cons k' g' t' v' a' z' b' nx', hg, hh, e => by
    rw [Gl.all, Bool.and_eq_true, Bool.and_eq_true] at hg hh
    have e' := congrArg Fo.list e
    rw [Gl.el_list, Gl.el_list, Gl.list, Gl.list, List.map_cons, List.map_cons] at e'
    injection e' with e1 e2
    have e3 : nx.el = nx'.el := by
      have := congrArg Fo.of e2
      rwa [← Gl.el_list, ← Gl.el_list, Fo.of_list, Fo.of_list] at this
    have q := ft_el_one (f := ⟨k, g, t, v, a, z, b⟩) (g := ⟨k', g', t', v', a', z', b'⟩) hg.1.1 hh.1.1 (gl_el_inj g g' hg.1.2 hh.1.2) e1
    have q2 := gl_el_inj nx nx' hg.2 hh.2 e3
    injection q with w1 w2 w3 w4 w5 w6 w7
    rw [w1, w2, w3, w4, w5, w6, w7, q2]
theorem ft_el_inj {f g : Ft} (hf : f.all = true) (hg : g.all = true) (h : f.el = g.el) : f = g := by
  unfold Ft.all at hf hg
  rw [Bool.and_eq_true] at hf hg
  exact ft_el_one hf.1 hg.1 (gl_el_inj _ _ hf.2 hg.2) h
end Go.Proofs.YtkffgdndglfcfaaGreatDoor
