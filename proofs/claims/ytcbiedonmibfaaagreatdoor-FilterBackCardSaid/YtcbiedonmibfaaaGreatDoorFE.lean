/-
  The elements of filters, as data: they are well formed, not deep, not great, and one filter's alone.
-/
import Derived.Test.YtcbiedonmibfaaaGreatDoorDT
import Derived.Test.YtcbiedonmibfaaaGreatDoorBerD3
namespace Go.Proofs.YtcbiedonmibfaaaGreatDoor
def octE (c n : Int) (l : List UInt8) : El := ⟨c, false, n, nb l, .nil⟩
def Ft.parts (f : Ft) : List El := (if f.a = [] then [] else [octE 2 0 f.a]) ++ (f.b.map (octE 2 1) ++ (if f.z = [] then [] else [octE 2 2 f.z]))
def Ft.snd (f : Ft) : El := if f.k = 4 then ⟨0, true, 16, [], Fo.of f.parts⟩ else octE 0 4 f.v
def Gl.el : Gl → Fo
 | .nil => .nil
 | .cons k g t v a z b nx => .cons 2 (decide (k ≠ 7)) k (if k = 7 then nb t else []) (if k < 3 then g.el else if k = 7 then .nil else Fo.of [octE 0 4 t, (⟨k, g, t, v, a, z, b⟩ : Ft).snd]) nx.el
def Ft.el (f : Ft) : El := ⟨2, decide (f.k ≠ 7), f.k, if f.k = 7 then nb f.t else [], if f.k < 3 then f.g.el else if f.k = 7 then .nil else Fo.of [octE 0 4 f.t, f.snd]⟩
theorem Gl.el_list : ∀ g : Gl, g.el.list = g.list.map Ft.el
 | .nil => rfl
 | .cons k g t v a z b nx => by
   rw [Gl.el, Fo.list, Gl.list, List.map_cons, Gl.el_list nx]
   rfl
theorem el_node {f : Ft} (h : f.k < 3) : f.el = ⟨2, true, f.k, [], f.g.el⟩ := by
 unfold Ft.el
 rw [if_neg (by omega), if_pos h, decide_eq_true (by omega)]
theorem el_7 {f : Ft} (h : f.k = 7) : f.el = ⟨2, false, 7, nb f.t, .nil⟩ := by
 unfold Ft.el
 rw [if_pos h, if_neg (by omega), if_pos h, decide_eq_false (by omega), h]
theorem el_two {f : Ft} (h : ¬ f.k < 3) (h7 : f.k ≠ 7) : f.el = ⟨2, true, f.k, [], Fo.of [octE 0 4 f.t, f.snd]⟩ := by
 unfold Ft.el
 rw [if_neg h7, if_neg h, if_neg h7, decide_eq_true h7]
theorem right_oct (c n : Int) (l : List UInt8) (hc : 0 ≤ c ∧ c ≤ 3) (hn : 0 ≤ n ∧ n ≤ 268435455) : (octE c n l).right = true := by
 unfold octE El.right El.one rtB El.kids
 simp [Fo.right, Fo.list, hc.1, hc.2, hn.1, hn.2]
theorem right_of (l : List El) (h : ∀ e ∈ l, e.right = true) : (Fo.of l).right = true := by
 rw [Fo.right_list, Fo.list_of, List.all_eq_true]
 exact h
theorem right_parts (f : Ft) : ∀ e ∈ f.parts, e.right = true := by
 intro e he
 unfold Ft.parts at he
 rcases List.mem_append.1 he with he | he
 · split at he
   · cases he
   · rw [List.mem_singleton] at he
     subst he
     exact right_oct _ _ _ (by omega) (by omega)
 · rcases List.mem_append.1 he with he | he
   · obtain ⟨x, _, rfl⟩ := List.mem_map.1 he
     exact right_oct _ _ _ (by omega) (by omega)
   · split at he
     · cases he
     · rw [List.mem_singleton] at he
       subst he
       exact right_oct _ _ _ (by omega) (by omega)
theorem right_snd (f : Ft) : f.snd.right = true := by
 unfold Ft.snd
 split
 · unfold El.right El.one
   rw [right_of _ (right_parts f)]
   rfl
 · exact right_oct _ _ _ (by omega) (by omega)
theorem one_k {f : Ft} (h : f.one = true) : 0 ≤ f.k ∧ f.k ≤ 8 := by
 unfold Ft.one at h
 split at h
 · cases h
 · omega
theorem ft_el_right {f : Ft} (h1 : f.one = true) (h2 : f.g.el.right = true) : f.el.right = true := by
 have hk := one_k h1
 have hr : rtB 2 f.k = true := by
  unfold rtB
  simp
  omega
 by_cases h3 : f.k < 3
 · rw [el_node h3]
   unfold El.right El.one
   simp only [hr, h2]
   rfl
 · by_cases h7 : f.k = 7
   · rw [el_7 h7]
     rw [h7] at hr
     unfold El.right El.one
     simp only [hr]
     rfl
   · rw [el_two h3 h7]
     unfold El.right El.one
     simp only [hr]
     rw [right_of _ (by
      intro e he
      rcases List.mem_cons.1 he with rfl | he
      · exact right_oct _ _ _ (by omega) (by omega)
      · rw [List.mem_singleton] at he
        subst he
        exact right_snd f)]
     rfl
theorem gl_el_right : ∀ g : Gl, g.all = true → g.el.right = true
 | .nil, _ => rfl
 | .cons k g t v a z b nx, h => by
   rw [Gl.all, Bool.and_eq_true, Bool.and_eq_true] at h
   have h1 := ft_el_right h.1.1 (gl_el_right g h.1.2)
   have h2 := gl_el_right nx h.2
   rw [Fo.right_list] at h2 ⊢
   rw [Gl.el, Fo.list, List.all_cons, h2, Bool.and_true]
   exact h1
theorem byt_fo (l : List El) (h : ∀ e ∈ l, e.byt) : (Fo.of l).byt := byt_of l h
theorem byt_oct (c n : Int) (l : List UInt8) : (octE c n l).byt := ⟨nb_byte l, trivial⟩
theorem byt_snd (f : Ft) : f.snd.byt := by
 unfold Ft.snd
 split
 · refine ⟨(fun x hx => by cases hx), byt_fo _ fun e he => ?_⟩
   unfold Ft.parts at he
   rcases List.mem_append.1 he with he | he
   · split at he
     · cases he
     · rw [List.mem_singleton] at he
       subst he
       exact byt_oct _ _ _
   · rcases List.mem_append.1 he with he | he
     · obtain ⟨x, _, rfl⟩ := List.mem_map.1 he
       exact byt_oct _ _ _
     · split at he
       · cases he
       · rw [List.mem_singleton] at he
         subst he
         exact byt_oct _ _ _
 · exact byt_oct _ _ _
theorem ft_el_byt (f : Ft) (h : f.g.el.byt) : f.el.byt := by
 by_cases h3 : f.k < 3
 · rw [el_node h3]
   exact ⟨(fun x hx => by cases hx), h⟩
 · by_cases h7 : f.k = 7
   · rw [el_7 h7]
     exact ⟨nb_byte f.t, trivial⟩
   · rw [el_two h3 h7]
     refine ⟨(fun x hx => by cases hx), byt_fo _ fun e he => ?_⟩
     rcases List.mem_cons.1 he with rfl | he
     · exact byt_oct _ _ _
     · rw [List.mem_singleton] at he
       subst he
       exact byt_snd f
theorem gl_el_byt : ∀ g : Gl, g.el.byt
 | .nil => trivial
 | .cons k g t v a z b nx => by
   have h1 := ft_el_byt ⟨k, g, t, v, a, z, b⟩ (gl_el_byt g)
   rw [Gl.el]
   exact ⟨h1.1, h1.2, gl_el_byt nx⟩
theorem deep_of_le (l : List El) (n : Nat) (h : ∀ e ∈ l, e.deep ≤ n) : (Fo.of l).deep ≤ n := by
 induction l with
 | nil => exact Nat.zero_le _
 | cons e r ih =>
   rw [Fo.of, Fo.deep]
   have h1 := h e List.mem_cons_self
   have h2 := ih fun x hx => h x (List.mem_cons_of_mem _ hx)
   unfold El.deep at h1
   omega
theorem deep_oct (c n : Int) (l : List UInt8) : (octE c n l).deep = 1 := rfl
theorem deep_snd (f : Ft) : f.snd.deep ≤ 2 := by
 unfold Ft.snd
 split
 · unfold El.deep
   have := deep_of_le f.parts 1 fun e he => by
    unfold Ft.parts at he
    rcases List.mem_append.1 he with he | he
    · split at he
      · cases he
      · rw [List.mem_singleton] at he
        subst he
        exact Nat.le_refl _
    · rcases List.mem_append.1 he with he | he
      · obtain ⟨x, _, rfl⟩ := List.mem_map.1 he
        exact Nat.le_refl _
      · split at he
        · cases he
        · rw [List.mem_singleton] at he
          subst he
          exact Nat.le_refl _
   simp only
   omega
 · rw [deep_oct]
   omega
theorem ft_el_deep (f : Ft) (h : f.g.el.deep ≤ f.g.deep + 2) : f.el.deep ≤ f.deep + 2 := by
 unfold Ft.deep
 by_cases h3 : f.k < 3
 · rw [el_node h3]
   unfold El.deep
   simp only
   omega
 · by_cases h7 : f.k = 7
   · rw [el_7 h7]
     unfold El.deep
     simp only [Fo.deep]
     omega
   · rw [el_two h3 h7]
     have := deep_of_le [octE 0 4 f.t, f.snd] 2 fun e he => by
      rcases List.mem_cons.1 he with rfl | he
      · rw [deep_oct]
        omega
      · rw [List.mem_singleton] at he
        subst he
        exact deep_snd f
     unfold El.deep
     simp only
     omega
theorem gl_el_deep : ∀ g : Gl, g.el.deep ≤ g.deep + 2
 | .nil => Nat.zero_le _
 | .cons k g t v a z b nx => by
   have h1 := ft_el_deep ⟨k, g, t, v, a, z, b⟩ (gl_el_deep g)
   have h2 := gl_el_deep nx
   unfold Ft.deep at h1
   rw [Gl.el, Fo.deep, Gl.deep]
   unfold El.deep Ft.el at h1
   simp only at h1
   generalize (if k < 3 then g.el else if k = 7 then Fo.nil else Fo.of [octE 0 4 t, (⟨k, g, t, v, a, z, b⟩ : Ft).snd]) = x at h1 ⊢
   omega
def lensB (b : List (List UInt8)) : Nat := sumL (b.map fun x => 5 + x.length)
def Gl.meas : Gl → Nat
 | .nil => 0
 | .cons _ g t v a z b nx => 10 + t.length + v.length + a.length + z.length + lensB b + g.meas + nx.meas
def Ft.meas (f : Ft) : Nat := 10 + f.t.length + f.v.length + f.a.length + f.z.length + lensB f.b + f.g.meas
theorem Gl.meas_list : ∀ g : Gl, g.meas = sumL (g.list.map Ft.meas)
 | .nil => rfl
 | .cons k g t v a z b nx => by
   rw [Gl.meas, Gl.list, List.map_cons, sumL_cons, Gl.meas_list nx]
   rfl
theorem nb_len (l : List UInt8) : (nb l).length = l.length := by simp [nb]
theorem lenB_le3 (n : Nat) (h : n < 65536) : (lenB (n : Int)).length ≤ 3 := by
 unfold lenB
 rw [if_neg (by omega)]
 split
 · simp
 · rw [List.length_cons, row_len]
   have hn : (n : Int).toNat = n := Int.toNat_natCast n
   rw [hn]
   by_cases h2 : n < 256
   · have := count_is 8 n 1 (by omega) (by omega) (by omega) (by omega) (by simp; omega) (by simpa using h2)
     omega
   · have := count_is 8 n 2 (by omega) (by omega) (by omega) (by omega) (by simp; omega) (by simpa using h)
     omega
theorem tagB_len1 (c : Int) (m : Bool) (n : Int) (h : n < 31) : (tagB c m n).length = 1 := by
 unfold tagB
 rw [if_pos h]
 rfl
theorem enc_le (e : El) (h : e.n < 31) (hi : e.inner.length < 65536) : e.enc.length ≤ 4 + e.inner.length := by
 unfold El.enc
 rw [List.length_append, List.length_append, tagB_len1 _ _ _ h]
 have := lenB_le3 _ hi
 omega
theorem enc_of (l : List El) (w : El → Nat) (h : ∀ e ∈ l, e.enc.length ≤ w e) : (Fo.of l).enc.length ≤ sumL (l.map w) := by
 rw [Fo.enc_list, Fo.list_of]
 induction l with
 | nil => exact Nat.zero_le _
 | cons e r ih =>
   rw [List.flatMap_cons, List.length_append, List.map_cons, sumL_cons]
   have h1 := h e List.mem_cons_self
   have h2 := ih fun x hx => h x (List.mem_cons_of_mem _ hx)
   omega
theorem enc_oct (c n : Int) (l : List UInt8) (hn : n < 31) (hl : l.length < 60000) : (octE c n l).enc.length ≤ 4 + l.length := by
 have hi : (octE c n l).inner = nb l := rfl
 have := enc_le (octE c n l) hn (by rw [hi, nb_len]; omega)
 rw [hi, nb_len] at this
 exact this
theorem sumL_app (a b : List Nat) : sumL (a ++ b) = sumL a + sumL b := by
 induction a with
 | nil =>
   rw [List.nil_append]
   show _ = 0 + _
   omega
 | cons x a ih => rw [List.cons_append, sumL_cons, sumL_cons, ih]; omega
theorem lens_mem {b : List (List UInt8)} {x : List UInt8} (h : x ∈ b) : 5 + x.length ≤ lensB b := by
 unfold lensB
 induction b with
 | nil => cases h
 | cons y b ih =>
   rw [List.map_cons, sumL_cons]
   rcases List.mem_cons.1 h with rfl | h
   · omega
   · have := ih h
     omega
theorem enc_parts (f : Ft) (h : f.a.length + f.z.length + lensB f.b < 60000) : (Fo.of f.parts).enc.length ≤ 8 + f.a.length + f.z.length + lensB f.b := by
 have hx : ∀ x ∈ f.b, x.length < 60000 := fun x hx => by have := lens_mem hx; omega
 have happ : ∀ a b : List El, (Fo.of (a ++ b)).enc.length = (Fo.of a).enc.length + (Fo.of b).enc.length := fun a b => by
  rw [Fo.enc_list, Fo.enc_list, Fo.enc_list, Fo.list_of, Fo.list_of, Fo.list_of, List.flatMap_append, List.length_append]
 have hone : ∀ e : El, (Fo.of [e]).enc.length = e.enc.length := fun e => by
  rw [Fo.enc_list, Fo.list_of]
  simp
 have h0 : (Fo.of []).enc.length = 0 := rfl
 unfold Ft.parts
 rw [happ, happ]
 have hb := enc_of (f.b.map (octE 2 1)) (fun e => 5 + e.b.length) fun e he => by
  obtain ⟨x, hx1, rfl⟩ := List.mem_map.1 he
  have := enc_oct 2 1 x (by omega) (hx x hx1)
  show _ ≤ 5 + (nb x).length
  rw [nb_len]
  omega
 have hb2 : sumL ((f.b.map (octE 2 1)).map (fun e => 5 + e.b.length)) = lensB f.b := by
  unfold lensB
  rw [List.map_map]
  congr 1
  refine List.map_congr_left fun x _ => ?_
  show 5 + (nb x).length = _
  rw [nb_len]
 rw [hb2] at hb
 have ha : (Fo.of (if f.a = [] then [] else [octE 2 0 f.a])).enc.length ≤ 4 + f.a.length := by
  split
  · rw [h0]; omega
  · rw [hone]
    exact enc_oct _ _ _ (by omega) (by omega)
 have hz : (Fo.of (if f.z = [] then [] else [octE 2 2 f.z])).enc.length ≤ 4 + f.z.length := by
  split
  · rw [h0]; omega
  · rw [hone]
    exact enc_oct _ _ _ (by omega) (by omega)
 omega
theorem enc_snd (f : Ft) (h : f.v.length + f.a.length + f.z.length + lensB f.b < 50000) : f.snd.enc.length ≤ 12 + f.v.length + f.a.length + f.z.length + lensB f.b := by
 unfold Ft.snd
 split
 · have hp := enc_parts f (by omega)
   have hi : (⟨0, true, 16, [], Fo.of f.parts⟩ : El).inner = (Fo.of f.parts).enc := rfl
   have := enc_le ⟨0, true, 16, [], Fo.of f.parts⟩ (by show (16 : Int) < 31; omega) (by rw [hi]; omega)
   rw [hi] at this
   omega
 · have := enc_oct 0 4 f.v (by omega) (by omega)
   omega
theorem ft_enc {f : Ft} (h1 : f.one = true) (hm : f.meas ≤ 8000) (h : f.g.el.enc.length ≤ 2 * f.g.meas) : f.el.enc.length ≤ 2 * f.meas := by
 have hk := one_k h1
 unfold Ft.meas at hm ⊢
 by_cases h3 : f.k < 3
 · rw [el_node h3]
   have hi : (⟨2, true, f.k, [], f.g.el⟩ : El).inner = f.g.el.enc := rfl
   have := enc_le ⟨2, true, f.k, [], f.g.el⟩ (by show f.k < 31; omega) (by rw [hi]; omega)
   rw [hi] at this
   omega
 · by_cases h7 : f.k = 7
   · rw [el_7 h7]
     have hi : (⟨2, false, 7, nb f.t, .nil⟩ : El).inner = nb f.t := rfl
     have := enc_le ⟨2, false, 7, nb f.t, .nil⟩ (by show (7 : Int) < 31; omega) (by rw [hi, nb_len]; omega)
     rw [hi, nb_len] at this
     omega
   · rw [el_two h3 h7]
     have hi : (⟨2, true, f.k, [], Fo.of [octE 0 4 f.t, f.snd]⟩ : El).inner = (Fo.of [octE 0 4 f.t, f.snd]).enc := rfl
     have e1 := enc_oct 0 4 f.t (by omega) (by omega)
     have e2 := enc_snd f (by omega)
     have e3 : (Fo.of [octE 0 4 f.t, f.snd]).enc.length = (octE 0 4 f.t).enc.length + f.snd.enc.length := by
      rw [Fo.enc_list, Fo.list_of]
      simp
     have := enc_le ⟨2, true, f.k, [], Fo.of [octE 0 4 f.t, f.snd]⟩ (by show f.k < 31; omega) (by rw [hi]; omega)
     rw [hi] at this
     omega
theorem gl_enc : ∀ g : Gl, g.all = true → g.meas ≤ 8000 → g.el.enc.length ≤ 2 * g.meas
 | .nil, _, _ => Nat.zero_le _
 | .cons k g t v a z b nx, h, hm => by
   rw [Gl.all, Bool.and_eq_true, Bool.and_eq_true] at h
   rw [Gl.meas] at hm ⊢
   have h1 := ft_enc (f := ⟨k, g, t, v, a, z, b⟩) h.1.1 (by unfold Ft.meas; simp only; omega) (gl_enc g h.1.2 (by omega))
   have h2 := gl_enc nx h.2 (by omega)
   rw [Fo.enc_list] at h2 ⊢
   rw [Gl.el, Fo.list, List.flatMap_cons, List.length_append]
   unfold Ft.meas at h1
   have h3 : (⟨2, decide (k ≠ 7), k, (if k = 7 then nb t else []), (if k < 3 then g.el else if k = 7 then .nil else Fo.of [octE 0 4 t, (⟨k, g, t, v, a, z, b⟩ : Ft).snd])⟩ : El).enc.length ≤ _ := h1
   simp only at h3
   omega
end Go.Proofs.YtcbiedonmibfaaaGreatDoor
namespace Go.Proofs.YtcbiedonmibfaaaGreatDoor
end Go.Proofs.YtcbiedonmibfaaaGreatDoor
