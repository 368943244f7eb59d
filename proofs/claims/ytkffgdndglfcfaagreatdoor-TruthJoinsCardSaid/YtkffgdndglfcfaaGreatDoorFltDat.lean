/-
  Filters, as data: which are right, their texts, and that a text is one filter's. Nothing here speaks of a program.
-/
import Derived.Test.YtkffgdndglfcfaaGreatDoorEscDat
import Derived.Test.YtkffgdndglfcfaaGreatDoorOidDesc
namespace Go.Proofs.YtkffgdndglfcfaaGreatDoor
open Go.Lib

/-- A row of filters: kind, kids, type, value, first, last, between; and those behind it. -/
inductive Gl where
  | nil : Gl
  | cons (k : Int) (g : Gl) (t v a z : List UInt8) (b : List (List UInt8)) (nx : Gl) : Gl
/-- One filter. -/
structure Ft where
  k : Int
  g : Gl
  t : List UInt8
  v : List UInt8
  a : List UInt8
  z : List UInt8
  b : List (List UInt8)
def Gl.list : Gl → List Ft
  | .nil => []
  | .cons k g t v a z b nx => ⟨k, g, t, v, a, z, b⟩ :: nx.list
def Ft.kids (f : Ft) : List Ft := f.g.list
def Gl.of : List Ft → Gl
  | [] => .nil
  | f :: r => .cons f.k f.g f.t f.v f.a f.z f.b (Gl.of r)
theorem Gl.of_list : ∀ g : Gl, Gl.of g.list = g
  | .nil => rfl
  | .cons k g t v a z b nx => by rw [Gl.list, Gl.of, Gl.of_list nx]
theorem Gl.list_of : ∀ l : List Ft, (Gl.of l).list = l
  | [] => rfl
  | f :: r => by rw [Gl.of, Gl.list, Gl.list_of r]
theorem Gl.list_inj {g h : Gl} (e : g.list = h.list) : g = h := by rw [← Gl.of_list g, e, Gl.of_list]
/-- Induction over a filter: it may be taken of all its kids. -/
theorem Ft.ind {Q : Ft → Prop} (h : ∀ f, (∀ f' ∈ f.kids, Q f') → Q f) (f : Ft) : Q f := by
  have all : ∀ g : Gl, ∀ f ∈ g.list, Q f := by
    intro g
    induction g with
    | nil => intro f hf; cases hf
    | cons k g t v a z b nx ihg ihn =>
      intro f hf
      rcases List.mem_cons.1 hf with rfl | hf
      · exact h _ ihg
      · exact ihn f hf
  exact h f (all f.g)

/-- How many. -/
def Gl.num : Gl → Nat
  | .nil => 0
  | .cons _ g _ _ _ _ _ nx => g.num + 1 + nx.num
def Ft.num (f : Ft) : Nat := f.g.num + 1
/-- How deep. -/
def Gl.deep : Gl → Nat
  | .nil => 0
  | .cons _ g _ _ _ _ _ nx => max (g.deep + 1) nx.deep
def Ft.deep (f : Ft) : Nat := f.g.deep + 1
/-- A description as it is told. -/
def dscU (l : List UInt8) : Option (List UInt8) := (descO l).map dtx
def Ft.bare (f : Ft) : Bool := f.a.isEmpty && f.z.isEmpty && f.b.isEmpty
/-- Right, but for its size and its kids. -/
def Ft.one (f : Ft) : Bool :=
  if f.k < 0 ∨ 8 < f.k then false
  else if f.k < 3 then f.bare && f.t.isEmpty && f.v.isEmpty && (decide (f.k < 2) || decide (f.kids.length = 1))
  else decide (dscU f.t = some f.t) && f.kids.isEmpty && (if f.k = 4 then f.v.isEmpty && !f.bare && f.b.all (fun x => !x.isEmpty) else f.bare && (decide (f.k ≠ 7) || f.v.isEmpty))
def Gl.all : Gl → Bool
  | .nil => true
  | .cons k g t v a z b nx => (⟨k, g, t, v, a, z, b⟩ : Ft).one && g.all && nx.all
def Ft.all (f : Ft) : Bool := f.one && f.g.all
def Ft.right (f : Ft) : Bool := decide (f.num ≤ 64) && decide (f.deep ≤ 10) && f.all
theorem Gl.all_list : ∀ g : Gl, g.all = g.list.all Ft.all
  | .nil => rfl
  | .cons k g t v a z b nx => by
    rw [Gl.all, Gl.list, List.all_cons, Gl.all_list nx]
    rfl
theorem Gl.num_pos {g : Gl} (h : 0 < g.list.length) : 0 < g.num := by
  cases g with
  | nil => simp [Gl.list] at h
  | cons => unfold Gl.num; omega

/-- Bytes as numbers, and back. -/
def nb (l : List UInt8) : List Nat := l.map UInt8.toNat
def ub (l : List Nat) : List UInt8 := l.map UInt8.ofNat
theorem ub_nb (l : List UInt8) : ub (nb l) = l := by
  unfold ub nb
  rw [List.map_map]
  conv => rhs; rw [← List.map_id l]
  exact List.map_congr_left fun x _ => UInt8.ofNat_toNat
theorem nb_byte (l : List UInt8) : byE (nb l) := by
  intro c hc
  obtain ⟨x, _, rfl⟩ := List.mem_map.1 hc
  exact x.toNat_lt
theorem nb_ub {l : List Nat} (h : byE l) : nb (ub l) = l := by
  unfold ub nb
  rw [List.map_map]
  conv => rhs; rw [← List.map_id l]
  refine List.map_congr_left fun x hx => ?_
  show (UInt8.ofNat x).toNat = x
  rw [UInt8.toNat_ofNat', Nat.mod_eq_of_lt (h x hx)]
theorem nb_inj {l m : List UInt8} (h : nb l = nb m) : l = m := by rw [← ub_nb l, h, ub_nb]
theorem nb_nil {l : List UInt8} (h : nb l = []) : l = [] := by cases l with
  | nil => rfl
  | cons => simp [nb] at h

/-- A value in a filter's text. -/
def esc (l : List UInt8) : List Nat := filterE ((uChars (nb l)).isSome) (nb l)
def unesc (l : List Nat) : Option (List UInt8) := (unfE l).map ub
theorem unesc_esc (l : List UInt8) : unesc (esc l) = some l := by
  unfold unesc esc
  rw [unf_back _ _ (nb_byte l), Option.map_some, ub_nb]
theorem esc_plain (l : List UInt8) : ∀ c ∈ esc l, ¬ (c = 42 ∨ c = 40 ∨ c = 41 ∨ c = 0) ∧ c < 256 := filter_plain _ _ (nb_byte l)
theorem esc_nil : esc [] = [] := rfl
theorem esc_ne {l : List UInt8} (h : l ≠ []) : esc l ≠ [] := by
  intro e
  have := (filter_len ((uChars (nb l)).isSome) (nb l)).1
  rw [show filterE ((uChars (nb l)).isSome) (nb l) = [] from e] at this
  have h2 : (nb l).length = 0 := by simpa using this
  exact h (nb_nil (List.eq_nil_of_length_eq_zero h2))
theorem esc_len (l : List UInt8) : (esc l).length ≤ 3 * l.length := by
  have := (filter_len ((uChars (nb l)).isSome) (nb l)).2
  have h2 : (nb l).length = l.length := by simp [nb]
  rw [h2] at this
  exact this

/-- What stands between the brackets of a filter without kids. -/
def opn (k : Int) : List Nat := if k = 5 then [62, 61] else if k = 6 then [60, 61] else if k = 8 then [126, 61] else [61]
def Ft.rest (f : Ft) : List Nat := if f.k = 7 then [42] else if f.k = 4 then esc f.a ++ 42 :: (f.b.flatMap (fun x => esc x ++ [42]) ++ esc f.z) else esc f.v
def Ft.leaf (f : Ft) : List Nat := nb f.t ++ (opn f.k ++ f.rest)
def sgn (k : Int) : Nat := if k = 0 then 38 else if k = 1 then 124 else 33
def Gl.text : Gl → List Nat
  | .nil => []
  | .cons k g t v a z b nx => 40 :: ((if k < 3 then sgn k :: g.text else (⟨k, g, t, v, a, z, b⟩ : Ft).leaf) ++ 41 :: nx.text)
def Ft.body (f : Ft) : List Nat := if f.k < 3 then sgn f.k :: f.g.text else f.leaf
/-- The text. -/
def Ft.text (f : Ft) : List Nat := 40 :: (f.body ++ [41])
theorem Gl.text_list : ∀ g : Gl, g.text = g.list.flatMap Ft.text
  | .nil => rfl
  | .cons k g t v a z b nx => by
    rw [Gl.text, Gl.list, List.flatMap_cons, Gl.text_list nx]
    show _ = (40 :: ((if k < 3 then sgn k :: g.text else (⟨k, g, t, v, a, z, b⟩ : Ft).leaf) ++ [41])) ++ _
    simp

/-! Descriptions as they are told: small letters, digits, hyphens, dots and semicolons. -/
def dch (c : UInt8) : Bool := decide (c.toNat = 45 ∨ c.toNat = 46 ∨ c.toNat = 59 ∨ 48 ≤ c.toNat ∧ c.toNat ≤ 57 ∨ 97 ≤ c.toNat ∧ c.toNat ≤ 122)
theorem low_not (c : UInt8) (h : low c = c) : ¬ (65 ≤ c.toNat ∧ c.toNat ≤ 90) := by
  have hh : ∀ n, n < 256 → low (UInt8.ofNat n) = UInt8.ofNat n → ¬ (65 ≤ n ∧ n ≤ 90) := by decide +kernel
  exact hh c.toNat c.toNat_lt (by rw [UInt8.ofNat_toNat]; exact h)
theorem sign_dch {c : UInt8} (h : signB c = true) (hl : low c = c) : dch c = true := by
  have hn := low_not c hl
  unfold signB letterB at h
  simp only [Bool.or_eq_true, Bool.and_eq_true, decide_eq_true_eq, beq_iff_eq] at h
  refine decide_eq_true ?_
  rcases h with (h | h) | h
  · rcases h with h | h
    · omega
    · omega
  · omega
  · rw [h]
    exact .inl rfl
theorem digs_dch {l : List UInt8} (h : (arcsO l).isSome = true) : ∀ c ∈ l, dch c = true := by
  obtain ⟨L, hL⟩ := Option.isSome_iff_exists.1 h
  obtain ⟨h1, _, h3, _⟩ := arcsO_some hL
  intro c hc
  rw [← h1] at hc
  unfold txA at hc
  have each : ∀ p ∈ L.map decDigits, ∀ c ∈ p, dch c = true := by
    intro p hp c hc
    obtain ⟨n, hn, rfl⟩ := List.mem_map.1 hp
    have hv := arcV_dec (h3 n hn)
    unfold arcV at hv
    split at hv
    · rename_i hcn
      rw [Bool.and_eq_true] at hcn
      have hd := hcn.1
      unfold canonB digsL at hd
      simp only [Bool.and_eq_true, List.all_eq_true] at hd
      have := hd.1.2 c hc
      unfold dch
      unfold isDig at this
      simp only [Bool.and_eq_true, decide_eq_true_eq] at this ⊢
      omega
    · cases hv
  cases hM : L.map decDigits with
  | nil => rw [hM] at hc; simp [jn] at hc
  | cons p ps =>
    rw [hM] at hc each
    unfold jn at hc
    rcases List.mem_append.1 hc with hc | hc
    · exact each p List.mem_cons_self c hc
    · obtain ⟨q, hq, hc⟩ := List.mem_flatMap.1 hc
      rcases List.mem_cons.1 hc with rfl | hc
      · decide
      · exact each q (List.mem_cons_of_mem _ hq) c hc
theorem dsc_some {l t : List UInt8} (h : dscU l = some t) : ∃ q, descO l = some q ∧ t = dtx q := by
  unfold dscU at h
  rw [Option.map_eq_some_iff] at h
  obtain ⟨q, h1, h2⟩ := h
  exact ⟨q, h1, h2.symm⟩
theorem dsc_again {l t : List UInt8} (h : dscU l = some t) : dscU t = some t := by
  obtain ⟨q, h1, rfl⟩ := dsc_some h
  unfold dscU
  rw [desc_again h1]
  rfl
theorem dsc_ch {l t : List UInt8} (h : dscU l = some t) : ∀ c ∈ t, dch c = true := by
  obtain ⟨q, h1, rfl⟩ := dsc_some h
  have hl := dtx_low h1
  have hlow : ∀ c ∈ dtx q, low c = c := by
    intro c hc
    obtain ⟨i, hi, rfl⟩ := List.getElem_of_mem hc
    have h2 := congrArg (fun z => z[i]?) hl
    unfold lowL at h2
    simp only [List.getElem?_map, List.getElem?_eq_getElem hi, Option.map_some, Option.some.injEq] at h2
    exact h2
  obtain ⟨_, g2, g3, g4, g5⟩ := desc_parts h1
  intro c hc
  have hlc := hlow c hc
  unfold dtx jn at hc
  rcases List.mem_append.1 hc with hc | hc
  · rcases Bool.or_eq_true _ _ ▸ g2 with g2 | g2
    · exact digs_dch g2 c hc
    · unfold wordB signsB at g2
      simp only [Bool.and_eq_true, List.all_eq_true] at g2
      exact sign_dch (g2.2.1 c hc) hlc
  · obtain ⟨p, hp, hc⟩ := List.mem_flatMap.1 hc
    rcases List.mem_cons.1 hc with rfl | hc
    · decide
    · rw [g5] at hp
      rw [List.all_eq_true] at g3
      have := g3 p (opts_mem hp)
      unfold signsB at this
      simp only [Bool.and_eq_true, List.all_eq_true] at this
      exact sign_dch (this.1 c hc) hlc
theorem dsc_len {l t : List UInt8} (h : dscU l = some t) : t.length ≤ 64 ∧ t.length ≤ l.length := by
  obtain ⟨q, h1, rfl⟩ := dsc_some h
  have := dtx_len h1
  have := (desc_parts h1).1
  omega
theorem dsc_ne {l t : List UInt8} (h : dscU l = some t) : t ≠ [] := by
  obtain ⟨q, h1, rfl⟩ := dsc_some h
  obtain ⟨_, g2, _⟩ := desc_parts h1
  intro e
  unfold dtx jn at e
  have hq : q.1 = [] := (List.append_eq_nil_iff.1 e).1
  rw [hq] at g2
  revert g2
  decide
theorem nb_dch {t : List UInt8} (h : ∀ c ∈ t, dch c = true) : ∀ c ∈ nb t, c = 45 ∨ c = 46 ∨ c = 59 ∨ 48 ≤ c ∧ c ≤ 57 ∨ 97 ≤ c ∧ c ≤ 122 := by
  intro c hc
  obtain ⟨x, hx, rfl⟩ := List.mem_map.1 hc
  exact of_decide_eq_true (h x hx)
end Go.Proofs.YtkffgdndglfcfaaGreatDoor
