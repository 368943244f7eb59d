/-
  What the program's functions of filters and elements are to answer, for the laws' walks.
-/
import Derived.Test.YtkffgdndglfcfaaGreatDoorFltOwn
import Derived.Test.YtkffgdndglfcfaaGreatDoorFltFz
import Derived.Test.YtkffgdndglfcfaaGreatDoorFltInj
import Derived.Test.YtkffgdndglfcfaaGreatDoorBerH3
namespace Go.Proofs.YtkffgdndglfcfaaGreatDoor
open Go.RowKit

/-- What Parse answers of the text of f, which is right but for its size. -/
def ParseP (f : Ft) (W : World) (en : Ending) (w' : World) : Prop :=
  ∃ g Ak ck Ab cb, ∃ e : Int, en = .returned (.tuple #[ftV g Ak ck Ab cb, .int .i64 e]) ∧ FtIn w' (· < w'.heap.size) g Ak ck Ab cb ∧ Below W.heap.size W w' ∧
    (4096 < f.text.length → e = 3) ∧ (f.text.length ≤ 4096 → f.right = true → e = 0 ∧ g = f) ∧ (f.text.length ≤ 4096 → f.right = false → e = 11)
structure ParseH (w0 : World) : Prop where
  parse : ∀ (f : Ft) (s : ByteArray) (W : World), Below w0.heap.size w0 W → f.all = true → f.meas ≤ 8000 → s = strB f.text → Calls Tryz.prog 9 #[.string s] W (ParseP f W)
structure TextH (w0 : World) : Prop where
  text : ∀ (f : Ft) (Ak : Option Addr) (ck : Nat) (Ab : Option Addr) (cb : Nat) (W : World), Below w0.heap.size w0 W → FtIn W (· < W.heap.size) f Ak ck Ab cb → f.meas < 3000 → f.deep ≤ 41 →
    Calls Tryz.prog 8 #[ftV f Ak ck Ab cb] W fun en w' => en = .returned (.string (if f.right = true then strB f.text else ⟨#[]⟩)) ∧ Below W.heap.size W w'
structure RightH14 (w0 : World) : Prop where
  right : ∀ (f : Ft) (Ak : Option Addr) (ck : Nat) (Ab : Option Addr) (cb : Nat) (W : World), Below w0.heap.size w0 W → FtIn W (· < W.heap.size) f Ak ck Ab cb → f.meas < 3000 → f.deep ≤ 41 →
    Calls Tryz.prog 7 #[ftV f Ak ck Ab cb] W fun en w' => en = .returned (.bool f.right) ∧ Below W.heap.size W w'
structure ParseHZ (w0 : World) : Prop where
  parse : ∀ (f : Ft) (s : ByteArray) (W : World), Below w0.heap.size w0 W → f.all = true → f.meas ≤ 8000 → s = strB f.text →
    Calls Tryz.prog 9 #[.string s] W fun en w' => ∃ g Ak ck Ab cb, ∃ e : Int, en = .returned (.tuple #[ftV g Ak ck Ab cb, .int .i64 e]) ∧ FtInZ w' g Ak ck Ab cb ∧ Below W.heap.size W w' ∧
    (4096 < f.text.length → e = 3) ∧ (f.text.length ≤ 4096 → f.right = true → e = 0 ∧ g = f) ∧ (f.text.length ≤ 4096 → f.right = false → e = 11)
structure SameH14 (w0 : World) : Prop where
  same : ∀ (f : Ft) (Ak Ak' : Option Addr) (ck ck' : Nat) (Ab Ab' : Option Addr) (cb cb' : Nat) (W : World), Below w0.heap.size w0 W → FtInZ W f Ak ck Ab cb → FtInZ W f Ak' ck' Ab' cb' → f.meas < 3000 → f.deep ≤ 41 →
    Calls Tryz.prog 14 #[ftV f Ak ck Ab cb, ftV f Ak' ck' Ab' cb'] W fun en w' => en = .returned (.bool true) ∧ Below W.heap.size W w'
structure PutH14 (w0 : World) : Prop where
  put : ∀ (f : Ft) (Ak : Option Addr) (ck : Nat) (Ab : Option Addr) (cb : Nat) (W : World), Below w0.heap.size w0 W → FtIn W (· < W.heap.size) f Ak ck Ab cb → f.meas < 3000 → f.right = true →
    Calls Tryz.prog 11 #[ftV f Ak ck Ab cb] W fun en w' => ∃ A c B d, en = .returned (elV f.el A c B d) ∧ ElIn w' (Cb w') f.el A c B d ∧ Below W.heap.size W w'
structure ReadH14 (w0 : World) : Prop where
  read : ∀ (f : Ft) (A : Option Addr) (c : Nat) (B : Option Addr) (d : Nat) (W : World), Below w0.heap.size w0 W → ElIn W (Cb W) f.el A c B d → f.meas < 3000 → f.right = true →
    Calls Tryz.prog 10 #[elV f.el A c B d] W fun en w' => ∃ Ak ck Ab cb, en = .returned (.tuple #[ftV f Ak ck Ab cb, .int .i64 0]) ∧ FtInZ w' f Ak ck Ab cb ∧ Below W.heap.size W w'
structure BPutH (w0 : World) : Prop where
  bput : ∀ (e : El) (A : Option Addr) (c : Nat) (B : Option Addr) (d : Nat) (W : World), Below w0.heap.size w0 W → ElIn W (Cb W) e A c B d → e.right = true → e.deep ≤ 24 → e.enc.length ≤ 16384 → e.size ≤ 1000000 →
    Calls Tryz.prog 12 #[elV e A c B d] W fun en w' => ∃ A' c', en = .returned (.tuple #[.slice A' e.enc.length c', .int .i64 0]) ∧ Src w' w'.heap.size A' c' e.enc ∧ c' ≤ 9223372036854775807 ∧ Below W.heap.size W w'
structure BParseH (w0 : World) : Prop where
  bparse : ∀ (e : El) (A : Option Addr) (c : Nat) (W : World), Below w0.heap.size w0 W → Src W W.heap.size A c e.enc → c ≤ 9223372036854775807 → e.right = true → e.byt → e.deep ≤ 24 → e.enc.length ≤ 16384 →
    Calls Tryz.prog 13 #[.slice A e.enc.length c] W fun en w' => ∃ A' c' B' d', en = .returned (.tuple #[elV e A' c' B' d', .int .i64 (e.enc.length : Int), .int .i64 0]) ∧ ElIn w' (Cb w') e A' c' B' d' ∧ Below W.heap.size W w'
/-! What a right filter's element and text are like. -/
theorem right_parts14 {f : Ft} (h : f.right = true) : f.num ≤ 64 ∧ f.deep ≤ 10 ∧ f.all = true := by
  unfold Ft.right at h
  simp only [Bool.and_eq_true, decide_eq_true_eq] at h
  exact ⟨h.1.1, h.1.2, h.2⟩
theorem all_parts {f : Ft} (h : f.all = true) : f.one = true ∧ f.g.all = true := by
  unfold Ft.all at h
  rwa [Bool.and_eq_true] at h
theorem el_right {f : Ft} (h : f.all = true) : f.el.right = true := ft_el_right (all_parts h).1 (gl_el_right _ (all_parts h).2)
theorem el_byt (f : Ft) : f.el.byt := ft_el_byt f (gl_el_byt _)
theorem el_deep (f : Ft) : f.el.deep ≤ f.deep + 2 := ft_el_deep f (gl_el_deep _)
theorem el_enc {f : Ft} (h : f.all = true) (hm : f.meas ≤ 8000) : f.el.enc.length ≤ 2 * f.meas := ft_enc (all_parts h).1 hm (gl_enc _ (all_parts h).2 (by unfold Ft.meas at hm; omega))
theorem tagB_ge (c : Int) (m : Bool) (n : Int) : 1 ≤ (tagB c m n).length := tagB_pos c n m
theorem fo_size_enc : ∀ f : Fo, f.right = true → f.size ≤ 2 * f.enc.length
  | .nil, _ => Nat.zero_le _
  | .cons c m n b k nx, h => by
    rw [Fo.right, Bool.and_eq_true, Bool.and_eq_true, Bool.and_eq_true, Bool.and_eq_true] at h
    obtain ⟨⟨⟨⟨_, h2⟩, h3⟩, h4⟩, h5⟩ := h
    have i1 := fo_size_enc k h4
    have i2 := fo_size_enc nx h5
    have t := tagB_pos c n m
    rw [Fo.size, Fo.enc, List.length_append, List.length_append, List.length_append]
    cases m with
    | true =>
      have hb : b = [] := by simpa using h3
      subst hb
      simp only [if_true, List.length_nil]
      omega
    | false =>
      have hk : k = .nil := by
        have : k.list = [] := by simpa using h2
        have h6 := Fo.of_list k
        rw [this] at h6
        exact h6.symm
      subst hk
      simp only [Fo.size, Bool.false_eq_true, if_false]
      omega
theorem el_size_enc {e : El} (h : e.right = true) : e.size ≤ 2 * e.enc.length := by
  have h1 : (Fo.of [e]).right = true := by rw [Fo.right_list, Fo.list_of]; simpa using h
  have := fo_size_enc _ h1
  rw [Fo.size_list, Fo.enc_list, Fo.list_of] at this
  simpa [sumL] using this
theorem text_len (f : Ft) : 2 < f.text.length ∨ f.all = false := by
  by_cases h : f.all = true
  · left
    unfold Ft.text Ft.body
    split
    · simp
    · have h1 := leaf_ok (all_parts h).1 ‹_›
      have h2 := dsc_ne h1.t
      have : 0 < f.leaf.length := by
        unfold Ft.leaf
        rw [List.length_append, nb_len]
        have : 0 < f.t.length := List.length_pos_iff.2 h2
        omega
      simp
      omega
  · right
    simpa using h
end Go.Proofs.YtkffgdndglfcfaaGreatDoor
