/-
  What the program's functions are to answer, as the plain functions of bytes.
-/
import Derived.Test.YtpmcdkalmdlahaaDoorRefRead7
import Derived.Test.YtpmcdkalmdlahaaDoorRefText7
import Derived.Test.YtpmcdkalmdlahaaDoorOidDesc
namespace Go.Proofs.YtpmcdkalmdlahaaDoor
open Go.RowKit Go.Lib

theorem Src.next {w w' : World} {A : Option Addr} {c : Nat} {l : List Nat} (h : Src w w.heap.size A c l) (hb : Below w.heap.size w w') : Src w' w'.heap.size A c l := (h.below hb).more hb.size
theorem SrcO.next {w w' : World} {A : Option Addr} {c : Nat} {L : List (List UInt8)} (h : SrcO w w.heap.size A c L) (hb : Below w.heap.size w w') : SrcO w' w'.heap.size A c L := (h.below hb).more hb.size
theorem below_next {K : Nat} {w w1 w2 : World} (h : Below K w w1) (hK : K ≤ w.heap.size) (hb : Below w1.heap.size w1 w2) : Below K w w2 := h.trans (hb.mono (Nat.le_trans hK h.size))
def putO (l : List UInt8) : List Nat × Nat := match arcsO l with | none => ([], 2) | some L => (putA L, 0)
def rdO (l : List Nat) : List UInt8 × Nat := match rdX l with | none => ([], 11) | some M => (txA M, 0)
def deO (l : List UInt8) : List UInt8 × List (List UInt8) × Bool := match descO l with | none => ([], [], false) | some q => (q.1, q.2, true)
theorem putO_none {l : List UInt8} (h : arcsO l = none) : putO l = ([], 2) := by unfold putO; rw [h]
theorem putO_some {l : List UInt8} {L : List Nat} (h : arcsO l = some L) : putO l = (putA L, 0) := by unfold putO; rw [h]
theorem rdO_none {l : List Nat} (h : rdX l = none) : rdO l = ([], 11) := by unfold rdO; rw [h]
theorem rdO_some {l : List Nat} {M : List Nat} (h : rdX l = some M) : rdO l = (txA M, 0) := by unfold rdO; rw [h]
theorem deO_none {l : List UInt8} (h : descO l = none) : deO l = ([], [], false) := by unfold deO; rw [h]
theorem deO_some {l : List UInt8} {q : List UInt8 × List (List UInt8)} (h : descO l = some q) : deO l = (q.1, q.2, true) := by unfold deO; rw [h]
theorem putO_byte (l : List UInt8) : ∀ x ∈ (putO l).1, x < 256 := by
  unfold putO
  cases arcsO l with
  | none => intro x hx; cases hx
  | some L => exact putA_byte L
theorem putA_len7 (L : List Nat) (h : Valid7 L) : (putA L).length ≤ 96 := by
  have hl := okA_len h.1
  obtain ⟨a, b, r, rfl⟩ : ∃ a b r, L = a :: b :: r := by
    match L, hl with
    | a :: b :: r, _ => exact ⟨a, b, r, rfl⟩
  have hk := h.1
  rw [okA_two] at hk
  simp only [Bool.and_eq_true, decide_eq_true_eq] at hk
  have hb := h.2 b (by simp)
  have h1 := sv_len5 (a * 40 + b) (by omega)
  have h2 := flat_len r (fun n hn => h.2 n (by simp [hn]))
  rw [putA_two, List.length_append]
  simp only [List.length_cons] at hl
  omega
/-- In every world behind w. -/
structure OHyp (w : World) : Prop where
  numeric : ∀ (s : ByteArray) w', s.size ≤ 1000 → Below w.heap.size w w' → Calls Tryd.prog 12 #[.string s] w' fun e w'' => e = .returned (.bool (arcsO s.data.toList).isSome) ∧ Below w'.heap.size w' w''
  word : ∀ (s : ByteArray) w', s.size ≤ 1000 → Below w.heap.size w w' → Calls Tryd.prog 13 #[.string s] w' fun e w'' => e = .returned (.bool (wordB s.data.toList)) ∧ Below w'.heap.size w' w''
  lower : ∀ (s : ByteArray) w', s.size ≤ 1000 → Below w.heap.size w w' → Calls Tryd.prog 15 #[.string s] w' fun e w'' => e = .returned (.string (baO (lowL s.data.toList))) ∧ Below w'.heap.size w' w''
  put : ∀ (s : ByteArray) w', s.size ≤ 1000 → Below w.heap.size w w' → Calls Tryd.prog 8 #[.string s] w' fun e w'' => ∃ A c, e = .returned (.tuple #[.slice A (putO s.data.toList).1.length c, .int .i64 ((putO s.data.toList).2 : Int)]) ∧ Src w'' w''.heap.size A c (putO s.data.toList).1 ∧ Below w'.heap.size w' w''
  describe : ∀ (s : ByteArray) w', s.size ≤ 1000 → Below w.heap.size w w' → Calls Tryd.prog 17 #[.string s] w' fun e w'' => ∃ A c, e = .returned (.tuple #[.string (baO (deO s.data.toList).1), .slice A (deO s.data.toList).2.1.length c, .bool (deO s.data.toList).2.2]) ∧ SrcO w'' w''.heap.size A c (deO s.data.toList).2.1 ∧ Below w'.heap.size w' w''
  text : ∀ (s : ByteArray) (A : Option Addr) (c N : Nat) (L : List (List UInt8)) w', L.length = N → N ≤ 1000 → s.size + wt L ≤ 100000 → SrcO w' w'.heap.size A c L → Below w.heap.size w w' → Calls Tryd.prog 20 #[.string s, .slice A N c] w' fun e w'' => e = .returned (.string (baO (s.data.toList ++ L.flatMap fun q => (59 : UInt8) :: q))) ∧ Below w'.heap.size w' w''
/-- Read, which may want a table of the library's. -/
structure OReadH (w : World) : Prop where
  read : ∀ (A : Option Addr) (c N : Nat) (l : List Nat) w', l.length = N → N ≤ 1000 → (∀ x ∈ l, x < 256) → Src w' w'.heap.size A c l → Below w.heap.size w w' → Calls Tryd.prog 10 #[.slice A N c] w' fun e w'' => e = .returned (.tuple #[.string (baO (rdO l).1), .int .i64 ((rdO l).2 : Int)]) ∧ Below w'.heap.size w' w''
/-- The document's, in the same form. -/
theorem refPutO (s : ByteArray) (w : World) (hs : s.size ≤ 300) : Calls Tryd.prog 9 #[.string s] w fun e w' => ∃ A c, e = .returned (.tuple #[.slice A (putO s.data.toList).1.length c, .int .i64 ((putO s.data.toList).2 : Int)]) ∧ Src w' w'.heap.size A c (putO s.data.toList).1 ∧ Below w.heap.size w w' :=
  (refPut7_any s w hs).mono fun e w' ⟨h1, h2⟩ => by
    unfold PutS at h1
    unfold putO
    rcases h : arcsO s.data.toList with _ | L
    · rw [h] at h1
      exact ⟨none, 0, h1, Src.none_ _ _, h2⟩
    · rw [h] at h1
      obtain ⟨A, c, h3, h4⟩ := h1
      exact ⟨A, c, h3, h4.src, h2⟩
theorem refReadO (A : Option Addr) (c N : Nat) (l : List Nat) (w : World) (hN : l.length = N) (hN3 : N ≤ 300) (hs : Src w w.heap.size A c l) (hb : ∀ x ∈ l, x < 256) : Calls Tryd.prog 11 #[.slice A N c] w fun e w' => e = .returned (.tuple #[.string (baO (rdO l).1), .int .i64 ((rdO l).2 : Int)]) ∧ Below w.heap.size w w' :=
  (refRead7_any A c l N w hN hN3 hs hb).mono fun e w' ⟨h1, h2⟩ => by
    unfold ReadS at h1
    unfold rdO
    rcases h : rdX l with _ | M
    · rw [h] at h1
      exact ⟨h1, h2⟩
    · rw [h] at h1
      exact ⟨h1, h2⟩
theorem refLowerO (s : ByteArray) (w : World) (hs : s.size ≤ 300) : Calls Tryd.prog 16 #[.string s] w fun e w' => e = .returned (.string (baO (lowL s.data.toList))) ∧ Below w.heap.size w w' :=
  (refLower_any s w hs).mono fun e w' ⟨x, h1, h2, h3⟩ => ⟨by rw [h1, eq_baO h2], h3⟩
end Go.Proofs.YtpmcdkalmdlahaaDoor
