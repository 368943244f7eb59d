/-
  The identifier that bytes tell, as data. Nothing here speaks of a program.
-/
import Derived.Test.YtpmcdkalmdlahaaDoorOidDat
namespace Go.Proofs.YtpmcdkalmdlahaaDoor
open Go.Lib

def Valid7 (M : List Nat) : Prop := okA M = true ∧ ∀ n ∈ M, n < 10000000000
/-- The numbers whose bytes these are. -/
def rdX (l : List Nat) : Option (List Nat) :=
  if okA (unfoldA (rdS 0 l)) && (unfoldA (rdS 0 l)).all (fun n => decide (n < 10000000000)) && (putA (unfoldA (rdS 0 l)) == l) then some (unfoldA (rdS 0 l)) else none
theorem rdX_some {l M : List Nat} (h : rdX l = some M) : Valid7 M ∧ putA M = l := by
  unfold rdX at h
  split at h
  · rename_i h1
    injection h with h
    rw [h] at h1
    simp only [Bool.and_eq_true, List.all_eq_true, decide_eq_true_eq, beq_iff_eq] at h1
    exact ⟨⟨h1.1.1, h1.1.2⟩, h1.2⟩
  · cases h
theorem rdX_put {M : List Nat} (h : Valid7 M) : rdX (putA M) = some M := by
  unfold rdX
  rw [read_put h.1, if_pos]
  simp only [Bool.and_eq_true, List.all_eq_true, decide_eq_true_eq, beq_iff_eq]
  exact ⟨⟨h.1, h.2⟩, trivial⟩
theorem valid_arcs {l : List UInt8} {L : List Nat} (h : arcsO l = some L) : Valid7 L := ⟨(arcsO_some h).2.1, (arcsO_some h).2.2.1⟩
theorem arcs_valid {L : List Nat} (h : Valid7 L) : arcsO (txA L) = some L := arcsO_txA h.1 h.2

/-- The document's reading, byte by byte. -/
def pushT (s : List UInt8) (m : Nat) : List UInt8 := if s = [] then decDigits (min (m / 40) 2) ++ 46 :: decDigits (m - 40 * min (m / 40) 2) else s ++ 46 :: decDigits m
def rdL : List UInt8 → Nat → List Nat → Option (List UInt8)
  | s, _, [] => some s
  | s, n, x :: r => if 200 ≤ s.length then some s else if 100000000000 < n then none else if 127 < x then rdL s (n * 128 + x % 128) r else rdL (pushT s (n * 128 + x % 128)) 0 r
theorem rdL_long (s : List UInt8) (n : Nat) (l : List Nat) (h : 200 ≤ s.length) : rdL s n l = some s := by
  cases l with
  | nil => rw [rdL]
  | cons x r => rw [rdL, if_pos h]
theorem rdL_cons (s : List UInt8) (n x : Nat) (r : List Nat) (h : s.length < 200) (h1 : n ≤ 100000000000) : rdL s n (x :: r) = if 127 < x then rdL s (n * 128 + x % 128) r else rdL (pushT s (n * 128 + x % 128)) 0 r := by
  rw [rdL, if_neg (by omega), if_neg (by omega)]
theorem rdL_big (s : List UInt8) (n x : Nat) (r : List Nat) (h : s.length < 200) (h1 : 100000000000 < n) : rdL s n (x :: r) = none := by
  rw [rdL, if_neg (by omega), if_pos h1]
theorem rdL_hi (s : List UInt8) (hs : s.length < 200) (n : Nat) : ∀ r, 0 < n → n ≤ 100000000000 → rdL s 0 (svHi n ++ r) = rdL s n r := by
  induction n using Nat.strongRecOn with
  | ind n ih =>
    intro r h hb
    rw [svHi]
    split
    · rw [List.cons_append, rdL_cons s _ _ _ hs (by omega), if_pos (by omega)]
      have : 0 * 128 + (n + 128) % 128 = n := by omega
      rw [this]
      rfl
    · rename_i h1
      rw [List.append_assoc, ih (n / 128) (by omega) _ (by omega) (by omega), List.cons_append, rdL_cons s _ _ _ hs (by omega), if_pos (by omega)]
      have : n / 128 * 128 + (n % 128 + 128) % 128 = n := by omega
      rw [this]
      rfl
theorem rdL_sv (s : List UInt8) (hs : s.length < 200) (n : Nat) (r : List Nat) (hb : n ≤ 100000000000) : rdL s 0 (sv n ++ r) = rdL (pushT s n) 0 r := by
  unfold sv
  split
  · rw [List.cons_append, rdL_cons s _ _ _ hs (by omega), if_neg (by omega)]
    have : 0 * 128 + n % 128 = n := by omega
    rw [this]
    rfl
  · rename_i h
    rw [List.append_assoc, rdL_hi s hs (n / 128) _ (by omega) (by omega), List.cons_append, rdL_cons s _ _ _ hs (by omega), if_neg (by omega)]
    have : n / 128 * 128 + n % 128 % 128 = n := by omega
    rw [this]
    rfl
theorem rdL_more : ∀ (r : List Nat) (s : List UInt8), s ≠ [] → (∀ n ∈ r, n ≤ 100000000000) → s.length + (r.flatMap fun q => (46 : UInt8) :: decDigits q).length < 200 → rdL s 0 (r.flatMap sv) = some (s ++ r.flatMap fun q => (46 : UInt8) :: decDigits q)
  | [], s, _, _, _ => by
    rw [List.flatMap_nil, List.flatMap_nil, List.append_nil, rdL]
  | n :: r, s, h0, hn, hl => by
    rw [List.flatMap_cons, List.length_append] at hl
    rw [List.flatMap_cons, List.flatMap_cons, rdL_sv s (by omega) n _ (hn n List.mem_cons_self)]
    have e : pushT s n = s ++ 46 :: decDigits n := if_neg h0
    rw [e, rdL_more r _ (by simp) (fun m hm => hn m (List.mem_cons_of_mem _ hm)) (by rw [List.length_append]; omega), List.append_assoc]
theorem rdL_put {M : List Nat} (h : Valid7 M) : rdL [] 0 (putA M) = some (txA M) := by
  obtain ⟨h1, h2⟩ := h
  have hl := txA_len M h2
  have hk := okA_len h1
  match M, h1, h2, hl, hk with
  | a :: b :: r, h1, h2, hl, hk =>
    simp only [okA, Bool.and_eq_true, Bool.or_eq_true, decide_eq_true_eq] at h1
    have e : min ((a * 40 + b) / 40) 2 = a := by omega
    have e2 : a * 40 + b - 40 * a = b := by omega
    have hb := h2 b (by simp)
    have ht : txA (a :: b :: r) = (decDigits a ++ 46 :: decDigits b) ++ r.flatMap fun q => (46 : UInt8) :: decDigits q := by
      unfold txA jn
      simp only [List.map_cons, List.flatMap_cons, List.flatMap_map]
      simp
    rw [ht] at hl ⊢
    unfold putA foldA
    rw [List.flatMap_cons, rdL_sv [] (by simp) _ _ (by omega)]
    have ep : pushT [] (a * 40 + b) = decDigits a ++ 46 :: decDigits b := by
      unfold pushT
      rw [if_pos rfl, e, e2]
    rw [List.length_append] at hl
    rw [ep, rdL_more r _ (by simp) (fun n hn => Nat.le_of_lt (Nat.lt_trans (h2 n (List.mem_cons_of_mem _ (List.mem_cons_of_mem _ hn))) (by omega))) (by omega)]
theorem rdX_rdL {l M : List Nat} (h : rdX l = some M) : rdL [] 0 l = some (txA M) := by
  obtain ⟨h1, h2⟩ := rdX_some h
  rw [← h2]
  exact rdL_put h1
theorem rdX_none {l : List Nat} (h : rdX l = none) {s : List UInt8} {L : List Nat} (hs : arcsO s = some L) : putA L ≠ l := by
  intro e
  have := rdX_put (valid_arcs hs)
  rw [e, h] at this
  cases this
end Go.Proofs.YtpmcdkalmdlahaaDoor
