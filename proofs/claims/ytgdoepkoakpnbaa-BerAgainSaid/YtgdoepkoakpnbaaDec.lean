/-
  The program's decode of any bytes that begin with an element and hold it whole.
-/
import Derived.Test.YtgdoepkoakpnbaaDec2
namespace Go.Proofs.Ytgdoepkoakpnbaa
open Go.RowKit

theorem hdT_u (l : List Nat) (h : (hdT l).2.2 = 0) : (rdT l).2.2.2.1 ≤ (hdT l).1 := by
  unfold hdT at h ⊢
  split at h
  · rename_i h1
    exact absurd h h1
  · rename_i h1
    rw [if_neg h1]
    split at h
    · rename_i h2
      exact absurd h h2
    · rename_i h2
      rw [if_neg h2]
      split at h
      · simp at h
      · rename_i h3
        rw [if_neg h3]
        simp only []
        omega
theorem dec_any : ∀ (f d : Nat) (l : List Nat) (A : Option Addr) (cp : Nat) (w : World) (K : Nat), 2 * (hdT l).1 ≤ f → Src w K A cp l → K ≤ w.heap.size → l.length ≤ 1048600 → cp ≤ 9223372036854775807 → (∀ x ∈ l, x < 256) →
    (hdT l).2.2 = 0 → (hdT l).1 ≤ l.length → d ≤ 23 → Calls Try.prog 33 #[.slice A l.length cp, headV l, .int .i64 (d : Int)] w (DecPost (inP f (l.take (hdT l).1) d) w) := by
  intro f
  induction f using Nat.strongRecOn with
  | ind f IH =>
  intro d l A cp w K hf hs hK hl hcp hby hH hA hd
  obtain ⟨a1, a2, a3, a4, a5⟩ := hdT_ok l hby hH
  obtain ⟨b, off, rfl, hbK, hc⟩ := hs.plain (by omega)
  clear hc
  rcases f with _ | f
  · omega
  have ht : hdT (l.take (hdT l).1) = hdT l := hdT_take l hby hH
  have hr : rdT (l.take (hdT l).1) = rdT l := rdT_take l _ a1 (hdT_u l hH)
  have hI : inP (f + 1) (l.take (hdT l).1) d = if (rdT l).2.1 = false then (⟨((rdT l).1 : Nat), false, ((rdT l).2.2.1 : Nat), (l.take (hdT l).1).drop (hdT l).2.1, .nil⟩, 0)
      else madeP (rdT l).1 (rdT l).2.2.1 (rowP f ((l.take (hdT l).1).drop (hdT l).2.1) d) := by
    rw [inP, ht, hr, List.take_take, Nat.min_self]
    unfold madeP
    split
    · rfl
    · rfl
  rw [hI]
  unfold headV
  rw [if_pos hH]
  have a6 : (hdT l).2.1 ≤ (hdT l).1 := a3
  obtain ⟨⟨c, m, n, u, er⟩, hT⟩ : ∃ q, q = rdT l := ⟨_, rfl⟩
  obtain ⟨⟨al, fr, e0⟩, hD⟩ : ∃ q, q = hdT l := ⟨_, rfl⟩
  rw [← hT, ← hD]
  rw [← hD] at hH hA a2 a3 a4 a5 hf
  simp only [] at hH hA a2 a3 a4 a5 hf ⊢
  subst hH
  cases m
  · rw [if_pos rfl]
    exact dec_prim b off cp d c n al fr l w K hK hs hl hcp a3 hA
  · rw [if_neg (by simp)]
    refine dec_made b off cp d c n al fr f l w K hK hs hcp hby a3 hA a4 hd (by omega) ?_
    intro f1 r o c1 w1 h1 h2 h3 h4 h5 h6 h7 h8 h9 h10
    have := IH f1 (by omega) (d + 1) r (some ⟨b, o, none⟩) c1 w1 K h2 h3 h4 h5 h6 h7 h8 h9 h10
    simpa using this
end Go.Proofs.Ytgdoepkoakpnbaa
