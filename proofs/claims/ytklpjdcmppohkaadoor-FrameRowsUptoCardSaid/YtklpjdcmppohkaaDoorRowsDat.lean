/-
  Rows of slices of bytes that are put together.
-/
import Derived.Test.YtklpjdcmppohkaaDoorOpenRows
import Derived.Test.YtklpjdcmppohkaaDoorBackDat
namespace Go.Proofs.YtklpjdcmppohkaaDoor
open Go.RowKit

theorem OwnS.lit (w : World) : OwnS (w.alloc (.cells #[] 23)) w.heap.size (.slice (some ⟨w.heap.size, 0, none⟩) 0 0) [] :=
  ⟨[], World.ownsRow_made w #[] 0 (Nat.le_refl _) (Nat.zero_le _) rfl, fun i hi => absurd hi (by simp)⟩
theorem append_rowsA {w : World} {ops : Array Oper} {rest : List Oper} {o : Oper} {a : Act} {Q : Exit → Act → World → Prop} (hgd : o.guard = none) (s x : Operand)
    (ho : o.op = .call { callee := .builtin .append, args := #[s, x], argTypes := #[36, 36] })
    (base : Nat) (v : Value) (L : List (List Nat)) (n : Nat) (hn : L.length = n) (hs : a.eval s = v) (hown : OwnS w base v L)
    (K : Nat) (A : Option Addr) (c : Nat) (M : List (List Nat)) (m : Nat) (hm : M.length = m) (hx : a.eval x = .slice A m c) (hsrc : RowA w K A c M) (hK : K ≤ base)
    (N : Nat) (hN : n + m = N) (hlen : N ≤ 2000000) (hbase : base ≤ w.heap.size)
    (h : ∀ A' c' w', OwnS w' base (.slice A' N c') (L ++ M) → Below base w w' → wpList Tryd.prog ops Q rest (a.put o.dst (.slice A' N c')) w') : wpList Tryd.prog ops Q (o :: rest) a w := by
  rcases A with _ | ad
  · obtain ⟨i0, hi, hz0, hz1, hz2⟩ := info_parts info_bs
    have hc : c = 0 := hsrc.nil rfl
    have hM : M = [] := List.eq_nil_of_length_eq_zero (by have := hsrc.le; omega)
    subst hc hM
    obtain rfl : m = 0 := hm.symm
    subst hN hn
    obtain ⟨A', c', rfl, _⟩ := hown.form
    obtain ⟨cs, hrow, hcs⟩ := id hown
    refine wpList_append_own_none hgd s x 36 ho base 23 i0 1 Tryd.underlying36 hi _ L.length cs hs hrow hx ?_
    exact h A' c' w (by rw [List.append_nil]; exact hown) (Below.refl _ _)
  · refine append_rows hgd s x ho base v L n hn hs hown ad m c M hm hx (fun i hi => ?_) N hN hlen hbase fun A' c' w' h1 h2 _ => h A' c' w' h1 h2
    obtain ⟨ad', A', c', h1, h2, h3, h4, h5, _⟩ := hsrc.at_ i hi
    injection h1 with h1
    subst h1
    exact ⟨A', c', h3, SrI.of_src h4 hK h5⟩
/-- A row of the call's own as one that is only read from now on. -/
theorem OwnS.rowA {w : World} {base : Nat} {A : Option Addr} {c n : Nat} {L : List (List Nat)} (h : OwnS w base (.slice A n c) L) (hb : base ≤ w.heap.size) (hby : ∀ l ∈ L, ∀ x ∈ l, x < 256) : RowA w w.heap.size A c L := by
  obtain ⟨cs, ⟨hl, h0 | ⟨g, cap, cur, hv, hbs, hg, hn, hm, hs, hx⟩⟩, h2⟩ := h
  · obtain ⟨hv, h0⟩ := h0
    injection hv with h3 h4 h5
    subst h3 h5
    exact ⟨by omega, by omega, fun _ => rfl, fun i hi => by omega⟩
  · injection hv with h3 h4 h5
    subst h3 h5
    refine ⟨hn, by unfold maxLen at hm; exact hm, (by simp), fun i hi => ?_⟩
    obtain ⟨A', c', h3, h4⟩ := h2 i hi
    refine ⟨⟨g, 0, none⟩, A', c', rfl, (Array.getElem?_eq_some_iff.1 hg).1, ?_, h4.src hb, h4.cap, hby _ (List.getElem_mem hi)⟩
    rw [show (⟨g, 0, none⟩ : Addr).add i = ⟨g, i, none⟩ by unfold Addr.add; by_cases h : i = 0 <;> simp [h]]
    rw [cell_of_row w g i cur _ _ hg, ← h3, ← hx, List.getElem?_take, if_pos (by omega)]
    simp
/-- What stands behind four bytes 255 does not count. -/
theorem rows_bad (L : List (List Nat)) (m : List Nat) (h : okL L) : scanP (cat L ++ ([255, 255, 255, 255] ++ m)) = (L, (cat L).length, 3) := by
  have ho : openP ([255, 255, 255, 255] ++ m) = ([], 0, 3) := by
    unfold openP
    rw [if_neg (by simp), if_pos (by unfold lenF be4 at4; simp)]
  have hb := scanP_bad ([255, 255, 255, 255] ++ m) (by simp) (by rw [ho]; simp)
  rw [ho] at hb
  rw [scanP_cat L _ h, hb]
  simp
theorem rows_all (L : List (List Nat)) (h : okL L) : scanP (cat L) = (L, (cat L).length, 0) := by
  have := scanP_cat L [] h
  rw [List.append_nil, scanP_nil] at this
  simpa using this
end Go.Proofs.YtklpjdcmppohkaaDoor
