/-
  The document's parts of a text.
-/
import Derived.Test.YtpmcdkalmdlahaaDoorRefLower
import Derived.Test.YtpmcdkalmdlahaaDoorStrs
import Derived.Deep.QuietTactic
import Derived.BigQuiet
namespace Go.Proofs.YtpmcdkalmdlahaaDoor
open Go.RowKit

theorem last_set {α : Type} (L : List α) (d x : α) (h : L ≠ []) : L.set (L.length - 1) x = L.dropLast ++ [x] ∧ L[L.length - 1]? = some (L.getLastD d) := by
  have e := List.dropLast_concat_getLast h
  have hl : L.getLastD d = L.getLast h := by
    cases L with
    | nil => exact absurd rfl h
    | cons a l => simp [List.getLastD]
  obtain ⟨D, hD⟩ : ∃ D, D = L.dropLast := ⟨_, rfl⟩
  obtain ⟨z, hz⟩ : ∃ z, z = L.getLast h := ⟨_, rfl⟩
  rw [hl]
  rw [← hD, ← hz] at e
  rw [← hD, ← hz, ← e]
  simp
theorem sp_len (b : UInt8) : ∀ l, ∀ p ∈ sp b l, p.length ≤ l.length
  | [] => by simp [sp]
  | x :: l => by
    have ih := sp_len b l
    unfold sp
    split
    · intro p hp
      rcases List.mem_cons.1 hp with rfl | hp
      · simp
      · have := ih p hp
        simp only [List.length_cons]
        omega
    · intro p hp
      rcases List.mem_cons.1 hp with rfl | hp
      · cases hs : sp b l with
        | nil => simp
        | cons q qs =>
          have := ih q (by rw [hs]; exact List.mem_cons_self)
          simp only [List.headD_cons, List.length_cons]
          omega
      · have := ih p (List.mem_of_mem_tail hp)
        simp only [List.length_cons]
        omega
theorem one_str (w : World) (i : Nat) (l : List UInt8) (hi : ([[]] : List (List UInt8))[i]? = some l) : (w.alloc (.cells #[.string { data := #[] }] 9)).cell? ((⟨w.heap.size, 0, none⟩ : Addr).add i) = some (.string (baO l)) := by
  refine news_one w (.string { data := #[] }) 9 i _ ?_
  cases i with
  | zero => simp at hi; subst hi; rfl
  | succ i => simp at hi
set_option maxRecDepth 4000 in
set_option maxHeartbeats 1600000 in
theorem refParts_any (s : ByteArray) (b : UInt8) (w : World) (hs : s.size ≤ 300) :
    Calls Tryd.prog 37 #[.string s, .int .u8 (b.toNat : Int)] w fun e w' => ∃ A' c', e = .returned (.slice A' (sp b s.data.toList).length c') ∧ OwnO w' w.heap.size (.slice A' (sp b s.data.toList).length c') (sp b s.data.toList) ∧ Below w.heap.size w w' := by
  have hst : Hid (∀ k (h : k < s.size), sp b (s.data.toList.take (k + 1)) = if s[k] = b then sp b (s.data.toList.take k) ++ [[]] else (sp b (s.data.toList.take k)).dropLast ++ [(sp b (s.data.toList.take k)).getLastD [] ++ [s[k]]]) := Lib.hid fun k h => by
    rw [take_snocO s k h, sp_snoc]
  have hend : Hid (s.data.toList.take s.size = s.data.toList) := Lib.hid (List.take_of_length_le (by simp))
  have hlen := Lib.hid (fun k (h : k ≤ s.size) => show (sp b (s.data.toList.take k)).length ≤ k + 1 by
    induction k with
    | zero => exact Nat.le_refl _
    | succ k ih =>
      have ih := ih (by omega)
      rw [take_snocO s k (by omega), sp_snoc]
      split
      · rw [List.length_append]
        exact Nat.succ_le_succ ih
      · rw [List.length_append, List.length_dropLast]
        have : ([(sp b (s.data.toList.take k)).getLastD [] ++ [s[k]]] : List (List UInt8)).length = 1 := rfl
        omega)
  have hne := Lib.hid (fun k => sp_ne b (s.data.toList.take k))
  go_enter Tryd.func37, Tryd.ntmps37
  go_wp2_with fail
  go_loopw [5, 6] (fun v i wr => ∃ (k N g cc : Nat) (L : List (List UInt8)), k ≤ s.size ∧ 0 < N ∧ N ≤ 301 ∧ N ≤ cc ∧ i = .int .i64 (k : Int) ∧ v = .slice (some ⟨g, 0, none⟩) N cc ∧ Hid (L.length = N) ∧ Hid (L = sp b (s.data.toList.take k)) ∧ Hid (OwnO wr w.heap.size (.slice (some ⟨g, 0, none⟩) N cc) L) ∧ Hid (Below w.heap.size w wr)) (fun _ i _ => s.size - (intOf i).toNat)
  case atStart => exact ⟨0, 1, w.heap.size, 1, [[]], Nat.zero_le _, by omega, by omega, by omega, rfl, rfl, Lib.hid rfl, Lib.hid rfl, Lib.hid (OwnO.one w w.heap.size [] (Nat.le_refl _)), Lib.hid ((Below.refl _ _).alloc (Nat.le_refl _) _)⟩
  case round =>
    obtain ⟨k, N, g, cc, L, hk, hN0, hN, hcc, rfl, rfl, HN, HL, HO, HB⟩ := hrel
    have hsz1 := HB.out.size
    by_cases hlt : k < s.size
    · have h1 := hst.out k hlt
      have h2 := hlen.out (k + 1) hlt
      have h3 := hne.out k
      rw [← HL.out] at h1 h3
      have i0 : (0 : Int) ≤ (k : Int) := by omega
      have i1 : (k : Int) < (s.size : Int) := by omega
      by_cases hb : s[k] = b
      · rw [if_pos hb] at h1
        have hN1 : N + 1 ≤ 301 := by
          rw [h1, List.length_append, HN.out] at h2
          have h4 : ([[]] : List (List UInt8)).length = 1 := rfl
          omega
        have kb : ((s[k].toNat : Int) == (b.toNat : Int)) = true := by rw [hb]; simp
        replace h1 := Lib.hid h1
        replace h2 := Lib.hid h2
        replace h3 := Lib.hid h3
        replace hb := Lib.hid hb
        go_wp2_with (at_builtin; refine append_strs rfl (.tmp 19) (.tmp 20) rfl w.heap.size _ L N HN.out rfl (HO.out.alloc _) ⟨wr.heap.size, 0, none⟩ 1 1 [[]] rfl rfl (fun i l hi => one_str wr i l hi) (N + 1) rfl (by omega) (by simp; omega) ?_; intro A4 c4 w4 ho4 hb4; have HO4 := Lib.hid ho4; have HB4 := Lib.hid (show Below w.heap.size w w4 from HB.out.trans (((Below.refl w.heap.size wr).alloc hsz1 _).trans hb4)); clear ho4 hb4)
        rcases HO4.out.form with ⟨_, e1⟩ | ⟨g4, c5, e1, _, _, e2, _, _⟩
        · simp at e1
        · injection e1 with e1 _ e3
          subst e1 e3
          have hl4 : (L ++ [[]]).length = N + 1 := by rw [List.length_append, HN.out]; rfl
          rw [hl4] at e2
          replace hl4 := Lib.hid hl4
          go_roundw
          case rel => exact ⟨k + 1, N + 1, g4, c4, L ++ [[]], by omega, by omega, hN1, e2, by go_num, rfl, hl4, Lib.hid h1.out.symm, HO4, HB4⟩
          case measure => simp [intOf]; omega
      · rw [if_neg hb] at h1
        obtain ⟨h5, h6⟩ := last_set L [] (L.getLastD [] ++ [s[k]]) h3
        obtain ⟨p, hp⟩ : ∃ p, p = L.getLastD [] := ⟨_, rfl⟩
        rw [← hp] at h1 h5 h6
        rw [HN.out] at h5 h6
        have kb : ((s[k].toNat : Int) == (b.toNat : Int)) = false := by
          rw [beq_eq_false_iff_ne]
          intro e
          exact hb (UInt8.toNat_inj.1 (by omega))
        have hcell : wr.cell? ⟨g, N - 1, none⟩ = some (.string (baO p)) := by
          rcases HO.out.form with ⟨e1, _⟩ | ⟨g4, c5, e1, _, _, _, _, e4⟩
          · cases e1
          · injection e1 with e1 _ _
            injection e1 with e1
            injection e1 with e1
            rw [e1]
            exact e4 _ _ h6
        have hfz := World.ownsRow.frozenAt (w := wr) (base := w.heap.size) (e := 9) (size := 1) (g := g) (n := N) (cap := cc) (xs := cellsO L) (by have := HO.out; unfold OwnO at this; rwa [HN.out] at this) (N - 1)
        obtain ⟨y, hy⟩ : ∃ y, baO p ++ s.extract k (k + 1) = y := ⟨_, rfl⟩
        have hyl : y = baO (p ++ [s[k]]) := by
          rw [← hy]
          refine eq_baO ?_
          rw [ByteArray.data_append, Array.toList_append, baO_list, ByteArray.data_extract, Array.toList_extract]
          congr 1
          rw [List.extract_eq_take_drop, show k + 1 - k = 1 from by omega, List.drop_eq_getElem_cons (by simpa using hlt)]
          rfl
        have hpl := Lib.hid (sp_len b (s.data.toList.take k) p (by rw [← HL.out]; exact List.mem_of_getElem? h6))
        have hps : (baO p).size ≤ 300 := by
          have h7 : (baO p).size = p.length := by simp [baO, ByteArray.size]
          have h8 := hpl.out
          rw [List.length_take] at h8
          omega
        have hes : (s.extract k (k + 1)).size ≤ 1 := by
          rw [ByteArray.size_extract]
          omega
        have hput := Lib.hid (fun (u : World) (hu : OwnO u w.heap.size (.slice (some ⟨g, 0, none⟩) L.length cc) L) => hu.put (N - 1) (p ++ [s[k]]))
        have n1 : ((N : Int) - 1) = ((N - 1 : Nat) : Int) := by omega
        have n2 : (0 : Int) ≤ ((N - 1 : Nat) : Int) := by omega
        have n3 : ((N - 1 : Nat) : Int) < (N : Int) := by omega
        have n4 : (k : Int) + 1 ≤ (s.size : Int) := by omega
        have n5 : (k : Int) ≤ (k : Int) + 1 := by omega
        replace h1 := Lib.hid h1
        replace h2 := Lib.hid h2
        replace h3 := Lib.hid h3
        replace h5 := Lib.hid h5
        replace h6 := Lib.hid h6
        replace hp := Lib.hid hp
        replace hyl := Lib.hid hyl
        replace hb := Lib.hid hb
        go_wp2_with fail
        go_region
        go_wp2_with fail
        have HO2 : Hid (OwnO (wr.drew.setCell ⟨g, N - 1, none⟩ (.string y)) w.heap.size (.slice (some ⟨g, 0, none⟩) N cc) (L.set (N - 1) (p ++ [s[k]]))) := Lib.hid (by
          have h7 := hput.out wr.drew (by have := HO.out; rw [← HN.out] at this; exact this)
          rw [HN.out] at h7
          rw [hyl.out]
          exact h7)
        have hgb : w.heap.size ≤ g := by
          rcases HO.out.form with ⟨e1, _⟩ | ⟨g4, c5, e1, e2, _⟩
          · cases e1
          · injection e1 with e1 _ _
            injection e1 with e1
            injection e1 with e1
            rw [e1]
            exact e2
        have HB2 : Hid (Below w.heap.size w (wr.drew.setCell ⟨g, N - 1, none⟩ (.string y))) := Lib.hid (HB.out.drew.setCell (p := ⟨g, N - 1, none⟩) hgb _)
        go_roundw
        case rel => exact ⟨k + 1, N, g, cc, L.set (N - 1) (p ++ [s[k]]), by omega, hN0, hN, hcc, by go_num, rfl, Lib.hid (by rw [List.length_set, HN.out]), Lib.hid (by rw [h5.out, h1.out]), HO2, HB2⟩
        case measure => simp [intOf]; omega
    · have hkk : k = s.size := by omega
      subst hkk
      have i1 : ¬ ((s.size : Int) < (s.size : Int)) := by omega
      go_wp2_with fail
      go_ret
      have e : L = sp b s.data.toList := by rw [HL.out, hend.out]
      exact ⟨_, cc, by rw [← e, HN.out]; rfl, by rw [← e, HN.out]; exact HO.out, HB.out⟩
end Go.Proofs.YtpmcdkalmdlahaaDoor
