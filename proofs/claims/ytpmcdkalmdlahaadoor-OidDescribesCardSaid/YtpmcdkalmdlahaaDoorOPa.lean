/-
  The library's Cut at one byte.
-/
import Derived.Test.YtpmcdkalmdlahaaDoorOidDat
import Derived.Lib.Bytealg
import Derived.Test.YtpmcdkalmdlahaaDoorStrs
import Derived.Test.YtpmcdkalmdlahaaDoorShelf
import Derived.Lib.CutLaws
import Derived.Lib.AppendIntMem
namespace Go.Proofs.YtpmcdkalmdlahaaDoor
open Go.Lib

theorem ix_miss {b : UInt8} : ∀ {r : List UInt8}, b ∉ r → indexByte r b = -1
  | [], _ => rfl
  | x :: l, h => by
    have h1 : ¬ x = b := fun e => h (by simp [e])
    have h2 : b ∉ l := fun e => h (List.mem_cons_of_mem _ e)
    unfold indexByte
    rw [ix_miss h2]
    simp [h1]
theorem ix_hit {b : UInt8} : ∀ {p r : List UInt8}, b ∉ p → indexByte (p ++ b :: r) b = (p.length : Int)
  | [], r, _ => by simp [indexByte]
  | x :: l, r, h => by
    have h1 : ¬ x = b := fun e => h (by simp [e])
    have h2 : b ∉ l := fun e => h (List.mem_cons_of_mem _ e)
    rw [List.cons_append]
    unfold indexByte
    rw [ix_hit h2]
    have h3 : ¬ ((l.length : Int) = -1) := by omega
    simp [h1, h3]
theorem part_cases (b : UInt8) : ∀ r : List UInt8, (b ∉ r ∧ sp b r = [r]) ∨ ∃ p q, r = p ++ b :: q ∧ b ∉ p ∧ sp b r = p :: sp b q
  | [] => .inl ⟨by simp, rfl⟩
  | x :: l => by
    by_cases h : x = b
    · subst h
      exact .inr ⟨[], l, rfl, by simp, by simp [sp]⟩
    · rcases part_cases b l with ⟨h1, h2⟩ | ⟨p, q, h1, h2, h3⟩
      · refine .inl ⟨?_, ?_⟩
        · intro hm
          rcases List.mem_cons.1 hm with h4 | h4
          · exact h h4.symm
          · exact h1 h4
        · rw [sp, if_neg h, h2]
          rfl
      · refine .inr ⟨x :: p, q, by rw [h1]; rfl, ?_, ?_⟩
        · intro hm
          rcases List.mem_cons.1 hm with h4 | h4
          · exact h h4.symm
          · exact h2 h4
        · rw [sp, if_neg h, h3]
          rfl
theorem mapM_arcs {l : List UInt8} {M : List Nat} (h : (sp 46 l).mapM arcV = some M) : txA M = l ∧ ∀ n ∈ M, n < 10000000000 := by
  obtain ⟨h3, h4⟩ := mapM_get arcV _ _ h
  refine ⟨?_, fun n hn => ?_⟩
  · have e : M.map decDigits = sp 46 l := by
      refine List.ext_getElem (by rw [List.length_map, h3]) fun i h5 h6 => ?_
      rw [List.getElem_map]
      exact (arcV_some (h4 i h6 (by simpa using h5))).1
    unfold txA
    rw [e, jn_sp]
  · obtain ⟨i, hi, rfl⟩ := List.getElem_of_mem hn
    exact (arcV_some (h4 i (by omega) hi)).2.2
/-- Up to sixteen numbers: the text is short enough by itself. -/
theorem arcs_few {l : List UInt8} {M : List Nat} (h : (sp 46 l).mapM arcV = some M) (h16 : M.length ≤ 16) : arcsO l = if okA M = true then some M else none := by
  obtain ⟨h1, h2⟩ := mapM_arcs h
  have h3 := txA_len M h2
  rw [h1] at h3
  unfold arcsO
  rw [if_pos (by omega), h]
  by_cases hk : okA M = true
  · rw [if_pos hk]; simp [hk]
  · rw [if_neg hk]; simp [hk]
theorem arcs_many {l : List UInt8} {M : List Nat} (h : (sp 46 l).mapM arcV = some M) (h16 : 16 < M.length) : arcsO l = none := by
  unfold arcsO
  split
  · rw [h, Option.filter_eq_none_iff]
    intro a ha hk
    have := okA_len hk
    simp at ha
    subst ha
    omega
  · rfl
end Go.Proofs.YtpmcdkalmdlahaaDoor
namespace Go.Proofs.YtpmcdkalmdlahaaDoor
open Go.RowKit Go.Lib

theorem baO_size (l : List UInt8) : (baO l).size = l.length := by simp [baO, ByteArray.size]
theorem baO_hit1 (p q : List UInt8) (b : UInt8) : (baO (p ++ b :: q)).extract 0 p.length = baO p := by
  apply ByteArray.ext
  rw [ByteArray.data_extract]
  apply Array.ext'
  rw [Array.toList_extract]
  simp [baO]
theorem baO_hit2 (p q : List UInt8) (b : UInt8) (n : Nat) (hn : n = (p ++ b :: q).length) : (baO (p ++ b :: q)).extract (p.length + 1) n = baO q := by
  subst hn
  apply ByteArray.ext
  rw [ByteArray.data_extract]
  apply Array.ext'
  rw [Array.toList_extract, List.extract_eq_take_drop]
  show List.take _ (List.drop _ (p ++ b :: q)) = q
  rw [show p.length + 1 = (p ++ [b]).length by simp, show p ++ b :: q = (p ++ [b]) ++ q by simp, List.drop_left]
  exact List.take_of_length_le (by simp; omega)
set_option maxHeartbeats 800000 in
theorem lcut_miss (r : List UInt8) (b : UInt8) (h : b ∉ r) (w : World) :
    Calls Tryd.prog 48 #[.string (baO r), .string { data := #[b] }] w fun e w' => e = .returned (.tuple #[.string (baO r), .string { data := #[] }, .bool false]) ∧ w' = w := by
  have CI := fun w => Tryd.stringslite_Index_one (baO r) b w
  simp only [baO_list, ix_miss h] at CI
  replace CI := Lib.hid CI
  go_enter Tryd.func48, Tryd.ntmps48
  go_wp2_with fail
  refine (CI.out _).mono ?_
  rintro _ w2 ⟨rfl, h2⟩
  subst w2
  dsimp only []
  go_wp2_with fail
  go_returns
  exact ⟨rfl, rfl⟩
set_option maxHeartbeats 800000 in
theorem lcut_hit (p q : List UInt8) (b : UInt8) (h : b ∉ p) (hl : (p ++ b :: q).length ≤ 1000000) (w : World) :
    Calls Tryd.prog 48 #[.string (baO (p ++ b :: q)), .string { data := #[b] }] w fun e w' => e = .returned (.tuple #[.string (baO p), .string (baO q), .bool true]) ∧ Below w.heap.size w w' := by
  have CI := fun w => Tryd.stringslite_Index_one (baO (p ++ b :: q)) b w
  simp only [baO_list, ix_hit h] at CI
  obtain ⟨x, hx⟩ : ∃ x, baO (p ++ b :: q) = x := ⟨_, rfl⟩
  obtain ⟨t, ht⟩ : ∃ t : ByteArray, { data := #[b] } = t := ⟨_, rfl⟩
  have ht1 : t.size = 1 := by rw [← ht]; rfl
  have hxs : x.size = p.length + 1 + q.length := by rw [← hx, baO_size]; simp; omega
  have e1 := baO_hit1 p q b
  have e2 := baO_hit2 p q b x.size (by rw [← hx, baO_size])
  obtain ⟨k, hk⟩ : ∃ k, k = p.length := ⟨_, rfl⟩
  rw [hx, ← hk] at e1 e2
  rw [← ht1] at e2
  rw [hx, ht] at CI ⊢
  rw [← hk] at CI hxs
  have c1 : (0 : Int) ≤ (k : Int) := by omega
  have c2 : (k : Int) ≤ (x.size : Int) := by omega
  have c3 : (0 : Int) ≤ (k : Int) + (t.size : Int) := by omega
  have c4 : (k : Int) + (t.size : Int) ≤ (x.size : Int) := by omega
  have c5 : x.size ≤ 1000000 := by
    rw [← hx, baO_size]; exact hl
  have c6 : t.size ≤ 1 := by omega
  have hb := Lib.hid (below_grow w.heap.size w (Nat.le_refl _) 1 #[])
  replace CI := Lib.hid CI
  clear hx ht hk hxs h hl ht1
  go_enter Tryd.func48, Tryd.ntmps48
  go_wp2_with fail
  refine (CI.out _).mono ?_
  rintro _ w2 ⟨rfl, h2⟩
  subst w2
  dsimp only []
  go_wp2_with fail
  go_region
  go_wp2_with fail
  go_returns
  exact ⟨by rw [← e2]; try rfl, hb.out⟩
theorem cut_miss (r : List UInt8) (b : UInt8) (h : b ∉ r) (w : World) :
    Calls Tryd.prog 35 #[.string (baO r), .string { data := #[b] }] w fun e w' => e = .returned (.tuple #[.string (baO r), .string { data := #[] }, .bool false]) ∧ w' = w := by
  have C := Lib.hid (lcut_miss r b h w)
  go_enter Tryd.func35, Tryd.ntmps35
  go_wp2_with fail
  refine C.out.mono ?_
  rintro _ w2 ⟨rfl, h2⟩
  subst w2
  dsimp only []
  go_wp2_with fail
  go_returns
  exact ⟨rfl, rfl⟩
theorem cut_hit (p q : List UInt8) (b : UInt8) (h : b ∉ p) (hl : (p ++ b :: q).length ≤ 1000000) (w : World) :
    Calls Tryd.prog 35 #[.string (baO (p ++ b :: q)), .string { data := #[b] }] w fun e w' => e = .returned (.tuple #[.string (baO p), .string (baO q), .bool true]) ∧ Below w.heap.size w w' := by
  have C := Lib.hid (lcut_hit p q b h hl w)
  go_enter Tryd.func35, Tryd.ntmps35
  go_wp2_with fail
  refine C.out.mono ?_
  rintro _ w2 ⟨rfl, h2⟩
  replace h2 := Lib.hid h2
  dsimp only []
  go_wp2_with fail
  go_returns
  exact ⟨rfl, h2.out⟩
end Go.Proofs.YtpmcdkalmdlahaaDoor
