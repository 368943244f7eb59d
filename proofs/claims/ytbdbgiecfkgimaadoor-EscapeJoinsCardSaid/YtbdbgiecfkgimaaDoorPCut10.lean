/-
  The library's Cut at one byte.
-/
import Derived.Test.YtbdbgiecfkgimaaDoorEscStr
import Derived.Test.YtbdbgiecfkgimaaDoorShelf
import Derived.Lib.Bytealg
import Derived.Lib.CutLaws
import Derived.Lib.AppendIntMem
namespace Go.Proofs.YtbdbgiecfkgimaaDoor
open Go.RowKit Go.Lib

def baU (l : List UInt8) : ByteArray := ⟨l.toArray⟩
theorem baU_list (l : List UInt8) : (baU l).data.toList = l := rfl
theorem ix_miss {b : UInt8} : ∀ {r : List UInt8}, b ∉ r → indexByte r b = -1
  | [], _ => rfl
  | x :: l, h => by
    have h1 : ¬ x = b := fun e => h (by simp [e])
    have h2 : b ∉ l := fun e => h (List.mem_cons_of_mem _ e)
    unfold indexByte
    rw [ix_miss h2]
    simp [h1]
theorem ix_hit {b : UInt8} : ∀ {p r : List UInt8}, b ∉ p → indexByte (p ++ b :: r) b = (p.length : Int)
  | [], r, _ => by simp [indexByte]
  | x :: l, r, h => by
    have h1 : ¬ x = b := fun e => h (by simp [e])
    have h2 : b ∉ l := fun e => h (List.mem_cons_of_mem _ e)
    rw [List.cons_append]
    unfold indexByte
    rw [ix_hit h2]
    have h3 : ¬ ((l.length : Int) = -1) := by omega
    simp [h1, h3]
theorem baU_size (l : List UInt8) : (baU l).size = l.length := by simp [baU, ByteArray.size]
theorem baU_hit1 (p q : List UInt8) (b : UInt8) : (baU (p ++ b :: q)).extract 0 p.length = baU p := by
  apply ByteArray.ext
  rw [ByteArray.data_extract]
  apply Array.ext'
  rw [Array.toList_extract]
  simp [baU]
theorem baU_hit2 (p q : List UInt8) (b : UInt8) (n : Nat) (hn : n = (p ++ b :: q).length) : (baU (p ++ b :: q)).extract (p.length + 1) n = baU q := by
  subst hn
  apply ByteArray.ext
  rw [ByteArray.data_extract]
  apply Array.ext'
  rw [Array.toList_extract, List.extract_eq_take_drop]
  show List.take _ (List.drop _ (p ++ b :: q)) = q
  rw [show p.length + 1 = (p ++ [b]).length by simp, show p ++ b :: q = (p ++ [b]) ++ q by simp, List.drop_left]
  exact List.take_of_length_le (by simp; omega)
set_option maxHeartbeats 800000 in
theorem lcut_miss (r : List UInt8) (b : UInt8) (h : b ∉ r) (w : World) :
    Calls Tryd.prog 57 #[.string (baU r), .string { data := #[b] }] w fun e w' => e = .returned (.tuple #[.string (baU r), .string { data := #[] }, .bool false]) ∧ w' = w := by
  have CI := fun w => Tryd.stringslite_Index_one (baU r) b w
  simp only [baU_list, ix_miss h] at CI
  replace CI := Lib.hid CI
  go_enter Tryd.func57, Tryd.ntmps57
  go_wp2_with fail
  refine (CI.out _).mono ?_
  rintro _ w2 ⟨rfl, h2⟩
  subst w2
  dsimp only []
  go_wp2_with fail
  go_returns
  exact ⟨rfl, rfl⟩
set_option maxHeartbeats 800000 in
theorem lcut_hit (p q : List UInt8) (b : UInt8) (h : b ∉ p) (hl : (p ++ b :: q).length ≤ 1000000) (w : World) :
    Calls Tryd.prog 57 #[.string (baU (p ++ b :: q)), .string { data := #[b] }] w fun e w' => e = .returned (.tuple #[.string (baU p), .string (baU q), .bool true]) ∧ Below w.heap.size w w' := by
  have CI := fun w => Tryd.stringslite_Index_one (baU (p ++ b :: q)) b w
  simp only [baU_list, ix_hit h] at CI
  obtain ⟨x, hx⟩ : ∃ x, baU (p ++ b :: q) = x := ⟨_, rfl⟩
  obtain ⟨t, ht⟩ : ∃ t : ByteArray, { data := #[b] } = t := ⟨_, rfl⟩
  have ht1 : t.size = 1 := by rw [← ht]; rfl
  have hxs : x.size = p.length + 1 + q.length := by rw [← hx, baU_size]; simp; omega
  have e1 := baU_hit1 p q b
  have e2 := baU_hit2 p q b x.size (by rw [← hx, baU_size])
  obtain ⟨k, hk⟩ : ∃ k, k = p.length := ⟨_, rfl⟩
  rw [hx, ← hk] at e1 e2
  rw [← ht1] at e2
  rw [hx, ht] at CI ⊢
  rw [← hk] at CI hxs
  have c1 : (0 : Int) ≤ (k : Int) := by omega
  have c2 : (k : Int) ≤ (x.size : Int) := by omega
  have c3 : (0 : Int) ≤ (k : Int) + (t.size : Int) := by omega
  have c4 : (k : Int) + (t.size : Int) ≤ (x.size : Int) := by omega
  have c5 : x.size ≤ 1000000 := by
    rw [← hx, baU_size]; exact hl
  have c6 : t.size ≤ 1 := by omega
  have hb := Lib.hid (below_grow w.heap.size w (Nat.le_refl _) 1 #[])
  replace CI := Lib.hid CI
  clear hx ht hk hxs h hl ht1
  go_enter Tryd.func57, Tryd.ntmps57
  go_wp2_with fail
  refine (CI.out _).mono ?_
  rintro _ w2 ⟨rfl, h2⟩
  subst w2
  dsimp only []
  go_wp2_with fail
  go_region
  go_wp2_with fail
  go_returns
  exact ⟨by rw [← e2]; try rfl, hb.out⟩
theorem cut_miss (r : List UInt8) (b : UInt8) (h : b ∉ r) (w : World) :
    Calls Tryd.prog 38 #[.string (baU r), .string { data := #[b] }] w fun e w' => e = .returned (.tuple #[.string (baU r), .string { data := #[] }, .bool false]) ∧ w' = w := by
  have C := Lib.hid (lcut_miss r b h w)
  go_enter Tryd.func38, Tryd.ntmps38
  go_wp2_with fail
  refine C.out.mono ?_
  rintro _ w2 ⟨rfl, h2⟩
  subst w2
  dsimp only []
  go_wp2_with fail
  go_returns
  exact ⟨rfl, rfl⟩
theorem cut_hit (p q : List UInt8) (b : UInt8) (h : b ∉ p) (hl : (p ++ b :: q).length ≤ 1000000) (w : World) :
    Calls Tryd.prog 38 #[.string (baU (p ++ b :: q)), .string { data := #[b] }] w fun e w' => e = .returned (.tuple #[.string (baU p), .string (baU q), .bool true]) ∧ Below w.heap.size w w' := by
  have C := Lib.hid (lcut_hit p q b h hl w)
  go_enter Tryd.func38, Tryd.ntmps38
  go_wp2_with fail
  refine C.out.mono ?_
  rintro _ w2 ⟨rfl, h2⟩
  replace h2 := Lib.hid h2
  dsimp only []
  go_wp2_with fail
  go_returns
  exact ⟨rfl, h2.out⟩

theorem baU_strB (l : List Nat) : strB l = baU (l.map UInt8.ofNat) := by
  apply ba_ext
  rw [strB_list]
  rfl
theorem ofNat_not {p : List Nat} (hb : byE p) (h : 92 ∉ p) : (92 : UInt8) ∉ p.map UInt8.ofNat := by
  intro hm
  obtain ⟨x, hx, he⟩ := List.mem_map.1 hm
  have h1 := congrArg UInt8.toNat he
  rw [UInt8.toNat_ofNat', Nat.mod_eq_of_lt (hb x hx)] at h1
  have h1 : x = 92 := h1
  exact h (h1 ▸ hx)
theorem cutN_miss (r : ByteArray) (h : 92 ∉ bs r) (w : World) :
    Calls Tryd.prog 38 #[.string r, .string { data := #[92] }] w fun e w' => e = .returned (.tuple #[.string r, .string { data := #[] }, .bool false]) ∧ w' = w := by
  have hr : r = baU ((bs r).map UInt8.ofNat) := by rw [← baU_strB, strB_bs]
  rw [hr]
  exact cut_miss _ 92 (ofNat_not (by_bs r) h) w
theorem cutN_hit (r : ByteArray) (p q : List Nat) (hr : bs r = p ++ 92 :: q) (h : 92 ∉ p) (hl : r.size ≤ 1000000) (w : World) :
    Calls Tryd.prog 38 #[.string r, .string { data := #[92] }] w fun e w' => e = .returned (.tuple #[.string (strB p), .string (strB q), .bool true]) ∧ Below w.heap.size w w' := by
  have hb := by_bs r
  rw [hr] at hb
  have hp : byE p := fun c hc => hb c (List.mem_append_left _ hc)
  have e : r = baU (p.map UInt8.ofNat ++ 92 :: q.map UInt8.ofNat) := by
    rw [← strB_bs r, hr, baU_strB, List.map_append]
    rfl
  have hz : (p.map UInt8.ofNat ++ (92 : UInt8) :: q.map UInt8.ofNat).length ≤ 1000000 := by
    have := congrArg List.length hr
    rw [bs_len] at this
    simp only [List.length_append, List.length_cons, List.length_map] at this ⊢
    omega
  rw [e, baU_strB p, baU_strB q]
  exact cut_hit _ _ 92 (ofNat_not hp h) hz w
theorem cutN_cases : ∀ l : List Nat, 92 ∉ l ∨ ∃ p q, l = p ++ 92 :: q ∧ 92 ∉ p
  | [] => .inl List.not_mem_nil
  | c :: t => by
    by_cases h : c = 92
    · exact .inr ⟨[], t, by rw [h]; rfl, List.not_mem_nil⟩
    · rcases cutN_cases t with h1 | ⟨p, q, h1, h2⟩
      · exact .inl fun hm => by
          rcases List.mem_cons.1 hm with e | e
          · exact h e.symm
          · exact h1 e
      · exact .inr ⟨c :: p, q, by rw [h1]; rfl, fun hm => by
          rcases List.mem_cons.1 hm with e | e
          · exact h e.symm
          · exact h2 e⟩
end Go.Proofs.YtbdbgiecfkgimaaDoor
