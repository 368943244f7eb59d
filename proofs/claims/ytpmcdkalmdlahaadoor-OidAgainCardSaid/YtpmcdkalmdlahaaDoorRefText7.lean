/-
  The document's text of a description, from any row of strings.
-/
import Derived.Test.YtpmcdkalmdlahaaDoorRefParts
namespace Go.Proofs.YtpmcdkalmdlahaaDoor
open Go.RowKit

/-- A row of strings, below block K. -/
structure SrcO (w : World) (K : Nat) (A : Option Addr) (c : Nat) (L : List (List UInt8)) : Prop where
  le : L.length ≤ c
  nil : A = none → c = 0
  at_ : ∀ ad, A = some ad → (0 < L.length → ad.block < K) ∧ ∀ (j : Nat) (l : List UInt8), L[j]? = some l → w.cell? (ad.add j) = some (.string (baO l))
theorem SrcO.none_ (w : World) (K : Nat) : SrcO w K none 0 [] := ⟨Nat.le_refl _, fun _ => rfl, fun _ h => by cases h⟩
theorem SrcO.keep {w w' : World} {K : Nat} {A : Option Addr} {c : Nat} {L : List (List UInt8)} (h : SrcO w K A c L) (hk : ∀ p : Addr, p.block < K → w'.cell? p = w.cell? p) : SrcO w' K A c L := by
  refine ⟨h.le, h.nil, fun ad e => ⟨(h.at_ ad e).1, fun j l hj => ?_⟩⟩
  have hl : j < L.length := (List.getElem?_eq_some_iff.1 hj).1
  rw [hk _ (by rw [add_block]; exact (h.at_ ad e).1 (by omega))]
  exact (h.at_ ad e).2 j l hj
theorem SrcO.below {w w' : World} {K : Nat} {A : Option Addr} {c : Nat} {L : List (List UInt8)} (h : SrcO w K A c L) (hb : Below K w w') : SrcO w' K A c L := h.keep fun _ hp => hb.cell hp
theorem SrcO.more {w : World} {K K' : Nat} {A : Option Addr} {c : Nat} {L : List (List UInt8)} (h : SrcO w K A c L) (hb : K ≤ K') : SrcO w K' A c L :=
  ⟨h.le, h.nil, fun ad e => ⟨fun h0 => Nat.lt_of_lt_of_le ((h.at_ ad e).1 h0) hb, (h.at_ ad e).2⟩⟩
theorem OwnO.src {w : World} {base : Nat} {A : Option Addr} {c n : Nat} {L : List (List UInt8)} (h : OwnO w base (.slice A n c) L) : SrcO w w.heap.size A c L := by
  rcases h.form with ⟨e1, rfl⟩ | ⟨g, c', e1, _, e2, e3, _, e4⟩
  · injection e1 with e1 _ e3
    subst e1 e3
    exact SrcO.none_ _ _
  · injection e1 with e1 _ e5
    subst e1 e5
    refine ⟨e3, (by simp), fun ad e => ?_⟩
    injection e with e
    subst e
    refine ⟨fun _ => e2, fun j l hj => ?_⟩
    have hadd : (⟨g, 0, none⟩ : Addr).add j = ⟨g, j, none⟩ := by unfold Addr.add; split <;> simp_all
    rw [hadd]
    exact e4 j l hj
theorem wt_take (L : List (List UInt8)) : ∀ k, wt (L.take k) ≤ wt L := fun k => by
  have h := congrArg wt (List.take_append_drop k L)
  unfold wt at h ⊢
  rw [List.flatMap_append, List.length_append] at h
  omega
set_option maxRecDepth 4000 in
set_option maxHeartbeats 1600000 in
theorem refText7_any (s : ByteArray) (A : Option Addr) (cp N : Nat) (L : List (List UInt8)) (w : World) (hsrc : SrcO w w.heap.size A cp L) (hL : L.length = N) (hN : N ≤ 1000) (hs : s.size + wt L ≤ 100000) :
    Calls Tryd.prog 21 #[.string s, .slice A N cp] w fun e w' => ∃ x, e = .returned (.string x) ∧ x.data.toList = s.data.toList ++ (L.flatMap fun q => (59 : UInt8) :: q) ∧ w' = w := by
  have hget : Hid (∀ k, k < N → ∃ ad l, A = some ad ∧ L[k]? = some l ∧ w.cell? (ad.add k) = some (.string (baO l)) ∧ L.take (k + 1) = L.take k ++ [l]) := Lib.hid fun k hk => by
    have hkl : k < L.length := by omega
    have hx : L[k]? = some L[k] := List.getElem?_eq_getElem hkl
    rcases A with _ | ad
    · have := hsrc.nil rfl
      have := hsrc.le
      omega
    · exact ⟨ad, L[k], rfl, hx, (hsrc.at_ ad rfl).2 k _ hx, List.take_succ_eq_append_getElem hkl⟩
  have hend : Hid (L.take N = L) := Lib.hid (List.take_of_length_le (by omega))
  have hwt := Lib.hid (wt_take L)
  have hle := hsrc.le
  rw [hL] at hle
  replace hsrc := Lib.hid hsrc
  replace hL := Lib.hid hL
  go_enter Tryd.func21, Tryd.ntmps21
  go_wp2_with fail
  go_loop [0, 5] (fun v i => ∃ (k : Nat) (x : ByteArray), k ≤ N ∧ i = .int .i64 (k : Int) ∧ v = .string x ∧ Hid (x.data.toList = s.data.toList ++ ((L.take k).flatMap fun q => (59 : UInt8) :: q))) (fun _ i => N - (intOf i).toNat)
  case atStart => exact ⟨0, s, Nat.zero_le _, rfl, rfl, Lib.hid (by simp)⟩
  case round =>
    obtain ⟨k, x, hk, rfl, rfl, HX⟩ := hrel
    by_cases hlt : k < N
    · obtain ⟨ad, l, rfl, hl, hc, htk⟩ := hget.out k hlt
      have i0 : (0 : Int) ≤ (k : Int) := by omega
      have i1 : (k : Int) < (N : Int) := by omega
      obtain ⟨y, hy⟩ : ∃ y, x ++ { data := #[59] } = y := ⟨_, rfl⟩
      obtain ⟨z, hz⟩ : ∃ z, y ++ baO l = z := ⟨_, rfl⟩
      have hzl : z.data.toList = s.data.toList ++ ((L.take (k + 1)).flatMap fun q => (59 : UInt8) :: q) := by
        rw [← hz, ← hy, ByteArray.data_append, ByteArray.data_append, Array.toList_append, Array.toList_append, HX.out, htk, List.flatMap_append, baO_list]
        simp
      have hzs : z.size ≤ 100000 := by
        have h1 := hwt.out (k + 1)
        have h2 := congrArg List.length hzl
        rw [List.length_append] at h2
        unfold wt at h1 hs
        rw [size_listO, size_listO] at h2
        omega
      have hys : y.size + (baO l).size = z.size := by rw [← hz, ByteArray.size_append]
      have hxs : x.size + 1 = y.size := by rw [← hy, ByteArray.size_append]; rfl
      replace hzl := Lib.hid hzl
      replace hl := Lib.hid hl
      replace htk := Lib.hid htk
      have hx1 : x.size ≤ 100000 := by omega
      have hy1 : y.size ≤ 100000 := by omega
      have hb1 : (baO l).size ≤ 100000 := by omega
      clear hys hxs
      go_wp2_with fail
      go_round
      case rel => exact ⟨k + 1, z, by omega, by go_num, rfl, hzl⟩
      case measure => simp [intOf]; omega
    · have hkk : k = N := by omega
      subst hkk
      have i1 : ¬ ((k : Int) < (k : Int)) := by omega
      go_wp2_with fail
      go_ret
      exact ⟨x, rfl, by rw [HX.out, hend.out], rfl⟩
end Go.Proofs.YtpmcdkalmdlahaaDoor
