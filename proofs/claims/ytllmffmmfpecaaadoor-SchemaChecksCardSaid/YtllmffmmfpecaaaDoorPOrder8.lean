/-
  The program's inOrder: sorted, each once, in place.
-/
import Derived.Test.YtllmffmmfpecaaaDoorShelf
import Derived.Test.YtllmffmmfpecaaaDoorMC8
import Derived.Test.YtllmffmmfpecaaaDoorMB8
import Derived.Sort.OwnSorted
import Derived.Maps.AppendAt
namespace Go.Proofs.YtllmffmmfpecaaaDoor
open Go.RowKit Go.Lib

/-- A shorter beginning of an owned row. -/
theorem OwnO.short {w : World} {base : Nat} {A : Option Addr} {n c : Nat} {L : List (List UInt8)} (h : OwnO w base (.slice A n c) L) (k : Nat) (hk : k ≤ L.length) : OwnO w base (.slice A k c) (L.take k) := by
  have hl : (L.take k).length = k := by rw [List.length_take]; omega
  obtain ⟨h1, ⟨h0, h2⟩ | ⟨g, cap, cur, hv, hb, hg, hn, hm, hs, hx⟩⟩ := h
  · injection h0 with e1 e2 e3
    subst e1 e3
    have hk0 : k = 0 := by omega
    subst hk0
    exact ⟨by simp [cellsO], .inl ⟨rfl, by simp⟩⟩
  · injection hv with e1 e2 e3
    subst e1 e3
    unfold OwnO
    rw [hl]
    refine ⟨by rw [cellsO_len, hl, Nat.mul_one], .inr ⟨g, _, cur, rfl, hb, hg, by omega, hm, hs, ?_⟩⟩
    rw [Nat.mul_one] at hx ⊢
    have h3 : cellsO (L.take k) = (cellsO L).take k := by unfold cellsO; rw [List.map_take]
    rw [h3, ← hx, List.take_take, Nat.min_eq_left hk]
def InOrd (base : Nat) (v : Value) (L : List (List UInt8)) (e : Ending) (w w' : World) : Prop := ∃ (A : Option Addr) (c : Nat), e = .returned (.slice A (sortU L).length c) ∧ OwnO w' base (.slice A (sortU L).length c) (sortU L) ∧ Below base w w' ∧ w.grownBy w' v.ownBlock ∧ (Value.slice A (sortU L).length c).ownBlock = v.ownBlock
set_option maxRecDepth 8000 in
set_option maxHeartbeats 1600000 in
theorem inOrder_any (A : Option Addr) (n c base : Nat) (L : List (List UInt8)) (w : World) (hn : L.length = n) (h1000 : n ≤ 100000) (hbase : base ≤ w.heap.size) (ho : OwnO w base (.slice A n c) L) :
    Calls Tryd.prog 32 #[.slice A n c] w fun e w' => InOrd base (.slice A n c) L e w w' := by
  obtain ⟨_, ⟨h0, h5⟩ | ⟨g, cap, cur, hv, hbs, hg, k1, k2, k3, k4⟩⟩ := id ho
  · injection h0 with e1 e2 e3
    subst e1 e2 e3
    have hnil : L = [] := List.eq_nil_of_length_eq_zero hn
    subst hnil
    have CS := Lib.hid (Tryd.slices_Sort_string_none none 0 w)
    have CC := Lib.hid (Tryd.slices_Compact_string_empty none 0 w)
    replace ho := Lib.hid ho
    go_enter Tryd.func32, Tryd.ntmps32
    go_wp2_with fail
    refine CS.out.mono ?_
    rintro _ w2 ⟨rfl, h2⟩
    subst w2
    dsimp only []
    go_wp2_with fail
    refine CC.out.mono ?_
    rintro _ w2 ⟨rfl, h2⟩
    subst w2
    dsimp only []
    go_wp2_with fail
    go_ret
    have e0 : sortU ([] : List (List UInt8)) = [] := List.eq_nil_of_length_eq_zero (Nat.le_zero.1 (sortU_len []))
    exact ⟨none, 0, by rw [e0]; rfl, by rw [e0]; exact OwnO.nil _ _, Below.refl _ _, World.grownBy.refl _ _, rfl⟩
  · injection hv with e1 e2 e3
    subst e1 e3
    clear e2
    rw [Nat.mul_one] at k4
    have hgl := (Array.getElem?_eq_some_iff.1 hg).1
    have hH : Sort.Holds encStr w g 0 L.toArray := holds_of_block hg k4
    have CS := Tryd.slices_Sort_string g 0 c L w hH hgl (by omega)
    obtain ⟨S, hS⟩ : ∃ S, (L.mergeSort fun x y => decide (x ≤ y)) = S := ⟨_, rfl⟩
    rw [hS] at CS
    have hSl : S.length = L.length := by rw [← hS, List.length_mergeSort]
    rw [hn] at CS hSl
    have hsu : Lib.compact S = sortU L := by unfold sortU; rw [← hS]
    have hul := sortU_len L
    have HR : Hid (∀ q os, ∃ W, W = Sort.grow (Sort.putRow encStr (Sort.ahead w q) g 0 S.toArray) os ∧ OwnO W base (.slice (some ⟨g, 0, none⟩) n c) S ∧ Below base w W ∧ w.heap.size ≤ W.heap.size ∧ w.grownBy W (some g)) := Lib.hid fun q os => by
      have hr1 := ownsRow_sorted (n := q) (os := os) (ss := L) (ts := S) (by rw [hSl, hn]) hbs hg (by rw [hn] at k1; omega) k2 (by rw [k3])
      have hgr := grownBy_sorted (w := w) (g := g) (n := q) (os := os) S.toArray
      refine ⟨_, rfl, ?_, (Below.refl base w).grown hgr hbase (fun k hk => by injection hk with hk; omega), hgr.size, hgr⟩
      unfold OwnO
      rw [hSl, ← hn]
      exact hr1
    have CC : Hid (∀ W, OwnO W base (.slice (some ⟨g, 0, none⟩) n c) S → base ≤ W.heap.size → Calls Tryd.prog 48 #[.slice (some ⟨g, 0, none⟩) n c] W fun e w' => InOrd base (.slice (some ⟨g, 0, none⟩) n c) L e W w') := Lib.hid fun W hW hbW => by
      obtain ⟨_, ⟨h0, _⟩ | ⟨g', cap', cur', hv', hbs', hg', k1', k2', k3', k4'⟩⟩ := id hW
      · cases h0
      · injection hv' with e1 e2 e3
        injection e1 with e1
        injection e1 with e1
        subst e1 e3
        rw [Nat.mul_one, hSl] at k4'
        rw [hSl] at k1'
        have hH' : Sort.Holds encStr W g 0 S.toArray := holds_of_block hg' (by rw [hSl]; exact k4')
        have := Tryd.slices_Compact_string g 0 c S W hH' (by omega) (by omega)
        rw [hSl, hsu] at this
        refine this.mono fun e w' ⟨he, q, hw⟩ => ⟨some ⟨g, 0, none⟩, c, he, ?_, ?_, ?_, rfl⟩
        · obtain ⟨T, hT⟩ : ∃ T, sortU L ++ List.replicate (n - (sortU L).length) [] = T := ⟨_, rfl⟩
          rw [hT] at hw
          have hTl : T.length = n := by rw [← hT, List.length_append, List.length_replicate]; omega
          have hr2 := ownsRow_sorted (n := q) (os := #[]) (ss := S) (ts := T) (by rw [hTl, hSl]) hbs' hg' (by omega) k2' (by rw [k3'])
          rw [Sort.grow_empty, ← hw, hSl] at hr2
          have hO : OwnO w' base (.slice (some ⟨g, 0, none⟩) n c) T := by
            unfold OwnO
            rw [hTl]
            exact hr2
          have := hO.short (sortU L).length (by rw [hTl]; omega)
          rwa [← hT, List.take_left] at this
        · have hgr := grownBy_sorted (w := W) (g := g) (n := q) (os := #[]) (sortU L ++ List.replicate (n - (sortU L).length) []).toArray
          rw [Sort.grow_empty, ← hw] at hgr
          exact (Below.refl base W).grown hgr hbW (fun k hk => by injection hk with hk; omega)
        · have hgr := grownBy_sorted (w := W) (g := g) (n := q) (os := #[]) (sortU L ++ List.replicate (n - (sortU L).length) []).toArray
          rw [Sort.grow_empty, ← hw] at hgr
          exact hgr
    replace CS := Lib.hid CS
    replace ho := Lib.hid ho
    clear hH hg k1 k2 k3 k4
    replace hn := Lib.hid hn
    replace hS := Lib.hid hS
    replace hSl := Lib.hid hSl
    replace hsu := Lib.hid hsu
    go_enter Tryd.func32, Tryd.ntmps32
    go_wp2_with fail
    refine CS.out.mono ?_
    rintro _ w3 ⟨rfl, q, os, hw3⟩
    obtain ⟨W, hW, hO3, hB3, hz3, hg3⟩ := HR.out q os
    rw [← hW] at hw3
    subst hw3
    have CX := Lib.hid (CC.out w3 hO3 (by omega))
    replace hB3 := Lib.hid hB3
    replace hg3 := Lib.hid hg3
    clear hW hO3
    dsimp only []
    go_wp2_with fail
    refine CX.out.mono ?_
    rintro e w4 hI
    have HI := Lib.hid hI
    obtain ⟨A4, c4, rfl, hO4, hB4, hg4, ho4⟩ := hI
    replace hO4 := Lib.hid hO4
    replace hB4 := Lib.hid hB4
    replace hg4 := Lib.hid hg4
    replace ho4 := Lib.hid ho4
    dsimp only []
    go_wp2_with fail
    go_ret
    exact ⟨A4, c4, rfl, hO4.out, hB3.out.trans hB4.out, hg3.out.trans hg4.out, ho4.out⟩
end Go.Proofs.YtllmffmmfpecaaaDoor
