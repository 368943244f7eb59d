/-
  The document's put: a text into its place, once.
-/
import Derived.Test.YtllmffmmfpecaaaDoorHas8
namespace Go.Proofs.YtllmffmmfpecaaaDoor
open Go.RowKit

theorem tw_at {α : Type} {p : α → Bool} : ∀ {L : List α} {k : Nat}, (∀ j < k, ∀ x, L[j]? = some x → p x = true) → (∀ x, L[k]? = some x → p x = false) → L.takeWhile p = L.take k ∧ L.dropWhile p = L.drop k
  | [], k, _, _ => by simp
  | y :: L, 0, _, h => by
    have := h y rfl
    simp [this]
  | y :: L, k + 1, hf, h => by
    have h0 := hf 0 (by omega) y rfl
    have := tw_at (L := L) (k := k) (fun j hj x hx => hf (j + 1) (by omega) x (by simpa using hx)) (fun x hx => h x (by simpa using hx))
    simp [h0, this]
def PutSS (w : World) (l : List (List UInt8)) (e : Ending) (w' : World) : Prop := ∃ A' c', e = .returned (.slice A' l.length c') ∧ SrcO w' w'.heap.size A' c' l ∧ Below w.heap.size w w'
set_option maxRecDepth 8000 in
set_option maxHeartbeats 4000000 in
theorem refPut8_any (x : List UInt8) (A : Option Addr) (cp N : Nat) (L : List (List UInt8)) (w : World) (hN : N ≤ 1000) (hL : L.length = N) (hsrc : SrcO w w.heap.size A cp L) :
    Calls Tryd.prog 36 #[.slice A N cp, .string (baO x)] w fun e w' => ∃ A' c', e = .returned (.slice A' (putS L x).length c') ∧ SrcO w' w'.heap.size A' c' (putS L x) ∧ Below w.heap.size w w' := by
  have hget : Hid (∀ k, k < N → ∃ ad l, A = some ad ∧ L[k]? = some l ∧ w.cell? (ad.add k) = some (.string (baO l))) := Lib.hid fun k hk => by
    have hlt : k < L.length := by omega
    rcases A with _ | a
    · have e1 := hsrc.le
      have e2 := hsrc.nil rfl
      omega
    · exact ⟨a, _, rfl, List.getElem?_eq_getElem hlt, (hsrc.at_ a rfl).2 k _ (List.getElem?_eq_getElem hlt)⟩
  have hcc : N ≤ cp := by rw [← hL]; exact hsrc.le
  have CH := Lib.hid (refHas_any (baO x) A cp N w.heap.size L w (by omega) hL hsrc)
  replace hL := Lib.hid hL
  have HS := Lib.hid hsrc
  clear hsrc
  go_enter Tryd.func36, Tryd.ntmps36
  go_wp2_with fail
  refine CH.out.mono ?_
  rintro _ w1 ⟨rfl, hw1⟩
  subst w1
  rw [baO_list]
  by_cases hin : x ∈ L
  · rw [decide_eq_true hin]
    have hp : putS L x = L := by unfold putS; rw [if_pos hin]
    replace hp := Lib.hid hp
    go_wp2_with fail
    go_ret
    exact ⟨A, cp, by rw [hp.out, hL.out]; rfl, by rw [hp.out]; exact HS.out, Below.refl _ _⟩
  · rw [decide_eq_false hin]
    have hni := Lib.hid hin
    clear hin
    go_wp2_with fail
    go_loop [5] (fun i => ∃ k : Nat, k ≤ N ∧ i = .int .i64 (k : Int) ∧ Hid (∀ j < k, ∀ y, L[j]? = some y → Op.bytesLess y x = true)) (fun i => N - (intOf i).toNat)
    case atStart => exact ⟨0, Nat.zero_le _, rfl, Lib.hid (fun j hj => absurd hj (Nat.not_lt_zero _))⟩
    case round =>
      obtain ⟨k, hk, rfl, HF⟩ := hrel
      by_cases hlt : k < N
      · obtain ⟨ad, l, hA, hl, hc⟩ := hget.out k hlt
        have i0 : (0 : Int) ≤ (k : Int) := by omega
        have i1 : (k : Int) < (N : Int) := by omega
        by_cases hb : Op.bytesLess l x = true
        · have hb' : Op.bytesLess (baO l).toList (baO x).toList = true := by rw [baO_toList, baO_toList]; exact hb
          subst hA
          replace hl := Lib.hid hl
          replace hb := Lib.hid hb
          go_wp2_with fail
          go_round
          case rel =>
            refine ⟨k + 1, by omega, by go_num, Lib.hid (fun j hj m hm => ?_)⟩
            by_cases hjk : j < k
            · exact HF.out j hjk m hm
            · obtain rfl : j = k := by omega
              rw [hl.out] at hm
              injection hm with hm
              rw [← hm]
              exact hb.out
          case measure => simp [intOf]; omega
        · have hb' : Op.bytesLess (baO l).toList (baO x).toList = false := by rw [baO_toList, baO_toList]; simpa using hb
          have hstop := Lib.hid (show ∀ y, L[k]? = some y → Op.bytesLess y x = false from fun y hy => by
            rw [hl] at hy
            injection hy with hy
            rw [← hy]
            simpa using hb)
          subst hA
          clear hl hb
          go_wp2_with fail
          have hput := Lib.hid (show putS L x = L.take k ++ [x] ++ L.drop k from by
            have h := tw_at (p := fun y => Op.bytesLess y x) HF.out hstop.out
            unfold putS
            rw [if_neg hni.out, h.1, h.2, List.append_assoc]
            rfl)
          clear hstop
          have hk' : k ≤ N := hk
          obtain ⟨dk, hdk⟩ : ∃ dk, dk = N - k := ⟨_, rfl⟩
          have hdk1 : dk + k ≤ N := by omega
          have hdk2 : N ≤ dk + k := by omega
          obtain ⟨c2, hc2⟩ : ∃ c2, c2 = cp - k := ⟨_, rfl⟩
          obtain ⟨A2, hA2⟩ : ∃ A2, A2 = (if cp = k then (some ad : Option Addr) else (some ad : Option Addr).map (·.add k)) := ⟨_, rfl⟩
          have hct := fun W => cut_to (some ad) N cp k hk hcc W
          have hcf := fun W => cut_from (some ad) N cp k hk hcc W
          rw [← hA2, ← hc2, ← hdk] at hcf
          have hsT : Hid (∀ W, Below w.heap.size w W → SrcO W w.heap.size (some ad) cp (L.take k)) := Lib.hid fun W hW => (HS.out.below hW).take k
          have hsD : Hid (∀ W, Below w.heap.size w W → SrcO W w.heap.size A2 c2 (L.drop k)) := Lib.hid fun W hW => by
            rw [hA2, hc2]
            exact (HS.out.below hW).drop k
          have hTl : Hid ((L.take k).length = k) := Lib.hid (by rw [List.length_take, hL.out]; omega)
          have hTl1 : Hid ((L.take k ++ [x]).length = k + 1) := Lib.hid (by rw [List.length_append, hTl.out]; rfl)
          have hDl : Hid ((L.drop k).length = dk) := Lib.hid (by rw [List.length_drop, hL.out]; omega)
          have hlenN : Hid ((L.take k ++ [x] ++ L.drop k).length = N + 1) := Lib.hid (by rw [List.length_append, hTl1.out, hDl.out]; omega)
          replace hdk := Lib.hid hdk
          replace hc2 := Lib.hid hc2
          replace hA2 := Lib.hid hA2
          refine wp_region_held_drew (S := fun _ => True) (by kernel_rfl) trivial ?_
          intro hHeld
          refine takeL8 1 25 (v := ?_) rfl rfl (by kernel_rfl) (by kernel_rfl) (by kernel_rfl) (fun _ _ _ h => h) (Or.inl ⟨by rfl, ?hya1⟩) hHeld ?resta1
          case hya1 =>
            intro W hS
            (try dsimp only at hS)
            go_simp
            try (with_reducible rfl)
          dsimp only [List.set]
          refine takeL8 2 26 (v := ?_) rfl rfl (by kernel_rfl) (by kernel_rfl) (by kernel_rfl) (fun _ _ _ h => h) (Or.inl ⟨by rfl, ?hya2⟩) hHeld ?resta2
          case hya2 =>
            intro W hS
            (try dsimp only at hS)
            go_simp
            try (with_reducible rfl)
          dsimp only [List.set]
          refine takeL8 3 27 (v := ?_) rfl rfl (by kernel_rfl) (by kernel_rfl) (by kernel_rfl) (fun _ _ _ h => h) (Or.inl ⟨by rfl, ?hya3⟩) hHeld ?resta3
          case hya3 =>
            intro W hS
            (try dsimp only at hS)
            go_simp
            try (with_reducible rfl)
          dsimp only [List.set]
          refine takeL8 5 29 (v := ?_) rfl rfl (by kernel_rfl) (by kernel_rfl) (by kernel_rfl) (fun _ _ _ h => h) (Or.inl ⟨by rfl, ?hya5⟩) hHeld ?resta5
          case hya5 =>
            intro W hS
            (try dsimp only at hS)
            go_simp
            try (with_reducible rfl)
          dsimp only [List.set]
          refine takeL8 8 32 (v := ?_) rfl rfl (by kernel_rfl) (by kernel_rfl) (by kernel_rfl) (fun _ _ _ h => h) (Or.inl ⟨by rfl, ?hya8⟩) hHeld ?resta8
          case hya8 =>
            intro W hS
            (try dsimp only at hS)
            go_simp
            try (with_reducible rfl)
          dsimp only [List.set]
          refine takeL8 9 33 (v := ?_) rfl rfl (by kernel_rfl) (by kernel_rfl) (by kernel_rfl) (fun _ _ _ h => h) (Or.inl ⟨by rfl, ?hya9⟩) hHeld ?resta9
          case hya9 =>
            intro W hS
            (try dsimp only at hS)
            go_simp
            try (with_reducible rfl)
          dsimp only [List.set]
          refine takeL8 10 34 (v := ?_) rfl rfl (by kernel_rfl) (by kernel_rfl) (by kernel_rfl) (fun _ _ _ h => h) (Or.inl ⟨by rfl, ?hya10⟩) hHeld ?resta10
          case hya10 =>
            intro W hS
            (try dsimp only at hS)
            go_simp
            try (with_reducible rfl)
          dsimp only [List.set]
          have hW0 : Below w.heap.size w w.drew := (Below.refl _ _).drew
          have hW0z : w.drew.heap.size = w.heap.size := rfl
          refine wpAnyH_ready (rs := [0, 6]) (by kernel_rfl) (by simp) ?_
          refine AllReadyH.cons rfl (fun K hK => ?_) (AllReadyH.cons rfl (fun K hK => ?_) AllReadyH.nil)
          · go_simp
            refine hK.out _ _ trivial (fun hHeld => ?_)
            clear hK K
            refine wpAnyH_ready (rs := [4, 6]) (by kernel_rfl) (by simp) ?_
            refine AllReadyH.cons rfl (fun K hK => ?_) (AllReadyH.cons rfl (fun K hK => ?_) AllReadyH.nil)
            · refine step_strs rfl (.tmp 24) (.tmp 27) rfl w.heap.size _ [] 0 rfl rfl (OwnO.lit w.drew w.heap.size hW0.size) _ (some ad) k cp (L.take k) hTl.out rfl (hsT.out _ (hW0.alloc hW0.size (.cells #[] 9))) k (by omega) (by omega) ((hW0.alloc hW0.size (.cells #[] 9))).size ?_
              intro Ap cp Wp hop hbp hfp
              have HOp := Lib.hid hop
              have HBBp := Lib.hid (((hW0.alloc hW0.size (.cells #[] 9))).trans hbp)
              have HFp := Lib.hid hfp
              clear hop hbp hfp
              refine hK.out _ _ trivial (fun hHeld => ?_)
              clear hK K
              refine wpAnyH_ready (rs := [6]) (by kernel_rfl) (by simp) ?_
              refine AllReadyH.cons rfl (fun K hK => ?_) AllReadyH.nil
              go_simp
              refine hK.out _ _ trivial (fun hHeld => ?_)
              clear hK K
              refine wpAnyH_ready (rs := [7]) (by kernel_rfl) (by simp) ?_
              refine AllReadyH.cons rfl (fun K hK => ?_) AllReadyH.nil
              refine step_strs rfl (.tmp 28) (.tmp 30) rfl w.heap.size _ (L.take k) k hTl.out rfl (HOp.out.alloc _) _ _ 1 1 [x] rfl rfl (SrcO.one Wp x) (k + 1) (by omega) (by omega) (HBBp.out.alloc HBBp.out.size (.cells #[.string (baO x)] 9)).size ?_
              intro Aq cq Wq hoq hbq hfq
              have HOq := Lib.hid hoq
              have HBBq := Lib.hid ((HBBp.out.alloc HBBp.out.size (.cells #[.string (baO x)] 9)).trans hbq)
              have HFq := Lib.hid hfq
              clear hoq hbq hfq
              refine hK.out _ _ trivial (fun hHeld => ?_)
              clear hK K
              refine wpAnyH_ready (rs := [11]) (by kernel_rfl) (by simp) ?_
              refine AllReadyH.cons rfl (fun K hK => ?_) AllReadyH.nil
              refine step_strs rfl (.tmp 31) (.tmp 34) rfl w.heap.size _ (L.take k ++ [x]) (k + 1) hTl1.out rfl HOq.out _ A2 dk c2 (L.drop k) hDl.out rfl (hsD.out _ HBBq.out) (N + 1) (by omega) (by omega) (HBBq.out).size ?_
              intro Ar cr Wr hor hbr hfr
              have HOr := Lib.hid hor
              have HBBr := Lib.hid ((HBBq.out).trans hbr)
              have HFr := Lib.hid hfr
              clear hor hbr hfr
              refine hK.out _ _ trivial (fun hHeld => ?_)
              clear hK K
              refine wpAnyH_ready (rs := [12]) (by kernel_rfl) (by simp) ?_
              refine AllReadyH.cons rfl (fun K hK => ?_) AllReadyH.nil
              go_simp
              refine hK.out _ _ trivial (fun hHeld => ?_)
              clear hK K
              refine wpAnyH_done (by kernel_rfl) ?_ _
              go_wp2_with fail
              go_ret
              exact ⟨Ar, cr, by rw [hput.out, hlenN.out]; rfl, by rw [hput.out]; first | exact HOr.out.src | exact OwnO.src (World.ownsRow.drew HOr.out), by first | exact HBBr.out | exact HBBr.out.drew⟩
            · go_simp
              refine hK.out _ _ trivial (fun hHeld => ?_)
              clear hK K
              refine wpAnyH_ready (rs := [4]) (by kernel_rfl) (by simp) ?_
              refine AllReadyH.cons rfl (fun K hK => ?_) AllReadyH.nil
              refine step_strs rfl (.tmp 24) (.tmp 27) rfl w.heap.size _ [] 0 rfl rfl ((OwnO.lit w.drew w.heap.size hW0.size).alloc _) _ (some ad) k cp (L.take k) hTl.out rfl (hsT.out _ ((hW0.alloc hW0.size (.cells #[] 9)).alloc (hW0.alloc hW0.size (.cells #[] 9)).size (.cells #[.string (baO x)] 9))) k (by omega) (by omega) (((hW0.alloc hW0.size (.cells #[] 9)).alloc (hW0.alloc hW0.size (.cells #[] 9)).size (.cells #[.string (baO x)] 9))).size ?_
              intro Ap cp Wp hop hbp hfp
              have HOp := Lib.hid hop
              have HBBp := Lib.hid ((((hW0.alloc hW0.size (.cells #[] 9)).alloc (hW0.alloc hW0.size (.cells #[] 9)).size (.cells #[.string (baO x)] 9))).trans hbp)
              have HFp := Lib.hid hfp
              clear hop hbp hfp
              refine hK.out _ _ trivial (fun hHeld => ?_)
              clear hK K
              have hxc : Wp.cell? ⟨w.heap.size + 1, 0, none⟩ = some (.string (baO x)) := (HFp.out ⟨w.heap.size + 1, 0, none⟩ (by simp) (show some (w.heap.size + 1) ≠ some w.heap.size by simp)).trans (by simp)
              refine wpAnyH_ready (rs := [7]) (by kernel_rfl) (by simp) ?_
              refine AllReadyH.cons rfl (fun K hK => ?_) AllReadyH.nil
              refine step_strs rfl (.tmp 28) (.tmp 30) rfl w.heap.size _ (L.take k) k hTl.out rfl HOp.out _ _ 1 1 [x] rfl rfl (SrcO.one_at hxc) (k + 1) (by omega) (by omega) (HBBp.out).size ?_
              intro Aq cq Wq hoq hbq hfq
              have HOq := Lib.hid hoq
              have HBBq := Lib.hid ((HBBp.out).trans hbq)
              have HFq := Lib.hid hfq
              clear hoq hbq hfq
              refine hK.out _ _ trivial (fun hHeld => ?_)
              clear hK K
              refine wpAnyH_ready (rs := [11]) (by kernel_rfl) (by simp) ?_
              refine AllReadyH.cons rfl (fun K hK => ?_) AllReadyH.nil
              refine step_strs rfl (.tmp 31) (.tmp 34) rfl w.heap.size _ (L.take k ++ [x]) (k + 1) hTl1.out rfl HOq.out _ A2 dk c2 (L.drop k) hDl.out rfl (hsD.out _ HBBq.out) (N + 1) (by omega) (by omega) (HBBq.out).size ?_
              intro Ar cr Wr hor hbr hfr
              have HOr := Lib.hid hor
              have HBBr := Lib.hid ((HBBq.out).trans hbr)
              have HFr := Lib.hid hfr
              clear hor hbr hfr
              refine hK.out _ _ trivial (fun hHeld => ?_)
              clear hK K
              refine wpAnyH_ready (rs := [12]) (by kernel_rfl) (by simp) ?_
              refine AllReadyH.cons rfl (fun K hK => ?_) AllReadyH.nil
              go_simp
              refine hK.out _ _ trivial (fun hHeld => ?_)
              clear hK K
              refine wpAnyH_done (by kernel_rfl) ?_ _
              go_wp2_with fail
              go_ret
              exact ⟨Ar, cr, by rw [hput.out, hlenN.out]; rfl, by rw [hput.out]; first | exact HOr.out.src | exact OwnO.src (World.ownsRow.drew HOr.out), by first | exact HBBr.out | exact HBBr.out.drew⟩
          · go_simp
            refine hK.out _ _ trivial (fun hHeld => ?_)
            clear hK K
            refine wpAnyH_ready (rs := [0]) (by kernel_rfl) (by simp) ?_
            refine AllReadyH.cons rfl (fun K hK => ?_) AllReadyH.nil
            go_simp
            refine hK.out _ _ trivial (fun hHeld => ?_)
            clear hK K
            refine wpAnyH_ready (rs := [4]) (by kernel_rfl) (by simp) ?_
            refine AllReadyH.cons rfl (fun K hK => ?_) AllReadyH.nil
            refine step_strs rfl (.tmp 24) (.tmp 27) rfl w.heap.size _ [] 0 rfl rfl (OwnO.lit2 w.drew (.cells #[.string (baO x)] 9) w.heap.size hW0.size) _ (some ad) k cp (L.take k) hTl.out rfl (hsT.out _ ((hW0.alloc hW0.size (.cells #[.string (baO x)] 9)).alloc (hW0.alloc hW0.size (.cells #[.string (baO x)] 9)).size (.cells #[] 9))) k (by omega) (by omega) (((hW0.alloc hW0.size (.cells #[.string (baO x)] 9)).alloc (hW0.alloc hW0.size (.cells #[.string (baO x)] 9)).size (.cells #[] 9))).size ?_
            intro Ap cp Wp hop hbp hfp
            have HOp := Lib.hid hop
            have HBBp := Lib.hid ((((hW0.alloc hW0.size (.cells #[.string (baO x)] 9)).alloc (hW0.alloc hW0.size (.cells #[.string (baO x)] 9)).size (.cells #[] 9))).trans hbp)
            have HFp := Lib.hid hfp
            clear hop hbp hfp
            refine hK.out _ _ trivial (fun hHeld => ?_)
            clear hK K
            have hxc : Wp.cell? ⟨w.heap.size, 0, none⟩ = some (.string (baO x)) := (HFp.out ⟨w.heap.size, 0, none⟩ (by simp; omega) (show some w.heap.size ≠ some (w.heap.size + 1) by simp)).trans ((World.cell?_alloc_lt _ _ _ (by simp)).trans (by simp))
            refine wpAnyH_ready (rs := [7]) (by kernel_rfl) (by simp) ?_
            refine AllReadyH.cons rfl (fun K hK => ?_) AllReadyH.nil
            refine step_strs rfl (.tmp 28) (.tmp 30) rfl w.heap.size _ (L.take k) k hTl.out rfl HOp.out _ _ 1 1 [x] rfl rfl (SrcO.one_at hxc) (k + 1) (by omega) (by omega) (HBBp.out).size ?_
            intro Aq cq Wq hoq hbq hfq
            have HOq := Lib.hid hoq
            have HBBq := Lib.hid ((HBBp.out).trans hbq)
            have HFq := Lib.hid hfq
            clear hoq hbq hfq
            refine hK.out _ _ trivial (fun hHeld => ?_)
            clear hK K
            refine wpAnyH_ready (rs := [11]) (by kernel_rfl) (by simp) ?_
            refine AllReadyH.cons rfl (fun K hK => ?_) AllReadyH.nil
            refine step_strs rfl (.tmp 31) (.tmp 34) rfl w.heap.size _ (L.take k ++ [x]) (k + 1) hTl1.out rfl HOq.out _ A2 dk c2 (L.drop k) hDl.out rfl (hsD.out _ HBBq.out) (N + 1) (by omega) (by omega) (HBBq.out).size ?_
            intro Ar cr Wr hor hbr hfr
            have HOr := Lib.hid hor
            have HBBr := Lib.hid ((HBBq.out).trans hbr)
            have HFr := Lib.hid hfr
            clear hor hbr hfr
            refine hK.out _ _ trivial (fun hHeld => ?_)
            clear hK K
            refine wpAnyH_ready (rs := [12]) (by kernel_rfl) (by simp) ?_
            refine AllReadyH.cons rfl (fun K hK => ?_) AllReadyH.nil
            go_simp
            refine hK.out _ _ trivial (fun hHeld => ?_)
            clear hK K
            refine wpAnyH_done (by kernel_rfl) ?_ _
            go_wp2_with fail
            go_ret
            exact ⟨Ar, cr, by rw [hput.out, hlenN.out]; rfl, by rw [hput.out]; first | exact HOr.out.src | exact OwnO.src (World.ownsRow.drew HOr.out), by first | exact HBBr.out | exact HBBr.out.drew⟩
      · obtain rfl : k = N := by omega
        have hstop := Lib.hid (show ∀ y, L[k]? = some y → Op.bytesLess y x = false from fun y hy => by
          rw [List.getElem?_eq_none (by rw [hL.out]; exact Nat.le_refl _)] at hy
          cases hy)
        have i1 : ¬ ((k : Int) < (k : Int)) := by omega
        go_wp2_with fail
        have hput := Lib.hid (show putS L x = L.take k ++ [x] ++ L.drop k from by
          have h := tw_at (p := fun y => Op.bytesLess y x) HF.out hstop.out
          unfold putS
          rw [if_neg hni.out, h.1, h.2, List.append_assoc]
          rfl)
        clear hstop
        have hk' : k ≤ k := hk
        obtain ⟨dk, hdk⟩ : ∃ dk, dk = k - k := ⟨_, rfl⟩
        have hdk1 : dk + k ≤ k := by omega
        have hdk2 : k ≤ dk + k := by omega
        obtain ⟨c2, hc2⟩ : ∃ c2, c2 = cp - k := ⟨_, rfl⟩
        obtain ⟨A2, hA2⟩ : ∃ A2, A2 = (if cp = k then A else A.map (·.add k)) := ⟨_, rfl⟩
        have hct := fun W => cut_to A k cp k hk hcc W
        have hcf := fun W => cut_from A k cp k hk hcc W
        rw [← hA2, ← hc2, ← hdk] at hcf
        have hsT : Hid (∀ W, Below w.heap.size w W → SrcO W w.heap.size A cp (L.take k)) := Lib.hid fun W hW => (HS.out.below hW).take k
        have hsD : Hid (∀ W, Below w.heap.size w W → SrcO W w.heap.size A2 c2 (L.drop k)) := Lib.hid fun W hW => by
          rw [hA2, hc2]
          exact (HS.out.below hW).drop k
        have hTl : Hid ((L.take k).length = k) := Lib.hid (by rw [List.length_take, hL.out]; omega)
        have hTl1 : Hid ((L.take k ++ [x]).length = k + 1) := Lib.hid (by rw [List.length_append, hTl.out]; rfl)
        have hDl : Hid ((L.drop k).length = dk) := Lib.hid (by rw [List.length_drop, hL.out]; omega)
        have hlenN : Hid ((L.take k ++ [x] ++ L.drop k).length = k + 1) := Lib.hid (by rw [List.length_append, hTl1.out, hDl.out]; omega)
        replace hdk := Lib.hid hdk
        replace hc2 := Lib.hid hc2
        replace hA2 := Lib.hid hA2
        refine wp_region_held_drew (S := fun _ => True) (by kernel_rfl) trivial ?_
        intro hHeld
        refine takeL8 1 25 (v := ?_) rfl rfl (by kernel_rfl) (by kernel_rfl) (by kernel_rfl) (fun _ _ _ h => h) (Or.inl ⟨by rfl, ?hyb1⟩) hHeld ?restb1
        case hyb1 =>
          intro W hS
          (try dsimp only at hS)
          go_simp
          try (with_reducible rfl)
        dsimp only [List.set]
        refine takeL8 2 26 (v := ?_) rfl rfl (by kernel_rfl) (by kernel_rfl) (by kernel_rfl) (fun _ _ _ h => h) (Or.inl ⟨by rfl, ?hyb2⟩) hHeld ?restb2
        case hyb2 =>
          intro W hS
          (try dsimp only at hS)
          go_simp
          try (with_reducible rfl)
        dsimp only [List.set]
        refine takeL8 3 27 (v := ?_) rfl rfl (by kernel_rfl) (by kernel_rfl) (by kernel_rfl) (fun _ _ _ h => h) (Or.inl ⟨by rfl, ?hyb3⟩) hHeld ?restb3
        case hyb3 =>
          intro W hS
          (try dsimp only at hS)
          go_simp
          try (with_reducible rfl)
        dsimp only [List.set]
        refine takeL8 5 29 (v := ?_) rfl rfl (by kernel_rfl) (by kernel_rfl) (by kernel_rfl) (fun _ _ _ h => h) (Or.inl ⟨by rfl, ?hyb5⟩) hHeld ?restb5
        case hyb5 =>
          intro W hS
          (try dsimp only at hS)
          go_simp
          try (with_reducible rfl)
        dsimp only [List.set]
        refine takeL8 8 32 (v := ?_) rfl rfl (by kernel_rfl) (by kernel_rfl) (by kernel_rfl) (fun _ _ _ h => h) (Or.inl ⟨by rfl, ?hyb8⟩) hHeld ?restb8
        case hyb8 =>
          intro W hS
          (try dsimp only at hS)
          go_simp
          try (with_reducible rfl)
        dsimp only [List.set]
        refine takeL8 9 33 (v := ?_) rfl rfl (by kernel_rfl) (by kernel_rfl) (by kernel_rfl) (fun _ _ _ h => h) (Or.inl ⟨by rfl, ?hyb9⟩) hHeld ?restb9
        case hyb9 =>
          intro W hS
          (try dsimp only at hS)
          go_simp
          try (with_reducible rfl)
        dsimp only [List.set]
        refine takeL8 10 34 (v := ?_) rfl rfl (by kernel_rfl) (by kernel_rfl) (by kernel_rfl) (fun _ _ _ h => h) (Or.inl ⟨by rfl, ?hyb10⟩) hHeld ?restb10
        case hyb10 =>
          intro W hS
          (try dsimp only at hS)
          go_simp
          try (with_reducible rfl)
        dsimp only [List.set]
        have hW0 : Below w.heap.size w w.drew := (Below.refl _ _).drew
        have hW0z : w.drew.heap.size = w.heap.size := rfl
        refine wpAnyH_ready (rs := [0, 6]) (by kernel_rfl) (by simp) ?_
        refine AllReadyH.cons rfl (fun K hK => ?_) (AllReadyH.cons rfl (fun K hK => ?_) AllReadyH.nil)
        · go_simp
          refine hK.out _ _ trivial (fun hHeld => ?_)
          clear hK K
          refine wpAnyH_ready (rs := [4, 6]) (by kernel_rfl) (by simp) ?_
          refine AllReadyH.cons rfl (fun K hK => ?_) (AllReadyH.cons rfl (fun K hK => ?_) AllReadyH.nil)
          · refine step_strs rfl (.tmp 24) (.tmp 27) rfl w.heap.size _ [] 0 rfl rfl (OwnO.lit w.drew w.heap.size hW0.size) _ A k cp (L.take k) hTl.out rfl (hsT.out _ (hW0.alloc hW0.size (.cells #[] 9))) k (by omega) (by omega) ((hW0.alloc hW0.size (.cells #[] 9))).size ?_
            intro Ap cp Wp hop hbp hfp
            have HOp := Lib.hid hop
            have HBBp := Lib.hid (((hW0.alloc hW0.size (.cells #[] 9))).trans hbp)
            have HFp := Lib.hid hfp
            clear hop hbp hfp
            refine hK.out _ _ trivial (fun hHeld => ?_)
            clear hK K
            refine wpAnyH_ready (rs := [6]) (by kernel_rfl) (by simp) ?_
            refine AllReadyH.cons rfl (fun K hK => ?_) AllReadyH.nil
            go_simp
            refine hK.out _ _ trivial (fun hHeld => ?_)
            clear hK K
            refine wpAnyH_ready (rs := [7]) (by kernel_rfl) (by simp) ?_
            refine AllReadyH.cons rfl (fun K hK => ?_) AllReadyH.nil
            refine step_strs rfl (.tmp 28) (.tmp 30) rfl w.heap.size _ (L.take k) k hTl.out rfl (HOp.out.alloc _) _ _ 1 1 [x] rfl rfl (SrcO.one Wp x) (k + 1) (by omega) (by omega) (HBBp.out.alloc HBBp.out.size (.cells #[.string (baO x)] 9)).size ?_
            intro Aq cq Wq hoq hbq hfq
            have HOq := Lib.hid hoq
            have HBBq := Lib.hid ((HBBp.out.alloc HBBp.out.size (.cells #[.string (baO x)] 9)).trans hbq)
            have HFq := Lib.hid hfq
            clear hoq hbq hfq
            refine hK.out _ _ trivial (fun hHeld => ?_)
            clear hK K
            refine wpAnyH_ready (rs := [11]) (by kernel_rfl) (by simp) ?_
            refine AllReadyH.cons rfl (fun K hK => ?_) AllReadyH.nil
            refine step_strs rfl (.tmp 31) (.tmp 34) rfl w.heap.size _ (L.take k ++ [x]) (k + 1) hTl1.out rfl HOq.out _ A2 dk c2 (L.drop k) hDl.out rfl (hsD.out _ HBBq.out) (k + 1) (by omega) (by omega) (HBBq.out).size ?_
            intro Ar cr Wr hor hbr hfr
            have HOr := Lib.hid hor
            have HBBr := Lib.hid ((HBBq.out).trans hbr)
            have HFr := Lib.hid hfr
            clear hor hbr hfr
            refine hK.out _ _ trivial (fun hHeld => ?_)
            clear hK K
            refine wpAnyH_ready (rs := [12]) (by kernel_rfl) (by simp) ?_
            refine AllReadyH.cons rfl (fun K hK => ?_) AllReadyH.nil
            go_simp
            refine hK.out _ _ trivial (fun hHeld => ?_)
            clear hK K
            refine wpAnyH_done (by kernel_rfl) ?_ _
            go_wp2_with fail
            go_ret
            exact ⟨Ar, cr, by rw [hput.out, hlenN.out]; rfl, by rw [hput.out]; first | exact HOr.out.src | exact OwnO.src (World.ownsRow.drew HOr.out), by first | exact HBBr.out | exact HBBr.out.drew⟩
          · go_simp
            refine hK.out _ _ trivial (fun hHeld => ?_)
            clear hK K
            refine wpAnyH_ready (rs := [4]) (by kernel_rfl) (by simp) ?_
            refine AllReadyH.cons rfl (fun K hK => ?_) AllReadyH.nil
            refine step_strs rfl (.tmp 24) (.tmp 27) rfl w.heap.size _ [] 0 rfl rfl ((OwnO.lit w.drew w.heap.size hW0.size).alloc _) _ A k cp (L.take k) hTl.out rfl (hsT.out _ ((hW0.alloc hW0.size (.cells #[] 9)).alloc (hW0.alloc hW0.size (.cells #[] 9)).size (.cells #[.string (baO x)] 9))) k (by omega) (by omega) (((hW0.alloc hW0.size (.cells #[] 9)).alloc (hW0.alloc hW0.size (.cells #[] 9)).size (.cells #[.string (baO x)] 9))).size ?_
            intro Ap cp Wp hop hbp hfp
            have HOp := Lib.hid hop
            have HBBp := Lib.hid ((((hW0.alloc hW0.size (.cells #[] 9)).alloc (hW0.alloc hW0.size (.cells #[] 9)).size (.cells #[.string (baO x)] 9))).trans hbp)
            have HFp := Lib.hid hfp
            clear hop hbp hfp
            refine hK.out _ _ trivial (fun hHeld => ?_)
            clear hK K
            have hxc : Wp.cell? ⟨w.heap.size + 1, 0, none⟩ = some (.string (baO x)) := (HFp.out ⟨w.heap.size + 1, 0, none⟩ (by simp) (show some (w.heap.size + 1) ≠ some w.heap.size by simp)).trans (by simp)
            refine wpAnyH_ready (rs := [7]) (by kernel_rfl) (by simp) ?_
            refine AllReadyH.cons rfl (fun K hK => ?_) AllReadyH.nil
            refine step_strs rfl (.tmp 28) (.tmp 30) rfl w.heap.size _ (L.take k) k hTl.out rfl HOp.out _ _ 1 1 [x] rfl rfl (SrcO.one_at hxc) (k + 1) (by omega) (by omega) (HBBp.out).size ?_
            intro Aq cq Wq hoq hbq hfq
            have HOq := Lib.hid hoq
            have HBBq := Lib.hid ((HBBp.out).trans hbq)
            have HFq := Lib.hid hfq
            clear hoq hbq hfq
            refine hK.out _ _ trivial (fun hHeld => ?_)
            clear hK K
            refine wpAnyH_ready (rs := [11]) (by kernel_rfl) (by simp) ?_
            refine AllReadyH.cons rfl (fun K hK => ?_) AllReadyH.nil
            refine step_strs rfl (.tmp 31) (.tmp 34) rfl w.heap.size _ (L.take k ++ [x]) (k + 1) hTl1.out rfl HOq.out _ A2 dk c2 (L.drop k) hDl.out rfl (hsD.out _ HBBq.out) (k + 1) (by omega) (by omega) (HBBq.out).size ?_
            intro Ar cr Wr hor hbr hfr
            have HOr := Lib.hid hor
            have HBBr := Lib.hid ((HBBq.out).trans hbr)
            have HFr := Lib.hid hfr
            clear hor hbr hfr
            refine hK.out _ _ trivial (fun hHeld => ?_)
            clear hK K
            refine wpAnyH_ready (rs := [12]) (by kernel_rfl) (by simp) ?_
            refine AllReadyH.cons rfl (fun K hK => ?_) AllReadyH.nil
            go_simp
            refine hK.out _ _ trivial (fun hHeld => ?_)
            clear hK K
            refine wpAnyH_done (by kernel_rfl) ?_ _
            go_wp2_with fail
            go_ret
            exact ⟨Ar, cr, by rw [hput.out, hlenN.out]; rfl, by rw [hput.out]; first | exact HOr.out.src | exact OwnO.src (World.ownsRow.drew HOr.out), by first | exact HBBr.out | exact HBBr.out.drew⟩
        · go_simp
          refine hK.out _ _ trivial (fun hHeld => ?_)
          clear hK K
          refine wpAnyH_ready (rs := [0]) (by kernel_rfl) (by simp) ?_
          refine AllReadyH.cons rfl (fun K hK => ?_) AllReadyH.nil
          go_simp
          refine hK.out _ _ trivial (fun hHeld => ?_)
          clear hK K
          refine wpAnyH_ready (rs := [4]) (by kernel_rfl) (by simp) ?_
          refine AllReadyH.cons rfl (fun K hK => ?_) AllReadyH.nil
          refine step_strs rfl (.tmp 24) (.tmp 27) rfl w.heap.size _ [] 0 rfl rfl (OwnO.lit2 w.drew (.cells #[.string (baO x)] 9) w.heap.size hW0.size) _ A k cp (L.take k) hTl.out rfl (hsT.out _ ((hW0.alloc hW0.size (.cells #[.string (baO x)] 9)).alloc (hW0.alloc hW0.size (.cells #[.string (baO x)] 9)).size (.cells #[] 9))) k (by omega) (by omega) (((hW0.alloc hW0.size (.cells #[.string (baO x)] 9)).alloc (hW0.alloc hW0.size (.cells #[.string (baO x)] 9)).size (.cells #[] 9))).size ?_
          intro Ap cp Wp hop hbp hfp
          have HOp := Lib.hid hop
          have HBBp := Lib.hid ((((hW0.alloc hW0.size (.cells #[.string (baO x)] 9)).alloc (hW0.alloc hW0.size (.cells #[.string (baO x)] 9)).size (.cells #[] 9))).trans hbp)
          have HFp := Lib.hid hfp
          clear hop hbp hfp
          refine hK.out _ _ trivial (fun hHeld => ?_)
          clear hK K
          have hxc : Wp.cell? ⟨w.heap.size, 0, none⟩ = some (.string (baO x)) := (HFp.out ⟨w.heap.size, 0, none⟩ (by simp; omega) (show some w.heap.size ≠ some (w.heap.size + 1) by simp)).trans ((World.cell?_alloc_lt _ _ _ (by simp)).trans (by simp))
          refine wpAnyH_ready (rs := [7]) (by kernel_rfl) (by simp) ?_
          refine AllReadyH.cons rfl (fun K hK => ?_) AllReadyH.nil
          refine step_strs rfl (.tmp 28) (.tmp 30) rfl w.heap.size _ (L.take k) k hTl.out rfl HOp.out _ _ 1 1 [x] rfl rfl (SrcO.one_at hxc) (k + 1) (by omega) (by omega) (HBBp.out).size ?_
          intro Aq cq Wq hoq hbq hfq
          have HOq := Lib.hid hoq
          have HBBq := Lib.hid ((HBBp.out).trans hbq)
          have HFq := Lib.hid hfq
          clear hoq hbq hfq
          refine hK.out _ _ trivial (fun hHeld => ?_)
          clear hK K
          refine wpAnyH_ready (rs := [11]) (by kernel_rfl) (by simp) ?_
          refine AllReadyH.cons rfl (fun K hK => ?_) AllReadyH.nil
          refine step_strs rfl (.tmp 31) (.tmp 34) rfl w.heap.size _ (L.take k ++ [x]) (k + 1) hTl1.out rfl HOq.out _ A2 dk c2 (L.drop k) hDl.out rfl (hsD.out _ HBBq.out) (k + 1) (by omega) (by omega) (HBBq.out).size ?_
          intro Ar cr Wr hor hbr hfr
          have HOr := Lib.hid hor
          have HBBr := Lib.hid ((HBBq.out).trans hbr)
          have HFr := Lib.hid hfr
          clear hor hbr hfr
          refine hK.out _ _ trivial (fun hHeld => ?_)
          clear hK K
          refine wpAnyH_ready (rs := [12]) (by kernel_rfl) (by simp) ?_
          refine AllReadyH.cons rfl (fun K hK => ?_) AllReadyH.nil
          go_simp
          refine hK.out _ _ trivial (fun hHeld => ?_)
          clear hK K
          refine wpAnyH_done (by kernel_rfl) ?_ _
          go_wp2_with fail
          go_ret
          exact ⟨Ar, cr, by rw [hput.out, hlenN.out]; rfl, by rw [hput.out]; first | exact HOr.out.src | exact OwnO.src (World.ownsRow.drew HOr.out), by first | exact HBBr.out | exact HBBr.out.drew⟩
end Go.Proofs.YtllmffmmfpecaaaDoor
