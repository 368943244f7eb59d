/- Filters. -/
import Derived.Test.YtcbiedonmibfaaaGreatDoorF14g
import Derived.Test.YtcbiedonmibfaaaGreatDoorFE
import Derived.Test.YtcbiedonmibfaaaGreatDoorF14A
namespace Go.Proofs.YtcbiedonmibfaaaGreatDoor
open Go.RowKit Go.Lib
theorem contains_strs (Ab : Option Addr) (cb : Nat) (b : List (List UInt8)) (I : Nat → Prop) (W : World) (hs : SrcS W I Ab cb b) :
 Calls Tryz.prog 103 #[.slice Ab b.length cb, .string ⟨#[]⟩] W fun e w' => e = .returned (.bool (b.any List.isEmpty)) ∧ w' = W := by
 by_cases h0 : b.length = 0
 · have hb : b = [] := List.eq_nil_of_length_eq_zero h0
   subst hb
   exact Tryz.slices_Contains_string_empty Ab cb ⟨#[]⟩ W
 · rcases Ab with _ | ad
   · exfalso
     have := hs.nil rfl
     have := hs.le
     omega
   · obtain ⟨bl, off, spot⟩ := ad
     have hc := (hs.at_ _ rfl).2
     have h1 := hc 0 b[0] (List.getElem?_eq_getElem (by omega))
     have hsp : spot = none := by
      have := World.cell?_spot h1
      simpa [Addr.add] using this
     subst hsp
     have C := Tryz.slices_Contains_string bl off b.length cb (b.map baO) ⟨#[]⟩ W (by simp) (by have := hs.le; have := hs.big; omega) (fun j hj => by
      rw [List.length_map] at hj
      have := hc j b[j] (List.getElem?_eq_getElem hj)
      rw [add_plain14] at this
      rw [this]
      simp [List.getD_eq_getElem?_getD, hj])
     have e : Lib.containsS ((b.map baO).take b.length) ⟨#[]⟩ = b.any List.isEmpty := by
      rw [List.take_of_length_le (by simp), Bool.eq_iff_iff]
      unfold Lib.containsS
      rw [decide_eq_true_iff, Lib.idxOfS_nonneg_iff, List.any_eq_true]
      constructor
      · intro hm
        obtain ⟨x, hx, he⟩ := List.mem_map.1 hm
        refine ⟨x, hx, ?_⟩
        have : x = [] := by
         have := congrArg (fun s => s.data.toList) he
         exact this
        rw [this]
        rfl
      · rintro ⟨x, hx, he⟩
        rw [List.isEmpty_iff] at he
        subst he
        exact List.mem_map.2 ⟨[], hx, rfl⟩
     rw [e] at C
     exact C
set_option maxRecDepth 8000 in
set_option maxHeartbeats 1600000 in
theorem check_4 (K B : Nat) (b : List (List UInt8)) (Ak Ab : Option Addr) (ck cb : Nat) (l : List UInt8) (sv sa sz : ByteArray) (w : World) (hl : l.length ≤ 9500) (hB : B = b.length) (hs : SrcS w (· < w.heap.size) Ab cb b) :
 Calls Tryz.prog 58 #[.agg #[.int .i64 4, .slice Ak K ck, .string (baO l), .string sv, .string sa, .string sz, .slice Ab B cb]] w fun en w' => en = okIf ((¬ (CmpE 4 4 (K : Int) 0 (B : Int) 0 (baO l) (baO l) sv ⟨#[]⟩ sa ⟨#[]⟩ sz ⟨#[]⟩) ∧ b.any List.isEmpty = false ∧ CmpE 4 4 (K : Int) 0 (B : Int) (B : Int) (baO l) (baO l) sv ⟨#[]⟩ sa sa sz sz) ∧ dscU l = some l) ∧ Below w.heap.size w w' := by
 have CCo := fun W (hW : Below w.heap.size w W) => contains_strs Ab cb b _ W (hs.keep fun p hp => hW.cell hp)
 rw [← hB] at CCo
 have CC := Hd fun W => cmp_raw 4 K B Ak Ab ck cb (baO l) sv sa sz W
 obtain ⟨b1, hb1⟩ : ∃ x, x = decide (CmpE 4 4 (K : Int) 0 (B : Int) 0 (baO l) (baO l) sv ⟨#[]⟩ sa ⟨#[]⟩ sz ⟨#[]⟩) := ⟨_, rfl⟩
 have hE1 : ∀ W, Sem.run Tryz.prog (binOp .neq 94 (.agg #[.int .i64 4, .int .i64 (K : Int), .int .i64 (B : Int), .string (baO l), .string sv, .string sa, .string sz]) (.agg #[.int .i64 4, .int .i64 0, .int .i64 0, .string (baO l), .string ⟨#[]⟩, .string ⟨#[]⟩, .string ⟨#[]⟩])) W = .ok (.bool (!b1)) W := fun W => by rw [hb1]; exact cmp_neq _ _ _ _ _ _ _ _ _ _ _ _ _ _ W
 obtain ⟨b2, hb⟩ : ∃ x, x = decide (CmpE 4 4 (K : Int) 0 (B : Int) (B : Int) (baO l) (baO l) sv ⟨#[]⟩ sa sa sz sz) := ⟨_, rfl⟩
 have hE : ∀ W, Sem.run Tryz.prog (binOp .eql 94 (.agg #[.int .i64 4, .int .i64 (K : Int), .int .i64 (B : Int), .string (baO l), .string sv, .string sa, .string sz]) (.agg #[.int .i64 4, .int .i64 0, .int .i64 (B : Int), .string (baO l), .string ⟨#[]⟩, .string sa, .string sz])) W = .ok (.bool b2) W := fun W => by rw [hb]; exact cmp_eql _ _ _ _ _ _ _ _ _ _ _ _ _ _ W
 obtain ⟨be, hbe⟩ : ∃ x, x = b.any List.isEmpty := ⟨_, rfl⟩
 simp only [← hbe] at CCo ⊢
 replace CCo := Hd CCo
 replace hbe := Hd hbe
 replace hB := Hd hB
 replace hb1 := Hd hb1
 replace hs := Hd hs
 obtain ⟨W1, hW1⟩ : ∃ W1, W1 = w.alloc (.cells #[.int .i64 4, .slice Ak K ck, .string (baO l), .string sv, .string sa, .string sz, .slice Ab B cb] 25) := ⟨_, rfl⟩
 have hB1 : Below w.heap.size w W1 := by rw [hW1]; exact (Below.refl _ _).alloc (Nat.le_refl _) _
 have hX1 : W1.heap[w.heap.size]? = some (.cells #[.int .i64 4, .slice Ak K ck, .string (baO l), .string sv, .string sa, .string sz, .slice Ab B cb] 25 (0, 0)) := by rw [hW1]; exact heap_alloc_new w _
 have hz1 : W1.heap.size = w.heap.size + 1 := by rw [hW1]; simp
 obtain ⟨y0, y1, y2, y3, y4, y5, y6⟩ := cells7 hX1
 replace hB1 := Hd hB1
 replace hX1 := Hd hX1
 replace hb := Hd hb
 cases b1
 rotate_left
 · have hyes1 : CmpE 4 4 (K : Int) 0 (B : Int) 0 (baO l) (baO l) sv ⟨#[]⟩ sa ⟨#[]⟩ sz ⟨#[]⟩ := of_decide_eq_true hb1.out.symm
   go_enter Tryz.func58, Tryz.ntmps58
   go_wp2_with fail
   rw [← hW1]
   replace hW1 := Hd hW1
   go_wp2_with fail
   refine (CC.out _).mono ?_
   rintro _ w2 ⟨rfl, h2⟩
   have hz2 := h2.size
   have hX2 : ∀ o o2 : Obj, ((w2.alloc o).alloc o2).heap[w.heap.size]? = some (.cells #[.int .i64 4, .slice Ak K ck, .string (baO l), .string sv, .string sa, .string sz, .slice Ab B cb] 25 (0, 0)) := fun o o2 => by
    rw [Below.heap_alloc _ _ _ (by simp; omega), Below.heap_alloc _ _ _ (by omega), h2.block _ (by omega)]
    exact hX1.out
   have x0 : ∀ o : Obj, (w2.alloc o).cell? ⟨w.heap.size, 0, none⟩ = some (.int .i64 4) := fun o => cell_of_row _ _ _ _ _ _ ((Below.heap_alloc _ _ _ (by omega)).trans ((h2.block _ (by omega)).trans hX1.out))
   have x00 : ∀ o o2 : Obj, ((w2.alloc o).alloc o2).cell? ⟨w.heap.size, 0, none⟩ = some (.int .i64 4) := fun o o2 => cell_of_row _ _ _ _ _ _ (hX2 o o2)
   have x06 : ∀ o o2 : Obj, ((w2.alloc o).alloc o2).cell? ⟨w.heap.size, 6, none⟩ = some (.slice Ab B cb) := fun o o2 => cell_of_row _ _ _ _ _ _ (hX2 o o2)
   have hB2 : ∀ o o2 : Obj, Below w.heap.size w ((w2.alloc o).alloc o2) := fun o o2 => ((hB1.out.trans (h2.mono (by omega))).alloc (by omega) _).alloc (by simp; omega) _
   have hn : w2.heap.size ≠ w2.heap.size + 1 := by omega
   have hn2 : w.heap.size ≠ w2.heap.size + 1 := by omega
   replace h2 := Hd h2
   replace hX2 := Hd hX2
   replace hB2 := Hd hB2
   clear y0 y1 y2 y3 y4 y5 y6
   dsimp only []
   go_wp2_with fail
   refine (demand_no _).mono ?_
   rintro _ w5 ⟨rfl, h5⟩
   subst w5
   dsimp only []
   exact ⟨rfl, (okIf_no (fun h => h.1.1 hyes1)).symm, hB2.out _ _⟩
 have h1n : ¬ (CmpE 4 4 (K : Int) 0 (B : Int) 0 (baO l) (baO l) sv ⟨#[]⟩ sa ⟨#[]⟩ sz ⟨#[]⟩) := of_decide_eq_false hb1.out.symm
 cases be
 rotate_left
 · skip
   go_enter Tryz.func58, Tryz.ntmps58
   go_wp2_with fail
   rw [← hW1]
   replace hW1 := Hd hW1
   go_wp2_with fail
   refine (CC.out _).mono ?_
   rintro _ w2 ⟨rfl, h2⟩
   have hz2 := h2.size
   have hX2 : ∀ o o2 : Obj, ((w2.alloc o).alloc o2).heap[w.heap.size]? = some (.cells #[.int .i64 4, .slice Ak K ck, .string (baO l), .string sv, .string sa, .string sz, .slice Ab B cb] 25 (0, 0)) := fun o o2 => by
    rw [Below.heap_alloc _ _ _ (by simp; omega), Below.heap_alloc _ _ _ (by omega), h2.block _ (by omega)]
    exact hX1.out
   have x0 : ∀ o : Obj, (w2.alloc o).cell? ⟨w.heap.size, 0, none⟩ = some (.int .i64 4) := fun o => cell_of_row _ _ _ _ _ _ ((Below.heap_alloc _ _ _ (by omega)).trans ((h2.block _ (by omega)).trans hX1.out))
   have x00 : ∀ o o2 : Obj, ((w2.alloc o).alloc o2).cell? ⟨w.heap.size, 0, none⟩ = some (.int .i64 4) := fun o o2 => cell_of_row _ _ _ _ _ _ (hX2 o o2)
   have x06 : ∀ o o2 : Obj, ((w2.alloc o).alloc o2).cell? ⟨w.heap.size, 6, none⟩ = some (.slice Ab B cb) := fun o o2 => cell_of_row _ _ _ _ _ _ (hX2 o o2)
   have hB2 : ∀ o o2 : Obj, Below w.heap.size w ((w2.alloc o).alloc o2) := fun o o2 => ((hB1.out.trans (h2.mono (by omega))).alloc (by omega) _).alloc (by simp; omega) _
   have hn : w2.heap.size ≠ w2.heap.size + 1 := by omega
   have hn2 : w.heap.size ≠ w2.heap.size + 1 := by omega
   replace h2 := Hd h2
   replace hX2 := Hd hX2
   replace hB2 := Hd hB2
   clear y0 y1 y2 y3 y4 y5 y6
   dsimp only []
   go_wp2_with fail
   refine (CCo.out _ (hB2.out _ _)).mono ?_
   rintro _ w4 ⟨rfl, h4⟩
   subst w4
   dsimp only []
   go_wp2_with fail
   refine (demand_no _).mono ?_
   rintro _ w5 ⟨rfl, h5⟩
   subst w5
   dsimp only []
   exact ⟨rfl, (okIf_no (fun h => by have := h.1.2.1; revert this; simp)).symm, hB2.out _ _⟩
 replace h1n := Hd h1n
 go_enter Tryz.func58, Tryz.ntmps58
 go_wp2_with fail
 rw [← hW1]
 replace hW1 := Hd hW1
 go_wp2_with fail
 refine (CC.out _).mono ?_
 rintro _ w2 ⟨rfl, h2⟩
 have hz2 := h2.size
 have hX2 : ∀ o o2 : Obj, ((w2.alloc o).alloc o2).heap[w.heap.size]? = some (.cells #[.int .i64 4, .slice Ak K ck, .string (baO l), .string sv, .string sa, .string sz, .slice Ab B cb] 25 (0, 0)) := fun o o2 => by
  rw [Below.heap_alloc _ _ _ (by simp; omega), Below.heap_alloc _ _ _ (by omega), h2.block _ (by omega)]
  exact hX1.out
 have x0 : ∀ o : Obj, (w2.alloc o).cell? ⟨w.heap.size, 0, none⟩ = some (.int .i64 4) := fun o => cell_of_row _ _ _ _ _ _ ((Below.heap_alloc _ _ _ (by omega)).trans ((h2.block _ (by omega)).trans hX1.out))
 have x00 : ∀ o o2 : Obj, ((w2.alloc o).alloc o2).cell? ⟨w.heap.size, 0, none⟩ = some (.int .i64 4) := fun o o2 => cell_of_row _ _ _ _ _ _ (hX2 o o2)
 have x06 : ∀ o o2 : Obj, ((w2.alloc o).alloc o2).cell? ⟨w.heap.size, 6, none⟩ = some (.slice Ab B cb) := fun o o2 => cell_of_row _ _ _ _ _ _ (hX2 o o2)
 have hB2 : ∀ o o2 : Obj, Below w.heap.size w ((w2.alloc o).alloc o2) := fun o o2 => ((hB1.out.trans (h2.mono (by omega))).alloc (by omega) _).alloc (by simp; omega) _
 have hn : w2.heap.size ≠ w2.heap.size + 1 := by omega
 have hn2 : w.heap.size ≠ w2.heap.size + 1 := by omega
 replace h2 := Hd h2
 replace hX2 := Hd hX2
 replace hB2 := Hd hB2
 clear y0 y1 y2 y3 y4 y5 y6
 dsimp only []
 go_wp2_with fail
 refine (CCo.out _ (hB2.out _ _)).mono ?_
 rintro _ w4 ⟨rfl, h4⟩
 subst w4
 dsimp only []
 go_wp2_with fail
 refine (demand_ok _).mono ?_
 rintro _ w5 ⟨rfl, h5⟩
 subst w5
 dsimp only []
 go_wp2_with fail
 go_region
 go_wp2_with fail
 cases b2
 · have hno : ¬ (CmpE 4 4 (K : Int) 0 (B : Int) (B : Int) (baO l) (baO l) sv ⟨#[]⟩ sa sa sz sz) := of_decide_eq_false hb.out.symm
   refine (demand_no _).mono ?_
   rintro _ w5 ⟨rfl, h5⟩
   subst w5
   dsimp only []
   exact ⟨rfl, (okIf_no (fun h => hno h.1.2.2)).symm, (hB2.out _ _).drew⟩
 have hyes : CmpE 4 4 (K : Int) 0 (B : Int) (B : Int) (baO l) (baO l) sv ⟨#[]⟩ sa sa sz sz := of_decide_eq_true hb.out.symm
 refine (demand_ok _).mono ?_
 rintro _ w5 ⟨rfl, h5⟩
 subst w5
 dsimp only []
 replace hyes := Hd hyes
 go_wp2_with fail
 have hX3 : ((w2.alloc (.cells #[.int .i64 4, .int .i64 (K : Int), .int .i64 (B : Int), .string (baO l), .string sv, .string sa, .string sz] 94)).alloc (.cells #[.int .i64 4, .int .i64 0, .int .i64 (B : Int), .string (baO l), .string ⟨#[]⟩, .string sa, .string sz] 94)).drew.heap[w.heap.size]? = _ := hX2.out _ _
 have hB3 := (hB2.out (.cells #[.int .i64 4, .int .i64 (K : Int), .int .i64 (B : Int), .string (baO l), .string sv, .string sa, .string sz] 94) (.cells #[.int .i64 4, .int .i64 0, .int .i64 (B : Int), .string (baO l), .string ⟨#[]⟩, .string sa, .string sz] 94)).drew
 generalize ((w2.alloc (.cells #[.int .i64 4, .int .i64 (K : Int), .int .i64 (B : Int), .string (baO l), .string sv, .string sa, .string sz] 94)).alloc (.cells #[.int .i64 4, .int .i64 0, .int .i64 (B : Int), .string (baO l), .string ⟨#[]⟩, .string sa, .string sz] 94)).drew = W3 at hX3 hB3 ⊢
 have KX : Hid (∀ W, Below (w.heap.size + 1) W3 W → W.cell? ⟨w.heap.size, 2, none⟩ = some (.string (baO l))) := Hd fun W hW => cell_of_row _ _ _ _ _ _ ((hW.block _ (by omega)).trans hX3)
 have hz3 : w.heap.size + 1 ≤ W3.heap.size := (Array.getElem?_eq_some_iff.1 hX3).1
 have y2 := KX.out W3 (Below.refl _ _)
 replace hX3 := Hd hX3
 replace hB3 := Hd hB3
 clear x0 x00 x06 hE hE1
 cases hd : dscU l with
 | none =>
   have CN := Hd fun W => (normal_any l W hl).mono fun en w' (h : _) => (⟨h.2.1 hd, h.2.2⟩ : en = bad14 ∧ Below W.heap.size W w')
   refine wp_region_held_drew (S := (fun W => W.cell? ⟨w.heap.size, 2, none⟩ = some (.string (baO l)))) (by kernel_rfl) (KX.out _ (Below.refl _ _).drew) ?_
   intro hHeld
   refine tk 0 68 hHeld ?_
   refine tk 1 69 hHeld ?_
   refine tk 3 71 hHeld ?_
   refine tk 4 72 hHeld ?_
   refine rdy [2] ?_
   refine .cons rfl (fun K hK => ?_) .nil
   go_simp
   go_at_call 66
   refine (CN.out _).mono ?_
   rintro _ w6 ⟨rfl, hb6⟩
   have HB6 := hB3.out.trans (Below.mono (Below.trans (Below.refl W3.heap.size W3).drew hb6) (by omega))
   exact ⟨rfl, (okIf_no (fun h => by have h2 := h.2; rw [hd] at h2; cases h2)).symm, HB6⟩
 | some t =>
   have CN := Hd fun W => (normal_any l W hl).mono fun en w' (h : _) => (⟨h.1 t hd, h.2.2⟩ : en = .returned (.string (baO t)) ∧ Below W.heap.size W w')
   by_cases htl : t = l
   · subst htl
     have CD := Hd fun W => demand_ok W
     refine wp_region_held_drew (S := (fun W => W.cell? ⟨w.heap.size, 2, none⟩ = some (.string (baO t)))) (by kernel_rfl) (KX.out _ (Below.refl _ _).drew) ?_
     intro hHeld
     refine tk 0 68 hHeld ?_
     refine tk 1 69 hHeld ?_
     refine tk 3 71 hHeld ?_
     refine tk 4 72 hHeld ?_
     refine rdy [2] ?_
     refine .cons rfl (fun K hK => ?_) .nil
     go_simp
     go_at_call 66
     refine (CN.out _).mono ?_
     rintro _ w6 ⟨rfl, hb6⟩
     have HK6 := Hd (show Below (w.heap.size + 1) W3 w6 from Below.mono (Below.trans (Below.refl W3.heap.size W3).drew hb6) hz3)
     clear hb6
     dsimp only []
     refine hK.out _ _ (KX.out _ (HK6.out)) ?_
     clear hK K hHeld
     intro hHeld
     refine tk 5 73 hHeld ?_
     refine rdy [6] ?_
     refine .cons rfl (fun K hK => ?_) .nil
     go_simp
     go_at_call 31
     refine (CD.out _).mono ?_
     rintro _ w7 ⟨rfl, h7⟩
     subst w7
     dsimp only []
     refine hK.out _ _ (KX.out _ (HK6.out)) ?_
     clear hK K hHeld
     intro hHeld
     refine wpAnyH_done (by kernel_rfl) ?_ _
     go_wp2_with fail
     go_end0
     exact ⟨(okIf_yes (And.intro (And.intro h1n.out (And.intro (by first | trivial | rfl) hyes.out)) hd)).symm, hB3.out.trans (HK6.out.mono (by omega))⟩
   · have hne : ((baO t).toList == (baO l).toList) = false := by
      rw [beq_eq_false_iff_ne, Lib.toList_data, Lib.toList_data]
      exact htl
     have CD := Hd fun W => demand_no W
     refine wp_region_held_drew (S := (fun W => W.cell? ⟨w.heap.size, 2, none⟩ = some (.string (baO l)))) (by kernel_rfl) (KX.out _ (Below.refl _ _).drew) ?_
     intro hHeld
     refine tk 0 68 hHeld ?_
     refine tk 1 69 hHeld ?_
     refine tk 3 71 hHeld ?_
     refine tk 4 72 hHeld ?_
     refine rdy [2] ?_
     refine .cons rfl (fun K hK => ?_) .nil
     go_simp
     go_at_call 66
     refine (CN.out _).mono ?_
     rintro _ w6 ⟨rfl, hb6⟩
     have HK6 := Hd (show Below (w.heap.size + 1) W3 w6 from Below.mono (Below.trans (Below.refl W3.heap.size W3).drew hb6) hz3)
     clear hb6
     dsimp only []
     refine hK.out _ _ (KX.out _ (HK6.out)) ?_
     clear hK K hHeld
     intro hHeld
     refine tk 5 73 hHeld ?_
     refine rdy [6] ?_
     refine .cons rfl (fun K hK => ?_) .nil
     go_simp
     go_at_call 31
     refine (CD.out _).mono ?_
     rintro _ w7 ⟨rfl, h7⟩
     subst w7
     exact ⟨rfl, (okIf_no (fun h => by have h2 := h.2; rw [hd] at h2; injection h2 with h2; exact htl h2)).symm, hB3.out.trans (HK6.out.mono (by omega))⟩
set_option maxRecDepth 8000 in
set_option maxHeartbeats 800000 in
theorem check_bad (k : Int) (K B : Nat) (Ak Ab : Option Addr) (ck cb : Nat) (st sv sa sz : ByteArray) (w : World) (hk : k < 0 ∨ 8 < k) :
 Calls Tryz.prog 58 #[.agg #[.int .i64 k, .slice Ak K ck, .string st, .string sv, .string sa, .string sz, .slice Ab B cb]] w fun en w' => en = bad14 ∧ Below w.heap.size w w' := by
 have CC := Hd fun W => cmp_raw k K B Ak Ab ck cb st sv sa sz W
 have k0 : (k == 0) = false := beq_eq_false_iff_ne.2 (by omega)
 have k1 : (k == 1) = false := beq_eq_false_iff_ne.2 (by omega)
 have k2 : (k == 2) = false := beq_eq_false_iff_ne.2 (by omega)
 have k3 : (k == 3) = false := beq_eq_false_iff_ne.2 (by omega)
 have k4 : (k == 4) = false := beq_eq_false_iff_ne.2 (by omega)
 have k5 : (k == 5) = false := beq_eq_false_iff_ne.2 (by omega)
 have k6 : (k == 6) = false := beq_eq_false_iff_ne.2 (by omega)
 have k7 : (k == 7) = false := beq_eq_false_iff_ne.2 (by omega)
 have k8 : (k == 8) = false := beq_eq_false_iff_ne.2 (by omega)
 clear hk
 obtain ⟨W1, hW1⟩ : ∃ W1, W1 = w.alloc (.cells #[.int .i64 k, .slice Ak K ck, .string st, .string sv, .string sa, .string sz, .slice Ab B cb] 25) := ⟨_, rfl⟩
 have hB1 : Below w.heap.size w W1 := by rw [hW1]; exact (Below.refl _ _).alloc (Nat.le_refl _) _
 have hX1 : W1.heap[w.heap.size]? = some (.cells #[.int .i64 k, .slice Ak K ck, .string st, .string sv, .string sa, .string sz, .slice Ab B cb] 25 (0, 0)) := by rw [hW1]; exact heap_alloc_new w _
 have hz1 : W1.heap.size = w.heap.size + 1 := by rw [hW1]; simp
 obtain ⟨y0, y1, y2, y3, y4, y5, y6⟩ := cells7 hX1
 replace hB1 := Hd hB1
 replace hX1 := Hd hX1
 go_enter Tryz.func58, Tryz.ntmps58
 go_wp2_with fail
 rw [← hW1]
 replace hW1 := Hd hW1
 go_wp2_with fail
 refine (CC.out _).mono ?_
 rintro _ w2 ⟨rfl, h2⟩
 have hz2 := h2.size
 have hX2 : ∀ o o2 : Obj, ((w2.alloc o).alloc o2).heap[w.heap.size]? = some (.cells #[.int .i64 k, .slice Ak K ck, .string st, .string sv, .string sa, .string sz, .slice Ab B cb] 25 (0, 0)) := fun o o2 => by
  rw [Below.heap_alloc _ _ _ (by simp; omega), Below.heap_alloc _ _ _ (by omega), h2.block _ (by omega)]
  exact hX1.out
 have x0 : ∀ o : Obj, (w2.alloc o).cell? ⟨w.heap.size, 0, none⟩ = some (.int .i64 k) := fun o => cell_of_row _ _ _ _ _ _ ((Below.heap_alloc _ _ _ (by omega)).trans ((h2.block _ (by omega)).trans hX1.out))
 have x00 : ∀ o o2 : Obj, ((w2.alloc o).alloc o2).cell? ⟨w.heap.size, 0, none⟩ = some (.int .i64 k) := fun o o2 => cell_of_row _ _ _ _ _ _ (hX2 o o2)
 have hB2 : ∀ o o2 : Obj, Below w.heap.size w ((w2.alloc o).alloc o2) := fun o o2 => ((hB1.out.trans (h2.mono (by omega))).alloc (by omega) _).alloc (by simp; omega) _
 replace h2 := Hd h2
 replace hX2 := Hd hX2
 replace hB2 := Hd hB2
 clear y0 y1 y2 y3 y4 y5 y6
 dsimp only []
 go_wp2_with fail
 exact ⟨rfl, rfl, hB2.out _ _⟩
theorem cmp_nil {x : List UInt8} : (baO x).toList = (⟨#[]⟩ : ByteArray).toList ↔ x = [] := by
 rw [Lib.toList_data, Lib.toList_data]
 exact Iff.rfl
theorem cmp_nat {α : Type} {n : Nat} {l : List α} (h : n = l.length) : ((n : Int) = 0) ↔ l = [] := by
 subst h
 rw [← List.length_eq_zero_iff]
 omega
theorem okIf_iff {p q : Prop} [Decidable p] [Decidable q] (h : p ↔ q) : okIf p = okIf q := by
 unfold okIf
 by_cases hp : p
 · rw [if_pos hp, if_pos (h.1 hp)]
 · rw [if_neg hp, if_neg (fun hq => hp (h.2 hq))]
theorem check14_any (f : Ft) (Ak : Option Addr) (ck : Nat) (Ab : Option Addr) (cb : Nat) (w : World) (ht : f.t.length ≤ 9500) (hs : SrcS w (· < w.heap.size) Ab cb f.b) :
 Calls Tryz.prog 58 #[ftV f Ak ck Ab cb] w fun en w' => en = okIf (f.one = true) ∧ Below w.heap.size w w' := by
 obtain ⟨k, g, t, v, a, z, b⟩ := f
 simp only at ht hs
 unfold ftV
 have hbare : (Ft.mk k g t v a z b).bare = true ↔ a = [] ∧ z = [] ∧ b = [] := by
  unfold Ft.bare
  simp only [Bool.and_eq_true, List.isEmpty_iff, and_assoc]
 have hK : ((Ft.mk k g t v a z b).kids.length : Int) = 0 ↔ (Ft.mk k g t v a z b).kids = [] := cmp_nat rfl
 have hK1 : ((Ft.mk k g t v a z b).kids.length : Int) = 1 ↔ (Ft.mk k g t v a z b).kids.length = 1 := by omega
 have hB : (b.length : Int) = 0 ↔ b = [] := cmp_nat rfl
 by_cases hr : k < 0 ∨ 8 < k
 · refine (check_bad k _ _ Ak Ab ck cb _ _ _ _ w hr).mono fun en w' h => ⟨?_, h.2⟩
   rw [h.1]
   refine (okIf_no ?_).symm
   unfold Ft.one
   rw [if_pos hr]
   decide
 have h : k = 0 ∨ k = 1 ∨ k = 2 ∨ k = 3 ∨ k = 4 ∨ k = 5 ∨ k = 6 ∨ k = 7 ∨ k = 8 := by omega
 rcases h with rfl | rfl | rfl | rfl | rfl | rfl | rfl | rfl | rfl
 · refine (check_0 _ _ Ak Ab ck cb t _ _ _ w).mono fun en w' h => ⟨h.1.trans (okIf_iff ?_), h.2⟩
   unfold Ft.one CmpE
   dsimp only
   rw [if_neg hr, if_pos (by omega)]
   simp only [Bool.and_eq_true, Bool.or_eq_true, decide_eq_true_eq, List.isEmpty_iff, hbare, cmp_nil, hB]
   constructor
   · rintro ⟨_, _, h1, h2, h3, h4, h5⟩
     exact ⟨⟨⟨⟨h4, h5, h1⟩, h2⟩, h3⟩, .inl (by omega)⟩
   · rintro ⟨⟨⟨⟨h4, h5, h1⟩, h2⟩, h3⟩, _⟩
     exact ⟨trivial, trivial, h1, h2, h3, h4, h5⟩
 · refine (check_1 _ _ Ak Ab ck cb t _ _ _ w).mono fun en w' h => ⟨h.1.trans (okIf_iff ?_), h.2⟩
   unfold Ft.one CmpE
   dsimp only
   rw [if_neg hr, if_pos (by omega)]
   simp only [Bool.and_eq_true, Bool.or_eq_true, decide_eq_true_eq, List.isEmpty_iff, hbare, cmp_nil, hB]
   constructor
   · rintro ⟨_, _, h1, h2, h3, h4, h5⟩
     exact ⟨⟨⟨⟨h4, h5, h1⟩, h2⟩, h3⟩, .inl (by omega)⟩
   · rintro ⟨⟨⟨⟨h4, h5, h1⟩, h2⟩, h3⟩, _⟩
     exact ⟨trivial, trivial, h1, h2, h3, h4, h5⟩
 · refine (check_2 _ _ Ak Ab ck cb t _ _ _ w).mono fun en w' h => ⟨h.1.trans (okIf_iff ?_), h.2⟩
   unfold Ft.one CmpE
   dsimp only
   rw [if_neg hr, if_pos (by omega)]
   simp only [Bool.and_eq_true, Bool.or_eq_true, decide_eq_true_eq, List.isEmpty_iff, hbare, cmp_nil, hB, hK1]
   constructor
   · rintro ⟨_, h0, h1, h2, h3, h4, h5⟩
     exact ⟨⟨⟨⟨h4, h5, h1⟩, h2⟩, h3⟩, .inr h0⟩
   · rintro ⟨⟨⟨⟨h4, h5, h1⟩, h2⟩, h3⟩, h0⟩
     exact ⟨trivial, h0.resolve_left (by omega), h1, h2, h3, h4, h5⟩
 · refine (check_v 3 (by omega) _ _ Ak Ab ck cb t _ _ _ w ht).mono fun en w' h => ⟨h.1.trans (okIf_iff ?_), h.2⟩
   unfold Ft.one CmpE
   dsimp only
   rw [if_neg hr, if_neg (by omega), if_neg (by omega)]
   simp only [Bool.and_eq_true, Bool.or_eq_true, decide_eq_true_eq, List.isEmpty_iff, hbare, cmp_nil, hB, hK]
   constructor
   · rintro ⟨⟨_, h0, h1, _, _, h4, h5⟩, h6⟩
     exact ⟨⟨h6, h0⟩, ⟨h4, h5, h1⟩, .inl (by omega)⟩
   · rintro ⟨⟨h6, h0⟩, ⟨h4, h5, h1⟩, _⟩
     exact ⟨⟨trivial, h0, h1, trivial, trivial, h4, h5⟩, h6⟩
 · refine (check_4 _ _ b Ak Ab ck cb t _ _ _ w ht rfl hs).mono fun en w' h => ⟨h.1.trans (okIf_iff ?_), h.2⟩
   have hany : b.any List.isEmpty = false ↔ b.all (fun x => !x.isEmpty) = true := by
    induction b with
    | nil => simp
    | cons x r ih =>
      simp
   unfold Ft.one CmpE
   dsimp only
   rw [if_neg hr, if_neg (by omega), if_pos rfl]
   rw [hany]
   have hb2 : (Ft.mk 4 g t v a z b).bare = false ↔ ¬ (a = [] ∧ z = [] ∧ b = []) := by rw [← hbare, Bool.not_eq_true]
   simp only [Bool.and_eq_true, Bool.not_eq_true', decide_eq_true_eq, List.isEmpty_iff, hb2, cmp_nil, hB, hK]
   constructor
   · rintro ⟨⟨h1, h2, _, h3, _, _, h4, _, _⟩, h5⟩
     refine ⟨⟨h5, h3⟩, ⟨h4, fun hh => h1 ⟨trivial, h3, hh.2.2, trivial, h4, hh.1, hh.2.1⟩⟩, h2⟩
   · rintro ⟨⟨h5, h3⟩, ⟨h4, h1⟩, h2⟩
     exact ⟨⟨fun hh => h1 ⟨hh.2.2.2.2.2.1, hh.2.2.2.2.2.2, hh.2.2.1⟩, h2, trivial, h3, trivial, trivial, h4, trivial, trivial⟩, h5⟩
 · refine (check_v 5 (by omega) _ _ Ak Ab ck cb t _ _ _ w ht).mono fun en w' h => ⟨h.1.trans (okIf_iff ?_), h.2⟩
   unfold Ft.one CmpE
   dsimp only
   rw [if_neg hr, if_neg (by omega), if_neg (by omega)]
   simp only [Bool.and_eq_true, Bool.or_eq_true, decide_eq_true_eq, List.isEmpty_iff, hbare, cmp_nil, hB, hK]
   constructor
   · rintro ⟨⟨_, h0, h1, _, _, h4, h5⟩, h6⟩
     exact ⟨⟨h6, h0⟩, ⟨h4, h5, h1⟩, .inl (by omega)⟩
   · rintro ⟨⟨h6, h0⟩, ⟨h4, h5, h1⟩, _⟩
     exact ⟨⟨trivial, h0, h1, trivial, trivial, h4, h5⟩, h6⟩
 · refine (check_v 6 (by omega) _ _ Ak Ab ck cb t _ _ _ w ht).mono fun en w' h => ⟨h.1.trans (okIf_iff ?_), h.2⟩
   unfold Ft.one CmpE
   dsimp only
   rw [if_neg hr, if_neg (by omega), if_neg (by omega)]
   simp only [Bool.and_eq_true, Bool.or_eq_true, decide_eq_true_eq, List.isEmpty_iff, hbare, cmp_nil, hB, hK]
   constructor
   · rintro ⟨⟨_, h0, h1, _, _, h4, h5⟩, h6⟩
     exact ⟨⟨h6, h0⟩, ⟨h4, h5, h1⟩, .inl (by omega)⟩
   · rintro ⟨⟨h6, h0⟩, ⟨h4, h5, h1⟩, _⟩
     exact ⟨⟨trivial, h0, h1, trivial, trivial, h4, h5⟩, h6⟩
 · refine (check_7 _ _ Ak Ab ck cb t _ _ _ w ht).mono fun en w' h => ⟨h.1.trans (okIf_iff ?_), h.2⟩
   unfold Ft.one CmpE
   dsimp only
   rw [if_neg hr, if_neg (by omega), if_neg (by omega)]
   simp only [Bool.and_eq_true, Bool.or_eq_true, decide_eq_true_eq, List.isEmpty_iff, hbare, cmp_nil, hB, hK]
   constructor
   · rintro ⟨⟨_, h0, h1, _, h3, h4, h5⟩, h6⟩
     exact ⟨⟨h6, h0⟩, ⟨h4, h5, h1⟩, .inr h3⟩
   · rintro ⟨⟨h6, h0⟩, ⟨h4, h5, h1⟩, h3⟩
     exact ⟨⟨trivial, h0, h1, trivial, h3.resolve_left (by omega), h4, h5⟩, h6⟩
 · refine (check_v 8 (by omega) _ _ Ak Ab ck cb t _ _ _ w ht).mono fun en w' h => ⟨h.1.trans (okIf_iff ?_), h.2⟩
   unfold Ft.one CmpE
   dsimp only
   rw [if_neg hr, if_neg (by omega), if_neg (by omega)]
   simp only [Bool.and_eq_true, Bool.or_eq_true, decide_eq_true_eq, List.isEmpty_iff, hbare, cmp_nil, hB, hK]
   constructor
   · rintro ⟨⟨_, h0, h1, _, _, h4, h5⟩, h6⟩
     exact ⟨⟨h6, h0⟩, ⟨h4, h5, h1⟩, .inl (by omega)⟩
   · rintro ⟨⟨h6, h0⟩, ⟨h4, h5, h1⟩, _⟩
     exact ⟨⟨trivial, h0, h1, trivial, trivial, h4, h5⟩, h6⟩
end Go.Proofs.YtcbiedonmibfaaaGreatDoor
