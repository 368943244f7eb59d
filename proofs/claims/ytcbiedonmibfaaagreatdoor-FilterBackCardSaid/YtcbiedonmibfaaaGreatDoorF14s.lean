/- Filters. -/
import Derived.Test.YtcbiedonmibfaaaGreatDoorF14A
namespace Go.Proofs.YtcbiedonmibfaaaGreatDoor
open Go.RowKit Go.Lib
set_option maxRecDepth 8000 in
set_option maxHeartbeats 400000 in
theorem simple_any (f : Ft) (hf : LeafOk f) (hm : f.leaf.length ≤ 4096) (w : World) :
 Calls Tryz.prog 113 #[.string (strB f.leaf)] w fun en w' => ∃ Ab cb, en = .returned (ftV f none 0 Ab cb) ∧ SrcS w' (New w.heap.size w') Ab cb f.b ∧ Below w.heap.size w w' := by
 obtain ⟨x, d, hleaf, hby, h61, hhit, hno⟩ := leaf_parts hf
 rw [← hleaf] at hm ⊢
 obtain ⟨rest, hrest⟩ : ∃ r, r = f.rest := ⟨_, rfl⟩
 rw [← hrest] at hm ⊢
 have hlen : x.length + 2 + rest.length ≤ 4096 := by simp at hm; omega
 obtain ⟨W0, hW0⟩ : ∃ W0, W0 = w.alloc (.cells #[.int .i64 0, .slice none 0 0, .string ⟨#[]⟩, .string ⟨#[]⟩, .string ⟨#[]⟩, .string ⟨#[]⟩, .slice none 0 0] 25) := ⟨_, rfl⟩
 have hB0 : Below w.heap.size w W0 := by rw [hW0]; exact (Below.refl _ _).alloc (Nat.le_refl _) _
 have hR0 : W0.heap[w.heap.size]? = some (.cells #[.int .i64 0, .slice none 0 0, .string ⟨#[]⟩, .string ⟨#[]⟩, .string ⟨#[]⟩, .string ⟨#[]⟩, .slice none 0 0] 25 (0, 0)) := by rw [hW0]; exact heap_alloc_new w _
 have hz0 : W0.heap.size = w.heap.size + 1 := by rw [hW0]; simp
 have CC := Hd (cutB_hit 61 (x ++ [d]) rest ⟨#[61]⟩ W0 rfl (by omega) hby h61 (by simp; omega))
 have CD := Hd fun W => demand_ok W
 have hszH : (strB (x ++ [d])).size = x.length + 1 := by rw [strB_sizeE]; simp
 have hadd : strB (x ++ [d]) ++ (⟨#[61]⟩ : ByteArray) = strB ((x ++ [d]) ++ [61]) := by rw [show (⟨#[61]⟩ : ByteArray) = strB [61] from rfl, strB_appE]
 have hd256 : d < 256 := hby d (by simp)
 have CX := Hd fun i W => cutsuf x d (dd14 i) (strB (opn (kk14 i))) (by rw [kk_opn]) hd256 (dd_lt i) (by omega) W
 have CS := Hd fun i W => (by have := sign_any (kk14 i) ⟨(kk_range i).1, (kk_range i).2.1⟩ W; rw [if_neg (kk_range i).2.2] at this; exact this : Calls Tryz.prog 60 #[.int .i64 (kk14 i)] W fun en w' => en = .returned (.string (strB (opn (kk14 i)))) ∧ w' = W)
 have htl : f.t.length ≤ 64 := (dsc_len hf.t).1
 have CN := Hd fun W => normal_any f.t W (by omega)
 obtain ⟨s0, hs0⟩ : ∃ s, s = strB ((x ++ [d]) ++ 61 :: rest) := ⟨_, rfl⟩
 rw [← hs0] at CC ⊢
 replace hs0 := Hd hs0
 obtain ⟨hd1, hhd1⟩ : ∃ h, h = strB (x ++ [d]) := ⟨_, rfl⟩
 obtain ⟨hd2, hhd2⟩ : ∃ h, h = strB ((x ++ [d]) ++ [61]) := ⟨_, rfl⟩
 rw [← hhd1] at CC hszH hadd
 rw [← hhd2] at hadd
 have CX2 := Hd fun i W => (by rw [hhd2]; exact CX.out i W : Calls Tryz.prog 161 #[.string hd2, .string (strB (opn (kk14 i)))] W fun en w' => en = .returned (.tuple #[.string (strB (if d = dd14 i then x else (x ++ [d]) ++ [61])), .bool (decide (d = dd14 i))]) ∧ w' = W)
 clear CX
 replace hleaf := Hd hleaf
 replace hby := Hd hby
 replace h61 := Hd h61
 replace hhit := Hd hhit
 replace hno := Hd hno
 replace hrest := Hd hrest
 replace hhd1 := Hd hhd1
 replace hhd2 := Hd hhd2
 replace hB0 := Hd hB0
 replace hR0 := Hd hR0
 replace hf := Hd hf
 clear hm
 go_enter Tryz.func113, Tryz.ntmps113
 go_wp2_with fail
 rw [← hW0]
 replace hW0 := Hd hW0
 go_wp2_with fail
 refine CC.out.mono ?_
 rintro _ w2 ⟨rfl, h2⟩
 replace h2 := Hd h2
 dsimp only []
 go_wp2_with fail
 refine (CD.out _).mono ?_
 rintro _ w3 ⟨rfl, h3⟩
 subst w3
 dsimp only []
 go_wp2_with fail
 obtain ⟨W3, hW3⟩ : ∃ W3, W3 = w2.alloc (.cells #[.int .i64 5, .int .i64 6, .int .i64 8] 3) := ⟨_, rfl⟩
 have hK3 : W3.heap[w2.heap.size]? = some (.cells #[.int .i64 5, .int .i64 6, .int .i64 8] 3 (0, 0)) := by rw [hW3]; exact heap_alloc_new w2 _
 have hB3 : Below W0.heap.size W0 W3 := by rw [hW3]; exact h2.out.alloc h2.out.size _
 rw [← hW3]
 replace hW3 := Hd hW3
 go_loopw [21] (fun iv wr => ∃ (i : Nat), i ≤ 3 ∧ iv = .int .i64 (i : Int) ∧ wr = W3 ∧ Hid (∀ j < i, d ≠ dd14 j)) (fun i _ => 3 - (RowKit.intOf i).toNat)
 case atStart => exact ⟨0, by omega, rfl, rfl, Hd fun j hj => absurd hj (by omega)⟩
 case round =>
  obtain ⟨i, hi, rfl, rfl, hmiss⟩ := hrel
  by_cases hlt : i < 3
  · have hc := kk_cell hK3 i hlt
    have CSi := Hd (CS.out i wr)
    have CXi := Hd (CX2.out i wr)
    have hkr := kk_range i
    obtain ⟨q, hq⟩ : ∃ q, q = kk14 i := ⟨_, rfl⟩
    rw [← hq] at hc CSi CXi hkr
    obtain ⟨sq, hsq⟩ : ∃ s, s = strB (opn q) := ⟨_, rfl⟩
    rw [← hsq] at CSi CXi
    have j1 : (i : Int) < 3 := by omega
    have j0 : (0 : Int) ≤ (i : Int) := by omega
    replace hq := Hd hq
    replace hsq := Hd hsq
    replace hK3 := Hd hK3
    by_cases hde : d = dd14 i
    · rw [if_pos hde, decide_eq_true hde] at CXi
      obtain ⟨hk, hx⟩ := hhit.out i hlt hde
      rw [← hq.out] at hk
      rw [hx, baO_nb] at CXi
      have hv : rest = esc f.v := by rw [hrest.out, restV (by have := hk; have h1 := hq.out; unfold kk14 at h1; split at h1 <;> (try split at h1) <;> omega) (by have := hk; have h1 := hq.out; unfold kk14 at h1; split at h1 <;> (try split at h1) <;> omega)]
      have CV := Hd fun W => unescaped_any f.v W (by rw [← hv]; omega)
      rw [← hv] at CV
      obtain ⟨x1, x2, x3⟩ := hf.out.a (by have := hk; have h1 := hq.out; unfold kk14 at h1; split at h1 <;> (try split at h1) <;> omega)
      have hfv : Value.agg #[.int .i64 q, .slice none 0 0, .string (baO f.t), .string (baO f.v), .string ⟨#[]⟩, .string ⟨#[]⟩, .slice none 0 0] = ftV f none 0 none 0 := by
       unfold ftV Ft.kids
       rw [hk, hf.out.g, x1, x2, x3]
       rfl
      have hsb : ∀ W I, SrcS W I none 0 f.b := fun W I => by rw [x3]; exact SrcS.none_ _ _
      replace hfv := Hd hfv
      replace hsb := Hd hsb
      replace hde := Hd hde
      replace hk := Hd hk
      replace hx := Hd hx
      replace hv := Hd hv
      clear x1 x2 x3
      go_wp2_with fail
      refine CSi.out.mono ?_
      rintro _ w4 ⟨rfl, h4⟩
      subst w4
      dsimp only []
      go_wp2_with fail
      refine CXi.out.mono ?_
      rintro _ w4 ⟨rfl, h4⟩
      subst w4
      dsimp only []
      go_wp2_with fail
      refine (CN.out _).mono ?_
      rintro en w5 ⟨h5, _, hb5⟩
      have h5' := h5 f.t hf.out.t
      subst h5'
      replace hb5 := Hd (hB3.trans (hb5.mono hB3.size))
      clear h5
      dsimp only []
      go_wp2_with fail
      refine (CV.out _).mono ?_
      rintro en w6 ⟨rfl, hb6⟩
      replace hb6 := Hd (hb5.out.trans (hb6.mono hb5.out.size))
      have hR6 : w6.heap[w.heap.size]? = _ := (hb6.out.block _ (by omega)).trans hR0.out
      have hB6 := Hd (hB0.out.trans (hb6.out.mono (by omega)))
      dsimp only []
      obtain ⟨r0, r1, r2, r3, r4, r5, r6⟩ := cells7 (hR6)
      have f0 := free7 (hR6) 0
      have f1 := free7 (hR6) 1
      have f2 := free7 (hR6) 2
      have f3 := free7 (hR6) 3
      have f4 := free7 (hR6) 4
      have f5 := free7 (hR6) 5
      have f6 := free7 (hR6) 6
      replace hR6 := Hd hR6
      go_wp2_with fail
      have HC := Hd (set7_same (hR6.out) (.int .i64 q) (.slice none 0 0) (.string (baO f.t)) (.string (baO f.v)) (.string ⟨#[]⟩) (.string ⟨#[]⟩) (.slice none 0 0))
      have HL := Hd (set7_below (hB6.out) (Nat.le_refl _) (.int .i64 q) (.slice none 0 0) (.string (baO f.t)) (.string (baO f.v)) (.string ⟨#[]⟩) (.string ⟨#[]⟩) (.slice none 0 0))
      have HN := Hd (fun k (hk : k ≠ w.heap.size) => set7_other (w := w6) (b := w.heap.size) (.int .i64 q) (.slice none 0 0) (.string (baO f.t)) (.string (baO f.v)) (.string ⟨#[]⟩) (.string ⟨#[]⟩) (.slice none 0 0) hk)
      have HX : set7 w6 w.heap.size (.int .i64 q) (.slice none 0 0) (.string (baO f.t)) (.string (baO f.v)) (.string ⟨#[]⟩) (.string ⟨#[]⟩) (.slice none 0 0) = (((((((w6.setCell ⟨w.heap.size, 0, none⟩ (.int .i64 q)).setCell ⟨w.heap.size, 1, none⟩ (.slice none 0 0)).setCell ⟨w.heap.size, 2, none⟩ (.string (baO f.t))).setCell ⟨w.heap.size, 3, none⟩ (.string (baO f.v))).setCell ⟨w.heap.size, 4, none⟩ (.string ⟨#[]⟩)).setCell ⟨w.heap.size, 5, none⟩ (.string ⟨#[]⟩)).setCell ⟨w.heap.size, 6, none⟩ (.slice none 0 0)) := rfl
      rw [← HX]
      obtain ⟨W5, hW5⟩ : ∃ W5, W5 = set7 w6 w.heap.size (.int .i64 q) (.slice none 0 0) (.string (baO f.t)) (.string (baO f.v)) (.string ⟨#[]⟩) (.string ⟨#[]⟩) (.slice none 0 0) := ⟨_, rfl⟩
      rw [← hW5] at HC HL HN ⊢
      clear HX hW5 r0 r1 r2 r3 r4 r5 r6 f0 f1 f2 f3 f4 f5 f6
      obtain ⟨v0, v1, v2, v3, v4, v5, v6⟩ := cells7 HC.out
      exact bodyPost_ret (v := .agg #[.int .i64 q, .slice none 0 0, .string (baO f.t), .string (baO f.v), .string ⟨#[]⟩, .string ⟨#[]⟩, .slice none 0 0]) (by simp [results, Tryz.results113, go_sem, v0, v1, v2, v3, v4, v5, v6]) rfl (⟨none, 0, congrArg Ending.returned hfv.out, hsb.out _ _, HL.out⟩)
    · rw [if_neg hde, decide_eq_false hde] at CXi
      replace hde := Hd hde
      go_wp2_with fail
      refine CSi.out.mono ?_
      rintro _ w4 ⟨rfl, h4⟩
      subst w4
      dsimp only []
      go_wp2_with fail
      refine CXi.out.mono ?_
      rintro _ w4 ⟨rfl, h4⟩
      subst w4
      dsimp only []
      go_wp2_with fail
      go_roundw
      case rel => exact ⟨i + 1, by omega, by go_num, by first | rfl | trivial, Hd fun j hj => by
       by_cases hji : j = i
       · rw [hji]; exact hde.out
       · exact hmiss.out j (by omega)⟩
      case measure => simp [RowKit.intOf]; omega
  · have h3 : i = 3 := by omega
    subst h3
    obtain ⟨k5, k6, k8, hx⟩ := hno.out hmiss.out
    have hhd : hd1 = baO f.t := by rw [hhd1.out, hx, baO_nb]
    have hlo := hf.out.lo
    have hhi := hf.out.hi
    have hfg := hf.out.g
    replace hx := Hd hx
    replace hK3 := Hd hK3
    go_wp2_with fail
    rw [hhd]
    replace hhd := Hd hhd
    refine (CN.out _).mono ?_
    rintro en w5 ⟨h5, _, hb5⟩
    have h5' := h5 f.t hf.out.t
    subst h5'
    replace hb5 := Hd (hB3.trans (hb5.mono hB3.size))
    clear h5
    dsimp only []
    by_cases k7 : f.k = 7
    · have hr7 : strB rest = (⟨#[42]⟩ : ByteArray) := by rw [hrest.out, rest7 k7]; rfl
      have e7 : ((strB rest).toList == [42]) = true := by rw [hr7, Lib.toList_data]; rfl
      obtain ⟨x1, x2, x3⟩ := hf.out.a (by omega)
      have x4 := hf.out.v7 k7
      have hfv : Value.agg #[.int .i64 7, .slice none 0 0, .string (baO f.t), .string ⟨#[]⟩, .string ⟨#[]⟩, .string ⟨#[]⟩, .slice none 0 0] = ftV f none 0 none 0 := by
       unfold ftV Ft.kids
       rw [k7, hfg, x1, x2, x3, x4]
       rfl
      have hsb : ∀ W I, SrcS W I none 0 f.b := fun W I => by rw [x3]; exact SrcS.none_ _ _
      have hR6 : w5.heap[w.heap.size]? = _ := (hb5.out.block _ (by omega)).trans hR0.out
      have hB6 := Hd (hB0.out.trans (hb5.out.mono (by omega)))
      replace hfv := Hd hfv
      replace hsb := Hd hsb
      clear x1 x2 x3 x4 hr7
      obtain ⟨r0, r1, r2, r3, r4, r5, r6⟩ := cells7 (hR6)
      have f0 := free7 (hR6) 0
      have f1 := free7 (hR6) 1
      have f2 := free7 (hR6) 2
      have f3 := free7 (hR6) 3
      have f4 := free7 (hR6) 4
      have f5 := free7 (hR6) 5
      have f6 := free7 (hR6) 6
      replace hR6 := Hd hR6
      go_wp2_with fail
      have HC := Hd (set7_same (hR6.out) (.int .i64 7) (.slice none 0 0) (.string (baO f.t)) (.string ⟨#[]⟩) (.string ⟨#[]⟩) (.string ⟨#[]⟩) (.slice none 0 0))
      have HL := Hd (set7_below (hB6.out) (Nat.le_refl _) (.int .i64 7) (.slice none 0 0) (.string (baO f.t)) (.string ⟨#[]⟩) (.string ⟨#[]⟩) (.string ⟨#[]⟩) (.slice none 0 0))
      have HN := Hd (fun k (hk : k ≠ w.heap.size) => set7_other (w := w5) (b := w.heap.size) (.int .i64 7) (.slice none 0 0) (.string (baO f.t)) (.string ⟨#[]⟩) (.string ⟨#[]⟩) (.string ⟨#[]⟩) (.slice none 0 0) hk)
      have HX : set7 w5 w.heap.size (.int .i64 7) (.slice none 0 0) (.string (baO f.t)) (.string ⟨#[]⟩) (.string ⟨#[]⟩) (.string ⟨#[]⟩) (.slice none 0 0) = (((((((w5.setCell ⟨w.heap.size, 0, none⟩ (.int .i64 7)).setCell ⟨w.heap.size, 1, none⟩ (.slice none 0 0)).setCell ⟨w.heap.size, 2, none⟩ (.string (baO f.t))).setCell ⟨w.heap.size, 3, none⟩ (.string ⟨#[]⟩)).setCell ⟨w.heap.size, 4, none⟩ (.string ⟨#[]⟩)).setCell ⟨w.heap.size, 5, none⟩ (.string ⟨#[]⟩)).setCell ⟨w.heap.size, 6, none⟩ (.slice none 0 0)) := rfl
      rw [← HX]
      obtain ⟨W5, hW5⟩ : ∃ W5, W5 = set7 w5 w.heap.size (.int .i64 7) (.slice none 0 0) (.string (baO f.t)) (.string ⟨#[]⟩) (.string ⟨#[]⟩) (.string ⟨#[]⟩) (.slice none 0 0) := ⟨_, rfl⟩
      rw [← hW5] at HC HL HN ⊢
      clear HX hW5 r0 r1 r2 r3 r4 r5 r6 f0 f1 f2 f3 f4 f5 f6
      obtain ⟨v0, v1, v2, v3, v4, v5, v6⟩ := cells7 HC.out
      exact bodyPost_ret (v := .agg #[.int .i64 7, .slice none 0 0, .string (baO f.t), .string ⟨#[]⟩, .string ⟨#[]⟩, .string ⟨#[]⟩, .slice none 0 0]) (by simp [results, Tryz.results113, go_sem, v0, v1, v2, v3, v4, v5, v6]) rfl (⟨none, 0, congrArg Ending.returned hfv.out, hsb.out _ _, HL.out⟩)
    have hne7 : rest ≠ [42] := by
     rw [hrest.out]
     by_cases k4 : f.k = 4
     · exact fun e => rest_47 hf.out k4 e
     · rw [restV k7 k4]
       exact fun e => esc_star f.v 42 (by rw [e]; simp) rfl
    have hbr : byE rest := by
     intro c hc
     have := leaf_plain hf.out c (by rw [← hleaf.out, ← hrest.out]; simp [hc])
     exact this.2.2
    have e7 : ((strB rest).toList == [42]) = false := by
     rw [beq_eq_false_iff_ne]
     intro e
     apply hne7
     have h1 : strB rest = strB [42] := by
      apply ba_ext
      rw [← ByteArray.toList_eq]
      exact e
     exact strB_inj hbr (by simp) h1
    by_cases k4 : f.k = 4
    · have hst : rest = star (esc f.a) (f.b.map esc ++ [esc f.z]) := by rw [hrest.out]; exact rest_star k4
      have CCo := Tryz.strings_Contains_one (strB rest) 42 w5
      have h42 : decide (0 ≤ Lib.indexByte (strB rest).data.toList 42) = true := by
       rw [hrest.out, rest4 k4]
       refine decide_eq_true ?_
       rw [strB_list, List.map_append]
       have := ix_hit (b := (42 : UInt8)) (p := (esc f.a).map UInt8.ofNat) (r := (f.b.flatMap (fun x => esc x ++ [42]) ++ esc f.z).map UInt8.ofNat) (ofNat_mem (c := 42) (fun c hc => (esc_plain f.a c hc).2) (by decide) (fun h => esc_star f.a 42 h rfl))
       have e : (42 :: (f.b.flatMap (fun x => esc x ++ [42]) ++ esc f.z)).map UInt8.ofNat = (42 : UInt8) :: (f.b.flatMap (fun x => esc x ++ [42]) ++ esc f.z).map UInt8.ofNat := rfl
       rw [e, this]
       omega
      rw [h42] at CCo
      have hes : ∀ l : List UInt8, byE (esc l) ∧ 42 ∉ esc l := fun l => ⟨fun c hc => (esc_plain l c hc).2, fun h => esc_star l 42 h rfl⟩
      have hll : (star (esc f.a) (f.b.map esc ++ [esc f.z])).length = rest.length := by rw [hst]
      have CSp := split_star (esc f.a) (f.b.map esc ++ [esc f.z]) ⟨#[42]⟩ w5 rfl (hes _) (fun y hy => by
       rcases List.mem_append.1 hy with hy | hy
       · obtain ⟨l, _, rfl⟩ := List.mem_map.1 hy
         exact hes l
       · rw [List.mem_singleton.1 hy]
         exact hes _) (by omega)
      rw [← hst] at CSp
      have hN : (f.b.map esc ++ [esc f.z]).length + 1 = (f.b.length + 1) + 1 := by simp
      rw [hN] at CSp
      have hlens : (esc f.a).length ≤ 9500 ∧ (esc f.z).length ≤ 9500 ∧ (∀ x ∈ f.b, (esc x).length ≤ 9500) ∧ f.b.length ≤ 9500 := by
       have h1 := congrArg List.length hst
       unfold star at h1
       rw [List.length_append, List.flatMap_append, List.length_append] at h1
       have hz : ([esc f.z].flatMap fun x => 42 :: x).length = (esc f.z).length + 1 := by simp
       rw [hz] at h1
       have hmem : ∀ (L : List (List UInt8)), (∀ x ∈ L, (esc x).length ≤ ((L.map esc).flatMap fun x => 42 :: x).length) ∧ L.length ≤ ((L.map esc).flatMap fun x => 42 :: x).length := by
        intro L
        induction L with
        | nil => exact ⟨(fun x hx => by cases hx), Nat.le_refl _⟩
        | cons y L ih =>
          simp only [List.map_cons, List.flatMap_cons, List.length_append, List.length_cons]
          refine ⟨fun x hx => ?_, by omega⟩
          rcases List.mem_cons.1 hx with rfl | hx
          · omega
          · have := ih.1 x hx
            omega
       obtain ⟨m1, m2⟩ := hmem f.b
       exact ⟨by omega, by omega, fun x hx => by have := m1 x hx; omega, by omega⟩
      obtain ⟨l1, l2, l3, l4⟩ := hlens
      obtain ⟨W6, hW6⟩ : ∃ W6, W6 = w5.alloc (.cells (((esc f.a :: (f.b.map esc ++ [esc f.z])).map fun x => Value.string (strB x)).toArray) 9) := ⟨_, rfl⟩
      have hH6 : W6.heap[w5.heap.size]? = some (.cells (((esc f.a :: (f.b.map esc ++ [esc f.z])).map fun x => Value.string (strB x)).toArray) 9 (0, 0)) := by rw [hW6]; exact heap_alloc_new w5 _
      have hB6 : Below W0.heap.size W0 W6 := by rw [hW6]; exact hb5.out.alloc hb5.out.size _
      have hlt6 : w5.heap.size < W6.heap.size := by rw [hW6]; simp
      have cell : ∀ j, W6.cell? ⟨w5.heap.size, j, none⟩ = ((esc f.a :: (f.b.map esc ++ [esc f.z])).map fun x => Value.string (strB x))[j]? := fun j => by
       rw [cell_of_row _ _ _ _ _ _ hH6, List.getElem?_toArray]
      have CSo := sought_any f.t f.a f.z f.b w5.heap.size (f.b.length + 1) W6 rfl hlt6 (by rw [cell]; rfl)
       (by rw [cell, List.getElem?_map, List.getElem?_cons_succ, List.getElem?_append_right (by simp)]; simp)
       (fun j hj => by rw [cell, Nat.add_comm 1 j, List.getElem?_map, List.getElem?_cons_succ, List.getElem?_append_left (by simpa using hj), List.getElem?_map, List.getElem?_eq_getElem hj]; rfl) l1 l2 l3 l4
      have x4 := hf.out.v4 k4
      have hfv : ∀ A c, ftV ⟨4, .nil, f.t, [], f.a, f.z, f.b⟩ none 0 A c = ftV f none 0 A c := fun A c => by
       unfold ftV Ft.kids
       rw [k4, hfg, x4]
      simp only [hfv] at CSo
      replace x4 := Hd x4
      rw [← hW6] at CSp
      have hR6 : W6.heap[w.heap.size]? = _ := (hB6.block _ (by omega)).trans hR0.out
      replace CSo := Hd CSo
      replace CSp := Hd CSp
      replace CCo := Hd CCo
      replace hfv := Hd hfv
      replace hH6 := Hd hH6
      replace cell := Hd cell
      replace hst := Hd hst
      replace hll := Hd hll
      replace hN := Hd hN
      replace hW6 := Hd hW6
      replace hes := Hd hes
      clear h42
      go_wp2_with fail
      refine CCo.out.mono ?_
      rintro _ w7 ⟨rfl, h7⟩
      subst w7
      dsimp only []
      go_wp2_with fail
      refine CSp.out.mono ?_
      rintro _ w7 ⟨rfl, h7⟩
      subst w7
      dsimp only []
      go_wp2_with fail
      refine CSo.out.mono ?_
      rintro _ w8 ⟨Ab, cb, rfl, hs8, hb8⟩
      have hR8 : w8.heap[w.heap.size]? = _ := (hb8.block _ (by have := hB6.size; omega)).trans hR6
      have hB8 := Hd (hB0.out.trans ((hB6.trans (hb8.mono hB6.size)).mono (by omega)))
      have hW0l : w.heap.size < W6.heap.size := by have := hB6.size; omega
      replace hs8 := Hd hs8
      replace hb8 := Hd hb8
      replace hR6 := Hd hR6
      unfold ftV
      dsimp only []
      obtain ⟨r0, r1, r2, r3, r4, r5, r6⟩ := cells7 (hR8)
      have f0 := free7 (hR8) 0
      have f1 := free7 (hR8) 1
      have f2 := free7 (hR8) 2
      have f3 := free7 (hR8) 3
      have f4 := free7 (hR8) 4
      have f5 := free7 (hR8) 5
      have f6 := free7 (hR8) 6
      replace hR8 := Hd hR8
      go_wp2_with fail
      have HC := Hd (set7_same (hR8.out) (.int .i64 4) (.slice none f.kids.length 0) (.string (baO f.t)) (.string (baO f.v)) (.string (baO f.a)) (.string (baO f.z)) (.slice Ab f.b.length cb))
      have HL := Hd (set7_below (hB8.out) (Nat.le_refl _) (.int .i64 4) (.slice none f.kids.length 0) (.string (baO f.t)) (.string (baO f.v)) (.string (baO f.a)) (.string (baO f.z)) (.slice Ab f.b.length cb))
      have HN := Hd (fun k (hk : k ≠ w.heap.size) => set7_other (w := w8) (b := w.heap.size) (.int .i64 4) (.slice none f.kids.length 0) (.string (baO f.t)) (.string (baO f.v)) (.string (baO f.a)) (.string (baO f.z)) (.slice Ab f.b.length cb) hk)
      have HX : set7 w8 w.heap.size (.int .i64 4) (.slice none f.kids.length 0) (.string (baO f.t)) (.string (baO f.v)) (.string (baO f.a)) (.string (baO f.z)) (.slice Ab f.b.length cb) = (((((((w8.setCell ⟨w.heap.size, 0, none⟩ (.int .i64 4)).setCell ⟨w.heap.size, 1, none⟩ (.slice none f.kids.length 0)).setCell ⟨w.heap.size, 2, none⟩ (.string (baO f.t))).setCell ⟨w.heap.size, 3, none⟩ (.string (baO f.v))).setCell ⟨w.heap.size, 4, none⟩ (.string (baO f.a))).setCell ⟨w.heap.size, 5, none⟩ (.string (baO f.z))).setCell ⟨w.heap.size, 6, none⟩ (.slice Ab f.b.length cb)) := rfl
      rw [← HX]
      obtain ⟨W5, hW5⟩ : ∃ W5, W5 = set7 w8 w.heap.size (.int .i64 4) (.slice none f.kids.length 0) (.string (baO f.t)) (.string (baO f.v)) (.string (baO f.a)) (.string (baO f.z)) (.slice Ab f.b.length cb) := ⟨_, rfl⟩
      rw [← hW5] at HC HL HN ⊢
      clear HX hW5 r0 r1 r2 r3 r4 r5 r6 f0 f1 f2 f3 f4 f5 f6
      obtain ⟨v0, v1, v2, v3, v4, v5, v6⟩ := cells7 HC.out
      exact bodyPost_ret (v := .agg #[.int .i64 4, .slice none f.kids.length 0, .string (baO f.t), .string (baO f.v), .string (baO f.a), .string (baO f.z), .slice Ab f.b.length cb]) (by simp [results, Tryz.results113, go_sem, v0, v1, v2, v3, v4, v5, v6]) rfl (⟨Ab, cb, congrArg Ending.returned (by unfold ftV; rw [k4]), (hs8.out.keep fun p hp => World.cell?_of_block (HN.out _ (by have := hp.1; omega))).more fun i hi => ⟨by have := hi.1; omega, hi.2.of (HN.out _ (by have := hi.1; omega))⟩, HL.out⟩)
    · have k3 : f.k = 3 := by omega
      have hv : rest = esc f.v := by rw [hrest.out, restV k7 k4]
      have CV := Hd fun W => unescaped_any f.v W (by rw [← hv]; omega)
      rw [← hv] at CV
      have CCo := Tryz.strings_Contains_one (strB rest) 42 w5
      have h42 : decide (0 ≤ Lib.indexByte (strB rest).data.toList 42) = false := by
       rw [hv, strB_list, ix_miss (b := (42 : UInt8)) (ofNat_mem (c := 42) (fun c hc => (esc_plain f.v c hc).2) (by decide) (fun h => esc_star f.v 42 h rfl))]
       decide
      rw [h42] at CCo
      obtain ⟨x1, x2, x3⟩ := hf.out.a (by omega)
      have hfv : Value.agg #[.int .i64 3, .slice none 0 0, .string (baO f.t), .string (baO f.v), .string ⟨#[]⟩, .string ⟨#[]⟩, .slice none 0 0] = ftV f none 0 none 0 := by
       unfold ftV Ft.kids
       rw [k3, hfg, x1, x2, x3]
       rfl
      have hsb : ∀ W I, SrcS W I none 0 f.b := fun W I => by rw [x3]; exact SrcS.none_ _ _
      replace hfv := Hd hfv
      replace hsb := Hd hsb
      replace CCo := Hd CCo
      replace hv := Hd hv
      clear x1 x2 x3 h42
      go_wp2_with fail
      refine CCo.out.mono ?_
      rintro _ w7 ⟨rfl, h7⟩
      subst w7
      dsimp only []
      go_wp2_with fail
      refine (CV.out _).mono ?_
      rintro en w6 ⟨rfl, hb6⟩
      replace hb6 := Hd (hb5.out.trans (hb6.mono hb5.out.size))
      have hR6 : w6.heap[w.heap.size]? = _ := (hb6.out.block _ (by omega)).trans hR0.out
      have hB6 := Hd (hB0.out.trans (hb6.out.mono (by omega)))
      dsimp only []
      obtain ⟨r0, r1, r2, r3, r4, r5, r6⟩ := cells7 (hR6)
      have f0 := free7 (hR6) 0
      have f1 := free7 (hR6) 1
      have f2 := free7 (hR6) 2
      have f3 := free7 (hR6) 3
      have f4 := free7 (hR6) 4
      have f5 := free7 (hR6) 5
      have f6 := free7 (hR6) 6
      replace hR6 := Hd hR6
      go_wp2_with fail
      have HC := Hd (set7_same (hR6.out) (.int .i64 3) (.slice none 0 0) (.string (baO f.t)) (.string (baO f.v)) (.string ⟨#[]⟩) (.string ⟨#[]⟩) (.slice none 0 0))
      have HL := Hd (set7_below (hB6.out) (Nat.le_refl _) (.int .i64 3) (.slice none 0 0) (.string (baO f.t)) (.string (baO f.v)) (.string ⟨#[]⟩) (.string ⟨#[]⟩) (.slice none 0 0))
      have HN := Hd (fun k (hk : k ≠ w.heap.size) => set7_other (w := w6) (b := w.heap.size) (.int .i64 3) (.slice none 0 0) (.string (baO f.t)) (.string (baO f.v)) (.string ⟨#[]⟩) (.string ⟨#[]⟩) (.slice none 0 0) hk)
      have HX : set7 w6 w.heap.size (.int .i64 3) (.slice none 0 0) (.string (baO f.t)) (.string (baO f.v)) (.string ⟨#[]⟩) (.string ⟨#[]⟩) (.slice none 0 0) = (((((((w6.setCell ⟨w.heap.size, 0, none⟩ (.int .i64 3)).setCell ⟨w.heap.size, 1, none⟩ (.slice none 0 0)).setCell ⟨w.heap.size, 2, none⟩ (.string (baO f.t))).setCell ⟨w.heap.size, 3, none⟩ (.string (baO f.v))).setCell ⟨w.heap.size, 4, none⟩ (.string ⟨#[]⟩)).setCell ⟨w.heap.size, 5, none⟩ (.string ⟨#[]⟩)).setCell ⟨w.heap.size, 6, none⟩ (.slice none 0 0)) := rfl
      rw [← HX]
      obtain ⟨W5, hW5⟩ : ∃ W5, W5 = set7 w6 w.heap.size (.int .i64 3) (.slice none 0 0) (.string (baO f.t)) (.string (baO f.v)) (.string ⟨#[]⟩) (.string ⟨#[]⟩) (.slice none 0 0) := ⟨_, rfl⟩
      rw [← hW5] at HC HL HN ⊢
      clear HX hW5 r0 r1 r2 r3 r4 r5 r6 f0 f1 f2 f3 f4 f5 f6
      obtain ⟨v0, v1, v2, v3, v4, v5, v6⟩ := cells7 HC.out
      exact bodyPost_ret (v := .agg #[.int .i64 3, .slice none 0 0, .string (baO f.t), .string (baO f.v), .string ⟨#[]⟩, .string ⟨#[]⟩, .slice none 0 0]) (by simp [results, Tryz.results113, go_sem, v0, v1, v2, v3, v4, v5, v6]) rfl (⟨none, 0, congrArg Ending.returned hfv.out, hsb.out _ _, HL.out⟩)
end Go.Proofs.YtcbiedonmibfaaaGreatDoor
