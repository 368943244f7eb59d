/-
  FrameBack: its walk.
-/
import Derived.Test.YtklpjdcmppohkaaDoorScansWalk
import Derived.Test.YtklpjdcmppohkaaDoorOpenRows
import Derived.Test.YtklpjdcmppohkaaDoorBackDat
namespace Go.Proofs.YtklpjdcmppohkaaDoor
open Go.RowKit

theorem cat_byte : ∀ (L : List (List Nat)), okL L → ∀ x ∈ cat L, x < 256
  | [], _, x, h => by cases h
  | l :: L, h, x, hx => by
    rw [cat_cons] at hx
    rcases List.mem_append.1 hx with hx | hx
    · exact sealP_byte l (h l (List.mem_cons_self ..)).2 x hx
    · exact cat_byte L (fun y hy => h y (List.mem_cons_of_mem _ hy)) x hx
theorem own_n {w : World} {base : Nat} {v : Value} {n : Nat} {l : List Nat} (h : w.ownsRow base 3 1 v n (cellsI l)) : OwnN w base v l := by
  have := h.1
  unfold cellsI at this
  rw [List.length_map, Nat.mul_one] at this
  subst this
  exact h

set_option maxRecDepth 8000 in
set_option maxHeartbeats 4000000 in
theorem back_nil (A : Option Addr) (cp : Nat) (at0 : Int) (w : World) (tab : Tab w) :
    Calls Tryd.prog 5 #[.slice A 0 cp, .int .i64 at0] w fun e w' => e = .returned (.bool true) ∧ Below w.heap.size w w' := by
  have C9 : Hid (∀ w', Below w.heap.size w w' → Calls Tryd.prog 15 #[.slice (some ⟨w'.heap.size, 0, none⟩) 9 9] (w'.alloc (.cells #[.int .u8 49, .int .u8 50, .int .u8 51, .int .u8 52, .int .u8 53, .int .u8 54, .int .u8 55, .int .u8 56, .int .u8 57] 5 (9, 10))) fun e w'' => e = .returned (.int .u32 3421780262) ∧ w'' = w'.alloc (.cells #[.int .u8 49, .int .u8 50, .int .u8 51, .int .u8 52, .int .u8 53, .int .u8 54, .int .u8 55, .int .u8 56, .int .u8 57] 5 (9, 10))) := Lib.hid fun w' hb => nine_sum w' (tab.below hb (Nat.le_refl _))
  have kc := fun (w : World) (C : Array Value) (n c : Nat) => Lib.run_convert_bytes_const (P := Tryd.prog) w 23 5 C n c Tryd.underlying23 Tryd.underlying5
  have CS : Hid (∀ w', Below w.heap.size w w' → Calls Tryd.prog 16 #[.slice none 0 0] w' fun e w'' => ∃ A2 c2, e = .returned (.tuple #[.slice A2 0 c2, .int .i64 0, .int .i64 0]) ∧ Below w'.heap.size w' w'') := Lib.hid fun w' hb => by
    have h1 := scan_any none 0 0 [] w' (Src.none_ _ _) rfl (by omega) (by omega) (by simp) (tab.below hb (Nat.le_refl _))
    rw [scanP_nil] at h1
    exact h1.mono fun e w'' ⟨A2, c2, h2, _, h3⟩ => ⟨A2, c2, h2, h3⟩
  have f1 : at0.tmod 1 = 0 := by simp
  have htab := Lib.hid tab
  clear tab
  go_enter Tryd.func5, Tryd.ntmps5
  go_wp2_with fail
  go_loopw [5, 6, 7] (fun av ev i wr => i = .int .i64 0 ∧ av = .slice none 0 0 ∧ ev = .slice (some ⟨w.heap.size, 0, none⟩) 1 1 ∧ wr = w.alloc (.cells #[.int .i64 0] 3)) (fun _ _ _ _ => 0)
  case atStart => exact ⟨rfl, rfl, rfl, rfl⟩
  case round =>
    obtain ⟨rfl, rfl, rfl, rfl⟩ := hrel
    have HB := Lib.hid ((Below.refl w.heap.size w).alloc (Nat.le_refl _) (.cells #[.int .i64 0] 3))
    have hz := HB.out.size
    go_wp2_with fail
    go_loop [11] (fun v => v = .int .i64 0) (fun _ => 0)
    case atStart => rfl
    case round =>
      obtain rfl := hrel
      go_wp2_with fail
      refine (CS.out _ HB.out).mono ?_
      rintro _ w6 ⟨A6, c6, rfl, hb6⟩
      have B6 := Lib.hid (HB.out.trans (hb6.mono hz))
      have hcj6 : w6.cell? ⟨w.heap.size, 0, none⟩ = some (.int .i64 0) := (hb6.cell (p := ⟨w.heap.size, 0, none⟩) (by simp)).trans (by simp)
      have hz6 := B6.out.size
      clear hb6
      dsimp only []
      go_wp2_with fail
      go_loop [16] (fun v => v = .int .i64 0) (fun _ => 0)
      case atStart => rfl
      case round =>
        obtain rfl := hrel
        go_wp2_with fail
        refine (C9.out w6 B6.out).mono ?_
        rintro _ w8 ⟨rfl, h8⟩
        subst w8
        dsimp only []
        go_wp2_with fail
        go_ret
        exact ⟨rfl, B6.out.alloc hz6 _⟩

set_option maxRecDepth 8000 in
set_option maxHeartbeats 4000000 in
theorem back_in (A : Option Addr) (cp : Nat) (n : Nat) (h0 : 0 < n) (h20 : n ≤ 20) (L : List (List Nat)) (at0 : Int) (w : World) (hr : RowA w w.heap.size A cp L) (hn : L.length = n) (tab : Tab w) :
    Calls Tryd.prog 5 #[.slice A n cp, .int .i64 at0] w fun e w' => e = .returned (.bool true) ∧ Below w.heap.size w w' := by
  have k0 : ¬ (20 < (n : Int)) := by omega
  have C9 : Hid (∀ w', Below w.heap.size w w' → Calls Tryd.prog 15 #[.slice (some ⟨w'.heap.size, 0, none⟩) 9 9] (w'.alloc (.cells #[.int .u8 49, .int .u8 50, .int .u8 51, .int .u8 52, .int .u8 53, .int .u8 54, .int .u8 55, .int .u8 56, .int .u8 57] 5 (9, 10))) fun e w'' => e = .returned (.int .u32 3421780262) ∧ w'' = w'.alloc (.cells #[.int .u8 49, .int .u8 50, .int .u8 51, .int .u8 52, .int .u8 53, .int .u8 54, .int .u8 55, .int .u8 56, .int .u8 57] 5 (9, 10))) := Lib.hid fun w' hb => nine_sum w' (tab.below hb (Nat.le_refl _))
  have kc := fun (w : World) (C : Array Value) (n c : Nat) => Lib.run_convert_bytes_const (P := Tryd.prog) w 23 5 C n c Tryd.underlying23 Tryd.underlying5
  have htab := Lib.hid tab
  clear tab
  replace hn := Lib.hid hn
  replace hr := Lib.hid hr
  go_enter Tryd.func5, Tryd.ntmps5
  go_wp2_with fail
  go_loopw [5, 6, 7] (fun av ev i wr => ∃ (k m : Nat) (A1 : Option Addr) (c1 g ce : Nat), k ≤ n ∧ m ≤ 508 * k ∧ i = .int .i64 (k : Int) ∧ av = .slice A1 m c1 ∧ ev = .slice (some ⟨g, 0, none⟩) (k + 1) ce ∧ Hid (m = off L k) ∧ Hid (Own wr w.heap.size (.slice A1 m c1) (cat (L.take k))) ∧ Hid (OwnN wr w.heap.size (.slice (some ⟨g, 0, none⟩) (k + 1) ce) ((List.range (k + 1)).map (off L))) ∧ Hid (Below w.heap.size w wr) ∧ Hid (okL (L.take k))) (fun _ _ i _ => n - (intOf i).toNat)
  case atStart => exact ⟨0, 0, none, 0, w.heap.size, 1, Nat.zero_le _, Nat.zero_le _, rfl, rfl, rfl, Lib.hid rfl, Lib.hid (World.ownsRow_nil _ _ 5 1), Lib.hid (OwnN.zero w), Lib.hid ((Below.refl _ _).alloc (Nat.le_refl _) _), Lib.hid (fun l hl => absurd hl (by simp))⟩
  case round =>
    obtain ⟨k, m, A1, c1, g, ce, hk, hmk, rfl, rfl, rfl, Hm, HO, HE, HB, HK⟩ := hrel
    have hz := HB.out.size
    by_cases hkn : k < n
    · have hkL : k < L.length := by rw [hn.out]; exact hkn
      obtain ⟨ad, Bk, ck, had, hadlt, hcell, hsk, hck, hbk⟩ := (hr.out.below HB.out).at_ k hkL
      subst had
      obtain ⟨rec, hrec⟩ : ∃ rec, rec = L[k] := ⟨_, rfl⟩
      rw [← hrec] at hcell hsk hbk
      obtain ⟨ln, hln⟩ : ∃ ln, ln = rec.length := ⟨_, rfl⟩
      rw [← hln] at hcell
      have i0 : (0 : Int) ≤ (k : Int) := by omega
      have i1 : (k : Int) < (n : Int) := by omega
      by_cases h500 : ln ≤ 500
      · have CS := seal_any Bk ck ln rec wr (hsk.more hz) hln.symm (by omega) hbk (htab.out.below HB.out (Nat.le_refl _))
        obtain ⟨n8, hn8⟩ : ∃ n8, n8 = ln + 8 := ⟨_, rfl⟩
        rw [← hn8] at CS
        replace CS := Lib.hid CS
        have hn8i : (n8 : Int) = (ln : Int) + 8 := by omega
        obtain ⟨m', hm'⟩ : ∃ m', m' = m + n8 := ⟨_, rfl⟩
        have hm'b : m' ≤ 508 * (k + 1) := by omega
        have hcat := Lib.hid (cat_succ L k hkL)
        rw [← hrec] at hcat
        have hXm : Hid ((cat (L.take k)).length = m) := Lib.hid Hm.out.symm
        have hSl : Hid ((sealP rec).length = n8) := Lib.hid (by rw [sealP_len, hn8, hln])
        have hoff : Hid (m' = off L (k + 1)) := Lib.hid (by rw [off_succ L k hkL, ← Hm.out, hm', hn8, hln, hrec])
        have hok' : Hid (okL (L.take (k + 1))) := Lib.hid (by
          rw [List.take_succ_eq_append_getElem hkL]
          intro l hl
          rcases List.mem_append.1 hl with hl | hl
          · exact HK.out l hl
          · have := List.mem_singleton.1 hl
            rw [this, ← hrec]
            exact ⟨by omega, hbk⟩)
        have hadlt' := Lib.hid hadlt
        replace hsk := Lib.hid hsk
        replace hbk := Lib.hid hbk
        replace hrec := Lib.hid hrec
        replace hln := Lib.hid hln
        replace hkL := Lib.hid hkL
        replace hm' := Lib.hid hm'
        replace hn8 := Lib.hid hn8
        clear hadlt
        go_wp2_with fail
        refine CS.out.mono ?_
        rintro _ w2 ⟨A2, c2, rfl, ho2, hb2⟩
        have hcell2 := (hb2.cell (p := ad.add k) (by rw [add_block]; exact Nat.lt_of_lt_of_le hadlt'.out hz)).trans hcell
        have S2 := Lib.hid ho2.src
        have B2 := Lib.hid (HB.out.trans (hb2.mono hz))
        have O2 := Lib.hid (HO.out.below hb2 (Nat.le_refl _))
        have E2 := Lib.hid (row_below HE.out hb2 (Nat.le_refl _))
        have hz2 := B2.out.size
        clear ho2 hb2
        dsimp only []
        go_wp2_with (first
          | (at_builtin; refine append_toB rfl (.tmp 56) (.tmp 57) rfl w.heap.size _ (cat (L.take k)) m hXm.out rfl O2.out w2.heap.size A2 c2 (sealP rec) n8 hSl.out rfl S2.out m' hm'.out.symm (by omega) hz2 ?_; intro A3 c3 w3 ho3 hb3 hf3; rw [← hcat.out] at ho3; have E3 := Lib.hid (World.ownsRow.alloc (row_far E2.out O2.out (by decide) hf3) (.cells #[.int .i64 (m' : Int)] 3)); have O3 := Lib.hid (ho3.alloc (.cells #[.int .i64 (m' : Int)] 3)); have B3 := Lib.hid (B2.out.trans hb3); have hz3 := B3.out.size; clear ho3 hb3 hf3)
          | (at_builtin; refine append_int rfl (.tmp 59) (.tmp 62) rfl w.heap.size m' _ ((List.range (k + 1)).map (off L)) (k + 1) (by simp) rfl (own_n E3.out) rfl (by omega) hz3 ?_; intro g4 c4 w4 ho4 hb4 hf4; have O4 := Lib.hid (row_far O3.out E3.out (by decide) hf4); have E4 := Lib.hid ho4; have B4 := Lib.hid ((B3.out.alloc hz3 _).trans hb4); clear ho4 hb4 hf4))
        go_round
        case rel => exact ⟨k + 1, m', A3, c3, g4, c4, hkn, hm'b, by go_num, rfl, rfl, hoff, Lib.hid O4.out, Lib.hid (by rw [List.range_succ, List.map_append, List.map_singleton, ← hoff.out]; exact E4.out), B4, hok'⟩
        case measure => simp [intOf]; omega
      · have h5 : (500 : Int) < (ln : Int) := by omega
        replace hrec := Lib.hid hrec
        replace hln := Lib.hid hln
        go_wp2_with fail
        go_ret
        exact ⟨rfl, HB.out⟩
    · have hkn' : k = n := by omega
      have hokL : Hid (okL L) := Lib.hid (by
        have := HK.out
        rwa [List.take_of_length_le (by rw [hn.out]; omega)] at this)
      have hXm : Hid ((cat (L.take k)).length = m) := Lib.hid Hm.out.symm
      have hXb : Hid (∀ x ∈ cat (L.take k), x < 256) := Lib.hid (cat_byte _ HK.out)
      have hmp : 8 ≤ m := by
        have h1 := off_mono L 1 k (by omega) (by rw [hn.out]; omega)
        rw [off_succ L 0 (by rw [hn.out]; omega), ← Hm.out] at h1
        omega
      obtain ⟨ga, rfl⟩ : ∃ ga, A1 = some ⟨ga, 0, none⟩ := by
        rcases HO.out.2 with ⟨_, h0⟩ | ⟨ga, cap, cur, hv, _⟩
        · have h9 := hXm.out
          omega
        · injection hv with hv
          exact ⟨ga, hv⟩
      have hcells : Hid (∀ j, j ≤ k → wr.cell? ⟨g, j, none⟩ = some (.int .i64 ((off L j : Nat) : Int))) := Lib.hid fun j hj => by
        obtain ⟨g', c', hv, hc⟩ := (own_n HE.out).form (by simp)
        injection hv with hv
        injection hv with hv
        injection hv with hv
        rw [hv]
        exact hc j _ (by rw [List.getElem?_map, List.getElem?_range (by omega)]; rfl)
      have hglt : Hid (g < wr.heap.size) := Lib.hid (World.block_lt_of_cell? wr ⟨g, 0, none⟩ (hcells.out 0 (Nat.zero_le _)))
      obtain ⟨t, ht⟩ : ∃ t, t = at0.tmod ((m : Int) + 1) := ⟨_, rfl⟩
      have ht1 : -((m : Int) + 1) < t ∧ t < (m : Int) + 1 := by
        rw [ht]
        have h1 := Int.tmod_lt_of_pos at0 (show (0 : Int) < (m : Int) + 1 by omega)
        have h2 := Int.tmod_lt_of_pos (-at0) (show (0 : Int) < (m : Int) + 1 by omega)
        rw [Int.neg_tmod] at h2
        exact ⟨by omega, h1⟩
      have f1 : at0.tmod ((m : Int) + 1) = t := ht.symm
      obtain ⟨d, hd⟩ : ∃ d : Nat, (t + ((m : Int) + 1)).tmod ((m : Int) + 1) = (d : Int) := ⟨((t + ((m : Int) + 1)).tmod ((m : Int) + 1)).toNat, by
        have := Int.tmod_nonneg ((m : Int) + 1) (show (0 : Int) ≤ t + ((m : Int) + 1) by omega)
        omega⟩
      have hd2 : d ≤ m := by
        have := Int.tmod_lt_of_pos (t + ((m : Int) + 1)) (show (0 : Int) < (m : Int) + 1 by omega)
        rw [hd] at this
        omega
      have hdm : Hid (d ≤ off L n) := Lib.hid (by rw [← hkn', ← Hm.out]; exact hd2)
      obtain ⟨ht1, ht2⟩ := ht1
      replace ht := Lib.hid ht
      replace hkn' := Lib.hid hkn'
      go_wp2_with fail
      go_loop [11] (fun v => ∃ j : Nat, j ≤ k ∧ v = .int .i64 (j : Int) ∧ off L j ≤ d) (fun v => k - (intOf v).toNat)
      case atStart => exact ⟨0, Nat.zero_le _, rfl, by rw [off_zero]; omega⟩
      case round =>
        obtain ⟨j, hj, rfl, hoj⟩ := hrel
        by_cases hjk : j < k
        · have hc1 := hcells.out (j + 1) (by omega)
          have j0 : (0 : Int) ≤ (j : Int) + 1 := by omega
          have j1 : (j : Int) + 1 < (k : Int) + 1 := by omega
          have j2 : ((j : Int) + 1).toNat = j + 1 := by omega
          by_cases hle : off L (j + 1) ≤ d
          · obtain ⟨o1, ho1⟩ : ∃ o1, o1 = off L (j + 1) := ⟨_, rfl⟩
            rw [← ho1] at hc1 hle
            have hle' : (o1 : Int) ≤ (d : Int) := by omega
            go_wp2_with fail
            go_round
            case rel => exact ⟨j + 1, by omega, by go_num, by rw [← ho1]; exact hle⟩
            case measure => simp [intOf]; omega
          · have hj2 : j = n ∨ d < off L (j + 1) := .inr (by omega)
            obtain ⟨o1, ho1⟩ : ∃ o1, o1 = off L (j + 1) := ⟨_, rfl⟩
            rw [← ho1] at hc1 hle
            have hle' : ¬ ((o1 : Int) ≤ (d : Int)) := by omega
            replace ho1 := Lib.hid ho1
            have hsc := Lib.hid (back_scan L d j hokL.out (by rw [hn.out]; omega) hoj (by rw [hn.out]; exact hj2) (by rw [← off_full, hn.out]; exact hdm.out))
            replace hj2 := Lib.hid hj2
            have hcj := hcells.out j hj
            obtain ⟨oj, hoje⟩ : ∃ oj, oj = off L j := ⟨_, rfl⟩
            rw [← hoje] at hoj hsc hcj
            replace hoje := Lib.hid hoje
            have jn0 : (0 : Int) ≤ (j : Int) := by omega
            have jn1 : (j : Int) < (k : Int) + 1 := by omega
            have HX := HO.out.src.take d
            have hcm : d ≤ c1 := by have := HO.out.src.le; rw [hXm.out] at this; omega
            have hcap1 := HO.out.cap
            have hlen : ((cat (L.take k)).take d).length = d := by rw [List.length_take, hXm.out]; omega
            have CS := scan_any (some ⟨ga, 0, none⟩) c1 d _ wr HX hlen (by omega) hcap1 (fun x hx => hXb.out x (List.mem_of_mem_take hx)) (htab.out.below HB.out (Nat.le_refl _))
            rw [show cat (L.take k) = cat L by rw [List.take_of_length_le (by rw [hn.out]; omega)], hsc.out] at CS
            simp only [show (L.take j).length = j by rw [List.length_take, hn.out]; omega] at CS
            replace CS := Lib.hid CS
            replace hlen := Lib.hid hlen
            clear HX
            have d0 : (0 : Int) ≤ (d : Int) := by omega
            have d1 : (d : Int) ≤ (c1 : Int) := by omega
            have hz := HB.out.size
            by_cases hod : oj = d
            · rw [if_pos hod] at CS
              subst hod
              go_wp2_with fail
              refine CS.out.mono ?_
              rintro _ w6 ⟨A6, c6, rfl, P6, hb6⟩
              have B6 := Lib.hid (HB.out.trans (hb6.mono hz))
              have hz6 := B6.out.size
              have hzr := hb6.size
              replace P6 := Lib.hid P6
              have hcj6 := (hb6.cell (p := ⟨g, j, none⟩) hglt.out).trans hcj
              clear hb6 hcj
              dsimp only []
              go_wp2_with fail
              go_loopw [16] (fun i wr => ∃ q : Nat, q ≤ j ∧ i = .int .i64 (q : Int) ∧ Hid (Below w6.heap.size w6 wr)) (fun i _ => j - (intOf i).toNat)
              case atStart => exact ⟨0, Nat.zero_le _, rfl, Lib.hid (Below.refl _ _)⟩
              case round =>
                obtain ⟨q, hq, rfl, HQ⟩ := hrel
                have B7 := Lib.hid (B6.out.trans (HQ.out.mono hz6))
                have hz7 := B7.out.size
                by_cases hqj : q < j
                · have hqn : q < L.length := by rw [hn.out]; omega
                  obtain ⟨ad, Bq, cq, had, hadlt, hcell, hsq, hcq, hbq⟩ := (hr.out.below B7.out).at_ q hqn
                  have Q1 := P6.out.below HQ.out (Nat.le_refl _) hzr
                  obtain ⟨A1', c1', e1, _, get1⟩ := Q1.form
                  have hqt : q < (L.take j).length := by rw [List.length_take, hn.out]; omega
                  obtain ⟨g1, B1', d1', f1, cell1, sr1⟩ := get1 q hqt
                  injection e1 with e11 e12 e13
                  subst e11
                  subst f1
                  subst had
                  have hel : (L.take j)[q] = L[q] := List.getElem_take
                  rw [hel] at cell1 sr1
                  have hz8 := HQ.out.size
                  have cv1 := fun y => ((sr1.src (Nat.le_trans hzr hz8)).below (below_drew wr y)).conv
                  have cv2 := fun y => ((hsq.more hz7).below (below_drew wr y)).conv
                  obtain ⟨rec, hrec⟩ : ∃ rec, rec = L[q] := ⟨_, rfl⟩
                  rw [← hrec] at cell1 hcell cv1 cv2
                  obtain ⟨rn, hrn⟩ : ∃ rn, rn = rec.length := ⟨_, rfl⟩
                  rw [← hrn] at cell1 hcell cv1 cv2
                  obtain ⟨sr, hsr⟩ : ∃ sr, sr = strB rec := ⟨_, rfl⟩
                  rw [← hsr] at cv1 cv2
                  replace hrec := Lib.hid hrec
                  replace hrn := Lib.hid hrn
                  replace hsr := Lib.hid hsr
                  clear Q1 get1 sr1 hsq hel hbq hcq hadlt
                  replace e12 := Lib.hid e12
                  replace e13 := Lib.hid e13
                  replace hqn := Lib.hid hqn
                  replace hqt := Lib.hid hqt
                  have i0 : (0 : Int) ≤ (q : Int) := by omega
                  have i1 : (q : Int) < (j : Int) := by omega
                  have i2 : (q : Int) < (n : Int) := by omega
                  go_wp2_with fail
                  go_quiet (fail)
                  go_wp2_with fail
                  exact ⟨⟨q + 1, by omega, by go_num, Lib.hid (HQ.out.trans (below_drew' HQ.out.size nq))⟩, by simp [intOf]; omega⟩
                · go_wp2_with fail
                  refine (C9.out wr B7.out).mono ?_
                  rintro _ w8 ⟨rfl, h8⟩
                  subst w8
                  dsimp only []
                  go_wp2_with fail
                  go_ret
                  exact ⟨rfl, B7.out.alloc hz7 _⟩
            · rw [if_neg hod] at CS
              have hod' : ((oj : Int) == (d : Int)) = false := by simp; omega
              go_wp2_with fail
              refine CS.out.mono ?_
              rintro _ w6 ⟨A6, c6, rfl, P6, hb6⟩
              have B6 := Lib.hid (HB.out.trans (hb6.mono hz))
              have hz6 := B6.out.size
              have hzr := hb6.size
              replace P6 := Lib.hid P6
              have hcj6 := (hb6.cell (p := ⟨g, j, none⟩) hglt.out).trans hcj
              clear hb6 hcj
              dsimp only []
              go_wp2_with fail
              go_loopw [16] (fun i wr => ∃ q : Nat, q ≤ j ∧ i = .int .i64 (q : Int) ∧ Hid (Below w6.heap.size w6 wr)) (fun i _ => j - (intOf i).toNat)
              case atStart => exact ⟨0, Nat.zero_le _, rfl, Lib.hid (Below.refl _ _)⟩
              case round =>
                obtain ⟨q, hq, rfl, HQ⟩ := hrel
                have B7 := Lib.hid (B6.out.trans (HQ.out.mono hz6))
                have hz7 := B7.out.size
                by_cases hqj : q < j
                · have hqn : q < L.length := by rw [hn.out]; omega
                  obtain ⟨ad, Bq, cq, had, hadlt, hcell, hsq, hcq, hbq⟩ := (hr.out.below B7.out).at_ q hqn
                  have Q1 := P6.out.below HQ.out (Nat.le_refl _) hzr
                  obtain ⟨A1', c1', e1, _, get1⟩ := Q1.form
                  have hqt : q < (L.take j).length := by rw [List.length_take, hn.out]; omega
                  obtain ⟨g1, B1', d1', f1, cell1, sr1⟩ := get1 q hqt
                  injection e1 with e11 e12 e13
                  subst e11
                  subst f1
                  subst had
                  have hel : (L.take j)[q] = L[q] := List.getElem_take
                  rw [hel] at cell1 sr1
                  have hz8 := HQ.out.size
                  have cv1 := fun y => ((sr1.src (Nat.le_trans hzr hz8)).below (below_drew wr y)).conv
                  have cv2 := fun y => ((hsq.more hz7).below (below_drew wr y)).conv
                  obtain ⟨rec, hrec⟩ : ∃ rec, rec = L[q] := ⟨_, rfl⟩
                  rw [← hrec] at cell1 hcell cv1 cv2
                  obtain ⟨rn, hrn⟩ : ∃ rn, rn = rec.length := ⟨_, rfl⟩
                  rw [← hrn] at cell1 hcell cv1 cv2
                  obtain ⟨sr, hsr⟩ : ∃ sr, sr = strB rec := ⟨_, rfl⟩
                  rw [← hsr] at cv1 cv2
                  replace hrec := Lib.hid hrec
                  replace hrn := Lib.hid hrn
                  replace hsr := Lib.hid hsr
                  clear Q1 get1 sr1 hsq hel hbq hcq hadlt
                  replace e12 := Lib.hid e12
                  replace e13 := Lib.hid e13
                  replace hqn := Lib.hid hqn
                  replace hqt := Lib.hid hqt
                  have i0 : (0 : Int) ≤ (q : Int) := by omega
                  have i1 : (q : Int) < (j : Int) := by omega
                  have i2 : (q : Int) < (n : Int) := by omega
                  go_wp2_with fail
                  go_quiet (fail)
                  go_wp2_with fail
                  exact ⟨⟨q + 1, by omega, by go_num, Lib.hid (HQ.out.trans (below_drew' HQ.out.size nq))⟩, by simp [intOf]; omega⟩
                · go_wp2_with fail
                  refine (C9.out wr B7.out).mono ?_
                  rintro _ w8 ⟨rfl, h8⟩
                  subst w8
                  dsimp only []
                  go_wp2_with fail
                  go_ret
                  exact ⟨rfl, B7.out.alloc hz7 _⟩
        · have hj2 : j = n ∨ d < off L (j + 1) := .inl (by omega)
          have j3 : ¬ ((j : Int) + 1 < (k : Int) + 1) := by omega
          have hsc := Lib.hid (back_scan L d j hokL.out (by rw [hn.out]; omega) hoj (by rw [hn.out]; exact hj2) (by rw [← off_full, hn.out]; exact hdm.out))
          replace hj2 := Lib.hid hj2
          have hcj := hcells.out j hj
          obtain ⟨oj, hoje⟩ : ∃ oj, oj = off L j := ⟨_, rfl⟩
          rw [← hoje] at hoj hsc hcj
          replace hoje := Lib.hid hoje
          have jn0 : (0 : Int) ≤ (j : Int) := by omega
          have jn1 : (j : Int) < (k : Int) + 1 := by omega
          have HX := HO.out.src.take d
          have hcm : d ≤ c1 := by have := HO.out.src.le; rw [hXm.out] at this; omega
          have hcap1 := HO.out.cap
          have hlen : ((cat (L.take k)).take d).length = d := by rw [List.length_take, hXm.out]; omega
          have CS := scan_any (some ⟨ga, 0, none⟩) c1 d _ wr HX hlen (by omega) hcap1 (fun x hx => hXb.out x (List.mem_of_mem_take hx)) (htab.out.below HB.out (Nat.le_refl _))
          rw [show cat (L.take k) = cat L by rw [List.take_of_length_le (by rw [hn.out]; omega)], hsc.out] at CS
          simp only [show (L.take j).length = j by rw [List.length_take, hn.out]; omega] at CS
          replace CS := Lib.hid CS
          replace hlen := Lib.hid hlen
          clear HX
          have d0 : (0 : Int) ≤ (d : Int) := by omega
          have d1 : (d : Int) ≤ (c1 : Int) := by omega
          have hz := HB.out.size
          by_cases hod : oj = d
          · rw [if_pos hod] at CS
            subst hod
            go_wp2_with fail
            refine CS.out.mono ?_
            rintro _ w6 ⟨A6, c6, rfl, P6, hb6⟩
            have B6 := Lib.hid (HB.out.trans (hb6.mono hz))
            have hz6 := B6.out.size
            have hzr := hb6.size
            replace P6 := Lib.hid P6
            have hcj6 := (hb6.cell (p := ⟨g, j, none⟩) hglt.out).trans hcj
            clear hb6 hcj
            dsimp only []
            go_wp2_with fail
            go_loopw [16] (fun i wr => ∃ q : Nat, q ≤ j ∧ i = .int .i64 (q : Int) ∧ Hid (Below w6.heap.size w6 wr)) (fun i _ => j - (intOf i).toNat)
            case atStart => exact ⟨0, Nat.zero_le _, rfl, Lib.hid (Below.refl _ _)⟩
            case round =>
              obtain ⟨q, hq, rfl, HQ⟩ := hrel
              have B7 := Lib.hid (B6.out.trans (HQ.out.mono hz6))
              have hz7 := B7.out.size
              by_cases hqj : q < j
              · have hqn : q < L.length := by rw [hn.out]; omega
                obtain ⟨ad, Bq, cq, had, hadlt, hcell, hsq, hcq, hbq⟩ := (hr.out.below B7.out).at_ q hqn
                have Q1 := P6.out.below HQ.out (Nat.le_refl _) hzr
                obtain ⟨A1', c1', e1, _, get1⟩ := Q1.form
                have hqt : q < (L.take j).length := by rw [List.length_take, hn.out]; omega
                obtain ⟨g1, B1', d1', f1, cell1, sr1⟩ := get1 q hqt
                injection e1 with e11 e12 e13
                subst e11
                subst f1
                subst had
                have hel : (L.take j)[q] = L[q] := List.getElem_take
                rw [hel] at cell1 sr1
                have hz8 := HQ.out.size
                have cv1 := fun y => ((sr1.src (Nat.le_trans hzr hz8)).below (below_drew wr y)).conv
                have cv2 := fun y => ((hsq.more hz7).below (below_drew wr y)).conv
                obtain ⟨rec, hrec⟩ : ∃ rec, rec = L[q] := ⟨_, rfl⟩
                rw [← hrec] at cell1 hcell cv1 cv2
                obtain ⟨rn, hrn⟩ : ∃ rn, rn = rec.length := ⟨_, rfl⟩
                rw [← hrn] at cell1 hcell cv1 cv2
                obtain ⟨sr, hsr⟩ : ∃ sr, sr = strB rec := ⟨_, rfl⟩
                rw [← hsr] at cv1 cv2
                replace hrec := Lib.hid hrec
                replace hrn := Lib.hid hrn
                replace hsr := Lib.hid hsr
                clear Q1 get1 sr1 hsq hel hbq hcq hadlt
                replace e12 := Lib.hid e12
                replace e13 := Lib.hid e13
                replace hqn := Lib.hid hqn
                replace hqt := Lib.hid hqt
                have i0 : (0 : Int) ≤ (q : Int) := by omega
                have i1 : (q : Int) < (j : Int) := by omega
                have i2 : (q : Int) < (n : Int) := by omega
                go_wp2_with fail
                go_quiet (fail)
                go_wp2_with fail
                exact ⟨⟨q + 1, by omega, by go_num, Lib.hid (HQ.out.trans (below_drew' HQ.out.size nq))⟩, by simp [intOf]; omega⟩
              · go_wp2_with fail
                refine (C9.out wr B7.out).mono ?_
                rintro _ w8 ⟨rfl, h8⟩
                subst w8
                dsimp only []
                go_wp2_with fail
                go_ret
                exact ⟨rfl, B7.out.alloc hz7 _⟩
          · rw [if_neg hod] at CS
            have hod' : ((oj : Int) == (d : Int)) = false := by simp; omega
            go_wp2_with fail
            refine CS.out.mono ?_
            rintro _ w6 ⟨A6, c6, rfl, P6, hb6⟩
            have B6 := Lib.hid (HB.out.trans (hb6.mono hz))
            have hz6 := B6.out.size
            have hzr := hb6.size
            replace P6 := Lib.hid P6
            have hcj6 := (hb6.cell (p := ⟨g, j, none⟩) hglt.out).trans hcj
            clear hb6 hcj
            dsimp only []
            go_wp2_with fail
            go_loopw [16] (fun i wr => ∃ q : Nat, q ≤ j ∧ i = .int .i64 (q : Int) ∧ Hid (Below w6.heap.size w6 wr)) (fun i _ => j - (intOf i).toNat)
            case atStart => exact ⟨0, Nat.zero_le _, rfl, Lib.hid (Below.refl _ _)⟩
            case round =>
              obtain ⟨q, hq, rfl, HQ⟩ := hrel
              have B7 := Lib.hid (B6.out.trans (HQ.out.mono hz6))
              have hz7 := B7.out.size
              by_cases hqj : q < j
              · have hqn : q < L.length := by rw [hn.out]; omega
                obtain ⟨ad, Bq, cq, had, hadlt, hcell, hsq, hcq, hbq⟩ := (hr.out.below B7.out).at_ q hqn
                have Q1 := P6.out.below HQ.out (Nat.le_refl _) hzr
                obtain ⟨A1', c1', e1, _, get1⟩ := Q1.form
                have hqt : q < (L.take j).length := by rw [List.length_take, hn.out]; omega
                obtain ⟨g1, B1', d1', f1, cell1, sr1⟩ := get1 q hqt
                injection e1 with e11 e12 e13
                subst e11
                subst f1
                subst had
                have hel : (L.take j)[q] = L[q] := List.getElem_take
                rw [hel] at cell1 sr1
                have hz8 := HQ.out.size
                have cv1 := fun y => ((sr1.src (Nat.le_trans hzr hz8)).below (below_drew wr y)).conv
                have cv2 := fun y => ((hsq.more hz7).below (below_drew wr y)).conv
                obtain ⟨rec, hrec⟩ : ∃ rec, rec = L[q] := ⟨_, rfl⟩
                rw [← hrec] at cell1 hcell cv1 cv2
                obtain ⟨rn, hrn⟩ : ∃ rn, rn = rec.length := ⟨_, rfl⟩
                rw [← hrn] at cell1 hcell cv1 cv2
                obtain ⟨sr, hsr⟩ : ∃ sr, sr = strB rec := ⟨_, rfl⟩
                rw [← hsr] at cv1 cv2
                replace hrec := Lib.hid hrec
                replace hrn := Lib.hid hrn
                replace hsr := Lib.hid hsr
                clear Q1 get1 sr1 hsq hel hbq hcq hadlt
                replace e12 := Lib.hid e12
                replace e13 := Lib.hid e13
                replace hqn := Lib.hid hqn
                replace hqt := Lib.hid hqt
                have i0 : (0 : Int) ≤ (q : Int) := by omega
                have i1 : (q : Int) < (j : Int) := by omega
                have i2 : (q : Int) < (n : Int) := by omega
                go_wp2_with fail
                go_quiet (fail)
                go_wp2_with fail
                exact ⟨⟨q + 1, by omega, by go_num, Lib.hid (HQ.out.trans (below_drew' HQ.out.size nq))⟩, by simp [intOf]; omega⟩
              · go_wp2_with fail
                refine (C9.out wr B7.out).mono ?_
                rintro _ w8 ⟨rfl, h8⟩
                subst w8
                dsimp only []
                go_wp2_with fail
                go_ret
                exact ⟨rfl, B7.out.alloc hz7 _⟩

set_option maxRecDepth 8000 in
set_option maxHeartbeats 4000000 in
theorem back_cut (A : Option Addr) (cp : Nat) (n0 : Nat) (h20 : 20 < n0) (h20c : n0 ≤ 140737488355328) (L : List (List Nat)) (at0 : Int) (w : World) (hr : RowA w w.heap.size A cp L) (hn : L.length = 20) (tab : Tab w) :
    Calls Tryd.prog 5 #[.slice A n0 cp, .int .i64 at0] w fun e w' => e = .returned (.bool true) ∧ Below w.heap.size w w' := by
  have k0 : 20 < (n0 : Int) := by omega
  have k1 : (20 : Int) ≤ (cp : Int) := by have := hr.le; omega
  have C9 : Hid (∀ w', Below w.heap.size w w' → Calls Tryd.prog 15 #[.slice (some ⟨w'.heap.size, 0, none⟩) 9 9] (w'.alloc (.cells #[.int .u8 49, .int .u8 50, .int .u8 51, .int .u8 52, .int .u8 53, .int .u8 54, .int .u8 55, .int .u8 56, .int .u8 57] 5 (9, 10))) fun e w'' => e = .returned (.int .u32 3421780262) ∧ w'' = w'.alloc (.cells #[.int .u8 49, .int .u8 50, .int .u8 51, .int .u8 52, .int .u8 53, .int .u8 54, .int .u8 55, .int .u8 56, .int .u8 57] 5 (9, 10))) := Lib.hid fun w' hb => nine_sum w' (tab.below hb (Nat.le_refl _))
  have kc := fun (w : World) (C : Array Value) (n c : Nat) => Lib.run_convert_bytes_const (P := Tryd.prog) w 23 5 C n c Tryd.underlying23 Tryd.underlying5
  have htab := Lib.hid tab
  clear tab
  replace hn := Lib.hid hn
  replace hr := Lib.hid hr
  go_enter Tryd.func5, Tryd.ntmps5
  go_wp2_with fail
  go_loopw [5, 6, 7] (fun av ev i wr => ∃ (k m : Nat) (A1 : Option Addr) (c1 g ce : Nat), k ≤ 20 ∧ m ≤ 508 * k ∧ i = .int .i64 (k : Int) ∧ av = .slice A1 m c1 ∧ ev = .slice (some ⟨g, 0, none⟩) (k + 1) ce ∧ Hid (m = off L k) ∧ Hid (Own wr w.heap.size (.slice A1 m c1) (cat (L.take k))) ∧ Hid (OwnN wr w.heap.size (.slice (some ⟨g, 0, none⟩) (k + 1) ce) ((List.range (k + 1)).map (off L))) ∧ Hid (Below w.heap.size w wr) ∧ Hid (okL (L.take k))) (fun _ _ i _ => 20 - (intOf i).toNat)
  case atStart => exact ⟨0, 0, none, 0, w.heap.size, 1, Nat.zero_le _, Nat.zero_le _, rfl, rfl, rfl, Lib.hid rfl, Lib.hid (World.ownsRow_nil _ _ 5 1), Lib.hid (OwnN.zero w), Lib.hid ((Below.refl _ _).alloc (Nat.le_refl _) _), Lib.hid (fun l hl => absurd hl (by simp))⟩
  case round =>
    obtain ⟨k, m, A1, c1, g, ce, hk, hmk, rfl, rfl, rfl, Hm, HO, HE, HB, HK⟩ := hrel
    have hz := HB.out.size
    by_cases hkn : k < 20
    · have hkL : k < L.length := by rw [hn.out]; exact hkn
      obtain ⟨ad, Bk, ck, had, hadlt, hcell, hsk, hck, hbk⟩ := (hr.out.below HB.out).at_ k hkL
      subst had
      obtain ⟨rec, hrec⟩ : ∃ rec, rec = L[k] := ⟨_, rfl⟩
      rw [← hrec] at hcell hsk hbk
      obtain ⟨ln, hln⟩ : ∃ ln, ln = rec.length := ⟨_, rfl⟩
      rw [← hln] at hcell
      have i0 : (0 : Int) ≤ (k : Int) := by omega
      have i1 : (k : Int) < (20 : Int) := by omega
      by_cases h500 : ln ≤ 500
      · have CS := seal_any Bk ck ln rec wr (hsk.more hz) hln.symm (by omega) hbk (htab.out.below HB.out (Nat.le_refl _))
        obtain ⟨n8, hn8⟩ : ∃ n8, n8 = ln + 8 := ⟨_, rfl⟩
        rw [← hn8] at CS
        replace CS := Lib.hid CS
        have hn8i : (n8 : Int) = (ln : Int) + 8 := by omega
        obtain ⟨m', hm'⟩ : ∃ m', m' = m + n8 := ⟨_, rfl⟩
        have hm'b : m' ≤ 508 * (k + 1) := by omega
        have hcat := Lib.hid (cat_succ L k hkL)
        rw [← hrec] at hcat
        have hXm : Hid ((cat (L.take k)).length = m) := Lib.hid Hm.out.symm
        have hSl : Hid ((sealP rec).length = n8) := Lib.hid (by rw [sealP_len, hn8, hln])
        have hoff : Hid (m' = off L (k + 1)) := Lib.hid (by rw [off_succ L k hkL, ← Hm.out, hm', hn8, hln, hrec])
        have hok' : Hid (okL (L.take (k + 1))) := Lib.hid (by
          rw [List.take_succ_eq_append_getElem hkL]
          intro l hl
          rcases List.mem_append.1 hl with hl | hl
          · exact HK.out l hl
          · have := List.mem_singleton.1 hl
            rw [this, ← hrec]
            exact ⟨by omega, hbk⟩)
        have hadlt' := Lib.hid hadlt
        replace hsk := Lib.hid hsk
        replace hbk := Lib.hid hbk
        replace hrec := Lib.hid hrec
        replace hln := Lib.hid hln
        replace hkL := Lib.hid hkL
        replace hm' := Lib.hid hm'
        replace hn8 := Lib.hid hn8
        clear hadlt
        go_wp2_with fail
        refine CS.out.mono ?_
        rintro _ w2 ⟨A2, c2, rfl, ho2, hb2⟩
        have hcell2 := (hb2.cell (p := ad.add k) (by rw [add_block]; exact Nat.lt_of_lt_of_le hadlt'.out hz)).trans hcell
        have S2 := Lib.hid ho2.src
        have B2 := Lib.hid (HB.out.trans (hb2.mono hz))
        have O2 := Lib.hid (HO.out.below hb2 (Nat.le_refl _))
        have E2 := Lib.hid (row_below HE.out hb2 (Nat.le_refl _))
        have hz2 := B2.out.size
        clear ho2 hb2
        dsimp only []
        go_wp2_with (first
          | (at_builtin; refine append_toB rfl (.tmp 56) (.tmp 57) rfl w.heap.size _ (cat (L.take k)) m hXm.out rfl O2.out w2.heap.size A2 c2 (sealP rec) n8 hSl.out rfl S2.out m' hm'.out.symm (by omega) hz2 ?_; intro A3 c3 w3 ho3 hb3 hf3; rw [← hcat.out] at ho3; have E3 := Lib.hid (World.ownsRow.alloc (row_far E2.out O2.out (by decide) hf3) (.cells #[.int .i64 (m' : Int)] 3)); have O3 := Lib.hid (ho3.alloc (.cells #[.int .i64 (m' : Int)] 3)); have B3 := Lib.hid (B2.out.trans hb3); have hz3 := B3.out.size; clear ho3 hb3 hf3)
          | (at_builtin; refine append_int rfl (.tmp 59) (.tmp 62) rfl w.heap.size m' _ ((List.range (k + 1)).map (off L)) (k + 1) (by simp) rfl (own_n E3.out) rfl (by omega) hz3 ?_; intro g4 c4 w4 ho4 hb4 hf4; have O4 := Lib.hid (row_far O3.out E3.out (by decide) hf4); have E4 := Lib.hid ho4; have B4 := Lib.hid ((B3.out.alloc hz3 _).trans hb4); clear ho4 hb4 hf4))
        go_round
        case rel => exact ⟨k + 1, m', A3, c3, g4, c4, hkn, hm'b, by go_num, rfl, rfl, hoff, Lib.hid O4.out, Lib.hid (by rw [List.range_succ, List.map_append, List.map_singleton, ← hoff.out]; exact E4.out), B4, hok'⟩
        case measure => simp [intOf]; omega
      · have h5 : (500 : Int) < (ln : Int) := by omega
        replace hrec := Lib.hid hrec
        replace hln := Lib.hid hln
        go_wp2_with fail
        go_ret
        exact ⟨rfl, HB.out⟩
    · have hkn' : k = 20 := by omega
      have hokL : Hid (okL L) := Lib.hid (by
        have := HK.out
        rwa [List.take_of_length_le (by rw [hn.out]; omega)] at this)
      have hXm : Hid ((cat (L.take k)).length = m) := Lib.hid Hm.out.symm
      have hXb : Hid (∀ x ∈ cat (L.take k), x < 256) := Lib.hid (cat_byte _ HK.out)
      have hmp : 8 ≤ m := by
        have h1 := off_mono L 1 k (by omega) (by rw [hn.out]; omega)
        rw [off_succ L 0 (by rw [hn.out]; omega), ← Hm.out] at h1
        omega
      obtain ⟨ga, rfl⟩ : ∃ ga, A1 = some ⟨ga, 0, none⟩ := by
        rcases HO.out.2 with ⟨_, h0⟩ | ⟨ga, cap, cur, hv, _⟩
        · have h9 := hXm.out
          omega
        · injection hv with hv
          exact ⟨ga, hv⟩
      have hcells : Hid (∀ j, j ≤ k → wr.cell? ⟨g, j, none⟩ = some (.int .i64 ((off L j : Nat) : Int))) := Lib.hid fun j hj => by
        obtain ⟨g', c', hv, hc⟩ := (own_n HE.out).form (by simp)
        injection hv with hv
        injection hv with hv
        injection hv with hv
        rw [hv]
        exact hc j _ (by rw [List.getElem?_map, List.getElem?_range (by omega)]; rfl)
      have hglt : Hid (g < wr.heap.size) := Lib.hid (World.block_lt_of_cell? wr ⟨g, 0, none⟩ (hcells.out 0 (Nat.zero_le _)))
      obtain ⟨t, ht⟩ : ∃ t, t = at0.tmod ((m : Int) + 1) := ⟨_, rfl⟩
      have ht1 : -((m : Int) + 1) < t ∧ t < (m : Int) + 1 := by
        rw [ht]
        have h1 := Int.tmod_lt_of_pos at0 (show (0 : Int) < (m : Int) + 1 by omega)
        have h2 := Int.tmod_lt_of_pos (-at0) (show (0 : Int) < (m : Int) + 1 by omega)
        rw [Int.neg_tmod] at h2
        exact ⟨by omega, h1⟩
      have f1 : at0.tmod ((m : Int) + 1) = t := ht.symm
      obtain ⟨d, hd⟩ : ∃ d : Nat, (t + ((m : Int) + 1)).tmod ((m : Int) + 1) = (d : Int) := ⟨((t + ((m : Int) + 1)).tmod ((m : Int) + 1)).toNat, by
        have := Int.tmod_nonneg ((m : Int) + 1) (show (0 : Int) ≤ t + ((m : Int) + 1) by omega)
        omega⟩
      have hd2 : d ≤ m := by
        have := Int.tmod_lt_of_pos (t + ((m : Int) + 1)) (show (0 : Int) < (m : Int) + 1 by omega)
        rw [hd] at this
        omega
      have hdm : Hid (d ≤ off L 20) := Lib.hid (by rw [← hkn', ← Hm.out]; exact hd2)
      obtain ⟨ht1, ht2⟩ := ht1
      replace ht := Lib.hid ht
      replace hkn' := Lib.hid hkn'
      go_wp2_with fail
      go_loop [11] (fun v => ∃ j : Nat, j ≤ k ∧ v = .int .i64 (j : Int) ∧ off L j ≤ d) (fun v => k - (intOf v).toNat)
      case atStart => exact ⟨0, Nat.zero_le _, rfl, by rw [off_zero]; omega⟩
      case round =>
        obtain ⟨j, hj, rfl, hoj⟩ := hrel
        by_cases hjk : j < k
        · have hc1 := hcells.out (j + 1) (by omega)
          have j0 : (0 : Int) ≤ (j : Int) + 1 := by omega
          have j1 : (j : Int) + 1 < (k : Int) + 1 := by omega
          have j2 : ((j : Int) + 1).toNat = j + 1 := by omega
          by_cases hle : off L (j + 1) ≤ d
          · obtain ⟨o1, ho1⟩ : ∃ o1, o1 = off L (j + 1) := ⟨_, rfl⟩
            rw [← ho1] at hc1 hle
            have hle' : (o1 : Int) ≤ (d : Int) := by omega
            go_wp2_with fail
            go_round
            case rel => exact ⟨j + 1, by omega, by go_num, by rw [← ho1]; exact hle⟩
            case measure => simp [intOf]; omega
          · have hj2 : j = 20 ∨ d < off L (j + 1) := .inr (by omega)
            obtain ⟨o1, ho1⟩ : ∃ o1, o1 = off L (j + 1) := ⟨_, rfl⟩
            rw [← ho1] at hc1 hle
            have hle' : ¬ ((o1 : Int) ≤ (d : Int)) := by omega
            replace ho1 := Lib.hid ho1
            have hsc := Lib.hid (back_scan L d j hokL.out (by rw [hn.out]; omega) hoj (by rw [hn.out]; exact hj2) (by rw [← off_full, hn.out]; exact hdm.out))
            replace hj2 := Lib.hid hj2
            have hcj := hcells.out j hj
            obtain ⟨oj, hoje⟩ : ∃ oj, oj = off L j := ⟨_, rfl⟩
            rw [← hoje] at hoj hsc hcj
            replace hoje := Lib.hid hoje
            have jn0 : (0 : Int) ≤ (j : Int) := by omega
            have jn1 : (j : Int) < (k : Int) + 1 := by omega
            have HX := HO.out.src.take d
            have hcm : d ≤ c1 := by have := HO.out.src.le; rw [hXm.out] at this; omega
            have hcap1 := HO.out.cap
            have hlen : ((cat (L.take k)).take d).length = d := by rw [List.length_take, hXm.out]; omega
            have CS := scan_any (some ⟨ga, 0, none⟩) c1 d _ wr HX hlen (by omega) hcap1 (fun x hx => hXb.out x (List.mem_of_mem_take hx)) (htab.out.below HB.out (Nat.le_refl _))
            rw [show cat (L.take k) = cat L by rw [List.take_of_length_le (by rw [hn.out]; omega)], hsc.out] at CS
            simp only [show (L.take j).length = j by rw [List.length_take, hn.out]; omega] at CS
            replace CS := Lib.hid CS
            replace hlen := Lib.hid hlen
            clear HX
            have d0 : (0 : Int) ≤ (d : Int) := by omega
            have d1 : (d : Int) ≤ (c1 : Int) := by omega
            have hz := HB.out.size
            by_cases hod : oj = d
            · rw [if_pos hod] at CS
              subst hod
              go_wp2_with fail
              refine CS.out.mono ?_
              rintro _ w6 ⟨A6, c6, rfl, P6, hb6⟩
              have B6 := Lib.hid (HB.out.trans (hb6.mono hz))
              have hz6 := B6.out.size
              have hzr := hb6.size
              replace P6 := Lib.hid P6
              have hcj6 := (hb6.cell (p := ⟨g, j, none⟩) hglt.out).trans hcj
              clear hb6 hcj
              dsimp only []
              go_wp2_with fail
              go_loopw [16] (fun i wr => ∃ q : Nat, q ≤ j ∧ i = .int .i64 (q : Int) ∧ Hid (Below w6.heap.size w6 wr)) (fun i _ => j - (intOf i).toNat)
              case atStart => exact ⟨0, Nat.zero_le _, rfl, Lib.hid (Below.refl _ _)⟩
              case round =>
                obtain ⟨q, hq, rfl, HQ⟩ := hrel
                have B7 := Lib.hid (B6.out.trans (HQ.out.mono hz6))
                have hz7 := B7.out.size
                by_cases hqj : q < j
                · have hqn : q < L.length := by rw [hn.out]; omega
                  obtain ⟨ad, Bq, cq, had, hadlt, hcell, hsq, hcq, hbq⟩ := (hr.out.below B7.out).at_ q hqn
                  have Q1 := P6.out.below HQ.out (Nat.le_refl _) hzr
                  obtain ⟨A1', c1', e1, _, get1⟩ := Q1.form
                  have hqt : q < (L.take j).length := by rw [List.length_take, hn.out]; omega
                  obtain ⟨g1, B1', d1', f1, cell1, sr1⟩ := get1 q hqt
                  injection e1 with e11 e12 e13
                  subst e11
                  subst f1
                  subst had
                  have hel : (L.take j)[q] = L[q] := List.getElem_take
                  rw [hel] at cell1 sr1
                  have hz8 := HQ.out.size
                  have cv1 := fun y => ((sr1.src (Nat.le_trans hzr hz8)).below (below_drew wr y)).conv
                  have cv2 := fun y => ((hsq.more hz7).below (below_drew wr y)).conv
                  obtain ⟨rec, hrec⟩ : ∃ rec, rec = L[q] := ⟨_, rfl⟩
                  rw [← hrec] at cell1 hcell cv1 cv2
                  obtain ⟨rn, hrn⟩ : ∃ rn, rn = rec.length := ⟨_, rfl⟩
                  rw [← hrn] at cell1 hcell cv1 cv2
                  obtain ⟨sr, hsr⟩ : ∃ sr, sr = strB rec := ⟨_, rfl⟩
                  rw [← hsr] at cv1 cv2
                  replace hrec := Lib.hid hrec
                  replace hrn := Lib.hid hrn
                  replace hsr := Lib.hid hsr
                  clear Q1 get1 sr1 hsq hel hbq hcq hadlt
                  replace e12 := Lib.hid e12
                  replace e13 := Lib.hid e13
                  replace hqn := Lib.hid hqn
                  replace hqt := Lib.hid hqt
                  have i0 : (0 : Int) ≤ (q : Int) := by omega
                  have i1 : (q : Int) < (j : Int) := by omega
                  have i2 : (q : Int) < (20 : Int) := by omega
                  go_wp2_with fail
                  go_quiet (fail)
                  go_wp2_with fail
                  exact ⟨⟨q + 1, by omega, by go_num, Lib.hid (HQ.out.trans (below_drew' HQ.out.size nq))⟩, by simp [intOf]; omega⟩
                · go_wp2_with fail
                  refine (C9.out wr B7.out).mono ?_
                  rintro _ w8 ⟨rfl, h8⟩
                  subst w8
                  dsimp only []
                  go_wp2_with fail
                  go_ret
                  exact ⟨rfl, B7.out.alloc hz7 _⟩
            · rw [if_neg hod] at CS
              have hod' : ((oj : Int) == (d : Int)) = false := by simp; omega
              go_wp2_with fail
              refine CS.out.mono ?_
              rintro _ w6 ⟨A6, c6, rfl, P6, hb6⟩
              have B6 := Lib.hid (HB.out.trans (hb6.mono hz))
              have hz6 := B6.out.size
              have hzr := hb6.size
              replace P6 := Lib.hid P6
              have hcj6 := (hb6.cell (p := ⟨g, j, none⟩) hglt.out).trans hcj
              clear hb6 hcj
              dsimp only []
              go_wp2_with fail
              go_loopw [16] (fun i wr => ∃ q : Nat, q ≤ j ∧ i = .int .i64 (q : Int) ∧ Hid (Below w6.heap.size w6 wr)) (fun i _ => j - (intOf i).toNat)
              case atStart => exact ⟨0, Nat.zero_le _, rfl, Lib.hid (Below.refl _ _)⟩
              case round =>
                obtain ⟨q, hq, rfl, HQ⟩ := hrel
                have B7 := Lib.hid (B6.out.trans (HQ.out.mono hz6))
                have hz7 := B7.out.size
                by_cases hqj : q < j
                · have hqn : q < L.length := by rw [hn.out]; omega
                  obtain ⟨ad, Bq, cq, had, hadlt, hcell, hsq, hcq, hbq⟩ := (hr.out.below B7.out).at_ q hqn
                  have Q1 := P6.out.below HQ.out (Nat.le_refl _) hzr
                  obtain ⟨A1', c1', e1, _, get1⟩ := Q1.form
                  have hqt : q < (L.take j).length := by rw [List.length_take, hn.out]; omega
                  obtain ⟨g1, B1', d1', f1, cell1, sr1⟩ := get1 q hqt
                  injection e1 with e11 e12 e13
                  subst e11
                  subst f1
                  subst had
                  have hel : (L.take j)[q] = L[q] := List.getElem_take
                  rw [hel] at cell1 sr1
                  have hz8 := HQ.out.size
                  have cv1 := fun y => ((sr1.src (Nat.le_trans hzr hz8)).below (below_drew wr y)).conv
                  have cv2 := fun y => ((hsq.more hz7).below (below_drew wr y)).conv
                  obtain ⟨rec, hrec⟩ : ∃ rec, rec = L[q] := ⟨_, rfl⟩
                  rw [← hrec] at cell1 hcell cv1 cv2
                  obtain ⟨rn, hrn⟩ : ∃ rn, rn = rec.length := ⟨_, rfl⟩
                  rw [← hrn] at cell1 hcell cv1 cv2
                  obtain ⟨sr, hsr⟩ : ∃ sr, sr = strB rec := ⟨_, rfl⟩
                  rw [← hsr] at cv1 cv2
                  replace hrec := Lib.hid hrec
                  replace hrn := Lib.hid hrn
                  replace hsr := Lib.hid hsr
                  clear Q1 get1 sr1 hsq hel hbq hcq hadlt
                  replace e12 := Lib.hid e12
                  replace e13 := Lib.hid e13
                  replace hqn := Lib.hid hqn
                  replace hqt := Lib.hid hqt
                  have i0 : (0 : Int) ≤ (q : Int) := by omega
                  have i1 : (q : Int) < (j : Int) := by omega
                  have i2 : (q : Int) < (20 : Int) := by omega
                  go_wp2_with fail
                  go_quiet (fail)
                  go_wp2_with fail
                  exact ⟨⟨q + 1, by omega, by go_num, Lib.hid (HQ.out.trans (below_drew' HQ.out.size nq))⟩, by simp [intOf]; omega⟩
                · go_wp2_with fail
                  refine (C9.out wr B7.out).mono ?_
                  rintro _ w8 ⟨rfl, h8⟩
                  subst w8
                  dsimp only []
                  go_wp2_with fail
                  go_ret
                  exact ⟨rfl, B7.out.alloc hz7 _⟩
        · have hj2 : j = 20 ∨ d < off L (j + 1) := .inl (by omega)
          have j3 : ¬ ((j : Int) + 1 < (k : Int) + 1) := by omega
          have hsc := Lib.hid (back_scan L d j hokL.out (by rw [hn.out]; omega) hoj (by rw [hn.out]; exact hj2) (by rw [← off_full, hn.out]; exact hdm.out))
          replace hj2 := Lib.hid hj2
          have hcj := hcells.out j hj
          obtain ⟨oj, hoje⟩ : ∃ oj, oj = off L j := ⟨_, rfl⟩
          rw [← hoje] at hoj hsc hcj
          replace hoje := Lib.hid hoje
          have jn0 : (0 : Int) ≤ (j : Int) := by omega
          have jn1 : (j : Int) < (k : Int) + 1 := by omega
          have HX := HO.out.src.take d
          have hcm : d ≤ c1 := by have := HO.out.src.le; rw [hXm.out] at this; omega
          have hcap1 := HO.out.cap
          have hlen : ((cat (L.take k)).take d).length = d := by rw [List.length_take, hXm.out]; omega
          have CS := scan_any (some ⟨ga, 0, none⟩) c1 d _ wr HX hlen (by omega) hcap1 (fun x hx => hXb.out x (List.mem_of_mem_take hx)) (htab.out.below HB.out (Nat.le_refl _))
          rw [show cat (L.take k) = cat L by rw [List.take_of_length_le (by rw [hn.out]; omega)], hsc.out] at CS
          simp only [show (L.take j).length = j by rw [List.length_take, hn.out]; omega] at CS
          replace CS := Lib.hid CS
          replace hlen := Lib.hid hlen
          clear HX
          have d0 : (0 : Int) ≤ (d : Int) := by omega
          have d1 : (d : Int) ≤ (c1 : Int) := by omega
          have hz := HB.out.size
          by_cases hod : oj = d
          · rw [if_pos hod] at CS
            subst hod
            go_wp2_with fail
            refine CS.out.mono ?_
            rintro _ w6 ⟨A6, c6, rfl, P6, hb6⟩
            have B6 := Lib.hid (HB.out.trans (hb6.mono hz))
            have hz6 := B6.out.size
            have hzr := hb6.size
            replace P6 := Lib.hid P6
            have hcj6 := (hb6.cell (p := ⟨g, j, none⟩) hglt.out).trans hcj
            clear hb6 hcj
            dsimp only []
            go_wp2_with fail
            go_loopw [16] (fun i wr => ∃ q : Nat, q ≤ j ∧ i = .int .i64 (q : Int) ∧ Hid (Below w6.heap.size w6 wr)) (fun i _ => j - (intOf i).toNat)
            case atStart => exact ⟨0, Nat.zero_le _, rfl, Lib.hid (Below.refl _ _)⟩
            case round =>
              obtain ⟨q, hq, rfl, HQ⟩ := hrel
              have B7 := Lib.hid (B6.out.trans (HQ.out.mono hz6))
              have hz7 := B7.out.size
              by_cases hqj : q < j
              · have hqn : q < L.length := by rw [hn.out]; omega
                obtain ⟨ad, Bq, cq, had, hadlt, hcell, hsq, hcq, hbq⟩ := (hr.out.below B7.out).at_ q hqn
                have Q1 := P6.out.below HQ.out (Nat.le_refl _) hzr
                obtain ⟨A1', c1', e1, _, get1⟩ := Q1.form
                have hqt : q < (L.take j).length := by rw [List.length_take, hn.out]; omega
                obtain ⟨g1, B1', d1', f1, cell1, sr1⟩ := get1 q hqt
                injection e1 with e11 e12 e13
                subst e11
                subst f1
                subst had
                have hel : (L.take j)[q] = L[q] := List.getElem_take
                rw [hel] at cell1 sr1
                have hz8 := HQ.out.size
                have cv1 := fun y => ((sr1.src (Nat.le_trans hzr hz8)).below (below_drew wr y)).conv
                have cv2 := fun y => ((hsq.more hz7).below (below_drew wr y)).conv
                obtain ⟨rec, hrec⟩ : ∃ rec, rec = L[q] := ⟨_, rfl⟩
                rw [← hrec] at cell1 hcell cv1 cv2
                obtain ⟨rn, hrn⟩ : ∃ rn, rn = rec.length := ⟨_, rfl⟩
                rw [← hrn] at cell1 hcell cv1 cv2
                obtain ⟨sr, hsr⟩ : ∃ sr, sr = strB rec := ⟨_, rfl⟩
                rw [← hsr] at cv1 cv2
                replace hrec := Lib.hid hrec
                replace hrn := Lib.hid hrn
                replace hsr := Lib.hid hsr
                clear Q1 get1 sr1 hsq hel hbq hcq hadlt
                replace e12 := Lib.hid e12
                replace e13 := Lib.hid e13
                replace hqn := Lib.hid hqn
                replace hqt := Lib.hid hqt
                have i0 : (0 : Int) ≤ (q : Int) := by omega
                have i1 : (q : Int) < (j : Int) := by omega
                have i2 : (q : Int) < (20 : Int) := by omega
                go_wp2_with fail
                go_quiet (fail)
                go_wp2_with fail
                exact ⟨⟨q + 1, by omega, by go_num, Lib.hid (HQ.out.trans (below_drew' HQ.out.size nq))⟩, by simp [intOf]; omega⟩
              · go_wp2_with fail
                refine (C9.out wr B7.out).mono ?_
                rintro _ w8 ⟨rfl, h8⟩
                subst w8
                dsimp only []
                go_wp2_with fail
                go_ret
                exact ⟨rfl, B7.out.alloc hz7 _⟩
          · rw [if_neg hod] at CS
            have hod' : ((oj : Int) == (d : Int)) = false := by simp; omega
            go_wp2_with fail
            refine CS.out.mono ?_
            rintro _ w6 ⟨A6, c6, rfl, P6, hb6⟩
            have B6 := Lib.hid (HB.out.trans (hb6.mono hz))
            have hz6 := B6.out.size
            have hzr := hb6.size
            replace P6 := Lib.hid P6
            have hcj6 := (hb6.cell (p := ⟨g, j, none⟩) hglt.out).trans hcj
            clear hb6 hcj
            dsimp only []
            go_wp2_with fail
            go_loopw [16] (fun i wr => ∃ q : Nat, q ≤ j ∧ i = .int .i64 (q : Int) ∧ Hid (Below w6.heap.size w6 wr)) (fun i _ => j - (intOf i).toNat)
            case atStart => exact ⟨0, Nat.zero_le _, rfl, Lib.hid (Below.refl _ _)⟩
            case round =>
              obtain ⟨q, hq, rfl, HQ⟩ := hrel
              have B7 := Lib.hid (B6.out.trans (HQ.out.mono hz6))
              have hz7 := B7.out.size
              by_cases hqj : q < j
              · have hqn : q < L.length := by rw [hn.out]; omega
                obtain ⟨ad, Bq, cq, had, hadlt, hcell, hsq, hcq, hbq⟩ := (hr.out.below B7.out).at_ q hqn
                have Q1 := P6.out.below HQ.out (Nat.le_refl _) hzr
                obtain ⟨A1', c1', e1, _, get1⟩ := Q1.form
                have hqt : q < (L.take j).length := by rw [List.length_take, hn.out]; omega
                obtain ⟨g1, B1', d1', f1, cell1, sr1⟩ := get1 q hqt
                injection e1 with e11 e12 e13
                subst e11
                subst f1
                subst had
                have hel : (L.take j)[q] = L[q] := List.getElem_take
                rw [hel] at cell1 sr1
                have hz8 := HQ.out.size
                have cv1 := fun y => ((sr1.src (Nat.le_trans hzr hz8)).below (below_drew wr y)).conv
                have cv2 := fun y => ((hsq.more hz7).below (below_drew wr y)).conv
                obtain ⟨rec, hrec⟩ : ∃ rec, rec = L[q] := ⟨_, rfl⟩
                rw [← hrec] at cell1 hcell cv1 cv2
                obtain ⟨rn, hrn⟩ : ∃ rn, rn = rec.length := ⟨_, rfl⟩
                rw [← hrn] at cell1 hcell cv1 cv2
                obtain ⟨sr, hsr⟩ : ∃ sr, sr = strB rec := ⟨_, rfl⟩
                rw [← hsr] at cv1 cv2
                replace hrec := Lib.hid hrec
                replace hrn := Lib.hid hrn
                replace hsr := Lib.hid hsr
                clear Q1 get1 sr1 hsq hel hbq hcq hadlt
                replace e12 := Lib.hid e12
                replace e13 := Lib.hid e13
                replace hqn := Lib.hid hqn
                replace hqt := Lib.hid hqt
                have i0 : (0 : Int) ≤ (q : Int) := by omega
                have i1 : (q : Int) < (j : Int) := by omega
                have i2 : (q : Int) < (20 : Int) := by omega
                go_wp2_with fail
                go_quiet (fail)
                go_wp2_with fail
                exact ⟨⟨q + 1, by omega, by go_num, Lib.hid (HQ.out.trans (below_drew' HQ.out.size nq))⟩, by simp [intOf]; omega⟩
              · go_wp2_with fail
                refine (C9.out wr B7.out).mono ?_
                rintro _ w8 ⟨rfl, h8⟩
                subst w8
                dsimp only []
                go_wp2_with fail
                go_ret
                exact ⟨rfl, B7.out.alloc hz7 _⟩

theorem back_walk (A : Option Addr) (cp : Nat) (L : List (List Nat)) (at0 : Int) (w : World) (hr : RowA w w.heap.size A cp L) (hcp : cp ≤ 140737488355328) (tab : Tab w) :
    Calls Tryd.prog 5 #[.slice A L.length cp, .int .i64 at0] w fun e w' => e = .returned (.bool true) ∧ Below w.heap.size w w' := by
  have := hr.le
  by_cases h : L.length ≤ 20
  · by_cases h0 : L.length = 0
    · rw [h0]
      exact back_nil A cp at0 w tab
    · exact back_in A cp L.length (by omega) h L at0 w hr rfl tab
  · exact back_cut A cp L.length (by omega) (by omega) (L.take 20) at0 w (hr.take 20) (by rw [List.length_take]; omega) tab
end Go.Proofs.YtklpjdcmppohkaaDoor
