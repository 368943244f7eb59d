/-
  FrameRows: its walk.
-/
import Derived.Test.YtklpjdcmppohkaaDoorScansWalk
import Derived.Test.YtklpjdcmppohkaaDoorRowsDat
namespace Go.Proofs.YtklpjdcmppohkaaDoor
open Go.RowKit

theorem cat_bytes : ∀ (L : List (List Nat)), okL L → ∀ x ∈ cat L, x < 256
  | [], _, x, h => by cases h
  | l :: L, h, x, hx => by
    rw [cat_cons] at hx
    rcases List.mem_append.1 hx with hx | hx
    · exact sealP_byte l (h l (List.mem_cons_self ..)).2 x hx
    · exact cat_bytes L (fun y hy => h y (List.mem_cons_of_mem _ hy)) x hx
theorem Own.four' (w : World) : Own (w.alloc (.cells #[.int .u8 255, .int .u8 255, .int .u8 255, .int .u8 255] 5)) w.heap.size (.slice (some ⟨w.heap.size, 0, none⟩) 4 4) [255, 255, 255, 255] := Own.four w 255 255 255 255
theorem RowA.lens {w : World} {K : Nat} {A : Option Addr} {c : Nat} {L : List (List Nat)} (h : RowA w K A c L) : ∀ l ∈ L, ∀ x ∈ l, x < 256 := by
  intro l hl
  obtain ⟨i, hi, rfl⟩ := List.getElem_of_mem hl
  obtain ⟨_, _, _, _, _, _, _, _, h6⟩ := h.at_ i hi
  exact h6

set_option maxRecDepth 8000 in
set_option maxHeartbeats 4000000 in
theorem rows_walk (A B : Option Addr) (ca cb n m : Nat) (La Lb : List (List Nat)) (w : World) (ha : RowA w w.heap.size A ca La) (hb : RowA w w.heap.size B cb Lb) (hn : La.length = n) (hm : Lb.length = m) (hnm : n + m ≤ 2000000) (tab : Tab w) :
    Calls Tryd.prog 8 #[.slice A n ca, .slice B m cb] w fun e w' => e = .returned (.bool true) ∧ Below w.heap.size w w' := by
  obtain ⟨N, hN⟩ : ∃ N, N = n + m := ⟨_, rfl⟩
  have hNb : N ≤ 2000000 := by omega
  obtain ⟨L, hL⟩ : ∃ L, L = La ++ Lb := ⟨_, rfl⟩
  have hLN : Hid (L.length = N) := Lib.hid (by rw [hL, List.length_append, hn, hm, hN])
  have hLb : Hid (∀ l ∈ L, ∀ x ∈ l, x < 256) := Lib.hid fun l hl => by
    rw [hL] at hl
    rcases List.mem_append.1 hl with hl | hl
    · exact ha.lens l hl
    · exact hb.lens l hl
  have htab := Lib.hid tab
  clear tab
  replace hn := Lib.hid hn
  replace hm := Lib.hid hm
  replace hN := Lib.hid hN
  replace hL := Lib.hid hL
  replace ha := Lib.hid ha
  replace hb := Lib.hid hb
  rcases Nat.lt_or_ge 30 N with h30 | h30
  · have h31 : (30 : Int) < (N : Int) := by omega
    go_enter Tryd.func8, Tryd.ntmps8
    go_wp2_with (first
      | (at_builtin; refine append_rowsA rfl (.tmp 18) (.tmp 19) rfl w.heap.size _ [] 0 rfl rfl (OwnS.lit w) w.heap.size A ca La n hn.out rfl (ha.out.below ((Below.refl _ _).alloc (Nat.le_refl _) _)) (Nat.le_refl _) n (by omega) (by omega) (by simp) ?_; intro A1 c1 w1 ho1 hb1; rw [List.nil_append] at ho1; have O1 := Lib.hid ho1; have B1 := Lib.hid (below_lit hb1); have hz1 := B1.out.size; clear ho1 hb1)
      | (at_builtin; refine append_rowsA rfl (.tmp 20) (.tmp 21) rfl w.heap.size _ La n hn.out rfl O1.out w.heap.size B cb Lb m hm.out rfl (hb.out.below B1.out) (Nat.le_refl _) N hN.out.symm hNb hz1 ?_; intro A2 c2 w2 ho2 hb2; rw [← hL.out] at ho2; have O2 := Lib.hid ho2; have B2 := Lib.hid (B1.out.trans hb2); have hz2 := B2.out.size; clear ho2 hb2))
    go_ret
    exact ⟨rfl, B2.out⟩
  · have h31 : (N : Int) ≤ 30 := by omega
    go_enter Tryd.func8, Tryd.ntmps8
    go_wp2_with (first
      | (at_builtin; refine append_rowsA rfl (.tmp 18) (.tmp 19) rfl w.heap.size _ [] 0 rfl rfl (OwnS.lit w) w.heap.size A ca La n hn.out rfl (ha.out.below ((Below.refl _ _).alloc (Nat.le_refl _) _)) (Nat.le_refl _) n (by omega) (by omega) (by simp) ?_; intro A1 c1 w1 ho1 hb1; rw [List.nil_append] at ho1; have O1 := Lib.hid ho1; have B1 := Lib.hid (below_lit hb1); have hz1 := B1.out.size; clear ho1 hb1)
      | (at_builtin; refine append_rowsA rfl (.tmp 20) (.tmp 21) rfl w.heap.size _ La n hn.out rfl O1.out w.heap.size B cb Lb m hm.out rfl (hb.out.below B1.out) (Nat.le_refl _) N hN.out.symm hNb hz1 ?_; intro A2 c2 w2 ho2 hb2; rw [← hL.out] at ho2; have O2 := Lib.hid ho2; have B2 := Lib.hid (B1.out.trans hb2); have hz2 := B2.out.size; clear ho2 hb2))
    have HR := Lib.hid (O2.out.rowA hz2 hLb.out)
    have HT := Lib.hid (htab.out.below B2.out (Nat.le_refl _))
    clear O1 O2 ha hb htab
    go_loopw [6, 7] (fun av i wr => ∃ (k y : Nat) (A3 : Option Addr) (c3 : Nat), k ≤ N ∧ y ≤ 308 * k ∧ i = .int .i64 (k : Int) ∧ av = .slice A3 y c3 ∧ Hid (y = off L k) ∧ Hid (Own wr w2.heap.size (.slice A3 y c3) (cat (L.take k))) ∧ Hid (Below w2.heap.size w2 wr) ∧ Hid (okL (L.take k))) (fun _ i _ => N - (intOf i).toNat)
    case atStart => exact ⟨0, 0, none, 0, Nat.zero_le _, Nat.zero_le _, rfl, rfl, Lib.hid rfl, Lib.hid (World.ownsRow_nil _ _ 5 1), Lib.hid (Below.refl _ _), Lib.hid (fun l hl => absurd hl (by simp))⟩
    case round =>
      obtain ⟨k, y, A3, c3, hk, hyk, rfl, rfl, Hy, HO, HB, HK⟩ := hrel
      have hz := HB.out.size
      have HW := Lib.hid (B2.out.trans (HB.out.mono hz2))
      by_cases hkn : k < N
      · have hkL : k < L.length := by rw [hLN.out]; exact hkn
        obtain ⟨ad, Bk, ck, had, hadlt, hcell, hsk, hck, hbk⟩ := (HR.out.below HB.out).at_ k hkL
        subst had
        obtain ⟨rec, hrec⟩ : ∃ rec, rec = L[k] := ⟨_, rfl⟩
        rw [← hrec] at hcell hsk hbk
        obtain ⟨ln, hln⟩ : ∃ ln, ln = rec.length := ⟨_, rfl⟩
        rw [← hln] at hcell
        have i0 : (0 : Int) ≤ (k : Int) := by omega
        have i1 : (k : Int) < (N : Int) := by omega
        by_cases h300 : ln ≤ 300
        · have CS := seal_any Bk ck ln rec wr (hsk.more hz) hln.symm (by omega) hbk (HT.out.below HB.out (Nat.le_refl _))
          obtain ⟨n8, hn8⟩ : ∃ n8, n8 = ln + 8 := ⟨_, rfl⟩
          rw [← hn8] at CS
          replace CS := Lib.hid CS
          obtain ⟨y', hy'⟩ : ∃ y', y' = y + n8 := ⟨_, rfl⟩
          have hy'b : y' ≤ 308 * (k + 1) := by omega
          have hcat := Lib.hid (cat_succ L k hkL)
          rw [← hrec] at hcat
          have hXm : Hid ((cat (L.take k)).length = y) := Lib.hid Hy.out.symm
          have hSl : Hid ((sealP rec).length = n8) := Lib.hid (by rw [sealP_len, hn8, hln])
          have hoff : Hid (y' = off L (k + 1)) := Lib.hid (by rw [off_succ L k hkL, ← Hy.out, hy', hn8, hln, hrec])
          have hok' : Hid (okL (L.take (k + 1))) := Lib.hid (by
            rw [List.take_succ_eq_append_getElem hkL]
            intro l hl
            rcases List.mem_append.1 hl with hl | hl
            · exact HK.out l hl
            · have := List.mem_singleton.1 hl
              rw [this, ← hrec]
              exact ⟨by omega, hbk⟩)
          replace hsk := Lib.hid hsk
          replace hbk := Lib.hid hbk
          replace hrec := Lib.hid hrec
          replace hln := Lib.hid hln
          replace hkL := Lib.hid hkL
          replace hy' := Lib.hid hy'
          replace hn8 := Lib.hid hn8
          clear hadlt
          go_wp2_with fail
          refine CS.out.mono ?_
          rintro _ w3 ⟨A4, c4, rfl, ho3, hb3⟩
          have S3 := Lib.hid ho3.src
          have B3 := Lib.hid (HB.out.trans (hb3.mono hz))
          have O3 := Lib.hid (HO.out.below hb3 (Nat.le_refl _))
          have hz3 := B3.out.size
          clear ho3 hb3
          dsimp only []
          go_wp2_with (at_builtin; refine append_toB rfl (.tmp 46) (.tmp 47) rfl w2.heap.size _ (cat (L.take k)) y hXm.out rfl O3.out w3.heap.size A4 c4 (sealP rec) n8 hSl.out rfl S3.out y' hy'.out.symm (by omega) hz3 ?_; intro A5 c5 w5 ho5 hb5 _; rw [← hcat.out] at ho5; have O5 := Lib.hid ho5; have B5 := Lib.hid (B3.out.trans hb5); clear ho5 hb5)
          go_round
          case rel => exact ⟨k + 1, y', A5, c5, hkn, hy'b, by go_num, rfl, hoff, O5, B5, hok'⟩
          case measure => simp [intOf]; omega
        · have h5 : (300 : Int) < (ln : Int) := by omega
          replace hrec := Lib.hid hrec
          replace hln := Lib.hid hln
          go_wp2_with fail
          go_ret
          exact ⟨rfl, HW.out⟩
      · have htk : L.take k = L := List.take_of_length_le (by rw [hLN.out]; omega)
        rw [htk] at HO HK
        have hyX : Hid ((cat L).length = y) := Lib.hid (by rw [Hy.out]; unfold off; rw [htk])
        have hXb : Hid (∀ x ∈ cat L, x < 256) := Lib.hid (cat_bytes _ HK.out)
        replace htk := Lib.hid htk
        have hyb : y ≤ 9240 := by omega
        obtain ⟨X, hX⟩ : ∃ X, X = cat L := ⟨_, rfl⟩
        have hall := rows_all L HK.out
        have hbad := rows_bad L X HK.out
        rw [← hX] at HO hyX hXb hall hbad
        rw [hyX.out] at hall hbad
        obtain ⟨Z, hZ⟩ : ∃ Z, Z = X ++ ([255, 255, 255, 255] ++ X) := ⟨_, rfl⟩
        rw [← hZ] at hbad
        obtain ⟨yz, hyz⟩ : ∃ yz, yz = y + 4 + y := ⟨_, rfl⟩
        have hZl : Z.length = yz := by rw [hZ, List.length_append, List.length_append, hyX.out, hyz]; show y + (4 + y) = _; omega
        have hZb : ∀ x ∈ Z, x < 256 := fun x hx => by
          rw [hZ] at hx
          rcases List.mem_append.1 hx with hx | hx
          · exact hXb.out x hx
          · rcases List.mem_append.1 hx with hx | hx
            · simp at hx
              omega
            · exact hXb.out x hx
        have hcap := HO.out.cap
        have C1 := scan_any A3 c3 y X wr HO.out.src hyX.out (by omega) hcap hXb.out (HT.out.below HB.out (Nat.le_refl _))
        rw [hall] at C1
        simp only [hLN.out] at C1
        replace C1 := Lib.hid C1
        have C2 : Hid (∀ A' c' w', Src w' w'.heap.size A' c' Z → c' ≤ 9223372036854775807 → Below w2.heap.size w2 w' → Calls Tryd.prog 16 #[.slice A' yz c'] w' fun e w'' => ∃ A2 c2, e = .returned (.tuple #[.slice A2 N c2, .int .i64 (y : Int), .int .i64 3]) ∧ OwnS w'' w'.heap.size (.slice A2 N c2) L ∧ Below w'.heap.size w' w'') := Lib.hid fun A' c' w' h hc hb' => by
          have h1 := scan_any A' c' yz Z w' h hZl (by omega) hc hZb (HT.out.below hb' (Nat.le_refl _))
          rw [hbad] at h1
          simp only [hLN.out] at h1
          exact h1
        have hyz' : yz ≤ 20000 := by omega
        obtain ⟨y4, hy4⟩ : ∃ y4, y4 = y + 4 := ⟨_, rfl⟩
        have hy4' : y4 + y = yz := by omega
        have hy4b : y4 ≤ 20000 := by omega
        have hXl' := hyX.out
        replace hXl' := Lib.hid hXl'
        replace hX := Lib.hid hX
        replace hall := Lib.hid hall
        replace hbad := Lib.hid hbad
        replace hZ := Lib.hid hZ
        replace hyz := Lib.hid hyz
        replace hy4 := Lib.hid hy4
        replace hy4' := Lib.hid hy4'
        replace hZl := Lib.hid hZl
        replace hZb := Lib.hid hZb
        go_wp2_with fail
        refine C1.out.mono ?_
        rintro _ w4 ⟨A4, c4, rfl, ho4, hb4⟩
        have B4 := Lib.hid (HB.out.trans (hb4.mono hz))
        have M4 := Lib.hid ho4
        have X4 := Lib.hid (HO.out.below hb4 (Nat.le_refl _))
        have hz4 := B4.out.size
        have hzr := hb4.size
        clear ho4 hb4
        dsimp only []
        go_wp2_with (first
          | (at_builtin; refine append_toB rfl (.tmp 55) (.tmp 56) rfl w4.heap.size _ [] 0 rfl rfl (Own.lit w4) _ A3 c3 X y hXl'.out rfl (X4.out.src.alloc' (Nat.le_refl _) _) y (by omega) (by omega) (by simp) ?_; intro A5 c5 w5 ho5 hb5 _; rw [List.nil_append] at ho5; have B5 := Lib.hid (below_lit hb5); have hz5 := B5.out.size; have O5 := Lib.hid (ho5.alloc (.cells #[.int .u8 255, .int .u8 255, .int .u8 255, .int .u8 255] 5)); clear ho5 hb5)
          | (at_builtin; refine append_toB rfl (.tmp 57) (.tmp 58) rfl w4.heap.size _ X y hXl'.out rfl O5.out _ _ 4 [255, 255, 255, 255] 4 rfl rfl (Own.four' _).src y4 hy4.out.symm (by omega) (by simp; omega) ?_; intro A6 c6 w6 ho6 hb6 _; have B6 := Lib.hid (B5.out.trans (below_lit' hz5 hb6)); have hz6 := B6.out.size; have O6 := Lib.hid ho6; clear ho6 hb6)
          | (at_builtin; refine append_toB rfl (.tmp 61) (.tmp 62) rfl w4.heap.size _ (X ++ [255, 255, 255, 255]) y4 (by rw [List.length_append, hXl'.out]; exact hy4.out.symm) rfl O6.out _ A3 c3 X y hXl'.out rfl (X4.out.src.below B6.out) yz hy4'.out (by omega) hz6 ?_; intro A7 c7 w7 ho7 hb7 _; rw [List.append_assoc, ← hZ.out] at ho7; have B7 := Lib.hid (B6.out.trans hb7); have hz7 := B7.out.size; have O7 := Lib.hid ho7; clear ho7 hb7))
        have B7' := Lib.hid (B4.out.trans (B7.out.mono hz4))
        refine (C2.out A7 c7 w7 O7.out.src O7.out.cap B7'.out).mono ?_
        rintro _ w8 ⟨A8, c8, rfl, ho8, hb8⟩
        have B8 := Lib.hid (B7'.out.trans (hb8.mono B7'.out.size))
        have B8' := Lib.hid (B7.out.trans (hb8.mono hz7))
        have M8 := Lib.hid ho8
        have hz8 := B8.out.size
        have hz8' := hb8.size
        have M5 := Lib.hid (M4.out.below B8'.out (Nat.le_refl _) hzr)
        clear ho8 hb8
        dsimp only []
        go_wp2_with fail
        go_loopw [17] (fun i wr => ∃ q : Nat, q ≤ N ∧ i = .int .i64 (q : Int) ∧ Hid (Below w8.heap.size w8 wr)) (fun i _ => N - (intOf i).toNat)
        case atStart => exact ⟨0, Nat.zero_le _, rfl, Lib.hid (Below.refl _ _)⟩
        case round =>
          obtain ⟨q, hq, rfl, HQ⟩ := hrel
          have B9 := Lib.hid (B8.out.trans (HQ.out.mono hz8))
          have hz9 := B9.out.size
          have hz9' := HQ.out.size
          by_cases hqj : q < N
          · have hqn : q < L.length := by rw [hLN.out]; omega
            obtain ⟨ad, Bq, cq, had, hadlt, hcell, hsq, hcq, hbq⟩ := (HR.out.below B9.out).at_ q hqn
            have Q1 := M5.out.below HQ.out (Nat.le_refl _) (Nat.le_trans hzr B8'.out.size)
            have Q2 := M8.out.below HQ.out (Nat.le_refl _) hz8'
            obtain ⟨A1', c1', e1, _, get1⟩ := Q1.form
            obtain ⟨A2', c2', e2, _, get2⟩ := Q2.form
            obtain ⟨g1, B1', d1', f1, cell1, sr1⟩ := get1 q hqn
            obtain ⟨g2, B2', d2', f2, cell2, sr2⟩ := get2 q hqn
            injection e1 with e11 e12 e13
            injection e2 with e21 e22 e23
            subst e11
            subst f1
            subst e21
            subst f2
            subst had
            have cv1 := fun y => ((sr1.src (Nat.le_trans hzr (Nat.le_trans B8'.out.size hz9'))).below (below_drew wr y)).conv
            have cv2 := fun y => ((sr2.src (Nat.le_trans hz8' hz9')).below (below_drew wr y)).conv
            have cv3 := fun y => ((hsq.more hz9).below (below_drew wr y)).conv
            obtain ⟨rec, hrec⟩ : ∃ rec, rec = L[q] := ⟨_, rfl⟩
            rw [← hrec] at cell1 cell2 hcell cv1 cv2 cv3
            obtain ⟨rn, hrn⟩ : ∃ rn, rn = rec.length := ⟨_, rfl⟩
            rw [← hrn] at cell1 cell2 hcell cv1 cv2 cv3
            obtain ⟨sr, hsr⟩ : ∃ sr, sr = strB rec := ⟨_, rfl⟩
            rw [← hsr] at cv1 cv2 cv3
            replace hrec := Lib.hid hrec
            replace hrn := Lib.hid hrn
            replace hsr := Lib.hid hsr
            clear Q1 Q2 get1 get2 sr1 sr2 hsq hbq hcq hadlt
            replace e12 := Lib.hid e12
            replace e13 := Lib.hid e13
            replace e22 := Lib.hid e22
            replace e23 := Lib.hid e23
            replace hqn := Lib.hid hqn
            have i0 : (0 : Int) ≤ (q : Int) := by omega
            have i1 : (q : Int) < (N : Int) := by omega
            go_wp2_with fail
            go_quiet (fail)
            go_wp2_with fail
            exact ⟨⟨q + 1, by omega, by go_num, Lib.hid (HQ.out.trans (below_drew' HQ.out.size nq))⟩, by simp [intOf]; omega⟩
          · go_wp2_with fail
            go_ret
            exact ⟨rfl, B2.out.trans (B9.out.mono hz2)⟩
end Go.Proofs.YtklpjdcmppohkaaDoor
