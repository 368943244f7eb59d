/-
  Scan of any bytes: the document's.
-/
import Derived.Test.YtklpjdcmppohkaaDoorRowS
namespace Go.Proofs.YtklpjdcmppohkaaDoor
open Go.RowKit

theorem scanR_count : ∀ (f : Nat) (l : List Nat), (scanR f l).1.length ≤ l.length
  | 0, l => Nat.zero_le _
  | f + 1, l => by
    rw [scanR]
    by_cases h0 : l.length = 0
    · rw [if_pos h0]; exact Nat.zero_le _
    · rw [if_neg h0]
      by_cases h1 : (openP l).2.2 ≠ 0
      · rw [if_pos h1]; exact Nat.zero_le _
      · rw [if_neg h1]
        have h2 := openP_ok l (by simpa using h1)
        have h3 := scanR_count f (l.drop (openP l).2.1)
        rw [List.length_drop] at h3
        simp only [List.length_cons]
        omega
theorem scanP_count (l : List Nat) : (scanP l).1.length ≤ l.length := scanR_count _ _
theorem news_one' (w : World) (x : Value) (t : TypeId) : (w.alloc (.cells #[x] t)).cell? ((⟨w.heap.size, 0, none⟩ : Addr).add 0) = some x := news_one w x t 0 x rfl


set_option maxRecDepth 8000 in
set_option maxHeartbeats 1600000 in
theorem refScan_any (A : Option Addr) (cp L : Nat) (l : List Nat) (w : World) (hs : Src w w.heap.size A cp l) (hL : l.length = L) (hl : L ≤ 1048600) (hcp : cp ≤ 9223372036854775807) (hby : ∀ x ∈ l, x < 256) :
    Calls Tryd.prog 17 #[.slice A L cp] w fun e w' => ∃ A' c', e = .returned (.tuple #[.slice A' (scanP l).1.length c', .int .i64 ((scanP l).2.1 : Int), .int .i64 ((scanP l).2.2 : Int)]) ∧ OwnS w' w.heap.size (.slice A' (scanP l).1.length c') (scanP l).1 ∧ Below w.heap.size w w' := by
  have hle := hs.le
  rw [hL] at hle
  have CO : Hid (∀ n wr, n < L → Below w.heap.size w wr → ∃ A1 : Option Addr, (∀ ad, A = some ad → A1 = some (if n = 0 then ad else ⟨ad.block, ad.off + n, none⟩)) ∧ Calls Tryd.prog 12 #[.slice A1 (L - n) (cp - n)] wr fun e w' => ∃ A' c', e = .returned (.tuple #[.slice A' (openP (l.drop n)).1.length c', .int .i64 ((openP (l.drop n)).2.1 : Int), .int .i64 ((openP (l.drop n)).2.2 : Int)]) ∧ SrI w' w.heap.size A' c' (openP (l.drop n)).1 ∧ Below wr.heap.size wr w') := Lib.hid fun n wr hn hb => by
    rcases A with _ | ad
    · have := hs.nil rfl
      omega
    · refine ⟨some (if n = 0 then ad else ⟨ad.block, ad.off + n, none⟩), fun ad' e => by injection e with e; rw [e], ?_⟩
      have hd : Src wr w.heap.size (some (if n = 0 then ad else ⟨ad.block, ad.off + n, none⟩)) (cp - n) (l.drop n) := by
        by_cases h0 : n = 0
        · subst h0
          rw [if_pos rfl]
          exact hs.below hb
        · rw [if_neg h0]
          have := (hs.below hb).drop n (by omega)
          unfold Addr.add at this
          rwa [if_neg h0] at this
      have := refOpen_any _ (cp - n) (L - n) (l.drop n) wr _ hd hb.size (by rw [List.length_drop, hL]) (by omega) (by omega) (fun x hx => hby x (List.mem_of_mem_drop hx))
      exact this.mono fun e w' ⟨A', c', h1, h2, h3, h4⟩ => ⟨A', c', h1, SrI.of_src h2 (Nat.le_refl _) h3, h4⟩
  have hne : ∀ n, n < L → A ≠ none := fun n hn e => by
    have := hs.nil e
    omega
  have hrec : Hid (∀ n, n < L → (openP (l.drop n)).2.1 ≤ L - n ∨ (openP (l.drop n)).2.2 ≠ 0) := Lib.hid fun n hn => by
    by_cases h : (openP (l.drop n)).2.2 = 0
    · have := openP_ok _ h
      rw [List.length_drop, hL] at this
      exact .inl this.2.1
    · exact .inr h
  have hstep : Hid (∀ n, n < L → (openP (l.drop n)).2.2 = 0 → (openP (l.drop n)).2.1 + n ≤ L ∧ 0 < (openP (l.drop n)).2.1 ∧ scanP (l.drop n) = ((openP (l.drop n)).1 :: (scanP (l.drop (n + (openP (l.drop n)).2.1))).1, (openP (l.drop n)).2.1 + (scanP (l.drop (n + (openP (l.drop n)).2.1))).2.1, (scanP (l.drop (n + (openP (l.drop n)).2.1))).2.2)) := Lib.hid fun n hn h => by
    have hk := openP_ok _ h
    rw [List.length_drop, hL] at hk
    refine ⟨by omega, by omega, ?_⟩
    rw [scanP_ok _ (by rw [List.length_drop, hL]; omega) h, List.drop_drop]
  have hstop : Hid (∀ n, n < L → (openP (l.drop n)).2.2 ≠ 0 → scanP (l.drop n) = ([], 0, (openP (l.drop n)).2.2)) := Lib.hid fun n hn h => scanP_bad _ (by rw [List.length_drop, hL]; omega) h
  have hlen := fun n => openP_len (l.drop n)
  have hend : Hid (scanP (l.drop L) = ([], 0, 0)) := Lib.hid (by rw [List.drop_of_length_le (by omega)]; rfl)
  have hrl : Hid (∀ (R : List (List Nat)) n, scanP l = (R ++ (scanP (l.drop n)).1, n + (scanP (l.drop n)).2.1, (scanP (l.drop n)).2.2) → n ≤ L → R.length ≤ L) := Lib.hid fun R n h _ => by
    have : R.length ≤ (scanP l).1.length := by rw [h]; simp
    have h2 := scanP_count l
    omega
  replace hs := Lib.hid hs
  replace hby := Lib.hid hby
  replace hL := Lib.hid hL
  replace hlen := Lib.hid hlen
  go_enter Tryd.func17, Tryd.ntmps17
  go_wp2_with fail
  go_loopw [5, 6] (fun v u wr => ∃ (R : List (List Nat)) (m : Nat) (A1 : Option Addr) (c1 n : Nat), n ≤ L ∧ m ≤ L ∧ u = .int .i64 (n : Int) ∧ v = .slice A1 m c1 ∧ Hid (R.length = m) ∧ Hid (OwnS wr w.heap.size (.slice A1 m c1) R) ∧ Hid (Below w.heap.size w wr) ∧ Hid (scanP l = (R ++ (scanP (l.drop n)).1, n + (scanP (l.drop n)).2.1, (scanP (l.drop n)).2.2))) (fun _ u _ => L - (intOf u).toNat)
  case atStart => exact ⟨[], 0, none, 0, 0, Nat.zero_le _, Nat.zero_le _, rfl, rfl, Lib.hid rfl, Lib.hid (OwnS.nil _ _), Lib.hid (Below.refl _ _), Lib.hid (by simp)⟩
  case round =>
    obtain ⟨R, m, A1, c1, n, hn, hm, rfl, rfl, HR, HO, HB, HS⟩ := hrel
    have hz := HB.out.size
    by_cases hnl : n < L
    · obtain ⟨A2, hA2, C0⟩ := CO.out n wr hnl HB.out
      rcases A with _ | ad
      · exact absurd rfl (hne n hnl)
      · have hA3 := hA2 ad rfl
        subst hA3
        clear hA2
        have h1 := hlen.out n
        have h2 := hstep.out n hnl
        have h3 := hstop.out n hnl
        obtain ⟨X, hX⟩ : ∃ X, X = openP (l.drop n) := ⟨_, rfl⟩
        rw [← hX] at h1 h2 h3 C0
        obtain ⟨r, k, er⟩ := X
        simp only at h1 h2 h3 C0
        obtain ⟨rl, hrle⟩ : ∃ rl, rl = r.length := ⟨_, rfl⟩
        rw [← hrle] at h1 C0
        obtain ⟨h11, h12, h13⟩ := h1
        replace C0 := Lib.hid C0
        replace hX := Lib.hid hX
        replace hrle := Lib.hid hrle
        replace h2 := Lib.hid h2
        replace h3 := Lib.hid h3
        have i0 : (0 : Int) ≤ (n : Int) := by omega
        have i1 : (n : Int) < (L : Int) := by omega
        have i2 : (n : Int) ≤ (L : Int) := by omega
        have i3 : (L : Int) ≤ (cp : Int) := by omega
        have i4 : (n : Int) ≤ (cp : Int) := by omega
        go_wp2_with fail
        refine C0.out.mono ?_
        rintro _ w2 ⟨A3, c3, rfl, HR3, HB3⟩
        replace HR3 := Lib.hid HR3
        replace HB3 := Lib.hid HB3
        dsimp only []
        by_cases her : er = 0
        · subst her
          obtain ⟨h21, h22, h23⟩ := h2.out rfl
          replace h23 := Lib.hid h23
          replace h2 := Lib.hid h22
          have HBB := Lib.hid (HB.out.trans (HB3.out.mono hz))
          have hz2 := HBB.out.size
          have HO2 := Lib.hid ((HO.out.below HB3.out (Nat.le_refl _) hz).alloc hz2 (.cells #[.slice A3 rl c3] 23))
          have HN2 : Hid (∀ (i : Nat) (hi : i < [r].length), ∃ A c, (w2.alloc (.cells #[.slice A3 rl c3] 23)).cell? ((⟨w2.heap.size, 0, none⟩ : Addr).add i) = some (.slice A [r][i].length c) ∧ SrI (w2.alloc (.cells #[.slice A3 rl c3] 23)) w.heap.size A c [r][i]) := Lib.hid fun i hi => by
            obtain rfl : i = 0 := by simpa using hi
            refine ⟨A3, c3, ?_, HR3.out.below ((Below.refl _ _).alloc (Nat.le_refl _) _) (Nat.le_refl _) hz2⟩
            rw [show [r][0].length = rl from hrle.out.symm]
            exact news_one' w2 (.slice A3 rl c3) 23
          go_wp2_with (at_builtin; refine append_rows rfl (.tmp 27) (.tmp 29) rfl w.heap.size _ R m HR.out rfl HO2.out ⟨w2.heap.size, 0, none⟩ 1 1 [r] rfl rfl HN2.out (m + 1) rfl (by omega) (by simp; omega) ?_; intro A4 c4 w4 ho4 hb4 _; have HO4 := Lib.hid ho4; have HB4 := Lib.hid (HBB.out.trans (below_lit' hz2 hb4)); clear ho4 hb4)
          go_round
          case rel =>
            have hnew : scanP l = ((R ++ [r]) ++ (scanP (l.drop (n + k))).1, n + k + (scanP (l.drop (n + k))).2.1, (scanP (l.drop (n + k))).2.2) := by
              rw [HS.out, h23.out]
              simp [Nat.add_assoc]
            refine ⟨R ++ [r], m + 1, A4, c4, n + k, by omega, ?_, by go_num, rfl, Lib.hid (by rw [List.length_append, HR.out]; rfl), HO4, HB4, Lib.hid hnew⟩
            have := hrl.out _ _ hnew (by omega)
            rw [List.length_append, HR.out] at this
            exact this
          case measure => simp [intOf]; omega
        · have her' : ((er : Int) != 0) = true := by simp; omega
          go_wp2_with fail
          go_returns
          have hfin : scanP l = (R, n, er) := by
            rw [HS.out, h3.out her]
            simp
          rw [hfin]
          simp only [HR.out]
          exact ⟨A1, c1, rfl, HO.out.below HB3.out (Nat.le_refl _) hz, HB.out.trans (HB3.out.mono hz)⟩
    · obtain rfl : n = L := by omega
      have hfin : scanP l = (R, n, 0) := by
        rw [HS.out, hend.out]
        simp
      go_wp2_with fail
      go_returns
      rw [hfin]
      simp only [HR.out]
      exact ⟨A1, c1, rfl, HO.out, HB.out⟩
end Go.Proofs.YtklpjdcmppohkaaDoor
