/-
  FrameScans: its walk.
-/
import Derived.Test.YtklpjdcmppohkaaDoorTellsWalk
import Derived.BigQuiet
namespace Go.Proofs.YtklpjdcmppohkaaDoor
open Go.RowKit

theorem none_seal : sealP [] = [0, 0, 0, 0, 28, 223, 68, 33] := by decide +kernel
theorem none_str : strB [0, 0, 0, 0, 28, 223, 68, 33] = ⟨#[0, 0, 0, 0, 28, 223, 68, 33]⟩ := by decide +kernel
theorem below_drew' {w w' : World} {K : Nat} (_ : w.heap.size ≤ w'.heap.size) (n : Nat) : Below K w' (w'.drewN n) := ⟨rfl, rfl, rfl, Nat.le_refl _, fun _ _ => rfl⟩
theorem none_open (w : World) (tab : Tab w) : Calls Tryd.prog 11 #[.slice (some ⟨w.heap.size, 0, none⟩) 8 8] (w.alloc (.cells #[.int .u8 0, .int .u8 0, .int .u8 0, .int .u8 0, .int .u8 28, .int .u8 223, .int .u8 68, .int .u8 33] 5 (8, 9))) fun e w'' => ∃ A' c', e = .returned (.tuple #[.slice A' 0 c', .int .i64 8, .int .i64 0]) ∧ Below (w.heap.size + 1) (w.alloc (.cells #[.int .u8 0, .int .u8 0, .int .u8 0, .int .u8 0, .int .u8 28, .int .u8 223, .int .u8 68, .int .u8 33] 5 (8, 9))) w'' := by
  have ho := openP_seal [] [] (by simp) (by simp)
  rw [none_seal, List.append_nil] at ho
  have h := open_any (some ⟨w.heap.size, 0, none⟩) 8 8 [0, 0, 0, 0, 28, 223, 68, 33] _ ((Src.made w [0, 0, 0, 0, 28, 223, 68, 33] (8, 9)).more (by simp)) rfl (by omega) (by simp) (tab.below ((Below.refl _ _).alloc (Nat.le_refl _) _) (Nat.le_refl _))
  rw [ho] at h
  exact h.mono fun e w'' ⟨A', c', h1, _, h3⟩ => ⟨A', c', h1, h3.mono (by simp)⟩
theorem none_made (w : World) (tab : Tab w) : Calls Tryd.prog 9 #[.slice none 0 0] w fun e w'' => ∃ A' c', e = .returned (.tuple #[.slice A' 8 c', .int .i64 0]) ∧ Src w'' w''.heap.size A' c' [0, 0, 0, 0, 28, 223, 68, 33] ∧ Below w.heap.size w w'' := by
  have h := seal_any none 0 0 [] w (Src.none_ _ _) rfl (by omega) (by simp) tab
  rw [none_seal] at h
  exact h.mono fun e w'' ⟨A', c', h1, h2, h3⟩ => ⟨A', c', h1, h2.src, h3⟩

set_option maxRecDepth 8000 in
set_option maxHeartbeats 1600000 in
theorem scans_in (A : Option Addr) (cp : Nat) (n : Nat) (h0 : n ≤ 3000) (l : List Nat) (w : World) (hs : Src w w.heap.size A cp l) (hcp : cp ≤ 9223372036854775807) (hn : l.length = n) (hby : ∀ x ∈ l, x < 256) (tab : Tab w) :
    Calls Tryd.prog 4 #[.slice A n cp] w fun e w' => e = .returned (.bool true) ∧ Below w.heap.size w w' := by
  have k0 : ¬ (3000 < (n : Int)) := by omega
  have C1 : Hid (Calls Tryd.prog 16 #[.slice A n cp] w fun e w'' => ∃ A' c', e = .returned (.tuple #[.slice A' (scanP l).1.length c', .int .i64 ((scanP l).2.1 : Int), .int .i64 ((scanP l).2.2 : Int)]) ∧ OwnS w'' w.heap.size (.slice A' (scanP l).1.length c') (scanP l).1 ∧ Below w.heap.size w w'') := Lib.hid
    (scan_any A cp n l w hs hn (by omega) hcp hby tab)
  have C2 : Hid (∀ w', Below w.heap.size w w' → Calls Tryd.prog 17 #[.slice A n cp] w' fun e w'' => ∃ A' c', e = .returned (.tuple #[.slice A' (scanP l).1.length c', .int .i64 ((scanP l).2.1 : Int), .int .i64 ((scanP l).2.2 : Int)]) ∧ OwnS w'' w'.heap.size (.slice A' (scanP l).1.length c') (scanP l).1 ∧ Below w'.heap.size w' w'') := Lib.hid fun w' hb =>
    refScan_any A cp n l w' ((hs.below hb).more hb.size) hn (by omega) hcp hby
  have C3 : Hid (∀ w', Below w.heap.size w w' → Calls Tryd.prog 11 #[.slice (some ⟨w'.heap.size, 0, none⟩) 8 8] (w'.alloc (.cells #[.int .u8 0, .int .u8 0, .int .u8 0, .int .u8 0, .int .u8 28, .int .u8 223, .int .u8 68, .int .u8 33] 5 (8, 9))) fun e w'' => ∃ A' c', e = .returned (.tuple #[.slice A' 0 c', .int .i64 8, .int .i64 0]) ∧ Below (w'.heap.size + 1) (w'.alloc (.cells #[.int .u8 0, .int .u8 0, .int .u8 0, .int .u8 0, .int .u8 28, .int .u8 223, .int .u8 68, .int .u8 33] 5 (8, 9))) w'') := Lib.hid fun w' hb => none_open w' (tab.below hb (Nat.le_refl _))
  have C4 : Hid (∀ w', Below w.heap.size w w' → Calls Tryd.prog 9 #[.slice none 0 0] w' fun e w'' => ∃ A' c', e = .returned (.tuple #[.slice A' 8 c', .int .i64 0]) ∧ Src w'' w''.heap.size A' c' [0, 0, 0, 0, 28, 223, 68, 33] ∧ Below w'.heap.size w' w'') := Lib.hid fun w' hb => none_made w' (tab.below hb (Nat.le_refl _))
  have hrl := scanP_count l
  rw [hn] at hrl
  obtain ⟨q, hq⟩ : ∃ q, q = scanP l := ⟨_, rfl⟩
  rw [← hq] at C1 C2 hrl
  obtain ⟨R, k, er⟩ := q
  simp only at C1 C2 hrl
  obtain ⟨m, hm⟩ : ∃ m, m = R.length := ⟨_, rfl⟩
  rw [← hm] at C1 C2 hrl
  replace hq := Lib.hid hq
  replace hm := Lib.hid hm
  replace hs := Lib.hid hs
  replace hby := Lib.hid hby
  replace hn := Lib.hid hn
  have htab := Lib.hid tab
  clear tab
  have hmb : m ≤ 3000 := by omega
  have kc := fun (w : World) (C : Array Value) (n c : Nat) => Lib.run_convert_bytes_const (P := Tryd.prog) w 23 5 C n c Tryd.underlying23 Tryd.underlying5
  go_enter Tryd.func4, Tryd.ntmps4
  go_wp2_with fail
  refine C1.out.mono ?_
  rintro _ w1 ⟨A1, c1, rfl, ho1, hb1⟩
  have B1 := Lib.hid hb1
  have O1 := Lib.hid ho1
  clear hb1 ho1
  dsimp only []
  go_wp2_with fail
  refine (C2.out w1 B1.out).mono ?_
  rintro _ w2 ⟨A2, c2, rfl, ho2, hb2⟩
  have B2 := Lib.hid (B1.out.trans (hb2.mono B1.out.size))
  have P1 := Lib.hid (O1.out.below hb2 (Nat.le_refl _) B1.out.size)
  have P2 := Lib.hid ho2
  have hz2 := B2.out.size
  have hz1 := hb2.size
  clear ho2 O1 hb2
  dsimp only []
  go_wp2_with fail
  go_loopw [9] (fun i wr => ∃ k : Nat, k ≤ m ∧ i = .int .i64 (k : Int) ∧ Hid (Below w2.heap.size w2 wr)) (fun i _ => m - (intOf i).toNat)
  case atStart => exact ⟨0, Nat.zero_le _, rfl, Lib.hid (Below.refl _ _)⟩
  case round =>
    obtain ⟨i, hi, rfl, HB⟩ := hrel
    have B3 := Lib.hid (B2.out.trans (HB.out.mono hz2))
    have hz3 := B3.out.size
    by_cases him : i < m
    · have Q1 := P1.out.below HB.out (Nat.le_refl _) hz2
      have Q2 := P2.out.below HB.out (Nat.le_refl _) hz1
      obtain ⟨A1', c1', e1, _, get1⟩ := Q1.form
      obtain ⟨A2', c2', e2, _, get2⟩ := Q2.form
      obtain ⟨g1, B1', d1, f1, cell1, sr1⟩ := get1 i (by rw [← hm.out]; exact him)
      obtain ⟨g2, B2', d2, f2, cell2, sr2⟩ := get2 i (by rw [← hm.out]; exact him)
      injection e1 with e11 e12 e13
      injection e2 with e21 e22 e23
      subst e11
      subst f1
      subst e21
      subst f2
      have hz4 := HB.out.size
      have cv1 := fun j => ((sr1.src hz3).below (below_drew wr j)).conv
      have cv2 := fun j => ((sr2.src (Nat.le_trans hz1 hz4)).below (below_drew wr j)).conv
      obtain ⟨r, hr⟩ : ∃ r, r = R[i]'(by rw [← hm.out]; exact him) := ⟨_, rfl⟩
      rw [← hr] at cell1 cell2 cv1 cv2
      obtain ⟨rn, hrn⟩ : ∃ rn, rn = r.length := ⟨_, rfl⟩
      rw [← hrn] at cell1 cell2 cv1 cv2
      obtain ⟨sr, hsr⟩ : ∃ sr, sr = strB r := ⟨_, rfl⟩
      rw [← hsr] at cv1 cv2
      replace hr := Lib.hid hr
      replace hrn := Lib.hid hrn
      replace hsr := Lib.hid hsr
      clear Q1 Q2 get1 get2 sr1 sr2
      replace e12 := Lib.hid e12
      replace e13 := Lib.hid e13
      replace e22 := Lib.hid e22
      replace e23 := Lib.hid e23
      have i0 : (0 : Int) ≤ (i : Int) := by omega
      have i1 : (i : Int) < (m : Int) := by omega
      go_wp2_with fail
      go_quiet (fail)
      go_wp2_with fail
      exact ⟨⟨i + 1, by omega, by go_num, Lib.hid (HB.out.trans (below_drew' HB.out.size nq))⟩, by simp [intOf]; omega⟩
    · go_wp2_with fail
      refine (C3.out wr B3.out).mono ?_
      rintro _ w3 ⟨A3, c3, rfl, hb3⟩
      have B4 := Lib.hid ((B3.out.alloc hz3 _).trans (hb3.mono (Nat.le_trans hz3 (by simp))))
      clear hb3
      dsimp only []
      go_wp2_with fail
      refine (C4.out w3 B4.out).mono ?_
      rintro _ w4 ⟨A4, c4, rfl, hs4, hb4⟩
      have B5 := Lib.hid (B4.out.trans (hb4.mono B4.out.size))
      have cv := hs4.conv
      rw [show ([0, 0, 0, 0, 28, 223, 68, 33] : List Nat).length = 8 from rfl, none_str] at cv
      clear hb4 hs4
      dsimp only []
      go_wp2_with fail
      go_ret
      exact ⟨rfl, B5.out⟩


set_option maxRecDepth 8000 in
set_option maxHeartbeats 1600000 in
theorem scans_cut (A : Option Addr) (cp : Nat) (n0 : Nat) (h0 : 3000 < n0) (h0c : n0 ≤ 140737488355328) (l : List Nat) (w : World) (hs : Src w w.heap.size A cp l) (hcp : cp ≤ 9223372036854775807) (hn : l.length = 3000) (hby : ∀ x ∈ l, x < 256) (tab : Tab w) :
    Calls Tryd.prog 4 #[.slice A n0 cp] w fun e w' => e = .returned (.bool true) ∧ Below w.heap.size w w' := by
  have k0 : 3000 < (n0 : Int) := by omega
  have k1 : (3000 : Int) ≤ (cp : Int) := by have := hs.le; omega
  have C1 : Hid (Calls Tryd.prog 16 #[.slice A 3000 cp] w fun e w'' => ∃ A' c', e = .returned (.tuple #[.slice A' (scanP l).1.length c', .int .i64 ((scanP l).2.1 : Int), .int .i64 ((scanP l).2.2 : Int)]) ∧ OwnS w'' w.heap.size (.slice A' (scanP l).1.length c') (scanP l).1 ∧ Below w.heap.size w w'') := Lib.hid
    (scan_any A cp 3000 l w hs hn (by omega) hcp hby tab)
  have C2 : Hid (∀ w', Below w.heap.size w w' → Calls Tryd.prog 17 #[.slice A 3000 cp] w' fun e w'' => ∃ A' c', e = .returned (.tuple #[.slice A' (scanP l).1.length c', .int .i64 ((scanP l).2.1 : Int), .int .i64 ((scanP l).2.2 : Int)]) ∧ OwnS w'' w'.heap.size (.slice A' (scanP l).1.length c') (scanP l).1 ∧ Below w'.heap.size w' w'') := Lib.hid fun w' hb =>
    refScan_any A cp 3000 l w' ((hs.below hb).more hb.size) hn (by omega) hcp hby
  have C3 : Hid (∀ w', Below w.heap.size w w' → Calls Tryd.prog 11 #[.slice (some ⟨w'.heap.size, 0, none⟩) 8 8] (w'.alloc (.cells #[.int .u8 0, .int .u8 0, .int .u8 0, .int .u8 0, .int .u8 28, .int .u8 223, .int .u8 68, .int .u8 33] 5 (8, 9))) fun e w'' => ∃ A' c', e = .returned (.tuple #[.slice A' 0 c', .int .i64 8, .int .i64 0]) ∧ Below (w'.heap.size + 1) (w'.alloc (.cells #[.int .u8 0, .int .u8 0, .int .u8 0, .int .u8 0, .int .u8 28, .int .u8 223, .int .u8 68, .int .u8 33] 5 (8, 9))) w'') := Lib.hid fun w' hb => none_open w' (tab.below hb (Nat.le_refl _))
  have C4 : Hid (∀ w', Below w.heap.size w w' → Calls Tryd.prog 9 #[.slice none 0 0] w' fun e w'' => ∃ A' c', e = .returned (.tuple #[.slice A' 8 c', .int .i64 0]) ∧ Src w'' w''.heap.size A' c' [0, 0, 0, 0, 28, 223, 68, 33] ∧ Below w'.heap.size w' w'') := Lib.hid fun w' hb => none_made w' (tab.below hb (Nat.le_refl _))
  have hrl := scanP_count l
  rw [hn] at hrl
  obtain ⟨q, hq⟩ : ∃ q, q = scanP l := ⟨_, rfl⟩
  rw [← hq] at C1 C2 hrl
  obtain ⟨R, k, er⟩ := q
  simp only at C1 C2 hrl
  obtain ⟨m, hm⟩ : ∃ m, m = R.length := ⟨_, rfl⟩
  rw [← hm] at C1 C2 hrl
  replace hq := Lib.hid hq
  replace hm := Lib.hid hm
  replace hs := Lib.hid hs
  replace hby := Lib.hid hby
  replace hn := Lib.hid hn
  have htab := Lib.hid tab
  clear tab
  have hmb : m ≤ 3000 := by omega
  have kc := fun (w : World) (C : Array Value) (n c : Nat) => Lib.run_convert_bytes_const (P := Tryd.prog) w 23 5 C n c Tryd.underlying23 Tryd.underlying5
  go_enter Tryd.func4, Tryd.ntmps4
  go_wp2_with fail
  refine C1.out.mono ?_
  rintro _ w1 ⟨A1, c1, rfl, ho1, hb1⟩
  have B1 := Lib.hid hb1
  have O1 := Lib.hid ho1
  clear hb1 ho1
  dsimp only []
  go_wp2_with fail
  refine (C2.out w1 B1.out).mono ?_
  rintro _ w2 ⟨A2, c2, rfl, ho2, hb2⟩
  have B2 := Lib.hid (B1.out.trans (hb2.mono B1.out.size))
  have P1 := Lib.hid (O1.out.below hb2 (Nat.le_refl _) B1.out.size)
  have P2 := Lib.hid ho2
  have hz2 := B2.out.size
  have hz1 := hb2.size
  clear ho2 O1 hb2
  dsimp only []
  go_wp2_with fail
  go_loopw [9] (fun i wr => ∃ k : Nat, k ≤ m ∧ i = .int .i64 (k : Int) ∧ Hid (Below w2.heap.size w2 wr)) (fun i _ => m - (intOf i).toNat)
  case atStart => exact ⟨0, Nat.zero_le _, rfl, Lib.hid (Below.refl _ _)⟩
  case round =>
    obtain ⟨i, hi, rfl, HB⟩ := hrel
    have B3 := Lib.hid (B2.out.trans (HB.out.mono hz2))
    have hz3 := B3.out.size
    by_cases him : i < m
    · have Q1 := P1.out.below HB.out (Nat.le_refl _) hz2
      have Q2 := P2.out.below HB.out (Nat.le_refl _) hz1
      obtain ⟨A1', c1', e1, _, get1⟩ := Q1.form
      obtain ⟨A2', c2', e2, _, get2⟩ := Q2.form
      obtain ⟨g1, B1', d1, f1, cell1, sr1⟩ := get1 i (by rw [← hm.out]; exact him)
      obtain ⟨g2, B2', d2, f2, cell2, sr2⟩ := get2 i (by rw [← hm.out]; exact him)
      injection e1 with e11 e12 e13
      injection e2 with e21 e22 e23
      subst e11
      subst f1
      subst e21
      subst f2
      have hz4 := HB.out.size
      have cv1 := fun j => ((sr1.src hz3).below (below_drew wr j)).conv
      have cv2 := fun j => ((sr2.src (Nat.le_trans hz1 hz4)).below (below_drew wr j)).conv
      obtain ⟨r, hr⟩ : ∃ r, r = R[i]'(by rw [← hm.out]; exact him) := ⟨_, rfl⟩
      rw [← hr] at cell1 cell2 cv1 cv2
      obtain ⟨rn, hrn⟩ : ∃ rn, rn = r.length := ⟨_, rfl⟩
      rw [← hrn] at cell1 cell2 cv1 cv2
      obtain ⟨sr, hsr⟩ : ∃ sr, sr = strB r := ⟨_, rfl⟩
      rw [← hsr] at cv1 cv2
      replace hr := Lib.hid hr
      replace hrn := Lib.hid hrn
      replace hsr := Lib.hid hsr
      clear Q1 Q2 get1 get2 sr1 sr2
      replace e12 := Lib.hid e12
      replace e13 := Lib.hid e13
      replace e22 := Lib.hid e22
      replace e23 := Lib.hid e23
      have i0 : (0 : Int) ≤ (i : Int) := by omega
      have i1 : (i : Int) < (m : Int) := by omega
      go_wp2_with fail
      go_quiet (fail)
      go_wp2_with fail
      exact ⟨⟨i + 1, by omega, by go_num, Lib.hid (HB.out.trans (below_drew' HB.out.size nq))⟩, by simp [intOf]; omega⟩
    · go_wp2_with fail
      refine (C3.out wr B3.out).mono ?_
      rintro _ w3 ⟨A3, c3, rfl, hb3⟩
      have B4 := Lib.hid ((B3.out.alloc hz3 _).trans (hb3.mono (Nat.le_trans hz3 (by simp))))
      clear hb3
      dsimp only []
      go_wp2_with fail
      refine (C4.out w3 B4.out).mono ?_
      rintro _ w4 ⟨A4, c4, rfl, hs4, hb4⟩
      have B5 := Lib.hid (B4.out.trans (hb4.mono B4.out.size))
      have cv := hs4.conv
      rw [show ([0, 0, 0, 0, 28, 223, 68, 33] : List Nat).length = 8 from rfl, none_str] at cv
      clear hb4 hs4
      dsimp only []
      go_wp2_with fail
      go_ret
      exact ⟨rfl, B5.out⟩


theorem scans_walk (A : Option Addr) (cp : Nat) (l : List Nat) (w : World) (hs : Src w w.heap.size A cp l) (hcp : cp ≤ 140737488355328) (hby : ∀ x ∈ l, x < 256) (tab : Tab w) :
    Calls Tryd.prog 4 #[.slice A l.length cp] w fun e w' => e = .returned (.bool true) ∧ Below w.heap.size w w' := by
  have := hs.le
  by_cases h : l.length ≤ 3000
  · exact scans_in A cp l.length h l w hs (by omega) rfl hby tab
  · exact scans_cut A cp l.length (by omega) (by omega) (l.take 3000) w (hs.take 3000) (by omega) (by rw [List.length_take]; omega) (fun x hx => hby x (List.mem_of_mem_take hx)) tab
end Go.Proofs.YtklpjdcmppohkaaDoor
