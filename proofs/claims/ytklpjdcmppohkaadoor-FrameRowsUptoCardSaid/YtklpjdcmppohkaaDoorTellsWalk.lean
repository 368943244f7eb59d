/-
  FrameTells: its walk.
-/
import Derived.Test.YtklpjdcmppohkaaDoorFScan
import Derived.Test.YtklpjdcmppohkaaDoorFSeal
import Derived.Test.YtklpjdcmppohkaaDoorRefSeal
import Derived.Test.YtklpjdcmppohkaaDoorStr
import Derived.Lib.SlBytesConst
namespace Go.Proofs.YtklpjdcmppohkaaDoor
open Go.RowKit

theorem nine_crc : sumN [49, 50, 51, 52, 53, 54, 55, 56, 57] = 3421780262 := by decide +kernel
theorem Src.made (w : World) (l : List Nat) (fr : Nat × Nat) : Src (w.alloc (.cells (cellsB l).toArray 5 fr)) (w.heap.size + 1) (some ⟨w.heap.size, 0, none⟩) l.length l := by
  refine ⟨Nat.le_refl _, (by simp), fun ad e => ?_⟩
  injection e with e
  subst e
  refine ⟨fun _ => Nat.lt_succ_self _, fun j n hj => ?_⟩
  have h := World.news_of_block (cs := (cellsB l).toArray) (fr := fr) (heap_alloc_new w (.cells (cellsB l).toArray 5 fr)) j (.int .u8 (n : Int))
  exact h (by simp [cellsB, hj])
theorem nine_sum (w : World) (tab : Tab w) : Calls Tryd.prog 15 #[.slice (some ⟨w.heap.size, 0, none⟩) 9 9] (w.alloc (.cells #[.int .u8 49, .int .u8 50, .int .u8 51, .int .u8 52, .int .u8 53, .int .u8 54, .int .u8 55, .int .u8 56, .int .u8 57] 5 (9, 10))) fun e w'' => e = .returned (.int .u32 3421780262) ∧ w'' = w.alloc (.cells #[.int .u8 49, .int .u8 50, .int .u8 51, .int .u8 52, .int .u8 53, .int .u8 54, .int .u8 55, .int .u8 56, .int .u8 57] 5 (9, 10)) := by
  have h := sum_any (some ⟨w.heap.size, 0, none⟩) 9 9 [49, 50, 51, 52, 53, 54, 55, 56, 57] _ _ (Src.made w [49, 50, 51, 52, 53, 54, 55, 56, 57] (9, 10)) rfl (by omega) (by simp) (tab.below ((Below.refl _ _).alloc (Nat.le_refl _) _) (Nat.le_refl _))
  rw [nine_crc] at h
  exact h

set_option maxRecDepth 8000 in
set_option maxHeartbeats 1600000 in
theorem tells_in (A : Option Addr) (cp : Nat) (n : Nat) (h0 : n ≤ 3000) (l : List Nat) (sum : Nat) (w : World) (hs : Src w w.heap.size A cp l) (hcp : cp ≤ 9223372036854775807) (hn : l.length = n) (hby : ∀ x ∈ l, x < 256) (hsum : sum < 4294967296) (tab : Tab w) :
    Calls Tryd.prog 3 #[.int .u32 (sum : Int), .slice A n cp] w fun e w' => e = .returned (.bool true) ∧ Below w.heap.size w w' := by
  have k0 : ¬ (3000 < (n : Int)) := by omega
  have kb := Lib.hid (Below.refl w.heap.size w)
  have C1 : Hid (∀ w', Below w.heap.size w w' → Calls Tryd.prog 9 #[.slice A n cp] w' fun e w'' => ∃ A' c' N, e = .returned (.tuple #[.slice A' N c', .int .i64 0]) ∧ Hid (N = (sealP l).length) ∧ Hid (Src w'' w''.heap.size A' c' (sealP l)) ∧ Below w'.heap.size w' w'') := Lib.hid fun w' hb =>
    (seal_any A cp n l w' ((hs.below hb).more hb.size) hn (by omega) hby (tab.below hb (Nat.le_refl _))).mono fun e w'' ⟨A', c', h1, h2, h3⟩ => ⟨A', c', _, h1, Lib.hid (by rw [sealP_len, hn]), Lib.hid h2.src, h3⟩
  have C2 : Hid (∀ w', Below w.heap.size w w' → Calls Tryd.prog 10 #[.slice A n cp] w' fun e w'' => ∃ A' c' N, e = .returned (.tuple #[.slice A' N c', .int .i64 0]) ∧ Hid (N = (sealP l).length) ∧ Hid (Src w'' w''.heap.size A' c' (sealP l)) ∧ Below w'.heap.size w' w'') := Lib.hid fun w' hb =>
    (refSeal_any A cp n l w' ((hs.below hb).more hb.size) hn (by omega) hby).mono fun e w'' ⟨A', c', h1, h2, h3⟩ => ⟨A', c', _, h1, Lib.hid (by rw [sealP_len, hn]), Lib.hid h2.src, h3⟩
  have C3 : Hid (∀ w', Below w.heap.size w w' → Calls Tryd.prog 11 #[.slice A n cp] w' fun e w'' => ∃ A' c', e = .returned (.tuple #[.slice A' (openP l).1.length c', .int .i64 ((openP l).2.1 : Int), .int .i64 ((openP l).2.2 : Int)]) ∧ Hid (Src w'' w''.heap.size A' c' (openP l).1) ∧ Below w'.heap.size w' w'') := Lib.hid fun w' hb =>
    (open_any A cp n l w' ((hs.below hb).more hb.size) hn (by omega) hby (tab.below hb (Nat.le_refl _))).mono fun e w'' ⟨A', c', h1, h2, h3⟩ => ⟨A', c', h1, Lib.hid ((h2 0).src (Nat.zero_le _)), h3⟩
  have C4 : Hid (∀ w', Below w.heap.size w w' → Calls Tryd.prog 12 #[.slice A n cp] w' fun e w'' => ∃ A' c', e = .returned (.tuple #[.slice A' (openP l).1.length c', .int .i64 ((openP l).2.1 : Int), .int .i64 ((openP l).2.2 : Int)]) ∧ Hid (Src w'' w''.heap.size A' c' (openP l).1) ∧ Below w'.heap.size w' w'') := Lib.hid fun w' hb =>
    (refOpen_any A cp n l w' w'.heap.size ((hs.below hb).more hb.size) (Nat.le_refl _) hn (by omega) hcp hby).mono fun e w'' ⟨A', c', h1, h2, h3, h4⟩ => ⟨A', c', h1, Lib.hid (h2.more h4.size), h4⟩
  have C5 : Hid (∀ w', Below w.heap.size w w' → Calls Tryd.prog 13 #[.int .u32 (sum : Int), .slice A n cp] w' fun e w'' => e = .returned (.int .u32 ((crc (sum ^^^ 4294967295) l ^^^ 4294967295 : Nat) : Int)) ∧ w'' = w') := Lib.hid fun w' hb =>
    more_any A cp n l w' _ sum (hs.below hb) hn (by omega) hby hsum (tab.below hb (Nat.le_refl _))
  have C6 : Hid (∀ w', Below w.heap.size w w' → Calls Tryd.prog 14 #[.int .u32 (sum : Int), .slice A n cp] w' fun e w'' => e = .returned (.int .u32 ((crc (sum ^^^ 4294967295) l ^^^ 4294967295 : Nat) : Int)) ∧ w'' = w') := Lib.hid fun w' hb =>
    refMore_any A cp n l w' _ sum (hs.below hb) hn (by omega) hby hsum
  have C7 : Hid (∀ w', Below w.heap.size w w' → Calls Tryd.prog 15 #[.slice A n cp] w' fun e w'' => e = .returned (.int .u32 ((sumN l : Nat) : Int)) ∧ w'' = w') := Lib.hid fun w' hb =>
    sum_any A cp n l w' _ (hs.below hb) hn (by omega) hby (tab.below hb (Nat.le_refl _))
  have C8 : Hid (∀ w', Below w.heap.size w w' → Calls Tryd.prog 14 #[.int .u32 0, .slice A n cp] w' fun e w'' => e = .returned (.int .u32 ((sumN l : Nat) : Int)) ∧ w'' = w') := Lib.hid fun w' hb => by
    have := refMore_any A cp n l w' _ 0 (hs.below hb) hn (by omega) hby (by omega)
    rw [Nat.zero_xor] at this
    exact this
  have C9 : Hid (∀ w', Below w.heap.size w w' → Calls Tryd.prog 15 #[.slice (some ⟨w'.heap.size, 0, none⟩) 9 9] (w'.alloc (.cells #[.int .u8 49, .int .u8 50, .int .u8 51, .int .u8 52, .int .u8 53, .int .u8 54, .int .u8 55, .int .u8 56, .int .u8 57] 5 (9, 10))) fun e w'' => e = .returned (.int .u32 3421780262) ∧ w'' = w'.alloc (.cells #[.int .u8 49, .int .u8 50, .int .u8 51, .int .u8 52, .int .u8 53, .int .u8 54, .int .u8 55, .int .u8 56, .int .u8 57] 5 (9, 10))) := Lib.hid fun w' hb => nine_sum w' (tab.below hb (Nat.le_refl _))
  obtain ⟨X, hX⟩ : ∃ X, X = sealP l := ⟨_, rfl⟩
  obtain ⟨q, hq⟩ : ∃ q, q = openP l := ⟨_, rfl⟩
  rw [← hX] at C1 C2
  rw [← hq] at C3 C4
  obtain ⟨Y, k, er⟩ := q
  simp only at C3 C4
  obtain ⟨yn, hyn⟩ : ∃ yn, yn = Y.length := ⟨_, rfl⟩
  rw [← hyn] at C3 C4
  obtain ⟨v, hv⟩ : ∃ v, v = crc (sum ^^^ 4294967295) l ^^^ 4294967295 := ⟨_, rfl⟩
  rw [← hv] at C5 C6
  obtain ⟨u, hu⟩ : ∃ u, u = sumN l := ⟨_, rfl⟩
  rw [← hu] at C7 C8
  replace hX := Lib.hid hX
  replace hq := Lib.hid hq
  replace hv := Lib.hid hv
  replace hu := Lib.hid hu
  replace hyn := Lib.hid hyn
  replace hs := Lib.hid hs
  replace hby := Lib.hid hby
  replace hn := Lib.hid hn
  replace tab := Lib.hid tab
  have kc := fun (w : World) (C : Array Value) (n c : Nat) => Lib.run_convert_bytes_const (P := Tryd.prog) w 23 5 C n c Tryd.underlying23 Tryd.underlying5
  go_enter Tryd.func3, Tryd.ntmps3
  go_wp2_with fail
  refine (C1.out w kb.out).mono ?_
  rintro _ w1 ⟨A1, c1, N1, rfl, HN1, HS1, hb1⟩
  have B1 := Lib.hid hb1
  clear hb1
  dsimp only []
  go_wp2_with fail
  refine (C2.out w1 B1.out).mono ?_
  rintro _ w2 ⟨A2, c2, N2, rfl, HN2, HS2, hb2⟩
  have B2 := Lib.hid (B1.out.trans (hb2.mono B1.out.size))
  have T1 := Lib.hid ((HS1.out.below hb2).more hb2.size)
  clear hb2 HS1
  dsimp only []
  go_wp2_with fail
  refine (C3.out w2 B2.out).mono ?_
  rintro _ w3 ⟨A3, c3, rfl, HS3, hb3⟩
  have B3 := Lib.hid (B2.out.trans (hb3.mono B2.out.size))
  have U1 := Lib.hid ((T1.out.below hb3).more hb3.size)
  have U2 := Lib.hid ((HS2.out.below hb3).more hb3.size)
  clear hb3 HS2 T1
  dsimp only []
  go_wp2_with fail
  refine (C4.out w3 B3.out).mono ?_
  rintro _ w4 ⟨A4, c4, rfl, HS4, hb4⟩
  have B4 := Lib.hid (B3.out.trans (hb4.mono B3.out.size))
  have hz4 := B4.out.size
  have F1 := (U1.out.below hb4).conv
  have F2 := (U2.out.below hb4).conv
  have F3 := (HS3.out.below hb4).conv
  have F4 := HS4.out.conv
  rw [← HN1.out] at F1
  rw [← HN2.out] at F2
  rw [← hyn.out] at F3 F4
  clear hb4 HS3 HS4 U1 U2
  obtain ⟨sx, hsx⟩ : ∃ sx, sx = strB X := ⟨_, rfl⟩
  obtain ⟨sy, hsy⟩ : ∃ sy, sy = strB Y := ⟨_, rfl⟩
  rw [← hsx] at F1 F2
  rw [← hsy] at F3 F4
  replace hsx := Lib.hid hsx
  replace hsy := Lib.hid hsy
  dsimp only []
  go_wp2_with fail
  refine (C5.out w4 B4.out).mono ?_
  rintro _ w5 ⟨rfl, h2⟩
  subst w5
  dsimp only []
  go_wp2_with fail
  refine (C6.out w4 B4.out).mono ?_
  rintro _ w5 ⟨rfl, h2⟩
  subst w5
  dsimp only []
  go_wp2_with fail
  refine (C7.out w4 B4.out).mono ?_
  rintro _ w5 ⟨rfl, h2⟩
  subst w5
  dsimp only []
  go_wp2_with fail
  refine (C8.out w4 B4.out).mono ?_
  rintro _ w5 ⟨rfl, h2⟩
  subst w5
  dsimp only []
  go_wp2_with fail
  refine (C9.out w4 B4.out).mono ?_
  rintro _ w5 ⟨rfl, h2⟩
  subst w5
  dsimp only []
  go_wp2_with fail
  go_ret
  exact ⟨rfl, B4.out.alloc hz4 _⟩

set_option maxRecDepth 8000 in
set_option maxHeartbeats 1600000 in
theorem tells_cut (A : Option Addr) (cp : Nat) (n0 : Nat) (h0 : 3000 < n0) (h0c : n0 ≤ 140737488355328) (l : List Nat) (sum : Nat) (w : World) (hs : Src w w.heap.size A cp l) (hcp : cp ≤ 9223372036854775807) (hn : l.length = 3000) (hby : ∀ x ∈ l, x < 256) (hsum : sum < 4294967296) (tab : Tab w) :
    Calls Tryd.prog 3 #[.int .u32 (sum : Int), .slice A n0 cp] w fun e w' => e = .returned (.bool true) ∧ Below w.heap.size w w' := by
  have k0 : 3000 < (n0 : Int) := by omega
  have k1 : (3000 : Int) ≤ (cp : Int) := by have := hs.le; omega
  have kb := Lib.hid (Below.refl w.heap.size w)
  have C1 : Hid (∀ w', Below w.heap.size w w' → Calls Tryd.prog 9 #[.slice A 3000 cp] w' fun e w'' => ∃ A' c' N, e = .returned (.tuple #[.slice A' N c', .int .i64 0]) ∧ Hid (N = (sealP l).length) ∧ Hid (Src w'' w''.heap.size A' c' (sealP l)) ∧ Below w'.heap.size w' w'') := Lib.hid fun w' hb =>
    (seal_any A cp 3000 l w' ((hs.below hb).more hb.size) hn (by omega) hby (tab.below hb (Nat.le_refl _))).mono fun e w'' ⟨A', c', h1, h2, h3⟩ => ⟨A', c', _, h1, Lib.hid (by rw [sealP_len, hn]), Lib.hid h2.src, h3⟩
  have C2 : Hid (∀ w', Below w.heap.size w w' → Calls Tryd.prog 10 #[.slice A 3000 cp] w' fun e w'' => ∃ A' c' N, e = .returned (.tuple #[.slice A' N c', .int .i64 0]) ∧ Hid (N = (sealP l).length) ∧ Hid (Src w'' w''.heap.size A' c' (sealP l)) ∧ Below w'.heap.size w' w'') := Lib.hid fun w' hb =>
    (refSeal_any A cp 3000 l w' ((hs.below hb).more hb.size) hn (by omega) hby).mono fun e w'' ⟨A', c', h1, h2, h3⟩ => ⟨A', c', _, h1, Lib.hid (by rw [sealP_len, hn]), Lib.hid h2.src, h3⟩
  have C3 : Hid (∀ w', Below w.heap.size w w' → Calls Tryd.prog 11 #[.slice A 3000 cp] w' fun e w'' => ∃ A' c', e = .returned (.tuple #[.slice A' (openP l).1.length c', .int .i64 ((openP l).2.1 : Int), .int .i64 ((openP l).2.2 : Int)]) ∧ Hid (Src w'' w''.heap.size A' c' (openP l).1) ∧ Below w'.heap.size w' w'') := Lib.hid fun w' hb =>
    (open_any A cp 3000 l w' ((hs.below hb).more hb.size) hn (by omega) hby (tab.below hb (Nat.le_refl _))).mono fun e w'' ⟨A', c', h1, h2, h3⟩ => ⟨A', c', h1, Lib.hid ((h2 0).src (Nat.zero_le _)), h3⟩
  have C4 : Hid (∀ w', Below w.heap.size w w' → Calls Tryd.prog 12 #[.slice A 3000 cp] w' fun e w'' => ∃ A' c', e = .returned (.tuple #[.slice A' (openP l).1.length c', .int .i64 ((openP l).2.1 : Int), .int .i64 ((openP l).2.2 : Int)]) ∧ Hid (Src w'' w''.heap.size A' c' (openP l).1) ∧ Below w'.heap.size w' w'') := Lib.hid fun w' hb =>
    (refOpen_any A cp 3000 l w' w'.heap.size ((hs.below hb).more hb.size) (Nat.le_refl _) hn (by omega) hcp hby).mono fun e w'' ⟨A', c', h1, h2, h3, h4⟩ => ⟨A', c', h1, Lib.hid (h2.more h4.size), h4⟩
  have C5 : Hid (∀ w', Below w.heap.size w w' → Calls Tryd.prog 13 #[.int .u32 (sum : Int), .slice A 3000 cp] w' fun e w'' => e = .returned (.int .u32 ((crc (sum ^^^ 4294967295) l ^^^ 4294967295 : Nat) : Int)) ∧ w'' = w') := Lib.hid fun w' hb =>
    more_any A cp 3000 l w' _ sum (hs.below hb) hn (by omega) hby hsum (tab.below hb (Nat.le_refl _))
  have C6 : Hid (∀ w', Below w.heap.size w w' → Calls Tryd.prog 14 #[.int .u32 (sum : Int), .slice A 3000 cp] w' fun e w'' => e = .returned (.int .u32 ((crc (sum ^^^ 4294967295) l ^^^ 4294967295 : Nat) : Int)) ∧ w'' = w') := Lib.hid fun w' hb =>
    refMore_any A cp 3000 l w' _ sum (hs.below hb) hn (by omega) hby hsum
  have C7 : Hid (∀ w', Below w.heap.size w w' → Calls Tryd.prog 15 #[.slice A 3000 cp] w' fun e w'' => e = .returned (.int .u32 ((sumN l : Nat) : Int)) ∧ w'' = w') := Lib.hid fun w' hb =>
    sum_any A cp 3000 l w' _ (hs.below hb) hn (by omega) hby (tab.below hb (Nat.le_refl _))
  have C8 : Hid (∀ w', Below w.heap.size w w' → Calls Tryd.prog 14 #[.int .u32 0, .slice A 3000 cp] w' fun e w'' => e = .returned (.int .u32 ((sumN l : Nat) : Int)) ∧ w'' = w') := Lib.hid fun w' hb => by
    have := refMore_any A cp 3000 l w' _ 0 (hs.below hb) hn (by omega) hby (by omega)
    rw [Nat.zero_xor] at this
    exact this
  have C9 : Hid (∀ w', Below w.heap.size w w' → Calls Tryd.prog 15 #[.slice (some ⟨w'.heap.size, 0, none⟩) 9 9] (w'.alloc (.cells #[.int .u8 49, .int .u8 50, .int .u8 51, .int .u8 52, .int .u8 53, .int .u8 54, .int .u8 55, .int .u8 56, .int .u8 57] 5 (9, 10))) fun e w'' => e = .returned (.int .u32 3421780262) ∧ w'' = w'.alloc (.cells #[.int .u8 49, .int .u8 50, .int .u8 51, .int .u8 52, .int .u8 53, .int .u8 54, .int .u8 55, .int .u8 56, .int .u8 57] 5 (9, 10))) := Lib.hid fun w' hb => nine_sum w' (tab.below hb (Nat.le_refl _))
  obtain ⟨X, hX⟩ : ∃ X, X = sealP l := ⟨_, rfl⟩
  obtain ⟨q, hq⟩ : ∃ q, q = openP l := ⟨_, rfl⟩
  rw [← hX] at C1 C2
  rw [← hq] at C3 C4
  obtain ⟨Y, k, er⟩ := q
  simp only at C3 C4
  obtain ⟨yn, hyn⟩ : ∃ yn, yn = Y.length := ⟨_, rfl⟩
  rw [← hyn] at C3 C4
  obtain ⟨v, hv⟩ : ∃ v, v = crc (sum ^^^ 4294967295) l ^^^ 4294967295 := ⟨_, rfl⟩
  rw [← hv] at C5 C6
  obtain ⟨u, hu⟩ : ∃ u, u = sumN l := ⟨_, rfl⟩
  rw [← hu] at C7 C8
  replace hX := Lib.hid hX
  replace hq := Lib.hid hq
  replace hv := Lib.hid hv
  replace hu := Lib.hid hu
  replace hyn := Lib.hid hyn
  replace hs := Lib.hid hs
  replace hby := Lib.hid hby
  replace hn := Lib.hid hn
  replace tab := Lib.hid tab
  have kc := fun (w : World) (C : Array Value) (n c : Nat) => Lib.run_convert_bytes_const (P := Tryd.prog) w 23 5 C n c Tryd.underlying23 Tryd.underlying5
  go_enter Tryd.func3, Tryd.ntmps3
  go_wp2_with fail
  refine (C1.out w kb.out).mono ?_
  rintro _ w1 ⟨A1, c1, N1, rfl, HN1, HS1, hb1⟩
  have B1 := Lib.hid hb1
  clear hb1
  dsimp only []
  go_wp2_with fail
  refine (C2.out w1 B1.out).mono ?_
  rintro _ w2 ⟨A2, c2, N2, rfl, HN2, HS2, hb2⟩
  have B2 := Lib.hid (B1.out.trans (hb2.mono B1.out.size))
  have T1 := Lib.hid ((HS1.out.below hb2).more hb2.size)
  clear hb2 HS1
  dsimp only []
  go_wp2_with fail
  refine (C3.out w2 B2.out).mono ?_
  rintro _ w3 ⟨A3, c3, rfl, HS3, hb3⟩
  have B3 := Lib.hid (B2.out.trans (hb3.mono B2.out.size))
  have U1 := Lib.hid ((T1.out.below hb3).more hb3.size)
  have U2 := Lib.hid ((HS2.out.below hb3).more hb3.size)
  clear hb3 HS2 T1
  dsimp only []
  go_wp2_with fail
  refine (C4.out w3 B3.out).mono ?_
  rintro _ w4 ⟨A4, c4, rfl, HS4, hb4⟩
  have B4 := Lib.hid (B3.out.trans (hb4.mono B3.out.size))
  have hz4 := B4.out.size
  have F1 := (U1.out.below hb4).conv
  have F2 := (U2.out.below hb4).conv
  have F3 := (HS3.out.below hb4).conv
  have F4 := HS4.out.conv
  rw [← HN1.out] at F1
  rw [← HN2.out] at F2
  rw [← hyn.out] at F3 F4
  clear hb4 HS3 HS4 U1 U2
  obtain ⟨sx, hsx⟩ : ∃ sx, sx = strB X := ⟨_, rfl⟩
  obtain ⟨sy, hsy⟩ : ∃ sy, sy = strB Y := ⟨_, rfl⟩
  rw [← hsx] at F1 F2
  rw [← hsy] at F3 F4
  replace hsx := Lib.hid hsx
  replace hsy := Lib.hid hsy
  dsimp only []
  go_wp2_with fail
  refine (C5.out w4 B4.out).mono ?_
  rintro _ w5 ⟨rfl, h2⟩
  subst w5
  dsimp only []
  go_wp2_with fail
  refine (C6.out w4 B4.out).mono ?_
  rintro _ w5 ⟨rfl, h2⟩
  subst w5
  dsimp only []
  go_wp2_with fail
  refine (C7.out w4 B4.out).mono ?_
  rintro _ w5 ⟨rfl, h2⟩
  subst w5
  dsimp only []
  go_wp2_with fail
  refine (C8.out w4 B4.out).mono ?_
  rintro _ w5 ⟨rfl, h2⟩
  subst w5
  dsimp only []
  go_wp2_with fail
  refine (C9.out w4 B4.out).mono ?_
  rintro _ w5 ⟨rfl, h2⟩
  subst w5
  dsimp only []
  go_wp2_with fail
  go_ret
  exact ⟨rfl, B4.out.alloc hz4 _⟩

theorem tells_walk (A : Option Addr) (cp : Nat) (l : List Nat) (s : Int) (w : World) (hs : Src w w.heap.size A cp l) (hcp : cp ≤ 140737488355328) (hby : ∀ x ∈ l, x < 256) (h0 : 0 ≤ s) (h1 : s < 4294967296) (tab : Tab w) :
    Calls Tryd.prog 3 #[.int .u32 s, .slice A l.length cp] w fun e w' => e = .returned (.bool true) ∧ Below w.heap.size w w' := by
  obtain ⟨sum, rfl⟩ : ∃ n : Nat, s = (n : Int) := ⟨s.toNat, by omega⟩
  have := hs.le
  by_cases h : l.length ≤ 3000
  · exact tells_in A cp l.length h l sum w hs (by omega) rfl hby (by omega) tab
  · exact tells_cut A cp l.length (by omega) (by omega) (l.take 3000) sum w (hs.take 3000) (by omega) (by rw [List.length_take]; omega) (fun x hx => hby x (List.mem_of_mem_take hx)) (by omega) tab
end Go.Proofs.YtklpjdcmppohkaaDoor
