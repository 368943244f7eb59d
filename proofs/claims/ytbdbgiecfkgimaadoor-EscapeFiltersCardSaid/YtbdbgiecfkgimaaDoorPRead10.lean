/-
  The program's Read of any text.
-/
import Derived.Test.YtbdbgiecfkgimaaDoorPExt10
import Derived.Test.YtbdbgiecfkgimaaDoorEHPut
namespace Go.Proofs.YtbdbgiecfkgimaaDoor
open Go.RowKit

theorem read_bad1 {l : List Nat} (h : l.length < endE l) : readE l = none := by unfold readE; rw [if_pos h]
theorem read_bad2 {l : List Nat} (h : ¬ l.length < endE l) (h2 : badE l = true) : readE l = none := by unfold readE; rw [if_neg h, if_pos h2]
theorem read_dec {l : List Nat} (h : ¬ l.length < endE l) (h2 : badE l = false) : readE l = (decP ((l.take (solE l)).dropWhile (· == 32))).map fun x => (x, endE l) := by
  unfold readE
  rw [if_neg h, if_neg (by rw [h2]; decide), dec_sol l (by omega)]
theorem trimL_bs (s : ByteArray) : bs ⟨(Lib.trimLeftB s.data.toList 32).toArray⟩ = (bs s).dropWhile (· == 32) := by
  have key : ∀ l : List UInt8, (l.dropWhile (· == 32)).map UInt8.toNat = (l.map UInt8.toNat).dropWhile (· == 32) := fun l => by
    induction l with
    | nil => rfl
    | cons c l ih =>
      by_cases h : c = 32
      · subst h
        rw [List.dropWhile_cons_of_pos (by rfl), ih]
        show _ = (32 :: l.map UInt8.toNat).dropWhile _
        rw [List.dropWhile_cons_of_pos (by rfl)]
      · have h2 : ¬ c.toNat = 32 := fun e => h (UInt8.toNat_inj.1 (by rw [e]; rfl))
        rw [List.dropWhile_cons_of_neg (by simpa using h)]
        show _ = (c.toNat :: l.map UInt8.toNat).dropWhile _
        rw [List.dropWhile_cons_of_neg (by simpa using h2)]
        rfl
  exact key s.data.toList
set_option maxRecDepth 4000 in
set_option maxHeartbeats 3200000 in
theorem pread_any (s : ByteArray) (w : World) (hs : s.size ≤ 2000) :
    Calls Tryd.prog 12 #[.string s] w fun e w' => e = .returned (readV (readE (bs s))) ∧ Below w.heap.size w w' := by
  have CX := pextent_any s w hs
  have hl := bs_len s
  have hle := sol_le _ (bs s) (Nat.le_refl _)
  have hrd1 := @read_bad1 (bs s)
  have hrd2 := @read_bad2 (bs s)
  have hrd3 := @read_dec (bs s)
  have hbd : badE (bs s) = match (bs s)[endE (bs s)]? with
    | some c => sharpE c
    | none => false := rfl
  obtain ⟨E, hE⟩ : ∃ E, endE (bs s) = E := ⟨_, rfl⟩
  obtain ⟨S, hS⟩ : ∃ S, solE (bs s) = S := ⟨_, rfl⟩
  rw [hE, hl] at hrd1 hrd2
  rw [hE, hS, hl] at hrd3
  rw [hE, hS] at CX hle
  rw [hE] at hbd
  replace hE := Lib.hid hE
  replace hS := Lib.hid hS
  by_cases hov : s.size < E
  · have e1 : decide (E ≤ s.size) = false := decide_eq_false (by omega)
    rw [e1] at CX
    rw [hrd1 hov]
    clear hrd1 hrd2 hrd3 hbd hle
    replace CX := Lib.hid CX
    go_enter Tryd.func12, Tryd.ntmps12
    go_wp2_with fail
    refine CX.out.mono ?_
    rintro _ w2 ⟨rfl, h2⟩
    subst w2
    dsimp only []
    go_wp2_with fail
    go_returns
    exact ⟨rfl, Below.refl _ _⟩
  · have e1 : decide (E ≤ s.size) = true := decide_eq_true (by omega)
    rw [e1] at CX
    replace CX := Lib.hid CX
    have hS2 : (S : Int) ≤ (s.size : Int) := by omega
    have hS3 : (0 : Int) ≤ (S : Int) := by omega
    obtain ⟨x, hx⟩ : ∃ x, s.extract 0 S = x := ⟨_, rfl⟩
    have hxb : bs x = (bs s).take S := by rw [← hx, bs_extract]; rfl
    have hxs : x.size ≤ 2000 := by
      rw [← bs_len, hxb, List.length_take]
      omega
    have CT := Tryd.strings_TrimLeft_one x 32 (by decide) w
    have hyb := trimL_bs x
    obtain ⟨y, hy⟩ : ∃ y : ByteArray, ⟨(Lib.trimLeftB x.data.toList 32).toArray⟩ = y := ⟨_, rfl⟩
    rw [hy] at CT hyb
    have hys : y.size ≤ 2000 := by
      rw [← bs_len, hyb]
      have := (List.dropWhile_sublist (l := bs x) (p := (· == 32))).length_le
      rw [bs_len x] at this
      omega
    have CD := pdecode_any y w hys
    rw [hyb, hxb] at CD
    replace CT := Lib.hid CT
    replace hyb := Lib.hid hyb
    replace hxb := Lib.hid hxb
    replace hy := Lib.hid hy
    by_cases hlt : E < s.size
    · have i1 : (E : Int) < (s.size : Int) := by omega
      have i0 : (0 : Int) ≤ (E : Int) := by omega
      have b1 := byte_lt s E hlt
      have hat := bs_atE s E hlt
      obtain ⟨a, ha⟩ : ∃ a, s[E].toNat = a := ⟨_, rfl⟩
      have hai : ((s[E].toNat : Nat) : Int) = (a : Int) := by rw [ha]
      rw [ha] at b1 hat
      rw [hat] at hbd
      have hbd : badE (bs s) = sharpE a := hbd
      have CA := pamong_any ⟨#[34, 60, 62, 61]⟩ a b1 w
      rw [wrong_bs, ← hbd] at CA
      replace ha := Lib.hid ha
      replace hat := Lib.hid hat
      replace hbd := Lib.hid hbd
      cases hbb : badE (bs s)
      · rw [hbb] at CA
        rw [hrd3 hov hbb]
        replace CA := Lib.hid CA
        clear hrd1 hrd2 hrd3
        rcases hp : decP (((bs s).take S).dropWhile (· == 32)) with _ | v
        · rw [hp] at CD
          replace CD : Hid (Calls Tryd.prog 30 #[.string y] w fun e w' => e = .returned (.tuple #[.string ⟨#[]⟩, .bool false]) ∧ Below w.heap.size w w') := Lib.hid CD
          replace hp := Lib.hid hp
          replace hbb := Lib.hid hbb
          go_enter Tryd.func12, Tryd.ntmps12
          go_wp2_with fail
          refine CX.out.mono ?_
          rintro _ w2 ⟨rfl, h2⟩
          subst w2
          dsimp only []
          go_wp2_with fail
          refine CA.out.mono ?_
          rintro _ w2 ⟨rfl, h2⟩
          subst w2
          dsimp only []
          go_wp2_with fail
          refine CT.out.mono ?_
          rintro _ w2 ⟨rfl, h2⟩
          subst w2
          dsimp only []
          go_wp2_with fail
          refine CD.out.mono ?_
          rintro _ w2 ⟨rfl, h2⟩
          replace h2 := Lib.hid h2
          dsimp only []
          go_wp2_with fail
          go_returns
          exact ⟨rfl, h2.out⟩
        · rw [hp] at CD
          replace CD : Hid (Calls Tryd.prog 30 #[.string y] w fun e w' => e = .returned (.tuple #[.string (strB v), .bool true]) ∧ Below w.heap.size w w') := Lib.hid CD
          replace hp := Lib.hid hp
          replace hbb := Lib.hid hbb
          go_enter Tryd.func12, Tryd.ntmps12
          go_wp2_with fail
          refine CX.out.mono ?_
          rintro _ w2 ⟨rfl, h2⟩
          subst w2
          dsimp only []
          go_wp2_with fail
          refine CA.out.mono ?_
          rintro _ w2 ⟨rfl, h2⟩
          subst w2
          dsimp only []
          go_wp2_with fail
          refine CT.out.mono ?_
          rintro _ w2 ⟨rfl, h2⟩
          subst w2
          dsimp only []
          go_wp2_with fail
          refine CD.out.mono ?_
          rintro _ w2 ⟨rfl, h2⟩
          replace h2 := Lib.hid h2
          dsimp only []
          go_wp2_with fail
          go_returns
          exact ⟨rfl, h2.out⟩
      · rw [hbb] at CA
        rw [hrd2 hov hbb]
        replace CA := Lib.hid CA
        clear hrd1 hrd2 hrd3 CD
        replace hbb := Lib.hid hbb
        go_enter Tryd.func12, Tryd.ntmps12
        go_wp2_with fail
        refine CX.out.mono ?_
        rintro _ w2 ⟨rfl, h2⟩
        subst w2
        dsimp only []
        go_wp2_with fail
        refine CA.out.mono ?_
        rintro _ w2 ⟨rfl, h2⟩
        subst w2
        dsimp only []
        go_wp2_with fail
        go_returns
        exact ⟨rfl, Below.refl _ _⟩
    · have i1 : ¬ (E : Int) < (s.size : Int) := by omega
      have hbb : badE (bs s) = false := by
        rw [hbd, List.getElem?_eq_none (by rw [hl]; omega)]
      rw [hrd3 hov hbb]
      clear hrd1 hrd2 hrd3 hbd
      replace hbb := Lib.hid hbb
      rcases hp : decP (((bs s).take S).dropWhile (· == 32)) with _ | v
      · rw [hp] at CD
        replace CD : Hid (Calls Tryd.prog 30 #[.string y] w fun e w' => e = .returned (.tuple #[.string ⟨#[]⟩, .bool false]) ∧ Below w.heap.size w w') := Lib.hid CD
        replace hp := Lib.hid hp
        go_enter Tryd.func12, Tryd.ntmps12
        go_wp2_with fail
        refine CX.out.mono ?_
        rintro _ w2 ⟨rfl, h2⟩
        subst w2
        dsimp only []
        go_wp2_with fail
        refine CT.out.mono ?_
        rintro _ w2 ⟨rfl, h2⟩
        subst w2
        dsimp only []
        go_wp2_with fail
        refine CD.out.mono ?_
        rintro _ w2 ⟨rfl, h2⟩
        replace h2 := Lib.hid h2
        dsimp only []
        go_wp2_with fail
        go_returns
        exact ⟨rfl, h2.out⟩
      · rw [hp] at CD
        replace CD : Hid (Calls Tryd.prog 30 #[.string y] w fun e w' => e = .returned (.tuple #[.string (strB v), .bool true]) ∧ Below w.heap.size w w') := Lib.hid CD
        replace hp := Lib.hid hp
        go_enter Tryd.func12, Tryd.ntmps12
        go_wp2_with fail
        refine CX.out.mono ?_
        rintro _ w2 ⟨rfl, h2⟩
        subst w2
        dsimp only []
        go_wp2_with fail
        refine CT.out.mono ?_
        rintro _ w2 ⟨rfl, h2⟩
        subst w2
        dsimp only []
        go_wp2_with fail
        refine CD.out.mono ?_
        rintro _ w2 ⟨rfl, h2⟩
        replace h2 := Lib.hid h2
        dsimp only []
        go_wp2_with fail
        go_returns
        exact ⟨rfl, h2.out⟩
end Go.Proofs.YtbdbgiecfkgimaaDoor
