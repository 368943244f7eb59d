/-
  The program's escaped: what a text begins with behind a backslash.
-/
import Derived.Test.YtbdbgiecfkgimaaDoorPUnhex10
import Derived.Test.YtbdbgiecfkgimaaDoorUnesc10
import Derived.Test.YtbdbgiecfkgimaaDoorFDat
namespace Go.Proofs.YtbdbgiecfkgimaaDoor
open Go.RowKit

def escV : Option (Nat × Nat) → Value
  | some x => .tuple #[.string (strB [x.1]), .int .i64 (x.2 : Int)]
  | none => .tuple #[.string ⟨#[]⟩, .int .i64 0]
set_option maxRecDepth 4000 in
set_option maxHeartbeats 1600000 in
theorem pescaped_any (s t : ByteArray) (w : World) (hs : s.size ≤ 2000) :
    Calls Tryd.prog 40 #[.string s, .string t] w fun e w' => e = .returned (escV (escD (fun a => decide (a ∈ bs t)) (bs s))) ∧ Below w.heap.size w w' := by
  by_cases h0 : s.size = 0
  · have hb : bs s = [] := List.eq_nil_of_length_eq_zero (by rw [bs_len, h0])
    obtain rfl : s = ⟨#[]⟩ := bs_inj hb
    rw [hb]
    clear hb h0 hs
    go_enter Tryd.func40, Tryd.ntmps40
    go_wp2_with fail
    go_ret2
    exact ⟨rfl, Below.refl _ _⟩
  · have f1 : ¬ s.toList = [] := fun e => h0 (by
      have : (bs s).length = 0 := by
        unfold bs
        rw [← ByteArray.toList_eq, e]
        rfl
      rw [bs_len] at this
      exact this)
    have f2 : s.toList.isEmpty = false := by simpa using f1
    have hl0 : 0 < s.size := by omega
    obtain ⟨u, hu⟩ := bs_cons s hl0
    have b1 := byte_lt s 0 hl0
    obtain ⟨a, ha⟩ : ∃ a, s[0].toNat = a := ⟨_, rfl⟩
    have hai : ((s[0].toNat : Nat) : Int) = (a : Int) := by rw [ha]
    rw [ha] at b1 hu
    have CA := pamong_any t a b1 w
    replace ha := Lib.hid ha
    have i1 : (0 : Int) < (s.size : Int) := by omega
    rw [hu, escD_cons]
    cases hin : decide (a ∈ bs t)
    · rw [hin] at CA
      rw [if_neg (by decide)]
      replace CA := Lib.hid CA
      replace hin := Lib.hid hin
      by_cases h2 : s.size < 2
      · have j1 : (s.size : Int) < 2 := by omega
        have hu0 : u = [] := by
          have := congrArg List.length hu
          rw [bs_len, List.length_cons] at this
          exact List.eq_nil_of_length_eq_zero (by omega)
        rw [hu0]
        replace hu := Lib.hid hu
        replace hu0 := Lib.hid hu0
        go_enter Tryd.func40, Tryd.ntmps40
        go_wp2_with fail
        refine CA.out.mono ?_
        rintro _ w2 ⟨rfl, h2⟩
        subst w2
        dsimp only []
        go_wp2_with fail
        go_ret2
        exact ⟨rfl, Below.refl _ _⟩
      · have j1 : ¬ (s.size : Int) < 2 := by omega
        have j2 : (2 : Int) ≤ (s.size : Int) := by omega
        obtain ⟨y, hy⟩ : ∃ y, s.extract 0 2 = y := ⟨_, rfl⟩
        have hy2 := bs_extract s 0 2
        rw [hy, hu] at hy2
        rcases u with _ | ⟨b, v⟩
        · exfalso
          have := congrArg List.length hu
          rw [bs_len] at this
          simp only [List.length_cons, List.length_nil] at this
          omega
        · have hy2 : bs y = [a, b] := hy2
          have hysz : y.size = 2 := by rw [← bs_len, hy2]; rfl
          have CU := fun W => punhex_any y W (by omega)
          have hux : unhexE (bs y) = (pairE a b).map fun x => [x] := by
            rw [hy2]
            unfold unhexE
            cases pairE a b <;> rfl
          simp only [hux] at CU
          replace hu := Lib.hid hu
          replace hy2 := Lib.hid hy2
          replace hux := Lib.hid hux
          show Calls _ _ _ _ fun e w' => e = .returned (escV ((pairE a b).map fun x => (x, 2))) ∧ _
          rcases hp : pairE a b with _ | x
          · simp only [hp] at CU
            replace CU : Hid (∀ W, Calls Tryd.prog 13 #[.string y] W fun e w' => e = .returned (.tuple #[.string ⟨#[]⟩, .bool false]) ∧ Below W.heap.size W w') := Lib.hid CU
            replace hp := Lib.hid hp
            go_enter Tryd.func40, Tryd.ntmps40
            go_wp2_with fail
            refine CA.out.mono ?_
            rintro _ w2 ⟨rfl, h2⟩
            subst w2
            dsimp only []
            go_wp2_with fail
            refine (CU.out _).mono ?_
            rintro _ w2 ⟨rfl, h2⟩
            replace h2 := Lib.hid h2
            dsimp only []
            go_wp2_with fail
            go_ret2
            exact ⟨rfl, h2.out⟩
          · simp only [hp] at CU
            replace CU : Hid (∀ W, Calls Tryd.prog 13 #[.string y] W fun e w' => e = .returned (.tuple #[.string (strB [x]), .bool true]) ∧ Below W.heap.size W w') := Lib.hid CU
            replace hp := Lib.hid hp
            go_enter Tryd.func40, Tryd.ntmps40
            go_wp2_with fail
            refine CA.out.mono ?_
            rintro _ w2 ⟨rfl, h2⟩
            subst w2
            dsimp only []
            go_wp2_with fail
            refine (CU.out _).mono ?_
            rintro _ w2 ⟨rfl, h2⟩
            replace h2 := Lib.hid h2
            dsimp only []
            go_wp2_with fail
            go_ret2
            exact ⟨rfl, h2.out⟩
    · rw [hin] at CA
      rw [if_pos rfl]
      have j1 : (1 : Int) ≤ (s.size : Int) := by omega
      obtain ⟨y, hy⟩ : ∃ y, s.extract 0 1 = y := ⟨_, rfl⟩
      have hy2 := bs_extract s 0 1
      rw [hy, hu] at hy2
      have hy3 : y = strB [a] := by rw [← strB_bs y, hy2]; rfl
      replace CA := Lib.hid CA
      replace hin := Lib.hid hin
      replace hu := Lib.hid hu
      replace hy2 := Lib.hid hy2
      replace hy3 := Lib.hid hy3
      go_enter Tryd.func40, Tryd.ntmps40
      go_wp2_with fail
      refine CA.out.mono ?_
      rintro _ w2 ⟨rfl, h2⟩
      subst w2
      dsimp only []
      go_wp2_with fail
      go_ret2
      exact ⟨by rw [hy3.out]; rfl, Below.refl _ _⟩
end Go.Proofs.YtbdbgiecfkgimaaDoor
