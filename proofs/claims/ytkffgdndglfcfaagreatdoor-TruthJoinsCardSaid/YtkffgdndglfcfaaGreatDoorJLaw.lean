/-
  The law of outcomes, over what filter.Parse and filter.Right answer.
-/
import Derived.Test.YtkffgdndglfcfaaGreatDoorJEval
import Derived.Test.YtkffgdndglfcfaaGreatDoorFltHyp
namespace Go.Proofs.YtkffgdndglfcfaaGreatDoor.J15
open Go.RowKit Go.Proofs.YtkffgdndglfcfaaGreatDoor.O7

set_option maxRecDepth 8000 in
theorem Either_any (a b : Int) (w : World) : Calls Tryz.prog 17 #[.int .i64 a, .int .i64 b] w fun en w' => en = .returned (.int .i64 (numI (e3 (outI a) (outI b)))) ∧ Below w.heap.size w w' := by
  have CO := Lib.hid fun a W => outcomeOf_any a W
  have CB := Lib.hid fun W => either_any (outI a) (outI b) W
  have CN := Lib.hid fun W => number_any (e3 (outI a) (outI b)) W
  go_enter Tryz.func17, Tryz.ntmps17
  go_wp2_with fail
  refine (CO.out a _).mono ?_
  rintro _ w1 ⟨rfl, hb1⟩
  replace hb1 := Lib.hid hb1
  dsimp only []
  go_wp2_with fail
  refine (CO.out b _).mono ?_
  rintro _ w2 ⟨rfl, hb2⟩
  have hB2 := Lib.hid (hb1.out.trans (hb2.mono hb1.out.size))
  dsimp only []
  go_wp2_with fail
  refine (CB.out _).mono ?_
  rintro _ w3 ⟨rfl, hb3⟩
  have hB3 := Lib.hid (hB2.out.trans (hb3.mono hB2.out.size))
  dsimp only []
  go_wp2_with fail
  refine (CN.out _).mono ?_
  rintro _ w4 ⟨rfl, hb4⟩
  have hB4 := Lib.hid (hB3.out.trans (hb4.mono hB3.out.size))
  dsimp only []
  go_wp2_with fail
  go_ret
  exact ⟨rfl, hB4.out⟩
/-! The document's answers. -/
theorem outI_zero : outI 0 = some false := rfl
theorem outI_one : outI 1 = some true := rfl
theorem outI_no {a : Int} (h0 : ¬ a = 0) (h1 : ¬ a = 1) : outI a = none := by unfold outI; rw [if_neg h0, if_neg h1]
set_option maxRecDepth 8000 in
theorem refBoth_any (a b : Int) (w : World) : Calls Tryz.prog 16 #[.int .i64 a, .int .i64 b] w fun en w' => en = .returned (.int .i64 (numI (b3 (outI a) (outI b)))) ∧ w' = w := by
  by_cases ha0 : a = 0
  · subst ha0
    by_cases hb0 : b = 0
    · subst hb0
      rw [show (numI (b3 (outI 0) (outI 0)) : Int) = 0 by simp only [outI_zero]; rfl]
      go_enter Tryz.func16, Tryz.ntmps16
      go_wp2_with fail
      go_ret
      exact ⟨rfl, rfl⟩
    by_cases hb1 : b = 1
    · subst hb1
      rw [show (numI (b3 (outI 0) (outI 1)) : Int) = 0 by simp only [outI_one, outI_zero]; rfl]
      go_enter Tryz.func16, Tryz.ntmps16
      go_wp2_with fail
      go_ret
      exact ⟨rfl, rfl⟩
    rw [show (numI (b3 (outI 0) (outI b)) : Int) = 0 by simp only [outI_no hb0 hb1, outI_zero]; rfl]
    have kb0 : (b == 0) = false := by simpa using hb0
    have kb1 : (b == 1) = false := by simpa using hb1
    go_enter Tryz.func16, Tryz.ntmps16
    go_wp2_with fail
    go_ret
    exact ⟨rfl, rfl⟩
  by_cases ha1 : a = 1
  · subst ha1
    by_cases hb0 : b = 0
    · subst hb0
      rw [show (numI (b3 (outI 1) (outI 0)) : Int) = 0 by simp only [outI_one, outI_zero]; rfl]
      go_enter Tryz.func16, Tryz.ntmps16
      go_wp2_with fail
      go_ret
      exact ⟨rfl, rfl⟩
    by_cases hb1 : b = 1
    · subst hb1
      rw [show (numI (b3 (outI 1) (outI 1)) : Int) = 1 by simp only [outI_one]; rfl]
      go_enter Tryz.func16, Tryz.ntmps16
      go_wp2_with fail
      go_ret
      exact ⟨rfl, rfl⟩
    rw [show (numI (b3 (outI 1) (outI b)) : Int) = 2 by simp only [outI_no hb0 hb1, outI_one]; rfl]
    have kb0 : (b == 0) = false := by simpa using hb0
    have kb1 : (b == 1) = false := by simpa using hb1
    go_enter Tryz.func16, Tryz.ntmps16
    go_wp2_with fail
    go_ret
    exact ⟨rfl, rfl⟩
  by_cases hb0 : b = 0
  · subst hb0
    rw [show (numI (b3 (outI a) (outI 0)) : Int) = 0 by simp only [outI_no ha0 ha1, outI_zero]; rfl]
    have ka0 : (a == 0) = false := by simpa using ha0
    have ka1 : (a == 1) = false := by simpa using ha1
    go_enter Tryz.func16, Tryz.ntmps16
    go_wp2_with fail
    go_ret
    exact ⟨rfl, rfl⟩
  by_cases hb1 : b = 1
  · subst hb1
    rw [show (numI (b3 (outI a) (outI 1)) : Int) = 2 by simp only [outI_no ha0 ha1, outI_one]; rfl]
    have ka0 : (a == 0) = false := by simpa using ha0
    have ka1 : (a == 1) = false := by simpa using ha1
    go_enter Tryz.func16, Tryz.ntmps16
    go_wp2_with fail
    go_ret
    exact ⟨rfl, rfl⟩
  rw [show (numI (b3 (outI a) (outI b)) : Int) = 2 by simp only [outI_no ha0 ha1, outI_no hb0 hb1]; rfl]
  have ka0 : (a == 0) = false := by simpa using ha0
  have ka1 : (a == 1) = false := by simpa using ha1
  have kb0 : (b == 0) = false := by simpa using hb0
  have kb1 : (b == 1) = false := by simpa using hb1
  go_enter Tryz.func16, Tryz.ntmps16
  go_wp2_with fail
  go_ret
  exact ⟨rfl, rfl⟩
set_option maxRecDepth 8000 in
theorem refEither_any (a b : Int) (w : World) : Calls Tryz.prog 18 #[.int .i64 a, .int .i64 b] w fun en w' => en = .returned (.int .i64 (numI (e3 (outI a) (outI b)))) ∧ w' = w := by
  by_cases ha0 : a = 0
  · subst ha0
    by_cases hb0 : b = 0
    · subst hb0
      rw [show (numI (e3 (outI 0) (outI 0)) : Int) = 0 by simp only [outI_zero]; rfl]
      go_enter Tryz.func18, Tryz.ntmps18
      go_wp2_with fail
      go_ret
      exact ⟨rfl, rfl⟩
    by_cases hb1 : b = 1
    · subst hb1
      rw [show (numI (e3 (outI 0) (outI 1)) : Int) = 1 by simp only [outI_one, outI_zero]; rfl]
      go_enter Tryz.func18, Tryz.ntmps18
      go_wp2_with fail
      go_ret
      exact ⟨rfl, rfl⟩
    rw [show (numI (e3 (outI 0) (outI b)) : Int) = 2 by simp only [outI_no hb0 hb1, outI_zero]; rfl]
    have kb0 : (b == 0) = false := by simpa using hb0
    have kb1 : (b == 1) = false := by simpa using hb1
    go_enter Tryz.func18, Tryz.ntmps18
    go_wp2_with fail
    go_ret
    exact ⟨rfl, rfl⟩
  by_cases ha1 : a = 1
  · subst ha1
    by_cases hb0 : b = 0
    · subst hb0
      rw [show (numI (e3 (outI 1) (outI 0)) : Int) = 1 by simp only [outI_one, outI_zero]; rfl]
      go_enter Tryz.func18, Tryz.ntmps18
      go_wp2_with fail
      go_ret
      exact ⟨rfl, rfl⟩
    by_cases hb1 : b = 1
    · subst hb1
      rw [show (numI (e3 (outI 1) (outI 1)) : Int) = 1 by simp only [outI_one]; rfl]
      go_enter Tryz.func18, Tryz.ntmps18
      go_wp2_with fail
      go_ret
      exact ⟨rfl, rfl⟩
    rw [show (numI (e3 (outI 1) (outI b)) : Int) = 1 by simp only [outI_no hb0 hb1, outI_one]; rfl]
    have kb0 : (b == 0) = false := by simpa using hb0
    have kb1 : (b == 1) = false := by simpa using hb1
    go_enter Tryz.func18, Tryz.ntmps18
    go_wp2_with fail
    go_ret
    exact ⟨rfl, rfl⟩
  by_cases hb0 : b = 0
  · subst hb0
    rw [show (numI (e3 (outI a) (outI 0)) : Int) = 2 by simp only [outI_no ha0 ha1, outI_zero]; rfl]
    have ka0 : (a == 0) = false := by simpa using ha0
    have ka1 : (a == 1) = false := by simpa using ha1
    go_enter Tryz.func18, Tryz.ntmps18
    go_wp2_with fail
    go_ret
    exact ⟨rfl, rfl⟩
  by_cases hb1 : b = 1
  · subst hb1
    rw [show (numI (e3 (outI a) (outI 1)) : Int) = 1 by simp only [outI_no ha0 ha1, outI_one]; rfl]
    have ka0 : (a == 0) = false := by simpa using ha0
    have ka1 : (a == 1) = false := by simpa using ha1
    go_enter Tryz.func18, Tryz.ntmps18
    go_wp2_with fail
    go_ret
    exact ⟨rfl, rfl⟩
  rw [show (numI (e3 (outI a) (outI b)) : Int) = 2 by simp only [outI_no ha0 ha1, outI_no hb0 hb1]; rfl]
  have ka0 : (a == 0) = false := by simpa using ha0
  have ka1 : (a == 1) = false := by simpa using ha1
  have kb0 : (b == 0) = false := by simpa using hb0
  have kb1 : (b == 1) = false := by simpa using hb1
  go_enter Tryz.func18, Tryz.ntmps18
  go_wp2_with fail
  go_ret
  exact ⟨rfl, rfl⟩
set_option maxRecDepth 8000 in
theorem refTurned_any (a : Int) (w : World) : Calls Tryz.prog 20 #[.int .i64 a] w fun en w' => en = .returned (.int .i64 (numI (t3 (outI a)))) ∧ w' = w := by
  by_cases ha0 : a = 0
  · subst ha0
    rw [show (numI (t3 (outI 0)) : Int) = 1 by simp only [outI_zero]; rfl]
    go_enter Tryz.func20, Tryz.ntmps20
    go_wp2_with fail
    go_ret
    exact ⟨rfl, rfl⟩
  by_cases ha1 : a = 1
  · subst ha1
    rw [show (numI (t3 (outI 1)) : Int) = 0 by simp only [outI_one]; rfl]
    go_enter Tryz.func20, Tryz.ntmps20
    go_wp2_with fail
    go_ret
    exact ⟨rfl, rfl⟩
  rw [show (numI (t3 (outI a)) : Int) = 2 by simp only [outI_no ha0 ha1]; rfl]
  have ka0 : (a == 0) = false := by simpa using ha0
  have ka1 : (a == 1) = false := by simpa using ha1
  go_enter Tryz.func20, Tryz.ntmps20
  go_wp2_with fail
  go_ret
  exact ⟨rfl, rfl⟩
set_option maxRecDepth 8000 in
set_option maxHeartbeats 800000 in
theorem EvalJ_any (bl off kc : Nat) (Ak Ab Ab1 : Option Addr) (ck cb cb1 g o : Nat) (w : World) (HT : TabA w g o) (hbl : bl < w.heap.size)
    (HR : ∀ W, Below w.heap.size w W → Calls Tryz.prog 7 #[.agg #[.int .i64 2, .slice (some ⟨bl, off, none⟩) 1 kc, .string ⟨#[]⟩, .string ⟨#[]⟩, .string ⟨#[]⟩, .string ⟨#[]⟩, .slice Ab1 0 cb1]] W fun en w' => en = .returned (.bool true) ∧ Below W.heap.size W w') (k0 : w.cell? ⟨bl, off, none⟩ = some (.int .i64 3)) (k1 : w.cell? ⟨bl, off + 1, none⟩ = some (.slice Ak 0 ck)) (k2 : w.cell? ⟨bl, off + 2, none⟩ = some (.string ⟨#[120]⟩)) (k3 : w.cell? ⟨bl, off + 3, none⟩ = some (.string ⟨#[49]⟩)) (k4 : w.cell? ⟨bl, off + 4, none⟩ = some (.string ⟨#[]⟩)) (k5 : w.cell? ⟨bl, off + 5, none⟩ = some (.string ⟨#[]⟩)) (k6 : w.cell? ⟨bl, off + 6, none⟩ = some (.slice Ab 0 cb)) :
    Calls Tryz.prog 47 #[.agg #[.int .i64 2, .slice (some ⟨bl, off, none⟩) 1 kc, .string ⟨#[]⟩, .string ⟨#[]⟩, .string ⟨#[]⟩, .string ⟨#[]⟩, .slice Ab1 0 cb1], .agg #[.string ⟨#[]⟩, .string ⟨#[]⟩, .int .i64 0, .slice none 0 0], .slice none 0 0] w fun en w' => en = .returned (.int .i64 2) ∧ Below w.heap.size w w' := by
  obtain ⟨W1, hW1⟩ : ∃ W1, W1 = (w.alloc (.cells #[.int .i64 2, .slice (some ⟨bl, off, none⟩) 1 kc, .string ⟨#[]⟩, .string ⟨#[]⟩, .string ⟨#[]⟩, .string ⟨#[]⟩, .slice Ab1 0 cb1] 25)).alloc (.cells #[.string ⟨#[]⟩, .string ⟨#[]⟩, .int .i64 0, .slice none 0 0] 96) := ⟨_, rfl⟩
  have hB1 : Below w.heap.size w W1 := by rw [hW1]; exact ((Below.refl _ _).alloc (Nat.le_refl _) _).alloc (by simp) _
  have hF1 : W1.heap[w.heap.size]? = some (.cells #[.int .i64 2, .slice (some ⟨bl, off, none⟩) 1 kc, .string ⟨#[]⟩, .string ⟨#[]⟩, .string ⟨#[]⟩, .string ⟨#[]⟩, .slice Ab1 0 cb1] 25 (0, 0)) := by rw [hW1, Below.heap_alloc _ _ _ (by simp)]; exact heap_alloc_new w _
  have hE1 : W1.heap[w.heap.size + 1]? = some (.cells #[.string ⟨#[]⟩, .string ⟨#[]⟩, .int .i64 0, .slice none 0 0] 96 (0, 0)) := by rw [hW1]; exact heap_alloc_new (w.alloc _) _ |> (by simpa using ·)
  have hz1 : W1.heap.size = w.heap.size + 2 := by rw [hW1]; simp
  have CR := Lib.hid (HR W1 hB1)
  have CE := fun W (hW : Below W1.heap.size W1 W) => evalJ_any bl off kc Ak Ab Ab1 ck cb cb1 g o W (HT.below (hB1.trans (hW.mono (by omega)))) (Nat.lt_of_lt_of_le hbl (hB1.trans (hW.mono (by omega))).size)
    (((hB1.trans (hW.mono (by omega))).cell (p := ⟨bl, _, none⟩) hbl).trans k0) (((hB1.trans (hW.mono (by omega))).cell (p := ⟨bl, _, none⟩) hbl).trans k1) (((hB1.trans (hW.mono (by omega))).cell (p := ⟨bl, _, none⟩) hbl).trans k2) (((hB1.trans (hW.mono (by omega))).cell (p := ⟨bl, _, none⟩) hbl).trans k3)
    (((hB1.trans (hW.mono (by omega))).cell (p := ⟨bl, _, none⟩) hbl).trans k4) (((hB1.trans (hW.mono (by omega))).cell (p := ⟨bl, _, none⟩) hbl).trans k5) (((hB1.trans (hW.mono (by omega))).cell (p := ⟨bl, _, none⟩) hbl).trans k6)
  have CN := fun W => number_any none W
  rw [show numI none = 2 from rfl, show outV none = .agg #[.bool false, .bool false] from rfl] at CN
  replace CN := Lib.hid CN
  obtain ⟨x0, x1, x2, x3, x4, x5, x6⟩ := cells7J hF1
  replace hB1 := Lib.hid hB1
  replace hF1 := Lib.hid hF1
  replace hE1 := Lib.hid hE1
  replace CE := Lib.hid CE
  clear k0 k1 k2 k3 k4 k5 k6 HR
  go_enter Tryz.func47, Tryz.ntmps47
  go_wp2_with fail
  rw [← hW1]
  replace hW1 := Lib.hid hW1
  try go_wp2_with fail
  refine CR.out.mono ?_
  rintro _ w2 ⟨rfl, hb2⟩
  have hF2 := (hb2.block _ (by omega)).trans hF1.out
  have hE2 := (hb2.block _ (by omega)).trans hE1.out
  clear x0 x1 x2 x3 x4 x5 x6
  obtain ⟨x0, x1, x2, x3, x4, x5, x6⟩ := cells7J hF2
  have e3' : w2.cell? ⟨w.heap.size + 1, 3, none⟩ = some (.slice none 0 0) := cell_of_row _ _ _ _ _ _ hE2
  replace hF2 := Lib.hid hF2
  replace hE2 := Lib.hid hE2
  replace hb2 := Lib.hid hb2
  dsimp only []
  go_wp2_with fail
  refine (CE.out _ hb2.out).mono ?_
  rintro _ w3 ⟨rfl, hb3⟩
  have hb13 := Lib.hid (hb2.out.trans (hb3.mono hb2.out.size))
  clear x0 x1 x2 x3 x4 x5 x6 e3'
  replace hb3 := Lib.hid hb3
  dsimp only []
  go_wp2_with fail
  refine (CN.out _).mono ?_
  rintro _ w4 ⟨rfl, hb4⟩
  have hb14 := Lib.hid (hb13.out.trans (hb4.mono hb13.out.size))
  dsimp only []
  go_wp2_with fail
  go_ret
  exact ⟨rfl, hB1.out.trans (hb14.out.mono (by omega))⟩
/-! The law's own filter. -/
def exX : Ft := ⟨3, .nil, [120], [49], [], [], []⟩
def exJ : Ft := ⟨2, Gl.of [exX], [], [], [], [], []⟩
theorem exJ_text : exJ.text = [40, 33, 40, 120, 61, 49, 41, 41] := by decide +kernel
theorem exJ_right : exJ.right = true := by decide +kernel
theorem exJ_all : exJ.all = true := (right_parts14 exJ_right).2.2
theorem exJ_str : (⟨#[40, 33, 40, 120, 61, 49, 41, 41]⟩ : ByteArray) = strB exJ.text := by
  rw [exJ_text]
  decide +kernel
set_option maxRecDepth 8000 in
set_option maxHeartbeats 800000 in
theorem one15_any (w0 W : World) (HP : ParseH w0) (HR : RightH14 w0) (hW : Below w0.heap.size w0 W) (g o : Nat) (HT : TabA W g o) :
    Calls Tryz.prog 21 #[] W fun en w' => en = .returned (.bool true) ∧ Below W.heap.size W w' := by
  have C := Lib.hid (HP.parse exJ _ W hW exJ_all (by decide +kernel) exJ_str)
  have CB := Lib.hid fun W' => Both_any 1 1 W'
  go_enter Tryz.func21, Tryz.ntmps21
  go_wp2_with fail
  refine C.out.mono ?_
  rintro en w1 ⟨g1, Ak1, ck1, Ab1, cb1, e, rfl, hin, hb, _, h1, _⟩
  obtain ⟨rfl, rfl⟩ := h1 (by rw [exJ_text]; decide) exJ_right
  clear C h1
  have hle := hin.g.le
  obtain ⟨bl, off, rfl, hbl, hkid⟩ := hin.kid (by decide)
  obtain ⟨Ak, ck, Ab, cb, hat, hkin⟩ := hkid 0 (by decide)
  have hat' : FtAt w1 exX bl off Ak ck Ab cb := by
    have h := hat
    rw [Nat.zero_mul, Nat.add_zero] at h
    exact h
  have hv : ftV exJ (some ⟨bl, off, none⟩) ck1 Ab1 cb1 = .agg #[.int .i64 2, .slice (some ⟨bl, off, none⟩) 1 ck1, .string ⟨#[]⟩, .string ⟨#[]⟩, .string ⟨#[]⟩, .string ⟨#[]⟩, .slice Ab1 0 cb1] := rfl
  rw [hv]
  obtain ⟨V, hV⟩ : ∃ V, V = w1.alloc (.cells #[.int .i64 2, .slice (some ⟨bl, off, none⟩) 1 ck1, .string ⟨#[]⟩, .string ⟨#[]⟩, .string ⟨#[]⟩, .string ⟨#[]⟩, .slice Ab1 0 cb1] 25) := ⟨_, rfl⟩
  have hbV : Below w1.heap.size w1 V := by rw [hV]; exact (Below.refl _ _).alloc (Nat.le_refl _) _
  have hX : V.heap[w1.heap.size]? = some (.cells #[.int .i64 2, .slice (some ⟨bl, off, none⟩) 1 ck1, .string ⟨#[]⟩, .string ⟨#[]⟩, .string ⟨#[]⟩, .string ⟨#[]⟩, .slice Ab1 0 cb1] 25 (0, 0)) := by rw [hV]; exact heap_alloc_new w1 _
  have hWV : Below W.heap.size W V := hb.trans (hbV.mono hb.size)
  have CE := Lib.hid (EvalJ_any bl off ck1 Ak Ab Ab1 ck cb cb1 g o V (HT.below hWV) (Nat.lt_of_lt_of_le hbl hbV.size)
    (fun W' hW' => by
      have := HR.right exJ (some ⟨bl, off, none⟩) ck1 Ab1 cb1 W' (hW.trans ((hWV.trans (hW'.mono hWV.size)).mono hW.size)) ((hin.keep fun p hp => (hbV.trans (hW'.mono hbV.size)).cell hp).more fun p hp => Nat.lt_of_lt_of_le hp (Nat.le_trans hbV.size hW'.size)) (by decide +kernel) (by decide +kernel)
      rw [exJ_right] at this
      rw [hv] at this
      exact this)
    ((hbV.cell (p := ⟨bl, _, none⟩) hbl).trans hat'.k) ((hbV.cell (p := ⟨bl, _, none⟩) hbl).trans hat'.g) ((hbV.cell (p := ⟨bl, _, none⟩) hbl).trans hat'.t) ((hbV.cell (p := ⟨bl, _, none⟩) hbl).trans hat'.v) ((hbV.cell (p := ⟨bl, _, none⟩) hbl).trans hat'.a) ((hbV.cell (p := ⟨bl, _, none⟩) hbl).trans hat'.z) ((hbV.cell (p := ⟨bl, _, none⟩) hbl).trans hat'.b))
  obtain ⟨x0, x1, x2, x3, x4, x5, x6⟩ := cells7J hX
  rw [hV] at x0 x1 x2 x3 x4 x5 x6
  replace hV := Lib.hid hV
  replace hX := Lib.hid hX
  replace hbV := Lib.hid hbV
  replace hWV := Lib.hid hWV
  replace hin := Lib.hid hin
  replace hkin := Lib.hid hkin
  replace hb := Lib.hid hb
  replace hat := Lib.hid hat
  replace hat' := Lib.hid hat'
  clear hkid hv hle
  dsimp only []
  go_wp2_with fail
  rw [← hV.out]
  refine CE.out.mono ?_
  rintro _ w3 ⟨rfl, hb3⟩
  have hB3 := Lib.hid (hWV.out.trans (hb3.mono hWV.out.size))
  clear x0 x1 x2 x3 x4 x5 x6
  dsimp only []
  go_wp2_with fail
  refine (CB.out _).mono ?_
  rintro _ w4 ⟨rfl, hb4⟩
  rw [show numI (b3 (outI 1) (outI 1)) = 1 from rfl]
  have hB4 := Lib.hid (hB3.out.trans (hb4.mono hB3.out.size))
  dsimp only []
  go_wp2_with fail
  go_ret
  exact ⟨rfl, hB4.out⟩
set_option maxRecDepth 8000 in
set_option maxHeartbeats 800000 in
theorem joins15_walk (a b : Int) (w : World) (HP : ParseH w) (HR : RightH14 w) (HT : ∃ g o, TabA w g o) :
    Calls Tryz.prog 4 #[.int .i64 a, .int .i64 b] w fun en w' => en = .returned (.bool true) ∧ Below w.heap.size w w' := by
  obtain ⟨g, o, HT⟩ := HT
  obtain ⟨x, hx⟩ : ∃ x : Int, x = numI (b3 (outI a) (outI b)) := ⟨_, rfl⟩
  obtain ⟨y, hy⟩ : ∃ x : Int, x = numI (e3 (outI a) (outI b)) := ⟨_, rfl⟩
  obtain ⟨z, hz⟩ : ∃ x : Int, x = numI (t3 (outI a)) := ⟨_, rfl⟩
  have C1 := fun W => Both_any a b W
  have D1 := fun W => refBoth_any a b W
  have C2 := fun W => Either_any a b W
  have D2 := fun W => refEither_any a b W
  have C3 := fun W => Turned_any a W
  have D3 := fun W => refTurned_any a W
  rw [← hx] at C1 D1
  rw [← hy] at C2 D2
  rw [← hz] at C3 D3
  have CO := Lib.hid fun W (hW : Below w.heap.size w W) => one15_any w W HP HR hW g o (HT.below hW)
  replace C1 := Lib.hid C1
  replace D1 := Lib.hid D1
  replace C2 := Lib.hid C2
  replace D2 := Lib.hid D2
  replace C3 := Lib.hid C3
  replace D3 := Lib.hid D3
  have ex : (x == x) = true := beq_self_eq_true x
  have ey : (y == y) = true := beq_self_eq_true y
  have ez : (z == z) = true := beq_self_eq_true z
  clear hx hy hz
  go_enter Tryz.func4, Tryz.ntmps4
  go_wp2_with fail
  refine (C1.out _).mono ?_
  rintro _ w1 ⟨rfl, hb1⟩
  replace hb1 := Lib.hid hb1
  dsimp only []
  go_wp2_with fail
  refine (D1.out _).mono ?_
  rintro _ w2 ⟨rfl, e2⟩
  subst e2
  dsimp only []
  go_wp2_with fail
  refine (C2.out _).mono ?_
  rintro _ w3 ⟨rfl, hb3⟩
  have hB3 := Lib.hid (hb1.out.trans (hb3.mono hb1.out.size))
  dsimp only []
  go_wp2_with fail
  refine (D2.out _).mono ?_
  rintro _ w4 ⟨rfl, e4⟩
  subst e4
  dsimp only []
  go_wp2_with fail
  refine (C3.out _).mono ?_
  rintro _ w5 ⟨rfl, hb5⟩
  have hB5 := Lib.hid (hB3.out.trans (hb5.mono hB3.out.size))
  dsimp only []
  go_wp2_with fail
  refine (D3.out _).mono ?_
  rintro _ w6 ⟨rfl, e6⟩
  subst e6
  dsimp only []
  go_wp2_with fail
  refine (CO.out _ hB5.out).mono ?_
  rintro _ w7 ⟨rfl, hb7⟩
  have hB7 := Lib.hid (hB5.out.trans (hb7.mono hB5.out.size))
  dsimp only []
  go_wp2_with fail
  go_ret
  exact ⟨rfl, hB7.out⟩
end Go.Proofs.YtkffgdndglfcfaaGreatDoor.J15
