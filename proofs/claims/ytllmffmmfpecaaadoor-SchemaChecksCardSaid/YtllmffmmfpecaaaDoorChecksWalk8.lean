/-
  The law SchemaChecks, over what the program's functions are to answer.
-/
import Derived.Test.YtllmffmmfpecaaaDoorMC8
import Derived.Test.YtllmffmmfpecaaaDoorCheckH
import Derived.Test.YtllmffmmfpecaaaDoorRefCheck8
namespace Go.Proofs.YtllmffmmfpecaaaDoor
open Go.RowKit

theorem top_16 : checkD [[116, 111, 112]] [] = 16 := by decide +kernel
set_option maxRecDepth 8000 in
set_option maxHeartbeats 8000000 in
theorem checks8_walk (A : Option Addr) (cp N : Nat) (L : List (List UInt8)) (A' : Option Addr) (cp' N' : Nat) (T : List (List UInt8)) (w0 : World) (H : AllH w0) (HK : CheckH w0) (hN : N ≤ 9223372036854775807) (hN' : N' ≤ 9223372036854775807) (hL : L.length = N) (hT : T.length = N')
    (s1 : SrcO w0 w0.heap.size A cp L) (s2 : SrcO w0 w0.heap.size A' cp' T) (m1 : ∀ l ∈ L, l.length ≤ 9223372036854775807) (m2 : ∀ l ∈ T, l.length ≤ 9223372036854775807) :
    Calls Tryd.prog 4 #[.slice A N cp, .slice A' N' cp'] w0 fun e w' => e = .returned (.bool true) ∧ Below w0.heap.size w0 w' := by
  have C1 := Lib.hid (few8_any A cp N w0.heap.size L w0 hN hL s1 m1)
  have C2 := Lib.hid (few8_any A' cp' N' w0.heap.size T w0 hN' hT s2 m2)
  clear m1 m2
  replace H := Lib.hid H
  replace HK := Lib.hid HK
  replace s1 := Lib.hid s1
  replace s2 := Lib.hid s2
  replace hL := Lib.hid hL
  replace hT := Lib.hid hT
  go_enter Tryd.func4, Tryd.ntmps4
  go_wp2_with fail
  refine C1.out.mono ?_
  rintro _ w1 ⟨b1, rfl, hw1, hb1⟩
  subst w1
  rcases b1 with _ | _
  · dsimp only []
    go_wp2_with fail
    go_ret
    exact ⟨rfl, Below.refl _ _⟩
  · obtain ⟨n60, l600⟩ := hb1 rfl
    clear hb1 C1
    dsimp only []
    go_wp2_with fail
    refine C2.out.mono ?_
    rintro _ w1 ⟨b2, rfl, hw1, hb2⟩
    subst w1
    rcases b2 with _ | _
    · dsimp only []
      go_wp2_with fail
      go_ret
      exact ⟨rfl, Below.refl _ _⟩
    · obtain ⟨n60', l600'⟩ := hb2 rfl
      clear hb2 C2
      have CA := Lib.hid (H.out.all A cp N L w0 (Below.refl _ _) (by omega) hL.out s1.out l600)
      have CR := Lib.hid fun (W : World) (hs : SrcO W W.heap.size A cp L) => refAll_any A cp N L W (by omega) hL.out hs l600
      have CK := Lib.hid fun (W : World) (hB : Below w0.heap.size w0 W) (h1 : SrcO W W.heap.size A cp L) (h2 : SrcO W W.heap.size A' cp' T) => HK.out.check A cp N L A' cp' N' T W hB (by omega) (by omega) hL.out hT.out h1 h2 l600 l600'
      have CJ := Lib.hid fun (W : World) (h1 : SrcO W W.heap.size A cp L) (h2 : SrcO W W.heap.size A' cp' T) => refCheck_any A cp N L A' cp' N' T W (by omega) (by omega) hL.out hT.out h1 h2 l600 l600'
      have CT := Lib.hid fun (W : World) (ad : Option Addr) (hB : Below w0.heap.size w0 W) (h1 : SrcO W W.heap.size ad 1 [[116, 111, 112]]) => HK.out.check ad 1 1 [[116, 111, 112]] none 0 0 [] W hB (by omega) (by omega) rfl rfl h1 (SrcO.none_ _ _) (by decide) (fun l hl => by cases hl)
      rw [top_16] at CT
      clear l600 l600'
      obtain ⟨M, hM⟩ : ∃ M, mD L = M := ⟨_, rfl⟩
      obtain ⟨Y, hY⟩ : ∃ Y, yD L = Y := ⟨_, rfl⟩
      obtain ⟨v, hv⟩ : ∃ v, vD L = v := ⟨_, rfl⟩
      obtain ⟨m, hm⟩ : ∃ m, M.length = m := ⟨_, rfl⟩
      obtain ⟨y, hy⟩ : ∃ y, Y.length = y := ⟨_, rfl⟩
      have hm9 : m ≤ 90 := by rw [← hm, ← hM]; exact mD_len L
      have hy9 : y ≤ 90 := by rw [← hy, ← hY]; exact yD_len L
      have hform : Hid (∀ e w, AllS L e w → ∃ A1 c1 A2 c2, e = .returned (.tuple #[.slice A1 m c1, .slice A2 y c2, .int .i64 (v : Int)]) ∧ SrcO w w.heap.size A1 c1 M ∧ SrcO w w.heap.size A2 c2 Y) := Lib.hid fun e w h => by
        have := h.form
        rw [hM, hY, hv, hm, hy] at this
        exact this
      replace hm := Lib.hid hm
      replace hy := Lib.hid hy
      obtain ⟨z, hz⟩ : ∃ z, checkD L T = z := ⟨_, rfl⟩
      rw [hz] at CK CJ
      clear hM hY hv hz
      dsimp only []
      go_wp2_with fail
      refine CA.out.mono ?_
      rintro e1 w1 ⟨hA, hb1⟩
      obtain ⟨A1, c1, A2, c2, rfl, S1, S2⟩ := hform.out _ _ hA
      have HB1 := Lib.hid hb1
      replace s1 := Lib.hid ((s1.out.below hb1).more hb1.size)
      replace s2 := Lib.hid ((s2.out.below hb1).more hb1.size)
      replace S1 := Lib.hid S1
      replace S2 := Lib.hid S2
      have z1 := hb1.size
      clear hA hb1 CA
      dsimp only []
      go_wp2_with fail
      refine (CR.out w1 s1.out).mono ?_
      rintro e2 w2 ⟨hA, hb2⟩
      obtain ⟨A3, c3, A4, c4, rfl, S3, S4⟩ := hform.out _ _ hA
      have HB2 := Lib.hid (HB1.out.trans (hb2.mono z1))
      have z2 := hb2.size
      replace s1 := Lib.hid ((s1.out.below hb2).more z2)
      replace s2 := Lib.hid ((s2.out.below hb2).more z2)
      replace S1 := Lib.hid ((S1.out.below hb2).more z2)
      replace S2 := Lib.hid ((S2.out.below hb2).more z2)
      replace S3 := Lib.hid S3
      replace S4 := Lib.hid S4
      clear hA hb2 CR
      have CS1 := Lib.hid (same8_any A1 A3 c1 c3 m M w2 hm.out (by omega) S1.out S3.out)
      dsimp only []
      go_wp2_with fail
      refine CS1.out.mono ?_
      rintro _ w3 ⟨rfl, hb3⟩
      have HB3 := Lib.hid (HB2.out.trans (hb3.mono (by omega)))
      have z3 := hb3.size
      replace s1 := Lib.hid ((s1.out.below hb3).more z3)
      replace s2 := Lib.hid ((s2.out.below hb3).more z3)
      replace S2 := Lib.hid ((S2.out.below hb3).more z3)
      replace S4 := Lib.hid ((S4.out.below hb3).more z3)
      clear hb3 CS1 S1 S3
      have CS2 := Lib.hid (same8_any A2 A4 c2 c4 y Y w3 hy.out (by omega) S2.out S4.out)
      dsimp only []
      go_wp2_with fail
      refine CS2.out.mono ?_
      rintro _ w4 ⟨rfl, hb4⟩
      have HB4 := Lib.hid (HB3.out.trans (hb4.mono (by omega)))
      have z4 := hb4.size
      replace s1 := Lib.hid ((s1.out.below hb4).more z4)
      replace s2 := Lib.hid ((s2.out.below hb4).more z4)
      clear hb4 CS2 S2 S4
      dsimp only []
      go_wp2_with fail
      refine (CK.out w4 HB4.out s1.out s2.out).mono ?_
      rintro _ w5 ⟨rfl, hb5⟩
      have HB5 := Lib.hid (HB4.out.trans (hb5.mono (by omega)))
      have z5 := hb5.size
      replace s1 := Lib.hid ((s1.out.below hb5).more z5)
      replace s2 := Lib.hid ((s2.out.below hb5).more z5)
      clear hb5 CK
      dsimp only []
      go_wp2_with fail
      refine (CJ.out w5 s1.out s2.out).mono ?_
      rintro _ w6 ⟨rfl, hb6⟩
      have HB6 := Lib.hid (HB5.out.trans (hb6.mono (by omega)))
      have z6 := hb6.size
      clear hb6 CJ
      dsimp only []
      go_wp2_with fail
      refine (CT.out _ _ (HB6.out.alloc (by omega) _) ((SrcO.one w6 [116, 111, 112]).more (by simp))).mono ?_
      rintro _ w7 ⟨rfl, hb7⟩
      have HB7 := Lib.hid ((HB6.out.alloc (by omega) (.cells #[.string (baO [116, 111, 112])] 9)).trans (hb7.mono (by simp; omega)))
      clear hb7 CT
      dsimp only []
      go_wp2_with fail
      go_ret
      exact ⟨rfl, HB7.out⟩
end Go.Proofs.YtllmffmmfpecaaaDoor
