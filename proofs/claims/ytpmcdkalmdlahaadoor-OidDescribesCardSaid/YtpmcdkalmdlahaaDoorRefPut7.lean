/-
  The document's bytes of an identifier.
-/
import Derived.Test.YtpmcdkalmdlahaaDoorRefArcs
import Derived.Test.YtpmcdkalmdlahaaDoorRefSeven
import Derived.Deep.RegionHeldLaw
import Derived.BigRegion
import Derived.StillTailTactics
import Derived.IntWalk
namespace Go.Proofs.YtpmcdkalmdlahaaDoor
open Go.RowKit Go.Lib

/-- What Put answers. -/
def PutS (l : List UInt8) (K : Nat) (e : Ending) (w : World) : Prop :=
  match arcsO l with
  | none => e = .returned (.tuple #[.slice none 0 0, .int .i64 2])
  | some L => ∃ A c, e = .returned (.tuple #[.slice A (putA L).length c, .int .i64 0]) ∧ Own w K (.slice A (putA L).length c) (putA L)
theorem PutS.no {l : List UInt8} {K : Nat} {w : World} (h : arcsO l = none) : PutS l K (.returned (.tuple #[.slice none 0 0, .int .i64 2])) w := by
  unfold PutS
  rw [h]
theorem PutS.yes {l : List UInt8} {K n c : Nat} {A : Option Addr} {w : World} {L : List Nat} (h : arcsO l = some L) {X : List Nat} (hX : putA L = X) (hn : X.length = n) (ho : Own w K (.slice A n c) X) : PutS l K (.returned (.tuple #[.slice A n c, .int .i64 0])) w := by
  unfold PutS
  rw [h]
  subst hX hn
  exact ⟨A, c, rfl, ho⟩
theorem putA_two (a b : Nat) (r : List Nat) : putA (a :: b :: r) = sv (a * 40 + b) ++ r.flatMap sv := by
  unfold putA foldA
  rw [List.flatMap_cons]
theorem flat_len (r : List Nat) (h : ∀ n ∈ r, n < 10000000000) : (r.flatMap sv).length ≤ 6 * r.length := by
  induction r with
  | nil => exact Nat.le_refl _
  | cons n r ih =>
    have h1 := sv_len5 n (by have := h n List.mem_cons_self; omega)
    have h2 := ih (fun m hm => h m (List.mem_cons_of_mem _ hm))
    rw [List.flatMap_cons, List.length_append, List.length_cons]
    omega
theorem flat_take (r : List Nat) (k : Nat) (h : k < r.length) : (r.take (k + 1)).flatMap sv = (r.take k).flatMap sv ++ sv r[k] := by
  rw [List.take_succ_eq_append_getElem h, List.flatMap_append]
  simp
set_option maxRecDepth 8000 in
set_option maxHeartbeats 2000000 in
theorem refPut7_any (s : ByteArray) (w : World) (hs : s.size ≤ 300) :
    Calls Tryd.prog 9 #[.string s] w fun e w' => PutS s.data.toList w.heap.size e w' ∧ Below w.heap.size w w' := by
  have CA := refArcs_any s w hs
  rcases hA : arcsO s.data.toList with _ | L
  · have CA' : Hid (Calls Tryd.prog 25 #[.string s] w fun e w' => e = .returned (.tuple #[.slice none 0 0, .bool false]) ∧ Below w.heap.size w w') := Lib.hid (CA.mono fun e w' ⟨h1, h2⟩ => ⟨by unfold ArcQ at h1; rw [hA] at h1; exact h1, h2⟩)
    clear CA
    replace hA := Lib.hid hA
    go_enter Tryd.func9, Tryd.ntmps9
    go_wp2_with fail
    refine CA'.out.mono ?_
    rintro _ w1 ⟨rfl, hb⟩
    dsimp only []
    go_wp2_with fail
    go_returns
    exact ⟨PutS.no hA.out, hb⟩
  · obtain ⟨hok, hlt⟩ := valid_arcs hA
    have hlen := okA_len hok
    obtain ⟨a, b, r, rfl⟩ : ∃ a b r, L = a :: b :: r := by
      match L, hlen with
      | a :: b :: r, _ => exact ⟨a, b, r, rfl⟩
    · skip
      have ha2 : a ≤ 2 := by
        rw [okA_two] at hok
        simp only [Bool.and_eq_true, decide_eq_true_eq] at hok
        exact hok.1.1
      have hb2 : b < 10000000000 := hlt b (by simp)
      have hr : ∀ n ∈ r, n < 10000000000 := fun n hn => hlt n (by simp [hn])
      obtain ⟨m, hm⟩ : ∃ m, m = (a :: b :: r).length := ⟨_, rfl⟩
      have hm1 : m ≤ r.length + 2 := by rw [hm]; exact Nat.le_refl _
      have hm3 : r.length + 2 ≤ m := by rw [hm]; exact Nat.le_refl _
      have hm16 : m ≤ 16 := by omega
      have CA' : Hid (Calls Tryd.prog 25 #[.string s] w fun e w' => ∃ g c, e = .returned (.tuple #[.slice (some ⟨g, 0, none⟩) m c, .bool true]) ∧ OwnN w' w.heap.size (.slice (some ⟨g, 0, none⟩) m c) (a :: b :: r) ∧ Below w.heap.size w w') := Lib.hid (CA.mono fun e w' ⟨h1, h2⟩ => by
        unfold ArcQ at h1
        rw [hA] at h1
        obtain ⟨g, c, h3, h4⟩ := h1
        rw [hm]
        exact ⟨g, c, h3, h4, h2⟩)
      clear CA hlen hlt hok
      have HFL := Lib.hid (flat_len r hr)
      replace hr := Lib.hid hr
      replace hA := Lib.hid hA
      replace hm := Lib.hid hm
      go_enter Tryd.func9, Tryd.ntmps9
      go_wp2_with fail
      refine CA'.out.mono ?_
      rintro _ w1 ⟨g, c, rfl, ho, hb⟩
      have HB1 := Lib.hid hb
      have hz1 := hb.size
      obtain ⟨g2, c2, e1, e4⟩ := (show OwnN w1 w.heap.size (.slice (some ⟨g, 0, none⟩) (a :: b :: r).length c) (a :: b :: r) by rw [← hm.out]; exact ho).form (by simp)
      have hg1 : g < w1.heap.size := (ho.lt g rfl).2
      injection e1 with e1 _ e3
      injection e1 with e1
      injection e1 with e1
      subst e1
      have HE := Lib.hid e4
      have ca := HE.out 0 a rfl
      have cb := HE.out 1 b rfl
      clear e3 e4 hb
      replace ho := Lib.hid ho
      have k1 : (0 : Int) < (m : Int) := by omega
      have k2 : (1 : Int) < (m : Int) := by omega
      have k3 : 0 < m := by omega
      have k4 : 1 < m := by omega
      have C7 : Hid (∀ W, Calls Tryd.prog 26 #[.int .i64 ((a : Int) * 40 + (b : Int))] W fun e w' => ∃ A' c', e = .returned (.slice A' (sv (a * 40 + b)).length c') ∧ Own w' W.heap.size (.slice A' (sv (a * 40 + b)).length c') (sv (a * 40 + b)) ∧ Below W.heap.size W w') := Lib.hid fun W => by
        have := refSeven_any (a * 40 + b) W (by omega)
        rw [show ((a * 40 + b : Nat) : Int) = (a : Int) * 40 + (b : Int) from by omega] at this
        exact this
      obtain ⟨X0, hX0⟩ : ∃ X0, X0 = sv (a * 40 + b) := ⟨_, rfl⟩
      have hl0 : X0.length ≤ 6 := by
        rw [hX0]
        have := sv_len5 (a * 40 + b) (by omega)
        omega
      rw [← hX0] at C7
      replace hX0 := Lib.hid hX0
      have hw1 : IntKind.i64.wrap ((a : Int) * 40) = (a : Int) * 40 := IntWalk.i64_in _ (by omega)
      have hw2 : IntKind.i64.wrap ((a : Int) * 40 + (b : Int)) = (a : Int) * 40 + (b : Int) := IntWalk.i64_in _ (by omega)
      dsimp only []
      go_wp2_with fail
      go_still_tail 8, (by kernel_rfl)
      go_wp2_with fail
      refine (C7.out _).mono ?_
      rintro _ w2 ⟨A2, c2', rfl, ho2, hb2'⟩
      have hb2 : Below w1.heap.size w1 w2 := ((Below.refl w1.heap.size w1).drew).trans hb2'
      have HB2 := Lib.hid hb2
      have HO2 : Hid (Own w2 w1.heap.size (.slice A2 X0.length c2') X0) := Lib.hid ho2
      clear ho2 hb2' hb2
      dsimp only []
      go_wp2_with fail
      go_loopw [6, 7] (fun ov iv wr => ∃ (k N cc : Nat) (B : Option Addr) (X : List Nat), 2 ≤ k ∧ k ≤ m ∧ N ≤ 100 ∧ iv = .int .i64 (k : Int) ∧ ov = .slice B N cc ∧ Hid (X.length = N) ∧ Hid (X = X0 ++ (r.take (k - 2)).flatMap sv) ∧ Hid (Own wr w1.heap.size (.slice B N cc) X) ∧ Hid (Below w1.heap.size w1 wr)) (fun _ iv _ => m - (intOf iv).toNat)
      case atStart => exact ⟨2, X0.length, c2', A2, X0, Nat.le_refl _, by omega, by omega, rfl, rfl, Lib.hid rfl, Lib.hid (by simp), HO2, HB2⟩
      case round =>
        obtain ⟨k, N, cc, B, X, hk2, hkm, hN, rfl, rfl, HX, HXe, HO, HB⟩ := hrel
        have hsz1 := HB.out.size
        by_cases hlt : k < m
        · have hkr : k - 2 < r.length := by omega
          obtain ⟨n, hn⟩ : ∃ n, r[k - 2] = n := ⟨_, rfl⟩
          have hnb : n < 10000000000 := by rw [← hn]; exact hr.out _ (List.getElem_mem hkr)
          have hcell : wr.cell? ⟨g, k, none⟩ = some (.int .i64 (n : Int)) := by
            rw [HB.out.cell (p := ⟨g, k, none⟩) hg1]
            refine HE.out k n ?_
            rw [show k = (k - 2) + 1 + 1 from by omega, List.getElem?_cons_succ, List.getElem?_cons_succ, List.getElem?_eq_getElem hkr, hn]
          have hft := flat_take r (k - 2) hkr
          rw [hn] at hft
          have C8 := refSeven_any n wr (by omega)
          obtain ⟨Y, hY⟩ : ∃ Y, Y = sv n := ⟨_, rfl⟩
          rw [← hY] at C8 hft
          obtain ⟨y, hy⟩ : ∃ y, y = Y.length := ⟨_, rfl⟩
          rw [← hy] at C8
          have hXY : X ++ Y = X0 ++ (r.take (k + 1 - 2)).flatMap sv := by
            rw [HXe.out, show k + 1 - 2 = (k - 2) + 1 from by omega, hft, List.append_assoc]
          have hNy : N + y ≤ 100 := by
            have h1 : ((r.take (k + 1 - 2)).flatMap sv).length ≤ 6 * (k + 1 - 2) := by
              refine Nat.le_trans (flat_len _ fun x hx => hr.out x (List.mem_of_mem_take hx)) ?_
              exact Nat.mul_le_mul_left 6 (List.length_take_le _ _)
            have h2 := congrArg List.length hXY
            rw [List.length_append, List.length_append, HX.out, ← hy] at h2
            omega
          have i1 : (k : Int) < (m : Int) := by omega
          have i2 : (0 : Int) ≤ (k : Int) := by omega
          replace hn := Lib.hid hn
          replace hft := Lib.hid hft
          replace hY := Lib.hid hY
          replace hy := Lib.hid hy
          replace hXY := Lib.hid hXY
          replace C8 := Lib.hid C8
          go_wp2_with fail
          refine C8.out.mono ?_
          rintro _ w3 ⟨A3, c3, rfl, ho3, hb3⟩
          have HO3 := Lib.hid ho3
          have HBx := Lib.hid (HB.out.trans (hb3.mono hsz1))
          have HOx := Lib.hid (HO.out.below hb3 (Nat.le_refl _))
          have hzx := HBx.out.size
          clear ho3 hb3
          dsimp only []
          go_wp2_with (at_builtin; refine append_srcF rfl (.tmp 30) (.tmp 35) rfl w1.heap.size (.slice B N cc) X rfl HOx.out w3.heap.size A3 c3 Y y hy.out.symm rfl HO3.out.src (by rw [HX.out, ← hy.out]; omega) hzx ?_; intro A4 c4 w4 ho4 hb4 _; have HO4 := Lib.hid ho4; have HB4 := Lib.hid (HBx.out.trans hb4); clear ho4 hb4)
          go_roundw
          case rel => exact ⟨k + 1, N + y, c4, A4, X ++ Y, by omega, by omega, hNy, by go_num, by rw [HX.out], Lib.hid (by rw [List.length_append, HX.out, hy.out]), hXY, Lib.hid (by have := HO4.out; rwa [HX.out] at this), HB4⟩
          case measure => simp [intOf]; omega
        · have hkk : k = m := by omega
          subst hkk
          have hfin : putA (a :: b :: r) = X := by
            rw [putA_two, HXe.out, ← hX0.out, List.take_of_length_le (by omega)]
          replace hfin := Lib.hid hfin
          have i1 : ¬ ((k : Int) < (k : Int)) := by omega
          go_wp2_with fail
          go_returns
          exact ⟨PutS.yes hA.out hfin.out HX.out (HO.out.base_le hz1), HB1.out.trans (HB.out.mono hz1)⟩
end Go.Proofs.YtpmcdkalmdlahaaDoor
