/-
  slices.IndexFunc and slices.DeleteFunc, with the closure that tells whether a string is one of a list.
-/
import Derived.Test.YtllmffmmfpecaaaDoorPAmong8
import Derived.Test.YtllmffmmfpecaaaDoorPOrder8
import Derived.Test.YtllmffmmfpecaaaDoorMC8
import Derived.Lib.SliceRun
namespace Go.Proofs.YtllmffmmfpecaaaDoor
open Go.RowKit

def fnM (b : Nat) : Value := .func (.func 50) #[] #[.pointer (some ⟨b, 0, none⟩)]
/-- What the closure answers in W. -/
def AmongC (b : Nat) (M : List (List UInt8)) (W : World) : Prop := ∀ x : List UInt8, Calls Tryd.prog 50 #[.string (baO x), .pointer (some ⟨b, 0, none⟩)] W fun e w' => e = .returned (.bool (decide (x ∈ M))) ∧ w' = W
def outM (M : List (List UInt8)) (x : List UInt8) : Bool := decide (x ∉ M)
/-- The first of L that is one of M, if any. -/
def FirstIn (L M : List (List UInt8)) (n : Nat) (e : Ending) : Prop :=
  (e = .returned (.int .i64 (-1)) ∧ ∀ x ∈ L, x ∉ M) ∨ ∃ k x, k < n ∧ e = .returned (.int .i64 (k : Int)) ∧ L[k]? = some x ∧ x ∈ M ∧ ∀ y ∈ L.take k, y ∉ M
set_option maxRecDepth 4000 in
set_option maxHeartbeats 1600000 in
theorem indexIn_any (b n c K : Nat) (A : Option Addr) (L M : List (List UInt8)) (w : World) (hn : n ≤ 1000000) (hL : L.length = n) (hsrc : SrcO w K A c L) (CA : AmongC b M w) :
    Calls Tryd.prog 49 #[.slice A n c, fnM b] w fun e w' => FirstIn L M n e ∧ w' = w := by
  have hget : Hid (∀ k, k < n → ∃ ad l, A = some ad ∧ L[k]? = some l ∧ w.cell? (ad.add k) = some (.string (baO l))) := Lib.hid fun k hk => by
    obtain ⟨ad, l, h1, h2, h3⟩ := hsrc.get k (by omega)
    exact ⟨ad, l, h1, h2, h3 w (Below.refl _ _)⟩
  replace hL := Lib.hid hL
  replace CA := Lib.hid CA
  clear hsrc
  unfold fnM
  go_enter Tryd.func49, Tryd.ntmps49
  go_wp2_with fail
  go_loop [8] (fun i => ∃ k : Nat, k ≤ n ∧ i = .int .i64 (k : Int) ∧ Hid (∀ y ∈ L.take k, y ∉ M)) (fun i => n - (intOf i).toNat)
  case atStart => exact ⟨0, Nat.zero_le _, rfl, Lib.hid (by simp)⟩
  case round =>
    obtain ⟨k, hk, rfl, HF⟩ := hrel
    by_cases hlt : k < n
    · obtain ⟨ad, l, rfl, hl, hc⟩ := hget.out k hlt
      have i0 : (0 : Int) ≤ (k : Int) := by omega
      have i1 : (k : Int) < (n : Int) := by omega
      have C1 := CA.out l
      have htk : Hid (L.take (k + 1) = L.take k ++ [l]) := Lib.hid (by rw [List.take_add_one, hl]; rfl)
      replace hl := Lib.hid hl
      by_cases hin : l ∈ M
      · rw [decide_eq_true hin] at C1
        replace C1 := Lib.hid C1
        replace hin := Lib.hid hin
        go_wp2_with fail
        refine C1.out.mono ?_
        rintro _ w2 ⟨rfl, h2⟩
        subst w2
        dsimp only []
        go_wp2_with fail
        go_ret
        exact ⟨.inr ⟨k, l, hlt, rfl, hl.out, hin.out, HF.out⟩, rfl⟩
      · rw [decide_eq_false hin] at C1
        replace C1 := Lib.hid C1
        replace hin := Lib.hid hin
        go_wp2_with fail
        refine C1.out.mono ?_
        rintro _ w2 ⟨rfl, h2⟩
        subst w2
        dsimp only []
        go_wp2_with fail
        go_round
        case rel =>
          refine ⟨k + 1, by omega, by go_num, Lib.hid fun y hy => ?_⟩
          rw [htk.out, List.mem_append, List.mem_singleton] at hy
          rcases hy with hy | rfl
          · exact HF.out y hy
          · exact hin.out
        case measure => simp [intOf]; omega
    · obtain rfl : k = n := by omega
      rw [List.take_of_length_le (by rw [hL.out]; omega)] at HF
      have i1 : ¬ ((k : Int) < (k : Int)) := by omega
      go_wp2_with fail
      go_ret
      exact ⟨.inl ⟨rfl, HF.out⟩, rfl⟩
/-- Where the deletion stands: i are kept of the first j of L; the row reads as R. -/
structure DelI (L M R : List (List UInt8)) (i j : Nat) : Prop where
  ij : i ≤ j
  len : R.length = L.length
  low : R.take i = (L.take j).filter (outM M)
  high : ∀ t, j ≤ t → R[t]? = L[t]?
theorem DelI.skip {L M R : List (List UInt8)} {i j : Nat} {x : List UInt8} (h : DelI L M R i j) (hx : L[j]? = some x) (hm : x ∈ M) : DelI L M R i (j + 1) := by
  refine ⟨by have := h.ij; omega, h.len, ?_, fun t ht => h.high t (by omega)⟩
  rw [h.low, List.take_add_one, hx, List.filter_append]
  simp [outM, hm]
theorem DelI.keep {L M R : List (List UInt8)} {i j : Nat} {x : List UInt8} (h : DelI L M R i j) (hx : L[j]? = some x) (hm : x ∉ M) : DelI L M (R.set i x) (i + 1) (j + 1) := by
  have hjl : j < L.length := (List.getElem?_eq_some_iff.1 hx).1
  have hij := h.ij
  have hil : i < R.length := by rw [h.len]; omega
  refine ⟨by omega, by rw [List.length_set]; exact h.len, ?_, fun t ht => ?_⟩
  · rw [List.take_add_one, List.take_set_of_le (Nat.le_refl _), h.low, List.getElem?_set_self hil, List.take_add_one (l := L), hx, List.filter_append]
    simp [outM, hm]
  · rw [List.getElem?_set_ne (by omega)]
    exact h.high t (by omega)
theorem DelI.start {L M : List (List UInt8)} {k : Nat} {x : List UInt8} (hx : L[k]? = some x) (hm : x ∈ M) (h : ∀ y ∈ L.take k, y ∉ M) : DelI L M L k (k + 1) := by
  refine ⟨by omega, rfl, ?_, fun t _ => rfl⟩
  rw [List.take_add_one, hx, List.filter_append, List.filter_eq_self.2 (fun y hy => by unfold outM; exact decide_eq_true (h y hy))]
  simp [outM, hm]
theorem DelI.done {L M R : List (List UInt8)} {i : Nat} (h : DelI L M R i L.length) : R.take i = L.filter (outM M) ∧ (L.filter (outM M)).length = i := by
  have h1 := h.low
  rw [List.take_length] at h1
  refine ⟨h1, ?_⟩
  rw [← h1, List.length_take, h.len]
  have := h.ij
  omega
theorem OwnO.put' {w : World} {base g n c : Nat} {L : List (List UInt8)} (h : OwnO w base (.slice (some ⟨g, 0, none⟩) n c) L) (hn : L.length = n) (j : Nat) (l : List UInt8) : OwnO (w.setCell ⟨g, j, none⟩ (.string (baO l))) base (.slice (some ⟨g, 0, none⟩) n c) (L.set j l) ∧ w.grownBy (w.setCell ⟨g, j, none⟩ (.string (baO l))) (some g) := by
  subst hn
  exact ⟨h.put j l, (World.ownsRow.stored h j (.string (baO l))).2⟩
/-- Cells of an owned row emptied from i on. -/
theorem OwnO.wipe {base g n c : Nat} : ∀ (k : Nat) {w : World} {L : List (List UInt8)} (i : Nat), OwnO w base (.slice (some ⟨g, 0, none⟩) n c) L → L.length = n → i + k ≤ n →
    ∃ T, OwnO (w.setCells g i (List.replicate k (.string ⟨#[]⟩))) base (.slice (some ⟨g, 0, none⟩) n c) T ∧ T.length = n ∧ T.take i = L.take i ∧ w.grownBy (w.setCells g i (List.replicate k (.string ⟨#[]⟩))) (some g)
  | 0, w, L, i, h, hn, hk => ⟨L, h, hn, rfl, World.grownBy.refl _ _⟩
  | k + 1, w, L, i, h, hn, hk => by
    obtain ⟨h1, h2⟩ := h.put' hn i []
    obtain ⟨T, h3, h4, h5, h6⟩ := OwnO.wipe k (i + 1) h1 (by rw [List.length_set]; exact hn) (by omega)
    refine ⟨T, h3, h4, ?_, h2.trans h6⟩
    have := congrArg (List.take i) h5
    rw [List.take_take, List.take_take, Nat.min_eq_left (by omega), List.take_set_of_le (Nat.le_refl _)] at this
    exact this
/-- What DeleteFunc leaves. -/
def DelS (base : Nat) (L M : List (List UInt8)) (v : Value) (e : Ending) (w w' : World) : Prop := ∃ (A : Option Addr) (c : Nat), e = .returned (.slice A (L.filter (outM M)).length c) ∧ OwnO w' base (.slice A (L.filter (outM M)).length c) (L.filter (outM M)) ∧ w.grownBy w' v.ownBlock
set_option maxRecDepth 8000 in
set_option maxHeartbeats 4000000 in
theorem deleteIn_any (b n c base : Nat) (A : Option Addr) (L M : List (List UInt8)) (w : World) (hn : n ≤ 1000000) (hL : L.length = n) (ho : OwnO w base (.slice A n c) L) (CA : ∀ W, w.grownBy W (Value.slice A n c).ownBlock → AmongC b M W) :
    Calls Tryd.prog 33 #[.slice A n c, fnM b] w fun e w' => DelS base L M (.slice A n c) e w w' := by
  have CI := Lib.hid (indexIn_any b n c w.heap.size A L M w hn hL ho.src (CA w (World.grownBy.refl _ _)))
  rcases ho.form' hL with ⟨h0, h5⟩ | ⟨g, c', h0, hbg, hgl, hnc, hcm, _⟩
  · injection h0 with e1 e2 e3
    subst e1 e2 e3 h5
    replace ho := Lib.hid ho
    replace CA := Lib.hid CA
    clear hL
    unfold fnM at CI ⊢
    go_enter Tryd.func33, Tryd.ntmps33
    go_wp2_with fail
    refine CI.out.mono ?_
    rintro e w2 ⟨hF, h2⟩
    subst w2
    rcases hF with ⟨rfl, _⟩ | ⟨k, x, hk, _⟩
    · dsimp only []
      go_wp2_with fail
      go_ret
      exact ⟨none, 0, rfl, ho.out, World.grownBy.refl _ _⟩
    · omega
  · injection h0 with e1 e2 e3
    subst e1 e3
    have CX := Lib.hid fun W (hW : w.grownBy W (some g)) => CA W hW
    have HO0 := Lib.hid ho
    replace hL := Lib.hid hL
    have hz : ∀ W, (zeroValue 9).run Tryd.prog W = .ok (.string ⟨#[]⟩) W := Tryd.zeroValue9
    replace hz := Lib.hid hz
    have HG0 : Hid (w.grownBy w (some g)) := Lib.hid (World.grownBy.refl _ _)
    clear ho CA
    unfold fnM at CI ⊢
    go_enter Tryd.func33, Tryd.ntmps33
    go_wp2_with fail
    refine CI.out.mono ?_
    rintro e w2 ⟨hF, h2⟩
    subst w2
    clear CI
    rcases hF with ⟨rfl, hno⟩ | ⟨k, x, hk, rfl, hx, hxm, hno⟩
    · have hfl : L.filter (outM M) = L := List.filter_eq_self.2 fun y hy => by unfold outM; exact decide_eq_true (hno y hy)
      replace hfl := Lib.hid hfl
      clear hno
      dsimp only []
      go_wp2_with fail
      go_ret
      exact ⟨some ⟨g, 0, none⟩, c, by rw [hfl.out, hL.out]; rfl, by rw [hfl.out, hL.out]; exact HO0.out, HG0.out⟩
    · have HD0 := Lib.hid (DelI.start hx hxm hno)
      have k1 : ¬ (k : Int) = -1 := by omega
      have k2 : ((k : Int) == -1) = false := beq_eq_false_iff_ne.2 k1
      replace hx := Lib.hid hx
      replace hxm := Lib.hid hxm
      clear hno
      dsimp only []
      go_wp2_with fail
      go_loopw [5, 6] (fun iv jv wr => ∃ (i j : Nat) (R : List (List UInt8)), i < j ∧ j ≤ n ∧ iv = .int .i64 (i : Int) ∧ jv = .int .i64 (j : Int) ∧ Hid (DelI L M R i j) ∧ Hid (OwnO wr base (.slice (some ⟨g, 0, none⟩) n c) R) ∧ Hid (w.grownBy wr (some g))) (fun _ jv _ => n - (intOf jv).toNat)
      case atStart => exact ⟨k, k + 1, L, by omega, by omega, rfl, by go_num, HD0, HO0, HG0⟩
      case round =>
        obtain ⟨i, j, R, hij, hj, rfl, rfl, HD, HO, HG⟩ := hrel
        have hRl : R.length = n := HD.out.len.trans hL.out
        have i0 : (0 : Int) ≤ (i : Int) := by omega
        have j0 : (0 : Int) ≤ (j : Int) := by omega
        by_cases hlt : j < n
        · have j1 : (j : Int) < (n : Int) := by omega
          have i1 : (i : Int) < (n : Int) := by omega
          have hjl : j < L.length := by rw [hL.out]; exact hlt
          obtain ⟨y, hy⟩ : ∃ y, L[j]? = some y := ⟨L[j], List.getElem?_eq_getElem hjl⟩
          have hry : R[j]? = some y := (HD.out.high j (Nat.le_refl _)).trans hy
          have hcell : wr.cell? ⟨g, j, none⟩ = some (.string (baO y)) := by
            have := (HO.out.src.at_ _ rfl).2 j y hry
            rwa [show (⟨g, 0, none⟩ : Addr).add j = ⟨g, j, none⟩ by rcases j with _ | j <;> simp [Addr.add]] at this
          have hri : i < R.length := by rw [hRl]; omega
          have hci : wr.cell? ⟨g, i, none⟩ = some (.string (baO R[i])) := by
            have := (HO.out.src.at_ _ rfl).2 i R[i] (List.getElem?_eq_getElem hri)
            rwa [show (⟨g, 0, none⟩ : Addr).add i = ⟨g, i, none⟩ by rcases i with _ | i <;> simp [Addr.add]] at this
          have hfi : wr.frozen? ⟨g, i, none⟩ = false := by
            obtain ⟨_, ⟨h0, _⟩ | ⟨g', cap', cur', hv', hbs', hg', _⟩⟩ := HO.out
            · cases h0
            · injection hv' with e1
              injection e1 with e1
              injection e1 with e1
              subst e1
              exact frozen_of_row _ _ _ _ _ hg'
          have C1 := CX.out wr HG.out y
          obtain ⟨P1, P2⟩ := HO.out.put' hRl i y
          have HP1 := Lib.hid P1
          have HP2 := Lib.hid (HG.out.trans P2)
          clear P1 P2
          by_cases hin : y ∈ M
          · have HD2 := Lib.hid (HD.out.skip hy hin)
            rw [decide_eq_true hin] at C1
            replace C1 := Lib.hid C1
            replace hin := Lib.hid hin
            replace hy := Lib.hid hy
            replace hry := Lib.hid hry
            replace hRl := Lib.hid hRl
            go_wp2_with fail
            refine C1.out.mono ?_
            rintro _ w3 ⟨rfl, h3⟩
            subst w3
            dsimp only []
            go_wp2_with fail
            go_roundw
            case rel => exact ⟨i, j + 1, R, by omega, by omega, rfl, by go_num, HD2, HO, HG⟩
            case measure => simp [intOf]; omega
          · have HD2 := Lib.hid (HD.out.keep hy hin)
            rw [decide_eq_false hin] at C1
            replace C1 := Lib.hid C1
            replace hin := Lib.hid hin
            replace hy := Lib.hid hy
            replace hry := Lib.hid hry
            replace hRl := Lib.hid hRl
            go_wp2_with fail
            refine C1.out.mono ?_
            rintro _ w3 ⟨rfl, h3⟩
            subst w3
            dsimp only []
            go_wp2_with fail
            go_roundw
            case rel => exact ⟨i + 1, j + 1, R.set i y, by omega, by omega, by go_num, by go_num, HD2, HP1, HP2⟩
            case measure => simp [intOf]; omega
        · obtain rfl : j = n := by omega
          have j1 : ¬ ((j : Int) < (j : Int)) := by omega
          have i1 : (i : Int) ≤ (j : Int) := by omega
          have i2 : (i : Int) ≤ (c : Int) := by omega
          have hic : ¬ c = i := by omega
          have hDD : DelI L M R i L.length := by rw [hL.out]; exact HD.out
          obtain ⟨hd1, hd2⟩ := hDD.done
          obtain ⟨T, hT1, hT2, hT3, hT4⟩ := HO.out.wipe (j - i) i hRl (by omega)
          have hsh := hT1.short i (by omega)
          rw [hT3, hd1] at hsh
          have HSH := Lib.hid hsh
          have HGG := Lib.hid (HG.out.trans hT4)
          have hd2' := Lib.hid hd2
          have hcc : ∀ t, t < j - i → (wr.cell? ⟨g, i + t, none⟩).isSome = true ∧ wr.frozen? ⟨g, i + t, none⟩ = false := fun t ht => by
            obtain ⟨_, ⟨h0, _⟩ | ⟨g', cap', cur', hv', hbs', hg', _, _, hcs, _⟩⟩ := id HO.out
            · cases h0
            · injection hv' with e1 e2 e3
              injection e1 with e1
              injection e1 with e1
              subst e1 e3
              refine ⟨?_, frozen_of_row _ _ _ _ _ hg'⟩
              rw [cell_of_row _ _ _ _ _ _ hg', Array.getElem?_eq_getElem (by omega)]
              rfl
          have hcl := fun ty => Lib.run_clear_slice (P := Tryd.prog) wr 29 9 ty (.string ⟨#[]⟩) Tryd.underlying29 hz.out rfl rfl g i (j - i) (c - i) (by omega) (fun t ht => (hcc t ht).1) (fun t ht => (hcc t ht).2)
          clear hd1 hd2 hDD hT1 hT2 hT3 hT4 hsh hcc
          replace hRl := Lib.hid hRl
          go_wp2_with fail
          go_ret
          exact ⟨some ⟨g, 0, none⟩, c, by rw [hd2'.out]; rfl, by rw [hd2'.out]; exact HSH.out, HGG.out⟩
end Go.Proofs.YtllmffmmfpecaaaDoor
