/-
  FilterDeep: nested filters, filters side by side.
-/
import Derived.Test.YtfmdghajdieemaaGreatDoorFltOne
namespace Go.Proofs.YtfmdghajdieemaaGreatDoor
open Go.RowKit

def exA : Ft := ⟨3, .nil, [99, 110], [97], [], [], []⟩
/-- So many filters, one within another. -/
def nest : Nat → Ft
  | 0 => exA
  | k + 1 => ⟨2, Gl.of [nest k], [], [], [], [], []⟩
/-- So many beside each other. -/
def wide (m : Nat) : Ft := ⟨1, Gl.of (List.replicate m exA), [], [], [], [], []⟩
theorem exA_text : exA.text = [40, 99, 110, 61, 97, 41] := by decide +kernel
theorem exA_all : exA.all = true := by decide +kernel
theorem exA_num : exA.num = 1 := rfl
theorem exA_deep : exA.deep = 1 := rfl
theorem one_of (f : Ft) : (Gl.of [f]) = .cons f.k f.g f.t f.v f.a f.z f.b .nil := rfl
theorem nest_all : ∀ k, (nest k).all = true
  | 0 => exA_all
  | k + 1 => by
    have ih := nest_all k
    unfold Ft.all at ih ⊢
    show ((⟨2, Gl.of [nest k], [], [], [], [], []⟩ : Ft).one && (Gl.of [nest k]).all) = true
    rw [one_of, Gl.all, Gl.all, Bool.and_true]
    show (_ && ((nest k).one && (nest k).g.all)) = true
    rw [ih]
    rfl
theorem nest_num : ∀ k, (nest k).num = k + 1
  | 0 => rfl
  | k + 1 => by
    have ih := nest_num k
    unfold Ft.num at ih ⊢
    show (Gl.of [nest k]).num + 1 = _
    rw [one_of, Gl.num, Gl.num]
    omega
theorem nest_deep : ∀ k, (nest k).deep = k + 1
  | 0 => rfl
  | k + 1 => by
    have ih := nest_deep k
    unfold Ft.deep at ih ⊢
    show (Gl.of [nest k]).deep + 1 = _
    rw [one_of, Gl.deep, Gl.deep]
    omega
theorem nest_meas : ∀ k, (nest k).meas = 13 + 10 * k
  | 0 => rfl
  | k + 1 => by
    have ih := nest_meas k
    unfold Ft.meas at ih ⊢
    show 10 + 0 + 0 + 0 + 0 + lensB [] + (Gl.of [nest k]).meas = _
    rw [one_of, Gl.meas, Gl.meas]
    have : lensB [] = 0 := rfl
    omega
theorem nest_text (k : Nat) : (nest (k + 1)).text = [40, 33] ++ (nest k).text ++ [41] := by
  have h : (nest (k + 1)).text = 40 :: (sgn 2 :: (Gl.of [nest k]).text ++ [41]) := by
    unfold Ft.text Ft.body
    rfl
  rw [h, one_of, ← ft_text]
  rfl
theorem nest_len (k : Nat) : (nest k).text.length = 6 + 3 * k := by
  induction k with
  | zero => show exA.text.length = _; rw [exA_text]; rfl
  | succ k ih => rw [nest_text]; simp; omega
theorem nest_right (k : Nat) : (nest k).right = decide (k + 1 ≤ 10) := by
  unfold Ft.right
  rw [nest_num, nest_deep, nest_all, Bool.and_true, Bool.eq_iff_iff]
  simp only [Bool.and_eq_true, decide_eq_true_eq]
  omega
theorem rep_all (m : Nat) : (Gl.of (List.replicate m exA)).all = true := by
  rw [Gl.all_list, Gl.list_of, List.all_eq_true]
  intro x hx
  rw [List.eq_of_mem_replicate hx]
  exact exA_all
theorem wide_all (m : Nat) : (wide m).all = true := by
  unfold Ft.all wide
  simp only
  rw [rep_all, Bool.and_true]
  rfl
theorem rep_num (m : Nat) : (Gl.of (List.replicate m exA)).num = m := by
  induction m with
  | zero => rfl
  | succ m ih =>
    rw [List.replicate_succ, Gl.of, Gl.num, ih]
    show 0 + 1 + m = _
    omega
theorem rep_deep (m : Nat) : (Gl.of (List.replicate m exA)).deep ≤ 1 := by
  induction m with
  | zero => exact Nat.zero_le _
  | succ m ih =>
    rw [List.replicate_succ, Gl.of, Gl.deep]
    have : exA.g.deep = 0 := rfl
    omega
theorem rep_meas (m : Nat) : (Gl.of (List.replicate m exA)).meas = 13 * m := by
  induction m with
  | zero => rfl
  | succ m ih =>
    rw [List.replicate_succ, Gl.of, Gl.meas, ih]
    show 10 + 2 + 1 + 0 + 0 + 0 + 0 + 13 * m = _
    omega
theorem wide_meas (m : Nat) : (wide m).meas = 10 + 13 * m := by
  unfold Ft.meas wide
  simp only [rep_meas]
  show 10 + 0 + 0 + 0 + 0 + 0 + _ = _
  omega
theorem wide_right (m : Nat) : (wide m).right = decide (m ≤ 63) := by
  have h1 : (wide m).num = m + 1 := by unfold Ft.num wide; simp only [rep_num]
  have h2 : (wide m).deep ≤ 2 := by
    unfold Ft.deep wide
    have := rep_deep m
    simp only
    omega
  unfold Ft.right
  rw [h1, wide_all, Bool.and_true, Bool.eq_iff_iff]
  simp only [Bool.and_eq_true, decide_eq_true_eq]
  omega
theorem wide_kids (m : Nat) : (wide m).kids.length = m := by
  unfold Ft.kids wide
  simp only [Gl.list_of, List.length_replicate]
/-- The text before the last bracket. -/
def rowW (m : Nat) : List Nat := [40, 124] ++ (Gl.of (List.replicate m exA)).text
theorem rep_text (m : Nat) : (Gl.of (List.replicate (m + 1) exA)).text = (Gl.of (List.replicate m exA)).text ++ [40, 99, 110, 61, 97, 41] := by
  rw [Gl.text_list, Gl.text_list, Gl.list_of, Gl.list_of, List.replicate_succ', List.flatMap_append, List.flatMap_singleton, exA_text]
theorem rowW_succ (m : Nat) : rowW (m + 1) = rowW m ++ [40, 99, 110, 61, 97, 41] := by
  unfold rowW
  rw [rep_text, List.append_assoc]
theorem rowW_len (m : Nat) : (rowW m).length = 2 + 6 * m := by
  induction m with
  | zero => rfl
  | succ m ih => rw [rowW_succ]; simp; omega
theorem wide_text (m : Nat) : (wide m).text = rowW m ++ [41] := by
  have h : (wide m).text = 40 :: (sgn 1 :: (Gl.of (List.replicate m exA)).text ++ [41]) := by
    unfold Ft.text Ft.body
    rfl
  rw [h]
  rfl
theorem strB_app14 (l m : List Nat) : strB l ++ strB m = strB (l ++ m) := by
  have h : ∀ s t : ByteArray, s.data.toList = t.data.toList → s = t := fun s t h => congrArg ByteArray.mk (Array.ext' h)
  apply h
  rw [ByteArray.data_append, Array.toList_append, strB_list, strB_list, strB_list, List.map_append]
theorem strB_sz14 (l : List Nat) : (strB l).size = l.length := by
  have := congrArg List.length (strB_list l)
  rw [List.length_map] at this
  simpa using this
theorem and_low (n : Int) (m : Nat) (hm : m < 4611686018427387904) : ∃ p : Nat, p ≤ m ∧ bits .and .i64 n (m : Int) = (p : Int) := by
  refine ⟨(BitVec.ofInt 64 n &&& BitVec.ofInt 64 (m : Int)).toNat, ?_, ?_⟩
  · rw [BitVec.toNat_and, BitVec.ofInt_natCast, BitVec.toNat_ofNat, Nat.mod_eq_of_lt (by omega)]
    exact Nat.and_le_right
  · show IntKind.i64.wrap ((BitVec.ofInt 64 n &&& BitVec.ofInt 64 (m : Int)).toNat : Int) = _
    have h : (BitVec.ofInt 64 n &&& BitVec.ofInt 64 (m : Int)).toNat ≤ m := by
      rw [BitVec.toNat_and, BitVec.ofInt_natCast, BitVec.toNat_ofNat, Nat.mod_eq_of_lt (by omega)]
      exact Nat.and_le_right
    rw [IntWalk.i64_in _ (by omega)]

theorem heap_al5 {W : World} {b : Nat} {x : Obj} (h : W.heap[b]? = some x) (o : Obj) : (W.alloc o).heap[b]? = some x := (Below.heap_alloc _ _ _ (Array.getElem?_eq_some_iff.1 h).1).trans h
theorem heap_be5 {W W' : World} {b : Nat} {x : Obj} (hb : Below W.heap.size W W') (h : W.heap[b]? = some x) : W'.heap[b]? = some x := (hb.block b (Array.getElem?_eq_some_iff.1 h).1).trans h
theorem FtIn.go5 {W W' : World} {f : Ft} {Ak : Option Addr} {ck : Nat} {Ab : Option Addr} {cb : Nat} (h : FtIn W (· < W.heap.size) f Ak ck Ab cb) (hb : Below W.heap.size W W') : FtIn W' (· < W'.heap.size) f Ak ck Ab cb := (h.keep fun _ hp => hb.cell hp).more fun _ hp => Nat.lt_of_lt_of_le hp hb.size
theorem al_be5 (W : World) (o : Obj) : Below W.heap.size W (W.alloc o) := (Below.refl _ _).alloc (Nat.le_refl _) o

set_option maxRecDepth 8000 in
set_option maxHeartbeats 1600000 in
theorem fdeep_walk (n m : Int) (w : World) (HP : ParseH w) (HT : TextH w) :
    Calls Tryz.prog 4 #[.int .i64 n, .int .i64 m] w fun en w' => en = .returned (.bool true) ∧ Below w.heap.size w w' := by
  obtain ⟨p, hp, hpe⟩ := and_low n 15 (by omega)
  obtain ⟨q, hq, hqe⟩ := and_low m 127 (by omega)
  obtain ⟨N, hN⟩ : ∃ N, N = p + 1 := ⟨_, rfl⟩
  have hNe : (1 : Int) + (p : Int) = (N : Int) := by omega
  have hs0 : (⟨#[40, 99, 110, 61, 97, 41]⟩ : ByteArray) = strB (nest 0).text := by
    show _ = strB exA.text
    rw [exA_text]
    decide +kernel
  have ht0 : (⟨#[40, 124]⟩ : ByteArray) = strB (rowW 0) := by decide +kernel
  have hpe' : bits .and .i64 n 15 = (p : Int) := hpe
  have hqe' : bits .and .i64 m 127 = (q : Int) := hqe
  clear hpe hqe
  replace hs0 := Lib.hid hs0
  replace ht0 := Lib.hid ht0
  replace hN := Lib.hid hN
  replace hNe := Lib.hid hNe
  go_enter Tryz.func4, Tryz.ntmps4
  go_wp2_with fail
  rw [hNe.out]
  go_loopw [5, 6] (fun sv iv wr => ∃ (j : Nat) (s : ByteArray), j < N ∧ iv = .int .i64 ((j : Int) + 1) ∧ sv = .string s ∧ wr = w ∧ Hid (s = strB (nest j).text)) (fun _ i _ => N + 1 - (intOf i).toNat)
  case atStart => exact ⟨0, _, by have := hN.out; omega, rfl, rfl, rfl, hs0⟩
  case round =>
    obtain ⟨j, s, hj, rfl, rfl, hwr, hs⟩ := hrel
    have j0 : (0 : Int) ≤ (j : Int) := by omega
    have j1 : (j : Int) ≤ 20 := by have := hN.out; omega
    have hj20 : j ≤ 20 := by omega
    have hz : s.size = 6 + 3 * j := by rw [hs.out, strB_sz14, nest_len]
    subst hwr
    by_cases hlt : j + 1 < N
    · have k1 : decide ((j : Int) + 1 < (N : Int)) = true := decide_eq_true (by omega)
      have hz2 : ((⟨#[40, 33]⟩ : ByteArray) ++ s).size = 2 + s.size := by rw [ByteArray.size_append]; rfl
      have hS : Hid ((⟨#[40, 33]⟩ : ByteArray) ++ s ++ ⟨#[41]⟩ = strB (nest (j + 1)).text) := Lib.hid (by rw [nest_text, ← strB_app14, ← strB_app14, ← hs.out]; rfl)
      go_wp2_with fail
      refine ⟨⟨j + 1, _, hlt, by congr 1, rfl, by trivial, hS⟩, ?_⟩
      show N + 1 - ((j : Int) + 1 + 1).toNat < N + 1 - ((j : Int) + 1).toNat
      omega
    have k1 : decide ((j : Int) + 1 < (N : Int)) = false := decide_eq_false (by omega)
    have hjN : Hid (j + 1 = N) := Lib.hid (by omega)
    have CP := Lib.hid (HP.parse (nest j) s wr (Below.refl _ _) (nest_all j) (by rw [nest_meas]; omega) hs.out)
    go_wp2_with fail
    refine CP.out.mono ?_
    rintro en w1 ⟨g, Ak, ck, Ab, cb, ev, rfl, hg, hb1, _, ha, hc⟩
    replace ha := Lib.hid (ha (by rw [nest_len]; omega))
    replace hc := Lib.hid (hc (by rw [nest_len]; omega))
    replace hg := Lib.hid hg
    replace hb1 := Lib.hid hb1
    clear CP k1 j0 j1
    unfold ftV
    dsimp only []
    go_wp2_with fail
    obtain ⟨W2, hW2⟩ : ∃ W2, W2 = w1.alloc (.cells #[.int .i64 g.k, .slice Ak g.kids.length ck, .string (baO g.t), .string (baO g.v), .string (baO g.a), .string (baO g.z), .slice Ab g.b.length cb] 25) := ⟨_, rfl⟩
    rw [← hW2]
    have hB2 : Below wr.heap.size wr W2 := by rw [hW2]; exact hb1.out.alloc hb1.out.size _
    have hX2 : W2.heap[w1.heap.size]? = some (.cells #[.int .i64 g.k, .slice Ak g.kids.length ck, .string (baO g.t), .string (baO g.v), .string (baO g.a), .string (baO g.z), .slice Ab g.b.length cb] 25 (0, 0)) := by rw [hW2]; exact heap_alloc_new w1 _
    have hg2 := hg.out.go5 (W' := W2) (by rw [hW2]; exact al_be5 w1 _)
    replace hW2 := Lib.hid hW2
    replace hB2 := Lib.hid hB2
    replace hX2 := Lib.hid hX2
    replace hg2 := Lib.hid hg2
    replace hz := Lib.hid hz
    go_loopw [9, 10] (fun tv iv wr2 => ∃ (i : Nat) (t : ByteArray), i ≤ q ∧ iv = .int .i64 (i : Int) ∧ tv = .string t ∧ wr2 = W2 ∧ Hid (t = strB (rowW i))) (fun _ i _ => q - (intOf i).toNat)
    case atStart => exact ⟨0, _, Nat.zero_le _, rfl, rfl, rfl, ht0⟩
    case round =>
      obtain ⟨i, t, hi, rfl, rfl, hwr2, ht⟩ := hrel
      have hzt : t.size = 2 + 6 * i := by rw [ht.out, strB_sz14, rowW_len]
      have hiq : i ≤ 200 := by omega
      have hi0 : (0 : Int) ≤ (i : Int) := by omega
      have hi1 : (i : Int) ≤ 200 := by omega
      by_cases hlt2 : i < q
      · have k1 : decide ((i : Int) < (q : Int)) = true := decide_eq_true (by omega)
        have hS : Hid (t ++ ⟨#[40, 99, 110, 61, 97, 41]⟩ = strB (rowW (i + 1))) := Lib.hid (by rw [rowW_succ, ← strB_app14, ← ht.out]; rfl)
        go_wp2_with fail
        refine ⟨⟨i + 1, _, hlt2, by congr 1, rfl, by trivial, hS⟩, ?_⟩
        show q - ((i : Int) + 1).toNat < q - (i : Int).toNat
        omega
      have k1 : decide ((i : Int) < (q : Int)) = false := decide_eq_false (by omega)
      have hiq2 : Hid (i = q) := Lib.hid (by omega)
      have hT : t ++ ⟨#[41]⟩ = strB (wide q).text := by rw [wide_text, ← strB_app14, ← hiq2.out, ← ht.out]; rfl
      obtain ⟨T, hTT⟩ : ∃ T, t ++ ⟨#[41]⟩ = T := ⟨_, rfl⟩
      rw [hTT] at hT
      have CP := Lib.hid (HP.parse (wide q) T _ hB2.out (wide_all q) (by rw [wide_meas]; omega) hT)
      replace hT := Lib.hid hT
      subst hwr2
      go_wp2_with fail
      refine CP.out.mono ?_
      rintro en w3 ⟨g', Ak', ck', Ab', cb', ev', rfl, hg', hb3, _, ha', hc'⟩
      replace ha' := Lib.hid (ha' (by rw [wide_text]; simp [rowW_len]; omega))
      replace hc' := Lib.hid (hc' (by rw [wide_text]; simp [rowW_len]; omega))
      have hB3 := hB2.out.trans (hb3.mono hB2.out.size)
      have hX3 := heap_be5 hb3 hX2.out
      have hg3 := hg2.out.go5 hb3

      have x0 : ∀ o : Obj, (w3.alloc o).cell? ⟨w1.heap.size, 0, none⟩ = some (.int .i64 g.k) := fun o => cell_of_row _ _ _ _ _ _ (heap_al5 hX3 o)
      have x1 : ∀ o : Obj, (w3.alloc o).cell? ⟨w1.heap.size, 1, none⟩ = some (.slice Ak g.kids.length ck) := fun o => cell_of_row _ _ _ _ _ _ (heap_al5 hX3 o)
      have x2 : ∀ o : Obj, (w3.alloc o).cell? ⟨w1.heap.size, 2, none⟩ = some (.string (baO g.t)) := fun o => cell_of_row _ _ _ _ _ _ (heap_al5 hX3 o)
      have x3 : ∀ o : Obj, (w3.alloc o).cell? ⟨w1.heap.size, 3, none⟩ = some (.string (baO g.v)) := fun o => cell_of_row _ _ _ _ _ _ (heap_al5 hX3 o)
      have x4 : ∀ o : Obj, (w3.alloc o).cell? ⟨w1.heap.size, 4, none⟩ = some (.string (baO g.a)) := fun o => cell_of_row _ _ _ _ _ _ (heap_al5 hX3 o)
      have x5 : ∀ o : Obj, (w3.alloc o).cell? ⟨w1.heap.size, 5, none⟩ = some (.string (baO g.z)) := fun o => cell_of_row _ _ _ _ _ _ (heap_al5 hX3 o)
      have x6 : ∀ o : Obj, (w3.alloc o).cell? ⟨w1.heap.size, 6, none⟩ = some (.slice Ab g.b.length cb) := fun o => cell_of_row _ _ _ _ _ _ (heap_al5 hX3 o)
      replace hB3 := Lib.hid hB3
      replace hX3 := Lib.hid hX3
      replace hg3 := Lib.hid hg3
      replace hg' := Lib.hid hg'
      replace hb3 := Lib.hid hb3
      clear CP k1 hi0 hi1
      unfold ftV
      dsimp only []
      have hNj := hjN.out
      by_cases h1 : N ≤ 10
      · obtain ⟨he, hgg⟩ := ha.out (by rw [nest_right]; exact decide_eq_true (by omega))
        subst he hgg
        have n1 : decide ((N : Int) ≤ 10) = true := decide_eq_true (by omega)
        have CT := Lib.hid (fun o : Obj => HT.text (nest j) Ak ck Ab cb (w3.alloc o) (hB3.out.alloc hB3.out.size _) (hg3.out.go5 (al_be5 w3 o)) (by rw [nest_meas]; omega) (by rw [nest_deep]; omega))
        unfold ftV at CT
        have hrr : (nest j).right = true := by rw [nest_right]; exact decide_eq_true (by omega)
        rw [hrr] at CT
        have kt : (if true = true then strB (nest j).text else (⟨#[]⟩ : ByteArray)) = s := hs.out.symm
        rw [kt] at CT
        clear kt hrr hNj
        have ks : (s.toList == s.toList) = true := beq_self_eq_true _
        by_cases h2 : q ≤ 63
        · obtain ⟨he', hgg'⟩ := ha'.out (by rw [wide_right]; exact decide_eq_true h2)
          subst he' hgg'
          have n2 : decide ((q : Int) ≤ 63) = true := decide_eq_true (by omega)
          have hkl := wide_kids q
          rw [hkl]
          have kq : ((q : Int) == (q : Int)) = true := beq_self_eq_true _
          replace hkl := Lib.hid hkl
          clear h2
          replace ha' := Lib.hid ha'
          replace hc' := Lib.hid hc'
          go_wp2_with fail
          refine (CT.out _).mono ?_
          rintro en w4 ⟨rfl, hb4⟩
          have hB4 : Below _ _ w4 := (hB3.out.alloc hB3.out.size _).trans (hb4.mono (Nat.le_trans hB3.out.size (by simp)))
          have hY4 := heap_be5 hb4 (heap_alloc_new w3 _)
          have y1 : w4.cell? ⟨w3.heap.size, 1, none⟩ = some (.slice Ak' q ck') := cell_of_row _ _ _ _ _ _ hY4
          replace hY4 := Lib.hid hY4
          clear x0 x1 x2 x3 x4 x5 x6 CT
          replace hB4 := Lib.hid hB4
          replace hb4 := Lib.hid hb4
          dsimp only []
          go_wp2_with fail
          go_ret
          exact ⟨rfl, hB4.out⟩
        · have he' := hc'.out (by rw [wide_right]; exact decide_eq_false h2)
          subst he'
          have n2 : decide ((q : Int) ≤ 63) = false := decide_eq_false (by omega)
          clear h2
          replace ha' := Lib.hid ha'
          replace hc' := Lib.hid hc'
          go_wp2_with fail
          refine (CT.out _).mono ?_
          rintro en w4 ⟨rfl, hb4⟩
          have hB4 : Below _ _ w4 := (hB3.out.alloc hB3.out.size _).trans (hb4.mono (Nat.le_trans hB3.out.size (by simp)))
          clear x0 x1 x2 x3 x4 x5 x6 CT
          replace hB4 := Lib.hid hB4
          replace hb4 := Lib.hid hb4
          dsimp only []
          go_wp2_with fail
          go_ret
          exact ⟨rfl, hB4.out⟩
      · have he := hc.out (by rw [nest_right]; exact decide_eq_false (by omega))
        subst he
        have n1 : decide ((N : Int) ≤ 10) = false := decide_eq_false (by omega)
        clear hNj
        by_cases h2 : q ≤ 63
        · obtain ⟨he', hgg'⟩ := ha'.out (by rw [wide_right]; exact decide_eq_true h2)
          subst he' hgg'
          have n2 : decide ((q : Int) ≤ 63) = true := decide_eq_true (by omega)
          have hkl := wide_kids q
          rw [hkl]
          have kq : ((q : Int) == (q : Int)) = true := beq_self_eq_true _
          replace hkl := Lib.hid hkl
          clear h2
          replace ha' := Lib.hid ha'
          replace hc' := Lib.hid hc'
          go_wp2_with fail
          go_ret
          exact ⟨rfl, hB3.out.alloc hB3.out.size _⟩
        · have he' := hc'.out (by rw [wide_right]; exact decide_eq_false h2)
          subst he'
          have n2 : decide ((q : Int) ≤ 63) = false := decide_eq_false (by omega)
          clear h2
          replace ha' := Lib.hid ha'
          replace hc' := Lib.hid hc'
          go_wp2_with fail
          go_ret
          exact ⟨rfl, hB3.out.alloc hB3.out.size _⟩
end Go.Proofs.YtfmdghajdieemaaGreatDoor
