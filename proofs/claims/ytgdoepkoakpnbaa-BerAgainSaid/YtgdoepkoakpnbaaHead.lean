/-
  The program's readHead and Need.
-/
import Derived.Test.YtgdoepkoakpnbaaBer
import Derived.Test.YtgdoepkoakpnbaaEltOwn
import Derived.Test.YtgdoepkoakpnbaaReadLen
import Derived.Test.YtgdoepkoakpnbaaReadTag
namespace Go.Proofs.Ytgdoepkoakpnbaa
open Go.RowKit

theorem bcell {W w1 : World} {K : Nat} (hb : Below K W w1) : (∀ b o, b < K → w1.cell? ⟨b, o, none⟩ = W.cell? ⟨b, o, none⟩) ∧ (∀ b o, b < K → w1.frozen? ⟨b, o, none⟩ = W.frozen? ⟨b, o, none⟩) :=
  ⟨fun b o h => hb.cell (p := ⟨b, o, none⟩) h, fun b o h => hb.frozen (p := ⟨b, o, none⟩) h⟩
theorem cells5 {w : World} {b : Nat} {v0 v1 v2 v3 v4 : Value} {T : TypeId} (h : w.heap[b]? = some (.cells #[v0, v1, v2, v3, v4] T (0, 0))) :
    w.cell? ⟨b, 0, none⟩ = some v0 ∧ w.cell? ⟨b, 1, none⟩ = some v1 ∧ w.cell? ⟨b, 2, none⟩ = some v2 ∧ w.cell? ⟨b, 3, none⟩ = some v3 ∧ w.cell? ⟨b, 4, none⟩ = some v4 ∧
    w.frozen? ⟨b, 0, none⟩ = false ∧ w.frozen? ⟨b, 1, none⟩ = false ∧ w.frozen? ⟨b, 2, none⟩ = false ∧ w.frozen? ⟨b, 3, none⟩ = false ∧ w.frozen? ⟨b, 4, none⟩ = false :=
  ⟨cell_of_row _ _ _ _ _ _ h, cell_of_row _ _ _ _ _ _ h, cell_of_row _ _ _ _ _ _ h, cell_of_row _ _ _ _ _ _ h, cell_of_row _ _ _ _ _ _ h, frozen_of_row _ _ _ _ _ h, frozen_of_row _ _ _ _ _ h, frozen_of_row _ _ _ _ _ h, frozen_of_row _ _ _ _ _ h, frozen_of_row _ _ _ _ _ h⟩
theorem cells3 {w : World} {b : Nat} {v0 v1 v2 : Value} {T : TypeId} (h : w.heap[b]? = some (.cells #[v0, v1, v2] T (0, 0))) :
    w.cell? ⟨b, 0, none⟩ = some v0 ∧ w.cell? ⟨b, 1, none⟩ = some v1 ∧ w.cell? ⟨b, 2, none⟩ = some v2 ∧
    w.frozen? ⟨b, 0, none⟩ = false ∧ w.frozen? ⟨b, 1, none⟩ = false ∧ w.frozen? ⟨b, 2, none⟩ = false :=
  ⟨cell_of_row _ _ _ _ _ _ h, cell_of_row _ _ _ _ _ _ h, cell_of_row _ _ _ _ _ _ h, frozen_of_row _ _ _ _ _ h, frozen_of_row _ _ _ _ _ h, frozen_of_row _ _ _ _ _ h⟩
theorem cells5A {w : World} {b : Nat} {v0 v1 v2 v3 v4 : Value} {T : TypeId} (h : ∀ ob : Obj, (w.alloc ob).heap[b]? = some (.cells #[v0, v1, v2, v3, v4] T (0, 0))) :
    (∀ ob : Obj, (w.alloc ob).cell? ⟨b, 0, none⟩ = some v0) ∧ (∀ ob : Obj, (w.alloc ob).cell? ⟨b, 1, none⟩ = some v1) ∧ (∀ ob : Obj, (w.alloc ob).cell? ⟨b, 2, none⟩ = some v2) ∧ (∀ ob : Obj, (w.alloc ob).cell? ⟨b, 3, none⟩ = some v3) ∧ (∀ ob : Obj, (w.alloc ob).cell? ⟨b, 4, none⟩ = some v4) ∧
    (∀ ob : Obj, (w.alloc ob).frozen? ⟨b, 0, none⟩ = false) ∧ (∀ ob : Obj, (w.alloc ob).frozen? ⟨b, 1, none⟩ = false) ∧ (∀ ob : Obj, (w.alloc ob).frozen? ⟨b, 2, none⟩ = false) ∧ (∀ ob : Obj, (w.alloc ob).frozen? ⟨b, 3, none⟩ = false) ∧ (∀ ob : Obj, (w.alloc ob).frozen? ⟨b, 4, none⟩ = false) :=
  ⟨fun ob => (cells5 (h ob)).1, fun ob => (cells5 (h ob)).2.1, fun ob => (cells5 (h ob)).2.2.1, fun ob => (cells5 (h ob)).2.2.2.1, fun ob => (cells5 (h ob)).2.2.2.2.1, fun ob => (cells5 (h ob)).2.2.2.2.2.1, fun ob => (cells5 (h ob)).2.2.2.2.2.2.1, fun ob => (cells5 (h ob)).2.2.2.2.2.2.2.1, fun ob => (cells5 (h ob)).2.2.2.2.2.2.2.2.1, fun ob => (cells5 (h ob)).2.2.2.2.2.2.2.2.2⟩
/-- What readHead says of a beginning. -/
def headV (l : List Nat) : Value :=
  if (hdT l).2.2 = 0 then .agg #[.int .i64 ((rdT l).1 : Int), .bool (rdT l).2.1, .int .i64 ((rdT l).2.2.1 : Int), .int .i64 ((hdT l).2.1 : Int), .int .i64 ((hdT l).1 : Int)]
  else .agg #[.int .i64 0, .bool false, .int .i64 0, .int .i64 0, .int .i64 0]

theorem hdT_err (l : List Nat) (h : (hdT l).2.2 ≠ 0) : (hdT l).1 = 0 ∧ (hdT l).2.1 = 0 := by
  unfold hdT at h ⊢
  repeat' split
  all_goals first | exact ⟨rfl, rfl⟩ | skip
  rename_i h1 h2 h3
  rw [if_neg h1, if_neg h2, if_neg h3] at h
  exact absurd rfl h

set_option maxRecDepth 8000 in
set_option maxHeartbeats 800000 in
theorem readHead_any (A : Option Addr) (cp : Nat) (l : List Nat) (w : World) (K : Nat) (hs : Src w K A cp l) (hK : K ≤ w.heap.size) (hl : l.length ≤ 1048600) (hcp : cp ≤ 9223372036854775807) (hby : ∀ x ∈ l, x < 256) :
    Calls Try.prog 30 #[.slice A l.length cp] w fun e w' => e = .returned (.tuple #[headV l, .int .i64 ((hdT l).2.2 : Int)]) ∧ Below w.heap.size w w' := by
  have CT : ∀ w', Below w.heap.size w w' → Calls Try.prog 47 #[.slice A l.length cp] w' fun e w'' => e = .returned (tupT (rdT l)) ∧ Below w'.heap.size w' w'' :=
    fun w' hb => read_any A cp l w' K (hs.below (hb.mono hK)) hl hcp hby
  by_cases h1 : (rdT l).2.2.2.2 = 0
  · obtain ⟨a1, a2, a3, a4, a5⟩ := rdT_ok l hby h1
    obtain ⟨b, off, rfl, hbK, hc⟩ := hs.plain (by omega)
    have H : hdT l = if (rdL (l.drop (rdT l).2.2.2.1)).2.2 ≠ 0 then (0, 0, (rdL (l.drop (rdT l).2.2.2.1)).2.2)
      else if 16384 < (rdT l).2.2.2.1 + (rdL (l.drop (rdT l).2.2.2.1)).2.1 + (rdL (l.drop (rdT l).2.2.2.1)).1 then (0, 0, 3)
      else ((rdT l).2.2.2.1 + (rdL (l.drop (rdT l).2.2.2.1)).2.1 + (rdL (l.drop (rdT l).2.2.2.1)).1, (rdT l).2.2.2.1 + (rdL (l.drop (rdT l).2.2.2.1)).2.1, 0) := by
      unfold hdT
      rw [if_neg (by simpa using h1)]
    have hcap := hs.le
    by_cases hcu : (rdT l).2.2.2.1 = cp
    · have hd : l.drop (rdT l).2.2.2.1 = [] := List.drop_eq_nil_of_le (by omega)
      have CL : ∀ w', Below w.heap.size w w' → Calls Try.prog 48 #[.slice (some ⟨b, off, none⟩) 0 0] w' fun e w'' => e = .returned (tup3 (0, 0, 10)) ∧ w' = w'' :=
        fun w' _ => readLen_any (some ⟨b, off, none⟩) 0 [] w' K ⟨Nat.le_refl _, (fun e => by cases e), fun ad e => ⟨fun h0 => absurd h0 (by simp), fun j n hj => by simp at hj⟩⟩ (by simp) (by omega) (fun x hx => by cases hx)
      have hll : l.length = cp := by omega
      rw [hd, show rdL [] = (0, 0, 10) from rfl, if_pos (by simp)] at H
      unfold headV
      rw [H]
      obtain ⟨⟨c, m, n, u, er⟩, hq⟩ : ∃ q, q = rdT l := ⟨_, rfl⟩
      rw [← hq] at CT h1 hcu
      simp only [] at CT h1 hcu
      subst h1 hcu
      rw [hll] at CT ⊢
      rw [if_neg (by decide)]
      replace CT := Lib.hid CT
      replace CL := Lib.hid CL
      clear hq hby hs hc H hd hcap hll hl a1 a2 a3 a4 a5
      go_enter Try.func30, Try.ntmps30
      go_wp2_with fail
      refine (CT.out _ (by go_grown)).mono ?_
      rintro en w2 ⟨rfl, hb2⟩
      unfold tupT
      dsimp only []
      have hw : (w.alloc (.cells #[.int .i64 0, .bool false, .int .i64 0, .int .i64 0, .int .i64 0] 71)).heap.size = w.heap.size + 1 := by simp
      rw [hw] at hb2
      have hz2 := hb2.size
      rw [hw] at hz2
      have hZ2 : w2.heap[w.heap.size]? = some (.cells #[.int .i64 0, .bool false, .int .i64 0, .int .i64 0, .int .i64 0] 71 (0, 0)) := by
        rw [hb2.block _ (by omega)]
        exact heap_alloc_new w _
      have hB2 : Below w.heap.size w w2 := ((Below.refl _ w).alloc (Nat.le_refl _) _).trans (hb2.mono (by omega))
      go_wp2_with fail
      obtain ⟨W, hW⟩ : ∃ W, W = w2.alloc (.cells #[.int .i64 (c : Int), .bool m, .int .i64 (n : Int)] 23) := ⟨_, rfl⟩
      have hZW : W.heap[w.heap.size]? = some (.cells #[.int .i64 0, .bool false, .int .i64 0, .int .i64 0, .int .i64 0] 71 (0, 0)) := by rw [hW, Below.heap_alloc _ _ _ (by omega)]; exact hZ2
      have hTW : W.heap[w2.heap.size]? = some (.cells #[.int .i64 (c : Int), .bool m, .int .i64 (n : Int)] 23 (0, 0)) := by rw [hW]; exact heap_alloc_new w2 _
      have hBW : Below w.heap.size w W := by rw [hW]; exact hB2.alloc (by omega) _
      rw [← hW]
      have hne : w2.heap.size ≠ w.heap.size := by omega
      replace hB2 := Lib.hid hB2
      replace hZ2 := Lib.hid hZ2
      replace hb2 := Lib.hid hb2
      replace hw := Lib.hid hw
      replace hW := Lib.hid hW
      refine (CL.out _ hBW).mono ?_
      rintro en w3 ⟨rfl, rfl⟩
      unfold tup3
      dsimp only []
      obtain ⟨r0, r1, r2, r3, r4, f0, f1, f2, f3, f4⟩ := cells5 hZW
      obtain ⟨t0, t1, t2, _, _, _⟩ := cells3 hTW
      replace hZW := Lib.hid hZW
      replace hTW := Lib.hid hTW
      replace hBW := Lib.hid hBW
      go_wp2_with fail
      clear r0 r1 r2 r3 r4 f0 f1 f2 f3 f4 t0 t1 t2
      have HX : set5 W w.heap.size (.int .i64 0) (.bool false) (.int .i64 0) (.int .i64 0) (.int .i64 0) = (((((W.setCell ⟨w.heap.size, 0, none⟩ (.int .i64 0)).setCell ⟨w.heap.size, 1, none⟩ (.bool false)).setCell ⟨w.heap.size, 2, none⟩ (.int .i64 0)).setCell ⟨w.heap.size, 3, none⟩ (.int .i64 0)).setCell ⟨w.heap.size, 4, none⟩ (.int .i64 0)) := rfl
      rw [← HX]
      have HC := set5_same hZW.out (.int .i64 0) (.bool false) (.int .i64 0) (.int .i64 0) (.int .i64 0)
      have HB := set5_below hBW.out (Nat.le_refl _) (.int .i64 0) (.bool false) (.int .i64 0) (.int .i64 0) (.int .i64 0)
      obtain ⟨W5, hW5⟩ : ∃ W5, W5 = set5 W w.heap.size (.int .i64 0) (.bool false) (.int .i64 0) (.int .i64 0) (.int .i64 0) := ⟨_, rfl⟩
      rw [← hW5] at HB HC ⊢
      clear HX hW5
      obtain ⟨q0, q1, q2, q3, q4, _⟩ := cells5 HC
      exact bodyPost_ret (v := .tuple #[.agg #[.int .i64 0, .bool false, .int .i64 0, .int .i64 0, .int .i64 0], .int .i64 10]) (by simp [results, Try.results30, go_sem, q0, q1, q2, q3, q4]) rfl ⟨rfl, HB⟩

    have CL : ∀ w', Below w.heap.size w w' → Calls Try.prog 48 #[.slice (some ⟨b, off + (rdT l).2.2.2.1, none⟩) (l.length - (rdT l).2.2.2.1) (cp - (rdT l).2.2.2.1)] w' fun e w'' => e = .returned (tup3 (rdL (l.drop (rdT l).2.2.2.1))) ∧ w' = w'' := by
      intro w' hb
      have := readLen_any (some ⟨b, off + (rdT l).2.2.2.1, none⟩) (cp - (rdT l).2.2.2.1) (l.drop (rdT l).2.2.2.1) w' K ((hs.behind a4).below (hb.mono hK)) (by rw [List.length_drop]; omega) (by omega) (fun x hx => hby x (List.mem_of_mem_drop hx))
      rw [List.length_drop] at this
      exact this
    have hL := rdL_ok (l.drop (rdT l).2.2.2.1)
    unfold headV
    obtain ⟨⟨c, m, n, u, er⟩, hq⟩ : ∃ q, q = rdT l := ⟨_, rfl⟩
    rw [← hq] at CT h1 a1 a2 a3 a4 a5 CL H hL hcu ⊢
    simp only [] at CT h1 a1 a2 a3 a4 a5 CL H hL hcu ⊢
    subst h1
    obtain ⟨⟨v, k, er2⟩, hq2⟩ : ∃ q, q = rdL (l.drop u) := ⟨_, rfl⟩
    rw [← hq2] at CL H hL
    simp only [] at CL H hL
    replace CL := Lib.hid CL
    replace CT := Lib.hid CT
    clear hq hq2 hby hs hc
    by_cases h2 : er2 = 0
    · subst h2
      obtain ⟨b1, b2, b3, b4⟩ := hL rfl
      clear hL
      rw [if_neg (by simp)] at H
      by_cases h3 : 16384 < u + k + v
      · rw [if_pos h3] at H
        rw [H, if_neg (by decide)]
        have k3 : decide (16384 - ((u : Int) + (k : Int)) < (v : Int)) = true := decide_eq_true (by omega)
        clear H
        go_enter Try.func30, Try.ntmps30
        go_wp2_with fail
        refine (CT.out _ (by go_grown)).mono ?_
        rintro en w2 ⟨rfl, hb2⟩
        unfold tupT
        dsimp only []
        have hw : (w.alloc (.cells #[.int .i64 0, .bool false, .int .i64 0, .int .i64 0, .int .i64 0] 71)).heap.size = w.heap.size + 1 := by simp
        rw [hw] at hb2
        have hz2 := hb2.size
        rw [hw] at hz2
        have hZ2 : w2.heap[w.heap.size]? = some (.cells #[.int .i64 0, .bool false, .int .i64 0, .int .i64 0, .int .i64 0] 71 (0, 0)) := by
          rw [hb2.block _ (by omega)]
          exact heap_alloc_new w _
        have hB2 : Below w.heap.size w w2 := ((Below.refl _ w).alloc (Nat.le_refl _) _).trans (hb2.mono (by omega))
        go_wp2_with fail
        obtain ⟨W, hW⟩ : ∃ W, W = w2.alloc (.cells #[.int .i64 (c : Int), .bool m, .int .i64 (n : Int)] 23) := ⟨_, rfl⟩
        have hZW : W.heap[w.heap.size]? = some (.cells #[.int .i64 0, .bool false, .int .i64 0, .int .i64 0, .int .i64 0] 71 (0, 0)) := by rw [hW, Below.heap_alloc _ _ _ (by omega)]; exact hZ2
        have hTW : W.heap[w2.heap.size]? = some (.cells #[.int .i64 (c : Int), .bool m, .int .i64 (n : Int)] 23 (0, 0)) := by rw [hW]; exact heap_alloc_new w2 _
        have hBW : Below w.heap.size w W := by rw [hW]; exact hB2.alloc (by omega) _
        rw [← hW]
        have hne : w2.heap.size ≠ w.heap.size := by omega
        replace hB2 := Lib.hid hB2
        replace hZ2 := Lib.hid hZ2
        replace hb2 := Lib.hid hb2
        replace hw := Lib.hid hw
        replace hW := Lib.hid hW
        refine (CL.out _ hBW).mono ?_
        rintro en w3 ⟨rfl, rfl⟩
        unfold tup3
        dsimp only []
        obtain ⟨r0, r1, r2, r3, r4, f0, f1, f2, f3, f4⟩ := cells5 hZW
        obtain ⟨t0, t1, t2, _, _, _⟩ := cells3 hTW
        replace hZW := Lib.hid hZW
        replace hTW := Lib.hid hTW
        replace hBW := Lib.hid hBW
        go_wp2_with fail
        clear r0 r1 r2 r3 r4 f0 f1 f2 f3 f4 t0 t1 t2
        have HX : set5 W w.heap.size (.int .i64 0) (.bool false) (.int .i64 0) (.int .i64 0) (.int .i64 0) = (((((W.setCell ⟨w.heap.size, 0, none⟩ (.int .i64 0)).setCell ⟨w.heap.size, 1, none⟩ (.bool false)).setCell ⟨w.heap.size, 2, none⟩ (.int .i64 0)).setCell ⟨w.heap.size, 3, none⟩ (.int .i64 0)).setCell ⟨w.heap.size, 4, none⟩ (.int .i64 0)) := rfl
        rw [← HX]
        have HC := set5_same hZW.out (.int .i64 0) (.bool false) (.int .i64 0) (.int .i64 0) (.int .i64 0)
        have HB := set5_below hBW.out (Nat.le_refl _) (.int .i64 0) (.bool false) (.int .i64 0) (.int .i64 0) (.int .i64 0)
        obtain ⟨W5, hW5⟩ : ∃ W5, W5 = set5 W w.heap.size (.int .i64 0) (.bool false) (.int .i64 0) (.int .i64 0) (.int .i64 0) := ⟨_, rfl⟩
        rw [← hW5] at HB HC ⊢
        clear HX hW5
        obtain ⟨q0, q1, q2, q3, q4, _⟩ := cells5 HC
        exact bodyPost_ret (v := .tuple #[.agg #[.int .i64 0, .bool false, .int .i64 0, .int .i64 0, .int .i64 0], .int .i64 3]) (by simp [results, Try.results30, go_sem, q0, q1, q2, q3, q4]) rfl ⟨rfl, HB⟩

      · rw [if_neg h3] at H
        rw [H, if_pos rfl]
        have k3 : decide (16384 - ((u : Int) + (k : Int)) < (v : Int)) = false := decide_eq_false (by omega)
        have p1 : IntKind.i64.wrap ((u : Int) + (k : Int)) = (u : Int) + (k : Int) := IntWalk.i64_in _ (by omega)
        clear H p1
        go_enter Try.func30, Try.ntmps30
        go_wp2_with fail
        refine (CT.out _ (by go_grown)).mono ?_
        rintro en w2 ⟨rfl, hb2⟩
        unfold tupT
        dsimp only []
        have hw : (w.alloc (.cells #[.int .i64 0, .bool false, .int .i64 0, .int .i64 0, .int .i64 0] 71)).heap.size = w.heap.size + 1 := by simp
        rw [hw] at hb2
        have hz2 := hb2.size
        rw [hw] at hz2
        have hZ2 : w2.heap[w.heap.size]? = some (.cells #[.int .i64 0, .bool false, .int .i64 0, .int .i64 0, .int .i64 0] 71 (0, 0)) := by
          rw [hb2.block _ (by omega)]
          exact heap_alloc_new w _
        have hB2 : Below w.heap.size w w2 := ((Below.refl _ w).alloc (Nat.le_refl _) _).trans (hb2.mono (by omega))
        go_wp2_with fail
        obtain ⟨W, hW⟩ : ∃ W, W = w2.alloc (.cells #[.int .i64 (c : Int), .bool m, .int .i64 (n : Int)] 23) := ⟨_, rfl⟩
        have hZW : W.heap[w.heap.size]? = some (.cells #[.int .i64 0, .bool false, .int .i64 0, .int .i64 0, .int .i64 0] 71 (0, 0)) := by rw [hW, Below.heap_alloc _ _ _ (by omega)]; exact hZ2
        have hTW : W.heap[w2.heap.size]? = some (.cells #[.int .i64 (c : Int), .bool m, .int .i64 (n : Int)] 23 (0, 0)) := by rw [hW]; exact heap_alloc_new w2 _
        have hBW : Below w.heap.size w W := by rw [hW]; exact hB2.alloc (by omega) _
        rw [← hW]
        have hne : w2.heap.size ≠ w.heap.size := by omega
        replace hB2 := Lib.hid hB2
        replace hZ2 := Lib.hid hZ2
        replace hb2 := Lib.hid hb2
        replace hw := Lib.hid hw
        replace hW := Lib.hid hW
        refine (CL.out _ hBW).mono ?_
        rintro en w3 ⟨rfl, rfl⟩
        unfold tup3
        dsimp only []
        obtain ⟨r0, r1, r2, r3, r4, f0, f1, f2, f3, f4⟩ := cells5 hZW
        obtain ⟨t0, t1, t2, _, _, _⟩ := cells3 hTW
        replace hZW := Lib.hid hZW
        replace hTW := Lib.hid hTW
        replace hBW := Lib.hid hBW
        go_wp2_with fail
        clear r0 r1 r2 r3 r4 f0 f1 f2 f3 f4 t0 t1 t2
        have HX : set5 W w.heap.size (.int .i64 (c : Int)) (.bool m) (.int .i64 (n : Int)) (.int .i64 ((u : Int) + (k : Int))) (.int .i64 ((u : Int) + (k : Int) + (v : Int))) = (((((W.setCell ⟨w.heap.size, 0, none⟩ (.int .i64 (c : Int))).setCell ⟨w.heap.size, 1, none⟩ (.bool m)).setCell ⟨w.heap.size, 2, none⟩ (.int .i64 (n : Int))).setCell ⟨w.heap.size, 3, none⟩ (.int .i64 ((u : Int) + (k : Int)))).setCell ⟨w.heap.size, 4, none⟩ (.int .i64 ((u : Int) + (k : Int) + (v : Int)))) := rfl
        rw [← HX]
        have HC := set5_same hZW.out (.int .i64 (c : Int)) (.bool m) (.int .i64 (n : Int)) (.int .i64 ((u : Int) + (k : Int))) (.int .i64 ((u : Int) + (k : Int) + (v : Int)))
        have HB := set5_below hBW.out (Nat.le_refl _) (.int .i64 (c : Int)) (.bool m) (.int .i64 (n : Int)) (.int .i64 ((u : Int) + (k : Int))) (.int .i64 ((u : Int) + (k : Int) + (v : Int)))
        obtain ⟨W5, hW5⟩ : ∃ W5, W5 = set5 W w.heap.size (.int .i64 (c : Int)) (.bool m) (.int .i64 (n : Int)) (.int .i64 ((u : Int) + (k : Int))) (.int .i64 ((u : Int) + (k : Int) + (v : Int))) := ⟨_, rfl⟩
        rw [← hW5] at HB HC ⊢
        clear HX hW5
        obtain ⟨q0, q1, q2, q3, q4, _⟩ := cells5 HC
        exact bodyPost_ret (v := .tuple #[.agg #[.int .i64 (c : Int), .bool m, .int .i64 (n : Int), .int .i64 ((u : Int) + (k : Int)), .int .i64 ((u : Int) + (k : Int) + (v : Int))], .int .i64 0]) (by simp [results, Try.results30, go_sem, q0, q1, q2, q3, q4]) rfl ⟨rfl, HB⟩

    · rw [if_pos (by simpa using h2)] at H
      rw [H, if_neg (by simpa using h2)]
      have k2 : ((er2 : Int) != 0) = true := by simp; omega
      clear H hL
      go_enter Try.func30, Try.ntmps30
      go_wp2_with fail
      refine (CT.out _ (by go_grown)).mono ?_
      rintro en w2 ⟨rfl, hb2⟩
      unfold tupT
      dsimp only []
      have hw : (w.alloc (.cells #[.int .i64 0, .bool false, .int .i64 0, .int .i64 0, .int .i64 0] 71)).heap.size = w.heap.size + 1 := by simp
      rw [hw] at hb2
      have hz2 := hb2.size
      rw [hw] at hz2
      have hZ2 : w2.heap[w.heap.size]? = some (.cells #[.int .i64 0, .bool false, .int .i64 0, .int .i64 0, .int .i64 0] 71 (0, 0)) := by
        rw [hb2.block _ (by omega)]
        exact heap_alloc_new w _
      have hB2 : Below w.heap.size w w2 := ((Below.refl _ w).alloc (Nat.le_refl _) _).trans (hb2.mono (by omega))
      go_wp2_with fail
      obtain ⟨W, hW⟩ : ∃ W, W = w2.alloc (.cells #[.int .i64 (c : Int), .bool m, .int .i64 (n : Int)] 23) := ⟨_, rfl⟩
      have hZW : W.heap[w.heap.size]? = some (.cells #[.int .i64 0, .bool false, .int .i64 0, .int .i64 0, .int .i64 0] 71 (0, 0)) := by rw [hW, Below.heap_alloc _ _ _ (by omega)]; exact hZ2
      have hTW : W.heap[w2.heap.size]? = some (.cells #[.int .i64 (c : Int), .bool m, .int .i64 (n : Int)] 23 (0, 0)) := by rw [hW]; exact heap_alloc_new w2 _
      have hBW : Below w.heap.size w W := by rw [hW]; exact hB2.alloc (by omega) _
      rw [← hW]
      have hne : w2.heap.size ≠ w.heap.size := by omega
      replace hB2 := Lib.hid hB2
      replace hZ2 := Lib.hid hZ2
      replace hb2 := Lib.hid hb2
      replace hw := Lib.hid hw
      replace hW := Lib.hid hW
      refine (CL.out _ hBW).mono ?_
      rintro en w3 ⟨rfl, rfl⟩
      unfold tup3
      dsimp only []
      obtain ⟨r0, r1, r2, r3, r4, f0, f1, f2, f3, f4⟩ := cells5 hZW
      obtain ⟨t0, t1, t2, _, _, _⟩ := cells3 hTW
      replace hZW := Lib.hid hZW
      replace hTW := Lib.hid hTW
      replace hBW := Lib.hid hBW
      go_wp2_with fail
      clear r0 r1 r2 r3 r4 f0 f1 f2 f3 f4 t0 t1 t2
      have HX : set5 W w.heap.size (.int .i64 0) (.bool false) (.int .i64 0) (.int .i64 0) (.int .i64 0) = (((((W.setCell ⟨w.heap.size, 0, none⟩ (.int .i64 0)).setCell ⟨w.heap.size, 1, none⟩ (.bool false)).setCell ⟨w.heap.size, 2, none⟩ (.int .i64 0)).setCell ⟨w.heap.size, 3, none⟩ (.int .i64 0)).setCell ⟨w.heap.size, 4, none⟩ (.int .i64 0)) := rfl
      rw [← HX]
      have HC := set5_same hZW.out (.int .i64 0) (.bool false) (.int .i64 0) (.int .i64 0) (.int .i64 0)
      have HB := set5_below hBW.out (Nat.le_refl _) (.int .i64 0) (.bool false) (.int .i64 0) (.int .i64 0) (.int .i64 0)
      obtain ⟨W5, hW5⟩ : ∃ W5, W5 = set5 W w.heap.size (.int .i64 0) (.bool false) (.int .i64 0) (.int .i64 0) (.int .i64 0) := ⟨_, rfl⟩
      rw [← hW5] at HB HC ⊢
      clear HX hW5
      obtain ⟨q0, q1, q2, q3, q4, _⟩ := cells5 HC
      exact bodyPost_ret (v := .tuple #[.agg #[.int .i64 0, .bool false, .int .i64 0, .int .i64 0, .int .i64 0], .int .i64 (er2 : Int)]) (by simp [results, Try.results30, go_sem, q0, q1, q2, q3, q4]) rfl ⟨rfl, HB⟩

  · have H : hdT l = (0, 0, (rdT l).2.2.2.2) := by
      unfold hdT
      rw [if_pos (by simpa using h1)]
    unfold headV
    rw [H, if_neg (by simpa using h1)]
    obtain ⟨⟨c, m, n, u, er⟩, hq⟩ : ∃ q, q = rdT l := ⟨_, rfl⟩
    rw [← hq] at CT h1
    rw [← hq]
    simp only [] at CT h1 ⊢
    have k2 : ((er : Int) != 0) = true := by simp; omega
    replace CT := Lib.hid CT
    clear H hq
    go_enter Try.func30, Try.ntmps30
    go_wp2_with fail
    refine (CT.out _ (by go_grown)).mono ?_
    rintro en w2 ⟨rfl, hb2⟩
    unfold tupT
    dsimp only []
    have hw : (w.alloc (.cells #[.int .i64 0, .bool false, .int .i64 0, .int .i64 0, .int .i64 0] 71)).heap.size = w.heap.size + 1 := by simp
    rw [hw] at hb2
    have hz2 := hb2.size
    rw [hw] at hz2
    have hZ2 : w2.heap[w.heap.size]? = some (.cells #[.int .i64 0, .bool false, .int .i64 0, .int .i64 0, .int .i64 0] 71 (0, 0)) := by
      rw [hb2.block _ (by omega)]
      exact heap_alloc_new w _
    have hB2 : Below w.heap.size w w2 := ((Below.refl _ w).alloc (Nat.le_refl _) _).trans (hb2.mono (by omega))
    have hZO : ∀ ob : Obj, (w2.alloc ob).heap[w.heap.size]? = some (.cells #[.int .i64 0, .bool false, .int .i64 0, .int .i64 0, .int .i64 0] 71 (0, 0)) := fun ob => by rw [Below.heap_alloc _ _ _ (by omega)]; exact hZ2
    obtain ⟨r0, r1, r2, r3, r4, f0, f1, f2, f3, f4⟩ := cells5A hZO
    replace hZO := Lib.hid hZO
    replace hB2 := Lib.hid hB2
    replace hZ2 := Lib.hid hZ2
    replace hb2 := Lib.hid hb2
    replace hw := Lib.hid hw
    go_wp2_with fail
    clear r0 r1 r2 r3 r4 f0 f1 f2 f3 f4
    obtain ⟨W, hW⟩ : ∃ W, W = w2.alloc (.cells #[.int .i64 (c : Int), .bool m, .int .i64 (n : Int)] 23) := ⟨_, rfl⟩
    have hZW : W.heap[w.heap.size]? = some (.cells #[.int .i64 0, .bool false, .int .i64 0, .int .i64 0, .int .i64 0] 71 (0, 0)) := by rw [hW, Below.heap_alloc _ _ _ (by omega)]; exact hZ2.out
    have hTW : W.heap[w2.heap.size]? = some (.cells #[.int .i64 (c : Int), .bool m, .int .i64 (n : Int)] 23 (0, 0)) := by rw [hW]; exact heap_alloc_new w2 _
    have hBW : Below w.heap.size w W := by rw [hW]; exact hB2.out.alloc (by omega) _
    rw [← hW]
    replace hW := Lib.hid hW
    replace hZW := Lib.hid hZW
    replace hBW := Lib.hid hBW
    have HX : set5 W w.heap.size (.int .i64 0) (.bool false) (.int .i64 0) (.int .i64 0) (.int .i64 0) = (((((W.setCell ⟨w.heap.size, 0, none⟩ (.int .i64 0)).setCell ⟨w.heap.size, 1, none⟩ (.bool false)).setCell ⟨w.heap.size, 2, none⟩ (.int .i64 0)).setCell ⟨w.heap.size, 3, none⟩ (.int .i64 0)).setCell ⟨w.heap.size, 4, none⟩ (.int .i64 0)) := rfl
    rw [← HX]
    have HC := set5_same hZW.out (.int .i64 0) (.bool false) (.int .i64 0) (.int .i64 0) (.int .i64 0)
    have HB := set5_below hBW.out (Nat.le_refl _) (.int .i64 0) (.bool false) (.int .i64 0) (.int .i64 0) (.int .i64 0)
    obtain ⟨W5, hW5⟩ : ∃ W5, W5 = set5 W w.heap.size (.int .i64 0) (.bool false) (.int .i64 0) (.int .i64 0) (.int .i64 0) := ⟨_, rfl⟩
    rw [← hW5] at HB HC ⊢
    clear HX hW5
    obtain ⟨q0, q1, q2, q3, q4, _⟩ := cells5 HC
    exact bodyPost_ret (v := .tuple #[.agg #[.int .i64 0, .bool false, .int .i64 0, .int .i64 0, .int .i64 0], .int .i64 (er : Int)]) (by simp [results, Try.results30, go_sem, q0, q1, q2, q3, q4]) rfl ⟨rfl, HB⟩

set_option maxRecDepth 8000 in
theorem need_any (A : Option Addr) (cp : Nat) (l : List Nat) (w : World) (K : Nat) (hs : Src w K A cp l) (hK : K ≤ w.heap.size) (hl : l.length ≤ 1048600) (hcp : cp ≤ 9223372036854775807) (hby : ∀ x ∈ l, x < 256) :
    Calls Try.prog 15 #[.slice A l.length cp] w fun e w' => e = .returned (.tuple #[.int .i64 ((hdT l).1 : Int), .int .i64 ((hdT l).2.2 : Int)]) ∧ Below w.heap.size w w' := by
  have CT := Lib.hid (readHead_any A cp l w K hs hK hl hcp hby)
  obtain ⟨c0, c1, c2, c3, hv⟩ : ∃ c0 c1 c2 c3, headV l = .agg #[.int .i64 c0, .bool c1, .int .i64 c2, .int .i64 c3, .int .i64 ((hdT l).1 : Int)] := by
    unfold headV
    split
    · exact ⟨_, _, _, _, rfl⟩
    · rename_i h
      rw [(hdT_err l h).1]
      exact ⟨_, _, _, _, rfl⟩
  rw [hv] at CT
  obtain ⟨⟨a, b, c⟩, hq⟩ : ∃ q, q = hdT l := ⟨_, rfl⟩
  rw [← hq] at CT
  rw [← hq]
  simp only [] at CT ⊢
  clear hv hq
  go_enter Try.func15, Try.ntmps15
  go_wp2_with fail
  refine CT.out.mono ?_
  rintro en w2 ⟨rfl, hb2⟩
  go_wp2_with fail
  go_ret2
  exact ⟨rfl, hb2.alloc hb2.size _⟩
end Go.Proofs.Ytgdoepkoakpnbaa
