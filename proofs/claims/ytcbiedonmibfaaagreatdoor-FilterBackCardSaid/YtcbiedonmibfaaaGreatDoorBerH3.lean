/-
  Small laws, out of Head, Made, Dec1, for a seat without the functions that those reach.
-/
import Derived.Test.YtcbiedonmibfaaaGreatDoorBerD3
import Derived.Test.YtcbiedonmibfaaaGreatDoorShelf
namespace Go.Proofs.YtcbiedonmibfaaaGreatDoor
open Go.RowKit
theorem cells5 {w : World} {b : Nat} {v0 v1 v2 v3 v4 : Value} {T : TypeId} (h : w.heap[b]? = some (.cells #[v0, v1, v2, v3, v4] T (0, 0))) :
 w.cell? ⟨b, 0, none⟩ = some v0 ∧ w.cell? ⟨b, 1, none⟩ = some v1 ∧ w.cell? ⟨b, 2, none⟩ = some v2 ∧ w.cell? ⟨b, 3, none⟩ = some v3 ∧ w.cell? ⟨b, 4, none⟩ = some v4 ∧
 w.frozen? ⟨b, 0, none⟩ = false ∧ w.frozen? ⟨b, 1, none⟩ = false ∧ w.frozen? ⟨b, 2, none⟩ = false ∧ w.frozen? ⟨b, 3, none⟩ = false ∧ w.frozen? ⟨b, 4, none⟩ = false :=
 ⟨cell_of_row _ _ _ _ _ _ h, cell_of_row _ _ _ _ _ _ h, cell_of_row _ _ _ _ _ _ h, cell_of_row _ _ _ _ _ _ h, cell_of_row _ _ _ _ _ _ h, frozen_of_row _ _ _ _ _ h, frozen_of_row _ _ _ _ _ h, frozen_of_row _ _ _ _ _ h, frozen_of_row _ _ _ _ _ h, frozen_of_row _ _ _ _ _ h⟩
theorem cells3 {w : World} {b : Nat} {v0 v1 v2 : Value} {T : TypeId} (h : w.heap[b]? = some (.cells #[v0, v1, v2] T (0, 0))) :
 w.cell? ⟨b, 0, none⟩ = some v0 ∧ w.cell? ⟨b, 1, none⟩ = some v1 ∧ w.cell? ⟨b, 2, none⟩ = some v2 ∧
 w.frozen? ⟨b, 0, none⟩ = false ∧ w.frozen? ⟨b, 1, none⟩ = false ∧ w.frozen? ⟨b, 2, none⟩ = false :=
 ⟨cell_of_row _ _ _ _ _ _ h, cell_of_row _ _ _ _ _ _ h, cell_of_row _ _ _ _ _ _ h, frozen_of_row _ _ _ _ _ h, frozen_of_row _ _ _ _ _ h, frozen_of_row _ _ _ _ _ h⟩
theorem cells5A {w : World} {b : Nat} {v0 v1 v2 v3 v4 : Value} {T : TypeId} (h : ∀ ob : Obj, (w.alloc ob).heap[b]? = some (.cells #[v0, v1, v2, v3, v4] T (0, 0))) :
 (∀ ob : Obj, (w.alloc ob).cell? ⟨b, 0, none⟩ = some v0) ∧ (∀ ob : Obj, (w.alloc ob).cell? ⟨b, 1, none⟩ = some v1) ∧ (∀ ob : Obj, (w.alloc ob).cell? ⟨b, 2, none⟩ = some v2) ∧ (∀ ob : Obj, (w.alloc ob).cell? ⟨b, 3, none⟩ = some v3) ∧ (∀ ob : Obj, (w.alloc ob).cell? ⟨b, 4, none⟩ = some v4) ∧
 (∀ ob : Obj, (w.alloc ob).frozen? ⟨b, 0, none⟩ = false) ∧ (∀ ob : Obj, (w.alloc ob).frozen? ⟨b, 1, none⟩ = false) ∧ (∀ ob : Obj, (w.alloc ob).frozen? ⟨b, 2, none⟩ = false) ∧ (∀ ob : Obj, (w.alloc ob).frozen? ⟨b, 3, none⟩ = false) ∧ (∀ ob : Obj, (w.alloc ob).frozen? ⟨b, 4, none⟩ = false) :=
 ⟨fun ob => (cells5 (h ob)).1, fun ob => (cells5 (h ob)).2.1, fun ob => (cells5 (h ob)).2.2.1, fun ob => (cells5 (h ob)).2.2.2.1, fun ob => (cells5 (h ob)).2.2.2.2.1, fun ob => (cells5 (h ob)).2.2.2.2.2.1, fun ob => (cells5 (h ob)).2.2.2.2.2.2.1, fun ob => (cells5 (h ob)).2.2.2.2.2.2.2.1, fun ob => (cells5 (h ob)).2.2.2.2.2.2.2.2.1, fun ob => (cells5 (h ob)).2.2.2.2.2.2.2.2.2⟩
def headV (l : List Nat) : Value :=
 if (hdT l).2.2 = 0 then .agg #[.int .i64 ((rdT l).1 : Int), .bool (rdT l).2.1, .int .i64 ((rdT l).2.2.1 : Int), .int .i64 ((hdT l).2.1 : Int), .int .i64 ((hdT l).1 : Int)]
 else .agg #[.int .i64 0, .bool false, .int .i64 0, .int .i64 0, .int .i64 0]
set_option maxRecDepth 8000 in
set_option maxHeartbeats 800000 in
theorem readHead_any (A : Option Addr) (cp : Nat) (l : List Nat) (w : World) (K : Nat) (hs : Src w K A cp l) (hK : K ≤ w.heap.size) (hl : l.length ≤ 1048600) (hcp : cp ≤ 9223372036854775807) (hby : ∀ x ∈ l, x < 256) :
 Calls Tryz.prog 39 #[.slice A l.length cp] w fun e w' => e = .returned (.tuple #[headV l, .int .i64 ((hdT l).2.2 : Int)]) ∧ Below w.heap.size w w' := by
 have CT : ∀ w', Below w.heap.size w w' → Calls Tryz.prog 78 #[.slice A l.length cp] w' fun e w'' => e = .returned (tupT (rdT l)) ∧ Below w'.heap.size w' w'' :=
  fun w' hb => read_any A cp l w' K (hs.below (hb.mono hK)) hl hcp hby
 by_cases h1 : (rdT l).2.2.2.2 = 0
 · obtain ⟨a1, a2, a3, a4, a5⟩ := rdT_ok l hby h1
   obtain ⟨b, off, rfl, hbK, hc⟩ := hs.plain (by omega)
   have H : hdT l = if (rdL (l.drop (rdT l).2.2.2.1)).2.2 ≠ 0 then (0, 0, (rdL (l.drop (rdT l).2.2.2.1)).2.2)
    else if 16384 < (rdT l).2.2.2.1 + (rdL (l.drop (rdT l).2.2.2.1)).2.1 + (rdL (l.drop (rdT l).2.2.2.1)).1 then (0, 0, 3)
    else ((rdT l).2.2.2.1 + (rdL (l.drop (rdT l).2.2.2.1)).2.1 + (rdL (l.drop (rdT l).2.2.2.1)).1, (rdT l).2.2.2.1 + (rdL (l.drop (rdT l).2.2.2.1)).2.1, 0) := by
    unfold hdT
    rw [if_neg (by simpa using h1)]
   have hcap := hs.le
   by_cases hcu : (rdT l).2.2.2.1 = cp
   · have hd : l.drop (rdT l).2.2.2.1 = [] := List.drop_eq_nil_of_le (by omega)
     have CL : ∀ w', Below w.heap.size w w' → Calls Tryz.prog 79 #[.slice (some ⟨b, off, none⟩) 0 0] w' fun e w'' => e = .returned (tup3 (0, 0, 10)) ∧ w' = w'' :=
      fun w' _ => readLen_any (some ⟨b, off, none⟩) 0 [] w' K ⟨Nat.le_refl _, (fun e => by cases e), fun ad e => ⟨fun h0 => absurd h0 (by simp), fun j n hj => by simp at hj⟩⟩ (by simp) (by omega) (fun x hx => by cases hx)
     have hll : l.length = cp := by omega
     rw [hd, show rdL [] = (0, 0, 10) from rfl, if_pos (by simp)] at H
     unfold headV
     rw [H]
     obtain ⟨⟨c, m, n, u, er⟩, hq⟩ : ∃ q, q = rdT l := ⟨_, rfl⟩
     rw [← hq] at CT h1 hcu
     simp only [] at CT h1 hcu
     subst h1 hcu
     rw [hll] at CT ⊢
     rw [if_neg (by decide)]
     replace CT := Hd CT
     replace CL := Hd CL
     clear hq hby hs hc H hd hcap hll hl a1 a2 a3 a4 a5
     go_enter Tryz.func39, Tryz.ntmps39
     go_wp2_with fail
     refine (CT.out _ (by go_grown)).mono ?_
     rintro en w2 ⟨rfl, hb2⟩
     unfold tupT
     dsimp only []
     have hw : (w.alloc (.cells #[.int .i64 0, .bool false, .int .i64 0, .int .i64 0, .int .i64 0] 85)).heap.size = w.heap.size + 1 := by simp
     rw [hw] at hb2
     have hz2 := hb2.size
     rw [hw] at hz2
     have hZ2 : w2.heap[w.heap.size]? = some (.cells #[.int .i64 0, .bool false, .int .i64 0, .int .i64 0, .int .i64 0] 85 (0, 0)) := by
      rw [hb2.block _ (by omega)]
      exact heap_alloc_new w _
     have hB2 : Below w.heap.size w w2 := ((Below.refl _ w).alloc (Nat.le_refl _) _).trans (hb2.mono (by omega))
     go_wp2_with fail
     obtain ⟨W, hW⟩ : ∃ W, W = w2.alloc (.cells #[.int .i64 (c : Int), .bool m, .int .i64 (n : Int)] 39) := ⟨_, rfl⟩
     have hZW : W.heap[w.heap.size]? = some (.cells #[.int .i64 0, .bool false, .int .i64 0, .int .i64 0, .int .i64 0] 85 (0, 0)) := by rw [hW, Below.heap_alloc _ _ _ (by omega)]; exact hZ2
     have hTW : W.heap[w2.heap.size]? = some (.cells #[.int .i64 (c : Int), .bool m, .int .i64 (n : Int)] 39 (0, 0)) := by rw [hW]; exact heap_alloc_new w2 _
     have hBW : Below w.heap.size w W := by rw [hW]; exact hB2.alloc (by omega) _
     rw [← hW]
     have hne : w2.heap.size ≠ w.heap.size := by omega
     replace hB2 := Hd hB2
     replace hZ2 := Hd hZ2
     replace hb2 := Hd hb2
     replace hw := Hd hw
     replace hW := Hd hW
     refine (CL.out _ hBW).mono ?_
     rintro en w3 ⟨rfl, rfl⟩
     unfold tup3
     dsimp only []
     obtain ⟨r0, r1, r2, r3, r4, f0, f1, f2, f3, f4⟩ := cells5 hZW
     obtain ⟨t0, t1, t2, _, _, _⟩ := cells3 hTW
     replace hZW := Hd hZW
     replace hTW := Hd hTW
     replace hBW := Hd hBW
     go_wp2_with fail
     clear r0 r1 r2 r3 r4 f0 f1 f2 f3 f4 t0 t1 t2
     have HX : set5 W w.heap.size (.int .i64 0) (.bool false) (.int .i64 0) (.int .i64 0) (.int .i64 0) = (((((W.setCell ⟨w.heap.size, 0, none⟩ (.int .i64 0)).setCell ⟨w.heap.size, 1, none⟩ (.bool false)).setCell ⟨w.heap.size, 2, none⟩ (.int .i64 0)).setCell ⟨w.heap.size, 3, none⟩ (.int .i64 0)).setCell ⟨w.heap.size, 4, none⟩ (.int .i64 0)) := rfl
     rw [← HX]
     have HC := set5_same hZW.out (.int .i64 0) (.bool false) (.int .i64 0) (.int .i64 0) (.int .i64 0)
     have HB := set5_below hBW.out (Nat.le_refl _) (.int .i64 0) (.bool false) (.int .i64 0) (.int .i64 0) (.int .i64 0)
     obtain ⟨W5, hW5⟩ : ∃ W5, W5 = set5 W w.heap.size (.int .i64 0) (.bool false) (.int .i64 0) (.int .i64 0) (.int .i64 0) := ⟨_, rfl⟩
     rw [← hW5] at HB HC ⊢
     clear HX hW5
     obtain ⟨q0, q1, q2, q3, q4, _⟩ := cells5 HC
     exact bodyPost_ret (v := .tuple #[.agg #[.int .i64 0, .bool false, .int .i64 0, .int .i64 0, .int .i64 0], .int .i64 10]) (by simp [results, Tryz.results39, go_sem, q0, q1, q2, q3, q4]) rfl ⟨rfl, HB⟩
   have CL : ∀ w', Below w.heap.size w w' → Calls Tryz.prog 79 #[.slice (some ⟨b, off + (rdT l).2.2.2.1, none⟩) (l.length - (rdT l).2.2.2.1) (cp - (rdT l).2.2.2.1)] w' fun e w'' => e = .returned (tup3 (rdL (l.drop (rdT l).2.2.2.1))) ∧ w' = w'' := by
    intro w' hb
    have := readLen_any (some ⟨b, off + (rdT l).2.2.2.1, none⟩) (cp - (rdT l).2.2.2.1) (l.drop (rdT l).2.2.2.1) w' K ((hs.behind a4).below (hb.mono hK)) (by rw [List.length_drop]; omega) (by omega) (fun x hx => hby x (List.mem_of_mem_drop hx))
    rw [List.length_drop] at this
    exact this
   have hL := rdL_ok (l.drop (rdT l).2.2.2.1)
   unfold headV
   obtain ⟨⟨c, m, n, u, er⟩, hq⟩ : ∃ q, q = rdT l := ⟨_, rfl⟩
   rw [← hq] at CT h1 a1 a2 a3 a4 a5 CL H hL hcu ⊢
   simp only [] at CT h1 a1 a2 a3 a4 a5 CL H hL hcu ⊢
   subst h1
   obtain ⟨⟨v, k, er2⟩, hq2⟩ : ∃ q, q = rdL (l.drop u) := ⟨_, rfl⟩
   rw [← hq2] at CL H hL
   simp only [] at CL H hL
   replace CL := Hd CL
   replace CT := Hd CT
   clear hq hq2 hby hs hc
   by_cases h2 : er2 = 0
   · subst h2
     obtain ⟨b1, b2, b3, b4⟩ := hL rfl
     clear hL
     rw [if_neg (by simp)] at H
     by_cases h3 : 16384 < u + k + v
     · rw [if_pos h3] at H
       rw [H, if_neg (by decide)]
       have k3 : decide (16384 - ((u : Int) + (k : Int)) < (v : Int)) = true := decide_eq_true (by omega)
       clear H
       go_enter Tryz.func39, Tryz.ntmps39
       go_wp2_with fail
       refine (CT.out _ (by go_grown)).mono ?_
       rintro en w2 ⟨rfl, hb2⟩
       unfold tupT
       dsimp only []
       have hw : (w.alloc (.cells #[.int .i64 0, .bool false, .int .i64 0, .int .i64 0, .int .i64 0] 85)).heap.size = w.heap.size + 1 := by simp
       rw [hw] at hb2
       have hz2 := hb2.size
       rw [hw] at hz2
       have hZ2 : w2.heap[w.heap.size]? = some (.cells #[.int .i64 0, .bool false, .int .i64 0, .int .i64 0, .int .i64 0] 85 (0, 0)) := by
        rw [hb2.block _ (by omega)]
        exact heap_alloc_new w _
       have hB2 : Below w.heap.size w w2 := ((Below.refl _ w).alloc (Nat.le_refl _) _).trans (hb2.mono (by omega))
       go_wp2_with fail
       obtain ⟨W, hW⟩ : ∃ W, W = w2.alloc (.cells #[.int .i64 (c : Int), .bool m, .int .i64 (n : Int)] 39) := ⟨_, rfl⟩
       have hZW : W.heap[w.heap.size]? = some (.cells #[.int .i64 0, .bool false, .int .i64 0, .int .i64 0, .int .i64 0] 85 (0, 0)) := by rw [hW, Below.heap_alloc _ _ _ (by omega)]; exact hZ2
       have hTW : W.heap[w2.heap.size]? = some (.cells #[.int .i64 (c : Int), .bool m, .int .i64 (n : Int)] 39 (0, 0)) := by rw [hW]; exact heap_alloc_new w2 _
       have hBW : Below w.heap.size w W := by rw [hW]; exact hB2.alloc (by omega) _
       rw [← hW]
       have hne : w2.heap.size ≠ w.heap.size := by omega
       replace hB2 := Hd hB2
       replace hZ2 := Hd hZ2
       replace hb2 := Hd hb2
       replace hw := Hd hw
       replace hW := Hd hW
       refine (CL.out _ hBW).mono ?_
       rintro en w3 ⟨rfl, rfl⟩
       unfold tup3
       dsimp only []
       obtain ⟨r0, r1, r2, r3, r4, f0, f1, f2, f3, f4⟩ := cells5 hZW
       obtain ⟨t0, t1, t2, _, _, _⟩ := cells3 hTW
       replace hZW := Hd hZW
       replace hTW := Hd hTW
       replace hBW := Hd hBW
       go_wp2_with fail
       clear r0 r1 r2 r3 r4 f0 f1 f2 f3 f4 t0 t1 t2
       have HX : set5 W w.heap.size (.int .i64 0) (.bool false) (.int .i64 0) (.int .i64 0) (.int .i64 0) = (((((W.setCell ⟨w.heap.size, 0, none⟩ (.int .i64 0)).setCell ⟨w.heap.size, 1, none⟩ (.bool false)).setCell ⟨w.heap.size, 2, none⟩ (.int .i64 0)).setCell ⟨w.heap.size, 3, none⟩ (.int .i64 0)).setCell ⟨w.heap.size, 4, none⟩ (.int .i64 0)) := rfl
       rw [← HX]
       have HC := set5_same hZW.out (.int .i64 0) (.bool false) (.int .i64 0) (.int .i64 0) (.int .i64 0)
       have HB := set5_below hBW.out (Nat.le_refl _) (.int .i64 0) (.bool false) (.int .i64 0) (.int .i64 0) (.int .i64 0)
       obtain ⟨W5, hW5⟩ : ∃ W5, W5 = set5 W w.heap.size (.int .i64 0) (.bool false) (.int .i64 0) (.int .i64 0) (.int .i64 0) := ⟨_, rfl⟩
       rw [← hW5] at HB HC ⊢
       clear HX hW5
       obtain ⟨q0, q1, q2, q3, q4, _⟩ := cells5 HC
       exact bodyPost_ret (v := .tuple #[.agg #[.int .i64 0, .bool false, .int .i64 0, .int .i64 0, .int .i64 0], .int .i64 3]) (by simp [results, Tryz.results39, go_sem, q0, q1, q2, q3, q4]) rfl ⟨rfl, HB⟩
     · rw [if_neg h3] at H
       rw [H, if_pos rfl]
       have k3 : decide (16384 - ((u : Int) + (k : Int)) < (v : Int)) = false := decide_eq_false (by omega)
       have p1 : IntKind.i64.wrap ((u : Int) + (k : Int)) = (u : Int) + (k : Int) := IntWalk.i64_in _ (by omega)
       clear H p1
       go_enter Tryz.func39, Tryz.ntmps39
       go_wp2_with fail
       refine (CT.out _ (by go_grown)).mono ?_
       rintro en w2 ⟨rfl, hb2⟩
       unfold tupT
       dsimp only []
       have hw : (w.alloc (.cells #[.int .i64 0, .bool false, .int .i64 0, .int .i64 0, .int .i64 0] 85)).heap.size = w.heap.size + 1 := by simp
       rw [hw] at hb2
       have hz2 := hb2.size
       rw [hw] at hz2
       have hZ2 : w2.heap[w.heap.size]? = some (.cells #[.int .i64 0, .bool false, .int .i64 0, .int .i64 0, .int .i64 0] 85 (0, 0)) := by
        rw [hb2.block _ (by omega)]
        exact heap_alloc_new w _
       have hB2 : Below w.heap.size w w2 := ((Below.refl _ w).alloc (Nat.le_refl _) _).trans (hb2.mono (by omega))
       go_wp2_with fail
       obtain ⟨W, hW⟩ : ∃ W, W = w2.alloc (.cells #[.int .i64 (c : Int), .bool m, .int .i64 (n : Int)] 39) := ⟨_, rfl⟩
       have hZW : W.heap[w.heap.size]? = some (.cells #[.int .i64 0, .bool false, .int .i64 0, .int .i64 0, .int .i64 0] 85 (0, 0)) := by rw [hW, Below.heap_alloc _ _ _ (by omega)]; exact hZ2
       have hTW : W.heap[w2.heap.size]? = some (.cells #[.int .i64 (c : Int), .bool m, .int .i64 (n : Int)] 39 (0, 0)) := by rw [hW]; exact heap_alloc_new w2 _
       have hBW : Below w.heap.size w W := by rw [hW]; exact hB2.alloc (by omega) _
       rw [← hW]
       have hne : w2.heap.size ≠ w.heap.size := by omega
       replace hB2 := Hd hB2
       replace hZ2 := Hd hZ2
       replace hb2 := Hd hb2
       replace hw := Hd hw
       replace hW := Hd hW
       refine (CL.out _ hBW).mono ?_
       rintro en w3 ⟨rfl, rfl⟩
       unfold tup3
       dsimp only []
       obtain ⟨r0, r1, r2, r3, r4, f0, f1, f2, f3, f4⟩ := cells5 hZW
       obtain ⟨t0, t1, t2, _, _, _⟩ := cells3 hTW
       replace hZW := Hd hZW
       replace hTW := Hd hTW
       replace hBW := Hd hBW
       go_wp2_with fail
       clear r0 r1 r2 r3 r4 f0 f1 f2 f3 f4 t0 t1 t2
       have HX : set5 W w.heap.size (.int .i64 (c : Int)) (.bool m) (.int .i64 (n : Int)) (.int .i64 ((u : Int) + (k : Int))) (.int .i64 ((u : Int) + (k : Int) + (v : Int))) = (((((W.setCell ⟨w.heap.size, 0, none⟩ (.int .i64 (c : Int))).setCell ⟨w.heap.size, 1, none⟩ (.bool m)).setCell ⟨w.heap.size, 2, none⟩ (.int .i64 (n : Int))).setCell ⟨w.heap.size, 3, none⟩ (.int .i64 ((u : Int) + (k : Int)))).setCell ⟨w.heap.size, 4, none⟩ (.int .i64 ((u : Int) + (k : Int) + (v : Int)))) := rfl
       rw [← HX]
       have HC := set5_same hZW.out (.int .i64 (c : Int)) (.bool m) (.int .i64 (n : Int)) (.int .i64 ((u : Int) + (k : Int))) (.int .i64 ((u : Int) + (k : Int) + (v : Int)))
       have HB := set5_below hBW.out (Nat.le_refl _) (.int .i64 (c : Int)) (.bool m) (.int .i64 (n : Int)) (.int .i64 ((u : Int) + (k : Int))) (.int .i64 ((u : Int) + (k : Int) + (v : Int)))
       obtain ⟨W5, hW5⟩ : ∃ W5, W5 = set5 W w.heap.size (.int .i64 (c : Int)) (.bool m) (.int .i64 (n : Int)) (.int .i64 ((u : Int) + (k : Int))) (.int .i64 ((u : Int) + (k : Int) + (v : Int))) := ⟨_, rfl⟩
       rw [← hW5] at HB HC ⊢
       clear HX hW5
       obtain ⟨q0, q1, q2, q3, q4, _⟩ := cells5 HC
       exact bodyPost_ret (v := .tuple #[.agg #[.int .i64 (c : Int), .bool m, .int .i64 (n : Int), .int .i64 ((u : Int) + (k : Int)), .int .i64 ((u : Int) + (k : Int) + (v : Int))], .int .i64 0]) (by simp [results, Tryz.results39, go_sem, q0, q1, q2, q3, q4]) rfl ⟨rfl, HB⟩
   · rw [if_pos (by simpa using h2)] at H
     rw [H, if_neg (by simpa using h2)]
     have k2 : ((er2 : Int) != 0) = true := by simp; omega
     clear H hL
     go_enter Tryz.func39, Tryz.ntmps39
     go_wp2_with fail
     refine (CT.out _ (by go_grown)).mono ?_
     rintro en w2 ⟨rfl, hb2⟩
     unfold tupT
     dsimp only []
     have hw : (w.alloc (.cells #[.int .i64 0, .bool false, .int .i64 0, .int .i64 0, .int .i64 0] 85)).heap.size = w.heap.size + 1 := by simp
     rw [hw] at hb2
     have hz2 := hb2.size
     rw [hw] at hz2
     have hZ2 : w2.heap[w.heap.size]? = some (.cells #[.int .i64 0, .bool false, .int .i64 0, .int .i64 0, .int .i64 0] 85 (0, 0)) := by
      rw [hb2.block _ (by omega)]
      exact heap_alloc_new w _
     have hB2 : Below w.heap.size w w2 := ((Below.refl _ w).alloc (Nat.le_refl _) _).trans (hb2.mono (by omega))
     go_wp2_with fail
     obtain ⟨W, hW⟩ : ∃ W, W = w2.alloc (.cells #[.int .i64 (c : Int), .bool m, .int .i64 (n : Int)] 39) := ⟨_, rfl⟩
     have hZW : W.heap[w.heap.size]? = some (.cells #[.int .i64 0, .bool false, .int .i64 0, .int .i64 0, .int .i64 0] 85 (0, 0)) := by rw [hW, Below.heap_alloc _ _ _ (by omega)]; exact hZ2
     have hTW : W.heap[w2.heap.size]? = some (.cells #[.int .i64 (c : Int), .bool m, .int .i64 (n : Int)] 39 (0, 0)) := by rw [hW]; exact heap_alloc_new w2 _
     have hBW : Below w.heap.size w W := by rw [hW]; exact hB2.alloc (by omega) _
     rw [← hW]
     have hne : w2.heap.size ≠ w.heap.size := by omega
     replace hB2 := Hd hB2
     replace hZ2 := Hd hZ2
     replace hb2 := Hd hb2
     replace hw := Hd hw
     replace hW := Hd hW
     refine (CL.out _ hBW).mono ?_
     rintro en w3 ⟨rfl, rfl⟩
     unfold tup3
     dsimp only []
     obtain ⟨r0, r1, r2, r3, r4, f0, f1, f2, f3, f4⟩ := cells5 hZW
     obtain ⟨t0, t1, t2, _, _, _⟩ := cells3 hTW
     replace hZW := Hd hZW
     replace hTW := Hd hTW
     replace hBW := Hd hBW
     go_wp2_with fail
     clear r0 r1 r2 r3 r4 f0 f1 f2 f3 f4 t0 t1 t2
     have HX : set5 W w.heap.size (.int .i64 0) (.bool false) (.int .i64 0) (.int .i64 0) (.int .i64 0) = (((((W.setCell ⟨w.heap.size, 0, none⟩ (.int .i64 0)).setCell ⟨w.heap.size, 1, none⟩ (.bool false)).setCell ⟨w.heap.size, 2, none⟩ (.int .i64 0)).setCell ⟨w.heap.size, 3, none⟩ (.int .i64 0)).setCell ⟨w.heap.size, 4, none⟩ (.int .i64 0)) := rfl
     rw [← HX]
     have HC := set5_same hZW.out (.int .i64 0) (.bool false) (.int .i64 0) (.int .i64 0) (.int .i64 0)
     have HB := set5_below hBW.out (Nat.le_refl _) (.int .i64 0) (.bool false) (.int .i64 0) (.int .i64 0) (.int .i64 0)
     obtain ⟨W5, hW5⟩ : ∃ W5, W5 = set5 W w.heap.size (.int .i64 0) (.bool false) (.int .i64 0) (.int .i64 0) (.int .i64 0) := ⟨_, rfl⟩
     rw [← hW5] at HB HC ⊢
     clear HX hW5
     obtain ⟨q0, q1, q2, q3, q4, _⟩ := cells5 HC
     exact bodyPost_ret (v := .tuple #[.agg #[.int .i64 0, .bool false, .int .i64 0, .int .i64 0, .int .i64 0], .int .i64 (er2 : Int)]) (by simp [results, Tryz.results39, go_sem, q0, q1, q2, q3, q4]) rfl ⟨rfl, HB⟩
 · have H : hdT l = (0, 0, (rdT l).2.2.2.2) := by
    unfold hdT
    rw [if_pos (by simpa using h1)]
   unfold headV
   rw [H, if_neg (by simpa using h1)]
   obtain ⟨⟨c, m, n, u, er⟩, hq⟩ : ∃ q, q = rdT l := ⟨_, rfl⟩
   rw [← hq] at CT h1
   rw [← hq]
   simp only [] at CT h1 ⊢
   have k2 : ((er : Int) != 0) = true := by simp; omega
   replace CT := Hd CT
   clear H hq
   go_enter Tryz.func39, Tryz.ntmps39
   go_wp2_with fail
   refine (CT.out _ (by go_grown)).mono ?_
   rintro en w2 ⟨rfl, hb2⟩
   unfold tupT
   dsimp only []
   have hw : (w.alloc (.cells #[.int .i64 0, .bool false, .int .i64 0, .int .i64 0, .int .i64 0] 85)).heap.size = w.heap.size + 1 := by simp
   rw [hw] at hb2
   have hz2 := hb2.size
   rw [hw] at hz2
   have hZ2 : w2.heap[w.heap.size]? = some (.cells #[.int .i64 0, .bool false, .int .i64 0, .int .i64 0, .int .i64 0] 85 (0, 0)) := by
    rw [hb2.block _ (by omega)]
    exact heap_alloc_new w _
   have hB2 : Below w.heap.size w w2 := ((Below.refl _ w).alloc (Nat.le_refl _) _).trans (hb2.mono (by omega))
   have hZO : ∀ ob : Obj, (w2.alloc ob).heap[w.heap.size]? = some (.cells #[.int .i64 0, .bool false, .int .i64 0, .int .i64 0, .int .i64 0] 85 (0, 0)) := fun ob => by rw [Below.heap_alloc _ _ _ (by omega)]; exact hZ2
   obtain ⟨r0, r1, r2, r3, r4, f0, f1, f2, f3, f4⟩ := cells5A hZO
   replace hZO := Hd hZO
   replace hB2 := Hd hB2
   replace hZ2 := Hd hZ2
   replace hb2 := Hd hb2
   replace hw := Hd hw
   go_wp2_with fail
   clear r0 r1 r2 r3 r4 f0 f1 f2 f3 f4
   obtain ⟨W, hW⟩ : ∃ W, W = w2.alloc (.cells #[.int .i64 (c : Int), .bool m, .int .i64 (n : Int)] 39) := ⟨_, rfl⟩
   have hZW : W.heap[w.heap.size]? = some (.cells #[.int .i64 0, .bool false, .int .i64 0, .int .i64 0, .int .i64 0] 85 (0, 0)) := by rw [hW, Below.heap_alloc _ _ _ (by omega)]; exact hZ2.out
   have hTW : W.heap[w2.heap.size]? = some (.cells #[.int .i64 (c : Int), .bool m, .int .i64 (n : Int)] 39 (0, 0)) := by rw [hW]; exact heap_alloc_new w2 _
   have hBW : Below w.heap.size w W := by rw [hW]; exact hB2.out.alloc (by omega) _
   rw [← hW]
   replace hW := Hd hW
   replace hZW := Hd hZW
   replace hBW := Hd hBW
   have HX : set5 W w.heap.size (.int .i64 0) (.bool false) (.int .i64 0) (.int .i64 0) (.int .i64 0) = (((((W.setCell ⟨w.heap.size, 0, none⟩ (.int .i64 0)).setCell ⟨w.heap.size, 1, none⟩ (.bool false)).setCell ⟨w.heap.size, 2, none⟩ (.int .i64 0)).setCell ⟨w.heap.size, 3, none⟩ (.int .i64 0)).setCell ⟨w.heap.size, 4, none⟩ (.int .i64 0)) := rfl
   rw [← HX]
   have HC := set5_same hZW.out (.int .i64 0) (.bool false) (.int .i64 0) (.int .i64 0) (.int .i64 0)
   have HB := set5_below hBW.out (Nat.le_refl _) (.int .i64 0) (.bool false) (.int .i64 0) (.int .i64 0) (.int .i64 0)
   obtain ⟨W5, hW5⟩ : ∃ W5, W5 = set5 W w.heap.size (.int .i64 0) (.bool false) (.int .i64 0) (.int .i64 0) (.int .i64 0) := ⟨_, rfl⟩
   rw [← hW5] at HB HC ⊢
   clear HX hW5
   obtain ⟨q0, q1, q2, q3, q4, _⟩ := cells5 HC
   exact bodyPost_ret (v := .tuple #[.agg #[.int .i64 0, .bool false, .int .i64 0, .int .i64 0, .int .i64 0], .int .i64 (er : Int)]) (by simp [results, Tryz.results39, go_sem, q0, q1, q2, q3, q4]) rfl ⟨rfl, HB⟩
def Cl (w : World) (b : Nat) : Prop := ∃ cs T, w.heap[b]? = some (.cells cs T (0, 0))
theorem Cl.lt {w : World} {b : Nat} (h : Cl w b) : b < w.heap.size := by
 obtain ⟨cs, T, h⟩ := h
 exact (Array.getElem?_eq_some_iff.1 h).1
theorem Cl.of {w w' : World} {b : Nat} (h : Cl w b) (e : w'.heap[b]? = w.heap[b]?) : Cl w' b := by
 obtain ⟨cs, T, h⟩ := h
 exact ⟨cs, T, e.trans h⟩
theorem Cl.below {w w' : World} {b K : Nat} (h : Cl w b) (hb : Below K w w') (hK : b < K) : Cl w' b := h.of (hb.block b hK)
theorem Cl.alloc {w : World} {b : Nat} (h : Cl w b) (o : Obj) : Cl (w.alloc o) b := h.of (Below.heap_alloc _ _ _ h.lt)
theorem Cl.setCell {w : World} {b : Nat} (h : Cl w b) (a : Addr) (u : Value) : Cl (w.setCell a u) b := by
 obtain ⟨cs, T, h⟩ := h
 by_cases e : b = a.block
 · subst e
   refine ⟨if a.spot.isSome then cs else cs.setIfInBounds a.off u, T, ?_⟩
   unfold World.setCell
   rw [Array.getElem?_modify, if_pos rfl, h]
   rfl
 · exact ⟨cs, T, (_root_.Go.heap_setCell_other _ _ _ _ e).trans h⟩
theorem Cl.set5 {w : World} {b : Nat} (h : Cl w b) (k : Nat) (u0 u1 u2 u3 u4 : Value) : Cl (set5 w k u0 u1 u2 u3 u4) b := ((((h.setCell _ _).setCell _ _).setCell _ _).setCell _ _).setCell _ _
def Cb (w : World) (b : Nat) : Prop := ∃ cs T fr, w.heap[b]? = some (.cells cs T fr) ∧ (fr = (0, 0) ∨ ∀ v ∈ cs.toList, ∃ n, v = .int .u8 n)
theorem Cl.cb {w : World} {b : Nat} (h : Cl w b) : Cb w b := by
 obtain ⟨cs, T, h⟩ := h
 exact ⟨cs, T, _, h, .inl rfl⟩
theorem Cb.lt {w : World} {b : Nat} (h : Cb w b) : b < w.heap.size := by
 obtain ⟨cs, T, fr, h, _⟩ := h
 exact (Array.getElem?_eq_some_iff.1 h).1
theorem Cb.of {w w' : World} {b : Nat} (h : Cb w b) (e : w'.heap[b]? = w.heap[b]?) : Cb w' b := by
 obtain ⟨cs, T, fr, h, h2⟩ := h
 exact ⟨cs, T, fr, e.trans h, h2⟩
theorem Cb.below {w w' : World} {b K : Nat} (h : Cb w b) (hb : Below K w w') (hK : b < K) : Cb w' b := h.of (hb.block b hK)
theorem Cb.alloc {w : World} {b : Nat} (h : Cb w b) (o : Obj) : Cb (w.alloc o) b := h.of (Below.heap_alloc _ _ _ h.lt)
theorem Cb.cl {w : World} {b off : Nat} {z : Int} (h : Cb w b) (hc : w.cell? ⟨b, off, none⟩ = some (.int .i64 z)) : Cl w b := by
 obtain ⟨cs, T, fr, h, rfl | h2⟩ := h
 · exact ⟨cs, T, h⟩
 · exfalso
   rw [cell_of_row w b off cs T fr h] at hc
   obtain ⟨n, hn⟩ := h2 _ (Array.mem_toList_iff.2 (Array.mem_of_getElem? hc))
   cases hn
theorem Cb.not_map {w : World} {b mb : Nat} (h : Cb w b) (hm : ∃ es c, w.heap[mb]? = some (.map es c)) : b ≠ mb := by
 rintro rfl
 obtain ⟨es, c, hm⟩ := hm
 obtain ⟨cs, T, fr, h, _⟩ := h
 rw [hm] at h
 cases h
theorem grown_cb {w w' : World} {mb b : Nat} (hg : w.grownBy w' (some mb)) (hm : ∃ es c, w.heap[mb]? = some (.map es c)) (h : Cb w b) : w'.heap[b]? = w.heap[b]? :=
 hg.block b h.lt fun e => h.not_map hm (by injection e)
def New (lo : Nat) (w : World) (b : Nat) : Prop := lo ≤ b ∧ Cl w b
def RowC (w : World) (base : Nat) (v : Value) (b : Nat) : Prop := base ≤ b ∧ Cl w b ∧ some b ≠ v.ownBlock
def RowP (T : TypeId) (w : World) (base : Nat) (v : Value) (l : List El) : Prop :=
 ∃ cs : List Value, w.ownsRow base T 5 v l.length cs ∧ ∀ (i : Nat) (hi : i < l.length), ∃ Ab cb Ak ck, (∀ j, j < 5 → cs[i * 5 + j]? = (el5 l[i] Ab cb Ak ck)[j]?) ∧ ElIn w (RowC w base v) l[i] Ab cb Ak ck
theorem RowP.nil (T : TypeId) (w : World) (base : Nat) : RowP T w base (.slice none 0 0) [] :=
 ⟨[], World.ownsRow_nil _ _ _ _, fun i hi => absurd hi (by simp)⟩
theorem RowP.sl {T : TypeId} {w : World} {base : Nat} {v : Value} {l : List El} (h : RowP T w base v l) : ∃ A c, v = .slice A l.length c ∧ SlI w (New base w) A c (Fo.of l) := by
 obtain ⟨cs, ⟨hl, h0 | ⟨g, cap, cur, hv, hbs, hg, hn, hm, hs, hx⟩⟩, h2⟩ := h
 · refine ⟨none, 0, by rw [h0.1, h0.2], ?_⟩
   have hl0 : l = [] := List.eq_nil_of_length_eq_zero h0.2
   subst hl0
   exact ⟨Nat.le_refl _, by omega, fun _ => rfl, fun _ e => by cases e⟩
 · have hgl : g < w.heap.size := (Array.getElem?_eq_some_iff.1 hg).1
   refine ⟨some ⟨g, 0, none⟩, cap, hv, ⟨by rw [Fo.list_of]; exact hn, by unfold maxLen at hm; exact hm, (by simp), fun ad e _ => ?_⟩⟩
   injection e with e
   subst e
   refine ⟨rfl, ⟨hbs, ⟨_, _, hg⟩⟩, foAt_ofR l g 0 fun i hi => ?_⟩
   obtain ⟨Ab, cb, Ak, ck, h3, h4⟩ := h2 i hi
   have cell : ∀ j, j < 5 → w.cell? ⟨g, 0 + i * 5 + j, none⟩ = (el5 l[i] Ab cb Ak ck)[j]? := by
    intro j hj
    rw [cell_of_row w g (0 + i * 5 + j) cur _ _ hg, ← h3 j hj, ← hx, List.getElem?_take, if_pos (by omega)]
    simp
   refine ⟨Ab, cb, Ak, ck, ⟨cell 0 (by omega), cell 1 (by omega), cell 2 (by omega), cell 3 (by omega), cell 4 (by omega)⟩, h4.more fun b hb => ⟨hb.1, hb.2.1⟩⟩
theorem RowP.snoc {T : TypeId} {w w' : World} {base g cap : Nat} {v : Value} {l : List El} {e : El} {Ab : Option Addr} {cb : Nat} {Ak : Option Addr} {ck : Nat} {cs : List Value}
 (ho : w'.ownsRow base T 5 (.slice (some ⟨g, 0, none⟩) (l.length + 1) cap) (l.length + 1) (cs ++ el5 e Ab cb Ak ck)) (hcs : cs.length = l.length * 5)
 (h2 : ∀ (i : Nat) (hi : i < l.length), ∃ Ab cb Ak ck, (∀ j, j < 5 → cs[i * 5 + j]? = (el5 l[i] Ab cb Ak ck)[j]?) ∧ ElIn w (RowC w base v) l[i] Ab cb Ak ck)
 (he : ElIn w (RowC w base v) e Ab cb Ak ck) (hg : w.grownBy w' v.ownBlock) (hat : v.ownBlock = some g ∨ g = w.heap.size) :
 RowP T w' base (.slice (some ⟨g, 0, none⟩) (l.length + 1) cap) (l ++ [e]) := by
 have hI : ∀ b, RowC w base v b → RowC w' base (.slice (some ⟨g, 0, none⟩) (l.length + 1) cap) b := by
  intro b hb
  have hlt := hb.2.1.lt
  refine ⟨hb.1, hb.2.1.of (hg.block b hlt hb.2.2), ?_⟩
  intro e
  have e2 : b = g := by injection e
  rcases hat with hat | hat
  · exact hb.2.2 (by rw [hat, e2])
  · omega
 have hK : ∀ p : Addr, RowC w base v p.block → w'.cell? p = w.cell? p := by
  intro p hp
  exact hg.cell_far p hp.2.1.lt hp.2.2
 refine ⟨cs ++ el5 e Ab cb Ak ck, by rw [List.length_append]; exact ho, fun i hi => ?_⟩
 by_cases hil : i < l.length
 · obtain ⟨Ab2, cb2, Ak2, ck2, h3, h4⟩ := h2 i hil
   refine ⟨Ab2, cb2, Ak2, ck2, fun j hj => ?_, ?_⟩
   · rw [List.getElem?_append_left (by rw [hcs]; omega), h3 j hj, List.getElem_append_left hil]
   · rw [List.getElem_append_left hil]
     exact (h4.keep hK).more hI
 · have hie : i = l.length := by simp at hi; omega
   subst hie
   refine ⟨Ab, cb, Ak, ck, fun j hj => ?_, ?_⟩
   · rw [List.getElem?_append_right (by rw [hcs]; omega), List.getElem_append_right (Nat.le_refl _)]
     simp only [Nat.sub_self, List.getElem_cons_zero]
     rw [hcs]
     congr 1
     omega
   · rw [List.getElem_append_right (Nat.le_refl _)]
     simp only [Nat.sub_self, List.getElem_cons_zero]
     exact (he.keep hK).more hI
theorem RowP.set {T : TypeId} {w : World} {base : Nat} {v : Value} {l : List El} (h : RowP T w base v l) (a : Addr) (u : Value) (h2 : a.block < base) : RowP T (w.setCell a u) base v l := by
 obtain ⟨cs, h3, h4⟩ := h
 have hne : v.ownBlock ≠ some a.block := by
  intro e
  obtain ⟨_, h0 | ⟨g, cap, cur, hv, hbs, _⟩⟩ := h3
  · rw [h0.1] at e
    cases e
  · rw [hv] at e
    injection e with e
    have e' : g = a.block := e
    omega
 refine ⟨cs, ownsRow_setCell_other h3 hne u, fun i hi => ?_⟩
 obtain ⟨Ab, cb, Ak, ck, h5, h6⟩ := h4 i hi
 refine ⟨Ab, cb, Ak, ck, h5, (h6.keep fun p hp => ?_).more fun b hb => ⟨hb.1, hb.2.1.setCell _ _, hb.2.2⟩⟩
 refine World.cell?_of_block (heap_setCell_other _ _ _ _ fun e => ?_)
 have := hp.1
 omega
theorem RowP.parts {T : TypeId} {w : World} {base : Nat} {v : Value} {l : List El} (h : RowP T w base v l) :
 ∃ cs : List Value, w.ownsRow base T 5 v l.length cs ∧ cs.length = l.length * 5 ∧ (∀ b, v.ownBlock = some b → base ≤ b ∧ b < w.heap.size) ∧
  ∀ (i : Nat) (hi : i < l.length), ∃ Ab cb Ak ck, (∀ j, j < 5 → cs[i * 5 + j]? = (el5 l[i] Ab cb Ak ck)[j]?) ∧ ElIn w (RowC w base v) l[i] Ab cb Ak ck := by
 obtain ⟨cs, h1, h2⟩ := h
 refine ⟨cs, h1, h1.1, fun b hb => ?_, h2⟩
 obtain ⟨_, h0 | ⟨g, cap, cur, hv, hbs, hg, _⟩⟩ := h1
 · rw [h0.1] at hb
   cases hb
 · rw [hv] at hb
   injection hb with hb
   have hb' : g = b := hb
   subst hb'
   exact ⟨hbs, (Array.getElem?_eq_some_iff.1 hg).1⟩
def errP (e : Nat) : Ending := .panicked [{ v := .iface 34 (.int .i64 (e : Int)), recovered := false }]
def DecPost (q : El × Nat) (w : World) (en : Ending) (w' : World) : Prop :=
 (q.2 = 0 → ∃ (Ab : Option Addr) (cb : Nat) (Ak : Option Addr) (ck : Nat), en = .returned (elV q.1 Ab cb Ak ck) ∧ ElIn w' (New w.heap.size w') q.1 Ab cb Ak ck) ∧
   (q.2 ≠ 0 → en = errP q.2) ∧ Below w.heap.size w w'
theorem own_new {w : World} {base : Nat} {v : Value} {l : List Nat} (h : Own w base v l) : ∃ A c, v = .slice A l.length c ∧ SrcI w (New base w) A c l := by
 obtain ⟨_, h0 | ⟨g, cap, cur, hv, hb, hg, hn, hm, hs, hx⟩⟩ := h
 · have : l = [] := List.eq_nil_of_length_eq_zero h0.2
   subst this
   exact ⟨none, 0, h0.1, ⟨Nat.le_refl _, fun _ => rfl, fun _ e => by cases e⟩⟩
 · refine ⟨_, cap, hv, hn, (by simp), fun ad e => ?_⟩
   injection e with e
   subst e
   refine ⟨fun _ => ⟨hb, _, _, hg⟩, fun j n hj => ?_⟩
   have hadd : (⟨g, 0, none⟩ : Addr).add j = ⟨g, j, none⟩ := by unfold Addr.add; split <;> simp_all
   rw [hadd, cell_of_row w g j cur _ _ hg]
   have hjl : j < l.length := (List.getElem?_eq_some_iff.1 hj).1
   have h2 : (cellsB l)[j]? = some (Value.int .u8 (n : Int)) := by simp [cellsB, hj]
   rw [← hx, List.getElem?_take, if_pos (by omega)] at h2
   simpa using h2
theorem clone_any (bl off n cp : Nat) (l : List Nat) (w : World) (K : Nat) (hs : Src w K (some ⟨bl, off, none⟩) cp l) (hn : l.length = n) (hl : n ≤ 1048600) :
 Calls Tryz.prog 80 #[.slice (some ⟨bl, off, none⟩) n cp] w fun e w' => ∃ A c, e = .returned (.slice A n c) ∧ SrcI w' (New w.heap.size w') A c l ∧ Below w.heap.size w w' := by
 subst hn
 refine (Tryz.bytes_Clone_at ⟨bl, off, none⟩ l.length cp (l.map fun n : Nat => (n : Int)) w (by simp) (by omega) fun i hi => ?_).mono ?_
 · rw [(hs.at_ _ rfl).2 i (l[i]) (by simp [hi])]
   simp [hi]
 · rintro e w' ⟨v', rfl, h1, h2, h3⟩
   have h4 : Own w' w.heap.size v' l := by
    unfold Own cellsB
    simp only [List.map_map] at h1
    exact h1
   obtain ⟨A, c, h5, h6⟩ := own_new h4
   exact ⟨A, c, by rw [h5], h6, h3⟩
set_option maxRecDepth 8000 in
set_option maxHeartbeats 800000 in
theorem dec_prim (b off cp d c n al fr : Nat) (l : List Nat) (w : World) (K : Nat) (hK : K ≤ w.heap.size) (hs : Src w K (some ⟨b, off, none⟩) cp l) (hl : l.length ≤ 1048600) (hcp : cp ≤ 9223372036854775807)
 (h1 : fr ≤ al) (h2 : al ≤ l.length) :
 Calls Tryz.prog 41 #[.slice (some ⟨b, off, none⟩) l.length cp, .agg #[.int .i64 (c : Int), .bool false, .int .i64 (n : Int), .int .i64 (fr : Int), .int .i64 (al : Int)], .int .i64 (d : Int)] w (DecPost (⟨(c : Int), false, (n : Int), (l.take al).drop fr, .nil⟩, 0) w) := by
 have hlen : ((l.take al).drop fr).length = al - fr := by rw [List.length_drop, List.length_take]; omega
 have hcap := hs.le
 have CC : ∀ w', Below w.heap.size w w' → ∀ o c1, Src w K (some ⟨b, o, none⟩) c1 ((l.take al).drop fr) → Calls Tryz.prog 80 #[.slice (some ⟨b, o, none⟩) (al - fr) c1] w' fun e w'' => ∃ A c, e = .returned (.slice A (al - fr) c) ∧ SrcI w'' (New w'.heap.size w'') A c ((l.take al).drop fr) ∧ Below w'.heap.size w' w'' :=
  fun w' hb o c1 h => clone_any b o (al - fr) c1 _ w' K (h.below (hb.mono hK)) hlen (by omega)
 obtain ⟨L, hL⟩ : ∃ L, L = (l.take al).drop fr := ⟨_, rfl⟩
 have hsL : ∀ o c1, (o = off + fr ∧ c1 = cp - fr ∨ fr = al) → al - fr ≤ c1 → Src w K (some ⟨b, o, none⟩) c1 ((l.take al).drop fr) := by
  intro o c1 h h3
  rcases h with ⟨rfl, rfl⟩ | h
  · exact (hs.take al).behind (by rw [List.length_take]; omega)
  · have : (l.take al).drop fr = [] := List.eq_nil_of_length_eq_zero (by rw [hlen]; omega)
    rw [this]
    exact ⟨by simp, (fun e => by cases e), fun ad e => ⟨fun h0 => absurd h0 (by simp), fun j m hj => by simp at hj⟩⟩
 rw [← hL] at hlen CC hsL ⊢
 replace CC := Hd CC
 replace hsL := Hd hsL
 replace hlen := Hd hlen
 clear hL hs
 have fin : ∀ (W w3 : World) (A : Option Addr) (cc : Nat), w.heap.size + 3 ≤ W.heap.size → Below w.heap.size w W → W.heap[w.heap.size + 1]? = some (.cells #[.int .i64 0, .bool false, .int .i64 0, .slice none 0 0, .slice none 0 0] 43 (0, 0)) →
  SrcI w3 (New W.heap.size w3) A cc L → Below W.heap.size W w3 → DecPost (⟨(c : Int), false, (n : Int), L, .nil⟩, 0) w (.returned (.agg #[.int .i64 (c : Int), .bool false, .int .i64 (n : Int), .slice A (al - fr) cc, .slice none 0 0]))
   (set5 (w3.setCell ⟨w.heap.size + 2, 3, none⟩ (.slice A (al - fr) cc)) (w.heap.size + 1) (.int .i64 (c : Int)) (.bool false) (.int .i64 (n : Int)) (.slice A (al - fr) cc) (.slice none 0 0)) := by
  intro W w3 A cc hW hBW hZ hsr hb3
  have hs3 := hb3.size
  refine ⟨fun _ => ⟨A, cc, none, 0, ?_, ⟨(hsr.keep fun p hp => ?_).more fun x hx => ⟨by have := hx.1; omega, (hx.2.setCell _ _).set5 _ _ _ _ _ _⟩, SlI.nil0 _ _⟩⟩, fun h => absurd rfl h, set5_below ((hBW.trans (hb3.mono (by omega))).setCell (by show w.heap.size ≤ w.heap.size + 2; omega) _) (by omega) _ _ _ _ _⟩
  · unfold elV El.kids
    rw [← hlen.out]
    rfl
  · have hp1 : W.heap.size ≤ p.block := hp.1
    rw [set5_other _ _ _ _ _ _ _ p (by omega)]
    exact World.cell?_of_block (heap_setCell_other _ _ _ _ (by show p.block ≠ w.heap.size + 2; omega))
 replace fin := Hd fin
 by_cases hfc : fr = cp
 · have hac : al = cp := by omega
   subst hfc
   subst hac
   simp only [Nat.sub_self] at CC fin hlen hsL
   go_enter Tryz.func41, Tryz.ntmps41
   go_wp2_with fail
   obtain ⟨W, hW⟩ : ∃ W, W = ((w.alloc (.cells #[.int .i64 (c : Int), .bool false, .int .i64 (n : Int), .int .i64 (al : Int), .int .i64 (al : Int)] 85)).alloc (.cells #[.int .i64 0, .bool false, .int .i64 0, .slice none 0 0, .slice none 0 0] 43)).alloc (.cells #[.int .i64 (c : Int), .bool false, .int .i64 (n : Int), .slice none 0 0, .slice none 0 0] 43) := ⟨_, rfl⟩
   have hBW : Below w.heap.size w W := by rw [hW]; go_grown
   have hWs : W.heap.size = w.heap.size + 3 := by rw [hW]; simp
   have hWH : W.heap[w.heap.size]? = some (.cells #[.int .i64 (c : Int), .bool false, .int .i64 (n : Int), .int .i64 (al : Int), .int .i64 (al : Int)] 85 (0, 0)) := by
    rw [hW, Below.heap_alloc _ _ _ (by simp; omega), Below.heap_alloc _ _ _ (by simp)]; exact heap_alloc_new w _
   have hWZ : W.heap[w.heap.size + 1]? = some (.cells #[.int .i64 0, .bool false, .int .i64 0, .slice none 0 0, .slice none 0 0] 43 (0, 0)) := by
    rw [hW, Below.heap_alloc _ _ _ (by simp)]; exact heap_alloc_new (w.alloc _) _ |> (by simpa using ·)
   have hWX : W.heap[w.heap.size + 2]? = some (.cells #[.int .i64 (c : Int), .bool false, .int .i64 (n : Int), .slice none 0 0, .slice none 0 0] 43 (0, 0)) := by
    rw [hW]; exact heap_alloc_new ((w.alloc _).alloc _) _ |> (by simpa using ·)
   rw [← hW]
   clear hW
   refine (CC.out W hBW off 0 (hsL.out _ _ (.inr trivial) (by omega))).mono ?_
   rintro en w3 ⟨A, cc, rfl, hsr, hb3⟩
   have hs3 := hb3.size
   have F := Hd (fin.out W w3 A cc (by omega) hBW hWZ hsr hb3)
   have h3Z : (w3.setCell ⟨w.heap.size + 2, 3, none⟩ (.slice A 0 cc)).heap[w.heap.size + 1]? = some (.cells #[.int .i64 0, .bool false, .int .i64 0, .slice none 0 0, .slice none 0 0] 43 (0, 0)) := by
    rw [_root_.Go.heap_setCell_other _ _ _ _ (by show w.heap.size + 1 ≠ w.heap.size + 2; omega), hb3.block _ (by omega)]; exact hWZ
   have h3X : w3.heap[w.heap.size + 2]? = some (.cells #[.int .i64 (c : Int), .bool false, .int .i64 (n : Int), .slice none 0 0, .slice none 0 0] 43 (0, 0)) := by
    rw [hb3.block _ (by omega)]; exact hWX
   have h3Y : (w3.setCell ⟨w.heap.size + 2, 3, none⟩ (.slice A 0 cc)).heap[w.heap.size + 2]? = some (.cells #[.int .i64 (c : Int), .bool false, .int .i64 (n : Int), .slice A 0 cc, .slice none 0 0] 43 (0, 0)) :=
    _root_.Go.heap_setCell_same _ _ _ _ _ _ h3X
   obtain ⟨z0, z1, z2, z3, z4, k0, k1, k2, k3, k4⟩ := cells5 h3Z
   obtain ⟨_, _, _, x3, _, _, _, _, j3, _⟩ := cells5 h3X
   obtain ⟨y0, y1, y2, y3, y4, _⟩ := cells5 h3Y
   replace h3Z := Hd h3Z
   replace h3X := Hd h3X
   replace h3Y := Hd h3Y
   replace hWH := Hd hWH
   replace hWZ := Hd hWZ
   replace hWX := Hd hWX
   replace hsr := Hd hsr
   replace hb3 := Hd hb3
   replace hBW := Hd hBW
   replace hWs := Hd hWs
   go_wp2_with fail
   clear z0 z1 z2 z3 z4 k0 k1 k2 k3 k4 x3 j3 y0 y1 y2 y3 y4
   have HX : set5 (w3.setCell ⟨w.heap.size + 2, 3, none⟩ (.slice A 0 cc)) (w.heap.size + 1) (.int .i64 (c : Int)) (.bool false) (.int .i64 (n : Int)) (.slice A 0 cc) (.slice none 0 0) = ((((((w3.setCell ⟨w.heap.size + 2, 3, none⟩ (.slice A 0 cc)).setCell ⟨w.heap.size + 1, 0, none⟩ (.int .i64 (c : Int))).setCell ⟨w.heap.size + 1, 1, none⟩ (.bool false)).setCell ⟨w.heap.size + 1, 2, none⟩ (.int .i64 (n : Int))).setCell ⟨w.heap.size + 1, 3, none⟩ (.slice A 0 cc)).setCell ⟨w.heap.size + 1, 4, none⟩ (.slice none 0 0)) := rfl
   rw [← HX]
   have HC := set5_same h3Z.out (.int .i64 (c : Int)) (.bool false) (.int .i64 (n : Int)) (.slice A 0 cc) (.slice none 0 0)
   obtain ⟨W5, hW5⟩ : ∃ W5, W5 = set5 (w3.setCell ⟨w.heap.size + 2, 3, none⟩ (.slice A 0 cc)) (w.heap.size + 1) (.int .i64 (c : Int)) (.bool false) (.int .i64 (n : Int)) (.slice A 0 cc) (.slice none 0 0) := ⟨_, rfl⟩
   have F2 := F.out
   rw [← hW5] at HC F2 ⊢
   clear HX hW5 F
   obtain ⟨q0, q1, q2, q3, q4, _⟩ := cells5 HC
   exact bodyPost_ret (v := .agg #[.int .i64 (c : Int), .bool false, .int .i64 (n : Int), .slice A 0 cc, .slice none 0 0]) (by simp [results, Tryz.results41, go_sem, q0, q1, q2, q3, q4]) rfl F2
 · skip
   go_enter Tryz.func41, Tryz.ntmps41
   go_wp2_with fail
   obtain ⟨W, hW⟩ : ∃ W, W = ((w.alloc (.cells #[.int .i64 (c : Int), .bool false, .int .i64 (n : Int), .int .i64 (fr : Int), .int .i64 (al : Int)] 85)).alloc (.cells #[.int .i64 0, .bool false, .int .i64 0, .slice none 0 0, .slice none 0 0] 43)).alloc (.cells #[.int .i64 (c : Int), .bool false, .int .i64 (n : Int), .slice none 0 0, .slice none 0 0] 43) := ⟨_, rfl⟩
   have hBW : Below w.heap.size w W := by rw [hW]; go_grown
   have hWs : W.heap.size = w.heap.size + 3 := by rw [hW]; simp
   have hWH : W.heap[w.heap.size]? = some (.cells #[.int .i64 (c : Int), .bool false, .int .i64 (n : Int), .int .i64 (fr : Int), .int .i64 (al : Int)] 85 (0, 0)) := by
    rw [hW, Below.heap_alloc _ _ _ (by simp; omega), Below.heap_alloc _ _ _ (by simp)]; exact heap_alloc_new w _
   have hWZ : W.heap[w.heap.size + 1]? = some (.cells #[.int .i64 0, .bool false, .int .i64 0, .slice none 0 0, .slice none 0 0] 43 (0, 0)) := by
    rw [hW, Below.heap_alloc _ _ _ (by simp)]; exact heap_alloc_new (w.alloc _) _ |> (by simpa using ·)
   have hWX : W.heap[w.heap.size + 2]? = some (.cells #[.int .i64 (c : Int), .bool false, .int .i64 (n : Int), .slice none 0 0, .slice none 0 0] 43 (0, 0)) := by
    rw [hW]; exact heap_alloc_new ((w.alloc _).alloc _) _ |> (by simpa using ·)
   rw [← hW]
   clear hW
   refine (CC.out W hBW (off + fr) (cp - fr) (hsL.out _ _ (.inl ⟨rfl, rfl⟩) (by omega))).mono ?_
   rintro en w3 ⟨A, cc, rfl, hsr, hb3⟩
   have hs3 := hb3.size
   have F := Hd (fin.out W w3 A cc (by omega) hBW hWZ hsr hb3)
   have h3Z : (w3.setCell ⟨w.heap.size + 2, 3, none⟩ (.slice A (al - fr) cc)).heap[w.heap.size + 1]? = some (.cells #[.int .i64 0, .bool false, .int .i64 0, .slice none 0 0, .slice none 0 0] 43 (0, 0)) := by
    rw [_root_.Go.heap_setCell_other _ _ _ _ (by show w.heap.size + 1 ≠ w.heap.size + 2; omega), hb3.block _ (by omega)]; exact hWZ
   have h3X : w3.heap[w.heap.size + 2]? = some (.cells #[.int .i64 (c : Int), .bool false, .int .i64 (n : Int), .slice none 0 0, .slice none 0 0] 43 (0, 0)) := by
    rw [hb3.block _ (by omega)]; exact hWX
   have h3Y : (w3.setCell ⟨w.heap.size + 2, 3, none⟩ (.slice A (al - fr) cc)).heap[w.heap.size + 2]? = some (.cells #[.int .i64 (c : Int), .bool false, .int .i64 (n : Int), .slice A (al - fr) cc, .slice none 0 0] 43 (0, 0)) :=
    _root_.Go.heap_setCell_same _ _ _ _ _ _ h3X
   obtain ⟨z0, z1, z2, z3, z4, k0, k1, k2, k3, k4⟩ := cells5 h3Z
   obtain ⟨_, _, _, x3, _, _, _, _, j3, _⟩ := cells5 h3X
   obtain ⟨y0, y1, y2, y3, y4, _⟩ := cells5 h3Y
   replace h3Z := Hd h3Z
   replace h3X := Hd h3X
   replace h3Y := Hd h3Y
   replace hWH := Hd hWH
   replace hWZ := Hd hWZ
   replace hWX := Hd hWX
   replace hsr := Hd hsr
   replace hb3 := Hd hb3
   replace hBW := Hd hBW
   replace hWs := Hd hWs
   go_wp2_with fail
   clear z0 z1 z2 z3 z4 k0 k1 k2 k3 k4 x3 j3 y0 y1 y2 y3 y4
   have HX : set5 (w3.setCell ⟨w.heap.size + 2, 3, none⟩ (.slice A (al - fr) cc)) (w.heap.size + 1) (.int .i64 (c : Int)) (.bool false) (.int .i64 (n : Int)) (.slice A (al - fr) cc) (.slice none 0 0) = ((((((w3.setCell ⟨w.heap.size + 2, 3, none⟩ (.slice A (al - fr) cc)).setCell ⟨w.heap.size + 1, 0, none⟩ (.int .i64 (c : Int))).setCell ⟨w.heap.size + 1, 1, none⟩ (.bool false)).setCell ⟨w.heap.size + 1, 2, none⟩ (.int .i64 (n : Int))).setCell ⟨w.heap.size + 1, 3, none⟩ (.slice A (al - fr) cc)).setCell ⟨w.heap.size + 1, 4, none⟩ (.slice none 0 0)) := rfl
   rw [← HX]
   have HC := set5_same h3Z.out (.int .i64 (c : Int)) (.bool false) (.int .i64 (n : Int)) (.slice A (al - fr) cc) (.slice none 0 0)
   obtain ⟨W5, hW5⟩ : ∃ W5, W5 = set5 (w3.setCell ⟨w.heap.size + 2, 3, none⟩ (.slice A (al - fr) cc)) (w.heap.size + 1) (.int .i64 (c : Int)) (.bool false) (.int .i64 (n : Int)) (.slice A (al - fr) cc) (.slice none 0 0) := ⟨_, rfl⟩
   have F2 := F.out
   rw [← hW5] at HC F2 ⊢
   clear HX hW5 F
   obtain ⟨q0, q1, q2, q3, q4, _⟩ := cells5 HC
   exact bodyPost_ret (v := .agg #[.int .i64 (c : Int), .bool false, .int .i64 (n : Int), .slice A (al - fr) cc, .slice none 0 0]) (by simp [results, Tryz.results41, go_sem, q0, q1, q2, q3, q4]) rfl F2
end Go.Proofs.YtcbiedonmibfaaaGreatDoor
