/-
  The document's Parse.
-/
import Derived.Test.YtgdoepkoakpnbaaBerMade
namespace Go.Proofs.Ytgdoepkoakpnbaa
open Go.RowKit

/-- What Parse says: the element, how many bytes, the error. -/
def parP (l : List Nat) : El × Nat × Nat :=
  if (hdT l).2.2 ≠ 0 then (el0, 0, (hdT l).2.2) else if l.length < (hdT l).1 then (el0, 0, 10)
  else if (inP (2 * (hdT l).1) (l.take (hdT l).1) 0).2 ≠ 0 then (el0, 0, (inP (2 * (hdT l).1) (l.take (hdT l).1) 0).2)
  else ((inP (2 * (hdT l).1) (l.take (hdT l).1) 0).1, (hdT l).1, 0)
/-- What Parse answers. -/
def ParPost (q : El × Nat × Nat) (K : Nat) (w : World) (en : Ending) (w' : World) : Prop :=
  ∃ (Ab : Option Addr) (cb : Nat) (Ak : Option Addr) (ck : Nat), en = .returned (.tuple #[elV q.1 Ab cb Ak ck, .int .i64 (q.2.1 : Int), .int .i64 (q.2.2 : Int)]) ∧
    ElIn w' (fun b => b < K ∨ (w.heap.size ≤ b ∧ b < w'.heap.size)) q.1 Ab cb Ak ck ∧ Below w.heap.size w w'
theorem el0_in (w : World) (I : Nat → Prop) : ElIn w I el0 none 0 none 0 := ⟨⟨Nat.le_refl _, fun _ => rfl, fun _ e => by cases e⟩, SlI.nil0 _ _⟩

set_option maxRecDepth 8000 in
set_option maxHeartbeats 800000 in
theorem refParse_any (A : Option Addr) (cp : Nat) (l : List Nat) (w : World) (K : Nat) (hs : Src w K A cp l) (hK : K ≤ w.heap.size) (hl : l.length ≤ 1048600) (hcp : cp ≤ 9223372036854775807) (hby : ∀ x ∈ l, x < 256) :
    Calls Try.prog 18 #[.slice A l.length cp] w (ParPost (parP l) K w) := by
  have CN : ∀ w', Below w.heap.size w w' → Calls Try.prog 16 #[.slice A l.length cp] w' fun e w'' => e = .returned (.tuple #[.int .i64 ((hdT l).1 : Int), .int .i64 ((hdT l).2.2 : Int)]) ∧ w' = w'' :=
    fun w' hb => refNeed_any A cp l w' K (hs.below (hb.mono hK)) hl hcp hby
  have hcap := hs.le
  by_cases h1 : (hdT l).2.2 = 0
  · by_cases h2 : l.length < (hdT l).1
    · have hP : parP l = (el0, 0, 10) := by unfold parP; rw [if_neg (by simpa using h1), if_pos h2]
      rw [hP]
      obtain ⟨⟨nn, ff, ee⟩, hq⟩ : ∃ q, q = hdT l := ⟨_, rfl⟩
      rw [← hq] at CN h1 h2
      simp only [] at CN h1 h2
      subst h1
      replace CN := Lib.hid CN
      have kn : decide ((l.length : Int) < (nn : Int)) = true := decide_eq_true (by omega)
      clear hq hP hs hby
      go_enter Try.func18, Try.ntmps18
      go_wp2_with fail
      refine (CN.out _ (by go_grown)).mono ?_
      rintro en w2 ⟨rfl, rfl⟩
      dsimp only []
      go_wp2_with fail
      go_returns
      exact ⟨none, 0, none, 0, rfl, el0_in _ _, by go_grown⟩
    · obtain ⟨a1, a2, a3, a4, a5⟩ := hdT_ok l hby h1
      obtain ⟨b, off, rfl, hbK, hc⟩ := hs.plain (by omega)
      clear hc
      have hlt : (l.take (hdT l).1).length = (hdT l).1 := by rw [List.length_take]; omega
      have CI : ∀ w', Below w.heap.size w w' → Calls Try.prog 34 #[.slice (some ⟨b, off, none⟩) (hdT l).1 cp, .int .i64 0] w' (InPost (inP (2 * (hdT l).1) (l.take (hdT l).1) 0) K w') := by
        intro w' hb
        have := refIn_any (2 * (hdT l).1) 0 (l.take (hdT l).1) (some ⟨b, off, none⟩) cp w' K (by rw [hlt]; omega) ((hs.below (hb.mono hK)).take _) (Nat.le_trans hK hb.size) (by rw [hlt]; omega) hcp (fun x hx => hby x (List.mem_of_mem_take hx)) (by rw [hdT_take l hby h1]; exact h1) (by rw [hdT_take l hby h1, hlt]; exact Nat.le_refl _) (by omega)
        rw [hlt] at this
        exact this
      have hP : parP l = if (inP (2 * (hdT l).1) (l.take (hdT l).1) 0).2 ≠ 0 then (el0, 0, (inP (2 * (hdT l).1) (l.take (hdT l).1) 0).2)
          else ((inP (2 * (hdT l).1) (l.take (hdT l).1) 0).1, (hdT l).1, 0) := by unfold parP; rw [if_neg (by simpa using h1), if_neg h2]
      rw [hP]
      obtain ⟨⟨kid, e2⟩, hk⟩ : ∃ q, q = inP (2 * (hdT l).1) (l.take (hdT l).1) 0 := ⟨_, rfl⟩
      rw [← hk] at CI ⊢
      obtain ⟨⟨nn, ff, ee⟩, hq⟩ : ∃ q, q = hdT l := ⟨_, rfl⟩
      rw [← hq] at CN h1 h2 CI a4 ⊢
      simp only [] at CN h1 h2 CI a4 ⊢
      subst h1
      replace CN := Lib.hid CN
      replace CI := Lib.hid CI
      have kn : decide ((l.length : Int) < (nn : Int)) = false := decide_eq_false (by omega)
      have hnl : nn ≤ l.length := by omega
      clear hq hP hs hby hk hlt a1 a2 a3 a5
      by_cases he : e2 = 0
      · subst he
        rw [if_neg (by simp)]
        go_enter Try.func18, Try.ntmps18
        go_wp2_with fail
        refine (CN.out _ (by go_grown)).mono ?_
        rintro en w2 ⟨rfl, rfl⟩
        dsimp only []
        go_wp2_with fail
        refine (CI.out _ (by go_grown)).mono ?_
        rintro en w3 ⟨Ab2, cb2, A3, c3, rfl, hkin, hb3⟩
        unfold elV
        dsimp only [] at hkin ⊢
        have hw : (w.alloc (.cells #[.int .i64 0, .bool false, .int .i64 0, .slice none 0 0, .slice none 0 0] 30)).heap.size = w.heap.size + 1 := by simp
        rw [hw] at hkin hb3
        have hsz3 := hb3.size
        rw [hw] at hsz3
        have hZ3 : ∀ ob : Obj, (w3.alloc ob).heap[w.heap.size]? = some (.cells #[.int .i64 0, .bool false, .int .i64 0, .slice none 0 0, .slice none 0 0] 30 (0, 0)) := fun ob => by
          rw [Below.heap_alloc _ _ _ (by omega), hb3.block _ (by omega)]
          exact heap_alloc_new w _
        have r0 : ∀ ob : Obj, (w3.alloc ob).cell? ⟨w.heap.size, 0, none⟩ = some (.int .i64 0) := fun ob => cell_of_row _ _ _ _ _ _ (hZ3 ob)
        have f0 : ∀ ob : Obj, (w3.alloc ob).frozen? ⟨w.heap.size, 0, none⟩ = false := fun ob => frozen_of_row _ _ _ _ _ (hZ3 ob)
        have r1 : ∀ ob : Obj, (w3.alloc ob).cell? ⟨w.heap.size, 1, none⟩ = some (.bool false) := fun ob => cell_of_row _ _ _ _ _ _ (hZ3 ob)
        have f1 : ∀ ob : Obj, (w3.alloc ob).frozen? ⟨w.heap.size, 1, none⟩ = false := fun ob => frozen_of_row _ _ _ _ _ (hZ3 ob)
        have r2 : ∀ ob : Obj, (w3.alloc ob).cell? ⟨w.heap.size, 2, none⟩ = some (.int .i64 0) := fun ob => cell_of_row _ _ _ _ _ _ (hZ3 ob)
        have f2 : ∀ ob : Obj, (w3.alloc ob).frozen? ⟨w.heap.size, 2, none⟩ = false := fun ob => frozen_of_row _ _ _ _ _ (hZ3 ob)
        have r3 : ∀ ob : Obj, (w3.alloc ob).cell? ⟨w.heap.size, 3, none⟩ = some (.slice none 0 0) := fun ob => cell_of_row _ _ _ _ _ _ (hZ3 ob)
        have f3 : ∀ ob : Obj, (w3.alloc ob).frozen? ⟨w.heap.size, 3, none⟩ = false := fun ob => frozen_of_row _ _ _ _ _ (hZ3 ob)
        have r4 : ∀ ob : Obj, (w3.alloc ob).cell? ⟨w.heap.size, 4, none⟩ = some (.slice none 0 0) := fun ob => cell_of_row _ _ _ _ _ _ (hZ3 ob)
        have f4 : ∀ ob : Obj, (w3.alloc ob).frozen? ⟨w.heap.size, 4, none⟩ = false := fun ob => frozen_of_row _ _ _ _ _ (hZ3 ob)
        have hB4 : ∀ ob : Obj, Below w.heap.size w (w3.alloc ob) := fun ob => (((Below.refl _ w).alloc (Nat.le_refl _) _).trans (hb3.mono (by omega))).alloc (by omega) ob
        replace hZ3 := Lib.hid hZ3
        replace hb3 := Lib.hid hb3
        replace hkin := Lib.hid hkin
        replace hB4 := Lib.hid hB4
        clear CN CI
        go_wp2_with fail
        have HE : ∀ ob : Obj, ParPost (kid, nn, 0) K w (.returned (.tuple #[.agg #[.int .i64 kid.c, .bool kid.m, .int .i64 kid.n, .slice Ab2 kid.b.length cb2, .slice A3 kid.kids.length c3], .int .i64 (nn : Int), .int .i64 0])) (set5 (w3.alloc ob) w.heap.size (.int .i64 kid.c) (.bool kid.m) (.int .i64 kid.n) (.slice Ab2 kid.b.length cb2) (.slice A3 kid.kids.length c3)) := by
          intro ob
          refine ⟨Ab2, cb2, A3, c3, rfl, (hkin.out.keep fun p hp => ?_).more fun b hb => ?_, set5_below (hB4.out ob) (Nat.le_refl _) _ _ _ _ _⟩
          · rw [set5_other _ _ _ _ _ _ _ p (by rcases hp with hp | hp <;> omega), World.cell?_alloc_lt _ _ _ (by rcases hp with hp | hp <;> omega)]
          · rw [set5_size, show (w3.alloc ob).heap.size = w3.heap.size + 1 by simp]
            rcases hb with hb | hb
            · exact .inl hb
            · exact .inr ⟨by omega, by omega⟩
        obtain ⟨W4, hW4⟩ : ∃ W4, W4 = w3.alloc (.cells #[.int .i64 kid.c, .bool kid.m, .int .i64 kid.n, .slice Ab2 kid.b.length cb2, .slice A3 kid.kids.length c3] 30) := ⟨_, rfl⟩
        have HE4 := HE (.cells #[.int .i64 kid.c, .bool kid.m, .int .i64 kid.n, .slice Ab2 kid.b.length cb2, .slice A3 kid.kids.length c3] 30)
        have HC4 := hZ3.out (.cells #[.int .i64 kid.c, .bool kid.m, .int .i64 kid.n, .slice Ab2 kid.b.length cb2, .slice A3 kid.kids.length c3] 30)
        rw [← hW4] at HE4 HC4 ⊢
        clear hW4 HE hZ3 r0 r1 r2 r3 r4 f0 f1 f2 f3 f4
        have HC := set5_same HC4 (.int .i64 kid.c) (.bool kid.m) (.int .i64 kid.n) (.slice Ab2 kid.b.length cb2) (.slice A3 kid.kids.length c3)
        have HX : set5 W4 w.heap.size (.int .i64 kid.c) (.bool kid.m) (.int .i64 kid.n) (.slice Ab2 kid.b.length cb2) (.slice A3 kid.kids.length c3) = ((((W4.setCell ⟨w.heap.size, 0, none⟩ (.int .i64 kid.c)).setCell ⟨w.heap.size, 1, none⟩ (.bool kid.m)).setCell ⟨w.heap.size, 2, none⟩ (.int .i64 kid.n)).setCell ⟨w.heap.size, 3, none⟩ (.slice Ab2 kid.b.length cb2)).setCell ⟨w.heap.size, 4, none⟩ (.slice A3 kid.kids.length c3) := rfl
        rw [← HX]
        obtain ⟨W5, hW5⟩ : ∃ W5, W5 = set5 W4 w.heap.size (.int .i64 kid.c) (.bool kid.m) (.int .i64 kid.n) (.slice Ab2 kid.b.length cb2) (.slice A3 kid.kids.length c3) := ⟨_, rfl⟩
        rw [← hW5] at HE4 HC ⊢
        clear HX hW5 HC4
        have q0 : W5.cell? ⟨w.heap.size, 0, none⟩ = some (.int .i64 kid.c) := cell_of_row _ _ _ _ _ _ HC
        have q1 : W5.cell? ⟨w.heap.size, 1, none⟩ = some (.bool kid.m) := cell_of_row _ _ _ _ _ _ HC
        have q2 : W5.cell? ⟨w.heap.size, 2, none⟩ = some (.int .i64 kid.n) := cell_of_row _ _ _ _ _ _ HC
        have q3 : W5.cell? ⟨w.heap.size, 3, none⟩ = some (.slice Ab2 kid.b.length cb2) := cell_of_row _ _ _ _ _ _ HC
        have q4 : W5.cell? ⟨w.heap.size, 4, none⟩ = some (.slice A3 kid.kids.length c3) := cell_of_row _ _ _ _ _ _ HC
        exact bodyPost_ret (v := .tuple #[.agg #[.int .i64 kid.c, .bool kid.m, .int .i64 kid.n, .slice Ab2 kid.b.length cb2, .slice A3 kid.kids.length c3], .int .i64 (nn : Int), .int .i64 0]) (by simp [results, Try.results18, go_sem, q0, q1, q2, q3, q4]) rfl HE4
      · rw [if_pos he]
        have ke : ((e2 : Int) != 0) = true := by simp; omega
        go_enter Try.func18, Try.ntmps18
        go_wp2_with fail
        refine (CN.out _ (by go_grown)).mono ?_
        rintro en w2 ⟨rfl, rfl⟩
        dsimp only []
        go_wp2_with fail
        refine (CI.out _ (by go_grown)).mono ?_
        rintro en w3 ⟨Ab2, cb2, A3, c3, rfl, hkin, hb3⟩
        unfold elV
        dsimp only [] at hkin ⊢
        have hw : (w.alloc (.cells #[.int .i64 0, .bool false, .int .i64 0, .slice none 0 0, .slice none 0 0] 30)).heap.size = w.heap.size + 1 := by simp
        rw [hw] at hkin hb3
        have hsz3 := hb3.size
        rw [hw] at hsz3
        have hZ3 : ∀ ob : Obj, (w3.alloc ob).heap[w.heap.size]? = some (.cells #[.int .i64 0, .bool false, .int .i64 0, .slice none 0 0, .slice none 0 0] 30 (0, 0)) := fun ob => by
          rw [Below.heap_alloc _ _ _ (by omega), hb3.block _ (by omega)]
          exact heap_alloc_new w _
        have r0 : ∀ ob : Obj, (w3.alloc ob).cell? ⟨w.heap.size, 0, none⟩ = some (.int .i64 0) := fun ob => cell_of_row _ _ _ _ _ _ (hZ3 ob)
        have f0 : ∀ ob : Obj, (w3.alloc ob).frozen? ⟨w.heap.size, 0, none⟩ = false := fun ob => frozen_of_row _ _ _ _ _ (hZ3 ob)
        have r1 : ∀ ob : Obj, (w3.alloc ob).cell? ⟨w.heap.size, 1, none⟩ = some (.bool false) := fun ob => cell_of_row _ _ _ _ _ _ (hZ3 ob)
        have f1 : ∀ ob : Obj, (w3.alloc ob).frozen? ⟨w.heap.size, 1, none⟩ = false := fun ob => frozen_of_row _ _ _ _ _ (hZ3 ob)
        have r2 : ∀ ob : Obj, (w3.alloc ob).cell? ⟨w.heap.size, 2, none⟩ = some (.int .i64 0) := fun ob => cell_of_row _ _ _ _ _ _ (hZ3 ob)
        have f2 : ∀ ob : Obj, (w3.alloc ob).frozen? ⟨w.heap.size, 2, none⟩ = false := fun ob => frozen_of_row _ _ _ _ _ (hZ3 ob)
        have r3 : ∀ ob : Obj, (w3.alloc ob).cell? ⟨w.heap.size, 3, none⟩ = some (.slice none 0 0) := fun ob => cell_of_row _ _ _ _ _ _ (hZ3 ob)
        have f3 : ∀ ob : Obj, (w3.alloc ob).frozen? ⟨w.heap.size, 3, none⟩ = false := fun ob => frozen_of_row _ _ _ _ _ (hZ3 ob)
        have r4 : ∀ ob : Obj, (w3.alloc ob).cell? ⟨w.heap.size, 4, none⟩ = some (.slice none 0 0) := fun ob => cell_of_row _ _ _ _ _ _ (hZ3 ob)
        have f4 : ∀ ob : Obj, (w3.alloc ob).frozen? ⟨w.heap.size, 4, none⟩ = false := fun ob => frozen_of_row _ _ _ _ _ (hZ3 ob)
        have hB4 : ∀ ob : Obj, Below w.heap.size w (w3.alloc ob) := fun ob => (((Below.refl _ w).alloc (Nat.le_refl _) _).trans (hb3.mono (by omega))).alloc (by omega) ob
        replace hZ3 := Lib.hid hZ3
        replace hb3 := Lib.hid hb3
        replace hkin := Lib.hid hkin
        replace hB4 := Lib.hid hB4
        clear CN CI
        go_wp2_with fail
        have HE : ∀ ob : Obj, ParPost (el0, 0, e2) K w (.returned (.tuple #[.agg #[.int .i64 0, .bool false, .int .i64 0, .slice none 0 0, .slice none 0 0], .int .i64 0, .int .i64 (e2 : Int)])) (set5 (w3.alloc ob) w.heap.size (.int .i64 0) (.bool false) (.int .i64 0) (.slice none 0 0) (.slice none 0 0)) := fun ob => ⟨none, 0, none, 0, rfl, el0_in _ _, set5_below (hB4.out ob) (Nat.le_refl _) _ _ _ _ _⟩
        obtain ⟨W4, hW4⟩ : ∃ W4, W4 = w3.alloc (.cells #[.int .i64 kid.c, .bool kid.m, .int .i64 kid.n, .slice Ab2 kid.b.length cb2, .slice A3 kid.kids.length c3] 30) := ⟨_, rfl⟩
        have HE4 := HE (.cells #[.int .i64 kid.c, .bool kid.m, .int .i64 kid.n, .slice Ab2 kid.b.length cb2, .slice A3 kid.kids.length c3] 30)
        have HC4 := hZ3.out (.cells #[.int .i64 kid.c, .bool kid.m, .int .i64 kid.n, .slice Ab2 kid.b.length cb2, .slice A3 kid.kids.length c3] 30)
        rw [← hW4] at HE4 HC4 ⊢
        clear hW4 HE hZ3 r0 r1 r2 r3 r4 f0 f1 f2 f3 f4
        have HC := set5_same HC4 (.int .i64 0) (.bool false) (.int .i64 0) (.slice none 0 0) (.slice none 0 0)
        have HX : set5 W4 w.heap.size (.int .i64 0) (.bool false) (.int .i64 0) (.slice none 0 0) (.slice none 0 0) = ((((W4.setCell ⟨w.heap.size, 0, none⟩ (.int .i64 0)).setCell ⟨w.heap.size, 1, none⟩ (.bool false)).setCell ⟨w.heap.size, 2, none⟩ (.int .i64 0)).setCell ⟨w.heap.size, 3, none⟩ (.slice none 0 0)).setCell ⟨w.heap.size, 4, none⟩ (.slice none 0 0) := rfl
        rw [← HX]
        obtain ⟨W5, hW5⟩ : ∃ W5, W5 = set5 W4 w.heap.size (.int .i64 0) (.bool false) (.int .i64 0) (.slice none 0 0) (.slice none 0 0) := ⟨_, rfl⟩
        rw [← hW5] at HE4 HC ⊢
        clear HX hW5 HC4
        have q0 : W5.cell? ⟨w.heap.size, 0, none⟩ = some (.int .i64 0) := cell_of_row _ _ _ _ _ _ HC
        have q1 : W5.cell? ⟨w.heap.size, 1, none⟩ = some (.bool false) := cell_of_row _ _ _ _ _ _ HC
        have q2 : W5.cell? ⟨w.heap.size, 2, none⟩ = some (.int .i64 0) := cell_of_row _ _ _ _ _ _ HC
        have q3 : W5.cell? ⟨w.heap.size, 3, none⟩ = some (.slice none 0 0) := cell_of_row _ _ _ _ _ _ HC
        have q4 : W5.cell? ⟨w.heap.size, 4, none⟩ = some (.slice none 0 0) := cell_of_row _ _ _ _ _ _ HC
        exact bodyPost_ret (v := .tuple #[.agg #[.int .i64 0, .bool false, .int .i64 0, .slice none 0 0, .slice none 0 0], .int .i64 0, .int .i64 (e2 : Int)]) (by simp [results, Try.results18, go_sem, q0, q1, q2, q3, q4]) rfl HE4
  · have hP : parP l = (el0, 0, (hdT l).2.2) := by unfold parP; rw [if_pos (by simpa using h1)]
    rw [hP]
    obtain ⟨⟨nn, ff, ee⟩, hq⟩ : ∃ q, q = hdT l := ⟨_, rfl⟩
    rw [← hq] at CN h1
    rw [← hq]
    simp only [] at CN h1 ⊢
    replace CN := Lib.hid CN
    have kn : ((ee : Int) != 0) = true := by simp; omega
    clear hq hP hs hby
    go_enter Try.func18, Try.ntmps18
    go_wp2_with fail
    refine (CN.out _ (by go_grown)).mono ?_
    rintro en w2 ⟨rfl, rfl⟩
    dsimp only []
    go_wp2_with fail
    go_returns
    exact ⟨none, 0, none, 0, rfl, el0_in _ _, by go_grown⟩
end Go.Proofs.Ytgdoepkoakpnbaa
