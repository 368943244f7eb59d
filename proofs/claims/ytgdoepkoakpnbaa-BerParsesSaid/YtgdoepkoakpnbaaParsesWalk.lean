/-
  The walk of BerParses.
-/
import Derived.Test.YtgdoepkoakpnbaaPar2
import Derived.Test.YtgdoepkoakpnbaaAgainWalk
import Derived.Lib.SlBytesConst
namespace Go.Proofs.Ytgdoepkoakpnbaa
open Go.RowKit

theorem sum_flat (g : El → Nat) (h : El → List Nat) : ∀ l : List El, (∀ e ∈ l, g e ≤ (h e).length) → sumL (l.map g) ≤ (l.flatMap h).length
  | [], _ => by simp [sumL]
  | a :: l, hl => by
    have h1 := sum_flat g h l fun e he => hl e (List.mem_cons_of_mem _ he)
    have h2 := hl a (List.mem_cons_self ..)
    rw [List.map_cons, sumL_cons, List.flatMap_cons, List.length_append]
    omega
/-- An element is no greater than its bytes are many. -/
theorem size_enc (e : El) : e.right = true → e.size + 1 ≤ e.enc.length := by
  induction e using El.ind with
  | h e ih =>
  intro hr
  rw [El.right_kids, Bool.and_eq_true, List.all_eq_true] at hr
  obtain ⟨h1, h2⟩ := hr
  obtain ⟨_, h3, h4⟩ := (one_right e).1 h1
  have ht := tagB_pos e.c e.n e.m
  have hl := lenB_pos (e.inner.length : Int) (by omega)
  rw [El.size_kids, El.enc_len]
  cases hm : e.m
  · have hk : e.kids = [] := List.eq_nil_of_length_eq_zero (h3 hm)
    have hi : e.inner = e.b := by unfold El.inner; rw [hm]; rfl
    rw [hm] at ht
    rw [hi] at hl ⊢
    rw [hk]
    simp [sumL]
    omega
  · have hb := h4 hm
    rw [hm] at ht
    have hi : e.inner = e.kids.flatMap El.enc := El.inner_made e hm
    have := sum_flat El.size El.enc e.kids fun k hk => by have := ih k hk (h2 k hk); omega
    rw [← hi] at this
    omega
theorem parP_small (l : List Nat) (hb : ∀ x ∈ l, x < 256) : (parP l).1.size < 30000 ∧ (parP l).1.deep ≤ 24 := by
  by_cases h : (parP l).2.2 = 0
  · obtain ⟨h1, h2, h3, _, h5⟩ := parP_ok l hb h
    have := size_enc _ h1
    exact ⟨by omega, h2⟩
  · have : (parP l).1 = el0 := by
      unfold parP at h ⊢
      repeat' split
      all_goals first | rfl | skip
      rename_i h1 h2 h3
      rw [if_neg h1, if_neg h2, if_neg h3] at h
      exact absurd rfl h
    rw [this]
    decide
theorem parP_one : parP [48, 3, 1, 1, 255] = (⟨0, true, 16, [], .cons 0 false 1 [255] .nil .nil⟩, 5, 0) := by rfl

set_option maxRecDepth 8000 in
set_option maxHeartbeats 1600000 in
theorem parses_short (A : Option Addr) (cp L : Nat) (l : List Nat) (w : World) (hs : Src w w.heap.size A cp l) (hcp : cp ≤ 9223372036854775807) (hby : ∀ x ∈ l, x < 256) (hL : l.length = L) (hl : L ≤ 20000) :
    Calls Try.prog 4 #[.slice A L cp] w fun e w' => e = .returned (.bool true) ∧ Below w.heap.size w w' := by
  have C1 : ∀ w', Below w.heap.size w w' → Calls Try.prog 15 #[.slice A L cp] w' fun e w'' => e = .returned (.tuple #[.int .i64 ((hdT l).1 : Int), .int .i64 ((hdT l).2.2 : Int)]) ∧ Below w'.heap.size w' w'' := fun w' hb => by
    have := need_any A cp l w' w.heap.size (hs.below hb) hb.size (by omega) hcp hby
    rwa [hL] at this
  have C2 : ∀ w', Below w.heap.size w w' → Calls Try.prog 16 #[.slice A L cp] w' fun e w'' => e = .returned (.tuple #[.int .i64 ((hdT l).1 : Int), .int .i64 ((hdT l).2.2 : Int)]) ∧ w' = w'' := fun w' hb => by
    have := refNeed_any A cp l w' w.heap.size (hs.below hb) (by omega) hcp hby
    rwa [hL] at this
  have C3 : ∀ w', Below w.heap.size w w' → Calls Try.prog 17 #[.slice A L cp] w' (ParQ (parP l) w') := fun w' hb => by
    have := par_any A cp l w' w.heap.size (hs.below hb) hb.size (by omega) hcp hby
    rwa [hL] at this
  have C4 : ∀ w', Below w.heap.size w w' → Calls Try.prog 18 #[.slice A L cp] w' (ParPost (parP l) w.heap.size w') := fun w' hb => by
    have := refParse_any A cp l w' w.heap.size (hs.below hb) hb.size (by omega) hcp hby
    rwa [hL] at this
  have C6 : ∀ (w' : World) (b : Nat), w'.heap[b]? = some (.cells #[.int .u8 48, .int .u8 3, .int .u8 1, .int .u8 1, .int .u8 255] 5 (5, 6)) → Calls Try.prog 17 #[.slice (some ⟨b, 0, none⟩) 5 5] w' (ParQ (⟨0, true, 16, [], .cons 0 false 1 [255] .nil .nil⟩, 5, 0) w') := fun w' b hb => by
    have hsrc : Src w' w'.heap.size (some ⟨b, 0, none⟩) 5 [48, 3, 1, 1, 255] := ⟨Nat.le_refl _, (fun e => by cases e), fun ad e => by
      injection e with e
      subst e
      refine ⟨fun _ => (Array.getElem?_eq_some_iff.1 hb).1, fun j n hj => ?_⟩
      rw [add_plain2, cell_of_row _ _ _ _ _ _ hb]
      rcases j with _ | _ | _ | _ | _ | j
      all_goals first | (simp at hj ⊢; omega) | (simp at hj)⟩
    have := par_any (some ⟨b, 0, none⟩) 5 [48, 3, 1, 1, 255] w' w'.heap.size hsrc (Nat.le_refl _) (by simp) (by omega) (by decide)
    rw [parP_one] at this
    exact this
  obtain ⟨hsm, hdp⟩ := parP_small l hby
  have hbx := parP_byt l hby
  obtain ⟨⟨al, fr, er⟩, hq⟩ : ∃ q, q = hdT l := ⟨_, rfl⟩
  obtain ⟨⟨x, n, e0⟩, hq2⟩ : ∃ q, q = parP l := ⟨_, rfl⟩
  rw [← hq] at C1 C2
  rw [← hq2] at C3 C4 hsm hdp hbx
  simp only [] at C1 C2 C3 C4 hsm hdp hbx
  replace C1 := Lib.hid C1
  replace C2 := Lib.hid C2
  replace C3 := Lib.hid C3
  replace C4 := Lib.hid C4
  replace C6 := Lib.hid C6
  have k0 : decide (20000 < (L : Int)) = false := decide_eq_false (by omega)
  clear hq hq2 hs hL hby
  have g1 : ((al : Int) == (al : Int)) = true := beq_self_eq_true _
  have g2 : ((er : Int) == (er : Int)) = true := beq_self_eq_true _
  have g3 : ((n : Int) == (n : Int)) = true := beq_self_eq_true _
  have g4 : ((e0 : Int) == (e0 : Int)) = true := beq_self_eq_true _
  go_enter Try.func4, Try.ntmps4
  go_wp2_with fail
  refine (C1.out _ (Below.refl _ _)).mono ?_
  rintro en w1 ⟨rfl, hb1⟩
  dsimp only []
  go_wp2_with fail
  refine (C2.out _ hb1).mono ?_
  rintro en w1' ⟨rfl, rfl⟩
  dsimp only []
  replace hb1 := Lib.hid hb1
  go_wp2_with fail
  refine (C3.out _ hb1.out).mono ?_
  rintro en w2 ⟨Ab, cb, Ak, ck, rfl, hin, hb2⟩
  unfold elV
  dsimp only []
  have hB2 : Below w.heap.size w w2 := hb1.out.trans (hb2.mono hb1.out.size)
  have hs2 := hB2.size
  have hin2 : ElIn w2 (· < w2.heap.size) x Ab cb Ak ck := hin.more fun b hb => hb.2.lt
  replace hB2 := Lib.hid hB2
  replace hb2 := Lib.hid hb2
  replace hin := Lib.hid hin
  replace hin2 := Lib.hid hin2
  go_wp2_with fail
  obtain ⟨W2, hW2⟩ : ∃ W2, W2 = w2.alloc (.cells #[.int .i64 x.c, .bool x.m, .int .i64 x.n, .slice Ab x.b.length cb, .slice Ak x.kids.length ck] 27) := ⟨_, rfl⟩
  have hX2 : W2.heap[w2.heap.size]? = some (.cells #[.int .i64 x.c, .bool x.m, .int .i64 x.n, .slice Ab x.b.length cb, .slice Ak x.kids.length ck] 27 (0, 0)) := by rw [hW2]; exact heap_alloc_new w2 _
  have hBW2 : Below w.heap.size w W2 := by rw [hW2]; exact hB2.out.alloc hs2 _
  have hb22 : Below w2.heap.size w2 W2 := by rw [hW2]; exact (Below.refl _ _).alloc (Nat.le_refl _) _
  have hsz2 : W2.heap.size = w2.heap.size + 1 := by rw [hW2]; simp
  rw [← hW2]
  clear hW2
  refine (C4.out _ hBW2).mono ?_
  rintro en w3 ⟨Ab3, cb3, Ak3, ck3, rfl, hy, hb3⟩
  unfold elV
  dsimp only []
  have hs3 := hb3.size
  have hX3 : ∀ ob : Obj, (w3.alloc ob).heap[w2.heap.size]? = some (.cells #[.int .i64 x.c, .bool x.m, .int .i64 x.n, .slice Ab x.b.length cb, .slice Ak x.kids.length ck] 27 (0, 0)) := fun ob => by
    rw [Below.heap_alloc _ _ _ (by omega), hb3.block _ (by omega)]; exact hX2
  obtain ⟨x0, x1, x2, x3, x4, _⟩ := cells5A hX3
  have hB3 : Below w.heap.size w w3 := hBW2.trans (hb3.mono (by omega))
  have hin3 : ElIn w3 (· < w2.heap.size) x Ab cb Ak ck := hin2.out.keep fun p hp => by
    have hp' : p.block < w2.heap.size := hp
    rw [hb3.cell (by omega), hb22.cell hp']
  have hy3 : ElIn w3 (· < w3.heap.size) x Ab3 cb3 Ak3 ck3 := hy.more fun b hb => by rcases hb with hb | hb <;> omega
  replace hX2 := Lib.hid hX2
  replace hX3 := Lib.hid hX3
  replace hB3 := Lib.hid hB3
  replace hb3 := Lib.hid hb3
  replace hb22 := Lib.hid hb22
  replace hBW2 := Lib.hid hBW2
  replace hin3 := Lib.hid hin3
  replace hy3 := Lib.hid hy3
  replace hy := Lib.hid hy
  go_wp2_with fail
  obtain ⟨W3, hW3⟩ : ∃ W3, W3 = w3.alloc (.cells #[.int .i64 x.c, .bool x.m, .int .i64 x.n, .slice Ab3 x.b.length cb3, .slice Ak3 x.kids.length ck3] 30) := ⟨_, rfl⟩
  have hY : W3.heap[w3.heap.size]? = some (.cells #[.int .i64 x.c, .bool x.m, .int .i64 x.n, .slice Ab3 x.b.length cb3, .slice Ak3 x.kids.length ck3] 30 (0, 0)) := by rw [hW3]; exact heap_alloc_new w3 _
  have hBW3 : Below w.heap.size w W3 := by rw [hW3]; exact hB3.out.alloc (by omega) _
  have hb33 : Below w3.heap.size w3 W3 := by rw [hW3]; exact (Below.refl _ _).alloc (Nat.le_refl _) _
  have hsz3 : W3.heap.size = w3.heap.size + 1 := by rw [hW3]; simp
  rw [← hW3]
  clear hW3 x0 x1 x2 x3 x4
  have C5 := own_el x 0 W3.heap.size W3 Ab cb Ak ck (by omega) (Nat.le_refl _) ((hin3.out.keep fun p hp => hb33.cell (by have hp' : p.block < w2.heap.size := hp; omega)).more fun b hb => by omega)
  unfold elV at C5
  refine C5.mono ?_
  rintro en w4 ⟨N, Ak', K', ck', rfl, _, hok, hfull, hb4⟩
  have hN : N < 30000 := hfull hsm (by omega)
  obtain ⟨rfl, hsl, _, _⟩ := hok hN
  have hs4 := hb4.size
  have hB4 : Below w.heap.size w w4 := hBW3.trans (hb4.mono (by omega))
  have hY4 : w4.heap[w3.heap.size]? = some (.cells #[.int .i64 x.c, .bool x.m, .int .i64 x.n, .slice Ab3 x.b.length cb3, .slice Ak3 x.kids.length ck3] 30 (0, 0)) := by
    rw [hb4.block _ (by omega)]; exact hY
  have ho4 : ElIn w4 (· < w4.heap.size) x Ab cb Ak' ck' := by
    refine ⟨?_, hsl.more fun b hb => by rcases hb with hb | hb <;> omega⟩
    refine (hin3.out.b.keep fun p hp => ?_).more fun b hb => by have := hsz2; omega
    have hp' : p.block < w2.heap.size := hp
    rw [hb4.cell (by omega), hb33.cell (by omega)]
  have hy4 : ElIn w4 (· < w4.heap.size) x Ab3 cb3 Ak3 ck3 := by
    refine (hy3.out.keep fun p hp => ?_).more fun b hb => by omega
    have hp' : p.block < w3.heap.size := hp
    rw [hb4.cell (by omega), hb33.cell hp']
  clear hok hfull
  replace hsl := Lib.hid hsl
  replace hY := Lib.hid hY
  replace hY4 := Lib.hid hY4
  replace hBW3 := Lib.hid hBW3
  replace hb33 := Lib.hid hb33
  replace hb4 := Lib.hid hb4
  replace hB4 := Lib.hid hB4
  replace ho4 := Lib.hid ho4
  replace hy4 := Lib.hid hy4
  replace hsz2 := Lib.hid hsz2
  replace hsz3 := Lib.hid hsz3
  clear C5
  have kc2 : ∀ ob : Obj, (convert 24 24 (.slice (some ⟨w4.heap.size + 1, 0, none⟩) 5 5)).run Try.prog ((w4.alloc ob).alloc (.cells #[.int .u8 48, .int .u8 3, .int .u8 1, .int .u8 1, .int .u8 255] 5)) =
      .ok (.slice (some ⟨w4.heap.size + 1, 0, none⟩) 5 5) ((w4.alloc ob).alloc (.cells #[.int .u8 48, .int .u8 3, .int .u8 1, .int .u8 1, .int .u8 255] 5 (5, 6))) := fun ob => by
    have := Lib.run_convert_bytes_const (P := Try.prog) (w4.alloc ob) 24 5 #[.int .u8 48, .int .u8 3, .int .u8 1, .int .u8 1, .int .u8 255] 5 5 Try.underlying24 Try.underlying5
    rw [show (w4.alloc ob).heap.size = w4.heap.size + 1 by simp] at this
    exact this
  go_wp2_with fail
  have hns : ((w4 : World).alloc (.cells #[.int .i64 x.c, .bool x.m, .int .i64 x.n, .slice Ab x.b.length cb, .slice Ak' x.kids.length ck'] 30)).heap.size = w4.heap.size + 1 := by simp
  obtain ⟨W4, hW4⟩ : ∃ W4, W4 = (w4.alloc (.cells #[.int .i64 x.c, .bool x.m, .int .i64 x.n, .slice Ab x.b.length cb, .slice Ak' x.kids.length ck'] 30)).alloc (.cells #[.int .u8 48, .int .u8 3, .int .u8 1, .int .u8 1, .int .u8 255] 5 (5, 6)) := ⟨_, rfl⟩
  have hO : W4.heap[w4.heap.size]? = some (.cells #[.int .i64 x.c, .bool x.m, .int .i64 x.n, .slice Ab x.b.length cb, .slice Ak' x.kids.length ck'] 30 (0, 0)) := by
    rw [hW4, Below.heap_alloc _ _ _ (by simp)]; exact heap_alloc_new w4 _
  have hZ : W4.heap[w4.heap.size + 1]? = some (.cells #[.int .u8 48, .int .u8 3, .int .u8 1, .int .u8 1, .int .u8 255] 5 (5, 6)) := by
    rw [hW4]; exact heap_alloc_new (w4.alloc _) _ |> (by simpa using ·)
  have hb44 : Below w4.heap.size w4 W4 := by rw [hW4]; go_grown
  have hsz4 : W4.heap.size = w4.heap.size + 2 := by rw [hW4]; simp
  rw [← hW4]
  clear hW4 hns
  refine (C6.out W4 _ hZ).mono ?_
  rintro en w5 ⟨Ab5, cb5, Ak5, ck5, rfl, h5, hb5⟩
  unfold elV
  dsimp only []
  have hs5 := hb5.size
  have hO5 : ∀ ob : Obj, (w5.alloc ob).heap[w4.heap.size]? = some (.cells #[.int .i64 x.c, .bool x.m, .int .i64 x.n, .slice Ab x.b.length cb, .slice Ak' x.kids.length ck'] 30 (0, 0)) := fun ob => by
    rw [Below.heap_alloc _ _ _ (by omega), hb5.block _ (by omega)]; exact hO
  have hY5 : ∀ ob : Obj, (w5.alloc ob).heap[w3.heap.size]? = some (.cells #[.int .i64 x.c, .bool x.m, .int .i64 x.n, .slice Ab3 x.b.length cb3, .slice Ak3 x.kids.length ck3] 30 (0, 0)) := fun ob => by
    have := hsz3.out
    rw [Below.heap_alloc _ _ _ (by omega), hb5.block _ (by omega), hb44.block _ (by omega)]; exact hY4.out
  obtain ⟨o0, o1, o2, o3, o4, _⟩ := cells5A hO5
  obtain ⟨y0, y1, y2, y3, y4, _⟩ := cells5A hY5
  have C7 : ∀ ob : Obj, Calls Try.prog 13 #[.agg #[.int .i64 x.c, .bool x.m, .int .i64 x.n, .slice Ab x.b.length cb, .slice Ak' x.kids.length ck'], .agg #[.int .i64 x.c, .bool x.m, .int .i64 x.n, .slice Ab3 x.b.length cb3, .slice Ak3 x.kids.length ck3]] (w5.alloc ob) fun en w' => en = .returned (.bool true) ∧ Below (w5.heap.size + 1) (w5.alloc ob) w' := fun ob => by
    have kk : ∀ p : Addr, p.block < w4.heap.size → (w5.alloc ob).cell? p = w4.cell? p := fun p hp => by
      rw [World.cell?_alloc_lt _ _ _ (by omega), hb5.cell (by omega), hb44.cell hp]
    have := refSame_el x x (w5.alloc ob) Ab cb Ak' ck' Ab3 cb3 Ak3 ck3 ((ho4.out.keep fun p hp => kk p hp).more fun b hb => by simp; omega) ((hy4.out.keep fun p hp => kk p hp).more fun b hb => by simp; omega) hbx hbx
    rw [El.same_self] at this
    simpa [elV] using this
  have hB5 : Hid (∀ ob : Obj, Below w.heap.size w (w5.alloc ob)) := Lib.hid fun ob => ((hB4.out.trans (hb44.mono (by have := hB4.out.size; omega))).trans (hb5.mono (by have := hB4.out.size; omega))).alloc (by have := hB4.out.size; omega) ob
  have hs5' : w.heap.size ≤ w5.heap.size + 1 := by have := hB4.out.size; omega
  have hk5 : ((5 : Nat) : Int) = 5 := rfl
  replace C7 := Lib.hid C7
  replace hO := Lib.hid hO
  replace hZ := Lib.hid hZ
  replace hO5 := Lib.hid hO5
  replace hY5 := Lib.hid hY5
  replace hb44 := Lib.hid hb44
  replace hb5 := Lib.hid hb5
  replace h5 := Lib.hid h5
  replace hsz4 := Lib.hid hsz4
  replace ho4 := Lib.hid ho4
  clear C1 C2 C3 C4 C6
  go_wp2_with fail
  refine (C7.out _).mono ?_
  rintro en w6 ⟨rfl, hb6⟩
  dsimp only []
  have h6 : w6.cell? ⟨w5.heap.size, 4, none⟩ = some (.slice Ak5 1 ck5) := (hb6.cell (p := ⟨w5.heap.size, 4, none⟩) (by show w5.heap.size < _; omega)).trans (cell_of_row _ _ _ _ _ _ (heap_alloc_new w5 _))
  have hB6 := Lib.hid ((hB5.out _).trans (hb6.mono hs5'))
  replace hb6 := Lib.hid hb6
  clear o0 o1 o2 o3 o4 y0 y1 y2 y3 y4
  go_wp2_with fail
  go_ret
  exact ⟨rfl, hB6.out⟩

set_option maxRecDepth 8000 in
set_option maxHeartbeats 1600000 in
theorem parses_cut (A : Option Addr) (cp L : Nat) (l : List Nat) (w : World) (hs : Src w w.heap.size A cp l) (hcp : cp ≤ 9223372036854775807) (hby : ∀ x ∈ l, x < 256) (hL : l.length = 20000) (hl : 20000 < L) (hLc : L ≤ cp) :
    Calls Try.prog 4 #[.slice A L cp] w fun e w' => e = .returned (.bool true) ∧ Below w.heap.size w w' := by
  have C1 : ∀ w', Below w.heap.size w w' → Calls Try.prog 15 #[.slice A 20000 cp] w' fun e w'' => e = .returned (.tuple #[.int .i64 ((hdT l).1 : Int), .int .i64 ((hdT l).2.2 : Int)]) ∧ Below w'.heap.size w' w'' := fun w' hb => by
    have := need_any A cp l w' w.heap.size (hs.below hb) hb.size (by omega) hcp hby
    rwa [hL] at this
  have C2 : ∀ w', Below w.heap.size w w' → Calls Try.prog 16 #[.slice A 20000 cp] w' fun e w'' => e = .returned (.tuple #[.int .i64 ((hdT l).1 : Int), .int .i64 ((hdT l).2.2 : Int)]) ∧ w' = w'' := fun w' hb => by
    have := refNeed_any A cp l w' w.heap.size (hs.below hb) (by omega) hcp hby
    rwa [hL] at this
  have C3 : ∀ w', Below w.heap.size w w' → Calls Try.prog 17 #[.slice A 20000 cp] w' (ParQ (parP l) w') := fun w' hb => by
    have := par_any A cp l w' w.heap.size (hs.below hb) hb.size (by omega) hcp hby
    rwa [hL] at this
  have C4 : ∀ w', Below w.heap.size w w' → Calls Try.prog 18 #[.slice A 20000 cp] w' (ParPost (parP l) w.heap.size w') := fun w' hb => by
    have := refParse_any A cp l w' w.heap.size (hs.below hb) hb.size (by omega) hcp hby
    rwa [hL] at this
  have C6 : ∀ (w' : World) (b : Nat), w'.heap[b]? = some (.cells #[.int .u8 48, .int .u8 3, .int .u8 1, .int .u8 1, .int .u8 255] 5 (5, 6)) → Calls Try.prog 17 #[.slice (some ⟨b, 0, none⟩) 5 5] w' (ParQ (⟨0, true, 16, [], .cons 0 false 1 [255] .nil .nil⟩, 5, 0) w') := fun w' b hb => by
    have hsrc : Src w' w'.heap.size (some ⟨b, 0, none⟩) 5 [48, 3, 1, 1, 255] := ⟨Nat.le_refl _, (fun e => by cases e), fun ad e => by
      injection e with e
      subst e
      refine ⟨fun _ => (Array.getElem?_eq_some_iff.1 hb).1, fun j n hj => ?_⟩
      rw [add_plain2, cell_of_row _ _ _ _ _ _ hb]
      rcases j with _ | _ | _ | _ | _ | j
      all_goals first | (simp at hj ⊢; omega) | (simp at hj)⟩
    have := par_any (some ⟨b, 0, none⟩) 5 [48, 3, 1, 1, 255] w' w'.heap.size hsrc (Nat.le_refl _) (by simp) (by omega) (by decide)
    rw [parP_one] at this
    exact this
  obtain ⟨hsm, hdp⟩ := parP_small l hby
  have hbx := parP_byt l hby
  obtain ⟨⟨al, fr, er⟩, hq⟩ : ∃ q, q = hdT l := ⟨_, rfl⟩
  obtain ⟨⟨x, n, e0⟩, hq2⟩ : ∃ q, q = parP l := ⟨_, rfl⟩
  rw [← hq] at C1 C2
  rw [← hq2] at C3 C4 hsm hdp hbx
  simp only [] at C1 C2 C3 C4 hsm hdp hbx
  replace C1 := Lib.hid C1
  replace C2 := Lib.hid C2
  replace C3 := Lib.hid C3
  replace C4 := Lib.hid C4
  replace C6 := Lib.hid C6
  have k0 : decide (20000 < (L : Int)) = true := decide_eq_true (by omega)
  have hc0 : (20000 : Int) ≤ (cp : Int) := by omega
  clear hq hq2 hs hL hby
  have g1 : ((al : Int) == (al : Int)) = true := beq_self_eq_true _
  have g2 : ((er : Int) == (er : Int)) = true := beq_self_eq_true _
  have g3 : ((n : Int) == (n : Int)) = true := beq_self_eq_true _
  have g4 : ((e0 : Int) == (e0 : Int)) = true := beq_self_eq_true _
  go_enter Try.func4, Try.ntmps4
  go_wp2_with fail
  refine (C1.out _ (Below.refl _ _)).mono ?_
  rintro en w1 ⟨rfl, hb1⟩
  dsimp only []
  go_wp2_with fail
  refine (C2.out _ hb1).mono ?_
  rintro en w1' ⟨rfl, rfl⟩
  dsimp only []
  replace hb1 := Lib.hid hb1
  go_wp2_with fail
  refine (C3.out _ hb1.out).mono ?_
  rintro en w2 ⟨Ab, cb, Ak, ck, rfl, hin, hb2⟩
  unfold elV
  dsimp only []
  have hB2 : Below w.heap.size w w2 := hb1.out.trans (hb2.mono hb1.out.size)
  have hs2 := hB2.size
  have hin2 : ElIn w2 (· < w2.heap.size) x Ab cb Ak ck := hin.more fun b hb => hb.2.lt
  replace hB2 := Lib.hid hB2
  replace hb2 := Lib.hid hb2
  replace hin := Lib.hid hin
  replace hin2 := Lib.hid hin2
  go_wp2_with fail
  obtain ⟨W2, hW2⟩ : ∃ W2, W2 = w2.alloc (.cells #[.int .i64 x.c, .bool x.m, .int .i64 x.n, .slice Ab x.b.length cb, .slice Ak x.kids.length ck] 27) := ⟨_, rfl⟩
  have hX2 : W2.heap[w2.heap.size]? = some (.cells #[.int .i64 x.c, .bool x.m, .int .i64 x.n, .slice Ab x.b.length cb, .slice Ak x.kids.length ck] 27 (0, 0)) := by rw [hW2]; exact heap_alloc_new w2 _
  have hBW2 : Below w.heap.size w W2 := by rw [hW2]; exact hB2.out.alloc hs2 _
  have hb22 : Below w2.heap.size w2 W2 := by rw [hW2]; exact (Below.refl _ _).alloc (Nat.le_refl _) _
  have hsz2 : W2.heap.size = w2.heap.size + 1 := by rw [hW2]; simp
  rw [← hW2]
  clear hW2
  refine (C4.out _ hBW2).mono ?_
  rintro en w3 ⟨Ab3, cb3, Ak3, ck3, rfl, hy, hb3⟩
  unfold elV
  dsimp only []
  have hs3 := hb3.size
  have hX3 : ∀ ob : Obj, (w3.alloc ob).heap[w2.heap.size]? = some (.cells #[.int .i64 x.c, .bool x.m, .int .i64 x.n, .slice Ab x.b.length cb, .slice Ak x.kids.length ck] 27 (0, 0)) := fun ob => by
    rw [Below.heap_alloc _ _ _ (by omega), hb3.block _ (by omega)]; exact hX2
  obtain ⟨x0, x1, x2, x3, x4, _⟩ := cells5A hX3
  have hB3 : Below w.heap.size w w3 := hBW2.trans (hb3.mono (by omega))
  have hin3 : ElIn w3 (· < w2.heap.size) x Ab cb Ak ck := hin2.out.keep fun p hp => by
    have hp' : p.block < w2.heap.size := hp
    rw [hb3.cell (by omega), hb22.cell hp']
  have hy3 : ElIn w3 (· < w3.heap.size) x Ab3 cb3 Ak3 ck3 := hy.more fun b hb => by rcases hb with hb | hb <;> omega
  replace hX2 := Lib.hid hX2
  replace hX3 := Lib.hid hX3
  replace hB3 := Lib.hid hB3
  replace hb3 := Lib.hid hb3
  replace hb22 := Lib.hid hb22
  replace hBW2 := Lib.hid hBW2
  replace hin3 := Lib.hid hin3
  replace hy3 := Lib.hid hy3
  replace hy := Lib.hid hy
  go_wp2_with fail
  obtain ⟨W3, hW3⟩ : ∃ W3, W3 = w3.alloc (.cells #[.int .i64 x.c, .bool x.m, .int .i64 x.n, .slice Ab3 x.b.length cb3, .slice Ak3 x.kids.length ck3] 30) := ⟨_, rfl⟩
  have hY : W3.heap[w3.heap.size]? = some (.cells #[.int .i64 x.c, .bool x.m, .int .i64 x.n, .slice Ab3 x.b.length cb3, .slice Ak3 x.kids.length ck3] 30 (0, 0)) := by rw [hW3]; exact heap_alloc_new w3 _
  have hBW3 : Below w.heap.size w W3 := by rw [hW3]; exact hB3.out.alloc (by omega) _
  have hb33 : Below w3.heap.size w3 W3 := by rw [hW3]; exact (Below.refl _ _).alloc (Nat.le_refl _) _
  have hsz3 : W3.heap.size = w3.heap.size + 1 := by rw [hW3]; simp
  rw [← hW3]
  clear hW3 x0 x1 x2 x3 x4
  have C5 := own_el x 0 W3.heap.size W3 Ab cb Ak ck (by omega) (Nat.le_refl _) ((hin3.out.keep fun p hp => hb33.cell (by have hp' : p.block < w2.heap.size := hp; omega)).more fun b hb => by omega)
  unfold elV at C5
  refine C5.mono ?_
  rintro en w4 ⟨N, Ak', K', ck', rfl, _, hok, hfull, hb4⟩
  have hN : N < 30000 := hfull hsm (by omega)
  obtain ⟨rfl, hsl, _, _⟩ := hok hN
  have hs4 := hb4.size
  have hB4 : Below w.heap.size w w4 := hBW3.trans (hb4.mono (by omega))
  have hY4 : w4.heap[w3.heap.size]? = some (.cells #[.int .i64 x.c, .bool x.m, .int .i64 x.n, .slice Ab3 x.b.length cb3, .slice Ak3 x.kids.length ck3] 30 (0, 0)) := by
    rw [hb4.block _ (by omega)]; exact hY
  have ho4 : ElIn w4 (· < w4.heap.size) x Ab cb Ak' ck' := by
    refine ⟨?_, hsl.more fun b hb => by rcases hb with hb | hb <;> omega⟩
    refine (hin3.out.b.keep fun p hp => ?_).more fun b hb => by have := hsz2; omega
    have hp' : p.block < w2.heap.size := hp
    rw [hb4.cell (by omega), hb33.cell (by omega)]
  have hy4 : ElIn w4 (· < w4.heap.size) x Ab3 cb3 Ak3 ck3 := by
    refine (hy3.out.keep fun p hp => ?_).more fun b hb => by omega
    have hp' : p.block < w3.heap.size := hp
    rw [hb4.cell (by omega), hb33.cell hp']
  clear hok hfull
  replace hsl := Lib.hid hsl
  replace hY := Lib.hid hY
  replace hY4 := Lib.hid hY4
  replace hBW3 := Lib.hid hBW3
  replace hb33 := Lib.hid hb33
  replace hb4 := Lib.hid hb4
  replace hB4 := Lib.hid hB4
  replace ho4 := Lib.hid ho4
  replace hy4 := Lib.hid hy4
  replace hsz2 := Lib.hid hsz2
  replace hsz3 := Lib.hid hsz3
  clear C5
  have kc2 : ∀ ob : Obj, (convert 24 24 (.slice (some ⟨w4.heap.size + 1, 0, none⟩) 5 5)).run Try.prog ((w4.alloc ob).alloc (.cells #[.int .u8 48, .int .u8 3, .int .u8 1, .int .u8 1, .int .u8 255] 5)) =
      .ok (.slice (some ⟨w4.heap.size + 1, 0, none⟩) 5 5) ((w4.alloc ob).alloc (.cells #[.int .u8 48, .int .u8 3, .int .u8 1, .int .u8 1, .int .u8 255] 5 (5, 6))) := fun ob => by
    have := Lib.run_convert_bytes_const (P := Try.prog) (w4.alloc ob) 24 5 #[.int .u8 48, .int .u8 3, .int .u8 1, .int .u8 1, .int .u8 255] 5 5 Try.underlying24 Try.underlying5
    rw [show (w4.alloc ob).heap.size = w4.heap.size + 1 by simp] at this
    exact this
  go_wp2_with fail
  have hns : ((w4 : World).alloc (.cells #[.int .i64 x.c, .bool x.m, .int .i64 x.n, .slice Ab x.b.length cb, .slice Ak' x.kids.length ck'] 30)).heap.size = w4.heap.size + 1 := by simp
  obtain ⟨W4, hW4⟩ : ∃ W4, W4 = (w4.alloc (.cells #[.int .i64 x.c, .bool x.m, .int .i64 x.n, .slice Ab x.b.length cb, .slice Ak' x.kids.length ck'] 30)).alloc (.cells #[.int .u8 48, .int .u8 3, .int .u8 1, .int .u8 1, .int .u8 255] 5 (5, 6)) := ⟨_, rfl⟩
  have hO : W4.heap[w4.heap.size]? = some (.cells #[.int .i64 x.c, .bool x.m, .int .i64 x.n, .slice Ab x.b.length cb, .slice Ak' x.kids.length ck'] 30 (0, 0)) := by
    rw [hW4, Below.heap_alloc _ _ _ (by simp)]; exact heap_alloc_new w4 _
  have hZ : W4.heap[w4.heap.size + 1]? = some (.cells #[.int .u8 48, .int .u8 3, .int .u8 1, .int .u8 1, .int .u8 255] 5 (5, 6)) := by
    rw [hW4]; exact heap_alloc_new (w4.alloc _) _ |> (by simpa using ·)
  have hb44 : Below w4.heap.size w4 W4 := by rw [hW4]; go_grown
  have hsz4 : W4.heap.size = w4.heap.size + 2 := by rw [hW4]; simp
  rw [← hW4]
  clear hW4 hns
  refine (C6.out W4 _ hZ).mono ?_
  rintro en w5 ⟨Ab5, cb5, Ak5, ck5, rfl, h5, hb5⟩
  unfold elV
  dsimp only []
  have hs5 := hb5.size
  have hO5 : ∀ ob : Obj, (w5.alloc ob).heap[w4.heap.size]? = some (.cells #[.int .i64 x.c, .bool x.m, .int .i64 x.n, .slice Ab x.b.length cb, .slice Ak' x.kids.length ck'] 30 (0, 0)) := fun ob => by
    rw [Below.heap_alloc _ _ _ (by omega), hb5.block _ (by omega)]; exact hO
  have hY5 : ∀ ob : Obj, (w5.alloc ob).heap[w3.heap.size]? = some (.cells #[.int .i64 x.c, .bool x.m, .int .i64 x.n, .slice Ab3 x.b.length cb3, .slice Ak3 x.kids.length ck3] 30 (0, 0)) := fun ob => by
    have := hsz3.out
    rw [Below.heap_alloc _ _ _ (by omega), hb5.block _ (by omega), hb44.block _ (by omega)]; exact hY4.out
  obtain ⟨o0, o1, o2, o3, o4, _⟩ := cells5A hO5
  obtain ⟨y0, y1, y2, y3, y4, _⟩ := cells5A hY5
  have C7 : ∀ ob : Obj, Calls Try.prog 13 #[.agg #[.int .i64 x.c, .bool x.m, .int .i64 x.n, .slice Ab x.b.length cb, .slice Ak' x.kids.length ck'], .agg #[.int .i64 x.c, .bool x.m, .int .i64 x.n, .slice Ab3 x.b.length cb3, .slice Ak3 x.kids.length ck3]] (w5.alloc ob) fun en w' => en = .returned (.bool true) ∧ Below (w5.heap.size + 1) (w5.alloc ob) w' := fun ob => by
    have kk : ∀ p : Addr, p.block < w4.heap.size → (w5.alloc ob).cell? p = w4.cell? p := fun p hp => by
      rw [World.cell?_alloc_lt _ _ _ (by omega), hb5.cell (by omega), hb44.cell hp]
    have := refSame_el x x (w5.alloc ob) Ab cb Ak' ck' Ab3 cb3 Ak3 ck3 ((ho4.out.keep fun p hp => kk p hp).more fun b hb => by simp; omega) ((hy4.out.keep fun p hp => kk p hp).more fun b hb => by simp; omega) hbx hbx
    rw [El.same_self] at this
    simpa [elV] using this
  have hB5 : Hid (∀ ob : Obj, Below w.heap.size w (w5.alloc ob)) := Lib.hid fun ob => ((hB4.out.trans (hb44.mono (by have := hB4.out.size; omega))).trans (hb5.mono (by have := hB4.out.size; omega))).alloc (by have := hB4.out.size; omega) ob
  have hs5' : w.heap.size ≤ w5.heap.size + 1 := by have := hB4.out.size; omega
  have hk5 : ((5 : Nat) : Int) = 5 := rfl
  replace C7 := Lib.hid C7
  replace hO := Lib.hid hO
  replace hZ := Lib.hid hZ
  replace hO5 := Lib.hid hO5
  replace hY5 := Lib.hid hY5
  replace hb44 := Lib.hid hb44
  replace hb5 := Lib.hid hb5
  replace h5 := Lib.hid h5
  replace hsz4 := Lib.hid hsz4
  replace ho4 := Lib.hid ho4
  clear C1 C2 C3 C4 C6
  go_wp2_with fail
  refine (C7.out _).mono ?_
  rintro en w6 ⟨rfl, hb6⟩
  dsimp only []
  have h6 : w6.cell? ⟨w5.heap.size, 4, none⟩ = some (.slice Ak5 1 ck5) := (hb6.cell (p := ⟨w5.heap.size, 4, none⟩) (by show w5.heap.size < _; omega)).trans (cell_of_row _ _ _ _ _ _ (heap_alloc_new w5 _))
  have hB6 := Lib.hid ((hB5.out _).trans (hb6.mono hs5'))
  replace hb6 := Lib.hid hb6
  clear o0 o1 o2 o3 o4 y0 y1 y2 y3 y4
  go_wp2_with fail
  go_ret
  exact ⟨rfl, hB6.out⟩
end Go.Proofs.Ytgdoepkoakpnbaa
