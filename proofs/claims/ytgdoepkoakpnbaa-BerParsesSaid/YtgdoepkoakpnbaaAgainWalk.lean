/-
  The walk of BerAgain over what the program's functions answer.
-/
import Derived.Test.YtgdoepkoakpnbaaBerOk
import Derived.Test.YtgdoepkoakpnbaaEltPut
import Derived.Test.YtgdoepkoakpnbaaEltOpenS
namespace Go.Proofs.Ytgdoepkoakpnbaa
open Go.RowKit

theorem parse_byt : ∀ (f : Nat), (∀ (l : List Nat) (d : Nat), (∀ x ∈ l, x < 256) → (inP f l d).1.byt) ∧ (∀ (l : List Nat) (d : Nat), (∀ x ∈ l, x < 256) → ∀ k ∈ (rowP f l d).1, k.byt) := by
  have z : el0.byt := ⟨(fun x hx => by cases hx), trivial⟩
  intro f
  induction f with
  | zero =>
    constructor
    · intro l d _
      rw [inP]
      exact z
    · intro l d _ k hk
      rw [rowP] at hk
      cases hk
  | succ f ih =>
    obtain ⟨ih1, ih2⟩ := ih
    constructor
    · intro l d hb
      have hbi : ∀ x ∈ (l.take (hdT l).1).drop (hdT l).2.1, x < 256 := fun x hx => hb x (List.mem_of_mem_take (List.mem_of_mem_drop hx))
      rw [inP]
      split
      · exact ⟨hbi, trivial⟩
      · split
        · exact z
        · exact ⟨(fun x hx => by cases hx), byt_of _ (ih2 _ d hbi)⟩
    · intro l d hb
      rw [rowP]
      repeat' split
      all_goals first | (intro k hk; cases hk; done) | skip
      intro k hk
      rcases List.mem_cons.1 hk with rfl | hk
      · exact ih1 _ _ fun x hx => hb x (List.mem_of_mem_take hx)
      · exact ih2 _ _ (fun x hx => hb x (List.mem_of_mem_drop hx)) k hk
theorem parP_byt (l : List Nat) (hb : ∀ x ∈ l, x < 256) : (parP l).1.byt := by
  have z : el0.byt := ⟨(fun x hx => by cases hx), trivial⟩
  unfold parP
  repeat' split
  all_goals first | exact z | skip
  exact (parse_byt _).1 _ _ fun x hx => hb x (List.mem_of_mem_take hx)
theorem El.same_self (e : El) : e.same e = true := by
  unfold El.same
  simp [Fo.same_iff]

/-- What the program's functions answer. -/
structure BerHyp : Prop where
  parse : ∀ (A : Option Addr) (cp : Nat) (l : List Nat) (w : World), Src w w.heap.size A cp l → l.length ≤ 1048600 → cp ≤ 9223372036854775807 → (∀ x ∈ l, x < 256) →
    Calls Try.prog 17 #[.slice A l.length cp] w (ParPost (parP l) w.heap.size w)
  put : ∀ (e : El) (w : World) (Ab : Option Addr) (cb : Nat) (Ak : Option Addr) (ck : Nat), ElIn w (· < w.heap.size) e Ab cb Ak ck → e.byt → e.deep ≤ 1000000 → (e.right = true → e.enc.length ≤ 1000000) →
    Calls Try.prog 10 #[elV e Ab cb Ak ck] w fun en w' => ∃ A' c', en = .returned (.tuple #[.slice A' e.put.1.length c', .int .i64 (e.put.2 : Int)]) ∧ Src w' w'.heap.size A' c' e.put.1 ∧ c' ≤ 9223372036854775807 ∧ Below w.heap.size w w'
  same : ∀ (e f : El) (w : World) (Ab : Option Addr) (cb : Nat) (Ak : Option Addr) (ck : Nat) (Ab' : Option Addr) (cb' : Nat) (Ak' : Option Addr) (ck' : Nat),
    ElIn w (· < w.heap.size) e Ab cb Ak ck → ElIn w (· < w.heap.size) f Ab' cb' Ak' ck' → e.byt → f.byt →
    Calls Try.prog 12 #[elV e Ab cb Ak ck, elV f Ab' cb' Ak' ck'] w fun en w' => en = .returned (.bool (e.same f)) ∧ Below w.heap.size w w'

set_option maxRecDepth 8000 in
set_option maxHeartbeats 800000 in
theorem again_yes (H : BerHyp) (A : Option Addr) (cp L : Nat) (l : List Nat) (w : World) (hs : Src w w.heap.size A cp l) (hcp : cp ≤ 9223372036854775807) (hby : ∀ x ∈ l, x < 256) (hL : L = l.length) (hl : L ≤ 20000) (he : (parP l).2.2 = 0) (henc : ∀ x ∈ (parP l).1.enc, x < 256) :
    Calls Try.prog 6 #[.slice A L cp] w fun e w' => e = .returned (.bool true) ∧ Below w.heap.size w w' := by
  obtain ⟨h1, h2, h3, h4, h5⟩ := parP_ok l hby he
  have hbx := parP_byt l hby
  have CP := H.parse A cp l w hs (by omega) hcp hby
  obtain ⟨⟨x, n, e0⟩, hq⟩ : ∃ q, q = parP l := ⟨_, rfl⟩
  rw [← hq] at h1 h2 h3 h4 h5 hbx CP he henc
  simp only [] at h1 h2 h3 h4 h5 hbx CP he henc
  subst he
  have hput : x.put = (x.enc, 0) := by
    unfold El.put
    rw [if_neg (by simp [h1]), if_neg (by omega), if_neg (by omega)]
  have hback : parP x.enc = (x, x.enc.length, 0) := by
    have := parP_back x h1 h2 (by omega) []
    rwa [List.append_nil] at this
  rw [← hL] at CP h4
  replace CP := Lib.hid CP
  have H' := Lib.hid H
  have k0 : decide (20000 < (L : Int)) = false := decide_eq_false (by omega)
  clear hq hs hL
  go_enter Try.func6, Try.ntmps6
  go_wp2_with fail
  refine CP.out.mono ?_
  rintro en w1 ⟨Ab, cb, Ak, ck, rfl, hin, hb1⟩
  unfold elV
  dsimp only []
  have hs1 := hb1.size
  have hin2 : ∀ ob : Obj, ElIn (w1.alloc ob) (· < w1.heap.size) x Ab cb Ak ck := fun ob => (hin.keep fun p hp => World.cell?_alloc_lt _ _ _ (by rcases hp with hp | hp <;> omega)).more fun b hb => by rcases hb with hb | hb <;> omega
  have CU : ∀ ob : Obj, Calls Try.prog 10 #[.agg #[.int .i64 x.c, .bool x.m, .int .i64 x.n, .slice Ab x.b.length cb, .slice Ak x.kids.length ck]] (w1.alloc ob) fun en w' => ∃ A' c', en = .returned (.tuple #[.slice A' x.enc.length c', .int .i64 0]) ∧ Src w' w'.heap.size A' c' x.enc ∧ c' ≤ 9223372036854775807 ∧ Below (w1.heap.size + 1) (w1.alloc ob) w' := by
    intro ob
    have := H'.out.put x (w1.alloc ob) Ab cb Ak ck ((hin2 ob).more fun b hb => by simp; omega) hbx (by omega) (by omega)
    rw [hput] at this
    unfold elV at this
    simpa using this
  replace hb1 := Lib.hid hb1
  replace hin := Lib.hid hin
  replace hin2 := Lib.hid hin2
  replace CU := Lib.hid CU
  go_wp2_with fail
  refine (CU.out _).mono ?_
  rintro en w2 ⟨A2, c2, rfl, hs2, hc2, hb2⟩
  dsimp only []
  have hsz2 := hb2.size
  have hw1 : (w1.alloc (.cells #[.int .i64 x.c, .bool x.m, .int .i64 x.n, .slice Ab x.b.length cb, .slice Ak x.kids.length ck] 27)).heap.size = w1.heap.size + 1 := by simp
  have CV := H'.out.parse A2 c2 x.enc w2 hs2 (by omega) hc2 henc
  rw [hback] at CV
  have hbox : w2.heap[w1.heap.size]? = some (.cells #[.int .i64 x.c, .bool x.m, .int .i64 x.n, .slice Ab x.b.length cb, .slice Ak x.kids.length ck] 27 (0, 0)) := (hb2.block _ (by omega)).trans (heap_alloc_new w1 _)
  have hsz2' : w1.heap.size + 1 ≤ w2.heap.size := by omega
  have hin3 : ElIn w2 (· < w1.heap.size) x Ab cb Ak ck := (hin2.out _).keep fun p hp => hb2.cell (by omega)
  have hB2 : Below w.heap.size w w2 := (hb1.out.alloc hs1 _).trans (hb2.mono (by omega))
  replace hbox := Lib.hid hbox
  replace CV := Lib.hid CV
  replace hs2 := Lib.hid hs2
  replace hb2 := Lib.hid hb2
  replace hB2 := Lib.hid hB2
  replace hin3 := Lib.hid hin3
  clear hin2 CU CP hw1 hsz2
  go_wp2_with fail
  refine CV.out.mono ?_
  rintro en w3 ⟨Ab3, cb3, Ak3, ck3, rfl, hy, hb3⟩
  unfold elV
  dsimp only []
  have hsz3 := hb3.size
  have hbox3 : ∀ ob : Obj, (w3.alloc ob).heap[w1.heap.size]? = some (.cells #[.int .i64 x.c, .bool x.m, .int .i64 x.n, .slice Ab x.b.length cb, .slice Ak x.kids.length ck] 27 (0, 0)) := fun ob => by
    rw [Below.heap_alloc _ _ _ (by omega), hb3.block _ (by omega)]
    exact hbox.out
  have x0 : ∀ ob : Obj, (w3.alloc ob).cell? ⟨w1.heap.size, 0, none⟩ = some (.int .i64 x.c) := fun ob => cell_of_row _ _ _ _ _ _ (hbox3 ob)
  have x1 : ∀ ob : Obj, (w3.alloc ob).cell? ⟨w1.heap.size, 1, none⟩ = some (.bool x.m) := fun ob => cell_of_row _ _ _ _ _ _ (hbox3 ob)
  have x2 : ∀ ob : Obj, (w3.alloc ob).cell? ⟨w1.heap.size, 2, none⟩ = some (.int .i64 x.n) := fun ob => cell_of_row _ _ _ _ _ _ (hbox3 ob)
  have x3 : ∀ ob : Obj, (w3.alloc ob).cell? ⟨w1.heap.size, 3, none⟩ = some (.slice Ab x.b.length cb) := fun ob => cell_of_row _ _ _ _ _ _ (hbox3 ob)
  have x4 : ∀ ob : Obj, (w3.alloc ob).cell? ⟨w1.heap.size, 4, none⟩ = some (.slice Ak x.kids.length ck) := fun ob => cell_of_row _ _ _ _ _ _ (hbox3 ob)
  have CS : ∀ ob : Obj, Calls Try.prog 12 #[.agg #[.int .i64 x.c, .bool x.m, .int .i64 x.n, .slice Ab x.b.length cb, .slice Ak x.kids.length ck], .agg #[.int .i64 x.c, .bool x.m, .int .i64 x.n, .slice Ab3 x.b.length cb3, .slice Ak3 x.kids.length ck3]] (w3.alloc ob) fun en w' => en = .returned (.bool true) ∧ Below w.heap.size w w' := by
    intro ob
    have g := H'.out.same x x (w3.alloc ob) Ab cb Ak ck Ab3 cb3 Ak3 ck3
      ((hin3.out.keep fun p hp => by rw [World.cell?_alloc_lt _ _ _ (by omega), hb3.cell (by omega)]).more fun b hb => by simp; omega)
      ((hy.keep fun p hp => World.cell?_alloc_lt _ _ _ (by rcases hp with hp | hp <;> omega)).more fun b hb => by simp; rcases hb with hb | hb <;> omega) hbx hbx
    rw [El.same_self] at g
    refine g.mono ?_
    rintro en w4 ⟨h8, h9⟩
    exact ⟨h8, (hB2.out.trans ((hb3.mono (by omega)).alloc (by omega) ob)).trans (h9.mono (by simp; omega))⟩
  have k1 : decide ((n : Int) ≤ (L : Int)) = true := decide_eq_true (by omega)
  have k2 : decide ((x.enc.length : Int) ≤ (n : Int)) = true := decide_eq_true (by omega)
  replace CS := Lib.hid CS
  clear hbox3 CV
  go_wp2_with fail
  refine (CS.out _).mono ?_
  rintro en w4 ⟨rfl, hb4⟩
  dsimp only []
  replace hb4 := Lib.hid hb4
  go_wp2_with fail
  go_returns
  exact ⟨rfl, hb4.out⟩
theorem parP_err (l : List Nat) (h : (parP l).2.2 ≠ 0) : (parP l).2.1 = 0 := by
  unfold parP at h ⊢
  repeat' split
  all_goals first | rfl | skip
  rename_i h1 h2 h3
  rw [if_neg h1, if_neg h2, if_neg h3] at h
  exact absurd rfl h
theorem parP_147 : parP [4, 1, 7] = (⟨0, false, 4, [7], .nil⟩, 3, 0) := by rfl

set_option maxRecDepth 8000 in
set_option maxHeartbeats 800000 in
theorem again_no (H : BerHyp) (A : Option Addr) (cp L : Nat) (l : List Nat) (w : World) (hs : Src w w.heap.size A cp l) (hcp : cp ≤ 9223372036854775807) (hby : ∀ x ∈ l, x < 256) (hL : L = l.length) (hl : L ≤ 20000) (he : (parP l).2.2 ≠ 0) :
    Calls Try.prog 6 #[.slice A L cp] w fun e w' => e = .returned (.bool true) ∧ Below w.heap.size w w' := by
  have hn := parP_err l he
  have CP := H.parse A cp l w hs (by omega) hcp hby
  obtain ⟨⟨x, n, e0⟩, hq⟩ : ∃ q, q = parP l := ⟨_, rfl⟩
  rw [← hq] at CP he hn
  simp only [] at CP he hn
  subst hn
  rw [← hL] at CP
  replace CP := Lib.hid CP
  have H' := Lib.hid H
  have k0 : decide (20000 < (L : Int)) = false := decide_eq_false (by omega)
  have ke : ((e0 : Int) != 0) = true := by simp; omega
  clear hq hs hL
  go_enter Try.func6, Try.ntmps6
  go_wp2_with fail
  refine CP.out.mono ?_
  rintro en w1 ⟨Ab, cb, Ak, ck, rfl, hin, hb1⟩
  unfold elV
  dsimp only []
  have hs1 := hb1.size
  have CU : ∀ ob : Obj, Calls Try.prog 17 #[.slice (some ⟨w1.heap.size + 1, 0, none⟩) 3 3] ((w1.alloc ob).alloc (.cells #[.int .u8 4, .int .u8 1, .int .u8 7] 5)) (ParPost (⟨0, false, 4, [7], .nil⟩, 3, 0) (w1.heap.size + 2) ((w1.alloc ob).alloc (.cells #[.int .u8 4, .int .u8 1, .int .u8 7] 5))) := by
    intro ob
    have hsz : ((w1.alloc ob).alloc (.cells #[.int .u8 4, .int .u8 1, .int .u8 7] 5)).heap.size = w1.heap.size + 2 := by simp
    have := H'.out.parse (some ⟨w1.heap.size + 1, 0, none⟩) 3 [4, 1, 7] ((w1.alloc ob).alloc (.cells #[.int .u8 4, .int .u8 1, .int .u8 7] 5))
      ⟨Nat.le_refl _, (fun e => by cases e), fun ad e => by
        injection e with e
        subst e
        refine ⟨fun _ => by rw [hsz]; show w1.heap.size + 1 < _; omega, fun j n hj => ?_⟩
        rw [add_plain2]
        have hb : ((w1.alloc ob).alloc (.cells #[.int .u8 4, .int .u8 1, .int .u8 7] 5)).heap[w1.heap.size + 1]? = some (.cells #[.int .u8 4, .int .u8 1, .int .u8 7] 5 (0, 0)) := by
          have := heap_alloc_new (w1.alloc ob) (.cells #[.int .u8 4, .int .u8 1, .int .u8 7] 5)
          simpa using this
        rw [cell_of_row _ _ _ _ _ _ hb]
        rcases j with _ | _ | _ | j
        · simp at hj ⊢; omega
        · simp at hj ⊢; omega
        · simp at hj ⊢; omega
        · simp at hj⟩ (by simp) (by omega) (by decide)
    rw [parP_147, hsz] at this
    exact this
  replace hb1 := Lib.hid hb1
  replace hin := Lib.hid hin
  replace CU := Lib.hid CU
  go_wp2_with fail
  refine (CU.out _).mono ?_
  rintro en w2 ⟨Ab3, cb3, Ak3, ck3, rfl, hy, hb2⟩
  unfold elV
  dsimp only []
  have hsz : ((w1.alloc (.cells #[.int .i64 x.c, .bool x.m, .int .i64 x.n, .slice Ab x.b.length cb, .slice Ak x.kids.length ck] 27)).alloc (.cells #[.int .u8 4, .int .u8 1, .int .u8 7] 5)).heap.size = w1.heap.size + 2 := by simp
  have hs2 := hb2.size
  rw [hsz] at hs2 hb2 hy
  have hB2 : Below w.heap.size w w2 := ((hb1.out.alloc hs1 _).alloc (by simp; omega) _).trans (hb2.mono (by omega))
  have cv : ∀ ob : Obj, (convert 24 9 (.slice Ab3 1 cb3)).run Try.prog (w2.alloc ob) = .ok (.string (strB [7])) (w2.alloc ob) := fun ob =>
    SrcI.conv (hy.b.keep fun p hp => World.cell?_alloc_lt _ _ _ (by rcases hp with hp | hp <;> omega)) fun i hi => by simp; rcases hi with hi | hi <;> omega
  replace hB2 := Lib.hid hB2
  replace hb2 := Lib.hid hb2
  replace hy := Lib.hid hy
  clear CU CP hsz
  have k7 : ((strB [7]).toList == [7]) = true := by first | decide | kernel_rfl | (simp [strB]; done)
  go_wp2_with fail
  go_returns
  exact ⟨rfl, hB2.out.alloc (by have := hb1.out.size; omega) _⟩
end Go.Proofs.Ytgdoepkoakpnbaa
