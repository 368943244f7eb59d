/-
  The document's in: an element that holds others.
-/
import Derived.Test.YtgdoepkoakpnbaaBerIn
namespace Go.Proofs.Ytgdoepkoakpnbaa
open Go.RowKit

def lenV : Value → Nat
  | .slice _ n _ => n
  | _ => 0
/-- What holds at the head of each round. -/
structure InRel (K c n d b : Nat) (w wr : World) (R : List El × Nat) (r : List Nat) (ks : List El) (o c1 f : Nat) (V : Value) : Prop where
  inv : InInv K (c : Int) (n : Int) w wr ks V
  src : Src w K (some ⟨b, o, none⟩) c1 r
  cap : c1 ≤ 9223372036854775807
  byt : ∀ x ∈ r, x < 256
  len : ks.length + r.length ≤ 16384
  fuel : 2 * r.length + 1 ≤ f
  eq : R = more2 ks (rowP f r d)
def madeP (c n : Nat) (R : List El × Nat) : El × Nat := if R.2 ≠ 0 then (el0, R.2) else (⟨(c : Int), true, (n : Int), [], Fo.of R.1⟩, 0)
theorem in_err {K c n d b : Nat} {w wr : World} {R : List El × Nat} {r : List Nat} {ks : List El} {o c1 f : Nat} {V : Value} (h : InRel K c n d b w wr R r ks o c1 f V) (e : Nat) (he : R = ([], e)) (h0 : e ≠ 0) :
    InPost (madeP c n R) K w (.returned (.tuple #[.agg #[.int .i64 0, .bool false, .int .i64 0, .slice none 0 0, .slice none 0 0], .int .i64 (e : Int)])) (set5 wr w.heap.size (.int .i64 0) (.bool false) (.int .i64 0) (.slice none 0 0) (.slice none 0 0)) := by
  subst he
  unfold madeP
  rw [if_pos h0]
  exact ⟨none, 0, none, 0, rfl, ⟨⟨Nat.le_refl _, fun _ => rfl, fun _ e => by cases e⟩, SlI.nil0 _ _⟩, set5_below h.inv.below (Nat.le_refl _) _ _ _ _ _⟩
theorem in_err0 {K c n : Nat} {w wr : World} {R : List El × Nat} (h : Below w.heap.size w wr) (e : Nat) (he : R = ([], e)) (h0 : e ≠ 0) :
    InPost (madeP c n R) K w (.returned (.tuple #[.agg #[.int .i64 0, .bool false, .int .i64 0, .slice none 0 0, .slice none 0 0], .int .i64 (e : Int)])) (set5 wr w.heap.size (.int .i64 0) (.bool false) (.int .i64 0) (.slice none 0 0) (.slice none 0 0)) := by
  subst he
  unfold madeP
  rw [if_pos h0]
  exact ⟨none, 0, none, 0, rfl, ⟨⟨Nat.le_refl _, fun _ => rfl, fun _ e => by cases e⟩, SlI.nil0 _ _⟩, set5_below h (Nat.le_refl _) _ _ _ _ _⟩
theorem more2_cons (ks : List El) (kid : El) (q : List El × Nat) : more2 ks (if q.2 ≠ 0 then ([], q.2) else (kid :: q.1, 0)) = more2 (ks ++ [kid]) q := by
  unfold more2
  by_cases h : q.2 ≠ 0
  · rw [if_pos h, if_pos h, if_pos h]
  · rw [if_neg h, if_neg h, if_neg (by simp), List.append_assoc]
    rfl
theorem in_end {K c n d b : Nat} {w wr : World} {R : List El × Nat} {r : List Nat} {ks : List El} {o c1 f : Nat} {A : Option Addr} {d1 : Nat} (h : InRel K c n d b w wr R r ks o c1 f (.slice A ks.length d1)) (hr : r = []) (hK : K ≤ w.heap.size) :
    InPost (madeP c n R) K w (.returned (.tuple #[.agg #[.int .i64 (c : Int), .bool true, .int .i64 (n : Int), .slice none 0 0, .slice A ks.length d1], .int .i64 0]))
      (set5 wr w.heap.size (.int .i64 (c : Int)) (.bool true) (.int .i64 (n : Int)) (.slice none 0 0) (.slice A ks.length d1)) := by
  have he := h.eq
  subst hr
  rw [rowP_nil] at he
  have he' : R = (ks, 0) := by rw [he]; unfold more2; simp
  subst he'
  unfold madeP
  rw [if_neg (by simp)]
  obtain ⟨A', c', hv, hsl⟩ := h.inv.row.sl
  injection hv with hv1 hv2 hv3
  subst hv1 hv3
  have hsz := h.inv.size
  refine ⟨none, 0, A, d1, ?_, ⟨⟨Nat.le_refl _, fun _ => rfl, fun _ e => by cases e⟩, (hsl.keep fun p hp => set5_other _ _ _ _ _ _ _ p ?_).more fun b hb => ?_⟩, set5_below h.inv.below (Nat.le_refl _) _ _ _ _ _⟩
  · unfold elV El.kids
    simp only [Fo.list_of]
    rfl
  · rcases hp with hp | hp
    · omega
    · omega
  · rw [set5_size]
    rcases hb with hb | hb
    · exact .inl hb
    · exact .inr ⟨by omega, hb.2⟩

set_option maxRecDepth 8000 in
set_option maxHeartbeats 1600000 in
theorem in_made (b off cp d c n u er al fr f : Nat) (l : List Nat) (w : World) (K : Nat) (hK : K ≤ w.heap.size) (hs : Src w K (some ⟨b, off, none⟩) cp l) (hl : l.length ≤ 1048600) (hcp : cp ≤ 9223372036854775807) (hby : ∀ x ∈ l, x < 256)
    (hT : rdT l = (c, true, n, u, er)) (hH : hdT l = (al, fr, 0)) (h1 : fr ≤ al) (h2 : al ≤ l.length) (h3 : al ≤ 16384) (hd : d ≤ 23) (hf : 2 * (al - fr) + 1 ≤ f)
    (ih : ∀ (f1 : Nat) (r : List Nat) (o c1 : Nat) (w1 : World), f1 < f → 2 * r.length ≤ f1 → Src w1 K (some ⟨b, o, none⟩) c1 r → K ≤ w1.heap.size → r.length ≤ 16384 → c1 ≤ 9223372036854775807 → (∀ x ∈ r, x < 256) → (hdT r).2.2 = 0 → (hdT r).1 ≤ r.length → d + 1 ≤ 23 →
      Calls Try.prog 34 #[.slice (some ⟨b, o, none⟩) r.length c1, .int .i64 ((d : Int) + 1)] w1 (InPost (inP f1 r (d + 1)) K w1)) :
    Calls Try.prog 34 #[.slice (some ⟨b, off, none⟩) l.length cp, .int .i64 (d : Int)] w (InPost (madeP c n (rowP f ((l.take al).drop fr) d)) K w) := by
  obtain ⟨i0, hi, hz0, hz1, hz2⟩ := info_parts info_el
  have CH : ∀ w', Below w.heap.size w w' → Calls Try.prog 31 #[.slice (some ⟨b, off, none⟩) l.length cp] w' fun e w'' => e = .returned (.tuple #[.int .i64 (al : Int), .int .i64 (fr : Int), .int .i64 0]) ∧ w' = w'' := by
    intro w' hb
    have := refHead_any _ cp l w' K (hs.below (hb.mono hK)) hl hcp hby
    rw [hH] at this
    exact this
  have CT : ∀ w', Below w.heap.size w w' → Calls Try.prog 49 #[.slice (some ⟨b, off, none⟩) l.length cp] w' fun e w'' => e = .returned (tup5 (c, true, n, u, er)) ∧ w' = w'' := by
    intro w' hb
    rw [← hT]
    exact ref_any _ cp l w' K (hs.below (hb.mono hK)) hl hby
  have hlen : ((l.take al).drop fr).length = al - fr := by rw [List.length_drop, List.length_take]; omega
  have hcap := hs.le
  have hbI : ∀ x ∈ (l.take al).drop fr, x < 256 := fun x hx => hby x (List.mem_of_mem_take (List.mem_of_mem_drop hx))
  obtain ⟨R, hR⟩ : ∃ R, R = rowP f ((l.take al).drop fr) d := ⟨_, rfl⟩
  rw [← hR]
  have hinit : ∀ o c1, Src w K (some ⟨b, o, none⟩) c1 ((l.take al).drop fr) → c1 ≤ 9223372036854775807 → InRel K c n d b w ((w.alloc (.cells #[.int .i64 0, .bool false, .int .i64 0, .slice none 0 0, .slice none 0 0] 30)).alloc (.cells #[.int .i64 (c : Int), .bool true, .int .i64 (n : Int), .slice none 0 0, .slice none 0 0] 30)) R ((l.take al).drop fr) [] o c1 f (.slice none 0 0) := by
    intro o c1 hs1 hc1
    refine ⟨⟨by go_grown, by simp, ?_, ?_, RowE.nil _ _ _ _⟩, hs1, hc1, hbI, by rw [hlen]; simp; omega, by rw [hlen]; omega, ?_⟩
    · rw [Below.heap_alloc _ _ _ (by simp)]
      exact heap_alloc_new w _
    · have := heap_alloc_new (w.alloc (.cells #[.int .i64 0, .bool false, .int .i64 0, .slice none 0 0, .slice none 0 0] 30)) (.cells #[.int .i64 (c : Int), .bool true, .int .i64 (n : Int), .slice none 0 0, .slice none 0 0] 30)
      simpa using this
    · rw [hR, more2_nil _ (rowP_err _ _ _)]
  replace CH := Lib.hid CH
  replace CT := Lib.hid CT
  replace hs := Lib.hid hs
  replace hinit := Lib.hid hinit
  replace hR := Lib.hid hR
  replace ih := Lib.hid ih
  replace hby := Lib.hid hby
  replace hbI := Lib.hid hbI
  replace hT := Lib.hid hT
  replace hH := Lib.hid hH
  by_cases hfc : fr = cp
  · have hac : al = cp := by omega
    have hemp : (l.take al).drop fr = [] := List.eq_nil_of_length_eq_zero (by rw [hlen]; omega)
    have hinit2 := Lib.hid (hinit.out off 0 (by rw [hemp]; exact ⟨Nat.le_refl _, (fun e => by cases e), fun ad e => ⟨fun h0 => absurd h0 (by simp), fun j m hj => by simp at hj⟩⟩) (by omega))
    rw [hemp] at hinit2
    clear hR hT hH hbI hemp hlen hinit
    subst hfc
    subst hac
    go_enter Try.func34, Try.ntmps34
    go_wp2_with fail
    refine (CH.out _ (by go_grown)).mono ?_
    rintro en w2 ⟨rfl, rfl⟩
    dsimp only []
    go_wp2_with fail
    refine (CT.out _ (by go_grown)).mono ?_
    rintro en w2 ⟨rfl, rfl⟩
    unfold tup5
    dsimp only []
    go_wp2_with fail
    go_loopw [0] (fun bv wr => bv = .slice (some ⟨b, off, none⟩) 0 0 ∧ Hid (InRel K c n d b w wr R [] [] off 0 f (.slice none 0 0))) (fun _ _ => 0)
    case atStart => exact ⟨by simp, hinit2⟩
    case round =>
      obtain ⟨rfl, HR⟩ := hrel
      clear CH CT hs hinit2
      have hO := HR.out.inv.out
      have o0 : wr.cell? ⟨w.heap.size + 1, 0, none⟩ = some (.int .i64 (c : Int)) := cell_of_row _ _ _ _ _ _ hO
      have o1 : wr.cell? ⟨w.heap.size + 1, 1, none⟩ = some (.bool true) := cell_of_row _ _ _ _ _ _ hO
      have o2 : wr.cell? ⟨w.heap.size + 1, 2, none⟩ = some (.int .i64 (n : Int)) := cell_of_row _ _ _ _ _ _ hO
      have o3 : wr.cell? ⟨w.heap.size + 1, 3, none⟩ = some (.slice none 0 0) := cell_of_row _ _ _ _ _ _ hO
      have o4 : wr.cell? ⟨w.heap.size + 1, 4, none⟩ = some (.slice none 0 0) := cell_of_row _ _ _ _ _ _ hO
      have hZ := HR.out.inv.res
      have r0 : wr.cell? ⟨w.heap.size, 0, none⟩ = some (.int .i64 0) := cell_of_row _ _ _ _ _ _ hZ
      have f0 : wr.frozen? ⟨w.heap.size, 0, none⟩ = false := frozen_of_row _ _ _ _ _ hZ
      have r1 : wr.cell? ⟨w.heap.size, 1, none⟩ = some (.bool false) := cell_of_row _ _ _ _ _ _ hZ
      have g1 : wr.frozen? ⟨w.heap.size, 1, none⟩ = false := frozen_of_row _ _ _ _ _ hZ
      have r2 : wr.cell? ⟨w.heap.size, 2, none⟩ = some (.int .i64 0) := cell_of_row _ _ _ _ _ _ hZ
      have g2 : wr.frozen? ⟨w.heap.size, 2, none⟩ = false := frozen_of_row _ _ _ _ _ hZ
      have r3 : wr.cell? ⟨w.heap.size, 3, none⟩ = some (.slice none 0 0) := cell_of_row _ _ _ _ _ _ hZ
      have g3 : wr.frozen? ⟨w.heap.size, 3, none⟩ = false := frozen_of_row _ _ _ _ _ hZ
      have r4 : wr.cell? ⟨w.heap.size, 4, none⟩ = some (.slice none 0 0) := cell_of_row _ _ _ _ _ _ hZ
      have g4 : wr.frozen? ⟨w.heap.size, 4, none⟩ = false := frozen_of_row _ _ _ _ _ hZ
      replace hO := Lib.hid hO
      replace hZ := Lib.hid hZ
      have HE := Lib.hid (in_end (ks := []) (A := none) (d1 := 0) HR.out rfl hK)
      simp only [List.length_nil] at HE
      go_wp2_with fail
      have HC := Lib.hid (set5_same hZ.out (.int .i64 (c : Int)) (.bool true) (.int .i64 (n : Int)) (.slice none 0 0) (.slice none 0 0))
      have HX : set5 wr w.heap.size (.int .i64 (c : Int)) (.bool true) (.int .i64 (n : Int)) (.slice none 0 0) (.slice none 0 0) = ((((wr.setCell ⟨w.heap.size, 0, none⟩ (.int .i64 (c : Int))).setCell ⟨w.heap.size, 1, none⟩ (.bool true)).setCell ⟨w.heap.size, 2, none⟩ (.int .i64 (n : Int))).setCell ⟨w.heap.size, 3, none⟩ (.slice none 0 0)).setCell ⟨w.heap.size, 4, none⟩ (.slice none 0 0) := rfl
      rw [← HX]
      obtain ⟨W5, hW5⟩ : ∃ W5, W5 = set5 wr w.heap.size (.int .i64 (c : Int)) (.bool true) (.int .i64 (n : Int)) (.slice none 0 0) (.slice none 0 0) := ⟨_, rfl⟩
      rw [← hW5] at HE HC ⊢
      clear HX hW5 o0 o1 o2 o3 o4 r0 r1 r2 r3 r4 f0 g1 g2 g3 g4
      have q0 : W5.cell? ⟨w.heap.size, 0, none⟩ = some (.int .i64 (c : Int)) := cell_of_row _ _ _ _ _ _ HC.out
      have q1 : W5.cell? ⟨w.heap.size, 1, none⟩ = some (.bool true) := cell_of_row _ _ _ _ _ _ HC.out
      have q2 : W5.cell? ⟨w.heap.size, 2, none⟩ = some (.int .i64 (n : Int)) := cell_of_row _ _ _ _ _ _ HC.out
      have q3 : W5.cell? ⟨w.heap.size, 3, none⟩ = some (.slice none 0 0) := cell_of_row _ _ _ _ _ _ HC.out
      have q4 : W5.cell? ⟨w.heap.size, 4, none⟩ = some (.slice none 0 0) := cell_of_row _ _ _ _ _ _ HC.out
      exact bodyPost_ret (v := .tuple #[.agg #[.int .i64 (c : Int), .bool true, .int .i64 (n : Int), .slice none 0 0, .slice none 0 0], .int .i64 0]) (by simp [results, Try.results34, go_sem, q0, q1, q2, q3, q4]) rfl HE.out
  · go_enter Try.func34, Try.ntmps34
    go_wp2_with fail
    refine (CH.out _ (by go_grown)).mono ?_
    rintro en w2 ⟨rfl, rfl⟩
    dsimp only []
    go_wp2_with fail
    refine (CT.out _ (by go_grown)).mono ?_
    rintro en w2 ⟨rfl, rfl⟩
    unfold tup5
    dsimp only []
    go_wp2_with fail
    go_loopw [0] (fun bv wr => ∃ (r : List Nat) (ks : List El) (o c1 f1 : Nat) (A : Option Addr) (d1 : Nat), bv = .slice (some ⟨b, o, none⟩) r.length c1 ∧ f1 ≤ f ∧ Hid (InRel K c n d b w wr R r ks o c1 f1 (.slice A ks.length d1))) (fun bv _ => lenV bv)
    case atStart => exact ⟨(l.take al).drop fr, [], off + fr, cp - fr, f, none, 0, by rw [hlen], Nat.le_refl _, Lib.hid (hinit.out _ _ ((hs.out.take al).behind (by rw [List.length_take]; omega)) (by omega))⟩
    case round =>
      obtain ⟨r, ks, o, c1, f1, A, d1, rfl, hf1, HR⟩ := hrel
      clear CH CT hinit hs
      have hsz : w.heap.size + 2 ≤ wr.heap.size := HR.out.inv.size
      have hO := HR.out.inv.out
      have o0 : wr.cell? ⟨w.heap.size + 1, 0, none⟩ = some (.int .i64 (c : Int)) := cell_of_row _ _ _ _ _ _ hO
      have o1 : wr.cell? ⟨w.heap.size + 1, 1, none⟩ = some (.bool true) := cell_of_row _ _ _ _ _ _ hO
      have o2 : wr.cell? ⟨w.heap.size + 1, 2, none⟩ = some (.int .i64 (n : Int)) := cell_of_row _ _ _ _ _ _ hO
      have o3 : wr.cell? ⟨w.heap.size + 1, 3, none⟩ = some (.slice none 0 0) := cell_of_row _ _ _ _ _ _ hO
      have o4 : wr.cell? ⟨w.heap.size + 1, 4, none⟩ = some (.slice A ks.length d1) := cell_of_row _ _ _ _ _ _ hO
      have hZ := HR.out.inv.res
      have r0 : wr.cell? ⟨w.heap.size, 0, none⟩ = some (.int .i64 0) := cell_of_row _ _ _ _ _ _ hZ
      have f0 : wr.frozen? ⟨w.heap.size, 0, none⟩ = false := frozen_of_row _ _ _ _ _ hZ
      have r1 : wr.cell? ⟨w.heap.size, 1, none⟩ = some (.bool false) := cell_of_row _ _ _ _ _ _ hZ
      have g1 : wr.frozen? ⟨w.heap.size, 1, none⟩ = false := frozen_of_row _ _ _ _ _ hZ
      have r2 : wr.cell? ⟨w.heap.size, 2, none⟩ = some (.int .i64 0) := cell_of_row _ _ _ _ _ _ hZ
      have g2 : wr.frozen? ⟨w.heap.size, 2, none⟩ = false := frozen_of_row _ _ _ _ _ hZ
      have r3 : wr.cell? ⟨w.heap.size, 3, none⟩ = some (.slice none 0 0) := cell_of_row _ _ _ _ _ _ hZ
      have g3 : wr.frozen? ⟨w.heap.size, 3, none⟩ = false := frozen_of_row _ _ _ _ _ hZ
      have r4 : wr.cell? ⟨w.heap.size, 4, none⟩ = some (.slice none 0 0) := cell_of_row _ _ _ _ _ _ hZ
      have g4 : wr.frozen? ⟨w.heap.size, 4, none⟩ = false := frozen_of_row _ _ _ _ _ hZ
      replace hO := Lib.hid hO
      replace hZ := Lib.hid hZ
      by_cases hr0 : r.length = 0
      · have HE := Lib.hid (in_end HR.out (List.eq_nil_of_length_eq_zero hr0) hK)
        have k0 : decide (0 < (r.length : Int)) = false := decide_eq_false (by omega)
        go_wp2_with fail
        have HC := Lib.hid (set5_same hZ.out (.int .i64 (c : Int)) (.bool true) (.int .i64 (n : Int)) (.slice none 0 0) (.slice A ks.length d1))
        have HX : set5 wr w.heap.size (.int .i64 (c : Int)) (.bool true) (.int .i64 (n : Int)) (.slice none 0 0) (.slice A ks.length d1) = ((((wr.setCell ⟨w.heap.size, 0, none⟩ (.int .i64 (c : Int))).setCell ⟨w.heap.size, 1, none⟩ (.bool true)).setCell ⟨w.heap.size, 2, none⟩ (.int .i64 (n : Int))).setCell ⟨w.heap.size, 3, none⟩ (.slice none 0 0)).setCell ⟨w.heap.size, 4, none⟩ (.slice A ks.length d1) := rfl
        rw [← HX]
        obtain ⟨W5, hW5⟩ : ∃ W5, W5 = set5 wr w.heap.size (.int .i64 (c : Int)) (.bool true) (.int .i64 (n : Int)) (.slice none 0 0) (.slice A ks.length d1) := ⟨_, rfl⟩
        rw [← hW5] at HE HC ⊢
        clear HX hW5 o0 o1 o2 o3 o4 r0 r1 r2 r3 r4 f0 g1 g2 g3 g4
        have q0 : W5.cell? ⟨w.heap.size, 0, none⟩ = some (.int .i64 (c : Int)) := cell_of_row _ _ _ _ _ _ HC.out
        have q1 : W5.cell? ⟨w.heap.size, 1, none⟩ = some (.bool true) := cell_of_row _ _ _ _ _ _ HC.out
        have q2 : W5.cell? ⟨w.heap.size, 2, none⟩ = some (.int .i64 (n : Int)) := cell_of_row _ _ _ _ _ _ HC.out
        have q3 : W5.cell? ⟨w.heap.size, 3, none⟩ = some (.slice none 0 0) := cell_of_row _ _ _ _ _ _ HC.out
        have q4 : W5.cell? ⟨w.heap.size, 4, none⟩ = some (.slice A ks.length d1) := cell_of_row _ _ _ _ _ _ HC.out
        exact bodyPost_ret (v := .tuple #[.agg #[.int .i64 (c : Int), .bool true, .int .i64 (n : Int), .slice none 0 0, .slice A ks.length d1], .int .i64 0]) (by simp [results, Try.results34, go_sem, q0, q1, q2, q3, q4]) rfl HE.out
      · have k0 : decide (0 < (r.length : Int)) = true := decide_eq_true (by omega)
        have hfu := HR.out.fuel
        have hle := HR.out.len
        have hrn : r ≠ [] := fun e => hr0 (by rw [e]; rfl)
        obtain ⟨f2, rfl⟩ : ∃ f2, f1 = f2 + 1 := ⟨f1 - 1, by omega⟩
        have hRr : R = more2 ks (rowP (f2 + 1) r d) := HR.out.eq
        rw [rowP, if_neg hrn] at hRr
        by_cases h24 : 24 ≤ d + 1
        · rw [if_pos h24] at hRr
          have HE := Lib.hid (in_err HR.out 15 (by rw [hRr]; rfl) (by decide))
          have k24 : decide (24 ≤ (d : Int) + 1) = true := decide_eq_true (by omega)
          clear hRr
          go_wp2_with fail
          have HC := Lib.hid (set5_same hZ.out (.int .i64 0) (.bool false) (.int .i64 0) (.slice none 0 0) (.slice none 0 0))
          have HX : set5 wr w.heap.size (.int .i64 0) (.bool false) (.int .i64 0) (.slice none 0 0) (.slice none 0 0) = ((((wr.setCell ⟨w.heap.size, 0, none⟩ (.int .i64 0)).setCell ⟨w.heap.size, 1, none⟩ (.bool false)).setCell ⟨w.heap.size, 2, none⟩ (.int .i64 0)).setCell ⟨w.heap.size, 3, none⟩ (.slice none 0 0)).setCell ⟨w.heap.size, 4, none⟩ (.slice none 0 0) := rfl
          rw [← HX]
          obtain ⟨W5, hW5⟩ : ∃ W5, W5 = set5 wr w.heap.size (.int .i64 0) (.bool false) (.int .i64 0) (.slice none 0 0) (.slice none 0 0) := ⟨_, rfl⟩
          rw [← hW5] at HE HC ⊢
          clear HX hW5 o0 o1 o2 o3 o4 r0 r1 r2 r3 r4 f0 g1 g2 g3 g4
          have q0 : W5.cell? ⟨w.heap.size, 0, none⟩ = some (.int .i64 0) := cell_of_row _ _ _ _ _ _ HC.out
          have q1 : W5.cell? ⟨w.heap.size, 1, none⟩ = some (.bool false) := cell_of_row _ _ _ _ _ _ HC.out
          have q2 : W5.cell? ⟨w.heap.size, 2, none⟩ = some (.int .i64 0) := cell_of_row _ _ _ _ _ _ HC.out
          have q3 : W5.cell? ⟨w.heap.size, 3, none⟩ = some (.slice none 0 0) := cell_of_row _ _ _ _ _ _ HC.out
          have q4 : W5.cell? ⟨w.heap.size, 4, none⟩ = some (.slice none 0 0) := cell_of_row _ _ _ _ _ _ HC.out
          exact bodyPost_ret (v := .tuple #[.agg #[.int .i64 0, .bool false, .int .i64 0, .slice none 0 0, .slice none 0 0], .int .i64 ((15 : Nat) : Int)]) (by simp [results, Try.results34, go_sem, q0, q1, q2, q3, q4]) rfl HE.out
        · rw [if_neg h24] at hRr
          have k24 : decide (24 ≤ (d : Int) + 1) = false := decide_eq_false (by omega)
          have CN := refNeed_any (some ⟨b, o, none⟩) c1 r wr K (HR.out.src.below (HR.out.inv.below.mono hK)) (by omega) HR.out.cap HR.out.byt
          have hHO := hdT_ok r HR.out.byt
          have hHT := hdT_take r HR.out.byt
          obtain ⟨⟨nn, ff, ee⟩, hq⟩ : ∃ q, q = hdT r := ⟨_, rfl⟩
          rw [← hq] at hRr CN hHO hHT
          simp only [] at hRr CN hHO hHT
          replace CN := Lib.hid CN
          replace hHO := Lib.hid hHO
          replace hHT := Lib.hid hHT
          replace hq := Lib.hid hq
          by_cases hee : ee ≠ 0 ∨ r.length < nn
          · rw [if_pos hee] at hRr
            have HE := Lib.hid (in_err HR.out 11 (by rw [hRr]; rfl) (by decide))
            clear hRr
            by_cases he0 : ee = 0
            · subst he0
              have kn : decide ((r.length : Int) < (nn : Int)) = true := decide_eq_true (by omega)
              go_wp2_with fail
              refine CN.out.mono ?_
              rintro en w2 ⟨rfl, rfl⟩
              dsimp only []
              go_wp2_with fail
              have HC := Lib.hid (set5_same hZ.out (.int .i64 0) (.bool false) (.int .i64 0) (.slice none 0 0) (.slice none 0 0))
              have HX : set5 wr w.heap.size (.int .i64 0) (.bool false) (.int .i64 0) (.slice none 0 0) (.slice none 0 0) = ((((wr.setCell ⟨w.heap.size, 0, none⟩ (.int .i64 0)).setCell ⟨w.heap.size, 1, none⟩ (.bool false)).setCell ⟨w.heap.size, 2, none⟩ (.int .i64 0)).setCell ⟨w.heap.size, 3, none⟩ (.slice none 0 0)).setCell ⟨w.heap.size, 4, none⟩ (.slice none 0 0) := rfl
              rw [← HX]
              obtain ⟨W5, hW5⟩ : ∃ W5, W5 = set5 wr w.heap.size (.int .i64 0) (.bool false) (.int .i64 0) (.slice none 0 0) (.slice none 0 0) := ⟨_, rfl⟩
              rw [← hW5] at HE HC ⊢
              clear HX hW5 o0 o1 o2 o3 o4 r0 r1 r2 r3 r4 f0 g1 g2 g3 g4
              have q0 : W5.cell? ⟨w.heap.size, 0, none⟩ = some (.int .i64 0) := cell_of_row _ _ _ _ _ _ HC.out
              have q1 : W5.cell? ⟨w.heap.size, 1, none⟩ = some (.bool false) := cell_of_row _ _ _ _ _ _ HC.out
              have q2 : W5.cell? ⟨w.heap.size, 2, none⟩ = some (.int .i64 0) := cell_of_row _ _ _ _ _ _ HC.out
              have q3 : W5.cell? ⟨w.heap.size, 3, none⟩ = some (.slice none 0 0) := cell_of_row _ _ _ _ _ _ HC.out
              have q4 : W5.cell? ⟨w.heap.size, 4, none⟩ = some (.slice none 0 0) := cell_of_row _ _ _ _ _ _ HC.out
              exact bodyPost_ret (v := .tuple #[.agg #[.int .i64 0, .bool false, .int .i64 0, .slice none 0 0, .slice none 0 0], .int .i64 ((11 : Nat) : Int)]) (by simp [results, Try.results34, go_sem, q0, q1, q2, q3, q4]) rfl HE.out
            · have kn : ((ee : Int) != 0) = true := by simp; omega
              go_wp2_with fail
              refine CN.out.mono ?_
              rintro en w2 ⟨rfl, rfl⟩
              dsimp only []
              go_wp2_with fail
              have HC := Lib.hid (set5_same hZ.out (.int .i64 0) (.bool false) (.int .i64 0) (.slice none 0 0) (.slice none 0 0))
              have HX : set5 wr w.heap.size (.int .i64 0) (.bool false) (.int .i64 0) (.slice none 0 0) (.slice none 0 0) = ((((wr.setCell ⟨w.heap.size, 0, none⟩ (.int .i64 0)).setCell ⟨w.heap.size, 1, none⟩ (.bool false)).setCell ⟨w.heap.size, 2, none⟩ (.int .i64 0)).setCell ⟨w.heap.size, 3, none⟩ (.slice none 0 0)).setCell ⟨w.heap.size, 4, none⟩ (.slice none 0 0) := rfl
              rw [← HX]
              obtain ⟨W5, hW5⟩ : ∃ W5, W5 = set5 wr w.heap.size (.int .i64 0) (.bool false) (.int .i64 0) (.slice none 0 0) (.slice none 0 0) := ⟨_, rfl⟩
              rw [← hW5] at HE HC ⊢
              clear HX hW5 o0 o1 o2 o3 o4 r0 r1 r2 r3 r4 f0 g1 g2 g3 g4
              have q0 : W5.cell? ⟨w.heap.size, 0, none⟩ = some (.int .i64 0) := cell_of_row _ _ _ _ _ _ HC.out
              have q1 : W5.cell? ⟨w.heap.size, 1, none⟩ = some (.bool false) := cell_of_row _ _ _ _ _ _ HC.out
              have q2 : W5.cell? ⟨w.heap.size, 2, none⟩ = some (.int .i64 0) := cell_of_row _ _ _ _ _ _ HC.out
              have q3 : W5.cell? ⟨w.heap.size, 3, none⟩ = some (.slice none 0 0) := cell_of_row _ _ _ _ _ _ HC.out
              have q4 : W5.cell? ⟨w.heap.size, 4, none⟩ = some (.slice none 0 0) := cell_of_row _ _ _ _ _ _ HC.out
              exact bodyPost_ret (v := .tuple #[.agg #[.int .i64 0, .bool false, .int .i64 0, .slice none 0 0, .slice none 0 0], .int .i64 ((11 : Nat) : Int)]) (by simp [results, Try.results34, go_sem, q0, q1, q2, q3, q4]) rfl HE.out
          · rw [if_neg hee] at hRr
            have hez : ee = 0 := by omega
            have hnl : nn ≤ r.length := by omega
            clear hee
            subst hez
            have kn : decide ((r.length : Int) < (nn : Int)) = false := decide_eq_false (by omega)
            obtain ⟨hh1, hh2, hh3, hh4, hh5⟩ := hHO.out rfl
            have hlt : (r.take nn).length = nn := by rw [List.length_take]; omega
            have hKr : K ≤ wr.heap.size := by omega
            have CI := ih.out f2 (r.take nn) o c1 wr (by omega) (by rw [hlt]; omega) ((HR.out.src.below (HR.out.inv.below.mono hK)).take nn) hKr (by rw [hlt]; omega) HR.out.cap (fun x hx => HR.out.byt x (List.mem_of_mem_take hx)) (by rw [hHT.out rfl]) (by rw [hHT.out rfl, hlt]; exact Nat.le_refl _) (by omega)
            rw [hlt] at CI
            obtain ⟨⟨kid, e2⟩, hk2⟩ : ∃ q, q = inP f2 (r.take nn) (d + 1) := ⟨_, rfl⟩
            rw [← hk2] at CI hRr
            simp only [] at CI hRr
            replace CI := Lib.hid CI
            clear hk2 hlt hh1
            by_cases he2 : e2 = 0
            · subst he2
              rw [if_neg (by simp), more2_cons] at hRr
              have fin : ∀ (o2 c2 : Nat) (wN : World) (V' : Value), InInv K (c : Int) (n : Int) w wN (ks ++ [kid]) V' → Src w K (some ⟨b, o2, none⟩) c2 (r.drop nn) → c2 ≤ 9223372036854775807 → InRel K c n d b w wN R (r.drop nn) (ks ++ [kid]) o2 c2 f2 V' := by
                intro o2 c2 wN V' a1 a2 a3
                exact ⟨a1, a2, a3, fun x hx => HR.out.byt x (List.mem_of_mem_drop hx), by rw [List.length_append, List.length_drop]; simp; omega, by rw [List.length_drop]; omega, hRr⟩
              replace fin := Lib.hid fin
              replace hRr := Lib.hid hRr
              obtain ⟨cs, hrow1, hrow2, hrow3, hrow4⟩ := HR.out.inv.row.parts
              have hcp1 := HR.out.cap
              have hcl := HR.out.src.le
              replace hrow1 := Lib.hid hrow1
              replace hrow2 := Lib.hid hrow2
              replace hrow3 := Lib.hid hrow3
              replace hrow4 := Lib.hid hrow4
              clear o0 o1 o2 o3 r0 r1 r2 r3 r4 f0 g1 g2 g3 g4
              go_wp2_with fail
              refine CN.out.mono ?_
              rintro en w2 ⟨rfl, rfl⟩
              dsimp only []
              go_wp2_with fail
              refine CI.out.mono ?_
              rintro en w3 ⟨Ab2, cb2, A3, c3, rfl, hkin, hb3⟩
              unfold elV
              have hsz3 := hb3.size
              have p4 : w3.cell? ⟨w.heap.size + 1, 4, none⟩ = some (.slice A ks.length d1) := (hb3.cell (p := ⟨w.heap.size + 1, 4, none⟩) (by show w.heap.size + 1 < _; omega)).trans o4
              have q4 : ∀ o : Obj, (w3.alloc o).cell? ⟨w.heap.size + 1, 4, none⟩ = some (.slice A ks.length d1) := fun o => (World.cell?_alloc_lt _ _ _ (by show w.heap.size + 1 < _; omega)).trans p4
              replace hb3 := Lib.hid hb3
              replace hkin := Lib.hid hkin
              clear o4 CN CI
              dsimp only []
              go_wp2_with (at_builtin; refine wpList_append_lies _ rfl (.tmp 83) (.tmp 85) 28 rfl (w.heap.size + 2) 30 i0 _ 5 72 Try.underlying28 hi hz0 hz1 hz2 rfl (by decide) (.slice A ks.length d1) ks.length cs rfl (World.ownsRow.alloc (World.ownsRow.alloc (owns_below hrow1.out hb3.out) _) _) ⟨w3.heap.size + 1, 0, none⟩ 1 1 [.int .i64 kid.c, .bool kid.m, .int .i64 kid.n, .slice Ab2 kid.b.length cb2, .slice A3 kid.kids.length c3] rfl rfl (World.news_of_block (cs := #[.int .i64 kid.c, .bool kid.m, .int .i64 kid.n, .slice Ab2 kid.b.length cb2, .slice A3 kid.kids.length c3]) (fr := (0, 0)) (by simpa using heap_alloc_new (w3.alloc (.cells #[.int .i64 kid.c, .bool kid.m, .int .i64 kid.n, .slice Ab2 kid.b.length cb2, .slice A3 kid.kids.length c3] 30)) (.cells #[.int .i64 kid.c, .bool kid.m, .int .i64 kid.n, .slice Ab2 kid.b.length cb2, .slice A3 kid.kids.length c3] 30))) (el5_one kid Ab2 cb2 A3 c3) (by decide) (by simp only [maxLen]; omega) (by omega) (by simp; omega) (w3.heap.size + 1 + 1) (by simp) ?hgo)
              case hgo =>
                intro g cap w6 hown hg hat hgl
                have hB6 : w6.heap[w.heap.size + 1]? = wr.heap[w.heap.size + 1]? := by
                  rw [hg.block _ (by simp; omega) (fun e => by have := (hrow3.out _ e.symm).1; omega), Below.heap_alloc _ _ _ (by simp; omega), Below.heap_alloc _ _ _ (by omega), hb3.out.block _ (by omega)]
                have c6 : w6.cell? ⟨w.heap.size + 1, 4, none⟩ = some (.slice A ks.length d1) := cell_of_row _ _ _ _ _ _ (hB6.trans hO.out)
                have f6 : w6.frozen? ⟨w.heap.size + 1, 4, none⟩ = false := frozen_of_row _ _ _ _ _ (hB6.trans hO.out)
                have HS := Lib.hid (in_step HR.out.inv hK hb3.out hkin.out hrow2.out hrow3.out hrow4.out hown hg hat)
                replace hB6 := Lib.hid hB6
                replace hg := Lib.hid hg
                replace hown := Lib.hid hown
                clear hat q4 p4
                have hln : (ks ++ [kid]).length = ks.length + 1 := by simp
                by_cases hnc : nn = c1
                · subst hnc
                  have HF := Lib.hid (fin.out o 0 _ _ HS.out ⟨by rw [List.length_drop]; omega, (fun e => by cases e), fun ad e => ⟨fun h0 => by rw [List.length_drop] at h0; omega, fun j m hj => by
                    have := (List.getElem?_eq_some_iff.1 hj).1
                    rw [List.length_drop] at this
                    omega⟩⟩ (by omega))
                  go_wp2_with fail
                  refine ⟨⟨r.drop nn, ks ++ [kid], o, 0, f2, some ⟨g, 0, none⟩, cap, ?_, by omega, by rw [hln]; exact HF⟩, ?_⟩
                  · rw [List.length_drop]
                    congr 1
                    omega
                  · simp only [lenV]
                    omega
                · have HF := Lib.hid (fin.out (o + nn) (c1 - nn) _ _ HS.out (HR.out.src.behind hnl) (by omega))
                  go_wp2_with fail
                  refine ⟨⟨r.drop nn, ks ++ [kid], o + nn, c1 - nn, f2, some ⟨g, 0, none⟩, cap, ?_, by omega, by rw [hln]; exact HF⟩, ?_⟩
                  · rw [List.length_drop]
                  · simp only [lenV]
                    omega
            · rw [if_pos (by simpa using he2)] at hRr
              have ke : ((e2 : Int) != 0) = true := by simp; omega
              have hcp1 := HR.out.cap
              have hcl := HR.out.src.le
              have hRe : R = ([], e2) := by rw [hRr]; unfold more2; rw [if_pos he2]
              clear o0 o1 o2 o3 o4 r0 r1 r2 r3 r4 f0 g1 g2 g3 g4 hRr
              go_wp2_with fail
              refine CN.out.mono ?_
              rintro en w2 ⟨rfl, rfl⟩
              dsimp only []
              go_wp2_with fail
              refine CI.out.mono ?_
              rintro en w3 ⟨Ab2, cb2, A3, c3, rfl, hkin, hb3⟩
              unfold elV
              have hsz3 := hb3.size
              have hZ3 : ∀ ob : Obj, (w3.alloc ob).heap[w.heap.size]? = some (.cells #[.int .i64 0, .bool false, .int .i64 0, .slice none 0 0, .slice none 0 0] 30 (0, 0)) := fun ob => by
                rw [Below.heap_alloc _ _ _ (by omega), hb3.block _ (by omega)]
                exact hZ.out
              have r0 : ∀ ob : Obj, (w3.alloc ob).cell? ⟨w.heap.size, 0, none⟩ = some (.int .i64 0) := fun ob => cell_of_row _ _ _ _ _ _ (hZ3 ob)
              have f0 : ∀ ob : Obj, (w3.alloc ob).frozen? ⟨w.heap.size, 0, none⟩ = false := fun ob => frozen_of_row _ _ _ _ _ (hZ3 ob)
              have r1 : ∀ ob : Obj, (w3.alloc ob).cell? ⟨w.heap.size, 1, none⟩ = some (.bool false) := fun ob => cell_of_row _ _ _ _ _ _ (hZ3 ob)
              have g1 : ∀ ob : Obj, (w3.alloc ob).frozen? ⟨w.heap.size, 1, none⟩ = false := fun ob => frozen_of_row _ _ _ _ _ (hZ3 ob)
              have r2 : ∀ ob : Obj, (w3.alloc ob).cell? ⟨w.heap.size, 2, none⟩ = some (.int .i64 0) := fun ob => cell_of_row _ _ _ _ _ _ (hZ3 ob)
              have g2 : ∀ ob : Obj, (w3.alloc ob).frozen? ⟨w.heap.size, 2, none⟩ = false := fun ob => frozen_of_row _ _ _ _ _ (hZ3 ob)
              have r3 : ∀ ob : Obj, (w3.alloc ob).cell? ⟨w.heap.size, 3, none⟩ = some (.slice none 0 0) := fun ob => cell_of_row _ _ _ _ _ _ (hZ3 ob)
              have g3 : ∀ ob : Obj, (w3.alloc ob).frozen? ⟨w.heap.size, 3, none⟩ = false := fun ob => frozen_of_row _ _ _ _ _ (hZ3 ob)
              have r4 : ∀ ob : Obj, (w3.alloc ob).cell? ⟨w.heap.size, 4, none⟩ = some (.slice none 0 0) := fun ob => cell_of_row _ _ _ _ _ _ (hZ3 ob)
              have g4 : ∀ ob : Obj, (w3.alloc ob).frozen? ⟨w.heap.size, 4, none⟩ = false := fun ob => frozen_of_row _ _ _ _ _ (hZ3 ob)
              have HE : Hid (∀ ob : Obj, InPost (madeP c n R) K w (.returned (.tuple #[.agg #[.int .i64 0, .bool false, .int .i64 0, .slice none 0 0, .slice none 0 0], .int .i64 (e2 : Int)])) (set5 (w3.alloc ob) w.heap.size (.int .i64 0) (.bool false) (.int .i64 0) (.slice none 0 0) (.slice none 0 0))) :=
                Lib.hid fun ob => in_err0 (HR.out.inv.below.trans ((hb3.mono (by omega)).alloc (by omega) ob)) e2 hRe he2
              replace hZ3 := Lib.hid hZ3
              replace hb3 := Lib.hid hb3
              clear CN CI hkin
              dsimp only []
              go_wp2_with fail
              obtain ⟨W4, hW4⟩ : ∃ W4, W4 = w3.alloc (.cells #[.int .i64 kid.c, .bool kid.m, .int .i64 kid.n, .slice Ab2 kid.b.length cb2, .slice A3 kid.kids.length c3] 30) := ⟨_, rfl⟩
              have HE4 := HE.out (.cells #[.int .i64 kid.c, .bool kid.m, .int .i64 kid.n, .slice Ab2 kid.b.length cb2, .slice A3 kid.kids.length c3] 30)
              have HC4 := hZ3.out (.cells #[.int .i64 kid.c, .bool kid.m, .int .i64 kid.n, .slice Ab2 kid.b.length cb2, .slice A3 kid.kids.length c3] 30)
              rw [← hW4] at HE4 HC4 ⊢
              clear hW4 HE hZ3 r0 r1 r2 r3 r4 f0 g1 g2 g3 g4
              have HC := set5_same HC4 (.int .i64 0) (.bool false) (.int .i64 0) (.slice none 0 0) (.slice none 0 0)
              have HX : set5 W4 w.heap.size (.int .i64 0) (.bool false) (.int .i64 0) (.slice none 0 0) (.slice none 0 0) = ((((W4.setCell ⟨w.heap.size, 0, none⟩ (.int .i64 0)).setCell ⟨w.heap.size, 1, none⟩ (.bool false)).setCell ⟨w.heap.size, 2, none⟩ (.int .i64 0)).setCell ⟨w.heap.size, 3, none⟩ (.slice none 0 0)).setCell ⟨w.heap.size, 4, none⟩ (.slice none 0 0) := rfl
              rw [← HX]
              obtain ⟨W5, hW5⟩ : ∃ W5, W5 = set5 W4 w.heap.size (.int .i64 0) (.bool false) (.int .i64 0) (.slice none 0 0) (.slice none 0 0) := ⟨_, rfl⟩
              rw [← hW5] at HE4 HC ⊢
              clear HX hW5 HC4
              have q0 : W5.cell? ⟨w.heap.size, 0, none⟩ = some (.int .i64 0) := cell_of_row _ _ _ _ _ _ HC
              have q1 : W5.cell? ⟨w.heap.size, 1, none⟩ = some (.bool false) := cell_of_row _ _ _ _ _ _ HC
              have q2 : W5.cell? ⟨w.heap.size, 2, none⟩ = some (.int .i64 0) := cell_of_row _ _ _ _ _ _ HC
              have q3 : W5.cell? ⟨w.heap.size, 3, none⟩ = some (.slice none 0 0) := cell_of_row _ _ _ _ _ _ HC
              have q4 : W5.cell? ⟨w.heap.size, 4, none⟩ = some (.slice none 0 0) := cell_of_row _ _ _ _ _ _ HC
              exact bodyPost_ret (v := .tuple #[.agg #[.int .i64 0, .bool false, .int .i64 0, .slice none 0 0, .slice none 0 0], .int .i64 (e2 : Int)]) (by simp [results, Try.results34, go_sem, q0, q1, q2, q3, q4]) rfl HE4

/-- The document's in of any bytes that begin with an element and hold it whole. -/
theorem refIn_any : ∀ (f d : Nat) (l : List Nat) (A : Option Addr) (cp : Nat) (w : World) (K : Nat), 2 * l.length ≤ f → Src w K A cp l → K ≤ w.heap.size → l.length ≤ 16384 → cp ≤ 9223372036854775807 → (∀ x ∈ l, x < 256) →
    (hdT l).2.2 = 0 → (hdT l).1 ≤ l.length → d ≤ 23 → Calls Try.prog 34 #[.slice A l.length cp, .int .i64 (d : Int)] w (InPost (inP f l d) K w) := by
  intro f
  induction f using Nat.strongRecOn with
  | ind f IH =>
  intro d l A cp w K hf hs hK hl hcp hby hH hA hd
  obtain ⟨a1, a2, a3, a4, a5⟩ := hdT_ok l hby hH
  obtain ⟨b, off, rfl, hbK, hc⟩ := hs.plain (by omega)
  clear hc
  rcases f with _ | f
  · omega
  have hI : inP (f + 1) l d = if (rdT l).2.1 = false then (⟨((rdT l).1 : Nat), false, ((rdT l).2.2.1 : Nat), (l.take (hdT l).1).drop (hdT l).2.1, .nil⟩, 0)
      else madeP (rdT l).1 (rdT l).2.2.1 (rowP f ((l.take (hdT l).1).drop (hdT l).2.1) d) := by
    rw [inP]
    unfold madeP
    split
    · rfl
    · rfl
  rw [hI]
  obtain ⟨⟨c, m, n, u, er⟩, hT⟩ : ∃ q, q = rdT l := ⟨_, rfl⟩
  obtain ⟨⟨al, fr, e0⟩, hD⟩ : ∃ q, q = hdT l := ⟨_, rfl⟩
  rw [← hT, ← hD]
  rw [← hD] at hH hA a2 a3 a4 a5
  simp only [] at hH hA a2 a3 a4 a5 ⊢
  subst hH
  cases m
  · rw [if_pos rfl]
    exact in_prim b off cp d c n u er al fr l w K hK hs (by omega) hcp hby hT.symm hD.symm a3 hA
  · rw [if_neg (by simp)]
    refine in_made b off cp d c n u er al fr f l w K hK hs (by omega) hcp hby hT.symm hD.symm a3 hA a4 hd (by omega) ?_
    intro f1 r o c1 w1 h1 h2 h3 h4 h5 h6 h7 h8 h9 h10
    have := IH f1 (by omega) (d + 1) r (some ⟨b, o, none⟩) c1 w1 K h2 h3 h4 h5 h6 h7 h8 h9 h10
    simpa using this
end Go.Proofs.Ytgdoepkoakpnbaa
