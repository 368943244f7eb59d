/-
  The program's decode: an element that holds others.
-/
import Derived.Test.YtgdoepkoakpnbaaDec1
import Derived.Test.YtgdoepkoakpnbaaBerMade
import Derived.WalkLawsBesides
import Derived.Deep.RegionHeldLaw
import Derived.Deep.AppendLies
import Derived.BigRegion
namespace Go.Proofs.Ytgdoepkoakpnbaa
open Go.RowKit

/-- An operation taken first, the frame written out. -/
theorem takeL {P : Program} {md : Region.Mode} {ops : Array Oper} {Q : Exit → Act → World → Prop} {S : World → Prop} (i d : Nat) {oi : Oper} {v : Value} {fuel : Nat} {listed : Array Bool} {l : List Value} {df : List Deferred} {w : World} (hi : ops[i]? = some oi) (hd : oi.dst = some d)
    (hs : Region.noSelect ops = true) (hf : Region.free md ops listed i = true) (hr : (Region.ready md ops listed).contains i = true)
    (hQ : ∀ c a w, Q (.panic c) (a.put oi.dst v) w → Q (.panic c) a w) (hy : YieldsIf P ops S oi v ⟨l.toArray, df⟩) (hS : S w)
    (h : wpAnyH P md ops Q S fuel (listed.setIfInBounds i true) ⟨(l.set d v).toArray, df⟩ w) : wpAnyH P md ops Q S (fuel + 1) listed ⟨l.toArray, df⟩ w := by
  refine wpAnyH_take hi hs hf hr hQ hy hS ?_
  rw [hd]
  unfold Act.put
  simpa using h
theorem info_ber : (Try.prog.info? 27).map (fun i => (i.zero, i.size, i.bytes)) = some (some (.agg #[.int .i64 0, .bool false, .int .i64 0, .slice none 0 0, .slice none 0 0]), 5, 72) := by kernel_rfl

structure DecInv (c n : Int) (w wr : World) (ks : List El) (V : Value) : Prop where
  below : Below w.heap.size w wr
  size : w.heap.size + 3 ≤ wr.heap.size
  res : wr.heap[w.heap.size + 1]? = some (.cells #[.int .i64 0, .bool false, .int .i64 0, .slice none 0 0, .slice none 0 0] 27 (0, 0))
  out : wr.heap[w.heap.size + 2]? = some (.cells #[.int .i64 c, .bool true, .int .i64 n, .slice none 0 0, V] 27 (0, 0))
  row : RowP 27 wr (w.heap.size + 3) V ks
/-- What holds at the head of each round. -/
structure DecRel (K c n d b : Nat) (w wr : World) (R : List El × Nat) (r : List Nat) (ks : List El) (o c1 f : Nat) (V : Value) : Prop where
  inv : DecInv (c : Int) (n : Int) w wr ks V
  src : Src w K (some ⟨b, o, none⟩) c1 r
  cap : c1 ≤ 9223372036854775807
  byt : ∀ x ∈ r, x < 256
  len : ks.length + r.length ≤ 16384
  fuel : 2 * r.length + 1 ≤ f
  eq : R = more2 ks (rowP f r d)
theorem dec_err {K c n d b : Nat} {w wr W : World} {R : List El × Nat} {r : List Nat} {ks : List El} {o c1 f : Nat} {V : Value} (h : DecRel K c n d b w wr R r ks o c1 f V) (hb : Below wr.heap.size wr W) (e : Nat) (he : R = ([], e)) (h0 : e ≠ 0) :
    DecPost (madeP c n R) w (errP e) W := by
  subst he
  unfold madeP
  rw [if_pos h0]
  exact ⟨fun h1 => absurd h1 h0, fun _ => rfl, h.inv.below.trans (hb.mono (by have := h.inv.size; omega))⟩
theorem dec_end {K c n d b : Nat} {w wr : World} {R : List El × Nat} {r : List Nat} {ks : List El} {o c1 f : Nat} {A : Option Addr} {d1 : Nat} (h : DecRel K c n d b w wr R r ks o c1 f (.slice A ks.length d1)) (hr : r = []) :
    DecPost (madeP c n R) w (.returned (.agg #[.int .i64 (c : Int), .bool true, .int .i64 (n : Int), .slice none 0 0, .slice A ks.length d1]))
      (set5 wr (w.heap.size + 1) (.int .i64 (c : Int)) (.bool true) (.int .i64 (n : Int)) (.slice none 0 0) (.slice A ks.length d1)) := by
  have he := h.eq
  subst hr
  rw [rowP_nil] at he
  have he' : R = (ks, 0) := by rw [he]; unfold more2; simp
  subst he'
  unfold madeP
  rw [if_neg (by simp)]
  obtain ⟨A', c', hv, hsl⟩ := h.inv.row.sl
  injection hv with hv1 hv2 hv3
  subst hv1 hv3
  have hsz := h.inv.size
  refine ⟨fun _ => ⟨none, 0, A, d1, ?_, ⟨⟨Nat.le_refl _, fun _ => rfl, fun _ e => by cases e⟩, (hsl.keep fun p hp => set5_other _ _ _ _ _ _ _ p ?_).more fun b hb => ?_⟩⟩, fun h => absurd rfl h, set5_below h.inv.below (by omega) _ _ _ _ _⟩
  · unfold elV El.kids
    simp only [Fo.list_of]
    rfl
  · have := hp.1
    omega
  · exact ⟨by have := hb.1; omega, hb.2.set5 _ _ _ _ _ _⟩

theorem dec_step {r : El} {c n : Int} {w wr w5 w6 : World} {ks : List El} {V : Value} {Ab2 : Option Addr} {cb2 : Nat} {A3 : Option Addr} {c3 g cap : Nat} {cs : List Value}
    (HI : DecInv c n w wr ks V) (hb5 : Below wr.heap.size wr w5)
    (hk : ElIn w5 (New wr.heap.size w5) r Ab2 cb2 A3 c3) (hcs : cs.length = ks.length * 5) (hV : ∀ b, V.ownBlock = some b → w.heap.size + 3 ≤ b ∧ b < wr.heap.size)
    (hrow : ∀ (i : Nat) (hi : i < ks.length), ∃ Ab cb Ak ck, (∀ j, j < 5 → cs[i * 5 + j]? = (el5 ks[i] Ab cb Ak ck)[j]?) ∧ ElIn wr (RowC wr (w.heap.size + 3) V) ks[i] Ab cb Ak ck)
    (hown : w6.ownsRow (w.heap.size + 3) 27 5 (.slice (some ⟨g, 0, none⟩) (ks.length + 1) cap) (ks.length + 1) (cs ++ [.int .i64 r.c, .bool r.m, .int .i64 r.n, .slice Ab2 r.b.length cb2, .slice A3 r.kids.length c3]))
    (hg : w5.grownBy w6 V.ownBlock) (hat : V.ownBlock = some g ∨ g = w5.heap.size) :
    DecInv c n w (w6.setCell ⟨w.heap.size + 2, 4, none⟩ (.slice (some ⟨g, 0, none⟩) (ks.length + 1) cap)) (ks ++ [r]) (.slice (some ⟨g, 0, none⟩) (ks.length + 1) cap) := by
  have hsz := HI.size
  have hs5 := hb5.size
  have hs6 := hg.size
  have hVb : ∀ b, V.ownBlock = some b → w.heap.size + 3 ≤ b := fun b hb => (hV b hb).1
  have hblk : ∀ b, b < w.heap.size + 3 → w6.heap[b]? = wr.heap[b]? := by
    intro b hb
    rw [hg.block b (by omega) (fun e => by have := hVb b e.symm; omega), hb5.block b (by omega)]
  refine ⟨?_, ?_, ?_, ?_, ?_⟩
  · refine Below.setCell ?_ (by show w.heap.size ≤ w.heap.size + 2; omega) _
    refine HI.below.trans ?_
    refine (hb5.mono (by omega)).trans ?_
    exact (Below.refl _ _).grown hg (by omega) (fun b hb => by have := hVb b hb; omega)
  · have : (w6.setCell ⟨w.heap.size + 2, 4, none⟩ (.slice (some ⟨g, 0, none⟩) (ks.length + 1) cap)).heap.size = w6.heap.size := by simp [World.setCell]
    rw [this]
    omega
  · rw [_root_.Go.heap_setCell_other _ _ _ _ (by show w.heap.size + 1 ≠ w.heap.size + 2; omega), hblk _ (by omega)]
    exact HI.res
  · rw [_root_.Go.heap_setCell_same _ _ _ _ _ _ ((hblk _ (by omega)).trans HI.out)]
    rfl
  · have hrow5 : ∀ (i : Nat) (hi : i < ks.length), ∃ Ab cb Ak ck, (∀ j, j < 5 → cs[i * 5 + j]? = (el5 ks[i] Ab cb Ak ck)[j]?) ∧ ElIn w5 (RowC w5 (w.heap.size + 3) V) ks[i] Ab cb Ak ck := by
      intro i hi
      obtain ⟨a1, a2, a3, a4, a5, a6⟩ := hrow i hi
      exact ⟨a1, a2, a3, a4, a5, (a6.keep fun p hp => hb5.cell hp.2.1.lt).more fun b hb => ⟨hb.1, hb.2.1.below hb5 hb.2.1.lt, hb.2.2⟩⟩
    have hel : ElIn w5 (RowC w5 (w.heap.size + 3) V) r Ab2 cb2 A3 c3 := by
      refine hk.more fun b hb => ⟨by have := hb.1; omega, hb.2, fun e => ?_⟩
      have := (hV b e.symm).2
      have := hb.1
      omega
    have hsn := RowP.snoc (T := 27) (w := w5) (w' := w6) (base := w.heap.size + 3) (g := g) (cap := cap) (v := V) (l := ks) (e := r) (Ab := Ab2) (cb := cb2) (Ak := A3) (ck := c3) (cs := cs)
      hown hcs hrow5 hel hg hat
    exact hsn.set _ _ (by show w.heap.size + 2 < w.heap.size + 3; omega)

set_option maxRecDepth 8000 in
set_option maxHeartbeats 1600000 in
theorem dec_made (b off cp d c n al fr f : Nat) (l : List Nat) (w : World) (K : Nat) (hK : K ≤ w.heap.size) (hs : Src w K (some ⟨b, off, none⟩) cp l) (hcp : cp ≤ 9223372036854775807) (hby : ∀ x ∈ l, x < 256)
    (h1 : fr ≤ al) (h2 : al ≤ l.length) (h3 : al ≤ 16384) (hd : d ≤ 23) (hf : 2 * (al - fr) + 1 ≤ f)
    (ih : ∀ (f1 : Nat) (r : List Nat) (o c1 : Nat) (w1 : World), f1 < f → 2 * (hdT r).1 ≤ f1 → Src w1 K (some ⟨b, o, none⟩) c1 r → K ≤ w1.heap.size → r.length ≤ 1048600 → c1 ≤ 9223372036854775807 → (∀ x ∈ r, x < 256) → (hdT r).2.2 = 0 → (hdT r).1 ≤ r.length → d + 1 ≤ 23 →
      Calls Try.prog 33 #[.slice (some ⟨b, o, none⟩) r.length c1, headV r, .int .i64 ((d : Int) + 1)] w1 (DecPost (inP f1 (r.take (hdT r).1) (d + 1)) w1)) :
    Calls Try.prog 33 #[.slice (some ⟨b, off, none⟩) l.length cp, .agg #[.int .i64 (c : Int), .bool true, .int .i64 (n : Int), .int .i64 (fr : Int), .int .i64 (al : Int)], .int .i64 (d : Int)] w (DecPost (madeP c n (rowP f ((l.take al).drop fr) d)) w) := by
  obtain ⟨i0, hi, hz0, hz1, hz2⟩ := info_parts info_ber
  have hlen : ((l.take al).drop fr).length = al - fr := by rw [List.length_drop, List.length_take]; omega
  have hcap := hs.le
  have hbI : ∀ x ∈ (l.take al).drop fr, x < 256 := fun x hx => hby x (List.mem_of_mem_take (List.mem_of_mem_drop hx))
  obtain ⟨R, hR⟩ : ∃ R, R = rowP f ((l.take al).drop fr) d := ⟨_, rfl⟩
  rw [← hR]
  have hinit : ∀ o c1, (o = off + fr ∧ c1 = cp - fr ∨ fr = al) → al - fr ≤ c1 → c1 ≤ 9223372036854775807 → DecRel K c n d b w (((w.alloc (.cells #[.int .i64 (c : Int), .bool true, .int .i64 (n : Int), .int .i64 (fr : Int), .int .i64 (al : Int)] 71)).alloc (.cells #[.int .i64 0, .bool false, .int .i64 0, .slice none 0 0, .slice none 0 0] 27)).alloc (.cells #[.int .i64 (c : Int), .bool true, .int .i64 (n : Int), .slice none 0 0, .slice none 0 0] 27)) R ((l.take al).drop fr) [] o c1 f (.slice none 0 0) := by
    intro o c1 hc1 hc2 hc3
    refine ⟨⟨by go_grown, by simp, ?_, ?_, RowP.nil _ _ _⟩, ?_, hc3, hbI, by rw [hlen]; simp; omega, by rw [hlen]; omega, ?_⟩
    · rw [Below.heap_alloc _ _ _ (by simp)]
      exact heap_alloc_new (w.alloc _) _ |> (by simpa using ·)
    · exact heap_alloc_new ((w.alloc _).alloc _) _ |> (by simpa using ·)
    · rcases hc1 with ⟨rfl, rfl⟩ | h
      · exact (hs.take al).behind (by rw [List.length_take]; omega)
      · have : (l.take al).drop fr = [] := List.eq_nil_of_length_eq_zero (by rw [hlen]; omega)
        rw [this]
        exact ⟨by simp, (fun e => by cases e), fun ad e => ⟨fun h0 => absurd h0 (by simp), fun j m hj => by simp at hj⟩⟩
    · rw [hR, more2_nil _ (rowP_err _ _ _)]
  replace hs := Lib.hid hs
  replace hinit := Lib.hid hinit
  replace hR := Lib.hid hR
  replace ih := Lib.hid ih
  replace hby := Lib.hid hby
  replace hbI := Lib.hid hbI
  by_cases hfc : fr = cp
  · have hac : al = cp := by omega
    have hemp : (l.take al).drop fr = [] := List.eq_nil_of_length_eq_zero (by rw [hlen]; omega)
    have hinit2 := Lib.hid (hinit.out off 0 (.inr (by omega)) (by omega) (by omega))
    rw [hemp] at hinit2
    clear hR hbI hemp hlen hinit
    subst hfc
    subst hac
    go_enter Try.func33, Try.ntmps33
    go_wp2_with fail
    go_loopw [8] (fun bv wr => bv = .slice (some ⟨b, off, none⟩) 0 0 ∧ Hid (DecRel K c n d b w wr R [] [] off 0 f (.slice none 0 0))) (fun _ _ => 0)
    case atStart => exact ⟨by simp, hinit2⟩
    case round =>
      obtain ⟨rfl, HR⟩ := hrel
      clear hs hinit2
      have hO := HR.out.inv.out
      obtain ⟨o0, o1, o2, o3, o4, _⟩ := cells5 hO
      have hZ := HR.out.inv.res
      obtain ⟨r0, r1, r2, r3, r4, f0, f1', f2', f3', f4'⟩ := cells5 hZ
      replace hO := Lib.hid hO
      replace hZ := Lib.hid hZ
      have HE := Lib.hid (dec_end (ks := []) (A := none) (d1 := 0) HR.out rfl)
      simp only [List.length_nil] at HE
      go_wp2_with fail
      have HX : set5 wr (w.heap.size + 1) (.int .i64 (c : Int)) (.bool true) (.int .i64 (n : Int)) (.slice none 0 0) (.slice none 0 0) = ((((wr.setCell ⟨w.heap.size + 1, 0, none⟩ (.int .i64 (c : Int))).setCell ⟨w.heap.size + 1, 1, none⟩ (.bool true)).setCell ⟨w.heap.size + 1, 2, none⟩ (.int .i64 (n : Int))).setCell ⟨w.heap.size + 1, 3, none⟩ (.slice none 0 0)).setCell ⟨w.heap.size + 1, 4, none⟩ (.slice none 0 0) := rfl
      rw [← HX]
      have HC := set5_same hZ.out (.int .i64 (c : Int)) (.bool true) (.int .i64 (n : Int)) (.slice none 0 0) (.slice none 0 0)
      obtain ⟨W5, hW5⟩ : ∃ W5, W5 = set5 wr (w.heap.size + 1) (.int .i64 (c : Int)) (.bool true) (.int .i64 (n : Int)) (.slice none 0 0) (.slice none 0 0) := ⟨_, rfl⟩
      rw [← hW5] at HE HC ⊢
      clear HX hW5 o0 o1 o2 o3 o4 r0 r1 r2 r3 r4 f0 f1' f2' f3' f4'
      obtain ⟨q0, q1, q2, q3, q4, _⟩ := cells5 HC
      exact bodyPost_ret (v := .agg #[.int .i64 (c : Int), .bool true, .int .i64 (n : Int), .slice none 0 0, .slice none 0 0]) (by simp [results, Try.results33, go_sem, q0, q1, q2, q3, q4]) rfl HE.out
  · go_enter Try.func33, Try.ntmps33
    go_wp2_with fail
    go_loopw [8] (fun bv wr => ∃ (r : List Nat) (ks : List El) (o c1 f1 : Nat) (A : Option Addr) (d1 : Nat), bv = .slice (some ⟨b, o, none⟩) r.length c1 ∧ f1 ≤ f ∧ Hid (DecRel K c n d b w wr R r ks o c1 f1 (.slice A ks.length d1))) (fun bv _ => lenV bv)
    case atStart => exact ⟨(l.take al).drop fr, [], off + fr, cp - fr, f, none, 0, by rw [hlen], Nat.le_refl _, Lib.hid (hinit.out _ _ (.inl ⟨rfl, rfl⟩) (by omega) (by omega))⟩
    case round =>
      obtain ⟨r, ks, o, c1, f1, A, d1, rfl, hf1, HR⟩ := hrel
      clear hinit hs
      have hsz : w.heap.size + 3 ≤ wr.heap.size := HR.out.inv.size
      have hO := HR.out.inv.out
      obtain ⟨o0, o1, o2, o3, o4, _, _, _, _, j4⟩ := cells5 hO
      have hZ := HR.out.inv.res
      obtain ⟨r0, r1, r2, r3, r4, f0, f1', f2', f3', f4'⟩ := cells5 hZ
      replace hO := Lib.hid hO
      replace hZ := Lib.hid hZ
      by_cases hr0 : r.length = 0
      · have HE := Lib.hid (dec_end HR.out (List.eq_nil_of_length_eq_zero hr0))
        have k0 : decide (0 < (r.length : Int)) = false := decide_eq_false (by omega)
        go_wp2_with fail
        have HX : set5 wr (w.heap.size + 1) (.int .i64 (c : Int)) (.bool true) (.int .i64 (n : Int)) (.slice none 0 0) (.slice A ks.length d1) = ((((wr.setCell ⟨w.heap.size + 1, 0, none⟩ (.int .i64 (c : Int))).setCell ⟨w.heap.size + 1, 1, none⟩ (.bool true)).setCell ⟨w.heap.size + 1, 2, none⟩ (.int .i64 (n : Int))).setCell ⟨w.heap.size + 1, 3, none⟩ (.slice none 0 0)).setCell ⟨w.heap.size + 1, 4, none⟩ (.slice A ks.length d1) := rfl
        rw [← HX]
        have HC := set5_same hZ.out (.int .i64 (c : Int)) (.bool true) (.int .i64 (n : Int)) (.slice none 0 0) (.slice A ks.length d1)
        obtain ⟨W5, hW5⟩ : ∃ W5, W5 = set5 wr (w.heap.size + 1) (.int .i64 (c : Int)) (.bool true) (.int .i64 (n : Int)) (.slice none 0 0) (.slice A ks.length d1) := ⟨_, rfl⟩
        rw [← hW5] at HE HC ⊢
        clear HX hW5 o0 o1 o2 o3 o4 r0 r1 r2 r3 r4 f0 f1' f2' f3' f4'
        obtain ⟨q0, q1, q2, q3, q4, _⟩ := cells5 HC
        exact bodyPost_ret (v := .agg #[.int .i64 (c : Int), .bool true, .int .i64 (n : Int), .slice none 0 0, .slice A ks.length d1]) (by simp [results, Try.results33, go_sem, q0, q1, q2, q3, q4]) rfl HE.out
      · have k0 : decide (0 < (r.length : Int)) = true := decide_eq_true (by omega)
        have hfu := HR.out.fuel
        have hle := HR.out.len
        have hrn : r ≠ [] := fun e => hr0 (by rw [e]; rfl)
        obtain ⟨f2, rfl⟩ : ∃ f2, f1 = f2 + 1 := ⟨f1 - 1, by omega⟩
        have hRr : R = more2 ks (rowP (f2 + 1) r d) := HR.out.eq
        rw [rowP, if_neg hrn] at hRr
        clear r0 r1 r2 r3 r4 f0 f1' f2' f3' f4' o0 o1 o2 o3
        by_cases h24 : 24 ≤ d + 1
        · rw [if_pos h24] at hRr
          have HE := Lib.hid (fun W hb => dec_err (W := W) HR.out hb 15 (by rw [hRr]; rfl) (by decide))
          have k24 : decide (24 ≤ (d : Int) + 1) = true := decide_eq_true (by omega)
          clear hRr
          go_wp2_with fail
          exact ⟨rfl, HE.out _ (Below.refl _ _)⟩
        · rw [if_neg h24] at hRr
          have k24 : decide (24 ≤ (d : Int) + 1) = false := decide_eq_false (by omega)
          have CN := readHead_any (some ⟨b, o, none⟩) c1 r wr K (HR.out.src.below (HR.out.inv.below.mono hK)) (by omega) (by omega) HR.out.cap HR.out.byt
          have hHO := hdT_ok r HR.out.byt
          have hHT := hdT_take r HR.out.byt
          have CI := fun w1 => ih.out f2 r o c1 w1
          unfold headV at CN CI
          obtain ⟨⟨rc, rm, rk, ru, re⟩, hq1⟩ : ∃ q, q = rdT r := ⟨_, rfl⟩
          obtain ⟨⟨nn, ff, ee⟩, hq⟩ : ∃ q, q = hdT r := ⟨_, rfl⟩
          rw [← hq] at hRr CN hHO hHT CI
          rw [← hq1] at CN CI hHO
          simp only [] at hRr CN hHO hHT CI
          replace hHO := Lib.hid hHO
          replace hHT := Lib.hid hHT
          replace hq := Lib.hid hq
          replace hq1 := Lib.hid hq1
          by_cases hee : ee ≠ 0 ∨ r.length < nn
          · rw [if_pos hee] at hRr
            have HE := Lib.hid (fun W hb => dec_err (W := W) HR.out hb 11 (by rw [hRr]; rfl) (by decide))
            clear hRr CI
            by_cases he0 : ee = 0
            · subst he0
              rw [if_pos rfl] at CN
              replace CN := Lib.hid CN
              have kn : decide ((r.length : Int) < (nn : Int)) = true := decide_eq_true (by omega)
              go_wp2_with fail
              refine CN.out.mono ?_
              rintro en w2 ⟨rfl, hb2⟩
              have hzw := hb2.size
              have hB2 : Hid (∀ ob : Obj, Below wr.heap.size wr (w2.alloc ob)) := Lib.hid fun ob => hb2.alloc hzw ob
              replace hb2 := Lib.hid hb2
              go_wp2_with fail
              exact ⟨rfl, HE.out _ (hB2.out _)⟩
            · rw [if_neg he0] at CN
              replace CN := Lib.hid CN
              have kn : ((ee : Int) != 0) = true := by simp; omega
              go_wp2_with fail
              refine CN.out.mono ?_
              rintro en w2 ⟨rfl, hb2⟩
              have hzw := hb2.size
              have hB2 : Hid (∀ ob : Obj, Below wr.heap.size wr (w2.alloc ob)) := Lib.hid fun ob => hb2.alloc hzw ob
              replace hb2 := Lib.hid hb2
              go_wp2_with fail
              exact ⟨rfl, HE.out _ (hB2.out _)⟩
          · rw [if_neg hee] at hRr
            have hez : ee = 0 := by omega
            have hnl : nn ≤ r.length := by omega
            clear hee
            subst hez
            rw [if_pos rfl] at CN CI
            have kn : decide ((r.length : Int) < (nn : Int)) = false := decide_eq_false (by omega)
            obtain ⟨hh1, hh2, hh3, hh4, hh5⟩ := hHO.out rfl
            replace CI : ∀ w', Below wr.heap.size wr w' → Calls Try.prog 33 #[.slice (some ⟨b, o, none⟩) r.length c1, .agg #[.int .i64 (rc : Int), .bool rm, .int .i64 (rk : Int), .int .i64 (ff : Int), .int .i64 (nn : Int)], .int .i64 ((d : Int) + 1)] w' (DecPost (inP f2 (r.take nn) (d + 1)) w') := by
              intro w' hb
              have hsz1 := hb.size
              exact CI w' (by omega) (by omega) (HR.out.src.below ((HR.out.inv.below.trans (hb.mono (by omega))).mono hK)) (by omega) (by omega) HR.out.cap HR.out.byt rfl hnl (by omega)
            obtain ⟨⟨kid, e2⟩, hk2⟩ : ∃ q, q = inP f2 (r.take nn) (d + 1) := ⟨_, rfl⟩
            rw [← hk2] at CI hRr
            simp only [] at CI hRr
            replace CN := Lib.hid CN
            replace CI := Lib.hid CI
            clear hk2
            have KEEP : Hid (∀ W2 : World, Below wr.heap.size wr W2 → ∀ HB : Nat, wr.heap.size ≤ HB → W2.heap[HB]? = some (.cells #[.int .i64 (rc : Int), .bool rm, .int .i64 (rk : Int), .int .i64 (ff : Int), .int .i64 (nn : Int)] 71 (0, 0)) → ∀ W, Below W2.heap.size W2 W →
                (W.cell? ⟨w.heap.size + 2, 4, none⟩ = some (.slice A ks.length d1) ∧ W.cell? ⟨HB, 0, none⟩ = some (.int .i64 (rc : Int)) ∧ W.cell? ⟨HB, 1, none⟩ = some (.bool rm) ∧ W.cell? ⟨HB, 2, none⟩ = some (.int .i64 (rk : Int)) ∧ W.cell? ⟨HB, 3, none⟩ = some (.int .i64 (ff : Int)) ∧ W.cell? ⟨HB, 4, none⟩ = some (.int .i64 (nn : Int)))) := by
              refine Lib.hid fun W2 h2 HB hHB hcell W hW => ?_
              have hlt : HB < W2.heap.size := (Array.getElem?_eq_some_iff.1 hcell).1
              have hcW : W.heap[HB]? = _ := (hW.block HB hlt).trans hcell
              obtain ⟨y0, y1, y2, y3, y4, _⟩ := cells5 hcW
              have hs2 := h2.size
              refine ⟨?_, y0, y1, y2, y3, y4⟩
              rw [hW.cell (p := ⟨w.heap.size + 2, 4, none⟩) (by show w.heap.size + 2 < _; omega), h2.cell (p := ⟨w.heap.size + 2, 4, none⟩) (by show w.heap.size + 2 < _; omega)]
              exact o4
            go_wp2_with fail
            refine CN.out.mono ?_
            rintro en w2 ⟨rfl, hb2⟩
            have hzw := hb2.size
            have hB2 : Hid (∀ ob : Obj, Below wr.heap.size wr (w2.alloc ob)) := Lib.hid fun ob => hb2.alloc hzw ob
            have hne : w2.heap.size ≠ w.heap.size + 2 := by omega
            replace hb2 := Lib.hid hb2
            go_wp2_with fail
            obtain ⟨W2, hW2⟩ : ∃ W2, W2 = w2.alloc (.cells #[.int .i64 (rc : Int), .bool rm, .int .i64 (rk : Int), .int .i64 (ff : Int), .int .i64 (nn : Int)] 71) := ⟨_, rfl⟩
            have hBW : Below wr.heap.size wr W2 := by rw [hW2]; exact hB2.out _
            have hHW : W2.heap[w2.heap.size]? = some (.cells #[.int .i64 (rc : Int), .bool rm, .int .i64 (rk : Int), .int .i64 (ff : Int), .int .i64 (nn : Int)] 71 (0, 0)) := by rw [hW2]; exact heap_alloc_new w2 _
            have hsW : wr.heap.size ≤ W2.heap.size := hBW.size
            have hlW : w2.heap.size < W2.heap.size := by rw [hW2]; simp
            rw [← hW2]
            have KP := Lib.hid (KEEP.out W2 hBW w2.heap.size hzw hHW)
            obtain ⟨s0, s1, s2, s3, s4, s5⟩ := KP.out W2 (Below.refl _ _)
            replace hW2 := Lib.hid hW2
            replace hHW := Lib.hid hHW
            replace hBW := Lib.hid hBW
            clear KEEP CN hB2
            by_cases he2 : e2 = 0
            · subst he2
              rw [if_neg (by simp), more2_cons] at hRr
              have fin : ∀ (o2 c2 : Nat) (wN : World) (V' : Value), DecInv (c : Int) (n : Int) w wN (ks ++ [kid]) V' → Src w K (some ⟨b, o2, none⟩) c2 (r.drop nn) → c2 ≤ 9223372036854775807 → DecRel K c n d b w wN R (r.drop nn) (ks ++ [kid]) o2 c2 f2 V' := by
                intro o2 c2 wN V' a1 a2 a3
                exact ⟨a1, a2, a3, fun x hx => HR.out.byt x (List.mem_of_mem_drop hx), by rw [List.length_append, List.length_drop]; simp; omega, by rw [List.length_drop]; omega, hRr⟩
              replace fin := Lib.hid fin
              replace hRr := Lib.hid hRr
              obtain ⟨cs, hrow1, hrow2, hrow3, hrow4⟩ := HR.out.inv.row.parts
              have hcp1 := HR.out.cap
              have hcl := HR.out.src.le
              replace hrow1 := Lib.hid hrow1
              replace hrow2 := Lib.hid hrow2
              replace hrow3 := Lib.hid hrow3
              replace hrow4 := Lib.hid hrow4
              have STEP6 : Hid (∀ (w3 w6 : World) (ob : Obj), Below W2.heap.size W2 w3 → (w3.alloc ob).grownBy w6 (Value.slice A ks.length d1).ownBlock →
                  (w6.cell? ⟨w.heap.size + 2, 4, none⟩ = some (.slice A ks.length d1) ∧ w6.frozen? ⟨w.heap.size + 2, 4, none⟩ = false ∧ w6.cell? ⟨w2.heap.size, 0, none⟩ = some (.int .i64 (rc : Int)) ∧ w6.cell? ⟨w2.heap.size, 1, none⟩ = some (.bool rm) ∧ w6.cell? ⟨w2.heap.size, 2, none⟩ = some (.int .i64 (rk : Int)) ∧ w6.cell? ⟨w2.heap.size, 3, none⟩ = some (.int .i64 (ff : Int)) ∧ w6.cell? ⟨w2.heap.size, 4, none⟩ = some (.int .i64 (nn : Int)))) := by
                refine Lib.hid fun w3 w6 ob hb3 hg => ?_
                have hz3 := hb3.size
                have hX : w6.heap[w.heap.size + 2]? = some (.cells #[.int .i64 (c : Int), .bool true, .int .i64 (n : Int), .slice none 0 0, .slice A ks.length d1] 27 (0, 0)) := by
                  rw [hg.block _ (by simp; omega) (fun e => by have := (hrow3.out _ e.symm).1; omega), Below.heap_alloc _ _ _ (by omega), hb3.block _ (by omega), hBW.out.block _ (by omega)]
                  exact hO.out
                have hY : w6.heap[w2.heap.size]? = some (.cells #[.int .i64 (rc : Int), .bool rm, .int .i64 (rk : Int), .int .i64 (ff : Int), .int .i64 (nn : Int)] 71 (0, 0)) := by
                  rw [hg.block _ (by simp; omega) (fun e => by have := (hrow3.out _ e.symm).2; omega), Below.heap_alloc _ _ _ (by omega), hb3.block _ (by omega)]
                  exact hHW.out
                obtain ⟨_, _, _, _, x4, _, _, _, _, g4⟩ := cells5 hX
                obtain ⟨y0, y1, y2, y3, y4, _⟩ := cells5 hY
                exact ⟨x4, g4, y0, y1, y2, y3, y4⟩
              have HWD := Lib.hid (IntWalk.i64_in ((d : Int) + 1) (by omega))
              go_region_law
                (first
                  | (go_simp; go_at_call 33; rw [HWD.out]; (with_reducible refine (CI.out _ (by first | exact hBW.out.drew | exact hBW.out.drew.drew)).mono ?_); rintro en w3 ⟨hok, _, hb3⟩; obtain ⟨Ab2, cb2, A3, c3, rfl, hkin⟩ := hok rfl; have HB3 := Lib.hid (show Below W2.heap.size W2 w3 from (Below.refl W2.heap.size W2).trans ⟨hb3.os, hb3.tape, hb3.output, hb3.size, hb3.block⟩); have hz3 := HB3.out.size; obtain ⟨t0, t1, t2, t3, t4, t5⟩ := KP.out w3 HB3.out; have tA : ∀ ob : Obj, (w3.alloc ob).cell? ⟨w.heap.size + 2, 4, none⟩ = some (.slice A ks.length d1) := fun ob => (World.cell?_alloc_lt _ _ _ (by show w.heap.size + 2 < _; omega)).trans t0; replace hkin := Lib.hid (show ElIn w3 (New W2.heap.size w3) kid Ab2 cb2 A3 c3 from hkin); unfold elV; clear hb3 hok)
                  | (refine step_append_lies _ rfl (.tmp 51) (.tmp 57) 25 rfl (w.heap.size + 3) 27 i0 _ 5 72 Try.underlying25 hi hz0 hz1 hz2 rfl (by decide) (.slice A ks.length d1) ks.length cs rfl (World.ownsRow.alloc (owns_below hrow1.out (hBW.out.trans (HB3.out.mono hsW))) _) ⟨w3.heap.size, 0, none⟩ 1 1 [.int .i64 kid.c, .bool kid.m, .int .i64 kid.n, .slice Ab2 kid.b.length cb2, .slice A3 kid.kids.length c3] rfl rfl (World.news_of_block (cs := #[.int .i64 kid.c, .bool kid.m, .int .i64 kid.n, .slice Ab2 kid.b.length cb2, .slice A3 kid.kids.length c3]) (fr := (0, 0)) (heap_alloc_new w3 _)) (el5_one kid Ab2 cb2 A3 c3) (by decide) (by simp only [maxLen]; omega) (by omega) (by simp; omega) _ rfl ?_; intro g cap w6 hown hg hat hgl; have HS := Lib.hid (dec_step (r := kid) HR.out.inv ((hBW.out.trans (HB3.out.mono hsW)).alloc (by omega) _) (((hkin.out.keep fun p hp => World.cell?_alloc_lt _ _ _ hp.2.lt).more fun x hx => ⟨by have := hx.1; omega, hx.2.alloc _⟩)) hrow2.out hrow3.out hrow4.out hown hg hat); obtain ⟨c6, f6, y0, y1, y2, y3, y4⟩ := STEP6.out w3 w6 _ HB3.out hg; have hg6 := Lib.hid hg; have hown6 := Lib.hid hown; have hat6 := Lib.hid hat; clear hg hown hat))
              all_goals
                have hln : (ks ++ [kid]).length = ks.length + 1 := by simp
                by_cases hnc : nn = c1
                · subst hnc
                  have HF := Lib.hid (fin.out o 0 _ _ HS.out ⟨by rw [List.length_drop]; omega, (fun e => by cases e), fun ad e => ⟨fun h0 => by rw [List.length_drop] at h0; omega, fun j m hj => by
                    have := (List.getElem?_eq_some_iff.1 hj).1
                    rw [List.length_drop] at this
                    omega⟩⟩ (by omega))
                  go_wp2_with fail
                  refine ⟨⟨r.drop nn, ks ++ [kid], o, 0, f2, some ⟨g, 0, none⟩, cap, ?_, by omega, by rw [hln]; exact HF⟩, ?_⟩
                  · rw [List.length_drop]
                    congr 1
                    omega
                  · simp only [lenV]
                    omega
                · have HF := Lib.hid (fin.out (o + nn) (c1 - nn) _ _ HS.out (HR.out.src.behind hnl) (by omega))
                  go_wp2_with fail
                  refine ⟨⟨r.drop nn, ks ++ [kid], o + nn, c1 - nn, f2, some ⟨g, 0, none⟩, cap, ?_, by omega, by rw [hln]; exact HF⟩, ?_⟩
                  · rw [List.length_drop]
                  · simp only [lenV]
                    omega
            · rw [if_pos (by simpa using he2)] at hRr
              have hRe : R = ([], e2) := by rw [hRr]; unfold more2; rw [if_pos he2]
              have PE : Hid (∀ W3 : World, Below W2.drew.heap.size W2.drew W3 → DecPost (madeP c n R) w (errP e2) W3) := Lib.hid fun W3 h => dec_err HR.out (hBW.out.trans (Below.mono (Below.trans (Below.refl W2.heap.size W2).drew h) hsW)) e2 hRe he2
              have HWD := Lib.hid (IntWalk.i64_in ((d : Int) + 1) (by omega))
              replace hRr := Lib.hid hRr
              refine wp_region_held_drew (S := (fun W => W.cell? ⟨w.heap.size + 2, 4, none⟩ = some (.slice A ks.length d1) ∧ W.cell? ⟨w2.heap.size, 0, none⟩ = some (.int .i64 (rc : Int)) ∧ W.cell? ⟨w2.heap.size, 1, none⟩ = some (.bool rm) ∧ W.cell? ⟨w2.heap.size, 2, none⟩ = some (.int .i64 (rk : Int)) ∧ W.cell? ⟨w2.heap.size, 3, none⟩ = some (.int .i64 (ff : Int)) ∧ W.cell? ⟨w2.heap.size, 4, none⟩ = some (.int .i64 (nn : Int)))) (by kernel_rfl) ⟨s0, s1, s2, s3, s4, s5⟩ ?_
              intro hHeld
              refine takeL 0 50 (v := ?_) rfl rfl (by kernel_rfl) (by kernel_rfl) (by kernel_rfl) (fun _ _ _ h => h) (Or.inl ⟨by rfl, ?hy0⟩) hHeld ?rest0
              case hy0 => intro W hS; (try dsimp only at hS); go_simp; try (with_reducible rfl)
              dsimp only [List.set]
              refine takeL 1 51 (v := ?_) rfl rfl (by kernel_rfl) (by kernel_rfl) (by kernel_rfl) (fun _ _ _ h => h) (Or.inl ⟨by rfl, ?hy1⟩) hHeld ?rest1
              case hy1 => intro W hS; (try dsimp only at hS); go_simp; try (with_reducible rfl)
              dsimp only [List.set]
              refine takeL 2 52 (v := ?_) rfl rfl (by kernel_rfl) (by kernel_rfl) (by kernel_rfl) (fun _ _ _ h => h) (Or.inl ⟨by rfl, ?hy2⟩) hHeld ?rest2
              case hy2 => intro W hS; (try dsimp only at hS); go_simp; try (with_reducible rfl)
              dsimp only [List.set]
              refine takeL 3 53 (v := ?_) rfl rfl (by kernel_rfl) (by kernel_rfl) (by kernel_rfl) (fun _ _ _ h => h) (Or.inl ⟨by rfl, ?hy3⟩) hHeld ?rest3
              case hy3 => intro W hS; (try dsimp only at hS); go_simp; try (with_reducible rfl)
              dsimp only [List.set]
              refine takeL 4 54 (v := ?_) rfl rfl (by kernel_rfl) (by kernel_rfl) (by kernel_rfl) (fun _ _ _ h => h) (Or.inl ⟨by rfl, ?hy4⟩) hHeld ?rest4
              case hy4 => intro W hS; (try dsimp only at hS); go_simp; try (with_reducible rfl)
              dsimp only [List.set]
              refine takeL 5 55 (v := ?_) rfl rfl (by kernel_rfl) (by kernel_rfl) (by kernel_rfl) (fun _ _ _ h => h) (Or.inl ⟨by rfl, ?hy5⟩) hHeld ?rest5
              case hy5 => intro W hS; (try dsimp only at hS); go_simp; try (with_reducible rfl)
              dsimp only [List.set]
              refine wpAnyH_ready (rs := [6]) (by kernel_rfl) (by simp) ?_
              refine AllReadyH.cons rfl (fun K hK => ?_) AllReadyH.nil
              go_simp
              go_at_call 33
              rw [HWD.out]
              refine (CI.out _ hBW.out.drew).mono ?_
              rintro en w3 ⟨_, herr, hb3⟩
              obtain rfl := herr he2
              exact ⟨rfl, PE.out w3 hb3⟩

end Go.Proofs.Ytgdoepkoakpnbaa
