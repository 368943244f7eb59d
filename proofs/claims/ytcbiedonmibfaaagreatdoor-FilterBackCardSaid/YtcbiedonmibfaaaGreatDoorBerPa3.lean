/-
  Small laws, out of Dec2, Dec, Par, Par2, for a seat without the functions that those reach.
-/
import Derived.Test.YtcbiedonmibfaaaGreatDoorBerH3
import Derived.WalkLawsBesides
import Derived.Deep.RegionHeldLaw
import Derived.Deep.AppendLies
import Derived.BigRegion
import Derived.Defers
import Derived.Recover
import Derived.RegionTactic
import Derived.ChangeAlike
namespace Go.Proofs.YtcbiedonmibfaaaGreatDoor
open Go.RowKit
theorem takeL {P : Program} {md : Region.Mode} {ops : Array Oper} {Q : Exit → Act → World → Prop} {S : World → Prop} (i d : Nat) {oi : Oper} {v : Value} {fuel : Nat} {listed : Array Bool} {l : List Value} {df : List Deferred} {w : World} (hi : ops[i]? = some oi) (hd : oi.dst = some d)
 (hs : Region.noSelect ops = true) (hf : Region.free md ops listed i = true) (hr : (Region.ready md ops listed).contains i = true)
 (hQ : ∀ c a w, Q (.panic c) (a.put oi.dst v) w → Q (.panic c) a w) (hy : YieldsIf P ops S oi v ⟨l.toArray, df⟩) (hS : S w)
 (h : wpAnyH P md ops Q S fuel (listed.setIfInBounds i true) ⟨(l.set d v).toArray, df⟩ w) : wpAnyH P md ops Q S (fuel + 1) listed ⟨l.toArray, df⟩ w := by
 refine wpAnyH_take hi hs hf hr hQ hy hS ?_
 rw [hd]
 unfold Act.put
 simpa using h
theorem tk {P : Program} {md : Region.Mode} {ops : Array Oper} {Q : Exit → Act → World → Prop} {S : World → Prop} (i d : Nat) {oi : Oper} {v : Value} {fuel : Nat} {listed : Array Bool} {l l2 : List Value} {df : List Deferred} {w : World} (hS : S w)
  (h : wpAnyH P md ops Q S fuel (listed.setIfInBounds i true) ⟨l2.toArray, df⟩ w) (hi : ops[i]? = some oi := by rfl) (hd : oi.dst = some d := by rfl)
  (hs : Region.noSelect ops = true := by kernel_rfl) (hf : Region.free md ops listed i = true := by kernel_rfl) (hr : (Region.ready md ops listed).contains i = true := by kernel_rfl)
  (hQ : ∀ c a w, Q (.panic c) (a.put oi.dst v) w → Q (.panic c) a w := by exact fun _ _ _ h => h) (hg : Region.wanted oi (yielded ops (Act.mk l.toArray df).tmps) = true := by rfl)
  (hy : ∀ w, S w → (execOp (Act.mk l.toArray df).eval oi).run P w = .ok (.value v) w := by intro W hS; (try dsimp only at hS); go_simp; try (with_reducible rfl))
  (hl : l.set d v = l2 := by (dsimp only [List.set]; try rfl)) : wpAnyH P md ops Q S (fuel + 1) listed ⟨l.toArray, df⟩ w :=
 takeL i d hi hd hs hf hr hQ (Or.inl ⟨hg, hy⟩) hS (hl ▸ h)
theorem rdy {P : Program} {md : Region.Mode} {ops : Array Oper} {Q : Exit → Act → World → Prop} {S : World → Prop} (rs : List Nat) {fuel : Nat} {listed : Array Bool} {a : Act} {w : World} (h : AllReadyH P md ops Q S fuel listed a w rs) (hr : Region.ready md ops listed = rs := by kernel_rfl) (hne : rs ≠ [] := by simp) : wpAnyH P md ops Q S (fuel + 1) listed a w := wpAnyH_ready hr hne h
theorem info_ber : (Tryz.prog.info? 43).map (fun i => (i.zero, i.size, i.bytes)) = some (some (.agg #[.int .i64 0, .bool false, .int .i64 0, .slice none 0 0, .slice none 0 0]), 5, 72) := by kernel_rfl
structure DecInv (c n : Int) (w wr : World) (ks : List El) (V : Value) : Prop where
 below : Below w.heap.size w wr
 size : w.heap.size + 3 ≤ wr.heap.size
 res : wr.heap[w.heap.size + 1]? = some (.cells #[.int .i64 0, .bool false, .int .i64 0, .slice none 0 0, .slice none 0 0] 43 (0, 0))
 out : wr.heap[w.heap.size + 2]? = some (.cells #[.int .i64 c, .bool true, .int .i64 n, .slice none 0 0, V] 43 (0, 0))
 row : RowP 43 wr (w.heap.size + 3) V ks
structure DecRel (K c n d b : Nat) (w wr : World) (R : List El × Nat) (r : List Nat) (ks : List El) (o c1 f : Nat) (V : Value) : Prop where
 inv : DecInv (c : Int) (n : Int) w wr ks V
 src : Src w K (some ⟨b, o, none⟩) c1 r
 cap : c1 ≤ 9223372036854775807
 byt : ∀ x ∈ r, x < 256
 len : ks.length + r.length ≤ 16384
 fuel : 2 * r.length + 1 ≤ f
 eq : R = more2 ks (rowP f r d)
theorem dec_err {K c n d b : Nat} {w wr W : World} {R : List El × Nat} {r : List Nat} {ks : List El} {o c1 f : Nat} {V : Value} (h : DecRel K c n d b w wr R r ks o c1 f V) (hb : Below wr.heap.size wr W) (e : Nat) (he : R = ([], e)) (h0 : e ≠ 0) :
 DecPost (madeP c n R) w (errP e) W := by
 subst he
 unfold madeP
 rw [if_pos h0]
 exact ⟨fun h1 => absurd h1 h0, fun _ => rfl, h.inv.below.trans (hb.mono (by have := h.inv.size; omega))⟩
theorem dec_end {K c n d b : Nat} {w wr : World} {R : List El × Nat} {r : List Nat} {ks : List El} {o c1 f : Nat} {A : Option Addr} {d1 : Nat} (h : DecRel K c n d b w wr R r ks o c1 f (.slice A ks.length d1)) (hr : r = []) :
 DecPost (madeP c n R) w (.returned (.agg #[.int .i64 (c : Int), .bool true, .int .i64 (n : Int), .slice none 0 0, .slice A ks.length d1]))
  (set5 wr (w.heap.size + 1) (.int .i64 (c : Int)) (.bool true) (.int .i64 (n : Int)) (.slice none 0 0) (.slice A ks.length d1)) := by
 have he := h.eq
 subst hr
 rw [rowP_nil] at he
 have he' : R = (ks, 0) := by rw [he]; unfold more2; simp
 subst he'
 unfold madeP
 rw [if_neg (by simp)]
 obtain ⟨A', c', hv, hsl⟩ := h.inv.row.sl
 injection hv with hv1 hv2 hv3
 subst hv1 hv3
 have hsz := h.inv.size
 refine ⟨fun _ => ⟨none, 0, A, d1, ?_, ⟨⟨Nat.le_refl _, fun _ => rfl, fun _ e => by cases e⟩, (hsl.keep fun p hp => set5_other _ _ _ _ _ _ _ p ?_).more fun b hb => ?_⟩⟩, fun h => absurd rfl h, set5_below h.inv.below (by omega) _ _ _ _ _⟩
 · unfold elV El.kids
   simp only [Fo.list_of]
   rfl
 · have := hp.1
   omega
 · exact ⟨by have := hb.1; omega, hb.2.set5 _ _ _ _ _ _⟩
theorem dec_step {r : El} {c n : Int} {w wr w5 w6 : World} {ks : List El} {V : Value} {Ab2 : Option Addr} {cb2 : Nat} {A3 : Option Addr} {c3 g cap : Nat} {cs : List Value}
 (HI : DecInv c n w wr ks V) (hb5 : Below wr.heap.size wr w5)
 (hk : ElIn w5 (New wr.heap.size w5) r Ab2 cb2 A3 c3) (hcs : cs.length = ks.length * 5) (hV : ∀ b, V.ownBlock = some b → w.heap.size + 3 ≤ b ∧ b < wr.heap.size)
 (hrow : ∀ (i : Nat) (hi : i < ks.length), ∃ Ab cb Ak ck, (∀ j, j < 5 → cs[i * 5 + j]? = (el5 ks[i] Ab cb Ak ck)[j]?) ∧ ElIn wr (RowC wr (w.heap.size + 3) V) ks[i] Ab cb Ak ck)
 (hown : w6.ownsRow (w.heap.size + 3) 43 5 (.slice (some ⟨g, 0, none⟩) (ks.length + 1) cap) (ks.length + 1) (cs ++ [.int .i64 r.c, .bool r.m, .int .i64 r.n, .slice Ab2 r.b.length cb2, .slice A3 r.kids.length c3]))
 (hg : w5.grownBy w6 V.ownBlock) (hat : V.ownBlock = some g ∨ g = w5.heap.size) :
 DecInv c n w (w6.setCell ⟨w.heap.size + 2, 4, none⟩ (.slice (some ⟨g, 0, none⟩) (ks.length + 1) cap)) (ks ++ [r]) (.slice (some ⟨g, 0, none⟩) (ks.length + 1) cap) := by
 have hsz := HI.size
 have hs5 := hb5.size
 have hs6 := hg.size
 have hVb : ∀ b, V.ownBlock = some b → w.heap.size + 3 ≤ b := fun b hb => (hV b hb).1
 have hblk : ∀ b, b < w.heap.size + 3 → w6.heap[b]? = wr.heap[b]? := by
  intro b hb
  rw [hg.block b (by omega) (fun e => by have := hVb b e.symm; omega), hb5.block b (by omega)]
 refine ⟨?_, ?_, ?_, ?_, ?_⟩
 · refine Below.setCell ?_ (by show w.heap.size ≤ w.heap.size + 2; omega) _
   refine HI.below.trans ?_
   refine (hb5.mono (by omega)).trans ?_
   exact (Below.refl _ _).grown hg (by omega) (fun b hb => by have := hVb b hb; omega)
 · have : (w6.setCell ⟨w.heap.size + 2, 4, none⟩ (.slice (some ⟨g, 0, none⟩) (ks.length + 1) cap)).heap.size = w6.heap.size := by simp [World.setCell]
   rw [this]
   omega
 · rw [_root_.Go.heap_setCell_other _ _ _ _ (by show w.heap.size + 1 ≠ w.heap.size + 2; omega), hblk _ (by omega)]
   exact HI.res
 · rw [_root_.Go.heap_setCell_same _ _ _ _ _ _ ((hblk _ (by omega)).trans HI.out)]
   rfl
 · have hrow5 : ∀ (i : Nat) (hi : i < ks.length), ∃ Ab cb Ak ck, (∀ j, j < 5 → cs[i * 5 + j]? = (el5 ks[i] Ab cb Ak ck)[j]?) ∧ ElIn w5 (RowC w5 (w.heap.size + 3) V) ks[i] Ab cb Ak ck := by
    intro i hi
    obtain ⟨a1, a2, a3, a4, a5, a6⟩ := hrow i hi
    exact ⟨a1, a2, a3, a4, a5, (a6.keep fun p hp => hb5.cell hp.2.1.lt).more fun b hb => ⟨hb.1, hb.2.1.below hb5 hb.2.1.lt, hb.2.2⟩⟩
   have hel : ElIn w5 (RowC w5 (w.heap.size + 3) V) r Ab2 cb2 A3 c3 := by
    refine hk.more fun b hb => ⟨by have := hb.1; omega, hb.2, fun e => ?_⟩
    have := (hV b e.symm).2
    have := hb.1
    omega
   have hsn := RowP.snoc (T := 43) (w := w5) (w' := w6) (base := w.heap.size + 3) (g := g) (cap := cap) (v := V) (l := ks) (e := r) (Ab := Ab2) (cb := cb2) (Ak := A3) (ck := c3) (cs := cs)
    hown hcs hrow5 hel hg hat
   exact hsn.set _ _ (by show w.heap.size + 2 < w.heap.size + 3; omega)
set_option maxRecDepth 8000 in
set_option maxHeartbeats 1600000 in
theorem dec_made (b off cp d c n al fr f : Nat) (l : List Nat) (w : World) (K : Nat) (hK : K ≤ w.heap.size) (hs : Src w K (some ⟨b, off, none⟩) cp l) (hcp : cp ≤ 9223372036854775807) (hby : ∀ x ∈ l, x < 256)
 (h1 : fr ≤ al) (h2 : al ≤ l.length) (h3 : al ≤ 16384) (hd : d ≤ 23) (hf : 2 * (al - fr) + 1 ≤ f)
 (ih : ∀ (f1 : Nat) (r : List Nat) (o c1 : Nat) (w1 : World), f1 < f → 2 * (hdT r).1 ≤ f1 → Src w1 K (some ⟨b, o, none⟩) c1 r → K ≤ w1.heap.size → r.length ≤ 1048600 → c1 ≤ 9223372036854775807 → (∀ x ∈ r, x < 256) → (hdT r).2.2 = 0 → (hdT r).1 ≤ r.length → d + 1 ≤ 23 →
   Calls Tryz.prog 41 #[.slice (some ⟨b, o, none⟩) r.length c1, headV r, .int .i64 ((d : Int) + 1)] w1 (DecPost (inP f1 (r.take (hdT r).1) (d + 1)) w1)) :
 Calls Tryz.prog 41 #[.slice (some ⟨b, off, none⟩) l.length cp, .agg #[.int .i64 (c : Int), .bool true, .int .i64 (n : Int), .int .i64 (fr : Int), .int .i64 (al : Int)], .int .i64 (d : Int)] w (DecPost (madeP c n (rowP f ((l.take al).drop fr) d)) w) := by
 obtain ⟨i0, hi, hz0, hz1, hz2⟩ := info_parts info_ber
 have hlen : ((l.take al).drop fr).length = al - fr := by rw [List.length_drop, List.length_take]; omega
 have hcap := hs.le
 have hbI : ∀ x ∈ (l.take al).drop fr, x < 256 := fun x hx => hby x (List.mem_of_mem_take (List.mem_of_mem_drop hx))
 obtain ⟨R, hR⟩ : ∃ R, R = rowP f ((l.take al).drop fr) d := ⟨_, rfl⟩
 rw [← hR]
 have hinit : ∀ o c1, (o = off + fr ∧ c1 = cp - fr ∨ fr = al) → al - fr ≤ c1 → c1 ≤ 9223372036854775807 → DecRel K c n d b w (((w.alloc (.cells #[.int .i64 (c : Int), .bool true, .int .i64 (n : Int), .int .i64 (fr : Int), .int .i64 (al : Int)] 85)).alloc (.cells #[.int .i64 0, .bool false, .int .i64 0, .slice none 0 0, .slice none 0 0] 43)).alloc (.cells #[.int .i64 (c : Int), .bool true, .int .i64 (n : Int), .slice none 0 0, .slice none 0 0] 43)) R ((l.take al).drop fr) [] o c1 f (.slice none 0 0) := by
  intro o c1 hc1 hc2 hc3
  refine ⟨⟨by go_grown, by simp, ?_, ?_, RowP.nil _ _ _⟩, ?_, hc3, hbI, by rw [hlen]; simp; omega, by rw [hlen]; omega, ?_⟩
  · rw [Below.heap_alloc _ _ _ (by simp)]
    exact heap_alloc_new (w.alloc _) _ |> (by simpa using ·)
  · exact heap_alloc_new ((w.alloc _).alloc _) _ |> (by simpa using ·)
  · rcases hc1 with ⟨rfl, rfl⟩ | h
    · exact (hs.take al).behind (by rw [List.length_take]; omega)
    · have : (l.take al).drop fr = [] := List.eq_nil_of_length_eq_zero (by rw [hlen]; omega)
      rw [this]
      exact ⟨by simp, (fun e => by cases e), fun ad e => ⟨fun h0 => absurd h0 (by simp), fun j m hj => by simp at hj⟩⟩
  · rw [hR, more2_nil _ (rowP_err _ _ _)]
 replace hs := Hd hs
 replace hinit := Hd hinit
 replace hR := Hd hR
 replace ih := Hd ih
 replace hby := Hd hby
 replace hbI := Hd hbI
 by_cases hfc : fr = cp
 · have hac : al = cp := by omega
   have hemp : (l.take al).drop fr = [] := List.eq_nil_of_length_eq_zero (by rw [hlen]; omega)
   have hinit2 := Hd (hinit.out off 0 (.inr (by omega)) (by omega) (by omega))
   rw [hemp] at hinit2
   clear hR hbI hemp hlen hinit
   subst hfc
   subst hac
   go_enter Tryz.func41, Tryz.ntmps41
   go_wp2_with fail
   go_loopw [8] (fun bv wr => bv = .slice (some ⟨b, off, none⟩) 0 0 ∧ Hid (DecRel K c n d b w wr R [] [] off 0 f (.slice none 0 0))) (fun _ _ => 0)
   case atStart => exact ⟨by simp, hinit2⟩
   case round =>
    obtain ⟨rfl, HR⟩ := hrel
    clear hs hinit2
    have hO := HR.out.inv.out
    obtain ⟨o0, o1, o2, o3, o4, _⟩ := cells5 hO
    have hZ := HR.out.inv.res
    obtain ⟨r0, r1, r2, r3, r4, f0, f1', f2', f3', f4'⟩ := cells5 hZ
    replace hO := Hd hO
    replace hZ := Hd hZ
    have HE := Hd (dec_end (ks := []) (A := none) (d1 := 0) HR.out rfl)
    simp only [List.length_nil] at HE
    go_wp2_with fail
    have HX : set5 wr (w.heap.size + 1) (.int .i64 (c : Int)) (.bool true) (.int .i64 (n : Int)) (.slice none 0 0) (.slice none 0 0) = ((((wr.setCell ⟨w.heap.size + 1, 0, none⟩ (.int .i64 (c : Int))).setCell ⟨w.heap.size + 1, 1, none⟩ (.bool true)).setCell ⟨w.heap.size + 1, 2, none⟩ (.int .i64 (n : Int))).setCell ⟨w.heap.size + 1, 3, none⟩ (.slice none 0 0)).setCell ⟨w.heap.size + 1, 4, none⟩ (.slice none 0 0) := rfl
    rw [← HX]
    have HC := set5_same hZ.out (.int .i64 (c : Int)) (.bool true) (.int .i64 (n : Int)) (.slice none 0 0) (.slice none 0 0)
    obtain ⟨W5, hW5⟩ : ∃ W5, W5 = set5 wr (w.heap.size + 1) (.int .i64 (c : Int)) (.bool true) (.int .i64 (n : Int)) (.slice none 0 0) (.slice none 0 0) := ⟨_, rfl⟩
    rw [← hW5] at HE HC ⊢
    clear HX hW5 o0 o1 o2 o3 o4 r0 r1 r2 r3 r4 f0 f1' f2' f3' f4'
    obtain ⟨q0, q1, q2, q3, q4, _⟩ := cells5 HC
    exact bodyPost_ret (v := .agg #[.int .i64 (c : Int), .bool true, .int .i64 (n : Int), .slice none 0 0, .slice none 0 0]) (by simp [results, Tryz.results41, go_sem, q0, q1, q2, q3, q4]) rfl HE.out
 · go_enter Tryz.func41, Tryz.ntmps41
   go_wp2_with fail
   go_loopw [8] (fun bv wr => ∃ (r : List Nat) (ks : List El) (o c1 f1 : Nat) (A : Option Addr) (d1 : Nat), bv = .slice (some ⟨b, o, none⟩) r.length c1 ∧ f1 ≤ f ∧ Hid (DecRel K c n d b w wr R r ks o c1 f1 (.slice A ks.length d1))) (fun bv _ => lenV bv)
   case atStart => exact ⟨(l.take al).drop fr, [], off + fr, cp - fr, f, none, 0, by rw [hlen], Nat.le_refl _, Hd (hinit.out _ _ (.inl ⟨rfl, rfl⟩) (by omega) (by omega))⟩
   case round =>
    obtain ⟨r, ks, o, c1, f1, A, d1, rfl, hf1, HR⟩ := hrel
    clear hinit hs
    have hsz : w.heap.size + 3 ≤ wr.heap.size := HR.out.inv.size
    have hO := HR.out.inv.out
    obtain ⟨o0, o1, o2, o3, o4, _, _, _, _, j4⟩ := cells5 hO
    have hZ := HR.out.inv.res
    obtain ⟨r0, r1, r2, r3, r4, f0, f1', f2', f3', f4'⟩ := cells5 hZ
    replace hO := Hd hO
    replace hZ := Hd hZ
    by_cases hr0 : r.length = 0
    · have HE := Hd (dec_end HR.out (List.eq_nil_of_length_eq_zero hr0))
      have k0 : decide (0 < (r.length : Int)) = false := decide_eq_false (by omega)
      go_wp2_with fail
      have HX : set5 wr (w.heap.size + 1) (.int .i64 (c : Int)) (.bool true) (.int .i64 (n : Int)) (.slice none 0 0) (.slice A ks.length d1) = ((((wr.setCell ⟨w.heap.size + 1, 0, none⟩ (.int .i64 (c : Int))).setCell ⟨w.heap.size + 1, 1, none⟩ (.bool true)).setCell ⟨w.heap.size + 1, 2, none⟩ (.int .i64 (n : Int))).setCell ⟨w.heap.size + 1, 3, none⟩ (.slice none 0 0)).setCell ⟨w.heap.size + 1, 4, none⟩ (.slice A ks.length d1) := rfl
      rw [← HX]
      have HC := set5_same hZ.out (.int .i64 (c : Int)) (.bool true) (.int .i64 (n : Int)) (.slice none 0 0) (.slice A ks.length d1)
      obtain ⟨W5, hW5⟩ : ∃ W5, W5 = set5 wr (w.heap.size + 1) (.int .i64 (c : Int)) (.bool true) (.int .i64 (n : Int)) (.slice none 0 0) (.slice A ks.length d1) := ⟨_, rfl⟩
      rw [← hW5] at HE HC ⊢
      clear HX hW5 o0 o1 o2 o3 o4 r0 r1 r2 r3 r4 f0 f1' f2' f3' f4'
      obtain ⟨q0, q1, q2, q3, q4, _⟩ := cells5 HC
      exact bodyPost_ret (v := .agg #[.int .i64 (c : Int), .bool true, .int .i64 (n : Int), .slice none 0 0, .slice A ks.length d1]) (by simp [results, Tryz.results41, go_sem, q0, q1, q2, q3, q4]) rfl HE.out
    · have k0 : decide (0 < (r.length : Int)) = true := decide_eq_true (by omega)
      have hfu := HR.out.fuel
      have hle := HR.out.len
      have hrn : r ≠ [] := fun e => hr0 (by rw [e]; rfl)
      obtain ⟨f2, rfl⟩ : ∃ f2, f1 = f2 + 1 := ⟨f1 - 1, by omega⟩
      have hRr : R = more2 ks (rowP (f2 + 1) r d) := HR.out.eq
      rw [rowP, if_neg hrn] at hRr
      clear r0 r1 r2 r3 r4 f0 f1' f2' f3' f4' o0 o1 o2 o3
      by_cases h24 : 24 ≤ d + 1
      · rw [if_pos h24] at hRr
        have HE := Hd (fun W hb => dec_err (W := W) HR.out hb 15 (by rw [hRr]; rfl) (by decide))
        have k24 : decide (24 ≤ (d : Int) + 1) = true := decide_eq_true (by omega)
        clear hRr
        go_wp2_with fail
        exact ⟨rfl, HE.out _ (Below.refl _ _)⟩
      · rw [if_neg h24] at hRr
        have k24 : decide (24 ≤ (d : Int) + 1) = false := decide_eq_false (by omega)
        have CN := readHead_any (some ⟨b, o, none⟩) c1 r wr K (HR.out.src.below (HR.out.inv.below.mono hK)) (by omega) (by omega) HR.out.cap HR.out.byt
        have hHO := hdT_ok r HR.out.byt
        have hHT := hdT_take r HR.out.byt
        have CI := fun w1 => ih.out f2 r o c1 w1
        unfold headV at CN CI
        obtain ⟨⟨rc, rm, rk, ru, re⟩, hq1⟩ : ∃ q, q = rdT r := ⟨_, rfl⟩
        obtain ⟨⟨nn, ff, ee⟩, hq⟩ : ∃ q, q = hdT r := ⟨_, rfl⟩
        rw [← hq] at hRr CN hHO hHT CI
        rw [← hq1] at CN CI hHO
        simp only [] at hRr CN hHO hHT CI
        replace hHO := Hd hHO
        replace hHT := Hd hHT
        replace hq := Hd hq
        replace hq1 := Hd hq1
        by_cases hee : ee ≠ 0 ∨ r.length < nn
        · rw [if_pos hee] at hRr
          have HE := Hd (fun W hb => dec_err (W := W) HR.out hb 11 (by rw [hRr]; rfl) (by decide))
          clear hRr CI
          by_cases he0 : ee = 0
          · subst he0
            rw [if_pos rfl] at CN
            replace CN := Hd CN
            have kn : decide ((r.length : Int) < (nn : Int)) = true := decide_eq_true (by omega)
            go_wp2_with fail
            refine CN.out.mono ?_
            rintro en w2 ⟨rfl, hb2⟩
            have hzw := hb2.size
            have hB2 : Hid (∀ ob : Obj, Below wr.heap.size wr (w2.alloc ob)) := Hd fun ob => hb2.alloc hzw ob
            replace hb2 := Hd hb2
            go_wp2_with fail
            exact ⟨rfl, HE.out _ (hB2.out _)⟩
          · rw [if_neg he0] at CN
            replace CN := Hd CN
            have kn : ((ee : Int) != 0) = true := by simp; omega
            go_wp2_with fail
            refine CN.out.mono ?_
            rintro en w2 ⟨rfl, hb2⟩
            have hzw := hb2.size
            have hB2 : Hid (∀ ob : Obj, Below wr.heap.size wr (w2.alloc ob)) := Hd fun ob => hb2.alloc hzw ob
            replace hb2 := Hd hb2
            go_wp2_with fail
            exact ⟨rfl, HE.out _ (hB2.out _)⟩
        · rw [if_neg hee] at hRr
          have hez : ee = 0 := by omega
          have hnl : nn ≤ r.length := by omega
          clear hee
          subst hez
          rw [if_pos rfl] at CN CI
          have kn : decide ((r.length : Int) < (nn : Int)) = false := decide_eq_false (by omega)
          obtain ⟨hh1, hh2, hh3, hh4, hh5⟩ := hHO.out rfl
          replace CI : ∀ w', Below wr.heap.size wr w' → Calls Tryz.prog 41 #[.slice (some ⟨b, o, none⟩) r.length c1, .agg #[.int .i64 (rc : Int), .bool rm, .int .i64 (rk : Int), .int .i64 (ff : Int), .int .i64 (nn : Int)], .int .i64 ((d : Int) + 1)] w' (DecPost (inP f2 (r.take nn) (d + 1)) w') := by
           intro w' hb
           have hsz1 := hb.size
           exact CI w' (by omega) (by omega) (HR.out.src.below ((HR.out.inv.below.trans (hb.mono (by omega))).mono hK)) (by omega) (by omega) HR.out.cap HR.out.byt rfl hnl (by omega)
          obtain ⟨⟨kid, e2⟩, hk2⟩ : ∃ q, q = inP f2 (r.take nn) (d + 1) := ⟨_, rfl⟩
          rw [← hk2] at CI hRr
          simp only [] at CI hRr
          replace CN := Hd CN
          replace CI := Hd CI
          clear hk2
          have KEEP : Hid (∀ W2 : World, Below wr.heap.size wr W2 → ∀ HB : Nat, wr.heap.size ≤ HB → W2.heap[HB]? = some (.cells #[.int .i64 (rc : Int), .bool rm, .int .i64 (rk : Int), .int .i64 (ff : Int), .int .i64 (nn : Int)] 85 (0, 0)) → ∀ W, Below W2.heap.size W2 W →
           (W.cell? ⟨w.heap.size + 2, 4, none⟩ = some (.slice A ks.length d1) ∧ W.cell? ⟨HB, 0, none⟩ = some (.int .i64 (rc : Int)) ∧ W.cell? ⟨HB, 1, none⟩ = some (.bool rm) ∧ W.cell? ⟨HB, 2, none⟩ = some (.int .i64 (rk : Int)) ∧ W.cell? ⟨HB, 3, none⟩ = some (.int .i64 (ff : Int)) ∧ W.cell? ⟨HB, 4, none⟩ = some (.int .i64 (nn : Int)))) := by
           refine Hd fun W2 h2 HB hHB hcell W hW => ?_
           have hlt : HB < W2.heap.size := (Array.getElem?_eq_some_iff.1 hcell).1
           have hcW : W.heap[HB]? = _ := (hW.block HB hlt).trans hcell
           obtain ⟨y0, y1, y2, y3, y4, _⟩ := cells5 hcW
           have hs2 := h2.size
           refine ⟨?_, y0, y1, y2, y3, y4⟩
           rw [hW.cell (p := ⟨w.heap.size + 2, 4, none⟩) (by show w.heap.size + 2 < _; omega), h2.cell (p := ⟨w.heap.size + 2, 4, none⟩) (by show w.heap.size + 2 < _; omega)]
           exact o4
          go_wp2_with fail
          refine CN.out.mono ?_
          rintro en w2 ⟨rfl, hb2⟩
          have hzw := hb2.size
          have hB2 : Hid (∀ ob : Obj, Below wr.heap.size wr (w2.alloc ob)) := Hd fun ob => hb2.alloc hzw ob
          have hne : w2.heap.size ≠ w.heap.size + 2 := by omega
          replace hb2 := Hd hb2
          go_wp2_with fail
          obtain ⟨W2, hW2⟩ : ∃ W2, W2 = w2.alloc (.cells #[.int .i64 (rc : Int), .bool rm, .int .i64 (rk : Int), .int .i64 (ff : Int), .int .i64 (nn : Int)] 85) := ⟨_, rfl⟩
          have hBW : Below wr.heap.size wr W2 := by rw [hW2]; exact hB2.out _
          have hHW : W2.heap[w2.heap.size]? = some (.cells #[.int .i64 (rc : Int), .bool rm, .int .i64 (rk : Int), .int .i64 (ff : Int), .int .i64 (nn : Int)] 85 (0, 0)) := by rw [hW2]; exact heap_alloc_new w2 _
          have hsW : wr.heap.size ≤ W2.heap.size := hBW.size
          have hlW : w2.heap.size < W2.heap.size := by rw [hW2]; simp
          rw [← hW2]
          have KP := Hd (KEEP.out W2 hBW w2.heap.size hzw hHW)
          obtain ⟨s0, s1, s2, s3, s4, s5⟩ := KP.out W2 (Below.refl _ _)
          replace hW2 := Hd hW2
          replace hHW := Hd hHW
          replace hBW := Hd hBW
          clear KEEP CN hB2
          by_cases he2 : e2 = 0
          · subst he2
            rw [if_neg (by simp), more2_cons] at hRr
            have fin : ∀ (o2 c2 : Nat) (wN : World) (V' : Value), DecInv (c : Int) (n : Int) w wN (ks ++ [kid]) V' → Src w K (some ⟨b, o2, none⟩) c2 (r.drop nn) → c2 ≤ 9223372036854775807 → DecRel K c n d b w wN R (r.drop nn) (ks ++ [kid]) o2 c2 f2 V' := by
             intro o2 c2 wN V' a1 a2 a3
             exact ⟨a1, a2, a3, fun x hx => HR.out.byt x (List.mem_of_mem_drop hx), by rw [List.length_append, List.length_drop]; simp; omega, by rw [List.length_drop]; omega, hRr⟩
            replace fin := Hd fin
            replace hRr := Hd hRr
            obtain ⟨cs, hrow1, hrow2, hrow3, hrow4⟩ := HR.out.inv.row.parts
            have hcp1 := HR.out.cap
            have hcl := HR.out.src.le
            replace hrow1 := Hd hrow1
            replace hrow2 := Hd hrow2
            replace hrow3 := Hd hrow3
            replace hrow4 := Hd hrow4
            have STEP6 : Hid (∀ (w3 w6 : World) (ob : Obj), Below W2.heap.size W2 w3 → (w3.alloc ob).grownBy w6 (Value.slice A ks.length d1).ownBlock →
             (w6.cell? ⟨w.heap.size + 2, 4, none⟩ = some (.slice A ks.length d1) ∧ w6.frozen? ⟨w.heap.size + 2, 4, none⟩ = false ∧ w6.cell? ⟨w2.heap.size, 0, none⟩ = some (.int .i64 (rc : Int)) ∧ w6.cell? ⟨w2.heap.size, 1, none⟩ = some (.bool rm) ∧ w6.cell? ⟨w2.heap.size, 2, none⟩ = some (.int .i64 (rk : Int)) ∧ w6.cell? ⟨w2.heap.size, 3, none⟩ = some (.int .i64 (ff : Int)) ∧ w6.cell? ⟨w2.heap.size, 4, none⟩ = some (.int .i64 (nn : Int)))) := by
             refine Hd fun w3 w6 ob hb3 hg => ?_
             have hz3 := hb3.size
             have hX : w6.heap[w.heap.size + 2]? = some (.cells #[.int .i64 (c : Int), .bool true, .int .i64 (n : Int), .slice none 0 0, .slice A ks.length d1] 43 (0, 0)) := by
              rw [hg.block _ (by simp; omega) (fun e => by have := (hrow3.out _ e.symm).1; omega), Below.heap_alloc _ _ _ (by omega), hb3.block _ (by omega), hBW.out.block _ (by omega)]
              exact hO.out
             have hY : w6.heap[w2.heap.size]? = some (.cells #[.int .i64 (rc : Int), .bool rm, .int .i64 (rk : Int), .int .i64 (ff : Int), .int .i64 (nn : Int)] 85 (0, 0)) := by
              rw [hg.block _ (by simp; omega) (fun e => by have := (hrow3.out _ e.symm).2; omega), Below.heap_alloc _ _ _ (by omega), hb3.block _ (by omega)]
              exact hHW.out
             obtain ⟨_, _, _, _, x4, _, _, _, _, g4⟩ := cells5 hX
             obtain ⟨y0, y1, y2, y3, y4, _⟩ := cells5 hY
             exact ⟨x4, g4, y0, y1, y2, y3, y4⟩
            have HWD := Hd (IntWalk.i64_in ((d : Int) + 1) (by omega))
            go_region_law
             (first
               | (go_simp; go_at_call 41; rw [HWD.out]; (with_reducible refine (CI.out _ (by first | exact hBW.out.drew | exact hBW.out.drew.drew)).mono ?_); rintro en w3 ⟨hok, _, hb3⟩; obtain ⟨Ab2, cb2, A3, c3, rfl, hkin⟩ := hok rfl; have HB3 := Hd (show Below W2.heap.size W2 w3 from (Below.refl W2.heap.size W2).trans ⟨hb3.os, hb3.tape, hb3.output, hb3.size, hb3.block⟩); have hz3 := HB3.out.size; obtain ⟨t0, t1, t2, t3, t4, t5⟩ := KP.out w3 HB3.out; have tA : ∀ ob : Obj, (w3.alloc ob).cell? ⟨w.heap.size + 2, 4, none⟩ = some (.slice A ks.length d1) := fun ob => (World.cell?_alloc_lt _ _ _ (by show w.heap.size + 2 < _; omega)).trans t0; replace hkin := Hd (show ElIn w3 (New W2.heap.size w3) kid Ab2 cb2 A3 c3 from hkin); unfold elV; clear hb3 hok)
               | (refine step_append_lies _ rfl (.tmp 51) (.tmp 57) 41 rfl (w.heap.size + 3) 43 i0 _ 5 72 Tryz.underlying41 hi hz0 hz1 hz2 rfl (by decide) (.slice A ks.length d1) ks.length cs rfl (World.ownsRow.alloc (owns_below hrow1.out (hBW.out.trans (HB3.out.mono hsW))) _) ⟨w3.heap.size, 0, none⟩ 1 1 [.int .i64 kid.c, .bool kid.m, .int .i64 kid.n, .slice Ab2 kid.b.length cb2, .slice A3 kid.kids.length c3] rfl rfl (World.news_of_block (cs := #[.int .i64 kid.c, .bool kid.m, .int .i64 kid.n, .slice Ab2 kid.b.length cb2, .slice A3 kid.kids.length c3]) (fr := (0, 0)) (heap_alloc_new w3 _)) (el5_one kid Ab2 cb2 A3 c3) (by decide) (by simp only [maxLen]; omega) (by omega) (by simp; omega) _ rfl ?_; intro g cap w6 hown hg hat hgl; have HS := Hd (dec_step (r := kid) HR.out.inv ((hBW.out.trans (HB3.out.mono hsW)).alloc (by omega) _) (((hkin.out.keep fun p hp => World.cell?_alloc_lt _ _ _ hp.2.lt).more fun x hx => ⟨by have := hx.1; omega, hx.2.alloc _⟩)) hrow2.out hrow3.out hrow4.out hown hg hat); obtain ⟨c6, f6, y0, y1, y2, y3, y4⟩ := STEP6.out w3 w6 _ HB3.out hg; have hg6 := Hd hg; have hown6 := Hd hown; have hat6 := Hd hat; clear hg hown hat))
            all_goals
             have hln : (ks ++ [kid]).length = ks.length + 1 := by simp
             by_cases hnc : nn = c1
             · subst hnc
               have HF := Hd (fin.out o 0 _ _ HS.out ⟨by rw [List.length_drop]; omega, (fun e => by cases e), fun ad e => ⟨fun h0 => by rw [List.length_drop] at h0; omega, fun j m hj => by
                have := (List.getElem?_eq_some_iff.1 hj).1
                rw [List.length_drop] at this
                omega⟩⟩ (by omega))
               go_wp2_with fail
               refine ⟨⟨r.drop nn, ks ++ [kid], o, 0, f2, some ⟨g, 0, none⟩, cap, ?_, by omega, by rw [hln]; exact HF⟩, ?_⟩
               · rw [List.length_drop]
                 congr 1
                 omega
               · simp only [lenV]
                 omega
             · have HF := Hd (fin.out (o + nn) (c1 - nn) _ _ HS.out (HR.out.src.behind hnl) (by omega))
               go_wp2_with fail
               refine ⟨⟨r.drop nn, ks ++ [kid], o + nn, c1 - nn, f2, some ⟨g, 0, none⟩, cap, ?_, by omega, by rw [hln]; exact HF⟩, ?_⟩
               · rw [List.length_drop]
               · simp only [lenV]
                 omega
          · rw [if_pos (by simpa using he2)] at hRr
            have hRe : R = ([], e2) := by rw [hRr]; unfold more2; rw [if_pos he2]
            have PE : Hid (∀ W3 : World, Below W2.drew.heap.size W2.drew W3 → DecPost (madeP c n R) w (errP e2) W3) := Hd fun W3 h => dec_err HR.out (hBW.out.trans (Below.mono (Below.trans (Below.refl W2.heap.size W2).drew h) hsW)) e2 hRe he2
            have HWD := Hd (IntWalk.i64_in ((d : Int) + 1) (by omega))
            replace hRr := Hd hRr
            refine wp_region_held_drew (S := (fun W => W.cell? ⟨w.heap.size + 2, 4, none⟩ = some (.slice A ks.length d1) ∧ W.cell? ⟨w2.heap.size, 0, none⟩ = some (.int .i64 (rc : Int)) ∧ W.cell? ⟨w2.heap.size, 1, none⟩ = some (.bool rm) ∧ W.cell? ⟨w2.heap.size, 2, none⟩ = some (.int .i64 (rk : Int)) ∧ W.cell? ⟨w2.heap.size, 3, none⟩ = some (.int .i64 (ff : Int)) ∧ W.cell? ⟨w2.heap.size, 4, none⟩ = some (.int .i64 (nn : Int)))) (by kernel_rfl) ⟨s0, s1, s2, s3, s4, s5⟩ ?_
            intro hHeld
            refine tk 0 50 hHeld ?_
            refine tk 1 51 hHeld ?_
            refine tk 2 52 hHeld ?_
            refine tk 3 53 hHeld ?_
            refine tk 4 54 hHeld ?_
            refine tk 5 55 hHeld ?_
            refine rdy [6] ?_
            refine .cons rfl (fun K hK => ?_) AllReadyH.nil
            go_simp
            go_at_call 41
            rw [HWD.out]
            refine (CI.out _ hBW.out.drew).mono ?_
            rintro en w3 ⟨_, herr, hb3⟩
            obtain rfl := herr he2
            exact ⟨rfl, PE.out w3 hb3⟩
theorem hdT_u (l : List Nat) (h : (hdT l).2.2 = 0) : (rdT l).2.2.2.1 ≤ (hdT l).1 := by
 unfold hdT at h ⊢
 split at h
 · rename_i h1
   exact absurd h h1
 · rename_i h1
   rw [if_neg h1]
   split at h
   · rename_i h2
     exact absurd h h2
   · rename_i h2
     rw [if_neg h2]
     split at h
     · simp at h
     · rename_i h3
       rw [if_neg h3]
       simp only []
       omega
theorem dec_any : ∀ (f d : Nat) (l : List Nat) (A : Option Addr) (cp : Nat) (w : World) (K : Nat), 2 * (hdT l).1 ≤ f → Src w K A cp l → K ≤ w.heap.size → l.length ≤ 1048600 → cp ≤ 9223372036854775807 → (∀ x ∈ l, x < 256) →
 (hdT l).2.2 = 0 → (hdT l).1 ≤ l.length → d ≤ 23 → Calls Tryz.prog 41 #[.slice A l.length cp, headV l, .int .i64 (d : Int)] w (DecPost (inP f (l.take (hdT l).1) d) w) := by
 intro f
 induction f using Nat.strongRecOn with
 | ind f IH =>
 intro d l A cp w K hf hs hK hl hcp hby hH hA hd
 obtain ⟨a1, a2, a3, a4, a5⟩ := hdT_ok l hby hH
 obtain ⟨b, off, rfl, hbK, hc⟩ := hs.plain (by omega)
 clear hc
 rcases f with _ | f
 · omega
 have ht : hdT (l.take (hdT l).1) = hdT l := hdT_take l hby hH
 have hr : rdT (l.take (hdT l).1) = rdT l := rdT_take l _ a1 (hdT_u l hH)
 have hI : inP (f + 1) (l.take (hdT l).1) d = if (rdT l).2.1 = false then (⟨((rdT l).1 : Nat), false, ((rdT l).2.2.1 : Nat), (l.take (hdT l).1).drop (hdT l).2.1, .nil⟩, 0)
  else madeP (rdT l).1 (rdT l).2.2.1 (rowP f ((l.take (hdT l).1).drop (hdT l).2.1) d) := by
  rw [inP, ht, hr, List.take_take, Nat.min_self]
  unfold madeP
  split
  · rfl
  · rfl
 rw [hI]
 unfold headV
 rw [if_pos hH]
 have a6 : (hdT l).2.1 ≤ (hdT l).1 := a3
 obtain ⟨⟨c, m, n, u, er⟩, hT⟩ : ∃ q, q = rdT l := ⟨_, rfl⟩
 obtain ⟨⟨al, fr, e0⟩, hD⟩ : ∃ q, q = hdT l := ⟨_, rfl⟩
 rw [← hT, ← hD]
 rw [← hD] at hH hA a2 a3 a4 a5 hf
 simp only [] at hH hA a2 a3 a4 a5 hf ⊢
 subst hH
 cases m
 · rw [if_pos rfl]
   exact dec_prim b off cp d c n al fr l w K hK hs hl hcp a3 hA
 · rw [if_neg (by simp)]
   refine dec_made b off cp d c n al fr f l w K hK hs hcp hby a3 hA a4 hd (by omega) ?_
   intro f1 r o c1 w1 h1 h2 h3 h4 h5 h6 h7 h8 h9 h10
   have := IH f1 (by omega) (d + 1) r (some ⟨b, o, none⟩) c1 w1 K h2 h3 h4 h5 h6 h7 h8 h9 h10
   simpa using this
theorem catchP_idle (p q s : Addr) (w : World) :
 CallsD Tryz.prog 40 #[.pointer (some p), .pointer (some q), .pointer (some s)] .returning w fun e u' w' => e = .returned (.tuple #[]) ∧ u' = .returning ∧ w' = w := by
 refine callsD_of_wpS Tryz.func40 rfl fun c₀ cs hu => ?_
 apply wpS_seq
 apply wpS_region
 simp [wpOpsS, go_sem, recoverD, hu, Tryz.ntmps40, Exit.thenS]
 refine wpS_of_wp ?_
 change Code.wp _ _ _ { tmps := #[.pointer (some p), .pointer (some q), .pointer (some s), .nilIface, .nilIface, undef, undef, undef, undef, undef], defers := [] } _
 go_wp2_with fail
 cases c₀
 simp_all [bodyPostS, results, Tryz.results40]
theorem catchP_pan (b1 b2 b3 e : Nat) (older : List PanicEntry) (w : World) (v0 v1 v2 v3 v4 x y : Value) (h1 : w.heap[b1]? = some (.cells #[v0, v1, v2, v3, v4] 43 (0, 0)))
 (h2 : w.heap[b2]? = some (.cells #[x] 3 (0, 0))) (h3 : w.heap[b3]? = some (.cells #[y] 34 (0, 0))) (h12 : b1 ≠ b2) (h13 : b1 ≠ b3) (h23 : b2 ≠ b3) :
 CallsD Tryz.prog 40 #[.pointer (some ⟨b1, 0, none⟩), .pointer (some ⟨b2, 0, none⟩), .pointer (some ⟨b3, 0, none⟩)] (.panicking ({ v := .iface 34 (.int .i64 (e : Int)), recovered := false } :: older)) w fun en u' w' =>
  en = .returned (.tuple #[]) ∧ u' = .panicking ({ v := .iface 34 (.int .i64 (e : Int)), recovered := true } :: older) ∧
   w' = (((set5 w b1 (.int .i64 0) (.bool false) (.int .i64 0) (.slice none 0 0) (.slice none 0 0)).setCell ⟨b2, 0, none⟩ (.int .i64 0)).setCell ⟨b3, 0, none⟩ (.int .i64 (e : Int))).drew := by
 refine callsD_of_wpS Tryz.func40 rfl fun c₀ cs hu => ?_
 apply wpS_seq
 apply wpS_region
 simp [wpOpsS, go_sem, recoverD, hu, Tryz.ntmps40, Exit.thenS]
 refine wpS_of_wp ?_
 change Code.wp _ _ _ { tmps := #[.pointer (some ⟨b1, 0, none⟩), .pointer (some ⟨b2, 0, none⟩), .pointer (some ⟨b3, 0, none⟩), .iface 34 (.int .i64 (e : Int)), .iface 34 (.int .i64 (e : Int)), undef, undef, undef, undef, undef], defers := [] } _
 obtain ⟨r0, r1, r2, r3, r4, f0, f1, f2, f3, f4⟩ := cells5 h1
 have x0 := cell_of_one h2
 have x1 := free_of_one h2
 have y0 := cell_of_one h3
 have y1 := free_of_one h3
 replace h1 := Hd h1
 replace h2 := Hd h2
 replace h3 := Hd h3
 go_wp2_with fail
 have hta : ∀ w : World, (Instr.typeAssert (.iface 34 (.int .i64 (e : Int))) 20 34 false).run Tryz.prog w = .ok (.int .i64 (e : Int)) w := fun w => by kernel_rfl
 go_region
 all_goals
  change bodyPostS _ _ _ _ _ _ _ _ _
  simp [bodyPostS, results, Tryz.results40, set5]
def ParQ (q : El × Nat × Nat) (w : World) (en : Ending) (w' : World) : Prop :=
 ∃ (Ab : Option Addr) (cb : Nat) (Ak : Option Addr) (ck : Nat), en = .returned (.tuple #[elV q.1 Ab cb Ak ck, .int .i64 (q.2.1 : Int), .int .i64 (q.2.2 : Int)]) ∧
  ElIn w' (New w.heap.size w') q.1 Ab cb Ak ck ∧ Below w.heap.size w w'
theorem par_cells {w W : World} {z : Nat} {v0 v1 v2 v3 v4 x y : Value} (hXW : W.heap[z]? = some (.cells #[v0, v1, v2, v3, v4] 43 (0, 0)))
 (hNW : W.heap[z + 1]? = some (.cells #[x] 3 (0, 0))) (hEW : W.heap[z + 2]? = some (.cells #[y] 34 (0, 0))) (hB : Below z w W) (u0 u1 u2 u3 u4 a b : Value) :
 (((set5 W z u0 u1 u2 u3 u4).setCell ⟨z + 1, 0, none⟩ a).setCell ⟨z + 2, 0, none⟩ b).heap[z]? = some (.cells #[u0, u1, u2, u3, u4] 43 (0, 0)) ∧
   (((set5 W z u0 u1 u2 u3 u4).setCell ⟨z + 1, 0, none⟩ a).setCell ⟨z + 2, 0, none⟩ b).heap[z + 1]? = some (.cells #[a] 3 (0, 0)) ∧
   (((set5 W z u0 u1 u2 u3 u4).setCell ⟨z + 1, 0, none⟩ a).setCell ⟨z + 2, 0, none⟩ b).heap[z + 2]? = some (.cells #[b] 34 (0, 0)) ∧
   Below z w (((set5 W z u0 u1 u2 u3 u4).setCell ⟨z + 1, 0, none⟩ a).setCell ⟨z + 2, 0, none⟩ b) := by
 have h5 : ∀ k, z < k → (set5 W z u0 u1 u2 u3 u4).heap[k]? = W.heap[k]? := by
  intro k hk
  unfold set5
  rw [Below.heap_setCell _ _ _ _ (by show k ≠ z; omega), Below.heap_setCell _ _ _ _ (by show k ≠ z; omega), Below.heap_setCell _ _ _ _ (by show k ≠ z; omega), Below.heap_setCell _ _ _ _ (by show k ≠ z; omega), Below.heap_setCell _ _ _ _ (by show k ≠ z; omega)]
 refine ⟨?_, ?_, ?_, ((set5_below hB (Nat.le_refl _) _ _ _ _ _).setCell (by show z ≤ z + 1; omega) _).setCell (by show z ≤ z + 2; omega) _⟩
 · rw [_root_.Go.heap_setCell_other _ _ _ _ (by show z ≠ z + 2; omega), _root_.Go.heap_setCell_other _ _ _ _ (by show z ≠ z + 1; omega)]
   exact set5_same hXW _ _ _ _ _
 · rw [_root_.Go.heap_setCell_other _ _ _ _ (by show z + 1 ≠ z + 2; omega)]
   rw [_root_.Go.heap_setCell_same _ _ _ _ _ _ ((h5 _ (by omega)).trans hNW)]
   rfl
 · have h6 : ((set5 W z u0 u1 u2 u3 u4).setCell ⟨z + 1, 0, none⟩ a).heap[z + 2]? = some (.cells #[y] 34 (0, 0)) := by
    rw [_root_.Go.heap_setCell_other _ _ _ _ (by show z + 2 ≠ z + 1; omega)]
    exact (h5 _ (by omega)).trans hEW
   rw [_root_.Go.heap_setCell_same _ _ _ _ _ _ h6]
   rfl
theorem par_post {q : El × Nat × Nat} {w w' : World} (h : q.1 = el0) (hB : Below w.heap.size w w') : ParQ q w (.returned (.tuple #[.agg #[.int .i64 0, .bool false, .int .i64 0, .slice none 0 0, .slice none 0 0], .int .i64 (q.2.1 : Int), .int .i64 (q.2.2 : Int)])) w' := by
 obtain ⟨e, n, er⟩ := q
 simp only at h
 subst h
 exact ⟨none, 0, none, 0, rfl, el0_in _ _, hB⟩
set_option maxRecDepth 8000 in
set_option maxHeartbeats 800000 in
theorem par_err (A : Option Addr) (cp n e : Nat) (w : World) (he : e ≠ 0) (CN : Hid (∀ w', Below w.heap.size w w' → Calls Tryz.prog 39 #[.slice A n cp] w' fun en w'' => en = .returned (.tuple #[.agg #[.int .i64 0, .bool false, .int .i64 0, .int .i64 0, .int .i64 0], .int .i64 (e : Int)]) ∧ Below w'.heap.size w' w'')) :
 Calls Tryz.prog 15 #[.slice A n cp] w (ParQ (el0, 0, e) w) := by
 have ke : ((e : Int) != 0) = true := by simp; omega
 obtain ⟨W0, hW0⟩ : ∃ W0, W0 = ((w.alloc (.cells #[.int .i64 0, .bool false, .int .i64 0, .slice none 0 0, .slice none 0 0] 43)).alloc (.cells #[.int .i64 0] 3)).alloc (.cells #[.int .i64 0] 34) := ⟨_, rfl⟩
 have hB0 : Below w.heap.size w W0 := by rw [hW0]; go_grown
 have hz0 : W0.heap.size = w.heap.size + 3 := by rw [hW0]; simp
 have hX0 : W0.heap[w.heap.size]? = some (.cells #[.int .i64 0, .bool false, .int .i64 0, .slice none 0 0, .slice none 0 0] 43 (0, 0)) := by
  rw [hW0, Below.heap_alloc _ _ _ (by simp; omega), Below.heap_alloc _ _ _ (by simp)]; exact heap_alloc_new w _
 have hN0 : W0.heap[w.heap.size + 1]? = some (.cells #[.int .i64 0] 3 (0, 0)) := by
  rw [hW0, Below.heap_alloc _ _ _ (by simp)]; exact heap_alloc_new (w.alloc _) _ |> (by simpa using ·)
 have hE0 : W0.heap[w.heap.size + 2]? = some (.cells #[.int .i64 0] 34 (0, 0)) := by
  rw [hW0]; exact heap_alloc_new ((w.alloc _).alloc _) _ |> (by simpa using ·)
 go_enter_defers Tryz.func15, Tryz.ntmps15
 go_wp2_with fail
 rw [← hW0]
 clear hW0
 refine (CN.out W0 hB0).mono ?_
 rintro en w2 ⟨rfl, hb2⟩
 have hz2 := hb2.size
 have hE2 : ∀ ob : Obj, (w2.alloc ob).heap[w.heap.size + 2]? = some (.cells #[.int .i64 0] 34 (0, 0)) := fun ob => by
  rw [Below.heap_alloc _ _ _ (by omega), hb2.block _ (by omega)]; exact hE0
 have e0 : ∀ ob : Obj, (w2.alloc ob).cell? ⟨w.heap.size + 2, 0, none⟩ = some (.int .i64 0) := fun ob => cell_of_one (hE2 ob)
 have e1 : ∀ ob : Obj, (w2.alloc ob).frozen? ⟨w.heap.size + 2, 0, none⟩ = false := fun ob => free_of_one (hE2 ob)
 go_wp2_with fail
 obtain ⟨W, hW⟩ : ∃ W, W = (w2.alloc (.cells #[.int .i64 0, .bool false, .int .i64 0, .int .i64 0, .int .i64 0] 85)).setCell ⟨w.heap.size + 2, 0, none⟩ (.int .i64 (e : Int)) := ⟨_, rfl⟩
 have hBW : Below w.heap.size w W := by rw [hW]; exact ((hB0.trans (hb2.mono (by omega))).alloc (by omega) _).setCell (by show w.heap.size ≤ w.heap.size + 2; omega) _
 have hXW : W.heap[w.heap.size]? = some (.cells #[.int .i64 0, .bool false, .int .i64 0, .slice none 0 0, .slice none 0 0] 43 (0, 0)) := by
  rw [hW, _root_.Go.heap_setCell_other _ _ _ _ (by show w.heap.size ≠ w.heap.size + 2; omega), Below.heap_alloc _ _ _ (by omega), hb2.block _ (by omega)]; exact hX0
 have hNW : W.heap[w.heap.size + 1]? = some (.cells #[.int .i64 0] 3 (0, 0)) := by
  rw [hW, _root_.Go.heap_setCell_other _ _ _ _ (by show w.heap.size + 1 ≠ w.heap.size + 2; omega), Below.heap_alloc _ _ _ (by omega), hb2.block _ (by omega)]; exact hN0
 have hEW : W.heap[w.heap.size + 2]? = some (.cells #[.int .i64 (e : Int)] 34 (0, 0)) := by
  rw [hW, _root_.Go.heap_setCell_same _ _ _ _ _ _ (hE2 _)]; rfl
 have hHW : W.heap[w2.heap.size]? = some (.cells #[.int .i64 0, .bool false, .int .i64 0, .int .i64 0, .int .i64 0] 85 (0, 0)) := by
  rw [hW, _root_.Go.heap_setCell_other _ _ _ _ (by show w2.heap.size ≠ w.heap.size + 2; omega)]; exact heap_alloc_new w2 _
 have hsW : W.heap.size = w2.heap.size + 1 := by rw [hW]; simp [World.setCell]
 rw [← hW]
 clear hW e0 e1
 obtain ⟨r0, r1, r2, r3, r4, f0, f1, f2, f3, f4⟩ := cells5 hXW
 have n0 := cell_of_one hNW
 have n1 := free_of_one hNW
 have m0 := cell_of_one hEW
 have m1 := free_of_one hEW
 obtain ⟨k0, k1, k2, k3, k4, _⟩ := cells5 hHW
 replace hXW := Hd hXW
 replace hNW := Hd hNW
 replace hEW := Hd hEW
 replace hHW := Hd hHW
 replace hBW := Hd hBW
 replace hE2 := Hd hE2
 replace hb2 := Hd hb2
 replace hX0 := Hd hX0
 replace hN0 := Hd hN0
 replace hE0 := Hd hE0
 replace hB0 := Hd hB0
 replace hz0 := Hd hz0
 go_region
 clear r0 r1 r2 r3 r4 f0 f1 f2 f3 f4 n0 n1 m0 m1 k0 k1 k2 k3 k4
 obtain ⟨W9, hW9⟩ : ∃ W9, W9 = ((set5 W w.heap.size (.int .i64 0) (.bool false) (.int .i64 0) (.slice none 0 0) (.slice none 0 0)).setCell ⟨w.heap.size + 1, 0, none⟩ (.int .i64 0)).setCell ⟨w.heap.size + 2, 0, none⟩ (.int .i64 (e : Int)) := ⟨_, rfl⟩
 obtain ⟨c1, c2, c3, c4⟩ := par_cells hXW.out hNW.out hEW.out hBW.out (.int .i64 0) (.bool false) (.int .i64 0) (.slice none 0 0) (.slice none 0 0) (.int .i64 0) (.int .i64 (e : Int))
 rw [← hW9] at c1 c2 c3 c4
 have HX : (((((((W.setCell ⟨w.heap.size, 0, none⟩ (.int .i64 0)).setCell ⟨w.heap.size, 1, none⟩ (.bool false)).setCell ⟨w.heap.size, 2, none⟩ (.int .i64 0)).setCell ⟨w.heap.size, 3, none⟩ (.slice none 0 0)).setCell ⟨w.heap.size, 4, none⟩ (.slice none 0 0)).setCell ⟨w.heap.size + 1, 0, none⟩ (.int .i64 0)).setCell ⟨w.heap.size + 2, 0, none⟩ (.int .i64 (e : Int))) = W9 := hW9.symm
 rw [HX]
 clear HX hW9
 obtain ⟨q0, q1, q2, q3, q4, _⟩ := cells5 c1
 have q5 := cell_of_one c2
 have q6 := cell_of_one c3
 replace c1 := Hd c1
 replace c2 := Hd c2
 replace c3 := Hd c3
 go_wp2_with fail
 exact ⟨.tuple #[.agg #[.int .i64 0, .bool false, .int .i64 0, .slice none 0 0, .slice none 0 0], .int .i64 0, .int .i64 (e : Int)], by simp [results, Tryz.results15, go_sem, q0, q1, q2, q3, q4, q5, q6], par_post (q := (el0, 0, e)) rfl ⟨c4.os, c4.tape, c4.output, c4.size, c4.block⟩⟩
set_option maxRecDepth 8000 in
set_option maxHeartbeats 800000 in
theorem par_short (A : Option Addr) (cp n c k fr al : Nat) (m : Bool) (w : World) (hn : n < al) (CN : Hid (∀ w', Below w.heap.size w w' → Calls Tryz.prog 39 #[.slice A n cp] w' fun en w'' => en = .returned (.tuple #[.agg #[.int .i64 (c : Int), .bool m, .int .i64 (k : Int), .int .i64 (fr : Int), .int .i64 (al : Int)], .int .i64 0]) ∧ Below w'.heap.size w' w'')) :
 Calls Tryz.prog 15 #[.slice A n cp] w (ParQ (el0, 0, 10) w) := by
 have kn : decide ((n : Int) < (al : Int)) = true := decide_eq_true (by omega)
 obtain ⟨W0, hW0⟩ : ∃ W0, W0 = ((w.alloc (.cells #[.int .i64 0, .bool false, .int .i64 0, .slice none 0 0, .slice none 0 0] 43)).alloc (.cells #[.int .i64 0] 3)).alloc (.cells #[.int .i64 0] 34) := ⟨_, rfl⟩
 have hB0 : Below w.heap.size w W0 := by rw [hW0]; go_grown
 have hz0 : W0.heap.size = w.heap.size + 3 := by rw [hW0]; simp
 have hX0 : W0.heap[w.heap.size]? = some (.cells #[.int .i64 0, .bool false, .int .i64 0, .slice none 0 0, .slice none 0 0] 43 (0, 0)) := by
  rw [hW0, Below.heap_alloc _ _ _ (by simp; omega), Below.heap_alloc _ _ _ (by simp)]; exact heap_alloc_new w _
 have hN0 : W0.heap[w.heap.size + 1]? = some (.cells #[.int .i64 0] 3 (0, 0)) := by
  rw [hW0, Below.heap_alloc _ _ _ (by simp)]; exact heap_alloc_new (w.alloc _) _ |> (by simpa using ·)
 have hE0 : W0.heap[w.heap.size + 2]? = some (.cells #[.int .i64 0] 34 (0, 0)) := by
  rw [hW0]; exact heap_alloc_new ((w.alloc _).alloc _) _ |> (by simpa using ·)
 go_enter_defers Tryz.func15, Tryz.ntmps15
 go_wp2_with fail
 rw [← hW0]
 clear hW0
 refine (CN.out W0 hB0).mono ?_
 rintro en w2 ⟨rfl, hb2⟩
 have hz2 := hb2.size
 have hE2 : ∀ ob : Obj, (w2.alloc ob).heap[w.heap.size + 2]? = some (.cells #[.int .i64 0] 34 (0, 0)) := fun ob => by
  rw [Below.heap_alloc _ _ _ (by omega), hb2.block _ (by omega)]; exact hE0
 have e0 : ∀ ob : Obj, (w2.alloc ob).cell? ⟨w.heap.size + 2, 0, none⟩ = some (.int .i64 0) := fun ob => cell_of_one (hE2 ob)
 have e1 : ∀ ob : Obj, (w2.alloc ob).frozen? ⟨w.heap.size + 2, 0, none⟩ = false := fun ob => free_of_one (hE2 ob)
 have hX2 : ∀ ob : Obj, (w2.alloc ob).heap[w.heap.size]? = some (.cells #[.int .i64 0, .bool false, .int .i64 0, .slice none 0 0, .slice none 0 0] 43 (0, 0)) := fun ob => by
  rw [Below.heap_alloc _ _ _ (by omega), hb2.block _ (by omega)]; exact hX0
 have hN2 : ∀ ob : Obj, (w2.alloc ob).heap[w.heap.size + 1]? = some (.cells #[.int .i64 0] 3 (0, 0)) := fun ob => by
  rw [Below.heap_alloc _ _ _ (by omega), hb2.block _ (by omega)]; exact hN0
 have hne : w2.heap.size ≠ w.heap.size + 2 := by omega
 obtain ⟨r0, r1, r2, r3, r4, f0, f1, f2, f3, f4⟩ := cells5A hX2
 have n0 : ∀ ob : Obj, (w2.alloc ob).cell? ⟨w.heap.size + 1, 0, none⟩ = some (.int .i64 0) := fun ob => cell_of_one (hN2 ob)
 have n1 : ∀ ob : Obj, (w2.alloc ob).frozen? ⟨w.heap.size + 1, 0, none⟩ = false := fun ob => free_of_one (hN2 ob)
 replace hX2 := Hd hX2
 replace hN2 := Hd hN2
 replace hE2 := Hd hE2
 replace hb2 := Hd hb2
 replace hX0 := Hd hX0
 replace hN0 := Hd hN0
 replace hE0 := Hd hE0
 replace hB0 := Hd hB0
 replace hz0 := Hd hz0
 go_wp2_with fail
 clear r0 r1 r2 r3 r4 f0 f1 f2 f3 f4 n0 n1
 obtain ⟨W, hW⟩ : ∃ W, W = (w2.alloc (.cells #[.int .i64 (c : Int), .bool m, .int .i64 (k : Int), .int .i64 (fr : Int), .int .i64 (al : Int)] 85)).setCell ⟨w.heap.size + 2, 0, none⟩ (.int .i64 0) := ⟨_, rfl⟩
 have hBW : Below w.heap.size w W := by rw [hW]; exact ((hB0.out.trans (hb2.out.mono (by have := hz0.out; omega))).alloc (by have := hz0.out; omega) _).setCell (by show w.heap.size ≤ w.heap.size + 2; omega) _
 have hXW : W.heap[w.heap.size]? = some (.cells #[.int .i64 0, .bool false, .int .i64 0, .slice none 0 0, .slice none 0 0] 43 (0, 0)) := by
  rw [hW, _root_.Go.heap_setCell_other _ _ _ _ (by show w.heap.size ≠ w.heap.size + 2; omega), Below.heap_alloc _ _ _ (by have := hz0.out; omega), hb2.out.block _ (by have := hz0.out; omega)]; exact hX0.out
 have hNW : W.heap[w.heap.size + 1]? = some (.cells #[.int .i64 0] 3 (0, 0)) := by
  rw [hW, _root_.Go.heap_setCell_other _ _ _ _ (by show w.heap.size + 1 ≠ w.heap.size + 2; omega), Below.heap_alloc _ _ _ (by have := hz0.out; omega), hb2.out.block _ (by have := hz0.out; omega)]; exact hN0.out
 have hEW : W.heap[w.heap.size + 2]? = some (.cells #[.int .i64 0] 34 (0, 0)) := by
  rw [hW, _root_.Go.heap_setCell_same _ _ _ _ _ _ (hE2.out _)]; rfl
 have hHW : W.heap[w2.heap.size]? = some (.cells #[.int .i64 (c : Int), .bool m, .int .i64 (k : Int), .int .i64 (fr : Int), .int .i64 (al : Int)] 85 (0, 0)) := by
  rw [hW, _root_.Go.heap_setCell_other _ _ _ _ (by show w2.heap.size ≠ w.heap.size + 2; omega)]; exact heap_alloc_new w2 _
 have hsW : W.heap.size = w2.heap.size + 1 := by rw [hW]; simp [World.setCell]
 rw [← hW]
 clear hW e0 e1
 obtain ⟨r0, r1, r2, r3, r4, f0, f1, f2, f3, f4⟩ := cells5 hXW
 have n0 := cell_of_one hNW
 have n1 := free_of_one hNW
 have m0 := cell_of_one hEW
 have m1 := free_of_one hEW
 obtain ⟨k0, k1, k2, k3, k4, _⟩ := cells5 hHW
 clear r0 r1 r2 r3 r4 f0 f1 f2 f3 f4 n0 n1 m0 m1 k0 k1 k2 k3 k4
 replace hXW := Hd hXW
 replace hNW := Hd hNW
 replace hEW := Hd hEW
 replace hBW := Hd hBW
 obtain ⟨W9, hW9⟩ : ∃ W9, W9 = ((set5 W w.heap.size (.int .i64 0) (.bool false) (.int .i64 0) (.slice none 0 0) (.slice none 0 0)).setCell ⟨w.heap.size + 1, 0, none⟩ (.int .i64 0)).setCell ⟨w.heap.size + 2, 0, none⟩ (.int .i64 10) := ⟨_, rfl⟩
 obtain ⟨c1, c2, c3, c4⟩ := par_cells hXW.out hNW.out hEW.out hBW.out (.int .i64 0) (.bool false) (.int .i64 0) (.slice none 0 0) (.slice none 0 0) (.int .i64 0) (.int .i64 10)
 rw [← hW9] at c1 c2 c3 c4
 have HX : (((((((W.setCell ⟨w.heap.size, 0, none⟩ (.int .i64 0)).setCell ⟨w.heap.size, 1, none⟩ (.bool false)).setCell ⟨w.heap.size, 2, none⟩ (.int .i64 0)).setCell ⟨w.heap.size, 3, none⟩ (.slice none 0 0)).setCell ⟨w.heap.size, 4, none⟩ (.slice none 0 0)).setCell ⟨w.heap.size + 1, 0, none⟩ (.int .i64 0)).setCell ⟨w.heap.size + 2, 0, none⟩ (.int .i64 10)) = W9 := hW9.symm
 rw [HX]
 clear HX hW9
 obtain ⟨q0, q1, q2, q3, q4, _⟩ := cells5 c1
 have q5 := cell_of_one c2
 have q6 := cell_of_one c3
 replace c1 := Hd c1
 replace c2 := Hd c2
 replace c3 := Hd c3
 exact ⟨.tuple #[.agg #[.int .i64 0, .bool false, .int .i64 0, .slice none 0 0, .slice none 0 0], .int .i64 0, .int .i64 10], by simp [results, Tryz.results15, go_sem, q0, q1, q2, q3, q4, q5, q6], par_post (q := (el0, 0, 10)) rfl c4⟩
def panQ (chain : List PanicEntry) (G : World → Prop) (p2 p3 p4 : Value) (D : List Deferred) (e : Exit) (a : Act) (w : World) : Prop :=
 match e with
 | .panic c => (c = chain ∧ G w) ∧ (a.tmps[2]? = some p2 ∧ a.tmps[3]? = some p3 ∧ a.tmps[4]? = some p4) ∧ a.defers = D
 | _ => False
theorem wp_panQ {P : Program} {c : Code} {chain : List PanicEntry} {G : World → Prop} {p2 p3 p4 : Value} {D : List Deferred} {Q : Exit → Act → World → Prop} {a : Act} {w : World}
 (hp : ∀ a w, G w → (a.tmps[2]? = some p2 ∧ a.tmps[3]? = some p3 ∧ a.tmps[4]? = some p4) → a.defers = D → Q (.panic chain) a w) (h : Code.wp P c (panQ chain G p2 p3 p4 D) a w) : Code.wp P c Q a w := by
 intro b k cs
 obtain ⟨e, a', w', q, r⟩ := h b k cs
 refine ⟨e, a', w', ?_, r⟩
 cases e <;> first | exact q.elim | (obtain ⟨⟨rfl, q1⟩, q2, q3⟩ := q; exact hp _ _ q1 q2 q3)
theorem panQ_put {chain : List PanicEntry} {G : World → Prop} {p2 p3 p4 : Value} {D : List Deferred} (d : Nat) (hd : 4 < d) (v : Value) (c : List PanicEntry) (a : Act) (w : World)
 (h : panQ chain G p2 p3 p4 D (.panic c) (a.put (some d) v) w) : panQ chain G p2 p3 p4 D (.panic c) a w := by
 obtain ⟨h1, ⟨h2, h3, h4⟩, h5⟩ := h
 have k : ∀ j, j < 5 → (a.put (some d) v).tmps[j]? = a.tmps[j]? := fun j hj => by
  unfold Act.put
  simp only []
  rw [Array.getElem?_setIfInBounds_ne (by omega)]
 exact ⟨h1, ⟨(k 2 (by omega)).symm.trans h2, (k 3 (by omega)).symm.trans h3, (k 4 (by omega)).symm.trans h4⟩, h5⟩
theorem keep_five {V : World} {B : Nat} {x0 x1 x2 x3 x4 : Value} (a : Addr) (u : Value) (hne : B ≠ a.block)
 (h : V.cell? ⟨B, 0, none⟩ = some x0 ∧ V.cell? ⟨B, 1, none⟩ = some x1 ∧ V.cell? ⟨B, 2, none⟩ = some x2 ∧ V.cell? ⟨B, 3, none⟩ = some x3 ∧ V.cell? ⟨B, 4, none⟩ = some x4) :
 (V.setCell a u).cell? ⟨B, 0, none⟩ = some x0 ∧ (V.setCell a u).cell? ⟨B, 1, none⟩ = some x1 ∧ (V.setCell a u).cell? ⟨B, 2, none⟩ = some x2 ∧ (V.setCell a u).cell? ⟨B, 3, none⟩ = some x3 ∧ (V.setCell a u).cell? ⟨B, 4, none⟩ = some x4 := by
 have k : ∀ o, (V.setCell a u).cell? ⟨B, o, none⟩ = V.cell? ⟨B, o, none⟩ := fun o => World.cell?_of_block (_root_.Go.heap_setCell_other _ _ _ _ hne)
 rw [k, k, k, k, k]
 exact h
def okQ (Q : Exit → Act → World → Prop) (e : Exit) (a : Act) (w : World) : Prop :=
 match e with
 | .panic _ => False
 | e => Q e a w
theorem wp_okQ {P : Program} {c : Code} {Q : Exit → Act → World → Prop} {a : Act} {w : World} (h : Code.wp P c (okQ Q) a w) : Code.wp P c Q a w := by
 intro b k cs
 obtain ⟨e, a', w', q, r⟩ := h b k cs
 refine ⟨e, a', w', ?_, r⟩
 cases e <;> first | exact q | exact q.elim
set_option maxRecDepth 8000 in
set_option maxHeartbeats 1600000 in
theorem par_ok (A : Option Addr) (cp n c k fr al : Nat) (m : Bool) (w : World) (hn : al ≤ n) (kid : El) (CN : Hid (∀ w', Below w.heap.size w w' → Calls Tryz.prog 39 #[.slice A n cp] w' fun en w'' => en = .returned (.tuple #[.agg #[.int .i64 (c : Int), .bool m, .int .i64 (k : Int), .int .i64 (fr : Int), .int .i64 (al : Int)], .int .i64 0]) ∧ Below w'.heap.size w' w''))
 (CD : Hid (∀ w', Below w.heap.size w w' → Calls Tryz.prog 41 #[.slice A n cp, .agg #[.int .i64 (c : Int), .bool m, .int .i64 (k : Int), .int .i64 (fr : Int), .int .i64 (al : Int)], .int .i64 0] w' (DecPost (kid, 0) w'))) :
 Calls Tryz.prog 15 #[.slice A n cp] w (ParQ (kid, al, 0) w) := by
 have kn : decide ((n : Int) < (al : Int)) = false := decide_eq_false (by omega)
 obtain ⟨W0, hW0⟩ : ∃ W0, W0 = ((w.alloc (.cells #[.int .i64 0, .bool false, .int .i64 0, .slice none 0 0, .slice none 0 0] 43)).alloc (.cells #[.int .i64 0] 3)).alloc (.cells #[.int .i64 0] 34) := ⟨_, rfl⟩
 have hB0 : Below w.heap.size w W0 := by rw [hW0]; go_grown
 have hz0 : W0.heap.size = w.heap.size + 3 := by rw [hW0]; simp
 have hX0 : W0.heap[w.heap.size]? = some (.cells #[.int .i64 0, .bool false, .int .i64 0, .slice none 0 0, .slice none 0 0] 43 (0, 0)) := by
  rw [hW0, Below.heap_alloc _ _ _ (by simp; omega), Below.heap_alloc _ _ _ (by simp)]; exact heap_alloc_new w _
 have hN0 : W0.heap[w.heap.size + 1]? = some (.cells #[.int .i64 0] 3 (0, 0)) := by
  rw [hW0, Below.heap_alloc _ _ _ (by simp)]; exact heap_alloc_new (w.alloc _) _ |> (by simpa using ·)
 have hE0 : W0.heap[w.heap.size + 2]? = some (.cells #[.int .i64 0] 34 (0, 0)) := by
  rw [hW0]; exact heap_alloc_new ((w.alloc _).alloc _) _ |> (by simpa using ·)
 go_enter_defers Tryz.func15, Tryz.ntmps15
 go_wp2_with fail
 rw [← hW0]
 clear hW0
 refine (CN.out W0 hB0).mono ?_
 rintro en w2 ⟨rfl, hb2⟩
 have hz2 := hb2.size
 have hE2 : ∀ ob : Obj, (w2.alloc ob).heap[w.heap.size + 2]? = some (.cells #[.int .i64 0] 34 (0, 0)) := fun ob => by
  rw [Below.heap_alloc _ _ _ (by omega), hb2.block _ (by omega)]; exact hE0
 have e0 : ∀ ob : Obj, (w2.alloc ob).cell? ⟨w.heap.size + 2, 0, none⟩ = some (.int .i64 0) := fun ob => cell_of_one (hE2 ob)
 have e1 : ∀ ob : Obj, (w2.alloc ob).frozen? ⟨w.heap.size + 2, 0, none⟩ = false := fun ob => free_of_one (hE2 ob)
 have hmf : ∀ (fn : Fn) (first cap : Array Value) (w : World), (Instr.makeFunc fn first cap).run Tryz.prog w = .ok (.func fn first cap) w := fun _ _ _ _ => rfl
 have hne : w2.heap.size ≠ w.heap.size + 2 := by omega
 have hne0 : w2.heap.size ≠ w.heap.size := by omega
 have hne1 : w2.heap.size ≠ w.heap.size + 1 := by omega
 replace hE2 := Hd hE2
 replace hb2 := Hd hb2
 replace hX0 := Hd hX0
 replace hN0 := Hd hN0
 replace hE0 := Hd hE0
 replace hB0 := Hd hB0
 replace hz0 := Hd hz0
 go_wp2_with fail
 obtain ⟨W, hW⟩ : ∃ W, W = (w2.alloc (.cells #[.int .i64 (c : Int), .bool m, .int .i64 (k : Int), .int .i64 (fr : Int), .int .i64 (al : Int)] 85)).setCell ⟨w.heap.size + 2, 0, none⟩ (.int .i64 0) := ⟨_, rfl⟩
 have hBW : Below w.heap.size w W := by rw [hW]; exact ((hB0.out.trans (hb2.out.mono (by have := hz0.out; omega))).alloc (by have := hz0.out; omega) _).setCell (by show w.heap.size ≤ w.heap.size + 2; omega) _
 have hXW : W.heap[w.heap.size]? = some (.cells #[.int .i64 0, .bool false, .int .i64 0, .slice none 0 0, .slice none 0 0] 43 (0, 0)) := by
  rw [hW, _root_.Go.heap_setCell_other _ _ _ _ (by show w.heap.size ≠ w.heap.size + 2; omega), Below.heap_alloc _ _ _ (by have := hz0.out; omega), hb2.out.block _ (by have := hz0.out; omega)]; exact hX0.out
 have hNW : W.heap[w.heap.size + 1]? = some (.cells #[.int .i64 0] 3 (0, 0)) := by
  rw [hW, _root_.Go.heap_setCell_other _ _ _ _ (by show w.heap.size + 1 ≠ w.heap.size + 2; omega), Below.heap_alloc _ _ _ (by have := hz0.out; omega), hb2.out.block _ (by have := hz0.out; omega)]; exact hN0.out
 have hEW : W.heap[w.heap.size + 2]? = some (.cells #[.int .i64 0] 34 (0, 0)) := by
  rw [hW, _root_.Go.heap_setCell_same _ _ _ _ _ _ (hE2.out _)]; rfl
 have hHW : W.heap[w2.heap.size]? = some (.cells #[.int .i64 (c : Int), .bool m, .int .i64 (k : Int), .int .i64 (fr : Int), .int .i64 (al : Int)] 85 (0, 0)) := by
  rw [hW, _root_.Go.heap_setCell_other _ _ _ _ (by show w2.heap.size ≠ w.heap.size + 2; omega)]; exact heap_alloc_new w2 _
 have hsW : W.heap.size = w2.heap.size + 1 := by rw [hW]; simp [World.setCell]
 rw [← hW]
 clear hW e0 e1
 obtain ⟨r0, r1, r2, r3, r4, f0, f1, f2, f3, f4⟩ := cells5 hXW
 have n0 := cell_of_one hNW
 have n1 := free_of_one hNW
 have m0 := cell_of_one hEW
 have m1 := free_of_one hEW
 obtain ⟨k0, k1, k2, k3, k4, _⟩ := cells5 hHW
 have KP : Hid (∀ w3, Below W.heap.size W w3 → (w3.cell? ⟨w2.heap.size, 0, none⟩ = some (.int .i64 (c : Int)) ∧ w3.cell? ⟨w2.heap.size, 1, none⟩ = some (.bool m) ∧ w3.cell? ⟨w2.heap.size, 2, none⟩ = some (.int .i64 (k : Int)) ∧ w3.cell? ⟨w2.heap.size, 3, none⟩ = some (.int .i64 (fr : Int)) ∧ w3.cell? ⟨w2.heap.size, 4, none⟩ = some (.int .i64 (al : Int)))) := Hd fun w3 h3 => by
  obtain ⟨y0, y1, y2, y3, y4, _⟩ := cells5 ((h3.block _ (by omega)).trans hHW)
  exact ⟨y0, y1, y2, y3, y4⟩
 have HW3 : Hid (∀ w3, Below W.heap.size W w3 → w3.heap[w.heap.size]? = some (.cells #[.int .i64 0, .bool false, .int .i64 0, .slice none 0 0, .slice none 0 0] 43 (0, 0)) ∧ w3.heap[w.heap.size + 1]? = some (.cells #[.int .i64 0] 3 (0, 0)) ∧ w3.heap[w.heap.size + 2]? = some (.cells #[.int .i64 0] 34 (0, 0))) := Hd fun w3 h3 => by
  have := hz0.out
  exact ⟨(h3.block _ (by omega)).trans hXW, (h3.block _ (by omega)).trans hNW, (h3.block _ (by omega)).trans hEW⟩
 have hzW : w.heap.size + 3 ≤ W.heap.size := by have := hz0.out; omega
 have hwW : w2.heap.size < W.heap.size := by omega
 replace hXW := Hd hXW
 replace hNW := Hd hNW
 replace hEW := Hd hEW
 replace hHW := Hd hHW
 replace hBW := Hd hBW
 clear r0 r1 r2 r3 r4 f0 f1 f2 f3 f4 n0 n1 m0 m1
 obtain ⟨s0, s1, s2, s3, s4⟩ := KP.out W (Below.refl _ _)
 clear k0 k1 k2 k3 k4
 refine wp_okQ ?_
 refine wp_region_held_drew (S := (fun W => W.cell? ⟨w2.heap.size, 0, none⟩ = some (.int .i64 (c : Int)) ∧ W.cell? ⟨w2.heap.size, 1, none⟩ = some (.bool m) ∧ W.cell? ⟨w2.heap.size, 2, none⟩ = some (.int .i64 (k : Int)) ∧ W.cell? ⟨w2.heap.size, 3, none⟩ = some (.int .i64 (fr : Int)) ∧ W.cell? ⟨w2.heap.size, 4, none⟩ = some (.int .i64 (al : Int)))) (by kernel_rfl) ⟨s0, s1, s2, s3, s4⟩ ?_
 intro hHeld
 refine tk 0 22 hHeld ?_
 refine tk 1 23 hHeld ?_
 refine tk 3 25 hHeld ?_
 refine tk 4 26 hHeld ?_
 refine rdy [2] ?_
 refine .cons rfl (fun K hK => ?_) AllReadyH.nil
 go_simp
 go_at_call 41
 refine (CD.out _ hBW.out.drew).mono ?_
 rintro en w3 ⟨hok, _, hb3⟩
 obtain ⟨Ab2, cb2, A3, c3, rfl, hkin⟩ := hok rfl
 have HB3 := Hd (show Below W.heap.size W w3 from (Below.refl W.heap.size W).trans ⟨hb3.os, hb3.tape, hb3.output, hb3.size, hb3.block⟩)
 have hz3 := HB3.out.size
 replace hkin := Hd (show ElIn w3 (New W.heap.size w3) kid Ab2 cb2 A3 c3 from hkin)
 have HX3 := Hd (HW3.out w3 HB3.out)
 obtain ⟨r0, r1, r2, r3, r4, f0, f1, f2, f3, f4⟩ := cells5 HX3.out.1
 have n0 := cell_of_one HX3.out.2.1
 have n1 := free_of_one HX3.out.2.1
 have m0 := cell_of_one HX3.out.2.2
 have m1 := free_of_one HX3.out.2.2
 unfold elV
 clear hb3 hok
 dsimp only []
 refine hK.out _ _ ?_ (fun hHeld => ?_)
 · exact KP.out _ HB3.out
 clear hK K
 refine rdy [5] ?_
 refine .cons rfl (fun K hK => ?_) AllReadyH.nil
 go_simp
 refine hK.out _ _ (keep_five _ _ hne0 (keep_five _ _ hne0 (keep_five _ _ hne0 (keep_five _ _ hne0 (keep_five _ _ hne0 hHeld))))) ?_
 clear hK K hHeld
 intro hHeld
 refine rdy [6] ?_
 refine .cons rfl (fun K hK => ?_) AllReadyH.nil
 go_simp
 refine hK.out _ _ (keep_five _ _ hne1 hHeld) ?_
 clear hK K hHeld
 intro hHeld
 refine rdy [7] ?_
 refine .cons rfl (fun K hK => ?_) AllReadyH.nil
 go_simp
 refine hK.out _ _ (keep_five _ _ hne hHeld) ?_
 clear hK K hHeld
 intro hHeld
 refine wpAnyH_done (by kernel_rfl) ?_ _
 clear r0 r1 r2 r3 r4 f0 f1 f2 f3 f4 n0 n1 m0 m1 s0 s1 s2 s3 s4 hHeld
 obtain ⟨W9, hW9⟩ : ∃ W9, W9 = ((set5 w3 w.heap.size (.int .i64 kid.c) (.bool kid.m) (.int .i64 kid.n) (.slice Ab2 kid.b.length cb2) (.slice A3 kid.kids.length c3)).setCell ⟨w.heap.size + 1, 0, none⟩ (.int .i64 (al : Int))).setCell ⟨w.heap.size + 2, 0, none⟩ (.int .i64 0) := ⟨_, rfl⟩
 have hB3 : Below w.heap.size w w3 := hBW.out.trans (HB3.out.mono (by omega))
 obtain ⟨c1, c2, c3', c4⟩ := par_cells HX3.out.1 HX3.out.2.1 HX3.out.2.2 hB3 (.int .i64 kid.c) (.bool kid.m) (.int .i64 kid.n) (.slice Ab2 kid.b.length cb2) (.slice A3 kid.kids.length c3) (.int .i64 (al : Int)) (.int .i64 0)
 have hin9 : ElIn W9 (New w.heap.size W9) kid Ab2 cb2 A3 c3 := by
  refine (hkin.out.keep fun p hp => ?_).more fun x hx => ⟨by have := hx.1; omega, ?_⟩
  · have hp1 : W.heap.size ≤ p.block := hp.1
    rw [hW9]
    refine (World.cell?_of_block (heap_setCell_other _ _ _ _ (by show p.block ≠ w.heap.size + 2; omega))).trans ((World.cell?_of_block (heap_setCell_other _ _ _ _ (by show p.block ≠ w.heap.size + 1; omega))).trans (set5_other _ _ _ _ _ _ _ p (by omega)))
  · rw [hW9]
    exact ((hx.2.set5 _ _ _ _ _ _).setCell _ _).setCell _ _
 have HX : (((((((w3.setCell ⟨w.heap.size, 0, none⟩ (.int .i64 kid.c)).setCell ⟨w.heap.size, 1, none⟩ (.bool kid.m)).setCell ⟨w.heap.size, 2, none⟩ (.int .i64 kid.n)).setCell ⟨w.heap.size, 3, none⟩ (.slice Ab2 kid.b.length cb2)).setCell ⟨w.heap.size, 4, none⟩ (.slice A3 kid.kids.length c3)).setCell ⟨w.heap.size + 1, 0, none⟩ (.int .i64 (al : Int))).setCell ⟨w.heap.size + 2, 0, none⟩ (.int .i64 0)) = W9 := hW9.symm
 rw [← hW9] at c1 c2 c3' c4
 rw [HX]
 clear HX hW9
 obtain ⟨q0, q1, q2, q3, q4, _⟩ := cells5 c1
 have q5 := cell_of_one c2
 have q6 := cell_of_one c3'
 replace c1 := Hd c1
 replace c2 := Hd c2
 replace c3' := Hd c3'
 replace hin9 := Hd hin9
 unfold okQ
 go_wp2_with fail
 refine leaves_cons (f := 40) (args := #[.pointer (some ⟨w.heap.size, 0, none⟩), .pointer (some ⟨w.heap.size + 1, 0, none⟩), .pointer (some ⟨w.heap.size + 2, 0, none⟩)]) (by simp) (by simp [go_sem]) ?_
 refine (catchP_idle _ _ _ _).mono ?_
 rintro e u' w'' ⟨rfl, rfl, rfl⟩
 exact ⟨.tuple #[.agg #[.int .i64 kid.c, .bool kid.m, .int .i64 kid.n, .slice Ab2 kid.b.length cb2, .slice A3 kid.kids.length c3], .int .i64 (al : Int), .int .i64 0], by simp [results, Tryz.results15, go_sem, q0, q1, q2, q3, q4, q5, q6], ⟨Ab2, cb2, A3, c3, rfl, hin9.out, c4⟩⟩
set_option maxRecDepth 8000 in
set_option maxHeartbeats 800000 in
theorem par_pan (A : Option Addr) (cp n c k fr al e : Nat) (m : Bool) (w : World) (hn : al ≤ n) (kid : El) (he : e ≠ 0) (CN : Hid (∀ w', Below w.heap.size w w' → Calls Tryz.prog 39 #[.slice A n cp] w' fun en w'' => en = .returned (.tuple #[.agg #[.int .i64 (c : Int), .bool m, .int .i64 (k : Int), .int .i64 (fr : Int), .int .i64 (al : Int)], .int .i64 0]) ∧ Below w'.heap.size w' w''))
 (CD : Hid (∀ w', Below w.heap.size w w' → Calls Tryz.prog 41 #[.slice A n cp, .agg #[.int .i64 (c : Int), .bool m, .int .i64 (k : Int), .int .i64 (fr : Int), .int .i64 (al : Int)], .int .i64 0] w' (DecPost (kid, e) w'))) :
 Calls Tryz.prog 15 #[.slice A n cp] w (ParQ (el0, 0, e) w) := by
 have kn : decide ((n : Int) < (al : Int)) = false := decide_eq_false (by omega)
 obtain ⟨W0, hW0⟩ : ∃ W0, W0 = ((w.alloc (.cells #[.int .i64 0, .bool false, .int .i64 0, .slice none 0 0, .slice none 0 0] 43)).alloc (.cells #[.int .i64 0] 3)).alloc (.cells #[.int .i64 0] 34) := ⟨_, rfl⟩
 have hB0 : Below w.heap.size w W0 := by rw [hW0]; go_grown
 have hz0 : W0.heap.size = w.heap.size + 3 := by rw [hW0]; simp
 have hX0 : W0.heap[w.heap.size]? = some (.cells #[.int .i64 0, .bool false, .int .i64 0, .slice none 0 0, .slice none 0 0] 43 (0, 0)) := by
  rw [hW0, Below.heap_alloc _ _ _ (by simp; omega), Below.heap_alloc _ _ _ (by simp)]; exact heap_alloc_new w _
 have hN0 : W0.heap[w.heap.size + 1]? = some (.cells #[.int .i64 0] 3 (0, 0)) := by
  rw [hW0, Below.heap_alloc _ _ _ (by simp)]; exact heap_alloc_new (w.alloc _) _ |> (by simpa using ·)
 have hE0 : W0.heap[w.heap.size + 2]? = some (.cells #[.int .i64 0] 34 (0, 0)) := by
  rw [hW0]; exact heap_alloc_new ((w.alloc _).alloc _) _ |> (by simpa using ·)
 go_enter_defers Tryz.func15, Tryz.ntmps15
 go_wp2_with fail
 rw [← hW0]
 clear hW0
 refine (CN.out W0 hB0).mono ?_
 rintro en w2 ⟨rfl, hb2⟩
 have hz2 := hb2.size
 have hE2 : ∀ ob : Obj, (w2.alloc ob).heap[w.heap.size + 2]? = some (.cells #[.int .i64 0] 34 (0, 0)) := fun ob => by
  rw [Below.heap_alloc _ _ _ (by omega), hb2.block _ (by omega)]; exact hE0
 have e0 : ∀ ob : Obj, (w2.alloc ob).cell? ⟨w.heap.size + 2, 0, none⟩ = some (.int .i64 0) := fun ob => cell_of_one (hE2 ob)
 have e1 : ∀ ob : Obj, (w2.alloc ob).frozen? ⟨w.heap.size + 2, 0, none⟩ = false := fun ob => free_of_one (hE2 ob)
 have hmf : ∀ (fn : Fn) (first cap : Array Value) (w : World), (Instr.makeFunc fn first cap).run Tryz.prog w = .ok (.func fn first cap) w := fun _ _ _ _ => rfl
 have hne : w2.heap.size ≠ w.heap.size + 2 := by omega
 have hne0 : w2.heap.size ≠ w.heap.size := by omega
 have hne1 : w2.heap.size ≠ w.heap.size + 1 := by omega
 replace hE2 := Hd hE2
 replace hb2 := Hd hb2
 replace hX0 := Hd hX0
 replace hN0 := Hd hN0
 replace hE0 := Hd hE0
 replace hB0 := Hd hB0
 replace hz0 := Hd hz0
 go_wp2_with fail
 obtain ⟨W, hW⟩ : ∃ W, W = (w2.alloc (.cells #[.int .i64 (c : Int), .bool m, .int .i64 (k : Int), .int .i64 (fr : Int), .int .i64 (al : Int)] 85)).setCell ⟨w.heap.size + 2, 0, none⟩ (.int .i64 0) := ⟨_, rfl⟩
 have hBW : Below w.heap.size w W := by rw [hW]; exact ((hB0.out.trans (hb2.out.mono (by have := hz0.out; omega))).alloc (by have := hz0.out; omega) _).setCell (by show w.heap.size ≤ w.heap.size + 2; omega) _
 have hXW : W.heap[w.heap.size]? = some (.cells #[.int .i64 0, .bool false, .int .i64 0, .slice none 0 0, .slice none 0 0] 43 (0, 0)) := by
  rw [hW, _root_.Go.heap_setCell_other _ _ _ _ (by show w.heap.size ≠ w.heap.size + 2; omega), Below.heap_alloc _ _ _ (by have := hz0.out; omega), hb2.out.block _ (by have := hz0.out; omega)]; exact hX0.out
 have hNW : W.heap[w.heap.size + 1]? = some (.cells #[.int .i64 0] 3 (0, 0)) := by
  rw [hW, _root_.Go.heap_setCell_other _ _ _ _ (by show w.heap.size + 1 ≠ w.heap.size + 2; omega), Below.heap_alloc _ _ _ (by have := hz0.out; omega), hb2.out.block _ (by have := hz0.out; omega)]; exact hN0.out
 have hEW : W.heap[w.heap.size + 2]? = some (.cells #[.int .i64 0] 34 (0, 0)) := by
  rw [hW, _root_.Go.heap_setCell_same _ _ _ _ _ _ (hE2.out _)]; rfl
 have hHW : W.heap[w2.heap.size]? = some (.cells #[.int .i64 (c : Int), .bool m, .int .i64 (k : Int), .int .i64 (fr : Int), .int .i64 (al : Int)] 85 (0, 0)) := by
  rw [hW, _root_.Go.heap_setCell_other _ _ _ _ (by show w2.heap.size ≠ w.heap.size + 2; omega)]; exact heap_alloc_new w2 _
 have hsW : W.heap.size = w2.heap.size + 1 := by rw [hW]; simp [World.setCell]
 rw [← hW]
 clear hW e0 e1
 obtain ⟨r0, r1, r2, r3, r4, f0, f1, f2, f3, f4⟩ := cells5 hXW
 have n0 := cell_of_one hNW
 have n1 := free_of_one hNW
 have m0 := cell_of_one hEW
 have m1 := free_of_one hEW
 obtain ⟨k0, k1, k2, k3, k4, _⟩ := cells5 hHW
 have KP : Hid (∀ w3, Below W.heap.size W w3 → (w3.cell? ⟨w2.heap.size, 0, none⟩ = some (.int .i64 (c : Int)) ∧ w3.cell? ⟨w2.heap.size, 1, none⟩ = some (.bool m) ∧ w3.cell? ⟨w2.heap.size, 2, none⟩ = some (.int .i64 (k : Int)) ∧ w3.cell? ⟨w2.heap.size, 3, none⟩ = some (.int .i64 (fr : Int)) ∧ w3.cell? ⟨w2.heap.size, 4, none⟩ = some (.int .i64 (al : Int)))) := Hd fun w3 h3 => by
  obtain ⟨y0, y1, y2, y3, y4, _⟩ := cells5 ((h3.block _ (by omega)).trans hHW)
  exact ⟨y0, y1, y2, y3, y4⟩
 have HW3 : Hid (∀ w3, Below W.heap.size W w3 → w3.heap[w.heap.size]? = some (.cells #[.int .i64 0, .bool false, .int .i64 0, .slice none 0 0, .slice none 0 0] 43 (0, 0)) ∧ w3.heap[w.heap.size + 1]? = some (.cells #[.int .i64 0] 3 (0, 0)) ∧ w3.heap[w.heap.size + 2]? = some (.cells #[.int .i64 0] 34 (0, 0))) := Hd fun w3 h3 => by
  have := hz0.out
  exact ⟨(h3.block _ (by omega)).trans hXW, (h3.block _ (by omega)).trans hNW, (h3.block _ (by omega)).trans hEW⟩
 have hzW : w.heap.size + 3 ≤ W.heap.size := by have := hz0.out; omega
 have hwW : w2.heap.size < W.heap.size := by omega
 replace hXW := Hd hXW
 replace hNW := Hd hNW
 replace hEW := Hd hEW
 replace hHW := Hd hHW
 replace hBW := Hd hBW
 clear r0 r1 r2 r3 r4 f0 f1 f2 f3 f4 n0 n1 m0 m1
 obtain ⟨s0, s1, s2, s3, s4⟩ := KP.out W (Below.refl _ _)
 clear k0 k1 k2 k3 k4
 replace hsW := Hd hsW
 refine wp_panQ (chain := [{ v := .iface 34 (.int .i64 (e : Int)), recovered := false }]) (G := fun w3 => Below W.heap.size W w3) (p2 := .pointer (some ⟨w.heap.size, 0, none⟩)) (p3 := .pointer (some ⟨w.heap.size + 1, 0, none⟩)) (p4 := .pointer (some ⟨w.heap.size + 2, 0, none⟩))
  (D := [{ target := .fn (.func 40) #[.pointer (some ⟨w.heap.size, 0, none⟩), .pointer (some ⟨w.heap.size + 1, 0, none⟩), .pointer (some ⟨w.heap.size + 2, 0, none⟩)], args := #[] }]) ?_ ?_
 · intro a w3 h3 hp hD
   obtain ⟨t2, t3, t4⟩ := hp
   obtain ⟨x1, x2, x3⟩ := HW3.out w3 h3
   have hB3 : Below w.heap.size w w3 := hBW.out.trans (h3.mono (by omega))
   change Leaves _ _ _ _ a.defers _ _
   rw [hD]
   refine leaves_cons (f := 40) (args := #[.pointer (some ⟨w.heap.size, 0, none⟩), .pointer (some ⟨w.heap.size + 1, 0, none⟩), .pointer (some ⟨w.heap.size + 2, 0, none⟩)]) (by simp) (by simp [go_sem]) ?_
   refine (catchP_pan _ _ _ e [] w3 _ _ _ _ _ _ _ x1 x2 x3 (by omega) (by omega) (by omega)).mono ?_
   rintro en u' w'' ⟨rfl, rfl, rfl⟩
   obtain ⟨c1, c2, c3', c4⟩ := par_cells x1 x2 x3 hB3 (.int .i64 0) (.bool false) (.int .i64 0) (.slice none 0 0) (.slice none 0 0) (.int .i64 0) (.int .i64 (e : Int))
   obtain ⟨W9, hW9⟩ : ∃ W9, W9 = ((set5 w3 w.heap.size (.int .i64 0) (.bool false) (.int .i64 0) (.slice none 0 0) (.slice none 0 0)).setCell ⟨w.heap.size + 1, 0, none⟩ (.int .i64 0)).setCell ⟨w.heap.size + 2, 0, none⟩ (.int .i64 (e : Int)) := ⟨_, rfl⟩
   rw [← hW9] at c1 c2 c3' c4
   rw [← hW9]
   clear hW9
   obtain ⟨q0, q1, q2, q3, q4, _⟩ := cells5 c1
   have q5 := cell_of_one c2
   have q6 := cell_of_one c3'
   refine ⟨.tuple #[.agg #[.int .i64 0, .bool false, .int .i64 0, .slice none 0 0, .slice none 0 0], .int .i64 0, .int .i64 (e : Int)], ?_, par_post (q := (el0, 0, e)) rfl ⟨c4.os, c4.tape, c4.output, c4.size, c4.block⟩⟩
   simp [results, Tryz.results15, go_sem, q0, q1, q2, q3, q4, q5, q6, t2, t3, t4]
 refine wp_region_held_drew (S := (fun W => W.cell? ⟨w2.heap.size, 0, none⟩ = some (.int .i64 (c : Int)) ∧ W.cell? ⟨w2.heap.size, 1, none⟩ = some (.bool m) ∧ W.cell? ⟨w2.heap.size, 2, none⟩ = some (.int .i64 (k : Int)) ∧ W.cell? ⟨w2.heap.size, 3, none⟩ = some (.int .i64 (fr : Int)) ∧ W.cell? ⟨w2.heap.size, 4, none⟩ = some (.int .i64 (al : Int)))) (by kernel_rfl) ⟨s0, s1, s2, s3, s4⟩ ?_
 intro hHeld
 refine takeL 0 22 (v := ?_) rfl rfl (by kernel_rfl) (by kernel_rfl) (by kernel_rfl) (fun c a w h => panQ_put 22 (by decide) _ c a w h) (Or.inl ⟨by rfl, ?hy0⟩) hHeld ?rest0
 case hy0 => intro W hS; (try dsimp only at hS); go_simp; try (with_reducible rfl)
 dsimp only [List.set]
 refine takeL 1 23 (v := ?_) rfl rfl (by kernel_rfl) (by kernel_rfl) (by kernel_rfl) (fun c a w h => panQ_put 23 (by decide) _ c a w h) (Or.inl ⟨by rfl, ?hy1⟩) hHeld ?rest1
 case hy1 => intro W hS; (try dsimp only at hS); go_simp; try (with_reducible rfl)
 dsimp only [List.set]
 refine takeL 3 25 (v := ?_) rfl rfl (by kernel_rfl) (by kernel_rfl) (by kernel_rfl) (fun c a w h => panQ_put 25 (by decide) _ c a w h) (Or.inl ⟨by rfl, ?hy3⟩) hHeld ?rest3
 case hy3 => intro W hS; (try dsimp only at hS); go_simp; try (with_reducible rfl)
 dsimp only [List.set]
 refine takeL 4 26 (v := ?_) rfl rfl (by kernel_rfl) (by kernel_rfl) (by kernel_rfl) (fun c a w h => panQ_put 26 (by decide) _ c a w h) (Or.inl ⟨by rfl, ?hy4⟩) hHeld ?rest4
 case hy4 => intro W hS; (try dsimp only at hS); go_simp; try (with_reducible rfl)
 dsimp only [List.set]
 refine rdy [2] ?_
 refine .cons rfl (fun K hK => ?_) AllReadyH.nil
 go_simp
 go_at_call 41
 refine (CD.out _ hBW.out.drew).mono ?_
 rintro en w3 ⟨_, herr, hb3⟩
 obtain rfl := herr he
 exact ⟨⟨rfl, (Below.refl W.heap.size W).trans ⟨hb3.os, hb3.tape, hb3.output, hb3.size, hb3.block⟩⟩, ⟨rfl, rfl, rfl⟩, rfl⟩
theorem par_any (A : Option Addr) (cp : Nat) (l : List Nat) (w : World) (K : Nat) (hs : Src w K A cp l) (hK : K ≤ w.heap.size) (hl : l.length ≤ 1048600) (hcp : cp ≤ 9223372036854775807) (hby : ∀ x ∈ l, x < 256) :
 Calls Tryz.prog 15 #[.slice A l.length cp] w (ParQ (parP l) w) := by
 have CN := fun w' (hb : Below w.heap.size w w') => readHead_any A cp l w' K (hs.below (hb.mono hK)) (Nat.le_trans hK hb.size) hl hcp hby
 unfold parP
 by_cases h1 : (hdT l).2.2 = 0
 · rw [if_neg (by simpa using h1)]
   unfold headV at CN
   rw [if_pos h1] at CN
   by_cases h2 : l.length < (hdT l).1
   · rw [if_pos h2]
     rw [h1] at CN
     exact par_short A cp l.length _ _ _ _ _ w h2 (Hd CN)
   · rw [if_neg h2]
     have CD := fun w' (hb : Below w.heap.size w w') => dec_any (2 * (hdT l).1) 0 l A cp w' K (Nat.le_refl _) (hs.below (hb.mono hK)) (Nat.le_trans hK hb.size) hl hcp hby h1 (by omega) (by omega)
     unfold headV at CD
     rw [if_pos h1] at CD
     rw [h1] at CN
     obtain ⟨q, hq⟩ : ∃ q, q = inP (2 * (hdT l).1) (l.take (hdT l).1) 0 := ⟨_, rfl⟩
     rw [← hq] at CD ⊢
     obtain ⟨kid, e2⟩ := q
     by_cases h3 : e2 = 0
     · subst h3
       rw [if_neg (by simp)]
       exact par_ok A cp l.length _ _ _ _ _ w (by omega) _ (Hd CN) (Hd CD)
     · rw [if_pos h3]
       exact par_pan A cp l.length _ _ _ _ _ _ w (by omega) _ h3 (Hd CN) (Hd CD)
 · rw [if_pos h1]
   unfold headV at CN
   rw [if_neg h1] at CN
   exact par_err A cp l.length _ w h1 (Hd CN)
end Go.Proofs.YtcbiedonmibfaaaGreatDoor
