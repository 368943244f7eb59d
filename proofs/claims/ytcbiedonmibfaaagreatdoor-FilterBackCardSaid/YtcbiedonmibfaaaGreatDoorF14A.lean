/-
  The filter package's small functions, and its rows.
-/
import Derived.Test.YtcbiedonmibfaaaGreatDoorST
import Derived.Test.YtcbiedonmibfaaaGreatDoorDT
import Derived.Test.YtcbiedonmibfaaaGreatDoorStr
import Derived.OneCell
import Derived.Lib.QuietBelow
import Derived.BigGuardPart
import Derived.OwnWalk
import Derived.Test.YtcbiedonmibfaaaGreatDoorBerH3
import Derived.Test.YtcbiedonmibfaaaGreatDoorE14
import Derived.Test.YtcbiedonmibfaaaGreatDoorO7B
import Derived.Lib.IndexBytes
import Derived.Lib.SplitLaws
import Derived.Shelf.Strings.SplitCore
import Derived.Test.YtcbiedonmibfaaaGreatDoorFltOwn
import Derived.Deep.RegionHeldLaw
import Derived.Deep.AppendLies
import Derived.BigRegion
import Derived.RegionTactic
import Derived.ChangeAlike
import Derived.Test.YtcbiedonmibfaaaGreatDoorBerPa3
namespace Go.Proofs.YtcbiedonmibfaaaGreatDoor
open Go.RowKit
structure But (p : Nat) (w w' : World) : Prop where
 os : w'.os = w.os
 tape : w'.tape = w.tape
 output : w'.output = w.output
 size : w.heap.size ≤ w'.heap.size
 block : ∀ b, b < w.heap.size → b ≠ p → w'.heap[b]? = w.heap[b]?
theorem But.refl (p : Nat) (w : World) : But p w w := ⟨rfl, rfl, rfl, Nat.le_refl _, fun _ _ _ => rfl⟩
theorem But.trans {p : Nat} {a b c : World} (h : But p a b) (k : But p b c) : But p a c :=
 ⟨k.os.trans h.os, k.tape.trans h.tape, k.output.trans h.output, Nat.le_trans h.size k.size, fun i hi hp => (k.block i (Nat.lt_of_lt_of_le hi h.size) hp).trans (h.block i hi hp)⟩
theorem But.of {p : Nat} {w w' : World} (h : Below w.heap.size w w') : But p w w' := ⟨h.os, h.tape, h.output, h.size, fun i hi _ => h.block i hi⟩
theorem But.below {p K : Nat} {w w' : World} (h : But p w w') (hp : K ≤ p) (hK : K ≤ w.heap.size) : Below K w w' := ⟨h.os, h.tape, h.output, h.size, fun i hi => h.block i (by omega) (by omega)⟩
theorem But.set {p : Nat} {w : World} (o : Nat) (u : Value) : But p w (w.setCell ⟨p, o, none⟩ u) :=
 ⟨rfl, rfl, rfl, by simp [World.setCell], fun b _ hp => Below.heap_setCell _ _ _ _ hp⟩
theorem But.cell {p : Nat} {w w' : World} (h : But p w w') {a : Addr} (h1 : a.block < w.heap.size) (h2 : a.block ≠ p) : w'.cell? a = w.cell? a := World.cell?_of_block (w := w) (h.block a.block h1 h2)
theorem set_one {w : World} {b : Nat} {v u : Value} {T : TypeId} (h : w.heap[b]? = some (.cells #[v] T (0, 0))) : (w.setCell ⟨b, 0, none⟩ u).heap[b]? = some (.cells #[u] T (0, 0)) := by
 rw [_root_.Go.heap_setCell_same _ _ _ _ _ _ h]
 rfl
theorem set_two0 {w : World} {b : Nat} {v x u : Value} {T : TypeId} (h : w.heap[b]? = some (.cells #[v, x] T (0, 0))) : (w.setCell ⟨b, 0, none⟩ u).heap[b]? = some (.cells #[u, x] T (0, 0)) := by
 rw [_root_.Go.heap_setCell_same _ _ _ _ _ _ h]
 rfl
theorem set_two1 {w : World} {b : Nat} {v x u : Value} {T : TypeId} (h : w.heap[b]? = some (.cells #[v, x] T (0, 0))) : (w.setCell ⟨b, 1, none⟩ u).heap[b]? = some (.cells #[v, u] T (0, 0)) := by
 rw [_root_.Go.heap_setCell_same _ _ _ _ _ _ h]
 rfl
theorem cells2 {w : World} {b : Nat} {v0 v1 : Value} {T : TypeId} (h : w.heap[b]? = some (.cells #[v0, v1] T (0, 0))) :
 w.cell? ⟨b, 0, none⟩ = some v0 ∧ w.cell? ⟨b, 1, none⟩ = some v1 ∧ w.frozen? ⟨b, 0, none⟩ = false ∧ w.frozen? ⟨b, 1, none⟩ = false :=
 ⟨cell_of_row _ _ _ _ _ _ h, cell_of_row _ _ _ _ _ _ h, by simp [World.frozen?, h], by simp [World.frozen?, h]⟩
theorem cells7 {w : World} {b : Nat} {v0 v1 v2 v3 v4 v5 v6 : Value} {T : TypeId} (h : w.heap[b]? = some (.cells #[v0, v1, v2, v3, v4, v5, v6] T (0, 0))) :
 w.cell? ⟨b, 0, none⟩ = some v0 ∧ w.cell? ⟨b, 1, none⟩ = some v1 ∧ w.cell? ⟨b, 2, none⟩ = some v2 ∧ w.cell? ⟨b, 3, none⟩ = some v3 ∧ w.cell? ⟨b, 4, none⟩ = some v4 ∧ w.cell? ⟨b, 5, none⟩ = some v5 ∧ w.cell? ⟨b, 6, none⟩ = some v6 :=
 ⟨cell_of_row _ _ _ _ _ _ h, cell_of_row _ _ _ _ _ _ h, cell_of_row _ _ _ _ _ _ h, cell_of_row _ _ _ _ _ _ h, cell_of_row _ _ _ _ _ _ h, cell_of_row _ _ _ _ _ _ h, cell_of_row _ _ _ _ _ _ h⟩
theorem free7 {w : World} {b : Nat} {cs : Array Value} {T : TypeId} (h : w.heap[b]? = some (.cells cs T (0, 0))) (j : Nat) : w.frozen? ⟨b, j, none⟩ = false := by simp [World.frozen?, h]
abbrev bad14 : Ending := .panicked [{ v := .iface 34 (.int .i64 11), recovered := false }]
theorem demand_ok (w : World) : Calls Tryz.prog 31 #[.bool true] w fun en w' => en = .returned (.tuple #[]) ∧ w' = w := by
 go_enter Tryz.func31, Tryz.ntmps31
 go_wp2_with fail
 go_end0
 exact ⟨rfl, rfl⟩
theorem demand_no (w : World) : Calls Tryz.prog 31 #[.bool false] w fun en w' => en = bad14 ∧ w' = w := by
 go_enter Tryz.func31, Tryz.ntmps31
 go_wp2_with fail
 exact ⟨rfl, rfl, rfl⟩
theorem own14_any (k : Int) (w : World) : Calls Tryz.prog 65 #[.int .i64 k] w fun en w' => en = .returned (.agg #[.int .i64 2, .bool (k != 7), .int .i64 k]) ∧ Below w.heap.size w w' := by
 have hb := Hd fun o : Obj => (Below.refl w.heap.size w).alloc (Nat.le_refl _) o
 go_enter Tryz.func65, Tryz.ntmps65
 go_wp2_with fail
 go_returns
 exact ⟨rfl, hb.out _⟩
theorem sign_any (k : Int) (hk : 0 ≤ k ∧ k ≤ 8) (w : World) : Calls Tryz.prog 60 #[.int .i64 k] w fun en w' => en = .returned (.string (strB (if k < 3 then [sgn k] else opn k))) ∧ w' = w := by
 have h : k = 0 ∨ k = 1 ∨ k = 2 ∨ k = 3 ∨ k = 4 ∨ k = 5 ∨ k = 6 ∨ k = 7 ∨ k = 8 := by omega
 rcases h with rfl | rfl | rfl | rfl | rfl | rfl | rfl | rfl | rfl
 all_goals
  go_enter Tryz.func60, Tryz.ntmps60
  go_wp2_with fail
  go_ret
  exact ⟨rfl, rfl⟩
theorem enter_ok (a : Addr) (d l : Int) (w : World) (hd : d ≤ 10) (hl : 0 < l) (hl2 : l ≤ 64) (hc : w.cell? a = some (.int .i64 l)) (hf : w.frozen? a = false) :
 Calls Tryz.prog 57 #[.pointer (some a), .int .i64 d] w fun en w' => en = .returned (.tuple #[]) ∧ w' = w.setCell a (.int .i64 (l - 1)) := by
 have k1 : decide (d ≤ 10) = true := decide_eq_true hd
 have k2 : decide (0 < l) = true := decide_eq_true hl
 have CD := Hd (demand_ok w)
 have HW := Hd (IntWalk.i64_in (l - 1) (by omega))
 go_enter Tryz.func57, Tryz.ntmps57
 go_wp2_with fail
 refine CD.out.mono ?_
 rintro _ w2 ⟨rfl, h2⟩
 subst w2
 dsimp only []
 go_wp2_with fail
 go_end0
 exact ⟨rfl, rfl⟩
theorem enter_no (a : Addr) (d l : Int) (w : World) (h : 10 < d ∨ l = 0) (hc : w.cell? a = some (.int .i64 l)) :
 Calls Tryz.prog 57 #[.pointer (some a), .int .i64 d] w fun en w' => en = bad14 ∧ w' = w := by
 have CD := Hd (demand_no w)
 by_cases hd : d ≤ 10
 · have hl := h.resolve_left (by omega)
   subst hl
   have k1 : decide (d ≤ 10) = true := decide_eq_true hd
   go_enter Tryz.func57, Tryz.ntmps57
   go_wp2_with fail
   refine CD.out.mono ?_
   rintro _ w2 ⟨rfl, h2⟩
   subst w2
   dsimp only []
   go_wp2_with fail
   exact ⟨rfl, rfl, rfl⟩
 · have k1 : decide (d ≤ 10) = false := decide_eq_false hd
   go_enter Tryz.func57, Tryz.ntmps57
   go_wp2_with fail
   refine CD.out.mono ?_
   rintro _ w2 ⟨rfl, h2⟩
   subst w2
   dsimp only []
   go_wp2_with fail
   exact ⟨rfl, rfl, rfl⟩
theorem part14_any (k : Int) (w : World) : Calls Tryz.prog 116 #[.int .i64 k] w fun en w' => en = .returned (.agg #[.int .i64 2, .bool false, .int .i64 k]) ∧ Below w.heap.size w w' := by
 have hb := Hd fun o : Obj => (Below.refl w.heap.size w).alloc (Nat.le_refl _) o
 go_enter Tryz.func116, Tryz.ntmps116
 go_wp2_with fail
 go_returns
 exact ⟨rfl, hb.out _⟩
theorem universal14_any (k : Int) (w : World) : Calls Tryz.prog 68 #[.int .i64 k] w fun en w' => en = .returned (.agg #[.int .i64 0, .bool (k == 16), .int .i64 k]) ∧ Below w.heap.size w w' := by
 have hb := Hd fun o : Obj => (Below.refl w.heap.size w).alloc (Nat.le_refl _) o
 go_enter Tryz.func68, Tryz.ntmps68
 go_wp2_with fail
 go_returns
 exact ⟨rfl, hb.out _⟩
end Go.Proofs.YtcbiedonmibfaaaGreatDoor
namespace Go.Proofs.YtcbiedonmibfaaaGreatDoor
open Go.RowKit
def ft7 (f : Ft) (Ak : Option Addr) (ck : Nat) (Ab : Option Addr) (cb : Nat) : List Value := [.int .i64 f.k, .slice Ak f.kids.length ck, .string (baO f.t), .string (baO f.v), .string (baO f.a), .string (baO f.z), .slice Ab f.b.length cb]
theorem ft7_one (f : Ft) (Ak : Option Addr) (ck : Nat) (Ab : Option Addr) (cb : Nat) : ∀ u ∈ ft7 f Ak ck Ab cb, u.oneCell' = true := by
 intro u hu
 simp only [ft7, List.mem_cons, List.not_mem_nil, or_false] at hu
 rcases hu with rfl | rfl | rfl | rfl | rfl | rfl | rfl <;> rfl
theorem info_ft : (Tryz.prog.info? 25).map (fun i => (i.zero, i.size, i.bytes)) = some (some (.agg #[.int .i64 0, .slice none 0 0, .string ⟨#[]⟩, .string ⟨#[]⟩, .string ⟨#[]⟩, .string ⟨#[]⟩, .slice none 0 0]), 7, 120) := by kernel_rfl
def RowF (T : TypeId) (w : World) (base : Nat) (v : Value) (l : List Ft) : Prop :=
 ∃ cs : List Value, w.ownsRow base T 7 v l.length cs ∧ ∀ (i : Nat) (hi : i < l.length), ∃ Ak ck Ab cb, (∀ j, j < 7 → cs[i * 7 + j]? = (ft7 l[i] Ak ck Ab cb)[j]?) ∧ FtIn w (RowC w base v) l[i] Ak ck Ab cb
theorem RowF.nil (T : TypeId) (w : World) (base : Nat) : RowF T w base (.slice none 0 0) [] :=
 ⟨[], World.ownsRow_nil _ _ _ _, fun i hi => absurd hi (by simp)⟩
theorem RowF.below {T : TypeId} {w w' : World} {base : Nat} {v : Value} {l : List Ft} (h : RowF T w base v l) (hb : Below w.heap.size w w') : RowF T w' base v l := by
 obtain ⟨cs, h1, h2⟩ := h
 refine ⟨cs, owns_below h1 hb, fun i hi => ?_⟩
 obtain ⟨Ak, ck, Ab, cb, h3, h4⟩ := h2 i hi
 exact ⟨Ak, ck, Ab, cb, h3, (h4.keep fun p hp => hb.cell hp.2.1.lt).more fun b hb2 => ⟨hb2.1, hb2.2.1.below hb hb2.2.1.lt, hb2.2.2⟩⟩
theorem RowF.sl {T : TypeId} {w : World} {base : Nat} {v : Value} {l : List Ft} (h : RowF T w base v l) : ∃ A c, v = .slice A l.length c ∧ SlG w (New base w) A c (Gl.of l) := by
 obtain ⟨cs, ⟨hl, h0 | ⟨g, cap, cur, hv, hbs, hg, hn, hm, hs, hx⟩⟩, h2⟩ := h
 · refine ⟨none, 0, by rw [h0.1, h0.2], ?_⟩
   have hl0 : l = [] := List.eq_nil_of_length_eq_zero h0.2
   subst hl0
   exact ⟨Nat.le_refl _, by omega, fun _ => rfl, fun _ e => by cases e⟩
 · have hgl : g < w.heap.size := (Array.getElem?_eq_some_iff.1 hg).1
   refine ⟨some ⟨g, 0, none⟩, cap, hv, ⟨by rw [Gl.list_of]; exact hn, by unfold maxLen at hm; exact hm, (by simp), fun ad e _ => ?_⟩⟩
   injection e with e
   subst e
   refine ⟨rfl, ⟨hbs, ⟨_, _, hg⟩⟩, glAt_ofR l g 0 fun i hi => ?_⟩
   obtain ⟨Ak, ck, Ab, cb, h3, h4⟩ := h2 i hi
   have cell : ∀ j, j < 7 → w.cell? ⟨g, 0 + i * 7 + j, none⟩ = (ft7 l[i] Ak ck Ab cb)[j]? := by
    intro j hj
    rw [cell_of_row w g (0 + i * 7 + j) cur _ _ hg, ← h3 j hj, ← hx, List.getElem?_take, if_pos (by omega)]
    simp
   refine ⟨Ak, ck, Ab, cb, ⟨cell 0 (by omega), cell 1 (by omega), cell 2 (by omega), cell 3 (by omega), cell 4 (by omega), cell 5 (by omega), cell 6 (by omega)⟩, h4.more fun b hb => ⟨hb.1, hb.2.1⟩⟩
theorem RowF.snoc {T : TypeId} {w w' : World} {base g cap : Nat} {v : Value} {l : List Ft} {e : Ft} {Ab : Option Addr} {cb : Nat} {Ak : Option Addr} {ck : Nat} {cs : List Value}
 (ho : w'.ownsRow base T 7 (.slice (some ⟨g, 0, none⟩) (l.length + 1) cap) (l.length + 1) (cs ++ ft7 e Ak ck Ab cb)) (hcs : cs.length = l.length * 7)
 (h2 : ∀ (i : Nat) (hi : i < l.length), ∃ Ak ck Ab cb, (∀ j, j < 7 → cs[i * 7 + j]? = (ft7 l[i] Ak ck Ab cb)[j]?) ∧ FtIn w (RowC w base v) l[i] Ak ck Ab cb)
 (he : FtIn w (RowC w base v) e Ak ck Ab cb) (hg : w.grownBy w' v.ownBlock) (hat : v.ownBlock = some g ∨ g = w.heap.size) :
 RowF T w' base (.slice (some ⟨g, 0, none⟩) (l.length + 1) cap) (l ++ [e]) := by
 have hI : ∀ b, RowC w base v b → RowC w' base (.slice (some ⟨g, 0, none⟩) (l.length + 1) cap) b := by
  intro b hb
  have hlt := hb.2.1.lt
  refine ⟨hb.1, hb.2.1.of (hg.block b hlt hb.2.2), ?_⟩
  intro e
  have e2 : b = g := by injection e
  rcases hat with hat | hat
  · exact hb.2.2 (by rw [hat, e2])
  · omega
 have hK : ∀ p : Addr, RowC w base v p.block → w'.cell? p = w.cell? p := by
  intro p hp
  exact hg.cell_far p hp.2.1.lt hp.2.2
 refine ⟨cs ++ ft7 e Ak ck Ab cb, by rw [List.length_append]; exact ho, fun i hi => ?_⟩
 by_cases hil : i < l.length
 · obtain ⟨Ak2, ck2, Ab2, cb2, h3, h4⟩ := h2 i hil
   refine ⟨Ak2, ck2, Ab2, cb2, fun j hj => ?_, ?_⟩
   · rw [List.getElem?_append_left (by rw [hcs]; omega), h3 j hj, List.getElem_append_left hil]
   · rw [List.getElem_append_left hil]
     exact (h4.keep hK).more hI
 · have hie : i = l.length := by simp at hi; omega
   subst hie
   refine ⟨Ak, ck, Ab, cb, fun j hj => ?_, ?_⟩
   · rw [List.getElem?_append_right (by rw [hcs]; omega), List.getElem_append_right (Nat.le_refl _)]
     simp only [Nat.sub_self, List.getElem_cons_zero]
     rw [hcs]
     congr 1
     omega
   · rw [List.getElem_append_right (Nat.le_refl _)]
     simp only [Nat.sub_self, List.getElem_cons_zero]
     exact (he.keep hK).more hI
theorem RowF.set {T : TypeId} {w : World} {base : Nat} {v : Value} {l : List Ft} (h : RowF T w base v l) (a : Addr) (u : Value) (h2 : a.block < base) : RowF T (w.setCell a u) base v l := by
 obtain ⟨cs, h3, h4⟩ := h
 have hne : v.ownBlock ≠ some a.block := by
  intro e
  obtain ⟨_, h0 | ⟨g, cap, cur, hv, hbs, _⟩⟩ := h3
  · rw [h0.1] at e
    cases e
  · rw [hv] at e
    injection e with e
    have e' : g = a.block := e
    omega
 refine ⟨cs, ownsRow_setCell_other h3 hne u, fun i hi => ?_⟩
 obtain ⟨Ak, ck, Ab, cb, h5, h6⟩ := h4 i hi
 refine ⟨Ak, ck, Ab, cb, h5, (h6.keep fun p hp => ?_).more fun b hb => ⟨hb.1, hb.2.1.setCell _ _, hb.2.2⟩⟩
 refine World.cell?_of_block (heap_setCell_other _ _ _ _ fun e => ?_)
 have := hp.1
 omega
theorem RowF.parts {T : TypeId} {w : World} {base : Nat} {v : Value} {l : List Ft} (h : RowF T w base v l) :
 ∃ cs : List Value, w.ownsRow base T 7 v l.length cs ∧ cs.length = l.length * 7 ∧ (∀ b, v.ownBlock = some b → base ≤ b ∧ b < w.heap.size) ∧
  ∀ (i : Nat) (hi : i < l.length), ∃ Ak ck Ab cb, (∀ j, j < 7 → cs[i * 7 + j]? = (ft7 l[i] Ak ck Ab cb)[j]?) ∧ FtIn w (RowC w base v) l[i] Ak ck Ab cb := by
 obtain ⟨cs, h1, h2⟩ := h
 refine ⟨cs, h1, h1.1, fun b hb => ?_, h2⟩
 obtain ⟨_, h0 | ⟨g, cap, cur, hv, hbs, hg, _⟩⟩ := h1
 · rw [h0.1] at hb
   cases hb
 · rw [hv] at hb
   injection hb with hb
   have hb' : g = b := hb
   subst hb'
   exact ⟨hbs, (Array.getElem?_eq_some_iff.1 hg).1⟩
theorem But.cl {p : Nat} {w w' : World} {b : Nat} (h : But p w w') (hc : Cl w b) (hp : b ≠ p) : Cl w' b := hc.of (h.block b hc.lt hp)
end Go.Proofs.YtcbiedonmibfaaaGreatDoor
namespace Go.Proofs.YtcbiedonmibfaaaGreatDoor
open Go.RowKit Go.Lib
theorem strB_baO (l : List Nat) : strB l = baO (l.map UInt8.ofNat) := eq_baO (strB_list l)
theorem baO_nb (l : List UInt8) : strB (nb l) = baO l := by
 rw [strB_baO]
 exact congrArg baO (ub_nb l)
theorem ofNat_inj {a b : Nat} (ha : a < 256) (hb : b < 256) (h : UInt8.ofNat a = UInt8.ofNat b) : a = b := by
 have := congrArg UInt8.toNat h
 rwa [UInt8.toNat_ofNat', UInt8.toNat_ofNat', Nat.mod_eq_of_lt ha, Nat.mod_eq_of_lt hb] at this
theorem ofNat_mem {l : List Nat} (hl : byE l) {c : Nat} (hc : c < 256) (h : c ∉ l) : UInt8.ofNat c ∉ l.map UInt8.ofNat := by
 intro hm
 obtain ⟨x, hx, he⟩ := List.mem_map.1 hm
 exact h (ofNat_inj (hl x hx) hc he ▸ hx)
theorem pre_hit (q l : List Nat) : Lib.hasPrefix ((q ++ l).map UInt8.ofNat) (q.map UInt8.ofNat) = true ∧ Lib.trimPrefix ((q ++ l).map UInt8.ofNat) (q.map UInt8.ofNat) = l.map UInt8.ofNat := by
 have h : Lib.hasPrefix ((q ++ l).map UInt8.ofNat) (q.map UInt8.ofNat) = true := by
  unfold Lib.hasPrefix
  rw [List.isPrefixOf_iff_prefix, List.map_append]
  exact List.prefix_append _ _
 refine ⟨h, ?_⟩
 unfold Lib.trimPrefix
 rw [if_pos h, List.map_append, List.drop_left]
theorem pre_miss (c : Nat) (l : List Nat) (hc : c < 256) (hb : byE l) (h : l.head? ≠ some c) : Lib.hasPrefix (l.map UInt8.ofNat) [UInt8.ofNat c] = false ∧ Lib.trimPrefix (l.map UInt8.ofNat) [UInt8.ofNat c] = l.map UInt8.ofNat := by
 have h : Lib.hasPrefix (l.map UInt8.ofNat) [UInt8.ofNat c] = false := by
  unfold Lib.hasPrefix
  cases l with
  | nil => rfl
  | cons x t =>
    have : c ≠ x := fun e => h (by rw [e]; rfl)
    simp only [List.map_cons, List.isPrefixOf, Bool.and_eq_false_iff]
    left
    rw [beq_eq_false_iff_ne]
    exact fun e => this (ofNat_inj hc (hb x List.mem_cons_self) e)
 refine ⟨h, ?_⟩
 unfold Lib.trimPrefix
 rw [if_neg (by rw [h]; decide)]
def PAt (w : World) (p : Nat) (l : List Nat) (n : Int) : Prop := w.heap[p]? = some (.cells #[.string (strB l), .int .i64 n] 78 (0, 0))
theorem PAt.lt {w : World} {p : Nat} {l : List Nat} {n : Int} (h : PAt w p l n) : p < w.heap.size := (Array.getElem?_eq_some_iff.1 h).1
theorem PAt.below {w w' : World} {p : Nat} {l : List Nat} {n : Int} (h : PAt w p l n) (hb : Below w.heap.size w w') : PAt w' p l n := (hb.block p h.lt).trans h
theorem PAt.al {w : World} {p : Nat} {l : List Nat} {n : Int} (h : PAt w p l n) (o : Obj) : PAt (w.alloc o) p l n := (Below.heap_alloc _ _ _ h.lt).trans h
set_option maxHeartbeats 400000 in
theorem took_hit (p : Nat) (q l : List Nat) (n : Int) (pb : ByteArray) (w : World) (h : PAt w p (q ++ l) n) (hp : pb = strB q) :
 Calls Tryz.prog 62 #[.pointer (some ⟨p, 0, none⟩), .string pb] w fun en w' => en = .returned (.bool true) ∧ PAt w' p l n ∧ But p w w' := by
 have C := Tryz.strings_CutPrefix (strB (q ++ l)) (strB q) w
 rw [strB_list, strB_list, (pre_hit q l).1, (pre_hit q l).2, ← hp, show (⟨(l.map UInt8.ofNat).toArray⟩ : ByteArray) = strB l from (strB_baO l).symm] at C
 obtain ⟨c0, c1, f0, f1⟩ := cells2 h
 have hw : PAt (w.setCell ⟨p, 0, none⟩ (.string (strB l))) p l n := set_two0 h
 have hB := But.set (p := p) (w := w) 0 (.string (strB l))
 replace C := Hd C
 replace h := Hd h
 clear hp
 obtain ⟨s1, hs1⟩ : ∃ s, s = strB (q ++ l) := ⟨_, rfl⟩
 obtain ⟨s2, hs2⟩ : ∃ s, s = strB l := ⟨_, rfl⟩
 rw [← hs1] at C c0
 rw [← hs2] at C hw hB
 replace hs1 := Hd hs1
 replace hs2 := Hd hs2
 replace hw := Hd hw
 replace hB := Hd hB
 go_enter Tryz.func62, Tryz.ntmps62
 go_wp2_with fail
 refine C.out.mono ?_
 rintro _ w2 ⟨rfl, h2⟩
 subst w2
 dsimp only []
 go_wp2_with fail
 go_ret
 exact ⟨rfl, hw.out, hB.out⟩
set_option maxHeartbeats 400000 in
theorem took_miss (p c : Nat) (l : List Nat) (n : Int) (pb : ByteArray) (w : World) (h : PAt w p l n) (hp : pb = strB [c]) (hc : c < 256) (hb : byE l) (hm : l.head? ≠ some c) :
 Calls Tryz.prog 62 #[.pointer (some ⟨p, 0, none⟩), .string pb] w fun en w' => en = .returned (.bool false) ∧ PAt w' p l n ∧ But p w w' := by
 have C := Tryz.strings_CutPrefix (strB l) (strB [c]) w
 rw [strB_list, strB_list, show [c].map UInt8.ofNat = [UInt8.ofNat c] from rfl, (pre_miss c l hc hb hm).1, (pre_miss c l hc hb hm).2, ← hp, show (⟨(l.map UInt8.ofNat).toArray⟩ : ByteArray) = strB l from (strB_baO l).symm] at C
 obtain ⟨c0, c1, f0, f1⟩ := cells2 h
 have hw : PAt (w.setCell ⟨p, 0, none⟩ (.string (strB l))) p l n := set_two0 h
 have hB := But.set (p := p) (w := w) 0 (.string (strB l))
 replace C := Hd C
 replace h := Hd h
 clear hp hb hm
 obtain ⟨s2, hs2⟩ : ∃ s, s = strB l := ⟨_, rfl⟩
 rw [← hs2] at C hw hB c0
 replace hs2 := Hd hs2
 replace hw := Hd hw
 replace hB := Hd hB
 go_enter Tryz.func62, Tryz.ntmps62
 go_wp2_with fail
 refine C.out.mono ?_
 rintro _ w2 ⟨rfl, h2⟩
 subst w2
 dsimp only []
 go_wp2_with fail
 go_ret
 exact ⟨rfl, hw.out, hB.out⟩
theorem cutB_hit (b : Nat) (p q : List Nat) (pb : ByteArray) (w : World) (hpb : pb = ⟨#[UInt8.ofNat b]⟩) (hb : b < 256) (hp : byE p) (h : b ∉ p) (hl : p.length + q.length ≤ 100000) :
 Calls Tryz.prog 112 #[.string (strB (p ++ b :: q)), .string pb] w fun e w' => e = .returned (.tuple #[.string (strB p), .string (strB q), .bool true]) ∧ Below w.heap.size w w' := by
 subst hpb
 have e : strB (p ++ b :: q) = baU (p.map UInt8.ofNat ++ UInt8.ofNat b :: q.map UInt8.ofNat) := by
  rw [baU_strB, List.map_append]
  rfl
 rw [e, baU_strB p, baU_strB q]
 exact cut_hit _ _ _ (ofNat_mem hp hb h) (by simp; omega) w
theorem wt_ge14 : ∀ O : List (List UInt8), O.length ≤ wt O
 | [] => Nat.zero_le _
 | x :: L => by
   have := wt_ge14 L
   rw [wt_cons, List.length_cons]
   omega
theorem normal_any (l : List UInt8) (w : World) (hs : l.length ≤ 9500) :
 Calls Tryz.prog 66 #[.string (baO l)] w fun en w' => (∀ t, dscU l = some t → en = .returned (.string (baO t))) ∧ (dscU l = none → en = bad14) ∧ Below w.heap.size w w' := by
 have CD := O7.describe_any (baO l) w (by rw [O7.baO_size]; exact hs)
 rw [baO_list] at CD
 cases hd : descO l with
 | none =>
   have hu : dscU l = none := by unfold dscU; rw [hd]; rfl
   have CN := Hd fun W => demand_no W
   replace CD := Hd CD
   go_enter Tryz.func66, Tryz.ntmps66
   go_wp2_with fail
   refine CD.out.mono ?_
   rintro _ w2 ⟨⟨A, c, rfl, hs2⟩, h2⟩
   rw [O7.deO_none hd]
   replace h2 := Hd h2
   replace hs2 := Hd hs2
   dsimp only []
   go_wp2_with fail
   refine (CN.out _).mono ?_
   rintro _ w3 ⟨rfl, h3⟩
   subst w3
   dsimp only []
   exact ⟨rfl, (fun t ht => by rw [hu] at ht; cases ht), (fun _ => rfl), h2.out⟩
 | some q =>
   have hu : dscU l = some (dtx q) := by unfold dscU; rw [hd]; rfl
   have hlen := dsc_len hu
   have CN := Hd fun W => demand_ok W
   replace CD := Hd CD
   have hq : (dtx q).length = q.1.length + wt q.2 := by
    unfold dtx jn wt
    rw [List.length_append]
   have CT := Hd fun A c W (hs : O7.SrcO W W.heap.size A c q.2) => O7.text_any (baO q.1) A c q.2.length q.2 W rfl (by have := wt_ge14 q.2; omega) (by rw [O7.baO_size]; omega) hs
   have hjn : baO ((baO q.1).data.toList ++ q.2.flatMap fun q => (59 : UInt8) :: q) = baO (dtx q) := rfl
   go_enter Tryz.func66, Tryz.ntmps66
   go_wp2_with fail
   refine CD.out.mono ?_
   rintro _ w2 ⟨⟨A, c, rfl, hs2⟩, h2⟩
   rw [O7.deO_some hd] at hs2 ⊢
   replace h2 := Hd h2
   replace hs2 := Hd hs2
   dsimp only []
   go_wp2_with fail
   refine (CN.out _).mono ?_
   rintro _ w3 ⟨rfl, h3⟩
   subst w3
   dsimp only []
   go_wp2_with fail
   refine (CT.out A c w2 hs2.out).mono ?_
   rintro _ w4 ⟨rfl, h4⟩
   rw [hjn]
   replace h4 := Hd (h2.out.trans (h4.mono h2.out.size))
   dsimp only []
   go_wp2_with fail
   go_ret
   exact ⟨(fun t ht => by rw [hu] at ht; injection ht with ht; subst ht; rfl), (fun hn => by rw [hu] at hn; cases hn), h4.out⟩
theorem unescaped_any (v : List UInt8) (w : World) (hs : (esc v).length ≤ 9500) :
 Calls Tryz.prog 162 #[.string (strB (esc v))] w fun en w' => en = .returned (.string (baO v)) ∧ Below w.heap.size w w' := by
 have hby : byE (esc v) := fun c hc => (esc_plain v c hc).2
 have CU := punfilter_any (strB (esc v)) w (by rw [strB_sizeE]; exact hs)
 have hu : unfE (bs (strB (esc v))) = some (nb v) := by
  rw [bs_strB _ hby]
  exact unf_back _ _ (nb_byte v)
 rw [hu] at CU
 have hv : unV (some (nb v)) = .tuple #[.string (baO v), .bool true] := by
  show Value.tuple #[.string (strB (nb v)), .bool true] = _
  rw [baO_nb]
 rw [hv] at CU
 replace CU := Hd CU
 have CN := Hd fun W => demand_ok W
 replace hv := Hd hv
 replace hu := Hd hu
 go_enter Tryz.func162, Tryz.ntmps162
 go_wp2_with fail
 refine CU.out.mono ?_
 rintro _ w2 ⟨rfl, h2⟩
 replace h2 := Hd h2
 dsimp only []
 go_wp2_with fail
 refine (CN.out _).mono ?_
 rintro _ w3 ⟨rfl, h3⟩
 subst w3
 dsimp only []
 go_wp2_with fail
 go_ret
 exact ⟨rfl, h2.out⟩
end Go.Proofs.YtcbiedonmibfaaaGreatDoor
namespace Go.Proofs.YtcbiedonmibfaaaGreatDoor
open Go.RowKit Go.Lib
def star (a : List Nat) (r : List (List Nat)) : List Nat := a ++ r.flatMap fun x => 42 :: x
theorem star_app (x : List Nat) : ∀ (b : List (List Nat)) (z : List Nat), x ++ 42 :: (b.flatMap (fun y => y ++ [42]) ++ z) = star x (b ++ [z])
 | [], z => by simp [star]
 | y :: b, z => by
   have := star_app y b z
   unfold star at this ⊢
   simp only [List.flatMap_cons, List.cons_append, List.append_assoc, List.nil_append] at this ⊢
   rw [this]
theorem rest_star {f : Ft} (h : f.k = 4) : f.rest = star (esc f.a) (f.b.map esc ++ [esc f.z]) := by
 rw [rest4 h, ← star_app, List.flatMap_map]
theorem star_count (a : List Nat) (r : List (List Nat)) (ha : byE a ∧ 42 ∉ a) (hr : ∀ x ∈ r, byE x ∧ 42 ∉ x) : Lib.countB (strB (star a r)) ⟨#[42]⟩ = r.length := by
 show Lib.count (strB (star a r)).data.toList [42] = r.length
 rw [count_one, strB_list]
 have none : ∀ x : List Nat, byE x ∧ 42 ∉ x → (x.map UInt8.ofNat).count 42 = 0 := fun x hx => List.count_eq_zero.2 (ofNat_mem (c := 42) hx.1 (by decide) hx.2)
 unfold star
 rw [List.map_append, List.count_append, none a ha, Nat.zero_add]
 induction r with
 | nil => rfl
 | cons x r ih =>
   rw [List.flatMap_cons, List.map_append, List.count_append, ih (fun y hy => hr y (List.mem_cons_of_mem _ hy)), List.map_cons, List.count_cons, none x (hr x List.mem_cons_self), List.length_cons]
   simp
   omega
theorem star_ix (a t : List Nat) (ha : byE a ∧ 42 ∉ a) : Lib.indexB (strB (a ++ 42 :: t)) ⟨#[42]⟩ = (a.length : Int) := by
 show Lib.index (strB (a ++ 42 :: t)).data.toList [42] = _
 rw [index_one, strB_list, List.map_append]
 have := ix_hit (b := (42 : UInt8)) (p := a.map UInt8.ofNat) (r := t.map UInt8.ofNat) (ofNat_mem (c := 42) ha.1 (by decide) ha.2)
 rw [List.length_map] at this
 exact this
theorem star_split : ∀ (r : List (List Nat)) (a : List Nat), byE a ∧ 42 ∉ a → (∀ x ∈ r, byE x ∧ 42 ∉ x) → Lib.splitB ⟨#[42]⟩ 0 r.length (strB (star a r)) = (a :: r).map strB
 | [], a, _, _ => by simp [star, splitB_zero]
 | x :: r, a, ha, hr => by
   have e : star a (x :: r) = a ++ 42 :: star x r := by
    unfold star
    rw [List.flatMap_cons]
    rfl
   have hi := star_ix a (star x r) ha
   rw [← e] at hi
   rw [List.length_cons, splitB_hit _ _ _ _ a.length hi, e]
   have e1 : (strB (a ++ 42 :: star x r)).extract 0 (a.length + 0) = strB a := by
    have := baU_hit1 (a.map UInt8.ofNat) ((star x r).map UInt8.ofNat) 42
    rw [List.length_map] at this
    rw [baU_strB, baU_strB a, List.map_append, Nat.add_zero]
    exact this
   have e2 : (strB (a ++ 42 :: star x r)).extract (a.length + (⟨#[42]⟩ : ByteArray).size) (strB (a ++ 42 :: star x r)).size = strB (star x r) := by
    have := baU_hit2 (a.map UInt8.ofNat) ((star x r).map UInt8.ofNat) 42 _ rfl
    rw [List.length_map] at this
    rw [baU_strB, baU_strB (star x r), List.map_append]
    rw [baU_size]
    exact this
   rw [e1, e2, star_split r x (hr x List.mem_cons_self) (fun y hy => hr y (List.mem_cons_of_mem _ hy))]
   rfl
set_option maxHeartbeats 800000 in
theorem split_star (a : List Nat) (r : List (List Nat)) (pb : ByteArray) (w : World) (hpb : pb = ⟨#[42]⟩) (ha : byE a ∧ 42 ∉ a) (hr : ∀ x ∈ r, byE x ∧ 42 ∉ x) (hl : (star a r).length ≤ 100000) :
 Calls Tryz.prog 165 #[.string (strB (star a r)), .string pb] w fun e w' => e = .returned (.slice (some ⟨w.heap.size, 0, none⟩) (r.length + 1) (r.length + 1)) ∧ w' = w.alloc (.cells (((a :: r).map fun x => Value.string (strB x)).toArray) 9) := by
 subst hpb
 have hsz : (strB (star a r)).size = (star a r).length := strB_sizeE _
 have hC := Tryz.strings_Count_one (strB (star a r)) 42 w
 have hN := star_count a r ha hr
 have hcb : (Lib.countByte (strB (star a r)).data.toList 42 : Int) = (Lib.countB (strB (star a r)) ⟨#[42]⟩ : Int) := by
  show ((List.count 42 (strB (star a r)).data.toList : Nat) : Int) = ((Lib.count (strB (star a r)).data.toList [42] : Nat) : Int)
  rw [count_one]
 rw [hcb] at hC
 have c : Calls Tryz.prog 196 #[.string (strB (star a r)), .string ⟨#[42]⟩, .int .i64 0, .int .i64 (-1)] w fun e w' =>
  e = .returned (.slice (some ⟨w.heap.size, 0, none⟩) (Lib.splitB ⟨#[42]⟩ 0 (r.length + 1 - 1) (strB (star a r))).length (r.length + 1)) ∧ w' = w.alloc (.cells (Lib.cellsOf (Lib.splitB ⟨#[42]⟩ 0 (r.length + 1 - 1) (strB (star a r))) (r.length + 1)) 9) := Any.strings_genSplit_core Tryz.lays221 (by kernel_rfl) (strB (star a r)) ⟨#[42]⟩ 0 (-1) (r.length + 1) w (by omega) (by decide) (Nat.zero_le _)
  (fun x cs _ => by
    have := Tryz.strings_Index_one x 42 (w.alloc (.cells cs 9))
    have e : Lib.indexB x ⟨#[42]⟩ = Lib.indexByte x.data.toList 42 := index_one _ _
    rw [e]
    exact this)
  hC (by decide) (by decide) (by rw [if_pos (by decide), hN]; have hle := countB_le ⟨#[42]⟩ (by decide) _ (strB (star a r)) (Nat.le_refl _); omega)
 rw [Nat.add_sub_cancel, star_split r a ha hr] at c
 have e2 : Lib.cellsOf ((a :: r).map strB) (r.length + 1) = (((a :: r).map fun x => Value.string (strB x)).toArray) := by
  have := cellsOf_full ((a :: r).map strB)
  rw [List.length_map, List.length_cons, List.map_map] at this
  exact this
 rw [e2, List.length_map, List.length_cons] at c
 replace c := Hd c
 clear hC hcb hN hsz e2
 obtain ⟨s, hs⟩ : ∃ s, s = strB (star a r) := ⟨_, rfl⟩
 rw [← hs] at c ⊢
 replace hs := Hd hs
 go_enter Tryz.func165, Tryz.ntmps165
 go_wp2_with fail
 refine c.out.mono ?_
 rintro _ w2 ⟨rfl, h2⟩
 replace h2 := Hd h2
 dsimp only []
 go_wp2_with fail
 go_ret
 exact ⟨rfl, h2.out⟩
end Go.Proofs.YtcbiedonmibfaaaGreatDoor
namespace Go.Proofs.YtcbiedonmibfaaaGreatDoor
open Go.RowKit Go.Lib
theorem wp_viaQ {P : Program} {c : Code} {Q' Q : Exit → Act → World → Prop} {a : Act} {w : World} (h : Code.wp P c Q' a w) (hq : ∀ e a w, Q' e a w → Q e a w) : Code.wp P c Q a w := by
 intro b k cs
 obtain ⟨e, a', w', q, r⟩ := h b k cs
 exact ⟨e, a', w', hq _ _ _ q, r⟩
theorem set7_other {w : World} {b k : Nat} (u0 u1 u2 u3 u4 u5 u6 : Value) (h : k ≠ b) : (set7 w b u0 u1 u2 u3 u4 u5 u6).heap[k]? = w.heap[k]? := by
 unfold set7
 rw [Below.heap_setCell _ _ _ _ h, Below.heap_setCell _ _ _ _ h, Below.heap_setCell _ _ _ _ h, Below.heap_setCell _ _ _ _ h, Below.heap_setCell _ _ _ _ h, Below.heap_setCell _ _ _ _ h, Below.heap_setCell _ _ _ _ h]
structure SoI (t a z : List UInt8) (b : List (List UInt8)) (F : Nat) (w wr : World) (k : Nat) (A : Option Addr) (c : Nat) : Prop where
 below : Below w.heap.size w wr
 lt : w.heap.size < F
 res : wr.heap[w.heap.size]? = some (.cells #[.int .i64 0, .slice none 0 0, .string ⟨#[]⟩, .string ⟨#[]⟩, .string ⟨#[]⟩, .string ⟨#[]⟩, .slice none 0 0] 25 (0, 0))
 out : wr.heap[F]? = some (.cells #[.int .i64 4, .slice none 0 0, .string (baO t), .string ⟨#[]⟩, .string (baO a), .string (baO z), .slice A k c] 25 (0, 0))
 row : OwnO wr (F + 1) (.slice A k c) (b.take k)
theorem so_start (t a z : List UInt8) (b : List (List UInt8)) {w W0 W : World} {F : Nat} (h0 : Below w.heap.size w W0) (hR : W0.heap[w.heap.size]? = some (.cells #[.int .i64 0, .slice none 0 0, .string ⟨#[]⟩, .string ⟨#[]⟩, .string ⟨#[]⟩, .string ⟨#[]⟩, .slice none 0 0] 25 (0, 0)))
 (hb : Below W0.heap.size W0 W) (hl : w.heap.size < F) (hF : W.heap[F]? = some (.cells #[.int .i64 0, .slice none 0 0, .string ⟨#[]⟩, .string ⟨#[]⟩, .string ⟨#[]⟩, .string ⟨#[]⟩, .slice none 0 0] 25 (0, 0))) :
 SoI t a z b F w (set7 W F (.int .i64 4) (.slice none 0 0) (.string (baO t)) (.string ⟨#[]⟩) (.string (baO a)) (.string (baO z)) (.slice none 0 0)) 0 none 0 := by
 have hR1 := (Array.getElem?_eq_some_iff.1 hR).1
 exact ⟨set7_below (h0.trans (hb.mono (by omega))) (by omega) _ _ _ _ _ _ _, hl, (set7_other _ _ _ _ _ _ _ (by omega)).trans ((hb.block _ hR1).trans hR), set7_same hF _ _ _ _ _ _ _, OwnO.nil _ _⟩
theorem add_plain14 (b o j : Nat) : (⟨b, o, none⟩ : Addr).add j = ⟨b, o + j, none⟩ := by unfold Addr.add; split <;> simp_all
theorem sl14 (B n : Nat) (W : World) : (Instr.sliceAt 23 (.slice (some ⟨B, 0, none⟩) (n + 1 + 1) (n + 1 + 1)) (some (.int .i64 1)) (some (.int .i64 ((n + 1 : Nat) : Int))) none).run Tryz.prog W = .ok (.slice (some ⟨B, 1, none⟩) n (n + 1)) W := by
 go_simp
 rw [if_pos ⟨by omega, by omega⟩, if_pos (by omega)]
theorem so_step {t a z x : List UInt8} {b : List (List UInt8)} {F : Nat} {w wr w3 w6 : World} {k : Nat} {A : Option Addr} {c g cap : Nat} {o : Obj} (h : SoI t a z b F w wr k A c) (hk : b[k]? = some x)
 (hb : Below wr.heap.size wr w3) (hown : w6.ownsRow (F + 1) 9 1 (.slice (some ⟨g, 0, none⟩) (k + 1) cap) (k + 1) (cellsO (b.take k) ++ [.string (baO x)])) (hg : (w3.alloc o).grownBy w6 (Value.slice A k c).ownBlock) :
 SoI t a z b F w (w6.setCell ⟨F, 6, none⟩ (.slice (some ⟨g, 0, none⟩) (k + 1) cap)) (k + 1) (some ⟨g, 0, none⟩) cap ∧ w6.cell? ⟨F, 6, none⟩ = some (.slice A k c) ∧ w6.frozen? ⟨F, 6, none⟩ = false := by
 have hF := (Array.getElem?_eq_some_iff.1 h.out).1
 have hlt := h.lt
 have hs3 := hb.size
 have hgs := hg.size
 have hsa : (w3.alloc o).heap.size = w3.heap.size + 1 := by simp
 have hr : ∀ j, (Value.slice A k c).ownBlock = some j → F + 1 ≤ j := fun j hj => (World.ownsRow.lt h.row j hj).1
 have keep : ∀ j, j < F + 1 → w6.heap[j]? = wr.heap[j]? := fun j hj => by
  rw [hg.block j (by omega) (fun e => by have := hr j e.symm; omega), Below.heap_alloc _ _ _ (by omega), hb.block j (by omega)]
 have ho : w6.heap[F]? = _ := (keep F (by omega)).trans h.out
 have htk : b.take (k + 1) = b.take k ++ [x] := by
  obtain ⟨hkl, hx⟩ := List.getElem?_eq_some_iff.1 hk
  rw [List.take_succ_eq_append_getElem hkl, hx]
 refine ⟨⟨?_, hlt, ?_, ?_, ?_⟩, cell_of_row _ _ _ _ _ _ ho, free7 ho 6⟩
 · refine Below.setCell ?_ (by show w.heap.size ≤ F; omega) _
   exact ((h.below.trans (hb.mono (by have := h.below.size; omega))).alloc (by have := h.below.size; omega) _).grown hg (by have := h.below.size; omega) (fun j hj => by have := hr j hj; omega)
 · rw [_root_.Go.heap_setCell_other _ _ _ _ (by show w.heap.size ≠ F; omega), keep _ (by omega)]
   exact h.res
 · rw [_root_.Go.heap_setCell_same _ _ _ _ _ _ ho]
   rfl
 · have hO : OwnO w6 (F + 1) (.slice (some ⟨g, 0, none⟩) (k + 1) cap) (b.take (k + 1)) := by
    unfold OwnO
    rw [htk, cellsO_app]
    have hl : (b.take k ++ [x]).length = k + 1 := by
     have := (List.getElem?_eq_some_iff.1 hk).1
     rw [List.length_append, List.length_take]
     simp
     omega
    rw [hl]
    exact hown
   exact ownsRow_setCell_below hO (by show F < F + 1; omega) _
theorem so_end {t a z : List UInt8} {b : List (List UInt8)} {F : Nat} {w wr : World} {k : Nat} {A : Option Addr} {c : Nat} (h : SoI t a z b F w wr k A c) (hk : k = b.length) (u0 u1 u2 u3 u4 u5 u6 : Value) :
 SrcS (set7 wr w.heap.size u0 u1 u2 u3 u4 u5 u6) (New w.heap.size (set7 wr w.heap.size u0 u1 u2 u3 u4 u5 u6)) A c b := by
 subst hk
 have hrow := h.row
 rw [List.take_length] at hrow
 have hlt := h.lt
 have hcl : ∀ j, F + 1 ≤ j → Cl wr j → Cl (set7 wr w.heap.size u0 u1 u2 u3 u4 u5 u6) j := fun j hj hc => hc.of (set7_other _ _ _ _ _ _ _ (by omega))
 obtain ⟨_, h0 | ⟨g, cap, cur, hv, hbs, hg, hn, hm, hs, hx⟩⟩ := hrow
 · injection h0.1 with e1 e2 e3
   subst e1 e3
   have : b = [] := List.eq_nil_of_length_eq_zero h0.2
   subst this
   exact SrcS.none_ _ _
 · injection hv with e1 e2 e3
   subst e1 e3
   refine ⟨hn, by unfold maxLen at hm; exact hm, (by simp), fun ad e => ?_⟩
   injection e with e
   subst e
   refine ⟨fun _ => ⟨by show w.heap.size ≤ g; omega, hcl g hbs ⟨_, _, hg⟩⟩, fun j l hj => ?_⟩
   have hjl : j < b.length := (List.getElem?_eq_some_iff.1 hj).1
   rw [add_plain14, World.cell?_of_block (set7_other _ _ _ _ _ _ _ (by show g ≠ w.heap.size; omega)), cell_of_row wr g _ cur _ _ hg]
   have h2 : (cellsO b)[j]? = some (Value.string (baO l)) := by simp [cellsO, hj]
   rw [← hx, List.getElem?_take, if_pos (by omega)] at h2
   simpa using h2
set_option maxRecDepth 8000 in
set_option maxHeartbeats 1600000 in
theorem sought_any (t a z : List UInt8) (b : List (List UInt8)) (B M : Nat) (w : World) (hM : M = b.length + 1) (hB : B < w.heap.size)
 (h0 : w.cell? ⟨B, 0, none⟩ = some (.string (strB (esc a)))) (h1 : w.cell? ⟨B, M, none⟩ = some (.string (strB (esc z)))) (hb : ∀ j (h : j < b.length), w.cell? ⟨B, 1 + j, none⟩ = some (.string (strB (esc b[j]))))
 (ha : (esc a).length ≤ 9500) (hz : (esc z).length ≤ 9500) (hbl : ∀ x ∈ b, (esc x).length ≤ 9500) (hbn : b.length ≤ 9500) :
 Calls Tryz.prog 164 #[.string (baO t), .slice (some ⟨B, 0, none⟩) (M + 1) (M + 1)] w fun en w' => ∃ A c, en = .returned (ftV ⟨4, .nil, t, [], a, z, b⟩ none 0 A c) ∧ SrcS w' (New w.heap.size w') A c b ∧ Below w.heap.size w w' := by
 have CA := Hd fun W => unescaped_any a W ha
 have CZ := Hd fun W => unescaped_any z W hz
 have CB := Hd fun j (h : j < b.length) W => unescaped_any b[j] W (hbl _ (List.getElem_mem h))
 obtain ⟨W0, hW0⟩ : ∃ W0, W0 = w.alloc (.cells #[.int .i64 0, .slice none 0 0, .string ⟨#[]⟩, .string ⟨#[]⟩, .string ⟨#[]⟩, .string ⟨#[]⟩, .slice none 0 0] 25) := ⟨_, rfl⟩
 have hB0 : Below w.heap.size w W0 := by rw [hW0]; exact (Below.refl _ _).alloc (Nat.le_refl _) _
 have hR0 : W0.heap[w.heap.size]? = some (.cells #[.int .i64 0, .slice none 0 0, .string ⟨#[]⟩, .string ⟨#[]⟩, .string ⟨#[]⟩, .string ⟨#[]⟩, .slice none 0 0] 25 (0, 0)) := by rw [hW0]; exact heap_alloc_new w _
 have hz0 : W0.heap.size = w.heap.size + 1 := by rw [hW0]; simp
 have hs0 : w.heap.size < W0.heap.size := by omega
 have KC : Hid (∀ W, Below W0.heap.size W0 W → W.cell? ⟨B, 0, none⟩ = some (.string (strB (esc a))) ∧ W.cell? ⟨B, M, none⟩ = some (.string (strB (esc z)))) := Hd fun W hW => ⟨(hW.cell (by show B < _; omega)).trans ((hB0.cell hB).trans h0), (hW.cell (by show B < _; omega)).trans ((hB0.cell hB).trans h1)⟩
 have KB : Hid (∀ W, Below w.heap.size w W → ∀ j (h : j < b.length), W.cell? ⟨B, 1 + j, none⟩ = some (.string (strB (esc b[j])))) := Hd fun W hW j h => (hW.cell hB).trans (hb j h)
 obtain ⟨c0, c1⟩ := KC.out W0 (Below.refl _ _)
 clear h0 h1 hb hbl
 have i0 : M ≤ 9900 := by omega
 have i1 : (M : Int) < (M : Int) + 1 := by omega
 have i2 : (0 : Int) ≤ (M : Int) := by omega
 replace hM := Hd hM
 replace hB0 := Hd hB0
 replace hR0 := Hd hR0
 replace hz0 := Hd hz0
 go_enter Tryz.func164, Tryz.ntmps164
 go_wp2_with fail
 rw [← hW0]
 replace hW0 := Hd hW0
 go_wp2_with fail
 refine wp_viaQ (Q' := fun e A W => match e with | .normal => ∃ F, A = { tmps := (.string (baO t) :: .slice (some ⟨B, 0, none⟩) (M + 1) (M + 1) :: undef :: undef :: .pointer (some ⟨w.heap.size, 0, none⟩) :: .int .i64 (M : Int) :: .pointer (some ⟨F, 0, none⟩) :: undef :: undef :: .slice (some ⟨B, 0, none⟩) (M + 1) (M + 1) :: .int .i64 ((M : Int) + 1) :: .int .i64 (M : Int) :: .string (baO t) :: .slice (some ⟨B, 0, none⟩) (M + 1) (M + 1) :: .pointer (some ⟨B, 0, none⟩) :: .string (strB (esc a)) :: .string (baO a) :: .slice (some ⟨B, 0, none⟩) (M + 1) (M + 1) :: .int .i64 (M : Int) :: .pointer (some ⟨B, M, none⟩) :: .string (strB (esc z)) :: .string (baO z) :: .agg #[.int .i64 4, .slice none 0 0, .string (baO t), .string ⟨#[]⟩, .string (baO a), .string (baO z), .slice none 0 0] :: undef :: undef :: undef :: undef :: undef :: undef :: undef :: undef :: undef :: undef :: undef :: undef :: undef :: undef :: undef :: undef :: undef :: []).toArray, defers := [] } ∧ Hid (SoI t a z b F w W 0 none 0) | _ => False) ?_ ?_
 refine wp_region_held_drew (S := (fun W => W.cell? ⟨B, 0, none⟩ = some (.string (strB (esc a))) ∧ W.cell? ⟨B, M, none⟩ = some (.string (strB (esc z))))) (by kernel_rfl) (KC.out _ (Below.refl _ W0).drew) ?_
 intro hHeld
 refine tk 0 12 hHeld ?_
 refine tk 1 13 hHeld ?_
 refine tk 2 14 hHeld ?_
 refine tk 3 15 hHeld ?_
 refine tk 5 17 hHeld ?_
 refine tk 6 18 hHeld ?_
 refine tk 7 19 hHeld ?_
 refine tk 8 20 hHeld ?_
 refine rdy [4, 11] ?_
 refine .cons rfl (fun K hK => ?_) (.cons rfl (fun K hK => ?_) .nil)
 · go_simp
   go_at_call 162
   refine (CA.out _).mono ?_
   rintro _ u1 ⟨rfl, hu1⟩
   have HB1 := Hd (((Below.refl W0.heap.size W0).drew).trans (hu1.mono ((Below.refl W0.heap.size W0).drew).size))
   clear hu1
   dsimp only []
   refine hK.out _ _ (KC.out _ (HB1.out)) ?_
   clear hK K hHeld
   intro hHeld
   refine rdy [9, 11] ?_
   refine .cons rfl (fun K hK => ?_) (.cons rfl (fun K hK => ?_) .nil)
   · go_simp
     go_at_call 162
     refine (CZ.out _).mono ?_
     rintro _ u2 ⟨rfl, hu2⟩
     have HB2 := Hd ((HB1.out).trans (hu2.mono (HB1.out).size))
     clear hu2
     dsimp only []
     refine hK.out _ _ (KC.out _ (HB2.out)) ?_
     clear hK K hHeld
     intro hHeld
     refine tk 10 22 hHeld ?_
     refine rdy [11] ?_
     refine .cons rfl (fun K hK => ?_) .nil
     go_simp
     have HB3 := (HB2.out).alloc (HB2.out).size (.cells #[.int .i64 0, .slice none 0 0, .string ⟨#[]⟩, .string ⟨#[]⟩, .string ⟨#[]⟩, .string ⟨#[]⟩, .slice none 0 0] 25)
     have HF3 := heap_alloc_new (u2) (.cells #[.int .i64 0, .slice none 0 0, .string ⟨#[]⟩, .string ⟨#[]⟩, .string ⟨#[]⟩, .string ⟨#[]⟩, .slice none 0 0] 25)
     have HL3 := Hd (show w.heap.size < (u2).heap.size from Nat.lt_of_lt_of_le hs0 (HB2.out).size)
     generalize hq3 : (u2).alloc (.cells #[.int .i64 0, .slice none 0 0, .string ⟨#[]⟩, .string ⟨#[]⟩, .string ⟨#[]⟩, .string ⟨#[]⟩, .slice none 0 0] 25) = u3 at HB3 HF3 ⊢
     replace hq3 := Hd hq3
     replace HB3 := Hd HB3
     replace HF3 := Hd HF3
     refine hK.out _ _ (KC.out _ (HB3.out)) ?_
     clear hK K hHeld
     intro hHeld
     refine rdy [12] ?_
     refine .cons rfl (fun K hK => ?_) .nil
     have hle4 : W0.heap.size ≤ (u2).heap.size := by have := hz0.out; have := HL3.out; omega
     obtain ⟨r0, r1, r2, r3, r4, r5, r6⟩ := cells7 (HF3.out)
     have f0 := free7 (HF3.out) 0
     have f1 := free7 (HF3.out) 1
     have f2 := free7 (HF3.out) 2
     have f3 := free7 (HF3.out) 3
     have f4 := free7 (HF3.out) 4
     have f5 := free7 (HF3.out) 5
     have f6 := free7 (HF3.out) 6
     have HS4 := Hd (so_start t a z b hB0.out hR0.out (HB3.out) (HL3.out) (HF3.out))
     go_simp
     refine hK.out _ _ (KC.out _ (((((((HB3.out.setCell hle4 _).setCell hle4 _).setCell hle4 _).setCell hle4 _).setCell hle4 _).setCell hle4 _).setCell hle4 _)) ?_
     clear hK K hHeld
     intro hHeld
     refine wpAnyH_done (by kernel_rfl) ?_ _
     exact ⟨_, rfl, HS4⟩
   · go_simp
     have HB5 := (HB1.out).alloc (HB1.out).size (.cells #[.int .i64 0, .slice none 0 0, .string ⟨#[]⟩, .string ⟨#[]⟩, .string ⟨#[]⟩, .string ⟨#[]⟩, .slice none 0 0] 25)
     have HF5 := heap_alloc_new (u1) (.cells #[.int .i64 0, .slice none 0 0, .string ⟨#[]⟩, .string ⟨#[]⟩, .string ⟨#[]⟩, .string ⟨#[]⟩, .slice none 0 0] 25)
     have HL5 := Hd (show w.heap.size < (u1).heap.size from Nat.lt_of_lt_of_le hs0 (HB1.out).size)
     generalize hq5 : (u1).alloc (.cells #[.int .i64 0, .slice none 0 0, .string ⟨#[]⟩, .string ⟨#[]⟩, .string ⟨#[]⟩, .string ⟨#[]⟩, .slice none 0 0] 25) = u5 at HB5 HF5 ⊢
     replace hq5 := Hd hq5
     replace HB5 := Hd HB5
     replace HF5 := Hd HF5
     refine hK.out _ _ (KC.out _ (HB5.out)) ?_
     clear hK K hHeld
     intro hHeld
     refine rdy [9] ?_
     refine .cons rfl (fun K hK => ?_) .nil
     go_simp
     go_at_call 162
     refine (CZ.out _).mono ?_
     rintro _ u6 ⟨rfl, hu6⟩
     have HB6 := Hd ((HB5.out).trans (hu6.mono (HB5.out).size))
     have HF6 := Hd ((hu6.block _ (Array.getElem?_eq_some_iff.1 (HF5.out)).1).trans (HF5.out))
     clear hu6
     dsimp only []
     refine hK.out _ _ (KC.out _ (HB6.out)) ?_
     clear hK K hHeld
     intro hHeld
     refine tk 10 22 hHeld ?_
     refine rdy [12] ?_
     refine .cons rfl (fun K hK => ?_) .nil
     have hle7 : W0.heap.size ≤ (u1).heap.size := by have := hz0.out; have := HL5.out; omega
     obtain ⟨r0, r1, r2, r3, r4, r5, r6⟩ := cells7 (HF6.out)
     have f0 := free7 (HF6.out) 0
     have f1 := free7 (HF6.out) 1
     have f2 := free7 (HF6.out) 2
     have f3 := free7 (HF6.out) 3
     have f4 := free7 (HF6.out) 4
     have f5 := free7 (HF6.out) 5
     have f6 := free7 (HF6.out) 6
     have HS7 := Hd (so_start t a z b hB0.out hR0.out (HB6.out) (HL5.out) (HF6.out))
     go_simp
     refine hK.out _ _ (KC.out _ (((((((HB6.out.setCell hle7 _).setCell hle7 _).setCell hle7 _).setCell hle7 _).setCell hle7 _).setCell hle7 _).setCell hle7 _)) ?_
     clear hK K hHeld
     intro hHeld
     refine wpAnyH_done (by kernel_rfl) ?_ _
     exact ⟨_, rfl, HS7⟩
 · go_simp
   have HB8 := ((Below.refl W0.heap.size W0).alloc (Nat.le_refl _) (.cells #[.int .i64 0, .slice none 0 0, .string ⟨#[]⟩, .string ⟨#[]⟩, .string ⟨#[]⟩, .string ⟨#[]⟩, .slice none 0 0] 25)).drew
   have HF8 : (W0.alloc (.cells #[.int .i64 0, .slice none 0 0, .string ⟨#[]⟩, .string ⟨#[]⟩, .string ⟨#[]⟩, .string ⟨#[]⟩, .slice none 0 0] 25)).drew.heap[W0.heap.size]? = _ := heap_alloc_new W0 (.cells #[.int .i64 0, .slice none 0 0, .string ⟨#[]⟩, .string ⟨#[]⟩, .string ⟨#[]⟩, .string ⟨#[]⟩, .slice none 0 0] 25)
   have HL8 := Hd hs0
   generalize hq8 : (W0.alloc (.cells #[.int .i64 0, .slice none 0 0, .string ⟨#[]⟩, .string ⟨#[]⟩, .string ⟨#[]⟩, .string ⟨#[]⟩, .slice none 0 0] 25)).drew = u8 at HB8 HF8 ⊢
   replace hq8 := Hd hq8
   replace HB8 := Hd HB8
   replace HF8 := Hd HF8
   refine hK.out _ _ (KC.out _ (HB8.out)) ?_
   clear hK K hHeld
   intro hHeld
   refine rdy [4] ?_
   refine .cons rfl (fun K hK => ?_) .nil
   go_simp
   go_at_call 162
   refine (CA.out _).mono ?_
   rintro _ u9 ⟨rfl, hu9⟩
   have HB9 := Hd ((HB8.out).trans (hu9.mono (HB8.out).size))
   have HF9 := Hd ((hu9.block _ (Array.getElem?_eq_some_iff.1 (HF8.out)).1).trans (HF8.out))
   clear hu9
   dsimp only []
   refine hK.out _ _ (KC.out _ (HB9.out)) ?_
   clear hK K hHeld
   intro hHeld
   refine rdy [9] ?_
   refine .cons rfl (fun K hK => ?_) .nil
   go_simp
   go_at_call 162
   refine (CZ.out _).mono ?_
   rintro _ u10 ⟨rfl, hu10⟩
   have HB10 := Hd ((HB9.out).trans (hu10.mono (HB9.out).size))
   have HF10 := Hd ((hu10.block _ (Array.getElem?_eq_some_iff.1 (HF9.out)).1).trans (HF9.out))
   clear hu10
   dsimp only []
   refine hK.out _ _ (KC.out _ (HB10.out)) ?_
   clear hK K hHeld
   intro hHeld
   refine tk 10 22 hHeld ?_
   refine rdy [12] ?_
   refine .cons rfl (fun K hK => ?_) .nil
   have hle11 : W0.heap.size ≤ W0.heap.size := by have := hz0.out; have := HL8.out; omega
   obtain ⟨r0, r1, r2, r3, r4, r5, r6⟩ := cells7 (HF10.out)
   have f0 := free7 (HF10.out) 0
   have f1 := free7 (HF10.out) 1
   have f2 := free7 (HF10.out) 2
   have f3 := free7 (HF10.out) 3
   have f4 := free7 (HF10.out) 4
   have f5 := free7 (HF10.out) 5
   have f6 := free7 (HF10.out) 6
   have HS11 := Hd (so_start t a z b hB0.out hR0.out (HB10.out) (HL8.out) (HF10.out))
   go_simp
   refine hK.out _ _ (KC.out _ (((((((HB10.out.setCell hle11 _).setCell hle11 _).setCell hle11 _).setCell hle11 _).setCell hle11 _).setCell hle11 _).setCell hle11 _)) ?_
   clear hK K hHeld
   intro hHeld
   refine wpAnyH_done (by kernel_rfl) ?_ _
   exact ⟨_, rfl, HS11⟩
 rintro e A' W' hq
 cases e
 all_goals first | exact hq.elim | skip
 obtain ⟨F, rfl, HS⟩ := hq
 obtain ⟨n, hn⟩ : ∃ n, n = b.length := ⟨_, rfl⟩
 have hMn : M = n + 1 := by rw [hn]; exact hM.out
 have hsl := fun W => sl14 B n W
 rw [← hMn] at hsl
 replace hMn := Hd hMn
 replace hn := Hd hn
 clear c0 c1
 go_wp2_with fail
 obtain ⟨i1s, hi, q1, q2, q3⟩ := info_parts info_str
 go_loopw [27] (fun iv wr => ∃ (k : Nat) (A : Option Addr) (c : Nat), k ≤ n ∧ iv = .int .i64 (k : Int) ∧ Hid (SoI t a z b F w wr k A c)) (fun i _ => n - (RowKit.intOf i).toNat)
 case atStart => exact ⟨0, none, 0, Nat.zero_le _, rfl, HS⟩
 case round =>
  obtain ⟨k, A, c, hk, rfl, HI⟩ := hrel
  have hO := HI.out.out
  have hFl := (Array.getElem?_eq_some_iff.1 hO).1
  have hwF := HI.out.lt
  by_cases hlt : k < n
  · have hkb : k < b.length := by have := hn.out; omega
    have hx : b[k]? = some b[k] := List.getElem?_eq_getElem hkb
    have hcw := KB.out wr HI.out.below k hkb
    have CU := Hd (CB.out k hkb)
    obtain ⟨x, hxx⟩ : ∃ x, b[k] = x := ⟨_, rfl⟩
    rw [hxx] at hx hcw CU
    have j1 : (k : Int) < (n : Int) := by omega
    have j0 : (0 : Int) ≤ (k : Int) := by omega
    have o6 : wr.cell? ⟨F, 6, none⟩ = some (.slice A k c) := cell_of_row _ _ _ _ _ _ hO
    have hrow := HI.out.row
    have hcl : (cellsO (b.take k)).length = k := by rw [cellsO_len, List.length_take]; omega
    replace hO := Hd hO
    replace hrow := Hd hrow
    replace hcl := Hd hcl
    replace hx := Hd hx
    replace hxx := Hd hxx
    go_wp2_with fail
    go_region_law
     (first
       | (go_simp; go_at_call 162; (with_reducible refine (CU.out _).mono ?_); rintro _ w3 ⟨rfl, hb3⟩; have HB3 := Hd (show Below wr.heap.size wr w3 by first | exact (Below.refl wr.heap.size wr).trans ⟨hb3.os, hb3.tape, hb3.output, hb3.size, hb3.block⟩); have hz3 := HB3.out.size; have t0 : w3.cell? ⟨F, 6, none⟩ = some (.slice A k c) := (HB3.out.cell (p := ⟨F, 6, none⟩) (by show F < _; omega)).trans o6; have tA : ∀ ob : Obj, (w3.alloc ob).cell? ⟨F, 6, none⟩ = some (.slice A k c) := fun ob => (World.cell?_alloc_lt _ _ _ (by show F < _; omega)).trans t0; clear hb3)
       | (refine step_append_lies _ rfl (.tmp 32) (.tmp 35) 23 rfl (F + 1) 9 i1s _ 1 16 Tryz.underlying23 hi q1 q2 q3 rfl (by decide) (.slice A k c) k (cellsO (b.take k)) rfl (World.ownsRow.alloc (by have := hrow.out; unfold OwnO at this; rw [List.length_take, Nat.min_eq_left (by omega)] at this; exact owns_below this HB3.out) _) ⟨w3.heap.size, 0, none⟩ 1 1 [.string (baO x)] rfl rfl (World.news_of_block (cs := #[.string (baO x)]) (fr := (0, 0)) (heap_alloc_new w3 _)) (by intro u hu; rw [List.mem_singleton.1 hu]; rfl) (by decide) (by simp only [maxLen]; omega) (by omega) (by simp; omega) _ rfl ?_; intro g cap w6 hown hg hat hgl; obtain ⟨HS6, c6, f6⟩ := so_step HI.out hx.out HB3.out hown hg; replace HS6 := Hd HS6; replace hown := Hd hown; replace hg := Hd hg; replace hat := Hd hat))
    all_goals
     go_wp2_with fail
     go_roundw
     case rel => exact ⟨k + 1, some ⟨g, 0, none⟩, cap, by omega, by go_num, HS6⟩
     case measure => simp [RowKit.intOf]; omega
  · have hkn : k = n := by omega
    subst hkn
    have j1 : ¬ ((k : Int) < (k : Int)) := by omega
    have HE := Hd (so_end HI.out hn.out (.int .i64 4) (.slice none 0 0) (.string (baO t)) (.string ⟨#[]⟩) (.string (baO a)) (.string (baO z)) (.slice A k c))
    have HC := Hd (set7_same HI.out.res (.int .i64 4) (.slice none 0 0) (.string (baO t)) (.string ⟨#[]⟩) (.string (baO a)) (.string (baO z)) (.slice A k c))
    have HL := Hd (set7_below HI.out.below (Nat.le_refl _) (.int .i64 4) (.slice none 0 0) (.string (baO t)) (.string ⟨#[]⟩) (.string (baO a)) (.string (baO z)) (.slice A k c))
    obtain ⟨o0, o1, o2, o3, o4, o5, o6⟩ := cells7 hO
    have hR := HI.out.res
    obtain ⟨r0, r1, r2, r3, r4, r5, r6⟩ := cells7 hR
    have f0 := free7 hR 0
    have f1 := free7 hR 1
    have f2 := free7 hR 2
    have f3 := free7 hR 3
    have f4 := free7 hR 4
    have f5 := free7 hR 5
    have f6 := free7 hR 6
    replace hR := Hd hR
    replace hO := Hd hO
    go_wp2_with fail
    have HX : set7 wr w.heap.size (.int .i64 4) (.slice none 0 0) (.string (baO t)) (.string ⟨#[]⟩) (.string (baO a)) (.string (baO z)) (.slice A k c) = ((((((wr.setCell ⟨w.heap.size, 0, none⟩ (.int .i64 4)).setCell ⟨w.heap.size, 1, none⟩ (.slice none 0 0)).setCell ⟨w.heap.size, 2, none⟩ (.string (baO t))).setCell ⟨w.heap.size, 3, none⟩ (.string ⟨#[]⟩)).setCell ⟨w.heap.size, 4, none⟩ (.string (baO a))).setCell ⟨w.heap.size, 5, none⟩ (.string (baO z))).setCell ⟨w.heap.size, 6, none⟩ (.slice A k c) := rfl
    rw [← HX]
    obtain ⟨W5, hW5⟩ : ∃ W5, W5 = set7 wr w.heap.size (.int .i64 4) (.slice none 0 0) (.string (baO t)) (.string ⟨#[]⟩) (.string (baO a)) (.string (baO z)) (.slice A k c) := ⟨_, rfl⟩
    rw [← hW5] at HE HC HL ⊢
    clear HX hW5 o0 o1 o2 o3 o4 o5 o6 r0 r1 r2 r3 r4 r5 r6 f0 f1 f2 f3 f4 f5 f6
    obtain ⟨v0, v1, v2, v3, v4, v5, v6⟩ := cells7 HC.out
    exact bodyPost_ret (v := .agg #[.int .i64 4, .slice none 0 0, .string (baO t), .string ⟨#[]⟩, .string (baO a), .string (baO z), .slice A k c]) (by simp [results, Tryz.results164, go_sem, v0, v1, v2, v3, v4, v5, v6]) rfl ⟨A, c, by rw [hn.out]; rfl, HE.out, HL.out⟩
end Go.Proofs.YtcbiedonmibfaaaGreatDoor
namespace Go.Proofs.YtcbiedonmibfaaaGreatDoor
open Go.RowKit Go.Lib
def kk14 (i : Nat) : Int := if i = 0 then 5 else if i = 1 then 6 else 8
def dd14 (i : Nat) : Nat := if i = 0 then 62 else if i = 1 then 60 else 126
theorem kk_opn (i : Nat) : opn (kk14 i) = [dd14 i, 61] := by
 unfold kk14 dd14
 split
 · rfl
 · split <;> rfl
theorem kk_range (i : Nat) : 0 ≤ kk14 i ∧ kk14 i ≤ 8 ∧ ¬ kk14 i < 3 := by
 unfold kk14
 split
 · omega
 · split <;> omega
theorem dd_lt (i : Nat) : dd14 i < 256 := by
 unfold dd14
 split
 · omega
 · split <;> omega
theorem leaf_parts {f : Ft} (hf : LeafOk f) : ∃ x d, (x ++ [d]) ++ 61 :: f.rest = f.leaf ∧ byE (x ++ [d]) ∧ 61 ∉ x ++ [d] ∧ (∀ i < 3, d = dd14 i → f.k = kk14 i ∧ x = nb f.t) ∧
 ((∀ i < 3, d ≠ dd14 i) → f.k ≠ 5 ∧ f.k ≠ 6 ∧ f.k ≠ 8 ∧ x ++ [d] = nb f.t) := by
 have hd := nb_dch (dsc_ch hf.t)
 have hne : nb f.t ≠ [] := fun e => dsc_ne hf.t (nb_nil e)
 have key : ∀ e, e = 62 ∨ e = 60 ∨ e = 126 → byE (nb f.t ++ [e]) ∧ 61 ∉ nb f.t ++ [e] := by
  intro e he
  refine ⟨fun c hc => ?_, fun hc => ?_⟩
  · rcases List.mem_append.1 hc with hc | hc
    · have := hd c hc; omega
    · have := List.mem_singleton.1 hc; omega
  · rcases List.mem_append.1 hc with hc | hc
    · have := hd 61 hc; omega
    · have := List.mem_singleton.1 hc; omega
 have other : ∀ j, j < 3 → f.k = kk14 j → opn f.k = [dd14 j, 61] → (∃ x d, (x ++ [d]) ++ 61 :: f.rest = f.leaf ∧ byE (x ++ [d]) ∧ 61 ∉ x ++ [d] ∧ (∀ i < 3, d = dd14 i → f.k = kk14 i ∧ x = nb f.t) ∧
  ((∀ i < 3, d ≠ dd14 i) → f.k ≠ 5 ∧ f.k ≠ 6 ∧ f.k ≠ 8 ∧ x ++ [d] = nb f.t)) := by
  intro j hj hk ho
  refine ⟨nb f.t, dd14 j, ?_, (key _ ?_).1, (key _ ?_).2, fun i hi he => ⟨?_, rfl⟩, fun h => absurd rfl (h j hj)⟩
  · unfold Ft.leaf
    rw [ho]
    simp
  · have : j = 0 ∨ j = 1 ∨ j = 2 := by omega
    rcases this with rfl | rfl | rfl <;> decide
  · have : j = 0 ∨ j = 1 ∨ j = 2 := by omega
    rcases this with rfl | rfl | rfl <;> decide
  · have : i = j := by
     have h1 : j = 0 ∨ j = 1 ∨ j = 2 := by omega
     have h2 : i = 0 ∨ i = 1 ∨ i = 2 := by omega
     rcases h1 with rfl | rfl | rfl <;> rcases h2 with rfl | rfl | rfl <;> first | rfl | (exfalso; revert he; decide)
    rw [this]
    exact hk
 by_cases h5 : f.k = 5
 · exact other 0 (by omega) h5 (by rw [h5]; rfl)
 by_cases h6 : f.k = 6
 · exact other 1 (by omega) h6 (by rw [h6]; rfl)
 by_cases h8 : f.k = 8
 · exact other 2 (by omega) h8 (by rw [h8]; rfl)
 have hsp : nb f.t = (nb f.t).dropLast ++ [(nb f.t).getLast hne] := (List.dropLast_concat_getLast hne).symm
 have ho : opn f.k = [61] := by unfold opn; rw [if_neg h5, if_neg h6, if_neg h8]
 have hl := hd _ (List.getLast_mem hne)
 obtain ⟨d, hdd⟩ : ∃ d, (nb f.t).getLast hne = d := ⟨_, rfl⟩
 rw [hdd] at hsp hl
 refine ⟨(nb f.t).dropLast, d, ?_, ?_, ?_, fun i hi he => ?_, fun _ => ⟨h5, h6, h8, hsp.symm⟩⟩
 · rw [← hsp]
   unfold Ft.leaf
   rw [ho]
   rfl
 · rw [← hsp]
   intro c hc
   have := hd c hc
   omega
 · rw [← hsp]
   intro hc
   have := hd 61 hc
   omega
 · exfalso
   have h2 : i = 0 ∨ i = 1 ∨ i = 2 := by omega
   unfold dd14 at he
   rcases h2 with rfl | rfl | rfl <;> simp at he <;> omega
theorem cutsuf (x : List Nat) (d e : Nat) (pb : ByteArray) (hpb : pb = strB [e, 61]) (hd : d < 256) (he : e < 256) (hl : x.length ≤ 100000) (w : World) :
 Calls Tryz.prog 161 #[.string (strB ((x ++ [d]) ++ [61])), .string pb] w fun en w' => en = .returned (.tuple #[.string (strB (if d = e then x else (x ++ [d]) ++ [61])), .bool (decide (d = e))]) ∧ w' = w := by
 subst hpb
 have C := Tryz.strings_CutSuffix (strB ((x ++ [d]) ++ [61])) (strB [e, 61]) w (by rw [strB_sizeE]; simp; omega)
 rw [strB_list, strB_list] at C
 have h : Lib.hasSuffix (((x ++ [d]) ++ [61]).map UInt8.ofNat) ([e, 61].map UInt8.ofNat) = decide (d = e) := by
  unfold Lib.hasSuffix
  rw [Bool.eq_iff_iff, List.isSuffixOf_iff_suffix, decide_eq_true_iff]
  constructor
  · rintro ⟨p, hp⟩
    simp only [List.map_append, List.map_cons, List.map_nil] at hp
    have h1 := congrArg (fun l => (l.reverse)[1]?) hp
    simp at h1
    exact ofNat_inj hd he h1.symm
  · rintro rfl
    exact ⟨x.map UInt8.ofNat, by simp⟩
 rw [h] at C
 by_cases hde : d = e
 · have ht : Lib.trimSuffix (((x ++ [d]) ++ [61]).map UInt8.ofNat) ([e, 61].map UInt8.ofNat) = x.map UInt8.ofNat := by
    unfold Lib.trimSuffix
    rw [h, if_pos (decide_eq_true hde)]
    simp
   have e1 : ByteArray.mk (x.map UInt8.ofNat).toArray = strB x := (strB_baO x).symm
   rw [ht, e1] at C
   rw [if_pos hde]
   exact C
 · have ht : Lib.trimSuffix (((x ++ [d]) ++ [61]).map UInt8.ofNat) ([e, 61].map UInt8.ofNat) = ((x ++ [d]) ++ [61]).map UInt8.ofNat := by
    unfold Lib.trimSuffix
    rw [h, if_neg (by simpa using hde)]
   have e1 : ByteArray.mk (((x ++ [d]) ++ [61]).map UInt8.ofNat).toArray = strB ((x ++ [d]) ++ [61]) := (strB_baO _).symm
   rw [ht, e1] at C
   rw [if_neg hde]
   exact C
theorem cells3i {w : World} {b : Nat} {v0 v1 v2 : Value} {T : TypeId} (h : w.heap[b]? = some (.cells #[v0, v1, v2] T (0, 0))) : w.cell? ⟨b, 0, none⟩ = some v0 ∧ w.cell? ⟨b, 1, none⟩ = some v1 ∧ w.cell? ⟨b, 2, none⟩ = some v2 :=
 ⟨cell_of_row _ _ _ _ _ _ h, cell_of_row _ _ _ _ _ _ h, cell_of_row _ _ _ _ _ _ h⟩
theorem kk_cell {w : World} {b : Nat} (h : w.heap[b]? = some (.cells #[.int .i64 5, .int .i64 6, .int .i64 8] 3 (0, 0))) (i : Nat) (hi : i < 3) : w.cell? ⟨b, i, none⟩ = some (.int .i64 (kk14 i)) := by
 obtain ⟨h0, h1, h2⟩ := cells3i h
 have : i = 0 ∨ i = 1 ∨ i = 2 := by omega
 rcases this with rfl | rfl | rfl
 · simpa [kk14] using h0
 · simpa [kk14] using h1
 · simpa [kk14] using h2
end Go.Proofs.YtcbiedonmibfaaaGreatDoor
