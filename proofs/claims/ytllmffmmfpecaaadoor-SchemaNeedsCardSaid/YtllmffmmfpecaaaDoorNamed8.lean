/-
  The program's test whether a name is a text, without regard to capital letters.
-/
import Derived.Test.YtllmffmmfpecaaaDoorPLow8
import Derived.Test.YtllmffmmfpecaaaDoorMB8
import Derived.Deep.RegionHeldLaw
import Derived.Deep.QuietTactic
import Derived.BigQuiet
namespace Go.Proofs.YtllmffmmfpecaaaDoor
open Go.RowKit

/-- What named answers: the closure, whose box at b holds the small letters. -/
def NamedS (s : List UInt8) (e : Ending) (w w' : World) : Prop := ∃ b : Nat, e = .returned (.func (.func 42) #[] #[.pointer (some ⟨b, 0, none⟩)]) ∧ w.heap.size ≤ b ∧ b < w'.heap.size ∧ w'.heap[b]? = some (.cells #[.string (baO (lowL s))] 9) ∧ Below w.heap.size w w'
set_option maxRecDepth 4000 in
set_option maxHeartbeats 800000 in
theorem named_any (s : ByteArray) (w : World) (hs : s.size ≤ 1000000) : Calls Tryd.prog 24 #[.string s] w fun e w' => NamedS s.data.toList e w w' := by
  have CL := Lib.hid (lower_any s w hs)
  go_enter Tryd.func24, Tryd.ntmps24
  go_wp2_with fail
  refine CL.out.mono ?_
  rintro _ w1 ⟨rfl, hb⟩
  replace hb := Lib.hid hb
  have hz := hb.out.size
  dsimp only []
  go_wp2_with fail
  go_ret
  exact ⟨w1.heap.size, rfl, hz, by simp, heap_alloc_new w1 _, hb.out.trans ((Below.refl _ _).alloc hz _)⟩
set_option maxRecDepth 4000 in
set_option maxHeartbeats 1600000 in
theorem named1_any (x l : List UInt8) (b : Nat) (w : World) (hx : x.length ≤ 1000000) (hb : b < w.heap.size) (hc : w.cell? ⟨b, 0, none⟩ = some (.string (baO l))) :
    Calls Tryd.prog 42 #[.string (baO x), .pointer (some ⟨b, 0, none⟩)] w fun e w' => e = .returned (.bool (decide (lowL x = l))) ∧ Below w.heap.size w w' := by
  have zx : (baO x).size = x.length := baO_size x
  have zl : (baO l).size = l.length := baO_size l
  have hlow : (lowL x).length = x.length := by rw [lowL, List.length_map]
  by_cases hlen : x.length = l.length
  · have CL := Lib.hid fun W => lower_any (baO x) W (by omega)
    rw [baO_list] at CL
    have g1 : ((x.length : Int) == (l.length : Int)) = true := by rw [hlen]; simp
    obtain ⟨y, hy⟩ : ∃ y, lowL x = y := ⟨_, rfl⟩
    rw [hy] at CL
    obtain ⟨q, hq⟩ : ∃ q, decide (y = l) = q := ⟨_, rfl⟩
    rw [hy, hq]
    have e1 : ((baO y).toList == (baO l).toList) = q := by
      rw [baO_toList, baO_toList, ← hq, Bool.eq_iff_iff, beq_iff_eq, decide_eq_true_eq]
    have KEEP : Hid (∀ W, Below w.heap.size w W → W.cell? ⟨b, 0, none⟩ = some (.string (baO l)) ∧ b < W.heap.size) := Lib.hid fun W h => ⟨(h.cell (p := ⟨b, 0, none⟩) hb).trans hc, Nat.lt_of_lt_of_le hb h.size⟩
    replace hy := Lib.hid hy
    replace hq := Lib.hid hq
    clear hlow hlen
    go_enter Tryd.func42, Tryd.ntmps42
    go_wp2_with fail
    go_region_held_law (fun W => W.cell? ⟨b, 0, none⟩ = some (.string (baO l)) ∧ b < W.heap.size) (first | go_keep | exact KEEP.out _ HB3.out)
      (first | (go_at_call 41; (with_reducible refine (CL.out _).mono ?_); rintro _ w3 ⟨rfl, hb3⟩; have HB3 := Lib.hid (show Below w.heap.size w w3 from (Below.refl w.heap.size w).trans ⟨hb3.os, hb3.tape, hb3.output, hb3.size, hb3.block⟩); clear hb3))
    all_goals
      go_wp2_with fail
      go_ret
      exact ⟨rfl, HB3.out⟩
  · have hne : decide (lowL x = l) = false := decide_eq_false fun h => hlen (by rw [← h, hlow])
    have g1 : ((x.length : Int) == (l.length : Int)) = false := beq_eq_false_iff_ne.2 (by omega)
    have g2 : ¬ (x.length : Int) = (l.length : Int) := by omega
    replace hne := Lib.hid hne
    go_enter Tryd.func42, Tryd.ntmps42
    go_wp2_with fail
    go_quiet (fail)
    go_wp2_with fail
    go_ret
    exact ⟨by rw [hne.out]; rfl, below_drewN8 (Below.refl _ _) _⟩
end Go.Proofs.YtllmffmmfpecaaaDoor
