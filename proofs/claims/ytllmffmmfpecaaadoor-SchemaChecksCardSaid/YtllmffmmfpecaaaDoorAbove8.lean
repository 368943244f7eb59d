/-
  The document's Above.
-/
import Derived.Test.YtllmffmmfpecaaaDoorPut8
namespace Go.Proofs.YtllmffmmfpecaaaDoor
open Go.RowKit

theorem above_step (n : Nat) (a b : List UInt8) : aboveN (n + 1) a b = if a = b then true else match findC b with
    | none => false
    | some c => if c.super = [] then false else aboveN n a c.super := rfl
theorem findC_len {s : List UInt8} {c : Cl} (h : findC s = some c) : c.name.length ≤ 60 ∧ c.oid.length ≤ 60 ∧ c.super.length ≤ 60 := cls_len c (List.mem_of_find?_eq_some h)
set_option maxRecDepth 8000 in
set_option maxHeartbeats 4000000 in
theorem refAbove_any (a b : List UInt8) (w : World) (hb : b.length ≤ 600) :
    Calls Tryd.prog 35 #[.string (baO a), .string (baO b)] w fun e w' => e = .returned (.bool (above a b)) ∧ Below w.heap.size w w' := by
  have hz : Hid ((baO a).size = a.length) := Lib.hid (baO_size a)
  go_enter Tryd.func35, Tryd.ntmps35
  go_wp2_with fail
  go_loopw [1, 5] (fun bv iv wr => ∃ (k : Nat) (y : List UInt8), k ≤ 10 ∧ bv = .string (baO y) ∧ iv = .int .i64 (k : Int) ∧ y.length ≤ 600 ∧ Hid (above a b = aboveN (10 - k) a y) ∧ Hid (Below w.heap.size w wr)) (fun _ iv _ => 10 - (intOf iv).toNat)
  case atStart => exact ⟨0, b, Nat.zero_le _, rfl, rfl, hb, Lib.hid rfl, Lib.hid (Below.refl _ _)⟩
  case round =>
    obtain ⟨k, y, hk, rfl, rfl, hy, HA, HB⟩ := hrel
    have hsr := HB.out.size
    by_cases hlt : k < 10
    · have i0 : (0 : Int) ≤ (k : Int) := by omega
      have i1 : (k : Int) < 10 := by omega
      have hst := above_step (9 - k) a y
      rw [show 9 - k + 1 = 10 - k by omega, ← HA.out] at hst
      by_cases e : a = y
      · have e' : ((baO a).toList == (baO y).toList) = true := beq_iff_eq.2 (by rw [e])
        rw [if_pos e] at hst
        replace hst := Lib.hid hst
        replace e := Lib.hid e
        go_wp2_with fail
        go_ret
        exact ⟨by rw [hst.out]; rfl, HB.out⟩
      · have e' := baO_ne e
        have eb : ((baO a).toList == (baO y).toList) = false := beq_eq_false_iff_ne.2 e'
        rw [if_neg e] at hst
        replace hst := Lib.hid hst
        replace e := Lib.hid e
        have CF := Lib.hid (refFindClass_any (baO y) wr (by rw [baO_size]; exact hy))
        rw [baO_list] at CF
        obtain ⟨o, ho⟩ : ∃ o, findC y = o := ⟨_, rfl⟩
        rw [ho] at CF
        replace ho := Lib.hid ho
        go_wp2_with fail
        refine CF.out.mono ?_
        rintro e2 w2 ⟨hF, hb2⟩
        clear CF
        rcases o with _ | c
        · obtain rfl : e2 = _ := hF
          rw [ho.out] at hst
          have hst' : above a b = false := hst.out
          replace hst := Lib.hid hst'
          clear hst'
          have HB2 := Lib.hid (HB.out.trans (hb2.mono hsr))
          have hs2 := hb2.size
          clear hb2
          dsimp only []
          go_wp2_with fail
          go_ret
          exact ⟨by rw [hst.out]; rfl, by first | exact HB2.out.alloc (by omega) _ | exact (HB2.out.alloc (by omega) _).drew⟩
        · obtain ⟨A1, c1, A2, c2, rfl, _, _⟩ := hF
          rw [ho.out] at hst
          have hst' : above a b = if c.super = [] then false else aboveN (9 - k) a c.super := hst.out
          have hcl := findC_len ho.out
          have HB2 := Lib.hid (HB.out.trans (hb2.mono hsr))
          have hs2 := hb2.size
          clear hb2 hst
          by_cases e0 : c.super = []
          · rw [if_pos e0] at hst'
            have f1 : (baO c.super).toList = [] := by rw [baO_toList, e0]
            have f2 : (baO c.super).toList.isEmpty = true := by rw [f1]; rfl
            replace hst' := Lib.hid hst'
            clear e0
            dsimp only []
            go_wp2_with fail
            go_ret
            exact ⟨by rw [hst'.out]; rfl, by first | exact HB2.out.alloc (by omega) _ | exact (HB2.out.alloc (by omega) _).drew⟩
          · rw [if_neg e0] at hst'
            have f1 : ¬ (baO c.super).toList = [] := by rw [baO_toList]; exact e0
            have f2 : (baO c.super).toList.isEmpty = false := by simpa using f1
            replace hst' := Lib.hid hst'
            clear e0
            dsimp only []
            go_wp2_with fail
            go_round
            case rel => exact ⟨k + 1, c.super, by omega, rfl, by go_num, by omega, Lib.hid (by rw [hst'.out, show 10 - (k + 1) = 9 - k by omega]), Lib.hid (by first | exact HB2.out.alloc (by omega) _ | exact (HB2.out.alloc (by omega) _).drew)⟩
            case measure => simp [intOf]; omega
    · obtain rfl : k = 10 := by omega
      have i1 : ¬ ((10 : Nat) : Int) < 10 := by omega
      have hst : above a b = false := HA.out
      replace hst := Lib.hid hst
      go_wp2_with fail
      go_ret
      exact ⟨by rw [hst.out]; rfl, HB.out⟩
end Go.Proofs.YtllmffmmfpecaaaDoor
