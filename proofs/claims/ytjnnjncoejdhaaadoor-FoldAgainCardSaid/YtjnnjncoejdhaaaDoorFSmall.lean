/-
  The program's ignored, small and squeeze.
-/
import Derived.Test.YtjnnjncoejdhaaaDoorFNext
import Derived.Lib.OthersKept
import Derived.Shelf.Strings.BuilderRune
import Derived.Shelf.Strings.MapGrows
namespace Go.Proofs.YtjnnjncoejdhaaaDoor
open Go.RowKit

set_option maxRecDepth 8000 in
set_option maxHeartbeats 800000 in
theorem ignored_any (c : Nat) (w : World) (hc : c ≤ 1114111) (hb : uBlank c = false) :
    Calls Tryd.prog 35 #[.int .i32 (c : Int)] w fun e w' => e = .returned (.bool (uNone c)) ∧ w' = w := by
  have hb' : ¬ (9 ≤ c ∧ c ≤ 13 ∨ c = 32 ∨ c = 133 ∨ c = 160) := by
    unfold uBlank at hb
    exact of_decide_eq_false hb
  have hN : ∀ b, (c < 32 ∧ ¬ (9 ≤ c ∧ c ≤ 13) ∨ c = 127 ∨ c = 173 ∨ c = 8203 ↔ b = true) → uNone c = b := fun b h => by
    unfold uNone
    rw [Bool.eq_iff_iff, decide_eq_true_iff]
    exact h
  by_cases h1 : c < 32
  · have e1 := hN true ⟨fun _ => rfl, fun _ => .inl ⟨h1, by omega⟩⟩
    rw [e1]
    have k1 : (c : Int) < 32 := by omega
    have k2 : decide ((c : Int) < 32) = true := decide_eq_true k1
    replace e1 := Lib.hid e1
    replace hN := Lib.hid hN
    replace hb' := Lib.hid hb'
    replace hb := Lib.hid hb
    go_enter Tryd.func35, Tryd.ntmps35
    go_wp2_with fail
    go_ret
    exact ⟨rfl, rfl⟩
  · have k1 : ¬ ((c : Int) < 32) := by omega
    have k2 : decide ((c : Int) < 32) = false := decide_eq_false k1
    by_cases h2 : c = 127
    · subst h2
      replace hN := Lib.hid hN
      replace hb' := Lib.hid hb'
      replace hb := Lib.hid hb
      go_enter Tryd.func35, Tryd.ntmps35
      go_wp2_with fail
      go_ret
      exact ⟨rfl, rfl⟩
    · have t127 : ((c : Int) == 127) = false := beq_eq_false_iff_ne.2 (by omega)
      by_cases h3 : c = 173
      · subst h3
        replace hN := Lib.hid hN
        replace hb' := Lib.hid hb'
        replace hb := Lib.hid hb
        go_enter Tryd.func35, Tryd.ntmps35
        go_wp2_with fail
        go_ret
        exact ⟨rfl, rfl⟩
      · have t173 : ((c : Int) == 173) = false := beq_eq_false_iff_ne.2 (by omega)
        by_cases h4 : c = 8203
        · subst h4
          replace hN := Lib.hid hN
          replace hb' := Lib.hid hb'
          replace hb := Lib.hid hb
          go_enter Tryd.func35, Tryd.ntmps35
          go_wp2_with fail
          go_ret
          exact ⟨rfl, rfl⟩
        · have t8203 : ((c : Int) == 8203) = false := beq_eq_false_iff_ne.2 (by omega)
          have e1 := hN false ⟨fun h => by omega, fun h => by cases h⟩
          rw [e1]
          replace e1 := Lib.hid e1
          replace hN := Lib.hid hN
          replace hb' := Lib.hid hb'
          replace hb := Lib.hid hb
          go_enter Tryd.func35, Tryd.ntmps35
          go_wp2_with fail
          go_ret
          exact ⟨rfl, rfl⟩
theorem ret_i {k : IntKind} {a b : Int} (h : a = b) : Ending.returned (.int k a) = .returned (.int k b) := by rw [h]
set_option maxRecDepth 8000 in
set_option maxHeartbeats 800000 in
theorem small_any (c : Nat) (w : World) (hc : c ≤ 1114111) :
    Calls Tryd.prog 32 #[.int .i32 (c : Int)] w fun e w' => e = .returned (.int .i32 (uSmall c : Int)) ∧ w' = w := by
  have b0 : (0 : Int) ≤ (c : Int) := by omega
  have b1 : (c : Int) ≤ 1114111 := by omega
  have hY : (65 ≤ c ∧ c ≤ 90 ∨ 192 ≤ c ∧ c ≤ 222 ∧ c ≠ 215) → (uSmall c : Int) = (c : Int) + 32 := fun h => by
    unfold uSmall
    rw [if_pos h]
    omega
  have hNo : ¬ (65 ≤ c ∧ c ≤ 90 ∨ 192 ≤ c ∧ c ≤ 222 ∧ c ≠ 215) → (uSmall c : Int) = (c : Int) := fun h => by
    unfold uSmall
    rw [if_neg h]
  have decT : ∀ {P : Prop} [Decidable P], P → decide P = true := fun h => decide_eq_true h
  have decF : ∀ {P : Prop} [Decidable P], ¬ P → decide P = false := fun h => decide_eq_false h
  rcases Nat.lt_or_ge c 65 with h1 | h1
  · rw [hNo (by omega)]
    have k1 : ¬ ((65 : Int) ≤ (c : Int)) := by omega
    have k2 : ¬ ((192 : Int) ≤ (c : Int)) := by omega
    have d1 := decF k1
    have d2 := decF k2
    clear hY hNo decT decF
    go_enter Tryd.func32, Tryd.ntmps32
    go_wp2_with fail
    go_ret
    exact ⟨rfl, rfl⟩
  · have k1 : (65 : Int) ≤ (c : Int) := by omega
    have d1 := decT k1
    rcases Nat.lt_or_ge 90 c with h2 | h2
    · have k2 : ¬ ((c : Int) ≤ 90) := by omega
      have d2 := decF k2
      rcases Nat.lt_or_ge c 192 with h3 | h3
      · rw [hNo (by omega)]
        have k3 : ¬ ((192 : Int) ≤ (c : Int)) := by omega
        have d3 := decF k3
        clear hY hNo decT decF
        go_enter Tryd.func32, Tryd.ntmps32
        go_wp2_with fail
        go_ret
        exact ⟨rfl, rfl⟩
      · have k3 : (192 : Int) ≤ (c : Int) := by omega
        have d3 := decT k3
        rcases Nat.lt_or_ge 222 c with h4 | h4
        · rw [hNo (by omega)]
          have k4 : ¬ ((c : Int) ≤ 222) := by omega
          have d4 := decF k4
          clear hY hNo decT decF
          go_enter Tryd.func32, Tryd.ntmps32
          go_wp2_with fail
          go_ret
          exact ⟨rfl, rfl⟩
        · have k4 : (c : Int) ≤ 222 := by omega
          have d4 := decT k4
          by_cases h5 : c = 215
          · subst h5
            clear hY hNo decT decF
            go_enter Tryd.func32, Tryd.ntmps32
            go_wp2_with fail
            go_ret
            exact ⟨rfl, rfl⟩
          · rw [hY (by omega)]
            have k5 : ((c : Int) != 215) = true := by simp; omega
            clear hY hNo decT decF
            go_enter Tryd.func32, Tryd.ntmps32
            go_wp2_with fail
            go_ret
            exact ⟨rfl, rfl⟩
    · rw [hY (by omega)]
      have k2 : (c : Int) ≤ 90 := by omega
      have d2 := decT k2
      clear hY hNo decT decF
      go_enter Tryd.func32, Tryd.ntmps32
      go_wp2_with fail
      go_ret
      exact ⟨rfl, rfl⟩
theorem wrune_any (B b : Nat) (l : List Value) (r : Int) (hr0 : -2147483648 ≤ r) (hr1 : r ≤ 2147483647) (w : World) (h : Lib.IsBuilderF 40 5 B b l w) (hlen : l.length + 4 ≤ 140737488355328) (hBw : B ≤ w.heap.size) :
    Calls Tryd.prog 34 #[.pointer (some ⟨b, 0, none⟩), .int .i32 r] w fun e w' => e = .returned (.tuple #[.int .i64 (Lib.runeCells r).length, .nilIface]) ∧ (Lib.BuilderAtF 40 5 B b (.pointer (some ⟨b, 0, none⟩)) (l ++ Lib.runeCells r) w' ∧ Below B w w' ∧ Lib.OthersKept 5 (some b) w w') :=
  Any.Builder_WriteRune_k (P := Tryd.prog) (ρ := Tryd.lays230_ren) { Tryd.lays230 with } Tryd.Builder_Extra_230 B b l r hr0 hr1 w h hlen hBw
theorem map_any (s : ByteArray) (w : World) (hs : s.size < 35184372088832) (hT : Tabs w) :
    Calls Tryd.prog 31 #[.func (.func 32) #[] #[], .string s] w fun e w' => e = .returned (.string ⟨(Lib.mapD smallI s.data.toList).toArray⟩) ∧ Below w.heap.size w w' :=
  Tryd.strings_Map_grows 32 #[] (fun _ _ => by kernel_rfl) smallI s w hs
    (fun W x hx _ => (small_any x W hx).mono fun e w' ⟨he, hw⟩ => ⟨he, hw ▸ Below.refl _ _⟩)
    (fun x hx => by
      unfold smallI uSmall
      split <;> omega)
    hT
end Go.Proofs.YtjnnjncoejdhaaaDoor
