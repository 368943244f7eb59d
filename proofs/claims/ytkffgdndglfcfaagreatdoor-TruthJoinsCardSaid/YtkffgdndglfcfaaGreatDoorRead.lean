/-
  The document's reading of an identifier as a plain function of a list of bytes, and tag.readNumber, which follows it.
-/
import Derived.Test.YtkffgdndglfcfaaGreatDoorNil
import Derived.Test.YtkffgdndglfcfaaGreatDoorMore
namespace Go.Proofs.YtkffgdndglfcfaaGreatDoor
open Go.RowKit

/-- The number of an identifier's further bytes: fuel f, index i, what has been read so far: the number, its bytes, the error. -/
def rn : Nat → Nat → Nat → List Nat → Nat × Nat × Nat
  | 0, _, _, _ => (0, 0, 11)
  | f + 1, i, a, l =>
    match l with
    | [] => (0, 0, 10)
    | c :: r => if i = 0 ∧ (c = 128 ∨ c < 31) then (0, 0, 11) else if c < 128 then (a * 128 + c % 128, i + 1, 0) else rn f (i + 1) (a * 128 + c % 128) r
/-- An identifier: its class, its mark, its number, its bytes, the error. -/
def rdT (l : List Nat) : Nat × Bool × Nat × Nat × Nat :=
  match l with
  | [] => (0, false, 0, 0, 10)
  | h :: r =>
    if h % 32 = 31 then
      if (rn 4 0 0 r).2.2 = 0 then (h / 64, h / 32 % 2 == 1, (rn 4 0 0 r).1, 1 + (rn 4 0 0 r).2.1, 0) else (0, false, 0, 0, (rn 4 0 0 r).2.2)
    else (h / 64, h / 32 % 2 == 1, h % 32, 1, 0)

theorem rn_cons (f i a c : Nat) (r : List Nat) : rn (f + 1) i a (c :: r) = if i = 0 ∧ (c = 128 ∨ c < 31) then (0, 0, 11) else if c < 128 then (a * 128 + c % 128, i + 1, 0) else rn f (i + 1) (a * 128 + c % 128) r := rfl
theorem rn_err : ∀ f i a l, (rn f i a l).2.2 = 0 ∨ ((rn f i a l).1 = 0 ∧ (rn f i a l).2.1 = 0)
  | 0, _, _, _ => .inr ⟨rfl, rfl⟩
  | f + 1, i, a, l => by
    unfold rn
    split
    · exact .inr ⟨rfl, rfl⟩
    · split
      · exact .inr ⟨rfl, rfl⟩
      · split
        · exact .inl rfl
        · exact rn_err f (i + 1) _ _

/-- What Go's tuple of the three holds. -/
def tup3 (q : Nat × Nat × Nat) : Value := .tuple #[.int .i64 (q.1 : Int), .int .i64 (q.2.1 : Int), .int .i64 (q.2.2 : Int)]

set_option maxRecDepth 4000 in
set_option maxHeartbeats 800000 in
theorem readNumber_any (A : Option Addr) (cp : Nat) (l : List Nat) (w : World) (K : Nat) (hs : Src w K A cp l) (hl : l.length ≤ 1048600) (hby : ∀ x ∈ l, x < 256) :
    Calls Tryz.prog 98 #[.slice A l.length cp] w fun e w' => e = .returned (tup3 (rn 4 0 0 l)) ∧ w = w' := by
  replace hs := Lib.hid hs
  replace hby := Lib.hid hby
  go_enter Tryz.func98, Tryz.ntmps98
  go_wp2_with fail
  go_loop [5, 7] (fun t i => ∃ k a : Nat, k ≤ 4 ∧ t = .int .i64 (a : Int) ∧ i = .int .i64 (k : Int) ∧ a < 128 ^ k ∧ Hid (k ≤ l.length ∧ rn 4 0 0 l = rn (4 - k) k a (l.drop k))) (fun _ i => 4 - (intOf i).toNat)
  case atStart => exact ⟨0, 0, by omega, rfl, rfl, by simp, by omega, rfl⟩
  case round =>
    obtain ⟨k, a, hk, rfl, rfl, ha, H⟩ := hrel
    by_cases h4 : k = 4
    · subst h4
      go_wp2_with fail
      go_ret3
      refine ⟨?_, rfl⟩
      rw [H.out.2]
      rfl
    · by_cases hlen : k = l.length
      · subst hlen
        have hkl : ((l.length : Int) == (l.length : Int)) = true := by simp
        go_wp2_with fail
        go_ret3
        refine ⟨?_, rfl⟩
        rw [H.out.2, List.drop_length, show 4 - l.length = (3 - l.length) + 1 from by omega]
        rfl
      · obtain ⟨b, off, rfl, _, hc⟩ := hs.out.plain (by have := H.out.1; omega)
        have hkl : k < l.length := by have := H.out.1; omega
        have hcell := hc k hkl
        obtain ⟨c, hce⟩ : ∃ c, c = l[k] := ⟨_, rfl⟩
        rw [← hce] at hcell
        have hc256 : c < 256 := by rw [hce]; exact hby.out _ (List.getElem_mem hkl)
        have H2 : rn 4 0 0 l = rn ((3 - k) + 1) k a (c :: l.drop (k + 1)) := by
          rw [H.out.2, show 4 - k = (3 - k) + 1 from by omega, List.drop_eq_getElem_cons hkl, ← hce]
        rw [rn_cons] at H2
        clear hce hc
        have hne : ((k : Int) == (l.length : Int)) = false := beq_eq_false_iff_ne.2 (by omega)
        have ha2 : a < 2097152 := Nat.lt_of_lt_of_le ha (Nat.pow_le_pow_right (by decide) (by omega : k ≤ 3))
        have han : bits .andNot .u8 (c : Int) 128 = (c : Int) % 128 := by rw [andNot128 c hc256]; rfl
        have hor : bits .or .i64 ((a : Int) * 128) ((c : Int) % 128) = (a : Int) * 128 + (c : Int) % 128 := by
          have := or_i64 (a * 128) (c % 128) 7 (by omega) (by omega) (by omega)
          simpa using this
        have ha3 : a * 128 + c % 128 < 128 ^ (k + 1) := by rw [Nat.pow_succ]; omega
        replace ha3 := Lib.hid ha3
        by_cases hk0 : k = 0
        · subst hk0
          have hcell0 : w.cell? ⟨b, off, none⟩ = some (.int .u8 (c : Int)) := hcell
          clear hcell
          by_cases h1 : c = 128
          · rw [if_pos ⟨rfl, .inl h1⟩] at H2
            replace H2 := Lib.hid H2
            subst h1
            clear han hor
            go_wp2_with fail
            go_ret3
            exact ⟨by rw [H2.out]; rfl, rfl⟩
          · have h1b : ((c : Int) == 128) = false := beq_eq_false_iff_ne.2 (by omega)
            by_cases h2 : c < 31
            · rw [if_pos ⟨rfl, .inr h2⟩] at H2
              replace H2 := Lib.hid H2
              go_wp2_with fail
              go_ret3
              exact ⟨by rw [H2.out]; rfl, rfl⟩
            · rw [if_neg (by omega)] at H2
              by_cases h3 : c < 128
              · rw [if_pos h3] at H2
                replace H2 := Lib.hid H2
                go_wp2_with fail
                go_ret3
                exact ⟨by rw [H2.out]; rfl, rfl⟩
              · rw [if_neg h3] at H2
                replace H2 := Lib.hid H2
                go_wp2_with fail
                go_round
                case rel => exact ⟨1, a * 128 + c % 128, by omega, by go_num, by go_num, ha3.out, by omega, H2.out⟩
                case measure => simp [intOf]
        · have hk0b : ((k : Int) == 0) = false := beq_eq_false_iff_ne.2 (by omega)
          rw [if_neg (by omega)] at H2
          by_cases h3 : c < 128
          · rw [if_pos h3] at H2
            replace H2 := Lib.hid H2
            go_wp2_with fail
            go_ret3
            exact ⟨by rw [H2.out]; rfl, rfl⟩
          · rw [if_neg h3] at H2
            replace H2 := Lib.hid H2
            go_wp2_with fail
            go_round
            case rel => exact ⟨k + 1, a * 128 + c % 128, by omega, by go_num, by go_num, ha3.out, by omega, by rw [H2.out, show 3 - k = 4 - (k + 1) from by omega]⟩
            case measure => simp [intOf]; omega
end Go.Proofs.YtkffgdndglfcfaaGreatDoor
