/-
  The document's reading of a length as a plain function of a list of bytes, and tag.ReadLen, which follows it.
-/
import Derived.Test.YtkffgdndglfcfaaGreatDoorRead
namespace Go.Proofs.YtkffgdndglfcfaaGreatDoor
open Go.RowKit

/-- The number that bytes stand for, the most significant first. -/
def be (l : List Nat) : Nat := l.foldl (fun a c => a * 256 + c) 0
theorem be_snoc (l : List Nat) (c : Nat) : be (l ++ [c]) = be l * 256 + c := by simp [be]
theorem be_lt (l : List Nat) (h : ∀ x ∈ l, x < 256) : be l < 256 ^ l.length := by
  suffices H : ∀ (l : List Nat) (a k : Nat), (∀ x ∈ l, x < 256) → a < 256 ^ k → l.foldl (fun a c => a * 256 + c) a < 256 ^ (l.length + k) by
    simpa [be] using H l 0 0 h (by simp)
  intro l
  induction l with
  | nil => intro a k _ ha; simpa using ha
  | cons c l ih =>
    intro a k hc ha
    rw [List.foldl_cons, List.length_cons, show l.length + 1 + k = l.length + (k + 1) from by omega]
    refine ih _ _ (fun x hx => hc x (List.mem_cons_of_mem _ hx)) ?_
    have := hc c (List.mem_cons_self ..)
    rw [Nat.pow_succ]
    omega
/-- A length: its number, its bytes, the error. -/
def rdL (l : List Nat) : Nat × Nat × Nat :=
  match l with
  | [] => (0, 0, 10)
  | h :: r =>
    if h < 128 then (h, 1, 0) else if h = 128 ∨ h = 255 then (0, 0, 11) else if 132 < h then (0, 0, 3) else if r.length < h - 128 then (0, 0, 10)
    else if 2147483647 < be (r.take (h - 128)) then (0, 0, 3) else (be (r.take (h - 128)), 1 + (h - 128), 0)
theorem rdL_cons (h : Nat) (r : List Nat) : rdL (h :: r) = if h < 128 then (h, 1, 0) else if h = 128 ∨ h = 255 then (0, 0, 11) else if 132 < h then (0, 0, 3) else if r.length < h - 128 then (0, 0, 10)
    else if 2147483647 < be (r.take (h - 128)) then (0, 0, 3) else (be (r.take (h - 128)), 1 + (h - 128), 0) := rfl

theorem or_u32 (a b k : Nat) (h1 : a % 2 ^ k = 0) (h2 : b < 2 ^ k) (h3 : a < 4294967296 ∧ b < 4294967296) : bits .or .u32 (a : Int) (b : Int) = ((a + b : Nat) : Int) := by
  rw [u32_or_nat a b h3.1 h3.2, nat_join k a b h1 h2]

set_option maxRecDepth 4000 in
set_option maxHeartbeats 800000 in
theorem readLen_early (b off cp h : Nat) (r : List Nat) (w : World) (hl : r.length ≤ 1048600) (hcell : w.cell? ⟨b, off, none⟩ = some (.int .u8 (h : Int))) (hh : h < 256)
    (hx : h < 128 ∨ h = 128 ∨ h = 255 ∨ 132 < h ∨ r.length < h - 128) :
    Calls Tryz.prog 71 #[.slice (some ⟨b, off, none⟩) (r.length + 1) cp] w fun e w' => e = .returned (tup3 (rdL (h :: r))) ∧ w = w' := by
  have H := rdL_cons h r
  by_cases h1 : h < 128
  · have k1 : ((h : Int) == 128) = false := beq_eq_false_iff_ne.2 (by omega)
    have k2 : ((h : Int) == 255) = false := beq_eq_false_iff_ne.2 (by omega)
    rw [if_pos h1] at H
    replace H := Lib.hid H
    clear hx
    go_enter Tryz.func71, Tryz.ntmps71
    go_wp2_with fail
    go_ret3
    exact ⟨by rw [H.out]; rfl, rfl⟩
  · rw [if_neg h1] at H
    by_cases h2 : h = 128
    · rw [if_pos (.inl h2)] at H
      replace H := Lib.hid H
      subst h2
      clear hx
      go_enter Tryz.func71, Tryz.ntmps71
      go_wp2_with fail
      go_ret3
      exact ⟨by rw [H.out]; rfl, rfl⟩
    · by_cases h3 : h = 255
      · rw [if_pos (.inr h3)] at H
        replace H := Lib.hid H
        subst h3
        clear hx
        go_enter Tryz.func71, Tryz.ntmps71
        go_wp2_with fail
        go_ret3
        exact ⟨by rw [H.out]; rfl, rfl⟩
      · have k1 : ((h : Int) == 128) = false := beq_eq_false_iff_ne.2 (by omega)
        have k2 : ((h : Int) == 255) = false := beq_eq_false_iff_ne.2 (by omega)
        rw [if_neg (by omega)] at H
        by_cases h4 : 132 < h
        · rw [if_pos h4] at H
          replace H := Lib.hid H
          clear hx
          go_enter Tryz.func71, Tryz.ntmps71
          go_wp2_with fail
          go_ret3
          exact ⟨by rw [H.out]; rfl, rfl⟩
        · have h5 : r.length < h - 128 := by omega
          rw [if_neg h4, if_pos h5] at H
          replace H := Lib.hid H
          clear hx
          go_enter Tryz.func71, Tryz.ntmps71
          go_wp2_with fail
          go_ret3
          exact ⟨by rw [H.out]; rfl, rfl⟩

set_option maxRecDepth 4000 in
set_option maxHeartbeats 800000 in
theorem readLen_late (b off cp h : Nat) (r : List Nat) (w : World) (hl : r.length ≤ 1048600) (hcp : r.length + 1 ≤ cp) (hcp2 : cp ≤ 9223372036854775807) (hcell : w.cell? ⟨b, off, none⟩ = some (.int .u8 (h : Int))) (h1 : 128 < h) (h2 : h ≤ 132) (h5 : h - 128 ≤ r.length)
    (hby : ∀ x ∈ r, x < 256) (hc : ∀ (j : Nat) (hj : j < r.length), w.cell? ⟨b, off + 1 + j, none⟩ = some (.int .u8 ((r[j] : Nat) : Int))) :
    Calls Tryz.prog 71 #[.slice (some ⟨b, off, none⟩) (r.length + 1) cp] w fun e w' => e = .returned (tup3 (rdL (h :: r))) ∧ w = w' := by
  have H := rdL_cons h r
  rw [if_neg (by omega), if_neg (by omega), if_neg (by omega), if_neg (by omega)] at H
  replace H := Lib.hid H
  replace hc := Lib.hid hc
  replace hby := Lib.hid hby
  have k1 : ((h : Int) == 128) = false := beq_eq_false_iff_ne.2 (by omega)
  have k2 : ((h : Int) == 255) = false := beq_eq_false_iff_ne.2 (by omega)
  go_enter Tryz.func71, Tryz.ntmps71
  go_wp2_with fail
  go_loop [6, 47] (fun t i => ∃ k : Nat, k ≤ h - 128 ∧ t = .int .u32 ((be (r.take k) : Nat) : Int) ∧ i = .int .i64 (k : Int)) (fun _ i => h - 128 - (intOf i).toNat)
  case atStart => exact ⟨0, by omega, rfl, rfl⟩
  case round =>
    obtain ⟨k, hk, ht, rfl⟩ := hrel
    by_cases he : k = h - 128
    · subst he
      obtain ⟨a, ha⟩ : ∃ a, a = be (r.take (h - 128)) := ⟨_, rfl⟩
      have hlt : a < 4294967296 := by
        have := be_lt (r.take (h - 128)) (fun x hx => hby.out x (List.mem_of_mem_take hx))
        rw [← ha] at this
        exact Nat.lt_of_lt_of_le this (show 256 ^ _ ≤ 256 ^ 4 from Nat.pow_le_pow_right (by decide) (by rw [List.length_take]; omega))
      rw [← ha] at ht
      replace ha := Lib.hid ha
      obtain rfl := ht
      by_cases hb : 2147483647 < a
      · go_wp2_with fail
        go_ret3
        exact ⟨by rw [H.out, if_pos (by rw [← ha.out]; exact hb)]; rfl, rfl⟩
      · go_wp2_with fail
        go_ret3
        refine ⟨?_, rfl⟩
        rw [H.out, if_neg (by rw [← ha.out]; exact hb), ← ha.out]
        unfold tup3
        rw [show ((1 + (h - 128) : Nat) : Int) = 1 + ((h : Int) - 128) from by omega]
        rfl
    · have hkl : k < r.length := by omega
      have hcell2 := hc.out k hkl
      obtain ⟨c, hce⟩ : ∃ c, c = r[k] := ⟨_, rfl⟩
      rw [← hce] at hcell2
      have hc256 : c < 256 := by rw [hce]; exact hby.out _ (List.getElem_mem hkl)
      have hsn : be (r.take (k + 1)) = be (r.take k) * 256 + c := by
        rw [List.take_succ_eq_append_getElem hkl, be_snoc, hce]
      obtain ⟨a, ha⟩ : ∃ a, a = be (r.take k) := ⟨_, rfl⟩
      have hlt : a < 16777216 := by
        have := be_lt (r.take k) (fun x hx => hby.out x (List.mem_of_mem_take hx))
        rw [← ha] at this
        exact Nat.lt_of_lt_of_le this (show 256 ^ _ ≤ 256 ^ 3 from Nat.pow_le_pow_right (by decide) (by rw [List.length_take]; omega))
      rw [← ha] at ht hsn
      replace hsn := Lib.hid hsn
      obtain rfl := ht
      clear ha hce
      have hor : bits .or .u32 ((a : Int) * 256) (c : Int) = (a : Int) * 256 + (c : Int) := by
        have := or_u32 (a * 256) c 8 (by omega) (by omega) (by omega)
        simpa using this
      go_wp2_with fail
      go_round
      case rel => exact ⟨k + 1, by omega, by rw [hsn.out]; go_num, by go_num⟩
      case measure => simp [intOf]; omega
/-- ReadLen, whatever the bytes. -/
theorem readLen_any (A : Option Addr) (cp : Nat) (l : List Nat) (w : World) (K : Nat) (hs : Src w K A cp l) (hl : l.length ≤ 1048600) (hcp : cp ≤ 9223372036854775807) (hby : ∀ x ∈ l, x < 256) :
    Calls Tryz.prog 71 #[.slice A l.length cp] w fun e w' => e = .returned (tup3 (rdL l)) ∧ w = w' := by
  rcases l with _ | ⟨h, r⟩
  · go_enter Tryz.func71, Tryz.ntmps71
    go_wp2_with fail
    go_ret3
    exact ⟨rfl, rfl⟩
  · obtain ⟨b, off, rfl, _, hc⟩ := hs.plain (by simp)
    have hcell : w.cell? ⟨b, off, none⟩ = some (.int .u8 (h : Int)) := hc 0 (by simp)
    have hle := hs.le
    rw [List.length_cons] at hl hle ⊢
    by_cases hx : h < 128 ∨ h = 128 ∨ h = 255 ∨ 132 < h ∨ r.length < h - 128
    · exact readLen_early b off cp h r w (by omega) hcell (hby h (List.mem_cons_self ..)) hx
    · refine readLen_late b off cp h r w (by omega) (by omega) hcp hcell (by omega) (by omega) (by omega) (fun x hx => hby x (List.mem_cons_of_mem _ hx)) fun j hj => ?_
      have := hc (j + 1) (by rw [List.length_cons]; omega)
      rw [show off + (j + 1) = off + 1 + j from by omega] at this
      exact this
end Go.Proofs.YtkffgdndglfcfaaGreatDoor
