/-
  tag.Read follows the document's reading of an identifier.
-/
import Derived.Test.YtcbiedonmibfaaaGreatDoorRD
import Derived.BigRegion
namespace Go.Proofs.YtcbiedonmibfaaaGreatDoor
open Go.RowKit
def tupT (q : Nat × Bool × Nat × Nat × Nat) : Value := .tuple #[.agg #[.int .i64 (q.1 : Int), .bool q.2.1, .int .i64 (q.2.2.1 : Int)], .int .i64 (q.2.2.2.1 : Int), .int .i64 (q.2.2.2.2 : Int)]
theorem and_u8 (a k m : Nat) (ha : a < 256) (hk : 2 ^ k ≤ 256) (hm : m = 2 ^ k - 1) : bits .and .u8 (a : Int) (m : Int) = ((a % 2 ^ k : Nat) : Int) := by
 subst hm
 have hp : 0 < 2 ^ k := Nat.pow_pos (by decide)
 rw [u8_and_nat a _ ha (by omega), Nat.and_two_pow_sub_one_eq_mod]
set_option maxRecDepth 4000 in
set_option maxHeartbeats 800000 in
theorem read_nil (A : Option Addr) (cp : Nat) (w : World) :
 Calls Tryz.prog 78 #[.slice A 0 cp] w fun e w' => e = .returned (tupT (rdT [])) ∧ Below w.heap.size w w' := by
 go_enter Tryz.func78, Tryz.ntmps78
 go_wp2_with fail
 go_returns
 exact ⟨rfl, by go_grown⟩
theorem mark_u8 (h : Nat) (hh : h < 256) : (bits .and .u8 (h : Int) 32 != 0) = (h / 32 % 2 == 1) := by
 rw [show (32 : Int) = ((32 : Nat) : Int) from rfl, u8_and_nat h 32 hh (by decide), show (32 : Nat) = 2 ^ 5 from rfl, nat_bit 5 h]
 rcases Nat.mod_two_eq_zero_or_one (h / 2 ^ 5) with e | e <;> rw [e] <;> rfl
set_option maxRecDepth 4000 in
set_option maxHeartbeats 800000 in
theorem read_one (b off cp h n : Nat) (w : World) (hl : n ≤ 1048600) (hcell : w.cell? ⟨b, off, none⟩ = some (.int .u8 (h : Int))) (hh : h < 256) (h31 : h % 32 ≠ 31) :
 Calls Tryz.prog 78 #[.slice (some ⟨b, off, none⟩) (n + 1) cp] w fun e w' => e = .returned (tupT (h / 64, h / 32 % 2 == 1, h % 32, 1, 0)) ∧ Below w.heap.size w w' := by
 have e1 : bits .and .u8 (h : Int) 31 = (h : Int) % 32 := by rw [show (31 : Int) = ((31 : Nat) : Int) from rfl, and_u8 h 5 31 hh (by decide) rfl]; rfl
 obtain ⟨m, hm⟩ : ∃ m, m = (h / 32 % 2 == 1) := ⟨_, rfl⟩
 have e2 : (bits .and .u8 (h : Int) 32 != 0) = m := by rw [mark_u8 h hh, hm]
 have hblt : b < w.heap.size := World.block_lt_of_cell? w _ hcell
 rw [← hm]
 clear hm
 go_enter Tryz.func78, Tryz.ntmps78
 go_wp2_with fail
 go_region
 go_wp2_with fail
 go_returns
 exact ⟨rfl, by go_grown⟩
set_option maxRecDepth 4000 in
set_option maxHeartbeats 800000 in
theorem read_cap (b off hd : Nat) (w : World) (hcell : w.cell? ⟨b, off, none⟩ = some (.int .u8 (hd : Int))) (hh : hd < 256) (h31 : hd % 32 = 31) :
 Calls Tryz.prog 78 #[.slice (some ⟨b, off, none⟩) 1 1] w fun e w' => e = .returned (tupT (rdT [hd])) ∧ Below w.heap.size w w' := by
 have e1 : bits .and .u8 (hd : Int) 31 = 31 := by rw [show (31 : Int) = ((31 : Nat) : Int) from rfl, and_u8 hd 5 31 hh (by decide) rfl, show 2 ^ 5 = 32 from rfl, h31]
 obtain ⟨m, hm⟩ : ∃ m, m = (hd / 32 % 2 == 1) := ⟨_, rfl⟩
 have e2 : (bits .and .u8 (hd : Int) 32 != 0) = m := by rw [mark_u8 hd hh, hm]
 have hblt : b < w.heap.size := World.block_lt_of_cell? w _ hcell
 have H : rdT [hd] = (0, false, 0, 0, 10) := by
  rw [rdT, if_pos h31]
  rfl
 replace H := Hd H
 clear hm h31
 go_enter Tryz.func78, Tryz.ntmps78
 go_wp2_with fail
 go_region
 go_wp2_with fail
 refine (readNumber_any _ 0 [] _ 0 ⟨by simp, by simp, fun ad e => ⟨by simp, by simp⟩⟩ (by simp) (by simp)).mono ?_
 rintro e w2 ⟨rfl, rfl⟩
 rw [show tup3 (rn 4 0 0 []) = .tuple #[.int .i64 0, .int .i64 0, .int .i64 10] from rfl]
 go_wp2_with fail
 go_returns
 exact ⟨by rw [H.out]; rfl, by go_grown⟩
theorem rn_used : ∀ f i a l, (rn f i a l).2.1 ≤ i + f
 | 0, _, _, _ => Nat.zero_le _
 | f + 1, i, a, l => by
   unfold rn
   split
   · exact Nat.zero_le _
   · split
     · exact Nat.zero_le _
     · split
       · show i + 1 ≤ i + (f + 1); omega
       · exact Nat.le_trans (rn_used f (i + 1) _ _) (by omega)
set_option maxRecDepth 4000 in
set_option maxHeartbeats 800000 in
theorem read_more (b off cp hd : Nat) (r : List Nat) (w : World) (hl : r.length ≤ 1048600) (hcp : r.length + 1 ≤ cp) (hcp2 : cp ≤ 9223372036854775807) (h1 : ¬ cp = 1) (hcell : w.cell? ⟨b, off, none⟩ = some (.int .u8 (hd : Int))) (hh : hd < 256) (h31 : hd % 32 = 31)
 (hby : ∀ x ∈ r, x < 256) (hc : ∀ (j : Nat) (hj : j < r.length), w.cell? ⟨b, off + 1 + j, none⟩ = some (.int .u8 ((r[j] : Nat) : Int))) :
 Calls Tryz.prog 78 #[.slice (some ⟨b, off, none⟩) (r.length + 1) cp] w fun e w' => e = .returned (tupT (rdT (hd :: r))) ∧ Below w.heap.size w w' := by
 have e1 : bits .and .u8 (hd : Int) 31 = 31 := by rw [show (31 : Int) = ((31 : Nat) : Int) from rfl, and_u8 hd 5 31 hh (by decide) rfl, show 2 ^ 5 = 32 from rfl, h31]
 obtain ⟨m, hm⟩ : ∃ m, m = (hd / 32 % 2 == 1) := ⟨_, rfl⟩
 have e2 : (bits .and .u8 (hd : Int) 32 != 0) = m := by rw [mark_u8 hd hh, hm]
 have hblt : b < w.heap.size := World.block_lt_of_cell? w _ hcell
 have H : rdT (hd :: r) = if (rn 4 0 0 r).2.2 = 0 then (hd / 64, m, (rn 4 0 0 r).1, 1 + (rn 4 0 0 r).2.1, 0) else (0, false, 0, 0, (rn 4 0 0 r).2.2) := by
  rw [rdT, if_pos h31, hm]
 obtain ⟨a, u, er, hq⟩ : ∃ a u er, rn 4 0 0 r = (a, u, er) := ⟨_, _, _, rfl⟩
 have hu : u ≤ 4 := by have := rn_used 4 0 0 r; rw [hq] at this; exact this
 rw [hq] at H
 replace H := Hd H
 replace hq := Hd hq
 replace hby := Hd hby
 clear hm h31
 have hsrc : ∀ (W : World) (A : Option Addr), (∀ p : Addr, p.block < w.heap.size → W.cell? p = w.cell? p) → (A = if cp = 1 then some ⟨b, off, none⟩ else some ⟨b, off + 1, none⟩) → Src W w.heap.size A (cp - 1) r := by
  intro W A hW hA
  refine ⟨by omega, fun e => ?_, fun ad e => ?_⟩
  · rw [e] at hA
    split at hA <;> cases hA
  · subst e
    split at hA
    · have hr0 : r = [] := List.eq_nil_of_length_eq_zero (by omega)
      subst hr0
      exact ⟨by simp, by simp⟩
    · injection hA with hA
      subst hA
      refine ⟨fun _ => hblt, fun j n hj => ?_⟩
      have hjl : j < r.length := (List.getElem?_eq_some_iff.1 hj).1
      have hadd : (⟨b, off + 1, none⟩ : Addr).add j = ⟨b, off + 1 + j, none⟩ := by unfold Addr.add; split <;> simp_all
      rw [hadd, hW _ hblt, hc j hjl]
      rw [List.getElem?_eq_getElem hjl] at hj
      injection hj with hj
      rw [hj]
 replace hsrc := Hd hsrc
 clear hc
 have hrn : ∀ (W : World) (A : Option Addr), Below w.heap.size w W → (A = if cp = 1 then some ⟨b, off, none⟩ else some ⟨b, off + 1, none⟩) → Calls Tryz.prog 126 #[.slice A r.length (cp - 1)] W fun e w' => e = .returned (.tuple #[.int .i64 (a : Int), .int .i64 (u : Int), .int .i64 (er : Int)]) ∧ W = w' := by
  intro W A hW hA
  have := readNumber_any A (cp - 1) r W w.heap.size (hsrc.out W A (fun p hp => hW.cell hp) hA) hl hby.out
  rw [hq.out] at this
  exact this
 replace hrn := Hd hrn
 by_cases he : er = 0
 · subst he
   replace H : rdT (hd :: r) = (hd / 64, m, a, 1 + u, 0) := H.out
   replace H := Hd H
   go_enter Tryz.func78, Tryz.ntmps78
   go_wp2_with fail
   go_region
   go_wp2_with fail
   refine (hrn.out _ _ (by go_grown) (by rw [if_neg h1])).mono ?_
   rintro e w2 ⟨rfl, rfl⟩
   go_wp2_with fail
   go_returns
   exact ⟨by rw [H.out]; rfl, by go_grown⟩
 · replace H : rdT (hd :: r) = (0, false, 0, 0, er) := by rw [H.out, if_neg he]
   replace H := Hd H
   have hne : ((er : Int) != 0) = true := by simpa using he
   go_enter Tryz.func78, Tryz.ntmps78
   go_wp2_with fail
   go_region
   go_wp2_with fail
   refine (hrn.out _ _ (by go_grown) (by rw [if_neg h1])).mono ?_
   rintro e w2 ⟨rfl, rfl⟩
   go_wp2_with fail
   go_returns
   exact ⟨by rw [H.out]; rfl, by go_grown⟩
theorem read_any (A : Option Addr) (cp : Nat) (l : List Nat) (w : World) (K : Nat) (hs : Src w K A cp l) (hl : l.length ≤ 1048600) (hcp : cp ≤ 9223372036854775807) (hby : ∀ x ∈ l, x < 256) :
 Calls Tryz.prog 78 #[.slice A l.length cp] w fun e w' => e = .returned (tupT (rdT l)) ∧ Below w.heap.size w w' := by
 rcases l with _ | ⟨h, r⟩
 · exact read_nil A cp w
 · obtain ⟨b, off, rfl, _, hc⟩ := hs.plain (by simp)
   have hcell : w.cell? ⟨b, off, none⟩ = some (.int .u8 (h : Int)) := hc 0 (by simp)
   have hle := hs.le
   have hh := hby h (List.mem_cons_self ..)
   rw [List.length_cons] at hl hle ⊢
   by_cases h31 : h % 32 = 31
   · by_cases h1 : cp = 1
     · obtain rfl : r = [] := List.eq_nil_of_length_eq_zero (by omega)
       subst h1
       exact read_cap b off h w hcell hh h31
     refine read_more b off cp h r w (by omega) (by omega) hcp h1 hcell hh h31 (fun x hx => hby x (List.mem_cons_of_mem _ hx)) fun j hj => ?_
     have := hc (j + 1) (by rw [List.length_cons]; omega)
     rw [show off + (j + 1) = off + 1 + j from by omega] at this
     exact this
   · rw [rdT, if_neg h31]
     exact read_one b off cp h r.length w (by omega) hcell hh h31
end Go.Proofs.YtcbiedonmibfaaaGreatDoor
