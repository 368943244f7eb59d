/-
  The document's reading of an identifier as a plain function of a list of bytes, and tag.readNumber, which follows it.
-/
import Derived.Test.YtcbiedonmibfaaaGreatDoorPT
import Derived.Test.YtcbiedonmibfaaaGreatDoorMore
namespace Go.Proofs.YtcbiedonmibfaaaGreatDoor
open Go.RowKit
def rn : Nat → Nat → Nat → List Nat → Nat × Nat × Nat
 | 0, _, _, _ => (0, 0, 11)
 | f + 1, i, a, l =>
   match l with
   | [] => (0, 0, 10)
   | c :: r => if i = 0 ∧ (c = 128 ∨ c < 31) then (0, 0, 11) else if c < 128 then (a * 128 + c % 128, i + 1, 0) else rn f (i + 1) (a * 128 + c % 128) r
def rdT (l : List Nat) : Nat × Bool × Nat × Nat × Nat :=
 match l with
 | [] => (0, false, 0, 0, 10)
 | h :: r =>
   if h % 32 = 31 then
    if (rn 4 0 0 r).2.2 = 0 then (h / 64, h / 32 % 2 == 1, (rn 4 0 0 r).1, 1 + (rn 4 0 0 r).2.1, 0) else (0, false, 0, 0, (rn 4 0 0 r).2.2)
   else (h / 64, h / 32 % 2 == 1, h % 32, 1, 0)
theorem rn_cons (f i a c : Nat) (r : List Nat) : rn (f + 1) i a (c :: r) = if i = 0 ∧ (c = 128 ∨ c < 31) then (0, 0, 11) else if c < 128 then (a * 128 + c % 128, i + 1, 0) else rn f (i + 1) (a * 128 + c % 128) r := rfl
def tup3 (q : Nat × Nat × Nat) : Value := .tuple #[.int .i64 (q.1 : Int), .int .i64 (q.2.1 : Int), .int .i64 (q.2.2 : Int)]
set_option maxRecDepth 4000 in
set_option maxHeartbeats 800000 in
theorem readNumber_any (A : Option Addr) (cp : Nat) (l : List Nat) (w : World) (K : Nat) (hs : Src w K A cp l) (hl : l.length ≤ 1048600) (hby : ∀ x ∈ l, x < 256) :
 Calls Tryz.prog 126 #[.slice A l.length cp] w fun e w' => e = .returned (tup3 (rn 4 0 0 l)) ∧ w = w' := by
 replace hs := Hd hs
 replace hby := Hd hby
 go_enter Tryz.func126, Tryz.ntmps126
 go_wp2_with fail
 go_loop [5, 7] (fun t i => ∃ k a : Nat, k ≤ 4 ∧ t = .int .i64 (a : Int) ∧ i = .int .i64 (k : Int) ∧ a < 128 ^ k ∧ Hid (k ≤ l.length ∧ rn 4 0 0 l = rn (4 - k) k a (l.drop k))) (fun _ i => 4 - (intOf i).toNat)
 case atStart => exact ⟨0, 0, by omega, rfl, rfl, by simp, by omega, rfl⟩
 case round =>
  obtain ⟨k, a, hk, rfl, rfl, ha, H⟩ := hrel
  by_cases h4 : k = 4
  · subst h4
    go_wp2_with fail
    go_ret3
    refine ⟨?_, rfl⟩
    rw [H.out.2]
    rfl
  · by_cases hlen : k = l.length
    · subst hlen
      have hkl : ((l.length : Int) == (l.length : Int)) = true := by simp
      go_wp2_with fail
      go_ret3
      refine ⟨?_, rfl⟩
      rw [H.out.2, List.drop_length, show 4 - l.length = (3 - l.length) + 1 from by omega]
      rfl
    · obtain ⟨b, off, rfl, _, hc⟩ := hs.out.plain (by have := H.out.1; omega)
      have hkl : k < l.length := by have := H.out.1; omega
      have hcell := hc k hkl
      obtain ⟨c, hce⟩ : ∃ c, c = l[k] := ⟨_, rfl⟩
      rw [← hce] at hcell
      have hc256 : c < 256 := by rw [hce]; exact hby.out _ (List.getElem_mem hkl)
      have H2 : rn 4 0 0 l = rn ((3 - k) + 1) k a (c :: l.drop (k + 1)) := by
       rw [H.out.2, show 4 - k = (3 - k) + 1 from by omega, List.drop_eq_getElem_cons hkl, ← hce]
      rw [rn_cons] at H2
      clear hce hc
      have hne : ((k : Int) == (l.length : Int)) = false := beq_eq_false_iff_ne.2 (by omega)
      have ha2 : a < 2097152 := Nat.lt_of_lt_of_le ha (Nat.pow_le_pow_right (by decide) (by omega : k ≤ 3))
      have han : bits .andNot .u8 (c : Int) 128 = (c : Int) % 128 := by rw [andNot128 c hc256]; rfl
      have hor : bits .or .i64 ((a : Int) * 128) ((c : Int) % 128) = (a : Int) * 128 + (c : Int) % 128 := by
       have := or_i64 (a * 128) (c % 128) 7 (by omega) (by omega) (by omega)
       simpa using this
      have ha3 : a * 128 + c % 128 < 128 ^ (k + 1) := by rw [Nat.pow_succ]; omega
      replace ha3 := Hd ha3
      by_cases hk0 : k = 0
      · subst hk0
        have hcell0 : w.cell? ⟨b, off, none⟩ = some (.int .u8 (c : Int)) := hcell
        clear hcell
        by_cases h1 : c = 128
        · rw [if_pos ⟨rfl, .inl h1⟩] at H2
          replace H2 := Hd H2
          subst h1
          clear han hor
          go_wp2_with fail
          go_ret3
          exact ⟨by rw [H2.out]; rfl, rfl⟩
        · have h1b : ((c : Int) == 128) = false := beq_eq_false_iff_ne.2 (by omega)
          by_cases h2 : c < 31
          · rw [if_pos ⟨rfl, .inr h2⟩] at H2
            replace H2 := Hd H2
            go_wp2_with fail
            go_ret3
            exact ⟨by rw [H2.out]; rfl, rfl⟩
          · rw [if_neg (by omega)] at H2
            by_cases h3 : c < 128
            · rw [if_pos h3] at H2
              replace H2 := Hd H2
              go_wp2_with fail
              go_ret3
              exact ⟨by rw [H2.out]; rfl, rfl⟩
            · rw [if_neg h3] at H2
              replace H2 := Hd H2
              go_wp2_with fail
              go_round
              case rel => exact ⟨1, a * 128 + c % 128, by omega, by go_num, by go_num, ha3.out, by omega, H2.out⟩
              case measure => simp [intOf]
      · have hk0b : ((k : Int) == 0) = false := beq_eq_false_iff_ne.2 (by omega)
        rw [if_neg (by omega)] at H2
        by_cases h3 : c < 128
        · rw [if_pos h3] at H2
          replace H2 := Hd H2
          go_wp2_with fail
          go_ret3
          exact ⟨by rw [H2.out]; rfl, rfl⟩
        · rw [if_neg h3] at H2
          replace H2 := Hd H2
          go_wp2_with fail
          go_round
          case rel => exact ⟨k + 1, a * 128 + c % 128, by omega, by go_num, by go_num, ha3.out, by omega, by rw [H2.out, show 3 - k = 4 - (k + 1) from by omega]⟩
          case measure => simp [intOf]; omega
end Go.Proofs.YtcbiedonmibfaaaGreatDoor
namespace Go.Proofs.YtcbiedonmibfaaaGreatDoor
open Go.RowKit
def be (l : List Nat) : Nat := l.foldl (fun a c => a * 256 + c) 0
theorem be_snoc (l : List Nat) (c : Nat) : be (l ++ [c]) = be l * 256 + c := by simp [be]
theorem be_lt (l : List Nat) (h : ∀ x ∈ l, x < 256) : be l < 256 ^ l.length := by
 suffices H : ∀ (l : List Nat) (a k : Nat), (∀ x ∈ l, x < 256) → a < 256 ^ k → l.foldl (fun a c => a * 256 + c) a < 256 ^ (l.length + k) by
  simpa [be] using H l 0 0 h (by simp)
 intro l
 induction l with
 | nil => intro a k _ ha; simpa using ha
 | cons c l ih =>
   intro a k hc ha
   rw [List.foldl_cons, List.length_cons, show l.length + 1 + k = l.length + (k + 1) from by omega]
   refine ih _ _ (fun x hx => hc x (List.mem_cons_of_mem _ hx)) ?_
   have := hc c (List.mem_cons_self ..)
   rw [Nat.pow_succ]
   omega
def rdL (l : List Nat) : Nat × Nat × Nat :=
 match l with
 | [] => (0, 0, 10)
 | h :: r =>
   if h < 128 then (h, 1, 0) else if h = 128 ∨ h = 255 then (0, 0, 11) else if 132 < h then (0, 0, 3) else if r.length < h - 128 then (0, 0, 10)
   else if 2147483647 < be (r.take (h - 128)) then (0, 0, 3) else (be (r.take (h - 128)), 1 + (h - 128), 0)
theorem rdL_cons (h : Nat) (r : List Nat) : rdL (h :: r) = if h < 128 then (h, 1, 0) else if h = 128 ∨ h = 255 then (0, 0, 11) else if 132 < h then (0, 0, 3) else if r.length < h - 128 then (0, 0, 10)
 else if 2147483647 < be (r.take (h - 128)) then (0, 0, 3) else (be (r.take (h - 128)), 1 + (h - 128), 0) := rfl
theorem or_u32 (a b k : Nat) (h1 : a % 2 ^ k = 0) (h2 : b < 2 ^ k) (h3 : a < 4294967296 ∧ b < 4294967296) : bits .or .u32 (a : Int) (b : Int) = ((a + b : Nat) : Int) := by
 rw [u32_or_nat a b h3.1 h3.2, nat_join k a b h1 h2]
set_option maxRecDepth 4000 in
set_option maxHeartbeats 800000 in
theorem readLen_early (b off cp h : Nat) (r : List Nat) (w : World) (hl : r.length ≤ 1048600) (hcell : w.cell? ⟨b, off, none⟩ = some (.int .u8 (h : Int))) (hh : h < 256)
 (hx : h < 128 ∨ h = 128 ∨ h = 255 ∨ 132 < h ∨ r.length < h - 128) :
 Calls Tryz.prog 79 #[.slice (some ⟨b, off, none⟩) (r.length + 1) cp] w fun e w' => e = .returned (tup3 (rdL (h :: r))) ∧ w = w' := by
 have H := rdL_cons h r
 by_cases h1 : h < 128
 · have k1 : ((h : Int) == 128) = false := beq_eq_false_iff_ne.2 (by omega)
   have k2 : ((h : Int) == 255) = false := beq_eq_false_iff_ne.2 (by omega)
   rw [if_pos h1] at H
   replace H := Hd H
   clear hx
   go_enter Tryz.func79, Tryz.ntmps79
   go_wp2_with fail
   go_ret3
   exact ⟨by rw [H.out]; rfl, rfl⟩
 · rw [if_neg h1] at H
   by_cases h2 : h = 128
   · rw [if_pos (.inl h2)] at H
     replace H := Hd H
     subst h2
     clear hx
     go_enter Tryz.func79, Tryz.ntmps79
     go_wp2_with fail
     go_ret3
     exact ⟨by rw [H.out]; rfl, rfl⟩
   · by_cases h3 : h = 255
     · rw [if_pos (.inr h3)] at H
       replace H := Hd H
       subst h3
       clear hx
       go_enter Tryz.func79, Tryz.ntmps79
       go_wp2_with fail
       go_ret3
       exact ⟨by rw [H.out]; rfl, rfl⟩
     · have k1 : ((h : Int) == 128) = false := beq_eq_false_iff_ne.2 (by omega)
       have k2 : ((h : Int) == 255) = false := beq_eq_false_iff_ne.2 (by omega)
       rw [if_neg (by omega)] at H
       by_cases h4 : 132 < h
       · rw [if_pos h4] at H
         replace H := Hd H
         clear hx
         go_enter Tryz.func79, Tryz.ntmps79
         go_wp2_with fail
         go_ret3
         exact ⟨by rw [H.out]; rfl, rfl⟩
       · have h5 : r.length < h - 128 := by omega
         rw [if_neg h4, if_pos h5] at H
         replace H := Hd H
         clear hx
         go_enter Tryz.func79, Tryz.ntmps79
         go_wp2_with fail
         go_ret3
         exact ⟨by rw [H.out]; rfl, rfl⟩
set_option maxRecDepth 4000 in
set_option maxHeartbeats 800000 in
theorem readLen_late (b off cp h : Nat) (r : List Nat) (w : World) (hl : r.length ≤ 1048600) (hcp : r.length + 1 ≤ cp) (hcp2 : cp ≤ 9223372036854775807) (hcell : w.cell? ⟨b, off, none⟩ = some (.int .u8 (h : Int))) (h1 : 128 < h) (h2 : h ≤ 132) (h5 : h - 128 ≤ r.length)
 (hby : ∀ x ∈ r, x < 256) (hc : ∀ (j : Nat) (hj : j < r.length), w.cell? ⟨b, off + 1 + j, none⟩ = some (.int .u8 ((r[j] : Nat) : Int))) :
 Calls Tryz.prog 79 #[.slice (some ⟨b, off, none⟩) (r.length + 1) cp] w fun e w' => e = .returned (tup3 (rdL (h :: r))) ∧ w = w' := by
 have H := rdL_cons h r
 rw [if_neg (by omega), if_neg (by omega), if_neg (by omega), if_neg (by omega)] at H
 replace H := Hd H
 replace hc := Hd hc
 replace hby := Hd hby
 have k1 : ((h : Int) == 128) = false := beq_eq_false_iff_ne.2 (by omega)
 have k2 : ((h : Int) == 255) = false := beq_eq_false_iff_ne.2 (by omega)
 go_enter Tryz.func79, Tryz.ntmps79
 go_wp2_with fail
 go_loop [6, 47] (fun t i => ∃ k : Nat, k ≤ h - 128 ∧ t = .int .u32 ((be (r.take k) : Nat) : Int) ∧ i = .int .i64 (k : Int)) (fun _ i => h - 128 - (intOf i).toNat)
 case atStart => exact ⟨0, by omega, rfl, rfl⟩
 case round =>
  obtain ⟨k, hk, ht, rfl⟩ := hrel
  by_cases he : k = h - 128
  · subst he
    obtain ⟨a, ha⟩ : ∃ a, a = be (r.take (h - 128)) := ⟨_, rfl⟩
    have hlt : a < 4294967296 := by
     have := be_lt (r.take (h - 128)) (fun x hx => hby.out x (List.mem_of_mem_take hx))
     rw [← ha] at this
     exact Nat.lt_of_lt_of_le this (show 256 ^ _ ≤ 256 ^ 4 from Nat.pow_le_pow_right (by decide) (by rw [List.length_take]; omega))
    rw [← ha] at ht
    replace ha := Hd ha
    obtain rfl := ht
    by_cases hb : 2147483647 < a
    · go_wp2_with fail
      go_ret3
      exact ⟨by rw [H.out, if_pos (by rw [← ha.out]; exact hb)]; rfl, rfl⟩
    · go_wp2_with fail
      go_ret3
      refine ⟨?_, rfl⟩
      rw [H.out, if_neg (by rw [← ha.out]; exact hb), ← ha.out]
      unfold tup3
      rw [show ((1 + (h - 128) : Nat) : Int) = 1 + ((h : Int) - 128) from by omega]
      rfl
  · have hkl : k < r.length := by omega
    have hcell2 := hc.out k hkl
    obtain ⟨c, hce⟩ : ∃ c, c = r[k] := ⟨_, rfl⟩
    rw [← hce] at hcell2
    have hc256 : c < 256 := by rw [hce]; exact hby.out _ (List.getElem_mem hkl)
    have hsn : be (r.take (k + 1)) = be (r.take k) * 256 + c := by
     rw [List.take_succ_eq_append_getElem hkl, be_snoc, hce]
    obtain ⟨a, ha⟩ : ∃ a, a = be (r.take k) := ⟨_, rfl⟩
    have hlt : a < 16777216 := by
     have := be_lt (r.take k) (fun x hx => hby.out x (List.mem_of_mem_take hx))
     rw [← ha] at this
     exact Nat.lt_of_lt_of_le this (show 256 ^ _ ≤ 256 ^ 3 from Nat.pow_le_pow_right (by decide) (by rw [List.length_take]; omega))
    rw [← ha] at ht hsn
    replace hsn := Hd hsn
    obtain rfl := ht
    clear ha hce
    have hor : bits .or .u32 ((a : Int) * 256) (c : Int) = (a : Int) * 256 + (c : Int) := by
     have := or_u32 (a * 256) c 8 (by omega) (by omega) (by omega)
     simpa using this
    go_wp2_with fail
    go_round
    case rel => exact ⟨k + 1, by omega, by rw [hsn.out]; go_num, by go_num⟩
    case measure => simp [intOf]; omega
theorem readLen_any (A : Option Addr) (cp : Nat) (l : List Nat) (w : World) (K : Nat) (hs : Src w K A cp l) (hl : l.length ≤ 1048600) (hcp : cp ≤ 9223372036854775807) (hby : ∀ x ∈ l, x < 256) :
 Calls Tryz.prog 79 #[.slice A l.length cp] w fun e w' => e = .returned (tup3 (rdL l)) ∧ w = w' := by
 rcases l with _ | ⟨h, r⟩
 · go_enter Tryz.func79, Tryz.ntmps79
   go_wp2_with fail
   go_ret3
   exact ⟨rfl, rfl⟩
 · obtain ⟨b, off, rfl, _, hc⟩ := hs.plain (by simp)
   have hcell : w.cell? ⟨b, off, none⟩ = some (.int .u8 (h : Int)) := hc 0 (by simp)
   have hle := hs.le
   rw [List.length_cons] at hl hle ⊢
   by_cases hx : h < 128 ∨ h = 128 ∨ h = 255 ∨ 132 < h ∨ r.length < h - 128
   · exact readLen_early b off cp h r w (by omega) hcell (hby h (List.mem_cons_self ..)) hx
   · refine readLen_late b off cp h r w (by omega) (by omega) hcp hcell (by omega) (by omega) (by omega) (fun x hx => hby x (List.mem_cons_of_mem _ hx)) fun j hj => ?_
     have := hc (j + 1) (by rw [List.length_cons]; omega)
     rw [show off + (j + 1) = off + 1 + j from by omega] at this
     exact this
end Go.Proofs.YtcbiedonmibfaaaGreatDoor
