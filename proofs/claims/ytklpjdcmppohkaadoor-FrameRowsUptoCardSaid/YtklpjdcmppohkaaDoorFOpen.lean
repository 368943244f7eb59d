/-
  The program's Open of any bytes.
-/
import Derived.Test.YtklpjdcmppohkaaDoorFClone
import Derived.BigQuiet
namespace Go.Proofs.YtklpjdcmppohkaaDoor
open Go.RowKit

theorem below_drew (w : World) (n : Nat) : Below w.heap.size w (w.drewN n) := ⟨rfl, rfl, rfl, Nat.le_refl _, fun _ _ => rfl⟩

set_option maxRecDepth 8000 in
set_option maxHeartbeats 800000 in
theorem open_short (A : Option Addr) (cp L : Nat) (w : World) (h4 : L < 4) :
    Calls Tryd.prog 11 #[.slice A L cp] w fun e w' => e = .returned (.tuple #[.slice none 0 0, .int .i64 0, .int .i64 10]) ∧ w' = w := by
  have i0 : (L : Int) < 4 := by omega
  go_enter Tryd.func11, Tryd.ntmps11
  go_wp2_with fail
  go_returns
  exact ⟨rfl, rfl⟩
set_option maxRecDepth 8000 in
set_option maxHeartbeats 800000 in
theorem open_big (ad : Addr) (cp L n : Nat) (w : World) (h4 : 4 ≤ L) (hl : L ≤ 1048600)
    (CL : Hid (Calls Tryd.prog 18 #[.slice (some ad) L cp] w fun e w' => e = .returned (.int .u32 (n : Int)) ∧ w' = w)) (h5 : 65536 < n) :
    Calls Tryd.prog 11 #[.slice (some ad) L cp] w fun e w' => e = .returned (.tuple #[.slice none 0 0, .int .i64 0, .int .i64 3]) ∧ w' = w := by
  have i0 : ¬ ((L : Int) < 4) := by omega
  have k0 : 65536 < (n : Int) := by omega
  go_enter Tryd.func11, Tryd.ntmps11
  go_wp2_with fail
  refine CL.out.mono ?_
  rintro _ _ ⟨rfl, rfl⟩
  dsimp only []
  go_wp2_with fail
  go_returns
  exact ⟨rfl, rfl⟩
set_option maxRecDepth 8000 in
set_option maxHeartbeats 800000 in
theorem open_end (ad : Addr) (cp L n : Nat) (w : World) (h4 : 4 ≤ L) (hl : L ≤ 1048600)
    (CL : Hid (Calls Tryd.prog 18 #[.slice (some ad) L cp] w fun e w' => e = .returned (.int .u32 (n : Int)) ∧ w' = w)) (h5 : n ≤ 65536) (h6 : L < n + 8) :
    Calls Tryd.prog 11 #[.slice (some ad) L cp] w fun e w' => e = .returned (.tuple #[.slice none 0 0, .int .i64 0, .int .i64 10]) ∧ w' = w := by
  have i0 : ¬ ((L : Int) < 4) := by omega
  have k0 : ¬ (65536 < (n : Int)) := by omega
  have k1 : (L : Int) < 4 + (n : Int) + 4 := by omega
  go_enter Tryd.func11, Tryd.ntmps11
  go_wp2_with fail
  refine CL.out.mono ?_
  rintro _ _ ⟨rfl, rfl⟩
  dsimp only []
  go_wp2_with fail
  go_returns
  exact ⟨rfl, rfl⟩
set_option maxRecDepth 8000 in
set_option maxHeartbeats 800000 in
theorem open_no (ad : Addr) (cp L n : Nat) (w : World) (h4 : 4 ≤ L) (hl : L ≤ 1048600) (hLc : L ≤ cp) (s v : Nat)
    (CL : Hid (Calls Tryd.prog 18 #[.slice (some ad) L cp] w fun e w' => e = .returned (.int .u32 (n : Int)) ∧ w' = w)) (h5 : n ≤ 65536) (h6 : n + 8 ≤ L)
    (CS : Hid (∀ w', Below w.heap.size w w' → Calls Tryd.prog 19 #[.slice (some ⟨ad.block, ad.off + (n + 4), none⟩) (L - (n + 4)) (cp - (n + 4))] w' fun e w'' => e = .returned (.int .u32 (s : Int)) ∧ w'' = w'))
    (CM : Hid (∀ w', Below w.heap.size w w' → Calls Tryd.prog 15 #[.slice (some ad) (n + 4) cp] w' fun e w'' => e = .returned (.int .u32 (v : Int)) ∧ w'' = w'))
    (hq : s ≠ v) :
    Calls Tryd.prog 11 #[.slice (some ad) L cp] w fun e w' => e = .returned (.tuple #[.slice none 0 0, .int .i64 0, .int .i64 12]) ∧ Below w.heap.size w w' := by
  have i0 : ¬ ((L : Int) < 4) := by omega
  have k0 : ¬ (65536 < (n : Int)) := by omega
  have k1 : ¬ ((L : Int) < 4 + (n : Int) + 4) := by omega
  have m0 : (0 : Int) ≤ 4 + (n : Int) := by omega
  have m1 : 4 + (n : Int) ≤ (L : Int) := by omega
  have m2 : (L : Int) ≤ (cp : Int) := by omega
  have m3 : 4 + (n : Int) ≤ (cp : Int) := by omega
  have m4 : (4 : Int) ≤ 4 + (n : Int) := by omega
  have t0 : (4 + (n : Int)).toNat = n + 4 := by omega
  have fq : ((s : Int) != (v : Int)) = true := by simp; omega
  go_enter Tryd.func11, Tryd.ntmps11
  go_wp2_with fail
  refine CL.out.mono ?_
  rintro _ _ ⟨rfl, rfl⟩
  dsimp only []
  go_wp2_with fail
  go_quiet (first | (go_at_call 19; refine Calls.quiet_of_same (CS.out _ (below_drew _ _))) | (go_at_call 15; refine Calls.quiet_of_same (CM.out _ (below_drew _ _))))
  go_wp2_with fail
  go_returns
  exact ⟨rfl, below_drew _ _⟩
set_option maxRecDepth 8000 in
set_option maxHeartbeats 800000 in
theorem open_yes (ad : Addr) (cp L n : Nat) (w : World) (h4 : 4 ≤ L) (hl : L ≤ 1048600) (hLc : L ≤ cp) (s v : Nat)
    (CL : Hid (Calls Tryd.prog 18 #[.slice (some ad) L cp] w fun e w' => e = .returned (.int .u32 (n : Int)) ∧ w' = w)) (h5 : n ≤ 65536) (h6 : n + 8 ≤ L)
    (CS : Hid (∀ w', Below w.heap.size w w' → Calls Tryd.prog 19 #[.slice (some ⟨ad.block, ad.off + (n + 4), none⟩) (L - (n + 4)) (cp - (n + 4))] w' fun e w'' => e = .returned (.int .u32 (s : Int)) ∧ w'' = w'))
    (CM : Hid (∀ w', Below w.heap.size w w' → Calls Tryd.prog 15 #[.slice (some ad) (n + 4) cp] w' fun e w'' => e = .returned (.int .u32 (v : Int)) ∧ w'' = w'))
    (l : List Nat) (hn : l.length = n)
    (CC : Hid (∀ w', Below w.heap.size w w' → Calls Tryd.prog 20 #[.slice (some ⟨ad.block, ad.off + 4, none⟩) n (cp - 4)] w' fun e w'' => ∃ A' c', e = .returned (.slice A' n c') ∧ Own w'' w'.heap.size (.slice A' n c') l ∧ Below w'.heap.size w' w'')) (hq : s = v) :
    Calls Tryd.prog 11 #[.slice (some ad) L cp] w fun e w' => ∃ A' c', e = .returned (.tuple #[.slice A' n c', .int .i64 (4 + (n : Int) + 4), .int .i64 0]) ∧ Own w' w.heap.size (.slice A' n c') l ∧ Below w.heap.size w w' := by
  have i0 : ¬ ((L : Int) < 4) := by omega
  have k0 : ¬ (65536 < (n : Int)) := by omega
  have k1 : ¬ ((L : Int) < 4 + (n : Int) + 4) := by omega
  have m0 : (0 : Int) ≤ 4 + (n : Int) := by omega
  have m1 : 4 + (n : Int) ≤ (L : Int) := by omega
  have m2 : (L : Int) ≤ (cp : Int) := by omega
  have m3 : 4 + (n : Int) ≤ (cp : Int) := by omega
  have m4 : (4 : Int) ≤ 4 + (n : Int) := by omega
  have t0 : (4 + (n : Int)).toNat = n + 4 := by omega
  have fq : ((s : Int) != (v : Int)) = false := by simp; omega
  go_enter Tryd.func11, Tryd.ntmps11
  go_wp2_with fail
  refine CL.out.mono ?_
  rintro _ _ ⟨rfl, rfl⟩
  dsimp only []
  go_wp2_with fail
  go_quiet (first | (go_at_call 19; refine Calls.quiet_of_same (CS.out _ (below_drew _ _))) | (go_at_call 15; refine Calls.quiet_of_same (CM.out _ (below_drew _ _))))
  go_wp2_with fail
  refine (CC.out _ (below_drew _ _)).mono ?_
  rintro _ w9 ⟨A', c', rfl, ho, hb⟩
  dsimp only []
  go_wp2_with fail
  go_returns
  exact ⟨A', c', rfl, ho, (below_drew _ _).trans hb⟩

/-- A slice that reads as bytes, in a block below the base or in one that holds bytes. -/
structure SrI (w : World) (base : Nat) (A : Option Addr) (c : Nat) (l : List Nat) : Prop where
  le : l.length ≤ c
  cap : c ≤ 9223372036854775807
  nil : A = none → c = 0
  at_ : ∀ ad, A = some ad → (0 < l.length → (ad.block < base ∨ ∃ cs, w.heap[ad.block]? = some (.cells cs 5 (0, 0)))) ∧ ∀ (j n : Nat), l[j]? = some n → w.cell? (ad.add j) = some (.int .u8 (n : Int))
theorem SrI.none_ (w : World) (base : Nat) : SrI w base none 0 [] := ⟨Nat.le_refl _, by omega, fun _ => rfl, fun _ h => by cases h⟩
theorem SrI.src {w : World} {base : Nat} {A : Option Addr} {c : Nat} {l : List Nat} (h : SrI w base A c l) (hb : base ≤ w.heap.size) : Src w w.heap.size A c l := by
  refine ⟨h.le, h.nil, fun ad e => ⟨fun h0 => ?_, (h.at_ ad e).2⟩⟩
  rcases (h.at_ ad e).1 h0 with h1 | ⟨cs, h1⟩
  · omega
  · exact (Array.getElem?_eq_some_iff.1 h1).1
theorem SrI.of_src {w : World} {K base : Nat} {A : Option Addr} {c : Nat} {l : List Nat} (h : Src w K A c l) (hK : K ≤ base) (hc : c ≤ 9223372036854775807) : SrI w base A c l :=
  ⟨h.le, hc, h.nil, fun ad e => ⟨fun h0 => .inl (Nat.lt_of_lt_of_le ((h.at_ ad e).1 h0) hK), (h.at_ ad e).2⟩⟩
theorem SrI.of_own {w : World} {b0 base : Nat} {A : Option Addr} {n c : Nat} {l : List Nat} (h : Own w b0 (.slice A n c) l) : SrI w base A c l := by
  have hs := h.src
  refine ⟨hs.le, h.cap, hs.nil, fun ad e => ⟨fun h0 => .inr ?_, (hs.at_ ad e).2⟩⟩
  obtain ⟨_, hx | ⟨g, cap, cur, hv, hbs, hg, _⟩⟩ := h
  · have := hx.2
    omega
  · injection hv with h1 h2 h3
    rw [h1] at e
    injection e with e
    rw [← e]
    exact ⟨cur, hg⟩
theorem SrI.keep {w w' : World} {base : Nat} {A : Option Addr} {c : Nat} {l : List Nat} (h : SrI w base A c l) (hk : ∀ b, (b < base ∨ ∃ cs, w.heap[b]? = some (.cells cs 5 (0, 0))) → w'.heap[b]? = w.heap[b]?) : SrI w' base A c l := by
  refine ⟨h.le, h.cap, h.nil, fun ad e => ⟨fun h0 => ?_, fun j n hj => ?_⟩⟩
  · rcases (h.at_ ad e).1 h0 with h1 | ⟨cs, h1⟩
    · exact .inl h1
    · exact .inr ⟨cs, (hk _ (.inr ⟨cs, h1⟩)).trans h1⟩
  · have h0 : 0 < l.length := Nat.lt_of_le_of_lt (Nat.zero_le _) (List.getElem?_eq_some_iff.1 hj).1
    have hq : w'.heap[(ad.add j).block]? = w.heap[(ad.add j).block]? := by
      rw [add_block]
      exact hk _ ((h.at_ ad e).1 h0)
    rw [World.cell?_of_block hq]
    exact (h.at_ ad e).2 j n hj
theorem SrI.below {w w' : World} {base K : Nat} {A : Option Addr} {c : Nat} {l : List Nat} (h : SrI w base A c l) (hb : Below K w w') (hK : w.heap.size ≤ K) (hbase : base ≤ w.heap.size) : SrI w' base A c l :=
  h.keep fun b h1 => hb.block b (by
    rcases h1 with h1 | ⟨cs, h1⟩
    · omega
    · exact Nat.lt_of_lt_of_le (Array.getElem?_eq_some_iff.1 h1).1 hK)
theorem open_any (A : Option Addr) (cp L : Nat) (l : List Nat) (w : World) (hs : Src w w.heap.size A cp l) (hL : l.length = L) (hl : L ≤ 1048600) (hby : ∀ x ∈ l, x < 256) (tab : Tab w) :
    Calls Tryd.prog 11 #[.slice A L cp] w fun e w' => ∃ A' c', e = .returned (.tuple #[.slice A' (openP l).1.length c', .int .i64 ((openP l).2.1 : Int), .int .i64 ((openP l).2.2 : Int)]) ∧ (∀ base, SrI w' base A' c' (openP l).1) ∧ Below w.heap.size w w' := by
  have hle := hs.le
  rw [hL] at hle
  unfold openP
  rw [hL]
  by_cases h4 : L < 4
  · rw [if_pos h4]
    exact (open_short A cp L w h4).mono fun e w' ⟨h1, h2⟩ => ⟨none, 0, h1, fun _ => SrI.none_ _ _, by rw [h2]; exact Below.refl _ _⟩
  · rw [if_neg h4]
    rcases A with _ | ad
    · have := hs.nil rfl
      omega
    · have CL := Lib.hid (readLength_any ad cp L l w _ hs hL (by omega) hl hby)
      have hn0 := beF_lenF l (by omega)
      obtain ⟨n, hn⟩ : ∃ n, n = lenF l := ⟨_, rfl⟩
      rw [← hn] at CL ⊢
      by_cases h5 : 65536 < n
      · rw [if_pos h5]
        exact (open_big ad cp L n w (by omega) hl CL h5).mono fun e w' ⟨h1, h2⟩ => ⟨none, 0, h1, fun _ => SrI.none_ _ _, by rw [h2]; exact Below.refl _ _⟩
      · rw [if_neg h5]
        by_cases h6 : L < n + 8
        · rw [if_pos h6]
          exact (open_end ad cp L n w (by omega) hl CL (by omega) h6).mono fun e w' ⟨h1, h2⟩ => ⟨none, 0, h1, fun _ => SrI.none_ _ _, by rw [h2]; exact Below.refl _ _⟩
        · rw [if_neg h6]
          have ak : ∀ k, 0 < k → ad.add k = ⟨ad.block, ad.off + k, none⟩ := fun k hk => by
            unfold Addr.add
            rw [if_neg (by omega)]
          have CS : Hid (∀ w', Below w.heap.size w w' → Calls Tryd.prog 19 #[.slice (some ⟨ad.block, ad.off + (n + 4), none⟩) (L - (n + 4)) (cp - (n + 4))] w' fun e w'' => e = .returned (.int .u32 ((sumF l n : Nat) : Int)) ∧ w'' = w') := Lib.hid fun w' hb => by
            have hd := (hs.below hb).drop (n + 4) (by omega)
            rw [ak _ (by omega)] at hd
            have := readSum_any _ (cp - (n + 4)) (L - (n + 4)) (l.drop (n + 4)) w' _ hd (by rw [List.length_drop, hL]) (by omega) (by omega) (fun x hx => hby x (List.mem_of_mem_drop hx))
            rwa [leF_sumF l n (by omega)] at this
          have CM : Hid (∀ w', Below w.heap.size w w' → Calls Tryd.prog 15 #[.slice (some ad) (n + 4) cp] w' fun e w'' => e = .returned (.int .u32 ((sumN (l.take (n + 4)) : Nat) : Int)) ∧ w'' = w') := Lib.hid fun w' hb =>
            sum_any (some ad) cp (n + 4) (l.take (n + 4)) w' _ ((hs.below hb).take (n + 4)) (by rw [List.length_take]; omega) (by omega) (fun x hx => hby x (List.mem_of_mem_take hx)) (tab.below hb (Nat.le_refl _))
          by_cases h7 : sumF l n = sumN (l.take (n + 4))
          · rw [if_neg (by simpa using h7)]
            have hln : ((l.drop 4).take n).length = n := by rw [List.length_take, List.length_drop]; omega
            have CC : Hid (∀ w', Below w.heap.size w w' → Calls Tryd.prog 20 #[.slice (some ⟨ad.block, ad.off + 4, none⟩) n (cp - 4)] w' fun e w'' => ∃ A' c', e = .returned (.slice A' n c') ∧ Own w'' w'.heap.size (.slice A' n c') ((l.drop 4).take n) ∧ Below w'.heap.size w' w'') := Lib.hid fun w' hb => by
              have hd := (((hs.below hb).drop 4 (by omega)).take n).more hb.size
              rw [ak _ (by omega)] at hd
              exact clone_any _ (cp - 4) _ n hln w' hd (by omega)
            refine (open_yes ad cp L n w (by omega) hl hle _ _ CL (by omega) (by omega) CS CM _ hln CC h7).mono fun e w' ⟨A', c', h1, h2, h3⟩ => ⟨A', c', ?_, fun _ => SrI.of_own h2, h3⟩
            rw [h1]
            simp only [hln]
            have : (4 + (n : Int) + 4) = ((n + 8 : Nat) : Int) := by omega
            rw [this]
            rfl
          · rw [if_pos (by simpa using h7)]
            exact (open_no ad cp L n w (by omega) hl hle _ _ CL (by omega) (by omega) CS CM h7).mono fun e w' ⟨h1, h2⟩ => ⟨none, 0, h1, fun _ => SrI.none_ _ _, h2⟩
end Go.Proofs.YtklpjdcmppohkaaDoor
