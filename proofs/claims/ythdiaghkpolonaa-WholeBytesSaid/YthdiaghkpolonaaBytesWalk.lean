/-
  The walk of the law WholeBytes.
-/
import Derived.Test.YthdiaghkpolonaaWB
import Derived.Deep.RegionLaw
import Derived.Deep.RegionHeldLaw
import Derived.BigRegion
import Derived.Deep.DrawnRows
namespace Go.Proofs.Ythdiaghkpolonaa
open Go.RowKit Go.Lib
attribute [local go_sem ↓] Go.wp_at_zero Go.wp_at_succ

/-- An operation taken first, the frame written out. -/
theorem takeL {P : Program} {md : Region.Mode} {ops : Array Oper} {Q : Exit → Act → World → Prop} {S : World → Prop} (i d : Nat) {oi : Oper} {v : Value} {fuel : Nat} {listed : Array Bool} {l : List Value} {df : List Deferred} {w : World} (hi : ops[i]? = some oi) (hd : oi.dst = some d)
    (hs : Region.noSelect ops = true) (hf : Region.free md ops listed i = true) (hr : (Region.ready md ops listed).contains i = true)
    (hQ : ∀ c a w, Q (.panic c) (a.put oi.dst v) w → Q (.panic c) a w) (hy : YieldsIf P ops S oi v ⟨l.toArray, df⟩) (hS : S w)
    (h : wpAnyH P md ops Q S fuel (listed.setIfInBounds i true) ⟨(l.set d v).toArray, df⟩ w) : wpAnyH P md ops Q S (fuel + 1) listed ⟨l.toArray, df⟩ w := by
  refine wpAnyH_take hi hs hf hr hQ hy hS ?_
  rw [hd]
  unfold Act.put
  simpa using h

theorem self_true (p : ByteArray) : (p.toList == p.toList) = true := by simp
theorem num_true (x : Int) : (x == x) = true := by simp
theorem strB_toList (l : List Nat) : (strB l).toList = l.map UInt8.ofNat := by rw [ByteArray.toList_eq, strB_list]
theorem below_then {K : Nat} {W w2 w3 : World} (h : Below K W w2) (hK : K ≤ w2.heap.size) (hb : Below w2.heap.size w2 w3) : Below K W w3 := h.trans (hb.mono hK)
theorem below_drew1 {K : Nat} {W w2 w3 : World} (h : Below K W w2) (hK : K ≤ w2.heap.size) (hb : Below w2.drew.heap.size w2.drew w3) : Below K W w3 :=
  h.trans ⟨hb.os, hb.tape, hb.output, hb.size, fun k hk => hb.block k (Nat.lt_of_lt_of_le hk hK)⟩

set_option maxRecDepth 8000 in
set_option maxHeartbeats 1600000 in
theorem bytes_len (n : Int) (A : Option Addr) (cp L : Nat) (hL : L ≤ 100) (h1 : ((L : Int) == 1) = false) (w : World) (R : List Nat) (q1 q2 y1 y2 : Int) (e2 : (q1 == y1) = true) (e3 : (q2 == y2) = true)
    (R1 : Hid (∀ w1, Below w.heap.size w w1 → Calls Try.prog 4 #[.slice A L cp] w1 fun e w' => e = .returned (.tuple #[.int .i64 q1, .int .i64 q2]) ∧ Below w1.heap.size w1 w'))
    (R2 : Hid (∀ w1, Below w.heap.size w w1 → Calls Try.prog 5 #[.slice A L cp] w1 fun e w' => e = .returned (.tuple #[.int .i64 y1, .int .i64 y2]) ∧ w1 = w'))
    (B1 : Hid (∀ w1, Below w.heap.size w w1 → Calls Try.prog 6 #[.slice A L cp] w1 fun e w' => e = .returned (.tuple #[.bool false, .int .i64 11]) ∧ w' = w1))
    (P1 : Hid (∀ w, Calls Try.prog 7 #[.int .i64 n] w fun e w' => ∃ A' c', e = .returned (.slice A' R.length c') ∧ Src w' w'.heap.size A' c' R ∧ Below w.heap.size w w'))
    (P2 : Hid (∀ w, Calls Try.prog 8 #[.int .i64 n] w fun e w' => ∃ A' c', e = .returned (.slice A' R.length c') ∧ Src w' w'.heap.size A' c' R ∧ Below w.heap.size w w'))
    (P3 : Hid (∀ w, Calls Try.prog 7 #[.int .i64 128] w fun e w' => ∃ A' c', e = .returned (.slice A' 2 c') ∧ Src w' w'.heap.size A' c' [0, 128] ∧ Below w.heap.size w w'))
    (P4 : Hid (∀ w, Calls Try.prog 9 #[.bool true] w fun e w' => ∃ A' c', e = .returned (.slice A' 1 c') ∧ Src w' w'.heap.size A' c' [255] ∧ Below w.heap.size w w'))
    (P5 : Hid (∀ w, Calls Try.prog 9 #[.bool false] w fun e w' => ∃ A' c', e = .returned (.slice A' 1 c') ∧ Src w' w'.heap.size A' c' [0] ∧ Below w.heap.size w w')) :
    Calls Try.prog 3 #[.int .i64 n, .slice A L cp] w fun e w' => e = .returned (.bool true) ∧ Below w.heap.size w w' := by
  have e1 := self_true (strB R)
  have e4 : ((strB [0, 128]).toList == [0, 128]) = true := by rw [strB_toList]; rfl
  have e5 : ((strB [255]).toList == [255]) = true := by rw [strB_toList]; rfl
  have e6 : ((strB [0]).toList == [0]) = true := by rw [strB_toList]; rfl
  go_enter Try.func3, Try.ntmps3
  go_wp2_with fail
  refine (R1.out _ (Below.refl _ _)).mono ?_
  rintro e w0 ⟨rfl, hb0⟩
  have HB0 := Lib.hid hb0
  clear hb0
  go_wp2_with fail
  refine (R2.out _ HB0.out).mono ?_
  rintro e wz ⟨rfl, hwz⟩
  subst hwz
  go_wp2_with fail
  refine (B1.out _ HB0.out).mono ?_
  rintro e wz ⟨rfl, hwz⟩
  subst hwz
  go_wp2_with fail
  refine wp_region_held_drew (S := fun _ => True) (by kernel_rfl) trivial ?_
  intro hHeld
  refine takeL 0 47 (v := ?_) rfl rfl (by kernel_rfl) (by kernel_rfl) (by kernel_rfl) (fun _ _ _ h => h) (Or.inl ⟨by rfl, ?hy0⟩) hHeld ?rest0
  case hy0 => intro W hS; (try dsimp only at hS); go_simp; try (with_reducible rfl)
  dsimp only [List.set]
  refine takeL 3 50 (v := ?_) rfl rfl (by kernel_rfl) (by kernel_rfl) (by kernel_rfl) (fun _ _ _ h => h) (Or.inl ⟨by rfl, ?hy3⟩) hHeld ?rest3
  case hy3 => intro W hS; (try dsimp only at hS); go_simp; try (with_reducible rfl)
  dsimp only [List.set]
  refine wpAnyH_ready (rs := [1]) (by kernel_rfl) (by simp) ?_
  refine AllReadyH.cons rfl (fun K hK => ?_) AllReadyH.nil
  go_simp
  go_wp2_with (go_at_call 7; (with_reducible refine (P1.out _).mono ?_); rintro e w1 ⟨A1, c1, rfl, hs1, hb1⟩; have HB1 := Lib.hid (show Below w.heap.size w w1 from by first | exact below_then HB0.out HB0.out.size hb1 | exact below_drew1 HB0.out HB0.out.size hb1); have hcv1 : (convert 22 9 (.slice A1 R.length c1)).run Try.prog w1 = .ok (.string (strB R)) w1 := hs1.conv; have HS1 := Lib.hid hs1; clear hs1 hb1)
  refine hK.out _ _ ?_ (fun hHeld => ?_)
  · exact trivial
  clear hK K
  refine wpAnyH_ready (rs := [2, 4]) (by kernel_rfl) (by simp) ?_
  refine AllReadyH.cons rfl (fun K hK => ?_) (AllReadyH.cons rfl (fun K hK => ?_) AllReadyH.nil)
  · go_simp
    refine hK.out _ _ ?_ (fun hHeld => ?_)
    · exact trivial
    clear hK K
    refine wpAnyH_ready (rs := [4]) (by kernel_rfl) (by simp) ?_
    refine AllReadyH.cons rfl (fun K hK => ?_) AllReadyH.nil
    go_simp
    go_wp2_with (go_at_call 8; (with_reducible refine (P2.out _).mono ?_); rintro e w2 ⟨A2, c2, rfl, hs2, hb2⟩; have HB2 := Lib.hid (show Below w.heap.size w w2 from by first | exact below_then HB1.out HB1.out.size hb2 | exact below_drew1 HB1.out HB1.out.size hb2); have hcv2 : (convert 22 9 (.slice A2 R.length c2)).run Try.prog w2 = .ok (.string (strB R)) w2 := hs2.conv; have hcv12 : (convert 22 9 (.slice A1 R.length c1)).run Try.prog w2 = .ok (.string (strB R)) w2 := (HS1.out.below (by first | exact hb2 | exact below_drew1 (Below.refl _ _) (Nat.le_refl _) hb2)).conv; have HS2 := Lib.hid hs2; clear hs2 hb2)
    refine hK.out _ _ ?_ (fun hHeld => ?_)
    · exact trivial
    clear hK K
    refine wpAnyH_ready (rs := [5]) (by kernel_rfl) (by simp) ?_
    refine AllReadyH.cons rfl (fun K hK => ?_) AllReadyH.nil
    go_simp
    refine hK.out _ _ ?_ (fun hHeld => ?_)
    · exact trivial
    clear hK K
    refine takeL 6 53 (v := ?_) rfl rfl (by kernel_rfl) (by kernel_rfl) (by kernel_rfl) (fun _ _ _ h => h) (Or.inl ⟨by rfl, ?hy6a⟩) hHeld ?rest6a
    case hy6a => intro W hS; (try dsimp only at hS); go_simp; try (with_reducible rfl)
    dsimp only [List.set]
    refine takeL 7 54 (v := ?_) rfl rfl (by kernel_rfl) (by kernel_rfl) (by kernel_rfl) (fun _ _ _ h => h) (Or.inl ⟨by rfl, ?hy7a⟩) hHeld ?rest7a
    case hy7a => intro W hS; (try dsimp only at hS); go_simp; try (with_reducible rfl)
    dsimp only [List.set]
    refine takeL 8 55 (v := ?_) rfl rfl (by kernel_rfl) (by kernel_rfl) (by kernel_rfl) (fun _ _ _ h => h) (Or.inl ⟨by rfl, ?hy8a⟩) hHeld ?rest8a
    case hy8a => intro W hS; (try dsimp only at hS); go_simp; try (with_reducible rfl)
    dsimp only [List.set]
    refine takeL 9 56 (v := ?_) rfl rfl (by kernel_rfl) (by kernel_rfl) (by kernel_rfl) (fun _ _ _ h => h) (Or.inl ⟨by rfl, ?hy9a⟩) hHeld ?rest9a
    case hy9a => intro W hS; (try dsimp only at hS); go_simp; try (with_reducible rfl)
    dsimp only [List.set]
    refine takeL 10 57 (v := ?_) rfl rfl (by kernel_rfl) (by kernel_rfl) (by kernel_rfl) (fun _ _ _ h => h) (Or.inl ⟨by rfl, ?hy10a⟩) hHeld ?rest10a
    case hy10a => intro W hS; (try dsimp only at hS); go_simp; try (with_reducible rfl)
    dsimp only [List.set]
    refine takeL 11 58 (v := ?_) rfl rfl (by kernel_rfl) (by kernel_rfl) (by kernel_rfl) (fun _ _ _ h => h) (Or.inl ⟨by rfl, ?hy11a⟩) hHeld ?rest11a
    case hy11a => intro W hS; (try dsimp only at hS); go_simp; try (with_reducible rfl)
    dsimp only [List.set]
    refine takeL 12 59 (v := ?_) rfl rfl (by kernel_rfl) (by kernel_rfl) (by kernel_rfl) (fun _ _ _ h => h) (Or.inl ⟨by rfl, ?hy12a⟩) hHeld ?rest12a
    case hy12a => intro W hS; (try dsimp only at hS); go_simp; try (with_reducible rfl)
    dsimp only [List.set]
    refine takeL 13 60 (v := ?_) rfl rfl (by kernel_rfl) (by kernel_rfl) (by kernel_rfl) (fun _ _ _ h => h) (Or.inl ⟨by rfl, ?hy13a⟩) hHeld ?rest13a
    case hy13a => intro W hS; (try dsimp only at hS); go_simp; try (with_reducible rfl)
    dsimp only [List.set]
    refine takeL 14 61 (v := ?_) rfl rfl (by kernel_rfl) (by kernel_rfl) (by kernel_rfl) (fun _ _ _ h => h) (Or.inl ⟨by rfl, ?hy14a⟩) hHeld ?rest14a
    case hy14a => intro W hS; (try dsimp only at hS); go_simp; try (with_reducible rfl)
    dsimp only [List.set]
    refine takeL 15 62 (v := ?_) rfl rfl (by kernel_rfl) (by kernel_rfl) (by kernel_rfl) (fun _ _ _ h => h) (Or.inl ⟨by rfl, ?hy15a⟩) hHeld ?rest15a
    case hy15a => intro W hS; (try dsimp only at hS); go_simp; try (with_reducible rfl)
    dsimp only [List.set]
    refine takeL 16 63 (v := ?_) rfl rfl (by kernel_rfl) (by kernel_rfl) (by kernel_rfl) (fun _ _ _ h => h) (Or.inl ⟨by rfl, ?hy16a⟩) hHeld ?rest16a
    case hy16a => intro W hS; (try dsimp only at hS); go_simp; try (with_reducible rfl)
    dsimp only [List.set]
    refine takeL 17 64 (v := ?_) rfl rfl (by kernel_rfl) (by kernel_rfl) (by kernel_rfl) (fun _ _ _ h => h) (Or.inl ⟨by rfl, ?hy17a⟩) hHeld ?rest17a
    case hy17a => intro W hS; (try dsimp only at hS); go_simp; try (with_reducible rfl)
    dsimp only [List.set]
    refine takeL 18 65 (v := ?_) rfl rfl (by kernel_rfl) (by kernel_rfl) (by kernel_rfl) (fun _ _ _ h => h) (Or.inl ⟨by rfl, ?hy18a⟩) hHeld ?rest18a
    case hy18a => intro W hS; (try dsimp only at hS); go_simp; try (with_reducible rfl)
    dsimp only [List.set]
    refine takeL 19 66 (v := ?_) rfl rfl (by kernel_rfl) (by kernel_rfl) (by kernel_rfl) (fun _ _ _ h => h) (Or.inl ⟨by rfl, ?hy19a⟩) hHeld ?rest19a
    case hy19a => intro W hS; (try dsimp only at hS); go_simp; try (with_reducible rfl)
    dsimp only [List.set]
    refine takeL 20 67 (v := ?_) rfl rfl (by kernel_rfl) (by kernel_rfl) (by kernel_rfl) (fun _ _ _ h => h) (Or.inl ⟨by rfl, ?hy20a⟩) hHeld ?rest20a
    case hy20a => intro W hS; (try dsimp only at hS); go_simp; try (with_reducible rfl)
    dsimp only [List.set]
    refine takeL 21 68 (v := ?_) rfl rfl (by kernel_rfl) (by kernel_rfl) (by kernel_rfl) (fun _ _ _ h => h) (Or.inl ⟨by rfl, ?hy21a⟩) hHeld ?rest21a
    case hy21a => intro W hS; (try dsimp only at hS); go_simp; try (with_reducible rfl)
    dsimp only [List.set]
    refine takeL 22 69 (v := ?_) rfl rfl (by kernel_rfl) (by kernel_rfl) (by kernel_rfl) (fun _ _ _ h => h) (Or.inl ⟨by rfl, ?hy22a⟩) hHeld ?rest22a
    case hy22a => intro W hS; (try dsimp only at hS); go_simp; try (with_reducible rfl)
    dsimp only [List.set]
    refine takeL 23 70 (v := ?_) rfl rfl (by kernel_rfl) (by kernel_rfl) (by kernel_rfl) (fun _ _ _ h => h) (Or.inl ⟨by rfl, ?hy23a⟩) hHeld ?rest23a
    case hy23a => intro W hS; (try dsimp only at hS); go_simp; try (with_reducible rfl)
    dsimp only [List.set]
    refine takeL 24 71 (v := ?_) rfl rfl (by kernel_rfl) (by kernel_rfl) (by kernel_rfl) (fun _ _ _ h => h) (Or.inl ⟨by rfl, ?hy24a⟩) hHeld ?rest24a
    case hy24a => intro W hS; (try dsimp only at hS); go_simp; try (with_reducible rfl)
    dsimp only [List.set]
    refine takeL 25 72 (v := ?_) rfl rfl (by kernel_rfl) (by kernel_rfl) (by kernel_rfl) (fun _ _ _ h => h) (Or.inl ⟨by rfl, ?hy25a⟩) hHeld ?rest25a
    case hy25a => intro W hS; (try dsimp only at hS); go_simp; try (with_reducible rfl)
    dsimp only [List.set]
    refine takeL 26 73 (v := ?_) rfl rfl (by kernel_rfl) (by kernel_rfl) (by kernel_rfl) (fun _ _ _ h => h) (Or.inl ⟨by rfl, ?hy26a⟩) hHeld ?rest26a
    case hy26a => intro W hS; (try dsimp only at hS); go_simp; try (with_reducible rfl)
    dsimp only [List.set]
    refine takeL 27 74 (v := undef) rfl rfl (by kernel_rfl) (by kernel_rfl) (by kernel_rfl) (fun _ _ _ h => h) (Or.inr ⟨by rfl, rfl⟩) hHeld ?rest27a
    dsimp only [List.set]
    refine takeL 28 75 (v := undef) rfl rfl (by kernel_rfl) (by kernel_rfl) (by kernel_rfl) (fun _ _ _ h => h) (Or.inr ⟨by rfl, rfl⟩) hHeld ?rest28a
    dsimp only [List.set]
    refine takeL 29 76 (v := undef) rfl rfl (by kernel_rfl) (by kernel_rfl) (by kernel_rfl) (fun _ _ _ h => h) (Or.inr ⟨by rfl, rfl⟩) hHeld ?rest29a
    dsimp only [List.set]
    refine takeL 30 77 (v := undef) rfl rfl (by kernel_rfl) (by kernel_rfl) (by kernel_rfl) (fun _ _ _ h => h) (Or.inr ⟨by rfl, rfl⟩) hHeld ?rest30a
    dsimp only [List.set]
    refine takeL 31 78 (v := ?_) rfl rfl (by kernel_rfl) (by kernel_rfl) (by kernel_rfl) (fun _ _ _ h => h) (Or.inl ⟨by rfl, ?hy31a⟩) hHeld ?rest31a
    case hy31a => intro W hS; (try dsimp only at hS); go_simp; try (with_reducible rfl)
    dsimp only [List.set]
    refine takeL 32 79 (v := ?_) rfl rfl (by kernel_rfl) (by kernel_rfl) (by kernel_rfl) (fun _ _ _ h => h) (Or.inl ⟨by rfl, ?hy32a⟩) hHeld ?rest32a
    case hy32a => intro W hS; (try dsimp only at hS); go_simp; try (with_reducible rfl)
    dsimp only [List.set]
    refine takeL 33 80 (v := ?_) rfl rfl (by kernel_rfl) (by kernel_rfl) (by kernel_rfl) (fun _ _ _ h => h) (Or.inl ⟨by rfl, ?hy33a⟩) hHeld ?rest33a
    case hy33a => intro W hS; (try dsimp only at hS); go_simp; try (with_reducible rfl)
    dsimp only [List.set]
    refine takeL 34 81 (v := ?_) rfl rfl (by kernel_rfl) (by kernel_rfl) (by kernel_rfl) (fun _ _ _ h => h) (Or.inl ⟨by rfl, ?hy34a⟩) hHeld ?rest34a
    case hy34a => intro W hS; (try dsimp only at hS); go_simp; try (with_reducible rfl)
    dsimp only [List.set]
    refine wpAnyH_ready (rs := [35]) (by kernel_rfl) (by simp) ?_
    refine AllReadyH.cons rfl (fun K hK => ?_) AllReadyH.nil
    go_simp
    go_wp2_with (go_at_call 7; (with_reducible refine (P3.out _).mono ?_); rintro e w3 ⟨A3, c3, rfl, hs3, hb3⟩; have HB3 := Lib.hid (show Below w.heap.size w w3 from by first | exact below_then HB2.out HB2.out.size hb3 | exact below_drew1 HB2.out HB2.out.size hb3); have hcv3 : (convert 22 9 (.slice A3 2 c3)).run Try.prog w3 = .ok (.string (strB [0, 128])) w3 := hs3.conv; have HS3 := Lib.hid hs3; clear hs3 hb3)
    refine hK.out _ _ ?_ (fun hHeld => ?_)
    · exact trivial
    clear hK K
    refine wpAnyH_ready (rs := [36]) (by kernel_rfl) (by simp) ?_
    refine AllReadyH.cons rfl (fun K hK => ?_) AllReadyH.nil
    go_simp
    refine hK.out _ _ ?_ (fun hHeld => ?_)
    · exact trivial
    clear hK K
    refine takeL 37 84 (v := ?_) rfl rfl (by kernel_rfl) (by kernel_rfl) (by kernel_rfl) (fun _ _ _ h => h) (Or.inl ⟨by rfl, ?hy37a⟩) hHeld ?rest37a
    case hy37a => intro W hS; (try dsimp only at hS); go_simp; try (with_reducible rfl)
    dsimp only [List.set]
    refine takeL 38 85 (v := ?_) rfl rfl (by kernel_rfl) (by kernel_rfl) (by kernel_rfl) (fun _ _ _ h => h) (Or.inl ⟨by rfl, ?hy38a⟩) hHeld ?rest38a
    case hy38a => intro W hS; (try dsimp only at hS); go_simp; try (with_reducible rfl)
    dsimp only [List.set]
    refine takeL 39 86 (v := ?_) rfl rfl (by kernel_rfl) (by kernel_rfl) (by kernel_rfl) (fun _ _ _ h => h) (Or.inl ⟨by rfl, ?hy39a⟩) hHeld ?rest39a
    case hy39a => intro W hS; (try dsimp only at hS); go_simp; try (with_reducible rfl)
    dsimp only [List.set]
    refine wpAnyH_ready (rs := [40]) (by kernel_rfl) (by simp) ?_
    refine AllReadyH.cons rfl (fun K hK => ?_) AllReadyH.nil
    go_simp
    go_wp2_with (go_at_call 9; (with_reducible refine (P4.out _).mono ?_); rintro e w4 ⟨A4, c4, rfl, hs4, hb4⟩; have HB4 := Lib.hid (show Below w.heap.size w w4 from by first | exact below_then HB3.out HB3.out.size hb4 | exact below_drew1 HB3.out HB3.out.size hb4); have hcv4 : (convert 22 9 (.slice A4 1 c4)).run Try.prog w4 = .ok (.string (strB [255])) w4 := hs4.conv; have HS4 := Lib.hid hs4; clear hs4 hb4)
    refine hK.out _ _ ?_ (fun hHeld => ?_)
    · exact trivial
    clear hK K
    refine wpAnyH_ready (rs := [41]) (by kernel_rfl) (by simp) ?_
    refine AllReadyH.cons rfl (fun K hK => ?_) AllReadyH.nil
    go_simp
    refine hK.out _ _ ?_ (fun hHeld => ?_)
    · exact trivial
    clear hK K
    refine takeL 42 89 (v := ?_) rfl rfl (by kernel_rfl) (by kernel_rfl) (by kernel_rfl) (fun _ _ _ h => h) (Or.inl ⟨by rfl, ?hy42a⟩) hHeld ?rest42a
    case hy42a => intro W hS; (try dsimp only at hS); go_simp; try (with_reducible rfl)
    dsimp only [List.set]
    refine takeL 43 90 (v := ?_) rfl rfl (by kernel_rfl) (by kernel_rfl) (by kernel_rfl) (fun _ _ _ h => h) (Or.inl ⟨by rfl, ?hy43a⟩) hHeld ?rest43a
    case hy43a => intro W hS; (try dsimp only at hS); go_simp; try (with_reducible rfl)
    dsimp only [List.set]
    refine takeL 44 91 (v := ?_) rfl rfl (by kernel_rfl) (by kernel_rfl) (by kernel_rfl) (fun _ _ _ h => h) (Or.inl ⟨by rfl, ?hy44a⟩) hHeld ?rest44a
    case hy44a => intro W hS; (try dsimp only at hS); go_simp; try (with_reducible rfl)
    dsimp only [List.set]
    refine wpAnyH_ready (rs := [45]) (by kernel_rfl) (by simp) ?_
    refine AllReadyH.cons rfl (fun K hK => ?_) AllReadyH.nil
    go_simp
    go_wp2_with (go_at_call 9; (with_reducible refine (P5.out _).mono ?_); rintro e w5 ⟨A5, c5, rfl, hs5, hb5⟩; have HB5 := Lib.hid (show Below w.heap.size w w5 from by first | exact below_then HB4.out HB4.out.size hb5 | exact below_drew1 HB4.out HB4.out.size hb5); have hcv5 : (convert 22 9 (.slice A5 1 c5)).run Try.prog w5 = .ok (.string (strB [0])) w5 := hs5.conv; have HS5 := Lib.hid hs5; clear hs5 hb5)
    refine hK.out _ _ ?_ (fun hHeld => ?_)
    · exact trivial
    clear hK K
    refine wpAnyH_ready (rs := [46]) (by kernel_rfl) (by simp) ?_
    refine AllReadyH.cons rfl (fun K hK => ?_) AllReadyH.nil
    go_simp
    refine hK.out _ _ ?_ (fun hHeld => ?_)
    · exact trivial
    clear hK K
    refine takeL 47 94 (v := ?_) rfl rfl (by kernel_rfl) (by kernel_rfl) (by kernel_rfl) (fun _ _ _ h => h) (Or.inl ⟨by rfl, ?hy47a⟩) hHeld ?rest47a
    case hy47a => intro W hS; (try dsimp only at hS); go_simp; try (with_reducible rfl)
    dsimp only [List.set]
    refine takeL 48 95 (v := ?_) rfl rfl (by kernel_rfl) (by kernel_rfl) (by kernel_rfl) (fun _ _ _ h => h) (Or.inl ⟨by rfl, ?hy48a⟩) hHeld ?rest48a
    case hy48a => intro W hS; (try dsimp only at hS); go_simp; try (with_reducible rfl)
    dsimp only [List.set]
    refine takeL 49 4 (v := ?_) rfl rfl (by kernel_rfl) (by kernel_rfl) (by kernel_rfl) (fun _ _ _ h => h) (Or.inl ⟨by rfl, ?hy49a⟩) hHeld ?rest49a
    case hy49a => intro W hS; (try dsimp only at hS); go_simp; try (with_reducible rfl)
    dsimp only [List.set]
    refine wpAnyH_done (by kernel_rfl) ?_ _
    go_wp2_with fail
    go_ret
    exact ⟨rfl, HB5.out⟩
  · go_simp
    go_wp2_with (go_at_call 8; (with_reducible refine (P2.out _).mono ?_); rintro e w2 ⟨A2, c2, rfl, hs2, hb2⟩; have HB2 := Lib.hid (show Below w.heap.size w w2 from by first | exact below_then HB1.out HB1.out.size hb2 | exact below_drew1 HB1.out HB1.out.size hb2); have hcv2 : (convert 22 9 (.slice A2 R.length c2)).run Try.prog w2 = .ok (.string (strB R)) w2 := hs2.conv; have hcv12 : (convert 22 9 (.slice A1 R.length c1)).run Try.prog w2 = .ok (.string (strB R)) w2 := (HS1.out.below (by first | exact hb2 | exact below_drew1 (Below.refl _ _) (Nat.le_refl _) hb2)).conv; have HS2 := Lib.hid hs2; clear hs2 hb2)
    refine hK.out _ _ ?_ (fun hHeld => ?_)
    · exact trivial
    clear hK K
    refine wpAnyH_ready (rs := [2, 5]) (by kernel_rfl) (by simp) ?_
    refine AllReadyH.cons rfl (fun K hK => ?_) (AllReadyH.cons rfl (fun K hK => ?_) AllReadyH.nil)
    · go_simp
      refine hK.out _ _ ?_ (fun hHeld => ?_)
      · exact trivial
      clear hK K
      refine wpAnyH_ready (rs := [5]) (by kernel_rfl) (by simp) ?_
      refine AllReadyH.cons rfl (fun K hK => ?_) AllReadyH.nil
      go_simp
      refine hK.out _ _ ?_ (fun hHeld => ?_)
      · exact trivial
      clear hK K
      refine takeL 6 53 (v := ?_) rfl rfl (by kernel_rfl) (by kernel_rfl) (by kernel_rfl) (fun _ _ _ h => h) (Or.inl ⟨by rfl, ?hy6b⟩) hHeld ?rest6b
      case hy6b => intro W hS; (try dsimp only at hS); go_simp; try (with_reducible rfl)
      dsimp only [List.set]
      refine takeL 7 54 (v := ?_) rfl rfl (by kernel_rfl) (by kernel_rfl) (by kernel_rfl) (fun _ _ _ h => h) (Or.inl ⟨by rfl, ?hy7b⟩) hHeld ?rest7b
      case hy7b => intro W hS; (try dsimp only at hS); go_simp; try (with_reducible rfl)
      dsimp only [List.set]
      refine takeL 8 55 (v := ?_) rfl rfl (by kernel_rfl) (by kernel_rfl) (by kernel_rfl) (fun _ _ _ h => h) (Or.inl ⟨by rfl, ?hy8b⟩) hHeld ?rest8b
      case hy8b => intro W hS; (try dsimp only at hS); go_simp; try (with_reducible rfl)
      dsimp only [List.set]
      refine takeL 9 56 (v := ?_) rfl rfl (by kernel_rfl) (by kernel_rfl) (by kernel_rfl) (fun _ _ _ h => h) (Or.inl ⟨by rfl, ?hy9b⟩) hHeld ?rest9b
      case hy9b => intro W hS; (try dsimp only at hS); go_simp; try (with_reducible rfl)
      dsimp only [List.set]
      refine takeL 10 57 (v := ?_) rfl rfl (by kernel_rfl) (by kernel_rfl) (by kernel_rfl) (fun _ _ _ h => h) (Or.inl ⟨by rfl, ?hy10b⟩) hHeld ?rest10b
      case hy10b => intro W hS; (try dsimp only at hS); go_simp; try (with_reducible rfl)
      dsimp only [List.set]
      refine takeL 11 58 (v := ?_) rfl rfl (by kernel_rfl) (by kernel_rfl) (by kernel_rfl) (fun _ _ _ h => h) (Or.inl ⟨by rfl, ?hy11b⟩) hHeld ?rest11b
      case hy11b => intro W hS; (try dsimp only at hS); go_simp; try (with_reducible rfl)
      dsimp only [List.set]
      refine takeL 12 59 (v := ?_) rfl rfl (by kernel_rfl) (by kernel_rfl) (by kernel_rfl) (fun _ _ _ h => h) (Or.inl ⟨by rfl, ?hy12b⟩) hHeld ?rest12b
      case hy12b => intro W hS; (try dsimp only at hS); go_simp; try (with_reducible rfl)
      dsimp only [List.set]
      refine takeL 13 60 (v := ?_) rfl rfl (by kernel_rfl) (by kernel_rfl) (by kernel_rfl) (fun _ _ _ h => h) (Or.inl ⟨by rfl, ?hy13b⟩) hHeld ?rest13b
      case hy13b => intro W hS; (try dsimp only at hS); go_simp; try (with_reducible rfl)
      dsimp only [List.set]
      refine takeL 14 61 (v := ?_) rfl rfl (by kernel_rfl) (by kernel_rfl) (by kernel_rfl) (fun _ _ _ h => h) (Or.inl ⟨by rfl, ?hy14b⟩) hHeld ?rest14b
      case hy14b => intro W hS; (try dsimp only at hS); go_simp; try (with_reducible rfl)
      dsimp only [List.set]
      refine takeL 15 62 (v := ?_) rfl rfl (by kernel_rfl) (by kernel_rfl) (by kernel_rfl) (fun _ _ _ h => h) (Or.inl ⟨by rfl, ?hy15b⟩) hHeld ?rest15b
      case hy15b => intro W hS; (try dsimp only at hS); go_simp; try (with_reducible rfl)
      dsimp only [List.set]
      refine takeL 16 63 (v := ?_) rfl rfl (by kernel_rfl) (by kernel_rfl) (by kernel_rfl) (fun _ _ _ h => h) (Or.inl ⟨by rfl, ?hy16b⟩) hHeld ?rest16b
      case hy16b => intro W hS; (try dsimp only at hS); go_simp; try (with_reducible rfl)
      dsimp only [List.set]
      refine takeL 17 64 (v := ?_) rfl rfl (by kernel_rfl) (by kernel_rfl) (by kernel_rfl) (fun _ _ _ h => h) (Or.inl ⟨by rfl, ?hy17b⟩) hHeld ?rest17b
      case hy17b => intro W hS; (try dsimp only at hS); go_simp; try (with_reducible rfl)
      dsimp only [List.set]
      refine takeL 18 65 (v := ?_) rfl rfl (by kernel_rfl) (by kernel_rfl) (by kernel_rfl) (fun _ _ _ h => h) (Or.inl ⟨by rfl, ?hy18b⟩) hHeld ?rest18b
      case hy18b => intro W hS; (try dsimp only at hS); go_simp; try (with_reducible rfl)
      dsimp only [List.set]
      refine takeL 19 66 (v := ?_) rfl rfl (by kernel_rfl) (by kernel_rfl) (by kernel_rfl) (fun _ _ _ h => h) (Or.inl ⟨by rfl, ?hy19b⟩) hHeld ?rest19b
      case hy19b => intro W hS; (try dsimp only at hS); go_simp; try (with_reducible rfl)
      dsimp only [List.set]
      refine takeL 20 67 (v := ?_) rfl rfl (by kernel_rfl) (by kernel_rfl) (by kernel_rfl) (fun _ _ _ h => h) (Or.inl ⟨by rfl, ?hy20b⟩) hHeld ?rest20b
      case hy20b => intro W hS; (try dsimp only at hS); go_simp; try (with_reducible rfl)
      dsimp only [List.set]
      refine takeL 21 68 (v := ?_) rfl rfl (by kernel_rfl) (by kernel_rfl) (by kernel_rfl) (fun _ _ _ h => h) (Or.inl ⟨by rfl, ?hy21b⟩) hHeld ?rest21b
      case hy21b => intro W hS; (try dsimp only at hS); go_simp; try (with_reducible rfl)
      dsimp only [List.set]
      refine takeL 22 69 (v := ?_) rfl rfl (by kernel_rfl) (by kernel_rfl) (by kernel_rfl) (fun _ _ _ h => h) (Or.inl ⟨by rfl, ?hy22b⟩) hHeld ?rest22b
      case hy22b => intro W hS; (try dsimp only at hS); go_simp; try (with_reducible rfl)
      dsimp only [List.set]
      refine takeL 23 70 (v := ?_) rfl rfl (by kernel_rfl) (by kernel_rfl) (by kernel_rfl) (fun _ _ _ h => h) (Or.inl ⟨by rfl, ?hy23b⟩) hHeld ?rest23b
      case hy23b => intro W hS; (try dsimp only at hS); go_simp; try (with_reducible rfl)
      dsimp only [List.set]
      refine takeL 24 71 (v := ?_) rfl rfl (by kernel_rfl) (by kernel_rfl) (by kernel_rfl) (fun _ _ _ h => h) (Or.inl ⟨by rfl, ?hy24b⟩) hHeld ?rest24b
      case hy24b => intro W hS; (try dsimp only at hS); go_simp; try (with_reducible rfl)
      dsimp only [List.set]
      refine takeL 25 72 (v := ?_) rfl rfl (by kernel_rfl) (by kernel_rfl) (by kernel_rfl) (fun _ _ _ h => h) (Or.inl ⟨by rfl, ?hy25b⟩) hHeld ?rest25b
      case hy25b => intro W hS; (try dsimp only at hS); go_simp; try (with_reducible rfl)
      dsimp only [List.set]
      refine takeL 26 73 (v := ?_) rfl rfl (by kernel_rfl) (by kernel_rfl) (by kernel_rfl) (fun _ _ _ h => h) (Or.inl ⟨by rfl, ?hy26b⟩) hHeld ?rest26b
      case hy26b => intro W hS; (try dsimp only at hS); go_simp; try (with_reducible rfl)
      dsimp only [List.set]
      refine takeL 27 74 (v := undef) rfl rfl (by kernel_rfl) (by kernel_rfl) (by kernel_rfl) (fun _ _ _ h => h) (Or.inr ⟨by rfl, rfl⟩) hHeld ?rest27b
      dsimp only [List.set]
      refine takeL 28 75 (v := undef) rfl rfl (by kernel_rfl) (by kernel_rfl) (by kernel_rfl) (fun _ _ _ h => h) (Or.inr ⟨by rfl, rfl⟩) hHeld ?rest28b
      dsimp only [List.set]
      refine takeL 29 76 (v := undef) rfl rfl (by kernel_rfl) (by kernel_rfl) (by kernel_rfl) (fun _ _ _ h => h) (Or.inr ⟨by rfl, rfl⟩) hHeld ?rest29b
      dsimp only [List.set]
      refine takeL 30 77 (v := undef) rfl rfl (by kernel_rfl) (by kernel_rfl) (by kernel_rfl) (fun _ _ _ h => h) (Or.inr ⟨by rfl, rfl⟩) hHeld ?rest30b
      dsimp only [List.set]
      refine takeL 31 78 (v := ?_) rfl rfl (by kernel_rfl) (by kernel_rfl) (by kernel_rfl) (fun _ _ _ h => h) (Or.inl ⟨by rfl, ?hy31b⟩) hHeld ?rest31b
      case hy31b => intro W hS; (try dsimp only at hS); go_simp; try (with_reducible rfl)
      dsimp only [List.set]
      refine takeL 32 79 (v := ?_) rfl rfl (by kernel_rfl) (by kernel_rfl) (by kernel_rfl) (fun _ _ _ h => h) (Or.inl ⟨by rfl, ?hy32b⟩) hHeld ?rest32b
      case hy32b => intro W hS; (try dsimp only at hS); go_simp; try (with_reducible rfl)
      dsimp only [List.set]
      refine takeL 33 80 (v := ?_) rfl rfl (by kernel_rfl) (by kernel_rfl) (by kernel_rfl) (fun _ _ _ h => h) (Or.inl ⟨by rfl, ?hy33b⟩) hHeld ?rest33b
      case hy33b => intro W hS; (try dsimp only at hS); go_simp; try (with_reducible rfl)
      dsimp only [List.set]
      refine takeL 34 81 (v := ?_) rfl rfl (by kernel_rfl) (by kernel_rfl) (by kernel_rfl) (fun _ _ _ h => h) (Or.inl ⟨by rfl, ?hy34b⟩) hHeld ?rest34b
      case hy34b => intro W hS; (try dsimp only at hS); go_simp; try (with_reducible rfl)
      dsimp only [List.set]
      refine wpAnyH_ready (rs := [35]) (by kernel_rfl) (by simp) ?_
      refine AllReadyH.cons rfl (fun K hK => ?_) AllReadyH.nil
      go_simp
      go_wp2_with (go_at_call 7; (with_reducible refine (P3.out _).mono ?_); rintro e w3 ⟨A3, c3, rfl, hs3, hb3⟩; have HB3 := Lib.hid (show Below w.heap.size w w3 from by first | exact below_then HB2.out HB2.out.size hb3 | exact below_drew1 HB2.out HB2.out.size hb3); have hcv3 : (convert 22 9 (.slice A3 2 c3)).run Try.prog w3 = .ok (.string (strB [0, 128])) w3 := hs3.conv; have HS3 := Lib.hid hs3; clear hs3 hb3)
      refine hK.out _ _ ?_ (fun hHeld => ?_)
      · exact trivial
      clear hK K
      refine wpAnyH_ready (rs := [36]) (by kernel_rfl) (by simp) ?_
      refine AllReadyH.cons rfl (fun K hK => ?_) AllReadyH.nil
      go_simp
      refine hK.out _ _ ?_ (fun hHeld => ?_)
      · exact trivial
      clear hK K
      refine takeL 37 84 (v := ?_) rfl rfl (by kernel_rfl) (by kernel_rfl) (by kernel_rfl) (fun _ _ _ h => h) (Or.inl ⟨by rfl, ?hy37b⟩) hHeld ?rest37b
      case hy37b => intro W hS; (try dsimp only at hS); go_simp; try (with_reducible rfl)
      dsimp only [List.set]
      refine takeL 38 85 (v := ?_) rfl rfl (by kernel_rfl) (by kernel_rfl) (by kernel_rfl) (fun _ _ _ h => h) (Or.inl ⟨by rfl, ?hy38b⟩) hHeld ?rest38b
      case hy38b => intro W hS; (try dsimp only at hS); go_simp; try (with_reducible rfl)
      dsimp only [List.set]
      refine takeL 39 86 (v := ?_) rfl rfl (by kernel_rfl) (by kernel_rfl) (by kernel_rfl) (fun _ _ _ h => h) (Or.inl ⟨by rfl, ?hy39b⟩) hHeld ?rest39b
      case hy39b => intro W hS; (try dsimp only at hS); go_simp; try (with_reducible rfl)
      dsimp only [List.set]
      refine wpAnyH_ready (rs := [40]) (by kernel_rfl) (by simp) ?_
      refine AllReadyH.cons rfl (fun K hK => ?_) AllReadyH.nil
      go_simp
      go_wp2_with (go_at_call 9; (with_reducible refine (P4.out _).mono ?_); rintro e w4 ⟨A4, c4, rfl, hs4, hb4⟩; have HB4 := Lib.hid (show Below w.heap.size w w4 from by first | exact below_then HB3.out HB3.out.size hb4 | exact below_drew1 HB3.out HB3.out.size hb4); have hcv4 : (convert 22 9 (.slice A4 1 c4)).run Try.prog w4 = .ok (.string (strB [255])) w4 := hs4.conv; have HS4 := Lib.hid hs4; clear hs4 hb4)
      refine hK.out _ _ ?_ (fun hHeld => ?_)
      · exact trivial
      clear hK K
      refine wpAnyH_ready (rs := [41]) (by kernel_rfl) (by simp) ?_
      refine AllReadyH.cons rfl (fun K hK => ?_) AllReadyH.nil
      go_simp
      refine hK.out _ _ ?_ (fun hHeld => ?_)
      · exact trivial
      clear hK K
      refine takeL 42 89 (v := ?_) rfl rfl (by kernel_rfl) (by kernel_rfl) (by kernel_rfl) (fun _ _ _ h => h) (Or.inl ⟨by rfl, ?hy42b⟩) hHeld ?rest42b
      case hy42b => intro W hS; (try dsimp only at hS); go_simp; try (with_reducible rfl)
      dsimp only [List.set]
      refine takeL 43 90 (v := ?_) rfl rfl (by kernel_rfl) (by kernel_rfl) (by kernel_rfl) (fun _ _ _ h => h) (Or.inl ⟨by rfl, ?hy43b⟩) hHeld ?rest43b
      case hy43b => intro W hS; (try dsimp only at hS); go_simp; try (with_reducible rfl)
      dsimp only [List.set]
      refine takeL 44 91 (v := ?_) rfl rfl (by kernel_rfl) (by kernel_rfl) (by kernel_rfl) (fun _ _ _ h => h) (Or.inl ⟨by rfl, ?hy44b⟩) hHeld ?rest44b
      case hy44b => intro W hS; (try dsimp only at hS); go_simp; try (with_reducible rfl)
      dsimp only [List.set]
      refine wpAnyH_ready (rs := [45]) (by kernel_rfl) (by simp) ?_
      refine AllReadyH.cons rfl (fun K hK => ?_) AllReadyH.nil
      go_simp
      go_wp2_with (go_at_call 9; (with_reducible refine (P5.out _).mono ?_); rintro e w5 ⟨A5, c5, rfl, hs5, hb5⟩; have HB5 := Lib.hid (show Below w.heap.size w w5 from by first | exact below_then HB4.out HB4.out.size hb5 | exact below_drew1 HB4.out HB4.out.size hb5); have hcv5 : (convert 22 9 (.slice A5 1 c5)).run Try.prog w5 = .ok (.string (strB [0])) w5 := hs5.conv; have HS5 := Lib.hid hs5; clear hs5 hb5)
      refine hK.out _ _ ?_ (fun hHeld => ?_)
      · exact trivial
      clear hK K
      refine wpAnyH_ready (rs := [46]) (by kernel_rfl) (by simp) ?_
      refine AllReadyH.cons rfl (fun K hK => ?_) AllReadyH.nil
      go_simp
      refine hK.out _ _ ?_ (fun hHeld => ?_)
      · exact trivial
      clear hK K
      refine takeL 47 94 (v := ?_) rfl rfl (by kernel_rfl) (by kernel_rfl) (by kernel_rfl) (fun _ _ _ h => h) (Or.inl ⟨by rfl, ?hy47b⟩) hHeld ?rest47b
      case hy47b => intro W hS; (try dsimp only at hS); go_simp; try (with_reducible rfl)
      dsimp only [List.set]
      refine takeL 48 95 (v := ?_) rfl rfl (by kernel_rfl) (by kernel_rfl) (by kernel_rfl) (fun _ _ _ h => h) (Or.inl ⟨by rfl, ?hy48b⟩) hHeld ?rest48b
      case hy48b => intro W hS; (try dsimp only at hS); go_simp; try (with_reducible rfl)
      dsimp only [List.set]
      refine takeL 49 4 (v := ?_) rfl rfl (by kernel_rfl) (by kernel_rfl) (by kernel_rfl) (fun _ _ _ h => h) (Or.inl ⟨by rfl, ?hy49b⟩) hHeld ?rest49b
      case hy49b => intro W hS; (try dsimp only at hS); go_simp; try (with_reducible rfl)
      dsimp only [List.set]
      refine wpAnyH_done (by kernel_rfl) ?_ _
      go_wp2_with fail
      go_ret
      exact ⟨rfl, HB5.out⟩
    · go_simp
      refine hK.out _ _ ?_ (fun hHeld => ?_)
      · exact trivial
      clear hK K
      refine wpAnyH_ready (rs := [2]) (by kernel_rfl) (by simp) ?_
      refine AllReadyH.cons rfl (fun K hK => ?_) AllReadyH.nil
      go_simp
      refine hK.out _ _ ?_ (fun hHeld => ?_)
      · exact trivial
      clear hK K
      refine takeL 6 53 (v := ?_) rfl rfl (by kernel_rfl) (by kernel_rfl) (by kernel_rfl) (fun _ _ _ h => h) (Or.inl ⟨by rfl, ?hy6c⟩) hHeld ?rest6c
      case hy6c => intro W hS; (try dsimp only at hS); go_simp; try (with_reducible rfl)
      dsimp only [List.set]
      refine takeL 7 54 (v := ?_) rfl rfl (by kernel_rfl) (by kernel_rfl) (by kernel_rfl) (fun _ _ _ h => h) (Or.inl ⟨by rfl, ?hy7c⟩) hHeld ?rest7c
      case hy7c => intro W hS; (try dsimp only at hS); go_simp; try (with_reducible rfl)
      dsimp only [List.set]
      refine takeL 8 55 (v := ?_) rfl rfl (by kernel_rfl) (by kernel_rfl) (by kernel_rfl) (fun _ _ _ h => h) (Or.inl ⟨by rfl, ?hy8c⟩) hHeld ?rest8c
      case hy8c => intro W hS; (try dsimp only at hS); go_simp; try (with_reducible rfl)
      dsimp only [List.set]
      refine takeL 9 56 (v := ?_) rfl rfl (by kernel_rfl) (by kernel_rfl) (by kernel_rfl) (fun _ _ _ h => h) (Or.inl ⟨by rfl, ?hy9c⟩) hHeld ?rest9c
      case hy9c => intro W hS; (try dsimp only at hS); go_simp; try (with_reducible rfl)
      dsimp only [List.set]
      refine takeL 10 57 (v := ?_) rfl rfl (by kernel_rfl) (by kernel_rfl) (by kernel_rfl) (fun _ _ _ h => h) (Or.inl ⟨by rfl, ?hy10c⟩) hHeld ?rest10c
      case hy10c => intro W hS; (try dsimp only at hS); go_simp; try (with_reducible rfl)
      dsimp only [List.set]
      refine takeL 11 58 (v := ?_) rfl rfl (by kernel_rfl) (by kernel_rfl) (by kernel_rfl) (fun _ _ _ h => h) (Or.inl ⟨by rfl, ?hy11c⟩) hHeld ?rest11c
      case hy11c => intro W hS; (try dsimp only at hS); go_simp; try (with_reducible rfl)
      dsimp only [List.set]
      refine takeL 12 59 (v := ?_) rfl rfl (by kernel_rfl) (by kernel_rfl) (by kernel_rfl) (fun _ _ _ h => h) (Or.inl ⟨by rfl, ?hy12c⟩) hHeld ?rest12c
      case hy12c => intro W hS; (try dsimp only at hS); go_simp; try (with_reducible rfl)
      dsimp only [List.set]
      refine takeL 13 60 (v := ?_) rfl rfl (by kernel_rfl) (by kernel_rfl) (by kernel_rfl) (fun _ _ _ h => h) (Or.inl ⟨by rfl, ?hy13c⟩) hHeld ?rest13c
      case hy13c => intro W hS; (try dsimp only at hS); go_simp; try (with_reducible rfl)
      dsimp only [List.set]
      refine takeL 14 61 (v := ?_) rfl rfl (by kernel_rfl) (by kernel_rfl) (by kernel_rfl) (fun _ _ _ h => h) (Or.inl ⟨by rfl, ?hy14c⟩) hHeld ?rest14c
      case hy14c => intro W hS; (try dsimp only at hS); go_simp; try (with_reducible rfl)
      dsimp only [List.set]
      refine takeL 15 62 (v := ?_) rfl rfl (by kernel_rfl) (by kernel_rfl) (by kernel_rfl) (fun _ _ _ h => h) (Or.inl ⟨by rfl, ?hy15c⟩) hHeld ?rest15c
      case hy15c => intro W hS; (try dsimp only at hS); go_simp; try (with_reducible rfl)
      dsimp only [List.set]
      refine takeL 16 63 (v := ?_) rfl rfl (by kernel_rfl) (by kernel_rfl) (by kernel_rfl) (fun _ _ _ h => h) (Or.inl ⟨by rfl, ?hy16c⟩) hHeld ?rest16c
      case hy16c => intro W hS; (try dsimp only at hS); go_simp; try (with_reducible rfl)
      dsimp only [List.set]
      refine takeL 17 64 (v := ?_) rfl rfl (by kernel_rfl) (by kernel_rfl) (by kernel_rfl) (fun _ _ _ h => h) (Or.inl ⟨by rfl, ?hy17c⟩) hHeld ?rest17c
      case hy17c => intro W hS; (try dsimp only at hS); go_simp; try (with_reducible rfl)
      dsimp only [List.set]
      refine takeL 18 65 (v := ?_) rfl rfl (by kernel_rfl) (by kernel_rfl) (by kernel_rfl) (fun _ _ _ h => h) (Or.inl ⟨by rfl, ?hy18c⟩) hHeld ?rest18c
      case hy18c => intro W hS; (try dsimp only at hS); go_simp; try (with_reducible rfl)
      dsimp only [List.set]
      refine takeL 19 66 (v := ?_) rfl rfl (by kernel_rfl) (by kernel_rfl) (by kernel_rfl) (fun _ _ _ h => h) (Or.inl ⟨by rfl, ?hy19c⟩) hHeld ?rest19c
      case hy19c => intro W hS; (try dsimp only at hS); go_simp; try (with_reducible rfl)
      dsimp only [List.set]
      refine takeL 20 67 (v := ?_) rfl rfl (by kernel_rfl) (by kernel_rfl) (by kernel_rfl) (fun _ _ _ h => h) (Or.inl ⟨by rfl, ?hy20c⟩) hHeld ?rest20c
      case hy20c => intro W hS; (try dsimp only at hS); go_simp; try (with_reducible rfl)
      dsimp only [List.set]
      refine takeL 21 68 (v := ?_) rfl rfl (by kernel_rfl) (by kernel_rfl) (by kernel_rfl) (fun _ _ _ h => h) (Or.inl ⟨by rfl, ?hy21c⟩) hHeld ?rest21c
      case hy21c => intro W hS; (try dsimp only at hS); go_simp; try (with_reducible rfl)
      dsimp only [List.set]
      refine takeL 22 69 (v := ?_) rfl rfl (by kernel_rfl) (by kernel_rfl) (by kernel_rfl) (fun _ _ _ h => h) (Or.inl ⟨by rfl, ?hy22c⟩) hHeld ?rest22c
      case hy22c => intro W hS; (try dsimp only at hS); go_simp; try (with_reducible rfl)
      dsimp only [List.set]
      refine takeL 23 70 (v := ?_) rfl rfl (by kernel_rfl) (by kernel_rfl) (by kernel_rfl) (fun _ _ _ h => h) (Or.inl ⟨by rfl, ?hy23c⟩) hHeld ?rest23c
      case hy23c => intro W hS; (try dsimp only at hS); go_simp; try (with_reducible rfl)
      dsimp only [List.set]
      refine takeL 24 71 (v := ?_) rfl rfl (by kernel_rfl) (by kernel_rfl) (by kernel_rfl) (fun _ _ _ h => h) (Or.inl ⟨by rfl, ?hy24c⟩) hHeld ?rest24c
      case hy24c => intro W hS; (try dsimp only at hS); go_simp; try (with_reducible rfl)
      dsimp only [List.set]
      refine takeL 25 72 (v := ?_) rfl rfl (by kernel_rfl) (by kernel_rfl) (by kernel_rfl) (fun _ _ _ h => h) (Or.inl ⟨by rfl, ?hy25c⟩) hHeld ?rest25c
      case hy25c => intro W hS; (try dsimp only at hS); go_simp; try (with_reducible rfl)
      dsimp only [List.set]
      refine takeL 26 73 (v := ?_) rfl rfl (by kernel_rfl) (by kernel_rfl) (by kernel_rfl) (fun _ _ _ h => h) (Or.inl ⟨by rfl, ?hy26c⟩) hHeld ?rest26c
      case hy26c => intro W hS; (try dsimp only at hS); go_simp; try (with_reducible rfl)
      dsimp only [List.set]
      refine takeL 27 74 (v := undef) rfl rfl (by kernel_rfl) (by kernel_rfl) (by kernel_rfl) (fun _ _ _ h => h) (Or.inr ⟨by rfl, rfl⟩) hHeld ?rest27c
      dsimp only [List.set]
      refine takeL 28 75 (v := undef) rfl rfl (by kernel_rfl) (by kernel_rfl) (by kernel_rfl) (fun _ _ _ h => h) (Or.inr ⟨by rfl, rfl⟩) hHeld ?rest28c
      dsimp only [List.set]
      refine takeL 29 76 (v := undef) rfl rfl (by kernel_rfl) (by kernel_rfl) (by kernel_rfl) (fun _ _ _ h => h) (Or.inr ⟨by rfl, rfl⟩) hHeld ?rest29c
      dsimp only [List.set]
      refine takeL 30 77 (v := undef) rfl rfl (by kernel_rfl) (by kernel_rfl) (by kernel_rfl) (fun _ _ _ h => h) (Or.inr ⟨by rfl, rfl⟩) hHeld ?rest30c
      dsimp only [List.set]
      refine takeL 31 78 (v := ?_) rfl rfl (by kernel_rfl) (by kernel_rfl) (by kernel_rfl) (fun _ _ _ h => h) (Or.inl ⟨by rfl, ?hy31c⟩) hHeld ?rest31c
      case hy31c => intro W hS; (try dsimp only at hS); go_simp; try (with_reducible rfl)
      dsimp only [List.set]
      refine takeL 32 79 (v := ?_) rfl rfl (by kernel_rfl) (by kernel_rfl) (by kernel_rfl) (fun _ _ _ h => h) (Or.inl ⟨by rfl, ?hy32c⟩) hHeld ?rest32c
      case hy32c => intro W hS; (try dsimp only at hS); go_simp; try (with_reducible rfl)
      dsimp only [List.set]
      refine takeL 33 80 (v := ?_) rfl rfl (by kernel_rfl) (by kernel_rfl) (by kernel_rfl) (fun _ _ _ h => h) (Or.inl ⟨by rfl, ?hy33c⟩) hHeld ?rest33c
      case hy33c => intro W hS; (try dsimp only at hS); go_simp; try (with_reducible rfl)
      dsimp only [List.set]
      refine takeL 34 81 (v := ?_) rfl rfl (by kernel_rfl) (by kernel_rfl) (by kernel_rfl) (fun _ _ _ h => h) (Or.inl ⟨by rfl, ?hy34c⟩) hHeld ?rest34c
      case hy34c => intro W hS; (try dsimp only at hS); go_simp; try (with_reducible rfl)
      dsimp only [List.set]
      refine wpAnyH_ready (rs := [35]) (by kernel_rfl) (by simp) ?_
      refine AllReadyH.cons rfl (fun K hK => ?_) AllReadyH.nil
      go_simp
      go_wp2_with (go_at_call 7; (with_reducible refine (P3.out _).mono ?_); rintro e w3 ⟨A3, c3, rfl, hs3, hb3⟩; have HB3 := Lib.hid (show Below w.heap.size w w3 from by first | exact below_then HB2.out HB2.out.size hb3 | exact below_drew1 HB2.out HB2.out.size hb3); have hcv3 : (convert 22 9 (.slice A3 2 c3)).run Try.prog w3 = .ok (.string (strB [0, 128])) w3 := hs3.conv; have HS3 := Lib.hid hs3; clear hs3 hb3)
      refine hK.out _ _ ?_ (fun hHeld => ?_)
      · exact trivial
      clear hK K
      refine wpAnyH_ready (rs := [36]) (by kernel_rfl) (by simp) ?_
      refine AllReadyH.cons rfl (fun K hK => ?_) AllReadyH.nil
      go_simp
      refine hK.out _ _ ?_ (fun hHeld => ?_)
      · exact trivial
      clear hK K
      refine takeL 37 84 (v := ?_) rfl rfl (by kernel_rfl) (by kernel_rfl) (by kernel_rfl) (fun _ _ _ h => h) (Or.inl ⟨by rfl, ?hy37c⟩) hHeld ?rest37c
      case hy37c => intro W hS; (try dsimp only at hS); go_simp; try (with_reducible rfl)
      dsimp only [List.set]
      refine takeL 38 85 (v := ?_) rfl rfl (by kernel_rfl) (by kernel_rfl) (by kernel_rfl) (fun _ _ _ h => h) (Or.inl ⟨by rfl, ?hy38c⟩) hHeld ?rest38c
      case hy38c => intro W hS; (try dsimp only at hS); go_simp; try (with_reducible rfl)
      dsimp only [List.set]
      refine takeL 39 86 (v := ?_) rfl rfl (by kernel_rfl) (by kernel_rfl) (by kernel_rfl) (fun _ _ _ h => h) (Or.inl ⟨by rfl, ?hy39c⟩) hHeld ?rest39c
      case hy39c => intro W hS; (try dsimp only at hS); go_simp; try (with_reducible rfl)
      dsimp only [List.set]
      refine wpAnyH_ready (rs := [40]) (by kernel_rfl) (by simp) ?_
      refine AllReadyH.cons rfl (fun K hK => ?_) AllReadyH.nil
      go_simp
      go_wp2_with (go_at_call 9; (with_reducible refine (P4.out _).mono ?_); rintro e w4 ⟨A4, c4, rfl, hs4, hb4⟩; have HB4 := Lib.hid (show Below w.heap.size w w4 from by first | exact below_then HB3.out HB3.out.size hb4 | exact below_drew1 HB3.out HB3.out.size hb4); have hcv4 : (convert 22 9 (.slice A4 1 c4)).run Try.prog w4 = .ok (.string (strB [255])) w4 := hs4.conv; have HS4 := Lib.hid hs4; clear hs4 hb4)
      refine hK.out _ _ ?_ (fun hHeld => ?_)
      · exact trivial
      clear hK K
      refine wpAnyH_ready (rs := [41]) (by kernel_rfl) (by simp) ?_
      refine AllReadyH.cons rfl (fun K hK => ?_) AllReadyH.nil
      go_simp
      refine hK.out _ _ ?_ (fun hHeld => ?_)
      · exact trivial
      clear hK K
      refine takeL 42 89 (v := ?_) rfl rfl (by kernel_rfl) (by kernel_rfl) (by kernel_rfl) (fun _ _ _ h => h) (Or.inl ⟨by rfl, ?hy42c⟩) hHeld ?rest42c
      case hy42c => intro W hS; (try dsimp only at hS); go_simp; try (with_reducible rfl)
      dsimp only [List.set]
      refine takeL 43 90 (v := ?_) rfl rfl (by kernel_rfl) (by kernel_rfl) (by kernel_rfl) (fun _ _ _ h => h) (Or.inl ⟨by rfl, ?hy43c⟩) hHeld ?rest43c
      case hy43c => intro W hS; (try dsimp only at hS); go_simp; try (with_reducible rfl)
      dsimp only [List.set]
      refine takeL 44 91 (v := ?_) rfl rfl (by kernel_rfl) (by kernel_rfl) (by kernel_rfl) (fun _ _ _ h => h) (Or.inl ⟨by rfl, ?hy44c⟩) hHeld ?rest44c
      case hy44c => intro W hS; (try dsimp only at hS); go_simp; try (with_reducible rfl)
      dsimp only [List.set]
      refine wpAnyH_ready (rs := [45]) (by kernel_rfl) (by simp) ?_
      refine AllReadyH.cons rfl (fun K hK => ?_) AllReadyH.nil
      go_simp
      go_wp2_with (go_at_call 9; (with_reducible refine (P5.out _).mono ?_); rintro e w5 ⟨A5, c5, rfl, hs5, hb5⟩; have HB5 := Lib.hid (show Below w.heap.size w w5 from by first | exact below_then HB4.out HB4.out.size hb5 | exact below_drew1 HB4.out HB4.out.size hb5); have hcv5 : (convert 22 9 (.slice A5 1 c5)).run Try.prog w5 = .ok (.string (strB [0])) w5 := hs5.conv; have HS5 := Lib.hid hs5; clear hs5 hb5)
      refine hK.out _ _ ?_ (fun hHeld => ?_)
      · exact trivial
      clear hK K
      refine wpAnyH_ready (rs := [46]) (by kernel_rfl) (by simp) ?_
      refine AllReadyH.cons rfl (fun K hK => ?_) AllReadyH.nil
      go_simp
      refine hK.out _ _ ?_ (fun hHeld => ?_)
      · exact trivial
      clear hK K
      refine takeL 47 94 (v := ?_) rfl rfl (by kernel_rfl) (by kernel_rfl) (by kernel_rfl) (fun _ _ _ h => h) (Or.inl ⟨by rfl, ?hy47c⟩) hHeld ?rest47c
      case hy47c => intro W hS; (try dsimp only at hS); go_simp; try (with_reducible rfl)
      dsimp only [List.set]
      refine takeL 48 95 (v := ?_) rfl rfl (by kernel_rfl) (by kernel_rfl) (by kernel_rfl) (fun _ _ _ h => h) (Or.inl ⟨by rfl, ?hy48c⟩) hHeld ?rest48c
      case hy48c => intro W hS; (try dsimp only at hS); go_simp; try (with_reducible rfl)
      dsimp only [List.set]
      refine takeL 49 4 (v := ?_) rfl rfl (by kernel_rfl) (by kernel_rfl) (by kernel_rfl) (fun _ _ _ h => h) (Or.inl ⟨by rfl, ?hy49c⟩) hHeld ?rest49c
      case hy49c => intro W hS; (try dsimp only at hS); go_simp; try (with_reducible rfl)
      dsimp only [List.set]
      refine wpAnyH_done (by kernel_rfl) ?_ _
      go_wp2_with fail
      go_ret
      exact ⟨rfl, HB5.out⟩

set_option maxRecDepth 8000 in
set_option maxHeartbeats 1600000 in
theorem bytes_cut (n : Int) (b off cp L : Nat) (hL : 100 < L) (hLc : L ≤ cp) (hcp : cp ≤ 9223372036854775807) (w : World) (R : List Nat) (q1 q2 y1 y2 : Int) (e2 : (q1 == y1) = true) (e3 : (q2 == y2) = true)
    (R1 : Hid (∀ w1, Below w.heap.size w w1 → Calls Try.prog 4 #[.slice (some ⟨b, off, none⟩) 100 cp] w1 fun e w' => e = .returned (.tuple #[.int .i64 q1, .int .i64 q2]) ∧ Below w1.heap.size w1 w'))
    (R2 : Hid (∀ w1, Below w.heap.size w w1 → Calls Try.prog 5 #[.slice (some ⟨b, off, none⟩) 100 cp] w1 fun e w' => e = .returned (.tuple #[.int .i64 y1, .int .i64 y2]) ∧ w1 = w'))
    (B1 : Hid (∀ w1, Below w.heap.size w w1 → Calls Try.prog 6 #[.slice (some ⟨b, off, none⟩) 100 cp] w1 fun e w' => e = .returned (.tuple #[.bool false, .int .i64 11]) ∧ w' = w1))
    (P1 : Hid (∀ w, Calls Try.prog 7 #[.int .i64 n] w fun e w' => ∃ A' c', e = .returned (.slice A' R.length c') ∧ Src w' w'.heap.size A' c' R ∧ Below w.heap.size w w'))
    (P2 : Hid (∀ w, Calls Try.prog 8 #[.int .i64 n] w fun e w' => ∃ A' c', e = .returned (.slice A' R.length c') ∧ Src w' w'.heap.size A' c' R ∧ Below w.heap.size w w'))
    (P3 : Hid (∀ w, Calls Try.prog 7 #[.int .i64 128] w fun e w' => ∃ A' c', e = .returned (.slice A' 2 c') ∧ Src w' w'.heap.size A' c' [0, 128] ∧ Below w.heap.size w w'))
    (P4 : Hid (∀ w, Calls Try.prog 9 #[.bool true] w fun e w' => ∃ A' c', e = .returned (.slice A' 1 c') ∧ Src w' w'.heap.size A' c' [255] ∧ Below w.heap.size w w'))
    (P5 : Hid (∀ w, Calls Try.prog 9 #[.bool false] w fun e w' => ∃ A' c', e = .returned (.slice A' 1 c') ∧ Src w' w'.heap.size A' c' [0] ∧ Below w.heap.size w w')) :
    Calls Try.prog 3 #[.int .i64 n, .slice (some ⟨b, off, none⟩) L cp] w fun e w' => e = .returned (.bool true) ∧ Below w.heap.size w w' := by
  have e1 := self_true (strB R)
  have e4 : ((strB [0, 128]).toList == [0, 128]) = true := by rw [strB_toList]; rfl
  have e5 : ((strB [255]).toList == [255]) = true := by rw [strB_toList]; rfl
  have e6 : ((strB [0]).toList == [0]) = true := by rw [strB_toList]; rfl
  go_enter Try.func3, Try.ntmps3
  go_wp2_with fail
  refine (R1.out _ (Below.refl _ _)).mono ?_
  rintro e w0 ⟨rfl, hb0⟩
  have HB0 := Lib.hid hb0
  clear hb0
  go_wp2_with fail
  refine (R2.out _ HB0.out).mono ?_
  rintro e wz ⟨rfl, hwz⟩
  subst hwz
  go_wp2_with fail
  refine (B1.out _ HB0.out).mono ?_
  rintro e wz ⟨rfl, hwz⟩
  subst hwz
  go_wp2_with fail
  refine wp_region_held_drew (S := fun _ => True) (by kernel_rfl) trivial ?_
  intro hHeld
  refine takeL 0 47 (v := ?_) rfl rfl (by kernel_rfl) (by kernel_rfl) (by kernel_rfl) (fun _ _ _ h => h) (Or.inl ⟨by rfl, ?hy0⟩) hHeld ?rest0
  case hy0 => intro W hS; (try dsimp only at hS); go_simp; try (with_reducible rfl)
  dsimp only [List.set]
  refine takeL 3 50 (v := ?_) rfl rfl (by kernel_rfl) (by kernel_rfl) (by kernel_rfl) (fun _ _ _ h => h) (Or.inl ⟨by rfl, ?hy3⟩) hHeld ?rest3
  case hy3 => intro W hS; (try dsimp only at hS); go_simp; try (with_reducible rfl)
  dsimp only [List.set]
  refine wpAnyH_ready (rs := [1]) (by kernel_rfl) (by simp) ?_
  refine AllReadyH.cons rfl (fun K hK => ?_) AllReadyH.nil
  go_simp
  go_wp2_with (go_at_call 7; (with_reducible refine (P1.out _).mono ?_); rintro e w1 ⟨A1, c1, rfl, hs1, hb1⟩; have HB1 := Lib.hid (show Below w.heap.size w w1 from by first | exact below_then HB0.out HB0.out.size hb1 | exact below_drew1 HB0.out HB0.out.size hb1); have hcv1 : (convert 22 9 (.slice A1 R.length c1)).run Try.prog w1 = .ok (.string (strB R)) w1 := hs1.conv; have HS1 := Lib.hid hs1; clear hs1 hb1)
  refine hK.out _ _ ?_ (fun hHeld => ?_)
  · exact trivial
  clear hK K
  refine wpAnyH_ready (rs := [2, 4]) (by kernel_rfl) (by simp) ?_
  refine AllReadyH.cons rfl (fun K hK => ?_) (AllReadyH.cons rfl (fun K hK => ?_) AllReadyH.nil)
  · go_simp
    refine hK.out _ _ ?_ (fun hHeld => ?_)
    · exact trivial
    clear hK K
    refine wpAnyH_ready (rs := [4]) (by kernel_rfl) (by simp) ?_
    refine AllReadyH.cons rfl (fun K hK => ?_) AllReadyH.nil
    go_simp
    go_wp2_with (go_at_call 8; (with_reducible refine (P2.out _).mono ?_); rintro e w2 ⟨A2, c2, rfl, hs2, hb2⟩; have HB2 := Lib.hid (show Below w.heap.size w w2 from by first | exact below_then HB1.out HB1.out.size hb2 | exact below_drew1 HB1.out HB1.out.size hb2); have hcv2 : (convert 22 9 (.slice A2 R.length c2)).run Try.prog w2 = .ok (.string (strB R)) w2 := hs2.conv; have hcv12 : (convert 22 9 (.slice A1 R.length c1)).run Try.prog w2 = .ok (.string (strB R)) w2 := (HS1.out.below (by first | exact hb2 | exact below_drew1 (Below.refl _ _) (Nat.le_refl _) hb2)).conv; have HS2 := Lib.hid hs2; clear hs2 hb2)
    refine hK.out _ _ ?_ (fun hHeld => ?_)
    · exact trivial
    clear hK K
    refine wpAnyH_ready (rs := [5]) (by kernel_rfl) (by simp) ?_
    refine AllReadyH.cons rfl (fun K hK => ?_) AllReadyH.nil
    go_simp
    refine hK.out _ _ ?_ (fun hHeld => ?_)
    · exact trivial
    clear hK K
    refine takeL 6 53 (v := ?_) rfl rfl (by kernel_rfl) (by kernel_rfl) (by kernel_rfl) (fun _ _ _ h => h) (Or.inl ⟨by rfl, ?hy6a⟩) hHeld ?rest6a
    case hy6a => intro W hS; (try dsimp only at hS); go_simp; try (with_reducible rfl)
    dsimp only [List.set]
    refine takeL 7 54 (v := ?_) rfl rfl (by kernel_rfl) (by kernel_rfl) (by kernel_rfl) (fun _ _ _ h => h) (Or.inl ⟨by rfl, ?hy7a⟩) hHeld ?rest7a
    case hy7a => intro W hS; (try dsimp only at hS); go_simp; try (with_reducible rfl)
    dsimp only [List.set]
    refine takeL 8 55 (v := ?_) rfl rfl (by kernel_rfl) (by kernel_rfl) (by kernel_rfl) (fun _ _ _ h => h) (Or.inl ⟨by rfl, ?hy8a⟩) hHeld ?rest8a
    case hy8a => intro W hS; (try dsimp only at hS); go_simp; try (with_reducible rfl)
    dsimp only [List.set]
    refine takeL 9 56 (v := ?_) rfl rfl (by kernel_rfl) (by kernel_rfl) (by kernel_rfl) (fun _ _ _ h => h) (Or.inl ⟨by rfl, ?hy9a⟩) hHeld ?rest9a
    case hy9a => intro W hS; (try dsimp only at hS); go_simp; try (with_reducible rfl)
    dsimp only [List.set]
    refine takeL 10 57 (v := ?_) rfl rfl (by kernel_rfl) (by kernel_rfl) (by kernel_rfl) (fun _ _ _ h => h) (Or.inl ⟨by rfl, ?hy10a⟩) hHeld ?rest10a
    case hy10a => intro W hS; (try dsimp only at hS); go_simp; try (with_reducible rfl)
    dsimp only [List.set]
    refine takeL 11 58 (v := ?_) rfl rfl (by kernel_rfl) (by kernel_rfl) (by kernel_rfl) (fun _ _ _ h => h) (Or.inl ⟨by rfl, ?hy11a⟩) hHeld ?rest11a
    case hy11a => intro W hS; (try dsimp only at hS); go_simp; try (with_reducible rfl)
    dsimp only [List.set]
    refine takeL 12 59 (v := ?_) rfl rfl (by kernel_rfl) (by kernel_rfl) (by kernel_rfl) (fun _ _ _ h => h) (Or.inl ⟨by rfl, ?hy12a⟩) hHeld ?rest12a
    case hy12a => intro W hS; (try dsimp only at hS); go_simp; try (with_reducible rfl)
    dsimp only [List.set]
    refine takeL 13 60 (v := ?_) rfl rfl (by kernel_rfl) (by kernel_rfl) (by kernel_rfl) (fun _ _ _ h => h) (Or.inl ⟨by rfl, ?hy13a⟩) hHeld ?rest13a
    case hy13a => intro W hS; (try dsimp only at hS); go_simp; try (with_reducible rfl)
    dsimp only [List.set]
    refine takeL 14 61 (v := ?_) rfl rfl (by kernel_rfl) (by kernel_rfl) (by kernel_rfl) (fun _ _ _ h => h) (Or.inl ⟨by rfl, ?hy14a⟩) hHeld ?rest14a
    case hy14a => intro W hS; (try dsimp only at hS); go_simp; try (with_reducible rfl)
    dsimp only [List.set]
    refine takeL 15 62 (v := ?_) rfl rfl (by kernel_rfl) (by kernel_rfl) (by kernel_rfl) (fun _ _ _ h => h) (Or.inl ⟨by rfl, ?hy15a⟩) hHeld ?rest15a
    case hy15a => intro W hS; (try dsimp only at hS); go_simp; try (with_reducible rfl)
    dsimp only [List.set]
    refine takeL 16 63 (v := ?_) rfl rfl (by kernel_rfl) (by kernel_rfl) (by kernel_rfl) (fun _ _ _ h => h) (Or.inl ⟨by rfl, ?hy16a⟩) hHeld ?rest16a
    case hy16a => intro W hS; (try dsimp only at hS); go_simp; try (with_reducible rfl)
    dsimp only [List.set]
    refine takeL 17 64 (v := ?_) rfl rfl (by kernel_rfl) (by kernel_rfl) (by kernel_rfl) (fun _ _ _ h => h) (Or.inl ⟨by rfl, ?hy17a⟩) hHeld ?rest17a
    case hy17a => intro W hS; (try dsimp only at hS); go_simp; try (with_reducible rfl)
    dsimp only [List.set]
    refine takeL 18 65 (v := ?_) rfl rfl (by kernel_rfl) (by kernel_rfl) (by kernel_rfl) (fun _ _ _ h => h) (Or.inl ⟨by rfl, ?hy18a⟩) hHeld ?rest18a
    case hy18a => intro W hS; (try dsimp only at hS); go_simp; try (with_reducible rfl)
    dsimp only [List.set]
    refine takeL 19 66 (v := ?_) rfl rfl (by kernel_rfl) (by kernel_rfl) (by kernel_rfl) (fun _ _ _ h => h) (Or.inl ⟨by rfl, ?hy19a⟩) hHeld ?rest19a
    case hy19a => intro W hS; (try dsimp only at hS); go_simp; try (with_reducible rfl)
    dsimp only [List.set]
    refine takeL 20 67 (v := ?_) rfl rfl (by kernel_rfl) (by kernel_rfl) (by kernel_rfl) (fun _ _ _ h => h) (Or.inl ⟨by rfl, ?hy20a⟩) hHeld ?rest20a
    case hy20a => intro W hS; (try dsimp only at hS); go_simp; try (with_reducible rfl)
    dsimp only [List.set]
    refine takeL 21 68 (v := ?_) rfl rfl (by kernel_rfl) (by kernel_rfl) (by kernel_rfl) (fun _ _ _ h => h) (Or.inl ⟨by rfl, ?hy21a⟩) hHeld ?rest21a
    case hy21a => intro W hS; (try dsimp only at hS); go_simp; try (with_reducible rfl)
    dsimp only [List.set]
    refine takeL 22 69 (v := ?_) rfl rfl (by kernel_rfl) (by kernel_rfl) (by kernel_rfl) (fun _ _ _ h => h) (Or.inl ⟨by rfl, ?hy22a⟩) hHeld ?rest22a
    case hy22a => intro W hS; (try dsimp only at hS); go_simp; try (with_reducible rfl)
    dsimp only [List.set]
    refine takeL 23 70 (v := ?_) rfl rfl (by kernel_rfl) (by kernel_rfl) (by kernel_rfl) (fun _ _ _ h => h) (Or.inl ⟨by rfl, ?hy23a⟩) hHeld ?rest23a
    case hy23a => intro W hS; (try dsimp only at hS); go_simp; try (with_reducible rfl)
    dsimp only [List.set]
    refine takeL 24 71 (v := ?_) rfl rfl (by kernel_rfl) (by kernel_rfl) (by kernel_rfl) (fun _ _ _ h => h) (Or.inl ⟨by rfl, ?hy24a⟩) hHeld ?rest24a
    case hy24a => intro W hS; (try dsimp only at hS); go_simp; try (with_reducible rfl)
    dsimp only [List.set]
    refine takeL 25 72 (v := ?_) rfl rfl (by kernel_rfl) (by kernel_rfl) (by kernel_rfl) (fun _ _ _ h => h) (Or.inl ⟨by rfl, ?hy25a⟩) hHeld ?rest25a
    case hy25a => intro W hS; (try dsimp only at hS); go_simp; try (with_reducible rfl)
    dsimp only [List.set]
    refine takeL 26 73 (v := ?_) rfl rfl (by kernel_rfl) (by kernel_rfl) (by kernel_rfl) (fun _ _ _ h => h) (Or.inl ⟨by rfl, ?hy26a⟩) hHeld ?rest26a
    case hy26a => intro W hS; (try dsimp only at hS); go_simp; try (with_reducible rfl)
    dsimp only [List.set]
    refine takeL 27 74 (v := undef) rfl rfl (by kernel_rfl) (by kernel_rfl) (by kernel_rfl) (fun _ _ _ h => h) (Or.inr ⟨by rfl, rfl⟩) hHeld ?rest27a
    dsimp only [List.set]
    refine takeL 28 75 (v := undef) rfl rfl (by kernel_rfl) (by kernel_rfl) (by kernel_rfl) (fun _ _ _ h => h) (Or.inr ⟨by rfl, rfl⟩) hHeld ?rest28a
    dsimp only [List.set]
    refine takeL 29 76 (v := undef) rfl rfl (by kernel_rfl) (by kernel_rfl) (by kernel_rfl) (fun _ _ _ h => h) (Or.inr ⟨by rfl, rfl⟩) hHeld ?rest29a
    dsimp only [List.set]
    refine takeL 30 77 (v := undef) rfl rfl (by kernel_rfl) (by kernel_rfl) (by kernel_rfl) (fun _ _ _ h => h) (Or.inr ⟨by rfl, rfl⟩) hHeld ?rest30a
    dsimp only [List.set]
    refine takeL 31 78 (v := ?_) rfl rfl (by kernel_rfl) (by kernel_rfl) (by kernel_rfl) (fun _ _ _ h => h) (Or.inl ⟨by rfl, ?hy31a⟩) hHeld ?rest31a
    case hy31a => intro W hS; (try dsimp only at hS); go_simp; try (with_reducible rfl)
    dsimp only [List.set]
    refine takeL 32 79 (v := ?_) rfl rfl (by kernel_rfl) (by kernel_rfl) (by kernel_rfl) (fun _ _ _ h => h) (Or.inl ⟨by rfl, ?hy32a⟩) hHeld ?rest32a
    case hy32a => intro W hS; (try dsimp only at hS); go_simp; try (with_reducible rfl)
    dsimp only [List.set]
    refine takeL 33 80 (v := ?_) rfl rfl (by kernel_rfl) (by kernel_rfl) (by kernel_rfl) (fun _ _ _ h => h) (Or.inl ⟨by rfl, ?hy33a⟩) hHeld ?rest33a
    case hy33a => intro W hS; (try dsimp only at hS); go_simp; try (with_reducible rfl)
    dsimp only [List.set]
    refine takeL 34 81 (v := ?_) rfl rfl (by kernel_rfl) (by kernel_rfl) (by kernel_rfl) (fun _ _ _ h => h) (Or.inl ⟨by rfl, ?hy34a⟩) hHeld ?rest34a
    case hy34a => intro W hS; (try dsimp only at hS); go_simp; try (with_reducible rfl)
    dsimp only [List.set]
    refine wpAnyH_ready (rs := [35]) (by kernel_rfl) (by simp) ?_
    refine AllReadyH.cons rfl (fun K hK => ?_) AllReadyH.nil
    go_simp
    go_wp2_with (go_at_call 7; (with_reducible refine (P3.out _).mono ?_); rintro e w3 ⟨A3, c3, rfl, hs3, hb3⟩; have HB3 := Lib.hid (show Below w.heap.size w w3 from by first | exact below_then HB2.out HB2.out.size hb3 | exact below_drew1 HB2.out HB2.out.size hb3); have hcv3 : (convert 22 9 (.slice A3 2 c3)).run Try.prog w3 = .ok (.string (strB [0, 128])) w3 := hs3.conv; have HS3 := Lib.hid hs3; clear hs3 hb3)
    refine hK.out _ _ ?_ (fun hHeld => ?_)
    · exact trivial
    clear hK K
    refine wpAnyH_ready (rs := [36]) (by kernel_rfl) (by simp) ?_
    refine AllReadyH.cons rfl (fun K hK => ?_) AllReadyH.nil
    go_simp
    refine hK.out _ _ ?_ (fun hHeld => ?_)
    · exact trivial
    clear hK K
    refine takeL 37 84 (v := ?_) rfl rfl (by kernel_rfl) (by kernel_rfl) (by kernel_rfl) (fun _ _ _ h => h) (Or.inl ⟨by rfl, ?hy37a⟩) hHeld ?rest37a
    case hy37a => intro W hS; (try dsimp only at hS); go_simp; try (with_reducible rfl)
    dsimp only [List.set]
    refine takeL 38 85 (v := ?_) rfl rfl (by kernel_rfl) (by kernel_rfl) (by kernel_rfl) (fun _ _ _ h => h) (Or.inl ⟨by rfl, ?hy38a⟩) hHeld ?rest38a
    case hy38a => intro W hS; (try dsimp only at hS); go_simp; try (with_reducible rfl)
    dsimp only [List.set]
    refine takeL 39 86 (v := ?_) rfl rfl (by kernel_rfl) (by kernel_rfl) (by kernel_rfl) (fun _ _ _ h => h) (Or.inl ⟨by rfl, ?hy39a⟩) hHeld ?rest39a
    case hy39a => intro W hS; (try dsimp only at hS); go_simp; try (with_reducible rfl)
    dsimp only [List.set]
    refine wpAnyH_ready (rs := [40]) (by kernel_rfl) (by simp) ?_
    refine AllReadyH.cons rfl (fun K hK => ?_) AllReadyH.nil
    go_simp
    go_wp2_with (go_at_call 9; (with_reducible refine (P4.out _).mono ?_); rintro e w4 ⟨A4, c4, rfl, hs4, hb4⟩; have HB4 := Lib.hid (show Below w.heap.size w w4 from by first | exact below_then HB3.out HB3.out.size hb4 | exact below_drew1 HB3.out HB3.out.size hb4); have hcv4 : (convert 22 9 (.slice A4 1 c4)).run Try.prog w4 = .ok (.string (strB [255])) w4 := hs4.conv; have HS4 := Lib.hid hs4; clear hs4 hb4)
    refine hK.out _ _ ?_ (fun hHeld => ?_)
    · exact trivial
    clear hK K
    refine wpAnyH_ready (rs := [41]) (by kernel_rfl) (by simp) ?_
    refine AllReadyH.cons rfl (fun K hK => ?_) AllReadyH.nil
    go_simp
    refine hK.out _ _ ?_ (fun hHeld => ?_)
    · exact trivial
    clear hK K
    refine takeL 42 89 (v := ?_) rfl rfl (by kernel_rfl) (by kernel_rfl) (by kernel_rfl) (fun _ _ _ h => h) (Or.inl ⟨by rfl, ?hy42a⟩) hHeld ?rest42a
    case hy42a => intro W hS; (try dsimp only at hS); go_simp; try (with_reducible rfl)
    dsimp only [List.set]
    refine takeL 43 90 (v := ?_) rfl rfl (by kernel_rfl) (by kernel_rfl) (by kernel_rfl) (fun _ _ _ h => h) (Or.inl ⟨by rfl, ?hy43a⟩) hHeld ?rest43a
    case hy43a => intro W hS; (try dsimp only at hS); go_simp; try (with_reducible rfl)
    dsimp only [List.set]
    refine takeL 44 91 (v := ?_) rfl rfl (by kernel_rfl) (by kernel_rfl) (by kernel_rfl) (fun _ _ _ h => h) (Or.inl ⟨by rfl, ?hy44a⟩) hHeld ?rest44a
    case hy44a => intro W hS; (try dsimp only at hS); go_simp; try (with_reducible rfl)
    dsimp only [List.set]
    refine wpAnyH_ready (rs := [45]) (by kernel_rfl) (by simp) ?_
    refine AllReadyH.cons rfl (fun K hK => ?_) AllReadyH.nil
    go_simp
    go_wp2_with (go_at_call 9; (with_reducible refine (P5.out _).mono ?_); rintro e w5 ⟨A5, c5, rfl, hs5, hb5⟩; have HB5 := Lib.hid (show Below w.heap.size w w5 from by first | exact below_then HB4.out HB4.out.size hb5 | exact below_drew1 HB4.out HB4.out.size hb5); have hcv5 : (convert 22 9 (.slice A5 1 c5)).run Try.prog w5 = .ok (.string (strB [0])) w5 := hs5.conv; have HS5 := Lib.hid hs5; clear hs5 hb5)
    refine hK.out _ _ ?_ (fun hHeld => ?_)
    · exact trivial
    clear hK K
    refine wpAnyH_ready (rs := [46]) (by kernel_rfl) (by simp) ?_
    refine AllReadyH.cons rfl (fun K hK => ?_) AllReadyH.nil
    go_simp
    refine hK.out _ _ ?_ (fun hHeld => ?_)
    · exact trivial
    clear hK K
    refine takeL 47 94 (v := ?_) rfl rfl (by kernel_rfl) (by kernel_rfl) (by kernel_rfl) (fun _ _ _ h => h) (Or.inl ⟨by rfl, ?hy47a⟩) hHeld ?rest47a
    case hy47a => intro W hS; (try dsimp only at hS); go_simp; try (with_reducible rfl)
    dsimp only [List.set]
    refine takeL 48 95 (v := ?_) rfl rfl (by kernel_rfl) (by kernel_rfl) (by kernel_rfl) (fun _ _ _ h => h) (Or.inl ⟨by rfl, ?hy48a⟩) hHeld ?rest48a
    case hy48a => intro W hS; (try dsimp only at hS); go_simp; try (with_reducible rfl)
    dsimp only [List.set]
    refine takeL 49 4 (v := ?_) rfl rfl (by kernel_rfl) (by kernel_rfl) (by kernel_rfl) (fun _ _ _ h => h) (Or.inl ⟨by rfl, ?hy49a⟩) hHeld ?rest49a
    case hy49a => intro W hS; (try dsimp only at hS); go_simp; try (with_reducible rfl)
    dsimp only [List.set]
    refine wpAnyH_done (by kernel_rfl) ?_ _
    go_wp2_with fail
    go_ret
    exact ⟨rfl, HB5.out⟩
  · go_simp
    go_wp2_with (go_at_call 8; (with_reducible refine (P2.out _).mono ?_); rintro e w2 ⟨A2, c2, rfl, hs2, hb2⟩; have HB2 := Lib.hid (show Below w.heap.size w w2 from by first | exact below_then HB1.out HB1.out.size hb2 | exact below_drew1 HB1.out HB1.out.size hb2); have hcv2 : (convert 22 9 (.slice A2 R.length c2)).run Try.prog w2 = .ok (.string (strB R)) w2 := hs2.conv; have hcv12 : (convert 22 9 (.slice A1 R.length c1)).run Try.prog w2 = .ok (.string (strB R)) w2 := (HS1.out.below (by first | exact hb2 | exact below_drew1 (Below.refl _ _) (Nat.le_refl _) hb2)).conv; have HS2 := Lib.hid hs2; clear hs2 hb2)
    refine hK.out _ _ ?_ (fun hHeld => ?_)
    · exact trivial
    clear hK K
    refine wpAnyH_ready (rs := [2, 5]) (by kernel_rfl) (by simp) ?_
    refine AllReadyH.cons rfl (fun K hK => ?_) (AllReadyH.cons rfl (fun K hK => ?_) AllReadyH.nil)
    · go_simp
      refine hK.out _ _ ?_ (fun hHeld => ?_)
      · exact trivial
      clear hK K
      refine wpAnyH_ready (rs := [5]) (by kernel_rfl) (by simp) ?_
      refine AllReadyH.cons rfl (fun K hK => ?_) AllReadyH.nil
      go_simp
      refine hK.out _ _ ?_ (fun hHeld => ?_)
      · exact trivial
      clear hK K
      refine takeL 6 53 (v := ?_) rfl rfl (by kernel_rfl) (by kernel_rfl) (by kernel_rfl) (fun _ _ _ h => h) (Or.inl ⟨by rfl, ?hy6b⟩) hHeld ?rest6b
      case hy6b => intro W hS; (try dsimp only at hS); go_simp; try (with_reducible rfl)
      dsimp only [List.set]
      refine takeL 7 54 (v := ?_) rfl rfl (by kernel_rfl) (by kernel_rfl) (by kernel_rfl) (fun _ _ _ h => h) (Or.inl ⟨by rfl, ?hy7b⟩) hHeld ?rest7b
      case hy7b => intro W hS; (try dsimp only at hS); go_simp; try (with_reducible rfl)
      dsimp only [List.set]
      refine takeL 8 55 (v := ?_) rfl rfl (by kernel_rfl) (by kernel_rfl) (by kernel_rfl) (fun _ _ _ h => h) (Or.inl ⟨by rfl, ?hy8b⟩) hHeld ?rest8b
      case hy8b => intro W hS; (try dsimp only at hS); go_simp; try (with_reducible rfl)
      dsimp only [List.set]
      refine takeL 9 56 (v := ?_) rfl rfl (by kernel_rfl) (by kernel_rfl) (by kernel_rfl) (fun _ _ _ h => h) (Or.inl ⟨by rfl, ?hy9b⟩) hHeld ?rest9b
      case hy9b => intro W hS; (try dsimp only at hS); go_simp; try (with_reducible rfl)
      dsimp only [List.set]
      refine takeL 10 57 (v := ?_) rfl rfl (by kernel_rfl) (by kernel_rfl) (by kernel_rfl) (fun _ _ _ h => h) (Or.inl ⟨by rfl, ?hy10b⟩) hHeld ?rest10b
      case hy10b => intro W hS; (try dsimp only at hS); go_simp; try (with_reducible rfl)
      dsimp only [List.set]
      refine takeL 11 58 (v := ?_) rfl rfl (by kernel_rfl) (by kernel_rfl) (by kernel_rfl) (fun _ _ _ h => h) (Or.inl ⟨by rfl, ?hy11b⟩) hHeld ?rest11b
      case hy11b => intro W hS; (try dsimp only at hS); go_simp; try (with_reducible rfl)
      dsimp only [List.set]
      refine takeL 12 59 (v := ?_) rfl rfl (by kernel_rfl) (by kernel_rfl) (by kernel_rfl) (fun _ _ _ h => h) (Or.inl ⟨by rfl, ?hy12b⟩) hHeld ?rest12b
      case hy12b => intro W hS; (try dsimp only at hS); go_simp; try (with_reducible rfl)
      dsimp only [List.set]
      refine takeL 13 60 (v := ?_) rfl rfl (by kernel_rfl) (by kernel_rfl) (by kernel_rfl) (fun _ _ _ h => h) (Or.inl ⟨by rfl, ?hy13b⟩) hHeld ?rest13b
      case hy13b => intro W hS; (try dsimp only at hS); go_simp; try (with_reducible rfl)
      dsimp only [List.set]
      refine takeL 14 61 (v := ?_) rfl rfl (by kernel_rfl) (by kernel_rfl) (by kernel_rfl) (fun _ _ _ h => h) (Or.inl ⟨by rfl, ?hy14b⟩) hHeld ?rest14b
      case hy14b => intro W hS; (try dsimp only at hS); go_simp; try (with_reducible rfl)
      dsimp only [List.set]
      refine takeL 15 62 (v := ?_) rfl rfl (by kernel_rfl) (by kernel_rfl) (by kernel_rfl) (fun _ _ _ h => h) (Or.inl ⟨by rfl, ?hy15b⟩) hHeld ?rest15b
      case hy15b => intro W hS; (try dsimp only at hS); go_simp; try (with_reducible rfl)
      dsimp only [List.set]
      refine takeL 16 63 (v := ?_) rfl rfl (by kernel_rfl) (by kernel_rfl) (by kernel_rfl) (fun _ _ _ h => h) (Or.inl ⟨by rfl, ?hy16b⟩) hHeld ?rest16b
      case hy16b => intro W hS; (try dsimp only at hS); go_simp; try (with_reducible rfl)
      dsimp only [List.set]
      refine takeL 17 64 (v := ?_) rfl rfl (by kernel_rfl) (by kernel_rfl) (by kernel_rfl) (fun _ _ _ h => h) (Or.inl ⟨by rfl, ?hy17b⟩) hHeld ?rest17b
      case hy17b => intro W hS; (try dsimp only at hS); go_simp; try (with_reducible rfl)
      dsimp only [List.set]
      refine takeL 18 65 (v := ?_) rfl rfl (by kernel_rfl) (by kernel_rfl) (by kernel_rfl) (fun _ _ _ h => h) (Or.inl ⟨by rfl, ?hy18b⟩) hHeld ?rest18b
      case hy18b => intro W hS; (try dsimp only at hS); go_simp; try (with_reducible rfl)
      dsimp only [List.set]
      refine takeL 19 66 (v := ?_) rfl rfl (by kernel_rfl) (by kernel_rfl) (by kernel_rfl) (fun _ _ _ h => h) (Or.inl ⟨by rfl, ?hy19b⟩) hHeld ?rest19b
      case hy19b => intro W hS; (try dsimp only at hS); go_simp; try (with_reducible rfl)
      dsimp only [List.set]
      refine takeL 20 67 (v := ?_) rfl rfl (by kernel_rfl) (by kernel_rfl) (by kernel_rfl) (fun _ _ _ h => h) (Or.inl ⟨by rfl, ?hy20b⟩) hHeld ?rest20b
      case hy20b => intro W hS; (try dsimp only at hS); go_simp; try (with_reducible rfl)
      dsimp only [List.set]
      refine takeL 21 68 (v := ?_) rfl rfl (by kernel_rfl) (by kernel_rfl) (by kernel_rfl) (fun _ _ _ h => h) (Or.inl ⟨by rfl, ?hy21b⟩) hHeld ?rest21b
      case hy21b => intro W hS; (try dsimp only at hS); go_simp; try (with_reducible rfl)
      dsimp only [List.set]
      refine takeL 22 69 (v := ?_) rfl rfl (by kernel_rfl) (by kernel_rfl) (by kernel_rfl) (fun _ _ _ h => h) (Or.inl ⟨by rfl, ?hy22b⟩) hHeld ?rest22b
      case hy22b => intro W hS; (try dsimp only at hS); go_simp; try (with_reducible rfl)
      dsimp only [List.set]
      refine takeL 23 70 (v := ?_) rfl rfl (by kernel_rfl) (by kernel_rfl) (by kernel_rfl) (fun _ _ _ h => h) (Or.inl ⟨by rfl, ?hy23b⟩) hHeld ?rest23b
      case hy23b => intro W hS; (try dsimp only at hS); go_simp; try (with_reducible rfl)
      dsimp only [List.set]
      refine takeL 24 71 (v := ?_) rfl rfl (by kernel_rfl) (by kernel_rfl) (by kernel_rfl) (fun _ _ _ h => h) (Or.inl ⟨by rfl, ?hy24b⟩) hHeld ?rest24b
      case hy24b => intro W hS; (try dsimp only at hS); go_simp; try (with_reducible rfl)
      dsimp only [List.set]
      refine takeL 25 72 (v := ?_) rfl rfl (by kernel_rfl) (by kernel_rfl) (by kernel_rfl) (fun _ _ _ h => h) (Or.inl ⟨by rfl, ?hy25b⟩) hHeld ?rest25b
      case hy25b => intro W hS; (try dsimp only at hS); go_simp; try (with_reducible rfl)
      dsimp only [List.set]
      refine takeL 26 73 (v := ?_) rfl rfl (by kernel_rfl) (by kernel_rfl) (by kernel_rfl) (fun _ _ _ h => h) (Or.inl ⟨by rfl, ?hy26b⟩) hHeld ?rest26b
      case hy26b => intro W hS; (try dsimp only at hS); go_simp; try (with_reducible rfl)
      dsimp only [List.set]
      refine takeL 27 74 (v := undef) rfl rfl (by kernel_rfl) (by kernel_rfl) (by kernel_rfl) (fun _ _ _ h => h) (Or.inr ⟨by rfl, rfl⟩) hHeld ?rest27b
      dsimp only [List.set]
      refine takeL 28 75 (v := undef) rfl rfl (by kernel_rfl) (by kernel_rfl) (by kernel_rfl) (fun _ _ _ h => h) (Or.inr ⟨by rfl, rfl⟩) hHeld ?rest28b
      dsimp only [List.set]
      refine takeL 29 76 (v := undef) rfl rfl (by kernel_rfl) (by kernel_rfl) (by kernel_rfl) (fun _ _ _ h => h) (Or.inr ⟨by rfl, rfl⟩) hHeld ?rest29b
      dsimp only [List.set]
      refine takeL 30 77 (v := undef) rfl rfl (by kernel_rfl) (by kernel_rfl) (by kernel_rfl) (fun _ _ _ h => h) (Or.inr ⟨by rfl, rfl⟩) hHeld ?rest30b
      dsimp only [List.set]
      refine takeL 31 78 (v := ?_) rfl rfl (by kernel_rfl) (by kernel_rfl) (by kernel_rfl) (fun _ _ _ h => h) (Or.inl ⟨by rfl, ?hy31b⟩) hHeld ?rest31b
      case hy31b => intro W hS; (try dsimp only at hS); go_simp; try (with_reducible rfl)
      dsimp only [List.set]
      refine takeL 32 79 (v := ?_) rfl rfl (by kernel_rfl) (by kernel_rfl) (by kernel_rfl) (fun _ _ _ h => h) (Or.inl ⟨by rfl, ?hy32b⟩) hHeld ?rest32b
      case hy32b => intro W hS; (try dsimp only at hS); go_simp; try (with_reducible rfl)
      dsimp only [List.set]
      refine takeL 33 80 (v := ?_) rfl rfl (by kernel_rfl) (by kernel_rfl) (by kernel_rfl) (fun _ _ _ h => h) (Or.inl ⟨by rfl, ?hy33b⟩) hHeld ?rest33b
      case hy33b => intro W hS; (try dsimp only at hS); go_simp; try (with_reducible rfl)
      dsimp only [List.set]
      refine takeL 34 81 (v := ?_) rfl rfl (by kernel_rfl) (by kernel_rfl) (by kernel_rfl) (fun _ _ _ h => h) (Or.inl ⟨by rfl, ?hy34b⟩) hHeld ?rest34b
      case hy34b => intro W hS; (try dsimp only at hS); go_simp; try (with_reducible rfl)
      dsimp only [List.set]
      refine wpAnyH_ready (rs := [35]) (by kernel_rfl) (by simp) ?_
      refine AllReadyH.cons rfl (fun K hK => ?_) AllReadyH.nil
      go_simp
      go_wp2_with (go_at_call 7; (with_reducible refine (P3.out _).mono ?_); rintro e w3 ⟨A3, c3, rfl, hs3, hb3⟩; have HB3 := Lib.hid (show Below w.heap.size w w3 from by first | exact below_then HB2.out HB2.out.size hb3 | exact below_drew1 HB2.out HB2.out.size hb3); have hcv3 : (convert 22 9 (.slice A3 2 c3)).run Try.prog w3 = .ok (.string (strB [0, 128])) w3 := hs3.conv; have HS3 := Lib.hid hs3; clear hs3 hb3)
      refine hK.out _ _ ?_ (fun hHeld => ?_)
      · exact trivial
      clear hK K
      refine wpAnyH_ready (rs := [36]) (by kernel_rfl) (by simp) ?_
      refine AllReadyH.cons rfl (fun K hK => ?_) AllReadyH.nil
      go_simp
      refine hK.out _ _ ?_ (fun hHeld => ?_)
      · exact trivial
      clear hK K
      refine takeL 37 84 (v := ?_) rfl rfl (by kernel_rfl) (by kernel_rfl) (by kernel_rfl) (fun _ _ _ h => h) (Or.inl ⟨by rfl, ?hy37b⟩) hHeld ?rest37b
      case hy37b => intro W hS; (try dsimp only at hS); go_simp; try (with_reducible rfl)
      dsimp only [List.set]
      refine takeL 38 85 (v := ?_) rfl rfl (by kernel_rfl) (by kernel_rfl) (by kernel_rfl) (fun _ _ _ h => h) (Or.inl ⟨by rfl, ?hy38b⟩) hHeld ?rest38b
      case hy38b => intro W hS; (try dsimp only at hS); go_simp; try (with_reducible rfl)
      dsimp only [List.set]
      refine takeL 39 86 (v := ?_) rfl rfl (by kernel_rfl) (by kernel_rfl) (by kernel_rfl) (fun _ _ _ h => h) (Or.inl ⟨by rfl, ?hy39b⟩) hHeld ?rest39b
      case hy39b => intro W hS; (try dsimp only at hS); go_simp; try (with_reducible rfl)
      dsimp only [List.set]
      refine wpAnyH_ready (rs := [40]) (by kernel_rfl) (by simp) ?_
      refine AllReadyH.cons rfl (fun K hK => ?_) AllReadyH.nil
      go_simp
      go_wp2_with (go_at_call 9; (with_reducible refine (P4.out _).mono ?_); rintro e w4 ⟨A4, c4, rfl, hs4, hb4⟩; have HB4 := Lib.hid (show Below w.heap.size w w4 from by first | exact below_then HB3.out HB3.out.size hb4 | exact below_drew1 HB3.out HB3.out.size hb4); have hcv4 : (convert 22 9 (.slice A4 1 c4)).run Try.prog w4 = .ok (.string (strB [255])) w4 := hs4.conv; have HS4 := Lib.hid hs4; clear hs4 hb4)
      refine hK.out _ _ ?_ (fun hHeld => ?_)
      · exact trivial
      clear hK K
      refine wpAnyH_ready (rs := [41]) (by kernel_rfl) (by simp) ?_
      refine AllReadyH.cons rfl (fun K hK => ?_) AllReadyH.nil
      go_simp
      refine hK.out _ _ ?_ (fun hHeld => ?_)
      · exact trivial
      clear hK K
      refine takeL 42 89 (v := ?_) rfl rfl (by kernel_rfl) (by kernel_rfl) (by kernel_rfl) (fun _ _ _ h => h) (Or.inl ⟨by rfl, ?hy42b⟩) hHeld ?rest42b
      case hy42b => intro W hS; (try dsimp only at hS); go_simp; try (with_reducible rfl)
      dsimp only [List.set]
      refine takeL 43 90 (v := ?_) rfl rfl (by kernel_rfl) (by kernel_rfl) (by kernel_rfl) (fun _ _ _ h => h) (Or.inl ⟨by rfl, ?hy43b⟩) hHeld ?rest43b
      case hy43b => intro W hS; (try dsimp only at hS); go_simp; try (with_reducible rfl)
      dsimp only [List.set]
      refine takeL 44 91 (v := ?_) rfl rfl (by kernel_rfl) (by kernel_rfl) (by kernel_rfl) (fun _ _ _ h => h) (Or.inl ⟨by rfl, ?hy44b⟩) hHeld ?rest44b
      case hy44b => intro W hS; (try dsimp only at hS); go_simp; try (with_reducible rfl)
      dsimp only [List.set]
      refine wpAnyH_ready (rs := [45]) (by kernel_rfl) (by simp) ?_
      refine AllReadyH.cons rfl (fun K hK => ?_) AllReadyH.nil
      go_simp
      go_wp2_with (go_at_call 9; (with_reducible refine (P5.out _).mono ?_); rintro e w5 ⟨A5, c5, rfl, hs5, hb5⟩; have HB5 := Lib.hid (show Below w.heap.size w w5 from by first | exact below_then HB4.out HB4.out.size hb5 | exact below_drew1 HB4.out HB4.out.size hb5); have hcv5 : (convert 22 9 (.slice A5 1 c5)).run Try.prog w5 = .ok (.string (strB [0])) w5 := hs5.conv; have HS5 := Lib.hid hs5; clear hs5 hb5)
      refine hK.out _ _ ?_ (fun hHeld => ?_)
      · exact trivial
      clear hK K
      refine wpAnyH_ready (rs := [46]) (by kernel_rfl) (by simp) ?_
      refine AllReadyH.cons rfl (fun K hK => ?_) AllReadyH.nil
      go_simp
      refine hK.out _ _ ?_ (fun hHeld => ?_)
      · exact trivial
      clear hK K
      refine takeL 47 94 (v := ?_) rfl rfl (by kernel_rfl) (by kernel_rfl) (by kernel_rfl) (fun _ _ _ h => h) (Or.inl ⟨by rfl, ?hy47b⟩) hHeld ?rest47b
      case hy47b => intro W hS; (try dsimp only at hS); go_simp; try (with_reducible rfl)
      dsimp only [List.set]
      refine takeL 48 95 (v := ?_) rfl rfl (by kernel_rfl) (by kernel_rfl) (by kernel_rfl) (fun _ _ _ h => h) (Or.inl ⟨by rfl, ?hy48b⟩) hHeld ?rest48b
      case hy48b => intro W hS; (try dsimp only at hS); go_simp; try (with_reducible rfl)
      dsimp only [List.set]
      refine takeL 49 4 (v := ?_) rfl rfl (by kernel_rfl) (by kernel_rfl) (by kernel_rfl) (fun _ _ _ h => h) (Or.inl ⟨by rfl, ?hy49b⟩) hHeld ?rest49b
      case hy49b => intro W hS; (try dsimp only at hS); go_simp; try (with_reducible rfl)
      dsimp only [List.set]
      refine wpAnyH_done (by kernel_rfl) ?_ _
      go_wp2_with fail
      go_ret
      exact ⟨rfl, HB5.out⟩
    · go_simp
      refine hK.out _ _ ?_ (fun hHeld => ?_)
      · exact trivial
      clear hK K
      refine wpAnyH_ready (rs := [2]) (by kernel_rfl) (by simp) ?_
      refine AllReadyH.cons rfl (fun K hK => ?_) AllReadyH.nil
      go_simp
      refine hK.out _ _ ?_ (fun hHeld => ?_)
      · exact trivial
      clear hK K
      refine takeL 6 53 (v := ?_) rfl rfl (by kernel_rfl) (by kernel_rfl) (by kernel_rfl) (fun _ _ _ h => h) (Or.inl ⟨by rfl, ?hy6c⟩) hHeld ?rest6c
      case hy6c => intro W hS; (try dsimp only at hS); go_simp; try (with_reducible rfl)
      dsimp only [List.set]
      refine takeL 7 54 (v := ?_) rfl rfl (by kernel_rfl) (by kernel_rfl) (by kernel_rfl) (fun _ _ _ h => h) (Or.inl ⟨by rfl, ?hy7c⟩) hHeld ?rest7c
      case hy7c => intro W hS; (try dsimp only at hS); go_simp; try (with_reducible rfl)
      dsimp only [List.set]
      refine takeL 8 55 (v := ?_) rfl rfl (by kernel_rfl) (by kernel_rfl) (by kernel_rfl) (fun _ _ _ h => h) (Or.inl ⟨by rfl, ?hy8c⟩) hHeld ?rest8c
      case hy8c => intro W hS; (try dsimp only at hS); go_simp; try (with_reducible rfl)
      dsimp only [List.set]
      refine takeL 9 56 (v := ?_) rfl rfl (by kernel_rfl) (by kernel_rfl) (by kernel_rfl) (fun _ _ _ h => h) (Or.inl ⟨by rfl, ?hy9c⟩) hHeld ?rest9c
      case hy9c => intro W hS; (try dsimp only at hS); go_simp; try (with_reducible rfl)
      dsimp only [List.set]
      refine takeL 10 57 (v := ?_) rfl rfl (by kernel_rfl) (by kernel_rfl) (by kernel_rfl) (fun _ _ _ h => h) (Or.inl ⟨by rfl, ?hy10c⟩) hHeld ?rest10c
      case hy10c => intro W hS; (try dsimp only at hS); go_simp; try (with_reducible rfl)
      dsimp only [List.set]
      refine takeL 11 58 (v := ?_) rfl rfl (by kernel_rfl) (by kernel_rfl) (by kernel_rfl) (fun _ _ _ h => h) (Or.inl ⟨by rfl, ?hy11c⟩) hHeld ?rest11c
      case hy11c => intro W hS; (try dsimp only at hS); go_simp; try (with_reducible rfl)
      dsimp only [List.set]
      refine takeL 12 59 (v := ?_) rfl rfl (by kernel_rfl) (by kernel_rfl) (by kernel_rfl) (fun _ _ _ h => h) (Or.inl ⟨by rfl, ?hy12c⟩) hHeld ?rest12c
      case hy12c => intro W hS; (try dsimp only at hS); go_simp; try (with_reducible rfl)
      dsimp only [List.set]
      refine takeL 13 60 (v := ?_) rfl rfl (by kernel_rfl) (by kernel_rfl) (by kernel_rfl) (fun _ _ _ h => h) (Or.inl ⟨by rfl, ?hy13c⟩) hHeld ?rest13c
      case hy13c => intro W hS; (try dsimp only at hS); go_simp; try (with_reducible rfl)
      dsimp only [List.set]
      refine takeL 14 61 (v := ?_) rfl rfl (by kernel_rfl) (by kernel_rfl) (by kernel_rfl) (fun _ _ _ h => h) (Or.inl ⟨by rfl, ?hy14c⟩) hHeld ?rest14c
      case hy14c => intro W hS; (try dsimp only at hS); go_simp; try (with_reducible rfl)
      dsimp only [List.set]
      refine takeL 15 62 (v := ?_) rfl rfl (by kernel_rfl) (by kernel_rfl) (by kernel_rfl) (fun _ _ _ h => h) (Or.inl ⟨by rfl, ?hy15c⟩) hHeld ?rest15c
      case hy15c => intro W hS; (try dsimp only at hS); go_simp; try (with_reducible rfl)
      dsimp only [List.set]
      refine takeL 16 63 (v := ?_) rfl rfl (by kernel_rfl) (by kernel_rfl) (by kernel_rfl) (fun _ _ _ h => h) (Or.inl ⟨by rfl, ?hy16c⟩) hHeld ?rest16c
      case hy16c => intro W hS; (try dsimp only at hS); go_simp; try (with_reducible rfl)
      dsimp only [List.set]
      refine takeL 17 64 (v := ?_) rfl rfl (by kernel_rfl) (by kernel_rfl) (by kernel_rfl) (fun _ _ _ h => h) (Or.inl ⟨by rfl, ?hy17c⟩) hHeld ?rest17c
      case hy17c => intro W hS; (try dsimp only at hS); go_simp; try (with_reducible rfl)
      dsimp only [List.set]
      refine takeL 18 65 (v := ?_) rfl rfl (by kernel_rfl) (by kernel_rfl) (by kernel_rfl) (fun _ _ _ h => h) (Or.inl ⟨by rfl, ?hy18c⟩) hHeld ?rest18c
      case hy18c => intro W hS; (try dsimp only at hS); go_simp; try (with_reducible rfl)
      dsimp only [List.set]
      refine takeL 19 66 (v := ?_) rfl rfl (by kernel_rfl) (by kernel_rfl) (by kernel_rfl) (fun _ _ _ h => h) (Or.inl ⟨by rfl, ?hy19c⟩) hHeld ?rest19c
      case hy19c => intro W hS; (try dsimp only at hS); go_simp; try (with_reducible rfl)
      dsimp only [List.set]
      refine takeL 20 67 (v := ?_) rfl rfl (by kernel_rfl) (by kernel_rfl) (by kernel_rfl) (fun _ _ _ h => h) (Or.inl ⟨by rfl, ?hy20c⟩) hHeld ?rest20c
      case hy20c => intro W hS; (try dsimp only at hS); go_simp; try (with_reducible rfl)
      dsimp only [List.set]
      refine takeL 21 68 (v := ?_) rfl rfl (by kernel_rfl) (by kernel_rfl) (by kernel_rfl) (fun _ _ _ h => h) (Or.inl ⟨by rfl, ?hy21c⟩) hHeld ?rest21c
      case hy21c => intro W hS; (try dsimp only at hS); go_simp; try (with_reducible rfl)
      dsimp only [List.set]
      refine takeL 22 69 (v := ?_) rfl rfl (by kernel_rfl) (by kernel_rfl) (by kernel_rfl) (fun _ _ _ h => h) (Or.inl ⟨by rfl, ?hy22c⟩) hHeld ?rest22c
      case hy22c => intro W hS; (try dsimp only at hS); go_simp; try (with_reducible rfl)
      dsimp only [List.set]
      refine takeL 23 70 (v := ?_) rfl rfl (by kernel_rfl) (by kernel_rfl) (by kernel_rfl) (fun _ _ _ h => h) (Or.inl ⟨by rfl, ?hy23c⟩) hHeld ?rest23c
      case hy23c => intro W hS; (try dsimp only at hS); go_simp; try (with_reducible rfl)
      dsimp only [List.set]
      refine takeL 24 71 (v := ?_) rfl rfl (by kernel_rfl) (by kernel_rfl) (by kernel_rfl) (fun _ _ _ h => h) (Or.inl ⟨by rfl, ?hy24c⟩) hHeld ?rest24c
      case hy24c => intro W hS; (try dsimp only at hS); go_simp; try (with_reducible rfl)
      dsimp only [List.set]
      refine takeL 25 72 (v := ?_) rfl rfl (by kernel_rfl) (by kernel_rfl) (by kernel_rfl) (fun _ _ _ h => h) (Or.inl ⟨by rfl, ?hy25c⟩) hHeld ?rest25c
      case hy25c => intro W hS; (try dsimp only at hS); go_simp; try (with_reducible rfl)
      dsimp only [List.set]
      refine takeL 26 73 (v := ?_) rfl rfl (by kernel_rfl) (by kernel_rfl) (by kernel_rfl) (fun _ _ _ h => h) (Or.inl ⟨by rfl, ?hy26c⟩) hHeld ?rest26c
      case hy26c => intro W hS; (try dsimp only at hS); go_simp; try (with_reducible rfl)
      dsimp only [List.set]
      refine takeL 27 74 (v := undef) rfl rfl (by kernel_rfl) (by kernel_rfl) (by kernel_rfl) (fun _ _ _ h => h) (Or.inr ⟨by rfl, rfl⟩) hHeld ?rest27c
      dsimp only [List.set]
      refine takeL 28 75 (v := undef) rfl rfl (by kernel_rfl) (by kernel_rfl) (by kernel_rfl) (fun _ _ _ h => h) (Or.inr ⟨by rfl, rfl⟩) hHeld ?rest28c
      dsimp only [List.set]
      refine takeL 29 76 (v := undef) rfl rfl (by kernel_rfl) (by kernel_rfl) (by kernel_rfl) (fun _ _ _ h => h) (Or.inr ⟨by rfl, rfl⟩) hHeld ?rest29c
      dsimp only [List.set]
      refine takeL 30 77 (v := undef) rfl rfl (by kernel_rfl) (by kernel_rfl) (by kernel_rfl) (fun _ _ _ h => h) (Or.inr ⟨by rfl, rfl⟩) hHeld ?rest30c
      dsimp only [List.set]
      refine takeL 31 78 (v := ?_) rfl rfl (by kernel_rfl) (by kernel_rfl) (by kernel_rfl) (fun _ _ _ h => h) (Or.inl ⟨by rfl, ?hy31c⟩) hHeld ?rest31c
      case hy31c => intro W hS; (try dsimp only at hS); go_simp; try (with_reducible rfl)
      dsimp only [List.set]
      refine takeL 32 79 (v := ?_) rfl rfl (by kernel_rfl) (by kernel_rfl) (by kernel_rfl) (fun _ _ _ h => h) (Or.inl ⟨by rfl, ?hy32c⟩) hHeld ?rest32c
      case hy32c => intro W hS; (try dsimp only at hS); go_simp; try (with_reducible rfl)
      dsimp only [List.set]
      refine takeL 33 80 (v := ?_) rfl rfl (by kernel_rfl) (by kernel_rfl) (by kernel_rfl) (fun _ _ _ h => h) (Or.inl ⟨by rfl, ?hy33c⟩) hHeld ?rest33c
      case hy33c => intro W hS; (try dsimp only at hS); go_simp; try (with_reducible rfl)
      dsimp only [List.set]
      refine takeL 34 81 (v := ?_) rfl rfl (by kernel_rfl) (by kernel_rfl) (by kernel_rfl) (fun _ _ _ h => h) (Or.inl ⟨by rfl, ?hy34c⟩) hHeld ?rest34c
      case hy34c => intro W hS; (try dsimp only at hS); go_simp; try (with_reducible rfl)
      dsimp only [List.set]
      refine wpAnyH_ready (rs := [35]) (by kernel_rfl) (by simp) ?_
      refine AllReadyH.cons rfl (fun K hK => ?_) AllReadyH.nil
      go_simp
      go_wp2_with (go_at_call 7; (with_reducible refine (P3.out _).mono ?_); rintro e w3 ⟨A3, c3, rfl, hs3, hb3⟩; have HB3 := Lib.hid (show Below w.heap.size w w3 from by first | exact below_then HB2.out HB2.out.size hb3 | exact below_drew1 HB2.out HB2.out.size hb3); have hcv3 : (convert 22 9 (.slice A3 2 c3)).run Try.prog w3 = .ok (.string (strB [0, 128])) w3 := hs3.conv; have HS3 := Lib.hid hs3; clear hs3 hb3)
      refine hK.out _ _ ?_ (fun hHeld => ?_)
      · exact trivial
      clear hK K
      refine wpAnyH_ready (rs := [36]) (by kernel_rfl) (by simp) ?_
      refine AllReadyH.cons rfl (fun K hK => ?_) AllReadyH.nil
      go_simp
      refine hK.out _ _ ?_ (fun hHeld => ?_)
      · exact trivial
      clear hK K
      refine takeL 37 84 (v := ?_) rfl rfl (by kernel_rfl) (by kernel_rfl) (by kernel_rfl) (fun _ _ _ h => h) (Or.inl ⟨by rfl, ?hy37c⟩) hHeld ?rest37c
      case hy37c => intro W hS; (try dsimp only at hS); go_simp; try (with_reducible rfl)
      dsimp only [List.set]
      refine takeL 38 85 (v := ?_) rfl rfl (by kernel_rfl) (by kernel_rfl) (by kernel_rfl) (fun _ _ _ h => h) (Or.inl ⟨by rfl, ?hy38c⟩) hHeld ?rest38c
      case hy38c => intro W hS; (try dsimp only at hS); go_simp; try (with_reducible rfl)
      dsimp only [List.set]
      refine takeL 39 86 (v := ?_) rfl rfl (by kernel_rfl) (by kernel_rfl) (by kernel_rfl) (fun _ _ _ h => h) (Or.inl ⟨by rfl, ?hy39c⟩) hHeld ?rest39c
      case hy39c => intro W hS; (try dsimp only at hS); go_simp; try (with_reducible rfl)
      dsimp only [List.set]
      refine wpAnyH_ready (rs := [40]) (by kernel_rfl) (by simp) ?_
      refine AllReadyH.cons rfl (fun K hK => ?_) AllReadyH.nil
      go_simp
      go_wp2_with (go_at_call 9; (with_reducible refine (P4.out _).mono ?_); rintro e w4 ⟨A4, c4, rfl, hs4, hb4⟩; have HB4 := Lib.hid (show Below w.heap.size w w4 from by first | exact below_then HB3.out HB3.out.size hb4 | exact below_drew1 HB3.out HB3.out.size hb4); have hcv4 : (convert 22 9 (.slice A4 1 c4)).run Try.prog w4 = .ok (.string (strB [255])) w4 := hs4.conv; have HS4 := Lib.hid hs4; clear hs4 hb4)
      refine hK.out _ _ ?_ (fun hHeld => ?_)
      · exact trivial
      clear hK K
      refine wpAnyH_ready (rs := [41]) (by kernel_rfl) (by simp) ?_
      refine AllReadyH.cons rfl (fun K hK => ?_) AllReadyH.nil
      go_simp
      refine hK.out _ _ ?_ (fun hHeld => ?_)
      · exact trivial
      clear hK K
      refine takeL 42 89 (v := ?_) rfl rfl (by kernel_rfl) (by kernel_rfl) (by kernel_rfl) (fun _ _ _ h => h) (Or.inl ⟨by rfl, ?hy42c⟩) hHeld ?rest42c
      case hy42c => intro W hS; (try dsimp only at hS); go_simp; try (with_reducible rfl)
      dsimp only [List.set]
      refine takeL 43 90 (v := ?_) rfl rfl (by kernel_rfl) (by kernel_rfl) (by kernel_rfl) (fun _ _ _ h => h) (Or.inl ⟨by rfl, ?hy43c⟩) hHeld ?rest43c
      case hy43c => intro W hS; (try dsimp only at hS); go_simp; try (with_reducible rfl)
      dsimp only [List.set]
      refine takeL 44 91 (v := ?_) rfl rfl (by kernel_rfl) (by kernel_rfl) (by kernel_rfl) (fun _ _ _ h => h) (Or.inl ⟨by rfl, ?hy44c⟩) hHeld ?rest44c
      case hy44c => intro W hS; (try dsimp only at hS); go_simp; try (with_reducible rfl)
      dsimp only [List.set]
      refine wpAnyH_ready (rs := [45]) (by kernel_rfl) (by simp) ?_
      refine AllReadyH.cons rfl (fun K hK => ?_) AllReadyH.nil
      go_simp
      go_wp2_with (go_at_call 9; (with_reducible refine (P5.out _).mono ?_); rintro e w5 ⟨A5, c5, rfl, hs5, hb5⟩; have HB5 := Lib.hid (show Below w.heap.size w w5 from by first | exact below_then HB4.out HB4.out.size hb5 | exact below_drew1 HB4.out HB4.out.size hb5); have hcv5 : (convert 22 9 (.slice A5 1 c5)).run Try.prog w5 = .ok (.string (strB [0])) w5 := hs5.conv; have HS5 := Lib.hid hs5; clear hs5 hb5)
      refine hK.out _ _ ?_ (fun hHeld => ?_)
      · exact trivial
      clear hK K
      refine wpAnyH_ready (rs := [46]) (by kernel_rfl) (by simp) ?_
      refine AllReadyH.cons rfl (fun K hK => ?_) AllReadyH.nil
      go_simp
      refine hK.out _ _ ?_ (fun hHeld => ?_)
      · exact trivial
      clear hK K
      refine takeL 47 94 (v := ?_) rfl rfl (by kernel_rfl) (by kernel_rfl) (by kernel_rfl) (fun _ _ _ h => h) (Or.inl ⟨by rfl, ?hy47c⟩) hHeld ?rest47c
      case hy47c => intro W hS; (try dsimp only at hS); go_simp; try (with_reducible rfl)
      dsimp only [List.set]
      refine takeL 48 95 (v := ?_) rfl rfl (by kernel_rfl) (by kernel_rfl) (by kernel_rfl) (fun _ _ _ h => h) (Or.inl ⟨by rfl, ?hy48c⟩) hHeld ?rest48c
      case hy48c => intro W hS; (try dsimp only at hS); go_simp; try (with_reducible rfl)
      dsimp only [List.set]
      refine takeL 49 4 (v := ?_) rfl rfl (by kernel_rfl) (by kernel_rfl) (by kernel_rfl) (fun _ _ _ h => h) (Or.inl ⟨by rfl, ?hy49c⟩) hHeld ?rest49c
      case hy49c => intro W hS; (try dsimp only at hS); go_simp; try (with_reducible rfl)
      dsimp only [List.set]
      refine wpAnyH_done (by kernel_rfl) ?_ _
      go_wp2_with fail
      go_ret
      exact ⟨rfl, HB5.out⟩

set_option maxRecDepth 8000 in
set_option maxHeartbeats 1600000 in
theorem bytes_other (n : Int) (b off cp x : Nat) (k0 : ((x : Int) == 0) = false) (k1 : ((x : Int) == 255) = false) (w : World) (hx : Hid (∀ w1, Below w.heap.size w w1 → w1.cell? ⟨b, off, none⟩ = some (.int .u8 (x : Int)))) (R : List Nat) (q1 q2 y1 y2 : Int) (e2 : (q1 == y1) = true) (e3 : (q2 == y2) = true)
    (R1 : Hid (∀ w1, Below w.heap.size w w1 → Calls Try.prog 4 #[.slice (some ⟨b, off, none⟩) 1 cp] w1 fun e w' => e = .returned (.tuple #[.int .i64 q1, .int .i64 q2]) ∧ Below w1.heap.size w1 w'))
    (R2 : Hid (∀ w1, Below w.heap.size w w1 → Calls Try.prog 5 #[.slice (some ⟨b, off, none⟩) 1 cp] w1 fun e w' => e = .returned (.tuple #[.int .i64 y1, .int .i64 y2]) ∧ w1 = w'))
    (B1 : Hid (∀ w1, Below w.heap.size w w1 → Calls Try.prog 6 #[.slice (some ⟨b, off, none⟩) 1 cp] w1 fun e w' => e = .returned (.tuple #[.bool false, .int .i64 11]) ∧ w' = w1))
    (P1 : Hid (∀ w, Calls Try.prog 7 #[.int .i64 n] w fun e w' => ∃ A' c', e = .returned (.slice A' R.length c') ∧ Src w' w'.heap.size A' c' R ∧ Below w.heap.size w w'))
    (P2 : Hid (∀ w, Calls Try.prog 8 #[.int .i64 n] w fun e w' => ∃ A' c', e = .returned (.slice A' R.length c') ∧ Src w' w'.heap.size A' c' R ∧ Below w.heap.size w w'))
    (P3 : Hid (∀ w, Calls Try.prog 7 #[.int .i64 128] w fun e w' => ∃ A' c', e = .returned (.slice A' 2 c') ∧ Src w' w'.heap.size A' c' [0, 128] ∧ Below w.heap.size w w'))
    (P4 : Hid (∀ w, Calls Try.prog 9 #[.bool true] w fun e w' => ∃ A' c', e = .returned (.slice A' 1 c') ∧ Src w' w'.heap.size A' c' [255] ∧ Below w.heap.size w w'))
    (P5 : Hid (∀ w, Calls Try.prog 9 #[.bool false] w fun e w' => ∃ A' c', e = .returned (.slice A' 1 c') ∧ Src w' w'.heap.size A' c' [0] ∧ Below w.heap.size w w')) :
    Calls Try.prog 3 #[.int .i64 n, .slice (some ⟨b, off, none⟩) 1 cp] w fun e w' => e = .returned (.bool true) ∧ Below w.heap.size w w' := by
  have e1 := self_true (strB R)
  have e4 : ((strB [0, 128]).toList == [0, 128]) = true := by rw [strB_toList]; rfl
  have e5 : ((strB [255]).toList == [255]) = true := by rw [strB_toList]; rfl
  have e6 : ((strB [0]).toList == [0]) = true := by rw [strB_toList]; rfl
  go_enter Try.func3, Try.ntmps3
  go_wp2_with fail
  refine (R1.out _ (Below.refl _ _)).mono ?_
  rintro e w0 ⟨rfl, hb0⟩
  have HB0 := Lib.hid hb0
  clear hb0
  go_wp2_with fail
  refine (R2.out _ HB0.out).mono ?_
  rintro e wz ⟨rfl, hwz⟩
  subst hwz
  go_wp2_with fail
  refine (B1.out _ HB0.out).mono ?_
  rintro e wz ⟨rfl, hwz⟩
  subst hwz
  have hx0 := hx.out _ HB0.out
  go_wp2_with fail
  refine wp_region_held_drew (S := fun _ => True) (by kernel_rfl) trivial ?_
  intro hHeld
  refine takeL 0 47 (v := ?_) rfl rfl (by kernel_rfl) (by kernel_rfl) (by kernel_rfl) (fun _ _ _ h => h) (Or.inl ⟨by rfl, ?hy0⟩) hHeld ?rest0
  case hy0 => intro W hS; (try dsimp only at hS); go_simp; try (with_reducible rfl)
  dsimp only [List.set]
  refine takeL 3 50 (v := ?_) rfl rfl (by kernel_rfl) (by kernel_rfl) (by kernel_rfl) (fun _ _ _ h => h) (Or.inl ⟨by rfl, ?hy3⟩) hHeld ?rest3
  case hy3 => intro W hS; (try dsimp only at hS); go_simp; try (with_reducible rfl)
  dsimp only [List.set]
  refine wpAnyH_ready (rs := [1]) (by kernel_rfl) (by simp) ?_
  refine AllReadyH.cons rfl (fun K hK => ?_) AllReadyH.nil
  go_simp
  go_wp2_with (go_at_call 7; (with_reducible refine (P1.out _).mono ?_); rintro e w1 ⟨A1, c1, rfl, hs1, hb1⟩; have HB1 := Lib.hid (show Below w.heap.size w w1 from by first | exact below_then HB0.out HB0.out.size hb1 | exact below_drew1 HB0.out HB0.out.size hb1); have hcv1 : (convert 22 9 (.slice A1 R.length c1)).run Try.prog w1 = .ok (.string (strB R)) w1 := hs1.conv; have HS1 := Lib.hid hs1; clear hs1 hb1)
  refine hK.out _ _ ?_ (fun hHeld => ?_)
  · exact trivial
  clear hK K
  refine wpAnyH_ready (rs := [2, 4]) (by kernel_rfl) (by simp) ?_
  refine AllReadyH.cons rfl (fun K hK => ?_) (AllReadyH.cons rfl (fun K hK => ?_) AllReadyH.nil)
  · go_simp
    refine hK.out _ _ ?_ (fun hHeld => ?_)
    · exact trivial
    clear hK K
    refine wpAnyH_ready (rs := [4]) (by kernel_rfl) (by simp) ?_
    refine AllReadyH.cons rfl (fun K hK => ?_) AllReadyH.nil
    go_simp
    go_wp2_with (go_at_call 8; (with_reducible refine (P2.out _).mono ?_); rintro e w2 ⟨A2, c2, rfl, hs2, hb2⟩; have HB2 := Lib.hid (show Below w.heap.size w w2 from by first | exact below_then HB1.out HB1.out.size hb2 | exact below_drew1 HB1.out HB1.out.size hb2); have hcv2 : (convert 22 9 (.slice A2 R.length c2)).run Try.prog w2 = .ok (.string (strB R)) w2 := hs2.conv; have hcv12 : (convert 22 9 (.slice A1 R.length c1)).run Try.prog w2 = .ok (.string (strB R)) w2 := (HS1.out.below (by first | exact hb2 | exact below_drew1 (Below.refl _ _) (Nat.le_refl _) hb2)).conv; have HS2 := Lib.hid hs2; clear hs2 hb2)
    refine hK.out _ _ ?_ (fun hHeld => ?_)
    · exact trivial
    clear hK K
    refine wpAnyH_ready (rs := [5]) (by kernel_rfl) (by simp) ?_
    refine AllReadyH.cons rfl (fun K hK => ?_) AllReadyH.nil
    go_simp
    refine hK.out _ _ ?_ (fun hHeld => ?_)
    · exact trivial
    clear hK K
    refine takeL 6 53 (v := ?_) rfl rfl (by kernel_rfl) (by kernel_rfl) (by kernel_rfl) (fun _ _ _ h => h) (Or.inl ⟨by rfl, ?hy6a⟩) hHeld ?rest6a
    case hy6a => intro W hS; (try dsimp only at hS); go_simp; try (with_reducible rfl)
    dsimp only [List.set]
    refine takeL 7 54 (v := ?_) rfl rfl (by kernel_rfl) (by kernel_rfl) (by kernel_rfl) (fun _ _ _ h => h) (Or.inl ⟨by rfl, ?hy7a⟩) hHeld ?rest7a
    case hy7a => intro W hS; (try dsimp only at hS); go_simp; try (with_reducible rfl)
    dsimp only [List.set]
    refine takeL 8 55 (v := ?_) rfl rfl (by kernel_rfl) (by kernel_rfl) (by kernel_rfl) (fun _ _ _ h => h) (Or.inl ⟨by rfl, ?hy8a⟩) hHeld ?rest8a
    case hy8a => intro W hS; (try dsimp only at hS); go_simp; try (with_reducible rfl)
    dsimp only [List.set]
    refine takeL 9 56 (v := ?_) rfl rfl (by kernel_rfl) (by kernel_rfl) (by kernel_rfl) (fun _ _ _ h => h) (Or.inl ⟨by rfl, ?hy9a⟩) hHeld ?rest9a
    case hy9a => intro W hS; (try dsimp only at hS); go_simp; try (with_reducible rfl)
    dsimp only [List.set]
    refine takeL 10 57 (v := ?_) rfl rfl (by kernel_rfl) (by kernel_rfl) (by kernel_rfl) (fun _ _ _ h => h) (Or.inl ⟨by rfl, ?hy10a⟩) hHeld ?rest10a
    case hy10a => intro W hS; (try dsimp only at hS); go_simp; try (with_reducible rfl)
    dsimp only [List.set]
    refine takeL 11 58 (v := ?_) rfl rfl (by kernel_rfl) (by kernel_rfl) (by kernel_rfl) (fun _ _ _ h => h) (Or.inl ⟨by rfl, ?hy11a⟩) hHeld ?rest11a
    case hy11a => intro W hS; (try dsimp only at hS); go_simp; try (with_reducible rfl)
    dsimp only [List.set]
    refine takeL 12 59 (v := ?_) rfl rfl (by kernel_rfl) (by kernel_rfl) (by kernel_rfl) (fun _ _ _ h => h) (Or.inl ⟨by rfl, ?hy12a⟩) hHeld ?rest12a
    case hy12a => intro W hS; (try dsimp only at hS); go_simp; try (with_reducible rfl)
    dsimp only [List.set]
    refine takeL 13 60 (v := ?_) rfl rfl (by kernel_rfl) (by kernel_rfl) (by kernel_rfl) (fun _ _ _ h => h) (Or.inl ⟨by rfl, ?hy13a⟩) hHeld ?rest13a
    case hy13a => intro W hS; (try dsimp only at hS); go_simp; try (with_reducible rfl)
    dsimp only [List.set]
    refine takeL 14 61 (v := ?_) rfl rfl (by kernel_rfl) (by kernel_rfl) (by kernel_rfl) (fun _ _ _ h => h) (Or.inl ⟨by rfl, ?hy14a⟩) hHeld ?rest14a
    case hy14a => intro W hS; (try dsimp only at hS); go_simp; try (with_reducible rfl)
    dsimp only [List.set]
    refine takeL 15 62 (v := ?_) rfl rfl (by kernel_rfl) (by kernel_rfl) (by kernel_rfl) (fun _ _ _ h => h) (Or.inl ⟨by rfl, ?hy15a⟩) hHeld ?rest15a
    case hy15a => intro W hS; (try dsimp only at hS); go_simp; try (with_reducible rfl)
    dsimp only [List.set]
    refine takeL 16 63 (v := ?_) rfl rfl (by kernel_rfl) (by kernel_rfl) (by kernel_rfl) (fun _ _ _ h => h) (Or.inl ⟨by rfl, ?hy16a⟩) hHeld ?rest16a
    case hy16a => intro W hS; (try dsimp only at hS); go_simp; try (with_reducible rfl)
    dsimp only [List.set]
    refine takeL 17 64 (v := ?_) rfl rfl (by kernel_rfl) (by kernel_rfl) (by kernel_rfl) (fun _ _ _ h => h) (Or.inl ⟨by rfl, ?hy17a⟩) hHeld ?rest17a
    case hy17a => intro W hS; (try dsimp only at hS); go_simp; try (with_reducible rfl)
    dsimp only [List.set]
    refine takeL 18 65 (v := ?_) rfl rfl (by kernel_rfl) (by kernel_rfl) (by kernel_rfl) (fun _ _ _ h => h) (Or.inl ⟨by rfl, ?hy18a⟩) hHeld ?rest18a
    case hy18a => intro W hS; (try dsimp only at hS); go_simp; try (with_reducible rfl)
    dsimp only [List.set]
    refine takeL 19 66 (v := ?_) rfl rfl (by kernel_rfl) (by kernel_rfl) (by kernel_rfl) (fun _ _ _ h => h) (Or.inl ⟨by rfl, ?hy19a⟩) hHeld ?rest19a
    case hy19a => intro W hS; (try dsimp only at hS); go_simp; try (with_reducible rfl)
    dsimp only [List.set]
    refine takeL 20 67 (v := ?_) rfl rfl (by kernel_rfl) (by kernel_rfl) (by kernel_rfl) (fun _ _ _ h => h) (Or.inl ⟨by rfl, ?hy20a⟩) hHeld ?rest20a
    case hy20a => intro W hS; (try dsimp only at hS); go_simp; try (with_reducible rfl)
    dsimp only [List.set]
    refine takeL 21 68 (v := ?_) rfl rfl (by kernel_rfl) (by kernel_rfl) (by kernel_rfl) (fun _ _ _ h => h) (Or.inl ⟨by rfl, ?hy21a⟩) hHeld ?rest21a
    case hy21a => intro W hS; (try dsimp only at hS); go_simp; try (with_reducible rfl)
    dsimp only [List.set]
    refine takeL 22 69 (v := ?_) rfl rfl (by kernel_rfl) (by kernel_rfl) (by kernel_rfl) (fun _ _ _ h => h) (Or.inl ⟨by rfl, ?hy22a⟩) hHeld ?rest22a
    case hy22a => intro W hS; (try dsimp only at hS); go_simp; try (with_reducible rfl)
    dsimp only [List.set]
    refine takeL 23 70 (v := ?_) rfl rfl (by kernel_rfl) (by kernel_rfl) (by kernel_rfl) (fun _ _ _ h => h) (Or.inl ⟨by rfl, ?hy23a⟩) hHeld ?rest23a
    case hy23a => intro W hS; (try dsimp only at hS); go_simp; try (with_reducible rfl)
    dsimp only [List.set]
    refine takeL 24 71 (v := ?_) rfl rfl (by kernel_rfl) (by kernel_rfl) (by kernel_rfl) (fun _ _ _ h => h) (Or.inl ⟨by rfl, ?hy24a⟩) hHeld ?rest24a
    case hy24a => intro W hS; (try dsimp only at hS); go_simp; try (with_reducible rfl)
    dsimp only [List.set]
    refine takeL 25 72 (v := ?_) rfl rfl (by kernel_rfl) (by kernel_rfl) (by kernel_rfl) (fun _ _ _ h => h) (Or.inl ⟨by rfl, ?hy25a⟩) hHeld ?rest25a
    case hy25a => intro W hS; (try dsimp only at hS); go_simp; try (with_reducible rfl)
    dsimp only [List.set]
    refine takeL 26 73 (v := ?_) rfl rfl (by kernel_rfl) (by kernel_rfl) (by kernel_rfl) (fun _ _ _ h => h) (Or.inl ⟨by rfl, ?hy26a⟩) hHeld ?rest26a
    case hy26a => intro W hS; (try dsimp only at hS); go_simp; try (with_reducible rfl)
    dsimp only [List.set]
    refine takeL 27 74 (v := undef) rfl rfl (by kernel_rfl) (by kernel_rfl) (by kernel_rfl) (fun _ _ _ h => h) (Or.inr ⟨by rfl, rfl⟩) hHeld ?rest27a
    dsimp only [List.set]
    refine takeL 28 75 (v := undef) rfl rfl (by kernel_rfl) (by kernel_rfl) (by kernel_rfl) (fun _ _ _ h => h) (Or.inr ⟨by rfl, rfl⟩) hHeld ?rest28a
    dsimp only [List.set]
    refine takeL 29 76 (v := undef) rfl rfl (by kernel_rfl) (by kernel_rfl) (by kernel_rfl) (fun _ _ _ h => h) (Or.inr ⟨by rfl, rfl⟩) hHeld ?rest29a
    dsimp only [List.set]
    refine takeL 30 77 (v := undef) rfl rfl (by kernel_rfl) (by kernel_rfl) (by kernel_rfl) (fun _ _ _ h => h) (Or.inr ⟨by rfl, rfl⟩) hHeld ?rest30a
    dsimp only [List.set]
    refine takeL 31 78 (v := ?_) rfl rfl (by kernel_rfl) (by kernel_rfl) (by kernel_rfl) (fun _ _ _ h => h) (Or.inl ⟨by rfl, ?hy31a⟩) hHeld ?rest31a
    case hy31a => intro W hS; (try dsimp only at hS); go_simp; try (with_reducible rfl)
    dsimp only [List.set]
    refine takeL 32 79 (v := ?_) rfl rfl (by kernel_rfl) (by kernel_rfl) (by kernel_rfl) (fun _ _ _ h => h) (Or.inl ⟨by rfl, ?hy32a⟩) hHeld ?rest32a
    case hy32a => intro W hS; (try dsimp only at hS); go_simp; try (with_reducible rfl)
    dsimp only [List.set]
    refine takeL 33 80 (v := ?_) rfl rfl (by kernel_rfl) (by kernel_rfl) (by kernel_rfl) (fun _ _ _ h => h) (Or.inl ⟨by rfl, ?hy33a⟩) hHeld ?rest33a
    case hy33a => intro W hS; (try dsimp only at hS); go_simp; try (with_reducible rfl)
    dsimp only [List.set]
    refine takeL 34 81 (v := ?_) rfl rfl (by kernel_rfl) (by kernel_rfl) (by kernel_rfl) (fun _ _ _ h => h) (Or.inl ⟨by rfl, ?hy34a⟩) hHeld ?rest34a
    case hy34a => intro W hS; (try dsimp only at hS); go_simp; try (with_reducible rfl)
    dsimp only [List.set]
    refine wpAnyH_ready (rs := [35]) (by kernel_rfl) (by simp) ?_
    refine AllReadyH.cons rfl (fun K hK => ?_) AllReadyH.nil
    go_simp
    go_wp2_with (go_at_call 7; (with_reducible refine (P3.out _).mono ?_); rintro e w3 ⟨A3, c3, rfl, hs3, hb3⟩; have HB3 := Lib.hid (show Below w.heap.size w w3 from by first | exact below_then HB2.out HB2.out.size hb3 | exact below_drew1 HB2.out HB2.out.size hb3); have hcv3 : (convert 22 9 (.slice A3 2 c3)).run Try.prog w3 = .ok (.string (strB [0, 128])) w3 := hs3.conv; have HS3 := Lib.hid hs3; clear hs3 hb3)
    refine hK.out _ _ ?_ (fun hHeld => ?_)
    · exact trivial
    clear hK K
    refine wpAnyH_ready (rs := [36]) (by kernel_rfl) (by simp) ?_
    refine AllReadyH.cons rfl (fun K hK => ?_) AllReadyH.nil
    go_simp
    refine hK.out _ _ ?_ (fun hHeld => ?_)
    · exact trivial
    clear hK K
    refine takeL 37 84 (v := ?_) rfl rfl (by kernel_rfl) (by kernel_rfl) (by kernel_rfl) (fun _ _ _ h => h) (Or.inl ⟨by rfl, ?hy37a⟩) hHeld ?rest37a
    case hy37a => intro W hS; (try dsimp only at hS); go_simp; try (with_reducible rfl)
    dsimp only [List.set]
    refine takeL 38 85 (v := ?_) rfl rfl (by kernel_rfl) (by kernel_rfl) (by kernel_rfl) (fun _ _ _ h => h) (Or.inl ⟨by rfl, ?hy38a⟩) hHeld ?rest38a
    case hy38a => intro W hS; (try dsimp only at hS); go_simp; try (with_reducible rfl)
    dsimp only [List.set]
    refine takeL 39 86 (v := ?_) rfl rfl (by kernel_rfl) (by kernel_rfl) (by kernel_rfl) (fun _ _ _ h => h) (Or.inl ⟨by rfl, ?hy39a⟩) hHeld ?rest39a
    case hy39a => intro W hS; (try dsimp only at hS); go_simp; try (with_reducible rfl)
    dsimp only [List.set]
    refine wpAnyH_ready (rs := [40]) (by kernel_rfl) (by simp) ?_
    refine AllReadyH.cons rfl (fun K hK => ?_) AllReadyH.nil
    go_simp
    go_wp2_with (go_at_call 9; (with_reducible refine (P4.out _).mono ?_); rintro e w4 ⟨A4, c4, rfl, hs4, hb4⟩; have HB4 := Lib.hid (show Below w.heap.size w w4 from by first | exact below_then HB3.out HB3.out.size hb4 | exact below_drew1 HB3.out HB3.out.size hb4); have hcv4 : (convert 22 9 (.slice A4 1 c4)).run Try.prog w4 = .ok (.string (strB [255])) w4 := hs4.conv; have HS4 := Lib.hid hs4; clear hs4 hb4)
    refine hK.out _ _ ?_ (fun hHeld => ?_)
    · exact trivial
    clear hK K
    refine wpAnyH_ready (rs := [41]) (by kernel_rfl) (by simp) ?_
    refine AllReadyH.cons rfl (fun K hK => ?_) AllReadyH.nil
    go_simp
    refine hK.out _ _ ?_ (fun hHeld => ?_)
    · exact trivial
    clear hK K
    refine takeL 42 89 (v := ?_) rfl rfl (by kernel_rfl) (by kernel_rfl) (by kernel_rfl) (fun _ _ _ h => h) (Or.inl ⟨by rfl, ?hy42a⟩) hHeld ?rest42a
    case hy42a => intro W hS; (try dsimp only at hS); go_simp; try (with_reducible rfl)
    dsimp only [List.set]
    refine takeL 43 90 (v := ?_) rfl rfl (by kernel_rfl) (by kernel_rfl) (by kernel_rfl) (fun _ _ _ h => h) (Or.inl ⟨by rfl, ?hy43a⟩) hHeld ?rest43a
    case hy43a => intro W hS; (try dsimp only at hS); go_simp; try (with_reducible rfl)
    dsimp only [List.set]
    refine takeL 44 91 (v := ?_) rfl rfl (by kernel_rfl) (by kernel_rfl) (by kernel_rfl) (fun _ _ _ h => h) (Or.inl ⟨by rfl, ?hy44a⟩) hHeld ?rest44a
    case hy44a => intro W hS; (try dsimp only at hS); go_simp; try (with_reducible rfl)
    dsimp only [List.set]
    refine wpAnyH_ready (rs := [45]) (by kernel_rfl) (by simp) ?_
    refine AllReadyH.cons rfl (fun K hK => ?_) AllReadyH.nil
    go_simp
    go_wp2_with (go_at_call 9; (with_reducible refine (P5.out _).mono ?_); rintro e w5 ⟨A5, c5, rfl, hs5, hb5⟩; have HB5 := Lib.hid (show Below w.heap.size w w5 from by first | exact below_then HB4.out HB4.out.size hb5 | exact below_drew1 HB4.out HB4.out.size hb5); have hcv5 : (convert 22 9 (.slice A5 1 c5)).run Try.prog w5 = .ok (.string (strB [0])) w5 := hs5.conv; have HS5 := Lib.hid hs5; clear hs5 hb5)
    refine hK.out _ _ ?_ (fun hHeld => ?_)
    · exact trivial
    clear hK K
    refine wpAnyH_ready (rs := [46]) (by kernel_rfl) (by simp) ?_
    refine AllReadyH.cons rfl (fun K hK => ?_) AllReadyH.nil
    go_simp
    refine hK.out _ _ ?_ (fun hHeld => ?_)
    · exact trivial
    clear hK K
    refine takeL 47 94 (v := ?_) rfl rfl (by kernel_rfl) (by kernel_rfl) (by kernel_rfl) (fun _ _ _ h => h) (Or.inl ⟨by rfl, ?hy47a⟩) hHeld ?rest47a
    case hy47a => intro W hS; (try dsimp only at hS); go_simp; try (with_reducible rfl)
    dsimp only [List.set]
    refine takeL 48 95 (v := ?_) rfl rfl (by kernel_rfl) (by kernel_rfl) (by kernel_rfl) (fun _ _ _ h => h) (Or.inl ⟨by rfl, ?hy48a⟩) hHeld ?rest48a
    case hy48a => intro W hS; (try dsimp only at hS); go_simp; try (with_reducible rfl)
    dsimp only [List.set]
    refine takeL 49 4 (v := ?_) rfl rfl (by kernel_rfl) (by kernel_rfl) (by kernel_rfl) (fun _ _ _ h => h) (Or.inl ⟨by rfl, ?hy49a⟩) hHeld ?rest49a
    case hy49a => intro W hS; (try dsimp only at hS); go_simp; try (with_reducible rfl)
    dsimp only [List.set]
    refine wpAnyH_done (by kernel_rfl) ?_ _
    go_wp2_with fail
    go_ret
    exact ⟨rfl, HB5.out⟩
  · go_simp
    go_wp2_with (go_at_call 8; (with_reducible refine (P2.out _).mono ?_); rintro e w2 ⟨A2, c2, rfl, hs2, hb2⟩; have HB2 := Lib.hid (show Below w.heap.size w w2 from by first | exact below_then HB1.out HB1.out.size hb2 | exact below_drew1 HB1.out HB1.out.size hb2); have hcv2 : (convert 22 9 (.slice A2 R.length c2)).run Try.prog w2 = .ok (.string (strB R)) w2 := hs2.conv; have hcv12 : (convert 22 9 (.slice A1 R.length c1)).run Try.prog w2 = .ok (.string (strB R)) w2 := (HS1.out.below (by first | exact hb2 | exact below_drew1 (Below.refl _ _) (Nat.le_refl _) hb2)).conv; have HS2 := Lib.hid hs2; clear hs2 hb2)
    refine hK.out _ _ ?_ (fun hHeld => ?_)
    · exact trivial
    clear hK K
    refine wpAnyH_ready (rs := [2, 5]) (by kernel_rfl) (by simp) ?_
    refine AllReadyH.cons rfl (fun K hK => ?_) (AllReadyH.cons rfl (fun K hK => ?_) AllReadyH.nil)
    · go_simp
      refine hK.out _ _ ?_ (fun hHeld => ?_)
      · exact trivial
      clear hK K
      refine wpAnyH_ready (rs := [5]) (by kernel_rfl) (by simp) ?_
      refine AllReadyH.cons rfl (fun K hK => ?_) AllReadyH.nil
      go_simp
      refine hK.out _ _ ?_ (fun hHeld => ?_)
      · exact trivial
      clear hK K
      refine takeL 6 53 (v := ?_) rfl rfl (by kernel_rfl) (by kernel_rfl) (by kernel_rfl) (fun _ _ _ h => h) (Or.inl ⟨by rfl, ?hy6b⟩) hHeld ?rest6b
      case hy6b => intro W hS; (try dsimp only at hS); go_simp; try (with_reducible rfl)
      dsimp only [List.set]
      refine takeL 7 54 (v := ?_) rfl rfl (by kernel_rfl) (by kernel_rfl) (by kernel_rfl) (fun _ _ _ h => h) (Or.inl ⟨by rfl, ?hy7b⟩) hHeld ?rest7b
      case hy7b => intro W hS; (try dsimp only at hS); go_simp; try (with_reducible rfl)
      dsimp only [List.set]
      refine takeL 8 55 (v := ?_) rfl rfl (by kernel_rfl) (by kernel_rfl) (by kernel_rfl) (fun _ _ _ h => h) (Or.inl ⟨by rfl, ?hy8b⟩) hHeld ?rest8b
      case hy8b => intro W hS; (try dsimp only at hS); go_simp; try (with_reducible rfl)
      dsimp only [List.set]
      refine takeL 9 56 (v := ?_) rfl rfl (by kernel_rfl) (by kernel_rfl) (by kernel_rfl) (fun _ _ _ h => h) (Or.inl ⟨by rfl, ?hy9b⟩) hHeld ?rest9b
      case hy9b => intro W hS; (try dsimp only at hS); go_simp; try (with_reducible rfl)
      dsimp only [List.set]
      refine takeL 10 57 (v := ?_) rfl rfl (by kernel_rfl) (by kernel_rfl) (by kernel_rfl) (fun _ _ _ h => h) (Or.inl ⟨by rfl, ?hy10b⟩) hHeld ?rest10b
      case hy10b => intro W hS; (try dsimp only at hS); go_simp; try (with_reducible rfl)
      dsimp only [List.set]
      refine takeL 11 58 (v := ?_) rfl rfl (by kernel_rfl) (by kernel_rfl) (by kernel_rfl) (fun _ _ _ h => h) (Or.inl ⟨by rfl, ?hy11b⟩) hHeld ?rest11b
      case hy11b => intro W hS; (try dsimp only at hS); go_simp; try (with_reducible rfl)
      dsimp only [List.set]
      refine takeL 12 59 (v := ?_) rfl rfl (by kernel_rfl) (by kernel_rfl) (by kernel_rfl) (fun _ _ _ h => h) (Or.inl ⟨by rfl, ?hy12b⟩) hHeld ?rest12b
      case hy12b => intro W hS; (try dsimp only at hS); go_simp; try (with_reducible rfl)
      dsimp only [List.set]
      refine takeL 13 60 (v := ?_) rfl rfl (by kernel_rfl) (by kernel_rfl) (by kernel_rfl) (fun _ _ _ h => h) (Or.inl ⟨by rfl, ?hy13b⟩) hHeld ?rest13b
      case hy13b => intro W hS; (try dsimp only at hS); go_simp; try (with_reducible rfl)
      dsimp only [List.set]
      refine takeL 14 61 (v := ?_) rfl rfl (by kernel_rfl) (by kernel_rfl) (by kernel_rfl) (fun _ _ _ h => h) (Or.inl ⟨by rfl, ?hy14b⟩) hHeld ?rest14b
      case hy14b => intro W hS; (try dsimp only at hS); go_simp; try (with_reducible rfl)
      dsimp only [List.set]
      refine takeL 15 62 (v := ?_) rfl rfl (by kernel_rfl) (by kernel_rfl) (by kernel_rfl) (fun _ _ _ h => h) (Or.inl ⟨by rfl, ?hy15b⟩) hHeld ?rest15b
      case hy15b => intro W hS; (try dsimp only at hS); go_simp; try (with_reducible rfl)
      dsimp only [List.set]
      refine takeL 16 63 (v := ?_) rfl rfl (by kernel_rfl) (by kernel_rfl) (by kernel_rfl) (fun _ _ _ h => h) (Or.inl ⟨by rfl, ?hy16b⟩) hHeld ?rest16b
      case hy16b => intro W hS; (try dsimp only at hS); go_simp; try (with_reducible rfl)
      dsimp only [List.set]
      refine takeL 17 64 (v := ?_) rfl rfl (by kernel_rfl) (by kernel_rfl) (by kernel_rfl) (fun _ _ _ h => h) (Or.inl ⟨by rfl, ?hy17b⟩) hHeld ?rest17b
      case hy17b => intro W hS; (try dsimp only at hS); go_simp; try (with_reducible rfl)
      dsimp only [List.set]
      refine takeL 18 65 (v := ?_) rfl rfl (by kernel_rfl) (by kernel_rfl) (by kernel_rfl) (fun _ _ _ h => h) (Or.inl ⟨by rfl, ?hy18b⟩) hHeld ?rest18b
      case hy18b => intro W hS; (try dsimp only at hS); go_simp; try (with_reducible rfl)
      dsimp only [List.set]
      refine takeL 19 66 (v := ?_) rfl rfl (by kernel_rfl) (by kernel_rfl) (by kernel_rfl) (fun _ _ _ h => h) (Or.inl ⟨by rfl, ?hy19b⟩) hHeld ?rest19b
      case hy19b => intro W hS; (try dsimp only at hS); go_simp; try (with_reducible rfl)
      dsimp only [List.set]
      refine takeL 20 67 (v := ?_) rfl rfl (by kernel_rfl) (by kernel_rfl) (by kernel_rfl) (fun _ _ _ h => h) (Or.inl ⟨by rfl, ?hy20b⟩) hHeld ?rest20b
      case hy20b => intro W hS; (try dsimp only at hS); go_simp; try (with_reducible rfl)
      dsimp only [List.set]
      refine takeL 21 68 (v := ?_) rfl rfl (by kernel_rfl) (by kernel_rfl) (by kernel_rfl) (fun _ _ _ h => h) (Or.inl ⟨by rfl, ?hy21b⟩) hHeld ?rest21b
      case hy21b => intro W hS; (try dsimp only at hS); go_simp; try (with_reducible rfl)
      dsimp only [List.set]
      refine takeL 22 69 (v := ?_) rfl rfl (by kernel_rfl) (by kernel_rfl) (by kernel_rfl) (fun _ _ _ h => h) (Or.inl ⟨by rfl, ?hy22b⟩) hHeld ?rest22b
      case hy22b => intro W hS; (try dsimp only at hS); go_simp; try (with_reducible rfl)
      dsimp only [List.set]
      refine takeL 23 70 (v := ?_) rfl rfl (by kernel_rfl) (by kernel_rfl) (by kernel_rfl) (fun _ _ _ h => h) (Or.inl ⟨by rfl, ?hy23b⟩) hHeld ?rest23b
      case hy23b => intro W hS; (try dsimp only at hS); go_simp; try (with_reducible rfl)
      dsimp only [List.set]
      refine takeL 24 71 (v := ?_) rfl rfl (by kernel_rfl) (by kernel_rfl) (by kernel_rfl) (fun _ _ _ h => h) (Or.inl ⟨by rfl, ?hy24b⟩) hHeld ?rest24b
      case hy24b => intro W hS; (try dsimp only at hS); go_simp; try (with_reducible rfl)
      dsimp only [List.set]
      refine takeL 25 72 (v := ?_) rfl rfl (by kernel_rfl) (by kernel_rfl) (by kernel_rfl) (fun _ _ _ h => h) (Or.inl ⟨by rfl, ?hy25b⟩) hHeld ?rest25b
      case hy25b => intro W hS; (try dsimp only at hS); go_simp; try (with_reducible rfl)
      dsimp only [List.set]
      refine takeL 26 73 (v := ?_) rfl rfl (by kernel_rfl) (by kernel_rfl) (by kernel_rfl) (fun _ _ _ h => h) (Or.inl ⟨by rfl, ?hy26b⟩) hHeld ?rest26b
      case hy26b => intro W hS; (try dsimp only at hS); go_simp; try (with_reducible rfl)
      dsimp only [List.set]
      refine takeL 27 74 (v := undef) rfl rfl (by kernel_rfl) (by kernel_rfl) (by kernel_rfl) (fun _ _ _ h => h) (Or.inr ⟨by rfl, rfl⟩) hHeld ?rest27b
      dsimp only [List.set]
      refine takeL 28 75 (v := undef) rfl rfl (by kernel_rfl) (by kernel_rfl) (by kernel_rfl) (fun _ _ _ h => h) (Or.inr ⟨by rfl, rfl⟩) hHeld ?rest28b
      dsimp only [List.set]
      refine takeL 29 76 (v := undef) rfl rfl (by kernel_rfl) (by kernel_rfl) (by kernel_rfl) (fun _ _ _ h => h) (Or.inr ⟨by rfl, rfl⟩) hHeld ?rest29b
      dsimp only [List.set]
      refine takeL 30 77 (v := undef) rfl rfl (by kernel_rfl) (by kernel_rfl) (by kernel_rfl) (fun _ _ _ h => h) (Or.inr ⟨by rfl, rfl⟩) hHeld ?rest30b
      dsimp only [List.set]
      refine takeL 31 78 (v := ?_) rfl rfl (by kernel_rfl) (by kernel_rfl) (by kernel_rfl) (fun _ _ _ h => h) (Or.inl ⟨by rfl, ?hy31b⟩) hHeld ?rest31b
      case hy31b => intro W hS; (try dsimp only at hS); go_simp; try (with_reducible rfl)
      dsimp only [List.set]
      refine takeL 32 79 (v := ?_) rfl rfl (by kernel_rfl) (by kernel_rfl) (by kernel_rfl) (fun _ _ _ h => h) (Or.inl ⟨by rfl, ?hy32b⟩) hHeld ?rest32b
      case hy32b => intro W hS; (try dsimp only at hS); go_simp; try (with_reducible rfl)
      dsimp only [List.set]
      refine takeL 33 80 (v := ?_) rfl rfl (by kernel_rfl) (by kernel_rfl) (by kernel_rfl) (fun _ _ _ h => h) (Or.inl ⟨by rfl, ?hy33b⟩) hHeld ?rest33b
      case hy33b => intro W hS; (try dsimp only at hS); go_simp; try (with_reducible rfl)
      dsimp only [List.set]
      refine takeL 34 81 (v := ?_) rfl rfl (by kernel_rfl) (by kernel_rfl) (by kernel_rfl) (fun _ _ _ h => h) (Or.inl ⟨by rfl, ?hy34b⟩) hHeld ?rest34b
      case hy34b => intro W hS; (try dsimp only at hS); go_simp; try (with_reducible rfl)
      dsimp only [List.set]
      refine wpAnyH_ready (rs := [35]) (by kernel_rfl) (by simp) ?_
      refine AllReadyH.cons rfl (fun K hK => ?_) AllReadyH.nil
      go_simp
      go_wp2_with (go_at_call 7; (with_reducible refine (P3.out _).mono ?_); rintro e w3 ⟨A3, c3, rfl, hs3, hb3⟩; have HB3 := Lib.hid (show Below w.heap.size w w3 from by first | exact below_then HB2.out HB2.out.size hb3 | exact below_drew1 HB2.out HB2.out.size hb3); have hcv3 : (convert 22 9 (.slice A3 2 c3)).run Try.prog w3 = .ok (.string (strB [0, 128])) w3 := hs3.conv; have HS3 := Lib.hid hs3; clear hs3 hb3)
      refine hK.out _ _ ?_ (fun hHeld => ?_)
      · exact trivial
      clear hK K
      refine wpAnyH_ready (rs := [36]) (by kernel_rfl) (by simp) ?_
      refine AllReadyH.cons rfl (fun K hK => ?_) AllReadyH.nil
      go_simp
      refine hK.out _ _ ?_ (fun hHeld => ?_)
      · exact trivial
      clear hK K
      refine takeL 37 84 (v := ?_) rfl rfl (by kernel_rfl) (by kernel_rfl) (by kernel_rfl) (fun _ _ _ h => h) (Or.inl ⟨by rfl, ?hy37b⟩) hHeld ?rest37b
      case hy37b => intro W hS; (try dsimp only at hS); go_simp; try (with_reducible rfl)
      dsimp only [List.set]
      refine takeL 38 85 (v := ?_) rfl rfl (by kernel_rfl) (by kernel_rfl) (by kernel_rfl) (fun _ _ _ h => h) (Or.inl ⟨by rfl, ?hy38b⟩) hHeld ?rest38b
      case hy38b => intro W hS; (try dsimp only at hS); go_simp; try (with_reducible rfl)
      dsimp only [List.set]
      refine takeL 39 86 (v := ?_) rfl rfl (by kernel_rfl) (by kernel_rfl) (by kernel_rfl) (fun _ _ _ h => h) (Or.inl ⟨by rfl, ?hy39b⟩) hHeld ?rest39b
      case hy39b => intro W hS; (try dsimp only at hS); go_simp; try (with_reducible rfl)
      dsimp only [List.set]
      refine wpAnyH_ready (rs := [40]) (by kernel_rfl) (by simp) ?_
      refine AllReadyH.cons rfl (fun K hK => ?_) AllReadyH.nil
      go_simp
      go_wp2_with (go_at_call 9; (with_reducible refine (P4.out _).mono ?_); rintro e w4 ⟨A4, c4, rfl, hs4, hb4⟩; have HB4 := Lib.hid (show Below w.heap.size w w4 from by first | exact below_then HB3.out HB3.out.size hb4 | exact below_drew1 HB3.out HB3.out.size hb4); have hcv4 : (convert 22 9 (.slice A4 1 c4)).run Try.prog w4 = .ok (.string (strB [255])) w4 := hs4.conv; have HS4 := Lib.hid hs4; clear hs4 hb4)
      refine hK.out _ _ ?_ (fun hHeld => ?_)
      · exact trivial
      clear hK K
      refine wpAnyH_ready (rs := [41]) (by kernel_rfl) (by simp) ?_
      refine AllReadyH.cons rfl (fun K hK => ?_) AllReadyH.nil
      go_simp
      refine hK.out _ _ ?_ (fun hHeld => ?_)
      · exact trivial
      clear hK K
      refine takeL 42 89 (v := ?_) rfl rfl (by kernel_rfl) (by kernel_rfl) (by kernel_rfl) (fun _ _ _ h => h) (Or.inl ⟨by rfl, ?hy42b⟩) hHeld ?rest42b
      case hy42b => intro W hS; (try dsimp only at hS); go_simp; try (with_reducible rfl)
      dsimp only [List.set]
      refine takeL 43 90 (v := ?_) rfl rfl (by kernel_rfl) (by kernel_rfl) (by kernel_rfl) (fun _ _ _ h => h) (Or.inl ⟨by rfl, ?hy43b⟩) hHeld ?rest43b
      case hy43b => intro W hS; (try dsimp only at hS); go_simp; try (with_reducible rfl)
      dsimp only [List.set]
      refine takeL 44 91 (v := ?_) rfl rfl (by kernel_rfl) (by kernel_rfl) (by kernel_rfl) (fun _ _ _ h => h) (Or.inl ⟨by rfl, ?hy44b⟩) hHeld ?rest44b
      case hy44b => intro W hS; (try dsimp only at hS); go_simp; try (with_reducible rfl)
      dsimp only [List.set]
      refine wpAnyH_ready (rs := [45]) (by kernel_rfl) (by simp) ?_
      refine AllReadyH.cons rfl (fun K hK => ?_) AllReadyH.nil
      go_simp
      go_wp2_with (go_at_call 9; (with_reducible refine (P5.out _).mono ?_); rintro e w5 ⟨A5, c5, rfl, hs5, hb5⟩; have HB5 := Lib.hid (show Below w.heap.size w w5 from by first | exact below_then HB4.out HB4.out.size hb5 | exact below_drew1 HB4.out HB4.out.size hb5); have hcv5 : (convert 22 9 (.slice A5 1 c5)).run Try.prog w5 = .ok (.string (strB [0])) w5 := hs5.conv; have HS5 := Lib.hid hs5; clear hs5 hb5)
      refine hK.out _ _ ?_ (fun hHeld => ?_)
      · exact trivial
      clear hK K
      refine wpAnyH_ready (rs := [46]) (by kernel_rfl) (by simp) ?_
      refine AllReadyH.cons rfl (fun K hK => ?_) AllReadyH.nil
      go_simp
      refine hK.out _ _ ?_ (fun hHeld => ?_)
      · exact trivial
      clear hK K
      refine takeL 47 94 (v := ?_) rfl rfl (by kernel_rfl) (by kernel_rfl) (by kernel_rfl) (fun _ _ _ h => h) (Or.inl ⟨by rfl, ?hy47b⟩) hHeld ?rest47b
      case hy47b => intro W hS; (try dsimp only at hS); go_simp; try (with_reducible rfl)
      dsimp only [List.set]
      refine takeL 48 95 (v := ?_) rfl rfl (by kernel_rfl) (by kernel_rfl) (by kernel_rfl) (fun _ _ _ h => h) (Or.inl ⟨by rfl, ?hy48b⟩) hHeld ?rest48b
      case hy48b => intro W hS; (try dsimp only at hS); go_simp; try (with_reducible rfl)
      dsimp only [List.set]
      refine takeL 49 4 (v := ?_) rfl rfl (by kernel_rfl) (by kernel_rfl) (by kernel_rfl) (fun _ _ _ h => h) (Or.inl ⟨by rfl, ?hy49b⟩) hHeld ?rest49b
      case hy49b => intro W hS; (try dsimp only at hS); go_simp; try (with_reducible rfl)
      dsimp only [List.set]
      refine wpAnyH_done (by kernel_rfl) ?_ _
      go_wp2_with fail
      go_ret
      exact ⟨rfl, HB5.out⟩
    · go_simp
      refine hK.out _ _ ?_ (fun hHeld => ?_)
      · exact trivial
      clear hK K
      refine wpAnyH_ready (rs := [2]) (by kernel_rfl) (by simp) ?_
      refine AllReadyH.cons rfl (fun K hK => ?_) AllReadyH.nil
      go_simp
      refine hK.out _ _ ?_ (fun hHeld => ?_)
      · exact trivial
      clear hK K
      refine takeL 6 53 (v := ?_) rfl rfl (by kernel_rfl) (by kernel_rfl) (by kernel_rfl) (fun _ _ _ h => h) (Or.inl ⟨by rfl, ?hy6c⟩) hHeld ?rest6c
      case hy6c => intro W hS; (try dsimp only at hS); go_simp; try (with_reducible rfl)
      dsimp only [List.set]
      refine takeL 7 54 (v := ?_) rfl rfl (by kernel_rfl) (by kernel_rfl) (by kernel_rfl) (fun _ _ _ h => h) (Or.inl ⟨by rfl, ?hy7c⟩) hHeld ?rest7c
      case hy7c => intro W hS; (try dsimp only at hS); go_simp; try (with_reducible rfl)
      dsimp only [List.set]
      refine takeL 8 55 (v := ?_) rfl rfl (by kernel_rfl) (by kernel_rfl) (by kernel_rfl) (fun _ _ _ h => h) (Or.inl ⟨by rfl, ?hy8c⟩) hHeld ?rest8c
      case hy8c => intro W hS; (try dsimp only at hS); go_simp; try (with_reducible rfl)
      dsimp only [List.set]
      refine takeL 9 56 (v := ?_) rfl rfl (by kernel_rfl) (by kernel_rfl) (by kernel_rfl) (fun _ _ _ h => h) (Or.inl ⟨by rfl, ?hy9c⟩) hHeld ?rest9c
      case hy9c => intro W hS; (try dsimp only at hS); go_simp; try (with_reducible rfl)
      dsimp only [List.set]
      refine takeL 10 57 (v := ?_) rfl rfl (by kernel_rfl) (by kernel_rfl) (by kernel_rfl) (fun _ _ _ h => h) (Or.inl ⟨by rfl, ?hy10c⟩) hHeld ?rest10c
      case hy10c => intro W hS; (try dsimp only at hS); go_simp; try (with_reducible rfl)
      dsimp only [List.set]
      refine takeL 11 58 (v := ?_) rfl rfl (by kernel_rfl) (by kernel_rfl) (by kernel_rfl) (fun _ _ _ h => h) (Or.inl ⟨by rfl, ?hy11c⟩) hHeld ?rest11c
      case hy11c => intro W hS; (try dsimp only at hS); go_simp; try (with_reducible rfl)
      dsimp only [List.set]
      refine takeL 12 59 (v := ?_) rfl rfl (by kernel_rfl) (by kernel_rfl) (by kernel_rfl) (fun _ _ _ h => h) (Or.inl ⟨by rfl, ?hy12c⟩) hHeld ?rest12c
      case hy12c => intro W hS; (try dsimp only at hS); go_simp; try (with_reducible rfl)
      dsimp only [List.set]
      refine takeL 13 60 (v := ?_) rfl rfl (by kernel_rfl) (by kernel_rfl) (by kernel_rfl) (fun _ _ _ h => h) (Or.inl ⟨by rfl, ?hy13c⟩) hHeld ?rest13c
      case hy13c => intro W hS; (try dsimp only at hS); go_simp; try (with_reducible rfl)
      dsimp only [List.set]
      refine takeL 14 61 (v := ?_) rfl rfl (by kernel_rfl) (by kernel_rfl) (by kernel_rfl) (fun _ _ _ h => h) (Or.inl ⟨by rfl, ?hy14c⟩) hHeld ?rest14c
      case hy14c => intro W hS; (try dsimp only at hS); go_simp; try (with_reducible rfl)
      dsimp only [List.set]
      refine takeL 15 62 (v := ?_) rfl rfl (by kernel_rfl) (by kernel_rfl) (by kernel_rfl) (fun _ _ _ h => h) (Or.inl ⟨by rfl, ?hy15c⟩) hHeld ?rest15c
      case hy15c => intro W hS; (try dsimp only at hS); go_simp; try (with_reducible rfl)
      dsimp only [List.set]
      refine takeL 16 63 (v := ?_) rfl rfl (by kernel_rfl) (by kernel_rfl) (by kernel_rfl) (fun _ _ _ h => h) (Or.inl ⟨by rfl, ?hy16c⟩) hHeld ?rest16c
      case hy16c => intro W hS; (try dsimp only at hS); go_simp; try (with_reducible rfl)
      dsimp only [List.set]
      refine takeL 17 64 (v := ?_) rfl rfl (by kernel_rfl) (by kernel_rfl) (by kernel_rfl) (fun _ _ _ h => h) (Or.inl ⟨by rfl, ?hy17c⟩) hHeld ?rest17c
      case hy17c => intro W hS; (try dsimp only at hS); go_simp; try (with_reducible rfl)
      dsimp only [List.set]
      refine takeL 18 65 (v := ?_) rfl rfl (by kernel_rfl) (by kernel_rfl) (by kernel_rfl) (fun _ _ _ h => h) (Or.inl ⟨by rfl, ?hy18c⟩) hHeld ?rest18c
      case hy18c => intro W hS; (try dsimp only at hS); go_simp; try (with_reducible rfl)
      dsimp only [List.set]
      refine takeL 19 66 (v := ?_) rfl rfl (by kernel_rfl) (by kernel_rfl) (by kernel_rfl) (fun _ _ _ h => h) (Or.inl ⟨by rfl, ?hy19c⟩) hHeld ?rest19c
      case hy19c => intro W hS; (try dsimp only at hS); go_simp; try (with_reducible rfl)
      dsimp only [List.set]
      refine takeL 20 67 (v := ?_) rfl rfl (by kernel_rfl) (by kernel_rfl) (by kernel_rfl) (fun _ _ _ h => h) (Or.inl ⟨by rfl, ?hy20c⟩) hHeld ?rest20c
      case hy20c => intro W hS; (try dsimp only at hS); go_simp; try (with_reducible rfl)
      dsimp only [List.set]
      refine takeL 21 68 (v := ?_) rfl rfl (by kernel_rfl) (by kernel_rfl) (by kernel_rfl) (fun _ _ _ h => h) (Or.inl ⟨by rfl, ?hy21c⟩) hHeld ?rest21c
      case hy21c => intro W hS; (try dsimp only at hS); go_simp; try (with_reducible rfl)
      dsimp only [List.set]
      refine takeL 22 69 (v := ?_) rfl rfl (by kernel_rfl) (by kernel_rfl) (by kernel_rfl) (fun _ _ _ h => h) (Or.inl ⟨by rfl, ?hy22c⟩) hHeld ?rest22c
      case hy22c => intro W hS; (try dsimp only at hS); go_simp; try (with_reducible rfl)
      dsimp only [List.set]
      refine takeL 23 70 (v := ?_) rfl rfl (by kernel_rfl) (by kernel_rfl) (by kernel_rfl) (fun _ _ _ h => h) (Or.inl ⟨by rfl, ?hy23c⟩) hHeld ?rest23c
      case hy23c => intro W hS; (try dsimp only at hS); go_simp; try (with_reducible rfl)
      dsimp only [List.set]
      refine takeL 24 71 (v := ?_) rfl rfl (by kernel_rfl) (by kernel_rfl) (by kernel_rfl) (fun _ _ _ h => h) (Or.inl ⟨by rfl, ?hy24c⟩) hHeld ?rest24c
      case hy24c => intro W hS; (try dsimp only at hS); go_simp; try (with_reducible rfl)
      dsimp only [List.set]
      refine takeL 25 72 (v := ?_) rfl rfl (by kernel_rfl) (by kernel_rfl) (by kernel_rfl) (fun _ _ _ h => h) (Or.inl ⟨by rfl, ?hy25c⟩) hHeld ?rest25c
      case hy25c => intro W hS; (try dsimp only at hS); go_simp; try (with_reducible rfl)
      dsimp only [List.set]
      refine takeL 26 73 (v := ?_) rfl rfl (by kernel_rfl) (by kernel_rfl) (by kernel_rfl) (fun _ _ _ h => h) (Or.inl ⟨by rfl, ?hy26c⟩) hHeld ?rest26c
      case hy26c => intro W hS; (try dsimp only at hS); go_simp; try (with_reducible rfl)
      dsimp only [List.set]
      refine takeL 27 74 (v := undef) rfl rfl (by kernel_rfl) (by kernel_rfl) (by kernel_rfl) (fun _ _ _ h => h) (Or.inr ⟨by rfl, rfl⟩) hHeld ?rest27c
      dsimp only [List.set]
      refine takeL 28 75 (v := undef) rfl rfl (by kernel_rfl) (by kernel_rfl) (by kernel_rfl) (fun _ _ _ h => h) (Or.inr ⟨by rfl, rfl⟩) hHeld ?rest28c
      dsimp only [List.set]
      refine takeL 29 76 (v := undef) rfl rfl (by kernel_rfl) (by kernel_rfl) (by kernel_rfl) (fun _ _ _ h => h) (Or.inr ⟨by rfl, rfl⟩) hHeld ?rest29c
      dsimp only [List.set]
      refine takeL 30 77 (v := undef) rfl rfl (by kernel_rfl) (by kernel_rfl) (by kernel_rfl) (fun _ _ _ h => h) (Or.inr ⟨by rfl, rfl⟩) hHeld ?rest30c
      dsimp only [List.set]
      refine takeL 31 78 (v := ?_) rfl rfl (by kernel_rfl) (by kernel_rfl) (by kernel_rfl) (fun _ _ _ h => h) (Or.inl ⟨by rfl, ?hy31c⟩) hHeld ?rest31c
      case hy31c => intro W hS; (try dsimp only at hS); go_simp; try (with_reducible rfl)
      dsimp only [List.set]
      refine takeL 32 79 (v := ?_) rfl rfl (by kernel_rfl) (by kernel_rfl) (by kernel_rfl) (fun _ _ _ h => h) (Or.inl ⟨by rfl, ?hy32c⟩) hHeld ?rest32c
      case hy32c => intro W hS; (try dsimp only at hS); go_simp; try (with_reducible rfl)
      dsimp only [List.set]
      refine takeL 33 80 (v := ?_) rfl rfl (by kernel_rfl) (by kernel_rfl) (by kernel_rfl) (fun _ _ _ h => h) (Or.inl ⟨by rfl, ?hy33c⟩) hHeld ?rest33c
      case hy33c => intro W hS; (try dsimp only at hS); go_simp; try (with_reducible rfl)
      dsimp only [List.set]
      refine takeL 34 81 (v := ?_) rfl rfl (by kernel_rfl) (by kernel_rfl) (by kernel_rfl) (fun _ _ _ h => h) (Or.inl ⟨by rfl, ?hy34c⟩) hHeld ?rest34c
      case hy34c => intro W hS; (try dsimp only at hS); go_simp; try (with_reducible rfl)
      dsimp only [List.set]
      refine wpAnyH_ready (rs := [35]) (by kernel_rfl) (by simp) ?_
      refine AllReadyH.cons rfl (fun K hK => ?_) AllReadyH.nil
      go_simp
      go_wp2_with (go_at_call 7; (with_reducible refine (P3.out _).mono ?_); rintro e w3 ⟨A3, c3, rfl, hs3, hb3⟩; have HB3 := Lib.hid (show Below w.heap.size w w3 from by first | exact below_then HB2.out HB2.out.size hb3 | exact below_drew1 HB2.out HB2.out.size hb3); have hcv3 : (convert 22 9 (.slice A3 2 c3)).run Try.prog w3 = .ok (.string (strB [0, 128])) w3 := hs3.conv; have HS3 := Lib.hid hs3; clear hs3 hb3)
      refine hK.out _ _ ?_ (fun hHeld => ?_)
      · exact trivial
      clear hK K
      refine wpAnyH_ready (rs := [36]) (by kernel_rfl) (by simp) ?_
      refine AllReadyH.cons rfl (fun K hK => ?_) AllReadyH.nil
      go_simp
      refine hK.out _ _ ?_ (fun hHeld => ?_)
      · exact trivial
      clear hK K
      refine takeL 37 84 (v := ?_) rfl rfl (by kernel_rfl) (by kernel_rfl) (by kernel_rfl) (fun _ _ _ h => h) (Or.inl ⟨by rfl, ?hy37c⟩) hHeld ?rest37c
      case hy37c => intro W hS; (try dsimp only at hS); go_simp; try (with_reducible rfl)
      dsimp only [List.set]
      refine takeL 38 85 (v := ?_) rfl rfl (by kernel_rfl) (by kernel_rfl) (by kernel_rfl) (fun _ _ _ h => h) (Or.inl ⟨by rfl, ?hy38c⟩) hHeld ?rest38c
      case hy38c => intro W hS; (try dsimp only at hS); go_simp; try (with_reducible rfl)
      dsimp only [List.set]
      refine takeL 39 86 (v := ?_) rfl rfl (by kernel_rfl) (by kernel_rfl) (by kernel_rfl) (fun _ _ _ h => h) (Or.inl ⟨by rfl, ?hy39c⟩) hHeld ?rest39c
      case hy39c => intro W hS; (try dsimp only at hS); go_simp; try (with_reducible rfl)
      dsimp only [List.set]
      refine wpAnyH_ready (rs := [40]) (by kernel_rfl) (by simp) ?_
      refine AllReadyH.cons rfl (fun K hK => ?_) AllReadyH.nil
      go_simp
      go_wp2_with (go_at_call 9; (with_reducible refine (P4.out _).mono ?_); rintro e w4 ⟨A4, c4, rfl, hs4, hb4⟩; have HB4 := Lib.hid (show Below w.heap.size w w4 from by first | exact below_then HB3.out HB3.out.size hb4 | exact below_drew1 HB3.out HB3.out.size hb4); have hcv4 : (convert 22 9 (.slice A4 1 c4)).run Try.prog w4 = .ok (.string (strB [255])) w4 := hs4.conv; have HS4 := Lib.hid hs4; clear hs4 hb4)
      refine hK.out _ _ ?_ (fun hHeld => ?_)
      · exact trivial
      clear hK K
      refine wpAnyH_ready (rs := [41]) (by kernel_rfl) (by simp) ?_
      refine AllReadyH.cons rfl (fun K hK => ?_) AllReadyH.nil
      go_simp
      refine hK.out _ _ ?_ (fun hHeld => ?_)
      · exact trivial
      clear hK K
      refine takeL 42 89 (v := ?_) rfl rfl (by kernel_rfl) (by kernel_rfl) (by kernel_rfl) (fun _ _ _ h => h) (Or.inl ⟨by rfl, ?hy42c⟩) hHeld ?rest42c
      case hy42c => intro W hS; (try dsimp only at hS); go_simp; try (with_reducible rfl)
      dsimp only [List.set]
      refine takeL 43 90 (v := ?_) rfl rfl (by kernel_rfl) (by kernel_rfl) (by kernel_rfl) (fun _ _ _ h => h) (Or.inl ⟨by rfl, ?hy43c⟩) hHeld ?rest43c
      case hy43c => intro W hS; (try dsimp only at hS); go_simp; try (with_reducible rfl)
      dsimp only [List.set]
      refine takeL 44 91 (v := ?_) rfl rfl (by kernel_rfl) (by kernel_rfl) (by kernel_rfl) (fun _ _ _ h => h) (Or.inl ⟨by rfl, ?hy44c⟩) hHeld ?rest44c
      case hy44c => intro W hS; (try dsimp only at hS); go_simp; try (with_reducible rfl)
      dsimp only [List.set]
      refine wpAnyH_ready (rs := [45]) (by kernel_rfl) (by simp) ?_
      refine AllReadyH.cons rfl (fun K hK => ?_) AllReadyH.nil
      go_simp
      go_wp2_with (go_at_call 9; (with_reducible refine (P5.out _).mono ?_); rintro e w5 ⟨A5, c5, rfl, hs5, hb5⟩; have HB5 := Lib.hid (show Below w.heap.size w w5 from by first | exact below_then HB4.out HB4.out.size hb5 | exact below_drew1 HB4.out HB4.out.size hb5); have hcv5 : (convert 22 9 (.slice A5 1 c5)).run Try.prog w5 = .ok (.string (strB [0])) w5 := hs5.conv; have HS5 := Lib.hid hs5; clear hs5 hb5)
      refine hK.out _ _ ?_ (fun hHeld => ?_)
      · exact trivial
      clear hK K
      refine wpAnyH_ready (rs := [46]) (by kernel_rfl) (by simp) ?_
      refine AllReadyH.cons rfl (fun K hK => ?_) AllReadyH.nil
      go_simp
      refine hK.out _ _ ?_ (fun hHeld => ?_)
      · exact trivial
      clear hK K
      refine takeL 47 94 (v := ?_) rfl rfl (by kernel_rfl) (by kernel_rfl) (by kernel_rfl) (fun _ _ _ h => h) (Or.inl ⟨by rfl, ?hy47c⟩) hHeld ?rest47c
      case hy47c => intro W hS; (try dsimp only at hS); go_simp; try (with_reducible rfl)
      dsimp only [List.set]
      refine takeL 48 95 (v := ?_) rfl rfl (by kernel_rfl) (by kernel_rfl) (by kernel_rfl) (fun _ _ _ h => h) (Or.inl ⟨by rfl, ?hy48c⟩) hHeld ?rest48c
      case hy48c => intro W hS; (try dsimp only at hS); go_simp; try (with_reducible rfl)
      dsimp only [List.set]
      refine takeL 49 4 (v := ?_) rfl rfl (by kernel_rfl) (by kernel_rfl) (by kernel_rfl) (fun _ _ _ h => h) (Or.inl ⟨by rfl, ?hy49c⟩) hHeld ?rest49c
      case hy49c => intro W hS; (try dsimp only at hS); go_simp; try (with_reducible rfl)
      dsimp only [List.set]
      refine wpAnyH_done (by kernel_rfl) ?_ _
      go_wp2_with fail
      go_ret
      exact ⟨rfl, HB5.out⟩

set_option maxRecDepth 8000 in
set_option maxHeartbeats 1600000 in
theorem bytes_no (n : Int) (b off cp : Nat) (w : World) (hx : Hid (∀ w1, Below w.heap.size w w1 → w1.cell? ⟨b, off, none⟩ = some (.int .u8 0))) (R : List Nat) (q1 q2 y1 y2 : Int) (e2 : (q1 == y1) = true) (e3 : (q2 == y2) = true)
    (R1 : Hid (∀ w1, Below w.heap.size w w1 → Calls Try.prog 4 #[.slice (some ⟨b, off, none⟩) 1 cp] w1 fun e w' => e = .returned (.tuple #[.int .i64 q1, .int .i64 q2]) ∧ Below w1.heap.size w1 w'))
    (R2 : Hid (∀ w1, Below w.heap.size w w1 → Calls Try.prog 5 #[.slice (some ⟨b, off, none⟩) 1 cp] w1 fun e w' => e = .returned (.tuple #[.int .i64 y1, .int .i64 y2]) ∧ w1 = w'))
    (B1 : Hid (∀ w1, Below w.heap.size w w1 → Calls Try.prog 6 #[.slice (some ⟨b, off, none⟩) 1 cp] w1 fun e w' => e = .returned (.tuple #[.bool false, .int .i64 0]) ∧ w' = w1))
    (P1 : Hid (∀ w, Calls Try.prog 7 #[.int .i64 n] w fun e w' => ∃ A' c', e = .returned (.slice A' R.length c') ∧ Src w' w'.heap.size A' c' R ∧ Below w.heap.size w w'))
    (P2 : Hid (∀ w, Calls Try.prog 8 #[.int .i64 n] w fun e w' => ∃ A' c', e = .returned (.slice A' R.length c') ∧ Src w' w'.heap.size A' c' R ∧ Below w.heap.size w w'))
    (P3 : Hid (∀ w, Calls Try.prog 7 #[.int .i64 128] w fun e w' => ∃ A' c', e = .returned (.slice A' 2 c') ∧ Src w' w'.heap.size A' c' [0, 128] ∧ Below w.heap.size w w'))
    (P4 : Hid (∀ w, Calls Try.prog 9 #[.bool true] w fun e w' => ∃ A' c', e = .returned (.slice A' 1 c') ∧ Src w' w'.heap.size A' c' [255] ∧ Below w.heap.size w w'))
    (P5 : Hid (∀ w, Calls Try.prog 9 #[.bool false] w fun e w' => ∃ A' c', e = .returned (.slice A' 1 c') ∧ Src w' w'.heap.size A' c' [0] ∧ Below w.heap.size w w')) :
    Calls Try.prog 3 #[.int .i64 n, .slice (some ⟨b, off, none⟩) 1 cp] w fun e w' => e = .returned (.bool true) ∧ Below w.heap.size w w' := by
  have e1 := self_true (strB R)
  have e4 : ((strB [0, 128]).toList == [0, 128]) = true := by rw [strB_toList]; rfl
  have e5 : ((strB [255]).toList == [255]) = true := by rw [strB_toList]; rfl
  have e6 : ((strB [0]).toList == [0]) = true := by rw [strB_toList]; rfl
  go_enter Try.func3, Try.ntmps3
  go_wp2_with fail
  refine (R1.out _ (Below.refl _ _)).mono ?_
  rintro e w0 ⟨rfl, hb0⟩
  have HB0 := Lib.hid hb0
  clear hb0
  go_wp2_with fail
  refine (R2.out _ HB0.out).mono ?_
  rintro e wz ⟨rfl, hwz⟩
  subst hwz
  go_wp2_with fail
  refine (B1.out _ HB0.out).mono ?_
  rintro e wz ⟨rfl, hwz⟩
  subst hwz
  have hx0 := hx.out _ HB0.out
  go_wp2_with fail
  refine wp_region_held_drew (S := fun W => W.cell? ⟨b, off, none⟩ = some (.int .u8 0)) (by kernel_rfl) hx0 ?_
  intro hHeld
  refine takeL 0 47 (v := ?_) rfl rfl (by kernel_rfl) (by kernel_rfl) (by kernel_rfl) (fun _ _ _ h => h) (Or.inl ⟨by rfl, ?hy0⟩) hHeld ?rest0
  case hy0 => intro W hS; (try dsimp only at hS); go_simp; try (with_reducible rfl)
  dsimp only [List.set]
  refine takeL 3 50 (v := ?_) rfl rfl (by kernel_rfl) (by kernel_rfl) (by kernel_rfl) (fun _ _ _ h => h) (Or.inl ⟨by rfl, ?hy3⟩) hHeld ?rest3
  case hy3 => intro W hS; (try dsimp only at hS); go_simp; try (with_reducible rfl)
  dsimp only [List.set]
  refine wpAnyH_ready (rs := [1]) (by kernel_rfl) (by simp) ?_
  refine AllReadyH.cons rfl (fun K hK => ?_) AllReadyH.nil
  go_simp
  go_wp2_with (go_at_call 7; (with_reducible refine (P1.out _).mono ?_); rintro e w1 ⟨A1, c1, rfl, hs1, hb1⟩; have HB1 := Lib.hid (show Below w.heap.size w w1 from by first | exact below_then HB0.out HB0.out.size hb1 | exact below_drew1 HB0.out HB0.out.size hb1); have hcv1 : (convert 22 9 (.slice A1 R.length c1)).run Try.prog w1 = .ok (.string (strB R)) w1 := hs1.conv; have HS1 := Lib.hid hs1; clear hs1 hb1)
  refine hK.out _ _ ?_ (fun hHeld => ?_)
  · exact (hx.out _ HB1.out)
  clear hK K
  refine wpAnyH_ready (rs := [2, 4]) (by kernel_rfl) (by simp) ?_
  refine AllReadyH.cons rfl (fun K hK => ?_) (AllReadyH.cons rfl (fun K hK => ?_) AllReadyH.nil)
  · go_simp
    refine hK.out _ _ ?_ (fun hHeld => ?_)
    · exact (hx.out _ HB1.out)
    clear hK K
    refine wpAnyH_ready (rs := [4]) (by kernel_rfl) (by simp) ?_
    refine AllReadyH.cons rfl (fun K hK => ?_) AllReadyH.nil
    go_simp
    go_wp2_with (go_at_call 8; (with_reducible refine (P2.out _).mono ?_); rintro e w2 ⟨A2, c2, rfl, hs2, hb2⟩; have HB2 := Lib.hid (show Below w.heap.size w w2 from by first | exact below_then HB1.out HB1.out.size hb2 | exact below_drew1 HB1.out HB1.out.size hb2); have hcv2 : (convert 22 9 (.slice A2 R.length c2)).run Try.prog w2 = .ok (.string (strB R)) w2 := hs2.conv; have hcv12 : (convert 22 9 (.slice A1 R.length c1)).run Try.prog w2 = .ok (.string (strB R)) w2 := (HS1.out.below (by first | exact hb2 | exact below_drew1 (Below.refl _ _) (Nat.le_refl _) hb2)).conv; have HS2 := Lib.hid hs2; clear hs2 hb2)
    refine hK.out _ _ ?_ (fun hHeld => ?_)
    · exact (hx.out _ HB2.out)
    clear hK K
    refine wpAnyH_ready (rs := [5]) (by kernel_rfl) (by simp) ?_
    refine AllReadyH.cons rfl (fun K hK => ?_) AllReadyH.nil
    go_simp
    refine hK.out _ _ ?_ (fun hHeld => ?_)
    · exact (hx.out _ HB2.out)
    clear hK K
    refine takeL 6 53 (v := ?_) rfl rfl (by kernel_rfl) (by kernel_rfl) (by kernel_rfl) (fun _ _ _ h => h) (Or.inl ⟨by rfl, ?hy6a⟩) hHeld ?rest6a
    case hy6a => intro W hS; (try dsimp only at hS); go_simp; try (with_reducible rfl)
    dsimp only [List.set]
    refine takeL 7 54 (v := ?_) rfl rfl (by kernel_rfl) (by kernel_rfl) (by kernel_rfl) (fun _ _ _ h => h) (Or.inl ⟨by rfl, ?hy7a⟩) hHeld ?rest7a
    case hy7a => intro W hS; (try dsimp only at hS); go_simp; try (with_reducible rfl)
    dsimp only [List.set]
    refine takeL 8 55 (v := ?_) rfl rfl (by kernel_rfl) (by kernel_rfl) (by kernel_rfl) (fun _ _ _ h => h) (Or.inl ⟨by rfl, ?hy8a⟩) hHeld ?rest8a
    case hy8a => intro W hS; (try dsimp only at hS); go_simp; try (with_reducible rfl)
    dsimp only [List.set]
    refine takeL 9 56 (v := ?_) rfl rfl (by kernel_rfl) (by kernel_rfl) (by kernel_rfl) (fun _ _ _ h => h) (Or.inl ⟨by rfl, ?hy9a⟩) hHeld ?rest9a
    case hy9a => intro W hS; (try dsimp only at hS); go_simp; try (with_reducible rfl)
    dsimp only [List.set]
    refine takeL 10 57 (v := ?_) rfl rfl (by kernel_rfl) (by kernel_rfl) (by kernel_rfl) (fun _ _ _ h => h) (Or.inl ⟨by rfl, ?hy10a⟩) hHeld ?rest10a
    case hy10a => intro W hS; (try dsimp only at hS); go_simp; try (with_reducible rfl)
    dsimp only [List.set]
    refine takeL 11 58 (v := ?_) rfl rfl (by kernel_rfl) (by kernel_rfl) (by kernel_rfl) (fun _ _ _ h => h) (Or.inl ⟨by rfl, ?hy11a⟩) hHeld ?rest11a
    case hy11a => intro W hS; (try dsimp only at hS); go_simp; try (with_reducible rfl)
    dsimp only [List.set]
    refine takeL 12 59 (v := ?_) rfl rfl (by kernel_rfl) (by kernel_rfl) (by kernel_rfl) (fun _ _ _ h => h) (Or.inl ⟨by rfl, ?hy12a⟩) hHeld ?rest12a
    case hy12a => intro W hS; (try dsimp only at hS); go_simp; try (with_reducible rfl)
    dsimp only [List.set]
    refine takeL 13 60 (v := ?_) rfl rfl (by kernel_rfl) (by kernel_rfl) (by kernel_rfl) (fun _ _ _ h => h) (Or.inl ⟨by rfl, ?hy13a⟩) hHeld ?rest13a
    case hy13a => intro W hS; (try dsimp only at hS); go_simp; try (with_reducible rfl)
    dsimp only [List.set]
    refine takeL 14 61 (v := ?_) rfl rfl (by kernel_rfl) (by kernel_rfl) (by kernel_rfl) (fun _ _ _ h => h) (Or.inl ⟨by rfl, ?hy14a⟩) hHeld ?rest14a
    case hy14a => intro W hS; (try dsimp only at hS); go_simp; try (with_reducible rfl)
    dsimp only [List.set]
    refine takeL 15 62 (v := ?_) rfl rfl (by kernel_rfl) (by kernel_rfl) (by kernel_rfl) (fun _ _ _ h => h) (Or.inl ⟨by rfl, ?hy15a⟩) hHeld ?rest15a
    case hy15a => intro W hS; (try dsimp only at hS); go_simp; try (with_reducible rfl)
    dsimp only [List.set]
    refine takeL 16 63 (v := ?_) rfl rfl (by kernel_rfl) (by kernel_rfl) (by kernel_rfl) (fun _ _ _ h => h) (Or.inl ⟨by rfl, ?hy16a⟩) hHeld ?rest16a
    case hy16a => intro W hS; (try dsimp only at hS); go_simp; try (with_reducible rfl)
    dsimp only [List.set]
    refine takeL 17 64 (v := ?_) rfl rfl (by kernel_rfl) (by kernel_rfl) (by kernel_rfl) (fun _ _ _ h => h) (Or.inl ⟨by rfl, ?hy17a⟩) hHeld ?rest17a
    case hy17a => intro W hS; (try dsimp only at hS); go_simp; try (with_reducible rfl)
    dsimp only [List.set]
    refine takeL 18 65 (v := ?_) rfl rfl (by kernel_rfl) (by kernel_rfl) (by kernel_rfl) (fun _ _ _ h => h) (Or.inl ⟨by rfl, ?hy18a⟩) hHeld ?rest18a
    case hy18a => intro W hS; (try dsimp only at hS); go_simp; try (with_reducible rfl)
    dsimp only [List.set]
    refine takeL 19 66 (v := ?_) rfl rfl (by kernel_rfl) (by kernel_rfl) (by kernel_rfl) (fun _ _ _ h => h) (Or.inl ⟨by rfl, ?hy19a⟩) hHeld ?rest19a
    case hy19a => intro W hS; (try dsimp only at hS); go_simp; try (with_reducible rfl)
    dsimp only [List.set]
    refine takeL 20 67 (v := ?_) rfl rfl (by kernel_rfl) (by kernel_rfl) (by kernel_rfl) (fun _ _ _ h => h) (Or.inl ⟨by rfl, ?hy20a⟩) hHeld ?rest20a
    case hy20a => intro W hS; (try dsimp only at hS); go_simp; try (with_reducible rfl)
    dsimp only [List.set]
    refine takeL 21 68 (v := ?_) rfl rfl (by kernel_rfl) (by kernel_rfl) (by kernel_rfl) (fun _ _ _ h => h) (Or.inl ⟨by rfl, ?hy21a⟩) hHeld ?rest21a
    case hy21a => intro W hS; (try dsimp only at hS); go_simp; try (with_reducible rfl)
    dsimp only [List.set]
    refine takeL 22 69 (v := ?_) rfl rfl (by kernel_rfl) (by kernel_rfl) (by kernel_rfl) (fun _ _ _ h => h) (Or.inl ⟨by rfl, ?hy22a⟩) hHeld ?rest22a
    case hy22a => intro W hS; (try dsimp only at hS); go_simp; try (with_reducible rfl)
    dsimp only [List.set]
    refine takeL 23 70 (v := ?_) rfl rfl (by kernel_rfl) (by kernel_rfl) (by kernel_rfl) (fun _ _ _ h => h) (Or.inl ⟨by rfl, ?hy23a⟩) hHeld ?rest23a
    case hy23a => intro W hS; (try dsimp only at hS); go_simp; try (with_reducible rfl)
    dsimp only [List.set]
    refine takeL 24 71 (v := ?_) rfl rfl (by kernel_rfl) (by kernel_rfl) (by kernel_rfl) (fun _ _ _ h => h) (Or.inl ⟨by rfl, ?hy24a⟩) hHeld ?rest24a
    case hy24a => intro W hS; (try dsimp only at hS); go_simp; try (with_reducible rfl)
    dsimp only [List.set]
    refine takeL 25 72 (v := ?_) rfl rfl (by kernel_rfl) (by kernel_rfl) (by kernel_rfl) (fun _ _ _ h => h) (Or.inl ⟨by rfl, ?hy25a⟩) hHeld ?rest25a
    case hy25a => intro W hS; (try dsimp only at hS); go_simp; try (with_reducible rfl)
    dsimp only [List.set]
    refine takeL 26 73 (v := ?_) rfl rfl (by kernel_rfl) (by kernel_rfl) (by kernel_rfl) (fun _ _ _ h => h) (Or.inl ⟨by rfl, ?hy26a⟩) hHeld ?rest26a
    case hy26a => intro W hS; (try dsimp only at hS); go_simp; try (with_reducible rfl)
    dsimp only [List.set]
    refine takeL 27 74 (v := ?_) rfl rfl (by kernel_rfl) (by kernel_rfl) (by kernel_rfl) (fun _ _ _ h => h) (Or.inl ⟨by rfl, ?hy27a⟩) hHeld ?rest27a
    case hy27a => intro W hS; (try dsimp only at hS); go_simp; try (with_reducible rfl)
    dsimp only [List.set]
    refine takeL 28 75 (v := ?_) rfl rfl (by kernel_rfl) (by kernel_rfl) (by kernel_rfl) (fun _ _ _ h => h) (Or.inl ⟨by rfl, ?hy28a⟩) hHeld ?rest28a
    case hy28a => intro W hS; (try dsimp only at hS); go_simp; try (with_reducible rfl)
    dsimp only [List.set]
    refine takeL 29 76 (v := ?_) rfl rfl (by kernel_rfl) (by kernel_rfl) (by kernel_rfl) (fun _ _ _ h => h) (Or.inl ⟨by rfl, ?hy29a⟩) hHeld ?rest29a
    case hy29a => intro W hS; (try dsimp only at hS); go_simp; try (with_reducible rfl)
    dsimp only [List.set]
    refine takeL 30 77 (v := ?_) rfl rfl (by kernel_rfl) (by kernel_rfl) (by kernel_rfl) (fun _ _ _ h => h) (Or.inl ⟨by rfl, ?hy30a⟩) hHeld ?rest30a
    case hy30a => intro W hS; (try dsimp only at hS); go_simp; try (with_reducible rfl)
    dsimp only [List.set]
    refine takeL 31 78 (v := ?_) rfl rfl (by kernel_rfl) (by kernel_rfl) (by kernel_rfl) (fun _ _ _ h => h) (Or.inl ⟨by rfl, ?hy31a⟩) hHeld ?rest31a
    case hy31a => intro W hS; (try dsimp only at hS); go_simp; try (with_reducible rfl)
    dsimp only [List.set]
    refine takeL 32 79 (v := ?_) rfl rfl (by kernel_rfl) (by kernel_rfl) (by kernel_rfl) (fun _ _ _ h => h) (Or.inl ⟨by rfl, ?hy32a⟩) hHeld ?rest32a
    case hy32a => intro W hS; (try dsimp only at hS); go_simp; try (with_reducible rfl)
    dsimp only [List.set]
    refine takeL 33 80 (v := ?_) rfl rfl (by kernel_rfl) (by kernel_rfl) (by kernel_rfl) (fun _ _ _ h => h) (Or.inl ⟨by rfl, ?hy33a⟩) hHeld ?rest33a
    case hy33a => intro W hS; (try dsimp only at hS); go_simp; try (with_reducible rfl)
    dsimp only [List.set]
    refine takeL 34 81 (v := ?_) rfl rfl (by kernel_rfl) (by kernel_rfl) (by kernel_rfl) (fun _ _ _ h => h) (Or.inl ⟨by rfl, ?hy34a⟩) hHeld ?rest34a
    case hy34a => intro W hS; (try dsimp only at hS); go_simp; try (with_reducible rfl)
    dsimp only [List.set]
    refine wpAnyH_ready (rs := [35]) (by kernel_rfl) (by simp) ?_
    refine AllReadyH.cons rfl (fun K hK => ?_) AllReadyH.nil
    go_simp
    go_wp2_with (go_at_call 7; (with_reducible refine (P3.out _).mono ?_); rintro e w3 ⟨A3, c3, rfl, hs3, hb3⟩; have HB3 := Lib.hid (show Below w.heap.size w w3 from by first | exact below_then HB2.out HB2.out.size hb3 | exact below_drew1 HB2.out HB2.out.size hb3); have hcv3 : (convert 22 9 (.slice A3 2 c3)).run Try.prog w3 = .ok (.string (strB [0, 128])) w3 := hs3.conv; have HS3 := Lib.hid hs3; clear hs3 hb3)
    refine hK.out _ _ ?_ (fun hHeld => ?_)
    · exact (hx.out _ HB3.out)
    clear hK K
    refine wpAnyH_ready (rs := [36]) (by kernel_rfl) (by simp) ?_
    refine AllReadyH.cons rfl (fun K hK => ?_) AllReadyH.nil
    go_simp
    refine hK.out _ _ ?_ (fun hHeld => ?_)
    · exact (hx.out _ HB3.out)
    clear hK K
    refine takeL 37 84 (v := ?_) rfl rfl (by kernel_rfl) (by kernel_rfl) (by kernel_rfl) (fun _ _ _ h => h) (Or.inl ⟨by rfl, ?hy37a⟩) hHeld ?rest37a
    case hy37a => intro W hS; (try dsimp only at hS); go_simp; try (with_reducible rfl)
    dsimp only [List.set]
    refine takeL 38 85 (v := ?_) rfl rfl (by kernel_rfl) (by kernel_rfl) (by kernel_rfl) (fun _ _ _ h => h) (Or.inl ⟨by rfl, ?hy38a⟩) hHeld ?rest38a
    case hy38a => intro W hS; (try dsimp only at hS); go_simp; try (with_reducible rfl)
    dsimp only [List.set]
    refine takeL 39 86 (v := ?_) rfl rfl (by kernel_rfl) (by kernel_rfl) (by kernel_rfl) (fun _ _ _ h => h) (Or.inl ⟨by rfl, ?hy39a⟩) hHeld ?rest39a
    case hy39a => intro W hS; (try dsimp only at hS); go_simp; try (with_reducible rfl)
    dsimp only [List.set]
    refine wpAnyH_ready (rs := [40]) (by kernel_rfl) (by simp) ?_
    refine AllReadyH.cons rfl (fun K hK => ?_) AllReadyH.nil
    go_simp
    go_wp2_with (go_at_call 9; (with_reducible refine (P4.out _).mono ?_); rintro e w4 ⟨A4, c4, rfl, hs4, hb4⟩; have HB4 := Lib.hid (show Below w.heap.size w w4 from by first | exact below_then HB3.out HB3.out.size hb4 | exact below_drew1 HB3.out HB3.out.size hb4); have hcv4 : (convert 22 9 (.slice A4 1 c4)).run Try.prog w4 = .ok (.string (strB [255])) w4 := hs4.conv; have HS4 := Lib.hid hs4; clear hs4 hb4)
    refine hK.out _ _ ?_ (fun hHeld => ?_)
    · exact (hx.out _ HB4.out)
    clear hK K
    refine wpAnyH_ready (rs := [41]) (by kernel_rfl) (by simp) ?_
    refine AllReadyH.cons rfl (fun K hK => ?_) AllReadyH.nil
    go_simp
    refine hK.out _ _ ?_ (fun hHeld => ?_)
    · exact (hx.out _ HB4.out)
    clear hK K
    refine takeL 42 89 (v := ?_) rfl rfl (by kernel_rfl) (by kernel_rfl) (by kernel_rfl) (fun _ _ _ h => h) (Or.inl ⟨by rfl, ?hy42a⟩) hHeld ?rest42a
    case hy42a => intro W hS; (try dsimp only at hS); go_simp; try (with_reducible rfl)
    dsimp only [List.set]
    refine takeL 43 90 (v := ?_) rfl rfl (by kernel_rfl) (by kernel_rfl) (by kernel_rfl) (fun _ _ _ h => h) (Or.inl ⟨by rfl, ?hy43a⟩) hHeld ?rest43a
    case hy43a => intro W hS; (try dsimp only at hS); go_simp; try (with_reducible rfl)
    dsimp only [List.set]
    refine takeL 44 91 (v := ?_) rfl rfl (by kernel_rfl) (by kernel_rfl) (by kernel_rfl) (fun _ _ _ h => h) (Or.inl ⟨by rfl, ?hy44a⟩) hHeld ?rest44a
    case hy44a => intro W hS; (try dsimp only at hS); go_simp; try (with_reducible rfl)
    dsimp only [List.set]
    refine wpAnyH_ready (rs := [45]) (by kernel_rfl) (by simp) ?_
    refine AllReadyH.cons rfl (fun K hK => ?_) AllReadyH.nil
    go_simp
    go_wp2_with (go_at_call 9; (with_reducible refine (P5.out _).mono ?_); rintro e w5 ⟨A5, c5, rfl, hs5, hb5⟩; have HB5 := Lib.hid (show Below w.heap.size w w5 from by first | exact below_then HB4.out HB4.out.size hb5 | exact below_drew1 HB4.out HB4.out.size hb5); have hcv5 : (convert 22 9 (.slice A5 1 c5)).run Try.prog w5 = .ok (.string (strB [0])) w5 := hs5.conv; have HS5 := Lib.hid hs5; clear hs5 hb5)
    refine hK.out _ _ ?_ (fun hHeld => ?_)
    · exact (hx.out _ HB5.out)
    clear hK K
    refine wpAnyH_ready (rs := [46]) (by kernel_rfl) (by simp) ?_
    refine AllReadyH.cons rfl (fun K hK => ?_) AllReadyH.nil
    go_simp
    refine hK.out _ _ ?_ (fun hHeld => ?_)
    · exact (hx.out _ HB5.out)
    clear hK K
    refine takeL 47 94 (v := ?_) rfl rfl (by kernel_rfl) (by kernel_rfl) (by kernel_rfl) (fun _ _ _ h => h) (Or.inl ⟨by rfl, ?hy47a⟩) hHeld ?rest47a
    case hy47a => intro W hS; (try dsimp only at hS); go_simp; try (with_reducible rfl)
    dsimp only [List.set]
    refine takeL 48 95 (v := ?_) rfl rfl (by kernel_rfl) (by kernel_rfl) (by kernel_rfl) (fun _ _ _ h => h) (Or.inl ⟨by rfl, ?hy48a⟩) hHeld ?rest48a
    case hy48a => intro W hS; (try dsimp only at hS); go_simp; try (with_reducible rfl)
    dsimp only [List.set]
    refine takeL 49 4 (v := ?_) rfl rfl (by kernel_rfl) (by kernel_rfl) (by kernel_rfl) (fun _ _ _ h => h) (Or.inl ⟨by rfl, ?hy49a⟩) hHeld ?rest49a
    case hy49a => intro W hS; (try dsimp only at hS); go_simp; try (with_reducible rfl)
    dsimp only [List.set]
    refine wpAnyH_done (by kernel_rfl) ?_ _
    go_wp2_with fail
    go_ret
    exact ⟨rfl, HB5.out⟩
  · go_simp
    go_wp2_with (go_at_call 8; (with_reducible refine (P2.out _).mono ?_); rintro e w2 ⟨A2, c2, rfl, hs2, hb2⟩; have HB2 := Lib.hid (show Below w.heap.size w w2 from by first | exact below_then HB1.out HB1.out.size hb2 | exact below_drew1 HB1.out HB1.out.size hb2); have hcv2 : (convert 22 9 (.slice A2 R.length c2)).run Try.prog w2 = .ok (.string (strB R)) w2 := hs2.conv; have hcv12 : (convert 22 9 (.slice A1 R.length c1)).run Try.prog w2 = .ok (.string (strB R)) w2 := (HS1.out.below (by first | exact hb2 | exact below_drew1 (Below.refl _ _) (Nat.le_refl _) hb2)).conv; have HS2 := Lib.hid hs2; clear hs2 hb2)
    refine hK.out _ _ ?_ (fun hHeld => ?_)
    · exact (hx.out _ HB2.out)
    clear hK K
    refine wpAnyH_ready (rs := [2, 5]) (by kernel_rfl) (by simp) ?_
    refine AllReadyH.cons rfl (fun K hK => ?_) (AllReadyH.cons rfl (fun K hK => ?_) AllReadyH.nil)
    · go_simp
      refine hK.out _ _ ?_ (fun hHeld => ?_)
      · exact (hx.out _ HB2.out)
      clear hK K
      refine wpAnyH_ready (rs := [5]) (by kernel_rfl) (by simp) ?_
      refine AllReadyH.cons rfl (fun K hK => ?_) AllReadyH.nil
      go_simp
      refine hK.out _ _ ?_ (fun hHeld => ?_)
      · exact (hx.out _ HB2.out)
      clear hK K
      refine takeL 6 53 (v := ?_) rfl rfl (by kernel_rfl) (by kernel_rfl) (by kernel_rfl) (fun _ _ _ h => h) (Or.inl ⟨by rfl, ?hy6b⟩) hHeld ?rest6b
      case hy6b => intro W hS; (try dsimp only at hS); go_simp; try (with_reducible rfl)
      dsimp only [List.set]
      refine takeL 7 54 (v := ?_) rfl rfl (by kernel_rfl) (by kernel_rfl) (by kernel_rfl) (fun _ _ _ h => h) (Or.inl ⟨by rfl, ?hy7b⟩) hHeld ?rest7b
      case hy7b => intro W hS; (try dsimp only at hS); go_simp; try (with_reducible rfl)
      dsimp only [List.set]
      refine takeL 8 55 (v := ?_) rfl rfl (by kernel_rfl) (by kernel_rfl) (by kernel_rfl) (fun _ _ _ h => h) (Or.inl ⟨by rfl, ?hy8b⟩) hHeld ?rest8b
      case hy8b => intro W hS; (try dsimp only at hS); go_simp; try (with_reducible rfl)
      dsimp only [List.set]
      refine takeL 9 56 (v := ?_) rfl rfl (by kernel_rfl) (by kernel_rfl) (by kernel_rfl) (fun _ _ _ h => h) (Or.inl ⟨by rfl, ?hy9b⟩) hHeld ?rest9b
      case hy9b => intro W hS; (try dsimp only at hS); go_simp; try (with_reducible rfl)
      dsimp only [List.set]
      refine takeL 10 57 (v := ?_) rfl rfl (by kernel_rfl) (by kernel_rfl) (by kernel_rfl) (fun _ _ _ h => h) (Or.inl ⟨by rfl, ?hy10b⟩) hHeld ?rest10b
      case hy10b => intro W hS; (try dsimp only at hS); go_simp; try (with_reducible rfl)
      dsimp only [List.set]
      refine takeL 11 58 (v := ?_) rfl rfl (by kernel_rfl) (by kernel_rfl) (by kernel_rfl) (fun _ _ _ h => h) (Or.inl ⟨by rfl, ?hy11b⟩) hHeld ?rest11b
      case hy11b => intro W hS; (try dsimp only at hS); go_simp; try (with_reducible rfl)
      dsimp only [List.set]
      refine takeL 12 59 (v := ?_) rfl rfl (by kernel_rfl) (by kernel_rfl) (by kernel_rfl) (fun _ _ _ h => h) (Or.inl ⟨by rfl, ?hy12b⟩) hHeld ?rest12b
      case hy12b => intro W hS; (try dsimp only at hS); go_simp; try (with_reducible rfl)
      dsimp only [List.set]
      refine takeL 13 60 (v := ?_) rfl rfl (by kernel_rfl) (by kernel_rfl) (by kernel_rfl) (fun _ _ _ h => h) (Or.inl ⟨by rfl, ?hy13b⟩) hHeld ?rest13b
      case hy13b => intro W hS; (try dsimp only at hS); go_simp; try (with_reducible rfl)
      dsimp only [List.set]
      refine takeL 14 61 (v := ?_) rfl rfl (by kernel_rfl) (by kernel_rfl) (by kernel_rfl) (fun _ _ _ h => h) (Or.inl ⟨by rfl, ?hy14b⟩) hHeld ?rest14b
      case hy14b => intro W hS; (try dsimp only at hS); go_simp; try (with_reducible rfl)
      dsimp only [List.set]
      refine takeL 15 62 (v := ?_) rfl rfl (by kernel_rfl) (by kernel_rfl) (by kernel_rfl) (fun _ _ _ h => h) (Or.inl ⟨by rfl, ?hy15b⟩) hHeld ?rest15b
      case hy15b => intro W hS; (try dsimp only at hS); go_simp; try (with_reducible rfl)
      dsimp only [List.set]
      refine takeL 16 63 (v := ?_) rfl rfl (by kernel_rfl) (by kernel_rfl) (by kernel_rfl) (fun _ _ _ h => h) (Or.inl ⟨by rfl, ?hy16b⟩) hHeld ?rest16b
      case hy16b => intro W hS; (try dsimp only at hS); go_simp; try (with_reducible rfl)
      dsimp only [List.set]
      refine takeL 17 64 (v := ?_) rfl rfl (by kernel_rfl) (by kernel_rfl) (by kernel_rfl) (fun _ _ _ h => h) (Or.inl ⟨by rfl, ?hy17b⟩) hHeld ?rest17b
      case hy17b => intro W hS; (try dsimp only at hS); go_simp; try (with_reducible rfl)
      dsimp only [List.set]
      refine takeL 18 65 (v := ?_) rfl rfl (by kernel_rfl) (by kernel_rfl) (by kernel_rfl) (fun _ _ _ h => h) (Or.inl ⟨by rfl, ?hy18b⟩) hHeld ?rest18b
      case hy18b => intro W hS; (try dsimp only at hS); go_simp; try (with_reducible rfl)
      dsimp only [List.set]
      refine takeL 19 66 (v := ?_) rfl rfl (by kernel_rfl) (by kernel_rfl) (by kernel_rfl) (fun _ _ _ h => h) (Or.inl ⟨by rfl, ?hy19b⟩) hHeld ?rest19b
      case hy19b => intro W hS; (try dsimp only at hS); go_simp; try (with_reducible rfl)
      dsimp only [List.set]
      refine takeL 20 67 (v := ?_) rfl rfl (by kernel_rfl) (by kernel_rfl) (by kernel_rfl) (fun _ _ _ h => h) (Or.inl ⟨by rfl, ?hy20b⟩) hHeld ?rest20b
      case hy20b => intro W hS; (try dsimp only at hS); go_simp; try (with_reducible rfl)
      dsimp only [List.set]
      refine takeL 21 68 (v := ?_) rfl rfl (by kernel_rfl) (by kernel_rfl) (by kernel_rfl) (fun _ _ _ h => h) (Or.inl ⟨by rfl, ?hy21b⟩) hHeld ?rest21b
      case hy21b => intro W hS; (try dsimp only at hS); go_simp; try (with_reducible rfl)
      dsimp only [List.set]
      refine takeL 22 69 (v := ?_) rfl rfl (by kernel_rfl) (by kernel_rfl) (by kernel_rfl) (fun _ _ _ h => h) (Or.inl ⟨by rfl, ?hy22b⟩) hHeld ?rest22b
      case hy22b => intro W hS; (try dsimp only at hS); go_simp; try (with_reducible rfl)
      dsimp only [List.set]
      refine takeL 23 70 (v := ?_) rfl rfl (by kernel_rfl) (by kernel_rfl) (by kernel_rfl) (fun _ _ _ h => h) (Or.inl ⟨by rfl, ?hy23b⟩) hHeld ?rest23b
      case hy23b => intro W hS; (try dsimp only at hS); go_simp; try (with_reducible rfl)
      dsimp only [List.set]
      refine takeL 24 71 (v := ?_) rfl rfl (by kernel_rfl) (by kernel_rfl) (by kernel_rfl) (fun _ _ _ h => h) (Or.inl ⟨by rfl, ?hy24b⟩) hHeld ?rest24b
      case hy24b => intro W hS; (try dsimp only at hS); go_simp; try (with_reducible rfl)
      dsimp only [List.set]
      refine takeL 25 72 (v := ?_) rfl rfl (by kernel_rfl) (by kernel_rfl) (by kernel_rfl) (fun _ _ _ h => h) (Or.inl ⟨by rfl, ?hy25b⟩) hHeld ?rest25b
      case hy25b => intro W hS; (try dsimp only at hS); go_simp; try (with_reducible rfl)
      dsimp only [List.set]
      refine takeL 26 73 (v := ?_) rfl rfl (by kernel_rfl) (by kernel_rfl) (by kernel_rfl) (fun _ _ _ h => h) (Or.inl ⟨by rfl, ?hy26b⟩) hHeld ?rest26b
      case hy26b => intro W hS; (try dsimp only at hS); go_simp; try (with_reducible rfl)
      dsimp only [List.set]
      refine takeL 27 74 (v := ?_) rfl rfl (by kernel_rfl) (by kernel_rfl) (by kernel_rfl) (fun _ _ _ h => h) (Or.inl ⟨by rfl, ?hy27b⟩) hHeld ?rest27b
      case hy27b => intro W hS; (try dsimp only at hS); go_simp; try (with_reducible rfl)
      dsimp only [List.set]
      refine takeL 28 75 (v := ?_) rfl rfl (by kernel_rfl) (by kernel_rfl) (by kernel_rfl) (fun _ _ _ h => h) (Or.inl ⟨by rfl, ?hy28b⟩) hHeld ?rest28b
      case hy28b => intro W hS; (try dsimp only at hS); go_simp; try (with_reducible rfl)
      dsimp only [List.set]
      refine takeL 29 76 (v := ?_) rfl rfl (by kernel_rfl) (by kernel_rfl) (by kernel_rfl) (fun _ _ _ h => h) (Or.inl ⟨by rfl, ?hy29b⟩) hHeld ?rest29b
      case hy29b => intro W hS; (try dsimp only at hS); go_simp; try (with_reducible rfl)
      dsimp only [List.set]
      refine takeL 30 77 (v := ?_) rfl rfl (by kernel_rfl) (by kernel_rfl) (by kernel_rfl) (fun _ _ _ h => h) (Or.inl ⟨by rfl, ?hy30b⟩) hHeld ?rest30b
      case hy30b => intro W hS; (try dsimp only at hS); go_simp; try (with_reducible rfl)
      dsimp only [List.set]
      refine takeL 31 78 (v := ?_) rfl rfl (by kernel_rfl) (by kernel_rfl) (by kernel_rfl) (fun _ _ _ h => h) (Or.inl ⟨by rfl, ?hy31b⟩) hHeld ?rest31b
      case hy31b => intro W hS; (try dsimp only at hS); go_simp; try (with_reducible rfl)
      dsimp only [List.set]
      refine takeL 32 79 (v := ?_) rfl rfl (by kernel_rfl) (by kernel_rfl) (by kernel_rfl) (fun _ _ _ h => h) (Or.inl ⟨by rfl, ?hy32b⟩) hHeld ?rest32b
      case hy32b => intro W hS; (try dsimp only at hS); go_simp; try (with_reducible rfl)
      dsimp only [List.set]
      refine takeL 33 80 (v := ?_) rfl rfl (by kernel_rfl) (by kernel_rfl) (by kernel_rfl) (fun _ _ _ h => h) (Or.inl ⟨by rfl, ?hy33b⟩) hHeld ?rest33b
      case hy33b => intro W hS; (try dsimp only at hS); go_simp; try (with_reducible rfl)
      dsimp only [List.set]
      refine takeL 34 81 (v := ?_) rfl rfl (by kernel_rfl) (by kernel_rfl) (by kernel_rfl) (fun _ _ _ h => h) (Or.inl ⟨by rfl, ?hy34b⟩) hHeld ?rest34b
      case hy34b => intro W hS; (try dsimp only at hS); go_simp; try (with_reducible rfl)
      dsimp only [List.set]
      refine wpAnyH_ready (rs := [35]) (by kernel_rfl) (by simp) ?_
      refine AllReadyH.cons rfl (fun K hK => ?_) AllReadyH.nil
      go_simp
      go_wp2_with (go_at_call 7; (with_reducible refine (P3.out _).mono ?_); rintro e w3 ⟨A3, c3, rfl, hs3, hb3⟩; have HB3 := Lib.hid (show Below w.heap.size w w3 from by first | exact below_then HB2.out HB2.out.size hb3 | exact below_drew1 HB2.out HB2.out.size hb3); have hcv3 : (convert 22 9 (.slice A3 2 c3)).run Try.prog w3 = .ok (.string (strB [0, 128])) w3 := hs3.conv; have HS3 := Lib.hid hs3; clear hs3 hb3)
      refine hK.out _ _ ?_ (fun hHeld => ?_)
      · exact (hx.out _ HB3.out)
      clear hK K
      refine wpAnyH_ready (rs := [36]) (by kernel_rfl) (by simp) ?_
      refine AllReadyH.cons rfl (fun K hK => ?_) AllReadyH.nil
      go_simp
      refine hK.out _ _ ?_ (fun hHeld => ?_)
      · exact (hx.out _ HB3.out)
      clear hK K
      refine takeL 37 84 (v := ?_) rfl rfl (by kernel_rfl) (by kernel_rfl) (by kernel_rfl) (fun _ _ _ h => h) (Or.inl ⟨by rfl, ?hy37b⟩) hHeld ?rest37b
      case hy37b => intro W hS; (try dsimp only at hS); go_simp; try (with_reducible rfl)
      dsimp only [List.set]
      refine takeL 38 85 (v := ?_) rfl rfl (by kernel_rfl) (by kernel_rfl) (by kernel_rfl) (fun _ _ _ h => h) (Or.inl ⟨by rfl, ?hy38b⟩) hHeld ?rest38b
      case hy38b => intro W hS; (try dsimp only at hS); go_simp; try (with_reducible rfl)
      dsimp only [List.set]
      refine takeL 39 86 (v := ?_) rfl rfl (by kernel_rfl) (by kernel_rfl) (by kernel_rfl) (fun _ _ _ h => h) (Or.inl ⟨by rfl, ?hy39b⟩) hHeld ?rest39b
      case hy39b => intro W hS; (try dsimp only at hS); go_simp; try (with_reducible rfl)
      dsimp only [List.set]
      refine wpAnyH_ready (rs := [40]) (by kernel_rfl) (by simp) ?_
      refine AllReadyH.cons rfl (fun K hK => ?_) AllReadyH.nil
      go_simp
      go_wp2_with (go_at_call 9; (with_reducible refine (P4.out _).mono ?_); rintro e w4 ⟨A4, c4, rfl, hs4, hb4⟩; have HB4 := Lib.hid (show Below w.heap.size w w4 from by first | exact below_then HB3.out HB3.out.size hb4 | exact below_drew1 HB3.out HB3.out.size hb4); have hcv4 : (convert 22 9 (.slice A4 1 c4)).run Try.prog w4 = .ok (.string (strB [255])) w4 := hs4.conv; have HS4 := Lib.hid hs4; clear hs4 hb4)
      refine hK.out _ _ ?_ (fun hHeld => ?_)
      · exact (hx.out _ HB4.out)
      clear hK K
      refine wpAnyH_ready (rs := [41]) (by kernel_rfl) (by simp) ?_
      refine AllReadyH.cons rfl (fun K hK => ?_) AllReadyH.nil
      go_simp
      refine hK.out _ _ ?_ (fun hHeld => ?_)
      · exact (hx.out _ HB4.out)
      clear hK K
      refine takeL 42 89 (v := ?_) rfl rfl (by kernel_rfl) (by kernel_rfl) (by kernel_rfl) (fun _ _ _ h => h) (Or.inl ⟨by rfl, ?hy42b⟩) hHeld ?rest42b
      case hy42b => intro W hS; (try dsimp only at hS); go_simp; try (with_reducible rfl)
      dsimp only [List.set]
      refine takeL 43 90 (v := ?_) rfl rfl (by kernel_rfl) (by kernel_rfl) (by kernel_rfl) (fun _ _ _ h => h) (Or.inl ⟨by rfl, ?hy43b⟩) hHeld ?rest43b
      case hy43b => intro W hS; (try dsimp only at hS); go_simp; try (with_reducible rfl)
      dsimp only [List.set]
      refine takeL 44 91 (v := ?_) rfl rfl (by kernel_rfl) (by kernel_rfl) (by kernel_rfl) (fun _ _ _ h => h) (Or.inl ⟨by rfl, ?hy44b⟩) hHeld ?rest44b
      case hy44b => intro W hS; (try dsimp only at hS); go_simp; try (with_reducible rfl)
      dsimp only [List.set]
      refine wpAnyH_ready (rs := [45]) (by kernel_rfl) (by simp) ?_
      refine AllReadyH.cons rfl (fun K hK => ?_) AllReadyH.nil
      go_simp
      go_wp2_with (go_at_call 9; (with_reducible refine (P5.out _).mono ?_); rintro e w5 ⟨A5, c5, rfl, hs5, hb5⟩; have HB5 := Lib.hid (show Below w.heap.size w w5 from by first | exact below_then HB4.out HB4.out.size hb5 | exact below_drew1 HB4.out HB4.out.size hb5); have hcv5 : (convert 22 9 (.slice A5 1 c5)).run Try.prog w5 = .ok (.string (strB [0])) w5 := hs5.conv; have HS5 := Lib.hid hs5; clear hs5 hb5)
      refine hK.out _ _ ?_ (fun hHeld => ?_)
      · exact (hx.out _ HB5.out)
      clear hK K
      refine wpAnyH_ready (rs := [46]) (by kernel_rfl) (by simp) ?_
      refine AllReadyH.cons rfl (fun K hK => ?_) AllReadyH.nil
      go_simp
      refine hK.out _ _ ?_ (fun hHeld => ?_)
      · exact (hx.out _ HB5.out)
      clear hK K
      refine takeL 47 94 (v := ?_) rfl rfl (by kernel_rfl) (by kernel_rfl) (by kernel_rfl) (fun _ _ _ h => h) (Or.inl ⟨by rfl, ?hy47b⟩) hHeld ?rest47b
      case hy47b => intro W hS; (try dsimp only at hS); go_simp; try (with_reducible rfl)
      dsimp only [List.set]
      refine takeL 48 95 (v := ?_) rfl rfl (by kernel_rfl) (by kernel_rfl) (by kernel_rfl) (fun _ _ _ h => h) (Or.inl ⟨by rfl, ?hy48b⟩) hHeld ?rest48b
      case hy48b => intro W hS; (try dsimp only at hS); go_simp; try (with_reducible rfl)
      dsimp only [List.set]
      refine takeL 49 4 (v := ?_) rfl rfl (by kernel_rfl) (by kernel_rfl) (by kernel_rfl) (fun _ _ _ h => h) (Or.inl ⟨by rfl, ?hy49b⟩) hHeld ?rest49b
      case hy49b => intro W hS; (try dsimp only at hS); go_simp; try (with_reducible rfl)
      dsimp only [List.set]
      refine wpAnyH_done (by kernel_rfl) ?_ _
      go_wp2_with fail
      go_ret
      exact ⟨rfl, HB5.out⟩
    · go_simp
      refine hK.out _ _ ?_ (fun hHeld => ?_)
      · exact (hx.out _ HB2.out)
      clear hK K
      refine wpAnyH_ready (rs := [2]) (by kernel_rfl) (by simp) ?_
      refine AllReadyH.cons rfl (fun K hK => ?_) AllReadyH.nil
      go_simp
      refine hK.out _ _ ?_ (fun hHeld => ?_)
      · exact (hx.out _ HB2.out)
      clear hK K
      refine takeL 6 53 (v := ?_) rfl rfl (by kernel_rfl) (by kernel_rfl) (by kernel_rfl) (fun _ _ _ h => h) (Or.inl ⟨by rfl, ?hy6c⟩) hHeld ?rest6c
      case hy6c => intro W hS; (try dsimp only at hS); go_simp; try (with_reducible rfl)
      dsimp only [List.set]
      refine takeL 7 54 (v := ?_) rfl rfl (by kernel_rfl) (by kernel_rfl) (by kernel_rfl) (fun _ _ _ h => h) (Or.inl ⟨by rfl, ?hy7c⟩) hHeld ?rest7c
      case hy7c => intro W hS; (try dsimp only at hS); go_simp; try (with_reducible rfl)
      dsimp only [List.set]
      refine takeL 8 55 (v := ?_) rfl rfl (by kernel_rfl) (by kernel_rfl) (by kernel_rfl) (fun _ _ _ h => h) (Or.inl ⟨by rfl, ?hy8c⟩) hHeld ?rest8c
      case hy8c => intro W hS; (try dsimp only at hS); go_simp; try (with_reducible rfl)
      dsimp only [List.set]
      refine takeL 9 56 (v := ?_) rfl rfl (by kernel_rfl) (by kernel_rfl) (by kernel_rfl) (fun _ _ _ h => h) (Or.inl ⟨by rfl, ?hy9c⟩) hHeld ?rest9c
      case hy9c => intro W hS; (try dsimp only at hS); go_simp; try (with_reducible rfl)
      dsimp only [List.set]
      refine takeL 10 57 (v := ?_) rfl rfl (by kernel_rfl) (by kernel_rfl) (by kernel_rfl) (fun _ _ _ h => h) (Or.inl ⟨by rfl, ?hy10c⟩) hHeld ?rest10c
      case hy10c => intro W hS; (try dsimp only at hS); go_simp; try (with_reducible rfl)
      dsimp only [List.set]
      refine takeL 11 58 (v := ?_) rfl rfl (by kernel_rfl) (by kernel_rfl) (by kernel_rfl) (fun _ _ _ h => h) (Or.inl ⟨by rfl, ?hy11c⟩) hHeld ?rest11c
      case hy11c => intro W hS; (try dsimp only at hS); go_simp; try (with_reducible rfl)
      dsimp only [List.set]
      refine takeL 12 59 (v := ?_) rfl rfl (by kernel_rfl) (by kernel_rfl) (by kernel_rfl) (fun _ _ _ h => h) (Or.inl ⟨by rfl, ?hy12c⟩) hHeld ?rest12c
      case hy12c => intro W hS; (try dsimp only at hS); go_simp; try (with_reducible rfl)
      dsimp only [List.set]
      refine takeL 13 60 (v := ?_) rfl rfl (by kernel_rfl) (by kernel_rfl) (by kernel_rfl) (fun _ _ _ h => h) (Or.inl ⟨by rfl, ?hy13c⟩) hHeld ?rest13c
      case hy13c => intro W hS; (try dsimp only at hS); go_simp; try (with_reducible rfl)
      dsimp only [List.set]
      refine takeL 14 61 (v := ?_) rfl rfl (by kernel_rfl) (by kernel_rfl) (by kernel_rfl) (fun _ _ _ h => h) (Or.inl ⟨by rfl, ?hy14c⟩) hHeld ?rest14c
      case hy14c => intro W hS; (try dsimp only at hS); go_simp; try (with_reducible rfl)
      dsimp only [List.set]
      refine takeL 15 62 (v := ?_) rfl rfl (by kernel_rfl) (by kernel_rfl) (by kernel_rfl) (fun _ _ _ h => h) (Or.inl ⟨by rfl, ?hy15c⟩) hHeld ?rest15c
      case hy15c => intro W hS; (try dsimp only at hS); go_simp; try (with_reducible rfl)
      dsimp only [List.set]
      refine takeL 16 63 (v := ?_) rfl rfl (by kernel_rfl) (by kernel_rfl) (by kernel_rfl) (fun _ _ _ h => h) (Or.inl ⟨by rfl, ?hy16c⟩) hHeld ?rest16c
      case hy16c => intro W hS; (try dsimp only at hS); go_simp; try (with_reducible rfl)
      dsimp only [List.set]
      refine takeL 17 64 (v := ?_) rfl rfl (by kernel_rfl) (by kernel_rfl) (by kernel_rfl) (fun _ _ _ h => h) (Or.inl ⟨by rfl, ?hy17c⟩) hHeld ?rest17c
      case hy17c => intro W hS; (try dsimp only at hS); go_simp; try (with_reducible rfl)
      dsimp only [List.set]
      refine takeL 18 65 (v := ?_) rfl rfl (by kernel_rfl) (by kernel_rfl) (by kernel_rfl) (fun _ _ _ h => h) (Or.inl ⟨by rfl, ?hy18c⟩) hHeld ?rest18c
      case hy18c => intro W hS; (try dsimp only at hS); go_simp; try (with_reducible rfl)
      dsimp only [List.set]
      refine takeL 19 66 (v := ?_) rfl rfl (by kernel_rfl) (by kernel_rfl) (by kernel_rfl) (fun _ _ _ h => h) (Or.inl ⟨by rfl, ?hy19c⟩) hHeld ?rest19c
      case hy19c => intro W hS; (try dsimp only at hS); go_simp; try (with_reducible rfl)
      dsimp only [List.set]
      refine takeL 20 67 (v := ?_) rfl rfl (by kernel_rfl) (by kernel_rfl) (by kernel_rfl) (fun _ _ _ h => h) (Or.inl ⟨by rfl, ?hy20c⟩) hHeld ?rest20c
      case hy20c => intro W hS; (try dsimp only at hS); go_simp; try (with_reducible rfl)
      dsimp only [List.set]
      refine takeL 21 68 (v := ?_) rfl rfl (by kernel_rfl) (by kernel_rfl) (by kernel_rfl) (fun _ _ _ h => h) (Or.inl ⟨by rfl, ?hy21c⟩) hHeld ?rest21c
      case hy21c => intro W hS; (try dsimp only at hS); go_simp; try (with_reducible rfl)
      dsimp only [List.set]
      refine takeL 22 69 (v := ?_) rfl rfl (by kernel_rfl) (by kernel_rfl) (by kernel_rfl) (fun _ _ _ h => h) (Or.inl ⟨by rfl, ?hy22c⟩) hHeld ?rest22c
      case hy22c => intro W hS; (try dsimp only at hS); go_simp; try (with_reducible rfl)
      dsimp only [List.set]
      refine takeL 23 70 (v := ?_) rfl rfl (by kernel_rfl) (by kernel_rfl) (by kernel_rfl) (fun _ _ _ h => h) (Or.inl ⟨by rfl, ?hy23c⟩) hHeld ?rest23c
      case hy23c => intro W hS; (try dsimp only at hS); go_simp; try (with_reducible rfl)
      dsimp only [List.set]
      refine takeL 24 71 (v := ?_) rfl rfl (by kernel_rfl) (by kernel_rfl) (by kernel_rfl) (fun _ _ _ h => h) (Or.inl ⟨by rfl, ?hy24c⟩) hHeld ?rest24c
      case hy24c => intro W hS; (try dsimp only at hS); go_simp; try (with_reducible rfl)
      dsimp only [List.set]
      refine takeL 25 72 (v := ?_) rfl rfl (by kernel_rfl) (by kernel_rfl) (by kernel_rfl) (fun _ _ _ h => h) (Or.inl ⟨by rfl, ?hy25c⟩) hHeld ?rest25c
      case hy25c => intro W hS; (try dsimp only at hS); go_simp; try (with_reducible rfl)
      dsimp only [List.set]
      refine takeL 26 73 (v := ?_) rfl rfl (by kernel_rfl) (by kernel_rfl) (by kernel_rfl) (fun _ _ _ h => h) (Or.inl ⟨by rfl, ?hy26c⟩) hHeld ?rest26c
      case hy26c => intro W hS; (try dsimp only at hS); go_simp; try (with_reducible rfl)
      dsimp only [List.set]
      refine takeL 27 74 (v := ?_) rfl rfl (by kernel_rfl) (by kernel_rfl) (by kernel_rfl) (fun _ _ _ h => h) (Or.inl ⟨by rfl, ?hy27c⟩) hHeld ?rest27c
      case hy27c => intro W hS; (try dsimp only at hS); go_simp; try (with_reducible rfl)
      dsimp only [List.set]
      refine takeL 28 75 (v := ?_) rfl rfl (by kernel_rfl) (by kernel_rfl) (by kernel_rfl) (fun _ _ _ h => h) (Or.inl ⟨by rfl, ?hy28c⟩) hHeld ?rest28c
      case hy28c => intro W hS; (try dsimp only at hS); go_simp; try (with_reducible rfl)
      dsimp only [List.set]
      refine takeL 29 76 (v := ?_) rfl rfl (by kernel_rfl) (by kernel_rfl) (by kernel_rfl) (fun _ _ _ h => h) (Or.inl ⟨by rfl, ?hy29c⟩) hHeld ?rest29c
      case hy29c => intro W hS; (try dsimp only at hS); go_simp; try (with_reducible rfl)
      dsimp only [List.set]
      refine takeL 30 77 (v := ?_) rfl rfl (by kernel_rfl) (by kernel_rfl) (by kernel_rfl) (fun _ _ _ h => h) (Or.inl ⟨by rfl, ?hy30c⟩) hHeld ?rest30c
      case hy30c => intro W hS; (try dsimp only at hS); go_simp; try (with_reducible rfl)
      dsimp only [List.set]
      refine takeL 31 78 (v := ?_) rfl rfl (by kernel_rfl) (by kernel_rfl) (by kernel_rfl) (fun _ _ _ h => h) (Or.inl ⟨by rfl, ?hy31c⟩) hHeld ?rest31c
      case hy31c => intro W hS; (try dsimp only at hS); go_simp; try (with_reducible rfl)
      dsimp only [List.set]
      refine takeL 32 79 (v := ?_) rfl rfl (by kernel_rfl) (by kernel_rfl) (by kernel_rfl) (fun _ _ _ h => h) (Or.inl ⟨by rfl, ?hy32c⟩) hHeld ?rest32c
      case hy32c => intro W hS; (try dsimp only at hS); go_simp; try (with_reducible rfl)
      dsimp only [List.set]
      refine takeL 33 80 (v := ?_) rfl rfl (by kernel_rfl) (by kernel_rfl) (by kernel_rfl) (fun _ _ _ h => h) (Or.inl ⟨by rfl, ?hy33c⟩) hHeld ?rest33c
      case hy33c => intro W hS; (try dsimp only at hS); go_simp; try (with_reducible rfl)
      dsimp only [List.set]
      refine takeL 34 81 (v := ?_) rfl rfl (by kernel_rfl) (by kernel_rfl) (by kernel_rfl) (fun _ _ _ h => h) (Or.inl ⟨by rfl, ?hy34c⟩) hHeld ?rest34c
      case hy34c => intro W hS; (try dsimp only at hS); go_simp; try (with_reducible rfl)
      dsimp only [List.set]
      refine wpAnyH_ready (rs := [35]) (by kernel_rfl) (by simp) ?_
      refine AllReadyH.cons rfl (fun K hK => ?_) AllReadyH.nil
      go_simp
      go_wp2_with (go_at_call 7; (with_reducible refine (P3.out _).mono ?_); rintro e w3 ⟨A3, c3, rfl, hs3, hb3⟩; have HB3 := Lib.hid (show Below w.heap.size w w3 from by first | exact below_then HB2.out HB2.out.size hb3 | exact below_drew1 HB2.out HB2.out.size hb3); have hcv3 : (convert 22 9 (.slice A3 2 c3)).run Try.prog w3 = .ok (.string (strB [0, 128])) w3 := hs3.conv; have HS3 := Lib.hid hs3; clear hs3 hb3)
      refine hK.out _ _ ?_ (fun hHeld => ?_)
      · exact (hx.out _ HB3.out)
      clear hK K
      refine wpAnyH_ready (rs := [36]) (by kernel_rfl) (by simp) ?_
      refine AllReadyH.cons rfl (fun K hK => ?_) AllReadyH.nil
      go_simp
      refine hK.out _ _ ?_ (fun hHeld => ?_)
      · exact (hx.out _ HB3.out)
      clear hK K
      refine takeL 37 84 (v := ?_) rfl rfl (by kernel_rfl) (by kernel_rfl) (by kernel_rfl) (fun _ _ _ h => h) (Or.inl ⟨by rfl, ?hy37c⟩) hHeld ?rest37c
      case hy37c => intro W hS; (try dsimp only at hS); go_simp; try (with_reducible rfl)
      dsimp only [List.set]
      refine takeL 38 85 (v := ?_) rfl rfl (by kernel_rfl) (by kernel_rfl) (by kernel_rfl) (fun _ _ _ h => h) (Or.inl ⟨by rfl, ?hy38c⟩) hHeld ?rest38c
      case hy38c => intro W hS; (try dsimp only at hS); go_simp; try (with_reducible rfl)
      dsimp only [List.set]
      refine takeL 39 86 (v := ?_) rfl rfl (by kernel_rfl) (by kernel_rfl) (by kernel_rfl) (fun _ _ _ h => h) (Or.inl ⟨by rfl, ?hy39c⟩) hHeld ?rest39c
      case hy39c => intro W hS; (try dsimp only at hS); go_simp; try (with_reducible rfl)
      dsimp only [List.set]
      refine wpAnyH_ready (rs := [40]) (by kernel_rfl) (by simp) ?_
      refine AllReadyH.cons rfl (fun K hK => ?_) AllReadyH.nil
      go_simp
      go_wp2_with (go_at_call 9; (with_reducible refine (P4.out _).mono ?_); rintro e w4 ⟨A4, c4, rfl, hs4, hb4⟩; have HB4 := Lib.hid (show Below w.heap.size w w4 from by first | exact below_then HB3.out HB3.out.size hb4 | exact below_drew1 HB3.out HB3.out.size hb4); have hcv4 : (convert 22 9 (.slice A4 1 c4)).run Try.prog w4 = .ok (.string (strB [255])) w4 := hs4.conv; have HS4 := Lib.hid hs4; clear hs4 hb4)
      refine hK.out _ _ ?_ (fun hHeld => ?_)
      · exact (hx.out _ HB4.out)
      clear hK K
      refine wpAnyH_ready (rs := [41]) (by kernel_rfl) (by simp) ?_
      refine AllReadyH.cons rfl (fun K hK => ?_) AllReadyH.nil
      go_simp
      refine hK.out _ _ ?_ (fun hHeld => ?_)
      · exact (hx.out _ HB4.out)
      clear hK K
      refine takeL 42 89 (v := ?_) rfl rfl (by kernel_rfl) (by kernel_rfl) (by kernel_rfl) (fun _ _ _ h => h) (Or.inl ⟨by rfl, ?hy42c⟩) hHeld ?rest42c
      case hy42c => intro W hS; (try dsimp only at hS); go_simp; try (with_reducible rfl)
      dsimp only [List.set]
      refine takeL 43 90 (v := ?_) rfl rfl (by kernel_rfl) (by kernel_rfl) (by kernel_rfl) (fun _ _ _ h => h) (Or.inl ⟨by rfl, ?hy43c⟩) hHeld ?rest43c
      case hy43c => intro W hS; (try dsimp only at hS); go_simp; try (with_reducible rfl)
      dsimp only [List.set]
      refine takeL 44 91 (v := ?_) rfl rfl (by kernel_rfl) (by kernel_rfl) (by kernel_rfl) (fun _ _ _ h => h) (Or.inl ⟨by rfl, ?hy44c⟩) hHeld ?rest44c
      case hy44c => intro W hS; (try dsimp only at hS); go_simp; try (with_reducible rfl)
      dsimp only [List.set]
      refine wpAnyH_ready (rs := [45]) (by kernel_rfl) (by simp) ?_
      refine AllReadyH.cons rfl (fun K hK => ?_) AllReadyH.nil
      go_simp
      go_wp2_with (go_at_call 9; (with_reducible refine (P5.out _).mono ?_); rintro e w5 ⟨A5, c5, rfl, hs5, hb5⟩; have HB5 := Lib.hid (show Below w.heap.size w w5 from by first | exact below_then HB4.out HB4.out.size hb5 | exact below_drew1 HB4.out HB4.out.size hb5); have hcv5 : (convert 22 9 (.slice A5 1 c5)).run Try.prog w5 = .ok (.string (strB [0])) w5 := hs5.conv; have HS5 := Lib.hid hs5; clear hs5 hb5)
      refine hK.out _ _ ?_ (fun hHeld => ?_)
      · exact (hx.out _ HB5.out)
      clear hK K
      refine wpAnyH_ready (rs := [46]) (by kernel_rfl) (by simp) ?_
      refine AllReadyH.cons rfl (fun K hK => ?_) AllReadyH.nil
      go_simp
      refine hK.out _ _ ?_ (fun hHeld => ?_)
      · exact (hx.out _ HB5.out)
      clear hK K
      refine takeL 47 94 (v := ?_) rfl rfl (by kernel_rfl) (by kernel_rfl) (by kernel_rfl) (fun _ _ _ h => h) (Or.inl ⟨by rfl, ?hy47c⟩) hHeld ?rest47c
      case hy47c => intro W hS; (try dsimp only at hS); go_simp; try (with_reducible rfl)
      dsimp only [List.set]
      refine takeL 48 95 (v := ?_) rfl rfl (by kernel_rfl) (by kernel_rfl) (by kernel_rfl) (fun _ _ _ h => h) (Or.inl ⟨by rfl, ?hy48c⟩) hHeld ?rest48c
      case hy48c => intro W hS; (try dsimp only at hS); go_simp; try (with_reducible rfl)
      dsimp only [List.set]
      refine takeL 49 4 (v := ?_) rfl rfl (by kernel_rfl) (by kernel_rfl) (by kernel_rfl) (fun _ _ _ h => h) (Or.inl ⟨by rfl, ?hy49c⟩) hHeld ?rest49c
      case hy49c => intro W hS; (try dsimp only at hS); go_simp; try (with_reducible rfl)
      dsimp only [List.set]
      refine wpAnyH_done (by kernel_rfl) ?_ _
      go_wp2_with fail
      go_ret
      exact ⟨rfl, HB5.out⟩

set_option maxRecDepth 8000 in
set_option maxHeartbeats 1600000 in
theorem bytes_yes (n : Int) (b off cp : Nat) (w : World) (hx : Hid (∀ w1, Below w.heap.size w w1 → w1.cell? ⟨b, off, none⟩ = some (.int .u8 255))) (R : List Nat) (q1 q2 y1 y2 : Int) (e2 : (q1 == y1) = true) (e3 : (q2 == y2) = true)
    (R1 : Hid (∀ w1, Below w.heap.size w w1 → Calls Try.prog 4 #[.slice (some ⟨b, off, none⟩) 1 cp] w1 fun e w' => e = .returned (.tuple #[.int .i64 q1, .int .i64 q2]) ∧ Below w1.heap.size w1 w'))
    (R2 : Hid (∀ w1, Below w.heap.size w w1 → Calls Try.prog 5 #[.slice (some ⟨b, off, none⟩) 1 cp] w1 fun e w' => e = .returned (.tuple #[.int .i64 y1, .int .i64 y2]) ∧ w1 = w'))
    (B1 : Hid (∀ w1, Below w.heap.size w w1 → Calls Try.prog 6 #[.slice (some ⟨b, off, none⟩) 1 cp] w1 fun e w' => e = .returned (.tuple #[.bool true, .int .i64 0]) ∧ w' = w1))
    (P1 : Hid (∀ w, Calls Try.prog 7 #[.int .i64 n] w fun e w' => ∃ A' c', e = .returned (.slice A' R.length c') ∧ Src w' w'.heap.size A' c' R ∧ Below w.heap.size w w'))
    (P2 : Hid (∀ w, Calls Try.prog 8 #[.int .i64 n] w fun e w' => ∃ A' c', e = .returned (.slice A' R.length c') ∧ Src w' w'.heap.size A' c' R ∧ Below w.heap.size w w'))
    (P3 : Hid (∀ w, Calls Try.prog 7 #[.int .i64 128] w fun e w' => ∃ A' c', e = .returned (.slice A' 2 c') ∧ Src w' w'.heap.size A' c' [0, 128] ∧ Below w.heap.size w w'))
    (P4 : Hid (∀ w, Calls Try.prog 9 #[.bool true] w fun e w' => ∃ A' c', e = .returned (.slice A' 1 c') ∧ Src w' w'.heap.size A' c' [255] ∧ Below w.heap.size w w'))
    (P5 : Hid (∀ w, Calls Try.prog 9 #[.bool false] w fun e w' => ∃ A' c', e = .returned (.slice A' 1 c') ∧ Src w' w'.heap.size A' c' [0] ∧ Below w.heap.size w w')) :
    Calls Try.prog 3 #[.int .i64 n, .slice (some ⟨b, off, none⟩) 1 cp] w fun e w' => e = .returned (.bool true) ∧ Below w.heap.size w w' := by
  have e1 := self_true (strB R)
  have e4 : ((strB [0, 128]).toList == [0, 128]) = true := by rw [strB_toList]; rfl
  have e5 : ((strB [255]).toList == [255]) = true := by rw [strB_toList]; rfl
  have e6 : ((strB [0]).toList == [0]) = true := by rw [strB_toList]; rfl
  go_enter Try.func3, Try.ntmps3
  go_wp2_with fail
  refine (R1.out _ (Below.refl _ _)).mono ?_
  rintro e w0 ⟨rfl, hb0⟩
  have HB0 := Lib.hid hb0
  clear hb0
  go_wp2_with fail
  refine (R2.out _ HB0.out).mono ?_
  rintro e wz ⟨rfl, hwz⟩
  subst hwz
  go_wp2_with fail
  refine (B1.out _ HB0.out).mono ?_
  rintro e wz ⟨rfl, hwz⟩
  subst hwz
  have hx0 := hx.out _ HB0.out
  go_wp2_with fail
  refine wp_region_held_drew (S := fun W => W.cell? ⟨b, off, none⟩ = some (.int .u8 255)) (by kernel_rfl) hx0 ?_
  intro hHeld
  refine takeL 0 47 (v := ?_) rfl rfl (by kernel_rfl) (by kernel_rfl) (by kernel_rfl) (fun _ _ _ h => h) (Or.inl ⟨by rfl, ?hy0⟩) hHeld ?rest0
  case hy0 => intro W hS; (try dsimp only at hS); go_simp; try (with_reducible rfl)
  dsimp only [List.set]
  refine takeL 3 50 (v := ?_) rfl rfl (by kernel_rfl) (by kernel_rfl) (by kernel_rfl) (fun _ _ _ h => h) (Or.inl ⟨by rfl, ?hy3⟩) hHeld ?rest3
  case hy3 => intro W hS; (try dsimp only at hS); go_simp; try (with_reducible rfl)
  dsimp only [List.set]
  refine wpAnyH_ready (rs := [1]) (by kernel_rfl) (by simp) ?_
  refine AllReadyH.cons rfl (fun K hK => ?_) AllReadyH.nil
  go_simp
  go_wp2_with (go_at_call 7; (with_reducible refine (P1.out _).mono ?_); rintro e w1 ⟨A1, c1, rfl, hs1, hb1⟩; have HB1 := Lib.hid (show Below w.heap.size w w1 from by first | exact below_then HB0.out HB0.out.size hb1 | exact below_drew1 HB0.out HB0.out.size hb1); have hcv1 : (convert 22 9 (.slice A1 R.length c1)).run Try.prog w1 = .ok (.string (strB R)) w1 := hs1.conv; have HS1 := Lib.hid hs1; clear hs1 hb1)
  refine hK.out _ _ ?_ (fun hHeld => ?_)
  · exact (hx.out _ HB1.out)
  clear hK K
  refine wpAnyH_ready (rs := [2, 4]) (by kernel_rfl) (by simp) ?_
  refine AllReadyH.cons rfl (fun K hK => ?_) (AllReadyH.cons rfl (fun K hK => ?_) AllReadyH.nil)
  · go_simp
    refine hK.out _ _ ?_ (fun hHeld => ?_)
    · exact (hx.out _ HB1.out)
    clear hK K
    refine wpAnyH_ready (rs := [4]) (by kernel_rfl) (by simp) ?_
    refine AllReadyH.cons rfl (fun K hK => ?_) AllReadyH.nil
    go_simp
    go_wp2_with (go_at_call 8; (with_reducible refine (P2.out _).mono ?_); rintro e w2 ⟨A2, c2, rfl, hs2, hb2⟩; have HB2 := Lib.hid (show Below w.heap.size w w2 from by first | exact below_then HB1.out HB1.out.size hb2 | exact below_drew1 HB1.out HB1.out.size hb2); have hcv2 : (convert 22 9 (.slice A2 R.length c2)).run Try.prog w2 = .ok (.string (strB R)) w2 := hs2.conv; have hcv12 : (convert 22 9 (.slice A1 R.length c1)).run Try.prog w2 = .ok (.string (strB R)) w2 := (HS1.out.below (by first | exact hb2 | exact below_drew1 (Below.refl _ _) (Nat.le_refl _) hb2)).conv; have HS2 := Lib.hid hs2; clear hs2 hb2)
    refine hK.out _ _ ?_ (fun hHeld => ?_)
    · exact (hx.out _ HB2.out)
    clear hK K
    refine wpAnyH_ready (rs := [5]) (by kernel_rfl) (by simp) ?_
    refine AllReadyH.cons rfl (fun K hK => ?_) AllReadyH.nil
    go_simp
    refine hK.out _ _ ?_ (fun hHeld => ?_)
    · exact (hx.out _ HB2.out)
    clear hK K
    refine takeL 6 53 (v := ?_) rfl rfl (by kernel_rfl) (by kernel_rfl) (by kernel_rfl) (fun _ _ _ h => h) (Or.inl ⟨by rfl, ?hy6a⟩) hHeld ?rest6a
    case hy6a => intro W hS; (try dsimp only at hS); go_simp; try (with_reducible rfl)
    dsimp only [List.set]
    refine takeL 7 54 (v := ?_) rfl rfl (by kernel_rfl) (by kernel_rfl) (by kernel_rfl) (fun _ _ _ h => h) (Or.inl ⟨by rfl, ?hy7a⟩) hHeld ?rest7a
    case hy7a => intro W hS; (try dsimp only at hS); go_simp; try (with_reducible rfl)
    dsimp only [List.set]
    refine takeL 8 55 (v := ?_) rfl rfl (by kernel_rfl) (by kernel_rfl) (by kernel_rfl) (fun _ _ _ h => h) (Or.inl ⟨by rfl, ?hy8a⟩) hHeld ?rest8a
    case hy8a => intro W hS; (try dsimp only at hS); go_simp; try (with_reducible rfl)
    dsimp only [List.set]
    refine takeL 9 56 (v := ?_) rfl rfl (by kernel_rfl) (by kernel_rfl) (by kernel_rfl) (fun _ _ _ h => h) (Or.inl ⟨by rfl, ?hy9a⟩) hHeld ?rest9a
    case hy9a => intro W hS; (try dsimp only at hS); go_simp; try (with_reducible rfl)
    dsimp only [List.set]
    refine takeL 10 57 (v := ?_) rfl rfl (by kernel_rfl) (by kernel_rfl) (by kernel_rfl) (fun _ _ _ h => h) (Or.inl ⟨by rfl, ?hy10a⟩) hHeld ?rest10a
    case hy10a => intro W hS; (try dsimp only at hS); go_simp; try (with_reducible rfl)
    dsimp only [List.set]
    refine takeL 11 58 (v := ?_) rfl rfl (by kernel_rfl) (by kernel_rfl) (by kernel_rfl) (fun _ _ _ h => h) (Or.inl ⟨by rfl, ?hy11a⟩) hHeld ?rest11a
    case hy11a => intro W hS; (try dsimp only at hS); go_simp; try (with_reducible rfl)
    dsimp only [List.set]
    refine takeL 12 59 (v := ?_) rfl rfl (by kernel_rfl) (by kernel_rfl) (by kernel_rfl) (fun _ _ _ h => h) (Or.inl ⟨by rfl, ?hy12a⟩) hHeld ?rest12a
    case hy12a => intro W hS; (try dsimp only at hS); go_simp; try (with_reducible rfl)
    dsimp only [List.set]
    refine takeL 13 60 (v := ?_) rfl rfl (by kernel_rfl) (by kernel_rfl) (by kernel_rfl) (fun _ _ _ h => h) (Or.inl ⟨by rfl, ?hy13a⟩) hHeld ?rest13a
    case hy13a => intro W hS; (try dsimp only at hS); go_simp; try (with_reducible rfl)
    dsimp only [List.set]
    refine takeL 14 61 (v := ?_) rfl rfl (by kernel_rfl) (by kernel_rfl) (by kernel_rfl) (fun _ _ _ h => h) (Or.inl ⟨by rfl, ?hy14a⟩) hHeld ?rest14a
    case hy14a => intro W hS; (try dsimp only at hS); go_simp; try (with_reducible rfl)
    dsimp only [List.set]
    refine takeL 15 62 (v := ?_) rfl rfl (by kernel_rfl) (by kernel_rfl) (by kernel_rfl) (fun _ _ _ h => h) (Or.inl ⟨by rfl, ?hy15a⟩) hHeld ?rest15a
    case hy15a => intro W hS; (try dsimp only at hS); go_simp; try (with_reducible rfl)
    dsimp only [List.set]
    refine takeL 16 63 (v := ?_) rfl rfl (by kernel_rfl) (by kernel_rfl) (by kernel_rfl) (fun _ _ _ h => h) (Or.inl ⟨by rfl, ?hy16a⟩) hHeld ?rest16a
    case hy16a => intro W hS; (try dsimp only at hS); go_simp; try (with_reducible rfl)
    dsimp only [List.set]
    refine takeL 17 64 (v := ?_) rfl rfl (by kernel_rfl) (by kernel_rfl) (by kernel_rfl) (fun _ _ _ h => h) (Or.inl ⟨by rfl, ?hy17a⟩) hHeld ?rest17a
    case hy17a => intro W hS; (try dsimp only at hS); go_simp; try (with_reducible rfl)
    dsimp only [List.set]
    refine takeL 18 65 (v := ?_) rfl rfl (by kernel_rfl) (by kernel_rfl) (by kernel_rfl) (fun _ _ _ h => h) (Or.inl ⟨by rfl, ?hy18a⟩) hHeld ?rest18a
    case hy18a => intro W hS; (try dsimp only at hS); go_simp; try (with_reducible rfl)
    dsimp only [List.set]
    refine takeL 19 66 (v := ?_) rfl rfl (by kernel_rfl) (by kernel_rfl) (by kernel_rfl) (fun _ _ _ h => h) (Or.inl ⟨by rfl, ?hy19a⟩) hHeld ?rest19a
    case hy19a => intro W hS; (try dsimp only at hS); go_simp; try (with_reducible rfl)
    dsimp only [List.set]
    refine takeL 20 67 (v := ?_) rfl rfl (by kernel_rfl) (by kernel_rfl) (by kernel_rfl) (fun _ _ _ h => h) (Or.inl ⟨by rfl, ?hy20a⟩) hHeld ?rest20a
    case hy20a => intro W hS; (try dsimp only at hS); go_simp; try (with_reducible rfl)
    dsimp only [List.set]
    refine takeL 21 68 (v := ?_) rfl rfl (by kernel_rfl) (by kernel_rfl) (by kernel_rfl) (fun _ _ _ h => h) (Or.inl ⟨by rfl, ?hy21a⟩) hHeld ?rest21a
    case hy21a => intro W hS; (try dsimp only at hS); go_simp; try (with_reducible rfl)
    dsimp only [List.set]
    refine takeL 22 69 (v := ?_) rfl rfl (by kernel_rfl) (by kernel_rfl) (by kernel_rfl) (fun _ _ _ h => h) (Or.inl ⟨by rfl, ?hy22a⟩) hHeld ?rest22a
    case hy22a => intro W hS; (try dsimp only at hS); go_simp; try (with_reducible rfl)
    dsimp only [List.set]
    refine takeL 23 70 (v := ?_) rfl rfl (by kernel_rfl) (by kernel_rfl) (by kernel_rfl) (fun _ _ _ h => h) (Or.inl ⟨by rfl, ?hy23a⟩) hHeld ?rest23a
    case hy23a => intro W hS; (try dsimp only at hS); go_simp; try (with_reducible rfl)
    dsimp only [List.set]
    refine takeL 24 71 (v := ?_) rfl rfl (by kernel_rfl) (by kernel_rfl) (by kernel_rfl) (fun _ _ _ h => h) (Or.inl ⟨by rfl, ?hy24a⟩) hHeld ?rest24a
    case hy24a => intro W hS; (try dsimp only at hS); go_simp; try (with_reducible rfl)
    dsimp only [List.set]
    refine takeL 25 72 (v := ?_) rfl rfl (by kernel_rfl) (by kernel_rfl) (by kernel_rfl) (fun _ _ _ h => h) (Or.inl ⟨by rfl, ?hy25a⟩) hHeld ?rest25a
    case hy25a => intro W hS; (try dsimp only at hS); go_simp; try (with_reducible rfl)
    dsimp only [List.set]
    refine takeL 26 73 (v := ?_) rfl rfl (by kernel_rfl) (by kernel_rfl) (by kernel_rfl) (fun _ _ _ h => h) (Or.inl ⟨by rfl, ?hy26a⟩) hHeld ?rest26a
    case hy26a => intro W hS; (try dsimp only at hS); go_simp; try (with_reducible rfl)
    dsimp only [List.set]
    refine takeL 27 74 (v := ?_) rfl rfl (by kernel_rfl) (by kernel_rfl) (by kernel_rfl) (fun _ _ _ h => h) (Or.inl ⟨by rfl, ?hy27a⟩) hHeld ?rest27a
    case hy27a => intro W hS; (try dsimp only at hS); go_simp; try (with_reducible rfl)
    dsimp only [List.set]
    refine takeL 28 75 (v := ?_) rfl rfl (by kernel_rfl) (by kernel_rfl) (by kernel_rfl) (fun _ _ _ h => h) (Or.inl ⟨by rfl, ?hy28a⟩) hHeld ?rest28a
    case hy28a => intro W hS; (try dsimp only at hS); go_simp; try (with_reducible rfl)
    dsimp only [List.set]
    refine takeL 29 76 (v := ?_) rfl rfl (by kernel_rfl) (by kernel_rfl) (by kernel_rfl) (fun _ _ _ h => h) (Or.inl ⟨by rfl, ?hy29a⟩) hHeld ?rest29a
    case hy29a => intro W hS; (try dsimp only at hS); go_simp; try (with_reducible rfl)
    dsimp only [List.set]
    refine takeL 30 77 (v := ?_) rfl rfl (by kernel_rfl) (by kernel_rfl) (by kernel_rfl) (fun _ _ _ h => h) (Or.inl ⟨by rfl, ?hy30a⟩) hHeld ?rest30a
    case hy30a => intro W hS; (try dsimp only at hS); go_simp; try (with_reducible rfl)
    dsimp only [List.set]
    refine takeL 31 78 (v := ?_) rfl rfl (by kernel_rfl) (by kernel_rfl) (by kernel_rfl) (fun _ _ _ h => h) (Or.inl ⟨by rfl, ?hy31a⟩) hHeld ?rest31a
    case hy31a => intro W hS; (try dsimp only at hS); go_simp; try (with_reducible rfl)
    dsimp only [List.set]
    refine takeL 32 79 (v := ?_) rfl rfl (by kernel_rfl) (by kernel_rfl) (by kernel_rfl) (fun _ _ _ h => h) (Or.inl ⟨by rfl, ?hy32a⟩) hHeld ?rest32a
    case hy32a => intro W hS; (try dsimp only at hS); go_simp; try (with_reducible rfl)
    dsimp only [List.set]
    refine takeL 33 80 (v := ?_) rfl rfl (by kernel_rfl) (by kernel_rfl) (by kernel_rfl) (fun _ _ _ h => h) (Or.inl ⟨by rfl, ?hy33a⟩) hHeld ?rest33a
    case hy33a => intro W hS; (try dsimp only at hS); go_simp; try (with_reducible rfl)
    dsimp only [List.set]
    refine takeL 34 81 (v := ?_) rfl rfl (by kernel_rfl) (by kernel_rfl) (by kernel_rfl) (fun _ _ _ h => h) (Or.inl ⟨by rfl, ?hy34a⟩) hHeld ?rest34a
    case hy34a => intro W hS; (try dsimp only at hS); go_simp; try (with_reducible rfl)
    dsimp only [List.set]
    refine wpAnyH_ready (rs := [35]) (by kernel_rfl) (by simp) ?_
    refine AllReadyH.cons rfl (fun K hK => ?_) AllReadyH.nil
    go_simp
    go_wp2_with (go_at_call 7; (with_reducible refine (P3.out _).mono ?_); rintro e w3 ⟨A3, c3, rfl, hs3, hb3⟩; have HB3 := Lib.hid (show Below w.heap.size w w3 from by first | exact below_then HB2.out HB2.out.size hb3 | exact below_drew1 HB2.out HB2.out.size hb3); have hcv3 : (convert 22 9 (.slice A3 2 c3)).run Try.prog w3 = .ok (.string (strB [0, 128])) w3 := hs3.conv; have HS3 := Lib.hid hs3; clear hs3 hb3)
    refine hK.out _ _ ?_ (fun hHeld => ?_)
    · exact (hx.out _ HB3.out)
    clear hK K
    refine wpAnyH_ready (rs := [36]) (by kernel_rfl) (by simp) ?_
    refine AllReadyH.cons rfl (fun K hK => ?_) AllReadyH.nil
    go_simp
    refine hK.out _ _ ?_ (fun hHeld => ?_)
    · exact (hx.out _ HB3.out)
    clear hK K
    refine takeL 37 84 (v := ?_) rfl rfl (by kernel_rfl) (by kernel_rfl) (by kernel_rfl) (fun _ _ _ h => h) (Or.inl ⟨by rfl, ?hy37a⟩) hHeld ?rest37a
    case hy37a => intro W hS; (try dsimp only at hS); go_simp; try (with_reducible rfl)
    dsimp only [List.set]
    refine takeL 38 85 (v := ?_) rfl rfl (by kernel_rfl) (by kernel_rfl) (by kernel_rfl) (fun _ _ _ h => h) (Or.inl ⟨by rfl, ?hy38a⟩) hHeld ?rest38a
    case hy38a => intro W hS; (try dsimp only at hS); go_simp; try (with_reducible rfl)
    dsimp only [List.set]
    refine takeL 39 86 (v := ?_) rfl rfl (by kernel_rfl) (by kernel_rfl) (by kernel_rfl) (fun _ _ _ h => h) (Or.inl ⟨by rfl, ?hy39a⟩) hHeld ?rest39a
    case hy39a => intro W hS; (try dsimp only at hS); go_simp; try (with_reducible rfl)
    dsimp only [List.set]
    refine wpAnyH_ready (rs := [40]) (by kernel_rfl) (by simp) ?_
    refine AllReadyH.cons rfl (fun K hK => ?_) AllReadyH.nil
    go_simp
    go_wp2_with (go_at_call 9; (with_reducible refine (P4.out _).mono ?_); rintro e w4 ⟨A4, c4, rfl, hs4, hb4⟩; have HB4 := Lib.hid (show Below w.heap.size w w4 from by first | exact below_then HB3.out HB3.out.size hb4 | exact below_drew1 HB3.out HB3.out.size hb4); have hcv4 : (convert 22 9 (.slice A4 1 c4)).run Try.prog w4 = .ok (.string (strB [255])) w4 := hs4.conv; have HS4 := Lib.hid hs4; clear hs4 hb4)
    refine hK.out _ _ ?_ (fun hHeld => ?_)
    · exact (hx.out _ HB4.out)
    clear hK K
    refine wpAnyH_ready (rs := [41]) (by kernel_rfl) (by simp) ?_
    refine AllReadyH.cons rfl (fun K hK => ?_) AllReadyH.nil
    go_simp
    refine hK.out _ _ ?_ (fun hHeld => ?_)
    · exact (hx.out _ HB4.out)
    clear hK K
    refine takeL 42 89 (v := ?_) rfl rfl (by kernel_rfl) (by kernel_rfl) (by kernel_rfl) (fun _ _ _ h => h) (Or.inl ⟨by rfl, ?hy42a⟩) hHeld ?rest42a
    case hy42a => intro W hS; (try dsimp only at hS); go_simp; try (with_reducible rfl)
    dsimp only [List.set]
    refine takeL 43 90 (v := ?_) rfl rfl (by kernel_rfl) (by kernel_rfl) (by kernel_rfl) (fun _ _ _ h => h) (Or.inl ⟨by rfl, ?hy43a⟩) hHeld ?rest43a
    case hy43a => intro W hS; (try dsimp only at hS); go_simp; try (with_reducible rfl)
    dsimp only [List.set]
    refine takeL 44 91 (v := ?_) rfl rfl (by kernel_rfl) (by kernel_rfl) (by kernel_rfl) (fun _ _ _ h => h) (Or.inl ⟨by rfl, ?hy44a⟩) hHeld ?rest44a
    case hy44a => intro W hS; (try dsimp only at hS); go_simp; try (with_reducible rfl)
    dsimp only [List.set]
    refine wpAnyH_ready (rs := [45]) (by kernel_rfl) (by simp) ?_
    refine AllReadyH.cons rfl (fun K hK => ?_) AllReadyH.nil
    go_simp
    go_wp2_with (go_at_call 9; (with_reducible refine (P5.out _).mono ?_); rintro e w5 ⟨A5, c5, rfl, hs5, hb5⟩; have HB5 := Lib.hid (show Below w.heap.size w w5 from by first | exact below_then HB4.out HB4.out.size hb5 | exact below_drew1 HB4.out HB4.out.size hb5); have hcv5 : (convert 22 9 (.slice A5 1 c5)).run Try.prog w5 = .ok (.string (strB [0])) w5 := hs5.conv; have HS5 := Lib.hid hs5; clear hs5 hb5)
    refine hK.out _ _ ?_ (fun hHeld => ?_)
    · exact (hx.out _ HB5.out)
    clear hK K
    refine wpAnyH_ready (rs := [46]) (by kernel_rfl) (by simp) ?_
    refine AllReadyH.cons rfl (fun K hK => ?_) AllReadyH.nil
    go_simp
    refine hK.out _ _ ?_ (fun hHeld => ?_)
    · exact (hx.out _ HB5.out)
    clear hK K
    refine takeL 47 94 (v := ?_) rfl rfl (by kernel_rfl) (by kernel_rfl) (by kernel_rfl) (fun _ _ _ h => h) (Or.inl ⟨by rfl, ?hy47a⟩) hHeld ?rest47a
    case hy47a => intro W hS; (try dsimp only at hS); go_simp; try (with_reducible rfl)
    dsimp only [List.set]
    refine takeL 48 95 (v := ?_) rfl rfl (by kernel_rfl) (by kernel_rfl) (by kernel_rfl) (fun _ _ _ h => h) (Or.inl ⟨by rfl, ?hy48a⟩) hHeld ?rest48a
    case hy48a => intro W hS; (try dsimp only at hS); go_simp; try (with_reducible rfl)
    dsimp only [List.set]
    refine takeL 49 4 (v := ?_) rfl rfl (by kernel_rfl) (by kernel_rfl) (by kernel_rfl) (fun _ _ _ h => h) (Or.inl ⟨by rfl, ?hy49a⟩) hHeld ?rest49a
    case hy49a => intro W hS; (try dsimp only at hS); go_simp; try (with_reducible rfl)
    dsimp only [List.set]
    refine wpAnyH_done (by kernel_rfl) ?_ _
    go_wp2_with fail
    go_ret
    exact ⟨rfl, HB5.out⟩
  · go_simp
    go_wp2_with (go_at_call 8; (with_reducible refine (P2.out _).mono ?_); rintro e w2 ⟨A2, c2, rfl, hs2, hb2⟩; have HB2 := Lib.hid (show Below w.heap.size w w2 from by first | exact below_then HB1.out HB1.out.size hb2 | exact below_drew1 HB1.out HB1.out.size hb2); have hcv2 : (convert 22 9 (.slice A2 R.length c2)).run Try.prog w2 = .ok (.string (strB R)) w2 := hs2.conv; have hcv12 : (convert 22 9 (.slice A1 R.length c1)).run Try.prog w2 = .ok (.string (strB R)) w2 := (HS1.out.below (by first | exact hb2 | exact below_drew1 (Below.refl _ _) (Nat.le_refl _) hb2)).conv; have HS2 := Lib.hid hs2; clear hs2 hb2)
    refine hK.out _ _ ?_ (fun hHeld => ?_)
    · exact (hx.out _ HB2.out)
    clear hK K
    refine wpAnyH_ready (rs := [2, 5]) (by kernel_rfl) (by simp) ?_
    refine AllReadyH.cons rfl (fun K hK => ?_) (AllReadyH.cons rfl (fun K hK => ?_) AllReadyH.nil)
    · go_simp
      refine hK.out _ _ ?_ (fun hHeld => ?_)
      · exact (hx.out _ HB2.out)
      clear hK K
      refine wpAnyH_ready (rs := [5]) (by kernel_rfl) (by simp) ?_
      refine AllReadyH.cons rfl (fun K hK => ?_) AllReadyH.nil
      go_simp
      refine hK.out _ _ ?_ (fun hHeld => ?_)
      · exact (hx.out _ HB2.out)
      clear hK K
      refine takeL 6 53 (v := ?_) rfl rfl (by kernel_rfl) (by kernel_rfl) (by kernel_rfl) (fun _ _ _ h => h) (Or.inl ⟨by rfl, ?hy6b⟩) hHeld ?rest6b
      case hy6b => intro W hS; (try dsimp only at hS); go_simp; try (with_reducible rfl)
      dsimp only [List.set]
      refine takeL 7 54 (v := ?_) rfl rfl (by kernel_rfl) (by kernel_rfl) (by kernel_rfl) (fun _ _ _ h => h) (Or.inl ⟨by rfl, ?hy7b⟩) hHeld ?rest7b
      case hy7b => intro W hS; (try dsimp only at hS); go_simp; try (with_reducible rfl)
      dsimp only [List.set]
      refine takeL 8 55 (v := ?_) rfl rfl (by kernel_rfl) (by kernel_rfl) (by kernel_rfl) (fun _ _ _ h => h) (Or.inl ⟨by rfl, ?hy8b⟩) hHeld ?rest8b
      case hy8b => intro W hS; (try dsimp only at hS); go_simp; try (with_reducible rfl)
      dsimp only [List.set]
      refine takeL 9 56 (v := ?_) rfl rfl (by kernel_rfl) (by kernel_rfl) (by kernel_rfl) (fun _ _ _ h => h) (Or.inl ⟨by rfl, ?hy9b⟩) hHeld ?rest9b
      case hy9b => intro W hS; (try dsimp only at hS); go_simp; try (with_reducible rfl)
      dsimp only [List.set]
      refine takeL 10 57 (v := ?_) rfl rfl (by kernel_rfl) (by kernel_rfl) (by kernel_rfl) (fun _ _ _ h => h) (Or.inl ⟨by rfl, ?hy10b⟩) hHeld ?rest10b
      case hy10b => intro W hS; (try dsimp only at hS); go_simp; try (with_reducible rfl)
      dsimp only [List.set]
      refine takeL 11 58 (v := ?_) rfl rfl (by kernel_rfl) (by kernel_rfl) (by kernel_rfl) (fun _ _ _ h => h) (Or.inl ⟨by rfl, ?hy11b⟩) hHeld ?rest11b
      case hy11b => intro W hS; (try dsimp only at hS); go_simp; try (with_reducible rfl)
      dsimp only [List.set]
      refine takeL 12 59 (v := ?_) rfl rfl (by kernel_rfl) (by kernel_rfl) (by kernel_rfl) (fun _ _ _ h => h) (Or.inl ⟨by rfl, ?hy12b⟩) hHeld ?rest12b
      case hy12b => intro W hS; (try dsimp only at hS); go_simp; try (with_reducible rfl)
      dsimp only [List.set]
      refine takeL 13 60 (v := ?_) rfl rfl (by kernel_rfl) (by kernel_rfl) (by kernel_rfl) (fun _ _ _ h => h) (Or.inl ⟨by rfl, ?hy13b⟩) hHeld ?rest13b
      case hy13b => intro W hS; (try dsimp only at hS); go_simp; try (with_reducible rfl)
      dsimp only [List.set]
      refine takeL 14 61 (v := ?_) rfl rfl (by kernel_rfl) (by kernel_rfl) (by kernel_rfl) (fun _ _ _ h => h) (Or.inl ⟨by rfl, ?hy14b⟩) hHeld ?rest14b
      case hy14b => intro W hS; (try dsimp only at hS); go_simp; try (with_reducible rfl)
      dsimp only [List.set]
      refine takeL 15 62 (v := ?_) rfl rfl (by kernel_rfl) (by kernel_rfl) (by kernel_rfl) (fun _ _ _ h => h) (Or.inl ⟨by rfl, ?hy15b⟩) hHeld ?rest15b
      case hy15b => intro W hS; (try dsimp only at hS); go_simp; try (with_reducible rfl)
      dsimp only [List.set]
      refine takeL 16 63 (v := ?_) rfl rfl (by kernel_rfl) (by kernel_rfl) (by kernel_rfl) (fun _ _ _ h => h) (Or.inl ⟨by rfl, ?hy16b⟩) hHeld ?rest16b
      case hy16b => intro W hS; (try dsimp only at hS); go_simp; try (with_reducible rfl)
      dsimp only [List.set]
      refine takeL 17 64 (v := ?_) rfl rfl (by kernel_rfl) (by kernel_rfl) (by kernel_rfl) (fun _ _ _ h => h) (Or.inl ⟨by rfl, ?hy17b⟩) hHeld ?rest17b
      case hy17b => intro W hS; (try dsimp only at hS); go_simp; try (with_reducible rfl)
      dsimp only [List.set]
      refine takeL 18 65 (v := ?_) rfl rfl (by kernel_rfl) (by kernel_rfl) (by kernel_rfl) (fun _ _ _ h => h) (Or.inl ⟨by rfl, ?hy18b⟩) hHeld ?rest18b
      case hy18b => intro W hS; (try dsimp only at hS); go_simp; try (with_reducible rfl)
      dsimp only [List.set]
      refine takeL 19 66 (v := ?_) rfl rfl (by kernel_rfl) (by kernel_rfl) (by kernel_rfl) (fun _ _ _ h => h) (Or.inl ⟨by rfl, ?hy19b⟩) hHeld ?rest19b
      case hy19b => intro W hS; (try dsimp only at hS); go_simp; try (with_reducible rfl)
      dsimp only [List.set]
      refine takeL 20 67 (v := ?_) rfl rfl (by kernel_rfl) (by kernel_rfl) (by kernel_rfl) (fun _ _ _ h => h) (Or.inl ⟨by rfl, ?hy20b⟩) hHeld ?rest20b
      case hy20b => intro W hS; (try dsimp only at hS); go_simp; try (with_reducible rfl)
      dsimp only [List.set]
      refine takeL 21 68 (v := ?_) rfl rfl (by kernel_rfl) (by kernel_rfl) (by kernel_rfl) (fun _ _ _ h => h) (Or.inl ⟨by rfl, ?hy21b⟩) hHeld ?rest21b
      case hy21b => intro W hS; (try dsimp only at hS); go_simp; try (with_reducible rfl)
      dsimp only [List.set]
      refine takeL 22 69 (v := ?_) rfl rfl (by kernel_rfl) (by kernel_rfl) (by kernel_rfl) (fun _ _ _ h => h) (Or.inl ⟨by rfl, ?hy22b⟩) hHeld ?rest22b
      case hy22b => intro W hS; (try dsimp only at hS); go_simp; try (with_reducible rfl)
      dsimp only [List.set]
      refine takeL 23 70 (v := ?_) rfl rfl (by kernel_rfl) (by kernel_rfl) (by kernel_rfl) (fun _ _ _ h => h) (Or.inl ⟨by rfl, ?hy23b⟩) hHeld ?rest23b
      case hy23b => intro W hS; (try dsimp only at hS); go_simp; try (with_reducible rfl)
      dsimp only [List.set]
      refine takeL 24 71 (v := ?_) rfl rfl (by kernel_rfl) (by kernel_rfl) (by kernel_rfl) (fun _ _ _ h => h) (Or.inl ⟨by rfl, ?hy24b⟩) hHeld ?rest24b
      case hy24b => intro W hS; (try dsimp only at hS); go_simp; try (with_reducible rfl)
      dsimp only [List.set]
      refine takeL 25 72 (v := ?_) rfl rfl (by kernel_rfl) (by kernel_rfl) (by kernel_rfl) (fun _ _ _ h => h) (Or.inl ⟨by rfl, ?hy25b⟩) hHeld ?rest25b
      case hy25b => intro W hS; (try dsimp only at hS); go_simp; try (with_reducible rfl)
      dsimp only [List.set]
      refine takeL 26 73 (v := ?_) rfl rfl (by kernel_rfl) (by kernel_rfl) (by kernel_rfl) (fun _ _ _ h => h) (Or.inl ⟨by rfl, ?hy26b⟩) hHeld ?rest26b
      case hy26b => intro W hS; (try dsimp only at hS); go_simp; try (with_reducible rfl)
      dsimp only [List.set]
      refine takeL 27 74 (v := ?_) rfl rfl (by kernel_rfl) (by kernel_rfl) (by kernel_rfl) (fun _ _ _ h => h) (Or.inl ⟨by rfl, ?hy27b⟩) hHeld ?rest27b
      case hy27b => intro W hS; (try dsimp only at hS); go_simp; try (with_reducible rfl)
      dsimp only [List.set]
      refine takeL 28 75 (v := ?_) rfl rfl (by kernel_rfl) (by kernel_rfl) (by kernel_rfl) (fun _ _ _ h => h) (Or.inl ⟨by rfl, ?hy28b⟩) hHeld ?rest28b
      case hy28b => intro W hS; (try dsimp only at hS); go_simp; try (with_reducible rfl)
      dsimp only [List.set]
      refine takeL 29 76 (v := ?_) rfl rfl (by kernel_rfl) (by kernel_rfl) (by kernel_rfl) (fun _ _ _ h => h) (Or.inl ⟨by rfl, ?hy29b⟩) hHeld ?rest29b
      case hy29b => intro W hS; (try dsimp only at hS); go_simp; try (with_reducible rfl)
      dsimp only [List.set]
      refine takeL 30 77 (v := ?_) rfl rfl (by kernel_rfl) (by kernel_rfl) (by kernel_rfl) (fun _ _ _ h => h) (Or.inl ⟨by rfl, ?hy30b⟩) hHeld ?rest30b
      case hy30b => intro W hS; (try dsimp only at hS); go_simp; try (with_reducible rfl)
      dsimp only [List.set]
      refine takeL 31 78 (v := ?_) rfl rfl (by kernel_rfl) (by kernel_rfl) (by kernel_rfl) (fun _ _ _ h => h) (Or.inl ⟨by rfl, ?hy31b⟩) hHeld ?rest31b
      case hy31b => intro W hS; (try dsimp only at hS); go_simp; try (with_reducible rfl)
      dsimp only [List.set]
      refine takeL 32 79 (v := ?_) rfl rfl (by kernel_rfl) (by kernel_rfl) (by kernel_rfl) (fun _ _ _ h => h) (Or.inl ⟨by rfl, ?hy32b⟩) hHeld ?rest32b
      case hy32b => intro W hS; (try dsimp only at hS); go_simp; try (with_reducible rfl)
      dsimp only [List.set]
      refine takeL 33 80 (v := ?_) rfl rfl (by kernel_rfl) (by kernel_rfl) (by kernel_rfl) (fun _ _ _ h => h) (Or.inl ⟨by rfl, ?hy33b⟩) hHeld ?rest33b
      case hy33b => intro W hS; (try dsimp only at hS); go_simp; try (with_reducible rfl)
      dsimp only [List.set]
      refine takeL 34 81 (v := ?_) rfl rfl (by kernel_rfl) (by kernel_rfl) (by kernel_rfl) (fun _ _ _ h => h) (Or.inl ⟨by rfl, ?hy34b⟩) hHeld ?rest34b
      case hy34b => intro W hS; (try dsimp only at hS); go_simp; try (with_reducible rfl)
      dsimp only [List.set]
      refine wpAnyH_ready (rs := [35]) (by kernel_rfl) (by simp) ?_
      refine AllReadyH.cons rfl (fun K hK => ?_) AllReadyH.nil
      go_simp
      go_wp2_with (go_at_call 7; (with_reducible refine (P3.out _).mono ?_); rintro e w3 ⟨A3, c3, rfl, hs3, hb3⟩; have HB3 := Lib.hid (show Below w.heap.size w w3 from by first | exact below_then HB2.out HB2.out.size hb3 | exact below_drew1 HB2.out HB2.out.size hb3); have hcv3 : (convert 22 9 (.slice A3 2 c3)).run Try.prog w3 = .ok (.string (strB [0, 128])) w3 := hs3.conv; have HS3 := Lib.hid hs3; clear hs3 hb3)
      refine hK.out _ _ ?_ (fun hHeld => ?_)
      · exact (hx.out _ HB3.out)
      clear hK K
      refine wpAnyH_ready (rs := [36]) (by kernel_rfl) (by simp) ?_
      refine AllReadyH.cons rfl (fun K hK => ?_) AllReadyH.nil
      go_simp
      refine hK.out _ _ ?_ (fun hHeld => ?_)
      · exact (hx.out _ HB3.out)
      clear hK K
      refine takeL 37 84 (v := ?_) rfl rfl (by kernel_rfl) (by kernel_rfl) (by kernel_rfl) (fun _ _ _ h => h) (Or.inl ⟨by rfl, ?hy37b⟩) hHeld ?rest37b
      case hy37b => intro W hS; (try dsimp only at hS); go_simp; try (with_reducible rfl)
      dsimp only [List.set]
      refine takeL 38 85 (v := ?_) rfl rfl (by kernel_rfl) (by kernel_rfl) (by kernel_rfl) (fun _ _ _ h => h) (Or.inl ⟨by rfl, ?hy38b⟩) hHeld ?rest38b
      case hy38b => intro W hS; (try dsimp only at hS); go_simp; try (with_reducible rfl)
      dsimp only [List.set]
      refine takeL 39 86 (v := ?_) rfl rfl (by kernel_rfl) (by kernel_rfl) (by kernel_rfl) (fun _ _ _ h => h) (Or.inl ⟨by rfl, ?hy39b⟩) hHeld ?rest39b
      case hy39b => intro W hS; (try dsimp only at hS); go_simp; try (with_reducible rfl)
      dsimp only [List.set]
      refine wpAnyH_ready (rs := [40]) (by kernel_rfl) (by simp) ?_
      refine AllReadyH.cons rfl (fun K hK => ?_) AllReadyH.nil
      go_simp
      go_wp2_with (go_at_call 9; (with_reducible refine (P4.out _).mono ?_); rintro e w4 ⟨A4, c4, rfl, hs4, hb4⟩; have HB4 := Lib.hid (show Below w.heap.size w w4 from by first | exact below_then HB3.out HB3.out.size hb4 | exact below_drew1 HB3.out HB3.out.size hb4); have hcv4 : (convert 22 9 (.slice A4 1 c4)).run Try.prog w4 = .ok (.string (strB [255])) w4 := hs4.conv; have HS4 := Lib.hid hs4; clear hs4 hb4)
      refine hK.out _ _ ?_ (fun hHeld => ?_)
      · exact (hx.out _ HB4.out)
      clear hK K
      refine wpAnyH_ready (rs := [41]) (by kernel_rfl) (by simp) ?_
      refine AllReadyH.cons rfl (fun K hK => ?_) AllReadyH.nil
      go_simp
      refine hK.out _ _ ?_ (fun hHeld => ?_)
      · exact (hx.out _ HB4.out)
      clear hK K
      refine takeL 42 89 (v := ?_) rfl rfl (by kernel_rfl) (by kernel_rfl) (by kernel_rfl) (fun _ _ _ h => h) (Or.inl ⟨by rfl, ?hy42b⟩) hHeld ?rest42b
      case hy42b => intro W hS; (try dsimp only at hS); go_simp; try (with_reducible rfl)
      dsimp only [List.set]
      refine takeL 43 90 (v := ?_) rfl rfl (by kernel_rfl) (by kernel_rfl) (by kernel_rfl) (fun _ _ _ h => h) (Or.inl ⟨by rfl, ?hy43b⟩) hHeld ?rest43b
      case hy43b => intro W hS; (try dsimp only at hS); go_simp; try (with_reducible rfl)
      dsimp only [List.set]
      refine takeL 44 91 (v := ?_) rfl rfl (by kernel_rfl) (by kernel_rfl) (by kernel_rfl) (fun _ _ _ h => h) (Or.inl ⟨by rfl, ?hy44b⟩) hHeld ?rest44b
      case hy44b => intro W hS; (try dsimp only at hS); go_simp; try (with_reducible rfl)
      dsimp only [List.set]
      refine wpAnyH_ready (rs := [45]) (by kernel_rfl) (by simp) ?_
      refine AllReadyH.cons rfl (fun K hK => ?_) AllReadyH.nil
      go_simp
      go_wp2_with (go_at_call 9; (with_reducible refine (P5.out _).mono ?_); rintro e w5 ⟨A5, c5, rfl, hs5, hb5⟩; have HB5 := Lib.hid (show Below w.heap.size w w5 from by first | exact below_then HB4.out HB4.out.size hb5 | exact below_drew1 HB4.out HB4.out.size hb5); have hcv5 : (convert 22 9 (.slice A5 1 c5)).run Try.prog w5 = .ok (.string (strB [0])) w5 := hs5.conv; have HS5 := Lib.hid hs5; clear hs5 hb5)
      refine hK.out _ _ ?_ (fun hHeld => ?_)
      · exact (hx.out _ HB5.out)
      clear hK K
      refine wpAnyH_ready (rs := [46]) (by kernel_rfl) (by simp) ?_
      refine AllReadyH.cons rfl (fun K hK => ?_) AllReadyH.nil
      go_simp
      refine hK.out _ _ ?_ (fun hHeld => ?_)
      · exact (hx.out _ HB5.out)
      clear hK K
      refine takeL 47 94 (v := ?_) rfl rfl (by kernel_rfl) (by kernel_rfl) (by kernel_rfl) (fun _ _ _ h => h) (Or.inl ⟨by rfl, ?hy47b⟩) hHeld ?rest47b
      case hy47b => intro W hS; (try dsimp only at hS); go_simp; try (with_reducible rfl)
      dsimp only [List.set]
      refine takeL 48 95 (v := ?_) rfl rfl (by kernel_rfl) (by kernel_rfl) (by kernel_rfl) (fun _ _ _ h => h) (Or.inl ⟨by rfl, ?hy48b⟩) hHeld ?rest48b
      case hy48b => intro W hS; (try dsimp only at hS); go_simp; try (with_reducible rfl)
      dsimp only [List.set]
      refine takeL 49 4 (v := ?_) rfl rfl (by kernel_rfl) (by kernel_rfl) (by kernel_rfl) (fun _ _ _ h => h) (Or.inl ⟨by rfl, ?hy49b⟩) hHeld ?rest49b
      case hy49b => intro W hS; (try dsimp only at hS); go_simp; try (with_reducible rfl)
      dsimp only [List.set]
      refine wpAnyH_done (by kernel_rfl) ?_ _
      go_wp2_with fail
      go_ret
      exact ⟨rfl, HB5.out⟩
    · go_simp
      refine hK.out _ _ ?_ (fun hHeld => ?_)
      · exact (hx.out _ HB2.out)
      clear hK K
      refine wpAnyH_ready (rs := [2]) (by kernel_rfl) (by simp) ?_
      refine AllReadyH.cons rfl (fun K hK => ?_) AllReadyH.nil
      go_simp
      refine hK.out _ _ ?_ (fun hHeld => ?_)
      · exact (hx.out _ HB2.out)
      clear hK K
      refine takeL 6 53 (v := ?_) rfl rfl (by kernel_rfl) (by kernel_rfl) (by kernel_rfl) (fun _ _ _ h => h) (Or.inl ⟨by rfl, ?hy6c⟩) hHeld ?rest6c
      case hy6c => intro W hS; (try dsimp only at hS); go_simp; try (with_reducible rfl)
      dsimp only [List.set]
      refine takeL 7 54 (v := ?_) rfl rfl (by kernel_rfl) (by kernel_rfl) (by kernel_rfl) (fun _ _ _ h => h) (Or.inl ⟨by rfl, ?hy7c⟩) hHeld ?rest7c
      case hy7c => intro W hS; (try dsimp only at hS); go_simp; try (with_reducible rfl)
      dsimp only [List.set]
      refine takeL 8 55 (v := ?_) rfl rfl (by kernel_rfl) (by kernel_rfl) (by kernel_rfl) (fun _ _ _ h => h) (Or.inl ⟨by rfl, ?hy8c⟩) hHeld ?rest8c
      case hy8c => intro W hS; (try dsimp only at hS); go_simp; try (with_reducible rfl)
      dsimp only [List.set]
      refine takeL 9 56 (v := ?_) rfl rfl (by kernel_rfl) (by kernel_rfl) (by kernel_rfl) (fun _ _ _ h => h) (Or.inl ⟨by rfl, ?hy9c⟩) hHeld ?rest9c
      case hy9c => intro W hS; (try dsimp only at hS); go_simp; try (with_reducible rfl)
      dsimp only [List.set]
      refine takeL 10 57 (v := ?_) rfl rfl (by kernel_rfl) (by kernel_rfl) (by kernel_rfl) (fun _ _ _ h => h) (Or.inl ⟨by rfl, ?hy10c⟩) hHeld ?rest10c
      case hy10c => intro W hS; (try dsimp only at hS); go_simp; try (with_reducible rfl)
      dsimp only [List.set]
      refine takeL 11 58 (v := ?_) rfl rfl (by kernel_rfl) (by kernel_rfl) (by kernel_rfl) (fun _ _ _ h => h) (Or.inl ⟨by rfl, ?hy11c⟩) hHeld ?rest11c
      case hy11c => intro W hS; (try dsimp only at hS); go_simp; try (with_reducible rfl)
      dsimp only [List.set]
      refine takeL 12 59 (v := ?_) rfl rfl (by kernel_rfl) (by kernel_rfl) (by kernel_rfl) (fun _ _ _ h => h) (Or.inl ⟨by rfl, ?hy12c⟩) hHeld ?rest12c
      case hy12c => intro W hS; (try dsimp only at hS); go_simp; try (with_reducible rfl)
      dsimp only [List.set]
      refine takeL 13 60 (v := ?_) rfl rfl (by kernel_rfl) (by kernel_rfl) (by kernel_rfl) (fun _ _ _ h => h) (Or.inl ⟨by rfl, ?hy13c⟩) hHeld ?rest13c
      case hy13c => intro W hS; (try dsimp only at hS); go_simp; try (with_reducible rfl)
      dsimp only [List.set]
      refine takeL 14 61 (v := ?_) rfl rfl (by kernel_rfl) (by kernel_rfl) (by kernel_rfl) (fun _ _ _ h => h) (Or.inl ⟨by rfl, ?hy14c⟩) hHeld ?rest14c
      case hy14c => intro W hS; (try dsimp only at hS); go_simp; try (with_reducible rfl)
      dsimp only [List.set]
      refine takeL 15 62 (v := ?_) rfl rfl (by kernel_rfl) (by kernel_rfl) (by kernel_rfl) (fun _ _ _ h => h) (Or.inl ⟨by rfl, ?hy15c⟩) hHeld ?rest15c
      case hy15c => intro W hS; (try dsimp only at hS); go_simp; try (with_reducible rfl)
      dsimp only [List.set]
      refine takeL 16 63 (v := ?_) rfl rfl (by kernel_rfl) (by kernel_rfl) (by kernel_rfl) (fun _ _ _ h => h) (Or.inl ⟨by rfl, ?hy16c⟩) hHeld ?rest16c
      case hy16c => intro W hS; (try dsimp only at hS); go_simp; try (with_reducible rfl)
      dsimp only [List.set]
      refine takeL 17 64 (v := ?_) rfl rfl (by kernel_rfl) (by kernel_rfl) (by kernel_rfl) (fun _ _ _ h => h) (Or.inl ⟨by rfl, ?hy17c⟩) hHeld ?rest17c
      case hy17c => intro W hS; (try dsimp only at hS); go_simp; try (with_reducible rfl)
      dsimp only [List.set]
      refine takeL 18 65 (v := ?_) rfl rfl (by kernel_rfl) (by kernel_rfl) (by kernel_rfl) (fun _ _ _ h => h) (Or.inl ⟨by rfl, ?hy18c⟩) hHeld ?rest18c
      case hy18c => intro W hS; (try dsimp only at hS); go_simp; try (with_reducible rfl)
      dsimp only [List.set]
      refine takeL 19 66 (v := ?_) rfl rfl (by kernel_rfl) (by kernel_rfl) (by kernel_rfl) (fun _ _ _ h => h) (Or.inl ⟨by rfl, ?hy19c⟩) hHeld ?rest19c
      case hy19c => intro W hS; (try dsimp only at hS); go_simp; try (with_reducible rfl)
      dsimp only [List.set]
      refine takeL 20 67 (v := ?_) rfl rfl (by kernel_rfl) (by kernel_rfl) (by kernel_rfl) (fun _ _ _ h => h) (Or.inl ⟨by rfl, ?hy20c⟩) hHeld ?rest20c
      case hy20c => intro W hS; (try dsimp only at hS); go_simp; try (with_reducible rfl)
      dsimp only [List.set]
      refine takeL 21 68 (v := ?_) rfl rfl (by kernel_rfl) (by kernel_rfl) (by kernel_rfl) (fun _ _ _ h => h) (Or.inl ⟨by rfl, ?hy21c⟩) hHeld ?rest21c
      case hy21c => intro W hS; (try dsimp only at hS); go_simp; try (with_reducible rfl)
      dsimp only [List.set]
      refine takeL 22 69 (v := ?_) rfl rfl (by kernel_rfl) (by kernel_rfl) (by kernel_rfl) (fun _ _ _ h => h) (Or.inl ⟨by rfl, ?hy22c⟩) hHeld ?rest22c
      case hy22c => intro W hS; (try dsimp only at hS); go_simp; try (with_reducible rfl)
      dsimp only [List.set]
      refine takeL 23 70 (v := ?_) rfl rfl (by kernel_rfl) (by kernel_rfl) (by kernel_rfl) (fun _ _ _ h => h) (Or.inl ⟨by rfl, ?hy23c⟩) hHeld ?rest23c
      case hy23c => intro W hS; (try dsimp only at hS); go_simp; try (with_reducible rfl)
      dsimp only [List.set]
      refine takeL 24 71 (v := ?_) rfl rfl (by kernel_rfl) (by kernel_rfl) (by kernel_rfl) (fun _ _ _ h => h) (Or.inl ⟨by rfl, ?hy24c⟩) hHeld ?rest24c
      case hy24c => intro W hS; (try dsimp only at hS); go_simp; try (with_reducible rfl)
      dsimp only [List.set]
      refine takeL 25 72 (v := ?_) rfl rfl (by kernel_rfl) (by kernel_rfl) (by kernel_rfl) (fun _ _ _ h => h) (Or.inl ⟨by rfl, ?hy25c⟩) hHeld ?rest25c
      case hy25c => intro W hS; (try dsimp only at hS); go_simp; try (with_reducible rfl)
      dsimp only [List.set]
      refine takeL 26 73 (v := ?_) rfl rfl (by kernel_rfl) (by kernel_rfl) (by kernel_rfl) (fun _ _ _ h => h) (Or.inl ⟨by rfl, ?hy26c⟩) hHeld ?rest26c
      case hy26c => intro W hS; (try dsimp only at hS); go_simp; try (with_reducible rfl)
      dsimp only [List.set]
      refine takeL 27 74 (v := ?_) rfl rfl (by kernel_rfl) (by kernel_rfl) (by kernel_rfl) (fun _ _ _ h => h) (Or.inl ⟨by rfl, ?hy27c⟩) hHeld ?rest27c
      case hy27c => intro W hS; (try dsimp only at hS); go_simp; try (with_reducible rfl)
      dsimp only [List.set]
      refine takeL 28 75 (v := ?_) rfl rfl (by kernel_rfl) (by kernel_rfl) (by kernel_rfl) (fun _ _ _ h => h) (Or.inl ⟨by rfl, ?hy28c⟩) hHeld ?rest28c
      case hy28c => intro W hS; (try dsimp only at hS); go_simp; try (with_reducible rfl)
      dsimp only [List.set]
      refine takeL 29 76 (v := ?_) rfl rfl (by kernel_rfl) (by kernel_rfl) (by kernel_rfl) (fun _ _ _ h => h) (Or.inl ⟨by rfl, ?hy29c⟩) hHeld ?rest29c
      case hy29c => intro W hS; (try dsimp only at hS); go_simp; try (with_reducible rfl)
      dsimp only [List.set]
      refine takeL 30 77 (v := ?_) rfl rfl (by kernel_rfl) (by kernel_rfl) (by kernel_rfl) (fun _ _ _ h => h) (Or.inl ⟨by rfl, ?hy30c⟩) hHeld ?rest30c
      case hy30c => intro W hS; (try dsimp only at hS); go_simp; try (with_reducible rfl)
      dsimp only [List.set]
      refine takeL 31 78 (v := ?_) rfl rfl (by kernel_rfl) (by kernel_rfl) (by kernel_rfl) (fun _ _ _ h => h) (Or.inl ⟨by rfl, ?hy31c⟩) hHeld ?rest31c
      case hy31c => intro W hS; (try dsimp only at hS); go_simp; try (with_reducible rfl)
      dsimp only [List.set]
      refine takeL 32 79 (v := ?_) rfl rfl (by kernel_rfl) (by kernel_rfl) (by kernel_rfl) (fun _ _ _ h => h) (Or.inl ⟨by rfl, ?hy32c⟩) hHeld ?rest32c
      case hy32c => intro W hS; (try dsimp only at hS); go_simp; try (with_reducible rfl)
      dsimp only [List.set]
      refine takeL 33 80 (v := ?_) rfl rfl (by kernel_rfl) (by kernel_rfl) (by kernel_rfl) (fun _ _ _ h => h) (Or.inl ⟨by rfl, ?hy33c⟩) hHeld ?rest33c
      case hy33c => intro W hS; (try dsimp only at hS); go_simp; try (with_reducible rfl)
      dsimp only [List.set]
      refine takeL 34 81 (v := ?_) rfl rfl (by kernel_rfl) (by kernel_rfl) (by kernel_rfl) (fun _ _ _ h => h) (Or.inl ⟨by rfl, ?hy34c⟩) hHeld ?rest34c
      case hy34c => intro W hS; (try dsimp only at hS); go_simp; try (with_reducible rfl)
      dsimp only [List.set]
      refine wpAnyH_ready (rs := [35]) (by kernel_rfl) (by simp) ?_
      refine AllReadyH.cons rfl (fun K hK => ?_) AllReadyH.nil
      go_simp
      go_wp2_with (go_at_call 7; (with_reducible refine (P3.out _).mono ?_); rintro e w3 ⟨A3, c3, rfl, hs3, hb3⟩; have HB3 := Lib.hid (show Below w.heap.size w w3 from by first | exact below_then HB2.out HB2.out.size hb3 | exact below_drew1 HB2.out HB2.out.size hb3); have hcv3 : (convert 22 9 (.slice A3 2 c3)).run Try.prog w3 = .ok (.string (strB [0, 128])) w3 := hs3.conv; have HS3 := Lib.hid hs3; clear hs3 hb3)
      refine hK.out _ _ ?_ (fun hHeld => ?_)
      · exact (hx.out _ HB3.out)
      clear hK K
      refine wpAnyH_ready (rs := [36]) (by kernel_rfl) (by simp) ?_
      refine AllReadyH.cons rfl (fun K hK => ?_) AllReadyH.nil
      go_simp
      refine hK.out _ _ ?_ (fun hHeld => ?_)
      · exact (hx.out _ HB3.out)
      clear hK K
      refine takeL 37 84 (v := ?_) rfl rfl (by kernel_rfl) (by kernel_rfl) (by kernel_rfl) (fun _ _ _ h => h) (Or.inl ⟨by rfl, ?hy37c⟩) hHeld ?rest37c
      case hy37c => intro W hS; (try dsimp only at hS); go_simp; try (with_reducible rfl)
      dsimp only [List.set]
      refine takeL 38 85 (v := ?_) rfl rfl (by kernel_rfl) (by kernel_rfl) (by kernel_rfl) (fun _ _ _ h => h) (Or.inl ⟨by rfl, ?hy38c⟩) hHeld ?rest38c
      case hy38c => intro W hS; (try dsimp only at hS); go_simp; try (with_reducible rfl)
      dsimp only [List.set]
      refine takeL 39 86 (v := ?_) rfl rfl (by kernel_rfl) (by kernel_rfl) (by kernel_rfl) (fun _ _ _ h => h) (Or.inl ⟨by rfl, ?hy39c⟩) hHeld ?rest39c
      case hy39c => intro W hS; (try dsimp only at hS); go_simp; try (with_reducible rfl)
      dsimp only [List.set]
      refine wpAnyH_ready (rs := [40]) (by kernel_rfl) (by simp) ?_
      refine AllReadyH.cons rfl (fun K hK => ?_) AllReadyH.nil
      go_simp
      go_wp2_with (go_at_call 9; (with_reducible refine (P4.out _).mono ?_); rintro e w4 ⟨A4, c4, rfl, hs4, hb4⟩; have HB4 := Lib.hid (show Below w.heap.size w w4 from by first | exact below_then HB3.out HB3.out.size hb4 | exact below_drew1 HB3.out HB3.out.size hb4); have hcv4 : (convert 22 9 (.slice A4 1 c4)).run Try.prog w4 = .ok (.string (strB [255])) w4 := hs4.conv; have HS4 := Lib.hid hs4; clear hs4 hb4)
      refine hK.out _ _ ?_ (fun hHeld => ?_)
      · exact (hx.out _ HB4.out)
      clear hK K
      refine wpAnyH_ready (rs := [41]) (by kernel_rfl) (by simp) ?_
      refine AllReadyH.cons rfl (fun K hK => ?_) AllReadyH.nil
      go_simp
      refine hK.out _ _ ?_ (fun hHeld => ?_)
      · exact (hx.out _ HB4.out)
      clear hK K
      refine takeL 42 89 (v := ?_) rfl rfl (by kernel_rfl) (by kernel_rfl) (by kernel_rfl) (fun _ _ _ h => h) (Or.inl ⟨by rfl, ?hy42c⟩) hHeld ?rest42c
      case hy42c => intro W hS; (try dsimp only at hS); go_simp; try (with_reducible rfl)
      dsimp only [List.set]
      refine takeL 43 90 (v := ?_) rfl rfl (by kernel_rfl) (by kernel_rfl) (by kernel_rfl) (fun _ _ _ h => h) (Or.inl ⟨by rfl, ?hy43c⟩) hHeld ?rest43c
      case hy43c => intro W hS; (try dsimp only at hS); go_simp; try (with_reducible rfl)
      dsimp only [List.set]
      refine takeL 44 91 (v := ?_) rfl rfl (by kernel_rfl) (by kernel_rfl) (by kernel_rfl) (fun _ _ _ h => h) (Or.inl ⟨by rfl, ?hy44c⟩) hHeld ?rest44c
      case hy44c => intro W hS; (try dsimp only at hS); go_simp; try (with_reducible rfl)
      dsimp only [List.set]
      refine wpAnyH_ready (rs := [45]) (by kernel_rfl) (by simp) ?_
      refine AllReadyH.cons rfl (fun K hK => ?_) AllReadyH.nil
      go_simp
      go_wp2_with (go_at_call 9; (with_reducible refine (P5.out _).mono ?_); rintro e w5 ⟨A5, c5, rfl, hs5, hb5⟩; have HB5 := Lib.hid (show Below w.heap.size w w5 from by first | exact below_then HB4.out HB4.out.size hb5 | exact below_drew1 HB4.out HB4.out.size hb5); have hcv5 : (convert 22 9 (.slice A5 1 c5)).run Try.prog w5 = .ok (.string (strB [0])) w5 := hs5.conv; have HS5 := Lib.hid hs5; clear hs5 hb5)
      refine hK.out _ _ ?_ (fun hHeld => ?_)
      · exact (hx.out _ HB5.out)
      clear hK K
      refine wpAnyH_ready (rs := [46]) (by kernel_rfl) (by simp) ?_
      refine AllReadyH.cons rfl (fun K hK => ?_) AllReadyH.nil
      go_simp
      refine hK.out _ _ ?_ (fun hHeld => ?_)
      · exact (hx.out _ HB5.out)
      clear hK K
      refine takeL 47 94 (v := ?_) rfl rfl (by kernel_rfl) (by kernel_rfl) (by kernel_rfl) (fun _ _ _ h => h) (Or.inl ⟨by rfl, ?hy47c⟩) hHeld ?rest47c
      case hy47c => intro W hS; (try dsimp only at hS); go_simp; try (with_reducible rfl)
      dsimp only [List.set]
      refine takeL 48 95 (v := ?_) rfl rfl (by kernel_rfl) (by kernel_rfl) (by kernel_rfl) (fun _ _ _ h => h) (Or.inl ⟨by rfl, ?hy48c⟩) hHeld ?rest48c
      case hy48c => intro W hS; (try dsimp only at hS); go_simp; try (with_reducible rfl)
      dsimp only [List.set]
      refine takeL 49 4 (v := ?_) rfl rfl (by kernel_rfl) (by kernel_rfl) (by kernel_rfl) (fun _ _ _ h => h) (Or.inl ⟨by rfl, ?hy49c⟩) hHeld ?rest49c
      case hy49c => intro W hS; (try dsimp only at hS); go_simp; try (with_reducible rfl)
      dsimp only [List.set]
      refine wpAnyH_done (by kernel_rfl) ?_ _
      go_wp2_with fail
      go_ret
      exact ⟨rfl, HB5.out⟩


theorem put_len {n : Int} {w : World} {L : List Nat} {m : Nat} (hL : L.length = m) (h : Calls Try.prog 7 #[.int .i64 n] w fun e w' => ∃ A' c', e = .returned (.slice A' L.length c') ∧ Src w' w'.heap.size A' c' L ∧ Below w.heap.size w w') :
    Calls Try.prog 7 #[.int .i64 n] w fun e w' => ∃ A' c', e = .returned (.slice A' m c') ∧ Src w' w'.heap.size A' c' L ∧ Below w.heap.size w w' := by
  rw [← hL]
  exact h
/-- WholeBytes, whatever the number and the bytes. -/
theorem bytes_walk (n : Int) (A : Option Addr) (cp : Nat) (l : List Nat) (w : World) (h1 : -9223372036854775808 ≤ n) (h2 : n ≤ 9223372036854775807) (hs : Src w w.heap.size A cp l) (hby : ∀ x ∈ l, x < 256) (hcp : cp ≤ 9223372036854775807) :
    Calls Try.prog 3 #[.int .i64 n, .slice A l.length cp] w fun e w' => e = .returned (.bool true) ∧ Below w.heap.size w w' := by
  have P1 := Lib.hid fun w => w_put n w h1 h2
  have P2 := Lib.hid fun w => refPut_any n w h1 h2
  have P3 : Hid (∀ w, Calls Try.prog 7 #[.int .i64 128] w fun e w' => ∃ A' c', e = .returned (.slice A' 2 c') ∧ Src w' w'.heap.size A' c' [0, 128] ∧ Below w.heap.size w w') := by
    refine Lib.hid fun w => ?_
    have h := w_put 128 w (by decide) (by decide)
    rw [show putW 128 = [0, 128] from by decide] at h
    exact put_len rfl h
  have P4 : Hid (∀ w, Calls Try.prog 9 #[.bool true] w fun e w' => ∃ A' c', e = .returned (.slice A' 1 c') ∧ Src w' w'.heap.size A' c' [255] ∧ Below w.heap.size w w') := Lib.hid fun w => w_putBool true w
  have P5 : Hid (∀ w, Calls Try.prog 9 #[.bool false] w fun e w' => ∃ A' c', e = .returned (.slice A' 1 c') ∧ Src w' w'.heap.size A' c' [0] ∧ Below w.heap.size w w') := Lib.hid fun w => w_putBool false w
  by_cases hL : l.length ≤ 100
  · have R1 : Hid (∀ w1, Below w.heap.size w w1 → Calls Try.prog 4 #[.slice A l.length cp] w1 fun e w' => e = .returned (.tuple #[.int .i64 (rdW l).1, .int .i64 ((rdW l).2 : Int)]) ∧ Below w1.heap.size w1 w') :=
      Lib.hid fun w1 hb => w_read A cp l w1 _ (hs.below hb) (by omega) hby
    have R2 : Hid (∀ w1, Below w.heap.size w w1 → Calls Try.prog 5 #[.slice A l.length cp] w1 fun e w' => e = .returned (.tuple #[.int .i64 (rdW l).1, .int .i64 ((rdW l).2 : Int)]) ∧ w1 = w') :=
      Lib.hid fun w1 hb => refRead_any A cp l w1 _ (hs.below hb) (by omega) hby
    by_cases h1 : l.length = 1
    · obtain ⟨b, off, rfl, hlt, hc⟩ := hs.plain (by omega)
      have hc0 := hc 0 (by omega)
      obtain ⟨x, hx⟩ : ∃ x, x = l[0]'(by omega) := ⟨_, rfl⟩
      rw [← hx] at hc0
      have HX : ∀ w1, Below w.heap.size w w1 → w1.cell? ⟨b, off, none⟩ = some (.int .u8 (x : Int)) := fun w1 hb => (hb.cell (p := ⟨b, off, none⟩) hlt).trans hc0
      rw [h1] at R1 R2 ⊢
      by_cases x0 : x = 0
      · subst x0
        exact bytes_no n b off cp w (Lib.hid HX) _ _ _ _ _ (num_true _) (num_true _) R1 R2 (Lib.hid fun w1 hb => w_readBool_no b off cp w1 (HX w1 hb)) P1 P2 P3 P4 P5
      · by_cases x1 : x = 255
        · subst x1
          exact bytes_yes n b off cp w (Lib.hid HX) _ _ _ _ _ (num_true _) (num_true _) R1 R2 (Lib.hid fun w1 hb => w_readBool_yes b off cp w1 (HX w1 hb)) P1 P2 P3 P4 P5
        · exact bytes_other n b off cp x (beq_eq_false_iff_ne.2 (by omega)) (beq_eq_false_iff_ne.2 (by omega)) w (Lib.hid HX) _ _ _ _ _ (num_true _) (num_true _) R1 R2 (Lib.hid fun w1 hb => w_readBool_one b off cp x w1 (HX w1 hb) x0 x1) P1 P2 P3 P4 P5
    · exact bytes_len n A cp l.length hL (beq_eq_false_iff_ne.2 (by omega)) w _ _ _ _ _ (num_true _) (num_true _) R1 R2 (Lib.hid fun w1 _ => w_readBool_len A cp l.length w1 h1) P1 P2 P3 P4 P5
  · obtain ⟨b, off, rfl, _, _⟩ := hs.plain (by omega)
    have hs2 := hs.take 100
    have hl2 : (l.take 100).length = 100 := by rw [List.length_take]; omega
    have R1 : Hid (∀ w1, Below w.heap.size w w1 → Calls Try.prog 4 #[.slice (some ⟨b, off, none⟩) 100 cp] w1 fun e w' => e = .returned (.tuple #[.int .i64 (rdW (l.take 100)).1, .int .i64 ((rdW (l.take 100)).2 : Int)]) ∧ Below w1.heap.size w1 w') :=
      Lib.hid fun w1 hb => by
        have := w_read (some ⟨b, off, none⟩) cp (l.take 100) w1 _ (hs2.below hb) (by omega) (fun x hx => hby x (List.mem_of_mem_take hx))
        rw [hl2] at this
        exact this
    have R2 : Hid (∀ w1, Below w.heap.size w w1 → Calls Try.prog 5 #[.slice (some ⟨b, off, none⟩) 100 cp] w1 fun e w' => e = .returned (.tuple #[.int .i64 (rdW (l.take 100)).1, .int .i64 ((rdW (l.take 100)).2 : Int)]) ∧ w1 = w') :=
      Lib.hid fun w1 hb => by
        have := refRead_any (some ⟨b, off, none⟩) cp (l.take 100) w1 _ (hs2.below hb) (by omega) (fun x hx => hby x (List.mem_of_mem_take hx))
        rw [hl2] at this
        exact this
    exact bytes_cut n b off cp l.length (by omega) hs.le hcp w _ _ _ _ _ (num_true _) (num_true _) R1 R2 (Lib.hid fun w1 _ => w_readBool_len (some ⟨b, off, none⟩) cp 100 w1 (by decide)) P1 P2 P3 P4 P5
end Go.Proofs.Ythdiaghkpolonaa
