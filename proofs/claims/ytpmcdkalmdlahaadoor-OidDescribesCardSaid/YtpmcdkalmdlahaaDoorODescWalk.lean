/-
  OidDescribes: its walk, over what the program's functions answer.
-/
import Derived.Test.YtpmcdkalmdlahaaDoorOHyp
import Derived.Test.YtpmcdkalmdlahaaDoorSame7
import Derived.Test.YtpmcdkalmdlahaaDoorRefDesc
import Derived.BigGuardPart
import Derived.Deep.QuietTactic
import Derived.BigQuiet
namespace Go.Proofs.YtpmcdkalmdlahaaDoor
open Go.RowKit Go.Lib

theorem refDescO (s : ByteArray) (w : World) (hs : s.size ≤ 300) : Calls Tryd.prog 18 #[.string s] w fun e w' => ∃ A c, e = .returned (.tuple #[.string (baO (deO s.data.toList).1), .slice A (deO s.data.toList).2.1.length c, .bool (deO s.data.toList).2.2]) ∧ SrcO w' w'.heap.size A c (deO s.data.toList).2.1 ∧ Below w.heap.size w w' :=
  (refDesc_any s w hs).mono fun e w' ⟨h1, h2⟩ => by
    unfold DescS at h1
    rcases h : descO s.data.toList with _ | q
    · rw [h] at h1
      rw [deO_none h]
      exact ⟨none, 0, h1, SrcO.none_ _ _, h2⟩
    · rw [h] at h1
      rw [deO_some h]
      obtain ⟨A, c, h3, h4⟩ := h1
      exact ⟨A, c, h3, h4.src, h2⟩
theorem de_len (l : List UInt8) (h : l.length ≤ 300) : (deO l).2.1.length ≤ 300 := by
  rcases e : descO l with _ | q
  · rw [deO_none e]
    simp
  · rw [deO_some e]
    have h1 := dtx_len e
    have h2 := wt_ge q.2
    have h3 : (dtx q).length = q.1.length + wt q.2 := by
      unfold dtx jn wt
      rw [List.length_append]
    show q.2.length ≤ 300
    omega
theorem cn_desc : deO [67, 78, 59, 108, 97, 110, 103, 45, 68, 69] = ([99, 110], [[108, 97, 110, 103, 45, 100, 101]], true) := by decide +kernel
theorem wt_succ (L : List (List UInt8)) (k : Nat) (h : k < L.length) : wt (L.take (k + 1)) = wt (L.take k) + L[k].length + 1 := by
  rw [List.take_succ_eq_append_getElem h]
  unfold wt
  rw [List.flatMap_append, List.length_append]
  simp
  omega
set_option maxRecDepth 8000 in
set_option maxHeartbeats 4000000 in
theorem desc7_in (s : ByteArray) (A : Option Addr) (c N : Nat) (L : List (List UInt8)) (w0 : World) (H : Hid (OHyp w0)) (h : s.size ≤ 300) (hN : L.length = N) (hN30 : N ≤ 30) (hsrc : SrcO w0 w0.heap.size A c L) (hlen : ∀ l ∈ L, l.length ≤ 140737488355328) :
    Calls Tryd.prog 4 #[.string s, .slice A N c] w0 fun e w' => e = .returned (.bool true) ∧ Below w0.heap.size w0 w' := by
  have k0 : ¬ ((300 : Int) < (s.size : Int)) := by omega
  have k0' : decide ((300 : Int) < (s.size : Int)) = false := decide_eq_false k0
  have k1 : ¬ ((30 : Int) < (N : Int)) := by omega
  have k1' : decide ((30 : Int) < (N : Int)) = false := decide_eq_false k1
  have hsl : s.data.toList.length = s.size := by simp
  have HB0 := Lib.hid (Below.refl w0.heap.size w0)
  have C1 := fun w' hb => H.out.describe s w' (by omega) hb
  have C2 := fun w' => refDescO s w' h
  obtain ⟨p, hp⟩ : ∃ p, p = baO (deO s.data.toList).1 := ⟨_, rfl⟩
  obtain ⟨O, hO⟩ : ∃ O, O = (deO s.data.toList).2.1 := ⟨_, rfl⟩
  obtain ⟨b, hb⟩ : ∃ b, b = (deO s.data.toList).2.2 := ⟨_, rfl⟩
  have hOl : O.length ≤ 300 := by rw [hO]; exact de_len _ (by omega)
  rw [← hp, ← hO, ← hb] at C1 C2
  obtain ⟨M, hM⟩ : ∃ M, M = O.length := ⟨_, rfl⟩
  rw [← hM] at C1 C2
  have C3 : Hid (∀ w', Below w0.heap.size w0 w' → Calls Tryd.prog 17 #[.string ⟨#[67, 78, 59, 108, 97, 110, 103, 45, 68, 69]⟩] w' fun e w'' => ∃ A c, e = .returned (.tuple #[.string ⟨#[99, 110]⟩, .slice A 1 c, .bool true]) ∧ SrcO w'' w''.heap.size A c [[108, 97, 110, 103, 45, 100, 101]] ∧ Below w'.heap.size w' w'') := Lib.hid fun w' hb => by
    have := H.out.describe ⟨#[67, 78, 59, 108, 97, 110, 103, 45, 68, 69]⟩ w' (by decide) hb
    rw [show deO (⟨#[67, 78, 59, 108, 97, 110, 103, 45, 68, 69]⟩ : ByteArray).data.toList = ([99, 110], [[108, 97, 110, 103, 45, 100, 101]], true) from cn_desc] at this
    exact this
  have CS : Hid (∀ A c B d w', SrcO w' w'.heap.size A c O → SrcO w' w'.heap.size B d O → Calls Tryd.prog 19 #[.slice A M c, .slice B M d] w' fun e w'' => e = .returned (.bool true) ∧ Below w'.heap.size w' w'') := Lib.hid fun A c B d w' g1 g2 => same7_any A B c d M O w' hM.symm (by omega) g1 g2
  obtain ⟨t, ht⟩ : ∃ t, t = baO (s.data.toList ++ L.flatMap fun q => (59 : UInt8) :: q) := ⟨_, rfl⟩
  have CT : Hid (wt L ≤ 400 → ∀ w', SrcO w' w'.heap.size A c L → Below w0.heap.size w0 w' → Calls Tryd.prog 20 #[.string s, .slice A N c] w' fun e w'' => e = .returned (.string t) ∧ Below w'.heap.size w' w'') := Lib.hid fun hw w' hs hb => by
    rw [ht]
    exact H.out.text s A c N L w' hN (by omega) (by omega) hs hb
  have CR : Hid (wt L ≤ 400 → ∀ w', SrcO w' w'.heap.size A c L → Calls Tryd.prog 21 #[.string s, .slice A N c] w' fun e w'' => e = .returned (.string t) ∧ w'' = w') := Lib.hid fun hw w' hs => (refText7_any s A c N L w' hs hN (by omega) (by omega)).mono fun e w'' ⟨x, h1, h2, h3⟩ => ⟨by rw [h1, eq_baO h2, ht], h3⟩
  have e1 : (p.toList == p.toList) = true := by simp
  have e2 : (t.toList == t.toList) = true := by simp
  have e3 : (b == b) = true := by simp
  have hlen' := Lib.hid hlen
  have SL := Lib.hid hsrc
  have HN := Lib.hid hN
  clear hsrc hlen hN
  replace C1 := Lib.hid C1
  replace C2 := Lib.hid C2
  replace hp := Lib.hid hp
  replace hO := Lib.hid hO
  replace hb := Lib.hid hb
  replace hM := Lib.hid hM
  replace ht := Lib.hid ht
  replace hsl := Lib.hid hsl
  go_enter Tryd.func4, Tryd.ntmps4
  go_wp2_with fail
  go_loop [5, 6] (fun nv iv => ∃ k n : Nat, k ≤ N ∧ n ≤ 300 ∧ iv = .int .i64 (k : Int) ∧ nv = .int .i64 (n : Int) ∧ Hid (wt (L.take k) = n + k)) (fun _ iv => N - (intOf iv).toNat)
  case atStart => exact ⟨0, 0, Nat.zero_le _, by omega, rfl, rfl, Lib.hid rfl⟩
  case round =>
    obtain ⟨k, n, hk, hn, rfl, rfl, HW⟩ := hrel
    by_cases hlt : k < N
    · have hkl : k < L.length := by rw [HN.out]; exact hlt
      obtain ⟨x, hx⟩ : ∃ x, L[k] = x := ⟨_, rfl⟩
      have hxk : L[k]? = some x := by rw [List.getElem?_eq_getElem hkl, hx]
      obtain ⟨a, ha, hcell⟩ : ∃ a, A = some a ∧ w0.cell? (a.add k) = some (.string (baO x)) := by
        rcases A with _ | a
        · have e1 := SL.out.le
          have e2 := SL.out.nil rfl
          omega
        · exact ⟨a, rfl, (SL.out.at_ a rfl).2 k x hxk⟩
      subst ha
      have hxl : (baO x).size ≤ 140737488355328 := by
        rw [baO_size]
        exact hlen'.out x (by rw [← hx]; exact List.getElem_mem hkl)
      have hsu := wt_succ L k hkl
      rw [hx] at hsu
      have i1 : (k : Int) < (N : Int) := by omega
      have i0 : (0 : Int) ≤ (k : Int) := by omega
      have hbz : (baO x).size = x.length := baO_size x
      obtain ⟨z, hz⟩ : ∃ z, n + (baO x).size = z := ⟨_, rfl⟩
      have hzi : (n : Int) + ((baO x).size : Int) = (z : Int) := by omega
      replace hx := Lib.hid hx
      replace hxk := Lib.hid hxk
      by_cases hbig : 300 < z
      · have d1 : (300 : Int) < (z : Int) := by omega
        replace hz := Lib.hid hz
        replace hbz := Lib.hid hbz
        replace hsu := Lib.hid hsu
        go_wp2_with fail
        go_ret
        exact ⟨rfl, Below.refl _ _⟩
      · have d1 : ¬ ((300 : Int) < (z : Int)) := by omega
        have hw2 : wt (L.take (k + 1)) = z + (k + 1) := by
          have := HW.out
          omega
        replace hz := Lib.hid hz
        replace hbz := Lib.hid hbz
        replace hsu := Lib.hid hsu
        replace hw2 := Lib.hid hw2
        go_wp2_with fail
        go_round
        case rel => exact ⟨k + 1, z, by omega, by omega, by go_num, rfl, hw2⟩
        case measure => simp [intOf]; omega
    · have hkN : k = N := by omega
      have hwt : wt L ≤ 400 := by
        have := HW.out
        rw [List.take_of_length_le (by rw [HN.out]; omega)] at this
        omega
      have CT' := Lib.hid (CT.out hwt)
      have CR' := Lib.hid (CR.out hwt)
      have i1 : ¬ ((k : Int) < (N : Int)) := by omega
      replace hkN := Lib.hid hkN
      go_wp2_with fail
      refine (C1.out w0 HB0.out).mono ?_
      rintro _ w1 ⟨A1, c1, rfl, S1, hb1⟩
      have HB1 := Lib.hid (below_next HB0.out (Nat.le_refl _) hb1)
      replace SL := Lib.hid (SL.out.next hb1)
      replace S1 := Lib.hid S1
      clear hb1
      dsimp only []
      go_wp2_with fail
      refine (C2.out w1).mono ?_
      rintro _ w2 ⟨A2, c2, rfl, S2, hb2⟩
      have HB2 := Lib.hid (below_next HB1.out (Nat.le_refl _) hb2)
      replace SL := Lib.hid (SL.out.next hb2)
      replace S1 := Lib.hid (S1.out.next hb2)
      replace S2 := Lib.hid S2
      clear hb2
      dsimp only []
      go_wp2_with fail
      refine (C3.out w2 HB2.out).mono ?_
      rintro _ w3 ⟨A3, c3, rfl, S3, hb3⟩
      have HB3 := Lib.hid (below_next HB2.out (Nat.le_refl _) hb3)
      replace SL := Lib.hid (SL.out.next hb3)
      replace S1 := Lib.hid (S1.out.next hb3)
      replace S2 := Lib.hid (S2.out.next hb3)
      replace S3 := Lib.hid S3
      clear hb3
      dsimp only []
      go_wp2_with fail
      refine (CS.out A1 c1 A2 c2 w3 S1.out S2.out).mono ?_
      rintro _ w4 ⟨rfl, hb4⟩
      have HB4 := Lib.hid (below_next HB3.out (Nat.le_refl _) hb4)
      replace SL := Lib.hid (SL.out.next hb4)
      replace S1 := Lib.hid (S1.out.next hb4)
      replace S2 := Lib.hid (S2.out.next hb4)
      replace S3 := Lib.hid (S3.out.next hb4)
      clear hb4
      dsimp only []
      go_wp2_with fail
      refine (CT'.out w4 SL.out HB4.out).mono ?_
      rintro _ w5 ⟨rfl, hb5⟩
      have HB5 := Lib.hid (below_next HB4.out (Nat.le_refl _) hb5)
      replace SL := Lib.hid (SL.out.next hb5)
      replace S1 := Lib.hid (S1.out.next hb5)
      replace S2 := Lib.hid (S2.out.next hb5)
      replace S3 := Lib.hid (S3.out.next hb5)
      clear hb5
      dsimp only []
      go_wp2_with fail
      refine (CR'.out w5 SL.out).mono ?_
      rintro _ w6 ⟨rfl, hb6⟩
      subst w6
      dsimp only []
      go_wp2_with fail
      go_ret
      exact ⟨rfl, HB5.out⟩
set_option maxRecDepth 8000 in
theorem desc7_long_a (s : ByteArray) (A : Option Addr) (c N : Nat) (w : World) (hs : s.size ≤ 140737488355328) (h : 300 < s.size) :
    Calls Tryd.prog 4 #[.string s, .slice A N c] w fun e w' => e = .returned (.bool true) ∧ Below w.heap.size w w' := by
  have k0 : (300 : Int) < (s.size : Int) := by omega
  have k0' : decide ((300 : Int) < (s.size : Int)) = true := decide_eq_true k0
  go_enter Tryd.func4, Tryd.ntmps4
  go_wp2_with fail
  go_ret
  exact ⟨rfl, Below.refl _ _⟩
set_option maxRecDepth 8000 in
theorem desc7_long_b (s : ByteArray) (A : Option Addr) (c N : Nat) (w : World) (hs : s.size ≤ 140737488355328) (hN : N ≤ 140737488355328) (h : ¬ 300 < s.size ∧ 30 < N) :
    Calls Tryd.prog 4 #[.string s, .slice A N c] w fun e w' => e = .returned (.bool true) ∧ Below w.heap.size w w' := by
  have k0 : ¬ ((300 : Int) < (s.size : Int)) := by omega
  have k0' : decide ((300 : Int) < (s.size : Int)) = false := decide_eq_false k0
  have k1 : (30 : Int) < (N : Int) := by omega
  have k1' : decide ((30 : Int) < (N : Int)) = true := decide_eq_true k1
  go_enter Tryd.func4, Tryd.ntmps4
  go_wp2_with fail
  go_ret
  exact ⟨rfl, Below.refl _ _⟩
theorem desc7_walk (s : ByteArray) (A : Option Addr) (c N : Nat) (L : List (List UInt8)) (w0 : World) (H : OHyp w0) (hs : s.size ≤ 140737488355328) (hN3 : N ≤ 140737488355328) (hN : L.length = N) (hsrc : SrcO w0 w0.heap.size A c L) (hlen : ∀ l ∈ L, l.length ≤ 140737488355328) :
    Calls Tryd.prog 4 #[.string s, .slice A N c] w0 fun e w' => e = .returned (.bool true) ∧ Below w0.heap.size w0 w' := by
  by_cases h : 300 < s.size
  · exact desc7_long_a s A c N w0 hs h
  · by_cases h2 : 30 < N
    · exact desc7_long_b s A c N w0 hs hN3 ⟨h, h2⟩
    · exact desc7_in s A c N L w0 (Lib.hid H) (by omega) hN (by omega) hsrc hlen
end Go.Proofs.YtpmcdkalmdlahaaDoor
