/-
  The program's small letters.
-/
import Derived.Test.YtllmffmmfpecaaaDoorByB8
namespace Go.Proofs.YtllmffmmfpecaaaDoor
open Go.RowKit

def capB (c : UInt8) : Bool := decide (65 ≤ c.toNat) && decide (c.toNat ≤ 90)
set_option maxHeartbeats 800000 in
theorem capital_any (c : UInt8) (w : World) : Calls Tryd.prog 54 #[.int .u8 (c.toNat : Int)] w fun e w' => e = .returned (.bool (capB c)) ∧ w' = w := by
  have h : Hid (capB c = (decide (65 ≤ (c.toNat : Int)) && decide ((c.toNat : Int) ≤ 90))) := Lib.hid (by
    unfold capB
    rw [show decide (65 ≤ c.toNat) = decide (65 ≤ (c.toNat : Int)) from decide_eq_decide.2 (by omega), show decide (c.toNat ≤ 90) = decide ((c.toNat : Int) ≤ 90) from decide_eq_decide.2 (by omega)])
  go_enter Tryd.func54, Tryd.ntmps54
  go_wp2
  all_goals
    go_ret
    exact ⟨ret_boolO (by rw [h.out, Bool.eq_iff_iff]; simp; omega), rfl⟩
/-- The first k letters made small. -/
def lowK (l : List UInt8) (k : Nat) : List UInt8 := lowL (l.take k) ++ l.drop k
theorem lowK_len (l : List UInt8) (k : Nat) : (lowK l k).length = l.length := by
  unfold lowK lowL
  rw [List.length_append, List.length_map, ← List.length_append, List.take_append_drop]
theorem lowK_at (l : List UInt8) (k : Nat) (h : k < l.length) : (lowK l k)[k]? = some l[k] := by
  unfold lowK lowL
  rw [List.getElem?_append_right (by rw [List.length_map, List.length_take]; omega), List.getElem?_drop, List.length_map, List.length_take, Nat.min_eq_left (by omega), Nat.sub_self, Nat.add_zero, List.getElem?_eq_getElem h]
theorem lowK_succ (l : List UInt8) (k : Nat) (h : k < l.length) : lowK l (k + 1) = (lowK l k).set k (low l[k]) := by
  unfold lowK lowL
  rw [List.set_append_right _ _ (by rw [List.length_map, List.length_take]; omega), List.length_map, List.length_take, Nat.min_eq_left (by omega), Nat.sub_self, List.take_succ_eq_append_getElem h, List.map_append, List.append_assoc, List.drop_eq_getElem_cons h (i := k)]
  rfl
theorem lowK_end (l : List UInt8) : lowK l l.length = lowL l := by
  unfold lowK
  rw [List.take_length, List.drop_length, List.append_nil]
theorem lowK_zero (l : List UInt8) : lowK l 0 = l := by unfold lowK lowL; simp
set_option maxRecDepth 4000 in
set_option maxHeartbeats 1600000 in
theorem lower_any (s : ByteArray) (w : World) (hs : s.size ≤ 1000000) : Calls Tryd.prog 41 #[.string s] w fun e w' => e = .returned (.string (baO (lowL s.data.toList))) ∧ Below w.heap.size w w' := by
  obtain ⟨l, rfl⟩ : ∃ l, s = baO l := ⟨s.data.toList, rfl⟩
  rw [baO_list]
  obtain ⟨n, hn⟩ : ∃ n, n = l.length := ⟨_, rfl⟩
  have hsz : (baO l).size = n := by rw [hn, ← size_listO, baO_list]
  have cv := Lib.run_convert_string_bytes (P := Tryd.prog) w 9 59 5 (baO l) Tryd.underlying9 Tryd.underlying59 Tryd.underlying5
  have hW : ByB (Lib.bytesWorld w 5 (baO l)) w.heap.size (lowK l 0) := by rw [lowK_zero]; exact ByB.new w (baO l)
  have hBW := below_bytes w (baO l)
  have hWs : w.heap.size < (Lib.bytesWorld w 5 (baO l)).heap.size := by rw [Lib.bytesWorld_size]; omega
  obtain ⟨W, hWe⟩ : ∃ W, Lib.bytesWorld w 5 (baO l) = W := ⟨_, rfl⟩
  obtain ⟨cap, hcap⟩ : ∃ cap, grownCap w (baO l).size 0 5 = cap := ⟨_, rfl⟩
  rw [hcap, hWe, hsz] at cv
  rw [hWe] at hW hBW hWs
  rw [hsz] at hs
  obtain ⟨G, hG⟩ : ∃ G, G = w.heap.size := ⟨_, rfl⟩
  rw [← hG] at cv hW hWs
  have hGB : Hid (w.heap.size ≤ G) := Lib.hid (by omega)
  have hend : Hid (lowK l n = lowL l) := Lib.hid (by rw [hn]; exact lowK_end l)
  have hlen : Hid (∀ k, (lowK l k).length = n) := Lib.hid fun k => by rw [lowK_len, hn]
  have hat : Hid (∀ k (h : k < n), (lowK l k)[k]? = some (l[k]'(by omega)) ∧ lowK l (k + 1) = (lowK l k).set k (low (l[k]'(by omega)))) := Lib.hid fun k h => ⟨lowK_at l k (by omega), lowK_succ l k (by omega)⟩
  replace hW := Lib.hid hW
  replace hBW := Lib.hid hBW
  replace hWe := Lib.hid hWe
  replace hG := Lib.hid hG
  replace hcap := Lib.hid hcap
  replace hsz := Lib.hid hsz
  replace hn := Lib.hid hn
  go_enter Tryd.func41, Tryd.ntmps41
  go_wp2_with fail
  go_loopw [10] (fun i wr => ∃ k : Nat, k ≤ n ∧ i = .int .i64 (k : Int) ∧ Hid (ByB wr G (lowK l k)) ∧ Hid (Below w.heap.size w wr)) (fun i _ => n - (intOf i).toNat)
  case atStart => exact ⟨0, Nat.zero_le _, rfl, hW, hBW⟩
  case round =>
    obtain ⟨k, hk, rfl, HC, HB⟩ := hrel
    by_cases hlt : k < n
    · obtain ⟨h1, h2⟩ := hat.out k hlt
      have hln := hlen.out k
      obtain ⟨c, hc⟩ : ∃ c, c = l[k]'(by have := hn.out; omega) := ⟨_, rfl⟩
      rw [← hc] at h1 h2
      obtain ⟨g1, g2⟩ := HC.out k c h1
      have C1 := Lib.hid (capital_any c wr)
      have i0 : (0 : Int) ≤ (k : Int) := by omega
      have i1 : (k : Int) < (n : Int) := by omega
      have hset := ByB.set HC.out k (by omega) (low c)
      rw [← h2] at hset
      obtain ⟨d, hd⟩ : ∃ d, d = (low c).toNat := ⟨_, rfl⟩
      obtain ⟨x, hx⟩ : ∃ x, x = c.toNat := ⟨_, rfl⟩
      have hxb : x < 256 := by rw [hx]; exact c.toNat_lt
      by_cases g : 65 ≤ x ∧ x ≤ 90
      · have hv : capB c = true := by unfold capB; rw [← hx, decide_eq_true g.1, decide_eq_true g.2]; rfl
        have hdx : (x : Int) + 32 = (d : Int) := by
          rw [hd]
          unfold low
          rw [← hx, decide_eq_true g.1, decide_eq_true g.2]
          show _ = (((UInt8.ofNat (x + 32)).toNat : Nat) : Int)
          rw [UInt8.toNat_ofNat']
          omega
        have hdb : (d : Int) < 256 := by omega
        have hdb0 : (0 : Int) ≤ (d : Int) := by omega
        rw [hv] at C1
        rw [← hx] at C1 g1
        rw [← hd] at hset
        replace hset := Lib.hid hset
        replace h1 := Lib.hid h1
        replace h2 := Lib.hid h2
        replace hc := Lib.hid hc
        replace hd := Lib.hid hd
        replace hx := Lib.hid hx
        replace hv := Lib.hid hv
        replace hln := Lib.hid hln
        go_wp2_with fail
        refine C1.out.mono ?_
        rintro _ w2 ⟨rfl, e2⟩
        subst w2
        dsimp only []
        go_wp2_with fail
        go_roundw
        case rel => exact ⟨k + 1, by omega, by go_num, hset, Lib.hid (HB.out.setCell (p := ⟨G, k, none⟩) hGB.out _)⟩
        case measure => simp [intOf]; omega
      · have hv : capB c = false := by
          unfold capB
          rw [← hx]
          by_cases g3 : 65 ≤ x
          · rw [decide_eq_false (show ¬ x ≤ 90 from fun e => g ⟨g3, e⟩), Bool.and_false]
          · rw [decide_eq_false g3, Bool.false_and]
        have hlow : low c = c := by
          have := hv
          unfold capB at this
          unfold low
          rw [this]
          rfl
        have hsame : lowK l (k + 1) = lowK l k := by
          rw [h2, hlow]
          refine List.ext_getElem? fun j => ?_
          rw [List.getElem?_set]
          by_cases hj : k = j
          · subst hj
            rw [if_pos rfl, if_pos (by rw [lowK_len]; have := hn.out; omega), h1]
          · rw [if_neg hj]
        have HC2 : Hid (ByB wr G (lowK l (k + 1))) := Lib.hid (by rw [hsame]; exact HC.out)
        rw [hv] at C1
        rw [← hx] at C1 g1
        clear hset hsame hlow hd g
        replace h1 := Lib.hid h1
        replace h2 := Lib.hid h2
        replace hc := Lib.hid hc
        replace hx := Lib.hid hx
        replace hv := Lib.hid hv
        replace hln := Lib.hid hln
        go_wp2_with fail
        refine C1.out.mono ?_
        rintro _ w2 ⟨rfl, e2⟩
        subst w2
        dsimp only []
        go_wp2_with fail
        go_roundw
        case rel => exact ⟨k + 1, by omega, by go_num, HC2, HB⟩
        case measure => simp [intOf]; omega
    · have hkk : k = n := by omega
      subst hkk
      have HC2 := HC.out
      rw [hend.out] at HC2
      have hll : (lowL l).length = l.length := by rw [lowL, List.length_map]
      have cb := run_convert_bytes_back (P := Tryd.prog) wr 59 9 5 ⟨G, 0, none⟩ cap (lowL l) Tryd.underlying59 Tryd.underlying5 Tryd.underlying9 (fun j hj => by
        have := (HC2 j _ (List.getElem?_eq_getElem hj)).1
        have e0 : (⟨G, 0, none⟩ : Addr).add j = ⟨G, j, none⟩ := by unfold Addr.add; split <;> simp_all
        rw [e0]
        exact this)
      rw [hll] at cb
      replace hll := Lib.hid hll
      clear HC2
      go_wp2_with fail
      go_returns
      exact ⟨rfl, HB.out⟩
end Go.Proofs.YtllmffmmfpecaaaDoor
