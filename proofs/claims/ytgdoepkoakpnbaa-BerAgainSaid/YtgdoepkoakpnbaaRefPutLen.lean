/-
  The document's own PutLen appends the same bytes.
-/
import Derived.Test.YtgdoepkoakpnbaaNil
import Derived.Test.YtgdoepkoakpnbaaAppend
import Derived.Test.YtgdoepkoakpnbaaMore
namespace Go.Proofs.Ytgdoepkoakpnbaa
open Go.RowKit

set_option maxRecDepth 4000 in
set_option maxHeartbeats 800000 in
theorem refPutLen_neg (A : Option Addr) (cp : Nat) (l : List Nat) (n : Int) (w : World) (hs : Src w w.heap.size A cp l) (hl : l.length ≤ 1048000) (hn : n < 0) :
    Calls Try.prog 44 #[.slice A l.length cp, .int .i64 n] w fun e w' => ∃ A' c', e = .returned (.slice A' l.length c') ∧ Own w' w.heap.size (.slice A' l.length c') l ∧ Below w.heap.size w w' := by
  replace hs := Lib.hid hs
  go_enter Try.func44, Try.ntmps44
  go_wp2_with (at_builtin; refine append_src rfl (.tmp 7) (.tmp 8) rfl w.heap.size _ [] rfl (Own.lit w) w.heap.size A cp l rfl (hs.out.alloc (Nat.le_refl _) _) (by simp; omega) (by simp) ?_; intro A1 c1 w1 ho1 hb1; have HO1 := Lib.hid ho1; have HB1 := Lib.hid (((Below.refl w.heap.size w).alloc (Nat.le_refl _) _).trans hb1); clear ho1 hb1)
  go_ret
  exact ⟨A1, c1, rfl, HO1.out, HB1.out⟩

set_option maxRecDepth 4000 in
set_option maxHeartbeats 800000 in
theorem refPutLen_short (A : Option Addr) (cp : Nat) (l : List Nat) (n : Nat) (w : World) (hs : Src w w.heap.size A cp l) (hl : l.length ≤ 1048000) (hn : n < 128) :
    Calls Try.prog 44 #[.slice A l.length cp, .int .i64 (n : Int)] w fun e w' => ∃ A' c', e = .returned (.slice A' (l.length + 1) c') ∧ Own w' w.heap.size (.slice A' (l.length + 1) c') (l ++ [n]) ∧ Below w.heap.size w w' := by
  replace hs := Lib.hid hs
  go_enter Try.func44, Try.ntmps44
  go_wp2_with (first
    | (at_builtin; refine append_src rfl (.tmp 7) (.tmp 8) rfl w.heap.size _ [] rfl (Own.lit w) w.heap.size A cp l rfl (hs.out.alloc (Nat.le_refl _) _) (by simp; omega) (by simp) ?_; intro A1 c1 w1 ho1 hb1; have HO1 := Lib.hid ho1; have HB1 := Lib.hid (((Below.refl w.heap.size w).alloc (Nat.le_refl _) _).trans hb1); have hsz1 := HB1.out.size; clear ho1 hb1)
    | (at_builtin; refine append_src rfl (.tmp 15) (.tmp 18) rfl w.heap.size _ l rfl (HO1.out.alloc _) (w1.heap.size + 1) (some ⟨w1.heap.size, 0, none⟩) 1 [n] rfl (Src.one w1 n) (by simp; omega) (by simp; omega) ?_; intro A2 c2 w2 ho2 hb2; have HO2 := Lib.hid ho2; have HB2 := Lib.hid (HB1.out.trans (((Below.refl w.heap.size w1).alloc hsz1 _).trans hb2)); clear ho2 hb2))
  go_ret
  have h := HO2.out
  rw [List.length_append] at h
  exact ⟨A2, c2, rfl, h, HB2.out⟩

set_option maxRecDepth 4000 in
set_option maxHeartbeats 800000 in
theorem refPutLen_long (A : Option Addr) (cp : Nat) (l : List Nat) (n : Nat) (w : World) (hs : Src w w.heap.size A cp l) (hl : l.length ≤ 1048000) (hn : 128 ≤ n) (hn2 : n ≤ 9223372036854775807) :
    Calls Try.prog 44 #[.slice A l.length cp, .int .i64 (n : Int)] w fun e w' => ∃ A' c', e = .returned (.slice A' (l.length + 1 + count 8 n) c') ∧ Own w' w.heap.size (.slice A' (l.length + 1 + count 8 n) c') (l ++ (128 + count 8 n) :: row same 256 n (count 8 n)) ∧ Below w.heap.size w w' := by
  have hG : count 8 n ≤ 8 := by
    have := Lib.bitLen_le n 64 (by omega) (by omega)
    unfold count; omega
  have hsh := fun j hj => count_shift 8 n j (by decide) (by omega) (by omega) hj
  obtain ⟨G, hGe⟩ : ∃ G, G = count 8 n := ⟨_, rfl⟩
  rw [← hGe] at hG hsh ⊢
  replace hsh : Hid (∀ j, j ≤ G → (n / 256 ^ j = 0 ↔ j = G)) := hsh
  clear hGe
  replace hs := Lib.hid hs
  go_enter Try.func44, Try.ntmps44
  go_wp2_with (at_builtin; refine append_src rfl (.tmp 7) (.tmp 8) rfl w.heap.size _ [] rfl (Own.lit w) w.heap.size A cp l rfl (hs.out.alloc (Nat.le_refl _) _) (by simp; omega) (by simp) ?_; intro A1 c1 w1 ho1 hb1; have HO1 := Lib.hid ho1; have HB1 := Lib.hid (((Below.refl w.heap.size w).alloc (Nat.le_refl _) _).trans hb1); have hsz1 := HB1.out.size; clear ho1 hb1; have HN : Hid (Own w1 w1.heap.size (.slice none 0 0) (row same 256 n 0)) := World.ownsRow_nil w1 w1.heap.size 5 1; have HR := Lib.hid (Below.refl w1.heap.size w1))
  go_loopw [1, 6] (fun i v wr => ∃ (k : Nat) (B : Option Addr) (d : Nat), k ≤ G ∧ i = .int .i64 ((n / 256 ^ k : Nat) : Int) ∧ v = .slice B k d ∧ Hid (Own wr w1.heap.size (.slice B k d) (row same 256 n k)) ∧ Hid (Below w1.heap.size w1 wr)) (fun i _ _ => (intOf i).toNat)
  case atStart => exact ⟨0, none, 0, Nat.zero_le _, by simp, rfl, HN, HR⟩
  case round =>
    obtain ⟨k, B, d, hk, hi, rfl, HO, HB⟩ := hrel
    obtain ⟨x, hx⟩ : ∃ x, x = n / 256 ^ k := ⟨_, rfl⟩
    rw [← hx] at hi
    have hx1 : x ≤ n := by rw [hx]; exact Nat.div_le_self _ _
    have HX := Lib.hid hx
    clear hx HN HR
    obtain rfl := hi
    have hszr : w1.heap.size ≤ wr.heap.size := HB.out.size
    by_cases h0 : x = 0
    · obtain rfl : k = G := (hsh.out k hk).1 (by rw [← HX.out]; exact h0)
      clear HX hk hx1
      subst h0
      have HS := Lib.hid (HO.out.src)
      have HO9 := Lib.hid (Own.below HO1.out HB.out (Nat.le_refl _))
      have tok1 : True := trivial
      have HL1 := Lib.hid (fun k (hk : (Value.slice A1 l.length c1).ownBlock = some k) => (HO1.out.lt k hk).2)
      go_wp2_with (first
        | (at_builtin; have _t := tok1; refine append_srcF rfl (.tmp 30) (.tmp 35) rfl w.heap.size (.slice A1 l.length c1) l rfl (HO9.out.alloc _) (wr.heap.size + 1) (some ⟨wr.heap.size, 0, none⟩) 1 [128 + k] 1 rfl rfl (Src.oneI wr (128 + k) (128 + (k : Int)) (by omega)) (by simp; omega) (by simp; omega) ?_; intro A2 c2 w2 ho2 hb2 hf2; have HO2 := Lib.hid ho2; have HB2 := Lib.hid (show Below w.heap.size wr w2 from ((Below.refl w.heap.size wr).alloc (by omega) _).trans hb2); have hsz2 := HB2.out.size; have HS2 := Lib.hid (HO.out.srcFar (w' := w2) (fun p hp hq => (hf2 p (by simp; omega) (fun e => by have := HL1.out _ e.symm; omega)).trans (World.cell?_alloc_lt _ _ _ hp))); clear ho2 hb2 hf2 tok1)
        | (at_builtin; refine append_srcF rfl (.tmp 36) (.tmp 37) rfl w.heap.size (.slice A2 (l.length + 1) c2) (l ++ [128 + k]) rfl HO2.out wr.heap.size B d (row same 256 n k) k (row_len _ _ _ _) rfl HS2.out (by rw [List.length_append, row_len]; simp; omega) (by omega) ?_; intro A3 c3 w3 ho3 hb3 _; have HO3 := Lib.hid ho3; have HB3 := Lib.hid (HB2.out.trans hb3); clear ho3 hb3))
      go_ret
      have h := HO3.out
      rw [List.length_append, List.append_assoc] at h
      exact ⟨A3, c3, rfl, h, HB1.out.trans ((HB.out.mono hsz1).trans HB3.out)⟩
    · have hkG : k < G := by
        have := (hsh.out k hk).2
        rw [← HX.out] at this
        omega
      go_wp2_with (at_builtin; refine append_srcF rfl (.tmp 25) (.tmp 26) rfl w1.heap.size (.slice (some ⟨wr.heap.size, 0, none⟩) 1 1) [x % 256] rfl (Own.oneI wr w1.heap.size (x % 256) ((x : Int) % 256) (by omega) hszr) wr.heap.size B d (row same 256 n k) k (row_len _ _ _ _) rfl (HO.out.src.alloc (Nat.le_refl _) _) (by rw [row_len]; simp; omega) (by simp; omega) ?_; intro A2 c2 w2 ho2 hb2 _; have HO2 := Lib.hid ho2; have HB2 := Lib.hid (show Below w1.heap.size w1 w2 from HB.out.trans (((Below.refl w1.heap.size wr).alloc hszr _).trans hb2)); clear ho2 hb2)
      have HR : Hid (Own w2 w1.heap.size (.slice A2 (k + 1) c2) (row same 256 n (k + 1))) := by
        have h := HO2.out
        rw [show [x % 256].length + k = k + 1 from Nat.add_comm 1 k, HX.out] at h
        exact h
      go_roundw
      case rel => exact ⟨k + 1, A2, c2, hkG, by rw [← shift_step, ← HX.out]; rfl, by rw [Nat.add_comm], HR, HB2⟩
      case measure => simp [intOf]; omega
/-- The document's PutLen. -/
theorem refPutLen_out (A : Option Addr) (cp : Nat) (l : List Nat) (n : Int) (w : World) (hs : Src w w.heap.size A cp l) (hl : l.length ≤ 1048000) (hn : n ≤ 9223372036854775807) :
    Calls Try.prog 44 #[.slice A l.length cp, .int .i64 n] w fun e w' =>
      ∃ A' c', e = .returned (.slice A' (l ++ lenB n).length c') ∧ Own w' w.heap.size (.slice A' (l ++ lenB n).length c') (l ++ lenB n) ∧ Below w.heap.size w w' := by
  by_cases h0 : n < 0
  · have := refPutLen_neg A cp l n w hs hl h0
    rwa [lenB, if_pos h0, List.append_nil]
  · obtain ⟨n', rfl⟩ := Int.eq_ofNat_of_zero_le (by omega : 0 ≤ n)
    by_cases h1 : n' < 128
    · have := refPutLen_short A cp l n' w hs hl h1
      rw [lenB, if_neg h0, if_pos (by omega), List.length_append]
      exact this
    · have := refPutLen_long A cp l n' w hs hl (by omega) (by omega)
      rw [lenB, if_neg h0, if_neg (by omega), List.length_append, List.length_cons, row_len, Int.toNat_natCast, show l.length + (count 8 n' + 1) = l.length + 1 + count 8 n' from by omega]
      exact this
end Go.Proofs.Ytgdoepkoakpnbaa
