/-
  The document's groups of seven bits.
-/
import Derived.Test.YtpmcdkalmdlahaaDoorWords
import Derived.Test.YtpmcdkalmdlahaaDoorAppend
import Derived.Test.YtpmcdkalmdlahaaDoorMore
import Derived.Test.YtpmcdkalmdlahaaDoorOidDat
namespace Go.Proofs.YtpmcdkalmdlahaaDoor
open Go.RowKit

def svT (m : Nat) : List Nat := if 0 < m then svHi m else []
theorem svT_step (m : Nat) (h : 0 < m) : svT m = svT (m / 128) ++ [m % 128 + 128] := by
  unfold svT
  rw [if_pos h, svHi]
  split
  · rw [if_neg (by omega)]
    have : m % 128 = m := Nat.mod_eq_of_lt (by omega)
    rw [this]
    rfl
  · rw [if_pos (by omega)]
theorem sv_T (n : Nat) : sv n = svT (n / 128) ++ [n % 128] := by
  unfold sv svT
  split
  · rw [if_neg (by omega), Nat.mod_eq_of_lt (by omega)]
    rfl
  · rw [if_pos (by omega)]
theorem svT_len : ∀ k m, m < 128 ^ k → (svT m).length ≤ k
  | 0, m, h => by
    have : m = 0 := by simpa using h
    subst this
    exact Nat.le_refl _
  | k + 1, m, h => by
    by_cases h0 : 0 < m
    · rw [svT_step m h0, List.length_append]
      have := svT_len k (m / 128) (by rw [Nat.pow_succ] at h; omega)
      simp only [List.length_cons, List.length_nil]
      omega
    · unfold svT
      rw [if_neg h0]
      exact Nat.zero_le _
theorem sv_len5 (n : Nat) (h : n ≤ 20000000000) : (sv n).length ≤ 5 := by
  rw [sv_T, List.length_append]
  have := svT_len 4 (n / 128) (by omega)
  simp only [List.length_cons, List.length_nil]
  omega
set_option maxRecDepth 4000 in
set_option maxHeartbeats 1600000 in
theorem refSeven_any (n : Nat) (w : World) (hn : n ≤ 20000000000) :
    Calls Tryd.prog 26 #[.int .i64 (n : Int)] w fun e w' => ∃ A' c', e = .returned (.slice A' (sv n).length c') ∧ Own w' w.heap.size (.slice A' (sv n).length c') (sv n) ∧ Below w.heap.size w w' := by
  have hsv := Lib.hid (sv_T n)
  have hst := Lib.hid svT_step
  have hlen := sv_len5 n hn
  obtain ⟨d, hd⟩ : ∃ d, d = n % 128 := ⟨_, rfl⟩
  obtain ⟨m0, hm0⟩ : ∃ m0, m0 = n / 128 := ⟨_, rfl⟩
  rw [← hd, ← hm0] at hsv
  have hdi : (n : Int) % 128 = (d : Int) := by omega
  have hmi : (n : Int) / 128 = (m0 : Int) := by omega
  have hdb : d < 128 := by omega
  have hmb : m0 ≤ 200000000 := by omega
  obtain ⟨F, hF⟩ : ∃ F, F = sv n := ⟨_, rfl⟩
  rw [← hF] at hsv hlen ⊢
  replace hd := Lib.hid hd
  replace hm0 := Lib.hid hm0
  replace hF := Lib.hid hF
  go_enter Tryd.func26, Tryd.ntmps26
  go_wp2_with fail
  clear hdi hmi
  go_loopw [0, 3] (fun x b wr => ∃ (m N cc : Nat) (B : Option Addr) (L : List Nat), m ≤ 200000000 ∧ N ≤ 5 ∧ x = .int .i64 (m : Int) ∧ b = .slice B N cc ∧ Hid (L.length = N) ∧ Hid (F = svT m ++ L) ∧ Hid (Own wr w.heap.size (.slice B N cc) L) ∧ Hid (Below w.heap.size w wr)) (fun x _ _ => (intOf x).toNat)
  case atStart => exact ⟨m0, 1, 1, _, [d], hmb, by omega, rfl, rfl, Lib.hid rfl, hsv, Lib.hid (Own.one w w.heap.size d (Nat.le_refl _)), Lib.hid ((Below.refl _ _).alloc (Nat.le_refl _) _)⟩
  case round =>
    obtain ⟨m, N, cc, B, L, hm, hN, rfl, rfl, HN, HF, HO, HB⟩ := hrel
    have hsz := HB.out.size
    by_cases h0 : 0 < m
    · have i0 : (0 : Int) < (m : Int) := by omega
      obtain ⟨e, he⟩ : ∃ e, e = m % 128 + 128 := ⟨_, rfl⟩
      obtain ⟨m1, hm1⟩ : ∃ m1, m1 = m / 128 := ⟨_, rfl⟩
      have he1 : (m : Int) % 128 + 128 = (e : Int) := by omega
      have he2 : e < 256 := by omega
      have hm2 : (m : Int) / 128 = (m1 : Int) := by omega
      have hF2 : F = svT m1 ++ (e :: L) := by
        rw [HF.out, hst.out m h0, hm1, he, List.append_assoc]
        rfl
      have hN2 : N + 1 ≤ 5 := by
        have := congrArg List.length hF2
        rw [List.length_append, List.length_cons, HN.out] at this
        omega
      have hme : m1 < m := by omega
      replace hF2 := Lib.hid hF2
      replace he := Lib.hid he
      replace hm1 := Lib.hid hm1
      go_wp2_with (at_builtin; refine append_srcF rfl (.tmp 16) (.tmp 17) rfl w.heap.size _ [e] rfl (Own.one wr w.heap.size e hsz) wr.heap.size B cc L N HN.out rfl (HO.out.src.alloc (Nat.le_refl _) _) (by rw [HN.out]; simp; omega) (by simp; omega) ?_; intro A3 c3 w3 ho3 hb3 _; have HO3 := Lib.hid ho3; have HB3 := Lib.hid (show Below w.heap.size w w3 from HB.out.trans (((Below.refl w.heap.size wr).alloc hsz _).trans hb3)); clear ho3 hb3)
      go_roundw
      case rel => exact ⟨m1, N + 1, c3, A3, e :: L, by omega, hN2, by go_num, by simp [Nat.add_comm], Lib.hid (by rw [List.length_cons, HN.out]), hF2, Lib.hid (by have := HO3.out; rwa [List.length_singleton, Nat.add_comm 1 N] at this), HB3⟩
      case measure => simp [intOf]; omega
    · have hm0' : m = 0 := by omega
      subst hm0'
      go_wp2_with fail
      go_ret
      have e : F = L := by rw [HF.out]; rfl
      exact ⟨B, cc, by rw [e, HN.out]; rfl, by rw [e, HN.out]; exact HO.out, HB.out⟩
end Go.Proofs.YtpmcdkalmdlahaaDoor
