/-
  The document's Lower.
-/
import Derived.Test.YtpmcdkalmdlahaaDoorRefSign
import Derived.Test.YtpmcdkalmdlahaaDoorRefSeven
import Derived.Test.YtpmcdkalmdlahaaDoorStr
namespace Go.Proofs.YtpmcdkalmdlahaaDoor
open Go.RowKit

theorem own_nilO (w : World) : Own w w.heap.size (.slice none 0 0) [] := ⟨rfl, .inl ⟨rfl, rfl⟩⟩
def nats (l : List UInt8) : List Nat := l.map UInt8.toNat
theorem strB_nats (l : List UInt8) : (strB (nats l)).data.toList = l := by
  rw [strB_list]
  unfold nats
  rw [List.map_map]
  exact (List.map_congr_left fun c _ => by simp).trans (List.map_id' l)
set_option maxRecDepth 4000 in
set_option maxHeartbeats 1600000 in
theorem refLower_any (s : ByteArray) (w : World) (hs : s.size ≤ 300) :
    Calls Tryd.prog 16 #[.string s] w fun e w' => ∃ x, e = .returned (.string x) ∧ x.data.toList = lowL s.data.toList ∧ Below w.heap.size w w' := by
  have hst : Hid (∀ k (h : k < s.size), nats (lowL (s.data.toList.take (k + 1))) = nats (lowL (s.data.toList.take k)) ++ [(low s[k]).toNat]) := Lib.hid fun k h => by
    rw [take_snocO s k h]
    simp [nats, lowL]
  have hend : Hid (s.data.toList.take s.size = s.data.toList) := Lib.hid (List.take_of_length_le (by simp))
  have hsz := fun k => show (nats (lowL (s.data.toList.take k))).length ≤ 300 by
    simp only [nats, lowL, List.length_map]
    exact Nat.le_trans (List.length_take_le' ..) (by simpa using hs)
  replace hsz := Lib.hid hsz
  go_enter Tryd.func16, Tryd.ntmps16
  go_wp2_with fail
  go_loopw [3, 4] (fun b i wr => ∃ (k N cc : Nat) (B : Option Addr) (L : List Nat), k ≤ s.size ∧ N ≤ 300 ∧ i = .int .i64 (k : Int) ∧ b = .slice B N cc ∧ Hid (L.length = N) ∧ Hid (L = nats (lowL (s.data.toList.take k))) ∧ Hid (Own wr w.heap.size (.slice B N cc) L) ∧ Hid (Below w.heap.size w wr)) (fun _ i _ => s.size - (intOf i).toNat)
  case atStart => exact ⟨0, 0, 0, none, [], Nat.zero_le _, by omega, rfl, rfl, Lib.hid rfl, Lib.hid rfl, Lib.hid (own_nilO w), Lib.hid (Below.refl _ _)⟩
  case round =>
    obtain ⟨k, N, cc, B, L, hk, hN, rfl, rfl, HN, HL, HO, HB⟩ := hrel
    have hsz1 := HB.out.size
    by_cases hlt : k < s.size
    · have h1 := hst.out k hlt
      rw [← HL.out] at h1
      have h2 := hsz.out (k + 1)
      rw [h1, List.length_append, HN.out] at h2
      have hN1 : N + 1 ≤ 300 := h2
      clear h2
      obtain ⟨c, hc⟩ : ∃ c, c = s[k].toNat := ⟨_, rfl⟩
      have hcb : c < 256 := by rw [hc]; exact s[k].toNat_lt
      obtain ⟨d, hd⟩ : ∃ d, d = (low s[k]).toNat := ⟨_, rfl⟩
      rw [← hd] at h1
      have i0 : (0 : Int) ≤ (k : Int) := by omega
      have i1 : (k : Int) < (s.size : Int) := by omega
      have hds : (65 ≤ c ∧ c ≤ 90 ∧ d = c + 32) ∨ (¬ 65 ≤ c ∧ d = c) ∨ (65 ≤ c ∧ ¬ c ≤ 90 ∧ d = c) := by
        rw [hd]
        unfold low
        rw [← hc]
        by_cases g1 : 65 ≤ c <;> by_cases g2 : c ≤ 90
        · refine .inl ⟨g1, g2, ?_⟩
          rw [decide_eq_true g1, decide_eq_true g2]
          show (UInt8.ofNat (c + 32)).toNat = _
          rw [UInt8.toNat_ofNat']
          omega
        · exact .inr (.inr ⟨g1, g2, by rw [decide_eq_false g2, Bool.and_false]; exact hc.symm⟩)
        · exact .inr (.inl ⟨g1, by rw [decide_eq_false g1]; exact hc.symm⟩)
        · exact .inr (.inl ⟨g1, by rw [decide_eq_false g1]; exact hc.symm⟩)
      have hcs : ((s[k].toNat : Nat) : Int) = (c : Int) := by rw [hc]
      replace h1 := Lib.hid h1
      replace hc := Lib.hid hc
      replace hd := Lib.hid hd
      rcases hds with ⟨g1, g2, g3⟩ | ⟨g1, g3⟩ | ⟨g1, g2, g3⟩
      · have k0 : (65 : Int) ≤ (c : Int) := by omega
        have k1 : (c : Int) ≤ 90 := by omega
        have k2 : (c : Int) + 32 = (d : Int) := by omega
        have k3 : d < 256 := by omega
        replace g3 := Lib.hid g3
        go_wp2_with (at_builtin; refine append_srcF rfl (.tmp 23) (.tmp 25) rfl w.heap.size (.slice B N cc) L rfl (HO.out.alloc _) (wr.heap.size + 1) (some ⟨wr.heap.size, 0, none⟩) 1 [d] 1 rfl rfl (Src.one wr d) (by rw [HN.out]; simp; omega) (by simp; omega) ?_; intro A3 c3 w3 ho3 hb3 _; have HO3 := Lib.hid ho3; have HB3 := Lib.hid (show Below w.heap.size w w3 from HB.out.trans (((Below.refl w.heap.size wr).alloc hsz1 _).trans hb3)); clear ho3 hb3)
        clear k2
        go_roundw
        case rel => exact ⟨k + 1, N + 1, c3, A3, L ++ [d], by omega, hN1, by go_num, by rw [HN.out], Lib.hid (by rw [List.length_append, HN.out]; rfl), Lib.hid h1.out.symm, Lib.hid (by have := HO3.out; rwa [HN.out] at this), HB3⟩
        case measure => simp [intOf]; omega
      · have k0 : ¬ ((65 : Int) ≤ (c : Int)) := by omega
        subst g3
        go_wp2_with (at_builtin; refine append_srcF rfl (.tmp 23) (.tmp 25) rfl w.heap.size (.slice B N cc) L rfl (HO.out.alloc _) (wr.heap.size + 1) (some ⟨wr.heap.size, 0, none⟩) 1 [d] 1 rfl rfl (Src.one wr d) (by rw [HN.out]; simp; omega) (by simp; omega) ?_; intro A3 c3 w3 ho3 hb3 _; have HO3 := Lib.hid ho3; have HB3 := Lib.hid (show Below w.heap.size w w3 from HB.out.trans (((Below.refl w.heap.size wr).alloc hsz1 _).trans hb3)); clear ho3 hb3)
        go_roundw
        case rel => exact ⟨k + 1, N + 1, c3, A3, L ++ [d], by omega, hN1, by go_num, by rw [HN.out], Lib.hid (by rw [List.length_append, HN.out]; rfl), Lib.hid h1.out.symm, Lib.hid (by have := HO3.out; rwa [HN.out] at this), HB3⟩
        case measure => simp [intOf]; omega
      · have k0 : (65 : Int) ≤ (c : Int) := by omega
        have k1 : ¬ ((c : Int) ≤ 90) := by omega
        subst g3
        go_wp2_with (at_builtin; refine append_srcF rfl (.tmp 23) (.tmp 25) rfl w.heap.size (.slice B N cc) L rfl (HO.out.alloc _) (wr.heap.size + 1) (some ⟨wr.heap.size, 0, none⟩) 1 [d] 1 rfl rfl (Src.one wr d) (by rw [HN.out]; simp; omega) (by simp; omega) ?_; intro A3 c3 w3 ho3 hb3 _; have HO3 := Lib.hid ho3; have HB3 := Lib.hid (show Below w.heap.size w w3 from HB.out.trans (((Below.refl w.heap.size wr).alloc hsz1 _).trans hb3)); clear ho3 hb3)
        go_roundw
        case rel => exact ⟨k + 1, N + 1, c3, A3, L ++ [d], by omega, hN1, by go_num, by rw [HN.out], Lib.hid (by rw [List.length_append, HN.out]; rfl), Lib.hid h1.out.symm, Lib.hid (by have := HO3.out; rwa [HN.out] at this), HB3⟩
        case measure => simp [intOf]; omega
    · have hkk : k = s.size := by omega
      subst hkk
      have cv := HO.out.src.conv
      rw [HN.out] at cv
      have i1 : ¬ ((s.size : Int) < (s.size : Int)) := by omega
      go_wp2_with fail
      go_ret
      exact ⟨strB L, rfl, by rw [HL.out, strB_nats, hend.out], HB.out⟩
end Go.Proofs.YtpmcdkalmdlahaaDoor
