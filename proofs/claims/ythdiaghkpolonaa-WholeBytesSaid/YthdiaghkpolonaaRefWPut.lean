/-
  The document's Put: the eight bytes, and those ahead taken away that need not be.
-/
import Derived.Test.YthdiaghkpolonaaWNum
namespace Go.Proofs.Ythdiaghkpolonaa
open Go.RowKit

set_option maxRecDepth 4000 in
set_option maxHeartbeats 1600000 in
theorem refPut_any (n : Int) (w : World) (_h1 : -9223372036854775808 ≤ n) (_h2 : n ≤ 9223372036854775807) :
    Calls Try.prog 8 #[.int .i64 n] w fun e w' => ∃ A' c', e = .returned (.slice A' (putW n).length c') ∧ Src w' w'.heap.size A' c' (putW n) ∧ Below w.heap.size w w' := by
  obtain ⟨R, hR⟩ : ∃ R, R = row same 256 (low64 n) 8 := ⟨_, rfl⟩
  have hR8 : R.length = 8 := by rw [hR, row_len]
  have HW : Hid (putW n = stripW R) := Lib.hid (by rw [hR]; rfl)
  have hget := row8_get n
  have hRb : ∀ x ∈ R, x < 256 := by rw [hR]; exact row_byte _ _
  rw [← hR] at hget
  clear hR
  replace hget := Lib.hid hget
  replace hRb := Lib.hid hRb
  go_enter Try.func8, Try.ntmps8
  go_wp2_with fail
  go_loopw [3, 4] (fun v i wr => ∃ (k : Nat) (B : Option Addr) (d : Nat), k ≤ 8 ∧ v = .slice B k d ∧ i = .int .i64 (7 - (k : Int)) ∧ Hid (Own wr w.heap.size (.slice B k d) (R.take k)) ∧ Hid (Below w.heap.size w wr)) (fun _ i _ => (intOf i + 1).toNat)
  case atStart => exact ⟨0, none, 0, by omega, rfl, rfl, Lib.hid (World.ownsRow_nil w w.heap.size 5 1), Lib.hid (Below.refl _ _)⟩
  case round =>
    obtain ⟨k, B, d, hk, rfl, rfl, HO, HB⟩ := hrel
    have hszr : w.heap.size ≤ wr.heap.size := HB.out.size
    by_cases h8 : k = 8
    · subst h8
      have HS := HO.out.src
      have hcap := HO.out.cap
      rw [List.take_of_length_le (by omega)] at HS
      replace HS := Lib.hid HS
      clear HO
      go_wp2_with fail
      go_loop [3] (fun v => ∃ (l : List Nat) (A : Option Addr) (c : Nat), 0 < l.length ∧ l.length ≤ 8 ∧ c ≤ 9223372036854775807 ∧ v = .slice A l.length c ∧ Hid (Src wr wr.heap.size A c l) ∧ Hid (stripW R = stripW l) ∧ Hid (∀ x ∈ l, x < 256)) (fun v => lenV v)
      case atStart => exact ⟨R, B, d, by omega, by omega, hcap, by rw [hR8], HS, Lib.hid rfl, hRb⟩
      case round =>
        obtain ⟨l, A, c, hl0, hl8, hcc, rfl, HL, HE, HY⟩ := hrel
        obtain ⟨b, off, rfl, _, hc⟩ := HL.out.plain hl0
        have hlc := HL.out.le
        rcases l with _ | ⟨x, _ | ⟨y, r⟩⟩
        · simp at hl0
        · have HP : Hid (putW n = [x]) := Lib.hid (by rw [HW.out, HE.out]; rfl)
          clear hc
          go_wp2_with fail
          go_ret
          exact ⟨some ⟨b, off, none⟩, c, by rw [HP.out]; rfl, by rw [HP.out]; exact HL.out, HB.out⟩
        · have hx : wr.cell? ⟨b, off, none⟩ = some (.int .u8 (x : Int)) := hc 0 (by simp)
          have hy : wr.cell? ⟨b, off + 1, none⟩ = some (.int .u8 (y : Int)) := hc 1 (by simp)
          have hx256 := HY.out x (List.mem_cons_self ..)
          have HY2 : Hid (∀ z ∈ y :: r, z < 256) := Lib.hid fun z hz => HY.out z (List.mem_cons_of_mem _ hz)
          have HT := Lib.hid (HL.out.tail)
          have hlen : (x :: y :: r).length = r.length + 2 := rfl
          clear hc
          by_cases hlg : longW (x :: y :: r) = true
          · have HE2 : Hid (stripW R = stripW (y :: r)) := Lib.hid (by rw [HE.out, strip_step2 hlg])
            have hw := longW_two x y r
            rw [hlg] at hw
            have hw2 : (x = 0 ∧ y < 128) ∨ (x = 255 ∧ 127 < y) := by
              have := hw.symm
              simpa using this
            clear hw hlg
            rw [hlen] at hl8 hlc hl0 ⊢
            rcases hw2 with ⟨rfl, h9⟩ | ⟨rfl, h9⟩
            · have ky : decide ((y : Int) < 128) = true := decide_eq_true (by omega)
              go_wp2_with fail
              go_round
              case rel => exact ⟨y :: r, by simp, by rw [List.length_cons]; omega, some ⟨b, off + 1, none⟩, c - 1, by omega, ⟨rfl, rfl, rfl⟩, HT, HE2, HY2⟩
              case measure => simp [lenV]
            · have ky : decide (127 < (y : Int)) = true := decide_eq_true (by omega)
              go_wp2_with fail
              go_round
              case rel => exact ⟨y :: r, by simp, by rw [List.length_cons]; omega, some ⟨b, off + 1, none⟩, c - 1, by omega, ⟨rfl, rfl, rfl⟩, HT, HE2, HY2⟩
              case measure => simp [lenV]
          · have hlg2 : longW (x :: y :: r) = false := by simpa using hlg
            have HP : Hid (putW n = x :: y :: r) := Lib.hid (by rw [HW.out, HE.out, strip_stop2 hlg2])
            rw [longW_two] at hlg2
            simp only [Bool.or_eq_false_iff, Bool.and_eq_false_iff, decide_eq_false_iff_not] at hlg2
            clear hlg
            rw [hlen] at hl8 hlc hl0 ⊢
            by_cases a0 : x = 0
            · subst a0
              have ky : decide ((y : Int) < 128) = false := decide_eq_false (by omega)
              clear hlg2
              go_wp2_with fail
              go_ret
              exact ⟨some ⟨b, off, none⟩, c, by rw [HP.out]; rfl, by rw [HP.out]; exact HL.out, HB.out⟩
            · by_cases a1 : x = 255
              · subst a1
                have ky : decide (127 < (y : Int)) = false := decide_eq_false (by omega)
                clear hlg2
                go_wp2_with fail
                go_ret
                exact ⟨some ⟨b, off, none⟩, c, by rw [HP.out]; rfl, by rw [HP.out]; exact HL.out, HB.out⟩
              · have k1 : ((x : Int) == 0) = false := beq_eq_false_iff_ne.2 (by omega)
                have k2 : ((x : Int) == 255) = false := beq_eq_false_iff_ne.2 (by omega)
                clear hlg2
                go_wp2_with fail
                go_ret
                exact ⟨some ⟨b, off, none⟩, c, by rw [HP.out]; rfl, by rw [HP.out]; exact HL.out, HB.out⟩
    · have hk8 : k ≤ 7 := by omega
      obtain ⟨x, hx256, hz, htk⟩ := hget.out k (by omega)
      obtain ⟨l, hl⟩ : ∃ l, l = R.take k := ⟨_, rfl⟩
      have hll : l.length = k := by rw [hl, List.length_take]; omega
      rw [← hl] at HO htk
      replace htk := Lib.hid htk
      replace hz := Lib.hid hz
      clear hl h8
      go_wp2_with (at_builtin; refine append_srcF rfl (.tmp 9) (.tmp 16) rfl w.heap.size (.slice B k d) l rfl (HO.out.alloc _) (wr.heap.size + 1) (some ⟨wr.heap.size, 0, none⟩) 1 [x] 1 rfl rfl (Src.oneI wr x _ hz.out) (by simp; omega) (by simp; omega) ?_; intro A2 c2 w2 ho2 hb2 _; have HO2 := Lib.hid ho2; have HB2 := Lib.hid (show Below w.heap.size w w2 from HB.out.trans (((Below.refl w.heap.size wr).alloc hszr _).trans hb2)); clear ho2 hb2)
      have HR : Hid (Own w2 w.heap.size (.slice A2 (k + 1) c2) (R.take (k + 1))) := by
        have h := HO2.out
        rw [hll, ← htk.out] at h
        exact h
      go_roundw
      case rel => exact ⟨k + 1, A2, c2, by omega, rfl, by go_num, HR, HB2⟩
      case measure => simp [intOf]; omega
end Go.Proofs.Ythdiaghkpolonaa
