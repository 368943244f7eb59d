/-
  strconv.FormatUint of any number at base 16: its digits, as many as it needs.
-/
import Derived.Test.YtdojbgfkcleeaaaDoorRefHex
import Derived.Test.YtdojbgfkcleeaaaDoorShelf
import Derived.Lib.TrailingZeros
import Derived.Lib.LaidTab
import Derived.Laws.Bits64b
import Derived.Laws.BytesArg
import Derived.Outline
namespace Go.Proofs.YtdojbgfkcleeaaaDoor
open Go.RowKit

/-- A number's last so many digits, most significant first. -/
def hexM (n m : Nat) : List Nat := (List.range m).map fun i => hexD (n / 16 ^ (m - 1 - i) % 16)
theorem hexM_len (n m : Nat) : (hexM n m).length = m := by simp [hexM]
theorem hexM_get (n m i : Nat) (h : i < m) : (hexM n m)[i]? = some (hexD (n / 16 ^ (m - 1 - i) % 16)) := by
  unfold hexM
  rw [List.getElem?_map, List.getElem?_range h]
  rfl
theorem hexM_byte (n m : Nat) : ∀ x ∈ hexM n m, x < 256 := by
  intro x hx
  obtain ⟨i, _, rfl⟩ := List.mem_map.1 hx
  exact hexD_byte _ (Nat.mod_lt _ (by omega))
theorem hexL_hexM (n m : Nat) (hm : m ≤ 16) (hn : n < 16 ^ m) : hexL n = List.replicate (16 - m) 48 ++ hexM n m := by
  apply List.ext_getElem?
  intro i
  by_cases hi : i < 16
  · rw [hexL_get n i hi]
    by_cases h1 : i < 16 - m
    · rw [List.getElem?_append_left (by simpa using h1), List.getElem?_replicate, if_pos h1]
      have h2 : n < 16 ^ (15 - i) := Nat.lt_of_lt_of_le hn (Nat.pow_le_pow_right (by omega) (by omega))
      rw [Nat.div_eq_of_lt h2]
      rfl
    · rw [List.getElem?_append_right (by simp; omega), List.length_replicate, hexM_get n m _ (by omega), show m - 1 - (i - (16 - m)) = 15 - i by omega]
  · rw [List.getElem?_eq_none (by rw [hexL_len]; omega), List.getElem?_eq_none (by simp [hexM_len]; omega)]

def TabZ (w : World) : Prop := Lib.TabIs Tryd.prog w "math/bits.deBruijn64tab" .u8 (Lib.deBruijn64tab.map fun (n : Nat) => (n : Int))
theorem TabZ.below {w w' : World} (h : TabZ w) {K : Nat} (hb : Below K w w') (hK : w.heap.size ≤ K) : TabZ w' := by
  unfold TabZ Lib.TabIs World.var? at *
  rw [Option.bind_eq_some_iff] at *
  obtain ⟨g, hg, h1⟩ := h
  refine ⟨g, hg, ?_⟩
  have hlt : g < w.heap.size := by
    rcases Nat.lt_or_ge g w.heap.size with h2 | h2
    · exact h2
    · rw [Array.getElem?_eq_none h2] at h1
      cases h1
  rw [hb.block g (Nat.lt_of_lt_of_le hlt hK)]
  exact h1
theorem TabZ.cell {w : World} (h : TabZ w) : w.cell? ⟨6, 15, none⟩ = some (.int .u8 4) := by
  have h2 := Lib.TabIs.cell (name := "math/bits.deBruijn64tab") (g := 6) h (by kernel_rfl) 15 (by decide)
  exact h2
theorem tz_key : IntKind.u64.wrap (bits BinOp.and IntKind.u64 16 (IntKind.u64.wrap (-16)) * 285870213051353865) / 288230376151711744 = 15 := by decide +kernel
set_option maxRecDepth 8000 in
theorem tz64_16 (w : World) (h : TabZ w) : Calls Tryd.prog 59 #[.int .u64 16] w fun e w' => e = .returned (.int .i64 4) ∧ w = w' := by
  have hc := h.cell
  have key := tz_key
  replace h := Lib.hid h
  go_enter Tryd.func59, Tryd.ntmps59
  go_wp2_with fail
  go_ret
  exact ⟨rfl, rfl⟩
theorem tz_16 (w : World) (h : TabZ w) : Calls Tryd.prog 54 #[.int .u64 16] w fun e w' => e = .returned (.int .i64 4) ∧ w = w' := by
  have C := tz64_16 w h
  replace C := Lib.hid C
  replace h := Lib.hid h
  go_enter Tryd.func54, Tryd.ntmps54
  go_wp2_with fail
  refine C.out.mono ?_
  rintro _ _ ⟨rfl, rfl⟩
  dsimp only []
  go_wp2_with fail
  go_ret
  exact ⟨rfl, rfl⟩
theorem pow2_16 (w : World) : Calls Tryd.prog 53 #[.int .i64 16] w fun e w' => e = .returned (.bool true) ∧ w = w' := by
  have key : bits BinOp.and IntKind.i64 16 15 = 0 := by decide +kernel
  go_enter Tryd.func53, Tryd.ntmps53
  go_wp2_with fail
  go_ret
  exact ⟨rfl, rfl⟩
/-- The library's digits. -/
abbrev digsS : ByteArray := ⟨List.toArray (48 :: 49 :: 50 :: 51 :: 52 :: 53 :: 54 :: 55 :: 56 :: 57 :: 97 :: 98 :: 99 :: 100 :: 101 :: 102 :: 103 :: 104 :: 105 :: 106 :: 107 :: 108 :: 109 :: 110 :: 111 :: 112 :: 113 :: 114 :: 115 :: 116 :: 117 :: 118 :: 119 :: 120 :: 121 :: 122 :: [])⟩
theorem digs_get : ∀ (d : Nat) (h : d < digsS.size), d < 16 → digsS[d].toNat = hexD d := by decide +kernel
theorem digs_run (d : Nat) (h : d < 16) (W : World) : (Instr.index 9 (.string ⟨List.toArray (48 :: 49 :: 50 :: 51 :: 52 :: 53 :: 54 :: 55 :: 56 :: 57 :: 97 :: 98 :: 99 :: 100 :: 101 :: 102 :: 103 :: 104 :: 105 :: 106 :: 107 :: 108 :: 109 :: 110 :: 111 :: 112 :: 113 :: 114 :: 115 :: 116 :: 117 :: 118 :: 119 :: 120 :: 121 :: 122 :: [])⟩) (.int .u64 (d : Int))).run Tryd.prog W = .ok (.int .u8 ((hexD d : Nat) : Int)) W := by
  have h1 := digs_get d (Nat.lt_of_lt_of_le h (by decide)) h
  go_simp
  intro h2
  omega
/-- The array of the call's own, in block B, with the last k digits of n laid at its end. -/
structure Arr (w : World) (B n k : Nat) : Prop where
  any : ∀ j, j < 65 → ∃ z : Int, w.cell? ⟨B, j, none⟩ = some (.int .u8 z)
  free : ∀ j, w.frozen? ⟨B, j, none⟩ = false
  dig : ∀ t, t < k → w.cell? ⟨B, 64 - t, none⟩ = some (.int .u8 ((hexD (n / 16 ^ t % 16) : Nat) : Int))
theorem Arr.step {w : World} {B n k : Nat} (h : Arr w B n k) (hk : k < 65) : Arr (w.setCell ⟨B, 64 - k, none⟩ (.int .u8 ((hexD (n / 16 ^ k % 16) : Nat) : Int))) B n (k + 1) := by
  obtain ⟨z, hz⟩ := h.any (64 - k) (by omega)
  refine ⟨fun j hj => ?_, fun j => ?_, fun t ht => ?_⟩
  · by_cases e : j = 64 - k
    · subst e
      exact ⟨_, World.cell?_setCell_same _ _ _ hz⟩
    · obtain ⟨y, hy⟩ := h.any j hj
      exact ⟨y, by rw [World.cell?_setCell_other _ _ _ _ (by intro e1; injection e1; omega)]; exact hy⟩
  · rw [World.frozen?_setCell]
    exact h.free j
  · by_cases e : t = k
    · subst e
      exact World.cell?_setCell_same _ _ _ hz
    · rw [World.cell?_setCell_other _ _ _ _ (by intro e1; injection e1; omega)]
      exact h.dig t (by omega)
theorem Arr.new (w : World) (n : Nat) : Arr (w.alloc (.cells Tryd.zeroCells82 82)) w.heap.size n 0 := by
  rw [show Tryd.zeroCells82 = Array.replicate 65 (Value.int .u8 0) by kernel_rfl]
  refine ⟨fun j hj => ⟨0, ?_⟩, fun j => World.frozen?_alloc_new _ _ _ _, fun t ht => absurd ht (by omega)⟩
  rw [World.cell?_alloc_new]
  simp [hj]
theorem arr_len : Tryd.prog.arrayLen 82 = 65 := by kernel_rfl
theorem slice_arr (B q m : Nat) (h : q + m = 65) (hm : 0 < m) (W : World) : (Instr.sliceAt 82 (.pointer (some ⟨B, 0, none⟩)) (some (.int .i64 (q : Int))) none none).run Tryd.prog W = .ok (.slice (some ⟨B, q, none⟩) m m) W := by
  rw [run_sliceAt_array_l W 82 ⟨B, 0, none⟩ (by simp [Program.arrayLen, Program.elem, Tryd.underlying82]) .i64 (q : Int) (by omega) (by rw [arr_len]; omega)]
  rw [arr_len]
  go_simp
  exact ⟨fun e => by omega, by omega⟩
theorem conv_arr {W : World} {B n q k : Nat} (h : Arr W B n (k + 1)) (hq : q + k = 64) : (convert 49 9 (.slice (some ⟨B, q, none⟩) (k + 1) (k + 1))).run Tryd.prog W = .ok (.string (strB (hexM n (k + 1)))) W := by
  have e := run_convert_bytes_back (P := Tryd.prog) W 49 9 5 ⟨B, q, none⟩ (k + 1) ((hexM n (k + 1)).map UInt8.ofNat) Tryd.underlying49 Tryd.underlying5 Tryd.underlying9 (fun j hj => by
    have hj2 : j < k + 1 := by simpa [hexM_len] using hj
    have hg := hexM_get n (k + 1) j hj2
    have hd := h.dig (k - j) (by omega)
    rw [show 64 - (k - j) = q + j by omega] at hd
    rw [show (⟨B, q, none⟩ : Addr).add j = ⟨B, q + j, none⟩ by simp [Addr.add], hd, List.getElem_map]
    have hg2 := (List.getElem?_eq_some_iff.1 hg).2
    rw [hg2, show k + 1 - 1 - j = k - j by omega, UInt8.toNat_ofNat', Nat.mod_eq_of_lt (hexD_byte _ (Nat.mod_lt _ (by omega)))])
  rw [List.length_map, hexM_len] at e
  exact e
set_option maxRecDepth 20000 in
set_option maxHeartbeats 1600000 in
theorem fmtBits_any (n : Nat) (hn : n < 18446744073709551616) (w : World) (hT : TabZ w) :
    Calls Tryd.prog 41 #[.slice none 0 0, .int .u64 (n : Int), .int .i64 16, .bool false, .bool false] w fun e w' => (∃ m : Nat, e = .returned (.tuple #[.slice none 0 0, .string (strB (hexM n m))]) ∧ 1 ≤ m ∧ m ≤ 16 ∧ n < 16 ^ m) ∧ Below w.heap.size w w' := by
  have CP := pow2_16
  have CZ : Hid (∀ w', Below w.heap.size w w' → Calls Tryd.prog 54 #[.int .u64 16] w' fun e w1 => e = .returned (.int .i64 4) ∧ w' = w1) := Lib.hid fun w' hb => tz_16 w' (hT.below hb (Nat.le_refl _))
  replace CP := Lib.hid CP
  replace hT := Lib.hid hT
  go_enter Tryd.func41, Tryd.ntmps41
  go_wp2_with (first | (go_at_call 53; refine (CP.out _).mono ?_; rintro _ _ ⟨rfl, rfl⟩) | (go_at_call 54; refine (CZ.out _ (by go_grown)).mono ?_; rintro _ _ ⟨rfl, rfl⟩))
  go_loopw [1, 13] (fun uv iv wr => ∃ k q : Nat, k ≤ 15 ∧ Hid (q + k = 64) ∧ iv = .int .i64 ((q : Int) + 1) ∧ uv = .int .u64 ((n / 16 ^ k : Nat) : Int) ∧ Hid (0 < k → 16 ^ k ≤ n) ∧ Hid (Arr wr w.heap.size n k) ∧ Hid (Below w.heap.size w wr)) (fun _ iv _ => (intOf iv).toNat)
  case atStart => exact ⟨0, 64, by omega, Lib.hid rfl, rfl, by simp, Lib.hid (fun h => absurd h (by omega)), Lib.hid (Arr.new w n), Lib.hid (by go_grown)⟩
  case round =>
    obtain ⟨k, q, hk, HQ, rfl, rfl, HL, HA, HB⟩ := hrel
    have hq := HQ.out
    have eq : 64 - k = q := by omega
    have hq0 : (0 : Int) ≤ (q : Int) := by omega
    have hq1 : (q : Int) < 65 := by omega
    obtain ⟨u, hu⟩ : ∃ u, u = n / 16 ^ k := ⟨_, rfl⟩
    rw [← hu]
    have hu1 : u < 18446744073709551616 := by have := Nat.div_le_self n (16 ^ k); omega
    by_cases hge : 16 ≤ u
    · have hk2 : k < 15 := by
        rcases Nat.lt_or_ge k 15 with h | h
        · exact h
        · have : k = 15 := by omega
          subst this
          omega
      obtain ⟨d, hd⟩ : ∃ d, d = u % 16 := ⟨_, rfl⟩
      have hd16 : d < 16 := by omega
      have fA : bits .and .u64 (u : Int) 15 = (d : Int) := by rw [hd]; exact bits_and15 u hu1
      have hi : ∀ W, (Instr.index 9 (.string ⟨List.toArray (48 :: 49 :: 50 :: 51 :: 52 :: 53 :: 54 :: 55 :: 56 :: 57 :: 97 :: 98 :: 99 :: 100 :: 101 :: 102 :: 103 :: 104 :: 105 :: 106 :: 107 :: 108 :: 109 :: 110 :: 111 :: 112 :: 113 :: 114 :: 115 :: 116 :: 117 :: 118 :: 119 :: 120 :: 121 :: 122 :: [])⟩) (.int .u64 (d : Int))).run Tryd.prog W = .ok (.int .u8 ((hexD d : Nat) : Int)) W := fun W => digs_run d hd16 W
      obtain ⟨z, hz⟩ := HA.out.any q (by omega)
      have hf := HA.out.free q
      have hS := HA.out.step (by omega)
      have hdd : n / 16 ^ k % 16 = d := by rw [← hu, ← hd]
      rw [hdd, eq] at hS
      have HS := Lib.hid hS
      clear hS
      have HL2 : Hid (0 < k + 1 → 16 ^ (k + 1) ≤ n) := Lib.hid fun _ => by
        rw [Nat.pow_succ, Nat.mul_comm]
        rw [hu] at hge
        exact (Nat.le_div_iff_mul_le (Nat.pow_pos (by omega))).1 hge
      have hun : Hid (u / 16 = n / 16 ^ (k + 1)) := Lib.hid (by rw [hu, Nat.div_div_eq_div_mul, Nat.pow_succ])
      have HB2 : Hid (Below w.heap.size w (wr.setCell ⟨w.heap.size, q, none⟩ (.int .u8 ((hexD d : Nat) : Int)))) := Lib.hid (HB.out.setCell (Nat.le_refl _) _)
      replace eq := Lib.hid eq
      replace hq := Lib.hid hq
      replace hu := Lib.hid hu
      replace hd := Lib.hid hd
      replace hdd := Lib.hid hdd
      go_wp2_with fail
      go_roundw
      case rel => exact ⟨k + 1, q - 1, by omega, Lib.hid (by have := HQ.out; omega), by congr 1; have := HQ.out; omega, by rw [← hun.out]; go_num, HL2, HS, HB2⟩
      case measure => simp [intOf]
    · obtain ⟨d, hd⟩ : ∃ d, d = u := ⟨_, rfl⟩
      have hd16 : d < 16 := by omega
      have hi : ∀ W, (Instr.index 9 (.string ⟨List.toArray (48 :: 49 :: 50 :: 51 :: 52 :: 53 :: 54 :: 55 :: 56 :: 57 :: 97 :: 98 :: 99 :: 100 :: 101 :: 102 :: 103 :: 104 :: 105 :: 106 :: 107 :: 108 :: 109 :: 110 :: 111 :: 112 :: 113 :: 114 :: 115 :: 116 :: 117 :: 118 :: 119 :: 120 :: 121 :: 122 :: [])⟩) (.int .u64 (u : Int))).run Tryd.prog W = .ok (.int .u8 ((hexD u : Nat) : Int)) W := fun W => digs_run u (by omega) W
      obtain ⟨z, hz⟩ := HA.out.any q (by omega)
      have hf := HA.out.free q
      have hS := HA.out.step (by omega)
      rw [← hu, Nat.mod_eq_of_lt (by omega), eq] at hS
      have hcv := conv_arr hS hq
      have hsl := slice_arr w.heap.size q (k + 1) (by omega) (by omega)
      have hm : n < 16 ^ (k + 1) := by
        rw [Nat.pow_succ, Nat.mul_comm]
        rw [hu] at hge
        exact (Nat.div_lt_iff_lt_mul (Nat.pow_pos (by omega))).1 (by omega)
      have HB2 : Hid (Below w.heap.size w (wr.setCell ⟨w.heap.size, q, none⟩ (.int .u8 ((hexD u : Nat) : Int)))) := Lib.hid (HB.out.setCell (Nat.le_refl _) _)
      have hu16 : ¬ ((16 : Int) ≤ (u : Int)) := by omega
      replace hS := Lib.hid hS
      replace eq := Lib.hid eq
      replace hq := Lib.hid hq
      replace hu := Lib.hid hu
      replace hd := Lib.hid hd
      replace hm := Lib.hid hm
      go_wp2_with fail
      go_returns
      exact ⟨⟨k + 1, rfl, by omega, by omega, hm.out⟩, HB2.out⟩
set_option maxRecDepth 8000 in
theorem fmtIn_any (n : Nat) (hn : n < 18446744073709551616) (w : World) (hT : TabZ w) :
    Calls Tryd.prog 25 #[.int .u64 (n : Int), .int .i64 16] w fun e w' => (∃ m : Nat, e = .returned (.string (strB (hexM n m))) ∧ 1 ≤ m ∧ m ≤ 16 ∧ n < 16 ^ m) ∧ Below w.heap.size w w' := by
  have C := fmtBits_any n hn w hT
  replace C := Lib.hid C
  replace hT := Lib.hid hT
  go_enter Tryd.func25, Tryd.ntmps25
  go_wp2_with fail
  refine C.out.mono ?_
  rintro _ w1 ⟨⟨m, rfl, m1, m2, m3⟩, hb⟩
  replace hb := Lib.hid hb
  replace m3 := Lib.hid m3
  dsimp only []
  go_wp2_with fail
  go_ret
  exact ⟨⟨m, rfl, m1, m2, m3.out⟩, hb.out⟩
set_option maxRecDepth 8000 in
theorem fmt_any (n : Nat) (hn : n < 18446744073709551616) (w : World) (hT : TabZ w) :
    Calls Tryd.prog 19 #[.int .u64 (n : Int), .int .i64 16] w fun e w' => (∃ m : Nat, e = .returned (.string (strB (hexM n m))) ∧ 1 ≤ m ∧ m ≤ 16 ∧ n < 16 ^ m) ∧ Below w.heap.size w w' := by
  have C := fmtIn_any n hn w hT
  replace C := Lib.hid C
  replace hT := Lib.hid hT
  go_enter Tryd.func19, Tryd.ntmps19
  go_wp2_with fail
  refine C.out.mono ?_
  rintro _ w1 ⟨⟨m, rfl, m1, m2, m3⟩, hb⟩
  replace hb := Lib.hid hb
  replace m3 := Lib.hid m3
  dsimp only []
  go_wp2_with fail
  go_ret
  exact ⟨⟨m, rfl, m1, m2, m3.out⟩, hb.out⟩
end Go.Proofs.YtdojbgfkcleeaaaDoor
