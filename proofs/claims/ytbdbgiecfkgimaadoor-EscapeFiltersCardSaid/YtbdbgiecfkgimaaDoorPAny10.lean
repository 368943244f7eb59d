/-
  Whether a text has one of the signs that no filter's string has: the library's ContainsAny at four signs and any text.
-/
import Derived.Test.YtbdbgiecfkgimaaDoorPFilt10
import Derived.Test.YtbdbgiecfkgimaaDoorPUnescW10
import Derived.Test.YtbdbgiecfkgimaaDoorFDec
import Derived.WalkMore
namespace Go.Proofs.YtbdbgiecfkgimaaDoor
open Go.RowKit

set_option maxRecDepth 100000 in
set_option maxHeartbeats 3200000 in
theorem ixr_bad (t : ByteArray) (ht : ∀ i, (h : i < t.size) → t[i].toNat < 128) (w : World) :
    Calls Tryd.prog 54 #[.string t, .int .i32 65533] w fun e w' => e = .returned (.int .i64 (-1)) ∧ Below w.heap.size w w' := by
  replace ht := Lib.hid ht
  go_enter Tryd.func54, Tryd.ntmps54
  go_wp2_with fail
  go_loopg [5, 6] t.size (fun g _ _ wx => ∃ i : Nat, i + g = t.size ∧ wx = w.iter t i)
  case atStart => exact ⟨0, by omega, rfl⟩
  case round =>
    obtain ⟨i, hig, rfl⟩ := hrel
    cases gk with
    | zero =>
      obtain rfl : i = t.size := by omega
      have hnx := run_next_end (P := Tryd.prog) w t t.size
      go_wp2_with fail
      go_ret
      exact ⟨rfl, (Below.refl w.heap.size w).alloc (Nat.le_refl _) _⟩
    | succ g =>
      have hi : i < t.size := by omega
      have h128 := ht.out i hi
      have hnx := fun ty => run_next_ascii (P := Tryd.prog) w t i ty hi h128
      obtain ⟨a, ha⟩ : ∃ a, t[i].toNat = a := ⟨_, rfl⟩
      rw [ha] at hnx h128
      have g1 : ((a : Int) == 65533) = false := beq_eq_false_iff_ne.2 (by omega)
      have g2 : ¬ (a : Int) = 65533 := by omega
      replace ha := Lib.hid ha
      go_wp2_with fail
      go_roundg g
      case measure => omega
      case rel => exact ⟨i + 1, by omega, rfl⟩
theorem enc_high (r : Nat) (h0 : 128 ≤ r) (h1 : r ≤ 1114111) : ∃ m x, (bs (Utf8.encode (r : Int))).length = m + 1 ∧ 1 ≤ m ∧ m ≤ 3 ∧ (bs (Utf8.encode (r : Int)))[m]? = some x ∧ 128 ≤ x ∧ x < 256 := by
  have hof : ∀ n, n < 256 → (UInt8.ofNat n).toNat = n := fun n h => by rw [UInt8.toNat_ofNat', Nat.mod_eq_of_lt h]
  have c1 : ¬ r < 128 := by omega
  unfold bs
  by_cases c2 : r < 2048
  · have v : Utf8.valid (r : Int) = true := by simp [Utf8.valid]; omega
    refine ⟨1, 128 + r % 64, ?_, by omega, by omega, ?_, by omega, by omega⟩
    · simp [Utf8.encode, v, c1, c2]
    · simp [Utf8.encode, v, c1, c2]
      omega
  · by_cases hb : 55296 ≤ r ∧ r ≤ 57343
    · have v : Utf8.valid (r : Int) = false := by simp [Utf8.valid]; omega
      refine ⟨2, 189, ?_, by omega, by omega, ?_, by omega, by omega⟩
      · simp [Utf8.encode, v, Utf8.runeError]
      · simp [Utf8.encode, v, Utf8.runeError]
    · have v : Utf8.valid (r : Int) = true := by simp [Utf8.valid]; omega
      by_cases c3 : r < 65536
      · refine ⟨2, 128 + r % 64, ?_, by omega, by omega, ?_, by omega, by omega⟩
        · simp [Utf8.encode, v, c1, c2, c3]
        · simp [Utf8.encode, v, c1, c2, c3]
          omega
      · refine ⟨3, 128 + r % 64, ?_, by omega, by omega, ?_, by omega, by omega⟩
        · simp [Utf8.encode, v, c1, c2, c3]
        · simp [Utf8.encode, v, c1, c2, c3]
          omega
theorem ixb_high (T : ByteArray) (b : Nat) (hb : 128 ≤ b) (hb2 : b < 256) (hT : ∀ x ∈ bs T, x < 128) (w : World) :
    Calls Tryd.prog 43 #[.string T, .int .u8 (b : Int)] w fun e w' => e = .returned (.int .i64 (-1)) ∧ w' = w := by
  have C := Tryd.strings_IndexByte T (b : Int) w
  have hx := ixb_bs T b hb2
  have hq : ((b : Int)).toNat = b := by omega
  rw [hq] at C
  have hn : decide (b ∈ bs T) = false := decide_eq_false (fun h => by have := hT b h; omega)
  rw [hn] at hx
  have h1 := of_decide_eq_false hx
  have h2 := Lib.indexByte_ge T.data.toList b.toUInt8
  have h3 : Lib.indexByte T.data.toList b.toUInt8 = -1 := by omega
  rw [h3] at C
  exact C
set_option maxRecDepth 100000 in
set_option maxHeartbeats 3200000 in
theorem ixr_high (t : ByteArray) (ht : ∀ x ∈ bs t, x < 128) (hz : t.size = 4) (r : Nat) (h0 : 128 ≤ r) (h1 : r ≤ 1114111) (h2 : r ≠ 65533) (w : World) :
    Calls Tryd.prog 54 #[.string t, .int .i32 (r : Int)] w fun e w' => e = .returned (.int .i64 (-1)) ∧ Below w.heap.size w w' := by
  have CV := Tryd.utf8_ValidRune (r : Int) w
  have j1 : (0 : Int) ≤ (r : Int) := by omega
  have j2 : ¬ (r : Int) < 128 := by omega
  have j3 : ((r : Int) == 65533) = false := beq_eq_false_iff_ne.2 (by omega)
  have j4 : ¬ (r : Int) = 65533 := by omega
  obtain ⟨v, hv⟩ : ∃ v, Lib.validRune (r : Int) = v := ⟨_, rfl⟩
  rw [hv] at CV
  replace CV := Lib.hid CV
  cases v
  · replace hv := Lib.hid hv
    replace ht := Lib.hid ht
    go_enter Tryd.func54, Tryd.ntmps54
    go_wp2_with fail
    refine CV.out.mono ?_
    rintro _ w2 ⟨rfl, h2⟩
    subst w2
    dsimp only []
    go_wp2_with fail
    go_ret
    exact ⟨rfl, Below.refl _ _⟩
  · replace hv := Lib.hid hv
    obtain ⟨m, b, q1, q2, q3, q4, q5, q6⟩ := enc_high r h0 h1
    obtain ⟨R, hR⟩ : ∃ R, Utf8.encode (r : Int) = R := ⟨_, rfl⟩
    rw [hR] at q1 q4
    rw [bs_len] at q1
    have hm : m < R.size := by omega
    have q7 := bs_atE R m hm
    rw [q4] at q7
    injection q7 with q7
    have hbi : ((R[m].toNat : Nat) : Int) = (b : Int) := by rw [q7]
    have hmt : m < t.size := by omega
    have q8 := ht _ (List.mem_of_getElem? (bs_atE t m hmt))
    obtain ⟨a, ha⟩ : ∃ a, t[m].toNat = a := ⟨_, rfl⟩
    have hai : ((t[m].toNat : Nat) : Int) = (a : Int) := by rw [ha]
    rw [ha] at q8
    have k1 : ((a : Int) == (b : Int)) = false := beq_eq_false_iff_ne.2 (by omega)
    have k9 : Hid (((a : Int) != (b : Int)) = true) := Lib.hid (by rw [bne, k1]; rfl)
    replace k1 := Lib.hid k1
    obtain ⟨T, hT⟩ : ∃ T, t.extract (m + 1) t.size = T := ⟨_, rfl⟩
    have hTb : ∀ x ∈ bs T, x < 128 := fun x hx => by
      rw [← hT, bs_extract] at hx
      exact ht x (List.mem_of_mem_take (List.mem_of_mem_drop hx))
    have CI := Lib.hid fun W => ixb_high T b q5 q6 hTb W
    have k3 : (R.size : Int) - 1 = (m : Int) := by omega
    have k4 : (0 : Int) ≤ (m : Int) := by omega
    have k5 : (m : Int) < (R.size : Int) := by omega
    have k6 : (m : Int) < (t.size : Int) := by omega
    have k7 : (m : Int) + 1 ≤ (t.size : Int) := by omega
    have k10 : (0 : Int) ≤ (m : Int) + 1 := by omega
    have k11 : IntKind.i64.wrap ((m : Int) + 1) = (m : Int) + 1 := IntWalk.i64_in _ (by omega)
    replace ht := Lib.hid ht
    replace hTb := Lib.hid hTb
    replace q4 := Lib.hid q4
    replace q7 := Lib.hid q7
    replace ha := Lib.hid ha
    replace hz := Lib.hid hz
    replace q1 := Lib.hid q1
    go_enter Tryd.func54, Tryd.ntmps54
    go_wp2_with fail
    refine CV.out.mono ?_
    rintro _ w2 ⟨rfl, h2⟩
    subst w2
    dsimp only []
    go_wp2_with fail
    go_step3
    go_wp2_with fail
    go_loop [9] (fun i => i = .int .i64 (m : Int)) (fun _ => 0)
    case atStart => rfl
    case round =>
      subst hrel
      go_wp2_with fail
      go_step3
      go_wp2_with fail
      go_quiet (fail)
      rw [k9.out]
      generalize hW2 : w.drewN _ = W2
      have hB2 : Hid (Below w.heap.size w W2) := Lib.hid (by rw [← hW2]; exact below_drewE (Below.refl _ _) _)
      replace hW2 := Lib.hid hW2
      go_wp2_with fail
      go_quiet ((go_at_call 43; exact Calls.quiet_of_same (CI.out _)))
      generalize hW3 : W2.drewN _ = W3
      have hB3 : Hid (Below w.heap.size w W3) := Lib.hid (by rw [← hW3]; exact below_drewE hB2.out _)
      replace hW3 := Lib.hid hW3
      go_wp2_with fail
      rw [Exit.noGoto_ret]
      go_wp2_with fail
      rw [Exit.noGoto_ret]
      go_wp2_with fail
      go_ret
      exact ⟨rfl, hB3.out⟩
theorem enc_all {c : Nat} (h : uOk c) (h1 : 128 ≤ c) : ∀ x ∈ uEnc c, 128 ≤ x := by
  intro x hx
  unfold uOk at h
  unfold uEnc at hx
  rw [if_neg (by omega)] at hx
  split at hx
  · simp only [List.mem_cons, List.not_mem_nil, or_false] at hx
    omega
  · split at hx
    · simp only [List.mem_cons, List.not_mem_nil, or_false] at hx
      omega
    · simp only [List.mem_cons, List.not_mem_nil, or_false] at hx
      omega
theorem dec_high (s : ByteArray) (pos : Nat) (h : pos < s.size) (ha : 128 ≤ s[pos].toNat) : ∃ r n, Utf8.decode s pos = (r, n) ∧ 128 ≤ r ∧ r ≤ 1114111 ∧ 1 ≤ n ∧ pos + n ≤ s.size ∧ ∀ x ∈ ((bs s).drop pos).take n, 128 ≤ x := by
  have hd := bs_drop1E s pos h
  have hlen : ((bs s).drop pos).length = s.size - pos := by rw [List.length_drop, bs_len]
  rw [decode_u s pos h]
  by_cases h0 : (uNext ((bs s).drop pos)).2 = 0
  · rw [if_pos h0]
    refine ⟨65533, 1, rfl, by omega, by omega, by omega, by omega, fun x hx => ?_⟩
    rw [hd] at hx
    have hx : x ∈ [s[pos].toNat] := hx
    rw [List.mem_singleton.1 hx]
    exact ha
  · rw [if_neg h0]
    obtain ⟨k1, k2, k3⟩ := uNext_ok _ h0
    have hle := uNext_le ((bs s).drop pos)
    obtain ⟨⟨c, n⟩, hu⟩ : ∃ q, uNext ((bs s).drop pos) = q := ⟨_, rfl⟩
    rw [hu] at k1 k2 k3 hle ⊢
    have k1 : uOk c := k1
    have k2 : (bs s).drop pos = uEnc c ++ ((bs s).drop pos).drop n := k2
    have k3 : n = (uEnc c).length := k3
    have hle : n ≤ ((bs s).drop pos).length := hle
    have hpos := uEnc_pos c
    have hc : 128 ≤ c := by
      rcases Nat.lt_or_ge c 128 with hlt | hge
      · exfalso
        have e : uEnc c = [c] := by unfold uEnc; rw [if_pos hlt]
        rw [e, hd] at k2
        injection k2 with k4 _
        omega
      · exact hge
    refine ⟨c, n, rfl, hc, k1.1, by omega, by omega, fun x hx => ?_⟩
    have e : ((bs s).drop pos).take n = uEnc c := by
      rw [k2, k3, List.take_append_of_le_length (Nat.le_refl _), List.take_of_length_le (Nat.le_refl _)]
    rw [e] at hx
    exact enc_all k1 hc x hx
/-- Has s one of the signs t? -/
def anyS (s t : ByteArray) : Bool := (bs s).any fun x => decide (x ∈ bs t)
theorem anyS_hit {s t : ByteArray} {pos : Nat} (h : pos < s.size) (hm : s[pos].toNat ∈ bs t) : anyS s t = true := by
  unfold anyS
  rw [List.any_eq_true]
  exact ⟨_, List.mem_of_getElem? (bs_atE s pos h), by simpa using hm⟩
theorem anyS_none {s t : ByteArray} (h : ∀ x ∈ (bs s).take s.size, x ∉ bs t) : anyS s t = false := by
  rw [bs_endE] at h
  unfold anyS
  rw [List.any_eq_false]
  intro x hx
  simpa using h x hx
theorem take_more {l : List Nat} {pos n : Nat} {x : Nat} (h : x ∈ l.take (pos + n)) : x ∈ l.take pos ∨ x ∈ (l.drop pos).take n := by
  rw [List.take_add] at h
  exact List.mem_append.1 h
set_option maxRecDepth 100000 in
set_option maxHeartbeats 3200000 in
theorem ixa_short (s t : ByteArray) (ht : ∀ x ∈ bs t, x < 128) (hz : t.size = 4) (h8 : s.size ≤ 8) (w : World) :
    Calls Tryd.prog 37 #[.string s, .string t] w fun e w' => ∃ z : Int, e = .returned (.int .i64 z) ∧ decide (0 ≤ z) = anyS s t ∧ Below w.heap.size w w' := by
  have f1 := str_ne (s := t) (by omega)
  have f2 : t.toList.isEmpty = false := by simpa using f1
  have n1 : ¬ (t.size : Int) = 1 := by omega
  have n2 : ((t.size : Int) == 1) = false := beq_eq_false_iff_ne.2 n1
  have CS := Lib.hid (Tryd.strings_shouldUseASCIISet (s.size : Int) w)
  have e8 : decide ((8 : Int) < (s.size : Int)) = false := decide_eq_false (by omega)
  rw [e8] at CS
  have CI : Hid (∀ (r : Nat) (W : World), 128 ≤ r → r ≤ 1114111 → Calls Tryd.prog 54 #[.string t, .int .i32 (r : Int)] W fun e w' => e = .returned (.int .i64 (-1)) ∧ Below W.heap.size W w') := Lib.hid fun r W h1 h2 => by
    by_cases e : r = 65533
    · subst e
      refine ixr_bad t (fun i hi => ?_) W
      exact ht _ (List.mem_of_getElem? (bs_atE t i hi))
    · exact ixr_high t ht hz r h1 h2 e W
  have CA : Hid (∀ (a : Nat) (W : World), a < 128 → Calls Tryd.prog 54 #[.string t, .int .i32 (a : Int)] W fun e w' => ∃ z : Int, e = .returned (.int .i64 z) ∧ decide (0 ≤ z) = decide (a ∈ bs t) ∧ w' = W) := Lib.hid fun a W h1 => by
    refine (Tryd.strings_IndexRune_ascii t (a : Int) W (by omega) (by omega)).mono ?_
    rintro _ w' ⟨rfl, h2⟩
    exact ⟨_, rfl, ixb_bs t a (by omega), h2⟩
  replace ht := Lib.hid ht
  replace hz := Lib.hid hz
  clear e8
  go_enter Tryd.func37, Tryd.ntmps37
  go_wp2_with fail
  refine CS.out.mono ?_
  rintro _ w2 ⟨rfl, h2⟩
  subst w2
  dsimp only []
  go_wp2_with fail
  go_loopg [9, 10] s.size (fun g _ _ wx => ∃ pos : Nat, pos ≤ s.size ∧ g = s.size - pos ∧ Hid (wx.heap[w.heap.size]? = some (.stringIter s pos)) ∧ Hid (Below w.heap.size w wx) ∧ Hid (∀ x ∈ (bs s).take pos, x ∉ bs t))
  case atStart => exact ⟨0, Nat.zero_le _, rfl, Lib.hid (World.iter_heap w s 0), Lib.hid ((Below.refl _ _).alloc (Nat.le_refl _) _), Lib.hid (fun x hx => absurd hx (by simp))⟩
  case round =>
    obtain ⟨pos, hpos, hg, HT, HB, HN⟩ := hrel
    have hsz : w.heap.size < wr.heap.size := (Array.getElem?_eq_some_iff.1 HT.out).1
    by_cases hp : pos < s.size
    · by_cases ha : s[pos].toNat < 128
      · have hnx := fun ty => Lib.run_next_ascii_at (P := Tryd.prog) wr w.heap.size s pos ty HT.out hp ha
        have hsn := bs_snocE s pos hp
        obtain ⟨a, hae⟩ : ∃ a, s[pos].toNat = a := ⟨_, rfl⟩
        rw [hae] at hnx ha hsn
        obtain ⟨W, hW⟩ : ∃ W, wr.iterAt w.heap.size s (pos + 1) = W := ⟨_, rfl⟩
        have hit2 := Lib.iterAt_heap wr w.heap.size s pos (pos + 1) HT.out
        have hbw2 := Lib.below_iterAt HB.out (k := w.heap.size) (Nat.le_refl _) s (pos + 1)
        rw [hW] at hnx hit2 hbw2
        have HT2 := Lib.hid hit2
        have HB2 := Lib.hid hbw2
        replace hW := Lib.hid hW
        clear hit2 hbw2
        have C := Lib.hid (CA.out a W ha)
        by_cases hin : a ∈ bs t
        · have hfin := anyS_hit hp (by rw [hae]; exact hin)
          replace hin := Lib.hid hin
          replace hsn := Lib.hid hsn
          replace hae := Lib.hid hae
          replace hfin := Lib.hid hfin
          go_wp2_with fail
          refine C.out.mono ?_
          rintro _ w2 ⟨z, rfl, hz2, h2⟩
          subst w2
          rw [decide_eq_true hin.out] at hz2
          have hz3 : (0 : Int) ≤ z := of_decide_eq_true hz2
          dsimp only []
          go_wp2_with fail
          go_ret
          exact ⟨_, rfl, by rw [hfin.out]; exact decide_eq_true (by omega), HB2.out⟩
        · have HN2 : Hid (∀ x ∈ (bs s).take (pos + 1), x ∉ bs t) := Lib.hid fun x hx => by
            rw [hsn] at hx
            rcases List.mem_append.1 hx with h | h
            · exact HN.out x h
            · rw [List.mem_singleton.1 h]
              exact hin
          replace hsn := Lib.hid hsn
          replace hin := Lib.hid hin
          replace hae := Lib.hid hae
          go_wp2_with fail
          refine C.out.mono ?_
          rintro _ w2 ⟨z, rfl, hz2, h2⟩
          subst w2
          rw [decide_eq_false hin.out] at hz2
          have hz3 : ¬ (0 : Int) ≤ z := of_decide_eq_false hz2
          dsimp only []
          go_wp2_with fail
          go_roundg (s.size - (pos + 1))
          case measure => omega
          case rel => exact ⟨pos + 1, by omega, rfl, HT2, HB2, HN2⟩
      · obtain ⟨r, n, hd, r1, r2, r3, r4, r5⟩ := dec_high s pos hp (by omega)
        have hnx : ∀ ty, (Instr.next (.pointer (some ⟨w.heap.size, 0, none⟩)) true ty).run Tryd.prog wr = _ := fun ty => Lib.run_next_any_at wr w.heap.size s pos ty HT.out hp
        rw [hd] at hnx
        dsimp only [] at hnx
        obtain ⟨W, hW⟩ : ∃ W, wr.iterAt w.heap.size s (pos + n) = W := ⟨_, rfl⟩
        have hit2 := Lib.iterAt_heap wr w.heap.size s pos (pos + n) HT.out
        have hbw2 := Lib.below_iterAt HB.out (k := w.heap.size) (Nat.le_refl _) s (pos + n)
        rw [hW] at hnx hit2 hbw2
        have HT2 := Lib.hid hit2
        have HB2 := Lib.hid hbw2
        replace hW := Lib.hid hW
        clear hit2 hbw2
        have C := Lib.hid (CI.out r W r1 r2)
        have HN2 : Hid (∀ x ∈ (bs s).take (pos + n), x ∉ bs t) := Lib.hid fun x hx => by
          rcases take_more hx with h | h
          · exact HN.out x h
          · have h1 := r5 x h
            exact fun h2 => by
              have := ht.out x h2
              omega
        replace r5 := Lib.hid r5
        replace hd := Lib.hid hd
        replace ha := Lib.hid ha
        go_wp2_with fail
        refine C.out.mono ?_
        rintro _ w2 ⟨rfl, h2⟩
        have hlt : w.heap.size < W.heap.size := (Array.getElem?_eq_some_iff.1 HT2.out).1
        have HT3 : Hid (w2.heap[w.heap.size]? = some (.stringIter s (pos + n))) := Lib.hid (by rw [h2.block _ hlt]; exact HT2.out)
        have HB3 := Lib.hid (HB2.out.trans (h2.mono (Nat.le_of_lt hlt)))
        clear h2
        dsimp only []
        go_wp2_with fail
        go_roundg (s.size - (pos + n))
        case measure => omega
        case rel => exact ⟨pos + n, by omega, rfl, HT3, HB3, HN2⟩
    · obtain rfl : pos = s.size := by omega
      have hnx := fun ty => Lib.run_next_end_at (P := Tryd.prog) wr w.heap.size s s.size ty HT.out hp
      have hfin := anyS_none HN.out
      replace hfin := Lib.hid hfin
      go_wp2_with fail
      go_ret
      exact ⟨_, rfl, by rw [hfin.out]; rfl, HB.out⟩
theorem ixa_pure (t : List UInt8) : ∀ s : List UInt8, decide (0 ≤ Lib.indexAny s t) = s.any fun x => decide (x ∈ t)
  | [] => rfl
  | c :: l => by
    have ih := ixa_pure t l
    have hge := Lib.indexAny_ge t l
    have e : Lib.indexAny (c :: l) t = if t.contains c = true then 0 else if (Lib.indexAny l t == -1) = true then -1 else Lib.indexAny l t + 1 := by rw [Lib.indexAny]
    rw [List.any_cons, ← ih, e]
    by_cases hc : c ∈ t
    · rw [if_pos (by simpa using hc), decide_eq_true hc]
      rfl
    · rw [if_neg (by simpa using hc), decide_eq_false hc, Bool.false_or]
      refine Bool.eq_iff_iff.2 ?_
      simp only [decide_eq_true_iff]
      split
      · rename_i h
        have := beq_iff_eq.1 h
        omega
      · rename_i h
        have : ¬ Lib.indexAny l t = -1 := fun e => h (beq_iff_eq.2 e)
        omega
theorem ixa_anyS (s t : ByteArray) : decide (0 ≤ Lib.indexAny s.data.toList t.data.toList) = anyS s t := by
  rw [ixa_pure]
  unfold anyS bs
  rw [List.any_map]
  congr 1
  funext x
  refine Bool.eq_iff_iff.2 ?_
  rw [decide_eq_true_iff]
  show _ ↔ decide (x.toNat ∈ t.data.toList.map UInt8.toNat) = true
  rw [decide_eq_true_iff, List.mem_map]
  exact ⟨fun h => ⟨x, h, rfl⟩, fun ⟨y, hy, he⟩ => by rw [← UInt8.toNat_inj.1 he]; exact hy⟩
theorem set_zero : (Tryd.prog.info? 65).map (fun i => (i.zero, i.size)) = some (some (.agg (Array.replicate 256 (.bool false))), 256) := by kernel_rfl
theorem ixa_any (s t : ByteArray) (ht : ∀ x ∈ bs t, x < 128) (hz : t.size = 4) (hs : s.size ≤ 2000) (w : World) :
    Calls Tryd.prog 37 #[.string s, .string t] w fun e w' => ∃ z : Int, e = .returned (.int .i64 z) ∧ decide (0 ≤ z) = anyS s t ∧ Below w.heap.size w w' := by
  by_cases h8 : s.size ≤ 8
  · exact ixa_short s t ht hz h8 w
  · refine (Tryd.strings_IndexAny_long (zero_of_info set_zero).1 s t w (by omega) (by omega) (by omega) (by omega) (fun j b hb => ?_)).mono ?_
    · refine ht b.toNat ?_
      unfold bs
      exact List.mem_map.2 ⟨b, List.mem_of_getElem? hb, rfl⟩
    · rintro _ w' ⟨rfl, rfl⟩
      exact ⟨_, rfl, ixa_anyS s t, ((Below.refl _ _).alloc (Nat.le_refl _) _).alloc (by simp) _⟩
set_option maxHeartbeats 1600000 in
theorem contains_any (s t : ByteArray) (ht : ∀ x ∈ bs t, x < 128) (hz : t.size = 4) (hs : s.size ≤ 2000) (w : World) :
    Calls Tryd.prog 16 #[.string s, .string t] w fun e w' => e = .returned (.bool (anyS s t)) ∧ Below w.heap.size w w' := by
  have C := Lib.hid (ixa_any s t ht hz hs w)
  replace ht := Lib.hid ht
  go_enter Tryd.func16, Tryd.ntmps16
  go_wp2_with fail
  refine C.out.mono ?_
  rintro _ w2 ⟨z, rfl, hz2, h2⟩
  replace hz2 := Lib.hid hz2
  replace h2 := Lib.hid h2
  dsimp only []
  go_wp2_with fail
  go_ret
  exact ⟨by rw [← hz2.out]; rfl, h2.out⟩
set_option maxHeartbeats 1600000 in
theorem punfilter_any (s : ByteArray) (w : World) (hs : s.size ≤ 2000) :
    Calls Tryd.prog 7 #[.string s] w fun e w' => e = .returned (unV (unfE (bs s))) ∧ Below w.heap.size w w' := by
  have hb : bs ⟨#[42, 40, 41, 0]⟩ = [42, 40, 41, 0] := rfl
  have CC := contains_any s ⟨#[42, 40, 41, 0]⟩ (by rw [hb]; decide) rfl hs w
  have hany : anyS s ⟨#[42, 40, 41, 0]⟩ = (bs s).any sgE := by
    unfold anyS
    rw [hb]
    congr 1
    funext x
    unfold sgE
    refine Bool.eq_iff_iff.2 ?_
    simp
  rw [hany] at CC
  have hself : (fun a => decide (a ∈ bs ⟨#[]⟩)) = fun _ => false := by
    funext a
    have : bs ⟨#[]⟩ = [] := rfl
    rw [this]
    simp
  have CU := fun W => punescape_any s ⟨#[]⟩ W hs
  rw [hself] at CU
  rw [unf_two _ _ (Nat.le_refl _)]
  clear hany hb hself
  cases ha : (bs s).any sgE
  · rw [ha] at CC
    rw [if_neg (by decide)]
    obtain ⟨y, q, hv⟩ := unV_form (unescD (fun _ => false) (bs s))
    rw [hv] at CU ⊢
    replace CC := Lib.hid CC
    replace CU := Lib.hid CU
    replace ha := Lib.hid ha
    replace hv := Lib.hid hv
    go_enter Tryd.func7, Tryd.ntmps7
    go_wp2_with fail
    refine CC.out.mono ?_
    rintro _ w2 ⟨rfl, h2⟩
    replace h2 := Lib.hid h2
    dsimp only []
    go_wp2_with fail
    refine (CU.out w2).mono ?_
    rintro _ w3 ⟨rfl, h3⟩
    replace h3 := Lib.hid (h2.out.trans (h3.mono h2.out.size))
    dsimp only []
    go_wp2_with fail
    go_ret2
    exact ⟨rfl, h3.out⟩
  · rw [ha] at CC
    rw [if_pos rfl]
    replace CC := Lib.hid CC
    replace ha := Lib.hid ha
    clear CU
    go_enter Tryd.func7, Tryd.ntmps7
    go_wp2_with fail
    refine CC.out.mono ?_
    rintro _ w2 ⟨rfl, h2⟩
    replace h2 := Lib.hid h2
    dsimp only []
    go_wp2_with fail
    go_ret2
    exact ⟨rfl, h2.out⟩
end Go.Proofs.YtbdbgiecfkgimaaDoor
