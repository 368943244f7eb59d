/-
  The walk of BerDeep.
-/
import Derived.Test.YtgdoepkoakpnbaaDeepDat
import Derived.Test.YtgdoepkoakpnbaaStr
namespace Go.Proofs.Ytgdoepkoakpnbaa
open Go.RowKit

theorem and6 (n : Int) : bits .and .i64 n 63 = n % 64 := by
  show IntKind.i64.wrap ((BitVec.ofInt 64 n &&& BitVec.ofInt 64 63).toNat : Int) = _
  have e : (BitVec.ofInt 64 63).toNat = 2 ^ 6 - 1 := by decide
  have e2 : ((BitVec.ofInt 64 n).toNat : Int) = n % 18446744073709551616 := by
    rw [BitVec.toNat_ofInt]
    omega
  rw [BitVec.toNat_and, e, Nat.and_two_pow_sub_one_eq_mod]
  rw [IntWalk.i64_in _ (by omega)]
  omega

/-- What holds at the head of each round: z: where the element lies. -/
structure DpRel (w wr : World) (k : Nat) (Ak : Option Addr) (K ck : Nat) (A : Option Addr) (y c : Nat) : Prop where
  below : Below w.heap.size w wr
  size : w.heap.size < wr.heap.size
  var : wr.heap[w.heap.size]? = some (.cells #[.int .i64 0, .bool (dE k).m, .int .i64 (dE k).n, .slice none 0 0, .slice Ak K ck] 27 (0, 0))
  kids : K = (dE k).kids.length
  el : ElIn wr (fun b => w.heap.size < b ∧ Cl wr b) (dE k) none 0 Ak ck
  src : Src wr wr.heap.size A c (dE k).enc
  far : ∀ ad, A = some ad → w.heap.size < ad.block
  len : y = (dE k).enc.length
  cap : c ≤ 9223372036854775807
theorem dE_c : ∀ k, (dE k).c = 0
  | 0 => rfl
  | _ + 1 => rfl
theorem dE_b : ∀ k, (dE k).b = []
  | 0 => rfl
  | _ + 1 => rfl

theorem dp_step {w wr w5 : World} {k : Nat} {Ak : Option Addr} {K ck : Nat} {A : Option Addr} {y c : Nat} {A5 : Option Addr} {Y c5 base : Nat} (HR : DpRel w wr k Ak K ck A y c) (hz : w5.heap[w.heap.size]? = some (.cells #[.int .i64 0, .bool true, .int .i64 16, .slice none 0 0, .slice (some ⟨wr.heap.size, 0, none⟩) 1 1] 27 (0, 0)))
    (hX : w5.heap[wr.heap.size]? = some (.cells #[.int .i64 0, .bool (dE k).m, .int .i64 (dE k).n, .slice none 0 0, .slice Ak K ck] 27 (0, 0))) (hkeep : ∀ b, w.heap.size < b → b < wr.heap.size → w5.heap[b]? = wr.heap[b]?) (hB : Below w.heap.size w w5)
    (hown : Own w5 base (.slice A5 Y c5) (dE (k + 1)).enc) (hbase : w.heap.size < base) (hY : Y = (dE (k + 1)).enc.length) : DpRel w w5 (k + 1) (some ⟨wr.heap.size, 0, none⟩) 1 1 A5 Y c5 := by
  have hsz := HR.size
  have hin : ElIn w5 (fun b => w.heap.size < b ∧ Cl w5 b) (dE k) none 0 Ak ck :=
    (HR.el.keep fun p hp => World.cell?_of_block (hkeep _ hp.1 hp.2.lt)).more fun b hb => ⟨hb.1, hb.2.of (hkeep b hb.1 hb.2.lt)⟩
  refine ⟨hB, (Array.getElem?_eq_some_iff.1 hz).1, hz, by rw [dE_kids]; rfl, ⟨⟨Nat.le_refl _, fun _ => rfl, fun _ e => by cases e⟩, ?_⟩, hown.src, fun ad e => ?_, hY, hown.cap⟩
  · have hof : (dE (k + 1)).k = Fo.of [dE k] := rfl
    rw [hof]
    refine ⟨by rw [Fo.list_of]; exact Nat.le_refl _, by omega, (by simp), fun ad e _ => ?_⟩
    injection e with e
    subst e
    refine ⟨rfl, ⟨hsz, ⟨_, _, hX⟩⟩, foAt_ofR [dE k] wr.heap.size 0 fun i hi => ?_⟩
    have hi0 : i = 0 := by simpa using hi
    subst hi0
    refine ⟨none, 0, Ak, ck, ⟨?_, ?_, ?_, ?_, ?_⟩, hin⟩
    · rw [cell_of_row _ _ _ _ _ _ hX]; simp [dE_c]
    · rw [cell_of_row _ _ _ _ _ _ hX]; rfl
    · rw [cell_of_row _ _ _ _ _ _ hX]; rfl
    · rw [cell_of_row _ _ _ _ _ _ hX]; simp [dE_b]
    · rw [cell_of_row _ _ _ _ _ _ hX, HR.kids]; rfl
  · have := (hown.lt ad.block (by rw [e]; rfl)).1
    omega

set_option maxRecDepth 8000 in
set_option maxHeartbeats 1600000 in
theorem deep_walk (n : Int) (N : Nat) (w : World) (hN : n % 64 + 1 = (N : Int)) :
    Calls Try.prog 7 #[.int .i64 n] w fun e w' => e = .returned (.bool true) ∧ Below w.heap.size w w' := by
  have hand : bits .and .i64 n 63 = (N : Int) - 1 := by rw [and6]; omega
  have hN1 : 1 ≤ N := by omega
  have hN2 : N ≤ 64 := by omega
  have hnat : 1 + ((N : Int) - 1) = (N : Int) := by omega
  have h0 : Hid (∀ W0, W0 = (w.alloc (.cells #[.int .i64 0, .bool false, .int .i64 4, .slice none 0 0, .slice none 0 0] 27)).alloc (.cells #[.int .u8 4, .int .u8 0] 5) → DpRel w W0 0 none 0 0 (some ⟨w.heap.size + 1, 0, none⟩) 2 2) := Lib.hid fun W0 h => by
    have hb : W0.heap[w.heap.size + 1]? = some (.cells #[.int .u8 4, .int .u8 0] 5 (0, 0)) := by
      rw [h]; exact heap_alloc_new (w.alloc _) _ |> (by simpa using ·)
    have hsz : W0.heap.size = w.heap.size + 2 := by rw [h]; simp
    refine ⟨by rw [h]; go_grown, by omega, ?_, rfl, ⟨⟨Nat.le_refl _, fun _ => rfl, fun _ e => by cases e⟩, SlI.nil0 _ _⟩, ⟨Nat.le_refl _, (fun e => by cases e), fun ad e => ?_⟩, (fun ad e => by injection e with e; subst e; show w.heap.size < w.heap.size + 1; omega), rfl, by omega⟩
    · rw [h, Below.heap_alloc _ _ _ (by simp)]
      exact heap_alloc_new w _
    · injection e with e
      subst e
      refine ⟨fun _ => by show w.heap.size + 1 < _; omega, fun j n hj => ?_⟩
      rw [add_plain2, cell_of_row _ _ _ _ _ _ hb]
      rcases j with _ | _ | j
      · have : n = 4 := by
          have : some 4 = some n := hj
          injection this with this
          exact this.symm
        subst this
        rfl
      · have : n = 0 := by
          have : some 0 = some n := hj
          injection this with this
          exact this.symm
        subst this
        rfl
      · exact absurd hj (by simp [show (dE 0).enc = [4, 0] from rfl])
  clear hN
  go_enter Try.func7, Try.ntmps7
  go_wp2_with fail
  go_loopw [4, 5] (fun v i wr => ∃ (j k : Nat) (Ak : Option Addr) (K ck : Nat) (A : Option Addr) (y c : Nat), Hid (j = k + 1) ∧ j ≤ N ∧ i = .int .i64 (j : Int) ∧ v = .slice A y c ∧ Hid (DpRel w wr k Ak K ck A y c)) (fun _ i _ => N - (intOf i).toNat)
  case atStart => exact ⟨1, 0, none, 0, 0, some ⟨w.heap.size + 1, 0, none⟩, 2, 2, Lib.hid rfl, hN1, rfl, rfl, Lib.hid (h0.out _ rfl)⟩
  case round =>
    obtain ⟨j, k, Ak, K, ck, A, y, c, hjk, hjN, rfl, rfl, HR⟩ := hrel
    clear h0
    have hk1000 : k ≤ 1000 := by have := hjk.out; omega
    have hylen : y ≤ 2 + 6 * k := by rw [HR.out.len]; exact dE_len k hk1000
    have hk64 : k ≤ 64 := by have := hjk.out; omega
    have hsz := HR.out.size
    have hO := HR.out.var
    obtain ⟨o0, o1, o2, o3, o4, f0, f1, f2, f3, f4⟩ := cells5 hO
    by_cases hlt : j < N
    · have CP := fun (w' : World) (b : Nat) (hb : w'.heap[b]? = some (.cells #[.int .u8 48] 5 (0, 0))) => putLen_out (some ⟨b, 0, none⟩) 1 [48] (y : Int) w' ⟨Nat.le_refl _, (fun e => by cases e), fun ad e => by
        injection e with e
        subst e
        refine ⟨fun _ => (Array.getElem?_eq_some_iff.1 hb).1, fun j n hj => ?_⟩
        rw [add_plain2, cell_of_row _ _ _ _ _ _ hb]
        rcases j with _ | j
        · have : n = 48 := by
            have : some 48 = some n := hj
            injection this with this
            exact this.symm
          subst this
          rfl
        · exact absurd hj (by simp)⟩ (by simp) (by omega)
      obtain ⟨U, hU⟩ : ∃ U, U = ([48] ++ lenB (y : Int)).length := ⟨_, rfl⟩
      have hUle : U ≤ 6 := by
        have := lenB_short (y : Int) (by omega)
        rw [hU, List.length_append, List.length_singleton]
        omega
      rw [← hU] at CP
      replace CP := Lib.hid CP
      replace hU := Lib.hid hU
      replace hO := Lib.hid hO
      go_wp2_with fail
      obtain ⟨W3, hW3⟩ : ∃ W3, W3 = ((set5 wr w.heap.size (.int .i64 0) (.bool true) (.int .i64 16) (.slice none 0 0) (.slice (some ⟨wr.heap.size, 0, none⟩) 1 1)).alloc (.cells #[.int .i64 0, .bool (dE k).m, .int .i64 (dE k).n, .slice none 0 0, .slice Ak K ck] 27)).alloc (.cells #[.int .u8 48] 5) := ⟨_, rfl⟩
      have hs3 : W3.heap.size = wr.heap.size + 2 := by rw [hW3]; simp [set5_size]
      have hz3 : W3.heap[w.heap.size]? = some (.cells #[.int .i64 0, .bool true, .int .i64 16, .slice none 0 0, .slice (some ⟨wr.heap.size, 0, none⟩) 1 1] 27 (0, 0)) := by
        rw [hW3, Below.heap_alloc _ _ _ (by simp [set5_size]; omega), Below.heap_alloc _ _ _ (by rw [set5_size]; omega)]
        exact set5_same hO.out _ _ _ _ _
      have hX3 : W3.heap[wr.heap.size]? = some (.cells #[.int .i64 0, .bool (dE k).m, .int .i64 (dE k).n, .slice none 0 0, .slice Ak K ck] 27 (0, 0)) := by
        rw [hW3, Below.heap_alloc _ _ _ (by simp [set5_size])]
        have := heap_alloc_new (set5 wr w.heap.size (.int .i64 0) (.bool true) (.int .i64 16) (.slice none 0 0) (.slice (some ⟨wr.heap.size, 0, none⟩) 1 1)) (.cells #[.int .i64 0, .bool (dE k).m, .int .i64 (dE k).n, .slice none 0 0, .slice Ak K ck] 27)
        rwa [set5_size] at this
      have h48 : W3.heap[wr.heap.size + 1]? = some (.cells #[.int .u8 48] 5 (0, 0)) := by
        rw [hW3]
        have := heap_alloc_new ((set5 wr w.heap.size (.int .i64 0) (.bool true) (.int .i64 16) (.slice none 0 0) (.slice (some ⟨wr.heap.size, 0, none⟩) 1 1)).alloc (.cells #[.int .i64 0, .bool (dE k).m, .int .i64 (dE k).n, .slice none 0 0, .slice Ak K ck] 27)) (.cells #[.int .u8 48] 5)
        simpa [set5_size] using this
      have hk3 : ∀ b, w.heap.size < b → b < wr.heap.size → W3.heap[b]? = wr.heap[b]? := fun b h1 h2 => by
        rw [hW3, Below.heap_alloc _ _ _ (by simp [set5_size]; omega), Below.heap_alloc _ _ _ (by rw [set5_size]; omega)]
        unfold set5
        rw [Below.heap_setCell _ _ _ _ (by show b ≠ w.heap.size; omega), Below.heap_setCell _ _ _ _ (by show b ≠ w.heap.size; omega), Below.heap_setCell _ _ _ _ (by show b ≠ w.heap.size; omega), Below.heap_setCell _ _ _ _ (by show b ≠ w.heap.size; omega), Below.heap_setCell _ _ _ _ (by show b ≠ w.heap.size; omega)]
      have hB3 : Below w.heap.size w W3 := by
        rw [hW3]
        exact ((set5_below HR.out.below (Nat.le_refl _) _ _ _ _ _).alloc (by rw [set5_size]; omega) _).alloc (by simp [set5_size]; omega) _
      unfold set5 at hW3
      rw [← hW3]
      clear hW3
      refine (CP.out W3 (wr.heap.size + 1) h48).mono ?_
      rintro en w4 ⟨A4, c4, rfl, ho4, hb4⟩
      dsimp only []
      have hs4 := hb4.size
      have hsrc4 : Src w4 wr.heap.size A c (dE k).enc := by
        refine ⟨HR.out.src.le, HR.out.src.nil, fun ad e => ⟨(HR.out.src.at_ ad e).1, fun j n hj => ?_⟩⟩
        have hl : 0 < (dE k).enc.length := by
          rcases Nat.eq_zero_or_pos (dE k).enc.length with h | h
          · rw [List.eq_nil_of_length_eq_zero h] at hj; cases hj
          · exact h
        have h1 := (HR.out.src.at_ ad e).1 hl
        have h2 := HR.out.far ad e
        rw [World.cell?_of_block (w := wr) (by rw [add_block, hb4.block _ (by omega), hk3 _ h2 h1])]
        exact (HR.out.src.at_ ad e).2 j n hj
      have hlen : (dE k).enc.length = y := HR.out.len.symm
      replace hsrc4 := Lib.hid hsrc4
      replace hlen := Lib.hid hlen
      replace ho4 := Lib.hid ho4
      replace hb4 := Lib.hid hb4
      replace hz3 := Lib.hid hz3
      replace hX3 := Lib.hid hX3
      replace h48 := Lib.hid h48
      replace hk3 := Lib.hid hk3
      replace hB3 := Lib.hid hB3
      clear o0 o1 o2 o3 o4 f0 f1 f2 f3 f4 CP
      go_wp2_with (at_builtin; refine append_srcF rfl (.tmp 29) (.tmp 30) rfl W3.heap.size (.slice A4 U c4) ([48] ++ lenB (y : Int)) rfl ho4.out wr.heap.size A c (dE k).enc y hlen.out rfl hsrc4.out (by have h1 := hU.out; have h2 := hlen.out; omega) hs4 ?_; intro A5 c5 w5 ho5 hb5 _; have HO5 := Lib.hid ho5; have HB5 := Lib.hid hb5; clear ho5 hb5)
      go_roundw
      case rel =>
        refine ⟨j + 1, k + 1, some ⟨wr.heap.size, 0, none⟩, 1, 1, A5, _, c5, Lib.hid (by have := hjk.out; omega), by omega, by go_num, rfl, Lib.hid ?_⟩
        have kb : ∀ b, b < W3.heap.size → w5.heap[b]? = W3.heap[b]? := fun b hb => (HB5.out.block b hb).trans (hb4.out.block b hb)
        have hl := hlen.out
        refine dp_step HR.out ((kb _ (by omega)).trans hz3.out) ((kb _ (by omega)).trans hX3.out) (fun b h1 h2 => (kb b (by omega)).trans (hk3.out b h1 h2)) (hB3.out.trans ((hb4.out.trans HB5.out).mono (by omega))) (base := W3.heap.size) ?_ (by omega) ?_
        · have := HO5.out
          rw [dE_enc, hl]
          exact this
        · rw [dE_enc, hl]
          simp
          omega
      case measure => simp [intOf]; omega
    · have hjN' : j = N := by omega
      have hkN : N = k + 1 := by have := hjk.out; omega
      have CQ := putp_el (dE k) wr none 0 Ak ck (HR.out.el.more fun b hb => hb.2) (by rw [dE_size]; omega)
      unfold elV at CQ
      rw [dE_c, dE_b, ← HR.out.kids, dE_put k hk1000] at CQ
      have CA : ∀ w', Below wr.heap.size wr w' → Calls Try.prog 17 #[.slice A y c] w' (ParQ (parP (dE k).enc) w') := fun w' hb => by
        have := par_any A c (dE k).enc w' wr.heap.size (HR.out.src.below hb) hb.size (by rw [← HR.out.len]; omega) HR.out.cap (dE_byt k hk1000)
        rwa [← HR.out.len] at this
      rw [dE_parse k hk1000] at CA
      have kl : decide (j < N) = false := decide_eq_false (by omega)
      have kl2 : decide ((j : Int) < (N : Int)) = false := decide_eq_false (by omega)
      have h15 : ((15 : Nat) : Int) = 15 := rfl
      have h00 : ((0 : Nat) : Int) = 0 := rfl
      have hlen := HR.out.len
      have hbw := HR.out.below
      have hsrc := HR.out.src
      replace hbw := Lib.hid hbw
      replace hsrc := Lib.hid hsrc
      replace hO := Lib.hid hO
      replace HR := Lib.hid HR
      by_cases hbig : 24 < k + 1
      · have kb : decide (24 < (N : Int)) = true := decide_eq_true (by omega)
        rw [if_pos hbig] at CQ CA
        replace CQ := Lib.hid CQ
        replace CA := Lib.hid CA
        replace hlen := Lib.hid hlen
        go_wp2_with fail
        refine CQ.out.mono ?_
        rintro en w1 ⟨A1, c1, rfl, hs1, hc1, hb1⟩
        dsimp only [List.length_nil]
        replace hs1 := Lib.hid hs1
        replace hb1 := Lib.hid hb1
        clear o0 o1 o2 o3 o4 f0 f1 f2 f3 f4
        go_wp2_with fail
        refine (CA.out _ hb1.out).mono ?_
        rintro en w2 ⟨Ab2, cb2, Ak2, ck2, rfl, hin2, hb2⟩
        unfold elV
        dsimp only []
        have hB : Hid (∀ ob : Obj, Below w.heap.size w (w2.alloc ob)) := Lib.hid fun ob => (hbw.out.trans ((hb1.out.trans (hb2.mono hb1.out.size)).mono (by omega))).alloc (by have := hb1.out.size; have := hb2.size; omega) ob
        clear hin2
        replace hb2 := Lib.hid hb2
        go_wp2_with fail
        go_ret
        exact ⟨rfl, hB.out _⟩
      · have kb : decide (24 < (N : Int)) = false := decide_eq_false (by omega)
        rw [if_neg hbig] at CQ CA
        replace CQ := Lib.hid CQ
        replace CA := Lib.hid CA
        replace hlen := Lib.hid hlen
        go_wp2_with fail
        refine CQ.out.mono ?_
        rintro en w1 ⟨A1, c1, rfl, hs1, hc1, hb1⟩
        dsimp only []
        rw [← hlen.out]
        replace hs1 := Lib.hid hs1
        replace hb1 := Lib.hid hb1
        clear o0 o1 o2 o3 o4 f0 f1 f2 f3 f4
        go_wp2_with fail
        refine (CA.out _ hb1.out).mono ?_
        rintro en w2 ⟨Ab2, cb2, Ak2, ck2, rfl, hin2, hb2⟩
        unfold elV
        dsimp only []
        rw [← hlen.out]
        have hB : Hid (∀ ob : Obj, Below w.heap.size w (w2.alloc ob)) := Lib.hid fun ob => (hbw.out.trans ((hb1.out.trans (hb2.mono hb1.out.size)).mono (by omega))).alloc (by have := hb1.out.size; have := hb2.size; omega) ob
        have hb12 : ∀ ob : Obj, Below w1.heap.size w1 (w2.alloc ob) := fun ob => hb2.alloc hb2.size ob
        have hbr2 : ∀ ob : Obj, Below wr.heap.size wr (w2.alloc ob) := fun ob => hb1.out.trans ((hb12 ob).mono hb1.out.size)
        have q1 : ∀ ob : Obj, (convert 24 9 (.slice A1 y c1)).run Try.prog (w2.alloc ob) = .ok (.string (strB (dE k).enc)) (w2.alloc ob) := fun ob => by
          have := (hs1.out.below (hb12 ob)).conv
          rwa [← hlen.out] at this
        have q2 : ∀ ob : Obj, (convert 24 9 (.slice A y c)).run Try.prog (w2.alloc ob) = .ok (.string (strB (dE k).enc)) (w2.alloc ob) := fun ob => by
          have := (hsrc.out.below (hbr2 ob)).conv
          rwa [← hlen.out] at this
        clear hin2 hb12 hbr2
        replace hb2 := Lib.hid hb2
        go_wp2_with fail
        go_ret
        exact ⟨rfl, hB.out _⟩
end Go.Proofs.Ytgdoepkoakpnbaa
