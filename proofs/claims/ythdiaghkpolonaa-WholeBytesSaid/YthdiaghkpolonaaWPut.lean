/-
  The program's Put: a number's bytes, none of which is needless.
-/
import Derived.Test.YthdiaghkpolonaaWRead
namespace Go.Proofs.Ythdiaghkpolonaa
open Go.RowKit Go.Lib

theorem Src.dropN {w : World} {K b off c f : Nat} {l : List Nat} (h : Src w K (some ⟨b, off, none⟩) c l) (hf : f < l.length) : Src w K (some ⟨b, off + f, none⟩) (c - f) (l.drop f) := by
  refine ⟨by have := h.le; rw [List.length_drop]; omega, (by simp), fun ad e => ?_⟩
  injection e with e
  subst e
  refine ⟨fun _ => (h.at_ _ rfl).1 (by omega), fun j n hj => ?_⟩
  have := (h.at_ _ rfl).2 (f + j) n (by simpa using hj)
  have e1 : (⟨b, off, none⟩ : Addr).add (f + j) = ⟨b, off + (f + j), none⟩ := by unfold Addr.add; split <;> simp_all
  have e2 : (⟨b, off + f, none⟩ : Addr).add j = ⟨b, off + f + j, none⟩ := by unfold Addr.add; split <;> simp_all
  rw [e1] at this
  rw [e2, ← this, show off + f + j = off + (f + j) from by omega]
theorem row8_at (n : Int) (k : Nat) (hk : k < 8) : n / 2 ^ (8 * (7 - k)) % 256 = (((row same 256 (low64 n) 8)[k]'(by rw [row_len]; exact hk) : Nat) : Int) := by
  have h : k = 0 ∨ k = 1 ∨ k = 2 ∨ k = 3 ∨ k = 4 ∨ k = 5 ∨ k = 6 ∨ k = 7 := by omega
  rcases h with rfl | rfl | rfl | rfl | rfl | rfl | rfl | rfl
  all_goals
    simp [row, same, low64]
    omega
theorem row8_all (n : Int) : ∃ a0 a1 a2 a3 a4 a5 a6 a7 : Nat, row same 256 (low64 n) 8 = [a0, a1, a2, a3, a4, a5, a6, a7] ∧
    n / 72057594037927936 % 256 = (a0 : Int) ∧ n / 281474976710656 % 256 = (a1 : Int) ∧ n / 1099511627776 % 256 = (a2 : Int) ∧ n / 4294967296 % 256 = (a3 : Int) ∧
    n / 16777216 % 256 = (a4 : Int) ∧ n / 65536 % 256 = (a5 : Int) ∧ n / 256 % 256 = (a6 : Int) ∧ n % 256 = (a7 : Int) := by
  refine ⟨_, _, _, _, _, _, _, _, rfl, ?_, ?_, ?_, ?_, ?_, ?_, ?_, ?_⟩
  · exact row8_at n 0 (by decide)
  · exact row8_at n 1 (by decide)
  · exact row8_at n 2 (by decide)
  · exact row8_at n 3 (by decide)
  · exact row8_at n 4 (by decide)
  · exact row8_at n 5 (by decide)
  · exact row8_at n 6 (by decide)
  · have := row8_at n 7 (by decide)
    simp only [Nat.sub_self, Nat.mul_zero, Int.pow_zero, Int.ediv_one] at this
    exact this
theorem src_eight (w : World) (T : TypeId) (a0 a1 a2 a3 a4 a5 a6 a7 : Nat) : Src (w.alloc (.cells #[.int .u8 (a0 : Int), .int .u8 (a1 : Int), .int .u8 (a2 : Int), .int .u8 (a3 : Int), .int .u8 (a4 : Int), .int .u8 (a5 : Int), .int .u8 (a6 : Int), .int .u8 (a7 : Int)] T)) (w.heap.size + 1) (some ⟨w.heap.size, 0, none⟩) 8 [a0, a1, a2, a3, a4, a5, a6, a7] :=
  ⟨Nat.le_refl _, (by simp), fun ad e => by
    injection e with e
    subst e
    refine ⟨fun _ => Nat.lt_succ_self _, fun j n hj => ?_⟩
    have hx := World.news_of_block (cs := #[.int .u8 (a0 : Int), .int .u8 (a1 : Int), .int .u8 (a2 : Int), .int .u8 (a3 : Int), .int .u8 (a4 : Int), .int .u8 (a5 : Int), .int .u8 (a6 : Int), .int .u8 (a7 : Int)]) (fr := (0, 0)) (heap_alloc_new w (.cells #[.int .u8 (a0 : Int), .int .u8 (a1 : Int), .int .u8 (a2 : Int), .int .u8 (a3 : Int), .int .u8 (a4 : Int), .int .u8 (a5 : Int), .int .u8 (a6 : Int), .int .u8 (a7 : Int)] T)) j (.int .u8 (n : Int)) ?_
    · exact hx
    · match j, hj with
      | 0, hj | 1, hj | 2, hj | 3, hj | 4, hj | 5, hj | 6, hj | 7, hj => simp at hj; subst hj; rfl⟩

theorem slice_from (B f : Nat) (hf : f < 8) : ∀ w : World, (Instr.sliceAt 35 (.pointer (some ⟨B, 0, none⟩)) (some (.int .i64 (f : Int))) none none).run Try.prog w = .ok (.slice (some ⟨B, f, none⟩) (8 - f) (8 - f)) w := by
  have h : f = 0 ∨ f = 1 ∨ f = 2 ∨ f = 3 ∨ f = 4 ∨ f = 5 ∨ f = 6 ∨ f = 7 := by omega
  rcases h with rfl | rfl | rfl | rfl | rfl | rfl | rfl | rfl
  all_goals
    intro w
    kernel_rfl

set_option maxRecDepth 4000 in
set_option maxHeartbeats 1600000 in
theorem w_put (n : Int) (w : World) (_h1 : -9223372036854775808 ≤ n) (_h2 : n ≤ 9223372036854775807) :
    Calls Try.prog 7 #[.int .i64 n] w fun e w' => ∃ A' c', e = .returned (.slice A' (putW n).length c') ∧ Src w' w'.heap.size A' c' (putW n) ∧ Below w.heap.size w w' := by
  obtain ⟨a0, a1, a2, a3, a4, a5, a6, a7, hR, e0, e1, e2, e3, e4, e5, e6, e7⟩ := row8_all n
  have hW : putW n = stripW (row same 256 (low64 n) 8) := rfl
  have hby := row_byte (low64 n) 8
  rw [hR] at hby hW
  clear hR
  replace hW := Lib.hid hW
  replace hby := Lib.hid hby
  have HE := Lib.hid (And.intro e0 (And.intro e1 (And.intro e2 (And.intro e3 (And.intro e4 (And.intro e5 (And.intro e6 e7)))))))
  clear e0 e1 e2 e3 e4 e5 e6 e7
  go_enter Try.func7, Try.ntmps7
  go_wp2_with fail
  go_rounds 9
  go_wp2_with fail
  obtain ⟨e0, e1, e2, e3, e4, e5, e6, e7⟩ := HE.out
  rw [e0, e1, e2, e3, e4, e5, e6, e7]
  clear e0 e1 e2 e3 e4 e5 e6 e7 HE
  have HS := Lib.hid (src_eight w 35 a0 a1 a2 a3 a4 a5 a6 a7)
  have HB := Lib.hid ((Below.refl w.heap.size w).alloc (Nat.le_refl _) (.cells #[.int .u8 (a0 : Int), .int .u8 (a1 : Int), .int .u8 (a2 : Int), .int .u8 (a3 : Int), .int .u8 (a4 : Int), .int .u8 (a5 : Int), .int .u8 (a6 : Int), .int .u8 (a7 : Int)] 35))
  have HZ : w.heap.size < (w.alloc (.cells #[.int .u8 (a0 : Int), .int .u8 (a1 : Int), .int .u8 (a2 : Int), .int .u8 (a3 : Int), .int .u8 (a4 : Int), .int .u8 (a5 : Int), .int .u8 (a6 : Int), .int .u8 (a7 : Int)] 35)).heap.size := by simp
  obtain ⟨w1, hw1⟩ : ∃ w1, w1 = w.alloc (.cells #[.int .u8 (a0 : Int), .int .u8 (a1 : Int), .int .u8 (a2 : Int), .int .u8 (a3 : Int), .int .u8 (a4 : Int), .int .u8 (a5 : Int), .int .u8 (a6 : Int), .int .u8 (a7 : Int)] 35) := ⟨_, rfl⟩
  rw [← hw1] at HS HB HZ ⊢
  clear hw1
  obtain ⟨R, hR⟩ : ∃ R, R = [a0, a1, a2, a3, a4, a5, a6, a7] := ⟨_, rfl⟩
  have hR8 : R.length = 8 := by rw [hR]; rfl
  rw [← hR] at HS hW hby
  clear hR
  go_loopw [5] (fun v wr => ∃ f : Nat, f ≤ 7 ∧ v = .int .i64 (f : Int) ∧ Hid (stripW R = stripW (R.drop f)) ∧ Hid (Src wr (w.heap.size + 1) (some ⟨w.heap.size, 0, none⟩) 8 R) ∧ Hid (Below w.heap.size w wr) ∧ w.heap.size < wr.heap.size) (fun v _ => 8 - (RowKit.intOf v).toNat)
  case atStart => exact ⟨0, by omega, rfl, Lib.hid rfl, HS, HB, HZ⟩
  case round =>
    obtain ⟨f, hf, rfl, H1, H2, H3, H4⟩ := hrel
    clear HS HB HZ
    have hsrc := H2.out
    by_cases h7 : f = 7
    · subst h7
      have hP : Hid (putW n = R.drop 7) := by
        refine Lib.hid ?_
        rw [hW.out, H1.out]
        have hl : (R.drop 7).length = 1 := by rw [List.length_drop]; omega
        rcases hd : R.drop 7 with _ | ⟨x, _ | ⟨y, r⟩⟩
        · rw [hd] at hl; cases hl
        · rfl
        · rw [hd] at hl; simp at hl
      have hS7 := Lib.hid ((hsrc.dropN (f := 7) (by omega)).more (show w.heap.size + 1 ≤ wr.heap.size from H4))
      clear hsrc
      go_wp2_with fail
      go_quiet (fail)
      go_wp2_with fail
      go_ret
      refine ⟨some ⟨w.heap.size, 7, none⟩, 1, ?_, ?_, ?_⟩
      · rw [hP.out, List.length_drop, hR8]; rfl
      · rw [hP.out]
        have := hS7.out.keep (w' := wr.drewN nq) (fun _ _ => rfl)
        simpa using this
      · exact H3.out.trans ((below_drewN wr nq).mono H3.out.size)
    · have hf2 : f < 7 := by omega
      have eadd : ∀ j, (⟨w.heap.size, 0, none⟩ : Addr).add j = ⟨w.heap.size, j, none⟩ := by intro j; unfold Addr.add; split <;> simp_all
      have hx : wr.cell? ⟨w.heap.size, f, none⟩ = some (.int .u8 ((R[f]'(by omega) : Nat) : Int)) := by
        have := (hsrc.at_ _ rfl).2 f (R[f]'(by omega)) (List.getElem?_eq_getElem (by omega))
        rw [eadd] at this
        exact this
      have hy : wr.cell? ⟨w.heap.size, f + 1, none⟩ = some (.int .u8 ((R[f + 1]'(by omega) : Nat) : Int)) := by
        have := (hsrc.at_ _ rfl).2 (f + 1) (R[f + 1]'(by omega)) (List.getElem?_eq_getElem (by omega))
        rw [eadd] at this
        exact this
      have hd : R.drop f = (R[f]'(by omega)) :: (R[f + 1]'(by omega)) :: R.drop (f + 2) := by
        rw [List.drop_eq_getElem_cons (by omega : f < R.length), List.drop_eq_getElem_cons (by omega : f + 1 < R.length)]
      have hd1 : R.drop (f + 1) = (R[f + 1]'(by omega)) :: R.drop (f + 2) := List.drop_eq_getElem_cons (by omega : f + 1 < R.length)
      obtain ⟨x, hxx⟩ : ∃ x, x = R[f]'(by omega) := ⟨_, rfl⟩
      obtain ⟨y, hyy⟩ : ∃ y, y = R[f + 1]'(by omega) := ⟨_, rfl⟩
      have hx256 : x < 256 := by rw [hxx]; exact hby.out _ (List.getElem_mem _)
      have hy256 : y < 256 := by rw [hyy]; exact hby.out _ (List.getElem_mem _)
      rw [← hxx] at hx hd
      rw [← hyy] at hy hd hd1
      have hS7 := Lib.hid ((hsrc.dropN (f := f) (by omega)).more (show w.heap.size + 1 ≤ wr.heap.size from H4))
      clear hxx hyy hsrc eadd
      have kf : decide ((f : Int) < 7) = true := decide_eq_true (by omega)
      obtain ⟨v, hv⟩ : ∃ v, ndl x y = v := ⟨_, rfl⟩
      have CN := fun w => needless_is v x y w hx256 hy256 hv
      replace CN := Lib.hid CN
      cases v
      · have hP : Hid (putW n = R.drop f) := by
          refine Lib.hid ?_
          rw [hW.out, H1.out, hd, strip_stop2 (by rw [longW_ndl, hv])]
        clear hd hd1 hv h7
        go_wp2_with fail
        go_quiet ((go_at_call 10; exact Calls.quiet_of_same (CN.out _)))
        have hsl := slice_from w.heap.size f (by omega)
        go_wp2_with fail
        go_ret
        refine ⟨some ⟨w.heap.size, f, none⟩, 8 - f, ?_, ?_, ?_⟩
        · rw [hP.out, List.length_drop, hR8]; rfl
        · rw [hP.out]
          have := hS7.out.keep (w' := wr.drewN nq) (fun _ _ => rfl)
          simpa using this
        · exact H3.out.trans ((below_drewN wr nq).mono H3.out.size)
      · have H1' : Hid (stripW R = stripW (R.drop (f + 1))) := by
          refine Lib.hid ?_
          rw [H1.out, hd, strip_step2 (by rw [longW_ndl, hv]), hd1]
        clear hd hd1 hv h7
        go_wp2_with fail
        go_quiet ((go_at_call 10; exact Calls.quiet_of_same (CN.out _)))
        go_wp2_with fail
        go_roundw
        case rel => exact ⟨f + 1, by omega, by go_num, H1', Lib.hid (H2.out.keep (fun _ _ => rfl)), Lib.hid (H3.out.trans ((below_drewN wr _).mono H3.out.size)), H4⟩
        case measure => simp [RowKit.intOf]; omega
end Go.Proofs.Ythdiaghkpolonaa
