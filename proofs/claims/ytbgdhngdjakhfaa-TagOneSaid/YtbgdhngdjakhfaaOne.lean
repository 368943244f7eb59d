/-
  The law TagOne holds: two identifiers that may be, and two lengths, have the same bytes just if they are one.
  Conditions: none.
-/
import Derived.Test.YtbgdhngdjakhfaaOneWalk
import Derived.Test.YtbgdhngdjakhfaaOpen
namespace Go.Proofs.Ytbgdhngdjakhfaa.one
open Go.ChangeShapes Go.WideShapes Go.ChangeAt Go.RowKit Go.Joins

theorem cellsTag : Try.prog.cellsOf 24 = 3 := by kernel_rfl

theorem cells1 : Try.prog.cellsOf 3 = 1 := by kernel_rfl
theorem cells2 : Try.prog.cellsOf 42 = 2 := by kernel_rfl
theorem open_arr2 {H : Type} {enc : TypeId × Value → H} {W : World} {r : Reach} {b0 : Nat} {v : Value} {d : DataW H} {p : List MemPlace}
    (hv : Value.okWide Try.prog W r b0 42 v) (h : DataW.Trod enc Try.prog W 0 (fun _ => true) true 42 v d p) : ∃ x y, v = .agg #[.int .i64 x, .int .i64 y] := by
  unfold Value.okWide at hv
  rw [Try.underlying42] at hv
  obtain ⟨cs, rfl, hsz, _⟩ := hv
  obtain ⟨c0, c1, rfl⟩ := array2 (hsz.trans cells2)
  obtain ⟨fuel, hf⟩ := h
  obtain ⟨xs, m, _, _, _, hn, hg⟩ := DataW.trod_array Try.underlying42 hf
  have g0 := hg 0 (by omega)
  have g1 := hg 1 (by omega)
  rw [cells1] at g0 g1
  rw [List.getElem?_eq_getElem (by omega)] at g0 g1
  obtain ⟨x, e0, _⟩ := DataW.trod_int Try.underlying3 g0
  obtain ⟨y, e1, _⟩ := DataW.trod_int Try.underlying3 g1
  simp [Value.cells] at e0 e1
  exact ⟨x, y, by rw [e0, e1]⟩

theorem eq_tags (c n c' n' : Int) (m m' : Bool) (W : World) : (binOp .eql 24 (.agg #[.int .i64 c, .bool m, .int .i64 n]) (.agg #[.int .i64 c', .bool m', .int .i64 n'])).run Try.prog W = .ok (.bool (c == c' && (m == m' && n == n'))) W := by
  cases h1 : (c == c')
  · simp [go_sem, h1]
  · cases h2 : (m == m')
    · simp [go_sem, h1, h2]
    · cases h3 : (n == n') <;> simp [go_sem, h1, h2, h3]

theorem walk (c n c' n' x y : Int) (m m' : Bool) (w : World) :
    Calls Try.prog 6 #[.agg #[.int .i64 c, .bool m, .int .i64 n], .agg #[.int .i64 c', .bool m', .int .i64 n'], .agg #[.int .i64 x, .int .i64 y]] w fun e w' => e = .returned (.bool true) ∧ Below w.heap.size w w' := by
  by_cases h1 : RightT c n
  · by_cases h2 : RightT c' n'
    · obtain ⟨N1, hN1⟩ : ∃ N : Nat, x % 2147483648 = (N : Int) := ⟨(x % 2147483648).toNat, by omega⟩
      obtain ⟨N2, hN2⟩ : ∃ N : Nat, y % 2147483648 = (N : Int) := ⟨(y % 2147483648).toNat, by omega⟩
      refine one_good c n c' n' x y m m' N1 N2 _ _ _ _ w h1 h2 hN1 hN2 rfl rfl rfl rfl (c == c' && (m == m' && n == n')) ((N1 : Int) == (N2 : Int)) (eq_tags c n c' n' m m') ?_ ?_ rfl
      · rw [Bool.eq_iff_iff, strB_beq (tagB_byte c n m h1) (tagB_byte c' n' m' h2)]
        simp only [Bool.and_eq_true, beq_iff_eq]
        constructor
        · intro e
          exact tagB_inj h1 h2 e
        · rintro ⟨rfl, rfl, rfl⟩
          rfl
      · rw [Bool.eq_iff_iff, strB_beq (lenB_byte _ (by omega)) (lenB_byte _ (by omega)), beq_iff_eq]
        constructor
        · intro e
          exact lenB_inj (by omega) (by omega) (by omega) (by omega) e
        · intro e
          rw [e]
    · exact one_bad_b c n c' n' x y m m' w h1 h2
  · exact one_bad_a c n c' n' x y m m' w h1

set_option maxRecDepth 100000 in
theorem lifted (os : Os) (started : os.Started) (H : Type) (enc : TypeId × Value → H) :
    ReturnsInHanded {} Try.checked os 6 .any (Rows.tagOneSpec.pre6 enc Try.prog Try.f6 Rows.tagOneRow.domain false) (Rows.tagOneSpec.post enc Try.prog Try.f6 false true false false) := by
  refine returnsInHanded_of_change (C := Try.checked) own_none started (by kernel_rfl) Try.func6
    (ChangeSpec.witness6 (enc := enc) (C := Try.checked) false ⟨#[], #[.agg #[.int .i64 0, .bool false, .int .i64 0], .agg #[.int .i64 0, .bool false, .int .i64 0], .agg #[.int .i64 0, .int .i64 0]], []⟩ 8 (by kernel_rfl) (by kernel_rfl) (by kernel_rfl) (by kernel_rfl)) ?_
  intro W base args ds gs before hval0 hW _ _
  have hval : ∀ (j : Nat) t v, Try.f6.params[j]? = some t → args[j]? = some v → Value.okWide Try.prog W .any base t v := hval0
  have hW' := hW
  obtain ⟨p, q, hA0, hV, rfl, _, _⟩ := hW
  have hA : DataW.TrodAll enc Try.prog W 0 (fun _ => true) true Try.f6.params.toList args.toList ds p := hA0
  rw [Try.params6] at hA hval
  obtain ⟨v0, vs0, d0, ds0, p0, q0, hargs, rfl, rfl, h0, r0⟩ := trodAll_cons hA
  obtain ⟨v1, vs1, d1, ds1, p1, q1, rfl, rfl, rfl, h1, r1⟩ := trodAll_cons r0
  obtain ⟨v2, vs2, d2, ds2, p2, q2, rfl, rfl, rfl, h2, r2⟩ := trodAll_cons r1
  obtain ⟨rfl, rfl, rfl⟩ := trodAll_nil r2
  obtain rfl : args = #[v0, v1, v2] := by cases args; simp_all
  obtain ⟨rfl, rfl⟩ := trodVars_none hV
  have k0 := h0
  have lt0 : ∀ x ∈ p0, x.block < W.heap.size := by obtain ⟨m, hm⟩ := k0; exact DataW.trod_lt m _ _ _ hm
  obtain ⟨c0_0, c0_1, c0_2, y0_0, y0_1, y0_2, m0, rfl, hd0, hp0, hy0_0, hy0_1, hy0_2⟩ := open_agg3 Try.underlying24 (by kernel_rfl) cellsTag (hval 0 24 v0 rfl rfl) h0
  obtain ⟨a0_0, e0_0, rfl, wa0_0⟩ := DataW.trod_int Try.underlying3 hy0_0
  obtain ⟨a0_1, e0_1, rfl⟩ := DataW.trod_bool Try.underlying4 hy0_1
  obtain ⟨a0_2, e0_2, rfl, wa0_2⟩ := DataW.trod_int Try.underlying3 hy0_2
  simp at e0_0 e0_1 e0_2
  subst e0_0 e0_1 e0_2
  have k1 := h1
  have lt1 : ∀ x ∈ p1, x.block < W.heap.size := by obtain ⟨m, hm⟩ := k1; exact DataW.trod_lt m _ _ _ hm
  obtain ⟨c1_0, c1_1, c1_2, y1_0, y1_1, y1_2, m1, rfl, hd1, hp1, hy1_0, hy1_1, hy1_2⟩ := open_agg3 Try.underlying24 (by kernel_rfl) cellsTag (hval 1 24 v1 rfl rfl) h1
  obtain ⟨a1_0, e1_0, rfl, wa1_0⟩ := DataW.trod_int Try.underlying3 hy1_0
  obtain ⟨a1_1, e1_1, rfl⟩ := DataW.trod_bool Try.underlying4 hy1_1
  obtain ⟨a1_2, e1_2, rfl, wa1_2⟩ := DataW.trod_int Try.underlying3 hy1_2
  simp at e1_0 e1_1 e1_2
  subst e1_0 e1_1 e1_2
  have k2 := h2
  have lt2 : ∀ x ∈ p2, x.block < W.heap.size := by obtain ⟨m, hm⟩ := k2; exact DataW.trod_lt m _ _ _ hm
  obtain ⟨x2, y2, rfl⟩ := open_arr2 (hval 2 42 v2 rfl rfl) h2
  clear hA0 hval0
  refine (walk a0_0 a0_2 a1_0 a1_2 x2 y2 a0_1 a1_1 W).mono fun e W' ⟨he, bel⟩ => ?_
  subst he
  exact ⟨_, rfl, _, _, _, [], _, [], hW', trodAll_mk1 (shut_bool Try.underlying4 _), (trodAll_cons_mk (Below.trod laid_out (by kernel_rfl) (of_decide_eq_true (by kernel_rfl)) k0 bel lt0) (trodAll_cons_mk (Below.trod laid_out (by kernel_rfl) (of_decide_eq_true (by kernel_rfl)) k1 bel lt1) (trodAll_cons_mk (Below.trod laid_out (by kernel_rfl) (of_decide_eq_true (by kernel_rfl)) k2 bel lt2) trodAll_mk0))), rfl, bel.frame _, fun h => by cases h⟩

theorem over : Rows.tagOneRow.holds Try.pinned (OpenSpec.ofChange Rows.tagOneSpec) :=
  OpenClaim.holds_of_wide 6 Try.f6 rfl rfl rfl rfl rfl rfl rfl ⟨rfl, rfl, rfl, rfl, rfl⟩ rfl rfl rfl rfl rfl (by kernel_rfl) Try.func6 (by kernel_rfl)
    (of_decide_eq_true (by kernel_rfl)) (by unfold Func.isWrapper; first | (rw [if_pos (by decide +kernel)]; kernel_rfl) | (rw [if_neg (by decide +kernel)]; exact ⟨rfl, rfl⟩))
    (fun os started H enc _ => lifted os started H enc)

theorem one_holds : Rows.TagOneSaid := over
end Go.Proofs.Ytbgdhngdjakhfaa.one
