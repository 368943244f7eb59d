/-
  The program's unescape: a text read without its backslashes.
-/
import Derived.Test.YtbdbgiecfkgimaaDoorPEscd10
import Derived.Test.YtbdbgiecfkgimaaDoorPCut10
namespace Go.Proofs.YtbdbgiecfkgimaaDoor
open Go.RowKit

theorem str_ne {s : ByteArray} (h : 0 < s.size) : ¬ s.toList = [] := fun e => by
  have : (bs s).length = 0 := by
    unfold bs
    rw [← ByteArray.toList_eq, e]
    rfl
  rw [bs_len] at this
  omega
def szU : Value → Nat
  | .string x => x.size
  | _ => 0
set_option maxRecDepth 4000 in
set_option maxHeartbeats 3200000 in
theorem punescape_any (s t : ByteArray) (w : World) (hs : s.size ≤ 2000) :
    Calls Tryd.prog 17 #[.string s, .string t] w fun e w' => e = .returned (unV (unescD (fun a => decide (a ∈ bs t)) (bs s))) ∧ Below w.heap.size w w' := by
  obtain ⟨self, hself⟩ : ∃ self : Nat → Bool, (fun a => decide (a ∈ bs t)) = self := ⟨_, rfl⟩
  have CE := fun (r : ByteArray) (hr : r.size ≤ 2000) (W : World) => pescaped_any r t W hr
  rw [hself] at CE ⊢
  replace CE := Lib.hid CE
  clear hself
  have hal : Below w.heap.size w (w.alloc (.cells #[.pointer none, .slice none 0 0] 45)) := (Below.refl _ _).alloc (Nat.le_refl _) _
  have H0 := Lib.hid (BldN.new w)
  replace hal := Lib.hid hal
  go_enter Tryd.func17, Tryd.ntmps17
  go_wp2_with fail
  go_loopw [0] (fun sv wr => ∃ (r : ByteArray) (L : List Nat), sv = .string r ∧ r.size ≤ 2000 ∧ L.length + r.size ≤ 2000 ∧ Hid (unescD self (bs s) = (unescD self (bs r)).map (L ++ ·)) ∧ Hid (BldN wr w.heap.size w.heap.size L) ∧ Hid (Below w.heap.size w wr)) (fun sv _ => szU sv)
  case atStart => exact ⟨s, [], rfl, hs, by simpa using hs, Lib.hid (by cases unescD self (bs s) <;> rfl), H0, hal⟩
  case round =>
    obtain ⟨r, L, rfl, hr, hL, HS, HX, HB⟩ := hrel
    have zr := HB.out.size
    by_cases h0 : r.size = 0
    · have hb : bs r = [] := List.eq_nil_of_length_eq_zero (by rw [bs_len, h0])
      obtain rfl : r = ⟨#[]⟩ := bs_inj hb
      have hfin : unescD self (bs s) = some L := by
        rw [HS.out, hb]
        show some (L ++ []) = _
        rw [List.append_nil]
      replace hfin := Lib.hid hfin
      have C3 := Lib.hid (bld_read w.heap.size w.heap.size _ wr HX.out zr)
      clear hb h0
      go_wp2_with fail
      refine C3.out.mono ?_
      rintro _ w2 ⟨rfl, h2⟩
      replace h2 := Lib.hid (HB.out.trans h2)
      dsimp only []
      go_wp2_with fail
      go_ret2
      exact ⟨by rw [hfin.out]; rfl, h2.out⟩
    · have hr0 : 0 < r.size := by omega
      have f1 := str_ne hr0
      have f2 : r.toList.isEmpty = false := by simpa using f1
      rcases cutN_cases (bs r) with hm | ⟨p, q, hpq, hm⟩
      · have C1 := Lib.hid (cutN_miss r hm wr)
        have C2 := Lib.hid (bld_str w.heap.size w.heap.size L r wr HX.out (by omega) zr)
        have hfin : unescD self (bs s) = some (L ++ bs r) := by
          rw [HS.out]
          have := unesc_pre self [] (bs r) hm
          rw [List.append_nil] at this
          rw [this]
          show some (L ++ (bs r ++ [])) = _
          rw [List.append_nil]
        replace hfin := Lib.hid hfin
        go_wp2_with fail
        refine C1.out.mono ?_
        rintro _ w2 ⟨rfl, h2⟩
        subst w2
        dsimp only []
        go_wp2_with fail
        refine C2.out.mono ?_
        rintro _ w3 ⟨rfl, h3, hb3⟩
        have C3 := Lib.hid (bld_read w.heap.size w.heap.size _ w3 h3 (Nat.le_trans zr hb3.size))
        have HB3 := Lib.hid (HB.out.trans hb3)
        clear h3 hb3
        dsimp only []
        go_wp2_with fail
        refine C3.out.mono ?_
        rintro _ w4 ⟨rfl, h4⟩
        replace h4 := Lib.hid (HB3.out.trans h4)
        dsimp only []
        go_wp2_with fail
        go_ret2
        exact ⟨by rw [hfin.out]; rfl, h4.out⟩
      · have hlen := congrArg List.length hpq
        rw [bs_len, List.length_append, List.length_cons] at hlen
        have hby := by_bs r
        rw [hpq] at hby
        have hp : byE p := fun c hc => hby c (List.mem_append_left _ hc)
        have hq : byE q := fun c hc => hby c (List.mem_append_right _ (List.mem_cons_of_mem _ hc))
        have C1 := Lib.hid (cutN_hit r p q hpq hm (by omega) wr)
        have hqs : (strB q).size = q.length := strB_sizeE q
        have hps : (strB p).size = p.length := strB_sizeE p
        have C2 := Lib.hid (fun W (h : BldN W w.heap.size w.heap.size L) (hz : w.heap.size ≤ W.heap.size) => bld_str w.heap.size w.heap.size L (strB p) W h (by omega) hz)
        have C3 := CE.out (strB q) (by omega)
        rw [bs_strB q hq] at C3
        have hst : unescD self (bs s) = (unescD self (92 :: q)).map ((L ++ p) ++ ·) := by
          rw [HS.out, hpq, unesc_pre self (92 :: q) p hm]
          cases unescD self (92 :: q) with
          | none => rfl
          | some x =>
            show some (L ++ (p ++ x)) = some ((L ++ p) ++ x)
            rw [List.append_assoc]
        rcases he : escD self q with _ | ⟨x, n⟩
        · rw [he] at C3
          have C3 : Hid (∀ W, Calls Tryd.prog 40 #[.string (strB q), .string t] W fun e w' => e = .returned (.tuple #[.string ⟨#[]⟩, .int .i64 0]) ∧ Below W.heap.size W w') := Lib.hid C3
          have hno : unescD self (bs s) = none := by rw [hst, unesc_none self q he]; rfl
          replace hno := Lib.hid hno
          replace hst := Lib.hid hst
          replace he := Lib.hid he
          replace hpq := Lib.hid hpq
          clear hqs hps
          go_wp2_with fail
          refine C1.out.mono ?_
          rintro _ w2 ⟨rfl, h2⟩
          have C4 := Lib.hid (C2.out w2 (HX.out.below h2) (Nat.le_trans zr h2.size))
          have HB2 := Lib.hid (HB.out.trans (h2.mono zr))
          clear h2
          dsimp only []
          go_wp2_with fail
          refine C4.out.mono ?_
          rintro _ w3 ⟨rfl, h3, hb3⟩
          have HB3 := Lib.hid (HB2.out.trans hb3)
          clear h3 hb3
          dsimp only []
          go_wp2_with fail
          refine (C3.out w3).mono ?_
          rintro _ w4 ⟨rfl, h4⟩
          replace h4 := Lib.hid (HB3.out.trans (h4.mono HB3.out.size))
          dsimp only []
          go_wp2_with fail
          go_ret2
          exact ⟨by rw [hno.out]; rfl, h4.out⟩
        · rw [he] at C3
          have C3 : Hid (∀ W, Calls Tryd.prog 40 #[.string (strB q), .string t] W fun e w' => e = .returned (.tuple #[.string (strB [x]), .int .i64 (n : Int)]) ∧ Below W.heap.size W w') := Lib.hid C3
          obtain ⟨u1, u2, u3, u4⟩ := unesc_some self q x n he
          have hx := esc_lt self q x n hq he
          rw [u1] at hst
          obtain ⟨r2, hr2⟩ : ∃ r2, (strB q).extract n (strB q).size = r2 := ⟨_, rfl⟩
          have hr2b : bs r2 = q.drop n := by
            rw [← hr2, bs_extract, bs_strB q hq, hqs, List.take_of_length_le (Nat.le_refl _)]
          have hr2s : r2.size = q.length - n := by rw [← bs_len, hr2b, List.length_drop]
          have hst2 : unescD self (bs s) = (unescD self (bs r2)).map ((L ++ p ++ [x]) ++ ·) := by
            rw [hst, hr2b]
            cases unescD self (q.drop n) with
            | none => rfl
            | some y =>
              show some ((L ++ p) ++ (x :: y)) = some ((L ++ p ++ [x]) ++ y)
              simp
          have hxs : bs (strB [x]) = [x] := bs_strB _ (fun c hc => by rw [List.mem_singleton.1 hc]; exact hx)
          have hxz : (strB [x]).size = 1 := strB_sizeE _
          have n0 : ¬ (n : Int) = 0 := by omega
          have n1 : ((n : Int) == 0) = false := beq_eq_false_iff_ne.2 n0
          obtain ⟨T, hT⟩ : ∃ T, strB q = T := ⟨_, rfl⟩
          rw [hT] at hqs hr2 C1 C3
          have n2 : (n : Int) ≤ (T.size : Int) := by omega
          have n3 : (0 : Int) ≤ (n : Int) := by omega
          replace hst := Lib.hid hst
          replace hst2 := Lib.hid hst2
          replace he := Lib.hid he
          replace hpq := Lib.hid hpq
          replace u1 := Lib.hid u1
          replace hr2b := Lib.hid hr2b
          replace hxs := Lib.hid hxs
          replace hxz := Lib.hid hxz
          replace hT := Lib.hid hT
          replace hqs := Lib.hid hqs
          replace hps := Lib.hid hps
          go_wp2_with fail
          refine C1.out.mono ?_
          rintro _ w2 ⟨rfl, h2⟩
          have C4 := Lib.hid (C2.out w2 (HX.out.below h2) (Nat.le_trans zr h2.size))
          have HB2 := Lib.hid (HB.out.trans (h2.mono zr))
          clear h2
          dsimp only []
          go_wp2_with fail
          refine C4.out.mono ?_
          rintro _ w3 ⟨rfl, h3, hb3⟩
          rw [bs_strB p hp] at h3
          have HX3 := Lib.hid h3
          have HB3 := Lib.hid (HB2.out.trans hb3)
          clear h3 hb3
          dsimp only []
          go_wp2_with fail
          refine (C3.out w3).mono ?_
          rintro _ w4 ⟨rfl, h4⟩
          have HX4 := Lib.hid (HX3.out.below h4)
          have HB4 := Lib.hid (HB3.out.trans (h4.mono HB3.out.size))
          clear h4
          have C5 := Lib.hid (bld_str w.heap.size w.heap.size (L ++ p) (strB [x]) w4 HX4.out (by rw [hxz.out]; simp; omega) HB4.out.size)
          dsimp only []
          go_wp2_with fail
          refine C5.out.mono ?_
          rintro _ w5 ⟨rfl, h5, hb5⟩
          rw [hxs.out] at h5
          have HX5 := Lib.hid h5
          have HB5 := Lib.hid (HB4.out.trans hb5)
          clear h5 hb5
          dsimp only []
          go_wp2_with fail
          go_roundw
          case rel => exact ⟨r2, L ++ p ++ [x], rfl, by omega, by simp; omega, hst2, HX5, HB5⟩
          case measure => show r2.size < r.size; omega
end Go.Proofs.YtbdbgiecfkgimaaDoor
