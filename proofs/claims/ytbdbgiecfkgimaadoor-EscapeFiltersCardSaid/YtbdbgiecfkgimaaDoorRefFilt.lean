/-
  The document's Filter and Unfilter.
-/
import Derived.Test.YtbdbgiecfkgimaaDoorRefUnhex
import Derived.Test.YtbdbgiecfkgimaaDoorRefFold
namespace Go.Proofs.YtbdbgiecfkgimaaDoor
open Go.RowKit

theorem bs_cut1 (s : ByteArray) (k : Nat) (h : k < s.size) : s.extract k (k + 1) = strB [s[k].toNat] := by
  apply bs_inj
  rw [bs_extract, bs_snocE s k h, List.drop_append, List.drop_eq_nil_of_le (by rw [List.length_take]; omega), bs_strB _ (fun x hx => by rw [List.mem_singleton.1 hx]; exact byte_lt s k h)]
  rw [List.length_take, bs_len, Nat.min_eq_left (by omega), Nat.sub_self]
  rfl
theorem strB_one92 : (⟨#[92]⟩ : ByteArray) = strB [92] := by decide +kernel
theorem filter_snoc (r : Bool) (l : List Nat) (c : Nat) : filterE r (l ++ [c]) = filterE r l ++ filt1 r c := by
  rw [filter_app]
  congr 1
  show filt1 r c ++ [] = _
  rw [List.append_nil]
theorem four_bs : bs ⟨#[42, 40, 41, 92]⟩ = [42, 40, 41, 92] := by decide +kernel
theorem three_bs : bs ⟨#[42, 40, 41]⟩ = [42, 40, 41] := by decide +kernel
set_option maxRecDepth 4000 in
set_option maxHeartbeats 1600000 in
theorem refFilter_any (s : ByteArray) (w : World) (hs : s.size ≤ 2000) :
    Calls Tryd.prog 10 #[.string s] w fun e w' => e = .returned (.string (strB (filterE (rightB s) (bs s)))) ∧ Below w.heap.size w w' := by
  have CA := Lib.hid fun (c : Nat) (W : World) => among_any ⟨#[42, 40, 41, 92]⟩ c W (by decide)
  rw [four_bs] at CA
  have CT := Lib.hid fun (c : Nat) (h : c < 256) (W : World) => two_any c W h
  have CC := Lib.hid (refCount_any s w (by omega))
  obtain ⟨r, hr⟩ : ∃ r, rightB s = r := ⟨_, rfl⟩
  have hcr : decide (uCountI (bs s) ≥ 0) = r := by
    rcases right_count s with ⟨h1, h2⟩ | ⟨h1, h2⟩
    · rw [← hr, h1, decide_eq_true h2]
    · rw [← hr, h1, h2]
      rfl
  obtain ⟨n, hn⟩ : ∃ n, uCountI (bs s) = n := ⟨_, rfl⟩
  rw [hn] at hcr CC
  rw [hr]
  clear hr hn
  go_enter Tryd.func10, Tryd.ntmps10
  go_wp2_with fail
  refine CC.out.mono ?_
  rintro _ w2 ⟨rfl, h2⟩
  subst w2
  dsimp only []
  go_wp2_with fail
  clear hcr CC
  go_loopw [4, 5] (fun ov iv wr => ∃ (k : Nat) (x : ByteArray), k ≤ s.size ∧ ov = .string x ∧ iv = .int .i64 (k : Int) ∧ Hid (x = strB (filterE r ((bs s).take k))) ∧ Hid (Below w.heap.size w wr)) (fun _ iv _ => s.size - (intOf iv).toNat)
  case atStart => exact ⟨0, ⟨#[]⟩, Nat.zero_le _, rfl, rfl, Lib.hid rfl, Lib.hid (Below.refl _ _)⟩
  case round =>
    obtain ⟨k, x, hk, rfl, rfl, HX, HB⟩ := hrel
    have zr := HB.out.size
    by_cases hlt : k < s.size
    · have hcut := bs_cut1 s k hlt
      have hsn := bs_snocE s k hlt
      have hb := byte_lt s k hlt
      obtain ⟨c, hc⟩ : ∃ c, s[k].toNat = c := ⟨_, rfl⟩
      have hci : ((s[k].toNat : Nat) : Int) = (c : Int) := by rw [hc]
      rw [hc] at hcut hsn hb
      have hnext : Hid (strB (filterE r ((bs s).take (k + 1))) = x ++ strB (filt1 r c)) := Lib.hid (by rw [hsn, filter_snoc, HX.out, strB_appE])
      have i0 : (0 : Int) ≤ (k : Int) := by omega
      have i1 : (k : Int) < (s.size : Int) := by omega
      have i2 : (k : Int) ≤ (k : Int) + 1 := by omega
      have i3 : (k : Int) + 1 ≤ (s.size : Int) := by omega
      have C1 := Lib.hid (CA.out c wr)
      have C2 := Lib.hid (CT.out c hb)
      have zx : x.size ≤ 6000 := by
        rw [HX.out, strB_sizeE]
        have := (filter_len r ((bs s).take k)).2
        rw [List.length_take, bs_len] at this
        omega
      replace hc := Lib.hid hc
      replace hsn := Lib.hid hsn
      obtain ⟨y, hy⟩ : ∃ y, x ++ ⟨#[92]⟩ = y := ⟨_, rfl⟩
      obtain ⟨z, hz⟩ : ∃ z, y ++ strB (twoE c) = z := ⟨_, rfl⟩
      obtain ⟨u, hu⟩ : ∃ u, x ++ strB [c] = u := ⟨_, rfl⟩
      have zt : (strB (twoE c)).size = 2 := by rw [strB_sizeE]; rfl
      have zc : (strB [c]).size = 1 := by rw [strB_sizeE]; rfl
      have zy : y.size = x.size + 1 := by rw [← hy, ByteArray.size_append]; rfl
      have zz : z.size = y.size + 2 := by rw [← hz, ByteArray.size_append, zt]
      have hesc : Hid (filt1 r c = 92 :: twoE c → z = strB (filterE r ((bs s).take (k + 1)))) := Lib.hid fun h => by
        rw [hnext.out, h, ← hz, ← hy, strB_one92, ByteArray.append_assoc, strB_appE]
        rfl
      have hown : Hid (filt1 r c = [c] → u = strB (filterE r ((bs s).take (k + 1)))) := Lib.hid fun h => by
        rw [hnext.out, h, ← hu]
      have hf : Hid (filt1 r c = if c = 42 ∨ c = 40 ∨ c = 41 ∨ c = 92 ∨ c = 0 ∨ 127 < c ∧ r = false then 92 :: twoE c else [c]) := Lib.hid rfl
      have esc : ∀ (P : Prop), P → (P → filt1 r c = 92 :: twoE c) → z = strB (filterE r ((bs s).take (k + 1))) := fun P h1 h2 => hesc.out (h2 h1)
      clear esc
      obtain ⟨v, hv⟩ : ∃ v, decide (c ∈ [42, 40, 41, 92]) = v := ⟨_, rfl⟩
      rw [hv] at C1
      go_wp2_with fail
      refine C1.out.mono ?_
      rintro _ w2 ⟨rfl, h2⟩
      subst w2
      clear C1
      rcases v with _ | _
      rotate_left
      · have q0 := of_decide_eq_true hv
        have hz' := Lib.hid (hesc.out (by
          rw [hf.out, if_pos]
          simp only [List.mem_cons, List.not_mem_nil, or_false] at q0
          omega))
        replace q0 := Lib.hid q0
        replace hv := Lib.hid hv
        dsimp only []
        go_wp2_with fail
        refine (C2.out wr).mono ?_
        rintro _ w3 ⟨rfl, hb3⟩
        have HB3 := Lib.hid (HB.out.trans (hb3.mono zr))
        clear hb3
        dsimp only []
        go_wp2_with fail
        go_roundw
        case rel => exact ⟨k + 1, z, by omega, rfl, by go_num, hz', HB3⟩
        case measure => simp [intOf]; omega
      · have q0' : ¬ (c = 42 ∨ c = 40 ∨ c = 41 ∨ c = 92) := by
          simpa using of_decide_eq_false hv
        replace hv := Lib.hid hv
        by_cases q1 : c = 0
        · have hz' := Lib.hid (hesc.out (by rw [hf.out, if_pos]; omega))
          have g1 : ((c : Int) == 0) = true := beq_iff_eq.2 (by omega)
          replace q0' := Lib.hid q0'
          replace q1 := Lib.hid q1
          dsimp only []
          go_wp2_with fail
          refine (C2.out wr).mono ?_
          rintro _ w3 ⟨rfl, hb3⟩
          have HB3 := Lib.hid (HB.out.trans (hb3.mono zr))
          clear hb3
          dsimp only []
          go_wp2_with fail
          go_roundw
          case rel => exact ⟨k + 1, z, by omega, rfl, by go_num, hz', HB3⟩
          case measure => simp [intOf]; omega
        · have g1 : ((c : Int) == 0) = false := beq_eq_false_iff_ne.2 (by omega)
          have g2 : ¬ (c : Int) = 0 := by omega
          by_cases q2 : 127 < c
          · have g3 : decide ((c : Int) > 127) = true := decide_eq_true (by omega)
            have g4 : (127 : Int) < (c : Int) := by omega
            rcases r with _ | _
            · have hz' := Lib.hid (hesc.out (by rw [hf.out, if_pos]; exact .inr (.inr (.inr (.inr (.inr ⟨q2, rfl⟩))))))
              replace q0' := Lib.hid q0'
              dsimp only []
              go_wp2_with fail
              refine (C2.out wr).mono ?_
              rintro _ w3 ⟨rfl, hb3⟩
              have HB3 := Lib.hid (HB.out.trans (hb3.mono zr))
              clear hb3
              dsimp only []
              go_wp2_with fail
              go_roundw
              case rel => exact ⟨k + 1, z, by omega, rfl, by go_num, hz', HB3⟩
              case measure => simp [intOf]; omega
            · have hu' := Lib.hid (hown.out (by rw [hf.out, if_neg]; rintro (h | h | h | h | h | ⟨_, h⟩) <;> first | omega | cases h))
              replace q0' := Lib.hid q0'
              dsimp only []
              go_wp2_with fail
              go_roundw
              case rel => exact ⟨k + 1, u, by omega, rfl, by go_num, hu', HB⟩
              case measure => simp [intOf]; omega
          · have g3 : decide ((c : Int) > 127) = false := decide_eq_false (by omega)
            have g4 : ¬ (127 : Int) < (c : Int) := by omega
            have hu' := Lib.hid (hown.out (by rw [hf.out, if_neg]; omega))
            replace q0' := Lib.hid q0'
            dsimp only []
            go_wp2_with fail
            go_roundw
            case rel => exact ⟨k + 1, u, by omega, rfl, by go_num, hu', HB⟩
            case measure => simp [intOf]; omega
    · obtain rfl : k = s.size := by omega
      have hfin : x = strB (filterE r (bs s)) := by rw [HX.out, bs_endE]
      replace hfin := Lib.hid hfin
      have i1 : ¬ ((s.size : Int) < (s.size : Int)) := by omega
      go_wp2_with fail
      go_ret
      exact ⟨by rw [← hfin.out]; rfl, HB.out⟩
theorem bs_drop3 (s : ByteArray) (k : Nat) (h : k + 2 < s.size) : (bs s).drop k = s[k].toNat :: s[k + 1].toNat :: s[k + 2].toNat :: (bs s).drop (k + 3) := by
  have hl := bs_len s
  rw [List.drop_eq_getElem_cons (by omega), List.drop_eq_getElem_cons (by omega), List.drop_eq_getElem_cons (by omega)]
  rw [bs_get s k (by omega), bs_get s (k + 1) (by omega), bs_get s (k + 2) h]
theorem bs_cut2 (s : ByteArray) (k : Nat) (h : k + 2 < s.size) : bs (s.extract (k + 1) (k + 3)) = [s[k + 1].toNat, s[k + 2].toNat] := by
  rw [bs_extract]
  have e : (bs s).take (k + 3) = (bs s).take (k + 1) ++ [s[k + 1].toNat, s[k + 2].toNat] := by
    rw [bs_snocE s (k + 2) h, bs_snocE s (k + 1) (by omega), List.append_assoc]
    rfl
  rw [e, List.drop_append, List.drop_eq_nil_of_le (by rw [List.length_take]; omega), List.length_take, bs_len, Nat.min_eq_left (by omega), Nat.sub_self]
  rfl
theorem unf_short (l : List Nat) (h : l.length ≤ 1) : unfE (92 :: l) = none := by
  conv => lhs; unfold unfE
  rw [if_neg (by decide), if_pos rfl]
  rcases l with _ | ⟨a, _ | ⟨b, t⟩⟩
  · rfl
  · rfl
  · simp at h
theorem unf_bad (c : Nat) (l : List Nat) (h : c = 42 ∨ c = 40 ∨ c = 41 ∨ c = 0) : unfE (c :: l) = none := by
  conv => lhs; unfold unfE
  rw [if_pos h]
theorem unhex_pair (a b : Nat) : unhexE [a, b] = (pairE a b).map fun x => [x] := by
  rw [unhex_two]
  cases pairE a b <;> rfl
theorem pair_lt {a b x : Nat} (h : pairE a b = some x) : x < 256 := by
  unfold pairE at h
  split at h
  · rename_i x y h1 h2
    have := dg_lt h1
    have := dg_lt h2
    injection h
    omega
  · cases h
theorem strB_first (z : Nat) (hz : z < 256) (x : ByteArray) (h : strB [z] = x) (hs : 0 < x.size) : x[0].toNat = z := by
  subst h
  have := bs_get (strB [z]) 0 hs
  rw [← this]
  have h2 := bs_strB [z] (fun y hy => by rw [List.mem_singleton.1 hy]; exact hz)
  simp only [h2]
  rfl
set_option maxRecDepth 4000 in
set_option maxHeartbeats 1600000 in
theorem refUnfilter_any (s : ByteArray) (w : World) (hs : s.size ≤ 2000) :
    Calls Tryd.prog 8 #[.string s] w fun e w' => e = .returned (unV (unfE (bs s))) ∧ Below w.heap.size w w' := by
  have CA := Lib.hid fun (c : Nat) (W : World) => among_any ⟨#[42, 40, 41]⟩ c W (by decide)
  rw [three_bs] at CA
  have CU := Lib.hid fun (x : ByteArray) (h : x.size ≤ 2000) (W : World) => unhex_any x W h
  go_enter Tryd.func8, Tryd.ntmps8
  go_wp2_with fail
  go_loopw [4, 5] (fun b i wr => ∃ (k N cc : Nat) (B : Option Addr) (L : List Nat), k ≤ s.size ∧ N ≤ k ∧ i = .int .i64 (k : Int) ∧ b = .slice B N cc ∧ Hid (L.length = N) ∧ Hid (unfE (bs s) = (unfE ((bs s).drop k)).map (L ++ ·)) ∧ Hid (Own wr w.heap.size (.slice B N cc) L) ∧ Hid (Below w.heap.size w wr)) (fun _ i _ => s.size - (intOf i).toNat)
  case atStart => exact ⟨0, 0, 0, none, [], Nat.zero_le _, Nat.le_refl _, rfl, rfl, Lib.hid rfl, Lib.hid (by rw [List.drop_zero]; cases unfE (bs s) <;> rfl), Lib.hid (own_nilE w), Lib.hid (Below.refl _ _)⟩
  case round =>
    obtain ⟨k, N, cc, B, L, hk, hN, rfl, rfl, HN, HL, HO, HB⟩ := hrel
    have zr := HB.out.size
    by_cases hlt : k < s.size
    · have hd := bs_drop1E s k hlt
      have b1 := byte_lt s k hlt
      obtain ⟨c, hc⟩ : ∃ c, s[k].toNat = c := ⟨_, rfl⟩
      have hci : ((s[k].toNat : Nat) : Int) = (c : Int) := by rw [hc]
      rw [hc] at hd b1
      have C1 := Lib.hid (CA.out c wr)
      have i0 : (0 : Int) ≤ (k : Int) := by omega
      have i1 : (k : Int) < (s.size : Int) := by omega
      have hcl := Lib.hid hc
      have HL1 := HL.out
      rw [hd] at HL1
      replace HL1 := Lib.hid HL1
      replace hd := Lib.hid hd
      obtain ⟨vq, hvq⟩ : ∃ v, decide (c ∈ [42, 40, 41]) = v := ⟨_, rfl⟩
      rw [hvq] at C1
      go_wp2_with fail
      refine C1.out.mono ?_
      rintro _ w2 ⟨rfl, h2⟩
      subst w2
      clear C1
      rcases vq with _ | _
      rotate_left
      · have q0 := of_decide_eq_true hvq
        replace hvq := Lib.hid hvq
        have hno : unfE (bs s) = none := by
          rw [HL1.out, unf_bad c _ (by simp only [List.mem_cons, List.not_mem_nil, or_false] at q0; omega)]
          rfl
        replace hno := Lib.hid hno
        replace q0 := Lib.hid q0
        replace hc := Lib.hid hc
        dsimp only []
        go_wp2_with fail
        go_ret2
        exact ⟨by rw [hno.out]; rfl, HB.out⟩
      · have q0' : ¬ (c = 42 ∨ c = 40 ∨ c = 41) := by simpa using of_decide_eq_false hvq
        replace hvq := Lib.hid hvq
        by_cases q1 : c = 0
        · have hno : unfE (bs s) = none := by
            rw [HL1.out, unf_bad c _ (by omega)]
            rfl
          have g1 : ((c : Int) == 0) = true := beq_iff_eq.2 (by omega)
          have g2 : (c : Int) = 0 := by omega
          replace hno := Lib.hid hno
          replace q0' := Lib.hid q0'
          replace q1 := Lib.hid q1
          replace hc := Lib.hid hc
          dsimp only []
          go_wp2_with fail
          go_ret2
          exact ⟨by rw [hno.out]; rfl, HB.out⟩
        · have g1 : ((c : Int) == 0) = false := beq_eq_false_iff_ne.2 (by omega)
          have g2 : ¬ (c : Int) = 0 := by omega
          by_cases q2 : c = 92
          · have g3 : ((c : Int) != 92) = false := by simp; omega
            have g4 : (c : Int) = 92 := by omega
            have g5 : ((c : Int) == 92) = true := beq_iff_eq.2 g4
            by_cases h3 : k + 2 < s.size
            · have hd3 := bs_drop3 s k h3
              have hcut := bs_cut2 s k h3
              obtain ⟨a, ha⟩ : ∃ a, s[k + 1].toNat = a := ⟨_, rfl⟩
              obtain ⟨b, hb⟩ : ∃ b, s[k + 2].toNat = b := ⟨_, rfl⟩
              rw [hc, ha, hb, q2] at hd3
              rw [ha, hb] at hcut
              have HL2 := HL.out
              rw [hd3, unf_esc] at HL2
              have C2 := CU.out (s.extract (k + 1) (k + 3)) (by
                have := congrArg List.length hcut
                rw [bs_len, show [a, b].length = 2 from rfl] at this
                omega) wr
              rw [hcut, unhex_pair] at C2
              obtain ⟨x, hx⟩ : ∃ x, s.extract (k + 1) (k + 3) = x := ⟨_, rfl⟩
              rw [hx] at C2
              have i2 : ¬ (s.size : Int) ≤ (k : Int) + 2 := by omega
              have i3 : decide ((k : Int) + 2 ≥ (s.size : Int)) = false := decide_eq_false i2
              have i4 : (k : Int) + 1 ≤ (k : Int) + 3 := by omega
              have i5 : (k : Int) + 3 ≤ (s.size : Int) := by omega
              have i6 : (0 : Int) ≤ (k : Int) + 1 := by omega
              replace ha := Lib.hid ha
              replace hb := Lib.hid hb
              replace hd3 := Lib.hid hd3
              replace hcut := Lib.hid hcut
              replace q0' := Lib.hid q0'
              replace q1 := Lib.hid q1
              replace q2 := Lib.hid q2
              replace hc := Lib.hid hc
              rcases hp : pairE a b with _ | z
              · have hno : unfE (bs s) = none := by rw [HL2, hp]; rfl
                rw [hp] at C2
                replace C2 := Lib.hid C2
                replace hno := Lib.hid hno
                replace HL2 := Lib.hid HL2
                dsimp only []
                go_wp2_with fail
                refine C2.out.mono ?_
                rintro _ w3 ⟨rfl, hb3⟩
                have HB3 := Lib.hid (HB.out.trans (hb3.mono zr))
                clear hb3
                unfold unV
                dsimp only [Option.map]
                go_wp2_with fail
                go_ret2
                exact ⟨by rw [hno.out]; rfl, HB3.out⟩
              · have hyes : unfE (bs s) = (unfE ((bs s).drop (k + 3))).map ((L ++ [z]) ++ ·) := by
                  rw [HL2, hp]
                  show Option.map _ (Option.map _ _) = _
                  rw [Option.map_map]
                  congr 1
                  funext t
                  simp
                have z256 := pair_lt hp
                rw [hp] at C2
                obtain ⟨v, hv⟩ : ∃ v, strB [z] = v := ⟨_, rfl⟩
                have hvs : v.size = 1 := by rw [← hv, strB_sizeE]; rfl
                have hv0 : (((v[0]'(by omega)).toNat : Nat) : Int) = (z : Int) := by rw [strB_first z z256 v hv (by omega)]
                have C3 : Hid (Calls Tryd.prog 19 #[.string x] wr fun e w' => e = .returned (.tuple #[.string v, .bool true]) ∧ Below wr.heap.size wr w') := Lib.hid (by rw [← hv]; exact C2)
                have v0 : (0 : Int) < (v.size : Int) := by omega
                replace hv := Lib.hid hv
                replace hyes := Lib.hid hyes
                replace HL2 := Lib.hid HL2
                replace hp := Lib.hid hp
                clear C2
                dsimp only []
                go_wp2_with fail
                refine C3.out.mono ?_
                rintro _ w3 ⟨rfl, hb3⟩
                have HB3 := Lib.hid (HB.out.trans (hb3.mono zr))
                have HO3 := Lib.hid (HO.out.below hb3 (Nat.le_refl _))
                have z3 := hb3.size
                clear hb3
                dsimp only []
                go_wp2_with (at_builtin; refine append_srcF rfl (.tmp 51) (.tmp 54) rfl w.heap.size (.slice B N cc) L rfl (HO3.out.alloc _) (w3.heap.size + 1) (some ⟨w3.heap.size, 0, none⟩) 1 [z] 1 rfl rfl (Src.one w3 z) (by rw [HN.out]; simp; omega) (by simp; omega) ?_; intro A4 c4 w4 ho4 hb4 _; have HO4 := Lib.hid ho4; have HB4 := Lib.hid (show Below w.heap.size w w4 from HB3.out.trans (((Below.refl w.heap.size w3).alloc (by omega) _).trans hb4)); clear ho4 hb4)
                go_roundw
                case rel => exact ⟨k + 3, N + 1, c4, A4, L ++ [z], by omega, by omega, by go_num, by rw [HN.out], Lib.hid (by rw [List.length_append, HN.out]; rfl), hyes, Lib.hid (by have := HO4.out; rwa [HN.out] at this), HB4⟩
                case measure => simp [intOf]; omega
            · have hno : unfE (bs s) = none := by
                rw [HL1.out, q2, unf_short _ (by rw [List.length_drop, bs_len]; omega)]
                rfl
              have i2 : (s.size : Int) ≤ (k : Int) + 2 := by omega
              have i3 : decide ((k : Int) + 2 ≥ (s.size : Int)) = true := decide_eq_true i2
              replace hno := Lib.hid hno
              replace q0' := Lib.hid q0'
              replace q1 := Lib.hid q1
              replace q2 := Lib.hid q2
              replace hc := Lib.hid hc
              dsimp only []
              go_wp2_with fail
              go_ret2
              exact ⟨by rw [hno.out]; rfl, HB.out⟩
          · have g3 : ((c : Int) != 92) = true := by simp; omega
            have g4 : ¬ (c : Int) = 92 := by omega
            have g5 : ((c : Int) == 92) = false := beq_eq_false_iff_ne.2 g4
            have hyes : unfE (bs s) = (unfE ((bs s).drop (k + 1))).map ((L ++ [c]) ++ ·) := by
              rw [HL1.out, unf_own c _ (by omega) q2, Option.map_map]
              congr 1
              funext t
              simp
            replace hyes := Lib.hid hyes
            replace q0' := Lib.hid q0'
            replace q1 := Lib.hid q1
            replace q2 := Lib.hid q2
            replace hc := Lib.hid hc
            dsimp only []
            go_wp2_with (at_builtin; refine append_srcF rfl (.tmp 28) (.tmp 32) rfl w.heap.size (.slice B N cc) L rfl (HO.out.alloc _) (wr.heap.size + 1) (some ⟨wr.heap.size, 0, none⟩) 1 [c] 1 rfl rfl (Src.one wr c) (by rw [HN.out]; simp; omega) (by simp; omega) ?_; intro A3 c3 w3 ho3 hb3 _; have HO3 := Lib.hid ho3; have HB3 := Lib.hid (show Below w.heap.size w w3 from HB.out.trans (((Below.refl w.heap.size wr).alloc zr _).trans hb3)); clear ho3 hb3)
            go_roundw
            case rel => exact ⟨k + 1, N + 1, c3, A3, L ++ [c], by omega, by omega, by go_num, by rw [HN.out], Lib.hid (by rw [List.length_append, HN.out]; rfl), hyes, Lib.hid (by have := HO3.out; rwa [HN.out] at this), HB3⟩
            case measure => simp [intOf]; omega
    · obtain rfl : k = s.size := by omega
      have hfin : unfE (bs s) = some L := by
        have := HL.out
        rw [List.drop_eq_nil_of_le (by rw [bs_len]; exact Nat.le_refl _)] at this
        rw [this]
        show some (L ++ []) = _
        rw [List.append_nil]
      replace hfin := Lib.hid hfin
      have cv := HO.out.src.conv
      rw [HN.out] at cv
      have i1 : ¬ ((s.size : Int) < (s.size : Int)) := by omega
      go_wp2_with fail
      go_ret2
      exact ⟨by rw [hfin.out]; rfl, HB.out⟩
end Go.Proofs.YtbdbgiecfkgimaaDoor
