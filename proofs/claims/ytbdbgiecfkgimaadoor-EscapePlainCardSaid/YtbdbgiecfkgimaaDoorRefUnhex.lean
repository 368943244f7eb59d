/-
  The document's Unhex.
-/
import Derived.Test.YtbdbgiecfkgimaaDoorRefEsc
namespace Go.Proofs.YtbdbgiecfkgimaaDoor
open Go.RowKit

theorem own_nilE (w : World) : Own w w.heap.size (.slice none 0 0) [] := ⟨rfl, .inl ⟨rfl, rfl⟩⟩
theorem dg_lt {c n : Nat} (h : dgE c = some n) : n < 16 := by
  unfold dgE at h
  split at h
  · injection h; omega
  · split at h
    · injection h; omega
    · split at h
      · injection h; omega
      · cases h
theorem dgI_some {c n : Nat} (h : dgE c = some n) : dgI c = (n : Int) := by unfold dgI; rw [h]
theorem dgI_none {c : Nat} (h : dgE c = none) : dgI c = -1 := by unfold dgI; rw [h]
theorem pair_some {a b x y : Nat} (h1 : dgE a = some x) (h2 : dgE b = some y) : pairE a b = some (x * 16 + y) := by unfold pairE; rw [h1, h2]
theorem pair_no1 {a b : Nat} (h1 : dgE a = none) : pairE a b = none := by unfold pairE; rw [h1]
theorem pair_no2 {a b : Nat} (h2 : dgE b = none) : pairE a b = none := by
  unfold pairE
  rw [h2]
  split <;> simp_all
theorem unhex_two (a b : Nat) (t : List Nat) : unhexE (a :: b :: t) = (pairE a b).bind fun x => (unhexE t).map (x :: ·) := by
  conv => lhs; unfold unhexE
theorem unhex_odd : ∀ (l : List Nat), l.length % 2 = 1 → unhexE l = none
  | [], h => by cases h
  | [_], _ => rfl
  | a :: b :: t, h => by
    have := unhex_odd t (by simp only [List.length_cons] at h; omega)
    unfold unhexE
    rw [this]
    cases pairE a b <;> rfl
theorem bs_drop2 (s : ByteArray) (k : Nat) (h : k + 1 < s.size) : (bs s).drop k = s[k].toNat :: s[k + 1].toNat :: (bs s).drop (k + 2) := by
  have hl := bs_len s
  rw [List.drop_eq_getElem_cons (by omega), List.drop_eq_getElem_cons (by omega)]
  rw [bs_get s k (by omega), bs_get s (k + 1) h]
set_option maxRecDepth 4000 in
set_option maxHeartbeats 1600000 in
theorem unhex_any (s : ByteArray) (w : World) (hs : s.size ≤ 2000) :
    Calls Tryd.prog 19 #[.string s] w fun e w' => e = .returned (unV (unhexE (bs s))) ∧ Below w.heap.size w w' := by
  have CD := Lib.hid fun (c : Nat) (h : c < 256) (W : World) => digit_any c W h
  by_cases hodd : s.size % 2 = 1
  · have ho : unhexE (bs s) = none := unhex_odd _ (by rw [bs_len]; exact hodd)
    have g1 : (s.size : Int) % 2 = 1 := by omega
    replace ho := Lib.hid ho
    go_enter Tryd.func19, Tryd.ntmps19
    go_wp2_with fail
    go_ret2
    exact ⟨by rw [ho.out]; rfl, Below.refl _ _⟩
  · have g1 : (s.size : Int) % 2 = 0 := by omega
    go_enter Tryd.func19, Tryd.ntmps19
    go_wp2_with fail
    clear g1
    go_loopw [4, 5] (fun b i wr => ∃ (k N cc : Nat) (B : Option Addr) (L : List Nat), k ≤ s.size ∧ k % 2 = 0 ∧ N ≤ k ∧ i = .int .i64 (k : Int) ∧ b = .slice B N cc ∧ Hid (L.length = N) ∧ Hid (unhexE (bs s) = (unhexE ((bs s).drop k)).map (L ++ ·)) ∧ Hid (Own wr w.heap.size (.slice B N cc) L) ∧ Hid (Below w.heap.size w wr)) (fun _ i _ => s.size - (intOf i).toNat)
    case atStart => exact ⟨0, 0, 0, none, [], Nat.zero_le _, rfl, Nat.le_refl _, rfl, rfl, Lib.hid rfl, Lib.hid (by rw [List.drop_zero]; cases unhexE (bs s) <;> rfl), Lib.hid (own_nilE w), Lib.hid (Below.refl _ _)⟩
    case round =>
      obtain ⟨k, N, cc, B, L, hk, hk2, hN, rfl, rfl, HN, HL, HO, HB⟩ := hrel
      have zr := HB.out.size
      by_cases hlt : k + 1 < s.size
      · have hd := bs_drop2 s k hlt
        have b1 := byte_lt s k (by omega)
        have b2 := byte_lt s (k + 1) hlt
        obtain ⟨a, ha⟩ : ∃ a, s[k].toNat = a := ⟨_, rfl⟩
        obtain ⟨b, hb⟩ : ∃ b, s[k + 1].toNat = b := ⟨_, rfl⟩
        have hai : ((s[k].toNat : Nat) : Int) = (a : Int) := by rw [ha]
        have hbi : ((s[k + 1].toNat : Nat) : Int) = (b : Int) := by rw [hb]
        rw [ha, hb] at hd
        rw [ha] at b1
        rw [hb] at b2
        have HL2 := HL.out
        rw [hd] at HL2
        rw [unhex_two] at HL2
        have C1 := Lib.hid (CD.out a b1)
        have C2 := Lib.hid (CD.out b b2)
        have i0 : (0 : Int) ≤ (k : Int) := by omega
        have i1 : (k : Int) + 1 < (s.size : Int) := by omega
        have i2 : (k : Int) < (s.size : Int) := by omega
        have i3 : (0 : Int) ≤ (k : Int) + 1 := by omega
        replace ha := Lib.hid ha
        replace hb := Lib.hid hb
        replace hd := Lib.hid hd
        rcases hx : dgE a with _ | x
        · have hno : unhexE (bs s) = none := by rw [HL2, pair_no1 hx]; rfl
          have e1 := dgI_none hx
          rw [e1] at C1
          replace hno := Lib.hid hno
          replace HL2 := Lib.hid HL2
          obtain ⟨v, hv⟩ : ∃ v, dgI b = v := ⟨_, rfl⟩
          rw [hv] at C2
          clear hv e1
          go_wp2_with fail
          refine (C1.out wr).mono ?_
          rintro _ w2 ⟨rfl, h2⟩
          subst w2
          dsimp only []
          go_wp2_with fail
          refine (C2.out wr).mono ?_
          rintro _ w2 ⟨rfl, h2⟩
          subst w2
          dsimp only []
          go_wp2_with fail
          go_ret2
          exact ⟨by rw [hno.out]; rfl, HB.out⟩
        · rcases hy : dgE b with _ | y
          · have hno : unhexE (bs s) = none := by rw [HL2, pair_no2 hy]; rfl
            have e1 := dgI_some hx
            have e2 := dgI_none hy
            rw [e1] at C1
            rw [e2] at C2
            have x0 : ¬ (x : Int) < 0 := by omega
            replace hno := Lib.hid hno
            replace HL2 := Lib.hid HL2
            clear e1 e2
            go_wp2_with fail
            refine (C1.out wr).mono ?_
            rintro _ w2 ⟨rfl, h2⟩
            subst w2
            dsimp only []
            go_wp2_with fail
            refine (C2.out wr).mono ?_
            rintro _ w2 ⟨rfl, h2⟩
            subst w2
            dsimp only []
            go_wp2_with fail
            go_ret2
            exact ⟨by rw [hno.out]; rfl, HB.out⟩
          · have hyes : unhexE (bs s) = (unhexE ((bs s).drop (k + 2))).map ((L ++ [x * 16 + y]) ++ ·) := by
              rw [HL2, pair_some hx hy]
              show Option.map _ (Option.map _ _) = _
              rw [Option.map_map]
              congr 1
              funext t
              simp
            have e1 := dgI_some hx
            have e2 := dgI_some hy
            rw [e1] at C1
            rw [e2] at C2
            have x16 := dg_lt hx
            have y16 := dg_lt hy
            have x0 : ¬ (x : Int) < 0 := by omega
            have y0 : ¬ (y : Int) < 0 := by omega
            obtain ⟨z, hz⟩ : ∃ z, x * 16 + y = z := ⟨_, rfl⟩
            have z256 : z < 256 := by omega
            have hzi : (x : Int) * 16 + (y : Int) = (z : Int) := by omega
            have hzw : IntKind.u8.wrap (z : Int) = (z : Int) := IntWalk.u8_in _ (by omega)
            rw [hz] at hyes
            replace hyes := Lib.hid hyes
            replace HL2 := Lib.hid HL2
            replace hx := Lib.hid hx
            replace hy := Lib.hid hy
            replace hz := Lib.hid hz
            clear e1 e2
            go_wp2_with fail
            refine (C1.out wr).mono ?_
            rintro _ w2 ⟨rfl, h2⟩
            subst w2
            dsimp only []
            go_wp2_with fail
            refine (C2.out wr).mono ?_
            rintro _ w2 ⟨rfl, h2⟩
            subst w2
            dsimp only []
            go_wp2_with (at_builtin; refine append_srcF rfl (.tmp 34) (.tmp 40) rfl w.heap.size (.slice B N cc) L rfl (HO.out.alloc _) (wr.heap.size + 1) (some ⟨wr.heap.size, 0, none⟩) 1 [z] 1 rfl rfl (Src.one wr z) (by rw [HN.out]; simp; omega) (by simp; omega) ?_; intro A3 c3 w3 ho3 hb3 _; have HO3 := Lib.hid ho3; have HB3 := Lib.hid (show Below w.heap.size w w3 from HB.out.trans (((Below.refl w.heap.size wr).alloc zr _).trans hb3)); clear ho3 hb3)
            go_roundw
            case rel => exact ⟨k + 2, N + 1, c3, A3, L ++ [z], by omega, by omega, by omega, by go_num, by rw [HN.out], Lib.hid (by rw [List.length_append, HN.out]; rfl), hyes, Lib.hid (by have := HO3.out; rwa [HN.out] at this), HB3⟩
            case measure => simp [intOf]; omega
      · have hks : k = s.size := by omega
        have hfin : unhexE (bs s) = some L := by
          have := HL.out
          rw [List.drop_eq_nil_of_le (by rw [bs_len]; omega)] at this
          rw [this]
          show some (L ++ []) = _
          rw [List.append_nil]
        replace hfin := Lib.hid hfin
        have cv := HO.out.src.conv
        rw [HN.out] at cv
        have i1 : ¬ ((k : Int) + 1 < (s.size : Int)) := by omega
        go_wp2_with fail
        go_ret2
        exact ⟨by rw [hfin.out]; rfl, HB.out⟩
end Go.Proofs.YtbdbgiecfkgimaaDoor
