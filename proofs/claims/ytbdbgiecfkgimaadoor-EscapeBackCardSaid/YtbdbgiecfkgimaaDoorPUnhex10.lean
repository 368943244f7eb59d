/-
  The program's Unhex.
-/
import Derived.Test.YtbdbgiecfkgimaaDoorPHex10
import Derived.Test.YtbdbgiecfkgimaaDoorRefUnhex
import Derived.OwnWalk
namespace Go.Proofs.YtbdbgiecfkgimaaDoor
open Go.RowKit

theorem or_four : ∀ x < 16, ∀ y < 16, bits BinOp.or IntKind.u8 (((x : Nat) : Int) * 16) ((y : Nat) : Int) = ((x * 16 + y : Nat) : Int) := by decide +kernel
set_option maxRecDepth 4000 in
set_option maxHeartbeats 3200000 in
theorem punhex_any (s : ByteArray) (w : World) (hs : s.size ≤ 2000) :
    Calls Tryd.prog 13 #[.string s] w fun e w' => e = .returned (unV (unhexE (bs s))) ∧ Below w.heap.size w w' := by
  have CD := Lib.hid fun (c : Nat) (h : c < 256) (W : World) => pdigit_any c h W
  by_cases hodd : s.size % 2 = 1
  · have ho : unhexE (bs s) = none := unhex_odd _ (by rw [bs_len]; exact hodd)
    have g1 : (s.size : Int) % 2 = 1 := by omega
    replace ho := Lib.hid ho
    go_enter Tryd.func13, Tryd.ntmps13
    go_wp2_with fail
    go_ret2
    exact ⟨by rw [ho.out]; rfl, Below.refl _ _⟩
  · have g1 : (s.size : Int) % 2 = 0 := by omega
    obtain ⟨m, hm⟩ : ∃ m, s.size = 2 * m := ⟨s.size / 2, by omega⟩
    have g2 : (s.size : Int) / 2 = (m : Int) := by omega
    have XB : (Tryd.prog.info? 5).map (fun i => (i.zero, i.size, i.bytes)) = some (some (.int .u8 0), 1, 1) := by kernel_rfl
    obtain ⟨i0, hi, hz0, hz1, hz2⟩ := info_parts XB
    clear XB
    go_enter Tryd.func13, Tryd.ntmps13
    go_wp2_with (at_make; refine wpList_make_own w rfl _ _ 30 rfl w.heap.size 5 i0 (.int .u8 0) 1 Tryd.underlying30 hi hz0 hz1 _ _ _ m rfl rfl (by omega) (by rw [hz2]; omega) (by unfold maxLen; omega) (Nat.le_refl _) ?_; intro w1 ho1 hg1; have HO1 : Hid (Own w1 w.heap.size (.slice (some ⟨w.heap.size, 0, none⟩) 0 m) []) := Lib.hid ho1; have HB1 : Hid (Below w.heap.size w w1) := Lib.hid ((Below.refl w.heap.size w).grown hg1 (Nat.le_refl _) (fun k hk => by cases hk)); clear ho1 hg1)
    go_wp2_with fail
    clear g1 g2 hi hz0 hz1 hz2 i0
    go_loopw [4, 5] (fun b i wr => ∃ (k N cc : Nat) (B : Option Addr) (L : List Nat), k ≤ s.size ∧ k % 2 = 0 ∧ N ≤ k ∧ i = .int .i64 (k : Int) ∧ b = .slice B N cc ∧ Hid (L.length = N) ∧ Hid (unhexE (bs s) = (unhexE ((bs s).drop k)).map (L ++ ·)) ∧ Hid (Own wr w.heap.size (.slice B N cc) L) ∧ Hid (Below w.heap.size w wr)) (fun _ i _ => s.size - (intOf i).toNat)
    case atStart => exact ⟨0, 0, m, some ⟨w.heap.size, 0, none⟩, [], Nat.zero_le _, rfl, Nat.le_refl _, rfl, rfl, Lib.hid rfl, Lib.hid (by rw [List.drop_zero]; cases unhexE (bs s) <;> rfl), HO1, HB1⟩
    case round =>
      obtain ⟨k, N, cc, B, L, hk, hk2, hN, rfl, rfl, HN, HL, HO, HB⟩ := hrel
      have zr := HB.out.size
      by_cases hlt : k < s.size
      · have hlt1 : k + 1 < s.size := by omega
        have hd := bs_drop2 s k hlt1
        have b1 := byte_lt s k (by omega)
        have b2 := byte_lt s (k + 1) hlt1
        obtain ⟨a, ha⟩ : ∃ a, s[k].toNat = a := ⟨_, rfl⟩
        obtain ⟨b, hb⟩ : ∃ b, s[k + 1].toNat = b := ⟨_, rfl⟩
        have hai : ((s[k].toNat : Nat) : Int) = (a : Int) := by rw [ha]
        have hbi : ((s[k + 1].toNat : Nat) : Int) = (b : Int) := by rw [hb]
        rw [ha, hb] at hd
        rw [ha] at b1
        rw [hb] at b2
        have HL2 := HL.out
        rw [hd] at HL2
        rw [unhex_two] at HL2
        have C1 := Lib.hid (CD.out a b1)
        have C2 := Lib.hid (CD.out b b2)
        have i0 : (0 : Int) ≤ (k : Int) := by omega
        have i1 : (k : Int) < (s.size : Int) := by omega
        have i2 : (k : Int) + 1 < (s.size : Int) := by omega
        have i3 : (0 : Int) ≤ (k : Int) + 1 := by omega
        replace ha := Lib.hid ha
        replace hb := Lib.hid hb
        replace hd := Lib.hid hd
        rcases hx : dgE a with _ | x
        · have hno : unhexE (bs s) = none := by rw [HL2, pair_no1 hx]; rfl
          rw [hx] at C1
          replace hno := Lib.hid hno
          replace HL2 := Lib.hid HL2
          obtain ⟨y, yq, hv⟩ : ∃ (y : Int) (yq : Bool), dgV (dgE b) = .tuple #[.int .u8 y, .bool yq] := by
            rcases dgE b with _ | v
            · exact ⟨_, _, rfl⟩
            · exact ⟨_, _, rfl⟩
          rw [hv] at C2
          unfold dgV at C1
          clear hv
          go_wp2_with fail
          refine (C1.out wr).mono ?_
          rintro _ w2 ⟨rfl, h2⟩
          subst w2
          dsimp only []
          go_wp2_with fail
          refine (C2.out wr).mono ?_
          rintro _ w2 ⟨rfl, h2⟩
          subst w2
          dsimp only []
          go_wp2_with fail
          go_ret2
          exact ⟨by rw [hno.out]; rfl, HB.out⟩
        · rcases hy : dgE b with _ | y
          · have hno : unhexE (bs s) = none := by rw [HL2, pair_no2 hy]; rfl
            rw [hx] at C1
            rw [hy] at C2
            unfold dgV at C1 C2
            replace hno := Lib.hid hno
            replace HL2 := Lib.hid HL2
            go_wp2_with fail
            refine (C1.out wr).mono ?_
            rintro _ w2 ⟨rfl, h2⟩
            subst w2
            dsimp only []
            go_wp2_with fail
            refine (C2.out wr).mono ?_
            rintro _ w2 ⟨rfl, h2⟩
            subst w2
            dsimp only []
            go_wp2_with fail
            go_ret2
            exact ⟨by rw [hno.out]; rfl, HB.out⟩
          · have hyes : unhexE (bs s) = (unhexE ((bs s).drop (k + 2))).map ((L ++ [x * 16 + y]) ++ ·) := by
              rw [HL2, pair_some hx hy]
              show Option.map _ (Option.map _ _) = _
              rw [Option.map_map]
              congr 1
              funext t
              simp
            rw [hx] at C1
            rw [hy] at C2
            unfold dgV at C1 C2
            have x16 := dg_lt hx
            have y16 := dg_lt hy
            have hor := or_four x x16 y y16
            obtain ⟨z, hz⟩ : ∃ z, x * 16 + y = z := ⟨_, rfl⟩
            have z256 : z < 256 := by omega
            rw [hz] at hyes hor
            replace hyes := Lib.hid hyes
            replace HL2 := Lib.hid HL2
            replace hx := Lib.hid hx
            replace hy := Lib.hid hy
            replace hz := Lib.hid hz
            go_wp2_with fail
            refine (C1.out wr).mono ?_
            rintro _ w2 ⟨rfl, h2⟩
            subst w2
            dsimp only []
            go_wp2_with fail
            refine (C2.out wr).mono ?_
            rintro _ w2 ⟨rfl, h2⟩
            subst w2
            dsimp only []
            go_wp2_with (at_builtin; refine append_srcF rfl (.tmp 45) (.tmp 50) rfl w.heap.size (.slice B N cc) L rfl (HO.out.alloc _) (wr.heap.size + 1) (some ⟨wr.heap.size, 0, none⟩) 1 [z] 1 rfl rfl (Src.one wr z) (by rw [HN.out]; simp; omega) (by simp; omega) ?_; intro A3 c3 w3 ho3 hb3 _; have HO3 := Lib.hid ho3; have HB3 := Lib.hid (show Below w.heap.size w w3 from HB.out.trans (((Below.refl w.heap.size wr).alloc zr _).trans hb3)); clear ho3 hb3)
            go_roundw
            case rel => exact ⟨k + 2, N + 1, c3, A3, L ++ [z], by omega, by omega, by omega, by go_num, by rw [HN.out], Lib.hid (by rw [List.length_append, HN.out]; rfl), hyes, Lib.hid (by have := HO3.out; rwa [HN.out] at this), HB3⟩
            case measure => simp [intOf]; omega
      · have hks : k = s.size := by omega
        have hfin : unhexE (bs s) = some L := by
          have := HL.out
          rw [List.drop_eq_nil_of_le (by rw [bs_len]; omega)] at this
          rw [this]
          show some (L ++ []) = _
          rw [List.append_nil]
        replace hfin := Lib.hid hfin
        have cv := HO.out.src.conv
        rw [HN.out] at cv
        have i1 : ¬ ((k : Int) < (s.size : Int)) := by omega
        go_wp2_with fail
        go_ret2
        exact ⟨by rw [hfin.out]; rfl, HB.out⟩
end Go.Proofs.YtbdbgiecfkgimaaDoor
