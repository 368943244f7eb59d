/-
  The program's Seal of any bytes.
-/
import Derived.Test.YtklpjdcmppohkaaDoorFApp
namespace Go.Proofs.YtklpjdcmppohkaaDoor
open Go.RowKit

set_option maxRecDepth 8000 in
set_option maxHeartbeats 800000 in
theorem seal_big (A : Option Addr) (cp L : Nat) (w : World) (h : 65536 < L) :
    Calls Tryd.prog 9 #[.slice A L cp] w fun e w' => e = .returned (.tuple #[.slice none 0 0, .int .i64 3]) ∧ w' = w := by
  have k0 : 65536 < (L : Int) := by omega
  go_enter Tryd.func9, Tryd.ntmps9
  go_wp2_with fail
  go_returns
  exact ⟨rfl, rfl⟩
/-- A new byte. -/
theorem Src.single (w : World) (x : Nat) : Src (w.alloc (.cells #[.int .u8 (x : Int)] 5)) (w.heap.size + 1) (some ⟨w.heap.size, 0, none⟩) 1 [x] := Src.one w x
set_option maxRecDepth 8000 in
set_option maxHeartbeats 1600000 in
theorem seal_any (A : Option Addr) (cp L : Nat) (l : List Nat) (w : World) (hs : Src w w.heap.size A cp l) (hL : l.length = L) (hl : L ≤ 65536) (hby : ∀ x ∈ l, x < 256) (tab : Tab w) :
    Calls Tryd.prog 9 #[.slice A L cp] w fun e w' => ∃ A' c', e = .returned (.tuple #[.slice A' (L + 8) c', .int .i64 0]) ∧ Own w' w.heap.size (.slice A' (L + 8) c') (sealP l) ∧ Below w.heap.size w w' := by
  obtain ⟨i0, hi, hz0, hz1, hz2⟩ := info_parts info_u8
  have k0 : ¬ (65536 < (L : Int)) := by omega
  obtain ⟨a, ha⟩ : ∃ a, a = L / 16777216 % 256 := ⟨_, rfl⟩
  obtain ⟨b, hb⟩ : ∃ b, b = L / 65536 % 256 := ⟨_, rfl⟩
  obtain ⟨c, hc⟩ : ∃ c, c = L / 256 % 256 := ⟨_, rfl⟩
  obtain ⟨d, hd⟩ : ∃ d, d = L % 256 := ⟨_, rfl⟩
  have hbes : bes l.length = [a, b, c, d] := by rw [hL, ha, hb, hc, hd]; rfl
  have f1 : (L : Int) / 16777216 = (a : Int) := by omega
  have f2 : (L : Int) / 65536 = (b : Int) := by omega
  have f3 : (L : Int) / 256 % 256 = (c : Int) := by omega
  have f4 : (L : Int) % 256 = (d : Int) := by omega
  have hq : Hid (sealP l = ([a, b, c, d] ++ l) ++ les 4 (sumN ([a, b, c, d] ++ l))) := Lib.hid (by unfold sealP; rw [hbes])
  have hby4 : Hid (∀ x ∈ [a, b, c, d] ++ l, x < 256) := Lib.hid fun x hx => by
    rcases List.mem_append.1 hx with hx | hx
    · rw [← hbes] at hx
      exact bes_byte _ x hx
    · exact hby x hx
  have hs4 := sumN_lt _ hby4.out
  obtain ⟨U, hU⟩ : ∃ U, U = [a, b, c, d] ++ l := ⟨_, rfl⟩
  have hUl : U.length = 4 + L := by rw [hU, List.length_append, hL]; rfl
  rw [← hU] at hq hs4 hby4
  obtain ⟨s, hse⟩ : ∃ s, s = sumN U := ⟨_, rfl⟩
  rw [← hse] at hq hs4
  obtain ⟨y0, hy0⟩ : ∃ y, y = s % 256 := ⟨_, rfl⟩
  obtain ⟨y1, hy1⟩ : ∃ y, y = s / 256 % 256 := ⟨_, rfl⟩
  obtain ⟨y2, hy2⟩ : ∃ y, y = s / 65536 % 256 := ⟨_, rfl⟩
  obtain ⟨y3, hy3⟩ : ∃ y, y = s / 16777216 % 256 := ⟨_, rfl⟩
  have hles : les 4 s = [y0, y1, y2, y3] := by rw [les4, hy0, hy1, hy2, hy3]
  rw [hles] at hq
  have g1 : (s : Int) % 256 = (y0 : Int) := by omega
  have g2 : (s : Int) / 256 % 256 = (y1 : Int) := by omega
  have g3 : (s : Int) / 65536 % 256 = (y2 : Int) := by omega
  have g4 : (s : Int) / 16777216 = (y3 : Int) := by omega
  have CM : Hid (∀ A' c' w', Src w' w'.heap.size A' c' U → Below w.heap.size w w' → Calls Tryd.prog 15 #[.slice A' (4 + L) c'] w' fun e w'' => e = .returned (.int .u32 (s : Int)) ∧ w'' = w') := Lib.hid fun A' c' w' h hb => by
    rw [hse]
    exact sum_any A' c' (4 + L) U w' _ h hUl (by omega) hby4.out (tab.below hb (Nat.le_refl _))
  replace hs := Lib.hid hs
  replace hby := Lib.hid hby
  replace hL := Lib.hid hL
  replace ha := Lib.hid ha
  replace hb := Lib.hid hb
  replace hc := Lib.hid hc
  replace hd := Lib.hid hd
  replace hbes := Lib.hid hbes
  replace hU := Lib.hid hU
  replace hUl := Lib.hid hUl
  replace hse := Lib.hid hse
  replace hy0 := Lib.hid hy0
  replace hy1 := Lib.hid hy1
  replace hy2 := Lib.hid hy2
  replace hy3 := Lib.hid hy3
  replace hles := Lib.hid hles
  replace tab := Lib.hid tab
  go_enter Tryd.func9, Tryd.ntmps9
  go_wp2_with (at_make; refine wpList_make_own _ rfl _ _ 23 rfl w.heap.size 5 i0 _ 1 Tryd.underlying23 hi hz0 hz1 .i64 .i64 (4 + (L : Int) + 4) (L + 8) rfl rfl (by omega) (by rw [hz2]; omega) (by simp only [maxLen]; omega) (Nat.le_refl _) ?_; intro w1 hown1 hg1; have HO1 := Lib.hid hown1; have HB1 := Lib.hid ((Below.refl w.heap.size w).grown hg1 (Nat.le_refl _) (by simp)); clear hown1 hg1)
  go_loopw [4, 5] (fun v i wr => ∃ (k : Nat) (A1 : Option Addr) (c1 : Nat), k ≤ 4 ∧ i = .int .i64 (3 - (k : Int)) ∧ v = .slice A1 k c1 ∧ Hid (Own wr w.heap.size (.slice A1 k c1) ([a, b, c, d].take k)) ∧ Hid (Below w.heap.size w wr)) (fun _ i _ => (intOf i + 1).toNat)
  case atStart => exact ⟨0, some ⟨w.heap.size, 0, none⟩, L + 8, by omega, rfl, rfl, Lib.hid HO1.out, HB1⟩
  case round =>
    clear HO1 HB1
    obtain ⟨k, A1, c1, hk, rfl, rfl, HO, HB⟩ := hrel
    have hz1 := HB.out.size
    rcases (by omega : k = 0 ∨ k = 1 ∨ k = 2 ∨ k = 3 ∨ k = 4) with rfl | rfl | rfl | rfl | rfl
    · have hi0 : (3 - (((0 : Nat)) : Int)) = 3 := by decide
      rw [hi0]
      go_wp2_with (at_builtin; refine append_to rfl (.tmp 20) (.tmp 27) rfl w.heap.size _ [] 0 rfl rfl (HO.out.alloc _) _ _ 1 [a] 1 rfl rfl (Src.single _ a) 1 rfl (by omega) (by simp; omega) ?_; intro A2 c2 w2 ho2 hb2 _; have HO2 := Lib.hid ho2; have HB2 := Lib.hid (HB.out.trans (below_lit' hz1 hb2)); clear ho2 hb2)
      go_round
      case rel => exact ⟨1, A2, c2, by omega, rfl, rfl, Lib.hid HO2.out, HB2⟩
      case measure => simp [intOf]
    · have hi0 : (3 - (((1 : Nat)) : Int)) = 2 := by decide
      rw [hi0]
      go_wp2_with (at_builtin; refine append_to rfl (.tmp 20) (.tmp 27) rfl w.heap.size _ [a] 1 rfl rfl (HO.out.alloc _) _ _ 1 [b] 1 rfl rfl (Src.single _ b) 2 rfl (by omega) (by simp; omega) ?_; intro A2 c2 w2 ho2 hb2 _; have HO2 := Lib.hid ho2; have HB2 := Lib.hid (HB.out.trans (below_lit' hz1 hb2)); clear ho2 hb2)
      go_round
      case rel => exact ⟨2, A2, c2, by omega, rfl, rfl, Lib.hid HO2.out, HB2⟩
      case measure => simp [intOf]
    · have hi0 : (3 - (((2 : Nat)) : Int)) = 1 := by decide
      rw [hi0]
      go_wp2_with (at_builtin; refine append_to rfl (.tmp 20) (.tmp 27) rfl w.heap.size _ [a, b] 2 rfl rfl (HO.out.alloc _) _ _ 1 [c] 1 rfl rfl (Src.single _ c) 3 rfl (by omega) (by simp; omega) ?_; intro A2 c2 w2 ho2 hb2 _; have HO2 := Lib.hid ho2; have HB2 := Lib.hid (HB.out.trans (below_lit' hz1 hb2)); clear ho2 hb2)
      go_round
      case rel => exact ⟨3, A2, c2, by omega, rfl, rfl, Lib.hid HO2.out, HB2⟩
      case measure => simp [intOf]
    · have hi0 : (3 - (((3 : Nat)) : Int)) = 0 := by decide
      rw [hi0]
      go_wp2_with (at_builtin; refine append_to rfl (.tmp 20) (.tmp 27) rfl w.heap.size _ [a, b, c] 3 rfl rfl (HO.out.alloc _) _ _ 1 [d] 1 rfl rfl (Src.single _ d) 4 rfl (by omega) (by simp; omega) ?_; intro A2 c2 w2 ho2 hb2 _; have HO2 := Lib.hid ho2; have HB2 := Lib.hid (HB.out.trans (below_lit' hz1 hb2)); clear ho2 hb2)
      go_round
      case rel => exact ⟨4, A2, c2, by omega, rfl, rfl, Lib.hid HO2.out, HB2⟩
      case measure => simp [intOf]
    · have hi0 : (3 - (((4 : Nat)) : Int)) = -1 := by decide
      rw [hi0]
      go_wp2_with (at_builtin; refine append_to rfl (.tmp 29) (.tmp 30) rfl w.heap.size _ [a, b, c, d] 4 rfl rfl HO.out w.heap.size A cp l L hL.out rfl (hs.out.below HB.out) (4 + L) rfl (by omega) hz1 ?_; intro A2 c2 w2 ho2 hb2 _; rw [← hU.out] at ho2; have HO2 := Lib.hid ho2; have HB2 := Lib.hid (HB.out.trans hb2); clear ho2 hb2)
      refine (CM.out A2 c2 w2 HO2.out.src HB2.out).mono ?_
      rintro _ _ ⟨rfl, rfl⟩
      dsimp only []
      go_wp2_with fail
      go_loopw [4, 34] (fun v i wr => ∃ (k : Nat) (A1 : Option Addr) (c1 : Nat), k ≤ 4 ∧ i = .int .i64 (k : Int) ∧ v = .slice A1 (4 + L + k) c1 ∧ Hid (Own wr w.heap.size (.slice A1 (4 + L + k) c1) (U ++ [y0, y1, y2, y3].take k)) ∧ Hid (Below w.heap.size w wr)) (fun _ i _ => 4 - (intOf i).toNat)
      case atStart => exact ⟨0, A2, c2, by omega, rfl, rfl, Lib.hid (by rw [List.take_zero, List.append_nil]; exact HO2.out), HB2⟩
      case round =>
        clear HO HB HO2 HB2
        obtain ⟨k, A1, c1, hk, rfl, rfl, HO, HB⟩ := hrel
        have hz2 := HB.out.size
        rcases (by omega : k = 0 ∨ k = 1 ∨ k = 2 ∨ k = 3 ∨ k = 4) with rfl | rfl | rfl | rfl | rfl
        · have hi0 : (((0 : Nat)) : Int) = 0 := by decide
          rw [hi0]
          go_wp2_with (at_builtin; refine append_to rfl (.tmp 37) (.tmp 43) rfl w.heap.size _ (U ++ []) (4 + L + 0) (by rw [List.length_append, hUl.out]; rfl) rfl (HO.out.alloc _) _ _ 1 [y0] 1 rfl rfl (Src.single _ y0) (4 + L + 1) rfl (by omega) (by simp; omega) ?_; intro A2 c2 w2 ho2 hb2 _; rw [List.append_assoc] at ho2; have HO2 := Lib.hid ho2; have HB2 := Lib.hid (HB.out.trans (below_lit' hz2 hb2)); clear ho2 hb2)
          go_round
          case rel => exact ⟨1, A2, c2, by omega, rfl, rfl, Lib.hid HO2.out, HB2⟩
          case measure => simp [intOf]
        · have hi0 : (((1 : Nat)) : Int) = 1 := by decide
          rw [hi0]
          go_wp2_with (at_builtin; refine append_to rfl (.tmp 37) (.tmp 43) rfl w.heap.size _ (U ++ [y0]) (4 + L + 1) (by rw [List.length_append, hUl.out]; rfl) rfl (HO.out.alloc _) _ _ 1 [y1] 1 rfl rfl (Src.single _ y1) (4 + L + 2) rfl (by omega) (by simp; omega) ?_; intro A2 c2 w2 ho2 hb2 _; rw [List.append_assoc] at ho2; have HO2 := Lib.hid ho2; have HB2 := Lib.hid (HB.out.trans (below_lit' hz2 hb2)); clear ho2 hb2)
          go_round
          case rel => exact ⟨2, A2, c2, by omega, rfl, rfl, Lib.hid HO2.out, HB2⟩
          case measure => simp [intOf]
        · have hi0 : (((2 : Nat)) : Int) = 2 := by decide
          rw [hi0]
          go_wp2_with (at_builtin; refine append_to rfl (.tmp 37) (.tmp 43) rfl w.heap.size _ (U ++ [y0, y1]) (4 + L + 2) (by rw [List.length_append, hUl.out]; rfl) rfl (HO.out.alloc _) _ _ 1 [y2] 1 rfl rfl (Src.single _ y2) (4 + L + 3) rfl (by omega) (by simp; omega) ?_; intro A2 c2 w2 ho2 hb2 _; rw [List.append_assoc] at ho2; have HO2 := Lib.hid ho2; have HB2 := Lib.hid (HB.out.trans (below_lit' hz2 hb2)); clear ho2 hb2)
          go_round
          case rel => exact ⟨3, A2, c2, by omega, rfl, rfl, Lib.hid HO2.out, HB2⟩
          case measure => simp [intOf]
        · have hi0 : (((3 : Nat)) : Int) = 3 := by decide
          rw [hi0]
          go_wp2_with (at_builtin; refine append_to rfl (.tmp 37) (.tmp 43) rfl w.heap.size _ (U ++ [y0, y1, y2]) (4 + L + 3) (by rw [List.length_append, hUl.out]; rfl) rfl (HO.out.alloc _) _ _ 1 [y3] 1 rfl rfl (Src.single _ y3) (4 + L + 4) rfl (by omega) (by simp; omega) ?_; intro A2 c2 w2 ho2 hb2 _; rw [List.append_assoc] at ho2; have HO2 := Lib.hid ho2; have HB2 := Lib.hid (HB.out.trans (below_lit' hz2 hb2)); clear ho2 hb2)
          go_round
          case rel => exact ⟨4, A2, c2, by omega, rfl, rfl, Lib.hid HO2.out, HB2⟩
          case measure => simp [intOf]
        · have hi0 : (((4 : Nat)) : Int) = 4 := by decide
          rw [hi0]
          go_wp2_with fail
          go_returns
          have hLL : 4 + L + 4 = L + 8 := by omega
          have ho := HO.out
          rw [hLL] at ho ⊢
          exact ⟨A1, c1, rfl, by rw [hq.out]; exact ho, HB.out⟩
end Go.Proofs.YtklpjdcmppohkaaDoor
