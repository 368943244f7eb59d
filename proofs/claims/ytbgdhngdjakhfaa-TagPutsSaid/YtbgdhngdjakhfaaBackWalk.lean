/-
  The walk of the law TagBack.
-/
import Derived.Test.YtbgdhngdjakhfaaBackNum
import Derived.Test.YtbgdhngdjakhfaaAppend
namespace Go.Proofs.Ytbgdhngdjakhfaa
open Go.RowKit

theorem below_chain {w w3 w4 : World} {o : Obj} (h3 : Below (w.heap.size + 1) (w.alloc o) w3) (h4 : Below w3.heap.size w3 w4) : Below w.heap.size w w4 := by
  have hsz : w.heap.size + 1 ≤ w3.heap.size := by have := h3.size; simpa using this
  exact ((Below.refl w.heap.size w).alloc (Nat.le_refl _) o).trans ((h3.mono (by omega)).trans (h4.mono (by omega)))
theorem below_box {w w3 w4 : World} {o : Obj} (h3 : Below (w.heap.size + 1) (w.alloc o) w3) (h4 : Below w3.heap.size w3 w4) : Below (w.heap.size + 1) (w.alloc o) w4 := by
  have hsz : w.heap.size + 1 ≤ w3.heap.size := by have := h3.size; simpa using this
  exact h3.trans (h4.mono hsz)
theorem below_lit {w w1 : World} {o : Obj} (h : Below w.heap.size (w.alloc o) w1) : Below w.heap.size w w1 := ((Below.refl w.heap.size w).alloc (Nat.le_refl _) o).trans h
theorem put_as (T : List Nat) (c n : Int) (m : Bool) (hT : T = tagB c m n) (hr : RightT c n) (W : World) :
    Calls Try.prog 8 #[.slice none 0 0, .agg #[.int .i64 c, .bool m, .int .i64 n]] W fun e w' =>
      ∃ A' c', e = .returned (.slice A' T.length c') ∧ Own w' W.heap.size (.slice A' T.length c') T ∧ Below W.heap.size W w' := by
  subst hT
  exact put_nil c n m W hr
theorem putLen_as (T : List Nat) (n : Int) (hT : T = lenB n) (hn : n ≤ 9223372036854775807) (W : World) :
    Calls Try.prog 9 #[.slice none 0 0, .int .i64 n] W fun e w' =>
      ∃ A' c', e = .returned (.slice A' T.length c') ∧ Own w' W.heap.size (.slice A' T.length c') T ∧ Below W.heap.size W w' := by
  subst hT
  exact putLen_nil n W hn
theorem read_as (T behind : List Nat) (c n : Int) (m : Bool) (hT : T = tagB c m n) (hr : RightT c n) (hb : ∀ x ∈ behind, x < 256) (hl : behind.length ≤ 300) (A : Option Addr) (cp base : Nat) (W : World)
    (ho : Own W base (.slice A (T ++ behind).length cp) (T ++ behind)) :
    Calls Try.prog 14 #[.slice A (T.length + behind.length) cp] W fun e w' =>
      e = .returned (.tuple #[.agg #[.int .i64 c, .bool m, .int .i64 n], .int .i64 (T.length : Int), .int .i64 0]) ∧ Below W.heap.size W w' := by
  have hlt : T.length ≤ 100 := by
    rw [hT, tagB_len]
    have := Lib.bitLen_le n.toNat 64 (by omega) (by have := hr.2.2; omega)
    unfold count
    split <;> omega
  have := read_any A cp (T ++ behind) W _ ho.src (by rw [List.length_append]; omega) ho.cap (by
    intro x hx
    rcases List.mem_append.1 hx with h | h
    · rw [hT] at h
      exact tagB_byte c n m hr x h
    · exact hb x h)
  rw [List.length_append, show rdT (T ++ behind) = (c.toNat, m, n.toNat, T.length, 0) from by rw [hT]; exact rdT_back c n m hr behind] at this
  unfold tupT at this
  rw [Int.toNat_of_nonneg hr.1, Int.toNat_of_nonneg hr.2.2.1] at this
  exact this
theorem readLen_as (T behind : List Nat) (n : Int) (hT : T = lenB n) (h1 : 0 ≤ n) (h2 : n ≤ 2147483647) (hb : ∀ x ∈ behind, x < 256) (hl : behind.length ≤ 300) (A : Option Addr) (cp base : Nat) (W : World)
    (ho : Own W base (.slice A (T ++ behind).length cp) (T ++ behind)) :
    Calls Try.prog 16 #[.slice A (T.length + behind.length) cp] W fun e w' =>
      e = .returned (.tuple #[.int .i64 n, .int .i64 (T.length : Int), .int .i64 0]) ∧ W = w' := by
  have hlt : T.length ≤ 100 := by
    rw [hT, lenB_len]
    have := Lib.bitLen_le n.toNat 64 (by omega) (by omega)
    unfold count
    split <;> (try split) <;> omega
  have := readLen_any A cp (T ++ behind) W _ ho.src (by rw [List.length_append]; omega) ho.cap (by
    intro x hx
    rcases List.mem_append.1 hx with h | h
    · rw [hT] at h
      exact lenB_byte n (by omega) x h
    · exact hb x h)
  rw [List.length_append, show rdL (T ++ behind) = (n.toNat, T.length, 0) from by rw [hT]; exact rdL_back n h1 h2 behind] at this
  unfold tup3 at this
  rw [Int.toNat_of_nonneg h1] at this
  exact this
theorem read_cutAs (T : List Nat) (c n : Int) (m : Bool) (hT : T = tagB c m n) (hr : RightT c n) (A : Option Addr) (cp K : Nat) (W : World) (hc : cp ≤ 9223372036854775807) (hs : Src W K A cp T) :
    Calls Try.prog 14 #[.slice A (T.length - 1) cp] W fun e w' =>
      e = .returned (.tuple #[.agg #[.int .i64 0, .bool false, .int .i64 0], .int .i64 0, .int .i64 10]) ∧ Below W.heap.size W w' := by
  have hlt : T.length ≤ 100 := by
    rw [hT, tagB_len]
    have := Lib.bitLen_le n.toNat 64 (by omega) (by have := hr.2.2; omega)
    unfold count
    split <;> omega
  have e : (T.take (T.length - 1)).length = T.length - 1 := by rw [List.length_take]; omega
  have := read_any A cp (T.take (T.length - 1)) W K (hs.take _) (by omega) hc (fun x hx => by
    have := List.mem_of_mem_take hx
    rw [hT] at this
    exact tagB_byte c n m hr x this)
  rw [show rdT (T.take (T.length - 1)) = (0, false, 0, 0, 10) from by rw [hT]; exact rdT_cut c n m hr, e] at this
  exact this
theorem readLen_cutAs (T : List Nat) (n : Int) (hT : T = lenB n) (h1 : 0 ≤ n) (h2 : n ≤ 2147483647) (A : Option Addr) (cp K : Nat) (W : World) (hc : cp ≤ 9223372036854775807) (hs : Src W K A cp T) :
    Calls Try.prog 16 #[.slice A (T.length - 1) cp] W fun e w' =>
      e = .returned (.tuple #[.int .i64 0, .int .i64 0, .int .i64 10]) ∧ W = w' := by
  have hlt : T.length ≤ 100 := by
    rw [hT, lenB_len]
    have := Lib.bitLen_le n.toNat 64 (by omega) (by omega)
    unfold count
    split <;> (try split) <;> omega
  have e : (T.take (T.length - 1)).length = T.length - 1 := by rw [List.length_take]; omega
  have := readLen_any A cp (T.take (T.length - 1)) W K (hs.take _) (by omega) hc (fun x hx => by
    have := List.mem_of_mem_take hx
    rw [hT] at this
    exact lenB_byte n (by omega) x this)
  rw [show rdL (T.take (T.length - 1)) = (0, 0, 10) from by rw [hT]; exact rdL_cut n h1 h2, e] at this
  exact this

set_option maxRecDepth 8000 in
set_option maxHeartbeats 800000 in
theorem back_yes (c n : Int) (m : Bool) (k : Int) (N : Nat) (A : Option Addr) (cp : Nat) (bh T L : List Nat) (w : World) (hr : RightT c n) (hT : T = tagB c m n) (hL : L = lenB N) (hs : Src w w.heap.size A cp bh) (hby : ∀ x ∈ bh, x < 256) (hk : k % 2147483648 = (N : Int)) (hbl : bh.length ≤ 300) :
    Calls Try.prog 5 #[.agg #[.int .i64 c, .bool m, .int .i64 n], .int .i64 k, .slice A bh.length cp] w fun e w' => e = .returned (.bool true) ∧ Below w.heap.size w w' := by
  have hN2 : N < 2147483648 := by omega
  have ha : bits .and .i64 k 2147483647 = (N : Int) := by rw [and31, hk]
  have hT1 : 1 ≤ T.length := by rw [hT]; exact tagB_pos c n m
  have hL1 : 1 ≤ L.length := by rw [hL]; exact lenB_pos N (by omega)
  have hT2 : T.length ≤ 100 := by
    rw [hT, tagB_len]
    have := Lib.bitLen_le n.toNat 64 (by omega) (by have := hr.2.2; omega)
    unfold count
    split <;> omega
  have hL2 : L.length ≤ 100 := by
    rw [hL, lenB_len]
    have := Lib.bitLen_le (N : Int).toNat 64 (by omega) (by omega)
    unfold count
    split <;> (try split) <;> omega
  replace hr := Lib.hid hr
  replace hT := Lib.hid hT
  replace hL := Lib.hid hL
  replace hs : Hid (∀ W, Below w.heap.size w W → Src W w.heap.size A cp bh) := fun W hW => hs.below hW
  replace hby := Lib.hid hby
  clear hk
  go_enter Try.func5, Try.ntmps5
  go_wp2_with fail
  refine (right_yes c n m _ hr.out.1 hr.out.2.1 hr.out.2.2.1 hr.out.2.2.2).mono ?_
  rintro e w2 ⟨rfl, hb2⟩
  have HB2 := Lib.hid (show Below (w.heap.size + 1) (w.alloc (.cells #[.int .i64 c, .bool m, .int .i64 n] 24)) w2 from by simpa using hb2)
  obtain ⟨g0, g1, g2⟩ := box3 HB2.out
  clear hb2
  go_wp2_with fail
  refine (put_as T c n m hT.out hr.out _).mono ?_
  rintro e w3 ⟨A3, c3, rfl, ho3, hb3⟩
  have HB3 := Lib.hid (HB2.out.trans (hb3.mono (by have := HB2.out.size; simpa using this)))
  have HO3 := Lib.hid ho3
  have hc3 := ho3.cap
  have hl3 := ho3.src.le
  clear ho3 hb3 g0 g1 g2
  go_wp2_with (first
    | (at_builtin; refine append_src rfl (.tmp 39) (.tmp 40) rfl w3.heap.size _ [] rfl (Own.lit w3) w3.heap.size A3 c3 T rfl (HO3.out.src.keep (fun p hp => World.cell?_alloc_lt _ _ _ hp)) (by simp; omega) (by simp) ?_; intro A4 c4 w4 ho4 hb4; have HO4 := Lib.hid ho4; have HB4 := Lib.hid (below_lit hb4); clear ho4 hb4; have HS4 := Lib.hid (hs.out w4 (below_chain HB3.out HB4.out)))
    | (at_builtin; refine append_srcN rfl (.tmp 41) (.tmp 42) rfl w3.heap.size _ T rfl HO4.out w.heap.size A cp bh bh.length rfl rfl HS4.out (by omega) HB4.out.size ?_; intro A5 c5 w5 ho5 hb5; have HO5 := Lib.hid ho5; have HB5 := Lib.hid (HB4.out.trans hb5); clear ho5 hb5))
  refine (read_as T bh c n m hT.out hr.out hby.out hbl A5 c5 _ w5 HO5.out).mono ?_
  rintro e w6 ⟨rfl, hb6⟩
  have HB6 := Lib.hid (below_box HB3.out (HB5.out.trans (hb6.mono HB5.out.size)))
  have hsz6 : w3.heap.size ≤ w6.heap.size := (HB5.out.trans (hb6.mono HB5.out.size)).size
  have HS6 := Lib.hid (HO3.out.src.below (HB5.out.trans (hb6.mono HB5.out.size)))
  obtain ⟨g0, g1, g2⟩ := box3 HB6.out
  have hsw : w.heap.size < w6.heap.size := by have := HB6.out.size; simp at this; omega
  clear hb6 HO4 HB4 HO5 HB5 HB3 HB2 HO3
  go_wp2_with fail
  refine (read_cutAs T c n m hT.out hr.out A3 c3 w3.heap.size _ hc3 (HS6.out.keep (fun p hp => World.cell?_alloc_lt _ _ _ (by omega)))).mono ?_
  rintro e w7 ⟨rfl, hb7⟩
  have HB7 := Lib.hid (below_box HB6.out (below_lit (hb7.mono (by simp))))
  clear hb7 HB6 HS6 g0 g1 g2
  go_wp2_with fail
  refine (putLen_as L N hL.out (by omega) _).mono ?_
  rintro e w8 ⟨A8, c8, rfl, ho8, hb8⟩
  have HB8 := Lib.hid (below_box HB7.out (below_lit (hb8.mono (by simp))))
  have HO8 := Lib.hid ho8
  have hc8 := ho8.cap
  have hl8 := ho8.src.le
  clear ho8 hb8
  go_wp2_with (first
    | (at_builtin; refine append_src rfl (.tmp 79) (.tmp 80) rfl w8.heap.size _ [] rfl (Own.lit w8) w8.heap.size A8 c8 L rfl (HO8.out.src.keep (fun p hp => World.cell?_alloc_lt _ _ _ hp)) (by simp; omega) (by simp) ?_; intro A9 c9 w9 ho9 hb9; have HO9 := Lib.hid ho9; have HB9 := Lib.hid (below_lit hb9); clear ho9 hb9; have HS9 := Lib.hid (hs.out w9 (below_chain HB8.out HB9.out)))
    | (at_builtin; refine append_srcN rfl (.tmp 81) (.tmp 82) rfl w8.heap.size _ L rfl HO9.out w.heap.size A cp bh bh.length rfl rfl HS9.out (by omega) HB9.out.size ?_; intro A10 c10 w10 ho10 hb10; have HO10 := Lib.hid ho10; have HB10 := Lib.hid (HB9.out.trans hb10); clear ho10 hb10))
  refine (readLen_as L bh N hL.out (by omega) (by omega) hby.out hbl A10 c10 _ w10 HO10.out).mono ?_
  rintro e w11 ⟨rfl, rfl⟩
  have HS11 := Lib.hid (HO8.out.src.below HB10.out)
  have HB11 := Lib.hid (below_box HB8.out HB10.out)
  clear HO9 HB9 HO10 HB10 HS9
  go_wp2_with fail
  refine (readLen_cutAs L N hL.out (by omega) (by omega) A8 c8 w8.heap.size _ hc8 HS11.out).mono ?_
  rintro e w12 ⟨rfl, rfl⟩
  go_wp2_with fail
  go_ret
  exact ⟨rfl, below_lit (HB11.out.mono (by omega))⟩

set_option maxRecDepth 8000 in
set_option maxHeartbeats 800000 in
theorem back_no (c n : Int) (m : Bool) (k : Int) (N : Nat) (A : Option Addr) (cp : Nat) (bh : List Nat) (w : World) (hr : ¬ RightT c n) (hk : k % 2147483648 = (N : Int)) (hbl : bh.length ≤ 300) :
    Calls Try.prog 5 #[.agg #[.int .i64 c, .bool m, .int .i64 n], .int .i64 k, .slice A bh.length cp] w fun e w' => e = .returned (.bool true) ∧ Below w.heap.size w w' := by
  have hN2 : N < 2147483648 := by omega
  have ha : bits .and .i64 k 2147483647 = (N : Int) := by rw [and31, hk]
  replace hr := Lib.hid hr
  clear hk
  go_enter Try.func5, Try.ntmps5
  go_wp2_with fail
  refine (right_no c n m _ hr.out).mono ?_
  rintro e w2 ⟨rfl, hb2⟩
  have HB2 := Lib.hid (show Below (w.heap.size + 1) (w.alloc (.cells #[.int .i64 c, .bool m, .int .i64 n] 24)) w2 from by simpa using hb2)
  obtain ⟨g0, g1, g2⟩ := box3 HB2.out
  clear hb2
  go_wp2_with fail
  refine (put_same none 0 [] c n m _ (Src.none_ _ _) (by simp) hr.out).mono ?_
  rintro e w3 ⟨A3, c3, rfl, _, hb3⟩
  have HB3 := Lib.hid (below_box HB2.out hb3)
  clear hb3 g0 g1 g2
  go_wp2_with fail
  refine (right_yes 3 268435455 false _ (by decide) (by decide) (by decide) (by decide)).mono ?_
  rintro e w4 ⟨rfl, hb4⟩
  have HB4 := Lib.hid (below_box HB3.out hb4)
  clear hb4
  go_wp2_with fail
  go_ret
  exact ⟨rfl, below_lit (HB4.out.mono (by omega))⟩

set_option maxRecDepth 8000 in
set_option maxHeartbeats 800000 in
theorem back_yes_cut (c n : Int) (m : Bool) (k : Int) (N : Nat) (A : Option Addr) (cp : Nat) (bh T L : List Nat) (w : World) (hr : RightT c n) (hT : T = tagB c m n) (hL : L = lenB N) (hs : Src w w.heap.size A cp bh) (hby : ∀ x ∈ bh, x < 256) (hk : k % 2147483648 = (N : Int)) (nn : Nat) (hnn : 300 < nn) (hnc : nn ≤ cp) (hcc : cp ≤ 9223372036854775807) (hbl3 : bh.length = 300) :
    Calls Try.prog 5 #[.agg #[.int .i64 c, .bool m, .int .i64 n], .int .i64 k, .slice A nn cp] w fun e w' => e = .returned (.bool true) ∧ Below w.heap.size w w' := by
  have hN2 : N < 2147483648 := by omega
  have ha : bits .and .i64 k 2147483647 = (N : Int) := by rw [and31, hk]
  have hT1 : 1 ≤ T.length := by rw [hT]; exact tagB_pos c n m
  have hL1 : 1 ≤ L.length := by rw [hL]; exact lenB_pos N (by omega)
  have hT2 : T.length ≤ 100 := by
    rw [hT, tagB_len]
    have := Lib.bitLen_le n.toNat 64 (by omega) (by have := hr.2.2; omega)
    unfold count
    split <;> omega
  have hL2 : L.length ≤ 100 := by
    rw [hL, lenB_len]
    have := Lib.bitLen_le (N : Int).toNat 64 (by omega) (by omega)
    unfold count
    split <;> (try split) <;> omega
  have hbl : bh.length ≤ 300 := by omega
  have hkk := Lib.hid hbl3
  clear hbl3
  replace hr := Lib.hid hr
  replace hT := Lib.hid hT
  replace hL := Lib.hid hL
  replace hs : Hid (∀ W, Below w.heap.size w W → Src W w.heap.size A cp bh) := fun W hW => hs.below hW
  replace hby := Lib.hid hby
  clear hk
  go_enter Try.func5, Try.ntmps5
  go_wp2_with fail
  refine (right_yes c n m _ hr.out.1 hr.out.2.1 hr.out.2.2.1 hr.out.2.2.2).mono ?_
  rintro e w2 ⟨rfl, hb2⟩
  have HB2 := Lib.hid (show Below (w.heap.size + 1) (w.alloc (.cells #[.int .i64 c, .bool m, .int .i64 n] 24)) w2 from by simpa using hb2)
  obtain ⟨g0, g1, g2⟩ := box3 HB2.out
  clear hb2
  go_wp2_with fail
  refine (put_as T c n m hT.out hr.out _).mono ?_
  rintro e w3 ⟨A3, c3, rfl, ho3, hb3⟩
  have HB3 := Lib.hid (HB2.out.trans (hb3.mono (by have := HB2.out.size; simpa using this)))
  have HO3 := Lib.hid ho3
  have hc3 := ho3.cap
  have hl3 := ho3.src.le
  clear ho3 hb3 g0 g1 g2
  go_wp2_with (first
    | (at_builtin; refine append_src rfl (.tmp 39) (.tmp 40) rfl w3.heap.size _ [] rfl (Own.lit w3) w3.heap.size A3 c3 T rfl (HO3.out.src.keep (fun p hp => World.cell?_alloc_lt _ _ _ hp)) (by simp; omega) (by simp) ?_; intro A4 c4 w4 ho4 hb4; have HO4 := Lib.hid ho4; have HB4 := Lib.hid (below_lit hb4); clear ho4 hb4; have HS4 := Lib.hid (hs.out w4 (below_chain HB3.out HB4.out)))
    | (at_builtin; refine append_srcN rfl (.tmp 41) (.tmp 42) rfl w3.heap.size _ T rfl HO4.out w.heap.size A cp bh 300 hkk.out rfl HS4.out (by omega) HB4.out.size ?_; intro A5 c5 w5 ho5 hb5; have HO5 := Lib.hid ho5; have HB5 := Lib.hid (HB4.out.trans hb5); clear ho5 hb5))
  refine (read_as T bh c n m hT.out hr.out hby.out hbl A5 c5 _ w5 HO5.out).mono ?_
  rintro e w6 ⟨rfl, hb6⟩
  have HB6 := Lib.hid (below_box HB3.out (HB5.out.trans (hb6.mono HB5.out.size)))
  have hsz6 : w3.heap.size ≤ w6.heap.size := (HB5.out.trans (hb6.mono HB5.out.size)).size
  have HS6 := Lib.hid (HO3.out.src.below (HB5.out.trans (hb6.mono HB5.out.size)))
  obtain ⟨g0, g1, g2⟩ := box3 HB6.out
  have hsw : w.heap.size < w6.heap.size := by have := HB6.out.size; simp at this; omega
  clear hb6 HO4 HB4 HO5 HB5 HB3 HB2 HO3
  go_wp2_with fail
  refine (read_cutAs T c n m hT.out hr.out A3 c3 w3.heap.size _ hc3 (HS6.out.keep (fun p hp => World.cell?_alloc_lt _ _ _ (by omega)))).mono ?_
  rintro e w7 ⟨rfl, hb7⟩
  have HB7 := Lib.hid (below_box HB6.out (below_lit (hb7.mono (by simp))))
  clear hb7 HB6 HS6 g0 g1 g2
  go_wp2_with fail
  refine (putLen_as L N hL.out (by omega) _).mono ?_
  rintro e w8 ⟨A8, c8, rfl, ho8, hb8⟩
  have HB8 := Lib.hid (below_box HB7.out (below_lit (hb8.mono (by simp))))
  have HO8 := Lib.hid ho8
  have hc8 := ho8.cap
  have hl8 := ho8.src.le
  clear ho8 hb8
  go_wp2_with (first
    | (at_builtin; refine append_src rfl (.tmp 79) (.tmp 80) rfl w8.heap.size _ [] rfl (Own.lit w8) w8.heap.size A8 c8 L rfl (HO8.out.src.keep (fun p hp => World.cell?_alloc_lt _ _ _ hp)) (by simp; omega) (by simp) ?_; intro A9 c9 w9 ho9 hb9; have HO9 := Lib.hid ho9; have HB9 := Lib.hid (below_lit hb9); clear ho9 hb9; have HS9 := Lib.hid (hs.out w9 (below_chain HB8.out HB9.out)))
    | (at_builtin; refine append_srcN rfl (.tmp 81) (.tmp 82) rfl w8.heap.size _ L rfl HO9.out w.heap.size A cp bh 300 hkk.out rfl HS9.out (by omega) HB9.out.size ?_; intro A10 c10 w10 ho10 hb10; have HO10 := Lib.hid ho10; have HB10 := Lib.hid (HB9.out.trans hb10); clear ho10 hb10))
  refine (readLen_as L bh N hL.out (by omega) (by omega) hby.out hbl A10 c10 _ w10 HO10.out).mono ?_
  rintro e w11 ⟨rfl, rfl⟩
  have HS11 := Lib.hid (HO8.out.src.below HB10.out)
  have HB11 := Lib.hid (below_box HB8.out HB10.out)
  clear HO9 HB9 HO10 HB10 HS9
  go_wp2_with fail
  refine (readLen_cutAs L N hL.out (by omega) (by omega) A8 c8 w8.heap.size _ hc8 HS11.out).mono ?_
  rintro e w12 ⟨rfl, rfl⟩
  go_wp2_with fail
  go_ret
  exact ⟨rfl, below_lit (HB11.out.mono (by omega))⟩

set_option maxRecDepth 8000 in
set_option maxHeartbeats 800000 in
theorem back_no_cut (c n : Int) (m : Bool) (k : Int) (N : Nat) (A : Option Addr) (cp : Nat)  (w : World) (hr : ¬ RightT c n) (hk : k % 2147483648 = (N : Int)) (nn : Nat) (hnn : 300 < nn) (hnc : nn ≤ cp) (hcc : cp ≤ 9223372036854775807) :
    Calls Try.prog 5 #[.agg #[.int .i64 c, .bool m, .int .i64 n], .int .i64 k, .slice A nn cp] w fun e w' => e = .returned (.bool true) ∧ Below w.heap.size w w' := by
  have hN2 : N < 2147483648 := by omega
  have ha : bits .and .i64 k 2147483647 = (N : Int) := by rw [and31, hk]
  replace hr := Lib.hid hr
  clear hk
  go_enter Try.func5, Try.ntmps5
  go_wp2_with fail
  refine (right_no c n m _ hr.out).mono ?_
  rintro e w2 ⟨rfl, hb2⟩
  have HB2 := Lib.hid (show Below (w.heap.size + 1) (w.alloc (.cells #[.int .i64 c, .bool m, .int .i64 n] 24)) w2 from by simpa using hb2)
  obtain ⟨g0, g1, g2⟩ := box3 HB2.out
  clear hb2
  go_wp2_with fail
  refine (put_same none 0 [] c n m _ (Src.none_ _ _) (by simp) hr.out).mono ?_
  rintro e w3 ⟨A3, c3, rfl, _, hb3⟩
  have HB3 := Lib.hid (below_box HB2.out hb3)
  clear hb3 g0 g1 g2
  go_wp2_with fail
  refine (right_yes 3 268435455 false _ (by decide) (by decide) (by decide) (by decide)).mono ?_
  rintro e w4 ⟨rfl, hb4⟩
  have HB4 := Lib.hid (below_box HB3.out hb4)
  clear hb4
  go_wp2_with fail
  go_ret
  exact ⟨rfl, below_lit (HB4.out.mono (by omega))⟩
end Go.Proofs.Ytbgdhngdjakhfaa
