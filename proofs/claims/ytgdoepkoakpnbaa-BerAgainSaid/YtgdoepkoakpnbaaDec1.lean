/-
  The program's decode: an element that holds bytes.
-/
import Derived.Test.YtgdoepkoakpnbaaHead
import Derived.Test.YtgdoepkoakpnbaaMade
import Derived.Test.YtgdoepkoakpnbaaBerIn
import Derived.Test.YtgdoepkoakpnbaaShelf
namespace Go.Proofs.Ytgdoepkoakpnbaa
open Go.RowKit

/-- A panic with a number. -/
def errP (e : Nat) : Ending := .panicked [{ v := .iface 33 (.int .i64 (e : Int)), recovered := false }]
/-- What decode answers. -/
def DecPost (q : El × Nat) (w : World) (en : Ending) (w' : World) : Prop :=
  (q.2 = 0 → ∃ (Ab : Option Addr) (cb : Nat) (Ak : Option Addr) (ck : Nat), en = .returned (elV q.1 Ab cb Ak ck) ∧ ElIn w' (New w.heap.size w') q.1 Ab cb Ak ck) ∧
    (q.2 ≠ 0 → en = errP q.2) ∧ Below w.heap.size w w'

theorem own_new {w : World} {base : Nat} {v : Value} {l : List Nat} (h : Own w base v l) : ∃ A c, v = .slice A l.length c ∧ SrcI w (New base w) A c l := by
  obtain ⟨_, h0 | ⟨g, cap, cur, hv, hb, hg, hn, hm, hs, hx⟩⟩ := h
  · have : l = [] := List.eq_nil_of_length_eq_zero h0.2
    subst this
    exact ⟨none, 0, h0.1, ⟨Nat.le_refl _, fun _ => rfl, fun _ e => by cases e⟩⟩
  · refine ⟨_, cap, hv, hn, (by simp), fun ad e => ?_⟩
    injection e with e
    subst e
    refine ⟨fun _ => ⟨hb, _, _, hg⟩, fun j n hj => ?_⟩
    have hadd : (⟨g, 0, none⟩ : Addr).add j = ⟨g, j, none⟩ := by unfold Addr.add; split <;> simp_all
    rw [hadd, cell_of_row w g j cur _ _ hg]
    have hjl : j < l.length := (List.getElem?_eq_some_iff.1 hj).1
    have h2 : (cellsB l)[j]? = some (Value.int .u8 (n : Int)) := by simp [cellsB, hj]
    rw [← hx, List.getElem?_take, if_pos (by omega)] at h2
    simpa using h2
theorem clone_any (bl off n cp : Nat) (l : List Nat) (w : World) (K : Nat) (hs : Src w K (some ⟨bl, off, none⟩) cp l) (hn : l.length = n) (hl : n ≤ 1048600) :
    Calls Try.prog 51 #[.slice (some ⟨bl, off, none⟩) n cp] w fun e w' => ∃ A c, e = .returned (.slice A n c) ∧ SrcI w' (New w.heap.size w') A c l ∧ Below w.heap.size w w' := by
  subst hn
  refine (Try.bytes_Clone_at ⟨bl, off, none⟩ l.length cp (l.map fun n : Nat => (n : Int)) w (by simp) (by omega) fun i hi => ?_).mono ?_
  · rw [(hs.at_ _ rfl).2 i (l[i]) (by simp [hi])]
    simp [hi]
  · rintro e w' ⟨v', rfl, h1, h2, h3⟩
    have h4 : Own w' w.heap.size v' l := by
      unfold Own cellsB
      simp only [List.map_map] at h1
      exact h1
    obtain ⟨A, c, h5, h6⟩ := own_new h4
    exact ⟨A, c, by rw [h5], h6, h3⟩

set_option maxRecDepth 8000 in
set_option maxHeartbeats 800000 in
theorem dec_prim (b off cp d c n al fr : Nat) (l : List Nat) (w : World) (K : Nat) (hK : K ≤ w.heap.size) (hs : Src w K (some ⟨b, off, none⟩) cp l) (hl : l.length ≤ 1048600) (hcp : cp ≤ 9223372036854775807)
    (h1 : fr ≤ al) (h2 : al ≤ l.length) :
    Calls Try.prog 33 #[.slice (some ⟨b, off, none⟩) l.length cp, .agg #[.int .i64 (c : Int), .bool false, .int .i64 (n : Int), .int .i64 (fr : Int), .int .i64 (al : Int)], .int .i64 (d : Int)] w (DecPost (⟨(c : Int), false, (n : Int), (l.take al).drop fr, .nil⟩, 0) w) := by
  have hlen : ((l.take al).drop fr).length = al - fr := by rw [List.length_drop, List.length_take]; omega
  have hcap := hs.le
  have CC : ∀ w', Below w.heap.size w w' → ∀ o c1, Src w K (some ⟨b, o, none⟩) c1 ((l.take al).drop fr) → Calls Try.prog 51 #[.slice (some ⟨b, o, none⟩) (al - fr) c1] w' fun e w'' => ∃ A c, e = .returned (.slice A (al - fr) c) ∧ SrcI w'' (New w'.heap.size w'') A c ((l.take al).drop fr) ∧ Below w'.heap.size w' w'' :=
    fun w' hb o c1 h => clone_any b o (al - fr) c1 _ w' K (h.below (hb.mono hK)) hlen (by omega)
  obtain ⟨L, hL⟩ : ∃ L, L = (l.take al).drop fr := ⟨_, rfl⟩
  have hsL : ∀ o c1, (o = off + fr ∧ c1 = cp - fr ∨ fr = al) → al - fr ≤ c1 → Src w K (some ⟨b, o, none⟩) c1 ((l.take al).drop fr) := by
    intro o c1 h h3
    rcases h with ⟨rfl, rfl⟩ | h
    · exact (hs.take al).behind (by rw [List.length_take]; omega)
    · have : (l.take al).drop fr = [] := List.eq_nil_of_length_eq_zero (by rw [hlen]; omega)
      rw [this]
      exact ⟨by simp, (fun e => by cases e), fun ad e => ⟨fun h0 => absurd h0 (by simp), fun j m hj => by simp at hj⟩⟩
  rw [← hL] at hlen CC hsL ⊢
  replace CC := Lib.hid CC
  replace hsL := Lib.hid hsL
  replace hlen := Lib.hid hlen
  clear hL hs
  have fin : ∀ (W w3 : World) (A : Option Addr) (cc : Nat), w.heap.size + 3 ≤ W.heap.size → Below w.heap.size w W → W.heap[w.heap.size + 1]? = some (.cells #[.int .i64 0, .bool false, .int .i64 0, .slice none 0 0, .slice none 0 0] 27 (0, 0)) →
      SrcI w3 (New W.heap.size w3) A cc L → Below W.heap.size W w3 → DecPost (⟨(c : Int), false, (n : Int), L, .nil⟩, 0) w (.returned (.agg #[.int .i64 (c : Int), .bool false, .int .i64 (n : Int), .slice A (al - fr) cc, .slice none 0 0]))
        (set5 (w3.setCell ⟨w.heap.size + 2, 3, none⟩ (.slice A (al - fr) cc)) (w.heap.size + 1) (.int .i64 (c : Int)) (.bool false) (.int .i64 (n : Int)) (.slice A (al - fr) cc) (.slice none 0 0)) := by
    intro W w3 A cc hW hBW hZ hsr hb3
    have hs3 := hb3.size
    refine ⟨fun _ => ⟨A, cc, none, 0, ?_, ⟨(hsr.keep fun p hp => ?_).more fun x hx => ⟨by have := hx.1; omega, (hx.2.setCell _ _).set5 _ _ _ _ _ _⟩, SlI.nil0 _ _⟩⟩, fun h => absurd rfl h, set5_below ((hBW.trans (hb3.mono (by omega))).setCell (by show w.heap.size ≤ w.heap.size + 2; omega) _) (by omega) _ _ _ _ _⟩
    · unfold elV El.kids
      rw [← hlen.out]
      rfl
    · have hp1 : W.heap.size ≤ p.block := hp.1
      rw [set5_other _ _ _ _ _ _ _ p (by omega)]
      exact World.cell?_of_block (heap_setCell_other _ _ _ _ (by show p.block ≠ w.heap.size + 2; omega))
  replace fin := Lib.hid fin
  by_cases hfc : fr = cp
  · have hac : al = cp := by omega
    subst hfc
    subst hac
    simp only [Nat.sub_self] at CC fin hlen hsL
    go_enter Try.func33, Try.ntmps33
    go_wp2_with fail
    obtain ⟨W, hW⟩ : ∃ W, W = ((w.alloc (.cells #[.int .i64 (c : Int), .bool false, .int .i64 (n : Int), .int .i64 (al : Int), .int .i64 (al : Int)] 71)).alloc (.cells #[.int .i64 0, .bool false, .int .i64 0, .slice none 0 0, .slice none 0 0] 27)).alloc (.cells #[.int .i64 (c : Int), .bool false, .int .i64 (n : Int), .slice none 0 0, .slice none 0 0] 27) := ⟨_, rfl⟩
    have hBW : Below w.heap.size w W := by rw [hW]; go_grown
    have hWs : W.heap.size = w.heap.size + 3 := by rw [hW]; simp
    have hWH : W.heap[w.heap.size]? = some (.cells #[.int .i64 (c : Int), .bool false, .int .i64 (n : Int), .int .i64 (al : Int), .int .i64 (al : Int)] 71 (0, 0)) := by
      rw [hW, Below.heap_alloc _ _ _ (by simp; omega), Below.heap_alloc _ _ _ (by simp)]; exact heap_alloc_new w _
    have hWZ : W.heap[w.heap.size + 1]? = some (.cells #[.int .i64 0, .bool false, .int .i64 0, .slice none 0 0, .slice none 0 0] 27 (0, 0)) := by
      rw [hW, Below.heap_alloc _ _ _ (by simp)]; exact heap_alloc_new (w.alloc _) _ |> (by simpa using ·)
    have hWX : W.heap[w.heap.size + 2]? = some (.cells #[.int .i64 (c : Int), .bool false, .int .i64 (n : Int), .slice none 0 0, .slice none 0 0] 27 (0, 0)) := by
      rw [hW]; exact heap_alloc_new ((w.alloc _).alloc _) _ |> (by simpa using ·)
    rw [← hW]
    clear hW
    refine (CC.out W hBW off 0 (hsL.out _ _ (.inr trivial) (by omega))).mono ?_
    rintro en w3 ⟨A, cc, rfl, hsr, hb3⟩
    have hs3 := hb3.size
    have F := Lib.hid (fin.out W w3 A cc (by omega) hBW hWZ hsr hb3)
    have h3Z : (w3.setCell ⟨w.heap.size + 2, 3, none⟩ (.slice A 0 cc)).heap[w.heap.size + 1]? = some (.cells #[.int .i64 0, .bool false, .int .i64 0, .slice none 0 0, .slice none 0 0] 27 (0, 0)) := by
      rw [_root_.Go.heap_setCell_other _ _ _ _ (by show w.heap.size + 1 ≠ w.heap.size + 2; omega), hb3.block _ (by omega)]; exact hWZ
    have h3X : w3.heap[w.heap.size + 2]? = some (.cells #[.int .i64 (c : Int), .bool false, .int .i64 (n : Int), .slice none 0 0, .slice none 0 0] 27 (0, 0)) := by
      rw [hb3.block _ (by omega)]; exact hWX
    have h3Y : (w3.setCell ⟨w.heap.size + 2, 3, none⟩ (.slice A 0 cc)).heap[w.heap.size + 2]? = some (.cells #[.int .i64 (c : Int), .bool false, .int .i64 (n : Int), .slice A 0 cc, .slice none 0 0] 27 (0, 0)) :=
      _root_.Go.heap_setCell_same _ _ _ _ _ _ h3X
    obtain ⟨z0, z1, z2, z3, z4, k0, k1, k2, k3, k4⟩ := cells5 h3Z
    obtain ⟨_, _, _, x3, _, _, _, _, j3, _⟩ := cells5 h3X
    obtain ⟨y0, y1, y2, y3, y4, _⟩ := cells5 h3Y
    replace h3Z := Lib.hid h3Z
    replace h3X := Lib.hid h3X
    replace h3Y := Lib.hid h3Y
    replace hWH := Lib.hid hWH
    replace hWZ := Lib.hid hWZ
    replace hWX := Lib.hid hWX
    replace hsr := Lib.hid hsr
    replace hb3 := Lib.hid hb3
    replace hBW := Lib.hid hBW
    replace hWs := Lib.hid hWs
    go_wp2_with fail
    clear z0 z1 z2 z3 z4 k0 k1 k2 k3 k4 x3 j3 y0 y1 y2 y3 y4
    have HX : set5 (w3.setCell ⟨w.heap.size + 2, 3, none⟩ (.slice A 0 cc)) (w.heap.size + 1) (.int .i64 (c : Int)) (.bool false) (.int .i64 (n : Int)) (.slice A 0 cc) (.slice none 0 0) = ((((((w3.setCell ⟨w.heap.size + 2, 3, none⟩ (.slice A 0 cc)).setCell ⟨w.heap.size + 1, 0, none⟩ (.int .i64 (c : Int))).setCell ⟨w.heap.size + 1, 1, none⟩ (.bool false)).setCell ⟨w.heap.size + 1, 2, none⟩ (.int .i64 (n : Int))).setCell ⟨w.heap.size + 1, 3, none⟩ (.slice A 0 cc)).setCell ⟨w.heap.size + 1, 4, none⟩ (.slice none 0 0)) := rfl
    rw [← HX]
    have HC := set5_same h3Z.out (.int .i64 (c : Int)) (.bool false) (.int .i64 (n : Int)) (.slice A 0 cc) (.slice none 0 0)
    obtain ⟨W5, hW5⟩ : ∃ W5, W5 = set5 (w3.setCell ⟨w.heap.size + 2, 3, none⟩ (.slice A 0 cc)) (w.heap.size + 1) (.int .i64 (c : Int)) (.bool false) (.int .i64 (n : Int)) (.slice A 0 cc) (.slice none 0 0) := ⟨_, rfl⟩
    have F2 := F.out
    rw [← hW5] at HC F2 ⊢
    clear HX hW5 F
    obtain ⟨q0, q1, q2, q3, q4, _⟩ := cells5 HC
    exact bodyPost_ret (v := .agg #[.int .i64 (c : Int), .bool false, .int .i64 (n : Int), .slice A 0 cc, .slice none 0 0]) (by simp [results, Try.results33, go_sem, q0, q1, q2, q3, q4]) rfl F2
  · skip
    go_enter Try.func33, Try.ntmps33
    go_wp2_with fail
    obtain ⟨W, hW⟩ : ∃ W, W = ((w.alloc (.cells #[.int .i64 (c : Int), .bool false, .int .i64 (n : Int), .int .i64 (fr : Int), .int .i64 (al : Int)] 71)).alloc (.cells #[.int .i64 0, .bool false, .int .i64 0, .slice none 0 0, .slice none 0 0] 27)).alloc (.cells #[.int .i64 (c : Int), .bool false, .int .i64 (n : Int), .slice none 0 0, .slice none 0 0] 27) := ⟨_, rfl⟩
    have hBW : Below w.heap.size w W := by rw [hW]; go_grown
    have hWs : W.heap.size = w.heap.size + 3 := by rw [hW]; simp
    have hWH : W.heap[w.heap.size]? = some (.cells #[.int .i64 (c : Int), .bool false, .int .i64 (n : Int), .int .i64 (fr : Int), .int .i64 (al : Int)] 71 (0, 0)) := by
      rw [hW, Below.heap_alloc _ _ _ (by simp; omega), Below.heap_alloc _ _ _ (by simp)]; exact heap_alloc_new w _
    have hWZ : W.heap[w.heap.size + 1]? = some (.cells #[.int .i64 0, .bool false, .int .i64 0, .slice none 0 0, .slice none 0 0] 27 (0, 0)) := by
      rw [hW, Below.heap_alloc _ _ _ (by simp)]; exact heap_alloc_new (w.alloc _) _ |> (by simpa using ·)
    have hWX : W.heap[w.heap.size + 2]? = some (.cells #[.int .i64 (c : Int), .bool false, .int .i64 (n : Int), .slice none 0 0, .slice none 0 0] 27 (0, 0)) := by
      rw [hW]; exact heap_alloc_new ((w.alloc _).alloc _) _ |> (by simpa using ·)
    rw [← hW]
    clear hW
    refine (CC.out W hBW (off + fr) (cp - fr) (hsL.out _ _ (.inl ⟨rfl, rfl⟩) (by omega))).mono ?_
    rintro en w3 ⟨A, cc, rfl, hsr, hb3⟩
    have hs3 := hb3.size
    have F := Lib.hid (fin.out W w3 A cc (by omega) hBW hWZ hsr hb3)
    have h3Z : (w3.setCell ⟨w.heap.size + 2, 3, none⟩ (.slice A (al - fr) cc)).heap[w.heap.size + 1]? = some (.cells #[.int .i64 0, .bool false, .int .i64 0, .slice none 0 0, .slice none 0 0] 27 (0, 0)) := by
      rw [_root_.Go.heap_setCell_other _ _ _ _ (by show w.heap.size + 1 ≠ w.heap.size + 2; omega), hb3.block _ (by omega)]; exact hWZ
    have h3X : w3.heap[w.heap.size + 2]? = some (.cells #[.int .i64 (c : Int), .bool false, .int .i64 (n : Int), .slice none 0 0, .slice none 0 0] 27 (0, 0)) := by
      rw [hb3.block _ (by omega)]; exact hWX
    have h3Y : (w3.setCell ⟨w.heap.size + 2, 3, none⟩ (.slice A (al - fr) cc)).heap[w.heap.size + 2]? = some (.cells #[.int .i64 (c : Int), .bool false, .int .i64 (n : Int), .slice A (al - fr) cc, .slice none 0 0] 27 (0, 0)) :=
      _root_.Go.heap_setCell_same _ _ _ _ _ _ h3X
    obtain ⟨z0, z1, z2, z3, z4, k0, k1, k2, k3, k4⟩ := cells5 h3Z
    obtain ⟨_, _, _, x3, _, _, _, _, j3, _⟩ := cells5 h3X
    obtain ⟨y0, y1, y2, y3, y4, _⟩ := cells5 h3Y
    replace h3Z := Lib.hid h3Z
    replace h3X := Lib.hid h3X
    replace h3Y := Lib.hid h3Y
    replace hWH := Lib.hid hWH
    replace hWZ := Lib.hid hWZ
    replace hWX := Lib.hid hWX
    replace hsr := Lib.hid hsr
    replace hb3 := Lib.hid hb3
    replace hBW := Lib.hid hBW
    replace hWs := Lib.hid hWs
    go_wp2_with fail
    clear z0 z1 z2 z3 z4 k0 k1 k2 k3 k4 x3 j3 y0 y1 y2 y3 y4
    have HX : set5 (w3.setCell ⟨w.heap.size + 2, 3, none⟩ (.slice A (al - fr) cc)) (w.heap.size + 1) (.int .i64 (c : Int)) (.bool false) (.int .i64 (n : Int)) (.slice A (al - fr) cc) (.slice none 0 0) = ((((((w3.setCell ⟨w.heap.size + 2, 3, none⟩ (.slice A (al - fr) cc)).setCell ⟨w.heap.size + 1, 0, none⟩ (.int .i64 (c : Int))).setCell ⟨w.heap.size + 1, 1, none⟩ (.bool false)).setCell ⟨w.heap.size + 1, 2, none⟩ (.int .i64 (n : Int))).setCell ⟨w.heap.size + 1, 3, none⟩ (.slice A (al - fr) cc)).setCell ⟨w.heap.size + 1, 4, none⟩ (.slice none 0 0)) := rfl
    rw [← HX]
    have HC := set5_same h3Z.out (.int .i64 (c : Int)) (.bool false) (.int .i64 (n : Int)) (.slice A (al - fr) cc) (.slice none 0 0)
    obtain ⟨W5, hW5⟩ : ∃ W5, W5 = set5 (w3.setCell ⟨w.heap.size + 2, 3, none⟩ (.slice A (al - fr) cc)) (w.heap.size + 1) (.int .i64 (c : Int)) (.bool false) (.int .i64 (n : Int)) (.slice A (al - fr) cc) (.slice none 0 0) := ⟨_, rfl⟩
    have F2 := F.out
    rw [← hW5] at HC F2 ⊢
    clear HX hW5 F
    obtain ⟨q0, q1, q2, q3, q4, _⟩ := cells5 HC
    exact bodyPost_ret (v := .agg #[.int .i64 (c : Int), .bool false, .int .i64 (n : Int), .slice A (al - fr) cc, .slice none 0 0]) (by simp [results, Try.results33, go_sem, q0, q1, q2, q3, q4]) rfl F2
end Go.Proofs.Ytgdoepkoakpnbaa
