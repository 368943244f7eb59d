/-
  The program's Filter and Put.
-/
import Derived.Test.YtbdbgiecfkgimaaDoorPHigh10
import Derived.Laws.EntriesVeiled
import Derived.Test.YtbdbgiecfkgimaaDoorPEscF10
import Derived.Test.YtbdbgiecfkgimaaDoorPEscP10
namespace Go.Proofs.YtbdbgiecfkgimaaDoor
open Go.RowKit Go.Lib

/-- A variable of its own for a text, a function beside it, and what the call in between does. -/
theorem two_boxes (s : ByteArray) (v : Value) (w w1 : World) (r : Bool) (hb : Below (w.alloc (.cells #[.string s] 9)).heap.size (w.alloc (.cells #[.string s] 9)) w1) (hv : HighF w1 v s r) (W : World)
    (hW : Below (w1.alloc (.cells #[v] 32)).heap.size (w1.alloc (.cells #[v] 32)) W) :
    W.heap[w.heap.size]? = some (.cells #[.string s] 9 (0, 0)) ∧ W.heap[w1.heap.size]? = some (.cells #[v] 32 (0, 0)) ∧ HighF W v s r := by
  have hlt : w.heap.size < (w.alloc (.cells #[.string s] 9)).heap.size := by simp
  have hlt2 := Nat.lt_of_lt_of_le hlt hb.size
  have hal : Below w1.heap.size w1 (w1.alloc (.cells #[v] 32)) := (Below.refl _ _).alloc (Nat.le_refl _) _
  refine ⟨blk_below ?_ hW, blk_below (heap_alloc_new w1 _) hW, (hv.below hal).below hW⟩
  rw [heap_alloc_old w1 _ hlt2, hb.block _ hlt, heap_alloc_new w]
theorem base_boxes (s : ByteArray) (v : Value) (w w1 W : World) (hb : Below (w.alloc (.cells #[.string s] 9)).heap.size (w.alloc (.cells #[.string s] 9)) w1)
    (hW : Below (w1.alloc (.cells #[v] 32)).heap.size (w1.alloc (.cells #[v] 32)) W) : Below w.heap.size w W := by
  have hlt : w.heap.size < (w.alloc (.cells #[.string s] 9)).heap.size := by simp
  have hlt2 := Nat.lt_of_lt_of_le hlt hb.size
  have h1 : Below w.heap.size w (w.alloc (.cells #[.string s] 9)) := (Below.refl _ _).alloc (Nat.le_refl _) _
  have h2 := h1.trans (hb.mono (Nat.le_of_lt hlt))
  exact (h2.alloc (Nat.le_of_lt hlt2) _).trans (hW.mono (by simp; omega))
set_option maxHeartbeats 1600000 in
theorem pfilter_any (s : ByteArray) (w : World) (hs : s.size ≤ 2000) (hT : Tabs w) :
    Calls Tryd.prog 9 #[.string s] w fun e w' => e = .returned (.string (strB (filterE (rightB s) (bs s)))) ∧ Below w.heap.size w w' := by
  have hal : Below w.heap.size w (w.alloc (.cells #[.string s] 9)) := (Below.refl _ _).alloc (Nat.le_refl _) _
  have C := Lib.hid (codesHigh_any s _ hs (hT.below hal))
  have hfin : escF (fun _ => false) (codF (rightB s) (bs s)) (bs s) s.size = filterE (rightB s) (bs s) := by
    rw [filter_esc _ _ _ (by rw [bs_len]; exact Nat.le_refl _), bs_endE]
  rw [← hfin]
  clear hfin hal
  replace hT := Lib.hid hT
  go_enter Tryd.func9, Tryd.ntmps9
  go_wp2_with fail
  refine C.out.mono ?_
  rintro _ w1 ⟨v, rfl, hv, hb⟩
  have hv2 := hv
  obtain ⟨bw, b3, rfl, hv3, hv4⟩ := hv2
  clear hv3 hv4
  have hcx := cell_of_one (two_boxes s _ w w1 (rightB s) hb hv _ (Below.refl _ _)).1
  have BX := Lib.hid (fun W hW => two_boxes s _ w w1 (rightB s) hb hv W hW)
  have BB := Lib.hid (fun W hW => base_boxes s (.func (.func 42) #[] #[.pointer (some ⟨bw, 0, none⟩), .pointer (some ⟨b3, 0, none⟩)]) w w1 W hb hW)
  clear hv hb
  dsimp only []
  go_wp2_with fail
  refine (escapeFilter_any s w.heap.size w1.heap.size (fun _ => false) (codF (rightB s) (bs s)) _ hs ?_ ?_).mono ?_
  · intro k hk W hW
    go_enter Tryd.func21, Tryd.ntmps21
    go_wp2_with fail
    go_ret
    exact ⟨rfl, rfl⟩
  · intro k hk W hW
    obtain ⟨h1, h2, h3⟩ := BX.out W hW
    exact codedF_any s _ _ _ k _ W hk h1 h2 h3
  · rintro _ w3 ⟨rfl, h3⟩
    replace h3 := Lib.hid (BB.out _ h3)
    dsimp only []
    go_wp2_with fail
    go_ret
    exact ⟨rfl, h3.out⟩
set_option maxHeartbeats 1600000 in
theorem pput_any (s : ByteArray) (w : World) (hs : s.size ≤ 2000) (hT : Tabs w) :
    Calls Tryd.prog 11 #[.string s] w fun e w' => e = .returned (.string (strB (putE (rightB s) true (bs s)))) ∧ Below w.heap.size w w' := by
  have hal : Below w.heap.size w (w.alloc (.cells #[.string s] 9)) := (Below.refl _ _).alloc (Nat.le_refl _) _
  have C := Lib.hid (codesHigh_any s _ hs (hT.below hal))
  have hfin : escF (mrkP (bs s)) (codP (rightB s) (bs s)) (bs s) s.size = putE (rightB s) true (bs s) := by
    rw [← put_esc, bs_len]
  rw [← hfin]
  clear hfin hal
  replace hT := Lib.hid hT
  go_enter Tryd.func11, Tryd.ntmps11
  go_wp2_with fail
  refine C.out.mono ?_
  rintro _ w1 ⟨v, rfl, hv, hb⟩
  have hv2 := hv
  obtain ⟨bw, b3, rfl, hv3, hv4⟩ := hv2
  clear hv3 hv4
  have hcx := cell_of_one (two_boxes s _ w w1 (rightB s) hb hv _ (Below.refl _ _)).1
  have BX := Lib.hid (fun W hW => two_boxes s _ w w1 (rightB s) hb hv W hW)
  have BB := Lib.hid (fun W hW => base_boxes s (.func (.func 42) #[] #[.pointer (some ⟨bw, 0, none⟩), .pointer (some ⟨b3, 0, none⟩)]) w w1 W hb hW)
  clear hv hb
  dsimp only []
  go_wp2_with fail
  refine (escapePut_any s w.heap.size w1.heap.size (mrkP (bs s)) (codP (rightB s) (bs s)) _ hs ?_ ?_).mono ?_
  · intro k hk W hW
    obtain ⟨h1, h2, h3⟩ := BX.out W hW
    exact markedP_any s _ k W hk hs h1
  · intro k hk W hW
    obtain ⟨h1, h2, h3⟩ := BX.out W hW
    exact codedP_any s _ _ _ k _ W hk h1 h2 h3
  · rintro _ w3 ⟨rfl, h3⟩
    replace h3 := Lib.hid (BB.out _ h3)
    dsimp only []
    go_wp2_with fail
    go_ret
    exact ⟨rfl, h3.out⟩
end Go.Proofs.YtbdbgiecfkgimaaDoor
