/-
  The law package's class: two classes that read alike.
-/
import Derived.Test.YtllmffmmfpecaaaDoorMB8
namespace Go.Proofs.YtllmffmmfpecaaaDoor
open Go.RowKit

set_option maxRecDepth 8000 in
set_option maxHeartbeats 1600000 in
theorem class8_any (n o s : ByteArray) (k : Int) (M Y : List (List UInt8)) (m y : Nat) (A1 A2 B1 B2 : Option Addr) (c1 c2 d1 d2 : Nat) (w : World)
    (hm : M.length = m) (hy : Y.length = y) (hm1 : m ≤ 1000) (hy1 : y ≤ 1000)
    (s1 : SrcO w w.heap.size A1 c1 M) (s2 : SrcO w w.heap.size A2 c2 Y) (t1 : SrcO w w.heap.size B1 d1 M) (t2 : SrcO w w.heap.size B2 d2 Y) :
    Calls Tryd.prog 16 #[.agg #[.string n, .string o, .string s, .int .i64 k, .slice A1 m c1, .slice A2 y c2], .agg #[.string n, .string o, .string s, .int .i64 k, .slice B1 m d1, .slice B2 y d2]] w fun e w' => e = .returned (.bool true) ∧ Below w.heap.size w w' := by
  have C1 := Lib.hid fun (W : World) (h1 : SrcO W W.heap.size A1 c1 M) (h2 : SrcO W W.heap.size B1 d1 M) => same8_any A1 B1 c1 d1 m M W hm hm1 h1 h2
  have C2 := Lib.hid fun (W : World) (h1 : SrcO W W.heap.size A2 c2 Y) (h2 : SrcO W W.heap.size B2 d2 Y) => same8_any A2 B2 c2 d2 y Y W hy hy1 h1 h2
  replace hm := Lib.hid hm
  replace hy := Lib.hid hy
  replace s1 := Lib.hid s1
  replace s2 := Lib.hid s2
  replace t1 := Lib.hid t1
  replace t2 := Lib.hid t2
  have e1 : (n.toList == n.toList) = true := by simp
  have e2 : (o.toList == o.toList) = true := by simp
  have e3 : (s.toList == s.toList) = true := by simp
  go_enter Tryd.func16, Tryd.ntmps16
  go_wp2_with fail
  obtain ⟨w1, hw1⟩ : ∃ w1, w1 = (w.alloc (.cells #[.string n, .string o, .string s, .int .i64 k, .slice A1 m c1, .slice A2 y c2] 31)).alloc (.cells #[.string n, .string o, .string s, .int .i64 k, .slice B1 m d1, .slice B2 y d2] 34) := ⟨_, rfl⟩
  have HB0 : Hid (Below w.heap.size w w1) := Lib.hid (by rw [hw1]; exact ((Below.refl _ _).alloc (Nat.le_refl _) _).alloc (by simp) _)
  have hz1 : w1.heap.size = w.heap.size + 2 := by rw [hw1]; simp
  have o1 : w1.heap[w.heap.size]? = some (.cells #[.string n, .string o, .string s, .int .i64 k, .slice A1 m c1, .slice A2 y c2] 31) := by rw [hw1]; exact allocs_at [_, _] w 0
  have o2 : w1.heap[w.heap.size + 1]? = some (.cells #[.string n, .string o, .string s, .int .i64 k, .slice B1 m d1, .slice B2 y d2] 34) := by rw [hw1]; exact allocs_at [_, _] w 1
  have q1 : w1.cell? ⟨w.heap.size, 5, none⟩ = some (.slice A2 y c2) := cell_of_row _ _ _ _ _ _ o1
  have q2 : w1.cell? ⟨w.heap.size + 1, 5, none⟩ = some (.slice B2 y d2) := cell_of_row _ _ _ _ _ _ o2
  clear o1 o2
  rw [← hw1]
  replace hw1 := Lib.hid hw1
  refine (C1.out _ ((s1.out.below HB0.out).more (by omega)) ((t1.out.below HB0.out).more (by omega))).mono ?_
  rintro _ w2 ⟨rfl, hb2⟩
  have z2 := hb2.size
  have r1 : w2.cell? ⟨w.heap.size, 5, none⟩ = some (.slice A2 y c2) := (hb2.cell (p := ⟨w.heap.size, 5, none⟩) (by show w.heap.size < _; omega)).trans q1
  have r2 : w2.cell? ⟨w.heap.size + 1, 5, none⟩ = some (.slice B2 y d2) := (hb2.cell (p := ⟨w.heap.size + 1, 5, none⟩) (by show w.heap.size + 1 < _; omega)).trans q2
  have HB2 : Hid (Below w.heap.size w w2) := Lib.hid (HB0.out.trans (hb2.mono (by omega)))
  clear hb2 C1 q1 q2
  go_wp2_with fail
  refine (C2.out _ ((s2.out.below HB2.out).more (by omega)) ((t2.out.below HB2.out).more (by omega))).mono ?_
  rintro _ w3 ⟨rfl, hb3⟩
  have HB3 : Hid (Below w.heap.size w w3) := Lib.hid (HB2.out.trans (hb3.mono (by omega)))
  clear hb3
  go_wp2_with fail
  go_ret
  exact ⟨rfl, HB3.out⟩
end Go.Proofs.YtllmffmmfpecaaaDoor
