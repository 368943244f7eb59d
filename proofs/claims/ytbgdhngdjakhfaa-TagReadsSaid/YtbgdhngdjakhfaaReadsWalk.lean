/-
  The walk of the law TagReads.
-/
import Derived.Test.YtbgdhngdjakhfaaRefRead
import Derived.Test.YtbgdhngdjakhfaaAppend
import Derived.Test.YtbgdhngdjakhfaaBackWalk
namespace Go.Proofs.Ytbgdhngdjakhfaa
open Go.RowKit

set_option maxRecDepth 8000 in
set_option maxHeartbeats 800000 in
theorem reads_all (A : Option Addr) (cp : Nat) (l : List Nat) (w : World) (hs : Src w w.heap.size A cp l) (hby : ∀ x ∈ l, x < 256) (hcc : cp ≤ 9223372036854775807) (hl : l.length ≤ 300) :
    Calls Try.prog 4 #[.slice A l.length cp] w fun e w' => e = .returned (.bool true) ∧ Below w.heap.size w w' := by
  obtain ⟨q1, q2, q3, q4, q5, hq⟩ : ∃ q1 q2 q3 q4 q5, rdT l = (q1, q2, q3, q4, q5) := ⟨_, _, _, _, _, rfl⟩
  obtain ⟨r1, r2, r3, hr⟩ : ∃ r1 r2 r3, rdL l = (r1, r2, r3) := ⟨_, _, _, rfl⟩
  have c1 : ∀ W, Below w.heap.size w W → Calls Try.prog 14 #[.slice A l.length cp] W fun e w' => e = .returned (.tuple #[.agg #[.int .i64 (q1 : Int), .bool q2, .int .i64 (q3 : Int)], .int .i64 (q4 : Int), .int .i64 (q5 : Int)]) ∧ Below W.heap.size W w' := by
    intro W hW
    have := read_any A cp l W _ (hs.below hW) (by omega) hcc hby
    rw [hq] at this
    skip
    exact this
  have c2 : ∀ W, Below w.heap.size w W → Calls Try.prog 15 #[.slice A l.length cp] W fun e w' => e = .returned (.tuple #[.int .i64 (q1 : Int), .bool q2, .int .i64 (q3 : Int), .int .i64 (q4 : Int), .int .i64 (q5 : Int)]) ∧ W = w' := by
    intro W hW
    have := ref_any A cp l W _ (hs.below hW) (by omega) hby
    rw [hq] at this
    skip
    exact this
  have c3 : ∀ W, Below w.heap.size w W → Calls Try.prog 16 #[.slice A l.length cp] W fun e w' => e = .returned (.tuple #[.int .i64 (r1 : Int), .int .i64 (r2 : Int), .int .i64 (r3 : Int)]) ∧ W = w' := by
    intro W hW
    have := readLen_any A cp l W _ (hs.below hW) (by omega) hcc hby
    rw [hr] at this
    skip
    exact this
  have c4 : ∀ W, Below w.heap.size w W → Calls Try.prog 17 #[.slice A l.length cp] W fun e w' => e = .returned (.tuple #[.int .i64 (r1 : Int), .int .i64 (r2 : Int), .int .i64 (r3 : Int)]) ∧ W = w' := by
    intro W hW
    have := refLen_any A cp l W _ (hs.below hW) (by omega) hby
    rw [hr] at this
    skip
    exact this
  have c5 : ∀ (W : World) (n : Nat), n = W.heap.size → Calls Try.prog 14 #[.slice (some ⟨n, 0, none⟩) 1 1] (W.alloc (.cells #[.int .u8 163] 5)) fun e w' => e = .returned (.tuple #[.agg #[.int .i64 2, .bool true, .int .i64 3], .int .i64 1, .int .i64 0]) ∧ Below (n + 1) (W.alloc (.cells #[.int .u8 163] 5)) w' := by
    rintro W n rfl
    have := read_any (some ⟨W.heap.size, 0, none⟩) 1 [163] (W.alloc (.cells #[.int .u8 163] 5)) _ (Src.one W 163) (by simp) (by omega) (by simp)
    rw [show tupT (rdT [163]) = .tuple #[.agg #[.int .i64 2, .bool true, .int .i64 3], .int .i64 1, .int .i64 0] from rfl, World.size_alloc] at this
    exact this
  replace c1 := Lib.hid c1
  replace c2 := Lib.hid c2
  replace c3 := Lib.hid c3
  replace c4 := Lib.hid c4
  replace c5 := Lib.hid c5
  clear hq hr hs hby
  go_enter Try.func4, Try.ntmps4
  go_wp2_with fail
  refine (c1.out _ (Below.refl _ _)).mono ?_
  rintro e w1 ⟨rfl, hb1⟩
  have HB1 := Lib.hid hb1
  have hsz1 := hb1.size
  clear hb1
  go_wp2_with fail
  refine (c2.out _ (HB1.out.trans ((Below.refl _ _).alloc hsz1 _))).mono ?_
  rintro e w2 ⟨rfl, rfl⟩
  go_wp2_with fail
  refine (c3.out _ (HB1.out.trans ((Below.refl _ _).alloc hsz1 _))).mono ?_
  rintro e w2 ⟨rfl, rfl⟩
  go_wp2_with fail
  refine (c4.out _ (HB1.out.trans ((Below.refl _ _).alloc hsz1 _))).mono ?_
  rintro e w2 ⟨rfl, rfl⟩
  go_wp2_with fail
  refine (c5.out (w1.alloc (.cells #[.int .i64 (q1 : Int), .bool q2, .int .i64 (q3 : Int)] 24)) (w1.heap.size + 1) (by simp)).mono ?_
  rintro e w3 ⟨rfl, hb3⟩
  have hb3' : Below (w1.heap.size + 1) (w1.alloc (.cells #[.int .i64 (q1 : Int), .bool q2, .int .i64 (q3 : Int)] 24)) w3 := ((Below.refl _ _).alloc (by simp) _).trans (hb3.mono (by simp))
  have HB3 := Lib.hid (show Below w.heap.size w w3 from HB1.out.trans (((Below.refl _ _).alloc hsz1 _).trans (hb3'.mono (by omega))))
  obtain ⟨g0, g1, g2⟩ := box3 hb3'
  have hsz3 : w1.heap.size < w3.heap.size := by have := hb3'.size; simp at this; omega
  clear hb3 hb3'
  go_wp2_with fail
  go_ret
  exact ⟨rfl, HB3.out.trans ((Below.refl _ _).alloc (by omega) _)⟩

set_option maxRecDepth 8000 in
set_option maxHeartbeats 800000 in
theorem reads_cut (A : Option Addr) (cp : Nat) (l : List Nat) (w : World) (hs : Src w w.heap.size A cp l) (hby : ∀ x ∈ l, x < 256) (hcc : cp ≤ 9223372036854775807) (nn : Nat) (hnn : 300 < nn) (hnc : nn ≤ cp) (hl3 : l.length = 300) :
    Calls Try.prog 4 #[.slice A nn cp] w fun e w' => e = .returned (.bool true) ∧ Below w.heap.size w w' := by
  have hl : l.length ≤ 300 := by omega
  obtain ⟨q1, q2, q3, q4, q5, hq⟩ : ∃ q1 q2 q3 q4 q5, rdT l = (q1, q2, q3, q4, q5) := ⟨_, _, _, _, _, rfl⟩
  obtain ⟨r1, r2, r3, hr⟩ : ∃ r1 r2 r3, rdL l = (r1, r2, r3) := ⟨_, _, _, rfl⟩
  have c1 : ∀ W, Below w.heap.size w W → Calls Try.prog 14 #[.slice A 300 cp] W fun e w' => e = .returned (.tuple #[.agg #[.int .i64 (q1 : Int), .bool q2, .int .i64 (q3 : Int)], .int .i64 (q4 : Int), .int .i64 (q5 : Int)]) ∧ Below W.heap.size W w' := by
    intro W hW
    have := read_any A cp l W _ (hs.below hW) (by omega) hcc hby
    rw [hq] at this
    rw [hl3] at this
    exact this
  have c2 : ∀ W, Below w.heap.size w W → Calls Try.prog 15 #[.slice A 300 cp] W fun e w' => e = .returned (.tuple #[.int .i64 (q1 : Int), .bool q2, .int .i64 (q3 : Int), .int .i64 (q4 : Int), .int .i64 (q5 : Int)]) ∧ W = w' := by
    intro W hW
    have := ref_any A cp l W _ (hs.below hW) (by omega) hby
    rw [hq] at this
    rw [hl3] at this
    exact this
  have c3 : ∀ W, Below w.heap.size w W → Calls Try.prog 16 #[.slice A 300 cp] W fun e w' => e = .returned (.tuple #[.int .i64 (r1 : Int), .int .i64 (r2 : Int), .int .i64 (r3 : Int)]) ∧ W = w' := by
    intro W hW
    have := readLen_any A cp l W _ (hs.below hW) (by omega) hcc hby
    rw [hr] at this
    rw [hl3] at this
    exact this
  have c4 : ∀ W, Below w.heap.size w W → Calls Try.prog 17 #[.slice A 300 cp] W fun e w' => e = .returned (.tuple #[.int .i64 (r1 : Int), .int .i64 (r2 : Int), .int .i64 (r3 : Int)]) ∧ W = w' := by
    intro W hW
    have := refLen_any A cp l W _ (hs.below hW) (by omega) hby
    rw [hr] at this
    rw [hl3] at this
    exact this
  have c5 : ∀ (W : World) (n : Nat), n = W.heap.size → Calls Try.prog 14 #[.slice (some ⟨n, 0, none⟩) 1 1] (W.alloc (.cells #[.int .u8 163] 5)) fun e w' => e = .returned (.tuple #[.agg #[.int .i64 2, .bool true, .int .i64 3], .int .i64 1, .int .i64 0]) ∧ Below (n + 1) (W.alloc (.cells #[.int .u8 163] 5)) w' := by
    rintro W n rfl
    have := read_any (some ⟨W.heap.size, 0, none⟩) 1 [163] (W.alloc (.cells #[.int .u8 163] 5)) _ (Src.one W 163) (by simp) (by omega) (by simp)
    rw [show tupT (rdT [163]) = .tuple #[.agg #[.int .i64 2, .bool true, .int .i64 3], .int .i64 1, .int .i64 0] from rfl, World.size_alloc] at this
    exact this
  replace c1 := Lib.hid c1
  replace c2 := Lib.hid c2
  replace c3 := Lib.hid c3
  replace c4 := Lib.hid c4
  replace c5 := Lib.hid c5
  clear hq hr hs hby hl3 hl
  go_enter Try.func4, Try.ntmps4
  go_wp2_with fail
  refine (c1.out _ (Below.refl _ _)).mono ?_
  rintro e w1 ⟨rfl, hb1⟩
  have HB1 := Lib.hid hb1
  have hsz1 := hb1.size
  clear hb1
  go_wp2_with fail
  refine (c2.out _ (HB1.out.trans ((Below.refl _ _).alloc hsz1 _))).mono ?_
  rintro e w2 ⟨rfl, rfl⟩
  go_wp2_with fail
  refine (c3.out _ (HB1.out.trans ((Below.refl _ _).alloc hsz1 _))).mono ?_
  rintro e w2 ⟨rfl, rfl⟩
  go_wp2_with fail
  refine (c4.out _ (HB1.out.trans ((Below.refl _ _).alloc hsz1 _))).mono ?_
  rintro e w2 ⟨rfl, rfl⟩
  go_wp2_with fail
  refine (c5.out (w1.alloc (.cells #[.int .i64 (q1 : Int), .bool q2, .int .i64 (q3 : Int)] 24)) (w1.heap.size + 1) (by simp)).mono ?_
  rintro e w3 ⟨rfl, hb3⟩
  have hb3' : Below (w1.heap.size + 1) (w1.alloc (.cells #[.int .i64 (q1 : Int), .bool q2, .int .i64 (q3 : Int)] 24)) w3 := ((Below.refl _ _).alloc (by simp) _).trans (hb3.mono (by simp))
  have HB3 := Lib.hid (show Below w.heap.size w w3 from HB1.out.trans (((Below.refl _ _).alloc hsz1 _).trans (hb3'.mono (by omega))))
  obtain ⟨g0, g1, g2⟩ := box3 hb3'
  have hsz3 : w1.heap.size < w3.heap.size := by have := hb3'.size; simp at this; omega
  clear hb3 hb3'
  go_wp2_with fail
  go_ret
  exact ⟨rfl, HB3.out.trans ((Below.refl _ _).alloc (by omega) _)⟩
end Go.Proofs.Ytbgdhngdjakhfaa
