/- Filters. -/
import Derived.Test.YtcbiedonmibfaaaGreatDoorF14ra
import Derived.Test.YtcbiedonmibfaaaGreatDoorRL
import Derived.Test.YtcbiedonmibfaaaGreatDoorEA
import Derived.Test.YtcbiedonmibfaaaGreatDoorF14B
import Derived.Test.YtcbiedonmibfaaaGreatDoorF14C
import Derived.Test.YtcbiedonmibfaaaGreatDoorF14sa
import Derived.Test.YtcbiedonmibfaaaGreatDoorRF
import Derived.Test.YtcbiedonmibfaaaGreatDoorOP
import Derived.Test.YtcbiedonmibfaaaGreatDoorTie
import Derived.Test.YtcbiedonmibfaaaGreatDoorCards
import Derived.Test.YtcbiedonmibfaaaGreatDoorChecked
import Derived.PinnedBridge
import Derived.Lib.LaidU8T
import Derived.Stop.LaidErr
import Derived.Stop.Joined
import Derived.LaidMore
import Derived.MakeChecks
import Derived.Lay
import Derived.SizedLaws
import Derived.SevenTiedAt
namespace Go.Proofs.YtcbiedonmibfaaaGreatDoor
open Go.RowKit Go.Lib
theorem readFt_any (f : Ft) : ∀ (d : Nat) (l : Int) (p : Nat) (I : Nat → Prop) (A : Option Addr) (c : Nat) (B : Option Addr) (dd : Nat) (w : World), f.all = true → f.meas < 3000 → d + f.deep ≤ 11 → (f.num : Int) ≤ l → l ≤ 64 → ElIn w I f.el A c B dd → (∀ b, I b → b < w.heap.size ∧ b ≠ p) →
 w.heap[p]? = some (.cells #[.int .i64 l] 69 (0, 0)) → Calls Tryz.prog 33 #[.pointer (some ⟨p, 0, none⟩), elV f.el A c B dd, .int .i64 (d : Int)] w (RdP f p l w) := by
 induction f using Ft.ind with
 | h f ih =>
 intro d l p I A c B dd w hf hm hd hn hl hs hI hp
 have hone := (all_parts hf).1
 have hk := one_k hone
 have hK3 : f.kids.length ≤ 3000 := by have := kids_le f; unfold Ft.meas at hm; omega
 have hB3 : f.b.length < 3000 := by have := lensB_ge f.b; unfold Ft.meas at hm; omega
 have htl : f.t.length ≤ 9500 := by unfold Ft.meas at hm; omega
 have hdp : f.deep = f.g.deep + 1 := rfl
 have hnm : f.num = f.g.num + 1 := rfl
 by_cases h3 : f.k < 3
 · refine read_node f ⟨hk.1, h3⟩ hone hK3 d hd l hn hl p I A c B dd w hs hI hp ?_
   intro x hx l' J A' c' B' dd' W h1 h2 h4 h5 h6
   have hxa : x.all = true := by
    have := (all_parts hf).2
    rw [Gl.all_list, List.all_eq_true] at this
    exact this x hx
   have hxd := deep_mem f.g x hx
   have := ih x hx (d + 1) l' p J A' c' B' dd' W hxa (by have := meas_kid hx; omega) (by omega) h1 h2 h4 h5 h6
   rwa [show ((d + 1 : Nat) : Int) = (d : Int) + 1 by omega] at this
 by_cases h7 : f.k = 7
 · exact read_leaf7 f h7 hone htl d (by omega) l (by omega) hl p I A c B dd w hs hI hp
 by_cases h4 : f.k = 4
 · refine read_leaf4 f h4 ?_ hone htl d (by omega) l (by omega) hl p I A c B dd w hs hI hp
   rw [parts_len]
   unfold naF
   split <;> split <;> omega
 · exact read_leafG f h3 h7 h4 hone htl d (by omega) l (by omega) hl p I A c B dd w hs hI hp
end Go.Proofs.YtcbiedonmibfaaaGreatDoor
namespace Go.Proofs.YtcbiedonmibfaaaGreatDoor
open Go.ChangeShapes Go.WideShapes Go.ChangeAt Go.RowKit Go.Joins
theorem parseH14 {W : World} (_ : Tabs W) : ParseH W where
 parse := fun f s w _ hf _ hs => (parse14_any f s w hf hs).mono fun _ _ ⟨g, Ak, ck, Ab, cb, e, h1, h2, h3, h4⟩ => ⟨g, Ak, ck, Ab, cb, e, h1, h2.more fun _ hb => hb.2.lt, h3, h4⟩
theorem textH14 {W : World} (hT : Tabs W) : TextH W where
 text := fun f Ak ck Ab cb w hb hin hm _ => text14_any f Ak ck Ab cb w (hT.below hb) hin hm
theorem rightH14 {W : World} (_ : Tabs W) : RightH14 W where
 right := fun f Ak ck Ab cb w _ hin hm _ => right14_any f Ak ck Ab cb w hin hm
theorem parseHZ14 {W : World} (_ : Tabs W) : ParseHZ W where
 parse := fun f s w _ hf _ hs => (parse14_any f s w hf hs).mono fun _ _ ⟨g, Ak, ck, Ab, cb, e, h1, h2, h3, h4⟩ => ⟨g, Ak, ck, Ab, cb, e, h1, ⟨h2.more fun _ hb => hb.2.lt, FtFz.clean h2⟩, h3, h4⟩
theorem gl_num_meas : ∀ g : Gl, g.num ≤ g.meas
 | .nil => Nat.zero_le _
 | .cons k g t v a z b nx => by
   have h1 := gl_num_meas g
   have h2 := gl_num_meas nx
   rw [Gl.num, Gl.meas]
   omega
theorem num_meas (f : Ft) : f.num ≤ f.meas := by
 have := gl_num_meas f.g
 unfold Ft.num Ft.meas
 omega
theorem sameH14 {W : World} (_ : Tabs W) : SameH14 W where
 same := fun f Ak Ak' ck ck' Ab Ab' cb cb' w _ h1 h2 hm _ => same14_any f f.b.length f.kids.length w Ak Ak' ck ck' Ab Ab' cb cb' h1 h2 (by have := num_meas f; omega) rfl rfl
theorem putH14 {W : World} (_ : Tabs W) : PutH14 W where
 put := fun f Ak ck Ab cb w _ hin hm hr => (put14_any f Ak ck Ab cb w hin hm hr).mono fun _ _ ⟨A, c, B, d, h1, h2, h3⟩ => ⟨A, c, B, d, h1, h2.more fun _ hb => hb.2, h3⟩
theorem readH14 {W : World} (_ : Tabs W) : ReadH14 W where
 read := fun f A c B d w _ hin hm hr => (read14_any f (fun d l p I A c B dd w h1 h2 h3 h4 h5 h6 => readFt_any f d l p I A c B dd w (right_parts14 hr).2.2 hm h1 h2 h3 h4 h5 h6) hr (Cb w) A c B d w hin (fun _ hb => hb.lt)).mono
  fun _ _ ⟨Ak, ck, Ab, cb, h1, h2, h3⟩ => ⟨Ak, ck, Ab, cb, h1, ⟨h2.more fun _ hb => hb.2.lt, FtFz.clean h2⟩, h3⟩
theorem accept_data : (Rows.laid_unicode_utf8_acceptRanges : DataW Unit) = Lib.acceptData := by kernel_rfl
theorem first_data : Rows.laid_unicode_utf8_first = Lib.firstData := Pinned.utf8First_eq
def ren14 : Go.Shelf.Ren := ⟨fun n => n, fun | 5 => 5 | 119 => 322 | 138 => 324 | 139 => 325 | n => n, fun | 3 => 2 | 4 => 3 | n => n⟩
theorem u8_types : U8Types Tryz.prog ren14 := ⟨by kernel_rfl, by kernel_rfl, by kernel_rfl, by kernel_rfl⟩
theorem u8_extra : U8Extra Tryz.prog ren14 where
 n3 := by kernel_rfl
 n4 := by kernel_rfl
 y3 := by kernel_rfl
 y4 := by kernel_rfl
 c5 := by kernel_rfl
 c119 := by kernel_rfl
 c138 := by kernel_rfl
theorem tabs_of_laid {W : World} (h : laidMet Tryz.prog [("unicode/utf8.acceptRanges", Rows.laid_unicode_utf8_acceptRanges), ("unicode/utf8.first", Rows.laid_unicode_utf8_first)] W) : Tabs W := by
 rw [accept_data, first_data] at h
 exact utf8Tabs_of_readsT (ρ := ren14) u8_types u8_extra (Lib.laidMet.reads h (.tail _ (.head _))) (Lib.laidMet.reads h (.head _))
end Go.Proofs.YtcbiedonmibfaaaGreatDoor
