/-
  What the program's functions of filters are to answer, out of the library's two tables.
-/
import Derived.Test.YtfmdghajdieemaaGreatDoorF14B
import Derived.Test.YtfmdghajdieemaaGreatDoorF14C
import Derived.Test.YtfmdghajdieemaaGreatDoorOpenW
import Derived.Test.YtfmdghajdieemaaGreatDoorTie
import Derived.Test.YtfmdghajdieemaaGreatDoorCards
import Derived.Test.YtfmdghajdieemaaGreatDoorChecked
import Derived.PinnedBridge
import Derived.Lib.LaidU8T
import Derived.Stop.LaidErr
import Derived.Stop.Joined
import Derived.LaidMore
import Derived.MakeChecks
import Derived.Lay
import Derived.SizedLaws
import Derived.SevenTiedAt
namespace Go.Proofs.YtfmdghajdieemaaGreatDoor
open Go.ChangeShapes Go.WideShapes Go.ChangeAt Go.RowKit Go.Joins

theorem parseH14 {W : World} (_ : Tabs W) : ParseH W where
  parse := fun f s w _ hf _ hs => (parse14_any f s w hf hs).mono fun _ _ ⟨g, Ak, ck, Ab, cb, e, h1, h2, h3, h4⟩ => ⟨g, Ak, ck, Ab, cb, e, h1, h2.more fun _ hb => hb.2.lt, h3, h4⟩
theorem textH14 {W : World} (hT : Tabs W) : TextH W where
  text := fun f Ak ck Ab cb w hb hin hm _ => text14_any f Ak ck Ab cb w (hT.below hb) hin hm
theorem rightH14 {W : World} (_ : Tabs W) : RightH14 W where
  right := fun f Ak ck Ab cb w _ hin hm _ => right14_any f Ak ck Ab cb w hin hm
theorem accept_data : (Rows.laid_unicode_utf8_acceptRanges : DataW Unit) = Lib.acceptData := by kernel_rfl
theorem first_data : Rows.laid_unicode_utf8_first = Lib.firstData := Pinned.utf8First_eq
theorem u8_extra : U8Extra Tryz.prog Tryz.lays197_ren where
  n3 := by kernel_rfl
  n4 := by kernel_rfl
  y3 := by kernel_rfl
  y4 := by kernel_rfl
  c5 := by kernel_rfl
  c119 := by kernel_rfl
  c138 := by kernel_rfl
theorem tabs_of_laid {W : World} (h : laidMet Tryz.prog [("unicode/utf8.acceptRanges", Rows.laid_unicode_utf8_acceptRanges), ("unicode/utf8.first", Rows.laid_unicode_utf8_first)] W) : Tabs W := by
  rw [accept_data, first_data] at h
  exact utf8Tabs_of_readsT (ρ := Tryz.lays197_ren) (U8Types.of260 { Tryz.lays197 with }) u8_extra (Lib.laidMet.reads h (.tail _ (.head _))) (Lib.laidMet.reads h (.head _))
end Go.Proofs.YtfmdghajdieemaaGreatDoor
