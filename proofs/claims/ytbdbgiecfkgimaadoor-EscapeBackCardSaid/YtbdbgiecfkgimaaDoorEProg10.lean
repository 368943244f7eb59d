/-
  All that the program's functions of escaping are to answer, out of the library's two tables.
-/
import Derived.Test.YtbdbgiecfkgimaaDoorPAny10
import Derived.Test.YtbdbgiecfkgimaaDoorPRead10
import Derived.Test.YtbdbgiecfkgimaaDoorEHFilt
import Derived.Test.YtbdbgiecfkgimaaDoorEHHex
import Derived.Test.YtbdbgiecfkgimaaDoorEHUnhex
import Derived.Test.YtbdbgiecfkgimaaDoorEHPut
import Derived.Test.YtbdbgiecfkgimaaDoorEHRight
import Derived.Test.YtbdbgiecfkgimaaDoorOpenW
import Derived.Test.YtbdbgiecfkgimaaDoorTie
import Derived.Test.YtbdbgiecfkgimaaDoorCards
import Derived.PinnedBridge
import Derived.Lib.LaidU8T
import Derived.Stop.LaidErr
import Derived.Stop.Joined
import Derived.LaidMore
import Derived.MakeChecks
import Derived.Lay
import Derived.SizedLaws
import Derived.SevenTiedAt
namespace Go.Proofs.YtbdbgiecfkgimaaDoor
open Go.ChangeShapes Go.WideShapes Go.ChangeAt Go.RowKit Go.Joins

theorem filtH {W : World} (hT : Tabs W) : FiltH W where
  filter := fun s w hb hs => pfilter_any s w hs (hT.below hb)
  unfilter := fun s w _ hs => punfilter_any s w hs
theorem hexH (W : World) : HexH W where
  hex := fun s w _ hs => phex_any s w hs
theorem unhexH (W : World) : UnhexH W where
  unhex := fun s w _ hs => punhex_any s w hs
theorem putH {W : World} (hT : Tabs W) : PutH W where
  put := fun s w hb hs => pput_any s w hs (hT.below hb)
  read := fun s w _ hs => pread_any s w hs
theorem rightH {W : World} (hT : Tabs W) : RightH W where
  right := fun s w hb hs => right_any s w (by omega) (hT.below hb)
theorem accept_data : (Rows.laid_unicode_utf8_acceptRanges : DataW Unit) = Lib.acceptData := by kernel_rfl
theorem first_data : Rows.laid_unicode_utf8_first = Lib.firstData := Pinned.utf8First_eq
theorem u8_extra : U8Extra Tryd.prog Tryd.lays197_ren where
  n3 := by kernel_rfl
  n4 := by kernel_rfl
  y3 := by kernel_rfl
  y4 := by kernel_rfl
  c5 := by kernel_rfl
  c119 := by kernel_rfl
  c138 := by kernel_rfl
theorem tabs_of_laid {W : World} (h : laidMet Tryd.prog [("unicode/utf8.acceptRanges", Rows.laid_unicode_utf8_acceptRanges), ("unicode/utf8.first", Rows.laid_unicode_utf8_first)] W) : Tabs W := by
  rw [accept_data, first_data] at h
  exact utf8Tabs_of_readsT (ρ := Tryd.lays197_ren) (U8Types.of260 { Tryd.lays197 with }) u8_extra (Lib.laidMet.reads h (.tail _ (.head _))) (Lib.laidMet.reads h (.head _))
end Go.Proofs.YtbdbgiecfkgimaaDoor
