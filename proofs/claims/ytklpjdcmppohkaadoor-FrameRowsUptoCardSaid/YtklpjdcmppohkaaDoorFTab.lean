/-
  From a row's list of tables to what the walks ask: the program's table.
-/
import Derived.Test.YtklpjdcmppohkaaDoorOpenD
import Derived.Test.YtklpjdcmppohkaaDoorFHalf
import Derived.Test.YtklpjdcmppohkaaDoorTie
import Derived.Test.YtklpjdcmppohkaaDoorCards
import Derived.Stop.LaidErr
import Derived.Stop.Joined
import Derived.LaidMore
import Derived.MakeChecks
import Derived.Lay
import Derived.SizedLaws
import Derived.SevenTiedAt
namespace Go.Proofs.YtklpjdcmppohkaaDoor
open Go.ChangeShapes Go.WideShapes Go.ChangeAt Go.RowKit Go.Joins

theorem eff_data : (Rows.laid_peerage_frame_effects : DataW Unit) = Lib.tabData .u32 effT := by kernel_rfl
theorem tab_of_head {W : World} {rest : List (String × DataW Unit)} (h : laidMet Tryd.prog (("peerage/frame.effects", Rows.laid_peerage_frame_effects) :: rest) W) : Tab W := by
  rw [eff_data] at h
  exact Lib.tabIs_of_head (g := 0) (t := 50) (e := 22) (n := 16) (by kernel_rfl) (by kernel_rfl) (by kernel_rfl) (by kernel_rfl) (by kernel_rfl) (by kernel_rfl) h
end Go.Proofs.YtklpjdcmppohkaaDoor
