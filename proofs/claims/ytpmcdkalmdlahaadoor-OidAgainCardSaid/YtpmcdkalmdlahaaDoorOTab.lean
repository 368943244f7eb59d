/-
  From a row's list of tables to what the walks ask: the library's table of powers of ten.
-/
import Derived.Test.YtpmcdkalmdlahaaDoorOProg
import Derived.Test.YtpmcdkalmdlahaaDoorOpenB
import Derived.Test.YtpmcdkalmdlahaaDoorTie
import Derived.Test.YtpmcdkalmdlahaaDoorCards
import Derived.Stop.LaidErr
import Derived.Stop.Joined
import Derived.LaidMore
import Derived.MakeChecks
import Derived.Lay
import Derived.SizedLaws
import Derived.SevenTiedAt
namespace Go.Proofs.YtpmcdkalmdlahaaDoor
open Go.ChangeShapes Go.WideShapes Go.ChangeAt Go.RowKit Go.Joins

theorem pow_data : (Rows.laid_internal_strconv_uint64pow10 : DataW Unit) = Lib.tabData .u64 Lib.pow10Tab := by kernel_rfl
theorem tab_of_laid {W : World} {x y : String × DataW Unit} {rest : List (String × DataW Unit)} (h0 : laidMet Tryd.prog (x :: y :: ("internal/strconv.uint64pow10", Rows.laid_internal_strconv_uint64pow10) :: rest) W) : Tab W := by
  have h := laidMet.tail (laidMet.tail h0)
  rw [pow_data] at h
  exact Lib.tabIs_of_head (g := 1) (t := 129) (e := 84) (n := 20) (by kernel_rfl) (by kernel_rfl) (by kernel_rfl) (by kernel_rfl) (by kernel_rfl) (by kernel_rfl) h
end Go.Proofs.YtpmcdkalmdlahaaDoor
