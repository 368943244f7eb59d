/-
  From a row's list of tables to what the walks ask.
-/
import Derived.Test.YtllmffmmfpecaaaDoorSProg8
import Derived.Test.YtllmffmmfpecaaaDoorOpenB8
import Derived.Test.YtllmffmmfpecaaaDoorTie
import Derived.Test.YtllmffmmfpecaaaDoorCards
import Derived.Stop.LaidErr
import Derived.Stop.Joined
import Derived.LaidMore
import Derived.MakeChecks
import Derived.Lay
import Derived.SizedLaws
import Derived.SevenTiedAt
namespace Go.Proofs.YtllmffmmfpecaaaDoor
open Go.ChangeShapes Go.WideShapes Go.ChangeAt Go.RowKit Go.Joins

theorem spc_data : (Rows.laid_strings_asciiSpace : DataW Unit) = Lib.tabData .u8 Lib.asciiSpaceTab := by kernel_rfl
theorem cls_data : (Rows.laid_peerage_schema_classTable : DataW Unit) = .slice (clss.map clsD) [] := by kernel_rfl
theorem att_data : (Rows.laid_peerage_schema_attributeTable : DataW Unit) = .slice (atts.map attD) [] := by kernel_rfl
theorem spc_of_laid {W : World} {x : String × DataW Unit} {rest : List (String × DataW Unit)} (h0 : laidMet Tryd.prog (x :: ("strings.asciiSpace", Rows.laid_strings_asciiSpace) :: rest) W) : Spc W := by
  have h := laidMet.tail h0
  rw [spc_data] at h
  exact Lib.tabIs_of_head (g := 2) (t := 82) (e := 5) (n := 256) (by kernel_rfl) (by kernel_rfl) (by kernel_rfl) (by kernel_rfl) (by kernel_rfl) (by kernel_rfl) h
theorem cls_of_laid {W : World} {rest : List (String × DataW Unit)} (h : laidMet Tryd.prog (("peerage/schema.classTable", Rows.laid_peerage_schema_classTable) :: rest) W) : ∃ g o, TabC W g o := by
  rw [cls_data] at h
  exact tabC_of_reads (t := 69) (e := 64) (sA := 9) (iA := 3) (by kernel_rfl) (by kernel_rfl) Tryd.underlying69 Tryd.underlying64 (by kernel_rfl) (by kernel_rfl) (by kernel_rfl) (by kernel_rfl) (by kernel_rfl) (by kernel_rfl) h
theorem att_of_laid {W : World} {rest : List (String × DataW Unit)} (h : laidMet Tryd.prog (("peerage/schema.attributeTable", Rows.laid_peerage_schema_attributeTable) :: rest) W) : ∃ g o, TabA W g o := by
  rw [att_data] at h
  exact tabA_of_reads (t := 37) (e := 23) (sA := 9) (iA := 3) (bA := 4) (by kernel_rfl) (by kernel_rfl) Tryd.underlying37 Tryd.underlying23 (by kernel_rfl) (by kernel_rfl) (by kernel_rfl) (by kernel_rfl) (by kernel_rfl) (by kernel_rfl) (by kernel_rfl) (by kernel_rfl) h
/-- Three tables: white space, classes. -/
theorem laid3 {W : World} {x : String × DataW Unit} (h : laidMet Tryd.prog [x, ("strings.asciiSpace", Rows.laid_strings_asciiSpace), ("peerage/schema.classTable", Rows.laid_peerage_schema_classTable)] W) : ∃ g o, TabsC W g o := by
  obtain ⟨g, o, hc⟩ := cls_of_laid (laidMet.tail (laidMet.tail h))
  exact ⟨g, o, hc, spc_of_laid h⟩
/-- Four tables: white space, attributes, classes. -/
theorem laid4 {W : World} {x : String × DataW Unit} (h : laidMet Tryd.prog [x, ("strings.asciiSpace", Rows.laid_strings_asciiSpace), ("peerage/schema.attributeTable", Rows.laid_peerage_schema_attributeTable), ("peerage/schema.classTable", Rows.laid_peerage_schema_classTable)] W) : LaidS W := by
  obtain ⟨g, o, hc⟩ := cls_of_laid (laidMet.tail (laidMet.tail (laidMet.tail h)))
  exact ⟨⟨g, o, hc, spc_of_laid h⟩, att_of_laid (laidMet.tail (laidMet.tail h))⟩
end Go.Proofs.YtllmffmmfpecaaaDoor
