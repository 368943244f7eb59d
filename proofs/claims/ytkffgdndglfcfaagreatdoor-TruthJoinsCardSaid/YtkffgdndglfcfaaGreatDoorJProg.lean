/-
  What the law of outcomes wants of filter.Parse, filter.Right and the table of attributes.
-/
import Derived.Test.YtkffgdndglfcfaaGreatDoorJLaw
import Derived.Test.YtkffgdndglfcfaaGreatDoorF14B
import Derived.Test.YtkffgdndglfcfaaGreatDoorF14C
import Derived.Test.YtkffgdndglfcfaaGreatDoorOpenW
import Derived.Test.YtkffgdndglfcfaaGreatDoorTie
import Derived.Test.YtkffgdndglfcfaaGreatDoorCards
import Derived.Test.YtkffgdndglfcfaaGreatDoorChecked
import Derived.PinnedBridge
import Derived.Lib.LaidU8T
import Derived.Stop.LaidErr
import Derived.Stop.Joined
import Derived.LaidMore
import Derived.MakeChecks
import Derived.Lay
import Derived.SizedLaws
import Derived.SevenTiedAt
namespace Go.Proofs.YtkffgdndglfcfaaGreatDoor.J15
open Go.ChangeShapes Go.WideShapes Go.ChangeAt Go.RowKit Go.Joins

theorem parseHJ (W : World) : ParseH W where
  parse := fun f s w _ hf _ hs => (parse14_any f s w hf hs).mono fun _ _ ⟨g, Ak, ck, Ab, cb, e, h1, h2, h3, h4⟩ => ⟨g, Ak, ck, Ab, cb, e, h1, h2.more fun _ hb => hb.2.lt, h3, h4⟩
theorem rightHJ (W : World) : RightH14 W where
  right := fun f Ak ck Ab cb w _ hin hm _ => right14_any f Ak ck Ab cb w hin hm
theorem att_data : (Rows.laid_peerage_schema_attributeTable : DataW Unit) = .slice (atts.map attD) [] := by kernel_rfl
theorem att_of_laid {W : World} {x : String × DataW Unit} {rest : List (String × DataW Unit)} (h0 : laidMet Tryz.prog (x :: ("peerage/schema.attributeTable", Rows.laid_peerage_schema_attributeTable) :: rest) W) : ∃ g o, TabA W g o := by
  have h := laidMet.tail h0
  rw [att_data] at h
  exact tabA_of_reads (t := 196) (e := 158) (sA := 9) (iA := 3) (bA := 4) (by kernel_rfl) (by kernel_rfl) Tryz.underlying196 Tryz.underlying158 (by kernel_rfl) (by kernel_rfl) (by kernel_rfl) (by kernel_rfl) (by kernel_rfl) (by kernel_rfl) (by kernel_rfl) (by kernel_rfl) h
end Go.Proofs.YtkffgdndglfcfaaGreatDoor.J15
