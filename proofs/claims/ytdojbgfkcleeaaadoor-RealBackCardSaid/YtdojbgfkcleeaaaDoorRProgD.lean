/-
  What the laws on texts ask, out of the row's list of variables.
-/
import Derived.Test.YtdojbgfkcleeaaaDoorTextD
import Derived.Test.YtdojbgfkcleeaaaDoorParD
import Derived.Test.YtdojbgfkcleeaaaDoorTie
import Derived.Test.YtdojbgfkcleeaaaDoorCards
import Derived.Stop.LaidErr
import Derived.Stop.Joined
import Derived.LaidMore
import Derived.MakeChecks
import Derived.Lay
import Derived.SizedLaws
import Derived.SevenTiedAt
namespace Go.Proofs.YtdojbgfkcleeaaaDoor
open Ieee Go.ChangeShapes Go.WideShapes Go.ChangeAt Go.RowKit

theorem hyp_of_tab {W : World} (h : TabZ W) : RHypD W where
  text := fun x w hb hx => text_any x w hx (h.below hb (Nat.le_refl _))
  plain := fun x w _ hx => (plain_any x w).mono fun e w' ⟨h1, h2⟩ => ⟨_, h1, fBits_lt x hx, bits_bits x, by rw [← h2]; exact Below.refl _ _⟩
  order := fun a b w _ _ _ => (order_any a b w).mono fun e w' ⟨h1, h2⟩ => ⟨h1, by rw [← h2]; exact Below.refl _ _⟩
  rate := fun n of_ w _ _ _ _ _ => rate_any n of_ w
theorem fParse_getD (s : ByteArray) : (fParse (bs s)).getD 0 < 18446744073709551616 := by
  rcases h : fParse (bs s) with _ | n
  · decide
  · exact fParse_lt h
theorem par_of_err {W : World} (h : ErrTab W) : RParD W where
  parse := fun s w hb => (parse_any s w (h.below hb)).mono fun _ _ ⟨h1, h2⟩ => ⟨_, h1, fParse_getD s, rfl, h2⟩
theorem z_data : (Rows.laid_math_bits_deBruijn64tab : DataW Unit) = Lib.tabData .u8 (Lib.deBruijn64tab.map fun (n : Nat) => (n : Int)) := by kernel_rfl
theorem tabZ_of_head {W : World} {rest : List (String × DataW Unit)} (h : laidMet Tryd.prog (("math/bits.deBruijn64tab", Rows.laid_math_bits_deBruijn64tab) :: rest) W) : TabZ W := by
  rw [z_data] at h
  exact Lib.tabIs_of_head (g := 6) (t := 94) (e := 5) (n := 64) (by kernel_rfl) (by kernel_rfl) (by kernel_rfl) (by kernel_rfl) (by kernel_rfl) (by kernel_rfl) h
theorem rhypD {W : World} {x : String × DataW Unit} {rest : List (String × DataW Unit)} (h : laidMet Tryd.prog (x :: ("math/bits.deBruijn64tab", Rows.laid_math_bits_deBruijn64tab) :: rest) W) : RHypD W := hyp_of_tab (tabZ_of_head h.tail)
theorem row_err (u : TypeId) (h : Tryd.prog.typeName? 3 u = some "*errors.errorString") : u = 88 :=
  typeName_ptr_named (nm := "errors.errorString") (by kernel_rfl) (by kernel_rfl) (by decide) u h
theorem rparD {W : World} {x1 x2 x3 x4 : String × DataW Unit} {rest : List (String × DataW Unit)} (h : laidMet Tryd.prog (x1 :: x2 :: x3 :: x4 :: ("strconv.ErrSyntax", Rows.laid_strconv_ErrSyntax) :: rest) W) : RParD W := by
  obtain ⟨a, s, hv, _, _, _⟩ := laid_sentinel (g := 1) (ti := 35) (tp := 88) (te := 90) (ts := 9) h.tail.tail.tail.tail (by kernel_rfl) (by kernel_rfl) Tryd.underlying35 row_err Tryd.underlying88 Tryd.underlying90 rfl rfl Tryd.underlying9 (by kernel_rfl) (by kernel_rfl)
  exact par_of_err ⟨_, by simpa using World.var?_cell (g := 1) (by kernel_rfl) hv 0, .inr ⟨_, _, rfl⟩⟩
end Go.Proofs.YtdojbgfkcleeaaaDoor
