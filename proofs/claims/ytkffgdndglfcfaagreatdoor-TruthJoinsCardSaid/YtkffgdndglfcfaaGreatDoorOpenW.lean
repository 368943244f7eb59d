/-
  The bounds of an argument that is an int.
-/
import Derived.Test.YtkffgdndglfcfaaGreatDoorOpen
namespace Go.Proofs.YtkffgdndglfcfaaGreatDoor
open Go.ChangeShapes Go.WideShapes Go.ChangeAt Go.RowKit Go.Joins

theorem int_lo {n : Int} (h : (Lit.int .i64 n).wf = true) : -9223372036854775808 ≤ n := by
  have := bounds_i64 h
  omega
theorem int_hi {n : Int} (h : (Lit.int .i64 n).wf = true) : n ≤ 9223372036854775807 := by
  have := bounds_i64 h
  omega
end Go.Proofs.YtkffgdndglfcfaaGreatDoor
