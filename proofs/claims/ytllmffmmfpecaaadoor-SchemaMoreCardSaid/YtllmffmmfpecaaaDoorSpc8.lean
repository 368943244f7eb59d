/-
  strings.Fields on the texts of the program's table.
-/
import Derived.Test.YtllmffmmfpecaaaDoorShelf
import Derived.Test.YtllmffmmfpecaaaDoorTabC8
import Derived.Test.YtllmffmmfpecaaaDoorMC8
import Derived.Lib.LaidTab
namespace Go.Proofs.YtllmffmmfpecaaaDoor
open Go.RowKit

/-- The library's table of white space. -/
def Spc (w : World) : Prop := Lib.TabIs Tryd.prog w "strings.asciiSpace" .u8 Lib.asciiSpaceTab
theorem Spc.below {w w' : World} (h : Spc w) (hb : Below w.heap.size w w') : Spc w' := by
  unfold Spc Lib.TabIs World.var? at *
  rw [Option.bind_eq_some_iff] at *
  obtain ⟨g, hg, h1⟩ := h
  refine ⟨g, hg, ?_⟩
  have hlt : g < w.heap.size := by
    rcases Nat.lt_or_ge g w.heap.size with h2 | h2
    · exact h2
    · rw [Array.getElem?_eq_none h2] at h1
      cases h1
  rw [hb.block g hlt]
  exact h1
/-- The tables that the program's functions read. -/
structure TabsC (w : World) (g o : Nat) : Prop where
  cls : TabC w g o
  spc : Spc w
theorem TabsC.below {w w' : World} {g o : Nat} (h : TabsC w g o) (hb : Below w.heap.size w w') : TabsC w' g o := ⟨h.cls.below hb, h.spc.below hb⟩
theorem flds_any (t : List UInt8) (L : List (List UInt8)) (w : World) (hL : Lib.fields t = L) (ha : t.all (fun b => decide (b.toNat < 128)) = true) (hl : t.length ≤ 200) (hT : Spc w) :
    Calls Tryd.prog 31 #[.string (baO t)] w fun e w' => e = .returned (.slice (some ⟨w.heap.size, 0, none⟩) L.length L.length) ∧ w' = w.alloc (.cells (cellsO L).toArray 9) := by
  subst hL
  exact Tryd.strings_Fields (baO t) w (by rw [baO_size]; omega) (fun j b hb => of_decide_eq_true (List.all_eq_true.1 ha b (List.mem_of_getElem? hb))) hT
end Go.Proofs.YtllmffmmfpecaaaDoor
