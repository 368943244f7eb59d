/-
  The program's functions answer as the walks of the laws ask, wherever the program's tables are laid.
-/
import Derived.Test.YtllmffmmfpecaaaDoorPCheck8
import Derived.Test.YtllmffmmfpecaaaDoorPFindCL8
import Derived.Test.YtllmffmmfpecaaaDoorPClasses8
import Derived.Test.YtllmffmmfpecaaaDoorPAtts8
import Derived.Test.YtllmffmmfpecaaaDoorCheckH
import Derived.Test.YtllmffmmfpecaaaDoorFindsH
namespace Go.Proofs.YtllmffmmfpecaaaDoor
open Go.RowKit

/-- The tables that the program's functions read are laid. -/
structure LaidS (w : World) : Prop where
  cls : ∃ g o, TabsC w g o
  att : ∃ g o, TabA w g o
theorem allH {w : World} (h : ∃ g o, TabsC w g o) : AllH w := by
  obtain ⟨g, o, h⟩ := h
  exact ⟨fun A cp N L W hb hN hL hs hl => all_any A cp N g o L W hN hL hs hl (h.below hb)⟩
theorem checkH {w : World} (h : LaidS w) : CheckH w := by
  obtain ⟨⟨g, o, hc⟩, ga, oa, ha⟩ := h
  exact ⟨fun A cp N L A' cp' N' T W hb hN hN' hL hT hs hs' hl hl' => check_any A cp N L A' cp' N' T g o ga oa W hN hN' hL hT hs hs' hl hl' (hc.below hb) (ha.below hb)⟩
theorem findsH {w : World} (h : LaidS w) : FindsH w := by
  obtain ⟨⟨g, o, hc⟩, ga, oa, ha⟩ := h
  exact ⟨fun s W hb hs => find_any s ga oa W hs (ha.below hb), fun s W hb hs => findClass_any s g o W hs (hc.below hb), fun W hb => attributes_any ga oa W (ha.below hb), fun W hb => classes_any g o W (hc.below hb)⟩
end Go.Proofs.YtllmffmmfpecaaaDoor
