/-
  DERIVED. GIVEN WITH THE SEED: THE CARDS: each row of YtfmdghajdieemaaGreatDoorRows.lean that lists a variable, with what it lists TIED to the program's text (the seventh form; the later family's looks); each row that meets fmt, with fmt's text TOLD by the authors' own Lean function (tested against real Go, not proved from fmt's source: count such statements apart). THE CARD IS WHAT COUNTS. Prove the row's statement (the work); the ties are given (YtfmdghajdieemaaGreatDoorTie.lean); close each card by the builder's one call (the guide's Derived/Test/ToyasCard.lean, 'card_holds'). Laid BY PROGRAM, IN A SANDBOX (cutbox-door.mjs). By AI agents, Wed Nov 11 2026. No macro, syntax, notation, axiom, sorry.
-/
import Derived.Test.YtfmdghajdieemaaGreatDoorRows
import GoSem.ClaimSeven
namespace Go.Proofs.YtfmdghajdieemaaGreatDoor
namespace Rows

/-- THE TIED CARD OF 'peeragelaw14.FilterBack'. -/
def filterBackCard : Claim7 := { stood := { row := filterBackRow, standIns := [], harness := (true, "4bbd17d16f74fae165a98018c127b85f13f23dbaa5eacf58d36a083efe1c89c5"), looks := true }, kinds := [], alts := [], laidByText := true, laidKinds := [.data, .pinned], laidTests := true, laidLooks := .later }
def FilterBackCardSaid : Prop := Claim7.holds Tryz.pinned (.plain (OpenSpec.ofChange filterBackSpec)) filterBackCard

/-- THE TIED CARD OF 'peeragelaw14.FilterDeep'. -/
def filterDeepCard : Claim7 := { stood := { row := filterDeepRow, standIns := [], harness := (true, "4bbd17d16f74fae165a98018c127b85f13f23dbaa5eacf58d36a083efe1c89c5"), looks := true }, kinds := [], alts := [], laidByText := true, laidKinds := [.data, .pinned], laidTests := true, laidLooks := .later }
def FilterDeepCardSaid : Prop := Claim7.holds Tryz.pinned (.plain (OpenSpec.ofChange filterDeepSpec)) filterDeepCard

/-- THE TIED CARD OF 'peeragelaw14.FilterOne'. -/
def filterOneCard : Claim7 := { stood := { row := filterOneRow, standIns := [], harness := (true, "4bbd17d16f74fae165a98018c127b85f13f23dbaa5eacf58d36a083efe1c89c5"), looks := true }, kinds := [], alts := [], laidByText := true, laidKinds := [.data, .pinned], laidTests := true, laidLooks := .later }
def FilterOneCardSaid : Prop := Claim7.holds Tryz.pinned (.plain (OpenSpec.ofChange filterOneSpec)) filterOneCard

/-- THE SECOND FORM's CARD OF 'peeragelaw14.FilterBack'. -/
def filterBackUptoCard : Claim7 := { stood := { row := filterBackUptoRow, standIns := [], harness := (true, "4bbd17d16f74fae165a98018c127b85f13f23dbaa5eacf58d36a083efe1c89c5"), looks := true }, kinds := [], alts := [], laidByText := true, laidKinds := [.data, .pinned], laidTests := true, laidLooks := .later }
def FilterBackUptoCardSaid : Prop := Claim7.holds Tryz.pinned (.plain (OpenSpec.upto filterBackSpec)) filterBackUptoCard

/-- THE SECOND FORM's CARD OF 'peeragelaw14.FilterDeep'. -/
def filterDeepUptoCard : Claim7 := { stood := { row := filterDeepUptoRow, standIns := [], harness := (true, "4bbd17d16f74fae165a98018c127b85f13f23dbaa5eacf58d36a083efe1c89c5"), looks := true }, kinds := [], alts := [], laidByText := true, laidKinds := [.data, .pinned], laidTests := true, laidLooks := .later }
def FilterDeepUptoCardSaid : Prop := Claim7.holds Tryz.pinned (.plain (OpenSpec.upto filterDeepSpec)) filterDeepUptoCard

/-- THE SECOND FORM's CARD OF 'peeragelaw14.FilterOne'. -/
def filterOneUptoCard : Claim7 := { stood := { row := filterOneUptoRow, standIns := [], harness := (true, "4bbd17d16f74fae165a98018c127b85f13f23dbaa5eacf58d36a083efe1c89c5"), looks := true }, kinds := [], alts := [], laidByText := true, laidKinds := [.data, .pinned], laidTests := true, laidLooks := .later }
def FilterOneUptoCardSaid : Prop := Claim7.holds Tryz.pinned (.plain (OpenSpec.upto filterOneSpec)) filterOneUptoCard
end Rows
end Go.Proofs.YtfmdghajdieemaaGreatDoor
