/-
  DERIVED. GIVEN WITH THE SEED: THE CARDS: each row of YtcbiedonmibfaaaGreatDoorRows.lean that lists a variable, with what it lists TIED to the program's text (the seventh form; the later family's looks); each row that meets fmt, with fmt's text TOLD by the authors' own Lean function (tested against real Go, not proved from fmt's source: count such statements apart). THE CARD IS WHAT COUNTS. Prove the row's statement (the work); the ties are given (YtcbiedonmibfaaaGreatDoorTie.lean); close each card by the builder's one call (the guide's Derived/Test/ToyasCard.lean, 'card_holds'). Laid BY PROGRAM, IN A SANDBOX (cutbox-door.mjs). By AI agents, Wed Nov 11 2026. No macro, syntax, notation, axiom, sorry.
-/
import Derived.Test.YtcbiedonmibfaaaGreatDoorRows
import GoSem.ClaimSeven
namespace Go.Proofs.YtcbiedonmibfaaaGreatDoor
namespace Rows

/-- THE TIED CARD OF 'peeragelaw14.FilterBack'. -/
def filterBackCard : Claim7 := { stood := { row := filterBackRow, standIns := [], harness := (true, "388e75e7c0b092df2ade393173c93ed1fc79bf4290195ba99c6a6592d2e2935a"), looks := true }, kinds := [], alts := [], laidByText := true, laidKinds := [.data, .pinned], laidTests := true, laidLooks := .later }
def FilterBackCardSaid : Prop := Claim7.holds Tryz.pinned (.plain (OpenSpec.ofChange filterBackSpec)) filterBackCard

/-- THE TIED CARD OF 'peeragelaw16.MessageBack'. -/
def messageBackCard : Claim7 := { stood := { row := messageBackRow, standIns := [], harness := (true, "388e75e7c0b092df2ade393173c93ed1fc79bf4290195ba99c6a6592d2e2935a"), looks := true }, kinds := [], alts := [], laidByText := true, laidKinds := [.data, .handle, .pinned], laidTests := true, laidLooks := .later }
def MessageBackCardSaid : Prop := Claim7.holds Tryz.pinned (.plain (OpenSpec.ofChange messageBackSpec)) messageBackCard

/-- THE TIED CARD OF 'peeragelaw16.MessageAgain'. -/
def messageAgainCard : Claim7 := { stood := { row := messageAgainRow, standIns := [], harness := (true, "388e75e7c0b092df2ade393173c93ed1fc79bf4290195ba99c6a6592d2e2935a"), looks := true }, kinds := [], alts := [], laidByText := true, laidKinds := [.data, .handle, .pinned], laidTests := true, laidLooks := .later }
def MessageAgainCardSaid : Prop := Claim7.holds Tryz.pinned (.plain (OpenSpec.ofChange messageAgainSpec)) messageAgainCard

/-- THE TIED CARD OF 'peeragelaw16.MessageOne'. -/
def messageOneCard : Claim7 := { stood := { row := messageOneRow, standIns := [], harness := (true, "388e75e7c0b092df2ade393173c93ed1fc79bf4290195ba99c6a6592d2e2935a"), looks := true }, kinds := [], alts := [], laidByText := true, laidKinds := [.data, .pinned], laidTests := true, laidLooks := .later }
def MessageOneCardSaid : Prop := Claim7.holds Tryz.pinned (.plain (OpenSpec.ofChange messageOneSpec)) messageOneCard

/-- THE SECOND FORM's CARD OF 'peeragelaw14.FilterBack'. -/
def filterBackUptoCard : Claim7 := { stood := { row := filterBackUptoRow, standIns := [], harness := (true, "388e75e7c0b092df2ade393173c93ed1fc79bf4290195ba99c6a6592d2e2935a"), looks := true }, kinds := [], alts := [], laidByText := true, laidKinds := [.data, .pinned], laidTests := true, laidLooks := .later }
def FilterBackUptoCardSaid : Prop := Claim7.holds Tryz.pinned (.plain (OpenSpec.upto filterBackSpec)) filterBackUptoCard

/-- THE SECOND FORM's CARD OF 'peeragelaw16.MessageBack'. -/
def messageBackUptoCard : Claim7 := { stood := { row := messageBackUptoRow, standIns := [], harness := (true, "388e75e7c0b092df2ade393173c93ed1fc79bf4290195ba99c6a6592d2e2935a"), looks := true }, kinds := [], alts := [], laidByText := true, laidKinds := [.data, .handle, .pinned], laidTests := true, laidLooks := .later }
def MessageBackUptoCardSaid : Prop := Claim7.holds Tryz.pinned (.plain (OpenSpec.upto messageBackSpec)) messageBackUptoCard

/-- THE SECOND FORM's CARD OF 'peeragelaw16.MessageAgain'. -/
def messageAgainUptoCard : Claim7 := { stood := { row := messageAgainUptoRow, standIns := [], harness := (true, "388e75e7c0b092df2ade393173c93ed1fc79bf4290195ba99c6a6592d2e2935a"), looks := true }, kinds := [], alts := [], laidByText := true, laidKinds := [.data, .handle, .pinned], laidTests := true, laidLooks := .later }
def MessageAgainUptoCardSaid : Prop := Claim7.holds Tryz.pinned (.plain (OpenSpec.upto messageAgainSpec)) messageAgainUptoCard

/-- THE SECOND FORM's CARD OF 'peeragelaw16.MessageOne'. -/
def messageOneUptoCard : Claim7 := { stood := { row := messageOneUptoRow, standIns := [], harness := (true, "388e75e7c0b092df2ade393173c93ed1fc79bf4290195ba99c6a6592d2e2935a"), looks := true }, kinds := [], alts := [], laidByText := true, laidKinds := [.data, .pinned], laidTests := true, laidLooks := .later }
def MessageOneUptoCardSaid : Prop := Claim7.holds Tryz.pinned (.plain (OpenSpec.upto messageOneSpec)) messageOneUptoCard
end Rows
end Go.Proofs.YtcbiedonmibfaaaGreatDoor
