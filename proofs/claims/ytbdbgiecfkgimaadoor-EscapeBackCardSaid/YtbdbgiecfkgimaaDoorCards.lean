/-
  DERIVED. GIVEN WITH THE SEED: THE CARDS: each row of YtbdbgiecfkgimaaDoorRows.lean that lists a variable, with what it lists TIED to the program's text (the seventh form; the later family's looks); each row that meets fmt, with fmt's text TOLD by the authors' own Lean function (tested against real Go, not proved from fmt's source: count such statements apart). THE CARD IS WHAT COUNTS. Prove the row's statement (the work); the ties are given (YtbdbgiecfkgimaaDoorTie.lean); close each card by the builder's one call (the guide's Derived/Test/ToyasCard.lean, 'card_holds'). Laid BY PROGRAM, IN A SANDBOX (cutbox-door.mjs). By AI agents, Wed Nov 11 2026. No macro, syntax, notation, axiom, sorry.
-/
import Derived.Test.YtbdbgiecfkgimaaDoorRows
import GoSem.ClaimSeven
namespace Go.Proofs.YtbdbgiecfkgimaaDoor
namespace Rows

/-- THE TIED CARD OF 'peeragelaw10.EscapeFilters'. -/
def escapeFiltersCard : Claim7 := { stood := { row := escapeFiltersRow, standIns := [], harness := (true, "533e15ee01aa2a687953f2f79885799edf1f8fea50faea97419b7a4935f1749e"), looks := false }, kinds := [], alts := [], laidByText := true, laidKinds := [.data, .pinned], laidTests := true, laidLooks := .later }
def EscapeFiltersCardSaid : Prop := Claim7.holds Tryd.pinned (.plain (OpenSpec.ofChange escapeFiltersSpec)) escapeFiltersCard

/-- THE TIED CARD OF 'peeragelaw10.EscapeBack'. -/
def escapeBackCard : Claim7 := { stood := { row := escapeBackRow, standIns := [], harness := (true, "533e15ee01aa2a687953f2f79885799edf1f8fea50faea97419b7a4935f1749e"), looks := false }, kinds := [], alts := [], laidByText := true, laidKinds := [.data, .pinned], laidTests := true, laidLooks := .later }
def EscapeBackCardSaid : Prop := Claim7.holds Tryd.pinned (.plain (OpenSpec.ofChange escapeBackSpec)) escapeBackCard

/-- THE TIED CARD OF 'peeragelaw10.EscapePlain'. -/
def escapePlainCard : Claim7 := { stood := { row := escapePlainRow, standIns := [], harness := (true, "533e15ee01aa2a687953f2f79885799edf1f8fea50faea97419b7a4935f1749e"), looks := false }, kinds := [], alts := [], laidByText := true, laidKinds := [.data, .pinned], laidTests := true, laidLooks := .later }
def EscapePlainCardSaid : Prop := Claim7.holds Tryd.pinned (.plain (OpenSpec.ofChange escapePlainSpec)) escapePlainCard

/-- THE TIED CARD OF 'peeragelaw10.EscapeJoins'. -/
def escapeJoinsCard : Claim7 := { stood := { row := escapeJoinsRow, standIns := [], harness := (true, "533e15ee01aa2a687953f2f79885799edf1f8fea50faea97419b7a4935f1749e"), looks := false }, kinds := [], alts := [], laidByText := true, laidKinds := [.data, .pinned], laidTests := true, laidLooks := .later }
def EscapeJoinsCardSaid : Prop := Claim7.holds Tryd.pinned (.plain (OpenSpec.ofChange escapeJoinsSpec)) escapeJoinsCard

/-- THE SECOND FORM's CARD OF 'peeragelaw10.EscapeFilters'. -/
def escapeFiltersUptoCard : Claim7 := { stood := { row := escapeFiltersUptoRow, standIns := [], harness := (true, "533e15ee01aa2a687953f2f79885799edf1f8fea50faea97419b7a4935f1749e"), looks := false }, kinds := [], alts := [], laidByText := true, laidKinds := [.data, .pinned], laidTests := true, laidLooks := .later }
def EscapeFiltersUptoCardSaid : Prop := Claim7.holds Tryd.pinned (.plain (OpenSpec.upto escapeFiltersSpec)) escapeFiltersUptoCard

/-- THE SECOND FORM's CARD OF 'peeragelaw10.EscapeBack'. -/
def escapeBackUptoCard : Claim7 := { stood := { row := escapeBackUptoRow, standIns := [], harness := (true, "533e15ee01aa2a687953f2f79885799edf1f8fea50faea97419b7a4935f1749e"), looks := false }, kinds := [], alts := [], laidByText := true, laidKinds := [.data, .pinned], laidTests := true, laidLooks := .later }
def EscapeBackUptoCardSaid : Prop := Claim7.holds Tryd.pinned (.plain (OpenSpec.upto escapeBackSpec)) escapeBackUptoCard

/-- THE SECOND FORM's CARD OF 'peeragelaw10.EscapePlain'. -/
def escapePlainUptoCard : Claim7 := { stood := { row := escapePlainUptoRow, standIns := [], harness := (true, "533e15ee01aa2a687953f2f79885799edf1f8fea50faea97419b7a4935f1749e"), looks := false }, kinds := [], alts := [], laidByText := true, laidKinds := [.data, .pinned], laidTests := true, laidLooks := .later }
def EscapePlainUptoCardSaid : Prop := Claim7.holds Tryd.pinned (.plain (OpenSpec.upto escapePlainSpec)) escapePlainUptoCard

/-- THE SECOND FORM's CARD OF 'peeragelaw10.EscapeJoins'. -/
def escapeJoinsUptoCard : Claim7 := { stood := { row := escapeJoinsUptoRow, standIns := [], harness := (true, "533e15ee01aa2a687953f2f79885799edf1f8fea50faea97419b7a4935f1749e"), looks := false }, kinds := [], alts := [], laidByText := true, laidKinds := [.data, .pinned], laidTests := true, laidLooks := .later }
def EscapeJoinsUptoCardSaid : Prop := Claim7.holds Tryd.pinned (.plain (OpenSpec.upto escapeJoinsSpec)) escapeJoinsUptoCard
end Rows
end Go.Proofs.YtbdbgiecfkgimaaDoor
