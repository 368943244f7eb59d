/-
  NARROWER THAN 'FOR EVERY INPUT', by the rows' own cells (each row's printed sentence says how): FilterBack: loops, laid · TruthJoins: laid.
  DERIVED. THE GIVEN ROWS OF THIS SEAT. 2 by the template 'for every input the law returns true; each argument reads behind the call as it read before'; 0 by the template 'total and deterministic' (their statements: YtkffgdndglfcfaaGreatDoorTotals.lean).
  GIVEN WITH THE SEED: the statements are not yours to turn. If you find one false, say at which input.
  Laid BY PROGRAM, IN A SANDBOX (cutbox-rows.mjs): the forced cells as the released guide's own fill.sh prints them over the translation 67c015b36c41cea7… (all of the seat's roots in one cut). By AI agents, Wed Nov 11 2026. No macro, syntax, notation, axiom, sorry.
-/
import Derived.Test.YtkffgdndglfcfaaGreatDoorChecked
import GoSem.PinnedTables
import GoSem.Claim
import GoSem.ClaimJoined
import GoSem.ClaimMapViews
import Derived.JoinedTies
import Derived.KernelRfl
namespace Go.Proofs.YtkffgdndglfcfaaGreatDoor
/- THE CELL 'sum', in the pinned program and in every row, IS THE sha256 OF THE DUMP (.gsa) THAT YtkffgdndglfcfaaGreatDoorProg.lean LOADS. Nothing in Lean hashes anything: it is a label: what it is worth is what the hold of that sum in a sandbox is worth. -/
noncomputable def Tryz.pinned : Pinned := { name := "ytkffgdndglfcfaagreatdoor", sum := "67c015b36c41cea79468bad756c161731bc7b510dac6cff68a47174ae76c3e7a", checked := Tryz.checked }
namespace Rows
def none {H : Type} : Left H := { results := [], args := [] }

/- WHAT THE LISTED PACKAGE-LEVEL VARIABLES READ AS WHEN THE CALL BEGINS. Each datum BY PROGRAM (the guide's laid-datum.mjs) off the statement by which the dump's own 'gosem.cut.vars' lays the variable. In a bare row this is a premise. The card (YtkffgdndglfcfaaGreatDoorCards.lean) ties it to the program's text. -/
def laid_unicode_utf8_acceptRanges {H : Type} : DataW H := .agg [.agg [.lit (.int .u8 128), .lit (.int .u8 191)], .agg [.lit (.int .u8 160), .lit (.int .u8 191)], .agg [.lit (.int .u8 128), .lit (.int .u8 159)], .agg [.lit (.int .u8 144), .lit (.int .u8 191)], .agg [.lit (.int .u8 128), .lit (.int .u8 143)], .agg [.lit (.int .u8 0), .lit (.int .u8 0)], .agg [.lit (.int .u8 0), .lit (.int .u8 0)], .agg [.lit (.int .u8 0), .lit (.int .u8 0)], .agg [.lit (.int .u8 0), .lit (.int .u8 0)], .agg [.lit (.int .u8 0), .lit (.int .u8 0)], .agg [.lit (.int .u8 0), .lit (.int .u8 0)], .agg [.lit (.int .u8 0), .lit (.int .u8 0)], .agg [.lit (.int .u8 0), .lit (.int .u8 0)], .agg [.lit (.int .u8 0), .lit (.int .u8 0)], .agg [.lit (.int .u8 0), .lit (.int .u8 0)], .agg [.lit (.int .u8 0), .lit (.int .u8 0)]]
/-- One of Go's own tables, pinned by name: the form's constant. -/
def laid_unicode_utf8_first : DataW Unit := Go.Pinned.utf8First
def laid_peerage_schema_attributeTable {H : Type} : DataW H := .slice [.agg [.lit (.string [111, 98, 106, 101, 99, 116, 67, 108, 97, 115, 115]), .lit (.string []), .lit (.string [50, 46, 53, 46, 52, 46, 48]), .lit (.int .i64 9), .lit (.bool false)], .agg [.lit (.string [99, 110]), .lit (.string [99, 111, 109, 109, 111, 110, 78, 97, 109, 101]), .lit (.string [50, 46, 53, 46, 52, 46, 51]), .lit (.int .i64 1), .lit (.bool false)], .agg [.lit (.string [115, 110]), .lit (.string [115, 117, 114, 110, 97, 109, 101]), .lit (.string [50, 46, 53, 46, 52, 46, 52]), .lit (.int .i64 1), .lit (.bool false)], .agg [.lit (.string [115, 101, 114, 105, 97, 108, 78, 117, 109, 98, 101, 114]), .lit (.string []), .lit (.string [50, 46, 53, 46, 52, 46, 53]), .lit (.int .i64 2), .lit (.bool false)], .agg [.lit (.string [99]), .lit (.string [99, 111, 117, 110, 116, 114, 121, 78, 97, 109, 101]), .lit (.string [50, 46, 53, 46, 52, 46, 54]), .lit (.int .i64 1), .lit (.bool true)], .agg [.lit (.string [111]), .lit (.string [111, 114, 103, 97, 110, 105, 122, 97, 116, 105, 111, 110, 78, 97, 109, 101]), .lit (.string [50, 46, 53, 46, 52, 46, 49, 48]), .lit (.int .i64 1), .lit (.bool false)], .agg [.lit (.string [111, 117]), .lit (.string [111, 114, 103, 97, 110, 105, 122, 97, 116, 105, 111, 110, 97, 108, 85, 110, 105, 116, 78, 97, 109, 101]), .lit (.string [50, 46, 53, 46, 52, 46, 49, 49]), .lit (.int .i64 1), .lit (.bool false)], .agg [.lit (.string [100, 101, 115, 99, 114, 105, 112, 116, 105, 111, 110]), .lit (.string []), .lit (.string [50, 46, 53, 46, 52, 46, 49, 51]), .lit (.int .i64 1), .lit (.bool false)], .agg [.lit (.string [116, 101, 108, 101, 112, 104, 111, 110, 101, 78, 117, 109, 98, 101, 114]), .lit (.string []), .lit (.string [50, 46, 53, 46, 52, 46, 50, 48]), .lit (.int .i64 7), .lit (.bool false)], .agg [.lit (.string [109, 101, 109, 98, 101, 114]), .lit (.string []), .lit (.string [50, 46, 53, 46, 52, 46, 51, 49]), .lit (.int .i64 6), .lit (.bool false)], .agg [.lit (.string [111, 119, 110, 101, 114]), .lit (.string []), .lit (.string [50, 46, 53, 46, 52, 46, 51, 50]), .lit (.int .i64 6), .lit (.bool false)], .agg [.lit (.string [115, 101, 101, 65, 108, 115, 111]), .lit (.string []), .lit (.string [50, 46, 53, 46, 52, 46, 51, 52]), .lit (.int .i64 6), .lit (.bool false)], .agg [.lit (.string [117, 115, 101, 114, 80, 97, 115, 115, 119, 111, 114, 100]), .lit (.string []), .lit (.string [50, 46, 53, 46, 52, 46, 51, 53]), .lit (.int .i64 5), .lit (.bool false)], .agg [.lit (.string [103, 105, 118, 101, 110, 78, 97, 109, 101]), .lit (.string []), .lit (.string [50, 46, 53, 46, 52, 46, 52, 50]), .lit (.int .i64 1), .lit (.bool false)], .agg [.lit (.string [117, 105, 100]), .lit (.string [117, 115, 101, 114, 105, 100]), .lit (.string [48, 46, 57, 46, 50, 51, 52, 50, 46, 49, 57, 50, 48, 48, 51, 48, 48, 46, 49, 48, 48, 46, 49, 46, 49]), .lit (.int .i64 1), .lit (.bool false)], .agg [.lit (.string [109, 97, 105, 108]), .lit (.string []), .lit (.string [48, 46, 57, 46, 50, 51, 52, 50, 46, 49, 57, 50, 48, 48, 51, 48, 48, 46, 49, 48, 48, 46, 49, 46, 51]), .lit (.int .i64 1), .lit (.bool false)], .agg [.lit (.string [100, 99]), .lit (.string [100, 111, 109, 97, 105, 110, 67, 111, 109, 112, 111, 110, 101, 110, 116]), .lit (.string [48, 46, 57, 46, 50, 51, 52, 50, 46, 49, 57, 50, 48, 48, 51, 48, 48, 46, 49, 48, 48, 46, 49, 46, 50, 53]), .lit (.int .i64 1), .lit (.bool true)], .agg [.lit (.string [101, 109, 112, 108, 111, 121, 101, 101, 78, 117, 109, 98, 101, 114]), .lit (.string []), .lit (.string [50, 46, 49, 54, 46, 56, 52, 48, 46, 49, 46, 49, 49, 51, 55, 51, 48, 46, 51, 46, 49, 46, 51]), .lit (.int .i64 3), .lit (.bool true)], .agg [.lit (.string [101, 110, 97, 98, 108, 101, 100]), .lit (.string []), .lit (.string [49, 46, 51, 46, 54, 46, 49, 46, 52, 46, 49, 46, 57, 57, 57, 57, 57, 46, 49]), .lit (.int .i64 4), .lit (.bool true)], .agg [.lit (.string [119, 101, 105, 103, 104, 116]), .lit (.string []), .lit (.string [49, 46, 51, 46, 54, 46, 49, 46, 52, 46, 49, 46, 57, 57, 57, 57, 57, 46, 50]), .lit (.int .i64 8), .lit (.bool true)]] []

/-- 'peeragelaw14.FilterBack': WHATEVER THE INPUT: true; the input reads as it did. -/
def filterBackSpec : ChangeSpec := { name := "filterBack", fn := fun _ => fun
  | [d] => { results := [.lit (.bool true)], args := [d] }
  | _ => none }
def filterBackRow : OpenClaim := { program := "ytkffgdndglfcfaagreatdoor", sum := "67c015b36c41cea79468bad756c161731bc7b510dac6cff68a47174ae76c3e7a", func := "peerage/peeragelaw14.FilterBack", spec := "filterBack", inPlace := ["internal/bytealg.IndexByteString", "internal/bytealg.IndexString", "internal/abi.NoEscape", "internal/bytealg.CountString", "internal/bytealg.MakeNoZero"], unfollowed := true, recurses := true, named := ["internal/bytealg.MaxLen", "unicode/utf8.first", "unicode/utf8.acceptRanges"], loops := true, plainKeys := false, apart := false, laid := [("unicode/utf8.acceptRanges", laid_unicode_utf8_acceptRanges), ("unicode/utf8.first", laid_unicode_utf8_first)] }
def FilterBackSaid : Prop := filterBackRow.holds Tryz.pinned (OpenSpec.ofChange filterBackSpec)

/-- ITS FALSE NEIGHBOUR: 'it returns false'. Refute it at one input. -/
def filterBackWrong : ChangeSpec := { name := "filterBack", fn := fun _ => fun
  | [d] => { results := [.lit (.bool false)], args := [d] }
  | _ => none }
def FilterBackWrongFalsely : Prop := filterBackRow.holds Tryz.pinned (OpenSpec.ofChange filterBackWrong)

/-- 'peeragelaw15.TruthJoins': WHATEVER THE INPUT: true; the input reads as it did. -/
def truthJoinsSpec : ChangeSpec := { name := "truthJoins", fn := fun _ => fun
  | [d1, d2] => { results := [.lit (.bool true)], args := [d1, d2] }
  | _ => none }
def truthJoinsRow : OpenClaim := { program := "ytkffgdndglfcfaagreatdoor", sum := "67c015b36c41cea79468bad756c161731bc7b510dac6cff68a47174ae76c3e7a", func := "peerage/peeragelaw15.TruthJoins", spec := "truthJoins", inPlace := ["internal/bytealg.IndexByteString", "internal/bytealg.IndexString", "internal/abi.NoEscape", "internal/bytealg.CountString", "internal/bytealg.MakeNoZero", "internal/bytealg.abigen_runtime_cmpstring"], unfollowed := true, recurses := true, named := ["internal/bytealg.MaxLen", "unicode/utf8.first", "unicode/utf8.acceptRanges", "peerage/schema.attributeTable"], plainKeys := false, apart := false, laid := [("unicode/utf8.acceptRanges", laid_unicode_utf8_acceptRanges), ("peerage/schema.attributeTable", laid_peerage_schema_attributeTable), ("unicode/utf8.first", laid_unicode_utf8_first)] }
def TruthJoinsSaid : Prop := truthJoinsRow.holds Tryz.pinned (OpenSpec.ofChange truthJoinsSpec)

/-- ITS FALSE NEIGHBOUR: 'it returns false'. Refute it at one input. -/
def truthJoinsWrong : ChangeSpec := { name := "truthJoins", fn := fun _ => fun
  | [d1, d2] => { results := [.lit (.bool false)], args := [d1, d2] }
  | _ => none }
def TruthJoinsWrongFalsely : Prop := truthJoinsRow.holds Tryz.pinned (OpenSpec.ofChange truthJoinsWrong)

/- THE SECOND FORM. 'bulk': how many values and letters a reading holds, each counted each time it is reached (what is shared counts as often as it is met; a slice's spare places count too). A statement '..UptoSaid' is the law's where the arguments, and the package variables that the reading takes, are together of bulk at most 1048576: NARROWER than '..Said'. Prove '..Said' where nothing that the law and all that it calls make is longer than what came in: it says more and counts as full. Else prove '..UptoSaid'. A law counts once. -/
mutual
def uptoBulk {H : Type} : DataW H → Nat
  | .lit (.string bytes) => bytes.length + 1
  | .lit _ => 1
  | .nil => 1
  | .ptr d => uptoBulk d + 1
  | .slice elems spare => uptoBulkAll elems + uptoBulkAll spare + 1
  | .agg parts => uptoBulkAll parts + 1
  | .iface _ d => uptoBulk d + 1
  | .map entries => uptoBulkEntries entries + 1
  | .held _ => 1
def uptoBulkAll {H : Type} : List (DataW H) → Nat
  | [] => 0
  | d :: r => uptoBulk d + uptoBulkAll r
def uptoBulkEntries {H : Type} : List (Lit × DataW H) → Nat
  | [] => 0
  | x :: r => uptoBulkEntry x + uptoBulkEntries r
def uptoBulkEntry {H : Type} : Lit × DataW H → Nat
  | (.string bytes, d) => bytes.length + uptoBulk d + 1
  | (_, d) => uptoBulk d + 1
 end
def uptoSmall : (H : Type) → List (DataW H) → Bool := fun _ ds => decide (uptoBulkAll ds ≤ 1048576)
def OpenSpec.upto (s : _root_.Go.ChangeSpec) : _root_.Go.OpenSpec := { _root_.Go.OpenSpec.ofChange s with cond := some uptoSmall }

/-- 'peeragelaw14.FilterBack', WHERE WHAT IT READS IS OF BULK AT MOST 1048576: true; the input reads as it did. -/
def filterBackUptoRow : OpenClaim := { program := "ytkffgdndglfcfaagreatdoor", sum := "67c015b36c41cea79468bad756c161731bc7b510dac6cff68a47174ae76c3e7a", func := "peerage/peeragelaw14.FilterBack", spec := "filterBack", inPlace := ["internal/bytealg.IndexByteString", "internal/bytealg.IndexString", "internal/abi.NoEscape", "internal/bytealg.CountString", "internal/bytealg.MakeNoZero"], unfollowed := true, recurses := true, named := ["internal/bytealg.MaxLen", "unicode/utf8.first", "unicode/utf8.acceptRanges"], loops := true, plainKeys := false, apart := false, laid := [("unicode/utf8.acceptRanges", laid_unicode_utf8_acceptRanges), ("unicode/utf8.first", laid_unicode_utf8_first)], narrowed := true }
def FilterBackUptoSaid : Prop := filterBackUptoRow.holds Tryz.pinned (OpenSpec.upto filterBackSpec)

/-- 'peeragelaw15.TruthJoins', WHERE WHAT IT READS IS OF BULK AT MOST 1048576: true; the input reads as it did. -/
def truthJoinsUptoRow : OpenClaim := { program := "ytkffgdndglfcfaagreatdoor", sum := "67c015b36c41cea79468bad756c161731bc7b510dac6cff68a47174ae76c3e7a", func := "peerage/peeragelaw15.TruthJoins", spec := "truthJoins", inPlace := ["internal/bytealg.IndexByteString", "internal/bytealg.IndexString", "internal/abi.NoEscape", "internal/bytealg.CountString", "internal/bytealg.MakeNoZero", "internal/bytealg.abigen_runtime_cmpstring"], unfollowed := true, recurses := true, named := ["internal/bytealg.MaxLen", "unicode/utf8.first", "unicode/utf8.acceptRanges", "peerage/schema.attributeTable"], plainKeys := false, apart := false, laid := [("unicode/utf8.acceptRanges", laid_unicode_utf8_acceptRanges), ("peerage/schema.attributeTable", laid_peerage_schema_attributeTable), ("unicode/utf8.first", laid_unicode_utf8_first)], narrowed := true }
def TruthJoinsUptoSaid : Prop := truthJoinsUptoRow.holds Tryz.pinned (OpenSpec.upto truthJoinsSpec)

end Rows
end Go.Proofs.YtkffgdndglfcfaaGreatDoor
