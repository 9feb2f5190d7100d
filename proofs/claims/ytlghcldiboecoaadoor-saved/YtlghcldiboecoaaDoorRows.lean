/-
  NARROWER THAN 'FOR EVERY INPUT', by the rows' own cells (each row's printed sentence says how): Coded: laid · Canon: laid · Saved: laid · Spoilt: laid.
  DERIVED. THE GIVEN ROWS OF THIS SEAT. 4 by the template 'for every input the law returns true; each argument reads behind the call as it read before'; 0 by the template 'total and deterministic' (their statements: YtlghcldiboecoaaDoorTotals.lean).
  GIVEN WITH THE SEED: the statements are not yours to turn. If you find one false, say at which input.
  Laid BY PROGRAM, IN A SANDBOX (cutbox-rows.mjs): the forced cells as the released guide's own fill.sh prints them over the translation 1370a9134aa0bc16… (all of the seat's roots in one cut). By AI agents, Wed Nov 11 2026. No macro, syntax, notation, axiom, sorry.
-/
import Derived.Test.YtlghcldiboecoaaDoorChecked
import GoSem.PinnedTables
import GoSem.Claim
import GoSem.ClaimJoined
import GoSem.ClaimMapViews
import Derived.JoinedTies
import Derived.KernelRfl
namespace Go.Proofs.YtlghcldiboecoaaDoor
/- THE CELL 'sum', in the pinned program and in every row, IS THE sha256 OF THE DUMP (.gsa) THAT YtlghcldiboecoaaDoorProg.lean LOADS. Nothing in Lean hashes anything: it is a label: what it is worth is what the hold of that sum in a sandbox is worth. -/
noncomputable def Tryd.pinned : Pinned := { name := "ytlghcldiboecoaadoor", sum := "1370a9134aa0bc16e5446fb0cf929bee6a8096e007c351e1c020f3b6d76e4a3f", checked := Tryd.checked }
namespace Rows
def none {H : Type} : Left H := { results := [], args := [] }

/- WHAT THE LISTED PACKAGE-LEVEL VARIABLES READ AS WHEN THE CALL BEGINS. Each datum BY PROGRAM (the guide's laid-datum.mjs) off the statement by which the dump's own 'gosem.cut.vars' lays the variable. In a bare row this is a premise. The card (YtlghcldiboecoaaDoorCards.lean) ties it to the program's text. -/
def laid_unicode_utf8_acceptRanges {H : Type} : DataW H := .agg [.agg [.lit (.int .u8 128), .lit (.int .u8 191)], .agg [.lit (.int .u8 160), .lit (.int .u8 191)], .agg [.lit (.int .u8 128), .lit (.int .u8 159)], .agg [.lit (.int .u8 144), .lit (.int .u8 191)], .agg [.lit (.int .u8 128), .lit (.int .u8 143)], .agg [.lit (.int .u8 0), .lit (.int .u8 0)], .agg [.lit (.int .u8 0), .lit (.int .u8 0)], .agg [.lit (.int .u8 0), .lit (.int .u8 0)], .agg [.lit (.int .u8 0), .lit (.int .u8 0)], .agg [.lit (.int .u8 0), .lit (.int .u8 0)], .agg [.lit (.int .u8 0), .lit (.int .u8 0)], .agg [.lit (.int .u8 0), .lit (.int .u8 0)], .agg [.lit (.int .u8 0), .lit (.int .u8 0)], .agg [.lit (.int .u8 0), .lit (.int .u8 0)], .agg [.lit (.int .u8 0), .lit (.int .u8 0)], .agg [.lit (.int .u8 0), .lit (.int .u8 0)]]
def laid_orchard_value_letters {H : Type} : DataW H := .agg [.agg [.lit (.int .u8 63), .lit (.int .i64 0), .lit (.int .i64 1), .lit (.int .i64 0), .lit (.int .i64 1), .lit (.bool false), .lit (.int .u8 0)], .agg [.lit (.int .u8 52), .lit (.int .i64 0), .lit (.int .i64 4), .lit (.int .i64 (-2147483648)), .lit (.int .i64 2147483647), .lit (.bool false), .lit (.int .u8 0)], .agg [.lit (.int .u8 56), .lit (.int .i64 0), .lit (.int .i64 8), .lit (.int .i64 (-9223372036854775808)), .lit (.int .i64 9223372036854775807), .lit (.bool false), .lit (.int .u8 0)], .agg [.lit (.int .u8 98), .lit (.int .i64 1), .lit (.int .i64 0), .lit (.int .i64 0), .lit (.int .i64 0), .lit (.bool false), .lit (.int .u8 0)], .agg [.lit (.int .u8 116), .lit (.int .i64 1), .lit (.int .i64 0), .lit (.int .i64 0), .lit (.int .i64 0), .lit (.bool true), .lit (.int .u8 0)], .agg [.lit (.int .u8 91), .lit (.int .i64 2), .lit (.int .i64 0), .lit (.int .i64 0), .lit (.int .i64 0), .lit (.bool false), .lit (.int .u8 93)], .agg [.lit (.int .u8 40), .lit (.int .i64 3), .lit (.int .i64 0), .lit (.int .i64 0), .lit (.int .i64 0), .lit (.bool false), .lit (.int .u8 41)]]
/-- One of Go's own tables, pinned by name: the form's constant. -/
def laid_unicode_utf8_first : DataW Unit := Go.Pinned.utf8First
def laid_orchard_file_schemas {H : Type} : DataW H := .agg [.lit (.string []), .lit (.string [40, 116, 98, 56, 56, 52, 41]), .lit (.string [40, 116, 98, 116, 56, 56, 52, 41])]

/-- 'orchardkeep.Coded': WHATEVER THE INPUT: true; the input reads as it did. -/
def codedSpec : ChangeSpec := { name := "coded", fn := fun _ => fun
  | [d1, d2] => { results := [.lit (.bool true)], args := [d1, d2] }
  | _ => none }
def codedRow : OpenClaim := { program := "ytlghcldiboecoaadoor", sum := "1370a9134aa0bc16e5446fb0cf929bee6a8096e007c351e1c020f3b6d76e4a3f", func := "orchard/orchardkeep.Coded", spec := "coded", recurses := true, named := ["orchard/value.letters", "unicode/utf8.first", "unicode/utf8.acceptRanges"], apart := false, laid := [("unicode/utf8.acceptRanges", laid_unicode_utf8_acceptRanges), ("orchard/value.letters", laid_orchard_value_letters), ("unicode/utf8.first", laid_unicode_utf8_first)] }
def CodedSaid : Prop := codedRow.holds Tryd.pinned (OpenSpec.ofChange codedSpec)

/-- ITS FALSE NEIGHBOUR: 'it returns false'. Refute it at one input. -/
def codedWrong : ChangeSpec := { name := "coded", fn := fun _ => fun
  | [d1, d2] => { results := [.lit (.bool false)], args := [d1, d2] }
  | _ => none }
def CodedWrongFalsely : Prop := codedRow.holds Tryd.pinned (OpenSpec.ofChange codedWrong)

/-- 'orchardkeep.Canon': WHATEVER THE INPUT: true; the input reads as it did. -/
def canonSpec : ChangeSpec := { name := "canon", fn := fun _ => fun
  | [d1, d2] => { results := [.lit (.bool true)], args := [d1, d2] }
  | _ => none }
def canonRow : OpenClaim := { program := "ytlghcldiboecoaadoor", sum := "1370a9134aa0bc16e5446fb0cf929bee6a8096e007c351e1c020f3b6d76e4a3f", func := "orchard/orchardkeep.Canon", spec := "canon", recurses := true, named := ["orchard/value.letters", "unicode/utf8.first", "unicode/utf8.acceptRanges"], apart := false, laid := [("unicode/utf8.acceptRanges", laid_unicode_utf8_acceptRanges), ("orchard/value.letters", laid_orchard_value_letters), ("unicode/utf8.first", laid_unicode_utf8_first)] }
def CanonSaid : Prop := canonRow.holds Tryd.pinned (OpenSpec.ofChange canonSpec)

/-- ITS FALSE NEIGHBOUR: 'it returns false'. Refute it at one input. -/
def canonWrong : ChangeSpec := { name := "canon", fn := fun _ => fun
  | [d1, d2] => { results := [.lit (.bool false)], args := [d1, d2] }
  | _ => none }
def CanonWrongFalsely : Prop := canonRow.holds Tryd.pinned (OpenSpec.ofChange canonWrong)

/-- 'orchardkeep.Saved': WHATEVER THE INPUT: true; the input reads as it did. -/
def savedSpec : ChangeSpec := { name := "saved", fn := fun _ => fun
  | [d1, d2] => { results := [.lit (.bool true)], args := [d1, d2] }
  | _ => none }
def savedRow : OpenClaim := { program := "ytlghcldiboecoaadoor", sum := "1370a9134aa0bc16e5446fb0cf929bee6a8096e007c351e1c020f3b6d76e4a3f", func := "orchard/orchardkeep.Saved", spec := "saved", inPlace := ["internal/bytealg.CountString", "internal/bytealg.IndexByteString", "internal/bytealg.IndexString", "slices.overlaps[orchard/api.Value]"], unfollowed := true, recurses := true, named := ["unicode/utf8.first", "unicode/utf8.acceptRanges", "internal/bytealg.MaxLen", "orchard/file.schemas", "orchard/value.letters"], apart := false, laid := [("unicode/utf8.acceptRanges", laid_unicode_utf8_acceptRanges), ("orchard/value.letters", laid_orchard_value_letters), ("orchard/file.schemas", laid_orchard_file_schemas), ("unicode/utf8.first", laid_unicode_utf8_first)] }
def SavedSaid : Prop := savedRow.holds Tryd.pinned (OpenSpec.ofChange savedSpec)

/-- ITS FALSE NEIGHBOUR: 'it returns false'. Refute it at one input. -/
def savedWrong : ChangeSpec := { name := "saved", fn := fun _ => fun
  | [d1, d2] => { results := [.lit (.bool false)], args := [d1, d2] }
  | _ => none }
def SavedWrongFalsely : Prop := savedRow.holds Tryd.pinned (OpenSpec.ofChange savedWrong)

/-- 'orchardkeep.Spoilt': WHATEVER THE INPUT: true; the input reads as it did. -/
def spoiltSpec : ChangeSpec := { name := "spoilt", fn := fun _ => fun
  | [d1, d2, d3] => { results := [.lit (.bool true)], args := [d1, d2, d3] }
  | _ => none }
def spoiltRow : OpenClaim := { program := "ytlghcldiboecoaadoor", sum := "1370a9134aa0bc16e5446fb0cf929bee6a8096e007c351e1c020f3b6d76e4a3f", func := "orchard/orchardkeep.Spoilt", spec := "spoilt", inPlace := ["internal/bytealg.CountString", "internal/bytealg.IndexByteString", "internal/bytealg.IndexString", "slices.overlaps[orchard/api.Value]"], unfollowed := true, recurses := true, named := ["unicode/utf8.first", "unicode/utf8.acceptRanges", "internal/bytealg.MaxLen", "orchard/file.schemas", "orchard/value.letters"], apart := false, laid := [("unicode/utf8.acceptRanges", laid_unicode_utf8_acceptRanges), ("orchard/value.letters", laid_orchard_value_letters), ("orchard/file.schemas", laid_orchard_file_schemas), ("unicode/utf8.first", laid_unicode_utf8_first)] }
def SpoiltSaid : Prop := spoiltRow.holds Tryd.pinned (OpenSpec.ofChange spoiltSpec)

/-- ITS FALSE NEIGHBOUR: 'it returns false'. Refute it at one input. -/
def spoiltWrong : ChangeSpec := { name := "spoilt", fn := fun _ => fun
  | [d1, d2, d3] => { results := [.lit (.bool false)], args := [d1, d2, d3] }
  | _ => none }
def SpoiltWrongFalsely : Prop := spoiltRow.holds Tryd.pinned (OpenSpec.ofChange spoiltWrong)

/- THE SECOND FORM. 'bulk': how many values and letters a reading holds, each counted each time it is reached (what is shared counts as often as it is met; a slice's spare places count too). A statement '..UptoSaid' is the law's where the arguments, and the package variables that the reading takes, are together of bulk at most 1048576: NARROWER than '..Said'. Prove '..Said' where nothing that the law and all that it calls make is longer than what came in: it says more and counts as full. Else prove '..UptoSaid'. A law counts once. -/
mutual
def uptoBulk {H : Type} : DataW H → Nat
  | .lit (.string bytes) => bytes.length + 1
  | .lit _ => 1
  | .nil => 1
  | .ptr d => uptoBulk d + 1
  | .slice elems spare => uptoBulkAll elems + uptoBulkAll spare + 1
  | .agg parts => uptoBulkAll parts + 1
  | .iface _ d => uptoBulk d + 1
  | .map entries => uptoBulkEntries entries + 1
  | .held _ => 1
def uptoBulkAll {H : Type} : List (DataW H) → Nat
  | [] => 0
  | d :: r => uptoBulk d + uptoBulkAll r
def uptoBulkEntries {H : Type} : List (Lit × DataW H) → Nat
  | [] => 0
  | x :: r => uptoBulkEntry x + uptoBulkEntries r
def uptoBulkEntry {H : Type} : Lit × DataW H → Nat
  | (.string bytes, d) => bytes.length + uptoBulk d + 1
  | (_, d) => uptoBulk d + 1
 end
def uptoSmall : (H : Type) → List (DataW H) → Bool := fun _ ds => decide (uptoBulkAll ds ≤ 1048576)
def OpenSpec.upto (s : _root_.Go.ChangeSpec) : _root_.Go.OpenSpec := { _root_.Go.OpenSpec.ofChange s with cond := some uptoSmall }

/-- 'orchardkeep.Coded', WHERE WHAT IT READS IS OF BULK AT MOST 1048576: true; the input reads as it did. -/
def codedUptoRow : OpenClaim := { program := "ytlghcldiboecoaadoor", sum := "1370a9134aa0bc16e5446fb0cf929bee6a8096e007c351e1c020f3b6d76e4a3f", func := "orchard/orchardkeep.Coded", spec := "coded", recurses := true, named := ["orchard/value.letters", "unicode/utf8.first", "unicode/utf8.acceptRanges"], apart := false, laid := [("unicode/utf8.acceptRanges", laid_unicode_utf8_acceptRanges), ("orchard/value.letters", laid_orchard_value_letters), ("unicode/utf8.first", laid_unicode_utf8_first)], narrowed := true }
def CodedUptoSaid : Prop := codedUptoRow.holds Tryd.pinned (OpenSpec.upto codedSpec)

/-- 'orchardkeep.Canon', WHERE WHAT IT READS IS OF BULK AT MOST 1048576: true; the input reads as it did. -/
def canonUptoRow : OpenClaim := { program := "ytlghcldiboecoaadoor", sum := "1370a9134aa0bc16e5446fb0cf929bee6a8096e007c351e1c020f3b6d76e4a3f", func := "orchard/orchardkeep.Canon", spec := "canon", recurses := true, named := ["orchard/value.letters", "unicode/utf8.first", "unicode/utf8.acceptRanges"], apart := false, laid := [("unicode/utf8.acceptRanges", laid_unicode_utf8_acceptRanges), ("orchard/value.letters", laid_orchard_value_letters), ("unicode/utf8.first", laid_unicode_utf8_first)], narrowed := true }
def CanonUptoSaid : Prop := canonUptoRow.holds Tryd.pinned (OpenSpec.upto canonSpec)

/-- 'orchardkeep.Saved', WHERE WHAT IT READS IS OF BULK AT MOST 1048576: true; the input reads as it did. -/
def savedUptoRow : OpenClaim := { program := "ytlghcldiboecoaadoor", sum := "1370a9134aa0bc16e5446fb0cf929bee6a8096e007c351e1c020f3b6d76e4a3f", func := "orchard/orchardkeep.Saved", spec := "saved", inPlace := ["internal/bytealg.CountString", "internal/bytealg.IndexByteString", "internal/bytealg.IndexString", "slices.overlaps[orchard/api.Value]"], unfollowed := true, recurses := true, named := ["unicode/utf8.first", "unicode/utf8.acceptRanges", "internal/bytealg.MaxLen", "orchard/file.schemas", "orchard/value.letters"], apart := false, laid := [("unicode/utf8.acceptRanges", laid_unicode_utf8_acceptRanges), ("orchard/value.letters", laid_orchard_value_letters), ("orchard/file.schemas", laid_orchard_file_schemas), ("unicode/utf8.first", laid_unicode_utf8_first)], narrowed := true }
def SavedUptoSaid : Prop := savedUptoRow.holds Tryd.pinned (OpenSpec.upto savedSpec)

/-- 'orchardkeep.Spoilt', WHERE WHAT IT READS IS OF BULK AT MOST 1048576: true; the input reads as it did. -/
def spoiltUptoRow : OpenClaim := { program := "ytlghcldiboecoaadoor", sum := "1370a9134aa0bc16e5446fb0cf929bee6a8096e007c351e1c020f3b6d76e4a3f", func := "orchard/orchardkeep.Spoilt", spec := "spoilt", inPlace := ["internal/bytealg.CountString", "internal/bytealg.IndexByteString", "internal/bytealg.IndexString", "slices.overlaps[orchard/api.Value]"], unfollowed := true, recurses := true, named := ["unicode/utf8.first", "unicode/utf8.acceptRanges", "internal/bytealg.MaxLen", "orchard/file.schemas", "orchard/value.letters"], apart := false, laid := [("unicode/utf8.acceptRanges", laid_unicode_utf8_acceptRanges), ("orchard/value.letters", laid_orchard_value_letters), ("orchard/file.schemas", laid_orchard_file_schemas), ("unicode/utf8.first", laid_unicode_utf8_first)], narrowed := true }
def SpoiltUptoSaid : Prop := spoiltUptoRow.holds Tryd.pinned (OpenSpec.upto spoiltSpec)

end Rows
end Go.Proofs.YtlghcldiboecoaaDoor
