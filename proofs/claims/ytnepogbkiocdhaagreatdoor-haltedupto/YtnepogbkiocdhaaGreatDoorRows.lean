/-
  NARROWER THAN 'FOR EVERY INPUT', by the rows' own cells (each row's printed sentence says how): Halted: laid.
  DERIVED. THE GIVEN ROWS OF THIS SEAT. 1 by the template 'for every input the law returns true; each argument reads behind the call as it read before'; 0 by the template 'total and deterministic' (their statements: YtnepogbkiocdhaaGreatDoorTotals.lean).
  GIVEN WITH THE SEED: the statements are not yours to turn. If you find one false, say at which input.
  Laid BY PROGRAM, IN A SANDBOX (cutbox-rows.mjs): the forced cells as the released guide's own fill.sh prints them over the translation f989b5ecdb86599c… (all of the seat's roots in one cut). By AI agents, Wed Nov 11 2026. No macro, syntax, notation, axiom, sorry.
-/
import Derived.Test.YtnepogbkiocdhaaGreatDoorChecked
import GoSem.PinnedTables
import GoSem.Claim
import GoSem.ClaimJoined
import GoSem.ClaimMapViews
import Derived.JoinedTies
import Derived.KernelRfl
namespace Go.Proofs.YtnepogbkiocdhaaGreatDoor
/- THE CELL 'sum', in the pinned program and in every row, IS THE sha256 OF THE DUMP (.gsa) THAT YtnepogbkiocdhaaGreatDoorProg.lean LOADS. Nothing in Lean hashes anything: it is a label: what it is worth is what the hold of that sum in a sandbox is worth. -/
noncomputable def Tryz.pinned : Pinned := { name := "ytnepogbkiocdhaagreatdoor", sum := "f989b5ecdb86599cb5dd3500a6f1fb03ea64d34a89ea4aeae236ffffb558e451", checked := Tryz.checked }
namespace Rows
def none {H : Type} : Left H := { results := [], args := [] }

/- WHAT THE LISTED PACKAGE-LEVEL VARIABLES READ AS WHEN THE CALL BEGINS. Each datum BY PROGRAM (the guide's laid-datum.mjs) off the statement by which the dump's own 'gosem.cut.vars' lays the variable. In a bare row this is a premise. The card (YtnepogbkiocdhaaGreatDoorCards.lean) ties it to the program's text. -/
def laid_unicode_utf8_acceptRanges {H : Type} : DataW H := .agg [.agg [.lit (.int .u8 128), .lit (.int .u8 191)], .agg [.lit (.int .u8 160), .lit (.int .u8 191)], .agg [.lit (.int .u8 128), .lit (.int .u8 159)], .agg [.lit (.int .u8 144), .lit (.int .u8 191)], .agg [.lit (.int .u8 128), .lit (.int .u8 143)], .agg [.lit (.int .u8 0), .lit (.int .u8 0)], .agg [.lit (.int .u8 0), .lit (.int .u8 0)], .agg [.lit (.int .u8 0), .lit (.int .u8 0)], .agg [.lit (.int .u8 0), .lit (.int .u8 0)], .agg [.lit (.int .u8 0), .lit (.int .u8 0)], .agg [.lit (.int .u8 0), .lit (.int .u8 0)], .agg [.lit (.int .u8 0), .lit (.int .u8 0)], .agg [.lit (.int .u8 0), .lit (.int .u8 0)], .agg [.lit (.int .u8 0), .lit (.int .u8 0)], .agg [.lit (.int .u8 0), .lit (.int .u8 0)], .agg [.lit (.int .u8 0), .lit (.int .u8 0)]]
def laid_orchard_value_letters {H : Type} : DataW H := .agg [.agg [.lit (.int .u8 63), .lit (.int .i64 0), .lit (.int .i64 1), .lit (.int .i64 0), .lit (.int .i64 1), .lit (.bool false), .lit (.int .u8 0)], .agg [.lit (.int .u8 52), .lit (.int .i64 0), .lit (.int .i64 4), .lit (.int .i64 (-2147483648)), .lit (.int .i64 2147483647), .lit (.bool false), .lit (.int .u8 0)], .agg [.lit (.int .u8 56), .lit (.int .i64 0), .lit (.int .i64 8), .lit (.int .i64 (-9223372036854775808)), .lit (.int .i64 9223372036854775807), .lit (.bool false), .lit (.int .u8 0)], .agg [.lit (.int .u8 98), .lit (.int .i64 1), .lit (.int .i64 0), .lit (.int .i64 0), .lit (.int .i64 0), .lit (.bool false), .lit (.int .u8 0)], .agg [.lit (.int .u8 116), .lit (.int .i64 1), .lit (.int .i64 0), .lit (.int .i64 0), .lit (.int .i64 0), .lit (.bool true), .lit (.int .u8 0)], .agg [.lit (.int .u8 91), .lit (.int .i64 2), .lit (.int .i64 0), .lit (.int .i64 0), .lit (.int .i64 0), .lit (.bool false), .lit (.int .u8 93)], .agg [.lit (.int .u8 40), .lit (.int .i64 3), .lit (.int .i64 0), .lit (.int .i64 0), .lit (.int .i64 0), .lit (.bool false), .lit (.int .u8 41)]]
def laid_orchard_message_requests {H : Type} : DataW H := .agg [.agg [.lit (.string []), .lit (.string []), .lit (.string [])], .agg [.lit (.string []), .lit (.string [40, 52, 52, 116, 98, 41]), .lit (.string [40, 52, 52, 116, 98, 116, 41])], .agg [.lit (.string []), .lit (.string [40, 52, 52, 116, 52, 41]), .lit (.string [40, 52, 52, 116, 52, 41])], .agg [.lit (.string []), .lit (.string [40, 52, 52, 116, 98, 52, 41]), .lit (.string [40, 52, 52, 116, 98, 52, 41])], .agg [.lit (.string []), .lit (.string [40, 52, 52, 116, 63, 41]), .lit (.string [40, 52, 52, 116, 63, 41])], .agg [.lit (.string []), .lit (.string [40, 52, 52, 116, 63, 41]), .lit (.string [40, 52, 52, 116, 63, 41])], .agg [.lit (.string []), .lit (.string [40, 52, 52, 116, 63, 41]), .lit (.string [40, 52, 52, 116, 63, 41])], .agg [.lit (.string []), .lit (.string [40, 52, 52, 41]), .lit (.string [40, 52, 52, 41])]]
def laid_orchard_message_answers {H : Type} : DataW H := .agg [.agg [.lit (.string []), .lit (.string []), .lit (.string [])], .agg [.lit (.string []), .lit (.string [40, 52, 56, 52, 116, 41]), .lit (.string [40, 52, 56, 52, 116, 41])], .agg [.lit (.string []), .lit (.string [40, 52, 56, 52, 41]), .lit (.string [40, 52, 56, 52, 41])], .agg [.lit (.string []), .lit (.string [40, 52, 56, 52, 40, 56, 56, 52, 52, 41, 41]), .lit (.string [40, 52, 56, 52, 40, 56, 56, 52, 52, 41, 41])], .agg [.lit (.string []), .lit (.string [40, 52, 56, 52, 98, 40, 56, 56, 52, 52, 41, 41]), .lit (.string [40, 52, 56, 52, 98, 116, 40, 56, 56, 52, 52, 41, 41])], .agg [.lit (.string []), .lit (.string [40, 52, 56, 52, 40, 56, 56, 52, 52, 41, 41]), .lit (.string [40, 52, 56, 52, 40, 56, 56, 52, 52, 41, 41])], .agg [.lit (.string []), .lit (.string [40, 52, 56, 52, 91, 116, 93, 41]), .lit (.string [40, 52, 56, 52, 91, 116, 93, 41])], .agg [.lit (.string []), .lit (.string [40, 52, 56, 52, 41]), .lit (.string [40, 52, 56, 52, 41])]]
def laid_orchard_file_schemas {H : Type} : DataW H := .agg [.lit (.string []), .lit (.string [40, 116, 98, 56, 56, 52, 41]), .lit (.string [40, 116, 98, 116, 56, 56, 52, 41])]
def laid_orchard_watch_tellings {H : Type} : DataW H := .agg [.nil, .slice [.agg [.lit (.int .i64 0), .lit (.bool false), .lit (.int .i64 1)], .agg [.lit (.int .i64 1), .lit (.bool true), .lit (.int .i64 4)]] [], .slice [.agg [.lit (.int .i64 0), .lit (.bool false), .lit (.int .i64 2)], .agg [.lit (.int .i64 1), .lit (.bool false), .lit (.int .i64 2)], .agg [.lit (.int .i64 1), .lit (.bool true), .lit (.int .i64 4)]] [], .slice [.agg [.lit (.int .i64 0), .lit (.bool false), .lit (.int .i64 3)]] []]
/-- One of Go's own tables, pinned by name: the form's constant. -/
def laid_unicode_utf8_first : DataW Unit := Go.Pinned.utf8First

/-- 'orchardkeep.Halted': WHATEVER THE INPUT: true; the input reads as it did. -/
def haltedSpec : ChangeSpec := { name := "halted", fn := fun _ => fun
  | [d1, d2, d3, d4] => { results := [.lit (.bool true)], args := [d1, d2, d3, d4] }
  | _ => none }
def haltedRow : OpenClaim := { program := "ytnepogbkiocdhaagreatdoor", sum := "f989b5ecdb86599cb5dd3500a6f1fb03ea64d34a89ea4aeae236ffffb558e451", func := "orchard/orchardkeep.Halted", spec := "halted", inPlace := ["slices.overlaps[orchard/api.Value]", "internal/bytealg.CountString", "internal/bytealg.IndexByteString", "internal/bytealg.IndexString", "(*sync.WaitGroup).Add", "internal/race.ReleaseMerge", "internal/race.Disable", "internal/race.Enable", "internal/synctest.IsInBubble", "internal/synctest.Associate[sync.WaitGroup]", "sync.fatal", "sync/atomic.OrUint64", "sync/atomic.AddUint64", "internal/race.Read", "sync/atomic.LoadUint64", "sync/atomic.StoreUint64", "internal/synctest.Disassociate[sync.WaitGroup]", "sync.runtime_Semrelease", "(*sync.WaitGroup).Done", "(*sync.WaitGroup).Wait", "internal/race.Acquire", "internal/synctest.IsAssociated[sync.WaitGroup]", "sync/atomic.CompareAndSwapUint64", "internal/race.Write", "sync.runtime_SemacquireWaitGroup", "internal/bytealg.abigen_runtime_cmpstring"], unfollowed := true, recurses := true, named := ["orchard/file.schemas", "orchard/value.letters", "unicode/utf8.first", "unicode/utf8.acceptRanges", "internal/bytealg.MaxLen", "orchard/message.requests", "orchard/watch.tellings", "orchard/message.answers"], plainKeys := false, leaving := true, apart := false, laid := [("unicode/utf8.acceptRanges", laid_unicode_utf8_acceptRanges), ("orchard/value.letters", laid_orchard_value_letters), ("orchard/message.requests", laid_orchard_message_requests), ("orchard/message.answers", laid_orchard_message_answers), ("orchard/file.schemas", laid_orchard_file_schemas), ("orchard/watch.tellings", laid_orchard_watch_tellings), ("unicode/utf8.first", laid_unicode_utf8_first)] }
def HaltedSaid : Prop := haltedRow.holds Tryz.pinned (OpenSpec.ofChange haltedSpec)

/-- ITS FALSE NEIGHBOUR: 'it returns false'. Refute it at one input. -/
def haltedWrong : ChangeSpec := { name := "halted", fn := fun _ => fun
  | [d1, d2, d3, d4] => { results := [.lit (.bool false)], args := [d1, d2, d3, d4] }
  | _ => none }
def HaltedWrongFalsely : Prop := haltedRow.holds Tryz.pinned (OpenSpec.ofChange haltedWrong)

/- THE SECOND FORM. 'bulk': how many values and letters a reading holds, each counted each time it is reached (what is shared counts as often as it is met; a slice's spare places count too). A statement '..UptoSaid' is the law's where the arguments, and the package variables that the reading takes, are together of bulk at most 1048576: NARROWER than '..Said'. Prove '..Said' where nothing that the law and all that it calls make is longer than what came in: it says more and counts as full. Else prove '..UptoSaid'. A law counts once. -/
mutual
def uptoBulk {H : Type} : DataW H → Nat
  | .lit (.string bytes) => bytes.length + 1
  | .lit _ => 1
  | .nil => 1
  | .ptr d => uptoBulk d + 1
  | .slice elems spare => uptoBulkAll elems + uptoBulkAll spare + 1
  | .agg parts => uptoBulkAll parts + 1
  | .iface _ d => uptoBulk d + 1
  | .map entries => uptoBulkEntries entries + 1
  | .held _ => 1
def uptoBulkAll {H : Type} : List (DataW H) → Nat
  | [] => 0
  | d :: r => uptoBulk d + uptoBulkAll r
def uptoBulkEntries {H : Type} : List (Lit × DataW H) → Nat
  | [] => 0
  | x :: r => uptoBulkEntry x + uptoBulkEntries r
def uptoBulkEntry {H : Type} : Lit × DataW H → Nat
  | (.string bytes, d) => bytes.length + uptoBulk d + 1
  | (_, d) => uptoBulk d + 1
 end
def uptoSmall : (H : Type) → List (DataW H) → Bool := fun _ ds => decide (uptoBulkAll ds ≤ 1048576)
def OpenSpec.upto (s : _root_.Go.ChangeSpec) : _root_.Go.OpenSpec := { _root_.Go.OpenSpec.ofChange s with cond := some uptoSmall }

/-- 'orchardkeep.Halted', WHERE WHAT IT READS IS OF BULK AT MOST 1048576: true; the input reads as it did. -/
def haltedUptoRow : OpenClaim := { program := "ytnepogbkiocdhaagreatdoor", sum := "f989b5ecdb86599cb5dd3500a6f1fb03ea64d34a89ea4aeae236ffffb558e451", func := "orchard/orchardkeep.Halted", spec := "halted", inPlace := ["slices.overlaps[orchard/api.Value]", "internal/bytealg.CountString", "internal/bytealg.IndexByteString", "internal/bytealg.IndexString", "(*sync.WaitGroup).Add", "internal/race.ReleaseMerge", "internal/race.Disable", "internal/race.Enable", "internal/synctest.IsInBubble", "internal/synctest.Associate[sync.WaitGroup]", "sync.fatal", "sync/atomic.OrUint64", "sync/atomic.AddUint64", "internal/race.Read", "sync/atomic.LoadUint64", "sync/atomic.StoreUint64", "internal/synctest.Disassociate[sync.WaitGroup]", "sync.runtime_Semrelease", "(*sync.WaitGroup).Done", "(*sync.WaitGroup).Wait", "internal/race.Acquire", "internal/synctest.IsAssociated[sync.WaitGroup]", "sync/atomic.CompareAndSwapUint64", "internal/race.Write", "sync.runtime_SemacquireWaitGroup", "internal/bytealg.abigen_runtime_cmpstring"], unfollowed := true, recurses := true, named := ["orchard/file.schemas", "orchard/value.letters", "unicode/utf8.first", "unicode/utf8.acceptRanges", "internal/bytealg.MaxLen", "orchard/message.requests", "orchard/watch.tellings", "orchard/message.answers"], plainKeys := false, leaving := true, apart := false, laid := [("unicode/utf8.acceptRanges", laid_unicode_utf8_acceptRanges), ("orchard/value.letters", laid_orchard_value_letters), ("orchard/message.requests", laid_orchard_message_requests), ("orchard/message.answers", laid_orchard_message_answers), ("orchard/file.schemas", laid_orchard_file_schemas), ("orchard/watch.tellings", laid_orchard_watch_tellings), ("unicode/utf8.first", laid_unicode_utf8_first)], narrowed := true }
def HaltedUptoSaid : Prop := haltedUptoRow.holds Tryz.pinned (OpenSpec.upto haltedSpec)

end Rows
end Go.Proofs.YtnepogbkiocdhaaGreatDoor
