/- The frame of Encodes: an input that fits. -/
import Derived.Test.YtlghcldiboecoaaGreatDoorEWalk
import Derived.Lib.LaidIn
import Derived.Deep.DeepWitnessRowRef
set_option linter.unusedVariables false
namespace Go.Proofs.YtlghcldiboecoaaGreatDoor
open Go.ChangeShapes Go.WideShapes Go.ChangeAt Go.RowKit

theorem own : ownKnob Tryz.prog.godebug = none := by kernel_rfl

/-- A world for the witness: the settled one, the seven variables holding what their initialisers lay. -/
noncomputable def laidWorld (os : Os) : World :=
  let w0 := World.holding Tryz.prog os ⟨#[], #[], []⟩
  let put (h : Array Obj) (g : Nat) (cs : Array Value) : Array Obj := h.modify g fun
    | .cells _ t frozen => .cells cs t frozen
    | o => o
  let h0 := put w0.heap 3 letCells
  let h1 := put h0 6 (Lib.firstTab.map fun z => Value.int .u8 z).toArray
  let h2 := put h1 7 ((List.range 16).flatMap fun i => [Value.int .u8 (Lib.accLo i), Value.int .u8 (Lib.accHi i)]).toArray
  let h3 := put h2 1 #[.string ⟨#[]⟩, .string ⟨#[40, 116, 98, 56, 56, 52, 41]⟩, .string ⟨#[40, 116, 98, 116, 56, 56, 52, 41]⟩]
  let h4 := put h3 0 #[.string ⟨#[]⟩, .string ⟨#[]⟩, .string ⟨#[]⟩, .string ⟨#[]⟩, .string ⟨#[40, 52, 52, 116, 98, 41]⟩, .string ⟨#[40, 52, 52, 116, 98, 116, 41]⟩, .string ⟨#[]⟩, .string ⟨#[40, 52, 52, 116, 52, 41]⟩, .string ⟨#[40, 52, 52, 116, 52, 41]⟩, .string ⟨#[]⟩, .string ⟨#[40, 52, 52, 116, 98, 52, 41]⟩, .string ⟨#[40, 52, 52, 116, 98, 52, 41]⟩, .string ⟨#[]⟩, .string ⟨#[40, 52, 52, 116, 63, 41]⟩, .string ⟨#[40, 52, 52, 116, 63, 41]⟩, .string ⟨#[]⟩, .string ⟨#[40, 52, 52, 116, 63, 41]⟩, .string ⟨#[40, 52, 52, 116, 63, 41]⟩, .string ⟨#[]⟩, .string ⟨#[40, 52, 52, 116, 63, 41]⟩, .string ⟨#[40, 52, 52, 116, 63, 41]⟩, .string ⟨#[]⟩, .string ⟨#[40, 52, 52, 41]⟩, .string ⟨#[40, 52, 52, 41]⟩]
  let h5 := put h4 4 #[.string ⟨#[]⟩, .string ⟨#[]⟩, .string ⟨#[]⟩, .string ⟨#[]⟩, .string ⟨#[40, 52, 56, 52, 116, 41]⟩, .string ⟨#[40, 52, 56, 52, 116, 41]⟩, .string ⟨#[]⟩, .string ⟨#[40, 52, 56, 52, 41]⟩, .string ⟨#[40, 52, 56, 52, 41]⟩, .string ⟨#[]⟩, .string ⟨#[40, 52, 56, 52, 40, 56, 56, 52, 52, 41, 41]⟩, .string ⟨#[40, 52, 56, 52, 40, 56, 56, 52, 52, 41, 41]⟩, .string ⟨#[]⟩, .string ⟨#[40, 52, 56, 52, 98, 40, 56, 56, 52, 52, 41, 41]⟩, .string ⟨#[40, 52, 56, 52, 98, 116, 40, 56, 56, 52, 52, 41, 41]⟩, .string ⟨#[]⟩, .string ⟨#[40, 52, 56, 52, 40, 56, 56, 52, 52, 41, 41]⟩, .string ⟨#[40, 52, 56, 52, 40, 56, 56, 52, 52, 41, 41]⟩, .string ⟨#[]⟩, .string ⟨#[40, 52, 56, 52, 91, 116, 93, 41]⟩, .string ⟨#[40, 52, 56, 52, 91, 116, 93, 41]⟩, .string ⟨#[]⟩, .string ⟨#[40, 52, 56, 52, 41]⟩, .string ⟨#[40, 52, 56, 52, 41]⟩]
  let h6 := put h5 5 #[.slice none 0 0, .slice (some ⟨13, 0, none⟩) 2 2, .slice (some ⟨14, 0, none⟩) 3 3, .slice (some ⟨15, 0, none⟩) 1 1]
  { w0 with heap := ((h6.push (.cells #[.int .i64 0, .bool false, .int .i64 1, .int .i64 1, .bool true, .int .i64 4] 440)).push (.cells #[.int .i64 0, .bool false, .int .i64 2, .int .i64 1, .bool false, .int .i64 2, .int .i64 1, .bool true, .int .i64 4] 440)).push (.cells #[.int .i64 0, .bool false, .int .i64 3] 440) }

abbrev noArgs : Array Value := #[.agg #[.slice none 0 0, .slice none 0 0], .slice none 0 0]

theorem laid_met (os : Os) : laidMet Tryz.prog Rows.encodesUptoRow.laid ((laidWorld os).forCall (fun _ _ => 0) ⟨#[], noArgs, []⟩).memory :=
  (LaidIn.of_run (l := [("unicode/utf8.acceptRanges", Rows.laid_unicode_utf8_acceptRanges), ("orchard/value.letters", Rows.laid_orchard_value_letters), ("orchard/message.requests", Rows.laid_orchard_message_requests), ("orchard/message.answers", Rows.laid_orchard_message_answers), ("orchard/file.schemas", Rows.laid_orchard_file_schemas), ("orchard/watch.tellings", Rows.laid_orchard_watch_tellings), ("unicode/utf8.first", Rows.laid_unicode_utf8_first)]) [7, 3, 0, 4, 1, 5, 6, 13, 14, 15] 8 (by kernel_rfl) (by kernel_rfl) (by kernel_rfl) (by kernel_rfl)).met

theorem reads (os : Os) {H : Type} (enc : TypeId × Value → H) : ∃ places, DataW.whole enc Tryz.prog ((laidWorld os).forCall (fun _ _ => 0) ⟨#[], noArgs, []⟩).memory Tryz.f3.params.toList Rows.encodesSpec.vars false noArgs.toList 8 = some ([.agg [.nil, .nil], .nil], [], places) :=
  ⟨[], by kernel_rfl⟩

set_option maxRecDepth 100000 in
theorem lifted (os : Os) (started : os.Started) (H : Type) (enc : TypeId × Value → H) (F : Stop.Interp) :
    ReturnsInHanded {} Tryz.checked os 3 .any ((Rows.OpenSpec.upto Rows.encodesSpec).preRow enc Tryz.prog Tryz.f3 Rows.encodesUptoRow.domain false Rows.encodesUptoRow.laid) (((Rows.OpenSpec.upto Rows.encodesSpec).at F).post enc Tryz.prog Tryz.f3 false true false false) := by
  obtain ⟨places, hx⟩ := reads os enc
  refine returnsInHanded_of_row (C := Tryz.checked) (s := Rows.OpenSpec.upto Rows.encodesSpec) own started (by kernel_rfl) Tryz.func3
    (witness_row_atRef (enc := enc) (C := Tryz.checked) false (laidWorld os) noArgs rfl (by kernel_rfl) (by kernel_rfl) (by kernel_rfl)
      (OpenSpec.preRow_of_cond 8 hx (by kernel_rfl) (fun k hk => by cases hk; kernel_rfl) (by kernel_rfl) (laid_met os))) ?_
  intro W base args ds gs before hval hW _ hcond _ hL hSh _
  exact contract H enc W base args ds gs before hval hW hL (hcond _ rfl)
end Go.Proofs.YtlghcldiboecoaaGreatDoor
