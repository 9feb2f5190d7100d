/- The frame of Decodes: an input that fits. -/
import Derived.Test.YtlghcldiboecoaaGreatDoorDWalk
import Derived.Test.YtlghcldiboecoaaGreatDoorEWit
set_option linter.unusedVariables false
namespace Go.Proofs.YtlghcldiboecoaaGreatDoor
open Go.ChangeShapes Go.WideShapes Go.ChangeAt Go.RowKit

theorem laid_metD (os : Os) : laidMet Tryz.prog Rows.decodesUptoRow.laid ((laidWorld os).forCall (fun _ _ => 0) ⟨#[], noArgs, []⟩).memory :=
  (LaidIn.of_run (l := [("unicode/utf8.acceptRanges", Rows.laid_unicode_utf8_acceptRanges), ("orchard/value.letters", Rows.laid_orchard_value_letters), ("orchard/message.requests", Rows.laid_orchard_message_requests), ("orchard/message.answers", Rows.laid_orchard_message_answers), ("orchard/file.schemas", Rows.laid_orchard_file_schemas), ("orchard/watch.tellings", Rows.laid_orchard_watch_tellings), ("unicode/utf8.first", Rows.laid_unicode_utf8_first)]) [7, 3, 0, 4, 1, 5, 6, 13, 14, 15] 8 (by kernel_rfl) (by kernel_rfl) (by kernel_rfl) (by kernel_rfl)).met

theorem readsD (os : Os) {H : Type} (enc : TypeId × Value → H) : ∃ places, DataW.whole enc Tryz.prog ((laidWorld os).forCall (fun _ _ => 0) ⟨#[], noArgs, []⟩).memory Tryz.f4.params.toList Rows.decodesSpec.vars false noArgs.toList 8 = some ([.agg [.nil, .nil], .nil], [], places) :=
  ⟨[], by kernel_rfl⟩

set_option maxRecDepth 100000 in
theorem liftedD (os : Os) (started : os.Started) (H : Type) (enc : TypeId × Value → H) (F : Stop.Interp) :
    ReturnsInHanded {} Tryz.checked os 4 .any ((Rows.OpenSpec.upto Rows.decodesSpec).preRow enc Tryz.prog Tryz.f4 Rows.decodesUptoRow.domain false Rows.decodesUptoRow.laid) (((Rows.OpenSpec.upto Rows.decodesSpec).at F).post enc Tryz.prog Tryz.f4 false true false false) := by
  obtain ⟨places, hx⟩ := readsD os enc
  refine returnsInHanded_of_row (C := Tryz.checked) (s := Rows.OpenSpec.upto Rows.decodesSpec) own started (by kernel_rfl) Tryz.func4
    (witness_row_atRef (enc := enc) (C := Tryz.checked) false (laidWorld os) noArgs rfl (by kernel_rfl) (by kernel_rfl) (by kernel_rfl)
      (OpenSpec.preRow_of_cond 8 hx (by kernel_rfl) (fun k hk => by cases hk; kernel_rfl) (by kernel_rfl) (laid_metD os))) ?_
  intro W base args ds gs before hval hW _ hcond _ hL hSh _
  exact contract_dec H enc W base args ds gs before hval hW hL (hcond _ rfl)
end Go.Proofs.YtlghcldiboecoaaGreatDoor
