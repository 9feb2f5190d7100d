/- The frame of Reads: the row's closed facts. -/
import Derived.Test.YtlghcldiboecoaaGreatDoorRows
import Derived.JoinedCond
set_option linter.unusedVariables false
namespace Go.Proofs.YtlghcldiboecoaaGreatDoor
open Go

theorem bandR {a b : Bool} (ha : a = true) (hb : b = true) : (a && b) = true := by rw [ha, hb]; rfl

set_option maxRecDepth 8000 in
set_option maxHeartbeats 4000000 in
theorem reads_closed : joinedFacts Tryz.prog 5 Tryz.f5 (Rows.OpenSpec.upto Rows.readsSpec).bare Rows.readsUptoRow = true := by
  unfold joinedFacts
  repeat' with_reducible apply bandR
  all_goals (as_aux_lemma => kernel_rfl)

end Go.Proofs.YtlghcldiboecoaaGreatDoor
