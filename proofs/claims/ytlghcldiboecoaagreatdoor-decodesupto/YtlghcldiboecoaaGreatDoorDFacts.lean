/- The frame of Decodes: the row's closed facts. -/
import Derived.Test.YtlghcldiboecoaaGreatDoorRows
import Derived.JoinedCond
set_option linter.unusedVariables false
namespace Go.Proofs.YtlghcldiboecoaaGreatDoor
open Go

/-- The row, but that every other goroutine has ended at the return: one goroutine alone is there. -/
def decodesAlone : OpenClaim := { Rows.decodesUptoRow with leaving := false }

theorem band' {a b : Bool} (ha : a = true) (hb : b = true) : (a && b) = true := by rw [ha, hb]; rfl

set_option maxRecDepth 8000 in
set_option maxHeartbeats 4000000 in
theorem decodes_closed : joinedFacts Tryz.prog 4 Tryz.f4 (Rows.OpenSpec.upto Rows.decodesSpec).bare decodesAlone = true := by
  unfold joinedFacts
  repeat' with_reducible apply band'
  all_goals (as_aux_lemma => kernel_rfl)
end Go.Proofs.YtlghcldiboecoaaGreatDoor
