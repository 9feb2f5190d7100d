/- The frame of Disks: the row's closed facts. -/
import Derived.Test.YtlghcldiboecoaaGreatDoorRows
import Derived.JoinedCond
set_option linter.unusedVariables false
namespace Go.Proofs.YtlghcldiboecoaaGreatDoor
open Go

theorem bandK {a b : Bool} (ha : a = true) (hb : b = true) : (a && b) = true := by rw [ha, hb]; rfl

set_option maxRecDepth 8000 in
set_option maxHeartbeats 4000000 in
theorem disks_closed : joinedFacts Tryz.prog 6 Tryz.f6 (Rows.OpenSpec.upto Rows.disksSpec).bare Rows.disksUptoRow = true := by
  unfold joinedFacts
  repeat' with_reducible apply bandK
  all_goals (as_aux_lemma => kernel_rfl)

end Go.Proofs.YtlghcldiboecoaaGreatDoor
