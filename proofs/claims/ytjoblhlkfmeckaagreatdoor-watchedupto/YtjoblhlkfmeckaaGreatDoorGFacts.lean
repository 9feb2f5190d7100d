import Derived.Test.YtjoblhlkfmeckaaGreatDoorBase
import Derived.Test.YtjoblhlkfmeckaaGreatDoorRows
import Derived.JoinedCond
set_option linter.unusedVariables false
set_option linter.unusedSimpArgs false
namespace Go.Proofs.YtjoblhlkfmeckaaGreatDoor
open Go
theorem Aav{a b:Bool}(ha:a=true)(hb:b=true):(a && b)=true:=by rw [ha,hb];rfl
set_option maxRecDepth 8000 in
set_option maxHeartbeats 4000000 in
theorem Vb:joinedFacts Tryz.prog 3 Tryz.f3 (Rows.OpenSpec.upto Rows.watchedSpec).bare Rows.watchedUptoRow=true:=by
 unfold joinedFacts
 repeat' with_reducible apply Aav
 all_goals (as_aux_lemma=>kernel_rfl)
end Go.Proofs.YtjoblhlkfmeckaaGreatDoor
