import Derived.Test.YtnepogbkiocdhaaGreatDoorBase
import Derived.Test.YtnepogbkiocdhaaGreatDoorRows
import Derived.JoinedCond
open Go.Proofs.YtnepogbkiocdhaaGreatDoor
set_option linter.all false
open Go
namespace Go.Proofs.Y
open Go
def Apv{a b}(d:a=true)(D:b=true):(a && b)=true:=by rw[d,D];rfl
set_option maxRecDepth 8000 in
set_option maxHeartbeats 4000000 in
def FT:joinedFacts Tryz.prog 3 Tryz.f3 (Rows.OpenSpec.upto Rows.haltedSpec).bare Rows.haltedUptoRow=true:=by
 unfold joinedFacts
 repeat' with_reducible apply Apv
 all_goals (as_aux_lemma=>kernel_rfl)
end Go.Proofs.Y
