import Derived.Test.YtcbilgmfdgpomaaGreatDoorBase
import Derived.Test.YtcbilgmfdgpomaaGreatDoorRows
import Derived.JoinedCond
set_option linter.all false
namespace Go.Proofs.YtcbilgmfdgpomaaGreatDoor
open Go
def Ank{a b}(d:a=true)(D:b=true):(a && b)=true:=by rw[d,D];rfl
set_option maxRecDepth 8000 in
set_option maxHeartbeats 4000000 in
def CY:joinedFacts Tryz.prog 3 Tryz.f3 (Rows.OpenSpec.upto Rows.piecesSpec).bare Rows.piecesUptoRow=true:=by
 unfold joinedFacts
 repeat' with_reducible apply Ank
 all_goals (as_aux_lemma=>kernel_rfl)
