import Derived.Test.YtcbilgmfdgpomaaGreatDoorBase
import Derived.Test.YtcbilgmfdgpomaaGreatDoorRows
import Derived.JoinedCond
set_option linter.all false
namespace Go.Proofs.YtcbilgmfdgpomaaGreatDoor
open Go
def Anb{a b}(d:a=true)(D:b=true):(a && b)=true:=by rw[d,D];rfl
set_option maxRecDepth 8000 in
set_option maxHeartbeats 4000000 in
def GH:joinedFacts Tryz.prog 4 Tryz.f4 (Rows.OpenSpec.upto Rows.aloneSpec).bare Rows.aloneUptoRow=true:=by
 unfold joinedFacts
 repeat' with_reducible apply Anb
 all_goals (as_aux_lemma=>kernel_rfl)
end Go.Proofs.YtcbilgmfdgpomaaGreatDoor
