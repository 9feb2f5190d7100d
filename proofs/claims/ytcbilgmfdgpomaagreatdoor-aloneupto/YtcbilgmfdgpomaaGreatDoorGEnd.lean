/- The law orchardkeep.Alone returns true, on every schedule and without a data race, at every list of asks, every list of looks and every noise that hold together at most 1048576 values and letters, where the seven tables that the row lists lie as the program's text lays them: whatever another session looks at, and however it ends, the first session is told the same, and the tree is the same; what was handed in stands as it was. -/
import Derived.Test.YtcbilgmfdgpomaaGreatDoorGWit
import Derived.Test.YtcbilgmfdgpomaaGreatDoorGFacts
import Derived.Test.YtcbilgmfdgpomaaGreatDoorCards
import Derived.Test.YtcbilgmfdgpomaaGreatDoorTie
set_option linter.all false
open Go.Proofs.Tryz
namespace Go.Proofs.YtcbilgmfdgpomaaGreatDoor
open Go.ChangeShapes Go.WideShapes Go.ChangeAt Go.RowKit Go.Pair
def Aoy:Rows.AloneUptoSaid:=
 O0 4 f4 ⟨iI,iI,iI⟩ ⟨iI,iI,iI,iI,iI,iI,iI⟩ ⟨iI,iI,iI,iI,iI⟩ iI iI Ab func4 GH
  (of_decide_eq_true Ab) (by unfold Func.isWrapper;first|(rw[aL (by decide +kernel)];kernel_rfl)|(rw[aM (by decide +kernel)];exact⟨iI,iI⟩))
  (λb a H P F=>by rw[OpenClaim.pre_eq_preRow];exact Ahh b a H P F)
def Alf(f u)(I:Tryz.pinned.checked.prog.funcNamed "orchard/orchardkeep.Alone" = some f)(T:Tryz.pinned.checked.prog.funcs[f]? = some u) :
  false=Tryz.pinned.checked.prog.looks []/\∀(j:Nat) t,u.params[j]? = some t->Tryz.pinned.checked.prog.wantsStandIn t=false:=by
 obtain rfl:f=4:=aB ((show prog.funcNamed "orchard/orchardkeep.Alone" = some 4 by kernel_rfl).symm.trans I) |>.symm;obtain rfl:u=f4:=(aB (func4.symm.trans T)).symm;refine⟨Ab,λj t R=>?_⟩;rw [params4] at R;rcases(by simpa using cF R) with rfl|rfl
 ·exact(show prog.wantsStandIn 22=false by kernel_rfl)
 ·exact(show prog.wantsStandIn 9=false by kernel_rfl)
theorem aloneUpto_card:Rows.AloneUptoCardSaid:=
 ⟨Claim7.tied_new_at .later [.data,.data,.data,.data,.data,.data,.pinned] true (Claim7.new_of_sixth Aoy Rows.aloneUptoCard.1.3 false iI ⟨iI,iI⟩ Ab Ab Alf) Ab,(λD m=>by cases m),aloneUpto_row_tie,(λh=>by cases h),Ab⟩
#print axioms aloneUpto_card
end Go.Proofs.YtcbilgmfdgpomaaGreatDoor
