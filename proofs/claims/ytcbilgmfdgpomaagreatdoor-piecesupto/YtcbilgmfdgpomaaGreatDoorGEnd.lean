/- The law orchardkeep.Pieces returns true, on every schedule and without a data race, at every list of asks, every tail and every list of cuts that hold together at most 1048576 values and letters, where the seven tables that the row lists lie as the program's text lays them: two servers that are sent the same, cut otherwise, tell the same, and their trees are the same; what was handed in stands as it was. -/
import Derived.Test.YtcbilgmfdgpomaaGreatDoorGWit
import Derived.Test.YtcbilgmfdgpomaaGreatDoorGFacts
import Derived.Test.YtcbilgmfdgpomaaGreatDoorCards
import Derived.Test.YtcbilgmfdgpomaaGreatDoorTie
set_option linter.all false
open Go.Proofs.Tryz
namespace Go.Proofs.YtcbilgmfdgpomaaGreatDoor
open Go.ChangeShapes Go.WideShapes Go.ChangeAt Go.RowKit Go.Pair
theorem Ao5:Rows.PiecesUptoSaid:=
 O0 3 Tryz.f3 ⟨rfl,rfl,rfl⟩ ⟨rfl,rfl,rfl,rfl,rfl,rfl,rfl⟩ ⟨rfl,rfl,rfl,rfl,rfl⟩ rfl rfl Ab Tryz.func3 CY
  (of_decide_eq_true Ab) (by unfold Func.isWrapper;first|(rw [if_pos (by decide +kernel)];kernel_rfl)|(rw [if_neg (by decide +kernel)];exact⟨rfl,rfl⟩))
  (fun os a H P F=>by rw [OpenClaim.pre_eq_preRow];exact Aho os a H P F)
theorem Alq(f:FuncId)(u:Func)(I:Tryz.pinned.checked.prog.funcNamed "orchard/orchardkeep.Pieces" = some f)(T:Tryz.pinned.checked.prog.funcs[f]? = some u) :
  false=Tryz.pinned.checked.prog.looks []/\∀(j:Nat) t,u.params[j]? = some t->Tryz.pinned.checked.prog.wantsStandIn t=false:=by
 obtain rfl:f=3:=Option.some.inj ((show Tryz.prog.funcNamed "orchard/orchardkeep.Pieces" = some 3 by kernel_rfl).symm.trans I) |>.symm
 obtain rfl:u=Tryz.f3:=(Option.some.inj (Tryz.func3.symm.trans T)).symm
 refine⟨Ab,fun j t R=>?_⟩
 rw [Tryz.params3] at R
 rcases(by simpa using Array.mem_of_getElem? R) with rfl|rfl|rfl
 ·exact(show Tryz.prog.wantsStandIn 22=false by kernel_rfl)
 ·exact(show Tryz.prog.wantsStandIn 9=false by kernel_rfl)
 ·exact(show Tryz.prog.wantsStandIn 23=false by kernel_rfl)
theorem piecesUpto_card:Rows.PiecesUptoCardSaid:=
 ⟨Claim7.tied_new_at .later [.data,.data,.data,.data,.data,.data,.pinned] true (Claim7.new_of_sixth Ao5 Rows.piecesUptoCard.1.3 false iP ⟨iP,iP⟩ Ab Ab Alq) Ab,(λD m=>by cases m),piecesUpto_row_tie,(λh=>by cases h),Ab⟩
#print axioms piecesUpto_card
