/- The law orchardkeep.Watched returns true, on every schedule and without a data race, at every list of asks, numbers a, b and some that hold together at most 1048576 values and letters, where the seven tables that the row lists lie as the program's text lays them: whatever is asked, the session that watches a path is told of a change to it, once, and of nothing else; what was handed in stands as it was. -/
import Derived.Test.YtjoblhlkfmeckaaGreatDoorGWit
import Derived.Test.YtjoblhlkfmeckaaGreatDoorGFacts
import Derived.Test.YtjoblhlkfmeckaaGreatDoorCards
import Derived.Test.YtjoblhlkfmeckaaGreatDoorTie
import Derived.JoinedCond
import Derived.ClaimOpenTies
set_option linter.unusedVariables false
set_option linter.unusedSimpArgs false
open Go.Proofs.Tryz
namespace Go.Proofs.YtjoblhlkfmeckaaGreatDoor
open Go.ChangeShapes Go.WideShapes Go.ChangeAt Go.RowKit Go.Pair
theorem Abz:Rows.WatchedUptoSaid:=
 Mm 3 f3 ⟨rfl,rfl,rfl⟩ ⟨rfl,rfl,rfl,rfl,rfl,rfl,rfl⟩ ⟨rfl,rfl,rfl,rfl,rfl⟩ rfl rfl Aa func3 Vb
  (of_decide_eq_true Aa) (by unfold Func.isWrapper;first|(rw [aQ (by decide +kernel)];kernel_rfl)|(rw [aO (by decide +kernel)];exact⟨rfl,rfl⟩))
  (fun os started H enc F=>by rw [OpenClaim.pre_eq_preRow];exact TP os started H enc F)
theorem YS(f:FuncId)(fn:Func)(hf:Tryz.pinned.checked.prog.funcNamed "orchard/orchardkeep.Watched" = some f)(hfn:Tryz.pinned.checked.prog.funcs[f]? = some fn) :
  false=Tryz.pinned.checked.prog.looks []/\∀(j:Nat) t,fn.params[j]? = some t->Tryz.pinned.checked.prog.wantsStandIn t=false:=by
 obtain rfl:f=3:=aC ((show prog.funcNamed "orchard/orchardkeep.Watched" = some 3 by kernel_rfl).symm.trans hf) |>.symm
 obtain rfl:fn=f3:=(aC (func3.symm.trans hfn)).symm
 refine⟨Aa,fun j t ht=>?_⟩
 rw [params3] at ht
 have hmem:t=22∨t=3:=by simpa using dJ ht
 rcases hmem with rfl|rfl
 ·exact(show prog.wantsStandIn 22=false by kernel_rfl)
 ·exact(show prog.wantsStandIn 3=false by kernel_rfl)
theorem watchedUpto_card:Rows.WatchedUptoCardSaid:=
 ⟨Claim7.tied_new_at .later [.data,.data,.data,.data,.data,.data,.pinned] true (Claim7.new_of_sixth Abz Rows.watchedUptoCard.stood.harness false rfl ⟨rfl,rfl⟩ Aa Aa YS) Aa,(fun D hD=>by cases hD),watchedUpto_row_tie,(fun h=>by cases h),Aa⟩
#print axioms watchedUpto_card
end Go.Proofs.YtjoblhlkfmeckaaGreatDoor
