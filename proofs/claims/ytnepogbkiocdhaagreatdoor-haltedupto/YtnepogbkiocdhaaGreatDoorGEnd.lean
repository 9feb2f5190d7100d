/- The law orchardkeep.Halted returns true, on every schedule and without a data race, at every list of asks that holds at most 1048576 values and letters and at every three numbers, where the seven tables that the row lists lie as the program's text lays them: a disk that stops at any step and crashes holds all changes that were answered, and of the one that could not be made safe all or nothing; a second crash takes nothing; what was handed in stands as it was. -/
import Derived.Test.YtnepogbkiocdhaaGreatDoorGWit
import Derived.Test.YtnepogbkiocdhaaGreatDoorGFacts
import Derived.Test.YtnepogbkiocdhaaGreatDoorCards
import Derived.SevenTiedAt
import Derived.LaidOnce
set_option maxRecDepth 100000
set_option linter.all false
open List renaming replicate->zn
open Go
open Go.Proofs.Y
open Go.Proofs.Tryz
namespace Go.Proofs.YtnepogbkiocdhaaGreatDoor
open Go.ChangeShapes Go.WideShapes Go.ChangeAt Go.RowKit Go.Pair
def Ari:Rows.HaltedUptoSaid:=P9 3 f3 ⟨iW,iW,iW⟩ ⟨iW,iW,iW,iW,iW,iW,iW⟩ ⟨iW,iW,iW,iW,iW⟩ iW iW Ab func3 FT (of_decide_eq_true Ab) (by unfold Func.isWrapper;first|(rw[aL (by decide +kernel)];kernel_rfl)|(rw[aO (by decide +kernel)];exact⟨iW,iW⟩)) (λb a H P F=>by rw[OpenClaim.pre_eq_preRow];exact Aj9 b a H P F)
def Aob(f u)(I:Tryz.pinned.checked.prog.funcNamed "orchard/orchardkeep.Halted" = some f)(T:Tryz.pinned.checked.prog.funcs[f]? = some u) :
  false=Tryz.pinned.checked.prog.looks []/\∀(j:Nat) t,u.params[j]? = some t->Tryz.pinned.checked.prog.wantsStandIn t=false:=by obtain rfl:f=3:=aC ((show prog.funcNamed "orchard/orchardkeep.Halted" = some 3 by kernel_rfl).symm.trans I) |>.symm;obtain rfl:u=f3:=(aC (func3.symm.trans T)).symm;refine⟨Ab,λj t R=>?_⟩;rw [params3] at R;obtain rfl|rfl:=(by simpa using cN R);exact(show prog.wantsStandIn 22=false by kernel_rfl);exact(show prog.wantsStandIn 3=false by kernel_rfl)
def As6:prog.laidByTextLater (Rows.haltedUptoRow.laid.take 6) (zn 6 .data) true:=Program.laidByTextLater_by_one 74 8 50 Ab Ab Ab Ab Ab Ab (λ_ _=>Ab)
def Aoo:Rows.haltedUptoRow.laidByTextAt .later Tryz.pinned (zn 6 .data ++ [.pinned]) true:=OpenClaim.laidByTextAt_pinned iW iW As6 iW iW iW iW (λy U e=>by simp[Rows.haltedUptoRow]at U;obtain rfl|rfl|rfl|rfl|rfl|rfl|rfl:=U <;> cases e;exact⟨Ab,Ab⟩) (by rw[Program.listedFits];rw [show Tryz.pinned.3.2.headLifts.contains "ownunsafe" = false by kernel_rfl];kernel_rfl)
theorem haltedUpto_card:Rows.HaltedUptoCardSaid:=⟨Claim7.tied_new_at .later (zn 6 .data ++ [.pinned]) true (Claim7.new_of_sixth Ari Rows.haltedUptoCard.1.3 false iW ⟨iW,iW⟩ Ab Ab Aob) Ab,(λD m=>by cases m),Aoo,(λh=>by cases h),Ab⟩
#print axioms haltedUpto_card
end Go.Proofs.YtnepogbkiocdhaaGreatDoor
