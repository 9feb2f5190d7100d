/- The law orchardlaw.Disks returns true, on every schedule and without a data race, at every script that holds at most 1048576 values and letters, where the seven tables that the row lists lie as the program's text lays them: every call of disks and hands (Append, Sync, Rename, Remove, Read, Has, Stopped, Stop, Crash, NewDisk), in every order, of several disks beside one another, answers as the document's disk does, and what was handed in stands as it was. -/
import Derived.Test.YtlghcldiboecoaaGreatDoorDkV
import Derived.Test.YtlghcldiboecoaaGreatDoorDkM
import Derived.Test.YtlghcldiboecoaaGreatDoorDkX
import Derived.Test.YtlghcldiboecoaaGreatDoorCards
import Derived.Test.YtlghcldiboecoaaGreatDoorTie
import Derived.JoinedCond
import Derived.ClaimOpenTies
set_option linter.unusedVariables false
namespace Go.Proofs.YtlghcldiboecoaaGreatDoor
open Go.ChangeShapes Go.WideShapes Go.ChangeAt Go.RowKit Go.Pair

theorem crashes : Crashes := fun w HB SB left keep L fa fc hH h hk0 hk1 hL hs hd => pcrash_any w HB SB left keep L fa fc hH h hk0 hk1 hL hs hd

theorem saidK : Rows.DisksUptoSaid :=
  holds_narrowed_leaving 6 Tryz.f6 ⟨rfl, rfl, rfl⟩ ⟨rfl, rfl, rfl, rfl, rfl, rfl, rfl⟩ ⟨rfl, rfl, rfl, rfl, rfl⟩ rfl rfl (by kernel_rfl) Tryz.func6 disks_closed
    (of_decide_eq_true (by kernel_rfl)) (by unfold Func.isWrapper; first | (rw [if_pos (by decide +kernel)]; kernel_rfl) | (rw [if_neg (by decide +kernel)]; exact ⟨rfl, rfl⟩))
    (fun os started H enc F => by rw [OpenClaim.pre_eq_preRow]; exact liftedK crashes os started H enc F)

theorem plainK (f : FuncId) (fn : Func) (hf : Tryz.pinned.checked.prog.funcNamed "orchard/orchardlaw.Disks" = some f) (hfn : Tryz.pinned.checked.prog.funcs[f]? = some fn) :
    false = Tryz.pinned.checked.prog.looks [] ∧ ∀ (j : Nat) t, fn.params[j]? = some t → Tryz.pinned.checked.prog.wantsStandIn t = false := by
  obtain rfl : f = 6 := Option.some.inj ((show Tryz.prog.funcNamed "orchard/orchardlaw.Disks" = some 6 by kernel_rfl).symm.trans hf) |>.symm
  obtain rfl : fn = Tryz.f6 := (Option.some.inj (Tryz.func6.symm.trans hfn)).symm
  refine ⟨by kernel_rfl, fun j t ht => ?_⟩
  rw [Tryz.params6] at ht
  have hmem : t = 29 := by simpa using Array.mem_of_getElem? ht
  subst hmem
  exact (show Tryz.prog.wantsStandIn 29 = false by kernel_rfl)

theorem disksUpto_card : Rows.DisksUptoCardSaid :=
  ⟨Claim7.tied_new_at .later [.data, .data, .data, .data, .data, .data, .pinned] true (Claim7.new_of_sixth saidK Rows.disksUptoCard.stood.harness false rfl ⟨rfl, rfl⟩ (by kernel_rfl) (by kernel_rfl) plainK) (by kernel_rfl), (fun D hD => by cases hD), disksUpto_row_tie, (fun h => by cases h), by kernel_rfl⟩

#print axioms disksUpto_card
end Go.Proofs.YtlghcldiboecoaaGreatDoor
