/- The law orchardlaw.Reads returns true, on every schedule and without a data race, at every goods and every script that hold together at most 1048576 values and letters, where the seven tables that the row lists lie as the program's text lays them: every Frame and every reader's Feed of the script answers as the document asks, in whatever pieces the bytes come, what was handed in stands as it was, and every list that came out stays the caller's own. -/
import Derived.Test.YtlghcldiboecoaaGreatDoorPWit
import Derived.Test.YtlghcldiboecoaaGreatDoorPFacts
import Derived.Test.YtlghcldiboecoaaGreatDoorCards
import Derived.Test.YtlghcldiboecoaaGreatDoorTie
import Derived.JoinedCond
import Derived.ClaimOpenTies
set_option linter.unusedVariables false
namespace Go.Proofs.YtlghcldiboecoaaGreatDoor
open Go.ChangeShapes Go.WideShapes Go.ChangeAt Go.RowKit Go.Pair

theorem saidR : Rows.ReadsUptoSaid :=
  holds_narrowed_leaving 5 Tryz.f5 ⟨rfl, rfl, rfl⟩ ⟨rfl, rfl, rfl, rfl, rfl, rfl, rfl⟩ ⟨rfl, rfl, rfl, rfl, rfl⟩ rfl rfl (by kernel_rfl) Tryz.func5 reads_closed
    (of_decide_eq_true (by kernel_rfl)) (by unfold Func.isWrapper; first | (rw [if_pos (by decide +kernel)]; kernel_rfl) | (rw [if_neg (by decide +kernel)]; exact ⟨rfl, rfl⟩))
    (fun os started H enc F => by rw [OpenClaim.pre_eq_preRow]; exact liftedR os started H enc F)

theorem plainR (f : FuncId) (fn : Func) (hf : Tryz.pinned.checked.prog.funcNamed "orchard/orchardlaw.Reads" = some f) (hfn : Tryz.pinned.checked.prog.funcs[f]? = some fn) :
    false = Tryz.pinned.checked.prog.looks [] ∧ ∀ (j : Nat) t, fn.params[j]? = some t → Tryz.pinned.checked.prog.wantsStandIn t = false := by
  obtain rfl : f = 5 := Option.some.inj ((show Tryz.prog.funcNamed "orchard/orchardlaw.Reads" = some 5 by kernel_rfl).symm.trans hf) |>.symm
  obtain rfl : fn = Tryz.f5 := (Option.some.inj (Tryz.func5.symm.trans hfn)).symm
  refine ⟨by kernel_rfl, fun j t ht => ?_⟩
  rw [Tryz.params5] at ht
  have hmem : t = 25 ∨ t = 26 := by simpa using Array.mem_of_getElem? ht
  rcases hmem with rfl | rfl
  · exact (show Tryz.prog.wantsStandIn 25 = false by kernel_rfl)
  · exact (show Tryz.prog.wantsStandIn 26 = false by kernel_rfl)

theorem readsUpto_card : Rows.ReadsUptoCardSaid :=
  ⟨Claim7.tied_new_at .later [.data, .data, .data, .data, .data, .data, .pinned] true (Claim7.new_of_sixth saidR Rows.readsUptoCard.stood.harness false rfl ⟨rfl, rfl⟩ (by kernel_rfl) (by kernel_rfl) plainR) (by kernel_rfl), (fun D hD => by cases hD), readsUpto_row_tie, (fun h => by cases h), by kernel_rfl⟩

#print axioms readsUpto_card
end Go.Proofs.YtlghcldiboecoaaGreatDoor
