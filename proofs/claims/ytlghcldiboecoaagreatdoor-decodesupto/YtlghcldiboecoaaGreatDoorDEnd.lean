/- The law orchardlaw.Decodes returns true at every goods and every script that hold together at most 1048576 values and letters, where the seven tables that the row lists lie as the program's text lays them: every Decode of the script answers as the document asks, what was handed in stands as it was, and every list that came out stays the caller's own. -/
import Derived.Test.YtlghcldiboecoaaGreatDoorDWit
import Derived.Test.YtlghcldiboecoaaGreatDoorDFacts
import Derived.Test.YtlghcldiboecoaaGreatDoorCards
import Derived.Test.YtlghcldiboecoaaGreatDoorTie
import Derived.JoinedCond
import Derived.ClaimOpenTies
set_option linter.unusedVariables false
namespace Go.Proofs.YtlghcldiboecoaaGreatDoor
open Go.ChangeShapes Go.WideShapes Go.ChangeAt Go.RowKit

/-- Whoever is alone at the return leaves nobody. -/
theorem leaving_of_aloneD {P : Program} {m : Machine} {w : World} {t : Trace} (h : aloneAtReturn P m w t) : leavingAtReturn P m w t := by
  obtain ⟨⟨hd, ht⟩, ho, he⟩ := h
  refine ⟨ho, ⟨fun g hg => ⟨0, ?_⟩, ht⟩, he⟩
  have := List.all_eq_true.1 hd g hg
  show g.status = _
  simpa using this

theorem alone_holdsD : decodesAlone.holds Tryz.pinned (Rows.OpenSpec.upto Rows.decodesSpec) :=
  OpenClaim.holds_of_cond 4 Tryz.f4 rfl rfl rfl rfl rfl rfl rfl ⟨rfl, rfl, rfl, rfl, rfl⟩ rfl rfl rfl rfl rfl (by kernel_rfl) Tryz.func4 decodes_closed
    (of_decide_eq_true (by kernel_rfl)) (by unfold Func.isWrapper; first | (rw [if_pos (by decide +kernel)]; kernel_rfl) | (rw [if_neg (by decide +kernel)]; exact ⟨rfl, rfl⟩))
    (fun os started H enc _ F => by rw [OpenClaim.pre_eq_preRow]; exact liftedD os started H enc F)

theorem saidD : Rows.DecodesUptoSaid := by
  obtain ⟨h1, h2, h3, h4, h5, h6, h7, h8, f, fn, k1, k2, k3, k4, k5, k6, k7, k8, k9, k10, k11, k12, k13, k14, k15, k16, k17, k18, k19, k20, k21, L, k22, h⟩ := alone_holdsD
  refine ⟨h1, h2, h3, h4, h5, h6, h7, h8, f, fn, k1, k2, k3, k4, k5, k6, k7, k8, k9, k10, k11, k12, k13, k14, k15, k16, k17, k18, k19, k20, k21, L, k22, fun os hw hq H enc inj => ?_⟩
  have hh := h os hw hq H enc inj
  exact fun F => ReturnsInOpen.mono (atReturn := aloneAtReturn Tryz.pinned.checked.prog) (fun _ w _ x => leaving_of_aloneD (w := w) x) (fun _ x => x) (hh F)

theorem plainD (f : FuncId) (fn : Func) (hf : Tryz.pinned.checked.prog.funcNamed "orchard/orchardlaw.Decodes" = some f) (hfn : Tryz.pinned.checked.prog.funcs[f]? = some fn) :
    false = Tryz.pinned.checked.prog.looks [] ∧ ∀ (j : Nat) t, fn.params[j]? = some t → Tryz.pinned.checked.prog.wantsStandIn t = false := by
  obtain rfl : f = 4 := Option.some.inj ((show Tryz.prog.funcNamed "orchard/orchardlaw.Decodes" = some 4 by kernel_rfl).symm.trans hf) |>.symm
  obtain rfl : fn = Tryz.f4 := (Option.some.inj (Tryz.func4.symm.trans hfn)).symm
  refine ⟨by kernel_rfl, fun j t ht => ?_⟩
  rw [Tryz.params4] at ht
  have hmem : t = 25 ∨ t = 26 := by simpa using Array.mem_of_getElem? ht
  rcases hmem with rfl | rfl
  · exact (show Tryz.prog.wantsStandIn 25 = false by kernel_rfl)
  · exact (show Tryz.prog.wantsStandIn 26 = false by kernel_rfl)

theorem decodesUpto_card : Rows.DecodesUptoCardSaid :=
  ⟨Claim7.tied_new_at .later [.data, .data, .data, .data, .data, .data, .pinned] true (Claim7.new_of_sixth saidD Rows.decodesUptoCard.stood.harness false rfl ⟨rfl, rfl⟩ (by kernel_rfl) (by kernel_rfl) plainD) (by kernel_rfl), (fun D hD => by cases hD), decodesUpto_row_tie, (fun h => by cases h), by kernel_rfl⟩
end Go.Proofs.YtlghcldiboecoaaGreatDoor
