/- Whether paths rise. -/
import Derived.Test.YtbnoghkijgmcgaaDoorFIsNode
set_option linter.unusedVariables false
namespace Go.Proofs.YtbnoghkijgmcgaaDoor
open Go.RowKit

/-- The answer is whether P holds. -/
def Tells (e : Ending) (P : Prop) : Prop := ∃ r : Bool, e = .returned (.bool r) ∧ (r = true ↔ P)
theorem Tells.yes {P : Prop} (h : P) : Tells (.returned (.bool true)) P := ⟨true, rfl, by simp [h]⟩
theorem Tells.no {P : Prop} (h : ¬ P) : Tells (.returned (.bool false)) P := ⟨false, rfl, by simp [h]⟩

def Rises (ns : List Orch.Node) : Prop := ∀ k (h : k + 1 < ns.length), Op.bytesLess (ns[k]'(by omega)).path.toList ns[k + 1].path.toList = true

set_option maxRecDepth 8000 in
set_option maxHeartbeats 2000000 in
theorem rises_any (w : World) (nsv : Value) (B : Nat) (hB : B ≤ w.heap.size) (ns : List Orch.Node) (hns : NsAt w B nsv ns) (hlen : ns.length ≤ 1000000) :
    Calls Tryd.prog 54 #[nsv] w fun e w' => Tells e (Rises ns) ∧ Below w.heap.size w w' := by
  obtain ⟨b, off, cap, rfl, hcap, hblt, hcells⟩ := hns
  have HC : Hid (∀ W, Below w.heap.size w W → ∀ i (h : i < ns.length), W.cell? ⟨b, off + i * 6, none⟩ = some (.string ns[i].path)) := fun W hW i h => (hW.cell (p := ⟨b, off + i * 6, none⟩) (Nat.lt_of_lt_of_le hblt hB)).trans (hcells i h 0 _ rfl)
  clear hcells
  go_enter Tryd.func54, Tryd.ntmps54
  go_wp2
  go_loopw [3] (fun i wr => ∃ k : Nat, k ≤ ns.length ∧ i = .int .i64 ((k : Int) + 1) ∧ Hid (Below w.heap.size w wr) ∧ Hid (∀ j (h : j + 1 < ns.length), j < k → Op.bytesLess (ns[j]'(by omega)).path.toList ns[j + 1].path.toList = true)) (fun i _ => ns.length + 2 - (intOf i).toNat)
  case atStart => exact ⟨0, Nat.zero_le _, rfl, Below.refl _ _, fun j h h0 => by omega⟩
  case round =>
    obtain ⟨k, hk, rfl, HB, HR⟩ := hrel
    by_cases hlt : k + 1 < ns.length
    · have hkz : (k : Int) + 1 < (ns.length : Int) := by omega
      have e0 := HC.out wr HB.out k (by omega)
      have e1 := HC.out wr HB.out (k + 1) hlt
      have HPQ : Hid (∀ r : Bool, Op.bytesLess (ns[k]'(by omega)).path.toList ns[k + 1].path.toList = r → r = Op.bytesLess (ns[k]'(by omega)).path.toList ns[k + 1].path.toList) := fun r h => h.symm
      generalize hP : (ns[k]'(by omega)).path = P at *
      generalize hQ : ns[k + 1].path = Q at *
      have HP := hide hP
      have HQ := hide hQ
      clear hP hQ HPQ
      have hsub : (k : Int) + 1 - 1 = (k : Int) := by omega
      cases hc : Op.bytesLess P.toList Q.toList with
      | true =>
        go_wp2_with fail
        go_region
        all_goals go_wp2_with fail
        all_goals go_roundw
        all_goals first
          | exact ⟨k + 1, by omega, by go_num, HB.out.drew, fun j h hj => by
              rcases Nat.lt_or_ge j k with h1 | h1
              · exact HR.out j h h1
              · obtain rfl : j = k := by omega
                rw [HP.out, HQ.out]
                exact hc⟩
          | (simp [intOf]; done)
          | (simp [intOf]; omega)
      | false =>
        have HF : Hid (¬ Rises ns) := fun h => by
          have := h k hlt
          rw [HP.out, HQ.out, hc] at this
          cases this
        go_wp2_with fail
        go_region
        all_goals go_wp2
        all_goals go_ret
        all_goals exact ⟨Tells.no HF.out, HB.out.drew⟩
    · have hkz : ¬ (k : Int) + 1 < (ns.length : Int) := by omega
      go_wp2
      go_ret
      exact ⟨Tells.yes (fun j h => HR.out j h (by omega)), HB.out⟩
end Go.Proofs.YtbnoghkijgmcgaaDoor
