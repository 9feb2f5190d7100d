/- What stands ahead of the sum of a file. -/
import Derived.Test.YtbnoghkijgmcgaaDoorFSum
import Derived.Test.YtbnoghkijgmcgaaDoorVTake
set_option linter.unusedVariables false
namespace Go.Proofs.YtbnoghkijgmcgaaDoor
open Go.RowKit

set_option maxRecDepth 8000 in
set_option maxHeartbeats 1000000 in
theorem wos_short (w : World) (a : Option Addr) (n cap : Nat) (hn : n < 4) :
    Calls Tryd.prog 34 #[.slice a n cap] w fun e w' => e = .returned (.tuple #[.slice none 0 0, .bool false]) ∧ w' = w := by
  have hz : (n : Int) < 4 := by omega
  go_enter Tryd.func34, Tryd.ntmps34
  go_wp2
  exact bodyPost_ret (v := .tuple #[.slice none 0 0, .bool false]) (by simp [results, Tryd.results34, go_sem]) rfl ⟨rfl, rfl⟩

set_option maxRecDepth 8000 in
set_option maxHeartbeats 2000000 in
theorem wos_core (w : World) (b off m cap : Nat) (U S : Nat) (hcap : m + 4 ≤ cap) (hm : m + 4 ≤ 9223372036854775807) (hU : U < 4294967296) (hS : S < 4294967296)
    (HU : Hid (∀ W, Below w.heap.size w W → Calls Tryd.prog 50 #[.slice (some ⟨b, off + m, none⟩) 4 (cap - m)] W fun e w' => e = .returned (.int .u64 U) ∧ w' = W))
    (HS : Hid (∀ W, Below w.heap.size w W → Calls Tryd.prog 44 #[.slice (some ⟨b, off, none⟩) m cap] W fun e w' => e = .returned (.int .i64 S) ∧ w' = W)) :
    Calls Tryd.prog 34 #[.slice (some ⟨b, off, none⟩) (m + 4) cap] w fun e w' => e = .returned (.tuple #[.slice (some ⟨b, off, none⟩) m cap, .bool (decide (U = S))]) ∧ Below w.heap.size w w' := by
  have hz : ¬ ((m + 4 : Nat) : Int) < 4 := by omega
  have h1 : ((m + 4 : Nat) : Int) - 4 = (m : Int) := by omega
  have hmc : (m : Int) ≤ (cap : Int) := by omega
  have hmm : (m : Int) ≤ ((m + 4 : Nat) : Int) := by omega
  have hne : ¬ cap = m := by omega
  have hsub : m + 4 - m = 4 := by omega
  have hB := hide (Below.refl w.heap.size w)
  have HDEC : Hid (((U : Int) == (S : Int)) = decide (U = S)) := by
    show _ = _
    rw [Bool.eq_iff_iff, beq_iff_eq, decide_eq_true_iff]
    omega
  go_enter Tryd.func34, Tryd.ntmps34
  go_wp2
  go_region
  all_goals go_wp2_with fail
  all_goals refine (HU.out _ hB.out.drew).mono ?_
  all_goals rintro e w1 ⟨rfl, rfl⟩
  all_goals go_wp2_with fail
  all_goals refine (HS.out _ hB.out.drew).mono ?_
  all_goals rintro e w1 ⟨rfl, rfl⟩
  all_goals go_wp2
  all_goals exact bodyPost_ret (v := .tuple #[.slice (some ⟨b, off, none⟩) m cap, .bool (decide (U = S))]) (by simp [results, Tryd.results34, go_sem, HDEC.out]) rfl ⟨rfl, hB.out.drew⟩

/-- What withoutSum leaves. -/
theorem wos_any (w : World) (bv : Value) (l : List UInt8) (hl : l.length ≤ 9223372036854775807) (hbv : BsAt w bv l) :
    Calls Tryd.prog 34 #[bv] w fun e w' => (if l.length < 4 then e = .returned (.tuple #[.slice none 0 0, .bool false]) else
      ∃ rv, e = .returned (.tuple #[rv, .bool (decide (Orch.uns (l.drop (l.length - 4)) = Orch.sum (l.take (l.length - 4))))]) ∧ ∀ W, BsAt W bv l → BsAt W rv (l.take (l.length - 4))) ∧ Below w.heap.size w w' := by
  obtain ⟨b, off, cap, rfl, hcap, hlt, hb⟩ := hbv
  by_cases h4 : l.length < 4
  · refine (wos_short w _ _ cap h4).mono ?_
    rintro e w' ⟨rfl, rfl⟩
    rw [if_pos h4]
    exact ⟨rfl, Below.refl _ _⟩
  · obtain ⟨m, hm⟩ : ∃ m, l.length = m + 4 := ⟨l.length - 4, by omega⟩
    simp only [if_neg h4, show l.length - 4 = m by omega]
    rw [hm]
    have hu : Orch.uns (l.drop m) < 4294967296 := by
      have := Orch.uns_lt (l.drop m)
      rw [List.length_drop, show l.length - m = 4 by omega] at this
      exact this
    refine (wos_core w b off m cap (Orch.uns (l.drop m)) (Orch.sum (l.take m)) (by omega) (by omega) hu (Orch.sum_lt _) (fun W hW => unsigned_any W b (off + m) 4 (cap - m) (l.drop m) (by rw [List.length_drop]; omega) (by omega) ?_) (fun W hW => sum_any W b off m cap (l.take m) (by rw [List.length_take]; omega) (by omega) ?_)).mono ?_
    · exact (Bytes.drop (fun i hi => (hW.cell (p := ⟨b, off + i, none⟩) hlt).trans (hb i hi)) m)
    · exact Bytes.take (fun i hi => (hW.cell (p := ⟨b, off + i, none⟩) hlt).trans (hb i hi)) m
    · rintro e w' ⟨rfl, hb'⟩
      refine ⟨⟨_, rfl, fun W hW => ?_⟩, hb'⟩
      obtain ⟨b', off', cap', e', hc', hlt', hby'⟩ := hW
      simp only [Value.slice.injEq, Option.some.injEq, Addr.mk.injEq] at e'
      obtain ⟨⟨rfl, rfl, _⟩, _, rfl⟩ := e'
      exact ⟨b, off, cap, by rw [List.length_take, Nat.min_eq_left (by omega)], by rw [List.length_take]; omega, hlt', hby'.take m⟩
end Go.Proofs.YtbnoghkijgmcgaaDoor
