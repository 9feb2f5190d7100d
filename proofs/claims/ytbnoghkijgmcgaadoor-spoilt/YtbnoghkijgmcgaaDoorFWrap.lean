/- Save, Load and Upgrade of the package orchard; whether two lists of nodes are the same. -/
import Derived.Test.YtbnoghkijgmcgaaDoorFLoad2
set_option linter.unusedVariables false
namespace Go.Proofs.YtbnoghkijgmcgaaDoor
open Go.RowKit

set_option maxRecDepth 8000 in
set_option maxHeartbeats 1000000 in
theorem oSave_of (w : World) (ver n : Int) (nsv : Value) (Q : Value → World → Prop) (HC : Hid (Calls Tryd.prog 29 #[.int .i64 ver, .int .i64 n, nsv] w fun e w' => ∃ ov, e = .returned (.tuple #[ov, .int .i64 0]) ∧ Q ov w')) :
    Calls Tryd.prog 26 #[.int .i64 ver, .int .i64 n, nsv] w fun e w' => ∃ ov, e = .returned (.tuple #[ov, .int .i64 0]) ∧ Q ov w' := by
  go_enter Tryd.func26, Tryd.ntmps26
  go_wp2_with (go_at_call 29; refine HC.out.mono ?_; rintro e w1 ⟨ov, rfl, hq⟩; have HQ := hide hq; clear hq)
  exact bodyPost_ret (v := .tuple #[ov, .int .i64 0]) (by simp [results, Tryd.results26, go_sem]) rfl ⟨ov, rfl, HQ.out⟩

set_option maxRecDepth 8000 in
set_option maxHeartbeats 1000000 in
theorem oLoad_of (w : World) (bv : Value) (Q : Int → Int → Value → Int → World → Prop) (HC : Hid (Calls Tryd.prog 28 #[bv] w fun e w' => ∃ a b v c, e = .returned (.tuple #[.int .i64 a, .int .i64 b, v, .int .i64 c]) ∧ Q a b v c w')) :
    Calls Tryd.prog 15 #[bv] w fun e w' => ∃ a b v c, e = .returned (.tuple #[.int .i64 a, .int .i64 b, v, .int .i64 c]) ∧ Q a b v c w' := by
  go_enter Tryd.func15, Tryd.ntmps15
  go_wp2_with (go_at_call 28; refine HC.out.mono ?_; rintro e w1 ⟨a, b, v, c, rfl, hq⟩; have HQ := hide hq; clear hq)
  exact bodyPost_ret (v := .tuple #[.int .i64 a, .int .i64 b, v, .int .i64 c]) (by simp [results, Tryd.results15, go_sem]) rfl ⟨a, b, v, c, rfl, HQ.out⟩

set_option maxRecDepth 8000 in
set_option maxHeartbeats 1000000 in
theorem upgrade_bad (w : World) (bv : Value) (Q : World → Prop) (HC : Hid (Calls Tryd.prog 28 #[bv] w fun e w' => e = .returned (.tuple #[.int .i64 0, .int .i64 0, .slice none 0 0, .int .i64 7]) ∧ Q w')) :
    Calls Tryd.prog 14 #[bv] w fun e w' => e = .returned (.tuple #[.slice none 0 0, .int .i64 7]) ∧ Q w' := by
  go_enter Tryd.func14, Tryd.ntmps14
  go_wp2_with (go_at_call 28; refine HC.out.mono ?_; rintro e w1 ⟨rfl, hq⟩; have HQ := hide hq; clear hq)
  exact bodyPost_ret (v := .tuple #[.slice none 0 0, .int .i64 7]) (by simp [results, Tryd.results14, go_sem]) rfl ⟨rfl, HQ.out⟩

set_option maxRecDepth 8000 in
set_option maxHeartbeats 2000000 in
theorem sameNodes_same (w : World) (va vb : Value) (ns : List Orch.Node) (ha : NsAt w w.heap.size va ns) (hb : NsAt w w.heap.size vb ns) (hlen : ns.length ≤ 1000000) :
    Calls Tryd.prog 27 #[va, vb] w fun e w' => e = .returned (.bool true) ∧ Below w.heap.size w w' := by
  have HA : Hid (∀ W, Below w.heap.size w W → NsAt W w.heap.size va ns) := fun W h => ha.below h
  have HB' : Hid (∀ W, Below w.heap.size w W → NsAt W w.heap.size vb ns) := fun W h => hb.below h
  obtain ⟨b, off, cap, rfl, hcap, hblt, _⟩ := ha
  obtain ⟨b', off', cap', rfl, hcap', hblt', _⟩ := hb
  go_enter Tryd.func27, Tryd.ntmps27
  go_wp2_with fail
  go_loopw [5] (fun i wr => ∃ k : Nat, k ≤ ns.length ∧ i = .int .i64 k ∧ Hid (Below w.heap.size w wr)) (fun i _ => ns.length - (intOf i).toNat)
  case atStart => exact ⟨0, Nat.zero_le _, rfl, Below.refl _ _⟩
  case round =>
    obtain ⟨k, hk, rfl, HB⟩ := hrel
    by_cases hlt : k < ns.length
    · have hkz : (k : Int) < (ns.length : Int) := by omega
      obtain ⟨b1, o1, p1, e1, _, _, hc1⟩ := HA.out wr HB.out
      obtain ⟨b2, o2, p2, e2, _, _, hc2⟩ := HB'.out wr HB.out
      simp only [Value.slice.injEq, Option.some.injEq, Addr.mk.injEq] at e1 e2
      obtain ⟨⟨rfl, rfl, _⟩, _, rfl⟩ := e1
      obtain ⟨⟨rfl, rfl, _⟩, _, rfl⟩ := e2
      have c0 := hc1 k hlt 0 _ rfl
      have c1 := hc1 k hlt 1 _ rfl
      have c2 := hc1 k hlt 2 _ rfl
      have c3 := hc1 k hlt 3 _ rfl
      have c4 := hc1 k hlt 4 _ rfl
      have c5 := hc1 k hlt 5 _ rfl
      have d0 := hc2 k hlt 0 _ rfl
      have d1 := hc2 k hlt 1 _ rfl
      have d2 := hc2 k hlt 2 _ rfl
      have d3 := hc2 k hlt 3 _ rfl
      have d4 := hc2 k hlt 4 _ rfl
      have d5 := hc2 k hlt 5 _ rfl
      rw [Nat.add_zero] at c0 d0
      clear hc1 hc2
      generalize ns[k] = x at *
      obtain ⟨xp, xd, xt, xm, xch, xv⟩ := x
      simp only at c0 c1 c2 c3 c4 c5 d0 d1 d2 d3 d4 d5
      go_wp2_with fail
      go_region
      all_goals go_wp2_with fail
      all_goals go_roundw
      all_goals first
        | exact ⟨k + 1, by omega, by go_num, HB.out.drew⟩
        | (simp [intOf]; done)
        | (simp [intOf]; omega)
    · have hkz : ¬ (k : Int) < (ns.length : Int) := by omega
      go_wp2
      go_ret
      exact ⟨rfl, HB.out⟩
end Go.Proofs.YtbnoghkijgmcgaaDoor
