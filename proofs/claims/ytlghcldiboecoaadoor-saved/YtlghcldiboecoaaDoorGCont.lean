/- No node of these is noted: slices.ContainsFunc. -/
import Derived.Test.YtlghcldiboecoaaDoorFInv2
set_option linter.unusedVariables false
namespace Go.Proofs.YtlghcldiboecoaaDoor
open Go.RowKit

theorem noted_not (w : World) (p d : ByteArray) (m c v : Int) : Calls Tryd.prog 41 #[ndv p d ⟨#[]⟩ m c v] w fun e w' => e = .returned (.bool false) ∧ Below w.heap.size w w' := by
  go_enter Tryd.func41, Tryd.ntmps41
  go_wp2
  go_ret
  exact ⟨rfl, below1 _ _⟩

set_option maxRecDepth 8000 in
set_option maxHeartbeats 2000000 in
theorem index_none (w : World) (nsv : Value) (ns : List Orch.Node) (hns : NsAt w w.heap.size nsv ns) (hlen : ns.length ≤ 1000000) (hnote : ∀ x, x ∈ ns → x.note = ⟨#[]⟩) :
    Calls Tryd.prog 56 #[nsv, .func (.func 41) #[] #[]] w fun e w' => e = .returned (.int .i64 (-1)) ∧ Below w.heap.size w w' := by
  have HA : Hid (∀ W, Below w.heap.size w W → NsAt W w.heap.size nsv ns) := fun W h => hns.below h
  have HNT := hide hnote
  obtain ⟨b, off, cap, rfl, hcap, hblt, _⟩ := hns
  clear hnote
  go_enter Tryd.func56, Tryd.ntmps56
  go_wp2_with fail
  go_loopw [5, 8] (fun _ i wr => ∃ k : Nat, k ≤ ns.length ∧ i = .int .i64 k ∧ Hid (Below w.heap.size w wr)) (fun _ i _ => ns.length - (intOf i).toNat)
  case atStart => exact ⟨0, Nat.zero_le _, rfl, Below.refl _ _⟩
  case round =>
    obtain ⟨k, hk, rfl, HB⟩ := hrel
    by_cases hlt : k < ns.length
    · have hkz : (k : Int) < (ns.length : Int) := by omega
      obtain ⟨b1, o1, p1, e1, _, _, hc1⟩ := HA.out wr HB.out
      simp only [Value.slice.injEq, Option.some.injEq, Addr.mk.injEq] at e1
      obtain ⟨⟨rfl, rfl, _⟩, _, rfl⟩ := e1
      have c0 := hc1 k hlt 0 _ rfl
      have c1 := hc1 k hlt 1 _ rfl
      have c2 := hc1 k hlt 2 _ rfl
      have c3 := hc1 k hlt 3 _ rfl
      have c4 := hc1 k hlt 4 _ rfl
      have c5 := hc1 k hlt 5 _ rfl
      rw [Nat.add_zero] at c0
      have hnt := HNT.out ns[k] (List.getElem_mem hlt)
      clear hc1
      generalize ns[k] = x at *
      obtain ⟨xp, xd, xt, xm, xch, xv⟩ := x
      simp only at c0 c1 c2 c3 c4 c5 hnt
      subst hnt
      go_wp2_with fail
      refine (noted_not _ xp xd xm xch xv).mono ?_
      rintro e w1 ⟨rfl, hb1⟩
      have HB1 : Hid (Below w.heap.size w w1) := HB.out.trans (hb1.mono HB.out.size)
      clear hb1 c0 c1 c2 c3 c4 c5
      go_wp2_with fail
      go_roundw
      case rel => exact ⟨k + 1, by omega, by go_num, HB1⟩
      case measure => first | (simp [intOf]; done) | (simp [intOf]; omega)
    · have hkz : ¬ (k : Int) < (ns.length : Int) := by omega
      go_wp2
      go_ret
      exact ⟨rfl, HB.out⟩

set_option maxRecDepth 8000 in
theorem contains_none (w : World) (nsv : Value) (ns : List Orch.Node) (hns : NsAt w w.heap.size nsv ns) (hlen : ns.length ≤ 1000000) (hnote : ∀ x, x ∈ ns → x.note = ⟨#[]⟩) :
    Calls Tryd.prog 40 #[nsv, .func (.func 41) #[] #[]] w fun e w' => e = .returned (.bool false) ∧ Below w.heap.size w w' := by
  have HI := hide (index_none w nsv ns hns hlen hnote)
  clear hns hnote
  go_enter Tryd.func40, Tryd.ntmps40
  go_wp2_with (go_at_call 56; refine HI.out.mono ?_; rintro e w1 ⟨rfl, hb1⟩; have HB1 := hide hb1; clear hb1)
  go_ret
  exact ⟨rfl, HB1.out⟩
end Go.Proofs.YtlghcldiboecoaaDoor
