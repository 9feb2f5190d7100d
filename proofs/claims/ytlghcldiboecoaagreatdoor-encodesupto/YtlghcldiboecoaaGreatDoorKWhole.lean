/- The caller's books: whole. -/
import Derived.Test.YtlghcldiboecoaaGreatDoorKPick
set_option linter.unusedVariables false
namespace Go.Proofs.YtlghcldiboecoaaGreatDoor
open Go.RowKit

/-- A list of bytes that reads as the caller has written it, in blocks below B. -/
def MkAt (w : World) (B n : Nat) (v : Value) : Prop :=
  ∃ la ln lc, v = .slice la ln lc ∧ ln ≤ 9223372036854775806 ∧ ln ≤ lc ∧ ∀ i, i < ln → ∃ g, la = some ⟨g, 0, none⟩ ∧ g < B ∧ w.cell? ⟨g, i, none⟩ = some (.int .u8 (mark n i).toNat)

theorem MkAt.below {w w' : World} {B n : Nat} {v : Value} (h : MkAt w B n v) (hb : Below B w w') : MkAt w' B n v := by
  obtain ⟨la, ln, lc, hv, h1, h2, h3⟩ := h
  refine ⟨la, ln, lc, hv, h1, h2, fun i hi => ?_⟩
  obtain ⟨g, hg, hB, hc⟩ := h3 i hi
  exact ⟨g, hg, hB, (hb.cell (p := ⟨g, i, none⟩) hB).trans hc⟩

theorem MkAt.calls {w : World} {B n : Nat} {v : Value} (h : MkAt w B n v) (hn : n ≤ 9223372036854775807) (hB : B ≤ w.heap.size) : Calls Tryz.prog 56 #[v, .int .i64 n] w fun e w' => e = .returned (.bool true) ∧ Below w.heap.size w w' := by
  obtain ⟨la, ln, lc, rfl, h1, h2, h3⟩ := h
  exact marked_any w la ln lc n hn h1 h2 (fun i hi => by
    obtain ⟨g, hg, hgB, hc⟩ := h3 i hi
    exact ⟨g, hg, Nat.lt_of_lt_of_le hgB hB, hc⟩)

set_option maxRecDepth 8000 in
set_option maxHeartbeats 4000000 in
theorem whole_any (w : World) (K o : Nat) (ba : Option Addr) (N bc : Nat) (hK : K < w.heap.size) (hN : N ≤ 140737488355328)
    (k0 : w.cell? ⟨K, o, none⟩ = some (.slice ba N bc)) (k1 : w.cell? ⟨K, o + 1, none⟩ = some (.slice none 0 0)) (k2 : w.cell? ⟨K, o + 2, none⟩ = some (.slice none 0 0)) (k3 : w.cell? ⟨K, o + 3, none⟩ = some (.slice none 0 0))
    (HE : Hid (∀ i, i < N → ∃ g l a b c, ba = some ⟨g, 0, none⟩ ∧ g < w.heap.size ∧ N ≤ bc ∧ w.cell? ⟨g, i * 5, none⟩ = some l ∧ w.cell? ⟨g, i * 5 + 1, none⟩ = some a ∧ w.cell? ⟨g, i * 5 + 2, none⟩ = some b ∧ w.cell? ⟨g, i * 5 + 3, none⟩ = some c ∧ w.cell? ⟨g, i * 5 + 4, none⟩ = some (.int .i64 i) ∧ MkAt w w.heap.size i l ∧ MkAt w w.heap.size i a ∧ MkAt w w.heap.size i b ∧ MkAt w w.heap.size i c)) :
    Calls Tryz.prog 27 #[.pointer (some ⟨K, o, none⟩)] w fun e w' => e = .returned (.bool true) ∧ Below w.heap.size w w' := by
  have HK : Hid (∀ W, Below w.heap.size w W → W.cell? ⟨K, o, none⟩ = some (.slice ba N bc) ∧ W.cell? ⟨K, o + 1, none⟩ = some (.slice none 0 0) ∧ W.cell? ⟨K, o + 2, none⟩ = some (.slice none 0 0) ∧ W.cell? ⟨K, o + 3, none⟩ = some (.slice none 0 0)) := fun W hb =>
    ⟨(hb.cell (p := ⟨K, o, none⟩) hK).trans k0, (hb.cell (p := ⟨K, o + 1, none⟩) hK).trans k1, (hb.cell (p := ⟨K, o + 2, none⟩) hK).trans k2, (hb.cell (p := ⟨K, o + 3, none⟩) hK).trans k3⟩
  clear k0 k1 k2 k3
  go_enter Tryz.func27, Tryz.ntmps27
  go_wp2
  go_loopw [3, 4] (fun b k wr => ∃ i : Nat, b = .bool true ∧ k = .int .i64 i ∧ i ≤ N ∧ Hid (Below w.heap.size w wr)) (fun _ k _ => N - (intOf k).toNat)
  case atStart => exact ⟨0, rfl, rfl, Nat.zero_le _, Below.refl _ _⟩
  case round =>
    obtain ⟨i, rfl, rfl, hi, HB⟩ := hrel
    obtain ⟨k0, k1, k2, k3⟩ := HK.out wr HB.out
    by_cases hlt : i < N
    · have hltz : (i : Int) < (N : Int) := by omega
      obtain ⟨g, l, a, b, c, hba, hg, hbc, e0, e1, e2, e3, e4, ml, ma, mb, mc⟩ := HE.out i hlt
      subst hba
      have f0 := (HB.out.cell (p := ⟨g, i * 5, none⟩) hg).trans e0
      have f1 := (HB.out.cell (p := ⟨g, i * 5 + 1, none⟩) hg).trans e1
      have f2 := (HB.out.cell (p := ⟨g, i * 5 + 2, none⟩) hg).trans e2
      have f3 := (HB.out.cell (p := ⟨g, i * 5 + 3, none⟩) hg).trans e3
      have f4 := (HB.out.cell (p := ⟨g, i * 5 + 4, none⟩) hg).trans e4
      clear e0 e1 e2 e3 e4 k1 k2 k3
      have ol : l.oneCell' = true := by obtain ⟨_, _, _, rfl, _⟩ := ml; rfl
      have HL : Hid (∀ W, Below w.heap.size w W → Calls Tryz.prog 56 #[l, .int .i64 i] W fun e w' => e = .returned (.bool true) ∧ Below W.heap.size W w') := fun W hb => (ml.below hb).calls (by omega) hb.size
      have HA : Hid (∀ W, Below w.heap.size w W → Calls Tryz.prog 56 #[a, .int .i64 i] W fun e w' => e = .returned (.bool true) ∧ Below W.heap.size W w') := fun W hb => (ma.below hb).calls (by omega) hb.size
      have HBB : Hid (∀ W, Below w.heap.size w W → Calls Tryz.prog 56 #[b, .int .i64 i] W fun e w' => e = .returned (.bool true) ∧ Below W.heap.size W w') := fun W hb => (mb.below hb).calls (by omega) hb.size
      have HCC : Hid (∀ W, Below w.heap.size w W → Calls Tryz.prog 56 #[c, .int .i64 i] W fun e w' => e = .returned (.bool true) ∧ Below W.heap.size W w') := fun W hb => (mc.below hb).calls (by omega) hb.size
      obtain ⟨l1, l2, l3, rfl, _⟩ := ml
      obtain ⟨a1, a2, a3, rfl, _⟩ := ma
      obtain ⟨b1, b2, b3, rfl, _⟩ := mb
      obtain ⟨c1, c2, c3, rfl, _⟩ := mc
      have HX := hid (heap_alloc_new wr (.cells #[.slice l1 l2 l3, .slice a1 a2 a3, .slice b1 b2 b3, .slice c1 c2 c3, .int .i64 i] 120))
      have HW : Hid (Below w.heap.size w (wr.alloc (.cells #[.slice l1 l2 l3, .slice a1 a2 a3, .slice b1 b2 b3, .slice c1 c2 c3, .int .i64 i] 120))) := HB.out.alloc HB.out.size _
      have x0 := cellOf (j := 0) HX.out rfl
      have x4 := cellOf (j := 4) HX.out rfl
      go_wp2_with (go_at_call 56; first
        | (refine (HL.out _ HW.out).mono ?_; rintro e w1 ⟨rfl, hb⟩; have HX1 : Hid (w1.heap[wr.heap.size]? = _) := (hb.block _ (ltOf HX.out)).trans HX.out; have HW1 : Hid (Below w.heap.size w w1) := HW.out.trans (hb.mono HW.out.size); clear hb HX HW x0 x4; have y0 := cellOf (j := 1) HX1.out rfl; have y4 := cellOf (j := 4) HX1.out rfl)
        | (refine (HA.out _ HW1.out).mono ?_; rintro e w2 ⟨rfl, hb⟩; have HX2 : Hid (w2.heap[wr.heap.size]? = _) := (hb.block _ (ltOf HX1.out)).trans HX1.out; have HW2 : Hid (Below w.heap.size w w2) := HW1.out.trans (hb.mono HW1.out.size); clear hb HX1 HW1 y0 y4; have z0 := cellOf (j := 2) HX2.out rfl; have z4 := cellOf (j := 4) HX2.out rfl)
        | (refine (HBB.out _ HW2.out).mono ?_; rintro e w3 ⟨rfl, hb⟩; have HX3 : Hid (w3.heap[wr.heap.size]? = _) := (hb.block _ (ltOf HX2.out)).trans HX2.out; have HW3 : Hid (Below w.heap.size w w3) := HW2.out.trans (hb.mono HW2.out.size); clear hb HX2 HW2 z0 z4; have u0 := cellOf (j := 3) HX3.out rfl; have u4 := cellOf (j := 4) HX3.out rfl)
        | (refine (HCC.out _ HW3.out).mono ?_; rintro e w4 ⟨rfl, hb⟩; have HW4 : Hid (Below w.heap.size w w4) := HW3.out.trans (hb.mono HW3.out.size); clear hb HX3 HW3 u0 u4))
      all_goals go_roundw
      all_goals try (case rel => exact ⟨i + 1, rfl, by go_num, by omega, HW4⟩)
      all_goals try (case measure => simp [intOf]; omega)
    · have hltz : ¬ (i : Int) < (N : Int) := by omega
      go_wp2
      refine wp_loop_rounds 1 ?_
      rw [rounds_succ]
      go_wp2
      refine wp_loop_rounds 1 ?_
      rw [rounds_succ]
      go_wp2
      refine wp_loop_rounds 1 ?_
      rw [rounds_succ]
      go_wp2
      all_goals go_ret
      all_goals exact ⟨rfl, HB.out⟩
end Go.Proofs.YtlghcldiboecoaaGreatDoor
