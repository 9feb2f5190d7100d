/- The walk of same: a value is the same as itself, wherever it lies. -/
import Derived.Test.YtbnoghkijgmcgaaDoorAgain
set_option linter.unusedVariables false
namespace Go.Proofs.YtbnoghkijgmcgaaDoor
open Go.RowKit

/-- No list of the value is long, and it is not deep. -/
def Small : Nat → Orch.V → Prop
  | 0, _ => False
  | k + 1, v => v.l.length ≤ 1000 ∧ ∀ e, e ∈ v.l → Small k e

def SmSaid (k : Nat) : Prop := ∀ (x : Orch.V), Small k x → ∀ (w : World) (Sa Sb : Nat → Prop) (la lb : Value), VsAt w Sa x.l la → VsAt w Sb x.l lb → (∀ b, Sa b → b < w.heap.size) → (∀ b, Sb b → b < w.heap.size) →
  Calls Tryd.prog 10 #[vval x la, vval x lb] w fun e w' => e = .returned (.bool true) ∧ Below w.heap.size w w'

set_option maxRecDepth 8000 in
set_option maxHeartbeats 2000000 in
theorem same_step (k : Nat) (ih : SmSaid k) : SmSaid (k + 1) := by
  intro x hx w Sa Sb la lb ha hb hSa hSb
  obtain ⟨aa, ac, rfl⟩ := ha.shape
  obtain ⟨ba, bc, rfl⟩ := hb.shape
  have hlen := hx.1
  have HX : Hid (∀ i (h : i < x.l.length), Small k x.l[i]) := fun i h => hx.2 _ (List.getElem_mem h)
  have HA := hide ha
  have HB := hide hb
  have HSa := hide hSa
  have HSb := hide hSb
  have HIH := hide ih
  clear ha hb hSa hSb ih hx
  simp only [vval]
  generalize x.n = xn at *
  generalize x.s = xs at *
  generalize hL : x.l = L at *
  clear hL
  obtain ⟨n0, n1⟩ := new2 w (.cells #[.int .i64 xn, .string xs, .slice aa L.length ac] 31) (.cells #[.int .i64 xn, .string xs, .slice ba L.length bc] 31)
  have HN0 := hide n0
  have HN1 := hide n1
  clear n0 n1
  go_enter Tryd.func10, Tryd.ntmps10
  go_wp2_with fail
  have HS0 : Hid (((w.alloc (.cells #[.int .i64 xn, .string xs, .slice aa L.length ac] 31)).alloc (.cells #[.int .i64 xn, .string xs, .slice ba L.length bc] 31)).heap.size = w.heap.size + 1 + 1) := by show _ = _; simp
  have HB0 := hide (below2 w (.cells #[.int .i64 xn, .string xs, .slice aa L.length ac] 31) (.cells #[.int .i64 xn, .string xs, .slice ba L.length bc] 31))
  generalize (w.alloc (.cells #[.int .i64 xn, .string xs, .slice aa L.length ac] 31)).alloc (.cells #[.int .i64 xn, .string xs, .slice ba L.length bc] 31) = W0 at *
  have HEA : Hid (∀ W, Below W0.heap.size W0 W → ∀ i (h : i < L.length), ∃ g xa xm xc, aa = some ⟨g, 0, none⟩ ∧ L.length ≤ ac ∧ VsAt W Sa L[i].l (.slice xa xm xc) ∧ W.cell? ⟨g, i * 3, none⟩ = some (.int .i64 L[i].n) ∧ W.cell? ⟨g, i * 3 + 1, none⟩ = some (.string L[i].s) ∧ W.cell? ⟨g, i * 3 + 2, none⟩ = some (.slice xa xm xc)) := fun W hW i h => by
    have hv := (HA.out.congr (fun _ h => h) (fun b hb => HB0.out.block b (HSa.out b hb))).congr (fun _ h => h) (fun b hb => hW.block b (Nat.lt_of_lt_of_le (HSa.out b hb) HB0.out.size))
    obtain ⟨g, cap, y, e, hc, _, hv', hcell⟩ := hv.at i h
    obtain ⟨xa, xc, rfl⟩ := hv'.shape
    injection e with e1 e2 e3
    subst e1 e3
    exact ⟨g, xa, _, xc, rfl, hc, hv', hcell 0 _ rfl, hcell 1 _ rfl, hcell 2 _ rfl⟩
  have HEB : Hid (∀ W, Below W0.heap.size W0 W → ∀ i (h : i < L.length), ∃ g xa xm xc, ba = some ⟨g, 0, none⟩ ∧ L.length ≤ bc ∧ VsAt W Sb L[i].l (.slice xa xm xc) ∧ W.cell? ⟨g, i * 3, none⟩ = some (.int .i64 L[i].n) ∧ W.cell? ⟨g, i * 3 + 1, none⟩ = some (.string L[i].s) ∧ W.cell? ⟨g, i * 3 + 2, none⟩ = some (.slice xa xm xc)) := fun W hW i h => by
    have hv := (HB.out.congr (fun _ h => h) (fun b hb => HB0.out.block b (HSb.out b hb))).congr (fun _ h => h) (fun b hb => hW.block b (Nat.lt_of_lt_of_le (HSb.out b hb) HB0.out.size))
    obtain ⟨g, cap, y, e, hc, _, hv', hcell⟩ := hv.at i h
    obtain ⟨xa, xc, rfl⟩ := hv'.shape
    injection e with e1 e2 e3
    subst e1 e3
    exact ⟨g, xa, _, xc, rfl, hc, hv', hcell 0 _ rfl, hcell 1 _ rfl, hcell 2 _ rfl⟩
  have HSz : Hid (∀ W, Below W0.heap.size W0 W → ∀ b, (Sa b ∨ Sb b) → b < W.heap.size) := fun W hW b h => Nat.lt_of_lt_of_le (h.elim (HSa.out b) (HSb.out b)) (Nat.le_trans HB0.out.size hW.size)
  clear HA HB HSa HSb
  go_loopw [5] (fun i wr => ∃ j : Nat, j ≤ L.length ∧ i = .int .i64 j ∧ Hid (Below W0.heap.size W0 wr)) (fun i _ => L.length - (intOf i).toNat)
  case atStart => exact ⟨0, Nat.zero_le _, rfl, Below.refl _ _⟩
  case round =>
    obtain ⟨j, hj, rfl, HW⟩ := hrel
    have d0 := cellOf (j := 2) ((HW.out.block _ (ltOf HN0.out)).trans HN0.out) rfl
    have d1 := cellOf (j := 2) ((HW.out.block _ (ltOf HN1.out)).trans HN1.out) rfl
    by_cases hlt : j < L.length
    · have hltz : (j : Int) < L.length := by omega
      obtain ⟨g, xa, xm, xc, rfl, hac, hv, e0, e1, e2⟩ := HEA.out wr HW.out j hlt
      obtain ⟨g', ya, ym, yc, rfl, hbc, hv', e3, e4, e5⟩ := HEB.out wr HW.out j hlt
      have HC : Hid (∀ W, Below wr.heap.size wr W → Calls Tryd.prog 10 #[vv L[j].n L[j].s (.slice xa xm xc), vv L[j].n L[j].s (.slice ya ym yc)] W fun e w' => e = .returned (.bool true) ∧ Below W.heap.size W w') := fun W hW =>
        HIH.out L[j] (HX.out j hlt) W Sa Sb _ _ (hv.congr (fun _ h => h) (fun b hb => hW.block b (HSz.out wr HW.out b (.inl hb)))) (hv'.congr (fun _ h => h) (fun b hb => hW.block b (HSz.out wr HW.out b (.inr hb)))) (fun b hb => Nat.lt_of_lt_of_le (HSz.out wr HW.out b (.inl hb)) hW.size) (fun b hb => Nat.lt_of_lt_of_le (HSz.out wr HW.out b (.inr hb)) hW.size)
      clear hv hv'
      generalize L[j].n = en at *
      generalize L[j].s = es at *
      go_wp2
      go_region_with (go_at_call 10
                      refine (HC.out _ (by first | exact Below.refl _ _ | exact below_drew _)).mono ?_
                      rintro e w2 ⟨rfl, hb2⟩
                      have HB2 : Hid (Below W0.heap.size W0 w2) := (by first | exact HW.out.trans (hb2.mono HW.out.size) | exact HW.out.trans ((below_drew _).trans (hb2.mono HW.out.size)))
                      clear hb2)
      all_goals go_wp2
      all_goals go_round
      all_goals first
        | exact ⟨j + 1, by omega, by go_num, by first | exact HB2 | exact HB2.out.drew⟩
        | (simp [intOf]; done)
        | (simp [intOf]; omega)
    · have hltz : ¬ (j : Int) < L.length := by omega
      go_wp2
      go_ret
      exact ⟨rfl, HB0.out.trans (HW.out.mono HB0.out.size)⟩

theorem same_any : ∀ k, SmSaid k
  | 0 => fun x hx => hx.elim
  | k + 1 => same_step k (same_any k)
end Go.Proofs.YtbnoghkijgmcgaaDoor
