/- takeNumber. -/
import Derived.Test.YtlghcldiboecoaaGreatDoorTake
set_option linter.unusedVariables false
namespace Go.Proofs.YtlghcldiboecoaaGreatDoor
open Go.RowKit

theorem below_set3 {B : Nat} {w w1 : World} (h : Below B w w1) (g : Nat) (hg : B ≤ g) (x y z : Value) : Below B w (((w1.setCell ⟨g, 0, none⟩ x).setCell ⟨g, 1, none⟩ y).setCell ⟨g, 2, none⟩ z) :=
  ((h.setCell (p := ⟨g, 0, none⟩) hg x).setCell (p := ⟨g, 1, none⟩) hg y).setCell (p := ⟨g, 2, none⟩) hg z

section
variable {Tabs : World → Prop}

set_option maxHeartbeats 2000000 in
theorem takeNumber_core (w : World) (sg sh sz : Nat) (lo hi : Int) (tx : Bool) (fn : Nat) (pa : Option Addr) (pn pc b off k cap : Nat) (SG : Int) (FB : Bool)
    (hk : k ≤ 1000) (hcap : k ≤ cap) (hsz8 : 1 ≤ sz ∧ sz ≤ 8) (hlt : b < w.heap.size) (h4 : ¬ k < sz)
    (HF : Hid (∀ w', Tabs w' → Calls Tryz.prog 243 #[tyv sg sh sz lo hi tx fn (.slice pa pn pc), vv SG ⟨#[]⟩ (.slice none 0 0)] w' fun e w'' => e = .returned (.bool FB) ∧ Below w'.heap.size w' w''))
    (HTb : Hid (∀ w', Below w.heap.size w w' → Tabs w'))
    (HS' : Hid (∀ w', Below w.heap.size w w' → Calls Tryz.prog 252 #[.slice (some ⟨b, off, none⟩) sz cap] w' fun e w'' => e = .returned (.int .i64 SG) ∧ w'' = w')) :
    Calls Tryz.prog 292 #[tyv sg sh sz lo hi tx fn (.slice pa pn pc), .slice (some ⟨b, off, none⟩) k cap] w fun e w' =>
      ∃ rv, e = .returned (.tuple #[vv SG ⟨#[]⟩ (.slice none 0 0), rv, .bool FB]) ∧ (rv = if cap = sz then .slice (some ⟨b, off, none⟩) (k - sz) 0 else .slice (some ⟨b, off + sz, none⟩) (k - sz) (cap - sz)) ∧ Below w.heap.size w w' := by
  have h4z : ¬ (k : Int) < (sz : Int) := by omega
  obtain ⟨RV, hRV⟩ : ∃ RV, RV = if cap = sz then Value.slice (some ⟨b, off, none⟩) (k - sz) 0 else .slice (some ⟨b, off + sz, none⟩) (k - sz) (cap - sz) := ⟨_, rfl⟩
  rw [← hRV]
  have HRV : Hid (RV = if cap = sz then Value.slice (some ⟨b, off, none⟩) (k - sz) 0 else .slice (some ⟨b, off + sz, none⟩) (k - sz) (cap - sz)) := hRV
  clear hRV
  go_enter Tryz.func292, Tryz.ntmps292
  go_wp2_with (go_at_call 252; refine (HS'.out _ (below2 _ _ _)).mono ?_; rintro e w' ⟨rfl, rfl⟩)
  obtain ⟨n0, n1, n2⟩ := new3 w (.cells #[.int .u8 sg, .int .i64 sh, .int .i64 sz, .int .i64 lo, .int .i64 hi, .bool tx, .int .u8 fn, .slice pa pn pc] 227)
    (.cells #[.int .i64 0, .string ⟨#[]⟩, .slice none 0 0] 113) (.cells #[.int .i64 SG, .string ⟨#[]⟩, .slice none 0 0] 113)
  refine wp_gen (fun W => Below w.heap.size w W ∧ W.heap[w.heap.size]? = some (.cells #[.int .u8 sg, .int .i64 sh, .int .i64 sz, .int .i64 lo, .int .i64 hi, .bool tx, .int .u8 fn, .slice pa pn pc] 227) ∧
    W.heap[w.heap.size + 1]? = some (.cells #[.int .i64 0, .string ⟨#[]⟩, .slice none 0 0] 113) ∧ W.heap[w.heap.size + 1 + 1]? = some (.cells #[.int .i64 SG, .string ⟨#[]⟩, .slice none 0 0] 113)) ⟨below3 _ _ _ _, n0, n1, n2⟩ ?_
  clear n0 n1 n2 HS'
  rintro W ⟨hbW, m0, m1, m2⟩
  have a0 := cellOf (j := 0) m0 rfl
  have a1 := cellOf (j := 1) m0 rfl
  have a2 := cellOf (j := 2) m0 rfl
  have a3 := cellOf (j := 3) m0 rfl
  have a4 := cellOf (j := 4) m0 rfl
  have a5 := cellOf (j := 5) m0 rfl
  have a6 := cellOf (j := 6) m0 rfl
  have a7 := cellOf (j := 7) m0 rfl
  have b0 := cellOf (j := 0) m2 rfl
  have b1 := cellOf (j := 1) m2 rfl
  have b2 := cellOf (j := 2) m2 rfl
  have HW : Hid (Below w.heap.size w W) := hbW
  have M1 : Hid (W.heap[w.heap.size + 1]? = some (.cells #[.int .i64 0, .string ⟨#[]⟩, .slice none 0 0] 113)) := m1
  have M2 : Hid (W.heap[w.heap.size + 1 + 1]? = some (.cells #[.int .i64 SG, .string ⟨#[]⟩, .slice none 0 0] 113)) := m2
  clear hbW m0 m1 m2
  by_cases hcs : cap = sz
  all_goals go_region_with (
    go_at_call 243
    refine (HF.out _ (HTb.out _ (by first | exact HW.out | exact HW.out.drew | exact HW.out.drew.drew))).mono ?_
    rintro e w1 ⟨rfl, hb1⟩
    have k1 : w1.heap[w.heap.size + 1]? = some (.cells #[.int .i64 0, .string ⟨#[]⟩, .slice none 0 0] 113) := (hb1.block _ (ltOf M1.out)).trans M1.out
    have k2 : w1.heap[w.heap.size + 1 + 1]? = some (.cells #[.int .i64 SG, .string ⟨#[]⟩, .slice none 0 0] 113) := (hb1.block _ (ltOf M2.out)).trans M2.out
    have HB1 : Hid (Below w.heap.size w w1) := Below.trans (by first | exact HW.out | exact HW.out.drew | exact HW.out.drew.drew) (hb1.mono (by first | exact HW.out.size))
    have d0 := cellOf (j := 0) k1 rfl
    have d1 := cellOf (j := 1) k1 rfl
    have d2 := cellOf (j := 2) k1 rfl
    have f0 := frozenOf (j := 0) k1
    have f1 := frozenOf (j := 1) k1
    have f2 := frozenOf (j := 2) k1
    have g0 := cellOf (j := 0) k2 rfl
    have g1 := cellOf (j := 1) k2 rfl
    have g2 := cellOf (j := 2) k2 rfl
    clear hb1 k1 k2)
  all_goals go_wp2
  all_goals refine bodyPost_ret (v := .tuple #[vv SG ⟨#[]⟩ (.slice none 0 0), RV, .bool FB]) ?_ rfl ⟨RV, rfl, rfl, ?_⟩
  all_goals try exact below_set3 (by first | exact HB1.out | exact HB1.out.drew) _ (Nat.le_succ _) _ _ _
  all_goals try (rw [HRV.out, if_pos hcs]; simp [results, Tryz.results292, go_sem, d0, d1, d2]; done)
  all_goals try (rw [HRV.out, if_neg hcs]; simp [results, Tryz.results292, go_sem, d0, d1, d2]; done)
end
end Go.Proofs.YtlghcldiboecoaaGreatDoor
