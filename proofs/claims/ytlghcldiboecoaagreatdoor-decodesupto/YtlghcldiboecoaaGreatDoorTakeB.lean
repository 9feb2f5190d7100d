/- takeBytes. -/
import Derived.Test.YtlghcldiboecoaaGreatDoorFind
import Derived.Laws.BytesArg
set_option linter.unusedVariables false
namespace Go.Proofs.YtlghcldiboecoaaGreatDoor
open Go.RowKit

theorem below_set3' {B : Nat} {w w1 : World} (h : Below B w w1) (g : Nat) (hg : B ≤ g) (x y z : Value) : Below B w (((w1.setCell ⟨g, 0, none⟩ x).setCell ⟨g, 1, none⟩ y).setCell ⟨g, 2, none⟩ z) :=
  ((h.setCell (p := ⟨g, 0, none⟩) hg x).setCell (p := ⟨g, 1, none⟩) hg y).setCell (p := ⟨g, 2, none⟩) hg z

section
variable {Tabs : World → Prop}

set_option maxRecDepth 8000 in
set_option maxHeartbeats 2000000 in
theorem takeBytes_core (w : World) (sg sh sz lo hi : Int) (tx : Bool) (fn : Int) (pa : Option Addr) (pn pc : Nat) (bv : Value) (b off k n cap : Nat) (S : ByteArray) (FB : Bool)
    (hk : k ≤ 1000) (hcap : k ≤ cap) (hlt : b < w.heap.size) (h4 : n ≤ k)
    (HC : Hid (∀ w', Below w.heap.size w w' → Calls Tryz.prog 294 #[bv, .int .i64 200] w' fun e w'' => e = .returned (.tuple #[.int .i64 n, .slice (some ⟨b, off, none⟩) k cap, .bool true]) ∧ Below w'.heap.size w' w''))
    (HF : Hid (∀ w', Tabs w' → Calls Tryz.prog 243 #[tyv sg sh sz lo hi tx fn (.slice pa pn pc), vv 0 S (.slice none 0 0)] w' fun e w'' => e = .returned (.bool FB) ∧ Below w'.heap.size w' w''))
    (HTb : Hid (∀ w', Below w.heap.size w w' → Tabs w'))
    (HS' : Hid (∀ w', Below w.heap.size w w' → (convert 57 9 (.slice (some ⟨b, off, none⟩) n cap)).run Tryz.prog w' = .ok (.string S) w')) :
    Calls Tryz.prog 293 #[tyv sg sh sz lo hi tx fn (.slice pa pn pc), bv] w fun e w' =>
      ∃ rv, e = .returned (.tuple #[vv 0 S (.slice none 0 0), rv, .bool FB]) ∧ (rv = if cap = n then .slice (some ⟨b, off, none⟩) (k - n) 0 else .slice (some ⟨b, off + n, none⟩) (k - n) (cap - n)) ∧ Below w.heap.size w w' := by
  have h4z : ¬ (k : Int) < (n : Int) := by omega
  obtain ⟨RV, hRV⟩ : ∃ RV, RV = if cap = n then Value.slice (some ⟨b, off, none⟩) (k - n) 0 else .slice (some ⟨b, off + n, none⟩) (k - n) (cap - n) := ⟨_, rfl⟩
  rw [← hRV]
  have HRV : Hid (RV = if cap = n then Value.slice (some ⟨b, off, none⟩) (k - n) 0 else .slice (some ⟨b, off + n, none⟩) (k - n) (cap - n)) := hRV
  clear hRV
  obtain ⟨n0, n1⟩ := new2 w (.cells #[.int .u8 sg, .int .i64 sh, .int .i64 sz, .int .i64 lo, .int .i64 hi, .bool tx, .int .u8 fn, .slice pa pn pc] 227) (.cells #[.int .i64 0, .string ⟨#[]⟩, .slice none 0 0] 113)
  have N0 : Hid (_ = _) := n0
  have N1 : Hid (_ = _) := n1
  clear n0 n1
  go_enter Tryz.func293, Tryz.ntmps293
  go_wp2_with (go_at_call 294; refine (HC.out _ (below2 _ _ _)).mono ?_; rintro e wa ⟨rfl, hba⟩; have HBa : Hid (Below w.heap.size w wa) := (below2 _ _ _).trans (hba.mono (by simp; omega)); have hconv := HS'.out wa HBa.out; have HA0 : Hid (wa.heap[w.heap.size]? = _) := (hba.block _ (ltOf N0.out)).trans N0.out; have HA1 : Hid (wa.heap[w.heap.size + 1]? = _) := (hba.block _ (ltOf N1.out)).trans N1.out; clear hba)
  have q0 : (wa.alloc (.cells #[.int .i64 0, .string S, .slice none 0 0] 113)).heap[w.heap.size]? = _ := (Below.heap_alloc _ _ _ (ltOf HA0.out)).trans HA0.out
  have q1 : (wa.alloc (.cells #[.int .i64 0, .string S, .slice none 0 0] 113)).heap[w.heap.size + 1]? = _ := (Below.heap_alloc _ _ _ (ltOf HA1.out)).trans HA1.out
  have hwl := ltOf HA1.out
  refine wp_gen (fun W => Below w.heap.size w W ∧ W.heap[w.heap.size]? = some (.cells #[.int .u8 sg, .int .i64 sh, .int .i64 sz, .int .i64 lo, .int .i64 hi, .bool tx, .int .u8 fn, .slice pa pn pc] 227) ∧
    W.heap[w.heap.size + 1]? = some (.cells #[.int .i64 0, .string ⟨#[]⟩, .slice none 0 0] 113) ∧ W.heap[wa.heap.size]? = some (.cells #[.int .i64 0, .string S, .slice none 0 0] 113)) ⟨HBa.out.alloc (by omega) _, q0, q1, heap_alloc_new _ _⟩ ?_
  clear q0 q1 N0 N1 HS' HC hconv HA0 HA1 HBa
  generalize wa.heap.size = G at *
  rintro W ⟨hbW, m0, m1, m2⟩
  have a0 := cellOf (j := 0) m0 rfl
  have a1 := cellOf (j := 1) m0 rfl
  have a2 := cellOf (j := 2) m0 rfl
  have a3 := cellOf (j := 3) m0 rfl
  have a4 := cellOf (j := 4) m0 rfl
  have a5 := cellOf (j := 5) m0 rfl
  have a6 := cellOf (j := 6) m0 rfl
  have a7 := cellOf (j := 7) m0 rfl
  have b0 := cellOf (j := 0) m2 rfl
  have b1 := cellOf (j := 1) m2 rfl
  have b2 := cellOf (j := 2) m2 rfl
  have HW : Hid (Below w.heap.size w W) := hbW
  have M1 : Hid (W.heap[w.heap.size + 1]? = some (.cells #[.int .i64 0, .string ⟨#[]⟩, .slice none 0 0] 113)) := m1
  have M2 : Hid (W.heap[G]? = some (.cells #[.int .i64 0, .string S, .slice none 0 0] 113)) := m2
  clear hbW m0 m1 m2
  by_cases hcs : cap = n
  all_goals go_region_with (
    go_at_call 243
    refine (HF.out _ (HTb.out _ (by first | exact HW.out | exact HW.out.drew | exact HW.out.drew.drew))).mono ?_
    rintro e w1 ⟨rfl, hb1⟩
    have k1 : w1.heap[w.heap.size + 1]? = some (.cells #[.int .i64 0, .string ⟨#[]⟩, .slice none 0 0] 113) := (hb1.block _ (ltOf M1.out)).trans M1.out
    have k2 : w1.heap[G]? = some (.cells #[.int .i64 0, .string S, .slice none 0 0] 113) := (hb1.block _ (ltOf M2.out)).trans M2.out
    have HB1 : Hid (Below w.heap.size w w1) := Below.trans (by first | exact HW.out | exact HW.out.drew | exact HW.out.drew.drew) (hb1.mono (by first | exact HW.out.size))
    have d0 := cellOf (j := 0) k1 rfl
    have d1 := cellOf (j := 1) k1 rfl
    have d2 := cellOf (j := 2) k1 rfl
    have f0 := frozenOf (j := 0) k1
    have f1 := frozenOf (j := 1) k1
    have f2 := frozenOf (j := 2) k1
    have g0 := cellOf (j := 0) k2 rfl
    have g1 := cellOf (j := 1) k2 rfl
    have g2 := cellOf (j := 2) k2 rfl
    clear hb1 k1 k2)
  all_goals go_wp2
  all_goals refine bodyPost_ret (v := .tuple #[vv 0 S (.slice none 0 0), RV, .bool FB]) ?_ rfl ⟨RV, rfl, rfl, ?_⟩
  all_goals try exact below_set3' (by first | exact HB1.out | exact HB1.out.drew) _ (Nat.le_succ _) _ _ _
  all_goals try (rw [HRV.out, if_pos hcs]; simp [results, Tryz.results293, go_sem, d0, d1, d2]; done)
  all_goals try (rw [HRV.out, if_neg hcs]; simp [results, Tryz.results293, go_sem, d0, d1, d2]; done)
end
end Go.Proofs.YtlghcldiboecoaaGreatDoor
