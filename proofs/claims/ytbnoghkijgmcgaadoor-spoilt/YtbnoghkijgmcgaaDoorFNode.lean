/- A node out of the fields of a file of the second version. -/
import Derived.Test.YtbnoghkijgmcgaaDoorFHead
import Derived.BigRegion
set_option linter.unusedVariables false
namespace Go.Proofs.YtbnoghkijgmcgaaDoor
open Go.RowKit

abbrev ndv (p d t : ByteArray) (m c v : Int) : Value := .agg #[.string p, .string d, .string t, .int .i64 m, .int .i64 c, .int .i64 v]

set_option maxRecDepth 8000 in
set_option maxHeartbeats 4000000 in
theorem node_2 (w : World) (n : Int) (s : ByteArray) (g cap : Nat) (hcap : 6 ≤ cap) (hg : g < w.heap.size) (p d t : ByteArray) (m c v : Int)
    (k0 : w.cell? ⟨g, 1, none⟩ = some (.string p)) (k1 : w.cell? ⟨g, 4, none⟩ = some (.string d)) (k2 : w.cell? ⟨g, 7, none⟩ = some (.string t))
    (k3 : w.cell? ⟨g, 9, none⟩ = some (.int .i64 m)) (k4 : w.cell? ⟨g, 12, none⟩ = some (.int .i64 c)) (k5 : w.cell? ⟨g, 15, none⟩ = some (.int .i64 v)) :
    Calls Tryd.prog 52 #[.int .i64 2, vv n s (.slice (some ⟨g, 0, none⟩) 6 cap)] w fun e w' => e = .returned (ndv p d t m c v) ∧ Below w.heap.size w w' := by
  have hb := below2 w (.cells #[.int .i64 n, .string s, .slice (some ⟨g, 0, none⟩) 6 cap] 31) (.cells #[.string ⟨#[]⟩, .string ⟨#[]⟩, .string ⟨#[]⟩, .int .i64 0, .int .i64 0, .int .i64 0] 69)
  obtain ⟨n0, n1⟩ := new2 w (.cells #[.int .i64 n, .string s, .slice (some ⟨g, 0, none⟩) 6 cap] 31) (.cells #[.string ⟨#[]⟩, .string ⟨#[]⟩, .string ⟨#[]⟩, .int .i64 0, .int .i64 0, .int .i64 0] 69)
  have q0 := (hb.cell (p := ⟨g, 1, none⟩) hg).trans k0
  have q1 := (hb.cell (p := ⟨g, 4, none⟩) hg).trans k1
  have q2 := (hb.cell (p := ⟨g, 7, none⟩) hg).trans k2
  have q3 := (hb.cell (p := ⟨g, 9, none⟩) hg).trans k3
  have q4 := (hb.cell (p := ⟨g, 12, none⟩) hg).trans k4
  have q5 := (hb.cell (p := ⟨g, 15, none⟩) hg).trans k5
  have HB := hide hb
  have N1 := hide n1
  clear k0 k1 k2 k3 k4 k5 hb n0 n1
  go_enter Tryd.func52, Tryd.ntmps52
  go_wp2_with (go_at_call 39; refine (hasNotes_any _ _).mono ?_; rintro e w1 ⟨rfl, rfl⟩)
  refine wp_gen (fun W => W.cell? ⟨g, 1, none⟩ = some (.string p) ∧ W.cell? ⟨g, 4, none⟩ = some (.string d) ∧ W.cell? ⟨g, 7, none⟩ = some (.string t) ∧ W.cell? ⟨g, 9, none⟩ = some (.int .i64 m) ∧ W.cell? ⟨g, 12, none⟩ = some (.int .i64 c) ∧ W.cell? ⟨g, 15, none⟩ = some (.int .i64 v) ∧
    W.heap[w.heap.size + 1]? = some (.cells #[.string ⟨#[]⟩, .string ⟨#[]⟩, .string ⟨#[]⟩, .int .i64 0, .int .i64 0, .int .i64 0] 69) ∧ Below w.heap.size w W) ⟨q0, q1, q2, q3, q4, q5, N1.out, HB.out⟩ ?_
  clear q0 q1 q2 q3 q4 q5 HB N1
  rintro W ⟨q0, q1, q2, q3, q4, q5, hn1, hbW⟩
  have d0 := cellOf (j := 0) hn1 rfl
  have d1 := cellOf (j := 1) hn1 rfl
  have d2 := cellOf (j := 2) hn1 rfl
  have d3 := cellOf (j := 3) hn1 rfl
  have d4 := cellOf (j := 4) hn1 rfl
  have d5 := cellOf (j := 5) hn1 rfl
  have f0 := frozenOf (j := 0) hn1
  have f1 := frozenOf (j := 1) hn1
  have f2 := frozenOf (j := 2) hn1
  have f3 := frozenOf (j := 3) hn1
  have f4 := frozenOf (j := 4) hn1
  have f5 := frozenOf (j := 5) hn1
  have HBW := hide hbW
  clear hbW hn1
  have hne : ¬ g = w.heap.size + 1 := by omega
  have HG : Hid (w.heap.size ≤ w.heap.size + 1) := Nat.le_succ _
  generalize w.heap.size + 1 = G at *
  go_region
  all_goals go_wp2
  all_goals exact bodyPost_ret (v := ndv p d t m c v) (by simp [results, Tryd.results52, go_sem, d0, d1, d2, d3, d4, d5]) rfl ⟨rfl, ((((((HBW.out.setCell (p := ⟨G, 0, none⟩) HG.out _).setCell (p := ⟨G, 1, none⟩) HG.out _).setCell (p := ⟨G, 2, none⟩) HG.out _).setCell (p := ⟨G, 3, none⟩) HG.out _).setCell (p := ⟨G, 4, none⟩) HG.out _).setCell (p := ⟨G, 5, none⟩) HG.out _).drew⟩
end Go.Proofs.YtbnoghkijgmcgaaDoor
