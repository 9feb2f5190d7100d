/- A node for itself. -/
import Derived.Test.YtbnoghkijgmcgaaDoorFNote
set_option linter.unusedVariables false
namespace Go.Proofs.YtbnoghkijgmcgaaDoor
open Go.RowKit

/-- A node that may stand in a tree, for itself. -/
def isNd (x : Orch.Node) : Bool := isPa x.path && (decide (x.data.size ≤ 40) && (isNt x.note && (decide (0 ≤ x.made) && (decide (x.made ≤ x.changed) && (decide (0 ≤ x.version) && decide (x.version ≤ 2147483647))))))

section
variable {Tabs : World → Prop}
set_option maxRecDepth 8000 in
set_option maxHeartbeats 2000000 in
theorem nd_0 (U : Utf validB Tabs) (w : World) (hT : Tabs w) (mx : Int) (hm : w.cell? ⟨4, 0, none⟩ = some (.int .i64 mx)) (h4 : 4 < w.heap.size) (x : Orch.Node) (hps : x.path.size ≤ 140737488355328) (hds : x.data.size ≤ 140737488355328) (hp : isPa x.path = false) :
    Calls Tryd.prog 53 #[ndv x.path x.data x.note x.made x.changed x.version] w fun e w' => e = .returned (.bool false) ∧ Below w.heap.size w w' := by
  obtain ⟨p, d, t, m, c, v⟩ := x
  have hn0 := heap_alloc_new w (.cells #[.string p, .string d, .string t, .int .i64 m, .int .i64 c, .int .i64 v] 69)
  have hb0 := below1 w (.cells #[.string p, .string d, .string t, .int .i64 m, .int .i64 c, .int .i64 v] 69)
  have HP := hide (isPath_any _ mx ((hb0.cell (p := ⟨4, 0, none⟩) h4).trans hm) p hps)
  have HN : Hid (∀ W, Below w.heap.size w W → Calls Tryd.prog 65 #[.string t] W fun e w' => e = .returned (.bool (isNt t)) ∧ Below W.heap.size W w') := fun W h => isNote_any U W (U.kept (U.size hT) h hT) t
  have HB0 := hide hb0
  have HN0 := hide hn0
  have HSZ : Hid (w.heap.size < (w.alloc (.cells #[.string p, .string d, .string t, .int .i64 m, .int .i64 c, .int .i64 v] 69)).heap.size) := by show _ < _; simp
  clear hb0 hn0
  go_enter Tryd.func53, Tryd.ntmps53
  go_wp2_with ((go_at_call 64; refine HP.out.mono ?_; rintro e w1 ⟨rfl, hb1⟩; rw [hp]; have HB1 : Hid (Below w.heap.size w w1) := HB0.out.trans (hb1.mono (Nat.le_of_lt HSZ.out)); have hC := (hb1.block _ HSZ.out).trans HN0.out; have k1 := cellOf (j := 1) hC rfl; have k2 := cellOf (j := 2) hC rfl; have k3 := cellOf (j := 3) hC rfl; have k4 := cellOf (j := 4) hC rfl; have k5 := cellOf (j := 5) hC rfl; have HC1 := hide hC; clear hb1 hC))
  go_ret
  exact ⟨rfl, HB1.out⟩

set_option maxRecDepth 8000 in
set_option maxHeartbeats 2000000 in
theorem nd_1 (U : Utf validB Tabs) (w : World) (hT : Tabs w) (mx : Int) (hm : w.cell? ⟨4, 0, none⟩ = some (.int .i64 mx)) (h4 : 4 < w.heap.size) (x : Orch.Node) (hps : x.path.size ≤ 140737488355328) (hds : x.data.size ≤ 140737488355328) (hp : isPa x.path = true) (hd : ¬ (x.data.size : Int) ≤ 40) :
    Calls Tryd.prog 53 #[ndv x.path x.data x.note x.made x.changed x.version] w fun e w' => e = .returned (.bool false) ∧ Below w.heap.size w w' := by
  obtain ⟨p, d, t, m, c, v⟩ := x
  have hn0 := heap_alloc_new w (.cells #[.string p, .string d, .string t, .int .i64 m, .int .i64 c, .int .i64 v] 69)
  have hb0 := below1 w (.cells #[.string p, .string d, .string t, .int .i64 m, .int .i64 c, .int .i64 v] 69)
  have HP := hide (isPath_any _ mx ((hb0.cell (p := ⟨4, 0, none⟩) h4).trans hm) p hps)
  have HN : Hid (∀ W, Below w.heap.size w W → Calls Tryd.prog 65 #[.string t] W fun e w' => e = .returned (.bool (isNt t)) ∧ Below W.heap.size W w') := fun W h => isNote_any U W (U.kept (U.size hT) h hT) t
  have HB0 := hide hb0
  have HN0 := hide hn0
  have HSZ : Hid (w.heap.size < (w.alloc (.cells #[.string p, .string d, .string t, .int .i64 m, .int .i64 c, .int .i64 v] 69)).heap.size) := by show _ < _; simp
  clear hb0 hn0
  go_enter Tryd.func53, Tryd.ntmps53
  go_wp2_with ((go_at_call 64; refine HP.out.mono ?_; rintro e w1 ⟨rfl, hb1⟩; rw [hp]; have HB1 : Hid (Below w.heap.size w w1) := HB0.out.trans (hb1.mono (Nat.le_of_lt HSZ.out)); have hC := (hb1.block _ HSZ.out).trans HN0.out; have k1 := cellOf (j := 1) hC rfl; have k2 := cellOf (j := 2) hC rfl; have k3 := cellOf (j := 3) hC rfl; have k4 := cellOf (j := 4) hC rfl; have k5 := cellOf (j := 5) hC rfl; have HC1 := hide hC; clear hb1 hC))
  go_ret
  exact ⟨rfl, HB1.out⟩

set_option maxRecDepth 8000 in
set_option maxHeartbeats 2000000 in
theorem nd_2 (U : Utf validB Tabs) (w : World) (hT : Tabs w) (mx : Int) (hm : w.cell? ⟨4, 0, none⟩ = some (.int .i64 mx)) (h4 : 4 < w.heap.size) (x : Orch.Node) (hps : x.path.size ≤ 140737488355328) (hds : x.data.size ≤ 140737488355328) (hp : isPa x.path = true) (hd : (x.data.size : Int) ≤ 40) (hn : isNt x.note = false) :
    Calls Tryd.prog 53 #[ndv x.path x.data x.note x.made x.changed x.version] w fun e w' => e = .returned (.bool false) ∧ Below w.heap.size w w' := by
  obtain ⟨p, d, t, m, c, v⟩ := x
  have hn0 := heap_alloc_new w (.cells #[.string p, .string d, .string t, .int .i64 m, .int .i64 c, .int .i64 v] 69)
  have hb0 := below1 w (.cells #[.string p, .string d, .string t, .int .i64 m, .int .i64 c, .int .i64 v] 69)
  have HP := hide (isPath_any _ mx ((hb0.cell (p := ⟨4, 0, none⟩) h4).trans hm) p hps)
  have HN : Hid (∀ W, Below w.heap.size w W → Calls Tryd.prog 65 #[.string t] W fun e w' => e = .returned (.bool (isNt t)) ∧ Below W.heap.size W w') := fun W h => isNote_any U W (U.kept (U.size hT) h hT) t
  have HB0 := hide hb0
  have HN0 := hide hn0
  have HSZ : Hid (w.heap.size < (w.alloc (.cells #[.string p, .string d, .string t, .int .i64 m, .int .i64 c, .int .i64 v] 69)).heap.size) := by show _ < _; simp
  clear hb0 hn0
  go_enter Tryd.func53, Tryd.ntmps53
  go_wp2_with (first
    | (go_at_call 64; refine HP.out.mono ?_; rintro e w1 ⟨rfl, hb1⟩; rw [hp]; have HB1 : Hid (Below w.heap.size w w1) := HB0.out.trans (hb1.mono (Nat.le_of_lt HSZ.out)); have hC := (hb1.block _ HSZ.out).trans HN0.out; have k1 := cellOf (j := 1) hC rfl; have k2 := cellOf (j := 2) hC rfl; have k3 := cellOf (j := 3) hC rfl; have k4 := cellOf (j := 4) hC rfl; have k5 := cellOf (j := 5) hC rfl; have HC1 := hide hC; clear hb1 hC)
    | (go_at_call 65; refine (HN.out _ HB1.out).mono ?_; rintro e w2 ⟨rfl, hb2⟩; rw [hn]; have HB2 : Hid (Below w.heap.size w w2) := HB1.out.trans (hb2.mono HB1.out.size); have hC := (hb2.block _ (ltOf HC1.out)).trans HC1.out; have q3 := cellOf (j := 3) hC rfl; have q4 := cellOf (j := 4) hC rfl; have q5 := cellOf (j := 5) hC rfl; clear hb2 hC))
  go_ret
  exact ⟨rfl, HB2.out⟩

set_option maxRecDepth 8000 in
set_option maxHeartbeats 2000000 in
theorem nd_3 (U : Utf validB Tabs) (w : World) (hT : Tabs w) (mx : Int) (hm : w.cell? ⟨4, 0, none⟩ = some (.int .i64 mx)) (h4 : 4 < w.heap.size) (x : Orch.Node) (hps : x.path.size ≤ 140737488355328) (hds : x.data.size ≤ 140737488355328) (hp : isPa x.path = true) (hd : (x.data.size : Int) ≤ 40) (hn : isNt x.note = true) (h5 : ¬ 0 ≤ x.made) :
    Calls Tryd.prog 53 #[ndv x.path x.data x.note x.made x.changed x.version] w fun e w' => e = .returned (.bool false) ∧ Below w.heap.size w w' := by
  obtain ⟨p, d, t, m, c, v⟩ := x
  have hn0 := heap_alloc_new w (.cells #[.string p, .string d, .string t, .int .i64 m, .int .i64 c, .int .i64 v] 69)
  have hb0 := below1 w (.cells #[.string p, .string d, .string t, .int .i64 m, .int .i64 c, .int .i64 v] 69)
  have HP := hide (isPath_any _ mx ((hb0.cell (p := ⟨4, 0, none⟩) h4).trans hm) p hps)
  have HN : Hid (∀ W, Below w.heap.size w W → Calls Tryd.prog 65 #[.string t] W fun e w' => e = .returned (.bool (isNt t)) ∧ Below W.heap.size W w') := fun W h => isNote_any U W (U.kept (U.size hT) h hT) t
  have HB0 := hide hb0
  have HN0 := hide hn0
  have HSZ : Hid (w.heap.size < (w.alloc (.cells #[.string p, .string d, .string t, .int .i64 m, .int .i64 c, .int .i64 v] 69)).heap.size) := by show _ < _; simp
  clear hb0 hn0
  go_enter Tryd.func53, Tryd.ntmps53
  go_wp2_with (first
    | (go_at_call 64; refine HP.out.mono ?_; rintro e w1 ⟨rfl, hb1⟩; rw [hp]; have HB1 : Hid (Below w.heap.size w w1) := HB0.out.trans (hb1.mono (Nat.le_of_lt HSZ.out)); have hC := (hb1.block _ HSZ.out).trans HN0.out; have k1 := cellOf (j := 1) hC rfl; have k2 := cellOf (j := 2) hC rfl; have k3 := cellOf (j := 3) hC rfl; have k4 := cellOf (j := 4) hC rfl; have k5 := cellOf (j := 5) hC rfl; have HC1 := hide hC; clear hb1 hC)
    | (go_at_call 65; refine (HN.out _ HB1.out).mono ?_; rintro e w2 ⟨rfl, hb2⟩; rw [hn]; have HB2 : Hid (Below w.heap.size w w2) := HB1.out.trans (hb2.mono HB1.out.size); have hC := (hb2.block _ (ltOf HC1.out)).trans HC1.out; have q3 := cellOf (j := 3) hC rfl; have q4 := cellOf (j := 4) hC rfl; have q5 := cellOf (j := 5) hC rfl; clear hb2 hC))
  go_ret
  exact ⟨rfl, HB2.out⟩

set_option maxRecDepth 8000 in
set_option maxHeartbeats 2000000 in
theorem nd_4 (U : Utf validB Tabs) (w : World) (hT : Tabs w) (mx : Int) (hm : w.cell? ⟨4, 0, none⟩ = some (.int .i64 mx)) (h4 : 4 < w.heap.size) (x : Orch.Node) (hps : x.path.size ≤ 140737488355328) (hds : x.data.size ≤ 140737488355328) (hp : isPa x.path = true) (hd : (x.data.size : Int) ≤ 40) (hn : isNt x.note = true) (h5 : 0 ≤ x.made) (h6 : ¬ x.made ≤ x.changed) :
    Calls Tryd.prog 53 #[ndv x.path x.data x.note x.made x.changed x.version] w fun e w' => e = .returned (.bool false) ∧ Below w.heap.size w w' := by
  obtain ⟨p, d, t, m, c, v⟩ := x
  have hn0 := heap_alloc_new w (.cells #[.string p, .string d, .string t, .int .i64 m, .int .i64 c, .int .i64 v] 69)
  have hb0 := below1 w (.cells #[.string p, .string d, .string t, .int .i64 m, .int .i64 c, .int .i64 v] 69)
  have HP := hide (isPath_any _ mx ((hb0.cell (p := ⟨4, 0, none⟩) h4).trans hm) p hps)
  have HN : Hid (∀ W, Below w.heap.size w W → Calls Tryd.prog 65 #[.string t] W fun e w' => e = .returned (.bool (isNt t)) ∧ Below W.heap.size W w') := fun W h => isNote_any U W (U.kept (U.size hT) h hT) t
  have HB0 := hide hb0
  have HN0 := hide hn0
  have HSZ : Hid (w.heap.size < (w.alloc (.cells #[.string p, .string d, .string t, .int .i64 m, .int .i64 c, .int .i64 v] 69)).heap.size) := by show _ < _; simp
  clear hb0 hn0
  go_enter Tryd.func53, Tryd.ntmps53
  go_wp2_with (first
    | (go_at_call 64; refine HP.out.mono ?_; rintro e w1 ⟨rfl, hb1⟩; rw [hp]; have HB1 : Hid (Below w.heap.size w w1) := HB0.out.trans (hb1.mono (Nat.le_of_lt HSZ.out)); have hC := (hb1.block _ HSZ.out).trans HN0.out; have k1 := cellOf (j := 1) hC rfl; have k2 := cellOf (j := 2) hC rfl; have k3 := cellOf (j := 3) hC rfl; have k4 := cellOf (j := 4) hC rfl; have k5 := cellOf (j := 5) hC rfl; have HC1 := hide hC; clear hb1 hC)
    | (go_at_call 65; refine (HN.out _ HB1.out).mono ?_; rintro e w2 ⟨rfl, hb2⟩; rw [hn]; have HB2 : Hid (Below w.heap.size w w2) := HB1.out.trans (hb2.mono HB1.out.size); have hC := (hb2.block _ (ltOf HC1.out)).trans HC1.out; have q3 := cellOf (j := 3) hC rfl; have q4 := cellOf (j := 4) hC rfl; have q5 := cellOf (j := 5) hC rfl; clear hb2 hC))
  go_ret
  exact ⟨rfl, HB2.out⟩

set_option maxRecDepth 8000 in
set_option maxHeartbeats 2000000 in
theorem nd_5 (U : Utf validB Tabs) (w : World) (hT : Tabs w) (mx : Int) (hm : w.cell? ⟨4, 0, none⟩ = some (.int .i64 mx)) (h4 : 4 < w.heap.size) (x : Orch.Node) (hps : x.path.size ≤ 140737488355328) (hds : x.data.size ≤ 140737488355328) (hp : isPa x.path = true) (hd : (x.data.size : Int) ≤ 40) (hn : isNt x.note = true) (h5 : 0 ≤ x.made) (h6 : x.made ≤ x.changed) (h7 : ¬ 0 ≤ x.version) :
    Calls Tryd.prog 53 #[ndv x.path x.data x.note x.made x.changed x.version] w fun e w' => e = .returned (.bool false) ∧ Below w.heap.size w w' := by
  obtain ⟨p, d, t, m, c, v⟩ := x
  have hn0 := heap_alloc_new w (.cells #[.string p, .string d, .string t, .int .i64 m, .int .i64 c, .int .i64 v] 69)
  have hb0 := below1 w (.cells #[.string p, .string d, .string t, .int .i64 m, .int .i64 c, .int .i64 v] 69)
  have HP := hide (isPath_any _ mx ((hb0.cell (p := ⟨4, 0, none⟩) h4).trans hm) p hps)
  have HN : Hid (∀ W, Below w.heap.size w W → Calls Tryd.prog 65 #[.string t] W fun e w' => e = .returned (.bool (isNt t)) ∧ Below W.heap.size W w') := fun W h => isNote_any U W (U.kept (U.size hT) h hT) t
  have HB0 := hide hb0
  have HN0 := hide hn0
  have HSZ : Hid (w.heap.size < (w.alloc (.cells #[.string p, .string d, .string t, .int .i64 m, .int .i64 c, .int .i64 v] 69)).heap.size) := by show _ < _; simp
  clear hb0 hn0
  go_enter Tryd.func53, Tryd.ntmps53
  go_wp2_with (first
    | (go_at_call 64; refine HP.out.mono ?_; rintro e w1 ⟨rfl, hb1⟩; rw [hp]; have HB1 : Hid (Below w.heap.size w w1) := HB0.out.trans (hb1.mono (Nat.le_of_lt HSZ.out)); have hC := (hb1.block _ HSZ.out).trans HN0.out; have k1 := cellOf (j := 1) hC rfl; have k2 := cellOf (j := 2) hC rfl; have k3 := cellOf (j := 3) hC rfl; have k4 := cellOf (j := 4) hC rfl; have k5 := cellOf (j := 5) hC rfl; have HC1 := hide hC; clear hb1 hC)
    | (go_at_call 65; refine (HN.out _ HB1.out).mono ?_; rintro e w2 ⟨rfl, hb2⟩; rw [hn]; have HB2 : Hid (Below w.heap.size w w2) := HB1.out.trans (hb2.mono HB1.out.size); have hC := (hb2.block _ (ltOf HC1.out)).trans HC1.out; have q3 := cellOf (j := 3) hC rfl; have q4 := cellOf (j := 4) hC rfl; have q5 := cellOf (j := 5) hC rfl; clear hb2 hC))
  go_ret
  exact ⟨rfl, HB2.out⟩

set_option maxRecDepth 8000 in
set_option maxHeartbeats 2000000 in
theorem nd_6 (U : Utf validB Tabs) (w : World) (hT : Tabs w) (mx : Int) (hm : w.cell? ⟨4, 0, none⟩ = some (.int .i64 mx)) (h4 : 4 < w.heap.size) (x : Orch.Node) (hps : x.path.size ≤ 140737488355328) (hds : x.data.size ≤ 140737488355328) (hp : isPa x.path = true) (hd : (x.data.size : Int) ≤ 40) (hn : isNt x.note = true) (h5 : 0 ≤ x.made) (h6 : x.made ≤ x.changed) (h7 : 0 ≤ x.version) (h8 : ¬ x.version ≤ 2147483647) :
    Calls Tryd.prog 53 #[ndv x.path x.data x.note x.made x.changed x.version] w fun e w' => e = .returned (.bool false) ∧ Below w.heap.size w w' := by
  obtain ⟨p, d, t, m, c, v⟩ := x
  have hn0 := heap_alloc_new w (.cells #[.string p, .string d, .string t, .int .i64 m, .int .i64 c, .int .i64 v] 69)
  have hb0 := below1 w (.cells #[.string p, .string d, .string t, .int .i64 m, .int .i64 c, .int .i64 v] 69)
  have HP := hide (isPath_any _ mx ((hb0.cell (p := ⟨4, 0, none⟩) h4).trans hm) p hps)
  have HN : Hid (∀ W, Below w.heap.size w W → Calls Tryd.prog 65 #[.string t] W fun e w' => e = .returned (.bool (isNt t)) ∧ Below W.heap.size W w') := fun W h => isNote_any U W (U.kept (U.size hT) h hT) t
  have HB0 := hide hb0
  have HN0 := hide hn0
  have HSZ : Hid (w.heap.size < (w.alloc (.cells #[.string p, .string d, .string t, .int .i64 m, .int .i64 c, .int .i64 v] 69)).heap.size) := by show _ < _; simp
  clear hb0 hn0
  go_enter Tryd.func53, Tryd.ntmps53
  go_wp2_with (first
    | (go_at_call 64; refine HP.out.mono ?_; rintro e w1 ⟨rfl, hb1⟩; rw [hp]; have HB1 : Hid (Below w.heap.size w w1) := HB0.out.trans (hb1.mono (Nat.le_of_lt HSZ.out)); have hC := (hb1.block _ HSZ.out).trans HN0.out; have k1 := cellOf (j := 1) hC rfl; have k2 := cellOf (j := 2) hC rfl; have k3 := cellOf (j := 3) hC rfl; have k4 := cellOf (j := 4) hC rfl; have k5 := cellOf (j := 5) hC rfl; have HC1 := hide hC; clear hb1 hC)
    | (go_at_call 65; refine (HN.out _ HB1.out).mono ?_; rintro e w2 ⟨rfl, hb2⟩; rw [hn]; have HB2 : Hid (Below w.heap.size w w2) := HB1.out.trans (hb2.mono HB1.out.size); have hC := (hb2.block _ (ltOf HC1.out)).trans HC1.out; have q3 := cellOf (j := 3) hC rfl; have q4 := cellOf (j := 4) hC rfl; have q5 := cellOf (j := 5) hC rfl; clear hb2 hC))
  go_ret
  exact ⟨ret_bool (decide_eq_false (by omega)), HB2.out⟩

set_option maxRecDepth 8000 in
set_option maxHeartbeats 2000000 in
theorem nd_7 (U : Utf validB Tabs) (w : World) (hT : Tabs w) (mx : Int) (hm : w.cell? ⟨4, 0, none⟩ = some (.int .i64 mx)) (h4 : 4 < w.heap.size) (x : Orch.Node) (hps : x.path.size ≤ 140737488355328) (hds : x.data.size ≤ 140737488355328) (hp : isPa x.path = true) (hd : (x.data.size : Int) ≤ 40) (hn : isNt x.note = true) (h5 : 0 ≤ x.made) (h6 : x.made ≤ x.changed) (h7 : 0 ≤ x.version) (h8 : x.version ≤ 2147483647) :
    Calls Tryd.prog 53 #[ndv x.path x.data x.note x.made x.changed x.version] w fun e w' => e = .returned (.bool true) ∧ Below w.heap.size w w' := by
  obtain ⟨p, d, t, m, c, v⟩ := x
  have hn0 := heap_alloc_new w (.cells #[.string p, .string d, .string t, .int .i64 m, .int .i64 c, .int .i64 v] 69)
  have hb0 := below1 w (.cells #[.string p, .string d, .string t, .int .i64 m, .int .i64 c, .int .i64 v] 69)
  have HP := hide (isPath_any _ mx ((hb0.cell (p := ⟨4, 0, none⟩) h4).trans hm) p hps)
  have HN : Hid (∀ W, Below w.heap.size w W → Calls Tryd.prog 65 #[.string t] W fun e w' => e = .returned (.bool (isNt t)) ∧ Below W.heap.size W w') := fun W h => isNote_any U W (U.kept (U.size hT) h hT) t
  have HB0 := hide hb0
  have HN0 := hide hn0
  have HSZ : Hid (w.heap.size < (w.alloc (.cells #[.string p, .string d, .string t, .int .i64 m, .int .i64 c, .int .i64 v] 69)).heap.size) := by show _ < _; simp
  clear hb0 hn0
  go_enter Tryd.func53, Tryd.ntmps53
  go_wp2_with (first
    | (go_at_call 64; refine HP.out.mono ?_; rintro e w1 ⟨rfl, hb1⟩; rw [hp]; have HB1 : Hid (Below w.heap.size w w1) := HB0.out.trans (hb1.mono (Nat.le_of_lt HSZ.out)); have hC := (hb1.block _ HSZ.out).trans HN0.out; have k1 := cellOf (j := 1) hC rfl; have k2 := cellOf (j := 2) hC rfl; have k3 := cellOf (j := 3) hC rfl; have k4 := cellOf (j := 4) hC rfl; have k5 := cellOf (j := 5) hC rfl; have HC1 := hide hC; clear hb1 hC)
    | (go_at_call 65; refine (HN.out _ HB1.out).mono ?_; rintro e w2 ⟨rfl, hb2⟩; rw [hn]; have HB2 : Hid (Below w.heap.size w w2) := HB1.out.trans (hb2.mono HB1.out.size); have hC := (hb2.block _ (ltOf HC1.out)).trans HC1.out; have q3 := cellOf (j := 3) hC rfl; have q4 := cellOf (j := 4) hC rfl; have q5 := cellOf (j := 5) hC rfl; clear hb2 hC))
  go_ret
  exact ⟨rfl, HB2.out⟩

theorem isNode_any (U : Utf validB Tabs) (w : World) (hT : Tabs w) (mx : Int) (hm : w.cell? ⟨4, 0, none⟩ = some (.int .i64 mx)) (h4 : 4 < w.heap.size) (x : Orch.Node) (hps : x.path.size ≤ 140737488355328) (hds : x.data.size ≤ 140737488355328) :
    Calls Tryd.prog 53 #[ndv x.path x.data x.note x.made x.changed x.version] w fun e w' => e = .returned (.bool (isNd x)) ∧ Below w.heap.size w w' := by
  unfold isNd
  cases hp : isPa x.path with
  | false => exact nd_0 U w hT mx hm h4 x hps hds hp
  | true =>
    by_cases hd : (x.data.size : Int) ≤ 40
    · rw [decide_eq_true (show x.data.size ≤ 40 by omega)]
      cases hn : isNt x.note with
      | false => exact nd_2 U w hT mx hm h4 x hps hds hp hd hn
      | true =>
        by_cases h5 : 0 ≤ x.made
        · rw [decide_eq_true h5]
          by_cases h6 : x.made ≤ x.changed
          · rw [decide_eq_true h6]
            by_cases h7 : 0 ≤ x.version
            · rw [decide_eq_true h7]
              by_cases h8 : x.version ≤ 2147483647
              · rw [decide_eq_true h8]
                exact nd_7 U w hT mx hm h4 x hps hds hp hd hn h5 h6 h7 h8
              · rw [decide_eq_false h8]
                exact nd_6 U w hT mx hm h4 x hps hds hp hd hn h5 h6 h7 h8
            · rw [decide_eq_false h7]
              exact nd_5 U w hT mx hm h4 x hps hds hp hd hn h5 h6 h7
          · rw [decide_eq_false h6]
            exact nd_4 U w hT mx hm h4 x hps hds hp hd hn h5 h6
        · rw [decide_eq_false h5]
          exact nd_3 U w hT mx hm h4 x hps hds hp hd hn h5
    · rw [decide_eq_false (show ¬ x.data.size ≤ 40 by omega)]
      exact nd_1 U w hT mx hm h4 x hps hds hp hd
end
end Go.Proofs.YtbnoghkijgmcgaaDoor
