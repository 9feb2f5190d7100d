/- Each, up to its go statement. -/
import Derived.Test.YtlghcldiboecoaaGreatDoorQ20
import Derived.Test.YtlghcldiboecoaaGreatDoorQ36
import Derived.Conc.SmallLaws
set_option linter.unusedVariables false
set_option linter.unusedSimpArgs false
set_option maxRecDepth 100000
namespace Go.Pair
open Go Go.Conc
/-- The world is w0 with these objects behind. -/
structure PV (w0 : World) (os : List Obj) (w : World) : Prop where
  size : w.heap.size = w0.heap.size + os.length
  old : ∀ i, i < w0.heap.size → w.heap[i]? = w0.heap[i]?
  new : ∀ j o, os[j]? = some o → w.heap[w0.heap.size + j]? = some o

section
variable {w0 w w₁ : World} {os : List Obj}
theorem PV.start (w : World) : PV w [] w := ⟨rfl, fun _ _ => rfl, fun j o h => by simp at h⟩
theorem PV.rely (h : PV w0 os w) (r : AtRel w w₁) : PV w0 os w₁ := by
  obtain ⟨d, rfl⟩ := r
  exact ⟨h.size, h.old, h.new⟩

theorem PV.push (h : PV w0 os w) (o : Obj) : PV w0 (os ++ [o]) (w.alloc o) := by
  have hh : (w.alloc o).heap = w.heap.push o := rfl
  refine ⟨by rw [hh, Array.size_push, h.size]; simp; omega, fun i hi => ?_, fun j x hx => ?_⟩
  · rw [hh, Array.getElem?_push, if_neg (by have := h.size; omega)]
    exact h.old i hi
  · rcases Nat.lt_or_ge j os.length with hj | hj
    · rw [List.getElem?_append_left hj] at hx
      rw [hh, Array.getElem?_push, if_neg (by have := h.size; omega)]
      exact h.new j x hx
    · rw [List.getElem?_append_right hj] at hx
      have hj0 : j - os.length = 0 := by
        have := (List.getElem?_eq_some_iff.1 hx).1
        simp at this
        omega
      rw [hj0] at hx
      simp at hx
      rw [hh, Array.getElem?_push, if_pos (by have := h.size; omega), hx]

theorem PV.set (h : PV w0 os w) {j i : Nat} {cur : Array Value} {t : TypeId} (ho : os[j]? = some (.cells cur t)) (x : Value) : PV w0 (os.set j (.cells (cur.setIfInBounds i x) t)) (w.setCell ⟨w0.heap.size + j, i, none⟩ x) := by
  refine ⟨by rw [set_size, h.size]; simp, fun k hk => by rw [set_other _ _ (show k ≠ w0.heap.size + j by omega)]; exact h.old k hk, fun k o hk => ?_⟩
  by_cases e : k = j
  · subst e
    have hlt := (List.getElem?_eq_some_iff.1 ho).1
    rw [List.getElem?_set_self hlt] at hk
    cases hk
    rw [setCell_row (h.new k _ ho)]
  · rw [List.getElem?_set_ne (by omega)] at hk
    rw [set_other _ _ (show w0.heap.size + k ≠ w0.heap.size + j by omega)]
    exact h.new k o hk

theorem PV.cell (h : PV w0 os w) {j i : Nat} {cur : Array Value} {t : TypeId} {x : Value} (ho : os[j]? = some (.cells cur t)) (hx : cur[i]? = some x) : w.cell? ⟨w0.heap.size + j, i, none⟩ = some x := by
  simp [World.cell?, h.new j _ ho, hx]

theorem PV.fz (h : PV w0 os w) {j i : Nat} {cur : Array Value} {t : TypeId} (ho : os[j]? = some (.cells cur t)) : w.frozen? ⟨w0.heap.size + j, i, none⟩ = false := by
  simp [World.frozen?, h.new j _ ho]

theorem PV.cellOld (h : PV w0 os w) {i j : Nat} {cur : Array Value} {t : TypeId} {x : Value} (ho : w0.heap[i]? = some (.cells cur t)) (hx : cur[j]? = some x) : w.cell? ⟨i, j, none⟩ = some x := by
  have := h.old i (lt_of_get ho)
  rw [ho] at this
  simp [World.cell?, this, hx]

end
end Go.Pair
namespace Go.Proofs.YtlghcldiboecoaaGreatDoor.Cu
open Go Go.Conc Go.Pair Go.RowKit

/-- What is shunned lies in WaitGroups. -/
def ShunW (Shun : Loc → Prop) (w : World) : Prop := ∀ l, Shun l → ∃ a : Addr, l = .cell a ∧ kindAt w a.block 271

theorem ShunW.not {Shun : Loc → Prop} {w : World} (h : ShunW Shun w) {i j : Nat} {o : Obj} (ho : w.heap[i]? = some o) (hk : kindOf o ≠ some 271) : ¬ Shun (.cell ⟨i, j, none⟩) := fun hs => by
  obtain ⟨a, e, o', h1, h2⟩ := h _ hs
  cases e
  rw [ho] at h1
  cases h1
  exact hk h2

theorem ShunW.new {Shun : Loc → Prop} {w : World} (h : ShunW Shun w) {i j : Nat} (hi : w.heap.size ≤ i) : ¬ Shun (.cell ⟨i, j, none⟩) := fun hs => by
  obtain ⟨a, e, o', h1, h2⟩ := h _ hs
  cases e
  have := lt_of_get h1
  simp at this
  omega

section
variable {Post : Value → World → Prop} {Shun : Loc → Prop} {w w₁ : World} {fr : Frame} {cs : List Frame} {R Vb : Nat} {v bsl : Value}

theorem ds_alloc (w : World) (o : Obj) : DS Shun w (w.alloc o) #[] := ⟨by show w.heap.size ≤ (w.heap.push o).size; rw [Array.size_push]; omega, by simp, rfl, rfl⟩
theorem ds_read {w : World} {es : Array Event} (h : ∀ e ∈ es, EvL Shun w.heap.size e) : DS Shun w w es := ⟨Nat.le_refl _, h, rfl, rfl⟩
theorem ds_set {w : World} {a : Addr} {x : Value} {es : Array Event} (h : ∀ e ∈ es, EvL Shun w.heap.size e) : DS Shun w (w.setCell a x) es := ⟨by rw [set_size]; exact Nat.le_refl _, by rw [set_size]; exact h, rfl, rfl⟩

theorem un49 : ∃ d, Tryz.prog.underlying 261 = some (.chan d 57) := ⟨_, Tryz.underlying261⟩
theorem mk49 (w : World) : (Instr.makeChan 261 (.int .i64 0)).run Tryz.prog w = .ok (.chan (some w.heap.size)) (w.alloc (.chan 0 #[] false 0 0 false)) := by
  obtain ⟨d, hd⟩ := un49
  obtain ⟨i0, hi, hz0, hz1, hz2⟩ := info25
  exact run_makeChan hd hi .i64 0 (by omega) (by omega)

theorem mk49e (w : World) (es : Array Event) : (Instr.makeChan 261 (.int .i64 0)).events Tryz.prog w es = es := by
  obtain ⟨d, hd⟩ := un49
  obtain ⟨i0, hi, hz0, hz1, hz2⟩ := info25
  exact events_makeChan hd hi .i64 0 (by omega) (by omega) es

/-- The frame's slots at the call of Add. -/
noncomputable def A12 (R N Vb : Nat) (bsl x15 : Value) : Act :=
  { tmps := #[.pointer (some ⟨R, 0, none⟩), bsl, clo Vb, .pointer (some ⟨N, 0, none⟩), .pointer (some ⟨N + 1, 0, none⟩), undef, .bool false, .pointer (some ⟨N + 3, 0, none⟩), .pointer (some ⟨N + 4, 0, none⟩), undef, .pointer (some ⟨R, 0, none⟩), .pointer (some ⟨R, 0, none⟩), .pointer (some ⟨R, 1, none⟩), .bool false, .chan (some (N + 2)), x15, undef, undef, undef, undef, undef, undef, undef, undef, undef, undef, undef, undef, undef, undef], defers := [] }

noncomputable def r5 : Code := Code.one (Code.two (Code.two (Code.two (Code.two body12))))
noncomputable def aft5 : Code := Code.two (Code.two (Code.two (Code.two (Code.two body12))))
noncomputable def ops5 : Array Oper := Code.ops r5
/-- The five new objects. -/
def fresh5 (R N : Nat) (bsl : Value) (st : Int) : List Obj := [.cells #[.pointer (some ⟨R, 0, none⟩)] 260, .cells #[bsl] 57, .chan 0 #[] false 0 0 false, .cells #[.chan (some (N + 2))] 261, wgO 271 st 0]

set_option maxRecDepth 100000 in
set_option maxHeartbeats 1000000 in
/-- A length that is too great has come earlier: nothing is read. -/
theorem each_closed (hS : ShunW Shun w) (hr : w.heap[R]? = some (.cells #[v, .bool true] 237)) {ba : Option Addr} {bl cap : Nat}
    (hnext : ∀ w', PV w [.cells #[.pointer (some ⟨R, 0, none⟩)] 260, .cells #[.slice ba bl cap] 57] w' → EA Tryz.prog Post Shun (G (fr.finish (.bool false)) cs) w') :
    EA Tryz.prog Post Shun (G ((base 118).at { tmps := #[.pointer (some ⟨R, 0, none⟩), .slice ba bl cap, clo Vb] ++ Array.replicate 27 undef, defers := [] } [.code body12]) (fr :: cs)) w := by
  have T := termsS Shun
  have hF := PV.start w
  generalize hw0 : w = w0 at hS hr hnext
  rw [hw0] at hF
  refine EA.goes (n := 30) ?_
  simp only [Array.replicate_succ, Array.replicate_zero, List.push_toArray, List.append_toArray, List.nil_append, List.cons_append]
  simp only [body12, Tryz.f118, Option.getD_some]
  refine goes_ctl T rfl (fun _ => stepG_seq) ?_
  refine goes_ctl T rfl (fun _ => stepG_region) ?_
  simp only [List.size_toArray, List.length_cons, List.length_nil, Nat.reduceAdd, Nat.zero_add, List.range, List.range.loop]
  refine goes_op rfl (by rfl) (by decide) fun _ hRz Kz hKz => ?_
  replace hF := PV.rely hF hRz
  clear hRz
  (skip)
  go_simp
  try (unfold stored; go_simp)
  refine hKz _ _ ⟨?_, ?_⟩
  · (rw [listed_nil (by simp [go_sem])]; exact ds_alloc _ _)
  clear hKz Kz
  try walk_nrm
  simp only [hF.size, List.length_nil, Nat.add_zero]
  replace hF := hF.push (.cells #[.pointer (some ⟨R, 0, none⟩)] 260)
  refine goes_op rfl (by rfl) (by decide) fun _ hRz Kz hKz => ?_
  replace hF := PV.rely hF hRz
  clear hRz
  (skip)
  go_simp
  try (unfold stored; go_simp)
  refine hKz _ _ ⟨?_, ?_⟩
  · (rw [listed_nil (by simp [go_sem])]; exact ds_alloc _ _)
  clear hKz Kz
  try walk_nrm
  simp only [hF.size, List.length_nil, List.nil_append, List.length_cons, Nat.zero_add]
  replace hF := hF.push (.cells #[.slice ba bl cap] 57)
  simp only [List.nil_append, List.cons_append] at hF
  refine goes_op rfl (by rfl) (by decide) fun _ hRz Kz hKz => ?_
  replace hF := PV.rely hF hRz
  clear hRz
  (skip)
  go_simp
  try (unfold stored; go_simp)
  refine hKz _ _ ⟨?_, ?_⟩
  · (co_quiet T)
  clear hKz Kz
  try walk_nrm
  refine goes_ctl T rfl (fun _ => stepG_region_end) ?_
  refine goes_ctl T rfl (fun _ => stepG_seq) ?_
  refine goes_ctl T rfl (fun _ => stepG_seq) ?_
  refine goes_ctl T rfl (fun _ => stepG_region) ?_
  simp only [List.size_toArray, List.length_cons, List.length_nil, Nat.reduceAdd, Nat.zero_add, List.range, List.range.loop]
  have e0 : w0.heap.size + 0 = w0.heap.size := rfl
  refine goes_op rfl (by rfl) (by decide) fun _ hRz Kz hKz => ?_
  replace hF := PV.rely hF hRz
  clear hRz
  (have hc := hF.cell (j := 0) (i := 0) rfl rfl; rw [e0] at hc)
  go_simp
  try (unfold stored; go_simp)
  refine hKz _ _ ⟨?_, ?_⟩
  · (refine ds_read ?_; co_evs (exact evL_cell (hS.new (Nat.le_refl _)) (by have := hF.size; simp at this; show _ < _; simp; omega)))
  clear hKz Kz
  try walk_nrm
  clear hc
  refine goes_op rfl (by rfl) (by decide) fun _ hRz Kz hKz => ?_
  replace hF := PV.rely hF hRz
  clear hRz
  (skip)
  go_simp
  try (unfold stored; go_simp)
  refine hKz _ _ ⟨?_, ?_⟩
  · (co_quiet T)
  clear hKz Kz
  try walk_nrm
  refine goes_op rfl (by rfl) (by decide) fun _ hRz Kz hKz => ?_
  replace hF := PV.rely hF hRz
  clear hRz
  (skip)
  go_simp
  try (unfold stored; go_simp)
  refine hKz _ _ ⟨?_, ?_⟩
  · (co_quiet T)
  clear hKz Kz
  try walk_nrm
  refine goes_op rfl (by rfl) (by decide) fun _ hRz Kz hKz => ?_
  replace hF := PV.rely hF hRz
  clear hRz
  (have hc := hF.cellOld (j := 1) hr rfl)
  go_simp
  try (unfold stored; go_simp)
  refine hKz _ _ ⟨?_, ?_⟩
  · (refine ds_read ?_; co_evs (exact evL_cell (hS.not hr (by simp [kindOf])) (by have := hF.size; have := lt_of_get hr; show _ < _; simp; omega)))
  clear hKz Kz
  try walk_nrm
  clear hc
  refine goes_ctl T rfl (fun _ => stepG_region_end) ?_
  refine goes_ctl T rfl (fun _ => (stepG_cond (t := true) rfl)) ?_
  simp only [if_true]
  refine goes_ctl T rfl (fun _ => stepG_seq) ?_
  refine goes_ctl T rfl (fun _ => stepG_region) ?_
  simp only [List.size_toArray, List.length_cons, List.length_nil, Nat.reduceAdd, Nat.zero_add, List.range, List.range.loop]
  refine goes_op rfl (by rfl) (by decide) fun _ hRz Kz hKz => ?_
  replace hF := PV.rely hF hRz
  clear hRz
  (skip)
  go_simp
  try (unfold stored; go_simp)
  refine hKz _ _ ⟨?_, ?_⟩
  · (co_quiet T)
  clear hKz Kz
  try walk_nrm
  refine goes_ctl T rfl (fun _ => stepG_region_end) ?_
  refine goes_ctl T rfl (fun _ => stepG_ret') ?_
  refine goes_ctl T rfl (fun w => stepG_leave (v := .bool false) rfl rfl Tryz.func118 (results_tmp (t := 6) (by rfl) _ _ _) (events_results_tmp (t := 6) (by rfl) _ _)) ?_
  exact EA.stop (hnext _ hF)

set_option maxRecDepth 100000 in
set_option maxHeartbeats 1000000 in
/-- Up to the call of Add. -/
theorem each_open (hS : ShunW Shun w) (hr : w.heap[R]? = some (.cells #[v, .bool false] 237)) {ba : Option Addr} {bl cap : Nat}
    (hnext : ∀ w', PV w (fresh5 R w.heap.size (.slice ba bl cap) 0) w' → EA Tryz.prog Post Shun (G ((base 118).at (A12 R w.heap.size Vb (.slice ba bl cap) undef) [.inRegion ops5 [0], .code aft5]) (fr :: cs)) w') :
    EA Tryz.prog Post Shun (G ((base 118).at { tmps := #[.pointer (some ⟨R, 0, none⟩), .slice ba bl cap, clo Vb] ++ Array.replicate 27 undef, defers := [] } [.code body12]) (fr :: cs)) w := by
  have T := termsS Shun
  have hF := PV.start w
  generalize hw0 : w = w0 at hS hr hnext
  rw [hw0] at hF
  refine EA.goes (n := 30) ?_
  simp only [Array.replicate_succ, Array.replicate_zero, List.push_toArray, List.append_toArray, List.nil_append, List.cons_append]
  simp only [body12, Tryz.f118, Option.getD_some]
  refine goes_ctl T rfl (fun _ => stepG_seq) ?_
  refine goes_ctl T rfl (fun _ => stepG_region) ?_
  simp only [List.size_toArray, List.length_cons, List.length_nil, Nat.reduceAdd, Nat.zero_add, List.range, List.range.loop]
  refine goes_op rfl (by rfl) (by decide) fun _ hRz Kz hKz => ?_
  replace hF := PV.rely hF hRz
  clear hRz
  (skip)
  go_simp
  try (unfold stored; go_simp)
  refine hKz _ _ ⟨?_, ?_⟩
  · (rw [listed_nil (by simp [go_sem])]; exact ds_alloc _ _)
  clear hKz Kz
  try walk_nrm
  simp only [hF.size, List.length_nil, Nat.add_zero]
  replace hF := hF.push (.cells #[.pointer (some ⟨R, 0, none⟩)] 260)
  refine goes_op rfl (by rfl) (by decide) fun _ hRz Kz hKz => ?_
  replace hF := PV.rely hF hRz
  clear hRz
  (skip)
  go_simp
  try (unfold stored; go_simp)
  refine hKz _ _ ⟨?_, ?_⟩
  · (rw [listed_nil (by simp [go_sem])]; exact ds_alloc _ _)
  clear hKz Kz
  try walk_nrm
  simp only [hF.size, List.length_nil, List.nil_append, List.length_cons, Nat.zero_add]
  replace hF := hF.push (.cells #[.slice ba bl cap] 57)
  simp only [List.nil_append, List.cons_append] at hF
  refine goes_op rfl (by rfl) (by decide) fun _ hRz Kz hKz => ?_
  replace hF := PV.rely hF hRz
  clear hRz
  (skip)
  go_simp
  try (unfold stored; go_simp)
  refine hKz _ _ ⟨?_, ?_⟩
  · (co_quiet T)
  clear hKz Kz
  try walk_nrm
  refine goes_ctl T rfl (fun _ => stepG_region_end) ?_
  refine goes_ctl T rfl (fun _ => stepG_seq) ?_
  refine goes_ctl T rfl (fun _ => stepG_seq) ?_
  refine goes_ctl T rfl (fun _ => stepG_region) ?_
  simp only [List.size_toArray, List.length_cons, List.length_nil, Nat.reduceAdd, Nat.zero_add, List.range, List.range.loop]
  have e0 : w0.heap.size + 0 = w0.heap.size := rfl
  refine goes_op rfl (by rfl) (by decide) fun _ hRz Kz hKz => ?_
  replace hF := PV.rely hF hRz
  clear hRz
  (have hc := hF.cell (j := 0) (i := 0) rfl rfl; rw [e0] at hc)
  go_simp
  try (unfold stored; go_simp)
  refine hKz _ _ ⟨?_, ?_⟩
  · (refine ds_read ?_; co_evs (exact evL_cell (hS.new (Nat.le_refl _)) (by have := hF.size; simp at this; show _ < _; simp; omega)))
  clear hKz Kz
  try walk_nrm
  clear hc
  refine goes_op rfl (by rfl) (by decide) fun _ hRz Kz hKz => ?_
  replace hF := PV.rely hF hRz
  clear hRz
  (skip)
  go_simp
  try (unfold stored; go_simp)
  refine hKz _ _ ⟨?_, ?_⟩
  · (co_quiet T)
  clear hKz Kz
  try walk_nrm
  refine goes_op rfl (by rfl) (by decide) fun _ hRz Kz hKz => ?_
  replace hF := PV.rely hF hRz
  clear hRz
  (skip)
  go_simp
  try (unfold stored; go_simp)
  refine hKz _ _ ⟨?_, ?_⟩
  · (co_quiet T)
  clear hKz Kz
  try walk_nrm
  refine goes_op rfl (by rfl) (by decide) fun _ hRz Kz hKz => ?_
  replace hF := PV.rely hF hRz
  clear hRz
  (have hc := hF.cellOld (j := 1) hr rfl)
  go_simp
  try (unfold stored; go_simp)
  refine hKz _ _ ⟨?_, ?_⟩
  · (refine ds_read ?_; co_evs (exact evL_cell (hS.not hr (by simp [kindOf])) (by have := hF.size; have := lt_of_get hr; show _ < _; simp; omega)))
  clear hKz Kz
  try walk_nrm
  clear hc
  refine goes_ctl T rfl (fun _ => stepG_region_end) ?_
  refine goes_ctl T rfl (fun _ => (stepG_cond (t := false) rfl)) ?_
  simp only [Bool.false_eq_true, if_false]
  refine goes_ctl T rfl (fun _ => stepG_skip) ?_
  refine goes_ctl T rfl (fun _ => stepG_seq) ?_
  refine goes_ctl T rfl (fun _ => stepG_region) ?_
  simp only [List.size_toArray, List.length_cons, List.length_nil, Nat.reduceAdd, Nat.zero_add, List.range, List.range.loop]
  refine goes_op rfl (by rfl) (by decide) fun _ hRz Kz hKz => ?_
  replace hF := PV.rely hF hRz
  clear hRz
  (have hmc := mk49; have hme := mk49e)
  go_simp
  try (unfold stored; go_simp)
  refine hKz _ _ ⟨?_, ?_⟩
  · (rw [listed_nil (by simp [go_sem, hme])]; exact ds_alloc _ _)
  clear hKz Kz
  try walk_nrm
  clear hmc hme
  simp only [hF.size, List.length_nil, List.length_cons, Nat.zero_add, Nat.reduceAdd]
  replace hF := hF.push (.chan 0 #[] false 0 0 false)
  simp only [List.nil_append, List.cons_append] at hF
  refine goes_op rfl (by rfl) (by decide) fun _ hRz Kz hKz => ?_
  replace hF := PV.rely hF hRz
  clear hRz
  (skip)
  go_simp
  try (unfold stored; go_simp)
  refine hKz _ _ ⟨?_, ?_⟩
  · (rw [listed_nil (by simp [go_sem])]; exact ds_alloc _ _)
  clear hKz Kz
  try walk_nrm
  simp only [hF.size, List.length_nil, List.length_cons, Nat.zero_add, Nat.reduceAdd]
  replace hF := hF.push (.cells #[.chan none] 261)
  simp only [List.nil_append, List.cons_append] at hF
  refine goes_op rfl (by rfl) (by decide) fun _ hRz Kz hKz => ?_
  replace hF := PV.rely hF hRz
  clear hRz
  (have hc := hF.cell (j := 3) (i := 0) rfl rfl; have hfz := hF.fz (j := 3) (i := 0) rfl)
  go_simp
  try (unfold stored; go_simp)
  refine hKz _ _ ⟨?_, ?_⟩
  · (refine ds_set ?_; co_evs (exact evL_cell (hS.new (by omega)) (by have := hF.size; simp at this; show _ < _; simp; omega)))
  clear hKz Kz
  try walk_nrm
  clear hc hfz
  replace hF := hF.set (j := 3) (i := 0) rfl (.chan (some (w0.heap.size + 2)))
  refine goes_ctl T rfl (fun _ => stepG_region_end) ?_
  refine goes_ctl T rfl (fun _ => stepG_seq) ?_
  refine goes_ctl T rfl (fun _ => stepG_region) ?_
  simp only [List.size_toArray, List.length_cons, List.length_nil, Nat.reduceAdd, Nat.zero_add, List.range, List.range.loop]
  refine goes_op rfl (by rfl) (by decide) fun _ hRz Kz hKz => ?_
  replace hF := PV.rely hF hRz
  clear hRz
  (skip)
  go_simp
  try (unfold stored; go_simp)
  refine hKz _ _ ⟨?_, ?_⟩
  · (rw [listed_nil (by simp [go_sem])]; exact ds_alloc _ _)
  clear hKz Kz
  try walk_nrm
  simp only [hF.size, List.length_nil, List.length_cons, List.length_set, Nat.zero_add, Nat.reduceAdd]
  replace hF := hF.push (wgO 271 0 0)
  refine goes_ctl T rfl (fun _ => stepG_region_end) ?_
  refine goes_ctl T rfl (fun _ => stepG_seq) ?_
  refine goes_ctl T rfl (fun w => stepG_region) ?_
  exact EA.stop (hnext _ hF)

end
end Go.Proofs.YtlghcldiboecoaaGreatDoor.Cu

/- Each: Add(1), the go statement, the pair, the end. -/
set_option linter.unusedVariables false
set_option linter.unusedSimpArgs false
set_option maxRecDepth 100000
namespace Go.Proofs.YtlghcldiboecoaaGreatDoor.Cu
open Go Go.Conc Go.Pair Go.RowKit
section
variable {Post : Value → World → Prop} {Shun : Loc → Prop} {w w0 w₁ : World} {fr : Frame} {cs : List Frame} {R Vb : Nat} {v bsl : Value}

theorem termsD0 : Terms AtRel Pair.D0 := ⟨atRel_trans, fun w => ⟨rfl, rfl⟩⟩

theorem each_add (hF : PV w0 (fresh5 R w0.heap.size bsl 0) w)
    (hnext : ∀ w', PV w0 (fresh5 R w0.heap.size bsl KK) w' → EA Tryz.prog Post Shun (G ((base 118).at (A12 R w0.heap.size Vb bsl (.tuple #[])) [.inRegion ops5 [], .code aft5]) (fr :: cs)) w') :
    EA Tryz.prog Post Shun (G ((base 118).at (A12 R w0.heap.size Vb bsl undef) [.inRegion ops5 [0], .code aft5]) (fr :: cs)) w := by
  intro d
  have hP : PV w0 (fresh5 R w0.heap.size bsl 0) (w.at d) := hF.rely ⟨d, rfl⟩
  have hwg : WgIs 271 (w0.heap.size + 4) (w.at d) 0 0 := hP.new 4 _ rfl
  refine ends_add (Wg := w0.heap.size + 4) (Ret := G ((base 118).at (A12 R w0.heap.size Vb bsl (.tuple #[])) [.inRegion ops5 [], .code aft5]) (fr :: cs)) (lt_of_get hwg) (fun w' r => ?_) (n := 100 + 1) ?_
  · have := hP.set (j := 4) (i := 0) rfl (.int .u64 KK)
    exact (hnext _ (this.rely r)).from (by obtain ⟨e, rfl⟩ := r; exact ⟨rfl, rfl⟩)
  · refine Goes.step rfl fun w₁ r => goes_call (f := 158) (fn := Lib.addFn Tryz.link) (c := bodyAdd Tryz.link) rfl (by rfl) (by decide) rfl Tryz.wgLib.f_add (by rfl) (by rfl) ⟨termsD0.idle _, ?_⟩
    have e : Array.map (A12 R w0.heap.size Vb bsl undef).eval #[Operand.tmp 8, Operand.const (Value.int IntKind.i64 1)] = #[.pointer (some ⟨w0.heap.size + 4, 0, none⟩), .int .i64 1] := by simp [Act.eval, A12]
    rw [e]
    exact addPos Tryz.wgLib (Wg := w0.heap.size + 4) (b₀ := base 118) (a₀ := A12 R w0.heap.size Vb bsl undef) (ops₀ := ops5) (i₀ := 0) (rest₀ := []) (k₀ := [.code aft5]) (cs := fr :: cs) w₁ (wg_rel hwg r)

end
end Go.Proofs.YtlghcldiboecoaaGreatDoor.Cu

/- Each whole: the pair between its go statement and its return. -/
set_option linter.unusedVariables false
set_option linter.unusedSimpArgs false
set_option maxRecDepth 100000
namespace Go.Proofs.YtlghcldiboecoaaGreatDoor.Cu
open Go Go.Conc Go.Pair Go.RowKit

theorem ShunW.notA {Shun : Loc → Prop} {w : World} (h : ShunW Shun w) {a : Addr} {o : Obj} (ho : w.heap[a.block]? = some o) (hk : kindOf o ≠ some 271) : ¬ Shun (.cell a) := fun hs => by
  obtain ⟨a', e, o', h1, h2⟩ := h _ hs
  cases e
  rw [ho] at h1
  cases h1
  exact hk h2

theorem ShunW.newA {Shun : Loc → Prop} {w : World} (h : ShunW Shun w) {a : Addr} (hi : w.heap.size ≤ a.block) : ¬ Shun (.cell a) := fun hs => by
  obtain ⟨a', e, o', h1, h2⟩ := h _ hs
  cases e
  have := lt_of_get h1
  omega

/-- What Each is handed. -/
structure EachIn (R Vb : Nat) (p bs : List UInt8) (v : Value) (ba : Option Addr) (cap : Nat) (Shun : Loc → Prop) (w : World) : Prop where
  r : w.heap[R]? = some (.cells #[v, .bool false] 237)
  part : RowIs w 5 (bc p) v
  vb : w.heap[Vb]? = some (.cells #[.slice none 0 0] 122)
  src : bs = [] ∨ ∃ x o cs, ba = some ⟨x, o, none⟩ ∧ w.heap[x]? = some (.cells cs 5) ∧ (∀ i (h : i < bs.length), cs[o + i]? = some (.int .u8 (bs[i].toNat : Int))) ∧ bs.length ≤ cap ∧ cap ≤ maxLen ∧ v.ownBlock ≠ some x
  shun : ShunW Shun w

/-- What it leaves. -/
structure EachOut (w0 : World) (R Vb : Nat) (v : Value) (bodies : List (List UInt8)) (q : List UInt8) (t : Bool) (v' : Value) (sent : List (List UInt8 × Value)) (lv : Value) (S0 Shun : Loc → Prop) (w : World) : Prop where
  size : w0.heap.size ≤ w.heap.size
  r : w.heap[R]? = some (.cells #[v', .bool t] 237)
  part : RowIs w 5 (bc q) v'
  own : ∀ g, v'.ownBlock = some g → v.ownBlock = some g ∨ w0.heap.size ≤ g
  told : sent.map (·.1) = bodies
  vb : w.heap[Vb]? = some (.cells #[lv] 122)
  list : RowIs w 57 (sent.map (·.2)) lv
  lown : ∀ g, lv.ownBlock = some g → w0.heap.size ≤ g
  msg : ∀ x ∈ sent, ∃ r, w0.heap.size ≤ r ∧ x.2 = .slice (some ⟨r, 0, none⟩) x.1.length x.1.length ∧ w.heap[r]? = some (.cells (bc x.1).toArray 5) ∧ v'.ownBlock ≠ some r
  keep : ∀ i, i < w0.heap.size → i ≠ R → v.ownBlock ≠ some i → i ≠ Vb → w.heap[i]? = w0.heap[i]?
  shun : ShunW Shun w
  more : ∀ l, Shun l → S0 l ∨ ∃ a : Addr, l = .cell a ∧ w0.heap.size ≤ a.block
  dis : Dis sent

section
variable {Post : Value → World → Prop} {Shun : Loc → Prop} {w w0 w₁ w' : World} {fr : Frame} {cs : List Frame} {R Vb : Nat} {v : Value} {p bs : List UInt8} {ba : Option Addr} {cap : Nat}

/-- The pair's blocks. -/
noncomputable def theE (w0 w : World) (R Vb : Nat) (v : Value) (Shun : Loc → Prop) : EP :=
  { R, pb := v.ownBlock.getD R, Vb, Wg := w0.heap.size + 4, Ch := w0.heap.size + 2, Low := w0.heap.size + 5, Shun
    Fix := fun i => if i < w0.heap.size + 5 ∧ i ≠ R ∧ i ≠ v.ownBlock.getD R ∧ i ≠ Vb ∧ i ≠ w0.heap.size + 4 ∧ i ≠ w0.heap.size + 2 then w.heap[i]? else none }

theorem fix_of {i : Nat} {o : Obj} (h : (theE w0 w R Vb v Shun).Fix i = some o) : (i < w0.heap.size + 5 ∧ i ≠ R ∧ i ≠ v.ownBlock.getD R ∧ i ≠ Vb ∧ i ≠ w0.heap.size + 4 ∧ i ≠ w0.heap.size + 2) ∧ w.heap[i]? = some o := by
  simp only [theE] at h
  split at h
  · exact ⟨by assumption, h⟩
  · cases h

theorem EachIn.pbk (h : EachIn R Vb p bs v ba cap Shun w0) : ∃ o, w0.heap[v.ownBlock.getD R]? = some o ∧ (kindOf o = some 5 ∨ kindOf o = some 237) := by
  rcases h.part with ⟨e, _⟩ | ⟨q, c, cells, e, h2, h3, _⟩
  · subst e
    exact ⟨_, h.r, .inr rfl⟩
  · subst e
    exact ⟨_, h3, .inl rfl⟩

theorem EachIn.ok (h : EachIn R Vb p bs v ba cap Shun w0) (w : World) : (theE w0 w R Vb v Shun).Ok := by
  obtain ⟨o, ho, hk⟩ := h.pbk
  have h1 := lt_of_get h.r
  have h2 := lt_of_get ho
  have h3 := lt_of_get h.vb
  have pv : v.ownBlock.getD R ≠ Vb := fun e => by
    rw [e, h.vb] at ho
    cases ho
    simp [kindOf] at hk
  have rv : R ≠ Vb := fun e => by
    have := h.r
    rw [e, h.vb] at this
    cases this
  refine ⟨?_, ?_, ?_, ?_, ?_, rv, pv, ?_, ?_, ?_, ?_, ?_, ?_, ?_, fun l hl => ?_, fun i o e => (fix_of e).1⟩
  all_goals first | (show _ < _; simp only [theE]; omega) | (show _ ≠ _; simp only [theE]; omega) | skip
  obtain ⟨a, e, o', h4, h5⟩ := h.shun l hl
  have h6 := lt_of_get h4
  refine ⟨a, e, by show _ < _; simp only [theE]; omega, fun e => ?_, fun e => ?_, fun e => ?_, by show _ ≠ _; simp only [theE]; omega⟩
  · have e' : a.block = R := e
    rw [e', h.r] at h4
    cases h4
    cases h5
  · have e' : a.block = v.ownBlock.getD R := e
    rw [e', ho] at h4
    cases h4
    rw [h5] at hk
    simp at hk
  · have e' : a.block = Vb := e
    rw [e', h.vb] at h4
    cases h4
    cases h5

theorem PV.back (hP : PV w0 (fresh5 R w0.heap.size (.slice ba bs.length cap) KK) w) {i : Nat} {o : Obj} (h : w0.heap[i]? = some o) : w.heap[i]? = some o := by rw [hP.old i (lt_of_get h)]; exact h

theorem RowIs.back {e : TypeId} {xs : List Value} {x : Value} (h : RowIs w e xs x) (hk : ∀ q o, x.ownBlock = some q → w.heap[q]? = some o → w'.heap[q]? = some o) : RowIs w' e xs x := by
  rcases h with h1 | ⟨q, c, cells, h1, h2, h3, h4⟩
  · exact .inl h1
  · exact .inr ⟨q, c, cells, h1, h2, hk q _ (by rw [h1]; rfl) h3, h4⟩

theorem EachIn.bview (h : EachIn R Vb p bs v ba cap Shun w0) (hP : PV w0 (fresh5 R w0.heap.size (.slice ba bs.length cap) KK) w) : BView (theE w0 w R Vb v Shun) [] p v false w := by
  refine ⟨PV.back hP h.r, ?_, by show w0.heap.size + 5 ≤ _; rw [hP.size]; simp [fresh5], fun x hx => by simp at hx, fun i o e => (fix_of e).2, ⟨KK, 0, hP.new 4 _ rfl⟩, .nil⟩
  rcases h.part with ⟨h1, h2⟩ | ⟨q, c, cells, h1, h2, h3, h4, h5, h6⟩
  · exact .inl ⟨h1, by simpa [bc] using h2⟩
  · rw [bc_len] at h1 h2
    refine .inr ⟨q, c, cells, h1, h2, PV.back hP h3, h4, fun i hi => ?_, .inl ?_, fun e => ?_, fun x hx => by simp at hx, h6⟩
    · have := h5 i (by rw [bc_len]; exact hi)
      rw [this]
      simp [bc]
    · show q = v.ownBlock.getD R
      rw [h1]
      rfl
    · have e' : q = R := e
      rw [e', h.r] at h3
      cases h3

theorem EachIn.gview (h : EachIn R Vb p bs v ba cap Shun w0) (hP : PV w0 (fresh5 R w0.heap.size (.slice ba bs.length cap) KK) w) : GView (theE w0 w R Vb v Shun) [] (.slice none 0 0) w :=
  ⟨PV.back hP h.vb, .inl ⟨rfl, rfl⟩, fun q hq => by simp [Value.ownBlock] at hq, by show w0.heap.size + 5 ≤ _; rw [hP.size]; simp [fresh5], fun i o e => (fix_of e).2, ⟨KK, 0, hP.new 4 _ rfl⟩⟩

theorem EachIn.srcAt (h : EachIn R Vb p bs v ba cap Shun w0) (hP : PV w0 (fresh5 R w0.heap.size (.slice ba bs.length cap) KK) w) : SrcAt (theE w0 w R Vb v Shun) ba bs cap := by
  rcases h.src with h1 | ⟨x, o, cs, h1, h2, h3, h4, h5, h6⟩
  · exact .inl h1
  · have hx := lt_of_get h2
    have xr : x ≠ R := fun e => by rw [e, h.r] at h2; cases h2
    have xv : x ≠ Vb := fun e => by rw [e, h.vb] at h2; cases h2
    have xp : x ≠ v.ownBlock.getD R := fun e => by
      cases hv : v.ownBlock with
      | none => rw [hv] at e; exact xr e
      | some g => rw [hv] at e h6; exact h6 (by rw [e]; rfl)
    refine .inr ⟨x, o, cs, h1, ?_, fun a ha => h.shun.notA (by rw [ha]; exact h2) (by simp [kindOf]), h3, h4, h5⟩
    simp only [theE]
    rw [if_pos ⟨by omega, xr, xp, xv, by omega, by omega⟩]
    exact PV.back hP h2

theorem fix_new (hP : PV w0 (fresh5 R w0.heap.size (.slice ba bs.length cap) KK) w) (h : EachIn R Vb p bs v ba cap Shun w0) {j : Nat} {o : Obj} (hj : j = 0 ∨ j = 1 ∨ j = 3) (ho : (fresh5 R w0.heap.size (.slice ba bs.length cap) KK)[j]? = some o) : (theE w0 w R Vb v Shun).Fix (w0.heap.size + j) = some o := by
  obtain ⟨o', ho', _⟩ := h.pbk
  have h1 := lt_of_get h.r
  have h2 := lt_of_get ho'
  have h3 := lt_of_get h.vb
  simp only [theE]
  rw [if_pos ⟨by omega, by omega, by omega, by omega, by omega, by omega⟩]
  exact hP.new j o ho

/-- How the Cutter stands when the worker has done. -/
structure CV (E : EP) (sent : List (List UInt8 × Value)) (q : List UInt8) (v : Value) (t : Bool) (w : World) : Prop where
  r : w.heap[E.R]? = some (.cells #[v, .bool t] 237)
  part : PartAt E sent w q v
  src : ∀ i o, E.Fix i = some o → w.heap[i]? = some o
  dis : Dis sent

theorem CV.keeps {E : EP} {sent : List (List UInt8 × Value)} {q : List UInt8} {t : Bool} (O : E.Ok) (h : CV E sent q v t w) (k : Keeps E.KB w w') : CV E sent q v t w' := by
  refine ⟨k.keep _ _ h.r ⟨O.rg, O.rc, O.rv, fun ⟨x, _⟩ => by have := O.r; omega⟩, ?_, fun i o e => ?_, h.dis⟩
  · rcases h.part with h1 | ⟨q, c, cells, h1, h2, h3, h4, h5, h6, h7, h8⟩
    · exact .inl h1
    · refine .inr ⟨q, c, cells, h1, h2, k.keep _ _ h3 ?_, h4, h5, h6, h7, h8⟩
      rcases h6 with rfl | h6
      · exact ⟨O.pg, O.pc, O.pv, fun ⟨x, _⟩ => by have := O.p; omega⟩
      · exact ⟨by have := O.g; omega, by have := O.c; omega, by have := O.v; omega, fun ⟨_, x⟩ => by simp [kindOf] at x⟩
  · have hs := O.fix i o e
    exact k.keep _ _ (h.src i o e) ⟨hs.2.2.2.2.1, hs.2.2.2.2.2, hs.2.2.2.1, fun ⟨x, _⟩ => by have := hs.1; omega⟩

def FBc (E : EP) (q : List UInt8) (t : Bool) (sent : List (List UInt8 × Value)) (w : World) : Prop := ∃ v, CV E sent q v t w

theorem pa_at (E : EP) (Cv B : Nat) (sent : List (List UInt8 × Value)) (g : Goroutine) (w : World) (d : Nat) : PA E Cv B fr cs sent g (w.at d) ↔ PA E Cv B fr cs sent g w := by
  constructor
  · rintro ⟨lv, hG, u, n, h⟩
    exact ⟨lv, ⟨hG.v, hG.row, hG.ge, hG.low, hG.src, hG.wg⟩, u, n, Goes.rely (R := AtRel) atRel_trans h ⟨w.drawn, rfl⟩⟩
  · rintro ⟨lv, hG, u, n, h⟩
    exact ⟨lv, ⟨hG.v, hG.row, hG.ge, hG.low, hG.src, hG.wg⟩, u, n, Goes.rely (R := AtRel) atRel_trans h ⟨d, rfl⟩⟩

theorem EachIn.cfgOk (h : EachIn R Vb p bs v ba cap Shun w0) {k : Nat} (hk : 0 < k) (q : List UInt8) (t : Bool) (Cv B : Nat) : ((theE w0 w R Vb v Shun).cfg k (FBc (theE w0 w R Vb v Shun) q t) (PA (theE w0 w R Vb v Shun) Cv B fr cs)).Ok :=
  (h.ok w).cfg hk (fun sent w w' hK ⟨v, hv⟩ => ⟨v, hv.keeps (h.ok _) hK⟩) (fun sent g w d => pa_at _ _ _ _ _ _ _)

end
end Go.Proofs.YtlghcldiboecoaaGreatDoor.Cu
