/- The fields of a node, in a file of the first version: slices.Delete. -/
import Derived.Test.YtlghcldiboecoaaDoorGPlain
import Derived.Deep.RegionLaw
set_option linter.unusedVariables false
namespace Go.Proofs.YtlghcldiboecoaaDoor
open Go.RowKit

theorem below_setCells {B : Nat} {a : World} {g : Nat} (hg : B ≤ g) : ∀ (vs : List Value) (o : Nat) (w : World), Below B a w → Below B a (w.setCells g o vs)
  | [], _, _, h => h
  | v :: r, o, w, h => below_setCells hg r (o + 1) (w.setCell ⟨g, o, none⟩ v) (h.setCell (p := ⟨g, o, none⟩) hg v)

theorem setCells_size (g : Nat) : ∀ (vs : List Value) (o : Nat) (w : World), (w.setCells g o vs).heap.size = w.heap.size
  | [], _, _ => rfl
  | v :: r, o, w => by rw [World.setCells, setCells_size g r]; simp [World.setCell]

/-- A row behind stores into it. -/
theorem setCells_row {g : Nat} {t : TypeId} : ∀ (vs : List Value) (o : Nat) (w : World) (cs : Array Value), w.heap[g]? = some (.cells cs t) → (w.setCells g o vs).heap[g]? = some (.cells (vs.foldl (fun p v => (p.1.setIfInBounds p.2 v, p.2 + 1)) (cs, o)).1 t)
  | [], _, _, _, h => h
  | v :: r, o, w, cs, h => setCells_row r (o + 1) (w.setCell ⟨g, o, none⟩ v) (cs.setIfInBounds o v) (by simp [World.setCell, Array.getElem?_modify, h])

theorem one3 (n : Int) (s : ByteArray) (l : Value) (hl : l.oneCell' = true) : ∀ u ∈ [Value.int .i64 n, .string s, l], u.oneCell' = true := by
  intro u hu
  simp only [List.mem_cons, List.mem_nil_iff, or_false] at hu
  rcases hu with rfl | rfl | rfl
  · rfl
  · rfl
  · exact hl

theorem clear_run (W : World) (g o c : Nat) (cs : Array Value) (hg : W.heap[g]? = some (.cells cs 31)) (ho : o + 3 ≤ cs.size) (ty : TypeId) :
    (Builtin.clear_ #[29] ty #[.slice (some ⟨g, o, none⟩) 1 c]).run Tryd.prog W = .ok (.tuple #[]) (W.setCells g o [.int .i64 0, .string ⟨#[]⟩, .slice none 0 0]) := by
  have hst := run_storeCells_cells (P := Tryd.prog) g o [.int .i64 0, .string ⟨#[]⟩, .slice none 0 0] 0 W
    (fun j hj => by rw [World.cell?, hg]; simp only [List.length_cons, List.length_nil] at hj; simp; omega)
    (fun j hj => by simp [World.frozen?, hg])
    (one3 0 ⟨#[]⟩ (.slice none 0 0) rfl)
  simp only [Nat.add_zero] at hst
  have hz : (Builtin.zeroCells (Value.agg #[.int .i64 0, .string ⟨#[]⟩, .slice none 0 0]).cells 1).toList = [.int .i64 0, .string ⟨#[]⟩, .slice none 0 0] := by simp [Builtin.zeroCells, Value.cells]; rfl
  simp [Builtin.clear_, run_underlying Tryd.underlying29, Tryd.zeroValue31, hz, hst]

set_option maxRecDepth 8000 in
set_option maxHeartbeats 4000000 in
theorem delete_6 (w : World) (g : Nat) (p d t : ByteArray) (m c v : Int)
    (hg : w.heap[g]? = some (.cells #[.int .i64 0, .string p, .slice none 0 0, .int .i64 0, .string d, .slice none 0 0, .int .i64 0, .string t, .slice none 0 0, .int .i64 m, .string ⟨#[]⟩, .slice none 0 0, .int .i64 c, .string ⟨#[]⟩, .slice none 0 0, .int .i64 v, .string ⟨#[]⟩, .slice none 0 0] 31)) :
    Calls Tryd.prog 67 #[.slice (some ⟨g, 0, none⟩) 6 6, .int .i64 2, .int .i64 3] w fun e w' => e = .returned (.slice (some ⟨g, 0, none⟩) 5 6) ∧ w'.heap[g]? = some (.cells #[.int .i64 0, .string p, .slice none 0 0, .int .i64 0, .string d, .slice none 0 0, .int .i64 m, .string ⟨#[]⟩, .slice none 0 0, .int .i64 c, .string ⟨#[]⟩, .slice none 0 0, .int .i64 v, .string ⟨#[]⟩, .slice none 0 0, .int .i64 0, .string ⟨#[]⟩, .slice none 0 0] 31) ∧ Below g w w' ∧ w'.heap.size = w.heap.size := by
  obtain ⟨i0, hi0, hz0, hz1, hz2⟩ := info_parts Tryd.info31
  obtain ⟨news, hnews⟩ : ∃ news : List Value, news = [.int .i64 m, .string ⟨#[]⟩, .slice none 0 0, .int .i64 c, .string ⟨#[]⟩, .slice none 0 0, .int .i64 v, .string ⟨#[]⟩, .slice none 0 0] := ⟨_, rfl⟩
  have hl : news.length = 3 * 3 := by rw [hnews]; rfl
  have hsrc : Hid (∀ j u, news[j]? = some u → w.drew.cell? ((⟨g, 9, none⟩ : Addr).add j) = some u) := fun j u hu => by
    rw [Addr.add_lit]
    show w.cell? _ = _
    have hj : j < 9 := by have := (List.getElem?_eq_some_iff.1 hu).1; omega
    rw [World.cell?, hg, ← hu, hnews]
    match j, hj with
    | 0, _ | 1, _ | 2, _ | 3, _ | 4, _ | 5, _ | 6, _ | 7, _ | 8, _ => rfl
  have h1 : Hid (∀ u ∈ news, u.oneCell' = true) := fun u hu => by
    rw [hnews] at hu
    simp only [List.mem_cons, List.mem_nil_iff, or_false] at hu
    rcases hu with rfl | rfl | rfl | rfl | rfl | rfl | rfl | rfl | rfl <;> rfl
  have hsp : Hid (∀ j, j < news.length → (w.drew.cell? ⟨g, 0 + 2 * 3 + j, none⟩).isSome = true ∧ w.drew.frozen? ⟨g, 0 + 2 * 3 + j, none⟩ = false) := fun j hj => by
    rw [hl] at hj
    refine ⟨?_, ?_⟩
    · show (w.cell? _).isSome = true
      rw [World.cell?, hg]
      simp
      omega
    · show w.frozen? _ = false
      simp [World.frozen?, hg]
  have hrow : Hid ((w.drew.setCells g (0 + 2 * 3) news).heap[g]? = some (.cells #[.int .i64 0, .string p, .slice none 0 0, .int .i64 0, .string d, .slice none 0 0, .int .i64 m, .string ⟨#[]⟩, .slice none 0 0, .int .i64 c, .string ⟨#[]⟩, .slice none 0 0, .int .i64 v, .string ⟨#[]⟩, .slice none 0 0, .int .i64 v, .string ⟨#[]⟩, .slice none 0 0] 31)) := by
    have := setCells_row news (0 + 2 * 3) w.drew _ (show w.drew.heap[g]? = _ from hg)
    rw [hnews] at this ⊢
    simp only [List.foldl_cons, List.foldl_nil, List.setIfInBounds_toArray, List.set_cons_succ, List.set_cons_zero, Nat.reduceAdd, Nat.reduceMul] at this
    exact this
  have hb : Hid (Below g w (w.drew.setCells g (0 + 2 * 3) news)) := below_setCells (Nat.le_refl _) _ _ _ (Below.refl _ _).drew
  have hs : Hid ((w.drew.setCells g (0 + 2 * 3) news).heap.size = w.heap.size) := setCells_size g _ _ _
  have HL := hide hl
  clear hg hnews hl
  go_enter Tryd.func67, Tryd.ntmps67
  go_wp2_with fail
  go_region_law (refine step_append_room rfl (.tmp 22) (.tmp 25) 29 rfl 31 i0 3 Tryd.underlying29 hi0 hz1 g 0 2 6 (by simp [Act.eval, Act.put]) ⟨g, 9, none⟩ 3 3 news (by simp [Act.eval, Act.put]) HL.out hsrc.out h1.out (by omega) hsp.out ?_)
  generalize w.drew.setCells g (0 + 2 * 3) news = W at *
  have hcl := clear_run W g 15 1 _ hrow.out (by simp)
  have HR : Hid ((W.setCells g 15 [.int .i64 0, .string ⟨#[]⟩, .slice none 0 0]).heap[g]? = some (.cells #[.int .i64 0, .string p, .slice none 0 0, .int .i64 0, .string d, .slice none 0 0, .int .i64 m, .string ⟨#[]⟩, .slice none 0 0, .int .i64 c, .string ⟨#[]⟩, .slice none 0 0, .int .i64 v, .string ⟨#[]⟩, .slice none 0 0, .int .i64 0, .string ⟨#[]⟩, .slice none 0 0] 31)) := by
    have := setCells_row [.int .i64 0, .string ⟨#[]⟩, .slice none 0 0] 15 W _ hrow.out
    simp only [List.foldl_cons, List.foldl_nil, List.setIfInBounds_toArray, List.set_cons_succ, List.set_cons_zero, Nat.reduceAdd] at this
    exact this
  have HB : Hid (Below g w (W.setCells g 15 [.int .i64 0, .string ⟨#[]⟩, .slice none 0 0])) := below_setCells (Nat.le_refl _) _ _ _ hb.out
  have HS : Hid ((W.setCells g 15 [.int .i64 0, .string ⟨#[]⟩, .slice none 0 0]).heap.size = w.heap.size) := (setCells_size g _ _ _).trans hs.out
  clear hsrc h1 hsp hrow hb hs HL
  go_wp2
  go_ret
  exact ⟨rfl, HR.out, HB.out, HS.out⟩

theorem nodeVs1 {W : World} {g : Nat} {S : Nat → Prop} (p d : ByteArray) (m c v : Int) (hS : S g)
    (h : W.heap[g]? = some (.cells #[.int .i64 0, .string p, .slice none 0 0, .int .i64 0, .string d, .slice none 0 0, .int .i64 m, .string ⟨#[]⟩, .slice none 0 0, .int .i64 c, .string ⟨#[]⟩, .slice none 0 0, .int .i64 v, .string ⟨#[]⟩, .slice none 0 0, .int .i64 0, .string ⟨#[]⟩, .slice none 0 0] 31)) :
    VsAt W S [Orch.sv p, Orch.sv d, Orch.nv m, Orch.nv c, Orch.nv v] (.slice (some ⟨g, 0, none⟩) 5 6) := by
  refine VsAt.row [(Orch.sv p, .slice none 0 0), (Orch.sv d, .slice none 0 0), (Orch.nv m, .slice none 0 0), (Orch.nv c, .slice none 0 0), (Orch.nv v, .slice none 0 0)] g 6 (by simp) (by simp) hS ?_ ?_
  · intro j u hu
    have hj : j < 15 := (List.getElem?_eq_some_iff.1 hu).1
    refine cellOf h ?_
    rw [← hu, ← Array.getElem?_toList]
    match j, hj with
    | 0, _ | 1, _ | 2, _ | 3, _ | 4, _ | 5, _ | 6, _ | 7, _ | 8, _ | 9, _ | 10, _ | 11, _ | 12, _ | 13, _ | 14, _ => rfl
  · intro q hq
    simp only [List.mem_cons, List.mem_nil_iff, or_false] at hq
    rcases hq with rfl | rfl | rfl | rfl | rfl <;> exact .nil _ _

set_option maxRecDepth 8000 in
set_option maxHeartbeats 4000000 in
theorem fields_1 (w : World) (x : Orch.Node) :
    Calls Tryd.prog 57 #[.int .i64 1, ndv x.path x.data x.note x.made x.changed x.version] w fun e w' => (∃ lv, e = .returned (vval (Orch.fields 1 x) lv) ∧ VsAt w' (fun b => w.heap.size ≤ b ∧ b < w'.heap.size) (Orch.fields 1 x).l lv) ∧ Below w.heap.size w w' := by
  obtain ⟨p, d, t, m, c, v⟩ := x
  simp only
  obtain ⟨n0, n1⟩ := new2 w (.cells #[.string p, .string d, .string t, .int .i64 m, .int .i64 c, .int .i64 v] 69) (.cells #[.int .i64 0, .string ⟨#[]⟩, .slice none 0 0] 31)
  have k0 := cellOf (j := 0) n0 rfl
  have k1 := cellOf (j := 1) n0 rfl
  have k2 := cellOf (j := 2) n0 rfl
  have k3 := cellOf (j := 3) n0 rfl
  have k4 := cellOf (j := 4) n0 rfl
  have k5 := cellOf (j := 5) n0 rfl
  have hb := below2 w (.cells #[.string p, .string d, .string t, .int .i64 m, .int .i64 c, .int .i64 v] 69) (.cells #[.int .i64 0, .string ⟨#[]⟩, .slice none 0 0] 31)
  have N1 := hide n1
  have HB := hide hb
  clear n0 n1 hb
  go_enter Tryd.func57, Tryd.ntmps57
  go_wp2_with (go_at_call 39; refine (hasNotes_any _ _).mono ?_; rintro e w1 ⟨rfl, rfl⟩)
  have hs0 : (w.alloc (.cells #[.string p, .string d, .string t, .int .i64 m, .int .i64 c, .int .i64 v] 69)).heap.size = w.heap.size + 1 := by simp
  have hs1 : ((w.alloc (.cells #[.string p, .string d, .string t, .int .i64 m, .int .i64 c, .int .i64 v] 69)).alloc (.cells #[.int .i64 0, .string ⟨#[]⟩, .slice none 0 0] 31)).heap.size = w.heap.size + 1 + 1 := by simp
  have hg3 := heap_alloc_new ((w.alloc (.cells #[.string p, .string d, .string t, .int .i64 m, .int .i64 c, .int .i64 v] 69)).alloc (.cells #[.int .i64 0, .string ⟨#[]⟩, .slice none 0 0] 31))
    (.cells #[.int .i64 0, .string p, .slice none 0 0, .int .i64 0, .string d, .slice none 0 0, .int .i64 0, .string t, .slice none 0 0, .int .i64 m, .string ⟨#[]⟩, .slice none 0 0, .int .i64 c, .string ⟨#[]⟩, .slice none 0 0, .int .i64 v, .string ⟨#[]⟩, .slice none 0 0] 31)
  have hb3 := below1 ((w.alloc (.cells #[.string p, .string d, .string t, .int .i64 m, .int .i64 c, .int .i64 v] 69)).alloc (.cells #[.int .i64 0, .string ⟨#[]⟩, .slice none 0 0] 31))
    (.cells #[.int .i64 0, .string p, .slice none 0 0, .int .i64 0, .string d, .slice none 0 0, .int .i64 0, .string t, .slice none 0 0, .int .i64 m, .string ⟨#[]⟩, .slice none 0 0, .int .i64 c, .string ⟨#[]⟩, .slice none 0 0, .int .i64 v, .string ⟨#[]⟩, .slice none 0 0] 31)
  have hz3 := (hb3.block (w.heap.size + 1) (by rw [hs1]; omega)).trans N1.out
  have HB3 : Hid (Below w.heap.size w _) := HB.out.trans (hb3.mono (by rw [hs1]; omega))
  have HZ3 := hide hz3
  rw [hs1] at hg3
  refine (delete_6 _ (w.heap.size + 1 + 1) p d t m c v hg3).mono ?_
  rintro e w2 ⟨rfl, hr2, hb2, hs2⟩
  have HZ2 : Hid (w2.heap[w.heap.size + 1]? = some (.cells #[.int .i64 0, .string ⟨#[]⟩, .slice none 0 0] 31)) := (hb2.block _ (by omega)).trans HZ3.out
  have HB2 : Hid (Below w.heap.size w w2) := HB3.out.trans (hb2.mono (by omega))
  have HR2 := hide hr2
  clear hr2 hb2 hs2 hg3 hb3 hz3 HZ3 HB3 k0 k1 k2 k3 k4 k5 N1 HB hs0 hs1
  go_wp2_with (refine wpList_store_row rfl 31 _ _ rfl (w.heap.size + 1) #[.int .i64 0, .string ⟨#[]⟩, .slice (some ⟨w.heap.size + 1 + 1, 0, none⟩) 5 6] rfl rfl 31 _ HZ2.out Tryd.size31 rfl (one_v _ _ _ _ _) ?_)
  refine bp_gen (fun X => X.heap[w.heap.size + 1]? = some (.cells #[.int .i64 0, .string ⟨#[]⟩, .slice (some ⟨w.heap.size + 1 + 1, 0, none⟩) 5 6] 31) ∧ X.heap[w.heap.size + 1 + 1]? = w2.heap[w.heap.size + 1 + 1]? ∧ Below w.heap.size w X) ⟨setRow_heap _ _ _ _ _ _ HZ2.out, setRow_other _ _ _ _ (by omega), below_setRow HB2.out (Nat.le_succ _) _⟩ ?_
  rintro X ⟨r1, r2, hbX⟩
  rw [HR2.out] at r2
  have c0 := cellOf (j := 0) r1 rfl
  have c1 := cellOf (j := 1) r1 rfl
  have c2 := cellOf (j := 2) r1 rfl
  have hlt := ltOf r2
  exact bodyPost_ret (v := vv 0 ⟨#[]⟩ (.slice (some ⟨w.heap.size + 1 + 1, 0, none⟩) 5 6)) (by simp [results, Tryd.results57, go_sem, c0, c1, c2]) rfl ⟨⟨_, rfl, nodeVs1 p d m c v ⟨by omega, hlt⟩ r2⟩, hbX⟩
end Go.Proofs.YtlghcldiboecoaaDoor
