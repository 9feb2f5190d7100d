/- The fields of a node, in a file of the second version. -/
import Derived.Test.YtbnoghkijgmcgaaDoorFNode
set_option linter.unusedVariables false
namespace Go.Proofs.YtbnoghkijgmcgaaDoor
open Go.RowKit

theorem nodeVs {W : World} {g : Nat} {S : Nat → Prop} (p d t : ByteArray) (m c v : Int) (hS : S g)
    (h : W.heap[g]? = some (.cells #[.int .i64 0, .string p, .slice none 0 0, .int .i64 0, .string d, .slice none 0 0, .int .i64 0, .string t, .slice none 0 0, .int .i64 m, .string ⟨#[]⟩, .slice none 0 0, .int .i64 c, .string ⟨#[]⟩, .slice none 0 0, .int .i64 v, .string ⟨#[]⟩, .slice none 0 0] 31)) :
    VsAt W S [Orch.sv p, Orch.sv d, Orch.sv t, Orch.nv m, Orch.nv c, Orch.nv v] (.slice (some ⟨g, 0, none⟩) 6 6) := by
  refine VsAt.row [(Orch.sv p, .slice none 0 0), (Orch.sv d, .slice none 0 0), (Orch.sv t, .slice none 0 0), (Orch.nv m, .slice none 0 0), (Orch.nv c, .slice none 0 0), (Orch.nv v, .slice none 0 0)] g 6 (by simp) (by simp) hS ?_ ?_
  · intro j u hu
    refine cellOf h ?_
    rw [← hu, ← Array.getElem?_toList]
    rfl
  · intro q hq
    simp only [List.mem_cons, List.mem_nil_iff, or_false] at hq
    rcases hq with rfl | rfl | rfl | rfl | rfl | rfl <;> exact .nil _ _

set_option maxRecDepth 8000 in
set_option maxHeartbeats 4000000 in
theorem fields_2 (w : World) (x : Orch.Node) :
    Calls Tryd.prog 57 #[.int .i64 2, ndv x.path x.data x.note x.made x.changed x.version] w fun e w' => (∃ lv, e = .returned (vval (Orch.fields 2 x) lv) ∧ VsAt w' (fun b => w.heap.size ≤ b ∧ b < w'.heap.size) (Orch.fields 2 x).l lv) ∧ Below w.heap.size w w' := by
  obtain ⟨p, d, t, m, c, v⟩ := x
  simp only
  obtain ⟨n0, n1⟩ := new2 w (.cells #[.string p, .string d, .string t, .int .i64 m, .int .i64 c, .int .i64 v] 69) (.cells #[.int .i64 0, .string ⟨#[]⟩, .slice none 0 0] 31)
  have k0 := cellOf (j := 0) n0 rfl
  have k1 := cellOf (j := 1) n0 rfl
  have k2 := cellOf (j := 2) n0 rfl
  have k3 := cellOf (j := 3) n0 rfl
  have k4 := cellOf (j := 4) n0 rfl
  have k5 := cellOf (j := 5) n0 rfl
  have hb := below2 w (.cells #[.string p, .string d, .string t, .int .i64 m, .int .i64 c, .int .i64 v] 69) (.cells #[.int .i64 0, .string ⟨#[]⟩, .slice none 0 0] 31)
  have N1 := hide n1
  have HB := hide hb
  clear n0 n1 hb
  go_enter Tryd.func57, Tryd.ntmps57
  go_wp2_with (go_at_call 39; refine (hasNotes_any _ _).mono ?_; rintro e w1 ⟨rfl, rfl⟩)
  have hs : (w.alloc (.cells #[.string p, .string d, .string t, .int .i64 m, .int .i64 c, .int .i64 v] 69)).heap.size = w.heap.size + 1 := by simp
  obtain ⟨r1, r2⟩ := new2 (w.alloc (.cells #[.string p, .string d, .string t, .int .i64 m, .int .i64 c, .int .i64 v] 69)) (.cells #[.int .i64 0, .string ⟨#[]⟩, .slice (some ⟨w.heap.size + 1 + 1, 0, none⟩) 6 6] 31)
    (.cells #[.int .i64 0, .string p, .slice none 0 0, .int .i64 0, .string d, .slice none 0 0, .int .i64 0, .string t, .slice none 0 0, .int .i64 m, .string ⟨#[]⟩, .slice none 0 0, .int .i64 c, .string ⟨#[]⟩, .slice none 0 0, .int .i64 v, .string ⟨#[]⟩, .slice none 0 0] 31)
  rw [hs] at r1 r2
  refine bp_gen (fun X => X.heap[w.heap.size + 1]? = some (.cells #[.int .i64 0, .string ⟨#[]⟩, .slice (some ⟨w.heap.size + 1 + 1, 0, none⟩) 6 6] 31) ∧
    X.heap[w.heap.size + 1 + 1]? = some (.cells #[.int .i64 0, .string p, .slice none 0 0, .int .i64 0, .string d, .slice none 0 0, .int .i64 0, .string t, .slice none 0 0, .int .i64 m, .string ⟨#[]⟩, .slice none 0 0, .int .i64 c, .string ⟨#[]⟩, .slice none 0 0, .int .i64 v, .string ⟨#[]⟩, .slice none 0 0] 31) ∧ Below w.heap.size w X)
    ⟨r1, r2, (below1 w _).trans ((below2 _ _ _).mono (by rw [hs]; omega))⟩ ?_
  clear r1 r2 hs k0 k1 k2 k3 k4 k5 N1 HB
  rintro X ⟨r1, r2, hbX⟩
  have c0 := cellOf (j := 0) r1 rfl
  have c1 := cellOf (j := 1) r1 rfl
  have c2 := cellOf (j := 2) r1 rfl
  have hlt := ltOf r2
  exact bodyPost_ret (v := vv 0 ⟨#[]⟩ (.slice (some ⟨w.heap.size + 1 + 1, 0, none⟩) 6 6)) (by simp [results, Tryd.results57, go_sem, c0, c1, c2]) rfl ⟨⟨_, rfl, nodeVs p d t m c v ⟨by omega, hlt⟩ r2⟩, hbX⟩
end Go.Proofs.YtbnoghkijgmcgaaDoor
