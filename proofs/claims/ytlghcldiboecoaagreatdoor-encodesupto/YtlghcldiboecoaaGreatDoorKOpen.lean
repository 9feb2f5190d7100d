/- The caller's own goods, and the steps that stand ahead of every script. -/
import Derived.Test.YtlghcldiboecoaaGreatDoorKRoot
import Derived.Test.YtlghcldiboecoaaGreatDoorKCode
set_option linter.unusedVariables false
namespace Go.Proofs.YtlghcldiboecoaaGreatDoor
open Go.RowKit

theorem five_new (w : World) (o0 o1 o2 o3 o4 : Obj) : (((((w.alloc o0).alloc o1).alloc o2).alloc o3).alloc o4).heap[w.heap.size + 1]? = some o1 ∧ (((((w.alloc o0).alloc o1).alloc o2).alloc o3).alloc o4).heap[w.heap.size + 1 + 1]? = some o2 := by
  have s1 : (w.alloc o0).heap.size = w.heap.size + 1 := by simp
  have s2 : ((w.alloc o0).alloc o1).heap.size = w.heap.size + 1 + 1 := by simp
  have s3 : (((w.alloc o0).alloc o1).alloc o2).heap.size = w.heap.size + 1 + 1 + 1 := by simp
  have s4 : ((((w.alloc o0).alloc o1).alloc o2).alloc o3).heap.size = w.heap.size + 1 + 1 + 1 + 1 := by simp
  have h1 := heap_alloc_new (w.alloc o0) o1
  rw [s1] at h1
  have h2 := heap_alloc_new ((w.alloc o0).alloc o1) o2
  rw [s2] at h2
  have b2 := below1 ((w.alloc o0).alloc o1) o2
  have b3 := below1 (((w.alloc o0).alloc o1).alloc o2) o3
  have b4 := below1 ((((w.alloc o0).alloc o1).alloc o2).alloc o3) o4
  exact ⟨(b4.block _ (by omega)).trans ((b3.block _ (by omega)).trans ((b2.block _ (by omega)).trans h1)), (b4.block _ (by omega)).trans ((b3.block _ (by omega)).trans h2)⟩

set_option maxRecDepth 8000 in
set_option maxHeartbeats 4000000 in
theorem known_any (w : World) : Calls Tryz.prog 24 #[] w fun e w' => (∃ a c gt, e = .returned (.agg #[.slice (some ⟨a, 0, none⟩) 1 1, gt]) ∧ (∃ x n m, gt = .slice x n m) ∧ w'.heap[a]? = some (.cells #[.int .i64 0, .string ⟨#[]⟩, .slice (some ⟨c, 0, none⟩) 2 2] 113) ∧ w'.heap[c]? = some (.cells #[.int .i64 (-2), .string ⟨#[]⟩, .slice none 0 0, .int .i64 0, .string ⟨#[97, 98]⟩, .slice none 0 0] 113)) ∧ Below w.heap.size w w' := by
  go_enter Tryz.func24, Tryz.ntmps24
  go_wp2
  refine bodyPost_ret (v := .agg #[.slice (some ⟨w.heap.size + 1 + 1, 0, none⟩) 1 1, .slice (some ⟨w.heap.size + 1 + 1 + 1 + 1, 0, none⟩) 1 1]) (by simp [results, Tryz.results24, go_sem]) rfl ⟨⟨w.heap.size + 1 + 1, w.heap.size + 1, _, rfl, ⟨_, _, _, rfl⟩, ?_, ?_⟩, ?_⟩
  · exact (five_new w _ _ _ _ _).2
  · exact (five_new w _ _ _ _ _).1
  · exact (((((Below.refl w.heap.size w).alloc (by simp) _).alloc (by simp) _).alloc (by simp; omega) _).alloc (by simp; omega) _).alloc (by simp; omega) _

set_option maxRecDepth 8000 in
set_option maxHeartbeats 4000000 in
theorem opening_any (w : World) : Calls Tryz.prog 25 #[] w fun e w' => (∃ g cs, e = .returned (.slice (some ⟨g, 0, none⟩) 17 17) ∧ w'.heap[g]? = some (.cells cs 76) ∧
    (cs[0]? = some (.int .i64 1) ∧ cs[1]? = some (.int .i64 0) ∧ cs[2]? = some (.int .i64 0) ∧ cs[3]? = some (.int .i64 0) ∧ cs[4]? = some (.string ⟨#[40, 52, 116, 41]⟩) ∧ cs[5]? = some (.string ⟨#[]⟩)) ∧
    ∀ i, 1 ≤ i → i < 17 → ∃ k : Int, cs[i * 6]? = some (.int .i64 k) ∧ 2 ≤ k ∧ k ≤ 21) ∧ Below w.heap.size w w' := by
  have HS := hid (fun W g hg => save_root W g hg)
  have HN := hid (heap_alloc_new w (.cells #[.string ⟨#[47]⟩, .string ⟨#[]⟩, .string ⟨#[]⟩, .int .i64 0, .int .i64 0, .int .i64 0] 115))
  have HB0 := hid (below1 w (.cells #[.string ⟨#[47]⟩, .string ⟨#[]⟩, .string ⟨#[]⟩, .int .i64 0, .int .i64 0, .int .i64 0] 115))
  go_enter Tryz.func25, Tryz.ntmps25
  go_wp2_with (go_at_call 51; refine (HS.out _ _ HN.out).mono ?_; rintro e w1 ⟨⟨ov, code, rfl, bs, hbl, ho⟩, hb⟩; obtain ⟨oa, oc, rfl⟩ := own_shape ho; have hcv := conv_own ho; have HB1 := hid hb; clear ho hb hbl)
  all_goals go_ret
  refine ⟨⟨w1.heap.size, _, rfl, heap_alloc_new _ _, ⟨rfl, rfl, rfl, rfl, rfl, rfl⟩, fun i h1 h2 => ?_⟩, ?_⟩
  · obtain rfl | rfl | rfl | rfl | rfl | rfl | rfl | rfl | rfl | rfl | rfl | rfl | rfl | rfl | rfl | rfl : i = 1 ∨ i = 2 ∨ i = 3 ∨ i = 4 ∨ i = 5 ∨ i = 6 ∨ i = 7 ∨ i = 8 ∨ i = 9 ∨ i = 10 ∨ i = 11 ∨ i = 12 ∨ i = 13 ∨ i = 14 ∨ i = 15 ∨ i = 16 := by omega
    all_goals exact ⟨_, rfl, by decide, by decide⟩
  · have hb := HB0.out.trans (HB1.out.mono HB0.out.size)
    exact hb.alloc hb.size _
end Go.Proofs.YtlghcldiboecoaaGreatDoor
