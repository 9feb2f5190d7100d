/- frame.Make, orchard.Frame. -/
import Derived.Test.YtkaapaepanhbgaaCNum
set_option linter.unusedVariables false
set_option linter.unusedSimpArgs false
namespace Go.Proofs.Ytkaapaepanhbgaa
open Go Go.Conc Go.Pair Go.RowKit
section
variable {Shun : Loc → Prop} {w w0 w' w₁ : World} {xs : List Value} {v y : Value}

theorem AppS.old (h : AppS w0 5 (.slice none 0 0) xs v w) {e : TypeId} {ys : List Value} (hy : RowIs w0 e ys y) : RowIs w e ys y := RowIs.back hy fun q o _ ho => by
  rw [h.keep q (lt_of_get ho) (by simp [Value.ownBlock])]
  exact ho
theorem AppS.oldR (h : AppS w0 5 (.slice none 0 0) xs v w) {e : TypeId} {ys : List Value} (hy : ReadRow w0 e ys y) : ReadRow w e ys y := by
  rcases hy with h1 | ⟨a, c, o, h1, h2, h3, h4⟩
  · exact .inl h1
  · have hk := h.keep a.block (lt_of_get h3) (by simp [Value.ownBlock])
    exact .inr ⟨a, c, o, h1, fun j u hu => (World.cell?_of_block (by rw [addBlock]; exact hk)).trans (h2 j u hu), by rw [hk]; exact h3, h4⟩
theorem row_nil (w : World) (e : TypeId) : RowIs w e [] (.slice none 0 0) := .inl ⟨rfl, rfl⟩

theorem app_made (w : World) (c : Nat) (cells : Array Value) (hc : cells.size = c) (hm : c ≤ maxLen) : AppS w 5 (.slice none 0 0) [] (.slice (some ⟨w.heap.size, 0, none⟩) 0 c) (w.alloc (.cells cells 5)) := by
  have hh : (w.alloc (.cells cells 5)).heap = w.heap.push (.cells cells 5) := rfl
  exact ⟨.inr ⟨w.heap.size, c, cells, rfl, by simp, push_new hh, hc, fun i hi => by simp at hi, hm⟩, by rw [hh, Array.size_push]; omega, fun i hi _ => push_old hh hi, fun g hg => by simp [Value.ownBlock] at hg; right; omega, fun i hi => by simp [Value.ownBlock] at hi⟩

set_option maxRecDepth 100000 in
set_option maxHeartbeats 1000000 in
/-- Make(body). -/
theorem make_c (b : List UInt8) (hb : b.length ≤ 1000) : ∃ m, ∀ y w, ShunW Shun w → ReadRow w 5 (bc b) y → CallsC Try.prog true AtRel (DS Shun) 7 #[y] m w fun x w' => ∃ v', x = .tuple #[v', .bool true] ∧ AppS w 5 (.slice none 0 0) (bc (hdr b.length ++ b)) v' w' := by
  have T := termsS Shun
  obtain ⟨mn, hnum⟩ := num_c (Shun := Shun) (xs := []) b.length (by omega) (by simp)
  obtain ⟨i0, hi0, hz0, hz1, hz2⟩ := info5
  co_apply Exists.intro
  intro y w hS hy
  obtain ⟨ya, yc, rfl⟩ : ∃ ya yc, y = .slice ya b.length yc := by
    rcases hy with ⟨b', c, rfl, h⟩ | ⟨q, c, o, h1, _⟩
    · have : b = [] := by simpa [bc] using h
      exact ⟨b', c, by rw [this]; rfl⟩
    · rw [bc_len] at h1
      exact ⟨_, _, h1⟩
  have hF := AppS.refl (row_nil w 5)
  generalize hw0 : w = w0 at hS hy
  rw [hw0] at hF
  co_apply callsC_of_wpC Try.func7 (by rfl) rfl
  simp only [Try.ntmps7, List.size_toArray, List.length_cons, List.length_nil, Nat.reduceAdd, Nat.reduceSub, Array.replicate_succ, Array.replicate_zero, List.push_toArray, List.append_toArray, List.nil_append, List.cons_append]
  have hgt : ¬ (1000 : Int) < (b.length : Int) := by omega
  have ew : IntKind.i64.wrap (4 + (b.length : Int)) = 4 + (b.length : Int) := by rw [IntKind.wrap_i64]; omega
  co_apply wpC_seq T
  co_reg T
  co_op AppS.rely hF (co_quiet T)
  co_op AppS.rely hF (co_quiet T)
  co_apply opsC_nil T
  co_then
  co_apply wpC_seq T
  co_apply wpC_seq T
  co_reg T
  co_op AppS.rely hF (co_quiet T)
  co_op AppS.rely hF (co_quiet T)
  co_op AppS.rely hF (co_quiet T)
  co_apply opsC_nil T
  co_then
  co_apply wpC_cond T (t := false) rfl
  simp only [Bool.false_eq_true, if_false]
  co_apply wpC_skip T
  co_then
  co_apply wpC_seq T
  co_reg T
  co_op AppS.rely hF (co_quiet T)
  co_op AppS.rely hF (co_quiet T)
  co_op AppS.rely hF (co_quiet T)
  try simp only [ew]
  have hmk := fun w => run_make (P := Try.prog) w 25 5 i0 (.int .u8 0) un25 hi0 hz0 .i64 .i64 0 (4 + (b.length : Int)) (by omega) (by omega) (by rw [hz2]; omega) (by omega)
  have hme := fun w es => events_make (P := Try.prog) w 25 5 i0 (.int .u8 0) un25 hi0 hz0 .i64 .i64 0 (4 + (b.length : Int)) (by omega) (by omega) (by rw [hz2]; omega) (by omega) (by rw [hz2]; omega) es
  co_opw AppS.rely hF (skip) (rw [listed_nil (by simp [go_sem, hme])]; exact ds_alloc _ _)
  have et : Int.toNat (4 + (b.length : Int)) = 4 + b.length := by omega
  simp only [hz1, Nat.mul_one, et, Int.toNat_zero]
  have hG := AppS.trans hF (app_made _ (4 + b.length) (madeCells (Value.int .u8 0).cells (4 + b.length)) (by simp [madeCells]) (by simp only [maxLen]; omega))
  rename_i wz
  generalize wz.heap.size = r at hG ⊢
  clear hF hmk hme
  co_op AppS.rely hG (co_quiet T)
  co_apply opsC_nil T
  co_then
  co_apply wpC_seq T
  co_reg T
  co_op AppS.rely hG (co_quiet T)
  co_op AppS.rely hG (co_quiet T)
  co_op AppS.rely hG (co_quiet T)
  co_apply opsC_call T rfl (by rfl) rfl
  · walk_nrm
    exact hnum _ _ (AppS.shun hG (row_nil w0 5) hS (by decide)) hG.row
  rintro x w' hA
  have hF := hG.trans hA
  clear hA hG
  walk_nrm
  co_op AppS.rely hF (co_quiet T)
  co_apply opsC_nil T
  co_then
  co_apply wpC_seq T
  co_reg T
  co_op AppS.rely hF (co_quiet T)
  co_op AppS.rely hF (co_quiet T)
  co_apply opsC_cons rfl (by rfl)
  intro w₁ hR
  replace hF := hF.rely hR
  clear hR
  obtain ⟨v', w', hr, hA, hD⟩ := app_s (P := Try.prog) (Shun := Shun) 25 i0 (.int .u8 0) 1 un25 hi0 hz0 rfl hz1 hz2 hF.row (AppS.oldR hF hy) ((AppS.shun hF (row_nil w0 5) hS (by decide)).kind 5 (by decide)) (bc_one _) (by simp only [List.nil_append, bc_len, hdr, List.length_cons, List.length_nil, maxLen]; omega) (by simp only [List.nil_append, bc_len, hdr, List.length_cons, List.length_nil]; omega) (by omega)
  refine uponK_append (.tmp 16) (.tmp 17) 25 rfl rfl rfl hr ⟨hD _ fun e he => ?_, ?_⟩
  · have hm := mem_listed he
    rw [events_append_op (.tmp 16) (.tmp 17) 25 rfl rfl rfl] at hm
    exact hm
  have hG := hF.trans hA
  rw [List.nil_append, ← bc_app] at hG
  clear hr hD hA hF
  walk_nrm
  co_op AppS.rely hG (co_quiet T)
  co_op AppS.rely hG (co_quiet T)
  co_apply opsC_nil T
  co_then
  co_apply wpC_ret T
  exact ⟨rfl, _, resultsC_tmp2 (t := 2) (u := 3) (by rfl) _, v', rfl, hG⟩

set_option maxRecDepth 100000 in
set_option maxHeartbeats 1000000 in
/-- Frame(body). -/
theorem frame_c (b : List UInt8) (hb : b.length ≤ 1000) : ∃ m, ∀ y w, ShunW Shun w → ReadRow w 5 (bc b) y → CallsC Try.prog true AtRel (DS Shun) 5 #[y] m w fun x w' => ∃ v', x = .tuple #[v', .int .i64 0] ∧ AppS w 5 (.slice none 0 0) (bc (hdr b.length ++ b)) v' w' := by
  have T := termsS Shun
  obtain ⟨mk, hmake⟩ := make_c (Shun := Shun) b hb
  co_apply Exists.intro
  intro y w hS hy
  have hF := AppS.refl (row_nil w 5)
  generalize hw0 : w = w0 at hS hy
  rw [hw0] at hF
  co_apply callsC_of_wpC Try.func5 (by rfl) rfl
  simp only [Try.ntmps5, List.size_toArray, List.length_cons, List.length_nil, Nat.reduceAdd, Nat.reduceSub, Array.replicate_succ, Array.replicate_zero, List.push_toArray, List.append_toArray, List.nil_append, List.cons_append]
  co_apply wpC_seq T
  co_reg T
  co_op AppS.rely hF (co_quiet T)
  co_op AppS.rely hF (co_quiet T)
  co_apply opsC_nil T
  co_then
  co_apply wpC_seq T
  co_reg T
  co_op AppS.rely hF (co_quiet T)
  co_apply opsC_call T rfl (by rfl) rfl
  · walk_nrm
    exact hmake _ _ (AppS.shun hF (row_nil w0 5) hS (by decide)) (AppS.oldR hF hy)
  rintro x w' ⟨v', rfl, hA⟩
  have hG := hF.trans hA
  clear hA hF
  walk_nrm
  co_op AppS.rely hG (co_quiet T)
  co_op AppS.rely hG (co_quiet T)
  co_op AppS.rely hG (co_quiet T)
  co_op AppS.rely hG (co_quiet T)
  co_op AppS.rely hG (co_quiet T)
  co_apply opsC_nil T
  co_then
  co_apply wpC_seq T
  co_apply wpC_seq T
  co_reg T
  co_op AppS.rely hG (co_quiet T)
  co_op AppS.rely hG (co_quiet T)
  co_apply opsC_nil T
  co_then
  co_apply wpC_cond T (t := false) rfl
  simp only [Bool.false_eq_true, if_false]
  co_apply wpC_skip T
  co_then
  co_apply wpC_seq T
  co_reg T
  co_op AppS.rely hG (co_quiet T)
  co_op AppS.rely hG (co_quiet T)
  co_op AppS.rely hG (co_quiet T)
  co_apply opsC_nil T
  co_then
  co_apply wpC_ret T
  exact ⟨rfl, _, resultsC_tmp2 (t := 2) (u := 3) (by rfl) _, v', rfl, hG⟩
end
end Go.Proofs.Ytkaapaepanhbgaa
