/- cut of a text; lists of texts. -/
import Derived.Test.YtkaapaepanhbgaaCStr
set_option linter.unusedVariables false
set_option linter.unusedSimpArgs false
namespace Go.Proofs.Ytkaapaepanhbgaa
open Go Go.Conc Go.Pair Go.RowKit
section
variable {Shun : Loc → Prop} {w w0 w' w₁ : World} {os : List Obj}

theorem ev_len9 (s : ByteArray) (w : World) (es : Array Event) : (Builtin.len_ #[9] 3 #[.string s]).events Try.prog w es = es := by
  simp [Builtin.len_, go_sem, run_underlying un9]
/-- A text of at most 1000 bytes. -/
def cutS (s : ByteArray) : ByteArray := if 1000 < s.size then s.extract 0 1000 else s

set_option maxRecDepth 100000 in
set_option maxHeartbeats 1000000 in
theorem cut_c (s : ByteArray) (hs : s.size ≤ 9223372036854775807) : ∃ m, ∀ w0 os w, PV w0 os w → CallsC Try.prog true AtRel (DS Shun) 4 #[.string s, .int .i64 1000] m w fun x w' => x = .string (cutS s) ∧ PV w0 os w' := by
  have T := termsS Shun
  by_cases h : 1000 < s.size
  · have hz : (1000 : Int) < (s.size : Int) := by omega
    have hz' : (1000 : Int) ≤ (s.size : Int) := by omega
    co_apply Exists.intro
    intro w0 os w hF
    co_apply callsC_of_wpC Try.func4 (by rfl) rfl
    simp only [Try.ntmps4, List.size_toArray, List.length_cons, List.length_nil, Nat.reduceAdd, Nat.reduceSub, Array.replicate_succ, Array.replicate_zero, List.push_toArray, List.append_toArray, List.nil_append, List.cons_append]
    co_apply wpC_seq T
    co_reg T
    co_op PV.rely hF (co_quiet T)
    co_apply opsC_nil T
    co_then
    co_apply wpC_seq (n₂ := 0) T
    co_apply wpC_seq T
    co_reg T
    co_op PV.rely hF (co_quiet T)
    co_opw PV.rely hF (have hl9 := ev_len9) (rw [listed_nil (by simp [go_sem, hl9])]; exact T.idle _)
    co_op PV.rely hF (co_quiet T)
    co_op PV.rely hF (co_quiet T)
    co_apply opsC_nil T
    co_then
    co_apply wpC_cond T (t := true) rfl
    simp only [if_true]
    co_apply wpC_seq T
    co_reg T
    co_op PV.rely hF (co_quiet T)
    co_op PV.rely hF (co_quiet T)
    co_opw PV.rely hF (skip) (rw [listed_nil (by simp [go_sem, Instr.sliceAt, Instr.slice, Instr.sliceBounds, Instr.sliceBound, asIntOf, Try.runUnderlying9, Result.evThen, hz, hz'])]; exact T.idle _)
    co_op PV.rely hF (co_quiet T)
    co_apply opsC_nil T
    co_then
    co_apply wpC_ret T
    refine ⟨rfl, _, resultsC_tmp (t := 4) (by rfl) _, ?_, hF⟩
    simp [cutS, h]
  · have hz : ¬ (1000 : Int) < (s.size : Int) := by omega
    co_apply Exists.intro
    intro w0 os w hF
    co_apply callsC_of_wpC Try.func4 (by rfl) rfl
    simp only [Try.ntmps4, List.size_toArray, List.length_cons, List.length_nil, Nat.reduceAdd, Nat.reduceSub, Array.replicate_succ, Array.replicate_zero, List.push_toArray, List.append_toArray, List.nil_append, List.cons_append]
    co_apply wpC_seq T
    co_reg T
    co_op PV.rely hF (co_quiet T)
    co_apply opsC_nil T
    co_then
    co_apply wpC_seq T
    co_apply wpC_seq T
    co_reg T
    co_op PV.rely hF (co_quiet T)
    co_opw PV.rely hF (have hl9 := ev_len9) (rw [listed_nil (by simp [go_sem, hl9])]; exact T.idle _)
    co_op PV.rely hF (co_quiet T)
    co_op PV.rely hF (co_quiet T)
    co_apply opsC_nil T
    co_then
    co_apply wpC_cond T (t := false) rfl
    simp only [Bool.false_eq_true, if_false]
    co_apply wpC_skip T
    co_then
    co_apply wpC_seq T
    co_reg T
    co_op PV.rely hF (co_quiet T)
    co_op PV.rely hF (co_quiet T)
    co_apply opsC_nil T
    co_then
    co_apply wpC_ret T
    refine ⟨rfl, _, resultsC_tmp (t := 4) (by rfl) _, ?_, hF⟩
    simp [cutS, h]

theorem fillS1 (s : ByteArray) : Instr.fill (fun i => some (i * 1, 1)) ((Array.range (1 * 1)).map ((Value.string ⟨#[]⟩).cells[· % (Value.string ⟨#[]⟩).cells.size]!)) [(0, .string s)] = some #[.string s] := by
  simp [Instr.fill, Value.cells, Array.range]
  rfl
theorem bsS_run (w : World) (s : ByteArray) : (Instr.buildSlice 22 1 #[(0, .string s)]).run Try.prog w = .ok (.slice (some ⟨w.heap.size, 0, none⟩) 1 1) (w.alloc (.cells #[.string s] 9)) := by
  obtain ⟨i0, hi, hz0, hz1, hz2⟩ := info9
  refine run_buildSlice w 22 9 1 _ _ i0 (.string ⟨#[]⟩) un22 hi hz0 (by rw [hz1]; omega) (by rw [hz1]; omega) ?_
  rw [hz1]
  exact fillS1 s
theorem bsS_ev (w : World) (es : Array Event) (s : ByteArray) : (Instr.buildSlice 22 1 #[(0, .string s)]).events Try.prog w es = es := by
  obtain ⟨i0, hi, hz0, hz1, hz2⟩ := info9
  have h1 := fillS1 s
  simp only [Nat.mul_one] at h1
  simp [Instr.buildSlice, go_sem, run_underlying un22, sizeOf, typeInfo, zeroValue, hi, hz0, hz1, newRow, Result.evThen]
theorem fillS2 (s t : ByteArray) : Instr.fill (fun i => some (i * 1, 1)) ((Array.range (2 * 1)).map ((Value.string ⟨#[]⟩).cells[· % (Value.string ⟨#[]⟩).cells.size]!)) [(0, .string s), (1, .string t)] = some #[.string s, .string t] := by
  simp [Instr.fill, Value.cells, Array.range]
  rfl
theorem bs2_run (w : World) (s t : ByteArray) : (Instr.buildSlice 22 2 #[(0, .string s), (1, .string t)]).run Try.prog w = .ok (.slice (some ⟨w.heap.size, 0, none⟩) 2 2) (w.alloc (.cells #[.string s, .string t] 9)) := by
  obtain ⟨i0, hi, hz0, hz1, hz2⟩ := info9
  refine run_buildSlice w 22 9 2 _ _ i0 (.string ⟨#[]⟩) un22 hi hz0 (by rw [hz1]; omega) (by rw [hz1]; omega) ?_
  rw [hz1]
  exact fillS2 s t
theorem bs2_ev (w : World) (es : Array Event) (s t : ByteArray) : (Instr.buildSlice 22 2 #[(0, .string s), (1, .string t)]).events Try.prog w es = es := by
  obtain ⟨i0, hi, hz0, hz1, hz2⟩ := info9
  have h1 := fillS2 s t
  simp only [Nat.mul_one] at h1
  simp [Instr.buildSlice, go_sem, run_underlying un22, sizeOf, typeInfo, zeroValue, hi, hz0, hz1, newRow, Result.evThen]
end
end Go.Proofs.Ytkaapaepanhbgaa
