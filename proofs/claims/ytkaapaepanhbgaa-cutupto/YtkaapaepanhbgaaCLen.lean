/- The Cutter's length, what is missing, in company. -/
import Derived.Test.YtkaapaepanhbgaaCView
import Derived.WalkKit
import Derived.WalkSpells
import Derived.WalkLawsBesides
import Derived.Handy
set_option linter.unusedVariables false
set_option linter.unusedSimpArgs false
namespace Go.Proofs.Ytkaapaepanhbgaa
open Go Go.Conc Go.Pair Go.RowKit
theorem events_sl_h (w : World) (es : Array Event) (a : Option Addr) (len cap : Nat) (h : Int) (h0 : 0 ≤ h) (h1 : h ≤ cap) : (Instr.sliceAt 25 (.slice a len cap) none (some (.int .i64 h)) none).events Try.prog w es = es := by
  simp [Instr.sliceAt, Instr.slice, Instr.sliceBounds, Instr.sliceBound, asIntOf, go_sem, Try.runUnderlying25, h0, h1, Result.evThen]
theorem events_sl_l (w : World) (es : Array Event) (a : Option Addr) (len cap : Nat) (l : Int) (h0 : 0 ≤ l) (h1 : l ≤ len) : (Instr.sliceAt 25 (.slice a len cap) (some (.int .i64 l)) none none).events Try.prog w es = es := by
  simp [Instr.sliceAt, Instr.slice, Instr.sliceBounds, Instr.sliceBound, asIntOf, go_sem, Try.runUnderlying25, h0, h1, Result.evThen]

section
variable {E : EP} {sent : List (List UInt8 × Value)} {p : List UInt8} {v : Value} {tl : Bool} {w w₁ : World} {k : Nat} {FB : List (List UInt8 × Value) → World → Prop} {PostA : List (List UInt8 × Value) → Goroutine → World → Prop}

set_option maxRecDepth 100000 in
set_option maxHeartbeats 1000000 in
theorem length_long (O : E.Ok) (h4 : 4 ≤ p.length) : ∃ m, ∀ v w, BView E sent p v tl w →
    CallsC Try.prog false (RB (E.cfg k FB PostA)) (DB (E.cfg k FB PostA) sent) 33 #[.pointer (some ⟨E.R, 0, none⟩)] m w fun x w' => x = .int .u64 (uns (p.take 4) : Int) ∧ BView E sent p v tl w' := by
  have T := termsB (E.cfg k FB PostA) sent
  obtain ⟨nu, hu⟩ := unsigned_c (sent := sent) (tl := tl) (k := k) (FB := FB) (PostA := PostA) O h4
  co_apply Exists.intro
  intro v w hF
  obtain ⟨q, c, rfl, hc, hcm⟩ := hF.long (by omega)
  co_apply callsC_of_wpC Try.func33 (by rfl) rfl
  simp only [Try.ntmps33, List.size_toArray, List.length_cons, List.length_nil, Nat.reduceAdd, Nat.reduceSub, Array.replicate_succ, Array.replicate_zero, List.push_toArray, List.append_toArray, List.nil_append, List.cons_append]
  have hlt : ¬ ((p.length : Nat) : Int) < 4 := by omega
  have h4c : 4 ≤ c := by omega
  have h4z : (4 : Int) ≤ (c : Int) := by omega
  have hev := fun w es => events_sl_h w es (some ⟨q, 0, none⟩) p.length c 4 (by omega) h4z
  co_stmt T (BView.rely O) hF (co_quiet T)
  co_apply wpC_seq T
  co_apply wpC_seq T
  co_reg T
  co_op (BView.rely O) hF (co_quiet T)
  co_op (BView.rely O) hF (co_quiet T)
  co_op (BView.rely O) hF (co_quiet T)
  co_opw (BView.rely O) hF (have hc := hF.c0) (refine db_read ?_; co_evs (exact evR hF 0))
  clear hc
  co_op (BView.rely O) hF (co_quiet T)
  co_op (BView.rely O) hF (co_quiet T)
  co_apply opsC_nil T
  co_then
  co_apply wpC_cond T (t := false) rfl
  simp only [Bool.false_eq_true, if_false]
  co_ctl T
  co_then
  co_apply wpC_seq T
  co_reg T
  co_op (BView.rely O) hF (co_quiet T)
  co_op (BView.rely O) hF (co_quiet T)
  co_op (BView.rely O) hF (co_quiet T)
  co_opw (BView.rely O) hF (have hc := hF.c0) (refine db_read ?_; co_evs (exact evR hF 0))
  clear hc
  co_opw (BView.rely O) hF (skip) (co_still T)
  co_apply opsC_call T rfl (by rfl) rfl
  · walk_nrm
    exact hu q c c _ hF
  rintro x w' ⟨rfl, hF⟩
  walk_nrm
  co_op (BView.rely O) hF (co_quiet T)
  co_apply opsC_nil T
  co_then
  co_go T (BView.rely O) hF (co_quiet T)
  exact ⟨rfl, _, resultsC_tmp (by rfl) _, rfl, hF⟩
def lenOf (p : List UInt8) : Nat := if p.length < 4 then 0 else uns (p.take 4)
theorem length_any (O : E.Ok) : ∃ m, ∀ v w, BView E sent p v tl w →
    CallsC Try.prog false (RB (E.cfg k FB PostA)) (DB (E.cfg k FB PostA) sent) 33 #[.pointer (some ⟨E.R, 0, none⟩)] m w fun x w' => x = .int .u64 (lenOf p : Int) ∧ BView E sent p v tl w' := by
  unfold lenOf
  by_cases h : p.length < 4
  · simp only [if_pos h]; exact length_short O h
  · simp only [if_neg h]; exact length_long O (by omega)
end
end Go.Proofs.Ytkaapaepanhbgaa
