/- The Cutter's missing, in company. -/
import Derived.Test.YtkaapaepanhbgaaCLen
import Derived.Test.YtkaapaepanhbgaaHDraw
set_option linter.unusedVariables false
set_option linter.unusedSimpArgs false
namespace Go.Proofs.Ytkaapaepanhbgaa
open Go Go.Conc Go.Pair Go.RowKit


/-- How many bytes are still missing of what the part begins. -/
def missing (p : List UInt8) : Int := if p.length < 4 then 4 - p.length else 4 + uns (p.take 4) - p.length

section
variable {E : EP} {sent : List (List UInt8 × Value)} {p : List UInt8} {v : Value} {tl : Bool} {w w₁ : World} {k : Nat} {FB : List (List UInt8 × Value) → World → Prop} {PostA : List (List UInt8 × Value) → Goroutine → World → Prop}

theorem letsB : LetsDraw (DB (E.cfg k FB PostA) sent) := fun w => ⟨.at _ w _, fun _ _ ⟨r, h1, h2, h3⟩ => ⟨r, h1, h2, h3⟩, ⟨Nat.le_refl _, fun i o h => ⟨o, h, rfl⟩⟩, rfl, rfl, by simp⟩
theorem rbDraw (w : World) : RB (E.cfg k FB PostA) w { w with drawn := w.drawn + 1 } := ⟨.at _ w _, fun h => h⟩

set_option maxRecDepth 100000 in
theorem missing_short (O : E.Ok) (hp : p.length < 4) : ∃ m, ∀ v w, BView E sent p v tl w →
    CallsC Try.prog false (RB (E.cfg k FB PostA)) (DB (E.cfg k FB PostA) sent) 32 #[.pointer (some ⟨E.R, 0, none⟩)] m w fun x w' => x = .int .i64 (missing p) ∧ BView E sent p v tl w' := by
  have T := termsB (E.cfg k FB PostA) sent
  co_apply Exists.intro
  intro v w hF
  obtain ⟨va, vc, rfl⟩ := hF.shape
  co_apply callsC_of_wpC Try.func32 (by rfl) rfl
  simp only [Try.ntmps32, List.size_toArray, List.length_cons, List.length_nil, Nat.reduceAdd, Nat.reduceSub, Array.replicate_succ, Array.replicate_zero, List.push_toArray, List.append_toArray, List.nil_append, List.cons_append]
  have hlt : ((p.length : Nat) : Int) < 4 := by omega
  co_stmt T (BView.rely O) hF (co_quiet T)
  co_apply wpC_seq (n₂ := 0) T
  co_apply wpC_seq T
  co_reg T
  co_op (BView.rely O) hF (co_quiet T)
  co_op (BView.rely O) hF (co_quiet T)
  co_op (BView.rely O) hF (co_quiet T)
  co_opw (BView.rely O) hF (have hc := hF.c0) (refine db_read ?_; co_evs (exact evR hF 0))
  clear hc
  co_op (BView.rely O) hF (co_quiet T)
  co_op (BView.rely O) hF (co_quiet T)
  co_apply opsC_nil T
  co_then
  co_apply wpC_cond T (t := true) rfl
  simp only [if_true]
  co_apply wpC_seq T
  co_reg T
  co_op (BView.rely O) hF (co_quiet T)
  co_op (BView.rely O) hF (co_quiet T)
  co_op (BView.rely O) hF (co_quiet T)
  co_opw (BView.rely O) hF (have hc := hF.c0) (refine db_read ?_; co_evs (exact evR hF 0))
  clear hc
  co_op (BView.rely O) hF (co_quiet T)
  co_op (BView.rely O) hF (co_quiet T)
  co_op (BView.rely O) hF (co_quiet T)
  co_apply opsC_nil T
  co_then
  co_go T (BView.rely O) hF (co_quiet T)
  refine ⟨rfl, _, resultsC_tmp (by rfl) _, ?_, hF⟩
  simp only [missing, if_pos hp]
  show Value.int .i64 (IntKind.i64.wrap (4 - (p.length : Int))) = _
  congr 1
  rw [IntKind.wrap_i64]
  omega

set_option maxRecDepth 100000 in
set_option maxHeartbeats 1000000 in
theorem missing_long (O : E.Ok) (h4 : 4 ≤ p.length) (hbig : p.length < 4294967296) : ∃ m, ∀ v w, BView E sent p v tl w →
    CallsC Try.prog false (RB (E.cfg k FB PostA)) (DB (E.cfg k FB PostA) sent) 32 #[.pointer (some ⟨E.R, 0, none⟩)] m w fun x w' => x = .int .i64 (missing p) ∧ BView E sent p v tl w' := by
  have T := termsB (E.cfg k FB PostA) sent
  obtain ⟨nu, hu⟩ := length_long (sent := sent) (tl := tl) (k := k) (FB := FB) (PostA := PostA) O h4
  have hun := uns_lt p 4 h4
  co_apply Exists.intro
  intro v w hF
  obtain ⟨q, c, rfl, hc, hcm⟩ := hF.long (by omega)
  co_apply callsC_of_wpC Try.func32 (by rfl) rfl
  simp only [Try.ntmps32, List.size_toArray, List.length_cons, List.length_nil, Nat.reduceAdd, Nat.reduceSub, Array.replicate_succ, Array.replicate_zero, List.push_toArray, List.append_toArray, List.nil_append, List.cons_append]
  have hlt : ¬ ((p.length : Nat) : Int) < 4 := by omega
  co_stmt T (BView.rely O) hF (co_quiet T)
  co_apply wpC_seq T
  co_apply wpC_seq T
  co_reg T
  co_op (BView.rely O) hF (co_quiet T)
  co_op (BView.rely O) hF (co_quiet T)
  co_op (BView.rely O) hF (co_quiet T)
  co_opw (BView.rely O) hF (have hc := hF.c0) (refine db_read ?_; co_evs (exact evR hF 0))
  clear hc
  co_op (BView.rely O) hF (co_quiet T)
  co_op (BView.rely O) hF (co_quiet T)
  co_apply opsC_nil T
  co_then
  co_apply wpC_cond T (t := false) rfl
  simp only [Bool.false_eq_true, if_false]
  co_ctl T
  co_then
  co_apply wpC_seq T
  co_apply wpC_region_m T letsB (S := BView E sent p (.slice (some ⟨q, 0, none⟩) p.length c) tl) (nf := nu) (by first | kernel_rfl | rfl)
  intro _ hR
  replace hF := BView.rely O (BView.rely O hF hR) (rbDraw (k := k) (FB := FB) (PostA := PostA) _)
  clear hR
  simp only [List.size_toArray, List.length_cons, List.length_nil, Nat.reduceAdd, Nat.zero_add]
  co_applyP AnyM.take T (fun _ _ hz rz => (BView.rely O) hz rz) (fun _ _ _ hz rz => wpC_rely T hz rz) (i := 0) rfl (by first | kernel_rfl | decide +kernel) (by first | kernel_rfl | decide +kernel) (by first | kernel_rfl | decide +kernel)
    (.inl ⟨by rfl, fun _ hw => ⟨run_eq_of ?run1, ?guar1⟩⟩) hF ?rest1
  case run1 =>
    intro Kz hKz
    (skip)
    go_simp
    exact hKz
  case guar1 =>
    (skip)
    (co_quiet T)
  try walk_nrm
  co_applyP AnyM.take T (fun _ _ hz rz => (BView.rely O) hz rz) (fun _ _ _ hz rz => wpC_rely T hz rz) (i := 4) rfl (by first | kernel_rfl | decide +kernel) (by first | kernel_rfl | decide +kernel) (by first | kernel_rfl | decide +kernel)
    (.inl ⟨by rfl, fun _ hw => ⟨run_eq_of ?run2, ?guar2⟩⟩) hF ?rest2
  case run2 =>
    intro Kz hKz
    (skip)
    go_simp
    exact hKz
  case guar2 =>
    (skip)
    (co_quiet T)
  try walk_nrm
  co_applyP AnyM.take T (fun _ _ hz rz => (BView.rely O) hz rz) (fun _ _ _ hz rz => wpC_rely T hz rz) (i := 5) rfl (by first | kernel_rfl | decide +kernel) (by first | kernel_rfl | decide +kernel) (by first | kernel_rfl | decide +kernel)
    (.inl ⟨by rfl, fun _ hw => ⟨run_eq_of ?run3, ?guar3⟩⟩) hF ?rest3
  case run3 =>
    intro Kz hKz
    (skip)
    go_simp
    exact hKz
  case guar3 =>
    (skip)
    (co_quiet T)
  try walk_nrm
  co_applyP AnyM.take T (fun _ _ hz rz => (BView.rely O) hz rz) (fun _ _ _ hz rz => wpC_rely T hz rz) (i := 6) rfl (by first | kernel_rfl | decide +kernel) (by first | kernel_rfl | decide +kernel) (by first | kernel_rfl | decide +kernel)
    (.inl ⟨by rfl, fun _ hw => ⟨run_eq_of ?run4, ?guar4⟩⟩) hF ?rest4
  case run4 =>
    intro Kz hKz
    (skip)
    go_simp
    exact hKz
  case guar4 =>
    (skip)
    (co_quiet T)
  try walk_nrm
  co_applyP AnyM.take T (fun _ _ hz rz => (BView.rely O) hz rz) (fun _ _ _ hz rz => wpC_rely T hz rz) (i := 7) rfl (by first | kernel_rfl | decide +kernel) (by first | kernel_rfl | decide +kernel) (by first | kernel_rfl | decide +kernel)
    (.inl ⟨by rfl, fun _ hw => ⟨run_eq_of ?run5, ?guar5⟩⟩) hF ?rest5
  case run5 =>
    intro Kz hKz
    (have hc := hw.c0)
    go_simp
    exact hKz
  case guar5 =>
    (have hc := hw.c0)
    (refine db_read ?_; co_evs (exact evR hw 0))
  try walk_nrm
  co_applyP AnyM.take T (fun _ _ hz rz => (BView.rely O) hz rz) (fun _ _ _ hz rz => wpC_rely T hz rz) (i := 8) rfl (by first | kernel_rfl | decide +kernel) (by first | kernel_rfl | decide +kernel) (by first | kernel_rfl | decide +kernel)
    (.inl ⟨by rfl, fun _ hw => ⟨run_eq_of ?run6, ?guar6⟩⟩) hF ?rest6
  case run6 =>
    intro Kz hKz
    (skip)
    go_simp
    exact hKz
  case guar6 =>
    (skip)
    (co_quiet T)
  try walk_nrm
  refine AnyM.only (i := 1) (by first | kernel_rfl | decide +kernel) ?_
  co_apply OpM.call rfl (by rfl) rfl
  · walk_nrm
    exact hu _ _ hF
  rintro x w' ⟨rfl, hF⟩
  refine ⟨hF, ?_⟩
  walk_nrm
  co_applyP AnyM.take T (fun _ _ hz rz => (BView.rely O) hz rz) (fun _ _ _ hz rz => wpC_rely T hz rz) (i := 2) rfl (by first | kernel_rfl | decide +kernel) (by first | kernel_rfl | decide +kernel) (by first | kernel_rfl | decide +kernel)
    (.inl ⟨by rfl, fun _ hw => ⟨run_eq_of ?run7, ?guar7⟩⟩) hF ?rest7
  case run7 =>
    intro Kz hKz
    (skip)
    go_simp
    exact hKz
  case guar7 =>
    (skip)
    (co_quiet T)
  try walk_nrm
  co_applyP AnyM.take T (fun _ _ hz rz => (BView.rely O) hz rz) (fun _ _ _ hz rz => wpC_rely T hz rz) (i := 3) rfl (by first | kernel_rfl | decide +kernel) (by first | kernel_rfl | decide +kernel) (by first | kernel_rfl | decide +kernel)
    (.inl ⟨by rfl, fun _ hw => ⟨run_eq_of ?run8, ?guar8⟩⟩) hF ?rest8
  case run8 =>
    intro Kz hKz
    (skip)
    go_simp
    exact hKz
  case guar8 =>
    (skip)
    (co_quiet T)
  try walk_nrm
  co_applyP AnyM.take T (fun _ _ hz rz => (BView.rely O) hz rz) (fun _ _ _ hz rz => wpC_rely T hz rz) (i := 9) rfl (by first | kernel_rfl | decide +kernel) (by first | kernel_rfl | decide +kernel) (by first | kernel_rfl | decide +kernel)
    (.inl ⟨by rfl, fun _ hw => ⟨run_eq_of ?run9, ?guar9⟩⟩) hF ?rest9
  case run9 =>
    intro Kz hKz
    (skip)
    go_simp
    exact hKz
  case guar9 =>
    (skip)
    (co_quiet T)
  try walk_nrm
  co_applyP AnyM.take T (fun _ _ hz rz => (BView.rely O) hz rz) (fun _ _ _ hz rz => wpC_rely T hz rz) (i := 10) rfl (by first | kernel_rfl | decide +kernel) (by first | kernel_rfl | decide +kernel) (by first | kernel_rfl | decide +kernel)
    (.inl ⟨by rfl, fun _ hw => ⟨run_eq_of ?run10, ?guar10⟩⟩) hF ?rest10
  case run10 =>
    intro Kz hKz
    (skip)
    go_simp
    exact hKz
  case guar10 =>
    (skip)
    (co_quiet T)
  try walk_nrm
  refine AnyM.all (by first | kernel_rfl | decide +kernel) ?_ _
  co_then
  co_go T (BView.rely O) hF (co_quiet T)
  refine ⟨rfl, _, resultsC_tmp (by rfl) _, ?_, hF⟩
  simp only [missing, if_neg (show ¬ p.length < 4 by omega)]
  show Value.int .i64 _ = _
  congr 1
  simp only [IntKind.wrap_i64]
  omega
theorem missing_any (O : E.Ok) (hbig : p.length < 4294967296) : ∃ m, ∀ v w, BView E sent p v tl w →
    CallsC Try.prog false (RB (E.cfg k FB PostA)) (DB (E.cfg k FB PostA) sent) 32 #[.pointer (some ⟨E.R, 0, none⟩)] m w fun x w' => x = .int .i64 (missing p) ∧ BView E sent p v tl w' := by
  by_cases h : p.length < 4
  · exact missing_short O h
  · exact missing_long O (by omega) hbig
end
end Go.Proofs.Ytkaapaepanhbgaa
