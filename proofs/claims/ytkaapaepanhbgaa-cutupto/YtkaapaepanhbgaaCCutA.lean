/- The statements of cut's loop, one by one, in company. -/
import Derived.Test.YtkaapaepanhbgaaCApp
set_option linter.unusedVariables false
set_option linter.unusedSimpArgs false
namespace Go.Proofs.Ytkaapaepanhbgaa
open Go Go.Conc Go.Pair Go.RowKit

def Code.one : Code → Code | .seq x _ => x | c => c
def Code.two : Code → Code | .seq _ x => x | c => c
def Code.core : Code → Code | .block _ x => x | .loop x => x | c => c
noncomputable def cutCode : Code := match Try.f17.body with | some c => c | none => .skip
noncomputable def cutLoop : Code := Code.core (Code.core cutCode)
noncomputable def cut0 : Code := Code.one cutLoop
noncomputable def cutRest : Code := Code.core (Code.two cutLoop)

/-- cut's slots: the Cutter, what is left, the channel, n. -/
noncomputable def CutAct (c b ch n : Value) (u : Nat → Value) : Act :=
  { tmps := #[c, b, ch, undef, undef, undef, n, u 7, u 8, u 9, u 10, u 11, u 12, u 13, u 14, u 15, u 16, u 17, u 18, u 19, u 20, u 21, u 22, u 23, u 24, u 25, u 26, u 27, u 28, u 29, u 30, u 31, u 32, u 33, u 34, u 35, u 36, u 37, u 38, u 39, u 40, u 41, u 42, u 43, u 44, u 45, u 46, u 47, u 48, u 49, u 50, u 51], defers := [] }

theorem cutAct_of {c b ch n : Value} (a : Act) (h : a = CutAct c b ch n fun i => a.tmps.getD i undef) : ∃ u, a = CutAct c b ch n u := ⟨_, h⟩

section
variable {E : EP} {sent : List (List UInt8 × Value)} {p : List UInt8} {v : Value} {tl : Bool} {w w' w₁ : World} {k : Nat} {FB : List (List UInt8 × Value) → World → Prop} {PostA : List (List UInt8 × Value) → Goroutine → World → Prop}

set_option maxRecDepth 100000 in
set_option maxHeartbeats 1000000 in
/-- The loop's test: something is left. -/
theorem cut0_more (O : E.Ok) (ba : Option Addr) (bl bcap : Nat) (hb : 0 < bl) (ch n : Value) : ∃ m, ∀ v w u, BView E sent p v tl w →
    cut0.wpC Try.prog false (RB (E.cfg k FB PostA)) (DB (E.cfg k FB PostA) sent) 17 m (fun e a' w' => e = .normal ∧ (∃ u', a' = CutAct (.pointer (some ⟨E.R, 0, none⟩)) (.slice ba bl bcap) ch n u') ∧ BView E sent p v tl w')
      (CutAct (.pointer (some ⟨E.R, 0, none⟩)) (.slice ba bl bcap) ch n u) w := by
  have T := termsB (E.cfg k FB PostA) sent
  have hb' : (0 : Int) < (bl : Int) := by omega
  co_apply Exists.intro
  intro v w u hF
  simp only [cut0, cutLoop, cutCode, Code.core, Code.one, Try.f17, CutAct]
  co_apply wpC_seq T
  co_reg T
  co_op (BView.rely O) hF (co_quiet T)
  co_op (BView.rely O) hF (co_quiet T)
  co_op (BView.rely O) hF (co_quiet T)
  co_apply opsC_nil T
  co_then
  co_apply wpC_cond T (t := true) rfl
  simp only [if_true]
  co_apply wpC_skip T
  exact ⟨rfl, cutAct_of _ rfl, hF⟩

set_option maxRecDepth 100000 in
set_option maxHeartbeats 1000000 in
/-- Nothing is left. -/
theorem cut0_end (O : E.Ok) (ba : Option Addr) (bcap : Nat) (ch n : Value) : ∃ m, ∀ v w u, BView E sent p v tl w →
    cut0.wpC Try.prog false (RB (E.cfg k FB PostA)) (DB (E.cfg k FB PostA) sent) 17 m (fun e a' w' => e = .exit 0 ∧ (∃ u', a' = CutAct (.pointer (some ⟨E.R, 0, none⟩)) (.slice ba 0 bcap) ch n u') ∧ BView E sent p v tl w')
      (CutAct (.pointer (some ⟨E.R, 0, none⟩)) (.slice ba 0 bcap) ch n u) w := by
  have T := termsB (E.cfg k FB PostA) sent
  co_apply Exists.intro
  intro v w u hF
  simp only [cut0, cutLoop, cutCode, Code.core, Code.one, Try.f17, CutAct]
  co_apply wpC_seq T
  co_reg T
  co_op (BView.rely O) hF (co_quiet T)
  co_op (BView.rely O) hF (co_quiet T)
  co_op (BView.rely O) hF (co_quiet T)
  co_apply opsC_nil T
  co_then
  co_apply wpC_cond T (t := false) rfl
  simp only [Bool.false_eq_true, if_false]
  co_apply wpC_exit T
  exact ⟨rfl, cutAct_of _ rfl, hF⟩

theorem events_min (x y : Int) (w : World) : (Builtin.min_ #[3, 3] 3 #[.int .i64 x, .int .i64 y]).events Try.prog w #[] = #[] := by
  simp [Builtin.min_, Builtin.min2, List.foldlM]
noncomputable def cut1 : Code := Code.one cutRest
set_option maxRecDepth 100000 in
set_option maxHeartbeats 1000000 in
/-- n: what is missing, or what is left. -/
theorem cut1_c (O : E.Ok) (hmis : ∃ m, ∀ v w, BView E sent p v tl w → CallsC Try.prog false (RB (E.cfg k FB PostA)) (DB (E.cfg k FB PostA) sent) 32 #[.pointer (some ⟨E.R, 0, none⟩)] m w fun x w' => x = .int .i64 (missing p) ∧ BView E sent p v tl w')
    (ba : Option Addr) (bl bcap : Nat) (ch n : Value) : ∃ m, ∀ v w u, BView E sent p v tl w →
    cut1.wpC Try.prog false (RB (E.cfg k FB PostA)) (DB (E.cfg k FB PostA) sent) 17 m (fun e a' w' => e = .normal ∧ (∃ u', a' = CutAct (.pointer (some ⟨E.R, 0, none⟩)) (.slice ba bl bcap) ch (.int .i64 (if (bl : Int) < missing p then bl else missing p)) u') ∧ BView E sent p v tl w')
      (CutAct (.pointer (some ⟨E.R, 0, none⟩)) (.slice ba bl bcap) ch n u) w := by
  have T := termsB (E.cfg k FB PostA) sent
  obtain ⟨nu, hu⟩ := hmis
  co_apply Exists.intro
  intro v w u hF
  simp only [cut1, cutRest, cutLoop, cutCode, Code.core, Code.one, Code.two, Try.f17, CutAct]
  co_reg T
  co_op (BView.rely O) hF (co_quiet T)
  co_apply opsC_call T rfl (by rfl) rfl
  · walk_nrm
    exact hu _ _ hF
  rintro x w' ⟨rfl, hF⟩
  walk_nrm
  co_op (BView.rely O) hF (co_quiet T)
  co_op (BView.rely O) hF (co_quiet T)
  co_opw (BView.rely O) hF (have hev := events_min (missing p) bl) (rw [listed_nil (by simp [go_sem, hev])]; exact Terms.idle T _)
  co_op (BView.rely O) hF (co_quiet T)
  co_apply opsC_nil T
  refine ⟨rfl, cutAct_of _ rfl, hF⟩

noncomputable def cut3 : Code := Code.one (Code.two (Code.two cutRest))
/-- Where b lies behind j bytes. -/
def behindAt (x o j cap : Nat) : Option Addr := if cap = j then some ⟨x, o, none⟩ else some ⟨x, o + j, none⟩
set_option maxRecDepth 100000 in
set_option maxHeartbeats 1000000 in
/-- b = b[n:]. -/
theorem cut3_c (O : E.Ok) (x o bl bcap j : Nat) (hj : j ≤ bl) (hc : bl ≤ bcap) (hbig : bcap ≤ maxLen) (ch : Value) : ∃ m, ∀ v w u, BView E sent p v tl w →
    cut3.wpC Try.prog false (RB (E.cfg k FB PostA)) (DB (E.cfg k FB PostA) sent) 17 m (fun e a' w' => e = .normal ∧ (∃ u', a' = CutAct (.pointer (some ⟨E.R, 0, none⟩)) (.slice (behindAt x o j bcap) (bl - j) (bcap - j)) ch (.int .i64 j) u') ∧ BView E sent p v tl w')
      (CutAct (.pointer (some ⟨E.R, 0, none⟩)) (.slice (some ⟨x, o, none⟩) bl bcap) ch (.int .i64 j) u) w := by
  have T := termsB (E.cfg k FB PostA) sent
  have hev := fun w es => events_sl_l w es (some ⟨x, o, none⟩) bl bcap j (by omega) (by omega)
  have hj0 : (0 : Int) ≤ (j : Int) := by omega
  have hj1 : (j : Int) ≤ (bl : Int) := by omega
  have hj2 : (bl : Int) ≤ (bcap : Int) := by omega
  co_apply Exists.intro
  intro v w u hF
  simp only [cut3, cutRest, cutLoop, cutCode, Code.core, Code.one, Code.two, Try.f17, CutAct]
  co_reg T
  co_op (BView.rely O) hF (co_quiet T)
  co_op (BView.rely O) hF (co_quiet T)
  co_opw (BView.rely O) hF (skip) (co_still T)
  co_op (BView.rely O) hF (co_quiet T)
  co_apply opsC_nil T
  refine ⟨rfl, cutAct_of _ rfl, hF⟩

/-- A store into the Cutter. -/
theorem db_setR (O : E.Ok) (i : Nat) (x : Value) {es : Array Event} (he : ∀ e ∈ es, EvP (E.cfg k FB PostA).LB (w.setCell ⟨E.R, i, none⟩ x) e) : DB (E.cfg k FB PostA) sent w (w.setCell ⟨E.R, i, none⟩ x) es :=
  ⟨keeps_set _ _ (fun i o hk => hk.2.2.1), fun y hy ⟨b, h1, h2, h3⟩ => ⟨b, h1, h2, by rw [set_other _ _ (show b ≠ E.R by have := O.r; omega)]; exact h3⟩, grow_set _ _, set_other _ _ (Ne.symm O.rg), set_other _ _ (Ne.symm O.rc), he⟩

theorem PartAt.setR {i : Nat} {x : Value} (h : PartAt E sent w p v) : PartAt E sent (w.setCell ⟨E.R, i, none⟩ x) p v := by
  rcases h with h1 | ⟨q, c, cells, h1, h2, h3, h4, h5, h6, h7, h8⟩
  · exact .inl h1
  · exact .inr ⟨q, c, cells, h1, h2, by rw [set_other _ _ (show q ≠ E.R from h7)]; exact h3, h4, h5, h6, h7, h8⟩

/-- The part to come is stored. -/
theorem AView.store (O : E.Ok) {v' : Value} (h : AView E sent p v' tl v w) : BView E sent p v' tl (w.setCell ⟨E.R, 0, none⟩ v') := by
  refine ⟨?_, h.part.setR, by rw [set_size]; exact h.low, fun x hx => by rw [set_size]; exact h.old x hx, fun i o e => by rw [set_other _ _ (O.fix i o e).2.1]; exact h.src i o e, let ⟨st, sm, x⟩ := h.wg; ⟨st, sm, by unfold WgIs; rw [set_other _ _ (Ne.symm O.rg)]; exact x⟩⟩
  rw [setCell_row h.r]
  rfl

theorem evWR {v' : Value} (h : AView E sent p v' tl v w) (x : Value) (i : Nat) : EvP (E.cfg k FB PostA).LB (w.setCell ⟨E.R, i, none⟩ x) ⟨.cell ⟨E.R, i, none⟩, true, false⟩ :=
  .inr ⟨_, _, rfl, ⟨_, rfl, .inl (.inl rfl)⟩, by rw [set_size]; exact lt_of_get h.r⟩

/-- The part emptied, its row kept. -/
theorem BView.cleared {q n c : Nat} (h : BView E sent p (.slice (some ⟨q, 0, none⟩) n c) tl w) : AView E sent [] (.slice (some ⟨q, 0, none⟩) 0 c) tl (.slice (some ⟨q, 0, none⟩) n c) w := by
  refine ⟨h.r, ?_, h.low, h.old, h.src, h.wg⟩
  rcases h.part with ⟨h1, _⟩ | ⟨q, c, cells, h1, h2, h3, h4, h5, h6, h7, h8⟩
  · cases h1
  · cases h1
    exact .inr ⟨_, _, cells, rfl, by simp, h3, h4, fun i hi => by simp at hi, h6, h7, h8⟩
end
end Go.Proofs.Ytkaapaepanhbgaa

/- The stores of cut's loop, in company. -/
set_option linter.unusedVariables false
set_option linter.unusedSimpArgs false
namespace Go.Proofs.Ytkaapaepanhbgaa
open Go Go.Conc Go.Pair Go.RowKit

def Code.yes : Code → Code | .cond _ x _ => x | c => c
/-- Behind b = b[n:]: is it too long; then the rest. -/
noncomputable def cut4 : Code := Code.one (Code.two (Code.two (Code.two cutRest)))
noncomputable def cut5 : Code := Code.two (Code.two (Code.two (Code.two cutRest)))
noncomputable def cut6 : Code := Code.one cut5
noncomputable def cut78 : Code := Code.yes (Code.two cut5)
noncomputable def cut7 : Code := Code.one cut78
noncomputable def cut8 : Code := Code.two cut78

section
variable {E : EP} {sent : List (List UInt8 × Value)} {p : List UInt8} {v : Value} {tl : Bool} {w w' w₁ : World} {k : Nat} {FB : List (List UInt8 × Value) → World → Prop} {PostA : List (List UInt8 × Value) → Goroutine → World → Prop}

theorem BView.fz (h : BView E sent p v tl w) (i : Nat) : w.frozen? ⟨E.R, i, none⟩ = false := by simp [World.frozen?, h.r]
theorem AView.fz {v' : Value} (h : AView E sent p v' tl v w) (i : Nat) : w.frozen? ⟨E.R, i, none⟩ = false := by simp [World.frozen?, h.r]

theorem evs_storeR (w : World) {i : Nat} (h0 : w.cell? ⟨E.R, i, none⟩ = some v) (hfz : w.frozen? ⟨E.R, i, none⟩ = false) (y : Value) (hy : y.oneCell' = true) : (store ⟨E.R, i, none⟩ y).events Try.prog w #[] = #[⟨.cell ⟨E.R, i, none⟩, true, false⟩] := by
  rw [events_store Try.prog w #[] ⟨E.R, i, none⟩ y _ hy]
  simp [h0, hfz]

set_option maxRecDepth 100000 in
set_option maxHeartbeats 1000000 in
/-- c.part = c.part[:0]. -/
theorem cut8_c (O : E.Ok) (h0 : 0 < p.length) (b ch nn : Value) : ∃ m, ∀ v w u, BView E sent p v tl w →
    cut8.wpC Try.prog false (RB (E.cfg k FB PostA)) (DB (E.cfg k FB PostA) sent) 17 m (fun e a' w' => e = .normal ∧ (∃ u', a' = CutAct (.pointer (some ⟨E.R, 0, none⟩)) b ch nn u') ∧ ∃ v', BView E sent [] v' tl w')
      (CutAct (.pointer (some ⟨E.R, 0, none⟩)) b ch nn u) w := by
  have T := termsB (E.cfg k FB PostA) sent
  co_apply Exists.intro
  intro v w u hF
  obtain ⟨q, c, rfl, hc, hcm⟩ := hF.long h0
  have hev := fun w es => events_sl_h w es (some ⟨q, 0, none⟩) p.length c 0 (by omega) (by omega)
  simp only [cut8, cut78, cut5, Code.yes, cutRest, cutLoop, cutCode, Code.core, Code.one, Code.two, Try.f17, CutAct]
  co_reg T
  co_op (BView.rely O) hF (co_quiet T)
  co_op (BView.rely O) hF (co_quiet T)
  co_op (BView.rely O) hF (co_quiet T)
  co_op (BView.rely O) hF (co_quiet T)
  co_opw (BView.rely O) hF (have hc := hF.c0) (refine db_read ?_; co_evs (exact evR hF 0))
  clear hc
  co_opw (BView.rely O) hF (skip) (co_still T)
  co_op (BView.rely O) hF (co_quiet T)
  co_op (BView.rely O) hF (co_quiet T)
  co_opw (BView.rely O) hF (have hc := hF.c0; have hfz := hF.fz 0; have hse := evs_storeR _ hc hfz (.slice (some ⟨q, 0, none⟩) 0 c) rfl) (refine db_setR O 0 _ ?_; co_evs (exact evWR hF.cleared _ 0))
  co_apply opsC_nil T
  exact ⟨rfl, cutAct_of _ rfl, _, hF.cleared.store O⟩
end
end Go.Proofs.Ytkaapaepanhbgaa
