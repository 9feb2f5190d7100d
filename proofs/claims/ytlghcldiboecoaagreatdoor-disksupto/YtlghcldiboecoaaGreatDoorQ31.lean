/- The statements of cut's loop, one by one, in company. -/
import Derived.Test.YtlghcldiboecoaaGreatDoorQ30
import Derived.Test.YtlghcldiboecoaaGreatDoorQ29
set_option linter.unusedVariables false
set_option linter.unusedSimpArgs false
set_option maxRecDepth 100000
namespace Go.Proofs.YtlghcldiboecoaaGreatDoor.Cu
open Go Go.Conc Go.Pair Go.RowKit

def Code.one : Code → Code | .seq x _ => x | c => c
def Code.two : Code → Code | .seq _ x => x | c => c
def Code.core : Code → Code | .block _ x => x | .loop x => x | c => c
noncomputable def cutCode : Code := match Tryz.f161.body with | some c => c | none => .skip
noncomputable def cutLoop : Code := Code.core (Code.core cutCode)
noncomputable def cut0 : Code := Code.one cutLoop
noncomputable def cutRest : Code := Code.core (Code.two cutLoop)

noncomputable def CutAct (c b ch n : Value) (u : Nat → Value) : Act :=
  { tmps := #[c, b, ch, undef, undef, undef, n, u 7, u 8, u 9, u 10, u 11, u 12, u 13, u 14, u 15, u 16, u 17, u 18, u 19, u 20, u 21, u 22, u 23, u 24, u 25, u 26, u 27, u 28, u 29, u 30, u 31, u 32, u 33, u 34, u 35, u 36, u 37, u 38, u 39, u 40, u 41, u 42, u 43, u 44, u 45, u 46, u 47, u 48, u 49, u 50, u 51], defers := [] }

theorem cutAct_of {c b ch n : Value} (a : Act) (h : a = CutAct c b ch n fun i => a.tmps.getD i undef) : ∃ u, a = CutAct c b ch n u := ⟨_, h⟩

section
variable {E : EP} {sent : List (List UInt8 × Value)} {p : List UInt8} {v : Value} {tl : Bool} {w w' w₁ : World} {k : Nat} {FB : List (List UInt8 × Value) → World → Prop} {PostA : List (List UInt8 × Value) → Goroutine → World → Prop}

set_option maxRecDepth 100000 in
set_option maxHeartbeats 1000000 in
theorem cut0_more (O : E.Ok) (ba : Option Addr) (bl bcap : Nat) (hb : 0 < bl) (ch n : Value) : ∃ m, ∀ v w u, BView E sent p v tl w →
    cut0.wpC Tryz.prog false (RB (E.cfg k FB PostA)) (DB (E.cfg k FB PostA) sent) 161 m (fun e a' w' => e = .normal ∧ (∃ u', a' = CutAct (.pointer (some ⟨E.R, 0, none⟩)) (.slice ba bl bcap) ch n u') ∧ BView E sent p v tl w')
      (CutAct (.pointer (some ⟨E.R, 0, none⟩)) (.slice ba bl bcap) ch n u) w := by
  have T := termsB (E.cfg k FB PostA) sent
  have hb' : (0 : Int) < (bl : Int) := by omega
  co_apply Exists.intro
  intro v w u hF
  simp only [cut0, cutLoop, cutCode, Code.core, Code.one, Tryz.f161, CutAct]
  co_apply wpC_seq T
  co_reg T
  co_op (BView.rely O) hF (co_quiet T)
  co_op (BView.rely O) hF (co_quiet T)
  co_op (BView.rely O) hF (co_quiet T)
  co_apply opsC_nil T
  co_then
  co_apply wpC_cond T (t := true) rfl
  simp only [if_true]
  co_apply wpC_skip T
  exact ⟨rfl, cutAct_of _ rfl, hF⟩

set_option maxRecDepth 100000 in
set_option maxHeartbeats 1000000 in
theorem cut0_end (O : E.Ok) (ba : Option Addr) (bcap : Nat) (ch n : Value) : ∃ m, ∀ v w u, BView E sent p v tl w →
    cut0.wpC Tryz.prog false (RB (E.cfg k FB PostA)) (DB (E.cfg k FB PostA) sent) 161 m (fun e a' w' => e = .exit 0 ∧ (∃ u', a' = CutAct (.pointer (some ⟨E.R, 0, none⟩)) (.slice ba 0 bcap) ch n u') ∧ BView E sent p v tl w')
      (CutAct (.pointer (some ⟨E.R, 0, none⟩)) (.slice ba 0 bcap) ch n u) w := by
  have T := termsB (E.cfg k FB PostA) sent
  co_apply Exists.intro
  intro v w u hF
  simp only [cut0, cutLoop, cutCode, Code.core, Code.one, Tryz.f161, CutAct]
  co_apply wpC_seq T
  co_reg T
  co_op (BView.rely O) hF (co_quiet T)
  co_op (BView.rely O) hF (co_quiet T)
  co_op (BView.rely O) hF (co_quiet T)
  co_apply opsC_nil T
  co_then
  co_apply wpC_cond T (t := false) rfl
  simp only [Bool.false_eq_true, if_false]
  co_apply wpC_exit T
  exact ⟨rfl, cutAct_of _ rfl, hF⟩

theorem events_min (x y : Int) (w : World) : (Builtin.min_ #[3, 3] 3 #[.int .i64 x, .int .i64 y]).events Tryz.prog w #[] = #[] := by
  simp [Builtin.min_, Builtin.min2, List.foldlM]

noncomputable def cut1 : Code := Code.one cutRest
set_option maxRecDepth 100000 in
set_option maxHeartbeats 1000000 in
theorem cut1_c (O : E.Ok) (hmis : ∃ m, ∀ v w, BView E sent p v tl w → CallsC Tryz.prog false (RB (E.cfg k FB PostA)) (DB (E.cfg k FB PostA) sent) 218 #[.pointer (some ⟨E.R, 0, none⟩)] m w fun x w' => x = .int .i64 (missing p) ∧ BView E sent p v tl w')
    (ba : Option Addr) (bl bcap : Nat) (ch n : Value) : ∃ m, ∀ v w u, BView E sent p v tl w →
    cut1.wpC Tryz.prog false (RB (E.cfg k FB PostA)) (DB (E.cfg k FB PostA) sent) 161 m (fun e a' w' => e = .normal ∧ (∃ u', a' = CutAct (.pointer (some ⟨E.R, 0, none⟩)) (.slice ba bl bcap) ch (.int .i64 (if (bl : Int) < missing p then bl else missing p)) u') ∧ BView E sent p v tl w')
      (CutAct (.pointer (some ⟨E.R, 0, none⟩)) (.slice ba bl bcap) ch n u) w := by
  have T := termsB (E.cfg k FB PostA) sent
  obtain ⟨nu, hu⟩ := hmis
  co_apply Exists.intro
  intro v w u hF
  simp only [cut1, cutRest, cutLoop, cutCode, Code.core, Code.one, Code.two, Tryz.f161, CutAct]
  co_reg T
  co_op (BView.rely O) hF (co_quiet T)
  co_apply opsC_call T rfl (by rfl) rfl
  · walk_nrm
    exact hu _ _ hF
  rintro x w' ⟨rfl, hF⟩
  walk_nrm
  co_op (BView.rely O) hF (co_quiet T)
  co_op (BView.rely O) hF (co_quiet T)
  co_opw (BView.rely O) hF (have hev := events_min (missing p) bl) (rw [listed_nil (by simp [go_sem, hev])]; exact Terms.idle T _)
  co_op (BView.rely O) hF (co_quiet T)
  co_apply opsC_nil T
  refine ⟨rfl, cutAct_of _ rfl, hF⟩

noncomputable def cut3 : Code := Code.one (Code.two (Code.two cutRest))
def behindAt (x o j cap : Nat) : Option Addr := if cap = j then some ⟨x, o, none⟩ else some ⟨x, o + j, none⟩

set_option maxRecDepth 100000 in
set_option maxHeartbeats 1000000 in
theorem cut3_c (O : E.Ok) (x o bl bcap j : Nat) (hj : j ≤ bl) (hc : bl ≤ bcap) (hbig : bcap ≤ maxLen) (ch : Value) : ∃ m, ∀ v w u, BView E sent p v tl w →
    cut3.wpC Tryz.prog false (RB (E.cfg k FB PostA)) (DB (E.cfg k FB PostA) sent) 161 m (fun e a' w' => e = .normal ∧ (∃ u', a' = CutAct (.pointer (some ⟨E.R, 0, none⟩)) (.slice (behindAt x o j bcap) (bl - j) (bcap - j)) ch (.int .i64 j) u') ∧ BView E sent p v tl w')
      (CutAct (.pointer (some ⟨E.R, 0, none⟩)) (.slice (some ⟨x, o, none⟩) bl bcap) ch (.int .i64 j) u) w := by
  have T := termsB (E.cfg k FB PostA) sent
  have hev := fun w es => events_sl_l w es (some ⟨x, o, none⟩) bl bcap j (by omega) (by omega)
  have hj0 : (0 : Int) ≤ (j : Int) := by omega
  have hj1 : (j : Int) ≤ (bl : Int) := by omega
  have hj2 : (bl : Int) ≤ (bcap : Int) := by omega
  co_apply Exists.intro
  intro v w u hF
  simp only [cut3, cutRest, cutLoop, cutCode, Code.core, Code.one, Code.two, Tryz.f161, CutAct]
  co_reg T
  co_op (BView.rely O) hF (co_quiet T)
  co_op (BView.rely O) hF (co_quiet T)
  co_opw (BView.rely O) hF (skip) (co_still T)
  co_op (BView.rely O) hF (co_quiet T)
  co_apply opsC_nil T
  refine ⟨rfl, cutAct_of _ rfl, hF⟩

theorem db_setR (O : E.Ok) (i : Nat) (x : Value) {es : Array Event} (he : ∀ e ∈ es, EvP (E.cfg k FB PostA).LB (w.setCell ⟨E.R, i, none⟩ x) e) : DB (E.cfg k FB PostA) sent w (w.setCell ⟨E.R, i, none⟩ x) es :=
  ⟨keeps_set _ _ (fun i o hk => hk.2.2.1), fun y hy ⟨b, h1, h2, h3⟩ => ⟨b, h1, h2, by rw [set_other _ _ (show b ≠ E.R by have := O.r; omega)]; exact h3⟩, grow_set _ _, set_other _ _ (Ne.symm O.rg), set_other _ _ (Ne.symm O.rc), he⟩

theorem PartAt.setR {i : Nat} {x : Value} (h : PartAt E sent w p v) : PartAt E sent (w.setCell ⟨E.R, i, none⟩ x) p v := by
  rcases h with h1 | ⟨q, c, cells, h1, h2, h3, h4, h5, h6, h7, h8⟩
  · exact .inl h1
  · exact .inr ⟨q, c, cells, h1, h2, by rw [set_other _ _ (show q ≠ E.R from h7)]; exact h3, h4, h5, h6, h7, h8⟩

theorem AView.store (O : E.Ok) {v' : Value} (h : AView E sent p v' tl v w) : BView E sent p v' tl (w.setCell ⟨E.R, 0, none⟩ v') := by
  refine ⟨?_, h.part.setR, by rw [set_size]; exact h.low, fun x hx => by rw [set_size]; exact h.old x hx, fun i o e => by rw [set_other _ _ (O.fix i o e).2.1]; exact h.src i o e, let ⟨st, sm, x⟩ := h.wg; ⟨st, sm, by unfold WgIs; rw [set_other _ _ (Ne.symm O.rg)]; exact x⟩, h.dis⟩
  rw [setCell_row h.r]
  rfl

theorem evWR {v' : Value} (h : AView E sent p v' tl v w) (x : Value) (i : Nat) : EvP (E.cfg k FB PostA).LB (w.setCell ⟨E.R, i, none⟩ x) ⟨.cell ⟨E.R, i, none⟩, true, false⟩ :=
  .inr ⟨_, _, rfl, ⟨_, rfl, .inl (.inl rfl)⟩, by rw [set_size]; exact lt_of_get h.r⟩

theorem BView.cleared {q n c : Nat} (h : BView E sent p (.slice (some ⟨q, 0, none⟩) n c) tl w) : AView E sent [] (.slice (some ⟨q, 0, none⟩) 0 c) tl (.slice (some ⟨q, 0, none⟩) n c) w := by
  refine ⟨h.r, ?_, h.low, h.old, h.src, h.wg, h.dis⟩
  rcases h.part with ⟨h1, _⟩ | ⟨q, c, cells, h1, h2, h3, h4, h5, h6, h7, h8⟩
  · cases h1
  · cases h1
    exact .inr ⟨_, _, cells, rfl, by simp, h3, h4, fun i hi => by simp at hi, h6, h7, h8⟩

end
end Go.Proofs.YtlghcldiboecoaaGreatDoor.Cu

/- The stores of cut's loop, in company. -/
set_option maxRecDepth 100000
namespace Go.Proofs.YtlghcldiboecoaaGreatDoor.Cu
open Go Go.Conc Go.Pair Go.RowKit

def Code.yes : Code → Code | .cond _ x _ => x | c => c
noncomputable def cut4 : Code := Code.one (Code.two (Code.two (Code.two cutRest)))

noncomputable def cut5 : Code := Code.two (Code.two (Code.two (Code.two cutRest)))
noncomputable def cut6 : Code := Code.one cut5
noncomputable def cut78 : Code := Code.yes (Code.two cut5)
noncomputable def cut7 : Code := Code.one cut78
noncomputable def cut8 : Code := Code.two cut78

section
variable {E : EP} {sent : List (List UInt8 × Value)} {p : List UInt8} {v : Value} {tl : Bool} {w w' w₁ : World} {k : Nat} {FB : List (List UInt8 × Value) → World → Prop} {PostA : List (List UInt8 × Value) → Goroutine → World → Prop}

theorem BView.fz (h : BView E sent p v tl w) (i : Nat) : w.frozen? ⟨E.R, i, none⟩ = false := by simp [World.frozen?, h.r]
theorem AView.fz {v' : Value} (h : AView E sent p v' tl v w) (i : Nat) : w.frozen? ⟨E.R, i, none⟩ = false := by simp [World.frozen?, h.r]

theorem evs_storeR (w : World) {i : Nat} (h0 : w.cell? ⟨E.R, i, none⟩ = some v) (hfz : w.frozen? ⟨E.R, i, none⟩ = false) (y : Value) (hy : y.oneCell' = true) : (store ⟨E.R, i, none⟩ y).events Tryz.prog w #[] = #[⟨.cell ⟨E.R, i, none⟩, true, false⟩] := by
  rw [events_store Tryz.prog w #[] ⟨E.R, i, none⟩ y _ hy]
  simp [h0, hfz]

set_option maxRecDepth 100000 in
set_option maxHeartbeats 1000000 in
theorem cut8_c (O : E.Ok) (h0 : 0 < p.length) (b ch nn : Value) : ∃ m, ∀ v w u, BView E sent p v tl w →
    cut8.wpC Tryz.prog false (RB (E.cfg k FB PostA)) (DB (E.cfg k FB PostA) sent) 161 m (fun e a' w' => e = .normal ∧ (∃ u', a' = CutAct (.pointer (some ⟨E.R, 0, none⟩)) b ch nn u') ∧ ∃ v', BView E sent [] v' tl w')
      (CutAct (.pointer (some ⟨E.R, 0, none⟩)) b ch nn u) w := by
  have T := termsB (E.cfg k FB PostA) sent
  co_apply Exists.intro
  intro v w u hF
  obtain ⟨q, c, rfl, hc, hcm⟩ := hF.long h0
  have hev := fun w es => events_sl_h w es (some ⟨q, 0, none⟩) p.length c 0 (by omega) (by omega)
  simp only [cut8, cut78, cut5, Code.yes, cutRest, cutLoop, cutCode, Code.core, Code.one, Code.two, Tryz.f161, CutAct]
  co_reg T
  co_op (BView.rely O) hF (co_quiet T)
  co_op (BView.rely O) hF (co_quiet T)
  co_op (BView.rely O) hF (co_quiet T)
  co_op (BView.rely O) hF (co_quiet T)
  co_opw (BView.rely O) hF (have hc := hF.c0) (refine db_read ?_; co_evs (exact evR hF 0))
  clear hc
  co_opw (BView.rely O) hF (skip) (co_still T)
  co_op (BView.rely O) hF (co_quiet T)
  co_op (BView.rely O) hF (co_quiet T)
  co_opw (BView.rely O) hF (have hc := hF.c0; have hfz := hF.fz 0; have hse := evs_storeR _ hc hfz (.slice (some ⟨q, 0, none⟩) 0 c) rfl) (refine db_setR O 0 _ ?_; co_evs (exact evWR hF.cleared _ 0))
  co_apply opsC_nil T
  exact ⟨rfl, cutAct_of _ rfl, _, hF.cleared.store O⟩

end
end Go.Proofs.YtlghcldiboecoaaGreatDoor.Cu

/- The same, where an operation l comes last: behind it nothing is asked of the world but what the end asks. -/
namespace Go.Pair
open Go Go.Conc
section
variable {P : Program} {main : Bool} {R : World → World → Prop} {D : World → World → Array Event → Prop} {fn : FuncId} {ops : Array Oper} {Q : Exit → Act → World → Prop} {md : Region.Mode} {S : World → Prop} {nf l : Nat}

def AnyL (P : Program) (main : Bool) (R : World → World → Prop) (D : World → World → Array Event → Prop) (fn : FuncId) (md : Region.Mode) (ops : Array Oper) (Q : Exit → Act → World → Prop) (S : World → Prop) (nf l : Nat) : Nat → Array Bool → Act → World → Prop
  | 0, done, a, w => Region.ready md ops done = [] ∧ Q .normal a w
  | fuel + 1, done, a, w => (Region.ready md ops done = [] → Q .normal a w) ∧
    ∀ i ∈ Region.ready md ops done, OpM P main R D fn ops nf i (fun a' w' => ((done.setIfInBounds i true).getD l false = false → S w') ∧ AnyL P main R D fn md ops Q S nf l fuel (done.setIfInBounds i true) a' w') a w

theorem AnyL.rely (T : Terms R D) (hSR : ∀ x y, S x → R x y → S y) (hQR : ∀ a x y, Q .normal a x → R x y → Q .normal a y) :
    ∀ (fuel : Nat) (done : Array Bool) (a : Act) (w w₁ : World), AnyL P main R D fn md ops Q S nf l fuel done a w → R w w₁ → AnyL P main R D fn md ops Q S nf l fuel done a w₁
  | 0, _, _, _, _, h, r => ⟨h.1, hQR _ _ _ h.2 r⟩
  | fuel + 1, _, _, _, _, h, r => ⟨fun e => hQR _ _ _ (h.1 e) r, fun i hi => (h.2 i hi).rely T (fun a x y k r' => ⟨fun x => hSR _ _ (k.1 x) r', AnyL.rely T hSR hQR fuel _ a x y k.2 r'⟩) r⟩

theorem AnyL.sound (T : Terms R D) : ∀ (fuel t : Nat) (done : Array Bool) (a : Act) (w : World), AnyL P main R D fn md ops Q S nf l fuel done a w →
    OpsC P main R D fn ops (Region.linearise.go md ops fuel t done []) (fuel * (nf + 3) + 1) Q a w := by
  intro fuel
  induction fuel with
  | zero => intro t done a w h; simpa [Region.linearise.go] using opsC_nil T h.2
  | succ fuel ih =>
    intro t done a w h
    obtain ⟨h₀, h₁⟩ := h
    simp only [Region.linearise.go]
    change OpsC P main R D fn ops (match (Region.ready md ops done)[t % (Region.ready md ops done).length]? with
      | some i => Region.linearise.go md ops fuel (t / (Region.ready md ops done).length) (done.setIfInBounds i true) [i]
      | none => [].reverse) _ Q a w
    have en : (fuel + 1) * (nf + 3) + 1 = (fuel * (nf + 3) + 1) + nf + 3 := by rw [Nat.succ_mul]; omega
    cases hi : (Region.ready md ops done)[t % (Region.ready md ops done).length]? with
    | none =>
      have hnil : Region.ready md ops done = [] := by
        cases hr : Region.ready md ops done with
        | nil => rfl
        | cons x xs =>
          rw [hr, List.getElem?_eq_none_iff] at hi
          exact absurd (Nat.mod_lt t (by simp : (x :: xs).length > 0)) (by omega)
      exact opsC_more (by simpa using opsC_nil T (h₀ hnil)) (by omega)
    | some i =>
      simp only []
      rw [linearise_go_acc, List.reverse_singleton, List.singleton_append, en]
      exact OpM.goesOn T ((h₁ i (List.mem_of_getElem? hi)).mono fun a' w' x => ih _ _ a' w' x.2)

theorem gd_ne (d : Array Bool) {j l : Nat} (h : j ≠ l) : (d.setIfInBounds j true).getD l false = d.getD l false := by
  simp [Array.getD_eq_getD_getElem?, Array.getElem?_setIfInBounds_ne h]

def lastOf (md : Region.Mode) (ops : Array Oper) (done : Array Bool) (l i : Nat) : Bool := !(done.getD l false) && match ops[l]? with | some ol => ol.after.any (fun e => Region.binds md e && e.on == i) | none => false

theorem lastOf_spec {done : Array Bool} {l i : Nat} (h : lastOf md ops done l i = true) : done.getD l false = false ∧ ∃ ol, ops[l]? = some ol ∧ ∃ e ∈ ol.after, Region.binds md e = true ∧ e.on = i := by
  unfold lastOf at h
  rw [Bool.and_eq_true] at h
  refine ⟨by simpa using h.1, ?_⟩
  cases ho : ops[l]? with
  | none => rw [ho] at h; simp at h
  | some ol =>
    rw [ho] at h
    obtain ⟨e, he, h2⟩ := Array.any_eq_true'.1 h.2
    rw [Bool.and_eq_true] at h2
    exact ⟨ol, rfl, e, he, h2.1, by simpa using h2.2⟩

theorem AnyL.first (T : Terms R D) (hSR : ∀ x y, S x → R x y → S y) (hQR : ∀ a x y, Q .normal a x → R x y → Q .normal a y) {i : Nat} {oi : Oper} {v : Value} (hi : ops[i]? = some oi)
    (hsel : ∀ (j : Nat) (o : Oper) cs b, ops[j]? = some o → o.op ≠ .select cs b) (hlb : ∃ ol, ops[l]? = some ol ∧ ∃ e ∈ ol.after, Region.binds md e = true ∧ e.on = i) :
    ∀ (fuel : Nat) (done : Array Bool) (a : Act) (w : World),
      (∀ j oj, ops[j]? = some oj → j ≠ i → done.getD j true = false → (∀ e ∈ oj.after, Region.binds md e = true → e.on ≠ i) → oi.apart ops oj = true) →
      i ∈ Region.ready md ops done → done.getD l false = false → YieldsIfC P D fn ops S oi v a → S w →
      AnyL P main R D fn md ops Q S nf l fuel (done.setIfInBounds i true) (a.put oi.dst v) w → AnyL P main R D fn md ops Q S nf l (fuel + 1) done a w := by
  have hK : ∀ fuel done, ∀ a x y, ((done.getD l false = false → S x) ∧ AnyL P main R D fn md ops Q S nf l fuel done a x) → R x y → ((done.getD l false = false → S y) ∧ AnyL P main R D fn md ops Q S nf l fuel done a y) :=
    fun fuel done a x y h r => ⟨fun z => hSR _ _ (h.1 z) r, AnyL.rely T hSR hQR fuel done a x y h.2 r⟩
  intro fuel
  induction fuel with
  | zero =>
    intro done a w _ hr hld hy hS H
    refine ⟨fun h => (by rw [h] at hr; cases hr), fun j hj => ?_⟩
    by_cases hji : j = i
    · subst hji; exact .inl (hy.opC hSR hi (hK _ _) hS ⟨fun _ => hS, H⟩)
    · have := ready_mono hj hji
      rw [H.1] at this
      cases this
  | succ fuel ih =>
    intro done a w hfree hr hld hy hS H
    refine ⟨fun h => (by rw [h] at hr; cases hr), fun j hj => ?_⟩
    by_cases hji : j = i
    · subst hji; exact .inl (hy.opC hSR hi (hK _ _) hS ⟨fun _ => hS, H⟩)
    · have h1 := H.2 j (ready_mono hj hji)
      obtain ⟨hjun, oj, hoj, hall⟩ := mem_ready.1 hj
      have hnot : ∀ e ∈ oj.after, Region.binds md e = true → e.on ≠ i := fun e he hb heq => by
        have h1 := hall e he hb
        have h0 := (mem_ready.1 hr).1
        rw [heq] at h1
        rcases Nat.lt_or_ge i done.size with h' | h'
        · simp [h'] at h0 h1; rw [h0] at h1; cases h1
        · simp [Array.getElem?_eq_none h'] at h1
      have hjl : j ≠ l := fun x => by
        obtain ⟨ol, h1, e, h2, h3, h4⟩ := hlb
        rw [← x, hoj] at h1
        cases h1
        exact hnot e h2 h3 h4
      have hil : i ≠ l := fun x => by
        obtain ⟨ol, h1, e, h2, h3, h4⟩ := hlb
        obtain ⟨h5, o5, h6, h7⟩ := mem_ready.1 hr
        rw [x, h1] at h6
        cases h6
        have h8 := h7 e h2 h3
        rw [h4] at h8
        rcases Nat.lt_or_ge i done.size with h' | h'
        · simp [h'] at h5 h8; rw [h5] at h8; cases h8
        · simp [Array.getElem?_eq_none h'] at h8
      have hun : ((done.setIfInBounds i true).setIfInBounds j true).getD l false = false := by rw [gd_ne _ hjl, gd_ne _ hil]; exact hld
      have h2 := OpM.putIf hoj (hfree j oj hoj hji hjun hnot) (fun cs b => hsel i oi cs b hi) (fun cs b => hsel j oj cs b hoj) hy h1
      refine h2.mono fun a' w' h3 => ⟨fun _ => h3.2.1 hun, ih (done.setIfInBounds j true) a' w' (fun k ok hk hki hun hno => hfree k ok hk hki ?_ hno) (ready_mono hr (Ne.symm hji)) (by rw [gd_ne _ hjl]; exact hld) h3.1 (h3.2.1 hun) ?_⟩
      · by_cases hjk : j = k
        · subst hjk; exact hjun
        · rw [getD_set_ne true hjk] at hun; exact hun
      · rw [Array.setIfInBounds_comm _ _ hji]
        exact h3.2.2

theorem AnyL.take (T : Terms R D) (hSR : ∀ x y, S x → R x y → S y) (hQR : ∀ a x y, Q .normal a x → R x y → Q .normal a y) {i : Nat} {oi : Oper} {v : Value} {fuel : Nat} {done : Array Bool} {a : Act} {w : World} (hi : ops[i]? = some oi)
    (hs : Region.noSelect ops = true) (hf : Region.free md ops done i = true) (hr : (Region.ready md ops done).contains i = true) (hlo : lastOf md ops done l i = true)
    (hy : YieldsIfC P D fn ops S oi v a) (hS : S w) (h : AnyL P main R D fn md ops Q S nf l fuel (done.setIfInBounds i true) (a.put oi.dst v) w) : AnyL P main R D fn md ops Q S nf l (fuel + 1) done a w :=
  AnyL.first T hSR hQR hi (Region.noSelect_spec hs) (lastOf_spec hlo).2 fuel done a w (Region.free_spec hi hf) (by simpa using hr) (lastOf_spec hlo).1 hy hS h

theorem AnyL.only {i : Nat} {fuel : Nat} {done : Array Bool} {a : Act} {w : World} (hr : Region.ready md ops done = [i])
    (h : OpM P main R D fn ops nf i (fun a' w' => ((done.setIfInBounds i true).getD l false = false → S w') ∧ AnyL P main R D fn md ops Q S nf l fuel (done.setIfInBounds i true) a' w') a w) : AnyL P main R D fn md ops Q S nf l (fuel + 1) done a w :=
  ⟨fun h0 => (by rw [hr] at h0; cases h0), fun j hj => by rw [hr] at hj; simp at hj; subst hj; exact h⟩

theorem AnyL.all {done : Array Bool} {a : Act} {w : World} (hr : Region.ready md ops done = []) (h : Q .normal a w) : ∀ fuel, AnyL P main R D fn md ops Q S nf l fuel done a w
  | 0 => ⟨hr, h⟩
  | _ + 1 => ⟨fun _ => h, fun i hi => by rw [hr] at hi; cases hi⟩

theorem wpC_region_l (T : Terms R D) (hd : LetsDraw D) {id : Nat} {a : Act} {w : World} (hm : P.follows .mixedOrders = true)
    (h : ∀ w₁, R w w₁ → AnyL P main R D fn .any ops Q S nf l ops.size (Array.replicate ops.size false) a { w₁ with drawn := w₁.drawn + 1 }) : (Code.region id ops true).wpC P main R D fn (ops.size * (nf + 3) + 1 + 1) Q a w :=
  wpC_region_draw hd fun w₁ h₁ t => by
    simp only [Region.schedule, hm, Bool.true_or, if_true]
    exact AnyL.sound T ops.size t _ a _ (h w₁ h₁)

end
end Go.Pair

/- c.part = append(c.part, b[:n]...), in company. -/
set_option maxRecDepth 100000
namespace Go.Pair
open Go Go.Conc
section
variable {P : Program} {main : Bool} {R : World → World → Prop} {D : World → World → Array Event → Prop} {fn : FuncId} {ops : Array Oper} {Q : Exit → Act → World → Prop} {md : Region.Mode} {S : World → Prop} {nf l : Nat}
theorem opC_of {i : Nat} {o : Oper} {K : Act → World → Prop} {a : Act} {w : World} (ho : ops[i]? = some o) (hw : Region.wanted o (yielded ops a.tmps) = true)
    (h : ∀ w₁, R w w₁ → uponK o a (fun a' w' => D w₁ w' (listed P fn a o w₁) ∧ K a' w') ((execOp a.eval o).run P w₁)) : OpC P R D fn ops i K a w := by
  unfold OpC
  simp only [ho, hw, if_true]
  exact h

theorem opC_k {i : Nat} {o : Oper} {K : Act → World → Prop} {a : Act} {w : World} (ho : ops[i]? = some o) (hw : Region.wanted o (yielded ops a.tmps) = true)
    (h : ∀ w₁, R w w₁ → ∀ K' : Act → World → Prop, (∀ a' w', D w₁ w' (listed P fn a o w₁) ∧ K a' w' → K' a' w') → uponK o a K' ((execOp a.eval o).run P w₁)) : OpC P R D fn ops i K a w :=
  opC_of ho hw fun w₁ r => h w₁ r _ fun _ _ x => x

theorem AnyL.one (T : Terms R D) (hSR : ∀ x y, S x → R x y → S y) (hQR : ∀ a x y, Q .normal a x → R x y → Q .normal a y) {i : Nat} {oi : Oper} {v : Value} {fuel : Nat} {done : Array Bool} {a : Act} {w : World} (hi : ops[i]? = some oi)
    (hr : Region.ready md ops done = [i]) (hy : YieldsIfC P D fn ops S oi v a) (hS : S w) (h : AnyL P main R D fn md ops Q S nf l fuel (done.setIfInBounds i true) (a.put oi.dst v) w) : AnyL P main R D fn md ops Q S nf l (fuel + 1) done a w :=
  AnyL.only hr (.inl (hy.opC hSR hi (fun a x y h r => ⟨fun z => hSR _ _ (h.1 z) r, AnyL.rely T hSR hQR fuel _ a x y h.2 r⟩) hS ⟨fun _ => hS, h⟩))

end
end Go.Pair
namespace Go.Proofs.YtlghcldiboecoaaGreatDoor.Cu
open Go Go.Conc Go.Pair Go.RowKit

noncomputable def cut2 : Code := Code.one (Code.two cutRest)
def RIs (E : EP) (v : Value) (tl : Bool) (w : World) : Prop := w.heap[E.R]? = some (.cells #[v, .bool tl] 237)

section
variable {E : EP} {sent : List (List UInt8 × Value)} {p : List UInt8} {v : Value} {tl : Bool} {w w' w₁ : World} {k : Nat} {FB : List (List UInt8 × Value) → World → Prop} {PostA : List (List UInt8 × Value) → Goroutine → World → Prop}
theorem RIs.rely (O : E.Ok) (h : RIs E v tl w) (r : RB (E.cfg k FB PostA) w w₁) : RIs E v tl w₁ := r.keep.keep _ _ h ⟨O.rg, O.rc, O.rv, fun ⟨x, _⟩ => by have := O.r; omega⟩
theorem RIs.c0 (h : RIs E v tl w) : w.cell? ⟨E.R, 0, none⟩ = some v := by unfold RIs at h; simp [World.cell?, h]
theorem AView.c0 {v' : Value} (h : AView E sent p v' tl v w) : w.cell? ⟨E.R, 0, none⟩ = some v := by simp [World.cell?, h.r]
theorem PartAt.shape (h : PartAt E sent w p v) : ∃ a c, v = .slice a p.length c := by
  rcases h with ⟨rfl, rfl⟩ | ⟨q, c, cells, h1, _⟩
  · exact ⟨none, 0, rfl⟩
  · exact ⟨_, _, h1⟩

theorem RIs.ev (h : RIs E v tl w) (i : Nat) : EvP (E.cfg k FB PostA).LB w ⟨.cell ⟨E.R, i, none⟩, false, false⟩ := .inr ⟨_, _, rfl, ⟨_, rfl, .inl (.inl rfl)⟩, lt_of_get h⟩

set_option maxRecDepth 100000 in
set_option maxHeartbeats 1000000 in
theorem cut2_c (O : E.Ok) (x o bl bcap : Nat) (news : List UInt8) (cs : Array Value) (hx : E.Fix x = some (.cells cs 5)) (hns : ∀ a : Addr, a.block = x → ¬ E.Shun (.cell a)) (hcs : ∀ i (h : i < news.length), cs[o + i]? = some (.int .u8 (news[i].toNat : Int)))
    (h0 : 0 < news.length) (hj : news.length ≤ bl) (hc : bl ≤ bcap) (hbig : bcap ≤ maxLen) (hp : p.length + news.length ≤ 4294967296) (ch : Value) : ∃ m, ∀ v w u, BView E sent p v tl w →
    cut2.wpC Tryz.prog false (RB (E.cfg k FB PostA)) (DB (E.cfg k FB PostA) sent) 161 m (fun e a' w' => e = .normal ∧ (∃ u', a' = CutAct (.pointer (some ⟨E.R, 0, none⟩)) (.slice (some ⟨x, o, none⟩) bl bcap) ch (.int .i64 news.length) u') ∧ ∃ v', BView E sent (p ++ news) v' tl w')
      (CutAct (.pointer (some ⟨E.R, 0, none⟩)) (.slice (some ⟨x, o, none⟩) bl bcap) ch (.int .i64 news.length) u) w := by
  have T := termsB (E.cfg k FB PostA) sent
  have hev := fun w es => events_sl_h w es (some ⟨x, o, none⟩) bl bcap news.length (by omega) (by omega)
  have hj0 : (0 : Int) ≤ (news.length : Int) := by omega
  have hj1 : (news.length : Int) ≤ (bcap : Int) := by omega
  have hj2 : (bl : Int) ≤ (bcap : Int) := by omega
  co_apply Exists.intro
  intro v w u hF
  obtain ⟨va, vc, rfl⟩ := hF.shape
  have hQR : ∀ (a : Act) (y z : World), ((Exit.normal = Exit.normal ∧ (∃ u', a = CutAct (.pointer (some ⟨E.R, 0, none⟩)) (.slice (some ⟨x, o, none⟩) bl bcap) ch (.int .i64 news.length) u') ∧ ∃ v', BView E sent (p ++ news) v' tl y)) → RB (E.cfg k FB PostA) y z →
      (Exit.normal = Exit.normal ∧ (∃ u', a = CutAct (.pointer (some ⟨E.R, 0, none⟩)) (.slice (some ⟨x, o, none⟩) bl bcap) ch (.int .i64 news.length) u') ∧ ∃ v', BView E sent (p ++ news) v' tl z) := fun a y z ⟨h1, h2, v', h3⟩ r => ⟨h1, h2, v', h3.rely O r⟩
  simp only [cut2, cutRest, cutLoop, cutCode, Code.core, Code.one, Code.two, Tryz.f161, CutAct]
  co_apply wpC_region_l T letsB (S := RIs E (.slice va p.length vc) tl) (nf := 0) (l := 11) (by first | kernel_rfl | rfl)
  intro _ hR
  replace hF := BView.rely O (BView.rely O hF hR) (rbDraw (k := k) (FB := FB) (PostA := PostA) _)
  clear hR
  have hS : RIs E (.slice va p.length vc) tl _ := hF.r
  simp only [List.size_toArray, List.length_cons, List.length_nil, Nat.reduceAdd, Nat.zero_add]
  co_applyP AnyL.take T (fun _ _ hz rz => (RIs.rely O) hz rz) hQR (i := 0) rfl (by first | kernel_rfl | decide +kernel) (by first | kernel_rfl | decide +kernel) (by first | kernel_rfl | decide +kernel) (by first | kernel_rfl | decide +kernel)
    (.inl ⟨by rfl, fun _ hw => ⟨run_eq_of ?run1, ?guar1⟩⟩) hS ?rest1
  case run1 =>
    intro Kz hKz
    (skip)
    go_simp
    exact hKz
  case guar1 =>
    (skip)
    (co_quiet T)
  try walk_nrm
  co_applyP AnyL.take T (fun _ _ hz rz => (RIs.rely O) hz rz) hQR (i := 1) rfl (by first | kernel_rfl | decide +kernel) (by first | kernel_rfl | decide +kernel) (by first | kernel_rfl | decide +kernel) (by first | kernel_rfl | decide +kernel)
    (.inl ⟨by rfl, fun _ hw => ⟨run_eq_of ?run2, ?guar2⟩⟩) hS ?rest2
  case run2 =>
    intro Kz hKz
    (skip)
    go_simp
    exact hKz
  case guar2 =>
    (skip)
    (co_quiet T)
  try walk_nrm
  co_applyP AnyL.take T (fun _ _ hz rz => (RIs.rely O) hz rz) hQR (i := 2) rfl (by first | kernel_rfl | decide +kernel) (by first | kernel_rfl | decide +kernel) (by first | kernel_rfl | decide +kernel) (by first | kernel_rfl | decide +kernel)
    (.inl ⟨by rfl, fun _ hw => ⟨run_eq_of ?run3, ?guar3⟩⟩) hS ?rest3
  case run3 =>
    intro Kz hKz
    (skip)
    go_simp
    exact hKz
  case guar3 =>
    (skip)
    (co_quiet T)
  try walk_nrm
  co_applyP AnyL.take T (fun _ _ hz rz => (RIs.rely O) hz rz) hQR (i := 3) rfl (by first | kernel_rfl | decide +kernel) (by first | kernel_rfl | decide +kernel) (by first | kernel_rfl | decide +kernel) (by first | kernel_rfl | decide +kernel)
    (.inl ⟨by rfl, fun _ hw => ⟨run_eq_of ?run4, ?guar4⟩⟩) hS ?rest4
  case run4 =>
    intro Kz hKz
    (skip)
    go_simp
    exact hKz
  case guar4 =>
    (skip)
    (co_quiet T)
  try walk_nrm
  co_applyP AnyL.take T (fun _ _ hz rz => (RIs.rely O) hz rz) hQR (i := 4) rfl (by first | kernel_rfl | decide +kernel) (by first | kernel_rfl | decide +kernel) (by first | kernel_rfl | decide +kernel) (by first | kernel_rfl | decide +kernel)
    (.inl ⟨by rfl, fun _ hw => ⟨run_eq_of ?run5, ?guar5⟩⟩) hS ?rest5
  case run5 =>
    intro Kz hKz
    (have hc := hw.c0)
    go_simp
    exact hKz
  case guar5 =>
    (have hc := hw.c0)
    (refine db_read ?_; co_evs (exact hw.ev 0))
  try walk_nrm
  co_applyP AnyL.take T (fun _ _ hz rz => (RIs.rely O) hz rz) hQR (i := 5) rfl (by first | kernel_rfl | decide +kernel) (by first | kernel_rfl | decide +kernel) (by first | kernel_rfl | decide +kernel) (by first | kernel_rfl | decide +kernel)
    (.inl ⟨by rfl, fun _ hw => ⟨run_eq_of ?run6, ?guar6⟩⟩) hS ?rest6
  case run6 =>
    intro Kz hKz
    (skip)
    go_simp
    exact hKz
  case guar6 =>
    (skip)
    (co_quiet T)
  try walk_nrm
  co_applyP AnyL.take T (fun _ _ hz rz => (RIs.rely O) hz rz) hQR (i := 6) rfl (by first | kernel_rfl | decide +kernel) (by first | kernel_rfl | decide +kernel) (by first | kernel_rfl | decide +kernel) (by first | kernel_rfl | decide +kernel)
    (.inl ⟨by rfl, fun _ hw => ⟨run_eq_of ?run7, ?guar7⟩⟩) hS ?rest7
  case run7 =>
    intro Kz hKz
    (skip)
    go_simp
    exact hKz
  case guar7 =>
    (skip)
    (co_quiet T)
  try walk_nrm
  co_applyP AnyL.take T (fun _ _ hz rz => (RIs.rely O) hz rz) hQR (i := 7) rfl (by first | kernel_rfl | decide +kernel) (by first | kernel_rfl | decide +kernel) (by first | kernel_rfl | decide +kernel) (by first | kernel_rfl | decide +kernel)
    (.inl ⟨by rfl, fun _ hw => ⟨run_eq_of ?run8, ?guar8⟩⟩) hS ?rest8
  case run8 =>
    intro Kz hKz
    (skip)
    go_simp
    exact hKz
  case guar8 =>
    (skip)
    (co_still T)
  try walk_nrm
  refine AnyL.only (i := 8) (by first | kernel_rfl | decide +kernel) (.inl (opC_of rfl (by rfl) fun w₁ r => ?_))
  replace hF := hF.rely O r
  clear hS r
  have hsr := hF.src x _ hx
  obtain ⟨v', w', hr, hA, hD⟩ := append_c (k := k) (FB := FB) (PostA := PostA) (c := bcap) O hF (a := ⟨x, o, none⟩) (m := news.length) (news := news) rfl h0 (fun j u hu => by
    have hjl : j < news.length := by have := (List.getElem?_eq_some_iff.1 hu).1; simpa [bc] using this
    rw [bc_get news j hjl] at hu
    rw [← hu, Addr.add_lit]
    simp [World.cell?, hsr, hcs j hjl]) (fun ad e => (O.fix x _ hx).still e (hns ad e)) (lt_of_get hsr) hp
  refine uponK_append (.tmp 19) (.tmp 22) 57 rfl rfl rfl hr ⟨hD _ fun e he => ?_, fun _ => hA.r, ?_⟩
  · have hm := mem_listed he
    rw [events_append_op (.tmp 19) (.tmp 22) 57 rfl rfl rfl] at hm
    exact hm
  clear hr hD hF hsr
  have hS : RIs E (.slice va p.length vc) tl _ := hA.r
  walk_nrm
  co_applyP AnyL.one T (fun _ _ hz rz => (RIs.rely O) hz rz) hQR (i := 9) rfl (by first | kernel_rfl | decide +kernel)
    (.inl ⟨by rfl, fun _ hw => ⟨run_eq_of ?run9, ?guar9⟩⟩) hS ?rest9
  case run9 =>
    intro Kz hKz
    (skip)
    go_simp
    exact hKz
  case guar9 =>
    (skip)
    (co_quiet T)
  try walk_nrm
  co_applyP AnyL.one T (fun _ _ hz rz => (RIs.rely O) hz rz) hQR (i := 10) rfl (by first | kernel_rfl | decide +kernel)
    (.inl ⟨by rfl, fun _ hw => ⟨run_eq_of ?run10, ?guar10⟩⟩) hS ?rest10
  case run10 =>
    intro Kz hKz
    (skip)
    go_simp
    exact hKz
  case guar10 =>
    (skip)
    (co_quiet T)
  try walk_nrm
  refine AnyL.only (i := 11) (by first | kernel_rfl | decide +kernel) (.inl (opC_k rfl (by rfl) fun w₂ r K' hK => ?_))
  replace hA := hA.rely O r
  clear hS r
  have hc := hA.c0
  have hfz := hA.fz 0
  obtain ⟨a', c', rfl⟩ := hA.part.shape
  have hse := evs_storeR _ hc hfz (.slice a' (p ++ news).length c') rfl
  simp only [List.length_append] at hse
  go_simp
  try (unfold stored; go_simp)
  refine hK _ _ ⟨?_, fun h => absurd h (by first | decide | simp), ?_⟩
  · refine db_setR O 0 _ ?_
    co_evs (exact evWR hA _ 0)
  clear hK K'
  try walk_nrm
  have hB := hA.store O
  rw [List.length_append] at hB
  exact AnyL.all (by first | kernel_rfl | decide +kernel) ⟨rfl, cutAct_of _ rfl, _, hB⟩ _

end
end Go.Proofs.YtlghcldiboecoaaGreatDoor.Cu
