/- Lone code beside leavers, 3: one step of goroutine 0 in code whose operations are tame. -/
import Derived.Test.YtlghcldiboecoaaGreatDoorHSim
set_option linter.unusedVariables false
set_option linter.unusedSimpArgs false
namespace Go.Pair
open Go Go.Conc

/-- What a tame operation may come to: a value, nothing, a call of one of the functions S. -/
def OkN (S : FuncId → Prop) : Next → Prop
  | .value _ => True
  | .skip => True
  | .enter f _ => S f
  | _ => False

def OkO (P : Program) (S : FuncId → Prop) (o : Oper) : Prop := ∀ fr : Frame, Tame P (OkN S) (execOp fr.eval o) (fun _ => False)

def OkC (P : Program) (S : FuncId → Prop) : Code → Prop
  | .skip => True
  | .region _ ops _ => ∀ (i : Nat) (o : Oper), ops[i]? = some o → OkO P S o
  | .seq a b => OkC P S a ∧ OkC P S b
  | .cond _ a b => OkC P S a ∧ OkC P S b
  | .block _ b => OkC P S b
  | .loop b => OkC P S b
  | .rangeFunc _ _ _ _ => False
  | .exit _ => True
  | .scope b => OkC P S b
  | .label _ => True
  | .goto _ => True
  | .ret => True
  | .refuse _ => False

def OkI (P : Program) (S : FuncId → Prop) : Item → Prop
  | .code c => OkC P S c
  | .inBlock _ => True
  | .inLoop b => OkC P S b
  | .inScope b => OkC P S b
  | .inRegion ops _ => ∀ (i : Nat) (o : Oper), ops[i]? = some o → OkO P S o
  | _ => False

structure OkFr (P : Program) (S : FuncId → Prop) (fr : Frame) : Prop where
  defers : fr.defers = []
  kind : fr.kind = .normal
  round : fr.roundOf = none
  fn : ∃ f, P.funcs[fr.fn]? = some f
  mode : fr.mode = .run ∨ fr.mode = .returning
  todo : fr.mode = .run → ∀ it ∈ fr.todo, OkI P S it

def OkUp (P : Program) (S : FuncId → Prop) (up : List Frame) : Prop := ∀ c ∈ up, OkFr P S c ∧ c.mode = .run

def OkS (P : Program) (S : FuncId → Prop) : Prop := ∀ f, S f → ∃ fn c, P.funcs[f]? = some fn ∧ (fn.name == "runtime.NumGoroutine") = false ∧ fn.body = some c ∧ OkC P S c

section
variable {P : Program} {S : FuncId → Prop} {Bs : Nat → Prop}

theorem okFr_enter (hS : OkS P S) {f : FuncId} (hf : S f) (args : Array Value) : OkFr P S (Frame.enter P f args .normal) ∧ (Frame.enter P f args .normal).mode = .run := by
  obtain ⟨fn, c, h1, _, h2, h3⟩ := hS f hf
  refine ⟨⟨rfl, rfl, rfl, ⟨fn, h1⟩, .inl rfl, fun _ it hit => ?_⟩, rfl⟩
  simp [Frame.enter, h1, h2] at hit
  subst hit
  exact h3

theorem okFr_finish {fr : Frame} (h : OkFr P S fr) (hm : fr.mode = .run) (v : Value) : OkFr P S (fr.finish v) ∧ (fr.finish v).mode = .run := by
  have ht := h.todo hm
  unfold Frame.finish
  split
  · rename_i ops i rest k hk
    rw [hk] at ht
    refine ⟨⟨h.defers, h.kind, h.round, h.fn, h.mode, fun _ it hit => ?_⟩, hm⟩
    simp only [List.mem_cons] at hit
    rcases hit with rfl | hit
    · exact ht (.inRegion ops (i :: rest)) (by simp)
    · exact ht it (by simp [hit])
  · rename_i l k hk; rw [hk] at ht; exact (ht (.inRangeFunc l) (by simp)).elim
  · rename_i k hk; rw [hk] at ht; exact (ht .beginRound (by simp)).elim
  · rename_i d b r s k hk; rw [hk] at ht; exact (ht (.call d b r s) (by simp)).elim
  · rename_i r a k hk; rw [hk] at ht; exact (ht (.extern r a) (by simp)).elim
  · exact ⟨h, hm⟩

theorem okC_findLabel {l : Nat} : ∀ {c c' : Code}, OkC P S c → findLabel c l = some c' → OkC P S c' := by
  intro c
  induction c with
  | seq a b iha ihb =>
    intro c' h e
    simp only [findLabel] at e
    cases ha : findLabel a l with
    | some r => rw [ha] at e; obtain rfl := Option.some.inj e; exact ⟨iha h.1 ha, h.2⟩
    | none => rw [ha] at e; exact ihb h.2 e
  | label l' =>
    intro c' h e
    simp only [findLabel] at e
    split at e
    · obtain rfl := Option.some.inj e; trivial
    · cases e
  | _ => intro c' h e; simp [findLabel] at e

theorem okI_goto {l : Nat} : ∀ {k k' : List Item}, (∀ it ∈ k, OkI P S it) → gotoIn l k = some k' → ∀ it ∈ k', OkI P S it := by
  intro k
  induction k with
  | nil => intro k' _ e; simp [gotoIn] at e
  | cons x k ih =>
    intro k' h e
    have hk : ∀ it ∈ k, OkI P S it := fun it hit => h it (by simp [hit])
    cases x
    case inScope b =>
      simp only [gotoIn] at e
      cases hb : findLabel b l with
      | none => rw [hb] at e; exact ih hk e
      | some r =>
        rw [hb] at e
        obtain rfl := Option.some.inj e
        have hb' : OkC P S b := h (.inScope b) (by simp)
        intro it hit
        simp only [List.mem_cons] at hit
        rcases hit with rfl | rfl | hit
        · exact okC_findLabel hb' hb
        · exact hb'
        · exact hk it hit
    all_goals (simp only [gotoIn] at e; exact ih hk e)

theorem okI_exit {id : Nat} : ∀ {k k' : List Item}, (∀ it ∈ k, OkI P S it) → exitTo id k = some k' → ∀ it ∈ k', OkI P S it := by
  intro k
  induction k with
  | nil => intro k' _ e; simp [exitTo] at e
  | cons x k ih =>
    intro k' h e
    have hk : ∀ it ∈ k, OkI P S it := fun it hit => h it (by simp [hit])
    cases x
    case inBlock b =>
      simp only [exitTo] at e
      split at e
      · obtain rfl := Option.some.inj e; exact hk
      · exact ih hk e
    all_goals (simp only [exitTo] at e; exact ih hk e)

/-- One step, of goroutine 0 in the real memory (its callers: up, then z) and of the lone one (up, then z'). -/
inductive One (P : Program) (S : FuncId → Prop) (Bs : Nat → Prop) (K : Nat) (fr : Frame) (up z z' : List Frame) (w v : World) : Prop
  | bad (o : Outcome) (v' : World) (h : (stepG P true (G fr (up ++ z')) v).bare = .ended o v')
  | panic (chain : List PanicEntry) (v' : World) (h : (stepG P true (G fr (up ++ z')) v).bare = .go (G (fr.raise chain) (up ++ z')) v')
  | go (fr' : Frame) (up' : List Frame) (w' v' : World) (es : Array Event) (hw : stepG P true (G fr (up ++ z)) w = .go (G fr' (up' ++ z)) w' es) (hv : (stepG P true (G fr (up ++ z')) v).bare = .go (G fr' (up' ++ z')) v')
      (hf : OkFr P S fr') (hu : OkUp P S up') (ha : After Bs K w v w' v') (hes : ∀ e ∈ es, EvG Bs w'.heap.size e)

theorem After.refl {w v : World} (h : Sim Bs w v) : After Bs 0 w v w v := ⟨h, Nat.le_refl _, fun _ _ => rfl, rfl, rfl, rfl, rfl, Same.refl _, fun _ _ h _ => h⟩

theorem stepG_exec {fr : Frame} {cs : List Frame} {w : World} (hm : fr.mode = .run) : stepG P true (G fr cs) w = stepG.exec P true true fr cs none w := by
  unfold stepG G
  simp only [hm]

/-- A step of control alone. -/
theorem One.ctl {fr fr' : Frame} {up z z' : List Frame} {w v : World} (h : ∀ cs w, stepG P true (G fr cs) w = .go (G fr' cs) w) (hs : Sim Bs w v) (hf : OkFr P S fr') (hu : OkUp P S up) : One P S Bs 0 fr up z z' w v :=
  .go fr' up w v #[] (h _ _) (by rw [h]; rfl) hf hu (After.refl hs) (by simp)

theorem seen_evG {fn : FuncId} {es : Array Event} {B : Nat} (h : ∀ e ∈ es, EvG Bs B e) : ∀ e ∈ seen P fn es, EvG Bs B e := fun e he => h e (mem_seen he)

/-- An operation. -/
theorem One.apply {fr : Frame} {up z z' : List Frame} {w v : World} {s : Sem Next} (hS : OkS P S) (hfr : OkFr P S fr) (hm : fr.mode = .run) (hu : OkUp P S up) (hn : ∃ ops l k, fr.todo = .inRegion ops l :: k)
    (hst : ∀ cs w, stepG P true (G fr cs) w = stepG.apply P true fr cs none s w) (hT : Tame P (OkN S) s (fun _ => False)) (hs : Sim Bs w v) (ht : ∀ j, j < uses P s w → v.tape (v.drawn + j) = w.tape (w.drawn + j)) :
    One P S Bs (uses P s w) fr up z z' w v := by
  obtain ⟨ops₀, l₀, k₀, htd⟩ := hn
  have hke : (fr.kind == CallKind.early) = false := by rw [hfr.kind]; rfl
  cases tame_sim s _ w v #[] hT (fun _ h => h.elim) hs ht with
  | bad h v' hr hb =>
    cases h with
    | stuck s => exact .bad _ v' (by rw [hst]; simp only [stepG.apply, Sem.runT_eq, hr, if_true]; rfl)
    | unsupported u => cases u <;> first | exact hb.elim | exact .bad _ v' (by rw [hst]; simp only [stepG.apply, Sem.runT_eq, hr, if_true]; rfl)
    | _ => exact hb.elim
  | panic x w' v' es' hw hv ha hes =>
    refine .panic [{ v := x, recovered := false }] v' ?_
    rw [hst]
    simp only [stepG.apply, Sem.runT_eq, hv, if_true]
    rfl
  | ok a w' v' es' hw hv hq ha hes =>
    have ew : es' = #[] ++ es' := by simp
    cases a with
    | value x =>
      obtain ⟨h1, h2⟩ := okFr_finish hfr hm x
      refine .go (fr.finish x) up w' v' _ ?_ ?_ h1 hu ha (seen_evG (P := P) (fn := fr.fn) (es := #[] ++ es') (by simpa using hes))
      · rw [hst]
        simp only [stepG.apply, hw, if_true, hke]
        simp [GStep.after, G]
      · rw [hst]
        simp only [stepG.apply, Sem.runT_eq, hv, if_true]
        rfl
    | skip =>
      obtain ⟨h1, h2⟩ := okFr_finish hfr hm undef
      refine .go (fr.finish undef) up w' v' _ ?_ ?_ h1 hu ha (seen_evG (P := P) (fn := fr.fn) (es := #[] ++ es') (by simpa using hes))
      · rw [hst]
        simp only [stepG.apply, hw, if_true, hke]
        simp [GStep.after, G]
      · rw [hst]
        simp only [stepG.apply, Sem.runT_eq, hv, if_true]
        rfl
    | enter f args =>
      obtain ⟨h1, h2⟩ := okFr_enter (P := P) hS hq args
      refine .go (Frame.enter P f args .normal) (fr :: up) w' v' _ ?_ ?_ h1 (fun c hc => ?_) ha (seen_evG (P := P) (fn := fr.fn) (es := #[] ++ es') (by simpa using hes))
      · rw [hst]
        simp only [stepG.apply, hw, if_true, hke, htd]
        simp [GStep.after, G]
      · rw [hst]
        simp only [stepG.apply, Sem.runT_eq, hv, if_true, htd]
        rfl
      · simp only [List.mem_cons] at hc
        rcases hc with rfl | hc
        · exact ⟨hfr, hm⟩
        · exact hu c hc
    | _ => exact hq.elim

end
end Go.Pair
