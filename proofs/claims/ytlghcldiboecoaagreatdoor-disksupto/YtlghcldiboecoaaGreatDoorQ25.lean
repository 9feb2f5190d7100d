/- Lone code beside leavers, 5: a contract of the lone machine, over every tape and with the shunned blocks blank, is one beside leavers. -/
import Derived.Test.YtlghcldiboecoaaGreatDoorQ24
set_option linter.unusedVariables false
set_option linter.unusedSimpArgs false
namespace Go.Pair
open Go Go.Conc

def trap (P : Program) : Frame := { fn := P.funcs.size, tmps := #[], todo := [.call default false "fmt's door, shut" #[]], defers := [], mode := .run, kind := .normal }

section
variable {P : Program} {S : FuncId → Prop} {Bs : Nat → Prop}

theorem lone_inj {fr fr' : Frame} {cs cs' : List Frame} {w w' : World} (h : lone fr cs w = lone fr' cs' w') : fr = fr' ∧ cs = cs' ∧ w = w' := by
  simp only [lone, Machine.mk.injEq, Array.mk.injEq, List.cons.injEq, Goroutine.mk.injEq] at h
  obtain ⟨h1, h2, _⟩ := h
  exact ⟨h2.1.1, h2.1.2.1, h1⟩

theorem runN_go {n : Nat} {fr fr' : Frame} {cs cs' : List Frame} {w w' : World} {m : Machine} (h : (stepG P true (G fr cs) w).bare = .go (G fr' cs') w') (hr : runN P (n + 1) (lone fr cs w) = .next m) : runN P n (lone fr' cs' w') = .next m := by
  have := step_lone_go (P := P) (fr := fr) (cs := cs) (w := w) h
  simpa only [runN, this] using hr

theorem runN_ended {n : Nat} {fr : Frame} {cs : List Frame} {w w' : World} {o : Outcome} {m : Machine} (h : (stepG P true (G fr cs) w).bare = .ended o w') (hr : runN P (n + 1) (lone fr cs w) = .next m) : False := by
  have := step_lone_ended (P := P) (fr := fr) (cs := cs) (w := w) h
  simp [runN, this] at hr

theorem stepG_unwind {fr : Frame} {cs : List Frame} {w : World} (hm : fr.mode ≠ .run) : stepG P true (G fr cs) w = unwind P true fr cs none w := by
  unfold stepG G
  cases h : fr.mode with
  | run => exact absurd h hm
  | returning => simp only [h]
  | panicking c => simp only [h]

theorem raise_mode (fr : Frame) (chain : List PanicEntry) : ∃ c, fr.raise chain = { fr with mode := .panicking c } := by
  unfold Frame.raise
  split <;> exact ⟨_, rfl⟩

theorem panic_dead : ∀ (up : List Frame) (fr : Frame) (c : List PanicEntry), fr.defers = [] → (∃ f, P.funcs[fr.fn]? = some f) → (∀ x ∈ up, x.defers = [] ∧ ∃ f, P.funcs[x.fn]? = some f) → ∀ (n : Nat) (v v' : World) (fr' : Frame) (cs' : List Frame),
    runN P n (lone { fr with mode := .panicking c } (up ++ [trap P]) v) = .next (lone fr' cs' v') → ∃ c', fr'.mode = .panicking c' := by
  intro up
  induction up with
  | nil =>
    intro fr c hd hf hu n v v' fr' cs' hr
    obtain ⟨f, hf⟩ := hf
    cases n with
    | zero =>
      simp only [runN, Stepped.next.injEq] at hr
      rw [← (lone_inj hr).1]
      exact ⟨_, rfl⟩
    | succ n =>
      obtain ⟨c2, e2⟩ := raise_mode (trap P) c
      have h1 : (stepG P true (G { fr with mode := .panicking c } ([] ++ [trap P])) v).bare = .go (G { trap P with mode := .panicking c2 } []) v := by
        rw [stepG_unwind (by simp), ← e2]
        simp only [unwind, hd, Frame.catches, hf]
        rfl
      have h2 := runN_go h1 hr
      cases n with
      | zero =>
        simp only [runN, Stepped.next.injEq] at h2
        rw [← (lone_inj h2).1]
        exact ⟨_, rfl⟩
      | succ n =>
        have hnone : P.funcs[P.funcs.size]? = none := by simp
        have h3 : ∃ o, (stepG P true (G { trap P with mode := .panicking c2 } []) v).bare = .ended o v := by
          rw [stepG_unwind (by simp)]
          have hc : Frame.catches P { trap P with mode := .panicking c2 } = true := by
            simp only [Frame.catches, trap, hnone]
            decide +kernel
          simp only [unwind, trap] at hc ⊢
          simp only [hc, if_true]
          exact ⟨_, rfl⟩
        obtain ⟨o, h3⟩ := h3
        exact (runN_ended h3 h2).elim
  | cons x up ih =>
    intro fr c hd hf hu n v v' fr' cs' hr
    obtain ⟨f, hf⟩ := hf
    cases n with
    | zero =>
      simp only [runN, Stepped.next.injEq] at hr
      rw [← (lone_inj hr).1]
      exact ⟨_, rfl⟩
    | succ n =>
      obtain ⟨hx, hxm⟩ := hu x (by simp)
      obtain ⟨c2, e2⟩ := raise_mode x c
      have h1 : (stepG P true (G { fr with mode := .panicking c } ((x :: up) ++ [trap P])) v).bare = .go (G { x with mode := .panicking c2 } (up ++ [trap P])) v := by
        rw [stepG_unwind (by simp), ← e2]
        simp only [unwind, hd, Frame.catches, hf, List.cons_append]
        rfl
      exact ih x c2 hx hxm (fun y hy => hu y (by simp [hy])) n v v' fr' cs' (runN_go h1 hr)

theorem return_dead {fr : Frame} (hfr : OkFr P S fr) (hm : fr.mode = .returning) (n : Nat) (v v' : World) (fr' : Frame) : runN P (n + 1) (lone fr [trap P] v) ≠ .next (lone fr' [trap P] v') := by
  intro hr
  obtain ⟨fn, hf⟩ := hfr.fn
  cases hres : (results fn fr.tmps).run P v with
  | halt h v1 =>
    have h1 : ∃ o, (stepG P true (G fr [trap P]) v).bare = .ended o v1 := by
      rw [stepG_unwind (by rw [hm]; simp)]
      simp only [unwind, hfr.defers, hm, hf, Sem.runT_eq, hres]
      cases h <;> exact ⟨_, rfl⟩
    obtain ⟨o, h1⟩ := h1
    exact runN_ended h1 hr
  | ok x v1 =>
    have h1 : (stepG P true (G fr [trap P]) v).bare = .go (G ((trap P).finish x) []) v1 := by
      rw [stepG_unwind (by rw [hm]; simp)]
      simp only [unwind, hfr.defers, hm, hf, Sem.runT_eq, hres, doReturn, hfr.kind]
      rfl
    have h2 := runN_go h1 hr
    cases n with
    | zero =>
      simp only [runN, Stepped.next.injEq] at h2
      have := (lone_inj h2).2.1
      simp at this
    | succ n =>
      have hx : Extern.next "fmt's door, shut" = none := by decide +kernel
      have h3 : ∃ o, (stepG P true (G ((trap P).finish x) []) v1).bare = .ended o v1 := by
        rw [stepG_exec rfl]
        simp only [stepG.exec, trap, Frame.finish, hx, Option.elim]
        exact ⟨_, rfl⟩
      obtain ⟨o, h3⟩ := h3
      exact runN_ended h3 h2

end
end Go.Pair

/- Lone code beside leavers, 6: the theorem. -/
namespace Go.Pair
open Go Go.Conc

section
variable {P : Program} {S : FuncId → Prop} {Bs : Nat → Prop} {c0 : Frame} {cs0 : List Frame}

structure Kept (Bs : Nat → Prop) (w w' : World) : Prop where
  grow : w.heap.size ≤ w'.heap.size
  keep : ∀ i, Bs i → w'.heap[i]? = w.heap[i]?
  same : Same w w'
  tape : w'.tape = w.tape
  far : ∀ (i : Nat) (o : Obj), w'.heap[i]? = some o → ¬ okObj o → w.heap[i]? = some o

theorem Kept.refl (w : World) : Kept Bs w w := ⟨Nat.le_refl _, fun _ _ => rfl, Same.refl _, rfl, fun _ _ h _ => h⟩
theorem Kept.trans {a b c : World} (h : Kept Bs a b) (h' : Kept Bs b c) : Kept Bs a c := ⟨Nat.le_trans h.grow h'.grow, fun i hi => (h'.keep i hi).trans (h.keep i hi), h.same.trans h'.same, h'.tape.trans h.tape, fun i o hc ho => h.far i o (h'.far i o hc ho) ho⟩

inductive Fini (P : Program) (Bs : Nat → Prop) (c0 : Frame) (cs0 : List Frame) (Stop : Value → World → Prop) : Frame → List Frame → World → Prop
  | stop {fr : Frame} {w : World} (h : ∀ d, ∃ val w' es, stepG P true (G fr (c0 :: cs0)) (w.at d) = .go (G (c0.finish val) cs0) w' es ∧ w.heap.size ≤ w'.heap.size ∧ Same w w' ∧ (∀ e ∈ es, EvG Bs w'.heap.size e) ∧ Stop val w') : Fini P Bs c0 cs0 Stop fr [] w
  | step {fr : Frame} {up : List Frame} {w : World} (fr' : Nat → Frame) (up' : Nat → List Frame) (w' : Nat → World) (es : Nat → Array Event)
      (h : ∀ d, stepG P true (G fr (up ++ c0 :: cs0)) (w.at d) = .go (G (fr' d) (up' d ++ c0 :: cs0)) (w' d) (es d) ∧ w.heap.size ≤ (w' d).heap.size ∧ Same w (w' d) ∧ ∀ e ∈ es d, EvG Bs (w' d).heap.size e)
      (hn : ∀ d, Fini P Bs c0 cs0 Stop (fr' d) (up' d) (w' d)) : Fini P Bs c0 cs0 Stop fr up w

theorem evL_of_evG {Shun : Loc → Prop} (hS1 : ∀ a, Shun (.cell a) → Bs a.block) (hS2 : ∀ r, Shun (.obj r) → Bs r) {B : Nat} {e : Event} (h : EvG Bs B e) : EvL Shun B e := by
  obtain ⟨loc, wr, sy⟩ := e
  unfold EvG at h
  cases loc with
  | cell a =>
    refine ⟨fun x hx hs => ?_, by simp, by simp, ?_⟩
    · have : x.loc = .cell a := by cases wr <;> cases sy <;> simp [MemAct.ofEvent, MemAct.touch?] at hx <;> subst hx <;> rfl
      exact absurd (hS1 a (this ▸ hs)) h.1
    · cases wr <;> cases sy <;> exact h.2
  | obj r =>
    refine ⟨fun x hx hs => ?_, by simp, by simp, ?_⟩
    · have : x.loc = .obj r := by cases wr <;> cases sy <;> simp [MemAct.ofEvent, MemAct.touch?] at hx <;> subst hx <;> rfl
      exact absurd (hS2 r (this ▸ hs)) h.1
    · cases wr <;> cases sy <;> exact h.2
  | mark m =>
    cases m <;> first | exact h.elim | skip
    refine ⟨fun x hx hs => ?_, by simp, by simp, trivial⟩
    simp [MemAct.ofEvent, MemAct.touch?] at hx
  | output => exact h.elim
  | goroutines => exact h.elim

end
end Go.Pair

/- Lone code beside leavers, 7: from the lone machine's runs on every tape to goroutine 0's. -/
namespace Go.Pair
open Go Go.Conc

section
variable {P : Program} {S : FuncId → Prop} {Bs : Nat → Prop} {c0 : Frame} {cs0 : List Frame} {Stop : Value → World → Prop} {w0 : World}

structure Lost (P : Program) (S : FuncId → Prop) (Bs : Nat → Prop) (c0 : Frame) (cs0 : List Frame) (Stop : Value → World → Prop) (w0 : World) where
  fr : Frame
  up : List Frame
  w : World
  okf : OkFr P S fr
  oku : OkUp P S up
  kept : Kept Bs w0 w
  not : ¬ Fini P Bs c0 cs0 Stop fr up w

def Agree (w v : World) (K : Nat) : Prop := ∀ j, j < K → v.tape (v.drawn + j) = w.tape (w.drawn + j)

theorem one_step (hS : OkS P S) {fr : Frame} {up : List Frame} (hf : OkFr P S fr) (hu : OkUp P S up) (hn : ¬ (up = [] ∧ fr.mode = .returning)) (w : World) : ∃ K, ∀ (z z' : List Frame) (v : World), Sim Bs w v → Agree w v K → One P S Bs K fr up z z' w v := by
  rcases hf.mode with hm | hm
  · exact run_step hS hf hm hu w
  · cases up with
    | nil => exact absurd ⟨rfl, hm⟩ hn
    | cons c up => exact ret_step hS hf hm hu w

/-! ### the sequence, its tape -/
section
variable (hS : OkS P S) (x0 : Lost P S Bs c0 cs0 Stop w0)
open Classical in
end
end
end Go.Pair

/- Lone code beside leavers, 8: the theorem. -/
namespace Go.Pair
open Go Go.Conc

open Classical in
noncomputable def blankAt (Bs : Nat → Prop) (i : Nat) (o : Obj) : Obj :=
  if Bs i then (match o with | .cells _ e fz => .cells #[] e fz | o => o) else if okObj o then o else dead

noncomputable def blank (Bs : Nat → Prop) (w : World) (tape : Nat → Question → Nat) (d : Nat) : World := { w with heap := w.heap.mapIdx (blankAt Bs), tape := tape, drawn := d }

section
variable {P : Program} {S : FuncId → Prop} {Bs : Nat → Prop}

theorem sim_blank {w : World} (hc : ∀ i, Bs i → ∃ c e fz, w.heap[i]? = some (.cells c e fz)) (tape : Nat → Question → Nat) (d : Nat) : Sim Bs w (blank Bs w tape d) := by
  refine ⟨by simp [blank], fun i => ?_, rfl, rfl⟩
  have e : (blank Bs w tape d).heap[i]? = (w.heap[i]?).map (blankAt Bs i) := by simp [blank]
  rw [e]
  by_cases hb : Bs i
  · obtain ⟨c, t, fz, h⟩ := hc i hb
    exact .inr (.inl ⟨hb, c, t, fz, h, by rw [h]; simp [blankAt, hb]⟩)
  · cases h : w.heap[i]? with
    | none => exact .inl ⟨hb, rfl, fun o ho => by cases ho⟩
    | some o =>
      by_cases ho : okObj o
      · exact .inl ⟨hb, by simp [blankAt, hb, ho], fun x hx => by obtain rfl := Option.some.inj hx; exact ho⟩
      · exact .inr (.inr ⟨hb, ⟨o, rfl, ho⟩, by simp [blankAt, hb, ho]⟩)

end
end Go.Pair

/- A piece of lone code beside leavers, 1: the frame in which it stands, with more to do behind it. -/
namespace Go.Pair
open Go Go.Conc

def app (fr : Frame) (k : List Item) : Frame := { fr with todo := fr.todo ++ k }

theorem exitTo_app {id : Nat} {k : List Item} : ∀ {l l' : List Item}, exitTo id l = some l' → exitTo id (l ++ k) = some (l' ++ k) := by
  intro l
  induction l with
  | nil => intro l' h; simp [exitTo] at h
  | cons x l ih =>
    intro l' h
    cases x
    case inBlock b =>
      simp only [exitTo, List.cons_append] at h ⊢
      split at h
      · rename_i hb; obtain rfl := Option.some.inj h; rw [if_pos hb]
      · rename_i hb; rw [if_neg hb]; exact ih h
    all_goals (simp only [exitTo, List.cons_append] at h ⊢; exact ih h)

theorem exitTo_none {id : Nat} {k : List Item} : ∀ {l : List Item}, exitTo id l = none → exitTo id (l ++ k) = exitTo id k := by
  intro l
  induction l with
  | nil => intro _; rfl
  | cons x l ih =>
    intro h
    cases x
    case inBlock b =>
      simp only [exitTo, List.cons_append] at h ⊢
      split at h
      · cases h
      · rename_i hb; rw [if_neg hb]; exact ih h
    all_goals (simp only [exitTo, List.cons_append] at h ⊢; exact ih h)

theorem gotoIn_app {l : Nat} {k : List Item} : ∀ {t t' : List Item}, gotoIn l t = some t' → gotoIn l (t ++ k) = some (t' ++ k) := by
  intro t
  induction t with
  | nil => intro t' h; simp [gotoIn] at h
  | cons x t ih =>
    intro t' h
    cases x
    case inScope b =>
      simp only [gotoIn, List.cons_append] at h ⊢
      cases hf : findLabel b l with
      | some r => rw [hf] at h; obtain rfl := Option.some.inj h; simp
      | none => rw [hf] at h; exact ih h
    all_goals (simp only [gotoIn, List.cons_append] at h ⊢; exact ih h)

theorem gotoIn_none {l : Nat} {k : List Item} : ∀ {t : List Item}, gotoIn l t = none → gotoIn l (t ++ k) = gotoIn l k := by
  intro t
  induction t with
  | nil => intro _; rfl
  | cons x t ih =>
    intro h
    cases x
    case inScope b =>
      simp only [gotoIn, List.cons_append] at h ⊢
      cases hf : findLabel b l with
      | some r => rw [hf] at h; cases h
      | none => rw [hf] at h; exact ih h
    all_goals (simp only [gotoIn, List.cons_append] at h ⊢; exact ih h)

section
variable {P : Program} {S : FuncId → Prop} {Bs : Nat → Prop}

theorem finish_app {fr : Frame} {ops : Array Oper} {i : Nat} {l : List Nat} {t : List Item} (h : fr.todo = .inRegion ops (i :: l) :: t) (v : Value) (k : List Item) : (app fr k).finish v = app (fr.finish v) k := by
  simp [Frame.finish, app, h]

def Waits (fr : Frame) : Prop := ∃ ops i l t, fr.todo = .inRegion ops (i :: l) :: t

inductive OneB (P : Program) (S : FuncId → Prop) (Bs : Nat → Prop) (K : Nat) (fr : Frame) (k kl : List Item) (z z' : List Frame) (w v : World) : Prop
  | bad (o : Outcome) (v' : World) (h : (stepG P true (G (app fr kl) z') v).bare = .ended o v')
  | panic (chain : List PanicEntry) (v' : World) (h : (stepG P true (G (app fr kl) z') v).bare = .go (G ((app fr kl).raise chain) z') v')
  | stay (fr' : Frame) (w' v' : World) (es : Array Event) (hw : stepG P true (G (app fr k) z) w = .go (G (app fr' k) z) w' es) (hv : (stepG P true (G (app fr kl) z') v).bare = .go (G (app fr' kl) z') v')
      (hf : OkFr P S fr') (hfn : fr'.fn = fr.fn) (ha : After Bs K w v w' v') (hes : ∀ e ∈ es, EvG Bs w'.heap.size e)
  | enter (f : Frame) (w' v' : World) (es : Array Event) (hw : stepG P true (G (app fr k) z) w = .go (G f (app fr k :: z)) w' es) (hv : (stepG P true (G (app fr kl) z') v).bare = .go (G f (app fr kl :: z')) v')
      (hf : OkFr P S f) (hwt : Waits fr) (ha : After Bs K w v w' v') (hes : ∀ e ∈ es, EvG Bs w'.heap.size e)

theorem OneB.ctl {fr fr' : Frame} {k kl : List Item} {z z' : List Frame} {w v : World} (h : ∀ k cs w, stepG P true (G (app fr k) cs) w = .go (G (app fr' k) cs) w) (hs : Sim Bs w v) (hf : OkFr P S fr') (hfn : fr'.fn = fr.fn) : OneB P S Bs 0 fr k kl z z' w v :=
  .stay fr' w v #[] (h _ _ _) (by rw [h]; rfl) hf hfn (After.refl hs) (by simp)

theorem OneB.apply {fr : Frame} {k kl : List Item} {z z' : List Frame} {w v : World} {s : Sem Next} (hS : OkS P S) (hfr : OkFr P S fr) (hm : fr.mode = .run) (hn : Waits fr)
    (hst : ∀ k cs w, stepG P true (G (app fr k) cs) w = stepG.apply P true (app fr k) cs none s w) (hT : Tame P (OkN S) s (fun _ => False)) (hs : Sim Bs w v) (ht : ∀ j, j < uses P s w → v.tape (v.drawn + j) = w.tape (w.drawn + j)) :
    OneB P S Bs (uses P s w) fr k kl z z' w v := by
  have hwt := hn
  obtain ⟨ops₀, i₀, l₀, k₀, htd⟩ := hn
  have htd' : ∀ k, (app fr k).todo = .inRegion ops₀ (i₀ :: l₀) :: (k₀ ++ k) := fun k => by simp [app, htd]
  have hke : ∀ k, ((app fr k).kind == CallKind.early) = false := fun k => by show (fr.kind == CallKind.early) = false; rw [hfr.kind]; rfl
  have hfin : ∀ k v, (app fr k).finish v = app (fr.finish v) k := fun k v => finish_app htd v k
  have hfnn : ∀ v, (fr.finish v).fn = fr.fn := fun v => by simp [Frame.finish, htd]
  cases tame_sim s _ w v #[] hT (fun _ h => h.elim) hs ht with
  | bad h v' hr hb =>
    cases h with
    | stuck s => exact .bad _ v' (by rw [hst]; simp only [stepG.apply, Sem.runT_eq, hr, if_true]; rfl)
    | unsupported u => cases u <;> first | exact hb.elim | exact .bad _ v' (by rw [hst]; simp only [stepG.apply, Sem.runT_eq, hr, if_true]; rfl)
    | _ => exact hb.elim
  | panic x w' v' es' hw hv ha hes =>
    refine .panic [{ v := x, recovered := false }] v' ?_
    rw [hst]
    simp only [stepG.apply, Sem.runT_eq, hv, if_true]
    rfl
  | ok a w' v' es' hw hv hq ha hes =>
    cases a with
    | value x =>
      obtain ⟨h1, h2⟩ := okFr_finish hfr hm x
      refine .stay (fr.finish x) w' v' _ ?_ ?_ h1 (hfnn x) ha (seen_evG (P := P) (fn := fr.fn) (es := #[] ++ es') (by simpa using hes))
      · rw [hst]
        simp only [stepG.apply, hw, if_true, hke, hfin]
        simp [GStep.after, G, app]
      · rw [hst]
        simp only [stepG.apply, Sem.runT_eq, hv, if_true, hfin]
        rfl
    | skip =>
      obtain ⟨h1, h2⟩ := okFr_finish hfr hm undef
      refine .stay (fr.finish undef) w' v' _ ?_ ?_ h1 (hfnn undef) ha (seen_evG (P := P) (fn := fr.fn) (es := #[] ++ es') (by simpa using hes))
      · rw [hst]
        simp only [stepG.apply, hw, if_true, hke, hfin]
        simp [GStep.after, G, app]
      · rw [hst]
        simp only [stepG.apply, Sem.runT_eq, hv, if_true, hfin]
        rfl
    | enter f args =>
      obtain ⟨h1, h2⟩ := okFr_enter (P := P) hS hq args
      refine .enter (Frame.enter P f args .normal) w' v' _ ?_ ?_ h1 hwt ha (seen_evG (P := P) (fn := fr.fn) (es := #[] ++ es') (by simpa using hes))
      · rw [hst]
        simp only [stepG.apply, hw, if_true, hke, htd']
        simp [GStep.after, G, app]
      · rw [hst]
        simp only [stepG.apply, Sem.runT_eq, hv, if_true, htd']
        rfl
    | _ => exact hq.elim

def AtEnd (fr : Frame) : Prop := fr.mode = .returning ∨ fr.todo = [] ∨ ∃ id t, fr.todo = .code (.exit id) :: t ∧ exitTo id t = none

theorem base_step (hS : OkS P S) {fr : Frame} (hfr : OkFr P S fr) (hend : ¬ AtEnd fr) (w : World) : ∃ K, ∀ (k kl : List Item) (z z' : List Frame) (v : World), (∀ l, gotoIn l kl = none) → Sim Bs w v → Agree w v K → OneB P S Bs K fr k kl z z' w v := by
  have hm : fr.mode = .run := hfr.mode.resolve_right fun h => hend (.inl h)
  have ht := hfr.todo hm
  cases htd : fr.todo with
  | nil => exact absurd (.inr (.inl htd)) hend
  | cons x t =>
    rw [htd] at ht
    have hk : ∀ it ∈ t, OkI P S it := fun it hit => ht it (by simp [hit])
    have hx : OkI P S x := ht x (by simp)
    have hma : ∀ k, (app fr k).mode = .run := fun _ => hm
    have hra : ∀ k, (app fr k).roundOf = none := fun _ => hfr.round
    have hta : ∀ k, (app fr k).todo = x :: (t ++ k) := fun k => by simp [app, htd]
    have two : ∀ {y : Item}, OkI P S y → ∀ it ∈ y :: t, OkI P S it := fun hy it hit => by
      simp only [List.mem_cons] at hit
      rcases hit with rfl | hit
      · exact hy
      · exact hk it hit
    have three : ∀ {y y' : Item}, OkI P S y → OkI P S y' → ∀ it ∈ y :: y' :: t, OkI P S it := fun hy hy' it hit => by
      simp only [List.mem_cons] at hit
      rcases hit with rfl | rfl | hit
      · exact hy
      · exact hy'
      · exact hk it hit
    have to : ∀ {k' : List Item}, (∀ it ∈ k', OkI P S it) → (∀ k cs w, stepG P true (G (app fr k) cs) w = .go (G (app { fr with todo := k' } k) cs) w) → ∃ K, ∀ (k kl : List Item) (z z' : List Frame) (v : World), (∀ l, gotoIn l kl = none) → Sim Bs w v → Agree w v K → OneB P S Bs K fr k kl z z' w v :=
      fun hk' h => ⟨0, fun k kl z z' v _ hs _ => OneB.ctl h hs (okFr_todo hfr hk') rfl⟩
    have fin : (∀ k cs w, stepG P true (G (app fr k) cs) w = .go (G ((app fr k).finish undef) cs) w) → Waits fr → ∃ K, ∀ (k kl : List Item) (z z' : List Frame) (v : World), (∀ l, gotoIn l kl = none) → Sim Bs w v → Agree w v K → OneB P S Bs K fr k kl z z' w v :=
      fun h ⟨ops, i, l, t, he⟩ => ⟨0, fun k kl z z' v _ hs _ => OneB.ctl (fr' := fr.finish undef) (fun k cs w => by rw [h, finish_app he]) hs (okFr_finish hfr hm undef).1 (by simp [Frame.finish, he])⟩
    cases x with
    | code c =>
      cases c with
      | skip => exact to hk fun k cs w => by rw [stepG_exec (hma k)]; simp [stepG.exec, hta, G]; simp [app]
      | label l => exact to hk fun k cs w => by rw [stepG_exec (hma k)]; simp [stepG.exec, hta, G]; simp [app]
      | ret =>
        refine ⟨0, fun k kl z z' v _ hs _ => OneB.ctl (fr' := { fr with mode := .returning }) (fun k cs w => ?_) hs (okFr_ret hfr) rfl⟩
        rw [stepG_exec (hma k)]; simp [stepG.exec, hta, hra, G]; simp [app, htd, hfr.round]
      | seq a b => exact to (k' := .code a :: .code b :: t) (three hx.1 hx.2) fun k cs w => by rw [stepG_exec (hma k)]; simp [stepG.exec, hta, G]; simp [app]
      | cond c a b =>
        have hev : ∀ k, (app fr k).eval c = fr.eval c := fun k => by cases c <;> rfl
        by_cases hb : ∃ x, fr.eval c = .bool x
        · obtain ⟨x, hb⟩ := hb
          refine to (k' := .code (if x then a else b) :: t) (two ?_) fun k cs w => by rw [stepG_exec (hma k)]; simp [stepG.exec, hta, G, hev, hb]; simp [app]
          cases x
          · exact hx.2
          · exact hx.1
        · refine ⟨0, fun k kl z z' v _ hs _ => ?_⟩
          have hl : ∃ o, (stepG P true (G (app fr kl) z') v).bare = .ended o v := by
            cases he : fr.eval c with
            | bool x => exact absurd ⟨x, he⟩ hb
            | _ => rw [stepG_exec (hma kl)]; simp only [stepG.exec, hta, hev, he]; exact ⟨_, rfl⟩
          obtain ⟨o, hl⟩ := hl
          exact .bad o v hl
      | block id b => exact to (k' := .code b :: .inBlock id :: t) (three hx trivial) fun k cs w => by rw [stepG_exec (hma k)]; simp [stepG.exec, hta, G]; simp [app]
      | loop b => exact to (k' := .code b :: .inLoop b :: t) (three hx hx) fun k cs w => by rw [stepG_exec (hma k)]; simp [stepG.exec, hta, G]; simp [app]
      | scope b => exact to (k' := .code b :: .inScope b :: t) (three hx hx) fun k cs w => by rw [stepG_exec (hma k)]; simp [stepG.exec, hta, G]; simp [app]
      | exit id =>
        cases he : exitTo id t with
        | some k' => exact to (k' := k') (okI_exit hk he) fun k cs w => by rw [stepG_exec (hma k)]; simp [stepG.exec, hta, G, exitTo_app he]; simp [app]
        | none => exact absurd (.inr (.inr ⟨id, t, htd, he⟩)) hend
      | goto l =>
        cases he : gotoIn l t with
        | some k' => exact to (k' := k') (okI_goto hk he) fun k cs w => by rw [stepG_exec (hma k)]; simp [stepG.exec, hta, G, gotoIn_app he]; simp [app]
        | none =>
          refine ⟨0, fun k kl z z' v hg hs _ => ?_⟩
          have hl : ∃ o, (stepG P true (G (app fr kl) z') v).bare = .ended o v := by
            rw [stepG_exec (hma kl)]
            simp only [stepG.exec, hta, gotoIn_none he, hg, Option.elim, hra]
            exact ⟨_, rfl⟩
          obtain ⟨o, hl⟩ := hl
          exact .bad o v hl
      | rangeFunc f ps a b => exact hx.elim
      | refuse s => exact hx.elim
      | region id ops draw =>
        cases draw with
        | false => exact to (k' := .inRegion ops (List.range ops.size) :: t) (two hx) fun k cs w => by rw [stepG_exec (hma k)]; simp [stepG.exec, hta, G]; simp [app]
        | true =>
          refine ⟨1, fun k kl z z' v _ hs hag => ?_⟩
          have e0 : v.tape v.drawn = w.tape w.drawn := hag 0 (by omega)
          have key : ∀ k cs (w : World), stepG P true (G (app fr k) cs) w = .go (G (app { fr with todo := .inRegion ops (Region.schedule (P.follows .mixedOrders) ops (w.tape w.drawn (.order fr.fn id))) :: t } k) cs) { w with drawn := w.drawn + 1 } := by
            intro k cs w
            rw [stepG_exec (hma k)]; simp [stepG.exec, hta, G, choose, Sem.run, Question.forced, Question.cut]; simp [app]
          refine .stay { fr with todo := .inRegion ops (Region.schedule (P.follows .mixedOrders) ops (w.tape w.drawn (.order fr.fn id))) :: t } { w with drawn := w.drawn + 1 } { v with drawn := v.drawn + 1 } #[] (key _ _ _) ?_ (okFr_todo hfr (two hx)) rfl ⟨hs.drawn _ _, Nat.le_refl _, fun _ _ => rfl, rfl, rfl, rfl, rfl, ⟨rfl, rfl⟩, fun _ _ h _ => h⟩ (by simp)
          rw [key, e0]; rfl
    | inBlock id => exact to hk fun k cs w => by rw [stepG_exec (hma k)]; simp [stepG.exec, hta, G]; simp [app]
    | inScope b => exact to hk fun k cs w => by rw [stepG_exec (hma k)]; simp [stepG.exec, hta, G]; simp [app]
    | inLoop b => exact to (k' := .code b :: .inLoop b :: t) (three hx hx) fun k cs w => by rw [stepG_exec (hma k)]; simp [stepG.exec, hta, G]; simp [app]
    | inRegion ops l =>
      cases l with
      | nil => exact to hk fun k cs w => by rw [stepG_exec (hma k)]; simp [stepG.exec, hta, G]; simp [app]
      | cons i l =>
        have htm : ∀ k, (app fr k).tmps = fr.tmps := fun _ => rfl
        cases ho : ops[i]? with
        | none => exact fin (fun k cs w => by rw [stepG_exec (hma k)]; simp [stepG.exec, hta, G, ho]) ⟨ops, i, l, t, htd⟩
        | some o =>
          cases hwt : Region.wanted o (yielded ops fr.tmps) with
          | false => exact fin (fun k cs w => by rw [stepG_exec (hma k)]; simp [stepG.exec, hta, G, ho, htm, hwt]) ⟨ops, i, l, t, htd⟩
          | true =>
            refine ⟨uses P (execOp fr.eval o) w, fun k kl z z' v _ hs hag => OneB.apply hS hfr hm ⟨ops, i, l, t, htd⟩ (fun k cs w => ?_) (hx i o ho fr) hs hag⟩
            have hev : (app fr k).eval = fr.eval := funext fun c => by cases c <;> rfl
            rw [stepG_exec (hma k)]
            simp [stepG.exec, hta, ho, htm, hwt, stepG.oper, Frame.oper?, hra, hev]
    | _ => exact hx.elim

end
end Go.Pair

/- A piece of lone code beside leavers, 2: the lone machine's rest, in which the piece's ends are told apart. -/
namespace Go.Pair
open Go Go.Conc

def outs (ids : List Nat) : List Item := .code (.refuse "") :: ids.flatMap fun id => [.inBlock id, .code (.refuse "")]

def Refused (l : List Item) : Prop := ∃ s t, l = .code (.refuse s) :: t

theorem goto_blocks (l : Nat) : ∀ ids : List Nat, gotoIn l (ids.flatMap fun id => [Item.inBlock id, .code (.refuse "")]) = none
  | [] => rfl
  | _ :: ids => by simp only [List.flatMap_cons, List.cons_append, List.nil_append, gotoIn]; exact goto_blocks l ids

theorem goto_outs (ids : List Nat) (l : Nat) : gotoIn l (outs ids) = none := goto_blocks l ids

theorem exit_blocks (id : Nat) : ∀ (ids : List Nat) (t : List Item), exitTo id (ids.flatMap fun id => [Item.inBlock id, .code (.refuse "")]) = some t → Refused t ∧ t.length < (ids.flatMap fun id => [Item.inBlock id, Item.code (.refuse "")]).length ∧ ∀ id', exitTo id' (ids.flatMap fun id => [Item.inBlock id, .code (.refuse "")]) = some t → id' = id
  | [], t => by simp [exitTo]
  | i :: ids, t => by
    intro h
    simp only [List.flatMap_cons, List.cons_append, List.nil_append, exitTo] at h ⊢
    by_cases hi : (i == id) = true
    · rw [if_pos hi] at h
      obtain rfl := Option.some.inj h
      refine ⟨⟨_, _, rfl⟩, by simp, fun id' h' => ?_⟩
      by_cases hi' : (i == id') = true
      · simp at hi hi'; omega
      · rw [if_neg hi'] at h'
        have := (exit_blocks id' ids _ h').2.1
        simp at this
        omega
    · rw [if_neg hi] at h
      obtain ⟨a, b, c⟩ := exit_blocks id ids t h
      refine ⟨a, by simp only [List.length_cons]; omega, fun id' h' => ?_⟩
      by_cases hi' : (i == id') = true
      · rw [if_pos hi'] at h'
        obtain rfl := Option.some.inj h'
        simp at b
        omega
      · rw [if_neg hi'] at h'
        exact c id' h'

theorem exit_outs {id : Nat} {ids : List Nat} {t : List Item} (h : exitTo id (outs ids) = some t) : Refused t ∧ t.length < (outs ids).length ∧ ∀ id', exitTo id' (outs ids) = some t → id' = id := by
  obtain ⟨a, b, c⟩ := exit_blocks id ids t h
  exact ⟨a, by simp only [outs, List.length_cons]; omega, c⟩

section
variable {P : Program} {S : FuncId → Prop} {Bs : Nat → Prop}

theorem refused_dead {fr : Frame} {cs cs' : List Frame} {v v' : World} {fr' : Frame} {n : Nat} (hm : fr.mode = .run) (h : Refused fr.todo) : runN P (n + 1) (lone fr cs v) ≠ .next (lone fr' cs' v') := by
  intro hr
  obtain ⟨s, t, h⟩ := h
  have h1 : ∃ o, (stepG P true (G fr cs) v).bare = .ended o v := by
    rw [stepG_exec hm]
    simp only [stepG.exec, h]
    exact ⟨_, rfl⟩
  obtain ⟨o, h1⟩ := h1
  exact runN_ended h1 hr

/-! ### goroutine 0 comes to an end of the piece -/
inductive FiniB (P : Program) (Bs : Nat → Prop) (k : List Item) (z : List Frame) (Stop : Frame → World → Prop) : Option (Frame × List Frame) → Frame → World → Prop
  | stop {fr : Frame} {w : World} (hend : AtEnd fr) (h : Stop fr w) : FiniB P Bs k z Stop none fr w
  | base {b : Frame} {w : World} (x : Nat → Option (Frame × List Frame)) (b' : Nat → Frame) (w' : Nat → World) (es : Nat → Array Event)
      (h : ∀ d, stepG P true (G (app b k) z) (w.at d) = .go (match x d with | none => G (app (b' d) k) z | some (f, up) => G f (up ++ app (b' d) k :: z)) (w' d) (es d) ∧ w.heap.size ≤ (w' d).heap.size ∧ Same w (w' d) ∧ ∀ e ∈ es d, EvG Bs (w' d).heap.size e)
      (hn : ∀ d, FiniB P Bs k z Stop (x d) (b' d) (w' d)) : FiniB P Bs k z Stop none b w
  | inner {fr b : Frame} {up : List Frame} {w : World} (x : Nat → Option (Frame × List Frame)) (b' : Nat → Frame) (w' : Nat → World) (es : Nat → Array Event)
      (h : ∀ d, stepG P true (G fr (up ++ app b k :: z)) (w.at d) = .go (match x d with | none => G (app (b' d) k) z | some (f, up) => G f (up ++ app (b' d) k :: z)) (w' d) (es d) ∧ w.heap.size ≤ (w' d).heap.size ∧ Same w (w' d) ∧ ∀ e ∈ es d, EvG Bs (w' d).heap.size e)
      (hn : ∀ d, FiniB P Bs k z Stop (x d) (b' d) (w' d)) : FiniB P Bs k z Stop (some (fr, up)) b w

def stack (k : List Item) (z : List Frame) (x : Option (Frame × List Frame)) (b : Frame) : Goroutine := match x with | none => G (app b k) z | some (f, up) => G f (up ++ app b k :: z)

theorem FiniB.steps {k : List Item} {z : List Frame} {Stop : Frame → World → Prop} {x : Option (Frame × List Frame)} {b : Frame} {w : World}
    (h : ∀ d, ∃ x' b' w' es, stepG P true (stack k z x b) (w.at d) = .go (stack k z x' b') w' es ∧ w.heap.size ≤ w'.heap.size ∧ Same w w' ∧ (∀ e ∈ es, EvG Bs w'.heap.size e) ∧ FiniB P Bs k z Stop x' b' w') : FiniB P Bs k z Stop x b w := by
  have h1 := fun d => (h d).choose_spec.choose_spec.choose_spec.choose_spec
  cases x with
  | none => exact .base (fun d => (h d).choose) (fun d => (h d).choose_spec.choose) (fun d => (h d).choose_spec.choose_spec.choose) (fun d => (h d).choose_spec.choose_spec.choose_spec.choose) (fun d => ⟨(h1 d).1, (h1 d).2.1, (h1 d).2.2.1, (h1 d).2.2.2.1⟩) (fun d => (h1 d).2.2.2.2)
  | some p => exact .inner (fun d => (h d).choose) (fun d => (h d).choose_spec.choose) (fun d => (h d).choose_spec.choose_spec.choose) (fun d => (h d).choose_spec.choose_spec.choose_spec.choose) (fun d => ⟨(h1 d).1, (h1 d).2.1, (h1 d).2.2.1, (h1 d).2.2.2.1⟩) (fun d => (h1 d).2.2.2.2)

theorem FiniB.ea {k : List Item} {z : List Frame} {Shun : Loc → Prop} {Post : Value → World → Prop} {Stop : Frame → World → Prop} (hS1 : ∀ a, Shun (.cell a) → Bs a.block) (hS2 : ∀ r, Shun (.obj r) → Bs r)
    (hstop : ∀ fr w, AtEnd fr → Stop fr w → EA P Post Shun (G (app fr k) z) w) {x : Option (Frame × List Frame)} {b : Frame} {w : World} (h : FiniB P Bs k z Stop x b w) : EA P Post Shun (stack k z x b) w := by
  induction h with
  | stop he h => exact hstop _ _ he h
  | @base b w x b' w' es h hn ih =>
    refine EA.goes (n := 1) (Goes.step rfl fun w₁ r => ?_)
    obtain ⟨d, rfl⟩ := r
    obtain ⟨hs, hsz, hsm, hes⟩ := h d
    show (stepG P true (G (app b k) z) (w.at d)).goes _
    rw [hs, goes_go]
    exact ⟨⟨hsz, fun e he => evL_of_evG hS1 hS2 (hes e he), hsm⟩, EA.stop (ih d)⟩
  | @inner fr b up w x b' w' es h hn ih =>
    refine EA.goes (n := 1) (Goes.step rfl fun w₁ r => ?_)
    obtain ⟨d, rfl⟩ := r
    obtain ⟨hs, hsz, hsm, hes⟩ := h d
    show (stepG P true (G fr (up ++ app b k :: z)) (w.at d)).goes _
    rw [hs, goes_go]
    exact ⟨⟨hsz, fun e he => evL_of_evG hS1 hS2 (hes e he), hsm⟩, EA.stop (ih d)⟩

end
end Go.Pair
