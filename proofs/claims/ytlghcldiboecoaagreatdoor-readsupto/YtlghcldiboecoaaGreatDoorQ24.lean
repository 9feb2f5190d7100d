/- Lone code beside leavers, 4: every step. -/
import Derived.Test.YtlghcldiboecoaaGreatDoorHOps
set_option linter.unusedVariables false
set_option linter.unusedSimpArgs false
namespace Go.Pair
open Go Go.Conc

section
variable {P : Program} {S : FuncId → Prop} {Bs : Nat → Prop}

/-- It ends, whoever called. -/
theorem One.lost {fr : Frame} {up z z' : List Frame} {w v : World} {K : Nat} {f : World → Outcome} (h : ∀ cs w, stepG P true (G fr cs) w = .ended (f w) w) : One P S Bs K fr up z z' w v :=
  .bad (f v) v (by rw [h]; rfl)

theorem okFr_todo {fr : Frame} (h : OkFr P S fr) {k : List Item} (hk : ∀ it ∈ k, OkI P S it) : OkFr P S { fr with todo := k } := ⟨h.defers, h.kind, h.round, h.fn, h.mode, fun _ => hk⟩
theorem okFr_ret {fr : Frame} (h : OkFr P S fr) : OkFr P S { fr with mode := .returning } := ⟨h.defers, h.kind, h.round, h.fn, .inr rfl, fun e => by cases e⟩

theorem run_step (hS : OkS P S) {fr : Frame} {up : List Frame} (hfr : OkFr P S fr) (hm : fr.mode = .run) (hu : OkUp P S up) (w : World) : ∃ K, ∀ (z z' : List Frame) (v : World), Sim Bs w v → (∀ j, j < K → v.tape (v.drawn + j) = w.tape (w.drawn + j)) → One P S Bs K fr up z z' w v := by
  have ht := hfr.todo hm
  cases htd : fr.todo with
  | nil =>
    refine ⟨0, fun z z' v hs _ => One.ctl (fr' := { fr with mode := .returning }) (fun cs w => ?_) hs (okFr_ret hfr) hu⟩
    rw [stepG_exec hm]; simp [stepG.exec, htd, hfr.round, G]
  | cons x k =>
    rw [htd] at ht
    have hk : ∀ it ∈ k, OkI P S it := fun it hit => ht it (by simp [hit])
    have hx : OkI P S x := ht x (by simp)
    have two : ∀ {y : Item}, OkI P S y → ∀ it ∈ y :: k, OkI P S it := fun hy it hit => by
      simp only [List.mem_cons] at hit
      rcases hit with rfl | hit
      · exact hy
      · exact hk it hit
    have three : ∀ {y y' : Item}, OkI P S y → OkI P S y' → ∀ it ∈ y :: y' :: k, OkI P S it := fun hy hy' it hit => by
      simp only [List.mem_cons] at hit
      rcases hit with rfl | rfl | hit
      · exact hy
      · exact hy'
      · exact hk it hit
    -- a step of control to the list k'
    have to : ∀ {k' : List Item}, (∀ it ∈ k', OkI P S it) → (∀ cs w, stepG P true (G fr cs) w = .go (G { fr with todo := k' } cs) w) → ∃ K, ∀ (z z' : List Frame) (v : World), Sim Bs w v → (∀ j, j < K → v.tape (v.drawn + j) = w.tape (w.drawn + j)) → One P S Bs K fr up z z' w v :=
      fun hk' h => ⟨0, fun z z' v hs _ => One.ctl h hs (okFr_todo hfr hk') hu⟩
    cases x with
    | code c =>
      cases c with
      | skip => exact to hk fun cs w => by rw [stepG_exec hm]; simp [stepG.exec, htd, G, hm]
      | label l => exact to hk fun cs w => by rw [stepG_exec hm]; simp [stepG.exec, htd, G, hm]
      | ret =>
        refine ⟨0, fun z z' v hs _ => One.ctl (fr' := { fr with mode := .returning }) (fun cs w => ?_) hs (okFr_ret hfr) hu⟩
        rw [stepG_exec hm]; simp [stepG.exec, htd, hfr.round, G]
      | seq a b => exact to (k' := .code a :: .code b :: k) (three hx.1 hx.2) fun cs w => by rw [stepG_exec hm]; simp [stepG.exec, htd, G, hm]
      | cond c a b =>
        by_cases hb : ∃ t, fr.eval c = .bool t
        · obtain ⟨t, hb⟩ := hb
          refine to (k' := .code (if t then a else b) :: k) (two ?_) fun cs w => by rw [stepG_exec hm]; simp [stepG.exec, htd, G, hm, hb]
          cases t
          · exact hx.2
          · exact hx.1
        · have hl : ∃ o, ∀ cs w, stepG P true (G fr cs) w = .ended o w := by
            cases he : fr.eval c with
            | bool t => exact absurd ⟨t, he⟩ hb
            | _ => exact ⟨_, fun cs w => by rw [stepG_exec hm]; simp only [stepG.exec, htd, he]; rfl⟩
          obtain ⟨o, hl⟩ := hl
          exact ⟨0, fun z z' v hs _ => One.lost (f := fun _ => o) hl⟩
      | block id b => exact to (k' := .code b :: .inBlock id :: k) (three hx trivial) fun cs w => by rw [stepG_exec hm]; simp [stepG.exec, htd, G, hm]
      | loop b => exact to (k' := .code b :: .inLoop b :: k) (three hx hx) fun cs w => by rw [stepG_exec hm]; simp [stepG.exec, htd, G, hm]
      | scope b => exact to (k' := .code b :: .inScope b :: k) (three hx hx) fun cs w => by rw [stepG_exec hm]; simp [stepG.exec, htd, G, hm]
      | exit id =>
        cases he : exitTo id k with
        | some k' => exact to (k' := k') (okI_exit hk he) fun cs w => by rw [stepG_exec hm]; simp [stepG.exec, htd, G, hm, he]
        | none =>
          have hl : ∃ o, ∀ cs w, stepG P true (G fr cs) w = .ended o w := ⟨_, fun cs w => by rw [stepG_exec hm]; simp only [stepG.exec, htd, he, Option.elim, hfr.round]; rfl⟩
          obtain ⟨o, hl⟩ := hl
          exact ⟨0, fun z z' v hs _ => One.lost (f := fun _ => o) hl⟩
      | goto l =>
        cases he : gotoIn l k with
        | some k' => exact to (k' := k') (okI_goto hk he) fun cs w => by rw [stepG_exec hm]; simp [stepG.exec, htd, G, hm, he]
        | none =>
          have hl : ∃ o, ∀ cs w, stepG P true (G fr cs) w = .ended o w := ⟨_, fun cs w => by rw [stepG_exec hm]; simp only [stepG.exec, htd, he, Option.elim, hfr.round]; rfl⟩
          obtain ⟨o, hl⟩ := hl
          exact ⟨0, fun z z' v hs _ => One.lost (f := fun _ => o) hl⟩
      | rangeFunc f ps a b => exact hx.elim
      | refuse s => exact hx.elim
      | region id ops draw =>
        cases draw with
        | false => exact to (k' := .inRegion ops (List.range ops.size) :: k) (two hx) fun cs w => by rw [stepG_exec hm]; simp [stepG.exec, htd, G, hm]
        | true =>
          refine ⟨1, fun z z' v hs hag => ?_⟩
          have e0 : v.tape v.drawn = w.tape w.drawn := hag 0 (by omega)
          have key : ∀ cs (w : World), stepG P true (G fr cs) w = .go (G { fr with todo := .inRegion ops (Region.schedule (P.follows .mixedOrders) ops (w.tape w.drawn (.order fr.fn id))) :: k } cs) { w with drawn := w.drawn + 1 } := by
            intro cs w
            rw [stepG_exec hm]; simp [stepG.exec, htd, G, hm, choose, Sem.run, Question.forced, Question.cut]
          refine .go { fr with todo := .inRegion ops (Region.schedule (P.follows .mixedOrders) ops (w.tape w.drawn (.order fr.fn id))) :: k } up { w with drawn := w.drawn + 1 } { v with drawn := v.drawn + 1 } #[] (key _ _) ?_ (okFr_todo hfr (two hx)) hu ⟨hs.drawn _ _, Nat.le_refl _, fun _ _ => rfl, rfl, rfl, rfl, rfl, ⟨rfl, rfl⟩, fun _ _ h _ => h⟩ (by simp)
          rw [key, e0]; rfl
    | inBlock id => exact to hk fun cs w => by rw [stepG_exec hm]; simp [stepG.exec, htd, G, hm]
    | inScope b => exact to hk fun cs w => by rw [stepG_exec hm]; simp [stepG.exec, htd, G, hm]
    | inLoop b => exact to (k' := .code b :: .inLoop b :: k) (three hx hx) fun cs w => by rw [stepG_exec hm]; simp [stepG.exec, htd, G, hm]
    | inRegion ops l =>
      cases l with
      | nil => exact to hk fun cs w => by rw [stepG_exec hm]; simp [stepG.exec, htd, G, hm]
      | cons i l =>
        cases ho : ops[i]? with
        | none =>
          obtain ⟨h1, h2⟩ := okFr_finish hfr hm undef
          refine ⟨0, fun z z' v hs _ => One.ctl (fr' := fr.finish undef) (fun cs w => ?_) hs h1 hu⟩
          rw [stepG_exec hm]; simp [stepG.exec, htd, G, ho]
        | some o =>
          cases hwt : Region.wanted o (yielded ops fr.tmps) with
          | false =>
            obtain ⟨h1, h2⟩ := okFr_finish hfr hm undef
            refine ⟨0, fun z z' v hs _ => One.ctl (fr' := fr.finish undef) (fun cs w => ?_) hs h1 hu⟩
            rw [stepG_exec hm]; simp [stepG.exec, htd, G, ho, hwt]
          | true =>
            refine ⟨uses P (execOp fr.eval o) w, fun z z' v hs hag => One.apply hS hfr hm hu ⟨ops, i :: l, k, htd⟩ (fun cs w => ?_) (hx i o ho fr) hs hag⟩
            rw [stepG_exec hm]
            simp [stepG.exec, htd, ho, hwt, stepG.oper, Frame.oper?, hfr.round]
    | _ => exact hx.elim

/-- The return into a caller. -/
theorem ret_step (hS : OkS P S) {fr c : Frame} {up : List Frame} (hfr : OkFr P S fr) (hm : fr.mode = .returning) (hu : OkUp P S (c :: up)) (w : World) : ∃ K, ∀ (z z' : List Frame) (v : World), Sim Bs w v → (∀ j, j < K → v.tape (v.drawn + j) = w.tape (w.drawn + j)) → One P S Bs K fr (c :: up) z z' w v := by
  obtain ⟨fn, hf⟩ := hfr.fn
  obtain ⟨hc, hcm⟩ := hu c (by simp)
  refine ⟨uses P (results fn fr.tmps) w, fun z z' v hs hag => ?_⟩
  have hst : ∀ cs w, stepG P true (G fr cs) w = unwind P true fr cs none w := fun cs w => by
    unfold stepG G
    simp only [hm]
  cases tame_sim (results fn fr.tmps) (fun _ => False) w v #[] (T.results fn fr.tmps _) (fun _ h => h.elim) hs hag with
  | bad h v' hr hb =>
    cases h with
    | stuck s => exact .bad _ v' (by rw [hst]; simp only [unwind, hfr.defers, hm, hf, Sem.runT_eq, hr]; rfl)
    | unsupported u => exact .bad _ v' (by rw [hst]; simp only [unwind, hfr.defers, hm, hf, Sem.runT_eq, hr]; rfl)
    | _ => exact hb.elim
  | panic x w' v' es' hw hv ha hes => exact .bad _ v' (by rw [hst]; simp only [unwind, hfr.defers, hm, hf, Sem.runT_eq, hv]; rfl)
  | ok a w' v' es' hw hv hq ha hes =>
    obtain ⟨h1, h2⟩ := okFr_finish hc hcm a
    refine .go (c.finish a) up w' v' _ ?_ ?_ h1 (fun x hx => hu x (by simp [hx])) ha (seen_evG (P := P) (fn := fr.fn) (es := #[] ++ es') (by simpa using hes))
    · rw [hst]
      simp only [unwind, hfr.defers, hm, hf, hw, doReturn, List.cons_append, hfr.kind]
      simp [GStep.after, G]
    · rw [hst]
      simp only [unwind, hfr.defers, hm, hf, Sem.runT_eq, hv, doReturn, List.cons_append, hfr.kind]
      rfl

end
end Go.Pair

/- Lone code beside leavers, 5: a contract of the lone machine, over every tape and with the shunned blocks blank, is one beside leavers. -/
set_option linter.unusedVariables false
set_option linter.unusedSimpArgs false
namespace Go.Pair
open Go Go.Conc

/-- A frame that nobody returns into, or panics into, and lives. -/
def trap (P : Program) : Frame := { fn := P.funcs.size, tmps := #[], todo := [.call default false "fmt's door, shut" #[]], defers := [], mode := .run, kind := .normal }

section
variable {P : Program} {S : FuncId → Prop} {Bs : Nat → Prop}

theorem lone_inj {fr fr' : Frame} {cs cs' : List Frame} {w w' : World} (h : lone fr cs w = lone fr' cs' w') : fr = fr' ∧ cs = cs' ∧ w = w' := by
  simp only [lone, Machine.mk.injEq, Array.mk.injEq, List.cons.injEq, Goroutine.mk.injEq] at h
  obtain ⟨h1, h2, _⟩ := h
  exact ⟨h2.1.1, h2.1.2.1, h1⟩

theorem runN_go {n : Nat} {fr fr' : Frame} {cs cs' : List Frame} {w w' : World} {m : Machine} (h : (stepG P true (G fr cs) w).bare = .go (G fr' cs') w') (hr : runN P (n + 1) (lone fr cs w) = .next m) : runN P n (lone fr' cs' w') = .next m := by
  have := step_lone_go (P := P) (fr := fr) (cs := cs) (w := w) h
  simpa only [runN, this] using hr

theorem runN_ended {n : Nat} {fr : Frame} {cs : List Frame} {w w' : World} {o : Outcome} {m : Machine} (h : (stepG P true (G fr cs) w).bare = .ended o w') (hr : runN P (n + 1) (lone fr cs w) = .next m) : False := by
  have := step_lone_ended (P := P) (fr := fr) (cs := cs) (w := w) h
  simp [runN, this] at hr

theorem stepG_unwind {fr : Frame} {cs : List Frame} {w : World} (hm : fr.mode ≠ .run) : stepG P true (G fr cs) w = unwind P true fr cs none w := by
  unfold stepG G
  cases h : fr.mode with
  | run => exact absurd h hm
  | returning => simp only [h]
  | panicking c => simp only [h]

theorem raise_mode (fr : Frame) (chain : List PanicEntry) : ∃ c, fr.raise chain = { fr with mode := .panicking c } := by
  unfold Frame.raise
  split <;> exact ⟨_, rfl⟩

/-- A panic runs into the trap. -/
theorem panic_dead : ∀ (up : List Frame) (fr : Frame) (c : List PanicEntry), fr.defers = [] → (∃ f, P.funcs[fr.fn]? = some f) → (∀ x ∈ up, x.defers = [] ∧ ∃ f, P.funcs[x.fn]? = some f) → ∀ (n : Nat) (v v' : World) (fr' : Frame) (cs' : List Frame),
    runN P n (lone { fr with mode := .panicking c } (up ++ [trap P]) v) = .next (lone fr' cs' v') → ∃ c', fr'.mode = .panicking c' := by
  intro up
  induction up with
  | nil =>
    intro fr c hd hf hu n v v' fr' cs' hr
    obtain ⟨f, hf⟩ := hf
    cases n with
    | zero =>
      simp only [runN, Stepped.next.injEq] at hr
      rw [← (lone_inj hr).1]
      exact ⟨_, rfl⟩
    | succ n =>
      obtain ⟨c2, e2⟩ := raise_mode (trap P) c
      have h1 : (stepG P true (G { fr with mode := .panicking c } ([] ++ [trap P])) v).bare = .go (G { trap P with mode := .panicking c2 } []) v := by
        rw [stepG_unwind (by simp), ← e2]
        simp only [unwind, hd, Frame.catches, hf]
        rfl
      have h2 := runN_go h1 hr
      cases n with
      | zero =>
        simp only [runN, Stepped.next.injEq] at h2
        rw [← (lone_inj h2).1]
        exact ⟨_, rfl⟩
      | succ n =>
        have hnone : P.funcs[P.funcs.size]? = none := by simp
        have h3 : ∃ o, (stepG P true (G { trap P with mode := .panicking c2 } []) v).bare = .ended o v := by
          rw [stepG_unwind (by simp)]
          have hc : Frame.catches P { trap P with mode := .panicking c2 } = true := by
            simp only [Frame.catches, trap, hnone]
            decide +kernel
          simp only [unwind, trap] at hc ⊢
          simp only [hc, if_true]
          exact ⟨_, rfl⟩
        obtain ⟨o, h3⟩ := h3
        exact (runN_ended h3 h2).elim
  | cons x up ih =>
    intro fr c hd hf hu n v v' fr' cs' hr
    obtain ⟨f, hf⟩ := hf
    cases n with
    | zero =>
      simp only [runN, Stepped.next.injEq] at hr
      rw [← (lone_inj hr).1]
      exact ⟨_, rfl⟩
    | succ n =>
      obtain ⟨hx, hxm⟩ := hu x (by simp)
      obtain ⟨c2, e2⟩ := raise_mode x c
      have h1 : (stepG P true (G { fr with mode := .panicking c } ((x :: up) ++ [trap P])) v).bare = .go (G { x with mode := .panicking c2 } (up ++ [trap P])) v := by
        rw [stepG_unwind (by simp), ← e2]
        simp only [unwind, hd, Frame.catches, hf, List.cons_append]
        rfl
      exact ih x c2 hx hxm (fun y hy => hu y (by simp [hy])) n v v' fr' cs' (runN_go h1 hr)

/-- A return runs into the trap. -/
theorem return_dead {fr : Frame} (hfr : OkFr P S fr) (hm : fr.mode = .returning) (n : Nat) (v v' : World) (fr' : Frame) : runN P (n + 1) (lone fr [trap P] v) ≠ .next (lone fr' [trap P] v') := by
  intro hr
  obtain ⟨fn, hf⟩ := hfr.fn
  cases hres : (results fn fr.tmps).run P v with
  | halt h v1 =>
    have h1 : ∃ o, (stepG P true (G fr [trap P]) v).bare = .ended o v1 := by
      rw [stepG_unwind (by rw [hm]; simp)]
      simp only [unwind, hfr.defers, hm, hf, Sem.runT_eq, hres]
      cases h <;> exact ⟨_, rfl⟩
    obtain ⟨o, h1⟩ := h1
    exact runN_ended h1 hr
  | ok x v1 =>
    have h1 : (stepG P true (G fr [trap P]) v).bare = .go (G ((trap P).finish x) []) v1 := by
      rw [stepG_unwind (by rw [hm]; simp)]
      simp only [unwind, hfr.defers, hm, hf, Sem.runT_eq, hres, doReturn, hfr.kind]
      rfl
    have h2 := runN_go h1 hr
    cases n with
    | zero =>
      simp only [runN, Stepped.next.injEq] at h2
      have := (lone_inj h2).2.1
      simp at this
    | succ n =>
      have hx : Extern.next "fmt's door, shut" = none := by decide +kernel
      have h3 : ∃ o, (stepG P true (G ((trap P).finish x) []) v1).bare = .ended o v1 := by
        rw [stepG_exec rfl]
        simp only [stepG.exec, trap, Frame.finish, hx, Option.elim]
        exact ⟨_, rfl⟩
      obtain ⟨o, h3⟩ := h3
      exact runN_ended h3 h2

end
end Go.Pair

/- Lone code beside leavers, 6: the theorem. -/
set_option linter.unusedVariables false
set_option linter.unusedSimpArgs false
namespace Go.Pair
open Go Go.Conc

section
variable {P : Program} {S : FuncId → Prop} {Bs : Nat → Prop} {c0 : Frame} {cs0 : List Frame}

/-- What stays. -/
structure Kept (Bs : Nat → Prop) (w w' : World) : Prop where
  grow : w.heap.size ≤ w'.heap.size
  keep : ∀ i, Bs i → w'.heap[i]? = w.heap[i]?
  same : Same w w'
  tape : w'.tape = w.tape
  far : ∀ (i : Nat) (o : Obj), w'.heap[i]? = some o → ¬ okObj o → w.heap[i]? = some o

theorem Kept.refl (w : World) : Kept Bs w w := ⟨Nat.le_refl _, fun _ _ => rfl, Same.refl _, rfl, fun _ _ h _ => h⟩
theorem Kept.trans {a b c : World} (h : Kept Bs a b) (h' : Kept Bs b c) : Kept Bs a c := ⟨Nat.le_trans h.grow h'.grow, fun i hi => (h'.keep i hi).trans (h.keep i hi), h.same.trans h'.same, h'.tape.trans h.tape, fun i o hc ho => h.far i o (h'.far i o hc ho) ho⟩

/-- Goroutine 0 comes to the return of the lowest frame, whatever is drawn. -/
inductive Fini (P : Program) (Bs : Nat → Prop) (c0 : Frame) (cs0 : List Frame) (Stop : Value → World → Prop) : Frame → List Frame → World → Prop
  | stop {fr : Frame} {w : World} (h : ∀ d, ∃ val w' es, stepG P true (G fr (c0 :: cs0)) (w.at d) = .go (G (c0.finish val) cs0) w' es ∧ w.heap.size ≤ w'.heap.size ∧ Same w w' ∧ (∀ e ∈ es, EvG Bs w'.heap.size e) ∧ Stop val w') : Fini P Bs c0 cs0 Stop fr [] w
  | step {fr : Frame} {up : List Frame} {w : World} (fr' : Nat → Frame) (up' : Nat → List Frame) (w' : Nat → World) (es : Nat → Array Event)
      (h : ∀ d, stepG P true (G fr (up ++ c0 :: cs0)) (w.at d) = .go (G (fr' d) (up' d ++ c0 :: cs0)) (w' d) (es d) ∧ w.heap.size ≤ (w' d).heap.size ∧ Same w (w' d) ∧ ∀ e ∈ es d, EvG Bs (w' d).heap.size e)
      (hn : ∀ d, Fini P Bs c0 cs0 Stop (fr' d) (up' d) (w' d)) : Fini P Bs c0 cs0 Stop fr up w

theorem evL_of_evG {Shun : Loc → Prop} (hS1 : ∀ a, Shun (.cell a) → Bs a.block) (hS2 : ∀ r, Shun (.obj r) → Bs r) {B : Nat} {e : Event} (h : EvG Bs B e) : EvL Shun B e := by
  obtain ⟨loc, wr, sy⟩ := e
  unfold EvG at h
  cases loc with
  | cell a =>
    refine ⟨fun x hx hs => ?_, by simp, by simp, ?_⟩
    · have : x.loc = .cell a := by cases wr <;> cases sy <;> simp [MemAct.ofEvent, MemAct.touch?] at hx <;> subst hx <;> rfl
      exact absurd (hS1 a (this ▸ hs)) h.1
    · cases wr <;> cases sy <;> exact h.2
  | obj r =>
    refine ⟨fun x hx hs => ?_, by simp, by simp, ?_⟩
    · have : x.loc = .obj r := by cases wr <;> cases sy <;> simp [MemAct.ofEvent, MemAct.touch?] at hx <;> subst hx <;> rfl
      exact absurd (hS2 r (this ▸ hs)) h.1
    · cases wr <;> cases sy <;> exact h.2
  | mark m =>
    cases m <;> first | exact h.elim | skip
    refine ⟨fun x hx hs => ?_, by simp, by simp, trivial⟩
    simp [MemAct.ofEvent, MemAct.touch?] at hx
  | output => exact h.elim
  | goroutines => exact h.elim

end
end Go.Pair

/- Lone code beside leavers, 7: from the lone machine's runs on every tape to goroutine 0's. -/
set_option linter.unusedVariables false
set_option linter.unusedSimpArgs false
namespace Go.Pair
open Go Go.Conc

section
variable {P : Program} {S : FuncId → Prop} {Bs : Nat → Prop} {c0 : Frame} {cs0 : List Frame} {Stop : Value → World → Prop} {w0 : World}

/-- A state that does not come to its end on every draw. -/
structure Lost (P : Program) (S : FuncId → Prop) (Bs : Nat → Prop) (c0 : Frame) (cs0 : List Frame) (Stop : Value → World → Prop) (w0 : World) where
  fr : Frame
  up : List Frame
  w : World
  okf : OkFr P S fr
  oku : OkUp P S up
  kept : Kept Bs w0 w
  not : ¬ Fini P Bs c0 cs0 Stop fr up w

def Agree (w v : World) (K : Nat) : Prop := ∀ j, j < K → v.tape (v.drawn + j) = w.tape (w.drawn + j)

theorem one_step (hS : OkS P S) {fr : Frame} {up : List Frame} (hf : OkFr P S fr) (hu : OkUp P S up) (hn : ¬ (up = [] ∧ fr.mode = .returning)) (w : World) : ∃ K, ∀ (z z' : List Frame) (v : World), Sim Bs w v → Agree w v K → One P S Bs K fr up z z' w v := by
  rcases hf.mode with hm | hm
  · exact run_step hS hf hm hu w
  · cases up with
    | nil => exact absurd ⟨rfl, hm⟩ hn
    | cons c up => exact ret_step hS hf hm hu w

/-! ### the sequence, its tape -/
section
variable (hS : OkS P S) (x0 : Lost P S Bs c0 cs0 Stop w0)
open Classical in
end
end
end Go.Pair

/- Lone code beside leavers, 8: the theorem. -/
set_option linter.unusedVariables false
set_option linter.unusedSimpArgs false
namespace Go.Pair
open Go Go.Conc

open Classical in
/-- A block as the lone machine sees it. -/
noncomputable def blankAt (Bs : Nat → Prop) (i : Nat) (o : Obj) : Obj :=
  if Bs i then (match o with | .cells _ e fz => .cells #[] e fz | o => o) else if okObj o then o else dead

/-- The lone machine's memory. -/
noncomputable def blank (Bs : Nat → Prop) (w : World) (tape : Nat → Question → Nat) (d : Nat) : World := { w with heap := w.heap.mapIdx (blankAt Bs), tape := tape, drawn := d }

section
variable {P : Program} {S : FuncId → Prop} {Bs : Nat → Prop}

theorem sim_blank {w : World} (hc : ∀ i, Bs i → ∃ c e fz, w.heap[i]? = some (.cells c e fz)) (tape : Nat → Question → Nat) (d : Nat) : Sim Bs w (blank Bs w tape d) := by
  refine ⟨by simp [blank], fun i => ?_, rfl, rfl⟩
  have e : (blank Bs w tape d).heap[i]? = (w.heap[i]?).map (blankAt Bs i) := by simp [blank]
  rw [e]
  by_cases hb : Bs i
  · obtain ⟨c, t, fz, h⟩ := hc i hb
    exact .inr (.inl ⟨hb, c, t, fz, h, by rw [h]; simp [blankAt, hb]⟩)
  · cases h : w.heap[i]? with
    | none => exact .inl ⟨hb, rfl, fun o ho => by cases ho⟩
    | some o =>
      by_cases ho : okObj o
      · exact .inl ⟨hb, by simp [blankAt, hb, ho], fun x hx => by obtain rfl := Option.some.inj hx; exact ho⟩
      · exact .inr (.inr ⟨hb, ⟨o, rfl, ho⟩, by simp [blankAt, hb, ho]⟩)

end
end Go.Pair
