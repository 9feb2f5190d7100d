/- A piece of lone code beside leavers, 1: the frame in which it stands, with more to do behind it. -/
import Derived.Test.YtlghcldiboecoaaGreatDoorQ24
set_option linter.unusedVariables false
set_option linter.unusedSimpArgs false
namespace Go.Pair
open Go Go.Conc

/-- With more to do behind. -/
def app (fr : Frame) (k : List Item) : Frame := { fr with todo := fr.todo ++ k }

theorem exitTo_app {id : Nat} {k : List Item} : ∀ {l l' : List Item}, exitTo id l = some l' → exitTo id (l ++ k) = some (l' ++ k) := by
  intro l
  induction l with
  | nil => intro l' h; simp [exitTo] at h
  | cons x l ih =>
    intro l' h
    cases x
    case inBlock b =>
      simp only [exitTo, List.cons_append] at h ⊢
      split at h
      · rename_i hb; obtain rfl := Option.some.inj h; rw [if_pos hb]
      · rename_i hb; rw [if_neg hb]; exact ih h
    all_goals (simp only [exitTo, List.cons_append] at h ⊢; exact ih h)

theorem exitTo_none {id : Nat} {k : List Item} : ∀ {l : List Item}, exitTo id l = none → exitTo id (l ++ k) = exitTo id k := by
  intro l
  induction l with
  | nil => intro _; rfl
  | cons x l ih =>
    intro h
    cases x
    case inBlock b =>
      simp only [exitTo, List.cons_append] at h ⊢
      split at h
      · cases h
      · rename_i hb; rw [if_neg hb]; exact ih h
    all_goals (simp only [exitTo, List.cons_append] at h ⊢; exact ih h)

theorem gotoIn_app {l : Nat} {k : List Item} : ∀ {t t' : List Item}, gotoIn l t = some t' → gotoIn l (t ++ k) = some (t' ++ k) := by
  intro t
  induction t with
  | nil => intro t' h; simp [gotoIn] at h
  | cons x t ih =>
    intro t' h
    cases x
    case inScope b =>
      simp only [gotoIn, List.cons_append] at h ⊢
      cases hf : findLabel b l with
      | some r => rw [hf] at h; obtain rfl := Option.some.inj h; simp
      | none => rw [hf] at h; exact ih h
    all_goals (simp only [gotoIn, List.cons_append] at h ⊢; exact ih h)

theorem gotoIn_none {l : Nat} {k : List Item} : ∀ {t : List Item}, gotoIn l t = none → gotoIn l (t ++ k) = gotoIn l k := by
  intro t
  induction t with
  | nil => intro _; rfl
  | cons x t ih =>
    intro h
    cases x
    case inScope b =>
      simp only [gotoIn, List.cons_append] at h ⊢
      cases hf : findLabel b l with
      | some r => rw [hf] at h; cases h
      | none => rw [hf] at h; exact ih h
    all_goals (simp only [gotoIn, List.cons_append] at h ⊢; exact ih h)

section
variable {P : Program} {S : FuncId → Prop} {Bs : Nat → Prop}

theorem finish_app {fr : Frame} {ops : Array Oper} {i : Nat} {l : List Nat} {t : List Item} (h : fr.todo = .inRegion ops (i :: l) :: t) (v : Value) (k : List Item) : (app fr k).finish v = app (fr.finish v) k := by
  simp [Frame.finish, app, h]

/-- A suspended frame is in a region. -/
def Waits (fr : Frame) : Prop := ∃ ops i l t, fr.todo = .inRegion ops (i :: l) :: t

/-- One step of the frame in which the piece stands. -/
inductive OneB (P : Program) (S : FuncId → Prop) (Bs : Nat → Prop) (K : Nat) (fr : Frame) (k kl : List Item) (z z' : List Frame) (w v : World) : Prop
  | bad (o : Outcome) (v' : World) (h : (stepG P true (G (app fr kl) z') v).bare = .ended o v')
  | panic (chain : List PanicEntry) (v' : World) (h : (stepG P true (G (app fr kl) z') v).bare = .go (G ((app fr kl).raise chain) z') v')
  | stay (fr' : Frame) (w' v' : World) (es : Array Event) (hw : stepG P true (G (app fr k) z) w = .go (G (app fr' k) z) w' es) (hv : (stepG P true (G (app fr kl) z') v).bare = .go (G (app fr' kl) z') v')
      (hf : OkFr P S fr') (hfn : fr'.fn = fr.fn) (ha : After Bs K w v w' v') (hes : ∀ e ∈ es, EvG Bs w'.heap.size e)
  | enter (f : Frame) (w' v' : World) (es : Array Event) (hw : stepG P true (G (app fr k) z) w = .go (G f (app fr k :: z)) w' es) (hv : (stepG P true (G (app fr kl) z') v).bare = .go (G f (app fr kl :: z')) v')
      (hf : OkFr P S f) (hwt : Waits fr) (ha : After Bs K w v w' v') (hes : ∀ e ∈ es, EvG Bs w'.heap.size e)

theorem OneB.ctl {fr fr' : Frame} {k kl : List Item} {z z' : List Frame} {w v : World} (h : ∀ k cs w, stepG P true (G (app fr k) cs) w = .go (G (app fr' k) cs) w) (hs : Sim Bs w v) (hf : OkFr P S fr') (hfn : fr'.fn = fr.fn) : OneB P S Bs 0 fr k kl z z' w v :=
  .stay fr' w v #[] (h _ _ _) (by rw [h]; rfl) hf hfn (After.refl hs) (by simp)

theorem OneB.apply {fr : Frame} {k kl : List Item} {z z' : List Frame} {w v : World} {s : Sem Next} (hS : OkS P S) (hfr : OkFr P S fr) (hm : fr.mode = .run) (hn : Waits fr)
    (hst : ∀ k cs w, stepG P true (G (app fr k) cs) w = stepG.apply P true (app fr k) cs none s w) (hT : Tame P (OkN S) s (fun _ => False)) (hs : Sim Bs w v) (ht : ∀ j, j < uses P s w → v.tape (v.drawn + j) = w.tape (w.drawn + j)) :
    OneB P S Bs (uses P s w) fr k kl z z' w v := by
  have hwt := hn
  obtain ⟨ops₀, i₀, l₀, k₀, htd⟩ := hn
  have htd' : ∀ k, (app fr k).todo = .inRegion ops₀ (i₀ :: l₀) :: (k₀ ++ k) := fun k => by simp [app, htd]
  have hke : ∀ k, ((app fr k).kind == CallKind.early) = false := fun k => by show (fr.kind == CallKind.early) = false; rw [hfr.kind]; rfl
  have hfin : ∀ k v, (app fr k).finish v = app (fr.finish v) k := fun k v => finish_app htd v k
  have hfnn : ∀ v, (fr.finish v).fn = fr.fn := fun v => by simp [Frame.finish, htd]
  cases tame_sim s _ w v #[] hT (fun _ h => h.elim) hs ht with
  | bad h v' hr hb =>
    cases h with
    | stuck s => exact .bad _ v' (by rw [hst]; simp only [stepG.apply, Sem.runT_eq, hr, if_true]; rfl)
    | unsupported u => cases u <;> first | exact hb.elim | exact .bad _ v' (by rw [hst]; simp only [stepG.apply, Sem.runT_eq, hr, if_true]; rfl)
    | _ => exact hb.elim
  | panic x w' v' es' hw hv ha hes =>
    refine .panic [{ v := x, recovered := false }] v' ?_
    rw [hst]
    simp only [stepG.apply, Sem.runT_eq, hv, if_true]
    rfl
  | ok a w' v' es' hw hv hq ha hes =>
    cases a with
    | value x =>
      obtain ⟨h1, h2⟩ := okFr_finish hfr hm x
      refine .stay (fr.finish x) w' v' _ ?_ ?_ h1 (hfnn x) ha (seen_evG (P := P) (fn := fr.fn) (es := #[] ++ es') (by simpa using hes))
      · rw [hst]
        simp only [stepG.apply, hw, if_true, hke, hfin]
        simp [GStep.after, G, app]
      · rw [hst]
        simp only [stepG.apply, Sem.runT_eq, hv, if_true, hfin]
        rfl
    | skip =>
      obtain ⟨h1, h2⟩ := okFr_finish hfr hm undef
      refine .stay (fr.finish undef) w' v' _ ?_ ?_ h1 (hfnn undef) ha (seen_evG (P := P) (fn := fr.fn) (es := #[] ++ es') (by simpa using hes))
      · rw [hst]
        simp only [stepG.apply, hw, if_true, hke, hfin]
        simp [GStep.after, G, app]
      · rw [hst]
        simp only [stepG.apply, Sem.runT_eq, hv, if_true, hfin]
        rfl
    | enter f args =>
      obtain ⟨h1, h2⟩ := okFr_enter (P := P) hS hq args
      refine .enter (Frame.enter P f args .normal) w' v' _ ?_ ?_ h1 hwt ha (seen_evG (P := P) (fn := fr.fn) (es := #[] ++ es') (by simpa using hes))
      · rw [hst]
        simp only [stepG.apply, hw, if_true, hke, htd']
        simp [GStep.after, G, app]
      · rw [hst]
        simp only [stepG.apply, Sem.runT_eq, hv, if_true, htd']
        rfl
    | _ => exact hq.elim

/-- The piece is at its end: nothing is left of it; or it is left by an exit; or the function returns. -/
def AtEnd (fr : Frame) : Prop := fr.mode = .returning ∨ fr.todo = [] ∨ ∃ id t, fr.todo = .code (.exit id) :: t ∧ exitTo id t = none

theorem base_step (hS : OkS P S) {fr : Frame} (hfr : OkFr P S fr) (hend : ¬ AtEnd fr) (w : World) : ∃ K, ∀ (k kl : List Item) (z z' : List Frame) (v : World), (∀ l, gotoIn l kl = none) → Sim Bs w v → Agree w v K → OneB P S Bs K fr k kl z z' w v := by
  have hm : fr.mode = .run := hfr.mode.resolve_right fun h => hend (.inl h)
  have ht := hfr.todo hm
  cases htd : fr.todo with
  | nil => exact absurd (.inr (.inl htd)) hend
  | cons x t =>
    rw [htd] at ht
    have hk : ∀ it ∈ t, OkI P S it := fun it hit => ht it (by simp [hit])
    have hx : OkI P S x := ht x (by simp)
    have hma : ∀ k, (app fr k).mode = .run := fun _ => hm
    have hra : ∀ k, (app fr k).roundOf = none := fun _ => hfr.round
    have hta : ∀ k, (app fr k).todo = x :: (t ++ k) := fun k => by simp [app, htd]
    have two : ∀ {y : Item}, OkI P S y → ∀ it ∈ y :: t, OkI P S it := fun hy it hit => by
      simp only [List.mem_cons] at hit
      rcases hit with rfl | hit
      · exact hy
      · exact hk it hit
    have three : ∀ {y y' : Item}, OkI P S y → OkI P S y' → ∀ it ∈ y :: y' :: t, OkI P S it := fun hy hy' it hit => by
      simp only [List.mem_cons] at hit
      rcases hit with rfl | rfl | hit
      · exact hy
      · exact hy'
      · exact hk it hit
    have to : ∀ {k' : List Item}, (∀ it ∈ k', OkI P S it) → (∀ k cs w, stepG P true (G (app fr k) cs) w = .go (G (app { fr with todo := k' } k) cs) w) → ∃ K, ∀ (k kl : List Item) (z z' : List Frame) (v : World), (∀ l, gotoIn l kl = none) → Sim Bs w v → Agree w v K → OneB P S Bs K fr k kl z z' w v :=
      fun hk' h => ⟨0, fun k kl z z' v _ hs _ => OneB.ctl h hs (okFr_todo hfr hk') rfl⟩
    have fin : (∀ k cs w, stepG P true (G (app fr k) cs) w = .go (G ((app fr k).finish undef) cs) w) → Waits fr → ∃ K, ∀ (k kl : List Item) (z z' : List Frame) (v : World), (∀ l, gotoIn l kl = none) → Sim Bs w v → Agree w v K → OneB P S Bs K fr k kl z z' w v :=
      fun h ⟨ops, i, l, t, he⟩ => ⟨0, fun k kl z z' v _ hs _ => OneB.ctl (fr' := fr.finish undef) (fun k cs w => by rw [h, finish_app he]) hs (okFr_finish hfr hm undef).1 (by simp [Frame.finish, he])⟩
    cases x with
    | code c =>
      cases c with
      | skip => exact to hk fun k cs w => by rw [stepG_exec (hma k)]; simp [stepG.exec, hta, G]; simp [app]
      | label l => exact to hk fun k cs w => by rw [stepG_exec (hma k)]; simp [stepG.exec, hta, G]; simp [app]
      | ret =>
        refine ⟨0, fun k kl z z' v _ hs _ => OneB.ctl (fr' := { fr with mode := .returning }) (fun k cs w => ?_) hs (okFr_ret hfr) rfl⟩
        rw [stepG_exec (hma k)]; simp [stepG.exec, hta, hra, G]; simp [app, htd, hfr.round]
      | seq a b => exact to (k' := .code a :: .code b :: t) (three hx.1 hx.2) fun k cs w => by rw [stepG_exec (hma k)]; simp [stepG.exec, hta, G]; simp [app]
      | cond c a b =>
        have hev : ∀ k, (app fr k).eval c = fr.eval c := fun k => by cases c <;> rfl
        by_cases hb : ∃ x, fr.eval c = .bool x
        · obtain ⟨x, hb⟩ := hb
          refine to (k' := .code (if x then a else b) :: t) (two ?_) fun k cs w => by rw [stepG_exec (hma k)]; simp [stepG.exec, hta, G, hev, hb]; simp [app]
          cases x
          · exact hx.2
          · exact hx.1
        · refine ⟨0, fun k kl z z' v _ hs _ => ?_⟩
          have hl : ∃ o, (stepG P true (G (app fr kl) z') v).bare = .ended o v := by
            cases he : fr.eval c with
            | bool x => exact absurd ⟨x, he⟩ hb
            | _ => rw [stepG_exec (hma kl)]; simp only [stepG.exec, hta, hev, he]; exact ⟨_, rfl⟩
          obtain ⟨o, hl⟩ := hl
          exact .bad o v hl
      | block id b => exact to (k' := .code b :: .inBlock id :: t) (three hx trivial) fun k cs w => by rw [stepG_exec (hma k)]; simp [stepG.exec, hta, G]; simp [app]
      | loop b => exact to (k' := .code b :: .inLoop b :: t) (three hx hx) fun k cs w => by rw [stepG_exec (hma k)]; simp [stepG.exec, hta, G]; simp [app]
      | scope b => exact to (k' := .code b :: .inScope b :: t) (three hx hx) fun k cs w => by rw [stepG_exec (hma k)]; simp [stepG.exec, hta, G]; simp [app]
      | exit id =>
        cases he : exitTo id t with
        | some k' => exact to (k' := k') (okI_exit hk he) fun k cs w => by rw [stepG_exec (hma k)]; simp [stepG.exec, hta, G, exitTo_app he]; simp [app]
        | none => exact absurd (.inr (.inr ⟨id, t, htd, he⟩)) hend
      | goto l =>
        cases he : gotoIn l t with
        | some k' => exact to (k' := k') (okI_goto hk he) fun k cs w => by rw [stepG_exec (hma k)]; simp [stepG.exec, hta, G, gotoIn_app he]; simp [app]
        | none =>
          refine ⟨0, fun k kl z z' v hg hs _ => ?_⟩
          have hl : ∃ o, (stepG P true (G (app fr kl) z') v).bare = .ended o v := by
            rw [stepG_exec (hma kl)]
            simp only [stepG.exec, hta, gotoIn_none he, hg, Option.elim, hra]
            exact ⟨_, rfl⟩
          obtain ⟨o, hl⟩ := hl
          exact .bad o v hl
      | rangeFunc f ps a b => exact hx.elim
      | refuse s => exact hx.elim
      | region id ops draw =>
        cases draw with
        | false => exact to (k' := .inRegion ops (List.range ops.size) :: t) (two hx) fun k cs w => by rw [stepG_exec (hma k)]; simp [stepG.exec, hta, G]; simp [app]
        | true =>
          refine ⟨1, fun k kl z z' v _ hs hag => ?_⟩
          have e0 : v.tape v.drawn = w.tape w.drawn := hag 0 (by omega)
          have key : ∀ k cs (w : World), stepG P true (G (app fr k) cs) w = .go (G (app { fr with todo := .inRegion ops (Region.schedule (P.follows .mixedOrders) ops (w.tape w.drawn (.order fr.fn id))) :: t } k) cs) { w with drawn := w.drawn + 1 } := by
            intro k cs w
            rw [stepG_exec (hma k)]; simp [stepG.exec, hta, G, choose, Sem.run, Question.forced, Question.cut]; simp [app]
          refine .stay { fr with todo := .inRegion ops (Region.schedule (P.follows .mixedOrders) ops (w.tape w.drawn (.order fr.fn id))) :: t } { w with drawn := w.drawn + 1 } { v with drawn := v.drawn + 1 } #[] (key _ _ _) ?_ (okFr_todo hfr (two hx)) rfl ⟨hs.drawn _ _, Nat.le_refl _, fun _ _ => rfl, rfl, rfl, rfl, rfl, ⟨rfl, rfl⟩, fun _ _ h _ => h⟩ (by simp)
          rw [key, e0]; rfl
    | inBlock id => exact to hk fun k cs w => by rw [stepG_exec (hma k)]; simp [stepG.exec, hta, G]; simp [app]
    | inScope b => exact to hk fun k cs w => by rw [stepG_exec (hma k)]; simp [stepG.exec, hta, G]; simp [app]
    | inLoop b => exact to (k' := .code b :: .inLoop b :: t) (three hx hx) fun k cs w => by rw [stepG_exec (hma k)]; simp [stepG.exec, hta, G]; simp [app]
    | inRegion ops l =>
      cases l with
      | nil => exact to hk fun k cs w => by rw [stepG_exec (hma k)]; simp [stepG.exec, hta, G]; simp [app]
      | cons i l =>
        have htm : ∀ k, (app fr k).tmps = fr.tmps := fun _ => rfl
        cases ho : ops[i]? with
        | none => exact fin (fun k cs w => by rw [stepG_exec (hma k)]; simp [stepG.exec, hta, G, ho]) ⟨ops, i, l, t, htd⟩
        | some o =>
          cases hwt : Region.wanted o (yielded ops fr.tmps) with
          | false => exact fin (fun k cs w => by rw [stepG_exec (hma k)]; simp [stepG.exec, hta, G, ho, htm, hwt]) ⟨ops, i, l, t, htd⟩
          | true =>
            refine ⟨uses P (execOp fr.eval o) w, fun k kl z z' v _ hs hag => OneB.apply hS hfr hm ⟨ops, i, l, t, htd⟩ (fun k cs w => ?_) (hx i o ho fr) hs hag⟩
            have hev : (app fr k).eval = fr.eval := funext fun c => by cases c <;> rfl
            rw [stepG_exec (hma k)]
            simp [stepG.exec, hta, ho, htm, hwt, stepG.oper, Frame.oper?, hra, hev]
    | _ => exact hx.elim

end
end Go.Pair

/- A piece of lone code beside leavers, 2: the lone machine's rest, in which the piece's ends are told apart. -/
set_option linter.unusedVariables false
set_option linter.unusedSimpArgs false
namespace Go.Pair
open Go Go.Conc

/-- What stands behind the piece for the lone machine: nothing that can be run; for each way out its own. -/
def outs (ids : List Nat) : List Item := .code (.refuse "") :: ids.flatMap fun id => [.inBlock id, .code (.refuse "")]

def Refused (l : List Item) : Prop := ∃ s t, l = .code (.refuse s) :: t

theorem goto_blocks (l : Nat) : ∀ ids : List Nat, gotoIn l (ids.flatMap fun id => [Item.inBlock id, .code (.refuse "")]) = none
  | [] => rfl
  | _ :: ids => by simp only [List.flatMap_cons, List.cons_append, List.nil_append, gotoIn]; exact goto_blocks l ids

theorem goto_outs (ids : List Nat) (l : Nat) : gotoIn l (outs ids) = none := goto_blocks l ids

theorem exit_blocks (id : Nat) : ∀ (ids : List Nat) (t : List Item), exitTo id (ids.flatMap fun id => [Item.inBlock id, .code (.refuse "")]) = some t → Refused t ∧ t.length < (ids.flatMap fun id => [Item.inBlock id, Item.code (.refuse "")]).length ∧ ∀ id', exitTo id' (ids.flatMap fun id => [Item.inBlock id, .code (.refuse "")]) = some t → id' = id
  | [], t => by simp [exitTo]
  | i :: ids, t => by
    intro h
    simp only [List.flatMap_cons, List.cons_append, List.nil_append, exitTo] at h ⊢
    by_cases hi : (i == id) = true
    · rw [if_pos hi] at h
      obtain rfl := Option.some.inj h
      refine ⟨⟨_, _, rfl⟩, by simp, fun id' h' => ?_⟩
      by_cases hi' : (i == id') = true
      · simp at hi hi'; omega
      · rw [if_neg hi'] at h'
        have := (exit_blocks id' ids _ h').2.1
        simp at this
        omega
    · rw [if_neg hi] at h
      obtain ⟨a, b, c⟩ := exit_blocks id ids t h
      refine ⟨a, by simp only [List.length_cons]; omega, fun id' h' => ?_⟩
      by_cases hi' : (i == id') = true
      · rw [if_pos hi'] at h'
        obtain rfl := Option.some.inj h'
        simp at b
        omega
      · rw [if_neg hi'] at h'
        exact c id' h'

theorem exit_outs {id : Nat} {ids : List Nat} {t : List Item} (h : exitTo id (outs ids) = some t) : Refused t ∧ t.length < (outs ids).length ∧ ∀ id', exitTo id' (outs ids) = some t → id' = id := by
  obtain ⟨a, b, c⟩ := exit_blocks id ids t h
  exact ⟨a, by simp only [outs, List.length_cons]; omega, c⟩

section
variable {P : Program} {S : FuncId → Prop} {Bs : Nat → Prop}

theorem refused_dead {fr : Frame} {cs cs' : List Frame} {v v' : World} {fr' : Frame} {n : Nat} (hm : fr.mode = .run) (h : Refused fr.todo) : runN P (n + 1) (lone fr cs v) ≠ .next (lone fr' cs' v') := by
  intro hr
  obtain ⟨s, t, h⟩ := h
  have h1 : ∃ o, (stepG P true (G fr cs) v).bare = .ended o v := by
    rw [stepG_exec hm]
    simp only [stepG.exec, h]
    exact ⟨_, rfl⟩
  obtain ⟨o, h1⟩ := h1
  exact runN_ended h1 hr

/-! ### goroutine 0 comes to an end of the piece -/
/-- The frames: that of the piece (fr, or b under frames that it called). -/
inductive FiniB (P : Program) (Bs : Nat → Prop) (k : List Item) (z : List Frame) (Stop : Frame → World → Prop) : Option (Frame × List Frame) → Frame → World → Prop
  | stop {fr : Frame} {w : World} (hend : AtEnd fr) (h : Stop fr w) : FiniB P Bs k z Stop none fr w
  | base {b : Frame} {w : World} (x : Nat → Option (Frame × List Frame)) (b' : Nat → Frame) (w' : Nat → World) (es : Nat → Array Event)
      (h : ∀ d, stepG P true (G (app b k) z) (w.at d) = .go (match x d with | none => G (app (b' d) k) z | some (f, up) => G f (up ++ app (b' d) k :: z)) (w' d) (es d) ∧ w.heap.size ≤ (w' d).heap.size ∧ Same w (w' d) ∧ ∀ e ∈ es d, EvG Bs (w' d).heap.size e)
      (hn : ∀ d, FiniB P Bs k z Stop (x d) (b' d) (w' d)) : FiniB P Bs k z Stop none b w
  | inner {fr b : Frame} {up : List Frame} {w : World} (x : Nat → Option (Frame × List Frame)) (b' : Nat → Frame) (w' : Nat → World) (es : Nat → Array Event)
      (h : ∀ d, stepG P true (G fr (up ++ app b k :: z)) (w.at d) = .go (match x d with | none => G (app (b' d) k) z | some (f, up) => G f (up ++ app (b' d) k :: z)) (w' d) (es d) ∧ w.heap.size ≤ (w' d).heap.size ∧ Same w (w' d) ∧ ∀ e ∈ es d, EvG Bs (w' d).heap.size e)
      (hn : ∀ d, FiniB P Bs k z Stop (x d) (b' d) (w' d)) : FiniB P Bs k z Stop (some (fr, up)) b w

/-- The goroutine. -/
def stack (k : List Item) (z : List Frame) (x : Option (Frame × List Frame)) (b : Frame) : Goroutine := match x with | none => G (app b k) z | some (f, up) => G f (up ++ app b k :: z)

theorem FiniB.steps {k : List Item} {z : List Frame} {Stop : Frame → World → Prop} {x : Option (Frame × List Frame)} {b : Frame} {w : World}
    (h : ∀ d, ∃ x' b' w' es, stepG P true (stack k z x b) (w.at d) = .go (stack k z x' b') w' es ∧ w.heap.size ≤ w'.heap.size ∧ Same w w' ∧ (∀ e ∈ es, EvG Bs w'.heap.size e) ∧ FiniB P Bs k z Stop x' b' w') : FiniB P Bs k z Stop x b w := by
  have h1 := fun d => (h d).choose_spec.choose_spec.choose_spec.choose_spec
  cases x with
  | none => exact .base (fun d => (h d).choose) (fun d => (h d).choose_spec.choose) (fun d => (h d).choose_spec.choose_spec.choose) (fun d => (h d).choose_spec.choose_spec.choose_spec.choose) (fun d => ⟨(h1 d).1, (h1 d).2.1, (h1 d).2.2.1, (h1 d).2.2.2.1⟩) (fun d => (h1 d).2.2.2.2)
  | some p => exact .inner (fun d => (h d).choose) (fun d => (h d).choose_spec.choose) (fun d => (h d).choose_spec.choose_spec.choose) (fun d => (h d).choose_spec.choose_spec.choose_spec.choose) (fun d => ⟨(h1 d).1, (h1 d).2.1, (h1 d).2.2.1, (h1 d).2.2.2.1⟩) (fun d => (h1 d).2.2.2.2)

theorem FiniB.ea {k : List Item} {z : List Frame} {Shun : Loc → Prop} {Post : Value → World → Prop} {Stop : Frame → World → Prop} (hS1 : ∀ a, Shun (.cell a) → Bs a.block) (hS2 : ∀ r, Shun (.obj r) → Bs r)
    (hstop : ∀ fr w, AtEnd fr → Stop fr w → EA P Post Shun (G (app fr k) z) w) {x : Option (Frame × List Frame)} {b : Frame} {w : World} (h : FiniB P Bs k z Stop x b w) : EA P Post Shun (stack k z x b) w := by
  induction h with
  | stop he h => exact hstop _ _ he h
  | @base b w x b' w' es h hn ih =>
    refine EA.goes (n := 1) (Goes.step rfl fun w₁ r => ?_)
    obtain ⟨d, rfl⟩ := r
    obtain ⟨hs, hsz, hsm, hes⟩ := h d
    show (stepG P true (G (app b k) z) (w.at d)).goes _
    rw [hs, goes_go]
    exact ⟨⟨hsz, fun e he => evL_of_evG hS1 hS2 (hes e he), hsm⟩, EA.stop (ih d)⟩
  | @inner fr b up w x b' w' es h hn ih =>
    refine EA.goes (n := 1) (Goes.step rfl fun w₁ r => ?_)
    obtain ⟨d, rfl⟩ := r
    obtain ⟨hs, hsz, hsm, hes⟩ := h d
    show (stepG P true (G fr (up ++ app b k :: z)) (w.at d)).goes _
    rw [hs, goes_go]
    exact ⟨⟨hsz, fun e he => evL_of_evG hS1 hS2 (hes e he), hsm⟩, EA.stop (ih d)⟩

end
end Go.Pair

/- A piece of lone code beside leavers, 3: the theorem. -/
set_option linter.unusedVariables false
set_option linter.unusedSimpArgs false
namespace Go.Pair
open Go Go.Conc

section
variable {P : Program} {S : FuncId → Prop} {Bs : Nat → Prop} {k : List Item} {z : List Frame} {Stop : Frame → World → Prop} {w0 : World} {f0 : FuncId}

def OkX (P : Program) (S : FuncId → Prop) (x : Option (Frame × List Frame)) (b : Frame) : Prop := match x with | none => True | some (f, up) => OkFr P S f ∧ OkUp P S up ∧ b.mode = .run ∧ Waits b

structure LostB (P : Program) (S : FuncId → Prop) (Bs : Nat → Prop) (k : List Item) (z : List Frame) (Stop : Frame → World → Prop) (w0 : World) (f0 : FuncId) where
  x : Option (Frame × List Frame)
  b : Frame
  w : World
  okb : OkFr P S b
  okx : OkX P S x b
  bfn : b.fn = f0
  kept : Kept Bs w0 w
  not : ¬ FiniB P Bs k z Stop x b w

/-- One step. -/
inductive OneS (P : Program) (S : FuncId → Prop) (Bs : Nat → Prop) (K : Nat) (x : Option (Frame × List Frame)) (b : Frame) (k kl : List Item) (z z' : List Frame) (w v : World) : Prop
  | bad (o : Outcome) (v' : World) (h : (stepG P true (stack kl z' x b) v).bare = .ended o v')
  | panic (fr : Frame) (c : List PanicEntry) (up : List Frame) (v' : World) (h : (stepG P true (stack kl z' x b) v).bare = .go (G { fr with mode := .panicking c } (up ++ z')) v') (hd : fr.defers = []) (hf : ∃ f, P.funcs[fr.fn]? = some f) (hu : ∀ y ∈ up, y.defers = [] ∧ ∃ f, P.funcs[y.fn]? = some f)
  | go (x' : Option (Frame × List Frame)) (b' : Frame) (w' v' : World) (es : Array Event) (hw : stepG P true (stack k z x b) w = .go (stack k z x' b') w' es) (hv : (stepG P true (stack kl z' x b) v).bare = .go (stack kl z' x' b') v')
      (hb : OkFr P S b') (hx : OkX P S x' b') (hfn : b'.fn = b.fn) (ha : After Bs K w v w' v') (hes : ∀ e ∈ es, EvG Bs w'.heap.size e)

theorem one_stepS (hS : OkS P S) {x : Option (Frame × List Frame)} {b : Frame} (hb : OkFr P S b) (hx : OkX P S x b) (hn : ¬ (x = none ∧ AtEnd b)) (w : World) : ∃ K, ∀ (k kl : List Item) (z z' : List Frame) (v : World), (∀ l, gotoIn l kl = none) → Sim Bs w v → Agree w v K → OneS P S Bs K x b k kl z z' w v := by
  cases x with
  | none =>
    obtain ⟨K, hK⟩ := base_step (Bs := Bs) hS hb (fun h => hn ⟨rfl, h⟩) w
    refine ⟨K, fun k kl z z' v hg hs ha => ?_⟩
    cases hK k kl z z' v hg hs ha with
    | bad o v' h => exact .bad o v' h
    | panic ch v' h =>
      obtain ⟨c, ec⟩ := raise_mode (app b kl) ch
      rw [ec] at h
      exact .panic (app b kl) c [] v' h hb.defers hb.fn (by simp)
    | stay fr' w' v' es hw hv hf hfn ha hes => exact .go none fr' w' v' es hw hv hf trivial hfn ha hes
    | enter f w' v' es hw hv hf hwt ha hes =>
      have hm : b.mode = .run := hb.mode.resolve_right fun h => hn ⟨rfl, .inl h⟩
      exact .go (some (f, [])) b w' v' es hw hv hb ⟨hf, (fun _ h => by cases h), hm, hwt⟩ rfl ha hes
  | some p =>
    obtain ⟨f, up⟩ := p
    obtain ⟨hf, hu, hm, hwt⟩ := hx
    by_cases hfin : up = [] ∧ f.mode = .returning
    · obtain ⟨rfl, hfm⟩ := hfin
      obtain ⟨fn, hfn⟩ := hf.fn
      refine ⟨uses P (results fn f.tmps) w, fun k kl z z' v hg hs hag => ?_⟩
      have hst : ∀ cs w, stepG P true (G f cs) w = unwind P true f cs none w := fun cs w => stepG_unwind (by rw [hfm]; simp)
      cases tame_sim (results fn f.tmps) (fun _ => False) w v #[] (T.results fn f.tmps _) (fun _ h => h.elim) hs hag with
      | bad h v' hr hb =>
        cases h with
        | stuck s => exact .bad _ v' (by show (stepG P true (G f _) v).bare = _; rw [hst]; simp only [unwind, hf.defers, hfm, hfn, Sem.runT_eq, hr]; rfl)
        | unsupported u => exact .bad _ v' (by show (stepG P true (G f _) v).bare = _; rw [hst]; simp only [unwind, hf.defers, hfm, hfn, Sem.runT_eq, hr]; rfl)
        | _ => exact hb.elim
      | panic y w' v' es' hw hv ha hes => exact .bad _ v' (by show (stepG P true (G f _) v).bare = _; rw [hst]; simp only [unwind, hf.defers, hfm, hfn, Sem.runT_eq, hv]; rfl)
      | ok a w' v' es' hw hv hq ha hes =>
        obtain ⟨ops, i, l, t, he⟩ := hwt
        refine .go none (b.finish a) w' v' _ ?_ ?_ (okFr_finish hb hm a).1 trivial (by simp [Frame.finish, he]) ha (seen_evG (P := P) (fn := f.fn) (es := #[] ++ es') (by simpa using hes))
        · show stepG P true (G f ([] ++ app b k :: z)) w = .go (G (app (b.finish a) k) z) w' _
          rw [hst]
          simp only [unwind, hf.defers, hfm, hfn, hw, doReturn, List.nil_append, hf.kind, finish_app he]
          simp [GStep.after, G]
        · show (stepG P true (G f ([] ++ app b kl :: z')) v).bare = .go (G (app (b.finish a) kl) z') v'
          rw [hst]
          simp only [unwind, hf.defers, hfm, hfn, Sem.runT_eq, hv, doReturn, List.nil_append, hf.kind, finish_app he]
          rfl
    · obtain ⟨K, hK⟩ := one_step (Bs := Bs) hS hf hu hfin w
      refine ⟨K, fun k kl z z' v hg hs ha => ?_⟩
      cases hK (app b k :: z) (app b kl :: z') v hs ha with
      | bad o v' h => exact .bad o v' h
      | panic ch v' h =>
        obtain ⟨c, ec⟩ := raise_mode f ch
        rw [ec] at h
        refine .panic f c (up ++ [app b kl]) v' (by rw [List.append_assoc]; exact h) hf.defers hf.fn fun y hy => ?_
        rw [List.mem_append] at hy
        rcases hy with hy | hy
        · exact ⟨(hu y hy).1.defers, (hu y hy).1.fn⟩
        · obtain rfl : y = app b kl := by simpa using hy
          exact ⟨hb.defers, hb.fn⟩
      | go fr' up' w' v' es hw hv hf' hu' ha hes => exact .go (some (fr', up')) b w' v' es hw hv hb ⟨hf', hu', hm, hwt⟩ rfl ha hes

theorem app_inj {a b : Frame} {k : List Item} (h : app a k = app b k) : a = b := by
  cases a; cases b
  simp only [app, Frame.mk.injEq, List.append_cancel_right_eq] at h ⊢
  exact h

theorem G_inj {f f' : Frame} {c c' : List Frame} (h : G f c = G f' c') : f = f' ∧ c = c' := by
  simp only [G, Goroutine.mk.injEq] at h
  exact ⟨h.1, h.2.1⟩

theorem stack_inj {x x' : Option (Frame × List Frame)} {b b' : Frame} (h : stack k z x b = stack k z x' b') : x = x' ∧ b = b' := by
  cases x with
  | none =>
    cases x' with
    | none => exact ⟨rfl, app_inj (G_inj h).1⟩
    | some p =>
      have := congrArg List.length (G_inj (show G (app b k) z = G p.1 (p.2 ++ app b' k :: z) from h)).2
      simp at this
      omega
  | some p =>
    cases x' with
    | none =>
      have := congrArg List.length (G_inj (show G p.1 (p.2 ++ app b k :: z) = G (app b' k) z from h)).2
      simp at this
      omega
    | some q =>
      obtain ⟨h1, h2⟩ := G_inj (show G p.1 (p.2 ++ app b k :: z) = G q.1 (q.2 ++ app b' k :: z) from h)
      have h3 : p.2 ++ [app b k] = q.2 ++ [app b' k] := by
        have : (p.2 ++ [app b k]) ++ z = (q.2 ++ [app b' k]) ++ z := by simpa using h2
        exact List.append_cancel_right this
      have h4 := List.append_inj' h3 rfl
      refine ⟨?_, app_inj (by simpa using h4.2)⟩
      rw [show p = (p.1, p.2) from rfl, show q = (q.1, q.2) from rfl, h1, h4.1]

structure AdvB (kl : List Item) (x : LostB P S Bs k z Stop w0 f0) (d K : Nat) (y : LostB P S Bs k z Stop w0 f0) : Prop where
  mid : ¬ (x.x = none ∧ AtEnd x.b) → (∀ v, Sim Bs (x.w.at d) v → Agree (x.w.at d) v K → OneS P S Bs K x.x x.b k kl z [trap P] (x.w.at d) v) ∧
    ∀ x' b' w' es, stepG P true (stack k z x.x x.b) (x.w.at d) = .go (stack k z x' b') w' es → OkFr P S b' → OkX P S x' b' → b'.fn = f0 → Kept Bs w0 w' → x.w.heap.size ≤ w'.heap.size → Same x.w w' → (∀ e ∈ es, EvG Bs w'.heap.size e) → y.x = x' ∧ y.b = b' ∧ y.w = w'

theorem advB (hS : OkS P S) (kl : List Item) (hg : ∀ l, gotoIn l kl = none) (x : LostB P S Bs k z Stop w0 f0) : ∃ d K y, AdvB kl x d K y := by
  by_cases hfin : x.x = none ∧ AtEnd x.b
  · exact ⟨0, 0, x, ⟨fun h => absurd hfin h⟩⟩
  · have hnot : ∃ d, ¬ ∃ x' b' w' es, stepG P true (stack k z x.x x.b) (x.w.at d) = .go (stack k z x' b') w' es ∧ x.w.heap.size ≤ w'.heap.size ∧ Same x.w w' ∧ (∀ e ∈ es, EvG Bs w'.heap.size e) ∧ FiniB P Bs k z Stop x' b' w' := by
      refine Classical.byContradiction fun hno => x.not (FiniB.steps fun d => ?_)
      exact Classical.byContradiction fun h => hno ⟨d, h⟩
    obtain ⟨d, hd⟩ := hnot
    obtain ⟨K, hK⟩ := one_stepS (Bs := Bs) hS x.okb x.okx hfin (x.w.at d)
    by_cases hgo : ∃ x' b' w' es, stepG P true (stack k z x.x x.b) (x.w.at d) = .go (stack k z x' b') w' es ∧ OkFr P S b' ∧ OkX P S x' b' ∧ b'.fn = f0 ∧ Kept Bs w0 w' ∧ x.w.heap.size ≤ w'.heap.size ∧ Same x.w w' ∧ ∀ e ∈ es, EvG Bs w'.heap.size e
    · obtain ⟨x', b', w', es, h1, h2, h3, h3b, h4, h5, h6, h7⟩ := hgo
      refine ⟨d, K, ⟨x', b', w', h2, h3, h3b, h4, fun hF => hd ⟨x', b', w', es, h1, h5, h6, h7, hF⟩⟩, ⟨fun _ => ⟨fun v hs ha => hK _ _ _ _ v hg hs ha, fun x2 b2 w2 es2 e2 _ _ _ _ _ _ _ => ?_⟩⟩⟩
      rw [h1] at e2
      injection e2 with e3 e4 e5
      obtain ⟨e6, e7⟩ := stack_inj e3
      exact ⟨e6, e7, e4⟩
    · exact ⟨d, K, x, ⟨fun _ => ⟨fun v hs ha => hK _ _ _ _ v hg hs ha, fun x2 b2 w2 es2 e2 a1 a2 a3 a4 a5 a6 a7 => absurd ⟨x2, b2, w2, es2, e2, a1, a2, a3, a4, a5, a6, a7⟩ hgo⟩⟩⟩

end
end Go.Pair
