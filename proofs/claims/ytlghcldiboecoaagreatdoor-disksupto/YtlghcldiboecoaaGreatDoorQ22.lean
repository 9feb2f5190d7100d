/- Goroutine 0's own code between its pairs: walks, calls, beside leavers. -/
import Derived.Test.YtlghcldiboecoaaGreatDoorQ21
import Derived.Conc.CompanyMem
set_option linter.unusedVariables false
set_option linter.unusedSimpArgs false
namespace Go.Pair
open Go Go.Conc

def DS (Shun : Loc → Prop) (w w' : World) (es : Array Event) : Prop := w.heap.size ≤ w'.heap.size ∧ (∀ e ∈ es, EvL Shun w'.heap.size e) ∧ Same w w'

theorem termsS (Shun : Loc → Prop) : Terms AtRel (DS Shun) := ⟨atRel_trans, fun w => ⟨Nat.le_refl _, by simp, rfl, rfl⟩⟩

def EA (P : Program) (Post : Value → World → Prop) (Shun : Loc → Prop) (g : Goroutine) (w : World) : Prop := ∀ d, Ends P (fun v w' => Same w w' ∧ Post v w') Shun 0 g (w.at d)

theorem Ends.mono {P : Program} {Post Post' : Value → World → Prop} {Shun : Loc → Prop} {d : Nat} {g : Goroutine} {w : World} (hP : ∀ v w', Post v w' → Post' v w') (h : Ends P Post Shun d g w) : Ends P Post' Shun d g w := by
  intro gs sl t q h0 hL hT
  obtain ⟨N, last, o, w', t', r1, r2, r3, v, rfl, hp, rest⟩ := h gs sl t q h0 hL hT
  exact ⟨N, last, _, w', t', r1, r2, r3, v, rfl, hP _ _ hp, rest⟩

section
variable {P : Program} {Post : Value → World → Prop} {Shun : Loc → Prop} {g g' : Goroutine} {w w' : World} {n : Nat}
theorem EA.ends (h : EA P Post Shun g w) : Ends P (fun v w' => Same w w' ∧ Post v w') Shun 0 g w := h w.drawn
theorem EA.from (h : EA P Post Shun g w') (s : Same w w') : Ends P (fun v w' => Same w w' ∧ Post v w') Shun 0 g w' := h.ends.mono fun _ _ x => ⟨s.trans x.1, x.2⟩
theorem EA.rel (h : EA P Post Shun g w) (r : AtRel w w') : EA P Post Shun g w' := by
  obtain ⟨d, rfl⟩ := r
  exact fun d' => h d'

theorem EA.goes (h : Goes P true AtRel (DS Shun) (EA P Post Shun) n g w) : EA P Post Shun g w := fun d =>
  Ends.goes (D := DS Shun) (Stop := fun g w' => Same w w' ∧ EA P Post Shun g w') (fun _ _ _ h => ⟨h.1, h.2.1⟩) (fun _ _ h => h.2.from h.1)
    (goes_conv (I := fun w' => Same w w') (fun _ _ r => r) (fun _ _ r hI => by obtain ⟨e, rfl⟩ := r; exact hI) (fun _ _ _ h => h) (fun _ _ _ h hI => hI.trans h.2.2) (fun _ _ hI h => ⟨hI, h⟩) ⟨rfl, rfl⟩ (Goes.rely (R := AtRel) atRel_trans h ⟨d, rfl⟩))

theorem EA.stop (h : EA P Post Shun g w) : Goes P true AtRel (DS Shun) (EA P Post Shun) n g w := Goes.stop fun _ r => h.rel r

theorem evL_cell {B : Nat} {a : Addr} {wr : Bool} (hs : ¬ Shun (.cell a)) (hb : a.block < B) : EvL Shun B ⟨.cell a, wr, false⟩ := by
  refine ⟨fun x hx hsx => ?_, by simp, by simp, ?_⟩
  · cases wr <;> simp [MemAct.ofEvent, MemAct.touch?] at hx <;> subst hx <;> exact absurd hsx hs
  · cases wr <;> exact hb

def CallsE (P : Program) (Post : Value → World → Prop) (f : FuncId) (args : Array Value) (Shun : Loc → Prop) (w : World) (PostF : Value → World → (Loc → Prop) → Prop) : Prop :=
  ∃ fn c, P.funcs[f]? = some fn ∧ (fn.name == "runtime.NumGoroutine") = false ∧ fn.body = some c ∧ ∀ (fr : Frame) (cs : List Frame), (∀ v w' Shun', PostF v w' Shun' → EA P Post Shun' (G (fr.finish v) cs) w') →
    EA P Post Shun (G ((base f).at { tmps := args ++ Array.replicate (fn.ntmps - args.size) undef, defers := [] } [.code c]) (fr :: cs)) w

theorem goes_callE {b : Frame} {a : Act} {k : List Item} {cs : List Frame} {ops : Array Oper} {i : Nat} {rest : List Nat} {o : Oper} {f : FuncId} {args : Array Operand} {ats : Array TypeId} {PostF : Value → World → (Loc → Prop) → Prop}
    (ho : ops[i]? = some o) (hw : Region.wanted o (yielded ops a.tmps) = true) (hk : b.kind ≠ .early) (hop : o.op = .call { callee := .value (.func f), args, argTypes := ats })
    (hcall : CallsE P Post f (args.map a.eval) Shun w PostF) (hnext : ∀ v w' Shun', PostF v w' Shun' → EA P Post Shun' (G (b.at (a.put o.dst v) (.inRegion ops rest :: k)) cs) w') :
    Goes P true AtRel (DS Shun) (EA P Post Shun) 1 (G (b.at a (.inRegion ops (i :: rest) :: k)) cs) w := by
  obtain ⟨fn, c, hf, hname, hbody, h⟩ := hcall
  refine Goes.step rfl fun w₁ r => goes_call ho hw hk hop hf hname hbody ⟨(termsS Shun).idle _, ?_⟩
  refine fun w₂ r₂ => (h _ _ fun v w' S q => ?_).rel (atRel_trans _ _ _ r r₂)
  have hfin : ∀ v, (b.at a (.inRegion ops (i :: rest) :: k)).finish v = b.at (a.put o.dst v) (.inRegion ops rest :: k) := fun v => by rw [Frame.finish_at, ho]; rfl
  rw [hfin]
  exact hnext v w' S q

end
end Go.Pair

/- Lone code beside leavers, 1: operations whose run in a memory in which some blocks are blank tells what their run in the real memory does: the same result, the same listed accesses, none of them in a blanked block. -/
namespace Go.Pair
open Go Go.Conc

def Bad : Halt → Prop
  | .stuck _ => True
  | .unsupported (.initOrder _) => False
  | .unsupported _ => True
  | _ => False

def okObj : Obj → Prop
  | .pending _ _ => False
  | .view _ _ => False
  | _ => True

def dead : Obj := .view ⟨0, 0, some 0⟩ 0

def Dooms {α : Type} (P : Program) (R : α → Prop) : Sem α → Prop
  | .pure a => R a
  | .load _ _ k => ∀ v, Dooms P R (k v)
  | .store _ _ _ k => Dooms P R k
  | .new o k => okObj o ∧ ∀ r, Dooms P R (k r)
  | .shape _ k => ∀ x, Dooms P R (k x)
  | .freeze _ _ k => Dooms P R k
  | .frozen _ k => ∀ x, Dooms P R (k x)
  | .getObj _ k => ∀ o, Dooms P R (k o)
  | .setObj _ o k => okObj o ∧ Dooms P R k
  | .choose _ k => ∀ n, Dooms P R (k n)
  | .sys _ _ => False
  | .program k => Dooms P R (k P)
  | .mark _ k => Dooms P R k
  | .halt h => Bad h

def Tame {α : Type} (P : Program) (Q : α → Prop) : Sem α → (Nat → Prop) → Prop
  | .pure a, _ => Q a
  | .load _ _ k, A => ∀ v, Tame P Q (k v) A
  | .store _ _ _ k, A => Tame P Q k A
  | .new o k, A => okObj o ∧ ∀ r, Tame P Q (k r) (fun x => A x ∨ x = r)
  | .shape r k, A => (∀ x, Dooms P (fun _ => False) (k x)) ∨ ((∀ x, Tame P Q (k x) A) ∧ (A r ∨ (∀ e, Dooms P (fun _ => False) (k (some (e, 0)))) ∨ ∀ e n, k (some (e, n)) = k (some (e, 0))))
  | .freeze a _ k, A => A a.block ∧ Tame P Q k A
  | .frozen _ k, A => ∀ x, Tame P Q (k x) A
  | .getObj _ k, A => (∀ o, Tame P Q (k o) A) ∧ ((∀ a t, Dooms P (fun _ => False) (k (.view a t))) ∨ ∀ o, ¬ okObj o → k o = k dead)
  | .setObj _ o k, A => okObj o ∧ Tame P Q k A
  | .choose _ k, A => ∀ n, Tame P Q (k n) A
  | .sys _ _, _ => False
  | .program k, A => Tame P Q (k P) A
  | .mark m k, A => m = .noRoom ∧ Tame P Q k A
  | .halt h, _ => Bad h ∨ ∃ x, h = .panic x

def uses {α : Type} (P : Program) : Sem α → World → Nat
  | .pure _, _ => 0
  | .load _ a k, w => match w.cell? a with | some v => uses P (k v) w | none => 0
  | .store _ a v k, w => match w.cell? a with | some _ => uses P k (w.setCell a v) | none => 0
  | .new o k, w => uses P (k w.heap.size) { w with heap := w.heap.push o }
  | .shape r k, w => uses P (k (w.shape? r)) w
  | .freeze a n k, w => uses P k (w.freeze a n)
  | .frozen a k, w => uses P (k (w.frozen? a)) w
  | .getObj r k, w => match w.heap[r]? with | some o => uses P (k o) w | none => 0
  | .setObj r o k, w => uses P k { w with heap := w.heap.setIfInBounds r o }
  | .choose q k, w => if q.forced then uses P (k 0) w else uses P (k (q.cut (w.tape w.drawn q))) { w with drawn := w.drawn + 1 } + 1
  | .sys _ _, _ => 0
  | .program k, w => uses P (k P) w
  | .mark _ k, w => uses P k w
  | .halt _, _ => 0

structure Sim (Bs : Nat → Prop) (w v : World) : Prop where
  size : v.heap.size = w.heap.size
  like : ∀ i : Nat, (¬ Bs i ∧ v.heap[i]? = w.heap[i]? ∧ ∀ o, w.heap[i]? = some o → okObj o) ∨ (Bs i ∧ ∃ c e fz, w.heap[i]? = some (.cells c e fz) ∧ v.heap[i]? = some (.cells #[] e fz)) ∨ (¬ Bs i ∧ (∃ o, w.heap[i]? = some o ∧ ¬ okObj o) ∧ v.heap[i]? = some dead)
  os : v.os = w.os
  output : v.output = w.output

def EvG (Bs : Nat → Prop) (B : Nat) (e : Event) : Prop :=
  match e.loc with
  | .cell a => ¬ Bs a.block ∧ a.block < B
  | .obj r => ¬ Bs r ∧ r < B
  | .mark .noRoom => True
  | _ => False

theorem EvG.mono {Bs : Nat → Prop} {B B' : Nat} {e : Event} (h : EvG Bs B e) (hB : B ≤ B') : EvG Bs B' e := by
  unfold EvG at *
  split at h <;> simp_all
  all_goals omega

structure After (Bs : Nat → Prop) (n : Nat) (w v w' v' : World) : Prop where
  sim : Sim Bs w' v'
  grow : w.heap.size ≤ w'.heap.size
  keep : ∀ i, Bs i → w'.heap[i]? = w.heap[i]?
  wt : w'.tape = w.tape
  vt : v'.tape = v.tape
  wd : w'.drawn = w.drawn + n
  vd : v'.drawn = v.drawn + n
  same : Same w w'
  far : ∀ (i : Nat) (o : Obj), w'.heap[i]? = some o → ¬ okObj o → w.heap[i]? = some o

section
variable {P : Program} {α β : Type} {Bs : Nat → Prop}

theorem Sim.lt {w v : World} (h : Sim Bs w v) {i : Nat} (hi : Bs i) : i < w.heap.size := by
  rcases h.like i with ⟨hn, _⟩ | ⟨_, c, e, fz, hw, _⟩ | ⟨hn, _⟩
  · exact absurd hi hn
  · exact (Array.getElem?_eq_some_iff.1 hw).1
  · exact absurd hi hn

def Plain (v : World) : Prop := ∀ (i : Nat) (o : Obj), v.heap[i]? = some o → okObj o ∨ o = dead

theorem Sim.plain {w v : World} (h : Sim Bs w v) : Plain v := by
  intro i o ho
  rcases h.like i with ⟨_, e, hk⟩ | ⟨_, c, e, fz, hw, hv⟩ | ⟨_, _, hv⟩
  · exact .inl (hk o (e ▸ ho))
  · rw [hv] at ho; obtain rfl := Option.some.inj ho; exact .inl trivial
  · rw [hv] at ho; obtain rfl := Option.some.inj ho; exact .inr rfl

theorem seen_dead (v : World) (u : TypeId) (a : Addr) (b : Bool) : ∃ s, v.seen P ⟨0, 0, some 0⟩ u a b = .error s := by
  unfold World.seen
  simp only [Option.isSome_some, Bool.or_true, if_true]
  exact ⟨_, rfl⟩

theorem farLoad_plain {v : World} (h : Plain v) (a : Addr) (b : Bool) : ∃ x, v.farLoad P a b = .error x ∧ Bad x := by
  unfold World.farLoad World.noCell
  cases hb : v.heap[a.block]? with
  | none => exact ⟨_, rfl, trivial⟩
  | some o =>
    rcases h _ _ hb with h | rfl
    · cases o <;> simp_all [okObj] <;> exact trivial
    · obtain ⟨s, e⟩ := seen_dead (P := P) v 0 a b
      have e2 : v.viewLoad P ⟨0, 0, some 0⟩ 0 a b = .error s := by
        unfold World.viewLoad
        rw [e]; rfl
      simp only [dead, e2]
      exact ⟨_, rfl, trivial⟩

theorem farStore_plain {v : World} (h : Plain v) (a : Addr) (x : Value) (b : Bool) : ∃ y, v.farStore P a x b = .error y ∧ Bad y := by
  unfold World.farStore World.noCell
  cases hb : v.heap[a.block]? with
  | none => exact ⟨_, rfl, trivial⟩
  | some o =>
    rcases h _ _ hb with h | rfl
    · cases o <;> simp_all [okObj] <;> exact trivial
    · obtain ⟨s, e⟩ := seen_dead (P := P) v 0 a b
      have e2 : ∃ s, v.viewStore P ⟨0, 0, some 0⟩ 0 a x b = .error s := by
        unfold World.viewStore
        rw [e]
        by_cases ht : (!tight P P.depth 0) = true
        · simp only [ht, if_true]; exact ⟨_, rfl⟩
        · simp only [ht]; exact ⟨_, rfl⟩
      obtain ⟨s', e2⟩ := e2
      simp only [dead, e2]
      exact ⟨_, rfl, trivial⟩

theorem heap_push (h : Array Obj) (o : Obj) (i : Nat) : (h.push o)[i]? = if i = h.size then some o else h[i]? := by
  rw [Array.getElem?_push]

theorem plain_push {v : World} (h : Plain v) {o : Obj} (ho : okObj o) : Plain { v with heap := v.heap.push o } := by
  intro i x hx
  simp only [heap_push] at hx
  split at hx
  · obtain rfl := Option.some.inj hx; exact .inl ho
  · exact h i x hx

theorem heap_setCell (v : World) (a : Addr) (x : Value) (i : Nat) : (v.setCell a x).heap[i]? = if i = a.block then (v.heap[i]?).map (fun | .cells c elem frozen => .cells (if a.spot.isSome then c else c.setIfInBounds a.off x) elem frozen | o => o) else v.heap[i]? := by
  unfold World.setCell
  simp only [Array.getElem?_modify]
  by_cases h : a.block = i
  · subst h; simp; rfl
  · simp [h, Ne.symm h]

theorem heap_freeze (a : Addr) (n : Nat) : ∃ f : Obj → Obj, (∀ (v : World) (i : Nat), (v.freeze a n).heap[i]? = if i = a.block then (v.heap[i]?).map f else v.heap[i]?) ∧ (∀ o, okObj o → okObj (f o)) ∧ (∀ o, ¬ okObj o → f o = o) := by
  by_cases hn : n = 0
  · refine ⟨id, fun v i => ?_, fun _ h => h, fun _ _ => rfl⟩
    simp [World.freeze, hn]
  · apply Exists.intro
    constructor
    · intro v i
      unfold World.freeze
      simp only [hn, if_false, Array.getElem?_modify]
      by_cases h : a.block = i
      · subst h; simp only [if_true]; rfl
      · simp [h, Ne.symm h]
    · constructor
      · intro o ho
        cases o <;> simp_all [okObj]
      · intro o ho
        cases o <;> simp_all [okObj]

theorem plain_setCell {v : World} (h : Plain v) (a : Addr) (x : Value) : Plain (v.setCell a x) := by
  intro i o ho
  rw [heap_setCell] at ho
  split at ho
  · obtain ⟨y, hy, rfl⟩ := Option.map_eq_some_iff.1 ho
    rcases h _ _ hy with h | rfl
    · left; cases y <;> simp_all [okObj]
    · right; rfl
  · exact h i o ho

theorem plain_freeze {v : World} (h : Plain v) (a : Addr) (n : Nat) : Plain (v.freeze a n) := by
  intro i o ho
  obtain ⟨f, e, hf, hg⟩ := heap_freeze a n
  rw [e] at ho
  split at ho
  · obtain ⟨y, hy, rfl⟩ := Option.map_eq_some_iff.1 ho
    rcases h _ _ hy with h | rfl
    · exact .inl (hf _ h)
    · exact .inr (hg _ (fun x => x))
  · exact h i o ho

theorem plain_setObj {v : World} (h : Plain v) {o : Obj} (ho : okObj o) (r : Nat) : Plain { v with heap := v.heap.setIfInBounds r o } := by
  intro i x hx
  simp only [Array.getElem?_setIfInBounds] at hx
  split at hx
  · split at hx
    · obtain rfl := Option.some.inj hx; exact .inl ho
    · cases hx
  · exact h i x hx

theorem store_bad {v : World} (h : Plain v) (m : Mode) (a : Addr) (x : Value) (k : Sem α) (hn : (∃ y, v.cell? a = some y) → v.frozen? a = true) : ∃ h v', (Sem.store m a x k).run P v = .halt h v' ∧ Bad h := by
  obtain ⟨s, e, hb⟩ := farStore_plain (P := P) h a x (m == .atomic)
  cases hc : v.cell? a with
  | none => cases x <;> first | exact ⟨_, _, rfl, trivial⟩ | (simp only [Sem.run, hc, e]; exact ⟨_, _, rfl, hb⟩)
  | some y =>
    have hf := hn ⟨y, hc⟩
    cases x <;> first | exact ⟨_, _, rfl, trivial⟩ | (simp only [Sem.run, hc, hf, if_true]; exact ⟨_, _, rfl, trivial⟩)

theorem store_there {v : World} (m : Mode) (a : Addr) (x : Value) (k : Sem α) {y : Value} (hc : v.cell? a = some y) (hf : v.frozen? a = false) :
    (∀ w, ∃ h v', (Sem.store m a x k).run P w = .halt h v' ∧ Bad h) ∨ ((Sem.store m a x k).run P v = k.run P (v.setCell a x) ∧ ∀ es, (Sem.store m a x k).runT P v es = k.runT P (v.setCell a x) (es.push ⟨.cell a, true, m == .atomic⟩)) := by
  cases x <;> first | exact .inl fun w => ⟨_, _, rfl, trivial⟩ | exact .inr ⟨by simp only [Sem.run, hc, hf]; rfl, fun es => by simp only [Sem.runT, hc, hf]; rfl⟩

theorem Dooms.run : ∀ (s : Sem α) (v : World), Dooms P (fun _ => False) s → Plain v → ∃ h v', s.run P v = .halt h v' ∧ Bad h := by
  intro s
  induction s with
  | pure a => exact fun _ h _ => h.elim
  | load m a k ih =>
    intro v h hp
    simp only [Sem.run]
    cases v.cell? a with
    | some x => exact ih x v (h x) hp
    | none =>
      obtain ⟨s, e, hb⟩ := farLoad_plain (P := P) hp a (m == .atomic)
      simp only [e]
      exact ⟨_, _, rfl, hb⟩
  | store m a x k ih =>
    intro v h hp
    by_cases hn : (∃ y, v.cell? a = some y) → v.frozen? a = true
    · exact store_bad hp m a x k hn
    · simp only [Classical.not_imp] at hn
      obtain ⟨⟨y, hc⟩, hf⟩ := hn
      rcases store_there (P := P) m a x k hc (by simpa using hf) with hb | ⟨e, _⟩
      · exact hb v
      · rw [e]; exact ih _ h (plain_setCell hp _ _)
  | new o k ih => exact fun v h hp => ih _ _ (h.2 _) (plain_push hp h.1)
  | shape r k ih => exact fun v h hp => ih _ _ (h _) hp
  | freeze a n k ih => exact fun v h hp => ih _ h (plain_freeze hp _ _)
  | frozen a k ih => exact fun v h hp => ih _ _ (h _) hp
  | getObj r k ih =>
    intro v h hp
    simp only [Sem.run]
    cases hb : v.heap[r]? with
    | none => exact ⟨_, _, rfl, trivial⟩
    | some o => cases o <;> first | exact ⟨_, _, rfl, trivial⟩ | exact ih _ _ (h _) hp
  | setObj r o k ih =>
    intro v h hp
    simp only [Sem.run]
    cases hb : v.heap[r]? with
    | none => exact ⟨_, _, rfl, trivial⟩
    | some x => cases x <;> first | exact ⟨_, _, rfl, trivial⟩ | exact ih _ h.2 (plain_setObj hp h.1 _)
  | choose q k ih =>
    intro v h hp
    simp only [Sem.run]
    split
    · exact ih _ _ (h _) hp
    · exact ih _ _ (h _) hp
  | sys c k ih => exact fun _ h _ => h.elim
  | program k ih => exact fun v h hp => ih _ _ h hp
  | mark m k ih => exact fun v h hp => ih _ h hp
  | halt h => exact fun v hb _ => ⟨_, _, rfl, hb⟩

theorem Dooms.bind {R' : α → Prop} {R : β → Prop} {f : α → Sem β} (hf : ∀ a, R' a → Dooms P R (f a)) : ∀ (s : Sem α), Dooms P R' s → Dooms P R (s.bind f) := by
  intro s
  induction s with
  | pure a => exact fun h => hf a h
  | load m a k ih => exact fun h v => ih v (h v)
  | store m a x k ih => exact fun h => ih h
  | new o k ih => exact fun h => ⟨h.1, fun r => ih r (h.2 r)⟩
  | shape r k ih => exact fun h x => ih x (h x)
  | freeze a n k ih => exact fun h => ih h
  | frozen a k ih => exact fun h x => ih x (h x)
  | getObj r k ih => exact fun h x => ih x (h x)
  | setObj r o k ih => exact fun h => ⟨h.1, ih h.2⟩
  | choose q k ih => exact fun h x => ih x (h x)
  | sys c k ih => exact fun h => h.elim
  | program k ih => exact fun h => ih _ h
  | mark m k ih => exact fun h => ih h
  | halt h => exact fun h => h

theorem Tame.bind {Q' : α → Prop} {Q : β → Prop} {f : α → Sem β} : ∀ (s : Sem α) {A : Nat → Prop}, Tame P Q' s A → (∀ a, Q' a → ∀ A' : Nat → Prop, (∀ x, A x → A' x) → Tame P Q (f a) A') → Tame P Q (s.bind f) A := by
  intro s
  induction s with
  | pure a => exact fun h hf => hf a h _ fun _ x => x
  | load m a k ih => exact fun h hf v => ih v (h v) hf
  | store m a x k ih => exact fun h hf => ih h hf
  | new o k ih => exact fun h hf => ⟨h.1, fun r => ih r (h.2 r) fun a q A' hA => hf a q A' fun x hx => hA x (.inl hx)⟩
  | shape r k ih => exact fun h hf => h.imp (fun h x => Dooms.bind (fun _ z => z.elim) _ (h x)) fun h => ⟨fun x => ih x (h.1 x) hf, h.2.imp id fun h => h.imp (fun h e => Dooms.bind (fun _ z => z.elim) _ (h e)) fun h e n => by show (k _).bind f = (k _).bind f; rw [h e n]⟩
  | freeze a n k ih => exact fun h hf => ⟨h.1, ih h.2 hf⟩
  | frozen a k ih => exact fun h hf x => ih x (h x) hf
  | getObj r k ih => exact fun h hf => ⟨fun x => ih x (h.1 x) hf, h.2.imp (fun h a t => Dooms.bind (fun _ z => z.elim) _ (h a t)) fun h o ho => by show (k _).bind f = (k _).bind f; rw [h o ho]⟩
  | setObj r o k ih => exact fun h hf => ⟨h.1, ih h.2 hf⟩
  | choose q k ih => exact fun h hf x => ih x (h x) hf
  | sys c k ih => exact fun h _ => h.elim
  | program k ih => exact fun h hf => ih _ h hf
  | mark m k ih => exact fun h hf => ⟨h.1, ih h.2 hf⟩
  | halt h => exact fun h _ => h

end
end Go.Pair
