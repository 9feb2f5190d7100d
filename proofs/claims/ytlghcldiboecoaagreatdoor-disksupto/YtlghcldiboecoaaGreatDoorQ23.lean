/- Lone code beside leavers, 2: a tame operation in the real memory and in the one with blank blocks. -/
import Derived.Test.YtlghcldiboecoaaGreatDoorQ22
set_option linter.unusedVariables false
set_option linter.unusedSimpArgs false
namespace Go.Pair
open Go Go.Conc

section
variable {P : Program} {α β : Type} {Bs : Nat → Prop}

def Norm (Bs : Nat → Prop) (w v : World) (i : Nat) : Prop := ¬ Bs i ∧ v.heap[i]? = w.heap[i]? ∧ ∀ o, w.heap[i]? = some o → okObj o

theorem cell_norm {w v : World} {a : Addr} (ha : Norm Bs w v a.block) : v.cell? a = w.cell? a := by
  unfold World.cell?; rw [ha.2.1]

theorem Sim.norm {w v : World} (h : Sim Bs w v) {a : Addr} {x : Value} (hc : v.cell? a = some x) : Norm Bs w v a.block := by
  rcases h.like a.block with h | ⟨_, c, e, fz, hw, hv⟩ | ⟨_, _, hv⟩
  · exact h
  · unfold World.cell? at hc; rw [hv] at hc; simp at hc
  · unfold World.cell? at hc; rw [hv] at hc; simp [dead] at hc

theorem Sim.frozen {w v : World} (h : Sim Bs w v) (a : Addr) : v.frozen? a = w.frozen? a := by
  unfold World.frozen?
  rcases h.like a.block with ⟨_, e, _⟩ | ⟨_, c, e, fz, hw, hv⟩ | ⟨_, ⟨o, ho, hn⟩, hv⟩
  · rw [e]
  · rw [hw, hv]
  · rw [ho, hv]
    cases o <;> first | rfl | exact absurd trivial hn

theorem shape_norm {w v : World} {r : Nat} (ha : Norm Bs w v r) : v.shape? r = w.shape? r := by
  unfold World.shape?; rw [ha.2.1]

theorem Sim.shape {w v : World} (h : Sim Bs w v) (r : Nat) : v.shape? r = w.shape? r ∨ ∃ e n, w.shape? r = some (e, n) ∧ v.shape? r = some (e, 0) := by
  rcases h.like r with h | ⟨_, c, e, fz, hw, hv⟩ | ⟨_, ⟨o, ho, hn⟩, hv⟩
  · exact .inl (shape_norm h)
  · exact .inr ⟨e, c.size, by simp [World.shape?, hw], by simp [World.shape?, hv]⟩
  · left
    unfold World.shape?
    rw [ho, hv]
    cases o <;> first | rfl | exact absurd trivial hn

theorem cell_lt {w : World} {a : Addr} {x : Value} (h : w.cell? a = some x) : a.block < w.heap.size := by
  unfold World.cell? at h
  cases hb : w.heap[a.block]? with
  | none => rw [hb] at h; cases h
  | some o => exact (Array.getElem?_eq_some_iff.1 hb).1

theorem size_setCell (w : World) (a : Addr) (x : Value) : (w.setCell a x).heap.size = w.heap.size := by simp [World.setCell]
theorem size_freeze (w : World) (a : Addr) (n : Nat) : (w.freeze a n).heap.size = w.heap.size := by unfold World.freeze; split <;> simp
theorem rest_freeze (w : World) (a : Addr) (n : Nat) : (w.freeze a n).tape = w.tape ∧ (w.freeze a n).drawn = w.drawn ∧ (w.freeze a n).os = w.os ∧ (w.freeze a n).output = w.output := by unfold World.freeze; split <;> exact ⟨rfl, rfl, rfl, rfl⟩

theorem Sim.setCell {w v : World} (h : Sim Bs w v) {a : Addr} (ha : Norm Bs w v a.block) (x : Value) : Sim Bs (w.setCell a x) (v.setCell a x) := by
  refine ⟨by rw [size_setCell, size_setCell, h.size], fun i => ?_, h.os, h.output⟩
  by_cases hi : i = a.block
  · subst hi
    refine .inl ⟨ha.1, by rw [heap_setCell, heap_setCell, ha.2.1], fun o ho => ?_⟩
    rw [heap_setCell, if_pos rfl] at ho
    obtain ⟨y, hy, rfl⟩ := Option.map_eq_some_iff.1 ho
    have := ha.2.2 y hy
    cases y <;> simp_all [okObj]
  · rw [heap_setCell, heap_setCell, if_neg hi, if_neg hi]
    exact h.like i

theorem Sim.freeze {w v : World} (h : Sim Bs w v) {a : Addr} (ha : Norm Bs w v a.block) (n : Nat) : Sim Bs (w.freeze a n) (v.freeze a n) := by
  obtain ⟨f, e, hf, _⟩ := heap_freeze a n
  refine ⟨by rw [size_freeze, size_freeze, h.size], fun i => ?_, ?_, ?_⟩
  · by_cases hi : i = a.block
    · subst hi
      refine .inl ⟨ha.1, by rw [e, e, ha.2.1], fun o ho => ?_⟩
      rw [e, if_pos rfl] at ho
      obtain ⟨y, hy, rfl⟩ := Option.map_eq_some_iff.1 ho
      exact hf _ (ha.2.2 y hy)
    · rw [e, e, if_neg hi, if_neg hi]
      exact h.like i
  · rw [(rest_freeze v a n).2.2.1, (rest_freeze w a n).2.2.1, h.os]
  · rw [(rest_freeze v a n).2.2.2, (rest_freeze w a n).2.2.2, h.output]

theorem Sim.push {w v : World} (h : Sim Bs w v) {o : Obj} (ho : okObj o) : Sim Bs { w with heap := w.heap.push o } { v with heap := v.heap.push o } := by
  refine ⟨by simp [h.size], fun i => ?_, h.os, h.output⟩
  simp only [heap_push, h.size]
  by_cases hi : i = w.heap.size
  · rw [if_pos hi, if_pos hi]
    exact .inl ⟨fun hb => by have := h.lt hb; omega, rfl, fun x hx => by obtain rfl := Option.some.inj hx; exact ho⟩
  · rw [if_neg hi, if_neg hi]
    exact h.like i

theorem Sim.setObj {w v : World} (h : Sim Bs w v) {r : Nat} (hr : ¬ Bs r) {o : Obj} (ho : okObj o) : Sim Bs { w with heap := w.heap.setIfInBounds r o } { v with heap := v.heap.setIfInBounds r o } := by
  refine ⟨by simp [h.size], fun i => ?_, h.os, h.output⟩
  simp only [Array.getElem?_setIfInBounds, h.size]
  by_cases hi : r = i
  · subst hi
    rw [if_pos rfl, if_pos rfl]
    refine .inl ⟨hr, rfl, fun x hx => ?_⟩
    split at hx
    · obtain rfl := Option.some.inj hx; exact ho
    · cases hx
  · rw [if_neg hi, if_neg hi]
    exact h.like i

theorem Sim.drawn {w v : World} (h : Sim Bs w v) (m n : Nat) : Sim Bs { w with drawn := m } { v with drawn := n } := ⟨h.size, h.like, h.os, h.output⟩
theorem Sim.at {w v : World} (h : Sim Bs w v) (m n : Nat) : Sim Bs (w.at m) (v.at n) := ⟨h.size, h.like, h.os, h.output⟩

theorem Norm.setCell {w v : World} {a : Addr} {i : Nat} (h : Norm Bs w v i) (ha : Norm Bs w v a.block) (x : Value) : Norm Bs (w.setCell a x) (v.setCell a x) i := by
  refine ⟨h.1, by rw [heap_setCell, heap_setCell, h.2.1], fun o ho => ?_⟩
  rw [heap_setCell] at ho
  split at ho
  · obtain ⟨y, hy, rfl⟩ := Option.map_eq_some_iff.1 ho
    have := h.2.2 y hy
    cases y <;> simp_all [okObj]
  · exact h.2.2 o ho

theorem Norm.freeze {w v : World} {a : Addr} {i : Nat} (h : Norm Bs w v i) (ha : Norm Bs w v a.block) (n : Nat) : Norm Bs (w.freeze a n) (v.freeze a n) i := by
  obtain ⟨f, e, hf, _⟩ := heap_freeze a n
  refine ⟨h.1, by rw [e, e, h.2.1], fun o ho => ?_⟩
  rw [e] at ho
  split at ho
  · obtain ⟨y, hy, rfl⟩ := Option.map_eq_some_iff.1 ho
    exact hf _ (h.2.2 y hy)
  · exact h.2.2 o ho

theorem Norm.push {w v : World} {i : Nat} (h : Norm Bs w v i) (hs : Sim Bs w v) {o : Obj} (ho : okObj o) : Norm Bs { w with heap := w.heap.push o } { v with heap := v.heap.push o } i := by
  refine ⟨h.1, by simp only [heap_push, hs.size, h.2.1], fun x hx => ?_⟩
  simp only [heap_push] at hx
  split at hx
  · obtain rfl := Option.some.inj hx; exact ho
  · exact h.2.2 x hx

theorem Norm.made {w v : World} (hs : Sim Bs w v) {o : Obj} (ho : okObj o) : Norm Bs { w with heap := w.heap.push o } { v with heap := v.heap.push o } w.heap.size := by
  refine ⟨fun hb => Nat.lt_irrefl _ (hs.lt hb), by simp only [heap_push, hs.size, if_true], fun x hx => ?_⟩
  simp only [heap_push, if_true] at hx
  obtain rfl := Option.some.inj hx
  exact ho

theorem Norm.setObj {w v : World} {i r : Nat} (h : Norm Bs w v i) (hs : Sim Bs w v) {o : Obj} (ho : okObj o) : Norm Bs { w with heap := w.heap.setIfInBounds r o } { v with heap := v.heap.setIfInBounds r o } i := by
  refine ⟨h.1, by simp only [Array.getElem?_setIfInBounds, hs.size, h.2.1], fun x hx => ?_⟩
  simp only [Array.getElem?_setIfInBounds] at hx
  split at hx
  · split at hx
    · obtain rfl := Option.some.inj hx; exact ho
    · cases hx
  · exact h.2.2 x hx

theorem far_setCell {w : World} {a : Addr} {x : Value} (i : Nat) (o : Obj) (h : (w.setCell a x).heap[i]? = some o) (ho : ¬ okObj o) : w.heap[i]? = some o := by
  rw [heap_setCell] at h
  split at h
  · obtain ⟨y, hy, rfl⟩ := Option.map_eq_some_iff.1 h
    rw [hy]
    cases y <;> first | rfl | exact absurd trivial ho
  · exact h

theorem far_freeze {w : World} {a : Addr} {n : Nat} (i : Nat) (o : Obj) (h : (w.freeze a n).heap[i]? = some o) (ho : ¬ okObj o) : w.heap[i]? = some o := by
  obtain ⟨f, e, hf, hg⟩ := heap_freeze a n
  rw [e] at h
  split at h
  · obtain ⟨y, hy, rfl⟩ := Option.map_eq_some_iff.1 h
    rw [hy, hg y fun hy => ho (hf y hy)]
  · exact h

theorem far_push {w : World} {o' : Obj} (h' : okObj o') (i : Nat) (o : Obj) (h : ({ w with heap := w.heap.push o' } : World).heap[i]? = some o) (ho : ¬ okObj o) : w.heap[i]? = some o := by
  simp only [heap_push] at h
  split at h
  · obtain rfl := Option.some.inj h; exact absurd h' ho
  · exact h

theorem far_setObj {w : World} {r : Nat} {o' : Obj} (h' : okObj o') (i : Nat) (o : Obj) (h : ({ w with heap := w.heap.setIfInBounds r o' } : World).heap[i]? = some o) (ho : ¬ okObj o) : w.heap[i]? = some o := by
  simp only [Array.getElem?_setIfInBounds] at h
  split at h
  · split at h
    · obtain rfl := Option.some.inj h; exact absurd h' ho
    · cases h
  · exact h

inductive Out (P : Program) (Bs : Nat → Prop) (Q : α → Prop) (s : Sem α) (w v : World) (es : Array Event) : Prop
  | bad (h : Halt) (v' : World) (hr : s.run P v = .halt h v') (hb : Bad h)
  | ok (a : α) (w' v' : World) (es' : Array Event) (hw : s.runT P w es = (.ok a w', es ++ es')) (hv : s.run P v = .ok a v') (hq : Q a) (ha : After Bs (uses P s w) w v w' v') (hes : ∀ e ∈ es', EvG Bs w'.heap.size e)
  | panic (x : Value) (w' v' : World) (es' : Array Event) (hw : s.runT P w es = (.halt (.panic x) w', es ++ es')) (hv : s.run P v = .halt (.panic x) v') (ha : After Bs (uses P s w) w v w' v') (hes : ∀ e ∈ es', EvG Bs w'.heap.size e)

theorem Out.step {Q : α → Prop} {s t : Sem α} {w v w₁ v₁ : World} {es e1 : Array Event} {n : Nat} (hv : s.run P v = t.run P v₁) (hw : s.runT P w es = t.runT P w₁ (es ++ e1)) (he : ∀ e ∈ e1, EvG Bs w₁.heap.size e)
    (hn : uses P s w = uses P t w₁ + n) (hg : w.heap.size ≤ w₁.heap.size) (hk : ∀ i, Bs i → w₁.heap[i]? = w.heap[i]?) (ht : w₁.tape = w.tape) (ht' : v₁.tape = v.tape) (hd : w₁.drawn = w.drawn + n) (hd' : v₁.drawn = v.drawn + n) (hs : Same w w₁)
    (h : Out P Bs Q t w₁ v₁ (es ++ e1)) (hfar : ∀ (i : Nat) (o : Obj), w₁.heap[i]? = some o → ¬ okObj o → w.heap[i]? = some o := by first | exact fun _ _ h _ => h | exact far_setCell | exact far_freeze) : Out P Bs Q s w v es := by
  have key : ∀ w' v', After Bs (uses P t w₁) w₁ v₁ w' v' → After Bs (uses P s w) w v w' v' := fun w' v' a =>
    ⟨a.sim, Nat.le_trans hg a.grow, fun i hi => (a.keep i hi).trans (hk i hi), a.wt.trans ht, a.vt.trans ht', by rw [a.wd, hd, hn]; omega, by rw [a.vd, hd', hn]; omega, hs.trans a.same, fun i o h ho => hfar i o (a.far i o h ho) ho⟩
  have ev : ∀ w' v' es', After Bs (uses P t w₁) w₁ v₁ w' v' → (∀ e ∈ es', EvG Bs w'.heap.size e) → ∀ e ∈ e1 ++ es', EvG Bs w'.heap.size e := fun w' v' es' a hes e he' =>
    (Array.mem_append.1 he').elim (fun h => (he e h).mono a.grow) (hes e)
  cases h with
  | bad h v' hr hb => exact .bad h v' (hv.trans hr) hb
  | ok a w' v' es' hw' hv' hq ha hes => exact .ok a w' v' (e1 ++ es') (by rw [hw, hw', Array.append_assoc]) (hv.trans hv') hq (key _ _ ha) (ev _ _ _ ha hes)
  | panic x w' v' es' hw' hv' ha hes => exact .panic x w' v' (e1 ++ es') (by rw [hw, hw', Array.append_assoc]) (hv.trans hv') (key _ _ ha) (ev _ _ _ ha hes)

theorem push_append (es : Array Event) (e : Event) : es.push e = es ++ #[e] := by simp

theorem tame_sim {Q : α → Prop} : ∀ (s : Sem α) (A : Nat → Prop) (w v : World) (es : Array Event), Tame P Q s A → (∀ r, A r → Norm Bs w v r) → Sim Bs w v → (∀ j, j < uses P s w → v.tape (v.drawn + j) = w.tape (w.drawn + j)) → Out P Bs Q s w v es := by
  intro s
  induction s with
  | pure a =>
    intro A w v es h hA hs ht
    exact .ok a w v #[] (by simp [Sem.runT]) rfl h ⟨hs, Nat.le_refl _, fun _ _ => rfl, rfl, rfl, rfl, rfl, Same.refl _, fun _ _ h _ => h⟩ (by simp)
  | load m a k ih =>
    intro A w v es h hA hs ht
    cases hc : v.cell? a with
    | none =>
      obtain ⟨s, e, hb⟩ := farLoad_plain (P := P) hs.plain a (m == .atomic)
      exact .bad s v (by simp only [Sem.run, hc, e]) hb
    | some x =>
      have hn := hs.norm hc
      have hcw : w.cell? a = some x := (cell_norm hn).symm.trans hc
      refine Out.step (t := k x) (w₁ := w) (v₁ := v) (n := 0) (e1 := #[⟨.cell a, false, m == .atomic⟩]) (by simp only [Sem.run, hc]) (by simp only [Sem.runT, hcw, push_append]) ?_ (by simp only [uses, hcw]; rfl) (Nat.le_refl _) (fun _ _ => rfl) rfl rfl rfl rfl (Same.refl _) (ih x A w v _ (h x) hA hs ?_)
      · intro e he
        obtain rfl : e = _ := by simpa using he
        exact ⟨hn.1, cell_lt hcw⟩
      · simpa only [uses, hcw] using ht
  | store m a x k ih =>
    intro A w v es h hA hs ht
    by_cases hn : (∃ y, v.cell? a = some y) → v.frozen? a = true
    · obtain ⟨h', v', hr, hb⟩ := store_bad (P := P) hs.plain m a x k hn
      exact .bad h' v' hr hb
    · simp only [Classical.not_imp] at hn
      obtain ⟨⟨y, hc⟩, hf⟩ := hn
      have hf : v.frozen? a = false := by simpa using hf
      have hnm := hs.norm hc
      have hb : ¬ Bs a.block := hnm.1
      rcases store_there (P := P) m a x k hc hf with hbad | ⟨e, _⟩
      · obtain ⟨h', v', hr, hb'⟩ := hbad v
        exact .bad h' v' hr hb'
      have hcw : w.cell? a = some y := (cell_norm hnm).symm.trans hc
      rcases store_there (P := P) m a x k hcw ((hs.frozen a).symm.trans hf) with hbad | ⟨_, eT⟩
      · obtain ⟨h', v', hr, hb'⟩ := hbad v
        exact .bad h' v' hr hb'
      refine Out.step (t := k) (w₁ := w.setCell a x) (v₁ := v.setCell a x) (n := 0) (e1 := #[⟨.cell a, true, m == .atomic⟩]) e (by rw [eT, push_append]) ?_ (by simp only [uses, hcw]; rfl) (by rw [size_setCell]; exact Nat.le_refl _) ?_ rfl rfl rfl rfl ⟨rfl, rfl⟩ (ih A _ _ _ h (fun r hr => (hA r hr).setCell hnm x) (hs.setCell hnm x) ?_)
      · intro e he
        obtain rfl : e = _ := by simpa using he
        exact ⟨hb, by rw [size_setCell]; exact cell_lt hcw⟩
      · intro i hi
        rw [heap_setCell, if_neg (fun (e : i = a.block) => hb (e ▸ hi))]
      · exact fun j hj => ht j (by simpa only [uses, hcw] using hj)
  | new o k ih =>
    intro A w v es h hA hs ht
    refine Out.step (t := k w.heap.size) (w₁ := { w with heap := w.heap.push o }) (v₁ := { v with heap := v.heap.push o }) (n := 0) (e1 := #[]) (by simp only [Sem.run, hs.size]) (by simp only [Sem.runT, Array.append_empty]) (by simp) rfl (by simp) ?_ rfl rfl rfl rfl ⟨rfl, rfl⟩ (ih _ _ _ _ _ (h.2 _) ?_ (hs.push h.1) ht) (far_push h.1)
    · intro i hi
      have := hs.lt hi
      simp only [heap_push]
      rw [if_neg (by omega)]
    · intro r hr
      rcases hr with hr | rfl
      · exact (hA r hr).push hs h.1
      · exact Norm.made hs h.1
  | shape r k ih =>
    intro A w v es h hA hs ht
    rcases h with h | ⟨h, hc⟩
    · obtain ⟨h', v', hr, hb⟩ := Dooms.run _ v (h (v.shape? r)) hs.plain
      exact .bad h' v' hr hb
    · have go : (k (v.shape? r)).run P v = (k (w.shape? r)).run P v → Out P Bs Q (Sem.shape r k) w v es := fun e =>
        Out.step (t := k (w.shape? r)) (w₁ := w) (v₁ := v) (n := 0) (e1 := #[]) e (by simp only [Sem.runT, Array.append_empty]) (by simp) rfl (Nat.le_refl _) (fun _ _ => rfl) rfl rfl rfl rfl (Same.refl _) (ih _ A w v _ (h _) hA hs ht)
      rcases hs.shape r with e | ⟨e, n, hw, hv⟩
      · exact go (by rw [e])
      · rcases hc with ha | hd | hi
        · exact go (by rw [shape_norm (hA r ha)])
        · obtain ⟨h', v', hr, hb⟩ := Dooms.run _ v (hd e) hs.plain
          exact .bad h' v' (by simp only [Sem.run, hv]; exact hr) hb
        · exact go (by rw [hv, hw, hi e n])
  | freeze a n k ih =>
    intro A w v es h hA hs ht
    have hnm := hA _ h.1
    have hb := hnm.1
    obtain ⟨r1, r2, r3, r4⟩ := rest_freeze w a n
    obtain ⟨q1, q2, q3, q4⟩ := rest_freeze v a n
    obtain ⟨f, e, hf, _⟩ := heap_freeze a n
    refine Out.step (t := k) (w₁ := w.freeze a n) (v₁ := v.freeze a n) (n := 0) (e1 := #[]) rfl (by simp only [Sem.runT, Array.append_empty]) (by simp) rfl (by rw [size_freeze]; exact Nat.le_refl _) (fun i hi => by rw [e, if_neg (fun (e : i = a.block) => hb (e ▸ hi))]) r1 q1 r2 q2 ⟨r3, r4⟩ (ih A _ _ _ h.2 (fun r hr => (hA r hr).freeze hnm n) (hs.freeze hnm n) ?_)
    rw [r1, r2, q1, q2]
    exact ht
  | frozen a k ih =>
    intro A w v es h hA hs ht
    exact Out.step (t := k (w.frozen? a)) (w₁ := w) (v₁ := v) (n := 0) (e1 := #[]) (by simp only [Sem.run, hs.frozen a]) (by simp only [Sem.runT, Array.append_empty]) (by simp) rfl (Nat.le_refl _) (fun _ _ => rfl) rfl rfl rfl rfl (Same.refl _) (ih _ A w v _ (h _) hA hs ht)
  | getObj r k ih =>
    intro A w v es h hA hs ht
    have ev : ∀ o, w.heap[r]? = some o → ¬ Bs r → ∀ e ∈ #[(⟨.obj r, false, o.isChan⟩ : Event)], EvG Bs w.heap.size e := fun o ho hb e he => by
      obtain rfl : e = _ := by simpa using he
      exact ⟨hb, (Array.getElem?_eq_some_iff.1 ho).1⟩
    rcases hs.like r with ⟨hb, e, hk⟩ | ⟨_, c, e, fz, hw, hv⟩ | ⟨hb, ⟨o, ho, hn⟩, hv⟩
    · cases hc : w.heap[r]? with
      | none => exact (show ∃ s, (Sem.getObj r k).run P v = .halt (.stuck s) v by simp only [Sem.run, e, hc]; exact ⟨_, rfl⟩).elim fun s e => .bad (.stuck s) v e trivial
      | some o =>
        have hev := ev o hc hb
        cases o
        case cells => exact (show ∃ s, (Sem.getObj r k).run P v = .halt (.stuck s) v by simp only [Sem.run, e, hc]; exact ⟨_, rfl⟩).elim fun s e => .bad (.stuck s) v e trivial
        all_goals
          refine Out.step (w₁ := w) (v₁ := v) (n := 0) (by simp only [Sem.run, e, hc]; rfl) (by simp only [Sem.runT, hc, push_append]) hev (by simp only [uses, hc]; rfl) (Nat.le_refl _) (fun _ _ => rfl) rfl rfl rfl rfl (Same.refl _) (ih _ A w v _ (h.1 _) hA hs ?_)
          simpa only [uses, hc] using ht
    · exact (show ∃ s, (Sem.getObj r k).run P v = .halt (.stuck s) v by simp only [Sem.run, hv]; exact ⟨_, rfl⟩).elim fun s e => .bad (.stuck s) v e trivial
    · rcases h.2 with hd | hi
      · obtain ⟨h', v', hr, hb'⟩ := Dooms.run _ v (hd ⟨0, 0, some 0⟩ 0) hs.plain
        exact .bad h' v' (by simp only [Sem.run, hv, dead]; exact hr) hb'
      · have hev := ev o ho hb
        have hko := hi o hn
        cases o
        case view =>
          refine Out.step (w₁ := w) (v₁ := v) (n := 0) (by simp only [Sem.run, hv, dead]; rw [hko]; rfl) (by simp only [Sem.runT, ho, push_append]) hev (by simp only [uses, ho]; rfl) (Nat.le_refl _) (fun _ _ => rfl) rfl rfl rfl rfl (Same.refl _) (ih _ A w v _ (h.1 _) hA hs ?_)
          simpa only [uses, ho] using ht
        case pending =>
          refine Out.step (w₁ := w) (v₁ := v) (n := 0) (by simp only [Sem.run, hv, dead]; rw [hko]; rfl) (by simp only [Sem.runT, ho, push_append]) hev (by simp only [uses, ho]; rfl) (Nat.le_refl _) (fun _ _ => rfl) rfl rfl rfl rfl (Same.refl _) (ih _ A w v _ (h.1 _) hA hs ?_)
          simpa only [uses, ho] using ht
        all_goals exact absurd trivial hn
  | setObj r o k ih =>
    intro A w v es h hA hs ht
    by_cases hbad : ∃ s, (Sem.setObj r o k).run P v = .halt (.stuck s) v
    · exact hbad.elim fun s e => .bad (.stuck s) v e trivial
    have hv : ∃ y, v.heap[r]? = some y ∧ ∀ c e fz, y ≠ .cells c e fz := by
      cases hc : v.heap[r]? with
      | none => exact absurd (by simp only [Sem.run, hc]; exact ⟨_, rfl⟩) hbad
      | some y =>
        refine ⟨y, rfl, fun c e fz hy => hbad ?_⟩
        subst hy
        simp only [Sem.run, hc]
        exact ⟨_, rfl⟩
    obtain ⟨y, hv, hy⟩ := hv
    have hb : ¬ Bs r := fun hb => by
      rcases hs.like r with ⟨hn, _⟩ | ⟨_, c, e, fz, hw, hv'⟩ | ⟨hn, _⟩
      · exact hn hb
      · rw [hv] at hv'; exact hy _ _ _ (Option.some.inj hv')
      · exact hn hb
    have hw : ∃ x, w.heap[r]? = some x ∧ ∀ c e fz, x ≠ .cells c e fz := by
      rcases hs.like r with ⟨_, e, _⟩ | ⟨hb', _⟩ | ⟨_, ⟨x, hx, hn⟩, _⟩
      · exact ⟨y, e ▸ hv, hy⟩
      · exact absurd hb' hb
      · exact ⟨x, hx, fun c e fz he => hn (by subst he; trivial)⟩
    obtain ⟨x, hw, hx⟩ := hw
    have hlt : r < w.heap.size := (Array.getElem?_eq_some_iff.1 hw).1
    refine Out.step (t := k) (w₁ := { w with heap := w.heap.setIfInBounds r o }) (v₁ := { v with heap := v.heap.setIfInBounds r o }) (n := 0) (e1 := #[⟨.obj r, true, o.isChan⟩]) ?_ ?_ ?_ rfl (by simp) ?_ rfl rfl rfl rfl ⟨rfl, rfl⟩ (ih A _ _ _ h.2 (fun r' hr => (hA r' hr).setObj hs h.1) (hs.setObj hb h.1) ht) (far_setObj h.1)
    · cases y <;> first | exact absurd rfl (hy _ _ _) | simp only [Sem.run, hv]
    · cases x <;> first | exact absurd rfl (hx _ _ _) | simp only [Sem.runT, hw, push_append]
    · intro e he
      obtain rfl : e = _ := by simpa using he
      exact ⟨hb, by simpa using hlt⟩
    · intro i hi
      have hne : r ≠ i := fun e => hb (e ▸ hi)
      simp only [Array.getElem?_setIfInBounds, if_neg hne]
  | choose q k ih =>
    intro A w v es h hA hs ht
    by_cases hq : q.forced = true
    · refine Out.step (t := k 0) (w₁ := w) (v₁ := v) (n := 0) (e1 := #[]) (by simp only [Sem.run, hq, if_true]) (by simp only [Sem.runT, hq, if_true, Array.append_empty]) (by simp) (by simp only [uses, hq, if_true]; rfl) (Nat.le_refl _) (fun _ _ => rfl) rfl rfl rfl rfl (Same.refl _) (ih _ A w v _ (h _) hA hs ?_)
      simpa only [uses, hq, if_true] using ht
    · have hq' : q.forced = false := by simpa using hq
      have e0 : v.tape v.drawn = w.tape w.drawn := ht 0 (by simp only [uses, hq', Bool.false_eq_true, if_false]; omega)
      refine Out.step (t := k (q.cut (w.tape w.drawn q))) (w₁ := { w with drawn := w.drawn + 1 }) (v₁ := { v with drawn := v.drawn + 1 }) (n := 1) (e1 := #[]) (by simp only [Sem.run, hq', Bool.false_eq_true, if_false, e0]) (by simp only [Sem.runT, hq', Bool.false_eq_true, if_false, Array.append_empty]) (by simp) (by simp only [uses, hq', Bool.false_eq_true, if_false]) (Nat.le_refl _) (fun _ _ => rfl) rfl rfl rfl rfl ⟨rfl, rfl⟩ (ih _ A _ _ _ (h _) hA (hs.drawn _ _) ?_)
      intro j hj
      have := ht (j + 1) (by simp only [uses, hq', Bool.false_eq_true, if_false]; omega)
      rw [show v.drawn + (j + 1) = v.drawn + 1 + j by omega, show w.drawn + (j + 1) = w.drawn + 1 + j by omega] at this
      exact this
  | sys c k ih => exact fun A w v es h => h.elim
  | program k ih =>
    intro A w v es h hA hs ht
    exact Out.step (t := k P) (w₁ := w) (v₁ := v) (n := 0) (e1 := #[]) rfl (by simp only [Sem.runT, Array.append_empty]) (by simp) rfl (Nat.le_refl _) (fun _ _ => rfl) rfl rfl rfl rfl (Same.refl _) (ih _ A w v _ h hA hs ht)
  | mark m k ih =>
    intro A w v es h hA hs ht
    obtain ⟨rfl, h⟩ := h
    refine Out.step (t := k) (w₁ := w) (v₁ := v) (n := 0) (e1 := #[⟨.mark .noRoom, false, true⟩]) rfl (by simp only [Sem.runT, push_append]) ?_ rfl (Nat.le_refl _) (fun _ _ => rfl) rfl rfl rfl rfl (Same.refl _) (ih A w v _ h hA hs ht)
    intro e he
    obtain rfl : e = _ := by simpa using he
    exact trivial
  | halt h =>
    intro A w v es ht hA hs _
    rcases ht with hb | ⟨x, rfl⟩
    · exact .bad h v rfl hb
    · exact .panic x w v #[] (by simp [Sem.runT]) rfl ⟨hs, Nat.le_refl _, fun _ _ => rfl, rfl, rfl, rfl, rfl, Same.refl _, fun _ _ h _ => h⟩ (by simp)

end
end Go.Pair

/- Lone code beside leavers, 3: one step of goroutine 0 in code whose operations are tame. -/
namespace Go.Pair
open Go Go.Conc

def OkN (S : FuncId → Prop) : Next → Prop
  | .value _ => True
  | .skip => True
  | .enter f _ => S f
  | _ => False

def OkO (P : Program) (S : FuncId → Prop) (o : Oper) : Prop := ∀ fr : Frame, Tame P (OkN S) (execOp fr.eval o) (fun _ => False)

def OkC (P : Program) (S : FuncId → Prop) : Code → Prop
  | .skip => True
  | .region _ ops _ => ∀ (i : Nat) (o : Oper), ops[i]? = some o → OkO P S o
  | .seq a b => OkC P S a ∧ OkC P S b
  | .cond _ a b => OkC P S a ∧ OkC P S b
  | .block _ b => OkC P S b
  | .loop b => OkC P S b
  | .rangeFunc _ _ _ _ => False
  | .exit _ => True
  | .scope b => OkC P S b
  | .label _ => True
  | .goto _ => True
  | .ret => True
  | .refuse _ => False

def OkI (P : Program) (S : FuncId → Prop) : Item → Prop
  | .code c => OkC P S c
  | .inBlock _ => True
  | .inLoop b => OkC P S b
  | .inScope b => OkC P S b
  | .inRegion ops _ => ∀ (i : Nat) (o : Oper), ops[i]? = some o → OkO P S o
  | _ => False

structure OkFr (P : Program) (S : FuncId → Prop) (fr : Frame) : Prop where
  defers : fr.defers = []
  kind : fr.kind = .normal
  round : fr.roundOf = none
  fn : ∃ f, P.funcs[fr.fn]? = some f
  mode : fr.mode = .run ∨ fr.mode = .returning
  todo : fr.mode = .run → ∀ it ∈ fr.todo, OkI P S it

def OkUp (P : Program) (S : FuncId → Prop) (up : List Frame) : Prop := ∀ c ∈ up, OkFr P S c ∧ c.mode = .run

def OkS (P : Program) (S : FuncId → Prop) : Prop := ∀ f, S f → ∃ fn c, P.funcs[f]? = some fn ∧ (fn.name == "runtime.NumGoroutine") = false ∧ fn.body = some c ∧ OkC P S c

section
variable {P : Program} {S : FuncId → Prop} {Bs : Nat → Prop}

theorem okFr_enter (hS : OkS P S) {f : FuncId} (hf : S f) (args : Array Value) : OkFr P S (Frame.enter P f args .normal) ∧ (Frame.enter P f args .normal).mode = .run := by
  obtain ⟨fn, c, h1, _, h2, h3⟩ := hS f hf
  refine ⟨⟨rfl, rfl, rfl, ⟨fn, h1⟩, .inl rfl, fun _ it hit => ?_⟩, rfl⟩
  simp [Frame.enter, h1, h2] at hit
  subst hit
  exact h3

theorem okFr_finish {fr : Frame} (h : OkFr P S fr) (hm : fr.mode = .run) (v : Value) : OkFr P S (fr.finish v) ∧ (fr.finish v).mode = .run := by
  have ht := h.todo hm
  unfold Frame.finish
  split
  · rename_i ops i rest k hk
    rw [hk] at ht
    refine ⟨⟨h.defers, h.kind, h.round, h.fn, h.mode, fun _ it hit => ?_⟩, hm⟩
    simp only [List.mem_cons] at hit
    rcases hit with rfl | hit
    · exact ht (.inRegion ops (i :: rest)) (by simp)
    · exact ht it (by simp [hit])
  · rename_i l k hk; rw [hk] at ht; exact (ht (.inRangeFunc l) (by simp)).elim
  · rename_i k hk; rw [hk] at ht; exact (ht .beginRound (by simp)).elim
  · rename_i d b r s k hk; rw [hk] at ht; exact (ht (.call d b r s) (by simp)).elim
  · rename_i r a k hk; rw [hk] at ht; exact (ht (.extern r a) (by simp)).elim
  · exact ⟨h, hm⟩

theorem okC_findLabel {l : Nat} : ∀ {c c' : Code}, OkC P S c → findLabel c l = some c' → OkC P S c' := by
  intro c
  induction c with
  | seq a b iha ihb =>
    intro c' h e
    simp only [findLabel] at e
    cases ha : findLabel a l with
    | some r => rw [ha] at e; obtain rfl := Option.some.inj e; exact ⟨iha h.1 ha, h.2⟩
    | none => rw [ha] at e; exact ihb h.2 e
  | label l' =>
    intro c' h e
    simp only [findLabel] at e
    split at e
    · obtain rfl := Option.some.inj e; trivial
    · cases e
  | _ => intro c' h e; simp [findLabel] at e

theorem okI_goto {l : Nat} : ∀ {k k' : List Item}, (∀ it ∈ k, OkI P S it) → gotoIn l k = some k' → ∀ it ∈ k', OkI P S it := by
  intro k
  induction k with
  | nil => intro k' _ e; simp [gotoIn] at e
  | cons x k ih =>
    intro k' h e
    have hk : ∀ it ∈ k, OkI P S it := fun it hit => h it (by simp [hit])
    cases x
    case inScope b =>
      simp only [gotoIn] at e
      cases hb : findLabel b l with
      | none => rw [hb] at e; exact ih hk e
      | some r =>
        rw [hb] at e
        obtain rfl := Option.some.inj e
        have hb' : OkC P S b := h (.inScope b) (by simp)
        intro it hit
        simp only [List.mem_cons] at hit
        rcases hit with rfl | rfl | hit
        · exact okC_findLabel hb' hb
        · exact hb'
        · exact hk it hit
    all_goals (simp only [gotoIn] at e; exact ih hk e)

theorem okI_exit {id : Nat} : ∀ {k k' : List Item}, (∀ it ∈ k, OkI P S it) → exitTo id k = some k' → ∀ it ∈ k', OkI P S it := by
  intro k
  induction k with
  | nil => intro k' _ e; simp [exitTo] at e
  | cons x k ih =>
    intro k' h e
    have hk : ∀ it ∈ k, OkI P S it := fun it hit => h it (by simp [hit])
    cases x
    case inBlock b =>
      simp only [exitTo] at e
      split at e
      · obtain rfl := Option.some.inj e; exact hk
      · exact ih hk e
    all_goals (simp only [exitTo] at e; exact ih hk e)

inductive One (P : Program) (S : FuncId → Prop) (Bs : Nat → Prop) (K : Nat) (fr : Frame) (up z z' : List Frame) (w v : World) : Prop
  | bad (o : Outcome) (v' : World) (h : (stepG P true (G fr (up ++ z')) v).bare = .ended o v')
  | panic (chain : List PanicEntry) (v' : World) (h : (stepG P true (G fr (up ++ z')) v).bare = .go (G (fr.raise chain) (up ++ z')) v')
  | go (fr' : Frame) (up' : List Frame) (w' v' : World) (es : Array Event) (hw : stepG P true (G fr (up ++ z)) w = .go (G fr' (up' ++ z)) w' es) (hv : (stepG P true (G fr (up ++ z')) v).bare = .go (G fr' (up' ++ z')) v')
      (hf : OkFr P S fr') (hu : OkUp P S up') (ha : After Bs K w v w' v') (hes : ∀ e ∈ es, EvG Bs w'.heap.size e)

theorem After.refl {w v : World} (h : Sim Bs w v) : After Bs 0 w v w v := ⟨h, Nat.le_refl _, fun _ _ => rfl, rfl, rfl, rfl, rfl, Same.refl _, fun _ _ h _ => h⟩

theorem stepG_exec {fr : Frame} {cs : List Frame} {w : World} (hm : fr.mode = .run) : stepG P true (G fr cs) w = stepG.exec P true true fr cs none w := by
  unfold stepG G
  simp only [hm]

theorem One.ctl {fr fr' : Frame} {up z z' : List Frame} {w v : World} (h : ∀ cs w, stepG P true (G fr cs) w = .go (G fr' cs) w) (hs : Sim Bs w v) (hf : OkFr P S fr') (hu : OkUp P S up) : One P S Bs 0 fr up z z' w v :=
  .go fr' up w v #[] (h _ _) (by rw [h]; rfl) hf hu (After.refl hs) (by simp)

theorem seen_evG {fn : FuncId} {es : Array Event} {B : Nat} (h : ∀ e ∈ es, EvG Bs B e) : ∀ e ∈ seen P fn es, EvG Bs B e := fun e he => h e (mem_seen he)

theorem One.apply {fr : Frame} {up z z' : List Frame} {w v : World} {s : Sem Next} (hS : OkS P S) (hfr : OkFr P S fr) (hm : fr.mode = .run) (hu : OkUp P S up) (hn : ∃ ops l k, fr.todo = .inRegion ops l :: k)
    (hst : ∀ cs w, stepG P true (G fr cs) w = stepG.apply P true fr cs none s w) (hT : Tame P (OkN S) s (fun _ => False)) (hs : Sim Bs w v) (ht : ∀ j, j < uses P s w → v.tape (v.drawn + j) = w.tape (w.drawn + j)) :
    One P S Bs (uses P s w) fr up z z' w v := by
  obtain ⟨ops₀, l₀, k₀, htd⟩ := hn
  have hke : (fr.kind == CallKind.early) = false := by rw [hfr.kind]; rfl
  cases tame_sim s _ w v #[] hT (fun _ h => h.elim) hs ht with
  | bad h v' hr hb =>
    cases h with
    | stuck s => exact .bad _ v' (by rw [hst]; simp only [stepG.apply, Sem.runT_eq, hr, if_true]; rfl)
    | unsupported u => cases u <;> first | exact hb.elim | exact .bad _ v' (by rw [hst]; simp only [stepG.apply, Sem.runT_eq, hr, if_true]; rfl)
    | _ => exact hb.elim
  | panic x w' v' es' hw hv ha hes =>
    refine .panic [{ v := x, recovered := false }] v' ?_
    rw [hst]
    simp only [stepG.apply, Sem.runT_eq, hv, if_true]
    rfl
  | ok a w' v' es' hw hv hq ha hes =>
    have ew : es' = #[] ++ es' := by simp
    cases a with
    | value x =>
      obtain ⟨h1, h2⟩ := okFr_finish hfr hm x
      refine .go (fr.finish x) up w' v' _ ?_ ?_ h1 hu ha (seen_evG (P := P) (fn := fr.fn) (es := #[] ++ es') (by simpa using hes))
      · rw [hst]
        simp only [stepG.apply, hw, if_true, hke]
        simp [GStep.after, G]
      · rw [hst]
        simp only [stepG.apply, Sem.runT_eq, hv, if_true]
        rfl
    | skip =>
      obtain ⟨h1, h2⟩ := okFr_finish hfr hm undef
      refine .go (fr.finish undef) up w' v' _ ?_ ?_ h1 hu ha (seen_evG (P := P) (fn := fr.fn) (es := #[] ++ es') (by simpa using hes))
      · rw [hst]
        simp only [stepG.apply, hw, if_true, hke]
        simp [GStep.after, G]
      · rw [hst]
        simp only [stepG.apply, Sem.runT_eq, hv, if_true]
        rfl
    | enter f args =>
      obtain ⟨h1, h2⟩ := okFr_enter (P := P) hS hq args
      refine .go (Frame.enter P f args .normal) (fr :: up) w' v' _ ?_ ?_ h1 (fun c hc => ?_) ha (seen_evG (P := P) (fn := fr.fn) (es := #[] ++ es') (by simpa using hes))
      · rw [hst]
        simp only [stepG.apply, hw, if_true, hke, htd]
        simp [GStep.after, G]
      · rw [hst]
        simp only [stepG.apply, Sem.runT_eq, hv, if_true, htd]
        rfl
      · simp only [List.mem_cons] at hc
        rcases hc with rfl | hc
        · exact ⟨hfr, hm⟩
        · exact hu c hc
    | _ => exact hq.elim

end
end Go.Pair
