/- A region that draws its order and bears a call inside, in company: the call by its contract. -/
import Derived.Conc.CompanyDraw
set_option linter.unusedVariables false
set_option linter.unusedSimpArgs false
namespace Go.Pair
open Go Go.Conc
section
variable {P : Program} {main : Bool} {R : World → World → Prop} {D : World → World → Array Event → Prop} {fn : FuncId} {ops : Array Oper} {Q : Exit → Act → World → Prop} {md : Region.Mode} {S : World → Prop} {nf : Nat}

/-- Number i comes up: it yields, or it is a call that keeps a contract. -/
def OpM (P : Program) (main : Bool) (R : World → World → Prop) (D : World → World → Array Event → Prop) (fn : FuncId) (ops : Array Oper) (nf i : Nat) (K : Act → World → Prop) (a : Act) (w : World) : Prop :=
  OpC P R D fn ops i K a w ∨ ∃ o f args ats Post, ops[i]? = some o ∧ Region.wanted o (yielded ops a.tmps) = true ∧ o.op = .call { callee := .value (.func f), args := args, argTypes := ats } ∧
    CallsC P main R D f (args.map a.eval) nf w Post ∧ ∀ v w', Post v w' → K (a.put o.dst v) w'

theorem OpM.call {i : Nat} {a : Act} {w : World} {K : Act → World → Prop} {o : Oper} {f : FuncId} {args : Array Operand} {ats : Array TypeId} {Post : Value → World → Prop} (h1 : ops[i]? = some o) (h2 : Region.wanted o (yielded ops a.tmps) = true)
    (h3 : o.op = .call { callee := .value (.func f), args := args, argTypes := ats }) (h4 : CallsC P main R D f (args.map a.eval) nf w Post) (h5 : ∀ v w', Post v w' → K (a.put o.dst v) w') : OpM P main R D fn ops nf i K a w :=
  .inr ⟨o, f, args, ats, Post, h1, h2, h3, h4, h5⟩

theorem OpM.mono {i : Nat} {a : Act} {w : World} {K K' : Act → World → Prop} (h : ∀ a w, K a w → K' a w) (hh : OpM P main R D fn ops nf i K a w) : OpM P main R D fn ops nf i K' a w := by
  rcases hh with hh | ⟨o, f, args, ats, Post, h1, h2, h3, h4, h5⟩
  · exact .inl (OpC_mono h hh)
  · exact .inr ⟨o, f, args, ats, Post, h1, h2, h3, h4, fun v w' x => h _ _ (h5 v w' x)⟩

theorem OpM.goesOn (T : Terms R D) {i : Nat} {rest : List Nat} {n : Nat} {a : Act} {w : World} (h : OpM P main R D fn ops nf i (fun a' w' => OpsC P main R D fn ops rest n Q a' w') a w) : OpsC P main R D fn ops (i :: rest) (n + nf + 3) Q a w := by
  rcases h with h | ⟨o, f, args, ats, Post, h1, h2, h3, h4, h5⟩
  · exact opsC_more (opsC_of_opC T h) (by omega)
  · exact opsC_call T h1 h2 h3 h4 h5

theorem opC_rely (T : Terms R D) {i : Nat} {a : Act} {w w₁ : World} {K : Act → World → Prop} (hK : ∀ a x y, K a x → R x y → K a y) (h : OpC P R D fn ops i K a w) (r : R w w₁) : OpC P R D fn ops i K a w₁ := by
  unfold OpC at *
  cases ho : ops[i]? with
  | none => simp [ho] at h
  | some o =>
    simp only [ho] at h ⊢
    by_cases hw : Region.wanted o (yielded ops a.tmps) = true
    · simp only [hw, if_true] at h ⊢
      exact fun w₂ h₂ => h w₂ (T.trans _ _ _ r h₂)
    · simp only [hw, if_false] at h ⊢
      exact hK _ _ _ h r

theorem callsC_rely (T : Terms R D) {f n : Nat} {vs : Array Value} {w w₁ : World} {Post : Value → World → Prop} (h : CallsC P main R D f vs n w Post) (r : R w w₁) : CallsC P main R D f vs n w₁ Post := by
  obtain ⟨fn, c, h1, h2, h3, h4⟩ := h
  exact ⟨fn, c, h1, h2, h3, wpC_rely T h4 r⟩

theorem OpM.rely (T : Terms R D) {i : Nat} {a : Act} {w w₁ : World} {K : Act → World → Prop} (hK : ∀ a x y, K a x → R x y → K a y) (h : OpM P main R D fn ops nf i K a w) (r : R w w₁) : OpM P main R D fn ops nf i K a w₁ := by
  rcases h with h | ⟨o, f, args, ats, Post, h1, h2, h3, h4, h5⟩
  · exact .inl (opC_rely T hK h r)
  · exact .inr ⟨o, f, args, ats, Post, h1, h2, h3, callsC_rely T h4 r, h5⟩

/-- Whatever order is picked from here on; S holds behind every operation. -/
def AnyM (P : Program) (main : Bool) (R : World → World → Prop) (D : World → World → Array Event → Prop) (fn : FuncId) (md : Region.Mode) (ops : Array Oper) (Q : Exit → Act → World → Prop) (S : World → Prop) (nf : Nat) : Nat → Array Bool → Act → World → Prop
  | 0, done, a, w => Region.ready md ops done = [] ∧ Q .normal a w
  | fuel + 1, done, a, w => (Region.ready md ops done = [] → Q .normal a w) ∧
    ∀ i ∈ Region.ready md ops done, OpM P main R D fn ops nf i (fun a' w' => S w' ∧ AnyM P main R D fn md ops Q S nf fuel (done.setIfInBounds i true) a' w') a w

theorem AnyM.rely (T : Terms R D) (hSR : ∀ x y, S x → R x y → S y) (hQR : ∀ a x y, Q .normal a x → R x y → Q .normal a y) :
    ∀ (fuel : Nat) (done : Array Bool) (a : Act) (w w₁ : World), AnyM P main R D fn md ops Q S nf fuel done a w → R w w₁ → AnyM P main R D fn md ops Q S nf fuel done a w₁
  | 0, _, _, _, _, h, r => ⟨h.1, hQR _ _ _ h.2 r⟩
  | fuel + 1, _, _, _, _, h, r => ⟨fun e => hQR _ _ _ (h.1 e) r, fun i hi => (h.2 i hi).rely T (fun a x y k r' => ⟨hSR _ _ k.1 r', AnyM.rely T hSR hQR fuel _ a x y k.2 r'⟩) r⟩

theorem AnyM.sound (T : Terms R D) : ∀ (fuel t : Nat) (done : Array Bool) (a : Act) (w : World), AnyM P main R D fn md ops Q S nf fuel done a w →
    OpsC P main R D fn ops (Region.linearise.go md ops fuel t done []) (fuel * (nf + 3) + 1) Q a w := by
  intro fuel
  induction fuel with
  | zero => intro t done a w h; simpa [Region.linearise.go] using opsC_nil T h.2
  | succ fuel ih =>
    intro t done a w h
    obtain ⟨h₀, h₁⟩ := h
    simp only [Region.linearise.go]
    change OpsC P main R D fn ops (match (Region.ready md ops done)[t % (Region.ready md ops done).length]? with
      | some i => Region.linearise.go md ops fuel (t / (Region.ready md ops done).length) (done.setIfInBounds i true) [i]
      | none => [].reverse) _ Q a w
    have en : (fuel + 1) * (nf + 3) + 1 = (fuel * (nf + 3) + 1) + nf + 3 := by rw [Nat.succ_mul]; omega
    cases hi : (Region.ready md ops done)[t % (Region.ready md ops done).length]? with
    | none =>
      have hnil : Region.ready md ops done = [] := by
        cases hr : Region.ready md ops done with
        | nil => rfl
        | cons x xs =>
          rw [hr, List.getElem?_eq_none_iff] at hi
          exact absurd (Nat.mod_lt t (by simp : (x :: xs).length > 0)) (by omega)
      exact opsC_more (by simpa using opsC_nil T (h₀ hnil)) (by omega)
    | some i =>
      simp only []
      rw [linearise_go_acc, List.reverse_singleton, List.singleton_append, en]
      exact OpM.goesOn T ((h₁ i (List.mem_of_getElem? hi)).mono fun a' w' x => ih _ _ a' w' x.2)

theorem eval_args_put {oj : Oper} {f : FuncId} {args : Array Operand} {ats : Array TypeId} {a : Act} {dst : Option Tmp} {v : Value} (hop : oj.op = .call { callee := .value (.func f), args := args, argTypes := ats })
    (h : ∀ d, dst = some d → d ∉ oj.looksAt ops) : args.map (a.put dst v).eval = args.map a.eval :=
  Array.map_congr_left fun x hx => Act.eval_put fun d hd hxd => h d hd (by
    subst hxd
    refine List.mem_append_left _ (List.mem_filterMap.2 ⟨.tmp d, ?_, rfl⟩)
    simp [hop, Op.operands, Call.operands, hx])

/-- Whether oi's value stands already makes no difference to a number apart from it. -/
theorem OpM.putIf {j : Nat} {oi oj : Oper} {v : Value} (hj : ops[j]? = some oj) (hap : oi.apart ops oj = true)
    (hsi : ∀ cs b, oi.op ≠ .select cs b) (hsj : ∀ cs b, oj.op ≠ .select cs b) {K : Act → World → Prop} {a : Act} {w : World}
    (hy : YieldsIfC P D fn ops S oi v a) (h : OpM P main R D fn ops nf j K (a.put oi.dst v) w) :
    OpM P main R D fn ops nf j (fun a' w' => YieldsIfC P D fn ops S oi v a' ∧ K (a'.put oi.dst v) w') a w := by
  rcases h with h | ⟨o, f, args, ats, Post, h1, h2, h3, h4, h5⟩
  · exact .inl (OpC_putIf hj hap hsi hsj hy h)
  · obtain ⟨g1, g2, g3⟩ := Oper.apart_spec hap
    obtain rfl : oj = o := Option.some.inj (hj.symm.trans h1)
    rw [wanted_put oj a oi.dst v g1] at h2
    rw [eval_args_put h3 g1] at h4
    refine .inr ⟨oj, f, args, ats, Post, h1, h2, h3, h4, fun x w' hx => ⟨hy.of_same (execOp_put oi hsi a oj.dst x g3) (wanted_put oi a oj.dst x g3), ?_⟩⟩
    rw [← Act.put_comm a v x g2]
    exact h5 x w' hx

theorem AnyM.first (T : Terms R D) (hSR : ∀ x y, S x → R x y → S y) (hQR : ∀ a x y, Q .normal a x → R x y → Q .normal a y) {i : Nat} {oi : Oper} {v : Value} (hi : ops[i]? = some oi)
    (hsel : ∀ (j : Nat) (o : Oper) cs b, ops[j]? = some o → o.op ≠ .select cs b) :
    ∀ (fuel : Nat) (done : Array Bool) (a : Act) (w : World),
      (∀ j oj, ops[j]? = some oj → j ≠ i → done.getD j true = false → (∀ e ∈ oj.after, Region.binds md e = true → e.on ≠ i) → oi.apart ops oj = true) →
      i ∈ Region.ready md ops done → YieldsIfC P D fn ops S oi v a → S w →
      AnyM P main R D fn md ops Q S nf fuel (done.setIfInBounds i true) (a.put oi.dst v) w → AnyM P main R D fn md ops Q S nf (fuel + 1) done a w := by
  have hK : ∀ fuel done, ∀ a x y, (S x ∧ AnyM P main R D fn md ops Q S nf fuel done a x) → R x y → (S y ∧ AnyM P main R D fn md ops Q S nf fuel done a y) :=
    fun fuel done a x y h r => ⟨hSR _ _ h.1 r, AnyM.rely T hSR hQR fuel done a x y h.2 r⟩
  intro fuel
  induction fuel with
  | zero =>
    intro done a w _ hr hy hS H
    refine ⟨fun h => (by rw [h] at hr; cases hr), fun j hj => ?_⟩
    by_cases hji : j = i
    · subst hji; exact .inl (hy.opC hSR hi (hK _ _) hS ⟨hS, H⟩)
    · have := ready_mono hj hji
      rw [H.1] at this
      cases this
  | succ fuel ih =>
    intro done a w hfree hr hy hS H
    refine ⟨fun h => (by rw [h] at hr; cases hr), fun j hj => ?_⟩
    by_cases hji : j = i
    · subst hji; exact .inl (hy.opC hSR hi (hK _ _) hS ⟨hS, H⟩)
    · have h1 := H.2 j (ready_mono hj hji)
      obtain ⟨hjun, oj, hoj, hall⟩ := mem_ready.1 hj
      have hnot : ∀ e ∈ oj.after, Region.binds md e = true → e.on ≠ i := fun e he hb heq => by
        have h1 := hall e he hb
        have h0 := (mem_ready.1 hr).1
        rw [heq] at h1
        rcases Nat.lt_or_ge i done.size with h' | h'
        · simp [h'] at h0 h1; rw [h0] at h1; cases h1
        · simp [Array.getElem?_eq_none h'] at h1
      have h2 := OpM.putIf hoj (hfree j oj hoj hji hjun hnot) (fun cs b => hsel i oi cs b hi) (fun cs b => hsel j oj cs b hoj) hy h1
      refine h2.mono fun a' w' h3 => ⟨h3.2.1, ih (done.setIfInBounds j true) a' w' (fun k ok hk hki hun hno => hfree k ok hk hki ?_ hno) (ready_mono hr (Ne.symm hji)) h3.1 h3.2.1 ?_⟩
      · by_cases hjk : j = k
        · subst hjk; exact hjun
        · rw [getD_set_ne true hjk] at hun; exact hun
      · rw [Array.setIfInBounds_comm _ _ hji]
        exact h3.2.2

/-- Take number i first. -/
theorem AnyM.take (T : Terms R D) (hSR : ∀ x y, S x → R x y → S y) (hQR : ∀ a x y, Q .normal a x → R x y → Q .normal a y) {i : Nat} {oi : Oper} {v : Value} {fuel : Nat} {done : Array Bool} {a : Act} {w : World} (hi : ops[i]? = some oi)
    (hs : Region.noSelect ops = true) (hf : Region.free md ops done i = true) (hr : (Region.ready md ops done).contains i = true)
    (hy : YieldsIfC P D fn ops S oi v a) (hS : S w) (h : AnyM P main R D fn md ops Q S nf fuel (done.setIfInBounds i true) (a.put oi.dst v) w) : AnyM P main R D fn md ops Q S nf (fuel + 1) done a w :=
  AnyM.first T hSR hQR hi (Region.noSelect_spec hs) fuel done a w (Region.free_spec hi hf) (by simpa using hr) hy hS h

/-- Only number i may come up. -/
theorem AnyM.only {i : Nat} {fuel : Nat} {done : Array Bool} {a : Act} {w : World} (hr : Region.ready md ops done = [i])
    (h : OpM P main R D fn ops nf i (fun a' w' => S w' ∧ AnyM P main R D fn md ops Q S nf fuel (done.setIfInBounds i true) a' w') a w) : AnyM P main R D fn md ops Q S nf (fuel + 1) done a w :=
  ⟨fun h0 => (by rw [hr] at h0; cases h0), fun j hj => by rw [hr] at hj; simp at hj; subst hj; exact h⟩

theorem AnyM.all {done : Array Bool} {a : Act} {w : World} (hr : Region.ready md ops done = []) (h : Q .normal a w) : ∀ fuel, AnyM P main R D fn md ops Q S nf fuel done a w
  | 0 => ⟨hr, h⟩
  | _ + 1 => ⟨fun _ => h, fun i hi => by rw [hr] at hi; cases hi⟩

theorem wpC_region_m (T : Terms R D) (hd : LetsDraw D) {id : Nat} {a : Act} {w : World} (hm : P.follows .mixedOrders = true)
    (h : ∀ w₁, R w w₁ → AnyM P main R D fn .any ops Q S nf ops.size (Array.replicate ops.size false) a { w₁ with drawn := w₁.drawn + 1 }) : (Code.region id ops true).wpC P main R D fn (ops.size * (nf + 3) + 1 + 1) Q a w :=
  wpC_region_draw hd fun w₁ h₁ t => by
    simp only [Region.schedule, hm, Bool.true_or, if_true]
    exact AnyM.sound T ops.size t _ a _ (h w₁ h₁)
end
end Go.Pair

/- The same, where an operation l comes last: behind it nothing is asked of the world but what the end asks. -/
set_option linter.unusedVariables false
set_option linter.unusedSimpArgs false
namespace Go.Pair
open Go Go.Conc
section
variable {P : Program} {main : Bool} {R : World → World → Prop} {D : World → World → Array Event → Prop} {fn : FuncId} {ops : Array Oper} {Q : Exit → Act → World → Prop} {md : Region.Mode} {S : World → Prop} {nf l : Nat}

/-- Whatever order is picked from here on; S holds behind every operation. -/
def AnyL (P : Program) (main : Bool) (R : World → World → Prop) (D : World → World → Array Event → Prop) (fn : FuncId) (md : Region.Mode) (ops : Array Oper) (Q : Exit → Act → World → Prop) (S : World → Prop) (nf l : Nat) : Nat → Array Bool → Act → World → Prop
  | 0, done, a, w => Region.ready md ops done = [] ∧ Q .normal a w
  | fuel + 1, done, a, w => (Region.ready md ops done = [] → Q .normal a w) ∧
    ∀ i ∈ Region.ready md ops done, OpM P main R D fn ops nf i (fun a' w' => ((done.setIfInBounds i true).getD l false = false → S w') ∧ AnyL P main R D fn md ops Q S nf l fuel (done.setIfInBounds i true) a' w') a w

theorem AnyL.rely (T : Terms R D) (hSR : ∀ x y, S x → R x y → S y) (hQR : ∀ a x y, Q .normal a x → R x y → Q .normal a y) :
    ∀ (fuel : Nat) (done : Array Bool) (a : Act) (w w₁ : World), AnyL P main R D fn md ops Q S nf l fuel done a w → R w w₁ → AnyL P main R D fn md ops Q S nf l fuel done a w₁
  | 0, _, _, _, _, h, r => ⟨h.1, hQR _ _ _ h.2 r⟩
  | fuel + 1, _, _, _, _, h, r => ⟨fun e => hQR _ _ _ (h.1 e) r, fun i hi => (h.2 i hi).rely T (fun a x y k r' => ⟨fun x => hSR _ _ (k.1 x) r', AnyL.rely T hSR hQR fuel _ a x y k.2 r'⟩) r⟩

theorem AnyL.sound (T : Terms R D) : ∀ (fuel t : Nat) (done : Array Bool) (a : Act) (w : World), AnyL P main R D fn md ops Q S nf l fuel done a w →
    OpsC P main R D fn ops (Region.linearise.go md ops fuel t done []) (fuel * (nf + 3) + 1) Q a w := by
  intro fuel
  induction fuel with
  | zero => intro t done a w h; simpa [Region.linearise.go] using opsC_nil T h.2
  | succ fuel ih =>
    intro t done a w h
    obtain ⟨h₀, h₁⟩ := h
    simp only [Region.linearise.go]
    change OpsC P main R D fn ops (match (Region.ready md ops done)[t % (Region.ready md ops done).length]? with
      | some i => Region.linearise.go md ops fuel (t / (Region.ready md ops done).length) (done.setIfInBounds i true) [i]
      | none => [].reverse) _ Q a w
    have en : (fuel + 1) * (nf + 3) + 1 = (fuel * (nf + 3) + 1) + nf + 3 := by rw [Nat.succ_mul]; omega
    cases hi : (Region.ready md ops done)[t % (Region.ready md ops done).length]? with
    | none =>
      have hnil : Region.ready md ops done = [] := by
        cases hr : Region.ready md ops done with
        | nil => rfl
        | cons x xs =>
          rw [hr, List.getElem?_eq_none_iff] at hi
          exact absurd (Nat.mod_lt t (by simp : (x :: xs).length > 0)) (by omega)
      exact opsC_more (by simpa using opsC_nil T (h₀ hnil)) (by omega)
    | some i =>
      simp only []
      rw [linearise_go_acc, List.reverse_singleton, List.singleton_append, en]
      exact OpM.goesOn T ((h₁ i (List.mem_of_getElem? hi)).mono fun a' w' x => ih _ _ a' w' x.2)

theorem gd_ne (d : Array Bool) {j l : Nat} (h : j ≠ l) : (d.setIfInBounds j true).getD l false = d.getD l false := by
  simp [Array.getD_eq_getD_getElem?, Array.getElem?_setIfInBounds_ne h]
/-- l is not done, and comes behind i. -/
def lastOf (md : Region.Mode) (ops : Array Oper) (done : Array Bool) (l i : Nat) : Bool := !(done.getD l false) && match ops[l]? with | some ol => ol.after.any (fun e => Region.binds md e && e.on == i) | none => false
theorem lastOf_spec {done : Array Bool} {l i : Nat} (h : lastOf md ops done l i = true) : done.getD l false = false ∧ ∃ ol, ops[l]? = some ol ∧ ∃ e ∈ ol.after, Region.binds md e = true ∧ e.on = i := by
  unfold lastOf at h
  rw [Bool.and_eq_true] at h
  refine ⟨by simpa using h.1, ?_⟩
  cases ho : ops[l]? with
  | none => rw [ho] at h; simp at h
  | some ol =>
    rw [ho] at h
    obtain ⟨e, he, h2⟩ := Array.any_eq_true'.1 h.2
    rw [Bool.and_eq_true] at h2
    exact ⟨ol, rfl, e, he, h2.1, by simpa using h2.2⟩

theorem AnyL.first (T : Terms R D) (hSR : ∀ x y, S x → R x y → S y) (hQR : ∀ a x y, Q .normal a x → R x y → Q .normal a y) {i : Nat} {oi : Oper} {v : Value} (hi : ops[i]? = some oi)
    (hsel : ∀ (j : Nat) (o : Oper) cs b, ops[j]? = some o → o.op ≠ .select cs b) (hlb : ∃ ol, ops[l]? = some ol ∧ ∃ e ∈ ol.after, Region.binds md e = true ∧ e.on = i) :
    ∀ (fuel : Nat) (done : Array Bool) (a : Act) (w : World),
      (∀ j oj, ops[j]? = some oj → j ≠ i → done.getD j true = false → (∀ e ∈ oj.after, Region.binds md e = true → e.on ≠ i) → oi.apart ops oj = true) →
      i ∈ Region.ready md ops done → done.getD l false = false → YieldsIfC P D fn ops S oi v a → S w →
      AnyL P main R D fn md ops Q S nf l fuel (done.setIfInBounds i true) (a.put oi.dst v) w → AnyL P main R D fn md ops Q S nf l (fuel + 1) done a w := by
  have hK : ∀ fuel done, ∀ a x y, ((done.getD l false = false → S x) ∧ AnyL P main R D fn md ops Q S nf l fuel done a x) → R x y → ((done.getD l false = false → S y) ∧ AnyL P main R D fn md ops Q S nf l fuel done a y) :=
    fun fuel done a x y h r => ⟨fun z => hSR _ _ (h.1 z) r, AnyL.rely T hSR hQR fuel done a x y h.2 r⟩
  intro fuel
  induction fuel with
  | zero =>
    intro done a w _ hr hld hy hS H
    refine ⟨fun h => (by rw [h] at hr; cases hr), fun j hj => ?_⟩
    by_cases hji : j = i
    · subst hji; exact .inl (hy.opC hSR hi (hK _ _) hS ⟨fun _ => hS, H⟩)
    · have := ready_mono hj hji
      rw [H.1] at this
      cases this
  | succ fuel ih =>
    intro done a w hfree hr hld hy hS H
    refine ⟨fun h => (by rw [h] at hr; cases hr), fun j hj => ?_⟩
    by_cases hji : j = i
    · subst hji; exact .inl (hy.opC hSR hi (hK _ _) hS ⟨fun _ => hS, H⟩)
    · have h1 := H.2 j (ready_mono hj hji)
      obtain ⟨hjun, oj, hoj, hall⟩ := mem_ready.1 hj
      have hnot : ∀ e ∈ oj.after, Region.binds md e = true → e.on ≠ i := fun e he hb heq => by
        have h1 := hall e he hb
        have h0 := (mem_ready.1 hr).1
        rw [heq] at h1
        rcases Nat.lt_or_ge i done.size with h' | h'
        · simp [h'] at h0 h1; rw [h0] at h1; cases h1
        · simp [Array.getElem?_eq_none h'] at h1
      have hjl : j ≠ l := fun x => by
        obtain ⟨ol, h1, e, h2, h3, h4⟩ := hlb
        rw [← x, hoj] at h1
        cases h1
        exact hnot e h2 h3 h4
      have hil : i ≠ l := fun x => by
        obtain ⟨ol, h1, e, h2, h3, h4⟩ := hlb
        obtain ⟨h5, o5, h6, h7⟩ := mem_ready.1 hr
        rw [x, h1] at h6
        cases h6
        have h8 := h7 e h2 h3
        rw [h4] at h8
        rcases Nat.lt_or_ge i done.size with h' | h'
        · simp [h'] at h5 h8; rw [h5] at h8; cases h8
        · simp [Array.getElem?_eq_none h'] at h8
      have hun : ((done.setIfInBounds i true).setIfInBounds j true).getD l false = false := by rw [gd_ne _ hjl, gd_ne _ hil]; exact hld
      have h2 := OpM.putIf hoj (hfree j oj hoj hji hjun hnot) (fun cs b => hsel i oi cs b hi) (fun cs b => hsel j oj cs b hoj) hy h1
      refine h2.mono fun a' w' h3 => ⟨fun _ => h3.2.1 hun, ih (done.setIfInBounds j true) a' w' (fun k ok hk hki hun hno => hfree k ok hk hki ?_ hno) (ready_mono hr (Ne.symm hji)) (by rw [gd_ne _ hjl]; exact hld) h3.1 (h3.2.1 hun) ?_⟩
      · by_cases hjk : j = k
        · subst hjk; exact hjun
        · rw [getD_set_ne true hjk] at hun; exact hun
      · rw [Array.setIfInBounds_comm _ _ hji]
        exact h3.2.2

/-- Take number i first. -/
theorem AnyL.take (T : Terms R D) (hSR : ∀ x y, S x → R x y → S y) (hQR : ∀ a x y, Q .normal a x → R x y → Q .normal a y) {i : Nat} {oi : Oper} {v : Value} {fuel : Nat} {done : Array Bool} {a : Act} {w : World} (hi : ops[i]? = some oi)
    (hs : Region.noSelect ops = true) (hf : Region.free md ops done i = true) (hr : (Region.ready md ops done).contains i = true) (hlo : lastOf md ops done l i = true)
    (hy : YieldsIfC P D fn ops S oi v a) (hS : S w) (h : AnyL P main R D fn md ops Q S nf l fuel (done.setIfInBounds i true) (a.put oi.dst v) w) : AnyL P main R D fn md ops Q S nf l (fuel + 1) done a w :=
  AnyL.first T hSR hQR hi (Region.noSelect_spec hs) (lastOf_spec hlo).2 fuel done a w (Region.free_spec hi hf) (by simpa using hr) (lastOf_spec hlo).1 hy hS h

/-- Only number i may come up. -/
theorem AnyL.only {i : Nat} {fuel : Nat} {done : Array Bool} {a : Act} {w : World} (hr : Region.ready md ops done = [i])
    (h : OpM P main R D fn ops nf i (fun a' w' => ((done.setIfInBounds i true).getD l false = false → S w') ∧ AnyL P main R D fn md ops Q S nf l fuel (done.setIfInBounds i true) a' w') a w) : AnyL P main R D fn md ops Q S nf l (fuel + 1) done a w :=
  ⟨fun h0 => (by rw [hr] at h0; cases h0), fun j hj => by rw [hr] at hj; simp at hj; subst hj; exact h⟩

theorem AnyL.all {done : Array Bool} {a : Act} {w : World} (hr : Region.ready md ops done = []) (h : Q .normal a w) : ∀ fuel, AnyL P main R D fn md ops Q S nf l fuel done a w
  | 0 => ⟨hr, h⟩
  | _ + 1 => ⟨fun _ => h, fun i hi => by rw [hr] at hi; cases hi⟩

theorem wpC_region_l (T : Terms R D) (hd : LetsDraw D) {id : Nat} {a : Act} {w : World} (hm : P.follows .mixedOrders = true)
    (h : ∀ w₁, R w w₁ → AnyL P main R D fn .any ops Q S nf l ops.size (Array.replicate ops.size false) a { w₁ with drawn := w₁.drawn + 1 }) : (Code.region id ops true).wpC P main R D fn (ops.size * (nf + 3) + 1 + 1) Q a w :=
  wpC_region_draw hd fun w₁ h₁ t => by
    simp only [Region.schedule, hm, Bool.true_or, if_true]
    exact AnyL.sound T ops.size t _ a _ (h w₁ h₁)
end
end Go.Pair
