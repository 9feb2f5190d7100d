/- The Cutter's length, what is missing, in company. -/
import Derived.Test.YtlghcldiboecoaaGreatDoorQ28
import Derived.WalkKit
import Derived.WalkSpells
import Derived.WalkLawsBesides
import Derived.Handy
import Derived.Conc.CompanyDraw
import Derived.Conc.AppendWalk
import Derived.Laws.IdiomCopy
set_option linter.unusedVariables false
set_option linter.unusedSimpArgs false
set_option maxRecDepth 100000
namespace Go.Proofs.YtlghcldiboecoaaGreatDoor.Cu
open Go Go.Conc Go.Pair Go.RowKit
theorem events_sl_h (w : World) (es : Array Event) (a : Option Addr) (len cap : Nat) (h : Int) (h0 : 0 ≤ h) (h1 : h ≤ cap) : (Instr.sliceAt 57 (.slice a len cap) none (some (.int .i64 h)) none).events Tryz.prog w es = es := by
  simp [Instr.sliceAt, Instr.slice, Instr.sliceBounds, Instr.sliceBound, asIntOf, go_sem, Tryz.runUnderlying57, h0, h1, Result.evThen]

theorem events_sl_l (w : World) (es : Array Event) (a : Option Addr) (len cap : Nat) (l : Int) (h0 : 0 ≤ l) (h1 : l ≤ len) : (Instr.sliceAt 57 (.slice a len cap) (some (.int .i64 l)) none none).events Tryz.prog w es = es := by
  simp [Instr.sliceAt, Instr.slice, Instr.sliceBounds, Instr.sliceBound, asIntOf, go_sem, Tryz.runUnderlying57, h0, h1, Result.evThen]

section
variable {E : EP} {sent : List (List UInt8 × Value)} {p : List UInt8} {v : Value} {tl : Bool} {w w₁ : World} {k : Nat} {FB : List (List UInt8 × Value) → World → Prop} {PostA : List (List UInt8 × Value) → Goroutine → World → Prop}

set_option maxRecDepth 100000 in
set_option maxHeartbeats 1000000 in
theorem length_long (O : E.Ok) (h4 : 4 ≤ p.length) : ∃ m, ∀ v w, BView E sent p v tl w →
    CallsC Tryz.prog false (RB (E.cfg k FB PostA)) (DB (E.cfg k FB PostA) sent) 219 #[.pointer (some ⟨E.R, 0, none⟩)] m w fun x w' => x = .int .u64 (uns (p.take 4) : Int) ∧ BView E sent p v tl w' := by
  have T := termsB (E.cfg k FB PostA) sent
  obtain ⟨nu, hu⟩ := unsigned_c (sent := sent) (tl := tl) (k := k) (FB := FB) (PostA := PostA) O h4
  co_apply Exists.intro
  intro v w hF
  obtain ⟨q, c, rfl, hc, hcm⟩ := hF.long (by omega)
  co_apply callsC_of_wpC Tryz.func219 (by rfl) rfl
  simp only [Tryz.ntmps219, List.size_toArray, List.length_cons, List.length_nil, Nat.reduceAdd, Nat.reduceSub, Array.replicate_succ, Array.replicate_zero, List.push_toArray, List.append_toArray, List.nil_append, List.cons_append]
  have hlt : ¬ ((p.length : Nat) : Int) < 4 := by omega
  have h4c : 4 ≤ c := by omega
  have h4z : (4 : Int) ≤ (c : Int) := by omega
  have hev := fun w es => events_sl_h w es (some ⟨q, 0, none⟩) p.length c 4 (by omega) h4z
  co_stmt T (BView.rely O) hF (co_quiet T)
  co_apply wpC_seq T
  co_apply wpC_seq T
  co_reg T
  co_op (BView.rely O) hF (co_quiet T)
  co_op (BView.rely O) hF (co_quiet T)
  co_op (BView.rely O) hF (co_quiet T)
  co_opw (BView.rely O) hF (have hc := hF.c0) (refine db_read ?_; co_evs (exact evR hF 0))
  clear hc
  co_op (BView.rely O) hF (co_quiet T)
  co_op (BView.rely O) hF (co_quiet T)
  co_apply opsC_nil T
  co_then
  co_apply wpC_cond T (t := false) rfl
  simp only [Bool.false_eq_true, if_false]
  co_ctl T
  co_then
  co_apply wpC_seq T
  co_reg T
  co_op (BView.rely O) hF (co_quiet T)
  co_op (BView.rely O) hF (co_quiet T)
  co_op (BView.rely O) hF (co_quiet T)
  co_opw (BView.rely O) hF (have hc := hF.c0) (refine db_read ?_; co_evs (exact evR hF 0))
  clear hc
  co_opw (BView.rely O) hF (skip) (co_still T)
  co_apply opsC_call T rfl (by rfl) rfl
  · walk_nrm
    exact hu q c c _ hF
  rintro x w' ⟨rfl, hF⟩
  walk_nrm
  co_op (BView.rely O) hF (co_quiet T)
  co_apply opsC_nil T
  co_then
  co_go T (BView.rely O) hF (co_quiet T)
  exact ⟨rfl, _, resultsC_tmp (by rfl) _, rfl, hF⟩

def lenOf (p : List UInt8) : Nat := if p.length < 4 then 0 else uns (p.take 4)
theorem length_any (O : E.Ok) : ∃ m, ∀ v w, BView E sent p v tl w →
    CallsC Tryz.prog false (RB (E.cfg k FB PostA)) (DB (E.cfg k FB PostA) sent) 219 #[.pointer (some ⟨E.R, 0, none⟩)] m w fun x w' => x = .int .u64 (lenOf p : Int) ∧ BView E sent p v tl w' := by
  unfold lenOf
  by_cases h : p.length < 4
  · simp only [if_pos h]; exact length_short O h
  · simp only [if_neg h]; exact length_long O (by omega)

end
end Go.Proofs.YtlghcldiboecoaaGreatDoor.Cu

/- A region that draws its order and bears a call inside, in company: the call by its contract. -/
namespace Go.Pair
open Go Go.Conc
section
variable {P : Program} {main : Bool} {R : World → World → Prop} {D : World → World → Array Event → Prop} {fn : FuncId} {ops : Array Oper} {Q : Exit → Act → World → Prop} {md : Region.Mode} {S : World → Prop} {nf : Nat}

def OpM (P : Program) (main : Bool) (R : World → World → Prop) (D : World → World → Array Event → Prop) (fn : FuncId) (ops : Array Oper) (nf i : Nat) (K : Act → World → Prop) (a : Act) (w : World) : Prop :=
  OpC P R D fn ops i K a w ∨ ∃ o f args ats Post, ops[i]? = some o ∧ Region.wanted o (yielded ops a.tmps) = true ∧ o.op = .call { callee := .value (.func f), args := args, argTypes := ats } ∧
    CallsC P main R D f (args.map a.eval) nf w Post ∧ ∀ v w', Post v w' → K (a.put o.dst v) w'

theorem OpM.call {i : Nat} {a : Act} {w : World} {K : Act → World → Prop} {o : Oper} {f : FuncId} {args : Array Operand} {ats : Array TypeId} {Post : Value → World → Prop} (h1 : ops[i]? = some o) (h2 : Region.wanted o (yielded ops a.tmps) = true)
    (h3 : o.op = .call { callee := .value (.func f), args := args, argTypes := ats }) (h4 : CallsC P main R D f (args.map a.eval) nf w Post) (h5 : ∀ v w', Post v w' → K (a.put o.dst v) w') : OpM P main R D fn ops nf i K a w :=
  .inr ⟨o, f, args, ats, Post, h1, h2, h3, h4, h5⟩

theorem OpM.mono {i : Nat} {a : Act} {w : World} {K K' : Act → World → Prop} (h : ∀ a w, K a w → K' a w) (hh : OpM P main R D fn ops nf i K a w) : OpM P main R D fn ops nf i K' a w := by
  rcases hh with hh | ⟨o, f, args, ats, Post, h1, h2, h3, h4, h5⟩
  · exact .inl (OpC_mono h hh)
  · exact .inr ⟨o, f, args, ats, Post, h1, h2, h3, h4, fun v w' x => h _ _ (h5 v w' x)⟩

theorem OpM.goesOn (T : Terms R D) {i : Nat} {rest : List Nat} {n : Nat} {a : Act} {w : World} (h : OpM P main R D fn ops nf i (fun a' w' => OpsC P main R D fn ops rest n Q a' w') a w) : OpsC P main R D fn ops (i :: rest) (n + nf + 3) Q a w := by
  rcases h with h | ⟨o, f, args, ats, Post, h1, h2, h3, h4, h5⟩
  · exact opsC_more (opsC_of_opC T h) (by omega)
  · exact opsC_call T h1 h2 h3 h4 h5

theorem opC_rely (T : Terms R D) {i : Nat} {a : Act} {w w₁ : World} {K : Act → World → Prop} (hK : ∀ a x y, K a x → R x y → K a y) (h : OpC P R D fn ops i K a w) (r : R w w₁) : OpC P R D fn ops i K a w₁ := by
  unfold OpC at *
  cases ho : ops[i]? with
  | none => simp [ho] at h
  | some o =>
    simp only [ho] at h ⊢
    by_cases hw : Region.wanted o (yielded ops a.tmps) = true
    · simp only [hw, if_true] at h ⊢
      exact fun w₂ h₂ => h w₂ (T.trans _ _ _ r h₂)
    · simp only [hw, if_false] at h ⊢
      exact hK _ _ _ h r

theorem callsC_rely (T : Terms R D) {f n : Nat} {vs : Array Value} {w w₁ : World} {Post : Value → World → Prop} (h : CallsC P main R D f vs n w Post) (r : R w w₁) : CallsC P main R D f vs n w₁ Post := by
  obtain ⟨fn, c, h1, h2, h3, h4⟩ := h
  exact ⟨fn, c, h1, h2, h3, wpC_rely T h4 r⟩

theorem OpM.rely (T : Terms R D) {i : Nat} {a : Act} {w w₁ : World} {K : Act → World → Prop} (hK : ∀ a x y, K a x → R x y → K a y) (h : OpM P main R D fn ops nf i K a w) (r : R w w₁) : OpM P main R D fn ops nf i K a w₁ := by
  rcases h with h | ⟨o, f, args, ats, Post, h1, h2, h3, h4, h5⟩
  · exact .inl (opC_rely T hK h r)
  · exact .inr ⟨o, f, args, ats, Post, h1, h2, h3, callsC_rely T h4 r, h5⟩

def AnyM (P : Program) (main : Bool) (R : World → World → Prop) (D : World → World → Array Event → Prop) (fn : FuncId) (md : Region.Mode) (ops : Array Oper) (Q : Exit → Act → World → Prop) (S : World → Prop) (nf : Nat) : Nat → Array Bool → Act → World → Prop
  | 0, done, a, w => Region.ready md ops done = [] ∧ Q .normal a w
  | fuel + 1, done, a, w => (Region.ready md ops done = [] → Q .normal a w) ∧
    ∀ i ∈ Region.ready md ops done, OpM P main R D fn ops nf i (fun a' w' => S w' ∧ AnyM P main R D fn md ops Q S nf fuel (done.setIfInBounds i true) a' w') a w

theorem AnyM.rely (T : Terms R D) (hSR : ∀ x y, S x → R x y → S y) (hQR : ∀ a x y, Q .normal a x → R x y → Q .normal a y) :
    ∀ (fuel : Nat) (done : Array Bool) (a : Act) (w w₁ : World), AnyM P main R D fn md ops Q S nf fuel done a w → R w w₁ → AnyM P main R D fn md ops Q S nf fuel done a w₁
  | 0, _, _, _, _, h, r => ⟨h.1, hQR _ _ _ h.2 r⟩
  | fuel + 1, _, _, _, _, h, r => ⟨fun e => hQR _ _ _ (h.1 e) r, fun i hi => (h.2 i hi).rely T (fun a x y k r' => ⟨hSR _ _ k.1 r', AnyM.rely T hSR hQR fuel _ a x y k.2 r'⟩) r⟩

theorem AnyM.sound (T : Terms R D) : ∀ (fuel t : Nat) (done : Array Bool) (a : Act) (w : World), AnyM P main R D fn md ops Q S nf fuel done a w →
    OpsC P main R D fn ops (Region.linearise.go md ops fuel t done []) (fuel * (nf + 3) + 1) Q a w := by
  intro fuel
  induction fuel with
  | zero => intro t done a w h; simpa [Region.linearise.go] using opsC_nil T h.2
  | succ fuel ih =>
    intro t done a w h
    obtain ⟨h₀, h₁⟩ := h
    simp only [Region.linearise.go]
    change OpsC P main R D fn ops (match (Region.ready md ops done)[t % (Region.ready md ops done).length]? with
      | some i => Region.linearise.go md ops fuel (t / (Region.ready md ops done).length) (done.setIfInBounds i true) [i]
      | none => [].reverse) _ Q a w
    have en : (fuel + 1) * (nf + 3) + 1 = (fuel * (nf + 3) + 1) + nf + 3 := by rw [Nat.succ_mul]; omega
    cases hi : (Region.ready md ops done)[t % (Region.ready md ops done).length]? with
    | none =>
      have hnil : Region.ready md ops done = [] := by
        cases hr : Region.ready md ops done with
        | nil => rfl
        | cons x xs =>
          rw [hr, List.getElem?_eq_none_iff] at hi
          exact absurd (Nat.mod_lt t (by simp : (x :: xs).length > 0)) (by omega)
      exact opsC_more (by simpa using opsC_nil T (h₀ hnil)) (by omega)
    | some i =>
      simp only []
      rw [linearise_go_acc, List.reverse_singleton, List.singleton_append, en]
      exact OpM.goesOn T ((h₁ i (List.mem_of_getElem? hi)).mono fun a' w' x => ih _ _ a' w' x.2)

theorem eval_args_put {oj : Oper} {f : FuncId} {args : Array Operand} {ats : Array TypeId} {a : Act} {dst : Option Tmp} {v : Value} (hop : oj.op = .call { callee := .value (.func f), args := args, argTypes := ats })
    (h : ∀ d, dst = some d → d ∉ oj.looksAt ops) : args.map (a.put dst v).eval = args.map a.eval :=
  Array.map_congr_left fun x hx => Act.eval_put fun d hd hxd => h d hd (by
    subst hxd
    refine List.mem_append_left _ (List.mem_filterMap.2 ⟨.tmp d, ?_, rfl⟩)
    simp [hop, Op.operands, Call.operands, hx])

theorem OpM.putIf {j : Nat} {oi oj : Oper} {v : Value} (hj : ops[j]? = some oj) (hap : oi.apart ops oj = true)
    (hsi : ∀ cs b, oi.op ≠ .select cs b) (hsj : ∀ cs b, oj.op ≠ .select cs b) {K : Act → World → Prop} {a : Act} {w : World}
    (hy : YieldsIfC P D fn ops S oi v a) (h : OpM P main R D fn ops nf j K (a.put oi.dst v) w) :
    OpM P main R D fn ops nf j (fun a' w' => YieldsIfC P D fn ops S oi v a' ∧ K (a'.put oi.dst v) w') a w := by
  rcases h with h | ⟨o, f, args, ats, Post, h1, h2, h3, h4, h5⟩
  · exact .inl (OpC_putIf hj hap hsi hsj hy h)
  · obtain ⟨g1, g2, g3⟩ := Oper.apart_spec hap
    obtain rfl : oj = o := Option.some.inj (hj.symm.trans h1)
    rw [wanted_put oj a oi.dst v g1] at h2
    rw [eval_args_put h3 g1] at h4
    refine .inr ⟨oj, f, args, ats, Post, h1, h2, h3, h4, fun x w' hx => ⟨hy.of_same (execOp_put oi hsi a oj.dst x g3) (wanted_put oi a oj.dst x g3), ?_⟩⟩
    rw [← Act.put_comm a v x g2]
    exact h5 x w' hx

theorem AnyM.first (T : Terms R D) (hSR : ∀ x y, S x → R x y → S y) (hQR : ∀ a x y, Q .normal a x → R x y → Q .normal a y) {i : Nat} {oi : Oper} {v : Value} (hi : ops[i]? = some oi)
    (hsel : ∀ (j : Nat) (o : Oper) cs b, ops[j]? = some o → o.op ≠ .select cs b) :
    ∀ (fuel : Nat) (done : Array Bool) (a : Act) (w : World),
      (∀ j oj, ops[j]? = some oj → j ≠ i → done.getD j true = false → (∀ e ∈ oj.after, Region.binds md e = true → e.on ≠ i) → oi.apart ops oj = true) →
      i ∈ Region.ready md ops done → YieldsIfC P D fn ops S oi v a → S w →
      AnyM P main R D fn md ops Q S nf fuel (done.setIfInBounds i true) (a.put oi.dst v) w → AnyM P main R D fn md ops Q S nf (fuel + 1) done a w := by
  have hK : ∀ fuel done, ∀ a x y, (S x ∧ AnyM P main R D fn md ops Q S nf fuel done a x) → R x y → (S y ∧ AnyM P main R D fn md ops Q S nf fuel done a y) :=
    fun fuel done a x y h r => ⟨hSR _ _ h.1 r, AnyM.rely T hSR hQR fuel done a x y h.2 r⟩
  intro fuel
  induction fuel with
  | zero =>
    intro done a w _ hr hy hS H
    refine ⟨fun h => (by rw [h] at hr; cases hr), fun j hj => ?_⟩
    by_cases hji : j = i
    · subst hji; exact .inl (hy.opC hSR hi (hK _ _) hS ⟨hS, H⟩)
    · have := ready_mono hj hji
      rw [H.1] at this
      cases this
  | succ fuel ih =>
    intro done a w hfree hr hy hS H
    refine ⟨fun h => (by rw [h] at hr; cases hr), fun j hj => ?_⟩
    by_cases hji : j = i
    · subst hji; exact .inl (hy.opC hSR hi (hK _ _) hS ⟨hS, H⟩)
    · have h1 := H.2 j (ready_mono hj hji)
      obtain ⟨hjun, oj, hoj, hall⟩ := mem_ready.1 hj
      have hnot : ∀ e ∈ oj.after, Region.binds md e = true → e.on ≠ i := fun e he hb heq => by
        have h1 := hall e he hb
        have h0 := (mem_ready.1 hr).1
        rw [heq] at h1
        rcases Nat.lt_or_ge i done.size with h' | h'
        · simp [h'] at h0 h1; rw [h0] at h1; cases h1
        · simp [Array.getElem?_eq_none h'] at h1
      have h2 := OpM.putIf hoj (hfree j oj hoj hji hjun hnot) (fun cs b => hsel i oi cs b hi) (fun cs b => hsel j oj cs b hoj) hy h1
      refine h2.mono fun a' w' h3 => ⟨h3.2.1, ih (done.setIfInBounds j true) a' w' (fun k ok hk hki hun hno => hfree k ok hk hki ?_ hno) (ready_mono hr (Ne.symm hji)) h3.1 h3.2.1 ?_⟩
      · by_cases hjk : j = k
        · subst hjk; exact hjun
        · rw [getD_set_ne true hjk] at hun; exact hun
      · rw [Array.setIfInBounds_comm _ _ hji]
        exact h3.2.2

theorem AnyM.take (T : Terms R D) (hSR : ∀ x y, S x → R x y → S y) (hQR : ∀ a x y, Q .normal a x → R x y → Q .normal a y) {i : Nat} {oi : Oper} {v : Value} {fuel : Nat} {done : Array Bool} {a : Act} {w : World} (hi : ops[i]? = some oi)
    (hs : Region.noSelect ops = true) (hf : Region.free md ops done i = true) (hr : (Region.ready md ops done).contains i = true)
    (hy : YieldsIfC P D fn ops S oi v a) (hS : S w) (h : AnyM P main R D fn md ops Q S nf fuel (done.setIfInBounds i true) (a.put oi.dst v) w) : AnyM P main R D fn md ops Q S nf (fuel + 1) done a w :=
  AnyM.first T hSR hQR hi (Region.noSelect_spec hs) fuel done a w (Region.free_spec hi hf) (by simpa using hr) hy hS h

theorem AnyM.only {i : Nat} {fuel : Nat} {done : Array Bool} {a : Act} {w : World} (hr : Region.ready md ops done = [i])
    (h : OpM P main R D fn ops nf i (fun a' w' => S w' ∧ AnyM P main R D fn md ops Q S nf fuel (done.setIfInBounds i true) a' w') a w) : AnyM P main R D fn md ops Q S nf (fuel + 1) done a w :=
  ⟨fun h0 => (by rw [hr] at h0; cases h0), fun j hj => by rw [hr] at hj; simp at hj; subst hj; exact h⟩

theorem AnyM.all {done : Array Bool} {a : Act} {w : World} (hr : Region.ready md ops done = []) (h : Q .normal a w) : ∀ fuel, AnyM P main R D fn md ops Q S nf fuel done a w
  | 0 => ⟨hr, h⟩
  | _ + 1 => ⟨fun _ => h, fun i hi => by rw [hr] at hi; cases hi⟩

theorem wpC_region_m (T : Terms R D) (hd : LetsDraw D) {id : Nat} {a : Act} {w : World} (hm : P.follows .mixedOrders = true)
    (h : ∀ w₁, R w w₁ → AnyM P main R D fn .any ops Q S nf ops.size (Array.replicate ops.size false) a { w₁ with drawn := w₁.drawn + 1 }) : (Code.region id ops true).wpC P main R D fn (ops.size * (nf + 3) + 1 + 1) Q a w :=
  wpC_region_draw hd fun w₁ h₁ t => by
    simp only [Region.schedule, hm, Bool.true_or, if_true]
    exact AnyM.sound T ops.size t _ a _ (h w₁ h₁)

end
end Go.Pair

/- The Cutter's missing, in company. -/
set_option maxRecDepth 100000
namespace Go.Proofs.YtlghcldiboecoaaGreatDoor.Cu
open Go Go.Conc Go.Pair Go.RowKit

def missing (p : List UInt8) : Int := if p.length < 4 then 4 - p.length else 4 + uns (p.take 4) - p.length

section
variable {E : EP} {sent : List (List UInt8 × Value)} {p : List UInt8} {v : Value} {tl : Bool} {w w₁ : World} {k : Nat} {FB : List (List UInt8 × Value) → World → Prop} {PostA : List (List UInt8 × Value) → Goroutine → World → Prop}

theorem letsB : LetsDraw (DB (E.cfg k FB PostA) sent) := fun w => ⟨.at _ w _, fun _ _ ⟨r, h1, h2, h3⟩ => ⟨r, h1, h2, h3⟩, ⟨Nat.le_refl _, fun i o h => ⟨o, h, rfl⟩⟩, rfl, rfl, by simp⟩
theorem rbDraw (w : World) : RB (E.cfg k FB PostA) w { w with drawn := w.drawn + 1 } := ⟨.at _ w _, fun h => h⟩

set_option maxRecDepth 100000 in
theorem missing_short (O : E.Ok) (hp : p.length < 4) : ∃ m, ∀ v w, BView E sent p v tl w →
    CallsC Tryz.prog false (RB (E.cfg k FB PostA)) (DB (E.cfg k FB PostA) sent) 218 #[.pointer (some ⟨E.R, 0, none⟩)] m w fun x w' => x = .int .i64 (missing p) ∧ BView E sent p v tl w' := by
  have T := termsB (E.cfg k FB PostA) sent
  co_apply Exists.intro
  intro v w hF
  obtain ⟨va, vc, rfl⟩ := hF.shape
  co_apply callsC_of_wpC Tryz.func218 (by rfl) rfl
  simp only [Tryz.ntmps218, List.size_toArray, List.length_cons, List.length_nil, Nat.reduceAdd, Nat.reduceSub, Array.replicate_succ, Array.replicate_zero, List.push_toArray, List.append_toArray, List.nil_append, List.cons_append]
  have hlt : ((p.length : Nat) : Int) < 4 := by omega
  co_stmt T (BView.rely O) hF (co_quiet T)
  co_apply wpC_seq (n₂ := 0) T
  co_apply wpC_seq T
  co_reg T
  co_op (BView.rely O) hF (co_quiet T)
  co_op (BView.rely O) hF (co_quiet T)
  co_op (BView.rely O) hF (co_quiet T)
  co_opw (BView.rely O) hF (have hc := hF.c0) (refine db_read ?_; co_evs (exact evR hF 0))
  clear hc
  co_op (BView.rely O) hF (co_quiet T)
  co_op (BView.rely O) hF (co_quiet T)
  co_apply opsC_nil T
  co_then
  co_apply wpC_cond T (t := true) rfl
  simp only [if_true]
  co_apply wpC_seq T
  co_reg T
  co_op (BView.rely O) hF (co_quiet T)
  co_op (BView.rely O) hF (co_quiet T)
  co_op (BView.rely O) hF (co_quiet T)
  co_opw (BView.rely O) hF (have hc := hF.c0) (refine db_read ?_; co_evs (exact evR hF 0))
  clear hc
  co_op (BView.rely O) hF (co_quiet T)
  co_op (BView.rely O) hF (co_quiet T)
  co_op (BView.rely O) hF (co_quiet T)
  co_apply opsC_nil T
  co_then
  co_go T (BView.rely O) hF (co_quiet T)
  refine ⟨rfl, _, resultsC_tmp (by rfl) _, ?_, hF⟩
  simp only [missing, if_pos hp]
  show Value.int .i64 (IntKind.i64.wrap (4 - (p.length : Int))) = _
  congr 1
  rw [IntKind.wrap_i64]
  omega

set_option maxRecDepth 100000 in
set_option maxHeartbeats 1000000 in
theorem missing_long (O : E.Ok) (h4 : 4 ≤ p.length) (hbig : p.length < 4294967296) : ∃ m, ∀ v w, BView E sent p v tl w →
    CallsC Tryz.prog false (RB (E.cfg k FB PostA)) (DB (E.cfg k FB PostA) sent) 218 #[.pointer (some ⟨E.R, 0, none⟩)] m w fun x w' => x = .int .i64 (missing p) ∧ BView E sent p v tl w' := by
  have T := termsB (E.cfg k FB PostA) sent
  obtain ⟨nu, hu⟩ := length_long (sent := sent) (tl := tl) (k := k) (FB := FB) (PostA := PostA) O h4
  have hun := uns_lt p 4 h4
  co_apply Exists.intro
  intro v w hF
  obtain ⟨q, c, rfl, hc, hcm⟩ := hF.long (by omega)
  co_apply callsC_of_wpC Tryz.func218 (by rfl) rfl
  simp only [Tryz.ntmps218, List.size_toArray, List.length_cons, List.length_nil, Nat.reduceAdd, Nat.reduceSub, Array.replicate_succ, Array.replicate_zero, List.push_toArray, List.append_toArray, List.nil_append, List.cons_append]
  have hlt : ¬ ((p.length : Nat) : Int) < 4 := by omega
  co_stmt T (BView.rely O) hF (co_quiet T)
  co_apply wpC_seq T
  co_apply wpC_seq T
  co_reg T
  co_op (BView.rely O) hF (co_quiet T)
  co_op (BView.rely O) hF (co_quiet T)
  co_op (BView.rely O) hF (co_quiet T)
  co_opw (BView.rely O) hF (have hc := hF.c0) (refine db_read ?_; co_evs (exact evR hF 0))
  clear hc
  co_op (BView.rely O) hF (co_quiet T)
  co_op (BView.rely O) hF (co_quiet T)
  co_apply opsC_nil T
  co_then
  co_apply wpC_cond T (t := false) rfl
  simp only [Bool.false_eq_true, if_false]
  co_ctl T
  co_then
  co_apply wpC_seq T
  co_apply wpC_region_m T letsB (S := BView E sent p (.slice (some ⟨q, 0, none⟩) p.length c) tl) (nf := nu) (by first | kernel_rfl | rfl)
  intro _ hR
  replace hF := BView.rely O (BView.rely O hF hR) (rbDraw (k := k) (FB := FB) (PostA := PostA) _)
  clear hR
  simp only [List.size_toArray, List.length_cons, List.length_nil, Nat.reduceAdd, Nat.zero_add]
  co_applyP AnyM.take T (fun _ _ hz rz => (BView.rely O) hz rz) (fun _ _ _ hz rz => wpC_rely T hz rz) (i := 0) rfl (by first | kernel_rfl | decide +kernel) (by first | kernel_rfl | decide +kernel) (by first | kernel_rfl | decide +kernel)
    (.inl ⟨by rfl, fun _ hw => ⟨run_eq_of ?run1, ?guar1⟩⟩) hF ?rest1
  case run1 =>
    intro Kz hKz
    (skip)
    go_simp
    exact hKz
  case guar1 =>
    (skip)
    (co_quiet T)
  try walk_nrm
  co_applyP AnyM.take T (fun _ _ hz rz => (BView.rely O) hz rz) (fun _ _ _ hz rz => wpC_rely T hz rz) (i := 4) rfl (by first | kernel_rfl | decide +kernel) (by first | kernel_rfl | decide +kernel) (by first | kernel_rfl | decide +kernel)
    (.inl ⟨by rfl, fun _ hw => ⟨run_eq_of ?run2, ?guar2⟩⟩) hF ?rest2
  case run2 =>
    intro Kz hKz
    (skip)
    go_simp
    exact hKz
  case guar2 =>
    (skip)
    (co_quiet T)
  try walk_nrm
  co_applyP AnyM.take T (fun _ _ hz rz => (BView.rely O) hz rz) (fun _ _ _ hz rz => wpC_rely T hz rz) (i := 5) rfl (by first | kernel_rfl | decide +kernel) (by first | kernel_rfl | decide +kernel) (by first | kernel_rfl | decide +kernel)
    (.inl ⟨by rfl, fun _ hw => ⟨run_eq_of ?run3, ?guar3⟩⟩) hF ?rest3
  case run3 =>
    intro Kz hKz
    (skip)
    go_simp
    exact hKz
  case guar3 =>
    (skip)
    (co_quiet T)
  try walk_nrm
  co_applyP AnyM.take T (fun _ _ hz rz => (BView.rely O) hz rz) (fun _ _ _ hz rz => wpC_rely T hz rz) (i := 6) rfl (by first | kernel_rfl | decide +kernel) (by first | kernel_rfl | decide +kernel) (by first | kernel_rfl | decide +kernel)
    (.inl ⟨by rfl, fun _ hw => ⟨run_eq_of ?run4, ?guar4⟩⟩) hF ?rest4
  case run4 =>
    intro Kz hKz
    (skip)
    go_simp
    exact hKz
  case guar4 =>
    (skip)
    (co_quiet T)
  try walk_nrm
  co_applyP AnyM.take T (fun _ _ hz rz => (BView.rely O) hz rz) (fun _ _ _ hz rz => wpC_rely T hz rz) (i := 7) rfl (by first | kernel_rfl | decide +kernel) (by first | kernel_rfl | decide +kernel) (by first | kernel_rfl | decide +kernel)
    (.inl ⟨by rfl, fun _ hw => ⟨run_eq_of ?run5, ?guar5⟩⟩) hF ?rest5
  case run5 =>
    intro Kz hKz
    (have hc := hw.c0)
    go_simp
    exact hKz
  case guar5 =>
    (have hc := hw.c0)
    (refine db_read ?_; co_evs (exact evR hw 0))
  try walk_nrm
  co_applyP AnyM.take T (fun _ _ hz rz => (BView.rely O) hz rz) (fun _ _ _ hz rz => wpC_rely T hz rz) (i := 8) rfl (by first | kernel_rfl | decide +kernel) (by first | kernel_rfl | decide +kernel) (by first | kernel_rfl | decide +kernel)
    (.inl ⟨by rfl, fun _ hw => ⟨run_eq_of ?run6, ?guar6⟩⟩) hF ?rest6
  case run6 =>
    intro Kz hKz
    (skip)
    go_simp
    exact hKz
  case guar6 =>
    (skip)
    (co_quiet T)
  try walk_nrm
  refine AnyM.only (i := 1) (by first | kernel_rfl | decide +kernel) ?_
  co_apply OpM.call rfl (by rfl) rfl
  · walk_nrm
    exact hu _ _ hF
  rintro x w' ⟨rfl, hF⟩
  refine ⟨hF, ?_⟩
  walk_nrm
  co_applyP AnyM.take T (fun _ _ hz rz => (BView.rely O) hz rz) (fun _ _ _ hz rz => wpC_rely T hz rz) (i := 2) rfl (by first | kernel_rfl | decide +kernel) (by first | kernel_rfl | decide +kernel) (by first | kernel_rfl | decide +kernel)
    (.inl ⟨by rfl, fun _ hw => ⟨run_eq_of ?run7, ?guar7⟩⟩) hF ?rest7
  case run7 =>
    intro Kz hKz
    (skip)
    go_simp
    exact hKz
  case guar7 =>
    (skip)
    (co_quiet T)
  try walk_nrm
  co_applyP AnyM.take T (fun _ _ hz rz => (BView.rely O) hz rz) (fun _ _ _ hz rz => wpC_rely T hz rz) (i := 3) rfl (by first | kernel_rfl | decide +kernel) (by first | kernel_rfl | decide +kernel) (by first | kernel_rfl | decide +kernel)
    (.inl ⟨by rfl, fun _ hw => ⟨run_eq_of ?run8, ?guar8⟩⟩) hF ?rest8
  case run8 =>
    intro Kz hKz
    (skip)
    go_simp
    exact hKz
  case guar8 =>
    (skip)
    (co_quiet T)
  try walk_nrm
  co_applyP AnyM.take T (fun _ _ hz rz => (BView.rely O) hz rz) (fun _ _ _ hz rz => wpC_rely T hz rz) (i := 9) rfl (by first | kernel_rfl | decide +kernel) (by first | kernel_rfl | decide +kernel) (by first | kernel_rfl | decide +kernel)
    (.inl ⟨by rfl, fun _ hw => ⟨run_eq_of ?run9, ?guar9⟩⟩) hF ?rest9
  case run9 =>
    intro Kz hKz
    (skip)
    go_simp
    exact hKz
  case guar9 =>
    (skip)
    (co_quiet T)
  try walk_nrm
  co_applyP AnyM.take T (fun _ _ hz rz => (BView.rely O) hz rz) (fun _ _ _ hz rz => wpC_rely T hz rz) (i := 10) rfl (by first | kernel_rfl | decide +kernel) (by first | kernel_rfl | decide +kernel) (by first | kernel_rfl | decide +kernel)
    (.inl ⟨by rfl, fun _ hw => ⟨run_eq_of ?run10, ?guar10⟩⟩) hF ?rest10
  case run10 =>
    intro Kz hKz
    (skip)
    go_simp
    exact hKz
  case guar10 =>
    (skip)
    (co_quiet T)
  try walk_nrm
  refine AnyM.all (by first | kernel_rfl | decide +kernel) ?_ _
  co_then
  co_go T (BView.rely O) hF (co_quiet T)
  refine ⟨rfl, _, resultsC_tmp (by rfl) _, ?_, hF⟩
  simp only [missing, if_neg (show ¬ p.length < 4 by omega)]
  show Value.int .i64 _ = _
  congr 1
  simp only [IntKind.wrap_i64]
  omega

theorem missing_any (O : E.Ok) (hbig : p.length < 4294967296) : ∃ m, ∀ v w, BView E sent p v tl w →
    CallsC Tryz.prog false (RB (E.cfg k FB PostA)) (DB (E.cfg k FB PostA) sent) 218 #[.pointer (some ⟨E.R, 0, none⟩)] m w fun x w' => x = .int .i64 (missing p) ∧ BView E sent p v tl w' := by
  by_cases h : p.length < 4
  · exact missing_short O h
  · exact missing_long O (by omega) hbig

end
end Go.Proofs.YtlghcldiboecoaaGreatDoor.Cu

/- What append and copy list is plain: no entry at a cell is marked as one of sync. What copy lists. -/
namespace Go.Pair
open Go Go.Conc

def Event.flat (e : Event) : Prop := e.sync = false ∨ ∃ m, e.loc = .mark m
def Flat {α : Type} (P : Program) (x : Sem α) : Prop := ∀ w es, ∀ ev ∈ x.events P w es, ev ∈ es ∨ Event.flat ev

section
variable {P : Program} {α β : Type}
theorem Flat.pure (a : α) : Flat P (Pure.pure a : Sem α) := fun _ _ _ h => .inl h
theorem Flat.stuck (s : String) : Flat P (Go.stuck s : Sem α) := fun _ _ _ h => .inl h
theorem Flat.unsupported (u : Unsupported) : Flat P (Go.unsupported u : Sem α) := fun _ _ _ h => .inl h
theorem Flat.goPanic (v : Value) : Flat P (Go.goPanic v : Sem α) := fun _ _ _ h => .inl h
theorem Flat.bind {x : Sem α} {f : α → Sem β} (hx : Flat P x) (hf : ∀ a, Flat P (f a)) : Flat P (x >>= f) := fun w es ev h => by
  rw [Sem.events_bind] at h
  cases hr : x.run P w with
  | halt y w' => rw [hr] at h; exact hx w es ev h
  | ok a w' =>
    rw [hr] at h
    rcases hf a w' _ ev h with h | h
    · exact hx w es ev h
    · exact .inr h

theorem Flat.ite {c : Prop} [Decidable c] {x y : Sem α} (hx : Flat P x) (hy : Flat P y) : Flat P (if c then x else y) := by split <;> assumption
theorem Flat.load (a : Addr) : Flat P (load a) := fun w es ev h => by
  rw [events_load] at h
  split at h
  · rcases Array.mem_push.1 h with h | rfl
    · exact .inl h
    · exact .inr (.inl rfl)
  · split at h
    · rcases Array.mem_append.1 h with h | h
      · exact .inl h
      · obtain ⟨x, _, rfl⟩ := Array.mem_map.1 h
        exact .inr (.inl rfl)
    · exact .inl h

theorem Flat.store (a : Addr) (v : Value) : Flat P (store a v) := fun w es ev h => by
  by_cases hv : v.oneCell' = true
  · rw [events_store P w es a v _ hv] at h
    split at h
    · split at h
      · exact .inl h
      · rcases Array.mem_push.1 h with h | rfl
        · exact .inl h
        · exact .inr (.inl rfl)
    · split at h
      · rcases Array.mem_append.1 h with h | h
        · exact .inl h
        · obtain ⟨x, _, rfl⟩ := Array.mem_map.1 h
          exact .inr (.inl rfl)
      · exact .inl h
  · cases v <;> first | (simp [Value.oneCell'] at hv; done) | exact .inl h

theorem Flat.loadCellsFrom (a : Addr) : ∀ (n i : Nat) (acc : Array Value), Flat P (loadCellsFrom a i n acc)
  | 0, _, _ => .pure _
  | n + 1, i, acc => .bind (.load _) fun v => Flat.loadCellsFrom a n (i + 1) (acc.push v)

theorem Flat.storeCells (a : Addr) : ∀ (vs : List Value) (i : Nat), Flat P (storeCells a vs i)
  | [], _ => .pure _
  | v :: rest, i => .bind (.store _ v) fun _ => Flat.storeCells a rest (i + 1)

theorem Flat.firstCells (size n : Nat) (v : Value) : Flat P (Builtin.firstCells size n v) := by
  unfold Builtin.firstCells
  split
  · exact .loadCellsFrom _ _ _ _
  · exact .pure _
  · exact .pure _
  · exact .stuck _

theorem Flat.lenOf (v : Value) : Flat P (Builtin.lenOf v) := by
  unfold Builtin.lenOf
  split <;> first | exact .pure _ | exact .stuck _

theorem Flat.typeInfo (t : TypeId) : Flat P (typeInfo t) := fun w es ev h => by rw [events_typeInfo] at h; exact .inl h
theorem Flat.program : Flat P Go.program := fun _ _ _ h => .inl h
theorem Flat.underlying (t : TypeId) : Flat P (underlying t) := by
  unfold Go.underlying
  refine .bind .program fun p => ?_
  split <;> first | exact .pure _ | exact .stuck _

theorem Flat.sizeOf (t : TypeId) : Flat P (Go.sizeOf t) := .bind (.typeInfo t) fun _ => .pure _
theorem Flat.zeroValue (t : TypeId) : Flat P (zeroValue t) := by
  unfold Go.zeroValue
  refine .bind (.typeInfo t) fun i => ?_
  split <;> first | exact .pure _ | exact .unsupported _

theorem Flat.choose (q : Question) : Flat P (choose q) := fun w es ev h => by rw [events_choose] at h; exact .inl h
theorem Flat.mark (m : Mark) : Flat P (mark m) := fun w es ev h => by
  rw [events_mark] at h
  rcases Array.mem_push.1 h with h | rfl
  · exact .inl h
  · exact .inr (.inr ⟨m, rfl⟩)

theorem Flat.askRoom (b : Nat) : Flat P (askRoom b) := by
  unfold Go.askRoom
  split
  · exact .mark _
  · exact .pure _

theorem Flat.newRow (t : TypeId) (c : Array Value) : Flat P (newRow t c) := .bind (fun _ _ _ h => .inl h) fun _ => .pure _

theorem Flat.copy (ats : Array TypeId) (ty : TypeId) (args : Array Value) : Flat P (Builtin.copy_ ats ty args) := by
  unfold Builtin.copy_
  repeat' first
    | exact Flat.pure _ | exact Flat.stuck _ | exact Flat.lenOf _ | exact Flat.underlying _ | exact Flat.sizeOf _ | exact Flat.firstCells _ _ _ | exact Flat.storeCells _ _ _
    | refine Flat.bind ?_ fun _ => ?_
    | split

theorem Flat.asIntOf (v : Value) : Flat P (asIntOf v) := by
  unfold Go.asIntOf
  repeat' (first | with_reducible exact Flat.pure _ | with_reducible exact Flat.stuck _ | with_reducible exact Flat.unsupported _ | with_reducible exact Flat.goPanic _ | with_reducible exact Flat.lenOf _ | with_reducible exact Flat.underlying _ | with_reducible exact Flat.sizeOf _ | with_reducible exact Flat.typeInfo _ | with_reducible exact Flat.zeroValue _ | with_reducible exact Flat.choose _ | with_reducible exact Flat.askRoom _ | with_reducible exact Flat.mark _ | with_reducible exact Flat.newRow _ _ | with_reducible exact Flat.firstCells _ _ _ | with_reducible exact Flat.storeCells _ _ _ | with_reducible refine Flat.bind ?_ fun _ => ?_ | with_reducible refine Flat.ite ?_ ?_ | split | dsimp only)

theorem Flat.asInt (v : Value) : Flat P (asInt v) := .bind (.asIntOf v) fun _ => .pure _
theorem Flat.shape (r : Nat) : Flat P (shape r) := fun _ _ _ h => .inl h
theorem Flat.frozen (a : Addr) : Flat P (frozen a) := fun _ _ _ h => .inl h
theorem Flat.holdsCells (a : Addr) (n : Nat) : Flat P (Builtin.holdsCells a n) := by
  unfold Builtin.holdsCells
  refine .bind (.shape _) fun x => ?_
  split <;> exact .pure _

theorem Flat.mayShare (a b c : Nat) (x : Option Addr) (v : Value) : Flat P (Builtin.mayShare a b c x v) := by
  unfold Builtin.mayShare
  repeat' first | with_reducible exact Flat.holdsCells _ _ | with_reducible exact Flat.frozen _ | (first | with_reducible exact Flat.pure _ | with_reducible exact Flat.stuck _ | with_reducible exact Flat.unsupported _ | with_reducible exact Flat.goPanic _ | with_reducible exact Flat.lenOf _ | with_reducible exact Flat.underlying _ | with_reducible exact Flat.sizeOf _ | with_reducible exact Flat.typeInfo _ | with_reducible exact Flat.zeroValue _ | with_reducible exact Flat.choose _ | with_reducible exact Flat.askRoom _ | with_reducible exact Flat.mark _ | with_reducible exact Flat.newRow _ _ | with_reducible exact Flat.firstCells _ _ _ | with_reducible exact Flat.storeCells _ _ _ | with_reducible refine Flat.bind ?_ fun _ => ?_ | with_reducible refine Flat.ite ?_ ?_ | split | dsimp only)

theorem Flat.panics (e : String) : Flat P (runtimePanic (.error e) : Sem α) := .bind .program fun _ => .goPanic _
set_option maxHeartbeats 2000000 in
theorem Flat.append (ats : Array TypeId) (ty : TypeId) (args : Array Value) : Flat P (Builtin.append_ ats ty args) := by
  unfold Builtin.append_
  repeat' first | with_reducible exact Flat.panics _ | with_reducible exact Flat.mayShare _ _ _ _ _ | with_reducible exact Flat.asInt _ | (first | with_reducible exact Flat.pure _ | with_reducible exact Flat.stuck _ | with_reducible exact Flat.unsupported _ | with_reducible exact Flat.goPanic _ | with_reducible exact Flat.lenOf _ | with_reducible exact Flat.underlying _ | with_reducible exact Flat.sizeOf _ | with_reducible exact Flat.typeInfo _ | with_reducible exact Flat.zeroValue _ | with_reducible exact Flat.choose _ | with_reducible exact Flat.askRoom _ | with_reducible exact Flat.mark _ | with_reducible exact Flat.newRow _ _ | with_reducible exact Flat.firstCells _ _ _ | with_reducible exact Flat.storeCells _ _ _ | with_reducible refine Flat.bind ?_ fun _ => ?_ | with_reducible refine Flat.ite ?_ ?_ | split | dsimp only)

theorem events_copy_where (w : World) (dT sT ty elem : TypeId) (g o dLen dCap : Nat) (a : Addr) (sLen sCap : Nat) (cur : Array Value) (t : TypeId) (cs : List Value)
    (hu : P.underlying dT = some (.slice elem)) (hs : (P.info? elem).map (·.size) = some 1) (hn : cs.length = Nat.min sLen dLen)
    (hsrc : ∀ j v, cs[j]? = some v → w.cell? (a.add j) = some v) (hg : w.heap[g]? = some (.cells cur t (0, 0))) (hl : o + cs.length ≤ cur.size) (h1 : ∀ v ∈ cs, v.oneCell' = true) :
    ∀ ev ∈ (Builtin.copy_ #[dT, sT] ty #[.slice (some ⟨g, o, none⟩) dLen dCap, .slice (some a) sLen sCap]).events P w #[], ∃ ad, ev.loc = .cell ad ∧ ((ev.write = false ∧ ad.block = a.block) ∨ ad.block = g) := by
  intro ev hev
  cases hq : P.info? elem with
  | none => simp [hq] at hs
  | some i =>
    have hi : i.size = 1 := by simpa [hq] using hs
    have hf := run_firstCells_some (P := P) w 1 cs.length a sLen sCap cs (by simp) hsrc
    simp [Builtin.copy_, run_underlying hu, Builtin.lenOf, sizeOf, typeInfo, hq, hi, ← hn, hf] at hev
    rcases events_storeCells_at (P := P) g o t cs 0 cur w _ hg (by simpa using hl) h1 ev hev with h | ⟨ad, h2, h3⟩
    · rcases events_firstCells_in (P := P) (fun b => b = a.block) 1 cs.length (.slice (some a) sLen sCap) w #[] (fun a' l c e => by cases e; exact ⟨rfl, fun j hj => isSome_of_list hsrc (by simpa using hj)⟩) ev h with h | ⟨ad, h4, h5, h6⟩
      · simp at h
      · exact ⟨ad, h4, .inl ⟨h5, h6⟩⟩
    · exact ⟨ad, h2, .inr h3⟩

theorem flat_cell {ev : Event} {ad : Addr} (h : Event.flat ev) (hl : ev.loc = .cell ad) : ev = ⟨.cell ad, ev.write, false⟩ := by
  rcases h with h | ⟨m, h⟩
  · cases ev; simp_all
  · rw [h] at hl; cases hl

end
end Go.Pair
