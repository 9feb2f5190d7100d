/- From a good run at every start to a row that says 'leaving' and bears a condition of its own. -/
import Derived.Test.YtkaapaepanhbgaaHSeq
import Derived.Conc.Holds
import Derived.JoinedCond
set_option linter.unusedVariables false
namespace Go.Pair
open Go Go.Conc

/-- One goroutine, from the start: the whole run. -/
theorem EA.run {P : Program} {Post : Value → World → Prop} {g : Goroutine} {w : World} (h : EA P Post (fun _ => False) g w) :
    ∃ N last o w' t', runNT P (N + 1) (solo g w) #[] = (.ended o w', t') ∧ runN P N (solo g w) = .next last ∧ step P last = .ended o w' ∧ Conc.Good P (fun v w' => Same w w' ∧ Post v w') last o w' t' := by
  rw [solo_eq_crowd]
  refine h.ends #[g] none #[] (fun _ => 0) rfl ⟨fun i x hi hx => ?_, fun j _ => rfl⟩ ((PastD.of past_nil).mono (Nat.zero_le _))
  rw [Array.getElem?_eq_none (by simp; omega)] at hx
  cases hx

section
variable {H : Type} {enc : TypeId × Value → H}
/-- The form, of a contract in which the arguments have been read. -/
theorem leaving_of_cond {a : Assume} {C : Checked} {os : Os} {f : FuncId} {fn : Func} {s : OpenSpec} {k : (H : Type) → List (DataW H) → Bool} (hk : s.cond = some k) {F : Stop.Interp} {conds : List PathCond} {apart fresh handsOn again : Bool}
    (own : ownKnob C.prog.godebug = none) (started : os.Started) (hfn : C.prog.funcs[f]? = some fn)
    (witness : ∃ (w : World) (tape : Tape) (i : Input), w.os = os ∧ (w.forCall tape i).Shaped C.prog ∧ i.vars = [] ∧ Input.okWide C.prog (w.forCall tape i) .any w.heap.size f i ∧
      s.pre6 enc C.prog fn conds apart (w.forCall tape i).memory i.args ∧ a.holds C.prog (lone (Frame.enter C.prog f i.args .normal) [] (w.forCall tape i)))
    (contract : ∀ (W : World) (base : Nat) (args : Array Value) (ds gs : List (DataW H)) (before : List MemPlace),
      (∀ (j : Nat) t v, fn.params[j]? = some t → args[j]? = some v → Value.okWide C.prog W .any base t v) → DataW.Whole enc C.prog fn.params.toList s.vars apart W args.toList ds gs before → k H (ds ++ gs) = true →
      EA C.prog (fun v W' => Same W W' → (s.at F).post enc C.prog fn apart fresh handsOn again W args v W') (fun _ => False) (G (Frame.enter C.prog f args .normal) []) W) :
    ReturnsInLeavingWide a C os f .any (s.pre6 enc C.prog fn conds apart) ((s.at F).post enc C.prog fn apart fresh handsOn again) := by
  refine returnsInLeavingWide_of_good own started witness fun w tape i _ _ _ hok hpre _ => ?_
  obtain ⟨_, _, _, fn', hfn', _, _, _, _, hval⟩ := hok
  obtain rfl : fn' = fn := Option.some.inj (hfn'.symm.trans hfn)
  obtain ⟨ds, gs, before, hw, _, hkk⟩ := (OpenSpec.pre_some hk conds apart _ _).1 hpre.1
  obtain ⟨N, last, o, w', t', r1, r2, r3, v, rfl, hp, rest⟩ := (contract (w.forCall tape i) w.heap.size i.args ds gs before hval (DataW.Whole.of_heap (w' := w.forCall tape i) (by rfl) hw) hkk).run
  exact ⟨N, last, _, w', t', r1, r2, r3, v, rfl, ChangeSpec.post_blind (hp.2 hp.1), rest⟩
end

/-- The row: its closed facts, and the form. -/
theorem holds_narrowed_leaving {p : Pinned} {s : OpenSpec} {c : OpenClaim} (f : FuncId) (fn : Func) (names : c.program = p.name ∧ c.sum = p.sum ∧ c.spec = s.name) (plain : c.start = .entering ∧ c.outside = [] ∧ c.inits = [] ∧ c.under = none ∧ c.noBlocks = false ∧ c.followed = none ∧ c.still = false)
    (hi4 : c.initsInPlace = [] ∧ c.initsUnfollowed = false ∧ c.initsRecurse = false ∧ c.initsNamed = [] ∧ c.initsPassed = []) (hlv : c.leaving = true) (hnar : c.narrowed = s.cond.isSome)
    (hfn : p.checked.prog.funcNamed c.func = some f) (hf : p.checked.prog.funcs[f]? = some fn) (closed : joinedFacts p.checked.prog f fn s.bare c = true)
    (hinst : fn.isInstance p.checked.prog c.origin c.targs) (hwrap : fn.isWrapper p.checked.prog c.wrapper c.mainSum)
    (h : ∀ os : Os, os.Started → ∀ (H : Type) (enc : TypeId × Value → H), ∀ F : Stop.Interp, ReturnsInLeavingWide c.assume p.checked os f .any (c.pre enc p.checked.prog fn s) ((s.at F).post enc p.checked.prog fn c.apart c.fresh c.handsOn c.again)) : c.holds p s := by
  obtain ⟨hn, hs, hsp⟩ := names
  obtain ⟨hstart, hout, hin, hun, hnb, hfo, hstill⟩ := plain
  simp only [joinedFacts, Bool.and_eq_true, beq_iff_eq, Array.all_eq_true_iff_forall_mem, List.all_eq_true, decide_eq_true_eq] at closed
  obtain ⟨⟨⟨⟨⟨⟨⟨⟨⟨⟨⟨⟨⟨⟨⟨⟨⟨⟨⟨⟨⟨⟨⟨⟨⟨⟨⟨⟨⟨⟨⟨k1, k2⟩, k3⟩, k4⟩, k5⟩, k6⟩, k7⟩, k8⟩, k9⟩, k10⟩, k11⟩, k12⟩, k13⟩, k14⟩, k15⟩, k16⟩, k17⟩, k17b⟩, k18⟩, k19⟩, k20⟩, k21⟩, k22⟩, k23⟩, k23b⟩, k24⟩, k24b⟩, k24c⟩, k25⟩, k26⟩, k27⟩, k28⟩ := closed
  have hq : ∀ os : Os, Stop.quiet p.checked.prog os := fun os k hk => by rw [k9] at hk; cases hk
  have hshort : c.shortTexts.isSome = false := by
    cases hx : c.shortTexts with
    | none => rfl
    | some _ => rw [hx] at k23; cases k23
  have hworld : ∀ os, c.world os = os.Started := fun os => by unfold OpenClaim.world; rw [hout, hstart]
  refine ⟨k1, hn, hs, hsp, k2, k3, ?_, ?_, f, fn, hfn, hf, ⟨k4, k19⟩, fun hb => absurd (hnb.symm.trans hb) (by decide), ?_, hinst, hwrap, k6.trans k7.symm, ⟨k8.trans k9.symm, ?_, k23b⟩, k10, k11, k12, k13, k14, ⟨k15, k27, k28⟩, ⟨k16, k20⟩, ⟨k17, k21, k25, k26⟩, ⟨k22, k24b, k24c, k17b⟩, ?_, fun n hn' => varReadable_some (k18 n hn'), ⟨_, (hworld _).symm ▸ WideRow.started_initial, hq _⟩, [], ?_, fun os st _ H enc _ => ?_⟩
  · unfold OpenClaim.startFits; rw [hstart]; exact k24
  · unfold OpenClaim.startTold; rw [hstart]; exact ⟨hin, hun, hi4⟩
  · unfold OpenClaim.namedList; rw [hfo]; exact k5
  · unfold Program.envWorded; rw [k9]; rfl
  · rw [hout, hnar, hshort]; simp
  · unfold OpenClaim.lists; rw [hfo]
  rw [hworld] at st
  rw [OpenClaim.post_not_still hstill]
  unfold OpenClaim.form
  rw [hstart, k6]
  intro F
  have e1 : c.okInput = Input.okWide := by unfold OpenClaim.okInput; rw [hnb]
  have e2 : c.atReturn p.checked.prog = leavingAtReturn p.checked.prog := by unfold OpenClaim.atReturn; rw [hlv]
  have e3 : c.always p.checked.prog [] = nothingAlways := by unfold OpenClaim.always; rw [hfo]
  have e4 : s.post enc p.checked.prog fn F c.outside c.apart c.fresh c.handsOn c.again = (s.at F).post enc p.checked.prog fn c.apart c.fresh c.handsOn c.again := by rw [hout]; rfl
  rw [e1, e2, e3]
  show ReturnsInOpen _ _ _ _ _ _ _ _ (s.post enc p.checked.prog fn F c.outside c.apart c.fresh c.handsOn c.again) _ _
  rw [e4]
  exact h os st H enc F k24
end Go.Pair
