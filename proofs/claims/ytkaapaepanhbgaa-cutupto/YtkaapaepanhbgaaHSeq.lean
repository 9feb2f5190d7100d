/- Goroutine 0's own code between its pairs: walks, calls, beside leavers. -/
import Derived.Test.YtkaapaepanhbgaaHAdd
import Derived.Test.YtkaapaepanhbgaaHSpec
import Derived.Conc.CompanyMem
import Derived.Test.YtkaapaepanhbgaaCRecv
set_option linter.unusedVariables false
set_option linter.unusedSimpArgs false
namespace Go.Pair
open Go Go.Conc

/-- What a step of goroutine 0's alone may do. -/
def DS (Shun : Loc → Prop) (w w' : World) (es : Array Event) : Prop := w.heap.size ≤ w'.heap.size ∧ (∀ e ∈ es, EvL Shun w'.heap.size e) ∧ Same w w'
theorem termsS (Shun : Loc → Prop) : Terms AtRel (DS Shun) := ⟨atRel_trans, fun w => ⟨Nat.le_refl _, by simp, rfl, rfl⟩⟩

/-- From here goroutine 0 comes to its return, whatever was drawn; the streams are then as they are here. -/
def EA (P : Program) (Post : Value → World → Prop) (Shun : Loc → Prop) (g : Goroutine) (w : World) : Prop := ∀ d, Ends P (fun v w' => Same w w' ∧ Post v w') Shun 0 g (w.at d)

theorem Ends.mono {P : Program} {Post Post' : Value → World → Prop} {Shun : Loc → Prop} {d : Nat} {g : Goroutine} {w : World} (hP : ∀ v w', Post v w' → Post' v w') (h : Ends P Post Shun d g w) : Ends P Post' Shun d g w := by
  intro gs sl t q h0 hL hT
  obtain ⟨N, last, o, w', t', r1, r2, r3, v, rfl, hp, rest⟩ := h gs sl t q h0 hL hT
  exact ⟨N, last, _, w', t', r1, r2, r3, v, rfl, hP _ _ hp, rest⟩

section
variable {P : Program} {Post : Value → World → Prop} {Shun : Loc → Prop} {g g' : Goroutine} {w w' : World} {n : Nat}
theorem at_self (w : World) : w.at w.drawn = w := rfl
theorem EA.ends (h : EA P Post Shun g w) : Ends P (fun v w' => Same w w' ∧ Post v w') Shun 0 g w := h w.drawn
theorem EA.from (h : EA P Post Shun g w') (s : Same w w') : Ends P (fun v w' => Same w w' ∧ Post v w') Shun 0 g w' := h.ends.mono fun _ _ x => ⟨s.trans x.1, x.2⟩
theorem EA.rel (h : EA P Post Shun g w) (r : AtRel w w') : EA P Post Shun g w' := by
  obtain ⟨d, rfl⟩ := r
  exact fun d' => h d'
theorem EA.goes (h : Goes P true AtRel (DS Shun) (EA P Post Shun) n g w) : EA P Post Shun g w := fun d =>
  Ends.goes (D := DS Shun) (Stop := fun g w' => Same w w' ∧ EA P Post Shun g w') (fun _ _ _ h => ⟨h.1, h.2.1⟩) (fun _ _ h => h.2.from h.1)
    (goes_conv (I := fun w' => Same w w') (fun _ _ r => r) (fun _ _ r hI => by obtain ⟨e, rfl⟩ := r; exact hI) (fun _ _ _ h => h) (fun _ _ _ h hI => hI.trans h.2.2) (fun _ _ hI h => ⟨hI, h⟩) ⟨rfl, rfl⟩ (Goes.rely (R := AtRel) atRel_trans h ⟨d, rfl⟩))
theorem EA.stop (h : EA P Post Shun g w) : Goes P true AtRel (DS Shun) (EA P Post Shun) n g w := Goes.stop fun _ r => h.rel r

theorem evL_cell {B : Nat} {a : Addr} {wr : Bool} (hs : ¬ Shun (.cell a)) (hb : a.block < B) : EvL Shun B ⟨.cell a, wr, false⟩ := by
  refine ⟨fun x hx hsx => ?_, by simp, by simp, ?_⟩
  · cases wr <;> simp [MemAct.ofEvent, MemAct.touch?] at hx <;> subst hx <;> exact absurd hsx hs
  · cases wr <;> exact hb

/-- A call whose callee may start goroutines. -/
def CallsE (P : Program) (Post : Value → World → Prop) (f : FuncId) (args : Array Value) (Shun : Loc → Prop) (w : World) (PostF : Value → World → (Loc → Prop) → Prop) : Prop :=
  ∃ fn c, P.funcs[f]? = some fn ∧ (fn.name == "runtime.NumGoroutine") = false ∧ fn.body = some c ∧ ∀ (fr : Frame) (cs : List Frame), (∀ v w' Shun', PostF v w' Shun' → EA P Post Shun' (G (fr.finish v) cs) w') →
    EA P Post Shun (G ((base f).at { tmps := args ++ Array.replicate (fn.ntmps - args.size) undef, defers := [] } [.code c]) (fr :: cs)) w

theorem goes_callE {b : Frame} {a : Act} {k : List Item} {cs : List Frame} {ops : Array Oper} {i : Nat} {rest : List Nat} {o : Oper} {f : FuncId} {args : Array Operand} {ats : Array TypeId} {PostF : Value → World → (Loc → Prop) → Prop}
    (ho : ops[i]? = some o) (hw : Region.wanted o (yielded ops a.tmps) = true) (hk : b.kind ≠ .early) (hop : o.op = .call { callee := .value (.func f), args, argTypes := ats })
    (hcall : CallsE P Post f (args.map a.eval) Shun w PostF) (hnext : ∀ v w' Shun', PostF v w' Shun' → EA P Post Shun' (G (b.at (a.put o.dst v) (.inRegion ops rest :: k)) cs) w') :
    Goes P true AtRel (DS Shun) (EA P Post Shun) 1 (G (b.at a (.inRegion ops (i :: rest) :: k)) cs) w := by
  obtain ⟨fn, c, hf, hname, hbody, h⟩ := hcall
  refine Goes.step rfl fun w₁ r => goes_call ho hw hk hop hf hname hbody ⟨(termsS Shun).idle _, ?_⟩
  refine fun w₂ r₂ => (h _ _ fun v w' S q => ?_).rel (atRel_trans _ _ _ r r₂)
  have hfin : ∀ v, (b.at a (.inRegion ops (i :: rest) :: k)).finish v = b.at (a.put o.dst v) (.inRegion ops rest :: k) := fun v => by rw [Frame.finish_at, ho]; rfl
  rw [hfin]
  exact hnext v w' S q
end
end Go.Pair

/- Words for goroutine 0's own walk. -/
namespace Go.Pair
open Go Go.Conc
end Go.Pair
