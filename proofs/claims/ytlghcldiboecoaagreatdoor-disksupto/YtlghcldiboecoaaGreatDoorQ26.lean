/- A piece of lone code beside leavers, 3: the theorem. -/
import Derived.Test.YtlghcldiboecoaaGreatDoorQ25
set_option linter.unusedVariables false
set_option linter.unusedSimpArgs false
namespace Go.Pair
open Go Go.Conc

section
variable {P : Program} {S : FuncId → Prop} {Bs : Nat → Prop} {k : List Item} {z : List Frame} {Stop : Frame → World → Prop} {w0 : World} {f0 : FuncId}

def OkX (P : Program) (S : FuncId → Prop) (x : Option (Frame × List Frame)) (b : Frame) : Prop := match x with | none => True | some (f, up) => OkFr P S f ∧ OkUp P S up ∧ b.mode = .run ∧ Waits b

structure LostB (P : Program) (S : FuncId → Prop) (Bs : Nat → Prop) (k : List Item) (z : List Frame) (Stop : Frame → World → Prop) (w0 : World) (f0 : FuncId) where
  x : Option (Frame × List Frame)
  b : Frame
  w : World
  okb : OkFr P S b
  okx : OkX P S x b
  bfn : b.fn = f0
  kept : Kept Bs w0 w
  not : ¬ FiniB P Bs k z Stop x b w

inductive OneS (P : Program) (S : FuncId → Prop) (Bs : Nat → Prop) (K : Nat) (x : Option (Frame × List Frame)) (b : Frame) (k kl : List Item) (z z' : List Frame) (w v : World) : Prop
  | bad (o : Outcome) (v' : World) (h : (stepG P true (stack kl z' x b) v).bare = .ended o v')
  | panic (fr : Frame) (c : List PanicEntry) (up : List Frame) (v' : World) (h : (stepG P true (stack kl z' x b) v).bare = .go (G { fr with mode := .panicking c } (up ++ z')) v') (hd : fr.defers = []) (hf : ∃ f, P.funcs[fr.fn]? = some f) (hu : ∀ y ∈ up, y.defers = [] ∧ ∃ f, P.funcs[y.fn]? = some f)
  | go (x' : Option (Frame × List Frame)) (b' : Frame) (w' v' : World) (es : Array Event) (hw : stepG P true (stack k z x b) w = .go (stack k z x' b') w' es) (hv : (stepG P true (stack kl z' x b) v).bare = .go (stack kl z' x' b') v')
      (hb : OkFr P S b') (hx : OkX P S x' b') (hfn : b'.fn = b.fn) (ha : After Bs K w v w' v') (hes : ∀ e ∈ es, EvG Bs w'.heap.size e)

theorem one_stepS (hS : OkS P S) {x : Option (Frame × List Frame)} {b : Frame} (hb : OkFr P S b) (hx : OkX P S x b) (hn : ¬ (x = none ∧ AtEnd b)) (w : World) : ∃ K, ∀ (k kl : List Item) (z z' : List Frame) (v : World), (∀ l, gotoIn l kl = none) → Sim Bs w v → Agree w v K → OneS P S Bs K x b k kl z z' w v := by
  cases x with
  | none =>
    obtain ⟨K, hK⟩ := base_step (Bs := Bs) hS hb (fun h => hn ⟨rfl, h⟩) w
    refine ⟨K, fun k kl z z' v hg hs ha => ?_⟩
    cases hK k kl z z' v hg hs ha with
    | bad o v' h => exact .bad o v' h
    | panic ch v' h =>
      obtain ⟨c, ec⟩ := raise_mode (app b kl) ch
      rw [ec] at h
      exact .panic (app b kl) c [] v' h hb.defers hb.fn (by simp)
    | stay fr' w' v' es hw hv hf hfn ha hes => exact .go none fr' w' v' es hw hv hf trivial hfn ha hes
    | enter f w' v' es hw hv hf hwt ha hes =>
      have hm : b.mode = .run := hb.mode.resolve_right fun h => hn ⟨rfl, .inl h⟩
      exact .go (some (f, [])) b w' v' es hw hv hb ⟨hf, (fun _ h => by cases h), hm, hwt⟩ rfl ha hes
  | some p =>
    obtain ⟨f, up⟩ := p
    obtain ⟨hf, hu, hm, hwt⟩ := hx
    by_cases hfin : up = [] ∧ f.mode = .returning
    · obtain ⟨rfl, hfm⟩ := hfin
      obtain ⟨fn, hfn⟩ := hf.fn
      refine ⟨uses P (results fn f.tmps) w, fun k kl z z' v hg hs hag => ?_⟩
      have hst : ∀ cs w, stepG P true (G f cs) w = unwind P true f cs none w := fun cs w => stepG_unwind (by rw [hfm]; simp)
      cases tame_sim (results fn f.tmps) (fun _ => False) w v #[] (T.results fn f.tmps _) (fun _ h => h.elim) hs hag with
      | bad h v' hr hb =>
        cases h with
        | stuck s => exact .bad _ v' (by show (stepG P true (G f _) v).bare = _; rw [hst]; simp only [unwind, hf.defers, hfm, hfn, Sem.runT_eq, hr]; rfl)
        | unsupported u => exact .bad _ v' (by show (stepG P true (G f _) v).bare = _; rw [hst]; simp only [unwind, hf.defers, hfm, hfn, Sem.runT_eq, hr]; rfl)
        | _ => exact hb.elim
      | panic y w' v' es' hw hv ha hes => exact .bad _ v' (by show (stepG P true (G f _) v).bare = _; rw [hst]; simp only [unwind, hf.defers, hfm, hfn, Sem.runT_eq, hv]; rfl)
      | ok a w' v' es' hw hv hq ha hes =>
        obtain ⟨ops, i, l, t, he⟩ := hwt
        refine .go none (b.finish a) w' v' _ ?_ ?_ (okFr_finish hb hm a).1 trivial (by simp [Frame.finish, he]) ha (seen_evG (P := P) (fn := f.fn) (es := #[] ++ es') (by simpa using hes))
        · show stepG P true (G f ([] ++ app b k :: z)) w = .go (G (app (b.finish a) k) z) w' _
          rw [hst]
          simp only [unwind, hf.defers, hfm, hfn, hw, doReturn, List.nil_append, hf.kind, finish_app he]
          simp [GStep.after, G]
        · show (stepG P true (G f ([] ++ app b kl :: z')) v).bare = .go (G (app (b.finish a) kl) z') v'
          rw [hst]
          simp only [unwind, hf.defers, hfm, hfn, Sem.runT_eq, hv, doReturn, List.nil_append, hf.kind, finish_app he]
          rfl
    · obtain ⟨K, hK⟩ := one_step (Bs := Bs) hS hf hu hfin w
      refine ⟨K, fun k kl z z' v hg hs ha => ?_⟩
      cases hK (app b k :: z) (app b kl :: z') v hs ha with
      | bad o v' h => exact .bad o v' h
      | panic ch v' h =>
        obtain ⟨c, ec⟩ := raise_mode f ch
        rw [ec] at h
        refine .panic f c (up ++ [app b kl]) v' (by rw [List.append_assoc]; exact h) hf.defers hf.fn fun y hy => ?_
        rw [List.mem_append] at hy
        rcases hy with hy | hy
        · exact ⟨(hu y hy).1.defers, (hu y hy).1.fn⟩
        · obtain rfl : y = app b kl := by simpa using hy
          exact ⟨hb.defers, hb.fn⟩
      | go fr' up' w' v' es hw hv hf' hu' ha hes => exact .go (some (fr', up')) b w' v' es hw hv hb ⟨hf', hu', hm, hwt⟩ rfl ha hes

theorem app_inj {a b : Frame} {k : List Item} (h : app a k = app b k) : a = b := by
  cases a; cases b
  simp only [app, Frame.mk.injEq, List.append_cancel_right_eq] at h ⊢
  exact h

theorem G_inj {f f' : Frame} {c c' : List Frame} (h : G f c = G f' c') : f = f' ∧ c = c' := by
  simp only [G, Goroutine.mk.injEq] at h
  exact ⟨h.1, h.2.1⟩

theorem stack_inj {x x' : Option (Frame × List Frame)} {b b' : Frame} (h : stack k z x b = stack k z x' b') : x = x' ∧ b = b' := by
  cases x with
  | none =>
    cases x' with
    | none => exact ⟨rfl, app_inj (G_inj h).1⟩
    | some p =>
      have := congrArg List.length (G_inj (show G (app b k) z = G p.1 (p.2 ++ app b' k :: z) from h)).2
      simp at this
      omega
  | some p =>
    cases x' with
    | none =>
      have := congrArg List.length (G_inj (show G p.1 (p.2 ++ app b k :: z) = G (app b' k) z from h)).2
      simp at this
      omega
    | some q =>
      obtain ⟨h1, h2⟩ := G_inj (show G p.1 (p.2 ++ app b k :: z) = G q.1 (q.2 ++ app b' k :: z) from h)
      have h3 : p.2 ++ [app b k] = q.2 ++ [app b' k] := by
        have : (p.2 ++ [app b k]) ++ z = (q.2 ++ [app b' k]) ++ z := by simpa using h2
        exact List.append_cancel_right this
      have h4 := List.append_inj' h3 rfl
      refine ⟨?_, app_inj (by simpa using h4.2)⟩
      rw [show p = (p.1, p.2) from rfl, show q = (q.1, q.2) from rfl, h1, h4.1]

structure AdvB (kl : List Item) (x : LostB P S Bs k z Stop w0 f0) (d K : Nat) (y : LostB P S Bs k z Stop w0 f0) : Prop where
  mid : ¬ (x.x = none ∧ AtEnd x.b) → (∀ v, Sim Bs (x.w.at d) v → Agree (x.w.at d) v K → OneS P S Bs K x.x x.b k kl z [trap P] (x.w.at d) v) ∧
    ∀ x' b' w' es, stepG P true (stack k z x.x x.b) (x.w.at d) = .go (stack k z x' b') w' es → OkFr P S b' → OkX P S x' b' → b'.fn = f0 → Kept Bs w0 w' → x.w.heap.size ≤ w'.heap.size → Same x.w w' → (∀ e ∈ es, EvG Bs w'.heap.size e) → y.x = x' ∧ y.b = b' ∧ y.w = w'

theorem advB (hS : OkS P S) (kl : List Item) (hg : ∀ l, gotoIn l kl = none) (x : LostB P S Bs k z Stop w0 f0) : ∃ d K y, AdvB kl x d K y := by
  by_cases hfin : x.x = none ∧ AtEnd x.b
  · exact ⟨0, 0, x, ⟨fun h => absurd hfin h⟩⟩
  · have hnot : ∃ d, ¬ ∃ x' b' w' es, stepG P true (stack k z x.x x.b) (x.w.at d) = .go (stack k z x' b') w' es ∧ x.w.heap.size ≤ w'.heap.size ∧ Same x.w w' ∧ (∀ e ∈ es, EvG Bs w'.heap.size e) ∧ FiniB P Bs k z Stop x' b' w' := by
      refine Classical.byContradiction fun hno => x.not (FiniB.steps fun d => ?_)
      exact Classical.byContradiction fun h => hno ⟨d, h⟩
    obtain ⟨d, hd⟩ := hnot
    obtain ⟨K, hK⟩ := one_stepS (Bs := Bs) hS x.okb x.okx hfin (x.w.at d)
    by_cases hgo : ∃ x' b' w' es, stepG P true (stack k z x.x x.b) (x.w.at d) = .go (stack k z x' b') w' es ∧ OkFr P S b' ∧ OkX P S x' b' ∧ b'.fn = f0 ∧ Kept Bs w0 w' ∧ x.w.heap.size ≤ w'.heap.size ∧ Same x.w w' ∧ ∀ e ∈ es, EvG Bs w'.heap.size e
    · obtain ⟨x', b', w', es, h1, h2, h3, h3b, h4, h5, h6, h7⟩ := hgo
      refine ⟨d, K, ⟨x', b', w', h2, h3, h3b, h4, fun hF => hd ⟨x', b', w', es, h1, h5, h6, h7, hF⟩⟩, ⟨fun _ => ⟨fun v hs ha => hK _ _ _ _ v hg hs ha, fun x2 b2 w2 es2 e2 _ _ _ _ _ _ _ => ?_⟩⟩⟩
      rw [h1] at e2
      injection e2 with e3 e4 e5
      obtain ⟨e6, e7⟩ := stack_inj e3
      exact ⟨e6, e7, e4⟩
    · exact ⟨d, K, x, ⟨fun _ => ⟨fun v hs ha => hK _ _ _ _ v hg hs ha, fun x2 b2 w2 es2 e2 a1 a2 a3 a4 a5 a6 a7 => absurd ⟨x2, b2, w2, es2, e2, a1, a2, a3, a4, a5, a6, a7⟩ hgo⟩⟩⟩

end
end Go.Pair

/- A piece of lone code beside leavers, 4: the lone machine goes along; the theorem. -/
namespace Go.Pair
open Go Go.Conc

section
variable {P : Program} {S : FuncId → Prop} {Bs : Nat → Prop} {k : List Item} {z : List Frame} {Stop : Frame → World → Prop} {w0 : World} {f0 : FuncId}

section
variable (hS : OkS P S) (kl : List Item) (hg : ∀ l, gotoIn l kl = none) (x0 : LostB P S Bs k z Stop w0 f0)
noncomputable def nextB (x : LostB P S Bs k z Stop w0 f0) : LostB P S Bs k z Stop w0 f0 := (advB hS kl hg x).choose_spec.choose_spec.choose
noncomputable def drawB (x : LostB P S Bs k z Stop w0 f0) : Nat := (advB hS kl hg x).choose
noncomputable def useB (x : LostB P S Bs k z Stop w0 f0) : Nat := (advB hS kl hg x).choose_spec.choose
theorem advB_of (x : LostB P S Bs k z Stop w0 f0) : AdvB kl x (drawB hS kl hg x) (useB hS kl hg x) (nextB hS kl hg x) := (advB hS kl hg x).choose_spec.choose_spec.choose_spec
noncomputable def seqB : Nat → LostB P S Bs k z Stop w0 f0
  | 0 => x0
  | n + 1 => nextB hS kl hg (seqB n)

noncomputable def posB : Nat → Nat
  | 0 => 0
  | n + 1 => posB n + useB hS kl hg (seqB hS kl hg x0 n)

open Classical in
noncomputable def tapeB (n : Nat) (q : Question) : Nat :=
  if h : ∃ ij : Nat × Nat, n = posB hS kl hg x0 ij.1 + ij.2 ∧ ij.2 < useB hS kl hg (seqB hS kl hg x0 ij.1) then w0.tape (drawB hS kl hg (seqB hS kl hg x0 h.choose.1) + h.choose.2) q else 0

theorem posB_mono {i j : Nat} (h : i ≤ j) : posB hS kl hg x0 i ≤ posB hS kl hg x0 j := by
  induction j with
  | zero => obtain rfl : i = 0 := by omega
            exact Nat.le_refl _
  | succ j ih =>
    rcases Nat.lt_or_ge i (j + 1) with hlt | hge
    · exact Nat.le_trans (ih (by omega)) (Nat.le_add_right _ _)
    · obtain rfl : i = j + 1 := by omega
      exact Nat.le_refl _

theorem tapeB_at {i j : Nat} (hj : j < useB hS kl hg (seqB hS kl hg x0 i)) : tapeB hS kl hg x0 (posB hS kl hg x0 i + j) = w0.tape (drawB hS kl hg (seqB hS kl hg x0 i) + j) := by
  funext q
  unfold tapeB
  have hex : ∃ ij : Nat × Nat, posB hS kl hg x0 i + j = posB hS kl hg x0 ij.1 + ij.2 ∧ ij.2 < useB hS kl hg (seqB hS kl hg x0 ij.1) := ⟨(i, j), rfl, hj⟩
  rw [dif_pos hex]
  have key := hex.choose_spec
  generalize hex.choose = ij at key
  obtain ⟨i', j'⟩ := ij
  obtain ⟨h1, h2⟩ := key
  simp only at h1 h2 ⊢
  have : i = i' := by
    rcases Nat.lt_trichotomy i i' with h | h | h
    · have := posB_mono hS kl hg x0 (show i + 1 ≤ i' from h)
      simp only [posB] at this
      omega
    · exact h
    · have := posB_mono hS kl hg x0 (show i' + 1 ≤ i from h)
      simp only [posB] at this
      omega
  subst this
  obtain rfl : j = j' := by omega
  rfl

end

inductive Tgt (b0 : Frame) (kl : List Item) (e : Exit) (a : Act) : Frame → Prop
  | normal (he : e = .normal) : Tgt b0 kl e a (b0.at a kl)
  | exit (id : Nat) (t : List Item) (he : e = .exit id) (ht : exitTo id kl = some t) : Tgt b0 kl e a (b0.at a t)
  | ret (todo : List Item) (he : e = .ret) : Tgt b0 kl e a { b0.at a todo with mode := .returning }

inductive Left (b0 : Frame) (e : Exit) (a : Act) : Frame → Prop
  | normal (he : e = .normal) : Left b0 e a (b0.at a [])
  | exit (id : Nat) (t : List Item) (he : e = .exit id) (ht : exitTo id t = none) : Left b0 e a (b0.at a (.code (.exit id) :: t))
  | ret (todo : List Item) (he : e = .ret) : Left b0 e a { b0.at a todo with mode := .returning }

theorem at_app (b0 : Frame) (a : Act) (t k : List Item) : app (b0.at a t) k = b0.at a (t ++ k) := rfl
theorem app_eq {b b0 : Frame} {a : Act} {k t : List Item} (h : app b k = b0.at a (t ++ k)) : b = b0.at a t := app_inj (h.trans (at_app b0 a t k).symm)

theorem lone_lostB (hS : OkS P S) (ids : List Nat) (x0 : LostB P S Bs k z Stop w0 f0) {b0 : Frame} {e : Exit} {a : Act} {fr : Frame} {v' : World} (ht : Tgt b0 (outs ids) e a fr)
    (hStop : ∀ fr w, Left b0 e a fr → Kept Bs w0 w → Sim Bs w v' → Stop fr w) :
    ∀ (n i : Nat) (L : World) (f : Frame) (cs : List Frame), stack (outs ids) [trap P] (seqB hS (outs ids) (goto_outs ids) x0 i).x (seqB hS (outs ids) (goto_outs ids) x0 i).b = G f cs → runN P n (lone f cs L) = .next (lone fr [trap P] v') → Sim Bs (seqB hS (outs ids) (goto_outs ids) x0 i).w L → L.tape = tapeB hS (outs ids) (goto_outs ids) x0 → L.drawn = posB hS (outs ids) (goto_outs ids) x0 i → False := by
  intro n
  induction n with
  | zero =>
    intro i L f cs hst hr hs hta hd
    simp only [runN, Stepped.next.injEq] at hr
    obtain ⟨rfl, rfl, rfl⟩ := lone_inj hr
    generalize hx : seqB hS (outs ids) (goto_outs ids) x0 i = x at *
    have hnone : x.x = none := by
      cases hxx : x.x with
      | none => rfl
      | some p =>
        rw [hxx] at hst
        have := congrArg List.length (G_inj (show G p.1 (p.2 ++ app x.b (outs ids) :: [trap P]) = G f [trap P] from hst)).2
        simp at this
    rw [hnone] at hst
    have hf : app x.b (outs ids) = f := (G_inj (show G (app x.b (outs ids)) [trap P] = G f [trap P] from hst)).1
    have stop : ∀ {fr : Frame}, x.b = fr → Left b0 e a fr → AtEnd fr → False := fun hfr hl he => x.not (by rw [hnone]; exact .stop (hfr ▸ he) (hStop _ _ (hfr ▸ hl) x.kept hs))
    cases ht with
    | normal he => exact stop (app_eq (t := []) hf) (.normal he) (.inr (.inl rfl))
    | exit id t he ht =>
      have h1 := (exit_outs ht).2.1
      have h2 := congrArg (fun f => f.todo.length) hf
      simp [app, Frame.at] at h2
      omega
    | ret todo he =>
      have hb : x.b = { b0.at a x.b.todo with mode := .returning } := by
        have := congrArg (fun f : Frame => { f with todo := x.b.todo }) hf
        exact this
      exact stop hb (.ret _ he) (.inl rfl)
  | succ n ih =>
    intro i L f cs hst hr hs hta hd
    have ad := advB_of hS (outs ids) (goto_outs ids) (seqB hS (outs ids) (goto_outs ids) x0 i)
    have hnext : nextB hS (outs ids) (goto_outs ids) (seqB hS (outs ids) (goto_outs ids) x0 i) = seqB hS (outs ids) (goto_outs ids) x0 (i + 1) := rfl
    have hpos : posB hS (outs ids) (goto_outs ids) x0 (i + 1) = posB hS (outs ids) (goto_outs ids) x0 i + useB hS (outs ids) (goto_outs ids) (seqB hS (outs ids) (goto_outs ids) x0 i) := rfl
    have htape := fun j => tapeB_at hS (outs ids) (goto_outs ids) x0 (i := i) (j := j)
    generalize hx : seqB hS (outs ids) (goto_outs ids) x0 i = x at *
    by_cases hfin : x.x = none ∧ AtEnd x.b
    · obtain ⟨hnone, hend⟩ := hfin
      rw [hnone] at hst
      obtain ⟨rfl, rfl⟩ := G_inj (show G (app x.b (outs ids)) [trap P] = G f cs from hst)
      rcases hend with hm | htd | ⟨id, t, htd, hex⟩
      · exact return_dead (S := S) (fr := app x.b (outs ids)) ⟨x.okb.defers, x.okb.kind, x.okb.round, x.okb.fn, .inr hm, fun h => by rw [show (app x.b (outs ids)).mode = x.b.mode from rfl, hm] at h; cases h⟩ hm n L v' fr hr
      · by_cases hm : x.b.mode = .run
        · exact refused_dead (fr := app x.b (outs ids)) hm ⟨"", _, by simp [app, htd, outs]; rfl⟩ hr
        · have hm := x.okb.mode.resolve_left hm
          exact return_dead (S := S) (fr := app x.b (outs ids)) ⟨x.okb.defers, x.okb.kind, x.okb.round, x.okb.fn, .inr hm, fun h => by rw [show (app x.b (outs ids)).mode = x.b.mode from rfl, hm] at h; cases h⟩ hm n L v' fr hr
      · by_cases hm : x.b.mode = .run
        · have hta' : (app x.b (outs ids)).todo = .code (.exit id) :: (t ++ outs ids) := by simp [app, htd]
          have hma : (app x.b (outs ids)).mode = .run := hm
          cases he : exitTo id (outs ids) with
          | none =>
            have h1 : ∃ o, (stepG P true (G (app x.b (outs ids)) [trap P]) L).bare = .ended o L := by
              rw [stepG_exec hma]
              simp only [stepG.exec, hta', exitTo_none hex, he, Option.elim, show (app x.b (outs ids)).roundOf = none from x.okb.round]
              exact ⟨_, rfl⟩
            obtain ⟨o, h1⟩ := h1
            exact runN_ended h1 hr
          | some t' =>
            have h1 : (stepG P true (G (app x.b (outs ids)) [trap P]) L).bare = .go (G { app x.b (outs ids) with todo := t' } [trap P]) L := by
              rw [stepG_exec hma]
              simp only [stepG.exec, hta', exitTo_none hex, he, Option.elim]
              rfl
            have h2 := runN_go h1 hr
            cases n with
            | zero =>
              simp only [runN, Stepped.next.injEq] at h2
              obtain ⟨e1, _, e3⟩ := lone_inj h2
              subst e3
              obtain ⟨_, hlen, huniq⟩ := exit_outs he
              cases ht with
              | normal hee =>
                have := congrArg (fun f => f.todo.length) e1
                simp [Frame.at] at this
                omega
              | exit id' t2 hee ht2 =>
                have htt : t' = t2 := congrArg (fun f => f.todo) e1
                subst htt
                obtain rfl := huniq id' ht2
                have hb : x.b = b0.at a (.code (.exit id') :: t) := by
                  have := congrArg (fun f : Frame => { f with todo := x.b.todo }) e1
                  simp only [app, Frame.at] at this ⊢
                  rw [← htd]
                  exact this
                exact x.not (by rw [hnone]; exact .stop (.inr (.inr ⟨id', t, htd, hex⟩)) (hStop _ _ (hb ▸ .exit id' t hee hex) x.kept hs))
              | ret todo hee =>
                have := congrArg (fun f => f.mode) e1
                simp [app, hm] at this
            | succ n => exact refused_dead (fr := { app x.b (outs ids) with todo := t' }) hma (exit_outs he).1 h2
        · have hm := x.okb.mode.resolve_left hm
          exact return_dead (S := S) (fr := app x.b (outs ids)) ⟨x.okb.defers, x.okb.kind, x.okb.round, x.okb.fn, .inr hm, fun h => by rw [show (app x.b (outs ids)).mode = x.b.mode from rfl, hm] at h; cases h⟩ hm n L v' fr hr
    · obtain ⟨hone, hnx⟩ := ad.mid hfin
      have hag : Agree (x.w.at (drawB hS (outs ids) (goto_outs ids) x)) L (useB hS (outs ids) (goto_outs ids) x) := fun j hj => by
        rw [hta, hd, htape j hj]
        show w0.tape _ = x.w.tape _
        rw [x.kept.tape]; rfl
      have hmode : fr.mode = .run ∨ fr.mode = .returning := by cases ht <;> first | exact .inl rfl | exact .inr rfl
      cases hone L (hs.at _ L.drawn) hag with
      | bad o v1 h => rw [hst] at h; exact runN_ended h hr
      | panic fr1 c up v1 h h1 h2 h3 =>
        rw [hst] at h
        obtain ⟨c', hc⟩ := panic_dead up fr1 c h1 h2 h3 n v1 v' fr [trap P] (runN_go h hr)
        rcases hmode with hm | hm <;> (rw [hm] at hc; cases hc)
      | go x' b' w' v1 es hw hv hb hxx hfn ha hes =>
        obtain ⟨e1, e2, e3⟩ := hnx x' b' w' es hw hb hxx (hfn.trans x.bfn) ⟨Nat.le_trans x.kept.grow ha.grow, fun j hj => (ha.keep j hj).trans (x.kept.keep j hj), x.kept.same.trans ha.same, ha.wt.trans x.kept.tape, fun i o h ho => x.kept.far i o (ha.far i o h ho) ho⟩ ha.grow ha.same hes
        rw [hnext] at e1 e2 e3
        rw [hst] at hv
        obtain ⟨f2, cs2, hst2⟩ : ∃ f2 cs2, stack (outs ids) [trap P] x' b' = G f2 cs2 := by
          cases x' with
          | none => exact ⟨_, _, rfl⟩
          | some p => exact ⟨_, _, rfl⟩
        rw [hst2] at hv
        refine ih (i + 1) v1 f2 cs2 ?_ (runN_go hv hr) ?_ ?_ ?_
        · rw [e1, e2]; exact hst2
        · rw [e3]; exact ha.sim
        · rw [ha.vt, hta]
        · rw [ha.vd, hd, hpos]

theorem exit_mem {id : Nat} {ids : List Nat} (h : id ∈ ids) : ∃ t, exitTo id (outs ids) = some t := by
  show ∃ t, exitTo id (ids.flatMap fun id => [Item.inBlock id, .code (.refuse "")]) = some t
  induction ids with
  | nil => cases h
  | cons i ids ih =>
    simp only [List.flatMap_cons, List.cons_append, List.nil_append, exitTo]
    by_cases hi : (i == id) = true
    · rw [if_pos hi]; exact ⟨_, rfl⟩
    · rw [if_neg hi]
      refine ih ?_
      simp only [List.mem_cons] at h
      rcases h with rfl | h
      · simp at hi
      · exact h

def AfterE (P : Program) (Post : Value → World → Prop) (Shun : Loc → Prop) (b : Frame) (k : List Item) (z : List Frame) : Exit → Act → World → Prop
  | .normal, a, w => EA P Post Shun (G (b.at a k) z) w
  | .exit id, a, w => ∃ k', exitTo id k = some k' ∧ EA P Post Shun (G (b.at a k') z) w
  | .ret, a, w => ∀ todo, EA P Post Shun (G { b.at a todo with mode := .returning } z) w
  | _, _, _ => False

theorem carry_code (hS : OkS P S) {c : Code} (hc : OkC P S c) {b : Frame} (hbf : ∃ f, P.funcs[b.fn]? = some f) (hbk : b.kind = .normal) {Shun : Loc → Prop} (hS1 : ∀ a, Shun (.cell a) → Bs a.block) (hS2 : ∀ r, Shun (.obj r) → Bs r)
    {w : World} (hcell : ∀ i, Bs i → ∃ c e fz, w.heap[i]? = some (.cells c e fz)) {a : Act} (had : a.defers = []) (ids : List Nat) {Q : Exit → Act → World → Prop}
    (hQ : ∀ e a v, Q e a v → e = .normal ∨ e = .ret ∨ ∃ id, id ∈ ids ∧ e = .exit id) (H : ∀ v, Sim Bs w v → c.wp P Q a v) {Post : Value → World → Prop}
    (hnext : ∀ e a' w', Kept Bs w w' → (∃ v', Sim Bs w' v' ∧ Q e a' v') → AfterE P Post Shun b k z e a' w') : EA P Post Shun (G (b.at a (.code c :: k)) z) w := by
  have hstart : G (b.at a (.code c :: k)) z = stack k z none (b.at a [.code c]) := rfl
  rw [hstart]
  refine FiniB.ea (Bs := Bs) (Stop := fun fr w' => ∃ e a' v', Left b e a' fr ∧ Kept Bs w w' ∧ Sim Bs w' v' ∧ Q e a' v') hS1 hS2 ?_ ?_
  · rintro fr w' hend ⟨e, a', v', hl, hk, hs, hq⟩
    have hn := hnext e a' w' hk ⟨v', hs, hq⟩
    cases hl with
    | normal he => subst he; exact hn
    | exit id t he ht =>
      subst he
      obtain ⟨k', hk', hea⟩ := hn
      refine EA.goes (n := 1) (Goes.step rfl fun w₁ r => ?_)
      show (stepG P true (G (b.at a' (.code (.exit id) :: (t ++ k))) z) w₁).goes _
      rw [stepG_exit (exitTo_none ht |>.trans hk'), goes_go]
      exact ⟨(termsS Shun).idle _, EA.stop (hea.rel r)⟩
    | ret todo he => subst he; exact hn _
  · refine Classical.byContradiction fun hno => ?_
    have hok : OkFr P S (b.at a [.code c]) := ⟨had, hbk, rfl, hbf, .inl rfl, fun _ it hit => by
      obtain rfl : it = .code c := by simpa [Frame.at] using hit
      exact hc⟩
    let x0 : LostB P S Bs k z (fun fr w' => ∃ e a' v', Left b e a' fr ∧ Kept Bs w w' ∧ Sim Bs w' v' ∧ Q e a' v') w b.fn := ⟨none, b.at a [.code c], w, hok, trivial, rfl, Kept.refl w, hno⟩
    have hs0 := sim_blank hcell (tapeB hS (outs ids) (goto_outs ids) x0) 0
    obtain ⟨e, a', v', hq, harr⟩ := H _ hs0 b (outs ids) [trap P]
    have fin : ∀ fr, Tgt b (outs ids) e a' fr → Steps P (lone (b.at a (.code c :: outs ids)) [trap P] (blank Bs w (tapeB hS (outs ids) (goto_outs ids) x0) 0)) (lone fr [trap P] v') → False := fun fr ht ⟨n, hn⟩ =>
      lone_lostB hS ids x0 ht (fun fr w' hl hk hs => ⟨e, a', v', hl, hk, hs, hq⟩) n 0 _ _ _ rfl hn hs0 rfl rfl
    rcases hQ e a' v' hq with rfl | rfl | ⟨id, hid, rfl⟩
    · exact fin _ (.normal rfl) harr
    · obtain ⟨todo, harr⟩ := harr
      exact fin _ (.ret todo rfl) harr
    · obtain ⟨t, ht⟩ := exit_mem hid
      exact fin _ (.exit id t rfl ht) (harr t ht)

end
end Go.Pair

/- Goroutine 0's code beside leavers: the walk through code of which some calls may start goroutines. -/
namespace Go.Pair
open Go Go.Conc

def wpE (P : Program) (Post : Value → World → Prop) (fn : FuncId) (c : Code) (Q : Exit → Act → World → (Loc → Prop) → Prop) (a : Act) (w : World) (Shun : Loc → Prop) : Prop :=
  ∀ (b : Frame) (k : List Item) (z : List Frame), b.fn = fn → b.kind = .normal → (∀ e a' w' Sh, Q e a' w' Sh → AfterE P Post Sh b k z e a' w') → EA P Post Shun (G (b.at a (.code c :: k)) z) w

def opsE (P : Program) (Post : Value → World → Prop) (fn : FuncId) (ops : Array Oper) (l : List Nat) (Q : Exit → Act → World → (Loc → Prop) → Prop) (a : Act) (w : World) (Shun : Loc → Prop) : Prop :=
  ∀ (b : Frame) (k : List Item) (z : List Frame), b.fn = fn → b.kind = .normal → (∀ e a' w' Sh, Q e a' w' Sh → AfterE P Post Sh b k z e a' w') → EA P Post Shun (G (b.at a (.inRegion ops l :: k)) z) w

section
variable {P : Program} {Post : Value → World → Prop} {fn : FuncId} {Q : Exit → Act → World → (Loc → Prop) → Prop} {a : Act} {w : World} {Shun : Loc → Prop}

theorem EA.ctl {g g' : Goroutine} (hr : g.status = .running) (h : ∀ w, stepG P true g w = .go g' w) (hE : EA P Post Shun g' w) : EA P Post Shun g w :=
  EA.goes (n := 1) (Goes.step hr fun w₁ r => by rw [h, goes_go]; exact ⟨(termsS Shun).idle _, EA.stop (hE.rel r)⟩)

theorem AfterE.push {b : Frame} {x : Item} {k : List Item} {z : List Frame} {e : Exit} {a : Act} {w : World} (hx : x.plain = true) (he : e ≠ .normal) (h : AfterE P Post Shun b k z e a w) : AfterE P Post Shun b (x :: k) z e a w := by
  cases e with
  | normal => exact absurd rfl he
  | exit id => obtain ⟨k', hk, hg⟩ := h; exact ⟨k', by cases x <;> simp_all [exitTo, Item.plain], hg⟩
  | ret => exact h
  | goto l => exact h
  | panic ch => exact h
  | outgrown => exact h

theorem wpE_mono {c : Code} {Q' : Exit → Act → World → (Loc → Prop) → Prop} (h : wpE P Post fn c Q a w Shun) (hq : ∀ e a w S, Q e a w S → Q' e a w S) : wpE P Post fn c Q' a w Shun :=
  fun b k z hb hk hc => h b k z hb hk fun e a' w' S q => hc e a' w' S (hq _ _ _ _ q)

theorem wpE_skip (h : Q .normal a w Shun) : wpE P Post fn .skip Q a w Shun := fun b k z _ _ hc => EA.ctl rfl (fun _ => stepG_skip) (hc _ _ _ _ h)
theorem wpE_ret (h : Q .ret a w Shun) : wpE P Post fn .ret Q a w Shun := fun b k z _ _ hc => EA.ctl rfl (fun _ => stepG_ret') (hc _ _ _ _ h _)
def Then (next : Act → World → (Loc → Prop) → Prop) (Q : Exit → Act → World → (Loc → Prop) → Prop) : Exit → Act → World → (Loc → Prop) → Prop
  | .normal, a, w, S => next a w S
  | e, a, w, S => Q e a w S

theorem wpE_seq {x y : Code} (h : wpE P Post fn x (Then (wpE P Post fn y Q) Q) a w Shun) : wpE P Post fn (.seq x y) Q a w Shun := by
  intro b k z hb hk hc
  refine EA.ctl rfl (fun _ => stepG_seq) (h b (.code y :: k) z hb hk fun e a' w' S q => ?_)
  cases e with
  | normal => exact q b k z hb hk hc
  | exit id => exact (hc _ _ _ _ q).push rfl (by simp)
  | ret => exact (hc _ _ _ _ q).push (x := .code y) rfl (by simp)
  | goto l => exact hc _ _ _ _ q
  | panic ch => exact hc _ _ _ _ q
  | outgrown => exact hc _ _ _ _ q

theorem wpE_cond {c : Operand} {x y : Code} {t : Bool} (hc : a.eval c = .bool t) (h : wpE P Post fn (if t then x else y) Q a w Shun) : wpE P Post fn (.cond c x y) Q a w Shun :=
  fun b k z hb hk hq => EA.ctl rfl (fun _ => stepG_cond hc) (h b k z hb hk hq)

def Unblock (id : Nat) (Q : Exit → Act → World → (Loc → Prop) → Prop) : Exit → Act → World → (Loc → Prop) → Prop
  | .exit i, a, w, S => if i = id then Q .normal a w S else Q (.exit i) a w S
  | e, a, w, S => Q e a w S

theorem wpE_block {id : Nat} {c : Code} (h : wpE P Post fn c (Unblock id Q) a w Shun) : wpE P Post fn (.block id c) Q a w Shun := by
  intro b k z hb hk hc
  refine EA.ctl rfl (fun _ => stepG_block) (h b (.inBlock id :: k) z hb hk fun e a' w' S q => ?_)
  cases e with
  | normal => exact EA.ctl rfl (fun _ => stepG_inBlock) (hc _ _ _ _ q)
  | exit i =>
    simp only [Unblock] at q
    by_cases hi : i = id
    · rw [if_pos hi] at q
      exact ⟨k, by simp [exitTo, hi], hc _ _ _ _ q⟩
    · rw [if_neg hi] at q
      obtain ⟨k', hk', he⟩ := hc _ _ _ _ q
      exact ⟨k', by simp [exitTo, Ne.symm hi, hk'], he⟩
  | ret => exact hc _ _ _ _ q
  | goto l => exact hc _ _ _ _ q
  | panic ch => exact hc _ _ _ _ q
  | outgrown => exact hc _ _ _ _ q

theorem wpE_loop {c : Code} {I : Nat → Act → World → (Loc → Prop) → Prop} (hr : ∀ n a w S, I n a w S → wpE P Post fn c (Then (fun a w S => ∃ m, m < n ∧ I m a w S) Q) a w S) {n : Nat} (h : I n a w Shun) : wpE P Post fn (.loop c) Q a w Shun := by
  intro b k z hb hk hc
  refine EA.ctl rfl (fun _ => stepG_loop) ?_
  induction n using Nat.strongRecOn generalizing a w Shun with
  | _ n ih =>
    refine hr n a w Shun h b (.inLoop c :: k) z hb hk fun e a' w' S q => ?_
    cases e with
    | normal =>
      obtain ⟨m, hm, hI⟩ := q
      exact EA.ctl rfl (fun _ => stepG_inLoop) (ih m hm hI)
    | exit id => exact (hc _ _ _ _ q).push rfl (by simp)
    | ret => exact (hc _ _ _ _ q).push (x := .inLoop c) rfl (by simp)
    | goto l => exact hc _ _ _ _ q
    | panic ch => exact hc _ _ _ _ q
    | outgrown => exact hc _ _ _ _ q

/-! ### regions -/
theorem wpE_region {id : Nat} {ops : Array Oper} (h : opsE P Post fn ops (List.range ops.size) Q a w Shun) : wpE P Post fn (.region id ops false) Q a w Shun :=
  fun b k z hb hk hc => EA.ctl rfl (fun _ => stepG_region) (h b k z hb hk hc)

theorem opsE_nil {ops : Array Oper} (h : Q .normal a w Shun) : opsE P Post fn ops [] Q a w Shun :=
  fun b k z hb hk hc => EA.ctl rfl (fun _ => stepG_region_end) (hc _ _ _ _ h)

theorem opsE_call {ops : Array Oper} {i : Nat} {l : List Nat} {o : Oper} {f : FuncId} {args : Array Operand} {ats : Array TypeId} {PostF : Value → World → (Loc → Prop) → Prop} (ho : ops[i]? = some o) (hw : Region.wanted o (yielded ops a.tmps) = true)
    (hop : o.op = .call { callee := .value (.func f), args, argTypes := ats }) (hcall : CallsE P Post f (args.map a.eval) Shun w PostF) (hnext : ∀ v w' S, PostF v w' S → opsE P Post fn ops l Q (a.put o.dst v) w' S) : opsE P Post fn ops (i :: l) Q a w Shun :=
  fun b k z hb hk hc => EA.goes (goes_callE ho hw (by rw [hk]; decide) hop hcall fun v w' S q => hnext v w' S q b k z hb hk hc)

/-! ### lone code -/
variable {S : FuncId → Prop} {Bs : Nat → Prop}
theorem wpE_lone (hS : OkS P S) {c : Code} (hc : OkC P S c) (hbf : ∃ f, P.funcs[fn]? = some f) (hS1 : ∀ a, Shun (.cell a) → Bs a.block) (hS2 : ∀ r, Shun (.obj r) → Bs r)
    (hcell : ∀ i, Bs i → ∃ c e fz, w.heap[i]? = some (.cells c e fz)) (had : a.defers = []) (ids : List Nat) {Ql : Exit → Act → World → Prop}
    (hQ : ∀ e a v, Ql e a v → e = .normal ∨ e = .ret ∨ ∃ id, id ∈ ids ∧ e = .exit id) (H : ∀ v, Sim Bs w v → c.wp P Ql a v)
    (hq : ∀ e a' w' v', Kept Bs w w' → Sim Bs w' v' → Ql e a' v' → Q e a' w' Shun) : wpE P Post fn c Q a w Shun := by
  intro b k z hb hk hn
  refine carry_code hS hc (by rw [hb]; exact hbf) hk hS1 hS2 hcell had ids hQ H fun e a' w' hK ⟨v', hs, q⟩ => hn e a' w' Shun (hq e a' w' v' hK hs q)

theorem opsE_op {ops : Array Oper} {i : Nat} {l : List Nat} {o : Oper} (ho : ops[i]? = some o) (hw : Region.wanted o (yielded ops a.tmps) = true) (hT : OkO P S o) (hS1 : ∀ a, Shun (.cell a) → Bs a.block) (hS2 : ∀ r, Shun (.obj r) → Bs r)
    (hcell : ∀ i, Bs i → ∃ c e fz, w.heap[i]? = some (.cells c e fz)) {R : Value → World → Prop}
    (H : ∀ v, Sim Bs w v → ∃ x v', ((execOp a.eval o).run P v = .ok (.value x) v' ∨ ((execOp a.eval o).run P v = .ok .skip v' ∧ x = undef)) ∧ R x v')
    (hnext : ∀ x w' v', Kept Bs w w' → Sim Bs w' v' → R x v' → opsE P Post fn ops l Q (a.put o.dst x) w' Shun) : opsE P Post fn ops (i :: l) Q a w Shun := by
  intro b k z hb hk hc
  refine EA.goes (n := 1) (Goes.step rfl fun w₁ r => ?_)
  obtain ⟨d, rfl⟩ := r
  have hfin : ∀ v, (b.at a (.inRegion ops (i :: l) :: k)).finish v = b.at (a.put o.dst v) (.inRegion ops l :: k) := fun v => by rw [Frame.finish_at, ho]; rfl
  have hT' : Tame P (OkN S) (execOp a.eval o) (fun _ => False) := by
    have := hT (b.at a [])
    rwa [Frame.eval_at'] at this
  have hs : Sim Bs (w.at d) (blank Bs w w.tape d) := (sim_blank hcell w.tape d).at d d
  have hke : ((b.at a (.inRegion ops (i :: l) :: k)).kind == CallKind.early) = false := by show (b.kind == CallKind.early) = false; rw [hk]; rfl
  have hst : stepG P true (G (b.at a (.inRegion ops (i :: l) :: k)) z) (w.at d) = stepG.apply P true (b.at a (.inRegion ops (i :: l) :: k)) z none (execOp a.eval o) (w.at d) := by
    rw [stepG_exec rfl]
    have hw' : Region.wanted o (yielded ops (b.at a (.inRegion ops (i :: l) :: k)).tmps) = true := hw
    have ht : (b.at a (.inRegion ops (i :: l) :: k)).todo = .inRegion ops (i :: l) :: k := rfl
    have hr : (b.at a (.inRegion ops (i :: l) :: k)).roundOf = none := rfl
    have he : (b.at a (.inRegion ops (i :: l) :: k)).eval = a.eval := Frame.eval_at' _ _ _
    simp [stepG.exec, ht, ho, hw', stepG.oper, Frame.oper?, hr, he]
  obtain ⟨x, v', hrun, hR⟩ := H _ (sim_blank hcell w.tape d)
  cases tame_sim (execOp a.eval o) (fun _ => False) (w.at d) (blank Bs w w.tape d) #[] hT' (fun _ h => h.elim) hs (fun j _ => rfl) with
  | bad h v1 hr hbad => rcases hrun with h1 | ⟨h1, _⟩ <;> (rw [h1] at hr; cases hr)
  | panic y w1 v1 es hw1 hv1 ha hes => rcases hrun with h1 | ⟨h1, _⟩ <;> (rw [h1] at hv1; cases hv1)
  | ok y w1 v1 es hw1 hv1 hq ha hes =>
    have hkept : Kept Bs w w1 := ⟨ha.grow, ha.keep, ha.same, ha.wt, ha.far⟩
    have hev : ∀ e ∈ seen P (b.at a (.inRegion ops (i :: l) :: k)).fn (#[] ++ es), EvL Shun w1.heap.size e := fun e he => evL_of_evG hS1 hS2 (seen_evG (by simpa using hes) e he)
    rcases hrun with h1 | ⟨h1, rfl⟩
    · rw [h1] at hv1
      injection hv1 with e1 e2
      subst e1 e2
      rw [hst]
      simp only [stepG.apply, hw1, if_true, hke, hfin]
      refine ⟨⟨ha.grow, by simpa using hev, ha.same⟩, EA.stop (hnext x w1 v' hkept ha.sim hR b k z hb hk hc)⟩
    · rw [h1] at hv1
      injection hv1 with e1 e2
      subst e1 e2
      rw [hst]
      simp only [stepG.apply, hw1, if_true, hke, hfin]
      refine ⟨⟨ha.grow, by simpa using hev, ha.same⟩, EA.stop (hnext undef w1 v' hkept ha.sim hR b k z hb hk hc)⟩

theorem callsE_of_wpE {f : FuncId} {fnc : Func} {c : Code} {args : Array Value} {PostF : Value → World → (Loc → Prop) → Prop} {t : Tmp} (hf : P.funcs[f]? = some fnc) (hname : (fnc.name == "runtime.NumGoroutine") = false) (hbody : fnc.body = some c) (hres : fnc.results = #[.tmp t])
    (h : wpE P Post f c (fun e a w' S => (e = .normal ∨ e = .ret) ∧ a.defers = [] ∧ PostF (a.tmps.getD t undef) w' S) { tmps := args ++ Array.replicate (fnc.ntmps - args.size) undef, defers := [] } w Shun) : CallsE P Post f args Shun w PostF := by
  refine ⟨fnc, c, hf, hname, hbody, fun fr cs hnext => ?_⟩
  have ret : ∀ (todo : List Item) (a : Act) (w' : World) (S : Loc → Prop), a.defers = [] → PostF (a.tmps.getD t undef) w' S → EA P Post S (G { (base f).at a todo with mode := .returning } (fr :: cs)) w' := fun todo a w' S had hp => by
    refine EA.ctl rfl (fun w1 => ?_) (hnext _ _ _ hp)
    rw [stepG_unwind (by simp)]
    have hr := results_tmp hres a.tmps P w1
    have hev : (results fnc a.tmps).runT P w1 #[] = (.ok (a.tmps.getD t undef) w1, #[]) := by
      unfold results
      simp [hres, Sem.runT, pure]
    simp only [unwind, Frame.at, had, base, hf, hev, doReturn]
    simp [GStep.after, G, seen_none]
  refine h (base f) [] (fr :: cs) rfl rfl fun e a' w' S ⟨he, had, hp⟩ => ?_
  rcases he with rfl | rfl
  · exact EA.ctl rfl (fun w1 => stepG_end) (ret [] a' w' S had hp)
  · exact fun todo => ret todo a' w' S had hp

end
end Go.Pair
