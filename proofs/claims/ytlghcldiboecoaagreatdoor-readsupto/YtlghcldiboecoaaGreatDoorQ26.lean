/- A piece of lone code beside leavers, 4: the lone machine goes along; the theorem. -/
import Derived.Test.YtlghcldiboecoaaGreatDoorQ25
set_option linter.unusedVariables false
set_option linter.unusedSimpArgs false
namespace Go.Pair
open Go Go.Conc

section
variable {P : Program} {S : FuncId → Prop} {Bs : Nat → Prop} {k : List Item} {z : List Frame} {Stop : Frame → World → Prop} {w0 : World} {f0 : FuncId}

section
variable (hS : OkS P S) (kl : List Item) (hg : ∀ l, gotoIn l kl = none) (x0 : LostB P S Bs k z Stop w0 f0)
noncomputable def nextB (x : LostB P S Bs k z Stop w0 f0) : LostB P S Bs k z Stop w0 f0 := (advB hS kl hg x).choose_spec.choose_spec.choose
noncomputable def drawB (x : LostB P S Bs k z Stop w0 f0) : Nat := (advB hS kl hg x).choose
noncomputable def useB (x : LostB P S Bs k z Stop w0 f0) : Nat := (advB hS kl hg x).choose_spec.choose
theorem advB_of (x : LostB P S Bs k z Stop w0 f0) : AdvB kl x (drawB hS kl hg x) (useB hS kl hg x) (nextB hS kl hg x) := (advB hS kl hg x).choose_spec.choose_spec.choose_spec
noncomputable def seqB : Nat → LostB P S Bs k z Stop w0 f0
  | 0 => x0
  | n + 1 => nextB hS kl hg (seqB n)

noncomputable def posB : Nat → Nat
  | 0 => 0
  | n + 1 => posB n + useB hS kl hg (seqB hS kl hg x0 n)

open Classical in
noncomputable def tapeB (n : Nat) (q : Question) : Nat :=
  if h : ∃ ij : Nat × Nat, n = posB hS kl hg x0 ij.1 + ij.2 ∧ ij.2 < useB hS kl hg (seqB hS kl hg x0 ij.1) then w0.tape (drawB hS kl hg (seqB hS kl hg x0 h.choose.1) + h.choose.2) q else 0

theorem posB_mono {i j : Nat} (h : i ≤ j) : posB hS kl hg x0 i ≤ posB hS kl hg x0 j := by
  induction j with
  | zero => obtain rfl : i = 0 := by omega
            exact Nat.le_refl _
  | succ j ih =>
    rcases Nat.lt_or_ge i (j + 1) with hlt | hge
    · exact Nat.le_trans (ih (by omega)) (Nat.le_add_right _ _)
    · obtain rfl : i = j + 1 := by omega
      exact Nat.le_refl _

theorem tapeB_at {i j : Nat} (hj : j < useB hS kl hg (seqB hS kl hg x0 i)) : tapeB hS kl hg x0 (posB hS kl hg x0 i + j) = w0.tape (drawB hS kl hg (seqB hS kl hg x0 i) + j) := by
  funext q
  unfold tapeB
  have hex : ∃ ij : Nat × Nat, posB hS kl hg x0 i + j = posB hS kl hg x0 ij.1 + ij.2 ∧ ij.2 < useB hS kl hg (seqB hS kl hg x0 ij.1) := ⟨(i, j), rfl, hj⟩
  rw [dif_pos hex]
  have key := hex.choose_spec
  generalize hex.choose = ij at key
  obtain ⟨i', j'⟩ := ij
  obtain ⟨h1, h2⟩ := key
  simp only at h1 h2 ⊢
  have : i = i' := by
    rcases Nat.lt_trichotomy i i' with h | h | h
    · have := posB_mono hS kl hg x0 (show i + 1 ≤ i' from h)
      simp only [posB] at this
      omega
    · exact h
    · have := posB_mono hS kl hg x0 (show i' + 1 ≤ i from h)
      simp only [posB] at this
      omega
  subst this
  obtain rfl : j = j' := by omega
  rfl

end

/-- The lone frame in which the piece is left. -/
inductive Tgt (b0 : Frame) (kl : List Item) (e : Exit) (a : Act) : Frame → Prop
  | normal (he : e = .normal) : Tgt b0 kl e a (b0.at a kl)
  | exit (id : Nat) (t : List Item) (he : e = .exit id) (ht : exitTo id kl = some t) : Tgt b0 kl e a (b0.at a t)
  | ret (todo : List Item) (he : e = .ret) : Tgt b0 kl e a { b0.at a todo with mode := .returning }

/-- The frame of goroutine 0 in which the piece is left. -/
inductive Left (b0 : Frame) (e : Exit) (a : Act) : Frame → Prop
  | normal (he : e = .normal) : Left b0 e a (b0.at a [])
  | exit (id : Nat) (t : List Item) (he : e = .exit id) (ht : exitTo id t = none) : Left b0 e a (b0.at a (.code (.exit id) :: t))
  | ret (todo : List Item) (he : e = .ret) : Left b0 e a { b0.at a todo with mode := .returning }

theorem at_app (b0 : Frame) (a : Act) (t k : List Item) : app (b0.at a t) k = b0.at a (t ++ k) := rfl
theorem app_eq {b b0 : Frame} {a : Act} {k t : List Item} (h : app b k = b0.at a (t ++ k)) : b = b0.at a t := app_inj (h.trans (at_app b0 a t k).symm)

theorem lone_lostB (hS : OkS P S) (ids : List Nat) (x0 : LostB P S Bs k z Stop w0 f0) {b0 : Frame} {e : Exit} {a : Act} {fr : Frame} {v' : World} (ht : Tgt b0 (outs ids) e a fr)
    (hStop : ∀ fr w, Left b0 e a fr → Kept Bs w0 w → Sim Bs w v' → Stop fr w) :
    ∀ (n i : Nat) (L : World) (f : Frame) (cs : List Frame), stack (outs ids) [trap P] (seqB hS (outs ids) (goto_outs ids) x0 i).x (seqB hS (outs ids) (goto_outs ids) x0 i).b = G f cs → runN P n (lone f cs L) = .next (lone fr [trap P] v') → Sim Bs (seqB hS (outs ids) (goto_outs ids) x0 i).w L → L.tape = tapeB hS (outs ids) (goto_outs ids) x0 → L.drawn = posB hS (outs ids) (goto_outs ids) x0 i → False := by
  intro n
  induction n with
  | zero =>
    intro i L f cs hst hr hs hta hd
    simp only [runN, Stepped.next.injEq] at hr
    obtain ⟨rfl, rfl, rfl⟩ := lone_inj hr
    generalize hx : seqB hS (outs ids) (goto_outs ids) x0 i = x at *
    have hnone : x.x = none := by
      cases hxx : x.x with
      | none => rfl
      | some p =>
        rw [hxx] at hst
        have := congrArg List.length (G_inj (show G p.1 (p.2 ++ app x.b (outs ids) :: [trap P]) = G f [trap P] from hst)).2
        simp at this
    rw [hnone] at hst
    have hf : app x.b (outs ids) = f := (G_inj (show G (app x.b (outs ids)) [trap P] = G f [trap P] from hst)).1
    have stop : ∀ {fr : Frame}, x.b = fr → Left b0 e a fr → AtEnd fr → False := fun hfr hl he => x.not (by rw [hnone]; exact .stop (hfr ▸ he) (hStop _ _ (hfr ▸ hl) x.kept hs))
    cases ht with
    | normal he => exact stop (app_eq (t := []) hf) (.normal he) (.inr (.inl rfl))
    | exit id t he ht =>
      have h1 := (exit_outs ht).2.1
      have h2 := congrArg (fun f => f.todo.length) hf
      simp [app, Frame.at] at h2
      omega
    | ret todo he =>
      have hb : x.b = { b0.at a x.b.todo with mode := .returning } := by
        have := congrArg (fun f : Frame => { f with todo := x.b.todo }) hf
        exact this
      exact stop hb (.ret _ he) (.inl rfl)
  | succ n ih =>
    intro i L f cs hst hr hs hta hd
    have ad := advB_of hS (outs ids) (goto_outs ids) (seqB hS (outs ids) (goto_outs ids) x0 i)
    have hnext : nextB hS (outs ids) (goto_outs ids) (seqB hS (outs ids) (goto_outs ids) x0 i) = seqB hS (outs ids) (goto_outs ids) x0 (i + 1) := rfl
    have hpos : posB hS (outs ids) (goto_outs ids) x0 (i + 1) = posB hS (outs ids) (goto_outs ids) x0 i + useB hS (outs ids) (goto_outs ids) (seqB hS (outs ids) (goto_outs ids) x0 i) := rfl
    have htape := fun j => tapeB_at hS (outs ids) (goto_outs ids) x0 (i := i) (j := j)
    generalize hx : seqB hS (outs ids) (goto_outs ids) x0 i = x at *
    by_cases hfin : x.x = none ∧ AtEnd x.b
    · obtain ⟨hnone, hend⟩ := hfin
      rw [hnone] at hst
      obtain ⟨rfl, rfl⟩ := G_inj (show G (app x.b (outs ids)) [trap P] = G f cs from hst)
      rcases hend with hm | htd | ⟨id, t, htd, hex⟩
      · exact return_dead (S := S) (fr := app x.b (outs ids)) ⟨x.okb.defers, x.okb.kind, x.okb.round, x.okb.fn, .inr hm, fun h => by rw [show (app x.b (outs ids)).mode = x.b.mode from rfl, hm] at h; cases h⟩ hm n L v' fr hr
      · by_cases hm : x.b.mode = .run
        · exact refused_dead (fr := app x.b (outs ids)) hm ⟨"", _, by simp [app, htd, outs]; rfl⟩ hr
        · have hm := x.okb.mode.resolve_left hm
          exact return_dead (S := S) (fr := app x.b (outs ids)) ⟨x.okb.defers, x.okb.kind, x.okb.round, x.okb.fn, .inr hm, fun h => by rw [show (app x.b (outs ids)).mode = x.b.mode from rfl, hm] at h; cases h⟩ hm n L v' fr hr
      · by_cases hm : x.b.mode = .run
        · have hta' : (app x.b (outs ids)).todo = .code (.exit id) :: (t ++ outs ids) := by simp [app, htd]
          have hma : (app x.b (outs ids)).mode = .run := hm
          cases he : exitTo id (outs ids) with
          | none =>
            have h1 : ∃ o, (stepG P true (G (app x.b (outs ids)) [trap P]) L).bare = .ended o L := by
              rw [stepG_exec hma]
              simp only [stepG.exec, hta', exitTo_none hex, he, Option.elim, show (app x.b (outs ids)).roundOf = none from x.okb.round]
              exact ⟨_, rfl⟩
            obtain ⟨o, h1⟩ := h1
            exact runN_ended h1 hr
          | some t' =>
            have h1 : (stepG P true (G (app x.b (outs ids)) [trap P]) L).bare = .go (G { app x.b (outs ids) with todo := t' } [trap P]) L := by
              rw [stepG_exec hma]
              simp only [stepG.exec, hta', exitTo_none hex, he, Option.elim]
              rfl
            have h2 := runN_go h1 hr
            cases n with
            | zero =>
              simp only [runN, Stepped.next.injEq] at h2
              obtain ⟨e1, _, e3⟩ := lone_inj h2
              subst e3
              obtain ⟨_, hlen, huniq⟩ := exit_outs he
              cases ht with
              | normal hee =>
                have := congrArg (fun f => f.todo.length) e1
                simp [Frame.at] at this
                omega
              | exit id' t2 hee ht2 =>
                have htt : t' = t2 := congrArg (fun f => f.todo) e1
                subst htt
                obtain rfl := huniq id' ht2
                have hb : x.b = b0.at a (.code (.exit id') :: t) := by
                  have := congrArg (fun f : Frame => { f with todo := x.b.todo }) e1
                  simp only [app, Frame.at] at this ⊢
                  rw [← htd]
                  exact this
                exact x.not (by rw [hnone]; exact .stop (.inr (.inr ⟨id', t, htd, hex⟩)) (hStop _ _ (hb ▸ .exit id' t hee hex) x.kept hs))
              | ret todo hee =>
                have := congrArg (fun f => f.mode) e1
                simp [app, hm] at this
            | succ n => exact refused_dead (fr := { app x.b (outs ids) with todo := t' }) hma (exit_outs he).1 h2
        · have hm := x.okb.mode.resolve_left hm
          exact return_dead (S := S) (fr := app x.b (outs ids)) ⟨x.okb.defers, x.okb.kind, x.okb.round, x.okb.fn, .inr hm, fun h => by rw [show (app x.b (outs ids)).mode = x.b.mode from rfl, hm] at h; cases h⟩ hm n L v' fr hr
    · obtain ⟨hone, hnx⟩ := ad.mid hfin
      have hag : Agree (x.w.at (drawB hS (outs ids) (goto_outs ids) x)) L (useB hS (outs ids) (goto_outs ids) x) := fun j hj => by
        rw [hta, hd, htape j hj]
        show w0.tape _ = x.w.tape _
        rw [x.kept.tape]; rfl
      have hmode : fr.mode = .run ∨ fr.mode = .returning := by cases ht <;> first | exact .inl rfl | exact .inr rfl
      cases hone L (hs.at _ L.drawn) hag with
      | bad o v1 h => rw [hst] at h; exact runN_ended h hr
      | panic fr1 c up v1 h h1 h2 h3 =>
        rw [hst] at h
        obtain ⟨c', hc⟩ := panic_dead up fr1 c h1 h2 h3 n v1 v' fr [trap P] (runN_go h hr)
        rcases hmode with hm | hm <;> (rw [hm] at hc; cases hc)
      | go x' b' w' v1 es hw hv hb hxx hfn ha hes =>
        obtain ⟨e1, e2, e3⟩ := hnx x' b' w' es hw hb hxx (hfn.trans x.bfn) ⟨Nat.le_trans x.kept.grow ha.grow, fun j hj => (ha.keep j hj).trans (x.kept.keep j hj), x.kept.same.trans ha.same, ha.wt.trans x.kept.tape, fun i o h ho => x.kept.far i o (ha.far i o h ho) ho⟩ ha.grow ha.same hes
        rw [hnext] at e1 e2 e3
        rw [hst] at hv
        obtain ⟨f2, cs2, hst2⟩ : ∃ f2 cs2, stack (outs ids) [trap P] x' b' = G f2 cs2 := by
          cases x' with
          | none => exact ⟨_, _, rfl⟩
          | some p => exact ⟨_, _, rfl⟩
        rw [hst2] at hv
        refine ih (i + 1) v1 f2 cs2 ?_ (runN_go hv hr) ?_ ?_ ?_
        · rw [e1, e2]; exact hst2
        · rw [e3]; exact ha.sim
        · rw [ha.vt, hta]
        · rw [ha.vd, hd, hpos]

theorem exit_mem {id : Nat} {ids : List Nat} (h : id ∈ ids) : ∃ t, exitTo id (outs ids) = some t := by
  show ∃ t, exitTo id (ids.flatMap fun id => [Item.inBlock id, .code (.refuse "")]) = some t
  induction ids with
  | nil => cases h
  | cons i ids ih =>
    simp only [List.flatMap_cons, List.cons_append, List.nil_append, exitTo]
    by_cases hi : (i == id) = true
    · rw [if_pos hi]; exact ⟨_, rfl⟩
    · rw [if_neg hi]
      refine ih ?_
      simp only [List.mem_cons] at h
      rcases h with rfl | h
      · simp at hi
      · exact h

/-- Where goroutine 0 goes on behind the piece. -/
def AfterE (P : Program) (Post : Value → World → Prop) (Shun : Loc → Prop) (b : Frame) (k : List Item) (z : List Frame) : Exit → Act → World → Prop
  | .normal, a, w => EA P Post Shun (G (b.at a k) z) w
  | .exit id, a, w => ∃ k', exitTo id k = some k' ∧ EA P Post Shun (G (b.at a k') z) w
  | .ret, a, w => ∀ todo, EA P Post Shun (G { b.at a todo with mode := .returning } z) w
  | _, _, _ => False

/-- A PIECE OF CODE OF THE LONE MACHINE'S, BESIDE LEAVERS. -/
theorem carry_code (hS : OkS P S) {c : Code} (hc : OkC P S c) {b : Frame} (hbf : ∃ f, P.funcs[b.fn]? = some f) (hbk : b.kind = .normal) {Shun : Loc → Prop} (hS1 : ∀ a, Shun (.cell a) → Bs a.block) (hS2 : ∀ r, Shun (.obj r) → Bs r)
    {w : World} (hcell : ∀ i, Bs i → ∃ c e fz, w.heap[i]? = some (.cells c e fz)) {a : Act} (had : a.defers = []) (ids : List Nat) {Q : Exit → Act → World → Prop}
    (hQ : ∀ e a v, Q e a v → e = .normal ∨ e = .ret ∨ ∃ id, id ∈ ids ∧ e = .exit id) (H : ∀ v, Sim Bs w v → c.wp P Q a v) {Post : Value → World → Prop}
    (hnext : ∀ e a' w', Kept Bs w w' → (∃ v', Sim Bs w' v' ∧ Q e a' v') → AfterE P Post Shun b k z e a' w') : EA P Post Shun (G (b.at a (.code c :: k)) z) w := by
  have hstart : G (b.at a (.code c :: k)) z = stack k z none (b.at a [.code c]) := rfl
  rw [hstart]
  refine FiniB.ea (Bs := Bs) (Stop := fun fr w' => ∃ e a' v', Left b e a' fr ∧ Kept Bs w w' ∧ Sim Bs w' v' ∧ Q e a' v') hS1 hS2 ?_ ?_
  · rintro fr w' hend ⟨e, a', v', hl, hk, hs, hq⟩
    have hn := hnext e a' w' hk ⟨v', hs, hq⟩
    cases hl with
    | normal he => subst he; exact hn
    | exit id t he ht =>
      subst he
      obtain ⟨k', hk', hea⟩ := hn
      refine EA.goes (n := 1) (Goes.step rfl fun w₁ r => ?_)
      show (stepG P true (G (b.at a' (.code (.exit id) :: (t ++ k))) z) w₁).goes _
      rw [stepG_exit (exitTo_none ht |>.trans hk'), goes_go]
      exact ⟨(termsS Shun).idle _, EA.stop (hea.rel r)⟩
    | ret todo he => subst he; exact hn _
  · refine Classical.byContradiction fun hno => ?_
    have hok : OkFr P S (b.at a [.code c]) := ⟨had, hbk, rfl, hbf, .inl rfl, fun _ it hit => by
      obtain rfl : it = .code c := by simpa [Frame.at] using hit
      exact hc⟩
    let x0 : LostB P S Bs k z (fun fr w' => ∃ e a' v', Left b e a' fr ∧ Kept Bs w w' ∧ Sim Bs w' v' ∧ Q e a' v') w b.fn := ⟨none, b.at a [.code c], w, hok, trivial, rfl, Kept.refl w, hno⟩
    have hs0 := sim_blank hcell (tapeB hS (outs ids) (goto_outs ids) x0) 0
    obtain ⟨e, a', v', hq, harr⟩ := H _ hs0 b (outs ids) [trap P]
    have fin : ∀ fr, Tgt b (outs ids) e a' fr → Steps P (lone (b.at a (.code c :: outs ids)) [trap P] (blank Bs w (tapeB hS (outs ids) (goto_outs ids) x0) 0)) (lone fr [trap P] v') → False := fun fr ht ⟨n, hn⟩ =>
      lone_lostB hS ids x0 ht (fun fr w' hl hk hs => ⟨e, a', v', hl, hk, hs, hq⟩) n 0 _ _ _ rfl hn hs0 rfl rfl
    rcases hQ e a' v' hq with rfl | rfl | ⟨id, hid, rfl⟩
    · exact fin _ (.normal rfl) harr
    · obtain ⟨todo, harr⟩ := harr
      exact fin _ (.ret todo rfl) harr
    · obtain ⟨t, ht⟩ := exit_mem hid
      exact fin _ (.exit id t rfl ht) (harr t ht)

end
end Go.Pair

/- Goroutine 0's code beside leavers: the walk through code of which some calls may start goroutines. -/
set_option linter.unusedVariables false
set_option linter.unusedSimpArgs false
namespace Go.Pair
open Go Go.Conc

/-- From here, whatever stands behind the piece and whoever called, goroutine 0 comes to its end if it does from every way out that satisfies Q. -/
def wpE (P : Program) (Post : Value → World → Prop) (fn : FuncId) (c : Code) (Q : Exit → Act → World → (Loc → Prop) → Prop) (a : Act) (w : World) (Shun : Loc → Prop) : Prop :=
  ∀ (b : Frame) (k : List Item) (z : List Frame), b.fn = fn → b.kind = .normal → (∀ e a' w' Sh, Q e a' w' Sh → AfterE P Post Sh b k z e a' w') → EA P Post Shun (G (b.at a (.code c :: k)) z) w

/-- The same of a region's operations that are still to come. -/
def opsE (P : Program) (Post : Value → World → Prop) (fn : FuncId) (ops : Array Oper) (l : List Nat) (Q : Exit → Act → World → (Loc → Prop) → Prop) (a : Act) (w : World) (Shun : Loc → Prop) : Prop :=
  ∀ (b : Frame) (k : List Item) (z : List Frame), b.fn = fn → b.kind = .normal → (∀ e a' w' Sh, Q e a' w' Sh → AfterE P Post Sh b k z e a' w') → EA P Post Shun (G (b.at a (.inRegion ops l :: k)) z) w

section
variable {P : Program} {Post : Value → World → Prop} {fn : FuncId} {Q : Exit → Act → World → (Loc → Prop) → Prop} {a : Act} {w : World} {Shun : Loc → Prop}

/-- A step of control. -/
theorem EA.ctl {g g' : Goroutine} (hr : g.status = .running) (h : ∀ w, stepG P true g w = .go g' w) (hE : EA P Post Shun g' w) : EA P Post Shun g w :=
  EA.goes (n := 1) (Goes.step hr fun w₁ r => by rw [h, goes_go]; exact ⟨(termsS Shun).idle _, EA.stop (hE.rel r)⟩)

theorem AfterE.push {b : Frame} {x : Item} {k : List Item} {z : List Frame} {e : Exit} {a : Act} {w : World} (hx : x.plain = true) (he : e ≠ .normal) (h : AfterE P Post Shun b k z e a w) : AfterE P Post Shun b (x :: k) z e a w := by
  cases e with
  | normal => exact absurd rfl he
  | exit id => obtain ⟨k', hk, hg⟩ := h; exact ⟨k', by cases x <;> simp_all [exitTo, Item.plain], hg⟩
  | ret => exact h
  | goto l => exact h
  | panic ch => exact h
  | outgrown => exact h

theorem wpE_mono {c : Code} {Q' : Exit → Act → World → (Loc → Prop) → Prop} (h : wpE P Post fn c Q a w Shun) (hq : ∀ e a w S, Q e a w S → Q' e a w S) : wpE P Post fn c Q' a w Shun :=
  fun b k z hb hk hc => h b k z hb hk fun e a' w' S q => hc e a' w' S (hq _ _ _ _ q)

theorem wpE_skip (h : Q .normal a w Shun) : wpE P Post fn .skip Q a w Shun := fun b k z _ _ hc => EA.ctl rfl (fun _ => stepG_skip) (hc _ _ _ _ h)
theorem wpE_ret (h : Q .ret a w Shun) : wpE P Post fn .ret Q a w Shun := fun b k z _ _ hc => EA.ctl rfl (fun _ => stepG_ret') (hc _ _ _ _ h _)
/-- Behind the first piece the second one, or out. -/
def Then (next : Act → World → (Loc → Prop) → Prop) (Q : Exit → Act → World → (Loc → Prop) → Prop) : Exit → Act → World → (Loc → Prop) → Prop
  | .normal, a, w, S => next a w S
  | e, a, w, S => Q e a w S

theorem wpE_seq {x y : Code} (h : wpE P Post fn x (Then (wpE P Post fn y Q) Q) a w Shun) : wpE P Post fn (.seq x y) Q a w Shun := by
  intro b k z hb hk hc
  refine EA.ctl rfl (fun _ => stepG_seq) (h b (.code y :: k) z hb hk fun e a' w' S q => ?_)
  cases e with
  | normal => exact q b k z hb hk hc
  | exit id => exact (hc _ _ _ _ q).push rfl (by simp)
  | ret => exact (hc _ _ _ _ q).push (x := .code y) rfl (by simp)
  | goto l => exact hc _ _ _ _ q
  | panic ch => exact hc _ _ _ _ q
  | outgrown => exact hc _ _ _ _ q

theorem wpE_cond {c : Operand} {x y : Code} {t : Bool} (hc : a.eval c = .bool t) (h : wpE P Post fn (if t then x else y) Q a w Shun) : wpE P Post fn (.cond c x y) Q a w Shun :=
  fun b k z hb hk hq => EA.ctl rfl (fun _ => stepG_cond hc) (h b k z hb hk hq)

/-- What leaves a block. -/
def Unblock (id : Nat) (Q : Exit → Act → World → (Loc → Prop) → Prop) : Exit → Act → World → (Loc → Prop) → Prop
  | .exit i, a, w, S => if i = id then Q .normal a w S else Q (.exit i) a w S
  | e, a, w, S => Q e a w S

theorem wpE_block {id : Nat} {c : Code} (h : wpE P Post fn c (Unblock id Q) a w Shun) : wpE P Post fn (.block id c) Q a w Shun := by
  intro b k z hb hk hc
  refine EA.ctl rfl (fun _ => stepG_block) (h b (.inBlock id :: k) z hb hk fun e a' w' S q => ?_)
  cases e with
  | normal => exact EA.ctl rfl (fun _ => stepG_inBlock) (hc _ _ _ _ q)
  | exit i =>
    simp only [Unblock] at q
    by_cases hi : i = id
    · rw [if_pos hi] at q
      exact ⟨k, by simp [exitTo, hi], hc _ _ _ _ q⟩
    · rw [if_neg hi] at q
      obtain ⟨k', hk', he⟩ := hc _ _ _ _ q
      exact ⟨k', by simp [exitTo, Ne.symm hi, hk'], he⟩
  | ret => exact hc _ _ _ _ q
  | goto l => exact hc _ _ _ _ q
  | panic ch => exact hc _ _ _ _ q
  | outgrown => exact hc _ _ _ _ q

/-- A loop: by a count that goes down. -/
theorem wpE_loop {c : Code} {I : Nat → Act → World → (Loc → Prop) → Prop} (hr : ∀ n a w S, I n a w S → wpE P Post fn c (Then (fun a w S => ∃ m, m < n ∧ I m a w S) Q) a w S) {n : Nat} (h : I n a w Shun) : wpE P Post fn (.loop c) Q a w Shun := by
  intro b k z hb hk hc
  refine EA.ctl rfl (fun _ => stepG_loop) ?_
  induction n using Nat.strongRecOn generalizing a w Shun with
  | _ n ih =>
    refine hr n a w Shun h b (.inLoop c :: k) z hb hk fun e a' w' S q => ?_
    cases e with
    | normal =>
      obtain ⟨m, hm, hI⟩ := q
      exact EA.ctl rfl (fun _ => stepG_inLoop) (ih m hm hI)
    | exit id => exact (hc _ _ _ _ q).push rfl (by simp)
    | ret => exact (hc _ _ _ _ q).push (x := .inLoop c) rfl (by simp)
    | goto l => exact hc _ _ _ _ q
    | panic ch => exact hc _ _ _ _ q
    | outgrown => exact hc _ _ _ _ q

/-! ### regions -/
theorem wpE_region {id : Nat} {ops : Array Oper} (h : opsE P Post fn ops (List.range ops.size) Q a w Shun) : wpE P Post fn (.region id ops false) Q a w Shun :=
  fun b k z hb hk hc => EA.ctl rfl (fun _ => stepG_region) (h b k z hb hk hc)

theorem opsE_nil {ops : Array Oper} (h : Q .normal a w Shun) : opsE P Post fn ops [] Q a w Shun :=
  fun b k z hb hk hc => EA.ctl rfl (fun _ => stepG_region_end) (hc _ _ _ _ h)

/-- A call that may start goroutines, or one carried over. -/
theorem opsE_call {ops : Array Oper} {i : Nat} {l : List Nat} {o : Oper} {f : FuncId} {args : Array Operand} {ats : Array TypeId} {PostF : Value → World → (Loc → Prop) → Prop} (ho : ops[i]? = some o) (hw : Region.wanted o (yielded ops a.tmps) = true)
    (hop : o.op = .call { callee := .value (.func f), args, argTypes := ats }) (hcall : CallsE P Post f (args.map a.eval) Shun w PostF) (hnext : ∀ v w' S, PostF v w' S → opsE P Post fn ops l Q (a.put o.dst v) w' S) : opsE P Post fn ops (i :: l) Q a w Shun :=
  fun b k z hb hk hc => EA.goes (goes_callE ho hw (by rw [hk]; decide) hop hcall fun v w' S q => hnext v w' S q b k z hb hk hc)

/-! ### lone code -/
variable {S : FuncId → Prop} {Bs : Nat → Prop}
/-- A piece of lone code. -/
theorem wpE_lone (hS : OkS P S) {c : Code} (hc : OkC P S c) (hbf : ∃ f, P.funcs[fn]? = some f) (hS1 : ∀ a, Shun (.cell a) → Bs a.block) (hS2 : ∀ r, Shun (.obj r) → Bs r)
    (hcell : ∀ i, Bs i → ∃ c e fz, w.heap[i]? = some (.cells c e fz)) (had : a.defers = []) (ids : List Nat) {Ql : Exit → Act → World → Prop}
    (hQ : ∀ e a v, Ql e a v → e = .normal ∨ e = .ret ∨ ∃ id, id ∈ ids ∧ e = .exit id) (H : ∀ v, Sim Bs w v → c.wp P Ql a v)
    (hq : ∀ e a' w' v', Kept Bs w w' → Sim Bs w' v' → Ql e a' v' → Q e a' w' Shun) : wpE P Post fn c Q a w Shun := by
  intro b k z hb hk hn
  refine carry_code hS hc (by rw [hb]; exact hbf) hk hS1 hS2 hcell had ids hQ H fun e a' w' hK ⟨v', hs, q⟩ => hn e a' w' Shun (hq e a' w' v' hK hs q)

/-- An operation of lone code. -/
theorem opsE_op {ops : Array Oper} {i : Nat} {l : List Nat} {o : Oper} (ho : ops[i]? = some o) (hw : Region.wanted o (yielded ops a.tmps) = true) (hT : OkO P S o) (hS1 : ∀ a, Shun (.cell a) → Bs a.block) (hS2 : ∀ r, Shun (.obj r) → Bs r)
    (hcell : ∀ i, Bs i → ∃ c e fz, w.heap[i]? = some (.cells c e fz)) {R : Value → World → Prop}
    (H : ∀ v, Sim Bs w v → ∃ x v', ((execOp a.eval o).run P v = .ok (.value x) v' ∨ ((execOp a.eval o).run P v = .ok .skip v' ∧ x = undef)) ∧ R x v')
    (hnext : ∀ x w' v', Kept Bs w w' → Sim Bs w' v' → R x v' → opsE P Post fn ops l Q (a.put o.dst x) w' Shun) : opsE P Post fn ops (i :: l) Q a w Shun := by
  intro b k z hb hk hc
  refine EA.goes (n := 1) (Goes.step rfl fun w₁ r => ?_)
  obtain ⟨d, rfl⟩ := r
  have hfin : ∀ v, (b.at a (.inRegion ops (i :: l) :: k)).finish v = b.at (a.put o.dst v) (.inRegion ops l :: k) := fun v => by rw [Frame.finish_at, ho]; rfl
  have hT' : Tame P (OkN S) (execOp a.eval o) (fun _ => False) := by
    have := hT (b.at a [])
    rwa [Frame.eval_at'] at this
  have hs : Sim Bs (w.at d) (blank Bs w w.tape d) := (sim_blank hcell w.tape d).at d d
  have hke : ((b.at a (.inRegion ops (i :: l) :: k)).kind == CallKind.early) = false := by show (b.kind == CallKind.early) = false; rw [hk]; rfl
  have hst : stepG P true (G (b.at a (.inRegion ops (i :: l) :: k)) z) (w.at d) = stepG.apply P true (b.at a (.inRegion ops (i :: l) :: k)) z none (execOp a.eval o) (w.at d) := by
    rw [stepG_exec rfl]
    have hw' : Region.wanted o (yielded ops (b.at a (.inRegion ops (i :: l) :: k)).tmps) = true := hw
    have ht : (b.at a (.inRegion ops (i :: l) :: k)).todo = .inRegion ops (i :: l) :: k := rfl
    have hr : (b.at a (.inRegion ops (i :: l) :: k)).roundOf = none := rfl
    have he : (b.at a (.inRegion ops (i :: l) :: k)).eval = a.eval := Frame.eval_at' _ _ _
    simp [stepG.exec, ht, ho, hw', stepG.oper, Frame.oper?, hr, he]
  obtain ⟨x, v', hrun, hR⟩ := H _ (sim_blank hcell w.tape d)
  cases tame_sim (execOp a.eval o) (fun _ => False) (w.at d) (blank Bs w w.tape d) #[] hT' (fun _ h => h.elim) hs (fun j _ => rfl) with
  | bad h v1 hr hbad => rcases hrun with h1 | ⟨h1, _⟩ <;> (rw [h1] at hr; cases hr)
  | panic y w1 v1 es hw1 hv1 ha hes => rcases hrun with h1 | ⟨h1, _⟩ <;> (rw [h1] at hv1; cases hv1)
  | ok y w1 v1 es hw1 hv1 hq ha hes =>
    have hkept : Kept Bs w w1 := ⟨ha.grow, ha.keep, ha.same, ha.wt, ha.far⟩
    have hev : ∀ e ∈ seen P (b.at a (.inRegion ops (i :: l) :: k)).fn (#[] ++ es), EvL Shun w1.heap.size e := fun e he => evL_of_evG hS1 hS2 (seen_evG (by simpa using hes) e he)
    rcases hrun with h1 | ⟨h1, rfl⟩
    · rw [h1] at hv1
      injection hv1 with e1 e2
      subst e1 e2
      rw [hst]
      simp only [stepG.apply, hw1, if_true, hke, hfin]
      refine ⟨⟨ha.grow, by simpa using hev, ha.same⟩, EA.stop (hnext x w1 v' hkept ha.sim hR b k z hb hk hc)⟩
    · rw [h1] at hv1
      injection hv1 with e1 e2
      subst e1 e2
      rw [hst]
      simp only [stepG.apply, hw1, if_true, hke, hfin]
      refine ⟨⟨ha.grow, by simpa using hev, ha.same⟩, EA.stop (hnext undef w1 v' hkept ha.sim hR b k z hb hk hc)⟩

/-- A function whose calls may start goroutines: from its code. -/
theorem callsE_of_wpE {f : FuncId} {fnc : Func} {c : Code} {args : Array Value} {PostF : Value → World → (Loc → Prop) → Prop} {t : Tmp} (hf : P.funcs[f]? = some fnc) (hname : (fnc.name == "runtime.NumGoroutine") = false) (hbody : fnc.body = some c) (hres : fnc.results = #[.tmp t])
    (h : wpE P Post f c (fun e a w' S => (e = .normal ∨ e = .ret) ∧ a.defers = [] ∧ PostF (a.tmps.getD t undef) w' S) { tmps := args ++ Array.replicate (fnc.ntmps - args.size) undef, defers := [] } w Shun) : CallsE P Post f args Shun w PostF := by
  refine ⟨fnc, c, hf, hname, hbody, fun fr cs hnext => ?_⟩
  have ret : ∀ (todo : List Item) (a : Act) (w' : World) (S : Loc → Prop), a.defers = [] → PostF (a.tmps.getD t undef) w' S → EA P Post S (G { (base f).at a todo with mode := .returning } (fr :: cs)) w' := fun todo a w' S had hp => by
    refine EA.ctl rfl (fun w1 => ?_) (hnext _ _ _ hp)
    rw [stepG_unwind (by simp)]
    have hr := results_tmp hres a.tmps P w1
    have hev : (results fnc a.tmps).runT P w1 #[] = (.ok (a.tmps.getD t undef) w1, #[]) := by
      unfold results
      simp [hres, Sem.runT, pure]
    simp only [unwind, Frame.at, had, base, hf, hev, doReturn]
    simp [GStep.after, G, seen_none]
  refine h (base f) [] (fr :: cs) rfl rfl fun e a' w' S ⟨he, had, hp⟩ => ?_
  rcases he with rfl | rfl
  · exact EA.ctl rfl (fun w1 => stepG_end) (ret [] a' w' S had hp)
  · exact fun todo => ret todo a' w' S had hp

end
end Go.Pair
