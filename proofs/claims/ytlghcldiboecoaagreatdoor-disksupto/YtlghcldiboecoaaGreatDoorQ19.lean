/- Goroutine 0's way to the end of the run, beside goroutines that only leave: backwards, step by step; and through a pair's whole run. -/
import Derived.Test.YtlghcldiboecoaaGreatDoorQ18
set_option linter.unusedVariables false
set_option linter.unusedSimpArgs false
namespace Go.Pair
open Go Go.Conc
open Go.ConcN (sumTo upd sumTo_upd upd_ne upd_same)

structure PastD (Shun : Loc → Prop) (B d : Nat) (t : Trace) : Prop where
  clean : ∀ said, ¬ Race said t
  known : ∀ i a, touchAt t i = some a → a.loc.isMemory = true → Knows t 0 i ∨ (Shun a.loc ∧ a.kind = .atomic)
  over : t.HandedOver
  hears : Deaf t 0 = d
  seen : ∀ op ∈ t, op.act.low B

theorem PastD.of {Shun : Loc → Prop} {B : Nat} {t : Trace} (h : Past Shun B t) : PastD Shun B 0 t := ⟨h.clean, h.known, h.over, h.hears, h.seen⟩
theorem PastD.to {Shun : Loc → Prop} {B : Nat} {t : Trace} (h : PastD Shun B 0 t) : Past Shun B t := ⟨h.clean, h.known, h.over, h.hears, h.seen⟩

def EvD (Shun : Loc → Prop) (B : Nat) (e : Event) : Prop := (∀ x, (MemAct.ofEvent e).touch? = some x → Shun x.loc → x.kind ≠ .plain) ∧ (MemAct.ofEvent e).low B

section
variable {Shun : Loc → Prop} {B B' d : Nat} {t u : Trace}

theorem PastD.mono (h : PastD Shun B d t) (hB : B ≤ B') : PastD Shun B' d t := ⟨h.clean, h.known, h.over, h.hears, fun op hop => MemAct.low_mono hB (h.seen op hop)⟩

theorem PastD.own (h : PastD Shun B d t) (hB : B ≤ B') {fn : FuncId} {pos : String} {es : Array Event} (hes : ∀ e ∈ es, EvD Shun B' e) : PastD Shun B' (deafBehind d es) (t ++ MemOp.ofEvents 0 fn pos es) := by
  refine ⟨fun said => noRace_append (h.clean said) (fun op hop => g_ofEvents hop) fun i a ha op hop b hb hc => ?_, fun i a ha hm => ?_, handedOver_app h.over fun op hop => .inl (g_ofEvents hop), by rw [Deaf_own, h.hears], seen_app (fun op hop => MemAct.low_mono hB (h.seen op hop)) fun op hop => ?_⟩
  · rcases h.known i a ha hc.2.1 with hk | ⟨hsa, hka⟩
    · exact hk
    · obtain ⟨e, he, rfl⟩ := Conc.mem_ofEvents hop
      have hkb := (hes e he).1 b hb (hc.1 ▸ hsa)
      obtain ⟨_, _, _, hcase⟩ := hc
      rw [hka] at hcase
      rcases hcase with x | x | ⟨_, x, _⟩
      · cases x
      · exact absurd x hkb
      · cases x
  · obtain ⟨x, hx, hxa⟩ := touch_of ha
    rcases getElem?_append_cases hx with ⟨_, hx'⟩ | ⟨_, hxu⟩
    · exact (h.known i a (by rw [touchAt_of hx']; exact hxa) hm).imp (·.app _) id
    · have := knows_own hx
      rw [g_ofEvents hxu] at this
      exact .inl this
  · obtain ⟨e, he, rfl⟩ := Conc.mem_ofEvents hop
    exact (hes e he).2

theorem PastD.mute (h : PastD Shun B d t) {g : Nat} (hg : g ≠ 0) {fn : FuncId} {pos : String} {es : Array Event} (hm : ∀ e ∈ es, Event.mute e = true) : PastD Shun B d (t ++ MemOp.ofEvents g fn pos es) := by
  have hn : ∀ op ∈ MemOp.ofEvents g fn pos es, op.act.touch? = none := fun op hop => by obtain ⟨e, he, rfl⟩ := Conc.mem_ofEvents hop; exact touch_mute (hm e he)
  refine ⟨fun said => noRace_append (h.clean said) (fun op hop => g_ofEvents hop) fun i a _ op hop b hb _ => (by rw [hn op hop] at hb; cases hb), fun i a ha hm' => ?_, handedOver_app h.over fun op hop => .inr (hn op hop), (Deaf_other t hg _ fun op hop => g_ofEvents hop).trans h.hears, seen_app h.seen fun op hop => by obtain ⟨e, he, rfl⟩ := Conc.mem_ofEvents hop; exact low_mute (hm e he) B⟩
  obtain ⟨x, hx, hxa⟩ := touch_of ha
  rcases getElem?_append_cases hx with ⟨_, hx'⟩ | ⟨_, hxu⟩
  · exact (h.known i a (by rw [touchAt_of hx']; exact hxa) hm').imp (·.app _) id
  · rw [hn x hxu] at hxa; cases hxa

end

def Ends (P : Program) (Post : Value → World → Prop) (Shun : Loc → Prop) (d : Nat) (g : Goroutine) (w : World) : Prop :=
  ∀ (gs : Array Goroutine) (sl : Option (Nat × Nat)) (t : Trace) (q : Nat → Nat), gs[0]? = some g → Leavers P t gs q → PastD Shun w.heap.size d t →
    ∃ N last o w' t', runNT P (N + 1) (crowd gs w sl) t = (.ended o w', t') ∧ runN P N (crowd gs w sl) = .next last ∧ step P last = .ended o w' ∧ Good P Post last o w' t'

section
variable {P : Program} {Post : Value → World → Prop} {Shun : Loc → Prop} {d : Nat} {g : Goroutine} {w : World}

theorem runNT_cons {N : Nat} {m m' : Machine} {t : Trace} {u : Array MemOp} {o : Outcome} {w' : World} {t' : Trace} (hs : stepT P m = (.next m', u)) (h : runNT P (N + 1) m' (t ++ u) = (.ended o w', t')) : runNT P (N + 1 + 1) m t = (.ended o w', t') := by
  rw [runNT_succ_next hs]; exact h

theorem Ends.step (hrun : g.status = .running) (h : ∀ n, ∃ g' w' es, stepG P true g (w.at n) = .go g' w' es ∧ w.heap.size ≤ w'.heap.size ∧ (∀ e ∈ es, EvD Shun w'.heap.size e) ∧ Ends P Post Shun (deafBehind d es) g' w') : Ends P Post Shun d g w := by
  suffices H : ∀ (M : Nat) (gs : Array Goroutine) (w₁ : World) (sl : Option (Nat × Nat)) (t : Trace) (q : Nat → Nat), (∃ n, w₁ = w.at n) → sumTo gs.size q ≤ M → gs[0]? = some g → Leavers P t gs q → PastD Shun w.heap.size d t →
      ∃ N last o w' t', runNT P (N + 1) (crowd gs w₁ sl) t = (.ended o w', t') ∧ runN P N (crowd gs w₁ sl) = .next last ∧ Go.step P last = .ended o w' ∧ Good P Post last o w' t' from
    fun gs sl t q h0 hL hP => H _ gs w sl t q ⟨w.drawn, rfl⟩ (Nat.le_refl _) h0 hL hP
  intro M
  induction M using Nat.strongRecOn with
  | _ M ihM =>
  rintro gs w₁ sl t q ⟨n₁, rfl⟩ hM h0 hL hP
  have hlt0 : 0 < gs.size := (Array.getElem?_eq_some_iff.1 h0).1
  have haw : ∀ x ∈ gs, awake x := by
    intro x hx
    obtain ⟨i, hi, rfl⟩ := Array.mem_iff_getElem.1 hx
    rcases Nat.eq_zero_or_pos i with rfl | hpos
    · have : gs[0] = g := by simpa [Array.getElem?_eq_getElem hi] using h0
      rw [this]; exact awake_of (.inl hrun)
    · exact awake_of ((hL.old i _ hpos (Array.getElem?_eq_getElem hi)).status.elim .inl fun x => .inr (.inr x))
  obtain ⟨i, x, n, sl', hi, hx, hst⟩ := crowd_pick (P := P) (w := w.at n₁) (sl := sl) haw ⟨0, g, h0, hrun⟩
  have eat : (w.at n₁).at n = w.at n := rfl
  rw [eat] at hst
  rcases Nat.eq_zero_or_pos i with rfl | hpos
  · obtain rfl : x = g := by rw [h0] at hi; exact (Option.some.inj hi).symm
    obtain ⟨g', w', es, hs, hsz, hes, hE⟩ := h n
    have hrunT := runT_crowd_go (P := P) (sl := sl') (i := 0) hi (show stepG P (0 == 0) x (w.at n) = _ from hs)
    obtain ⟨N, last, o, wf, tf, r1, r2, r3, r4⟩ := hE ((gs.map (woken P x g' w')).setIfInBounds 0 g') sl' (t ++ MemOp.ofEvents 0 x.frame.fn x.frame.place es) q (by simp [hlt0])
      ⟨fun j y hj hy => by
        rw [Array.getElem?_setIfInBounds_ne (by omega), Array.getElem?_map] at hy
        obtain ⟨z, hz, rfl⟩ := Option.map_eq_some_iff.1 hy
        have hq := hL.old j z hj hz
        rw [woken_quitsD hq, Deaf_other t (by omega) _ (fun op hop => g_ofEvents hop)]
        exact hq, fun j hj => by
        rw [Deaf_other t (g' := 0) (by simp at hj; omega) _ (fun op hop => g_ofEvents hop)]
        exact hL.above j (by simpa using hj)⟩
      (hP.own hsz hes)
    have hstep := hst.trans hrunT
    exact ⟨N + 1, last, o, wf, tf, runNT_cons hstep r1, by rw [runN_succ_next hstep]; exact r2, r3, r4⟩
  · have hq := hL.old i x hpos hi
    have hi0 : (i == 0) = false := by simp; omega
    have hlt : i < gs.size := (Array.getElem?_eq_some_iff.1 hi).1
    cases hqi : q i with
    | zero => rw [hqi] at hq; rw [hq.1] at hx; cases hx
    | succ m =>
      rw [hqi] at hq
      rcases hq with ⟨hf, _⟩ | ⟨_, g', es, hm, hstp, hq'⟩
      · rw [hf] at hx; cases hx
      have hrunT := runT_crowd_go (P := P) (sl := sl') (i := i) hi (by rw [hi0]; exact hstp (w.at n))
      have hsum : sumTo gs.size (upd q i m) + (m + 1) = sumTo gs.size q + m := by
        have := sumTo_upd q m id hlt
        simpa [hqi] using this
      have hsz : ((gs.map (woken P x g' (w.at n))).setIfInBounds i g').size = gs.size := by simp
      obtain ⟨N, last, o, wf, tf, r1, r2, r3, r4⟩ := ihM (sumTo gs.size (upd q i m)) (by omega) ((gs.map (woken P x g' (w.at n))).setIfInBounds i g') (w.at n) sl' (t ++ MemOp.ofEvents i x.frame.fn x.frame.place es) (upd q i m) ⟨n, rfl⟩ (by rw [hsz]; exact Nat.le_refl _)
        (by rw [Array.getElem?_setIfInBounds_ne (by omega), Array.getElem?_map, h0]; simp [woken_run hrun])
        ⟨fun j y hj hy => by
          by_cases hji : i = j
          · subst hji
            rw [Array.getElem?_setIfInBounds_self_of_lt (by simpa using hlt)] at hy
            obtain rfl := Option.some.inj hy
            rw [upd_same, Deaf_own]
            exact hq'
          · rw [Array.getElem?_setIfInBounds_ne hji, Array.getElem?_map] at hy
            obtain ⟨z, hz, rfl⟩ := Option.map_eq_some_iff.1 hy
            have hqj := hL.old j z hj hz
            rw [woken_quitsD hqj, upd_ne q m (Ne.symm hji), Deaf_other t hji _ (fun op hop => g_ofEvents hop)]
            exact hqj, fun j hj => by
          rw [Deaf_other t (g' := i) (by simp at hj; omega) _ (fun op hop => g_ofEvents hop)]
          exact hL.above j (by simpa using hj)⟩ (hP.mute (by omega) hm)
      have hstep := hst.trans hrunT
      exact ⟨N + 1, last, o, wf, tf, runNT_cons hstep r1, by rw [runN_succ_next hstep]; exact r2, r3, r4⟩

theorem Ends.ret (hrun : g.status = .running) (h : ∀ n, ∃ v es, stepG P true g (w.at n) = .ended (.done v) (w.at n) es ∧ (∀ e ∈ es, EvL Shun w.heap.size e) ∧ Post v (w.at n)) : Ends P Post Shun 0 g w := by
  intro gs sl t q h0 hL hP
  refine beside_ends (P := P) (Shun := Shun) (B := w.heap.size) (D := fun _ _ _ => False) (Post := Post) (n := 0) (fun _ _ _ x => x.elim) h0 hL hP.to fun w₁ h₁ => ?_
  obtain ⟨n, rfl⟩ := h₁
  obtain ⟨v, es, h1, h2, h3⟩ := h n
  exact ⟨hrun, v, es, h1, h2, h3⟩

theorem Ends.goes {D : World → World → Array Event → Prop} {Stop : Goroutine → World → Prop} (hD : ∀ w w' es, D w w' es → w.heap.size ≤ w'.heap.size ∧ ∀ e ∈ es, EvL Shun w'.heap.size e) (hS : ∀ g w, Stop g w → Ends P Post Shun d g w) :
    ∀ {n : Nat} {g : Goroutine} {w : World}, Goes P true AtRel D Stop n g w → Ends P Post Shun d g w
  | 0, g, w, h => hS g w (h w (atRel_refl w))
  | n + 1, g, w, h => by
    rcases h with h | ⟨hs, h⟩
    · exact hS g w (h w (atRel_refl w))
    · refine Ends.step hs fun k => ?_
      have := h (w.at k) ⟨k, rfl⟩
      obtain ⟨g', w', es, e, hd, hg⟩ := goes_elim this
      obtain ⟨h1, h2⟩ := hD _ _ _ hd
      refine ⟨g', w', es, e, h1, fun e he => ⟨(h2 e he).1, (h2 e he).2.2.2⟩, ?_⟩
      rw [deafBehind_still fun e he => ⟨(h2 e he).2.1, (h2 e he).2.2.1⟩]
      exact Ends.goes hD hS hg

end
end Go.Pair

/- The go statement: from goroutine 0 beside leavers to a pair, and behind the pair's end to goroutine 0 beside leavers. -/
namespace Go.Pair
open Go Go.Conc
open Go.ConcN (sumTo upd sumTo_upd upd_ne upd_same)

section
variable {P : Program} {Post : Value → World → Prop} {Shun : Loc → Prop} {d : Nat} {g : Goroutine} {w : World}

theorem ti_fork {C : Cfg} {t : Trace} (hk : 0 < C.k) (hP : Past C.Shun w.heap.size t) (hd : Deaf t C.k = 0) (fn fn' : FuncId) (pos pos' : String) :
    C.TI (t ++ #[({ g := 0, fn := fn, pos := pos, act := .go C.k } : MemOp), { g := C.k, fn := fn', pos := pos', act := .start }]) w 0 0 := by
  have hn : ∀ op ∈ (#[({ g := 0, fn := fn, pos := pos, act := .go C.k } : MemOp), { g := C.k, fn := fn', pos := pos', act := .start }] : Trace), op.act.touch? = none ∧ (∀ m, op.act ≠ .mark m) ∧ op.act.low w.heap.size := fun op hop => by
    simp at hop
    rcases hop with rfl | rfl <;> exact ⟨rfl, by simp, trivial⟩
  have hd0 := Go.ConcN.Deaf_still t 0 _ fun op hop => ⟨(hn op hop).2.1 .disable, (hn op hop).2.1 .enable⟩
  have hdk := Go.ConcN.Deaf_still t C.k _ fun op hop => ⟨(hn op hop).2.1 .disable, (hn op hop).2.1 .enable⟩
  have h0 : (t ++ #[({ g := 0, fn := fn, pos := pos, act := .go C.k } : MemOp), { g := C.k, fn := fn', pos := pos', act := .start }])[t.size]? = some { g := 0, fn := fn, pos := pos, act := .go C.k } := by simp
  have h1 : (t ++ #[({ g := 0, fn := fn, pos := pos, act := .go C.k } : MemOp), { g := C.k, fn := fn', pos := pos', act := .start }])[t.size + 1]? = some { g := C.k, fn := fn', pos := pos', act := .start } := by
    rw [Array.getElem?_append_right (by omega)]; simp
  have old : ∀ i a, touchAt (t ++ #[({ g := 0, fn := fn, pos := pos, act := .go C.k } : MemOp), { g := C.k, fn := fn', pos := pos', act := .start }]) i = some a → touchAt t i = some a := fun i a ha => by
    obtain ⟨x, hx, hxa⟩ := touch_of ha
    rcases getElem?_append_cases hx with ⟨_, hx'⟩ | ⟨_, hxu⟩
    · rw [touchAt_of hx']; exact hxa
    · rw [(hn x hxu).1] at hxa; cases hxa
  have hspawn : HappensBefore (t ++ #[({ g := 0, fn := fn, pos := pos, act := .go C.k } : MemOp), { g := C.k, fn := fn', pos := pos', act := .start }]) t.size (t.size + 1) := by
    refine .single (.inr ⟨.spawn (child := C.k) (by rw [act?_of h0]) (by rw [act?_of h1]) (by simp only [Trace.g?, h1, Option.map_some]), ⟨0, by simp only [Trace.g?, h0, Option.map_some], by rw [deaf_old (Nat.le_refl _)]; exact hP.hears⟩, ⟨C.k, by simp only [Trace.g?, h1, Option.map_some], ?_⟩⟩)
    rw [deaf_succ h0, deaf_old (Nat.le_refl _)]
    show deafStep C.k (Deaf t C.k) _ = 0
    rw [hd]
    rfl
  refine ⟨fun said => ?_, fun i a ha hm => ?_, fun i a ha hm => ?_, over_app (fun i g hg hne _ hc => hP.over i g hg hne hc) fun op hop => .inr (.inr (hn op hop).1), hd0.trans hP.hears, hdk.trans hd, seen_app hP.seen fun op hop => (hn op hop).2.2⟩
  · rintro ⟨i, j, hij, ⟨a, b, ha, hb, hc⟩, n1, n2⟩
    exact hP.clean said ⟨i, j, hij, ⟨a, b, old i a ha, old j b hb, hc⟩, fun e => n1 (hb_app _ e), fun e => n2 (hb_app _ e)⟩
  · rcases hP.known i a (old i a ha) hm with h | h
    · exact .inl (h.app _)
    · exact .inr (.inl h)
  · rcases hP.known i a (old i a ha) hm with h | h
    · exact .inl ⟨t.size + 1, _, h1, rfl, .inr ((h.hb_new (Nat.le_refl _) h0 rfl).trans hspawn)⟩
    · exact .inr (.inl h)

theorem Ends.fork (hrun : g.status = .running) (h : ∀ n k, 0 < k → ∃ (C : Cfg) (bs : List C.β) (a' child : Goroutine) (s r : Nat) (tm : Bool), C.P = P ∧ C.k = k ∧ C.Shun = Shun ∧ C.Ok ∧ stepG P true g (w.at n) = .spawn a' child (w.at n) #[] ∧
      w.heap[C.Ch]? = some (.chan 0 #[] false s r tm) ∧ WgIs C.ty C.Wg w KK 0 ∧ ARecvs C bs [] a' (w.at n) ∧ BSends C bs [] child (w.at n) ∧
      ∀ sent g' w', sent.map (·.1) = bs → g'.status = .running → C.PostA sent g' w' → C.FB sent w' → (∀ x ∈ sent, C.Msg x.1 x.2 w') → Ends P Post (fun l => Shun l ∨ IsWg C.Wg l) 0 g' w') : Ends P Post Shun 0 g w := by
  suffices H : ∀ (M : Nat) (gs : Array Goroutine) (w₁ : World) (sl : Option (Nat × Nat)) (t : Trace) (q : Nat → Nat), (∃ n, w₁ = w.at n) → sumTo gs.size q ≤ M → gs[0]? = some g → Leavers P t gs q → PastD Shun w.heap.size 0 t →
      ∃ N last o w' t', runNT P (N + 1) (crowd gs w₁ sl) t = (.ended o w', t') ∧ runN P N (crowd gs w₁ sl) = .next last ∧ Go.step P last = .ended o w' ∧ Good P Post last o w' t' from
    fun gs sl t q h0 hL hP => H _ gs w sl t q ⟨w.drawn, rfl⟩ (Nat.le_refl _) h0 hL hP
  intro M
  induction M using Nat.strongRecOn with
  | _ M ihM =>
  rintro gs w₁ sl t q ⟨n₁, rfl⟩ hM h0 hL hP
  have hlt0 : 0 < gs.size := (Array.getElem?_eq_some_iff.1 h0).1
  have haw : ∀ x ∈ gs, awake x := by
    intro x hx
    obtain ⟨i, hi, rfl⟩ := Array.mem_iff_getElem.1 hx
    rcases Nat.eq_zero_or_pos i with rfl | hpos
    · have : gs[0] = g := by simpa [Array.getElem?_eq_getElem hi] using h0
      rw [this]; exact awake_of (.inl hrun)
    · exact awake_of ((hL.old i _ hpos (Array.getElem?_eq_getElem hi)).status.elim .inl fun x => .inr (.inr x))
  obtain ⟨i, x, n, sl', hi, hx, hst⟩ := crowd_pick (P := P) (w := w.at n₁) (sl := sl) haw ⟨0, g, h0, hrun⟩
  have eat : (w.at n₁).at n = w.at n := rfl
  rw [eat] at hst
  rcases Nat.eq_zero_or_pos i with rfl | hpos
  · obtain rfl : x = g := by rw [h0] at hi; exact (Option.some.inj hi).symm
    obtain ⟨C, bs, a', child, s, r, tm, hCP, hCk, hCS, O, hs, hch, hwg, hA, hB, hpost⟩ := h n gs.size hlt0
    subst hCP hCS
    have hrunT := runT_crowd_spawn (P := C.P) (sl := sl') (i := 0) hi (show stepG C.P (0 == 0) x (w.at n) = _ from hs)
    have hops : ((MemOp.ofEvents 0 x.frame.fn x.frame.place #[]).push { g := 0, fn := x.frame.fn, pos := x.frame.place, act := .go gs.size }).push { g := gs.size, fn := child.frame.fn, pos := x.frame.place, act := .start } = #[({ g := 0, fn := x.frame.fn, pos := x.frame.place, act := .go C.k } : MemOp), { g := C.k, fn := child.frame.fn, pos := x.frame.place, act := .start }] := by
      rw [hCk]; simp [MemOp.ofEvents]
    rw [hops] at hrunT
    have hstep := hst.trans hrunT
    have hti := ti_fork (C := C) (w := w.at n) (t := t) O.hk hP.to (hL.above C.k (by omega)) x.frame.fn child.frame.fn x.frame.place x.frame.place
    obtain ⟨nA, hA⟩ := (arecvs_iff C _ _ _ _).1 hA
    obtain ⟨nB, hB⟩ := (bsends_iff C _ _ _ _).1 hB
    have hn : ∀ op ∈ (#[({ g := 0, fn := x.frame.fn, pos := x.frame.place, act := .go C.k } : MemOp), { g := C.k, fn := child.frame.fn, pos := x.frame.place, act := .start }] : Trace), op.act ≠ .mark .disable ∧ op.act ≠ .mark .enable := fun op hop => by
      simp at hop
      rcases hop with rfl | rfl <;> simp
    have hkb : ((gs.setIfInBounds 0 a').push child)[C.k]? = some child := by
      have e : ((gs.setIfInBounds 0 a').push child)[(gs.setIfInBounds 0 a').size]? = some child := Array.getElem?_push_size
      rw [Array.size_setIfInBounds] at e
      rw [hCk]
      exact e
    obtain ⟨N, gs', a'', w', sl'', t', q', hr, hz, x0, xrun, ⟨sent, xs, xpost, xfb, xmsg⟩, xL, xP⟩ := pair_ends (C := C) (bs0 := bs) (a := a') (b := child) (w := w.at n) (sl := sl') (q := q) O
      (gs := (gs.setIfInBounds 0 a').push child) (t := t ++ #[({ g := 0, fn := x.frame.fn, pos := x.frame.place, act := .go C.k } : MemOp), { g := C.k, fn := child.frame.fn, pos := x.frame.place, act := .start }])
      (by rw [Array.getElem?_push_lt (by simpa using hlt0)]; simp [hlt0]) hkb
      ⟨fun j y hj hjk hy => by
        have hlt : j < gs.size := by
          have := (Array.getElem?_eq_some_iff.1 hy).1
          simp at this
          omega
        rw [Array.getElem?_push_lt (by simpa using hlt)] at hy
        rw [Go.ConcN.Deaf_still t j _ hn]
        refine hL.old j y hj ?_
        have e : (gs.setIfInBounds 0 a')[j]? = some y := by
          rw [Array.getElem?_eq_getElem (by simpa using hlt)]; exact hy
        rwa [Array.getElem?_setIfInBounds_ne (by omega)] at e,
       fun j hj => by
        rw [Go.ConcN.Deaf_still t j _ hn]
        refine hL.above j ?_
        simp at hj
        omega⟩
      (μ := (bs.length + 40, (nA + 1) + 2 * (nB + 1)))
      (.inr (.inr ⟨bs, [], nA + 1, nB + 1, rfl, by simp, ⟨s, r, tm, hch⟩, hwg, hti, .inl ⟨nA, rfl, hA⟩, .inl ⟨nB, rfl, hB⟩, by omega, by simp⟩))
    obtain ⟨N2, last, o, wf, tf, r1, r2, r3, r4⟩ := hpost sent a'' w' xs xrun xpost xfb xmsg gs' sl'' t' q' x0 xL (.of xP)
    refine ⟨1 + N + N2, last, o, wf, tf, ?_, ?_, r3, r4⟩
    · have e : 1 + N + N2 + 1 = (N + (N2 + 1)) + 1 := by omega
      rw [e, runNT_succ_next hstep, runNT_add, hr]
      exact r1
    · have e : 1 + N + N2 = (N + N2) + 1 := by omega
      rw [e, runN_succ_next hstep, runN_add, ← runNT_fst C.P _ _ (t ++ #[({ g := 0, fn := x.frame.fn, pos := x.frame.place, act := .go C.k } : MemOp), { g := C.k, fn := child.frame.fn, pos := x.frame.place, act := .start }]), hr]
      exact r2
  · have hq := hL.old i x hpos hi
    have hi0 : (i == 0) = false := by simp; omega
    have hlt : i < gs.size := (Array.getElem?_eq_some_iff.1 hi).1
    cases hqi : q i with
    | zero => rw [hqi] at hq; rw [hq.1] at hx; cases hx
    | succ m =>
      rw [hqi] at hq
      rcases hq with ⟨hf, _⟩ | ⟨_, g', es, hm, hstp, hq'⟩
      · rw [hf] at hx; cases hx
      have hrunT := runT_crowd_go (P := P) (sl := sl') (i := i) hi (by rw [hi0]; exact hstp (w.at n))
      have hsum : sumTo gs.size (upd q i m) + (m + 1) = sumTo gs.size q + m := by
        have := sumTo_upd q m id hlt
        simpa [hqi] using this
      have hsz : ((gs.map (woken P x g' (w.at n))).setIfInBounds i g').size = gs.size := by simp
      obtain ⟨N, last, o, wf, tf, r1, r2, r3, r4⟩ := ihM (sumTo gs.size (upd q i m)) (by omega) ((gs.map (woken P x g' (w.at n))).setIfInBounds i g') (w.at n) sl' (t ++ MemOp.ofEvents i x.frame.fn x.frame.place es) (upd q i m) ⟨n, rfl⟩ (by rw [hsz]; exact Nat.le_refl _)
        (by rw [Array.getElem?_setIfInBounds_ne (by omega), Array.getElem?_map, h0]; simp [woken_run hrun])
        ⟨fun j y hj hy => by
          by_cases hji : i = j
          · subst hji
            rw [Array.getElem?_setIfInBounds_self_of_lt (by simpa using hlt)] at hy
            obtain rfl := Option.some.inj hy
            rw [upd_same, Deaf_own]
            exact hq'
          · rw [Array.getElem?_setIfInBounds_ne hji, Array.getElem?_map] at hy
            obtain ⟨z, hz, rfl⟩ := Option.map_eq_some_iff.1 hy
            have hqj := hL.old j z hj hz
            rw [woken_quitsD hqj, upd_ne q m (Ne.symm hji), Deaf_other t hji _ (fun op hop => g_ofEvents hop)]
            exact hqj, fun j hj => by
          rw [Deaf_other t (g' := i) (by simp at hj; omega) _ (fun op hop => g_ofEvents hop)]
          exact hL.above j (by simpa using hj)⟩ (hP.mute (by omega) hm)
      have hstep := hst.trans hrunT
      exact ⟨N + 1, last, o, wf, tf, runNT_cons hstep r1, by rw [runN_succ_next hstep]; exact r2, r3, r4⟩

end
end Go.Pair
