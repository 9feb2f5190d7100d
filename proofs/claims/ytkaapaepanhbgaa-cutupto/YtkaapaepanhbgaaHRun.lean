/- The steps while the channel is open, and the whole run. -/
import Derived.Test.YtkaapaepanhbgaaHMove
set_option linter.unusedVariables false
set_option linter.unusedSimpArgs false
namespace Go.Pair
open Go Go.Conc

section
variable {C : Cfg} {bs0 : List C.β} {sent : List (C.β × Value)} {w w' : World} {t : Trace} {a b : Goroutine} {ra rb : Nat} {bs : List C.β}

/-- The channel's block is laid anew. -/
theorem put_ch (O : C.Ok) {o : Obj} : RA C sent w { w with heap := w.heap.setIfInBounds C.Ch o } ∧ RB C w { w with heap := w.heap.setIfInBounds C.Ch o } := by
  have hw : WgAny C.ty C.Wg w → WgAny C.ty C.Wg { w with heap := w.heap.setIfInBounds C.Ch o } := any_of_same (put_other O.neq)
  exact ⟨ra_of O (keeps_put fun i o k => (O.ka i o k).2) (keeps_put fun i o k => (O.kb i o k).2) hw, ⟨keeps_put fun i o k => (O.kb i o k).2, hw⟩⟩

theorem AStop.again {g : Goroutine} {w : World} {cs : Array CommCase} {sh : CommShape} (h : AStop C bs sent g w) : AStop C bs sent { parked (core g) cs sh with status := .running } w := by
  have e : stepG C.P true { parked (core g) cs sh with status := .running } w = stepG C.P true g w := stepG_same rfl rfl rfl w
  cases bs <;> exact let ⟨_, z, h1, h2⟩ := h; ⟨rfl, z, by rw [e]; exact h1, h2⟩

theorem map_snoc {b' : C.β} {v : Value} {bs' : List C.β} (h : sent.map (·.1) ++ b' :: bs' = bs0) : (sent ++ [(b', v)]).map (·.1) ++ bs' = bs0 := by
  simpa using h

/-- The two meet. -/
theorem meets (O : C.Ok) (h : J1 C sent bs ra rb a b w t) {b' : C.β} {bs' : List C.β} (e : bs = b' :: bs') (hall : sent.map (·.1) ++ bs = bs0) {v : Value} {s r : Nat} {tm : Bool} (hc : w.heap[C.Ch]? = some (.chan 0 #[] false s r tm))
    {a' b'' : Goroutine} (hA : ARecvs C bs' (sent ++ [(b', v)]) a' (w.setChan C.Ch 0 #[] false (s + 1) (r + 1) tm)) (hB : BSends C bs' (sent ++ [(b', v)]) b'' (w.setChan C.Ch 0 #[] false (s + 1) (r + 1) tm)) (hm : C.Msg b' v w)
    {u : Trace} (hu : ∀ op ∈ u, op.act.touch? = none ∧ (∀ m, op.act ≠ .mark m) ∧ op.act.low (w.setChan C.Ch 0 #[] false (s + 1) (r + 1) tm).heap.size) {x : Nat} :
    ∃ μ', Less μ' (bs.length + 40, x) ∧ J C bs0 μ' a' b'' (w.setChan C.Ch 0 #[] false (s + 1) (r + 1) tm) (t ++ u) := by
  obtain ⟨n, hA⟩ := (arecvs_iff C _ _ _ _).1 hA
  obtain ⟨m, hB⟩ := (bsends_iff C _ _ _ _).1 hB
  subst e
  have hput := put_ch (C := C) (sent := sent) (w := w) O (o := .chan 0 #[] false (s + 1) (r + 1) tm)
  refine ⟨(bs'.length + 40, (n + 1) + 2 * (m + 1)), .left _ _ (by simp), .inr (.inr ⟨bs', sent ++ [(b', v)], n + 1, m + 1, rfl, map_snoc hall, ⟨s + 1, r + 1, tm, put_self (lt_of_get hc)⟩, ?_, ti_comm O h.ti (grow_put hc rfl) hu, .inl ⟨n, rfl, hA⟩, .inl ⟨m, rfl, hB⟩, by omega, fun y hy => ?_⟩)⟩
  · have := h.wg
    unfold WgIs at this ⊢
    rw [← this]
    exact put_other O.neq
  · rcases List.mem_append.1 hy with hy | hy
    · exact O.msgB _ _ _ _ hput.2.keep (h.msgs y hy)
    · simp at hy
      subst hy
      exact O.msgB _ _ _ _ hput.2.keep hm

theorem comm_ops {x y z u : MemOp} {c s r cap : Nat} (hc : c < w.heap.size) (h1 : x.act = .send c s) (h2 : y.act = .recv c r cap) (h3 : z.act = .sendDone c s) (h4 : u.act = .recvDone c r) {g : Nat} {fn : FuncId} {pos : String} :
    ∀ op ∈ MemOp.ofEvents g fn pos #[] ++ #[x, y, z, u], op.act.touch? = none ∧ (∀ m, op.act ≠ .mark m) ∧ op.act.low w.heap.size := fun op hop => by
  simp [MemOp.ofEvents] at hop
  rcases hop with rfl | rfl | rfl | rfl
  · rw [h1]; exact ⟨rfl, by simp, hc⟩
  · rw [h2]; exact ⟨rfl, by simp, hc⟩
  · rw [h3]; exact ⟨rfl, by simp, hc⟩
  · rw [h4]; exact ⟨rfl, by simp, hc⟩

theorem nil_ops {t : Trace} {g : Nat} {fn : FuncId} {pos : String} : t ++ MemOp.ofEvents g fn pos #[] = t := by simp [MemOp.ofEvents]

theorem stepA1 (O : C.Ok) (hall : sent.map (·.1) ++ bs = bs0) (h : J1 C sent bs ra rb a b w t) (hrun : a.status = .running) :
    StepA C.P C.k a b w t fun a' b' w' t' => ∃ μ', Less μ' (bs.length + 40, ra + 2 * rb) ∧ J C bs0 μ' a' b' w' t' := by
  obtain ⟨s, r, tm, hc⟩ := h.ch
  rcases h.sa with ⟨n, rfl, hg⟩ | ⟨_, g, z, rfl, _⟩
  rotate_left
  · cases hrun
  rcases hg.cases with hstop | ⟨n', rfl, hstep⟩
  rotate_left
  · obtain ⟨g', w1, es, hst, D, hG⟩ := hstep w (RA.refl _ _ _)
    have hc' : w1.heap[C.Ch]? = some (.chan 0 #[] false s r tm) := by rw [D.ch]; exact hc
    refine .inl ⟨g', w1, es, hst, _, .right _ (show (n' + 1) + 2 * rb < (n' + 1 + 1) + 2 * rb by omega), .inr (.inr ⟨bs, sent, n' + 1, rb, rfl, hall, ⟨s, r, tm, hc'⟩, by have := h.wg; unfold WgIs at *; rw [D.wg]; exact this, ti_privA O h.ti D _ _, .inl ⟨n', rfl, hG⟩, ?_, by omega, fun x hx => O.msgB _ _ _ _ D.keep (h.msgs x hx)⟩)⟩
    have hsb := h.sb.rely O D.toB
    rw [hsb.woken hc']
    exact hsb
  have hS := hstop w (RA.refl _ _ _)
  obtain ⟨_, z, hcm⟩ := AStop.comm C hS
  rcases h.sb with ⟨m, rfl, hgb⟩ | ⟨rfl, b', bs', gb, v, zb, rfl, rfl, hm, hnext⟩
  · -- it waits
    refine .inr (.inl ⟨core a, C.Ch, z, #[], s, r, tm, hcm, hc, ?_, _, .right _ (show 0 + 2 * (m + 1) < (n + 1) + 2 * (m + 1) by omega), .inr (.inr ⟨bs, sent, 0, m + 1, rfl, hall, ⟨s, r, tm, hc⟩, h.wg, ?_, .inr ⟨rfl, a, z, rfl, hstop⟩, .inl ⟨m, rfl, hgb⟩, by omega, h.msgs⟩)⟩)
    · rw [hgb.running (fun _ _ => BStop.running C) w (RB.refl _ _)]; simp
    · rw [nil_ops]; exact h.ti
  · -- it meets the sender
    obtain ⟨_, z', hcm', hA⟩ := hS
    have hput := put_ch (C := C) (sent := sent) (w := w) O (o := .chan 0 #[] false (s + 1) (r + 1) tm)
    refine .inr (.inr (.inl ⟨core a, C.Ch, z, #[], s, r, tm, core gb, v, zb, hcm, hc, rfl, meets O h rfl hall hc (hA v _ hput.1 (O.msgB _ _ _ _ hput.2.keep hm)) (hnext _ hput.2) hm (comm_ops (c := C.Ch) (s := s) (r := r) (cap := 0) ?_ rfl rfl rfl rfl)⟩))
    have := lt_of_get hc
    simpa [World.setChan] using this

theorem stepB1 (O : C.Ok) (hall : sent.map (·.1) ++ bs = bs0) (h : J1 C sent bs ra rb a b w t) (hrun : b.status = .running) :
    StepB C.P C.k a b w t fun a' b' w' t' => ∃ μ', Less μ' (bs.length + 40, ra + 2 * rb) ∧ J C bs0 μ' a' b' w' t' := by
  obtain ⟨s, r, tm, hc⟩ := h.ch
  rcases h.sb with ⟨n, rfl, hg⟩ | ⟨_, _, _, g, v, z, _, rfl, _⟩
  rotate_left
  · cases hrun
  rcases hg.cases with hstop | ⟨n', rfl, hstep⟩
  rotate_left
  · obtain ⟨g', w1, es, hst, D, hG⟩ := hstep w (RB.refl _ _)
    have hc' : w1.heap[C.Ch]? = some (.chan 0 #[] false s r tm) := by rw [D.ch]; exact hc
    refine .inl ⟨g', w1, es, hst, _, .right _ (show ra + 2 * (n' + 1) < ra + 2 * (n' + 1 + 1) by omega), .inr (.inr ⟨bs, sent, ra, n' + 1, rfl, hall, ⟨s, r, tm, hc'⟩, by have := h.wg; unfold WgIs at *; rw [D.wg]; exact this, ti_privB O h.ti D _ _, ?_, .inl ⟨n', rfl, hG⟩, by omega, fun x hx => D.msg x hx (h.msgs x hx)⟩)⟩
    have hsa := h.sa.rely D.toA
    rw [hsa.woken hc']
    exact hsa
  have hS := hstop w (RB.refl _ _)
  cases bs with
  | nil =>
    -- the close
    obtain ⟨_, hmw, hcl⟩ := hS
    obtain ⟨g₂, hstp, hrun₂, m, hG⟩ := hcl s r tm hc
    have hput := put_ch (C := C) (sent := sent) (w := w) O (o := .chan 0 #[] true s r tm)
    have hc' : (w.shut C.Ch s r tm).heap[C.Ch]? = some (.chan 0 #[] true s r tm) := put_self (lt_of_get hc)
    have hall' : sent.map (·.1) = bs0 := by simpa using hall
    have hlt : C.Ch < (w.shut C.Ch s r tm).heap.size := lt_of_get hc'
    have key : ∃ ra', ra' ≠ 0 ∧ SitA2 C sent .rc ra' (woken C.P b g₂ (w.shut C.Ch s r tm) a) (w.shut C.Ch s r tm) := by
      rcases h.sa.rely hput.1 with ⟨k, rfl, hga⟩ | ⟨_, g, z, rfl, hs⟩
      · rw [woken_same (.inl (hga.running (fun _ _ => AStop.running) _ (RA.refl _ _ _)))]
        exact ⟨k + 1, by omega, .inl ⟨k, rfl, hga⟩⟩
      · refine ⟨1, by omega, .inl ⟨0, rfl, fun w₁ h₁ => ?_⟩⟩
        have e : woken C.P b g₂ (w.shut C.Ch s r tm) (parked (core g) #[rcase C.Ch z] (.recv true)) = { parked (core g) #[rcase C.Ch z] (.recv true) with status := .running } := by
          unfold woken
          rw [if_pos (wake_of hmw (.inl hrun₂))]
          exact again_recv_closed hc'
        rw [e]
        exact AStop.again (bs := []) (hs w₁ h₁)
    obtain ⟨ra', hnz, hsa⟩ := key
    refine .inl ⟨g₂, _, _, hstp, (rkA .rc + rkB .r0, ra' + 2 * (m + 1)), .left _ _ (by simp [rkA, rkB]), .inr (.inl ⟨sent, .rc, .r0, ra', m + 1, rfl, hall', ⟨s, r, tm, hc'⟩, ⟨KK, 0, rfl, ?_⟩, ⟨0, ti_close O h.ti (show Grow w (w.shut C.Ch s r tm) from grow_put hc rfl) hlt _ _, .inl ⟨by simp, rfl, m, rfl, hG⟩⟩, hsa, (fun e => by cases e), fun x hx => O.msgB _ _ _ _ hput.2.keep (h.msgs x hx), fun e => absurd rfl e⟩)⟩
    have := h.wg
    unfold WgIs at this ⊢
    rw [← this]
    exact put_other O.neq
  | cons b' bs' =>
    obtain ⟨_, v, z, hcm, hm, hnext⟩ := hS
    rcases h.sa with ⟨k, rfl, hga⟩ | ⟨rfl, g, za, rfl, hs⟩
    · refine .inr (.inl ⟨core b, C.Ch, v, z, #[], s, r, tm, hcm, hc, ?_, _, .right _ (show (k + 1) + 2 * 0 < (k + 1) + 2 * (n + 1) by omega), .inr (.inr ⟨b' :: bs', sent, k + 1, 0, rfl, hall, ⟨s, r, tm, hc⟩, h.wg, ?_, .inl ⟨k, rfl, hga⟩, .inr ⟨rfl, b', bs', b, v, z, rfl, rfl, hm, hnext⟩, by omega, h.msgs⟩)⟩)
      · rw [hga.running (fun _ _ => AStop.running) w (RA.refl _ _ _)]; simp
      · rw [nil_ops]; exact h.ti
    · obtain ⟨_, z', hcm', hA⟩ := hs w (RA.refl _ _ _)
      have hput := put_ch (C := C) (sent := sent) (w := w) O (o := .chan 0 #[] false (s + 1) (r + 1) tm)
      refine .inr (.inr ⟨core b, C.Ch, v, z, #[], s, r, tm, core g, za, hcm, hc, rfl, meets O h rfl hall hc (hA v _ hput.1 (O.msgB _ _ _ _ hput.2.keep hm)) (hnext _ hput.2) hm (comm_ops (c := C.Ch) (s := s) (r := r) (cap := 0) ?_ rfl rfl rfl rfl)⟩)
      have := lt_of_get hc
      simpa [World.setChan] using this
end
end Go.Pair

/- The pair's whole run, from the start of the worker to the caller's 'acquire'. -/
set_option linter.unusedVariables false
set_option linter.unusedSimpArgs false
namespace Go.Pair
open Go Go.Conc
open Go.ConcN (sumTo upd sumTo_upd upd_ne upd_same)

section
variable {C : Cfg} {bs0 : List C.β} {w : World} {t : Trace} {a b : Goroutine} {μ : Nat × Nat}

theorem Fin.at (O : C.Ok) (h : Fin C bs0 a b w t) (d : Nat) : Fin C bs0 a b (w.at d) t :=
  ⟨h.run, h.past, h.quits, let ⟨s, h1, h2, h4, h3⟩ := h.post; ⟨s, h1, (O.postAt _ _ _ _).2 h2, O.fbB _ _ _ (.at _ _ _) h4, fun x hx => O.msgB _ _ _ _ (.at _ _ _) (h3 x hx)⟩⟩
theorem Keeps.back (K : Nat → Obj → Prop) (w : World) (d : Nat) : Keeps K (w.at d) w := ⟨rfl, rfl, rfl, Nat.le_refl _, fun _ _ h _ => h⟩
theorem Fin.back (O : C.Ok) (d : Nat) (h : Fin C bs0 a b (w.at d) t) : Fin C bs0 a b w t :=
  ⟨h.run, h.past, h.quits, let ⟨s, h1, h2, h4, h3⟩ := h.post; ⟨s, h1, (O.postAt _ _ _ _).1 h2, O.fbB _ _ _ (.back _ _ d) h4, fun x hx => O.msgB _ _ _ _ (.back _ _ d) (h3 x hx)⟩⟩

theorem J.at (O : C.Ok) (d : Nat) (h : J C bs0 μ a b w t) : J C bs0 μ a b (w.at d) t := by
  rcases h with ⟨e, h⟩ | ⟨sent, ta, tb, ra, rb, e, hall, h⟩ | ⟨bs, sent, ra, rb, e, hall, h⟩
  · exact .inl ⟨e, h.at O d⟩
  · obtain ⟨dB, hti, hsb⟩ := h.ti
    exact .inr (.inl ⟨sent, ta, tb, ra, rb, e, hall, h.ch, h.wg, ⟨dB, hti.at O d, hsb.rely (rb_at d)⟩, h.sa.rely (ra_at O d), h.nb, fun x hx => O.msgB _ _ _ _ (.at _ _ _) (h.msgs x hx), fun hn => ⟨O.fbB _ _ _ (.at _ _ _) (h.rel hn).1, (h.rel hn).2⟩⟩)
  · exact .inr (.inr ⟨bs, sent, ra, rb, e, hall, h.ch, h.wg, h.ti.at O d, h.sa.rely (ra_at O d), h.sb.rely O (rb_at d), h.nb, fun x hx => O.msgB _ _ _ _ (.at _ _ _) (h.msgs x hx)⟩)

theorem J.mute (O : C.Ok) {i : Nat} {fn : FuncId} {pos : String} {es : Array Event} (h0 : i ≠ 0) (hk : i ≠ C.k) (hm : ∀ e ∈ es, Event.mute e = true) (h : J C bs0 μ a b w t) : J C bs0 μ a b w (t ++ MemOp.ofEvents i fn pos es) := by
  rcases h with ⟨e, h⟩ | ⟨sent, ta, tb, ra, rb, e, hall, h⟩ | ⟨bs, sent, ra, rb, e, hall, h⟩
  · refine .inl ⟨e, h.run, h.past.mute h0 hm, ?_, h.post⟩
    rw [Deaf_other t (g := C.k) (g' := i) hk _ (fun op hop => g_ofEvents hop)]
    exact h.quits
  · obtain ⟨dB, hti, hsb⟩ := h.ti
    refine .inr (.inl ⟨sent, ta, tb, ra, rb, e, hall, h.ch, h.wg, ⟨dB, ti_leaver O hti h0 hk hm _ _, hsb⟩, h.sa, h.nb, h.msgs, fun hn => ⟨(h.rel hn).1, let ⟨r, hR⟩ := (h.rel hn).2; ⟨r, hR.appOther fun op hop => ?_⟩⟩⟩)
    obtain ⟨e, he, rfl⟩ := Conc.mem_ofEvents hop
    refine ⟨hk, fun x => ?_⟩
    have := hm e he
    obtain ⟨loc, wr, sy⟩ := e
    cases loc with
    | mark m =>
      cases wr <;> cases sy <;> simp [MemAct.ofEvent] at x <;> subst x <;> simp [Event.mute] at this
    | _ => simp [Event.mute] at this
  · exact .inr (.inr ⟨bs, sent, ra, rb, e, hall, h.ch, h.wg, ti_leaver O h.ti h0 hk hm _ _, h.sa, h.sb, h.nb, h.msgs⟩)

theorem J.wake (O : C.Ok) (g g' : Goroutine) (h : J C bs0 μ a b w t) : ∃ μ', J C bs0 μ' (woken C.P g g' w a) (woken C.P g g' w b) w t := by
  rcases h with ⟨e, h⟩ | ⟨sent, ta, tb, ra, rb, e, hall, h⟩ | ⟨bs, sent, ra, rb, e, hall, h⟩
  · obtain ⟨n, hq⟩ := h.quits
    refine ⟨(0, 0), .inl ⟨rfl, ?_⟩⟩
    rw [woken_same (.inl h.run), woken_quitsD hq]
    exact h
  · obtain ⟨dB, hti, hsb⟩ := h.ti
    obtain ⟨ra', _, hnz, hsa⟩ := h.sa.woken (P := C.P) g g' w
    refine ⟨_, .inr (.inl ⟨sent, ta, tb, ra', rb, rfl, hall, h.ch, h.wg, ⟨dB, hti, ?_⟩, hsa, fun e => hnz (h.nb e), h.msgs, h.rel⟩)⟩
    rw [hsb.woken]
    exact hsb
  · obtain ⟨s, r, tm, hc⟩ := h.ch
    refine ⟨_, .inr (.inr ⟨bs, sent, ra, rb, rfl, hall, h.ch, h.wg, h.ti, ?_, ?_, h.nb, h.msgs⟩)⟩
    · rw [h.sa.woken hc]; exact h.sa
    · rw [h.sb.woken hc]; exact h.sb

theorem J.awake (h : J C bs0 μ a b w t) : awake a ∧ awake b ∧ (a.status = .running ∨ b.status = .running) := by
  have aw : ∀ {g : Goroutine}, (g.status = .running ∨ g.status = .blocked ∨ g.status = .finished) → Conc.awake g := fun h t e => by
    rcases h with x | x | x <;> rw [x] at e <;> cases e
  rcases h with ⟨e, h⟩ | ⟨sent, ta, tb, ra, rb, e, hall, h⟩ | ⟨bs, sent, ra, rb, e, hall, h⟩
  · obtain ⟨n, hq⟩ := h.quits
    exact ⟨aw (.inl h.run), aw (hq.status.imp id .inr), .inl h.run⟩
  · obtain ⟨dB, hti, hsb⟩ := h.ti
    rcases h.sa.status with ⟨ha, hnz⟩ | ⟨ha, hz, _⟩
    · exact ⟨aw (.inl ha), aw (hsb.status.imp id fun x => .inr x.1), .inl ha⟩
    · rcases hsb.status with hb | ⟨hb, hq⟩
      · exact ⟨aw (.inr (.inl ha)), aw (.inl hb), .inr hb⟩
      · exact absurd hz (h.nb hq)
  · rcases h.sa.status with ⟨ha, hnz⟩ | ⟨ha, hz⟩
    · exact ⟨aw (.inl ha), aw (h.sb.status.imp (·.1) fun x => .inl x.1), .inl ha⟩
    · rcases h.sb.status with ⟨hb, _⟩ | ⟨hb, hz'⟩
      · exact ⟨aw (.inr (.inl ha)), aw (.inl hb), .inr hb⟩
      · exact absurd ⟨hz, hz'⟩ h.nb

theorem J.step (O : C.Ok) (h : J C bs0 μ a b w t) : Fin C bs0 a b w t ∨ ((a.status = .running → StepA C.P C.k a b w t fun a' b' w' t' => ∃ μ', Less μ' μ ∧ J C bs0 μ' a' b' w' t') ∧ (b.status = .running → StepB C.P C.k a b w t fun a' b' w' t' => ∃ μ', Less μ' μ ∧ J C bs0 μ' a' b' w' t')) := by
  rcases h with ⟨e, h⟩ | ⟨sent, ta, tb, ra, rb, rfl, hall, h⟩ | ⟨bs, sent, ra, rb, rfl, hall, h⟩
  · exact .inl h
  · exact .inr ⟨stepA2 O hall h, stepB2 O hall h⟩
  · exact .inr ⟨stepA1 O hall h, stepB1 O hall h⟩

/-- THE PAIR's WHOLE RUN: to the caller's 'acquire', all others leaving. -/
theorem pair_ends (O : C.Ok) {gs : Array Goroutine} {sl : Option (Nat × Nat)} {q : Nat → Nat} (h0 : gs[0]? = some a) (hb : gs[C.k]? = some b) (hO : Others C.P t gs C.k q) (hJ : J C bs0 μ a b w t) :
    ∃ (N : Nat) (gs' : Array Goroutine) (a' : Goroutine) (w' : World) (sl' : Option (Nat × Nat)) (t' : Trace) (q' : Nat → Nat),
      runNT C.P N (crowd gs w sl) t = (.next (crowd gs' w' sl'), t') ∧ gs'.size = gs.size ∧ gs'[0]? = some a' ∧ a'.status = .running ∧ (∃ sent, sent.map (·.1) = bs0 ∧ C.PostA sent a' w' ∧ C.FB sent w' ∧ ∀ x ∈ sent, C.Msg x.1 x.2 w') ∧
      Leavers C.P t' gs' q' ∧ Past (fun l => C.Shun l ∨ IsWg C.Wg l) w'.heap.size t' := by
  obtain ⟨N, gs', a', b', w', sl', t', q', hr, hz, x0, xb, xF, xO⟩ := pair_run (P := C.P) (k := C.k) (lt := Less) (J := J C bs0) (Fin := Fin C bs0) O.hk less_wf
    (fun μ a b w t d h => h.at O d) (fun a b w t d h => h.back O d) (fun μ a b w t i fn pos es h0 hk hm h => h.mute O h0 hk hm) (fun μ a b w t g g' h => h.wake O g g') (fun μ a b w t h => h.awake) (fun μ a b w t h => h.step O)
    (sumTo gs.size q) μ gs a b w sl t q (Nat.le_refl _) h0 hb hO hJ
  obtain ⟨n, hq⟩ := xF.quits
  refine ⟨N, gs', a', w', sl', t', upd q' C.k n, hr, hz, x0, xF.run, xF.post, ⟨fun i g hi hg => ?_, xO.above⟩, xF.past⟩
  by_cases hik : i = C.k
  · subst hik
    rw [xb] at hg
    obtain rfl := Option.some.inj hg
    rw [upd_same]
    exact hq
  · rw [upd_ne q' n hik]
    exact xO.old i g hi hik hg
end
end Go.Pair
