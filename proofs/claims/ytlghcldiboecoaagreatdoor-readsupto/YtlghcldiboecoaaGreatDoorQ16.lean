/- The steps while the channel is open, and the whole run. -/
import Derived.Test.YtlghcldiboecoaaGreatDoorQ15
set_option linter.unusedVariables false
set_option linter.unusedSimpArgs false
namespace Go.Pair
open Go Go.Conc

section
variable {C : Cfg} {bs0 : List C.β} {sent : List (C.β × Value)} {w w' : World} {t : Trace} {a b : Goroutine} {ra rb : Nat} {bs : List C.β}

/-- The channel's block is laid anew. -/
theorem put_ch (O : C.Ok) {o : Obj} : RA C sent w { w with heap := w.heap.setIfInBounds C.Ch o } ∧ RB C w { w with heap := w.heap.setIfInBounds C.Ch o } := by
  have hw : WgAny C.ty C.Wg w → WgAny C.ty C.Wg { w with heap := w.heap.setIfInBounds C.Ch o } := any_of_same (put_other O.neq)
  exact ⟨ra_of O (keeps_put fun i o k => (O.ka i o k).2) (keeps_put fun i o k => (O.kb i o k).2) hw, ⟨keeps_put fun i o k => (O.kb i o k).2, hw⟩⟩

theorem AStop.again {g : Goroutine} {w : World} {cs : Array CommCase} {sh : CommShape} (h : AStop C bs sent g w) : AStop C bs sent { parked (core g) cs sh with status := .running } w := by
  have e : stepG C.P true { parked (core g) cs sh with status := .running } w = stepG C.P true g w := stepG_same rfl rfl rfl w
  cases bs <;> exact let ⟨_, z, h1, h2⟩ := h; ⟨rfl, z, by rw [e]; exact h1, h2⟩

theorem map_snoc {b' : C.β} {v : Value} {bs' : List C.β} (h : sent.map (·.1) ++ b' :: bs' = bs0) : (sent ++ [(b', v)]).map (·.1) ++ bs' = bs0 := by
  simpa using h

/-- The two meet. -/
theorem meets (O : C.Ok) (h : J1 C sent bs ra rb a b w t) {b' : C.β} {bs' : List C.β} (e : bs = b' :: bs') (hall : sent.map (·.1) ++ bs = bs0) {v : Value} {s r : Nat} {tm : Bool} (hc : w.heap[C.Ch]? = some (.chan 0 #[] false s r tm))
    {a' b'' : Goroutine} (hA : ARecvs C bs' (sent ++ [(b', v)]) a' (w.setChan C.Ch 0 #[] false (s + 1) (r + 1) tm)) (hB : BSends C bs' (sent ++ [(b', v)]) b'' (w.setChan C.Ch 0 #[] false (s + 1) (r + 1) tm)) (hm : C.Msg b' v w)
    {u : Trace} (hu : ∀ op ∈ u, op.act.touch? = none ∧ (∀ m, op.act ≠ .mark m) ∧ op.act.low (w.setChan C.Ch 0 #[] false (s + 1) (r + 1) tm).heap.size) {x : Nat} :
    ∃ μ', Less μ' (bs.length + 40, x) ∧ J C bs0 μ' a' b'' (w.setChan C.Ch 0 #[] false (s + 1) (r + 1) tm) (t ++ u) := by
  obtain ⟨n, hA⟩ := (arecvs_iff C _ _ _ _).1 hA
  obtain ⟨m, hB⟩ := (bsends_iff C _ _ _ _).1 hB
  subst e
  have hput := put_ch (C := C) (sent := sent) (w := w) O (o := .chan 0 #[] false (s + 1) (r + 1) tm)
  refine ⟨(bs'.length + 40, (n + 1) + 2 * (m + 1)), .left _ _ (by simp), .inr (.inr ⟨bs', sent ++ [(b', v)], n + 1, m + 1, rfl, map_snoc hall, ⟨s + 1, r + 1, tm, put_self (lt_of_get hc)⟩, ?_, ti_comm O h.ti (grow_put hc rfl) hu, .inl ⟨n, rfl, hA⟩, .inl ⟨m, rfl, hB⟩, by omega, fun y hy => ?_⟩)⟩
  · have := h.wg
    unfold WgIs at this ⊢
    rw [← this]
    exact put_other O.neq
  · rcases List.mem_append.1 hy with hy | hy
    · exact O.msgB _ _ _ _ hput.2.keep (h.msgs y hy)
    · simp at hy
      subst hy
      exact O.msgB _ _ _ _ hput.2.keep hm

theorem comm_ops {x y z u : MemOp} {c s r cap : Nat} (hc : c < w.heap.size) (h1 : x.act = .send c s) (h2 : y.act = .recv c r cap) (h3 : z.act = .sendDone c s) (h4 : u.act = .recvDone c r) {g : Nat} {fn : FuncId} {pos : String} :
    ∀ op ∈ MemOp.ofEvents g fn pos #[] ++ #[x, y, z, u], op.act.touch? = none ∧ (∀ m, op.act ≠ .mark m) ∧ op.act.low w.heap.size := fun op hop => by
  simp [MemOp.ofEvents] at hop
  rcases hop with rfl | rfl | rfl | rfl
  · rw [h1]; exact ⟨rfl, by simp, hc⟩
  · rw [h2]; exact ⟨rfl, by simp, hc⟩
  · rw [h3]; exact ⟨rfl, by simp, hc⟩
  · rw [h4]; exact ⟨rfl, by simp, hc⟩

theorem nil_ops {t : Trace} {g : Nat} {fn : FuncId} {pos : String} : t ++ MemOp.ofEvents g fn pos #[] = t := by simp [MemOp.ofEvents]

theorem stepA1 (O : C.Ok) (hall : sent.map (·.1) ++ bs = bs0) (h : J1 C sent bs ra rb a b w t) (hrun : a.status = .running) :
    StepA C.P C.k a b w t fun a' b' w' t' => ∃ μ', Less μ' (bs.length + 40, ra + 2 * rb) ∧ J C bs0 μ' a' b' w' t' := by
  obtain ⟨s, r, tm, hc⟩ := h.ch
  rcases h.sa with ⟨n, rfl, hg⟩ | ⟨_, g, z, rfl, _⟩
  rotate_left
  · cases hrun
  rcases hg.cases with hstop | ⟨n', rfl, hstep⟩
  rotate_left
  · obtain ⟨g', w1, es, hst, D, hG⟩ := hstep w (RA.refl _ _ _)
    have hc' : w1.heap[C.Ch]? = some (.chan 0 #[] false s r tm) := by rw [D.ch]; exact hc
    refine .inl ⟨g', w1, es, hst, _, .right _ (show (n' + 1) + 2 * rb < (n' + 1 + 1) + 2 * rb by omega), .inr (.inr ⟨bs, sent, n' + 1, rb, rfl, hall, ⟨s, r, tm, hc'⟩, by have := h.wg; unfold WgIs at *; rw [D.wg]; exact this, ti_privA O h.ti D _ _, .inl ⟨n', rfl, hG⟩, ?_, by omega, fun x hx => O.msgB _ _ _ _ D.keep (h.msgs x hx)⟩)⟩
    have hsb := h.sb.rely O D.toB
    rw [hsb.woken hc']
    exact hsb
  have hS := hstop w (RA.refl _ _ _)
  obtain ⟨_, z, hcm⟩ := AStop.comm C hS
  rcases h.sb with ⟨m, rfl, hgb⟩ | ⟨rfl, b', bs', gb, v, zb, rfl, rfl, hm, hnext⟩
  · -- it waits
    refine .inr (.inl ⟨core a, C.Ch, z, #[], s, r, tm, hcm, hc, ?_, _, .right _ (show 0 + 2 * (m + 1) < (n + 1) + 2 * (m + 1) by omega), .inr (.inr ⟨bs, sent, 0, m + 1, rfl, hall, ⟨s, r, tm, hc⟩, h.wg, ?_, .inr ⟨rfl, a, z, rfl, hstop⟩, .inl ⟨m, rfl, hgb⟩, by omega, h.msgs⟩)⟩)
    · rw [hgb.running (fun _ _ => BStop.running C) w (RB.refl _ _)]; simp
    · rw [nil_ops]; exact h.ti
  · -- it meets the sender
    obtain ⟨_, z', hcm', hA⟩ := hS
    have hput := put_ch (C := C) (sent := sent) (w := w) O (o := .chan 0 #[] false (s + 1) (r + 1) tm)
    refine .inr (.inr (.inl ⟨core a, C.Ch, z, #[], s, r, tm, core gb, v, zb, hcm, hc, rfl, meets O h rfl hall hc (hA v _ hput.1 (O.msgB _ _ _ _ hput.2.keep hm)) (hnext _ hput.2) hm (comm_ops (c := C.Ch) (s := s) (r := r) (cap := 0) ?_ rfl rfl rfl rfl)⟩))
    have := lt_of_get hc
    simpa [World.setChan] using this

theorem stepB1 (O : C.Ok) (hall : sent.map (·.1) ++ bs = bs0) (h : J1 C sent bs ra rb a b w t) (hrun : b.status = .running) :
    StepB C.P C.k a b w t fun a' b' w' t' => ∃ μ', Less μ' (bs.length + 40, ra + 2 * rb) ∧ J C bs0 μ' a' b' w' t' := by
  obtain ⟨s, r, tm, hc⟩ := h.ch
  rcases h.sb with ⟨n, rfl, hg⟩ | ⟨_, _, _, g, v, z, _, rfl, _⟩
  rotate_left
  · cases hrun
  rcases hg.cases with hstop | ⟨n', rfl, hstep⟩
  rotate_left
  · obtain ⟨g', w1, es, hst, D, hG⟩ := hstep w (RB.refl _ _)
    have hc' : w1.heap[C.Ch]? = some (.chan 0 #[] false s r tm) := by rw [D.ch]; exact hc
    refine .inl ⟨g', w1, es, hst, _, .right _ (show ra + 2 * (n' + 1) < ra + 2 * (n' + 1 + 1) by omega), .inr (.inr ⟨bs, sent, ra, n' + 1, rfl, hall, ⟨s, r, tm, hc'⟩, by have := h.wg; unfold WgIs at *; rw [D.wg]; exact this, ti_privB O h.ti D _ _, ?_, .inl ⟨n', rfl, hG⟩, by omega, fun x hx => D.msg x hx (h.msgs x hx)⟩)⟩
    have hsa := h.sa.rely D.toA
    rw [hsa.woken hc']
    exact hsa
  have hS := hstop w (RB.refl _ _)
  cases bs with
  | nil =>
    -- the close
    obtain ⟨_, hmw, hcl⟩ := hS
    obtain ⟨g₂, hstp, hrun₂, m, hG⟩ := hcl s r tm hc
    have hput := put_ch (C := C) (sent := sent) (w := w) O (o := .chan 0 #[] true s r tm)
    have hc' : (w.shut C.Ch s r tm).heap[C.Ch]? = some (.chan 0 #[] true s r tm) := put_self (lt_of_get hc)
    have hall' : sent.map (·.1) = bs0 := by simpa using hall
    have hlt : C.Ch < (w.shut C.Ch s r tm).heap.size := lt_of_get hc'
    have key : ∃ ra', ra' ≠ 0 ∧ SitA2 C sent .rc ra' (woken C.P b g₂ (w.shut C.Ch s r tm) a) (w.shut C.Ch s r tm) := by
      rcases h.sa.rely hput.1 with ⟨k, rfl, hga⟩ | ⟨_, g, z, rfl, hs⟩
      · rw [woken_same (.inl (hga.running (fun _ _ => AStop.running) _ (RA.refl _ _ _)))]
        exact ⟨k + 1, by omega, .inl ⟨k, rfl, hga⟩⟩
      · refine ⟨1, by omega, .inl ⟨0, rfl, fun w₁ h₁ => ?_⟩⟩
        have e : woken C.P b g₂ (w.shut C.Ch s r tm) (parked (core g) #[rcase C.Ch z] (.recv true)) = { parked (core g) #[rcase C.Ch z] (.recv true) with status := .running } := by
          unfold woken
          rw [if_pos (wake_of hmw (.inl hrun₂))]
          exact again_recv_closed hc'
        rw [e]
        exact AStop.again (bs := []) (hs w₁ h₁)
    obtain ⟨ra', hnz, hsa⟩ := key
    refine .inl ⟨g₂, _, _, hstp, (rkA .rc + rkB .r0, ra' + 2 * (m + 1)), .left _ _ (by simp [rkA, rkB]), .inr (.inl ⟨sent, .rc, .r0, ra', m + 1, rfl, hall', ⟨s, r, tm, hc'⟩, ⟨KK, 0, rfl, ?_⟩, ⟨0, ti_close O h.ti (show Grow w (w.shut C.Ch s r tm) from grow_put hc rfl) hlt _ _, .inl ⟨by simp, rfl, m, rfl, hG⟩⟩, hsa, (fun e => by cases e), fun x hx => O.msgB _ _ _ _ hput.2.keep (h.msgs x hx), fun e => absurd rfl e⟩)⟩
    have := h.wg
    unfold WgIs at this ⊢
    rw [← this]
    exact put_other O.neq
  | cons b' bs' =>
    obtain ⟨_, v, z, hcm, hm, hnext⟩ := hS
    rcases h.sa with ⟨k, rfl, hga⟩ | ⟨rfl, g, za, rfl, hs⟩
    · refine .inr (.inl ⟨core b, C.Ch, v, z, #[], s, r, tm, hcm, hc, ?_, _, .right _ (show (k + 1) + 2 * 0 < (k + 1) + 2 * (n + 1) by omega), .inr (.inr ⟨b' :: bs', sent, k + 1, 0, rfl, hall, ⟨s, r, tm, hc⟩, h.wg, ?_, .inl ⟨k, rfl, hga⟩, .inr ⟨rfl, b', bs', b, v, z, rfl, rfl, hm, hnext⟩, by omega, h.msgs⟩)⟩)
      · rw [hga.running (fun _ _ => AStop.running) w (RA.refl _ _ _)]; simp
      · rw [nil_ops]; exact h.ti
    · obtain ⟨_, z', hcm', hA⟩ := hs w (RA.refl _ _ _)
      have hput := put_ch (C := C) (sent := sent) (w := w) O (o := .chan 0 #[] false (s + 1) (r + 1) tm)
      refine .inr (.inr ⟨core b, C.Ch, v, z, #[], s, r, tm, core g, za, hcm, hc, rfl, meets O h rfl hall hc (hA v _ hput.1 (O.msgB _ _ _ _ hput.2.keep hm)) (hnext _ hput.2) hm (comm_ops (c := C.Ch) (s := s) (r := r) (cap := 0) ?_ rfl rfl rfl rfl)⟩)
      have := lt_of_get hc
      simpa [World.setChan] using this

end
end Go.Pair

/- The pair's whole run, from the start of the worker to the caller's 'acquire'. -/
set_option linter.unusedVariables false
set_option linter.unusedSimpArgs false
namespace Go.Pair
open Go Go.Conc
open Go.ConcN (sumTo upd sumTo_upd upd_ne upd_same)

section
variable {C : Cfg} {bs0 : List C.β} {w : World} {t : Trace} {a b : Goroutine} {μ : Nat × Nat}

theorem Fin.at (O : C.Ok) (h : Fin C bs0 a b w t) (d : Nat) : Fin C bs0 a b (w.at d) t :=
  ⟨h.run, h.past, h.quits, let ⟨s, h1, h2, h4, h3⟩ := h.post; ⟨s, h1, (O.postAt _ _ _ _).2 h2, O.fbB _ _ _ (.at _ _ _) h4, fun x hx => O.msgB _ _ _ _ (.at _ _ _) (h3 x hx)⟩⟩

theorem Keeps.back (K : Nat → Obj → Prop) (w : World) (d : Nat) : Keeps K (w.at d) w := ⟨rfl, rfl, rfl, Nat.le_refl _, fun _ _ h _ => h⟩
theorem Fin.back (O : C.Ok) (d : Nat) (h : Fin C bs0 a b (w.at d) t) : Fin C bs0 a b w t :=
  ⟨h.run, h.past, h.quits, let ⟨s, h1, h2, h4, h3⟩ := h.post; ⟨s, h1, (O.postAt _ _ _ _).1 h2, O.fbB _ _ _ (.back _ _ d) h4, fun x hx => O.msgB _ _ _ _ (.back _ _ d) (h3 x hx)⟩⟩

theorem J.at (O : C.Ok) (d : Nat) (h : J C bs0 μ a b w t) : J C bs0 μ a b (w.at d) t := by
  rcases h with ⟨e, h⟩ | ⟨sent, ta, tb, ra, rb, e, hall, h⟩ | ⟨bs, sent, ra, rb, e, hall, h⟩
  · exact .inl ⟨e, h.at O d⟩
  · obtain ⟨dB, hti, hsb⟩ := h.ti
    exact .inr (.inl ⟨sent, ta, tb, ra, rb, e, hall, h.ch, h.wg, ⟨dB, hti.at O d, hsb.rely (rb_at d)⟩, h.sa.rely (ra_at O d), h.nb, fun x hx => O.msgB _ _ _ _ (.at _ _ _) (h.msgs x hx), fun hn => ⟨O.fbB _ _ _ (.at _ _ _) (h.rel hn).1, (h.rel hn).2⟩⟩)
  · exact .inr (.inr ⟨bs, sent, ra, rb, e, hall, h.ch, h.wg, h.ti.at O d, h.sa.rely (ra_at O d), h.sb.rely O (rb_at d), h.nb, fun x hx => O.msgB _ _ _ _ (.at _ _ _) (h.msgs x hx)⟩)

theorem J.mute (O : C.Ok) {i : Nat} {fn : FuncId} {pos : String} {es : Array Event} (h0 : i ≠ 0) (hk : i ≠ C.k) (hm : ∀ e ∈ es, Event.mute e = true) (h : J C bs0 μ a b w t) : J C bs0 μ a b w (t ++ MemOp.ofEvents i fn pos es) := by
  rcases h with ⟨e, h⟩ | ⟨sent, ta, tb, ra, rb, e, hall, h⟩ | ⟨bs, sent, ra, rb, e, hall, h⟩
  · refine .inl ⟨e, h.run, h.past.mute h0 hm, ?_, h.post⟩
    rw [Deaf_other t (g := C.k) (g' := i) hk _ (fun op hop => g_ofEvents hop)]
    exact h.quits
  · obtain ⟨dB, hti, hsb⟩ := h.ti
    refine .inr (.inl ⟨sent, ta, tb, ra, rb, e, hall, h.ch, h.wg, ⟨dB, ti_leaver O hti h0 hk hm _ _, hsb⟩, h.sa, h.nb, h.msgs, fun hn => ⟨(h.rel hn).1, let ⟨r, hR⟩ := (h.rel hn).2; ⟨r, hR.appOther fun op hop => ?_⟩⟩⟩)
    obtain ⟨e, he, rfl⟩ := Conc.mem_ofEvents hop
    refine ⟨hk, fun x => ?_⟩
    have := hm e he
    obtain ⟨loc, wr, sy⟩ := e
    cases loc with
    | mark m =>
      cases wr <;> cases sy <;> simp [MemAct.ofEvent] at x <;> subst x <;> simp [Event.mute] at this
    | _ => simp [Event.mute] at this
  · exact .inr (.inr ⟨bs, sent, ra, rb, e, hall, h.ch, h.wg, ti_leaver O h.ti h0 hk hm _ _, h.sa, h.sb, h.nb, h.msgs⟩)

theorem J.wake (O : C.Ok) (g g' : Goroutine) (h : J C bs0 μ a b w t) : ∃ μ', J C bs0 μ' (woken C.P g g' w a) (woken C.P g g' w b) w t := by
  rcases h with ⟨e, h⟩ | ⟨sent, ta, tb, ra, rb, e, hall, h⟩ | ⟨bs, sent, ra, rb, e, hall, h⟩
  · obtain ⟨n, hq⟩ := h.quits
    refine ⟨(0, 0), .inl ⟨rfl, ?_⟩⟩
    rw [woken_same (.inl h.run), woken_quitsD hq]
    exact h
  · obtain ⟨dB, hti, hsb⟩ := h.ti
    obtain ⟨ra', _, hnz, hsa⟩ := h.sa.woken (P := C.P) g g' w
    refine ⟨_, .inr (.inl ⟨sent, ta, tb, ra', rb, rfl, hall, h.ch, h.wg, ⟨dB, hti, ?_⟩, hsa, fun e => hnz (h.nb e), h.msgs, h.rel⟩)⟩
    rw [hsb.woken]
    exact hsb
  · obtain ⟨s, r, tm, hc⟩ := h.ch
    refine ⟨_, .inr (.inr ⟨bs, sent, ra, rb, rfl, hall, h.ch, h.wg, h.ti, ?_, ?_, h.nb, h.msgs⟩)⟩
    · rw [h.sa.woken hc]; exact h.sa
    · rw [h.sb.woken hc]; exact h.sb

theorem J.awake (h : J C bs0 μ a b w t) : awake a ∧ awake b ∧ (a.status = .running ∨ b.status = .running) := by
  have aw : ∀ {g : Goroutine}, (g.status = .running ∨ g.status = .blocked ∨ g.status = .finished) → Conc.awake g := fun h t e => by
    rcases h with x | x | x <;> rw [x] at e <;> cases e
  rcases h with ⟨e, h⟩ | ⟨sent, ta, tb, ra, rb, e, hall, h⟩ | ⟨bs, sent, ra, rb, e, hall, h⟩
  · obtain ⟨n, hq⟩ := h.quits
    exact ⟨aw (.inl h.run), aw (hq.status.imp id .inr), .inl h.run⟩
  · obtain ⟨dB, hti, hsb⟩ := h.ti
    rcases h.sa.status with ⟨ha, hnz⟩ | ⟨ha, hz, _⟩
    · exact ⟨aw (.inl ha), aw (hsb.status.imp id fun x => .inr x.1), .inl ha⟩
    · rcases hsb.status with hb | ⟨hb, hq⟩
      · exact ⟨aw (.inr (.inl ha)), aw (.inl hb), .inr hb⟩
      · exact absurd hz (h.nb hq)
  · rcases h.sa.status with ⟨ha, hnz⟩ | ⟨ha, hz⟩
    · exact ⟨aw (.inl ha), aw (h.sb.status.imp (·.1) fun x => .inl x.1), .inl ha⟩
    · rcases h.sb.status with ⟨hb, _⟩ | ⟨hb, hz'⟩
      · exact ⟨aw (.inr (.inl ha)), aw (.inl hb), .inr hb⟩
      · exact absurd ⟨hz, hz'⟩ h.nb

theorem J.step (O : C.Ok) (h : J C bs0 μ a b w t) : Fin C bs0 a b w t ∨ ((a.status = .running → StepA C.P C.k a b w t fun a' b' w' t' => ∃ μ', Less μ' μ ∧ J C bs0 μ' a' b' w' t') ∧ (b.status = .running → StepB C.P C.k a b w t fun a' b' w' t' => ∃ μ', Less μ' μ ∧ J C bs0 μ' a' b' w' t')) := by
  rcases h with ⟨e, h⟩ | ⟨sent, ta, tb, ra, rb, rfl, hall, h⟩ | ⟨bs, sent, ra, rb, rfl, hall, h⟩
  · exact .inl h
  · exact .inr ⟨stepA2 O hall h, stepB2 O hall h⟩
  · exact .inr ⟨stepA1 O hall h, stepB1 O hall h⟩

/-- THE PAIR's WHOLE RUN: to the caller's 'acquire', all others leaving. -/
theorem pair_ends (O : C.Ok) {gs : Array Goroutine} {sl : Option (Nat × Nat)} {q : Nat → Nat} (h0 : gs[0]? = some a) (hb : gs[C.k]? = some b) (hO : Others C.P t gs C.k q) (hJ : J C bs0 μ a b w t) :
    ∃ (N : Nat) (gs' : Array Goroutine) (a' : Goroutine) (w' : World) (sl' : Option (Nat × Nat)) (t' : Trace) (q' : Nat → Nat),
      runNT C.P N (crowd gs w sl) t = (.next (crowd gs' w' sl'), t') ∧ gs'.size = gs.size ∧ gs'[0]? = some a' ∧ a'.status = .running ∧ (∃ sent, sent.map (·.1) = bs0 ∧ C.PostA sent a' w' ∧ C.FB sent w' ∧ ∀ x ∈ sent, C.Msg x.1 x.2 w') ∧
      Leavers C.P t' gs' q' ∧ Past (fun l => C.Shun l ∨ IsWg C.Wg l) w'.heap.size t' := by
  obtain ⟨N, gs', a', b', w', sl', t', q', hr, hz, x0, xb, xF, xO⟩ := pair_run (P := C.P) (k := C.k) (lt := Less) (J := J C bs0) (Fin := Fin C bs0) O.hk less_wf
    (fun μ a b w t d h => h.at O d) (fun a b w t d h => h.back O d) (fun μ a b w t i fn pos es h0 hk hm h => h.mute O h0 hk hm) (fun μ a b w t g g' h => h.wake O g g') (fun μ a b w t h => h.awake) (fun μ a b w t h => h.step O)
    (sumTo gs.size q) μ gs a b w sl t q (Nat.le_refl _) h0 hb hO hJ
  obtain ⟨n, hq⟩ := xF.quits
  refine ⟨N, gs', a', w', sl', t', upd q' C.k n, hr, hz, x0, xF.run, xF.post, ⟨fun i g hi hg => ?_, xO.above⟩, xF.past⟩
  by_cases hik : i = C.k
  · subst hik
    rw [xb] at hg
    obtain rfl := Option.some.inj hg
    rw [upd_same]
    exact hq
  · rw [upd_ne q' n hik]
    exact xO.old i g hi hik hg

end
end Go.Pair

/- Goroutine 0's way to the end of the run, beside goroutines that only leave: backwards, step by step; and through a pair's whole run. -/
set_option linter.unusedVariables false
set_option linter.unusedSimpArgs false
namespace Go.Pair
open Go Go.Conc
open Go.ConcN (sumTo upd sumTo_upd upd_ne upd_same)

/-- What is held of the trace, where goroutine 0 may be deaf. -/
structure PastD (Shun : Loc → Prop) (B d : Nat) (t : Trace) : Prop where
  clean : ∀ said, ¬ Race said t
  known : ∀ i a, touchAt t i = some a → a.loc.isMemory = true → Knows t 0 i ∨ (Shun a.loc ∧ a.kind = .atomic)
  over : t.HandedOver
  hears : Deaf t 0 = d
  seen : ∀ op ∈ t, op.act.low B

theorem PastD.of {Shun : Loc → Prop} {B : Nat} {t : Trace} (h : Past Shun B t) : PastD Shun B 0 t := ⟨h.clean, h.known, h.over, h.hears, h.seen⟩
theorem PastD.to {Shun : Loc → Prop} {B : Nat} {t : Trace} (h : PastD Shun B 0 t) : Past Shun B t := ⟨h.clean, h.known, h.over, h.hears, h.seen⟩

/-- What a step of goroutine 0's may list: a shunned place it does not touch plainly; every address lies below B. -/
def EvD (Shun : Loc → Prop) (B : Nat) (e : Event) : Prop := (∀ x, (MemAct.ofEvent e).touch? = some x → Shun x.loc → x.kind ≠ .plain) ∧ (MemAct.ofEvent e).low B

section
variable {Shun : Loc → Prop} {B B' d : Nat} {t u : Trace}

theorem PastD.mono (h : PastD Shun B d t) (hB : B ≤ B') : PastD Shun B' d t := ⟨h.clean, h.known, h.over, h.hears, fun op hop => MemAct.low_mono hB (h.seen op hop)⟩

theorem PastD.own (h : PastD Shun B d t) (hB : B ≤ B') {fn : FuncId} {pos : String} {es : Array Event} (hes : ∀ e ∈ es, EvD Shun B' e) : PastD Shun B' (deafBehind d es) (t ++ MemOp.ofEvents 0 fn pos es) := by
  refine ⟨fun said => noRace_append (h.clean said) (fun op hop => g_ofEvents hop) fun i a ha op hop b hb hc => ?_, fun i a ha hm => ?_, handedOver_app h.over fun op hop => .inl (g_ofEvents hop), by rw [Deaf_own, h.hears], seen_app (fun op hop => MemAct.low_mono hB (h.seen op hop)) fun op hop => ?_⟩
  · rcases h.known i a ha hc.2.1 with hk | ⟨hsa, hka⟩
    · exact hk
    · obtain ⟨e, he, rfl⟩ := Conc.mem_ofEvents hop
      have hkb := (hes e he).1 b hb (hc.1 ▸ hsa)
      obtain ⟨_, _, _, hcase⟩ := hc
      rw [hka] at hcase
      rcases hcase with x | x | ⟨_, x, _⟩
      · cases x
      · exact absurd x hkb
      · cases x
  · obtain ⟨x, hx, hxa⟩ := touch_of ha
    rcases getElem?_append_cases hx with ⟨_, hx'⟩ | ⟨_, hxu⟩
    · exact (h.known i a (by rw [touchAt_of hx']; exact hxa) hm).imp (·.app _) id
    · have := knows_own hx
      rw [g_ofEvents hxu] at this
      exact .inl this
  · obtain ⟨e, he, rfl⟩ := Conc.mem_ofEvents hop
    exact (hes e he).2

theorem PastD.mute (h : PastD Shun B d t) {g : Nat} (hg : g ≠ 0) {fn : FuncId} {pos : String} {es : Array Event} (hm : ∀ e ∈ es, Event.mute e = true) : PastD Shun B d (t ++ MemOp.ofEvents g fn pos es) := by
  have hn : ∀ op ∈ MemOp.ofEvents g fn pos es, op.act.touch? = none := fun op hop => by obtain ⟨e, he, rfl⟩ := Conc.mem_ofEvents hop; exact touch_mute (hm e he)
  refine ⟨fun said => noRace_append (h.clean said) (fun op hop => g_ofEvents hop) fun i a _ op hop b hb _ => (by rw [hn op hop] at hb; cases hb), fun i a ha hm' => ?_, handedOver_app h.over fun op hop => .inr (hn op hop), (Deaf_other t hg _ fun op hop => g_ofEvents hop).trans h.hears, seen_app h.seen fun op hop => by obtain ⟨e, he, rfl⟩ := Conc.mem_ofEvents hop; exact low_mute (hm e he) B⟩
  obtain ⟨x, hx, hxa⟩ := touch_of ha
  rcases getElem?_append_cases hx with ⟨_, hx'⟩ | ⟨_, hxu⟩
  · exact (h.known i a (by rw [touchAt_of hx']; exact hxa) hm').imp (·.app _) id
  · rw [hn x hxu] at hxa; cases hxa

end

/-- GOROUTINE 0, FROM HERE, COMES TO ITS RETURN IN 'Post', WHOEVER ELSE IS LEAVING, ON WHATEVER TAPE. -/
def Ends (P : Program) (Post : Value → World → Prop) (Shun : Loc → Prop) (d : Nat) (g : Goroutine) (w : World) : Prop :=
  ∀ (gs : Array Goroutine) (sl : Option (Nat × Nat)) (t : Trace) (q : Nat → Nat), gs[0]? = some g → Leavers P t gs q → PastD Shun w.heap.size d t →
    ∃ N last o w' t', runNT P (N + 1) (crowd gs w sl) t = (.ended o w', t') ∧ runN P N (crowd gs w sl) = .next last ∧ step P last = .ended o w' ∧ Good P Post last o w' t'

section
variable {P : Program} {Post : Value → World → Prop} {Shun : Loc → Prop} {d : Nat} {g : Goroutine} {w : World}

theorem runNT_cons {N : Nat} {m m' : Machine} {t : Trace} {u : Array MemOp} {o : Outcome} {w' : World} {t' : Trace} (hs : stepT P m = (.next m', u)) (h : runNT P (N + 1) m' (t ++ u) = (.ended o w', t')) : runNT P (N + 1 + 1) m t = (.ended o w', t') := by
  rw [runNT_succ_next hs]; exact h

/-- A STEP. -/
theorem Ends.step (hrun : g.status = .running) (h : ∀ n, ∃ g' w' es, stepG P true g (w.at n) = .go g' w' es ∧ w.heap.size ≤ w'.heap.size ∧ (∀ e ∈ es, EvD Shun w'.heap.size e) ∧ Ends P Post Shun (deafBehind d es) g' w') : Ends P Post Shun d g w := by
  suffices H : ∀ (M : Nat) (gs : Array Goroutine) (w₁ : World) (sl : Option (Nat × Nat)) (t : Trace) (q : Nat → Nat), (∃ n, w₁ = w.at n) → sumTo gs.size q ≤ M → gs[0]? = some g → Leavers P t gs q → PastD Shun w.heap.size d t →
      ∃ N last o w' t', runNT P (N + 1) (crowd gs w₁ sl) t = (.ended o w', t') ∧ runN P N (crowd gs w₁ sl) = .next last ∧ Go.step P last = .ended o w' ∧ Good P Post last o w' t' from
    fun gs sl t q h0 hL hP => H _ gs w sl t q ⟨w.drawn, rfl⟩ (Nat.le_refl _) h0 hL hP
  intro M
  induction M using Nat.strongRecOn with
  | _ M ihM =>
  rintro gs w₁ sl t q ⟨n₁, rfl⟩ hM h0 hL hP
  have hlt0 : 0 < gs.size := (Array.getElem?_eq_some_iff.1 h0).1
  have haw : ∀ x ∈ gs, awake x := by
    intro x hx
    obtain ⟨i, hi, rfl⟩ := Array.mem_iff_getElem.1 hx
    rcases Nat.eq_zero_or_pos i with rfl | hpos
    · have : gs[0] = g := by simpa [Array.getElem?_eq_getElem hi] using h0
      rw [this]; exact awake_of (.inl hrun)
    · exact awake_of ((hL.old i _ hpos (Array.getElem?_eq_getElem hi)).status.elim .inl fun x => .inr (.inr x))
  obtain ⟨i, x, n, sl', hi, hx, hst⟩ := crowd_pick (P := P) (w := w.at n₁) (sl := sl) haw ⟨0, g, h0, hrun⟩
  have eat : (w.at n₁).at n = w.at n := rfl
  rw [eat] at hst
  rcases Nat.eq_zero_or_pos i with rfl | hpos
  · obtain rfl : x = g := by rw [h0] at hi; exact (Option.some.inj hi).symm
    obtain ⟨g', w', es, hs, hsz, hes, hE⟩ := h n
    have hrunT := runT_crowd_go (P := P) (sl := sl') (i := 0) hi (show stepG P (0 == 0) x (w.at n) = _ from hs)
    obtain ⟨N, last, o, wf, tf, r1, r2, r3, r4⟩ := hE ((gs.map (woken P x g' w')).setIfInBounds 0 g') sl' (t ++ MemOp.ofEvents 0 x.frame.fn x.frame.place es) q (by simp [hlt0])
      ⟨fun j y hj hy => by
        rw [Array.getElem?_setIfInBounds_ne (by omega), Array.getElem?_map] at hy
        obtain ⟨z, hz, rfl⟩ := Option.map_eq_some_iff.1 hy
        have hq := hL.old j z hj hz
        rw [woken_quitsD hq, Deaf_other t (by omega) _ (fun op hop => g_ofEvents hop)]
        exact hq, fun j hj => by
        rw [Deaf_other t (g' := 0) (by simp at hj; omega) _ (fun op hop => g_ofEvents hop)]
        exact hL.above j (by simpa using hj)⟩
      (hP.own hsz hes)
    have hstep := hst.trans hrunT
    exact ⟨N + 1, last, o, wf, tf, runNT_cons hstep r1, by rw [runN_succ_next hstep]; exact r2, r3, r4⟩
  · have hq := hL.old i x hpos hi
    have hi0 : (i == 0) = false := by simp; omega
    have hlt : i < gs.size := (Array.getElem?_eq_some_iff.1 hi).1
    cases hqi : q i with
    | zero => rw [hqi] at hq; rw [hq.1] at hx; cases hx
    | succ m =>
      rw [hqi] at hq
      rcases hq with ⟨hf, _⟩ | ⟨_, g', es, hm, hstp, hq'⟩
      · rw [hf] at hx; cases hx
      have hrunT := runT_crowd_go (P := P) (sl := sl') (i := i) hi (by rw [hi0]; exact hstp (w.at n))
      have hsum : sumTo gs.size (upd q i m) + (m + 1) = sumTo gs.size q + m := by
        have := sumTo_upd q m id hlt
        simpa [hqi] using this
      have hsz : ((gs.map (woken P x g' (w.at n))).setIfInBounds i g').size = gs.size := by simp
      obtain ⟨N, last, o, wf, tf, r1, r2, r3, r4⟩ := ihM (sumTo gs.size (upd q i m)) (by omega) ((gs.map (woken P x g' (w.at n))).setIfInBounds i g') (w.at n) sl' (t ++ MemOp.ofEvents i x.frame.fn x.frame.place es) (upd q i m) ⟨n, rfl⟩ (by rw [hsz]; exact Nat.le_refl _)
        (by rw [Array.getElem?_setIfInBounds_ne (by omega), Array.getElem?_map, h0]; simp [woken_run hrun])
        ⟨fun j y hj hy => by
          by_cases hji : i = j
          · subst hji
            rw [Array.getElem?_setIfInBounds_self_of_lt (by simpa using hlt)] at hy
            obtain rfl := Option.some.inj hy
            rw [upd_same, Deaf_own]
            exact hq'
          · rw [Array.getElem?_setIfInBounds_ne hji, Array.getElem?_map] at hy
            obtain ⟨z, hz, rfl⟩ := Option.map_eq_some_iff.1 hy
            have hqj := hL.old j z hj hz
            rw [woken_quitsD hqj, upd_ne q m (Ne.symm hji), Deaf_other t hji _ (fun op hop => g_ofEvents hop)]
            exact hqj, fun j hj => by
          rw [Deaf_other t (g' := i) (by simp at hj; omega) _ (fun op hop => g_ofEvents hop)]
          exact hL.above j (by simpa using hj)⟩ (hP.mute (by omega) hm)
      have hstep := hst.trans hrunT
      exact ⟨N + 1, last, o, wf, tf, runNT_cons hstep r1, by rw [runN_succ_next hstep]; exact r2, r3, r4⟩

/-- THE RETURN. -/
theorem Ends.ret (hrun : g.status = .running) (h : ∀ n, ∃ v es, stepG P true g (w.at n) = .ended (.done v) (w.at n) es ∧ (∀ e ∈ es, EvL Shun w.heap.size e) ∧ Post v (w.at n)) : Ends P Post Shun 0 g w := by
  intro gs sl t q h0 hL hP
  refine beside_ends (P := P) (Shun := Shun) (B := w.heap.size) (D := fun _ _ _ => False) (Post := Post) (n := 0) (fun _ _ _ x => x.elim) h0 hL hP.to fun w₁ h₁ => ?_
  obtain ⟨n, rfl⟩ := h₁
  obtain ⟨v, es, h1, h2, h3⟩ := h n
  exact ⟨hrun, v, es, h1, h2, h3⟩

/-- A walk. -/
theorem Ends.goes {D : World → World → Array Event → Prop} {Stop : Goroutine → World → Prop} (hD : ∀ w w' es, D w w' es → w.heap.size ≤ w'.heap.size ∧ ∀ e ∈ es, EvL Shun w'.heap.size e) (hS : ∀ g w, Stop g w → Ends P Post Shun d g w) :
    ∀ {n : Nat} {g : Goroutine} {w : World}, Goes P true AtRel D Stop n g w → Ends P Post Shun d g w
  | 0, g, w, h => hS g w (h w (atRel_refl w))
  | n + 1, g, w, h => by
    rcases h with h | ⟨hs, h⟩
    · exact hS g w (h w (atRel_refl w))
    · refine Ends.step hs fun k => ?_
      have := h (w.at k) ⟨k, rfl⟩
      obtain ⟨g', w', es, e, hd, hg⟩ := goes_elim this
      obtain ⟨h1, h2⟩ := hD _ _ _ hd
      refine ⟨g', w', es, e, h1, fun e he => ⟨(h2 e he).1, (h2 e he).2.2.2⟩, ?_⟩
      rw [deafBehind_still fun e he => ⟨(h2 e he).2.1, (h2 e he).2.2.1⟩]
      exact Ends.goes hD hS hg

end
end Go.Pair
