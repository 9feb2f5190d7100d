/- The caller's steps behind the close. -/
import Derived.Test.YtlghcldiboecoaaGreatDoorQ14
set_option linter.unusedVariables false
set_option linter.unusedSimpArgs false
namespace Go.Pair
open Go Go.Conc

section
variable (C : Cfg) (bs0 : List C.β)
/-- The end: the caller has acquired. -/
structure Fin (a b : Goroutine) (w : World) (t : Trace) : Prop where
  run : a.status = .running
  past : Past (fun l => C.Shun l ∨ IsWg C.Wg l) w.heap.size t
  quits : ∃ n, QuitsD C.P n (Deaf t C.k) b
  post : ∃ sent, sent.map (·.1) = bs0 ∧ C.PostA sent a w ∧ C.FB sent w ∧ ∀ x ∈ sent, C.Msg x.1 x.2 w

/-- Where the two stand, with what is left to do. -/
def J (μ : Nat × Nat) (a b : Goroutine) (w : World) (t : Trace) : Prop :=
  (μ = (0, 0) ∧ Fin C bs0 a b w t) ∨
  (∃ sent ta tb ra rb, μ = (rkA ta + rkB tb, ra + 2 * rb) ∧ sent.map (·.1) = bs0 ∧ J2 C sent ta tb ra rb a b w t) ∨
  (∃ bs sent ra rb, μ = (bs.length + 40, ra + 2 * rb) ∧ sent.map (·.1) ++ bs = bs0 ∧ J1 C sent bs ra rb a b w t)

abbrev Less : Nat × Nat → Nat × Nat → Prop := Prod.Lex (· < ·) (· < ·)
theorem less_wf : WellFounded Less := (Prod.lex ⟨_, Nat.lt_wfRel.wf⟩ ⟨_, Nat.lt_wfRel.wf⟩).wf
end

section
variable {C : Cfg} {bs0 : List C.β} {sent : List (C.β × Value)} {w w' : World} {t : Trace} {a b : Goroutine} {ta ta' : AT} {tb tb' : BT} {ra rb : Nat} {bs : List C.β}

theorem norel_A {es : Array Event} (h : ∀ e ∈ es, EvGA C.Wg e) (hk : 0 < C.k) (fn : FuncId) (pos : String) : ∀ op ∈ MemOp.ofEvents 0 fn pos es, op.g ≠ C.k ∧ op.act ≠ .mark (.release (stW C.Wg)) := by
  intro op hop
  obtain ⟨e, he, rfl⟩ := Conc.mem_ofEvents hop
  refine ⟨by show 0 ≠ C.k; omega, ?_⟩
  rcases h e he with ⟨a, wr, rfl, ha⟩ | rfl | rfl | rfl | rfl <;> simp [MemAct.ofEvent, mkE]

theorem norel_P {es : Array Event} {L : World → Loc → Bool → Prop} (h : ∀ e ∈ es, EvP L w' e) (hk : 0 < C.k) (fn : FuncId) (pos : String) : ∀ op ∈ MemOp.ofEvents 0 fn pos es, op.g ≠ C.k ∧ op.act ≠ .mark (.release (stW C.Wg)) := by
  intro op hop
  obtain ⟨e, he, rfl⟩ := Conc.mem_ofEvents hop
  refine ⟨by show 0 ≠ C.k; omega, ?_⟩
  rcases h e he with ⟨m, hm, hn⟩ | ⟨a, wr, rfl, _, _⟩
  · obtain ⟨loc, wr, sy⟩ := e
    simp only at hm
    subst hm
    unfold Neutral at hn
    subst hn
    cases wr <;> cases sy <;> simp [MemAct.ofEvent]
  · simp [MemAct.ofEvent]

/-- A private step of the caller's. -/
theorem J2.privA (O : C.Ok) (h : J2 C sent ta tb ra rb a b w t) {a' : Goroutine} {es : Array Event} (D : DA C w w' es) {ra' : Nat} (hs : SitA2 C sent ta ra' a' w') (hr : ra' ≠ 0) :
    J2 C sent ta tb ra' rb a' (woken C.P a a' w' b) w' (t ++ MemOp.ofEvents 0 a.frame.fn a.frame.place es) := by
  obtain ⟨dB, hti, hsb⟩ := h.ti
  rw [hsb.woken]
  obtain ⟨s, r, tm, hc⟩ := h.ch
  obtain ⟨st, sm, hst, hwg⟩ := h.wg
  exact ⟨⟨s, r, tm, by rw [D.ch]; exact hc⟩, ⟨st, sm, hst, by unfold WgIs at *; rw [D.wg]; exact hwg⟩, ⟨dB, ti_privA O hti D _ _, hsb.rely D.toB⟩, hs, fun _ => hr, fun x hx => O.msgB _ _ _ _ D.keep (h.msgs x hx),
    fun hne => ⟨O.fbB _ _ _ D.keep (h.rel hne).1, let ⟨r, hr⟩ := (h.rel hne).2; ⟨r, hr.appOther (norel_P D.ev O.hk _ _)⟩⟩⟩

/-- A step of the caller's at the group. -/
theorem J2.wgA (O : C.Ok) (h : J2 C sent ta tb ra rb a b w t) {a' : Goroutine} {es : Array Event} (hes : ∀ e ∈ es, EvGA C.Wg e) {ra' : Nat} {st sm : Int}
    (hw : w' = w ∨ ∃ ad v, w' = w.setCell ad v ∧ ad.block = C.Wg) (hst : stOf ta' tb = some (st, sm)) (hwg : WgIs C.ty C.Wg w' st sm) (hd : deafBehind (dfA ta) es = dfA ta') (hs : SitA2 C sent ta' ra' a' w') (hr : tb = .qt → ra' ≠ 0) :
    J2 C sent ta' tb ra' rb a' (woken C.P a a' w' b) w' (t ++ MemOp.ofEvents 0 a.frame.fn a.frame.place es) := by
  obtain ⟨dB, hti, hsb⟩ := h.ti
  rw [hsb.woken]
  obtain ⟨s, r, tm, hc⟩ := h.ch
  have hK : Keeps C.KB w w' := by
    rcases hw with rfl | ⟨ad, v, rfl, had⟩
    · exact .refl _ _
    · exact keeps_set ad v fun i o k => by rw [had]; exact (O.kb i o k).1
  have hG : Grow w w' := by
    rcases hw with rfl | ⟨ad, v, rfl, had⟩
    · exact .refl _
    · exact grow_set ad v
  have hC : w'.heap[C.Ch]? = w.heap[C.Ch]? := by
    rcases hw with rfl | ⟨ad, v, rfl, had⟩
    · rfl
    · exact set_other ad v (by rw [had]; exact Ne.symm O.neq)
  have hti' := ti_wgA O hti hG (wg_lt hwg) hes a.frame.fn a.frame.place
  rw [hd] at hti'
  exact ⟨⟨s, r, tm, by rw [hC]; exact hc⟩, ⟨st, sm, hst, hwg⟩, ⟨dB, hti', hsb.rely ⟨hK, fun _ => ⟨st, sm, hwg⟩⟩⟩, hs, hr, fun x hx => O.msgB _ _ _ _ hK (h.msgs x hx),
    fun hne => ⟨O.fbB _ _ _ hK (h.rel hne).1, let ⟨r, hr⟩ := (h.rel hne).2; ⟨r, hr.appOther (norel_A hes O.hk _ _)⟩⟩⟩

theorem ev_rd (Wg : Nat) : ∀ e ∈ (#[rdE (stW Wg)] : Array Event), EvGA Wg e := fun e he => by
  simp at he
  subst he
  exact .inl ⟨_, _, rfl, rfl⟩

theorem ev_rw (Wg : Nat) : ∀ e ∈ (#[rdE (stW Wg), wrE (stW Wg)] : Array Event), EvGA Wg e := fun e he => by
  simp at he
  rcases he with rfl | rfl
  · exact .inl ⟨_, _, rfl, rfl⟩
  · exact .inl ⟨_, _, rfl, rfl⟩

theorem ev_sem (Wg : Nat) : ∀ e ∈ semEvents (smW Wg), EvGA Wg e := fun e he => by
  simp [semEvents] at he
  rcases he with rfl | rfl | rfl | rfl
  · exact .inr (.inl rfl)
  · exact .inl ⟨_, _, rfl, rfl⟩
  · exact .inl ⟨_, _, rfl, rfl⟩
  · exact .inr (.inr (.inl rfl))

theorem sit_of {Stop : AT} {n : Nat} {g : Goroutine} {w : World} (h : Goes C.P true (RA C sent) D0 (StA C sent Stop) n g w) : SitA2 C sent Stop (n + 1) g w := .inl ⟨n, rfl, goes_monoD (fun _ _ _ d => D0.da C d) h⟩

theorem stepA2 (O : C.Ok) (hall : sent.map (·.1) = bs0) (h : J2 C sent ta tb ra rb a b w t) (hrun : a.status = .running) :
    StepA C.P C.k a b w t fun a' b' w' t' => ∃ μ', Less μ' (rkA ta + rkB tb, ra + 2 * rb) ∧ J C bs0 μ' a' b' w' t' := by
  rcases h.sa with ⟨n, rfl, hg⟩ | ⟨_, _, g, rfl, _⟩
  rotate_left
  · cases hrun
  rcases hg.cases with hstop | ⟨n', rfl, hstep⟩
  rotate_left
  · obtain ⟨g', w1, es, hst, D, hG⟩ := hstep w (RA.refl _ _ _)
    exact .inl ⟨g', w1, es, hst, _, .right _ (by omega), .inr (.inl ⟨sent, ta, tb, n' + 1, rb, rfl, hall, h.privA O D (.inl ⟨n', rfl, hG⟩) (by omega)⟩)⟩
  have hS := hstop w (RA.refl _ _ _)
  obtain ⟨st, sm, hst, hwg⟩ := h.wg
  cases ta with
  | rc =>
    obtain ⟨_, z, hcm, hnext⟩ := hS
    obtain ⟨m, hG⟩ := hnext w (RA.refl _ _ _)
    obtain ⟨s, r, tm, hc⟩ := h.ch
    obtain ⟨dB, hti, hsb⟩ := h.ti
    refine .inr (.inr (.inr ⟨core a, C.Ch, z, #[], s, r, tm, hcm, hc, ?_, _, .left _ _ (Nat.add_lt_add_right (show rkA .kd < rkA .rc by decide) _), .inr (.inl ⟨sent, .kd, tb, m + 1, rb, rfl, hall, ?_⟩)⟩))
    · rcases hsb.status with x | ⟨x, _⟩ <;> rw [x] <;> simp
    · have hop : ∀ op ∈ (MemOp.ofEvents 0 a.frame.fn a.frame.place #[] ++ #[({ g := 0, fn := (core a).frame.fn, pos := (core a).frame.place, act := .recvClosed C.Ch } : MemOp)]), op = { g := 0, fn := (core a).frame.fn, pos := (core a).frame.place, act := .recvClosed C.Ch } := fun op hop => by
        simpa [MemOp.ofEvents] using hop
      refine ⟨⟨s, r, tm, hc⟩, ⟨st, sm, ?_, hwg⟩, ⟨dB, ti_comm O hti (.refl _) fun op ho => ?_, hsb⟩, .inl ⟨m, rfl, hG⟩, fun _ => by omega, h.msgs, fun hne => ⟨(h.rel hne).1, let ⟨r, hr⟩ := (h.rel hne).2; ⟨r, hr.appOther fun op ho => ?_⟩⟩⟩
      · revert hst
        cases tb <;> exact id
      · rw [hop op ho]
        exact ⟨rfl, fun m => by simp, lt_of_get hc⟩
      · rw [hop op ho]
        exact ⟨by show 0 ≠ C.k; have := O.hk; omega, by simp⟩
  | kd =>
    obtain ⟨_, g', hstp, m, hG⟩ := hS
    exact .inl ⟨g', w, _, hstp, _, .left _ _ (Nat.add_lt_add_right (show rkA .w1 < rkA .kd by decide) _), .inr (.inl ⟨sent, .w1, tb, m + 1, rb, rfl, hall, h.wgA O (fun e he => by simp at he; exact .inr (.inl he)) (.inl rfl) (by revert hst; cases tb <;> exact id) hwg rfl (sit_of hG) fun _ => by omega⟩)⟩
  | w1 =>
    obtain ⟨_, hK, h0⟩ := hS
    have : (st = KK ∧ sm = 0) ∨ (st = 0 ∧ sm = 0 ∧ tb = .qt) := by
      cases tb <;> simp [stOf] at hst <;> (obtain ⟨rfl, rfl⟩ := hst; simp [stOf])
    rcases this with ⟨rfl, rfl⟩ | ⟨rfl, rfl, rfl⟩
    · obtain ⟨g', hstp, m, hG⟩ := hK hwg
      exact .inl ⟨g', w, _, hstp, _, .left _ _ (Nat.add_lt_add_right (show rkA .w2 < rkA .w1 by decide) _), .inr (.inl ⟨sent, .w2, tb, m + 1, rb, rfl, hall, h.wgA O (ev_rd _) (.inl rfl) (by revert hst; cases tb <;> exact id) hwg rfl (sit_of hG) fun _ => by omega⟩)⟩
    · obtain ⟨g', hstp, m, hG⟩ := h0 hwg
      exact .inl ⟨g', w, _, hstp, _, .left _ _ (Nat.add_lt_add_right (show rkA .ke < rkA .w1 by decide) _), .inr (.inl ⟨sent, .ke, .qt, m + 1, rb, rfl, hall, h.wgA O (ev_rd _) (.inl rfl) rfl hwg rfl (sit_of hG) fun _ => by omega⟩)⟩
  | w2 =>
    obtain ⟨_, hK, h0⟩ := hS
    have : (st = KK ∧ sm = 0 ∧ stOf .wm tb = some (KK + 1, 0) ∧ tb ≠ .qt) ∨ (st = 0 ∧ sm = 0 ∧ tb = .qt) := by
      cases tb <;> simp [stOf] at hst <;> (obtain ⟨rfl, rfl⟩ := hst; simp [stOf])
    rcases this with ⟨rfl, rfl, hst', hq⟩ | ⟨rfl, rfl, rfl⟩
    · obtain ⟨g', hstp, m, hG⟩ := hK hwg
      exact .inl ⟨g', _, _, hstp, _, .left _ _ (Nat.add_lt_add_right (show rkA .wm < rkA .w2 by decide) _), .inr (.inl ⟨sent, .wm, tb, m + 1, rb, rfl, hall, h.wgA O (ev_rw _) (.inr ⟨_, _, rfl, rfl⟩) hst' (wg_set0 hwg _) rfl (sit_of hG) fun _ => by omega⟩)⟩
    · obtain ⟨g', hstp, m, hG⟩ := h0 hwg
      exact .inl ⟨g', w, _, hstp, _, .left _ _ (Nat.add_lt_add_right (show rkA .wz < rkA .w2 by decide) _), .inr (.inl ⟨sent, .wz, .qt, m + 1, rb, rfl, hall, h.wgA O (ev_rd _) (.inl rfl) rfl hwg rfl (sit_of hG) fun _ => by omega⟩)⟩
  | wz =>
    obtain ⟨_, h0⟩ := hS
    have : st = 0 ∧ sm = 0 ∧ tb = .qt := by
      cases tb <;> simp [stOf] at hst <;> (obtain ⟨rfl, rfl⟩ := hst; simp [stOf])
    obtain ⟨rfl, rfl, rfl⟩ := this
    obtain ⟨g', hstp, m, hG⟩ := h0 hwg
    exact .inl ⟨g', w, _, hstp, _, .left _ _ (Nat.add_lt_add_right (show rkA .ke < rkA .wz by decide) _), .inr (.inl ⟨sent, .ke, .qt, m + 1, rb, rfl, hall, h.wgA O (ev_rd _) (.inl rfl) rfl hwg rfl (sit_of hG) fun _ => by omega⟩)⟩
  | wm =>
    obtain ⟨_, g', hstp, m, hG⟩ := hS
    exact .inl ⟨g', w, _, hstp, _, .left _ _ (Nat.add_lt_add_right (show rkA .w3 < rkA .wm by decide) _), .inr (.inl ⟨sent, .w3, tb, m + 1, rb, rfl, hall, h.wgA O (fun e he => by simp at he; exact .inr (.inr (.inr (.inl he)))) (.inl rfl) (by revert hst; cases tb <;> exact id) hwg rfl (sit_of hG) fun _ => by omega⟩)⟩
  | w3 =>
    obtain ⟨_, hoff, hb, hf⟩ := hS
    have : (sm = 0 ∧ tb ≠ .qt) ∨ (st = 0 ∧ sm = 1 ∧ tb = .qt) := by
      cases tb <;> simp [stOf] at hst <;> (obtain ⟨rfl, rfl⟩ := hst; simp [stOf])
    rcases this with ⟨rfl, hq⟩ | ⟨rfl, rfl, rfl⟩
    · refine .inl ⟨_, w, _, hb ⟨st, hwg⟩, _, .right _ (by omega), .inr (.inl ⟨sent, .w3, tb, 0, rb, rfl, hall, h.wgA O (by simp) (.inl rfl) hst hwg rfl (.inr ⟨rfl, rfl, a, rfl, hstop⟩) fun e => absurd e hq⟩)⟩
    · obtain ⟨g', hstp, m, hG⟩ := hf hwg
      exact .inl ⟨g', _, _, hstp, _, .left _ _ (Nat.add_lt_add_right (show rkA .w4 < rkA .w3 by decide) _), .inr (.inl ⟨sent, .w4, .qt, m + 1, rb, rfl, hall, h.wgA O (ev_sem _) (.inr ⟨_, _, rfl, rfl⟩) rfl (wg_set1 hwg _) rfl (sit_of hG) fun _ => by omega⟩)⟩
  | w4 =>
    obtain ⟨_, h0⟩ := hS
    have : st = 0 ∧ sm = 0 ∧ tb = .qt := by
      cases tb <;> simp [stOf] at hst <;> (obtain ⟨rfl, rfl⟩ := hst; simp [stOf])
    obtain ⟨rfl, rfl, rfl⟩ := this
    obtain ⟨g', hstp, m, hG⟩ := h0 hwg
    exact .inl ⟨g', w, _, hstp, _, .left _ _ (Nat.add_lt_add_right (show rkA .ke < rkA .w4 by decide) _), .inr (.inl ⟨sent, .ke, .qt, m + 1, rb, rfl, hall, h.wgA O (ev_rd _) (.inl rfl) rfl hwg rfl (sit_of hG) fun _ => by omega⟩)⟩
  | ke =>
    obtain ⟨_, g', hstp, m, hG⟩ := hS
    exact .inl ⟨g', w, _, hstp, _, .left _ _ (Nat.add_lt_add_right (show rkA .ac < rkA .ke by decide) _), .inr (.inl ⟨sent, .ac, tb, m + 1, rb, rfl, hall, h.wgA O (fun e he => by simp at he; exact .inr (.inr (.inl he))) (.inl rfl) (by revert hst; cases tb <;> exact id) hwg rfl (sit_of hG) fun _ => by omega⟩)⟩
  | ac =>
    obtain ⟨_, g', hstp, hrun', hpost⟩ := hS
    have hq : tb = .qt := by cases tb <;> simp [stOf] at hst <;> rfl
    subst hq
    obtain ⟨hfb, r, hR⟩ := h.rel (by simp)
    obtain ⟨dB, hti, hsb⟩ := h.ti
    refine .inl ⟨g', w, _, hstp, (0, 0), .left _ _ (show 0 < rkA .ac + rkB .qt by decide), .inl ⟨rfl, hrun', hti.join O.hk hR _ _ (wg_lt hwg), ?_, ⟨sent, hall, hpost, hfb, h.msgs⟩⟩⟩
    rw [hsb.woken]
    rcases hsb with ⟨x, _⟩ | ⟨_, hqd⟩
    · exact absurd rfl x
    · refine ⟨rb, ?_⟩
      rw [Deaf_other t (g := C.k) (g' := 0) (by have := O.hk; omega) _ (fun op hop => g_ofEvents hop), hti.dB]
      exact hqd

end
end Go.Pair

/- The worker's steps behind the close. -/
set_option linter.unusedVariables false
set_option linter.unusedSimpArgs false
namespace Go.Pair
open Go Go.Conc

section
variable {C : Cfg} {bs0 : List C.β} {sent : List (C.β × Value)} {w w' : World} {t : Trace} {a b : Goroutine} {ta ta' : AT} {tb tb' : BT} {ra rb : Nat} {bs : List C.β}

theorem rely_set (O : C.Ok) {ad : Addr} {v : Value} (had : ad.block = C.Wg) (hw : WgAny C.ty C.Wg w → WgAny C.ty C.Wg (w.setCell ad v)) : RA C sent w (w.setCell ad v) :=
  ra_of O (keeps_set ad v fun i o k => by rw [had]; exact (O.ka i o k).1) (keeps_set ad v fun i o k => by rw [had]; exact (O.kb i o k).1) hw

/-- A private step of the worker's. -/
theorem J2.privB (O : C.Ok) (h : J2 C sent ta tb ra rb a b w t) (hq : tb ≠ .qt) {b' : Goroutine} {es : Array Event} (D : DB C sent w w' es) (hes : tb ≠ .r0 → es = #[] ∧ w' = w) {n : Nat} (hG : Goes C.P false (RB C) (DBt C sent tb) (StB C sent tb) n b' w') :
    ∃ ra', ra' ≤ ra + 1 ∧ J2 C sent ta tb ra' (n + 1) (woken C.P b b' w' a) b' w' (t ++ MemOp.ofEvents C.k b.frame.fn b.frame.place es) := by
  obtain ⟨dB, hti, hsb⟩ := h.ti
  obtain ⟨s, r, tm, hc⟩ := h.ch
  obtain ⟨st, sm, hst, hwg⟩ := h.wg
  obtain ⟨ra', hle, hnz, hsa⟩ := (h.sa.rely D.toA).woken (P := C.P) b b' w'
  have hdB : dB = dfB tb := by
    rcases hsb with ⟨_, e, _⟩ | ⟨e, _⟩
    · exact e
    · exact absurd e hq
  refine ⟨ra', hle, ⟨s, r, tm, by rw [D.ch]; exact hc⟩, ⟨st, sm, hst, by unfold WgIs at *; rw [D.wg]; exact hwg⟩, ⟨dB, ti_privB O hti D _ _, .inl ⟨hq, hdB, n, rfl, hG⟩⟩, hsa, fun e => absurd e hq, fun x hx => D.msg x hx (h.msgs x hx), fun hne => ?_⟩
  obtain ⟨hfb, r, hR⟩ := h.rel hne
  refine ⟨(hes hne).2 ▸ hfb, r, ?_⟩
  rw [(hes hne).1]
  simpa [MemOp.ofEvents] using hR

/-- A step of the worker's at the group. -/
theorem J2.wgB (O : C.Ok) (h : J2 C sent ta tb ra rb a b w t) {b' : Goroutine} {es : Array Event} (hes : ∀ e ∈ es, EvGB C.Wg e) {rb' dB' : Nat} {st sm : Int}
    (hw : w' = w ∨ ∃ ad v, w' = w.setCell ad v ∧ ad.block = C.Wg) (hst : stOf ta tb' = some (st, sm)) (hwg : WgIs C.ty C.Wg w' st sm) (hq : tb ≠ .qt) (hd : deafBehind (dfB tb) es = dB') (hs : SitB2 C sent tb' rb' dB' b' w')
    (hnb : tb' = .qt → (ta = .wm ∨ ta = .w3) → (mayWake C.P b && b'.status != .blocked && b'.status != .waiting) = true)
    (hrel : C.FB sent w' ∧ ∃ r, RI C.k C.Wg (t ++ MemOp.ofEvents C.k b.frame.fn b.frame.place es) r) :
    ∃ ra', J2 C sent ta tb' ra' rb' (woken C.P b b' w' a) b' w' (t ++ MemOp.ofEvents C.k b.frame.fn b.frame.place es) := by
  obtain ⟨dB, hti, hsb⟩ := h.ti
  obtain ⟨s, r, tm, hc⟩ := h.ch
  have hdB : dB = dfB tb := by
    rcases hsb with ⟨_, e, _⟩ | ⟨e, _⟩
    · exact e
    · exact absurd e hq
  have hRA : RA C sent w w' := by
    rcases hw with rfl | ⟨ad, v, rfl, had⟩
    · exact RA.refl _ _ _
    · exact rely_set O had fun _ => ⟨st, sm, hwg⟩
  have hG : Grow w w' := by
    rcases hw with rfl | ⟨ad, v, rfl, had⟩
    · exact .refl _
    · exact grow_set ad v
  have hC : w'.heap[C.Ch]? = w.heap[C.Ch]? := by
    rcases hw with rfl | ⟨ad, v, rfl, had⟩
    · rfl
    · exact set_other ad v (by rw [had]; exact Ne.symm O.neq)
  have hti' := ti_wgB O hti hG (wg_lt hwg) hes b.frame.fn b.frame.place
  rw [hdB, hd] at hti'
  have hsa0 := h.sa.rely hRA
  have key : ∃ ra', (tb' = .qt → ra' ≠ 0) ∧ SitA2 C sent ta ra' (woken C.P b b' w' a) w' := by
    by_cases hqt : tb' = .qt
    · by_cases hta : ta = .wm ∨ ta = .w3
      · obtain ⟨ra', h1, h2⟩ := hsa0.wakes (P := C.P) w' (hnb hqt hta)
        exact ⟨ra', fun _ => h1, h2⟩
      · have : ra ≠ 0 := by
          rcases hsa0.status with ⟨_, x⟩ | ⟨_, _, x⟩
          · exact x
          · exact absurd (.inr x) hta
        obtain ⟨ra', _, h1, h2⟩ := hsa0.woken (P := C.P) b b' w'
        exact ⟨ra', fun _ => h1 this, h2⟩
    · obtain ⟨ra', _, _, h2⟩ := hsa0.woken (P := C.P) b b' w'
      exact ⟨ra', fun e => absurd e hqt, h2⟩
  obtain ⟨ra', h1, h2⟩ := key
  exact ⟨ra', ⟨s, r, tm, by rw [hC]; exact hc⟩, ⟨st, sm, hst, hwg⟩, ⟨dB', hti', hs⟩, h2, h1, fun x hx => hRA.msg x hx (h.msgs x hx), fun _ => hrel⟩

theorem evb_rd (Wg : Nat) : ∀ e ∈ (#[rdE (stW Wg)] : Array Event), EvGB Wg e := fun e he => by simp at he; subst he; exact .inl ⟨_, _, rfl, rfl⟩
theorem evb_wr (Wg : Nat) : ∀ e ∈ (#[wrE (stW Wg)] : Array Event), EvGB Wg e := fun e he => by simp at he; subst he; exact .inl ⟨_, _, rfl, rfl⟩
theorem evb_rw (Wg : Nat) : ∀ e ∈ (#[rdE (stW Wg), wrE (stW Wg)] : Array Event), EvGB Wg e := fun e he => by
  simp at he
  rcases he with rfl | rfl
  · exact .inl ⟨_, _, rfl, rfl⟩
  · exact .inl ⟨_, _, rfl, rfl⟩

theorem evb_sem (Wg : Nat) : ∀ e ∈ semEvents (smW Wg), EvGB Wg e := fun e he => by
  simp [semEvents] at he
  rcases he with rfl | rfl | rfl | rfl
  · exact .inr (.inl rfl)
  · exact .inl ⟨_, _, rfl, rfl⟩
  · exact .inl ⟨_, _, rfl, rfl⟩
  · exact .inr (.inr (.inl rfl))

/-- The worker's step at the group, deaf, behind its release. -/
theorem ri_own {r : Nat} {es : Array Event} (h : RI C.k C.Wg t r) (hd : Deaf t C.k = 1) (hes : es = #[rdE (stW C.Wg)] ∨ es = #[wrE (stW C.Wg)] ∨ es = #[rdE (stW C.Wg), wrE (stW C.Wg)] ∨ es = semEvents (smW C.Wg)) (fn : FuncId) (pos : String) : RI C.k C.Wg (t ++ MemOp.ofEvents C.k fn pos es) r := by
  refine h.appOwn fn pos es (fun e he => ?_) (fun j e he => ?_)
  · rcases hes with rfl | rfl | rfl | rfl <;> simp [semEvents, rdE, wrE] at he
    · subst he; simp
    · subst he; simp
    · rcases he with rfl | rfl <;> simp
    · rcases he with rfl | rfl | rfl | rfl <;> simp
  · rw [hd]
    rcases hes with rfl | rfl | rfl | rfl
    · match j, he with
      | 0, he => simp at he; subst he; exact .inr ⟨⟨_, _, rfl, rfl⟩, by simp [deafBehind]⟩
    · match j, he with
      | 0, he => simp at he; subst he; exact .inr ⟨⟨_, _, rfl, rfl⟩, by simp [deafBehind]⟩
    · match j, he with
      | 0, he => simp at he; subst he; exact .inr ⟨⟨_, _, rfl, rfl⟩, by simp [deafBehind]⟩
      | 1, he => simp at he; subst he; exact .inr ⟨⟨_, _, rfl, rfl⟩, by simp [deafBehind, rdE]⟩
    · match j, he with
      | 0, he => simp [semEvents] at he; subst he; exact .inl rfl
      | 1, he => simp [semEvents] at he; subst he; exact .inr ⟨⟨_, _, rfl, rfl⟩, by simp [deafBehind, semEvents]⟩
      | 2, he => simp [semEvents] at he; subst he; exact .inr ⟨⟨_, _, rfl, rfl⟩, by simp [deafBehind, semEvents]⟩
      | 3, he => simp [semEvents] at he; subst he; exact .inl rfl

theorem sitB_of (Stop : BT) (hq : Stop ≠ .qt) (hr : Stop ≠ .r0) {n : Nat} {g : Goroutine} {w : World} (h : Goes C.P false (RB C) D0 (StB C sent Stop) n g w) : SitB2 C sent Stop (n + 1) (dfB Stop) g w := by
  refine .inl ⟨hq, rfl, n, rfl, ?_⟩
  cases Stop <;> first | exact absurd rfl hr | exact h

theorem wake_of {P : Program} {g g' : Goroutine} (h : mayWake P g = true) (hs : g'.status = .running ∨ g'.status = .finished) : (mayWake P g && g'.status != .blocked && g'.status != .waiting) = true := by
  rw [h]
  rcases hs with e | e <;> rw [e] <;> rfl

theorem stepB2 (O : C.Ok) (hall : sent.map (·.1) = bs0) (h : J2 C sent ta tb ra rb a b w t) (hrun : b.status = .running) :
    StepB C.P C.k a b w t fun a' b' w' t' => ∃ μ', Less μ' (rkA ta + rkB tb, ra + 2 * rb) ∧ J C bs0 μ' a' b' w' t' := by
  obtain ⟨dB, hti, hsb⟩ := h.ti
  have hsb' := hsb
  obtain ⟨st, sm, hst, hwg⟩ := h.wg
  rcases hsb with ⟨hq, rfl, n, rfl, hg⟩ | ⟨rfl, hqd⟩
  rotate_left
  · -- it only leaves
    cases rb with
    | zero => rw [hqd.1] at hrun; cases hrun
    | succ m =>
      rcases hqd with ⟨hf, _⟩ | ⟨_, g', es, hm, hstp, hq'⟩
      · rw [hf] at hrun; cases hrun
      · obtain ⟨s, r, tm, hc⟩ := h.ch
        obtain ⟨ra', hle, hnz, hsa⟩ := h.sa.woken (P := C.P) b g' w
        refine .inl ⟨g', w, es, hstp w, _, .right (b₂ := ra + 2 * (m + 1)) _ (show ra' + 2 * m < ra + 2 * (m + 1) by omega), .inr (.inl ⟨sent, ta, .qt, ra', m, rfl, hall, ⟨s, r, tm, hc⟩, ⟨st, sm, hst, hwg⟩, ⟨_, ?_, .inr ⟨rfl, hq'⟩⟩, hsa, fun _ => hnz (h.nb rfl), h.msgs, fun hne => ⟨(h.rel hne).1, ?_⟩⟩)⟩
        · refine hti.appB O.parts O.hk (.refl w) (fun op hop => g_ofEvents hop) (fun op hop x hx _ => ?_) ?_ (fun op hop => ?_)
          · obtain ⟨e, he, rfl⟩ := Conc.mem_ofEvents hop
            rw [touch_mute (hm e he)] at hx
            cases hx
          · rw [Deaf_own, hti.dB]
          · obtain ⟨e, he, rfl⟩ := Conc.mem_ofEvents hop
            exact low_mute (hm e he) _
        · obtain ⟨r, hR⟩ := (h.rel hne).2
          refine ⟨r, hR.appOwn _ _ _ (fun e he x => ?_) fun j e he => .inl (touch_mute (hm e (Array.mem_of_getElem? he)))⟩
          have := hm e he
          obtain ⟨loc, wr, sy⟩ := e
          simp only at x
          subst x
          simp [Event.mute] at this
  rcases hg.cases with hstop | ⟨n', rfl, hstep⟩
  rotate_left
  · obtain ⟨g', w1, es, hst1, D, hG⟩ := hstep w (RB.refl _ _)
    obtain ⟨ra', hle, hJ⟩ := h.privB O hq D.db (fun hn => D.nil hn) hG
    exact .inl ⟨g', w1, es, hst1, _, .right _ (show ra' + 2 * (n' + 1) < ra + 2 * (n' + 1 + 1) by omega), .inr (.inl ⟨sent, ta, tb, ra', n' + 1, rfl, hall, hJ⟩)⟩
  have hS := hstop w (RB.refl _ _)
  cases tb with
  | qt => exact absurd rfl hq
  | r0 =>
    obtain ⟨_, hfb, g', hstp, m, hG⟩ := hS
    obtain ⟨ra', hJ⟩ := h.wgB O (tb' := .k1) (es := #[mkE (.releaseMerge (stW C.Wg))]) (fun e he => by simp at he; exact .inr (.inr (.inr he))) (.inl rfl) (by revert hst; cases ta <;> exact id) hwg hq rfl (sitB_of .k1 (by simp) (by simp) hG) (fun e => by cases e) ⟨hfb, _, RI.new hti.dB _ _⟩
    exact .inl ⟨g', w, _, hstp, _, .left _ _ (Nat.add_lt_add_left (show rkB .k1 < rkB .r0 by decide) _), .inr (.inl ⟨sent, ta, .k1, ra', m + 1, rfl, hall, hJ⟩)⟩
  | k1 =>
    obtain ⟨_, g', hstp, m, hG⟩ := hS
    obtain ⟨hfb, r, hR⟩ := h.rel (by simp)
    obtain ⟨ra', hJ⟩ := h.wgB O (tb' := .d1) (b' := g') (es := #[mkE .disable]) (fun e he => by simp at he; exact .inr (.inl he)) (.inl rfl) (by revert hst; cases ta <;> exact id) hwg hq rfl (sitB_of .d1 (by simp) (by simp) hG) (fun e => by cases e)
      ⟨hfb, r, hR.appOwn _ _ _ (fun e he => by simp at he; subst he; simp [mkE]) fun j e he => .inl (by have := Array.mem_of_getElem? he; simp at this; subst this; rfl)⟩
    exact .inl ⟨g', w, _, hstp, _, .left _ _ (Nat.add_lt_add_left (show rkB .d1 < rkB .k1 by decide) _), .inr (.inl ⟨sent, ta, .d1, ra', m + 1, rfl, hall, hJ⟩)⟩
  | d1 =>
    obtain ⟨_, hK, hK1⟩ := hS
    obtain ⟨hfb, r, hR⟩ := h.rel (by simp)
    have : (st = KK ∧ sm = 0 ∧ stOf ta .qt = some (0, 0) ∧ ta ≠ .wm ∧ ta ≠ .w3) ∨ (st = KK + 1 ∧ sm = 0 ∧ stOf ta .d2 = some (1, 0)) := by
      cases ta <;> simp [stOf] at hst <;> (obtain ⟨rfl, rfl⟩ := hst; simp [stOf])
    rcases this with ⟨rfl, rfl, hst', n1, n2⟩ | ⟨rfl, rfl, hst'⟩
    · obtain ⟨g', hstp, q, hqd⟩ := hK hwg
      obtain ⟨ra', hJ⟩ := h.wgB O (tb' := .qt) (evb_rw _) (.inr ⟨_, _, rfl, rfl⟩) hst' (wg_set0 hwg 0) hq rfl (.inr ⟨rfl, hqd⟩) (fun _ e => e.elim (fun e => absurd e n1) (fun e => absurd e n2))
        ⟨O.fbB _ _ _ (keeps_set _ _ fun i o k => (O.kb i o k).1) hfb, r, ri_own hR hti.dB (.inr (.inr (.inl rfl))) _ _⟩
      exact .inl ⟨g', _, _, hstp, _, .left _ _ (Nat.add_lt_add_left (show rkB .qt < rkB .d1 by decide) _), .inr (.inl ⟨sent, ta, .qt, ra', q, rfl, hall, hJ⟩)⟩
    · obtain ⟨g', hstp, m, hG⟩ := hK1 hwg
      obtain ⟨ra', hJ⟩ := h.wgB O (tb' := .d2) (evb_rw _) (.inr ⟨_, _, rfl, rfl⟩) hst' (wg_set0 hwg 1) hq rfl (sitB_of .d2 (by simp) (by simp) hG) (fun e => by cases e)
        ⟨O.fbB _ _ _ (keeps_set _ _ fun i o k => (O.kb i o k).1) hfb, r, ri_own hR hti.dB (.inr (.inr (.inl rfl))) _ _⟩
      exact .inl ⟨g', _, _, hstp, _, .left _ _ (Nat.add_lt_add_left (show rkB .d2 < rkB .d1 by decide) _), .inr (.inl ⟨sent, ta, .d2, ra', m + 1, rfl, hall, hJ⟩)⟩
  | d2 =>
    obtain ⟨_, hS⟩ := hS
    obtain ⟨hfb, r, hR⟩ := h.rel (by simp)
    have : st = 1 ∧ sm = 0 ∧ stOf ta .d3 = some (1, 0) := by
      cases ta <;> simp [stOf] at hst <;> (obtain ⟨rfl, rfl⟩ := hst; simp [stOf])
    obtain ⟨rfl, rfl, hst'⟩ := this
    obtain ⟨g', hstp, m, hG⟩ := hS hwg
    obtain ⟨ra', hJ⟩ := h.wgB O (tb' := .d3) (evb_rd _) (.inl rfl) hst' hwg hq rfl (sitB_of .d3 (by simp) (by simp) hG) (fun e => by cases e) ⟨hfb, r, ri_own hR hti.dB (.inl rfl) _ _⟩
    exact .inl ⟨g', _, _, hstp, _, .left _ _ (Nat.add_lt_add_left (show rkB .d3 < rkB .d2 by decide) _), .inr (.inl ⟨sent, ta, .d3, ra', m + 1, rfl, hall, hJ⟩)⟩
  | d3 =>
    obtain ⟨_, hS⟩ := hS
    obtain ⟨hfb, r, hR⟩ := h.rel (by simp)
    have : st = 1 ∧ sm = 0 ∧ stOf ta .d4 = some (0, 0) := by
      cases ta <;> simp [stOf] at hst <;> (obtain ⟨rfl, rfl⟩ := hst; simp [stOf])
    obtain ⟨rfl, rfl, hst'⟩ := this
    obtain ⟨g', hstp, m, hG⟩ := hS ⟨_, hwg⟩
    obtain ⟨ra', hJ⟩ := h.wgB O (tb' := .d4) (evb_wr _) (.inr ⟨_, _, rfl, rfl⟩) hst' (wg_set0 hwg 0) hq rfl (sitB_of .d4 (by simp) (by simp) hG) (fun e => by cases e) ⟨O.fbB _ _ _ (keeps_set _ _ fun i o k => (O.kb i o k).1) hfb, r, ri_own hR hti.dB (.inr (.inl rfl)) _ _⟩
    exact .inl ⟨g', _, _, hstp, _, .left _ _ (Nat.add_lt_add_left (show rkB .d4 < rkB .d3 by decide) _), .inr (.inl ⟨sent, ta, .d4, ra', m + 1, rfl, hall, hJ⟩)⟩
  | d4 =>
    obtain ⟨_, hS⟩ := hS
    obtain ⟨hfb, r, hR⟩ := h.rel (by simp)
    have : st = 0 ∧ sm = 0 ∧ stOf ta .qt = some (0, 1) := by
      cases ta <;> simp [stOf] at hst <;> (obtain ⟨rfl, rfl⟩ := hst; simp [stOf])
    obtain ⟨rfl, rfl, hst'⟩ := this
    obtain ⟨g', hstp, hmw, q, hqd⟩ := hS ⟨_, hwg⟩
    obtain ⟨ra', hJ⟩ := h.wgB O (tb' := .qt) (evb_sem _) (.inr ⟨_, _, rfl, rfl⟩) hst' (wg_set1 hwg 1) hq rfl (.inr ⟨rfl, hqd⟩) (fun _ _ => wake_of hmw hqd.status)
      ⟨O.fbB _ _ _ (keeps_set _ _ fun i o k => (O.kb i o k).1) hfb, r, ri_own hR hti.dB (.inr (.inr (.inr rfl))) _ _⟩
    exact .inl ⟨g', _, _, hstp, _, .left _ _ (Nat.add_lt_add_left (show rkB .qt < rkB .d4 by decide) _), .inr (.inl ⟨sent, ta, .qt, ra', q, rfl, hall, hJ⟩)⟩

end
end Go.Pair
