/- The worker's steps behind the close. -/
import Derived.Test.YtlghcldiboecoaaGreatDoorQ17
set_option linter.unusedVariables false
set_option linter.unusedSimpArgs false
namespace Go.Pair
open Go Go.Conc

section
variable {C : Cfg} {bs0 : List C.β} {sent : List (C.β × Value)} {w w' : World} {t : Trace} {a b : Goroutine} {ta ta' : AT} {tb tb' : BT} {ra rb : Nat} {bs : List C.β}

theorem rely_set (O : C.Ok) {ad : Addr} {v : Value} (had : ad.block = C.Wg) (hw : WgAny C.ty C.Wg w → WgAny C.ty C.Wg (w.setCell ad v)) : RA C sent w (w.setCell ad v) :=
  ra_of O (keeps_set ad v fun i o k => by rw [had]; exact (O.ka i o k).1) (keeps_set ad v fun i o k => by rw [had]; exact (O.kb i o k).1) hw

theorem J2.privB (O : C.Ok) (h : J2 C sent ta tb ra rb a b w t) (hq : tb ≠ .qt) {b' : Goroutine} {es : Array Event} (D : DB C sent w w' es) (hes : tb ≠ .r0 → es = #[] ∧ w' = w) {n : Nat} (hG : Goes C.P false (RB C) (DBt C sent tb) (StB C sent tb) n b' w') :
    ∃ ra', ra' ≤ ra + 1 ∧ J2 C sent ta tb ra' (n + 1) (woken C.P b b' w' a) b' w' (t ++ MemOp.ofEvents C.k b.frame.fn b.frame.place es) := by
  obtain ⟨dB, hti, hsb⟩ := h.ti
  obtain ⟨s, r, tm, hc⟩ := h.ch
  obtain ⟨st, sm, hst, hwg⟩ := h.wg
  obtain ⟨ra', hle, hnz, hsa⟩ := (h.sa.rely D.toA).woken (P := C.P) b b' w'
  have hdB : dB = dfB tb := by
    rcases hsb with ⟨_, e, _⟩ | ⟨e, _⟩
    · exact e
    · exact absurd e hq
  refine ⟨ra', hle, ⟨s, r, tm, by rw [D.ch]; exact hc⟩, ⟨st, sm, hst, by unfold WgIs at *; rw [D.wg]; exact hwg⟩, ⟨dB, ti_privB O hti D _ _, .inl ⟨hq, hdB, n, rfl, hG⟩⟩, hsa, fun e => absurd e hq, fun x hx => D.msg x hx (h.msgs x hx), fun hne => ?_⟩
  obtain ⟨hfb, r, hR⟩ := h.rel hne
  refine ⟨(hes hne).2 ▸ hfb, r, ?_⟩
  rw [(hes hne).1]
  simpa [MemOp.ofEvents] using hR

theorem J2.wgB (O : C.Ok) (h : J2 C sent ta tb ra rb a b w t) {b' : Goroutine} {es : Array Event} (hes : ∀ e ∈ es, EvGB C.Wg e) {rb' dB' : Nat} {st sm : Int}
    (hw : w' = w ∨ ∃ ad v, w' = w.setCell ad v ∧ ad.block = C.Wg) (hst : stOf ta tb' = some (st, sm)) (hwg : WgIs C.ty C.Wg w' st sm) (hq : tb ≠ .qt) (hd : deafBehind (dfB tb) es = dB') (hs : SitB2 C sent tb' rb' dB' b' w')
    (hnb : tb' = .qt → (ta = .wm ∨ ta = .w3) → (mayWake C.P b && b'.status != .blocked && b'.status != .waiting) = true)
    (hrel : C.FB sent w' ∧ ∃ r, RI C.k C.Wg (t ++ MemOp.ofEvents C.k b.frame.fn b.frame.place es) r) :
    ∃ ra', J2 C sent ta tb' ra' rb' (woken C.P b b' w' a) b' w' (t ++ MemOp.ofEvents C.k b.frame.fn b.frame.place es) := by
  obtain ⟨dB, hti, hsb⟩ := h.ti
  obtain ⟨s, r, tm, hc⟩ := h.ch
  have hdB : dB = dfB tb := by
    rcases hsb with ⟨_, e, _⟩ | ⟨e, _⟩
    · exact e
    · exact absurd e hq
  have hRA : RA C sent w w' := by
    rcases hw with rfl | ⟨ad, v, rfl, had⟩
    · exact RA.refl _ _ _
    · exact rely_set O had fun _ => ⟨st, sm, hwg⟩
  have hG : Grow w w' := by
    rcases hw with rfl | ⟨ad, v, rfl, had⟩
    · exact .refl _
    · exact grow_set ad v
  have hC : w'.heap[C.Ch]? = w.heap[C.Ch]? := by
    rcases hw with rfl | ⟨ad, v, rfl, had⟩
    · rfl
    · exact set_other ad v (by rw [had]; exact Ne.symm O.neq)
  have hti' := ti_wgB O hti hG (wg_lt hwg) hes b.frame.fn b.frame.place
  rw [hdB, hd] at hti'
  have hsa0 := h.sa.rely hRA
  have key : ∃ ra', (tb' = .qt → ra' ≠ 0) ∧ SitA2 C sent ta ra' (woken C.P b b' w' a) w' := by
    by_cases hqt : tb' = .qt
    · by_cases hta : ta = .wm ∨ ta = .w3
      · obtain ⟨ra', h1, h2⟩ := hsa0.wakes (P := C.P) w' (hnb hqt hta)
        exact ⟨ra', fun _ => h1, h2⟩
      · have : ra ≠ 0 := by
          rcases hsa0.status with ⟨_, x⟩ | ⟨_, _, x⟩
          · exact x
          · exact absurd (.inr x) hta
        obtain ⟨ra', _, h1, h2⟩ := hsa0.woken (P := C.P) b b' w'
        exact ⟨ra', fun _ => h1 this, h2⟩
    · obtain ⟨ra', _, _, h2⟩ := hsa0.woken (P := C.P) b b' w'
      exact ⟨ra', fun e => absurd e hqt, h2⟩
  obtain ⟨ra', h1, h2⟩ := key
  exact ⟨ra', ⟨s, r, tm, by rw [hC]; exact hc⟩, ⟨st, sm, hst, hwg⟩, ⟨dB', hti', hs⟩, h2, h1, fun x hx => hRA.msg x hx (h.msgs x hx), fun _ => hrel⟩

theorem evb_rd (Wg : Nat) : ∀ e ∈ (#[rdE (stW Wg)] : Array Event), EvGB Wg e := fun e he => by simp at he; subst he; exact .inl ⟨_, _, rfl, rfl⟩
theorem evb_wr (Wg : Nat) : ∀ e ∈ (#[wrE (stW Wg)] : Array Event), EvGB Wg e := fun e he => by simp at he; subst he; exact .inl ⟨_, _, rfl, rfl⟩
theorem evb_rw (Wg : Nat) : ∀ e ∈ (#[rdE (stW Wg), wrE (stW Wg)] : Array Event), EvGB Wg e := fun e he => by
  simp at he
  rcases he with rfl | rfl
  · exact .inl ⟨_, _, rfl, rfl⟩
  · exact .inl ⟨_, _, rfl, rfl⟩

theorem evb_sem (Wg : Nat) : ∀ e ∈ semEvents (smW Wg), EvGB Wg e := fun e he => by
  simp [semEvents] at he
  rcases he with rfl | rfl | rfl | rfl
  · exact .inr (.inl rfl)
  · exact .inl ⟨_, _, rfl, rfl⟩
  · exact .inl ⟨_, _, rfl, rfl⟩
  · exact .inr (.inr (.inl rfl))

theorem ri_own {r : Nat} {es : Array Event} (h : RI C.k C.Wg t r) (hd : Deaf t C.k = 1) (hes : es = #[rdE (stW C.Wg)] ∨ es = #[wrE (stW C.Wg)] ∨ es = #[rdE (stW C.Wg), wrE (stW C.Wg)] ∨ es = semEvents (smW C.Wg)) (fn : FuncId) (pos : String) : RI C.k C.Wg (t ++ MemOp.ofEvents C.k fn pos es) r := by
  refine h.appOwn fn pos es (fun e he => ?_) (fun j e he => ?_)
  · rcases hes with rfl | rfl | rfl | rfl <;> simp [semEvents, rdE, wrE] at he
    · subst he; simp
    · subst he; simp
    · rcases he with rfl | rfl <;> simp
    · rcases he with rfl | rfl | rfl | rfl <;> simp
  · rw [hd]
    rcases hes with rfl | rfl | rfl | rfl
    · match j, he with
      | 0, he => simp at he; subst he; exact .inr ⟨⟨_, _, rfl, rfl⟩, by simp [deafBehind]⟩
    · match j, he with
      | 0, he => simp at he; subst he; exact .inr ⟨⟨_, _, rfl, rfl⟩, by simp [deafBehind]⟩
    · match j, he with
      | 0, he => simp at he; subst he; exact .inr ⟨⟨_, _, rfl, rfl⟩, by simp [deafBehind]⟩
      | 1, he => simp at he; subst he; exact .inr ⟨⟨_, _, rfl, rfl⟩, by simp [deafBehind, rdE]⟩
    · match j, he with
      | 0, he => simp [semEvents] at he; subst he; exact .inl rfl
      | 1, he => simp [semEvents] at he; subst he; exact .inr ⟨⟨_, _, rfl, rfl⟩, by simp [deafBehind, semEvents]⟩
      | 2, he => simp [semEvents] at he; subst he; exact .inr ⟨⟨_, _, rfl, rfl⟩, by simp [deafBehind, semEvents]⟩
      | 3, he => simp [semEvents] at he; subst he; exact .inl rfl

theorem sitB_of (Stop : BT) (hq : Stop ≠ .qt) (hr : Stop ≠ .r0) {n : Nat} {g : Goroutine} {w : World} (h : Goes C.P false (RB C) D0 (StB C sent Stop) n g w) : SitB2 C sent Stop (n + 1) (dfB Stop) g w := by
  refine .inl ⟨hq, rfl, n, rfl, ?_⟩
  cases Stop <;> first | exact absurd rfl hr | exact h

theorem wake_of {P : Program} {g g' : Goroutine} (h : mayWake P g = true) (hs : g'.status = .running ∨ g'.status = .finished) : (mayWake P g && g'.status != .blocked && g'.status != .waiting) = true := by
  rw [h]
  rcases hs with e | e <;> rw [e] <;> rfl

theorem stepB2 (O : C.Ok) (hall : sent.map (·.1) = bs0) (h : J2 C sent ta tb ra rb a b w t) (hrun : b.status = .running) :
    StepB C.P C.k a b w t fun a' b' w' t' => ∃ μ', Less μ' (rkA ta + rkB tb, ra + 2 * rb) ∧ J C bs0 μ' a' b' w' t' := by
  obtain ⟨dB, hti, hsb⟩ := h.ti
  have hsb' := hsb
  obtain ⟨st, sm, hst, hwg⟩ := h.wg
  rcases hsb with ⟨hq, rfl, n, rfl, hg⟩ | ⟨rfl, hqd⟩
  rotate_left
  · -- it only leaves
    cases rb with
    | zero => rw [hqd.1] at hrun; cases hrun
    | succ m =>
      rcases hqd with ⟨hf, _⟩ | ⟨_, g', es, hm, hstp, hq'⟩
      · rw [hf] at hrun; cases hrun
      · obtain ⟨s, r, tm, hc⟩ := h.ch
        obtain ⟨ra', hle, hnz, hsa⟩ := h.sa.woken (P := C.P) b g' w
        refine .inl ⟨g', w, es, hstp w, _, .right (b₂ := ra + 2 * (m + 1)) _ (show ra' + 2 * m < ra + 2 * (m + 1) by omega), .inr (.inl ⟨sent, ta, .qt, ra', m, rfl, hall, ⟨s, r, tm, hc⟩, ⟨st, sm, hst, hwg⟩, ⟨_, ?_, .inr ⟨rfl, hq'⟩⟩, hsa, fun _ => hnz (h.nb rfl), h.msgs, fun hne => ⟨(h.rel hne).1, ?_⟩⟩)⟩
        · refine hti.appB O.parts O.hk (.refl w) (fun op hop => g_ofEvents hop) (fun op hop x hx _ => ?_) ?_ (fun op hop => ?_)
          · obtain ⟨e, he, rfl⟩ := Conc.mem_ofEvents hop
            rw [touch_mute (hm e he)] at hx
            cases hx
          · rw [Deaf_own, hti.dB]
          · obtain ⟨e, he, rfl⟩ := Conc.mem_ofEvents hop
            exact low_mute (hm e he) _
        · obtain ⟨r, hR⟩ := (h.rel hne).2
          refine ⟨r, hR.appOwn _ _ _ (fun e he x => ?_) fun j e he => .inl (touch_mute (hm e (Array.mem_of_getElem? he)))⟩
          have := hm e he
          obtain ⟨loc, wr, sy⟩ := e
          simp only at x
          subst x
          simp [Event.mute] at this
  rcases hg.cases with hstop | ⟨n', rfl, hstep⟩
  rotate_left
  · obtain ⟨g', w1, es, hst1, D, hG⟩ := hstep w (RB.refl _ _)
    obtain ⟨ra', hle, hJ⟩ := h.privB O hq D.db (fun hn => D.nil hn) hG
    exact .inl ⟨g', w1, es, hst1, _, .right _ (show ra' + 2 * (n' + 1) < ra + 2 * (n' + 1 + 1) by omega), .inr (.inl ⟨sent, ta, tb, ra', n' + 1, rfl, hall, hJ⟩)⟩
  have hS := hstop w (RB.refl _ _)
  cases tb with
  | qt => exact absurd rfl hq
  | r0 =>
    obtain ⟨_, hfb, g', hstp, m, hG⟩ := hS
    obtain ⟨ra', hJ⟩ := h.wgB O (tb' := .k1) (es := #[mkE (.releaseMerge (stW C.Wg))]) (fun e he => by simp at he; exact .inr (.inr (.inr he))) (.inl rfl) (by revert hst; cases ta <;> exact id) hwg hq rfl (sitB_of .k1 (by simp) (by simp) hG) (fun e => by cases e) ⟨hfb, _, RI.new hti.dB _ _⟩
    exact .inl ⟨g', w, _, hstp, _, .left _ _ (Nat.add_lt_add_left (show rkB .k1 < rkB .r0 by decide) _), .inr (.inl ⟨sent, ta, .k1, ra', m + 1, rfl, hall, hJ⟩)⟩
  | k1 =>
    obtain ⟨_, g', hstp, m, hG⟩ := hS
    obtain ⟨hfb, r, hR⟩ := h.rel (by simp)
    obtain ⟨ra', hJ⟩ := h.wgB O (tb' := .d1) (b' := g') (es := #[mkE .disable]) (fun e he => by simp at he; exact .inr (.inl he)) (.inl rfl) (by revert hst; cases ta <;> exact id) hwg hq rfl (sitB_of .d1 (by simp) (by simp) hG) (fun e => by cases e)
      ⟨hfb, r, hR.appOwn _ _ _ (fun e he => by simp at he; subst he; simp [mkE]) fun j e he => .inl (by have := Array.mem_of_getElem? he; simp at this; subst this; rfl)⟩
    exact .inl ⟨g', w, _, hstp, _, .left _ _ (Nat.add_lt_add_left (show rkB .d1 < rkB .k1 by decide) _), .inr (.inl ⟨sent, ta, .d1, ra', m + 1, rfl, hall, hJ⟩)⟩
  | d1 =>
    obtain ⟨_, hK, hK1⟩ := hS
    obtain ⟨hfb, r, hR⟩ := h.rel (by simp)
    have : (st = KK ∧ sm = 0 ∧ stOf ta .qt = some (0, 0) ∧ ta ≠ .wm ∧ ta ≠ .w3) ∨ (st = KK + 1 ∧ sm = 0 ∧ stOf ta .d2 = some (1, 0)) := by
      cases ta <;> simp [stOf] at hst <;> (obtain ⟨rfl, rfl⟩ := hst; simp [stOf])
    rcases this with ⟨rfl, rfl, hst', n1, n2⟩ | ⟨rfl, rfl, hst'⟩
    · obtain ⟨g', hstp, q, hqd⟩ := hK hwg
      obtain ⟨ra', hJ⟩ := h.wgB O (tb' := .qt) (evb_rw _) (.inr ⟨_, _, rfl, rfl⟩) hst' (wg_set0 hwg 0) hq rfl (.inr ⟨rfl, hqd⟩) (fun _ e => e.elim (fun e => absurd e n1) (fun e => absurd e n2))
        ⟨O.fbB _ _ _ (keeps_set _ _ fun i o k => (O.kb i o k).1) hfb, r, ri_own hR hti.dB (.inr (.inr (.inl rfl))) _ _⟩
      exact .inl ⟨g', _, _, hstp, _, .left _ _ (Nat.add_lt_add_left (show rkB .qt < rkB .d1 by decide) _), .inr (.inl ⟨sent, ta, .qt, ra', q, rfl, hall, hJ⟩)⟩
    · obtain ⟨g', hstp, m, hG⟩ := hK1 hwg
      obtain ⟨ra', hJ⟩ := h.wgB O (tb' := .d2) (evb_rw _) (.inr ⟨_, _, rfl, rfl⟩) hst' (wg_set0 hwg 1) hq rfl (sitB_of .d2 (by simp) (by simp) hG) (fun e => by cases e)
        ⟨O.fbB _ _ _ (keeps_set _ _ fun i o k => (O.kb i o k).1) hfb, r, ri_own hR hti.dB (.inr (.inr (.inl rfl))) _ _⟩
      exact .inl ⟨g', _, _, hstp, _, .left _ _ (Nat.add_lt_add_left (show rkB .d2 < rkB .d1 by decide) _), .inr (.inl ⟨sent, ta, .d2, ra', m + 1, rfl, hall, hJ⟩)⟩
  | d2 =>
    obtain ⟨_, hS⟩ := hS
    obtain ⟨hfb, r, hR⟩ := h.rel (by simp)
    have : st = 1 ∧ sm = 0 ∧ stOf ta .d3 = some (1, 0) := by
      cases ta <;> simp [stOf] at hst <;> (obtain ⟨rfl, rfl⟩ := hst; simp [stOf])
    obtain ⟨rfl, rfl, hst'⟩ := this
    obtain ⟨g', hstp, m, hG⟩ := hS hwg
    obtain ⟨ra', hJ⟩ := h.wgB O (tb' := .d3) (evb_rd _) (.inl rfl) hst' hwg hq rfl (sitB_of .d3 (by simp) (by simp) hG) (fun e => by cases e) ⟨hfb, r, ri_own hR hti.dB (.inl rfl) _ _⟩
    exact .inl ⟨g', _, _, hstp, _, .left _ _ (Nat.add_lt_add_left (show rkB .d3 < rkB .d2 by decide) _), .inr (.inl ⟨sent, ta, .d3, ra', m + 1, rfl, hall, hJ⟩)⟩
  | d3 =>
    obtain ⟨_, hS⟩ := hS
    obtain ⟨hfb, r, hR⟩ := h.rel (by simp)
    have : st = 1 ∧ sm = 0 ∧ stOf ta .d4 = some (0, 0) := by
      cases ta <;> simp [stOf] at hst <;> (obtain ⟨rfl, rfl⟩ := hst; simp [stOf])
    obtain ⟨rfl, rfl, hst'⟩ := this
    obtain ⟨g', hstp, m, hG⟩ := hS ⟨_, hwg⟩
    obtain ⟨ra', hJ⟩ := h.wgB O (tb' := .d4) (evb_wr _) (.inr ⟨_, _, rfl, rfl⟩) hst' (wg_set0 hwg 0) hq rfl (sitB_of .d4 (by simp) (by simp) hG) (fun e => by cases e) ⟨O.fbB _ _ _ (keeps_set _ _ fun i o k => (O.kb i o k).1) hfb, r, ri_own hR hti.dB (.inr (.inl rfl)) _ _⟩
    exact .inl ⟨g', _, _, hstp, _, .left _ _ (Nat.add_lt_add_left (show rkB .d4 < rkB .d3 by decide) _), .inr (.inl ⟨sent, ta, .d4, ra', m + 1, rfl, hall, hJ⟩)⟩
  | d4 =>
    obtain ⟨_, hS⟩ := hS
    obtain ⟨hfb, r, hR⟩ := h.rel (by simp)
    have : st = 0 ∧ sm = 0 ∧ stOf ta .qt = some (0, 1) := by
      cases ta <;> simp [stOf] at hst <;> (obtain ⟨rfl, rfl⟩ := hst; simp [stOf])
    obtain ⟨rfl, rfl, hst'⟩ := this
    obtain ⟨g', hstp, hmw, q, hqd⟩ := hS ⟨_, hwg⟩
    obtain ⟨ra', hJ⟩ := h.wgB O (tb' := .qt) (evb_sem _) (.inr ⟨_, _, rfl, rfl⟩) hst' (wg_set1 hwg 1) hq rfl (.inr ⟨rfl, hqd⟩) (fun _ _ => wake_of hmw hqd.status)
      ⟨O.fbB _ _ _ (keeps_set _ _ fun i o k => (O.kb i o k).1) hfb, r, ri_own hR hti.dB (.inr (.inr (.inr rfl))) _ _⟩
    exact .inl ⟨g', _, _, hstp, _, .left _ _ (Nat.add_lt_add_left (show rkB .qt < rkB .d4 by decide) _), .inr (.inl ⟨sent, ta, .qt, ra', q, rfl, hall, hJ⟩)⟩

end
end Go.Pair

/- The steps while the channel is open, and the whole run. -/
namespace Go.Pair
open Go Go.Conc

section
variable {C : Cfg} {bs0 : List C.β} {sent : List (C.β × Value)} {w w' : World} {t : Trace} {a b : Goroutine} {ra rb : Nat} {bs : List C.β}

theorem put_ch (O : C.Ok) {o : Obj} : RA C sent w { w with heap := w.heap.setIfInBounds C.Ch o } ∧ RB C w { w with heap := w.heap.setIfInBounds C.Ch o } := by
  have hw : WgAny C.ty C.Wg w → WgAny C.ty C.Wg { w with heap := w.heap.setIfInBounds C.Ch o } := any_of_same (put_other O.neq)
  exact ⟨ra_of O (keeps_put fun i o k => (O.ka i o k).2) (keeps_put fun i o k => (O.kb i o k).2) hw, ⟨keeps_put fun i o k => (O.kb i o k).2, hw⟩⟩

theorem AStop.again {g : Goroutine} {w : World} {cs : Array CommCase} {sh : CommShape} (h : AStop C bs sent g w) : AStop C bs sent { parked (core g) cs sh with status := .running } w := by
  have e : stepG C.P true { parked (core g) cs sh with status := .running } w = stepG C.P true g w := stepG_same rfl rfl rfl w
  cases bs <;> exact let ⟨_, z, h1, h2⟩ := h; ⟨rfl, z, by rw [e]; exact h1, h2⟩

theorem map_snoc {b' : C.β} {v : Value} {bs' : List C.β} (h : sent.map (·.1) ++ b' :: bs' = bs0) : (sent ++ [(b', v)]).map (·.1) ++ bs' = bs0 := by
  simpa using h

theorem meets (O : C.Ok) (h : J1 C sent bs ra rb a b w t) {b' : C.β} {bs' : List C.β} (e : bs = b' :: bs') (hall : sent.map (·.1) ++ bs = bs0) {v : Value} {s r : Nat} {tm : Bool} (hc : w.heap[C.Ch]? = some (.chan 0 #[] false s r tm))
    {a' b'' : Goroutine} (hA : ARecvs C bs' (sent ++ [(b', v)]) a' (w.setChan C.Ch 0 #[] false (s + 1) (r + 1) tm)) (hB : BSends C bs' (sent ++ [(b', v)]) b'' (w.setChan C.Ch 0 #[] false (s + 1) (r + 1) tm)) (hm : C.Msg b' v w)
    {u : Trace} (hu : ∀ op ∈ u, op.act.touch? = none ∧ (∀ m, op.act ≠ .mark m) ∧ op.act.low (w.setChan C.Ch 0 #[] false (s + 1) (r + 1) tm).heap.size) {x : Nat} :
    ∃ μ', Less μ' (bs.length + 40, x) ∧ J C bs0 μ' a' b'' (w.setChan C.Ch 0 #[] false (s + 1) (r + 1) tm) (t ++ u) := by
  obtain ⟨n, hA⟩ := (arecvs_iff C _ _ _ _).1 hA
  obtain ⟨m, hB⟩ := (bsends_iff C _ _ _ _).1 hB
  subst e
  have hput := put_ch (C := C) (sent := sent) (w := w) O (o := .chan 0 #[] false (s + 1) (r + 1) tm)
  refine ⟨(bs'.length + 40, (n + 1) + 2 * (m + 1)), .left _ _ (by simp), .inr (.inr ⟨bs', sent ++ [(b', v)], n + 1, m + 1, rfl, map_snoc hall, ⟨s + 1, r + 1, tm, put_self (lt_of_get hc)⟩, ?_, ti_comm O h.ti (grow_put hc rfl) hu, .inl ⟨n, rfl, hA⟩, .inl ⟨m, rfl, hB⟩, by omega, fun y hy => ?_⟩)⟩
  · have := h.wg
    unfold WgIs at this ⊢
    rw [← this]
    exact put_other O.neq
  · rcases List.mem_append.1 hy with hy | hy
    · exact O.msgB _ _ _ _ hput.2.keep (h.msgs y hy)
    · simp at hy
      subst hy
      exact O.msgB _ _ _ _ hput.2.keep hm

theorem comm_ops {x y z u : MemOp} {c s r cap : Nat} (hc : c < w.heap.size) (h1 : x.act = .send c s) (h2 : y.act = .recv c r cap) (h3 : z.act = .sendDone c s) (h4 : u.act = .recvDone c r) {g : Nat} {fn : FuncId} {pos : String} :
    ∀ op ∈ MemOp.ofEvents g fn pos #[] ++ #[x, y, z, u], op.act.touch? = none ∧ (∀ m, op.act ≠ .mark m) ∧ op.act.low w.heap.size := fun op hop => by
  simp [MemOp.ofEvents] at hop
  rcases hop with rfl | rfl | rfl | rfl
  · rw [h1]; exact ⟨rfl, by simp, hc⟩
  · rw [h2]; exact ⟨rfl, by simp, hc⟩
  · rw [h3]; exact ⟨rfl, by simp, hc⟩
  · rw [h4]; exact ⟨rfl, by simp, hc⟩

theorem nil_ops {t : Trace} {g : Nat} {fn : FuncId} {pos : String} : t ++ MemOp.ofEvents g fn pos #[] = t := by simp [MemOp.ofEvents]

theorem stepA1 (O : C.Ok) (hall : sent.map (·.1) ++ bs = bs0) (h : J1 C sent bs ra rb a b w t) (hrun : a.status = .running) :
    StepA C.P C.k a b w t fun a' b' w' t' => ∃ μ', Less μ' (bs.length + 40, ra + 2 * rb) ∧ J C bs0 μ' a' b' w' t' := by
  obtain ⟨s, r, tm, hc⟩ := h.ch
  rcases h.sa with ⟨n, rfl, hg⟩ | ⟨_, g, z, rfl, _⟩
  rotate_left
  · cases hrun
  rcases hg.cases with hstop | ⟨n', rfl, hstep⟩
  rotate_left
  · obtain ⟨g', w1, es, hst, D, hG⟩ := hstep w (RA.refl _ _ _)
    have hc' : w1.heap[C.Ch]? = some (.chan 0 #[] false s r tm) := by rw [D.ch]; exact hc
    refine .inl ⟨g', w1, es, hst, _, .right _ (show (n' + 1) + 2 * rb < (n' + 1 + 1) + 2 * rb by omega), .inr (.inr ⟨bs, sent, n' + 1, rb, rfl, hall, ⟨s, r, tm, hc'⟩, by have := h.wg; unfold WgIs at *; rw [D.wg]; exact this, ti_privA O h.ti D _ _, .inl ⟨n', rfl, hG⟩, ?_, by omega, fun x hx => O.msgB _ _ _ _ D.keep (h.msgs x hx)⟩)⟩
    have hsb := h.sb.rely O D.toB
    rw [hsb.woken hc']
    exact hsb
  have hS := hstop w (RA.refl _ _ _)
  obtain ⟨_, z, hcm⟩ := AStop.comm C hS
  rcases h.sb with ⟨m, rfl, hgb⟩ | ⟨rfl, b', bs', gb, v, zb, rfl, rfl, hm, hnext⟩
  · -- it waits
    refine .inr (.inl ⟨core a, C.Ch, z, #[], s, r, tm, hcm, hc, ?_, _, .right _ (show 0 + 2 * (m + 1) < (n + 1) + 2 * (m + 1) by omega), .inr (.inr ⟨bs, sent, 0, m + 1, rfl, hall, ⟨s, r, tm, hc⟩, h.wg, ?_, .inr ⟨rfl, a, z, rfl, hstop⟩, .inl ⟨m, rfl, hgb⟩, by omega, h.msgs⟩)⟩)
    · rw [hgb.running (fun _ _ => BStop.running C) w (RB.refl _ _)]; simp
    · rw [nil_ops]; exact h.ti
  · -- it meets the sender
    obtain ⟨_, z', hcm', hA⟩ := hS
    have hput := put_ch (C := C) (sent := sent) (w := w) O (o := .chan 0 #[] false (s + 1) (r + 1) tm)
    refine .inr (.inr (.inl ⟨core a, C.Ch, z, #[], s, r, tm, core gb, v, zb, hcm, hc, rfl, meets O h rfl hall hc (hA v _ hput.1 (O.msgB _ _ _ _ hput.2.keep hm)) (hnext _ hput.2) hm (comm_ops (c := C.Ch) (s := s) (r := r) (cap := 0) ?_ rfl rfl rfl rfl)⟩))
    have := lt_of_get hc
    simpa [World.setChan] using this

theorem stepB1 (O : C.Ok) (hall : sent.map (·.1) ++ bs = bs0) (h : J1 C sent bs ra rb a b w t) (hrun : b.status = .running) :
    StepB C.P C.k a b w t fun a' b' w' t' => ∃ μ', Less μ' (bs.length + 40, ra + 2 * rb) ∧ J C bs0 μ' a' b' w' t' := by
  obtain ⟨s, r, tm, hc⟩ := h.ch
  rcases h.sb with ⟨n, rfl, hg⟩ | ⟨_, _, _, g, v, z, _, rfl, _⟩
  rotate_left
  · cases hrun
  rcases hg.cases with hstop | ⟨n', rfl, hstep⟩
  rotate_left
  · obtain ⟨g', w1, es, hst, D, hG⟩ := hstep w (RB.refl _ _)
    have hc' : w1.heap[C.Ch]? = some (.chan 0 #[] false s r tm) := by rw [D.ch]; exact hc
    refine .inl ⟨g', w1, es, hst, _, .right _ (show ra + 2 * (n' + 1) < ra + 2 * (n' + 1 + 1) by omega), .inr (.inr ⟨bs, sent, ra, n' + 1, rfl, hall, ⟨s, r, tm, hc'⟩, by have := h.wg; unfold WgIs at *; rw [D.wg]; exact this, ti_privB O h.ti D _ _, ?_, .inl ⟨n', rfl, hG⟩, by omega, fun x hx => D.msg x hx (h.msgs x hx)⟩)⟩
    have hsa := h.sa.rely D.toA
    rw [hsa.woken hc']
    exact hsa
  have hS := hstop w (RB.refl _ _)
  cases bs with
  | nil =>
    -- the close
    obtain ⟨_, hmw, hcl⟩ := hS
    obtain ⟨g₂, hstp, hrun₂, m, hG⟩ := hcl s r tm hc
    have hput := put_ch (C := C) (sent := sent) (w := w) O (o := .chan 0 #[] true s r tm)
    have hc' : (w.shut C.Ch s r tm).heap[C.Ch]? = some (.chan 0 #[] true s r tm) := put_self (lt_of_get hc)
    have hall' : sent.map (·.1) = bs0 := by simpa using hall
    have hlt : C.Ch < (w.shut C.Ch s r tm).heap.size := lt_of_get hc'
    have key : ∃ ra', ra' ≠ 0 ∧ SitA2 C sent .rc ra' (woken C.P b g₂ (w.shut C.Ch s r tm) a) (w.shut C.Ch s r tm) := by
      rcases h.sa.rely hput.1 with ⟨k, rfl, hga⟩ | ⟨_, g, z, rfl, hs⟩
      · rw [woken_same (.inl (hga.running (fun _ _ => AStop.running) _ (RA.refl _ _ _)))]
        exact ⟨k + 1, by omega, .inl ⟨k, rfl, hga⟩⟩
      · refine ⟨1, by omega, .inl ⟨0, rfl, fun w₁ h₁ => ?_⟩⟩
        have e : woken C.P b g₂ (w.shut C.Ch s r tm) (parked (core g) #[rcase C.Ch z] (.recv true)) = { parked (core g) #[rcase C.Ch z] (.recv true) with status := .running } := by
          unfold woken
          rw [if_pos (wake_of hmw (.inl hrun₂))]
          exact again_recv_closed hc'
        rw [e]
        exact AStop.again (bs := []) (hs w₁ h₁)
    obtain ⟨ra', hnz, hsa⟩ := key
    refine .inl ⟨g₂, _, _, hstp, (rkA .rc + rkB .r0, ra' + 2 * (m + 1)), .left _ _ (by simp [rkA, rkB]), .inr (.inl ⟨sent, .rc, .r0, ra', m + 1, rfl, hall', ⟨s, r, tm, hc'⟩, ⟨KK, 0, rfl, ?_⟩, ⟨0, ti_close O h.ti (show Grow w (w.shut C.Ch s r tm) from grow_put hc rfl) hlt _ _, .inl ⟨by simp, rfl, m, rfl, hG⟩⟩, hsa, (fun e => by cases e), fun x hx => O.msgB _ _ _ _ hput.2.keep (h.msgs x hx), fun e => absurd rfl e⟩)⟩
    have := h.wg
    unfold WgIs at this ⊢
    rw [← this]
    exact put_other O.neq
  | cons b' bs' =>
    obtain ⟨_, v, z, hcm, hm, hnext⟩ := hS
    rcases h.sa with ⟨k, rfl, hga⟩ | ⟨rfl, g, za, rfl, hs⟩
    · refine .inr (.inl ⟨core b, C.Ch, v, z, #[], s, r, tm, hcm, hc, ?_, _, .right _ (show (k + 1) + 2 * 0 < (k + 1) + 2 * (n + 1) by omega), .inr (.inr ⟨b' :: bs', sent, k + 1, 0, rfl, hall, ⟨s, r, tm, hc⟩, h.wg, ?_, .inl ⟨k, rfl, hga⟩, .inr ⟨rfl, b', bs', b, v, z, rfl, rfl, hm, hnext⟩, by omega, h.msgs⟩)⟩)
      · rw [hga.running (fun _ _ => AStop.running) w (RA.refl _ _ _)]; simp
      · rw [nil_ops]; exact h.ti
    · obtain ⟨_, z', hcm', hA⟩ := hs w (RA.refl _ _ _)
      have hput := put_ch (C := C) (sent := sent) (w := w) O (o := .chan 0 #[] false (s + 1) (r + 1) tm)
      refine .inr (.inr ⟨core b, C.Ch, v, z, #[], s, r, tm, core g, za, hcm, hc, rfl, meets O h rfl hall hc (hA v _ hput.1 (O.msgB _ _ _ _ hput.2.keep hm)) (hnext _ hput.2) hm (comm_ops (c := C.Ch) (s := s) (r := r) (cap := 0) ?_ rfl rfl rfl rfl)⟩)
      have := lt_of_get hc
      simpa [World.setChan] using this

end
end Go.Pair

/- The pair's whole run, from the start of the worker to the caller's 'acquire'. -/
namespace Go.Pair
open Go Go.Conc
open Go.ConcN (sumTo upd sumTo_upd upd_ne upd_same)

section
variable {C : Cfg} {bs0 : List C.β} {w : World} {t : Trace} {a b : Goroutine} {μ : Nat × Nat}

theorem Fin.at (O : C.Ok) (h : Fin C bs0 a b w t) (d : Nat) : Fin C bs0 a b (w.at d) t :=
  ⟨h.run, h.past, h.quits, let ⟨s, h1, h2, h4, h3⟩ := h.post; ⟨s, h1, (O.postAt _ _ _ _).2 h2, O.fbB _ _ _ (.at _ _ _) h4, fun x hx => O.msgB _ _ _ _ (.at _ _ _) (h3 x hx)⟩⟩

theorem Keeps.back (K : Nat → Obj → Prop) (w : World) (d : Nat) : Keeps K (w.at d) w := ⟨rfl, rfl, rfl, Nat.le_refl _, fun _ _ h _ => h⟩
theorem Fin.back (O : C.Ok) (d : Nat) (h : Fin C bs0 a b (w.at d) t) : Fin C bs0 a b w t :=
  ⟨h.run, h.past, h.quits, let ⟨s, h1, h2, h4, h3⟩ := h.post; ⟨s, h1, (O.postAt _ _ _ _).1 h2, O.fbB _ _ _ (.back _ _ d) h4, fun x hx => O.msgB _ _ _ _ (.back _ _ d) (h3 x hx)⟩⟩

theorem J.at (O : C.Ok) (d : Nat) (h : J C bs0 μ a b w t) : J C bs0 μ a b (w.at d) t := by
  rcases h with ⟨e, h⟩ | ⟨sent, ta, tb, ra, rb, e, hall, h⟩ | ⟨bs, sent, ra, rb, e, hall, h⟩
  · exact .inl ⟨e, h.at O d⟩
  · obtain ⟨dB, hti, hsb⟩ := h.ti
    exact .inr (.inl ⟨sent, ta, tb, ra, rb, e, hall, h.ch, h.wg, ⟨dB, hti.at O d, hsb.rely (rb_at d)⟩, h.sa.rely (ra_at O d), h.nb, fun x hx => O.msgB _ _ _ _ (.at _ _ _) (h.msgs x hx), fun hn => ⟨O.fbB _ _ _ (.at _ _ _) (h.rel hn).1, (h.rel hn).2⟩⟩)
  · exact .inr (.inr ⟨bs, sent, ra, rb, e, hall, h.ch, h.wg, h.ti.at O d, h.sa.rely (ra_at O d), h.sb.rely O (rb_at d), h.nb, fun x hx => O.msgB _ _ _ _ (.at _ _ _) (h.msgs x hx)⟩)

theorem J.mute (O : C.Ok) {i : Nat} {fn : FuncId} {pos : String} {es : Array Event} (h0 : i ≠ 0) (hk : i ≠ C.k) (hm : ∀ e ∈ es, Event.mute e = true) (h : J C bs0 μ a b w t) : J C bs0 μ a b w (t ++ MemOp.ofEvents i fn pos es) := by
  rcases h with ⟨e, h⟩ | ⟨sent, ta, tb, ra, rb, e, hall, h⟩ | ⟨bs, sent, ra, rb, e, hall, h⟩
  · refine .inl ⟨e, h.run, h.past.mute h0 hm, ?_, h.post⟩
    rw [Deaf_other t (g := C.k) (g' := i) hk _ (fun op hop => g_ofEvents hop)]
    exact h.quits
  · obtain ⟨dB, hti, hsb⟩ := h.ti
    refine .inr (.inl ⟨sent, ta, tb, ra, rb, e, hall, h.ch, h.wg, ⟨dB, ti_leaver O hti h0 hk hm _ _, hsb⟩, h.sa, h.nb, h.msgs, fun hn => ⟨(h.rel hn).1, let ⟨r, hR⟩ := (h.rel hn).2; ⟨r, hR.appOther fun op hop => ?_⟩⟩⟩)
    obtain ⟨e, he, rfl⟩ := Conc.mem_ofEvents hop
    refine ⟨hk, fun x => ?_⟩
    have := hm e he
    obtain ⟨loc, wr, sy⟩ := e
    cases loc with
    | mark m =>
      cases wr <;> cases sy <;> simp [MemAct.ofEvent] at x <;> subst x <;> simp [Event.mute] at this
    | _ => simp [Event.mute] at this
  · exact .inr (.inr ⟨bs, sent, ra, rb, e, hall, h.ch, h.wg, ti_leaver O h.ti h0 hk hm _ _, h.sa, h.sb, h.nb, h.msgs⟩)

theorem J.wake (O : C.Ok) (g g' : Goroutine) (h : J C bs0 μ a b w t) : ∃ μ', J C bs0 μ' (woken C.P g g' w a) (woken C.P g g' w b) w t := by
  rcases h with ⟨e, h⟩ | ⟨sent, ta, tb, ra, rb, e, hall, h⟩ | ⟨bs, sent, ra, rb, e, hall, h⟩
  · obtain ⟨n, hq⟩ := h.quits
    refine ⟨(0, 0), .inl ⟨rfl, ?_⟩⟩
    rw [woken_same (.inl h.run), woken_quitsD hq]
    exact h
  · obtain ⟨dB, hti, hsb⟩ := h.ti
    obtain ⟨ra', _, hnz, hsa⟩ := h.sa.woken (P := C.P) g g' w
    refine ⟨_, .inr (.inl ⟨sent, ta, tb, ra', rb, rfl, hall, h.ch, h.wg, ⟨dB, hti, ?_⟩, hsa, fun e => hnz (h.nb e), h.msgs, h.rel⟩)⟩
    rw [hsb.woken]
    exact hsb
  · obtain ⟨s, r, tm, hc⟩ := h.ch
    refine ⟨_, .inr (.inr ⟨bs, sent, ra, rb, rfl, hall, h.ch, h.wg, h.ti, ?_, ?_, h.nb, h.msgs⟩)⟩
    · rw [h.sa.woken hc]; exact h.sa
    · rw [h.sb.woken hc]; exact h.sb

theorem J.awake (h : J C bs0 μ a b w t) : awake a ∧ awake b ∧ (a.status = .running ∨ b.status = .running) := by
  have aw : ∀ {g : Goroutine}, (g.status = .running ∨ g.status = .blocked ∨ g.status = .finished) → Conc.awake g := fun h t e => by
    rcases h with x | x | x <;> rw [x] at e <;> cases e
  rcases h with ⟨e, h⟩ | ⟨sent, ta, tb, ra, rb, e, hall, h⟩ | ⟨bs, sent, ra, rb, e, hall, h⟩
  · obtain ⟨n, hq⟩ := h.quits
    exact ⟨aw (.inl h.run), aw (hq.status.imp id .inr), .inl h.run⟩
  · obtain ⟨dB, hti, hsb⟩ := h.ti
    rcases h.sa.status with ⟨ha, hnz⟩ | ⟨ha, hz, _⟩
    · exact ⟨aw (.inl ha), aw (hsb.status.imp id fun x => .inr x.1), .inl ha⟩
    · rcases hsb.status with hb | ⟨hb, hq⟩
      · exact ⟨aw (.inr (.inl ha)), aw (.inl hb), .inr hb⟩
      · exact absurd hz (h.nb hq)
  · rcases h.sa.status with ⟨ha, hnz⟩ | ⟨ha, hz⟩
    · exact ⟨aw (.inl ha), aw (h.sb.status.imp (·.1) fun x => .inl x.1), .inl ha⟩
    · rcases h.sb.status with ⟨hb, _⟩ | ⟨hb, hz'⟩
      · exact ⟨aw (.inr (.inl ha)), aw (.inl hb), .inr hb⟩
      · exact absurd ⟨hz, hz'⟩ h.nb

theorem J.step (O : C.Ok) (h : J C bs0 μ a b w t) : Fin C bs0 a b w t ∨ ((a.status = .running → StepA C.P C.k a b w t fun a' b' w' t' => ∃ μ', Less μ' μ ∧ J C bs0 μ' a' b' w' t') ∧ (b.status = .running → StepB C.P C.k a b w t fun a' b' w' t' => ∃ μ', Less μ' μ ∧ J C bs0 μ' a' b' w' t')) := by
  rcases h with ⟨e, h⟩ | ⟨sent, ta, tb, ra, rb, rfl, hall, h⟩ | ⟨bs, sent, ra, rb, rfl, hall, h⟩
  · exact .inl h
  · exact .inr ⟨stepA2 O hall h, stepB2 O hall h⟩
  · exact .inr ⟨stepA1 O hall h, stepB1 O hall h⟩

theorem pair_ends (O : C.Ok) {gs : Array Goroutine} {sl : Option (Nat × Nat)} {q : Nat → Nat} (h0 : gs[0]? = some a) (hb : gs[C.k]? = some b) (hO : Others C.P t gs C.k q) (hJ : J C bs0 μ a b w t) :
    ∃ (N : Nat) (gs' : Array Goroutine) (a' : Goroutine) (w' : World) (sl' : Option (Nat × Nat)) (t' : Trace) (q' : Nat → Nat),
      runNT C.P N (crowd gs w sl) t = (.next (crowd gs' w' sl'), t') ∧ gs'.size = gs.size ∧ gs'[0]? = some a' ∧ a'.status = .running ∧ (∃ sent, sent.map (·.1) = bs0 ∧ C.PostA sent a' w' ∧ C.FB sent w' ∧ ∀ x ∈ sent, C.Msg x.1 x.2 w') ∧
      Leavers C.P t' gs' q' ∧ Past (fun l => C.Shun l ∨ IsWg C.Wg l) w'.heap.size t' := by
  obtain ⟨N, gs', a', b', w', sl', t', q', hr, hz, x0, xb, xF, xO⟩ := pair_run (P := C.P) (k := C.k) (lt := Less) (J := J C bs0) (Fin := Fin C bs0) O.hk less_wf
    (fun μ a b w t d h => h.at O d) (fun a b w t d h => h.back O d) (fun μ a b w t i fn pos es h0 hk hm h => h.mute O h0 hk hm) (fun μ a b w t g g' h => h.wake O g g') (fun μ a b w t h => h.awake) (fun μ a b w t h => h.step O)
    (sumTo gs.size q) μ gs a b w sl t q (Nat.le_refl _) h0 hb hO hJ
  obtain ⟨n, hq⟩ := xF.quits
  refine ⟨N, gs', a', w', sl', t', upd q' C.k n, hr, hz, x0, xF.run, xF.post, ⟨fun i g hi hg => ?_, xO.above⟩, xF.past⟩
  by_cases hik : i = C.k
  · subst hik
    rw [xb] at hg
    obtain rfl := Option.some.inj hg
    rw [upd_same]
    exact hq
  · rw [upd_ne q' n hik]
    exact xO.old i g hi hik hg

end
end Go.Pair
