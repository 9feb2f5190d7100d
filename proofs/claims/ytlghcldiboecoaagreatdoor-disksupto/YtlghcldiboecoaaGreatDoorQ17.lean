/- Where the two stand: the channel is open; it is closed; the caller has acquired. -/
import Derived.Test.YtlghcldiboecoaaGreatDoorQ16
set_option linter.unusedVariables false
set_option linter.unusedSimpArgs false
namespace Go.Pair
open Go Go.Conc

inductive AT | rc | kd | w1 | w2 | wz | wm | w3 | w4 | ke | ac
inductive BT | r0 | k1 | d1 | d2 | d3 | d4 | qt

def rkA : AT → Nat
  | .rc => 12 | .kd => 11 | .w1 => 10 | .w2 => 9 | .wz => 8 | .wm => 8 | .w3 => 7 | .w4 => 6 | .ke => 5 | .ac => 4

def rkB : BT → Nat
  | .r0 => 7 | .k1 => 6 | .d1 => 5 | .d2 => 4 | .d3 => 3 | .d4 => 2 | .qt => 1

def dfA : AT → Nat
  | .rc | .kd | .ac => 0 | _ => 1

def dfB : BT → Nat
  | .r0 | .k1 => 0 | _ => 1

def stOf : AT → BT → Option (Int × Int)
  | .rc, .qt | .kd, .qt | .w1, .qt | .w2, .qt | .wz, .qt | .w4, .qt | .ke, .qt | .ac, .qt => some (0, 0)
  | .wm, .qt | .w3, .qt => some (0, 1)
  | .wm, .d4 | .w3, .d4 => some (0, 0)
  | .wm, .d3 | .w3, .d3 | .wm, .d2 | .w3, .d2 => some (1, 0)
  | .wm, .r0 | .w3, .r0 | .wm, .k1 | .w3, .k1 | .wm, .d1 | .w3, .d1 => some (KK + 1, 0)
  | .rc, .r0 | .rc, .k1 | .rc, .d1 | .kd, .r0 | .kd, .k1 | .kd, .d1 | .w1, .r0 | .w1, .k1 | .w1, .d1 | .w2, .r0 | .w2, .k1 | .w2, .d1 => some (KK, 0)
  | _, _ => none

section
variable (C : Cfg) (sent : List (C.β × Value))
def StA : AT → Goroutine → World → Prop
  | .rc => ARc C sent | .kd => AKd C sent | .w1 => AW1 C sent | .w2 => AW2 C sent | .wz => AWz C sent | .wm => AWm C sent | .w3 => AW3 C sent | .w4 => AW4 C sent | .ke => AKe C sent | .ac => AAcq C sent

def StB : BT → Goroutine → World → Prop
  | .r0 => BR0 C sent | .k1 => BK1 C | .d1 => BD1 C | .d2 => BD2 C | .d3 => BD3 C | .d4 => BD4 C | .qt => fun _ _ => False

def SitA2 (ta : AT) (ra : Nat) (a : Goroutine) (w : World) : Prop :=
  (∃ n, ra = n + 1 ∧ Goes C.P true (RA C sent) (DA C) (StA C sent ta) n a w) ∨
  (ta = .w3 ∧ ra = 0 ∧ ∃ g, a = { g with status := .blocked } ∧ ∀ w₁, RA C sent w w₁ → AW3 C sent g w₁)

def DBt : BT → World → World → Array Event → Prop
  | .r0 => DB C sent
  | _ => D0

def SitB2 (tb : BT) (rb dB : Nat) (b : Goroutine) (w : World) : Prop :=
  (tb ≠ .qt ∧ dB = dfB tb ∧ ∃ n, rb = n + 1 ∧ Goes C.P false (RB C) (DBt C sent tb) (StB C sent tb) n b w) ∨ (tb = .qt ∧ QuitsD C.P rb dB b)

def SitA1 (bs : List C.β) (ra : Nat) (a : Goroutine) (w : World) : Prop :=
  (∃ n, ra = n + 1 ∧ Goes C.P true (RA C sent) (DA C) (AStop C bs sent) n a w) ∨
  (ra = 0 ∧ ∃ g z, a = parked (core g) #[rcase C.Ch z] (.recv true) ∧ ∀ w₁, RA C sent w w₁ → AStop C bs sent g w₁)

def SitB1 (bs : List C.β) (rb : Nat) (b : Goroutine) (w : World) : Prop :=
  (∃ n, rb = n + 1 ∧ Goes C.P false (RB C) (DB C sent) (BStop C bs sent) n b w) ∨
  (rb = 0 ∧ ∃ b' bs' g v z, bs = b' :: bs' ∧ b = parked (core g) #[scase C.Ch v z] .send ∧ C.Msg b' v w ∧ ∀ w₁, RB C w w₁ → BSends C bs' (sent ++ [(b', v)]) (Conc.served (core g) undef) w₁)

structure J2 (ta : AT) (tb : BT) (ra rb : Nat) (a b : Goroutine) (w : World) (t : Trace) : Prop where
  ch : ∃ s r tm, w.heap[C.Ch]? = some (.chan 0 #[] true s r tm)
  wg : ∃ st sm, stOf ta tb = some (st, sm) ∧ WgIs C.ty C.Wg w st sm
  ti : ∃ dB, C.TI t w (dfA ta) dB ∧ SitB2 C sent tb rb dB b w
  sa : SitA2 C sent ta ra a w
  nb : tb = .qt → ra ≠ 0
  msgs : ∀ x ∈ sent, C.Msg x.1 x.2 w
  rel : tb ≠ .r0 → C.FB sent w ∧ ∃ r, RI C.k C.Wg t r

structure J1 (bs : List C.β) (ra rb : Nat) (a b : Goroutine) (w : World) (t : Trace) : Prop where
  ch : ∃ s r tm, w.heap[C.Ch]? = some (.chan 0 #[] false s r tm)
  wg : WgIs C.ty C.Wg w KK 0
  ti : C.TI t w 0 0
  sa : SitA1 C sent bs ra a w
  sb : SitB1 C sent bs rb b w
  nb : ¬ (ra = 0 ∧ rb = 0)
  msgs : ∀ x ∈ sent, C.Msg x.1 x.2 w

end

section
variable {C : Cfg} {sent : List (C.β × Value)} {w w' : World} {t : Trace} {a b : Goroutine} {ta : AT} {tb : BT} {ra rb dB : Nat} {bs : List C.β}

theorem DBt.db {es : Array Event} (h : DBt C sent tb w w' es) : DB C sent w w' es := by cases tb <;> first | exact h | exact D0.db C sent h
theorem DBt.nil {es : Array Event} (h : DBt C sent tb w w' es) (hn : tb ≠ .r0) : es = #[] ∧ w' = w := by cases tb <;> first | exact absurd rfl hn | exact ⟨h.2, h.1⟩ | exact ⟨h.2, h.1.symm⟩

theorem StA.running {g : Goroutine} {w : World} (h : StA C sent ta g w) : g.status = .running := by cases ta <;> exact h.1
theorem StB.running {g : Goroutine} {w : World} (h : StB C sent tb g w) : g.status = .running := by cases tb <;> first | exact h.1 | exact h.elim
theorem AStop.running {g : Goroutine} {w : World} (h : AStop C bs sent g w) : g.status = .running := by cases bs <;> exact h.1
theorem raT : ∀ a b c, RA C sent a b → RA C sent b c → RA C sent a c := fun _ _ _ h k => h.trans k
theorem rbT : ∀ a b c, RB C a b → RB C b c → RB C a c := fun _ _ _ h k => h.trans k

theorem ra_of (O : C.Ok) (h : Keeps C.KA w w') (h' : Keeps C.KB w w') (hw : WgAny C.ty C.Wg w → WgAny C.ty C.Wg w') : RA C sent w w' := ⟨h, hw, fun x _ m => O.msgB _ _ _ _ h' m⟩
theorem any_of_same (h : w'.heap[C.Wg]? = w.heap[C.Wg]?) : WgAny C.ty C.Wg w → WgAny C.ty C.Wg w' := fun ⟨st, sm, x⟩ => ⟨st, sm, by unfold WgIs at *; rw [h]; exact x⟩
theorem DA.toB {es : Array Event} (D : DA C w w' es) : RB C w w' := ⟨D.keep, any_of_same D.wg⟩
theorem DB.toA {es : Array Event} (D : DB C sent w w' es) : RA C sent w w' := ⟨D.keep, any_of_same D.wg, D.msg⟩
theorem ra_at (O : C.Ok) (d : Nat) : RA C sent w (w.at d) := ra_of O (.at _ _ _) (.at _ _ _) id
theorem rb_at (d : Nat) : RB C w (w.at d) := ⟨.at _ _ _, id⟩

theorem SitA2.rely (h : SitA2 C sent ta ra a w) (hr : RA C sent w w') : SitA2 C sent ta ra a w' := by
  rcases h with ⟨n, e, hg⟩ | ⟨e1, e2, g, ea, hs⟩
  · exact .inl ⟨n, e, Goes.rely raT hg hr⟩
  · exact .inr ⟨e1, e2, g, ea, fun w₂ h₂ => hs w₂ (hr.trans h₂)⟩

theorem SitB2.rely (h : SitB2 C sent tb rb dB b w) (hr : RB C w w') : SitB2 C sent tb rb dB b w' := by
  rcases h with ⟨e0, e1, n, e, hg⟩ | h
  · exact .inl ⟨e0, e1, n, e, Goes.rely rbT hg hr⟩
  · exact .inr h

theorem SitA1.rely (h : SitA1 C sent bs ra a w) (hr : RA C sent w w') : SitA1 C sent bs ra a w' := by
  rcases h with ⟨n, e, hg⟩ | ⟨e1, g, z, ea, hs⟩
  · exact .inl ⟨n, e, Goes.rely raT hg hr⟩
  · exact .inr ⟨e1, g, z, ea, fun w₂ h₂ => hs w₂ (hr.trans h₂)⟩

theorem SitB1.rely (O : C.Ok) (h : SitB1 C sent bs rb b w) (hr : RB C w w') : SitB1 C sent bs rb b w' := by
  rcases h with ⟨n, e, hg⟩ | ⟨e1, b', bs', g, v, z, e2, e3, hm, hs⟩
  · exact .inl ⟨n, e, Goes.rely rbT hg hr⟩
  · exact .inr ⟨e1, b', bs', g, v, z, e2, e3, O.msgB _ _ _ _ hr.keep hm, fun w₂ h₂ => hs w₂ (hr.trans h₂)⟩

theorem SitA2.status (h : SitA2 C sent ta ra a w) : (a.status = .running ∧ ra ≠ 0) ∨ (a.status = .blocked ∧ ra = 0 ∧ ta = .w3) := by
  rcases h with ⟨n, e, hg⟩ | ⟨e1, e2, g, rfl, _⟩
  · exact .inl ⟨hg.running (fun _ _ => StA.running) w (RA.refl _ _ _), by omega⟩
  · exact .inr ⟨rfl, e2, e1⟩

theorem SitB2.status (h : SitB2 C sent tb rb dB b w) : b.status = .running ∨ (b.status = .finished ∧ tb = .qt) := by
  rcases h with ⟨_, _, n, e, hg⟩ | ⟨e, h⟩
  · exact .inl (hg.running (fun _ _ => StB.running) w (RB.refl _ _))
  · exact h.status.imp id fun x => ⟨x, e⟩

theorem SitA1.status (h : SitA1 C sent bs ra a w) : (a.status = .running ∧ ra ≠ 0) ∨ (a.status = .blocked ∧ ra = 0) := by
  rcases h with ⟨n, e, hg⟩ | ⟨e1, g, z, rfl, _⟩
  · exact .inl ⟨hg.running (fun _ _ => AStop.running) w (RA.refl _ _ _), by omega⟩
  · exact .inr ⟨rfl, e1⟩

theorem SitB1.status (h : SitB1 C sent bs rb b w) : (b.status = .running ∧ rb ≠ 0) ∨ (b.status = .blocked ∧ rb = 0) := by
  rcases h with ⟨n, e, hg⟩ | ⟨e1, b', bs', g, v, z, _, rfl, _⟩
  · exact .inl ⟨hg.running (fun _ _ => BStop.running C) w (RB.refl _ _), by omega⟩
  · exact .inr ⟨rfl, e1⟩

theorem woken_same {P : Program} {g g' o : Goroutine} {w : World} (h : o.status = .running ∨ o.status = .finished) : woken P g g' w o = o := by
  unfold woken
  split
  · exact again_running _ h
  · rfl

theorem SitB2.woken {P : Program} (h : SitB2 C sent tb rb dB b w) (g g' : Goroutine) (w' : World) : woken P g g' w' b = b := woken_same (h.status.imp id (·.1))
theorem SitA1.woken {P : Program} (h : SitA1 C sent bs ra a w) {s r : Nat} {tm : Bool} (hc : w'.heap[C.Ch]? = some (.chan 0 #[] false s r tm)) (g g' : Goroutine) : woken P g g' w' a = a := by
  rcases h with ⟨n, e, hg⟩ | ⟨e1, g, z, rfl, _⟩
  · exact woken_same (.inl (hg.running (fun _ _ => AStop.running) w (RA.refl _ _ _)))
  · exact woken_recv_open _ _ hc

theorem SitB1.woken {P : Program} (h : SitB1 C sent bs rb b w) {s r : Nat} {tm : Bool} (hc : w'.heap[C.Ch]? = some (.chan 0 #[] false s r tm)) (g g' : Goroutine) : woken P g g' w' b = b := by
  rcases h with ⟨n, e, hg⟩ | ⟨e1, b', bs', g, v, z, _, rfl, _⟩
  · exact woken_same (.inl (hg.running (fun _ _ => BStop.running C) w (RB.refl _ _)))
  · exact woken_send_open _ _ hc

theorem SitA2.woken {P : Program} (h : SitA2 C sent ta ra a w) (g g' : Goroutine) (w' : World) : ∃ ra', ra' ≤ ra + 1 ∧ (ra ≠ 0 → ra' ≠ 0) ∧ SitA2 C sent ta ra' (woken P g g' w' a) w := by
  rcases h with ⟨n, e, hg⟩ | ⟨e1, e2, x, rfl, hs⟩
  · refine ⟨ra, by omega, id, ?_⟩
    rw [woken_same (.inl (hg.running (fun _ _ => StA.running) w (RA.refl _ _ _)))]
    exact .inl ⟨n, e, hg⟩
  · have h0 := hs w (RA.refl _ _ _)
    by_cases hw : (mayWake P g && g'.status != .blocked && g'.status != .waiting) = true
    · refine ⟨1, by omega, fun _ => by omega, .inl ⟨0, rfl, ?_⟩⟩
      have e3 : Conc.woken P g g' w' { x with status := .blocked } = x := by
        unfold Conc.woken
        rw [if_pos hw]
        obtain ⟨f, c, s, d, o⟩ := x
        have h1 : s = .running := h0.1
        have h2 : o = none := h0.2.1
        subst h1 h2
        rfl
      rw [e3]
      subst e1
      exact fun w₁ h₁ => hs w₁ h₁
    · refine ⟨ra, by omega, id, ?_⟩
      have e3 : Conc.woken P g g' w' { x with status := .blocked } = { x with status := .blocked } := by
        unfold Conc.woken
        rw [if_neg hw]
      rw [e3]
      exact .inr ⟨e1, e2, x, rfl, hs⟩

theorem SitA2.wakes {P : Program} (h : SitA2 C sent ta ra a w) {g g' : Goroutine} (w' : World) (hw : (mayWake P g && g'.status != .blocked && g'.status != .waiting) = true) : ∃ ra', ra' ≠ 0 ∧ SitA2 C sent ta ra' (Conc.woken P g g' w' a) w := by
  rcases h with ⟨n, e, hg⟩ | ⟨e1, e2, x, rfl, hs⟩
  · refine ⟨ra, by omega, ?_⟩
    rw [woken_same (.inl (hg.running (fun _ _ => StA.running) w (RA.refl _ _ _)))]
    exact .inl ⟨n, e, hg⟩
  · have h0 := hs w (RA.refl _ _ _)
    refine ⟨1, by omega, .inl ⟨0, rfl, ?_⟩⟩
    have e3 : Conc.woken P g g' w' { x with status := .blocked } = x := by
      unfold Conc.woken
      rw [if_pos hw]
      obtain ⟨f, c, s, d, o⟩ := x
      have h1 : s = .running := h0.1
      have h2 : o = none := h0.2.1
      subst h1 h2
      rfl
    rw [e3]
    subst e1
    exact fun w₁ h₁ => hs w₁ h₁

end
end Go.Pair

/- The caller's steps behind the close. -/
namespace Go.Pair
open Go Go.Conc

section
variable (C : Cfg) (bs0 : List C.β)
structure Fin (a b : Goroutine) (w : World) (t : Trace) : Prop where
  run : a.status = .running
  past : Past (fun l => C.Shun l ∨ IsWg C.Wg l) w.heap.size t
  quits : ∃ n, QuitsD C.P n (Deaf t C.k) b
  post : ∃ sent, sent.map (·.1) = bs0 ∧ C.PostA sent a w ∧ C.FB sent w ∧ ∀ x ∈ sent, C.Msg x.1 x.2 w

def J (μ : Nat × Nat) (a b : Goroutine) (w : World) (t : Trace) : Prop :=
  (μ = (0, 0) ∧ Fin C bs0 a b w t) ∨
  (∃ sent ta tb ra rb, μ = (rkA ta + rkB tb, ra + 2 * rb) ∧ sent.map (·.1) = bs0 ∧ J2 C sent ta tb ra rb a b w t) ∨
  (∃ bs sent ra rb, μ = (bs.length + 40, ra + 2 * rb) ∧ sent.map (·.1) ++ bs = bs0 ∧ J1 C sent bs ra rb a b w t)

abbrev Less : Nat × Nat → Nat × Nat → Prop := Prod.Lex (· < ·) (· < ·)
theorem less_wf : WellFounded Less := (Prod.lex ⟨_, Nat.lt_wfRel.wf⟩ ⟨_, Nat.lt_wfRel.wf⟩).wf
end

section
variable {C : Cfg} {bs0 : List C.β} {sent : List (C.β × Value)} {w w' : World} {t : Trace} {a b : Goroutine} {ta ta' : AT} {tb tb' : BT} {ra rb : Nat} {bs : List C.β}

theorem norel_A {es : Array Event} (h : ∀ e ∈ es, EvGA C.Wg e) (hk : 0 < C.k) (fn : FuncId) (pos : String) : ∀ op ∈ MemOp.ofEvents 0 fn pos es, op.g ≠ C.k ∧ op.act ≠ .mark (.release (stW C.Wg)) := by
  intro op hop
  obtain ⟨e, he, rfl⟩ := Conc.mem_ofEvents hop
  refine ⟨by show 0 ≠ C.k; omega, ?_⟩
  rcases h e he with ⟨a, wr, rfl, ha⟩ | rfl | rfl | rfl | rfl <;> simp [MemAct.ofEvent, mkE]

theorem norel_P {es : Array Event} {L : World → Loc → Bool → Prop} (h : ∀ e ∈ es, EvP L w' e) (hk : 0 < C.k) (fn : FuncId) (pos : String) : ∀ op ∈ MemOp.ofEvents 0 fn pos es, op.g ≠ C.k ∧ op.act ≠ .mark (.release (stW C.Wg)) := by
  intro op hop
  obtain ⟨e, he, rfl⟩ := Conc.mem_ofEvents hop
  refine ⟨by show 0 ≠ C.k; omega, ?_⟩
  rcases h e he with ⟨m, hm, hn⟩ | ⟨a, wr, rfl, _, _⟩
  · obtain ⟨loc, wr, sy⟩ := e
    simp only at hm
    subst hm
    unfold Neutral at hn
    subst hn
    cases wr <;> cases sy <;> simp [MemAct.ofEvent]
  · simp [MemAct.ofEvent]

theorem J2.privA (O : C.Ok) (h : J2 C sent ta tb ra rb a b w t) {a' : Goroutine} {es : Array Event} (D : DA C w w' es) {ra' : Nat} (hs : SitA2 C sent ta ra' a' w') (hr : ra' ≠ 0) :
    J2 C sent ta tb ra' rb a' (woken C.P a a' w' b) w' (t ++ MemOp.ofEvents 0 a.frame.fn a.frame.place es) := by
  obtain ⟨dB, hti, hsb⟩ := h.ti
  rw [hsb.woken]
  obtain ⟨s, r, tm, hc⟩ := h.ch
  obtain ⟨st, sm, hst, hwg⟩ := h.wg
  exact ⟨⟨s, r, tm, by rw [D.ch]; exact hc⟩, ⟨st, sm, hst, by unfold WgIs at *; rw [D.wg]; exact hwg⟩, ⟨dB, ti_privA O hti D _ _, hsb.rely D.toB⟩, hs, fun _ => hr, fun x hx => O.msgB _ _ _ _ D.keep (h.msgs x hx),
    fun hne => ⟨O.fbB _ _ _ D.keep (h.rel hne).1, let ⟨r, hr⟩ := (h.rel hne).2; ⟨r, hr.appOther (norel_P D.ev O.hk _ _)⟩⟩⟩

theorem J2.wgA (O : C.Ok) (h : J2 C sent ta tb ra rb a b w t) {a' : Goroutine} {es : Array Event} (hes : ∀ e ∈ es, EvGA C.Wg e) {ra' : Nat} {st sm : Int}
    (hw : w' = w ∨ ∃ ad v, w' = w.setCell ad v ∧ ad.block = C.Wg) (hst : stOf ta' tb = some (st, sm)) (hwg : WgIs C.ty C.Wg w' st sm) (hd : deafBehind (dfA ta) es = dfA ta') (hs : SitA2 C sent ta' ra' a' w') (hr : tb = .qt → ra' ≠ 0) :
    J2 C sent ta' tb ra' rb a' (woken C.P a a' w' b) w' (t ++ MemOp.ofEvents 0 a.frame.fn a.frame.place es) := by
  obtain ⟨dB, hti, hsb⟩ := h.ti
  rw [hsb.woken]
  obtain ⟨s, r, tm, hc⟩ := h.ch
  have hK : Keeps C.KB w w' := by
    rcases hw with rfl | ⟨ad, v, rfl, had⟩
    · exact .refl _ _
    · exact keeps_set ad v fun i o k => by rw [had]; exact (O.kb i o k).1
  have hG : Grow w w' := by
    rcases hw with rfl | ⟨ad, v, rfl, had⟩
    · exact .refl _
    · exact grow_set ad v
  have hC : w'.heap[C.Ch]? = w.heap[C.Ch]? := by
    rcases hw with rfl | ⟨ad, v, rfl, had⟩
    · rfl
    · exact set_other ad v (by rw [had]; exact Ne.symm O.neq)
  have hti' := ti_wgA O hti hG (wg_lt hwg) hes a.frame.fn a.frame.place
  rw [hd] at hti'
  exact ⟨⟨s, r, tm, by rw [hC]; exact hc⟩, ⟨st, sm, hst, hwg⟩, ⟨dB, hti', hsb.rely ⟨hK, fun _ => ⟨st, sm, hwg⟩⟩⟩, hs, hr, fun x hx => O.msgB _ _ _ _ hK (h.msgs x hx),
    fun hne => ⟨O.fbB _ _ _ hK (h.rel hne).1, let ⟨r, hr⟩ := (h.rel hne).2; ⟨r, hr.appOther (norel_A hes O.hk _ _)⟩⟩⟩

theorem ev_rd (Wg : Nat) : ∀ e ∈ (#[rdE (stW Wg)] : Array Event), EvGA Wg e := fun e he => by
  simp at he
  subst he
  exact .inl ⟨_, _, rfl, rfl⟩

theorem ev_rw (Wg : Nat) : ∀ e ∈ (#[rdE (stW Wg), wrE (stW Wg)] : Array Event), EvGA Wg e := fun e he => by
  simp at he
  rcases he with rfl | rfl
  · exact .inl ⟨_, _, rfl, rfl⟩
  · exact .inl ⟨_, _, rfl, rfl⟩

theorem ev_sem (Wg : Nat) : ∀ e ∈ semEvents (smW Wg), EvGA Wg e := fun e he => by
  simp [semEvents] at he
  rcases he with rfl | rfl | rfl | rfl
  · exact .inr (.inl rfl)
  · exact .inl ⟨_, _, rfl, rfl⟩
  · exact .inl ⟨_, _, rfl, rfl⟩
  · exact .inr (.inr (.inl rfl))

theorem sit_of {Stop : AT} {n : Nat} {g : Goroutine} {w : World} (h : Goes C.P true (RA C sent) D0 (StA C sent Stop) n g w) : SitA2 C sent Stop (n + 1) g w := .inl ⟨n, rfl, goes_monoD (fun _ _ _ d => D0.da C d) h⟩

theorem stepA2 (O : C.Ok) (hall : sent.map (·.1) = bs0) (h : J2 C sent ta tb ra rb a b w t) (hrun : a.status = .running) :
    StepA C.P C.k a b w t fun a' b' w' t' => ∃ μ', Less μ' (rkA ta + rkB tb, ra + 2 * rb) ∧ J C bs0 μ' a' b' w' t' := by
  rcases h.sa with ⟨n, rfl, hg⟩ | ⟨_, _, g, rfl, _⟩
  rotate_left
  · cases hrun
  rcases hg.cases with hstop | ⟨n', rfl, hstep⟩
  rotate_left
  · obtain ⟨g', w1, es, hst, D, hG⟩ := hstep w (RA.refl _ _ _)
    exact .inl ⟨g', w1, es, hst, _, .right _ (by omega), .inr (.inl ⟨sent, ta, tb, n' + 1, rb, rfl, hall, h.privA O D (.inl ⟨n', rfl, hG⟩) (by omega)⟩)⟩
  have hS := hstop w (RA.refl _ _ _)
  obtain ⟨st, sm, hst, hwg⟩ := h.wg
  cases ta with
  | rc =>
    obtain ⟨_, z, hcm, hnext⟩ := hS
    obtain ⟨m, hG⟩ := hnext w (RA.refl _ _ _)
    obtain ⟨s, r, tm, hc⟩ := h.ch
    obtain ⟨dB, hti, hsb⟩ := h.ti
    refine .inr (.inr (.inr ⟨core a, C.Ch, z, #[], s, r, tm, hcm, hc, ?_, _, .left _ _ (Nat.add_lt_add_right (show rkA .kd < rkA .rc by decide) _), .inr (.inl ⟨sent, .kd, tb, m + 1, rb, rfl, hall, ?_⟩)⟩))
    · rcases hsb.status with x | ⟨x, _⟩ <;> rw [x] <;> simp
    · have hop : ∀ op ∈ (MemOp.ofEvents 0 a.frame.fn a.frame.place #[] ++ #[({ g := 0, fn := (core a).frame.fn, pos := (core a).frame.place, act := .recvClosed C.Ch } : MemOp)]), op = { g := 0, fn := (core a).frame.fn, pos := (core a).frame.place, act := .recvClosed C.Ch } := fun op hop => by
        simpa [MemOp.ofEvents] using hop
      refine ⟨⟨s, r, tm, hc⟩, ⟨st, sm, ?_, hwg⟩, ⟨dB, ti_comm O hti (.refl _) fun op ho => ?_, hsb⟩, .inl ⟨m, rfl, hG⟩, fun _ => by omega, h.msgs, fun hne => ⟨(h.rel hne).1, let ⟨r, hr⟩ := (h.rel hne).2; ⟨r, hr.appOther fun op ho => ?_⟩⟩⟩
      · revert hst
        cases tb <;> exact id
      · rw [hop op ho]
        exact ⟨rfl, fun m => by simp, lt_of_get hc⟩
      · rw [hop op ho]
        exact ⟨by show 0 ≠ C.k; have := O.hk; omega, by simp⟩
  | kd =>
    obtain ⟨_, g', hstp, m, hG⟩ := hS
    exact .inl ⟨g', w, _, hstp, _, .left _ _ (Nat.add_lt_add_right (show rkA .w1 < rkA .kd by decide) _), .inr (.inl ⟨sent, .w1, tb, m + 1, rb, rfl, hall, h.wgA O (fun e he => by simp at he; exact .inr (.inl he)) (.inl rfl) (by revert hst; cases tb <;> exact id) hwg rfl (sit_of hG) fun _ => by omega⟩)⟩
  | w1 =>
    obtain ⟨_, hK, h0⟩ := hS
    have : (st = KK ∧ sm = 0) ∨ (st = 0 ∧ sm = 0 ∧ tb = .qt) := by
      cases tb <;> simp [stOf] at hst <;> (obtain ⟨rfl, rfl⟩ := hst; simp [stOf])
    rcases this with ⟨rfl, rfl⟩ | ⟨rfl, rfl, rfl⟩
    · obtain ⟨g', hstp, m, hG⟩ := hK hwg
      exact .inl ⟨g', w, _, hstp, _, .left _ _ (Nat.add_lt_add_right (show rkA .w2 < rkA .w1 by decide) _), .inr (.inl ⟨sent, .w2, tb, m + 1, rb, rfl, hall, h.wgA O (ev_rd _) (.inl rfl) (by revert hst; cases tb <;> exact id) hwg rfl (sit_of hG) fun _ => by omega⟩)⟩
    · obtain ⟨g', hstp, m, hG⟩ := h0 hwg
      exact .inl ⟨g', w, _, hstp, _, .left _ _ (Nat.add_lt_add_right (show rkA .ke < rkA .w1 by decide) _), .inr (.inl ⟨sent, .ke, .qt, m + 1, rb, rfl, hall, h.wgA O (ev_rd _) (.inl rfl) rfl hwg rfl (sit_of hG) fun _ => by omega⟩)⟩
  | w2 =>
    obtain ⟨_, hK, h0⟩ := hS
    have : (st = KK ∧ sm = 0 ∧ stOf .wm tb = some (KK + 1, 0) ∧ tb ≠ .qt) ∨ (st = 0 ∧ sm = 0 ∧ tb = .qt) := by
      cases tb <;> simp [stOf] at hst <;> (obtain ⟨rfl, rfl⟩ := hst; simp [stOf])
    rcases this with ⟨rfl, rfl, hst', hq⟩ | ⟨rfl, rfl, rfl⟩
    · obtain ⟨g', hstp, m, hG⟩ := hK hwg
      exact .inl ⟨g', _, _, hstp, _, .left _ _ (Nat.add_lt_add_right (show rkA .wm < rkA .w2 by decide) _), .inr (.inl ⟨sent, .wm, tb, m + 1, rb, rfl, hall, h.wgA O (ev_rw _) (.inr ⟨_, _, rfl, rfl⟩) hst' (wg_set0 hwg _) rfl (sit_of hG) fun _ => by omega⟩)⟩
    · obtain ⟨g', hstp, m, hG⟩ := h0 hwg
      exact .inl ⟨g', w, _, hstp, _, .left _ _ (Nat.add_lt_add_right (show rkA .wz < rkA .w2 by decide) _), .inr (.inl ⟨sent, .wz, .qt, m + 1, rb, rfl, hall, h.wgA O (ev_rd _) (.inl rfl) rfl hwg rfl (sit_of hG) fun _ => by omega⟩)⟩
  | wz =>
    obtain ⟨_, h0⟩ := hS
    have : st = 0 ∧ sm = 0 ∧ tb = .qt := by
      cases tb <;> simp [stOf] at hst <;> (obtain ⟨rfl, rfl⟩ := hst; simp [stOf])
    obtain ⟨rfl, rfl, rfl⟩ := this
    obtain ⟨g', hstp, m, hG⟩ := h0 hwg
    exact .inl ⟨g', w, _, hstp, _, .left _ _ (Nat.add_lt_add_right (show rkA .ke < rkA .wz by decide) _), .inr (.inl ⟨sent, .ke, .qt, m + 1, rb, rfl, hall, h.wgA O (ev_rd _) (.inl rfl) rfl hwg rfl (sit_of hG) fun _ => by omega⟩)⟩
  | wm =>
    obtain ⟨_, g', hstp, m, hG⟩ := hS
    exact .inl ⟨g', w, _, hstp, _, .left _ _ (Nat.add_lt_add_right (show rkA .w3 < rkA .wm by decide) _), .inr (.inl ⟨sent, .w3, tb, m + 1, rb, rfl, hall, h.wgA O (fun e he => by simp at he; exact .inr (.inr (.inr (.inl he)))) (.inl rfl) (by revert hst; cases tb <;> exact id) hwg rfl (sit_of hG) fun _ => by omega⟩)⟩
  | w3 =>
    obtain ⟨_, hoff, hb, hf⟩ := hS
    have : (sm = 0 ∧ tb ≠ .qt) ∨ (st = 0 ∧ sm = 1 ∧ tb = .qt) := by
      cases tb <;> simp [stOf] at hst <;> (obtain ⟨rfl, rfl⟩ := hst; simp [stOf])
    rcases this with ⟨rfl, hq⟩ | ⟨rfl, rfl, rfl⟩
    · refine .inl ⟨_, w, _, hb ⟨st, hwg⟩, _, .right _ (by omega), .inr (.inl ⟨sent, .w3, tb, 0, rb, rfl, hall, h.wgA O (by simp) (.inl rfl) hst hwg rfl (.inr ⟨rfl, rfl, a, rfl, hstop⟩) fun e => absurd e hq⟩)⟩
    · obtain ⟨g', hstp, m, hG⟩ := hf hwg
      exact .inl ⟨g', _, _, hstp, _, .left _ _ (Nat.add_lt_add_right (show rkA .w4 < rkA .w3 by decide) _), .inr (.inl ⟨sent, .w4, .qt, m + 1, rb, rfl, hall, h.wgA O (ev_sem _) (.inr ⟨_, _, rfl, rfl⟩) rfl (wg_set1 hwg _) rfl (sit_of hG) fun _ => by omega⟩)⟩
  | w4 =>
    obtain ⟨_, h0⟩ := hS
    have : st = 0 ∧ sm = 0 ∧ tb = .qt := by
      cases tb <;> simp [stOf] at hst <;> (obtain ⟨rfl, rfl⟩ := hst; simp [stOf])
    obtain ⟨rfl, rfl, rfl⟩ := this
    obtain ⟨g', hstp, m, hG⟩ := h0 hwg
    exact .inl ⟨g', w, _, hstp, _, .left _ _ (Nat.add_lt_add_right (show rkA .ke < rkA .w4 by decide) _), .inr (.inl ⟨sent, .ke, .qt, m + 1, rb, rfl, hall, h.wgA O (ev_rd _) (.inl rfl) rfl hwg rfl (sit_of hG) fun _ => by omega⟩)⟩
  | ke =>
    obtain ⟨_, g', hstp, m, hG⟩ := hS
    exact .inl ⟨g', w, _, hstp, _, .left _ _ (Nat.add_lt_add_right (show rkA .ac < rkA .ke by decide) _), .inr (.inl ⟨sent, .ac, tb, m + 1, rb, rfl, hall, h.wgA O (fun e he => by simp at he; exact .inr (.inr (.inl he))) (.inl rfl) (by revert hst; cases tb <;> exact id) hwg rfl (sit_of hG) fun _ => by omega⟩)⟩
  | ac =>
    obtain ⟨_, g', hstp, hrun', hpost⟩ := hS
    have hq : tb = .qt := by cases tb <;> simp [stOf] at hst <;> rfl
    subst hq
    obtain ⟨hfb, r, hR⟩ := h.rel (by simp)
    obtain ⟨dB, hti, hsb⟩ := h.ti
    refine .inl ⟨g', w, _, hstp, (0, 0), .left _ _ (show 0 < rkA .ac + rkB .qt by decide), .inl ⟨rfl, hrun', hti.join O.hk hR _ _ (wg_lt hwg), ?_, ⟨sent, hall, hpost, hfb, h.msgs⟩⟩⟩
    rw [hsb.woken]
    rcases hsb with ⟨x, _⟩ | ⟨_, hqd⟩
    · exact absurd rfl x
    · refine ⟨rb, ?_⟩
      rw [Deaf_other t (g := C.k) (g' := 0) (by have := O.hk; omega) _ (fun op hop => g_ofEvents hop), hti.dB]
      exact hqd

end
end Go.Pair
