/- Small laws of a step: what the trace keeps, what the world keeps. -/
import Derived.Test.YtlghcldiboecoaaGreatDoorQ13
import Derived.Conc.CrowdCom2
set_option linter.unusedVariables false
set_option linter.unusedSimpArgs false
namespace Go.Pair
open Go Go.Conc

section
variable {L : World → Loc → Bool → Prop} {w w' : World} {e : Event}

theorem evp_touch (h : EvP L w' e) {b : Touch} (hb : (MemAct.ofEvent e).touch? = some b) : L w' b.loc b.write := by
  rcases h with ⟨m, hm, hn⟩ | ⟨a, wr, rfl, hl, _⟩
  · exfalso
    obtain ⟨loc, wr, sy⟩ := e
    simp only at hm
    subst hm
    have e1 : MemAct.ofEvent ⟨.mark m, wr, sy⟩ = .mark m := by cases wr <;> cases sy <;> rfl
    rw [e1, hn.touch] at hb
    cases hb
  · simp only [ofEvent_cell0, MemAct.touch?, Option.some.injEq] at hb
    subst hb
    exact hl

theorem evp_low (h : EvP L w' e) : (MemAct.ofEvent e).low w'.heap.size := by
  rcases h with ⟨m, hm, hn⟩ | ⟨a, wr, rfl, _, hl⟩
  · obtain ⟨loc, wr, sy⟩ := e
    simp only at hm
    subst hm
    have e1 : MemAct.ofEvent ⟨.mark m, wr, sy⟩ = .mark m := by cases wr <;> cases sy <;> rfl
    rw [e1]
    unfold Neutral at hn
    subst hn
    trivial
  · exact hl

theorem evp_still (h : EvP L w' e) : e.loc ≠ .mark .disable ∧ e.loc ≠ .mark .enable := by
  rcases h with ⟨m, hm, hn⟩ | ⟨a, wr, rfl, _, _⟩
  · rw [hm]
    exact ⟨fun x => hn.ne_disable (by injection x), fun x => hn.ne_enable (by injection x)⟩
  · simp

end

section
variable {C : Cfg} {t u : Trace} {w w' : World} {dA dB r : Nat} {sent : List (C.β × Value)} {es : Array Event}

abbrev Cfg.TI (C : Cfg) (t : Trace) (w : World) (dA dB : Nat) : Prop := Pair.TI C.Shun C.k C.Wg C.Ch C.LA C.LB t w dA dB

theorem ti_privA (O : C.Ok) (h : C.TI t w dA dB) (D : DA C w w' es) (fn : FuncId) (pos : String) : C.TI (t ++ MemOp.ofEvents 0 fn pos es) w' dA dB := by
  refine h.appA O.parts O.hk D.grow (fun op hop => g_ofEvents hop) (fun op hop b hb _ => ?_) ?_ (fun op hop => ?_)
  · obtain ⟨e, he, rfl⟩ := Conc.mem_ofEvents hop
    exact .inl (evp_touch (D.ev e he) hb)
  · rw [Deaf_own, deafBehind_still fun e he => evp_still (D.ev e he)]
    exact h.dA
  · obtain ⟨e, he, rfl⟩ := Conc.mem_ofEvents hop
    exact evp_low (D.ev e he)

theorem ti_privB (O : C.Ok) (h : C.TI t w dA dB) (D : DB C sent w w' es) (fn : FuncId) (pos : String) : C.TI (t ++ MemOp.ofEvents C.k fn pos es) w' dA dB := by
  refine h.appB O.parts O.hk D.grow (fun op hop => g_ofEvents hop) (fun op hop b hb _ => ?_) ?_ (fun op hop => ?_)
  · obtain ⟨e, he, rfl⟩ := Conc.mem_ofEvents hop
    exact .inl (evp_touch (D.ev e he) hb)
  · rw [Deaf_own, deafBehind_still fun e he => evp_still (D.ev e he)]
    exact h.dB
  · obtain ⟨e, he, rfl⟩ := Conc.mem_ofEvents hop
    exact evp_low (D.ev e he)

/-- What the caller's steps at the group list. -/
def EvGA (Wg : Nat) (e : Event) : Prop := (∃ a wr, e = ⟨.cell a, wr, true⟩ ∧ a.block = Wg) ∨ e = mkE .disable ∨ e = mkE .enable ∨ e = mkE (.write (smW Wg)) ∨ e = mkE (.read (smW Wg))

/-- The worker's. -/
def EvGB (Wg : Nat) (e : Event) : Prop := (∃ a wr, e = ⟨.cell a, wr, true⟩ ∧ a.block = Wg) ∨ e = mkE .disable ∨ e = mkE .enable ∨ e = mkE (.releaseMerge (stW Wg))

theorem ofEvent_atomic (a : Addr) (wr : Bool) : MemAct.ofEvent ⟨.cell a, wr, true⟩ = .access ⟨.cell a, wr, true⟩ := rfl
theorem ofEvent_mkE (m : Mark) : MemAct.ofEvent (mkE m) = .mark m := rfl

theorem ti_wgA (O : C.Ok) (h : C.TI t w dA dB) (hg : Grow w w') (hW : C.Wg < w'.heap.size) (hes : ∀ e ∈ es, EvGA C.Wg e) (fn : FuncId) (pos : String) : C.TI (t ++ MemOp.ofEvents 0 fn pos es) w' (deafBehind dA es) dB := by
  refine h.appA O.parts O.hk hg (fun op hop => g_ofEvents hop) (fun op hop b hb _ => ?_) ?_ (fun op hop => ?_)
  · obtain ⟨e, he, rfl⟩ := Conc.mem_ofEvents hop
    rcases hes e he with ⟨a, wr, rfl, ha⟩ | rfl | rfl | rfl | rfl
    · simp only [ofEvent_atomic, MemAct.touch?, Option.some.injEq] at hb
      subst hb
      exact .inr ⟨⟨a, rfl, ha⟩, by simp⟩
    · cases hb
    · cases hb
    · simp only [ofEvent_mkE, MemAct.touch?, Option.some.injEq] at hb
      subst hb
      exact .inr ⟨⟨_, rfl, rfl⟩, by simp⟩
    · simp only [ofEvent_mkE, MemAct.touch?, Option.some.injEq] at hb
      subst hb
      exact .inr ⟨⟨_, rfl, rfl⟩, by simp⟩
  · rw [Deaf_own, h.dA]
  · obtain ⟨e, he, rfl⟩ := Conc.mem_ofEvents hop
    rcases hes e he with ⟨a, wr, rfl, ha⟩ | rfl | rfl | rfl | rfl
    · show a.block < _
      rw [ha]; exact hW
    · trivial
    · trivial
    · exact hW
    · exact hW

theorem ti_wgB (O : C.Ok) (h : C.TI t w dA dB) (hg : Grow w w') (hW : C.Wg < w'.heap.size) (hes : ∀ e ∈ es, EvGB C.Wg e) (fn : FuncId) (pos : String) : C.TI (t ++ MemOp.ofEvents C.k fn pos es) w' dA (deafBehind dB es) := by
  refine h.appB O.parts O.hk hg (fun op hop => g_ofEvents hop) (fun op hop b hb _ => ?_) ?_ (fun op hop => ?_)
  · obtain ⟨e, he, rfl⟩ := Conc.mem_ofEvents hop
    rcases hes e he with ⟨a, wr, rfl, ha⟩ | rfl | rfl | rfl
    · simp only [ofEvent_atomic, MemAct.touch?, Option.some.injEq] at hb
      subst hb
      exact .inr ⟨.inl ⟨a, rfl, ha⟩, by simp⟩
    · cases hb
    · cases hb
    · cases hb
  · rw [Deaf_own, h.dB]
  · obtain ⟨e, he, rfl⟩ := Conc.mem_ofEvents hop
    rcases hes e he with ⟨a, wr, rfl, ha⟩ | rfl | rfl | rfl
    · show a.block < _
      rw [ha]; exact hW
    · trivial
    · trivial
    · exact hW

/-- The close. -/
theorem ti_close (O : C.Ok) (h : C.TI t w dA dB) (hg : Grow w w') (hC : C.Ch < w'.heap.size) (fn : FuncId) (pos : String) : C.TI (t ++ MemOp.ofEvents C.k fn pos #[⟨.obj C.Ch, false, true⟩, ⟨.obj C.Ch, true, true⟩]) w' dA dB := by
  refine h.appB O.parts O.hk hg (fun op hop => g_ofEvents hop) (fun op hop b hb _ => ?_) ?_ (fun op hop => ?_)
  · obtain ⟨e, he, rfl⟩ := Conc.mem_ofEvents hop
    simp at he
    rcases he with rfl | rfl
    · simp [MemAct.ofEvent, MemAct.touch?] at hb
      subst hb
      exact .inr ⟨.inr rfl, rfl⟩
    · simp [MemAct.ofEvent, MemAct.touch?] at hb
  · rw [Deaf_own, deafBehind_still fun e he => by simp at he; rcases he with rfl | rfl <;> simp]
    exact h.dB
  · obtain ⟨e, he, rfl⟩ := Conc.mem_ofEvents hop
    simp at he
    rcases he with rfl | rfl
    · exact hC
    · exact hC

/-- Operations at a channel. -/
theorem ti_comm (O : C.Ok) (h : C.TI t w dA dB) (hg : Grow w w') (hn : ∀ op ∈ u, op.act.touch? = none ∧ (∀ m, op.act ≠ .mark m) ∧ op.act.low w'.heap.size) : C.TI (t ++ u) w' dA dB :=
  h.appMute O.parts hg (fun op hop => (hn op hop).1) (Go.ConcN.Deaf_still t 0 u fun op hop => ⟨(hn op hop).2.1 _, (hn op hop).2.1 _⟩) (Go.ConcN.Deaf_still t C.k u fun op hop => ⟨(hn op hop).2.1 _, (hn op hop).2.1 _⟩) fun op hop => (hn op hop).2.2

/-- Another's leaving. -/
theorem ti_leaver (O : C.Ok) (h : C.TI t w dA dB) {i : Nat} (h0 : i ≠ 0) (hk : i ≠ C.k) (hm : ∀ e ∈ es, Event.mute e = true) (fn : FuncId) (pos : String) : C.TI (t ++ MemOp.ofEvents i fn pos es) w dA dB :=
  h.appMute O.parts (.refl w) (fun op hop => by obtain ⟨e, he, rfl⟩ := Conc.mem_ofEvents hop; exact touch_mute (hm e he)) (Deaf_other t (Ne.symm (Ne.symm h0)) _ fun op hop => g_ofEvents hop) (Deaf_other t hk _ fun op hop => g_ofEvents hop)
    fun op hop => by obtain ⟨e, he, rfl⟩ := Conc.mem_ofEvents hop; exact low_mute (hm e he) _

theorem TI.at (O : C.Ok) (h : C.TI t w dA dB) (d : Nat) : C.TI t (w.at d) dA dB := h.grow O.parts (.at w d)

/-! ### the world -/
theorem wg_set0 {ty : TypeId} {Wg : Nat} {st sm : Int} (h : WgIs ty Wg w st sm) (x : Int) : WgIs ty Wg (w.setCell (stW Wg) (.int .u64 x)) x sm := by
  unfold WgIs at h ⊢
  simp [World.setCell, stW, wgO, Array.getElem?_modify, h]

theorem wg_set1 {ty : TypeId} {Wg : Nat} {st sm : Int} (h : WgIs ty Wg w st sm) (x : Int) : WgIs ty Wg (w.setCell (smW Wg) (.int .u32 x)) st x := by
  unfold WgIs at h ⊢
  simp [World.setCell, smW, wgO, Array.getElem?_modify, h]

theorem set_other (a : Addr) (v : Value) {i : Nat} (h : i ≠ a.block) : (w.setCell a v).heap[i]? = w.heap[i]? := by
  simp [World.setCell, Array.getElem?_modify, Ne.symm h]

theorem set_size (a : Addr) (v : Value) : (w.setCell a v).heap.size = w.heap.size := by simp [World.setCell]
theorem keeps_set {K : Nat → Obj → Prop} (a : Addr) (v : Value) (h : ∀ i o, K i o → i ≠ a.block) : Keeps K w (w.setCell a v) :=
  ⟨rfl, rfl, rfl, by rw [set_size]; exact Nat.le_refl _, fun i o e k => by rw [set_other a v (h i o k)]; exact e⟩

theorem grow_set (a : Addr) (v : Value) : Grow w (w.setCell a v) := by
  refine ⟨by rw [set_size]; exact Nat.le_refl _, fun i o h => ?_⟩
  by_cases hi : i = a.block
  · subst hi
    simp [World.setCell, Array.getElem?_modify, h]
    cases o <;> rfl
  · exact ⟨o, by rw [set_other a v hi]; exact h, rfl⟩

theorem wg_lt {ty : TypeId} {Wg : Nat} {st sm : Int} (h : WgIs ty Wg w st sm) : Wg < w.heap.size := by
  unfold WgIs at h
  rcases Nat.lt_or_ge Wg w.heap.size with h' | h'
  · exact h'
  · rw [Array.getElem?_eq_none h'] at h; cases h

theorem lt_of_get {i : Nat} {o : Obj} (h : w.heap[i]? = some o) : i < w.heap.size := by
  rcases Nat.lt_or_ge i w.heap.size with h' | h'
  · exact h'
  · rw [Array.getElem?_eq_none h'] at h; cases h

theorem put_other {o : Obj} {c i : Nat} (h : i ≠ c) : ({ w with heap := w.heap.setIfInBounds c o } : World).heap[i]? = w.heap[i]? := by
  simp [Array.getElem?_setIfInBounds_ne (Ne.symm h)]

theorem put_self {o : Obj} {c : Nat} (h : c < w.heap.size) : ({ w with heap := w.heap.setIfInBounds c o } : World).heap[c]? = some o := by
  simp [h]

theorem keeps_put {K : Nat → Obj → Prop} {o : Obj} {c : Nat} (h : ∀ i o, K i o → i ≠ c) : Keeps K w { w with heap := w.heap.setIfInBounds c o } :=
  ⟨rfl, rfl, rfl, by simp, fun i o e k => by rw [put_other (h i o k)]; exact e⟩

theorem grow_put {o o' : Obj} {c : Nat} (h : w.heap[c]? = some o') (hk : kindOf o = kindOf o') : Grow w { w with heap := w.heap.setIfInBounds c o } := by
  refine ⟨by simp, fun i x e => ?_⟩
  by_cases hi : i = c
  · subst hi
    rw [h] at e
    obtain rfl := Option.some.inj e
    exact ⟨o, put_self (lt_of_get h), hk⟩
  · exact ⟨x, by rw [put_other hi]; exact e, rfl⟩

end
end Go.Pair

/- Where the two stand: the channel is open; it is closed; the caller has acquired. -/
set_option linter.unusedVariables false
set_option linter.unusedSimpArgs false
namespace Go.Pair
open Go Go.Conc

inductive AT | rc | kd | w1 | w2 | wz | wm | w3 | w4 | ke | ac
inductive BT | r0 | k1 | d1 | d2 | d3 | d4 | qt

def rkA : AT → Nat
  | .rc => 12 | .kd => 11 | .w1 => 10 | .w2 => 9 | .wz => 8 | .wm => 8 | .w3 => 7 | .w4 => 6 | .ke => 5 | .ac => 4

def rkB : BT → Nat
  | .r0 => 7 | .k1 => 6 | .d1 => 5 | .d2 => 4 | .d3 => 3 | .d4 => 2 | .qt => 1

def dfA : AT → Nat
  | .rc | .kd | .ac => 0 | _ => 1

def dfB : BT → Nat
  | .r0 | .k1 => 0 | _ => 1

def stOf : AT → BT → Option (Int × Int)
  | .rc, .qt | .kd, .qt | .w1, .qt | .w2, .qt | .wz, .qt | .w4, .qt | .ke, .qt | .ac, .qt => some (0, 0)
  | .wm, .qt | .w3, .qt => some (0, 1)
  | .wm, .d4 | .w3, .d4 => some (0, 0)
  | .wm, .d3 | .w3, .d3 | .wm, .d2 | .w3, .d2 => some (1, 0)
  | .wm, .r0 | .w3, .r0 | .wm, .k1 | .w3, .k1 | .wm, .d1 | .w3, .d1 => some (KK + 1, 0)
  | .rc, .r0 | .rc, .k1 | .rc, .d1 | .kd, .r0 | .kd, .k1 | .kd, .d1 | .w1, .r0 | .w1, .k1 | .w1, .d1 | .w2, .r0 | .w2, .k1 | .w2, .d1 => some (KK, 0)
  | _, _ => none

section
variable (C : Cfg) (sent : List (C.β × Value))
def StA : AT → Goroutine → World → Prop
  | .rc => ARc C sent | .kd => AKd C sent | .w1 => AW1 C sent | .w2 => AW2 C sent | .wz => AWz C sent | .wm => AWm C sent | .w3 => AW3 C sent | .w4 => AW4 C sent | .ke => AKe C sent | .ac => AAcq C sent

def StB : BT → Goroutine → World → Prop
  | .r0 => BR0 C sent | .k1 => BK1 C | .d1 => BD1 C | .d2 => BD2 C | .d3 => BD3 C | .d4 => BD4 C | .qt => fun _ _ => False

def SitA2 (ta : AT) (ra : Nat) (a : Goroutine) (w : World) : Prop :=
  (∃ n, ra = n + 1 ∧ Goes C.P true (RA C sent) (DA C) (StA C sent ta) n a w) ∨
  (ta = .w3 ∧ ra = 0 ∧ ∃ g, a = { g with status := .blocked } ∧ ∀ w₁, RA C sent w w₁ → AW3 C sent g w₁)

/-- Behind its release the worker's private steps do nothing and list nothing. -/
def DBt : BT → World → World → Array Event → Prop
  | .r0 => DB C sent
  | _ => D0

def SitB2 (tb : BT) (rb dB : Nat) (b : Goroutine) (w : World) : Prop :=
  (tb ≠ .qt ∧ dB = dfB tb ∧ ∃ n, rb = n + 1 ∧ Goes C.P false (RB C) (DBt C sent tb) (StB C sent tb) n b w) ∨ (tb = .qt ∧ QuitsD C.P rb dB b)

def SitA1 (bs : List C.β) (ra : Nat) (a : Goroutine) (w : World) : Prop :=
  (∃ n, ra = n + 1 ∧ Goes C.P true (RA C sent) (DA C) (AStop C bs sent) n a w) ∨
  (ra = 0 ∧ ∃ g z, a = parked (core g) #[rcase C.Ch z] (.recv true) ∧ ∀ w₁, RA C sent w w₁ → AStop C bs sent g w₁)

def SitB1 (bs : List C.β) (rb : Nat) (b : Goroutine) (w : World) : Prop :=
  (∃ n, rb = n + 1 ∧ Goes C.P false (RB C) (DB C sent) (BStop C bs sent) n b w) ∨
  (rb = 0 ∧ ∃ b' bs' g v z, bs = b' :: bs' ∧ b = parked (core g) #[scase C.Ch v z] .send ∧ C.Msg b' v w ∧ ∀ w₁, RB C w w₁ → BSends C bs' (sent ++ [(b', v)]) (Conc.served (core g) undef) w₁)

structure J2 (ta : AT) (tb : BT) (ra rb : Nat) (a b : Goroutine) (w : World) (t : Trace) : Prop where
  ch : ∃ s r tm, w.heap[C.Ch]? = some (.chan 0 #[] true s r tm)
  wg : ∃ st sm, stOf ta tb = some (st, sm) ∧ WgIs C.ty C.Wg w st sm
  ti : ∃ dB, C.TI t w (dfA ta) dB ∧ SitB2 C sent tb rb dB b w
  sa : SitA2 C sent ta ra a w
  nb : tb = .qt → ra ≠ 0
  msgs : ∀ x ∈ sent, C.Msg x.1 x.2 w
  rel : tb ≠ .r0 → C.FB sent w ∧ ∃ r, RI C.k C.Wg t r

structure J1 (bs : List C.β) (ra rb : Nat) (a b : Goroutine) (w : World) (t : Trace) : Prop where
  ch : ∃ s r tm, w.heap[C.Ch]? = some (.chan 0 #[] false s r tm)
  wg : WgIs C.ty C.Wg w KK 0
  ti : C.TI t w 0 0
  sa : SitA1 C sent bs ra a w
  sb : SitB1 C sent bs rb b w
  nb : ¬ (ra = 0 ∧ rb = 0)
  msgs : ∀ x ∈ sent, C.Msg x.1 x.2 w

end

section
variable {C : Cfg} {sent : List (C.β × Value)} {w w' : World} {t : Trace} {a b : Goroutine} {ta : AT} {tb : BT} {ra rb dB : Nat} {bs : List C.β}

theorem DBt.db {es : Array Event} (h : DBt C sent tb w w' es) : DB C sent w w' es := by cases tb <;> first | exact h | exact D0.db C sent h
theorem DBt.nil {es : Array Event} (h : DBt C sent tb w w' es) (hn : tb ≠ .r0) : es = #[] ∧ w' = w := by cases tb <;> first | exact absurd rfl hn | exact ⟨h.2, h.1⟩ | exact ⟨h.2, h.1.symm⟩

theorem StA.running {g : Goroutine} {w : World} (h : StA C sent ta g w) : g.status = .running := by cases ta <;> exact h.1
theorem StB.running {g : Goroutine} {w : World} (h : StB C sent tb g w) : g.status = .running := by cases tb <;> first | exact h.1 | exact h.elim
theorem AStop.running {g : Goroutine} {w : World} (h : AStop C bs sent g w) : g.status = .running := by cases bs <;> exact h.1
theorem raT : ∀ a b c, RA C sent a b → RA C sent b c → RA C sent a c := fun _ _ _ h k => h.trans k
theorem rbT : ∀ a b c, RB C a b → RB C b c → RB C a c := fun _ _ _ h k => h.trans k

theorem ra_of (O : C.Ok) (h : Keeps C.KA w w') (h' : Keeps C.KB w w') (hw : WgAny C.ty C.Wg w → WgAny C.ty C.Wg w') : RA C sent w w' := ⟨h, hw, fun x _ m => O.msgB _ _ _ _ h' m⟩
theorem any_of_same (h : w'.heap[C.Wg]? = w.heap[C.Wg]?) : WgAny C.ty C.Wg w → WgAny C.ty C.Wg w' := fun ⟨st, sm, x⟩ => ⟨st, sm, by unfold WgIs at *; rw [h]; exact x⟩
theorem DA.toB {es : Array Event} (D : DA C w w' es) : RB C w w' := ⟨D.keep, any_of_same D.wg⟩
theorem DB.toA {es : Array Event} (D : DB C sent w w' es) : RA C sent w w' := ⟨D.keep, any_of_same D.wg, D.msg⟩
theorem ra_at (O : C.Ok) (d : Nat) : RA C sent w (w.at d) := ra_of O (.at _ _ _) (.at _ _ _) id
theorem rb_at (d : Nat) : RB C w (w.at d) := ⟨.at _ _ _, id⟩

theorem SitA2.rely (h : SitA2 C sent ta ra a w) (hr : RA C sent w w') : SitA2 C sent ta ra a w' := by
  rcases h with ⟨n, e, hg⟩ | ⟨e1, e2, g, ea, hs⟩
  · exact .inl ⟨n, e, Goes.rely raT hg hr⟩
  · exact .inr ⟨e1, e2, g, ea, fun w₂ h₂ => hs w₂ (hr.trans h₂)⟩

theorem SitB2.rely (h : SitB2 C sent tb rb dB b w) (hr : RB C w w') : SitB2 C sent tb rb dB b w' := by
  rcases h with ⟨e0, e1, n, e, hg⟩ | h
  · exact .inl ⟨e0, e1, n, e, Goes.rely rbT hg hr⟩
  · exact .inr h

theorem SitA1.rely (h : SitA1 C sent bs ra a w) (hr : RA C sent w w') : SitA1 C sent bs ra a w' := by
  rcases h with ⟨n, e, hg⟩ | ⟨e1, g, z, ea, hs⟩
  · exact .inl ⟨n, e, Goes.rely raT hg hr⟩
  · exact .inr ⟨e1, g, z, ea, fun w₂ h₂ => hs w₂ (hr.trans h₂)⟩

theorem SitB1.rely (O : C.Ok) (h : SitB1 C sent bs rb b w) (hr : RB C w w') : SitB1 C sent bs rb b w' := by
  rcases h with ⟨n, e, hg⟩ | ⟨e1, b', bs', g, v, z, e2, e3, hm, hs⟩
  · exact .inl ⟨n, e, Goes.rely rbT hg hr⟩
  · exact .inr ⟨e1, b', bs', g, v, z, e2, e3, O.msgB _ _ _ _ hr.keep hm, fun w₂ h₂ => hs w₂ (hr.trans h₂)⟩

theorem SitA2.status (h : SitA2 C sent ta ra a w) : (a.status = .running ∧ ra ≠ 0) ∨ (a.status = .blocked ∧ ra = 0 ∧ ta = .w3) := by
  rcases h with ⟨n, e, hg⟩ | ⟨e1, e2, g, rfl, _⟩
  · exact .inl ⟨hg.running (fun _ _ => StA.running) w (RA.refl _ _ _), by omega⟩
  · exact .inr ⟨rfl, e2, e1⟩

theorem SitB2.status (h : SitB2 C sent tb rb dB b w) : b.status = .running ∨ (b.status = .finished ∧ tb = .qt) := by
  rcases h with ⟨_, _, n, e, hg⟩ | ⟨e, h⟩
  · exact .inl (hg.running (fun _ _ => StB.running) w (RB.refl _ _))
  · exact h.status.imp id fun x => ⟨x, e⟩

theorem SitA1.status (h : SitA1 C sent bs ra a w) : (a.status = .running ∧ ra ≠ 0) ∨ (a.status = .blocked ∧ ra = 0) := by
  rcases h with ⟨n, e, hg⟩ | ⟨e1, g, z, rfl, _⟩
  · exact .inl ⟨hg.running (fun _ _ => AStop.running) w (RA.refl _ _ _), by omega⟩
  · exact .inr ⟨rfl, e1⟩

theorem SitB1.status (h : SitB1 C sent bs rb b w) : (b.status = .running ∧ rb ≠ 0) ∨ (b.status = .blocked ∧ rb = 0) := by
  rcases h with ⟨n, e, hg⟩ | ⟨e1, b', bs', g, v, z, _, rfl, _⟩
  · exact .inl ⟨hg.running (fun _ _ => BStop.running C) w (RB.refl _ _), by omega⟩
  · exact .inr ⟨rfl, e1⟩

theorem woken_same {P : Program} {g g' o : Goroutine} {w : World} (h : o.status = .running ∨ o.status = .finished) : woken P g g' w o = o := by
  unfold woken
  split
  · exact again_running _ h
  · rfl

theorem SitB2.woken {P : Program} (h : SitB2 C sent tb rb dB b w) (g g' : Goroutine) (w' : World) : woken P g g' w' b = b := woken_same (h.status.imp id (·.1))
theorem SitA1.woken {P : Program} (h : SitA1 C sent bs ra a w) {s r : Nat} {tm : Bool} (hc : w'.heap[C.Ch]? = some (.chan 0 #[] false s r tm)) (g g' : Goroutine) : woken P g g' w' a = a := by
  rcases h with ⟨n, e, hg⟩ | ⟨e1, g, z, rfl, _⟩
  · exact woken_same (.inl (hg.running (fun _ _ => AStop.running) w (RA.refl _ _ _)))
  · exact woken_recv_open _ _ hc

theorem SitB1.woken {P : Program} (h : SitB1 C sent bs rb b w) {s r : Nat} {tm : Bool} (hc : w'.heap[C.Ch]? = some (.chan 0 #[] false s r tm)) (g g' : Goroutine) : woken P g g' w' b = b := by
  rcases h with ⟨n, e, hg⟩ | ⟨e1, b', bs', g, v, z, _, rfl, _⟩
  · exact woken_same (.inl (hg.running (fun _ _ => BStop.running C) w (RB.refl _ _)))
  · exact woken_send_open _ _ hc

/-- One that waits at the group may be let try again. -/
theorem SitA2.woken {P : Program} (h : SitA2 C sent ta ra a w) (g g' : Goroutine) (w' : World) : ∃ ra', ra' ≤ ra + 1 ∧ (ra ≠ 0 → ra' ≠ 0) ∧ SitA2 C sent ta ra' (woken P g g' w' a) w := by
  rcases h with ⟨n, e, hg⟩ | ⟨e1, e2, x, rfl, hs⟩
  · refine ⟨ra, by omega, id, ?_⟩
    rw [woken_same (.inl (hg.running (fun _ _ => StA.running) w (RA.refl _ _ _)))]
    exact .inl ⟨n, e, hg⟩
  · have h0 := hs w (RA.refl _ _ _)
    by_cases hw : (mayWake P g && g'.status != .blocked && g'.status != .waiting) = true
    · refine ⟨1, by omega, fun _ => by omega, .inl ⟨0, rfl, ?_⟩⟩
      have e3 : Conc.woken P g g' w' { x with status := .blocked } = x := by
        unfold Conc.woken
        rw [if_pos hw]
        obtain ⟨f, c, s, d, o⟩ := x
        have h1 : s = .running := h0.1
        have h2 : o = none := h0.2.1
        subst h1 h2
        rfl
      rw [e3]
      subst e1
      exact fun w₁ h₁ => hs w₁ h₁
    · refine ⟨ra, by omega, id, ?_⟩
      have e3 : Conc.woken P g g' w' { x with status := .blocked } = { x with status := .blocked } := by
        unfold Conc.woken
        rw [if_neg hw]
      rw [e3]
      exact .inr ⟨e1, e2, x, rfl, hs⟩

/-- .. and is, where the other has released it. -/
theorem SitA2.wakes {P : Program} (h : SitA2 C sent ta ra a w) {g g' : Goroutine} (w' : World) (hw : (mayWake P g && g'.status != .blocked && g'.status != .waiting) = true) : ∃ ra', ra' ≠ 0 ∧ SitA2 C sent ta ra' (Conc.woken P g g' w' a) w := by
  rcases h with ⟨n, e, hg⟩ | ⟨e1, e2, x, rfl, hs⟩
  · refine ⟨ra, by omega, ?_⟩
    rw [woken_same (.inl (hg.running (fun _ _ => StA.running) w (RA.refl _ _ _)))]
    exact .inl ⟨n, e, hg⟩
  · have h0 := hs w (RA.refl _ _ _)
    refine ⟨1, by omega, .inl ⟨0, rfl, ?_⟩⟩
    have e3 : Conc.woken P g g' w' { x with status := .blocked } = x := by
      unfold Conc.woken
      rw [if_pos hw]
      obtain ⟨f, c, s, d, o⟩ := x
      have h1 : s = .running := h0.1
      have h2 : o = none := h0.2.1
      subst h1 h2
      rfl
    rw [e3]
    subst e1
    exact fun w₁ h₁ => hs w₁ h₁

end
end Go.Pair
