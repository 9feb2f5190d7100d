/- The worker says 'release'; the caller says 'acquire': from then on goroutine 0 knows all that the worker did, but for its deaf steps at the group. -/
import Derived.Test.YtlghcldiboecoaaGreatDoorQ15
import Derived.Conc.FxGenW
import Derived.Conc.CrowdCom2
set_option linter.unusedVariables false
set_option linter.unusedSimpArgs false
namespace Go.Pair
open Go Go.Conc

def stW (Wg : Nat) : Addr := ⟨Wg, 0, none⟩
def smW (Wg : Nat) : Addr := ⟨Wg, 1, none⟩
def mkE (m : Mark) : Event := ⟨.mark m, false, true⟩
def rdE (a : Addr) : Event := ⟨.cell a, false, true⟩
def wrE (a : Addr) : Event := ⟨.cell a, true, true⟩

structure RI (k Wg : Nat) (t : Trace) (r : Nat) : Prop where
  act : t.act? r = some (.mark (.releaseMerge (stW Wg)))
  g : t.g? r = some k
  heard : t.heard r
  late : ∀ i a, r < i → t.g? i = some k → touchAt t i = some a → IsWg Wg a.loc ∧ a.kind = .atomic ∧ 0 < t.deaf k i
  norel : ∀ i, r < i → t.act? i ≠ some (.mark (.release (stW Wg)))

section
variable {Shun : Loc → Prop} {k Wg Ch : Nat} {LA LB : World → Loc → Bool → Prop} {t u : Trace} {w w' : World} {dA dB r : Nat}

theorem RI.app (h : RI k Wg t r) (hn : ∀ op ∈ u, op.act ≠ .mark (.release (stW Wg))) (hu : ∀ i a, t.size ≤ i → (t ++ u).g? i = some k → touchAt (t ++ u) i = some a → IsWg Wg a.loc ∧ a.kind = .atomic ∧ 0 < (t ++ u).deaf k i) : RI k Wg (t ++ u) r := by
  have hr := lt_of_act? h.act
  refine ⟨by rw [act?_old hr]; exact h.act, g?_at h.g, (heard_old hr).2 h.heard, fun i a hi hg ha => ?_, fun i hi e => ?_⟩
  · rcases Nat.lt_or_ge i t.size with hlt | hge
    · have := h.late i a hi (by rwa [g?_old hlt] at hg) (by rwa [touchAt_old hlt] at ha)
      rw [deaf_old (Nat.le_of_lt hlt)]
      exact this
    · exact hu i a hge hg ha
  · obtain ⟨op, ho, hoa⟩ := Option.map_eq_some_iff.1 e
    rcases getElem?_append_cases ho with ⟨hlt, ho'⟩ | ⟨_, hou⟩
    · exact h.norel i hi (by rw [act?_of ho', hoa])
    · exact hn op hou hoa

theorem RI.appOther (h : RI k Wg t r) (hu : ∀ op ∈ u, op.g ≠ k ∧ op.act ≠ .mark (.release (stW Wg))) : RI k Wg (t ++ u) r :=
  h.app (fun op hop => (hu op hop).2) fun i a hi hg _ => by
    obtain ⟨op, ho, hog⟩ := Option.map_eq_some_iff.1 hg
    rcases getElem?_append_cases ho with ⟨hlt, _⟩ | ⟨_, hou⟩
    · omega
    · exact absurd hog (hu op hou).1

theorem RI.appOwn (h : RI k Wg t r) (fn : FuncId) (pos : String) (es : Array Event) (hn : ∀ e ∈ es, e.loc ≠ .mark (.release (stW Wg)))
    (hes : ∀ j e, es[j]? = some e → (MemAct.ofEvent e).touch? = none ∨ ((∃ ad wr, e = ⟨.cell ad, wr, true⟩ ∧ ad.block = Wg) ∧ 0 < deafBehind (Deaf t k) (es.extract 0 j))) : RI k Wg (t ++ MemOp.ofEvents k fn pos es) r := by
  refine h.app (fun op hop e => ?_) fun i a hi hg ha => ?_
  · obtain ⟨x, hx, rfl⟩ := Conc.mem_ofEvents hop
    refine hn x hx ?_
    obtain ⟨loc, wr, sy⟩ := x
    cases loc with
    | mark m => cases wr <;> cases sy <;> simp [MemAct.ofEvent] at e <;> rw [e]
    | obj c => cases wr <;> cases sy <;> simp [MemAct.ofEvent] at e
    | _ => simp [MemAct.ofEvent] at e
  · obtain ⟨op, ho, hxt⟩ := touch_of ha
    have hj : (MemOp.ofEvents k fn pos es)[i - t.size]? = some op := by
      rw [Array.getElem?_append] at ho
      simpa [Nat.not_lt.2 hi] using ho
    rw [ofEvents_eq, Array.getElem?_map] at hj
    obtain ⟨e, he, rfl⟩ := Option.map_eq_some_iff.1 hj
    have hjs : i - t.size ≤ es.size := by
      rcases Nat.lt_or_ge (i - t.size) es.size with h' | h'
      · omega
      · rw [Array.getElem?_eq_none h'] at he; cases he
    rcases hes _ e he with h0 | ⟨⟨ad, wr, rfl, had⟩, hd⟩
    · simp only at hxt; rw [h0] at hxt; cases hxt
    · have := deaf_inside t k fn pos es (i - t.size) hjs
      rw [show t.size + (i - t.size) = i by omega] at this
      rw [this]
      cases wr <;> simp [MemAct.ofEvent, MemAct.touch?] at hxt <;> subst hxt <;> exact ⟨⟨ad, rfl, had⟩, rfl, hd⟩

theorem ofEvents_one (g : Nat) (fn : FuncId) (pos : String) (m : Mark) : MemOp.ofEvents g fn pos #[mkE m] = #[{ g, fn, pos, act := .mark m }] := by
  rw [ofEvents_eq]
  simp [mkE, MemAct.ofEvent]

theorem RI.new (hd : Deaf t k = 0) (fn : FuncId) (pos : String) : RI k Wg (t ++ MemOp.ofEvents k fn pos #[mkE (.releaseMerge (stW Wg))]) t.size := by
  rw [ofEvents_one]
  have hy : (t ++ #[({ g := k, fn, pos, act := .mark (.releaseMerge (stW Wg)) } : MemOp)])[t.size]? = some { g := k, fn, pos, act := .mark (.releaseMerge (stW Wg)) } := by simp
  have none : ∀ i, t.size < i → (t ++ #[({ g := k, fn, pos, act := .mark (.releaseMerge (stW Wg)) } : MemOp)])[i]? = none := fun i hi => by
    rw [Array.getElem?_eq_none]
    simp; omega
  refine ⟨by rw [act?_of hy], by simp [Trace.g?], ⟨k, by simp [Trace.g?], by rw [deaf_old (Nat.le_refl _)]; exact hd⟩, fun i a hi hg _ => ?_, fun i hi e => ?_⟩
  · unfold Trace.g? at hg
    rw [none i hi] at hg
    cases hg
  · unfold Trace.act? at e
    rw [none i hi] at e
    cases e

theorem TI.join (hk : 0 < k) (h : TI Shun k Wg Ch LA LB t w 0 dB) (R : RI k Wg t r) (fn : FuncId) (pos : String) (hW : Wg < w.heap.size) :
    Past (fun l => Shun l ∨ IsWg Wg l) w.heap.size (t ++ MemOp.ofEvents 0 fn pos #[mkE (.acquire (stW Wg))]) := by
  rw [ofEvents_one]
  have hy : (t ++ #[({ g := 0, fn, pos, act := .mark (.acquire (stW Wg)) } : MemOp)])[t.size]? = some { g := 0, fn, pos, act := .mark (.acquire (stW Wg)) } := by simp
  have hr := lt_of_act? R.act
  obtain ⟨opr, hor, hra⟩ := Option.map_eq_some_iff.1 R.act
  have hrg : opr.g = k := by
    have := R.g
    simpa [Trace.g?, hor] using this
  have hrq : HappensBefore (t ++ #[({ g := 0, fn, pos, act := .mark (.acquire (stW Wg)) } : MemOp)]) r t.size :=
    .single (.inr ⟨.marked (a := stW Wg) hr (.inr (by rw [act?_old hr]; exact R.act)) (by rw [act?_of hy]) (fun j h1 h2 => by rw [act?_old h2]; exact R.norel j h1),
      (heard_old hr).2 R.heard, ⟨0, by simp [Trace.g?], by rw [deaf_old (Nat.le_refl _)]; exact h.dA⟩⟩)
  have early : ∀ i op, t[i]? = some op → op.g = k → i < r → HappensBefore (t ++ #[({ g := 0, fn, pos, act := .mark (.acquire (stW Wg)) } : MemOp)]) i t.size := fun i op hi hg hlt =>
    (hb_app _ (hb_po hlt hi hor (hg.trans hrg.symm))).trans hrq
  have old : ∀ i a, touchAt (t ++ #[({ g := 0, fn, pos, act := .mark (.acquire (stW Wg)) } : MemOp)]) i = some a → i < t.size ∧ touchAt t i = some a := fun i a ha => by
    obtain ⟨x, hx, hxa⟩ := touch_of ha
    rcases getElem?_append_cases hx with ⟨hlt, hx'⟩ | ⟨_, hxu⟩
    · exact ⟨hlt, by rw [touchAt_of hx']; exact hxa⟩
    · have : x = { g := 0, fn, pos, act := .mark (.acquire (stW Wg)) } := by simpa using hxu
      rw [this] at hxa; cases hxa
  refine ⟨fun said => ?_, fun i a ha hm => ?_, fun i g hg hne hc => ?_, ?_, ?_⟩
  · rintro ⟨i, j, hij, ⟨a, b, ha, hb, hc⟩, n1, n2⟩
    exact h.clean said ⟨i, j, hij, ⟨a, b, (old i a ha).2, (old j b hb).2, hc⟩, fun e => n1 (hb_app _ e), fun e => n2 (hb_app _ e)⟩
  · obtain ⟨hlt, ha'⟩ := old i a ha
    rcases h.knA i a ha' hm with h1 | ⟨h1, h2⟩ | ⟨h1, h2⟩
    · exact .inl (h1.app _)
    · exact .inr ⟨.inl h1, h2⟩
    · obtain ⟨op, ho, hog⟩ := Option.map_eq_some_iff.1 h1
      rcases Nat.lt_trichotomy i r with hlt' | rfl | hgt
      · exact .inl ⟨t.size, _, hy, rfl, .inr (early i op ho hog hlt')⟩
      · rw [hor] at ho
        obtain rfl := Option.some.inj ho
        rw [touchAt_of hor, hra] at ha'
        cases ha'
      · obtain ⟨x1, x2, _⟩ := R.late i a hgt h1 ha'
        exact .inr ⟨.inr x1, x2⟩
  · obtain ⟨x, hx, hx1, hx2⟩ := hc
    obtain ⟨hlt, hx'⟩ := old i x hx
    have hg' : t.g? i = some g := by rwa [g?_old hlt] at hg
    by_cases hgk : g = k
    · subst hgk
      obtain ⟨op, ho, hog⟩ := Option.map_eq_some_iff.1 hg'
      rcases Nat.lt_trichotomy i r with hlt' | rfl | hgt
      · exact ⟨t.size, by simp [Trace.g?], early i op ho hog hlt'⟩
      · rw [hor] at ho
        obtain rfl := Option.some.inj ho
        rw [touchAt_of hor, hra] at hx'
        cases hx'
      · obtain ⟨_, y2, y3⟩ := R.late i x hgt hg' hx'
        exfalso
        rcases hx2 with hx2 | hx2
        · exact hx2 y2
        · obtain ⟨g1, e1, e2⟩ := (heard_old hlt).1 hx2
          rw [hg'] at e1
          obtain rfl := Option.some.inj e1
          omega
    · obtain ⟨j, hj, hb⟩ := h.over i g hg' hne hgk ⟨x, hx', hx1, hx2.imp id (heard_old hlt).1⟩
      exact ⟨j, g?_at hj, hb_app _ hb⟩
  · rw [Deaf_push]
    exact h.dA
  · refine seen_app h.seen fun op hop => ?_
    have : op = { g := 0, fn, pos, act := .mark (.acquire (stW Wg)) } := by simpa using hop
    rw [this]
    exact hW

end
end Go.Pair

/- A worker that sends over a channel without a buffer, closes it, and is done with a WaitGroup; a caller that receives till the channel is closed, and waits: what each one's own walk shows. -/
namespace Go.Pair
open Go Go.Conc

structure Keeps (K : Nat → Obj → Prop) (w w' : World) : Prop where
  tape : w'.tape = w.tape
  os : w'.os = w.os
  output : w'.output = w.output
  size : w.heap.size ≤ w'.heap.size
  keep : ∀ (i : Nat) (o : Obj), w.heap[i]? = some o → K i o → w'.heap[i]? = some o

theorem Keeps.refl (K : Nat → Obj → Prop) (w : World) : Keeps K w w := ⟨rfl, rfl, rfl, Nat.le_refl _, fun _ _ h _ => h⟩
theorem Keeps.trans {K : Nat → Obj → Prop} {a b c : World} (h : Keeps K a b) (h' : Keeps K b c) : Keeps K a c :=
  ⟨h'.tape.trans h.tape, h'.os.trans h.os, h'.output.trans h.output, Nat.le_trans h.size h'.size, fun i o e k => h'.keep i o (h.keep i o e k) k⟩

theorem Keeps.at (K : Nat → Obj → Prop) (w : World) (d : Nat) : Keeps K w (w.at d) := ⟨rfl, rfl, rfl, Nat.le_refl _, fun _ _ h _ => h⟩

def KK : Int := 4294967296
def wgO (ty : TypeId) (st sm : Int) : Obj := .cells #[.int .u64 st, .int .u32 sm] ty
def WgIs (ty : TypeId) (Wg : Nat) (w : World) (st sm : Int) : Prop := w.heap[Wg]? = some (wgO ty st sm)
def WgAny (ty : TypeId) (Wg : Nat) (w : World) : Prop := ∃ st sm, WgIs ty Wg w st sm

structure Cfg where
  P : Program
  Shun : Loc → Prop
  k : Nat
  Wg : Nat
  Ch : Nat
  ty : TypeId
  LA : World → Loc → Bool → Prop
  LB : World → Loc → Bool → Prop
  KA : Nat → Obj → Prop
  KB : Nat → Obj → Prop
  β : Type
  Msg : β → Value → World → Prop
  FB : List (β × Value) → World → Prop
  PostA : List (β × Value) → Goroutine → World → Prop

structure Cfg.Ok (C : Cfg) : Prop where
  hk : 0 < C.k
  parts : Parts C.Shun C.Wg C.Ch C.LA C.LB
  neq : C.Wg ≠ C.Ch
  ka : ∀ i o, C.KA i o → i ≠ C.Wg ∧ i ≠ C.Ch
  kb : ∀ i o, C.KB i o → i ≠ C.Wg ∧ i ≠ C.Ch
  msgB : ∀ b v w w', Keeps C.KB w w' → C.Msg b v w → C.Msg b v w'
  fbB : ∀ sent w w', Keeps C.KB w w' → C.FB sent w → C.FB sent w'
  postAt : ∀ sent g w d, C.PostA sent g (w.at d) ↔ C.PostA sent g w

def EvP (L : World → Loc → Bool → Prop) (w' : World) (e : Event) : Prop :=
  (∃ m, e.loc = .mark m ∧ Neutral m) ∨ (∃ a wr, e = ⟨.cell a, wr, false⟩ ∧ L w' (.cell a) wr ∧ a.block < w'.heap.size)

section
variable (C : Cfg) (sent : List (C.β × Value))

structure RA (w w₁ : World) : Prop where
  keep : Keeps C.KA w w₁
  wg : WgAny C.ty C.Wg w → WgAny C.ty C.Wg w₁
  msg : ∀ x ∈ sent, C.Msg x.1 x.2 w → C.Msg x.1 x.2 w₁

structure RB (w w₁ : World) : Prop where
  keep : Keeps C.KB w w₁
  wg : WgAny C.ty C.Wg w → WgAny C.ty C.Wg w₁

structure DA (w w' : World) (es : Array Event) : Prop where
  keep : Keeps C.KB w w'
  grow : Grow w w'
  wg : w'.heap[C.Wg]? = w.heap[C.Wg]?
  ch : w'.heap[C.Ch]? = w.heap[C.Ch]?
  ev : ∀ e ∈ es, EvP C.LA w' e

structure DB (w w' : World) (es : Array Event) : Prop where
  keep : Keeps C.KA w w'
  msg : ∀ x ∈ sent, C.Msg x.1 x.2 w → C.Msg x.1 x.2 w'
  grow : Grow w w'
  wg : w'.heap[C.Wg]? = w.heap[C.Wg]?
  ch : w'.heap[C.Ch]? = w.heap[C.Ch]?
  ev : ∀ e ∈ es, EvP C.LB w' e

abbrev D0 : World → World → Array Event → Prop := Go.ConcX.DC0

theorem D0.da {w w' : World} {es : Array Event} (h : D0 w w' es) : DA C w w' es := by
  obtain ⟨rfl, rfl⟩ := h
  exact ⟨.refl _ _, .refl _, rfl, rfl, by simp⟩

theorem D0.db {w w' : World} {es : Array Event} (h : D0 w w' es) : DB C sent w w' es := by
  obtain ⟨rfl, rfl⟩ := h
  exact ⟨.refl _ _, fun _ _ h => h, .refl _, rfl, rfl, by simp⟩

theorem RA.refl (w : World) : RA C sent w w := ⟨.refl _ _, id, fun _ _ h => h⟩
theorem RB.refl (w : World) : RB C w w := ⟨.refl _ _, id⟩
variable {C sent} in
theorem RA.trans {a b c : World} (h : RA C sent a b) (h' : RA C sent b c) : RA C sent a c := ⟨h.keep.trans h'.keep, fun x => h'.wg (h.wg x), fun x hx m => h'.msg x hx (h.msg x hx m)⟩
variable {C} in
theorem RB.trans {a b c : World} (h : RB C a b) (h' : RB C b c) : RB C a c := ⟨h.keep.trans h'.keep, fun x => h'.wg (h.wg x)⟩

/-! ### the worker, from its end backwards -/
def BD4 (g : Goroutine) (w : World) : Prop :=
  g.status = .running ∧ ((∃ st, WgIs C.ty C.Wg w st 0) → ∃ g', stepG C.P false g w = .go g' (w.setCell (smW C.Wg) (.int .u32 1)) (semEvents (smW C.Wg)) ∧ mayWake C.P g = true ∧ ∃ q, QuitsD C.P q 1 g')

def BD3 (g : Goroutine) (w : World) : Prop :=
  g.status = .running ∧ ((∃ st, WgIs C.ty C.Wg w st 0) → ∃ g', stepG C.P false g w = .go g' (w.setCell (stW C.Wg) (.int .u64 0)) #[wrE (stW C.Wg)] ∧ ∃ m, Goes C.P false (RB C) D0 (BD4 C) m g' (w.setCell (stW C.Wg) (.int .u64 0)))

def BD2 (g : Goroutine) (w : World) : Prop :=
  g.status = .running ∧ (WgIs C.ty C.Wg w 1 0 → ∃ g', stepG C.P false g w = .go g' w #[rdE (stW C.Wg)] ∧ ∃ m, Goes C.P false (RB C) D0 (BD3 C) m g' w)

def BD1 (g : Goroutine) (w : World) : Prop :=
  g.status = .running ∧
    (WgIs C.ty C.Wg w KK 0 → ∃ g', stepG C.P false g w = .go g' (w.setCell (stW C.Wg) (.int .u64 0)) #[rdE (stW C.Wg), wrE (stW C.Wg)] ∧ ∃ q, QuitsD C.P q 1 g') ∧
    (WgIs C.ty C.Wg w (KK + 1) 0 → ∃ g', stepG C.P false g w = .go g' (w.setCell (stW C.Wg) (.int .u64 1)) #[rdE (stW C.Wg), wrE (stW C.Wg)] ∧ ∃ m, Goes C.P false (RB C) D0 (BD2 C) m g' (w.setCell (stW C.Wg) (.int .u64 1)))

def BK1 (g : Goroutine) (w : World) : Prop :=
  g.status = .running ∧ ∃ g', stepG C.P false g w = .go g' w #[mkE .disable] ∧ ∃ m, Goes C.P false (RB C) D0 (BD1 C) m g' w

def BR0 (g : Goroutine) (w : World) : Prop :=
  g.status = .running ∧ C.FB sent w ∧ ∃ g', stepG C.P false g w = .go g' w #[mkE (.releaseMerge (stW C.Wg))] ∧ ∃ m, Goes C.P false (RB C) D0 (BK1 C) m g' w

def BClose (g : Goroutine) (w : World) : Prop :=
  g.status = .running ∧ mayWake C.P g = true ∧ ∀ s r tm, w.heap[C.Ch]? = some (.chan 0 #[] false s r tm) →
    ∃ g₂, stepG C.P false g w = .go g₂ (w.shut C.Ch s r tm) #[⟨.obj C.Ch, false, true⟩, ⟨.obj C.Ch, true, true⟩] ∧ g₂.status = .running ∧ ∃ m, Goes C.P false (RB C) (DB C sent) (BR0 C sent) m g₂ (w.shut C.Ch s r tm)

def BSend (b : C.β) (Next : Value → Goroutine → World → Prop) (g : Goroutine) (w : World) : Prop :=
  g.status = .running ∧ ∃ v z, stepG C.P false g w = .comm (core g) #[scase C.Ch v z] true .send w #[] ∧ C.Msg b v w ∧ ∀ w₂, RB C w w₂ → Next v (Conc.served (core g) undef) w₂

/-! ### the caller, from its end backwards -/
def AAcq (g : Goroutine) (w : World) : Prop :=
  g.status = .running ∧ ∃ g', stepG C.P true g w = .go g' w #[mkE (.acquire (stW C.Wg))] ∧ g'.status = .running ∧ C.PostA sent g' w

def AKe (g : Goroutine) (w : World) : Prop :=
  g.status = .running ∧ ∃ g', stepG C.P true g w = .go g' w #[mkE .enable] ∧ ∃ m, Goes C.P true (RA C sent) D0 (AAcq C sent) m g' w

def AW4 (g : Goroutine) (w : World) : Prop :=
  g.status = .running ∧ (WgIs C.ty C.Wg w 0 0 → ∃ g', stepG C.P true g w = .go g' w #[rdE (stW C.Wg)] ∧ ∃ m, Goes C.P true (RA C sent) D0 (AKe C sent) m g' w)

def AW3 (g : Goroutine) (w : World) : Prop :=
  g.status = .running ∧ g.offers = none ∧
    ((∃ st, WgIs C.ty C.Wg w st 0) → stepG C.P true g w = .go { g with status := .blocked } w #[]) ∧
    (WgIs C.ty C.Wg w 0 1 → ∃ g', stepG C.P true g w = .go g' (w.setCell (smW C.Wg) (.int .u32 0)) (semEvents (smW C.Wg)) ∧ ∃ m, Goes C.P true (RA C sent) D0 (AW4 C sent) m g' (w.setCell (smW C.Wg) (.int .u32 0)))

def AWm (g : Goroutine) (w : World) : Prop :=
  g.status = .running ∧ ∃ g', stepG C.P true g w = .go g' w #[mkE (.write (smW C.Wg))] ∧ ∃ m, Goes C.P true (RA C sent) D0 (AW3 C sent) m g' w

def AWz (g : Goroutine) (w : World) : Prop :=
  g.status = .running ∧ (WgIs C.ty C.Wg w 0 0 → ∃ g', stepG C.P true g w = .go g' w #[rdE (stW C.Wg)] ∧ ∃ m, Goes C.P true (RA C sent) D0 (AKe C sent) m g' w)

def AW2 (g : Goroutine) (w : World) : Prop :=
  g.status = .running ∧
    (WgIs C.ty C.Wg w KK 0 → ∃ g', stepG C.P true g w = .go g' (w.setCell (stW C.Wg) (.int .u64 (KK + 1))) #[rdE (stW C.Wg), wrE (stW C.Wg)] ∧ ∃ m, Goes C.P true (RA C sent) D0 (AWm C sent) m g' (w.setCell (stW C.Wg) (.int .u64 (KK + 1)))) ∧
    (WgIs C.ty C.Wg w 0 0 → ∃ g', stepG C.P true g w = .go g' w #[rdE (stW C.Wg)] ∧ ∃ m, Goes C.P true (RA C sent) D0 (AWz C sent) m g' w)

def AW1 (g : Goroutine) (w : World) : Prop :=
  g.status = .running ∧
    (WgIs C.ty C.Wg w KK 0 → ∃ g', stepG C.P true g w = .go g' w #[rdE (stW C.Wg)] ∧ ∃ m, Goes C.P true (RA C sent) D0 (AW2 C sent) m g' w) ∧
    (WgIs C.ty C.Wg w 0 0 → ∃ g', stepG C.P true g w = .go g' w #[rdE (stW C.Wg)] ∧ ∃ m, Goes C.P true (RA C sent) D0 (AKe C sent) m g' w)

def AKd (g : Goroutine) (w : World) : Prop :=
  g.status = .running ∧ ∃ g', stepG C.P true g w = .go g' w #[mkE .disable] ∧ ∃ m, Goes C.P true (RA C sent) D0 (AW1 C sent) m g' w

def ARc (g : Goroutine) (w : World) : Prop :=
  g.status = .running ∧ ∃ z, stepG C.P true g w = .comm (core g) #[rcase C.Ch z] true (.recv true) w #[] ∧ ∀ w₂, RA C sent w w₂ → ∃ m, Goes C.P true (RA C sent) (DA C) (AKd C sent) m (Conc.served (core g) (.tuple #[z, .bool false])) w₂

def ARecv (b : C.β) (Next : Value → Goroutine → World → Prop) (g : Goroutine) (w : World) : Prop :=
  g.status = .running ∧ ∃ z, stepG C.P true g w = .comm (core g) #[rcase C.Ch z] true (.recv true) w #[] ∧ ∀ v w₂, RA C sent w w₂ → C.Msg b v w₂ → Next v (Conc.served (core g) (.tuple #[v, .bool true])) w₂

end

section
variable (C : Cfg)
def BSends : List C.β → List (C.β × Value) → Goroutine → World → Prop
  | [], sent, g, w => ∃ n, Goes C.P false (RB C) (DB C sent) (BClose C sent) n g w
  | b :: bs, sent, g, w => ∃ n, Goes C.P false (RB C) (DB C sent) (BSend C b fun v g' w' => BSends bs (sent ++ [(b, v)]) g' w') n g w

def BStop : List C.β → List (C.β × Value) → Goroutine → World → Prop
  | [], sent => BClose C sent
  | b :: bs, sent => BSend C b fun v g' w' => BSends C bs (sent ++ [(b, v)]) g' w'

theorem bsends_iff (bs : List C.β) (sent : List (C.β × Value)) (g : Goroutine) (w : World) : BSends C bs sent g w ↔ ∃ n, Goes C.P false (RB C) (DB C sent) (BStop C bs sent) n g w := by
  cases bs <;> exact Iff.rfl

theorem BStop.running {bs : List C.β} {sent : List (C.β × Value)} {g : Goroutine} {w : World} (h : BStop C bs sent g w) : g.status = .running := by cases bs <;> exact h.1

def ARecvs : List C.β → List (C.β × Value) → Goroutine → World → Prop
  | [], sent, g, w => ∃ n, Goes C.P true (RA C sent) (DA C) (ARc C sent) n g w
  | b :: bs, sent, g, w => ∃ n, Goes C.P true (RA C sent) (DA C) (ARecv C sent b fun v g' w' => ARecvs bs (sent ++ [(b, v)]) g' w') n g w

def AStop : List C.β → List (C.β × Value) → Goroutine → World → Prop
  | [], sent => ARc C sent
  | b :: bs, sent => ARecv C sent b fun v g' w' => ARecvs C bs (sent ++ [(b, v)]) g' w'

theorem arecvs_iff (bs : List C.β) (sent : List (C.β × Value)) (g : Goroutine) (w : World) : ARecvs C bs sent g w ↔ ∃ n, Goes C.P true (RA C sent) (DA C) (AStop C bs sent) n g w := by
  cases bs <;> exact Iff.rfl

theorem AStop.comm {bs : List C.β} {sent : List (C.β × Value)} {g : Goroutine} {w : World} (h : AStop C bs sent g w) : g.status = .running ∧ ∃ z, stepG C.P true g w = .comm (core g) #[rcase C.Ch z] true (.recv true) w #[] := by
  cases bs <;> exact ⟨h.1, let ⟨z, h1, _⟩ := h.2; ⟨z, h1⟩⟩

end

theorem goes_monoD {P : Program} {main : Bool} {R : World → World → Prop} {D D' : World → World → Array Event → Prop} {Stop : Goroutine → World → Prop} (hD : ∀ w w' es, D w w' es → D' w w' es) :
    ∀ {n : Nat} {g : Goroutine} {w : World}, Goes P main R D Stop n g w → Goes P main R D' Stop n g w
  | 0, _, _, h => h
  | n + 1, g, w, h => by
    rcases h with h | ⟨hs, h⟩
    · exact .inl h
    · refine .inr ⟨hs, fun w₁ h₁ => ?_⟩
      have := h w₁ h₁
      revert this
      cases stepG P main g w₁ <;> simp only [GStep.goes, imp_self]
      exact fun ⟨d, x⟩ => ⟨hD _ _ _ d, goes_monoD hD x⟩

end Go.Pair

/- Small laws of a step: what the trace keeps, what the world keeps. -/
namespace Go.Pair
open Go Go.Conc

section
variable {L : World → Loc → Bool → Prop} {w w' : World} {e : Event}

theorem evp_touch (h : EvP L w' e) {b : Touch} (hb : (MemAct.ofEvent e).touch? = some b) : L w' b.loc b.write := by
  rcases h with ⟨m, hm, hn⟩ | ⟨a, wr, rfl, hl, _⟩
  · exfalso
    obtain ⟨loc, wr, sy⟩ := e
    simp only at hm
    subst hm
    have e1 : MemAct.ofEvent ⟨.mark m, wr, sy⟩ = .mark m := by cases wr <;> cases sy <;> rfl
    rw [e1, hn.touch] at hb
    cases hb
  · simp only [ofEvent_cell0, MemAct.touch?, Option.some.injEq] at hb
    subst hb
    exact hl

theorem evp_low (h : EvP L w' e) : (MemAct.ofEvent e).low w'.heap.size := by
  rcases h with ⟨m, hm, hn⟩ | ⟨a, wr, rfl, _, hl⟩
  · obtain ⟨loc, wr, sy⟩ := e
    simp only at hm
    subst hm
    have e1 : MemAct.ofEvent ⟨.mark m, wr, sy⟩ = .mark m := by cases wr <;> cases sy <;> rfl
    rw [e1]
    unfold Neutral at hn
    subst hn
    trivial
  · exact hl

theorem evp_still (h : EvP L w' e) : e.loc ≠ .mark .disable ∧ e.loc ≠ .mark .enable := by
  rcases h with ⟨m, hm, hn⟩ | ⟨a, wr, rfl, _, _⟩
  · rw [hm]
    exact ⟨fun x => hn.ne_disable (by injection x), fun x => hn.ne_enable (by injection x)⟩
  · simp

end

section
variable {C : Cfg} {t u : Trace} {w w' : World} {dA dB r : Nat} {sent : List (C.β × Value)} {es : Array Event}

abbrev Cfg.TI (C : Cfg) (t : Trace) (w : World) (dA dB : Nat) : Prop := Pair.TI C.Shun C.k C.Wg C.Ch C.LA C.LB t w dA dB

theorem ti_privA (O : C.Ok) (h : C.TI t w dA dB) (D : DA C w w' es) (fn : FuncId) (pos : String) : C.TI (t ++ MemOp.ofEvents 0 fn pos es) w' dA dB := by
  refine h.appA O.parts O.hk D.grow (fun op hop => g_ofEvents hop) (fun op hop b hb _ => ?_) ?_ (fun op hop => ?_)
  · obtain ⟨e, he, rfl⟩ := Conc.mem_ofEvents hop
    exact .inl (evp_touch (D.ev e he) hb)
  · rw [Deaf_own, deafBehind_still fun e he => evp_still (D.ev e he)]
    exact h.dA
  · obtain ⟨e, he, rfl⟩ := Conc.mem_ofEvents hop
    exact evp_low (D.ev e he)

theorem ti_privB (O : C.Ok) (h : C.TI t w dA dB) (D : DB C sent w w' es) (fn : FuncId) (pos : String) : C.TI (t ++ MemOp.ofEvents C.k fn pos es) w' dA dB := by
  refine h.appB O.parts O.hk D.grow (fun op hop => g_ofEvents hop) (fun op hop b hb _ => ?_) ?_ (fun op hop => ?_)
  · obtain ⟨e, he, rfl⟩ := Conc.mem_ofEvents hop
    exact .inl (evp_touch (D.ev e he) hb)
  · rw [Deaf_own, deafBehind_still fun e he => evp_still (D.ev e he)]
    exact h.dB
  · obtain ⟨e, he, rfl⟩ := Conc.mem_ofEvents hop
    exact evp_low (D.ev e he)

def EvGA (Wg : Nat) (e : Event) : Prop := (∃ a wr, e = ⟨.cell a, wr, true⟩ ∧ a.block = Wg) ∨ e = mkE .disable ∨ e = mkE .enable ∨ e = mkE (.write (smW Wg)) ∨ e = mkE (.read (smW Wg))

def EvGB (Wg : Nat) (e : Event) : Prop := (∃ a wr, e = ⟨.cell a, wr, true⟩ ∧ a.block = Wg) ∨ e = mkE .disable ∨ e = mkE .enable ∨ e = mkE (.releaseMerge (stW Wg))

theorem ofEvent_atomic (a : Addr) (wr : Bool) : MemAct.ofEvent ⟨.cell a, wr, true⟩ = .access ⟨.cell a, wr, true⟩ := rfl
theorem ofEvent_mkE (m : Mark) : MemAct.ofEvent (mkE m) = .mark m := rfl

theorem ti_wgA (O : C.Ok) (h : C.TI t w dA dB) (hg : Grow w w') (hW : C.Wg < w'.heap.size) (hes : ∀ e ∈ es, EvGA C.Wg e) (fn : FuncId) (pos : String) : C.TI (t ++ MemOp.ofEvents 0 fn pos es) w' (deafBehind dA es) dB := by
  refine h.appA O.parts O.hk hg (fun op hop => g_ofEvents hop) (fun op hop b hb _ => ?_) ?_ (fun op hop => ?_)
  · obtain ⟨e, he, rfl⟩ := Conc.mem_ofEvents hop
    rcases hes e he with ⟨a, wr, rfl, ha⟩ | rfl | rfl | rfl | rfl
    · simp only [ofEvent_atomic, MemAct.touch?, Option.some.injEq] at hb
      subst hb
      exact .inr ⟨⟨a, rfl, ha⟩, by simp⟩
    · cases hb
    · cases hb
    · simp only [ofEvent_mkE, MemAct.touch?, Option.some.injEq] at hb
      subst hb
      exact .inr ⟨⟨_, rfl, rfl⟩, by simp⟩
    · simp only [ofEvent_mkE, MemAct.touch?, Option.some.injEq] at hb
      subst hb
      exact .inr ⟨⟨_, rfl, rfl⟩, by simp⟩
  · rw [Deaf_own, h.dA]
  · obtain ⟨e, he, rfl⟩ := Conc.mem_ofEvents hop
    rcases hes e he with ⟨a, wr, rfl, ha⟩ | rfl | rfl | rfl | rfl
    · show a.block < _
      rw [ha]; exact hW
    · trivial
    · trivial
    · exact hW
    · exact hW

theorem ti_wgB (O : C.Ok) (h : C.TI t w dA dB) (hg : Grow w w') (hW : C.Wg < w'.heap.size) (hes : ∀ e ∈ es, EvGB C.Wg e) (fn : FuncId) (pos : String) : C.TI (t ++ MemOp.ofEvents C.k fn pos es) w' dA (deafBehind dB es) := by
  refine h.appB O.parts O.hk hg (fun op hop => g_ofEvents hop) (fun op hop b hb _ => ?_) ?_ (fun op hop => ?_)
  · obtain ⟨e, he, rfl⟩ := Conc.mem_ofEvents hop
    rcases hes e he with ⟨a, wr, rfl, ha⟩ | rfl | rfl | rfl
    · simp only [ofEvent_atomic, MemAct.touch?, Option.some.injEq] at hb
      subst hb
      exact .inr ⟨.inl ⟨a, rfl, ha⟩, by simp⟩
    · cases hb
    · cases hb
    · cases hb
  · rw [Deaf_own, h.dB]
  · obtain ⟨e, he, rfl⟩ := Conc.mem_ofEvents hop
    rcases hes e he with ⟨a, wr, rfl, ha⟩ | rfl | rfl | rfl
    · show a.block < _
      rw [ha]; exact hW
    · trivial
    · trivial
    · exact hW

theorem ti_close (O : C.Ok) (h : C.TI t w dA dB) (hg : Grow w w') (hC : C.Ch < w'.heap.size) (fn : FuncId) (pos : String) : C.TI (t ++ MemOp.ofEvents C.k fn pos #[⟨.obj C.Ch, false, true⟩, ⟨.obj C.Ch, true, true⟩]) w' dA dB := by
  refine h.appB O.parts O.hk hg (fun op hop => g_ofEvents hop) (fun op hop b hb _ => ?_) ?_ (fun op hop => ?_)
  · obtain ⟨e, he, rfl⟩ := Conc.mem_ofEvents hop
    simp at he
    rcases he with rfl | rfl
    · simp [MemAct.ofEvent, MemAct.touch?] at hb
      subst hb
      exact .inr ⟨.inr rfl, rfl⟩
    · simp [MemAct.ofEvent, MemAct.touch?] at hb
  · rw [Deaf_own, deafBehind_still fun e he => by simp at he; rcases he with rfl | rfl <;> simp]
    exact h.dB
  · obtain ⟨e, he, rfl⟩ := Conc.mem_ofEvents hop
    simp at he
    rcases he with rfl | rfl
    · exact hC
    · exact hC

theorem ti_comm (O : C.Ok) (h : C.TI t w dA dB) (hg : Grow w w') (hn : ∀ op ∈ u, op.act.touch? = none ∧ (∀ m, op.act ≠ .mark m) ∧ op.act.low w'.heap.size) : C.TI (t ++ u) w' dA dB :=
  h.appMute O.parts hg (fun op hop => (hn op hop).1) (Go.ConcN.Deaf_still t 0 u fun op hop => ⟨(hn op hop).2.1 _, (hn op hop).2.1 _⟩) (Go.ConcN.Deaf_still t C.k u fun op hop => ⟨(hn op hop).2.1 _, (hn op hop).2.1 _⟩) fun op hop => (hn op hop).2.2

theorem ti_leaver (O : C.Ok) (h : C.TI t w dA dB) {i : Nat} (h0 : i ≠ 0) (hk : i ≠ C.k) (hm : ∀ e ∈ es, Event.mute e = true) (fn : FuncId) (pos : String) : C.TI (t ++ MemOp.ofEvents i fn pos es) w dA dB :=
  h.appMute O.parts (.refl w) (fun op hop => by obtain ⟨e, he, rfl⟩ := Conc.mem_ofEvents hop; exact touch_mute (hm e he)) (Deaf_other t (Ne.symm (Ne.symm h0)) _ fun op hop => g_ofEvents hop) (Deaf_other t hk _ fun op hop => g_ofEvents hop)
    fun op hop => by obtain ⟨e, he, rfl⟩ := Conc.mem_ofEvents hop; exact low_mute (hm e he) _

theorem TI.at (O : C.Ok) (h : C.TI t w dA dB) (d : Nat) : C.TI t (w.at d) dA dB := h.grow O.parts (.at w d)

/-! ### the world -/
theorem wg_set0 {ty : TypeId} {Wg : Nat} {st sm : Int} (h : WgIs ty Wg w st sm) (x : Int) : WgIs ty Wg (w.setCell (stW Wg) (.int .u64 x)) x sm := by
  unfold WgIs at h ⊢
  simp [World.setCell, stW, wgO, Array.getElem?_modify, h]

theorem wg_set1 {ty : TypeId} {Wg : Nat} {st sm : Int} (h : WgIs ty Wg w st sm) (x : Int) : WgIs ty Wg (w.setCell (smW Wg) (.int .u32 x)) st x := by
  unfold WgIs at h ⊢
  simp [World.setCell, smW, wgO, Array.getElem?_modify, h]

theorem set_other (a : Addr) (v : Value) {i : Nat} (h : i ≠ a.block) : (w.setCell a v).heap[i]? = w.heap[i]? := by
  simp [World.setCell, Array.getElem?_modify, Ne.symm h]

theorem set_size (a : Addr) (v : Value) : (w.setCell a v).heap.size = w.heap.size := by simp [World.setCell]
theorem keeps_set {K : Nat → Obj → Prop} (a : Addr) (v : Value) (h : ∀ i o, K i o → i ≠ a.block) : Keeps K w (w.setCell a v) :=
  ⟨rfl, rfl, rfl, by rw [set_size]; exact Nat.le_refl _, fun i o e k => by rw [set_other a v (h i o k)]; exact e⟩

theorem grow_set (a : Addr) (v : Value) : Grow w (w.setCell a v) := by
  refine ⟨by rw [set_size]; exact Nat.le_refl _, fun i o h => ?_⟩
  by_cases hi : i = a.block
  · subst hi
    simp [World.setCell, Array.getElem?_modify, h]
    cases o <;> rfl
  · exact ⟨o, by rw [set_other a v hi]; exact h, rfl⟩

theorem wg_lt {ty : TypeId} {Wg : Nat} {st sm : Int} (h : WgIs ty Wg w st sm) : Wg < w.heap.size := by
  unfold WgIs at h
  rcases Nat.lt_or_ge Wg w.heap.size with h' | h'
  · exact h'
  · rw [Array.getElem?_eq_none h'] at h; cases h

theorem lt_of_get {i : Nat} {o : Obj} (h : w.heap[i]? = some o) : i < w.heap.size := by
  rcases Nat.lt_or_ge i w.heap.size with h' | h'
  · exact h'
  · rw [Array.getElem?_eq_none h'] at h; cases h

theorem put_other {o : Obj} {c i : Nat} (h : i ≠ c) : ({ w with heap := w.heap.setIfInBounds c o } : World).heap[i]? = w.heap[i]? := by
  simp [Array.getElem?_setIfInBounds_ne (Ne.symm h)]

theorem put_self {o : Obj} {c : Nat} (h : c < w.heap.size) : ({ w with heap := w.heap.setIfInBounds c o } : World).heap[c]? = some o := by
  simp [h]

theorem keeps_put {K : Nat → Obj → Prop} {o : Obj} {c : Nat} (h : ∀ i o, K i o → i ≠ c) : Keeps K w { w with heap := w.heap.setIfInBounds c o } :=
  ⟨rfl, rfl, rfl, by simp, fun i o e k => by rw [put_other (h i o k)]; exact e⟩

theorem grow_put {o o' : Obj} {c : Nat} (h : w.heap[c]? = some o') (hk : kindOf o = kindOf o') : Grow w { w with heap := w.heap.setIfInBounds c o } := by
  refine ⟨by simp, fun i x e => ?_⟩
  by_cases hi : i = c
  · subst hi
    rw [h] at e
    obtain rfl := Option.some.inj e
    exact ⟨o, put_self (lt_of_get h), hk⟩
  · exact ⟨x, by rw [put_other hi]; exact e, rfl⟩

end
end Go.Pair
