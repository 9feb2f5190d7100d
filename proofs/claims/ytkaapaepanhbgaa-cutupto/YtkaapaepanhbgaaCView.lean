/- The numbers of sync.WaitGroup's functions and types in this program. -/
import Derived.Test.YtkaapaepanhbgaaProg
import Derived.Conc.WgLib
import Derived.KernelRfl
import Derived.Test.YtkaapaepanhbgaaHAdd
import Derived.Conc.CompanyMem
import Derived.Laws.BitsAllLaws
namespace Go.Proofs
abbrev Try.link : Go.Conc.Lib.WgLink := { add := 14, done := 16, wait := 18, relMerge := 19, disable := 20, enable := 21, inBubble := 22, associate := 23, fatal := 24, uOr := 25, uAdd := 26, raceRead := 27, uLoad := 28, uStore := 29, disassociate := 30, semrelease := 31, acquire := 35, isAssociated := 36, uCas := 37, raceWrite := 38, semacquire := 39, orU64 := 40, addU64 := 41, loadU64 := 42, storeU64 := 43, casU64 := 45, tWgP := 61, tUP := 63, tAssoc := 65, tWg := 58, tAU := 55, tU64 := 47, tUint := 69, tU32 := 56, tPU32 := 70, tPAU := 81, tPU64 := 83, tNoCopy := 51, tANoCopy := 52, tAlign64 := 53 }
theorem Try.wgLib : Go.Conc.Lib.WgLib Try.prog Try.link :=
  ⟨Try.func14, Try.func16, Try.func18, Try.func19, Try.func20, Try.func21, Try.func22, Try.func23, Try.func24, Try.func25, Try.func26, Try.func27, Try.func28, Try.func29, Try.func30, Try.func31, Try.func35, Try.func36, Try.func37, Try.func38, Try.func39, Try.func40, Try.func41, Try.func42, Try.func43, Try.func45, Try.underlying61, Try.runUnderlying61, Try.sizeOf61, Try.isAgg61, Try.zeroValue61, Try.underlying63, Try.runUnderlying63, Try.sizeOf63, Try.isAgg63, Try.zeroValue63, Try.underlying65, Try.runUnderlying65, Try.sizeOf65, Try.isAgg65, Try.zeroValue65, Try.underlying58, Try.runUnderlying58, Try.sizeOf58, Try.isAgg58, Try.zeroValue58, Try.underlying55, Try.runUnderlying55, Try.sizeOf55, Try.isAgg55, Try.zeroValue55, Try.underlying47, Try.runUnderlying47, Try.sizeOf47, Try.isAgg47, Try.zeroValue47, Try.underlying69, Try.runUnderlying69, Try.sizeOf69, Try.isAgg69, Try.zeroValue69, Try.underlying56, Try.runUnderlying56, Try.sizeOf56, Try.isAgg56, Try.zeroValue56, Try.underlying70, Try.runUnderlying70, Try.sizeOf70, Try.isAgg70, Try.zeroValue70, Try.underlying81, Try.runUnderlying81, Try.sizeOf81, Try.isAgg81, Try.zeroValue81, Try.underlying83, Try.runUnderlying83, Try.sizeOf83, Try.isAgg83, Try.zeroValue83, Try.underlying0, Try.runUnderlying0, Try.sizeOf0, Try.isAgg0, Try.zeroValue0, Try.underlying3, Try.runUnderlying3, Try.sizeOf3, Try.isAgg3, Try.zeroValue3, Try.underlying4, Try.runUnderlying4, Try.sizeOf4, Try.isAgg4, Try.zeroValue4, Try.underlying9, Try.runUnderlying9, Try.sizeOf9, Try.isAgg9, Try.zeroValue9, Try.underlying20, Try.runUnderlying20, Try.sizeOf20, Try.isAgg20, Try.zeroValue20, Try.underlying21, Try.runUnderlying21, Try.sizeOf21, Try.isAgg21, Try.zeroValue21, (by kernel_rfl), (by kernel_rfl)⟩
end Go.Proofs

/- Each in Cut's seat: whose memory is whose while the worker cuts and the caller gathers. -/
set_option linter.unusedVariables false
namespace Go.Proofs.Ytkaapaepanhbgaa
open Go Go.Conc Go.Pair

def bc (b : List UInt8) : List Value := b.map fun c => .int .u8 (c.toNat : Int)

/-- The blocks: the Reader's, its part's old row (the Reader's own number, if there is none), the caller's variable; the group, the channel; from Low on all is new. -/
structure EP where
  R : Nat
  pb : Nat
  Vb : Nat
  Wg : Nat
  Ch : Nat
  Low : Nat
  Shun : Loc → Prop
  Fix : Nat → Option Obj

/-- A block that nobody writes. -/
def EP.keepAt (E : EP) (i : Nat) : Prop := i < E.Low ∧ i ≠ E.R ∧ i ≠ E.pb ∧ i ≠ E.Vb ∧ i ≠ E.Wg ∧ i ≠ E.Ch
/-- A place that both may read. -/
def EP.still (E : EP) (a : Addr) : Prop := a.block < E.Low ∧ a.block ≠ E.R ∧ a.block ≠ E.pb ∧ a.block ≠ E.Vb ∧ a.block ≠ E.Wg ∧ a.block ≠ E.Ch ∧ ¬ E.Shun (.cell a)

structure EP.Ok (E : EP) : Prop where
  r : E.R < E.Low
  p : E.pb < E.Low
  v : E.Vb < E.Low
  g : E.Wg < E.Low
  c : E.Ch < E.Low
  rv : E.R ≠ E.Vb
  pv : E.pb ≠ E.Vb
  rg : E.R ≠ E.Wg
  rc : E.R ≠ E.Ch
  pg : E.pb ≠ E.Wg
  pc : E.pb ≠ E.Ch
  vg : E.Vb ≠ E.Wg
  vc : E.Vb ≠ E.Ch
  gc : E.Wg ≠ E.Ch
  shun : ∀ l, E.Shun l → ∃ a : Addr, l = .cell a ∧ a.block < E.Low ∧ a.block ≠ E.R ∧ a.block ≠ E.pb ∧ a.block ≠ E.Vb ∧ a.block ≠ E.Wg
  fix : ∀ i o, E.Fix i = some o → E.keepAt i

def kindAt (w : World) (i : Nat) (t : TypeId) : Prop := ∃ o, w.heap[i]? = some o ∧ kindOf o = some t
def EP.LB (E : EP) (w : World) (l : Loc) (x : Bool) : Prop := ∃ a : Addr, l = .cell a ∧ ((a.block = E.R ∨ a.block = E.pb) ∨ (E.Low ≤ a.block ∧ kindAt w a.block 5) ∨ (x = false ∧ E.still a))
def EP.LA (E : EP) (w : World) (l : Loc) (x : Bool) : Prop := ∃ a : Addr, l = .cell a ∧ (a.block = E.Vb ∨ (E.Low ≤ a.block ∧ kindAt w a.block 25) ∨ (x = false ∧ E.still a))
def EP.KA (E : EP) (i : Nat) (o : Obj) : Prop := i ≠ E.Wg ∧ i ≠ E.Ch ∧ i ≠ E.R ∧ i ≠ E.pb ∧ ¬ (E.Low ≤ i ∧ kindOf o = some 5)
def EP.KB (E : EP) (i : Nat) (o : Obj) : Prop := i ≠ E.Wg ∧ i ≠ E.Ch ∧ i ≠ E.Vb ∧ ¬ (E.Low ≤ i ∧ kindOf o = some 25)
def EP.Msg (E : EP) (b : List UInt8) (v : Value) (w : World) : Prop := ∃ r, E.Low ≤ r ∧ v = .slice (some ⟨r, 0, none⟩) b.length b.length ∧ w.heap[r]? = some (.cells (bc b).toArray 5)

theorem kindAt.grow {w w' : World} {i : Nat} {t : TypeId} (h : kindAt w i t) (g : Grow w w') : kindAt w' i t := by
  obtain ⟨o, h1, h2⟩ := h
  obtain ⟨o', h3, h4⟩ := g.kind i o h1
  exact ⟨o', h3, h4.trans h2⟩
theorem kindAt.uniq {w : World} {i : Nat} (h : kindAt w i 5) (h' : kindAt w i 25) : False := by
  obtain ⟨o, h1, h2⟩ := h
  obtain ⟨o', h3, h4⟩ := h'
  rw [h1] at h3
  obtain rfl := Option.some.inj h3
  rw [h2] at h4
  exact absurd h4 (by decide)

theorem EP.Ok.parts {E : EP} (O : E.Ok) : Parts E.Shun E.Wg E.Ch E.LA E.LB := by
  have out : ∀ a : Addr, E.still a → ¬ IsWg E.Wg (.cell a) ∧ (Loc.cell a) ≠ .obj E.Ch ∧ ¬ E.Shun (.cell a) := fun a h => ⟨fun ⟨b, e, hb⟩ => by cases e; exact h.2.2.2.2.1 hb, by simp, h.2.2.2.2.2.2⟩
  refine ⟨fun w l x y hA hB => ?_, fun w l x h => ?_, fun w l x h => ?_, fun w w' l x g h => ?_, fun w w' l x g h => ?_, fun l hl hs => ?_, fun hs => ?_⟩
  · obtain ⟨a, rfl, hA⟩ := hA
    obtain ⟨a', e, hB⟩ := hB
    cases e
    rcases hA with hA | ⟨hA, kA⟩ | ⟨hx, sA⟩
    · exfalso
      rcases hB with (hB | hB) | ⟨hB, kB⟩ | ⟨hy, sB⟩
      · exact O.rv (hB.symm.trans hA)
      · exact O.pv (hB.symm.trans hA)
      · have := O.v; omega
      · exact sB.2.2.2.1 hA
    · exfalso
      rcases hB with (hB | hB) | ⟨hB, kB⟩ | ⟨hy, sB⟩
      · have := O.r; omega
      · have := O.p; omega
      · exact kB.uniq kA
      · have := sB.1; omega
    · rcases hB with (hB | hB) | ⟨hB, kB⟩ | ⟨hy, sB⟩
      · exact absurd hB sA.2.1
      · exact absurd hB sA.2.2.1
      · have := sA.1; omega
      · exact ⟨hx, hy⟩
  · obtain ⟨a, rfl, h⟩ := h
    rcases h with h | ⟨h, k⟩ | ⟨_, s⟩
    · refine ⟨fun ⟨b, e, hb⟩ => by cases e; exact O.vg (h.symm.trans hb), by simp, fun hs => ?_⟩
      obtain ⟨b, e, h1⟩ := O.shun _ hs
      cases e
      exact h1.2.2.2.1 h
    · refine ⟨fun ⟨b, e, hb⟩ => by cases e; have := O.g; omega, by simp, fun hs => ?_⟩
      obtain ⟨b, e, h1⟩ := O.shun _ hs
      cases e
      have := h1.1
      omega
    · exact out a s
  · obtain ⟨a, rfl, h⟩ := h
    rcases h with (h | h) | ⟨h, k⟩ | ⟨_, s⟩
    · refine ⟨fun ⟨b, e, hb⟩ => by cases e; exact O.rg (h.symm.trans hb), by simp, fun hs => ?_⟩
      obtain ⟨b, e, h1⟩ := O.shun _ hs
      cases e
      exact h1.2.1 h
    · refine ⟨fun ⟨b, e, hb⟩ => by cases e; exact O.pg (h.symm.trans hb), by simp, fun hs => ?_⟩
      obtain ⟨b, e, h1⟩ := O.shun _ hs
      cases e
      exact h1.2.2.1 h
    · refine ⟨fun ⟨b, e, hb⟩ => by cases e; have := O.g; omega, by simp, fun hs => ?_⟩
      obtain ⟨b, e, h1⟩ := O.shun _ hs
      cases e
      have := h1.1
      omega
    · exact out a s
  · obtain ⟨a, rfl, h⟩ := h
    exact ⟨a, rfl, h.imp id fun h => h.imp (fun h => ⟨h.1, h.2.grow g⟩) id⟩
  · obtain ⟨a, rfl, h⟩ := h
    exact ⟨a, rfl, h.imp id fun h => h.imp (fun h => ⟨h.1, h.2.grow g⟩) id⟩
  · obtain ⟨b, e, h1⟩ := O.shun _ hs
    subst e
    obtain ⟨a, e, ha⟩ := hl
    cases e
    exact h1.2.2.2.2 ha
  · obtain ⟨b, e, _⟩ := O.shun _ hs
    cases e

theorem EP.keepAt.still {E : EP} {i : Nat} (h : E.keepAt i) {a : Addr} (e : a.block = i) (hs : ¬ E.Shun (.cell a)) : E.still a := by
  subst e
  exact ⟨h.1, h.2.1, h.2.2.1, h.2.2.2.1, h.2.2.2.2.1, h.2.2.2.2.2, hs⟩

/-- The pair's configuration. -/
noncomputable def EP.cfg (E : EP) (k : Nat) (FB : List (List UInt8 × Value) → World → Prop) (PostA : List (List UInt8 × Value) → Goroutine → World → Prop) : Cfg :=
  { P := Try.prog, Shun := E.Shun, k, Wg := E.Wg, Ch := E.Ch, ty := 58, LA := E.LA, LB := E.LB, KA := E.KA, KB := E.KB, β := List UInt8, Msg := E.Msg, FB, PostA }

theorem EP.Ok.cfg {E : EP} (O : E.Ok) {k : Nat} {FB : List (List UInt8 × Value) → World → Prop} {PostA : List (List UInt8 × Value) → Goroutine → World → Prop} (hk : 0 < k) (hF : ∀ sent w w', Keeps E.KB w w' → FB sent w → FB sent w') (hP : ∀ sent g w d, PostA sent g (w.at d) ↔ PostA sent g w) : (E.cfg k FB PostA).Ok where
  hk := hk
  parts := O.parts
  neq := O.gc
  ka := fun i o h => ⟨h.1, h.2.1⟩
  kb := fun i o h => ⟨h.1, h.2.1⟩
  msgB := fun b v w w' h ⟨r, h1, h2, h3⟩ => ⟨r, h1, h2, h.keep r _ h3 ⟨by have := O.g; omega, by have := O.c; omega, by have := O.v; omega, fun ⟨_, x⟩ => by simp [kindOf] at x⟩⟩
  fbB := hF
  postAt := hP
end Go.Proofs.Ytkaapaepanhbgaa

/- What the worker holds of the Cutter; the length that stands in its part. -/
set_option linter.unusedVariables false
set_option linter.unusedSimpArgs false
namespace Go.Proofs.Ytkaapaepanhbgaa
open Go Go.Conc Go.Pair Go.RowKit

def PartAt (E : EP) (sent : List (List UInt8 × Value)) (w : World) (p : List UInt8) (v : Value) : Prop :=
  (v = .slice none 0 0 ∧ p = []) ∨ ∃ q c cells, v = .slice (some ⟨q, 0, none⟩) p.length c ∧ p.length ≤ c ∧ w.heap[q]? = some (.cells cells 5) ∧ cells.size = c ∧ (∀ i (h : i < p.length), cells[i]? = some (.int .u8 (p[i].toNat : Int))) ∧
    (q = E.pb ∨ E.Low ≤ q) ∧ q ≠ E.R ∧ (∀ x ∈ sent, ∀ n m, x.2 ≠ .slice (some ⟨q, 0, none⟩) n m) ∧ c ≤ maxLen

/-- The Cutter holds this part; it has met a length that is too great, or not. -/
structure BView (E : EP) (sent : List (List UInt8 × Value)) (p : List UInt8) (v : Value) (tl : Bool) (w : World) : Prop where
  r : w.heap[E.R]? = some (.cells #[v, .bool tl] 44)
  part : PartAt E sent w p v
  low : E.Low ≤ w.heap.size
  old : ∀ x ∈ sent, ∃ r n m, x.2 = .slice (some ⟨r, 0, none⟩) n m ∧ r < w.heap.size
  src : ∀ i o, E.Fix i = some o → w.heap[i]? = some o
  wg : WgAny 58 E.Wg w

section
variable {E : EP} {sent : List (List UInt8 × Value)} {p : List UInt8} {v : Value} {tl : Bool} {w w₁ : World} {k : Nat} {FB : List (List UInt8 × Value) → World → Prop} {PostA : List (List UInt8 × Value) → Goroutine → World → Prop}

theorem EP.Ok.src (O : E.Ok) (h : ∀ i o, E.Fix i = some o → w.heap[i]? = some o) (r : RB (E.cfg k FB PostA) w w₁) {i : Nat} {o : Obj} (e : E.Fix i = some o) : w₁.heap[i]? = some o := by
  have hs := O.fix i o e
  exact r.keep.keep _ _ (h i o e) ⟨hs.2.2.2.2.1, hs.2.2.2.2.2, hs.2.2.2.1, fun ⟨x, _⟩ => by have := hs.1; omega⟩

theorem BView.rely (O : E.Ok) (h : BView E sent p v tl w) (r : RB (E.cfg k FB PostA) w w₁) : BView E sent p v tl w₁ := by
  refine ⟨r.keep.keep _ _ h.r ⟨O.rg, O.rc, O.rv, fun ⟨x, _⟩ => by have := O.r; omega⟩, ?_, Nat.le_trans h.low r.keep.size, fun x hx => let ⟨b, n, m, h1, h2⟩ := h.old x hx; ⟨b, n, m, h1, Nat.lt_of_lt_of_le h2 r.keep.size⟩, fun i o e => O.src (h.src) r e, r.wg h.wg⟩
  rcases h.part with h1 | ⟨q, c, cells, h1, h2, h3, h4, h5, h6, h7, h8⟩
  · exact .inl h1
  · refine .inr ⟨q, c, cells, h1, h2, r.keep.keep _ _ h3 ?_, h4, h5, h6, h7, h8⟩
    rcases h6 with rfl | h6
    · exact ⟨O.pg, O.pc, O.pv, fun ⟨x, _⟩ => by have := O.p; omega⟩
    · exact ⟨by have := O.g; omega, by have := O.c; omega, by have := O.v; omega, fun ⟨_, x⟩ => by simp [kindOf] at x⟩

theorem BView.c0 (h : BView E sent p v tl w) : w.cell? ⟨E.R, 0, none⟩ = some v := by simp [World.cell?, h.r]
theorem BView.c1 (h : BView E sent p v tl w) : w.cell? ⟨E.R, 1, none⟩ = some (.bool tl) := by simp [World.cell?, h.r]

theorem termsB (C : Cfg) (sent : List (C.β × Value)) : Terms (RB C) (DB C sent) := ⟨fun _ _ _ h k => h.trans k, fun w => ⟨.refl _ _, fun _ _ h => h, .refl _, rfl, rfl, by simp⟩⟩

/-- A step that reads places of the worker's. -/
theorem db_read {C : Cfg} {sent : List (C.β × Value)} {w : World} {es : Array Event} (h : ∀ e ∈ es, EvP C.LB w e) : DB C sent w w es := ⟨.refl _ _, fun _ _ h => h, .refl _, rfl, rfl, h⟩

theorem evR (h : BView E sent p v tl w) (i : Nat) : EvP (E.cfg k FB PostA).LB w ⟨.cell ⟨E.R, i, none⟩, false, false⟩ := .inr ⟨_, _, rfl, ⟨_, rfl, .inl (.inl rfl)⟩, lt_of_get h.r⟩

theorem BView.shape (h : BView E sent p v tl w) : ∃ a c, v = .slice a p.length c := by
  rcases h.part with ⟨rfl, rfl⟩ | ⟨q, c, cells, h1, _⟩
  · exact ⟨none, 0, rfl⟩
  · exact ⟨_, _, h1⟩
theorem BView.long (h : BView E sent p v tl w) (h0 : 0 < p.length) : ∃ q c, v = .slice (some ⟨q, 0, none⟩) p.length c ∧ p.length ≤ c ∧ c ≤ maxLen := by
  rcases h.part with ⟨rfl, rfl⟩ | ⟨q, c, cells, h1, h2, h3, h4, h5, h6, h7, h8, h9⟩
  · simp at h0
  · exact ⟨q, c, h1, h2, h9⟩
/-- A byte of the part. -/
theorem BView.byte {q c : Nat} (h : BView E sent p (.slice (some ⟨q, 0, none⟩) p.length c) tl w) (i : Nat) (hi : i < p.length) : w.cell? ⟨q, i, none⟩ = some (.int .u8 (p[i].toNat : Int)) := by
  rcases h.part with ⟨h1, rfl⟩ | ⟨q', c', cells, h1, h2, h3, h4, h5, _⟩
  · simp at hi
  · cases h1
    simp [World.cell?, h3, h5 i hi]
theorem BView.evQ {q c : Nat} (h : BView E sent p (.slice (some ⟨q, 0, none⟩) p.length c) tl w) (i : Nat) : EvP (E.cfg k FB PostA).LB w ⟨.cell ⟨q, i, none⟩, false, false⟩ := by
  rcases h.part with ⟨h1, rfl⟩ | ⟨q', c', cells, h1, h2, h3, h4, h5, h6, _⟩
  · cases h1
  · cases h1
    refine .inr ⟨_, _, rfl, ⟨_, rfl, ?_⟩, lt_of_get h3⟩
    rcases h6 with h6 | h6
    · exact .inl (.inr h6)
    · exact .inr (.inl ⟨h6, _, h3, rfl⟩)

def uns (l : List UInt8) : Nat := l.foldl (fun x c => x * 256 + c.toNat) 0
theorem uns_snoc (l : List UInt8) (k : Nat) (h : k < l.length) : uns (l.take (k + 1)) = uns (l.take k) * 256 + l[k].toNat := by
  rw [List.take_succ_eq_append_getElem h]
  unfold uns
  rw [List.foldl_append]
  rfl
theorem uns_lt : ∀ (l : List UInt8) (k : Nat), k ≤ l.length → uns (l.take k) < 256 ^ k
  | l, 0, _ => by simp [uns]
  | l, k + 1, h => by
    have := uns_lt l k (by omega)
    rw [uns_snoc l k (by omega), Nat.pow_succ]
    have := UInt8.toNat_lt l[k]
    omega
theorem or_byte (X c : Nat) (hX : X < 72057594037927936) (hc : c < 256) : bits .or .u64 ((X : Int) * 256) (c : Int) = ((X * 256 + c : Nat) : Int) := by
  have e : ((X : Int) * 256) = ((X * 256 : Nat) : Int) := by omega
  rw [e, u64_or_nat _ _ (by omega) (by omega)]
  have := Nat.shiftLeft_add_eq_or_of_lt (i := 8) (b := c) (by omega) X
  rw [Nat.shiftLeft_eq] at this
  rw [← this]

def UInv (E : EP) (sent : List (List UInt8 × Value)) (p : List UInt8) (q c c' : Nat) (tl : Bool) (a : Act) (w : World) : Prop :=
  ∃ (i : Nat) (v5 v9 v10 v11 v12 v13 v14 v15 v16 v17 : Value), i ≤ 4 ∧ BView E sent p (.slice (some ⟨q, 0, none⟩) p.length c) tl w ∧
    a = { tmps := #[.slice (some ⟨q, 0, none⟩) 4 c', undef, .int .u64 0, .int .u64 (uns (p.take i) : Int), undef, v5, .slice (some ⟨q, 0, none⟩) 4 c', .int .i64 4, .int .i64 (i : Int), v9, v10, v11, v12, v13, v14, v15, v16, v17, undef], defers := [] }
def UMu (a : Act) (_ : World) : Nat := match a.tmps.getD 8 undef with | .int _ j => 4 - j.toNat | _ => 0

set_option maxRecDepth 100000 in
set_option maxHeartbeats 1000000 in
theorem unsigned_c (O : E.Ok) (h4 : 4 ≤ p.length) : ∃ m, ∀ (q c c' : Nat) w, BView E sent p (.slice (some ⟨q, 0, none⟩) p.length c) tl w →
    CallsC Try.prog false (RB (E.cfg k FB PostA)) (DB (E.cfg k FB PostA) sent) 44 #[.slice (some ⟨q, 0, none⟩) 4 c'] m w fun x w' => x = .int .u64 (uns (p.take 4) : Int) ∧ BView E sent p (.slice (some ⟨q, 0, none⟩) p.length c) tl w' := by
  have T := termsB (E.cfg k FB PostA) sent
  co_apply Exists.intro
  intro q c c' w hF
  co_apply callsC_of_wpC Try.func44 (by rfl) rfl
  simp only [Try.ntmps44, List.size_toArray, List.length_cons, List.length_nil, Nat.reduceAdd, Nat.reduceSub, Array.replicate_succ, Array.replicate_zero, List.push_toArray, List.append_toArray, List.nil_append, List.cons_append]
  co_go T (BView.rely O) hF (co_quiet T)
  co_apply wpC_loop T (UInv E sent p q c c' tl) UMu _ 4
  · exact ⟨0, _, _, _, _, _, _, _, _, _, _, by omega, hF, rfl⟩
  · simp [UMu]
  · rintro a w' ⟨i, v5, v9, v10, v11, v12, v13, v14, v15, v16, v17, hi, hS, rfl⟩
    co_go T (BView.rely O) hS (co_quiet T)
    co_split T (decide ((i : Int) < 4))
    · intro hi4
      have hi4' : i < 4 := by have := of_decide_eq_true hi4; omega
      have hiz : (i : Int) < 4 := by omega
      have hsn := uns_snoc p i (by omega)
      have hlt := uns_lt p i (by omega)
      have hb := UInt8.toNat_lt p[i]
      co_ctl T
      co_then
      co_apply wpC_seq T
      co_apply wpC_block T
      co_apply wpC_seq T
      co_reg T
      co_opw (BView.rely O) hS (skip) (co_still T)
      co_opw (BView.rely O) hS (have hc := hS.byte i (by omega)) (refine db_read ?_; co_evs (exact hS.evQ i))
      clear hc
      co_op (BView.rely O) hS (co_quiet T)
      co_apply opsC_nil T
      co_then
      co_go T (BView.rely O) hS (co_quiet T)
      have hX : uns (p.take i) < 16777216 := Nat.lt_of_lt_of_le hlt (by
        have : 256 ^ i ≤ 256 ^ 3 := Nat.pow_le_pow_right (by omega) (by omega)
        exact this)
      have e1 : IntKind.u64.wrap ((uns (p.take i) : Int) * 256) = (uns (p.take i) : Int) * 256 := by rw [IntKind.wrap_u64]; omega
      have e2 : IntKind.u64.wrap ((p[i].toNat : Nat) : Int) = ((p[i].toNat : Nat) : Int) := by rw [IntKind.wrap_u64]; omega
      have e3 : IntKind.i64.wrap ((i : Int) + 1) = ((i + 1 : Nat) : Int) := by rw [IntKind.wrap_i64]; omega
      have e4 := or_byte (uns (p.take i)) p[i].toNat (by omega) hb
      rw [← hsn] at e4
      simp only [e1, e2, e3, e4]
      refine ⟨⟨i + 1, _, _, _, _, _, _, _, _, _, _, by omega, hS, rfl⟩, ?_⟩
      simp [UMu]
      omega
    · intro hi4
      obtain rfl : i = 4 := by have := of_decide_eq_false hi4; omega
      co_go T (BView.rely O) hS (co_quiet T)
      exact ⟨rfl, _, resultsC_tmp (by rfl) _, rfl, hS⟩

set_option maxRecDepth 100000 in
theorem length_short (O : E.Ok) (hp : p.length < 4) : ∃ m, ∀ v w, BView E sent p v tl w →
    CallsC Try.prog false (RB (E.cfg k FB PostA)) (DB (E.cfg k FB PostA) sent) 33 #[.pointer (some ⟨E.R, 0, none⟩)] m w fun x w' => x = .int .u64 0 ∧ BView E sent p v tl w' := by
  have T := termsB (E.cfg k FB PostA) sent
  co_apply Exists.intro
  intro v w hF
  obtain ⟨va, vc, rfl⟩ := hF.shape
  co_apply callsC_of_wpC Try.func33 (by rfl) rfl
  simp only [Try.ntmps33, List.size_toArray, List.length_cons, List.length_nil, Nat.reduceAdd, Nat.reduceSub, Array.replicate_succ, Array.replicate_zero, List.push_toArray, List.append_toArray, List.nil_append, List.cons_append]
  have hlt : ((p.length : Nat) : Int) < 4 := by omega
  co_stmt T (BView.rely O) hF (co_quiet T)
  co_apply wpC_seq (n₂ := 0) T
  co_apply wpC_seq T
  co_reg T
  co_op (BView.rely O) hF (co_quiet T)
  co_op (BView.rely O) hF (co_quiet T)
  co_op (BView.rely O) hF (co_quiet T)
  co_opw (BView.rely O) hF (have hc := hF.c0) (refine db_read ?_; co_evs (exact evR hF 0))
  co_op (BView.rely O) hF (co_quiet T)
  co_op (BView.rely O) hF (co_quiet T)
  co_apply opsC_nil T
  co_then
  co_apply wpC_cond T (t := true) rfl
  simp only [if_true]
  co_go T (BView.rely O) hF (co_quiet T)
  exact ⟨rfl, _, resultsC_tmp (by rfl) _, rfl, hF⟩
end
end Go.Proofs.Ytkaapaepanhbgaa
