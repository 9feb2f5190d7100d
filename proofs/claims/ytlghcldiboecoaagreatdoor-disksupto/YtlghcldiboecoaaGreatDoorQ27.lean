/- Lone memory and real memory: what the one tells of the other. -/
import Derived.Test.YtlghcldiboecoaaGreatDoorQ26
import Derived.Test.YtlghcldiboecoaaGreatDoorQ24
set_option linter.unusedVariables false
set_option linter.unusedSimpArgs false
namespace Go.Pair
open Go Go.Conc

def BsOf (Shun : Loc → Prop) : Nat → Prop := fun i => ∃ a : Addr, Shun (.cell a) ∧ a.block = i

def ShunT (ty : TypeId) (Shun : Loc → Prop) (w : World) : Prop := ∀ l, Shun l → ∃ a : Addr, l = .cell a ∧ ∃ c fz, w.heap[a.block]? = some (.cells c ty fz)

section
variable {Bs : Nat → Prop} {w v v' : World} {Shun : Loc → Prop} {ty : TypeId}

theorem ShunT.cells (h : ShunT ty Shun w) : ∀ i, BsOf Shun i → ∃ c e fz, w.heap[i]? = some (.cells c e fz) := by
  rintro i ⟨a, hs, rfl⟩
  obtain ⟨b, e, c, fz, hw⟩ := h _ hs
  cases e
  exact ⟨c, ty, fz, hw⟩

theorem shun_cell (a : Addr) (h : Shun (.cell a)) : BsOf Shun a.block := ⟨a, h, rfl⟩
theorem ShunT.obj (h : ShunT ty Shun w) (r : Nat) (hr : Shun (.obj r)) : BsOf Shun r := by
  obtain ⟨a, e, _⟩ := h _ hr
  cases e

theorem ShunT.not (h : ShunT ty Shun w) {i : Nat} {c : Array Value} {e : TypeId} {fz : Nat × Nat} (hw : w.heap[i]? = some (.cells c e fz)) (he : e ≠ ty) : ¬ BsOf Shun i := by
  rintro ⟨a, hs, rfl⟩
  obtain ⟨b, e', c', fz', hw'⟩ := h _ hs
  cases e'
  rw [hw] at hw'
  simp at hw'
  exact he hw'.2.1

theorem ShunT.kept {w' : World} (h : ShunT ty Shun w) (hk : Kept (BsOf Shun) w w') : ShunT ty Shun w' := by
  intro l hl
  obtain ⟨a, rfl, c, fz, hw⟩ := h l hl
  exact ⟨a, rfl, c, fz, (hk.keep _ ⟨a, hl, rfl⟩).trans hw⟩

theorem Sim.heap (h : Sim Bs w v) (h' : Sim Bs w v') : v.heap = v'.heap := by
  refine Array.ext_getElem? fun i => ?_
  rcases h.like i with ⟨hn, e, hk⟩ | ⟨hb, c, t, fz, hw, hv⟩ | ⟨hn, ⟨o, ho, hk⟩, hv⟩
  · rcases h'.like i with ⟨_, e', _⟩ | ⟨hb, _⟩ | ⟨_, ⟨o, ho, hk'⟩, _⟩
    · rw [e, e']
    · exact absurd hb hn
    · exact absurd (hk o ho) hk'
  · rcases h'.like i with ⟨hn, _⟩ | ⟨_, c', t', fz', hw', hv'⟩ | ⟨hn, _⟩
    · exact absurd hb hn
    · rw [hw] at hw'
      simp at hw'
      obtain ⟨rfl, rfl, rfl⟩ := hw'
      rw [hv, hv']
    · exact absurd hb hn
  · rcases h'.like i with ⟨_, _, hk'⟩ | ⟨hb, _⟩ | ⟨_, _, hv'⟩
    · exact absurd (hk' o ho) hk
    · exact absurd hb hn
    · rw [hv, hv']

theorem Sim.real (h : Sim (BsOf Shun) w v) (hS : ShunT ty Shun w) {i : Nat} {c : Array Value} {e : TypeId} {fz : Nat × Nat} (hv : v.heap[i]? = some (.cells c e fz)) (he : e ≠ ty) : w.heap[i]? = some (.cells c e fz) := by
  rcases h.like i with ⟨_, e1, _⟩ | ⟨⟨a, hs, rfl⟩, c', t, fz', hw, hv'⟩ | ⟨_, _, hv'⟩
  · rw [← e1]; exact hv
  · obtain ⟨b, e', c2, fz2, hw'⟩ := hS _ hs
    cases e'
    rw [hw] at hw'
    rw [hv] at hv'
    simp at hw' hv'
    exact absurd (hv'.2.1.trans hw'.2.1) he
  · rw [hv] at hv'
    simp [dead] at hv'

theorem Sim.lone (h : Sim (BsOf Shun) w v) (hS : ShunT ty Shun w) {i : Nat} {c : Array Value} {e : TypeId} {fz : Nat × Nat} (hw : w.heap[i]? = some (.cells c e fz)) (he : e ≠ ty) : v.heap[i]? = some (.cells c e fz) := by
  rcases h.like i with ⟨_, e1, _⟩ | ⟨hb, _⟩ | ⟨_, ⟨o, ho, hk⟩, _⟩
  · rw [e1]; exact hw
  · exact absurd hb (hS.not hw he)
  · rw [hw] at ho
    obtain rfl := Option.some.inj ho
    exact absurd trivial hk

end
end Go.Pair

/- Lone code beside leavers: the greater operations are tame. -/
namespace Go.Pair
open Go Go.Conc

section
variable {P : Program} {α β : Type} {Q : β → Prop} {A : Nat → Prop}

def F {α : Type} : α → Prop := fun _ => False

theorem T.shapeBind {r : Nat} {f : Option (TypeId × Nat) → Sem β} (hf : ∀ x, T P (f x)) (hi : ∀ e n, f (some (e, n)) = f (some (e, 0))) : T P (shape r >>= f) :=
  fun A => .inr ⟨fun x => hf x A, .inr (.inr hi)⟩

theorem T.getObjBind {r : Nat} {f : Obj → Sem β} (hf : ∀ x, T P (f x)) (hd : ∀ a t, Dooms P (fun _ => False) (f (.view a t))) : T P (getObj r >>= f) :=
  fun A => ⟨fun x => hf x A, .inl hd⟩

theorem T.getObjBind' {r : Nat} {f : Obj → Sem β} (hf : ∀ x, T P (f x)) (hd : ∀ o, ¬ okObj o → f o = f dead) : T P (getObj r >>= f) :=
  fun A => ⟨fun x => hf x A, .inr hd⟩

theorem T.numberAt (r : Nat) : T P (numberAt r) := by
  unfold Go.numberAt
  refine T.shapeBind (fun x => ?_) (fun e n => rfl)
  split
  · exact T.pure _
  · refine T.getObjBind' (fun o => ?_) (fun o ho => ?_)
    · cases o <;> exact T.pure _
    · cases o <;> first | rfl | exact absurd trivial ho

theorem T.behindNumber (a : Addr) : T P (behindNumber a) := T.then (T.numberAt _) fun _ => T.pure _
theorem T.asNumber (a : Addr) (l : Bool) : T P (asNumber a l) := T.then (T.newObj trivial) fun _ => T.pure _
theorem T.viewThen {r : Nat} {f : Option (Addr × TypeId) → Sem β} (hf : T P (f none)) (hd : ∀ x, Dooms P (fun _ => False) (f (some x))) (hs : ∀ x, T P (f (some x))) : T P (viewAt r >>= f) := by
  unfold Go.viewAt
  rw [bind_assoc]
  refine T.shapeBind (fun x => ?_) (fun e n => rfl)
  split
  · rw [pure_bind]; exact hf
  · rw [bind_assoc]
    refine T.getObjBind (fun o => ?_) (fun a t => ?_)
    · cases o <;> first | (rw [pure_bind]; exact hf) | (rw [pure_bind]; exact hs _)
    · exact hd _

theorem T.noView (a : Addr) : T P (noView a) := by
  unfold Go.noView
  refine T.viewThen ?_ (fun x => ?_) (fun x => ?_)
  · exact T.pure _
  · exact trivial
  · exact T.unsafeP _

theorem T.byteOf (a : Addr) : T P (byteOf a) := by
  unfold Go.byteOf
  split
  · exact T.pure _
  · refine T.then T.program fun p => T.then (T.noView _) fun _ => T.shapeBind (fun x => ?_) (fun e n => rfl)
    split
    · dsimp only
      split
      · exact T.pure _
      · split <;> first | exact T.pure _ | exact T.stuck _
    · exact T.stuck _

theorem T.partAt (a : Addr) (n m : Nat) : T P (partAt a n m) := by
  unfold Go.partAt
  exact T.then (T.byteOf _) fun _ => T.then (T.byteOf _) fun _ => T.pure _

theorem T.fieldPlace (a : Addr) (f : Field) : T P (fieldPlace a f) := by
  unfold Go.fieldPlace
  refine T.then (T.sizeOf _) fun n => ?_
  split
  · exact T.partAt _ _ _
  · exact T.pure _

theorem T.fieldAt (s : TypeId) (a : Value) (f : Nat) : T P (Instr.fieldAt s a f) := by
  unfold Instr.fieldAt
  refine T.then (T.underlying _) fun d => ?_
  split
  · split
    · exact T.then (T.sureAddr _) fun _ => T.then (T.fieldPlace _ _) fun _ => T.pure _
    · exact T.stuck _
  · exact T.stuck _

theorem T.twoPlaces (a b : Addr) : T P (Op.twoPlaces a b) := by
  unfold Op.twoPlaces
  repeat' first | (with_reducible first | exact T.pure _ | exact T.observed | exact T.program | exact T.byteOf _ | refine T.then ?_ (fun _ => ?_)) | dsimp only | split

theorem T.addrSub (k : IntKind) (a b : Addr) : T P (Op.addrSub k a b) := by
  unfold Op.addrSub
  exact T.then (T.twoPlaces _ _) fun _ => T.pure _

theorem T.addrCmp (op : BinOp) (a b : Addr) : T P (Op.addrCmp op a b) := by
  unfold Op.addrCmp
  refine T.then (T.twoPlaces _ _) fun x => ?_
  obtain ⟨x, y⟩ := x
  cases op <;> first | exact T.pure _ | exact T.observed

theorem T.addrMod (k : IntKind) (a : Addr) (n : Int) : T P (Op.addrMod k a n) := by
  unfold Op.addrMod
  refine T.shapeBind (fun x => ?_) (fun e n => rfl)
  repeat' first | (with_reducible first | exact T.pure _ | exact T.observed | exact T.typeInfo _ | exact T.byteOf _ | refine T.then ?_ (fun _ => ?_)) | dsimp only | split

theorem cellAtBytes_zero (d : Nat) (e : TypeId) (off : Nat) (n : Int) : cellAtBytes P d e 0 off n = none := by
  unfold cellAtBytes
  simp only [Nat.zero_mul]
  split
  · rfl
  · cases byteOfCell P d e (off % P.cellsOf e) with
    | none => rfl
    | some x =>
      simp only [Option.bind_eq_bind, Option.bind_some]
      split
      · rfl
      · rename_i h
        simp at h
        omega

theorem T.unsafeAdd (t : TypeId) (x y : Value) : T P (Builtin.unsafeAdd_ #[] t #[x, y]) := by
  unfold Builtin.unsafeAdd_
  cases x with
  | pointer ptr =>
    dsimp only
    refine T.then (T.asInt _) fun n => ?_
    cases ptr with
    | none => repeat' first | (with_reducible first | exact T.pure _ | exact T.unsafeP _ | refine T.then ?_ (fun _ => ?_)) | dsimp only | split
    | some a =>
      dsimp only
      have key : T P (do
          let some (e, cells) ← shape a.block | Go.unsupported (.unsafePointer "Add")
          let p ← Go.program
          match cellAtBytes p p.depth e (cells / p.cellsOf e) a.off n with
          | some off => Pure.pure (Value.pointer (some { a with off }))
          | none => Go.unsupported (.unsafePointer "Add")) := by
        refine fun A => .inr ⟨fun x => ?_, .inr (.inl fun e => ?_)⟩
        · refine (?_ : T P _) A
          dsimp only [Sem.bind]
          repeat' first | (with_reducible first | exact T.pure _ | exact T.unsafeP _ | exact T.program | refine T.then ?_ (fun _ => ?_)) | dsimp only | split
        · show Dooms P (fun _ => False) (match cellAtBytes P P.depth e (0 / P.cellsOf e) a.off n with | some off => _ | none => _)
          rw [Nat.zero_div, cellAtBytes_zero]
          exact trivial
      split
      · refine T.viewThen ?_ (fun x => ?_) (fun x => ?_)
        · exact T.pure _
        · exact trivial
        · exact T.then (T.unsafeP _) fun _ => T.pure _
      · split
        · exact T.then (T.unsafeP _) fun _ => key
        · exact key
  | _ => exact T.stuck _

theorem T.movedNumber (t : TypeId) (x y : Value) : T P (movedNumber t x y) := by
  unfold Go.movedNumber
  repeat' first | (with_reducible first | exact T.pure _ | exact T.underlying _ | exact T.unsafeP _ | exact T.behindNumber _ | exact T.unsafeAdd _ _ _ | exact T.asNumber _ _ | refine T.then ?_ (fun _ => ?_)) | dsimp only | split

theorem T.movedPointer (t : TypeId) (x y : Value) : T P (movedPointer t x y) := by
  unfold Go.movedPointer
  repeat' first | (with_reducible first | exact T.pure _ | exact T.numberAt _ | exact T.unsafeAdd _ _ _ | exact T.observed | refine T.then ?_ (fun _ => ?_)) | dsimp only | split

/-! ### loops -/
theorem T.listForIn {γ δ : Type} {f : γ → δ → Sem (ForInStep δ)} (h : ∀ x y, T P (f x y)) : ∀ (l : List γ) (b : δ), T P (forIn l b f)
  | [], b => by rw [List.forIn_nil]; exact T.pure _
  | x :: l, b => by
    rw [List.forIn_cons]
    refine T.then (h x b) fun s => ?_
    split
    · exact T.pure _
    · exact T.listForIn h l _

end
end Go.Pair

/- Lone code beside leavers: comparisons, arithmetic, conversions. -/
namespace Go.Pair
open Go Go.Conc

section
variable {P : Program} {α β : Type} {Q : β → Prop} {A : Nat → Prop}

theorem T.underlyingThen {t : TypeId} {f : TypeDesc → Sem β} (h : ∀ d, P.underlying t = some d → T P (f d)) : T P (Go.underlying t >>= f) := fun A => by
  show Tame P _ ((match P.underlying t with | some d => Pure.pure d | none => Go.stuck "no such type" : Sem TypeDesc).bind f) A
  cases hd : P.underlying t with
  | some d => exact h d hd A
  | none => exact .inl trivial

theorem T.listForInMem {γ δ : Type} {f : γ → δ → Sem (ForInStep δ)} : ∀ (l : List γ) (b : δ), (∀ x, x ∈ l → ∀ y, T P (f x y)) → T P (forIn l b f)
  | [], b, h => by rw [List.forIn_nil]; exact T.pure _
  | x :: l, b, h => by
    rw [List.forIn_cons]
    refine T.then (h x (by simp) b) fun s => ?_
    split
    · exact T.pure _
    · exact T.listForInMem l _ fun y hy => h y (by simp [hy])

theorem T.arrayForInMem {γ δ : Type} {f : γ → δ → Sem (ForInStep δ)} (l : Array γ) (b : δ) (h : ∀ x, x ∈ l → ∀ y, T P (f x y)) : T P (forIn l b f) := by
  rw [← Array.forIn_toList]
  exact T.listForInMem _ _ fun x hx => h x (by simpa using hx)

theorem T.rangeForIn {δ : Type} {f : Nat → δ → Sem (ForInStep δ)} (h : ∀ x y, T P (f x y)) (l : Std.Legacy.Range) (b : δ) : T P (forIn l b f) := by
  rw [Std.Legacy.Range.forIn_eq_forIn_range']
  exact T.listForIn h _ _

def eqTy (P : Program) : Nat → TypeId → Bool
  | 0, _ => false
  | n + 1, t => match P.underlying t with
    | some .bool => true
    | some (.int _) => true
    | some .string => true
    | some (.slice _) => true
    | some (.map _ _) => true
    | some (.func _ _ _) => true
    | some (.struct fs) => fs.all fun f => eqTy P n f.type
    | some (.array _ e) => eqTy P n e
    | _ => false

theorem T.equalIn : ∀ (n : Nat) (t : TypeId), eqTy P n t = true → ∀ (d : Nat) (x y : Value), T P (Op.equalIn d t x y) := by
  intro n
  induction n with
  | zero => intro t h; cases h
  | succ n ih =>
    intro t h d x y
    cases d with
    | zero => exact T.limit _
    | succ d =>
      unfold Op.equalIn
      refine T.underlyingThen fun u hu => ?_
      unfold eqTy at h
      rw [hu] at h
      cases u with
      | bool => split <;> first | contradiction | exact T.pure _ | exact T.stuck _
      | string => split <;> first | contradiction | exact T.pure _ | exact T.stuck _
      | slice e => split <;> first | contradiction | exact T.pure _ | exact T.stuck _
      | map k e => split <;> first | contradiction | exact T.pure _ | exact T.stuck _
      | func a b c => split <;> first | contradiction | exact T.pure _ | exact T.stuck _
      | int k =>
        split <;> first
          | contradiction
          | (repeat' first | (with_reducible first | exact T.pure _ | exact T.stuck _ | exact T.observed | exact T.behindNumber _ | exact T.program | exact T.byteOf _ | exact T.typeInfo _ | refine T.then ?_ (fun _ => ?_)) | dsimp only | split)
      | struct fs =>
        have hall : ∀ f, f ∈ fs → eqTy P n f.type = true := fun f hf => Array.all_eq_true_iff_forall_mem.1 (show (fs.all fun f => eqTy P n f.type) = true from h) f hf
        split <;> first
          | contradiction
          | exact T.stuck _
          | skip
        rename_i heq
        cases heq
        repeat' first | (with_reducible first | exact T.pure _ | exact T.stuck _ | exact T.noEntry _ | exact T.program | exact T.part _ _ _ | refine T.arrayForInMem _ _ (fun f hf r => ?_) | exact ih _ (hall _ (by assumption)) _ _ _ | refine T.then ?_ (fun _ => ?_)) | dsimp only | split
      | array k e =>
        split <;> first
          | contradiction
          | exact T.stuck _
          | skip
        rename_i heq
        cases heq
        repeat' first | (with_reducible first | exact T.pure _ | exact T.stuck _ | exact T.sizeOf _ | exact T.part _ _ _ | refine T.rangeForIn (fun f r => ?_) _ _ | exact ih _ h _ _ _ | refine T.then ?_ (fun _ => ?_)) | dsimp only | split
      | _ => cases h

theorem T.eqGuardIn : ∀ (d : Nat) (t : TypeId) (x y : Value), T P (Op.eqGuardIn d t x y) := by
  intro d
  induction d with
  | zero => exact fun _ _ _ => T.limit _
  | succ d ih =>
    intro t x y
    unfold Op.eqGuardIn
    repeat' first | (with_reducible first | exact T.pure _ | exact T.underlying _ | exact T.sizeOf _ | exact T.part _ _ _ | exact ih _ _ _ | refine T.rangeForIn (fun f r => ?_) _ _ | refine T.arrayForInMem _ _ (fun f hf r => ?_) | refine T.then ?_ (fun _ => ?_)) | dsimp only | split

theorem T.eqGuard (op : BinOp) (t : TypeId) (x y : Operand) (a b : Value) : T P (eqGuard op t x y a b) := by
  unfold Go.eqGuard
  repeat' first | (with_reducible first | exact T.pure _ | exact T.noEntry _ | exact T.program | exact T.eqGuardIn _ _ _ _ | refine T.then ?_ (fun _ => ?_)) | dsimp only | split

theorem T.floatArith (op : BinOp) (k : FloatKind) (x y : Nat) : T P (Op.floatArith op k x y) := by
  unfold Op.floatArith
  (repeat' first | (with_reducible first | exact T.pure _ | exact T.stuck _ | exact T.goPanic _ | exact T.runtimePanic _ | exact T.boundsPanic _ _ _ _ | exact T.noEntry _ | exact T.limit _ | exact T.observed | exact T.unsafeP _ | exact T.program | exact T.underlying _ | exact T.typeInfo _ | exact T.sizeOf _ | exact T.zeroValue _ | exact T.isAgg _ | exact T.loadVar _ _ | exact T.storeVar _ _ _ | exact T.loadCells _ _ | exact T.storeCells _ _ _ | exact T.load _ _ | exact T.store _ _ _ | exact T.newRow _ _ | exact T.newVar _ _ | exact T.part _ _ _ | exact T.asIntOf _ | exact T.asInt _ | exact T.asBool _ | exact T.asString _ | exact T.asAgg _ | exact T.asAddr _ | exact T.sureAddr _ | exact T.askRoom _ | exact T.choose _ | exact T.noRoom | assumption | refine T.arrayMapM (fun _ => ?_) _ | refine T.then ?_ (fun _ => ?_) | refine T.map _ ?_) | dsimp only | split)

theorem T.floatCmp (op : BinOp) (k : FloatKind) (x y : Nat) : T P (Op.floatCmp op k x y) := by
  unfold Op.floatCmp
  (repeat' first | (with_reducible first | exact T.pure _ | exact T.stuck _ | exact T.goPanic _ | exact T.runtimePanic _ | exact T.boundsPanic _ _ _ _ | exact T.noEntry _ | exact T.limit _ | exact T.observed | exact T.unsafeP _ | exact T.program | exact T.underlying _ | exact T.typeInfo _ | exact T.sizeOf _ | exact T.zeroValue _ | exact T.isAgg _ | exact T.loadVar _ _ | exact T.storeVar _ _ _ | exact T.loadCells _ _ | exact T.storeCells _ _ _ | exact T.load _ _ | exact T.store _ _ _ | exact T.newRow _ _ | exact T.newVar _ _ | exact T.part _ _ _ | exact T.asIntOf _ | exact T.asInt _ | exact T.asBool _ | exact T.asString _ | exact T.asAgg _ | exact T.asAddr _ | exact T.sureAddr _ | exact T.askRoom _ | exact T.choose _ | exact T.noRoom | assumption | refine T.arrayMapM (fun _ => ?_) _ | refine T.then ?_ (fun _ => ?_) | refine T.map _ ?_) | dsimp only | split)

theorem T.floatToFloat (k : FloatKind) (b : Nat) (d : FloatKind) : T P (Conv.floatToFloat k b d) := by
  unfold Conv.floatToFloat
  (repeat' first | (with_reducible first | exact T.pure _ | exact T.stuck _ | exact T.goPanic _ | exact T.runtimePanic _ | exact T.boundsPanic _ _ _ _ | exact T.noEntry _ | exact T.limit _ | exact T.observed | exact T.unsafeP _ | exact T.program | exact T.underlying _ | exact T.typeInfo _ | exact T.sizeOf _ | exact T.zeroValue _ | exact T.isAgg _ | exact T.loadVar _ _ | exact T.storeVar _ _ _ | exact T.loadCells _ _ | exact T.storeCells _ _ _ | exact T.load _ _ | exact T.store _ _ _ | exact T.newRow _ _ | exact T.newVar _ _ | exact T.part _ _ _ | exact T.asIntOf _ | exact T.asInt _ | exact T.asBool _ | exact T.asString _ | exact T.asAgg _ | exact T.asAddr _ | exact T.sureAddr _ | exact T.askRoom _ | exact T.choose _ | exact T.noRoom | assumption | refine T.arrayMapM (fun _ => ?_) _ | refine T.then ?_ (fun _ => ?_) | refine T.map _ ?_) | dsimp only | split)

theorem T.carith (op : BinOp) (k : FloatKind) (x y : Nat) : T P (Op.Complex.arith op k x y) := by
  unfold Op.Complex.arith
  refine T.then (T.floatArith _ _ _ _) fun v => ?_
  (repeat' first | (with_reducible first | exact T.pure _ | exact T.stuck _ | exact T.goPanic _ | exact T.runtimePanic _ | exact T.boundsPanic _ _ _ _ | exact T.noEntry _ | exact T.limit _ | exact T.observed | exact T.unsafeP _ | exact T.program | exact T.underlying _ | exact T.typeInfo _ | exact T.sizeOf _ | exact T.zeroValue _ | exact T.isAgg _ | exact T.loadVar _ _ | exact T.storeVar _ _ _ | exact T.loadCells _ _ | exact T.storeCells _ _ _ | exact T.load _ _ | exact T.store _ _ _ | exact T.newRow _ _ | exact T.newVar _ _ | exact T.part _ _ _ | exact T.asIntOf _ | exact T.asInt _ | exact T.asBool _ | exact T.asString _ | exact T.asAgg _ | exact T.asAddr _ | exact T.sureAddr _ | exact T.askRoom _ | exact T.choose _ | exact T.noRoom | assumption | refine T.arrayMapM (fun _ => ?_) _ | refine T.then ?_ (fun _ => ?_) | refine T.map _ ?_) | dsimp only | split)

theorem T.ccmp (op : BinOp) (k : FloatKind) (x y : Nat) : T P (Op.Complex.cmp op k x y) := by
  unfold Op.Complex.cmp
  exact T.then (T.floatCmp _ _ _ _) fun v => T.asBool _

theorem T.cconv (k : FloatKind) (x : Nat) (d : FloatKind) : T P (Op.Complex.conv k x d) := by
  unfold Op.Complex.conv
  split
  · exact T.pure _
  · refine T.then (T.floatToFloat _ _ _) fun v => ?_
    (repeat' first | (with_reducible first | exact T.pure _ | exact T.stuck _ | exact T.goPanic _ | exact T.runtimePanic _ | exact T.boundsPanic _ _ _ _ | exact T.noEntry _ | exact T.limit _ | exact T.observed | exact T.unsafeP _ | exact T.program | exact T.underlying _ | exact T.typeInfo _ | exact T.sizeOf _ | exact T.zeroValue _ | exact T.isAgg _ | exact T.loadVar _ _ | exact T.storeVar _ _ _ | exact T.loadCells _ _ | exact T.storeCells _ _ _ | exact T.load _ _ | exact T.store _ _ _ | exact T.newRow _ _ | exact T.newVar _ _ | exact T.part _ _ _ | exact T.asIntOf _ | exact T.asInt _ | exact T.asBool _ | exact T.asString _ | exact T.asAgg _ | exact T.asAddr _ | exact T.sureAddr _ | exact T.askRoom _ | exact T.choose _ | exact T.noRoom | assumption | refine T.arrayMapM (fun _ => ?_) _ | refine T.then ?_ (fun _ => ?_) | refine T.map _ ?_) | dsimp only | split)

theorem T.product (a b c d : Nat) : T P (Op.Complex.product a b c d) := by
  unfold Op.Complex.product Op.Complex.sub Op.Complex.mul Op.Complex.add
  repeat' first | exact T.carith _ _ _ _ | exact T.pure _ | refine T.then ?_ (fun _ => ?_)

theorem T.corrected (s a b c d : Nat) : T P (Op.Complex.corrected s a b c d) := by
  unfold Op.Complex.corrected Op.Complex.sub Op.Complex.mul Op.Complex.add
  repeat' first | exact T.carith _ _ _ _ | exact T.pure _ | refine T.then ?_ (fun _ => ?_)

theorem T.quotient (a b c d : Nat) : T P (Op.Complex.quotient a b c d) := by
  unfold Op.Complex.quotient Op.Complex.sub Op.Complex.mul Op.Complex.add Op.Complex.quo
  repeat' first | (with_reducible first | exact T.carith _ _ _ _ | exact T.ccmp _ _ _ _ | exact T.corrected _ _ _ _ _ | exact T.pure _ | refine T.then ?_ (fun _ => ?_)) | dsimp only | split

theorem T.complexOp (op : BinOp) (k : FloatKind) (a b c d : Nat) : T P (Op.complexOp op k a b c d) := by
  unfold Op.complexOp
  repeat' first | (with_reducible first | exact T.carith _ _ _ _ | exact T.ccmp _ _ _ _ | exact T.cconv _ _ _ | exact T.product _ _ _ _ | exact T.quotient _ _ _ _ | exact T.pure _ | exact T.stuck _ | refine T.then ?_ (fun _ => ?_)) | dsimp only | split

theorem T.stringOp (op : BinOp) (x y : ByteArray) : T P (Op.stringOp op x y) := by
  unfold Op.stringOp
  (repeat' first | (with_reducible first | exact T.pure _ | exact T.stuck _ | exact T.goPanic _ | exact T.runtimePanic _ | exact T.boundsPanic _ _ _ _ | exact T.noEntry _ | exact T.limit _ | exact T.observed | exact T.unsafeP _ | exact T.program | exact T.underlying _ | exact T.typeInfo _ | exact T.sizeOf _ | exact T.zeroValue _ | exact T.isAgg _ | exact T.loadVar _ _ | exact T.storeVar _ _ _ | exact T.loadCells _ _ | exact T.storeCells _ _ _ | exact T.load _ _ | exact T.store _ _ _ | exact T.newRow _ _ | exact T.newVar _ _ | exact T.part _ _ _ | exact T.asIntOf _ | exact T.asInt _ | exact T.asBool _ | exact T.asString _ | exact T.asAgg _ | exact T.asAddr _ | exact T.sureAddr _ | exact T.askRoom _ | exact T.choose _ | exact T.noRoom | assumption | refine T.arrayMapM (fun _ => ?_) _ | refine T.then ?_ (fun _ => ?_) | refine T.map _ ?_) | dsimp only | split)

theorem T.shift (op : BinOp) (k : IntKind) (x : Int) (l : IntKind) (y : Int) : T P (Op.shift op k x l y) := by
  unfold Op.shift
  (repeat' first | (with_reducible first | exact T.pure _ | exact T.stuck _ | exact T.goPanic _ | exact T.runtimePanic _ | exact T.boundsPanic _ _ _ _ | exact T.noEntry _ | exact T.limit _ | exact T.observed | exact T.unsafeP _ | exact T.program | exact T.underlying _ | exact T.typeInfo _ | exact T.sizeOf _ | exact T.zeroValue _ | exact T.isAgg _ | exact T.loadVar _ _ | exact T.storeVar _ _ _ | exact T.loadCells _ _ | exact T.storeCells _ _ _ | exact T.load _ _ | exact T.store _ _ _ | exact T.newRow _ _ | exact T.newVar _ _ | exact T.part _ _ _ | exact T.asIntOf _ | exact T.asInt _ | exact T.asBool _ | exact T.asString _ | exact T.asAgg _ | exact T.asAddr _ | exact T.sureAddr _ | exact T.askRoom _ | exact T.choose _ | exact T.noRoom | assumption | refine T.arrayMapM (fun _ => ?_) _ | refine T.then ?_ (fun _ => ?_) | refine T.map _ ?_) | dsimp only | split)

theorem T.intArith (op : BinOp) (k : IntKind) (x y : Int) : T P (Op.intArith op k x y) := by
  unfold Op.intArith
  (repeat' first | (with_reducible first | exact T.pure _ | exact T.stuck _ | exact T.goPanic _ | exact T.runtimePanic _ | exact T.boundsPanic _ _ _ _ | exact T.noEntry _ | exact T.limit _ | exact T.observed | exact T.unsafeP _ | exact T.program | exact T.underlying _ | exact T.typeInfo _ | exact T.sizeOf _ | exact T.zeroValue _ | exact T.isAgg _ | exact T.loadVar _ _ | exact T.storeVar _ _ _ | exact T.loadCells _ _ | exact T.storeCells _ _ _ | exact T.load _ _ | exact T.store _ _ _ | exact T.newRow _ _ | exact T.newVar _ _ | exact T.part _ _ _ | exact T.asIntOf _ | exact T.asInt _ | exact T.asBool _ | exact T.asString _ | exact T.asAgg _ | exact T.asAddr _ | exact T.sureAddr _ | exact T.askRoom _ | exact T.choose _ | exact T.noRoom | assumption | refine T.arrayMapM (fun _ => ?_) _ | refine T.then ?_ (fun _ => ?_) | refine T.map _ ?_) | dsimp only | split)

theorem T.intDiv (op : BinOp) (k : IntKind) (x y : Int) : T P (Op.intDiv op k x y) := by
  unfold Op.intDiv
  (repeat' first | (with_reducible first | exact T.pure _ | exact T.stuck _ | exact T.goPanic _ | exact T.runtimePanic _ | exact T.boundsPanic _ _ _ _ | exact T.noEntry _ | exact T.limit _ | exact T.observed | exact T.unsafeP _ | exact T.program | exact T.underlying _ | exact T.typeInfo _ | exact T.sizeOf _ | exact T.zeroValue _ | exact T.isAgg _ | exact T.loadVar _ _ | exact T.storeVar _ _ _ | exact T.loadCells _ _ | exact T.storeCells _ _ _ | exact T.load _ _ | exact T.store _ _ _ | exact T.newRow _ _ | exact T.newVar _ _ | exact T.part _ _ _ | exact T.asIntOf _ | exact T.asInt _ | exact T.asBool _ | exact T.asString _ | exact T.asAgg _ | exact T.asAddr _ | exact T.sureAddr _ | exact T.askRoom _ | exact T.choose _ | exact T.noRoom | assumption | refine T.arrayMapM (fun _ => ?_) _ | refine T.then ?_ (fun _ => ?_) | refine T.map _ ?_) | dsimp only | split)

theorem T.intBits (op : BinOp) (k : IntKind) (x y : Int) : T P (Op.intBits op k x y) := by
  unfold Op.intBits
  (repeat' first | (with_reducible first | exact T.pure _ | exact T.stuck _ | exact T.goPanic _ | exact T.runtimePanic _ | exact T.boundsPanic _ _ _ _ | exact T.noEntry _ | exact T.limit _ | exact T.observed | exact T.unsafeP _ | exact T.program | exact T.underlying _ | exact T.typeInfo _ | exact T.sizeOf _ | exact T.zeroValue _ | exact T.isAgg _ | exact T.loadVar _ _ | exact T.storeVar _ _ _ | exact T.loadCells _ _ | exact T.storeCells _ _ _ | exact T.load _ _ | exact T.store _ _ _ | exact T.newRow _ _ | exact T.newVar _ _ | exact T.part _ _ _ | exact T.asIntOf _ | exact T.asInt _ | exact T.asBool _ | exact T.asString _ | exact T.asAgg _ | exact T.asAddr _ | exact T.sureAddr _ | exact T.askRoom _ | exact T.choose _ | exact T.noRoom | assumption | refine T.arrayMapM (fun _ => ?_) _ | refine T.then ?_ (fun _ => ?_) | refine T.map _ ?_) | dsimp only | split)

theorem T.intCmp (op : BinOp) (x y : Int) : T P (Op.intCmp op x y) := by
  unfold Op.intCmp
  (repeat' first | (with_reducible first | exact T.pure _ | exact T.stuck _ | exact T.goPanic _ | exact T.runtimePanic _ | exact T.boundsPanic _ _ _ _ | exact T.noEntry _ | exact T.limit _ | exact T.observed | exact T.unsafeP _ | exact T.program | exact T.underlying _ | exact T.typeInfo _ | exact T.sizeOf _ | exact T.zeroValue _ | exact T.isAgg _ | exact T.loadVar _ _ | exact T.storeVar _ _ _ | exact T.loadCells _ _ | exact T.storeCells _ _ _ | exact T.load _ _ | exact T.store _ _ _ | exact T.newRow _ _ | exact T.newVar _ _ | exact T.part _ _ _ | exact T.asIntOf _ | exact T.asInt _ | exact T.asBool _ | exact T.asString _ | exact T.asAgg _ | exact T.asAddr _ | exact T.sureAddr _ | exact T.askRoom _ | exact T.choose _ | exact T.noRoom | assumption | refine T.arrayMapM (fun _ => ?_) _ | refine T.then ?_ (fun _ => ?_) | refine T.map _ ?_) | dsimp only | split)

theorem T.equalNil (t : TypeId) {e : TypeId} (ht : P.underlying t = some (.pointer e)) {x y : Value} (h : x = .pointer none ∨ y = .pointer none) : T P (Op.equal t x y) := by
  unfold Op.equal Op.maxDepth Op.equalIn
  refine T.underlyingThen fun u hu => ?_
  obtain rfl : u = .pointer e := Option.some.inj (hu.symm.trans ht)
  rcases h with rfl | rfl
  · cases y <;> first | exact T.stuck _ | exact T.pure _
  · cases x <;> first | exact T.stuck _ | skip
    rename_i a
    cases a <;> exact T.pure _

theorem T.binOp (op : BinOp) (t : TypeId) (x y : Value) (h : op = .eql ∨ op = .neq → T P (Op.equal t x y)) : T P (binOp op t x y) := by
  unfold Go.binOp
  repeat' first
    | (with_reducible first | exact T.shift _ _ _ _ _ | exact T.intArith _ _ _ _ | exact T.intDiv _ _ _ _ | exact T.intBits _ _ _ _ | exact T.intCmp _ _ _ | exact T.floatArith _ _ _ _ | exact T.floatCmp _ _ _ _ | exact T.complexOp _ _ _ _ _ _ | exact T.stringOp _ _ _ | exact h (.inl rfl) | exact h (.inr rfl) | exact T.underlying _ | exact T.movedPointer _ _ _ | exact T.movedNumber _ _ _ | exact T.behindNumber _ | exact T.addrSub _ _ _ | exact T.addrCmp _ _ _ | exact T.addrMod _ _ _ | exact T.observed | exact T.pure _ | exact T.stuck _ | refine T.then ?_ (fun _ => ?_))
    | dsimp only | split

theorem T.stringToBytes (e : TypeId) (s : ByteArray) : T P (Conv.stringToBytes e s) := by
  intro A n
  refine ⟨trivial, fun r => .inr ⟨fun x => ?_, .inl (.inr rfl)⟩⟩
  cases x with
  | none => exact trivial
  | some x => exact ⟨.inr rfl, trivial⟩

theorem T.bytesToString (x : Value) : T P (Conv.bytesToString x) := by
  unfold Conv.bytesToString
  repeat' first | (with_reducible first | exact T.pure _ | exact T.stuck _ | exact T.loadCells _ _ | refine T.arrayForInMem _ _ (fun f hf r => ?_) | refine T.then ?_ (fun _ => ?_)) | dsimp only | split

theorem T.floatToInt (k : FloatKind) (b : Nat) (d : IntKind) : T P (Conv.floatToInt k b d) := by
  unfold Conv.floatToInt
  (repeat' first | (with_reducible first | exact T.pure _ | exact T.stuck _ | exact T.goPanic _ | exact T.runtimePanic _ | exact T.boundsPanic _ _ _ _ | exact T.noEntry _ | exact T.limit _ | exact T.observed | exact T.unsafeP _ | exact T.program | exact T.underlying _ | exact T.typeInfo _ | exact T.sizeOf _ | exact T.zeroValue _ | exact T.isAgg _ | exact T.loadVar _ _ | exact T.storeVar _ _ _ | exact T.loadCells _ _ | exact T.storeCells _ _ _ | exact T.load _ _ | exact T.store _ _ _ | exact T.newRow _ _ | exact T.newVar _ _ | exact T.part _ _ _ | exact T.asIntOf _ | exact T.asInt _ | exact T.asBool _ | exact T.asString _ | exact T.asAgg _ | exact T.asAddr _ | exact T.sureAddr _ | exact T.askRoom _ | exact T.choose _ | exact T.noRoom | assumption | refine T.arrayMapM (fun _ => ?_) _ | refine T.then ?_ (fun _ => ?_) | refine T.map _ ?_) | dsimp only | split)

end
end Go.Pair
