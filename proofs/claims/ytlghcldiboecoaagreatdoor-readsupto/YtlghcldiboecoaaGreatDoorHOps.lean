/- Lone code beside leavers: the small operations are tame. -/
import Derived.Test.YtlghcldiboecoaaGreatDoorHLone
import Derived.Laws.Sem
set_option linter.unusedVariables false
set_option linter.unusedSimpArgs false
namespace Go.Pair
open Go Go.Conc

section
variable {P : Program} {α β : Type} {Q : β → Prop} {A : Nat → Prop}

/-- Tame, whatever came out, whatever was made. -/
def T (P : Program) {α : Type} (s : Sem α) : Prop := ∀ A, Tame P (fun _ => True) s A

theorem T.bind {s : Sem α} {f : α → Sem β} (h : T P s) (hf : ∀ a A, Tame P Q (f a) A) : Tame P Q (s >>= f) A := Tame.bind s (h A) fun a _ A' _ => hf a A'
theorem T.then {s : Sem α} {f : α → Sem β} (h : T P s) (hf : ∀ a, T P (f a)) : T P (s >>= f) := fun A => T.bind h fun a => hf a
theorem T.map {s : Sem α} (f : α → β) (h : T P s) : T P (f <$> s) := fun A => by
  have : f <$> s = s >>= fun a => pure (f a) := (bind_pure_comp f s).symm
  rw [this]
  exact T.bind h fun _ _ => trivial

theorem T.pure (a : α) : T P (pure a : Sem α) := fun _ => trivial
theorem T.stuck (s : String) : T P (stuck s : Sem α) := fun _ => .inl trivial
theorem T.unsupported {u : Unsupported} (h : ∀ g, u ≠ .initOrder g) : T P (unsupported u : Sem α) := fun _ => .inl (by cases u <;> first | trivial | exact absurd rfl (h _))
theorem T.noEntry (s : String) : T P (Go.unsupported (.noEntry s) : Sem α) := T.unsupported (by intro g h; cases h)
theorem T.limit (s : String) : T P (Go.unsupported (.resourceLimit s) : Sem α) := T.unsupported (by intro g h; cases h)
theorem T.observed : T P (Go.unsupported .addressObserved : Sem α) := T.unsupported (by intro g h; cases h)
theorem T.unsafeP (s : String) : T P (Go.unsupported (.unsafePointer s) : Sem α) := T.unsupported (by intro g h; cases h)
theorem T.goPanic (v : Value) : T P (goPanic v : Sem α) := fun _ => .inr ⟨v, rfl⟩
theorem T.program : T P (program) := fun _ => trivial
theorem T.load (a : Addr) (m : Mode) : T P (load a m) := fun _ _ => trivial
theorem T.store (a : Addr) (v : Value) (m : Mode) : T P (store a v m) := fun _ => trivial
theorem T.choose (q : Question) : T P (choose q) := fun _ _ => trivial
theorem T.noRoom : T P (mark .noRoom) := fun _ => ⟨rfl, trivial⟩
theorem T.newObj {o : Obj} (h : okObj o) : T P (newObj o) := fun _ => ⟨h, fun _ => trivial⟩
theorem T.newRow (e : TypeId) (c : Array Value) : T P (newRow e c) := T.then (T.newObj trivial) fun _ => T.pure _
theorem T.newVar (e : TypeId) (v : Value) : T P (newVar e v) := T.newRow _ _
theorem T.typeInfo (t : TypeId) : T P (typeInfo t) := T.then T.program fun p => by split <;> first | exact T.pure _ | exact T.stuck _
theorem T.underlying (t : TypeId) : T P (underlying t) := T.then T.program fun p => by split <;> first | exact T.pure _ | exact T.stuck _
theorem T.sizeOf (t : TypeId) : T P (sizeOf t) := T.then (T.typeInfo t) fun _ => T.pure _
theorem T.zeroValue (t : TypeId) : T P (zeroValue t) := T.then (T.typeInfo t) fun i => by split <;> first | exact T.pure _ | exact T.unsupported (by intro g h; cases h)
theorem T.isAgg (t : TypeId) : T P (isAgg t) := T.then (T.underlying t) fun d => by split <;> exact T.pure _
theorem T.elemOf (t : TypeId) : T P (elemOf t) := T.then (T.underlying t) fun d => by split <;> first | exact T.pure _ | exact T.stuck _
theorem T.runtimePanic (e : RuntimeError) : T P (runtimePanic e : Sem α) := by
  unfold Go.runtimePanic
  refine T.then T.program fun p => ?_
  split
  all_goals first
    | exact T.goPanic _
    | exact T.then (T.elemOf _) fun _ => T.then (T.newVar _ _) fun _ => T.goPanic _

theorem T.loadCellsFrom (a : Addr) : ∀ (n i : Nat) (acc : Array Value), T P (loadCellsFrom a i n acc)
  | 0, _, _ => T.pure _
  | n + 1, _, _ => T.then (T.load _ _) fun _ => T.loadCellsFrom a n _ _

theorem T.loadCells (a : Addr) (n : Nat) : T P (loadCells a n) := T.loadCellsFrom a n 0 #[]
theorem T.storeCells (a : Addr) : ∀ (vs : List Value) (i : Nat), T P (storeCells a vs i)
  | [], _ => T.pure _
  | _ :: vs, _ => T.then (T.store _ _ _) fun _ => T.storeCells a vs _

theorem T.loadVar (t : TypeId) (a : Addr) : T P (loadVar t a) := T.then (T.isAgg t) fun b => by
  split
  · exact T.then (T.sizeOf _) fun _ => T.then (T.loadCells _ _) fun _ => T.pure _
  · exact T.load _ _

theorem T.storeVar (t : TypeId) (a : Addr) (v : Value) : T P (storeVar t a v) := T.then (T.sizeOf t) fun n => by
  split
  · exact T.then (T.stuck _) fun _ => T.storeCells _ _ _
  · exact T.then (T.pure _) fun _ => T.storeCells _ _ _

theorem T.part (t : TypeId) (cs : Array Value) (off : Nat) : T P (part t cs off) := T.then (T.isAgg t) fun b => by
  split
  · exact T.then (T.sizeOf _) fun _ => T.pure _
  · split <;> first | exact T.pure _ | exact T.stuck _

theorem T.asIntOf (v : Value) : T P (asIntOf v) := by
  unfold Go.asIntOf
  split <;> first | exact T.pure _ | exact T.stuck _ | exact T.unsupported (by intro g h; cases h)

theorem T.asInt (v : Value) : T P (asInt v) := T.then (T.asIntOf v) fun _ => T.pure _
theorem T.asBool (v : Value) : T P (asBool v) := by unfold Go.asBool; split <;> first | exact T.pure _ | exact T.stuck _
theorem T.asAgg (v : Value) : T P (asAgg v) := by unfold Go.asAgg; split <;> first | exact T.pure _ | exact T.stuck _
theorem T.asAddr (v : Value) : T P (asAddr v) := by unfold Go.asAddr; split <;> first | exact T.pure _ | exact T.stuck _ | exact T.runtimePanic _
theorem T.sureAddr (v : Value) : T P (Instr.sureAddr v) := by unfold Instr.sureAddr; split <;> first | exact T.pure _ | exact T.stuck _
theorem T.boundsPanic (k : IntKind) (x y : Int) (c : BoundsCode) : T P (boundsPanic k x y c : Sem α) := by
  unfold Go.boundsPanic
  split
  · exact T.then (T.map _ (T.choose _)) fun _ => T.runtimePanic _
  · exact T.then (T.pure _) fun _ => T.runtimePanic _

theorem T.askRoom (n : Nat) : T P (askRoom n) := by unfold Go.askRoom; split <;> first | exact T.noRoom | exact T.pure _
theorem T.listMapM {γ δ : Type} {f : γ → Sem δ} (h : ∀ x, T P (f x)) : ∀ l : List γ, T P (l.mapM f)
  | [] => by rw [List.mapM_nil]; exact T.pure _
  | x :: l => by rw [List.mapM_cons]; exact T.then (h x) fun _ => T.then (T.listMapM h l) fun _ => T.pure _

theorem T.arrayMapM {γ δ : Type} {f : γ → Sem δ} (h : ∀ x, T P (f x)) (l : Array γ) : T P (l.mapM f) := by
  rw [Array.mapM_eq_mapM_toList]
  exact T.map _ (T.listMapM h _)

theorem T.results (fn : Func) (tmps : Array Value) : T P (results fn tmps) := by
  unfold Go.results
  refine T.then (T.arrayMapM (fun x => ?_) _) fun _ => T.pure _
  split
  · exact T.pure _
  · exact T.then (T.asAddr _) fun _ => T.loadVar _ _

/-! ### the operations -/

/-- A value. -/
theorem T.val {S : FuncId → Prop} {s : Sem Value} (h : T P s) : Tame P (OkN S) (s >>= fun x => Pure.pure (Next.value x)) A := T.bind h fun _ _ => trivial

theorem T.unit {S : FuncId → Prop} {s : Sem Unit} (h : T P s) : Tame P (OkN S) (s >>= fun _ => Pure.pure Next.skip) A := T.bind h fun _ _ => trivial

theorem T.alloc (e : TypeId) (b : Bool) (v : Value) : T P (Instr.alloc e b v) := by
  unfold Instr.alloc
  (repeat' first | (with_reducible first | exact T.pure _ | exact T.stuck _ | exact T.goPanic _ | exact T.runtimePanic _ | exact T.boundsPanic _ _ _ _ | exact T.noEntry _ | exact T.limit _ | exact T.observed | exact T.unsafeP _ | exact T.program | exact T.underlying _ | exact T.typeInfo _ | exact T.sizeOf _ | exact T.zeroValue _ | exact T.isAgg _ | exact T.loadVar _ _ | exact T.storeVar _ _ _ | exact T.loadCells _ _ | exact T.storeCells _ _ _ | exact T.load _ _ | exact T.store _ _ _ | exact T.newRow _ _ | exact T.newVar _ _ | exact T.part _ _ _ | exact T.asIntOf _ | exact T.asInt _ | exact T.asBool _ | exact T.asString _ | exact T.asAgg _ | exact T.asAddr _ | exact T.sureAddr _ | exact T.askRoom _ | exact T.choose _ | exact T.noRoom | assumption | refine T.arrayMapM (fun _ => ?_) _ | refine T.then ?_ (fun _ => ?_) | refine T.map _ ?_) | dsimp only | split)

theorem T.box (e : TypeId) (v : Value) : T P (Instr.box e v) := by
  unfold Instr.box
  (repeat' first | (with_reducible first | exact T.pure _ | exact T.stuck _ | exact T.goPanic _ | exact T.runtimePanic _ | exact T.boundsPanic _ _ _ _ | exact T.noEntry _ | exact T.limit _ | exact T.observed | exact T.unsafeP _ | exact T.program | exact T.underlying _ | exact T.typeInfo _ | exact T.sizeOf _ | exact T.zeroValue _ | exact T.isAgg _ | exact T.loadVar _ _ | exact T.storeVar _ _ _ | exact T.loadCells _ _ | exact T.storeCells _ _ _ | exact T.load _ _ | exact T.store _ _ _ | exact T.newRow _ _ | exact T.newVar _ _ | exact T.part _ _ _ | exact T.asIntOf _ | exact T.asInt _ | exact T.asBool _ | exact T.asString _ | exact T.asAgg _ | exact T.asAddr _ | exact T.sureAddr _ | exact T.askRoom _ | exact T.choose _ | exact T.noRoom | assumption | refine T.arrayMapM (fun _ => ?_) _ | refine T.then ?_ (fun _ => ?_) | refine T.map _ ?_) | dsimp only | split)

theorem T.build (t : TypeId) (ps : Array (Nat × Value)) : T P (Instr.build t ps) := by
  unfold Instr.build
  (repeat' first | (with_reducible first | exact T.pure _ | exact T.stuck _ | exact T.goPanic _ | exact T.runtimePanic _ | exact T.boundsPanic _ _ _ _ | exact T.noEntry _ | exact T.limit _ | exact T.observed | exact T.unsafeP _ | exact T.program | exact T.underlying _ | exact T.typeInfo _ | exact T.sizeOf _ | exact T.zeroValue _ | exact T.isAgg _ | exact T.loadVar _ _ | exact T.storeVar _ _ _ | exact T.loadCells _ _ | exact T.storeCells _ _ _ | exact T.load _ _ | exact T.store _ _ _ | exact T.newRow _ _ | exact T.newVar _ _ | exact T.part _ _ _ | exact T.asIntOf _ | exact T.asInt _ | exact T.asBool _ | exact T.asString _ | exact T.asAgg _ | exact T.asAddr _ | exact T.sureAddr _ | exact T.askRoom _ | exact T.choose _ | exact T.noRoom | assumption | refine T.arrayMapM (fun _ => ?_) _ | refine T.then ?_ (fun _ => ?_) | refine T.map _ ?_) | dsimp only | split)

theorem T.buildSlice (t : TypeId) (n : Nat) (ps : Array (Nat × Value)) : T P (Instr.buildSlice t n ps) := by
  unfold Instr.buildSlice
  (repeat' first | (with_reducible first | exact T.pure _ | exact T.stuck _ | exact T.goPanic _ | exact T.runtimePanic _ | exact T.boundsPanic _ _ _ _ | exact T.noEntry _ | exact T.limit _ | exact T.observed | exact T.unsafeP _ | exact T.program | exact T.underlying _ | exact T.typeInfo _ | exact T.sizeOf _ | exact T.zeroValue _ | exact T.isAgg _ | exact T.loadVar _ _ | exact T.storeVar _ _ _ | exact T.loadCells _ _ | exact T.storeCells _ _ _ | exact T.load _ _ | exact T.store _ _ _ | exact T.newRow _ _ | exact T.newVar _ _ | exact T.part _ _ _ | exact T.asIntOf _ | exact T.asInt _ | exact T.asBool _ | exact T.asString _ | exact T.asAgg _ | exact T.asAddr _ | exact T.sureAddr _ | exact T.askRoom _ | exact T.choose _ | exact T.noRoom | assumption | refine T.arrayMapM (fun _ => ?_) _ | refine T.then ?_ (fun _ => ?_) | refine T.map _ ?_) | dsimp only | split)

theorem T.loadAt (t : TypeId) (a : Value) : T P (Instr.loadAt t a) := by
  unfold Instr.loadAt
  (repeat' first | (with_reducible first | exact T.pure _ | exact T.stuck _ | exact T.goPanic _ | exact T.runtimePanic _ | exact T.boundsPanic _ _ _ _ | exact T.noEntry _ | exact T.limit _ | exact T.observed | exact T.unsafeP _ | exact T.program | exact T.underlying _ | exact T.typeInfo _ | exact T.sizeOf _ | exact T.zeroValue _ | exact T.isAgg _ | exact T.loadVar _ _ | exact T.storeVar _ _ _ | exact T.loadCells _ _ | exact T.storeCells _ _ _ | exact T.load _ _ | exact T.store _ _ _ | exact T.newRow _ _ | exact T.newVar _ _ | exact T.part _ _ _ | exact T.asIntOf _ | exact T.asInt _ | exact T.asBool _ | exact T.asString _ | exact T.asAgg _ | exact T.asAddr _ | exact T.sureAddr _ | exact T.askRoom _ | exact T.choose _ | exact T.noRoom | assumption | refine T.arrayMapM (fun _ => ?_) _ | refine T.then ?_ (fun _ => ?_) | refine T.map _ ?_) | dsimp only | split)

theorem T.storeAt (t : TypeId) (a x : Value) : T P (Instr.storeAt t a x) := by
  unfold Instr.storeAt
  (repeat' first | (with_reducible first | exact T.pure _ | exact T.stuck _ | exact T.goPanic _ | exact T.runtimePanic _ | exact T.boundsPanic _ _ _ _ | exact T.noEntry _ | exact T.limit _ | exact T.observed | exact T.unsafeP _ | exact T.program | exact T.underlying _ | exact T.typeInfo _ | exact T.sizeOf _ | exact T.zeroValue _ | exact T.isAgg _ | exact T.loadVar _ _ | exact T.storeVar _ _ _ | exact T.loadCells _ _ | exact T.storeCells _ _ _ | exact T.load _ _ | exact T.store _ _ _ | exact T.newRow _ _ | exact T.newVar _ _ | exact T.part _ _ _ | exact T.asIntOf _ | exact T.asInt _ | exact T.asBool _ | exact T.asString _ | exact T.asAgg _ | exact T.asAddr _ | exact T.sureAddr _ | exact T.askRoom _ | exact T.choose _ | exact T.noRoom | assumption | refine T.arrayMapM (fun _ => ?_) _ | refine T.then ?_ (fun _ => ?_) | refine T.map _ ?_) | dsimp only | split)

theorem T.indexAt (t : TypeId) (x i : Value) : T P (Instr.indexAt t x i) := by
  unfold Instr.indexAt
  (repeat' first | (with_reducible first | exact T.pure _ | exact T.stuck _ | exact T.goPanic _ | exact T.runtimePanic _ | exact T.boundsPanic _ _ _ _ | exact T.noEntry _ | exact T.limit _ | exact T.observed | exact T.unsafeP _ | exact T.program | exact T.underlying _ | exact T.typeInfo _ | exact T.sizeOf _ | exact T.zeroValue _ | exact T.isAgg _ | exact T.loadVar _ _ | exact T.storeVar _ _ _ | exact T.loadCells _ _ | exact T.storeCells _ _ _ | exact T.load _ _ | exact T.store _ _ _ | exact T.newRow _ _ | exact T.newVar _ _ | exact T.part _ _ _ | exact T.asIntOf _ | exact T.asInt _ | exact T.asBool _ | exact T.asString _ | exact T.asAgg _ | exact T.asAddr _ | exact T.sureAddr _ | exact T.askRoom _ | exact T.choose _ | exact T.noRoom | assumption | refine T.arrayMapM (fun _ => ?_) _ | refine T.then ?_ (fun _ => ?_) | refine T.map _ ?_) | dsimp only | split)

theorem T.index (t : TypeId) (x i : Value) : T P (Instr.index t x i) := by
  unfold Instr.index
  (repeat' first | (with_reducible first | exact T.pure _ | exact T.stuck _ | exact T.goPanic _ | exact T.runtimePanic _ | exact T.boundsPanic _ _ _ _ | exact T.noEntry _ | exact T.limit _ | exact T.observed | exact T.unsafeP _ | exact T.program | exact T.underlying _ | exact T.typeInfo _ | exact T.sizeOf _ | exact T.zeroValue _ | exact T.isAgg _ | exact T.loadVar _ _ | exact T.storeVar _ _ _ | exact T.loadCells _ _ | exact T.storeCells _ _ _ | exact T.load _ _ | exact T.store _ _ _ | exact T.newRow _ _ | exact T.newVar _ _ | exact T.part _ _ _ | exact T.asIntOf _ | exact T.asInt _ | exact T.asBool _ | exact T.asString _ | exact T.asAgg _ | exact T.asAddr _ | exact T.sureAddr _ | exact T.askRoom _ | exact T.choose _ | exact T.noRoom | assumption | refine T.arrayMapM (fun _ => ?_) _ | refine T.then ?_ (fun _ => ?_) | refine T.map _ ?_) | dsimp only | split)

theorem T.sliceBound (x : Value) (y : Nat) (c : BoundsCode) : T P (Instr.sliceBound x y c) := by
  unfold Instr.sliceBound
  (repeat' first | (with_reducible first | exact T.pure _ | exact T.stuck _ | exact T.goPanic _ | exact T.runtimePanic _ | exact T.boundsPanic _ _ _ _ | exact T.noEntry _ | exact T.limit _ | exact T.observed | exact T.unsafeP _ | exact T.program | exact T.underlying _ | exact T.typeInfo _ | exact T.sizeOf _ | exact T.zeroValue _ | exact T.isAgg _ | exact T.loadVar _ _ | exact T.storeVar _ _ _ | exact T.loadCells _ _ | exact T.storeCells _ _ _ | exact T.load _ _ | exact T.store _ _ _ | exact T.newRow _ _ | exact T.newVar _ _ | exact T.part _ _ _ | exact T.asIntOf _ | exact T.asInt _ | exact T.asBool _ | exact T.asString _ | exact T.asAgg _ | exact T.asAddr _ | exact T.sureAddr _ | exact T.askRoom _ | exact T.choose _ | exact T.noRoom | assumption | refine T.arrayMapM (fun _ => ?_) _ | refine T.then ?_ (fun _ => ?_) | refine T.map _ ?_) | dsimp only | split)

theorem T.sliceBounds (b : Bool) (l c : Nat) (lo hi mx : Option Value) : T P (Instr.sliceBounds b l c lo hi mx) := by
  unfold Instr.sliceBounds
  repeat' first | (with_reducible first | exact T.sliceBound _ _ _ | exact T.pure _ | exact T.stuck _ | refine T.then ?_ (fun _ => ?_)) | dsimp only | split

theorem T.slice (t : TypeId) (x : Value) (lo hi mx : Option Value) : T P (Instr.slice t x lo hi mx) := by
  unfold Instr.slice
  repeat' first | (with_reducible first | exact T.sliceBounds _ _ _ _ _ _ | exact T.pure _ | exact T.stuck _ | exact T.underlying _ | exact T.sizeOf _ | exact T.asAddr _ | refine T.then ?_ (fun _ => ?_)) | dsimp only | split

theorem T.sliceAt (t : TypeId) (x : Value) (lo hi mx : Option Value) : T P (Instr.sliceAt t x lo hi mx) := by
  unfold Instr.sliceAt
  repeat' first | (with_reducible first | exact T.sliceBounds _ _ _ _ _ _ | exact T.slice _ _ _ _ _ | exact T.pure _ | exact T.stuck _ | exact T.underlying _ | exact T.sizeOf _ | exact T.sureAddr _ | refine T.then ?_ (fun _ => ?_)) | dsimp only | split

theorem T.makeSlice (t : TypeId) (l c : Value) : T P (Instr.makeSlice t l c) := by
  unfold Instr.makeSlice
  (repeat' first | (with_reducible first | exact T.pure _ | exact T.stuck _ | exact T.goPanic _ | exact T.runtimePanic _ | exact T.boundsPanic _ _ _ _ | exact T.noEntry _ | exact T.limit _ | exact T.observed | exact T.unsafeP _ | exact T.program | exact T.underlying _ | exact T.typeInfo _ | exact T.sizeOf _ | exact T.zeroValue _ | exact T.isAgg _ | exact T.loadVar _ _ | exact T.storeVar _ _ _ | exact T.loadCells _ _ | exact T.storeCells _ _ _ | exact T.load _ _ | exact T.store _ _ _ | exact T.newRow _ _ | exact T.newVar _ _ | exact T.part _ _ _ | exact T.asIntOf _ | exact T.asInt _ | exact T.asBool _ | exact T.asString _ | exact T.asAgg _ | exact T.asAddr _ | exact T.sureAddr _ | exact T.askRoom _ | exact T.choose _ | exact T.noRoom | assumption | refine T.arrayMapM (fun _ => ?_) _ | refine T.then ?_ (fun _ => ?_) | refine T.map _ ?_) | dsimp only | split)

theorem T.extract (x : Value) (i : Nat) : T P (Instr.extract x i) := by
  unfold Instr.extract
  (repeat' first | (with_reducible first | exact T.pure _ | exact T.stuck _ | exact T.goPanic _ | exact T.runtimePanic _ | exact T.boundsPanic _ _ _ _ | exact T.noEntry _ | exact T.limit _ | exact T.observed | exact T.unsafeP _ | exact T.program | exact T.underlying _ | exact T.typeInfo _ | exact T.sizeOf _ | exact T.zeroValue _ | exact T.isAgg _ | exact T.loadVar _ _ | exact T.storeVar _ _ _ | exact T.loadCells _ _ | exact T.storeCells _ _ _ | exact T.load _ _ | exact T.store _ _ _ | exact T.newRow _ _ | exact T.newVar _ _ | exact T.part _ _ _ | exact T.asIntOf _ | exact T.asInt _ | exact T.asBool _ | exact T.asString _ | exact T.asAgg _ | exact T.asAddr _ | exact T.sureAddr _ | exact T.askRoom _ | exact T.choose _ | exact T.noRoom | assumption | refine T.arrayMapM (fun _ => ?_) _ | refine T.then ?_ (fun _ => ?_) | refine T.map _ ?_) | dsimp only | split)

theorem T.field (t : TypeId) (x : Value) (i : Nat) : T P (Instr.field t x i) := by
  unfold Instr.field
  (repeat' first | (with_reducible first | exact T.pure _ | exact T.stuck _ | exact T.goPanic _ | exact T.runtimePanic _ | exact T.boundsPanic _ _ _ _ | exact T.noEntry _ | exact T.limit _ | exact T.observed | exact T.unsafeP _ | exact T.program | exact T.underlying _ | exact T.typeInfo _ | exact T.sizeOf _ | exact T.zeroValue _ | exact T.isAgg _ | exact T.loadVar _ _ | exact T.storeVar _ _ _ | exact T.loadCells _ _ | exact T.storeCells _ _ _ | exact T.load _ _ | exact T.store _ _ _ | exact T.newRow _ _ | exact T.newVar _ _ | exact T.part _ _ _ | exact T.asIntOf _ | exact T.asInt _ | exact T.asBool _ | exact T.asString _ | exact T.asAgg _ | exact T.asAddr _ | exact T.sureAddr _ | exact T.askRoom _ | exact T.choose _ | exact T.noRoom | assumption | refine T.arrayMapM (fun _ => ?_) _ | refine T.then ?_ (fun _ => ?_) | refine T.map _ ?_) | dsimp only | split)

theorem T.makeFunc (f : Fn) (a b : Array Value) : T P (Instr.makeFunc f a b) := T.pure _
theorem T.unary (op : UnOp) (x : Value) : T P (Op.unary op x) := by
  unfold Op.unary Op.intArith Op.intBits
  (repeat' first | (with_reducible first | exact T.pure _ | exact T.stuck _ | exact T.goPanic _ | exact T.runtimePanic _ | exact T.boundsPanic _ _ _ _ | exact T.noEntry _ | exact T.limit _ | exact T.observed | exact T.unsafeP _ | exact T.program | exact T.underlying _ | exact T.typeInfo _ | exact T.sizeOf _ | exact T.zeroValue _ | exact T.isAgg _ | exact T.loadVar _ _ | exact T.storeVar _ _ _ | exact T.loadCells _ _ | exact T.storeCells _ _ _ | exact T.load _ _ | exact T.store _ _ _ | exact T.newRow _ _ | exact T.newVar _ _ | exact T.part _ _ _ | exact T.asIntOf _ | exact T.asInt _ | exact T.asBool _ | exact T.asString _ | exact T.asAgg _ | exact T.asAddr _ | exact T.sureAddr _ | exact T.askRoom _ | exact T.choose _ | exact T.noRoom | assumption | refine T.arrayMapM (fun _ => ?_) _ | refine T.then ?_ (fun _ => ?_) | refine T.map _ ?_) | dsimp only | split)

theorem T.lenOf (x : Value) : T P (Builtin.lenOf x) := by
  unfold Builtin.lenOf
  (repeat' first | (with_reducible first | exact T.pure _ | exact T.stuck _ | exact T.goPanic _ | exact T.runtimePanic _ | exact T.boundsPanic _ _ _ _ | exact T.noEntry _ | exact T.limit _ | exact T.observed | exact T.unsafeP _ | exact T.program | exact T.underlying _ | exact T.typeInfo _ | exact T.sizeOf _ | exact T.zeroValue _ | exact T.isAgg _ | exact T.loadVar _ _ | exact T.storeVar _ _ _ | exact T.loadCells _ _ | exact T.storeCells _ _ _ | exact T.load _ _ | exact T.store _ _ _ | exact T.newRow _ _ | exact T.newVar _ _ | exact T.part _ _ _ | exact T.asIntOf _ | exact T.asInt _ | exact T.asBool _ | exact T.asString _ | exact T.asAgg _ | exact T.asAddr _ | exact T.sureAddr _ | exact T.askRoom _ | exact T.choose _ | exact T.noRoom | assumption | refine T.arrayMapM (fun _ => ?_) _ | refine T.then ?_ (fun _ => ?_) | refine T.map _ ?_) | dsimp only | split)

theorem T.firstCells (s n : Nat) (x : Value) : T P (Builtin.firstCells s n x) := by
  unfold Builtin.firstCells
  (repeat' first | (with_reducible first | exact T.pure _ | exact T.stuck _ | exact T.goPanic _ | exact T.runtimePanic _ | exact T.boundsPanic _ _ _ _ | exact T.noEntry _ | exact T.limit _ | exact T.observed | exact T.unsafeP _ | exact T.program | exact T.underlying _ | exact T.typeInfo _ | exact T.sizeOf _ | exact T.zeroValue _ | exact T.isAgg _ | exact T.loadVar _ _ | exact T.storeVar _ _ _ | exact T.loadCells _ _ | exact T.storeCells _ _ _ | exact T.load _ _ | exact T.store _ _ _ | exact T.newRow _ _ | exact T.newVar _ _ | exact T.part _ _ _ | exact T.asIntOf _ | exact T.asInt _ | exact T.asBool _ | exact T.asString _ | exact T.asAgg _ | exact T.asAddr _ | exact T.sureAddr _ | exact T.askRoom _ | exact T.choose _ | exact T.noRoom | assumption | refine T.arrayMapM (fun _ => ?_) _ | refine T.then ?_ (fun _ => ?_) | refine T.map _ ?_) | dsimp only | split)

theorem T.copy (ts : Array TypeId) (t : TypeId) (xs : Array Value) : T P (Builtin.copy_ ts t xs) := by
  unfold Builtin.copy_
  repeat' first | (with_reducible first | exact T.pure _ | exact T.stuck _ | exact T.underlying _ | exact T.sizeOf _ | exact T.lenOf _ | exact T.firstCells _ _ _ | exact T.storeCells _ _ _ | refine T.then ?_ (fun _ => ?_)) | dsimp only | split

end
end Go.Pair
