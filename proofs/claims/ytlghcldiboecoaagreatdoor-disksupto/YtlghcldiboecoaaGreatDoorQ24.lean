/- Lone code beside leavers: the small operations are tame. -/
import Derived.Test.YtlghcldiboecoaaGreatDoorQ23
import Derived.Laws.Sem
set_option linter.unusedVariables false
set_option linter.unusedSimpArgs false
namespace Go.Pair
open Go Go.Conc

section
variable {P : Program} {α β : Type} {Q : β → Prop} {A : Nat → Prop}

def T (P : Program) {α : Type} (s : Sem α) : Prop := ∀ A, Tame P (fun _ => True) s A

theorem T.bind {s : Sem α} {f : α → Sem β} (h : T P s) (hf : ∀ a A, Tame P Q (f a) A) : Tame P Q (s >>= f) A := Tame.bind s (h A) fun a _ A' _ => hf a A'
theorem T.then {s : Sem α} {f : α → Sem β} (h : T P s) (hf : ∀ a, T P (f a)) : T P (s >>= f) := fun A => T.bind h fun a => hf a
theorem T.map {s : Sem α} (f : α → β) (h : T P s) : T P (f <$> s) := fun A => by
  have : f <$> s = s >>= fun a => pure (f a) := (bind_pure_comp f s).symm
  rw [this]
  exact T.bind h fun _ _ => trivial

theorem T.pure (a : α) : T P (pure a : Sem α) := fun _ => trivial
theorem T.stuck (s : String) : T P (stuck s : Sem α) := fun _ => .inl trivial
theorem T.unsupported {u : Unsupported} (h : ∀ g, u ≠ .initOrder g) : T P (unsupported u : Sem α) := fun _ => .inl (by cases u <;> first | trivial | exact absurd rfl (h _))
theorem T.noEntry (s : String) : T P (Go.unsupported (.noEntry s) : Sem α) := T.unsupported (by intro g h; cases h)
theorem T.limit (s : String) : T P (Go.unsupported (.resourceLimit s) : Sem α) := T.unsupported (by intro g h; cases h)
theorem T.observed : T P (Go.unsupported .addressObserved : Sem α) := T.unsupported (by intro g h; cases h)
theorem T.unsafeP (s : String) : T P (Go.unsupported (.unsafePointer s) : Sem α) := T.unsupported (by intro g h; cases h)
theorem T.goPanic (v : Value) : T P (goPanic v : Sem α) := fun _ => .inr ⟨v, rfl⟩
theorem T.program : T P (program) := fun _ => trivial
theorem T.load (a : Addr) (m : Mode) : T P (load a m) := fun _ _ => trivial
theorem T.store (a : Addr) (v : Value) (m : Mode) : T P (store a v m) := fun _ => trivial
theorem T.choose (q : Question) : T P (choose q) := fun _ _ => trivial
theorem T.noRoom : T P (mark .noRoom) := fun _ => ⟨rfl, trivial⟩
theorem T.newObj {o : Obj} (h : okObj o) : T P (newObj o) := fun _ => ⟨h, fun _ => trivial⟩
theorem T.newRow (e : TypeId) (c : Array Value) : T P (newRow e c) := T.then (T.newObj trivial) fun _ => T.pure _
theorem T.newVar (e : TypeId) (v : Value) : T P (newVar e v) := T.newRow _ _
theorem T.typeInfo (t : TypeId) : T P (typeInfo t) := T.then T.program fun p => by split <;> first | exact T.pure _ | exact T.stuck _
theorem T.underlying (t : TypeId) : T P (underlying t) := T.then T.program fun p => by split <;> first | exact T.pure _ | exact T.stuck _
theorem T.sizeOf (t : TypeId) : T P (sizeOf t) := T.then (T.typeInfo t) fun _ => T.pure _
theorem T.zeroValue (t : TypeId) : T P (zeroValue t) := T.then (T.typeInfo t) fun i => by split <;> first | exact T.pure _ | exact T.unsupported (by intro g h; cases h)
theorem T.isAgg (t : TypeId) : T P (isAgg t) := T.then (T.underlying t) fun d => by split <;> exact T.pure _
theorem T.elemOf (t : TypeId) : T P (elemOf t) := T.then (T.underlying t) fun d => by split <;> first | exact T.pure _ | exact T.stuck _
theorem T.runtimePanic (e : RuntimeError) : T P (runtimePanic e : Sem α) := by
  unfold Go.runtimePanic
  refine T.then T.program fun p => ?_
  split
  all_goals first
    | exact T.goPanic _
    | exact T.then (T.elemOf _) fun _ => T.then (T.newVar _ _) fun _ => T.goPanic _

theorem T.loadCellsFrom (a : Addr) : ∀ (n i : Nat) (acc : Array Value), T P (loadCellsFrom a i n acc)
  | 0, _, _ => T.pure _
  | n + 1, _, _ => T.then (T.load _ _) fun _ => T.loadCellsFrom a n _ _

theorem T.loadCells (a : Addr) (n : Nat) : T P (loadCells a n) := T.loadCellsFrom a n 0 #[]
theorem T.storeCells (a : Addr) : ∀ (vs : List Value) (i : Nat), T P (storeCells a vs i)
  | [], _ => T.pure _
  | _ :: vs, _ => T.then (T.store _ _ _) fun _ => T.storeCells a vs _

theorem T.loadVar (t : TypeId) (a : Addr) : T P (loadVar t a) := T.then (T.isAgg t) fun b => by
  split
  · exact T.then (T.sizeOf _) fun _ => T.then (T.loadCells _ _) fun _ => T.pure _
  · exact T.load _ _

theorem T.storeVar (t : TypeId) (a : Addr) (v : Value) : T P (storeVar t a v) := T.then (T.sizeOf t) fun n => by
  split
  · exact T.then (T.stuck _) fun _ => T.storeCells _ _ _
  · exact T.then (T.pure _) fun _ => T.storeCells _ _ _

theorem T.part (t : TypeId) (cs : Array Value) (off : Nat) : T P (part t cs off) := T.then (T.isAgg t) fun b => by
  split
  · exact T.then (T.sizeOf _) fun _ => T.pure _
  · split <;> first | exact T.pure _ | exact T.stuck _

theorem T.asIntOf (v : Value) : T P (asIntOf v) := by
  unfold Go.asIntOf
  split <;> first | exact T.pure _ | exact T.stuck _ | exact T.unsupported (by intro g h; cases h)

theorem T.asInt (v : Value) : T P (asInt v) := T.then (T.asIntOf v) fun _ => T.pure _
theorem T.asBool (v : Value) : T P (asBool v) := by unfold Go.asBool; split <;> first | exact T.pure _ | exact T.stuck _
theorem T.asAgg (v : Value) : T P (asAgg v) := by unfold Go.asAgg; split <;> first | exact T.pure _ | exact T.stuck _
theorem T.asAddr (v : Value) : T P (asAddr v) := by unfold Go.asAddr; split <;> first | exact T.pure _ | exact T.stuck _ | exact T.runtimePanic _
theorem T.sureAddr (v : Value) : T P (Instr.sureAddr v) := by unfold Instr.sureAddr; split <;> first | exact T.pure _ | exact T.stuck _
theorem T.boundsPanic (k : IntKind) (x y : Int) (c : BoundsCode) : T P (boundsPanic k x y c : Sem α) := by
  unfold Go.boundsPanic
  split
  · exact T.then (T.map _ (T.choose _)) fun _ => T.runtimePanic _
  · exact T.then (T.pure _) fun _ => T.runtimePanic _

theorem T.askRoom (n : Nat) : T P (askRoom n) := by unfold Go.askRoom; split <;> first | exact T.noRoom | exact T.pure _
theorem T.listMapM {γ δ : Type} {f : γ → Sem δ} (h : ∀ x, T P (f x)) : ∀ l : List γ, T P (l.mapM f)
  | [] => by rw [List.mapM_nil]; exact T.pure _
  | x :: l => by rw [List.mapM_cons]; exact T.then (h x) fun _ => T.then (T.listMapM h l) fun _ => T.pure _

theorem T.arrayMapM {γ δ : Type} {f : γ → Sem δ} (h : ∀ x, T P (f x)) (l : Array γ) : T P (l.mapM f) := by
  rw [Array.mapM_eq_mapM_toList]
  exact T.map _ (T.listMapM h _)

theorem T.results (fn : Func) (tmps : Array Value) : T P (results fn tmps) := by
  unfold Go.results
  refine T.then (T.arrayMapM (fun x => ?_) _) fun _ => T.pure _
  split
  · exact T.pure _
  · exact T.then (T.asAddr _) fun _ => T.loadVar _ _

/-! ### the operations -/

theorem T.val {S : FuncId → Prop} {s : Sem Value} (h : T P s) : Tame P (OkN S) (s >>= fun x => Pure.pure (Next.value x)) A := T.bind h fun _ _ => trivial

theorem T.unit {S : FuncId → Prop} {s : Sem Unit} (h : T P s) : Tame P (OkN S) (s >>= fun _ => Pure.pure Next.skip) A := T.bind h fun _ _ => trivial

theorem T.alloc (e : TypeId) (b : Bool) (v : Value) : T P (Instr.alloc e b v) := by
  unfold Instr.alloc
  (repeat' first | (with_reducible first | exact T.pure _ | exact T.stuck _ | exact T.goPanic _ | exact T.runtimePanic _ | exact T.boundsPanic _ _ _ _ | exact T.noEntry _ | exact T.limit _ | exact T.observed | exact T.unsafeP _ | exact T.program | exact T.underlying _ | exact T.typeInfo _ | exact T.sizeOf _ | exact T.zeroValue _ | exact T.isAgg _ | exact T.loadVar _ _ | exact T.storeVar _ _ _ | exact T.loadCells _ _ | exact T.storeCells _ _ _ | exact T.load _ _ | exact T.store _ _ _ | exact T.newRow _ _ | exact T.newVar _ _ | exact T.part _ _ _ | exact T.asIntOf _ | exact T.asInt _ | exact T.asBool _ | exact T.asString _ | exact T.asAgg _ | exact T.asAddr _ | exact T.sureAddr _ | exact T.askRoom _ | exact T.choose _ | exact T.noRoom | assumption | refine T.arrayMapM (fun _ => ?_) _ | refine T.then ?_ (fun _ => ?_) | refine T.map _ ?_) | dsimp only | split)

theorem T.box (e : TypeId) (v : Value) : T P (Instr.box e v) := by
  unfold Instr.box
  (repeat' first | (with_reducible first | exact T.pure _ | exact T.stuck _ | exact T.goPanic _ | exact T.runtimePanic _ | exact T.boundsPanic _ _ _ _ | exact T.noEntry _ | exact T.limit _ | exact T.observed | exact T.unsafeP _ | exact T.program | exact T.underlying _ | exact T.typeInfo _ | exact T.sizeOf _ | exact T.zeroValue _ | exact T.isAgg _ | exact T.loadVar _ _ | exact T.storeVar _ _ _ | exact T.loadCells _ _ | exact T.storeCells _ _ _ | exact T.load _ _ | exact T.store _ _ _ | exact T.newRow _ _ | exact T.newVar _ _ | exact T.part _ _ _ | exact T.asIntOf _ | exact T.asInt _ | exact T.asBool _ | exact T.asString _ | exact T.asAgg _ | exact T.asAddr _ | exact T.sureAddr _ | exact T.askRoom _ | exact T.choose _ | exact T.noRoom | assumption | refine T.arrayMapM (fun _ => ?_) _ | refine T.then ?_ (fun _ => ?_) | refine T.map _ ?_) | dsimp only | split)

theorem T.build (t : TypeId) (ps : Array (Nat × Value)) : T P (Instr.build t ps) := by
  unfold Instr.build
  (repeat' first | (with_reducible first | exact T.pure _ | exact T.stuck _ | exact T.goPanic _ | exact T.runtimePanic _ | exact T.boundsPanic _ _ _ _ | exact T.noEntry _ | exact T.limit _ | exact T.observed | exact T.unsafeP _ | exact T.program | exact T.underlying _ | exact T.typeInfo _ | exact T.sizeOf _ | exact T.zeroValue _ | exact T.isAgg _ | exact T.loadVar _ _ | exact T.storeVar _ _ _ | exact T.loadCells _ _ | exact T.storeCells _ _ _ | exact T.load _ _ | exact T.store _ _ _ | exact T.newRow _ _ | exact T.newVar _ _ | exact T.part _ _ _ | exact T.asIntOf _ | exact T.asInt _ | exact T.asBool _ | exact T.asString _ | exact T.asAgg _ | exact T.asAddr _ | exact T.sureAddr _ | exact T.askRoom _ | exact T.choose _ | exact T.noRoom | assumption | refine T.arrayMapM (fun _ => ?_) _ | refine T.then ?_ (fun _ => ?_) | refine T.map _ ?_) | dsimp only | split)

theorem T.buildSlice (t : TypeId) (n : Nat) (ps : Array (Nat × Value)) : T P (Instr.buildSlice t n ps) := by
  unfold Instr.buildSlice
  (repeat' first | (with_reducible first | exact T.pure _ | exact T.stuck _ | exact T.goPanic _ | exact T.runtimePanic _ | exact T.boundsPanic _ _ _ _ | exact T.noEntry _ | exact T.limit _ | exact T.observed | exact T.unsafeP _ | exact T.program | exact T.underlying _ | exact T.typeInfo _ | exact T.sizeOf _ | exact T.zeroValue _ | exact T.isAgg _ | exact T.loadVar _ _ | exact T.storeVar _ _ _ | exact T.loadCells _ _ | exact T.storeCells _ _ _ | exact T.load _ _ | exact T.store _ _ _ | exact T.newRow _ _ | exact T.newVar _ _ | exact T.part _ _ _ | exact T.asIntOf _ | exact T.asInt _ | exact T.asBool _ | exact T.asString _ | exact T.asAgg _ | exact T.asAddr _ | exact T.sureAddr _ | exact T.askRoom _ | exact T.choose _ | exact T.noRoom | assumption | refine T.arrayMapM (fun _ => ?_) _ | refine T.then ?_ (fun _ => ?_) | refine T.map _ ?_) | dsimp only | split)

theorem T.loadAt (t : TypeId) (a : Value) : T P (Instr.loadAt t a) := by
  unfold Instr.loadAt
  (repeat' first | (with_reducible first | exact T.pure _ | exact T.stuck _ | exact T.goPanic _ | exact T.runtimePanic _ | exact T.boundsPanic _ _ _ _ | exact T.noEntry _ | exact T.limit _ | exact T.observed | exact T.unsafeP _ | exact T.program | exact T.underlying _ | exact T.typeInfo _ | exact T.sizeOf _ | exact T.zeroValue _ | exact T.isAgg _ | exact T.loadVar _ _ | exact T.storeVar _ _ _ | exact T.loadCells _ _ | exact T.storeCells _ _ _ | exact T.load _ _ | exact T.store _ _ _ | exact T.newRow _ _ | exact T.newVar _ _ | exact T.part _ _ _ | exact T.asIntOf _ | exact T.asInt _ | exact T.asBool _ | exact T.asString _ | exact T.asAgg _ | exact T.asAddr _ | exact T.sureAddr _ | exact T.askRoom _ | exact T.choose _ | exact T.noRoom | assumption | refine T.arrayMapM (fun _ => ?_) _ | refine T.then ?_ (fun _ => ?_) | refine T.map _ ?_) | dsimp only | split)

theorem T.storeAt (t : TypeId) (a x : Value) : T P (Instr.storeAt t a x) := by
  unfold Instr.storeAt
  (repeat' first | (with_reducible first | exact T.pure _ | exact T.stuck _ | exact T.goPanic _ | exact T.runtimePanic _ | exact T.boundsPanic _ _ _ _ | exact T.noEntry _ | exact T.limit _ | exact T.observed | exact T.unsafeP _ | exact T.program | exact T.underlying _ | exact T.typeInfo _ | exact T.sizeOf _ | exact T.zeroValue _ | exact T.isAgg _ | exact T.loadVar _ _ | exact T.storeVar _ _ _ | exact T.loadCells _ _ | exact T.storeCells _ _ _ | exact T.load _ _ | exact T.store _ _ _ | exact T.newRow _ _ | exact T.newVar _ _ | exact T.part _ _ _ | exact T.asIntOf _ | exact T.asInt _ | exact T.asBool _ | exact T.asString _ | exact T.asAgg _ | exact T.asAddr _ | exact T.sureAddr _ | exact T.askRoom _ | exact T.choose _ | exact T.noRoom | assumption | refine T.arrayMapM (fun _ => ?_) _ | refine T.then ?_ (fun _ => ?_) | refine T.map _ ?_) | dsimp only | split)

theorem T.indexAt (t : TypeId) (x i : Value) : T P (Instr.indexAt t x i) := by
  unfold Instr.indexAt
  (repeat' first | (with_reducible first | exact T.pure _ | exact T.stuck _ | exact T.goPanic _ | exact T.runtimePanic _ | exact T.boundsPanic _ _ _ _ | exact T.noEntry _ | exact T.limit _ | exact T.observed | exact T.unsafeP _ | exact T.program | exact T.underlying _ | exact T.typeInfo _ | exact T.sizeOf _ | exact T.zeroValue _ | exact T.isAgg _ | exact T.loadVar _ _ | exact T.storeVar _ _ _ | exact T.loadCells _ _ | exact T.storeCells _ _ _ | exact T.load _ _ | exact T.store _ _ _ | exact T.newRow _ _ | exact T.newVar _ _ | exact T.part _ _ _ | exact T.asIntOf _ | exact T.asInt _ | exact T.asBool _ | exact T.asString _ | exact T.asAgg _ | exact T.asAddr _ | exact T.sureAddr _ | exact T.askRoom _ | exact T.choose _ | exact T.noRoom | assumption | refine T.arrayMapM (fun _ => ?_) _ | refine T.then ?_ (fun _ => ?_) | refine T.map _ ?_) | dsimp only | split)

theorem T.index (t : TypeId) (x i : Value) : T P (Instr.index t x i) := by
  unfold Instr.index
  (repeat' first | (with_reducible first | exact T.pure _ | exact T.stuck _ | exact T.goPanic _ | exact T.runtimePanic _ | exact T.boundsPanic _ _ _ _ | exact T.noEntry _ | exact T.limit _ | exact T.observed | exact T.unsafeP _ | exact T.program | exact T.underlying _ | exact T.typeInfo _ | exact T.sizeOf _ | exact T.zeroValue _ | exact T.isAgg _ | exact T.loadVar _ _ | exact T.storeVar _ _ _ | exact T.loadCells _ _ | exact T.storeCells _ _ _ | exact T.load _ _ | exact T.store _ _ _ | exact T.newRow _ _ | exact T.newVar _ _ | exact T.part _ _ _ | exact T.asIntOf _ | exact T.asInt _ | exact T.asBool _ | exact T.asString _ | exact T.asAgg _ | exact T.asAddr _ | exact T.sureAddr _ | exact T.askRoom _ | exact T.choose _ | exact T.noRoom | assumption | refine T.arrayMapM (fun _ => ?_) _ | refine T.then ?_ (fun _ => ?_) | refine T.map _ ?_) | dsimp only | split)

theorem T.sliceBound (x : Value) (y : Nat) (c : BoundsCode) : T P (Instr.sliceBound x y c) := by
  unfold Instr.sliceBound
  (repeat' first | (with_reducible first | exact T.pure _ | exact T.stuck _ | exact T.goPanic _ | exact T.runtimePanic _ | exact T.boundsPanic _ _ _ _ | exact T.noEntry _ | exact T.limit _ | exact T.observed | exact T.unsafeP _ | exact T.program | exact T.underlying _ | exact T.typeInfo _ | exact T.sizeOf _ | exact T.zeroValue _ | exact T.isAgg _ | exact T.loadVar _ _ | exact T.storeVar _ _ _ | exact T.loadCells _ _ | exact T.storeCells _ _ _ | exact T.load _ _ | exact T.store _ _ _ | exact T.newRow _ _ | exact T.newVar _ _ | exact T.part _ _ _ | exact T.asIntOf _ | exact T.asInt _ | exact T.asBool _ | exact T.asString _ | exact T.asAgg _ | exact T.asAddr _ | exact T.sureAddr _ | exact T.askRoom _ | exact T.choose _ | exact T.noRoom | assumption | refine T.arrayMapM (fun _ => ?_) _ | refine T.then ?_ (fun _ => ?_) | refine T.map _ ?_) | dsimp only | split)

theorem T.sliceBounds (b : Bool) (l c : Nat) (lo hi mx : Option Value) : T P (Instr.sliceBounds b l c lo hi mx) := by
  unfold Instr.sliceBounds
  repeat' first | (with_reducible first | exact T.sliceBound _ _ _ | exact T.pure _ | exact T.stuck _ | refine T.then ?_ (fun _ => ?_)) | dsimp only | split

theorem T.slice (t : TypeId) (x : Value) (lo hi mx : Option Value) : T P (Instr.slice t x lo hi mx) := by
  unfold Instr.slice
  repeat' first | (with_reducible first | exact T.sliceBounds _ _ _ _ _ _ | exact T.pure _ | exact T.stuck _ | exact T.underlying _ | exact T.sizeOf _ | exact T.asAddr _ | refine T.then ?_ (fun _ => ?_)) | dsimp only | split

theorem T.sliceAt (t : TypeId) (x : Value) (lo hi mx : Option Value) : T P (Instr.sliceAt t x lo hi mx) := by
  unfold Instr.sliceAt
  repeat' first | (with_reducible first | exact T.sliceBounds _ _ _ _ _ _ | exact T.slice _ _ _ _ _ | exact T.pure _ | exact T.stuck _ | exact T.underlying _ | exact T.sizeOf _ | exact T.sureAddr _ | refine T.then ?_ (fun _ => ?_)) | dsimp only | split

theorem T.makeSlice (t : TypeId) (l c : Value) : T P (Instr.makeSlice t l c) := by
  unfold Instr.makeSlice
  (repeat' first | (with_reducible first | exact T.pure _ | exact T.stuck _ | exact T.goPanic _ | exact T.runtimePanic _ | exact T.boundsPanic _ _ _ _ | exact T.noEntry _ | exact T.limit _ | exact T.observed | exact T.unsafeP _ | exact T.program | exact T.underlying _ | exact T.typeInfo _ | exact T.sizeOf _ | exact T.zeroValue _ | exact T.isAgg _ | exact T.loadVar _ _ | exact T.storeVar _ _ _ | exact T.loadCells _ _ | exact T.storeCells _ _ _ | exact T.load _ _ | exact T.store _ _ _ | exact T.newRow _ _ | exact T.newVar _ _ | exact T.part _ _ _ | exact T.asIntOf _ | exact T.asInt _ | exact T.asBool _ | exact T.asString _ | exact T.asAgg _ | exact T.asAddr _ | exact T.sureAddr _ | exact T.askRoom _ | exact T.choose _ | exact T.noRoom | assumption | refine T.arrayMapM (fun _ => ?_) _ | refine T.then ?_ (fun _ => ?_) | refine T.map _ ?_) | dsimp only | split)

theorem T.extract (x : Value) (i : Nat) : T P (Instr.extract x i) := by
  unfold Instr.extract
  (repeat' first | (with_reducible first | exact T.pure _ | exact T.stuck _ | exact T.goPanic _ | exact T.runtimePanic _ | exact T.boundsPanic _ _ _ _ | exact T.noEntry _ | exact T.limit _ | exact T.observed | exact T.unsafeP _ | exact T.program | exact T.underlying _ | exact T.typeInfo _ | exact T.sizeOf _ | exact T.zeroValue _ | exact T.isAgg _ | exact T.loadVar _ _ | exact T.storeVar _ _ _ | exact T.loadCells _ _ | exact T.storeCells _ _ _ | exact T.load _ _ | exact T.store _ _ _ | exact T.newRow _ _ | exact T.newVar _ _ | exact T.part _ _ _ | exact T.asIntOf _ | exact T.asInt _ | exact T.asBool _ | exact T.asString _ | exact T.asAgg _ | exact T.asAddr _ | exact T.sureAddr _ | exact T.askRoom _ | exact T.choose _ | exact T.noRoom | assumption | refine T.arrayMapM (fun _ => ?_) _ | refine T.then ?_ (fun _ => ?_) | refine T.map _ ?_) | dsimp only | split)

theorem T.field (t : TypeId) (x : Value) (i : Nat) : T P (Instr.field t x i) := by
  unfold Instr.field
  (repeat' first | (with_reducible first | exact T.pure _ | exact T.stuck _ | exact T.goPanic _ | exact T.runtimePanic _ | exact T.boundsPanic _ _ _ _ | exact T.noEntry _ | exact T.limit _ | exact T.observed | exact T.unsafeP _ | exact T.program | exact T.underlying _ | exact T.typeInfo _ | exact T.sizeOf _ | exact T.zeroValue _ | exact T.isAgg _ | exact T.loadVar _ _ | exact T.storeVar _ _ _ | exact T.loadCells _ _ | exact T.storeCells _ _ _ | exact T.load _ _ | exact T.store _ _ _ | exact T.newRow _ _ | exact T.newVar _ _ | exact T.part _ _ _ | exact T.asIntOf _ | exact T.asInt _ | exact T.asBool _ | exact T.asString _ | exact T.asAgg _ | exact T.asAddr _ | exact T.sureAddr _ | exact T.askRoom _ | exact T.choose _ | exact T.noRoom | assumption | refine T.arrayMapM (fun _ => ?_) _ | refine T.then ?_ (fun _ => ?_) | refine T.map _ ?_) | dsimp only | split)

theorem T.makeFunc (f : Fn) (a b : Array Value) : T P (Instr.makeFunc f a b) := T.pure _
theorem T.unary (op : UnOp) (x : Value) : T P (Op.unary op x) := by
  unfold Op.unary Op.intArith Op.intBits
  (repeat' first | (with_reducible first | exact T.pure _ | exact T.stuck _ | exact T.goPanic _ | exact T.runtimePanic _ | exact T.boundsPanic _ _ _ _ | exact T.noEntry _ | exact T.limit _ | exact T.observed | exact T.unsafeP _ | exact T.program | exact T.underlying _ | exact T.typeInfo _ | exact T.sizeOf _ | exact T.zeroValue _ | exact T.isAgg _ | exact T.loadVar _ _ | exact T.storeVar _ _ _ | exact T.loadCells _ _ | exact T.storeCells _ _ _ | exact T.load _ _ | exact T.store _ _ _ | exact T.newRow _ _ | exact T.newVar _ _ | exact T.part _ _ _ | exact T.asIntOf _ | exact T.asInt _ | exact T.asBool _ | exact T.asString _ | exact T.asAgg _ | exact T.asAddr _ | exact T.sureAddr _ | exact T.askRoom _ | exact T.choose _ | exact T.noRoom | assumption | refine T.arrayMapM (fun _ => ?_) _ | refine T.then ?_ (fun _ => ?_) | refine T.map _ ?_) | dsimp only | split)

theorem T.lenOf (x : Value) : T P (Builtin.lenOf x) := by
  unfold Builtin.lenOf
  (repeat' first | (with_reducible first | exact T.pure _ | exact T.stuck _ | exact T.goPanic _ | exact T.runtimePanic _ | exact T.boundsPanic _ _ _ _ | exact T.noEntry _ | exact T.limit _ | exact T.observed | exact T.unsafeP _ | exact T.program | exact T.underlying _ | exact T.typeInfo _ | exact T.sizeOf _ | exact T.zeroValue _ | exact T.isAgg _ | exact T.loadVar _ _ | exact T.storeVar _ _ _ | exact T.loadCells _ _ | exact T.storeCells _ _ _ | exact T.load _ _ | exact T.store _ _ _ | exact T.newRow _ _ | exact T.newVar _ _ | exact T.part _ _ _ | exact T.asIntOf _ | exact T.asInt _ | exact T.asBool _ | exact T.asString _ | exact T.asAgg _ | exact T.asAddr _ | exact T.sureAddr _ | exact T.askRoom _ | exact T.choose _ | exact T.noRoom | assumption | refine T.arrayMapM (fun _ => ?_) _ | refine T.then ?_ (fun _ => ?_) | refine T.map _ ?_) | dsimp only | split)

theorem T.firstCells (s n : Nat) (x : Value) : T P (Builtin.firstCells s n x) := by
  unfold Builtin.firstCells
  (repeat' first | (with_reducible first | exact T.pure _ | exact T.stuck _ | exact T.goPanic _ | exact T.runtimePanic _ | exact T.boundsPanic _ _ _ _ | exact T.noEntry _ | exact T.limit _ | exact T.observed | exact T.unsafeP _ | exact T.program | exact T.underlying _ | exact T.typeInfo _ | exact T.sizeOf _ | exact T.zeroValue _ | exact T.isAgg _ | exact T.loadVar _ _ | exact T.storeVar _ _ _ | exact T.loadCells _ _ | exact T.storeCells _ _ _ | exact T.load _ _ | exact T.store _ _ _ | exact T.newRow _ _ | exact T.newVar _ _ | exact T.part _ _ _ | exact T.asIntOf _ | exact T.asInt _ | exact T.asBool _ | exact T.asString _ | exact T.asAgg _ | exact T.asAddr _ | exact T.sureAddr _ | exact T.askRoom _ | exact T.choose _ | exact T.noRoom | assumption | refine T.arrayMapM (fun _ => ?_) _ | refine T.then ?_ (fun _ => ?_) | refine T.map _ ?_) | dsimp only | split)

theorem T.copy (ts : Array TypeId) (t : TypeId) (xs : Array Value) : T P (Builtin.copy_ ts t xs) := by
  unfold Builtin.copy_
  repeat' first | (with_reducible first | exact T.pure _ | exact T.stuck _ | exact T.underlying _ | exact T.sizeOf _ | exact T.lenOf _ | exact T.firstCells _ _ _ | exact T.storeCells _ _ _ | refine T.then ?_ (fun _ => ?_)) | dsimp only | split

end
end Go.Pair

/- Lone code beside leavers, 4: every step. -/
namespace Go.Pair
open Go Go.Conc

section
variable {P : Program} {S : FuncId → Prop} {Bs : Nat → Prop}

theorem One.lost {fr : Frame} {up z z' : List Frame} {w v : World} {K : Nat} {f : World → Outcome} (h : ∀ cs w, stepG P true (G fr cs) w = .ended (f w) w) : One P S Bs K fr up z z' w v :=
  .bad (f v) v (by rw [h]; rfl)

theorem okFr_todo {fr : Frame} (h : OkFr P S fr) {k : List Item} (hk : ∀ it ∈ k, OkI P S it) : OkFr P S { fr with todo := k } := ⟨h.defers, h.kind, h.round, h.fn, h.mode, fun _ => hk⟩
theorem okFr_ret {fr : Frame} (h : OkFr P S fr) : OkFr P S { fr with mode := .returning } := ⟨h.defers, h.kind, h.round, h.fn, .inr rfl, fun e => by cases e⟩

theorem run_step (hS : OkS P S) {fr : Frame} {up : List Frame} (hfr : OkFr P S fr) (hm : fr.mode = .run) (hu : OkUp P S up) (w : World) : ∃ K, ∀ (z z' : List Frame) (v : World), Sim Bs w v → (∀ j, j < K → v.tape (v.drawn + j) = w.tape (w.drawn + j)) → One P S Bs K fr up z z' w v := by
  have ht := hfr.todo hm
  cases htd : fr.todo with
  | nil =>
    refine ⟨0, fun z z' v hs _ => One.ctl (fr' := { fr with mode := .returning }) (fun cs w => ?_) hs (okFr_ret hfr) hu⟩
    rw [stepG_exec hm]; simp [stepG.exec, htd, hfr.round, G]
  | cons x k =>
    rw [htd] at ht
    have hk : ∀ it ∈ k, OkI P S it := fun it hit => ht it (by simp [hit])
    have hx : OkI P S x := ht x (by simp)
    have two : ∀ {y : Item}, OkI P S y → ∀ it ∈ y :: k, OkI P S it := fun hy it hit => by
      simp only [List.mem_cons] at hit
      rcases hit with rfl | hit
      · exact hy
      · exact hk it hit
    have three : ∀ {y y' : Item}, OkI P S y → OkI P S y' → ∀ it ∈ y :: y' :: k, OkI P S it := fun hy hy' it hit => by
      simp only [List.mem_cons] at hit
      rcases hit with rfl | rfl | hit
      · exact hy
      · exact hy'
      · exact hk it hit
    -- a step of control to the list k'
    have to : ∀ {k' : List Item}, (∀ it ∈ k', OkI P S it) → (∀ cs w, stepG P true (G fr cs) w = .go (G { fr with todo := k' } cs) w) → ∃ K, ∀ (z z' : List Frame) (v : World), Sim Bs w v → (∀ j, j < K → v.tape (v.drawn + j) = w.tape (w.drawn + j)) → One P S Bs K fr up z z' w v :=
      fun hk' h => ⟨0, fun z z' v hs _ => One.ctl h hs (okFr_todo hfr hk') hu⟩
    cases x with
    | code c =>
      cases c with
      | skip => exact to hk fun cs w => by rw [stepG_exec hm]; simp [stepG.exec, htd, G, hm]
      | label l => exact to hk fun cs w => by rw [stepG_exec hm]; simp [stepG.exec, htd, G, hm]
      | ret =>
        refine ⟨0, fun z z' v hs _ => One.ctl (fr' := { fr with mode := .returning }) (fun cs w => ?_) hs (okFr_ret hfr) hu⟩
        rw [stepG_exec hm]; simp [stepG.exec, htd, hfr.round, G]
      | seq a b => exact to (k' := .code a :: .code b :: k) (three hx.1 hx.2) fun cs w => by rw [stepG_exec hm]; simp [stepG.exec, htd, G, hm]
      | cond c a b =>
        by_cases hb : ∃ t, fr.eval c = .bool t
        · obtain ⟨t, hb⟩ := hb
          refine to (k' := .code (if t then a else b) :: k) (two ?_) fun cs w => by rw [stepG_exec hm]; simp [stepG.exec, htd, G, hm, hb]
          cases t
          · exact hx.2
          · exact hx.1
        · have hl : ∃ o, ∀ cs w, stepG P true (G fr cs) w = .ended o w := by
            cases he : fr.eval c with
            | bool t => exact absurd ⟨t, he⟩ hb
            | _ => exact ⟨_, fun cs w => by rw [stepG_exec hm]; simp only [stepG.exec, htd, he]; rfl⟩
          obtain ⟨o, hl⟩ := hl
          exact ⟨0, fun z z' v hs _ => One.lost (f := fun _ => o) hl⟩
      | block id b => exact to (k' := .code b :: .inBlock id :: k) (three hx trivial) fun cs w => by rw [stepG_exec hm]; simp [stepG.exec, htd, G, hm]
      | loop b => exact to (k' := .code b :: .inLoop b :: k) (three hx hx) fun cs w => by rw [stepG_exec hm]; simp [stepG.exec, htd, G, hm]
      | scope b => exact to (k' := .code b :: .inScope b :: k) (three hx hx) fun cs w => by rw [stepG_exec hm]; simp [stepG.exec, htd, G, hm]
      | exit id =>
        cases he : exitTo id k with
        | some k' => exact to (k' := k') (okI_exit hk he) fun cs w => by rw [stepG_exec hm]; simp [stepG.exec, htd, G, hm, he]
        | none =>
          have hl : ∃ o, ∀ cs w, stepG P true (G fr cs) w = .ended o w := ⟨_, fun cs w => by rw [stepG_exec hm]; simp only [stepG.exec, htd, he, Option.elim, hfr.round]; rfl⟩
          obtain ⟨o, hl⟩ := hl
          exact ⟨0, fun z z' v hs _ => One.lost (f := fun _ => o) hl⟩
      | goto l =>
        cases he : gotoIn l k with
        | some k' => exact to (k' := k') (okI_goto hk he) fun cs w => by rw [stepG_exec hm]; simp [stepG.exec, htd, G, hm, he]
        | none =>
          have hl : ∃ o, ∀ cs w, stepG P true (G fr cs) w = .ended o w := ⟨_, fun cs w => by rw [stepG_exec hm]; simp only [stepG.exec, htd, he, Option.elim, hfr.round]; rfl⟩
          obtain ⟨o, hl⟩ := hl
          exact ⟨0, fun z z' v hs _ => One.lost (f := fun _ => o) hl⟩
      | rangeFunc f ps a b => exact hx.elim
      | refuse s => exact hx.elim
      | region id ops draw =>
        cases draw with
        | false => exact to (k' := .inRegion ops (List.range ops.size) :: k) (two hx) fun cs w => by rw [stepG_exec hm]; simp [stepG.exec, htd, G, hm]
        | true =>
          refine ⟨1, fun z z' v hs hag => ?_⟩
          have e0 : v.tape v.drawn = w.tape w.drawn := hag 0 (by omega)
          have key : ∀ cs (w : World), stepG P true (G fr cs) w = .go (G { fr with todo := .inRegion ops (Region.schedule (P.follows .mixedOrders) ops (w.tape w.drawn (.order fr.fn id))) :: k } cs) { w with drawn := w.drawn + 1 } := by
            intro cs w
            rw [stepG_exec hm]; simp [stepG.exec, htd, G, hm, choose, Sem.run, Question.forced, Question.cut]
          refine .go { fr with todo := .inRegion ops (Region.schedule (P.follows .mixedOrders) ops (w.tape w.drawn (.order fr.fn id))) :: k } up { w with drawn := w.drawn + 1 } { v with drawn := v.drawn + 1 } #[] (key _ _) ?_ (okFr_todo hfr (two hx)) hu ⟨hs.drawn _ _, Nat.le_refl _, fun _ _ => rfl, rfl, rfl, rfl, rfl, ⟨rfl, rfl⟩, fun _ _ h _ => h⟩ (by simp)
          rw [key, e0]; rfl
    | inBlock id => exact to hk fun cs w => by rw [stepG_exec hm]; simp [stepG.exec, htd, G, hm]
    | inScope b => exact to hk fun cs w => by rw [stepG_exec hm]; simp [stepG.exec, htd, G, hm]
    | inLoop b => exact to (k' := .code b :: .inLoop b :: k) (three hx hx) fun cs w => by rw [stepG_exec hm]; simp [stepG.exec, htd, G, hm]
    | inRegion ops l =>
      cases l with
      | nil => exact to hk fun cs w => by rw [stepG_exec hm]; simp [stepG.exec, htd, G, hm]
      | cons i l =>
        cases ho : ops[i]? with
        | none =>
          obtain ⟨h1, h2⟩ := okFr_finish hfr hm undef
          refine ⟨0, fun z z' v hs _ => One.ctl (fr' := fr.finish undef) (fun cs w => ?_) hs h1 hu⟩
          rw [stepG_exec hm]; simp [stepG.exec, htd, G, ho]
        | some o =>
          cases hwt : Region.wanted o (yielded ops fr.tmps) with
          | false =>
            obtain ⟨h1, h2⟩ := okFr_finish hfr hm undef
            refine ⟨0, fun z z' v hs _ => One.ctl (fr' := fr.finish undef) (fun cs w => ?_) hs h1 hu⟩
            rw [stepG_exec hm]; simp [stepG.exec, htd, G, ho, hwt]
          | true =>
            refine ⟨uses P (execOp fr.eval o) w, fun z z' v hs hag => One.apply hS hfr hm hu ⟨ops, i :: l, k, htd⟩ (fun cs w => ?_) (hx i o ho fr) hs hag⟩
            rw [stepG_exec hm]
            simp [stepG.exec, htd, ho, hwt, stepG.oper, Frame.oper?, hfr.round]
    | _ => exact hx.elim

theorem ret_step (hS : OkS P S) {fr c : Frame} {up : List Frame} (hfr : OkFr P S fr) (hm : fr.mode = .returning) (hu : OkUp P S (c :: up)) (w : World) : ∃ K, ∀ (z z' : List Frame) (v : World), Sim Bs w v → (∀ j, j < K → v.tape (v.drawn + j) = w.tape (w.drawn + j)) → One P S Bs K fr (c :: up) z z' w v := by
  obtain ⟨fn, hf⟩ := hfr.fn
  obtain ⟨hc, hcm⟩ := hu c (by simp)
  refine ⟨uses P (results fn fr.tmps) w, fun z z' v hs hag => ?_⟩
  have hst : ∀ cs w, stepG P true (G fr cs) w = unwind P true fr cs none w := fun cs w => by
    unfold stepG G
    simp only [hm]
  cases tame_sim (results fn fr.tmps) (fun _ => False) w v #[] (T.results fn fr.tmps _) (fun _ h => h.elim) hs hag with
  | bad h v' hr hb =>
    cases h with
    | stuck s => exact .bad _ v' (by rw [hst]; simp only [unwind, hfr.defers, hm, hf, Sem.runT_eq, hr]; rfl)
    | unsupported u => exact .bad _ v' (by rw [hst]; simp only [unwind, hfr.defers, hm, hf, Sem.runT_eq, hr]; rfl)
    | _ => exact hb.elim
  | panic x w' v' es' hw hv ha hes => exact .bad _ v' (by rw [hst]; simp only [unwind, hfr.defers, hm, hf, Sem.runT_eq, hv]; rfl)
  | ok a w' v' es' hw hv hq ha hes =>
    obtain ⟨h1, h2⟩ := okFr_finish hc hcm a
    refine .go (c.finish a) up w' v' _ ?_ ?_ h1 (fun x hx => hu x (by simp [hx])) ha (seen_evG (P := P) (fn := fr.fn) (es := #[] ++ es') (by simpa using hes))
    · rw [hst]
      simp only [unwind, hfr.defers, hm, hf, hw, doReturn, List.cons_append, hfr.kind]
      simp [GStep.after, G]
    · rw [hst]
      simp only [unwind, hfr.defers, hm, hf, Sem.runT_eq, hv, doReturn, List.cons_append, hfr.kind]
      rfl

end
end Go.Pair
