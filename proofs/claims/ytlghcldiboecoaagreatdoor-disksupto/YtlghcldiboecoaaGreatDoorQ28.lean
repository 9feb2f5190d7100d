/- Lone code beside leavers: append, calls; which code is tame. -/
import Derived.Test.YtlghcldiboecoaaGreatDoorQ27
import Derived.Test.YtlghcldiboecoaaGreatDoorProg
import Derived.Conc.WgLib
import Derived.KernelRfl
import Derived.Test.YtlghcldiboecoaaGreatDoorQ21
import Derived.Conc.CompanyMem
import Derived.Laws.BitsAllLaws
set_option linter.unusedVariables false
set_option linter.unusedSimpArgs false
namespace Go.Pair
open Go Go.Conc

section
variable {P : Program} {α β : Type} {Q : β → Prop} {A : Nat → Prop}

def convOk (P : Program) (s d : TypeId) : Bool :=
  match P.underlying s, P.underlying d with
  | some (.int _), some (.int _) => true
  | some .string, some (.slice _) => true
  | some (.slice _), some .string => true
  | some .string, some .string => true
  | _, _ => false

theorem T.stringToRunes (e : TypeId) (s : ByteArray) : T P (Conv.stringToRunes e s) := by
  unfold Conv.stringToRunes
  (repeat' first | (with_reducible first | exact T.pure _ | exact T.stuck _ | exact T.goPanic _ | exact T.runtimePanic _ | exact T.boundsPanic _ _ _ _ | exact T.noEntry _ | exact T.limit _ | exact T.observed | exact T.unsafeP _ | exact T.program | exact T.underlying _ | exact T.typeInfo _ | exact T.sizeOf _ | exact T.zeroValue _ | exact T.isAgg _ | exact T.loadVar _ _ | exact T.storeVar _ _ _ | exact T.loadCells _ _ | exact T.storeCells _ _ _ | exact T.load _ _ | exact T.store _ _ _ | exact T.newRow _ _ | exact T.newVar _ _ | exact T.part _ _ _ | exact T.asIntOf _ | exact T.asInt _ | exact T.asBool _ | exact T.asString _ | exact T.asAgg _ | exact T.asAddr _ | exact T.sureAddr _ | exact T.askRoom _ | exact T.choose _ | exact T.noRoom | assumption | refine T.arrayMapM (fun _ => ?_) _ | refine T.then ?_ (fun _ => ?_) | refine T.map _ ?_) | dsimp only | split)

theorem T.runesToString (x : Value) : T P (Conv.runesToString x) := by
  unfold Conv.runesToString
  repeat' first | (with_reducible first | exact T.pure _ | exact T.stuck _ | exact T.loadCells _ _ | refine T.arrayForInMem _ _ (fun f hf r => ?_) | refine T.then ?_ (fun _ => ?_)) | dsimp only | split

theorem T.convert (s d : TypeId) (x : Value) (h : convOk P s d = true) : T P (convert s d x) := by
  unfold Go.convert
  refine T.underlyingThen fun us hs => T.underlyingThen fun ud hd => ?_
  unfold convOk at h
  rw [hs, hd] at h
  have fin : ∀ e, T P (do
      match ← Go.underlying e with
      | .int .u8 => Conv.bytesToString x
      | .int .i32 => Conv.runesToString x
      | _ => Go.stuck "Convert: a slice of what to string?") := fun e => by
    repeat' first | (with_reducible first | exact T.bytesToString _ | exact T.runesToString _ | exact T.underlying _ | exact T.stuck _ | refine T.then ?_ (fun _ => ?_)) | dsimp only | split
  cases us <;> cases ud <;> first
    | contradiction
    | (cases x <;> first | contradiction | exact T.pure _ | exact T.floatToInt _ _ _ | exact T.noEntry _ | exact fin _ | (repeat' first | contradiction | (with_reducible first | exact T.stringToBytes _ _ | exact T.stringToRunes _ _ | exact T.pure _ | exact T.observed | exact T.noEntry _ | exact T.underlying _ | exact T.stuck _ | refine T.then ?_ (fun _ => ?_)) | dsimp only | split))

theorem T.holdsDoom {a : Addr} {n : Nat} {f : Bool → Sem β} (hd : ∀ b, Dooms P (fun _ => False) (f b)) : T P (Builtin.holdsCells a n >>= f) := fun A => by
  unfold Builtin.holdsCells
  rw [bind_assoc]
  refine .inl fun x => ?_
  cases x with
  | none => exact hd false
  | some x => exact hd _

theorem T.mayShareThen {s l n : Nat} {b : Option Addr} {x : Value} {f : Bool → Sem β} (hd : ∀ b, Dooms P (fun _ => False) (f b)) (ht : ∀ b, T P (f b)) : T P (Builtin.mayShare s l n b x >>= f) := by
  unfold Builtin.mayShare
  cases b with
  | none =>
    dsimp only
    simp only [pure_bind, Bool.not_true, Bool.false_eq_true, if_false]
    split
    · rw [bind_assoc]
      exact T.holdsDoom fun _ => hd _
    · rw [pure_bind]; exact ht _
  | some a =>
    dsimp only
    simp only [bind_assoc, pure_bind]
    refine T.holdsDoom fun h => ?_
    intro z
    change Dooms P (fun _ => False) (Sem.bind (if (!(h && !z)) = true then _ else _) f)
    refine Dooms.bind (R' := fun _ => True) (fun b _ => hd b) _ ?_
    split
    · trivial
    · split
      · intro z
        cases z <;> trivial
      · trivial

set_option maxHeartbeats 8000000 in
theorem T.append (ts : Array TypeId) (t : TypeId) (xs : Array Value) : T P (Builtin.append_ ts t xs) := by
  unfold Builtin.append_
  split
  · refine T.then (T.underlying _) fun d => ?_
    split
    · split
      · refine T.then (T.sizeOf _) fun size => ?_
        dsimp only
        split
        · refine T.then (T.underlying _) fun u => T.then (T.pure _) fun zeros => ?_
          cases zeros <;> simp only [Bool.false_eq_true, if_false, if_true, Bool.not_false, Bool.not_true] <;> (repeat' first | (with_reducible first | exact T.pure _ | exact T.stuck _ | exact T.underlying _ | exact T.sizeOf _ | exact T.typeInfo _ | exact T.zeroValue _ | exact T.asInt _ | exact T.runtimePanic _ | exact T.choose _ | exact T.lenOf _ | exact T.firstCells _ _ _ | exact T.storeCells _ _ _ | exact T.limit _ | exact T.noRoom | exact T.askRoom _ | exact T.newRow _ _ | refine T.mayShareThen (fun _ => ?_) (fun _ => ?_) | refine T.then ?_ (fun _ => ?_)) | dsimp only | split | exact trivial)
        · refine T.then (T.pure _) fun zeros => ?_
          cases zeros <;> simp only [Bool.false_eq_true, if_false, if_true, Bool.not_false, Bool.not_true] <;> (repeat' first | (with_reducible first | exact T.pure _ | exact T.stuck _ | exact T.underlying _ | exact T.sizeOf _ | exact T.typeInfo _ | exact T.zeroValue _ | exact T.asInt _ | exact T.runtimePanic _ | exact T.choose _ | exact T.lenOf _ | exact T.firstCells _ _ _ | exact T.storeCells _ _ _ | exact T.limit _ | exact T.noRoom | exact T.askRoom _ | exact T.newRow _ _ | refine T.mayShareThen (fun _ => ?_) (fun _ => ?_) | refine T.then ?_ (fun _ => ?_)) | dsimp only | split | exact trivial)
      · exact T.stuck _
    · exact T.stuck _
  · exact T.stuck _

theorem T.listFoldlM {γ δ : Type} {f : δ → γ → Sem δ} (h : ∀ x y, T P (f x y)) : ∀ (l : List γ) (b : δ), T P (l.foldlM f b)
  | [], b => by rw [List.foldlM_nil]; exact T.pure _
  | x :: l, b => by rw [List.foldlM_cons]; exact T.then (h _ _) fun _ => T.listFoldlM h l _

theorem T.min2 (x y : Value) : T P (Builtin.min2 x y) := by
  unfold Builtin.min2
  repeat' first | (with_reducible first | exact T.pure _ | exact T.stuck _ | exact T.observed | exact T.choose _ | exact T.stringOp _ _ _ | exact T.asBool _ | refine T.then ?_ (fun _ => ?_)) | dsimp only | split

theorem T.max2 (x y : Value) : T P (Builtin.max2 x y) := by
  unfold Builtin.max2
  repeat' first | (with_reducible first | exact T.pure _ | exact T.stuck _ | exact T.observed | exact T.choose _ | exact T.stringOp _ _ _ | exact T.asBool _ | refine T.then ?_ (fun _ => ?_)) | dsimp only | split

theorem T.min (ts : Array TypeId) (t : TypeId) (xs : Array Value) : T P (Builtin.min_ ts t xs) := by
  unfold Builtin.min_
  split
  · exact T.stuck _
  · exact T.listFoldlM (fun _ _ => T.min2 _ _) _ _

theorem T.max (ts : Array TypeId) (t : TypeId) (xs : Array Value) : T P (Builtin.max_ ts t xs) := by
  unfold Builtin.max_
  split
  · exact T.stuck _
  · exact T.listFoldlM (fun _ _ => T.max2 _ _) _ _

theorem T.len (ts : Array TypeId) (t : TypeId) (xs : Array Value) : T P (Builtin.len_ ts t xs) := by
  unfold Builtin.len_
  repeat' first | (with_reducible first | exact T.pure _ | exact T.stuck _ | exact T.underlying _) | refine T.getObjBind (fun _ => ?_) (fun _ _ => trivial) | (with_reducible refine T.then ?_ (fun _ => ?_)) | dsimp only | split

theorem T.cap (ts : Array TypeId) (t : TypeId) (xs : Array Value) : T P (Builtin.cap_ ts t xs) := by
  unfold Builtin.cap_
  repeat' first | (with_reducible first | exact T.pure _ | exact T.stuck _ | exact T.underlying _) | refine T.getObjBind (fun _ => ?_) (fun _ _ => trivial) | (with_reducible refine T.then ?_ (fun _ => ?_)) | dsimp only | split

theorem T.followBlind : ∀ (l : List FieldStep) (t : TypeId) (x : Option Value), T P (followBlind l t x) := by
  intro l
  induction l with
  | nil => exact fun _ _ => T.pure _
  | cons s l ih =>
    intro t x
    unfold Go.followBlind
    repeat' first | (with_reducible first | exact T.pure _ | exact T.stuck _ | exact T.underlying _ | exact T.part _ _ _ | exact ih _ _ | refine T.then ?_ (fun _ => ?_)) | dsimp only | split

theorem T.nilAhead : ∀ (n : Nat) (t : TypeId) (v : Value) (s : String), T P (nilAhead n t v s) := by
  intro n
  induction n with
  | zero => exact fun _ _ _ => T.pure _
  | succ n ih =>
    intro t v s
    unfold Go.nilAhead
    repeat' first | (with_reducible first | exact T.pure _ | exact T.stuck _ | exact T.typeInfo _ | exact T.underlying _ | exact T.followBlind _ _ _ | exact ih _ _ _ | refine T.then ?_ (fun _ => ?_)) | dsimp only | split

/-! ### the code -/
def isNilPtr : Operand → Bool
  | .const (.pointer none) => true
  | _ => false

def eqOk (P : Program) (t : TypeId) (x y : Operand) : Bool :=
  eqTy P 6 t || ((match P.underlying t with | some (.pointer _) => true | _ => false) && (isNilPtr x || isNilPtr y))

def builtinOk : Builtin → Bool
  | .append | .copy | .len | .cap | .min | .max => true
  | _ => false

def callOk (S : FuncId → Bool) (c : Call) : Bool :=
  match c.callee with
  | .builtin b => builtinOk b
  | .value (.func f) => S f
  | _ => false

def opOk (P : Program) (S : FuncId → Bool) (o : Oper) : Bool :=
  match o.op with
  | .move _ | .assign _ | .pick _ _ _ | .alloc _ | .box _ _ | .build _ _ | .buildSlice _ _ _ | .load _ _ | .store _ _ _ | .nilCheck _ | .unOp _ _ _ | .makeFunc _ _ _ | .makeSlice _ _ _ | .slice _ _ _ _ _ | .fieldAddr _ _ _ | .field _ _ _ | .indexAddr _ _ _ | .index _ _ _ | .extract _ _ => true
  | .binOp op t x y _ => (match op with | .eql => eqOk P t x y | .neq => eqOk P t x y | _ => true)
  | .convert s d _ => convOk P s d
  | .call c => callOk S c
  | _ => false

def codeOk (P : Program) (S : FuncId → Bool) : Code → Bool
  | .skip => true
  | .region _ ops _ => ops.all (opOk P S)
  | .seq a b => codeOk P S a && codeOk P S b
  | .cond _ a b => codeOk P S a && codeOk P S b
  | .block _ b => codeOk P S b
  | .loop b => codeOk P S b
  | .rangeFunc _ _ _ _ => false
  | .exit _ => true
  | .scope b => codeOk P S b
  | .label _ => true
  | .goto _ => true
  | .ret => true
  | .refuse _ => false

theorem T.equalOk {fr : Frame} {t : TypeId} {x y : Operand} (h : eqOk P t x y = true) : T P (Op.equal t (fr.eval x) (fr.eval y)) := by
  unfold eqOk at h
  rw [Bool.or_eq_true] at h
  rcases h with h | h
  · exact T.equalIn 6 t h _ _ _
  · rw [Bool.and_eq_true, Bool.or_eq_true] at h
    obtain ⟨h1, h2⟩ := h
    cases hu : P.underlying t with
    | none => rw [hu] at h1; cases h1
    | some u =>
      rw [hu] at h1
      cases u <;> first | contradiction | skip
      refine T.equalNil t hu ?_
      rcases h2 with h2 | h2
      · left
        unfold isNilPtr at h2
        split at h2
        · rfl
        · cases h2
      · right
        unfold isNilPtr at h2
        split at h2
        · rfl
        · cases h2

theorem okO_of {S : FuncId → Bool} {Sp : FuncId → Prop} (hS : ∀ f, S f = true → ∃ fn c, P.funcs[f]? = some fn ∧ (fn.name == "runtime.NumGoroutine") = false ∧ fn.body = some c) (hSp : ∀ f, S f = true → Sp f) {o : Oper} (h : opOk P S o = true) : OkO P Sp o := by
  intro fr
  unfold opOk at h
  unfold execOp
  generalize ho : o.op = op at h
  cases op <;> first | contradiction | dsimp only at h ⊢
  case move => exact trivial
  case assign => exact trivial
  case pick => exact T.bind (T.asBool _) fun _ _ => trivial
  case alloc => exact T.val (T.alloc _ _ _)
  case box => exact T.val (T.box _ _)
  case build => exact T.val (T.build _ _)
  case buildSlice => exact T.val (T.buildSlice _ _ _)
  case load => exact T.val (T.loadAt _ _)
  case store => exact T.unit (T.storeAt _ _ _)
  case unOp => exact T.val (T.unary _ _)
  case makeFunc => exact T.val (T.makeFunc _ _ _)
  case makeSlice => exact T.val (T.makeSlice _ _ _)
  case slice => exact T.val (T.sliceAt _ _ _ _ _)
  case fieldAddr => exact T.val (T.fieldAt _ _ _)
  case field => exact T.val (T.field _ _ _)
  case indexAddr => exact T.val (T.indexAt _ _ _)
  case index => exact T.val (T.index _ _ _)
  case extract => exact T.val (T.extract _ _)
  case convert => exact T.val (T.convert _ _ _ h)
  case binOp b t x y yt =>
    refine T.val (T.then (T.eqGuard _ _ _ _ _ _) fun _ => T.binOp _ _ _ _ fun hb => ?_)
    rcases hb with rfl | rfl
    · exact T.equalOk h
    · exact T.equalOk h
  case nilCheck x =>
    split
    · exact .inr ⟨_, rfl⟩
    · exact .inr ⟨_, rfl⟩
    · exact .inr ⟨_, rfl⟩
    · split
      · exact .inr ⟨_, rfl⟩
      · refine T.bind T.program fun p A => T.bind (T.nilAhead _ _ _ _) fun b A => ?_
        split
        · exact .inl trivial
        · exact trivial
      · exact trivial
    · exact trivial
  case call c =>
    unfold callOk at h
    unfold resolve
    cases hc : c.callee with
    | builtin b =>
      rw [hc] at h
      dsimp only at h
      show Tame P (OkN Sp) (invoke (.builtin b c.argTypes o.type _) _) _
      unfold invoke builtin
      cases b <;> first
        | contradiction
        | exact T.val (T.append _ _ _)
        | exact T.val (T.copy _ _ _)
        | exact T.val (T.len _ _ _)
        | exact T.val (T.cap _ _ _)
        | exact T.val (T.min _ _ _)
        | exact T.val (T.max _ _ _)
    | value f =>
      rw [hc] at h
      cases f with
      | func g =>
        dsimp only at h
        obtain ⟨fn, cd, h1, h2, h3⟩ := hS g h
        have hb : fn.body.isNone = false := by rw [h3]; rfl
        show Tame P (OkN Sp) (callFunc g _) _
        unfold callFunc
        show Tame P (OkN Sp) (match P.funcs[g]? with | none => _ | some fn => _) _
        rw [h1]
        dsimp only
        rw [h2, hb]
        exact hSp g h
      | _ => cases h
    | invoke r n => rw [hc] at h; cases h

theorem okC_of {S : FuncId → Bool} {Sp : FuncId → Prop} (hS : ∀ f, S f = true → ∃ fn c, P.funcs[f]? = some fn ∧ (fn.name == "runtime.NumGoroutine") = false ∧ fn.body = some c) (hSp : ∀ f, S f = true → Sp f) : ∀ {c : Code}, codeOk P S c = true → OkC P Sp c := by
  intro c
  induction c with
  | region id ops d =>
    intro h i o ho
    simp only [codeOk] at h
    exact okO_of hS hSp (Array.all_eq_true_iff_forall_mem.1 h o (Array.mem_of_getElem? ho))
  | seq a b iha ihb => intro h; simp only [codeOk, Bool.and_eq_true] at h; exact ⟨iha h.1, ihb h.2⟩
  | cond c a b iha ihb => intro h; simp only [codeOk, Bool.and_eq_true] at h; exact ⟨iha h.1, ihb h.2⟩
  | block id b ih => intro h; exact ih h
  | loop b ih => intro h; exact ih h
  | scope b ih => intro h; exact ih h
  | rangeFunc f ps a b iha ihb => intro h; cases h
  | refuse s => intro h; cases h
  | _ => intro _; trivial

def funcOk (P : Program) (L : List FuncId) (f : FuncId) : Bool :=
  match P.funcs[f]? with
  | some fn => !(fn.name == "runtime.NumGoroutine") && (match fn.body with | some c => codeOk P (L.contains ·) c | none => false)
  | none => false

theorem okS_of {L : List FuncId} (h : ∀ f, f ∈ L → funcOk P L f = true) : OkS P (· ∈ L) := by
  have key : ∀ f, f ∈ L → ∃ fn c, P.funcs[f]? = some fn ∧ (fn.name == "runtime.NumGoroutine") = false ∧ fn.body = some c ∧ codeOk P (L.contains ·) c = true := fun f hf => by
    have := h f hf
    unfold funcOk at this
    cases h1 : P.funcs[f]? with
    | none => rw [h1] at this; cases this
    | some fn =>
      rw [h1] at this
      simp only [Bool.and_eq_true, Bool.not_eq_true'] at this
      obtain ⟨h2, h3⟩ := this
      cases h4 : fn.body with
      | none => rw [h4] at h3; cases h3
      | some c => rw [h4] at h3; exact ⟨fn, c, rfl, h2, h4, h3⟩
  intro f hf
  obtain ⟨fn, c, h1, h2, h3, h4⟩ := key f hf
  refine ⟨fn, c, h1, h2, h3, okC_of (S := (L.contains ·)) (fun g hg => ?_) (fun g hg => by simpa using hg) h4⟩
  obtain ⟨fn', c', a1, a2, a3, _⟩ := key g (by simpa using hg)
  exact ⟨fn', c', a1, a2, a3⟩

end
end Go.Pair

/- The numbers of sync.WaitGroup's functions and types in this program. -/
set_option maxRecDepth 100000
namespace Go.Proofs
abbrev Tryz.link : Go.Conc.Lib.WgLink := { add := 158, done := 160, wait := 162, relMerge := 205, disable := 206, enable := 207, inBubble := 208, associate := 209, fatal := 210, uOr := 211, uAdd := 212, raceRead := 213, uLoad := 214, uStore := 215, disassociate := 216, semrelease := 217, acquire := 221, isAssociated := 222, uCas := 223, raceWrite := 224, semacquire := 225, orU64 := 262, addU64 := 263, loadU64 := 264, storeU64 := 265, casU64 := 266, tWgP := 313, tUP := 315, tAssoc := 316, tWg := 271, tAU := 268, tU64 := 266, tUint := 212, tU32 := 269, tPU32 := 320, tPAU := 365, tPU64 := 367, tNoCopy := 263, tANoCopy := 264, tAlign64 := 265 }
theorem Tryz.wgLib : Go.Conc.Lib.WgLib Tryz.prog Tryz.link :=
  ⟨Tryz.func158, Tryz.func160, Tryz.func162, Tryz.func205, Tryz.func206, Tryz.func207, Tryz.func208, Tryz.func209, Tryz.func210, Tryz.func211, Tryz.func212, Tryz.func213, Tryz.func214, Tryz.func215, Tryz.func216, Tryz.func217, Tryz.func221, Tryz.func222, Tryz.func223, Tryz.func224, Tryz.func225, Tryz.func262, Tryz.func263, Tryz.func264, Tryz.func265, Tryz.func266, Tryz.underlying313, Tryz.runUnderlying313, Tryz.sizeOf313, Tryz.isAgg313, Tryz.zeroValue313, Tryz.underlying315, Tryz.runUnderlying315, Tryz.sizeOf315, Tryz.isAgg315, Tryz.zeroValue315, Tryz.underlying316, Tryz.runUnderlying316, Tryz.sizeOf316, Tryz.isAgg316, Tryz.zeroValue316, Tryz.underlying271, Tryz.runUnderlying271, Tryz.sizeOf271, Tryz.isAgg271, Tryz.zeroValue271, Tryz.underlying268, Tryz.runUnderlying268, Tryz.sizeOf268, Tryz.isAgg268, Tryz.zeroValue268, Tryz.underlying266, Tryz.runUnderlying266, Tryz.sizeOf266, Tryz.isAgg266, Tryz.zeroValue266, Tryz.underlying212, Tryz.runUnderlying212, Tryz.sizeOf212, Tryz.isAgg212, Tryz.zeroValue212, Tryz.underlying269, Tryz.runUnderlying269, Tryz.sizeOf269, Tryz.isAgg269, Tryz.zeroValue269, Tryz.underlying320, Tryz.runUnderlying320, Tryz.sizeOf320, Tryz.isAgg320, Tryz.zeroValue320, Tryz.underlying365, Tryz.runUnderlying365, Tryz.sizeOf365, Tryz.isAgg365, Tryz.zeroValue365, Tryz.underlying367, Tryz.runUnderlying367, Tryz.sizeOf367, Tryz.isAgg367, Tryz.zeroValue367, Tryz.underlying0, Tryz.runUnderlying0, Tryz.sizeOf0, Tryz.isAgg0, Tryz.zeroValue0, Tryz.underlying3, Tryz.runUnderlying3, Tryz.sizeOf3, Tryz.isAgg3, Tryz.zeroValue3, Tryz.underlying4, Tryz.runUnderlying4, Tryz.sizeOf4, Tryz.isAgg4, Tryz.zeroValue4, Tryz.underlying9, Tryz.runUnderlying9, Tryz.sizeOf9, Tryz.isAgg9, Tryz.zeroValue9, Tryz.underlying20, Tryz.runUnderlying20, Tryz.sizeOf20, Tryz.isAgg20, Tryz.zeroValue20, Tryz.underlying21, Tryz.runUnderlying21, Tryz.sizeOf21, Tryz.isAgg21, Tryz.zeroValue21, (by kernel_rfl), (by kernel_rfl)⟩

end Go.Proofs

/- Each in Cut's seat: whose memory is whose while the worker cuts and the caller gathers. -/
set_option maxRecDepth 100000
namespace Go.Proofs.YtlghcldiboecoaaGreatDoor.Cu
open Go Go.Conc Go.Pair

def bc (b : List UInt8) : List Value := b.map fun c => .int .u8 (c.toNat : Int)

structure EP where
  R : Nat
  pb : Nat
  Vb : Nat
  Wg : Nat
  Ch : Nat
  Low : Nat
  Shun : Loc → Prop
  Fix : Nat → Option Obj

def EP.keepAt (E : EP) (i : Nat) : Prop := i < E.Low ∧ i ≠ E.R ∧ i ≠ E.pb ∧ i ≠ E.Vb ∧ i ≠ E.Wg ∧ i ≠ E.Ch

def EP.still (E : EP) (a : Addr) : Prop := a.block < E.Low ∧ a.block ≠ E.R ∧ a.block ≠ E.pb ∧ a.block ≠ E.Vb ∧ a.block ≠ E.Wg ∧ a.block ≠ E.Ch ∧ ¬ E.Shun (.cell a)

structure EP.Ok (E : EP) : Prop where
  r : E.R < E.Low
  p : E.pb < E.Low
  v : E.Vb < E.Low
  g : E.Wg < E.Low
  c : E.Ch < E.Low
  rv : E.R ≠ E.Vb
  pv : E.pb ≠ E.Vb
  rg : E.R ≠ E.Wg
  rc : E.R ≠ E.Ch
  pg : E.pb ≠ E.Wg
  pc : E.pb ≠ E.Ch
  vg : E.Vb ≠ E.Wg
  vc : E.Vb ≠ E.Ch
  gc : E.Wg ≠ E.Ch
  shun : ∀ l, E.Shun l → ∃ a : Addr, l = .cell a ∧ a.block < E.Low ∧ a.block ≠ E.R ∧ a.block ≠ E.pb ∧ a.block ≠ E.Vb ∧ a.block ≠ E.Wg
  fix : ∀ i o, E.Fix i = some o → E.keepAt i

def kindAt (w : World) (i : Nat) (t : TypeId) : Prop := ∃ o, w.heap[i]? = some o ∧ kindOf o = some t
def EP.LB (E : EP) (w : World) (l : Loc) (x : Bool) : Prop := ∃ a : Addr, l = .cell a ∧ ((a.block = E.R ∨ a.block = E.pb) ∨ (E.Low ≤ a.block ∧ kindAt w a.block 5) ∨ (x = false ∧ E.still a))
def EP.LA (E : EP) (w : World) (l : Loc) (x : Bool) : Prop := ∃ a : Addr, l = .cell a ∧ (a.block = E.Vb ∨ (E.Low ≤ a.block ∧ kindAt w a.block 57) ∨ (x = false ∧ E.still a))
def EP.KA (E : EP) (i : Nat) (o : Obj) : Prop := i ≠ E.Wg ∧ i ≠ E.Ch ∧ i ≠ E.R ∧ i ≠ E.pb ∧ ¬ (E.Low ≤ i ∧ kindOf o = some 5)
def EP.KB (E : EP) (i : Nat) (o : Obj) : Prop := i ≠ E.Wg ∧ i ≠ E.Ch ∧ i ≠ E.Vb ∧ ¬ (E.Low ≤ i ∧ kindOf o = some 57)
def EP.Msg (E : EP) (b : List UInt8) (v : Value) (w : World) : Prop := ∃ r, E.Low ≤ r ∧ v = .slice (some ⟨r, 0, none⟩) b.length b.length ∧ w.heap[r]? = some (.cells (bc b).toArray 5)

theorem kindAt.grow {w w' : World} {i : Nat} {t : TypeId} (h : kindAt w i t) (g : Grow w w') : kindAt w' i t := by
  obtain ⟨o, h1, h2⟩ := h
  obtain ⟨o', h3, h4⟩ := g.kind i o h1
  exact ⟨o', h3, h4.trans h2⟩

theorem kindAt.uniq {w : World} {i : Nat} (h : kindAt w i 5) (h' : kindAt w i 57) : False := by
  obtain ⟨o, h1, h2⟩ := h
  obtain ⟨o', h3, h4⟩ := h'
  rw [h1] at h3
  obtain rfl := Option.some.inj h3
  rw [h2] at h4
  exact absurd h4 (by decide)

theorem EP.Ok.parts {E : EP} (O : E.Ok) : Parts E.Shun E.Wg E.Ch E.LA E.LB := by
  have out : ∀ a : Addr, E.still a → ¬ IsWg E.Wg (.cell a) ∧ (Loc.cell a) ≠ .obj E.Ch ∧ ¬ E.Shun (.cell a) := fun a h => ⟨fun ⟨b, e, hb⟩ => by cases e; exact h.2.2.2.2.1 hb, by simp, h.2.2.2.2.2.2⟩
  refine ⟨fun w l x y hA hB => ?_, fun w l x h => ?_, fun w l x h => ?_, fun w w' l x g h => ?_, fun w w' l x g h => ?_, fun l hl hs => ?_, fun hs => ?_⟩
  · obtain ⟨a, rfl, hA⟩ := hA
    obtain ⟨a', e, hB⟩ := hB
    cases e
    rcases hA with hA | ⟨hA, kA⟩ | ⟨hx, sA⟩
    · exfalso
      rcases hB with (hB | hB) | ⟨hB, kB⟩ | ⟨hy, sB⟩
      · exact O.rv (hB.symm.trans hA)
      · exact O.pv (hB.symm.trans hA)
      · have := O.v; omega
      · exact sB.2.2.2.1 hA
    · exfalso
      rcases hB with (hB | hB) | ⟨hB, kB⟩ | ⟨hy, sB⟩
      · have := O.r; omega
      · have := O.p; omega
      · exact kB.uniq kA
      · have := sB.1; omega
    · rcases hB with (hB | hB) | ⟨hB, kB⟩ | ⟨hy, sB⟩
      · exact absurd hB sA.2.1
      · exact absurd hB sA.2.2.1
      · have := sA.1; omega
      · exact ⟨hx, hy⟩
  · obtain ⟨a, rfl, h⟩ := h
    rcases h with h | ⟨h, k⟩ | ⟨_, s⟩
    · refine ⟨fun ⟨b, e, hb⟩ => by cases e; exact O.vg (h.symm.trans hb), by simp, fun hs => ?_⟩
      obtain ⟨b, e, h1⟩ := O.shun _ hs
      cases e
      exact h1.2.2.2.1 h
    · refine ⟨fun ⟨b, e, hb⟩ => by cases e; have := O.g; omega, by simp, fun hs => ?_⟩
      obtain ⟨b, e, h1⟩ := O.shun _ hs
      cases e
      have := h1.1
      omega
    · exact out a s
  · obtain ⟨a, rfl, h⟩ := h
    rcases h with (h | h) | ⟨h, k⟩ | ⟨_, s⟩
    · refine ⟨fun ⟨b, e, hb⟩ => by cases e; exact O.rg (h.symm.trans hb), by simp, fun hs => ?_⟩
      obtain ⟨b, e, h1⟩ := O.shun _ hs
      cases e
      exact h1.2.1 h
    · refine ⟨fun ⟨b, e, hb⟩ => by cases e; exact O.pg (h.symm.trans hb), by simp, fun hs => ?_⟩
      obtain ⟨b, e, h1⟩ := O.shun _ hs
      cases e
      exact h1.2.2.1 h
    · refine ⟨fun ⟨b, e, hb⟩ => by cases e; have := O.g; omega, by simp, fun hs => ?_⟩
      obtain ⟨b, e, h1⟩ := O.shun _ hs
      cases e
      have := h1.1
      omega
    · exact out a s
  · obtain ⟨a, rfl, h⟩ := h
    exact ⟨a, rfl, h.imp id fun h => h.imp (fun h => ⟨h.1, h.2.grow g⟩) id⟩
  · obtain ⟨a, rfl, h⟩ := h
    exact ⟨a, rfl, h.imp id fun h => h.imp (fun h => ⟨h.1, h.2.grow g⟩) id⟩
  · obtain ⟨b, e, h1⟩ := O.shun _ hs
    subst e
    obtain ⟨a, e, ha⟩ := hl
    cases e
    exact h1.2.2.2.2 ha
  · obtain ⟨b, e, _⟩ := O.shun _ hs
    cases e

theorem EP.keepAt.still {E : EP} {i : Nat} (h : E.keepAt i) {a : Addr} (e : a.block = i) (hs : ¬ E.Shun (.cell a)) : E.still a := by
  subst e
  exact ⟨h.1, h.2.1, h.2.2.1, h.2.2.2.1, h.2.2.2.2.1, h.2.2.2.2.2, hs⟩

noncomputable def EP.cfg (E : EP) (k : Nat) (FB : List (List UInt8 × Value) → World → Prop) (PostA : List (List UInt8 × Value) → Goroutine → World → Prop) : Cfg :=
  { P := Tryz.prog, Shun := E.Shun, k, Wg := E.Wg, Ch := E.Ch, ty := 271, LA := E.LA, LB := E.LB, KA := E.KA, KB := E.KB, β := List UInt8, Msg := E.Msg, FB, PostA }

theorem EP.Ok.cfg {E : EP} (O : E.Ok) {k : Nat} {FB : List (List UInt8 × Value) → World → Prop} {PostA : List (List UInt8 × Value) → Goroutine → World → Prop} (hk : 0 < k) (hF : ∀ sent w w', Keeps E.KB w w' → FB sent w → FB sent w') (hP : ∀ sent g w d, PostA sent g (w.at d) ↔ PostA sent g w) : (E.cfg k FB PostA).Ok where
  hk := hk
  parts := O.parts
  neq := O.gc
  ka := fun i o h => ⟨h.1, h.2.1⟩
  kb := fun i o h => ⟨h.1, h.2.1⟩
  msgB := fun b v w w' h ⟨r, h1, h2, h3⟩ => ⟨r, h1, h2, h.keep r _ h3 ⟨by have := O.g; omega, by have := O.c; omega, by have := O.v; omega, fun ⟨_, x⟩ => by simp [kindOf] at x⟩⟩
  fbB := hF
  postAt := hP

end Go.Proofs.YtlghcldiboecoaaGreatDoor.Cu

/- What the worker holds of the Cutter; the length that stands in its part. -/
set_option maxRecDepth 100000
namespace Go.Proofs.YtlghcldiboecoaaGreatDoor.Cu
open Go Go.Conc Go.Pair Go.RowKit

def PartAt (E : EP) (sent : List (List UInt8 × Value)) (w : World) (p : List UInt8) (v : Value) : Prop :=
  (v = .slice none 0 0 ∧ p = []) ∨ ∃ q c cells, v = .slice (some ⟨q, 0, none⟩) p.length c ∧ p.length ≤ c ∧ w.heap[q]? = some (.cells cells 5) ∧ cells.size = c ∧ (∀ i (h : i < p.length), cells[i]? = some (.int .u8 (p[i].toNat : Int))) ∧
    (q = E.pb ∨ E.Low ≤ q) ∧ q ≠ E.R ∧ (∀ x ∈ sent, ∀ n m, x.2 ≠ .slice (some ⟨q, 0, none⟩) n m) ∧ c ≤ maxLen

def Dis (sent : List (List UInt8 × Value)) : Prop := sent.Pairwise fun x y => x.2.ownBlock ≠ y.2.ownBlock

structure BView (E : EP) (sent : List (List UInt8 × Value)) (p : List UInt8) (v : Value) (tl : Bool) (w : World) : Prop where
  r : w.heap[E.R]? = some (.cells #[v, .bool tl] 237)
  part : PartAt E sent w p v
  low : E.Low ≤ w.heap.size
  old : ∀ x ∈ sent, ∃ r n m, x.2 = .slice (some ⟨r, 0, none⟩) n m ∧ r < w.heap.size
  src : ∀ i o, E.Fix i = some o → w.heap[i]? = some o
  wg : WgAny 271 E.Wg w
  dis : Dis sent

section
variable {E : EP} {sent : List (List UInt8 × Value)} {p : List UInt8} {v : Value} {tl : Bool} {w w₁ : World} {k : Nat} {FB : List (List UInt8 × Value) → World → Prop} {PostA : List (List UInt8 × Value) → Goroutine → World → Prop}

theorem EP.Ok.src (O : E.Ok) (h : ∀ i o, E.Fix i = some o → w.heap[i]? = some o) (r : RB (E.cfg k FB PostA) w w₁) {i : Nat} {o : Obj} (e : E.Fix i = some o) : w₁.heap[i]? = some o := by
  have hs := O.fix i o e
  exact r.keep.keep _ _ (h i o e) ⟨hs.2.2.2.2.1, hs.2.2.2.2.2, hs.2.2.2.1, fun ⟨x, _⟩ => by have := hs.1; omega⟩

theorem BView.rely (O : E.Ok) (h : BView E sent p v tl w) (r : RB (E.cfg k FB PostA) w w₁) : BView E sent p v tl w₁ := by
  refine ⟨r.keep.keep _ _ h.r ⟨O.rg, O.rc, O.rv, fun ⟨x, _⟩ => by have := O.r; omega⟩, ?_, Nat.le_trans h.low r.keep.size, fun x hx => let ⟨b, n, m, h1, h2⟩ := h.old x hx; ⟨b, n, m, h1, Nat.lt_of_lt_of_le h2 r.keep.size⟩, fun i o e => O.src (h.src) r e, r.wg h.wg, h.dis⟩
  rcases h.part with h1 | ⟨q, c, cells, h1, h2, h3, h4, h5, h6, h7, h8⟩
  · exact .inl h1
  · refine .inr ⟨q, c, cells, h1, h2, r.keep.keep _ _ h3 ?_, h4, h5, h6, h7, h8⟩
    rcases h6 with rfl | h6
    · exact ⟨O.pg, O.pc, O.pv, fun ⟨x, _⟩ => by have := O.p; omega⟩
    · exact ⟨by have := O.g; omega, by have := O.c; omega, by have := O.v; omega, fun ⟨_, x⟩ => by simp [kindOf] at x⟩

theorem BView.c0 (h : BView E sent p v tl w) : w.cell? ⟨E.R, 0, none⟩ = some v := by simp [World.cell?, h.r]
theorem BView.c1 (h : BView E sent p v tl w) : w.cell? ⟨E.R, 1, none⟩ = some (.bool tl) := by simp [World.cell?, h.r]

theorem termsB (C : Cfg) (sent : List (C.β × Value)) : Terms (RB C) (DB C sent) := ⟨fun _ _ _ h k => h.trans k, fun w => ⟨.refl _ _, fun _ _ h => h, .refl _, rfl, rfl, by simp⟩⟩

theorem db_read {C : Cfg} {sent : List (C.β × Value)} {w : World} {es : Array Event} (h : ∀ e ∈ es, EvP C.LB w e) : DB C sent w w es := ⟨.refl _ _, fun _ _ h => h, .refl _, rfl, rfl, h⟩

theorem evR (h : BView E sent p v tl w) (i : Nat) : EvP (E.cfg k FB PostA).LB w ⟨.cell ⟨E.R, i, none⟩, false, false⟩ := .inr ⟨_, _, rfl, ⟨_, rfl, .inl (.inl rfl)⟩, lt_of_get h.r⟩

theorem BView.shape (h : BView E sent p v tl w) : ∃ a c, v = .slice a p.length c := by
  rcases h.part with ⟨rfl, rfl⟩ | ⟨q, c, cells, h1, _⟩
  · exact ⟨none, 0, rfl⟩
  · exact ⟨_, _, h1⟩

theorem BView.long (h : BView E sent p v tl w) (h0 : 0 < p.length) : ∃ q c, v = .slice (some ⟨q, 0, none⟩) p.length c ∧ p.length ≤ c ∧ c ≤ maxLen := by
  rcases h.part with ⟨rfl, rfl⟩ | ⟨q, c, cells, h1, h2, h3, h4, h5, h6, h7, h8, h9⟩
  · simp at h0
  · exact ⟨q, c, h1, h2, h9⟩

theorem BView.byte {q c : Nat} (h : BView E sent p (.slice (some ⟨q, 0, none⟩) p.length c) tl w) (i : Nat) (hi : i < p.length) : w.cell? ⟨q, i, none⟩ = some (.int .u8 (p[i].toNat : Int)) := by
  rcases h.part with ⟨h1, rfl⟩ | ⟨q', c', cells, h1, h2, h3, h4, h5, _⟩
  · simp at hi
  · cases h1
    simp [World.cell?, h3, h5 i hi]

theorem BView.evQ {q c : Nat} (h : BView E sent p (.slice (some ⟨q, 0, none⟩) p.length c) tl w) (i : Nat) : EvP (E.cfg k FB PostA).LB w ⟨.cell ⟨q, i, none⟩, false, false⟩ := by
  rcases h.part with ⟨h1, rfl⟩ | ⟨q', c', cells, h1, h2, h3, h4, h5, h6, _⟩
  · cases h1
  · cases h1
    refine .inr ⟨_, _, rfl, ⟨_, rfl, ?_⟩, lt_of_get h3⟩
    rcases h6 with h6 | h6
    · exact .inl (.inr h6)
    · exact .inr (.inl ⟨h6, _, h3, rfl⟩)

def uns (l : List UInt8) : Nat := l.foldl (fun x c => x * 256 + c.toNat) 0
theorem uns_snoc (l : List UInt8) (k : Nat) (h : k < l.length) : uns (l.take (k + 1)) = uns (l.take k) * 256 + l[k].toNat := by
  rw [List.take_succ_eq_append_getElem h]
  unfold uns
  rw [List.foldl_append]
  rfl

theorem uns_lt : ∀ (l : List UInt8) (k : Nat), k ≤ l.length → uns (l.take k) < 256 ^ k
  | l, 0, _ => by simp [uns]
  | l, k + 1, h => by
    have := uns_lt l k (by omega)
    rw [uns_snoc l k (by omega), Nat.pow_succ]
    have := UInt8.toNat_lt l[k]
    omega

theorem or_byte (X c : Nat) (hX : X < 72057594037927936) (hc : c < 256) : bits .or .u64 ((X : Int) * 256) (c : Int) = ((X * 256 + c : Nat) : Int) := by
  have e : ((X : Int) * 256) = ((X * 256 : Nat) : Int) := by omega
  rw [e, u64_or_nat _ _ (by omega) (by omega)]
  have := Nat.shiftLeft_add_eq_or_of_lt (i := 8) (b := c) (by omega) X
  rw [Nat.shiftLeft_eq] at this
  rw [← this]

def UInv (E : EP) (sent : List (List UInt8 × Value)) (p : List UInt8) (q c c' : Nat) (tl : Bool) (a : Act) (w : World) : Prop :=
  ∃ (i : Nat) (v5 v9 v10 v11 v12 v13 v14 v15 v16 v17 : Value), i ≤ 4 ∧ BView E sent p (.slice (some ⟨q, 0, none⟩) p.length c) tl w ∧
    a = { tmps := #[.slice (some ⟨q, 0, none⟩) 4 c', undef, .int .u64 0, .int .u64 (uns (p.take i) : Int), undef, v5, .slice (some ⟨q, 0, none⟩) 4 c', .int .i64 4, .int .i64 (i : Int), v9, v10, v11, v12, v13, v14, v15, v16, v17, undef], defers := [] }

def UMu (a : Act) (_ : World) : Nat := match a.tmps.getD 8 undef with | .int _ j => 4 - j.toNat | _ => 0

set_option maxRecDepth 100000 in
set_option maxHeartbeats 1000000 in
theorem unsigned_c (O : E.Ok) (h4 : 4 ≤ p.length) : ∃ m, ∀ (q c c' : Nat) w, BView E sent p (.slice (some ⟨q, 0, none⟩) p.length c) tl w →
    CallsC Tryz.prog false (RB (E.cfg k FB PostA)) (DB (E.cfg k FB PostA) sent) 251 #[.slice (some ⟨q, 0, none⟩) 4 c'] m w fun x w' => x = .int .u64 (uns (p.take 4) : Int) ∧ BView E sent p (.slice (some ⟨q, 0, none⟩) p.length c) tl w' := by
  have T := termsB (E.cfg k FB PostA) sent
  co_apply Exists.intro
  intro q c c' w hF
  co_apply callsC_of_wpC Tryz.func251 (by rfl) rfl
  simp only [Tryz.ntmps251, List.size_toArray, List.length_cons, List.length_nil, Nat.reduceAdd, Nat.reduceSub, Array.replicate_succ, Array.replicate_zero, List.push_toArray, List.append_toArray, List.nil_append, List.cons_append]
  co_go T (BView.rely O) hF (co_quiet T)
  co_apply wpC_loop T (UInv E sent p q c c' tl) UMu _ 4
  · exact ⟨0, _, _, _, _, _, _, _, _, _, _, by omega, hF, rfl⟩
  · simp [UMu]
  · rintro a w' ⟨i, v5, v9, v10, v11, v12, v13, v14, v15, v16, v17, hi, hS, rfl⟩
    co_go T (BView.rely O) hS (co_quiet T)
    co_split T (decide ((i : Int) < 4))
    · intro hi4
      have hi4' : i < 4 := by have := of_decide_eq_true hi4; omega
      have hiz : (i : Int) < 4 := by omega
      have hsn := uns_snoc p i (by omega)
      have hlt := uns_lt p i (by omega)
      have hb := UInt8.toNat_lt p[i]
      co_ctl T
      co_then
      co_apply wpC_seq T
      co_apply wpC_block T
      co_apply wpC_seq T
      co_reg T
      co_opw (BView.rely O) hS (skip) (co_still T)
      co_opw (BView.rely O) hS (have hc := hS.byte i (by omega)) (refine db_read ?_; co_evs (exact hS.evQ i))
      clear hc
      co_op (BView.rely O) hS (co_quiet T)
      co_apply opsC_nil T
      co_then
      co_go T (BView.rely O) hS (co_quiet T)
      have hX : uns (p.take i) < 16777216 := Nat.lt_of_lt_of_le hlt (by
        have : 256 ^ i ≤ 256 ^ 3 := Nat.pow_le_pow_right (by omega) (by omega)
        exact this)
      have e1 : IntKind.u64.wrap ((uns (p.take i) : Int) * 256) = (uns (p.take i) : Int) * 256 := by rw [IntKind.wrap_u64]; omega
      have e2 : IntKind.u64.wrap ((p[i].toNat : Nat) : Int) = ((p[i].toNat : Nat) : Int) := by rw [IntKind.wrap_u64]; omega
      have e3 : IntKind.i64.wrap ((i : Int) + 1) = ((i + 1 : Nat) : Int) := by rw [IntKind.wrap_i64]; omega
      have e4 := or_byte (uns (p.take i)) p[i].toNat (by omega) hb
      rw [← hsn] at e4
      simp only [e1, e2, e3, e4]
      refine ⟨⟨i + 1, _, _, _, _, _, _, _, _, _, _, by omega, hS, rfl⟩, ?_⟩
      simp [UMu]
      omega
    · intro hi4
      obtain rfl : i = 4 := by have := of_decide_eq_false hi4; omega
      co_go T (BView.rely O) hS (co_quiet T)
      exact ⟨rfl, _, resultsC_tmp (by rfl) _, rfl, hS⟩

set_option maxRecDepth 100000 in
theorem length_short (O : E.Ok) (hp : p.length < 4) : ∃ m, ∀ v w, BView E sent p v tl w →
    CallsC Tryz.prog false (RB (E.cfg k FB PostA)) (DB (E.cfg k FB PostA) sent) 219 #[.pointer (some ⟨E.R, 0, none⟩)] m w fun x w' => x = .int .u64 0 ∧ BView E sent p v tl w' := by
  have T := termsB (E.cfg k FB PostA) sent
  co_apply Exists.intro
  intro v w hF
  obtain ⟨va, vc, rfl⟩ := hF.shape
  co_apply callsC_of_wpC Tryz.func219 (by rfl) rfl
  simp only [Tryz.ntmps219, List.size_toArray, List.length_cons, List.length_nil, Nat.reduceAdd, Nat.reduceSub, Array.replicate_succ, Array.replicate_zero, List.push_toArray, List.append_toArray, List.nil_append, List.cons_append]
  have hlt : ((p.length : Nat) : Int) < 4 := by omega
  co_stmt T (BView.rely O) hF (co_quiet T)
  co_apply wpC_seq (n₂ := 0) T
  co_apply wpC_seq T
  co_reg T
  co_op (BView.rely O) hF (co_quiet T)
  co_op (BView.rely O) hF (co_quiet T)
  co_op (BView.rely O) hF (co_quiet T)
  co_opw (BView.rely O) hF (have hc := hF.c0) (refine db_read ?_; co_evs (exact evR hF 0))
  co_op (BView.rely O) hF (co_quiet T)
  co_op (BView.rely O) hF (co_quiet T)
  co_apply opsC_nil T
  co_then
  co_apply wpC_cond T (t := true) rfl
  simp only [if_true]
  co_go T (BView.rely O) hF (co_quiet T)
  exact ⟨rfl, _, resultsC_tmp (by rfl) _, rfl, hF⟩

end
end Go.Proofs.YtlghcldiboecoaaGreatDoor.Cu
