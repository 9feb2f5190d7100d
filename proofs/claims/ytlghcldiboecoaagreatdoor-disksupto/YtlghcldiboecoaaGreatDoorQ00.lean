/- Plain mathematics of values: schemas, their types, the bytes of values; that what is read is laid down again as the same bytes. -/
import Derived.Test.YtlghcldiboecoaaGreatDoorProg
import Derived.WalkKit
import Derived.WalkSpells
import Derived.WalkLawsBesides
import Derived.Handy
import Derived.Outline
import Derived.Laws.BitsAllLaws
import Derived.Deep.Light
import Derived.Lib.Strings
import Derived.Deep.AppendLies
import Derived.Deep.RegionWith
import Derived.BigQuiet
import Derived.Deep.QuietTactic
import Derived.Lib.AppendStr
import Derived.Maps.AppendAt
set_option linter.unusedSimpArgs false
set_option linter.unusedVariables false
set_option linter.unusedVariables false
set_option linter.unusedVariables false
set_option linter.unusedVariables false
set_option linter.unusedVariables false
namespace Orch

structure Lt where
  sign : UInt8
  shape : Nat
  size : Nat
  least : Int
  most : Int
  text : Bool
  fin : UInt8

instance : Inhabited Lt := ⟨⟨0, 0, 0, 0, 0, false, 0⟩⟩

def letters : List Lt :=
  [⟨63, 0, 1, 0, 1, false, 0⟩, ⟨52, 0, 4, -2147483648, 2147483647, false, 0⟩, ⟨56, 0, 8, -9223372036854775808, 9223372036854775807, false, 0⟩,
   ⟨98, 1, 0, 0, 0, false, 0⟩, ⟨116, 1, 0, 0, 0, true, 0⟩, ⟨91, 2, 0, 0, 0, false, 93⟩, ⟨40, 3, 0, 0, 0, false, 41⟩]

def find (c : UInt8) : Option Lt := letters.find? fun l => l.sign == c

inductive Ty where
  | mk (l : Lt) (ps : List Ty)

instance : Inhabited Ty := ⟨.mk default []⟩

def Ty.l : Ty → Lt | .mk l _ => l
def Ty.ps : Ty → List Ty | .mk _ ps => ps

inductive V where
  | mk (n : Int) (s : ByteArray) (l : List V)

def V.n : V → Int | .mk n _ _ => n
def V.s : V → ByteArray | .mk _ s _ => s
def V.l : V → List V | .mk _ _ l => l

def part (t : Ty) (i : Nat) : Ty := if t.l.shape = 2 then t.ps.getD 0 default else t.ps.getD i default

/- the schema's text -/
def parts (f : List UInt8 → Option (Ty × List UInt8)) (l : Lt) : Nat → List UInt8 → List Ty → Option (List Ty × List UInt8)
  | 0, _, _ => none
  | _ + 1, [], _ => none
  | n + 1, c :: r, acc =>
    if c = l.fin then (if acc.length = 0 ∨ l.shape = 2 ∧ 1 < acc.length then none else some (acc, r))
    else match f (c :: r) with
      | none => none
      | some (t, rest) => parts f l n rest (acc ++ [t])

def ptype : Nat → List UInt8 → Option (Ty × List UInt8)
  | 0, _ => none
  | _ + 1, [] => none
  | k + 1, c :: r => match find c with
    | none => none
    | some l => if l.fin = 0 then some (.mk l [], r) else match parts (ptype k) l (r.length + 1) r [] with
      | none => none
      | some (ps, rest) => some (.mk l ps, rest)

/- numbers as bytes -/
def be (n : Int) : Nat → List UInt8
  | 0 => []
  | k + 1 => UInt8.ofNat ((n / 256 ^ k) % 256).toNat :: be n k

def uns (l : List UInt8) : Nat := l.foldl (fun x c => x * 256 + c.toNat) 0
def sgn (l : List UInt8) : Int := if 256 ^ l.length ≤ 2 * uns l then (uns l : Int) - 256 ^ l.length else uns l

theorem be_length (n : Int) : ∀ k, (be n k).length = k
  | 0 => rfl
  | k + 1 => by simp [be, be_length n k]

theorem uns_foldl (l : List UInt8) : ∀ x, l.foldl (fun x c => x * 256 + c.toNat) x = x * 256 ^ l.length + uns l := by
  induction l with
  | nil => intro x; simp [uns]
  | cons c r ih =>
    intro x
    simp only [List.foldl_cons, List.length_cons, uns]
    rw [ih, ih (0 * 256 + c.toNat), Nat.pow_succ, Nat.zero_mul, Nat.zero_add, Nat.add_mul, Nat.mul_assoc, Nat.mul_comm (256 ^ r.length) 256, Nat.add_assoc]

theorem uns_cons (c : UInt8) (r : List UInt8) : uns (c :: r) = c.toNat * 256 ^ r.length + uns r := by
  show List.foldl _ _ _ = _
  rw [List.foldl_cons, uns_foldl, Nat.zero_mul, Nat.zero_add]

theorem uns_lt (l : List UInt8) : uns l < 256 ^ l.length := by
  induction l with
  | nil => simp [uns]
  | cons c r ih =>
    rw [uns_cons, List.length_cons, Nat.pow_succ]
    have h : c.toNat < 256 := c.toNat_lt
    have : c.toNat * 256 ^ r.length ≤ 255 * 256 ^ r.length := Nat.mul_le_mul_right _ (by omega)
    omega

section
variable (valid : ByteArray → Bool)

def fits (t : Ty) (v : V) : Bool :=
  match t.l.shape with
  | 0 => decide (t.l.least ≤ v.n) && decide (v.n ≤ t.l.most) && decide (v.s.size = 0) && decide (v.l.length = 0)
  | 1 => decide (v.n = 0) && (decide (v.s.size ≤ 200) && (!t.l.text || valid v.s)) && decide (v.l.length = 0)
  | 2 => decide (v.n = 0) && decide (v.s.size = 0) && decide (v.l.length ≤ 32)
  | _ => decide (v.n = 0) && decide (v.s.size = 0) && decide (v.l.length = t.ps.length)

def head (t : Ty) (v : V) : List UInt8 :=
  match t.l.shape with
  | 0 => be v.n t.l.size
  | 1 => be v.s.size 4 ++ v.s.data.toList
  | 2 => be v.l.length 4
  | _ => []

end
end Orch

/- Plain mathematics of values: what is laid down is read again, with nothing left; with a byte more or less nothing is read. -/
namespace Orch

section
variable (valid : ByteArray → Bool)

end
end Orch

/- Plain mathematics of the maker: a text that is read as one type, a value of it, and the bytes that it is laid down as. -/
namespace Orch

section
variable (valid : ByteArray → Bool)

variable {valid}
end
end Orch

/- Plain mathematics of files: the sum, nodes, trees, files as bytes. -/
namespace Orch

/-- A node of a tree. -/
structure Node where
  path : ByteArray
  data : ByteArray
  note : ByteArray
  made : Int
  changed : Int
  version : Int

instance : Inhabited Node := ⟨⟨ByteArray.empty, ByteArray.empty, ByteArray.empty, 0, 0, 0⟩⟩

end Orch

/- Walks over numbers as bytes. -/
namespace Go.Proofs.YtlghcldiboecoaaGreatDoor
open Go.RowKit

/-- The bytes l lie in block b from off on. -/
def Bytes (w : World) (b off : Nat) (l : List UInt8) : Prop := ∀ i (h : i < l.length), w.cell? ⟨b, off + i, none⟩ = some (.int .u8 l[i].toNat)

theorem uns_snoc (l : List UInt8) (k : Nat) (h : k < l.length) : Orch.uns (l.take (k + 1)) = Orch.uns (l.take k) * 256 + l[k].toNat := by
  rw [List.take_succ_eq_append_getElem h]
  unfold Orch.uns
  rw [List.foldl_append]
  rfl

theorem ret_int {k : IntKind} {a b : Int} (h : a = b) : Ending.returned (.int k a) = .returned (.int k b) := by rw [h]
theorem val_int {k : IntKind} {a b : Int} (h : a = b) : Value.int k a = .int k b := by rw [h]

def bcells (l : List UInt8) : List Value := l.map fun c => .int .u8 c.toNat

theorem bcells_append (a b : List UInt8) : bcells (a ++ b) = bcells a ++ bcells b := List.map_append

theorem be_take (n : Int) (m : Nat) : ∀ size, m + 1 ≤ size → (Orch.be n size).take (size - m) = (Orch.be n size).take (size - (m + 1)) ++ [UInt8.ofNat ((n / 256 ^ m) % 256).toNat] := by
  intro size
  induction size with
  | zero => intro h; omega
  | succ k ih =>
    intro h
    unfold Orch.be
    by_cases e : m = k
    · subst e
      rw [show m + 1 - m = 1 by omega, show m + 1 - (m + 1) = 0 by omega]
      rfl
    · rw [show k + 1 - m = (k - m) + 1 by omega, show k + 1 - (m + 1) = (k - (m + 1)) + 1 by omega, List.take_succ_cons, List.take_succ_cons, ih (by omega)]
      rfl

theorem byte_of (n : Int) (m : Nat) (hm : m ≤ 7) : IntKind.u64.wrap n / 2 ^ (8 * m) % 256 = ((UInt8.ofNat ((n / 256 ^ m) % 256).toNat).toNat : Int) := by
  have e : IntKind.u64.wrap n = n % 18446744073709551616 := by simp [IntKind.wrap, IntKind.bits, IntKind.signed]
  have f : ∀ q : Int, ((UInt8.ofNat (q % 256).toNat).toNat : Int) = q % 256 := fun q => by
    rw [UInt8.toNat_ofNat']
    omega
  rw [e, f]
  match m, hm with
  | 0, _ => simp
  | 1, _ => omega
  | 2, _ => omega
  | 3, _ => omega
  | 4, _ => omega
  | 5, _ => omega
  | 6, _ => omega
  | 7, _ => omega

theorem Tryz.info5 : (Tryz.prog.info? 5).map (fun i => (i.zero, i.size, i.bytes)) = some (some (.int .u8 0), 1, 1) := by kernel_rfl

set_option maxHeartbeats 400000 in
/-- number.Append: the bytes of the number behind those that are there. -/
theorem append_any (w : World) (base : Nat) (v : Value) (n : Int) (size : Nat) (xs : List UInt8) (hs : size ≤ 8)
    (hown : w.ownsRow base 5 1 v xs.length (bcells xs)) (hbase : base ≤ w.heap.size) (hx : xs.length ≤ 100000) :
    Calls Tryz.prog 181 #[v, .int .i64 n, .int .i64 size] w fun e w' => ∃ v', e = .returned v' ∧ w'.ownsRow base 5 1 v' (xs ++ Orch.be n size).length (bcells (xs ++ Orch.be n size)) ∧ Below base w w' := by
  obtain ⟨i0, hi, hz0, hz1, hz2⟩ := info_parts Tryz.info5
  go_enter Tryz.func181, Tryz.ntmps181
  go_wp2
  go_loopw [0, 7] (fun u i wr => ∃ j : Nat, j ≤ size ∧ i = .int .i64 ((j : Int) - 1) ∧ Hid (wr.ownsRow base 5 1 u (xs ++ (Orch.be n size).take (size - j)).length (bcells (xs ++ (Orch.be n size).take (size - j)))) ∧ Hid (Below base w wr))
    (fun _ i _ => (intOf i + 1).toNat)
  case atStart => exact ⟨size, Nat.le_refl _, rfl, by show World.ownsRow _ _ _ _ _ _ _; rw [Nat.sub_self]; simpa using hown, Below.refl _ _⟩
  case round =>
    obtain ⟨j, hj, rfl, ho, hbw⟩ := hrel
    cases j with
    | zero =>
      go_wp2
      go_ret
      have e : (Orch.be n size).take (size - 0) = Orch.be n size := by rw [List.take_of_length_le (by rw [Orch.be_length]; omega)]
      have h1 := ho.out
      rw [e] at h1
      exact ⟨_, rfl, h1, hbw.out⟩
    | succ m =>
      rw [show ((m + 1 : Nat) : Int) - 1 = (m : Int) by omega]
      have hl : (xs ++ (Orch.be n size).take (size - (m + 1))).length ≤ 100008 := by
        rw [List.length_append, List.length_take, Orch.be_length]; omega
      have HT : Hid (xs ++ (Orch.be n size).take (size - m) = (xs ++ (Orch.be n size).take (size - (m + 1))) ++ [UInt8.ofNat ((n / 256 ^ m) % 256).toNat]) := by
        show _ = _
        rw [be_take n m size hj, List.append_assoc]
      have HB : Hid (IntKind.u64.wrap n / 2 ^ (8 * m) % 256 = ((UInt8.ofNat ((n / 256 ^ m) % 256).toNat).toNat : Int)) := byte_of n m (by omega)
      generalize xs ++ (Orch.be n size).take (size - (m + 1)) = L at *
      go_wp2_with (at_builtin; refine wpList_append_own _ rfl _ _ 57 rfl base 5 i0 (.int .u8 0) 1 1 Tryz.underlying57 hi hz0 hz1 hz2 rfl (by decide) _ _ _ rfl (ho.out.alloc _) ⟨wr.heap.size, 0, none⟩ 1 1 [_] rfl rfl (cell_one_new _ _ _) ?c2 ?c3 ?c4 ?c5 ?_)
      case c2 => intro u hu; simp at hu; subst hu; rfl
      case c3 => unfold maxLen; omega
      case c4 => omega
      case c5 => have := hbw.out.size; simp; omega
      intro v' w1 hown' hgrow _
      have hb1 : Hid (Below base w w1) := (hbw.out.alloc (by have := hbw.out.size; omega) _).grown hgrow (by have := hbw.out.size; simp; omega) (fun k hk => (ho.out.lt k hk).1)
      have hown2 : Hid (w1.ownsRow base 5 1 v' (xs ++ (Orch.be n size).take (size - m)).length (bcells (xs ++ (Orch.be n size).take (size - m)))) := by
        show World.ownsRow _ _ _ _ _ _ _
        rw [HT.out, bcells_append]
        rw [HB.out] at hown'
        simpa [bcells] using hown'
      clear hown' hgrow
      go_wp2
      go_roundw
      case rel => exact ⟨m, by omega, by go_num, hown2, hb1⟩
      case measure => first | (simp [intOf]; done) | (simp [intOf]; omega)

#print axioms append_any
end Go.Proofs.YtlghcldiboecoaaGreatDoor

/- Walks of fits and what it calls. -/
namespace Go.Proofs.YtlghcldiboecoaaGreatDoor
open Go.RowKit

abbrev vv (n : Int) (s : ByteArray) (l : Value) : Value := .agg #[.int .i64 n, .string s, l]

theorem ret_bool {a b : Bool} (h : a = b) : Ending.returned (.bool a) = .returned (.bool b) := by rw [h]
theorem toList_nil (s : ByteArray) : s.toList = [] ↔ s.size = 0 := by
  rw [Lib.toList_data, Lib.size_eq]; exact List.length_eq_zero_iff.symm

theorem below1 (w : World) (o : Obj) : Below w.heap.size w (w.alloc o) := (Below.refl _ _).alloc (Nat.le_refl _) o
theorem below2 (w : World) (o o' : Obj) : Below w.heap.size w ((w.alloc o).alloc o') := (below1 w o).alloc (by simp) o'
theorem below3 (w : World) (o o' o'' : Obj) : Below w.heap.size w (((w.alloc o).alloc o').alloc o'') := (below2 w o o').alloc (by simp; omega) o''

section
variable {valid : ByteArray → Bool} {Tabs : World → Prop}

end
end Go.Proofs.YtlghcldiboecoaaGreatDoor

/- How types and values lie in memory. -/
namespace Go.Proofs.YtlghcldiboecoaaGreatDoor
open Go.RowKit Orch

theorem flat_get {α β : Type} (f : α → List β) (k : Nat) (hf : ∀ x, (f x).length = k) : ∀ (L : List α) (i j : Nat), j < k → (L.flatMap f)[i * k + j]? = (L[i]?).bind fun x => (f x)[j]? := by
  intro L
  induction L with
  | nil => intro i j _; simp
  | cons x r ih =>
    intro i j hj
    rw [List.flatMap_cons]
    cases i with
    | zero =>
      rw [Nat.zero_mul, Nat.zero_add, List.getElem?_append_left (by rw [hf]; exact hj)]
      simp
    | succ i =>
      rw [List.getElem?_append_right (by rw [hf, Nat.succ_mul]; omega), hf, show (i + 1) * k + j - k = i * k + j by rw [Nat.succ_mul]; omega, ih i j hj]
      simp

abbrev vval (v : V) (l : Value) : Value := vv v.n v.s l

/-- The three cells of a value. -/
def vcell (p : V × Value) : List Value := [.int .i64 p.1.n, .string p.1.s, p.2]

theorem vcell_len (p : V × Value) : (vcell p).length = 3 := rfl

theorem getD_lt {α : Type} (l : List α) (i : Nat) (d : α) (h : i < l.length) : l.getD i d = l[i] := by
  rw [List.getD_eq_getElem?_getD, List.getElem?_eq_getElem h]; rfl

end Go.Proofs.YtlghcldiboecoaaGreatDoor

/- Walks of what is read. -/
namespace Go.Proofs.YtlghcldiboecoaaGreatDoor
open Go.RowKit

theorem below_drew {B : Nat} (w : World) : Below B w w.drew := (Below.refl B w).drew

/-- The world as a letter: what is known of it is all that is kept. -/
theorem wp_gen {P : Program} {c : Code} {Q : Exit → Act → World → Prop} {a : Act} {w : World} (F : World → Prop) (hF : F w) (h : ∀ W, F W → Code.wp P c Q a W) : Code.wp P c Q a w := h w hF

theorem cellOf {W : World} {g j : Nat} {cs : Array Value} {t : TypeId} {fr : Nat × Nat} {u : Value} (h : W.heap[g]? = some (.cells cs t fr)) (hu : cs[j]? = some u) : W.cell? ⟨g, j, none⟩ = some u := by
  rw [cell_of_row W g j cs t fr h]; exact hu

theorem frozenOf {W : World} {g j : Nat} {cs : Array Value} {t : TypeId} (h : W.heap[g]? = some (.cells cs t (0, 0))) : W.frozen? ⟨g, j, none⟩ = false := by simp [World.frozen?, h]
theorem ltOf {W : World} {g : Nat} {o : Obj} (h : W.heap[g]? = some o) : g < W.heap.size := (Array.getElem?_eq_some_iff.1 h).1

section
variable {valid : ByteArray → Bool} {Tabs : World → Prop}

end
end Go.Proofs.YtlghcldiboecoaaGreatDoor

/- The table of letters. -/
namespace Go.Proofs.YtlghcldiboecoaaGreatDoor
open Go.RowKit

/-- The cells of the table. -/
def letCells : Array Value := #[.int .u8 63, .int .i64 0, .int .i64 1, .int .i64 0, .int .i64 1, .bool false, .int .u8 0,
  .int .u8 52, .int .i64 0, .int .i64 4, .int .i64 (-2147483648), .int .i64 2147483647, .bool false, .int .u8 0,
  .int .u8 56, .int .i64 0, .int .i64 8, .int .i64 (-9223372036854775808), .int .i64 9223372036854775807, .bool false, .int .u8 0,
  .int .u8 98, .int .i64 1, .int .i64 0, .int .i64 0, .int .i64 0, .bool false, .int .u8 0,
  .int .u8 116, .int .i64 1, .int .i64 0, .int .i64 0, .int .i64 0, .bool true, .int .u8 0,
  .int .u8 91, .int .i64 2, .int .i64 0, .int .i64 0, .int .i64 0, .bool false, .int .u8 93,
  .int .u8 40, .int .i64 3, .int .i64 0, .int .i64 0, .int .i64 0, .bool false, .int .u8 41]

end Go.Proofs.YtlghcldiboecoaaGreatDoor

/- How lists of types and of values grow by append. -/
namespace Go.Proofs.YtlghcldiboecoaaGreatDoor
open Go.RowKit

theorem ownsRow_below {w w1 : World} {base : Nat} {e : TypeId} {size : Nat} {v : Value} {n : Nat} {xs : List Value} (h : w.ownsRow base e size v n xs) (hb : Below w.heap.size w w1) : w1.ownsRow base e size v n xs :=
  h.kept (row := none) ⟨hb.os, hb.tape, hb.output, hb.size, fun k hk _ => hb.block k hk⟩ (by cases hv : v.ownBlock <;> simp)

theorem ownBlock_lt {w : World} {base : Nat} {e : TypeId} {size : Nat} {v : Value} {n : Nat} {xs : List Value} (h : w.ownsRow base e size v n xs) {g : Nat} (hg : v.ownBlock = some g) : base ≤ g ∧ g < w.heap.size := h.lt g hg

end Go.Proofs.YtlghcldiboecoaaGreatDoor

/- parseParts. -/
namespace Go.Proofs.YtlghcldiboecoaaGreatDoor
open Go.RowKit

theorem hide {p : Prop} (h : p) : Hid p := h

end Go.Proofs.YtlghcldiboecoaaGreatDoor

/- parseType, Parse. -/
namespace Go.Proofs.YtlghcldiboecoaaGreatDoor
open Go.RowKit

end Go.Proofs.YtlghcldiboecoaaGreatDoor

/- parseType at a letter without brackets. -/
namespace Go.Proofs.YtlghcldiboecoaaGreatDoor
open Go.RowKit

end Go.Proofs.YtlghcldiboecoaaGreatDoor

/- parseType at a bracket. -/
namespace Go.Proofs.YtlghcldiboecoaaGreatDoor
open Go.RowKit

end Go.Proofs.YtlghcldiboecoaaGreatDoor

/- parseType and Parse, whole. -/
namespace Go.Proofs.YtlghcldiboecoaaGreatDoor
open Go.RowKit

end Go.Proofs.YtlghcldiboecoaaGreatDoor

/- What is appended to, and where it lies. -/
namespace Go.Proofs.YtlghcldiboecoaaGreatDoor
open Go.RowKit

structure Outs (w w' : World) (v v' : Value) : Prop where
  grown : w.grownBy w' v.ownBlock
  lies : v'.ownBlock = v.ownBlock ∨ ∃ g, v'.ownBlock = some g ∧ w.heap.size ≤ g

theorem Outs.refl (w : World) (v : Value) : Outs w w v v := ⟨⟨rfl, rfl, rfl, Nat.le_refl _, fun _ _ _ => rfl⟩, Or.inl rfl⟩

theorem Outs.trans {w0 w1 w2 : World} {a b c : Value} (h : Outs w0 w1 a b) (k : Outs w1 w2 b c) : Outs w0 w2 a c := by
  have s0 := h.grown.size
  refine ⟨⟨k.grown.os.trans h.grown.os, k.grown.tape.trans h.grown.tape, k.grown.output.trans h.grown.output, Nat.le_trans s0 k.grown.size, fun i hi hne => ?_⟩, ?_⟩
  · rw [k.grown.block i (by omega) ?_, h.grown.block i hi hne]
    intro e
    rcases h.lies with hl | ⟨g, hl, hg⟩
    · rw [hl] at e; exact hne e
    · rw [hl] at e
      simp only [Option.some.injEq] at e
      omega
  · rcases k.lies with kl | ⟨g, kl, hg⟩
    · rw [kl]; exact h.lies
    · exact Or.inr ⟨g, kl, by omega⟩

theorem Outs.from {w0 w1 w2 : World} {a b : Value} (k : Below w0.heap.size w0 w1) (h : Outs w1 w2 a b) : Outs w0 w2 a b :=
  ⟨⟨h.grown.os.trans k.os, h.grown.tape.trans k.tape, h.grown.output.trans k.output, Nat.le_trans k.size h.grown.size, fun i hi hne => (h.grown.block i (Nat.lt_of_lt_of_le hi k.size) hne).trans (k.block i hi)⟩, by
    rcases h.lies with hl | ⟨g, hl, hg⟩
    · exact Or.inl hl
    · exact Or.inr ⟨g, hl, Nat.le_trans k.size hg⟩⟩

theorem Outs.low {w0 w1 : World} {a b : Value} (h : Outs w0 w1 a b) {base : Nat} (hb : base ≤ w0.heap.size) (ha : ∀ g, a.ownBlock = some g → base ≤ g) : Below base w0 w1 :=
  ⟨h.grown.os, h.grown.tape, h.grown.output, h.grown.size, fun k hk => h.grown.block k (by omega) (fun e => by have := ha k e.symm; omega)⟩

theorem Outs.keep {w0 w1 : World} {a b : Value} (h : Outs w0 w1 a b) {g : Nat} {o : Obj} (hg : w0.heap[g]? = some o) (hne : a.ownBlock ≠ some g) : w1.heap[g]? = some o :=
  (h.grown.block g (ltOf hg) (fun e => hne e.symm)).trans hg

section
variable {P : Program} (w : World)
theorem run_append_own_string_at (base : Nat) (t u ty e : TypeId) (i : TypeInfo) (ht : P.underlying t = some (.slice e)) (hu : P.underlying u = some .string) (hi : P.info? e = some i) (hz : i.zero = some (.int .u8 0))
    (hsize : i.size = 1) (hby : i.bytes = 1)
    (v : Value) (n : Nat) (hn : 0 < n) (xs : List Value) (hown : w.ownsRow base e 1 v n xs) (s : ByteArray)
    (h63 : n + s.size ≤ maxLen) (hbytes : n + s.size ≤ 140737488355328) (hbase : base ≤ w.heap.size) :
    ∃ v' w', (Builtin.append_ #[t, u] ty #[v, .string s]).run P w = .ok v' w' ∧ w'.ownsRow base e 1 v' (n + s.size) (xs ++ Lib.strCells s) ∧ Outs w w' v v' := by
  obtain ⟨v', w', hr, h2, h3, _⟩ := Lib.run_append_own_string (P := P) w base t u ty e i ht hu hi hz hsize hby v n xs hown s h63 hbytes hbase
  refine ⟨v', w', hr, h2, h3, ?_⟩
  have hsmall : n + s.size ≤ 9223372036854775807 := by simp only [maxLen] at h63; omega
  rcases hown.2 with ⟨_, h0⟩ | ⟨g, cap, cur, rfl, hbg, hg, hnc, hcm, hcs, htake⟩
  · omega
  · by_cases hroom : n + s.size ≤ cap
    · have hx := Lib.run_append_room_string (P := P) w t u ty e i ht hu hi hsize g n cap cur hg s hroom (by omega)
      rw [hr] at hx
      injection hx with hv hw
      rw [hv]
      exact Or.inl rfl
    · have holds : ∀ j u, xs[j]? = some u → w.cell? ((⟨g, 0, none⟩ : Addr).add j) = some u := hown.cells (g := g) rfl
      have hx := Lib.run_append_grow_string (P := P) w t u ty e i (.int .u8 0) ht hu hi hz ⟨g, 0, none⟩ n cap xs (by rw [hsize]; exact hown.1) holds s (by omega) (by omega) (by rw [hby]; exact growslice_fits (by omega) (by omega))
      rw [hr] at hx
      injection hx with hv hw
      rw [hv]
      exact Or.inr ⟨w.heap.size, rfl, Nat.le_refl _⟩

theorem wpList_append_own_string_at {ops : Array Oper} {rest : List Oper} {o : Oper} {a : Act} {Q : Exit → Act → World → Prop} (hgd : o.guard = none) (sl x : Operand) (t u : TypeId)
    (ho : o.op = .call { callee := .builtin .append, args := #[sl, x], argTypes := #[t, u] })
    (base : Nat) (e : TypeId) (i : TypeInfo) (ht : P.underlying t = some (.slice e)) (hu : P.underlying u = some .string) (hi : P.info? e = some i) (hz : i.zero = some (.int .u8 0))
    (hsize : i.size = 1) (hby : i.bytes = 1)
    (v : Value) (n : Nat) (hn : 0 < n) (xs : List Value) (hs : a.eval sl = v) (hown : w.ownsRow base e 1 v n xs) (s : ByteArray) (hx : a.eval x = .string s)
    (h63 : n + s.size ≤ maxLen) (hbytes : n + s.size ≤ 140737488355328) (hbase : base ≤ w.heap.size)
    (h : ∀ v' w', w'.ownsRow base e 1 v' (n + s.size) (xs ++ Lib.strCells s) → Outs w w' v v' → wpList P ops Q rest (a.put o.dst v') w') : wpList P ops Q (o :: rest) a w := by
  refine wpList_plain hgd fun K hK => ?_
  obtain ⟨v', w', hr, h2, h3⟩ := run_append_own_string_at (P := P) w base t u o.type e i ht hu hi hz hsize hby v n hn xs hown s h63 hbytes hbase
  unfold Oper.wp execOp
  simp only [ho, resolve, invoke, builtin, Sem.run_bind, Sem.run_pure, Result.andThen_ok, List.map_toArray, List.map_cons, List.map_nil, hs, hx, hr]
  exact hK _ _ (h v' w' h2 h3)

end

set_option maxHeartbeats 400000 in
theorem append2 (w : World) (base : Nat) (v : Value) (n : Int) (size : Nat) (xs : List UInt8) (hs : size ≤ 8)
    (hown : w.ownsRow base 5 1 v xs.length (bcells xs)) (hbase : base ≤ w.heap.size) (hx : xs.length ≤ 100000) :
    Calls Tryz.prog 181 #[v, .int .i64 n, .int .i64 size] w fun e w' => ∃ v', e = .returned v' ∧ w'.ownsRow base 5 1 v' (xs ++ Orch.be n size).length (bcells (xs ++ Orch.be n size)) ∧ Outs w w' v v' := by
  obtain ⟨i0, hi, hz0, hz1, hz2⟩ := info_parts Tryz.info5
  go_enter Tryz.func181, Tryz.ntmps181
  go_wp2
  go_loopw [0, 7] (fun u i wr => ∃ j : Nat, j ≤ size ∧ i = .int .i64 ((j : Int) - 1) ∧ Hid (wr.ownsRow base 5 1 u (xs ++ (Orch.be n size).take (size - j)).length (bcells (xs ++ (Orch.be n size).take (size - j)))) ∧ Hid (Outs w wr v u))
    (fun _ i _ => (intOf i + 1).toNat)
  case atStart => exact ⟨size, Nat.le_refl _, rfl, by show World.ownsRow _ _ _ _ _ _ _; rw [Nat.sub_self]; simpa using hown, Outs.refl _ _⟩
  case round =>
    obtain ⟨j, hj, rfl, ho, hbw⟩ := hrel
    cases j with
    | zero =>
      go_wp2
      go_ret
      have e : (Orch.be n size).take (size - 0) = Orch.be n size := by rw [List.take_of_length_le (by rw [Orch.be_length]; omega)]
      have h1 := ho.out
      rw [e] at h1
      exact ⟨_, rfl, h1, hbw.out⟩
    | succ m =>
      rw [show ((m + 1 : Nat) : Int) - 1 = (m : Int) by omega]
      have hl : (xs ++ (Orch.be n size).take (size - (m + 1))).length ≤ 100008 := by
        rw [List.length_append, List.length_take, Orch.be_length]; omega
      have HT : Hid (xs ++ (Orch.be n size).take (size - m) = (xs ++ (Orch.be n size).take (size - (m + 1))) ++ [UInt8.ofNat ((n / 256 ^ m) % 256).toNat]) := by
        show _ = _
        rw [be_take n m size hj, List.append_assoc]
      have HB : Hid (IntKind.u64.wrap n / 2 ^ (8 * m) % 256 = ((UInt8.ofNat ((n / 256 ^ m) % 256).toNat).toNat : Int)) := byte_of n m (by omega)
      generalize xs ++ (Orch.be n size).take (size - (m + 1)) = L at *
      go_wp2_with (at_builtin; refine wpList_append_own_at _ rfl _ _ 57 rfl base 5 i0 (.int .u8 0) 1 1 Tryz.underlying57 hi hz0 hz1 hz2 rfl (by decide) _ _ _ rfl (ho.out.alloc _) ⟨wr.heap.size, 0, none⟩ 1 1 [_] rfl rfl (cell_one_new _ _ _) ?c2 ?c3 ?c4 ?c5 ?_)
      case c2 => intro u hu; simp at hu; subst hu; rfl
      case c3 => unfold maxLen; omega
      case c4 => omega
      case c5 => have := hbw.out.grown.size; simp; omega
      intro v' w1 hown' hgrow _ hat
      have hb1 : Hid (Outs w w1 v v') := hbw.out.trans (Outs.from (below1 wr _) ⟨hgrow, by rcases hat with h | h; exact Or.inl h; exact Or.inr ⟨_, h, by simp⟩⟩)
      have hown2 : Hid (w1.ownsRow base 5 1 v' (xs ++ (Orch.be n size).take (size - m)).length (bcells (xs ++ (Orch.be n size).take (size - m)))) := by
        show World.ownsRow _ _ _ _ _ _ _
        rw [HT.out, bcells_append]
        rw [HB.out] at hown'
        simpa [bcells] using hown'
      clear hown' hgrow hat
      go_wp2
      go_roundw
      case rel => exact ⟨m, by omega, by go_num, hown2, hb1⟩
      case measure => first | (simp [intOf]; done) | (simp [intOf]; omega)

end Go.Proofs.YtlghcldiboecoaaGreatDoor

/- put: what it leaves; at types without brackets. -/
namespace Go.Proofs.YtlghcldiboecoaaGreatDoor
open Go.RowKit

theorem own_shape {w : World} {base : Nat} {v : Value} {n : Nat} {xs : List Value} (h : w.ownsRow base 5 1 v n xs) : ∃ a c, v = .slice a n c := by
  rcases h.2 with ⟨e, h0⟩ | ⟨g, cap, cur, e, _⟩
  · exact ⟨none, 0, by rw [e, h0]⟩
  · exact ⟨_, _, e⟩

end Go.Proofs.YtlghcldiboecoaaGreatDoor

/- put at vectors and records. -/
namespace Go.Proofs.YtlghcldiboecoaaGreatDoor
open Go.RowKit

end Go.Proofs.YtlghcldiboecoaaGreatDoor

/- put at records. -/
namespace Go.Proofs.YtlghcldiboecoaaGreatDoor
open Go.RowKit

end Go.Proofs.YtlghcldiboecoaaGreatDoor

/- put, whole. -/
namespace Go.Proofs.YtlghcldiboecoaaGreatDoor
open Go.RowKit

def zV : Orch.V := .mk 0 ⟨#[]⟩ []

section
variable {valid : ByteArray → Bool} {Tabs : World → Prop}

end
end Go.Proofs.YtlghcldiboecoaaGreatDoor

/- Encode, whole. -/
namespace Go.Proofs.YtlghcldiboecoaaGreatDoor
open Go.RowKit

section
variable {valid : ByteArray → Bool} {Tabs : World → Prop}

end
end Go.Proofs.YtlghcldiboecoaaGreatDoor
