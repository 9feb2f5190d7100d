/- Plain mathematics of files: the sum, nodes, trees, files as bytes. -/
import Derived.Test.YtbnoghkijgmcgaaDoorRound
namespace Orch

def sumStep (p : Nat × Nat) (x : UInt8) : Nat × Nat := ((p.1 + x.toNat) % 65521, (p.2 + (p.1 + x.toNat) % 65521) % 65521)
def sumP (l : List UInt8) : Nat × Nat := l.foldl sumStep (1, 0)
/-- The sum of bytes. -/
def sum (l : List UInt8) : Nat := (sumP l).2 * 65536 + (sumP l).1

theorem sumP_snoc (l : List UInt8) (x : UInt8) : sumP (l ++ [x]) = sumStep (sumP l) x := by
  unfold sumP
  rw [List.foldl_append]
  rfl

theorem fold_lt : ∀ (l : List UInt8) (p : Nat × Nat), p.1 < 65521 ∧ p.2 < 65521 → (l.foldl sumStep p).1 < 65521 ∧ (l.foldl sumStep p).2 < 65521
  | [], _, h => h
  | x :: l, p, _ => fold_lt l (sumStep p x) ⟨Nat.mod_lt _ (by omega), Nat.mod_lt _ (by omega)⟩

theorem sumP_lt (l : List UInt8) : (sumP l).1 < 65521 ∧ (sumP l).2 < 65521 := fold_lt l (1, 0) ⟨by decide, by decide⟩

theorem sum_lt (l : List UInt8) : sum l < 4294967296 := by
  have := sumP_lt l
  unfold sum
  omega

/-- A node of a tree. -/
structure Node where
  path : ByteArray
  data : ByteArray
  note : ByteArray
  made : Int
  changed : Int
  version : Int

instance : Inhabited Node := ⟨⟨ByteArray.empty, ByteArray.empty, ByteArray.empty, 0, 0, 0⟩⟩

def sv (s : ByteArray) : V := .mk 0 s []
def nv (n : Int) : V := .mk n ByteArray.empty []

/-- The fields of a node, as a value. -/
def fields (ver : Int) (x : Node) : V :=
  .mk 0 ByteArray.empty (if 1 < ver then [sv x.path, sv x.data, sv x.note, nv x.made, nv x.changed, nv x.version] else [sv x.path, sv x.data, nv x.made, nv x.changed, nv x.version])
end Orch
