/- What made gives, and its way without brackets. -/
import Derived.Test.YtbnoghkijgmcgaaDoorLeaf
import Derived.Test.YtbnoghkijgmcgaaDoorSame
set_option linter.unusedVariables false
namespace Go.Proofs.YtbnoghkijgmcgaaDoor
open Go.RowKit

def leafT (c : UInt8) : Orch.Ty := .mk ((Orch.find c).getD default) []

theorem leaf_good {c : UInt8} {v : Orch.V} {L : Nat} (h : LeafIs c v L) (k : Nat) : Orch.Reads (k + 1) [c] (leafT c) ∧ ∃ pre, pre.length = L ∧ Orch.Lays validB (k + 1) (leafT c) v pre := by
  obtain ⟨n, s, l⟩ := v
  simp only [LeafIs, Orch.V.n, Orch.V.s, Orch.V.l] at h
  rcases h with ⟨rfl, rfl, rfl, h0, h1, rfl⟩ | ⟨rfl, rfl, rfl, h0, h1, rfl⟩ | ⟨rfl, rfl, rfl, h0, h1, rfl⟩ | ⟨rfl, rfl, rfl, h0, rfl⟩ | ⟨rfl, rfl, rfl, h0, h1, rfl⟩
  · exact ⟨Orch.reads_leaf (l := ⟨63, 0, 1, 0, 1, false, 0⟩) rfl rfl, _, Orch.be_length n 1, Orch.lays_num (l := ⟨63, 0, 1, 0, 1, false, 0⟩) rfl h0 h1⟩
  · exact ⟨Orch.reads_leaf (l := ⟨52, 0, 4, -2147483648, 2147483647, false, 0⟩) rfl rfl, _, Orch.be_length n 4, Orch.lays_num (l := ⟨52, 0, 4, -2147483648, 2147483647, false, 0⟩) rfl h0 h1⟩
  · exact ⟨Orch.reads_leaf (l := ⟨56, 0, 8, -9223372036854775808, 9223372036854775807, false, 0⟩) rfl rfl, _, Orch.be_length n 8, Orch.lays_num (l := ⟨56, 0, 8, -9223372036854775808, 9223372036854775807, false, 0⟩) rfl h0 h1⟩
  · exact ⟨Orch.reads_leaf (l := ⟨98, 1, 0, 0, 0, false, 0⟩) rfl rfl, _, by rw [List.length_append, Orch.be_length]; rfl, Orch.lays_bytes (l := ⟨98, 1, 0, 0, 0, false, 0⟩) rfl (by omega) (fun h => by cases h)⟩
  · exact ⟨Orch.reads_leaf (l := ⟨116, 1, 0, 0, 0, true, 0⟩) rfl rfl, _, by rw [List.length_append, Orch.be_length]; rfl, Orch.lays_bytes (l := ⟨116, 1, 0, 0, 0, true, 0⟩) rfl (by omega) (fun _ => h1)⟩

theorem LeafIs.nil {c : UInt8} {v : Orch.V} {L : Nat} (h : LeafIs c v L) : v.l = [] ∧ 1 ≤ L ∧ L ≤ 44 := by
  rcases h with ⟨_, _, h, _, _, rfl⟩ | ⟨_, _, h, _, _, rfl⟩ | ⟨_, _, h, _, _, rfl⟩ | ⟨_, _, h, h0, rfl⟩ | ⟨_, _, h, h0, _, rfl⟩ <;> exact ⟨h, by omega, by omega⟩

/-- What made gives, with r brackets to go. -/
def MdRes (r : Nat) (w w' : World) (M : Nat) (N S : Value) (n s : Nat) (x y : Int) (e : Ending) : Prop :=
  ∃ (σ : List UInt8) (T : Orch.Ty) (v : Orch.V) (lv : Value) (pre : List UInt8) (n' s' : Nat) (x' y' : Int),
    e = .returned (.tuple #[.string ⟨σ.toArray⟩, vval v lv]) ∧ VsAt w' (fun b => w.heap.size ≤ b ∧ b < w'.heap.size) v.l lv ∧ Small (r + 1) v ∧
    Orch.Reads (r + 1) σ T ∧ Orch.Lays validB (r + 1) T v pre ∧ (σ.length = 1 → ∃ c, σ = [c] ∧ T = leafT c ∧ LeafIs c v pre.length) ∧
    1 ≤ pre.length ∧ (pre.length : Int) ≤ max y 0 - max y' 0 + σ.length ∧ (σ.length : Int) = x - x' ∧ min (x - 1) (6 - 3 * r) ≤ x' ∧ y' ≤ y ∧ y - 1000 * 5 ^ r ≤ y' ∧
    n' ≤ n + 5 ^ (r + 2) ∧ s' ≤ s + 5 ^ (r + 2) ∧ MkAt w' M N S n' s' x' y'

def MdSaid (r : Nat) : Prop := ∀ (w : World) (M : Nat) (N S : Value) (n s : Nat) (x y : Int), MkAt w M N S n s x y → Ints w M N → Strs w M S →
  n + 5 ^ (r + 2) ≤ 900000000 → s + 5 ^ (r + 2) ≤ 900000000 → -100 ≤ x → x ≤ 40 → -100000000000 ≤ y - 1000 * 5 ^ r → y ≤ 700 →
  Calls Tryd.prog 7 #[.pointer (some ⟨M, 0, none⟩), .int .i64 (8 - r)] w fun e w' => MdRes r w w' M N S n s x y e ∧ Keeps M w.heap.size w w'

/-- What the way without brackets needs and gives. -/
theorem md_leaf {r : Nat} {w w' : World} {M : Nat} {N S : Value} {n n1 s s' : Nat} {x y : Int} {c : UInt8} {v : Orch.V} {L : Nat} (h : LeafIs c v L) (hy50 : y < 50 → L = 1) (hn1 : n1 ≤ n + 3) (hs : s' ≤ s + 1) (hM : MkAt w' M N S n1 s' (x - 1) (y - L)) :
    MdRes r w w' M N S n s x y (.returned (.tuple #[.string ⟨#[c]⟩, vval v (.slice none 0 0)])) := by
  obtain ⟨hr, pre, hp, hl⟩ := leaf_good h r
  obtain ⟨h0, h1, h2⟩ := h.nil
  have h5 : 1 ≤ 5 ^ r := Nat.one_le_pow _ _ (by omega)
  have h5' : (1 : Int) ≤ 5 ^ r := by exact_mod_cast h5
  have h25 : 5 ^ (r + 2) = 25 * 5 ^ r := by rw [Nat.pow_add]; omega
  refine ⟨[c], leafT c, v, .slice none 0 0, pre, n1, s', x - 1, y - L, rfl, ?_, ?_, hr, hl, fun _ => ⟨c, rfl, rfl, hp ▸ h⟩, by omega, ?_, by simp; omega, by omega, by omega, by omega, by omega, by omega, hM⟩
  · rw [h0]; exact .nil _ _
  · exact ⟨by rw [h0]; simp, fun e he => by rw [h0] at he; cases he⟩
  · rw [hp, List.length_singleton]
    omega
end Go.Proofs.YtbnoghkijgmcgaaDoor
