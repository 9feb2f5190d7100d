/- Bytes that are no file. -/
import Derived.Test.YtbnoghkijgmcgaaDoorFGrown
set_option linter.unusedVariables false
namespace Go.Proofs.YtbnoghkijgmcgaaDoor
open Go.RowKit

/-- Bytes that are no file, and what load_2 asks of them. -/
def Bad (l : List UInt8) : Prop := l.length ≤ 1000000 ∧ (¬ ∃ n ns, LoadIs l n ns) ∧
  (4 ≤ l.length → Orch.uns (l.drop (l.length - 4)) = Orch.sum (l.take (l.length - 4)) → ∀ v n c, headOf ((l.take (l.length - 4)).take 17) = some (v, n, c) → v = 2 ∧ c ≤ 32)

section
variable {Tabs : World → Prop}

theorem load_bad (U : Utf validB Tabs) (w : World) (hT : Tabs w) (hL : Table w) (hSc : Schemas w) (mx : Int) (hm : w.cell? ⟨4, 0, none⟩ = some (.int .i64 mx)) (h4 : 4 < w.heap.size) (bv : Value) (l : List UInt8) (hbv : BsAt w bv l) (hb : Bad l) :
    Calls Tryd.prog 28 #[bv] w fun e w' => e = .returned (.tuple #[.int .i64 0, .int .i64 0, .slice none 0 0, .int .i64 7]) ∧ Below w.heap.size w w' := by
  refine (load_2 U w hT hL hSc mx hm h4 bv l hb.1 hbv hb.2.2).mono ?_
  rintro e w' ⟨h | ⟨_, h⟩, hb'⟩
  · obtain ⟨n, ns, v, hl, _⟩ := h
    exact absurd ⟨n, ns, hl⟩ hb.2.1
  · exact ⟨h, hb'⟩

theorem bad_shorter {n : Int} {ns : List Orch.Node} (h : Grow n ns) : Bad ((fileB n ns).take ((fileB n ns).length - 1)) := by
  have hi := grow_is h
  have hl := file_len (n := n) hi.2.1 (grow_nb h)
  exact ⟨by rw [List.length_take]; omega, shorter_none hi.2.2.1 (by omega) (grow_tree h) (grow_nb h), fun _ _ => shorter_cov hi.2.2.1 (by omega) (grow_tree h) (grow_nb h)⟩
theorem bad_longer {n : Int} {ns : List Orch.Node} (h : Grow n ns) (x : UInt8) : Bad (fileB n ns ++ [x]) := by
  have hi := grow_is h
  have hl := file_len (n := n) hi.2.1 (grow_nb h)
  exact ⟨by rw [List.length_append, List.length_singleton]; omega, longer_none hi.2.2.1 (by omega) (grow_tree h) (grow_nb h) x, fun _ _ => longer_cov hi.2.2.1 (by omega) (grow_tree h) (grow_nb h) x⟩
theorem bad_changed {n : Int} {ns : List Orch.Node} (h : Grow n ns) (i : Nat) (hi : i < (fileB n ns).length) (v : UInt8) (hv : v ≠ (fileB n ns)[i]) : Bad ((fileB n ns).set i v) := by
  have hg := grow_is h
  have hl := file_len (n := n) hg.2.1 (grow_nb h)
  exact ⟨by rw [List.length_set]; omega, changed_none n ns i hi v hv, fun _ hs => absurd hs (changed_sum n ns i hi v hv)⟩
end
end Go.Proofs.YtbnoghkijgmcgaaDoor
