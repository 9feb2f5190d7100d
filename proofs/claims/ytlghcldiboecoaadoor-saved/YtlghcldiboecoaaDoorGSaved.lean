/- saved, in the first version. -/
import Derived.Test.YtlghcldiboecoaaDoorGLoad
import Derived.Test.YtlghcldiboecoaaDoorGSave
set_option linter.unusedVariables false
namespace Go.Proofs.YtlghcldiboecoaaDoor
open Go.RowKit

section
variable {Tabs : World → Prop}

theorem saved_1 (U : Utf validB Tabs) (w : World) (hT : Tabs w) (hL : Table w) (hSc : Schemas w) (mx : Int) (hm : w.cell? ⟨4, 0, none⟩ = some (.int .i64 mx)) (h4 : 4 < w.heap.size) (n : Int) (hn0 : 0 ≤ n) (hn1 : n ≤ 9223372036854775807) (nsv : Value) (ns : List Orch.Node) (hns : NsAt w w.heap.size nsv ns)
    (htree : TreeP n ns) (hsz : ∀ x, x ∈ ns → x.path.size ≤ 140737488355328 ∧ x.data.size ≤ 140737488355328) (hok : ∀ x, x ∈ ns → Orch.put validB 9 [] ty1 (Orch.fields 1 x) = some (nb1 x) ∧ 0 < (nb1 x).length) (hnote : ∀ x, x ∈ ns → x.note = ⟨#[]⟩) :
    Calls Tryd.prog 13 #[.int .i64 1, .int .i64 n, nsv] w fun e w' => (∃ ov, e = .returned (.tuple #[ov, .bool true]) ∧ w'.ownsRow w.heap.size 5 1 ov (fileB1 n ns).length (bcells (fileB1 n ns))) ∧ Below w.heap.size w w' := by
  have hlen := file_len1 (n := n) htree.1 hok
  have hload := load_file1 hn0 hn1 htree (fun x hx => ⟨(hok x hx).1, hnote x hx⟩)
  refine saved_core w 1 n nsv (fileB1 n ns) ns hlen.1 (by omega) ?_ ?_ ?_
  · refine oSave_of w 1 n nsv (fun ov w' => w'.ownsRow w.heap.size 5 1 ov (fileB1 n ns).length (bcells (fileB1 n ns)) ∧ Below w.heap.size w w') ?_
    refine (save_1 U w hT hL hSc mx hm h4 n hn0 nsv ns hns htree hsz hok hnote).mono ?_
    rintro e w' ⟨⟨ov, rfl, ho⟩, hb⟩
    exact ⟨ov, rfl, ho, hb⟩
  · intro W bv hW hbs
    have hc : Calls Tryd.prog 28 #[bv] W fun e w' => ∃ a b v c, e = .returned (.tuple #[.int .i64 a, .int .i64 b, v, .int .i64 c]) ∧ ((a = 1 ∧ b = n ∧ c = 0) ∧ w'.ownsRow W.heap.size 69 6 v ns.length (ns.flatMap ncell) ∧ Below W.heap.size W w') := by
      refine (load_1 U W (U.kept (U.size hT) hW hT) (hL.below hW hL.pos) (hSc.below hW (by omega)) mx ((hW.cell (p := ⟨4, 0, none⟩) h4).trans hm) (Nat.lt_of_lt_of_le h4 hW.size) bv (fileB1 n ns) (by omega) hbs ?_).mono ?_
      · intro _ _ v n' c' hh
        obtain ⟨_, _, _, c, hc1, _⟩ := hload
        have hcl : c = ns.length := by
          obtain ⟨_, _, _, c2, hc2, hr2, _⟩ := load_file1 hn0 hn1 htree (fun x hx => ⟨(hok x hx).1, hnote x hx⟩)
          rw [hc1] at hc2
          simp only [Option.some.injEq, Prod.mk.injEq, true_and] at hc2
          rw [hc2]
          exact (rdN_small1 _ _ _ _ hr2).1.symm
        rw [hc1] at hh
        simp only [Option.some.injEq, Prod.mk.injEq] at hh
        exact ⟨hh.1.symm, by have := htree.1; omega⟩
      · rintro e w' ⟨h | ⟨h, _⟩, hb⟩
        · obtain ⟨n', ns', v, hl, rfl, ho⟩ := h
          obtain ⟨rfl, rfl⟩ := load_unique1 hload hl
          exact ⟨1, n, v, 0, rfl, ⟨rfl, rfl, rfl⟩, ho, hb⟩
        · exact absurd ⟨n, ns, hload⟩ h
    refine (oLoad_of W bv _ hc).mono ?_
    rintro e w' ⟨a, b, v, c, rfl, ⟨rfl, rfl, rfl⟩, ho, hb⟩
    exact ⟨v, rfl, ho, hb⟩
  · intro W v hW ho
    obtain ⟨h1, _⟩ := htree.2.1
    have h32 := htree.1
    have hA := ns_of_own ho (by omega)
    have hB : NsAt W W.heap.size nsv ns := by
      obtain ⟨b, off, cap, e, hc, hlt, hn⟩ := hns.below hW
      exact ⟨b, off, cap, e, hc, Nat.lt_of_lt_of_le hlt hW.size, hn⟩
    exact sameNodes_same W v nsv ns hA hB (by omega)
end

end Go.Proofs.YtlghcldiboecoaaDoor
