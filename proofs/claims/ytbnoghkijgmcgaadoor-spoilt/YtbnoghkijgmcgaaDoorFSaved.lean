/- saved: the file of a tree is read again as that tree. -/
import Derived.Test.YtbnoghkijgmcgaaDoorFSpoil
set_option linter.unusedVariables false
namespace Go.Proofs.YtbnoghkijgmcgaaDoor
open Go.RowKit

theorem file_len {n : Int} {ns : List Orch.Node} (h32 : ns.length ≤ 32) (hok : ∀ x, x ∈ ns → Orch.put validB 9 [] ty2 (Orch.fields 2 x) = some (nb x) ∧ 0 < (nb x).length) : (fileB n ns).length ≤ 40000 ∧ 21 ≤ (fileB n ns).length := by
  have hf := flat_short (l := ns) (fun x hx => put_short (hok x hx).1)
  have hl : (fileB n ns).length = 17 + (ns.flatMap nb).length + 4 := by unfold fileB; rw [List.length_append, Orch.be_length, body_eq, List.length_append, headB_len]
  omega

section
variable {Tabs : World → Prop}

set_option maxRecDepth 8000 in
set_option maxHeartbeats 2000000 in
theorem saved_core (w : World) (n : Int) (nsv : Value) (F : List UInt8) (ns : List Orch.Node) (hF : F.length ≤ 40000) (hF0 : 0 < F.length)
    (HS : Hid (Calls Tryd.prog 26 #[.int .i64 2, .int .i64 n, nsv] w fun e w' => ∃ ov, e = .returned (.tuple #[ov, .int .i64 0]) ∧ w'.ownsRow w.heap.size 5 1 ov F.length (bcells F) ∧ Below w.heap.size w w'))
    (HL : Hid (∀ W bv, Below w.heap.size w W → BsAt W bv F → Calls Tryd.prog 15 #[bv] W fun e w' => ∃ v, e = .returned (.tuple #[.int .i64 2, .int .i64 n, v, .int .i64 0]) ∧ w'.ownsRow W.heap.size 69 6 v ns.length (ns.flatMap ncell) ∧ Below W.heap.size W w'))
    (HN : Hid (∀ W v, Below w.heap.size w W → W.ownsRow w.heap.size 69 6 v ns.length (ns.flatMap ncell) → Calls Tryd.prog 27 #[v, nsv] W fun e w' => e = .returned (.bool true) ∧ Below W.heap.size W w')) :
    Calls Tryd.prog 13 #[.int .i64 2, .int .i64 n, nsv] w fun e w' => (∃ ov, e = .returned (.tuple #[ov, .bool true]) ∧ w'.ownsRow w.heap.size 5 1 ov F.length (bcells F)) ∧ Below w.heap.size w w' := by
  go_enter Tryd.func13, Tryd.ntmps13
  go_wp2_with fail
  refine HS.out.mono ?_
  rintro e w1 ⟨ov, rfl, ho1, hb1⟩
  obtain ⟨g, cap, rfl, hcap, hbs⟩ := own_bytes ho1 hF0
  have HO1 := hide ho1
  have HB1 := hide hb1
  have HL1 := hide (HL.out w1 _ hb1 hbs)
  clear ho1 hb1 hbs HS
  go_wp2_with fail
  refine HL1.out.mono ?_
  rintro e w2 ⟨v, rfl, ho2, hb2⟩
  have HB2 : Hid (Below w.heap.size w w2) := HB1.out.trans (hb2.mono HB1.out.size)
  have HO2 := hide (ownsRow_below HO1.out hb2)
  have HN2 := hide (HN.out w2 v HB2.out (own_mono ho2 HB1.out.size))
  clear ho2 hb2 HL1
  go_wp2_with fail
  refine HN2.out.mono ?_
  rintro e w3 ⟨rfl, hb3⟩
  have HB3 : Hid (Below w.heap.size w w3) := HB2.out.trans (hb3.mono HB2.out.size)
  have HO3 := hide (ownsRow_below HO2.out hb3)
  clear hb3 HN2
  go_wp2
  exact bodyPost_ret (v := .tuple #[.slice (some ⟨g, 0, none⟩) F.length cap, .bool true]) (by simp [results, Tryd.results13, go_sem]) rfl ⟨⟨_, rfl, HO3.out⟩, HB3.out⟩

theorem saved_2 (U : Utf validB Tabs) (w : World) (hT : Tabs w) (hL : Table w) (hSc : Schemas w) (mx : Int) (hm : w.cell? ⟨4, 0, none⟩ = some (.int .i64 mx)) (h4 : 4 < w.heap.size) (n : Int) (hn0 : 0 ≤ n) (hn1 : n ≤ 9223372036854775807) (nsv : Value) (ns : List Orch.Node) (hns : NsAt w w.heap.size nsv ns)
    (htree : TreeP n ns) (hsz : ∀ x, x ∈ ns → x.path.size ≤ 140737488355328 ∧ x.data.size ≤ 140737488355328) (hok : ∀ x, x ∈ ns → Orch.put validB 9 [] ty2 (Orch.fields 2 x) = some (nb x) ∧ 0 < (nb x).length) :
    Calls Tryd.prog 13 #[.int .i64 2, .int .i64 n, nsv] w fun e w' => (∃ ov, e = .returned (.tuple #[ov, .bool true]) ∧ w'.ownsRow w.heap.size 5 1 ov (fileB n ns).length (bcells (fileB n ns))) ∧ Below w.heap.size w w' := by
  have hlen := file_len (n := n) htree.1 hok
  have hload := load_file hn0 hn1 htree (fun x hx => (hok x hx).1)
  refine saved_core w n nsv (fileB n ns) ns hlen.1 (by omega) ?_ ?_ ?_
  · refine oSave_of w 2 n nsv (fun ov w' => w'.ownsRow w.heap.size 5 1 ov (fileB n ns).length (bcells (fileB n ns)) ∧ Below w.heap.size w w') ?_
    refine (save_2 U w hT hL hSc mx hm h4 n hn0 nsv ns hns htree hsz hok).mono ?_
    rintro e w' ⟨⟨ov, rfl, ho⟩, hb⟩
    exact ⟨ov, rfl, ho, hb⟩
  · intro W bv hW hbs
    have hc : Calls Tryd.prog 28 #[bv] W fun e w' => ∃ a b v c, e = .returned (.tuple #[.int .i64 a, .int .i64 b, v, .int .i64 c]) ∧ ((a = 2 ∧ b = n ∧ c = 0) ∧ w'.ownsRow W.heap.size 69 6 v ns.length (ns.flatMap ncell) ∧ Below W.heap.size W w') := by
      refine (load_2 U W (U.kept (U.size hT) hW hT) (hL.below hW hL.pos) (hSc.below hW (by omega)) mx ((hW.cell (p := ⟨4, 0, none⟩) h4).trans hm) (Nat.lt_of_lt_of_le h4 hW.size) bv (fileB n ns) (by omega) hbs ?_).mono ?_
      · intro _ _ v n' c' hh
        obtain ⟨_, _, _, c, hc1, _⟩ := hload
        have hcl : c = ns.length := by
          obtain ⟨_, _, _, c2, hc2, hr2, _⟩ := load_file hn0 hn1 htree (fun x hx => (hok x hx).1)
          rw [hc1] at hc2
          simp only [Option.some.injEq, Prod.mk.injEq, true_and] at hc2
          rw [hc2]
          exact (rdN_small _ _ _ _ hr2).1.symm
        rw [hc1] at hh
        simp only [Option.some.injEq, Prod.mk.injEq] at hh
        exact ⟨hh.1.symm, by have := htree.1; omega⟩
      · rintro e w' ⟨h | ⟨h, _⟩, hb⟩
        · obtain ⟨n', ns', v, hl, rfl, ho⟩ := h
          obtain ⟨rfl, rfl⟩ := load_unique hload hl
          exact ⟨2, n, v, 0, rfl, ⟨rfl, rfl, rfl⟩, ho, hb⟩
        · exact absurd ⟨n, ns, hload⟩ h
    refine (oLoad_of W bv _ hc).mono ?_
    rintro e w' ⟨a, b, v, c, rfl, ⟨rfl, rfl, rfl⟩, ho, hb⟩
    exact ⟨v, rfl, ho, hb⟩
  · intro W v hW ho
    obtain ⟨h1, _⟩ := htree.2.1
    have h32 := htree.1
    have hA := ns_of_own ho (by omega)
    have hB : NsAt W W.heap.size nsv ns := by
      obtain ⟨b, off, cap, e, hc, hlt, hn⟩ := hns.below hW
      exact ⟨b, off, cap, e, hc, Nat.lt_of_lt_of_le hlt hW.size, hn⟩
    exact sameNodes_same W v nsv ns hA hB (by omega)
end

set_option maxRecDepth 8000 in
set_option maxHeartbeats 1000000 in
theorem small_any (w : World) (z : Int) (h0 : -9223372036854775808 ≤ z) (h1 : z ≤ 9223372036854775807) :
    Calls Tryd.prog 22 #[.int .i64 z] w fun e w' => (∃ c : UInt8, 97 ≤ c.toNat ∧ c.toNat ≤ 116 ∧ e = .returned (.string ⟨#[c]⟩)) ∧ Below w.heap.size w w' := by
  go_enter Tryd.func22, Tryd.ntmps22
  go_wp2_with fail
  refine (pick_any w z 20 h0 h1 (by omega) (by omega)).mono ?_
  rintro e w1 ⟨⟨k, hk, rfl⟩, hw1⟩
  have hw2 := hw1.symm
  clear hw1
  subst hw2
  have hkz : (k : Int) < 20 := by omega
  have hcv : (97 : Int) + k = ((UInt8.ofNat (97 + k)).toNat : Int) := by rw [show (UInt8.ofNat (97 + k)).toNat = 97 + k by simp; omega]; omega
  have hconv : (convert 34 9 (.slice (some ⟨w.heap.size, 0, none⟩) 1 1)).run Tryd.prog (w.alloc (.cells #[.int .u8 (97 + k)] 5)) = .ok (.string ⟨#[UInt8.ofNat (97 + k)]⟩) (w.alloc (.cells #[.int .u8 (97 + k)] 5)) := by
    refine conv_bytes _ w.heap.size 0 1 1 [UInt8.ofNat (97 + k)] rfl (fun i hi => ?_)
    obtain rfl : i = 0 := by simpa using hi
    refine cellOf (heap_alloc_new w _) ?_
    simp only [List.getElem_cons_zero]
    rw [← hcv]
    rfl
  have HC : Hid ((UInt8.ofNat (97 + k)).toNat = 97 + k) := by show _ = _; omega
  clear hcv
  generalize UInt8.ofNat (97 + k) = C at *
  go_wp2
  go_ret
  exact ⟨⟨C, by have := HC.out; omega, by have := HC.out; omega, rfl⟩, below1 _ _⟩
end Go.Proofs.YtbnoghkijgmcgaaDoor
