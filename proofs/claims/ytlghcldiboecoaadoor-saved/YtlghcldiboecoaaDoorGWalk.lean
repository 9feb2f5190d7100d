/- Saved: its walk. -/
import Derived.Test.YtlghcldiboecoaaDoorGSaved
import Derived.Test.YtlghcldiboecoaaDoorGGrown
set_option linter.unusedVariables false
namespace Go.Proofs.YtlghcldiboecoaaDoor
open Go.RowKit

set_option maxRecDepth 8000 in
set_option maxHeartbeats 1000000 in
theorem upgrade_of (w : World) (bv : Value) (v0 n : Int) (ns : List Orch.Node) (F : List UInt8)
    (HL : Hid (Calls Tryd.prog 28 #[bv] w fun e w' => ∃ v, e = .returned (.tuple #[.int .i64 v0, .int .i64 n, v, .int .i64 0]) ∧ w'.ownsRow w.heap.size 69 6 v ns.length (ns.flatMap ncell) ∧ Below w.heap.size w w'))
    (HS : Hid (∀ W v, Below w.heap.size w W → W.ownsRow w.heap.size 69 6 v ns.length (ns.flatMap ncell) → Calls Tryd.prog 29 #[.int .i64 2, .int .i64 n, v] W fun e w' => ∃ ov, e = .returned (.tuple #[ov, .int .i64 0]) ∧ w'.ownsRow W.heap.size 5 1 ov F.length (bcells F) ∧ Below W.heap.size W w')) :
    Calls Tryd.prog 14 #[bv] w fun e w' => ∃ ov, e = .returned (.tuple #[ov, .int .i64 0]) ∧ w'.ownsRow w.heap.size 5 1 ov F.length (bcells F) ∧ Below w.heap.size w w' := by
  go_enter Tryd.func14, Tryd.ntmps14
  go_wp2_with (first
    | (go_at_call 28; refine HL.out.mono ?_; rintro e w1 ⟨v, rfl, ho1, hb1⟩; have HC := hide (HS.out w1 v hb1 ho1); have HB1 := hide hb1; clear ho1 hb1)
    | (go_at_call 29; refine HC.out.mono ?_; rintro e w2 ⟨ov, rfl, ho2, hb2⟩; have HO2 := hide (own_mono ho2 HB1.out.size); have HB2 : Hid (Below w.heap.size w w2) := HB1.out.trans (hb2.mono HB1.out.size); clear ho2 hb2))
  exact bodyPost_ret (v := .tuple #[ov, .int .i64 0]) (by simp [results, Tryd.results14, go_sem]) rfl ⟨ov, rfl, HO2.out, HB2.out⟩

theorem tree_mono {n m : Int} {ns : List Orch.Node} (h : TreeP n ns) (hm : n ≤ m) : TreeP m ns :=
  ⟨h.1, h.2.1, fun x hx => ⟨(h.2.2.1 x hx).1, by have := (h.2.2.1 x hx).2; omega⟩, h.2.2.2⟩

section
variable {Tabs : World → Prop}

/-- What is known of a world in which the calls are made. -/
def Ready (Tabs : World → Prop) (mx : Int) (w : World) : Prop := Tabs w ∧ Table w ∧ Schemas w ∧ w.cell? ⟨4, 0, none⟩ = some (.int .i64 mx) ∧ 4 < w.heap.size

theorem Ready.below (U : Utf validB Tabs) {mx : Int} {w W : World} (h : Ready Tabs mx w) (hW : Below w.heap.size w W) : Ready Tabs mx W := by
  obtain ⟨hT, hL, hSc, hm, h4⟩ := h
  exact ⟨U.kept (U.size hT) hW hT, hL.below hW hL.pos, hSc.below hW (by omega), (hW.cell (p := ⟨4, 0, none⟩) h4).trans hm, Nat.lt_of_lt_of_le h4 hW.size⟩

/-- What every node of a tree is when it is saved. -/
def Fit (n : Int) (ns : List Orch.Node) : Prop := (0 ≤ n ∧ n ≤ 9223372036854775807) ∧ TreeP n ns ∧ (∀ x, x ∈ ns → x.path.size ≤ 140737488355328 ∧ x.data.size ≤ 140737488355328) ∧ ∀ x, x ∈ ns → Orch.put validB 9 [] ty2 (Orch.fields 2 x) = some (nb x) ∧ 0 < (nb x).length
def Fit1 (n : Int) (ns : List Orch.Node) : Prop := Fit n ns ∧ (∀ x, x ∈ ns → Orch.put validB 9 [] ty1 (Orch.fields 1 x) = some (nb1 x) ∧ 0 < (nb1 x).length) ∧ ∀ x, x ∈ ns → x.note = ⟨#[]⟩

theorem load_back2 (U : Utf validB Tabs) {mx : Int} (W : World) (h : Ready Tabs mx W) (bv : Value) (n : Int) (ns : List Orch.Node) (hf : Fit n ns) (hbs : BsAt W bv (fileB n ns)) :
    Calls Tryd.prog 28 #[bv] W fun e w' => ∃ v, e = .returned (.tuple #[.int .i64 2, .int .i64 n, v, .int .i64 0]) ∧ w'.ownsRow W.heap.size 69 6 v ns.length (ns.flatMap ncell) ∧ Below W.heap.size W w' := by
  obtain ⟨hT, hL, hSc, hm, h4⟩ := h
  obtain ⟨⟨hn0, hn1⟩, htree, hsz, hok⟩ := hf
  have hlen := file_len (n := n) htree.1 hok
  have hload := load_file hn0 hn1 htree (fun x hx => (hok x hx).1)
  refine (load_2 U W hT hL hSc mx hm h4 bv (fileB n ns) (by omega) hbs ?_).mono ?_
  · intro _ _ v n' c' hh
    obtain ⟨_, _, _, c, hc1, hr, _⟩ := hload
    have hcl := (rdN_small _ _ _ _ hr).1
    rw [hc1] at hh
    simp only [Option.some.injEq, Prod.mk.injEq] at hh
    exact ⟨hh.1.symm, by have := htree.1; omega⟩
  · rintro e w' ⟨h | ⟨h, _⟩, hb⟩
    · obtain ⟨n', ns', v, hl, rfl, ho⟩ := h
      obtain ⟨rfl, rfl⟩ := load_unique hload hl
      exact ⟨v, rfl, ho, hb⟩
    · exact absurd ⟨n, ns, hload⟩ h

theorem load_back1 (U : Utf validB Tabs) {mx : Int} (W : World) (h : Ready Tabs mx W) (bv : Value) (n : Int) (ns : List Orch.Node) (hf : Fit1 n ns) (hbs : BsAt W bv (fileB1 n ns)) :
    Calls Tryd.prog 28 #[bv] W fun e w' => ∃ v, e = .returned (.tuple #[.int .i64 1, .int .i64 n, v, .int .i64 0]) ∧ w'.ownsRow W.heap.size 69 6 v ns.length (ns.flatMap ncell) ∧ Below W.heap.size W w' := by
  obtain ⟨hT, hL, hSc, hm, h4⟩ := h
  obtain ⟨⟨⟨hn0, hn1⟩, htree, hsz, _⟩, hok, hnote⟩ := hf
  have hlen := file_len1 (n := n) htree.1 hok
  have hload := load_file1 hn0 hn1 htree (fun x hx => ⟨(hok x hx).1, hnote x hx⟩)
  refine (load_1 U W hT hL hSc mx hm h4 bv (fileB1 n ns) (by omega) hbs ?_).mono ?_
  · intro _ _ v n' c' hh
    obtain ⟨_, _, _, c, hc1, hr, _⟩ := hload
    have hcl := (rdN_small1 _ _ _ _ hr).1
    rw [hc1] at hh
    simp only [Option.some.injEq, Prod.mk.injEq] at hh
    exact ⟨hh.1.symm, by have := htree.1; omega⟩
  · rintro e w' ⟨h | ⟨h, _⟩, hb⟩
    · obtain ⟨n', ns', v, hl, rfl, ho⟩ := h
      obtain ⟨rfl, rfl⟩ := load_unique1 hload hl
      exact ⟨v, rfl, ho, hb⟩
    · exact absurd ⟨n, ns, hload⟩ h

theorem save_back2 (U : Utf validB Tabs) {mx : Int} (W : World) (h : Ready Tabs mx W) (v : Value) (n : Int) (ns : List Orch.Node) (hf : Fit n ns) (hns : NsAt W W.heap.size v ns) :
    Calls Tryd.prog 29 #[.int .i64 2, .int .i64 n, v] W fun e w' => ∃ ov, e = .returned (.tuple #[ov, .int .i64 0]) ∧ w'.ownsRow W.heap.size 5 1 ov (fileB n ns).length (bcells (fileB n ns)) ∧ Below W.heap.size W w' := by
  obtain ⟨hT, hL, hSc, hm, h4⟩ := h
  obtain ⟨⟨hn0, hn1⟩, htree, hsz, hok⟩ := hf
  refine (save_2 U W hT hL hSc mx hm h4 n hn0 v ns hns htree hsz hok).mono ?_
  rintro e w' ⟨⟨ov, rfl, ho⟩, hb⟩
  exact ⟨ov, rfl, ho, hb⟩

/-- Upgrade of the file of a tree, of either version. -/
theorem upgrade_good (U : Utf validB Tabs) {mx : Int} (W : World) (h : Ready Tabs mx W) (bv : Value) (n : Int) (ns : List Orch.Node) (hbs : (Fit n ns ∧ BsAt W bv (fileB n ns)) ∨ (Fit1 n ns ∧ BsAt W bv (fileB1 n ns))) :
    Calls Tryd.prog 14 #[bv] W fun e w' => ∃ ov, e = .returned (.tuple #[ov, .int .i64 0]) ∧ w'.ownsRow W.heap.size 5 1 ov (fileB n ns).length (bcells (fileB n ns)) ∧ Below W.heap.size W w' := by
  have hf : Fit n ns := hbs.elim (·.1) (·.1.1)
  have h1 : 1 ≤ ns.length := by obtain ⟨h, _⟩ := hf.2.1.2.1; omega
  have hs : ∀ X v, Below W.heap.size W X → X.ownsRow W.heap.size 69 6 v ns.length (ns.flatMap ncell) → Calls Tryd.prog 29 #[.int .i64 2, .int .i64 n, v] X fun e w' => ∃ ov, e = .returned (.tuple #[ov, .int .i64 0]) ∧ w'.ownsRow X.heap.size 5 1 ov (fileB n ns).length (bcells (fileB n ns)) ∧ Below X.heap.size X w' := fun X v hX ho =>
    save_back2 U X (h.below U hX) v n ns hf (ns_of_own ho h1)
  rcases hbs with ⟨_, hb⟩ | ⟨hf1, hb⟩
  · exact upgrade_of W bv 2 n ns _ (load_back2 U W h bv n ns hf hb) hs
  · exact upgrade_of W bv 1 n ns _ (load_back1 U W h bv n ns hf1 hb) hs

set_option maxRecDepth 8000 in
set_option maxHeartbeats 4000000 in
theorem saved_whole (w : World) (rawv : Value) (more : Int) (hm0 : -9223372036854775808 ≤ more) (hm1 : more ≤ 9223372036854775807)
    (HG : Hid (∀ W, Below w.heap.size w W → ∀ nt, Calls Tryd.prog 12 #[rawv, .bool nt] W fun e w' => ∃ n v ns, e = .returned (.tuple #[.int .i64 n, v]) ∧ (0 ≤ n ∧ n ≤ 2000) ∧ (∀ k : Nat, k < 1000 → Fit (n + k) ns ∧ (nt = false → Fit1 (n + k) ns)) ∧ NsAt w' w'.heap.size v ns ∧ Below W.heap.size W w'))
    (HS2 : Hid (∀ W n v ns, Below w.heap.size w W → Fit n ns → NsAt W W.heap.size v ns → Calls Tryd.prog 13 #[.int .i64 2, .int .i64 n, v] W fun e w' => (∃ ov, e = .returned (.tuple #[ov, .bool true]) ∧ w'.ownsRow W.heap.size 5 1 ov (fileB n ns).length (bcells (fileB n ns))) ∧ Below W.heap.size W w'))
    (HS1 : Hid (∀ W n v ns, Below w.heap.size w W → Fit1 n ns → NsAt W W.heap.size v ns → Calls Tryd.prog 13 #[.int .i64 1, .int .i64 n, v] W fun e w' => (∃ ov, e = .returned (.tuple #[ov, .bool true]) ∧ w'.ownsRow W.heap.size 5 1 ov (fileB1 n ns).length (bcells (fileB1 n ns))) ∧ Below W.heap.size W w'))
    (HU : Hid (∀ W n bv ns, Below w.heap.size w W → ((Fit n ns ∧ BsAt W bv (fileB n ns)) ∨ (Fit1 n ns ∧ BsAt W bv (fileB1 n ns))) → Calls Tryd.prog 14 #[bv] W fun e w' => ∃ ov, e = .returned (.tuple #[ov, .int .i64 0]) ∧ w'.ownsRow W.heap.size 5 1 ov (fileB n ns).length (bcells (fileB n ns)) ∧ Below W.heap.size W w')) :
    Calls Tryd.prog 5 #[rawv, .int .i64 more] w fun e w' => e = .returned (.bool true) ∧ Below w.heap.size w w' := by
  go_enter Tryd.func5, Tryd.ntmps5
  go_wp2_with fail
  refine (HG.out w (Below.refl _ _) false).mono ?_
  rintro e w1 ⟨n, v, ns, rfl, ⟨hn0, hn1⟩, hfit, hns, hb1⟩
  have HFIT : Hid (∀ k : Nat, k < 1000 → Fit (n + k) ns ∧ Fit1 (n + k) ns) := fun k hk => ⟨(hfit k hk).1, (hfit k hk).2 (by first | rfl | trivial)⟩
  have HNS : Hid (∀ W, Below w1.heap.size w1 W → NsAt W W.heap.size v ns) := fun W hW => by
    obtain ⟨b, off, cap, e, hc, hlt, hn⟩ := hns.below hW
    exact ⟨b, off, cap, e, hc, Nat.lt_of_lt_of_le hlt hW.size, hn⟩
  have HB1 := hide hb1
  clear hfit hns hb1
  go_wp2_with fail
  refine (pick_any w1 more 1000 hm0 hm1 (by omega) (by omega)).mono ?_
  rintro e w1' ⟨⟨k, hk, rfl⟩, hw1⟩
  have hw2 := hw1.symm
  clear hw1
  subst hw2
  have hF := (HFIT.out k hk).1
  have hF1 := (HFIT.out k hk).2
  have hkz : (k : Int) < 1000 := by omega
  clear HFIT
  have HC1 := hide (HS1.out w1 (n + k) v ns HB1.out hF1 (HNS.out w1 (Below.refl _ _)))
  obtain ⟨hl1, hl1'⟩ := file_len1 (n := n + k) hF.2.1.1 hF1.2.1
  obtain ⟨hl2, hl2'⟩ := file_len (n := n + k) hF.2.1.1 hF.2.2.2
  have HFF := hide hF
  have HFF1 := hide hF1
  clear hF hF1
  have HU1 : Hid (∀ W bv, Below w.heap.size w W → BsAt W bv (fileB1 (n + k) ns) → Calls Tryd.prog 14 #[bv] W fun e w' => ∃ ov, e = .returned (.tuple #[ov, .int .i64 0]) ∧ w'.ownsRow W.heap.size 5 1 ov (fileB (n + k) ns).length (bcells (fileB (n + k) ns)) ∧ Below W.heap.size W w') := fun W bv hW hb => HU.out W (n + k) bv ns hW (.inr ⟨HFF1.out, hb⟩)
  have HU2 : Hid (∀ W bv, Below w.heap.size w W → BsAt W bv (fileB (n + k) ns) → Calls Tryd.prog 14 #[bv] W fun e w' => ∃ ov, e = .returned (.tuple #[ov, .int .i64 0]) ∧ w'.ownsRow W.heap.size 5 1 ov (fileB (n + k) ns).length (bcells (fileB (n + k) ns)) ∧ Below W.heap.size W w') := fun W bv hW hb => HU.out W (n + k) bv ns hW (.inl ⟨HFF.out, hb⟩)
  have HC2 : Hid (∀ W, Below w1.heap.size w1 W → Calls Tryd.prog 13 #[.int .i64 2, .int .i64 (n + k), v] W fun e w' => (∃ ov, e = .returned (.tuple #[ov, .bool true]) ∧ w'.ownsRow W.heap.size 5 1 ov (fileB (n + k) ns).length (bcells (fileB (n + k) ns))) ∧ Below W.heap.size W w') := fun W hW => HS2.out W (n + k) v ns (HB1.out.trans (hW.mono HB1.out.size)) HFF.out (HNS.out W hW)
  clear HFF HFF1 HNS
  generalize fileB1 (n + k) ns = A at *
  generalize fileB (n + k) ns = B at *
  -- the first version
  go_wp2_with fail
  refine HC1.out.mono ?_
  rintro e w2 ⟨⟨av, rfl, hoA⟩, hb2⟩
  obtain ⟨ga, ca, rfl, _, hbsA⟩ := own_bytes hoA (by omega)
  have HB12 : Hid (Below w1.heap.size w1 w2) := hb2
  have HB2 : Hid (Below w.heap.size w w2) := HB1.out.trans (hb2.mono HB1.out.size)
  have HBSA : Hid (∀ W, Below w2.heap.size w2 W → BsAt W (.slice (some ⟨ga, 0, none⟩) A.length ca) A) := fun W hW => hbsA.below hW (Nat.le_refl _)
  clear hoA hb2 hbsA HC1
  -- the second
  go_wp2_with fail
  refine (HC2.out w2 HB12.out).mono ?_
  rintro e w3 ⟨⟨bvv, rfl, hoB⟩, hb3⟩
  obtain ⟨gb, cb, rfl, _, hbsB⟩ := own_bytes hoB (by omega)
  have HB23 := hide hb3
  have HB3 : Hid (Below w.heap.size w w3) := HB2.out.trans (hb3.mono HB2.out.size)
  have HOB : Hid (∀ W, Below w3.heap.size w3 W → W.ownsRow w2.heap.size 5 1 (.slice (some ⟨gb, 0, none⟩) B.length cb) B.length (bcells B)) := fun W hW => ownsRow_below hoB hW
  have HBSB : Hid (∀ W, Below w3.heap.size w3 W → BsAt W (.slice (some ⟨gb, 0, none⟩) B.length cb) B) := fun W hW => hbsB.below hW (Nat.le_refl _)
  clear hoB hb3 hbsB HC2 HB12
  -- upgraded, each
  go_wp2_with fail
  refine (HU1.out w3 _ HB3.out (HBSA.out w3 HB23.out)).mono ?_
  rintro e w4 ⟨cv, rfl, hoC, hb4⟩
  obtain ⟨gc, cc, rfl, _, _⟩ := own_bytes hoC (by omega)
  have HB34 := hide hb4
  have HB4 : Hid (Below w.heap.size w w4) := HB3.out.trans (hb4.mono HB3.out.size)
  have HOC : Hid (∀ W, Below w4.heap.size w4 W → W.ownsRow w3.heap.size 5 1 (.slice (some ⟨gc, 0, none⟩) B.length cc) B.length (bcells B)) := fun W hW => ownsRow_below hoC hW
  clear hoC hb4 HBSA HU1 HB23
  go_wp2_with fail
  refine (HU2.out w4 _ HB4.out (HBSB.out w4 HB34.out)).mono ?_
  rintro e w5 ⟨dv, rfl, hoD, hb5⟩
  obtain ⟨gd, cd, rfl, _, _⟩ := own_bytes hoD (by omega)
  have HB5 : Hid (Below w.heap.size w w5) := HB4.out.trans (hb5.mono HB4.out.size)
  have cvD := conv_own hoD
  have cvC := conv_own (HOC.out w5 hb5)
  have cvB := conv_own (HOB.out w5 (HB34.out.trans (hb5.mono HB34.out.size)))
  clear hoD hb5 HBSB HU2 HB34 HOB HOC
  have HBL := hide (And.intro hl2 hl2')
  clear hl1 hl1' hl2 hl2'
  generalize (⟨B.toArray⟩ : ByteArray) = SB at *
  generalize B.length = bl at *
  go_wp2_with fail
  clear cvB cvC cvD
  -- with notes
  refine (HG.out w5 HB5.out true).mono ?_
  rintro e w6 ⟨n', v', ns', rfl, ⟨hn0', hn1'⟩, hfit', hns', hb6⟩
  have HB6 : Hid (Below w.heap.size w w6) := HB5.out.trans (hb6.mono HB5.out.size)
  have hF' := (hfit' 0 (by omega)).1
  rw [show n' + ((0 : Nat) : Int) = n' by omega] at hF'
  have HC6 := hide (HS2.out w6 n' v' ns' HB6.out hF' hns')
  obtain ⟨hl3, hl3'⟩ := file_len (n := n') hF'.2.1.1 hF'.2.2.2
  have HU6 : Hid (∀ W bv, Below w.heap.size w W → BsAt W bv (fileB n' ns') → Calls Tryd.prog 14 #[bv] W fun e w' => ∃ ov, e = .returned (.tuple #[ov, .int .i64 0]) ∧ w'.ownsRow W.heap.size 5 1 ov (fileB n' ns').length (bcells (fileB n' ns')) ∧ Below W.heap.size W w') := fun W bv hW hb => HU.out W n' bv ns' hW (.inl ⟨hF', hb⟩)
  clear hfit' hns' hb6 hF'
  generalize fileB n' ns' = D at *
  go_wp2_with fail
  refine HC6.out.mono ?_
  rintro e w7 ⟨⟨bv7, rfl, hoE⟩, hb7⟩
  obtain ⟨ge, ce, rfl, _, hbsE⟩ := own_bytes hoE (by omega)
  have HB7 : Hid (Below w.heap.size w w7) := HB6.out.trans (hb7.mono HB6.out.size)
  have HC7 := hide (HU6.out w7 _ HB7.out hbsE)
  have HOE : Hid (∀ W, Below w7.heap.size w7 W → W.ownsRow w6.heap.size 5 1 (.slice (some ⟨ge, 0, none⟩) D.length ce) D.length (bcells D)) := fun W hW => ownsRow_below hoE hW
  clear hoE hb7 hbsE HC6 HU6
  go_wp2_with fail
  refine HC7.out.mono ?_
  rintro e w8 ⟨dv8, rfl, hoG, hb8⟩
  obtain ⟨gg, cg, rfl, _, _⟩ := own_bytes hoG (by omega)
  have HB8 : Hid (Below w.heap.size w w8) := HB7.out.trans (hb8.mono HB7.out.size)
  have cvG := conv_own hoG
  have cvE := conv_own (HOE.out w8 hb8)
  clear hoG hb8 HC7 HOE hl3 hl3'
  generalize (⟨D.toArray⟩ : ByteArray) = SD at *
  generalize D.length = dl at *
  go_wp2
  go_ret
  exact ⟨rfl, HB8.out⟩
end
end Go.Proofs.YtlghcldiboecoaaDoor
