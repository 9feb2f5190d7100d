/- A file of the first version, made. -/
import Derived.Test.YtlghcldiboecoaaDoorGPut
import Derived.Test.YtlghcldiboecoaaDoorGCont
set_option linter.unusedVariables false
namespace Go.Proofs.YtlghcldiboecoaaDoor
open Go.RowKit

section
variable {Tabs : World → Prop}

set_option maxRecDepth 8000 in
set_option maxHeartbeats 4000000 in
theorem save_1 (U : Utf validB Tabs) (w : World) (hT : Tabs w) (hL : Table w) (hSc : Schemas w) (mx : Int) (hm : w.cell? ⟨4, 0, none⟩ = some (.int .i64 mx)) (h4 : 4 < w.heap.size) (n : Int) (hn0 : 0 ≤ n) (nsv : Value) (ns : List Orch.Node) (hns : NsAt w w.heap.size nsv ns)
    (htree : TreeP n ns) (hsz : ∀ x, x ∈ ns → x.path.size ≤ 140737488355328 ∧ x.data.size ≤ 140737488355328) (hok : ∀ x, x ∈ ns → Orch.put validB 9 [] ty1 (Orch.fields 1 x) = some (nb1 x) ∧ 0 < (nb1 x).length) (hnote : ∀ x, x ∈ ns → x.note = ⟨#[]⟩) :
    Calls Tryd.prog 29 #[.int .i64 1, .int .i64 n, nsv] w fun e w' => (∃ ov, e = .returned (.tuple #[ov, .int .i64 0]) ∧ w'.ownsRow w.heap.size 5 1 ov (fileB1 n ns).length (bcells (fileB1 n ns))) ∧ Below w.heap.size w w' := by
  have h1 : 1 ≤ ns.length := by obtain ⟨h, _⟩ := htree.2.1; omega
  have h32 := htree.1
  have HTR := hide (isTree_any U w hT mx hm h4 n nsv w.heap.size (Nat.le_refl _) ns hns h1 (by omega) hsz)
  have HPN : Hid (∀ W, Below w.heap.size w W → ∀ ov xs, W.ownsRow w.heap.size 5 1 ov xs.length (bcells xs) → xs.length ≤ 1000 → Calls Tryd.prog 43 #[ov, .int .i64 1, nsv] W fun e w' => (∃ ov', e = .returned (.tuple #[ov', .bool true]) ∧ w'.ownsRow w.heap.size 5 1 ov' (xs ++ ns.flatMap nb1).length (bcells (xs ++ ns.flatMap nb1)) ∧ Outs W w' ov ov')) := fun W hW ov xs ho hx =>
    putNodes_1 U W (U.kept (U.size hT) hW hT) (hL.below hW hL.pos) (hSc.below hW (by omega)) w.heap.size (U.size hT) hW.size ov xs ho hx nsv ns (hns.below hW) h32 hok
  have HCF : Hid (∀ W, Below w.heap.size w W → Calls Tryd.prog 40 #[nsv, .func (.func 41) #[] #[]] W fun e w' => e = .returned (.bool false) ∧ Below W.heap.size W w') := fun W hW => contains_none W nsv ns (by
    obtain ⟨b, off, cap, e, hc, hlt, hn⟩ := hns.below hW
    exact ⟨b, off, cap, e, hc, Nat.lt_of_lt_of_le hlt hW.size, hn⟩) (by omega) hnote
  obtain ⟨b, off, cap, rfl, hcap, hblt, hcells⟩ := hns
  have HTREE := hide htree
  obtain ⟨F, hF⟩ : ∃ F, F = fileB1 n ns := ⟨_, rfl⟩
  rw [← hF]
  have HF := hide hF
  have hlenb : (ns.flatMap nb1).length ≤ 32000 := Nat.le_trans (flat_short1 (fun x hx => put_short (hok x hx).1)) (by omega)
  have hcv := sign_conv
  clear hT hL hSc hm hsz hok hcells htree hF hnote
  go_enter Tryd.func29, Tryd.ntmps29
  go_wp2_with (first
    | (go_at_call 38; refine (isVersion_any _ _).mono ?_; rintro e w1 ⟨rfl, hw1⟩; have hw2 := hw1.symm; clear hw1; subst hw2)
    | (go_at_call 37; refine HTR.out.mono ?_; rintro e w1 ⟨ht, hb1⟩; obtain ⟨r, he, hr⟩ := ht; have hr' := hr.2 HTREE.out; subst hr'; subst he; have HB1 := hide hb1; clear hr hb1)
    | (go_at_call 39; refine (hasNotes_any _ _).mono ?_; rintro e w2 ⟨rfl, hw2⟩; have hw3 := hw2.symm; clear hw2; subst hw3))
  refine (HCF.out w1 HB1.out).mono ?_
  rintro e w1' ⟨rfl, hb1'⟩
  have HB1' : Hid (Below w.heap.size w w1') := HB1.out.trans (hb1'.mono HB1.out.size)
  clear hb1' HB1 HCF HTR
  go_wp2_with fail
  clear hcv
  have hb2 := below1 w1' (.cells #[.int .u8 79, .int .u8 82, .int .u8 67, .int .u8 72] 5 (4, 5))
  have hsg := heap_alloc_new w1' (.cells #[.int .u8 79, .int .u8 82, .int .u8 67, .int .u8 72] 5 (4, 5))
  have hsz2 : (w1'.alloc (.cells #[.int .u8 79, .int .u8 82, .int .u8 67, .int .u8 72] 5 (4, 5))).heap.size = w1'.heap.size + 1 := by simp
  have HB2 : Hid (Below w.heap.size w (w1'.alloc (.cells #[.int .u8 79, .int .u8 82, .int .u8 67, .int .u8 72] 5 (4, 5)))) := HB1'.out.alloc HB1'.out.size _
  have HAS := hide (append_sign (w1'.alloc (.cells #[.int .u8 79, .int .u8 82, .int .u8 67, .int .u8 72] 5 (4, 5))) w.heap.size w1'.heap.size [79, 82, 67, 72] _ _ hsg rfl (by decide) 1 HB2.out.size)
  clear hb2 hsg hsz2
  refine HAS.out.mono ?_
  rintro e w3 ⟨⟨v1, rfl, ho1⟩, hb3⟩
  have HB3 : Hid (Below w.heap.size w w3) := HB2.out.trans (hb3.mono HB2.out.size)
  obtain ⟨X1, hX1⟩ : ∃ X1, X1 = [79, 82, 67, 72] ++ Orch.be 1 1 := ⟨_, rfl⟩
  rw [← hX1] at ho1
  have hl1 : X1.length = 5 := by rw [hX1]; rfl
  have HX1 := hide hX1
  have HL1 := hide hl1
  clear hl1
  have HO1 := hide ho1
  clear ho1 hb3 HB2 HAS hX1 HB1'
  -- the number
  have HA2 := hide (append2 w3 w.heap.size v1 n 8 X1 (by omega) HO1.out HB3.out.size (by have := HL1.out; omega))
  obtain ⟨a1, c1, rfl⟩ := own_shape HO1.out
  go_wp2_with fail
  refine HA2.out.mono ?_
  rintro e w4 ⟨v2, rfl, ho2, hu2⟩
  have HLOW1 : Hid (∀ g, (Value.slice a1 X1.length c1).ownBlock = some g → w.heap.size ≤ g) := fun g h => (ownBlock_lt HO1.out h).1
  have HB4 : Hid (Below w.heap.size w w4) := HB3.out.trans (hu2.low HB3.out.size HLOW1.out)
  obtain ⟨X2, hX2⟩ : ∃ X2, X2 = X1 ++ Orch.be n 8 := ⟨_, rfl⟩
  rw [← hX2] at ho2
  have hl2 : X2.length = 13 := by rw [hX2, List.length_append, Orch.be_length, HL1.out]
  have HX2 := hide hX2
  have HL2 := hide hl2
  clear hl2
  have HO2 := hide ho2
  clear ho2 hu2 hX2 HA2 HLOW1 HO1
  -- how many nodes
  have HA3 := hide (append2 w4 w.heap.size v2 ns.length 4 X2 (by omega) HO2.out HB4.out.size (by have := HL2.out; omega))
  obtain ⟨a2, c2, rfl⟩ := own_shape HO2.out
  go_wp2_with fail
  refine HA3.out.mono ?_
  rintro e w5 ⟨v3, rfl, ho3, hu3⟩
  have HLOW2 : Hid (∀ g, (Value.slice a2 X2.length c2).ownBlock = some g → w.heap.size ≤ g) := fun g h => (ownBlock_lt HO2.out h).1
  have HB5 : Hid (Below w.heap.size w w5) := HB4.out.trans (hu3.low HB4.out.size HLOW2.out)
  obtain ⟨X3, hX3⟩ : ∃ X3, X3 = X2 ++ Orch.be (ns.length : Int) 4 := ⟨_, rfl⟩
  rw [← hX3] at ho3
  have hl3 : X3.length = 17 := by rw [hX3, List.length_append, Orch.be_length, HL2.out]
  have HX3 := hide hX3
  have HL3 := hide hl3
  clear hl3
  have HO3 := hide ho3
  clear ho3 hu3 hX3 HA3 HLOW2 HO2
  -- the nodes
  have HP4 := hide (HPN.out w5 HB5.out v3 X3 HO3.out (by have := HL3.out; omega))
  obtain ⟨a3, c3, rfl⟩ := own_shape HO3.out
  go_wp2_with fail
  refine HP4.out.mono ?_
  rintro e w6 ⟨v4, rfl, ho4, hu4⟩
  have HLOW3 : Hid (∀ g, (Value.slice a3 X3.length c3).ownBlock = some g → w.heap.size ≤ g) := fun g h => (ownBlock_lt HO3.out h).1
  have HB6 : Hid (Below w.heap.size w w6) := HB5.out.trans (hu4.low HB5.out.size HLOW3.out)
  obtain ⟨X4, hX4⟩ : ∃ X4, X4 = X3 ++ ns.flatMap nb1 := ⟨_, rfl⟩
  rw [← hX4] at ho4
  have hl4 : X4.length ≤ 33000 := by rw [hX4, List.length_append, HL3.out]; omega
  have hl4p : 0 < X4.length := by rw [hX4, List.length_append, HL3.out]; omega
  have HX4 := hide hX4
  have HO4 := hide ho4
  clear ho4 hu4 hX4 HP4 HLOW3 HO3 HPN
  obtain ⟨g4, c4, rfl, hc4, hbs4⟩ := own_bytes HO4.out hl4p
  obtain ⟨b4, off4, cap4, e4, _, _, hby4⟩ := hbs4
  simp only [Value.slice.injEq, Option.some.injEq, Addr.mk.injEq] at e4
  obtain ⟨⟨rfl, rfl, _⟩, _, rfl⟩ := e4
  have HSUM := hide (sum_any w6 g4 0 X4.length c4 X4 rfl (by omega) hby4)
  have HA5 := hide (append2 w6 w.heap.size (.slice (some ⟨g4, 0, none⟩) X4.length c4) (Orch.sum X4) 4 X4 (by omega) HO4.out HB6.out.size (by omega))
  clear hby4
  go_wp2_with (first
    | (go_at_call 44; refine HSUM.out.mono ?_; rintro e w7 ⟨rfl, hw7⟩; have hw8 := hw7.symm; clear hw7; subst hw8)
    | (go_at_call 42; refine HA5.out.mono ?_; rintro e w8 ⟨v5, rfl, ho5, hu5⟩; have HB8 : Hid (Below w.heap.size w w8) := HB6.out.trans (hu5.low HB6.out.size (fun g h => (ownBlock_lt HO4.out h).1)); have HO5 := hide ho5; clear ho5 hu5))
  have hFX : F = X4 ++ Orch.be (Orch.sum X4) 4 := by rw [HF.out, HX4.out, HX3.out, HX2.out, HX1.out]; rfl
  exact bodyPost_ret (v := .tuple #[v5, .int .i64 0]) (by simp [results, Tryd.results29, go_sem]) rfl ⟨⟨v5, rfl, by rw [hFX]; exact HO5.out⟩, HB8.out⟩
end

end Go.Proofs.YtlghcldiboecoaaDoor
