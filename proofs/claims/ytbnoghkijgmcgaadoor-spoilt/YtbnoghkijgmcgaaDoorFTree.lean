/- Trees. -/
import Derived.Test.YtbnoghkijgmcgaaDoorFPar
set_option linter.unusedVariables false
namespace Go.Proofs.YtbnoghkijgmcgaaDoor
open Go.RowKit

/-- A tree with a number. -/
def TreeP (n : Int) (ns : List Orch.Node) : Prop := ns.length ≤ 32 ∧ (∃ h : 0 < ns.length, ns[0].path = ⟨#[47]⟩) ∧ (∀ x, x ∈ ns → isNd x = true ∧ x.changed ≤ n) ∧ Rises ns ∧ HasParents ns

theorem pa_slash {s : ByteArray} (h : isPa s = true) : slash1 s = true ∧ s.size ≤ 24 := by
  unfold isPa at h
  rw [Bool.and_eq_true, decide_eq_true_iff, Bool.or_eq_true, Bool.and_eq_true] at h
  obtain ⟨h1, h2 | h2⟩ := h
  · rw [toList_lit, decide_eq_true_iff] at h2
    rw [h2]
    exact ⟨by kernel_rfl, by decide⟩
  · exact ⟨h2.1, h1⟩

theorem nd_slash {x : Orch.Node} (h : isNd x = true) : slash1 x.path = true ∧ x.path.size ≤ 1000 := by
  unfold isNd at h
  rw [Bool.and_eq_true] at h
  have := pa_slash h.1
  exact ⟨this.1, by omega⟩

section
variable {Tabs : World → Prop}

set_option maxRecDepth 8000 in
set_option maxHeartbeats 4000000 in
theorem isTree_any (U : Utf validB Tabs) (w : World) (hT : Tabs w) (mx : Int) (hm : w.cell? ⟨4, 0, none⟩ = some (.int .i64 mx)) (h4 : 4 < w.heap.size) (n : Int) (nsv : Value) (B : Nat) (hB : B ≤ w.heap.size) (ns : List Orch.Node) (hns : NsAt w B nsv ns) (h1 : 1 ≤ ns.length) (hlen : ns.length ≤ 1000000)
    (hsz : ∀ x, x ∈ ns → x.path.size ≤ 140737488355328 ∧ x.data.size ≤ 140737488355328) :
    Calls Tryd.prog 37 #[.int .i64 n, nsv] w fun e w' => Tells e (TreeP n ns) ∧ Below w.heap.size w w' := by
  have HNS : Hid (∀ W, Below w.heap.size w W → NsAt W B nsv ns) := fun W h => hns.below (h.mono hB)
  obtain ⟨b, off, cap, rfl, hcap, hblt, hcells⟩ := hns
  have HC : Hid (∀ W, Below w.heap.size w W → ∀ i (h : i < ns.length) (j : Nat) u, (ncell ns[i])[j]? = some u → W.cell? ⟨b, off + i * 6 + j, none⟩ = some u) := fun W hW i h j u hu => (hW.cell (p := ⟨b, off + i * 6 + j, none⟩) (Nat.lt_of_lt_of_le hblt hB)).trans (hcells i h j u hu)
  have HND : Hid (∀ W, Below w.heap.size w W → ∀ x, x ∈ ns → Calls Tryd.prog 53 #[ndv x.path x.data x.note x.made x.changed x.version] W fun e w' => e = .returned (.bool (isNd x)) ∧ Below W.heap.size W w') := fun W hW x hx =>
    isNode_any U W (U.kept (U.size hT) hW hT) mx ((hW.cell (p := ⟨4, 0, none⟩) h4).trans hm) (Nat.lt_of_lt_of_le h4 hW.size) x (hsz x hx).1 (hsz x hx).2
  have HRI : Hid (∀ W, Below w.heap.size w W → Calls Tryd.prog 54 #[.slice (some ⟨b, off, none⟩) ns.length cap] W fun e w' => Tells e (Rises ns) ∧ Below W.heap.size W w') := fun W hW => rises_any W _ B (Nat.le_trans hB hW.size) ns (HNS.out W hW) hlen
  have HPA : Hid (∀ W, Below w.heap.size w W → (∀ x, x ∈ ns → isNd x = true) → Calls Tryd.prog 55 #[.slice (some ⟨b, off, none⟩) ns.length cap] W fun e w' => Tells e (HasParents ns) ∧ Below W.heap.size W w') := fun W hW hp => parents_any W _ B (Nat.le_trans hB hW.size) ns (HNS.out W hW) h1 hlen (fun x hx => nd_slash (hp x hx))
  have c00 := hcells 0 (by omega) 0 _ rfl
  simp only [Nat.zero_mul, Nat.add_zero] at c00
  clear hT hm hsz hcells HNS
  have hz0 : ((ns.length : Int) == 0) = false := by rw [beq_eq_false_iff_ne]; omega
  by_cases h32 : (32 : Int) < (ns.length : Int)
  · have HF : Hid (¬ TreeP n ns) := fun h => by have := h.1; omega
    go_enter Tryd.func37, Tryd.ntmps37
    go_wp2
    go_ret
    exact ⟨Tells.no HF.out, Below.refl _ _⟩
  · have h0' : 0 < ns.length := by omega
    have HR0 : Hid (ns[0].path = ns[0].path) := rfl
    generalize hroot : ns[0].path = R0 at *
    have HROOT := hide hroot
    clear HR0 hroot
    cases hr : (R0.toList == [47]) with
    | false =>
      have HF : Hid (¬ TreeP n ns) := fun h => by
        obtain ⟨h', he⟩ := h.2.1
        rw [HROOT.out] at he
        rw [toList_lit, decide_eq_false_iff_not] at hr
        exact hr he
      go_enter Tryd.func37, Tryd.ntmps37
      go_wp2
      go_ret
      exact ⟨Tells.no HF.out, Below.refl _ _⟩
    | true =>
      have HRT : Hid (∃ h : 0 < ns.length, ns[0].path = ⟨#[47]⟩) := ⟨h0', by rw [HROOT.out]; rw [toList_lit, decide_eq_true_iff] at hr; exact hr⟩
      go_enter Tryd.func37, Tryd.ntmps37
      go_wp2_with fail
      clear c00
      go_loopw [24] (fun i wr => ∃ k : Nat, k ≤ ns.length ∧ i = .int .i64 k ∧ Hid (Below w.heap.size w wr) ∧ Hid (∀ j (h : j < ns.length), j < k → isNd ns[j] = true ∧ ns[j].changed ≤ n)) (fun i _ => ns.length - (intOf i).toNat)
      case atStart => exact ⟨0, Nat.zero_le _, rfl, Below.refl _ _, fun j h h0 => by omega⟩
      case round =>
        obtain ⟨k, hk, rfl, HB, HA⟩ := hrel
        by_cases hlt : k < ns.length
        · have hkz : (k : Int) < (ns.length : Int) := by omega
          have c0 := HC.out wr HB.out k hlt 0 _ rfl
          have c1 := HC.out wr HB.out k hlt 1 _ rfl
          have c2 := HC.out wr HB.out k hlt 2 _ rfl
          have c3 := HC.out wr HB.out k hlt 3 _ rfl
          have c4 := HC.out wr HB.out k hlt 4 _ rfl
          have c5 := HC.out wr HB.out k hlt 5 _ rfl
          rw [Nat.add_zero] at c0
          have HMEM := hide (List.getElem_mem hlt)
          have HNDk : Hid (∀ W, Below w.heap.size w W → Calls Tryd.prog 53 #[ndv ns[k].path ns[k].data ns[k].note ns[k].made ns[k].changed ns[k].version] W fun e w' => e = .returned (.bool (isNd ns[k])) ∧ Below W.heap.size W w') := fun W hW => HND.out W hW _ (List.getElem_mem hlt)
          generalize hxx : ns[k] = x at *
          obtain ⟨xp, xd, xt, xm, xch, xv⟩ := x
          simp only at c0 c1 c2 c3 c4 c5
          have HXX := hide hxx
          clear hxx HMEM
          have HNDk' : Hid (∀ W, Below w.heap.size w W → Calls Tryd.prog 53 #[ndv xp xd xt xm xch xv] W fun e w' => e = .returned (.bool (isNd ⟨xp, xd, xt, xm, xch, xv⟩)) ∧ Below W.heap.size W w') := HNDk
          clear HNDk
          have HBa : Hid (Below w.heap.size w (wr.alloc (.cells #[.string xp, .string xd, .string xt, .int .i64 xm, .int .i64 xch, .int .i64 xv] 69))) := HB.out.alloc HB.out.size _
          have HNa : Hid ((wr.alloc (.cells #[.string xp, .string xd, .string xt, .int .i64 xm, .int .i64 xch, .int .i64 xv] 69)).heap[wr.heap.size]? = some (.cells #[.string xp, .string xd, .string xt, .int .i64 xm, .int .i64 xch, .int .i64 xv] 69)) := heap_alloc_new _ _
          cases hnd : isNd ⟨xp, xd, xt, xm, xch, xv⟩ with
          | false =>
            have HF : Hid (¬ TreeP n ns) := fun h => by
              have := (h.2.2.1 _ (List.getElem_mem hlt)).1
              rw [HXX.out, hnd] at this
              cases this
            rw [hnd] at HNDk'
            go_wp2_with (go_at_call 53; refine (HNDk'.out _ HBa.out).mono ?_; rintro e w2 ⟨rfl, hb2⟩; have HB2 : Hid (Below w.heap.size w w2) := HBa.out.trans (hb2.mono HBa.out.size); have hC := (hb2.block _ (ltOf HNa.out)).trans HNa.out; have q4 := cellOf (j := 4) hC rfl; clear hb2 hC)
            go_ret
            exact ⟨Tells.no HF.out, HB2.out⟩
          | true =>
            rw [hnd] at HNDk'
            by_cases hch : n < xch
            · have HF : Hid (¬ TreeP n ns) := fun h => by
                have := (h.2.2.1 _ (List.getElem_mem hlt)).2
                rw [HXX.out] at this
                simp only at this
                omega
              go_wp2_with (go_at_call 53; refine (HNDk'.out _ HBa.out).mono ?_; rintro e w2 ⟨rfl, hb2⟩; have HB2 : Hid (Below w.heap.size w w2) := HBa.out.trans (hb2.mono HBa.out.size); have hC := (hb2.block _ (ltOf HNa.out)).trans HNa.out; have q4 := cellOf (j := 4) hC rfl; clear hb2 hC)
              go_ret
              exact ⟨Tells.no HF.out, HB2.out⟩
            · have HA1 : Hid (∀ j (h : j < ns.length), j < k + 1 → isNd ns[j] = true ∧ ns[j].changed ≤ n) := fun j h hj => by
                rcases Nat.lt_or_ge j k with h5 | h5
                · exact HA.out j h h5
                · obtain rfl : j = k := by omega
                  rw [HXX.out]
                  exact ⟨hnd, by simp only; omega⟩
              go_wp2_with (go_at_call 53; refine (HNDk'.out _ HBa.out).mono ?_; rintro e w2 ⟨rfl, hb2⟩; have HB2 : Hid (Below w.heap.size w w2) := HBa.out.trans (hb2.mono HBa.out.size); have hC := (hb2.block _ (ltOf HNa.out)).trans HNa.out; have q4 := cellOf (j := 4) hC rfl; clear hb2 hC)
              go_roundw
              case rel => exact ⟨k + 1, by omega, by go_num, HB2, HA1⟩
              case measure => first | (simp [intOf]; done) | (simp [intOf]; omega)
        · have hkz : ¬ (k : Int) < (ns.length : Int) := by omega
          have HALL : Hid (∀ x, x ∈ ns → isNd x = true ∧ x.changed ≤ n) := fun x hx => by
            obtain ⟨j, h, rfl⟩ := List.getElem_of_mem hx
            exact HA.out j h (by omega)
          go_wp2_with fail
          refine (HRI.out _ HB.out).mono ?_
          rintro e w2 ⟨htell, hb2⟩
          obtain ⟨r, he, hr2⟩ := htell
          have HB2 : Hid (Below w.heap.size w w2) := HB.out.trans (hb2.mono HB.out.size)
          have HR2 := hide hr2
          clear hb2 hr2
          cases r with
          | false =>
            subst he
            have HF : Hid (¬ TreeP n ns) := fun h => by
              have := HR2.out.2 h.2.2.2.1
              cases this
            clear HR2
            go_wp2
            go_ret
            exact ⟨Tells.no HF.out, HB2.out⟩
          | true =>
            subst he
            have HRS := hide (HR2.out.1 rfl)
            clear HR2
            go_wp2_with fail
            refine (HPA.out _ HB2.out (fun x hx => (HALL.out x hx).1)).mono ?_
            rintro e w3 ⟨htell3, hb3⟩
            obtain ⟨r3, he3, hr3⟩ := htell3
            subst he3
            have HB3 : Hid (Below w.heap.size w w3) := HB2.out.trans (hb3.mono HB2.out.size)
            have HFIN : Hid (r3 = true ↔ TreeP n ns) := hr3.trans ⟨fun h => ⟨by omega, HRT.out, HALL.out, HRS.out, h⟩, fun h => h.2.2.2.2⟩
            clear hb3 hr3
            go_wp2
            go_ret
            exact ⟨⟨r3, rfl, HFIN.out⟩, HB3.out⟩
end
end Go.Proofs.YtbnoghkijgmcgaaDoor
