/- A file of the first version, read. -/
import Derived.Test.YtlghcldiboecoaaDoorGRead
set_option linter.unusedVariables false
namespace Go.Proofs.YtlghcldiboecoaaDoor
open Go.RowKit

/-- What Load leaves. -/
def loadRes1 (w w' : World) (e : Ending) (l : List UInt8) : Prop :=
  (∃ n ns v, LoadIs1 l n ns ∧ e = .returned (.tuple #[.int .i64 1, .int .i64 n, v, .int .i64 0]) ∧ w'.ownsRow w.heap.size 69 6 v ns.length (ns.flatMap ncell)) ∨
  ((¬ ∃ n ns, LoadIs1 l n ns) ∧ e = .returned (.tuple #[.int .i64 0, .int .i64 0, .slice none 0 0, .int .i64 7]))

section
variable {Tabs : World → Prop}

set_option maxRecDepth 8000 in
set_option maxHeartbeats 4000000 in
theorem load_1 (U : Utf validB Tabs) (w : World) (hT : Tabs w) (hL : Table w) (hSc : Schemas w) (mx : Int) (hm : w.cell? ⟨4, 0, none⟩ = some (.int .i64 mx)) (h4 : 4 < w.heap.size) (bv : Value) (l : List UInt8) (hl : l.length ≤ 1000000) (hbv : BsAt w bv l)
    (hcov : 4 ≤ l.length → Orch.uns (l.drop (l.length - 4)) = Orch.sum (l.take (l.length - 4)) → ∀ v n c, headOf ((l.take (l.length - 4)).take 17) = some (v, n, c) → v = 1 ∧ c ≤ 32) :
    Calls Tryd.prog 28 #[bv] w fun e w' => loadRes1 w w' e l ∧ Below w.heap.size w w' := by
  obtain ⟨b, off, cap, rfl, hcap, hlt, hb⟩ := hbv
  by_cases hl4 : l.length < 4
  · have HW := hide (wos_short w (some ⟨b, off, none⟩) l.length cap hl4)
    have HN : Hid (¬ ∃ n ns, LoadIs1 l n ns) := fun ⟨n, ns, h⟩ => by have := h.1; omega
    clear hcov
    go_enter Tryd.func28, Tryd.ntmps28
    go_wp2_with (go_at_call 34; refine HW.out.mono ?_; rintro e w1 ⟨rfl, rfl⟩)
    exact bodyPost_ret (v := .tuple #[.int .i64 0, .int .i64 0, .slice none 0 0, .int .i64 7]) (by simp [results, Tryd.results28, go_sem]) rfl ⟨.inr ⟨HN.out, rfl⟩, Below.refl _ _⟩
  · obtain ⟨m, hml⟩ : ∃ m, l.length = m + 4 := ⟨l.length - 4, by omega⟩
    have hm4 : l.length - 4 = m := by omega
    have HW := hide (wos_at w b off m cap l hml (by omega) (by omega) hlt hb)
    rw [hm4] at hcov
    have HLI : Hid (∀ n ns, LoadIs1 l n ns ↔ 4 ≤ l.length ∧ Orch.uns (l.drop m) = Orch.sum (l.take m) ∧ 17 ≤ m ∧ ∃ c, headOf ((l.take m).take 17) = some (1, n, c) ∧ rdN1 c ((l.take m).drop 17) = some (ns, []) ∧ TreeP n ns) := fun n ns => by unfold LoadIs1; rw [hm4]
    rw [hml]
    by_cases hsum : Orch.uns (l.drop m) = Orch.sum (l.take m)
    · rw [decide_eq_true hsum] at HW
      by_cases h17 : m < 17
      · have HN : Hid (¬ ∃ n ns, LoadIs1 l n ns) := fun ⟨n, ns, h⟩ => by have := ((HLI.out n ns).1 h).2.2.1; omega
        have hz17 : (m : Int) < 17 := by omega
        clear hcov hml hm4
        go_enter Tryd.func28, Tryd.ntmps28
        go_wp2_with (go_at_call 34; refine HW.out.mono ?_; rintro e w1 ⟨rfl, hb1⟩; have HB1 := hide hb1; clear hb1)
        exact bodyPost_ret (v := .tuple #[.int .i64 0, .int .i64 0, .slice none 0 0, .int .i64 7]) (by simp [results, Tryd.results28, go_sem]) rfl ⟨.inr ⟨HN.out, rfl⟩, HB1.out⟩
      · have hz17 : ¬ (m : Int) < 17 := by omega
        have hlb : (l.take m).length = m := by rw [List.length_take]; omega
        have HHB : Hid (∀ W, Below w.heap.size w W → Bytes W b off (l.take m)) := fun W hW => Bytes.take (fun i hi => (hW.cell (p := ⟨b, off + i, none⟩) hlt).trans (hb i hi)) m
        have HRH : Hid (∀ W, Below w.heap.size w W → Calls Tryd.prog 35 #[.slice (some ⟨b, off, none⟩) 17 cap] W fun e w' => (match headOf ((l.take m).take 17) with
            | none => ∃ v n c, e = .returned (.tuple #[.int .i64 v, .int .i64 n, .int .i64 c, .bool false])
            | some (v, n, c) => e = .returned (.tuple #[.int .i64 v, .int .i64 n, .int .i64 c, .bool true])) ∧ w' = W) := fun W hW => rh_any W b off cap (by omega) ((l.take m).take 17) (by rw [List.length_take, hlb]; omega) ((HHB.out W hW).take 17)
        have hc17 : (17 : Int) ≤ (cap : Int) := by omega
        have hne17 : ¬ cap = 17 := by omega
        cases hh : headOf ((l.take m).take 17) with
        | none =>
          rw [hh] at HRH
          have HN : Hid (¬ ∃ n ns, LoadIs1 l n ns) := fun ⟨n, ns, h⟩ => by
            obtain ⟨c, h1, _⟩ := ((HLI.out n ns).1 h).2.2.2
            rw [hh] at h1
            cases h1
          clear hcov hml hm4 hlb
          go_enter Tryd.func28, Tryd.ntmps28
          go_wp2_with (first
            | (go_at_call 34; refine HW.out.mono ?_; rintro e w1 ⟨rfl, hb1⟩; have HB1 := hide hb1; clear hb1)
            | (go_at_call 35; refine (HRH.out _ HB1.out).mono ?_; rintro e w2 ⟨⟨hv, hn, hc, rfl⟩, hw2⟩; have hw3 := hw2.symm; clear hw2; subst hw3))
          exact bodyPost_ret (v := .tuple #[.int .i64 0, .int .i64 0, .slice none 0 0, .int .i64 7]) (by simp [results, Tryd.results28, go_sem]) rfl ⟨.inr ⟨HN.out, rfl⟩, HB1.out⟩
        | some hd =>
          obtain ⟨hv, n, c⟩ := hd
          obtain ⟨rfl, hc32⟩ := hcov (by omega) hsum _ _ _ hh
          rw [hh] at HRH
          have HRN : Hid (∀ W, Below w.heap.size w W → Calls Tryd.prog 36 #[.slice (some ⟨b, off + 17, none⟩) (m - 17) (cap - 17), .int .i64 1, .int .i64 c] W fun e w' => rnRes W w' e (rdN1 c ((l.take m).drop 17)) ∧ Below W.heap.size W w') := fun W hW =>
            readNodes_1 U W (U.kept (U.size hT) hW hT) (hL.below hW hL.pos) (hSc.below hW (by omega)) _ ((l.take m).drop 17) (by rw [List.length_drop, hlb]; omega) ⟨b, off + 17, cap - 17, by rw [List.length_drop, hlb], by rw [List.length_drop, hlb]; omega, Nat.lt_of_lt_of_le hlt hW.size, (HHB.out W hW).drop 17⟩ c hc32
          have HIT : Hid (∀ W, Below w.heap.size w W → ∀ ns v, W.ownsRow w.heap.size 69 6 v ns.length (ns.flatMap ncell) → 1 ≤ ns.length → ns.length ≤ 32 → (∀ x, x ∈ ns → x.path.size ≤ 200 ∧ x.data.size ≤ 200) → Calls Tryd.prog 37 #[.int .i64 n, v] W fun e w' => Tells e (TreeP n ns) ∧ Below W.heap.size W w') := fun W hW ns v ho h1 h32 hs =>
            isTree_any U W (U.kept (U.size hT) hW hT) mx ((hW.cell (p := ⟨4, 0, none⟩) h4).trans hm) (Nat.lt_of_lt_of_le h4 hW.size) n v W.heap.size (Nat.le_refl _) ns (ns_of_own ho h1) h1 (by omega) (fun x hx => ⟨by have := (hs x hx).1; omega, by have := (hs x hx).2; omega⟩)
          clear hcov hml hm4 hlb hT hL hSc hm HHB
          cases hrd : rdN1 c ((l.take m).drop 17) with
          | none =>
            rw [hrd] at HRN
            have HN : Hid (¬ ∃ n ns, LoadIs1 l n ns) := fun ⟨n', ns, h⟩ => by
              obtain ⟨c', h1, h2, _⟩ := ((HLI.out n' ns).1 h).2.2.2
              rw [hh] at h1
              simp only [Option.some.injEq, Prod.mk.injEq] at h1
              obtain ⟨_, _, rfl⟩ := h1
              rw [hrd] at h2
              cases h2
            go_enter Tryd.func28, Tryd.ntmps28
            go_wp2_with (first
              | (go_at_call 34; refine HW.out.mono ?_; rintro e w1 ⟨rfl, hb1⟩; have HB1 := hide hb1; clear hb1)
              | (go_at_call 35; refine (HRH.out _ HB1.out).mono ?_; rintro e w2 ⟨rfl, hw2⟩; have hw3 := hw2.symm; clear hw2; subst hw3)
              | (go_at_call 36; refine (HRN.out _ HB1.out).mono ?_; rintro e w3 ⟨he, hb3⟩; have he' : e = .returned (.tuple #[.slice none 0 0, .bool false]) := he; subst he'; have HB3 : Hid (Below w.heap.size w w3) := HB1.out.trans (hb3.mono HB1.out.size); clear he hb3))
            exact bodyPost_ret (v := .tuple #[.int .i64 0, .int .i64 0, .slice none 0 0, .int .i64 7]) (by simp [results, Tryd.results28, go_sem]) rfl ⟨.inr ⟨HN.out, rfl⟩, HB3.out⟩
          | some q =>
            obtain ⟨ns, rest⟩ := q
            obtain ⟨hnc, hnsz⟩ := rdN_small1 _ _ _ _ hrd
            rw [hrd] at HRN
            have HNSZ := hide hnsz
            have HNC := hide hnc
            have h32n : ns.length ≤ 32 := by omega
            clear hnsz hnc
            by_cases hrest : rest.length = 0
            · obtain rfl : rest = [] := List.length_eq_zero_iff.1 hrest
              have HRN' : Hid (∀ W, Below w.heap.size w W → Calls Tryd.prog 36 #[.slice (some ⟨b, off + 17, none⟩) (m - 17) (cap - 17), .int .i64 1, .int .i64 c] W fun e w' => (∃ v, e = .returned (.tuple #[v, .bool true]) ∧ w'.ownsRow W.heap.size 69 6 v ns.length (ns.flatMap ncell)) ∧ Below W.heap.size W w') := HRN
              have HYES : Hid (TreeP n ns → LoadIs1 l n ns) := fun ht => (HLI.out n ns).2 ⟨by omega, hsum, by omega, c, hh, hrd, ht⟩
              have HNO : Hid (¬ TreeP n ns → ¬ ∃ n ns, LoadIs1 l n ns) := fun ht ⟨n', ns', h⟩ => by
                obtain ⟨c', h1, h2, h3⟩ := ((HLI.out n' ns').1 h).2.2.2
                rw [hh] at h1
                simp only [Option.some.injEq, Prod.mk.injEq] at h1
                obtain ⟨_, rfl, rfl⟩ := h1
                rw [hrd] at h2
                simp only [Option.some.injEq, Prod.mk.injEq, and_true] at h2
                obtain rfl := h2
                exact ht h3
              clear HRN hrest HLI
              by_cases hn0 : ns.length = 0
              · have HF : Hid (¬ TreeP n ns) := fun h => by obtain ⟨h', _⟩ := h.2.1; omega
                have HNN := hide (HNO.out HF.out)
                have HS : Hid (∀ (W : World) B v, W.ownsRow B 69 6 v ns.length (ns.flatMap ncell) → ∃ a c, v = .slice a 0 c) := fun W B v h => by
                  rcases h.2 with ⟨e, _⟩ | ⟨g, cap, cur, e, _⟩
                  · exact ⟨_, _, e⟩
                  · exact ⟨_, _, by rw [e, hn0]⟩
                go_enter Tryd.func28, Tryd.ntmps28
                go_wp2_with (first
                  | (go_at_call 34; refine HW.out.mono ?_; rintro e w1 ⟨rfl, hb1⟩; have HB1 := hide hb1; clear hb1)
                  | (go_at_call 35; refine (HRH.out _ HB1.out).mono ?_; rintro e w2 ⟨rfl, hw2⟩; have hw3 := hw2.symm; clear hw2; subst hw3)
                  | (go_at_call 36; refine (HRN'.out _ HB1.out).mono ?_; rintro e w3 ⟨⟨v, rfl, ho⟩, hb3⟩; obtain ⟨va, vc, rfl⟩ := HS.out _ _ _ ho; have HB3 : Hid (Below w.heap.size w w3) := HB1.out.trans (hb3.mono HB1.out.size); clear ho hb3)
                  | (go_at_call 37; refine (isTree_empty _ _ _ _).mono ?_; rintro e w4 ⟨rfl, hw4⟩; have hw5 := hw4.symm; clear hw4; subst hw5))
                exact bodyPost_ret (v := .tuple #[.int .i64 0, .int .i64 0, .slice none 0 0, .int .i64 7]) (by simp [results, Tryd.results28, go_sem]) rfl ⟨.inr ⟨HNN.out, rfl⟩, HB3.out⟩
              · go_enter Tryd.func28, Tryd.ntmps28
                go_wp2_with (first
                  | (go_at_call 34; refine HW.out.mono ?_; rintro e w1 ⟨rfl, hb1⟩; have HB1 := hide hb1; clear hb1)
                  | (go_at_call 35; refine (HRH.out _ HB1.out).mono ?_; rintro e w2 ⟨rfl, hw2⟩; have hw3 := hw2.symm; clear hw2; subst hw3)
                  | (go_at_call 36; refine (HRN'.out _ HB1.out).mono ?_; rintro e w3 ⟨⟨v, rfl, ho⟩, hb3⟩; have HO3 := hide (own_mono ho HB1.out.size); have HB3 : Hid (Below w.heap.size w w3) := HB1.out.trans (hb3.mono HB1.out.size); clear ho hb3))
                refine (HIT.out _ HB3.out ns v HO3.out (by omega) h32n HNSZ.out).mono ?_
                rintro e w4 ⟨htell, hb4⟩
                obtain ⟨r, he, hr⟩ := htell
                have HR := hide hr
                have HO4 := hide (ownsRow_below HO3.out hb4)
                have HB4 : Hid (Below w.heap.size w w4) := HB3.out.trans (hb4.mono HB3.out.size)
                clear hb4 hr
                cases r with
                | true =>
                  subst he
                  have HL2 := hide (HYES.out (HR.out.1 rfl))
                  clear HR
                  go_wp2
                  exact bodyPost_ret (v := .tuple #[.int .i64 1, .int .i64 n, v, .int .i64 0]) (by simp [results, Tryd.results28, go_sem]) rfl ⟨.inl ⟨n, ns, v, HL2.out, rfl, HO4.out⟩, HB4.out⟩
                | false =>
                  subst he
                  have HNN := hide (HNO.out (fun h => by have := HR.out.2 h; cases this))
                  clear HR
                  go_wp2
                  exact bodyPost_ret (v := .tuple #[.int .i64 0, .int .i64 0, .slice none 0 0, .int .i64 7]) (by simp [results, Tryd.results28, go_sem]) rfl ⟨.inr ⟨HNN.out, rfl⟩, HB4.out⟩
            · have HRN' : Hid (∀ W, Below w.heap.size w W → Calls Tryd.prog 36 #[.slice (some ⟨b, off + 17, none⟩) (m - 17) (cap - 17), .int .i64 1, .int .i64 c] W fun e w' => (∃ v, e = .returned (.tuple #[v, .bool false])) ∧ Below W.heap.size W w') := fun W hW => (HRN.out W hW).mono (by
                rintro e w' ⟨⟨v, rfl, _⟩, hb'⟩
                exact ⟨⟨v, by rw [decide_eq_false hrest]⟩, hb'⟩)
              have HN : Hid (¬ ∃ n ns, LoadIs1 l n ns) := fun ⟨n', ns', h⟩ => by
                obtain ⟨c', h1, h2, _⟩ := ((HLI.out n' ns').1 h).2.2.2
                rw [hh] at h1
                simp only [Option.some.injEq, Prod.mk.injEq] at h1
                obtain ⟨_, _, rfl⟩ := h1
                rw [hrd] at h2
                simp only [Option.some.injEq, Prod.mk.injEq] at h2
                exact hrest (by rw [h2.2]; rfl)
              clear HRN HLI
              go_enter Tryd.func28, Tryd.ntmps28
              go_wp2_with (first
                | (go_at_call 34; refine HW.out.mono ?_; rintro e w1 ⟨rfl, hb1⟩; have HB1 := hide hb1; clear hb1)
                | (go_at_call 35; refine (HRH.out _ HB1.out).mono ?_; rintro e w2 ⟨rfl, hw2⟩; have hw3 := hw2.symm; clear hw2; subst hw3)
                | (go_at_call 36; refine (HRN'.out _ HB1.out).mono ?_; rintro e w3 ⟨⟨v, rfl⟩, hb3⟩; have HB3 : Hid (Below w.heap.size w w3) := HB1.out.trans (hb3.mono HB1.out.size); clear hb3))
              exact bodyPost_ret (v := .tuple #[.int .i64 0, .int .i64 0, .slice none 0 0, .int .i64 7]) (by simp [results, Tryd.results28, go_sem]) rfl ⟨.inr ⟨HN.out, rfl⟩, HB3.out⟩
    · rw [decide_eq_false hsum] at HW
      have HN : Hid (¬ ∃ n ns, LoadIs1 l n ns) := fun ⟨n, ns, h⟩ => hsum ((HLI.out n ns).1 h).2.1
      clear hcov hml hm4
      go_enter Tryd.func28, Tryd.ntmps28
      go_wp2_with (go_at_call 34; refine HW.out.mono ?_; rintro e w1 ⟨rfl, hb1⟩; have HB1 := hide hb1; clear hb1)
      exact bodyPost_ret (v := .tuple #[.int .i64 0, .int .i64 0, .slice none 0 0, .int .i64 7]) (by simp [results, Tryd.results28, go_sem]) rfl ⟨.inr ⟨HN.out, rfl⟩, HB1.out⟩
end

end Go.Proofs.YtlghcldiboecoaaDoor
