/- Proved: CutUptoSaid: on every schedule the call orchardkeep.Cut returns true, without a data race, and its arguments read as they read before; frames that were made are read again, whatever comes behind them, however they are cut. Condition: the arguments are together of bulk at most 1048576 (values and letters, each counted each time it is reached). -/
import Derived.Test.YtkaapaepanhbgaaHRow
import Derived.Test.YtkaapaepanhbgaaCBulk
import Derived.Test.YtkaapaepanhbgaaCTopK
import Derived.Deep.Strs
import Derived.Carry
import Derived.ProofKit
import Derived.OpenShut
set_option linter.unusedVariables false
namespace Go.Proofs.Ytkaapaepanhbgaa
open Go Go.Conc Go.Pair Go.RowKit Go.ChangeShapes
open Go.ChangeMaps (open_string shut_string)

theorem cells3 : Try.prog.cellsOf 3 = 1 := by kernel_rfl
theorem cells9 : Try.prog.cellsOf 9 = 1 := by kernel_rfl

section
variable {H : Type} {enc : TypeId × Value → H} {W : World}

/-- The texts that were handed in. -/
theorem strs_at {v : Value} {d : DataW H} {ps : List MemPlace} (h : DataW.Trod enc Try.prog W 0 (fun _ => true) true 22 v d ps) (hv : ∃ a len cap, v = .slice a len cap) (hlt : ∀ p ∈ ps, p.block < W.heap.size) : ∃ (ba : Option Addr) (bcap : Nat) (bodies : List ByteArray), v = .slice ba bodies.length bcap ∧ StrsAt W ba bodies ∧ bodies.length ≤ Rows.uptoBulk d := by
  obtain ⟨n, h⟩ := h
  obtain ⟨a0, len0, cap0, rfl⟩ := hv
  rcases Go.Deep.open_strs Try.underlying22 Try.underlying9 cells9 h with ⟨hcs, hx⟩ | ⟨a, len, cap, m, Sx, hcs, _, hl, hm, hmm, hx, hcell⟩
  · simp [Value.cells] at hcs
    obtain ⟨rfl, rfl, rfl⟩ := hcs
    exact ⟨none, 0, [], rfl, fun i hi => absurd hi (by simp), by simp⟩
  · simp [Value.cells] at hcs
    obtain ⟨rfl, rfl, rfl⟩ := hcs
    simp only [if_true] at hmm
    simp only [Prod.mk.injEq] at hx
    obtain ⟨rfl, rfl⟩ := hx
    refine ⟨some a, cap0, (List.range len0).map Sx, by simp, fun i hi => ?_, ?_⟩
    · simp at hi
      obtain ⟨h1, h2⟩ := hcell i (by omega)
      refine ⟨by simp; unfold maxLen at h2; omega, a, rfl, by simpa using h1, ?_⟩
      have := hlt (MemPlace.cell a.block (a.off + i)) (MemPlace.mem_row.2 ⟨i, by omega, rfl⟩)
      rw [addBlock]
      exact this
    · have := bulk_elems (H := H) (es := (List.range len0).map fun i => .lit (.string (Sx i).data.toList)) (sp := (List.range (m - len0)).map fun j => .lit (.string (Sx (len0 + j)).data.toList))
      simpa using this

/-- The cuts that were handed in. -/
theorem cuts_at {v : Value} {d : DataW H} {ps : List MemPlace} (h : DataW.Trod enc Try.prog W 0 (fun _ => true) true 23 v d ps) (hv : ∃ a len cap, v = .slice a len cap) (hlt : ∀ p ∈ ps, p.block < W.heap.size) : ∃ (ca : Option Addr) (cc : Nat) (cuts : List Int), v = .slice ca cuts.length cc ∧ CutsAt W W.heap.size ca cuts ∧ cuts.length ≤ Rows.uptoBulk d := by
  obtain ⟨n, h⟩ := h
  obtain ⟨a0, len0, cap0, rfl⟩ := hv
  rcases open_ints Try.underlying23 Try.underlying3 cells3 h with ⟨hcs, hx⟩ | ⟨a, len, cap, zs, hcs, _, hl, hm, hz, hx, hcell, hw⟩
  · simp [Value.cells] at hcs
    obtain ⟨rfl, rfl, rfl⟩ := hcs
    exact ⟨none, 0, [], rfl, fun i hi => absurd hi (by simp), by simp⟩
  · simp [Value.cells] at hcs
    obtain ⟨rfl, rfl, rfl⟩ := hcs
    simp only [if_true] at hz
    simp only [Prod.mk.injEq] at hx
    obtain ⟨rfl, rfl⟩ := hx
    have hlen : (zs.take len0).length = len0 := by simp; omega
    refine ⟨some a, cap0, zs.take len0, by rw [hlen], fun i hi => ?_, ?_⟩
    · rw [hlen] at hi
      have h1 := hcell i (by omega)
      have e : zs.getD i 0 = (zs.take len0)[i] := by simp [List.getD_eq_getElem?_getD, List.getElem?_eq_getElem (show i < zs.length by omega)]
      rw [e] at h1
      have hb : (a.add i).block < W.heap.size := by
        have := hlt (MemPlace.cell a.block (a.off + i)) (MemPlace.mem_row.2 ⟨i, by omega, rfl⟩)
        rw [addBlock]
        exact this
      refine ⟨?_, a, rfl, h1, hb, hb⟩
      have := hw ((zs.take len0)[i]) (List.mem_of_mem_take (List.getElem_mem _))
      simpa [Lit.wf, IntKind.min, IntKind.max, IntKind.signed, IntKind.bits] using this
    · have := bulk_elems (H := H) (es := lits .i64 (zs.take len0)) (sp := lits .i64 (zs.drop len0))
      rw [hlen]
      refine Nat.le_trans ?_ this
      simp only [lits, List.length_map, hlen]
      exact Nat.le_refl _

set_option maxRecDepth 8000 in
theorem contract (base : Nat) (args : Array Value) (ds gs : List (DataW H)) (before : List MemPlace)
    (hval : ∀ (j : Nat) t v, Try.f3.params[j]? = some t → args[j]? = some v → Value.okWide Try.prog W .any base t v)
    (hW : DataW.Whole enc Try.prog Try.f3.params.toList Rows.cutSpec.vars false W args.toList ds gs before) (hk : Rows.uptoSmall H (ds ++ gs) = true) :
    EA Try.prog (fun v W' => Same W W' → Rows.cutSpec.post enc Try.prog Try.f3 false true false false W args v W') (fun _ => False) (G (Frame.enter Try.prog 3 args .normal) []) W := by
  have hW' := hW
  obtain ⟨p, q, hA0, hV, rfl, hfz, hnd⟩ := hW
  have hA : DataW.TrodAll enc Try.prog W 0 (fun _ => true) true Try.f3.params.toList args.toList ds p := hA0
  rw [Try.params3] at hA hval
  obtain ⟨v0, v1, v2, d0, d1, d2, p0, p1, p2, rfl, rfl, rfl, h0, h1, h2⟩ := trodAll_three hA
  obtain ⟨rfl, rfl⟩ := trodVars_none hV
  have hlt : ∀ x ∈ p0 ++ p1 ++ p2, x.block < W.heap.size := fun x hx => by simpa using hW'.lt x (by simpa using hx)
  have hlt0 : ∀ x ∈ p0, x.block < W.heap.size := fun x hx => hlt x (List.mem_append_left _ (List.mem_append_left _ hx))
  have hlt2 : ∀ x ∈ p2, x.block < W.heap.size := fun x hx => hlt x (List.mem_append_right _ hx)
  obtain ⟨b0, b1, b2⟩ := bulk_three hk
  clear hA0 hA
  obtain ⟨tail, rfl, rfl, rfl, wt⟩ := open_string Try.underlying9 (hval 1 9 v1 rfl rfl) h1
  obtain ⟨ba, bcap, bodies, hv0, hB, hbl⟩ := strs_at h0 (WideShapes.okWide_slice Try.underlying22 (hval 0 22 v0 rfl rfl)) hlt0
  obtain ⟨ca, cc, cuts, hv2, hcu, hcl⟩ := cuts_at h2 (WideShapes.okWide_slice Try.underlying23 (hval 2 23 v2 rfl rfl)) hlt2
  subst hv0 hv2
  have ht := bulk_text (H := H) (b := tail.data.toList)
  have hts : tail.size = tail.data.toList.length := rfl
  have hpost : ∀ w', W.heap.size ≤ w'.heap.size → (∀ i, i < W.heap.size → w'.heap[i]? = W.heap[i]?) → (Same W w' → Rows.cutSpec.post enc Try.prog Try.f3 false true false false W #[.slice ba bodies.length bcap, .string tail, .slice ca cuts.length cc] (.bool true) w') := by
    intro w' hsz old hs
    have same : ∀ x : MemPlace, x.block < W.heap.size → W.sameAt w' x := fun x hx => by
      cases x with
      | cell b o => exact World.cell?_of_block (w := W) (old b hx)
      | map b => exact old b hx
    have k0 : DataW.Trod enc Try.prog w' 0 (fun x => decide (x < W.heap.size)) true 22 (.slice ba bodies.length bcap) d0 p0 :=
      WideElems.Trod_stays (by kernel_rfl) (by kernel_rfl) (of_decide_eq_true (by kernel_rfl)) h0 (fun x hx => same x (hlt0 x hx)) (fun x hx => by simpa using hlt0 x hx)
    have k2 : DataW.Trod enc Try.prog w' 0 (fun x => decide (x < W.heap.size)) true 23 (.slice ca cuts.length cc) d2 p2 :=
      WideElems.Trod_stays (by kernel_rfl) (by kernel_rfl) (of_decide_eq_true (by kernel_rfl)) h2 (fun x hx => same x (hlt2 x hx)) (fun x hx => by simpa using hlt2 x hx)
    have e1 : Rows.cutSpec.fn H ([d0, .lit (.string tail.data.toList), d2] ++ []) = { results := [.lit (.bool true)], args := [d0, .lit (.string tail.data.toList), d2] } := rfl
    refine ⟨_, _, _, [], p0 ++ ([] ++ p2), [], hW', ?_, ?_, ?_, ⟨hs.1, hs.2, fun i hi => ?_⟩, fun h => by cases h⟩
    · rw [e1]; exact trodAll_mk1 (shut_bool Try.underlying4 _)
    · rw [e1]; exact trodAll_mk3 k0 (shut_string Try.underlying9 wt) k2
    · rw [e1]; rfl
    · rw [old i hi]
      cases W.heap[i]? with
      | none => rfl
      | some o => cases o <;> simp
  have hrun := cut_runs (Post := fun v W' => Same W W' → Rows.cutSpec.post enc Try.prog Try.f3 false true false false W #[.slice ba bodies.length bcap, .string tail, .slice ca cuts.length cc] v W') (tail := tail) (bcap := bcap) (cc := cc) hB hcu (by omega) (by omega) hpost
  rw [enter_at (c := body3) _ Try.func3 rfl]
  exact hrun
end

theorem own : ownKnob Try.prog.godebug = none := by kernel_rfl

set_option maxRecDepth 100000 in
theorem lifted (os : Os) (started : os.Started) (H : Type) (enc : TypeId × Value → H) (F : Stop.Interp) :
    ReturnsInLeavingWide {} Try.checked os 3 .any ((Rows.OpenSpec.upto Rows.cutSpec).pre6 enc Try.prog Try.f3 Rows.cutUptoRow.domain false) (((Rows.OpenSpec.upto Rows.cutSpec).at F).post enc Try.prog Try.f3 false true false false) := by
  refine leaving_of_cond (C := Try.checked) (s := Rows.OpenSpec.upto Rows.cutSpec) (k := Rows.uptoSmall) rfl own started Try.func3
    (OpenSpec.witness (enc := enc) (C := Try.checked) (s := Rows.OpenSpec.upto Rows.cutSpec) (k := Rows.uptoSmall) rfl false ⟨#[], #[.slice none 0 0, .string ⟨#[]⟩, .slice none 0 0], []⟩ 8 (by kernel_rfl) (by kernel_rfl) (by kernel_rfl)
      (x := ([.nil, .lit (.string []), .nil], [], [])) (by kernel_rfl) rfl (by kernel_rfl)) ?_
  intro W base args ds gs before hval hW hk
  exact contract base args ds gs before hval hW hk

theorem cutUpto_holds : Rows.CutUptoSaid :=
  holds_narrowed_leaving 3 Try.f3 ⟨rfl, rfl, rfl⟩ ⟨rfl, rfl, rfl, rfl, rfl, rfl, rfl⟩ ⟨rfl, rfl, rfl, rfl, rfl⟩ rfl rfl (by kernel_rfl) Try.func3 (by kernel_rfl)
    (of_decide_eq_true (by kernel_rfl)) (by unfold Func.isWrapper; first | (rw [if_pos (by decide +kernel)]; kernel_rfl) | (rw [if_neg (by decide +kernel)]; exact ⟨rfl, rfl⟩))
    (fun os started H enc F => by rw [OpenClaim.pre_of_none' rfl]; exact lifted os started H enc F)
#print axioms cutUpto_holds
end Go.Proofs.Ytkaapaepanhbgaa
