/- The frame of Reads: what the walk gives, for every argument; an input that fits. -/
import Derived.Test.YtlghcldiboecoaaGreatDoorQ50
import Derived.Carry
set_option linter.unusedVariables false
namespace Go.Proofs.YtlghcldiboecoaaGreatDoor
open Go.ChangeShapes Go.WideShapes Go.ChangeAt Go.RowKit Go.Pair Go.Conc

set_option maxRecDepth 100000 in
theorem contract_rd (H : Type) (enc : TypeId × Value → H) (W : World) (base : Nat) (args : Array Value) (ds gs : List (DataW H)) (before : List MemPlace)
    (hval : ∀ (j : Nat) t v, Tryz.f5.params[j]? = some t → args[j]? = some v → Value.okWide Tryz.prog W .any base t v)
    (hW : DataW.Whole enc Tryz.prog Tryz.f5.params.toList Rows.readsSpec.vars false W args.toList ds gs before) (hk : Rows.uptoSmall H (ds ++ gs) = true) :
    EA Tryz.prog (fun v W' => Same W W' → Rows.readsSpec.post enc Tryz.prog Tryz.f5 false true false false W args v W') (fun _ => False) (G (Frame.enter Tryz.prog 5 args .normal) []) W := by
  have hW' := hW
  obtain ⟨p, q, hA0, hV, rfl, hfz, hnd⟩ := hW
  have hA : DataW.TrodAll enc Tryz.prog W 0 (fun _ => true) true Tryz.f5.params.toList args.toList ds p := hA0
  rw [Tryz.params5] at hA hval
  obtain ⟨v0, vs0, d0, ds0, p0, q0, hargs, rfl, rfl, h0, r0⟩ := trodAll_cons hA
  obtain ⟨v1, vs1, d1, ds1, p1, q1, hargs1, rfl, rfl, h1, r1⟩ := trodAll_cons r0
  obtain ⟨rfl, rfl, rfl⟩ := trodAll_nil r1
  subst hargs1
  obtain rfl : args = #[v0, v1] := by cases args; simp_all
  obtain ⟨rfl, rfl⟩ := trodVars_none hV
  have hlt : ∀ x ∈ p0 ++ (p1 ++ []), x.block < W.heap.size := fun x hx => by simpa using hW'.lt x (by simpa using hx)
  have hbulk : Rows.uptoBulk d0 + Rows.uptoBulk d1 ≤ 1048576 := by
    have h : Rows.uptoBulkAll ([d0, d1] ++ []) ≤ 1048576 := of_decide_eq_true hk
    simp only [List.append_nil, Rows.uptoBulkAll] at h
    omega
  have h0k := h0
  have h1k := h1
  clear hA0
  obtain ⟨cs0, rfl, hcs0⟩ := okWide_struct Tryz.underlying25 (hval 0 25 v0 rfl rfl)
  obtain ⟨sa, sn, sc, rfl⟩ := okWide_slice Tryz.underlying26 (hval 1 26 v1 rfl rfl)
  rw [cells25] at hcs0
  obtain ⟨gv, gt, rfl⟩ : ∃ a b, cs0 = #[a, b] := by
    match cs0, hcs0 with
    | ⟨[a, b]⟩, _ => exact ⟨a, b, rfl⟩
  obtain ⟨fuel0, hf0⟩ := h0
  obtain ⟨fuel1, hf1⟩ := h1
  obtain ⟨xs, n0, _, hxy, _, hlen2, hf⟩ := DataW.trod_struct Tryz.underlying25 hf0
  obtain ⟨y0, y1, rfl⟩ : ∃ c0 c1, xs = [c0, c1] := by
    match xs, hlen2 with
    | [c0, c1], _ => exact ⟨_, _, rfl⟩
  have f0 : DataW.trod enc Tryz.prog W 0 (fun _ => true) true n0 22 (List.take (Tryz.prog.cellsOf 22) [gv, gt]) = some y0 := hf 0 _ rfl
  have f1 : DataW.trod enc Tryz.prog W 0 (fun _ => true) true n0 23 (List.take (Tryz.prog.cellsOf 23) [gt]) = some y1 := hf 1 _ rfl
  rw [cells22] at f0
  rw [cells23] at f1
  simp only [List.take_succ_cons, List.take_zero] at f0 f1
  obtain ⟨T, hsc⟩ := ops_at3 (y := (d1, p1)) hf1 (fun x hx => hlt x (List.mem_append_right _ (by simpa using hx))) (by show Rows.uptoBulk d1 ≤ _; omega)
  obtain ⟨ga, gn, gc, rfl⟩ : ∃ a n c, gv = .slice a n c := by
    rcases DataW.trod_slice Tryz.underlying22 f0 with ⟨h, _⟩ | ⟨a, len, cap, _, _, _, _, h, _⟩
    · simp only [List.cons.injEq, and_true] at h
      exact ⟨_, _, _, h⟩
    · simp only [List.cons.injEq, and_true] at h
      exact ⟨_, _, _, h⟩
  obtain ⟨ta, tn, tc, rfl⟩ : ∃ a n c, gt = .slice a n c := by
    rcases DataW.trod_slice Tryz.underlying23 f1 with ⟨h, _⟩ | ⟨a, len, cap, _, _, _, _, h, _⟩
    · simp only [List.cons.injEq, and_true] at h
      exact ⟨_, _, _, h⟩
    · simp only [List.cons.injEq, and_true] at h
      exact ⟨_, _, _, h⟩
  have hpost : ∀ w', W.heap.size ≤ w'.heap.size → (∀ i, i < W.heap.size → w'.heap[i]? = W.heap[i]?) → (Same W w' → Rows.readsSpec.post enc Tryz.prog Tryz.f5 false true false false W #[.agg #[.slice ga gn gc, .slice ta tn tc], .slice sa sn sc] (.bool true) w') := by
    intro w' hsz old hs
    have same : ∀ x : MemPlace, x.block < W.heap.size → W.sameAt w' x := fun x hx => by
      cases x with
      | cell b o => exact World.cell?_of_block (w := W) (old b hx)
      | map b => exact old b hx
    have e1 : Rows.readsSpec.fn H ([d0, d1] ++ []) = { results := [.lit (.bool true)], args := [d0, d1] } := rfl
    have keep0 : DataW.Trod enc Tryz.prog w' 0 (fun x => decide (x < W.heap.size)) true 25 (.agg #[.slice ga gn gc, .slice ta tn tc]) d0 p0 :=
      WideElems.Trod_stays (by kernel_rfl) (by kernel_rfl) (of_decide_eq_true (by kernel_rfl)) h0k (fun x hx => same x (hlt x (List.mem_append_left _ hx))) (fun x hx => by simpa using hlt x (List.mem_append_left _ hx))
    have keep1 : DataW.Trod enc Tryz.prog w' 0 (fun x => decide (x < W.heap.size)) true 26 (.slice sa sn sc) d1 p1 :=
      WideElems.Trod_stays (by kernel_rfl) (by kernel_rfl) (of_decide_eq_true (by kernel_rfl)) h1k (fun x hx => same x (hlt x (List.mem_append_right _ (by simpa using hx)))) (fun x hx => by simpa using hlt x (List.mem_append_right _ (by simpa using hx)))
    refine ⟨_, _, _, [], p0 ++ (p1 ++ []), [], hW', ?_, ?_, ?_, ⟨hs.1, hs.2, fun i hi => ?_⟩, fun h => by cases h⟩
    · rw [e1]; exact trodAll_mk1 (shut_bool Tryz.underlying4 _)
    · rw [e1]; exact trodAll_cons_mk keep0 (trodAll_cons_mk keep1 trodAll_mk0)
    · rw [e1]; rfl
    · rw [old i hi]
      cases W.heap[i]? with
      | none => rfl
      | some o => cases o <;> simp
  have hrun := reads_runs (Post := fun v W' => Same W W' → Rows.readsSpec.post enc Tryz.prog Tryz.f5 false true false false W #[.agg #[.slice ga gn gc, .slice ta tn tc], .slice sa sn sc] v W') ga ta sa gn gc tn tc sn sc T hsc hpost
  rw [enter_at (c := body5) _ Tryz.func5 rfl]
  exact hrun

section
variable {H : Type} {enc : TypeId × Value → H}
/-- The form, of a contract in which the arguments have been read: a row that lists variables. -/
theorem leaving_of_row {a : Assume} {C : Checked} {os : Os} {f : FuncId} {fn : Func} {s : OpenSpec} {F : Stop.Interp} {conds : List PathCond} {apart fresh handsOn again : Bool} {laid : List (String × DataW Unit)}
    (own : ownKnob C.prog.godebug = none) (started : os.Started) (hfn : C.prog.funcs[f]? = some fn)
    (witness : ∃ (w : World) (tape : Tape) (i : Input), w.os = os ∧ (w.forCall tape i).Shaped C.prog ∧ i.vars = [] ∧ Input.okWide C.prog (w.forCall tape i) .any w.heap.size f i ∧
      s.preRow enc C.prog fn conds apart laid (w.forCall tape i).memory i.args ∧ a.holds C.prog (lone (Frame.enter C.prog f i.args .normal) [] (w.forCall tape i)))
    (contract : ∀ (W : World) (base : Nat) (args : Array Value) (ds gs : List (DataW H)) (before : List MemPlace),
      (∀ (j : Nat) t v, fn.params[j]? = some t → args[j]? = some v → Value.okWide C.prog W .any base t v) → DataW.Whole enc C.prog fn.params.toList s.vars apart W args.toList ds gs before → (∀ k, s.cond = some k → k H (ds ++ gs) = true) →
      EA C.prog (fun v W' => Same W W' → (s.at F).post enc C.prog fn apart fresh handsOn again W args v W') (fun _ => False) (G (Frame.enter C.prog f args .normal) []) W) :
    ReturnsInLeavingWide a C os f .any (s.preRow enc C.prog fn conds apart laid) ((s.at F).post enc C.prog fn apart fresh handsOn again) := by
  refine returnsInLeavingWide_of_good own started witness fun w tape i _ _ _ hok hpre _ => ?_
  obtain ⟨_, _, _, fn', hfn', _, _, _, _, hval⟩ := hok
  obtain rfl : fn' = fn := Option.some.inj (hfn'.symm.trans hfn)
  obtain ⟨⟨hp, hl⟩, hz⟩ := hpre
  obtain ⟨ds, gs, before, hw, hc, hk⟩ := OpenSpec.pre_parts hp
  obtain ⟨N, last, o, w', t', r1, r2, r3, v, rfl, hp, rest⟩ := (contract (w.forCall tape i) w.heap.size i.args ds gs before hval (DataW.Whole.of_heap (w' := w.forCall tape i) (by rfl) hw) hk).run
  exact ⟨N, last, _, w', t', r1, r2, r3, v, rfl, ChangeSpec.post_blind (hp.2 hp.1), rest⟩

end

theorem laid_metR (os : Os) : laidMet Tryz.prog Rows.readsUptoRow.laid ((laidWorld os).forCall (fun _ _ => 0) ⟨#[], noArgs, []⟩).memory :=
  (LaidIn.of_run (l := [("unicode/utf8.acceptRanges", Rows.laid_unicode_utf8_acceptRanges), ("orchard/value.letters", Rows.laid_orchard_value_letters), ("orchard/message.requests", Rows.laid_orchard_message_requests), ("orchard/message.answers", Rows.laid_orchard_message_answers), ("orchard/file.schemas", Rows.laid_orchard_file_schemas), ("orchard/watch.tellings", Rows.laid_orchard_watch_tellings), ("unicode/utf8.first", Rows.laid_unicode_utf8_first)]) [7, 3, 0, 4, 1, 5, 6, 13, 14, 15] 8 (by kernel_rfl) (by kernel_rfl) (by kernel_rfl) (by kernel_rfl)).met

theorem readsR (os : Os) {H : Type} (enc : TypeId × Value → H) : ∃ places, DataW.whole enc Tryz.prog ((laidWorld os).forCall (fun _ _ => 0) ⟨#[], noArgs, []⟩).memory Tryz.f5.params.toList Rows.readsSpec.vars false noArgs.toList 8 = some ([.agg [.nil, .nil], .nil], [], places) :=
  ⟨[], by kernel_rfl⟩

set_option maxRecDepth 100000 in
theorem liftedR (os : Os) (started : os.Started) (H : Type) (enc : TypeId × Value → H) (F : Stop.Interp) :
    ReturnsInLeavingWide {} Tryz.checked os 5 .any ((Rows.OpenSpec.upto Rows.readsSpec).preRow enc Tryz.prog Tryz.f5 Rows.readsUptoRow.domain false Rows.readsUptoRow.laid) (((Rows.OpenSpec.upto Rows.readsSpec).at F).post enc Tryz.prog Tryz.f5 false true false false) := by
  obtain ⟨places, hx⟩ := readsR os enc
  refine leaving_of_row (C := Tryz.checked) (s := Rows.OpenSpec.upto Rows.readsSpec) own started Tryz.func5
    (witness_row_atRef (enc := enc) (C := Tryz.checked) false (laidWorld os) noArgs rfl (by kernel_rfl) (by kernel_rfl) (by kernel_rfl)
      (OpenSpec.preRow_of_cond 8 hx (by kernel_rfl) (fun k hk => by cases hk; kernel_rfl) (by kernel_rfl) (laid_metR os))) ?_
  intro W base args ds gs before hval hW hcond
  exact contract_rd H enc W base args ds gs before hval hW (hcond _ rfl)

end Go.Proofs.YtlghcldiboecoaaGreatDoor
