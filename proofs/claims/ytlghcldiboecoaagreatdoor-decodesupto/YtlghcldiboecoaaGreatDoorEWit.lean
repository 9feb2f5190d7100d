/- The frame of Encodes: what the walk gives, for every argument. -/
import Derived.Test.YtlghcldiboecoaaGreatDoorEOpen
import Derived.Test.YtlghcldiboecoaaGreatDoorLets
import Derived.Lib.LaidIn
import Derived.Deep.DeepHandedRow
import Derived.ProofKit
import Derived.SizedLaws
import Derived.Deep.DeepWitnessRowRef
set_option linter.unusedVariables false
namespace Go.Proofs.YtlghcldiboecoaaGreatDoor
open Go.ChangeShapes Go.WideShapes Go.ChangeAt Go.RowKit

set_option maxRecDepth 8000 in
theorem encodes_walk (w : World) (gv gt sv : Value) (R : World → Prop) (hgv : ∃ a n c, gv = .slice a n c) (hgt : ∃ a n c, gt = .slice a n c) (hsv : ∃ a n c, sv = .slice a n c)
    (HC : Hid (∀ W, Below w.heap.size w W → Calls Tryz.prog 10 #[.agg #[gv, gt], sv, .int .i64 1, .int .i64 1] W fun e w' => e = .returned (.bool true) ∧ R w')) :
    Calls Tryz.prog 3 #[.agg #[gv, gt], sv] w fun e w' => e = .returned (.bool true) ∧ R w' := by
  obtain ⟨g1, g2, g3, rfl⟩ := hgv
  obtain ⟨t1, t2, t3, rfl⟩ := hgt
  obtain ⟨s1, s2, s3, rfl⟩ := hsv
  have hb := below1 w (.cells #[.slice g1 g2 g3, .slice t1 t2 t3] 25)
  have hn := heap_alloc_new w (.cells #[.slice g1 g2 g3, .slice t1 t2 t3] 25)
  have c0 := cellOf (j := 0) hn rfl
  have c1 := cellOf (j := 1) hn rfl
  have HB := hid hb
  clear hb hn
  go_enter Tryz.func3, Tryz.ntmps3
  go_wp2_with (go_at_call 10; refine (HC.out _ HB.out).mono ?_; rintro e w1 ⟨rfl, hr⟩; have HR := hid hr; clear hr)
  all_goals go_ret
  all_goals exact ⟨rfl, HR.out⟩

set_option maxRecDepth 8000 in
theorem contract (H : Type) (enc : TypeId × Value → H) (W : World) (base : Nat) (args : Array Value) (ds gs : List (DataW H)) (before : List MemPlace)
    (hval : ∀ (j : Nat) t v, Tryz.f3.params[j]? = some t → args[j]? = some v → Value.okWide Tryz.prog W .any base t v)
    (hW : DataW.Whole enc Tryz.prog Tryz.f3.params.toList Rows.encodesSpec.vars false W args.toList ds gs before) (hL : laidMetH Tryz.prog Rows.encodesUptoRow.laid W) (hk : Rows.uptoSmall H (ds ++ gs) = true) :
    Calls Tryz.prog 3 args W fun e W' => ∃ v, e = .returned v ∧ Rows.encodesSpec.post enc Tryz.prog Tryz.f3 false true false false W args v W' := by
  have hW' := hW
  obtain ⟨p, q, hA0, hV, rfl, hfz, hnd⟩ := hW
  have hA : DataW.TrodAll enc Tryz.prog W 0 (fun _ => true) true Tryz.f3.params.toList args.toList ds p := hA0
  rw [Tryz.params3] at hA hval
  obtain ⟨v0, vs0, d0, ds0, p0, q0, hargs, rfl, rfl, h0, r0⟩ := trodAll_cons hA
  obtain ⟨v1, vs1, d1, ds1, p1, q1, hargs1, rfl, rfl, h1, r1⟩ := trodAll_cons r0
  obtain ⟨rfl, rfl, rfl⟩ := trodAll_nil r1
  subst hargs1
  obtain rfl : args = #[v0, v1] := by cases args; simp_all
  obtain ⟨rfl, rfl⟩ := trodVars_none hV
  have hlt : ∀ x ∈ p0 ++ (p1 ++ []), x.block < W.heap.size := fun x hx => by simpa using hW'.lt x (by simpa using hx)
  have hbulk : Rows.uptoBulk d0 + Rows.uptoBulk d1 ≤ 1048576 := by
    have h : Rows.uptoBulkAll ([d0, d1] ++ []) ≤ 1048576 := of_decide_eq_true hk
    simp only [List.append_nil, Rows.uptoBulkAll] at h
    omega
  have h0k := h0
  have h1k := h1
  clear hA0
  obtain ⟨cs0, rfl, hcs0⟩ := okWide_struct Tryz.underlying25 (hval 0 25 v0 rfl rfl)
  obtain ⟨sa, sn, sc, rfl⟩ := okWide_slice Tryz.underlying26 (hval 1 26 v1 rfl rfl)
  rw [cells25] at hcs0
  obtain ⟨gv, gt, rfl⟩ : ∃ a b, cs0 = #[a, b] := by
    match cs0, hcs0 with
    | ⟨[a, b]⟩, _ => exact ⟨a, b, rfl⟩
  obtain ⟨fuel0, hf0⟩ := h0
  obtain ⟨fuel1, hf1⟩ := h1
  obtain ⟨xs, n0, _, hxy, _, hlen2, hf⟩ := DataW.trod_struct Tryz.underlying25 hf0
  obtain ⟨y0, y1, rfl⟩ : ∃ c0 c1, xs = [c0, c1] := by
    match xs, hlen2 with
    | [c0, c1], _ => exact ⟨_, _, rfl⟩
  have f0 : DataW.trod enc Tryz.prog W 0 (fun _ => true) true n0 22 (List.take (Tryz.prog.cellsOf 22) [gv, gt]) = some y0 := hf 0 _ rfl
  have f1 : DataW.trod enc Tryz.prog W 0 (fun _ => true) true n0 23 (List.take (Tryz.prog.cellsOf 23) [gt]) = some y1 := hf 1 _ rfl
  rw [cells22] at f0
  rw [cells23] at f1
  simp only [List.take_succ_cons, List.take_zero] at f0 f1
  have hd0 : d0 = .agg [y0.1, y1.1] := congrArg Prod.fst hxy
  have hp0 : p0 = y0.2 ++ (y1.2 ++ []) := congrArg Prod.snd hxy
  have hbd0 : Rows.uptoBulk d0 = Rows.uptoBulk y0.1 + (Rows.uptoBulk y1.1 + 0) + 1 := by rw [hd0]; simp only [Rows.uptoBulk, Rows.uptoBulkAll]
  obtain ⟨vs, hws, hin, hcnt⟩ := vals_at n0 gv y0 f0 (fun x hx => hlt x (List.mem_append_left _ (by rw [hp0]; exact List.mem_append_left _ hx))) (by omega)
  obtain ⟨hsn, hops⟩ := ops_at (y := (d1, p1)) hf1 (fun x hx => hlt x (List.mem_append_right _ (by simpa using hx))) (by show Rows.uptoBulk d1 ≤ _; omega)
  have hgt : ∃ a n c, gt = .slice a n c := by
    rcases DataW.trod_slice Tryz.underlying23 f1 with ⟨h, _⟩ | ⟨a, len, cap, _, _, _, _, h, _⟩
    · simp only [List.cons.injEq, and_true] at h
      exact ⟨_, _, _, h⟩
    · simp only [List.cons.injEq, and_true] at h
      exact ⟨_, _, _, h⟩
  obtain ⟨ga, gc, hgv⟩ := hws.shape
  have hM : laidMet Tryz.prog Rows.encodesUptoRow.laid W := hL
  have ht := tabs_of_reads (Lib.laidMet.reads hM (.tail _ (.tail _ (.tail _ (.tail _ (.tail _ (.tail _ (.head _)))))))) (Lib.laidMet.reads hM (.head _))
  have hl := table_of_reads (Lib.laidMet.reads hM (.tail _ (.head _)))
  have hcl : ∀ v, v ∈ vs → cntV v ≤ cntL vs := by
    clear hcnt hws hin hgv
    intro v hv
    induction vs with
    | nil => cases hv
    | cons x r ih =>
      simp only [cntL]
      rcases List.mem_cons.1 hv with rfl | hv
      · omega
      · have := ih hv
        omega
  have hgd : Goods W W.heap.size (fun b => b < W.heap.size) vs gv := ⟨hws, fun b hb => hb, by have := cntL_len vs; omega, fun v hv => ⟨hin v hv, by have := hcl v hv; omega⟩, ht, hl, utf.size ht⟩
  refine (encodes_walk W gv gt (.slice sa sn sc) (fun w' => Below W.heap.size W w') ⟨ga, _, gc, hgv⟩ hgt ⟨_, _, _, rfl⟩ (fun W1 hb => ?_)).mono ?_
  · subst hgv
    refine (plays_enc W1 ga vs.length gc gt hgt sa sn sc (by omega) (fun b => b < W.heap.size) vs ((hgd.keep hb).lift hb.size) (fun i hi => ?_)).mono ?_
    · obtain ⟨g, o, k, a, b, c, s, t, h1, h2, h3, c0, c1, c2, c3, c4, c5, h4, h5⟩ := hops i hi
      exact ⟨g, o, k, a, b, c, s, t, h1, Nat.lt_of_lt_of_le h2 hb.size, h3, (hb.cell (p := ⟨g, o + i * 6, none⟩) h2).trans c0, (hb.cell (p := ⟨g, o + i * 6 + 1, none⟩) h2).trans c1, (hb.cell (p := ⟨g, o + i * 6 + 2, none⟩) h2).trans c2, (hb.cell (p := ⟨g, o + i * 6 + 3, none⟩) h2).trans c3, (hb.cell (p := ⟨g, o + i * 6 + 4, none⟩) h2).trans c4, (hb.cell (p := ⟨g, o + i * 6 + 5, none⟩) h2).trans c5, h4, h5⟩
    · rintro e w' ⟨rfl, hb'⟩
      exact ⟨rfl, hb.trans (hb'.mono hb.size)⟩
  · rintro e W' ⟨rfl, bel⟩
    have e1 : Rows.encodesSpec.fn H ([d0, d1] ++ []) = { results := [.lit (.bool true)], args := [d0, d1] } := rfl
    have keep0 : DataW.Trod enc Tryz.prog W' 0 (fun x => decide (x < W.heap.size)) true 25 (.agg #[gv, gt]) d0 p0 :=
      WideElems.Trod_stays (by kernel_rfl) (by kernel_rfl) (of_decide_eq_true (by kernel_rfl)) h0k (fun x hx => bel.same (hlt x (List.mem_append_left _ hx))) (fun x hx => by simpa using hlt x (List.mem_append_left _ hx))
    have keep1 : DataW.Trod enc Tryz.prog W' 0 (fun x => decide (x < W.heap.size)) true 26 (.slice sa sn sc) d1 p1 :=
      WideElems.Trod_stays (by kernel_rfl) (by kernel_rfl) (of_decide_eq_true (by kernel_rfl)) h1k (fun x hx => bel.same (hlt x (List.mem_append_right _ (by simpa using hx)))) (fun x hx => by simpa using hlt x (List.mem_append_right _ (by simpa using hx)))
    refine ⟨_, rfl, _, _, _, [], p0 ++ (p1 ++ []), [], hW', ?_, ?_, ?_, bel.frame _, fun h => by cases h⟩
    · rw [e1]; exact trodAll_mk1 (shut_bool Tryz.underlying4 _)
    · rw [e1]; exact trodAll_cons_mk keep0 (trodAll_cons_mk keep1 trodAll_mk0)
    · rw [e1]; rfl
end Go.Proofs.YtlghcldiboecoaaGreatDoor

/- The frame of Encodes: an input that fits. -/
set_option linter.unusedVariables false
namespace Go.Proofs.YtlghcldiboecoaaGreatDoor
open Go.ChangeShapes Go.WideShapes Go.ChangeAt Go.RowKit

theorem own : ownKnob Tryz.prog.godebug = none := by kernel_rfl

/-- A world for the witness: the settled one, the seven variables holding what their initialisers lay. -/
noncomputable def laidWorld (os : Os) : World :=
  let w0 := World.holding Tryz.prog os ⟨#[], #[], []⟩
  let put (h : Array Obj) (g : Nat) (cs : Array Value) : Array Obj := h.modify g fun
    | .cells _ t frozen => .cells cs t frozen
    | o => o
  let h0 := put w0.heap 3 letCells
  let h1 := put h0 6 (Lib.firstTab.map fun z => Value.int .u8 z).toArray
  let h2 := put h1 7 ((List.range 16).flatMap fun i => [Value.int .u8 (Lib.accLo i), Value.int .u8 (Lib.accHi i)]).toArray
  let h3 := put h2 1 #[.string ⟨#[]⟩, .string ⟨#[40, 116, 98, 56, 56, 52, 41]⟩, .string ⟨#[40, 116, 98, 116, 56, 56, 52, 41]⟩]
  let h4 := put h3 0 #[.string ⟨#[]⟩, .string ⟨#[]⟩, .string ⟨#[]⟩, .string ⟨#[]⟩, .string ⟨#[40, 52, 52, 116, 98, 41]⟩, .string ⟨#[40, 52, 52, 116, 98, 116, 41]⟩, .string ⟨#[]⟩, .string ⟨#[40, 52, 52, 116, 52, 41]⟩, .string ⟨#[40, 52, 52, 116, 52, 41]⟩, .string ⟨#[]⟩, .string ⟨#[40, 52, 52, 116, 98, 52, 41]⟩, .string ⟨#[40, 52, 52, 116, 98, 52, 41]⟩, .string ⟨#[]⟩, .string ⟨#[40, 52, 52, 116, 63, 41]⟩, .string ⟨#[40, 52, 52, 116, 63, 41]⟩, .string ⟨#[]⟩, .string ⟨#[40, 52, 52, 116, 63, 41]⟩, .string ⟨#[40, 52, 52, 116, 63, 41]⟩, .string ⟨#[]⟩, .string ⟨#[40, 52, 52, 116, 63, 41]⟩, .string ⟨#[40, 52, 52, 116, 63, 41]⟩, .string ⟨#[]⟩, .string ⟨#[40, 52, 52, 41]⟩, .string ⟨#[40, 52, 52, 41]⟩]
  let h5 := put h4 4 #[.string ⟨#[]⟩, .string ⟨#[]⟩, .string ⟨#[]⟩, .string ⟨#[]⟩, .string ⟨#[40, 52, 56, 52, 116, 41]⟩, .string ⟨#[40, 52, 56, 52, 116, 41]⟩, .string ⟨#[]⟩, .string ⟨#[40, 52, 56, 52, 41]⟩, .string ⟨#[40, 52, 56, 52, 41]⟩, .string ⟨#[]⟩, .string ⟨#[40, 52, 56, 52, 40, 56, 56, 52, 52, 41, 41]⟩, .string ⟨#[40, 52, 56, 52, 40, 56, 56, 52, 52, 41, 41]⟩, .string ⟨#[]⟩, .string ⟨#[40, 52, 56, 52, 98, 40, 56, 56, 52, 52, 41, 41]⟩, .string ⟨#[40, 52, 56, 52, 98, 116, 40, 56, 56, 52, 52, 41, 41]⟩, .string ⟨#[]⟩, .string ⟨#[40, 52, 56, 52, 40, 56, 56, 52, 52, 41, 41]⟩, .string ⟨#[40, 52, 56, 52, 40, 56, 56, 52, 52, 41, 41]⟩, .string ⟨#[]⟩, .string ⟨#[40, 52, 56, 52, 91, 116, 93, 41]⟩, .string ⟨#[40, 52, 56, 52, 91, 116, 93, 41]⟩, .string ⟨#[]⟩, .string ⟨#[40, 52, 56, 52, 41]⟩, .string ⟨#[40, 52, 56, 52, 41]⟩]
  let h6 := put h5 5 #[.slice none 0 0, .slice (some ⟨13, 0, none⟩) 2 2, .slice (some ⟨14, 0, none⟩) 3 3, .slice (some ⟨15, 0, none⟩) 1 1]
  { w0 with heap := ((h6.push (.cells #[.int .i64 0, .bool false, .int .i64 1, .int .i64 1, .bool true, .int .i64 4] 440)).push (.cells #[.int .i64 0, .bool false, .int .i64 2, .int .i64 1, .bool false, .int .i64 2, .int .i64 1, .bool true, .int .i64 4] 440)).push (.cells #[.int .i64 0, .bool false, .int .i64 3] 440) }

abbrev noArgs : Array Value := #[.agg #[.slice none 0 0, .slice none 0 0], .slice none 0 0]

theorem laid_met (os : Os) : laidMet Tryz.prog Rows.encodesUptoRow.laid ((laidWorld os).forCall (fun _ _ => 0) ⟨#[], noArgs, []⟩).memory :=
  (LaidIn.of_run (l := [("unicode/utf8.acceptRanges", Rows.laid_unicode_utf8_acceptRanges), ("orchard/value.letters", Rows.laid_orchard_value_letters), ("orchard/message.requests", Rows.laid_orchard_message_requests), ("orchard/message.answers", Rows.laid_orchard_message_answers), ("orchard/file.schemas", Rows.laid_orchard_file_schemas), ("orchard/watch.tellings", Rows.laid_orchard_watch_tellings), ("unicode/utf8.first", Rows.laid_unicode_utf8_first)]) [7, 3, 0, 4, 1, 5, 6, 13, 14, 15] 8 (by kernel_rfl) (by kernel_rfl) (by kernel_rfl) (by kernel_rfl)).met

theorem reads (os : Os) {H : Type} (enc : TypeId × Value → H) : ∃ places, DataW.whole enc Tryz.prog ((laidWorld os).forCall (fun _ _ => 0) ⟨#[], noArgs, []⟩).memory Tryz.f3.params.toList Rows.encodesSpec.vars false noArgs.toList 8 = some ([.agg [.nil, .nil], .nil], [], places) :=
  ⟨[], by kernel_rfl⟩

set_option maxRecDepth 100000 in
theorem lifted (os : Os) (started : os.Started) (H : Type) (enc : TypeId × Value → H) (F : Stop.Interp) :
    ReturnsInHanded {} Tryz.checked os 3 .any ((Rows.OpenSpec.upto Rows.encodesSpec).preRow enc Tryz.prog Tryz.f3 Rows.encodesUptoRow.domain false Rows.encodesUptoRow.laid) (((Rows.OpenSpec.upto Rows.encodesSpec).at F).post enc Tryz.prog Tryz.f3 false true false false) := by
  obtain ⟨places, hx⟩ := reads os enc
  refine returnsInHanded_of_row (C := Tryz.checked) (s := Rows.OpenSpec.upto Rows.encodesSpec) own started (by kernel_rfl) Tryz.func3
    (witness_row_atRef (enc := enc) (C := Tryz.checked) false (laidWorld os) noArgs rfl (by kernel_rfl) (by kernel_rfl) (by kernel_rfl)
      (OpenSpec.preRow_of_cond 8 hx (by kernel_rfl) (fun k hk => by cases hk; kernel_rfl) (by kernel_rfl) (laid_met os))) ?_
  intro W base args ds gs before hval hW _ hcond _ hL hSh _
  exact contract H enc W base args ds gs before hval hW hL (hcond _ rfl)
end Go.Proofs.YtlghcldiboecoaaGreatDoor
