/- The frame of Decodes: the steps, read. -/
import Derived.Test.YtlghcldiboecoaaGreatDoorEOpen
import Derived.Test.YtlghcldiboecoaaGreatDoorDPlays
import Derived.Test.YtlghcldiboecoaaGreatDoorLets
import Derived.Lib.LaidIn
import Derived.Deep.DeepHandedRow
import Derived.ProofKit
import Derived.SizedLaws
set_option linter.unusedVariables false
namespace Go.Proofs.YtlghcldiboecoaaGreatDoor
open Go.ChangeShapes Go.WideShapes Go.ChangeAt Go.RowKit

set_option maxRecDepth 8000 in
/-- A list of steps, read. -/
theorem ops_at2 {H : Type} {enc : TypeId × Value → H} {W : World} {fuel : Nat} {sa : Option Addr} {sn sc : Nat} {y : DataW H × List MemPlace} (h : DataW.trod enc Tryz.prog W 0 (fun _ => true) true fuel 26 [.slice sa sn sc] = some y) (hlt : ∀ p ∈ y.2, p.block < W.heap.size) (hbk : Rows.uptoBulk y.1 ≤ 1048576) :
    sn ≤ 1048576 ∧ ∀ i, i < sn → ∃ (g o : Nat) (k a b c : Int) (s t : ByteArray), sa = some ⟨g, o, none⟩ ∧ g < W.heap.size ∧ sn ≤ sc ∧ W.cell? ⟨g, o + i * 6, none⟩ = some (.int .i64 k) ∧ W.cell? ⟨g, o + i * 6 + 1, none⟩ = some (.int .i64 a) ∧ W.cell? ⟨g, o + i * 6 + 2, none⟩ = some (.int .i64 b) ∧ W.cell? ⟨g, o + i * 6 + 3, none⟩ = some (.int .i64 c) ∧ W.cell? ⟨g, o + i * 6 + 4, none⟩ = some (.string s) ∧ W.cell? ⟨g, o + i * 6 + 5, none⟩ = some (.string t) ∧ (-9223372036854775808 ≤ a ∧ a ≤ 9223372036854775807) ∧ s.size ≤ 140737488355328 ∧ t.size ≤ 4000000 := by
  rcases DataW.trod_slice Tryz.underlying26 h with ⟨hcs, _⟩ | ⟨a, len, cap, elems, rest, n, hfu, hcs, hy, _, hl, hm, hel, hei, _, _⟩
  · simp only [List.cons.injEq, and_true, Value.slice.injEq] at hcs
    obtain ⟨rfl, rfl, rfl⟩ := hcs
    exact ⟨by omega, fun i hi => by omega⟩
  · simp only [List.cons.injEq, and_true, Value.slice.injEq] at hcs
    obtain ⟨rfl, rfl, rfl⟩ := hcs
    rw [hy] at hbk hlt
    simp only [Rows.uptoBulk] at hbk
    have hlen : elems.length ≤ Rows.uptoBulkAll (elems.map (·.1)) := by
      have : ∀ l : List (DataW H), l.length ≤ Rows.uptoBulkAll l := fun l => by
        induction l with
        | nil => simp [Rows.uptoBulkAll]
        | cons x r ih => have := bulk_one x; simp only [Rows.uptoBulkAll, List.length_cons]; omega
      simpa using this (elems.map (·.1))
    refine ⟨by omega, fun i hi => ?_⟩
    rw [cells76] at hei
    have hie : i < elems.length := by omega
    have hpart : Rows.uptoBulk ((elems.map (·.1))[i]'(by simpa using hie)) ≤ Rows.uptoBulkAll (elems.map (·.1)) := bulk_part (by simpa using hie)
    have he := hei i hi
    rw [List.getElem?_eq_getElem hie] at he
    obtain ⟨cs, hcs, hst⟩ := Option.bind_eq_some_iff.1 he
    obtain ⟨xs, m, hm', hxy, hl6, hlen6, hf⟩ := DataW.trod_struct Tryz.underlying76 hst
    rw [cells76] at hl6
    obtain ⟨c0, c1, c2, c3, c4, c5, rfl⟩ : ∃ c0 c1 c2 c3 c4 c5, cs = [c0, c1, c2, c3, c4, c5] := by
      match cs, hl6 with
      | [c0, c1, c2, c3, c4, c5], _ => exact ⟨_, _, _, _, _, _, rfl⟩
    obtain ⟨y0, y1, y2, y3, y4, y5, rfl⟩ : ∃ c0 c1 c2 c3 c4 c5, xs = [c0, c1, c2, c3, c4, c5] := by
      match xs, hlen6 with
      | [c0, c1, c2, c3, c4, c5], _ => exact ⟨_, _, _, _, _, _, rfl⟩
    have f0 : DataW.trod enc Tryz.prog W 0 (fun _ => true) true m 3 (List.take (Tryz.prog.cellsOf 3) [c0, c1, c2, c3, c4, c5]) = some y0 := hf 0 _ rfl
    have f1 : DataW.trod enc Tryz.prog W 0 (fun _ => true) true m 3 (List.take (Tryz.prog.cellsOf 3) [c1, c2, c3, c4, c5]) = some y1 := hf 1 _ rfl
    have f2 : DataW.trod enc Tryz.prog W 0 (fun _ => true) true m 3 (List.take (Tryz.prog.cellsOf 3) [c2, c3, c4, c5]) = some y2 := hf 2 _ rfl
    have f3 : DataW.trod enc Tryz.prog W 0 (fun _ => true) true m 3 (List.take (Tryz.prog.cellsOf 3) [c3, c4, c5]) = some y3 := hf 3 _ rfl
    have f4 : DataW.trod enc Tryz.prog W 0 (fun _ => true) true m 9 (List.take (Tryz.prog.cellsOf 9) [c4, c5]) = some y4 := hf 4 _ rfl
    have f5 : DataW.trod enc Tryz.prog W 0 (fun _ => true) true m 9 (List.take (Tryz.prog.cellsOf 9) [c5]) = some y5 := hf 5 _ rfl
    rw [cells3'] at f0 f1 f2 f3
    rw [cells9'] at f4 f5
    obtain ⟨k, e0, _, _⟩ := DataW.trod_int Tryz.underlying3 f0
    obtain ⟨z, e1, _, hz⟩ := DataW.trod_int Tryz.underlying3 f1
    obtain ⟨z2, e2, _, _⟩ := DataW.trod_int Tryz.underlying3 f2
    obtain ⟨z3, e3, _, _⟩ := DataW.trod_int Tryz.underlying3 f3
    obtain ⟨s, e4, hs0, _⟩ := DataW.trod_string Tryz.underlying9 f4
    obtain ⟨t, e5, ht0, _⟩ := DataW.trod_string Tryz.underlying9 f5
    simp only [List.take_succ_cons, List.take_zero, List.cons.injEq, and_true] at e0 e1 e2 e3 e4 e5
    subst e0 e1 e2 e3 e4 e5
    have hbi : Rows.uptoBulk y4.1 ≤ Rows.uptoBulk ((elems.map (·.1))[i]'(by simpa using hie)) := by
      simp only [List.getElem_map, hxy, List.map_cons, List.map_nil, Rows.uptoBulk, Rows.uptoBulkAll]
      omega
    have hb4 : Rows.uptoBulk y4.1 = s.size + 1 := by rw [hs0, bulk_str, str_len]
    have hbi5 : Rows.uptoBulk y5.1 ≤ Rows.uptoBulk ((elems.map (·.1))[i]'(by simpa using hie)) := by
      simp only [List.getElem_map, hxy, List.map_cons, List.map_nil, Rows.uptoBulk, Rows.uptoBulkAll]
      omega
    have hb5 : Rows.uptoBulk y5.1 = t.size + 1 := by rw [ht0, bulk_str, str_len]
    obtain ⟨b, off, spot⟩ := a
    have hcell : ∀ j u, ([.int .i64 k, .int .i64 z, .int .i64 z2, .int .i64 z3, .string s, .string t] : List Value)[j]? = some u → W.cell? ((⟨b, off, spot⟩ : Addr).add (i * 6 + j)) = some u := fun j u hu => by
      have h1 := (World.cells?_some hcs).2.2 j (by have := (List.getElem?_eq_some_iff.1 hu).1; simpa using this)
      rw [hu] at h1
      rw [← h1, Addr.add_add]
    have hspot : spot = none := by
      have h1 := World.cell?_spot (hcell 1 _ rfl)
      have h2 := World.cell?_spot (hcell 0 _ rfl)
      by_cases hi0 : i = 0
      · subst hi0
        simpa [Addr.add] using h2
      · have h00 : 0 < elems.length := by omega
        have he0 := hei 0 (by omega)
        rw [List.getElem?_eq_getElem h00] at he0
        obtain ⟨cs0, hcs0, _⟩ := Option.bind_eq_some_iff.1 he0
        have h3 := (World.cells?_some hcs0)
        have h4 := h3.2.2 0 (by omega)
        rw [Nat.zero_mul] at h4
        simp only [Addr.add, if_true] at h4
        have hl0 : 0 < cs0.length := by rw [h3.2.1]; omega
        rw [List.getElem?_eq_getElem hl0] at h4
        exact World.cell?_spot h4
    subst hspot
    refine ⟨b, off, k, z, z2, z3, s, t, rfl, ?_, hl, ?_, ?_, ?_, ?_, ?_, ?_, bounds_i64 hz, by omega, by omega⟩
    · have := hlt (MemPlace.cell b (off + 0)) (by rw [cells76]; exact List.mem_append_left _ (MemPlace.mem_row.2 ⟨0, by omega, rfl⟩))
      simpa [MemPlace.block] using this
    all_goals
      first
      | (have := hcell 0 _ rfl; rw [Addr.add_lit] at this; simpa [Nat.add_assoc] using this; done)
      | (have := hcell 1 _ rfl; rw [Addr.add_lit] at this; simpa [Nat.add_assoc] using this; done)
      | (have := hcell 2 _ rfl; rw [Addr.add_lit] at this; simpa [Nat.add_assoc] using this; done)
      | (have := hcell 3 _ rfl; rw [Addr.add_lit] at this; simpa [Nat.add_assoc] using this; done)
      | (have := hcell 4 _ rfl; rw [Addr.add_lit] at this; simpa [Nat.add_assoc] using this; done)
      | (have := hcell 5 _ rfl; rw [Addr.add_lit] at this; simpa [Nat.add_assoc] using this; done)
end Go.Proofs.YtlghcldiboecoaaGreatDoor

/- The frame of Decodes: what the walk gives, for every argument. -/
set_option linter.unusedVariables false
namespace Go.Proofs.YtlghcldiboecoaaGreatDoor
open Go.ChangeShapes Go.WideShapes Go.ChangeAt Go.RowKit

set_option maxRecDepth 8000 in
theorem decodes_walk (w : World) (gv gt sv : Value) (R : World → Prop) (hgv : ∃ a n c, gv = .slice a n c) (hgt : ∃ a n c, gt = .slice a n c) (hsv : ∃ a n c, sv = .slice a n c)
    (HC : Hid (∀ W, Below w.heap.size w W → Calls Tryz.prog 10 #[.agg #[gv, gt], sv, .int .i64 2, .int .i64 2] W fun e w' => e = .returned (.bool true) ∧ R w')) :
    Calls Tryz.prog 4 #[.agg #[gv, gt], sv] w fun e w' => e = .returned (.bool true) ∧ R w' := by
  obtain ⟨g1, g2, g3, rfl⟩ := hgv
  obtain ⟨t1, t2, t3, rfl⟩ := hgt
  obtain ⟨s1, s2, s3, rfl⟩ := hsv
  have hb := below1 w (.cells #[.slice g1 g2 g3, .slice t1 t2 t3] 25)
  have hn := heap_alloc_new w (.cells #[.slice g1 g2 g3, .slice t1 t2 t3] 25)
  have c0 := cellOf (j := 0) hn rfl
  have c1 := cellOf (j := 1) hn rfl
  have HB := hid hb
  clear hb hn
  go_enter Tryz.func4, Tryz.ntmps4
  go_wp2_with (go_at_call 10; refine (HC.out _ HB.out).mono ?_; rintro e w1 ⟨rfl, hr⟩; have HR := hid hr; clear hr)
  all_goals go_ret
  all_goals exact ⟨rfl, HR.out⟩

set_option maxRecDepth 8000 in
theorem contract_dec (H : Type) (enc : TypeId × Value → H) (W : World) (base : Nat) (args : Array Value) (ds gs : List (DataW H)) (before : List MemPlace)
    (hval : ∀ (j : Nat) t v, Tryz.f4.params[j]? = some t → args[j]? = some v → Value.okWide Tryz.prog W .any base t v)
    (hW : DataW.Whole enc Tryz.prog Tryz.f4.params.toList Rows.decodesSpec.vars false W args.toList ds gs before) (hL : laidMetH Tryz.prog Rows.decodesUptoRow.laid W) (hk : Rows.uptoSmall H (ds ++ gs) = true) :
    Calls Tryz.prog 4 args W fun e W' => ∃ v, e = .returned v ∧ Rows.decodesSpec.post enc Tryz.prog Tryz.f4 false true false false W args v W' := by
  have hW' := hW
  obtain ⟨p, q, hA0, hV, rfl, hfz, hnd⟩ := hW
  have hA : DataW.TrodAll enc Tryz.prog W 0 (fun _ => true) true Tryz.f4.params.toList args.toList ds p := hA0
  rw [Tryz.params4] at hA hval
  obtain ⟨v0, vs0, d0, ds0, p0, q0, hargs, rfl, rfl, h0, r0⟩ := trodAll_cons hA
  obtain ⟨v1, vs1, d1, ds1, p1, q1, hargs1, rfl, rfl, h1, r1⟩ := trodAll_cons r0
  obtain ⟨rfl, rfl, rfl⟩ := trodAll_nil r1
  subst hargs1
  obtain rfl : args = #[v0, v1] := by cases args; simp_all
  obtain ⟨rfl, rfl⟩ := trodVars_none hV
  have hlt : ∀ x ∈ p0 ++ (p1 ++ []), x.block < W.heap.size := fun x hx => by simpa using hW'.lt x (by simpa using hx)
  have hbulk : Rows.uptoBulk d0 + Rows.uptoBulk d1 ≤ 1048576 := by
    have h : Rows.uptoBulkAll ([d0, d1] ++ []) ≤ 1048576 := of_decide_eq_true hk
    simp only [List.append_nil, Rows.uptoBulkAll] at h
    omega
  have h0k := h0
  have h1k := h1
  clear hA0
  obtain ⟨cs0, rfl, hcs0⟩ := okWide_struct Tryz.underlying25 (hval 0 25 v0 rfl rfl)
  obtain ⟨sa, sn, sc, rfl⟩ := okWide_slice Tryz.underlying26 (hval 1 26 v1 rfl rfl)
  rw [cells25] at hcs0
  obtain ⟨gv, gt, rfl⟩ : ∃ a b, cs0 = #[a, b] := by
    match cs0, hcs0 with
    | ⟨[a, b]⟩, _ => exact ⟨a, b, rfl⟩
  obtain ⟨fuel0, hf0⟩ := h0
  obtain ⟨fuel1, hf1⟩ := h1
  obtain ⟨xs, n0, _, hxy, _, hlen2, hf⟩ := DataW.trod_struct Tryz.underlying25 hf0
  obtain ⟨y0, y1, rfl⟩ : ∃ c0 c1, xs = [c0, c1] := by
    match xs, hlen2 with
    | [c0, c1], _ => exact ⟨_, _, rfl⟩
  have f0 : DataW.trod enc Tryz.prog W 0 (fun _ => true) true n0 22 (List.take (Tryz.prog.cellsOf 22) [gv, gt]) = some y0 := hf 0 _ rfl
  have f1 : DataW.trod enc Tryz.prog W 0 (fun _ => true) true n0 23 (List.take (Tryz.prog.cellsOf 23) [gt]) = some y1 := hf 1 _ rfl
  rw [cells22] at f0
  rw [cells23] at f1
  simp only [List.take_succ_cons, List.take_zero] at f0 f1
  have hd0 : d0 = .agg [y0.1, y1.1] := congrArg Prod.fst hxy
  have hp0 : p0 = y0.2 ++ (y1.2 ++ []) := congrArg Prod.snd hxy
  have hbd0 : Rows.uptoBulk d0 = Rows.uptoBulk y0.1 + (Rows.uptoBulk y1.1 + 0) + 1 := by rw [hd0]; simp only [Rows.uptoBulk, Rows.uptoBulkAll]
  obtain ⟨vs, hws, hin, hcnt⟩ := vals_at n0 gv y0 f0 (fun x hx => hlt x (List.mem_append_left _ (by rw [hp0]; exact List.mem_append_left _ hx))) (by omega)
  obtain ⟨hsn, hops⟩ := ops_at2 (y := (d1, p1)) hf1 (fun x hx => hlt x (List.mem_append_right _ (by simpa using hx))) (by show Rows.uptoBulk d1 ≤ _; omega)
  have hgt : ∃ a n c, gt = .slice a n c := by
    rcases DataW.trod_slice Tryz.underlying23 f1 with ⟨h, _⟩ | ⟨a, len, cap, _, _, _, _, h, _⟩
    · simp only [List.cons.injEq, and_true] at h
      exact ⟨_, _, _, h⟩
    · simp only [List.cons.injEq, and_true] at h
      exact ⟨_, _, _, h⟩
  obtain ⟨ga, gc, hgv⟩ := hws.shape
  have hM : laidMet Tryz.prog Rows.decodesUptoRow.laid W := hL
  have ht := tabs_of_reads (Lib.laidMet.reads hM (.tail _ (.tail _ (.tail _ (.tail _ (.tail _ (.tail _ (.head _)))))))) (Lib.laidMet.reads hM (.head _))
  have hl := table_of_reads (Lib.laidMet.reads hM (.tail _ (.head _)))
  have hgd : Tb W W.heap.size := ⟨ht, hl, utf.size ht⟩
  refine (decodes_walk W gv gt (.slice sa sn sc) (fun w' => Below W.heap.size W w') ⟨ga, _, gc, hgv⟩ hgt ⟨_, _, _, rfl⟩ (fun W1 hb => ?_)).mono ?_
  · subst hgv
    refine (plays_dec W1 ga vs.length gc gt hgt sa sn sc (by omega) ((hgd.keep hb).lift hb.size) (fun i hi => ?_)).mono ?_
    · obtain ⟨g, o, k, a, b, c, s, t, h1, h2, h3, c0, c1, c2, c3, c4, c5, h4, h5, h6⟩ := hops i hi
      exact ⟨g, o, k, a, b, c, s, t, h1, Nat.lt_of_lt_of_le h2 hb.size, h3, (hb.cell (p := ⟨g, o + i * 6, none⟩) h2).trans c0, (hb.cell (p := ⟨g, o + i * 6 + 1, none⟩) h2).trans c1, (hb.cell (p := ⟨g, o + i * 6 + 2, none⟩) h2).trans c2, (hb.cell (p := ⟨g, o + i * 6 + 3, none⟩) h2).trans c3, (hb.cell (p := ⟨g, o + i * 6 + 4, none⟩) h2).trans c4, (hb.cell (p := ⟨g, o + i * 6 + 5, none⟩) h2).trans c5, h4, h5, h6⟩
    · rintro e w' ⟨rfl, hb'⟩
      exact ⟨rfl, hb.trans (hb'.mono hb.size)⟩
  · rintro e W' ⟨rfl, bel⟩
    have e1 : Rows.decodesSpec.fn H ([d0, d1] ++ []) = { results := [.lit (.bool true)], args := [d0, d1] } := rfl
    have keep0 : DataW.Trod enc Tryz.prog W' 0 (fun x => decide (x < W.heap.size)) true 25 (.agg #[gv, gt]) d0 p0 :=
      WideElems.Trod_stays (by kernel_rfl) (by kernel_rfl) (of_decide_eq_true (by kernel_rfl)) h0k (fun x hx => bel.same (hlt x (List.mem_append_left _ hx))) (fun x hx => by simpa using hlt x (List.mem_append_left _ hx))
    have keep1 : DataW.Trod enc Tryz.prog W' 0 (fun x => decide (x < W.heap.size)) true 26 (.slice sa sn sc) d1 p1 :=
      WideElems.Trod_stays (by kernel_rfl) (by kernel_rfl) (of_decide_eq_true (by kernel_rfl)) h1k (fun x hx => bel.same (hlt x (List.mem_append_right _ (by simpa using hx)))) (fun x hx => by simpa using hlt x (List.mem_append_right _ (by simpa using hx)))
    refine ⟨_, rfl, _, _, _, [], p0 ++ (p1 ++ []), [], hW', ?_, ?_, ?_, bel.frame _, fun h => by cases h⟩
    · rw [e1]; exact trodAll_mk1 (shut_bool Tryz.underlying4 _)
    · rw [e1]; exact trodAll_cons_mk keep0 (trodAll_cons_mk keep1 trodAll_mk0)
    · rw [e1]; rfl
end Go.Proofs.YtlghcldiboecoaaGreatDoor
