/- The frame of Disks: the acts, read; what the walk gives, for every argument; an input that fits. -/
import Derived.Test.YtlghcldiboecoaaGreatDoorQ49
set_option linter.unusedVariables false
namespace Go.Proofs.YtlghcldiboecoaaGreatDoor
open Go.ChangeShapes Go.WideShapes Go.ChangeAt Go.RowKit Go.Pair Go.Conc

theorem cells32 : Tryz.prog.cellsOf 32 = 5 := by kernel_rfl

set_option maxRecDepth 8000 in
/-- A list of acts, read. -/
theorem acts_at {H : Type} {enc : TypeId × Value → H} {W : World} {fuel : Nat} {sa : Option Addr} {sn sc : Nat} {y : DataW H × List MemPlace} (h : DataW.trod enc Tryz.prog W 0 (fun _ => true) true fuel 29 [.slice sa sn sc] = some y) (hlt : ∀ p ∈ y.2, p.block < W.heap.size) (hbk : Rows.uptoBulk y.1 ≤ 1048576) :
    ∃ T, ActsAt W W.heap.size sa sn sc T := by
  rcases DataW.trod_slice Tryz.underlying29 h with ⟨hcs, _⟩ | ⟨a, len, cap, elems, rest, n, hfu, hcs, hy, _, hl, hm, hel, hei, _, _⟩
  · simp only [List.cons.injEq, and_true, Value.slice.injEq] at hcs
    obtain ⟨rfl, rfl, rfl⟩ := hcs
    exact ⟨fun _ => 0, by omega, rfl, fun _ _ => Nat.zero_le _, fun i hi => by omega⟩
  · simp only [List.cons.injEq, and_true, Value.slice.injEq] at hcs
    obtain ⟨rfl, rfl, rfl⟩ := hcs
    rw [hy] at hbk hlt
    simp only [Rows.uptoBulk] at hbk
    have hlen : elems.length ≤ Rows.uptoBulkAll (elems.map (·.1)) := by
      have : ∀ l : List (DataW H), l.length ≤ Rows.uptoBulkAll l := fun l => by
        induction l with
        | nil => simp [Rows.uptoBulkAll]
        | cons x r ih => have := bulk_one x; simp only [Rows.uptoBulkAll, List.length_cons]; omega
      simpa using this (elems.map (·.1))
    refine ⟨fun i => Rows.uptoBulkAll ((elems.map (·.1)).take i), by omega, by simp [Rows.uptoBulkAll], fun i hi => Nat.le_trans (bulk_take_le _ i) (by omega), fun i hi => ?_⟩
    rw [cells32] at hei
    have hie : i < elems.length := by omega
    have hpart : Rows.uptoBulk ((elems.map (·.1))[i]'(by simpa using hie)) ≤ Rows.uptoBulkAll (elems.map (·.1)) := bulk_part (by simpa using hie)
    have he := hei i hi
    rw [List.getElem?_eq_getElem hie] at he
    obtain ⟨cs, hcs, hst⟩ := Option.bind_eq_some_iff.1 he
    obtain ⟨xs, m, hm', hxy, hl6, hlen6, hf⟩ := DataW.trod_struct Tryz.underlying32 hst
    rw [cells32] at hl6
    obtain ⟨c0, c1, c2, c3, c4, rfl⟩ : ∃ c0 c1 c2 c3 c4, cs = [c0, c1, c2, c3, c4] := by
      match cs, hl6 with
      | [c0, c1, c2, c3, c4], _ => exact ⟨_, _, _, _, _, rfl⟩
    obtain ⟨y0, y1, y2, y3, y4, rfl⟩ : ∃ c0 c1 c2 c3 c4, xs = [c0, c1, c2, c3, c4] := by
      match xs, hlen6 with
      | [c0, c1, c2, c3, c4], _ => exact ⟨_, _, _, _, _, rfl⟩
    have f0 : DataW.trod enc Tryz.prog W 0 (fun _ => true) true m 3 (List.take (Tryz.prog.cellsOf 3) [c0, c1, c2, c3, c4]) = some y0 := hf 0 _ rfl
    have f1 : DataW.trod enc Tryz.prog W 0 (fun _ => true) true m 3 (List.take (Tryz.prog.cellsOf 3) [c1, c2, c3, c4]) = some y1 := hf 1 _ rfl
    have f2 : DataW.trod enc Tryz.prog W 0 (fun _ => true) true m 3 (List.take (Tryz.prog.cellsOf 3) [c2, c3, c4]) = some y2 := hf 2 _ rfl
    have f3 : DataW.trod enc Tryz.prog W 0 (fun _ => true) true m 9 (List.take (Tryz.prog.cellsOf 9) [c3, c4]) = some y3 := hf 3 _ rfl
    have f4 : DataW.trod enc Tryz.prog W 0 (fun _ => true) true m 9 (List.take (Tryz.prog.cellsOf 9) [c4]) = some y4 := hf 4 _ rfl
    rw [cells3'] at f0 f1 f2
    rw [cells9'] at f3 f4
    obtain ⟨k, e0, _, _⟩ := DataW.trod_int Tryz.underlying3 f0
    obtain ⟨z, e1, _, hz⟩ := DataW.trod_int Tryz.underlying3 f1
    obtain ⟨z2, e2, _, hz2⟩ := DataW.trod_int Tryz.underlying3 f2
    obtain ⟨s, e3, hs0, _⟩ := DataW.trod_string Tryz.underlying9 f3
    obtain ⟨t, e4, ht0, _⟩ := DataW.trod_string Tryz.underlying9 f4
    simp only [List.take_succ_cons, List.take_zero, List.cons.injEq, and_true] at e0 e1 e2 e3 e4
    subst e0 e1 e2 e3 e4
    have hb4 : Rows.uptoBulk y4.1 = t.size + 1 := by rw [ht0, bulk_str, str_len]
    have hbi : Rows.uptoBulk y4.1 ≤ Rows.uptoBulk ((elems.map (·.1))[i]'(by simpa using hie)) := by
      simp only [List.getElem_map, hxy, List.map_cons, List.map_nil, Rows.uptoBulk, Rows.uptoBulkAll]
      omega
    obtain ⟨b, off, spot⟩ := a
    have hcell : ∀ j u, ([.int .i64 k, .int .i64 z, .int .i64 z2, .string s, .string t] : List Value)[j]? = some u → W.cell? ((⟨b, off, spot⟩ : Addr).add (i * 5 + j)) = some u := fun j u hu => by
      have h1 := (World.cells?_some hcs).2.2 j (by have := (List.getElem?_eq_some_iff.1 hu).1; simpa using this)
      rw [hu] at h1
      rw [← h1, Addr.add_add]
    have hspot : spot = none := by
      have h1 := World.cell?_spot (hcell 1 _ rfl)
      have h2 := World.cell?_spot (hcell 0 _ rfl)
      by_cases hi0 : i = 0
      · subst hi0
        simpa [Addr.add] using h2
      · have h00 : 0 < elems.length := by omega
        have he0 := hei 0 (by omega)
        rw [List.getElem?_eq_getElem h00] at he0
        obtain ⟨cs0, hcs0, _⟩ := Option.bind_eq_some_iff.1 he0
        have h3 := (World.cells?_some hcs0)
        have h4 := h3.2.2 0 (by omega)
        rw [Nat.zero_mul] at h4
        simp only [Addr.add, if_true] at h4
        have hl0 : 0 < cs0.length := by rw [h3.2.1]; omega
        rw [List.getElem?_eq_getElem hl0] at h4
        exact World.cell?_spot h4
    subst hspot
    refine ⟨b, off, k, z, z2, s, t, rfl, ?_, hl, ?_, ?_, ?_, ?_, ?_, bounds_i64 hz, bounds_i64 hz2, ?_⟩
    rotate_right
    · have hlb : i < (elems.map (·.1)).length := by simpa using hie
      have hb := bulk_take_add (l := elems.map (·.1)) hlb
      show Rows.uptoBulkAll ((elems.map (·.1)).take i) + t.size ≤ Rows.uptoBulkAll ((elems.map (·.1)).take (i + 1))
      rw [hb]
      omega
    · have := hlt (MemPlace.cell b (off + 0)) (by rw [cells32]; exact List.mem_append_left _ (MemPlace.mem_row.2 ⟨0, by omega, rfl⟩))
      simpa [MemPlace.block] using this
    all_goals
      first
      | (have := hcell 0 _ rfl; rw [Addr.add_lit] at this; simpa [Nat.add_assoc] using this; done)
      | (have := hcell 1 _ rfl; rw [Addr.add_lit] at this; simpa [Nat.add_assoc] using this; done)
      | (have := hcell 2 _ rfl; rw [Addr.add_lit] at this; simpa [Nat.add_assoc] using this; done)
      | (have := hcell 3 _ rfl; rw [Addr.add_lit] at this; simpa [Nat.add_assoc] using this; done)
      | (have := hcell 4 _ rfl; rw [Addr.add_lit] at this; simpa [Nat.add_assoc] using this; done)

set_option maxRecDepth 100000 in
theorem contract_dk (HPC : Hid Crashes) (H : Type) (enc : TypeId × Value → H) (W : World) (base : Nat) (args : Array Value) (ds gs : List (DataW H)) (before : List MemPlace)
    (hval : ∀ (j : Nat) t v, Tryz.f6.params[j]? = some t → args[j]? = some v → Value.okWide Tryz.prog W .any base t v)
    (hW : DataW.Whole enc Tryz.prog Tryz.f6.params.toList Rows.disksSpec.vars false W args.toList ds gs before) (hk : Rows.uptoSmall H (ds ++ gs) = true) :
    EA Tryz.prog (fun v W' => Same W W' → Rows.disksSpec.post enc Tryz.prog Tryz.f6 false true false false W args v W') (fun _ => False) (G (Frame.enter Tryz.prog 6 args .normal) []) W := by
  have hW' := hW
  obtain ⟨p, q, hA0, hV, rfl, hfz, hnd⟩ := hW
  have hA : DataW.TrodAll enc Tryz.prog W 0 (fun _ => true) true Tryz.f6.params.toList args.toList ds p := hA0
  rw [Tryz.params6] at hA hval
  obtain ⟨v1, vs1, d1, ds1, p1, q1, hargs1, rfl, rfl, h1, r1⟩ := trodAll_cons hA
  obtain ⟨rfl, rfl, rfl⟩ := trodAll_nil r1
  obtain rfl : args = #[v1] := by cases args; simp_all
  obtain ⟨rfl, rfl⟩ := trodVars_none hV
  have hlt : ∀ x ∈ p1 ++ [], x.block < W.heap.size := fun x hx => by simpa using hW'.lt x (by simpa using hx)
  have hbulk : Rows.uptoBulk d1 ≤ 1048576 := by
    have h : Rows.uptoBulkAll ([d1] ++ []) ≤ 1048576 := of_decide_eq_true hk
    simp only [List.append_nil, Rows.uptoBulkAll] at h
    omega
  have h1k := h1
  clear hA0
  obtain ⟨sa, sn, sc, rfl⟩ := okWide_slice Tryz.underlying29 (hval 0 29 v1 rfl rfl)
  obtain ⟨fuel1, hf1⟩ := h1
  obtain ⟨T, hsc⟩ := acts_at (y := (d1, p1)) hf1 (fun x hx => hlt x (by simpa using hx)) hbulk
  have hpost : ∀ w', W.heap.size ≤ w'.heap.size → (∀ i, i < W.heap.size → w'.heap[i]? = W.heap[i]?) → (Same W w' → Rows.disksSpec.post enc Tryz.prog Tryz.f6 false true false false W #[.slice sa sn sc] (.bool true) w') := by
    intro w' hsz old hs
    have same : ∀ x : MemPlace, x.block < W.heap.size → W.sameAt w' x := fun x hx => by
      cases x with
      | cell b o => exact World.cell?_of_block (w := W) (old b hx)
      | map b => exact old b hx
    have e1 : Rows.disksSpec.fn H ([d1] ++ []) = { results := [.lit (.bool true)], args := [d1] } := rfl
    have keep1 : DataW.Trod enc Tryz.prog w' 0 (fun x => decide (x < W.heap.size)) true 29 (.slice sa sn sc) d1 p1 :=
      WideElems.Trod_stays (by kernel_rfl) (by kernel_rfl) (of_decide_eq_true (by kernel_rfl)) h1k (fun x hx => same x (hlt x (by simpa using hx))) (fun x hx => by simpa using hlt x (by simpa using hx))
    refine ⟨_, _, _, [], p1 ++ [], [], hW', ?_, ?_, ?_, ⟨hs.1, hs.2, fun i hi => ?_⟩, fun h => by cases h⟩
    · rw [e1]; exact trodAll_mk1 (shut_bool Tryz.underlying4 _)
    · rw [e1]; exact trodAll_cons_mk keep1 trodAll_mk0
    · rw [e1]; rfl
    · rw [old i hi]
      cases W.heap[i]? with
      | none => rfl
      | some o => cases o <;> simp
  have hrun := disks_runs HPC (Post := fun v W' => Same W W' → Rows.disksSpec.post enc Tryz.prog Tryz.f6 false true false false W #[.slice sa sn sc] v W') sa sn sc T hsc hpost
  rw [enter_at (c := body6) _ Tryz.func6 rfl]
  exact hrun

def noActs : Array Value := #[.slice none 0 0]
theorem laid_metK (os : Os) : laidMet Tryz.prog Rows.disksUptoRow.laid ((laidWorld os).forCall (fun _ _ => 0) ⟨#[], noActs, []⟩).memory :=
  (LaidIn.of_run (l := [("unicode/utf8.acceptRanges", Rows.laid_unicode_utf8_acceptRanges), ("orchard/value.letters", Rows.laid_orchard_value_letters), ("orchard/message.requests", Rows.laid_orchard_message_requests), ("orchard/message.answers", Rows.laid_orchard_message_answers), ("orchard/file.schemas", Rows.laid_orchard_file_schemas), ("orchard/watch.tellings", Rows.laid_orchard_watch_tellings), ("unicode/utf8.first", Rows.laid_unicode_utf8_first)]) [7, 3, 0, 4, 1, 5, 6, 13, 14, 15] 8 (by kernel_rfl) (by kernel_rfl) (by kernel_rfl) (by kernel_rfl)).met

theorem readsK (os : Os) {H : Type} (enc : TypeId × Value → H) : ∃ places, DataW.whole enc Tryz.prog ((laidWorld os).forCall (fun _ _ => 0) ⟨#[], noActs, []⟩).memory Tryz.f6.params.toList Rows.disksSpec.vars false noActs.toList 8 = some ([.nil], [], places) :=
  ⟨[], by kernel_rfl⟩

set_option maxRecDepth 100000 in
theorem liftedK (HPC : Hid Crashes) (os : Os) (started : os.Started) (H : Type) (enc : TypeId × Value → H) (F : Stop.Interp) :
    ReturnsInLeavingWide {} Tryz.checked os 6 .any ((Rows.OpenSpec.upto Rows.disksSpec).preRow enc Tryz.prog Tryz.f6 Rows.disksUptoRow.domain false Rows.disksUptoRow.laid) (((Rows.OpenSpec.upto Rows.disksSpec).at F).post enc Tryz.prog Tryz.f6 false true false false) := by
  obtain ⟨places, hx⟩ := readsK os enc
  refine leaving_of_row (C := Tryz.checked) (s := Rows.OpenSpec.upto Rows.disksSpec) own started Tryz.func6
    (witness_row_atRef (enc := enc) (C := Tryz.checked) false (laidWorld os) noActs rfl (by kernel_rfl) (by kernel_rfl) (by kernel_rfl)
      (OpenSpec.preRow_of_cond 8 hx (by kernel_rfl) (fun k hk => by cases hk; kernel_rfl) (by kernel_rfl) (laid_metK os))) ?_
  intro W base args ds gs before hval hW hcond
  exact contract_dk HPC H enc W base args ds gs before hval hW (hcond _ rfl)

end Go.Proofs.YtlghcldiboecoaaGreatDoor
