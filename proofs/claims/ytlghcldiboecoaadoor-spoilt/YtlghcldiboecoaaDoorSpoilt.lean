/- The law orchardkeep.Spoilt returns true at every slice of nodes and every two numbers, where the four tables that the row lists lie as the program's text lays them: a file in which one byte is another is no file, nor is one with a byte more or less. -/
import Derived.Test.YtlghcldiboecoaaDoorCards
import Derived.Test.YtlghcldiboecoaaDoorTie
import Derived.Test.YtlghcldiboecoaaDoorFOpen
import Derived.Test.YtlghcldiboecoaaDoorLets
import Derived.Shelf.Vars
import Derived.Lib.LaidIn
import Derived.Deep.DeepHandedRow
import Derived.ProofKit
import Derived.SizedLaws
set_option linter.unusedVariables false
namespace Go.Proofs.YtlghcldiboecoaaDoor.Spoilt
open Go.ChangeShapes Go.WideShapes Go.ChangeAt Go.RowKit

theorem own : ownKnob Tryd.prog.godebug = none := by kernel_rfl

theorem gSch : Tryd.prog.globalNamed "orchard/file.schemas" = some 0 := by kernel_rfl
theorem gSchType : (Tryd.prog.globals[0]?).map (·.type) = some 102 := by kernel_rfl
theorem cells102 : Tryd.prog.cellsOf 102 = 3 := by kernel_rfl

theorem str_of {H : Type} {enc : TypeId × Value → H} {W : World} {base n : Nat} {sp : Nat → Bool} {held : Bool} {c : Value} {l : List UInt8} {q : List MemPlace} (h : DataW.trod enc Tryd.prog W base sp held n 9 [c] = some (.lit (.string l), q)) : c = .string ⟨l.toArray⟩ := by
  obtain ⟨s, e, hx, _⟩ := DataW.trod_string Tryd.underlying9 h
  simp only [List.cons.injEq, and_true, Prod.mk.injEq, DataW.lit.injEq, Lit.string.injEq] at e hx
  rw [e, hx.1]

set_option maxRecDepth 8000 in
theorem schemas_of_reads {w : World} (h : Lib.VarReads Tryd.prog w "orchard/file.schemas" Rows.laid_orchard_file_schemas) : Schemas w := by
  obtain ⟨g, t, cs, fuel, p, hg, hty, hvar, hd⟩ := h
  obtain rfl := Option.some.inj (gSch.symm.trans hg)
  obtain rfl := Option.some.inj (gSchType.symm.trans hty)
  have hlen : cs.toList.length = 3 := by
    obtain ⟨_, _, _, _, hl, _⟩ := DataW.trod_array Tryd.underlying102 hd
    rw [hl, cells102]
  obtain ⟨c0, c1, c2, hcs⟩ : ∃ c0 c1 c2, cs.toList = [c0, c1, c2] := by
    match cs.toList, hlen with
    | [c0, c1, c2], _ => exact ⟨_, _, _, rfl⟩
  rw [hcs] at hd
  obtain ⟨_, _, _, d0, t0⟩ := Lib.array_elem Tryd.underlying102 hd 0 (by omega)
  obtain ⟨_, _, _, d1, t1⟩ := Lib.array_elem Tryd.underlying102 hd 1 (by omega)
  obtain ⟨_, _, _, d2, t2⟩ := Lib.array_elem Tryd.underlying102 hd 2 (by omega)
  simp only [List.getElem?_cons_zero, List.getElem?_cons_succ, Option.some.injEq] at d0 d1 d2
  subst d0 d1 d2
  rw [cells9'] at t0 t1 t2
  have e0 := str_of t0
  have e1 := str_of t1
  have e2 := str_of t2
  subst e0 e1 e2
  have e' : cs = #[.string ⟨#[]⟩, .string ⟨#[40, 116, 98, 56, 56, 52, 41]⟩, .string ⟨#[40, 116, 98, 116, 56, 56, 52, 41]⟩] := Array.toList_inj.1 hcs
  subst e'
  simp only [World.var?, gSch, Option.bind_some] at hvar
  split at hvar
  · rename_i c ty fr hb
    injection hvar with hvar
    subst hvar
    exact ⟨ty, fr, hb⟩
  · cases hvar

theorem maxlen {w : World} (h : w.ShapedOpen Tryd.prog) : ∃ m, w.cell? ⟨4, 0, none⟩ = some (.int .i64 m) :=
  cell_of_shapedOpen_int (g := 4) (t := 3) (zero := #[.int .i64 0]) h (of_decide_eq_true (by kernel_rfl)) (by kernel_rfl) rfl (by kernel_rfl) (by kernel_rfl) Tryd.underlying3

/-- A world for the witness: the settled one, the four variables holding what their initialisers lay. -/
noncomputable def laidWorld (os : Os) : World :=
  let w0 := World.holding Tryd.prog os ⟨#[], #[], []⟩
  let put (h : Array Obj) (g : Nat) (cs : Array Value) : Array Obj := h.modify g fun
    | .cells _ t frozen => .cells cs t frozen
    | o => o
  let h0 := put w0.heap 1 letCells
  let h1 := put h0 2 (Lib.firstTab.map fun z => Value.int .u8 z).toArray
  let h2 := put h1 3 ((List.range 16).flatMap fun i => [Value.int .u8 (Lib.accLo i), Value.int .u8 (Lib.accHi i)]).toArray
  let h3 := put h2 0 #[.string ⟨#[]⟩, .string ⟨#[40, 116, 98, 56, 56, 52, 41]⟩, .string ⟨#[40, 116, 98, 116, 56, 56, 52, 41]⟩]
  { w0 with heap := h3 }

theorem laid_met (os : Os) : laidMet Tryd.prog Rows.spoiltRow.laid ((laidWorld os).forCall (fun _ _ => 0) ⟨#[], #[.slice none 0 0, .int .i64 0, .int .i64 0], []⟩).memory :=
  (LaidIn.of_run (l := [("unicode/utf8.acceptRanges", Rows.laid_unicode_utf8_acceptRanges), ("orchard/value.letters", Rows.laid_orchard_value_letters), ("orchard/file.schemas", Rows.laid_orchard_file_schemas), ("unicode/utf8.first", Rows.laid_unicode_utf8_first)]) [3, 1, 0, 2] 8 (by kernel_rfl) (by kernel_rfl) (by kernel_rfl) (by kernel_rfl)).met

theorem reads (os : Os) {H : Type} (enc : TypeId × Value → H) : ∃ places, DataW.whole enc Tryd.prog ((laidWorld os).forCall (fun _ _ => 0) ⟨#[], #[.slice none 0 0, .int .i64 0, .int .i64 0], []⟩).memory Tryd.f6.params.toList Rows.spoiltSpec.vars false #[Value.slice none 0 0, .int .i64 0, .int .i64 0].toList 8 = some ([.nil, .lit (.int .i64 0), .lit (.int .i64 0)], [], places) :=
  ⟨[], by kernel_rfl⟩

set_option maxRecDepth 8000 in
theorem contract (H : Type) (enc : TypeId × Value → H) (W : World) (base : Nat) (args : Array Value) (ds gs : List (DataW H)) (before : List MemPlace)
    (hval : ∀ (j : Nat) t v, Tryd.f6.params[j]? = some t → args[j]? = some v → Value.okWide Tryd.prog W .any base t v)
    (hW : DataW.Whole enc Tryd.prog Tryd.f6.params.toList Rows.spoiltSpec.vars false W args.toList ds gs before) (hL : laidMetH Tryd.prog Rows.spoiltRow.laid W) (hSh : W.ShapedOpen Tryd.prog) :
    Calls Tryd.prog 6 args W fun e W' => ∃ v, e = .returned v ∧ Rows.spoiltSpec.post enc Tryd.prog Tryd.f6 false true false false W args v W' := by
  have hW' := hW
  obtain ⟨p, q, hA0, hV, rfl, hfz, hnd⟩ := hW
  have hA : DataW.TrodAll enc Tryd.prog W 0 (fun _ => true) true Tryd.f6.params.toList args.toList ds p := hA0
  rw [Tryd.params6] at hA hval
  obtain ⟨v0, v1, v2, d0, d1, d2, p0, p1, p2, rfl, rfl, rfl, h0, h1, h2⟩ := trodAll_three hA
  obtain ⟨rfl, rfl⟩ := trodVars_none hV
  have hlt : ∀ x ∈ p0 ++ (p1 ++ p2), x.block < W.heap.size := fun x hx => by simpa using hW'.lt x (by simpa using hx)
  have h0k := h0
  obtain ⟨za, rfl, rfl, rfl, wa⟩ := open_int Tryd.underlying3 (hval 1 3 v1 rfl rfl) h1
  obtain ⟨zt, rfl, rfl, rfl, wt⟩ := open_int Tryd.underlying3 (hval 2 3 v2 rfl rfl) h2
  clear hA0
  obtain ⟨sa, sl, sc, rfl⟩ := okWide_slice Tryd.underlying44 (hval 0 44 v0 rfl rfl)
  obtain ⟨fuel, hf⟩ := h0
  obtain ⟨raw, hraw, hlen, hr⟩ := nodes_at (v := .slice sa sl sc) hf (fun x hx => hlt x (List.mem_append_left _ hx))
  have hM : laidMet Tryd.prog Rows.spoiltRow.laid W := hL
  have ht := tabs_of_reads (Lib.laidMet.reads hM (.tail _ (.tail _ (.tail _ (.head _))))) (Lib.laidMet.reads hM (.head _))
  have hl := table_of_reads (Lib.laidMet.reads hM (.tail _ (.head _)))
  have hs := schemas_of_reads (Lib.laidMet.reads hM (.tail _ (.tail _ (.head _))))
  obtain ⟨mx, hm⟩ := maxlen hSh
  have h4 : 4 < W.heap.size := by
    rcases Nat.lt_or_ge 4 W.heap.size with h | h
    · exact h
    · rw [World.cell?] at hm
      simp [Array.getElem?_eq_none h] at hm
  refine (spoilt_walk utf W ht hl hs mx hm h4 _ raw hraw hlen hr za zt (bounds_i64 wa).1 (bounds_i64 wa).2 (bounds_i64 wt).1 (bounds_i64 wt).2).mono ?_
  rintro e W' ⟨rfl, bel⟩
  have e1 : Rows.spoiltSpec.fn H ([d0, .lit (.int .i64 za), .lit (.int .i64 zt)] ++ []) = { results := [.lit (.bool true)], args := [d0, .lit (.int .i64 za), .lit (.int .i64 zt)] } := rfl
  have keep : DataW.Trod enc Tryd.prog W' 0 (fun x => decide (x < W.heap.size)) true 44 (.slice sa sl sc) d0 p0 :=
    WideElems.Trod_stays (by kernel_rfl) (by kernel_rfl) (of_decide_eq_true (by kernel_rfl)) h0k (fun x hx => bel.same (hlt x (List.mem_append_left _ hx))) (fun x hx => by simpa using hlt x (List.mem_append_left _ hx))
  refine ⟨_, rfl, _, _, _, [], p0 ++ ([] ++ []), [], hW', ?_, ?_, ?_, bel.frame _, fun h => by cases h⟩
  · rw [e1]; exact trodAll_mk1 (shut_bool Tryd.underlying4 _)
  · rw [e1]; exact trodAll_mk3 keep (shut_int Tryd.underlying3 wa) (shut_int Tryd.underlying3 wt)
  · rw [e1]; rfl

set_option maxRecDepth 100000 in
theorem lifted (os : Os) (started : os.Started) (H : Type) (enc : TypeId × Value → H) (F : Stop.Interp) :
    ReturnsInHanded {} Tryd.checked os 6 .any ((OpenSpec.ofChange Rows.spoiltSpec).preRow enc Tryd.prog Tryd.f6 Rows.spoiltRow.domain false Rows.spoiltRow.laid) (((OpenSpec.ofChange Rows.spoiltSpec).at F).post enc Tryd.prog Tryd.f6 false true false false) := by
  obtain ⟨places, hx⟩ := reads os enc
  refine returnsInHanded_of_row (C := Tryd.checked) (s := OpenSpec.ofChange Rows.spoiltSpec) own started (by kernel_rfl) Tryd.func6
    (witness_row_at (enc := enc) (C := Tryd.checked) false (laidWorld os) #[.slice none 0 0, .int .i64 0, .int .i64 0] rfl (by kernel_rfl) (by kernel_rfl) (by kernel_rfl)
      (OpenSpec.preRow_of_cond 8 hx (by kernel_rfl) (fun k hk => by cases hk) (by kernel_rfl) (laid_met os))) ?_
  intro W base args ds gs before hval hW _ _ _ hL hSh _
  exact contract H enc W base args ds gs before hval hW hL hSh

theorem said : Rows.SpoiltSaid :=
  OpenClaim.holds_of_cond 6 Tryd.f6 rfl rfl rfl rfl rfl rfl rfl ⟨rfl, rfl, rfl, rfl, rfl⟩ rfl rfl rfl rfl rfl (by kernel_rfl) Tryd.func6 (by kernel_rfl)
    (of_decide_eq_true (by kernel_rfl)) (by unfold Func.isWrapper; first | (rw [if_pos (by decide +kernel)]; kernel_rfl) | (rw [if_neg (by decide +kernel)]; exact ⟨rfl, rfl⟩))
    (fun os started H enc _ F => by rw [OpenClaim.pre_eq_preRow]; exact lifted os started H enc F)

theorem plain (f : FuncId) (fn : Func) (hf : Tryd.pinned.checked.prog.funcNamed "orchard/orchardkeep.Spoilt" = some f) (hfn : Tryd.pinned.checked.prog.funcs[f]? = some fn) :
    false = Tryd.pinned.checked.prog.looks [] ∧ ∀ (j : Nat) t, fn.params[j]? = some t → Tryd.pinned.checked.prog.wantsStandIn t = false := by
  obtain rfl : f = 6 := Option.some.inj ((show Tryd.prog.funcNamed "orchard/orchardkeep.Spoilt" = some 6 by kernel_rfl).symm.trans hf) |>.symm
  obtain rfl : fn = Tryd.f6 := (Option.some.inj (Tryd.func6.symm.trans hfn)).symm
  refine ⟨by kernel_rfl, fun j t ht => ?_⟩
  rw [Tryd.params6] at ht
  have hmem : t = 44 ∨ t = 3 := by simpa using Array.mem_of_getElem? ht
  rcases hmem with rfl | rfl
  · exact (show Tryd.prog.wantsStandIn 44 = false by kernel_rfl)
  · exact (show Tryd.prog.wantsStandIn 3 = false by kernel_rfl)

theorem card : Rows.SpoiltCardSaid :=
  Claim7.holds_tied_plain_at .later [] _ _ _ _ said (fun _ h => by cases h) (by kernel_rfl) (fun _ h => by cases h) spoilt_row_tie rfl ⟨rfl, rfl⟩ (by kernel_rfl) rfl plain (by kernel_rfl)
end Go.Proofs.YtlghcldiboecoaaDoor.Spoilt
namespace Go.Proofs.YtlghcldiboecoaaDoor
theorem spoilt_card : Rows.SpoiltCardSaid := Spoilt.card
end Go.Proofs.YtlghcldiboecoaaDoor
