/- The tables that the row lists, in the world, and what utf8.ValidString answers. -/
import Derived.Test.YtlghcldiboecoaaGreatDoorFind
import Derived.Test.YtlghcldiboecoaaGreatDoorTake
import Derived.Test.YtlghcldiboecoaaGreatDoorRows
import Derived.Shelf.Unicode.ValidAny
import Derived.Lib.LaidU8T
import Derived.OpenShut
set_option linter.unusedVariables false
namespace Go.Proofs.YtlghcldiboecoaaGreatDoor
open Go.RowKit

/-- Where the functions, types and variables of utf8.ValidString lie here. -/
def Tryz.laysValid_ren : Go.Shelf.Ren := ⟨fun | 196 => 320 | 259 => 337 | n => n, fun | 9 => 9 | 4 => 4 | 3 => 3 | 5 => 5 | 12 => 12 | 119 => 446 | 0 => 0 | 46 => 212 | 139 => 449 | 138 => 448 | 53 => 266 | n => n, fun | 3 => 6 | 4 => 7 | n => n⟩
set_option maxRecDepth 100000 in
theorem Tryz.laysValid : Go.Proofs.Lays.n196 Tryz.prog Tryz.laysValid_ren :=
  { mixed := by kernel_rfl,
    f196 := Tryz.func320.trans (congrArg some (by kernel_rfl)),
    f259 := Tryz.func337.trans (congrArg some (by kernel_rfl)),
    t0 := Tryz.underlying0,
    a0 := Tryz.isAgg0,
    z0 := Tryz.sizeOf0,
    v0 := Tryz.zeroValue0,
    t3 := Tryz.underlying3,
    a3 := Tryz.isAgg3,
    z3 := Tryz.sizeOf3,
    v3 := Tryz.zeroValue3,
    t4 := Tryz.underlying4,
    a4 := Tryz.isAgg4,
    z4 := Tryz.sizeOf4,
    v4 := Tryz.zeroValue4,
    t5 := Tryz.underlying5,
    a5 := Tryz.isAgg5,
    z5 := Tryz.sizeOf5,
    v5 := Tryz.zeroValue5,
    t9 := Tryz.underlying9,
    a9 := Tryz.isAgg9,
    z9 := Tryz.sizeOf9,
    v9 := Tryz.zeroValue9,
    t12 := Tryz.underlying12,
    a12 := Tryz.isAgg12,
    z12 := Tryz.sizeOf12,
    v12 := Tryz.zeroValue12,
    t46 := Tryz.underlying212,
    a46 := Tryz.isAgg212,
    z46 := Tryz.sizeOf212,
    v46 := Tryz.zeroValue212,
    t53 := Tryz.underlying266,
    a53 := Tryz.isAgg266,
    z53 := Tryz.sizeOf266,
    v53 := Tryz.zeroValue266,
    t119 := Tryz.underlying446,
    a119 := Tryz.isAgg446,
    z119 := Tryz.sizeOf446,
    t138 := Tryz.underlying448,
    a138 := Tryz.isAgg448,
    z138 := Tryz.sizeOf448,
    v138 := Tryz.zeroValue448,
    t139 := Tryz.underlying449,
    a139 := Tryz.isAgg449,
    z139 := Tryz.sizeOf449,
    v139 := Tryz.zeroValue449,
    g3 := by kernel_rfl,
    g4 := by kernel_rfl }

theorem heap_of_cell {w : World} {g o : Nat} {v : Value} (h : w.cell? ⟨g, o, none⟩ = some v) : g < w.heap.size := by
  rcases Nat.lt_or_ge g w.heap.size with hl | hl
  · exact hl
  · unfold World.cell? at h
    simp [Array.getElem?_eq_none hl] at h

/-- What utf8.ValidString says, as a function of the bytes. -/
def validB (s : ByteArray) : Bool := Lib.validD s.data.toList
theorem valid97 : validB ⟨#[97]⟩ = true := by decide

theorem utf : Utf validB (Lib.Utf8Tabs 6 7) where
  gives := fun s w hT hs => Any.utf8_ValidString Tryz.laysValid s w (by omega) hT
  kept := fun {B w w'} hB hb h => have hB4 : 8 ≤ B := hB
    ⟨fun c hc => (hb.cell (by simp; omega)).trans (h.1 c hc), fun i hi => ⟨(hb.cell (by simp; omega)).trans (h.2 i hi).1, (hb.cell (by simp; omega)).trans (h.2 i hi).2⟩⟩
  size := fun {w} h => heap_of_cell (h.2 0 (by omega)).1

theorem accept_eq : (Rows.laid_unicode_utf8_acceptRanges : DataW Unit) = Lib.acceptData := by kernel_rfl
theorem first_eq : Rows.laid_unicode_utf8_first = Lib.firstData := by kernel_rfl

theorem gLet : Tryz.prog.globalNamed "orchard/value.letters" = some 3 := by kernel_rfl
theorem gLetType : (Tryz.prog.globals[3]?).map (·.type) = some 395 := by kernel_rfl
theorem cells77 : Tryz.prog.cellsOf 395 = 49 := by kernel_rfl
theorem cells49 : Tryz.prog.cellsOf 224 = 7 := by kernel_rfl
theorem cells3 : Tryz.prog.cellsOf 3 = 1 := by kernel_rfl
theorem cells47 : Tryz.prog.cellsOf 222 = 1 := by kernel_rfl
theorem cells4 : Tryz.prog.cellsOf 4 = 1 := by kernel_rfl
theorem cells5 : Tryz.prog.cellsOf 5 = 1 := by kernel_rfl

set_option maxRecDepth 8000 in
theorem lt_cells {w : World} {base : Nat} {sp : Nat → Bool} {held : Bool} {fuel : Nat} {cs : List Value} {p : List MemPlace} {a b c d e g : Int} {f : Bool}
    (h : DataW.trod (fun _ => ()) Tryz.prog w base sp held fuel 224 cs = some (.agg [.lit (.int .u8 a), .lit (.int .i64 b), .lit (.int .i64 c), .lit (.int .i64 d), .lit (.int .i64 e), .lit (.bool f), .lit (.int .u8 g)], p)) :
    cs = [.int .u8 a, .int .i64 b, .int .i64 c, .int .i64 d, .int .i64 e, .bool f, .int .u8 g] := by
  obtain ⟨xs, n, _, hx, hl, hlen, hf⟩ := DataW.trod_struct Tryz.underlying224 h
  match xs, hlen with
  | [x0, x1, x2, x3, x4, x5, x6], _ =>
    rw [cells49] at hl
    match cs, hl with
    | [v0, v1, v2, v3, v4, v5, v6], _ =>
      have h0 := hf 0 _ rfl
      have h1 := hf 1 _ rfl
      have h2 := hf 2 _ rfl
      have h3 := hf 3 _ rfl
      have h4 := hf 4 _ rfl
      have h5 := hf 5 _ rfl
      have h6 := hf 6 _ rfl
      simp [cells3, cells4, cells5, cells47] at h0 h1 h2 h3 h4 h5 h6
      obtain ⟨z0, e0, rfl, _⟩ := DataW.trod_int Tryz.underlying5 h0
      obtain ⟨z1, e1, rfl, _⟩ := DataW.trod_int Tryz.underlying222 h1
      obtain ⟨z2, e2, rfl, _⟩ := DataW.trod_int Tryz.underlying3 h2
      obtain ⟨z3, e3, rfl, _⟩ := DataW.trod_int Tryz.underlying3 h3
      obtain ⟨z4, e4, rfl, _⟩ := DataW.trod_int Tryz.underlying3 h4
      obtain ⟨z5, e5, rfl⟩ := DataW.trod_bool Tryz.underlying4 h5
      obtain ⟨z6, e6, rfl, _⟩ := DataW.trod_int Tryz.underlying5 h6
      simp at hx e0 e1 e2 e3 e4 e5 e6
      obtain ⟨⟨rfl, rfl, rfl, rfl, rfl, rfl, rfl⟩, _⟩ := hx
      subst e0 e1 e2 e3 e4 e5 e6
      rfl

theorem cut7 {α : Type} (l : List α) (k : Nat) : l.drop k = (l.drop k).take 7 ++ l.drop (k + 7) := by
  rw [← List.drop_drop]
  exact (List.take_append_drop 7 (l.drop k)).symm

set_option maxRecDepth 8000 in
theorem table_of_reads {w : World} (h : Lib.VarReads Tryz.prog w "orchard/value.letters" Rows.laid_orchard_value_letters) : Table w := by
  obtain ⟨g, t, cs, fuel, p, hg, hty, hvar, hd⟩ := h
  obtain rfl := Option.some.inj (gLet.symm.trans hg)
  obtain rfl := Option.some.inj (gLetType.symm.trans hty)
  have hlen : cs.toList.length = 49 := by
    obtain ⟨_, _, _, _, hl, _⟩ := DataW.trod_array Tryz.underlying395 hd
    rw [hl, cells77]
  have el : ∀ i, i < 7 → ∃ fuel' d q, _ := fun i hi => Lib.array_elem Tryz.underlying395 hd i hi
  obtain ⟨_, _, _, d0, t0⟩ := el 0 (by omega)
  obtain ⟨_, _, _, d1, t1⟩ := el 1 (by omega)
  obtain ⟨_, _, _, d2, t2⟩ := el 2 (by omega)
  obtain ⟨_, _, _, d3, t3⟩ := el 3 (by omega)
  obtain ⟨_, _, _, d4, t4⟩ := el 4 (by omega)
  obtain ⟨_, _, _, d5, t5⟩ := el 5 (by omega)
  obtain ⟨_, _, _, d6, t6⟩ := el 6 (by omega)
  simp only [List.getElem?_cons_zero, List.getElem?_cons_succ, Option.some.injEq] at d0 d1 d2 d3 d4 d5 d6
  subst d0 d1 d2 d3 d4 d5 d6
  rw [cells49] at t0 t1 t2 t3 t4 t5 t6
  have c0 := lt_cells t0
  have c1 := lt_cells t1
  have c2 := lt_cells t2
  have c3 := lt_cells t3
  have c4 := lt_cells t4
  have c5 := lt_cells t5
  have c6 := lt_cells t6
  have e : cs.toList = letCells.toList := by
    have k0 := cut7 cs.toList 0
    have k1 := cut7 cs.toList 7
    have k2 := cut7 cs.toList 14
    have k3 := cut7 cs.toList 21
    have k4 := cut7 cs.toList 28
    have k5 := cut7 cs.toList 35
    have k6 := cut7 cs.toList 42
    have k7 : cs.toList.drop 49 = [] := List.drop_eq_nil_of_le (by omega)
    simp only [Nat.zero_mul, Nat.one_mul, Nat.reduceMul, Nat.reduceAdd] at c0 c1 c2 c3 c4 c5 c6 k0 k1 k2 k3 k4 k5 k6
    rw [k7, c6] at k6
    rw [k6, c5] at k5
    rw [k5, c4] at k4
    rw [k4, c3] at k3
    rw [k3, c2] at k2
    rw [k2, c1] at k1
    rw [k1, c0] at k0
    exact k0
  have e' : cs = letCells := Array.toList_inj.1 e
  subst e'
  simp only [World.var?, gLet, Option.bind_some] at hvar
  split at hvar
  · rename_i c ty fr hb
    injection hvar with hvar
    subst hvar
    exact ⟨ty, fr, hb⟩
  · cases hvar

theorem tabs_of_reads {w : World} (h1 : Lib.VarReads Tryz.prog w "unicode/utf8.first" Rows.laid_unicode_utf8_first) (h2 : Lib.VarReads Tryz.prog w "unicode/utf8.acceptRanges" Rows.laid_unicode_utf8_acceptRanges) : Lib.Utf8Tabs 6 7 w := by
  rw [first_eq] at h1
  rw [accept_eq] at h2
  exact utf8Tabs_of_readsT (U8Types.of196 Tryz.laysValid) ⟨by kernel_rfl, by kernel_rfl, by kernel_rfl, by kernel_rfl, by kernel_rfl, by kernel_rfl, by kernel_rfl⟩ h1 h2
end Go.Proofs.YtlghcldiboecoaaGreatDoor
