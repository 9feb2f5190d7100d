/- The arguments of Encodes: values and steps of whatever make. -/
import Derived.Test.YtlghcldiboecoaaGreatDoorKPlays
import Derived.Lib.SmallJoins
import Derived.Deep.Strs
import Derived.WideKeyArgs
import Derived.OpenShut
set_option linter.unusedVariables false
namespace Go.Proofs.YtlghcldiboecoaaGreatDoor
open Go.ChangeShapes Go.WideShapes Go.ChangeAt Go.RowKit

theorem cells113 : Tryz.prog.cellsOf 113 = 3 := by kernel_rfl
theorem cells76 : Tryz.prog.cellsOf 76 = 6 := by kernel_rfl
theorem cells22 : Tryz.prog.cellsOf 22 = 1 := by kernel_rfl
theorem cells23 : Tryz.prog.cellsOf 23 = 1 := by kernel_rfl
theorem cells25 : Tryz.prog.cellsOf 25 = 2 := by kernel_rfl
theorem cells3' : Tryz.prog.cellsOf 3 = 1 := by kernel_rfl
theorem cells9' : Tryz.prog.cellsOf 9 = 1 := by kernel_rfl

instance : Inhabited (Orch.V × Value) := ⟨(.mk 0 ⟨#[]⟩ [], .slice none 0 0)⟩

theorem str_len (s : ByteArray) : s.data.toList.length = s.size := by rw [Array.length_toList]; rfl

theorem bulk_str {H : Type} (l : List UInt8) : Rows.uptoBulk (DataW.lit (H := H) (.string l)) = l.length + 1 := by simp [Rows.uptoBulk]
theorem bulk_one {H : Type} (d : DataW H) : 1 ≤ Rows.uptoBulk d := by
  cases d with
  | lit l => cases l <;> simp [Rows.uptoBulk]
  | _ => simp [Rows.uptoBulk]

theorem cnt_bulk {H : Type} : ∀ (xs : List Orch.V) (ds : List (DataW H)), xs.length = ds.length → (∀ (i : Nat) (h1 : i < xs.length) (h2 : i < ds.length), cntV xs[i] ≤ Rows.uptoBulk ds[i]) → cntL xs ≤ Rows.uptoBulkAll ds
  | [], ds, _, _ => Nat.zero_le _
  | x :: r, [], h, _ => by simp at h
  | x :: r, d :: e, h, hp => by
    have h0 := hp 0 (by simp) (by simp)
    have ih := cnt_bulk r e (by simpa using h) (fun i h1 h2 => by
      have := hp (i + 1) (by simpa using h1) (by simpa using h2)
      simpa using this)
    simp only [cntL, Rows.uptoBulkAll]
    simp only [List.getElem_cons_zero] at h0
    omega

theorem bulk_part {H : Type} {l : List (DataW H)} {i : Nat} (h : i < l.length) : Rows.uptoBulk l[i] ≤ Rows.uptoBulkAll l := by
  induction l generalizing i with
  | nil => simp at h
  | cons x r ih =>
    simp only [Rows.uptoBulkAll]
    cases i with
    | zero => simp
    | succ i =>
      have := ih (i := i) (by simpa using h)
      simp only [List.getElem_cons_succ]
      omega

set_option maxRecDepth 8000 in
/-- A list of values, read; by how deep the reading goes. -/
theorem vals_at {H : Type} {enc : TypeId × Value → H} {W : World} : ∀ (fuel : Nat) (v : Value) (y : DataW H × List MemPlace), DataW.trod enc Tryz.prog W 0 (fun _ => true) true fuel 22 [v] = some y → (∀ p ∈ y.2, p.block < W.heap.size) → Rows.uptoBulk y.1 ≤ 1048576 →
    ∃ vs, WsAt W (fun b => b < W.heap.size) vs v ∧ (∀ x, x ∈ vs → InV x) ∧ cntL vs ≤ Rows.uptoBulk y.1 := by
  intro fuel
  induction fuel using Nat.strongRecOn with
  | _ fuel ih =>
  intro v y h hlt hbk
  rcases DataW.trod_slice Tryz.underlying22 h with ⟨hcs, _⟩ | ⟨a, len, cap, elems, rest, n, hfu, hcs, hy, _, hl, hm, hel, hei, _, _⟩
  · simp only [List.cons.injEq, and_true] at hcs
    subst hcs
    exact ⟨[], .nil, (fun x hx => by cases hx), by simp [cntL]⟩
  · simp only [List.cons.injEq, and_true] at hcs
    subst hcs
    rcases Nat.eq_zero_or_pos len with h0 | h0
    · subst h0
      exact ⟨[], .emp a cap, (fun x hx => by cases hx), by simp [cntL]⟩
    · rw [hy] at hbk hlt
      simp only [Rows.uptoBulk] at hbk
      rw [cells113] at hei
      have hn : ∀ i, i < len → ∃ p : Orch.V × Value, W.cells? 0 (a.add (i * 3)) 3 = some (vcell p) ∧ WsAt W (fun b => b < W.heap.size) p.1.l p.2 ∧ InV p.1 ∧ ∀ (hi : i < (elems.map (·.1)).length), cntV p.1 ≤ Rows.uptoBulk (elems.map (·.1))[i] := by
        intro i hi
        have hie : i < elems.length := by omega
        have hpart : Rows.uptoBulk ((elems.map (·.1))[i]'(by simpa using hie)) ≤ Rows.uptoBulkAll (elems.map (·.1)) := bulk_part (by simpa using hie)
        have he := hei i hi
        rw [List.getElem?_eq_getElem hie] at he
        obtain ⟨cs, hcs, hst⟩ := Option.bind_eq_some_iff.1 he
        obtain ⟨xs, m, hm', hxy, hl3, hlen3, hf⟩ := DataW.trod_struct Tryz.underlying113 hst
        rw [cells113] at hl3
        obtain ⟨c0, c1, c2, rfl⟩ : ∃ c0 c1 c2, cs = [c0, c1, c2] := by
          match cs, hl3 with
          | [c0, c1, c2], _ => exact ⟨_, _, _, rfl⟩
        obtain ⟨y0, y1, y2, rfl⟩ : ∃ c0 c1 c2, xs = [c0, c1, c2] := by
          match xs, hlen3 with
          | [c0, c1, c2], _ => exact ⟨_, _, _, rfl⟩
        have f0 : DataW.trod enc Tryz.prog W 0 (fun _ => true) true m 3 (List.take (Tryz.prog.cellsOf 3) [c0, c1, c2]) = some y0 := hf 0 _ rfl
        have f1 : DataW.trod enc Tryz.prog W 0 (fun _ => true) true m 9 (List.take (Tryz.prog.cellsOf 9) [c1, c2]) = some y1 := hf 1 _ rfl
        have f2 : DataW.trod enc Tryz.prog W 0 (fun _ => true) true m 22 (List.take (Tryz.prog.cellsOf 22) [c2]) = some y2 := hf 2 _ rfl
        rw [cells3'] at f0
        rw [cells9'] at f1
        rw [cells22] at f2
        obtain ⟨z, e0, hz0, hz⟩ := DataW.trod_int Tryz.underlying3 f0
        obtain ⟨s, e1, hs0, hs⟩ := DataW.trod_string Tryz.underlying9 f1
        simp only [List.take_succ_cons, List.take_zero, List.cons.injEq, and_true] at e0 e1 f2
        subst e0 e1
        have hbi : Rows.uptoBulk ((elems.map (·.1))[i]'(by simpa using hie)) = Rows.uptoBulk y0.1 + (Rows.uptoBulk y1.1 + Rows.uptoBulk y2.1) + 1 := by
          simp only [List.getElem_map, hxy, List.map_cons, List.map_nil, Rows.uptoBulk, Rows.uptoBulkAll]
          omega
        have hb1 : Rows.uptoBulk y1.1 = s.size + 1 := by rw [hs0, bulk_str, str_len]
        obtain ⟨vs2, w2, i2, n2⟩ := ih m (by omega) c2 y2 f2 (fun p hp => hlt p (by
          refine List.mem_append_right _ (List.mem_flatMap.2 ⟨elems[i], List.mem_append_left _ (List.getElem_mem hie), ?_⟩)
          rw [hxy]
          simp only [List.flatMap_cons, List.flatMap_nil, List.append_nil, List.mem_append]
          exact .inr (.inr hp))) (by omega)
        refine ⟨(.mk z s vs2, c2), hcs, w2, .mk z s vs2 (bounds_i64 hz) (by omega) (by have := cntL_len vs2; omega) i2, fun _ => ?_⟩
        rw [hbi, cntV_eq]
        show 1 + cntL vs2 ≤ _
        omega
      obtain ⟨f, hf⟩ := Go.Deep.choose_lt hn
      obtain ⟨b, off, spot⟩ := a
      have hcell : ∀ i, i < len → ∀ j u, (vcell (f i))[j]? = some u → W.cell? ((⟨b, off, spot⟩ : Addr).add (i * 3 + j)) = some u := fun i hi j u hu => by
        have h1 := (World.cells?_some (hf i hi).1).2.2 j (by have := (List.getElem?_eq_some_iff.1 hu).1; simpa [vcell] using this)
        rw [hu] at h1
        rw [← h1, Addr.add_add]
      have hspot : spot = none := by simpa [Addr.add] using World.cell?_spot (hcell 0 (by omega) 0 _ rfl)
      subst hspot
      have hps : ((List.range len).map f).length = len := by simp
      refine ⟨((List.range len).map f).map Prod.fst, ?_, fun x hx => ?_, ?_⟩
      · have hrow := WsAt.row (w := W) (S := fun b => b < W.heap.size) ((List.range len).map f) b off cap (by intro e; rw [e] at hps; simp at hps; omega) (by rw [hps]; exact hl) ?_ (fun j u hj => ?_) (fun p hp => ?_)
        · rw [hps] at hrow
          exact hrow
        · have := hlt (MemPlace.cell b (off + 0)) (by rw [cells113]; exact List.mem_append_left _ (MemPlace.mem_row.2 ⟨0, by omega, rfl⟩))
          simpa [MemPlace.block] using this
        · have hjl := (List.getElem?_eq_some_iff.1 hj).1
          rw [flat_len vcell 3 vcell_len, hps] at hjl
          have hq : j = (j / 3) * 3 + j % 3 := by omega
          rw [hq] at hj
          rw [flat_get vcell 3 vcell_len _ (j / 3) (j % 3) (Nat.mod_lt _ (by omega)), List.getElem?_eq_getElem (by rw [hps]; omega), Option.bind_some] at hj
          simp only [List.getElem_map, List.getElem_range] at hj
          have h1 := hcell (j / 3) (by omega) (j % 3) u hj
          rw [Addr.add_lit, ← hq] at h1
          exact h1
        · obtain ⟨i, hi, rfl⟩ := List.mem_map.1 hp
          exact (hf i (List.mem_range.1 hi)).2.1
      · obtain ⟨p, hp, rfl⟩ := List.mem_map.1 hx
        obtain ⟨i, hi, rfl⟩ := List.mem_map.1 hp
        exact (hf i (List.mem_range.1 hi)).2.2.1
      · have hc := cnt_bulk (H := H) (((List.range len).map f).map Prod.fst) (elems.map (·.1)) (by simp [hel]) (fun i h1 h2 => by
          have hi : i < len := by simpa using h1
          simp only [List.getElem_map, List.getElem_range]
          have := (hf i hi).2.2.2 (by simpa using h2)
          simpa using this)
        rw [hy]
        simp only [Rows.uptoBulk]
        omega

set_option maxRecDepth 8000 in
/-- A list of steps, read. -/
theorem ops_at {H : Type} {enc : TypeId × Value → H} {W : World} {fuel : Nat} {sa : Option Addr} {sn sc : Nat} {y : DataW H × List MemPlace} (h : DataW.trod enc Tryz.prog W 0 (fun _ => true) true fuel 26 [.slice sa sn sc] = some y) (hlt : ∀ p ∈ y.2, p.block < W.heap.size) (hbk : Rows.uptoBulk y.1 ≤ 1048576) :
    sn ≤ 1048576 ∧ ∀ i, i < sn → ∃ (g o : Nat) (k a b c : Int) (s t : ByteArray), sa = some ⟨g, o, none⟩ ∧ g < W.heap.size ∧ sn ≤ sc ∧ W.cell? ⟨g, o + i * 6, none⟩ = some (.int .i64 k) ∧ W.cell? ⟨g, o + i * 6 + 1, none⟩ = some (.int .i64 a) ∧ W.cell? ⟨g, o + i * 6 + 2, none⟩ = some (.int .i64 b) ∧ W.cell? ⟨g, o + i * 6 + 3, none⟩ = some (.int .i64 c) ∧ W.cell? ⟨g, o + i * 6 + 4, none⟩ = some (.string s) ∧ W.cell? ⟨g, o + i * 6 + 5, none⟩ = some (.string t) ∧ (-9223372036854775808 ≤ a ∧ a ≤ 9223372036854775807) ∧ s.size ≤ 140737488355328 := by
  rcases DataW.trod_slice Tryz.underlying26 h with ⟨hcs, _⟩ | ⟨a, len, cap, elems, rest, n, hfu, hcs, hy, _, hl, hm, hel, hei, _, _⟩
  · simp only [List.cons.injEq, and_true, Value.slice.injEq] at hcs
    obtain ⟨rfl, rfl, rfl⟩ := hcs
    exact ⟨by omega, fun i hi => by omega⟩
  · simp only [List.cons.injEq, and_true, Value.slice.injEq] at hcs
    obtain ⟨rfl, rfl, rfl⟩ := hcs
    rw [hy] at hbk hlt
    simp only [Rows.uptoBulk] at hbk
    have hlen : elems.length ≤ Rows.uptoBulkAll (elems.map (·.1)) := by
      have : ∀ l : List (DataW H), l.length ≤ Rows.uptoBulkAll l := fun l => by
        induction l with
        | nil => simp [Rows.uptoBulkAll]
        | cons x r ih => have := bulk_one x; simp only [Rows.uptoBulkAll, List.length_cons]; omega
      simpa using this (elems.map (·.1))
    refine ⟨by omega, fun i hi => ?_⟩
    rw [cells76] at hei
    have hie : i < elems.length := by omega
    have hpart : Rows.uptoBulk ((elems.map (·.1))[i]'(by simpa using hie)) ≤ Rows.uptoBulkAll (elems.map (·.1)) := bulk_part (by simpa using hie)
    have he := hei i hi
    rw [List.getElem?_eq_getElem hie] at he
    obtain ⟨cs, hcs, hst⟩ := Option.bind_eq_some_iff.1 he
    obtain ⟨xs, m, hm', hxy, hl6, hlen6, hf⟩ := DataW.trod_struct Tryz.underlying76 hst
    rw [cells76] at hl6
    obtain ⟨c0, c1, c2, c3, c4, c5, rfl⟩ : ∃ c0 c1 c2 c3 c4 c5, cs = [c0, c1, c2, c3, c4, c5] := by
      match cs, hl6 with
      | [c0, c1, c2, c3, c4, c5], _ => exact ⟨_, _, _, _, _, _, rfl⟩
    obtain ⟨y0, y1, y2, y3, y4, y5, rfl⟩ : ∃ c0 c1 c2 c3 c4 c5, xs = [c0, c1, c2, c3, c4, c5] := by
      match xs, hlen6 with
      | [c0, c1, c2, c3, c4, c5], _ => exact ⟨_, _, _, _, _, _, rfl⟩
    have f0 : DataW.trod enc Tryz.prog W 0 (fun _ => true) true m 3 (List.take (Tryz.prog.cellsOf 3) [c0, c1, c2, c3, c4, c5]) = some y0 := hf 0 _ rfl
    have f1 : DataW.trod enc Tryz.prog W 0 (fun _ => true) true m 3 (List.take (Tryz.prog.cellsOf 3) [c1, c2, c3, c4, c5]) = some y1 := hf 1 _ rfl
    have f2 : DataW.trod enc Tryz.prog W 0 (fun _ => true) true m 3 (List.take (Tryz.prog.cellsOf 3) [c2, c3, c4, c5]) = some y2 := hf 2 _ rfl
    have f3 : DataW.trod enc Tryz.prog W 0 (fun _ => true) true m 3 (List.take (Tryz.prog.cellsOf 3) [c3, c4, c5]) = some y3 := hf 3 _ rfl
    have f4 : DataW.trod enc Tryz.prog W 0 (fun _ => true) true m 9 (List.take (Tryz.prog.cellsOf 9) [c4, c5]) = some y4 := hf 4 _ rfl
    have f5 : DataW.trod enc Tryz.prog W 0 (fun _ => true) true m 9 (List.take (Tryz.prog.cellsOf 9) [c5]) = some y5 := hf 5 _ rfl
    rw [cells3'] at f0 f1 f2 f3
    rw [cells9'] at f4 f5
    obtain ⟨k, e0, _, _⟩ := DataW.trod_int Tryz.underlying3 f0
    obtain ⟨z, e1, _, hz⟩ := DataW.trod_int Tryz.underlying3 f1
    obtain ⟨z2, e2, _, _⟩ := DataW.trod_int Tryz.underlying3 f2
    obtain ⟨z3, e3, _, _⟩ := DataW.trod_int Tryz.underlying3 f3
    obtain ⟨s, e4, hs0, _⟩ := DataW.trod_string Tryz.underlying9 f4
    obtain ⟨t, e5, _, _⟩ := DataW.trod_string Tryz.underlying9 f5
    simp only [List.take_succ_cons, List.take_zero, List.cons.injEq, and_true] at e0 e1 e2 e3 e4 e5
    subst e0 e1 e2 e3 e4 e5
    have hbi : Rows.uptoBulk y4.1 ≤ Rows.uptoBulk ((elems.map (·.1))[i]'(by simpa using hie)) := by
      simp only [List.getElem_map, hxy, List.map_cons, List.map_nil, Rows.uptoBulk, Rows.uptoBulkAll]
      omega
    have hb4 : Rows.uptoBulk y4.1 = s.size + 1 := by rw [hs0, bulk_str, str_len]
    obtain ⟨b, off, spot⟩ := a
    have hcell : ∀ j u, ([.int .i64 k, .int .i64 z, .int .i64 z2, .int .i64 z3, .string s, .string t] : List Value)[j]? = some u → W.cell? ((⟨b, off, spot⟩ : Addr).add (i * 6 + j)) = some u := fun j u hu => by
      have h1 := (World.cells?_some hcs).2.2 j (by have := (List.getElem?_eq_some_iff.1 hu).1; simpa using this)
      rw [hu] at h1
      rw [← h1, Addr.add_add]
    have hspot : spot = none := by
      have h1 := World.cell?_spot (hcell 1 _ rfl)
      have h2 := World.cell?_spot (hcell 0 _ rfl)
      by_cases hi0 : i = 0
      · subst hi0
        simpa [Addr.add] using h2
      · have h00 : 0 < elems.length := by omega
        have he0 := hei 0 (by omega)
        rw [List.getElem?_eq_getElem h00] at he0
        obtain ⟨cs0, hcs0, _⟩ := Option.bind_eq_some_iff.1 he0
        have h3 := (World.cells?_some hcs0)
        have h4 := h3.2.2 0 (by omega)
        rw [Nat.zero_mul] at h4
        simp only [Addr.add, if_true] at h4
        have hl0 : 0 < cs0.length := by rw [h3.2.1]; omega
        rw [List.getElem?_eq_getElem hl0] at h4
        exact World.cell?_spot h4
    subst hspot
    refine ⟨b, off, k, z, z2, z3, s, t, rfl, ?_, hl, ?_, ?_, ?_, ?_, ?_, ?_, bounds_i64 hz, by omega⟩
    · have := hlt (MemPlace.cell b (off + 0)) (by rw [cells76]; exact List.mem_append_left _ (MemPlace.mem_row.2 ⟨0, by omega, rfl⟩))
      simpa [MemPlace.block] using this
    all_goals
      first
      | (have := hcell 0 _ rfl; rw [Addr.add_lit] at this; simpa [Nat.add_assoc] using this; done)
      | (have := hcell 1 _ rfl; rw [Addr.add_lit] at this; simpa [Nat.add_assoc] using this; done)
      | (have := hcell 2 _ rfl; rw [Addr.add_lit] at this; simpa [Nat.add_assoc] using this; done)
      | (have := hcell 3 _ rfl; rw [Addr.add_lit] at this; simpa [Nat.add_assoc] using this; done)
      | (have := hcell 4 _ rfl; rw [Addr.add_lit] at this; simpa [Nat.add_assoc] using this; done)
      | (have := hcell 5 _ rfl; rw [Addr.add_lit] at this; simpa [Nat.add_assoc] using this; done)
end Go.Proofs.YtlghcldiboecoaaGreatDoor
