/- The argument of Spoilt: nodes of whatever make. -/
import Derived.Test.YtlghcldiboecoaaDoorFSpoiltW
import Derived.Lib.SmallJoins
import Derived.Deep.Strs
import Derived.WideKeyArgs
import Derived.OpenShut
set_option linter.unusedVariables false
namespace Go.Proofs.YtlghcldiboecoaaDoor
open Go.ChangeShapes Go.WideShapes Go.ChangeAt Go.RowKit

def InR (x : Orch.Node) : Prop := x.data.size ≤ 9223372036854775807 ∧ x.note.size ≤ 9223372036854775807 ∧ (-9223372036854775808 ≤ x.made ∧ x.made ≤ 9223372036854775807) ∧ (-9223372036854775808 ≤ x.changed ∧ x.changed ≤ 9223372036854775807) ∧ (-9223372036854775808 ≤ x.version ∧ x.version ≤ 9223372036854775807)

theorem cells69 : Tryd.prog.cellsOf 69 = 6 := by kernel_rfl
theorem cells3' : Tryd.prog.cellsOf 3 = 1 := by kernel_rfl
theorem cells9' : Tryd.prog.cellsOf 9 = 1 := by kernel_rfl

set_option maxRecDepth 8000 in
theorem node_at {H : Type} {enc : TypeId × Value → H} {W : World} {base n : Nat} {spare : Nat → Bool} {held : Bool} {cs : List Value} {y : DataW H × List MemPlace} (h : DataW.trod enc Tryd.prog W base spare held n 69 cs = some y) : ∃ x : Orch.Node, cs = ncell x ∧ InR x := by
  obtain ⟨xs, n, _, _, hl, hlen, hf⟩ := DataW.trod_struct Tryd.underlying69 h
  rw [cells69] at hl
  obtain ⟨c0, c1, c2, c3, c4, c5, rfl⟩ : ∃ c0 c1 c2 c3 c4 c5, cs = [c0, c1, c2, c3, c4, c5] := by
    match cs, hl with
    | [c0, c1, c2, c3, c4, c5], _ => exact ⟨_, _, _, _, _, _, rfl⟩
  obtain ⟨y0, y1, y2, y3, y4, y5, rfl⟩ : ∃ c0 c1 c2 c3 c4 c5, xs = [c0, c1, c2, c3, c4, c5] := by
    match xs, hlen with
    | [c0, c1, c2, c3, c4, c5], _ => exact ⟨_, _, _, _, _, _, rfl⟩
  have f0 : DataW.trod enc Tryd.prog W base spare held n 9 (List.take (Tryd.prog.cellsOf 9) [c0, c1, c2, c3, c4, c5]) = some y0 := hf 0 _ rfl
  have f1 : DataW.trod enc Tryd.prog W base spare held n 9 (List.take (Tryd.prog.cellsOf 9) [c1, c2, c3, c4, c5]) = some y1 := hf 1 _ rfl
  have f2 : DataW.trod enc Tryd.prog W base spare held n 9 (List.take (Tryd.prog.cellsOf 9) [c2, c3, c4, c5]) = some y2 := hf 2 _ rfl
  have f3 : DataW.trod enc Tryd.prog W base spare held n 3 (List.take (Tryd.prog.cellsOf 3) [c3, c4, c5]) = some y3 := hf 3 _ rfl
  have f4 : DataW.trod enc Tryd.prog W base spare held n 3 (List.take (Tryd.prog.cellsOf 3) [c4, c5]) = some y4 := hf 4 _ rfl
  have f5 : DataW.trod enc Tryd.prog W base spare held n 3 (List.take (Tryd.prog.cellsOf 3) [c5]) = some y5 := hf 5 _ rfl
  rw [cells9'] at f0 f1 f2
  rw [cells3'] at f3 f4 f5
  obtain ⟨p, e0, _, hp⟩ := DataW.trod_string Tryd.underlying9 f0
  obtain ⟨d, e1, _, hd⟩ := DataW.trod_string Tryd.underlying9 f1
  obtain ⟨t, e2, _, ht⟩ := DataW.trod_string Tryd.underlying9 f2
  obtain ⟨m, e3, _, hm⟩ := DataW.trod_int Tryd.underlying3 f3
  obtain ⟨c, e4, _, hc⟩ := DataW.trod_int Tryd.underlying3 f4
  obtain ⟨v, e5, _, hv⟩ := DataW.trod_int Tryd.underlying3 f5
  simp only [List.take_succ_cons, List.take_zero, List.cons.injEq, and_true] at e0 e1 e2 e3 e4 e5
  subst e0 e1 e2 e3 e4 e5
  unfold maxLen at hd ht
  exact ⟨⟨p, d, t, m, c, v⟩, rfl, by show _ ≤ _; omega, by show _ ≤ _; omega, bounds_i64 hm, bounds_i64 hc, bounds_i64 hv⟩

instance : Inhabited Orch.Node := ⟨root⟩

set_option maxRecDepth 8000 in
theorem nodes_at {H : Type} {enc : TypeId × Value → H} {W : World} {n : Nat} {v : Value} {y : DataW H × List MemPlace} (h : DataW.trod enc Tryd.prog W 0 (fun _ => true) true n 44 [v] = some y) (hlt : ∀ p ∈ y.2, p.block < W.heap.size) :
    ∃ raw : List Orch.Node, Raw W v raw ∧ raw.length ≤ 9223372036854775807 ∧ ∀ x, x ∈ raw → InR x := by
  rcases Go.Deep.open_slice Tryd.underlying44 h with ⟨hcs, _⟩ | ⟨a, len, cap, m, k, D, Pl, hcs, _, hl, hm, hmm, hx, he⟩
  · simp only [List.cons.injEq, and_true] at hcs
    exact ⟨[], .inl ⟨rfl, none, 0, hcs⟩, by simp, by simp⟩
  · simp only [List.cons.injEq, and_true] at hcs
    subst hcs
    simp only [if_true] at hmm
    subst hmm
    rcases Nat.eq_zero_or_pos len with h0 | h0
    · subst h0
      exact ⟨[], .inl ⟨rfl, _, _, rfl⟩, by simp, by simp⟩
    · have hn : ∀ i, i < m → ∃ x : Orch.Node, W.cells? 0 (a.add (i * 6)) 6 = some (ncell x) ∧ InR x := fun i hi => by
        obtain ⟨cs, h1, h2⟩ := he i hi
        obtain ⟨x, rfl, hx⟩ := node_at h2
        rw [cells69] at h1
        exact ⟨x, h1, hx⟩
      obtain ⟨f, hf⟩ := Go.Deep.choose_lt hn
      obtain ⟨b, off, spot⟩ := a
      have hcell : ∀ i, i < m → ∀ j u, (ncell (f i))[j]? = some u → W.cell? ((⟨b, off, spot⟩ : Addr).add (i * 6 + j)) = some u := fun i hi j u hu => by
        have h1 := (World.cells?_some (hf i hi).1).2.2 j (by have := (List.getElem?_eq_some_iff.1 hu).1; simpa [ncell] using this)
        rw [hu] at h1
        rw [← h1, Addr.add_add]
      have hspot : spot = none := by simpa [Addr.add] using World.cell?_spot (hcell 0 (by omega) 0 _ rfl)
      subst hspot
      refine ⟨(List.range len).map f, .inr ⟨b, off, m, by simp, by simpa using hl, ?_, fun i hi j u hu => ?_⟩, by simp; unfold maxLen at hm; omega, fun x hx => ?_⟩
      · have := hlt (MemPlace.cell b (off + 0)) (by rw [hx, cells69]; exact List.mem_append_left _ (MemPlace.mem_row.2 ⟨0, by omega, rfl⟩))
        simpa [MemPlace.block] using this
      · simp only [List.length_map, List.length_range] at hi
        simp only [List.getElem_map, List.getElem_range] at hu
        have := hcell i (by omega) j u hu
        rw [Addr.add_lit] at this
        rw [Nat.add_assoc]
        exact this
      · obtain ⟨i, hi, rfl⟩ := List.mem_map.1 hx
        exact (hf i (by have := List.mem_range.1 hi; omega)).2
end Go.Proofs.YtlghcldiboecoaaDoor
