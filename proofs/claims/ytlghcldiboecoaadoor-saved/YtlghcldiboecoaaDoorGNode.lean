/- A node out of the fields of a file of the first version: slices.Insert. -/
import Derived.Test.YtlghcldiboecoaaDoorGFields
import Derived.Shelf.Spec.SlicesInsert
import Derived.Lib.AppendZerosOnto
import Derived.Deep.Upon
set_option linter.unusedVariables false
namespace Go.Proofs.YtlghcldiboecoaaDoor
open Go.RowKit

/-- copy of elements of several cells. -/
theorem run_copy_many (w : World) (ty : TypeId) (b o dLen dCap : Nat) (a : Addr) (sLen sCap : Nat) (cs : List Value) (hn : cs.length = Nat.min sLen dLen * 3)
    (hsrc : ∀ j v, cs[j]? = some v → w.cell? (a.add j) = some v) (hc : ∀ j, j < cs.length → (w.cell? ⟨b, o + j, none⟩).isSome = true) (hf : ∀ j, j < cs.length → w.frozen? ⟨b, o + j, none⟩ = false) (h1 : ∀ v ∈ cs, v.oneCell' = true) :
    (Builtin.copy_ #[29, 29] ty #[.slice (some ⟨b, o, none⟩) dLen dCap, .slice (some a) sLen sCap]).run Tryd.prog w = .ok (goInt (Nat.min sLen dLen)) (w.setCells b o cs) := by
  have hl := run_firstCells_some (P := Tryd.prog) w 3 (Nat.min sLen dLen) a sLen sCap cs hn hsrc
  have hst := run_storeCells_cells (P := Tryd.prog) b o cs 0 w (by simpa using hc) (by simpa using hf) h1
  simp only [Nat.add_zero] at hst
  obtain ⟨i0, hi0, hz0, hz1, hz2⟩ := info_parts Tryd.info31
  simp [Builtin.copy_, run_underlying Tryd.underlying29, Builtin.lenOf, sizeOf, typeInfo, hi0, hz1, hl, hst]

theorem over_apart (w : World) (vb g lb cb : Nat) (hne : vb ≠ g) (cur : Array Value) (hcur : cur.size ≠ 0) (hv : w.heap[vb]? = some (.cells #[.int .i64 0, .string ⟨#[]⟩, .slice none 0 0] 31)) (hg : w.heap[g]? = some (.cells cur 31)) :
    (callFunc 69 #[.slice (some ⟨vb, 0, none⟩) 1 1, .slice (some ⟨g, 9, none⟩) lb cb]).run Tryd.prog w = .ok (.value (.bool false)) w := by
  rw [run_callFunc_extern Tryd.func69 (by kernel_rfl) (by kernel_rfl) (by kernel_rfl) (e := Extern.SlicesOverlaps.overlaps #[29, 29] #[4]) (by kernel_rfl),
    Lib.run_overlaps_apart w 29 4 31 Tryd.underlying29 3 Tryd.sizeOf31 ⟨vb, 0, none⟩ ⟨g, 9, none⟩ 1 1 lb cb hne 31 31 3 cur.size (by simp [World.shape?, hv]) (by simp [World.shape?, hg]) hcur (by simp [World.frozen?, hv]) (by simp [World.frozen?, hv])]
  rfl

def zs3 : List Value := [.int .i64 0, .string ⟨#[]⟩, .slice none 0 0]

theorem zs3_one : ∀ u ∈ zs3, u.oneCell' = true := one3 0 ⟨#[]⟩ (.slice none 0 0) rfl

theorem cell_row {w : World} {g : Nat} {cur : Array Value} {t : TypeId} (h : w.heap[g]? = some (.cells cur t)) (j : Nat) : w.cell? ⟨g, j, none⟩ = cur[j]? := by simp [World.cell?, h]

theorem ins_cells {W : World} {g : Nat} (cs : List Value) (h15 : cs.length = 15) (W1 W2 : World) (h0 : ∀ j, j < 18 → (W.cell? ⟨g, j, none⟩).isSome = true) (hcs : ∀ j u, cs[j]? = some u → W.cell? ⟨g, j, none⟩ = some u)
    (e1 : W1 = W.setCells g 9 (cs.drop 6)) (e2 : W2 = W1.setCells g 6 zs3) : ∀ j u, (cs.take 6 ++ zs3 ++ cs.drop 6)[j]? = some u → W2.cell? ⟨g, j, none⟩ = some u := by
  intro j u hu
  have hl6 : (cs.take 6).length = 6 := by rw [List.length_take]; omega
  have hl9 : (cs.drop 6).length = 9 := by rw [List.length_drop]; omega
  have hz : zs3.length = 3 := rfl
  have hs1 : ∀ k, k < 18 → (W1.cell? ⟨g, k, none⟩).isSome = true := fun k hk => by
    rw [e1]
    exact isSome_setCells g _ _ _ (fun i hi => h0 _ (by omega)) _ (h0 k hk)
  rcases Nat.lt_or_ge j 6 with hj | hj
  · rw [List.append_assoc, List.getElem?_append_left (by omega), List.getElem?_take, if_pos hj] at hu
    rw [e2, World.cell?_setCells_out g _ _ _ _ (fun _ _ => .inl (by show j < 6; omega)), e1, World.cell?_setCells_out g _ _ _ _ (fun _ _ => .inl (by show j < 9; omega))]
    exact hcs j u hu
  · rcases Nat.lt_or_ge j 9 with hj9 | hj9
    · rw [List.getElem?_append_left (by rw [List.length_append]; omega), List.getElem?_append_right (by omega), hl6] at hu
      have := World.cell?_setCells_in g zs3 6 W1 (fun i hi => hs1 _ (by omega)) (j - 6) (by omega)
      rw [show 6 + (j - 6) = j by omega] at this
      rw [e2, this, ← hu, List.getElem?_eq_getElem]
    · rw [List.getElem?_append_right (by rw [List.length_append]; omega), List.length_append, hl6, hz] at hu
      have hj18 : j - 9 < 9 := by have := (List.getElem?_eq_some_iff.1 hu).1; omega
      have := World.cell?_setCells_in g (cs.drop 6) 9 W (fun i hi => h0 _ (by omega)) (j - 9) (by omega)
      rw [show 9 + (j - 9) = j by omega] at this
      rw [e2, World.cell?_setCells_out g _ _ _ _ (fun _ _ => .inr (by show 6 + zs3.length ≤ j; omega)), e1, this, ← hu, List.getElem?_eq_getElem]

set_option maxRecDepth 8000 in
set_option maxHeartbeats 4000000 in
theorem insert_room (w : World) (g cap vb : Nat) (cur : Array Value) (cs : List Value) (hne : vb ≠ g) (h6 : 6 ≤ cap) (hcm : cap ≤ 9223372036854775807) (hcur : cur.size = cap * 3) (h15 : cs.length = 15) (hcs : ∀ j u, cs[j]? = some u → w.cell? ⟨g, j, none⟩ = some u) (h1 : ∀ u ∈ cs, u.oneCell' = true)
    (hv : w.heap[vb]? = some (.cells #[.int .i64 0, .string ⟨#[]⟩, .slice none 0 0] 31)) (hg : w.heap[g]? = some (.cells cur 31)) :
    Calls Tryd.prog 63 #[.slice (some ⟨g, 0, none⟩) 5 cap, .int .i64 2, .slice (some ⟨vb, 0, none⟩) 1 1] w fun e w' => e = .returned (.slice (some ⟨g, 0, none⟩) 6 cap) ∧ Below g w w' ∧ (∀ b, b < w.heap.size → b ≠ g → w'.heap[b]? = w.heap[b]?) ∧ ∀ j u, (cs.take 6 ++ zs3 ++ cs.drop 6)[j]? = some u → w'.cell? ⟨g, j, none⟩ = some u := by
  have hov := fun lb cb => over_apart w vb g lb cb hne cur (by omega) hv hg
  have h0 : ∀ j, j < 18 → (w.cell? ⟨g, j, none⟩).isSome = true := fun j hj => by rw [cell_row hg, Array.getElem?_eq_getElem (by omega)]; rfl
  have hf : ∀ j, w.frozen? ⟨g, j, none⟩ = false := fun j => by simp [World.frozen?, hg]
  have hl9 : (cs.drop 6).length = 9 := by rw [List.length_drop]; omega
  have hcp1 : ∀ ty dc sc, (Builtin.copy_ #[29, 29] ty #[.slice (some ⟨g, 9, none⟩) 3 dc, .slice (some ⟨g, 6, none⟩) 4 sc]).run Tryd.prog w.drew = .ok (goInt 3) (w.drew.setCells g 9 (cs.drop 6)) := fun ty dc sc =>
    run_copy_many w.drew ty g 9 3 dc ⟨g, 6, none⟩ 4 sc (cs.drop 6) hl9 (fun j u hj => by
      rw [Addr.add_lit]
      rw [List.getElem?_drop] at hj
      exact hcs _ _ hj) (fun j hj => h0 _ (by omega)) (fun j _ => hf _) (fun u hu => h1 u (List.mem_of_mem_drop hu))
  obtain ⟨W1, hW1⟩ : ∃ W1, W1 = w.drew.setCells g 9 (cs.drop 6) := ⟨_, rfl⟩
  have hW1v : W1.heap[vb]? = some (.cells #[.int .i64 0, .string ⟨#[]⟩, .slice none 0 0] 31) := by
    rw [hW1, World.heap_setCells_other _ _ _ _ (show vb < w.drew.heap.size from ltOf hv) hne]
    exact hv
  have hcp2 : ∀ (W : World), (∀ x, W.cell? x = W1.cell? x) → (∀ x, W.frozen? x = W1.frozen? x) → ∀ ty dc, (Builtin.copy_ #[29, 29] ty #[.slice (some ⟨g, 6, none⟩) 4 dc, .slice (some ⟨vb, 0, none⟩) 1 1]).run Tryd.prog W = .ok (goInt 1) (W.setCells g 6 zs3) := fun W hWc hWf ty dc =>
    run_copy_many W ty g 6 4 dc ⟨vb, 0, none⟩ 1 1 zs3 rfl (fun j u hj => by
      rw [Addr.add_lit, Nat.zero_add, hWc, cell_row hW1v, ← Array.getElem?_toList]
      exact hj) (fun j hj => by
      have hj' : j < 3 := hj
      rw [hWc, hW1]
      exact isSome_setCells g (cs.drop 6) 9 w.drew (fun i hi => h0 (9 + i) (by omega)) (6 + j) (h0 (6 + j) (by omega))) (fun j _ => by rw [hWf, hW1, World.frozen?_setCells]; exact hf _) zs3_one
  have HW1 := hide hW1
  have HFIN : Hid (∀ W2, W2 = W1.setCells g 6 zs3 → ∀ j u, (cs.take 6 ++ zs3 ++ cs.drop 6)[j]? = some u → W2.cell? ⟨g, j, none⟩ = some u) := fun W2 e2 => ins_cells cs h15 W1 W2 (W := w.drew) h0 hcs hW1 e2
  have HBE : Hid (Below g w W1) := by rw [hW1]; exact below_setCells (Nat.le_refl _) _ _ _ (Below.refl _ _).drew
  have HOTH : Hid (∀ b, b < w.heap.size → b ≠ g → (W1.setCells g 6 zs3).heap[b]? = w.heap[b]?) := fun b hb hbg => by
    rw [World.heap_setCells_other _ _ _ _ (by rw [hW1, setCells_size]; exact hb) hbg, hW1, World.heap_setCells_other _ _ _ _ (show b < w.drew.heap.size from hb) hbg]
    rfl
  rw [← hW1] at hcp1
  have hc2 : ¬ cap = 2 := by omega
  have hc3 : ¬ cap = 3 := by omega
  have hc5 : ¬ (cap : Int) < 6 := by omega
  have hc6 : (6 : Int) ≤ (cap : Int) := by omega
  have hn6 : 6 ≤ cap := by omega
  have hw3 : IntKind.i64.wrap 3 = 3 := by decide
  clear hW1 h0 hf hl9 hg hv hcs h1 h15 hW1v hcur
  go_enter Tryd.func63, Tryd.ntmps63
  go_wp2_with (simp only [hov])
  go_region_law (refine step_copy_runI rfl (.tmp 73) (.tmp 76) 29 29 rfl _ _ (by simp [Act.eval, Act.put]) (by simp [Act.eval, Act.put]) (hcp1 _ _ _) ?_)
  go_wp2_with (at_builtin; refine wpList_copy_runI _ rfl _ _ 29 29 rfl _ _ rfl rfl (hcp2 _ (fun _ => rfl) (fun _ => rfl) _ _) ?_)
  go_ret
  exact ⟨rfl, below_setCells (Nat.le_refl _) _ _ _ HBE.out, HOTH.out, HFIN.out _ rfl⟩

theorem ins_cells' {W : World} {g : Nat} (cs : List Value) (h15 : cs.length = 15) (W1 W2 : World) (h0 : ∀ j, j < 18 → (W.cell? ⟨g, j, none⟩).isSome = true) (hcs : ∀ j u, (cs.take 6)[j]? = some u → W.cell? ⟨g, j, none⟩ = some u)
    (e1 : ∀ x, W1.cell? x = (W.setCells g 6 zs3).cell? x) (e2 : W2 = W1.setCells g 9 (cs.drop 6)) : ∀ j u, (cs.take 6 ++ zs3 ++ cs.drop 6)[j]? = some u → W2.cell? ⟨g, j, none⟩ = some u := by
  intro j u hu
  have hl6 : (cs.take 6).length = 6 := by rw [List.length_take]; omega
  have hl9 : (cs.drop 6).length = 9 := by rw [List.length_drop]; omega
  have hz : zs3.length = 3 := rfl
  have hs1 : ∀ k, k < 18 → (W1.cell? ⟨g, k, none⟩).isSome = true := fun k hk => by
    rw [e1]
    exact isSome_setCells g _ _ _ (fun i hi => h0 _ (by omega)) _ (h0 k hk)
  rcases Nat.lt_or_ge j 6 with hj | hj
  · rw [List.append_assoc, List.getElem?_append_left (by omega)] at hu
    rw [e2, World.cell?_setCells_out g _ _ _ _ (fun _ _ => .inl (by show j < 9; omega)), e1, World.cell?_setCells_out g _ _ _ _ (fun _ _ => .inl (by show j < 6; omega))]
    exact hcs j u hu
  · rcases Nat.lt_or_ge j 9 with hj9 | hj9
    · rw [List.getElem?_append_left (by rw [List.length_append]; omega), List.getElem?_append_right (by omega), hl6] at hu
      have := World.cell?_setCells_in g zs3 6 W (fun i hi => h0 _ (by omega)) (j - 6) (by omega)
      rw [show 6 + (j - 6) = j by omega] at this
      rw [e2, World.cell?_setCells_out g _ _ _ _ (fun _ _ => .inl (by show j < 9; omega)), e1, this, ← hu, List.getElem?_eq_getElem]
    · rw [List.getElem?_append_right (by rw [List.length_append]; omega), List.length_append, hl6, hz] at hu
      have hj18 : j - 9 < 9 := by have := (List.getElem?_eq_some_iff.1 hu).1; omega
      have := World.cell?_setCells_in g (cs.drop 6) 9 W1 (fun i hi => hs1 _ (by omega)) (j - 9) (by omega)
      rw [show 9 + (j - 9) = j by omega] at this
      rw [e2, this, ← hu, List.getElem?_eq_getElem]

set_option maxRecDepth 8000 in
set_option maxHeartbeats 4000000 in
theorem insert_grow (w : World) (g vb : Nat) (cs : List Value) (h15 : cs.length = 15) (hcs : ∀ j u, cs[j]? = some u → w.cell? ⟨g, j, none⟩ = some u) (h1 : ∀ u ∈ cs, u.oneCell' = true)
    (hv : w.heap[vb]? = some (.cells #[.int .i64 0, .string ⟨#[]⟩, .slice none 0 0] 31)) (hgl : g < w.heap.size) :
    Calls Tryd.prog 63 #[.slice (some ⟨g, 0, none⟩) 5 5, .int .i64 2, .slice (some ⟨vb, 0, none⟩) 1 1] w fun e w' => (∃ cap, 6 ≤ cap ∧ e = .returned (.slice (some ⟨w.heap.size, 0, none⟩) 6 cap)) ∧ Below w.heap.size w w' ∧ ∀ j u, (cs.take 6 ++ zs3 ++ cs.drop 6)[j]? = some u → w'.cell? ⟨w.heap.size, j, none⟩ = some u := by
  obtain ⟨i0, hi0, hz0, hz1, hz2⟩ := info_parts Tryd.info31
  have hvw := ltOf hv
  have hl6 : (cs.take 6).length = 6 := by rw [List.length_take]; omega
  have hl9 : (cs.drop 6).length = 9 := by rw [List.length_drop]; omega
  have hold : (Builtin.firstCells i0.size 2 (.slice (some ⟨g, 0, none⟩) 2 5)).run Tryd.prog w.drew = .ok (cs.take 6).toArray w.drew := by
    rw [hz1]
    exact run_firstCells_some w.drew 3 2 ⟨g, 0, none⟩ 2 5 (cs.take 6) hl6 (fun j v hj => by
      rw [Addr.add_lit, Nat.zero_add]
      rw [List.getElem?_take] at hj
      split at hj
      · exact hcs j v hj
      · cases hj)
  obtain ⟨G, hG⟩ : ∃ G, G = grownCap w 6 5 31 := ⟨_, rfl⟩
  obtain ⟨ROW, hROW⟩ : ∃ ROW : Array Value, ROW = (cs.take 6).toArray ++ Builtin.zeroCells (vv 0 ⟨#[]⟩ (.slice none 0 0)).cells 4 ++ Builtin.zeroCells (vv 0 ⟨#[]⟩ (.slice none 0 0)).cells (G - 6) := ⟨_, rfl⟩
  have hrz : ∀ ty, (Builtin.append_ #[29, 3] ty #[.slice (some ⟨g, 0, none⟩) 2 5, .int .i64 4]).run Tryd.prog w = .ok (.slice (some ⟨w.heap.size, 0, none⟩) 6 G) (w.drew.alloc (.cells ROW 31)) := fun ty => by
    have h := Lib.run_append_grow_zeros w 29 3 ty 31 i0 _ .i64 .i64 Tryd.underlying29 Tryd.underlying3 hi0 hz0 (some ⟨g, 0, none⟩) 2 5 (cs.take 6) hold 4 (by omega) (by omega) (by omega) (by omega) (by rw [hz2]; omega) (by rw [hz2]; decide)
    rw [hROW, hG]
    exact h
  have hGn : 6 ≤ G := by rw [hG]; exact grownCap_ge w _ _ _
  have hRl : 18 ≤ ROW.size := by
    rw [hROW]
    simp [Builtin.zeroCells, Value.cells, hl6]
    omega
  have hR6 : ∀ j u, (cs.take 6)[j]? = some u → ROW[j]? = some u := fun j u hu => by
    have hj : j < 6 := by have := (List.getElem?_eq_some_iff.1 hu).1; omega
    rw [hROW, Array.append_assoc, Array.getElem?_append_left (by simp [hl6]; omega), List.getElem?_toArray]
    exact hu
  have hG63 : G ≤ 9223372036854775807 := by
    have := grownCap_le_maxLen w 6 5 31 (by unfold maxLen; omega)
    rw [← hG] at this
    unfold maxLen at this
    omega
  obtain ⟨W1, hW1⟩ : ∃ W1, W1 = w.drew.alloc (.cells ROW 31) := ⟨_, rfl⟩
  have hnew : W1.heap[w.heap.size]? = some (.cells ROW 31) := by rw [hW1]; exact heap_alloc_new w.drew _
  have h0 : ∀ j, j < 18 → (W1.cell? ⟨w.heap.size, j, none⟩).isSome = true := fun j hj => by rw [cell_row hnew, Array.getElem?_eq_getElem (by omega)]; rfl
  have hf : ∀ j, W1.frozen? ⟨w.heap.size, j, none⟩ = false := fun j => by simp [World.frozen?, hnew]
  have hbel : Below w.heap.size w W1 := by rw [hW1]; exact (Below.refl _ _).drew.alloc (Nat.le_refl _) _
  have hW1v := (hbel.block vb hvw).trans hv
  have hcpA : ∀ (W : World), (∀ x, W.cell? x = W1.cell? x) → (∀ x, W.frozen? x = W1.frozen? x) → ∀ ty dc, (Builtin.copy_ #[29, 29] ty #[.slice (some ⟨w.heap.size, 6, none⟩) 4 dc, .slice (some ⟨vb, 0, none⟩) 1 1]).run Tryd.prog W = .ok (goInt 1) (W.setCells w.heap.size 6 zs3) := fun W hWc hWf ty dc =>
    run_copy_many W ty w.heap.size 6 4 dc ⟨vb, 0, none⟩ 1 1 zs3 rfl (fun j u hj => by
      rw [Addr.add_lit, Nat.zero_add, hWc, cell_row hW1v, ← Array.getElem?_toList]
      exact hj) (fun j hj => by
      have hj' : j < 3 := hj
      rw [hWc]
      exact h0 _ (by omega)) (fun j _ => by rw [hWf]; exact hf _) zs3_one
  have hcpB : ∀ (W : World), (∀ x, W.cell? x = (W1.setCells w.heap.size 6 zs3).cell? x) → (∀ x, W.frozen? x = (W1.setCells w.heap.size 6 zs3).frozen? x) → ∀ ty dc sc, (Builtin.copy_ #[29, 29] ty #[.slice (some ⟨w.heap.size, 9, none⟩) 3 dc, .slice (some ⟨g, 6, none⟩) 3 sc]).run Tryd.prog W = .ok (goInt 3) (W.setCells w.heap.size 9 (cs.drop 6)) := fun W hWc hWf ty dc sc =>
    run_copy_many W ty w.heap.size 9 3 dc ⟨g, 6, none⟩ 3 sc (cs.drop 6) hl9 (fun j u hj => by
      rw [List.getElem?_drop] at hj
      rw [Addr.add_lit, hWc, World.cell?_setCells_out _ _ _ _ _ (fun h _ => absurd h (by show g ≠ w.heap.size; omega))]
      exact (hbel.cell (p := ⟨g, 6 + j, none⟩) hgl).trans (hcs _ _ hj)) (fun j hj => by
      rw [hWc]
      exact isSome_setCells _ zs3 6 W1 (fun i hi => h0 (6 + i) (by have : i < 3 := hi; omega)) (9 + j) (h0 (9 + j) (by omega))) (fun j _ => by rw [hWf, World.frozen?_setCells]; exact hf _) (fun u hu => h1 u (List.mem_of_mem_drop hu))
  have HFIN : Hid (∀ (X Y : World), (∀ x, X.cell? x = (W1.setCells w.heap.size 6 zs3).cell? x) → Y = X.setCells w.heap.size 9 (cs.drop 6) → ∀ j u, (cs.take 6 ++ zs3 ++ cs.drop 6)[j]? = some u → Y.cell? ⟨w.heap.size, j, none⟩ = some u) := fun X Y e1 e2 => ins_cells' cs h15 X Y (W := W1) h0 (fun j u hu => by rw [cell_row hnew]; exact hR6 j u hu) e1 e2
  have HBE := hide hbel
  have HW1 := hide hW1
  rw [← hW1] at hrz
  have hG2 : ¬ G = 2 := by omega
  have hG3 : ¬ G = 3 := by omega
  have hw3 : IntKind.i64.wrap 3 = 3 := by decide
  have HGN := hide hGn
  clear hW1 h0 hf hl9 hl6 hv hcs h1 h15 hW1v hold hROW hG hRl hR6 hnew hbel hi0 hz0 hz1 hz2 hvw
  go_enter Tryd.func63, Tryd.ntmps63
  go_wp2_with (first
    | (at_builtin; refine Lib.wpList_append_run _ rfl _ _ _ _ rfl _ _ rfl rfl _ _ (hrz _) ?_)
    | (at_builtin; refine wpList_copy_runI _ rfl _ _ 29 29 rfl _ _ rfl rfl (hcpA _ (fun _ => rfl) (fun _ => rfl) _ _) ?_))
  go_region_law (refine step_copy_runI rfl (.tmp 50) (.tmp 53) 29 29 rfl (.slice (some ⟨w.heap.size, 9, none⟩) 3 (G - 3)) (.slice (some ⟨g, 6, none⟩) 3 3) (by simp [Act.eval, Act.put]) (by simp [Act.eval, Act.put]) (hcpB (W1.setCells w.heap.size 6 zs3).drew (fun _ => rfl) (fun _ => rfl) _ _ _) ?_)
  go_wp2
  go_ret
  exact ⟨⟨G, HGN.out, rfl⟩, below_setCells (Nat.le_refl _) _ _ _ (below_setCells (Nat.le_refl _) _ _ _ HBE.out).drew, HFIN.out (W1.setCells w.heap.size 6 zs3).drew _ (fun _ => rfl) rfl⟩

/-- The cells of five fields, a field more put in behind the second. -/
theorem insert_5 (w : World) (B : Nat) (lv : Value) (ps : List (Orch.V × Value)) (h5 : ps.length = 5) (h1 : ∀ p, p ∈ ps → p.2.oneCell' = true) (ho : w.ownsRow B 31 3 lv ps.length (ps.flatMap vcell)) (vb : Nat) (hvb : ∀ g, lv.ownBlock = some g → vb ≠ g)
    (hv : w.heap[vb]? = some (.cells #[.int .i64 0, .string ⟨#[]⟩, .slice none 0 0] 31)) (hB : B ≤ w.heap.size) :
    Calls Tryd.prog 63 #[lv, .int .i64 2, .slice (some ⟨vb, 0, none⟩) 1 1] w fun e w' => (∃ g cap, 6 ≤ cap ∧ B ≤ g ∧ g < w'.heap.size ∧ (lv.ownBlock = some g ∨ w.heap.size ≤ g) ∧ (∀ b, b < w.heap.size → lv.ownBlock ≠ some b → w'.heap[b]? = w.heap[b]?) ∧ e = .returned (.slice (some ⟨g, 0, none⟩) 6 cap) ∧ ∀ j u, ((ps.flatMap vcell).take 6 ++ zs3 ++ (ps.flatMap vcell).drop 6)[j]? = some u → w'.cell? ⟨g, j, none⟩ = some u) ∧ Below B w w' := by
  have h15 : (ps.flatMap vcell).length = 15 := by rw [ho.1, h5]
  have hone : ∀ u ∈ ps.flatMap vcell, u.oneCell' = true := fun u hu => by
    obtain ⟨p, hp, hu⟩ := List.mem_flatMap.1 hu
    exact one3 p.1.n p.1.s p.2 (h1 p hp) u hu
  have ho' := ho
  rcases ho.2 with ⟨_, h0⟩ | ⟨g, cap, cur, rfl, hBg, hg, hn, hm, hs, ht⟩
  · omega
  · rw [h5] at hn ht ⊢
    have hcs : ∀ j u, (ps.flatMap vcell)[j]? = some u → w.cell? ⟨g, j, none⟩ = some u := fun j u hu => by
      rw [cell_row hg, ← Array.getElem?_toList]
      rw [← ht, List.getElem?_take] at hu
      split at hu
      · exact hu
      · cases hu
    unfold maxLen at hm
    by_cases h6 : 6 ≤ cap
    · refine (insert_room w g cap vb cur _ (hvb g rfl) h6 (by omega) hs h15 hcs hone hv hg).mono ?_
      rintro e w' ⟨rfl, hb, hoth, hc⟩
      exact ⟨⟨g, cap, h6, hBg, Nat.lt_of_lt_of_le (ltOf hg) hb.size, .inl rfl, fun b hb' hne => hoth b hb' (fun e => hne (by rw [e]; rfl)), rfl, hc⟩, hb.mono hBg⟩
    · obtain rfl : cap = 5 := by omega
      refine (insert_grow w g vb _ h15 hcs hone hv (ltOf hg)).mono ?_
      rintro e w' ⟨⟨cap, hc6, rfl⟩, hb, hc⟩
      have hlt : w.heap.size < w'.heap.size := by
        have h00 := hc 6 (.int .i64 0) (by rw [List.append_assoc, List.getElem?_append_right (by rw [List.length_take]; omega), List.length_take, h15]; rfl)
        rcases Nat.lt_or_ge w.heap.size w'.heap.size with h | h
        · exact h
        · rw [World.cell?] at h00
          simp [Array.getElem?_eq_none h] at h00
      exact ⟨⟨w.heap.size, cap, hc6, hB, hlt, .inr (Nat.le_refl _), fun b hb' _ => hb.block b hb', rfl, hc⟩, hb.mono hB⟩

set_option maxRecDepth 8000 in
set_option maxHeartbeats 4000000 in
theorem node_1 (w : World) (B : Nat) (n : Int) (s : ByteArray) (v : Orch.V) (lv : Value) (h5 : v.l.length = 5) (ho : OwnV B w v.l lv) (hB : B ≤ w.heap.size) :
    Calls Tryd.prog 52 #[.int .i64 1, vv n s lv] w fun e w' => e = .returned (ndv (nodeOf1 v).path (nodeOf1 v).data (nodeOf1 v).note (nodeOf1 v).made (nodeOf1 v).changed (nodeOf1 v).version) ∧ Below B w w' := by
  obtain ⟨ps, he, h1, hor⟩ := ho
  have hp5 : ps.length = 5 := by rw [← h5, ← he, List.length_map]
  obtain ⟨a0, a1, a2, a3, a4, rfl⟩ : ∃ a0 a1 a2 a3 a4, ps = [a0, a1, a2, a3, a4] := by
    match ps, hp5 with
    | [a0, a1, a2, a3, a4], _ => exact ⟨_, _, _, _, _, rfl⟩
  have hND : nodeOf1 v = ⟨a0.1.s, a1.1.s, ⟨#[]⟩, a2.1.n, a3.1.n, a4.1.n⟩ := by unfold nodeOf1; rw [← he]; rfl
  rw [hND]
  have HOWN := hide hor
  have H1 := hide h1
  obtain ⟨la, lc, rfl⟩ : ∃ a c, lv = .slice a 5 c := by
    rcases hor.2 with ⟨_, h⟩ | ⟨g, cap, cur, e, _⟩
    · cases h
    · exact ⟨_, _, e⟩
  have hlow : Hid (∀ g, (Value.slice la 5 lc).ownBlock = some g → B ≤ g ∧ g < w.heap.size) := fun g h => by
    rcases hor.2 with ⟨_, h'⟩ | ⟨g', cap, cur, e, hBg, hg, _⟩
    · cases h'
    · rw [e] at h
      simp only [Value.ownBlock, Option.some.injEq] at h
      subst h
      exact ⟨hBg, ltOf hg⟩
  simp only
  clear hor h1 he hp5 h5 hND
  obtain ⟨n0, n1⟩ := new2 w (.cells #[.int .i64 n, .string s, .slice la 5 lc] 31) (.cells #[.string ⟨#[]⟩, .string ⟨#[]⟩, .string ⟨#[]⟩, .int .i64 0, .int .i64 0, .int .i64 0] 69)
  have hb := below2 w (.cells #[.int .i64 n, .string s, .slice la 5 lc] 31) (.cells #[.string ⟨#[]⟩, .string ⟨#[]⟩, .string ⟨#[]⟩, .int .i64 0, .int .i64 0, .int .i64 0] 69)
  have HB := hide hb
  have N1 := hide n1
  clear hb n0 n1
  go_enter Tryd.func52, Tryd.ntmps52
  go_wp2_with (go_at_call 39; refine (hasNotes_any _ _).mono ?_; rintro e w1 ⟨rfl, rfl⟩)
  have hs1 : ((w.alloc (.cells #[.int .i64 n, .string s, .slice la 5 lc] 31)).alloc (.cells #[.string ⟨#[]⟩, .string ⟨#[]⟩, .string ⟨#[]⟩, .int .i64 0, .int .i64 0, .int .i64 0] 69)).heap.size = w.heap.size + 1 + 1 := by simp
  have hv3 := heap_alloc_new ((w.alloc (.cells #[.int .i64 n, .string s, .slice la 5 lc] 31)).alloc (.cells #[.string ⟨#[]⟩, .string ⟨#[]⟩, .string ⟨#[]⟩, .int .i64 0, .int .i64 0, .int .i64 0] 69)) (.cells #[.int .i64 0, .string ⟨#[]⟩, .slice none 0 0] 31)
  have hb3 := below1 ((w.alloc (.cells #[.int .i64 n, .string s, .slice la 5 lc] 31)).alloc (.cells #[.string ⟨#[]⟩, .string ⟨#[]⟩, .string ⟨#[]⟩, .int .i64 0, .int .i64 0, .int .i64 0] 69)) (.cells #[.int .i64 0, .string ⟨#[]⟩, .slice none 0 0] 31)
  rw [hs1] at hv3 hb3
  have HB3 : Hid (Below w.heap.size w _) := HB.out.trans (hb3.mono (by omega))
  have hN3 := (hb3.block (w.heap.size + 1) (by omega)).trans N1.out
  have hCALL := insert_5 _ B (.slice la 5 lc) [a0, a1, a2, a3, a4] rfl H1.out (ownsRow_below HOWN.out HB3.out) (w.heap.size + 1 + 1) (fun g h => by have := (hlow.out g h).2; omega) hv3 (Nat.le_trans hB HB3.out.size)
  refine hCALL.mono ?_
  rintro e w2 ⟨⟨g, cap, hc6, hBg, hgl, hgo, hoth, rfl, hcell⟩, hb2⟩
  have hsz3 : (((w.alloc (.cells #[.int .i64 n, .string s, .slice la 5 lc] 31)).alloc (.cells #[.string ⟨#[]⟩, .string ⟨#[]⟩, .string ⟨#[]⟩, .int .i64 0, .int .i64 0, .int .i64 0] 69)).alloc (.cells #[.int .i64 0, .string ⟨#[]⟩, .slice none 0 0] 31)).heap.size = w.heap.size + 1 + 1 + 1 := by simp
  have hne : ¬ g = w.heap.size + 1 := by
    rcases hgo with h | h
    · have := (hlow.out g h).2; omega
    · omega
  have hn1 : w2.heap[w.heap.size + 1]? = some (.cells #[.string ⟨#[]⟩, .string ⟨#[]⟩, .string ⟨#[]⟩, .int .i64 0, .int .i64 0, .int .i64 0] 69) := (hoth (w.heap.size + 1) (by omega) (fun h => by have := (hlow.out _ h).2; omega)).trans hN3
  have q0 := hcell 1 (.string a0.1.s) rfl
  have q1 := hcell 4 (.string a1.1.s) rfl
  have q2 := hcell 7 (.string ⟨#[]⟩) rfl
  have q3 := hcell 9 (.int .i64 a2.1.n) rfl
  have q4 := hcell 12 (.int .i64 a3.1.n) rfl
  have q5 := hcell 15 (.int .i64 a4.1.n) rfl
  have HBW : Hid (Below B w w2) := (HB3.out.mono hB).trans hb2
  have HG : Hid (B ≤ w.heap.size + 1) := by show _ ≤ _; omega
  have d0 := cellOf (j := 0) hn1 rfl
  have d1 := cellOf (j := 1) hn1 rfl
  have d2 := cellOf (j := 2) hn1 rfl
  have d3 := cellOf (j := 3) hn1 rfl
  have d4 := cellOf (j := 4) hn1 rfl
  have d5 := cellOf (j := 5) hn1 rfl
  have f0 := frozenOf (j := 0) hn1
  have f1 := frozenOf (j := 1) hn1
  have f2 := frozenOf (j := 2) hn1
  have f3 := frozenOf (j := 3) hn1
  have f4 := frozenOf (j := 4) hn1
  have f5 := frozenOf (j := 5) hn1
  clear hcell hoth hb2 hgo hgl hBg hCALL hN3 HB3 hb3 hv3 hs1 hsz3 N1 HB HOWN H1 hlow hn1
  go_wp2_with fail
  generalize w.heap.size + 1 = G at *
  go_region
  all_goals go_wp2
  all_goals exact bodyPost_ret (v := ndv a0.1.s a1.1.s ⟨#[]⟩ a2.1.n a3.1.n a4.1.n) (by simp [results, Tryd.results52, go_sem, d0, d1, d2, d3, d4, d5]) rfl ⟨rfl, ((((((HBW.out.setCell (p := ⟨G, 0, none⟩) HG.out _).setCell (p := ⟨G, 1, none⟩) HG.out _).setCell (p := ⟨G, 2, none⟩) HG.out _).setCell (p := ⟨G, 3, none⟩) HG.out _).setCell (p := ⟨G, 4, none⟩) HG.out _).setCell (p := ⟨G, 5, none⟩) HG.out _).drew⟩
end Go.Proofs.YtlghcldiboecoaaDoor
