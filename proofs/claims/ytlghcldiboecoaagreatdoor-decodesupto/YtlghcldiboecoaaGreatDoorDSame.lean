/- The same value? -/
import Derived.Test.YtlghcldiboecoaaGreatDoorKCode
import Derived.Lib.BufferWrite
import Derived.Deep.WholeRow
set_option linter.unusedVariables false
namespace Go.Proofs.YtlghcldiboecoaaGreatDoor
open Go.RowKit

/-- Two readings of one value are the same. -/
def SameSaid (w0 : World) (S : Nat → Prop) (vs : List Orch.V) (l1 : Value) : Prop :=
  vs.length ≤ 140737488351232 → (∀ x, x ∈ vs → InV x) → ∀ (W : World) (l2 : Value) (n : Int) (s : ByteArray), (∀ b, S b → b < W.heap.size ∧ W.heap[b]? = w0.heap[b]?) → VsAt W (fun b => b < W.heap.size) vs l2 →
  Calls Tryz.prog 90 #[vv n s l1, vv n s l2] W fun e w' => e = .returned (.bool true) ∧ Below W.heap.size W w'

set_option maxRecDepth 8000 in
set_option maxHeartbeats 2000000 in
theorem same_step (w : World) (n : Int) (s : ByteArray) (a1 a2 : Option Addr) (m c1 c2 : Nat) (hm : m ≤ 9223372036854775806)
    (HE : Hid (∀ i, i < m → ∃ (g1 g2 : Nat) (x : Orch.V) (xa ya : Option Addr) (xm ym xc yc : Nat), a1 = some ⟨g1, 0, none⟩ ∧ a2 = some ⟨g2, 0, none⟩ ∧ m ≤ c1 ∧ m ≤ c2 ∧ g1 < w.heap.size ∧ g2 < w.heap.size ∧
      (w.cell? ⟨g1, i * 3, none⟩ = some (.int .i64 x.n) ∧ w.cell? ⟨g1, i * 3 + 1, none⟩ = some (.string x.s) ∧ w.cell? ⟨g1, i * 3 + 2, none⟩ = some (.slice xa xm xc)) ∧
      (w.cell? ⟨g2, i * 3, none⟩ = some (.int .i64 x.n) ∧ w.cell? ⟨g2, i * 3 + 1, none⟩ = some (.string x.s) ∧ w.cell? ⟨g2, i * 3 + 2, none⟩ = some (.slice ya ym yc)) ∧
      ∀ W, Below w.heap.size w W → Calls Tryz.prog 90 #[vv x.n x.s (.slice xa xm xc), vv x.n x.s (.slice ya ym yc)] W fun e w' => e = .returned (.bool true) ∧ Below W.heap.size W w')) :
    Calls Tryz.prog 90 #[vv n s (.slice a1 m c1), vv n s (.slice a2 m c2)] w fun e w' => e = .returned (.bool true) ∧ Below w.heap.size w w' := by
  obtain ⟨n0, n1⟩ := new2 w (.cells #[.int .i64 n, .string s, .slice a1 m c1] 113) (.cells #[.int .i64 n, .string s, .slice a2 m c2] 113)
  have p0 := cellOf (j := 0) n0 rfl
  have p1 := cellOf (j := 1) n0 rfl
  have p2 := cellOf (j := 2) n0 rfl
  have q0 := cellOf (j := 0) n1 rfl
  have q1 := cellOf (j := 1) n1 rfl
  have q2 := cellOf (j := 2) n1 rfl
  have HN0 := hid n0
  have HN1 := hid n1
  have HB0 := hid (below2 w (.cells #[.int .i64 n, .string s, .slice a1 m c1] 113) (.cells #[.int .i64 n, .string s, .slice a2 m c2] 113))
  clear n0 n1
  go_enter Tryz.func90, Tryz.ntmps90
  go_wp2
  clear p0 p1 p2 q0 q1 q2
  generalize (w.alloc (.cells #[.int .i64 n, .string s, .slice a1 m c1] 113)).alloc (.cells #[.int .i64 n, .string s, .slice a2 m c2] 113) = W0 at *
  have HS0 : Hid (w.heap.size ≤ W0.heap.size) := HB0.out.size
  go_loopw [5] (fun k wr => ∃ i : Nat, k = .int .i64 i ∧ i ≤ m ∧ Hid (Below W0.heap.size W0 wr)) (fun k _ => m - (intOf k).toNat)
  case atStart => exact ⟨0, rfl, by omega, Below.refl _ _⟩
  case round =>
    obtain ⟨i, rfl, hi, HB⟩ := hrel
    have h0 := (HB.out.block _ (ltOf HN0.out)).trans HN0.out
    have h1 := (HB.out.block _ (ltOf HN1.out)).trans HN1.out
    have p2 := cellOf (j := 2) h0 rfl
    have q2 := cellOf (j := 2) h1 rfl
    have HLW : Hid (Below w.heap.size w wr) := HB0.out.trans (HB.out.mono HB0.out.size)
    clear h0 h1
    by_cases hlt : i < m
    · have hltz : (i : Int) < (m : Int) := by omega
      obtain ⟨g1, g2, x, xa, ya, xm, ym, xc, yc, e1, e2, hc1, hc2, hg1, hg2, ⟨u0, u1, u2⟩, ⟨v0, v1, v2⟩, hcall⟩ := HE.out i hlt
      subst e1 e2
      have r0 := (HLW.out.cell (p := ⟨g1, i * 3, none⟩) hg1).trans u0
      have r1 := (HLW.out.cell (p := ⟨g1, i * 3 + 1, none⟩) hg1).trans u1
      have r2 := (HLW.out.cell (p := ⟨g1, i * 3 + 2, none⟩) hg1).trans u2
      have s0 := (HLW.out.cell (p := ⟨g2, i * 3, none⟩) hg2).trans v0
      have s1 := (HLW.out.cell (p := ⟨g2, i * 3 + 1, none⟩) hg2).trans v1
      have s2 := (HLW.out.cell (p := ⟨g2, i * 3 + 2, none⟩) hg2).trans v2
      have HC := hid (fun (W : World) (hb : Below wr.heap.size wr W) => hcall W (HLW.out.trans (hb.mono HLW.out.size)))
      clear u0 u1 u2 v0 v1 v2 hcall
      go_wp2
      go_region_with (go_at_call 90; refine (HC.out _ (by first | exact Below.refl _ _ | exact below_drew' wr)).mono ?_; rintro e w1 ⟨rfl, hb⟩; have HB1 : Hid (Below W0.heap.size W0 w1) := (by first | exact HB.out.trans (hb.mono HB.out.size) | exact HB.out.trans (((below_drew' wr).trans hb).mono HB.out.size)); clear hb)
      all_goals go_wp2
      all_goals go_roundw
      all_goals try (case rel => exact ⟨i + 1, by go_num, by omega, HB1⟩)
      all_goals try (case measure => simp [intOf]; omega)
    · have hltz : ¬ (i : Int) < (m : Int) := by omega
      go_wp2
      all_goals go_ret
      all_goals exact ⟨rfl, HLW.out⟩

theorem InV.len {v : Orch.V} (h : InV v) : v.l.length ≤ 140737488351232 ∧ ∀ x, x ∈ v.l → InV x := by
  cases h with
  | mk n s l hn hs hl he => exact ⟨hl, he⟩

theorem same_any {w0 : World} {S : Nat → Prop} {vs : List Orch.V} {l1 : Value} (h : VsAt w0 S vs l1) : SameSaid w0 S vs l1 := by
  induction h with
  | nil a c =>
    intro _ _ W l2 n s _ h2
    obtain ⟨a2, c2, rfl⟩ := h2.shape
    exact same_step W n s a a2 0 c c2 (by omega) (fun i hi => by omega)
  | row ps g cap h0 hcap hS hc hr ih =>
    intro hlen hin W l2 n s hsame h2
    rw [List.length_map] at hlen
    obtain ⟨ex, hex⟩ := h2.fam
    obtain ⟨a2, c2, hl2⟩ := h2.shape
    rw [List.length_map] at hl2
    subst hl2
    refine same_step W n s (some ⟨g, 0, none⟩) a2 ps.length cap c2 (by omega) (fun i hi => ?_)
    have him : i < (ps.map Prod.fst).length := by simpa using hi
    obtain ⟨g2, cap2, hl, hle, hg2, hv2, hc2⟩ := hex i him
    simp only [List.length_map, Value.slice.injEq] at hl hle
    obtain ⟨xa, xc, hx⟩ := (hr ps[i] (List.getElem_mem hi)).shape
    obtain ⟨ya, yc, hy⟩ := hv2.shape
    have hgm : (ps.map Prod.fst)[i] = ps[i].1 := by simp
    rw [hgm] at hv2 hc2 hy
    have hcell : ∀ j u, (vcell ps[i])[j]? = some u → W.cell? ⟨g, i * 3 + j, none⟩ = some u := fun j u hj => by
      refine (World.cell?_of_block (w := w0) (a := ⟨g, i * 3 + j, none⟩) (hsame g hS).2).trans (hc _ u ?_)
      have hj3 : j < 3 := by have := (List.getElem?_eq_some_iff.1 hj).1; rwa [vcell_len] at this
      rw [flat_get vcell 3 vcell_len ps i j hj3, List.getElem?_eq_getElem hi, Option.bind_some]
      exact hj
    have hiv := (hin ps[i].1 (List.mem_map.2 ⟨_, List.getElem_mem hi, rfl⟩)).len
    refine ⟨g, g2, ps[i].1, xa, ya, _, _, xc, yc, rfl, hl.1, hcap, by rw [hl.2.2]; exact hle, (hsame g hS).1, hg2, ⟨hcell 0 _ rfl, hcell 1 _ rfl, by rw [← hx]; exact hcell 2 _ rfl⟩, ⟨hc2 0 _ rfl, hc2 1 _ rfl, by rw [← hy]; exact hc2 2 _ rfl⟩, fun W1 hb => ?_⟩
    rw [← hx, ← hy]
    exact ih ps[i] (List.getElem_mem hi) hiv.1 hiv.2 W1 _ _ _ (fun b hb' => ⟨Nat.lt_of_lt_of_le (hsame b hb').1 hb.size, (hb.block b (hsame b hb').1).trans (hsame b hb').2⟩) (hv2.congr (fun b hb' => Nat.lt_of_lt_of_le hb' hb.size) (fun b hb' => hb.block b hb'))
end Go.Proofs.YtlghcldiboecoaaGreatDoor

/- The caller's loans of bytes. -/
set_option linter.unusedVariables false
namespace Go.Proofs.YtlghcldiboecoaaGreatDoor
open Go.RowKit

/-- Bytes that are lent: theirs, k places of room that are written, the others. -/
def lb (s : ByteArray) (k : Nat) : List Value := bcells s.data.toList ++ (List.replicate k (Value.int .u8 77) ++ List.replicate (3 - k) (Value.int .u8 0))

theorem bcells_size (s : ByteArray) : (bcells s.data.toList).length = s.size := by rw [bcells_len, Array.length_toList]; rfl

theorem lb_step (s : ByteArray) (k : Nat) (hk : k < 3) : (lb s k).toArray.setIfInBounds (s.size + k) (.int .u8 77) = (lb s (k + 1)).toArray := by
  rw [List.setIfInBounds_toArray]
  congr 1
  unfold lb
  rw [List.set_append_right _ _ (by rw [bcells_size]; omega), bcells_size, show s.size + k - s.size = k by omega]
  congr 1
  rcases (show k = 0 ∨ k = 1 ∨ k = 2 by omega) with rfl | rfl | rfl <;> rfl

theorem lb_get (s : ByteArray) (k j : Nat) (hj : j < 3) : ∃ z, (lb s k).toArray[s.size + j]? = some z ∨ 3 < k := by
  by_cases hk : 3 < k
  · exact ⟨.int .u8 0, .inr hk⟩
  · have hlen : s.size + j < (lb s k).length := by unfold lb; simp [bcells_size]; omega
    exact ⟨(lb s k)[s.size + j], .inl (by rw [List.getElem?_toArray, List.getElem?_eq_getElem hlen])⟩

set_option maxRecDepth 8000 in
set_option maxHeartbeats 2000000 in
theorem lentBytes_any (w : World) (s : ByteArray) (hs : s.size ≤ 4000000) :
    Calls Tryz.prog 87 #[.string s] w fun e w' => e = .returned (.slice (some ⟨w.heap.size, 0, none⟩) s.size (s.size + 3)) ∧ w'.heap[w.heap.size]? = some (.cells (lb s 3).toArray 5) ∧ Below w.heap.size w w' := by
  obtain ⟨i0, hi0, hz0, hz1, hz2⟩ := info_parts Tryz.info5
  have hmk := run_make (P := Tryz.prog) w 57 5 i0 _ Tryz.underlying57 hi0 hz0 .i64 .i64 ((s.size : Int) + 3) ((s.size : Int) + 3) (by omega) (by omega) (by rw [hz2]; omega) (by omega)
  rw [show ((s.size : Int) + 3).toNat = s.size + 3 by omega, hz1, Nat.mul_one] at hmk
  have hn := heap_alloc_new w (.cells (madeCells #[Value.int .u8 0] (s.size + 3)) 5)
  have hcp := Lib.run_copy_row_string (P := Tryz.prog) (w.alloc (.cells (madeCells #[Value.int .u8 0] (s.size + 3)) 5)) 57 9 3 5 w.heap.size 0 (s.size + 3) (s.size + 3) s _ 5 Tryz.underlying57 (by rw [hi0]; simp [hz1]) hn (by omega) (by rw [size_madeCells]; omega)
  have e1 : (List.take 0 (madeCells #[Value.int .u8 0] (s.size + 3)).toList ++ Lib.byteCells s.data.toList ++ List.drop (0 + s.size) (madeCells #[Value.int .u8 0] (s.size + 3)).toList).toArray = (lb s 0).toArray := by
    congr 1
    rw [toList_madeCells_one, List.drop_replicate, show s.size + 3 - (0 + s.size) = 3 by omega]
    rfl
  rw [e1] at hcp
  rw [World.setRow_alloc_new] at hcp
  have HR := hid (heap_alloc_new w (.cells (lb s 0).toArray 5))
  have HB := hid (below1 w (.cells (lb s 0).toArray 5))
  clear e1 hn
  go_enter Tryz.func87, Tryz.ntmps87
  go_wp2
  clear hmk hcp
  generalize w.alloc (.cells (lb s 0).toArray 5) = W0 at *
  go_loopw [5] (fun k wr => ∃ i : Nat, k = .int .i64 ((s.size : Int) + i) ∧ i ≤ 3 ∧ Hid (wr.heap[w.heap.size]? = some (.cells (lb s i).toArray 5)) ∧ Hid (Below w.heap.size w wr)) (fun k _ => s.size + 3 - (intOf k).toNat)
  case atStart => exact ⟨0, by simp, by omega, HR, HB⟩
  case round =>
    obtain ⟨i, rfl, hi, HR, HB⟩ := hrel
    by_cases hlt : i < 3
    · have hltz : (s.size : Int) + (i : Int) < (s.size : Int) + 3 := by omega
      obtain ⟨z, hz | hz⟩ := lb_get s i i hlt
      · have c0 := cellOf HR.out hz
        have z0 := frozen_of_row wr w.heap.size (s.size + i) _ 5 HR.out
        have HR2 : Hid ((wr.setCell ⟨w.heap.size, s.size + i, none⟩ (.int .u8 77)).heap[w.heap.size]? = some (.cells (lb s (i + 1)).toArray 5)) := by
          have h := heap_setCell_same wr w.heap.size (s.size + i) _ 5 (.int .u8 77) HR.out
          rw [lb_step s i hlt] at h
          exact h
        have HB2 : Hid (Below w.heap.size w (wr.setCell ⟨w.heap.size, s.size + i, none⟩ (.int .u8 77))) := HB.out.trans (below_setX (Nat.le_refl _))
        have hix : ((s.size : Int) + (i : Int)).toNat = s.size + i := by omega
        go_wp2
        all_goals go_roundw
        all_goals try (case rel => exact ⟨i + 1, by go_num, by omega, HR2, HB2⟩)
        all_goals try (case measure => simp [intOf]; omega)
      · omega
    · have hltz : ¬ (s.size : Int) + (i : Int) < (s.size : Int) + 3 := by omega
      have hie : i = 3 := by omega
      subst hie
      go_wp2
      all_goals go_ret
      all_goals exact ⟨rfl, HR.out, HB.out⟩

/-- Bytes that were lent, the first i of them written over. -/
def wb (s : ByteArray) (i : Nat) : List Value := List.replicate i (Value.int .u8 200) ++ (lb s 3).drop i

theorem lb_len (s : ByteArray) : (lb s 3).length = s.size + 3 := by unfold lb; simp [bcells_size]

theorem wb_step (s : ByteArray) (i : Nat) (hi : i < s.size + 3) : (wb s i).toArray.setIfInBounds i (.int .u8 200) = (wb s (i + 1)).toArray := by
  rw [List.setIfInBounds_toArray]
  congr 1
  unfold wb
  have hl : i < (lb s 3).length := by rw [lb_len]; exact hi
  rw [List.set_append_right _ _ (by simp), List.length_replicate, Nat.sub_self, List.drop_eq_getElem_cons hl, List.set_cons_zero, show List.replicate (i + 1) (Value.int .u8 200) = List.replicate i (Value.int .u8 200) ++ [Value.int .u8 200] from List.replicate_succ', List.append_assoc]
  rfl

theorem wb_get (s : ByteArray) (i : Nat) (hi : i < s.size + 3) : ∃ z : UInt8, (wb s i).toArray[i]? = some (.int .u8 z.toNat) ∧ (s.size ≤ i → z = 77) := by
  have hl : i < (lb s 3).length := by rw [lb_len]; exact hi
  have h0 : (wb s i).toArray[i]? = (lb s 3)[i]? := by
    rw [List.getElem?_toArray, wb, List.getElem?_append_right (by simp), List.length_replicate, Nat.sub_self, List.getElem?_drop, Nat.add_zero]
  rw [h0]
  by_cases hs : i < s.size
  · have hb : i < s.data.toList.length := by rw [Array.length_toList]; exact hs
    refine ⟨s.data.toList[i], ?_, fun h => by omega⟩
    rw [lb, List.getElem?_append_left (by rw [bcells_size]; exact hs), bcells, List.getElem?_map, List.getElem?_eq_getElem hb]
    rfl
  · refine ⟨77, ?_, fun _ => rfl⟩
    rw [lb, List.getElem?_append_right (by rw [bcells_size]; omega), bcells_size]
    rcases (show i - s.size = 0 ∨ i - s.size = 1 ∨ i - s.size = 2 by omega) with h | h | h <;> rw [h] <;> rfl

theorem lent_own (s : ByteArray) {W : World} {g : Nat} (hg : W.heap[g]? = some (.cells (lb s 3).toArray 5)) (hs : s.size ≤ 4000000) : W.ownsRow 0 5 1 (.slice (some ⟨g, 0, none⟩) s.size (s.size + 3)) s.data.toList.length (bcells s.data.toList) := by
  refine ⟨by rw [bcells_len, Nat.mul_one], .inr ⟨g, s.size + 3, (lb s 3).toArray, by rw [Array.length_toList]; rfl, Nat.zero_le _, hg, by rw [Array.length_toList]; show s.size ≤ _; omega, by unfold maxLen; omega, ?_, ?_⟩⟩
  · rw [List.size_toArray, lb_len, Nat.mul_one]
  · show List.take _ (lb s 3) = _
    rw [lb, Nat.mul_one, ← bcells_len, List.take_left]

set_option maxRecDepth 8000 in
set_option maxHeartbeats 2000000 in
theorem wholeBytes_any (w : World) (s : ByteArray) (g : Nat) (hs : s.size ≤ 4000000) (hg : w.heap[g]? = some (.cells (lb s 3).toArray 5)) :
    Calls Tryz.prog 92 #[.slice (some ⟨g, 0, none⟩) s.size (s.size + 3), .string s] w fun e w' => e = .returned (.bool true) ∧ w.grownBy w' (some g) := by
  have hcv := conv_own (lent_own s hg hs)
  rw [show (⟨s.data.toList.toArray⟩ : ByteArray) = s by cases s; simp] at hcv
  have HG : Hid (w.heap[g]? = some (.cells (wb s 0).toArray 5)) := by rw [show wb s 0 = lb s 3 by simp [wb]]; exact hg
  clear hg
  go_enter Tryz.func92, Tryz.ntmps92
  go_wp2
  clear hcv
  go_loopw [7, 8] (fun b k wr => ∃ i : Nat, b = .bool true ∧ k = .int .i64 i ∧ i ≤ s.size + 3 ∧ Hid (wr.heap[g]? = some (.cells (wb s i).toArray 5)) ∧ Hid (w.grownBy wr (some g))) (fun _ k _ => s.size + 3 - (intOf k).toNat)
  case atStart => exact ⟨0, rfl, rfl, by omega, HG, ⟨rfl, rfl, rfl, Nat.le_refl _, fun _ _ _ => rfl⟩⟩
  case round =>
    obtain ⟨i, rfl, rfl, hi, HR, HB⟩ := hrel
    by_cases hlt : i < s.size + 3
    · have hltz : (i : Int) < (s.size : Int) + 3 := by omega
      obtain ⟨z, hz, hz77⟩ := wb_get s i hlt
      have c0 := cellOf HR.out hz
      have z0 := frozen_of_row wr g i _ 5 HR.out
      have HR2 : Hid ((wr.setCell ⟨g, i, none⟩ (.int .u8 200)).heap[g]? = some (.cells (wb s (i + 1)).toArray 5)) := by
        have h := heap_setCell_same wr g i _ 5 (.int .u8 200) HR.out
        rw [wb_step s i hlt] at h
        exact h
      have HB2 : Hid (w.grownBy (wr.setCell ⟨g, i, none⟩ (.int .u8 200)) (some g)) := by
        have h := HB.out
        refine ⟨h.os, h.tape, h.output, by simpa using h.size, fun k hk hne => ?_⟩
        rw [heap_setCell_other _ _ _ _ (fun e => hne (by rw [e]))]
        exact h.block k hk hne
      by_cases his : i < s.size
      · have hisz : (i : Int) < (s.size : Int) := by omega
        generalize z.toNat = zn at *
        go_wp2
        all_goals go_roundw
        all_goals try (case rel => exact ⟨i + 1, rfl, by go_num, by omega, HR2, HB2⟩)
        all_goals try (case measure => simp [intOf]; omega)
      · have hisz : ¬ (i : Int) < (s.size : Int) := by omega
        obtain rfl := hz77 (by omega)
        have c1 : wr.cell? ⟨g, i, none⟩ = some (.int .u8 77) := c0
        clear c0
        go_wp2
        all_goals go_roundw
        all_goals try (case rel => exact ⟨i + 1, rfl, by go_num, by omega, HR2, HB2⟩)
        all_goals try (case measure => simp [intOf]; omega)
    · have hltz : ¬ (i : Int) < (s.size : Int) + 3 := by omega
      go_wp2
      all_goals go_ret
      all_goals exact ⟨rfl, HB.out⟩
end Go.Proofs.YtlghcldiboecoaaGreatDoor
