/- The caller's loans of bytes. -/
import Derived.Test.YtlghcldiboecoaaGreatDoorQ40
import Derived.Lib.BufferWrite
import Derived.Deep.WholeRow
import Derived.Test.YtlghcldiboecoaaGreatDoorQ37
import Derived.Test.YtlghcldiboecoaaGreatDoorQ01
import Derived.BigRegion
set_option linter.unusedVariables false
namespace Go.Proofs.YtlghcldiboecoaaGreatDoor
open Go.RowKit

/-- Bytes that are lent: theirs, k places of room that are written, the others. -/
def lb (s : ByteArray) (k : Nat) : List Value := bcells s.data.toList ++ (List.replicate k (Value.int .u8 77) ++ List.replicate (3 - k) (Value.int .u8 0))

theorem bcells_size (s : ByteArray) : (bcells s.data.toList).length = s.size := by rw [bcells_len, Array.length_toList]; rfl

theorem lb_step (s : ByteArray) (k : Nat) (hk : k < 3) : (lb s k).toArray.setIfInBounds (s.size + k) (.int .u8 77) = (lb s (k + 1)).toArray := by
  rw [List.setIfInBounds_toArray]
  congr 1
  unfold lb
  rw [List.set_append_right _ _ (by rw [bcells_size]; omega), bcells_size, show s.size + k - s.size = k by omega]
  congr 1
  rcases (show k = 0 ∨ k = 1 ∨ k = 2 by omega) with rfl | rfl | rfl <;> rfl

theorem lb_get (s : ByteArray) (k j : Nat) (hj : j < 3) : ∃ z, (lb s k).toArray[s.size + j]? = some z ∨ 3 < k := by
  by_cases hk : 3 < k
  · exact ⟨.int .u8 0, .inr hk⟩
  · have hlen : s.size + j < (lb s k).length := by unfold lb; simp [bcells_size]; omega
    exact ⟨(lb s k)[s.size + j], .inl (by rw [List.getElem?_toArray, List.getElem?_eq_getElem hlen])⟩

set_option maxRecDepth 8000 in
set_option maxHeartbeats 2000000 in
theorem lentBytes_any (w : World) (s : ByteArray) (hs : s.size ≤ 4000000) :
    Calls Tryz.prog 87 #[.string s] w fun e w' => e = .returned (.slice (some ⟨w.heap.size, 0, none⟩) s.size (s.size + 3)) ∧ w'.heap[w.heap.size]? = some (.cells (lb s 3).toArray 5) ∧ Below w.heap.size w w' := by
  obtain ⟨i0, hi0, hz0, hz1, hz2⟩ := info_parts Tryz.info5
  have hmk := run_make (P := Tryz.prog) w 57 5 i0 _ Tryz.underlying57 hi0 hz0 .i64 .i64 ((s.size : Int) + 3) ((s.size : Int) + 3) (by omega) (by omega) (by rw [hz2]; omega) (by omega)
  rw [show ((s.size : Int) + 3).toNat = s.size + 3 by omega, hz1, Nat.mul_one] at hmk
  have hn := heap_alloc_new w (.cells (madeCells #[Value.int .u8 0] (s.size + 3)) 5)
  have hcp := Lib.run_copy_row_string (P := Tryz.prog) (w.alloc (.cells (madeCells #[Value.int .u8 0] (s.size + 3)) 5)) 57 9 3 5 w.heap.size 0 (s.size + 3) (s.size + 3) s _ 5 Tryz.underlying57 (by rw [hi0]; simp [hz1]) hn (by omega) (by rw [size_madeCells]; omega)
  have e1 : (List.take 0 (madeCells #[Value.int .u8 0] (s.size + 3)).toList ++ Lib.byteCells s.data.toList ++ List.drop (0 + s.size) (madeCells #[Value.int .u8 0] (s.size + 3)).toList).toArray = (lb s 0).toArray := by
    congr 1
    rw [toList_madeCells_one, List.drop_replicate, show s.size + 3 - (0 + s.size) = 3 by omega]
    rfl
  rw [e1] at hcp
  rw [World.setRow_alloc_new] at hcp
  have HR := hid (heap_alloc_new w (.cells (lb s 0).toArray 5))
  have HB := hid (below1 w (.cells (lb s 0).toArray 5))
  clear e1 hn
  go_enter Tryz.func87, Tryz.ntmps87
  go_wp2
  clear hmk hcp
  generalize w.alloc (.cells (lb s 0).toArray 5) = W0 at *
  go_loopw [5] (fun k wr => ∃ i : Nat, k = .int .i64 ((s.size : Int) + i) ∧ i ≤ 3 ∧ Hid (wr.heap[w.heap.size]? = some (.cells (lb s i).toArray 5)) ∧ Hid (Below w.heap.size w wr)) (fun k _ => s.size + 3 - (intOf k).toNat)
  case atStart => exact ⟨0, by simp, by omega, HR, HB⟩
  case round =>
    obtain ⟨i, rfl, hi, HR, HB⟩ := hrel
    by_cases hlt : i < 3
    · have hltz : (s.size : Int) + (i : Int) < (s.size : Int) + 3 := by omega
      obtain ⟨z, hz | hz⟩ := lb_get s i i hlt
      · have c0 := cellOf HR.out hz
        have z0 := frozen_of_row wr w.heap.size (s.size + i) _ 5 HR.out
        have HR2 : Hid ((wr.setCell ⟨w.heap.size, s.size + i, none⟩ (.int .u8 77)).heap[w.heap.size]? = some (.cells (lb s (i + 1)).toArray 5)) := by
          have h := heap_setCell_same wr w.heap.size (s.size + i) _ 5 (.int .u8 77) HR.out
          rw [lb_step s i hlt] at h
          exact h
        have HB2 : Hid (Below w.heap.size w (wr.setCell ⟨w.heap.size, s.size + i, none⟩ (.int .u8 77))) := HB.out.trans (below_setX (Nat.le_refl _))
        have hix : ((s.size : Int) + (i : Int)).toNat = s.size + i := by omega
        go_wp2
        all_goals go_roundw
        all_goals try (case rel => exact ⟨i + 1, by go_num, by omega, HR2, HB2⟩)
        all_goals try (case measure => simp [intOf]; omega)
      · omega
    · have hltz : ¬ (s.size : Int) + (i : Int) < (s.size : Int) + 3 := by omega
      have hie : i = 3 := by omega
      subst hie
      go_wp2
      all_goals go_ret
      all_goals exact ⟨rfl, HR.out, HB.out⟩

/-- Bytes that were lent, the first i of them written over. -/
def wb (s : ByteArray) (i : Nat) : List Value := List.replicate i (Value.int .u8 200) ++ (lb s 3).drop i

theorem lb_len (s : ByteArray) : (lb s 3).length = s.size + 3 := by unfold lb; simp [bcells_size]

theorem wb_step (s : ByteArray) (i : Nat) (hi : i < s.size + 3) : (wb s i).toArray.setIfInBounds i (.int .u8 200) = (wb s (i + 1)).toArray := by
  rw [List.setIfInBounds_toArray]
  congr 1
  unfold wb
  have hl : i < (lb s 3).length := by rw [lb_len]; exact hi
  rw [List.set_append_right _ _ (by simp), List.length_replicate, Nat.sub_self, List.drop_eq_getElem_cons hl, List.set_cons_zero, show List.replicate (i + 1) (Value.int .u8 200) = List.replicate i (Value.int .u8 200) ++ [Value.int .u8 200] from List.replicate_succ', List.append_assoc]
  rfl

theorem wb_get (s : ByteArray) (i : Nat) (hi : i < s.size + 3) : ∃ z : UInt8, (wb s i).toArray[i]? = some (.int .u8 z.toNat) ∧ (s.size ≤ i → z = 77) := by
  have hl : i < (lb s 3).length := by rw [lb_len]; exact hi
  have h0 : (wb s i).toArray[i]? = (lb s 3)[i]? := by
    rw [List.getElem?_toArray, wb, List.getElem?_append_right (by simp), List.length_replicate, Nat.sub_self, List.getElem?_drop, Nat.add_zero]
  rw [h0]
  by_cases hs : i < s.size
  · have hb : i < s.data.toList.length := by rw [Array.length_toList]; exact hs
    refine ⟨s.data.toList[i], ?_, fun h => by omega⟩
    rw [lb, List.getElem?_append_left (by rw [bcells_size]; exact hs), bcells, List.getElem?_map, List.getElem?_eq_getElem hb]
    rfl
  · refine ⟨77, ?_, fun _ => rfl⟩
    rw [lb, List.getElem?_append_right (by rw [bcells_size]; omega), bcells_size]
    rcases (show i - s.size = 0 ∨ i - s.size = 1 ∨ i - s.size = 2 by omega) with h | h | h <;> rw [h] <;> rfl

theorem lent_own (s : ByteArray) {W : World} {g : Nat} (hg : W.heap[g]? = some (.cells (lb s 3).toArray 5)) (hs : s.size ≤ 4000000) : W.ownsRow 0 5 1 (.slice (some ⟨g, 0, none⟩) s.size (s.size + 3)) s.data.toList.length (bcells s.data.toList) := by
  refine ⟨by rw [bcells_len, Nat.mul_one], .inr ⟨g, s.size + 3, (lb s 3).toArray, by rw [Array.length_toList]; rfl, Nat.zero_le _, hg, by rw [Array.length_toList]; show s.size ≤ _; omega, by unfold maxLen; omega, ?_, ?_⟩⟩
  · rw [List.size_toArray, lb_len, Nat.mul_one]
  · show List.take _ (lb s 3) = _
    rw [lb, Nat.mul_one, ← bcells_len, List.take_left]

set_option maxRecDepth 8000 in
set_option maxHeartbeats 2000000 in
theorem wholeBytes_any (w : World) (s : ByteArray) (g : Nat) (hs : s.size ≤ 4000000) (hg : w.heap[g]? = some (.cells (lb s 3).toArray 5)) :
    Calls Tryz.prog 92 #[.slice (some ⟨g, 0, none⟩) s.size (s.size + 3), .string s] w fun e w' => e = .returned (.bool true) ∧ w.grownBy w' (some g) := by
  have hcv := conv_own (lent_own s hg hs)
  rw [show (⟨s.data.toList.toArray⟩ : ByteArray) = s by cases s; simp] at hcv
  have HG : Hid (w.heap[g]? = some (.cells (wb s 0).toArray 5)) := by rw [show wb s 0 = lb s 3 by simp [wb]]; exact hg
  clear hg
  go_enter Tryz.func92, Tryz.ntmps92
  go_wp2
  clear hcv
  go_loopw [7, 8] (fun b k wr => ∃ i : Nat, b = .bool true ∧ k = .int .i64 i ∧ i ≤ s.size + 3 ∧ Hid (wr.heap[g]? = some (.cells (wb s i).toArray 5)) ∧ Hid (w.grownBy wr (some g))) (fun _ k _ => s.size + 3 - (intOf k).toNat)
  case atStart => exact ⟨0, rfl, rfl, by omega, HG, ⟨rfl, rfl, rfl, Nat.le_refl _, fun _ _ _ => rfl⟩⟩
  case round =>
    obtain ⟨i, rfl, rfl, hi, HR, HB⟩ := hrel
    by_cases hlt : i < s.size + 3
    · have hltz : (i : Int) < (s.size : Int) + 3 := by omega
      obtain ⟨z, hz, hz77⟩ := wb_get s i hlt
      have c0 := cellOf HR.out hz
      have z0 := frozen_of_row wr g i _ 5 HR.out
      have HR2 : Hid ((wr.setCell ⟨g, i, none⟩ (.int .u8 200)).heap[g]? = some (.cells (wb s (i + 1)).toArray 5)) := by
        have h := heap_setCell_same wr g i _ 5 (.int .u8 200) HR.out
        rw [wb_step s i hlt] at h
        exact h
      have HB2 : Hid (w.grownBy (wr.setCell ⟨g, i, none⟩ (.int .u8 200)) (some g)) := by
        have h := HB.out
        refine ⟨h.os, h.tape, h.output, by simpa using h.size, fun k hk hne => ?_⟩
        rw [heap_setCell_other _ _ _ _ (fun e => hne (by rw [e]))]
        exact h.block k hk hne
      by_cases his : i < s.size
      · have hisz : (i : Int) < (s.size : Int) := by omega
        generalize z.toNat = zn at *
        go_wp2
        all_goals go_roundw
        all_goals try (case rel => exact ⟨i + 1, rfl, by go_num, by omega, HR2, HB2⟩)
        all_goals try (case measure => simp [intOf]; omega)
      · have hisz : ¬ (i : Int) < (s.size : Int) := by omega
        obtain rfl := hz77 (by omega)
        have c1 : wr.cell? ⟨g, i, none⟩ = some (.int .u8 77) := c0
        clear c0
        go_wp2
        all_goals go_roundw
        all_goals try (case rel => exact ⟨i + 1, rfl, by go_num, by omega, HR2, HB2⟩)
        all_goals try (case measure => simp [intOf]; omega)
    · have hltz : ¬ (i : Int) < (s.size : Int) + 3 := by omega
      go_wp2
      all_goals go_ret
      all_goals exact ⟨rfl, HB.out⟩

end Go.Proofs.YtlghcldiboecoaaGreatDoor

/- The document's reader: Feed. -/
namespace Go.Proofs.YtlghcldiboecoaaGreatDoor
open Go.RowKit

set_option maxHeartbeats 4000000 in
theorem refFeed_bad (w : World) (Rr : Nat) (av tv bv : Value) (hR : w.heap[Rr]? = some (.cells #[av, tv, .bool true] 177)) :
    Calls Tryz.prog 98 #[.pointer (some ⟨Rr, 0, none⟩), bv] w fun e w' => e = .returned (.tuple #[.slice none 0 0, .int .i64 4]) ∧ w' = w := by
  go_enter Tryz.func98, Tryz.ntmps98
  have t2 := cellOf (j := 2) hR rfl
  go_wp2
  exact bodyPost_ret (v := .tuple #[.slice none 0 0, .int .i64 4]) (by simp [results, Tryz.results98, go_sem]) rfl ⟨rfl, rfl⟩

set_option maxHeartbeats 4000000 in
theorem frames_nil (w : World) : Calls Tryz.prog 140 #[.slice none 0 0] w fun e w' => e = .returned (.tuple #[.slice none 0 0, .bool true]) ∧ w' = w := by
  go_enter Tryz.func140, Tryz.ntmps140
  go_wp2
  go_loopw [4, 5] (fun lv a wr => lv = .slice none 0 0 ∧ a = .int .i64 0 ∧ wr = w) (fun _ _ _ => 0)
  case atStart => exact ⟨rfl, rfl, rfl⟩
  case round =>
    obtain ⟨rfl, rfl, rfl⟩ := hrel
    go_wp2
    exact bodyPost_ret (v := .tuple #[.slice none 0 0, .bool true]) (by simp [results, Tryz.results140, go_sem]) rfl ⟨rfl, rfl⟩

/-- A list of bodies: in a row q; each of them bytes that lie somewhere. -/
def BodyAt (w : World) (la : Option Addr) (i : Nat) (b : List UInt8) (lo : Nat) : Prop := ∃ q o B off c, la = some ⟨q, o, none⟩ ∧ lo ≤ q ∧ w.cell? ⟨q, o + i, none⟩ = some (.slice (some ⟨B, off, none⟩) b.length c) ∧ Bytes w B off b

def ListAt (w : World) (la : Option Addr) (bodies : List (List UInt8)) (lo : Nat) : Prop := ∀ i (h : i < bodies.length), BodyAt w la i bodies[i] lo

/-- What Frames leaves, of a list that may be nil. -/
def FrOut (w : World) (l : List UInt8) (e : Ending) (w' : World) : Prop := ∃ la lc, e = .returned (.tuple #[.slice la (rf l.length l).1.length lc, .bool (rf l.length l).2]) ∧ Below w.heap.size w w' ∧ (rf l.length l).1.length ≤ lc ∧ lc ≤ 9223372036854775807 ∧ (la = none → lc = 0) ∧ (∀ a, la = some a → a.off = 0 ∧ a.spot = none) ∧ ListAt w' la (rf l.length l).1 w.heap.size

theorem frames_own (w : World) (pv : Value) (l : List UInt8) (h : w.ownsRow 0 5 1 pv l.length (bcells l)) (hl : l.length ≤ 2000000) : Calls Tryz.prog 140 #[pv] w (FrOut w l) := by
  rcases h.2 with ⟨rfl, h0⟩ | ⟨g, cap, cur, rfl, _, hg, hnc, hcm, hcs, htk⟩
  · refine (frames_nil w).mono ?_
    rintro e w' ⟨rfl, rfl⟩
    have hr : rf l.length l = ([], true) := rf_short (by omega)
    exact ⟨none, 0, by rw [hr]; rfl, Below.refl _ _, by rw [hr]; simp, by omega, fun _ => rfl, (fun a h => by cases h), by rw [hr]; intro i hi; simp at hi⟩
  · have hby : Bytes w g 0 l := fun i hi => by
      rw [Nat.zero_add]
      have h1 := h.cellAt i (by omega)
      rw [h1]
      simp [bcells, hi]
    refine (frames_any w g cap l hby (Array.getElem?_eq_some_iff.1 hg).1 hnc hcm hl).mono ?_
    rintro e w' ⟨xs, lv, rfl, hxs, hlie, hown, hbel⟩
    have hlen : (rf l.length l).1.length = xs.length := by rw [← hxs]; simp
    have hbody : ∀ i (hi : i < xs.length), (rf l.length l).1[i]'(by omega) = xs[i].2 := fun i hi => by simp [← hxs]
    obtain ⟨la, lc, hlv, h1, h2, h3, h4, h5⟩ : ∃ la lc, lv = .slice la xs.length lc ∧ xs.length ≤ lc ∧ lc ≤ 9223372036854775807 ∧ (la = none → lc = 0) ∧ (∀ a, la = some a → a.off = 0 ∧ a.spot = none) ∧ ∀ i (hi : i < xs.length), ∃ q, la = some ⟨q, 0, none⟩ ∧ w.heap.size ≤ q ∧ w'.cell? ⟨q, 0 + i, none⟩ = some (bodyV g cap xs[i]) := by
      rcases hown.2 with ⟨rfl, h0⟩ | ⟨q, qc, qcur, rfl, hq0, hq, hqn, hqm, hqs, hqt⟩
      · exact ⟨none, 0, by rw [h0], by omega, by omega, fun _ => rfl, (fun a h => by cases h), fun i hi => by omega⟩
      · refine ⟨_, qc, rfl, hqn, by unfold maxLen at hqm; omega, (fun h => by cases h), (fun a h => by cases h; exact ⟨rfl, rfl⟩), fun i hi => ⟨q, rfl, hq0, ?_⟩⟩
        rw [Nat.zero_add, hown.cellAt i (by omega)]
        simp [hi]
    subst hlv
    refine ⟨la, lc, by rw [hlen], hbel, by omega, h2, h3, h4, fun i hi => ?_⟩
    have hi' : i < xs.length := by omega
    obtain ⟨q, e1, e2, e3⟩ := h5 i hi'
    obtain ⟨l1, l2⟩ := hlie xs[i] (List.getElem_mem _)
    rw [hbody i hi']
    refine ⟨q, 0, g, if cap = xs[i].1 then 0 else xs[i].1, cap - xs[i].1, e1, e2, e3, ?_⟩
    intro j hj
    rw [if_neg (by omega)]
    have hk := hby (xs[i].1 + j) (by omega)
    rw [Nat.zero_add] at hk
    rw [World.cell?_of_block (w := w) (hbel.block g (Array.getElem?_eq_some_iff.1 hg).1), hk]
    have : xs[i].2[j] = l[xs[i].1 + j]'(by omega) := by
      have e : xs[i].2[j]? = ((l.drop xs[i].1).take xs[i].2.length)[j]? := by rw [← l2]
      rw [List.getElem?_take, if_pos hj, List.getElem?_drop, List.getElem?_eq_getElem hj, List.getElem?_eq_getElem (by omega)] at e
      exact Option.some.inj e
    rw [this]

theorem bytes_other {w w' : World} {R B off : Nat} {a : Option Addr} {n c : Nat} {t : Int} {x : Bool} {b : List UInt8} (h : Bytes w B off b) (hR : w.heap[R]? = some (.cells #[.slice a n c, .int .i64 t, .bool x] 177)) (hk : ∀ k, k ≠ R → w'.heap[k]? = w.heap[k]?) : Bytes w' B off b := by
  intro j hj
  have h1 := h j hj
  have hne : B ≠ R := fun e => by
    subst e
    unfold World.cell? at h1
    rw [hR] at h1
    simp only [Option.isSome_none, Bool.false_eq_true, if_false] at h1
    rcases Nat.lt_or_ge (off + j) 3 with h3 | h3
    · obtain h4 | h4 | h4 : off + j = 0 ∨ off + j = 1 ∨ off + j = 2 := by omega
      all_goals (rw [h4] at h1; simp at h1)
    · rw [Array.getElem?_eq_none (by simpa using h3)] at h1
      cases h1
  rw [World.cell?_of_block (w := w) (hk B hne)]
  exact h1

/-- What Feed leaves. -/
def FdRes (w : World) (Rr : Nat) (av : Value) (l : List UInt8) (told : Nat) (e : Ending) (w' : World) : Prop := ∃ v' la lc, e = .returned (.tuple #[.slice la ((rf l.length l).1.length - told) lc, .int .i64 (if (rf l.length l).2 then 0 else 4)]) ∧
  w'.heap[Rr]? = some (.cells #[v', .int .i64 ((rf l.length l).1.length : Nat), .bool (!(rf l.length l).2)] 177) ∧ w'.ownsRow 0 5 1 v' l.length (bcells l) ∧ v'.ownBlock ≠ some Rr ∧ (v'.ownBlock = av.ownBlock ∨ v'.ownBlock = some w.heap.size) ∧ ListAt w' la ((rf l.length l).1.drop told) w.heap.size ∧
  (∀ i, i < w.heap.size → i ≠ Rr → av.ownBlock ≠ some i → w'.heap[i]? = w.heap[i]?) ∧ w.heap.size ≤ w'.heap.size ∧ w'.os = w.os ∧ w'.output = w.output

theorem listAt_drop {w : World} {la : Option Addr} {bodies : List (List UInt8)} {lo k : Nat} (h : ListAt w la bodies lo) : ListAt w (la.map fun a => { a with off := a.off + k }) (bodies.drop k) lo := by
  intro i hi
  rw [List.length_drop] at hi
  obtain ⟨q, o, B, off, c, rfl, h1, h2, h3⟩ := h (k + i) (by omega)
  refine ⟨q, o + k, B, off, c, rfl, h1, ?_, ?_⟩
  · rw [show o + k + i = o + (k + i) by omega, h2]; simp
  · simpa using h3

set_option maxRecDepth 10000 in
set_option maxHeartbeats 4000000 in
theorem refFeed_any (w : World) (Rr g bc told : Nat) (av : Value) (all bs : List UInt8) (hR : w.heap[Rr]? = some (.cells #[av, .int .i64 told, .bool false] 177)) (hA : w.ownsRow 0 5 1 av all.length (bcells all)) (hb : Bytes w g 0 bs)
    (hlen : all.length + bs.length ≤ 1500000) (hAR : av.ownBlock ≠ some Rr) (htold : told ≤ (rf (all ++ bs).length (all ++ bs)).1.length) :
    Calls Tryz.prog 98 #[.pointer (some ⟨Rr, 0, none⟩), .slice (some ⟨g, 0, none⟩) bs.length bc] w fun e w' => FdRes w Rr av (all ++ bs) told e w' := by
  go_enter Tryz.func98, Tryz.ntmps98
  have t0 := cellOf (j := 0) hR rfl
  have t1 := cellOf (j := 1) hR rfl
  have t2 := cellOf (j := 2) hR rfl
  have hRlt := (Array.getElem?_eq_some_iff.1 hR).1
  obtain ⟨i0, hi0, hz0, hz1, hz2⟩ := info_parts Tryz.info5
  have HA := hide hA
  have HB := hide hb
  obtain ⟨qa, qc, hqv⟩ : ∃ a c, av = .slice a all.length c := by
    rcases hA.2 with ⟨e, h⟩ | ⟨g, cap, cur, e, _⟩
    · exact ⟨none, 0, by rw [e, h]⟩
    · exact ⟨_, _, e⟩
  subst hqv
  clear hA hb
  go_wp2_with (at_builtin; refine wpList_append_own_at _ rfl _ _ 57 rfl 0 5 i0 (.int .u8 0) 1 1 Tryz.underlying57 hi0 hz0 hz1 hz2 rfl (by decide) _ _ _ rfl HA.out ⟨g, 0, none⟩ bs.length bc (bcells bs) rfl ?hl ?hn ?h1 ?c3 ?c4 ?c5 ?_)
  case hl => simp [bcells]
  case hn =>
    intro j u hj
    have hj' : j < bs.length := by have := (List.getElem?_eq_some_iff.1 hj).1; simpa [bcells] using this
    have h1 := HB.out j hj'
    rw [Nat.zero_add] at h1
    have h2 : u = .int .u8 bs[j].toNat := by simp [bcells, hj'] at hj; exact hj.symm
    rw [h2, ← h1]
    cases j <;> simp [Addr.add]
  case h1 => intro u hu; simp [bcells] at hu; obtain ⟨x, _, rfl⟩ := hu; rfl
  case c3 => unfold maxLen; omega
  case c4 => omega
  case c5 => omega
  intro v' w1 hown hgrow _ hwhere
  obtain ⟨pa, pc, hpv⟩ : ∃ a c, v' = .slice a (all.length + bs.length) c := by
    rcases hown.2 with ⟨e, h⟩ | ⟨g, cap, cur, e, _⟩
    · exact ⟨none, 0, by rw [e, h]⟩
    · exact ⟨_, _, e⟩
  subst hpv
  have hne : some Rr ≠ (Value.slice qa all.length qc).ownBlock := fun h => hAR h.symm
  have hR1 : w1.heap[Rr]? = some (.cells #[.slice qa all.length qc, .int .i64 told, .bool false] 177) := (hgrow.block Rr hRlt hne).trans hR
  have s0 := cellOf (j := 0) hR1 rfl
  have f0 := frozenOf (j := 0) hR1
  have hR2 := heap_setCell_same w1 Rr 0 _ 177 (.slice pa (all.length + bs.length) pc) hR1
  have hO2 : (w1.setCell ⟨Rr, 0, none⟩ (.slice pa (all.length + bs.length) pc)).ownsRow 0 5 1 (.slice pa (all.length + bs.length) pc) (all.length + bs.length) (bcells all ++ bcells bs) := by
    refine ⟨hown.1, hown.2.imp id ?_⟩
    rintro ⟨g', cap, cur, e, h0, hg', h1, h2, h3, h4⟩
    refine ⟨g', cap, cur, e, h0, ?_, h1, h2, h3, h4⟩
    have : g' ≠ Rr := fun h => by rw [h, hR1] at hg'; simp at hg'
    rw [Below.heap_setCell _ _ _ _ this]
    exact hg'
  have hR2' : (w1.setCell ⟨Rr, 0, none⟩ (.slice pa (all.length + bs.length) pc)).heap[Rr]? = some (.cells #[.slice pa (all.length + bs.length) pc, .int .i64 told, .bool false] 177) := by simpa using hR2
  have hcat : bcells all ++ bcells bs = bcells (all ++ bs) := by simp [bcells]
  have hlcat : (all ++ bs).length = all.length + bs.length := by simp
  have hO2' : (w1.setCell ⟨Rr, 0, none⟩ (.slice pa (all.length + bs.length) pc)).ownsRow 0 5 1 (.slice pa (all.length + bs.length) pc) (all ++ bs).length (bcells (all ++ bs)) := by rw [← hcat, hlcat]; exact hO2
  have hFR := frames_own _ _ (all ++ bs) hO2' (by omega)
  have HFR := hide hFR
  have HO2 := hide hO2'
  have HR2 := hide hR2'
  have HT := hide htold
  have HS1 := hide hgrow.size
  have HAR := hide hAR
  have hpne : (Value.slice pa (all.length + bs.length) pc).ownBlock ≠ some Rr := by
    rcases hO2'.2 with ⟨e, _⟩ | ⟨g', cap, cur, e, _, hg', _⟩
    · rw [e]; simp [Value.ownBlock]
    · rw [e]
      intro h
      simp [Value.ownBlock] at h
      rw [h, hR2'] at hg'
      simp at hg'
  have HPNE := hide hpne
  have HWH := hide hwhere
  clear hwhere
  have HKEEP : Hid (∀ i, i < w.heap.size → i ≠ Rr → (Value.slice qa all.length qc).ownBlock ≠ some i → (w1.setCell ⟨Rr, 0, none⟩ (.slice pa (all.length + bs.length) pc)).heap[i]? = w.heap[i]?) := fun i hi hne' hav => by
    rw [Below.heap_setCell _ _ _ _ hne']
    exact hgrow.block i hi (fun h => hav h.symm)
  have HSZ : Hid (w.heap.size ≤ (w1.setCell ⟨Rr, 0, none⟩ (.slice pa (all.length + bs.length) pc)).heap.size) := by show _ ≤ _; simpa [World.setCell] using hgrow.size
  have HOS : Hid ((w1.setCell ⟨Rr, 0, none⟩ (.slice pa (all.length + bs.length) pc)).os = w.os ∧ (w1.setCell ⟨Rr, 0, none⟩ (.slice pa (all.length + bs.length) pc)).output = w.output) := ⟨hgrow.os, hgrow.output⟩
  clear hR2' hO2' hFR hcat hlcat htold hpne hAR
  have HG := hide hgrow
  have HR1 := hide hR1
  clear hR2 hO2 hown hgrow hR1 hR t0 t1 t2 HB HA hne HR1 HG HS1
  go_wp2_with fail
  clear s0 f0
  generalize w1.setCell ⟨Rr, 0, none⟩ (.slice pa (all.length + bs.length) pc) = w2 at *
  refine HFR.out.mono ?_
  rintro e w3 ⟨la, lc, rfl, hb3, hl1, hl2, hl3, hl4, hli⟩
  have hRlt2 : Rr < w2.heap.size := (Array.getElem?_eq_some_iff.1 HR2.out).1
  have hR3 : w3.heap[Rr]? = some (.cells #[.slice pa (all.length + bs.length) pc, .int .i64 told, .bool false] 177) := (hb3.block Rr hRlt2).trans HR2.out
  have t1 := cellOf (j := 1) hR3 rfl
  have f1 := frozenOf (j := 1) hR3
  have hR4 := heap_setCell_same w3 Rr 1 _ 177 (.int .i64 ((rf (all ++ bs).length (all ++ bs)).1.length : Nat)) hR3
  have fin : ∀ w', (∀ k, k ≠ Rr → w'.heap[k]? = w3.heap[k]?) → w'.heap.size = w3.heap.size → w'.os = w3.os → w'.output = w3.output →
      w'.heap[Rr]? = some (.cells #[.slice pa (all.length + bs.length) pc, .int .i64 ((rf (all ++ bs).length (all ++ bs)).1.length : Nat), .bool (!(rf (all ++ bs).length (all ++ bs)).2)] 177) → ∀ (la' : Option Addr) (lc' : Nat), ListAt w3 la' ((rf (all ++ bs).length (all ++ bs)).1.drop told) w2.heap.size →
      FdRes w Rr (.slice qa all.length qc) (all ++ bs) told (.returned (.tuple #[.slice la' ((rf (all ++ bs).length (all ++ bs)).1.length - told) lc', .int .i64 (if (rf (all ++ bs).length (all ++ bs)).2 then 0 else 4)])) w' := by
    intro w' hk hsz hos hou hRn la' lc' hla
    refine ⟨_, la', lc', rfl, hRn, ?_, HPNE.out, ?_, ?_, ?_, ?_, ?_, ?_⟩
    · refine ⟨HO2.out.1, HO2.out.2.imp id ?_⟩
      rintro ⟨g', cap, cur, e, h0, hg', h1⟩
      have hne : g' ≠ Rr := fun h => by rw [h, HR2.out] at hg'; simp at hg'
      exact ⟨g', cap, cur, e, h0, by rw [hk g' hne, hb3.block g' (Array.getElem?_eq_some_iff.1 hg').1]; exact hg', h1⟩
    · exact HWH.out
    · intro i hi
      obtain ⟨q, o, B, off, c, h1, h2, h3, h4⟩ := hla i hi
      refine ⟨q, o, B, off, c, h1, Nat.le_trans HSZ.out h2, ?_, bytes_other h4 hR3 hk⟩
      rw [World.cell?_of_block (w := w3) (hk q (by omega))]
      exact h3
    · intro i hi hne hav
      rw [hk i hne, hb3.block i (Nat.lt_of_lt_of_le hi HSZ.out)]
      exact HKEEP.out i hi hne hav
    · have := hb3.size
      have := HSZ.out
      omega
    · rw [hos, hb3.os]; exact HOS.out.1
    · rw [hou, hb3.output]; exact HOS.out.2
  have FIN := hide fin
  have HLI := hide hli
  have HR4 := hide hR4
  have HR3 := hide hR3
  clear fin hli hR4 hR3 HFR HO2 HR2 HPNE HKEEP HOS
  generalize rf (all ++ bs).length (all ++ bs) = r at *
  obtain ⟨bodies, ok⟩ := r
  try dsimp only at *
  have hT : told ≤ bodies.length := HT.out
  clear HT
  cases ok with
  | true =>
    have HK : Hid (∀ k, k ≠ Rr → (w3.setCell ⟨Rr, 1, none⟩ (.int .i64 (bodies.length : Nat))).heap[k]? = w3.heap[k]?) := fun k hk => by rw [Below.heap_setCell _ _ _ _ hk]
    have HSZ5 : Hid ((w3.setCell ⟨Rr, 1, none⟩ (.int .i64 (bodies.length : Nat))).heap.size = w3.heap.size) := by show _ = _; simp [World.setCell]
    have HR5 : Hid ((w3.setCell ⟨Rr, 1, none⟩ (.int .i64 (bodies.length : Nat))).heap[Rr]? = some (.cells #[.slice pa (all.length + bs.length) pc, .int .i64 (bodies.length : Nat), .bool (!true)] 177)) := by
      show _ = _
      simpa using HR4.out
    skip
    skip
    skip
    skip
    clear HR4 HR3
    cases la with
    | none =>
      obtain rfl : lc = 0 := hl3 rfl
      have h0 : bodies.length = 0 := by omega
      have h1 : told = 0 := by omega
      subst h1
      have HE : Hid (ListAt w3 none (bodies.drop 0) w2.heap.size) := fun i hi => by simp at hi; omega
      clear h0 hl1 hl2 hl3 hl4 hT
      go_wp2_with fail
      exact bodyPost_ret (v := .tuple #[.slice none bodies.length 0, .int .i64 0]) (by simp [results, Tryz.results98, go_sem]) rfl (FIN.out _ HK.out HSZ5.out rfl rfl HR5.out _ _ HE.out)
    | some ad =>
      obtain ⟨ha1, ha2⟩ := hl4 ad rfl
      obtain ⟨q, ao, asp⟩ := ad
      simp only at ha1 ha2
      subst ha1 ha2
      have hadd : (⟨q, 0, none⟩ : Addr).add told = ⟨q, told, none⟩ := by cases told <;> simp [Addr.add]
      clear hl3 hl4
      by_cases hce : lc = told
      · have HE : Hid (ListAt w3 (some ⟨q, 0, none⟩) (bodies.drop told) w2.heap.size) := fun i hi => by rw [List.length_drop] at hi; omega
        subst hce
        go_wp2_with fail
        have FI := FIN.out _ HK.out HSZ5.out rfl rfl HR5.out _ 0 HE.out
        rw [show bodies.length - lc = 0 by omega] at FI
        exact bodyPost_ret (v := .tuple #[.slice (some ⟨q, 0, none⟩) 0 0, .int .i64 0]) (by simp [results, Tryz.results98, go_sem]) rfl FI
      · have hce0 : ¬ lc - told = 0 := by omega
        have HDR : Hid (ListAt w3 (some ⟨q, told, none⟩) (bodies.drop told) w2.heap.size) := by
          have h := listAt_drop (k := told) HLI.out
          show ListAt _ _ _ _
          simpa using h
        go_wp2_with fail
        exact bodyPost_ret (v := .tuple #[.slice (some ⟨q, told, none⟩) (bodies.length - told) (lc - told), .int .i64 0]) (by simp [results, Tryz.results98, go_sem]) rfl (FIN.out _ HK.out HSZ5.out rfl rfl HR5.out _ _ HDR.out)
  | false =>
    have HK : Hid (∀ k, k ≠ Rr → ((w3.setCell ⟨Rr, 1, none⟩ (.int .i64 (bodies.length : Nat))).setCell ⟨Rr, 2, none⟩ (.bool true)).heap[k]? = w3.heap[k]?) := fun k hk => by rw [Below.heap_setCell _ _ _ _ hk, Below.heap_setCell _ _ _ _ hk]
    have HSZ5 : Hid (((w3.setCell ⟨Rr, 1, none⟩ (.int .i64 (bodies.length : Nat))).setCell ⟨Rr, 2, none⟩ (.bool true)).heap.size = w3.heap.size) := by show _ = _; simp [World.setCell]
    have HR5 : Hid (((w3.setCell ⟨Rr, 1, none⟩ (.int .i64 (bodies.length : Nat))).setCell ⟨Rr, 2, none⟩ (.bool true)).heap[Rr]? = some (.cells #[.slice pa (all.length + bs.length) pc, .int .i64 (bodies.length : Nat), .bool (!false)] 177)) := by
      show _ = _
      have h5 := heap_setCell_same _ Rr 2 _ 177 (.bool true) HR4.out
      simpa using h5
    have hR4' : (w3.setCell ⟨Rr, 1, none⟩ (.int .i64 (bodies.length : Nat))).heap[Rr]? = some (.cells #[.slice pa (all.length + bs.length) pc, .int .i64 (bodies.length : Nat), .bool false] 177) := by simpa using HR4.out
    have s2 := cellOf (j := 2) hR4' rfl
    have f2 := frozenOf (j := 2) hR4'
    clear hR4'
    clear HR4 HR3
    cases la with
    | none =>
      obtain rfl : lc = 0 := hl3 rfl
      have h0 : bodies.length = 0 := by omega
      have h1 : told = 0 := by omega
      subst h1
      have HE : Hid (ListAt w3 none (bodies.drop 0) w2.heap.size) := fun i hi => by simp at hi; omega
      clear h0 hl1 hl2 hl3 hl4 hT
      go_wp2_with fail
      exact bodyPost_ret (v := .tuple #[.slice none bodies.length 0, .int .i64 4]) (by simp [results, Tryz.results98, go_sem]) rfl (FIN.out _ HK.out HSZ5.out rfl rfl HR5.out _ _ HE.out)
    | some ad =>
      obtain ⟨ha1, ha2⟩ := hl4 ad rfl
      obtain ⟨q, ao, asp⟩ := ad
      simp only at ha1 ha2
      subst ha1 ha2
      have hadd : (⟨q, 0, none⟩ : Addr).add told = ⟨q, told, none⟩ := by cases told <;> simp [Addr.add]
      clear hl3 hl4
      by_cases hce : lc = told
      · have HE : Hid (ListAt w3 (some ⟨q, 0, none⟩) (bodies.drop told) w2.heap.size) := fun i hi => by rw [List.length_drop] at hi; omega
        subst hce
        go_wp2_with fail
        have FI := FIN.out _ HK.out HSZ5.out rfl rfl HR5.out _ 0 HE.out
        rw [show bodies.length - lc = 0 by omega] at FI
        exact bodyPost_ret (v := .tuple #[.slice (some ⟨q, 0, none⟩) 0 0, .int .i64 4]) (by simp [results, Tryz.results98, go_sem]) rfl FI
      · have hce0 : ¬ lc - told = 0 := by omega
        have HDR : Hid (ListAt w3 (some ⟨q, told, none⟩) (bodies.drop told) w2.heap.size) := by
          have h := listAt_drop (k := told) HLI.out
          show ListAt _ _ _ _
          simpa using h
        go_wp2_with fail
        exact bodyPost_ret (v := .tuple #[.slice (some ⟨q, told, none⟩) (bodies.length - told) (lc - told), .int .i64 4]) (by simp [results, Tryz.results98, go_sem]) rfl (FIN.out _ HK.out HSZ5.out rfl rfl HR5.out _ _ HDR.out)

end Go.Proofs.YtlghcldiboecoaaGreatDoor

/- The caller: are the bodies the same? -/
namespace Go.Proofs.YtlghcldiboecoaaGreatDoor
open Go.RowKit

theorem conv_bytes {w : World} {B off c : Nat} {b : List UInt8} (h : Bytes w B off b) : (convert 57 9 (.slice (some ⟨B, off, none⟩) b.length c)).run Tryz.prog w = .ok (.string ⟨b.toArray⟩) w := by
  have hstr : strOfNums (b.map fun c => (c.toNat : Int)) = (⟨b.toArray⟩ : ByteArray) := by
    unfold strOfNums
    congr 2
    rw [List.map_map]
    conv => rhs; rw [← List.map_id b]
    apply List.map_congr_left
    intro c _
    simp
  have := run_convert_bytes_arg (P := Tryz.prog) w 57 5 Tryz.underlying57 Tryz.underlying5 B off b.length c (b.map fun c => (c.toNat : Int)) (by simp) (fun i hi => by
    rw [h i hi, List.getD_eq_getElem?_getD, List.getElem?_map, List.getElem?_eq_getElem hi]
    rfl) 9 Tryz.underlying9
  rw [hstr] at this
  exact this

theorem cell_blk {w : World} {a : Addr} {x : Value} (h : w.cell? a = some x) : a.block < w.heap.size := by
  unfold World.cell? at h
  cases hb : w.heap[a.block]? with
  | none => rw [hb] at h; cases h
  | some o => exact (Array.getElem?_eq_some_iff.1 hb).1

theorem bytes_below {w w' : World} {B off : Nat} {b : List UInt8} (h : Bytes w B off b) (hb : Below w.heap.size w w') : Bytes w' B off b := fun j hj => by
  have h1 := h j hj
  rw [World.cell?_of_block (w := w) (hb.block B (cell_blk h1))]
  exact h1

theorem listAt_below {w w' : World} {la : Option Addr} {bodies : List (List UInt8)} {lo : Nat} (h : ListAt w la bodies lo) (hb : Below w.heap.size w w') : ListAt w' la bodies lo := fun i hi => by
  obtain ⟨q, o, B, off, c, h1, h2, h3, h4⟩ := h i hi
  refine ⟨q, o, B, off, c, h1, h2, ?_, bytes_below h4 hb⟩
  rw [World.cell?_of_block (w := w) (hb.block q (cell_blk h3))]
  exact h3

set_option maxRecDepth 10000 in
set_option maxHeartbeats 4000000 in
theorem sameBodies_any (w : World) (la lb : Option Addr) (ca cb lo lo' : Nat) (bodies : List (List UInt8)) (ha : ListAt w la bodies lo) (hb : ListAt w lb bodies lo') (hn : bodies.length ≤ 4294967296) :
    Calls Tryz.prog 99 #[.slice la bodies.length ca, .slice lb bodies.length cb] w fun e w' => e = .returned (.bool true) ∧ Below w.heap.size w w' := by
  go_enter Tryz.func99, Tryz.ntmps99
  have HA := hide ha
  have HB := hide hb
  clear ha hb
  go_wp2
  go_loopw [5] (fun i wr => ∃ k : Nat, k ≤ bodies.length ∧ i = .int .i64 k ∧ Hid (Below w.heap.size w wr)) (fun i _ => bodies.length - (intOf i).toNat)
  case atStart => exact ⟨0, Nat.zero_le _, rfl, Below.refl _ _⟩
  case round =>
    obtain ⟨k, hk, rfl, HW⟩ := hrel
    by_cases hlt : k < bodies.length
    · have hltz : (k : Int) < (bodies.length : Int) := by omega
      obtain ⟨q, o, B, off, c, rfl, _, h3, h4⟩ := listAt_below HA.out HW.out k hlt
      obtain ⟨q', o', B', off', c', rfl, _, h3', h4'⟩ := listAt_below HB.out HW.out k hlt
      have c1 := conv_bytes (c := c) h4
      have c2 := conv_bytes (c := c') h4'
      have d1 := conv_bytes (w := wr.drew) (c := c) h4
      have d2 := conv_bytes (w := wr.drew) (c := c') h4'
      have a1 : (⟨q, o, none⟩ : Addr).add k = ⟨q, o + k, none⟩ := by cases k <;> simp [Addr.add]
      have a2 : (⟨q', o', none⟩ : Addr).add k = ⟨q', o' + k, none⟩ := by cases k <;> simp [Addr.add]
      have HW2 : Hid (Below w.heap.size w wr.drew) := HW.out.drew
      clear h4 h4'
      generalize bodies[k] = b at *
      go_wp2
      go_region
      go_wp2
      go_roundw
      case rel => exact ⟨k + 1, by omega, by go_num, HW2⟩
      case measure => first | (simp [intOf]; done) | (simp [intOf]; omega)
    · have hltz : ¬ (k : Int) < (bodies.length : Int) := by omega
      go_wp2
      go_ret
      exact ⟨rfl, HW.out⟩

end Go.Proofs.YtlghcldiboecoaaGreatDoor

/- A reader is made. -/
namespace Go.Proofs.YtlghcldiboecoaaGreatDoor
open Go.RowKit

theorem newReader_any (w : World) : Calls Tryz.prog 96 #[] w fun e w' => e = .returned (.pointer (some ⟨w.heap.size, 0, none⟩)) ∧ w' = w.alloc (.cells #[.slice none 0 0, .bool false] 237) := by
  go_enter Tryz.func96, Tryz.ntmps96
  go_wp2
  go_ret
  exact ⟨rfl, rfl⟩

end Go.Proofs.YtlghcldiboecoaaGreatDoor
