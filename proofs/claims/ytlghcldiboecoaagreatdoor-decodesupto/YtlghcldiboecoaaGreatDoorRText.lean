/- The document's answer: the bytes of bytes and of a text. -/
import Derived.Test.YtlghcldiboecoaaGreatDoorRLeaf
set_option linter.unusedVariables false
namespace Go.Proofs.YtlghcldiboecoaaGreatDoor
open Go.RowKit

set_option maxRecDepth 8000 in
set_option maxHeartbeats 8000000 in
/-- Bytes. -/
theorem laid_98 (w : World) (n : Int) (s : ByteArray) (l : List Orch.V) (la : Option Addr) (lc : Nat) (hs : s.size ≤ 140737488351232) (k : Nat) :
    Calls Tryz.prog 128 #[.string ⟨#[98]⟩, vv n s (.slice la l.length lc)] w fun e w' => ldRes w.heap.size w' 208 e (Orch.laidT validB (k + 1) (.mk ⟨98, 1, 0, 0, 0, false, 0⟩ []) (.mk n s l)) ∧ Below w.heap.size w w' := by
  obtain ⟨i0, hi0, hz0, hz1, hz2⟩ := info_parts Tryz.info5
  have hnew := heap_alloc_new w (.cells #[.int .i64 n, .string s, .slice la l.length lc] 113)
  have hbl := below1 w (.cells #[.int .i64 n, .string s, .slice la l.length lc] 113)
  have c0 := cellOf (j := 0) hnew rfl
  have c1 := cellOf (j := 1) hnew rfl
  have c2 := cellOf (j := 2) hnew rfl
  have HB := hid hbl
  have HNEW := hid hnew
  have HLT : Hid (Orch.laidT validB (k + 1) (.mk ⟨98, 1, 0, 0, 0, false, 0⟩ []) (.mk n s l) = if n = 0 ∧ s.size ≤ 200 ∧ l.length = 0 then some (Orch.be s.size 4 ++ s.data.toList) else none) := by
    show _ = _
    rw [Orch.laidT]
    have hf : Orch.fits validB (.mk ⟨98, 1, 0, 0, 0, false, 0⟩ []) (.mk n s l) = decide (n = 0 ∧ s.size ≤ 200 ∧ l.length = 0) := by
      show (decide (n = 0) && (decide (s.size ≤ 200) && (!false || validB s)) && decide (l.length = 0)) = _
      rw [Bool.eq_iff_iff]
      simp only [Bool.and_eq_true, decide_eq_true_eq, Bool.not_false, Bool.true_or]
      exact ⟨fun ⟨⟨a, b, c⟩, d⟩ => ⟨a, b, d⟩, fun ⟨a, b, d⟩ => ⟨⟨a, b, trivial⟩, d⟩⟩
    rw [hf]
    by_cases h : n = 0 ∧ s.size ≤ 200 ∧ l.length = 0
    · rw [decide_eq_true h, if_pos rfl, if_pos h]
      have : l = [] := List.length_eq_zero_iff.1 h.2.2
      subst this
      rfl
    · rw [decide_eq_false h, if_neg (by simp), if_neg h]
  have HBY := hid (by_in w n s l.length la lc s.size (by omega) (by omega) 4 (by omega) (by omega))
  rw [show ((4 : Nat) : Int) = 4 from rfl] at HBY
  have HU : Hid (Calls Tryz.prog 125 #[.string s] (w.alloc (.cells #[.int .i64 n, .string s, .slice la l.length lc] 113)) fun e w' => e = .returned (.bool (validB s)) ∧ w' = w.alloc (.cells #[.int .i64 n, .string s, .slice la l.length lc] 113)) := utf8_any s _ (by omega)
  clear hnew hbl
  generalize Orch.laidT validB (k + 1) (.mk ⟨98, 1, 0, 0, 0, false, 0⟩ []) (.mk n s l) = LT at *
  generalize validB s = vb at *
  have hn : n = 0 ∨ (n == 0) = false := by
    by_cases h : n = 0
    · exact .inl h
    · exact .inr (by simpa using h)
  have hz : ((s.size : Int) ≤ 200 ∧ decide ((s.size : Int) ≤ 200) = true) ∨ (¬ ((s.size : Int) ≤ 200) ∧ decide ((s.size : Int) ≤ 200) = false) := by
    by_cases h : (s.size : Int) ≤ 200
    · exact .inl ⟨h, decide_eq_true h⟩
    · exact .inr ⟨h, decide_eq_false h⟩
  have hl : l = [] ∨ ((l.length : Int) == 0) = false := by
    cases l with
    | nil => exact .inl rfl
    | cons x r => exact .inr (by rw [beq_eq_false_iff_ne]; simp only [List.length_cons]; omega)
  have hsz : Hid (s.size ≤ 140737488351232) := hs
  rcases hn with rfl | hn <;> rcases hz with ⟨hz, hzd⟩ | ⟨hz, hzd⟩ <;> rcases hl with rfl | hl <;> cases vb
  all_goals
    go_enter Tryz.func128, Tryz.ntmps128
    go_wp2_with (first
      | (at_builtin; refine wpList_append_own_string_at _ rfl _ _ 57 9 rfl (w.heap.size + 1) 5 i0 Tryz.underlying57 Tryz.underlying9 hi0 hz0 hz1 hz2 _ 4 (by omega) (bcells (Orch.be s.size 4)) rfl HO.out s rfl ?_ ?_ ?_ ?_)
      | (go_at_call 125; refine HU.out.mono ?_; rintro e w1 ⟨rfl, rfl⟩)
      | (go_at_call 78; refine HBY.out.mono ?_; rintro e w1 ⟨oa, oc, rfl, d0, d1, d2, HN1, HO, HB1⟩; clear HNEW c0 c1 c2))
    · unfold maxLen; omega
    · omega
    · exact Nat.le_trans (Nat.le_of_eq (by simp)) HB1.out.size
    intro v3 w3 hown3 hout3
    obtain ⟨ra, rc, rfl⟩ := own_shape hown3
    have hn3 := hout3.keep HN1.out (fun e => by have := (ownBlock_lt HO.out e).1; omega)
    have e0 := cellOf (j := 0) hn3 rfl
    have e1 := cellOf (j := 1) hn3 rfl
    have HO3 := hid hown3
    have HB3 : Hid (Below w.heap.size w w3) := HB.out.trans ((HB1.out.mono (Nat.le_succ _)).trans (hout3.low (Nat.le_trans HB.out.size HB1.out.size) (fun g e => by have := (ownBlock_lt HO.out e).1; omega)))
    clear hown3 hout3 d0 d1 d2 hn3 HN1 HB1 HO HB
    go_wp2
    go_big_region
    all_goals (try go_wp2)
    all_goals go_ret2
    all_goals first
      | exact ⟨ld_some (by rw [HLT.out, if_pos (by simp; omega)]) (by rw [List.length_append, Orch.be_length]; have := hz; show 4 + s.size ≤ 208; omega) (by rw [List.length_append, Orch.be_length]; exact own_mono HO3.out.drew (Nat.le_succ _)), HB3.out.drew⟩
      | exact ⟨ld_none (by rw [HLT.out, if_neg]; first | (intro h; have := h.1; simp_all; done) | (intro h; have := h.2.1; omega) | (intro h; have := h.2.2; simp_all; done)), HB3.out.drew⟩

set_option maxRecDepth 8000 in
set_option maxHeartbeats 8000000 in
/-- A text. -/
theorem laid_116 (w : World) (n : Int) (s : ByteArray) (l : List Orch.V) (la : Option Addr) (lc : Nat) (hs : s.size ≤ 140737488351232) (k : Nat) :
    Calls Tryz.prog 128 #[.string ⟨#[116]⟩, vv n s (.slice la l.length lc)] w fun e w' => ldRes w.heap.size w' 208 e (Orch.laidT validB (k + 1) (.mk ⟨116, 1, 0, 0, 0, true, 0⟩ []) (.mk n s l)) ∧ Below w.heap.size w w' := by
  obtain ⟨i0, hi0, hz0, hz1, hz2⟩ := info_parts Tryz.info5
  have hnew := heap_alloc_new w (.cells #[.int .i64 n, .string s, .slice la l.length lc] 113)
  have hbl := below1 w (.cells #[.int .i64 n, .string s, .slice la l.length lc] 113)
  have c0 := cellOf (j := 0) hnew rfl
  have c1 := cellOf (j := 1) hnew rfl
  have c2 := cellOf (j := 2) hnew rfl
  have HB := hid hbl
  have HNEW := hid hnew
  have HLT : Hid (Orch.laidT validB (k + 1) (.mk ⟨116, 1, 0, 0, 0, true, 0⟩ []) (.mk n s l) = if n = 0 ∧ s.size ≤ 200 ∧ l.length = 0 ∧ validB s = true then some (Orch.be s.size 4 ++ s.data.toList) else none) := by
    show _ = _
    rw [Orch.laidT]
    have hf : Orch.fits validB (.mk ⟨116, 1, 0, 0, 0, true, 0⟩ []) (.mk n s l) = decide (n = 0 ∧ s.size ≤ 200 ∧ l.length = 0 ∧ validB s = true) := by
      show (decide (n = 0) && (decide (s.size ≤ 200) && (!true || validB s)) && decide (l.length = 0)) = _
      rw [Bool.eq_iff_iff]
      simp only [Bool.and_eq_true, decide_eq_true_eq, Bool.not_true, Bool.false_or]
      exact ⟨fun ⟨⟨a, b, c⟩, d⟩ => ⟨a, b, d, c⟩, fun ⟨a, b, d, c⟩ => ⟨⟨a, b, c⟩, d⟩⟩
    rw [hf]
    by_cases h : n = 0 ∧ s.size ≤ 200 ∧ l.length = 0 ∧ validB s = true
    · rw [decide_eq_true h, if_pos rfl, if_pos h]
      have : l = [] := List.length_eq_zero_iff.1 h.2.2.1
      subst this
      rfl
    · rw [decide_eq_false h, if_neg (by simp), if_neg h]
  have HBY := hid (by_in w n s l.length la lc s.size (by omega) (by omega) 4 (by omega) (by omega))
  rw [show ((4 : Nat) : Int) = 4 from rfl] at HBY
  have HU : Hid (Calls Tryz.prog 125 #[.string s] (w.alloc (.cells #[.int .i64 n, .string s, .slice la l.length lc] 113)) fun e w' => e = .returned (.bool (validB s)) ∧ w' = w.alloc (.cells #[.int .i64 n, .string s, .slice la l.length lc] 113)) := utf8_any s _ (by omega)
  clear hnew hbl
  generalize Orch.laidT validB (k + 1) (.mk ⟨116, 1, 0, 0, 0, true, 0⟩ []) (.mk n s l) = LT at *
  generalize validB s = vb at *
  have hn : n = 0 ∨ (n == 0) = false := by
    by_cases h : n = 0
    · exact .inl h
    · exact .inr (by simpa using h)
  have hz : ((s.size : Int) ≤ 200 ∧ decide ((s.size : Int) ≤ 200) = true) ∨ (¬ ((s.size : Int) ≤ 200) ∧ decide ((s.size : Int) ≤ 200) = false) := by
    by_cases h : (s.size : Int) ≤ 200
    · exact .inl ⟨h, decide_eq_true h⟩
    · exact .inr ⟨h, decide_eq_false h⟩
  have hl : l = [] ∨ ((l.length : Int) == 0) = false := by
    cases l with
    | nil => exact .inl rfl
    | cons x r => exact .inr (by rw [beq_eq_false_iff_ne]; simp only [List.length_cons]; omega)
  have hsz : Hid (s.size ≤ 140737488351232) := hs
  rcases hn with rfl | hn <;> rcases hz with ⟨hz, hzd⟩ | ⟨hz, hzd⟩ <;> rcases hl with rfl | hl <;> cases vb
  all_goals
    go_enter Tryz.func128, Tryz.ntmps128
    go_wp2_with (first
      | (at_builtin; refine wpList_append_own_string_at _ rfl _ _ 57 9 rfl (w.heap.size + 1) 5 i0 Tryz.underlying57 Tryz.underlying9 hi0 hz0 hz1 hz2 _ 4 (by omega) (bcells (Orch.be s.size 4)) rfl HO.out s rfl ?_ ?_ ?_ ?_)
      | (go_at_call 125; refine HU.out.mono ?_; rintro e w1 ⟨rfl, rfl⟩)
      | (go_at_call 78; refine HBY.out.mono ?_; rintro e w1 ⟨oa, oc, rfl, d0, d1, d2, HN1, HO, HB1⟩; clear HNEW c0 c1 c2))
    · unfold maxLen; omega
    · omega
    · exact Nat.le_trans (Nat.le_of_eq (by simp)) HB1.out.size
    intro v3 w3 hown3 hout3
    obtain ⟨ra, rc, rfl⟩ := own_shape hown3
    have hn3 := hout3.keep HN1.out (fun e => by have := (ownBlock_lt HO.out e).1; omega)
    have e0 := cellOf (j := 0) hn3 rfl
    have e1 := cellOf (j := 1) hn3 rfl
    have HO3 := hid hown3
    have HB3 : Hid (Below w.heap.size w w3) := HB.out.trans ((HB1.out.mono (Nat.le_succ _)).trans (hout3.low (Nat.le_trans HB.out.size HB1.out.size) (fun g e => by have := (ownBlock_lt HO.out e).1; omega)))
    clear hown3 hout3 d0 d1 d2 hn3 HN1 HB1 HO HB
    go_wp2
    go_big_region
    all_goals (try go_wp2)
    all_goals go_ret2
    all_goals first
      | exact ⟨ld_some (by rw [HLT.out, if_pos (by simp; omega)]) (by rw [List.length_append, Orch.be_length]; have := hz; show 4 + s.size ≤ 208; omega) (by rw [List.length_append, Orch.be_length]; exact own_mono HO3.out.drew (Nat.le_succ _)), HB3.out.drew⟩
      | exact ⟨ld_none (by rw [HLT.out, if_neg]; first | (intro h; have := h.1; simp_all; done) | (intro h; have := h.2.1; omega) | (intro h; have := h.2.2; simp_all; done)), HB3.out.drew⟩
end Go.Proofs.YtlghcldiboecoaaGreatDoor
