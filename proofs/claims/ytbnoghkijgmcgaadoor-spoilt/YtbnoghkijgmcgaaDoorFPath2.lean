/- Paths, whole. -/
import Derived.Test.YtbnoghkijgmcgaaDoorFPath
set_option linter.unusedVariables false
namespace Go.Proofs.YtbnoghkijgmcgaaDoor
open Go.RowKit

/-- A slash stands first. -/
def slash1 (s : ByteArray) : Bool := decide (1 ≤ s.size) && ((s.extract 0 1).toList == [47])

set_option maxRecDepth 8000 in
set_option maxHeartbeats 1000000 in
theorem hasPrefix_any (w : World) (s : ByteArray) : Calls Tryd.prog 82 #[.string s, .string ⟨#[47]⟩] w fun e w' => e = .returned (.bool (slash1 s)) ∧ w' = w := by
  by_cases h1 : (1 : Int) ≤ s.size
  · have h1' : 1 ≤ s.size := by omega
    cases h2 : ((s.extract 0 1).toList == [47]) with
    | true =>
      rw [show slash1 s = true by simp only [slash1, h2, decide_eq_true h1']; rfl]
      go_enter Tryd.func82, Tryd.ntmps82
      go_wp2
      go_ret
      exact ⟨ret_bool (by first | rfl | exact h2), rfl⟩
    | false =>
      rw [show slash1 s = false by simp only [slash1, h2, decide_eq_true h1']; rfl]
      go_enter Tryd.func82, Tryd.ntmps82
      go_wp2
      go_ret
      exact ⟨ret_bool (by first | rfl | exact h2), rfl⟩
  · have h1' : ¬ 1 ≤ s.size := by omega
    rw [show slash1 s = false by simp only [slash1, decide_eq_false h1']; rfl]
    go_enter Tryd.func82, Tryd.ntmps82
    go_wp2
    go_ret
    exact ⟨rfl, rfl⟩

set_option maxRecDepth 8000 in
set_option maxHeartbeats 1000000 in
theorem cutPrefix_in (w : World) (s : ByteArray) : Calls Tryd.prog 77 #[.string s, .string ⟨#[47]⟩] w fun e w' => e = .returned (if slash1 s = true then .tuple #[.string (s.extract 1 s.size), .bool true] else .tuple #[.string s, .bool false]) ∧ w' = w := by
  cases h : slash1 s with
  | true =>
    have hz : (1 : Int) ≤ s.size := by
      have : 1 ≤ s.size := by
        unfold slash1 at h
        rw [Bool.and_eq_true] at h
        exact of_decide_eq_true h.1
      omega
    go_enter Tryd.func77, Tryd.ntmps77
    go_wp2_with (go_at_call 82; refine (hasPrefix_any w s).mono ?_; rintro e w1 ⟨rfl, rfl⟩; rw [h])
    exact bodyPost_ret (v := .tuple #[.string (s.extract 1 s.size), .bool true]) (by simp [results, Tryd.results77, go_sem]) rfl ⟨rfl, rfl⟩
  | false =>
    go_enter Tryd.func77, Tryd.ntmps77
    go_wp2_with (go_at_call 82; refine (hasPrefix_any w s).mono ?_; rintro e w1 ⟨rfl, rfl⟩; rw [h])
    exact bodyPost_ret (v := .tuple #[.string s, .bool false]) (by simp [results, Tryd.results77, go_sem]) rfl ⟨rfl, rfl⟩

set_option maxRecDepth 8000 in
set_option maxHeartbeats 1000000 in
theorem cutPrefix_any (w : World) (s : ByteArray) : Calls Tryd.prog 71 #[.string s, .string ⟨#[47]⟩] w fun e w' => e = .returned (if slash1 s = true then .tuple #[.string (s.extract 1 s.size), .bool true] else .tuple #[.string s, .bool false]) ∧ w' = w := by
  have hc := cutPrefix_in w s
  cases h : slash1 s with
  | true =>
    rw [h] at hc
    have HC : Hid (Calls Tryd.prog 77 #[.string s, .string ⟨#[47]⟩] w fun e w' => e = .returned (.tuple #[.string (s.extract 1 s.size), .bool true]) ∧ w' = w) := hc
    clear hc
    go_enter Tryd.func71, Tryd.ntmps71
    go_wp2_with (go_at_call 77; refine HC.out.mono ?_; rintro e w1 ⟨rfl, rfl⟩)
    exact bodyPost_ret (v := .tuple #[.string (s.extract 1 s.size), .bool true]) (by simp [results, Tryd.results71, go_sem]) rfl ⟨rfl, rfl⟩
  | false =>
    rw [h] at hc
    have HC : Hid (Calls Tryd.prog 77 #[.string s, .string ⟨#[47]⟩] w fun e w' => e = .returned (.tuple #[.string s, .bool false]) ∧ w' = w) := hc
    clear hc
    go_enter Tryd.func71, Tryd.ntmps71
    go_wp2_with (go_at_call 77; refine HC.out.mono ?_; rintro e w1 ⟨rfl, rfl⟩)
    exact bodyPost_ret (v := .tuple #[.string s, .bool false]) (by simp [results, Tryd.results71, go_sem]) rfl ⟨rfl, rfl⟩

/-- The names of a path, behind its first slash. -/
def names (s : ByteArray) : List ByteArray := Lib.splitB ⟨#[47]⟩ 0 (Lib.countB s ⟨#[47]⟩) s

theorem splitB_size (sep : ByteArray) : ∀ (k : Nat) (s p : ByteArray), p ∈ Lib.splitB sep 0 k s → p.size ≤ s.size
  | 0, s, p, h => by
    simp only [Lib.splitB, List.mem_singleton] at h
    rw [h]
    exact Nat.le_refl _
  | k + 1, s, p, h => by
    unfold Lib.splitB at h
    split at h
    · simp only [List.mem_singleton] at h
      rw [h]
      exact Nat.le_refl _
    · rcases List.mem_cons.1 h with h | h
      · rw [h, ByteArray.size_extract]
        omega
      · have := splitB_size sep k _ p h
        rw [ByteArray.size_extract] at this
        omega

/-- A path. -/
def isPa (s : ByteArray) : Bool := decide (s.size ≤ 24) && ((s.toList == [47]) || (slash1 s && (names (s.extract 1 s.size)).all isNm))

theorem names_len (s : ByteArray) : (names s).length = Lib.countB s ⟨#[47]⟩ + 1 := Lib.splitB_all ⟨#[47]⟩ (by decide) 0 _ s rfl

set_option maxRecDepth 8000 in
set_option maxHeartbeats 2000000 in
theorem isPath_any (w : World) (m : Int) (hm : w.cell? ⟨4, 0, none⟩ = some (.int .i64 m)) (s : ByteArray) (hs : s.size ≤ 140737488355328) : Calls Tryd.prog 64 #[.string s] w fun e w' => e = .returned (.bool (isPa s)) ∧ Below w.heap.size w w' := by
  by_cases h0 : (24 : Int) < s.size
  · rw [show isPa s = false by simp only [isPa, decide_eq_false (show ¬ s.size ≤ 24 by omega)]; rfl]
    go_enter Tryd.func64, Tryd.ntmps64
    go_wp2
    go_ret
    exact ⟨rfl, Below.refl _ _⟩
  · cases h1 : (s.toList == [47]) with
    | true =>
      rw [show isPa s = true by simp only [isPa, decide_eq_true (show s.size ≤ 24 by omega), h1]; rfl]
      go_enter Tryd.func64, Tryd.ntmps64
      go_wp2
      go_ret
      exact ⟨rfl, Below.refl _ _⟩
    | false =>
      have hcp := cutPrefix_any w s
      cases h2 : slash1 s with
      | false =>
        rw [h2] at hcp
        have HC : Hid (Calls Tryd.prog 71 #[.string s, .string ⟨#[47]⟩] w fun e w' => e = .returned (.tuple #[.string s, .bool false]) ∧ w' = w) := hcp
        rw [show isPa s = false by simp only [isPa, decide_eq_true (show s.size ≤ 24 by omega), h1, h2]; rfl]
        clear hcp
        go_enter Tryd.func64, Tryd.ntmps64
        go_wp2_with (go_at_call 71; refine HC.out.mono ?_; rintro e w1 ⟨rfl, rfl⟩)
        go_ret
        exact ⟨rfl, Below.refl _ _⟩
      | true =>
        rw [h2] at hcp
        have HC : Hid (Calls Tryd.prog 71 #[.string s, .string ⟨#[47]⟩] w fun e w' => e = .returned (.tuple #[.string (s.extract 1 s.size), .bool true]) ∧ w' = w) := hcp
        have HIS : Hid (isPa s = (names (s.extract 1 s.size)).all isNm) := by
          show _ = _
          simp only [isPa, decide_eq_true (show s.size ≤ 24 by omega), h1, h2]
          rfl
        have hr : (s.extract 1 s.size).size ≤ 24 := by rw [ByteArray.size_extract]; omega
        generalize s.extract 1 s.size = r at *
        have HSP := hide (split_any r ⟨#[47]⟩ m w (by omega) hm (by decide))
        have hnl := names_len r
        have hcl : Lib.countB r ⟨#[47]⟩ ≤ 24 := Nat.le_trans (Lib.countB_le ⟨#[47]⟩ (by decide) r.size r (Nat.le_refl _)) hr
        have hnew := heap_alloc_new w (.cells ((names r).map Value.string).toArray 9)
        have HCELL : Hid (∀ i (h : i < (names r).length), (w.alloc (.cells ((names r).map Value.string).toArray 9)).cell? ⟨w.heap.size, i, none⟩ = some (.string (names r)[i])) := fun i h => by
          refine cellOf hnew ?_
          simp [h]
        have HNS : Hid (∀ i (h : i < (names r).length), ((names r)[i]).size ≤ 1000) := fun i h => Nat.le_trans (splitB_size _ _ _ _ (List.getElem_mem h)) (by omega)
        have HB : Hid (Below w.heap.size w (w.alloc (.cells ((names r).map Value.string).toArray 9))) := below1 _ _
        have HWN : Hid (w.alloc (.cells ((Lib.splitB ⟨#[47]⟩ 0 (Lib.countB r ⟨#[47]⟩) r).map Value.string).toArray 9) = w.alloc (.cells ((names r).map Value.string).toArray 9)) := rfl
        clear hcp hnew
        go_enter Tryd.func64, Tryd.ntmps64
        go_wp2_with (first
          | (go_at_call 71; refine HC.out.mono ?_; rintro e w1 ⟨rfl, hw1⟩; have hw2 := hw1.symm; clear hw1; subst hw2)
          | (go_at_call 72; refine HSP.out.mono ?_; rintro e w1 ⟨rfl, rfl⟩; rw [HWN.out]))
        have hnl24 : (names r).length ≤ 25 := by omega
        have HFIN : Hid (∀ {x : World}, x = w.alloc (.cells ((names r).map Value.string).toArray 9) → Below w.heap.size w x) := fun h => by rw [h]; exact HB.out
        have hB := HB.out
        clear HSP HC HWN hcl hm HFIN HB
        generalize w.alloc (.cells ((names r).map Value.string).toArray 9) = W at *
        have HB := hide hB
        clear hB
        generalize names r = L at *
        generalize Lib.countB r ⟨#[47]⟩ = C at *
        go_loop [22] (fun i => ∃ k : Nat, k ≤ L.length ∧ i = .int .i64 k ∧ Hid ((L.take k).all isNm = true)) (fun i => L.length - (intOf i).toNat)
        case atStart => exact ⟨0, Nat.zero_le _, rfl, by show _ = _; simp⟩
        case round =>
          obtain ⟨k, hk, rfl, HA⟩ := hrel
          by_cases hlt : k < L.length
          · have hkz : (k : Int) < (C : Int) + 1 := by omega
            have hck := HCELL.out k hlt
            have hst : Hid ((L.take (k + 1)).all isNm = isNm L[k]) := by
              show _ = _
              rw [List.take_succ_eq_append_getElem hlt, List.all_append, HA.out, Bool.true_and]
              simp
            have HNM := hide (isName_any W L[k] (HNS.out k hlt))
            generalize L[k] = P at *
            cases hc : isNm P with
            | true =>
              rw [hc] at hst HNM
              go_wp2_with (go_at_call 73; refine HNM.out.mono ?_; rintro e w1 ⟨rfl, hw1⟩; have hw2 := hw1.symm; clear hw1; subst hw2)
              go_round
              case rel => exact ⟨k + 1, by omega, by go_num, hst⟩
              case measure => first | (simp [intOf]; done) | (simp [intOf]; omega)
            | false =>
              have HF : Hid (isPa s = false) := by
                show _ = _
                have h3 := hst.out
                rw [hc] at h3
                rw [HIS.out, ← List.take_append_drop (k + 1) L, List.all_append, h3, Bool.false_and]
              rw [hc] at HNM
              go_wp2_with (go_at_call 73; refine HNM.out.mono ?_; rintro e w1 ⟨rfl, hw1⟩; have hw2 := hw1.symm; clear hw1; subst hw2)
              go_ret
              exact ⟨ret_bool HF.out.symm, HB.out⟩
          · have hkz : ¬ (k : Int) < (C : Int) + 1 := by omega
            have HF : Hid (isPa s = true) := by
              show _ = _
              rw [HIS.out, ← HA.out, List.take_of_length_le (by omega)]
            go_wp2
            go_ret
            exact ⟨ret_bool HF.out.symm, HB.out⟩
end Go.Proofs.YtbnoghkijgmcgaaDoor
