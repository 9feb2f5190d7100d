/- Paths: names, the parts of a path, its parent. -/
import Derived.Test.YtbnoghkijgmcgaaDoorFSplit
import Derived.Test.YtbnoghkijgmcgaaDoorFRead
set_option linter.unusedVariables false
namespace Go.Proofs.YtbnoghkijgmcgaaDoor
open Go.RowKit

/-- A byte that may stand in a name. -/
def nameC (c : Nat) : Bool := decide (97 ≤ c ∧ c ≤ 122) || decide (48 ≤ c ∧ c ≤ 57) || decide (c = 45) || decide (c = 46)
/-- A name. -/
def isNm (s : ByteArray) : Bool := decide (s ≠ ⟨#[]⟩ ∧ s ≠ ⟨#[46]⟩ ∧ s ≠ ⟨#[46, 46]⟩) && s.data.toList.all fun c => nameC c.toNat

set_option maxRecDepth 8000 in
set_option maxHeartbeats 1000000 in
theorem ofName_any (w : World) (c : Nat) (hc : c < 256) : Calls Tryd.prog 79 #[.int .u8 c] w fun e w' => e = .returned (.bool (nameC c)) ∧ w' = w := by
  by_cases h1 : (97 : Int) ≤ c <;> by_cases h2 : (c : Int) ≤ 122 <;> by_cases h3 : (48 : Int) ≤ c <;> by_cases h4 : (c : Int) ≤ 57 <;> by_cases h5 : (c : Int) = 45 <;> by_cases h6 : (c : Int) = 46
  all_goals first
    | (exfalso; omega)
    | (rw [show nameC c = true by simp [nameC]; omega]
       go_enter Tryd.func79, Tryd.ntmps79
       go_wp2
       go_ret
       exact ⟨by first | rfl | simp_all, rfl⟩)
    | (rw [show nameC c = false by simp [nameC]; omega]
       go_enter Tryd.func79, Tryd.ntmps79
       go_wp2
       go_ret
       exact ⟨by first | rfl | simp_all, rfl⟩)

theorem name_byte (s : ByteArray) (k : Nat) (h : k < s.size) : (s[k]'h).toNat < 256 := UInt8.toNat_lt _

theorem all_take (l : List UInt8) (k : Nat) (h : k < l.length) : (l.take (k + 1)).all (fun c => nameC c.toNat) = ((l.take k).all (fun c => nameC c.toNat) && nameC l[k].toNat) := by
  rw [List.take_succ_eq_append_getElem h, List.all_append]
  simp

theorem toList_lit (s : ByteArray) (l : List UInt8) : (s.toList == l) = decide (s = ⟨l.toArray⟩) := by
  rw [Lib.toList_data, Bool.eq_iff_iff, beq_iff_eq, decide_eq_true_iff]
  constructor
  · intro h
    apply ByteArray.ext
    apply Array.toList_inj.1
    simpa using h
  · intro h
    rw [h]

set_option maxRecDepth 8000 in
set_option maxHeartbeats 2000000 in
theorem isName_any (w : World) (s : ByteArray) (hs : s.size ≤ 1000) : Calls Tryd.prog 73 #[.string s] w fun e w' => e = .returned (.bool (isNm s)) ∧ w' = w := by
  by_cases h0 : s.toList == []
  · have hn : isNm s = false := by
      rw [toList_lit] at h0
      simp [isNm, of_decide_eq_true h0]
    rw [hn]
    go_enter Tryd.func73, Tryd.ntmps73
    go_wp2
    go_ret
    exact ⟨rfl, rfl⟩
  · by_cases h1 : s.toList == [46]
    · have hn : isNm s = false := by
        rw [toList_lit] at h1
        simp [isNm, of_decide_eq_true h1]
      rw [hn]
      go_enter Tryd.func73, Tryd.ntmps73
      go_wp2
      go_ret
      exact ⟨rfl, rfl⟩
    · by_cases h2 : s.toList == [46, 46]
      · have hn : isNm s = false := by
          rw [toList_lit] at h2
          simp [isNm, of_decide_eq_true h2]
        rw [hn]
        go_enter Tryd.func73, Tryd.ntmps73
        go_wp2
        go_ret
        exact ⟨rfl, rfl⟩
      · have HN : Hid (isNm s = s.data.toList.all fun c => nameC c.toNat) := by
          show _ = _
          have g0 := h0
          have g1 := h1
          have g2 := h2
          rw [toList_lit, decide_eq_true_iff] at g0 g1 g2
          unfold isNm
          rw [decide_eq_true ⟨g0, g1, g2⟩, Bool.true_and]
        have hsl : s.data.toList.length = s.size := (Lib.size_eq s).symm
        go_enter Tryd.func73, Tryd.ntmps73
        go_wp2
        go_loop [16] (fun i => ∃ k : Nat, k ≤ s.size ∧ i = .int .i64 k ∧ Hid ((s.data.toList.take k).all (fun c => nameC c.toNat) = true)) (fun i => s.size - (intOf i).toNat)
        case atStart => exact ⟨0, Nat.zero_le _, rfl, by show _ = _; simp⟩
        case round =>
          obtain ⟨k, hk, rfl, HA⟩ := hrel
          by_cases hlt : k < s.size
          · have hkz : (k : Int) < (s.size : Int) := by omega
            have hlt' : k < s.data.toList.length := by omega
            have hst : Hid ((s.data.toList.take (k + 1)).all (fun c => nameC c.toNat) = nameC s[k].toNat) := by
              show _ = _
              rw [all_take _ _ hlt', HA.out, Bool.true_and]
              rfl
            cases hc : nameC s[k].toNat with
            | true =>
              rw [hc] at hst
              go_wp2_with (go_at_call 79; refine (ofName_any w s[k].toNat (UInt8.toNat_lt _)).mono ?_; rintro e w1 ⟨rfl, rfl⟩; rw [hc])
              go_round
              case rel => exact ⟨k + 1, by omega, by go_num, hst⟩
              case measure => first | (simp [intOf]; done) | (simp [intOf]; omega)
            | false =>
              have HF : Hid (isNm s = false) := by
                show _ = _
                rw [HN.out]
                have h3 := hst.out
                rw [hc] at h3
                rw [← List.take_append_drop (k + 1) s.data.toList, List.all_append, h3, Bool.false_and]
              go_wp2_with (go_at_call 79; refine (ofName_any w s[k].toNat (UInt8.toNat_lt _)).mono ?_; rintro e w1 ⟨rfl, rfl⟩; rw [hc])
              go_ret
              exact ⟨ret_bool HF.out.symm, rfl⟩
          · have hkz : ¬ (k : Int) < (s.size : Int) := by omega
            have HF : Hid (isNm s = true) := by
              show _ = _
              rw [HN.out, ← HA.out, List.take_of_length_le (by omega)]
            go_wp2
            go_ret
            exact ⟨ret_bool HF.out.symm, rfl⟩
end Go.Proofs.YtbnoghkijgmcgaaDoor
