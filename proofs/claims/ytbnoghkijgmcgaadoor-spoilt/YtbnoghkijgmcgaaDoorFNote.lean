/- Notes, nodes for themselves, the parent of a path. -/
import Derived.Test.YtbnoghkijgmcgaaDoorFPath2
set_option linter.unusedVariables false
namespace Go.Proofs.YtbnoghkijgmcgaaDoor
open Go.RowKit

/-- The last place of a slash among the first k bytes; -1, if there is none. -/
def lastIx (l : List UInt8) : Nat → Int
  | 0 => -1
  | k + 1 => if l[k]? = some 47 then (k : Int) else lastIx l k

theorem lastIx_le (l : List UInt8) : ∀ k, -1 ≤ lastIx l k ∧ lastIx l k < (k : Int)
  | 0 => by simp [lastIx]
  | k + 1 => by
    have := lastIx_le l k
    unfold lastIx
    split <;> omega

theorem lastIx_pos (l : List UInt8) (h : l[0]? = some 47) : ∀ k, 0 < k → 0 ≤ lastIx l k
  | 0, h0 => by omega
  | k + 1, _ => by
    unfold lastIx
    split
    · omega
    · rename_i hn
      cases k with
      | zero => exact absurd h hn
      | succ k => exact lastIx_pos l h (k + 1) (by omega)

set_option maxRecDepth 8000 in
set_option maxHeartbeats 1000000 in
theorem lastByte_in (w : World) (s : ByteArray) (hs : s.size ≤ 140737488355328) : Calls Tryd.prog 80 #[.string s, .int .u8 47] w fun e w' => e = .returned (.int .i64 (lastIx s.data.toList s.size)) ∧ w' = w := by
  have hsl : s.data.toList.length = s.size := (Lib.size_eq s).symm
  go_enter Tryd.func80, Tryd.ntmps80
  go_wp2
  go_loop [5] (fun vi => ∃ k : Nat, k ≤ s.size ∧ vi = .int .i64 ((k : Int) - 1) ∧ Hid (lastIx s.data.toList k = lastIx s.data.toList s.size)) (fun vi => (intOf vi + 1).toNat)
  case atStart => exact ⟨s.size, Nat.le_refl _, rfl, rfl⟩
  case round =>
    obtain ⟨k, hk, rfl, HH⟩ := hrel
    cases k with
    | zero =>
      go_wp2
      go_ret
      exact ⟨ret_int (by rw [← HH.out]; rfl), rfl⟩
    | succ k =>
      rw [show ((k + 1 : Nat) : Int) - 1 = (k : Int) by omega]
      have hlt : k < s.size := by omega
      have hget : s.data.toList[k]? = some s[k] := by
        rw [List.getElem?_eq_getElem (by omega)]
        rfl
      have hc8 : (s[k]).toNat < 256 := UInt8.toNat_lt _
      by_cases hc : ((s[k]).toNat : Int) = 47
      · have HR : Hid (lastIx s.data.toList s.size = (k : Int)) := by
          show _ = _
          rw [← HH.out]
          unfold lastIx
          rw [hget, if_pos]
          congr 1
          apply UInt8.toNat_inj.1
          show (s[k]).toNat = 47
          omega
        go_wp2
        go_ret
        exact ⟨ret_int HR.out.symm, rfl⟩
      · have HR : Hid (lastIx s.data.toList k = lastIx s.data.toList s.size) := by
          show _ = _
          rw [← HH.out]
          conv => rhs; unfold lastIx
          rw [hget, if_neg]
          intro e
          injection e with e
          rw [e] at hc
          exact hc rfl
        go_wp2
        go_round
        case rel => exact ⟨k, by omega, by first | rfl | go_num, HR⟩
        case measure => first | (simp [intOf]; done) | (simp [intOf]; omega)

set_option maxRecDepth 8000 in
set_option maxHeartbeats 1000000 in
theorem lastByte_any (w : World) (s : ByteArray) (hs : s.size ≤ 140737488355328) : Calls Tryd.prog 74 #[.string s, .int .u8 47] w fun e w' => e = .returned (.int .i64 (lastIx s.data.toList s.size)) ∧ w' = w := by
  go_enter Tryd.func74, Tryd.ntmps74
  go_wp2_with (go_at_call 80; refine (lastByte_in w s hs).mono ?_; rintro e w1 ⟨rfl, rfl⟩)
  go_ret
  exact ⟨rfl, rfl⟩

/-- The parent of a path. -/
def parentB (s : ByteArray) : ByteArray := if lastIx s.data.toList s.size = 0 then ⟨#[47]⟩ else s.extract 0 (lastIx s.data.toList s.size).toNat

theorem slash_get {s : ByteArray} (h : slash1 s = true) : s.data.toList[0]? = some 47 ∧ 0 < s.size := by
  unfold slash1 at h
  rw [Bool.and_eq_true, decide_eq_true_iff, beq_iff_eq, Lib.toList_data] at h
  obtain ⟨h1, h2⟩ := h
  refine ⟨?_, by omega⟩
  have := congrArg (fun l => l[0]?) h2
  simpa using this

set_option maxRecDepth 8000 in
set_option maxHeartbeats 1000000 in
theorem parent_any (w : World) (s : ByteArray) (hs : s.size ≤ 140737488355328) (hsl : slash1 s = true) : Calls Tryd.prog 66 #[.string s] w fun e w' => e = .returned (.string (parentB s)) ∧ w' = w := by
  obtain ⟨h0, h1⟩ := slash_get hsl
  have hp := lastIx_pos _ h0 s.size h1
  have hle := (lastIx_le s.data.toList s.size).2
  have HL := hide (lastByte_any w s hs)
  have HP : Hid (parentB s = if lastIx s.data.toList s.size = 0 then ⟨#[47]⟩ else s.extract 0 (lastIx s.data.toList s.size).toNat) := rfl
  obtain ⟨i, hi⟩ : ∃ i : Nat, lastIx s.data.toList s.size = (i : Int) := ⟨(lastIx s.data.toList s.size).toNat, by omega⟩
  rw [hi] at HL HP hle
  by_cases hz : (i : Int) = 0
  · rw [if_pos hz] at HP
    go_enter Tryd.func66, Tryd.ntmps66
    go_wp2_with (go_at_call 74; refine HL.out.mono ?_; rintro e w1 ⟨rfl, rfl⟩)
    go_ret
    exact ⟨by rw [HP.out]; rfl, rfl⟩
  · rw [if_neg hz] at HP
    have hiz : (i : Int) ≤ (s.size : Int) := by omega
    go_enter Tryd.func66, Tryd.ntmps66
    go_wp2_with (go_at_call 74; refine HL.out.mono ?_; rintro e w1 ⟨rfl, rfl⟩)
    go_ret
    exact ⟨by rw [HP.out]; first | rfl | simp, rfl⟩

/-- A note. -/
def isNt (s : ByteArray) : Bool := decide (s.size ≤ 10) && validB s

set_option maxRecDepth 8000 in
set_option maxHeartbeats 1000000 in
theorem isNote_any {Tabs : World → Prop} (U : Utf validB Tabs) (w : World) (hT : Tabs w) (s : ByteArray) : Calls Tryd.prog 65 #[.string s] w fun e w' => e = .returned (.bool (isNt s)) ∧ Below w.heap.size w w' := by
  by_cases h : (s.size : Int) ≤ 10
  · have HV := hide (U.gives s w hT (by omega))
    have HN : Hid (isNt s = validB s) := by show _ = _; simp only [isNt, decide_eq_true (show s.size ≤ 10 by omega)]; rfl
    go_enter Tryd.func65, Tryd.ntmps65
    go_wp2_with (go_at_call 68; refine HV.out.mono ?_; rintro e w1 ⟨rfl, hb⟩; have HB := hide hb; clear hb)
    go_ret
    exact ⟨ret_bool (by rw [HN.out]), HB.out⟩
  · rw [show isNt s = false by simp only [isNt, decide_eq_false (show ¬ s.size ≤ 10 by omega)]; rfl]
    go_enter Tryd.func65, Tryd.ntmps65
    go_wp2
    go_ret
    exact ⟨rfl, Below.refl _ _⟩
end Go.Proofs.YtbnoghkijgmcgaaDoor
