/- The head of a file. -/
import Derived.Test.YtbnoghkijgmcgaaDoorFWos
set_option linter.unusedVariables false
namespace Go.Proofs.YtbnoghkijgmcgaaDoor
open Go.RowKit

set_option maxHeartbeats 400000 in
theorem isVersion_any (w : World) (v : Int) : Calls Tryd.prog 38 #[.int .i64 v] w fun e w' => e = .returned (.bool (decide (1 ≤ v ∧ v ≤ 2))) ∧ w' = w := by
  by_cases h1 : 1 ≤ v
  · by_cases h2 : v ≤ 2
    · go_enter Tryd.func38, Tryd.ntmps38
      go_wp2
      go_ret
      exact ⟨by simp [h1, h2], rfl⟩
    · go_enter Tryd.func38, Tryd.ntmps38
      go_wp2
      go_ret
      exact ⟨by simp [h2], rfl⟩
  · go_enter Tryd.func38, Tryd.ntmps38
    go_wp2
    go_ret
    exact ⟨by simp; omega, rfl⟩

set_option maxHeartbeats 400000 in
theorem hasNotes_any (w : World) (v : Int) : Calls Tryd.prog 39 #[.int .i64 v] w fun e w' => e = .returned (.bool (decide (1 < v))) ∧ w' = w := by
  by_cases h1 : 1 < v
  · go_enter Tryd.func39, Tryd.ntmps39
    go_wp2
    go_ret
    exact ⟨by simp [h1], rfl⟩
  · go_enter Tryd.func39, Tryd.ntmps39
    go_wp2
    go_ret
    exact ⟨by simp [h1], rfl⟩

set_option maxRecDepth 8000 in
set_option maxHeartbeats 1000000 in
theorem rh_sign (w : World) (b off cap : Nat) (hcap : 17 ≤ cap) (S : ByteArray) (hS : (S.toList == [79, 82, 67, 72]) = false)
    (hc : (convert 34 9 (.slice (some ⟨b, off, none⟩) 4 cap)).run Tryd.prog w = .ok (.string S) w) :
    Calls Tryd.prog 35 #[.slice (some ⟨b, off, none⟩) 17 cap] w fun e w' => e = .returned (.tuple #[.int .i64 0, .int .i64 0, .int .i64 0, .bool false]) ∧ w' = w := by
  have hcz : (4 : Int) ≤ (cap : Int) := by omega
  go_enter Tryd.func35, Tryd.ntmps35
  go_wp2
  exact bodyPost_ret (v := .tuple #[.int .i64 0, .int .i64 0, .int .i64 0, .bool false]) (by simp [results, Tryd.results35, go_sem]) rfl ⟨rfl, rfl⟩

set_option maxRecDepth 8000 in
set_option maxHeartbeats 1000000 in
theorem rh_core (w : World) (b off cap : Nat) (hcap : 17 ≤ cap) (U C : Nat) (L : Int) (hU : U < 256) (hC : C < 4294967296)
    (hc : (convert 34 9 (.slice (some ⟨b, off, none⟩) 4 cap)).run Tryd.prog w = .ok (.string ⟨#[79, 82, 67, 72]⟩) w)
    (HU : Hid (Calls Tryd.prog 50 #[.slice (some ⟨b, off + 4, none⟩) 1 (cap - 4)] w fun e w' => e = .returned (.int .u64 U) ∧ w' = w))
    (HL : Hid (Calls Tryd.prog 51 #[.slice (some ⟨b, off + 4 + 1, none⟩) 8 (cap - 4 - 1)] w fun e w' => e = .returned (.int .i64 L) ∧ w' = w))
    (HC : Hid (Calls Tryd.prog 50 #[.slice (some ⟨b, off + 4 + 1 + 8, none⟩) 4 (cap - 4 - 1 - 8)] w fun e w' => e = .returned (.int .u64 C) ∧ w' = w)) :
    Calls Tryd.prog 35 #[.slice (some ⟨b, off, none⟩) 17 cap] w fun e w' => e = .returned (.tuple #[.int .i64 U, .int .i64 L, .int .i64 C, .bool (decide (1 ≤ (U : Int) ∧ (U : Int) ≤ 2))]) ∧ w' = w := by
  have hcz : (4 : Int) ≤ (cap : Int) := by omega
  have h4 : ¬ cap = 4 := by omega
  have h5 : ¬ cap - 4 = 1 := by omega
  have h8 : ¬ cap - 4 - 1 = 8 := by omega
  have hz1 : (1 : Int) ≤ ((cap - 4 : Nat) : Int) := by omega
  have hz8 : (8 : Int) ≤ ((cap - 4 - 1 : Nat) : Int) := by omega
  go_enter Tryd.func35, Tryd.ntmps35
  go_wp2_with fail
  refine HU.out.mono ?_
  rintro e w1 ⟨rfl, rfl⟩
  go_wp2_with fail
  refine HL.out.mono ?_
  rintro e w2 ⟨rfl, rfl⟩
  go_wp2_with fail
  refine HC.out.mono ?_
  rintro e w3 ⟨rfl, rfl⟩
  go_wp2_with fail
  refine (isVersion_any _ _).mono ?_
  rintro e w4 ⟨rfl, rfl⟩
  go_wp2
  exact bodyPost_ret (v := .tuple #[.int .i64 U, .int .i64 L, .int .i64 C, .bool (decide (1 ≤ (U : Int) ∧ (U : Int) ≤ 2))]) (by simp [results, Tryd.results35, go_sem]) rfl ⟨rfl, rfl⟩

/-- The bytes of a list as a string. -/
theorem conv_bytes (w : World) (b off n cap : Nat) (l : List UInt8) (hn : l.length = n) (hb : Bytes w b off l) : (convert 34 9 (.slice (some ⟨b, off, none⟩) n cap)).run Tryd.prog w = .ok (.string ⟨l.toArray⟩) w := by
  subst hn
  have hstr : strOfNums (l.map fun c => (c.toNat : Int)) = (⟨l.toArray⟩ : ByteArray) := by
    unfold strOfNums
    congr 2
    rw [List.map_map]
    conv => rhs; rw [← List.map_id l]
    apply List.map_congr_left
    intro c _
    simp
  have := run_convert_bytes_arg (P := Tryd.prog) w 34 5 Tryd.underlying34 Tryd.underlying5 b off l.length cap (l.map fun c => (c.toNat : Int)) (by simp) (fun i hi => by
    rw [hb i hi, List.getD_eq_getElem?_getD, List.getElem?_map, List.getElem?_eq_getElem hi]
    rfl) 9 Tryd.underlying9
  rw [hstr] at this
  exact this

/-- What the head of a file says: the version, the number, how many nodes. -/
def headOf (l : List UInt8) : Option (Nat × Int × Nat) :=
  if l.take 4 = [79, 82, 67, 72] then
    let v := Orch.uns ((l.drop 4).take 1)
    if 1 ≤ v ∧ v ≤ 2 then some (v, Orch.sgn ((l.drop 5).take 8), Orch.uns (l.drop 13)) else none
  else none

theorem rh_any (w : World) (b off cap : Nat) (hcap : 17 ≤ cap) (l : List UInt8) (hl : l.length = 17) (hb : Bytes w b off l) :
    Calls Tryd.prog 35 #[.slice (some ⟨b, off, none⟩) 17 cap] w fun e w' => (match headOf l with
      | none => ∃ v n c, e = .returned (.tuple #[.int .i64 v, .int .i64 n, .int .i64 c, .bool false])
      | some (v, n, c) => e = .returned (.tuple #[.int .i64 v, .int .i64 n, .int .i64 c, .bool true])) ∧ w' = w := by
  have h4 := conv_bytes w b off 4 cap (l.take 4) (by rw [List.length_take]; omega) (hb.take 4)
  have hd4 : Bytes w b (off + 4) (l.drop 4) := hb.drop 4
  have hd5 : Bytes w b (off + 4 + 1) (l.drop 5) := by have := hd4.drop 1; rwa [List.drop_drop] at this
  have hd13 : Bytes w b (off + 4 + 1 + 8) (l.drop 13) := by have := hd5.drop 8; rwa [List.drop_drop] at this
  have l4 : ((l.drop 4).take 1).length = 1 := by rw [List.length_take, List.length_drop]; omega
  have l5 : ((l.drop 5).take 8).length = 8 := by rw [List.length_take, List.length_drop]; omega
  have l13 : (l.drop 13).length = 4 := by rw [List.length_drop]; omega
  unfold headOf
  by_cases hs : l.take 4 = [79, 82, 67, 72]
  · rw [hs] at h4
    have hu := Orch.uns_lt ((l.drop 4).take 1)
    rw [l4] at hu
    have hc := Orch.uns_lt (l.drop 13)
    rw [l13] at hc
    refine (rh_core w b off cap hcap (Orch.uns ((l.drop 4).take 1)) (Orch.uns (l.drop 13)) (Orch.sgn ((l.drop 5).take 8)) hu hc h4
      (unsigned_any w b (off + 4) 1 (cap - 4) _ l4 (by omega) (hd4.take 1)) (signed_8 w b (off + 4 + 1) (cap - 4 - 1) _ l5 (hd5.take 8)) (unsigned_any w b (off + 4 + 1 + 8) 4 _ _ l13 (by omega) hd13)).mono ?_
    rintro e w' ⟨rfl, rfl⟩
    refine ⟨?_, rfl⟩
    rw [if_pos hs]
    by_cases hv : 1 ≤ Orch.uns ((l.drop 4).take 1) ∧ Orch.uns ((l.drop 4).take 1) ≤ 2
    · simp only [if_pos hv]
      rw [decide_eq_true (by omega)]
    · simp only [if_neg hv]
      rw [decide_eq_false (by omega)]
      exact ⟨_, _, _, rfl⟩
  · refine (rh_sign w b off cap hcap ⟨(l.take 4).toArray⟩ ?_ h4).mono ?_
    · rw [Lib.toList_data]
      simpa using hs
    · rintro e w' ⟨rfl, rfl⟩
      refine ⟨?_, rfl⟩
      rw [if_neg hs]
      exact ⟨0, 0, 0, rfl⟩
end Go.Proofs.YtbnoghkijgmcgaaDoor
