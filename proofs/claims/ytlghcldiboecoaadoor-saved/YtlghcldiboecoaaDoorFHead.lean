/- The sum of bytes. -/
import Derived.Test.YtlghcldiboecoaaDoorPlain
import Derived.Test.YtlghcldiboecoaaDoorTake
import Derived.Test.YtlghcldiboecoaaDoorODec
set_option linter.unusedVariables false
namespace Go.Proofs.YtlghcldiboecoaaDoor
open Go.RowKit

theorem sumP_take (l : List UInt8) (k : Nat) (h : k < l.length) : Orch.sumP (l.take (k + 1)) = Orch.sumStep (Orch.sumP (l.take k)) l[k] := by
  rw [List.take_succ_eq_append_getElem h, Orch.sumP_snoc]

set_option maxRecDepth 8000 in
set_option maxHeartbeats 400000 in
theorem sum_any (w : World) (b off n cap : Nat) (l : List UInt8) (hn : l.length = n) (hl : n ≤ 9223372036854775807) (hb : Bytes w b off l) :
    Calls Tryd.prog 44 #[.slice (some ⟨b, off, none⟩) n cap] w fun e w' => e = .returned (.int .i64 (Orch.sum l)) ∧ w' = w := by
  subst hn
  go_enter Tryd.func44, Tryd.ntmps44
  go_wp2
  go_loop [3, 4, 9] (fun a c i => ∃ k : Nat, k ≤ l.length ∧ i = .int .i64 k ∧ a = .int .i64 (Orch.sumP (l.take k)).1 ∧ c = .int .i64 (Orch.sumP (l.take k)).2) (fun _ _ i => l.length - (intOf i).toNat)
  case atStart => exact ⟨0, Nat.zero_le _, rfl, rfl, rfl⟩
  case round =>
    obtain ⟨k, hk, rfl, rfl, rfl⟩ := hrel
    obtain ⟨h1, h2⟩ := Orch.sumP_lt (l.take k)
    by_cases hlt : k < l.length
    · have hc := hb k hlt
      have hkz : (k : Int) < (l.length : Int) := by omega
      have HS : Hid (Orch.sumP (l.take (k + 1)) = (((Orch.sumP (l.take k)).1 + l[k].toNat) % 65521, ((Orch.sumP (l.take k)).2 + ((Orch.sumP (l.take k)).1 + l[k].toNat) % 65521) % 65521)) := sumP_take l k hlt
      have hc8 : l[k].toNat < 256 := UInt8.toNat_lt _
      generalize (Orch.sumP (l.take k)).1 = A at *
      generalize (Orch.sumP (l.take k)).2 = C at *
      generalize l[k].toNat = X at *
      have e1 : ((A : Int) + (X : Int)).tmod 65521 = (((A + X) % 65521 : Nat) : Int) := by rw [Int.tmod_eq_emod_of_nonneg (by omega)]; omega
      have e2 : ((C : Int) + (((A + X) % 65521 : Nat) : Int)).tmod 65521 = (((C + (A + X) % 65521) % 65521 : Nat) : Int) := by rw [Int.tmod_eq_emod_of_nonneg (by omega)]; omega
      have hm : (A + X) % 65521 < 65521 := Nat.mod_lt _ (by omega)
      have hm2 : (C + (A + X) % 65521) % 65521 < 65521 := Nat.mod_lt _ (by omega)
      go_wp2
      go_round
      case rel => exact ⟨k + 1, by omega, by go_num, val_int (by rw [HS.out]; show _ = (((A + X) % 65521 : Nat) : Int); omega), val_int (by rw [HS.out]; show _ = (((C + (A + X) % 65521) % 65521 : Nat) : Int); omega)⟩
      case measure => first | (simp [intOf]; done) | (simp [intOf]; omega)
    · have hkz : ¬ (k : Int) < (l.length : Int) := by omega
      have he : l.take k = l := List.take_of_length_le (by omega)
      rw [he] at h1 h2 ⊢
      have HE : Hid (Orch.sum l = (Orch.sumP l).2 * 65536 + (Orch.sumP l).1) := rfl
      generalize (Orch.sumP l).1 = A at *
      generalize (Orch.sumP l).2 = C at *
      go_wp2
      go_ret
      exact ⟨ret_int (by rw [HE.out]; omega), rfl⟩
end Go.Proofs.YtlghcldiboecoaaDoor

/- What stands ahead of the sum of a file. -/
set_option linter.unusedVariables false
namespace Go.Proofs.YtlghcldiboecoaaDoor
open Go.RowKit

set_option maxRecDepth 8000 in
set_option maxHeartbeats 1000000 in
theorem wos_short (w : World) (a : Option Addr) (n cap : Nat) (hn : n < 4) :
    Calls Tryd.prog 34 #[.slice a n cap] w fun e w' => e = .returned (.tuple #[.slice none 0 0, .bool false]) ∧ w' = w := by
  have hz : (n : Int) < 4 := by omega
  go_enter Tryd.func34, Tryd.ntmps34
  go_wp2
  exact bodyPost_ret (v := .tuple #[.slice none 0 0, .bool false]) (by simp [results, Tryd.results34, go_sem]) rfl ⟨rfl, rfl⟩

set_option maxRecDepth 8000 in
set_option maxHeartbeats 2000000 in
theorem wos_core (w : World) (b off m cap : Nat) (U S : Nat) (hcap : m + 4 ≤ cap) (hm : m + 4 ≤ 9223372036854775807) (hU : U < 4294967296) (hS : S < 4294967296)
    (HU : Hid (∀ W, Below w.heap.size w W → Calls Tryd.prog 50 #[.slice (some ⟨b, off + m, none⟩) 4 (cap - m)] W fun e w' => e = .returned (.int .u64 U) ∧ w' = W))
    (HS : Hid (∀ W, Below w.heap.size w W → Calls Tryd.prog 44 #[.slice (some ⟨b, off, none⟩) m cap] W fun e w' => e = .returned (.int .i64 S) ∧ w' = W)) :
    Calls Tryd.prog 34 #[.slice (some ⟨b, off, none⟩) (m + 4) cap] w fun e w' => e = .returned (.tuple #[.slice (some ⟨b, off, none⟩) m cap, .bool (decide (U = S))]) ∧ Below w.heap.size w w' := by
  have hz : ¬ ((m + 4 : Nat) : Int) < 4 := by omega
  have h1 : ((m + 4 : Nat) : Int) - 4 = (m : Int) := by omega
  have hmc : (m : Int) ≤ (cap : Int) := by omega
  have hmm : (m : Int) ≤ ((m + 4 : Nat) : Int) := by omega
  have hne : ¬ cap = m := by omega
  have hsub : m + 4 - m = 4 := by omega
  have hB := hide (Below.refl w.heap.size w)
  have HDEC : Hid (((U : Int) == (S : Int)) = decide (U = S)) := by
    show _ = _
    rw [Bool.eq_iff_iff, beq_iff_eq, decide_eq_true_iff]
    omega
  go_enter Tryd.func34, Tryd.ntmps34
  go_wp2
  go_region
  all_goals go_wp2_with fail
  all_goals refine (HU.out _ hB.out.drew).mono ?_
  all_goals rintro e w1 ⟨rfl, rfl⟩
  all_goals go_wp2_with fail
  all_goals refine (HS.out _ hB.out.drew).mono ?_
  all_goals rintro e w1 ⟨rfl, rfl⟩
  all_goals go_wp2
  all_goals exact bodyPost_ret (v := .tuple #[.slice (some ⟨b, off, none⟩) m cap, .bool (decide (U = S))]) (by simp [results, Tryd.results34, go_sem, HDEC.out]) rfl ⟨rfl, hB.out.drew⟩

/-- What withoutSum leaves. -/
theorem wos_any (w : World) (bv : Value) (l : List UInt8) (hl : l.length ≤ 9223372036854775807) (hbv : BsAt w bv l) :
    Calls Tryd.prog 34 #[bv] w fun e w' => (if l.length < 4 then e = .returned (.tuple #[.slice none 0 0, .bool false]) else
      ∃ rv, e = .returned (.tuple #[rv, .bool (decide (Orch.uns (l.drop (l.length - 4)) = Orch.sum (l.take (l.length - 4))))]) ∧ ∀ W, BsAt W bv l → BsAt W rv (l.take (l.length - 4))) ∧ Below w.heap.size w w' := by
  obtain ⟨b, off, cap, rfl, hcap, hlt, hb⟩ := hbv
  by_cases h4 : l.length < 4
  · refine (wos_short w _ _ cap h4).mono ?_
    rintro e w' ⟨rfl, rfl⟩
    rw [if_pos h4]
    exact ⟨rfl, Below.refl _ _⟩
  · obtain ⟨m, hm⟩ : ∃ m, l.length = m + 4 := ⟨l.length - 4, by omega⟩
    simp only [if_neg h4, show l.length - 4 = m by omega]
    rw [hm]
    have hu : Orch.uns (l.drop m) < 4294967296 := by
      have := Orch.uns_lt (l.drop m)
      rw [List.length_drop, show l.length - m = 4 by omega] at this
      exact this
    refine (wos_core w b off m cap (Orch.uns (l.drop m)) (Orch.sum (l.take m)) (by omega) (by omega) hu (Orch.sum_lt _) (fun W hW => unsigned_any W b (off + m) 4 (cap - m) (l.drop m) (by rw [List.length_drop]; omega) (by omega) ?_) (fun W hW => sum_any W b off m cap (l.take m) (by rw [List.length_take]; omega) (by omega) ?_)).mono ?_
    · exact (Bytes.drop (fun i hi => (hW.cell (p := ⟨b, off + i, none⟩) hlt).trans (hb i hi)) m)
    · exact Bytes.take (fun i hi => (hW.cell (p := ⟨b, off + i, none⟩) hlt).trans (hb i hi)) m
    · rintro e w' ⟨rfl, hb'⟩
      refine ⟨⟨_, rfl, fun W hW => ?_⟩, hb'⟩
      obtain ⟨b', off', cap', e', hc', hlt', hby'⟩ := hW
      simp only [Value.slice.injEq, Option.some.injEq, Addr.mk.injEq] at e'
      obtain ⟨⟨rfl, rfl, _⟩, _, rfl⟩ := e'
      exact ⟨b, off, cap, by rw [List.length_take, Nat.min_eq_left (by omega)], by rw [List.length_take]; omega, hlt', hby'.take m⟩
end Go.Proofs.YtlghcldiboecoaaDoor

/- The head of a file. -/
set_option linter.unusedVariables false
namespace Go.Proofs.YtlghcldiboecoaaDoor
open Go.RowKit

set_option maxHeartbeats 400000 in
theorem isVersion_any (w : World) (v : Int) : Calls Tryd.prog 38 #[.int .i64 v] w fun e w' => e = .returned (.bool (decide (1 ≤ v ∧ v ≤ 2))) ∧ w' = w := by
  by_cases h1 : 1 ≤ v
  · by_cases h2 : v ≤ 2
    · go_enter Tryd.func38, Tryd.ntmps38
      go_wp2
      go_ret
      exact ⟨by simp [h1, h2], rfl⟩
    · go_enter Tryd.func38, Tryd.ntmps38
      go_wp2
      go_ret
      exact ⟨by simp [h2], rfl⟩
  · go_enter Tryd.func38, Tryd.ntmps38
    go_wp2
    go_ret
    exact ⟨by simp; omega, rfl⟩

set_option maxHeartbeats 400000 in
theorem hasNotes_any (w : World) (v : Int) : Calls Tryd.prog 39 #[.int .i64 v] w fun e w' => e = .returned (.bool (decide (1 < v))) ∧ w' = w := by
  by_cases h1 : 1 < v
  · go_enter Tryd.func39, Tryd.ntmps39
    go_wp2
    go_ret
    exact ⟨by simp [h1], rfl⟩
  · go_enter Tryd.func39, Tryd.ntmps39
    go_wp2
    go_ret
    exact ⟨by simp [h1], rfl⟩

set_option maxRecDepth 8000 in
set_option maxHeartbeats 1000000 in
theorem rh_sign (w : World) (b off cap : Nat) (hcap : 17 ≤ cap) (S : ByteArray) (hS : (S.toList == [79, 82, 67, 72]) = false)
    (hc : (convert 34 9 (.slice (some ⟨b, off, none⟩) 4 cap)).run Tryd.prog w = .ok (.string S) w) :
    Calls Tryd.prog 35 #[.slice (some ⟨b, off, none⟩) 17 cap] w fun e w' => e = .returned (.tuple #[.int .i64 0, .int .i64 0, .int .i64 0, .bool false]) ∧ w' = w := by
  have hcz : (4 : Int) ≤ (cap : Int) := by omega
  go_enter Tryd.func35, Tryd.ntmps35
  go_wp2
  exact bodyPost_ret (v := .tuple #[.int .i64 0, .int .i64 0, .int .i64 0, .bool false]) (by simp [results, Tryd.results35, go_sem]) rfl ⟨rfl, rfl⟩

set_option maxRecDepth 8000 in
set_option maxHeartbeats 1000000 in
theorem rh_core (w : World) (b off cap : Nat) (hcap : 17 ≤ cap) (U C : Nat) (L : Int) (hU : U < 256) (hC : C < 4294967296)
    (hc : (convert 34 9 (.slice (some ⟨b, off, none⟩) 4 cap)).run Tryd.prog w = .ok (.string ⟨#[79, 82, 67, 72]⟩) w)
    (HU : Hid (Calls Tryd.prog 50 #[.slice (some ⟨b, off + 4, none⟩) 1 (cap - 4)] w fun e w' => e = .returned (.int .u64 U) ∧ w' = w))
    (HL : Hid (Calls Tryd.prog 51 #[.slice (some ⟨b, off + 4 + 1, none⟩) 8 (cap - 4 - 1)] w fun e w' => e = .returned (.int .i64 L) ∧ w' = w))
    (HC : Hid (Calls Tryd.prog 50 #[.slice (some ⟨b, off + 4 + 1 + 8, none⟩) 4 (cap - 4 - 1 - 8)] w fun e w' => e = .returned (.int .u64 C) ∧ w' = w)) :
    Calls Tryd.prog 35 #[.slice (some ⟨b, off, none⟩) 17 cap] w fun e w' => e = .returned (.tuple #[.int .i64 U, .int .i64 L, .int .i64 C, .bool (decide (1 ≤ (U : Int) ∧ (U : Int) ≤ 2))]) ∧ w' = w := by
  have hcz : (4 : Int) ≤ (cap : Int) := by omega
  have h4 : ¬ cap = 4 := by omega
  have h5 : ¬ cap - 4 = 1 := by omega
  have h8 : ¬ cap - 4 - 1 = 8 := by omega
  have hz1 : (1 : Int) ≤ ((cap - 4 : Nat) : Int) := by omega
  have hz8 : (8 : Int) ≤ ((cap - 4 - 1 : Nat) : Int) := by omega
  go_enter Tryd.func35, Tryd.ntmps35
  go_wp2_with fail
  refine HU.out.mono ?_
  rintro e w1 ⟨rfl, rfl⟩
  go_wp2_with fail
  refine HL.out.mono ?_
  rintro e w2 ⟨rfl, rfl⟩
  go_wp2_with fail
  refine HC.out.mono ?_
  rintro e w3 ⟨rfl, rfl⟩
  go_wp2_with fail
  refine (isVersion_any _ _).mono ?_
  rintro e w4 ⟨rfl, rfl⟩
  go_wp2
  exact bodyPost_ret (v := .tuple #[.int .i64 U, .int .i64 L, .int .i64 C, .bool (decide (1 ≤ (U : Int) ∧ (U : Int) ≤ 2))]) (by simp [results, Tryd.results35, go_sem]) rfl ⟨rfl, rfl⟩

/-- The bytes of a list as a string. -/
theorem conv_bytes (w : World) (b off n cap : Nat) (l : List UInt8) (hn : l.length = n) (hb : Bytes w b off l) : (convert 34 9 (.slice (some ⟨b, off, none⟩) n cap)).run Tryd.prog w = .ok (.string ⟨l.toArray⟩) w := by
  subst hn
  have hstr : strOfNums (l.map fun c => (c.toNat : Int)) = (⟨l.toArray⟩ : ByteArray) := by
    unfold strOfNums
    congr 2
    rw [List.map_map]
    conv => rhs; rw [← List.map_id l]
    apply List.map_congr_left
    intro c _
    simp
  have := run_convert_bytes_arg (P := Tryd.prog) w 34 5 Tryd.underlying34 Tryd.underlying5 b off l.length cap (l.map fun c => (c.toNat : Int)) (by simp) (fun i hi => by
    rw [hb i hi, List.getD_eq_getElem?_getD, List.getElem?_map, List.getElem?_eq_getElem hi]
    rfl) 9 Tryd.underlying9
  rw [hstr] at this
  exact this

/-- What the head of a file says: the version, the number, how many nodes. -/
def headOf (l : List UInt8) : Option (Nat × Int × Nat) :=
  if l.take 4 = [79, 82, 67, 72] then
    let v := Orch.uns ((l.drop 4).take 1)
    if 1 ≤ v ∧ v ≤ 2 then some (v, Orch.sgn ((l.drop 5).take 8), Orch.uns (l.drop 13)) else none
  else none

theorem rh_any (w : World) (b off cap : Nat) (hcap : 17 ≤ cap) (l : List UInt8) (hl : l.length = 17) (hb : Bytes w b off l) :
    Calls Tryd.prog 35 #[.slice (some ⟨b, off, none⟩) 17 cap] w fun e w' => (match headOf l with
      | none => ∃ v n c, e = .returned (.tuple #[.int .i64 v, .int .i64 n, .int .i64 c, .bool false])
      | some (v, n, c) => e = .returned (.tuple #[.int .i64 v, .int .i64 n, .int .i64 c, .bool true])) ∧ w' = w := by
  have h4 := conv_bytes w b off 4 cap (l.take 4) (by rw [List.length_take]; omega) (hb.take 4)
  have hd4 : Bytes w b (off + 4) (l.drop 4) := hb.drop 4
  have hd5 : Bytes w b (off + 4 + 1) (l.drop 5) := by have := hd4.drop 1; rwa [List.drop_drop] at this
  have hd13 : Bytes w b (off + 4 + 1 + 8) (l.drop 13) := by have := hd5.drop 8; rwa [List.drop_drop] at this
  have l4 : ((l.drop 4).take 1).length = 1 := by rw [List.length_take, List.length_drop]; omega
  have l5 : ((l.drop 5).take 8).length = 8 := by rw [List.length_take, List.length_drop]; omega
  have l13 : (l.drop 13).length = 4 := by rw [List.length_drop]; omega
  unfold headOf
  by_cases hs : l.take 4 = [79, 82, 67, 72]
  · rw [hs] at h4
    have hu := Orch.uns_lt ((l.drop 4).take 1)
    rw [l4] at hu
    have hc := Orch.uns_lt (l.drop 13)
    rw [l13] at hc
    refine (rh_core w b off cap hcap (Orch.uns ((l.drop 4).take 1)) (Orch.uns (l.drop 13)) (Orch.sgn ((l.drop 5).take 8)) hu hc h4
      (unsigned_any w b (off + 4) 1 (cap - 4) _ l4 (by omega) (hd4.take 1)) (signed_8 w b (off + 4 + 1) (cap - 4 - 1) _ l5 (hd5.take 8)) (unsigned_any w b (off + 4 + 1 + 8) 4 _ _ l13 (by omega) hd13)).mono ?_
    rintro e w' ⟨rfl, rfl⟩
    refine ⟨?_, rfl⟩
    rw [if_pos hs]
    by_cases hv : 1 ≤ Orch.uns ((l.drop 4).take 1) ∧ Orch.uns ((l.drop 4).take 1) ≤ 2
    · simp only [if_pos hv]
      rw [decide_eq_true (by omega)]
    · simp only [if_neg hv]
      rw [decide_eq_false (by omega)]
      exact ⟨_, _, _, rfl⟩
  · refine (rh_sign w b off cap hcap ⟨(l.take 4).toArray⟩ ?_ h4).mono ?_
    · rw [Lib.toList_data]
      simpa using hs
    · rintro e w' ⟨rfl, rfl⟩
      refine ⟨?_, rfl⟩
      rw [if_neg hs]
      exact ⟨0, 0, 0, rfl⟩
end Go.Proofs.YtlghcldiboecoaaDoor
