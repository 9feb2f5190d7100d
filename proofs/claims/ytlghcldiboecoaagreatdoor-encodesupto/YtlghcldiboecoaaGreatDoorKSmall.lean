/- The caller's books: marks. -/
import Derived.Test.YtlghcldiboecoaaGreatDoorRBytes
import Derived.BigRegion
set_option linter.unusedVariables false
namespace Go.Proofs.YtlghcldiboecoaaGreatDoor
open Go.RowKit

/-- What the caller writes at place i of the n-th list of bytes. -/
def mark (n i : Nat) : UInt8 := if i % 2 = 0 then UInt8.ofNat (1 + n % 251) else UInt8.ofNat (1 + n / 251 % 251)

theorem over_any (w : World) : Calls Tryz.prog 133 #[] w fun e w' => e = .returned (vv (-5) ⟨#[]⟩ (.slice none 0 0)) ∧ Below w.heap.size w w' := by
  go_enter Tryz.func133, Tryz.ntmps133
  go_wp2
  exact bodyPost_ret (v := vv (-5) ⟨#[]⟩ (.slice none 0 0)) (by simp [results, Tryz.results133, go_sem]) rfl ⟨rfl, below1 _ _⟩

theorem num_any (w : World) (n : Int) (h0 : -9223372036854775808 ≤ n) (h1 : n ≤ 9223372036854775807) : Calls Tryz.prog 84 #[.int .i64 n] w fun e w' => e = .returned (.int .i64 n) ∧ w' = w := by
  go_enter Tryz.func84, Tryz.ntmps84
  go_wp2
  all_goals go_ret
  all_goals exact ⟨rfl, rfl⟩

theorem mark_even {n i : Nat} (h : i % 2 = 0) : ((mark n i).toNat : Int) = 1 + n % 251 := by
  unfold mark
  rw [if_pos h, UInt8.toNat_ofNat']
  omega

theorem mark_odd {n i : Nat} (h : ¬ i % 2 = 0) : ((mark n i).toNat : Int) = 1 + n / 251 % 251 := by
  unfold mark
  rw [if_neg h, UInt8.toNat_ofNat']
  omega

theorem markByte_any (w : World) (n i : Nat) (hn : n ≤ 9223372036854775807) (hi : i ≤ 9223372036854775807) : Calls Tryz.prog 114 #[.int .i64 n, .int .i64 i] w fun e w' => e = .returned (.int .u8 (mark n i).toNat) ∧ w' = w := by
  by_cases h : i % 2 = 0
  · rw [mark_even h]
    have hb : (((i : Int) % 2) == 0) = true := by rw [beq_iff_eq]; omega
    go_enter Tryz.func114, Tryz.ntmps114
    go_wp2
    all_goals go_ret
    all_goals exact ⟨rfl, rfl⟩
  · rw [mark_odd h]
    have hb : (((i : Int) % 2) == 0) = false := by rw [beq_eq_false_iff_ne]; omega
    go_enter Tryz.func114, Tryz.ntmps114
    go_wp2
    all_goals go_ret
    all_goals exact ⟨rfl, rfl⟩

set_option maxRecDepth 8000 in
set_option maxHeartbeats 2000000 in
/-- A list that reads as the caller has written it. -/
theorem marked_any (w : World) (la : Option Addr) (ln lc n : Nat) (hn : n ≤ 9223372036854775807) (hl : ln ≤ 9223372036854775806) (hlc : ln ≤ lc)
    (HC : Hid (∀ i, i < ln → ∃ g, la = some ⟨g, 0, none⟩ ∧ g < w.heap.size ∧ w.cell? ⟨g, i, none⟩ = some (.int .u8 (mark n i).toNat))) :
    Calls Tryz.prog 56 #[.slice la ln lc, .int .i64 n] w fun e w' => e = .returned (.bool true) ∧ Below w.heap.size w w' := by
  have HM : Hid (∀ (W : World) (i : Nat), i < ln → Calls Tryz.prog 114 #[.int .i64 n, .int .i64 i] W fun e w' => e = .returned (.int .u8 (mark n i).toNat) ∧ w' = W) := fun W i hi => markByte_any W n i hn (by omega)
  go_enter Tryz.func56, Tryz.ntmps56
  go_wp2
  go_loopw [5] (fun k wr => ∃ i : Nat, k = .int .i64 i ∧ i ≤ ln ∧ Hid (Below w.heap.size w wr)) (fun k _ => ln - (intOf k).toNat)
  case atStart => exact ⟨0, rfl, Nat.zero_le _, Below.refl _ _⟩
  case round =>
    obtain ⟨i, rfl, hi, HB⟩ := hrel
    by_cases hlt : i < ln
    · have hltz : (i : Int) < (ln : Int) := by omega
      obtain ⟨g, hla, hg, hc⟩ := HC.out i hlt
      subst hla
      have hc1 : wr.cell? ⟨g, i, none⟩ = some (.int .u8 (mark n i).toNat) := (HB.out.cell (p := ⟨g, i, none⟩) hg).trans hc
      have HMi : Hid (∀ W : World, Calls Tryz.prog 114 #[.int .i64 n, .int .i64 i] W fun e w' => e = .returned (.int .u8 (mark n i).toNat) ∧ w' = W) := fun W => HM.out W i hlt
      clear hc
      generalize mark n i = mk at *
      go_wp2
      go_region_with (go_at_call 114; refine (HMi.out _).mono ?_; rintro e w1 ⟨rfl, hw1⟩; have hw2 := hw1.symm; clear hw1; subst hw2)
      all_goals go_wp2
      all_goals go_roundw
      all_goals try (case rel => exact ⟨i + 1, by go_num, by omega, by first | exact HB | exact HB.out.drew⟩)
      all_goals try (case measure => simp [intOf]; omega)
    · have hltz : ¬ (i : Int) < (ln : Int) := by omega
      go_wp2
      all_goals go_ret
      all_goals exact ⟨rfl, HB.out⟩
end Go.Proofs.YtlghcldiboecoaaGreatDoor
