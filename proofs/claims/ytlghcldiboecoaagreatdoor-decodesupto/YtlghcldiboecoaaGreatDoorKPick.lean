/- The caller's books: marks. -/
import Derived.Test.YtlghcldiboecoaaGreatDoorRBytes
import Derived.BigRegion
set_option linter.unusedVariables false
namespace Go.Proofs.YtlghcldiboecoaaGreatDoor
open Go.RowKit

/-- What the caller writes at place i of the n-th list of bytes. -/
def mark (n i : Nat) : UInt8 := if i % 2 = 0 then UInt8.ofNat (1 + n % 251) else UInt8.ofNat (1 + n / 251 % 251)

theorem over_any (w : World) : Calls Tryz.prog 133 #[] w fun e w' => e = .returned (vv (-5) ⟨#[]⟩ (.slice none 0 0)) ∧ Below w.heap.size w w' := by
  go_enter Tryz.func133, Tryz.ntmps133
  go_wp2
  exact bodyPost_ret (v := vv (-5) ⟨#[]⟩ (.slice none 0 0)) (by simp [results, Tryz.results133, go_sem]) rfl ⟨rfl, below1 _ _⟩

theorem num_any (w : World) (n : Int) (h0 : -9223372036854775808 ≤ n) (h1 : n ≤ 9223372036854775807) : Calls Tryz.prog 84 #[.int .i64 n] w fun e w' => e = .returned (.int .i64 n) ∧ w' = w := by
  go_enter Tryz.func84, Tryz.ntmps84
  go_wp2
  all_goals go_ret
  all_goals exact ⟨rfl, rfl⟩

theorem mark_even {n i : Nat} (h : i % 2 = 0) : ((mark n i).toNat : Int) = 1 + n % 251 := by
  unfold mark
  rw [if_pos h, UInt8.toNat_ofNat']
  omega

theorem mark_odd {n i : Nat} (h : ¬ i % 2 = 0) : ((mark n i).toNat : Int) = 1 + n / 251 % 251 := by
  unfold mark
  rw [if_neg h, UInt8.toNat_ofNat']
  omega

theorem markByte_any (w : World) (n i : Nat) (hn : n ≤ 9223372036854775807) (hi : i ≤ 9223372036854775807) : Calls Tryz.prog 114 #[.int .i64 n, .int .i64 i] w fun e w' => e = .returned (.int .u8 (mark n i).toNat) ∧ w' = w := by
  by_cases h : i % 2 = 0
  · rw [mark_even h]
    have hb : (((i : Int) % 2) == 0) = true := by rw [beq_iff_eq]; omega
    go_enter Tryz.func114, Tryz.ntmps114
    go_wp2
    all_goals go_ret
    all_goals exact ⟨rfl, rfl⟩
  · rw [mark_odd h]
    have hb : (((i : Int) % 2) == 0) = false := by rw [beq_eq_false_iff_ne]; omega
    go_enter Tryz.func114, Tryz.ntmps114
    go_wp2
    all_goals go_ret
    all_goals exact ⟨rfl, rfl⟩

set_option maxRecDepth 8000 in
set_option maxHeartbeats 2000000 in
/-- A list that reads as the caller has written it. -/
theorem marked_any (w : World) (la : Option Addr) (ln lc n : Nat) (hn : n ≤ 9223372036854775807) (hl : ln ≤ 9223372036854775806) (hlc : ln ≤ lc)
    (HC : Hid (∀ i, i < ln → ∃ g, la = some ⟨g, 0, none⟩ ∧ g < w.heap.size ∧ w.cell? ⟨g, i, none⟩ = some (.int .u8 (mark n i).toNat))) :
    Calls Tryz.prog 56 #[.slice la ln lc, .int .i64 n] w fun e w' => e = .returned (.bool true) ∧ Below w.heap.size w w' := by
  have HM : Hid (∀ (W : World) (i : Nat), i < ln → Calls Tryz.prog 114 #[.int .i64 n, .int .i64 i] W fun e w' => e = .returned (.int .u8 (mark n i).toNat) ∧ w' = W) := fun W i hi => markByte_any W n i hn (by omega)
  go_enter Tryz.func56, Tryz.ntmps56
  go_wp2
  go_loopw [5] (fun k wr => ∃ i : Nat, k = .int .i64 i ∧ i ≤ ln ∧ Hid (Below w.heap.size w wr)) (fun k _ => ln - (intOf k).toNat)
  case atStart => exact ⟨0, rfl, Nat.zero_le _, Below.refl _ _⟩
  case round =>
    obtain ⟨i, rfl, hi, HB⟩ := hrel
    by_cases hlt : i < ln
    · have hltz : (i : Int) < (ln : Int) := by omega
      obtain ⟨g, hla, hg, hc⟩ := HC.out i hlt
      subst hla
      have hc1 : wr.cell? ⟨g, i, none⟩ = some (.int .u8 (mark n i).toNat) := (HB.out.cell (p := ⟨g, i, none⟩) hg).trans hc
      have HMi : Hid (∀ W : World, Calls Tryz.prog 114 #[.int .i64 n, .int .i64 i] W fun e w' => e = .returned (.int .u8 (mark n i).toNat) ∧ w' = W) := fun W => HM.out W i hlt
      clear hc
      generalize mark n i = mk at *
      go_wp2
      go_region_with (go_at_call 114; refine (HMi.out _).mono ?_; rintro e w1 ⟨rfl, hw1⟩; have hw2 := hw1.symm; clear hw1; subst hw2)
      all_goals go_wp2
      all_goals go_roundw
      all_goals try (case rel => exact ⟨i + 1, by go_num, by omega, by first | exact HB | exact HB.out.drew⟩)
      all_goals try (case measure => simp [intOf]; omega)
    · have hltz : ¬ (i : Int) < (ln : Int) := by omega
      go_wp2
      all_goals go_ret
      all_goals exact ⟨rfl, HB.out⟩
end Go.Proofs.YtlghcldiboecoaaGreatDoor

/- The caller's loans. -/
set_option linter.unusedVariables false
namespace Go.Proofs.YtlghcldiboecoaaGreatDoor
open Go.RowKit

theorem nil22 (W : World) : (binOp .eql 22 (.slice none 0 0) (.slice none 0 0)).run Tryz.prog W = .ok (.bool true) W := by kernel_rfl
theorem some22 (W : World) (a : Addr) (n c : Nat) : (binOp .eql 22 (.slice (some a) n c) (.slice none 0 0)).run Tryz.prog W = .ok (.bool false) W := by kernel_rfl
theorem nnil22 (W : World) : (binOp .neq 22 (.slice none 0 0) (.slice none 0 0)).run Tryz.prog W = .ok (.bool false) W := by kernel_rfl

set_option maxRecDepth 8000 in
set_option maxHeartbeats 2000000 in
/-- A value without a list stands. -/
theorem stands_nil (w : World) (n : Int) (s : ByteArray) :
    Calls Tryz.prog 132 #[vv n s (.slice none 0 0), vv n s (.slice none 0 0)] w fun e w' => e = .returned (.bool true) ∧ Below w.heap.size w w' := by
  obtain ⟨n0, n1⟩ := new2 w (.cells #[.int .i64 n, .string s, .slice none 0 0] 113) (.cells #[.int .i64 n, .string s, .slice none 0 0] 113)
  have a0 := cellOf (j := 0) n0 rfl
  have a1 := cellOf (j := 1) n0 rfl
  have a2 := cellOf (j := 2) n0 rfl
  have b0 := cellOf (j := 0) n1 rfl
  have b1 := cellOf (j := 1) n1 rfl
  have b2 := cellOf (j := 2) n1 rfl
  have HB := hid (below2 w (.cells #[.int .i64 n, .string s, .slice none 0 0] 113) (.cells #[.int .i64 n, .string s, .slice none 0 0] 113))
  have q := nil22 ((w.alloc (.cells #[.int .i64 n, .string s, .slice none 0 0] 113)).alloc (.cells #[.int .i64 n, .string s, .slice none 0 0] 113))
  clear n0 n1
  go_enter Tryz.func132, Tryz.ntmps132
  go_wp2
  refine wp_loop_rounds 1 ?_
  rw [rounds_succ]
  go_wp2
  all_goals go_ret
  all_goals exact ⟨rfl, HB.out⟩

set_option maxRecDepth 8000 in
set_option maxHeartbeats 2000000 in
/-- A value with a list that the caller has written over stands. -/
theorem stands_some (w : World) (n : Int) (s : ByteArray) (oa va : Addr) (ln oc vc : Nat) (hoc : ln ≤ oc) (hl : ln ≤ 140737488355328) (g : Nat) (hg : oa = ⟨g, 0, none⟩) (hgl : g < w.heap.size)
    (HC : Hid (∀ i, i < ln → w.cell? ⟨g, i * 3, none⟩ = some (.int .i64 (-5)) ∧ w.cell? ⟨g, i * 3 + 1, none⟩ = some (.string ⟨#[]⟩) ∧ w.cell? ⟨g, i * 3 + 2, none⟩ = some (.slice none 0 0))) :
    Calls Tryz.prog 132 #[vv n s (.slice (some oa) ln oc), vv n s (.slice (some va) ln vc)] w fun e w' => e = .returned (.bool true) ∧ Below w.heap.size w w' := by
  subst hg
  obtain ⟨n0, n1⟩ := new2 w (.cells #[.int .i64 n, .string s, .slice (some ⟨g, 0, none⟩) ln oc] 113) (.cells #[.int .i64 n, .string s, .slice (some va) ln vc] 113)
  have a0 := cellOf (j := 0) n0 rfl
  have a1 := cellOf (j := 1) n0 rfl
  have a2 := cellOf (j := 2) n0 rfl
  have b0 := cellOf (j := 0) n1 rfl
  have b1 := cellOf (j := 1) n1 rfl
  have b2 := cellOf (j := 2) n1 rfl
  have HB := hid (below2 w (.cells #[.int .i64 n, .string s, .slice (some ⟨g, 0, none⟩) ln oc] 113) (.cells #[.int .i64 n, .string s, .slice (some va) ln vc] 113))
  have q1 := some22 ((w.alloc (.cells #[.int .i64 n, .string s, .slice (some ⟨g, 0, none⟩) ln oc] 113)).alloc (.cells #[.int .i64 n, .string s, .slice (some va) ln vc] 113)) ⟨g, 0, none⟩ ln oc
  have q2 := some22 ((w.alloc (.cells #[.int .i64 n, .string s, .slice (some ⟨g, 0, none⟩) ln oc] 113)).alloc (.cells #[.int .i64 n, .string s, .slice (some va) ln vc] 113)) va ln vc
  have q3 := nnil22 ((w.alloc (.cells #[.int .i64 n, .string s, .slice (some ⟨g, 0, none⟩) ln oc] 113)).alloc (.cells #[.int .i64 n, .string s, .slice (some va) ln vc] 113))
  have HC1 : Hid (∀ i, i < ln → ((w.alloc (.cells #[.int .i64 n, .string s, .slice (some ⟨g, 0, none⟩) ln oc] 113)).alloc (.cells #[.int .i64 n, .string s, .slice (some va) ln vc] 113)).cell? ⟨g, i * 3, none⟩ = some (.int .i64 (-5)) ∧ ((w.alloc (.cells #[.int .i64 n, .string s, .slice (some ⟨g, 0, none⟩) ln oc] 113)).alloc (.cells #[.int .i64 n, .string s, .slice (some va) ln vc] 113)).cell? ⟨g, i * 3 + 1, none⟩ = some (.string ⟨#[]⟩) ∧ ((w.alloc (.cells #[.int .i64 n, .string s, .slice (some ⟨g, 0, none⟩) ln oc] 113)).alloc (.cells #[.int .i64 n, .string s, .slice (some va) ln vc] 113)).cell? ⟨g, i * 3 + 2, none⟩ = some (.slice none 0 0)) := fun i hi => by
    obtain ⟨h0, h1, h2⟩ := HC.out i hi
    exact ⟨(HB.out.cell (p := ⟨g, i * 3, none⟩) hgl).trans h0, (HB.out.cell (p := ⟨g, i * 3 + 1, none⟩) hgl).trans h1, (HB.out.cell (p := ⟨g, i * 3 + 2, none⟩) hgl).trans h2⟩
  clear n0 n1
  go_enter Tryz.func132, Tryz.ntmps132
  go_wp2
  go_loop [5] (fun k => ∃ i : Nat, k = .int .i64 i ∧ i ≤ ln) (fun k => ln - (intOf k).toNat)
  case atStart => exact ⟨0, rfl, Nat.zero_le _⟩
  case round =>
    obtain ⟨i, rfl, hi⟩ := hrel
    by_cases hlt : i < ln
    · have hltz : (i : Int) < (ln : Int) := by omega
      obtain ⟨h0, h1, h2⟩ := HC1.out i hlt
      go_wp2
      all_goals go_round
      case rel => exact ⟨i + 1, by go_num, by omega⟩
      case measure => simp [intOf]; omega
    · have hltz : ¬ (i : Int) < (ln : Int) := by omega
      go_wp2
      all_goals go_ret
      all_goals exact ⟨rfl, HB.out⟩
end Go.Proofs.YtlghcldiboecoaaGreatDoor

/- The caller's choice. -/
set_option linter.unusedVariables false
namespace Go.Proofs.YtlghcldiboecoaaGreatDoor
open Go.RowKit

theorem pick_any (w : World) (c : Int) (n : Nat) (h0 : -9223372036854775808 ≤ c) (h1 : c ≤ 9223372036854775807) (hn : 0 < n) (hn' : n ≤ 9223372036854775807) :
    Calls Tryz.prog 13 #[.int .i64 c, .int .i64 n] w fun e w' => (∃ z : Nat, z < n ∧ e = .returned (.int .i64 z)) ∧ w' = w := by
  have hz : (n : Int) ≠ 0 := by omega
  by_cases hc : c < 0
  · obtain ⟨d, rfl⟩ : ∃ d : Nat, c = -(d + 1 : Int) := ⟨(-(c + 1)).toNat, by omega⟩
    have HZ : Hid (-((-(d + 1 : Int) + 1).tmod n) = ((d % n : Nat) : Int)) := by
      show -((-(d + 1 : Int) + 1).tmod n) = ((d % n : Nat) : Int)
      rw [show (-(d + 1 : Int) + 1) = -(d : Int) by omega, Int.neg_tmod, Int.neg_neg]
      exact (Int.ofNat_tmod d n).symm
    go_enter Tryz.func13, Tryz.ntmps13
    go_wp2
    go_ret
    exact ⟨⟨d % n, Nat.mod_lt _ hn, congrArg (fun z => Ending.returned (Value.int .i64 z)) HZ.out⟩, rfl⟩
  · obtain ⟨d, rfl⟩ : ∃ d : Nat, c = (d : Int) := ⟨c.toNat, by omega⟩
    go_enter Tryz.func13, Tryz.ntmps13
    go_wp2
    go_ret
    exact ⟨⟨d % n, Nat.mod_lt _ hn, rfl⟩, rfl⟩
end Go.Proofs.YtlghcldiboecoaaGreatDoor
