/- The caller's loans. -/
import Derived.Test.YtlghcldiboecoaaGreatDoorKSmall
set_option linter.unusedVariables false
namespace Go.Proofs.YtlghcldiboecoaaGreatDoor
open Go.RowKit

theorem nil22 (W : World) : (binOp .eql 22 (.slice none 0 0) (.slice none 0 0)).run Tryz.prog W = .ok (.bool true) W := by kernel_rfl
theorem some22 (W : World) (a : Addr) (n c : Nat) : (binOp .eql 22 (.slice (some a) n c) (.slice none 0 0)).run Tryz.prog W = .ok (.bool false) W := by kernel_rfl
theorem nnil22 (W : World) : (binOp .neq 22 (.slice none 0 0) (.slice none 0 0)).run Tryz.prog W = .ok (.bool false) W := by kernel_rfl

set_option maxRecDepth 8000 in
set_option maxHeartbeats 2000000 in
/-- A value without a list stands. -/
theorem stands_nil (w : World) (n : Int) (s : ByteArray) :
    Calls Tryz.prog 132 #[vv n s (.slice none 0 0), vv n s (.slice none 0 0)] w fun e w' => e = .returned (.bool true) ∧ Below w.heap.size w w' := by
  obtain ⟨n0, n1⟩ := new2 w (.cells #[.int .i64 n, .string s, .slice none 0 0] 113) (.cells #[.int .i64 n, .string s, .slice none 0 0] 113)
  have a0 := cellOf (j := 0) n0 rfl
  have a1 := cellOf (j := 1) n0 rfl
  have a2 := cellOf (j := 2) n0 rfl
  have b0 := cellOf (j := 0) n1 rfl
  have b1 := cellOf (j := 1) n1 rfl
  have b2 := cellOf (j := 2) n1 rfl
  have HB := hid (below2 w (.cells #[.int .i64 n, .string s, .slice none 0 0] 113) (.cells #[.int .i64 n, .string s, .slice none 0 0] 113))
  have q := nil22 ((w.alloc (.cells #[.int .i64 n, .string s, .slice none 0 0] 113)).alloc (.cells #[.int .i64 n, .string s, .slice none 0 0] 113))
  clear n0 n1
  go_enter Tryz.func132, Tryz.ntmps132
  go_wp2
  refine wp_loop_rounds 1 ?_
  rw [rounds_succ]
  go_wp2
  all_goals go_ret
  all_goals exact ⟨rfl, HB.out⟩

set_option maxRecDepth 8000 in
set_option maxHeartbeats 2000000 in
/-- A value with a list that the caller has written over stands. -/
theorem stands_some (w : World) (n : Int) (s : ByteArray) (oa va : Addr) (ln oc vc : Nat) (hoc : ln ≤ oc) (hl : ln ≤ 140737488355328) (g : Nat) (hg : oa = ⟨g, 0, none⟩) (hgl : g < w.heap.size)
    (HC : Hid (∀ i, i < ln → w.cell? ⟨g, i * 3, none⟩ = some (.int .i64 (-5)) ∧ w.cell? ⟨g, i * 3 + 1, none⟩ = some (.string ⟨#[]⟩) ∧ w.cell? ⟨g, i * 3 + 2, none⟩ = some (.slice none 0 0))) :
    Calls Tryz.prog 132 #[vv n s (.slice (some oa) ln oc), vv n s (.slice (some va) ln vc)] w fun e w' => e = .returned (.bool true) ∧ Below w.heap.size w w' := by
  subst hg
  obtain ⟨n0, n1⟩ := new2 w (.cells #[.int .i64 n, .string s, .slice (some ⟨g, 0, none⟩) ln oc] 113) (.cells #[.int .i64 n, .string s, .slice (some va) ln vc] 113)
  have a0 := cellOf (j := 0) n0 rfl
  have a1 := cellOf (j := 1) n0 rfl
  have a2 := cellOf (j := 2) n0 rfl
  have b0 := cellOf (j := 0) n1 rfl
  have b1 := cellOf (j := 1) n1 rfl
  have b2 := cellOf (j := 2) n1 rfl
  have HB := hid (below2 w (.cells #[.int .i64 n, .string s, .slice (some ⟨g, 0, none⟩) ln oc] 113) (.cells #[.int .i64 n, .string s, .slice (some va) ln vc] 113))
  have q1 := some22 ((w.alloc (.cells #[.int .i64 n, .string s, .slice (some ⟨g, 0, none⟩) ln oc] 113)).alloc (.cells #[.int .i64 n, .string s, .slice (some va) ln vc] 113)) ⟨g, 0, none⟩ ln oc
  have q2 := some22 ((w.alloc (.cells #[.int .i64 n, .string s, .slice (some ⟨g, 0, none⟩) ln oc] 113)).alloc (.cells #[.int .i64 n, .string s, .slice (some va) ln vc] 113)) va ln vc
  have q3 := nnil22 ((w.alloc (.cells #[.int .i64 n, .string s, .slice (some ⟨g, 0, none⟩) ln oc] 113)).alloc (.cells #[.int .i64 n, .string s, .slice (some va) ln vc] 113))
  have HC1 : Hid (∀ i, i < ln → ((w.alloc (.cells #[.int .i64 n, .string s, .slice (some ⟨g, 0, none⟩) ln oc] 113)).alloc (.cells #[.int .i64 n, .string s, .slice (some va) ln vc] 113)).cell? ⟨g, i * 3, none⟩ = some (.int .i64 (-5)) ∧ ((w.alloc (.cells #[.int .i64 n, .string s, .slice (some ⟨g, 0, none⟩) ln oc] 113)).alloc (.cells #[.int .i64 n, .string s, .slice (some va) ln vc] 113)).cell? ⟨g, i * 3 + 1, none⟩ = some (.string ⟨#[]⟩) ∧ ((w.alloc (.cells #[.int .i64 n, .string s, .slice (some ⟨g, 0, none⟩) ln oc] 113)).alloc (.cells #[.int .i64 n, .string s, .slice (some va) ln vc] 113)).cell? ⟨g, i * 3 + 2, none⟩ = some (.slice none 0 0)) := fun i hi => by
    obtain ⟨h0, h1, h2⟩ := HC.out i hi
    exact ⟨(HB.out.cell (p := ⟨g, i * 3, none⟩) hgl).trans h0, (HB.out.cell (p := ⟨g, i * 3 + 1, none⟩) hgl).trans h1, (HB.out.cell (p := ⟨g, i * 3 + 2, none⟩) hgl).trans h2⟩
  clear n0 n1
  go_enter Tryz.func132, Tryz.ntmps132
  go_wp2
  go_loop [5] (fun k => ∃ i : Nat, k = .int .i64 i ∧ i ≤ ln) (fun k => ln - (intOf k).toNat)
  case atStart => exact ⟨0, rfl, Nat.zero_le _⟩
  case round =>
    obtain ⟨i, rfl, hi⟩ := hrel
    by_cases hlt : i < ln
    · have hltz : (i : Int) < (ln : Int) := by omega
      obtain ⟨h0, h1, h2⟩ := HC1.out i hlt
      go_wp2
      all_goals go_round
      case rel => exact ⟨i + 1, by go_num, by omega⟩
      case measure => simp [intOf]; omega
    · have hltz : ¬ (i : Int) < (ln : Int) := by omega
      go_wp2
      all_goals go_ret
      all_goals exact ⟨rfl, HB.out⟩
end Go.Proofs.YtlghcldiboecoaaGreatDoor
