/- The caller's step. -/
import Derived.Test.YtlghcldiboecoaaGreatDoorKEnc
set_option linter.unusedVariables false
namespace Go.Proofs.YtlghcldiboecoaaGreatDoor
open Go.RowKit

set_option maxRecDepth 8000 in
set_option maxHeartbeats 4000000 in
/-- There is no value: nothing is done. -/
theorem codes_none (w : World) (WB : Nat) (ga : Option Addr) (gc : Nat) (cs : List Value) (a b c : Int) (s t : ByteArray) (hb : w.heap[WB]? = some (.cells (.slice ga 0 gc :: cs).toArray 73)) :
    Calls Tryz.prog 52 #[.pointer (some ⟨WB, 0, none⟩), opv 1 a b c s t] w fun e w' => e = .returned (.bool true) ∧ Below w.heap.size w w' := by
  have hbl := below1 w (.cells #[.int .i64 1, .int .i64 a, .int .i64 b, .int .i64 c, .string s, .string t] 76)
  have hob := heap_alloc_new w (.cells #[.int .i64 1, .int .i64 a, .int .i64 b, .int .i64 c, .string s, .string t] 76)
  have g0 := cellOf (j := 0) ((hbl.block WB (ltOf hb)).trans hb) rfl
  have o0 := cellOf (j := 0) hob rfl
  have HBL := hid hbl
  clear hb hbl hob
  go_enter Tryz.func52, Tryz.ntmps52
  go_wp2
  all_goals go_ret
  all_goals exact ⟨rfl, HBL.out⟩

set_option maxRecDepth 8000 in
set_option maxHeartbeats 4000000 in
/-- A step of kind 1 is codes. -/
theorem step_codes (w : World) (WB : Nat) (a b c : Int) (s t : ByteArray) (R : World → Prop)
    (HC : Hid (∀ W, Below w.heap.size w W → Calls Tryz.prog 52 #[.pointer (some ⟨WB, 0, none⟩), opv 1 a b c s t] W fun e w' => e = .returned (.bool true) ∧ R w')) :
    Calls Tryz.prog 26 #[.pointer (some ⟨WB, 0, none⟩), opv 1 a b c s t] w fun e w' => e = .returned (.bool true) ∧ R w' := by
  have hbl := below1 w (.cells #[.int .i64 1, .int .i64 a, .int .i64 b, .int .i64 c, .string s, .string t] 76)
  have hob := heap_alloc_new w (.cells #[.int .i64 1, .int .i64 a, .int .i64 b, .int .i64 c, .string s, .string t] 76)
  have o0 := cellOf (j := 0) hob rfl
  have o1 := cellOf (j := 1) hob rfl
  have o2 := cellOf (j := 2) hob rfl
  have o3 := cellOf (j := 3) hob rfl
  have o4 := cellOf (j := 4) hob rfl
  have o5 := cellOf (j := 5) hob rfl
  have HBL := hid hbl
  clear hbl hob
  go_enter Tryz.func26, Tryz.ntmps26
  go_wp2_with (go_at_call 52; refine (HC.out _ HBL.out).mono ?_; rintro e w1 ⟨rfl, hr⟩; have HR := hid hr; clear hr)
  all_goals go_ret
  all_goals exact ⟨rfl, HR.out⟩
end Go.Proofs.YtlghcldiboecoaaGreatDoor
