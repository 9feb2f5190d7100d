/- The document's answer: a value that is none of a vector or a record. -/
import Derived.Test.YtlghcldiboecoaaGreatDoorRLeaf
set_option linter.unusedVariables false
namespace Go.Proofs.YtlghcldiboecoaaGreatDoor
open Go.RowKit

set_option maxRecDepth 8000 in
set_option maxHeartbeats 4000000 in
theorem laid_no (w : World) (T : ByteArray) (hT0 : 1 ≤ T.size) (hb : T[0] = 91 ∨ T[0] = 40) (n : Int) (s : ByteArray) (la : Option Addr) (ln lc : Nat) (bad : n ≠ 0 ∨ s.size ≠ 0 ∨ (T[0] = 91 ∧ 32 < ln)) :
    Calls Tryz.prog 128 #[.string T, vv n s (.slice la ln lc)] w fun e w' => ldRes w.heap.size w' 208 e none ∧ Below w.heap.size w w' := by
  have hnew := heap_alloc_new w (.cells #[.int .i64 n, .string s, .slice la ln lc] 113)
  have hbl := below1 w (.cells #[.int .i64 n, .string s, .slice la ln lc] 113)
  have c0 := cellOf (j := 0) hnew rfl
  have c1 := cellOf (j := 1) hnew rfl
  have c2 := cellOf (j := 2) hnew rfl
  have HB := hid hbl
  have q : ∀ z : UInt8, z ≠ 91 → z ≠ 40 → ((T[0].toNat : Int) == z.toNat) = false := fun z h1 h2 => by
    rw [beq_eq_false_iff_ne]
    intro h
    have h3 : T[0] = z := UInt8.toNat_inj.1 (by omega)
    rcases hb with h | h
    · exact h1 (h3.symm.trans h)
    · exact h2 (h3.symm.trans h)
  have q0 : ((T[0].toNat : Int) == 63) = false := q 63 (by decide) (by decide)
  have q1 : ((T[0].toNat : Int) == 52) = false := q 52 (by decide) (by decide)
  have q2 : ((T[0].toNat : Int) == 56) = false := q 56 (by decide) (by decide)
  have q3 : ((T[0].toNat : Int) == 98) = false := q 98 (by decide) (by decide)
  have q4 : ((T[0].toNat : Int) == 116) = false := q 116 (by decide) (by decide)
  clear q hnew hbl
  by_cases hn : n = 0
  · subst hn
    by_cases hs : s.size = 0
    · obtain rfl := empty_of hs
      rcases bad with h | h | ⟨h, hl⟩
      · exact absurd rfl h
      · exact absurd hs h
      have q5 : ((T[0].toNat : Int) == 91) = true := by rw [h]; rfl
      have hl32 : (ln : Int) > 32 := by omega
      have hld : decide ((ln : Int) > 32) = true := decide_eq_true hl32
      clear h hb
      go_enter Tryz.func128, Tryz.ntmps128
      go_wp2
      all_goals go_ret2
      all_goals exact ⟨ld_none rfl, HB.out⟩
    · have bs : s.toList.isEmpty = false := by rw [List.isEmpty_eq_false_iff]; exact fun h => hs ((toList_nil s).1 h)
      clear bad hb
      go_enter Tryz.func128, Tryz.ntmps128
      go_wp2
      all_goals go_ret2
      all_goals exact ⟨ld_none rfl, HB.out⟩
  · have bn : (n == 0) = false := by simpa using hn
    clear bad hb
    go_enter Tryz.func128, Tryz.ntmps128
    go_wp2
    all_goals go_ret2
    all_goals exact ⟨ld_none rfl, HB.out⟩
end Go.Proofs.YtlghcldiboecoaaGreatDoor
