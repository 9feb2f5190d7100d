/- Walks of fits and what it calls. -/
import Derived.Test.YtbnoghkijgmcgaaDoorNum
import Derived.Deep.Light
import Derived.Lib.Strings
set_option linter.unusedSimpArgs false
namespace Go.Proofs.YtbnoghkijgmcgaaDoor
open Go.RowKit

abbrev ltv (sg sh sz lo hi : Int) (tx : Bool) (fn : Int) : Value := .agg #[.int .u8 sg, .int .i64 sh, .int .i64 sz, .int .i64 lo, .int .i64 hi, .bool tx, .int .u8 fn]
abbrev tyv (sg sh sz lo hi : Int) (tx : Bool) (fn : Int) (ps : Value) : Value := .agg #[.int .u8 sg, .int .i64 sh, .int .i64 sz, .int .i64 lo, .int .i64 hi, .bool tx, .int .u8 fn, ps]
abbrev vv (n : Int) (s : ByteArray) (l : Value) : Value := .agg #[.int .i64 n, .string s, l]

/-- How many of the first blocks are the program's variables, up to the tables of utf8. -/
def gTop : Nat := 4

/-- What is asked of utf8.ValidString and of the worlds in which it is called. -/
structure Utf (valid : ByteArray → Bool) (Tabs : World → Prop) : Prop where
  gives : ∀ (s : ByteArray) (w : World), Tabs w → s.size ≤ 200 → Calls Tryd.prog 68 #[.string s] w fun e w' => e = .returned (.bool (valid s)) ∧ Below w.heap.size w w'
  kept : ∀ {B : Nat} {w w' : World}, gTop ≤ B → Below B w w' → Tabs w → Tabs w'
  size : ∀ {w : World}, Tabs w → gTop ≤ w.heap.size

theorem ret_bool {a b : Bool} (h : a = b) : Ending.returned (.bool a) = .returned (.bool b) := by rw [h]
theorem toList_nil (s : ByteArray) : s.toList = [] ↔ s.size = 0 := by
  rw [Lib.toList_data, Lib.size_eq]; exact List.length_eq_zero_iff.symm

theorem below1 (w : World) (o : Obj) : Below w.heap.size w (w.alloc o) := (Below.refl _ _).alloc (Nat.le_refl _) o
theorem below2 (w : World) (o o' : Obj) : Below w.heap.size w ((w.alloc o).alloc o') := (below1 w o).alloc (by simp) o'
theorem below3 (w : World) (o o' o'' : Obj) : Below w.heap.size w (((w.alloc o).alloc o').alloc o'') := (below2 w o o').alloc (by simp; omega) o''

section
variable {valid : ByteArray → Bool} {Tabs : World → Prop}

set_option maxHeartbeats 400000 in
theorem fitsBytes_any (U : Utf valid Tabs) (w : World) (hT : Tabs w) (sg sh sz lo hi : Int) (tx : Bool) (fn : Int) (s : ByteArray) :
    Calls Tryd.prog 58 #[ltv sg sh sz lo hi tx fn, .string s] w fun e w' =>
      e = .returned (.bool (decide (s.size ≤ 200) && (!tx || valid s))) ∧ Below w.heap.size w w' := by
  by_cases h2 : s.size ≤ 200
  · have h2z : (s.size : Int) ≤ 200 := by omega
    rw [decide_eq_true h2, Bool.true_and]
    cases tx
    · clear hT
      go_enter Tryd.func58, Tryd.ntmps58
      go_wp2
      go_ret
      exact ⟨ret_bool (by simp), below1 _ _⟩
    · have hT1 : Tabs (w.alloc (.cells #[.int .u8 sg, .int .i64 sh, .int .i64 sz, .int .i64 lo, .int .i64 hi, .bool true, .int .u8 fn] 59)) := U.kept (U.size hT) (below1 _ _) hT
      have cV := U.gives s _ hT1 h2
      generalize valid s = V at *
      clear hT hT1
      go_enter Tryd.func58, Tryd.ntmps58
      go_wp2_with (go_at_call 68; refine cV.mono ?_; rintro e w' ⟨rfl, hb⟩)
      go_ret
      exact ⟨ret_bool (by simp), (below1 _ _).trans (hb.mono (by simp))⟩
  · have h2z : ¬ (s.size : Int) ≤ 200 := by omega
    rw [decide_eq_false h2, Bool.false_and]
    clear hT
    go_enter Tryd.func58, Tryd.ntmps58
    go_wp2
    go_ret
    exact ⟨ret_bool rfl, below1 _ _⟩

set_option maxHeartbeats 400000 in
theorem fits_0 (w : World) (sg sz lo hi : Int) (tx : Bool) (fn : Int) (pa la : Option Addr) (pn pc ln lc : Nat) (n : Int) (s : ByteArray) :
    Calls Tryd.prog 47 #[tyv sg 0 sz lo hi tx fn (.slice pa pn pc), vv n s (.slice la ln lc)] w fun e w' =>
      e = .returned (.bool (decide (lo ≤ n) && decide (n ≤ hi) && decide (s.size = 0) && decide (ln = 0))) ∧ Below w.heap.size w w' := by
  obtain ⟨R, hR⟩ : ∃ R, (decide (lo ≤ n) && decide (n ≤ hi) && decide (s.size = 0) && decide (ln = 0)) = R := ⟨_, rfl⟩
  rw [hR]
  have HR : Hid ((decide (lo ≤ n) && decide (n ≤ hi) && decide (s.size = 0) && decide (ln = 0)) = R) := hR
  clear hR
  go_enter Tryd.func47, Tryd.ntmps47
  go_wp2
  all_goals go_ret
  all_goals refine ⟨ret_bool ?_, below3 _ _ _ _⟩
  all_goals rw [← HR.out]
  all_goals clear HR
  all_goals go_light
  all_goals try simp only [toList_nil] at *
  all_goals (rw [Bool.eq_iff_iff]; simp only [Bool.and_eq_true, decide_eq_true_eq, beq_iff_eq, Bool.false_eq_true]; first | omega | (rw [false_iff]; omega))

set_option maxHeartbeats 400000 in
theorem fits_2 (w : World) (sg sz lo hi : Int) (tx : Bool) (fn : Int) (pa la : Option Addr) (pn pc ln lc : Nat) (n : Int) (s : ByteArray) :
    Calls Tryd.prog 47 #[tyv sg 2 sz lo hi tx fn (.slice pa pn pc), vv n s (.slice la ln lc)] w fun e w' =>
      e = .returned (.bool (decide (n = 0) && decide (s.size = 0) && decide (ln ≤ 32))) ∧ Below w.heap.size w w' := by
  obtain ⟨R, hR⟩ : ∃ R, (decide (n = 0) && decide (s.size = 0) && decide (ln ≤ 32)) = R := ⟨_, rfl⟩
  rw [hR]
  have HR : Hid ((decide (n = 0) && decide (s.size = 0) && decide (ln ≤ 32)) = R) := hR
  clear hR
  go_enter Tryd.func47, Tryd.ntmps47
  go_wp2
  all_goals go_ret
  all_goals refine ⟨ret_bool ?_, below3 _ _ _ _⟩
  all_goals rw [← HR.out]
  all_goals clear HR
  all_goals go_light
  all_goals try simp only [toList_nil] at *
  all_goals (rw [Bool.eq_iff_iff]; simp only [Bool.and_eq_true, decide_eq_true_eq, beq_iff_eq, Bool.false_eq_true]; first | omega | (rw [false_iff]; omega))

set_option maxHeartbeats 400000 in
theorem fits_3 (w : World) (sg sz lo hi : Int) (tx : Bool) (fn : Int) (pa la : Option Addr) (pn pc ln lc : Nat) (n : Int) (s : ByteArray) :
    Calls Tryd.prog 47 #[tyv sg 3 sz lo hi tx fn (.slice pa pn pc), vv n s (.slice la ln lc)] w fun e w' =>
      e = .returned (.bool (decide (n = 0) && decide (s.size = 0) && decide (ln = pn))) ∧ Below w.heap.size w w' := by
  obtain ⟨R, hR⟩ : ∃ R, (decide (n = 0) && decide (s.size = 0) && decide (ln = pn)) = R := ⟨_, rfl⟩
  rw [hR]
  have HR : Hid ((decide (n = 0) && decide (s.size = 0) && decide (ln = pn)) = R) := hR
  clear hR
  go_enter Tryd.func47, Tryd.ntmps47
  go_wp2
  all_goals go_ret
  all_goals refine ⟨ret_bool ?_, below3 _ _ _ _⟩
  all_goals rw [← HR.out]
  all_goals clear HR
  all_goals go_light
  all_goals try simp only [toList_nil] at *
  all_goals (rw [Bool.eq_iff_iff]; simp only [Bool.and_eq_true, decide_eq_true_eq, beq_iff_eq, Bool.false_eq_true]; first | omega | (rw [false_iff]; omega))

set_option maxHeartbeats 400000 in
theorem fits_1 (U : Utf valid Tabs) (w : World) (hT : Tabs w) (sg sz lo hi : Int) (tx : Bool) (fn : Int) (pa la : Option Addr) (pn pc ln lc : Nat) (n : Int) (s : ByteArray) :
    Calls Tryd.prog 47 #[tyv sg 1 sz lo hi tx fn (.slice pa pn pc), vv n s (.slice la ln lc)] w fun e w' =>
      e = .returned (.bool (decide (n = 0) && (decide (s.size ≤ 200) && (!tx || valid s)) && decide (ln = 0))) ∧ Below w.heap.size w w' := by
  have HB : Hid (∀ w', Tabs w' → Calls Tryd.prog 58 #[ltv sg 1 sz lo hi tx fn, .string s] w' fun e w'' => e = .returned (.bool (decide (s.size ≤ 200) && (!tx || valid s))) ∧ Below w'.heap.size w' w'') := fun w' h => fitsBytes_any U w' h sg 1 sz lo hi tx fn s
  generalize (decide (s.size ≤ 200) && (!tx || valid s)) = FB at *
  by_cases hn : n = 0
  · subst hn
    have HT : Hid (Tabs (((w.alloc (.cells #[.int .u8 sg, .int .i64 1, .int .i64 sz, .int .i64 lo, .int .i64 hi, .bool tx, .int .u8 fn, .slice pa pn pc] 62)).alloc (.cells #[.int .i64 0, .string s, .slice la ln lc] 31)).alloc (.cells #[.int .u8 sg, .int .i64 1, .int .i64 sz, .int .i64 lo, .int .i64 hi, .bool tx, .int .u8 fn] 59))) := U.kept (U.size hT) (below3 _ _ _ _) hT
    clear hT
    go_enter Tryd.func47, Tryd.ntmps47
    go_wp2_with (go_at_call 58; refine (HB.out _ ?hT).mono ?_)
    case hT => exact HT.out
    rintro e w' ⟨rfl, hb⟩
    have hbb : Below w.heap.size w w' := (below3 _ _ _ _).trans (hb.mono (by simp; omega))
    have hc2 : w'.cell? ⟨w.heap.size + 1, 2, none⟩ = some (.slice la ln lc) := (hb.cell (p := ⟨w.heap.size + 1, 2, none⟩) (by simp)).trans (by rw [World.cell?_alloc_past _ _ _ (by simp), World.cell?_alloc_at _ _ _ _ (by simp)]; rfl)
    clear hb HT HB
    cases FB
    · go_wp2
      go_ret
      exact ⟨ret_bool (by simp), hbb⟩
    · go_wp2
      go_ret
      refine ⟨ret_bool ?_, hbb⟩
      rw [Bool.eq_iff_iff]; simp
  · have hn' : (n == 0) = false := by simpa using hn
    rw [decide_eq_false hn, Bool.false_and, Bool.false_and]
    clear hT HB hn
    go_enter Tryd.func47, Tryd.ntmps47
    go_wp2
    go_ret
    exact ⟨ret_bool rfl, below3 _ _ _ _⟩

end
end Go.Proofs.YtbnoghkijgmcgaaDoor
