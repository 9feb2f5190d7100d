/- Disks: one act, walked: acted (16). -/
import Derived.Test.YtlghcldiboecoaaGreatDoorQ04
set_option linter.unusedVariables false
set_option linter.unusedSimpArgs false
namespace Go.Proofs.YtlghcldiboecoaaGreatDoor
open Go.RowKit

theorem two_below (w : World) (a b : Obj) : Below w.heap.size w ((w.alloc a).alloc b) := (below1 w a).trans ((below1 _ b).mono (by simp))
theorem two_first (w : World) (a b : Obj) : ((w.alloc a).alloc b).heap[w.heap.size]? = some a := ((below1 (w.alloc a) b).block _ (by simp)).trans (heap_alloc_new w a)
theorem two_second (w : World) (a b : Obj) : ((w.alloc a).alloc b).heap[w.heap.size + 1]? = some b := by
  have := heap_alloc_new (w.alloc a) b
  simpa using this

set_option maxRecDepth 8000 in
set_option maxHeartbeats 4000000 in
theorem walk_app (w : World) (db hb rb : Nat) (on x : Int) (s t : ByteArray) (b : Bool) (R : World → Prop)
    (h : Calls Tryz.prog 28 #[.pointer (some ⟨db, 0, none⟩), .string s, .string t] ((w.alloc (.cells #[.pointer (some ⟨db, 0, none⟩), .pointer (some ⟨hb, 0, none⟩), .pointer (some ⟨rb, 0, none⟩)] 40)).alloc (.cells #[.int .i64 2, .int .i64 on, .int .i64 x, .string s, .string t] 32)) fun e w1 => e = .returned (.bool b) ∧ w1.heap[w.heap.size]? = some (.cells #[.pointer (some ⟨db, 0, none⟩), .pointer (some ⟨hb, 0, none⟩), .pointer (some ⟨rb, 0, none⟩)] 40) ∧ w1.heap[w.heap.size + 1]? = some (.cells #[.int .i64 2, .int .i64 on, .int .i64 x, .string s, .string t] 32) ∧
      Calls Tryz.prog 29 #[.pointer (some ⟨rb, 0, none⟩), .string s, .string t] w1 fun e w2 => e = .returned (.bool b) ∧ R w2) :
    Calls Tryz.prog 16 #[.agg #[.pointer (some ⟨db, 0, none⟩), .pointer (some ⟨hb, 0, none⟩), .pointer (some ⟨rb, 0, none⟩)], .agg #[.int .i64 2, .int .i64 on, .int .i64 x, .string s, .string t]] w (fun e w' => e = .returned (.bool true) ∧ R w') := by
  have H1 := two_first w (.cells #[.pointer (some ⟨db, 0, none⟩), .pointer (some ⟨hb, 0, none⟩), .pointer (some ⟨rb, 0, none⟩)] 40) (.cells #[.int .i64 2, .int .i64 on, .int .i64 x, .string s, .string t] 32)
  have H2 := two_second w (.cells #[.pointer (some ⟨db, 0, none⟩), .pointer (some ⟨hb, 0, none⟩), .pointer (some ⟨rb, 0, none⟩)] 40) (.cells #[.int .i64 2, .int .i64 on, .int .i64 x, .string s, .string t] 32)
  have p0 := cellOf (j := 0) (u := .pointer (some ⟨db, 0, none⟩)) H1 rfl
  have p1 := cellOf (j := 1) (u := .pointer (some ⟨hb, 0, none⟩)) H1 rfl
  have p2 := cellOf (j := 2) (u := .pointer (some ⟨rb, 0, none⟩)) H1 rfl
  have o0 := cellOf (j := 0) (u := .int .i64 2) H2 rfl
  have o2 := cellOf (j := 2) (u := .int .i64 x) H2 rfl
  have o3 := cellOf (j := 3) (u := .string s) H2 rfl
  have o4 := cellOf (j := 4) (u := .string t) H2 rfl
  clear H1 H2
  have HC := hid h
  clear h
  cases b <;> (
    go_enter Tryz.func16, Tryz.ntmps16
    go_wp2_with (first
      | (go_at_call 28; refine HC.out.mono ?_; rintro e w1 ⟨rfl, K1, K2, k3⟩
         clear p0 p1 p2 o0 o2 o3 o4
         have p0 := cellOf (j := 0) (u := .pointer (some ⟨db, 0, none⟩)) K1 rfl
         have p1 := cellOf (j := 1) (u := .pointer (some ⟨hb, 0, none⟩)) K1 rfl
         have p2 := cellOf (j := 2) (u := .pointer (some ⟨rb, 0, none⟩)) K1 rfl
         have o0 := cellOf (j := 0) (u := .int .i64 2) K2 rfl
         have o2 := cellOf (j := 2) (u := .int .i64 x) K2 rfl
         have o3 := cellOf (j := 3) (u := .string s) K2 rfl
         have o4 := cellOf (j := 4) (u := .string t) K2 rfl
         have HD := hid k3
         clear K1 K2 k3)
      | (go_at_call 29; refine HD.out.mono ?_; rintro e w2 ⟨rfl, k4⟩; have HR := hid k4; clear k4))
    all_goals go_ret
    all_goals exact ⟨rfl, HR.out⟩)

set_option maxRecDepth 8000 in
set_option maxHeartbeats 4000000 in
theorem walk_sync (w : World) (db hb rb : Nat) (on x : Int) (s t : ByteArray) (b : Bool) (R : World → Prop)
    (h : Calls Tryz.prog 30 #[.pointer (some ⟨db, 0, none⟩), .string s] ((w.alloc (.cells #[.pointer (some ⟨db, 0, none⟩), .pointer (some ⟨hb, 0, none⟩), .pointer (some ⟨rb, 0, none⟩)] 40)).alloc (.cells #[.int .i64 3, .int .i64 on, .int .i64 x, .string s, .string t] 32)) fun e w1 => e = .returned (.bool b) ∧ w1.heap[w.heap.size]? = some (.cells #[.pointer (some ⟨db, 0, none⟩), .pointer (some ⟨hb, 0, none⟩), .pointer (some ⟨rb, 0, none⟩)] 40) ∧ w1.heap[w.heap.size + 1]? = some (.cells #[.int .i64 3, .int .i64 on, .int .i64 x, .string s, .string t] 32) ∧
      Calls Tryz.prog 31 #[.pointer (some ⟨rb, 0, none⟩), .string s] w1 fun e w2 => e = .returned (.bool b) ∧ R w2) :
    Calls Tryz.prog 16 #[.agg #[.pointer (some ⟨db, 0, none⟩), .pointer (some ⟨hb, 0, none⟩), .pointer (some ⟨rb, 0, none⟩)], .agg #[.int .i64 3, .int .i64 on, .int .i64 x, .string s, .string t]] w (fun e w' => e = .returned (.bool true) ∧ R w') := by
  have H1 := two_first w (.cells #[.pointer (some ⟨db, 0, none⟩), .pointer (some ⟨hb, 0, none⟩), .pointer (some ⟨rb, 0, none⟩)] 40) (.cells #[.int .i64 3, .int .i64 on, .int .i64 x, .string s, .string t] 32)
  have H2 := two_second w (.cells #[.pointer (some ⟨db, 0, none⟩), .pointer (some ⟨hb, 0, none⟩), .pointer (some ⟨rb, 0, none⟩)] 40) (.cells #[.int .i64 3, .int .i64 on, .int .i64 x, .string s, .string t] 32)
  have p0 := cellOf (j := 0) (u := .pointer (some ⟨db, 0, none⟩)) H1 rfl
  have p1 := cellOf (j := 1) (u := .pointer (some ⟨hb, 0, none⟩)) H1 rfl
  have p2 := cellOf (j := 2) (u := .pointer (some ⟨rb, 0, none⟩)) H1 rfl
  have o0 := cellOf (j := 0) (u := .int .i64 3) H2 rfl
  have o2 := cellOf (j := 2) (u := .int .i64 x) H2 rfl
  have o3 := cellOf (j := 3) (u := .string s) H2 rfl
  have o4 := cellOf (j := 4) (u := .string t) H2 rfl
  clear H1 H2
  have HC := hid h
  clear h
  cases b <;> (
    go_enter Tryz.func16, Tryz.ntmps16
    go_wp2_with (first
      | (go_at_call 30; refine HC.out.mono ?_; rintro e w1 ⟨rfl, K1, K2, k3⟩
         clear p0 p1 p2 o0 o2 o3 o4
         have p0 := cellOf (j := 0) (u := .pointer (some ⟨db, 0, none⟩)) K1 rfl
         have p1 := cellOf (j := 1) (u := .pointer (some ⟨hb, 0, none⟩)) K1 rfl
         have p2 := cellOf (j := 2) (u := .pointer (some ⟨rb, 0, none⟩)) K1 rfl
         have o0 := cellOf (j := 0) (u := .int .i64 3) K2 rfl
         have o2 := cellOf (j := 2) (u := .int .i64 x) K2 rfl
         have o3 := cellOf (j := 3) (u := .string s) K2 rfl
         have o4 := cellOf (j := 4) (u := .string t) K2 rfl
         have HD := hid k3
         clear K1 K2 k3)
      | (go_at_call 31; refine HD.out.mono ?_; rintro e w2 ⟨rfl, k4⟩; have HR := hid k4; clear k4))
    all_goals go_ret
    all_goals exact ⟨rfl, HR.out⟩)

set_option maxRecDepth 8000 in
set_option maxHeartbeats 4000000 in
theorem walk_ren (w : World) (db hb rb : Nat) (on x : Int) (s t : ByteArray) (b : Bool) (R : World → Prop)
    (h : Calls Tryz.prog 32 #[.pointer (some ⟨db, 0, none⟩), .string s, .string t] ((w.alloc (.cells #[.pointer (some ⟨db, 0, none⟩), .pointer (some ⟨hb, 0, none⟩), .pointer (some ⟨rb, 0, none⟩)] 40)).alloc (.cells #[.int .i64 4, .int .i64 on, .int .i64 x, .string s, .string t] 32)) fun e w1 => e = .returned (.bool b) ∧ w1.heap[w.heap.size]? = some (.cells #[.pointer (some ⟨db, 0, none⟩), .pointer (some ⟨hb, 0, none⟩), .pointer (some ⟨rb, 0, none⟩)] 40) ∧ w1.heap[w.heap.size + 1]? = some (.cells #[.int .i64 4, .int .i64 on, .int .i64 x, .string s, .string t] 32) ∧
      Calls Tryz.prog 33 #[.pointer (some ⟨rb, 0, none⟩), .string s, .string t] w1 fun e w2 => e = .returned (.bool b) ∧ R w2) :
    Calls Tryz.prog 16 #[.agg #[.pointer (some ⟨db, 0, none⟩), .pointer (some ⟨hb, 0, none⟩), .pointer (some ⟨rb, 0, none⟩)], .agg #[.int .i64 4, .int .i64 on, .int .i64 x, .string s, .string t]] w (fun e w' => e = .returned (.bool true) ∧ R w') := by
  have H1 := two_first w (.cells #[.pointer (some ⟨db, 0, none⟩), .pointer (some ⟨hb, 0, none⟩), .pointer (some ⟨rb, 0, none⟩)] 40) (.cells #[.int .i64 4, .int .i64 on, .int .i64 x, .string s, .string t] 32)
  have H2 := two_second w (.cells #[.pointer (some ⟨db, 0, none⟩), .pointer (some ⟨hb, 0, none⟩), .pointer (some ⟨rb, 0, none⟩)] 40) (.cells #[.int .i64 4, .int .i64 on, .int .i64 x, .string s, .string t] 32)
  have p0 := cellOf (j := 0) (u := .pointer (some ⟨db, 0, none⟩)) H1 rfl
  have p1 := cellOf (j := 1) (u := .pointer (some ⟨hb, 0, none⟩)) H1 rfl
  have p2 := cellOf (j := 2) (u := .pointer (some ⟨rb, 0, none⟩)) H1 rfl
  have o0 := cellOf (j := 0) (u := .int .i64 4) H2 rfl
  have o2 := cellOf (j := 2) (u := .int .i64 x) H2 rfl
  have o3 := cellOf (j := 3) (u := .string s) H2 rfl
  have o4 := cellOf (j := 4) (u := .string t) H2 rfl
  clear H1 H2
  have HC := hid h
  clear h
  cases b <;> (
    go_enter Tryz.func16, Tryz.ntmps16
    go_wp2_with (first
      | (go_at_call 32; refine HC.out.mono ?_; rintro e w1 ⟨rfl, K1, K2, k3⟩
         clear p0 p1 p2 o0 o2 o3 o4
         have p0 := cellOf (j := 0) (u := .pointer (some ⟨db, 0, none⟩)) K1 rfl
         have p1 := cellOf (j := 1) (u := .pointer (some ⟨hb, 0, none⟩)) K1 rfl
         have p2 := cellOf (j := 2) (u := .pointer (some ⟨rb, 0, none⟩)) K1 rfl
         have o0 := cellOf (j := 0) (u := .int .i64 4) K2 rfl
         have o2 := cellOf (j := 2) (u := .int .i64 x) K2 rfl
         have o3 := cellOf (j := 3) (u := .string s) K2 rfl
         have o4 := cellOf (j := 4) (u := .string t) K2 rfl
         have HD := hid k3
         clear K1 K2 k3)
      | (go_at_call 33; refine HD.out.mono ?_; rintro e w2 ⟨rfl, k4⟩; have HR := hid k4; clear k4))
    all_goals go_ret
    all_goals exact ⟨rfl, HR.out⟩)

set_option maxRecDepth 8000 in
set_option maxHeartbeats 4000000 in
theorem walk_rem (w : World) (db hb rb : Nat) (on x : Int) (s t : ByteArray) (b : Bool) (R : World → Prop)
    (h : Calls Tryz.prog 34 #[.pointer (some ⟨db, 0, none⟩), .string s] ((w.alloc (.cells #[.pointer (some ⟨db, 0, none⟩), .pointer (some ⟨hb, 0, none⟩), .pointer (some ⟨rb, 0, none⟩)] 40)).alloc (.cells #[.int .i64 5, .int .i64 on, .int .i64 x, .string s, .string t] 32)) fun e w1 => e = .returned (.bool b) ∧ w1.heap[w.heap.size]? = some (.cells #[.pointer (some ⟨db, 0, none⟩), .pointer (some ⟨hb, 0, none⟩), .pointer (some ⟨rb, 0, none⟩)] 40) ∧ w1.heap[w.heap.size + 1]? = some (.cells #[.int .i64 5, .int .i64 on, .int .i64 x, .string s, .string t] 32) ∧
      Calls Tryz.prog 35 #[.pointer (some ⟨rb, 0, none⟩), .string s] w1 fun e w2 => e = .returned (.bool b) ∧ R w2) :
    Calls Tryz.prog 16 #[.agg #[.pointer (some ⟨db, 0, none⟩), .pointer (some ⟨hb, 0, none⟩), .pointer (some ⟨rb, 0, none⟩)], .agg #[.int .i64 5, .int .i64 on, .int .i64 x, .string s, .string t]] w (fun e w' => e = .returned (.bool true) ∧ R w') := by
  have H1 := two_first w (.cells #[.pointer (some ⟨db, 0, none⟩), .pointer (some ⟨hb, 0, none⟩), .pointer (some ⟨rb, 0, none⟩)] 40) (.cells #[.int .i64 5, .int .i64 on, .int .i64 x, .string s, .string t] 32)
  have H2 := two_second w (.cells #[.pointer (some ⟨db, 0, none⟩), .pointer (some ⟨hb, 0, none⟩), .pointer (some ⟨rb, 0, none⟩)] 40) (.cells #[.int .i64 5, .int .i64 on, .int .i64 x, .string s, .string t] 32)
  have p0 := cellOf (j := 0) (u := .pointer (some ⟨db, 0, none⟩)) H1 rfl
  have p1 := cellOf (j := 1) (u := .pointer (some ⟨hb, 0, none⟩)) H1 rfl
  have p2 := cellOf (j := 2) (u := .pointer (some ⟨rb, 0, none⟩)) H1 rfl
  have o0 := cellOf (j := 0) (u := .int .i64 5) H2 rfl
  have o2 := cellOf (j := 2) (u := .int .i64 x) H2 rfl
  have o3 := cellOf (j := 3) (u := .string s) H2 rfl
  have o4 := cellOf (j := 4) (u := .string t) H2 rfl
  clear H1 H2
  have HC := hid h
  clear h
  cases b <;> (
    go_enter Tryz.func16, Tryz.ntmps16
    go_wp2_with (first
      | (go_at_call 34; refine HC.out.mono ?_; rintro e w1 ⟨rfl, K1, K2, k3⟩
         clear p0 p1 p2 o0 o2 o3 o4
         have p0 := cellOf (j := 0) (u := .pointer (some ⟨db, 0, none⟩)) K1 rfl
         have p1 := cellOf (j := 1) (u := .pointer (some ⟨hb, 0, none⟩)) K1 rfl
         have p2 := cellOf (j := 2) (u := .pointer (some ⟨rb, 0, none⟩)) K1 rfl
         have o0 := cellOf (j := 0) (u := .int .i64 5) K2 rfl
         have o2 := cellOf (j := 2) (u := .int .i64 x) K2 rfl
         have o3 := cellOf (j := 3) (u := .string s) K2 rfl
         have o4 := cellOf (j := 4) (u := .string t) K2 rfl
         have HD := hid k3
         clear K1 K2 k3)
      | (go_at_call 35; refine HD.out.mono ?_; rintro e w2 ⟨rfl, k4⟩; have HR := hid k4; clear k4))
    all_goals go_ret
    all_goals exact ⟨rfl, HR.out⟩)

set_option maxRecDepth 8000 in
set_option maxHeartbeats 4000000 in
theorem walk_stop (w : World) (db hb rb : Nat) (on x : Int) (s t : ByteArray) (R : World → Prop)
    (h : Calls Tryz.prog 40 #[.pointer (some ⟨hb, 0, none⟩), .int .i64 x] ((w.alloc (.cells #[.pointer (some ⟨db, 0, none⟩), .pointer (some ⟨hb, 0, none⟩), .pointer (some ⟨rb, 0, none⟩)] 40)).alloc (.cells #[.int .i64 7, .int .i64 on, .int .i64 x, .string s, .string t] 32)) fun e w1 => e = .returned (.tuple #[]) ∧ w1.heap[w.heap.size]? = some (.cells #[.pointer (some ⟨db, 0, none⟩), .pointer (some ⟨hb, 0, none⟩), .pointer (some ⟨rb, 0, none⟩)] 40) ∧ w1.heap[w.heap.size + 1]? = some (.cells #[.int .i64 7, .int .i64 on, .int .i64 x, .string s, .string t] 32) ∧
      Calls Tryz.prog 41 #[.pointer (some ⟨rb, 0, none⟩), .int .i64 x] w1 fun e w2 => e = .returned (.tuple #[]) ∧ R w2) :
    Calls Tryz.prog 16 #[.agg #[.pointer (some ⟨db, 0, none⟩), .pointer (some ⟨hb, 0, none⟩), .pointer (some ⟨rb, 0, none⟩)], .agg #[.int .i64 7, .int .i64 on, .int .i64 x, .string s, .string t]] w (fun e w' => e = .returned (.bool true) ∧ R w') := by
  have H1 := two_first w (.cells #[.pointer (some ⟨db, 0, none⟩), .pointer (some ⟨hb, 0, none⟩), .pointer (some ⟨rb, 0, none⟩)] 40) (.cells #[.int .i64 7, .int .i64 on, .int .i64 x, .string s, .string t] 32)
  have H2 := two_second w (.cells #[.pointer (some ⟨db, 0, none⟩), .pointer (some ⟨hb, 0, none⟩), .pointer (some ⟨rb, 0, none⟩)] 40) (.cells #[.int .i64 7, .int .i64 on, .int .i64 x, .string s, .string t] 32)
  have p0 := cellOf (j := 0) (u := .pointer (some ⟨db, 0, none⟩)) H1 rfl
  have p1 := cellOf (j := 1) (u := .pointer (some ⟨hb, 0, none⟩)) H1 rfl
  have p2 := cellOf (j := 2) (u := .pointer (some ⟨rb, 0, none⟩)) H1 rfl
  have o0 := cellOf (j := 0) (u := .int .i64 7) H2 rfl
  have o2 := cellOf (j := 2) (u := .int .i64 x) H2 rfl
  have o3 := cellOf (j := 3) (u := .string s) H2 rfl
  have o4 := cellOf (j := 4) (u := .string t) H2 rfl
  clear H1 H2
  have HC := hid h
  clear h
  go_enter Tryz.func16, Tryz.ntmps16
  go_wp2_with (first
    | (go_at_call 40; refine HC.out.mono ?_; rintro e w1 ⟨rfl, K1, K2, k3⟩
       clear p0 p1 p2 o0 o2 o3 o4
       have p0 := cellOf (j := 0) (u := .pointer (some ⟨db, 0, none⟩)) K1 rfl
       have p1 := cellOf (j := 1) (u := .pointer (some ⟨hb, 0, none⟩)) K1 rfl
       have p2 := cellOf (j := 2) (u := .pointer (some ⟨rb, 0, none⟩)) K1 rfl
       have o0 := cellOf (j := 0) (u := .int .i64 7) K2 rfl
       have o2 := cellOf (j := 2) (u := .int .i64 x) K2 rfl
       have o3 := cellOf (j := 3) (u := .string s) K2 rfl
       have o4 := cellOf (j := 4) (u := .string t) K2 rfl
       have HD := hid k3
       clear K1 K2 k3)
    | (go_at_call 41; refine HD.out.mono ?_; rintro e w2 ⟨rfl, k4⟩; have HR := hid k4; clear k4))
  all_goals go_ret
  all_goals exact ⟨rfl, HR.out⟩

set_option maxRecDepth 8000 in
set_option maxHeartbeats 4000000 in
theorem walk_none (w : World) (db hb rb : Nat) (k on x : Int) (s t : ByteArray) (h2 : k ≠ 2) (h3 : k ≠ 3) (h4 : k ≠ 4) (h5 : k ≠ 5) (h6 : k ≠ 6) (h7 : k ≠ 7) :
    Calls Tryz.prog 16 #[.agg #[.pointer (some ⟨db, 0, none⟩), .pointer (some ⟨hb, 0, none⟩), .pointer (some ⟨rb, 0, none⟩)], .agg #[.int .i64 k, .int .i64 on, .int .i64 x, .string s, .string t]] w (fun e w' => e = .returned (.bool true) ∧ w' = ((w.alloc (.cells #[.pointer (some ⟨db, 0, none⟩), .pointer (some ⟨hb, 0, none⟩), .pointer (some ⟨rb, 0, none⟩)] 40)).alloc (.cells #[.int .i64 k, .int .i64 on, .int .i64 x, .string s, .string t] 32))) := by
  have H2 := two_second w (.cells #[.pointer (some ⟨db, 0, none⟩), .pointer (some ⟨hb, 0, none⟩), .pointer (some ⟨rb, 0, none⟩)] 40) (.cells #[.int .i64 k, .int .i64 on, .int .i64 x, .string s, .string t] 32)
  have o0 := cellOf (j := 0) (u := .int .i64 k) H2 rfl
  clear H2
  go_enter Tryz.func16, Tryz.ntmps16
  go_wp2
  all_goals go_ret
  all_goals exact ⟨rfl, rfl⟩

set_option maxRecDepth 8000 in
set_option maxHeartbeats 4000000 in
theorem walk_look (w : World) (db hb rb : Nat) (on x : Int) (s t : ByteArray) (fn fd : ByteArray) (fs left : Int) (ib : Bool) (fv : Value) (R : World → Prop)
    (h36 : Calls Tryz.prog 36 #[.pointer (some ⟨db, 0, none⟩), .string s] ((w.alloc (.cells #[.pointer (some ⟨db, 0, none⟩), .pointer (some ⟨hb, 0, none⟩), .pointer (some ⟨rb, 0, none⟩)] 40)).alloc (.cells #[.int .i64 6, .int .i64 on, .int .i64 x, .string s, .string t] 32)) fun e w1 => w1 = ((w.alloc (.cells #[.pointer (some ⟨db, 0, none⟩), .pointer (some ⟨hb, 0, none⟩), .pointer (some ⟨rb, 0, none⟩)] 40)).alloc (.cells #[.int .i64 6, .int .i64 on, .int .i64 x, .string s, .string t] 32)) ∧ e = .returned (.string fd))
    (h37 : Calls Tryz.prog 37 #[.pointer (some ⟨db, 0, none⟩), .string s] ((w.alloc (.cells #[.pointer (some ⟨db, 0, none⟩), .pointer (some ⟨hb, 0, none⟩), .pointer (some ⟨rb, 0, none⟩)] 40)).alloc (.cells #[.int .i64 6, .int .i64 on, .int .i64 x, .string s, .string t] 32)) fun e w1 => w1 = ((w.alloc (.cells #[.pointer (some ⟨db, 0, none⟩), .pointer (some ⟨hb, 0, none⟩), .pointer (some ⟨rb, 0, none⟩)] 40)).alloc (.cells #[.int .i64 6, .int .i64 on, .int .i64 x, .string s, .string t] 32)) ∧ e = .returned (.bool ib))
    (h38 : Calls Tryz.prog 38 #[.pointer (some ⟨db, 0, none⟩)] ((w.alloc (.cells #[.pointer (some ⟨db, 0, none⟩), .pointer (some ⟨hb, 0, none⟩), .pointer (some ⟨rb, 0, none⟩)] 40)).alloc (.cells #[.int .i64 6, .int .i64 on, .int .i64 x, .string s, .string t] 32)) fun e w1 => w1 = ((w.alloc (.cells #[.pointer (some ⟨db, 0, none⟩), .pointer (some ⟨hb, 0, none⟩), .pointer (some ⟨rb, 0, none⟩)] 40)).alloc (.cells #[.int .i64 6, .int .i64 on, .int .i64 x, .string s, .string t] 32)) ∧ e = .returned (.bool (decide (left = 0))))
    (h39 : Calls Tryz.prog 39 #[.pointer (some ⟨rb, 0, none⟩), .string s] ((w.alloc (.cells #[.pointer (some ⟨db, 0, none⟩), .pointer (some ⟨hb, 0, none⟩), .pointer (some ⟨rb, 0, none⟩)] 40)).alloc (.cells #[.int .i64 6, .int .i64 on, .int .i64 x, .string s, .string t] 32)) fun e w1 => e = .returned (.tuple #[.agg #[.string fn, .string fd, .int .i64 fs], .bool ib]) ∧ Below ((w.alloc (.cells #[.pointer (some ⟨db, 0, none⟩), .pointer (some ⟨hb, 0, none⟩), .pointer (some ⟨rb, 0, none⟩)] 40)).alloc (.cells #[.int .i64 6, .int .i64 on, .int .i64 x, .string s, .string t] 32)).heap.size ((w.alloc (.cells #[.pointer (some ⟨db, 0, none⟩), .pointer (some ⟨hb, 0, none⟩), .pointer (some ⟨rb, 0, none⟩)] 40)).alloc (.cells #[.int .i64 6, .int .i64 on, .int .i64 x, .string s, .string t] 32)) w1 ∧ R (w1.alloc (.cells #[.string fn, .string fd, .int .i64 fs] 93)))
    (hr : ((w.alloc (.cells #[.pointer (some ⟨db, 0, none⟩), .pointer (some ⟨hb, 0, none⟩), .pointer (some ⟨rb, 0, none⟩)] 40)).alloc (.cells #[.int .i64 6, .int .i64 on, .int .i64 x, .string s, .string t] 32)).heap[rb]? = some (.cells #[fv, .int .i64 left] 89)) :
    Calls Tryz.prog 16 #[.agg #[.pointer (some ⟨db, 0, none⟩), .pointer (some ⟨hb, 0, none⟩), .pointer (some ⟨rb, 0, none⟩)], .agg #[.int .i64 6, .int .i64 on, .int .i64 x, .string s, .string t]] w (fun e w' => e = .returned (.bool true) ∧ R w') := by
  have H1 := two_first w (.cells #[.pointer (some ⟨db, 0, none⟩), .pointer (some ⟨hb, 0, none⟩), .pointer (some ⟨rb, 0, none⟩)] 40) (.cells #[.int .i64 6, .int .i64 on, .int .i64 x, .string s, .string t] 32)
  have H2 := two_second w (.cells #[.pointer (some ⟨db, 0, none⟩), .pointer (some ⟨hb, 0, none⟩), .pointer (some ⟨rb, 0, none⟩)] 40) (.cells #[.int .i64 6, .int .i64 on, .int .i64 x, .string s, .string t] 32)
  have p0 := cellOf (j := 0) (u := .pointer (some ⟨db, 0, none⟩)) H1 rfl
  have p1 := cellOf (j := 1) (u := .pointer (some ⟨hb, 0, none⟩)) H1 rfl
  have p2 := cellOf (j := 2) (u := .pointer (some ⟨rb, 0, none⟩)) H1 rfl
  have o0 := cellOf (j := 0) (u := .int .i64 6) H2 rfl
  have o2 := cellOf (j := 2) (u := .int .i64 x) H2 rfl
  have o3 := cellOf (j := 3) (u := .string s) H2 rfl
  have o4 := cellOf (j := 4) (u := .string t) H2 rfl
  have HR1 := hid H1
  have HR := hid hr
  have H36 := hid h36
  have H37 := hid h37
  have H38 := hid h38
  have H39 := hid h39
  have hq := str_eq (rfl : fd = fd)
  clear H1 H2 h36 h37 h38 h39 hr
  go_enter Tryz.func16, Tryz.ntmps16
  go_wp2_with (first
    | (go_at_call 36; refine H36.out.mono ?_; rintro e w1 ⟨rfl, rfl⟩)
    | (go_at_call 37; refine H37.out.mono ?_; rintro e w1 ⟨rfl, rfl⟩)
    | (go_at_call 38; refine H38.out.mono ?_; rintro e w1 ⟨rfl, rfl⟩)
    | (go_at_call 39; refine H39.out.mono ?_; rintro e w1 ⟨rfl, hb1, hR⟩
       have HF := heap_alloc_new w1 (.cells #[.string fn, .string fd, .int .i64 fs] 93)
       have HB2 := hb1.trans ((below1 w1 (.cells #[.string fn, .string fd, .int .i64 fs] 93)).mono hb1.size)
       have f1 := cellOf (j := 1) (u := .string fd) HF rfl
       have r1 := cellOf (j := 1) (u := .int .i64 left) ((HB2.block _ (ltOf HR.out)).trans HR.out) rfl
       have q2 := cellOf (j := 2) (u := .pointer (some ⟨rb, 0, none⟩)) ((HB2.block _ (ltOf HR1.out)).trans HR1.out) rfl
       have HRR := hid hR
       clear hb1 hR HF HB2))
  have hlb : (decide (left = 0) == (left == 0)) = true := by
    by_cases h : left = 0 <;> simp [h]
  all_goals go_ret
  all_goals exact ⟨congrArg (fun b => Ending.returned (.bool b)) hlb, HRR.out⟩

end Go.Proofs.YtlghcldiboecoaaGreatDoor
