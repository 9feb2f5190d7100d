/- A value more of a type without brackets. -/
import Derived.Test.YtbnoghkijgmcgaaDoorAscii
import Derived.Test.YtbnoghkijgmcgaaDoorODec
set_option linter.unusedVariables false
namespace Go.Proofs.YtbnoghkijgmcgaaDoor
open Go.RowKit

theorem after2 {w w1 : World} {M : Nat} (hM : M < w.heap.size) (hs : w1.heap.size = w.heap.size) (hk : Keeps M w.heap.size w w1) (o0 o1 : Obj) :
    ((w1.alloc o0).alloc o1).heap[w.heap.size + 1]? = some o1 ∧ ((w1.alloc o0).alloc o1).heap[M]? = w1.heap[M]? ∧ Keeps M w.heap.size w ((w1.alloc o0).alloc o1) := by
  obtain ⟨n0, n1⟩ := new2 w1 o0 o1
  rw [hs] at n1
  exact ⟨n1, (Below.heap_alloc _ _ _ (by simp; omega)).trans (Below.heap_alloc _ _ _ (by omega)), (hk.alloc (by omega) _).alloc (by simp; omega) _⟩

theorem size_set (w : World) (a : Addr) (v : Value) : (w.setCell a v).heap.size = w.heap.size := by simp [World.setCell]

set_option maxRecDepth 8000 in
set_option maxHeartbeats 1000000 in
theorem again_bool (w : World) (M : Nat) (N S : Value) (n s x y : Int) (hM : MkAt w M N S n s x y) (vn : Int) (vs : ByteArray) (va : Option Addr) (vm vc : Nat) (h0 : 0 ≤ vn) (h1 : vn ≤ 1) (hy : -1000000000000 ≤ y) (hy' : y ≤ 700) :
    Calls Tryd.prog 18 #[.pointer (some ⟨M, 0, none⟩), .string ⟨#[63]⟩, vv vn vs (.slice va vm vc)] w fun e w' => (e = .returned (vv (1 - vn) ⟨#[]⟩ (.slice none 0 0)) ∧ MkAt w' M N S n s x (y - 1)) ∧ Keeps M w.heap.size w w' := by
  have hlt := ltOf hM
  have c5 := cellOf (j := 5) hM rfl
  have f5 := frozenOf (j := 5) hM
  have HM := hide hM
  clear hM
  go_enter Tryd.func18, Tryd.ntmps18
  go_wp2_with fail
  obtain ⟨q1, q2, q3⟩ := after2 hlt (size_set w ⟨M, 5, none⟩ (.int .i64 (y - 1))) (keeps_set M w.heap.size 5 w _) (.cells #[.int .i64 vn, .string vs, .slice va vm vc] 31) (.cells #[.int .i64 (1 - vn), .string ⟨#[]⟩, .slice none 0 0] 31)
  have c0 := cellOf (j := 0) q1 rfl
  have c1 := cellOf (j := 1) q1 rfl
  have c2 := cellOf (j := 2) q1 rfl
  have HQ : Hid (MkAt (((w.setCell ⟨M, 5, none⟩ (.int .i64 (y - 1))).alloc (.cells #[.int .i64 vn, .string vs, .slice va vm vc] 31)).alloc (.cells #[.int .i64 (1 - vn), .string ⟨#[]⟩, .slice none 0 0] 31)) M N S n s x (y - 1)) := q2.trans (HM.out.set 5 _)
  have HK := hide q3
  clear q1 q2 q3
  generalize ((w.setCell ⟨M, 5, none⟩ (.int .i64 (y - 1))).alloc (.cells #[.int .i64 vn, .string vs, .slice va vm vc] 31)).alloc (.cells #[.int .i64 (1 - vn), .string ⟨#[]⟩, .slice none 0 0] 31) = X at *
  exact bodyPost_ret (v := vv (1 - vn) ⟨#[]⟩ (.slice none 0 0)) (by simp [results, Tryd.results18, go_sem, c0, c1, c2]) rfl ⟨⟨rfl, HQ.out⟩, HK.out⟩

set_option maxRecDepth 8000 in
set_option maxHeartbeats 4000000 in
theorem again_same (w : World) (M : Nat) (N S : Value) (n s x y : Int) (hM : MkAt w M N S n s x y) (c : UInt8) (hc : c = 52 ∨ c = 56 ∨ c = 98 ∨ c = 116) (vn : Int) (vs : ByteArray) (va : Option Addr) (vm vc : Nat) (hy : -1000000000000 ≤ y) (hy' : y ≤ 700) :
    Calls Tryd.prog 18 #[.pointer (some ⟨M, 0, none⟩), .string ⟨#[c]⟩, vv vn vs (.slice va vm vc)] w fun e w' => (e = .returned (vv vn vs (.slice va vm vc)) ∧ MkAt w' M N S n s x (y - 50)) ∧ Keeps M w.heap.size w w' := by
  have hlt := ltOf hM
  have c5 := cellOf (j := 5) hM rfl
  have f5 := frozenOf (j := 5) hM
  have HM := hide hM
  clear hM
  rcases hc with rfl | rfl | rfl | rfl
  all_goals
    go_enter Tryd.func18, Tryd.ntmps18
    go_wp2_with fail
    obtain ⟨q1, q2, q3⟩ := after2 hlt (size_set w ⟨M, 5, none⟩ (.int .i64 (y - 50))) (keeps_set M w.heap.size 5 w _) (.cells #[.int .i64 vn, .string vs, .slice va vm vc] 31) (.cells #[.int .i64 vn, .string vs, .slice va vm vc] 31)
    have c0 := cellOf (j := 0) q1 rfl
    have c1 := cellOf (j := 1) q1 rfl
    have c2 := cellOf (j := 2) q1 rfl
    have HQ : Hid (MkAt (((w.setCell ⟨M, 5, none⟩ (.int .i64 (y - 50))).alloc (.cells #[.int .i64 vn, .string vs, .slice va vm vc] 31)).alloc (.cells #[.int .i64 vn, .string vs, .slice va vm vc] 31)) M N S n s x (y - 50)) := q2.trans (HM.out.set 5 _)
    have HK := hide q3
    clear q1 q2 q3
    generalize ((w.setCell ⟨M, 5, none⟩ (.int .i64 (y - 50))).alloc (.cells #[.int .i64 vn, .string vs, .slice va vm vc] 31)).alloc (.cells #[.int .i64 vn, .string vs, .slice va vm vc] 31) = X at *
    exact bodyPost_ret (v := vv vn vs (.slice va vm vc)) (by simp [results, Tryd.results18, go_sem, c0, c1, c2]) rfl ⟨⟨rfl, HQ.out⟩, HK.out⟩
end Go.Proofs.YtbnoghkijgmcgaaDoor
