/- take, its walks. -/
import Derived.Test.YtbnoghkijgmcgaaDoorTakeE
set_option linter.unusedVariables false
namespace Go.Proofs.YtbnoghkijgmcgaaDoor
open Go.RowKit

/-- What a call that is handed on leaves behind: the answer, and all memory but the one cell of the result. -/
def onEnd (pv : World → Value → World → Prop) (w : World) (e : Ending) (w' : World) : Prop :=
  (∃ (W wb : World) (v : Value), e = .returned v ∧ pv W v wb ∧ w.heap.size + 2 ≤ W.heap.size ∧ w'.heap.size = wb.heap.size ∧ ∀ b, b ≠ w.heap.size + 1 → w'.heap[b]? = wb.heap[b]?) ∧ Below w.heap.size w w'

def handed (pv : World → Value → World → Prop) (W : World) (e : Ending) (w' : World) : Prop :=
  (∃ (n : Int) (s : ByteArray) (a : Option Addr) (m c : Nat) (rv : Value) (ok : Bool), e = .returned (.tuple #[vv n s (.slice a m c), rv, .bool ok]) ∧ pv W (.tuple #[vv n s (.slice a m c), rv, .bool ok]) w') ∧ Below W.heap.size W w'

set_option maxRecDepth 8000 in
set_option maxHeartbeats 1000000 in
theorem take_0 (w : World) (sg sz : Nat) (lo hi : Int) (tx : Bool) (fn : Nat) (pa : Option Addr) (pn pc : Nat) (bv : Value) (pv : World → Value → World → Prop)
    (HC : Hid (∀ W, Below w.heap.size w W → Calls Tryd.prog 59 #[tyv sg 0 sz lo hi tx fn (.slice pa pn pc), bv] W (handed pv W))) :
    Calls Tryd.prog 49 #[tyv sg 0 sz lo hi tx fn (.slice pa pn pc), bv] w (onEnd pv w) := by
  obtain ⟨n0, n1⟩ := new2 w (.cells #[.int .u8 sg, .int .i64 0, .int .i64 sz, .int .i64 lo, .int .i64 hi, .bool tx, .int .u8 fn, .slice pa pn pc] 62) (.cells #[.int .i64 0, .string ⟨#[]⟩, .slice none 0 0] 31)
  have N1 := hide n1
  clear n0 n1
  have hsz : w.heap.size + 2 ≤ ((w.alloc (.cells #[.int .u8 sg, .int .i64 0, .int .i64 sz, .int .i64 lo, .int .i64 hi, .bool tx, .int .u8 fn, .slice pa pn pc] 62)).alloc (.cells #[.int .i64 0, .string ⟨#[]⟩, .slice none 0 0] 31)).heap.size := by simp
  have HSZ := hide hsz
  clear hsz
  go_enter Tryd.func49, Tryd.ntmps49
  go_wp2_with (first
    | (refine wpList_store_row rfl 31 _ _ rfl (w.heap.size + 1) #[.int .i64 n, .string s, .slice a m c] rfl rfl 31 _ HH.out Tryd.size31 rfl (one_v _ _ _ _ _) ?_)
    | (go_at_call 59; refine (HC.out _ (below2 _ _ _)).mono ?_; rintro e w1 ⟨⟨n, s, a, m, c, rv, ok, rfl, hpv⟩, hb1⟩; have HPV := hide hpv; have HH : Hid (w1.heap[w.heap.size + 1]? = some (.cells #[.int .i64 0, .string ⟨#[]⟩, .slice none 0 0] 31)) := (hb1.block _ (ltOf N1.out)).trans N1.out; have HB1 : Hid (Below w.heap.size w w1) := (below2 _ _ _).trans (hb1.mono (by simp; omega)); clear hb1 hpv))
  refine bp_gen (fun X => X.heap[w.heap.size + 1]? = some (.cells #[.int .i64 n, .string s, .slice a m c] 31) ∧ Below w.heap.size w X ∧ X.heap.size = w1.heap.size ∧ ∀ b, b ≠ w.heap.size + 1 → X.heap[b]? = w1.heap[b]?) ⟨setRow_heap _ _ _ _ _ _ HH.out, below_setRow HB1.out (Nat.le_succ _) _, by simp, fun b hb => setRow_other _ _ _ _ hb⟩ ?_
  rintro X ⟨HQ, hbX, hsX, hkX⟩
  have c0 := cellOf (j := 0) HQ rfl
  have c1 := cellOf (j := 1) HQ rfl
  have c2 := cellOf (j := 2) HQ rfl
  have HBX := hide hbX
  have HSX := hide hsX
  have HKX := hide hkX
  clear hbX hsX hkX HQ
  exact bodyPost_ret (v := .tuple #[vv n s (.slice a m c), rv, .bool ok]) (by simp [results, Tryd.results49, go_sem, c0, c1, c2]) rfl ⟨⟨_, w1, _, rfl, HPV.out, HSZ.out, HSX.out, HKX.out⟩, HBX.out⟩
set_option maxRecDepth 8000 in
set_option maxHeartbeats 1000000 in
theorem take_1 (w : World) (sg sz : Nat) (lo hi : Int) (tx : Bool) (fn : Nat) (pa : Option Addr) (pn pc : Nat) (bv : Value) (pv : World → Value → World → Prop)
    (HC : Hid (∀ W, Below w.heap.size w W → Calls Tryd.prog 60 #[tyv sg 1 sz lo hi tx fn (.slice pa pn pc), bv] W (handed pv W))) :
    Calls Tryd.prog 49 #[tyv sg 1 sz lo hi tx fn (.slice pa pn pc), bv] w (onEnd pv w) := by
  obtain ⟨n0, n1⟩ := new2 w (.cells #[.int .u8 sg, .int .i64 1, .int .i64 sz, .int .i64 lo, .int .i64 hi, .bool tx, .int .u8 fn, .slice pa pn pc] 62) (.cells #[.int .i64 0, .string ⟨#[]⟩, .slice none 0 0] 31)
  have N1 := hide n1
  clear n0 n1
  have hsz : w.heap.size + 2 ≤ ((w.alloc (.cells #[.int .u8 sg, .int .i64 1, .int .i64 sz, .int .i64 lo, .int .i64 hi, .bool tx, .int .u8 fn, .slice pa pn pc] 62)).alloc (.cells #[.int .i64 0, .string ⟨#[]⟩, .slice none 0 0] 31)).heap.size := by simp
  have HSZ := hide hsz
  clear hsz
  go_enter Tryd.func49, Tryd.ntmps49
  go_wp2_with (first
    | (refine wpList_store_row rfl 31 _ _ rfl (w.heap.size + 1) #[.int .i64 n, .string s, .slice a m c] rfl rfl 31 _ HH.out Tryd.size31 rfl (one_v _ _ _ _ _) ?_)
    | (go_at_call 60; refine (HC.out _ (below2 _ _ _)).mono ?_; rintro e w1 ⟨⟨n, s, a, m, c, rv, ok, rfl, hpv⟩, hb1⟩; have HPV := hide hpv; have HH : Hid (w1.heap[w.heap.size + 1]? = some (.cells #[.int .i64 0, .string ⟨#[]⟩, .slice none 0 0] 31)) := (hb1.block _ (ltOf N1.out)).trans N1.out; have HB1 : Hid (Below w.heap.size w w1) := (below2 _ _ _).trans (hb1.mono (by simp; omega)); clear hb1 hpv))
  refine bp_gen (fun X => X.heap[w.heap.size + 1]? = some (.cells #[.int .i64 n, .string s, .slice a m c] 31) ∧ Below w.heap.size w X ∧ X.heap.size = w1.heap.size ∧ ∀ b, b ≠ w.heap.size + 1 → X.heap[b]? = w1.heap[b]?) ⟨setRow_heap _ _ _ _ _ _ HH.out, below_setRow HB1.out (Nat.le_succ _) _, by simp, fun b hb => setRow_other _ _ _ _ hb⟩ ?_
  rintro X ⟨HQ, hbX, hsX, hkX⟩
  have c0 := cellOf (j := 0) HQ rfl
  have c1 := cellOf (j := 1) HQ rfl
  have c2 := cellOf (j := 2) HQ rfl
  have HBX := hide hbX
  have HSX := hide hsX
  have HKX := hide hkX
  clear hbX hsX hkX HQ
  exact bodyPost_ret (v := .tuple #[vv n s (.slice a m c), rv, .bool ok]) (by simp [results, Tryd.results49, go_sem, c0, c1, c2]) rfl ⟨⟨_, w1, _, rfl, HPV.out, HSZ.out, HSX.out, HKX.out⟩, HBX.out⟩
set_option maxRecDepth 8000 in
set_option maxHeartbeats 1000000 in
theorem take_3 (w : World) (sg sz : Nat) (lo hi : Int) (tx : Bool) (fn : Nat) (pa : Option Addr) (pn pc : Nat) (bv : Value) (pv : World → Value → World → Prop)
    (HC : Hid (∀ W, Below w.heap.size w W → Calls Tryd.prog 62 #[tyv sg 3 sz lo hi tx fn (.slice pa pn pc), .int .i64 pn, bv] W (handed pv W))) :
    Calls Tryd.prog 49 #[tyv sg 3 sz lo hi tx fn (.slice pa pn pc), bv] w (onEnd pv w) := by
  obtain ⟨n0, n1⟩ := new2 w (.cells #[.int .u8 sg, .int .i64 3, .int .i64 sz, .int .i64 lo, .int .i64 hi, .bool tx, .int .u8 fn, .slice pa pn pc] 62) (.cells #[.int .i64 0, .string ⟨#[]⟩, .slice none 0 0] 31)
  have N1 := hide n1
  clear n0 n1
  have hsz : w.heap.size + 2 ≤ ((w.alloc (.cells #[.int .u8 sg, .int .i64 3, .int .i64 sz, .int .i64 lo, .int .i64 hi, .bool tx, .int .u8 fn, .slice pa pn pc] 62)).alloc (.cells #[.int .i64 0, .string ⟨#[]⟩, .slice none 0 0] 31)).heap.size := by simp
  have HSZ := hide hsz
  clear hsz
  go_enter Tryd.func49, Tryd.ntmps49
  go_wp2_with (first
    | (refine wpList_store_row rfl 31 _ _ rfl (w.heap.size + 1) #[.int .i64 n, .string s, .slice a m c] rfl rfl 31 _ HH.out Tryd.size31 rfl (one_v _ _ _ _ _) ?_)
    | (go_at_call 62; refine (HC.out _ (below2 _ _ _)).mono ?_; rintro e w1 ⟨⟨n, s, a, m, c, rv, ok, rfl, hpv⟩, hb1⟩; have HPV := hide hpv; have HH : Hid (w1.heap[w.heap.size + 1]? = some (.cells #[.int .i64 0, .string ⟨#[]⟩, .slice none 0 0] 31)) := (hb1.block _ (ltOf N1.out)).trans N1.out; have HB1 : Hid (Below w.heap.size w w1) := (below2 _ _ _).trans (hb1.mono (by simp; omega)); clear hb1 hpv))
  refine bp_gen (fun X => X.heap[w.heap.size + 1]? = some (.cells #[.int .i64 n, .string s, .slice a m c] 31) ∧ Below w.heap.size w X ∧ X.heap.size = w1.heap.size ∧ ∀ b, b ≠ w.heap.size + 1 → X.heap[b]? = w1.heap[b]?) ⟨setRow_heap _ _ _ _ _ _ HH.out, below_setRow HB1.out (Nat.le_succ _) _, by simp, fun b hb => setRow_other _ _ _ _ hb⟩ ?_
  rintro X ⟨HQ, hbX, hsX, hkX⟩
  have c0 := cellOf (j := 0) HQ rfl
  have c1 := cellOf (j := 1) HQ rfl
  have c2 := cellOf (j := 2) HQ rfl
  have HBX := hide hbX
  have HSX := hide hsX
  have HKX := hide hkX
  clear hbX hsX hkX HQ
  exact bodyPost_ret (v := .tuple #[vv n s (.slice a m c), rv, .bool ok]) (by simp [results, Tryd.results49, go_sem, c0, c1, c2]) rfl ⟨⟨_, w1, _, rfl, HPV.out, HSZ.out, HSX.out, HKX.out⟩, HBX.out⟩
set_option maxRecDepth 8000 in
set_option maxHeartbeats 1000000 in
theorem take_2 (w : World) (sg sz : Nat) (lo hi : Int) (tx : Bool) (fn : Nat) (pa : Option Addr) (pn pc : Nat) (bv : Value) (pv : World → Value → World → Prop)
    (nn : Nat) (q : Value → Prop)
    (HK : Hid (∀ W, Below w.heap.size w W → Calls Tryd.prog 61 #[bv, .int .i64 32] W fun e w' => (∃ v, e = .returned (.tuple #[.int .i64 nn, v, .bool true]) ∧ q v) ∧ Below W.heap.size W w'))
    (HC : Hid (∀ W v, q v → Below w.heap.size w W → Calls Tryd.prog 62 #[tyv sg 2 sz lo hi tx fn (.slice pa pn pc), .int .i64 nn, v] W (handed pv W))) :
    Calls Tryd.prog 49 #[tyv sg 2 sz lo hi tx fn (.slice pa pn pc), bv] w (onEnd pv w) := by
  obtain ⟨n0, n1⟩ := new2 w (.cells #[.int .u8 sg, .int .i64 2, .int .i64 sz, .int .i64 lo, .int .i64 hi, .bool tx, .int .u8 fn, .slice pa pn pc] 62) (.cells #[.int .i64 0, .string ⟨#[]⟩, .slice none 0 0] 31)
  have N0 := hide n0
  have N1 := hide n1
  clear n0 n1
  have hsz : w.heap.size + 2 ≤ ((w.alloc (.cells #[.int .u8 sg, .int .i64 2, .int .i64 sz, .int .i64 lo, .int .i64 hi, .bool tx, .int .u8 fn, .slice pa pn pc] 62)).alloc (.cells #[.int .i64 0, .string ⟨#[]⟩, .slice none 0 0] 31)).heap.size := by simp
  have HSZ := hide hsz
  clear hsz
  go_enter Tryd.func49, Tryd.ntmps49
  go_wp2_with (first
    | (refine wpList_store_row rfl 31 _ _ rfl (w.heap.size + 1) #[.int .i64 n, .string s, .slice a m c] rfl rfl 31 _ HH.out Tryd.size31 rfl (one_v _ _ _ _ _) ?_)
    | (go_at_call 61; refine (HK.out _ (below2 _ _ _)).mono ?_; rintro e w0 ⟨⟨v0, rfl, hq⟩, hb0⟩; have HQV := hide hq; have HB0 : Hid (Below w.heap.size w w0) := (below2 _ _ _).trans (hb0.mono (by simp; omega)); have M1 : Hid (w0.heap[w.heap.size + 1]? = some (.cells #[.int .i64 0, .string ⟨#[]⟩, .slice none 0 0] 31)) := (hb0.block _ (ltOf N1.out)).trans N1.out; have m0 := (hb0.block _ (ltOf N0.out)).trans N0.out; have a0 := cellOf (j := 0) m0 rfl; have a1 := cellOf (j := 1) m0 rfl; have a2 := cellOf (j := 2) m0 rfl; have a3 := cellOf (j := 3) m0 rfl; have a4 := cellOf (j := 4) m0 rfl; have a5 := cellOf (j := 5) m0 rfl; have a6 := cellOf (j := 6) m0 rfl; have a7 := cellOf (j := 7) m0 rfl; clear hb0 hq m0)
    | (go_at_call 62; refine (HC.out _ _ HQV.out HB0.out).mono ?_; rintro e w1 ⟨⟨n, s, a, m, c, rv, ok, rfl, hpv⟩, hb1⟩; have HPV := hide hpv; have HH : Hid (w1.heap[w.heap.size + 1]? = some (.cells #[.int .i64 0, .string ⟨#[]⟩, .slice none 0 0] 31)) := (hb1.block _ (ltOf M1.out)).trans M1.out; have HB1 : Hid (Below w.heap.size w w1) := HB0.out.trans (hb1.mono HB0.out.size); have HSZ0 : Hid (w.heap.size + 2 ≤ w0.heap.size) := ltOf M1.out; clear hb1 hpv a0 a1 a2 a3 a4 a5 a6 a7))
  refine bp_gen (fun X => X.heap[w.heap.size + 1]? = some (.cells #[.int .i64 n, .string s, .slice a m c] 31) ∧ Below w.heap.size w X ∧ X.heap.size = w1.heap.size ∧ ∀ b, b ≠ w.heap.size + 1 → X.heap[b]? = w1.heap[b]?) ⟨setRow_heap _ _ _ _ _ _ HH.out, below_setRow HB1.out (Nat.le_succ _) _, by simp, fun b hb => setRow_other _ _ _ _ hb⟩ ?_
  rintro X ⟨HQ, hbX, hsX, hkX⟩
  have c0 := cellOf (j := 0) HQ rfl
  have c1 := cellOf (j := 1) HQ rfl
  have c2 := cellOf (j := 2) HQ rfl
  have HBX := hide hbX
  have HSX := hide hsX
  have HKX := hide hkX
  clear hbX hsX hkX HQ
  exact bodyPost_ret (v := .tuple #[vv n s (.slice a m c), rv, .bool ok]) (by simp [results, Tryd.results49, go_sem, c0, c1, c2]) rfl ⟨⟨_, w1, _, rfl, HPV.out, HSZ0.out, HSX.out, HKX.out⟩, HBX.out⟩
set_option maxRecDepth 8000 in
set_option maxHeartbeats 1000000 in
theorem take_2none (w : World) (sg sz : Nat) (lo hi : Int) (tx : Bool) (fn : Nat) (pa : Option Addr) (pn pc : Nat) (bv : Value)
    (HK : Hid (∀ W, Below w.heap.size w W → Calls Tryd.prog 61 #[bv, .int .i64 32] W fun e w' => e = .returned (.tuple #[.int .i64 0, .slice none 0 0, .bool false]) ∧ Below W.heap.size W w')) :
    Calls Tryd.prog 49 #[tyv sg 2 sz lo hi tx fn (.slice pa pn pc), bv] w fun e w' => noneEnd e ∧ Below w.heap.size w w' := by
  obtain ⟨n0, n1⟩ := new2 w (.cells #[.int .u8 sg, .int .i64 2, .int .i64 sz, .int .i64 lo, .int .i64 hi, .bool tx, .int .u8 fn, .slice pa pn pc] 62) (.cells #[.int .i64 0, .string ⟨#[]⟩, .slice none 0 0] 31)
  have N1 := hide n1
  clear n0 n1
  go_enter Tryd.func49, Tryd.ntmps49
  go_wp2_with (first
    | (refine wpList_store_row rfl 31 _ _ rfl (w.heap.size + 1) #[.int .i64 0, .string ⟨#[]⟩, .slice none 0 0] rfl rfl 31 _ HH.out Tryd.size31 rfl (one_v _ _ _ _ _) ?_)
    | (go_at_call 61; refine (HK.out _ (below2 _ _ _)).mono ?_; rintro e w1 ⟨rfl, hb1⟩; have HH : Hid (w1.heap[w.heap.size + 1]? = some (.cells #[.int .i64 0, .string ⟨#[]⟩, .slice none 0 0] 31)) := (hb1.block _ (ltOf N1.out)).trans N1.out; have HB1 : Hid (Below w.heap.size w w1) := (below2 _ _ _).trans (hb1.mono (by simp; omega)); clear hb1))
  refine bp_gen (fun X => X.heap[w.heap.size + 1]? = some (.cells #[.int .i64 0, .string ⟨#[]⟩, .slice none 0 0] 31) ∧ Below w.heap.size w X) ⟨setRow_heap _ _ _ _ _ _ HH.out, below_setRow HB1.out (Nat.le_succ _) _⟩ ?_
  rintro X ⟨HQ, hbX⟩
  have c0 := cellOf (j := 0) HQ rfl
  have c1 := cellOf (j := 1) HQ rfl
  have c2 := cellOf (j := 2) HQ rfl
  have HBX := hide hbX
  clear hbX HQ
  exact bodyPost_ret (v := .tuple #[vv 0 ⟨#[]⟩ (.slice none 0 0), .slice none 0 0, .bool false]) (by simp [results, Tryd.results49, go_sem, c0, c1, c2]) rfl ⟨⟨_, _, _, _, _, _, _, _, rfl⟩, HBX.out⟩

end Go.Proofs.YtbnoghkijgmcgaaDoor
