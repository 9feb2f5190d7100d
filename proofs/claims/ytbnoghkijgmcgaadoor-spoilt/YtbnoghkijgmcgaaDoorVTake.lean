/- The value that bytes begin with: Take of the package value. -/
import Derived.Test.YtbnoghkijgmcgaaDoorDec
set_option linter.unusedVariables false
namespace Go.Proofs.YtbnoghkijgmcgaaDoor
open Go.RowKit

/-- The value that bytes begin with, and what is left of them. -/
def vtake (valid : ByteArray → Bool) (t : Orch.Ty) (l : List UInt8) : Option (Orch.V × List UInt8) :=
  match Orch.take valid 9 t (l.take 1000) with
  | none => none
  | some (v, rest) => some (v, l.drop ((l.take 1000).length - rest.length))

/-- What value.Take leaves. -/
def vtRes (w w' : World) (bv : Value) (l : List UInt8) (e : Ending) : Option (Orch.V × List UInt8) → Prop
  | none => e = .returned (.tuple #[vv 0 ⟨#[]⟩ (.slice none 0 0), .slice none 0 0, .bool false])
  | some (v, rest) => ∃ lv rv, e = .returned (.tuple #[vval v lv, rv, .bool true]) ∧ VsAt w' (fun b => w.heap.size ≤ b ∧ b < w'.heap.size) v.l lv ∧ Tail bv l rv rest

theorem set3_heap (X : World) (g : Nat) (a b c : Value) (k : Nat) (hk : k ≠ g) : (((X.setCell ⟨g, 0, none⟩ a).setCell ⟨g, 1, none⟩ b).setCell ⟨g, 2, none⟩ c).heap[k]? = X.heap[k]? :=
  (heap_setCell_other _ ⟨g, 2, none⟩ k _ hk).trans ((heap_setCell_other _ ⟨g, 1, none⟩ k _ hk).trans (heap_setCell_other _ ⟨g, 0, none⟩ k _ hk))

theorem set3_size (X : World) (g : Nat) (a b c : Value) : (((X.setCell ⟨g, 0, none⟩ a).setCell ⟨g, 1, none⟩ b).setCell ⟨g, 2, none⟩ c).heap.size = X.heap.size := by simp [World.setCell]

set_option maxRecDepth 8000 in
set_option maxHeartbeats 1000000 in
theorem vt_none (w : World) (sg sh sz : Nat) (lo hi : Int) (tx : Bool) (fn : Nat) (pa : Option Addr) (pn pc : Nat) (b off k m cap : Nat) (hm : (1000 : Int) < k ∧ m = 1000 ∨ ¬ (1000 : Int) < k ∧ m = k) (hcap : k ≤ cap) (hk2 : k ≤ 9223372036854775807)
    (HC : Hid (∀ W, Below w.heap.size w W → Calls Tryd.prog 49 #[tyv sg sh sz lo hi tx fn (.slice pa pn pc), .slice (some ⟨b, off, none⟩) m cap] W fun e w' => noneEnd e ∧ Below W.heap.size W w')) :
    Calls Tryd.prog 33 #[tyv sg sh sz lo hi tx fn (.slice pa pn pc), .slice (some ⟨b, off, none⟩) k cap] w fun e w' => e = .returned (.tuple #[vv 0 ⟨#[]⟩ (.slice none 0 0), .slice none 0 0, .bool false]) ∧ Below w.heap.size w w' := by
  have hmc : (m : Int) ≤ (cap : Int) := by omega
  obtain ⟨n0, n1⟩ := new2 w (.cells #[.int .u8 sg, .int .i64 sh, .int .i64 sz, .int .i64 lo, .int .i64 hi, .bool tx, .int .u8 fn, .slice pa pn pc] 62) (.cells #[.int .i64 0, .string ⟨#[]⟩, .slice none 0 0] 31)
  have N1 := hide n1
  clear n0 n1
  rcases hm with ⟨hz, rfl⟩ | ⟨hz, rfl⟩
  all_goals
    go_enter Tryd.func33, Tryd.ntmps33
    go_wp2_with (first
      | (refine wpList_store_row rfl 31 _ _ rfl (w.heap.size + 1) #[.int .i64 0, .string ⟨#[]⟩, .slice none 0 0] rfl rfl 31 _ HH2.out Tryd.size31 rfl (one_v _ _ _ _ _) ?_)
      | (go_at_call 49; refine (HC.out _ (below2 _ _ _)).mono ?_; rintro e w1 ⟨⟨n, s, va, va', vm, c, m', c', rfl⟩, hb1⟩; have HB1 : Hid (Below w.heap.size w w1) := (below2 _ _ _).trans (hb1.mono (by simp; omega)); have HH : Hid (w1.heap[w.heap.size + 1]? = some (.cells #[.int .i64 0, .string ⟨#[]⟩, .slice none 0 0] 31)) := (hb1.block _ (ltOf N1.out)).trans N1.out; have HH2 : Hid ((w1.alloc (.cells #[.int .i64 n, .string s, .slice va vm c] 31)).heap[w.heap.size + 1]? = some (.cells #[.int .i64 0, .string ⟨#[]⟩, .slice none 0 0] 31)) := (Below.heap_alloc _ _ _ (ltOf HH.out)).trans HH.out; clear hb1))
    refine bp_gen (fun X => X.heap[w.heap.size + 1]? = some (.cells #[.int .i64 0, .string ⟨#[]⟩, .slice none 0 0] 31) ∧ Below w.heap.size w X) ⟨setRow_heap _ _ _ _ _ _ HH2.out, below_setRow (HB1.out.alloc HB1.out.size _) (Nat.le_succ _) _⟩ ?_
    rintro X ⟨HQ, hbX⟩
    have c0 := cellOf (j := 0) HQ rfl
    have c1 := cellOf (j := 1) HQ rfl
    have c2 := cellOf (j := 2) HQ rfl
    exact bodyPost_ret (v := .tuple #[vv 0 ⟨#[]⟩ (.slice none 0 0), .slice none 0 0, .bool false]) (by simp [results, Tryd.results33, go_sem, c0, c1, c2]) rfl ⟨rfl, hbX⟩

set_option maxRecDepth 8000 in
set_option maxHeartbeats 2000000 in
theorem vt_ok (w : World) (sg sh sz : Nat) (lo hi : Int) (tx : Bool) (fn : Nat) (pa : Option Addr) (pn pc : Nat) (b off k m cap r : Nat) (hm : (1000 : Int) < k ∧ m = 1000 ∨ ¬ (1000 : Int) < k ∧ m = k) (hcap : k ≤ cap) (hk2 : k ≤ 9223372036854775807) (hr : r ≤ m) (n : Int) (s : ByteArray) (pv : World → Option Addr → Nat → Nat → World → Prop)
    (HC : Hid (∀ W, Below w.heap.size w W → Calls Tryd.prog 49 #[tyv sg sh sz lo hi tx fn (.slice pa pn pc), .slice (some ⟨b, off, none⟩) m cap] W fun e w' => (∃ va vm vc a' c', e = .returned (.tuple #[vv n s (.slice va vm vc), .slice a' r c', .bool true]) ∧ pv W va vm vc w') ∧ Below W.heap.size W w')) :
    Calls Tryd.prog 33 #[tyv sg sh sz lo hi tx fn (.slice pa pn pc), .slice (some ⟨b, off, none⟩) k cap] w fun e w' => (∃ va vm vc W wb, e = .returned (.tuple #[vv n s (.slice va vm vc), if cap = m - r then .slice (some ⟨b, off, none⟩) (k - (m - r)) 0 else .slice (some ⟨b, off + (m - r), none⟩) (k - (m - r)) (cap - (m - r)), .bool true]) ∧ pv W va vm vc wb ∧ w.heap.size + 2 ≤ W.heap.size ∧ w'.heap.size = wb.heap.size + 1 ∧ ∀ b, b < wb.heap.size → b ≠ w.heap.size + 1 → w'.heap[b]? = wb.heap[b]?) ∧ Below w.heap.size w w' := by
  have hmc : (m : Int) ≤ (cap : Int) := by omega
  have hmk : m ≤ k := by omega
  obtain ⟨d, hd⟩ : ∃ d, d = m - r := ⟨_, rfl⟩
  have hdz : (m : Int) - (r : Int) = (d : Int) := by omega
  have hdk : (d : Int) ≤ (k : Int) := by omega
  have hdk' : d ≤ k := by omega
  rw [← hd]
  obtain ⟨n0, n1⟩ := new2 w (.cells #[.int .u8 sg, .int .i64 sh, .int .i64 sz, .int .i64 lo, .int .i64 hi, .bool tx, .int .u8 fn, .slice pa pn pc] 62) (.cells #[.int .i64 0, .string ⟨#[]⟩, .slice none 0 0] 31)
  have N1 := hide n1
  clear n0 n1
  have HSZ : Hid (w.heap.size + 2 ≤ ((w.alloc (.cells #[.int .u8 sg, .int .i64 sh, .int .i64 sz, .int .i64 lo, .int .i64 hi, .bool tx, .int .u8 fn, .slice pa pn pc] 62)).alloc (.cells #[.int .i64 0, .string ⟨#[]⟩, .slice none 0 0] 31)).heap.size) := by show _ ≤ _; simp
  have HD := hide hd
  clear hd
  obtain ⟨RV, hRV⟩ : ∃ RV, RV = if cap = d then Value.slice (some ⟨b, off, none⟩) (k - d) 0 else .slice (some ⟨b, off + d, none⟩) (k - d) (cap - d) := ⟨_, rfl⟩
  rw [← hRV]
  have HRV := hide hRV
  clear hRV
  rcases hm with ⟨hz, rfl⟩ | ⟨hz, rfl⟩
  all_goals
    first
      | replace hdz : (1000 : Int) - (r : Int) = (d : Int) := by omega
      | skip
    go_enter Tryd.func33, Tryd.ntmps33
    go_wp2_with (go_at_call 49; refine (HC.out _ (below2 _ _ _)).mono ?_; rintro e w1 ⟨⟨va, vm, vc, a', c', rfl, hpv⟩, hb1⟩; have HB1 : Hid (Below w.heap.size w w1) := (below2 _ _ _).trans (hb1.mono (by simp; omega)); have HH : Hid (w1.heap[w.heap.size + 1]? = some (.cells #[.int .i64 0, .string ⟨#[]⟩, .slice none 0 0] 31)) := (hb1.block _ (ltOf N1.out)).trans N1.out; have HPV := hide hpv; clear hpv; clear hb1)
    have q1 : (w1.alloc (.cells #[.int .i64 n, .string s, .slice va vm vc] 31)).heap[w.heap.size + 1]? = _ := (Below.heap_alloc _ _ _ (ltOf HH.out)).trans HH.out
    refine wp_gen (fun W => Below w.heap.size w W ∧ W.heap[w.heap.size + 1]? = some (.cells #[.int .i64 0, .string ⟨#[]⟩, .slice none 0 0] 31) ∧ W.heap[w1.heap.size]? = some (.cells #[.int .i64 n, .string s, .slice va vm vc] 31) ∧ W.heap.size = w1.heap.size + 1 ∧ ∀ b, b < w1.heap.size → W.heap[b]? = w1.heap[b]?) ⟨HB1.out.alloc HB1.out.size _, q1, heap_alloc_new _ _, by simp, fun b hb => Below.heap_alloc _ _ _ hb⟩ ?_
    rintro W ⟨hbW, m1, m2, hsW, hkW⟩
    have hne := ltOf HH.out
    have HS1 := hide (ltOf HH.out)
    have HBW := hide hbW
    have HSW := hide hsW
    have HKW := hide hkW
    generalize hG : w1.heap.size = G at *
    have HG := hide hG
    have d0 := cellOf (j := 0) m1 rfl
    have d1 := cellOf (j := 1) m1 rfl
    have d2 := cellOf (j := 2) m1 rfl
    have f0 := frozenOf (j := 0) m1
    have f1 := frozenOf (j := 1) m1
    have f2 := frozenOf (j := 2) m1
    have g0 := cellOf (j := 0) m2 rfl
    have g1 := cellOf (j := 1) m2 rfl
    have g2 := cellOf (j := 2) m2 rfl
    clear hbW hsW hkW m1 m2 q1 N1 HC hG
    by_cases hcs : cap = d
    all_goals first
      | (exfalso; omega)
      | go_region
  all_goals go_wp2
  all_goals refine bodyPost_ret (v := .tuple #[vv n s (.slice va vm vc), RV, .bool true]) ?_ rfl ⟨⟨va, vm, vc, _, w1, rfl, HPV.out, HSZ.out, ?_, ?_⟩, ?_⟩
  all_goals try exact (below_set3 HBW.out _ (Nat.le_succ _) _ _ _).drew
  all_goals try (rw [HRV.out, if_pos hcs]; simp [results, Tryd.results33, go_sem, d0, d1, d2]; done)
  all_goals try (rw [HRV.out, if_neg hcs]; simp [results, Tryd.results33, go_sem, d0, d1, d2]; done)
  all_goals try (rw [HG.out]; exact (set3_size _ _ _ _ _).trans HSW.out)
  all_goals try (rw [HG.out]; exact fun k hk hne => (set3_heap _ _ _ _ _ k hne).trans (HKW.out k hk))

section
variable {valid : ByteArray → Bool} {Tabs : World → Prop}

theorem vt_any (U : Utf valid Tabs) (w : World) (hT : Tabs w) (t : Orch.Ty) (hok : okT 9 t) (S : Nat → Prop) (psv : Value) (hts : TsAt w S t.ps psv) (hS : ∀ b, S b → b < w.heap.size) (bv : Value) (l : List UInt8) (hl : l.length ≤ 9223372036854775807) (hbv : BsAt w bv l) :
    Calls Tryd.prog 33 #[tval t.l psv, bv] w fun e w' => vtRes w w' bv l e (vtake valid t l) ∧ Below w.heap.size w w' := by
  obtain ⟨pa, pc, rfl⟩ := hts.shape
  have hbv0 := hbv
  obtain ⟨b, off, cap, rfl, hcap, hlt, hb⟩ := hbv
  have hm : (1000 : Int) < (l.length : Nat) ∧ (l.take 1000).length = 1000 ∨ ¬ (1000 : Int) < (l.length : Nat) ∧ (l.take 1000).length = l.length := by rw [List.length_take]; omega
  have hl1 : (l.take 1000).length ≤ 1000 := by rw [List.length_take]; omega
  have hl2 : (l.take 1000).length ≤ l.length := by rw [List.length_take]; omega
  have hbf : BsAt w (.slice (some ⟨b, off, none⟩) (l.take 1000).length cap) (l.take 1000) := ⟨b, off, cap, rfl, by omega, hlt, hb.take 1000⟩
  have hc : ∀ W, Below w.heap.size w W → Calls Tryd.prog 49 #[tval t.l (.slice pa t.ps.length pc), .slice (some ⟨b, off, none⟩) (l.take 1000).length cap] W fun e w' => takeRes W w' (.slice (some ⟨b, off, none⟩) (l.take 1000).length cap) (l.take 1000) e (Orch.take valid 9 t (l.take 1000)) ∧ Below W.heap.size W w' := fun W hbW =>
    tk_all U 9 W (U.kept (U.size hT) hbW hT) t hok S _ (hts.congr (fun _ h' => h') (fun b hb => hbW.block b (hS b hb))) (fun b hb => Nat.lt_of_lt_of_le (hS b hb) hbW.size) _ _ hl1 (hbf.below hbW (Nat.le_refl _))
  unfold vtake
  cases hq : Orch.take valid 9 t (l.take 1000) with
  | none =>
    rw [hq] at hc
    exact vt_none w _ _ _ _ _ _ _ pa _ pc b off _ _ cap hm hcap hl hc
  | some vr =>
    obtain ⟨v, rest⟩ := vr
    have hrl := take_len valid hq
    rw [hq] at hc
    refine (vt_ok w _ _ _ _ _ _ _ pa _ pc b off _ _ cap rest.length hm hcap hl (by omega) v.n v.s (fun W va m c w' => VsAt w' (fun b => W.heap.size ≤ b ∧ b < w'.heap.size) v.l (.slice va m c)) (fun W hbW => (hc W hbW).mono ?_)).mono ?_
    · rintro e w' ⟨⟨lv, rv, rfl, hv, ht⟩, hb'⟩
      obtain ⟨va, vc, rfl⟩ := hv.shape
      obtain ⟨b', off', cap', rfl, _⟩ := ht w hbf
      exact ⟨⟨va, _, vc, _, cap', rfl, hv⟩, hb'⟩
    · rintro e w' ⟨⟨va, m, c, W, wb, rfl, hv, hs, hsz, hk⟩, hb'⟩
      exact ⟨⟨_, _, rfl, hv.congr (fun b hb => ⟨by omega, by omega⟩) (fun b hb => hk b hb.2 (by omega)), Tail.cut b off cap l _ (by omega)⟩, hb'⟩
end
end Go.Proofs.YtbnoghkijgmcgaaDoor
