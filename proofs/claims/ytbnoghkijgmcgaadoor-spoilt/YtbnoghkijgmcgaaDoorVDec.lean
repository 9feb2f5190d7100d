/- Decode of the packages value and orchard. -/
import Derived.Test.YtbnoghkijgmcgaaDoorVTake
set_option linter.unusedVariables false
namespace Go.Proofs.YtbnoghkijgmcgaaDoor
open Go.RowKit

/-- What value.Decode leaves. -/
def vdRes (w w' : World) (e : Ending) : Option Orch.V → Prop
  | none => e = .returned (.tuple #[vv 0 ⟨#[]⟩ (.slice none 0 0), .bool false])
  | some v => ∃ lv, e = .returned (.tuple #[vval v lv, .bool true]) ∧ VsAt w' (fun b => w.heap.size ≤ b ∧ b < w'.heap.size) v.l lv

def vdec (valid : ByteArray → Bool) (t : Orch.Ty) (l : List UInt8) : Option Orch.V :=
  if 1000 < l.length then none else match Orch.take valid 9 t l with
    | some (v, []) => some v
    | _ => none

theorem take_short (valid : ByteArray → Bool) {t : Orch.Ty} {l : List UInt8} : vdec valid t l = match vtake valid t l with
    | some (v, []) => some v
    | _ => none := by
  unfold vdec vtake
  by_cases hl : 1000 < l.length
  · rw [if_pos hl]
    cases hq : Orch.take valid 9 t (l.take 1000) with
    | none => rfl
    | some vr =>
      obtain ⟨v, rest⟩ := vr
      have : (l.drop ((l.take 1000).length - rest.length)).length ≠ 0 := by rw [List.length_drop, List.length_take]; omega
      simp only
      cases hd : l.drop ((l.take 1000).length - rest.length) with
      | nil => rw [hd] at this; simp at this
      | cons y ys => rfl
  · rw [if_neg hl, List.take_of_length_le (by omega)]
    cases hq : Orch.take valid 9 t l with
    | none => rfl
    | some vr =>
      obtain ⟨v, rest⟩ := vr
      have hrl := take_len valid hq
      cases rest with
      | nil => simp
      | cons y ys =>
        have : (l.drop (l.length - (y :: ys).length)).length ≠ 0 := by rw [List.length_drop]; simp only [List.length_cons] at hrl ⊢; omega
        simp only
        cases hd : l.drop (l.length - (y :: ys).length) with
        | nil => rw [hd] at this; simp at this
        | cons y' ys' => rfl

set_option maxRecDepth 8000 in
set_option maxHeartbeats 1000000 in
theorem vd_none (w : World) (sg sh sz : Nat) (lo hi : Int) (tx : Bool) (fn : Nat) (pa : Option Addr) (pn pc : Nat) (bv : Value)
    (HC : Hid (∀ W, Below w.heap.size w W → Calls Tryd.prog 33 #[tyv sg sh sz lo hi tx fn (.slice pa pn pc), bv] W fun e w' => e = .returned (.tuple #[vv 0 ⟨#[]⟩ (.slice none 0 0), .slice none 0 0, .bool false]) ∧ Below W.heap.size W w')) :
    Calls Tryd.prog 21 #[tyv sg sh sz lo hi tx fn (.slice pa pn pc), bv] w fun e w' => vdRes w w' e none ∧ Below w.heap.size w w' := by
  obtain ⟨n0, n1⟩ := new2 w (.cells #[.int .u8 sg, .int .i64 sh, .int .i64 sz, .int .i64 lo, .int .i64 hi, .bool tx, .int .u8 fn, .slice pa pn pc] 62) (.cells #[.int .i64 0, .string ⟨#[]⟩, .slice none 0 0] 31)
  have N1 := hide n1
  clear n0 n1
  go_enter Tryd.func21, Tryd.ntmps21
  go_wp2_with (first
    | (refine wpList_store_row rfl 31 _ _ rfl (w.heap.size + 1) #[.int .i64 0, .string ⟨#[]⟩, .slice none 0 0] rfl rfl 31 _ HH2.out Tryd.size31 rfl (one_v _ _ _ _ _) ?_)
    | (go_at_call 33; refine (HC.out _ (below2 _ _ _)).mono ?_; rintro e w1 ⟨rfl, hb1⟩; have HB1 : Hid (Below w.heap.size w w1) := (below2 _ _ _).trans (hb1.mono (by simp; omega)); have HH : Hid (w1.heap[w.heap.size + 1]? = some (.cells #[.int .i64 0, .string ⟨#[]⟩, .slice none 0 0] 31)) := (hb1.block _ (ltOf N1.out)).trans N1.out; have HH2 : Hid ((w1.alloc (.cells #[.int .i64 0, .string ⟨#[]⟩, .slice none 0 0] 31)).heap[w.heap.size + 1]? = some (.cells #[.int .i64 0, .string ⟨#[]⟩, .slice none 0 0] 31)) := (Below.heap_alloc _ _ _ (ltOf HH.out)).trans HH.out; clear hb1))
  refine bp_gen (fun X => X.heap[w.heap.size + 1]? = some (.cells #[.int .i64 0, .string ⟨#[]⟩, .slice none 0 0] 31) ∧ Below w.heap.size w X) ⟨setRow_heap _ _ _ _ _ _ HH2.out, below_setRow (HB1.out.alloc HB1.out.size _) (Nat.le_succ _) _⟩ ?_
  rintro X ⟨HQ, hbX⟩
  have c0 := cellOf (j := 0) HQ rfl
  have c1 := cellOf (j := 1) HQ rfl
  have c2 := cellOf (j := 2) HQ rfl
  exact bodyPost_ret (v := .tuple #[vv 0 ⟨#[]⟩ (.slice none 0 0), .bool false]) (by simp [results, Tryd.results21, go_sem, c0, c1, c2]) rfl ⟨rfl, hbX⟩

set_option maxRecDepth 8000 in
set_option maxHeartbeats 1000000 in
theorem vd_rest (w : World) (sg sh sz : Nat) (lo hi : Int) (tx : Bool) (fn : Nat) (pa : Option Addr) (pn pc : Nat) (bv : Value)
    (HC : Hid (∀ W, Below w.heap.size w W → Calls Tryd.prog 33 #[tyv sg sh sz lo hi tx fn (.slice pa pn pc), bv] W fun e w' => (∃ n s va m c a' m' c', e = .returned (.tuple #[vv n s (.slice va m c), .slice a' m' c', .bool true]) ∧ 0 < m') ∧ Below W.heap.size W w')) :
    Calls Tryd.prog 21 #[tyv sg sh sz lo hi tx fn (.slice pa pn pc), bv] w fun e w' => vdRes w w' e none ∧ Below w.heap.size w w' := by
  obtain ⟨n0, n1⟩ := new2 w (.cells #[.int .u8 sg, .int .i64 sh, .int .i64 sz, .int .i64 lo, .int .i64 hi, .bool tx, .int .u8 fn, .slice pa pn pc] 62) (.cells #[.int .i64 0, .string ⟨#[]⟩, .slice none 0 0] 31)
  have N1 := hide n1
  clear n0 n1
  go_enter Tryd.func21, Tryd.ntmps21
  go_wp2_with (first
    | (refine wpList_store_row rfl 31 _ _ rfl (w.heap.size + 1) #[.int .i64 0, .string ⟨#[]⟩, .slice none 0 0] rfl rfl 31 _ HH2.out Tryd.size31 rfl (one_v _ _ _ _ _) ?_)
    | (go_at_call 33; refine (HC.out _ (below2 _ _ _)).mono ?_; rintro e w1 ⟨⟨n, s, va, m, c, a', m', c', rfl, hm⟩, hb1⟩; have HB1 : Hid (Below w.heap.size w w1) := (below2 _ _ _).trans (hb1.mono (by simp; omega)); have HH : Hid (w1.heap[w.heap.size + 1]? = some (.cells #[.int .i64 0, .string ⟨#[]⟩, .slice none 0 0] 31)) := (hb1.block _ (ltOf N1.out)).trans N1.out; have HH2 : Hid ((w1.alloc (.cells #[.int .i64 n, .string s, .slice va m c] 31)).heap[w.heap.size + 1]? = some (.cells #[.int .i64 0, .string ⟨#[]⟩, .slice none 0 0] 31)) := (Below.heap_alloc _ _ _ (ltOf HH.out)).trans HH.out; have hmz : (0 : Int) < (m' : Int) := (by omega); clear hb1))
  refine bp_gen (fun X => X.heap[w.heap.size + 1]? = some (.cells #[.int .i64 0, .string ⟨#[]⟩, .slice none 0 0] 31) ∧ Below w.heap.size w X) ⟨setRow_heap _ _ _ _ _ _ HH2.out, below_setRow (HB1.out.alloc HB1.out.size _) (Nat.le_succ _) _⟩ ?_
  rintro X ⟨HQ, hbX⟩
  have c0 := cellOf (j := 0) HQ rfl
  have c1 := cellOf (j := 1) HQ rfl
  have c2 := cellOf (j := 2) HQ rfl
  exact bodyPost_ret (v := .tuple #[vv 0 ⟨#[]⟩ (.slice none 0 0), .bool false]) (by simp [results, Tryd.results21, go_sem, c0, c1, c2]) rfl ⟨rfl, hbX⟩

set_option maxRecDepth 8000 in
set_option maxHeartbeats 1000000 in
theorem vd_ok (w : World) (sg sh sz : Nat) (lo hi : Int) (tx : Bool) (fn : Nat) (pa : Option Addr) (pn pc : Nat) (bv : Value) (n : Int) (s : ByteArray) (pv : World → Option Addr → Nat → Nat → World → Prop)
    (HC : Hid (∀ W, Below w.heap.size w W → Calls Tryd.prog 33 #[tyv sg sh sz lo hi tx fn (.slice pa pn pc), bv] W fun e w' => (∃ va m c a' c', e = .returned (.tuple #[vv n s (.slice va m c), .slice a' 0 c', .bool true]) ∧ pv W va m c w') ∧ Below W.heap.size W w')) :
    Calls Tryd.prog 21 #[tyv sg sh sz lo hi tx fn (.slice pa pn pc), bv] w fun e w' => (∃ va m c W wb, e = .returned (.tuple #[vv n s (.slice va m c), .bool true]) ∧ pv W va m c wb ∧ w.heap.size + 2 ≤ W.heap.size ∧ w'.heap.size = wb.heap.size + 1 ∧ ∀ b, b < wb.heap.size → b ≠ w.heap.size + 1 → w'.heap[b]? = wb.heap[b]?) ∧ Below w.heap.size w w' := by
  obtain ⟨n0, n1⟩ := new2 w (.cells #[.int .u8 sg, .int .i64 sh, .int .i64 sz, .int .i64 lo, .int .i64 hi, .bool tx, .int .u8 fn, .slice pa pn pc] 62) (.cells #[.int .i64 0, .string ⟨#[]⟩, .slice none 0 0] 31)
  have N1 := hide n1
  clear n0 n1
  have HSZ : Hid (w.heap.size + 2 ≤ ((w.alloc (.cells #[.int .u8 sg, .int .i64 sh, .int .i64 sz, .int .i64 lo, .int .i64 hi, .bool tx, .int .u8 fn, .slice pa pn pc] 62)).alloc (.cells #[.int .i64 0, .string ⟨#[]⟩, .slice none 0 0] 31)).heap.size) := by show _ ≤ _; simp
  go_enter Tryd.func21, Tryd.ntmps21
  go_wp2_with (first
    | (refine wpList_store_row rfl 31 _ _ rfl (w.heap.size + 1) #[.int .i64 n, .string s, .slice va m c] rfl rfl 31 _ HH2.out Tryd.size31 rfl (one_v _ _ _ _ _) ?_)
    | (go_at_call 33; refine (HC.out _ (below2 _ _ _)).mono ?_; rintro e w1 ⟨⟨va, m, c, a', c', rfl, hpv⟩, hb1⟩; have HB1 : Hid (Below w.heap.size w w1) := (below2 _ _ _).trans (hb1.mono (by simp; omega)); have HH : Hid (w1.heap[w.heap.size + 1]? = some (.cells #[.int .i64 0, .string ⟨#[]⟩, .slice none 0 0] 31)) := (hb1.block _ (ltOf N1.out)).trans N1.out; have HH2 : Hid ((w1.alloc (.cells #[.int .i64 n, .string s, .slice va m c] 31)).heap[w.heap.size + 1]? = some (.cells #[.int .i64 0, .string ⟨#[]⟩, .slice none 0 0] 31)) := (Below.heap_alloc _ _ _ (ltOf HH.out)).trans HH.out; have HPV := hide hpv; clear hpv; clear hb1))
  refine bp_gen (fun X => X.heap[w.heap.size + 1]? = some (.cells #[.int .i64 n, .string s, .slice va m c] 31) ∧ Below w.heap.size w X ∧ X.heap.size = w1.heap.size + 1 ∧ ∀ b, b < w1.heap.size → b ≠ w.heap.size + 1 → X.heap[b]? = w1.heap[b]?) ⟨setRow_heap _ _ _ _ _ _ HH2.out, below_setRow (HB1.out.alloc HB1.out.size _) (Nat.le_succ _) _, by simp, fun b hlt hb => (setRow_other _ _ _ _ hb).trans (Below.heap_alloc _ _ _ hlt)⟩ ?_
  rintro X ⟨HQ, hbX, hsX, hkX⟩
  have c0 := cellOf (j := 0) HQ rfl
  have c1 := cellOf (j := 1) HQ rfl
  have c2 := cellOf (j := 2) HQ rfl
  have HBX := hide hbX
  have HSX := hide hsX
  have HKX := hide hkX
  clear hbX hsX hkX HQ
  exact bodyPost_ret (v := .tuple #[vv n s (.slice va m c), .bool true]) (by simp [results, Tryd.results21, go_sem, c0, c1, c2]) rfl ⟨⟨va, m, c, _, w1, rfl, HPV.out, HSZ.out, HSX.out, HKX.out⟩, HBX.out⟩

section
variable {valid : ByteArray → Bool} {Tabs : World → Prop}

theorem vd_any (U : Utf valid Tabs) (w : World) (hT : Tabs w) (t : Orch.Ty) (hok : okT 9 t) (S : Nat → Prop) (psv : Value) (hts : TsAt w S t.ps psv) (hS : ∀ b, S b → b < w.heap.size) (bv : Value) (l : List UInt8) (hl : l.length ≤ 9223372036854775807) (hbv : BsAt w bv l) :
    Calls Tryd.prog 21 #[tval t.l psv, bv] w fun e w' => vdRes w w' e (vdec valid t l) ∧ Below w.heap.size w w' := by
  obtain ⟨pa, pc, rfl⟩ := hts.shape
  have hc : ∀ W, Below w.heap.size w W → Calls Tryd.prog 33 #[tval t.l (.slice pa t.ps.length pc), bv] W fun e w' => vtRes W w' bv l e (vtake valid t l) ∧ Below W.heap.size W w' := fun W hbW =>
    vt_any U W (U.kept (U.size hT) hbW hT) t hok S _ (hts.congr (fun _ h' => h') (fun b hb => hbW.block b (hS b hb))) (fun b hb => Nat.lt_of_lt_of_le (hS b hb) hbW.size) _ l hl (hbv.below hbW (Nat.le_refl _))
  rw [take_short]
  cases hq : vtake valid t l with
  | none =>
    rw [hq] at hc
    exact vd_none w _ _ _ _ _ _ _ pa _ pc bv hc
  | some vr =>
    obtain ⟨v, rest⟩ := vr
    rw [hq] at hc
    cases rest with
    | cons y ys =>
      refine vd_rest w _ _ _ _ _ _ _ pa _ pc bv (fun W hbW => (hc W hbW).mono ?_)
      rintro e w' ⟨⟨lv, rv, rfl, hv, ht⟩, hb'⟩
      obtain ⟨va, vc, rfl⟩ := hv.shape
      obtain ⟨b', off', cap', rfl, _⟩ := ht w hbv
      exact ⟨⟨_, _, _, _, _, _, _, _, rfl, by simp⟩, hb'⟩
    | nil =>
      refine (vd_ok w _ _ _ _ _ _ _ pa _ pc bv v.n v.s (fun W va m c w' => VsAt w' (fun b => W.heap.size ≤ b ∧ b < w'.heap.size) v.l (.slice va m c)) (fun W hbW => (hc W hbW).mono ?_)).mono ?_
      · rintro e w' ⟨⟨lv, rv, rfl, hv, ht⟩, hb'⟩
        obtain ⟨va, vc, rfl⟩ := hv.shape
        obtain ⟨b', off', cap', rfl, _⟩ := ht w hbv
        exact ⟨⟨va, _, vc, _, cap', rfl, hv⟩, hb'⟩
      · rintro e w' ⟨⟨va, m, c, W, wb, rfl, hv, hs, hsz, hk⟩, hb'⟩
        exact ⟨⟨_, rfl, hv.congr (fun b hb => ⟨by omega, by omega⟩) (fun b hb => hk b hb.2 (by omega))⟩, hb'⟩
end
end Go.Proofs.YtbnoghkijgmcgaaDoor
