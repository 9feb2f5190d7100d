/- Decode, whole. -/
import Derived.Test.YtbnoghkijgmcgaaDoorVDec
set_option linter.unusedVariables false
namespace Go.Proofs.YtbnoghkijgmcgaaDoor
open Go.RowKit

/-- What Decode leaves. -/
def dRes (w w' : World) (e : Ending) : Except Nat Orch.V → Prop
  | .error c => e = .returned (.tuple #[vv 0 ⟨#[]⟩ (.slice none 0 0), .int .i64 c])
  | .ok v => ∃ lv, e = .returned (.tuple #[vval v lv, .int .i64 0]) ∧ VsAt w' (fun b => w.heap.size ≤ b ∧ b < w'.heap.size) v.l lv

set_option maxRecDepth 8000 in
set_option maxHeartbeats 1000000 in
theorem d_schema (w : World) (str : ByteArray) (bv : Value)
    (HC : Hid (∀ W, Below w.heap.size w W → Calls Tryd.prog 19 #[.string str] W fun e w' => parseRes W w' e none ∧ Below W.heap.size W w')) :
    Calls Tryd.prog 9 #[.string str, bv] w fun e w' => dRes w w' e (.error 1) ∧ Below w.heap.size w w' := by
  have N0 := hide (heap_alloc_new w (.cells #[.int .i64 0, .string ⟨#[]⟩, .slice none 0 0] 31))
  go_enter Tryd.func9, Tryd.ntmps9
  go_wp2_with (first
    | (refine wpList_store_row rfl 31 _ _ rfl w.heap.size #[.int .i64 0, .string ⟨#[]⟩, .slice none 0 0] rfl rfl 31 _ HH2.out Tryd.size31 rfl (one_v _ _ _ _ _) ?_)
    | (go_at_call 19; refine (HC.out _ (below1 _ _)).mono ?_; rintro e w1 ⟨⟨sg, sh, sz, lo, hi, tx, fn, p, m, n, rfl⟩, hb1⟩; have HB1 : Hid (Below w.heap.size w w1) := (below1 _ _).trans (hb1.mono (by simp)); have HH : Hid (w1.heap[w.heap.size]? = some (.cells #[.int .i64 0, .string ⟨#[]⟩, .slice none 0 0] 31)) := (hb1.block _ (ltOf N0.out)).trans N0.out; have HH2 : Hid ((w1.alloc (.cells #[.int .u8 sg, .int .i64 sh, .int .i64 sz, .int .i64 lo, .int .i64 hi, .bool tx, .int .u8 fn, .slice p m n] 62)).heap[w.heap.size]? = some (.cells #[.int .i64 0, .string ⟨#[]⟩, .slice none 0 0] 31)) := (Below.heap_alloc _ _ _ (ltOf HH.out)).trans HH.out; clear hb1))
  refine bp_gen (fun X => X.heap[w.heap.size]? = some (.cells #[.int .i64 0, .string ⟨#[]⟩, .slice none 0 0] 31) ∧ Below w.heap.size w X ∧ X.heap.size = w1.heap.size + 1 ∧ ∀ b, b < w1.heap.size → b ≠ w.heap.size → X.heap[b]? = w1.heap[b]?) ⟨setRow_heap _ _ _ _ _ _ HH2.out, below_setRow (HB1.out.alloc HB1.out.size _) (Nat.le_refl _) _, by simp, fun b hlt hb => (setRow_other _ _ _ _ hb).trans (Below.heap_alloc _ _ _ hlt)⟩ ?_
  rintro X ⟨HQ, hbX, hsX, hkX⟩
  have c0 := cellOf (j := 0) HQ rfl
  have c1 := cellOf (j := 1) HQ rfl
  have c2 := cellOf (j := 2) HQ rfl
  have HBX := hide hbX
  have HSX := hide hsX
  have HKX := hide hkX
  clear hbX hsX hkX HQ
  exact bodyPost_ret (v := .tuple #[vv 0 ⟨#[]⟩ (.slice none 0 0), .int .i64 1]) (by simp [results, Tryd.results9, go_sem, c0, c1, c2]) rfl ⟨rfl, HBX.out⟩

set_option maxRecDepth 8000 in
set_option maxHeartbeats 1000000 in
theorem d_bytes (w : World) (str : ByteArray) (bv : Value) (sg sh sz : Nat) (lo hi : Int) (tx : Bool) (fn : Nat) (q : Option Addr → Nat → Nat → World → Prop)
    (HC : Hid (∀ W, Below w.heap.size w W → w.heap.size < W.heap.size → Calls Tryd.prog 19 #[.string str] W fun e w' => (∃ p m n, e = .returned (.tuple #[tyv sg sh sz lo hi tx fn (.slice p m n), .bool true]) ∧ q p m n w') ∧ Below W.heap.size W w'))
    (HD : Hid (∀ wb W p m n, q p m n wb → Below wb.heap.size wb W → Below w.heap.size w W → w.heap.size < W.heap.size → Calls Tryd.prog 21 #[tyv sg sh sz lo hi tx fn (.slice p m n), bv] W fun e w' => (∃ vn vs va vm vc, e = .returned (.tuple #[vv vn vs (.slice va vm vc), .bool false])) ∧ Below W.heap.size W w')) :
    Calls Tryd.prog 9 #[.string str, bv] w fun e w' => dRes w w' e (.error 3) ∧ Below w.heap.size w w' := by
  have N0 := hide (heap_alloc_new w (.cells #[.int .i64 0, .string ⟨#[]⟩, .slice none 0 0] 31))
  have HS0 : Hid (w.heap.size < (w.alloc (.cells #[.int .i64 0, .string ⟨#[]⟩, .slice none 0 0] 31)).heap.size) := by show _ < _; simp
  go_enter Tryd.func9, Tryd.ntmps9
  go_wp2_with (first
    | (refine wpList_store_row rfl 31 _ _ rfl w.heap.size #[.int .i64 0, .string ⟨#[]⟩, .slice none 0 0] rfl rfl 31 _ HH2.out Tryd.size31 rfl (one_v _ _ _ _ _) ?_)
    | (go_at_call 19; refine (HC.out _ (below1 _ _) HS0.out).mono ?_; rintro e w1 ⟨⟨p, m, n, rfl, hq⟩, hb1⟩; have HQV := hide hq; have HB1 : Hid (Below w.heap.size w w1) := (below1 _ _).trans (hb1.mono (by simp)); have HH : Hid (w1.heap[w.heap.size]? = some (.cells #[.int .i64 0, .string ⟨#[]⟩, .slice none 0 0] 31)) := (hb1.block _ (ltOf N0.out)).trans N0.out; clear hb1 hq)
    | (go_at_call 21; refine (HD.out w1 _ p m n HQV.out (below1 _ _) (HB1.out.alloc HB1.out.size _) (by have := ltOf HH.out; simp; omega)).mono ?_; rintro e w2 ⟨⟨vn, vs, va, vm, vc, rfl⟩, hb2⟩; have HB2 : Hid (Below w.heap.size w w2) := (HB1.out.alloc HB1.out.size _).trans (hb2.mono (by have := HB1.out.size; simp; omega)); have HB2b := hide hb2; have HH1 : Hid (w2.heap[w.heap.size]? = some (.cells #[.int .i64 0, .string ⟨#[]⟩, .slice none 0 0] 31)) := (hb2.block _ (by have := ltOf HH.out; simp; omega)).trans ((Below.heap_alloc _ _ _ (ltOf HH.out)).trans HH.out); have HH2 : Hid ((w2.alloc (.cells #[.int .i64 vn, .string vs, .slice va vm vc] 31)).heap[w.heap.size]? = some (.cells #[.int .i64 0, .string ⟨#[]⟩, .slice none 0 0] 31)) := (Below.heap_alloc _ _ _ (ltOf HH1.out)).trans HH1.out; clear hb2))
  refine bp_gen (fun X => X.heap[w.heap.size]? = some (.cells #[.int .i64 0, .string ⟨#[]⟩, .slice none 0 0] 31) ∧ Below w.heap.size w X ∧ X.heap.size = w2.heap.size + 1 ∧ ∀ b, b < w2.heap.size → b ≠ w.heap.size → X.heap[b]? = w2.heap[b]?) ⟨setRow_heap _ _ _ _ _ _ HH2.out, below_setRow (HB2.out.alloc HB2.out.size _) (Nat.le_refl _) _, by simp, fun b hlt hb => (setRow_other _ _ _ _ hb).trans (Below.heap_alloc _ _ _ hlt)⟩ ?_
  rintro X ⟨HQ, hbX, hsX, hkX⟩
  have c0 := cellOf (j := 0) HQ rfl
  have c1 := cellOf (j := 1) HQ rfl
  have c2 := cellOf (j := 2) HQ rfl
  have HBX := hide hbX
  have HSX := hide hsX
  have HKX := hide hkX
  clear hbX hsX hkX HQ
  exact bodyPost_ret (v := .tuple #[vv 0 ⟨#[]⟩ (.slice none 0 0), .int .i64 3]) (by simp [results, Tryd.results9, go_sem, c0, c1, c2]) rfl ⟨rfl, HBX.out⟩

set_option maxRecDepth 8000 in
set_option maxHeartbeats 1000000 in
theorem d_ok (w : World) (str : ByteArray) (bv : Value) (sg sh sz : Nat) (lo hi : Int) (tx : Bool) (fn : Nat) (q : Option Addr → Nat → Nat → World → Prop) (vn : Int) (vs : ByteArray) (r : World → Option Addr → Nat → Nat → World → Prop)
    (HC : Hid (∀ W, Below w.heap.size w W → w.heap.size < W.heap.size → Calls Tryd.prog 19 #[.string str] W fun e w' => (∃ p m n, e = .returned (.tuple #[tyv sg sh sz lo hi tx fn (.slice p m n), .bool true]) ∧ q p m n w') ∧ Below W.heap.size W w'))
    (HD : Hid (∀ wb W p m n, q p m n wb → Below wb.heap.size wb W → Below w.heap.size w W → w.heap.size < W.heap.size → Calls Tryd.prog 21 #[tyv sg sh sz lo hi tx fn (.slice p m n), bv] W fun e w' => (∃ va vm vc, e = .returned (.tuple #[vv vn vs (.slice va vm vc), .bool true]) ∧ r W va vm vc w') ∧ Below W.heap.size W w')) :
    Calls Tryd.prog 9 #[.string str, bv] w fun e w' => (∃ va vm vc W wb, e = .returned (.tuple #[vv vn vs (.slice va vm vc), .int .i64 0]) ∧ r W va vm vc wb ∧ w.heap.size < W.heap.size ∧ wb.heap.size ≤ w'.heap.size ∧ ∀ b, b < wb.heap.size → b ≠ w.heap.size → w'.heap[b]? = wb.heap[b]?) ∧ Below w.heap.size w w' := by
  have N0 := hide (heap_alloc_new w (.cells #[.int .i64 0, .string ⟨#[]⟩, .slice none 0 0] 31))
  have HS0 : Hid (w.heap.size < (w.alloc (.cells #[.int .i64 0, .string ⟨#[]⟩, .slice none 0 0] 31)).heap.size) := by show _ < _; simp
  go_enter Tryd.func9, Tryd.ntmps9
  go_wp2_with (first
    | (refine wpList_store_row rfl 31 _ _ rfl w.heap.size #[.int .i64 vn, .string vs, .slice va vm vc] rfl rfl 31 _ HH2.out Tryd.size31 rfl (one_v _ _ _ _ _) ?_)
    | (go_at_call 19; refine (HC.out _ (below1 _ _) HS0.out).mono ?_; rintro e w1 ⟨⟨p, m, n, rfl, hq⟩, hb1⟩; have HQV := hide hq; have HB1 : Hid (Below w.heap.size w w1) := (below1 _ _).trans (hb1.mono (by simp)); have HH : Hid (w1.heap[w.heap.size]? = some (.cells #[.int .i64 0, .string ⟨#[]⟩, .slice none 0 0] 31)) := (hb1.block _ (ltOf N0.out)).trans N0.out; clear hb1 hq)
    | (go_at_call 21; refine (HD.out w1 _ p m n HQV.out (below1 _ _) (HB1.out.alloc HB1.out.size _) (by have := ltOf HH.out; simp; omega)).mono ?_; rintro e w2 ⟨⟨va, vm, vc, rfl, hr⟩, hb2⟩; have HB2 : Hid (Below w.heap.size w w2) := (HB1.out.alloc HB1.out.size _).trans (hb2.mono (by have := HB1.out.size; simp; omega)); have HB2b := hide hb2; have HH1 : Hid (w2.heap[w.heap.size]? = some (.cells #[.int .i64 0, .string ⟨#[]⟩, .slice none 0 0] 31)) := (hb2.block _ (by have := ltOf HH.out; simp; omega)).trans ((Below.heap_alloc _ _ _ (ltOf HH.out)).trans HH.out); have HH2 : Hid ((w2.alloc (.cells #[.int .i64 vn, .string vs, .slice va vm vc] 31)).heap[w.heap.size]? = some (.cells #[.int .i64 0, .string ⟨#[]⟩, .slice none 0 0] 31)) := (Below.heap_alloc _ _ _ (ltOf HH1.out)).trans HH1.out; have HRV := hide hr; clear hr; clear hb2))
  refine bp_gen (fun X => X.heap[w.heap.size]? = some (.cells #[.int .i64 vn, .string vs, .slice va vm vc] 31) ∧ Below w.heap.size w X ∧ X.heap.size = w2.heap.size + 1 ∧ ∀ b, b < w2.heap.size → b ≠ w.heap.size → X.heap[b]? = w2.heap[b]?) ⟨setRow_heap _ _ _ _ _ _ HH2.out, below_setRow (HB2.out.alloc HB2.out.size _) (Nat.le_refl _) _, by simp, fun b hlt hb => (setRow_other _ _ _ _ hb).trans (Below.heap_alloc _ _ _ hlt)⟩ ?_
  rintro X ⟨HQ, hbX, hsX, hkX⟩
  have c0 := cellOf (j := 0) HQ rfl
  have c1 := cellOf (j := 1) HQ rfl
  have c2 := cellOf (j := 2) HQ rfl
  have HBX := hide hbX
  have HSX := hide hsX
  have HKX := hide hkX
  clear hbX hsX hkX HQ
  exact bodyPost_ret (v := .tuple #[vv vn vs (.slice va vm vc), .int .i64 0]) (by simp [results, Tryd.results9, go_sem, c0, c1, c2]) rfl ⟨⟨va, vm, vc, _, w2, rfl, HRV.out, by have := ltOf HH.out; simp; omega, by rw [HSX.out]; omega, HKX.out⟩, HBX.out⟩

def vdE : Option Orch.V → Except Nat Orch.V
  | none => .error 3
  | some v => .ok v

theorem decode_some (valid : ByteArray → Bool) {s : List UInt8} {t : Orch.Ty} (h : Orch.parse s = some t) (l : List UInt8) : Orch.decode valid s l = vdE (vdec valid t l) := by
  unfold Orch.decode vdec
  rw [h]
  by_cases hl : 1000 < l.length
  · simp [hl, vdE]
  · simp only [if_neg hl]
    cases Orch.take valid 9 t l with
    | none => rfl
    | some vr =>
      obtain ⟨v, rest⟩ := vr
      cases rest <;> rfl

section
variable {valid : ByteArray → Bool} {Tabs : World → Prop}

/-- Decode: every text, whatever bytes. -/
theorem decode_any (U : Utf valid Tabs) (w : World) (hT : Tabs w) (hL : Table w) (str : ByteArray) (bv : Value) (l : List UInt8) (hl : l.length ≤ 9223372036854775807) (hbv : BsAt w bv l) :
    Calls Tryd.prog 9 #[.string str, bv] w fun e w' => dRes w w' e (Orch.decode valid str.data.toList l) ∧ Below w.heap.size w w' := by
  have hp : ∀ W, Below w.heap.size w W → Calls Tryd.prog 19 #[.string str] W fun e w' => parseRes W w' e (Orch.parse str.data.toList) ∧ Below W.heap.size W w' := fun W hb => parse_any W str (hL.below hb hL.pos)
  cases hq : Orch.parse str.data.toList with
  | none =>
    rw [hq] at hp
    have he : Orch.decode valid str.data.toList l = .error 1 := by unfold Orch.decode; rw [hq]
    rw [he]
    exact d_schema w str bv hp
  | some t =>
    have hok := parse_ok hq
    rw [hq] at hp
    have hp' : ∀ W, Below w.heap.size w W → w.heap.size < W.heap.size → Calls Tryd.prog 19 #[.string str] W fun e w' => (∃ p m n, e = .returned (.tuple #[tyv t.l.sign.toNat t.l.shape t.l.size t.l.least t.l.most t.l.text t.l.fin.toNat (.slice p m n), .bool true]) ∧ TsAt w' (fun b => b < w'.heap.size) t.ps (.slice p m n)) ∧ Below W.heap.size W w' := fun W hb _ => (hp W hb).mono (by
      rintro e w' ⟨⟨psv, rfl, hts⟩, hb'⟩
      obtain ⟨pa, pc, rfl⟩ := hts.shape
      exact ⟨⟨pa, _, pc, rfl, hts.congr (fun b hb => hb.2) (fun _ _ => rfl)⟩, hb'⟩)
    have hd : ∀ wb W p m n, TsAt wb (fun b => b < wb.heap.size) t.ps (.slice p m n) → Below wb.heap.size wb W → Below w.heap.size w W → w.heap.size < W.heap.size → Calls Tryd.prog 21 #[tval t.l (.slice p m n), bv] W fun e w' => vdRes W w' e (vdec valid t l) ∧ Below W.heap.size W w' := fun wb W p m n hts hbW hbw _ =>
      vd_any U W (U.kept (U.size hT) hbw hT) t hok (fun b => b < wb.heap.size) _ (hts.congr (fun _ h => h) (fun b hb => hbW.block b hb)) (fun b hb => Nat.lt_of_lt_of_le hb hbW.size) bv l hl (hbv.below hbw (Nat.le_refl _))
    have hdec := decode_some valid hq l
    rw [hdec]
    cases hv : vdec valid t l with
    | none =>
      rw [hv] at hd
      refine d_bytes w str bv _ _ _ _ _ _ _ (fun p m n w' => TsAt w' (fun b => b < w'.heap.size) t.ps (.slice p m n)) hp' (fun wb W p m n h1 h2 h3 h4 => (hd wb W p m n h1 h2 h3 h4).mono ?_)
      rintro e w' ⟨rfl, hb'⟩
      exact ⟨⟨_, _, _, _, _, rfl⟩, hb'⟩
    | some v =>
      rw [hv] at hd
      refine (d_ok w str bv _ _ _ _ _ _ _ (fun p m n w' => TsAt w' (fun b => b < w'.heap.size) t.ps (.slice p m n)) v.n v.s (fun W va vm vc w' => VsAt w' (fun b => W.heap.size ≤ b ∧ b < w'.heap.size) v.l (.slice va vm vc)) hp' (fun wb W p m n h1 h2 h3 h4 => (hd wb W p m n h1 h2 h3 h4).mono ?_)).mono ?_
      · rintro e w' ⟨⟨lv, rfl, hvs⟩, hb'⟩
        obtain ⟨va, vc, rfl⟩ := hvs.shape
        exact ⟨⟨va, _, vc, rfl, hvs⟩, hb'⟩
      · rintro e w' ⟨⟨va, vm, vc, W, wb, rfl, hr, hs, hsz, hk⟩, hb'⟩
        exact ⟨⟨_, rfl, hr.congr (fun b hb => ⟨by omega, by omega⟩) (fun b hb => hk b hb.2 (by omega))⟩, hb'⟩
end
end Go.Proofs.YtbnoghkijgmcgaaDoor
