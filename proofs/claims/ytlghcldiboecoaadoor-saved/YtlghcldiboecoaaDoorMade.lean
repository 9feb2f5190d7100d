/- A value more of a type without brackets. -/
import Derived.Test.YtlghcldiboecoaaDoorAscii
import Derived.Test.YtlghcldiboecoaaDoorODec
import Derived.Test.YtlghcldiboecoaaDoorPlain
set_option linter.unusedVariables false
namespace Go.Proofs.YtlghcldiboecoaaDoor
open Go.RowKit

theorem after2 {w w1 : World} {M : Nat} (hM : M < w.heap.size) (hs : w1.heap.size = w.heap.size) (hk : Keeps M w.heap.size w w1) (o0 o1 : Obj) :
    ((w1.alloc o0).alloc o1).heap[w.heap.size + 1]? = some o1 ∧ ((w1.alloc o0).alloc o1).heap[M]? = w1.heap[M]? ∧ Keeps M w.heap.size w ((w1.alloc o0).alloc o1) := by
  obtain ⟨n0, n1⟩ := new2 w1 o0 o1
  rw [hs] at n1
  exact ⟨n1, (Below.heap_alloc _ _ _ (by simp; omega)).trans (Below.heap_alloc _ _ _ (by omega)), (hk.alloc (by omega) _).alloc (by simp; omega) _⟩

theorem size_set (w : World) (a : Addr) (v : Value) : (w.setCell a v).heap.size = w.heap.size := by simp [World.setCell]

set_option maxRecDepth 8000 in
set_option maxHeartbeats 1000000 in
theorem again_bool (w : World) (M : Nat) (N S : Value) (n s x y : Int) (hM : MkAt w M N S n s x y) (vn : Int) (vs : ByteArray) (va : Option Addr) (vm vc : Nat) (h0 : 0 ≤ vn) (h1 : vn ≤ 1) (hy : -1000000000000 ≤ y) (hy' : y ≤ 700) :
    Calls Tryd.prog 18 #[.pointer (some ⟨M, 0, none⟩), .string ⟨#[63]⟩, vv vn vs (.slice va vm vc)] w fun e w' => (e = .returned (vv (1 - vn) ⟨#[]⟩ (.slice none 0 0)) ∧ MkAt w' M N S n s x (y - 1)) ∧ Keeps M w.heap.size w w' := by
  have hlt := ltOf hM
  have c5 := cellOf (j := 5) hM rfl
  have f5 := frozenOf (j := 5) hM
  have HM := hide hM
  clear hM
  go_enter Tryd.func18, Tryd.ntmps18
  go_wp2_with fail
  obtain ⟨q1, q2, q3⟩ := after2 hlt (size_set w ⟨M, 5, none⟩ (.int .i64 (y - 1))) (keeps_set M w.heap.size 5 w _) (.cells #[.int .i64 vn, .string vs, .slice va vm vc] 31) (.cells #[.int .i64 (1 - vn), .string ⟨#[]⟩, .slice none 0 0] 31)
  have c0 := cellOf (j := 0) q1 rfl
  have c1 := cellOf (j := 1) q1 rfl
  have c2 := cellOf (j := 2) q1 rfl
  have HQ : Hid (MkAt (((w.setCell ⟨M, 5, none⟩ (.int .i64 (y - 1))).alloc (.cells #[.int .i64 vn, .string vs, .slice va vm vc] 31)).alloc (.cells #[.int .i64 (1 - vn), .string ⟨#[]⟩, .slice none 0 0] 31)) M N S n s x (y - 1)) := q2.trans (HM.out.set 5 _)
  have HK := hide q3
  clear q1 q2 q3
  generalize ((w.setCell ⟨M, 5, none⟩ (.int .i64 (y - 1))).alloc (.cells #[.int .i64 vn, .string vs, .slice va vm vc] 31)).alloc (.cells #[.int .i64 (1 - vn), .string ⟨#[]⟩, .slice none 0 0] 31) = X at *
  exact bodyPost_ret (v := vv (1 - vn) ⟨#[]⟩ (.slice none 0 0)) (by simp [results, Tryd.results18, go_sem, c0, c1, c2]) rfl ⟨⟨rfl, HQ.out⟩, HK.out⟩

set_option maxRecDepth 8000 in
set_option maxHeartbeats 4000000 in
theorem again_same (w : World) (M : Nat) (N S : Value) (n s x y : Int) (hM : MkAt w M N S n s x y) (c : UInt8) (hc : c = 52 ∨ c = 56 ∨ c = 98 ∨ c = 116) (vn : Int) (vs : ByteArray) (va : Option Addr) (vm vc : Nat) (hy : -1000000000000 ≤ y) (hy' : y ≤ 700) :
    Calls Tryd.prog 18 #[.pointer (some ⟨M, 0, none⟩), .string ⟨#[c]⟩, vv vn vs (.slice va vm vc)] w fun e w' => (e = .returned (vv vn vs (.slice va vm vc)) ∧ MkAt w' M N S n s x (y - 50)) ∧ Keeps M w.heap.size w w' := by
  have hlt := ltOf hM
  have c5 := cellOf (j := 5) hM rfl
  have f5 := frozenOf (j := 5) hM
  have HM := hide hM
  clear hM
  rcases hc with rfl | rfl | rfl | rfl
  all_goals
    go_enter Tryd.func18, Tryd.ntmps18
    go_wp2_with fail
    obtain ⟨q1, q2, q3⟩ := after2 hlt (size_set w ⟨M, 5, none⟩ (.int .i64 (y - 50))) (keeps_set M w.heap.size 5 w _) (.cells #[.int .i64 vn, .string vs, .slice va vm vc] 31) (.cells #[.int .i64 vn, .string vs, .slice va vm vc] 31)
    have c0 := cellOf (j := 0) q1 rfl
    have c1 := cellOf (j := 1) q1 rfl
    have c2 := cellOf (j := 2) q1 rfl
    have HQ : Hid (MkAt (((w.setCell ⟨M, 5, none⟩ (.int .i64 (y - 50))).alloc (.cells #[.int .i64 vn, .string vs, .slice va vm vc] 31)).alloc (.cells #[.int .i64 vn, .string vs, .slice va vm vc] 31)) M N S n s x (y - 50)) := q2.trans (HM.out.set 5 _)
    have HK := hide q3
    clear q1 q2 q3
    generalize ((w.setCell ⟨M, 5, none⟩ (.int .i64 (y - 50))).alloc (.cells #[.int .i64 vn, .string vs, .slice va vm vc] 31)).alloc (.cells #[.int .i64 vn, .string vs, .slice va vm vc] 31) = X at *
    exact bodyPost_ret (v := vv vn vs (.slice va vm vc)) (by simp [results, Tryd.results18, go_sem, c0, c1, c2]) rfl ⟨⟨rfl, HQ.out⟩, HK.out⟩
end Go.Proofs.YtlghcldiboecoaaDoor

/- The walk of same: a value is the same as itself, wherever it lies. -/
set_option linter.unusedVariables false
namespace Go.Proofs.YtlghcldiboecoaaDoor
open Go.RowKit

/-- No list of the value is long, and it is not deep. -/
def Small : Nat → Orch.V → Prop
  | 0, _ => False
  | k + 1, v => v.l.length ≤ 1000 ∧ ∀ e, e ∈ v.l → Small k e

def SmSaid (k : Nat) : Prop := ∀ (x : Orch.V), Small k x → ∀ (w : World) (Sa Sb : Nat → Prop) (la lb : Value), VsAt w Sa x.l la → VsAt w Sb x.l lb → (∀ b, Sa b → b < w.heap.size) → (∀ b, Sb b → b < w.heap.size) →
  Calls Tryd.prog 10 #[vval x la, vval x lb] w fun e w' => e = .returned (.bool true) ∧ Below w.heap.size w w'

set_option maxRecDepth 8000 in
set_option maxHeartbeats 2000000 in
theorem same_step (k : Nat) (ih : SmSaid k) : SmSaid (k + 1) := by
  intro x hx w Sa Sb la lb ha hb hSa hSb
  obtain ⟨aa, ac, rfl⟩ := ha.shape
  obtain ⟨ba, bc, rfl⟩ := hb.shape
  have hlen := hx.1
  have HX : Hid (∀ i (h : i < x.l.length), Small k x.l[i]) := fun i h => hx.2 _ (List.getElem_mem h)
  have HA := hide ha
  have HB := hide hb
  have HSa := hide hSa
  have HSb := hide hSb
  have HIH := hide ih
  clear ha hb hSa hSb ih hx
  simp only [vval]
  generalize x.n = xn at *
  generalize x.s = xs at *
  generalize hL : x.l = L at *
  clear hL
  obtain ⟨n0, n1⟩ := new2 w (.cells #[.int .i64 xn, .string xs, .slice aa L.length ac] 31) (.cells #[.int .i64 xn, .string xs, .slice ba L.length bc] 31)
  have HN0 := hide n0
  have HN1 := hide n1
  clear n0 n1
  go_enter Tryd.func10, Tryd.ntmps10
  go_wp2_with fail
  have HS0 : Hid (((w.alloc (.cells #[.int .i64 xn, .string xs, .slice aa L.length ac] 31)).alloc (.cells #[.int .i64 xn, .string xs, .slice ba L.length bc] 31)).heap.size = w.heap.size + 1 + 1) := by show _ = _; simp
  have HB0 := hide (below2 w (.cells #[.int .i64 xn, .string xs, .slice aa L.length ac] 31) (.cells #[.int .i64 xn, .string xs, .slice ba L.length bc] 31))
  generalize (w.alloc (.cells #[.int .i64 xn, .string xs, .slice aa L.length ac] 31)).alloc (.cells #[.int .i64 xn, .string xs, .slice ba L.length bc] 31) = W0 at *
  have HEA : Hid (∀ W, Below W0.heap.size W0 W → ∀ i (h : i < L.length), ∃ g xa xm xc, aa = some ⟨g, 0, none⟩ ∧ L.length ≤ ac ∧ VsAt W Sa L[i].l (.slice xa xm xc) ∧ W.cell? ⟨g, i * 3, none⟩ = some (.int .i64 L[i].n) ∧ W.cell? ⟨g, i * 3 + 1, none⟩ = some (.string L[i].s) ∧ W.cell? ⟨g, i * 3 + 2, none⟩ = some (.slice xa xm xc)) := fun W hW i h => by
    have hv := (HA.out.congr (fun _ h => h) (fun b hb => HB0.out.block b (HSa.out b hb))).congr (fun _ h => h) (fun b hb => hW.block b (Nat.lt_of_lt_of_le (HSa.out b hb) HB0.out.size))
    obtain ⟨g, cap, y, e, hc, _, hv', hcell⟩ := hv.at i h
    obtain ⟨xa, xc, rfl⟩ := hv'.shape
    injection e with e1 e2 e3
    subst e1 e3
    exact ⟨g, xa, _, xc, rfl, hc, hv', hcell 0 _ rfl, hcell 1 _ rfl, hcell 2 _ rfl⟩
  have HEB : Hid (∀ W, Below W0.heap.size W0 W → ∀ i (h : i < L.length), ∃ g xa xm xc, ba = some ⟨g, 0, none⟩ ∧ L.length ≤ bc ∧ VsAt W Sb L[i].l (.slice xa xm xc) ∧ W.cell? ⟨g, i * 3, none⟩ = some (.int .i64 L[i].n) ∧ W.cell? ⟨g, i * 3 + 1, none⟩ = some (.string L[i].s) ∧ W.cell? ⟨g, i * 3 + 2, none⟩ = some (.slice xa xm xc)) := fun W hW i h => by
    have hv := (HB.out.congr (fun _ h => h) (fun b hb => HB0.out.block b (HSb.out b hb))).congr (fun _ h => h) (fun b hb => hW.block b (Nat.lt_of_lt_of_le (HSb.out b hb) HB0.out.size))
    obtain ⟨g, cap, y, e, hc, _, hv', hcell⟩ := hv.at i h
    obtain ⟨xa, xc, rfl⟩ := hv'.shape
    injection e with e1 e2 e3
    subst e1 e3
    exact ⟨g, xa, _, xc, rfl, hc, hv', hcell 0 _ rfl, hcell 1 _ rfl, hcell 2 _ rfl⟩
  have HSz : Hid (∀ W, Below W0.heap.size W0 W → ∀ b, (Sa b ∨ Sb b) → b < W.heap.size) := fun W hW b h => Nat.lt_of_lt_of_le (h.elim (HSa.out b) (HSb.out b)) (Nat.le_trans HB0.out.size hW.size)
  clear HA HB HSa HSb
  go_loopw [5] (fun i wr => ∃ j : Nat, j ≤ L.length ∧ i = .int .i64 j ∧ Hid (Below W0.heap.size W0 wr)) (fun i _ => L.length - (intOf i).toNat)
  case atStart => exact ⟨0, Nat.zero_le _, rfl, Below.refl _ _⟩
  case round =>
    obtain ⟨j, hj, rfl, HW⟩ := hrel
    have d0 := cellOf (j := 2) ((HW.out.block _ (ltOf HN0.out)).trans HN0.out) rfl
    have d1 := cellOf (j := 2) ((HW.out.block _ (ltOf HN1.out)).trans HN1.out) rfl
    by_cases hlt : j < L.length
    · have hltz : (j : Int) < L.length := by omega
      obtain ⟨g, xa, xm, xc, rfl, hac, hv, e0, e1, e2⟩ := HEA.out wr HW.out j hlt
      obtain ⟨g', ya, ym, yc, rfl, hbc, hv', e3, e4, e5⟩ := HEB.out wr HW.out j hlt
      have HC : Hid (∀ W, Below wr.heap.size wr W → Calls Tryd.prog 10 #[vv L[j].n L[j].s (.slice xa xm xc), vv L[j].n L[j].s (.slice ya ym yc)] W fun e w' => e = .returned (.bool true) ∧ Below W.heap.size W w') := fun W hW =>
        HIH.out L[j] (HX.out j hlt) W Sa Sb _ _ (hv.congr (fun _ h => h) (fun b hb => hW.block b (HSz.out wr HW.out b (.inl hb)))) (hv'.congr (fun _ h => h) (fun b hb => hW.block b (HSz.out wr HW.out b (.inr hb)))) (fun b hb => Nat.lt_of_lt_of_le (HSz.out wr HW.out b (.inl hb)) hW.size) (fun b hb => Nat.lt_of_lt_of_le (HSz.out wr HW.out b (.inr hb)) hW.size)
      clear hv hv'
      generalize L[j].n = en at *
      generalize L[j].s = es at *
      go_wp2
      go_region_with (go_at_call 10
                      refine (HC.out _ (by first | exact Below.refl _ _ | exact below_drew _)).mono ?_
                      rintro e w2 ⟨rfl, hb2⟩
                      have HB2 : Hid (Below W0.heap.size W0 w2) := (by first | exact HW.out.trans (hb2.mono HW.out.size) | exact HW.out.trans ((below_drew _).trans (hb2.mono HW.out.size)))
                      clear hb2)
      all_goals go_wp2
      all_goals go_round
      all_goals first
        | exact ⟨j + 1, by omega, by go_num, by first | exact HB2 | exact HB2.out.drew⟩
        | (simp [intOf]; done)
        | (simp [intOf]; omega)
    · have hltz : ¬ (j : Int) < L.length := by omega
      go_wp2
      go_ret
      exact ⟨rfl, HB0.out.trans (HW.out.mono HB0.out.size)⟩

theorem same_any : ∀ k, SmSaid k
  | 0 => fun x hx => hx.elim
  | k + 1 => same_step k (same_any k)
end Go.Proofs.YtlghcldiboecoaaDoor

/- The walk of leaf. -/
set_option linter.unusedVariables false
namespace Go.Proofs.YtlghcldiboecoaaDoor
open Go.RowKit

/-- What leaf gives: the sign of a type without brackets and a value of it, so many bytes long. -/
def LeafIs (c : UInt8) (v : Orch.V) (L : Nat) : Prop :=
  c = 63 ∧ v.s = ByteArray.empty ∧ v.l = [] ∧ 0 ≤ v.n ∧ v.n ≤ 1 ∧ L = 1 ∨
  c = 52 ∧ v.s = ByteArray.empty ∧ v.l = [] ∧ -2147483648 ≤ v.n ∧ v.n ≤ 2147483647 ∧ L = 4 ∨
  c = 56 ∧ v.s = ByteArray.empty ∧ v.l = [] ∧ -9223372036854775808 ≤ v.n ∧ v.n ≤ 9223372036854775807 ∧ L = 8 ∨
  c = 98 ∧ v.n = 0 ∧ v.l = [] ∧ v.s.size ≤ 40 ∧ L = 4 + v.s.size ∨
  c = 116 ∧ v.n = 0 ∧ v.l = [] ∧ v.s.size ≤ 40 ∧ validB v.s = true ∧ L = 4 + v.s.size

abbrev zeroV : Array Value := #[.int .i64 0, .string ⟨#[]⟩, .slice none 0 0]

/-- Within leaf: the value that is to be given, the maker, and that nothing else has changed. -/
structure Lf (w W : World) (M : Nat) (N S : Value) (n s x y : Int) : Prop where
  r : W.heap[w.heap.size]? = some (.cells zeroV 31)
  m : MkAt W M N S n s x y
  k : Keeps M w.heap.size w W

theorem Lf.bytes {w W : World} {M : Nat} {N S : Value} {n s x y : Int} (h : Lf w W M N S n s x y) (hlt : M < w.heap.size) (z : Int) : Lf w (W.setCell ⟨M, 5, none⟩ (.int .i64 z)) M N S n s x z :=
  ⟨(heap_setCell_other W ⟨M, 5, none⟩ _ _ (Nat.ne_of_gt hlt)).trans h.r, h.m.set 5 _, h.k.trans (keeps_set _ _ _ _ _)⟩
theorem Lf.next {w W W' : World} {M : Nat} {N S : Value} {n s x y n' s' x' y' : Int} (h : Lf w W M N S n s x y) (hlt : M < w.heap.size) (hm : MkAt W' M N S n' s' x' y') (hk : Keeps M W.heap.size W W') : Lf w W' M N S n' s' x' y' :=
  ⟨(hk.block _ (ltOf h.r) (Nat.ne_of_gt hlt)).trans h.r, hm, h.k.trans (hk.mono h.k.size)⟩
theorem Lf.store {w W : World} {M : Nat} {N S : Value} {n s x y : Int} (h : Lf w W M N S n s x y) (hlt : M < w.heap.size) (cs : Array Value) :
    (W.setRow w.heap.size cs).heap[w.heap.size]? = some (.cells cs 31) ∧ MkAt (W.setRow w.heap.size cs) M N S n s x y ∧ Keeps M w.heap.size w (W.setRow w.heap.size cs) :=
  ⟨setRow_heap _ _ _ _ _ _ h.r, (setRow_other _ _ _ _ (Nat.ne_of_lt hlt)).trans h.m, h.k.trans ⟨rfl, rfl, rfl, by simp, fun k hk _ => setRow_other _ _ _ _ (Nat.ne_of_lt hk)⟩⟩

set_option maxRecDepth 8000 in
set_option maxHeartbeats 4000000 in
theorem leaf_any (w : World) (M : Nat) (N S : Value) (n s : Nat) (x y : Int) (hM : MkAt w M N S n s x y) (hN : Ints w M N) (hS : Strs w M S) (hn : n ≤ 999999990) (hs : s ≤ 999999990) (hx : -1000000 ≤ x) (hx' : x ≤ 40) (hy : -1000000000000 ≤ y) (hy' : y ≤ 700) :
    Calls Tryd.prog 17 #[.pointer (some ⟨M, 0, none⟩)] w fun e w' => (∃ (c : UInt8) (v : Orch.V) (L n' s' : Nat), e = .returned (.tuple #[.string ⟨#[c]⟩, vval v (.slice none 0 0)]) ∧ LeafIs c v L ∧ (y < 50 → L = 1) ∧ n' ≤ n + 2 ∧ s' ≤ s + 1 ∧ MkAt w' M N S n' s' (x - 1) (y - L)) ∧ Keeps M w.heap.size w w' := by
  have hlt := ltOf hM
  have HNb : Hid (∀ B W, M < B → Keeps M B w W → Ints W M N) := fun B W hB h => hN.keeps h (by omega)
  have HSb : Hid (∀ B W, M < B → Keeps M B w W → Strs W M S) := fun B W hB h => hS.keeps h (by omega)
  have HM := hide hM
  have HA : Hid (MkAt (w.alloc (.cells #[.int .i64 0, .string ⟨#[]⟩, .slice none 0 0] 31)) M N S n s x y) := (Below.heap_alloc _ _ _ hlt).trans hM
  have HN0 := hide (heap_alloc_new w (.cells #[.int .i64 0, .string ⟨#[]⟩, .slice none 0 0] 31))
  clear hM hN hS
  go_enter Tryd.func17, Tryd.ntmps17
  go_wp2_with fail
  have hsz : (w.alloc (.cells #[.int .i64 0, .string ⟨#[]⟩, .slice none 0 0] 31)).heap.size = w.heap.size + 1 := by simp
  have HK0 : Hid (Keeps M w.heap.size w (w.alloc (.cells #[.int .i64 0, .string ⟨#[]⟩, .slice none 0 0] 31))) := (Keeps.refl _ _ _).alloc (Nat.le_refl _) _
  refine (number_any _ M N S n s x y HA.out (HNb.out _ _ hlt HK0.out) (by omega)).mono ?_
  rintro e w1 ⟨⟨z, n1, rfl, hz0, hz1, hn1, hM1⟩, hK1⟩
  rw [hsz] at hK1
  have HR1 : Hid (w1.heap[w.heap.size]? = some (.cells #[.int .i64 0, .string ⟨#[]⟩, .slice none 0 0] 31)) := (hK1.block _ (by omega) (by omega)).trans HN0.out
  have HK1 : Hid (Keeps M w.heap.size w w1) := HK0.out.trans (hK1.mono (by omega))
  have c4 := cellOf (j := 4) hM1 rfl
  have f4 := frozenOf (j := 4) hM1
  have HM1 := hide hM1
  clear hM1 hK1 hsz HK0 HN0 HA HM
  go_wp2_with fail
  have H2 : Hid (Lf w (w1.setCell ⟨M, 4, none⟩ (.int .i64 (x - 1))) M N S n1 s (x - 1) y) := ⟨(heap_setCell_other w1 ⟨M, 4, none⟩ _ _ (Nat.ne_of_gt hlt)).trans HR1.out, HM1.out.set 4 _, HK1.out.trans (keeps_set _ _ _ _ _)⟩
  clear HR1 HK1 HM1 c4 f4
  generalize w1.setCell ⟨M, 4, none⟩ (.int .i64 (x - 1)) = w2 at *
  refine (pick_any w2 z 5 hz0 hz1 (by omega) (by omega)).mono ?_
  rintro e w' ⟨⟨k, hk, rfl⟩, rfl⟩
  have c5 := cellOf (j := 5) H2.out.m rfl
  have f5 := frozenOf (j := 5) H2.out.m
  have hk5 : k = 0 ∨ k = 1 ∨ k = 2 ∨ k = 3 ∨ k = 4 := by omega
  have two : y < 50 ∨ ¬ y < 50 := by omega
  rcases two with hy50 | hy50
  · clear hk5
    go_wp2_with fail
    have H3 := hide (H2.out.bytes hlt (y - 1))
    clear H2 c5 f5
    generalize w'.setCell ⟨M, 5, none⟩ (.int .i64 (y - 1)) = w3 at *
    refine (number_any _ M N S n1 s _ _ H3.out.m (HNb.out _ _ hlt H3.out.k) (by omega)).mono ?_
    rintro e w4 ⟨⟨z2, n2, rfl, hz2, hz2', hn2, hM4⟩, hK4⟩
    have H4 := hide (H3.out.next hlt hM4 hK4)
    clear hM4 hK4 H3
    go_wp2_with fail
    refine (pick_any w4 z2 2 hz2 hz2' (by omega) (by omega)).mono ?_
    rintro e w5 ⟨⟨q, hq, rfl⟩, rfl⟩
    go_wp2_with (refine wpList_store_row rfl 31 _ _ rfl w.heap.size #[.int .i64 q, .string ⟨#[]⟩, .slice none 0 0] rfl rfl 31 _ H4.out.r Tryd.size31 rfl (one_v _ _ _ _ _) ?_)
    refine bp_gen (fun X => X.heap[w.heap.size]? = some (.cells #[.int .i64 (q : Int), .string ⟨#[]⟩, .slice none 0 0] 31) ∧ MkAt X M N S n2 s (x - 1) (y - (1 : Nat)) ∧ Keeps M w.heap.size w X) (H4.out.store hlt _) ?_
    rintro X ⟨hX, hXm, hXk⟩
    have c0 := cellOf (j := 0) hX rfl
    have c1 := cellOf (j := 1) hX rfl
    have c2 := cellOf (j := 2) hX rfl
    exact bodyPost_ret (v := .tuple #[.string ⟨#[63]⟩, vv ((q : Int)) ⟨#[]⟩ (.slice none 0 0)]) (by simp [results, Tryd.results17, go_sem, c0, c1, c2]) rfl ⟨⟨63, .mk ((q : Int)) ⟨#[]⟩ [], 1, n2, s, rfl, .inl ⟨rfl, rfl, rfl, by show (0 : Int) ≤ q; omega, by show (q : Int) ≤ 1; omega, rfl⟩, fun _ => rfl, by omega, by omega, hXm⟩, hXk⟩
  · rcases hk5 with rfl | rfl | rfl | rfl | rfl
    · go_wp2_with fail
      have H3 := hide (H2.out.bytes hlt (y - 1))
      clear H2 c5 f5
      generalize w'.setCell ⟨M, 5, none⟩ (.int .i64 (y - 1)) = w3 at *
      refine (number_any _ M N S n1 s _ _ H3.out.m (HNb.out _ _ hlt H3.out.k) (by omega)).mono ?_
      rintro e w4 ⟨⟨z2, n2, rfl, hz2, hz2', hn2, hM4⟩, hK4⟩
      have H4 := hide (H3.out.next hlt hM4 hK4)
      clear hM4 hK4 H3
      go_wp2_with fail
      refine (pick_any w4 z2 2 hz2 hz2' (by omega) (by omega)).mono ?_
      rintro e w5 ⟨⟨q, hq, rfl⟩, rfl⟩
      go_wp2_with (refine wpList_store_row rfl 31 _ _ rfl w.heap.size #[.int .i64 q, .string ⟨#[]⟩, .slice none 0 0] rfl rfl 31 _ H4.out.r Tryd.size31 rfl (one_v _ _ _ _ _) ?_)
      refine bp_gen (fun X => X.heap[w.heap.size]? = some (.cells #[.int .i64 (q : Int), .string ⟨#[]⟩, .slice none 0 0] 31) ∧ MkAt X M N S n2 s (x - 1) (y - (1 : Nat)) ∧ Keeps M w.heap.size w X) (H4.out.store hlt _) ?_
      rintro X ⟨hX, hXm, hXk⟩
      have c0 := cellOf (j := 0) hX rfl
      have c1 := cellOf (j := 1) hX rfl
      have c2 := cellOf (j := 2) hX rfl
      exact bodyPost_ret (v := .tuple #[.string ⟨#[63]⟩, vv ((q : Int)) ⟨#[]⟩ (.slice none 0 0)]) (by simp [results, Tryd.results17, go_sem, c0, c1, c2]) rfl ⟨⟨63, .mk ((q : Int)) ⟨#[]⟩ [], 1, n2, s, rfl, .inl ⟨rfl, rfl, rfl, by show (0 : Int) ≤ q; omega, by show (q : Int) ≤ 1; omega, rfl⟩, fun h => by omega, by omega, by omega, hXm⟩, hXk⟩
    · go_wp2_with fail
      have H3 := hide (H2.out.bytes hlt (y - 4))
      clear H2 c5 f5
      generalize w'.setCell ⟨M, 5, none⟩ (.int .i64 (y - 4)) = w3 at *
      refine (number_any _ M N S n1 s _ _ H3.out.m (HNb.out _ _ hlt H3.out.k) (by omega)).mono ?_
      rintro e w4 ⟨⟨z2, n2, rfl, hz2, hz2', hn2, hM4⟩, hK4⟩
      have H4 := hide (H3.out.next hlt hM4 hK4)
      clear hM4 hK4 H3
      go_wp2_with fail
      refine (pick_any w4 z2 4294967296 hz2 hz2' (by omega) (by omega)).mono ?_
      rintro e w5 ⟨⟨q, hq, rfl⟩, rfl⟩
      go_wp2_with (refine wpList_store_row rfl 31 _ _ rfl w.heap.size #[.int .i64 ((q : Int) - 2147483648), .string ⟨#[]⟩, .slice none 0 0] rfl rfl 31 _ H4.out.r Tryd.size31 rfl (one_v _ _ _ _ _) ?_)
      refine bp_gen (fun X => X.heap[w.heap.size]? = some (.cells #[.int .i64 ((q : Int) - 2147483648), .string ⟨#[]⟩, .slice none 0 0] 31) ∧ MkAt X M N S n2 s (x - 1) (y - (4 : Nat)) ∧ Keeps M w.heap.size w X) (H4.out.store hlt _) ?_
      rintro X ⟨hX, hXm, hXk⟩
      have c0 := cellOf (j := 0) hX rfl
      have c1 := cellOf (j := 1) hX rfl
      have c2 := cellOf (j := 2) hX rfl
      exact bodyPost_ret (v := .tuple #[.string ⟨#[52]⟩, vv ((q : Int) - 2147483648) ⟨#[]⟩ (.slice none 0 0)]) (by simp [results, Tryd.results17, go_sem, c0, c1, c2]) rfl ⟨⟨52, .mk ((q : Int) - 2147483648) ⟨#[]⟩ [], 4, n2, s, rfl, .inr (.inl ⟨rfl, rfl, rfl, by show (-2147483648 : Int) ≤ q - 2147483648; omega, by show (q : Int) - 2147483648 ≤ 2147483647; omega, rfl⟩), fun h => by omega, by omega, by omega, hXm⟩, hXk⟩
    · go_wp2_with fail
      have H3 := hide (H2.out.bytes hlt (y - 8))
      clear H2 c5 f5
      generalize w'.setCell ⟨M, 5, none⟩ (.int .i64 (y - 8)) = w3 at *
      refine (number_any _ M N S n1 s _ _ H3.out.m (HNb.out _ _ hlt H3.out.k) (by omega)).mono ?_
      rintro e w4 ⟨⟨z2, n2, rfl, hz2, hz2', hn2, hM4⟩, hK4⟩
      have H4 := hide (H3.out.next hlt hM4 hK4)
      clear hM4 hK4 H3
      go_wp2_with (refine wpList_store_row rfl 31 _ _ rfl w.heap.size #[.int .i64 z2, .string ⟨#[]⟩, .slice none 0 0] rfl rfl 31 _ H4.out.r Tryd.size31 rfl (one_v _ _ _ _ _) ?_)
      refine bp_gen (fun X => X.heap[w.heap.size]? = some (.cells #[.int .i64 z2, .string ⟨#[]⟩, .slice none 0 0] 31) ∧ MkAt X M N S n2 s (x - 1) (y - (8 : Nat)) ∧ Keeps M w.heap.size w X) (H4.out.store hlt _) ?_
      rintro X ⟨hX, hXm, hXk⟩
      have c0 := cellOf (j := 0) hX rfl
      have c1 := cellOf (j := 1) hX rfl
      have c2 := cellOf (j := 2) hX rfl
      exact bodyPost_ret (v := .tuple #[.string ⟨#[56]⟩, vv (z2) ⟨#[]⟩ (.slice none 0 0)]) (by simp [results, Tryd.results17, go_sem, c0, c1, c2]) rfl ⟨⟨56, .mk (z2) ⟨#[]⟩ [], 8, n2, s, rfl, .inr (.inr (.inl ⟨rfl, rfl, rfl, hz2, hz2', rfl⟩)), fun h => by omega, by omega, by omega, hXm⟩, hXk⟩
    · go_wp2_with fail
      refine (text_any _ M N S n1 s _ _ H2.out.m (HSb.out _ _ hlt H2.out.k) (by omega)).mono ?_
      rintro e w3 ⟨⟨t, s2, rfl, ht, hs2, hM4⟩, hK4⟩
      have H3 := hide (H2.out.next hlt hM4 hK4)
      clear hM4 hK4 H2 c5 f5
      go_wp2_with fail
      refine (cut_any w3 t ht).mono ?_
      rintro e w3' ⟨⟨u, hu, rfl⟩, rfl⟩
      have c5 := cellOf (j := 5) H3.out.m rfl
      have f5 := frozenOf (j := 5) H3.out.m
      have H4 := hide (H3.out.bytes hlt (y - 4 - u.size))
      have HL : Hid (y - 4 - u.size = y - (4 + u.size : Nat)) := by show y - 4 - (u.size : Int) = y - (4 + u.size : Nat); omega
      go_wp2_with (refine wpList_store_row rfl 31 _ _ rfl w.heap.size #[.int .i64 0, .string u, .slice none 0 0] rfl rfl 31 _ H4.out.r Tryd.size31 rfl (one_v _ _ _ _ _) ?_)
      refine bp_gen (fun X => X.heap[w.heap.size]? = some (.cells #[.int .i64 0, .string u, .slice none 0 0] 31) ∧ MkAt X M N S n1 s2 (x - 1) (y - 4 - u.size) ∧ Keeps M w.heap.size w X) (H4.out.store hlt _) ?_
      rintro X ⟨hX, hXm, hXk⟩
      rw [HL.out] at hXm
      have c0 := cellOf (j := 0) hX rfl
      have c1 := cellOf (j := 1) hX rfl
      have c2 := cellOf (j := 2) hX rfl
      exact bodyPost_ret (v := .tuple #[.string ⟨#[98]⟩, vv 0 u (.slice none 0 0)]) (by simp [results, Tryd.results17, go_sem, c0, c1, c2]) rfl ⟨⟨98, .mk 0 u [], 4 + u.size, n1, s2, rfl, .inr (.inr (.inr (.inl ⟨rfl, rfl, rfl, hu, rfl⟩))), fun h => by omega, by omega, by omega, hXm⟩, hXk⟩
    · go_wp2_with fail
      refine (text_any _ M N S n1 s _ _ H2.out.m (HSb.out _ _ hlt H2.out.k) (by omega)).mono ?_
      rintro e w3 ⟨⟨t, s2, rfl, ht, hs2, hM4⟩, hK4⟩
      have H3 := hide (H2.out.next hlt hM4 hK4)
      clear hM4 hK4 H2 c5 f5
      go_wp2_with fail
      refine (cut_any w3 t ht).mono ?_
      rintro e w3' ⟨⟨u, hu, rfl⟩, rfl⟩
      go_wp2_with fail
      refine (plain_any w3' u hu).mono ?_
      rintro e w6 ⟨⟨v, hv, hvv, rfl⟩, hB6⟩
      have H6 := hide (H3.out.next hlt ((hB6.block M (Nat.lt_of_lt_of_le hlt H3.out.k.size)).trans H3.out.m) (Keeps.of hB6))
      clear hB6 H3
      have c5 := cellOf (j := 5) H6.out.m rfl
      have f5 := frozenOf (j := 5) H6.out.m
      have H4 := hide (H6.out.bytes hlt (y - 4 - v.size))
      have HL : Hid (y - 4 - v.size = y - (4 + v.size : Nat)) := by show y - 4 - (v.size : Int) = y - (4 + v.size : Nat); omega
      go_wp2_with (refine wpList_store_row rfl 31 _ _ rfl w.heap.size #[.int .i64 0, .string v, .slice none 0 0] rfl rfl 31 _ H4.out.r Tryd.size31 rfl (one_v _ _ _ _ _) ?_)
      refine bp_gen (fun X => X.heap[w.heap.size]? = some (.cells #[.int .i64 0, .string v, .slice none 0 0] 31) ∧ MkAt X M N S n1 s2 (x - 1) (y - 4 - v.size) ∧ Keeps M w.heap.size w X) (H4.out.store hlt _) ?_
      rintro X ⟨hX, hXm, hXk⟩
      rw [HL.out] at hXm
      have c0 := cellOf (j := 0) hX rfl
      have c1 := cellOf (j := 1) hX rfl
      have c2 := cellOf (j := 2) hX rfl
      exact bodyPost_ret (v := .tuple #[.string ⟨#[116]⟩, vv 0 v (.slice none 0 0)]) (by simp [results, Tryd.results17, go_sem, c0, c1, c2]) rfl ⟨⟨116, .mk 0 v [], 4 + v.size, n1, s2, rfl, .inr (.inr (.inr (.inr ⟨rfl, rfl, rfl, hv, hvv, rfl⟩))), fun h => by omega, by omega, by omega, hXm⟩, hXk⟩
end Go.Proofs.YtlghcldiboecoaaDoor

/- What made gives, and its way without brackets. -/
set_option linter.unusedVariables false
namespace Go.Proofs.YtlghcldiboecoaaDoor
open Go.RowKit

def leafT (c : UInt8) : Orch.Ty := .mk ((Orch.find c).getD default) []

theorem leaf_good {c : UInt8} {v : Orch.V} {L : Nat} (h : LeafIs c v L) (k : Nat) : Orch.Reads (k + 1) [c] (leafT c) ∧ ∃ pre, pre.length = L ∧ Orch.Lays validB (k + 1) (leafT c) v pre := by
  obtain ⟨n, s, l⟩ := v
  simp only [LeafIs, Orch.V.n, Orch.V.s, Orch.V.l] at h
  rcases h with ⟨rfl, rfl, rfl, h0, h1, rfl⟩ | ⟨rfl, rfl, rfl, h0, h1, rfl⟩ | ⟨rfl, rfl, rfl, h0, h1, rfl⟩ | ⟨rfl, rfl, rfl, h0, rfl⟩ | ⟨rfl, rfl, rfl, h0, h1, rfl⟩
  · exact ⟨Orch.reads_leaf (l := ⟨63, 0, 1, 0, 1, false, 0⟩) rfl rfl, _, Orch.be_length n 1, Orch.lays_num (l := ⟨63, 0, 1, 0, 1, false, 0⟩) rfl h0 h1⟩
  · exact ⟨Orch.reads_leaf (l := ⟨52, 0, 4, -2147483648, 2147483647, false, 0⟩) rfl rfl, _, Orch.be_length n 4, Orch.lays_num (l := ⟨52, 0, 4, -2147483648, 2147483647, false, 0⟩) rfl h0 h1⟩
  · exact ⟨Orch.reads_leaf (l := ⟨56, 0, 8, -9223372036854775808, 9223372036854775807, false, 0⟩) rfl rfl, _, Orch.be_length n 8, Orch.lays_num (l := ⟨56, 0, 8, -9223372036854775808, 9223372036854775807, false, 0⟩) rfl h0 h1⟩
  · exact ⟨Orch.reads_leaf (l := ⟨98, 1, 0, 0, 0, false, 0⟩) rfl rfl, _, by rw [List.length_append, Orch.be_length]; rfl, Orch.lays_bytes (l := ⟨98, 1, 0, 0, 0, false, 0⟩) rfl (by omega) (fun h => by cases h)⟩
  · exact ⟨Orch.reads_leaf (l := ⟨116, 1, 0, 0, 0, true, 0⟩) rfl rfl, _, by rw [List.length_append, Orch.be_length]; rfl, Orch.lays_bytes (l := ⟨116, 1, 0, 0, 0, true, 0⟩) rfl (by omega) (fun _ => h1)⟩

theorem LeafIs.nil {c : UInt8} {v : Orch.V} {L : Nat} (h : LeafIs c v L) : v.l = [] ∧ 1 ≤ L ∧ L ≤ 44 := by
  rcases h with ⟨_, _, h, _, _, rfl⟩ | ⟨_, _, h, _, _, rfl⟩ | ⟨_, _, h, _, _, rfl⟩ | ⟨_, _, h, h0, rfl⟩ | ⟨_, _, h, h0, _, rfl⟩ <;> exact ⟨h, by omega, by omega⟩

/-- What made gives, with r brackets to go. -/
def MdRes (r : Nat) (w w' : World) (M : Nat) (N S : Value) (n s : Nat) (x y : Int) (e : Ending) : Prop :=
  ∃ (σ : List UInt8) (T : Orch.Ty) (v : Orch.V) (lv : Value) (pre : List UInt8) (n' s' : Nat) (x' y' : Int),
    e = .returned (.tuple #[.string ⟨σ.toArray⟩, vval v lv]) ∧ VsAt w' (fun b => w.heap.size ≤ b ∧ b < w'.heap.size) v.l lv ∧ Small (r + 1) v ∧
    Orch.Reads (r + 1) σ T ∧ Orch.Lays validB (r + 1) T v pre ∧ (σ.length = 1 → ∃ c, σ = [c] ∧ T = leafT c ∧ LeafIs c v pre.length) ∧
    1 ≤ pre.length ∧ (pre.length : Int) ≤ max y 0 - max y' 0 + σ.length ∧ (σ.length : Int) = x - x' ∧ min (x - 1) (6 - 3 * r) ≤ x' ∧ y' ≤ y ∧ y - 1000 * 5 ^ r ≤ y' ∧
    n' ≤ n + 5 ^ (r + 2) ∧ s' ≤ s + 5 ^ (r + 2) ∧ MkAt w' M N S n' s' x' y'

def MdSaid (r : Nat) : Prop := ∀ (w : World) (M : Nat) (N S : Value) (n s : Nat) (x y : Int), MkAt w M N S n s x y → Ints w M N → Strs w M S →
  n + 5 ^ (r + 2) ≤ 900000000 → s + 5 ^ (r + 2) ≤ 900000000 → -100 ≤ x → x ≤ 40 → -100000000000 ≤ y - 1000 * 5 ^ r → y ≤ 700 →
  Calls Tryd.prog 7 #[.pointer (some ⟨M, 0, none⟩), .int .i64 (8 - r)] w fun e w' => MdRes r w w' M N S n s x y e ∧ Keeps M w.heap.size w w'

/-- What the way without brackets needs and gives. -/
theorem md_leaf {r : Nat} {w w' : World} {M : Nat} {N S : Value} {n n1 s s' : Nat} {x y : Int} {c : UInt8} {v : Orch.V} {L : Nat} (h : LeafIs c v L) (hy50 : y < 50 → L = 1) (hn1 : n1 ≤ n + 3) (hs : s' ≤ s + 1) (hM : MkAt w' M N S n1 s' (x - 1) (y - L)) :
    MdRes r w w' M N S n s x y (.returned (.tuple #[.string ⟨#[c]⟩, vval v (.slice none 0 0)])) := by
  obtain ⟨hr, pre, hp, hl⟩ := leaf_good h r
  obtain ⟨h0, h1, h2⟩ := h.nil
  have h5 : 1 ≤ 5 ^ r := Nat.one_le_pow _ _ (by omega)
  have h5' : (1 : Int) ≤ 5 ^ r := by exact_mod_cast h5
  have h25 : 5 ^ (r + 2) = 25 * 5 ^ r := by rw [Nat.pow_add]; omega
  refine ⟨[c], leafT c, v, .slice none 0 0, pre, n1, s', x - 1, y - L, rfl, ?_, ?_, hr, hl, fun _ => ⟨c, rfl, rfl, hp ▸ h⟩, by omega, ?_, by simp; omega, by omega, by omega, by omega, by omega, by omega, hM⟩
  · rw [h0]; exact .nil _ _
  · exact ⟨by rw [h0]; simp, fun e he => by rw [h0] at he; cases he⟩
  · rw [hp, List.length_singleton]
    omega
end Go.Proofs.YtlghcldiboecoaaDoor

/- How a list of values grows by append while the maker changes. -/
set_option linter.unusedVariables false
namespace Go.Proofs.YtlghcldiboecoaaDoor
open Go.RowKit

theorem own_empty (w : World) (base : Nat) (hb : base ≤ w.heap.size) : (w.alloc (.cells #[] 31)).ownsRow base 31 3 (.slice (some ⟨w.heap.size, 0, none⟩) 0 0) 0 [] :=
  ⟨rfl, .inr ⟨w.heap.size, 0, #[], rfl, hb, heap_alloc_new w _, Nat.le_refl _, Nat.zero_le _, rfl, rfl⟩⟩

theorem ownsRow_keeps {w w1 : World} {M base : Nat} {e : TypeId} {size : Nat} {v : Value} {n : Nat} {xs : List Value} (h : w.ownsRow base e size v n xs) (hM : M < base) (hk : Keeps M w.heap.size w w1) : w1.ownsRow base e size v n xs :=
  h.kept (row := some M) ⟨hk.os, hk.tape, hk.output, hk.size, fun k hk1 hk2 => hk.block k hk1 (fun e => hk2 (by rw [e]))⟩ (by
    cases hv : v.ownBlock with
    | none => exact .inl rfl
    | some g =>
      refine .inr fun e => ?_
      have := (ownBlock_lt h hv).1
      injection e with e
      omega)

theorem grow_K {wr w2 w3 : World} {M base : Nat} {S : Nat → Prop} {v : Value} {ps : List (Orch.V × Value)} {t : Orch.V} {x : Value} {g cap : Nat} (hM : M < base)
    (hbase : base ≤ wr.heap.size) (hown : wr.ownsRow base 31 3 v ps.length (ps.flatMap vcell)) (hps : ∀ p, p ∈ ps → VsAt wr (Beside base v wr) p.1.l p.2)
    (hk : Keeps M wr.heap.size wr w2) (hx : VsAt w2 S t.l x) (hS : ∀ b, S b → base ≤ b ∧ b < w2.heap.size ∧ v.ownBlock ≠ some b)
    (hown3 : w3.ownsRow base 31 3 (.slice (some ⟨g, 0, none⟩) (ps.length + 1) cap) (ps.length + 1) (ps.flatMap vcell ++ vcell (t, x))) (hgr : w2.grownBy w3 v.ownBlock) (hat : v.ownBlock = some g ∨ g = w2.heap.size) :
    w3.ownsRow base 31 3 (.slice (some ⟨g, 0, none⟩) (ps.length + 1) cap) (ps ++ [(t, x)]).length ((ps ++ [(t, x)]).flatMap vcell) ∧
    (∀ p, p ∈ ps ++ [(t, x)] → VsAt w3 (Beside base (.slice (some ⟨g, 0, none⟩) (ps.length + 1) cap) w3) p.1.l p.2) ∧ Keeps M base wr w3 ∧ w3.heap[M]? = w2.heap[M]? := by
  have s1 := hk.size
  have s3 := hgr.size
  refine ⟨by rw [List.length_append, List.flatMap_append]; simpa using hown3, ?_, ⟨hgr.os.trans hk.os, hgr.tape.trans hk.tape, hgr.output.trans hk.output, by omega, fun b hb hne => ?_⟩, ?_⟩
  · intro p hp
    rw [List.mem_append] at hp
    rcases hp with hp | hp
    · refine (hps p hp).congr (fun b ⟨h1, h2, h3⟩ => ⟨h1, by omega, ?_⟩) (fun b ⟨h1, h2, h3⟩ => ?_)
      · intro he
        have he' : g = b := by simpa [Value.ownBlock] using he
        subst he'
        rcases hat with h | h
        · exact h3 h
        · omega
      · rw [hgr.block b (by omega) (fun e => h3 e.symm), hk.block b h2 (by omega)]
    · obtain rfl : p = (t, x) := by simpa using hp
      refine hx.congr (fun b hb => ⟨(hS b hb).1, by have := (hS b hb).2.1; omega, ?_⟩) (fun b hb => ?_)
      · rw [hgr.block b (hS b hb).2.1 (fun e => (hS b hb).2.2 e.symm)]
      · intro he
        have he' : g = b := by simpa [Value.ownBlock] using he
        subst he'
        rcases hat with h | h
        · exact (hS _ hb).2.2 h
        · have := (hS _ hb).2.1; omega
  · rw [hgr.block b (by omega) (fun e => by have := (ownBlock_lt hown e.symm).1; omega), hk.block b (by omega) hne]
  · rw [hgr.block M (by omega) (fun e => by have := (ownBlock_lt hown e.symm).1; omega)]
end Go.Proofs.YtlghcldiboecoaaDoor

/- What the vector's way of made gives. -/
set_option linter.unusedVariables false
namespace Go.Proofs.YtlghcldiboecoaaDoor
open Go.RowKit

theorem ownsRow_row {w w1 : World} {r base : Nat} {e : TypeId} {size : Nat} {v : Value} {n : Nat} {xs : List Value} (h : w.ownsRow base e size v n xs) (hr : v.ownBlock ≠ some r) (hk : Keeps r w.heap.size w w1) : w1.ownsRow base e size v n xs :=
  h.kept (row := some r) ⟨hk.os, hk.tape, hk.output, hk.size, fun k hk1 hk2 => hk.block k hk1 (fun e => hk2 (by rw [e]))⟩ (.inr hr)

/-- What the way of a vector needs and gives. -/
theorem md_vec {q : Nat} {w X : World} {M : Nat} {N S : Value} {n s n4 s3 : Nat} {x y x3 y3 y4 : Int} {σ : List UInt8} {T : Orch.Ty} {vs : List Orch.V} {qa : Option Addr} {qc L k : Nat} {pre : List UInt8} {A : ByteArray} (hkk : vs.length = k)
    (hA : A = ⟨(91 :: (σ ++ [93])).toArray⟩) (hx12 : ¬ x < 12) (hy100 : ¬ y < 100)
    (hrd : Orch.Reads (q + 1) σ T) (hV : Orch.Vec validB (q + 1) T vs pre) (hpre : pre.length = k * L) (hk : k ≤ 3) (hsm : ∀ e, e ∈ vs → Small (q + 1) e)
    (hsum : 4 + ((k * L : Nat) : Int) ≤ max y 0 - max y4 0 + σ.length + 2) (hx1 : (σ.length : Int) = x - 2 - x3) (hx2 : min (x - 2 - 1) (6 - 3 * (q : Int)) ≤ x3)
    (hy1 : y3 ≤ y - 4) (hy2 : y - 4 - 1000 * 5 ^ q ≤ y3) (hy3 : y4 ≤ y3) (hy4 : y3 - 600 ≤ y4) (hn : n4 ≤ n + 2 + 5 ^ (q + 2)) (hs : s3 ≤ s + 5 ^ (q + 2))
    (hXv : VsAt X (fun b => w.heap.size ≤ b ∧ b < X.heap.size) vs (.slice qa k qc)) (hXm : MkAt X M N S n4 s3 x3 y4) :
    MdRes (q + 1) w X M N S n s x y (.returned (.tuple #[.string A, vv 0 ⟨#[]⟩ (.slice qa k qc)])) := by
  subst hkk
  have K25 : 25 ≤ 5 ^ (q + 2) := by rw [Nat.pow_add]; have : 1 ≤ 5 ^ q := Nat.one_le_pow _ _ (by omega); omega
  have K5 : 5 ^ (q + 1 + 2) = 5 * 5 ^ (q + 2) := by rw [show q + 1 + 2 = (q + 2) + 1 by omega, Nat.pow_succ]; omega
  have hPz : (0 : Int) < 5 ^ q := Int.pow_pos (by omega)
  have e5 : (5 : Int) ^ (q + 1) = 5 * 5 ^ q := by rw [Int.pow_succ, Int.mul_comm]
  have hlen : (91 :: (σ ++ [93])).length = σ.length + 2 := by simp
  have hb4 : (Orch.be (vs.length : Int) 4).length = 4 := Orch.be_length _ 4
  refine ⟨91 :: (σ ++ [93]), .mk Orch.l91 [T], .mk 0 ByteArray.empty vs, .slice qa vs.length qc, Orch.be vs.length 4 ++ pre, n4, s3, x3, y4, by rw [hA]; rfl, hXv, ⟨?_, hsm⟩, Orch.reads_vec hrd, Orch.lays_vec hV (by omega), fun h => by simp at h, by rw [List.length_append, hb4]; omega, by rw [hlen, List.length_append, hb4, hpre]; omega, by rw [hlen]; omega, by omega, by omega, by rw [e5]; omega, by rw [K5]; omega, by rw [K5]; omega, hXm⟩
  show vs.length ≤ 1000
  omega

/-- The bytes of a vector are paid for: of a longer type by 200 a round. -/
theorem vec_sum {k L : Nat} {y y3 : Int} {c : Nat} (hk : k ≤ 3) (hy100 : ¬ y < 100) (hy' : y ≤ 700) (hc : c ≤ 60) (hL : (L : Int) ≤ max (y - 4) 0 - max y3 0 + c) (hy1 : y3 ≤ y - 4) (hbd : 2 ≤ k → 250 ≤ y3 - 200 * ((k : Int) - 1)) :
    4 + ((k * L : Nat) : Int) ≤ max y 0 - max (y3 - 200 * (k : Int)) 0 + c + 2 := by
  have : k = 0 ∨ k = 1 ∨ k = 2 ∨ k = 3 := by omega
  rcases this with rfl | rfl | rfl | rfl <;> omega

/-- The same of a type without brackets: each value more has its own price. -/
theorem vec_sum1 {k L : Nat} {y y3 D : Int} {c : Nat} (hk : k ≤ 3) (hy100 : ¬ y < 100) (hy' : y ≤ 700) (hc : c = 1) (hD : (L : Int) ≤ D) (hL : (L : Int) ≤ max (y - 4) 0 - max y3 0 + c) (hy1 : y3 ≤ y - 4) (hbd : 2 ≤ k → 250 ≤ y3 - D * ((k : Int) - 1)) :
    4 + ((k * L : Nat) : Int) ≤ max y 0 - max (y3 - D * (k : Int)) 0 + c + 2 := by
  have : k = 0 ∨ k = 1 ∨ k = 2 ∨ k = 3 := by omega
  rcases this with rfl | rfl | rfl | rfl <;> omega

theorem vec_end1 {k L : Nat} {y y3 y4 D : Int} {c : Nat} (hk : k ≤ 3) (hy100 : ¬ y < 100) (hy' : y ≤ 700) (hc : c = 1) (hD0 : 0 ≤ D) (hD : (L : Int) ≤ D) (hL : (L : Int) ≤ max (y - 4) 0 - max y3 0 + c) (hy1 : y3 ≤ y - 4) (hy4 : y4 = y3 - D * (k : Int)) (hbd : 0 < k → 250 ≤ y3 - D * (k : Int)) :
    4 + ((k * L : Nat) : Int) ≤ max y 0 - max y4 0 + c + 2 := by
  rw [hy4]
  refine vec_sum1 hk hy100 hy' hc hD hL hy1 (fun h2 => ?_)
  have := hbd (by omega)
  have : D * ((k : Int) - 1) = D * k - D := by rw [Int.mul_sub, Int.mul_one]
  omega

/-- The price of a value more. -/
def again1 (c : UInt8) : Int := if c = 63 then 1 else 50

theorem again_price {c : UInt8} {v : Orch.V} {L : Nat} (h : LeafIs c v L) : (L : Int) ≤ again1 c ∧ again1 c ≤ 50 := by
  rcases h with ⟨rfl, _, h, _, _, rfl⟩ | ⟨rfl, _, h, _, _, rfl⟩ | ⟨rfl, _, h, _, _, rfl⟩ | ⟨rfl, _, h, h0, rfl⟩ | ⟨rfl, _, h, h0, _, rfl⟩ <;> simp [again1] <;> omega

theorem again_leaf (w : World) (M : Nat) (N S : Value) (n s x y : Int) (hM : MkAt w M N S n s x y) (c : UInt8) (v : Orch.V) (L : Nat) (h : LeafIs c v L) (va : Option Addr) (vc : Nat) (hy : -1000000000000 ≤ y) (hy' : y ≤ 700) :
    Calls Tryd.prog 18 #[.pointer (some ⟨M, 0, none⟩), .string ⟨#[c]⟩, vv v.n v.s (.slice va 0 vc)] w fun e w' => ((∃ v' va' vc', e = .returned (vv (Orch.V.n v') (Orch.V.s v') (.slice va' 0 vc')) ∧ LeafIs c v' L) ∧ MkAt w' M N S n s x (y - again1 c)) ∧ Keeps M w.heap.size w w' := by
  by_cases hc : c = 63
  · subst hc
    have h' := h
    obtain ⟨vn, vs, vl⟩ := v
    simp only [LeafIs, Orch.V.n, Orch.V.s, Orch.V.l] at h
    rcases h with ⟨_, rfl, rfl, h0, h1, rfl⟩ | ⟨h, _⟩ | ⟨h, _⟩ | ⟨h, _⟩ | ⟨h, _⟩
    · refine (again_bool w M N S n s x y hM vn _ va 0 vc h0 h1 hy hy').mono ?_
      rintro e w' ⟨⟨rfl, hm⟩, hk⟩
      refine ⟨⟨⟨.mk (1 - vn) ByteArray.empty [], none, 0, rfl, .inl ⟨rfl, rfl, rfl, ?_, ?_, rfl⟩⟩, hm⟩, hk⟩
      · show 0 ≤ 1 - vn
        omega
      · show 1 - vn ≤ 1
        omega
    all_goals exact absurd h (by decide)
  · have hc4 : c = 52 ∨ c = 56 ∨ c = 98 ∨ c = 116 := by
      rcases h with ⟨h, _⟩ | ⟨h, _⟩ | ⟨h, _⟩ | ⟨h, _⟩ | ⟨h, _⟩
      · exact absurd h hc
      · exact .inl h
      · exact .inr (.inl h)
      · exact .inr (.inr (.inl h))
      · exact .inr (.inr (.inr h))
    have e1 : again1 c = 50 := if_neg hc
    rw [e1]
    refine (again_same w M N S n s x y hM c hc4 v.n v.s va 0 vc hy hy').mono ?_
    rintro e w' ⟨⟨rfl, hm⟩, hk⟩
    exact ⟨⟨⟨v, va, vc, rfl, h⟩, hm⟩, hk⟩
end Go.Proofs.YtlghcldiboecoaaDoor
