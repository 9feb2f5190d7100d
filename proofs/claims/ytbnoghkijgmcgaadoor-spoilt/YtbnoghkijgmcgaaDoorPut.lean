/- put: what it leaves; at types without brackets. -/
import Derived.Test.YtbnoghkijgmcgaaDoorTakeA
import Derived.Test.YtbnoghkijgmcgaaDoorOut
set_option linter.unusedVariables false
namespace Go.Proofs.YtbnoghkijgmcgaaDoor
open Go.RowKit

def puRes (base : Nat) (w w' : World) (ov : Value) (e : Ending) : Option (List UInt8) → Prop
  | none => (∃ a m c, e = .returned (.tuple #[.slice a m c, .bool false])) ∧ w.grownBy w' ov.ownBlock
  | some o => ∃ ov', e = .returned (.tuple #[ov', .bool true]) ∧ w'.ownsRow base 5 1 ov' o.length (bcells o) ∧ Outs w w' ov ov'

theorem ret_two {v : Value} {a b : Bool} (h : a = b) : Ending.returned (.tuple #[v, .bool a]) = .returned (.tuple #[v, .bool b]) := by rw [h]

theorem own_shape {w : World} {base : Nat} {v : Value} {n : Nat} {xs : List Value} (h : w.ownsRow base 5 1 v n xs) : ∃ a c, v = .slice a n c := by
  rcases h.2 with ⟨e, h0⟩ | ⟨g, cap, cur, e, _⟩
  · exact ⟨none, 0, by rw [e, h0]⟩
  · exact ⟨_, _, e⟩

set_option maxRecDepth 8000 in
set_option maxHeartbeats 400000 in
/-- A value that is none of the type. -/
theorem put_unfit (w : World) (ov : Value) (sg sh sz lo hi : Int) (tx : Bool) (fn : Int) (pa : Option Addr) (pn pc : Nat) (vn : Int) (vs : ByteArray) (la : Option Addr) (ln lc : Nat)
    (HF : Hid (∀ W, Below w.heap.size w W → Calls Tryd.prog 47 #[tyv sg sh sz lo hi tx fn (.slice pa pn pc), vv vn vs (.slice la ln lc)] W fun e w' => e = .returned (.bool false) ∧ Below W.heap.size W w')) :
    Calls Tryd.prog 32 #[ov, tyv sg sh sz lo hi tx fn (.slice pa pn pc), vv vn vs (.slice la ln lc)] w fun e w' => (∃ a m c, e = .returned (.tuple #[.slice a m c, .bool false])) ∧ Below w.heap.size w w' := by
  go_enter Tryd.func32, Tryd.ntmps32
  go_wp2_with (go_at_call 47; refine (HF.out _ (below2 _ _ _)).mono ?_; rintro e w1 ⟨rfl, hb1⟩; have HB1 : Hid (Below w.heap.size w w1) := (below2 _ _ _).trans (hb1.mono (by simp; omega)); clear hb1)
  go_ret2
  exact ⟨⟨_, _, _, rfl⟩, HB1.out⟩

set_option maxRecDepth 8000 in
set_option maxHeartbeats 1000000 in
/-- A number. -/
theorem put_0 (w : World) (base : Nat) (ov : Value) (xs : List UInt8) (hx : xs.length ≤ 4000) (hown : w.ownsRow base 5 1 ov xs.length (bcells xs)) (hbase : base ≤ w.heap.size) (sg sz : Nat) (hsz : sz ≤ 8) (lo hi : Int) (tx : Bool) (fn : Nat) (pa : Option Addr) (pn pc : Nat) (vn : Int) (vs : ByteArray) (la : Option Addr) (lc : Nat)
    (HF : Hid (∀ W, Below w.heap.size w W → Calls Tryd.prog 47 #[tyv sg 0 sz lo hi tx fn (.slice pa pn pc), vv vn vs (.slice la 0 lc)] W fun e w' => e = .returned (.bool true) ∧ Below W.heap.size W w')) :
    Calls Tryd.prog 32 #[ov, tyv sg 0 sz lo hi tx fn (.slice pa pn pc), vv vn vs (.slice la 0 lc)] w fun e w' => ∃ ov', e = .returned (.tuple #[ov', .bool (decide ((xs ++ Orch.be vn sz).length ≤ 1000))]) ∧ w'.ownsRow base 5 1 ov' (xs ++ Orch.be vn sz).length (bcells (xs ++ Orch.be vn sz)) ∧ Outs w w' ov ov' := by
  obtain ⟨n0, n1⟩ := new2 w (.cells #[.int .u8 sg, .int .i64 0, .int .i64 sz, .int .i64 lo, .int .i64 hi, .bool tx, .int .u8 fn, .slice pa pn pc] 62) (.cells #[.int .i64 vn, .string vs, .slice la 0 lc] 31)
  have N0 := hide n0
  have N1 := hide n1
  have HO := hide hown
  clear n0 n1 hown
  have HAPP : Hid (∀ W, Below w.heap.size w W → Calls Tryd.prog 42 #[ov, .int .i64 vn, .int .i64 sz] W fun e w' => ∃ v', e = .returned v' ∧ w'.ownsRow base 5 1 v' (xs ++ Orch.be vn sz).length (bcells (xs ++ Orch.be vn sz)) ∧ Outs W w' ov v') := fun W hb => append2 W base ov vn sz xs hsz (ownsRow_below HO.out hb) (Nat.le_trans hbase hb.size) (by omega)
  have hol : (xs ++ Orch.be vn sz).length ≤ 4008 := by rw [List.length_append, Orch.be_length]; omega
  generalize xs ++ Orch.be vn sz = O at *
  go_enter Tryd.func32, Tryd.ntmps32
  go_wp2_with (first
    | (go_at_call 47; refine (HF.out _ (below2 _ _ _)).mono ?_; rintro e w1 ⟨rfl, hb1⟩; have HB1 : Hid (Below w.heap.size w w1) := (below2 _ _ _).trans (hb1.mono (by simp; omega)); have m0 := (hb1.block _ (ltOf N0.out)).trans N0.out; have m1 := (hb1.block _ (ltOf N1.out)).trans N1.out; have a1 := cellOf (j := 1) m0 rfl; have a2 := cellOf (j := 2) m0 rfl; have b0 := cellOf (j := 0) m1 rfl; have M1 := hide m1; clear hb1 m0 m1)
    | (go_at_call 42; refine (HAPP.out _ HB1.out).mono ?_; rintro e w2 ⟨v', rfl, ho2, hout⟩; obtain ⟨qa, qc, rfl⟩ := own_shape ho2; have HO2 := hide ho2; have HOUT : Hid (Outs w w2 ov (.slice qa O.length qc)) := Outs.from HB1.out hout; have g2 := cellOf (j := 2) (hout.keep M1.out (fun e => by have := (ownBlock_lt HO.out e).2; omega)) rfl; clear ho2 hout))
  refine wp_loop_rounds 1 ?_
  rw [rounds_succ]
  go_wp2
  go_ret2
  exact ⟨_, ret_two (by rw [Bool.eq_iff_iff]; simp; omega), HO2.out, HOUT.out⟩

set_option maxRecDepth 8000 in
set_option maxHeartbeats 1000000 in
/-- Bytes, or a text. -/
theorem put_1 (w : World) (base : Nat) (ov : Value) (xs : List UInt8) (hx : xs.length ≤ 4000) (hown : w.ownsRow base 5 1 ov xs.length (bcells xs)) (hbase : base ≤ w.heap.size) (sg sz : Nat) (lo hi : Int) (tx : Bool) (fn : Nat) (pa : Option Addr) (pn pc : Nat) (vn : Int) (vs : ByteArray) (hvs : vs.size ≤ 200) (la : Option Addr) (lc : Nat)
    (HF : Hid (∀ W, Below w.heap.size w W → Calls Tryd.prog 47 #[tyv sg 1 sz lo hi tx fn (.slice pa pn pc), vv vn vs (.slice la 0 lc)] W fun e w' => e = .returned (.bool true) ∧ Below W.heap.size W w')) :
    Calls Tryd.prog 32 #[ov, tyv sg 1 sz lo hi tx fn (.slice pa pn pc), vv vn vs (.slice la 0 lc)] w fun e w' => ∃ ov', e = .returned (.tuple #[ov', .bool (decide ((xs ++ Orch.be vs.size 4).length + vs.size ≤ 1000))]) ∧ w'.ownsRow base 5 1 ov' ((xs ++ Orch.be vs.size 4).length + vs.size) (bcells (xs ++ Orch.be vs.size 4) ++ Lib.strCells vs) ∧ Outs w w' ov ov' := by
  obtain ⟨i0, hi0, hz0, hz1, hz2⟩ := info_parts Tryd.info5
  obtain ⟨n0, n1⟩ := new2 w (.cells #[.int .u8 sg, .int .i64 1, .int .i64 sz, .int .i64 lo, .int .i64 hi, .bool tx, .int .u8 fn, .slice pa pn pc] 62) (.cells #[.int .i64 vn, .string vs, .slice la 0 lc] 31)
  have N0 := hide n0
  have N1 := hide n1
  have HO := hide hown
  clear n0 n1 hown
  have HAPP : Hid (∀ W, Below w.heap.size w W → Calls Tryd.prog 42 #[ov, .int .i64 vs.size, .int .i64 4] W fun e w' => ∃ v', e = .returned v' ∧ w'.ownsRow base 5 1 v' (xs ++ Orch.be vs.size 4).length (bcells (xs ++ Orch.be vs.size 4)) ∧ Outs W w' ov v') := fun W hb => append2 W base ov vs.size 4 xs (by omega) (ownsRow_below HO.out hb) (Nat.le_trans hbase hb.size) (by omega)
  have hol : (xs ++ Orch.be vs.size 4).length ≤ 4008 ∧ 4 ≤ (xs ++ Orch.be vs.size 4).length := by rw [List.length_append, Orch.be_length]; omega
  generalize xs ++ Orch.be vs.size 4 = O at *
  obtain ⟨hol1, hol2⟩ := hol
  go_enter Tryd.func32, Tryd.ntmps32
  go_wp2_with (first
    | (at_builtin; refine wpList_append_own_string_at _ rfl _ _ 34 9 rfl base 5 i0 Tryd.underlying34 Tryd.underlying9 hi0 hz0 hz1 hz2 _ O.length ?hn (bcells O) rfl HO2.out vs rfl ?h63 ?hby ?hba ?_)
    | (go_at_call 47; refine (HF.out _ (below2 _ _ _)).mono ?_; rintro e w1 ⟨rfl, hb1⟩; have HB1 : Hid (Below w.heap.size w w1) := (below2 _ _ _).trans (hb1.mono (by simp; omega)); have m0 := (hb1.block _ (ltOf N0.out)).trans N0.out; have m1 := (hb1.block _ (ltOf N1.out)).trans N1.out; have a1 := cellOf (j := 1) m0 rfl; have b1 := cellOf (j := 1) m1 rfl; have M1 := hide m1; clear hb1 m0 m1)
    | (go_at_call 42; refine (HAPP.out _ HB1.out).mono ?_; rintro e w2 ⟨v', rfl, ho2, hout⟩; obtain ⟨qa, qc, rfl⟩ := own_shape ho2; have HO2 := hide ho2; have HOUT0 := hide hout; have HOUT : Hid (Outs w w2 ov (.slice qa O.length qc)) := Outs.from HB1.out hout; have M2 := hide (hout.keep M1.out (fun e => by have := (ownBlock_lt HO.out e).2; omega)); have g1 := cellOf (j := 1) M2.out rfl; have hw2 : Hid (base ≤ w2.heap.size) := Nat.le_trans hbase HOUT.out.grown.size; clear ho2 hout))
  case hn => omega
  case h63 => unfold maxLen; omega
  case hby => omega
  case hba => exact hw2.out
  intro v3 w3 hown3 hout3
  obtain ⟨ra, rc, rfl⟩ := own_shape hown3
  have HO3 := hide hown3
  have HOUT3 : Hid (Outs w w3 ov _) := HOUT.out.trans hout3
  have k2 := cellOf (j := 2) (hout3.keep M2.out (fun e => by
    rcases HOUT0.out.lies with h | ⟨g, h, hg⟩
    · rw [h] at e; have := (ownBlock_lt HO.out e).2; omega
    · rw [h] at e
      have h1 : g = w.heap.size + 1 := by simpa using e
      have h2 := ltOf M1.out
      omega)) rfl
  clear hown3 hout3 g1 b1 a1
  go_wp2
  refine wp_loop_rounds 1 ?_
  rw [rounds_succ]
  go_wp2
  go_ret2
  exact ⟨_, ret_two (by rw [Bool.eq_iff_iff]; simp; omega), HO3.out, HOUT3.out⟩
end Go.Proofs.YtbnoghkijgmcgaaDoor
