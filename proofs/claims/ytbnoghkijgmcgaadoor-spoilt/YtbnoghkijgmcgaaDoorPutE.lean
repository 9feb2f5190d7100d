/- put at vectors and records. -/
import Derived.Test.YtbnoghkijgmcgaaDoorPut
set_option linter.unusedVariables false
namespace Go.Proofs.YtbnoghkijgmcgaaDoor
open Go.RowKit

theorem grownBy_drew {w w' : World} {r : Option Nat} (h : w.grownBy w' r) : w.grownBy w'.drew r := ⟨h.os, h.tape, h.output, h.size, h.block⟩

/-- The elements, one behind the other. -/
def goE (f : Nat → List UInt8 → Option (List UInt8)) : Nat → Nat → List UInt8 → Option (List UInt8)
  | 0, _, o => some o
  | n + 1, i, o => match f i o with
    | none => none
    | some o' => goE f n (i + 1) o'

/-- What put leaves behind the elements. -/
def puEnd (base : Nat) (w w' : World) (ov : Value) (e : Ending) : Option (List UInt8) → Prop
  | none => (∃ a m c, e = .returned (.tuple #[.slice a m c, .bool false])) ∧ w.grownBy w' ov.ownBlock
  | some o => ∃ ov', e = .returned (.tuple #[ov', .bool (decide (o.length ≤ 1000))]) ∧ w'.ownsRow base 5 1 ov' o.length (bcells o) ∧ Outs w w' ov ov'

set_option maxRecDepth 8000 in
set_option maxHeartbeats 4000000 in
theorem put_2 (w : World) (base : Nat) (ov : Value) (xs : List UInt8) (hx : xs.length ≤ 4000) (hown : w.ownsRow base 5 1 ov xs.length (bcells xs)) (hbase : base ≤ w.heap.size) (sg sz : Nat) (lo hi : Int) (tx : Bool) (fn : Nat) (pa : Option Addr) (pn pc : Nat) (vn : Int) (vs : ByteArray) (la : Option Addr) (ln lc : Nat) (hln : ln ≤ 64) (Bd : Nat) (hBd1 : 1000 ≤ Bd) (hBd2 : Bd ≤ 1300) (O : List UInt8) (hO : O = xs ++ Orch.be ln 4)
    (f : Nat → List UInt8 → Option (List UInt8)) (TOT : Option (List UInt8)) (hTOT : goE f ln 0 O = TOT)
    (el : Nat → Orch.V) (ex : Nat → Value) (HEL : Hid (∀ W, Below base w W → ∀ i, i < ln → ∃ (g : Nat) (xa : Option Addr) (xm xc : Nat), la = some ⟨g, 0, none⟩ ∧ g < W.heap.size ∧ ln ≤ lc ∧ ex i = .slice xa xm xc ∧ W.cell? ⟨g, i * 3, none⟩ = some (.int .i64 (el i).n) ∧ W.cell? ⟨g, i * 3 + 1, none⟩ = some (.string (el i).s) ∧ W.cell? ⟨g, i * 3 + 2, none⟩ = some (ex i)))
    (pl : Nat → Orch.Lt) (ppt : Nat → World → Value → Prop)
    (HPART : Hid (∀ W, Below base w W → ∀ i, i < ln → Calls Tryd.prog 48 #[tyv sg 2 sz lo hi tx fn (.slice pa pn pc), .int .i64 i] W fun e w' => ∃ xa xm xc, e = .returned (tval (pl i) (.slice xa xm xc)) ∧ ppt i W (.slice xa xm xc) ∧ Below W.heap.size W w'))
    (HPUT : Hid (∀ W0 W, Below base w W0 → Below W0.heap.size W0 W → ∀ i, i < ln → ∀ x, ppt i W0 x → ∀ (ou : Value) (ys : List UInt8), ys.length ≤ Bd → base ≤ W.heap.size → W.ownsRow base 5 1 ou ys.length (bcells ys) → Calls Tryd.prog 32 #[ou, tval (pl i) x, vv (el i).n (el i).s (ex i)] W fun e w' => puRes base W w' ou e (f i ys)))
    (hf : ∀ i ys o, f i ys = some o → o.length ≤ 1000) (hOl : O.length ≤ Bd ∨ ln = 0) (hOl2 : O.length ≤ 4008)
    (HF : Hid (∀ W, Below w.heap.size w W → Calls Tryd.prog 47 #[tyv sg 2 sz lo hi tx fn (.slice pa pn pc), vv vn vs (.slice la ln lc)] W fun e w' => e = .returned (.bool true) ∧ Below W.heap.size W w')) :
    Calls Tryd.prog 32 #[ov, tyv sg 2 sz lo hi tx fn (.slice pa pn pc), vv vn vs (.slice la ln lc)] w fun e w' => puEnd base w w' ov e TOT := by
  have hTOT' := hide hTOT
  obtain ⟨n0, n1⟩ := new2 w (.cells #[.int .u8 sg, .int .i64 2, .int .i64 sz, .int .i64 lo, .int .i64 hi, .bool tx, .int .u8 fn, .slice pa pn pc] 62) (.cells #[.int .i64 vn, .string vs, .slice la ln lc] 31)
  have N0 := hide n0
  have N1 := hide n1
  have HO := hide hown
  have HFL := hide hf
  clear n0 n1 hown hTOT hf
  have HAPP : Hid (∀ W, Below w.heap.size w W → Calls Tryd.prog 42 #[ov, .int .i64 ln, .int .i64 4] W fun e w' => ∃ v', e = .returned v' ∧ w'.ownsRow base 5 1 v' O.length (bcells O) ∧ Outs W w' ov v') := fun W hb => by
    rw [hO]
    exact append2 W base ov ln 4 xs (by omega) (ownsRow_below HO.out hb) (Nat.le_trans hbase hb.size) (by omega)
  clear hO
  go_enter Tryd.func32, Tryd.ntmps32
  go_wp2_with (first
    | (go_at_call 47; refine (HF.out _ (below2 _ _ _)).mono ?_; rintro e w1 ⟨rfl, hb1⟩; have HB1 : Hid (Below w.heap.size w w1) := (below2 _ _ _).trans (hb1.mono (by simp; omega)); have m0 := (hb1.block _ (ltOf N0.out)).trans N0.out; have m1 := (hb1.block _ (ltOf N1.out)).trans N1.out; have a1 := cellOf (j := 1) m0 rfl; have b2 := cellOf (j := 2) m1 rfl; have M0 := hide m0; have M1 := hide m1; clear hb1 m0 m1)
    | (go_at_call 42; refine (HAPP.out _ HB1.out).mono ?_; rintro e wq ⟨v', rfl, ho2, hout⟩; obtain ⟨qa, qc, rfl⟩ := own_shape ho2; have HOS := hide ho2; have HOUTS := hide hout; have g2 := cellOf (j := 2) (hout.keep M1.out (fun e => by have := (ownBlock_lt HO.out e).2; omega)) rfl; clear ho2 hout))
  go_loopw [0, 48] (fun u0 i48 wr => ∃ (i : Nat) (xr : List UInt8), i48 = .int .i64 i ∧ i ≤ ln ∧ (xr.length ≤ Bd ∨ i = ln) ∧ xr.length ≤ 4008 ∧ Hid (goE f (ln - i) i xr = TOT) ∧ Hid (wr.ownsRow base 5 1 u0 xr.length (bcells xr)) ∧ Hid (Outs w1 wr ov u0))
    (fun _ i _ => ln - (intOf i).toNat)
  case atStart => exact ⟨0, O, rfl, Nat.zero_le _, by omega, hOl2, hTOT', HOS, HOUTS⟩
  case round =>
    obtain ⟨i, xr, rfl, hi', hxr, hxr2, HG, HOR, HOUT⟩ := hrel
    obtain ⟨qa, qc, hq⟩ := own_shape HOR.out
    subst hq
    have HOVLT : Hid (∀ g, ov.ownBlock = some g → base ≤ g ∧ g < w.heap.size) := fun g e => ownBlock_lt HO.out e
    have HLOW1 : Hid (Below base w w1) := HB1.out.mono hbase
    have HLOW : Hid (Below base w wr) := HLOW1.out.trans (HOUT.out.low (Nat.le_trans hbase HB1.out.size) (fun g e => (HOVLT.out g e).1))
    by_cases hlt : i < ln
    · have m0 := HOUT.out.keep M0.out (fun e => by have := (HOVLT.out _ e).2; omega)
      have a0' := cellOf (j := 0) m0 rfl
      have a1' := cellOf (j := 1) m0 rfl
      have a2' := cellOf (j := 2) m0 rfl
      have a3' := cellOf (j := 3) m0 rfl
      have a4' := cellOf (j := 4) m0 rfl
      have a5' := cellOf (j := 5) m0 rfl
      have a6' := cellOf (j := 6) m0 rfl
      have a7' := cellOf (j := 7) m0 rfl
      have hw1r := ltOf m0
      have MR := hide m0
      obtain ⟨g, xa, xm, xc, hla, hgl, hlc, hex, e0, e1, e2⟩ := HEL.out wr HLOW.out i hlt
      subst hla
      have HEX := hide hex
      rw [hex] at e2
      have hltz : (i : Int) < (ln : Int) := by omega
      have hlenx : xr.length ≤ Bd := by omega
      have HGS : Hid (TOT = match f i xr with | none => none | some o => goE f (ln - (i + 1)) (i + 1) o) := by
        show _ = _
        rw [← HG.out, show ln - i = (ln - (i + 1)) + 1 by omega, goE]
      have HALLOC : Hid (Below base w (wr.alloc (.cells #[.int .i64 (el i).n, .string (el i).s, .slice xa xm xc] 31))) := HLOW.out.alloc (Nat.le_trans hbase HLOW.out.size) _
      have hnew := hide (heap_alloc_new wr (.cells #[.int .i64 (el i).n, .string (el i).s, .slice xa xm xc] 31))
      have MRA : Hid ((wr.alloc (.cells #[.int .i64 (el i).n, .string (el i).s, .slice xa xm xc] 31)).heap[w.heap.size]? = _) := (Below.heap_alloc _ _ _ hw1r).trans m0
      clear m0 hex HG
      have HFI := hide (HFL.out i xr)
      cases hfi : f i xr with
      | none =>
        have HR : Hid (TOT = none) := by
          show _ = _
          rw [HGS.out, hfi]
        have HPUT' : Hid (∀ W0 W, Below base w W0 → Below W0.heap.size W0 W → ∀ x, ppt i W0 x → W.ownsRow base 5 1 (.slice qa xr.length qc) xr.length (bcells xr) → Calls Tryd.prog 32 #[.slice qa xr.length qc, tval (pl i) x, vv (el i).n (el i).s (.slice xa xm xc)] W fun e w' => (∃ a m c, e = .returned (.tuple #[.slice a m c, .bool false])) ∧ W.grownBy w' (Value.slice qa xr.length qc).ownBlock) := fun W0 W h1 h2 x h3 h4 => by
          have := HPUT.out W0 W h1 h2 i hlt x h3 _ xr hlenx (Nat.le_trans (Nat.le_trans hbase h1.size) h2.size) h4
          rw [hfi, HEX.out] at this
          exact this
        clear HGS hfi HFI HPUT
        go_wp2
        go_region_with (first
          | (go_at_call 48
             refine (HPART.out _ (by first | exact HALLOC.out | exact HALLOC.out.drew | exact HALLOC.out.drew.drew) i hlt).mono ?_
             rintro e w2 ⟨ya, ym, yc, rfl, hpp, hb2⟩
             have HPP := hide hpp
             have HB2 := hide hb2
             have HB2R : Hid (Below wr.heap.size wr w2) := Below.trans (by first | exact below1 wr _ | exact (below1 wr _).drew | exact (below1 wr _).drew.drew) (hb2.mono (by simp))
             have k2 := (hb2.block _ (ltOf hnew.out)).trans hnew.out
             have l0 := cellOf (j := 0) k2 rfl
             have l1 := cellOf (j := 1) k2 rfl
             have l2 := cellOf (j := 2) k2 rfl
             clear hpp hb2 k2)
          | (go_at_call 32
             refine (HPUT'.out _ _ (by first | exact HALLOC.out | exact HALLOC.out.drew | exact HALLOC.out.drew.drew) (by first | exact HB2.out | exact HB2.out.drew) _ HPP.out (ownsRow_below ((HOR.out.alloc _)) (by first | exact HB2.out | exact HB2.out.drew | exact (below_drew _).trans HB2.out | exact Below.drew ((below_drew _).trans HB2.out)))).mono ?_
             rintro e w3 ⟨⟨za, zm, zc, rfl⟩, hg3⟩
             have HFIN : Hid (w.grownBy w3 ov.ownBlock) := (Outs.trans (Outs.from HB1.out (HOUT.out.below (by first | exact HB2R.out | exact HB2R.out.drew))) (⟨hg3, Or.inl rfl⟩ : Outs _ w3 _ (Value.slice qa xr.length qc))).grown
             clear hg3))
        all_goals go_wp2
        all_goals go_ret2
        all_goals rw [HR.out]
        all_goals exact ⟨⟨_, _, _, rfl⟩, by first | exact HFIN.out | exact grownBy_drew HFIN.out⟩
      | some o =>
        have HR : Hid (goE f (ln - (i + 1)) (i + 1) o = TOT) := by
          show _ = _
          rw [HGS.out, hfi]
        have hol := HFI.out o hfi
        have HPUT' : Hid (∀ W0 W, Below base w W0 → Below W0.heap.size W0 W → ∀ x, ppt i W0 x → W.ownsRow base 5 1 (.slice qa xr.length qc) xr.length (bcells xr) → Calls Tryd.prog 32 #[.slice qa xr.length qc, tval (pl i) x, vv (el i).n (el i).s (.slice xa xm xc)] W fun e w' => ∃ ov', e = .returned (.tuple #[ov', .bool true]) ∧ w'.ownsRow base 5 1 ov' o.length (bcells o) ∧ Outs W w' (.slice qa xr.length qc) ov') := fun W0 W h1 h2 x h3 h4 => by
          have := HPUT.out W0 W h1 h2 i hlt x h3 _ xr hlenx (Nat.le_trans (Nat.le_trans hbase h1.size) h2.size) h4
          rw [hfi, HEX.out] at this
          exact this
        clear HGS hfi HFI HPUT
        go_wp2
        go_region_with (first
          | (go_at_call 48
             refine (HPART.out _ (by first | exact HALLOC.out | exact HALLOC.out.drew | exact HALLOC.out.drew.drew) i hlt).mono ?_
             rintro e w2 ⟨ya, ym, yc, rfl, hpp, hb2⟩
             have HPP := hide hpp
             have HB2 := hide hb2
             have HB2R : Hid (Below wr.heap.size wr w2) := Below.trans (by first | exact below1 wr _ | exact (below1 wr _).drew | exact (below1 wr _).drew.drew) (hb2.mono (by simp))
             have k2 := (hb2.block _ (ltOf hnew.out)).trans hnew.out
             have l0 := cellOf (j := 0) k2 rfl
             have l1 := cellOf (j := 1) k2 rfl
             have l2 := cellOf (j := 2) k2 rfl
             clear hpp hb2 k2)
          | (go_at_call 32
             refine (HPUT'.out _ _ (by first | exact HALLOC.out | exact HALLOC.out.drew | exact HALLOC.out.drew.drew) (by first | exact HB2.out | exact HB2.out.drew) _ HPP.out (ownsRow_below ((HOR.out.alloc _)) (by first | exact HB2.out | exact HB2.out.drew | exact (below_drew _).trans HB2.out | exact Below.drew ((below_drew _).trans HB2.out)))).mono ?_
             rintro e w3 ⟨ov3, rfl, ho3, hout3⟩
             have HO3 := hide ho3
             have HOUT3 : Hid (Outs w1 w3 ov ov3) := (HOUT.out.below (by first | exact HB2R.out | exact HB2R.out.drew)).trans hout3
             clear ho3 hout3))
        all_goals go_wp2
        all_goals go_roundw
        all_goals try (case rel => exact ⟨i + 1, o, by go_num, by omega, by omega, by omega, HR, HO3, by first | exact HOUT3 | exact HOUT3.out.below (below_drew _)⟩)
        all_goals try (case measure => simp [intOf]; omega)
    · have hie : i = ln := by omega
      have HR : Hid (TOT = some xr) := by
        show _ = _
        rw [← HG.out, hie, Nat.sub_self, goE]
      have HIE := hide hie
      clear hie HG
      go_wp2
      go_ret2
      rw [HR.out]
      exact ⟨_, ret_two (by rw [Bool.eq_iff_iff]; simp; omega), HOR.out, Outs.from HB1.out HOUT.out⟩
end Go.Proofs.YtbnoghkijgmcgaaDoor
