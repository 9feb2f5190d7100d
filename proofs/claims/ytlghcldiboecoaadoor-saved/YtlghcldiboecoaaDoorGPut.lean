/- The nodes of a tree as bytes, in the first version. -/
import Derived.Test.YtlghcldiboecoaaDoorGFields
set_option linter.unusedVariables false
namespace Go.Proofs.YtlghcldiboecoaaDoor
open Go.RowKit

set_option maxRecDepth 8000 in
set_option maxHeartbeats 4000000 in
theorem putNodes_1 {Tabs : World → Prop} (U : Utf validB Tabs) (w : World) (hT : Tabs w) (hL : Table w) (hSc : Schemas w) (base : Nat) (hg : gTop ≤ base) (hbase : base ≤ w.heap.size) (ov : Value) (xs : List UInt8) (hown : w.ownsRow base 5 1 ov xs.length (bcells xs)) (hx : xs.length ≤ 1000)
    (nsv : Value) (ns : List Orch.Node) (hns : NsAt w base nsv ns) (hlen : ns.length ≤ 32) (hok : ∀ x, x ∈ ns → Orch.put validB 9 [] ty1 (Orch.fields 1 x) = some (nb1 x) ∧ 0 < (nb1 x).length) :
    Calls Tryd.prog 43 #[ov, .int .i64 1, nsv] w fun e w' => (∃ ov', e = .returned (.tuple #[ov', .bool true]) ∧ w'.ownsRow base 5 1 ov' (xs ++ ns.flatMap nb1).length (bcells (xs ++ ns.flatMap nb1)) ∧ Outs w w' ov ov') := by
  have hg4 : 4 ≤ base := hg
  obtain ⟨LL, hLL⟩ : ∃ LL, LL = xs ++ ns.flatMap nb1 := ⟨_, rfl⟩
  rw [← hLL]
  have HLL := hide hLL
  clear hLL
  have HTb : Hid (∀ W, Below base w W → Tabs W) := fun W h => U.kept hg h hT
  have HLb : Hid (∀ W, Below base w W → Table W) := fun W h => hL.below h (by omega)
  have HNb : Hid (∀ W, Below base w W → NsAt W base nsv ns) := fun W h => hns.below h
  have HP : Hid (∀ W, Below base w W → Calls Tryd.prog 19 #[.string ⟨#[40, 116, 98, 56, 56, 52, 41]⟩] W fun e w' => parseRes W w' e (some ty1) ∧ Below W.heap.size W w') := fun W h => by
    have := parse_any W ⟨#[40, 116, 98, 56, 56, 52, 41]⟩ (HLb.out W h)
    exact this
  obtain ⟨st, sf, hs0⟩ := hSc
  have s2 := cellOf (j := 1) hs0 rfl
  obtain ⟨b, off, cap, rfl, hcap, hblt, hcells⟩ := hns
  have HOWN := hide hown
  have HOWNB : Hid (∀ g, ov.ownBlock = some g → base ≤ g ∧ g < w.heap.size) := fun g h => ownBlock_lt hown h
  obtain ⟨oa, oc, rfl⟩ := own_shape hown
  clear hown hT hL hs0
  have HOK := hide hok
  clear hok hcells
  go_enter Tryd.func43, Tryd.ntmps43
  go_wp2_with fail
  refine (HP.out w (Below.refl _ _)).mono ?_
  rintro e w1 ⟨⟨psv, he, hts⟩, hb1⟩
  obtain ⟨pa, pc, rfl⟩ := hts.shape
  have he' : e = .returned (.tuple #[tyv 40 3 0 0 0 false 41 (.slice pa 5 pc), .bool true]) := he
  subst he'
  have hn1 := heap_alloc_new w1 (.cells #[.int .u8 40, .int .i64 3, .int .i64 0, .int .i64 0, .int .i64 0, .bool false, .int .u8 41, .slice pa 5 pc] 62)
  have hs1 : (w1.alloc (.cells #[.int .u8 40, .int .i64 3, .int .i64 0, .int .i64 0, .int .i64 0, .bool false, .int .u8 41, .slice pa 5 pc] 62)).heap.size = w1.heap.size + 1 := by simp
  have hb2 : Below w.heap.size w (w1.alloc (.cells #[.int .u8 40, .int .i64 3, .int .i64 0, .int .i64 0, .int .i64 0, .bool false, .int .u8 41, .slice pa 5 pc] 62)) := hb1.alloc hb1.size _
  have hts2 : TsAt (w1.alloc (.cells #[.int .u8 40, .int .i64 3, .int .i64 0, .int .i64 0, .int .i64 0, .bool false, .int .u8 41, .slice pa 5 pc] 62)) (fun b => w.heap.size ≤ b ∧ b < w1.heap.size) ty1.ps (.slice pa 5 pc) := hts.congr (fun _ h => h) (fun b hb => Below.heap_alloc _ _ _ hb.2)
  have HB2 := hide hb2
  have HTS2 := hide hts2
  have HN2 := hide hn1
  have HO2 := hide (ownsRow_below HOWN.out hb2)
  have HS2 := hide hs1
  have HSW := hide hb1.size
  clear hts he hb1 hb2 hts2 hn1 hs1 s2 HP HOWN
  go_wp2_with fail
  generalize w1.alloc (.cells #[.int .u8 40, .int .i64 3, .int .i64 0, .int .i64 0, .int .i64 0, .bool false, .int .u8 41, .slice pa 5 pc] 62) = w2 at *
  generalize w1.heap.size = G at *
  go_loopw [0, 25] (fun o i wr => ∃ k : Nat, k ≤ ns.length ∧ i = .int .i64 k ∧ Hid (wr.ownsRow base 5 1 o (xs ++ (ns.take k).flatMap nb1).length (bcells (xs ++ (ns.take k).flatMap nb1))) ∧ Hid (Outs w2 wr (.slice oa xs.length oc) o))
    (fun _ i _ => ns.length - (intOf i).toNat)
  case atStart => exact ⟨0, Nat.zero_le _, rfl, by simpa using HO2, Outs.refl _ _⟩
  case round =>
    obtain ⟨k, hk, rfl, HO, HOUT⟩ := hrel
    have hSZ : w.heap.size ≤ G := HSW.out
    have hlow : Below base w wr := (HB2.out.mono hbase).trans (HOUT.out.low (by have := HB2.out.size; omega) (fun g h => (HOWNB.out g h).1))
    by_cases hlt : k < ns.length
    · have hkz : (k : Int) < (ns.length : Int) := by omega
      obtain ⟨b', off', cap', e', _, _, hc⟩ := HNb.out wr hlow
      simp only [Value.slice.injEq, Option.some.injEq, Addr.mk.injEq] at e'
      obtain ⟨⟨rfl, rfl, _⟩, _, rfl⟩ := e'
      have c0 := hc k hlt 0 _ rfl
      have c1 := hc k hlt 1 _ rfl
      have c2 := hc k hlt 2 _ rfl
      have c3 := hc k hlt 3 _ rfl
      have c4 := hc k hlt 4 _ rfl
      have c5 := hc k hlt 5 _ rfl
      rw [Nat.add_zero] at c0
      have hT8 : wr.heap[G]? = some (.cells #[.int .u8 40, .int .i64 3, .int .i64 0, .int .i64 0, .int .i64 0, .bool false, .int .u8 41, .slice pa 5 pc] 62) := HOUT.out.keep HN2.out (fun h => by have := (HOWNB.out _ h).2; omega)
      have HX := hide (HOK.out ns[k] (List.getElem_mem hlt)).1
      have HXP := hide (HOK.out ns[k] (List.getElem_mem hlt)).2
      have HXL := hide (put_short (HOK.out ns[k] (List.getElem_mem hlt)).1)
      have HNEXT : Hid (xs ++ (ns.take (k + 1)).flatMap nb1 = (xs ++ (ns.take k).flatMap nb1) ++ nb1 ns[k]) := by
        show _ = _
        rw [List.take_succ_eq_append_getElem hlt, List.flatMap_append, List.append_assoc]
        simp
      have hLL : (xs ++ (ns.take k).flatMap nb1).length ≤ 1000 + k * 1000 := pre_short1 hx (fun x hx => put_short (HOK.out x (List.mem_of_mem_take hx)).1)
      generalize xs ++ (ns.take k).flatMap nb1 = L at *
      have HLOW := hide hlow
      have HT8 := hide hT8
      obtain ⟨qa, qc, hq⟩ := own_shape HO.out
      subst hq
      clear hc hlow hT8
      generalize hxx : ns[k] = x at *
      obtain ⟨xp, xd, xt, xm, xch, xv⟩ := x
      simp only at c0 c1 c2 c3 c4 c5
      have HXX := hide hxx
      clear hxx
      go_wp2_with fail
      have hnw := heap_alloc_new wr (.cells #[.string xp, .string xd, .string xt, .int .i64 xm, .int .i64 xch, .int .i64 xv] 69)
      have hbw := below1 wr (.cells #[.string xp, .string xd, .string xt, .int .i64 xm, .int .i64 xch, .int .i64 xv] 69)
      have hT9 := (hbw.block _ (ltOf HT8.out)).trans HT8.out
      refine wp_gen (fun W => Below wr.heap.size wr W ∧ W.heap[G]? = some (.cells #[.int .u8 40, .int .i64 3, .int .i64 0, .int .i64 0, .int .i64 0, .bool false, .int .u8 41, .slice pa 5 pc] 62) ∧ W.heap[wr.heap.size]? = some (.cells #[.string xp, .string xd, .string xt, .int .i64 xm, .int .i64 xch, .int .i64 xv] 69)) ⟨hbw, hT9, hnw⟩ ?_
      clear hnw hbw hT9 c0 c1 c2 c3 c4 c5
      rintro W ⟨hbW, hTW, hnW⟩
      have t0 := cellOf (j := 0) hTW rfl
      have t1 := cellOf (j := 1) hTW rfl
      have t2 := cellOf (j := 2) hTW rfl
      have t3 := cellOf (j := 3) hTW rfl
      have t4 := cellOf (j := 4) hTW rfl
      have t5 := cellOf (j := 5) hTW rfl
      have t6 := cellOf (j := 6) hTW rfl
      have t7 := cellOf (j := 7) hTW rfl
      have n0 := cellOf (j := 0) hnW rfl
      have n1 := cellOf (j := 1) hnW rfl
      have n2 := cellOf (j := 2) hnW rfl
      have n3 := cellOf (j := 3) hnW rfl
      have n4 := cellOf (j := 4) hnW rfl
      have n5 := cellOf (j := 5) hnW rfl
      have hszr := HOUT.out.grown.size
      have hs2 := HS2.out
      have hbr : Below base wr W := hbW.mono (by have := HB2.out.size; omega)
      have HVE : Hid (∀ W' lv, Below W.heap.size W W' → VsAt W' (fun b => b < W'.heap.size) (Orch.fields 1 ⟨xp, xd, xt, xm, xch, xv⟩).l lv → Calls Tryd.prog 20 #[tyv 40 3 0 0 0 false 41 (.slice pa 5 pc), vval (Orch.fields 1 ⟨xp, xd, xt, xm, xch, xv⟩) lv] W' fun e w' => (∃ bv, e = .returned (.tuple #[bv, .bool true]) ∧ w'.ownsRow W'.heap.size 5 1 bv (nb1 ⟨xp, xd, xt, xm, xch, xv⟩).length (bcells (nb1 ⟨xp, xd, xt, xm, xch, xv⟩))) ∧ Below W'.heap.size W' w') := fun W' lv hb hvs => by
        have hbw' : Below base w W' := HLOW.out.trans (hbr.trans (hb.mono (by have := HB2.out.size; have := hbW.size; omega)))
        have hT' : TsAt W' (fun b => b < W'.heap.size) ty1.ps (.slice pa 5 pc) := HTS2.out.congr (fun b h => by have := hb.size; have := hbW.size; omega) (fun b h => by
          rw [hb.block b (by have := hbW.size; omega), hbW.block b (by omega)]
          exact HOUT.out.grown.block b (by omega) (fun e => by have := (HOWNB.out b e.symm).2; omega))
        have := ve_any U W' (HTb.out W' hbw') ty1 ok_ty1 (fun b => b < W'.heap.size) _ hT' (Orch.fields 1 ⟨xp, xd, xt, xm, xch, xv⟩) lv hvs (fun _ h => h)
        rw [HX.out] at this
        exact this
      have HBW := hide hbW
      have HTW := hide hTW
      have HNW := hide hnW
      have HSZR := hide hszr
      clear hbW hTW hnW hszr hs2 hbr
      go_region_with (first
        | (go_at_call 57
           refine (fields_1 _ ⟨xp, xd, xt, xm, xch, xv⟩).mono ?_
           rintro e w4 ⟨⟨lv, rfl, hvl⟩, hb4⟩
           obtain ⟨la, lc, rfl⟩ := hvl.shape
           have HB4 : Hid (Below W.heap.size W w4) := Below.trans (by first | exact Below.refl _ _ | exact (Below.refl _ _).drew | exact (Below.refl _ _).drew.drew) (hb4.mono (by first | exact Nat.le_refl _))
           have hT4 := (HB4.out.block _ (ltOf HTW.out)).trans HTW.out
           have u0 := cellOf (j := 0) hT4 rfl
           have u1 := cellOf (j := 1) hT4 rfl
           have u2 := cellOf (j := 2) hT4 rfl
           have u3 := cellOf (j := 3) hT4 rfl
           have u4 := cellOf (j := 4) hT4 rfl
           have u5 := cellOf (j := 5) hT4 rfl
           have u6 := cellOf (j := 6) hT4 rfl
           have u7 := cellOf (j := 7) hT4 rfl
           have HVL := hide hvl
           clear hvl hb4 hT4)
        | (go_at_call 20
           refine (HVE.out _ _ (by first | exact HB4.out | exact HB4.out.drew) (by first | exact HVL.out.congr (fun b h => h.2) (fun _ _ => rfl))).mono ?_
           rintro e w5 ⟨⟨bv, rfl, hob⟩, hb5⟩
           have HOB := hide hob
           have HB5 : Hid (Below W.heap.size W w5) := HB4.out.trans (hb5.mono HB4.out.size)
           clear hob hb5))
      all_goals refine et_gen (fun X => Below W.heap.size W X ∧ X.ownsRow w4.heap.size 5 1 bv (nb1 ⟨xp, xd, xt, xm, xch, xv⟩).length (bcells (nb1 ⟨xp, xd, xt, xm, xch, xv⟩))) (by first | exact ⟨HB5.out, HOB.out⟩ | exact ⟨HB5.out.drew, HOB.out.drew⟩) ?_
      all_goals
        rintro X ⟨hbX, hoX⟩
        obtain ⟨g5, cap5, rfl, _, _⟩ := own_bytes hoX HXP.out
        have hcX := hoX.cells (g := g5) rfl
        have hbrX : Below wr.heap.size wr X := HBW.out.trans (hbX.mono HBW.out.size)
        have HOX := hide (ownsRow_below HO.out hbrX)
        have hszX := hbrX.size
        have hszr := HSZR.out
        have hs2 := HS2.out
        have HBX := hide hbrX
        have hnl := HXL.out
        have HHX := hide hcX
        have hnlen : (bcells (nb1 ⟨xp, xd, xt, xm, xch, xv⟩)).length = (nb1 ⟨xp, xd, xt, xm, xch, xv⟩).length := by simp [bcells]
        have HNN : Hid (∀ u ∈ bcells (nb1 ⟨xp, xd, xt, xm, xch, xv⟩), u.oneCell' = true) := fun u hu => by
          simp only [bcells, List.mem_map] at hu
          obtain ⟨c, _, rfl⟩ := hu
          rfl
        obtain ⟨i0, hi, hz0, hz1, hz2⟩ := info_parts Tryd.info5
        clear hbX hoX hcX hbrX
        generalize nb1 ⟨xp, xd, xt, xm, xch, xv⟩ = NB at *
        have HNC : Hid (bcells NB = bcells NB) := rfl
        generalize hNC : bcells NB = NC at HHX HNN hnlen
        replace HNC : Hid (bcells NB = NC) := hNC
        clear hNC
        go_wp2_with (at_builtin; refine wpList_append_own_at _ rfl _ _ 34 rfl base 5 i0 (.int .u8 0) 1 1 Tryd.underlying34 hi hz0 hz1 hz2 rfl (by decide) _ _ _ rfl HOX.out ⟨g5, 0, none⟩ NB.length cap5 NC rfl (by rw [hnlen, Nat.mul_one]) HHX.out HNN.out (by unfold maxLen; omega) (by omega) (by omega) ?_)
        intro v' w6 hown' hgrow _ hat
        have HO6 : Hid (w6.ownsRow base 5 1 v' (xs ++ (ns.take (k + 1)).flatMap nb1).length (bcells (xs ++ (ns.take (k + 1)).flatMap nb1))) := by
          show World.ownsRow _ _ _ _ _ _ _
          rw [HNEXT.out, List.length_append, bcells_append, HNC.out]
          exact hown'
        have HOUT6 : Hid (Outs w2 w6 (.slice oa xs.length oc) v') := HOUT.out.trans (Outs.from HBX.out ⟨hgrow, by rcases hat with h | h; exact Or.inl h; exact Or.inr ⟨_, h, Nat.le_refl _⟩⟩)
        clear hown' hgrow hat
        go_wp2_with fail
        go_roundw
        case rel => exact ⟨k + 1, by omega, by go_num, HO6, HOUT6⟩
        case measure => first | (simp [intOf]; done) | (simp [intOf]; omega)
    · have hkz : ¬ (k : Int) < (ns.length : Int) := by omega
      have he : ns.take k = ns := List.take_of_length_le (by omega)
      rw [he, ← HLL.out] at HO
      go_wp2
      exact bodyPost_ret (v := .tuple #[u0, .bool true]) (by simp [results, Tryd.results43, go_sem]) rfl ⟨u0, rfl, HO.out, Outs.from HB2.out HOUT.out⟩

end Go.Proofs.YtlghcldiboecoaaDoor
