/- The document's answer: the bytes of a vector. -/
import Derived.Test.YtlghcldiboecoaaGreatDoorQ05
set_option linter.unusedVariables false
namespace Go.Proofs.YtlghcldiboecoaaGreatDoor
open Go.RowKit

/-- The parts behind b, by their places. -/
def goL (f : Nat → Option (List UInt8)) : Nat → Nat → List UInt8 → Option (List UInt8)
  | 0, _, b => some b
  | m + 1, i, b => if 1000 < b.length then none else match f i with
    | none => none
    | some c => goL f m (i + 1) (b ++ c)

theorem bcells_len (c : List UInt8) : (bcells c).length = c.length := by simp [bcells]
theorem bcells_app (b c : List UInt8) : bcells (b ++ c) = bcells b ++ bcells c := by simp [bcells]
theorem bcells_one (c : List UInt8) : ∀ u, u ∈ bcells c → u.oneCell' = true := by
  intro u hu
  unfold bcells at hu
  obtain ⟨x, _, rfl⟩ := List.mem_map.1 hu
  rfl

set_option maxRecDepth 8000 in
set_option maxHeartbeats 4000000 in
/-- A vector that fits. -/
theorem laid_91 (w : World) (T P : ByteArray) (hT0 : 3 ≤ T.size) (hT1 : T.size ≤ 64) (hT : T[0] = 91) (hTP : T.extract 1 (T.size - 1) = P) (hP : P.size = T.size - 2) (la : Option Addr) (ln lc : Nat) (hln : ln ≤ 32) (B : Nat) (hB : B ≤ 20000)
    (f : Nat → Option (List UInt8)) (LT : Option (List UInt8)) (hLT : LT = goL f ln 0 (Orch.be ln 4)) (hf : ∀ i c, f i = some c → 1 ≤ c.length)
    (el : Nat → Orch.V) (ex : Nat → Value) (HEL : Hid (∀ W, Below w.heap.size w W → ∀ i, i < ln → ∃ (g o : Nat) (xa : Option Addr) (xm xc : Nat), la = some ⟨g, o, none⟩ ∧ g < W.heap.size ∧ ln ≤ lc ∧ ex i = .slice xa xm xc ∧ W.cell? ⟨g, o + i * 3, none⟩ = some (.int .i64 (el i).n) ∧ W.cell? ⟨g, o + i * 3 + 1, none⟩ = some (.string (el i).s) ∧ W.cell? ⟨g, o + i * 3 + 2, none⟩ = some (ex i)))
    (HFI : Hid (∀ W, Calls Tryz.prog 175 #[.string P] W fun e w' => e = .returned (.string P) ∧ w' = W))
    (HLA : Hid (∀ W, Below w.heap.size w W → ∀ i, i < ln → Calls Tryz.prog 128 #[.string P, vv (el i).n (el i).s (ex i)] W fun e w' => ldRes W.heap.size w' B e (f i) ∧ Below W.heap.size W w')) :
    Calls Tryz.prog 128 #[.string T, vv 0 ⟨#[]⟩ (.slice la ln lc)] w fun e w' => ldRes w.heap.size w' (1000 + B) e LT ∧ Below w.heap.size w w' := by
  obtain ⟨i0, hi0, hz0, hz1, hz2⟩ := info_parts Tryz.info5
  have hnew := heap_alloc_new w (.cells #[.int .i64 0, .string ⟨#[]⟩, .slice la ln lc] 113)
  have hbl := below1 w (.cells #[.int .i64 0, .string ⟨#[]⟩, .slice la ln lc] 113)
  have c0 := cellOf (j := 0) hnew rfl
  have c1 := cellOf (j := 1) hnew rfl
  have c2 := cellOf (j := 2) hnew rfl
  have HB := hid hbl
  have HNEW := hid hnew
  have HLT := hid hLT
  have HF1 := hid hf
  have HBY := hid (by_in w 0 ⟨#[]⟩ ln la lc ln (by omega) (by omega) 4 (by omega) (by omega))
  rw [show ((4 : Nat) : Int) = 4 from rfl] at HBY
  have q0 : ((T[0].toNat : Int) == 63) = false := by rw [hT]; rfl
  have q1 : ((T[0].toNat : Int) == 52) = false := by rw [hT]; rfl
  have q2 : ((T[0].toNat : Int) == 56) = false := by rw [hT]; rfl
  have q3 : ((T[0].toNat : Int) == 98) = false := by rw [hT]; rfl
  have q4 : ((T[0].toNat : Int) == 116) = false := by rw [hT]; rfl
  have q5 : ((T[0].toNat : Int) == 91) = true := by rw [hT]; rfl
  have q6 : ((T[0].toNat : Int) == 40) = false := by rw [hT]; rfl
  have hl32 : ¬ ((ln : Int) > 32) := by omega
  have hld : decide ((ln : Int) > 32) = false := decide_eq_false hl32
  clear hT hnew hbl hLT hf
  have hTP' := hid hTP
  have hPe : P.toList.isEmpty = false := by rw [List.isEmpty_eq_false_iff]; exact fun h => by have := (toList_nil P).1 h; omega
  have hm1 : (1 : Int) ≤ ((T.size - 1 : Nat) : Int) := by omega
  have hTS : ((T.size : Int) - 1) = ((T.size - 1 : Nat) : Int) := by omega
  have HTS := hid hTS
  clear hTS
  go_enter Tryz.func128, Tryz.ntmps128
  go_wp2_with (go_at_call 78; refine HBY.out.mono ?_; rintro e w1 ⟨oa, oc, rfl, d0, d1, d2, HN1, HO, HB1⟩; clear HNEW c0 c1 c2)
  go_loopw [11, 12, 13] (fun u0 u1 i13 wr => ∃ (i : Nat) (xr : List UInt8), u1 = .string P ∧ i13 = .int .i64 i ∧ i ≤ ln ∧ (1 ≤ xr.length ∧ xr.length ≤ 1000 + B) ∧ Hid (LT = goL f (ln - i) i xr) ∧ Hid (wr.ownsRow (w.heap.size + 1) 5 1 u0 xr.length (bcells xr)) ∧ Hid (Below (w.heap.size + 1) (w.alloc (.cells #[.int .i64 0, .string ⟨#[]⟩, .slice la ln lc] 113)) wr))
    (fun _ _ i _ => ln - (intOf i).toNat)
  case atStart => exact ⟨0, Orch.be ln 4, rfl, rfl, Nat.zero_le _, by rw [Orch.be_length]; omega, HLT, by show World.ownsRow _ _ _ _ _ _ _; rw [Orch.be_length]; exact HO.out, HB1⟩
  case round =>
    obtain ⟨i, xr, rfl, rfl, hi', ⟨hx1, hx2⟩, HG, HOR, HBR⟩ := hrel
    obtain ⟨qa, qc, hq⟩ := own_shape HOR.out
    subst hq
    have HLOW : Hid (Below w.heap.size w wr) := HB.out.trans (HBR.out.mono (Nat.le_succ _))
    by_cases hlt : i < ln
    · have hltz : (i : Int) < (ln : Int) := by omega
      have HGS : Hid (LT = if 1000 < xr.length then none else match f i with | none => none | some c => goL f (ln - (i + 1)) (i + 1) (xr ++ c)) := by
        show _ = _
        rw [HG.out, show ln - i = (ln - (i + 1)) + 1 by omega, goL]
      clear HG
      by_cases hbig : 1000 < xr.length
      · have hb1 : (xr.length : Int) > 1000 := by omega
        have hb2 : decide ((xr.length : Int) > 1000) = true := decide_eq_true hb1
        have HR : Hid (LT = none) := by show _ = _; rw [HGS.out, if_pos hbig]
        go_wp2
        all_goals go_ret2
        all_goals exact ⟨ld_none HR.out, HLOW.out⟩
      · have hb1 : ¬ ((xr.length : Int) > 1000) := by omega
        have hb2 : decide ((xr.length : Int) > 1000) = false := decide_eq_false hb1
        obtain ⟨g, o, xa, xm, xc, hla, hgl, hlc, hex, e0, e1, e2⟩ := HEL.out wr HLOW.out i hlt
        subst hla
        rw [hex] at e2
        have hn2 := (HBR.out.block _ (by simp)).trans (heap_alloc_new w (.cells #[.int .i64 0, .string ⟨#[]⟩, .slice (some ⟨g, o, none⟩) ln lc] 113))
        have k2 := cellOf (j := 2) hn2 rfl
        have HLI := HLA.out wr HLOW.out i hlt
        rw [hex] at HLI
        have HLI := hid HLI
        have HFW := hid (HFI.out wr)
        clear hn2 hex
        cases hfi : f i with
        | none =>
          have HR : Hid (LT = none) := by show _ = _; rw [HGS.out, if_neg hbig, hfi]
          rw [hfi] at HLI
          clear hfi HGS
          go_wp2_with (first
            | (go_at_call 175; refine HFW.out.mono ?_; rintro e w2 ⟨rfl, hw2⟩; have hw3 := hw2.symm; clear hw2; subst hw3)
            | (go_at_call 128; refine HLI.out.mono ?_; rintro e w2 ⟨⟨ov, ok, rfl, hok⟩, hb⟩; have hok' : ok = false := hok; subst hok'; clear hok; have HB2 : Hid (Below w.heap.size w w2) := HLOW.out.trans (hb.mono HLOW.out.size); clear hb))
          all_goals go_ret2
          all_goals exact ⟨ld_none HR.out, HB2.out⟩
        | some c =>
          have HR : Hid (LT = goL f (ln - (i + 1)) (i + 1) (xr ++ c)) := by show _ = _; rw [HGS.out, if_neg hbig, hfi]
          have hc1 := HF1.out i c hfi
          rw [hfi] at HLI
          clear hfi HGS
          go_wp2_with (first
            | (at_builtin; refine wpList_append_own_at _ rfl _ _ 57 rfl (w.heap.size + 1) 5 i0 (.int .u8 0) 1 1 Tryz.underlying57 hi0 hz0 hz1 hz2 rfl (by decide) _ xr.length (bcells xr) rfl (ownsRow_below HOR.out HB2.out) ⟨cg, 0, none⟩ c.length cc (bcells c) rfl (by rw [bcells_len, Nat.mul_one]) HC.out (bcells_one c) ?_ ?_ ?_ ?_)
            | (go_at_call 175; refine HFW.out.mono ?_; rintro e w2 ⟨rfl, hw2⟩; have hw3 := hw2.symm; clear hw2; subst hw3)
            | (go_at_call 128; refine HLI.out.mono ?_; rintro e w2 ⟨⟨ov, ok, rfl, hok, hcl, hco⟩, hb⟩; subst hok; obtain ⟨cg, cc, rfl, hcc⟩ := own_bytes' hco (by omega); have HC := hid hcc; have HB2 := hid hb; clear hco hcc hb))
          · unfold maxLen; omega
          · omega
          · exact Nat.le_trans (Nat.le_trans (Nat.le_of_eq (by simp)) HBR.out.size) HB2.out.size
          intro v3 w3 ho3 hg3 _ hlie
          obtain ⟨ra, rc, hr⟩ := own_shape ho3
          subst hr
          have HO3 : Hid (w3.ownsRow (w.heap.size + 1) 5 1 (.slice ra (xr.length + c.length) rc) (xr ++ c).length (bcells (xr ++ c))) := by
            show World.ownsRow _ _ _ _ _ _ _
            rw [bcells_app, List.length_append]
            exact ho3
          have HB3 : Hid (Below (w.heap.size + 1) (w.alloc (.cells #[.int .i64 0, .string ⟨#[]⟩, .slice (some ⟨g, o, none⟩) ln lc] 113)) w3) := by
            have hw1 : w.heap.size + 1 ≤ wr.heap.size := Nat.le_trans (Nat.le_of_eq (by simp)) HBR.out.size
            have hout : Outs w2 w3 (.slice qa xr.length qc) (.slice ra (xr.length + c.length) rc) := ⟨hg3, hlie.imp id (fun h => ⟨_, h, Nat.le_refl _⟩)⟩
            exact (HBR.out.trans (HB2.out.mono hw1)).trans (hout.low (Nat.le_trans hw1 HB2.out.size) (fun g e => (ownBlock_lt HOR.out e).1))
          clear ho3 hg3 hlie k2
          go_wp2
          go_roundw
          case rel => exact ⟨i + 1, xr ++ c, rfl, by go_num, by omega, by rw [List.length_append]; omega, HR, HO3, HB3⟩
          case measure => simp [intOf]; omega
    · have hie : i = ln := by omega
      have HR : Hid (LT = some xr) := by
        show _ = _
        rw [HG.out, hie, Nat.sub_self, goL]
      have hltz : ¬ (i : Int) < (ln : Int) := by omega
      clear HG
      go_wp2
      all_goals go_ret2
      all_goals exact ⟨ld_some HR.out hx2 (own_mono HOR.out (Nat.le_succ _)), HLOW.out⟩

end Go.Proofs.YtlghcldiboecoaaGreatDoor

/- The document's answer: the bytes of a record. -/
set_option linter.unusedVariables false
namespace Go.Proofs.YtlghcldiboecoaaGreatDoor
open Go.RowKit

set_option maxRecDepth 8000 in
set_option maxHeartbeats 4000000 in
/-- A record whose number and text are nothing. -/
theorem laid_40 (w : World) (T : ByteArray) (xt pt : Nat → ByteArray) (m : Nat) (hm1 : 1 ≤ m) (hT0 : 3 ≤ T.size) (hT1 : T.size ≤ 64) (hT : T[0] = 40) (hTP : T.extract 1 (T.size - 1) = xt 0) (la : Option Addr) (ln lc : Nat) (hln : ln ≤ 140737488351232) (B : Nat) (hB : B ≤ 20000)
    (hX : ∀ i, i < m → (xt i).size ≤ 64 ∧ (pt i).size ≤ (xt i).size ∧ 1 ≤ (xt i).size ∧ (xt i).extract (pt i).size (xt i).size = xt (i + 1)) (hXm : (xt m).size = 0)
    (f : Nat → Option (List UInt8)) (LT : Option (List UInt8)) (hLT : LT = if ln = m then goL f ln 0 [] else none) (hf : ∀ i c, f i = some c → 1 ≤ c.length)
    (el : Nat → Orch.V) (ex : Nat → Value) (HEL : Hid (∀ W, Below w.heap.size w W → ∀ i, i < ln → ∃ (g o : Nat) (xa : Option Addr) (xm xc : Nat), la = some ⟨g, o, none⟩ ∧ g < W.heap.size ∧ ln ≤ lc ∧ ex i = .slice xa xm xc ∧ W.cell? ⟨g, o + i * 3, none⟩ = some (.int .i64 (el i).n) ∧ W.cell? ⟨g, o + i * 3 + 1, none⟩ = some (.string (el i).s) ∧ W.cell? ⟨g, o + i * 3 + 2, none⟩ = some (ex i)))
    (HFI : Hid (∀ W i, i < m → Calls Tryz.prog 175 #[.string (xt i)] W fun e w' => e = .returned (.string (pt i)) ∧ w' = W))
    (HLA : Hid (∀ W, Below w.heap.size w W → ∀ i, i < ln → i < m → Calls Tryz.prog 128 #[.string (pt i), vv (el i).n (el i).s (ex i)] W fun e w' => ldRes W.heap.size w' B e (f i) ∧ Below W.heap.size W w')) :
    Calls Tryz.prog 128 #[.string T, vv 0 ⟨#[]⟩ (.slice la ln lc)] w fun e w' => ldRes w.heap.size w' (1000 + B) e LT ∧ Below w.heap.size w w' := by
  obtain ⟨i0, hi0, hz0, hz1, hz2⟩ := info_parts Tryz.info5
  have hnew := heap_alloc_new w (.cells #[.int .i64 0, .string ⟨#[]⟩, .slice la ln lc] 113)
  have hbl := below1 w (.cells #[.int .i64 0, .string ⟨#[]⟩, .slice la ln lc] 113)
  have c0 := cellOf (j := 0) hnew rfl
  have c1 := cellOf (j := 1) hnew rfl
  have c2 := cellOf (j := 2) hnew rfl
  have HB := hid hbl
  have HNEW := hid hnew
  have HLT := hid hLT
  have HF1 := hid hf
  have HX := hid hX
  have HXM := hid hXm
  have q0 : ((T[0].toNat : Int) == 63) = false := by rw [hT]; rfl
  have q1 : ((T[0].toNat : Int) == 52) = false := by rw [hT]; rfl
  have q2 : ((T[0].toNat : Int) == 56) = false := by rw [hT]; rfl
  have q3 : ((T[0].toNat : Int) == 98) = false := by rw [hT]; rfl
  have q4 : ((T[0].toNat : Int) == 116) = false := by rw [hT]; rfl
  have q5 : ((T[0].toNat : Int) == 91) = false := by rw [hT]; rfl
  have q6 : ((T[0].toNat : Int) == 40) = true := by rw [hT]; rfl
  clear hT hnew hbl hLT hf hX hXm
  have hm1' : (1 : Int) ≤ ((T.size - 1 : Nat) : Int) := by omega
  obtain ⟨X0, hX0⟩ : ∃ X0, xt 0 = X0 := ⟨_, rfl⟩
  rw [hX0] at hTP
  have HX0 := hid hX0
  clear hX0
  go_enter Tryz.func128, Tryz.ntmps128
  go_wp2
  clear c0 c1
  go_loopw [11, 12, 13] (fun u0 u1 i13 wr => ∃ (i : Nat) (xr : List UInt8), u1 = .string (xt i) ∧ i13 = .int .i64 i ∧ (i ≤ ln ∧ i ≤ m) ∧ xr.length ≤ 1000 + B ∧ Hid (LT = if ln = m then goL f (ln - i) i xr else none) ∧ Hid (wr.ownsRow (w.heap.size + 1) 5 1 u0 xr.length (bcells xr)) ∧ Hid (Below (w.heap.size + 1) (w.alloc (.cells #[.int .i64 0, .string ⟨#[]⟩, .slice la ln lc] 113)) wr))
    (fun _ _ i _ => ln - (intOf i).toNat)
  case atStart => exact ⟨0, [], by rw [HX0.out], rfl, ⟨Nat.zero_le _, Nat.zero_le _⟩, Nat.zero_le _, HLT, World.ownsRow_nil _ _ _ _, Below.refl _ _⟩
  case round =>
    obtain ⟨i, xr, rfl, rfl, ⟨hi', him⟩, hx2, HG, HOR, HBR⟩ := hrel
    obtain ⟨qa, qc, hq⟩ := own_shape HOR.out
    subst hq
    have HLOW : Hid (Below w.heap.size w wr) := HB.out.trans (HBR.out.mono (Nat.le_succ _))
    by_cases hlt : i < ln
    · have hltz : (i : Int) < (ln : Int) := by omega
      by_cases hend : i = m
      · have HR : Hid (LT = none) := by show _ = _; rw [HG.out, if_neg (by omega)]
        have hXe : xt i = ⟨#[]⟩ := empty_of (by rw [hend]; exact HXM.out)
        rw [hXe]
        go_wp2
        all_goals go_ret2
        all_goals exact ⟨ld_none HR.out, HLOW.out⟩
      have hltm : i < m := by omega
      obtain ⟨hXs, hPX, hX1, hXn⟩ := HX.out i hltm
      have HFW := HFI.out wr i hltm
      have HLI := HLA.out wr HLOW.out i hlt hltm
      obtain ⟨Y, hY⟩ : ∃ Y, xt (i + 1) = Y := ⟨_, rfl⟩
      rw [hY] at hXn
      generalize xt i = X at *
      generalize pt i = Pt at *
      have HY := hid hY
      clear hY
      have hXe : X.toList.isEmpty = false := by rw [List.isEmpty_eq_false_iff]; exact fun h => by have := (toList_nil X).1 h; omega
      have hPXi : (Pt.size : Int) ≤ (X.size : Int) := by omega
      have HGS : Hid (LT = if ln = m then (if 1000 < xr.length then none else match f i with | none => none | some c => goL f (ln - (i + 1)) (i + 1) (xr ++ c)) else none) := by
        show _ = _
        rw [HG.out]
        by_cases he : ln = m
        · rw [if_pos he, if_pos he, show ln - i = (ln - (i + 1)) + 1 by omega, goL]; try rfl
        · rw [if_neg he, if_neg he]
      clear HG
      by_cases hbig : 1000 < xr.length
      · have hb1 : (xr.length : Int) > 1000 := by omega
        have hb2 : decide ((xr.length : Int) > 1000) = true := decide_eq_true hb1
        have HR : Hid (LT = none) := by show _ = _; rw [HGS.out, if_pos hbig, ite_self]
        go_wp2
        all_goals go_ret2
        all_goals exact ⟨ld_none HR.out, HLOW.out⟩
      · have hb1 : ¬ ((xr.length : Int) > 1000) := by omega
        have hb2 : decide ((xr.length : Int) > 1000) = false := decide_eq_false hb1
        obtain ⟨g, o, xa, xm, xc, hla, hgl, hlc, hex, e0, e1, e2⟩ := HEL.out wr HLOW.out i hlt
        subst hla
        rw [hex] at e2
        have hn2 := (HBR.out.block _ (by simp)).trans (heap_alloc_new w (.cells #[.int .i64 0, .string ⟨#[]⟩, .slice (some ⟨g, o, none⟩) ln lc] 113))
        have k2 := cellOf (j := 2) hn2 rfl
        rw [hex] at HLI
        have HLI := hid HLI
        have HFW := hid HFW
        clear hn2 hex
        cases hfi : f i with
        | none =>
          have HR : Hid (LT = none) := by show _ = _; rw [HGS.out, if_neg hbig, hfi]; exact ite_self _
          rw [hfi] at HLI
          clear hfi HGS
          go_wp2_with (first
            | (go_at_call 175; refine HFW.out.mono ?_; rintro e w2 ⟨rfl, hw2⟩; have hw3 := hw2.symm; clear hw2; subst hw3)
            | (go_at_call 128; refine HLI.out.mono ?_; rintro e w2 ⟨⟨ov, ok, rfl, hok⟩, hb⟩; have hok' : ok = false := hok; subst hok'; clear hok; have HB2 : Hid (Below w.heap.size w w2) := HLOW.out.trans (hb.mono HLOW.out.size); clear hb))
          all_goals go_ret2
          all_goals exact ⟨ld_none HR.out, HB2.out⟩
        | some c =>
          have HR : Hid (LT = if ln = m then goL f (ln - (i + 1)) (i + 1) (xr ++ c) else none) := by show _ = _; rw [HGS.out, if_neg hbig, hfi]
          have hc1 := HF1.out i c hfi
          rw [hfi] at HLI
          clear hfi HGS
          go_wp2_with (first
            | (at_builtin; refine wpList_append_own_at _ rfl _ _ 57 rfl (w.heap.size + 1) 5 i0 (.int .u8 0) 1 1 Tryz.underlying57 hi0 hz0 hz1 hz2 rfl (by decide) _ xr.length (bcells xr) rfl (ownsRow_below HOR.out HB2.out) ⟨cg, 0, none⟩ c.length cc (bcells c) rfl (by rw [bcells_len, Nat.mul_one]) HC.out (bcells_one c) ?_ ?_ ?_ ?_)
            | (go_at_call 175; refine HFW.out.mono ?_; rintro e w2 ⟨rfl, hw2⟩; have hw3 := hw2.symm; clear hw2; subst hw3)
            | (go_at_call 128; refine HLI.out.mono ?_; rintro e w2 ⟨⟨ov, ok, rfl, hok, hcl, hco⟩, hb⟩; subst hok; obtain ⟨cg, cc, rfl, hcc⟩ := own_bytes' hco (by omega); have HC := hid hcc; have HB2 := hid hb; clear hco hcc hb))
          · unfold maxLen; omega
          · omega
          · exact Nat.le_trans (Nat.le_trans (Nat.le_of_eq (by simp)) HBR.out.size) HB2.out.size
          intro v3 w3 ho3 hg3 _ hlie
          obtain ⟨ra, rc, hr⟩ := own_shape ho3
          subst hr
          have HO3 : Hid (w3.ownsRow (w.heap.size + 1) 5 1 (.slice ra (xr.length + c.length) rc) (xr ++ c).length (bcells (xr ++ c))) := by
            show World.ownsRow _ _ _ _ _ _ _
            rw [bcells_app, List.length_append]
            exact ho3
          have HB3 : Hid (Below (w.heap.size + 1) (w.alloc (.cells #[.int .i64 0, .string ⟨#[]⟩, .slice (some ⟨g, o, none⟩) ln lc] 113)) w3) := by
            have hw1 : w.heap.size + 1 ≤ wr.heap.size := Nat.le_trans (Nat.le_of_eq (by simp)) HBR.out.size
            have hout : Outs w2 w3 (.slice qa xr.length qc) (.slice ra (xr.length + c.length) rc) := ⟨hg3, hlie.imp id (fun h => ⟨_, h, Nat.le_refl _⟩)⟩
            exact (HBR.out.trans (HB2.out.mono hw1)).trans (hout.low (Nat.le_trans hw1 HB2.out.size) (fun g e => (ownBlock_lt HOR.out e).1))
          clear ho3 hg3 hlie k2
          go_wp2
          go_roundw
          case rel => exact ⟨i + 1, xr ++ c, by rw [HY.out], by go_num, by omega, by rw [List.length_append]; omega, HR, HO3, HB3⟩
          case measure => simp [intOf]; omega
    · have hie : i = ln := by omega
      have hltz : ¬ (i : Int) < (ln : Int) := by omega
      by_cases he : i = m
      · have HR : Hid (LT = some xr) := by
          show _ = _
          rw [HG.out, if_pos (by omega), hie, Nat.sub_self, goL]
        have hXe : xt i = ⟨#[]⟩ := empty_of (by rw [he]; exact HXM.out)
        rw [hXe]
        clear HG
        go_wp2
        all_goals go_ret2
        all_goals exact ⟨ld_some HR.out hx2 (own_mono HOR.out (Nat.le_succ _)), HLOW.out⟩
      · have HR : Hid (LT = none) := by
          show _ = _
          rw [HG.out, if_neg (by omega)]
        obtain ⟨hXs, hPX, hX1, hXn⟩ := HX.out i (by omega)
        clear hXn
        generalize xt i = X at *
        have hXe : X.toList.isEmpty = false := by rw [List.isEmpty_eq_false_iff]; exact fun h => by have := (toList_nil X).1 h; omega
        clear HG
        go_wp2
        all_goals go_ret2
        all_goals exact ⟨ld_none HR.out, HLOW.out⟩

end Go.Proofs.YtlghcldiboecoaaGreatDoor

/- The document's answer: a value that is none of a vector or a record. -/
set_option linter.unusedVariables false
namespace Go.Proofs.YtlghcldiboecoaaGreatDoor
open Go.RowKit

set_option maxRecDepth 8000 in
set_option maxHeartbeats 4000000 in
theorem laid_no (w : World) (T : ByteArray) (hT0 : 1 ≤ T.size) (hb : T[0] = 91 ∨ T[0] = 40) (n : Int) (s : ByteArray) (la : Option Addr) (ln lc : Nat) (bad : n ≠ 0 ∨ s.size ≠ 0 ∨ (T[0] = 91 ∧ 32 < ln)) :
    Calls Tryz.prog 128 #[.string T, vv n s (.slice la ln lc)] w fun e w' => ldRes w.heap.size w' 208 e none ∧ Below w.heap.size w w' := by
  have hnew := heap_alloc_new w (.cells #[.int .i64 n, .string s, .slice la ln lc] 113)
  have hbl := below1 w (.cells #[.int .i64 n, .string s, .slice la ln lc] 113)
  have c0 := cellOf (j := 0) hnew rfl
  have c1 := cellOf (j := 1) hnew rfl
  have c2 := cellOf (j := 2) hnew rfl
  have HB := hid hbl
  have q : ∀ z : UInt8, z ≠ 91 → z ≠ 40 → ((T[0].toNat : Int) == z.toNat) = false := fun z h1 h2 => by
    rw [beq_eq_false_iff_ne]
    intro h
    have h3 : T[0] = z := UInt8.toNat_inj.1 (by omega)
    rcases hb with h | h
    · exact h1 (h3.symm.trans h)
    · exact h2 (h3.symm.trans h)
  have q0 : ((T[0].toNat : Int) == 63) = false := q 63 (by decide) (by decide)
  have q1 : ((T[0].toNat : Int) == 52) = false := q 52 (by decide) (by decide)
  have q2 : ((T[0].toNat : Int) == 56) = false := q 56 (by decide) (by decide)
  have q3 : ((T[0].toNat : Int) == 98) = false := q 98 (by decide) (by decide)
  have q4 : ((T[0].toNat : Int) == 116) = false := q 116 (by decide) (by decide)
  clear q hnew hbl
  by_cases hn : n = 0
  · subst hn
    by_cases hs : s.size = 0
    · obtain rfl := empty_of hs
      rcases bad with h | h | ⟨h, hl⟩
      · exact absurd rfl h
      · exact absurd hs h
      have q5 : ((T[0].toNat : Int) == 91) = true := by rw [h]; rfl
      have hl32 : (ln : Int) > 32 := by omega
      have hld : decide ((ln : Int) > 32) = true := decide_eq_true hl32
      clear h hb
      go_enter Tryz.func128, Tryz.ntmps128
      go_wp2
      all_goals go_ret2
      all_goals exact ⟨ld_none rfl, HB.out⟩
    · have bs : s.toList.isEmpty = false := by rw [List.isEmpty_eq_false_iff]; exact fun h => hs ((toList_nil s).1 h)
      clear bad hb
      go_enter Tryz.func128, Tryz.ntmps128
      go_wp2
      all_goals go_ret2
      all_goals exact ⟨ld_none rfl, HB.out⟩
  · have bn : (n == 0) = false := by simpa using hn
    clear bad hb
    go_enter Tryz.func128, Tryz.ntmps128
    go_wp2
    all_goals go_ret2
    all_goals exact ⟨ld_none rfl, HB.out⟩

end Go.Proofs.YtlghcldiboecoaaGreatDoor
