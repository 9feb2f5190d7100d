/- The document's answer: the bytes of a record. -/
import Derived.Test.YtlghcldiboecoaaGreatDoorQ39
import Derived.Test.YtlghcldiboecoaaGreatDoorQ37
import Derived.Test.YtlghcldiboecoaaGreatDoorQ02
import Derived.Deep.RegionLaw
import Derived.Lib.ConvBytes
set_option linter.unusedVariables false
namespace Go.Proofs.YtlghcldiboecoaaGreatDoor
open Go.RowKit

set_option maxRecDepth 8000 in
set_option maxHeartbeats 4000000 in
theorem laid_40 (w : World) (T : ByteArray) (xt pt : Nat → ByteArray) (m : Nat) (hm1 : 1 ≤ m) (hT0 : 3 ≤ T.size) (hT1 : T.size ≤ 64) (hT : T[0] = 40) (hTP : T.extract 1 (T.size - 1) = xt 0) (la : Option Addr) (ln lc : Nat) (hln : ln ≤ 140737488351232) (B : Nat) (hB : B ≤ 20000)
    (hX : ∀ i, i < m → (xt i).size ≤ 64 ∧ (pt i).size ≤ (xt i).size ∧ 1 ≤ (xt i).size ∧ (xt i).extract (pt i).size (xt i).size = xt (i + 1)) (hXm : (xt m).size = 0)
    (f : Nat → Option (List UInt8)) (LT : Option (List UInt8)) (hLT : LT = if ln = m then goL f ln 0 [] else none) (hf : ∀ i c, f i = some c → 1 ≤ c.length)
    (el : Nat → Orch.V) (ex : Nat → Value) (HEL : Hid (∀ W, Below w.heap.size w W → ∀ i, i < ln → ∃ (g o : Nat) (xa : Option Addr) (xm xc : Nat), la = some ⟨g, o, none⟩ ∧ g < W.heap.size ∧ ln ≤ lc ∧ ex i = .slice xa xm xc ∧ W.cell? ⟨g, o + i * 3, none⟩ = some (.int .i64 (el i).n) ∧ W.cell? ⟨g, o + i * 3 + 1, none⟩ = some (.string (el i).s) ∧ W.cell? ⟨g, o + i * 3 + 2, none⟩ = some (ex i)))
    (HFI : Hid (∀ W i, i < m → Calls Tryz.prog 175 #[.string (xt i)] W fun e w' => e = .returned (.string (pt i)) ∧ w' = W))
    (HLA : Hid (∀ W, Below w.heap.size w W → ∀ i, i < ln → i < m → Calls Tryz.prog 128 #[.string (pt i), vv (el i).n (el i).s (ex i)] W fun e w' => ldRes W.heap.size w' B e (f i) ∧ Below W.heap.size W w')) :
    Calls Tryz.prog 128 #[.string T, vv 0 ⟨#[]⟩ (.slice la ln lc)] w fun e w' => ldRes w.heap.size w' (1000 + B) e LT ∧ Below w.heap.size w w' := by
  obtain ⟨i0, hi0, hz0, hz1, hz2⟩ := info_parts Tryz.info5
  have hnew := heap_alloc_new w (.cells #[.int .i64 0, .string ⟨#[]⟩, .slice la ln lc] 113)
  have hbl := below1 w (.cells #[.int .i64 0, .string ⟨#[]⟩, .slice la ln lc] 113)
  have c0 := cellOf (j := 0) hnew rfl
  have c1 := cellOf (j := 1) hnew rfl
  have c2 := cellOf (j := 2) hnew rfl
  have HB := hid hbl
  have HNEW := hid hnew
  have HLT := hid hLT
  have HF1 := hid hf
  have HX := hid hX
  have HXM := hid hXm
  have q0 : ((T[0].toNat : Int) == 63) = false := by rw [hT]; rfl
  have q1 : ((T[0].toNat : Int) == 52) = false := by rw [hT]; rfl
  have q2 : ((T[0].toNat : Int) == 56) = false := by rw [hT]; rfl
  have q3 : ((T[0].toNat : Int) == 98) = false := by rw [hT]; rfl
  have q4 : ((T[0].toNat : Int) == 116) = false := by rw [hT]; rfl
  have q5 : ((T[0].toNat : Int) == 91) = false := by rw [hT]; rfl
  have q6 : ((T[0].toNat : Int) == 40) = true := by rw [hT]; rfl
  clear hT hnew hbl hLT hf hX hXm
  have hm1' : (1 : Int) ≤ ((T.size - 1 : Nat) : Int) := by omega
  obtain ⟨X0, hX0⟩ : ∃ X0, xt 0 = X0 := ⟨_, rfl⟩
  rw [hX0] at hTP
  have HX0 := hid hX0
  clear hX0
  go_enter Tryz.func128, Tryz.ntmps128
  go_wp2
  clear c0 c1
  go_loopw [11, 12, 13] (fun u0 u1 i13 wr => ∃ (i : Nat) (xr : List UInt8), u1 = .string (xt i) ∧ i13 = .int .i64 i ∧ (i ≤ ln ∧ i ≤ m) ∧ xr.length ≤ 1000 + B ∧ Hid (LT = if ln = m then goL f (ln - i) i xr else none) ∧ Hid (wr.ownsRow (w.heap.size + 1) 5 1 u0 xr.length (bcells xr)) ∧ Hid (Below (w.heap.size + 1) (w.alloc (.cells #[.int .i64 0, .string ⟨#[]⟩, .slice la ln lc] 113)) wr))
    (fun _ _ i _ => ln - (intOf i).toNat)
  case atStart => exact ⟨0, [], by rw [HX0.out], rfl, ⟨Nat.zero_le _, Nat.zero_le _⟩, Nat.zero_le _, HLT, World.ownsRow_nil _ _ _ _, Below.refl _ _⟩
  case round =>
    obtain ⟨i, xr, rfl, rfl, ⟨hi', him⟩, hx2, HG, HOR, HBR⟩ := hrel
    obtain ⟨qa, qc, hq⟩ := own_shape HOR.out
    subst hq
    have HLOW : Hid (Below w.heap.size w wr) := HB.out.trans (HBR.out.mono (Nat.le_succ _))
    by_cases hlt : i < ln
    · have hltz : (i : Int) < (ln : Int) := by omega
      by_cases hend : i = m
      · have HR : Hid (LT = none) := by show _ = _; rw [HG.out, if_neg (by omega)]
        have hXe : xt i = ⟨#[]⟩ := empty_of (by rw [hend]; exact HXM.out)
        rw [hXe]
        go_wp2
        all_goals go_ret2
        all_goals exact ⟨ld_none HR.out, HLOW.out⟩
      have hltm : i < m := by omega
      obtain ⟨hXs, hPX, hX1, hXn⟩ := HX.out i hltm
      have HFW := HFI.out wr i hltm
      have HLI := HLA.out wr HLOW.out i hlt hltm
      obtain ⟨Y, hY⟩ : ∃ Y, xt (i + 1) = Y := ⟨_, rfl⟩
      rw [hY] at hXn
      generalize xt i = X at *
      generalize pt i = Pt at *
      have HY := hid hY
      clear hY
      have hXe : X.toList.isEmpty = false := by rw [List.isEmpty_eq_false_iff]; exact fun h => by have := (toList_nil X).1 h; omega
      have hPXi : (Pt.size : Int) ≤ (X.size : Int) := by omega
      have HGS : Hid (LT = if ln = m then (if 1000 < xr.length then none else match f i with | none => none | some c => goL f (ln - (i + 1)) (i + 1) (xr ++ c)) else none) := by
        show _ = _
        rw [HG.out]
        by_cases he : ln = m
        · rw [if_pos he, if_pos he, show ln - i = (ln - (i + 1)) + 1 by omega, goL]; try rfl
        · rw [if_neg he, if_neg he]
      clear HG
      by_cases hbig : 1000 < xr.length
      · have hb1 : (xr.length : Int) > 1000 := by omega
        have hb2 : decide ((xr.length : Int) > 1000) = true := decide_eq_true hb1
        have HR : Hid (LT = none) := by show _ = _; rw [HGS.out, if_pos hbig, ite_self]
        go_wp2
        all_goals go_ret2
        all_goals exact ⟨ld_none HR.out, HLOW.out⟩
      · have hb1 : ¬ ((xr.length : Int) > 1000) := by omega
        have hb2 : decide ((xr.length : Int) > 1000) = false := decide_eq_false hb1
        obtain ⟨g, o, xa, xm, xc, hla, hgl, hlc, hex, e0, e1, e2⟩ := HEL.out wr HLOW.out i hlt
        subst hla
        rw [hex] at e2
        have hn2 := (HBR.out.block _ (by simp)).trans (heap_alloc_new w (.cells #[.int .i64 0, .string ⟨#[]⟩, .slice (some ⟨g, o, none⟩) ln lc] 113))
        have k2 := cellOf (j := 2) hn2 rfl
        rw [hex] at HLI
        have HLI := hid HLI
        have HFW := hid HFW
        clear hn2 hex
        cases hfi : f i with
        | none =>
          have HR : Hid (LT = none) := by show _ = _; rw [HGS.out, if_neg hbig, hfi]; exact ite_self _
          rw [hfi] at HLI
          clear hfi HGS
          go_wp2_with (first
            | (go_at_call 175; refine HFW.out.mono ?_; rintro e w2 ⟨rfl, hw2⟩; have hw3 := hw2.symm; clear hw2; subst hw3)
            | (go_at_call 128; refine HLI.out.mono ?_; rintro e w2 ⟨⟨ov, ok, rfl, hok⟩, hb⟩; have hok' : ok = false := hok; subst hok'; clear hok; have HB2 : Hid (Below w.heap.size w w2) := HLOW.out.trans (hb.mono HLOW.out.size); clear hb))
          all_goals go_ret2
          all_goals exact ⟨ld_none HR.out, HB2.out⟩
        | some c =>
          have HR : Hid (LT = if ln = m then goL f (ln - (i + 1)) (i + 1) (xr ++ c) else none) := by show _ = _; rw [HGS.out, if_neg hbig, hfi]
          have hc1 := HF1.out i c hfi
          rw [hfi] at HLI
          clear hfi HGS
          go_wp2_with (first
            | (at_builtin; refine wpList_append_own_at _ rfl _ _ 57 rfl (w.heap.size + 1) 5 i0 (.int .u8 0) 1 1 Tryz.underlying57 hi0 hz0 hz1 hz2 rfl (by decide) _ xr.length (bcells xr) rfl (ownsRow_below HOR.out HB2.out) ⟨cg, 0, none⟩ c.length cc (bcells c) rfl (by rw [bcells_len, Nat.mul_one]) HC.out (bcells_one c) ?_ ?_ ?_ ?_)
            | (go_at_call 175; refine HFW.out.mono ?_; rintro e w2 ⟨rfl, hw2⟩; have hw3 := hw2.symm; clear hw2; subst hw3)
            | (go_at_call 128; refine HLI.out.mono ?_; rintro e w2 ⟨⟨ov, ok, rfl, hok, hcl, hco⟩, hb⟩; subst hok; obtain ⟨cg, cc, rfl, hcc⟩ := own_bytes' hco (by omega); have HC := hid hcc; have HB2 := hid hb; clear hco hcc hb))
          · unfold maxLen; omega
          · omega
          · exact Nat.le_trans (Nat.le_trans (Nat.le_of_eq (by simp)) HBR.out.size) HB2.out.size
          intro v3 w3 ho3 hg3 _ hlie
          obtain ⟨ra, rc, hr⟩ := own_shape ho3
          subst hr
          have HO3 : Hid (w3.ownsRow (w.heap.size + 1) 5 1 (.slice ra (xr.length + c.length) rc) (xr ++ c).length (bcells (xr ++ c))) := by
            show World.ownsRow _ _ _ _ _ _ _
            rw [bcells_app, List.length_append]
            exact ho3
          have HB3 : Hid (Below (w.heap.size + 1) (w.alloc (.cells #[.int .i64 0, .string ⟨#[]⟩, .slice (some ⟨g, o, none⟩) ln lc] 113)) w3) := by
            have hw1 : w.heap.size + 1 ≤ wr.heap.size := Nat.le_trans (Nat.le_of_eq (by simp)) HBR.out.size
            have hout : Outs w2 w3 (.slice qa xr.length qc) (.slice ra (xr.length + c.length) rc) := ⟨hg3, hlie.imp id (fun h => ⟨_, h, Nat.le_refl _⟩)⟩
            exact (HBR.out.trans (HB2.out.mono hw1)).trans (hout.low (Nat.le_trans hw1 HB2.out.size) (fun g e => (ownBlock_lt HOR.out e).1))
          clear ho3 hg3 hlie k2
          go_wp2
          go_roundw
          case rel => exact ⟨i + 1, xr ++ c, by rw [HY.out], by go_num, by omega, by rw [List.length_append]; omega, HR, HO3, HB3⟩
          case measure => simp [intOf]; omega
    · have hie : i = ln := by omega
      have hltz : ¬ (i : Int) < (ln : Int) := by omega
      by_cases he : i = m
      · have HR : Hid (LT = some xr) := by
          show _ = _
          rw [HG.out, if_pos (by omega), hie, Nat.sub_self, goL]
        have hXe : xt i = ⟨#[]⟩ := empty_of (by rw [he]; exact HXM.out)
        rw [hXe]
        clear HG
        go_wp2
        all_goals go_ret2
        all_goals exact ⟨ld_some HR.out hx2 (own_mono HOR.out (Nat.le_succ _)), HLOW.out⟩
      · have HR : Hid (LT = none) := by
          show _ = _
          rw [HG.out, if_neg (by omega)]
        obtain ⟨hXs, hPX, hX1, hXn⟩ := HX.out i (by omega)
        clear hXn
        generalize xt i = X at *
        have hXe : X.toList.isEmpty = false := by rw [List.isEmpty_eq_false_iff]; exact fun h => by have := (toList_nil X).1 h; omega
        clear HG
        go_wp2
        all_goals go_ret2
        all_goals exact ⟨ld_none HR.out, HLOW.out⟩

end Go.Proofs.YtlghcldiboecoaaGreatDoor

/- The document's answer: a value that is none of a vector or a record. -/
namespace Go.Proofs.YtlghcldiboecoaaGreatDoor
open Go.RowKit

set_option maxRecDepth 8000 in
set_option maxHeartbeats 4000000 in
theorem laid_no (w : World) (T : ByteArray) (hT0 : 1 ≤ T.size) (hb : T[0] = 91 ∨ T[0] = 40) (n : Int) (s : ByteArray) (la : Option Addr) (ln lc : Nat) (bad : n ≠ 0 ∨ s.size ≠ 0 ∨ (T[0] = 91 ∧ 32 < ln)) :
    Calls Tryz.prog 128 #[.string T, vv n s (.slice la ln lc)] w fun e w' => ldRes w.heap.size w' 208 e none ∧ Below w.heap.size w w' := by
  have hnew := heap_alloc_new w (.cells #[.int .i64 n, .string s, .slice la ln lc] 113)
  have hbl := below1 w (.cells #[.int .i64 n, .string s, .slice la ln lc] 113)
  have c0 := cellOf (j := 0) hnew rfl
  have c1 := cellOf (j := 1) hnew rfl
  have c2 := cellOf (j := 2) hnew rfl
  have HB := hid hbl
  have q : ∀ z : UInt8, z ≠ 91 → z ≠ 40 → ((T[0].toNat : Int) == z.toNat) = false := fun z h1 h2 => by
    rw [beq_eq_false_iff_ne]
    intro h
    have h3 : T[0] = z := UInt8.toNat_inj.1 (by omega)
    rcases hb with h | h
    · exact h1 (h3.symm.trans h)
    · exact h2 (h3.symm.trans h)
  have q0 : ((T[0].toNat : Int) == 63) = false := q 63 (by decide) (by decide)
  have q1 : ((T[0].toNat : Int) == 52) = false := q 52 (by decide) (by decide)
  have q2 : ((T[0].toNat : Int) == 56) = false := q 56 (by decide) (by decide)
  have q3 : ((T[0].toNat : Int) == 98) = false := q 98 (by decide) (by decide)
  have q4 : ((T[0].toNat : Int) == 116) = false := q 116 (by decide) (by decide)
  clear q hnew hbl
  by_cases hn : n = 0
  · subst hn
    by_cases hs : s.size = 0
    · obtain rfl := empty_of hs
      rcases bad with h | h | ⟨h, hl⟩
      · exact absurd rfl h
      · exact absurd hs h
      have q5 : ((T[0].toNat : Int) == 91) = true := by rw [h]; rfl
      have hl32 : (ln : Int) > 32 := by omega
      have hld : decide ((ln : Int) > 32) = true := decide_eq_true hl32
      clear h hb
      go_enter Tryz.func128, Tryz.ntmps128
      go_wp2
      all_goals go_ret2
      all_goals exact ⟨ld_none rfl, HB.out⟩
    · have bs : s.toList.isEmpty = false := by rw [List.isEmpty_eq_false_iff]; exact fun h => hs ((toList_nil s).1 h)
      clear bad hb
      go_enter Tryz.func128, Tryz.ntmps128
      go_wp2
      all_goals go_ret2
      all_goals exact ⟨ld_none rfl, HB.out⟩
  · have bn : (n == 0) = false := by simpa using hn
    clear bad hb
    go_enter Tryz.func128, Tryz.ntmps128
    go_wp2
    all_goals go_ret2
    all_goals exact ⟨ld_none rfl, HB.out⟩

end Go.Proofs.YtlghcldiboecoaaGreatDoor

/- The document's answer: the bytes of a value of any type. -/
namespace Go.Proofs.YtlghcldiboecoaaGreatDoor
open Go.RowKit

theorem goL_laidE (g : Orch.Ty → Orch.V → Option (List UInt8)) (t : Orch.Ty) (vs : List Orch.V) : ∀ n i b, n + i = vs.length →
    goL (fun i => g (Orch.part t i) (vs.getD i zV)) n i b = Orch.laidE g t (vs.drop i) i b := by
  intro n
  induction n with
  | zero => intro i o h; rw [List.drop_of_length_le (by omega)]; rfl
  | succ n ih =>
    intro i b h
    have hi : i < vs.length := by omega
    rw [goL, List.drop_eq_getElem_cons hi, Orch.laidE, getD_lt _ _ _ hi]
    by_cases hb : 1000 < b.length
    · rw [if_pos hb, if_pos hb]
    · rw [if_neg hb, if_neg hb]
      cases g (Orch.part t i) vs[i] with
      | none => rfl
      | some c => exact ih (i + 1) _ (by omega)

theorem laidE_len (g : Orch.Ty → Orch.V → Option (List UInt8)) (t : Orch.Ty) : ∀ (l : List Orch.V) (i : Nat) (b b' : List UInt8), Orch.laidE g t l i b = some b' → b.length ≤ b'.length := by
  intro l
  induction l with
  | nil => intro i b b' h; simp only [Orch.laidE, Option.some.injEq] at h; rw [h]; omega
  | cons x xs ihl =>
    intro i b b' h
    unfold Orch.laidE at h
    split at h
    · cases h
    · split at h
      · cases h
      · have := ihl _ _ _ h
        rw [List.length_append] at this
        omega

theorem leaf_letter {c : UInt8} {l : Orch.Lt} (hl : Orch.isLeaf c = true) (h : Orch.find c = some l) :
    (c = 63 ∧ l = ⟨63, 0, 1, 0, 1, false, 0⟩) ∨ (c = 52 ∧ l = ⟨52, 0, 4, -2147483648, 2147483647, false, 0⟩) ∨ (c = 56 ∧ l = ⟨56, 0, 8, -9223372036854775808, 9223372036854775807, false, 0⟩) ∨ (c = 98 ∧ l = ⟨98, 1, 0, 0, 0, false, 0⟩) ∨ (c = 116 ∧ l = ⟨116, 1, 0, 0, 0, true, 0⟩) := by
  unfold Orch.isLeaf at hl
  simp only [Bool.or_eq_true, beq_iff_eq] at hl
  rcases hl with (((rfl | rfl) | rfl) | rfl) | rfl
  · exact .inl ⟨rfl, (Option.some.inj h).symm⟩
  · exact .inr (.inl ⟨rfl, (Option.some.inj h).symm⟩)
  · exact .inr (.inr (.inl ⟨rfl, (Option.some.inj h).symm⟩))
  · exact .inr (.inr (.inr (.inl ⟨rfl, (Option.some.inj h).symm⟩)))
  · exact .inr (.inr (.inr (.inr ⟨rfl, (Option.some.inj h).symm⟩)))

theorem row_texts {g : List UInt8 → Option (Orch.Ty × List UInt8)} {p : List UInt8} {ts : List Orch.Ty} (h : Orch.Row g p ts) : ∃ xt pt : Nat → List UInt8, xt 0 = p ∧ (∀ i, i < ts.length → Orch.One g (pt i) (ts.getD i default) ∧ xt i = pt i ++ xt (i + 1)) ∧ xt ts.length = [] := by
  induction h with
  | nil => exact ⟨fun _ => [], fun _ => [], rfl, fun i hi => by simp at hi, rfl⟩
  | @cons p q t ts h hq ih =>
    obtain ⟨xt, pt, h0, h1, h2⟩ := ih
    refine ⟨fun i => match i with | 0 => p ++ q | j + 1 => xt j, fun i => match i with | 0 => p | j + 1 => pt j, rfl, fun i hi => ?_, h2⟩
    cases i with
    | zero => exact ⟨h, by show p ++ q = p ++ xt 0; rw [h0]⟩
    | succ j =>
      have := h1 j (by simpa using hi)
      simpa using this

theorem laidT_pos : ∀ (k : Nat) (s : List UInt8) (t : Orch.Ty) (v : Orch.V) (b : List UInt8), Orch.ptype k s = some (t, []) → Orch.laidT validB k t v = some b → 1 ≤ b.length
  | 0, s, t, v, b, hp, hb => by cases hb
  | k + 1, s, t, v, b, hp, hb => by
    rw [Orch.laidT] at hb
    split at hb
    · rename_i hfit
      rcases Orch.one_inv hp with ⟨c, l, hs, hfind, hfin, hleaf, rfl⟩ | ⟨c, l, p, ts, hs, hfind, hm, hrow, rfl, hts, hnot, hsh⟩
      · have h1 := laidE_len _ _ _ _ _ _ hb
        have h2 : 1 ≤ (Orch.head (.mk l []) v).length := by
          rcases leaf_letter hleaf hfind with ⟨_, rfl⟩ | ⟨_, rfl⟩ | ⟨_, rfl⟩ | ⟨_, rfl⟩ | ⟨_, rfl⟩
          · show 1 ≤ (Orch.be v.n 1).length; rw [Orch.be_length]; omega
          · show 1 ≤ (Orch.be v.n 4).length; rw [Orch.be_length]; omega
          · show 1 ≤ (Orch.be v.n 8).length; rw [Orch.be_length]; omega
          · show 1 ≤ (Orch.be v.s.size 4 ++ v.s.data.toList).length; rw [List.length_append, Orch.be_length]; omega
          · show 1 ≤ (Orch.be v.s.size 4 ++ v.s.data.toList).length; rw [List.length_append, Orch.be_length]; omega
        omega
      · rcases hsh with ⟨hsh, rfl⟩ | ⟨hsh, rfl⟩
        · have h1 := laidE_len _ _ _ _ _ _ hb
          have h2 : 1 ≤ (Orch.head (.mk l ts) v).length := by
            have : Orch.head (.mk l ts) v = Orch.be v.l.length 4 := by simp [Orch.head, Orch.Ty.l, hsh]
            rw [this, Orch.be_length]; omega
          omega
        · have hfit' := hfit
          simp only [Orch.fits, Orch.Ty.l, hsh, Bool.and_eq_true, decide_eq_true_eq] at hfit'
          have hlen : v.l.length = ts.length := hfit'.2
          cases ts with
          | nil => exact absurd rfl hts
          | cons t0 tr =>
            obtain ⟨q, r, rfl, hone, _⟩ := hrow.one
            cases hv : v.l with
            | nil => rw [hv] at hlen; simp at hlen
            | cons e er =>
              rw [hv] at hb
              unfold Orch.laidE at hb
              split at hb
              · cases hb
              · have hpt : Orch.part (.mk l (t0 :: tr)) 0 = t0 := by simp [Orch.part, Orch.Ty.l, Orch.Ty.ps, hsh]
                rw [hpt] at hb
                split at hb
                · cases hb
                · rename_i c hc
                  have h0 := hone.reads []
                  rw [List.append_nil] at h0
                  have h3 := laidT_pos k q t0 e c h0 hc
                  have h1 := laidE_len _ _ _ _ _ _ hb
                  rw [List.length_append] at h1
                  omega
    · cases hb

theorem ldRes.mono {base : Nat} {w' : World} {bd bd' : Nat} {e : Ending} {o : Option (List UInt8)} (h : ldRes base w' bd e o) (hb : bd ≤ bd') : ldRes base w' bd' e o := by
  obtain ⟨ov, ok, rfl, h⟩ := h
  refine ⟨ov, ok, rfl, ?_⟩
  cases o with
  | none => exact h
  | some b => exact ⟨h.1, Nat.le_trans h.2.1 hb, h.2.2⟩

theorem goL_congr {f g : Nat → Option (List UInt8)} : ∀ (n i : Nat) {b : List UInt8}, (∀ j, j < i + n → f j = g j) → goL f n i b = goL g n i b
  | 0, i, b, h => rfl
  | n + 1, i, b, h => by
    rw [goL, goL, h i (by omega)]
    by_cases hb : 1000 < b.length
    · rw [if_pos hb, if_pos hb]
    · rw [if_neg hb, if_neg hb]
      cases g i with
      | none => rfl
      | some c => exact goL_congr n (i + 1) (fun j hj => h j (by omega))

theorem ba_ext {a b : ByteArray} (h : a.data.toList = b.data.toList) : a = b := by
  cases a with | mk x => cases b with | mk y => exact congrArg ByteArray.mk (Array.ext' h)

theorem ba_of (l : List UInt8) : (ByteArray.mk l.toArray).data.toList = l := by simp
theorem ba_size (l : List UInt8) : (ByteArray.mk l.toArray).size = l.length := by rw [← toList_len]

theorem inner {T : ByteArray} {c d : UInt8} {p : List UInt8} (h : T.data.toList = c :: (p ++ [d])) : T.size = p.length + 2 ∧ T.extract 1 (T.size - 1) = ⟨p.toArray⟩ := by
  have h1 : T.size = p.length + 2 := by rw [← toList_len, h]; simp
  refine ⟨h1, ba_ext ?_⟩
  show (T.extract 1 (T.size - 1)).data.toList = (ByteArray.mk p.toArray).data.toList
  rw [ba_of p, ByteArray.data_extract, Array.toList_extract, List.extract_eq_take_drop, h, h1]
  simp

theorem first_of {T : ByteArray} {c d : UInt8} {p : List UInt8} (h : T.data.toList = c :: (p ++ [d])) (h0 : 0 < T.size) : T[0] = c := by
  have h1 := getD_idx T 0 h0
  rw [h] at h1
  simpa using h1.symm

def LdSaid (k : Nat) : Prop := ∀ (w : World) (T : ByteArray) (t : Orch.Ty), T.size ≤ 64 → Orch.ptype k T.data.toList = some (t, []) → ∀ (v : Orch.V), InV v → ∀ (lv : Value), WsAt w (fun b => b < w.heap.size) v.l lv →
  Calls Tryz.prog 128 #[.string T, vval v lv] w fun e w' => ldRes w.heap.size w' (208 + 1000 * k) e (Orch.laidT validB k t v) ∧ Below w.heap.size w w'

theorem ld_succ (k : Nat) (hk : k ≤ 9) (ih : LdSaid k) : LdSaid (k + 1) := by
  intro w T t hT hp v hin lv hvs
  obtain ⟨la, lc, rfl⟩ := hvs.shape
  cases hin with
  | mk n s l hn hs hl he =>
  rcases Orch.one_inv hp with ⟨c, lt, hsT, hfind, hfin, hleaf, rfl⟩ | ⟨c, lt, p, ts, hsT, hfind, hm, hrow, rfl, hts, hnot, hsh⟩
  · have hTc : T = ⟨#[c]⟩ := ba_ext (by rw [hsT])
    subst hTc
    rcases leaf_letter hleaf hfind with ⟨rfl, rfl⟩ | ⟨rfl, rfl⟩ | ⟨rfl, rfl⟩ | ⟨rfl, rfl⟩ | ⟨rfl, rfl⟩
    · exact (laid_63 w n s l la lc hn.1 hn.2 k).mono fun e w' h => ⟨h.1.mono (by omega), h.2⟩
    · exact (laid_52 w n s l la lc hn.1 hn.2 k).mono fun e w' h => ⟨h.1.mono (by omega), h.2⟩
    · exact (laid_56 w n s l la lc hn.1 hn.2 k).mono fun e w' h => ⟨h.1.mono (by omega), h.2⟩
    · exact (laid_98 w n s l la lc hs k).mono fun e w' h => ⟨h.1.mono (by omega), h.2⟩
    · exact (laid_116 w n s l la lc hs k).mono fun e w' h => ⟨h.1.mono (by omega), h.2⟩
  · obtain ⟨hTs, hTx⟩ := inner hsT
    have hT0 := first_of hsT (by omega)
    have hp1 : 1 ≤ p.length := by
      cases ts with
      | nil => exact absurd rfl hts
      | cons t0 tr => have := hrow.pos; cases p with | nil => exact absurd rfl this | cons x y => simp
    have hel : ∀ (ex : Nat → Value), (∀ i (hi : i < l.length), ∃ g o cap, Value.slice la l.length lc = .slice (some ⟨g, o, none⟩) l.length cap ∧ l.length ≤ cap ∧ g < w.heap.size ∧ WsAt w (fun b => b < w.heap.size) l[i].l (ex i) ∧ ∀ j u, (vcell (l[i], ex i))[j]? = some u → w.cell? ⟨g, o + i * 3 + j, none⟩ = some u) →
        (∀ W, Below w.heap.size w W → ∀ i, i < l.length → ∃ (g o : Nat) (xa : Option Addr) (xm xc : Nat), la = some ⟨g, o, none⟩ ∧ g < W.heap.size ∧ l.length ≤ lc ∧ ex i = .slice xa xm xc ∧ W.cell? ⟨g, o + i * 3, none⟩ = some (.int .i64 (l.getD i zV).n) ∧ W.cell? ⟨g, o + i * 3 + 1, none⟩ = some (.string (l.getD i zV).s) ∧ W.cell? ⟨g, o + i * 3 + 2, none⟩ = some (ex i)) := by
      intro ex hex W hb i hi
      obtain ⟨g, o, cap, hla, hlc, hgb, hxs, hcell⟩ := hex i hi
      obtain ⟨xa, xc, hxe⟩ := hxs.shape
      simp only [Value.slice.injEq] at hla
      obtain ⟨rfl, _, rfl⟩ := hla
      rw [getD_lt _ _ _ hi]
      exact ⟨g, o, xa, _, xc, rfl, Nat.lt_of_lt_of_le hgb hb.size, hlc, hxe, (hb.cell (p := ⟨g, o + i * 3, none⟩) hgb).trans (hcell 0 _ rfl), (hb.cell (p := ⟨g, o + i * 3 + 1, none⟩) hgb).trans (hcell 1 _ rfl), (hb.cell (p := ⟨g, o + i * 3 + 2, none⟩) hgb).trans (hcell 2 _ rfl)⟩
    obtain ⟨ex, hex⟩ := hvs.fam
    have HEL := hel ex hex
    have hsub : ∀ (P : ByteArray) (t0 : Orch.Ty), P.size ≤ 64 → Orch.ptype k P.data.toList = some (t0, []) → ∀ W, Below w.heap.size w W → ∀ i, i < l.length → Calls Tryz.prog 128 #[.string P, vv (l.getD i zV).n (l.getD i zV).s (ex i)] W fun e w' => ldRes W.heap.size w' (208 + 1000 * k) e (Orch.laidT validB k t0 (l.getD i zV)) ∧ Below W.heap.size W w' := by
      intro P t0 hP hpt W hb i hi
      obtain ⟨g, o, cap, hla, hlc, hgb, hxs, hcell⟩ := hex i hi
      rw [getD_lt _ _ _ hi]
      exact ih W P t0 hP hpt l[i] (he _ (List.getElem_mem hi)) (ex i) (hxs.congr (fun b hb' => Nat.lt_of_lt_of_le hb' hb.size) (fun b hb' => hb.block b hb'))
    rcases hsh with ⟨hsh, rfl⟩ | ⟨hsh, rfl⟩
    · by_cases hfit : n = 0 ∧ s.size = 0 ∧ l.length ≤ 32
      · obtain ⟨rfl, hs0, hl32⟩ := hfit
        obtain rfl := empty_of hs0
        cases ts with
        | nil => exact absurd rfl hts
        | cons t0 tr =>
          have htr : tr = [] := by
            cases tr with
            | nil => rfl
            | cons a b => exact absurd ⟨hsh, by simp⟩ hnot
          subst htr
          obtain ⟨q, r, rfl, hone, hr⟩ := hrow.one
          cases hr
          rw [List.append_nil] at hTx hTs hp1
          have hpart : ∀ i, Orch.part (.mk lt [t0]) i = t0 := fun i => by simp [Orch.part, Orch.Ty.l, Orch.Ty.ps, hsh]
          have h0 := hone.reads []
          rw [List.append_nil] at h0
          have hff := hone.first []
          rw [List.append_nil] at hff
          have hg := goL_laidE (Orch.laidT validB k) (.mk lt [t0]) l l.length 0 (Orch.be l.length 4) (by omega)
          have hLT : Orch.laidT validB (k + 1) (.mk lt [t0]) (.mk 0 ⟨#[]⟩ l) = goL (fun i => Orch.laidT validB k (Orch.part (.mk lt [t0]) i) (l.getD i zV)) l.length 0 (Orch.be l.length 4) := by
            rw [hg, List.drop_zero, Orch.laidT, if_pos]
            · have : Orch.head (.mk lt [t0]) (.mk 0 ⟨#[]⟩ l) = Orch.be l.length 4 := by simp [Orch.head, Orch.Ty.l, Orch.V.l, hsh]
              rw [this]
              rfl
            · simp [Orch.fits, Orch.Ty.l, Orch.V.n, Orch.V.s, Orch.V.l, hsh, hl32]
              try rfl
          refine (laid_91 w T ⟨q.toArray⟩ (by omega) hT hT0 hTx (by rw [ba_size]; omega) la l.length lc hl32 (208 + 1000 * k) (by omega) _ _ hLT (fun i c hc => ?_) (fun i => l.getD i zV) ex HEL (fun W => ?_) (fun W hb i hi => ?_)).mono fun e w' h => ⟨h.1.mono (by omega), h.2⟩
          · rw [hpart] at hc
            exact laidT_pos k q t0 _ c h0 hc
          · refine (first_any _ W (by rw [ba_size]; omega) (by rw [ba_size]; omega)).mono ?_
            rintro e w' ⟨⟨x, hx, rfl⟩, rfl⟩
            rw [ba_of, hff] at hx
            exact ⟨by rw [ba_ext (a := x) (b := ⟨q.toArray⟩) (by rw [hx, ba_of])], rfl⟩
          · rw [hpart]
            exact hsub _ t0 (by rw [ba_size]; omega) (by rw [ba_of]; exact h0) W hb i hi
      · have hno : Orch.laidT validB (k + 1) (.mk lt ts) (.mk n s l) = none := by
          rw [Orch.laidT, if_neg]
          simp only [Orch.fits, Orch.Ty.l, Orch.V.n, Orch.V.s, Orch.V.l, hsh, Bool.and_eq_true]
          exact fun h => hfit ⟨of_decide_eq_true h.1.1, of_decide_eq_true h.1.2, of_decide_eq_true h.2⟩
        rw [hno]
        exact (laid_no w T (by omega) (.inl hT0) n s la l.length lc (by rw [hT0]; by_cases a : n = 0 <;> by_cases b : s.size = 0 <;> simp_all <;> omega)).mono fun e w' h => ⟨h.1.mono (by omega), h.2⟩
    · by_cases hfit : n = 0 ∧ s.size = 0
      · obtain ⟨rfl, hs0⟩ := hfit
        obtain rfl := empty_of hs0
        obtain ⟨xt, pt, hx0, hxi, hxm⟩ := row_texts hrow
        have hpart : ∀ i, Orch.part (.mk lt ts) i = ts.getD i default := fun i => by simp [Orch.part, Orch.Ty.l, Orch.Ty.ps, hsh]
        have hxl : ∀ i, i ≤ ts.length → (xt i).length ≤ p.length := by
          intro i
          induction i with
          | zero => intro _; rw [hx0]; exact Nat.le_refl _
          | succ j ihj =>
            intro hj
            have h1 := ihj (by omega)
            rw [(hxi j (by omega)).2, List.length_append] at h1
            omega
        have hg := goL_laidE (Orch.laidT validB k) (.mk lt ts) l l.length 0 [] (by omega)
        have hLT : Orch.laidT validB (k + 1) (.mk lt ts) (.mk 0 ⟨#[]⟩ l) = if l.length = ts.length then goL (fun i => if i < ts.length then Orch.laidT validB k (Orch.part (.mk lt ts) i) (l.getD i zV) else none) l.length 0 [] else none := by
          by_cases hlen : l.length = ts.length
          · rw [if_pos hlen, Orch.laidT, if_pos]
            · have hh : Orch.head (.mk lt ts) (.mk 0 ⟨#[]⟩ l) = [] := by simp [Orch.head, Orch.Ty.l, hsh]
              rw [hh]
              rw [List.drop_zero] at hg
              refine Eq.trans hg.symm (goL_congr _ _ (fun j hj => ?_))
              rw [if_pos (by omega)]
            · simp only [Orch.fits, Orch.Ty.l, Orch.Ty.ps, Orch.V.n, Orch.V.s, Orch.V.l, hsh, Bool.and_eq_true]
              exact ⟨⟨rfl, rfl⟩, decide_eq_true hlen⟩
          · rw [if_neg hlen, Orch.laidT, if_neg]
            simp only [Orch.fits, Orch.Ty.l, Orch.Ty.ps, Orch.V.n, Orch.V.s, Orch.V.l, hsh, Bool.and_eq_true]
            exact fun h => hlen (of_decide_eq_true h.2)
        have hone : ∀ i, i < ts.length → Orch.ptype k (pt i) = some (ts.getD i default, []) ∧ Orch.firstL (xt i) = pt i ∧ 1 ≤ (pt i).length ∧ (xt i).length = (pt i).length + (xt (i + 1)).length := fun i hi => by
          obtain ⟨h1, h2⟩ := hxi i hi
          have h0 := h1.reads []
          rw [List.append_nil] at h0
          refine ⟨h0, by rw [h2]; exact h1.first _, ?_, by rw [h2, List.length_append]⟩
          obtain ⟨c, r, h, _⟩ := h1.head
          rw [h]; simp
        refine (laid_40 w T (fun i => ⟨(xt i).toArray⟩) (fun i => ⟨(pt i).toArray⟩) ts.length (by omega) (by omega) hT hT0 (by rw [hx0]; exact hTx) la l.length lc hl (208 + 1000 * k) (by omega) (fun i hi => ?_) (by rw [ba_size, hxm]; rfl) _ _ hLT (fun i c hc => ?_) (fun i => l.getD i zV) ex HEL (fun W i hi => ?_) (fun W hb i hi him => ?_)).mono fun e w' h => ⟨h.1.mono (by omega), h.2⟩
        · obtain ⟨h1, h2, h3, h4⟩ := hone i hi
          have h5 := hxl i (by omega)
          rw [ba_size, ba_size]
          refine ⟨by omega, by omega, by omega, ba_ext ?_⟩
          show ((ByteArray.mk (xt i).toArray).extract (pt i).length (xt i).length).data.toList = (ByteArray.mk (xt (i + 1)).toArray).data.toList
          rw [ba_of (xt (i + 1)), ByteArray.data_extract, Array.toList_extract, List.extract_eq_take_drop, ba_of (xt i), (hxi i hi).2, List.drop_left, List.length_append, Nat.add_sub_cancel_left, List.take_length]
        · split at hc
          · rename_i hi
            rw [hpart] at hc
            exact laidT_pos k (pt i) _ _ c (hone i hi).1 hc
          · cases hc
        · obtain ⟨h1, h2, h3, h4⟩ := hone i hi
          have h5 := hxl i (by omega)
          refine (first_any _ W (by rw [ba_size]; omega) (by rw [ba_size]; omega)).mono ?_
          rintro e w' ⟨⟨x, hx, rfl⟩, rfl⟩
          rw [ba_of, h2] at hx
          exact ⟨by rw [ba_ext (a := x) (b := ⟨(pt i).toArray⟩) (by rw [hx, ba_of])], rfl⟩
        · obtain ⟨h1, h2, h3, h4⟩ := hone i him
          have h5 := hxl i (by omega)
          rw [if_pos him, hpart]
          exact hsub _ _ (by rw [ba_size]; omega) (by rw [ba_of]; exact h1) W hb i hi
      · have hno : Orch.laidT validB (k + 1) (.mk lt ts) (.mk n s l) = none := by
          rw [Orch.laidT, if_neg]
          simp only [Orch.fits, Orch.Ty.l, Orch.V.n, Orch.V.s, Orch.V.l, hsh, Bool.and_eq_true]
          exact fun h => hfit ⟨of_decide_eq_true h.1.1, of_decide_eq_true h.1.2⟩
        rw [hno]
        exact (laid_no w T (by omega) (.inr hT0) n s la l.length lc (by by_cases a : n = 0 <;> by_cases b : s.size = 0 <;> simp_all)).mono fun e w' h => ⟨h.1.mono (by omega), h.2⟩

theorem ld_all : ∀ k, k ≤ 9 → LdSaid k := by
  intro k
  induction k with
  | zero => intro _ w T t _ hp; cases hp
  | succ k ih => intro h; exact ld_succ k (by omega) (ih (by omega))

end Go.Proofs.YtlghcldiboecoaaGreatDoor

/- The caller's books: what stands between the steps. -/
namespace Go.Proofs.YtlghcldiboecoaaGreatDoor
open Go.RowKit

theorem conv_own {w : World} {base : Nat} {ov : Value} {b : List UInt8} (h : w.ownsRow base 5 1 ov b.length (bcells b)) : (convert 57 9 ov).run Tryz.prog w = .ok (.string ⟨b.toArray⟩) w := by
  rcases h.2 with ⟨rfl, h0⟩ | ⟨g, cap, cur, rfl, hb, hg, hn, _, hs, ht⟩
  · have : b = [] := List.length_eq_zero_iff.1 h0
    subst this
    exact run_convert_bytes_nil (P := Tryz.prog) w 57 5 Tryz.underlying57 Tryz.underlying5 0 0 9 Tryz.underlying9
  · have hstr : strOfNums (b.map fun c => (c.toNat : Int)) = (⟨b.toArray⟩ : ByteArray) := by
      unfold strOfNums
      congr 2
      rw [List.map_map]
      conv => rhs; rw [← List.map_id b]
      apply List.map_congr_left
      intro c _
      simp
    have := run_convert_bytes_arg (P := Tryz.prog) w 57 5 Tryz.underlying57 Tryz.underlying5 g 0 b.length cap (b.map fun c => (c.toNat : Int)) (by simp) (fun i hi => by
      have h1 := h.cells (g := g) rfl i (.int .u8 b[i].toNat) (by simp [bcells, hi])
      rw [Addr.add_lit, Nat.zero_add] at h1
      rw [Nat.zero_add, h1, List.getD_eq_getElem?_getD, List.getElem?_map, List.getElem?_eq_getElem hi]
      rfl) 9 Tryz.underlying9
    rw [hstr] at this
    exact this

theorem nil57 (W : World) : (binOp .eql 57 (.slice none 0 0) (.slice none 0 0)).run Tryz.prog W = .ok (.bool true) W := by kernel_rfl
theorem some57 (W : World) (a : Addr) (n c : Nat) : (binOp .eql 57 (.slice (some a) n c) (.slice none 0 0)).run Tryz.prog W = .ok (.bool false) W := by kernel_rfl

def EndsAt (A : Act) (W : World) : Exit → Act → World → Prop
  | .panic _, _, _ => False
  | .normal, a, w => a = A ∧ w = W
  | _, _, _ => False

theorem wp_ends {P : Program} {c : Code} {Q : Exit → Act → World → Prop} {a : Act} {w : World} (h : ∃ A W, Code.wp P c (EndsAt A W) a w ∧ Q .normal A W) : Code.wp P c Q a w := by
  obtain ⟨A, W, h1, h2⟩ := h
  refine Code.wp_mono ?_ h1
  intro e a w he
  cases e with
  | normal => obtain ⟨rfl, rfl⟩ := he; exact h2
  | _ => exact (he : False).elim

abbrev opv (k a b c : Int) (s t : ByteArray) : Value := .agg #[.int .i64 k, .int .i64 a, .int .i64 b, .int .i64 c, .string s, .string t]

def pk (c : Int) (n : Nat) : Nat := if c < 0 then (-(c + 1)).toNat % n else c.toNat % n

theorem pk_lt (c : Int) {n : Nat} (hn : 0 < n) : pk c n < n := by
  unfold pk
  split <;> exact Nat.mod_lt _ hn

theorem pick_is (w : World) (c : Int) (n : Nat) (h0 : -9223372036854775808 ≤ c) (h1 : c ≤ 9223372036854775807) (hn : 0 < n) (hn' : n ≤ 9223372036854775807) :
    Calls Tryz.prog 13 #[.int .i64 c, .int .i64 n] w fun e w' => e = .returned (.int .i64 (pk c n : Nat)) ∧ w' = w := by
  have hz : (n : Int) ≠ 0 := by omega
  by_cases hc : c < 0
  · obtain ⟨d, rfl⟩ : ∃ d : Nat, c = -(d + 1 : Int) := ⟨(-(c + 1)).toNat, by omega⟩
    have HZ : Hid (-((-(d + 1 : Int) + 1).tmod n) = ((d % n : Nat) : Int)) := by
      show -((-(d + 1 : Int) + 1).tmod n) = ((d % n : Nat) : Int)
      rw [show (-(d + 1 : Int) + 1) = -(d : Int) by omega, Int.neg_tmod, Int.neg_neg]
      exact (Int.ofNat_tmod d n).symm
    have HK : Hid (pk (-(d + 1 : Int)) n = d % n) := by
      show pk _ _ = _
      unfold pk
      rw [if_pos hc, show (-(-(d + 1 : Int) + 1)).toNat = d by omega]
    go_enter Tryz.func13, Tryz.ntmps13
    go_wp2
    go_ret
    exact ⟨by rw [HK.out]; exact congrArg (fun z => Ending.returned (Value.int .i64 z)) HZ.out, rfl⟩
  · obtain ⟨d, rfl⟩ : ∃ d : Nat, c = (d : Int) := ⟨c.toNat, by omega⟩
    have HK : Hid (pk (d : Int) n = d % n) := by
      show pk _ _ = _
      unfold pk
      rw [if_neg hc, Int.toNat_natCast]
    go_enter Tryz.func13, Tryz.ntmps13
    go_wp2
    go_ret
    exact ⟨by rw [HK.out]; rfl, rfl⟩

end Go.Proofs.YtlghcldiboecoaaGreatDoor
