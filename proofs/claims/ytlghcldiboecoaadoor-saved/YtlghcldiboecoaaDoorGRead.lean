/- The nodes of a file of the first version, read. -/
import Derived.Test.YtlghcldiboecoaaDoorGNode
set_option linter.unusedVariables false
namespace Go.Proofs.YtlghcldiboecoaaDoor
open Go.RowKit

set_option maxRecDepth 8000 in
set_option maxHeartbeats 4000000 in
theorem readNodes_1 {Tabs : World → Prop} (U : Utf validB Tabs) (w : World) (hT : Tabs w) (hL : Table w) (hSc : Schemas w) (bv : Value) (l : List UInt8) (hl : l.length ≤ 1000000) (hbv : BsAt w bv l) (c : Nat) (hc : c ≤ 32) :
    Calls Tryd.prog 36 #[bv, .int .i64 1, .int .i64 c] w fun e w' => rnRes w w' e (rdN1 c l) ∧ Below w.heap.size w w' := by
  have HTb : Hid (∀ W, Below w.heap.size w W → Tabs W) := fun W h => U.kept (U.size hT) h hT
  have HP : Hid (∀ W, Below w.heap.size w W → Calls Tryd.prog 19 #[.string ⟨#[40, 116, 98, 56, 56, 52, 41]⟩] W fun e w' => parseRes W w' e (some ty1) ∧ Below W.heap.size W w') := fun W h => by
    have := parse_any W ⟨#[40, 116, 98, 56, 56, 52, 41]⟩ (hL.below h hL.pos)
    exact this
  obtain ⟨st, sf, hs0⟩ := hSc
  have s2 := cellOf (j := 1) hs0 rfl
  have HBV := hide hbv
  obtain ⟨b, off, cap, rfl, hcap, hlt, hbytes⟩ := hbv
  clear hbytes hs0 hT hL
  go_enter Tryd.func36, Tryd.ntmps36
  go_wp2_with fail
  refine (HP.out w (Below.refl _ _)).mono ?_
  rintro e w1 ⟨⟨psv, he, hts⟩, hb1⟩
  obtain ⟨pa, pc, rfl⟩ := hts.shape
  have he' : e = .returned (.tuple #[tyv 40 3 0 0 0 false 41 (.slice pa 5 pc), .bool true]) := he
  subst he'
  have hn1 := heap_alloc_new w1 (.cells #[.int .u8 40, .int .i64 3, .int .i64 0, .int .i64 0, .int .i64 0, .bool false, .int .u8 41, .slice pa 5 pc] 62)
  have hs1 : (w1.alloc (.cells #[.int .u8 40, .int .i64 3, .int .i64 0, .int .i64 0, .int .i64 0, .bool false, .int .u8 41, .slice pa 5 pc] 62)).heap.size = w1.heap.size + 1 := by simp
  have hb2 : Below w.heap.size w (w1.alloc (.cells #[.int .u8 40, .int .i64 3, .int .i64 0, .int .i64 0, .int .i64 0, .bool false, .int .u8 41, .slice pa 5 pc] 62)) := hb1.alloc hb1.size _
  have hts2 : TsAt (w1.alloc (.cells #[.int .u8 40, .int .i64 3, .int .i64 0, .int .i64 0, .int .i64 0, .bool false, .int .u8 41, .slice pa 5 pc] 62)) (fun b => w.heap.size ≤ b ∧ b < w1.heap.size) ty1.ps (.slice pa 5 pc) := hts.congr (fun _ h => h) (fun b hb => Below.heap_alloc _ _ _ hb.2)
  have HB2 := hide hb2
  have HTS2 := hide hts2
  have HN2 := hide hn1
  have HS2 := hide hs1
  have HSW := hide hb1.size
  clear hts he hb1 hb2 hts2 hn1 hs1 s2 HP
  go_wp2_with fail
  generalize w1.alloc (.cells #[.int .u8 40, .int .i64 3, .int .i64 0, .int .i64 0, .int .i64 0, .bool false, .int .u8 41, .slice pa 5 pc] 62) = w2 at *
  generalize w1.heap.size = G at *
  go_loopw [0, 10, 24] (fun o nv i wr => ∃ (k : Nat) (ns : List Orch.Node) (rest : List UInt8), k ≤ c ∧ i = .int .i64 k ∧ ns.length = k ∧ rest.length ≤ 1000000 ∧ Hid (wr.ownsRow (G + 1) 69 6 nv ns.length (ns.flatMap ncell)) ∧ Hid (Below w2.heap.size w2 wr) ∧ Hid (BsAt wr o rest) ∧ Hid (BsAt w o rest) ∧
      Hid (rdN1 c l = (rdN1 (c - k) rest).map fun r => (ns ++ r.1, r.2)))
    (fun _ _ i _ => c - (intOf i).toNat)
  case atStart => exact ⟨0, [], l, Nat.zero_le _, rfl, rfl, hl, ⟨rfl, .inl ⟨rfl, rfl⟩⟩, Below.refl _ _, HBV.out.below HB2.out (Nat.le_refl _), HBV, by show _ = _; simp⟩
  case round =>
    obtain ⟨k, ns, rest, hk, rfl, hnk, hrl, HO, HBR, HBS, HBS0, HRD⟩ := hrel
    have hszr := HBR.out.size
    have hs2 := HS2.out
    have hsw := HSW.out
    by_cases hlk : k < c
    · have hkz : (k : Int) < (c : Int) := by omega
      have hT8 : wr.heap[G]? = some (.cells #[.int .u8 40, .int .i64 3, .int .i64 0, .int .i64 0, .int .i64 0, .bool false, .int .u8 41, .slice pa 5 pc] 62) := (HBR.out.block _ (by omega)).trans HN2.out
      have t0 := cellOf (j := 0) hT8 rfl
      have t1 := cellOf (j := 1) hT8 rfl
      have t2 := cellOf (j := 2) hT8 rfl
      have t3 := cellOf (j := 3) hT8 rfl
      have t4 := cellOf (j := 4) hT8 rfl
      have t5 := cellOf (j := 5) hT8 rfl
      have t6 := cellOf (j := 6) hT8 rfl
      have t7 := cellOf (j := 7) hT8 rfl
      have hbw : Below w.heap.size w wr := HB2.out.trans (HBR.out.mono (by omega))
      have HBW := hide hbw
      have hcall := vt_any U wr (HTb.out wr hbw) ty1 ok_ty1 (fun b => b < wr.heap.size) (.slice pa 5 pc) (HTS2.out.congr (fun b h => by omega) (fun b h => HBR.out.block b (by omega))) (fun _ h => h) u0 rest (by omega) HBS.out
      have HCALL : Hid (Calls Tryd.prog 33 #[tyv 40 3 0 0 0 false 41 (.slice pa 5 pc), u0] wr fun e w' => vtRes wr w' u0 rest e (vtake validB ty1 rest) ∧ Below wr.heap.size wr w') := hcall
      have hck : c - k = (c - k - 1) + 1 := by omega
      rw [hck] at HRD
      obtain ⟨b1, off1, cap1, hu0, _⟩ := HBS.out
      clear hcall hbw hT8
      cases hq : vtake validB ty1 rest with
      | none =>
        rw [hq] at HCALL
        have HNONE : Hid (rdN1 c l = none) := by show _ = _; rw [HRD.out]; simp [rdN1, hq]
        subst hu0
        go_wp2_with fail
        refine HCALL.out.mono ?_
        rintro e w3 ⟨he, hb3⟩
        have he' : e = .returned (.tuple #[vv 0 ⟨#[]⟩ (.slice none 0 0), .slice none 0 0, .bool false]) := he
        subst he'
        have HB3 : Hid (Below w.heap.size w w3) := HBW.out.trans (hb3.mono HBW.out.size)
        clear he hb3 t0 t1 t2 t3 t4 t5 t6 t7
        go_wp2
        exact bodyPost_ret (v := .tuple #[.slice none 0 0, .bool false]) (by simp [results, Tryd.results36, go_sem]) rfl ⟨by rw [HNONE.out]; rfl, HB3.out.alloc HB3.out.size _⟩
      | some vr =>
        obtain ⟨v, rest'⟩ := vr
        have h5 := vtake_five hq
        rw [hq] at HCALL
        have hnext : rdN1 c l = (rdN1 (c - (k + 1)) rest').map fun r => ((ns ++ [nodeOf1 v]) ++ r.1, r.2) := by
          rw [HRD.out, show c - k - 1 = c - (k + 1) by omega]
          simp only [rdN1, hq, Option.map_map]
          congr 1
          funext r
          simp
        have HNEXT := hide hnext
        clear hnext
        subst hu0
        go_wp2_with fail
        refine HCALL.out.mono ?_
        rintro e w3 ⟨⟨lv, rv, rfl, hvl, htl, hov⟩, hb3⟩
        obtain ⟨la, lc, rfl⟩ := hvl.shape
        have H5 := hide h5
        rw [h5] at hvl hov ⊢
        clear h5
        have hbA := below1 w3 (.cells #[.int .i64 v.n, .string v.s, .slice la 5 lc] 31)
        have hND := node_1 (w3.alloc (.cells #[.int .i64 v.n, .string v.s, .slice la 5 lc] 31)) wr.heap.size v.n v.s v _ H5.out (hov.keep (Nat.le_refl _) (fun b _ hlt => Below.heap_alloc _ _ _ hlt)) (by have := hb3.size; have := hbA.size; omega)
        have HND := hide hND
        have hb4 : Below wr.heap.size wr (w3.alloc (.cells #[.int .i64 v.n, .string v.s, .slice la 5 lc] 31)) := hb3.trans (hbA.mono hb3.size)
        have HB4 := hide hb4
        have HTL := hide htl
        obtain ⟨rb, ro, rc, hrv, _⟩ := htl wr HBS.out
        have hrl' : rest'.length ≤ 1000000 := Nat.le_trans (vtake_len1 hq) hrl
        clear hvl hb3 hb4 hbA hND htl hov t0 t1 t2 t3 t4 t5 t6 t7
        subst hrv
        go_wp2_with fail
        refine HND.out.mono ?_
        rintro e w5 ⟨rfl, hb5⟩
        have hb45 : Below wr.heap.size wr w5 := HB4.out.trans hb5
        have HO5 := hide (ownsRow_below HO.out hb45)
        have HB5 := hide hb45
        have hs5 := hb45.size
        obtain ⟨i0, hi0, hz0, hz1, hz2⟩ := info_parts Tryd.info69
        generalize hxx : nodeOf1 v = x at *
        obtain ⟨xp, xd, xt, xm, xch, xv⟩ := x
        simp only
        clear hb45 hb5 HND HB4
        obtain ⟨qa, qc, hqv⟩ : ∃ a c, u10 = .slice a ns.length c := by
          rcases HO.out.2 with ⟨e, h⟩ | ⟨g, cap, cur, e, _⟩
          · exact ⟨none, 0, by rw [e, h]⟩
          · exact ⟨_, _, e⟩
        subst hqv
        go_wp2_with (at_builtin; refine wpList_append_own _ rfl _ _ 44 rfl (G + 1) 69 i0 (ndv ⟨#[]⟩ ⟨#[]⟩ ⟨#[]⟩ 0 0 0) 6 72 Tryd.underlying44 hi0 hz0 hz1 hz2 rfl (by decide) _ _ _ rfl (HO5.out.alloc _) ⟨w5.heap.size, 0, none⟩ 1 1 (ncell ⟨xp, xd, xt, xm, xch, xv⟩) rfl rfl ?hn ?h1 ?c3 ?c4 ?c5 ?_)
        case hn => exact World.news_of_block (heap_alloc_new w5 _)
        case h1 => intro u hu; simp only [ncell, List.mem_cons, List.mem_nil_iff, or_false] at hu; rcases hu with rfl | rfl | rfl | rfl | rfl | rfl <;> rfl
        case c3 => unfold maxLen; omega
        case c4 => omega
        case c5 => simp; omega
        intro v' w6 hown' hgrow _
        have hbg : Below (G + 1) w5 w6 := ((Below.refl (G + 1) w5).alloc (by omega) _).grown hgrow (by simp; omega) (fun j hj => (HO5.out.lt j (by rw [hnk]; exact hj)).1)
        have HB6 : Hid (Below w2.heap.size w2 w6) := by
          show Below _ _ _
          rw [HS2.out]
          exact ((HS2.out ▸ HBR.out : Below (G + 1) w2 wr).trans (HB5.out.mono (by omega))).trans hbg
        have HO6 : Hid (w6.ownsRow (G + 1) 69 6 v' (ns ++ [(⟨xp, xd, xt, xm, xch, xv⟩ : Orch.Node)]).length ((ns ++ [(⟨xp, xd, xt, xm, xch, xv⟩ : Orch.Node)]).flatMap ncell)) := by
          show World.ownsRow _ _ _ _ _ _ _
          rw [List.length_append, List.flatMap_append, hnk]
          simpa using hown'
        have hbw6 : Below w.heap.size w w6 := HB2.out.trans (HB6.out.mono (by have := HB2.out.size; omega))
        have HBS6 : Hid (BsAt w6 (.slice (some ⟨rb, ro, none⟩) rest'.length rc) rest') := (HTL.out w HBS0.out).below hbw6 (Nat.le_refl _)
        have HBS60 := hide (HTL.out w HBS0.out)
        have hl1 : (ns ++ [(⟨xp, xd, xt, xm, xch, xv⟩ : Orch.Node)]).length = k + 1 := by simp [hnk]
        have HLL := hide hl1
        clear hown' hgrow hbg hbw6 hl1
        go_wp2_with fail
        go_roundw
        case rel => exact ⟨k + 1, ns ++ [⟨xp, xd, xt, xm, xch, xv⟩], rest', by omega, by go_num, HLL.out, hrl', HO6, HB6, HBS6, HBS60, by show _ = _; rw [HNEXT.out]⟩
        case measure => first | (simp [intOf]; done) | (simp [intOf]; omega)
    · have hkz : ¬ (k : Int) < (c : Int) := by omega
      obtain rfl : k = c := by omega
      have HEND : Hid (rdN1 k l = some (ns, rest)) := by
        show _ = _
        rw [HRD.out, Nat.sub_self]
        simp [rdN1]
      obtain ⟨b1, off1, cap1, hu0, _⟩ := HBS.out
      subst hu0
      have HBW : Hid (Below w.heap.size w wr) := HB2.out.trans (HBR.out.mono (by omega))
      have HDEC : Hid (((rest.length : Int) == 0) = decide (rest.length = 0)) := by
        show _ = _
        rw [Bool.eq_iff_iff, beq_iff_eq, decide_eq_true_iff]
        omega
      go_wp2
      exact bodyPost_ret (v := .tuple #[u10, .bool (decide (rest.length = 0))]) (by simp [results, Tryd.results36, go_sem, HDEC.out]) rfl ⟨by rw [HEND.out]; exact ⟨u10, rfl, own_mono HO.out (by omega)⟩, HBW.out⟩

end Go.Proofs.YtlghcldiboecoaaDoor
