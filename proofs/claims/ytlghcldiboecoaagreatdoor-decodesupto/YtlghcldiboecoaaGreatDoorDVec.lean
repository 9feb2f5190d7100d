/- The document's answer: the value that bytes may stand for: a vector. -/
import Derived.Test.YtlghcldiboecoaaGreatDoorDPlain
import Derived.Test.YtlghcldiboecoaaGreatDoorDLeaf
set_option linter.unusedVariables false
namespace Go.Proofs.YtlghcldiboecoaaGreatDoor
open Go.RowKit

set_option maxRecDepth 8000 in
set_option maxHeartbeats 3000000 in
theorem guess_91 (w : World) (T P : ByteArray) (hT0 : 3 ≤ T.size) (hT1 : T.size ≤ 64) (hT : T[0] = 91) (hTP : T.extract 1 (T.size - 1) = P) (hP : P.size = T.size - 2) (b off cap : Nat) (l : List UInt8) (hl : l.length ≤ 140737488355328) (hcap : l.length ≤ cap) (hbw : b < w.heap.size) (hby : Bytes w b off l)
    (nI : Int) (hnI : -9223372036854775808 ≤ nI ∧ nI ≤ 9223372036854775807) (HN : Hid (∀ W, Below w.heap.size w W → Calls Tryz.prog 144 #[.slice (some ⟨b, off, none⟩) (min 4 l.length) cap] W fun e w' => e = .returned (.int .i64 nI) ∧ w' = W))
    (F : Nat → List UInt8 → Option (Orch.V × List UInt8)) (hF : ∀ i b e rest, F i b = some (e, rest) → ∃ pre, b = pre ++ rest) (TOT : Option (List Orch.V × List UInt8)) (hTOT : Cor F TOT l nI 4 0 []) (h32 : 32 < nI → TOT = none)
    (HFI : Hid (∀ W, Calls Tryz.prog 175 #[.string P] W fun e w' => e = .returned (.string P) ∧ w' = W))
    (HG : Hid (∀ W bv' l' i, Below w.heap.size w W → l'.length ≤ 140737488355328 → BsAt W bv' l' → Calls Tryz.prog 135 #[.string P, bv'] W fun e w' => GsRes W w' e l' (F i l') ∧ Below W.heap.size W w')) :
    Calls Tryz.prog 135 #[.string T, .slice (some ⟨b, off, none⟩) l.length cap] w fun e w' => GsRes w w' e l (TOT.map Orch.listV) ∧ Below w.heap.size w w' := by
  have HC := hide (fun W => cut_any W b off l.length cap 4 hcap (by omega) (by omega))
  rw [show ((4 : Nat) : Int) = 4 from rfl] at HC
  generalize min 4 l.length = mm at *
  have q0 : ((T[0].toNat : Int) == 63) = false := by rw [hT]; rfl
  have q1 : ((T[0].toNat : Int) == 52) = false := by rw [hT]; rfl
  have q2 : ((T[0].toNat : Int) == 56) = false := by rw [hT]; rfl
  have q3 : ((T[0].toNat : Int) == 98) = false := by rw [hT]; rfl
  have q4 : ((T[0].toNat : Int) == 116) = false := by rw [hT]; rfl
  have q5 : ((T[0].toNat : Int) == 91) = true := by rw [hT]; rfl
  have q6 : ((T[0].toNat : Int) == 40) = false := by rw [hT]; rfl
  have hPe : P.toList.isEmpty = false := by rw [List.isEmpty_eq_false_iff]; exact fun h => by have := (toList_nil P).1 h; omega
  have hm1 : (1 : Int) ≤ ((T.size - 1 : Nat) : Int) := by omega
  have HTOT := hide hTOT
  have H32 := hide h32
  have HFS := hide hF
  have HBY := hide hby
  have HLL := hide hl
  obtain ⟨L, hL⟩ : ∃ L, l.length = L := ⟨_, rfl⟩
  rw [hL] at hcap hl HC ⊢
  have HL := hide hL
  clear hT hTOT h32 hF hby hL
  obtain ⟨n0, n1⟩ := new2 w (.cells #[.int .i64 0, .string ⟨#[]⟩, .slice none 0 0] 113) (.cells #[.int .i64 0, .string ⟨#[]⟩, .slice none 0 0] 113)
  have N0 := hide n0
  have N1 := hide n1
  clear n0 n1
  have hsw : w.heap.size + 2 ≤ ((w.alloc (.cells #[.int .i64 0, .string ⟨#[]⟩, .slice none 0 0] 113)).alloc (.cells #[.int .i64 0, .string ⟨#[]⟩, .slice none 0 0] 113)).heap.size := by simp
  obtain ⟨i0, hi0, hz0, hz1, hz2⟩ := info_parts Tryz.info113
  go_enter Tryz.func135, Tryz.ntmps135
  go_wp2_with (first
    | (go_at_call 180; refine (HC.out _).mono ?_; rintro e w1 ⟨rfl, hw1⟩; have hw2 := hw1.symm; clear hw1; subst hw2)
    | (go_at_call 144; refine (HN.out _ (below1 _ _)).mono ?_; rintro e w1 ⟨rfl, hw1⟩; have hw2 := hw1.symm; clear hw1; subst hw2))
  clear HC HN
  go_loopw [12, 13, 15] (fun a12 n13 i15 wr => ∃ (i at' : Nat) (ps : List (Orch.V × Value)) (lv : Value), a12 = .int .i64 at' ∧ n13 = .string P ∧ i15 = .int .i64 i ∧ i ≤ 33 ∧ at' ≤ L + 204 ∧ ps.length = i ∧ Hid (Cor F TOT l nI at' i (ps.map Prod.fst)) ∧ Hid (∀ p, p ∈ ps → InV p.1) ∧ Hid (Below w.heap.size w wr) ∧ Hid (w.heap.size + 2 ≤ wr.heap.size) ∧
      Hid (wr.heap[w.heap.size]? = some (.cells #[.int .i64 0, .string ⟨#[]⟩, .slice none 0 0] 113)) ∧ Hid (wr.heap[w.heap.size + 1]? = some (.cells #[.int .i64 0, .string ⟨#[]⟩, lv] 113)) ∧
      Hid (wr.ownsRow (w.heap.size + 2) 113 3 lv ps.length (ps.flatMap vcell)) ∧ Hid (∀ p, p ∈ ps → VsAt wr (Beside (w.heap.size + 2) lv wr) p.1.l p.2) ∧ Hid (OwL wr (w.heap.size + 2) lv ps))
    (fun _ _ i _ => 33 - (intOf i).toNat)
  case atStart => exact ⟨0, 4, [], .slice none 0 0, rfl, rfl, rfl, by omega, by omega, rfl, HTOT, (fun p hp => by simp at hp), below2 _ _ _, hsw, N0, N1, World.ownsRow_nil _ _ _ _, (fun p hp => by simp at hp), OwL.nil _ _ _⟩
  case round =>
    obtain ⟨i, at', ps, lv, rfl, rfl, rfl, hi33, hat', hpl, HCO, HIV, HB, HSZ, HH0, HH1, HO, HPS, HOL⟩ := hrel
    obtain ⟨la, lc, hlv⟩ : ∃ a c, lv = .slice a ps.length c := by
      rcases HO.out.2 with ⟨e, h⟩ | ⟨g, cap, cur, e, _⟩
      · exact ⟨none, 0, by rw [e, h]⟩
      · exact ⟨_, _, e⟩
    subst hlv
    have HPL := hide hpl
    have hpl64 : ps.length ≤ 64 := by omega
    clear hpl
    have e0 := cellOf (j := 0) HH1.out rfl
    have e1 := cellOf (j := 1) HH1.out rfl
    have e2 := cellOf (j := 2) HH1.out rfl
    have HEND : Hid (∀ X : World, X.heap.size = wr.heap.size → (∀ b, b ≠ w.heap.size → X.heap[b]? = wr.heap[b]?) → (nI ≤ i ∨ l.length < at' ∨ TOT = none) → GsRes w X (.returned (.tuple #[vv 0 ⟨#[]⟩ (.slice la ps.length lc), .int .i64 at'])) l (TOT.map Orch.listV)) := by
      intro X hsX hkX hwhy
      have hdone := OwL.done HO.out HOL.out
      refine ⟨.mk 0 ⟨#[]⟩ (ps.map Prod.fst), .slice la ps.length lc, at', rfl, OwnV.keep (w := wr) (base := w.heap.size + 2) hdone (by omega) (by rw [hsX]; exact Nat.le_refl _) (fun b hb _ => hkX b (by omega)), ?_, by rw [HL.out]; exact hat', HCO.out.done hwhy⟩
      refine .mk _ _ _ ⟨by omega, by omega⟩ (Nat.zero_le _) (by rw [List.length_map]; omega) (fun e he => ?_)
      obtain ⟨p, hp, rfl⟩ := List.mem_map.1 he
      exact HIV.out p hp
    by_cases hgo : (i : Int) < nI ∧ i ≤ 32 ∧ at' ≤ L
    · obtain ⟨hltz, hi32, hatL⟩ := hgo
      have hi32z : (i : Int) ≤ 32 := by omega
      have hatLz : (at' : Int) ≤ (L : Int) := by omega
      have d1 : decide ((i : Int) < nI) = true := decide_eq_true hltz
      have d2 : decide ((i : Int) ≤ 32) = true := decide_eq_true hi32z
      have d3 : decide ((at' : Int) ≤ (L : Int)) = true := decide_eq_true hatLz
      have HGI : Hid (∀ W, Below w.heap.size w W → Calls Tryz.prog 135 #[.string P, if cap = at' then .slice (some ⟨b, off, none⟩) (L - at') 0 else .slice (some ⟨b, off + at', none⟩) (L - at') (cap - at')] W fun e w' => GsRes W w' e (l.drop at') (F i (l.drop at')) ∧ Below W.heap.size W w') := by
        intro W hbW
        have hbs : BsAt W (.slice (some ⟨b, off, none⟩) l.length cap) l := ⟨b, off, cap, rfl, by rw [HL.out]; exact hcap, Nat.lt_of_lt_of_le hbw hbW.size, fun j hj => (hbW.cell (p := ⟨b, off + j, none⟩) hbw).trans (HBY.out j hj)⟩
        have ht := Tail.cut b off cap l at' (by rw [HL.out]; exact hatL) W hbs
        rw [HL.out] at ht
        exact HG.out W _ _ i hbW (by rw [List.length_drop]; have := HL.out; omega) ht
      have HSTEP : Hid (∀ v used, (∀ v0 rest, F i (l.drop at') = some (v0, rest) → v0 = v ∧ used + rest.length = (l.drop at').length) → Cor F TOT l nI (at' + used) (i + 1) (ps.map Prod.fst ++ [v])) := fun v used hv => HCO.out.step HFS.out hltz hv
      have HDR : Hid ((l.drop at').length = L - at') := by show _ = _; rw [List.length_drop, HL.out]
      clear HCO HEND
      by_cases hca : cap = at'
      · rw [if_pos hca] at HGI
        have hLc : cap = L := by omega
        subst hca
        subst hLc
        rw [Nat.sub_self] at HGI HDR
        go_wp2_with (first
          | (at_builtin; refine wpList_append_lies _ rfl _ _ 22 rfl (w.heap.size + 2) 113 i0 (vv 0 ⟨#[]⟩ (.slice none 0 0)) 3 48 Tryz.underlying22 hi0 hz0 hz1 hz2 rfl (by decide) _ _ _ rfl (((ownsRow_below HO.out HB3.out).alloc _).alloc _) ⟨w2.heap.size + 1, 0, none⟩ 1 1 (vcell (v, .slice va v.l.length vc)) rfl rfl ?hn ?h1 (by decide) ?c3 ?c4 ?c5 (w2.heap.size + 1 + 1) ?hH ?_)
          | (go_at_call 175; refine (HFI.out _).mono ?_; rintro e w1 ⟨rfl, hw1⟩; have hw2 := hw1.symm; clear hw1; subst hw2)
          | (go_at_call 135; refine (HGI.out _ HB.out).mono ?_; rintro e w2 ⟨⟨v, lv', used, rfl, hov, hiv, hus, hco⟩, hb2⟩; obtain ⟨va, vc, rfl⟩ := OwT.shape hov; have HB3 := hide hb2; have HOV := hide hov; have HVS : Hid (VsAt w2 (fun b => wr.heap.size ≤ b ∧ b < w2.heap.size) v.l (.slice va v.l.length vc)) := OwT.vs hov; have HIVV := hide hiv; have HCOV := hide (HSTEP.out v used hco); rw [HDR.out] at hus; have hus2 : used ≤ cap + 204 := (by omega); have hus3 : cap + used ≤ cap + 204 := (by omega); have g2 := cellOf (j := 2) ((hb2.block _ (ltOf HH1.out)).trans HH1.out) rfl; have hw2 : w.heap.size + 1 < w2.heap.size := Nat.lt_of_lt_of_le (ltOf HH1.out) hb2.size; clear hb2 hov hiv hco))
        case hn => exact World.news_of_block (new2 w2 _ _).2
        case h1 => intro u hu; simp only [vcell, List.mem_cons, List.mem_nil_iff, or_false] at hu; rcases hu with rfl | rfl | rfl <;> rfl
        case c3 => unfold maxLen; omega
        case c4 => omega
        case c5 => have := HSZ.out; have := HB3.out.size; simp; omega
        case hH => simp
        intro g cap' w3 hown3 hgr hat _
        obtain ⟨r1, r2, r3⟩ := grow_V (t := v) (x := .slice va v.l.length vc) HSZ.out HO.out HPS.out HB3.out HVS.out (below2 w2 _ _) hown3 hgr (by simpa using hat)
        have r4 := OwL.grow (n := ps.length + 1) (cap := cap') (t := v) (x := .slice va v.l.length vc) HSZ.out (fun g' h' => (HO.out.lt g' h').2) HOL.out HB3.out HOV.out (below2 w2 _ _) hgr (by simpa using hat)
        have k1 : w3.heap[w.heap.size + 1]? = _ := (r3.block _ (by omega)).trans HH1.out
        have k0 : w3.heap[w.heap.size]? = _ := (r3.block _ (by omega)).trans HH0.out
        have d2' := cellOf (j := 2) k1 rfl
        have f2 := frozenOf (j := 2) k1
        have s3 := hide (Nat.le_trans HSZ.out r3.size)
        have q2' := heap_setCell_same w3 (w.heap.size + 1) 2 _ 113 (.slice (some ⟨g, 0, none⟩) (ps.length + 1) cap') k1
        have Q1 : Hid ((w3.setCell ⟨w.heap.size + 1, 2, none⟩ (.slice (some ⟨g, 0, none⟩) (ps.length + 1) cap')).heap[w.heap.size + 1]? = some (.cells #[.int .i64 0, .string ⟨#[]⟩, .slice (some ⟨g, 0, none⟩) (ps.length + 1) cap'] 113)) := q2'
        have Q0 : Hid ((w3.setCell ⟨w.heap.size + 1, 2, none⟩ (.slice (some ⟨g, 0, none⟩) (ps.length + 1) cap')).heap[w.heap.size]? = some (.cells #[.int .i64 0, .string ⟨#[]⟩, .slice none 0 0] 113)) := (heap_setCell_other _ ⟨w.heap.size + 1, 2, none⟩ _ _ (by show w.heap.size ≠ w.heap.size + 1; omega)).trans k0
        have R1 := hide (ownsRow_setCell_below r1 (a := ⟨w.heap.size + 1, 2, none⟩) (by show w.heap.size + 1 < w.heap.size + 2; omega) (.slice (some ⟨g, 0, none⟩) (ps.length + 1) cap'))
        have R2 : Hid (∀ p, p ∈ ps ++ [(v, Value.slice va v.l.length vc)] → VsAt (w3.setCell ⟨w.heap.size + 1, 2, none⟩ (.slice (some ⟨g, 0, none⟩) (ps.length + 1) cap')) (Beside (w.heap.size + 2) (.slice (some ⟨g, 0, none⟩) (ps.length + 1) cap') (w3.setCell ⟨w.heap.size + 1, 2, none⟩ (.slice (some ⟨g, 0, none⟩) (ps.length + 1) cap'))) p.1.l p.2) := fun p hp =>
          (r2 p hp).congr (fun b hb => ⟨hb.1, by have := hb.2.1; simpa [World.setCell] using this, hb.2.2⟩) (fun b hb => heap_setCell_other _ ⟨w.heap.size + 1, 2, none⟩ _ _ (by have := hb.1; show b ≠ w.heap.size + 1; omega))
        have R3 : Hid (Below w.heap.size w (w3.setCell ⟨w.heap.size + 1, 2, none⟩ (.slice (some ⟨g, 0, none⟩) (ps.length + 1) cap'))) := (HB.out.trans (r3.mono (by omega))).setCell (p := ⟨w.heap.size + 1, 2, none⟩) (by show w.heap.size ≤ w.heap.size + 1; omega) _
        have R4 : Hid (w.heap.size + 2 ≤ (w3.setCell ⟨w.heap.size + 1, 2, none⟩ (.slice (some ⟨g, 0, none⟩) (ps.length + 1) cap')).heap.size) := by
          show _ ≤ _
          have := s3.out
          simpa [World.setCell] using this
        have R5 : Hid (OwL (w3.setCell ⟨w.heap.size + 1, 2, none⟩ (.slice (some ⟨g, 0, none⟩) (ps.length + 1) cap')) (w.heap.size + 2) (.slice (some ⟨g, 0, none⟩) (ps.length + 1) cap') (ps ++ [(v, Value.slice va v.l.length vc)])) :=
          r4.keep (by simp [World.setCell]) (fun b hb _ _ => heap_setCell_other _ ⟨w.heap.size + 1, 2, none⟩ _ _ (by show b ≠ w.heap.size + 1; omega))
        have R6 : Hid (∀ p, p ∈ ps ++ [(v, Value.slice va v.l.length vc)] → InV p.1) := fun p hp => by
          rw [List.mem_append] at hp
          rcases hp with hp | hp
          · exact HIV.out p hp
          · rw [List.mem_singleton] at hp; subst hp; exact HIVV.out
        have R7 : Hid (Cor F TOT l nI (cap + used) (i + 1) ((ps ++ [(v, Value.slice va v.l.length vc)]).map Prod.fst)) := by
          show Cor _ _ _ _ _ _ _
          rw [List.map_append]
          exact HCOV.out
        clear r1 r2 r3 r4 k0 k1 q2' hown3 hgr hat e0 e1 e2 g2
        go_wp2
        go_roundw
        case rel => exact ⟨i + 1, cap + used, ps ++ [(v, .slice va v.l.length vc)], .slice (some ⟨g, 0, none⟩) (ps.length + 1) cap', by go_num, rfl, by go_num, by omega, hus3, by rw [List.length_append, List.length_singleton, HPL.out], R7, R6, R3, R4, Q0, Q1, R1, R2, R5⟩
        case measure => simp [intOf]; omega
      · rw [if_neg hca] at HGI
        go_wp2_with (first
          | (at_builtin; refine wpList_append_lies _ rfl _ _ 22 rfl (w.heap.size + 2) 113 i0 (vv 0 ⟨#[]⟩ (.slice none 0 0)) 3 48 Tryz.underlying22 hi0 hz0 hz1 hz2 rfl (by decide) _ _ _ rfl (((ownsRow_below HO.out HB3.out).alloc _).alloc _) ⟨w2.heap.size + 1, 0, none⟩ 1 1 (vcell (v, .slice va v.l.length vc)) rfl rfl ?hn ?h1 (by decide) ?c3 ?c4 ?c5 (w2.heap.size + 1 + 1) ?hH ?_)
          | (go_at_call 175; refine (HFI.out _).mono ?_; rintro e w1 ⟨rfl, hw1⟩; have hw2 := hw1.symm; clear hw1; subst hw2)
          | (go_at_call 135; refine (HGI.out _ HB.out).mono ?_; rintro e w2 ⟨⟨v, lv', used, rfl, hov, hiv, hus, hco⟩, hb2⟩; obtain ⟨va, vc, rfl⟩ := OwT.shape hov; have HB3 := hide hb2; have HOV := hide hov; have HVS : Hid (VsAt w2 (fun b => wr.heap.size ≤ b ∧ b < w2.heap.size) v.l (.slice va v.l.length vc)) := OwT.vs hov; have HIVV := hide hiv; have HCOV := hide (HSTEP.out v used hco); rw [HDR.out] at hus; have hus2 : used ≤ L + 204 := (by omega); have hus3 : at' + used ≤ L + 204 := (by omega); have g2 := cellOf (j := 2) ((hb2.block _ (ltOf HH1.out)).trans HH1.out) rfl; have hw2 : w.heap.size + 1 < w2.heap.size := Nat.lt_of_lt_of_le (ltOf HH1.out) hb2.size; clear hb2 hov hiv hco))
        case hn => exact World.news_of_block (new2 w2 _ _).2
        case h1 => intro u hu; simp only [vcell, List.mem_cons, List.mem_nil_iff, or_false] at hu; rcases hu with rfl | rfl | rfl <;> rfl
        case c3 => unfold maxLen; omega
        case c4 => omega
        case c5 => have := HSZ.out; have := HB3.out.size; simp; omega
        case hH => simp
        intro g cap' w3 hown3 hgr hat _
        obtain ⟨r1, r2, r3⟩ := grow_V (t := v) (x := .slice va v.l.length vc) HSZ.out HO.out HPS.out HB3.out HVS.out (below2 w2 _ _) hown3 hgr (by simpa using hat)
        have r4 := OwL.grow (n := ps.length + 1) (cap := cap') (t := v) (x := .slice va v.l.length vc) HSZ.out (fun g' h' => (HO.out.lt g' h').2) HOL.out HB3.out HOV.out (below2 w2 _ _) hgr (by simpa using hat)
        have k1 : w3.heap[w.heap.size + 1]? = _ := (r3.block _ (by omega)).trans HH1.out
        have k0 : w3.heap[w.heap.size]? = _ := (r3.block _ (by omega)).trans HH0.out
        have d2' := cellOf (j := 2) k1 rfl
        have f2 := frozenOf (j := 2) k1
        have s3 := hide (Nat.le_trans HSZ.out r3.size)
        have q2' := heap_setCell_same w3 (w.heap.size + 1) 2 _ 113 (.slice (some ⟨g, 0, none⟩) (ps.length + 1) cap') k1
        have Q1 : Hid ((w3.setCell ⟨w.heap.size + 1, 2, none⟩ (.slice (some ⟨g, 0, none⟩) (ps.length + 1) cap')).heap[w.heap.size + 1]? = some (.cells #[.int .i64 0, .string ⟨#[]⟩, .slice (some ⟨g, 0, none⟩) (ps.length + 1) cap'] 113)) := q2'
        have Q0 : Hid ((w3.setCell ⟨w.heap.size + 1, 2, none⟩ (.slice (some ⟨g, 0, none⟩) (ps.length + 1) cap')).heap[w.heap.size]? = some (.cells #[.int .i64 0, .string ⟨#[]⟩, .slice none 0 0] 113)) := (heap_setCell_other _ ⟨w.heap.size + 1, 2, none⟩ _ _ (by show w.heap.size ≠ w.heap.size + 1; omega)).trans k0
        have R1 := hide (ownsRow_setCell_below r1 (a := ⟨w.heap.size + 1, 2, none⟩) (by show w.heap.size + 1 < w.heap.size + 2; omega) (.slice (some ⟨g, 0, none⟩) (ps.length + 1) cap'))
        have R2 : Hid (∀ p, p ∈ ps ++ [(v, Value.slice va v.l.length vc)] → VsAt (w3.setCell ⟨w.heap.size + 1, 2, none⟩ (.slice (some ⟨g, 0, none⟩) (ps.length + 1) cap')) (Beside (w.heap.size + 2) (.slice (some ⟨g, 0, none⟩) (ps.length + 1) cap') (w3.setCell ⟨w.heap.size + 1, 2, none⟩ (.slice (some ⟨g, 0, none⟩) (ps.length + 1) cap'))) p.1.l p.2) := fun p hp =>
          (r2 p hp).congr (fun b hb => ⟨hb.1, by have := hb.2.1; simpa [World.setCell] using this, hb.2.2⟩) (fun b hb => heap_setCell_other _ ⟨w.heap.size + 1, 2, none⟩ _ _ (by have := hb.1; show b ≠ w.heap.size + 1; omega))
        have R3 : Hid (Below w.heap.size w (w3.setCell ⟨w.heap.size + 1, 2, none⟩ (.slice (some ⟨g, 0, none⟩) (ps.length + 1) cap'))) := (HB.out.trans (r3.mono (by omega))).setCell (p := ⟨w.heap.size + 1, 2, none⟩) (by show w.heap.size ≤ w.heap.size + 1; omega) _
        have R4 : Hid (w.heap.size + 2 ≤ (w3.setCell ⟨w.heap.size + 1, 2, none⟩ (.slice (some ⟨g, 0, none⟩) (ps.length + 1) cap')).heap.size) := by
          show _ ≤ _
          have := s3.out
          simpa [World.setCell] using this
        have R5 : Hid (OwL (w3.setCell ⟨w.heap.size + 1, 2, none⟩ (.slice (some ⟨g, 0, none⟩) (ps.length + 1) cap')) (w.heap.size + 2) (.slice (some ⟨g, 0, none⟩) (ps.length + 1) cap') (ps ++ [(v, Value.slice va v.l.length vc)])) :=
          r4.keep (by simp [World.setCell]) (fun b hb _ _ => heap_setCell_other _ ⟨w.heap.size + 1, 2, none⟩ _ _ (by show b ≠ w.heap.size + 1; omega))
        have R6 : Hid (∀ p, p ∈ ps ++ [(v, Value.slice va v.l.length vc)] → InV p.1) := fun p hp => by
          rw [List.mem_append] at hp
          rcases hp with hp | hp
          · exact HIV.out p hp
          · rw [List.mem_singleton] at hp; subst hp; exact HIVV.out
        have R7 : Hid (Cor F TOT l nI (at' + used) (i + 1) ((ps ++ [(v, Value.slice va v.l.length vc)]).map Prod.fst)) := by
          show Cor _ _ _ _ _ _ _
          rw [List.map_append]
          exact HCOV.out
        clear r1 r2 r3 r4 k0 k1 q2' hown3 hgr hat e0 e1 e2 g2
        go_wp2
        go_roundw
        case rel => exact ⟨i + 1, at' + used, ps ++ [(v, .slice va v.l.length vc)], .slice (some ⟨g, 0, none⟩) (ps.length + 1) cap', by go_num, rfl, by go_num, by omega, hus3, by rw [List.length_append, List.length_singleton, HPL.out], R7, R6, R3, R4, Q0, Q1, R1, R2, R5⟩
        case measure => simp [intOf]; omega
    · have hwhy : nI ≤ i ∨ l.length < at' ∨ TOT = none := by
        by_cases h1 : (i : Int) < nI
        · by_cases h2 : i ≤ 32
          · exact .inr (.inl (by have := HL.out; omega))
          · exact .inr (.inr (H32.out (by omega)))
        · exact .inl (by omega)
      have HFIN : Hid (∀ X : World, X.heap.size = wr.heap.size → (∀ b, b ≠ w.heap.size → X.heap[b]? = wr.heap[b]?) → GsRes w X (.returned (.tuple #[vv 0 ⟨#[]⟩ (.slice la ps.length lc), .int .i64 at'])) l (TOT.map Orch.listV)) := fun X h1 h2 => HEND.out X h1 h2 hwhy
      clear HCO HEND hwhy
      by_cases h1 : (i : Int) < nI
      · have d1 : decide ((i : Int) < nI) = true := decide_eq_true h1
        by_cases h2 : i ≤ 32
        · have h2z : (i : Int) ≤ 32 := by omega
          have d2 : decide ((i : Int) ≤ 32) = true := decide_eq_true h2z
          have h3z : ¬ (at' : Int) ≤ (L : Int) := by omega
          have d3 : decide ((at' : Int) ≤ (L : Int)) = false := decide_eq_false h3z
          go_wp2_with (refine wpList_store_row rfl 113 _ _ rfl w.heap.size #[.int .i64 0, .string ⟨#[]⟩, .slice la ps.length lc] rfl rfl 113 _ HH0.out Tryz.size113 rfl (one_v _ _ _ _ _) ?_)
          refine bp_gen (fun X => X.heap[w.heap.size]? = some (.cells #[.int .i64 0, .string ⟨#[]⟩, .slice la ps.length lc] 113) ∧ Below w.heap.size w X ∧ X.heap.size = wr.heap.size ∧ ∀ b, b ≠ w.heap.size → X.heap[b]? = wr.heap[b]?) ⟨setRow_heap _ _ _ _ _ _ HH0.out, below_setRow HB.out (Nat.le_refl _) _, by simp, fun b hb => setRow_other _ _ _ _ hb⟩ ?_
          rintro X ⟨HQ, hbX, hsX, hkX⟩
          have c0 := cellOf (j := 0) HQ rfl
          have c1 := cellOf (j := 1) HQ rfl
          have c2 := cellOf (j := 2) HQ rfl
          have HBX := hide hbX
          have HSX := hide hsX
          have HKX := hide hkX
          clear hbX hsX hkX HQ e0 e1 e2
          exact bodyPost_ret (v := .tuple #[vv 0 ⟨#[]⟩ (.slice la ps.length lc), .int .i64 at']) (by simp [results, Tryz.results135, go_sem, c0, c1, c2]) rfl ⟨HFIN.out X HSX.out HKX.out, HBX.out⟩
        · have h2z : ¬ (i : Int) ≤ 32 := by omega
          have d2 : decide ((i : Int) ≤ 32) = false := decide_eq_false h2z
          go_wp2_with (refine wpList_store_row rfl 113 _ _ rfl w.heap.size #[.int .i64 0, .string ⟨#[]⟩, .slice la ps.length lc] rfl rfl 113 _ HH0.out Tryz.size113 rfl (one_v _ _ _ _ _) ?_)
          refine bp_gen (fun X => X.heap[w.heap.size]? = some (.cells #[.int .i64 0, .string ⟨#[]⟩, .slice la ps.length lc] 113) ∧ Below w.heap.size w X ∧ X.heap.size = wr.heap.size ∧ ∀ b, b ≠ w.heap.size → X.heap[b]? = wr.heap[b]?) ⟨setRow_heap _ _ _ _ _ _ HH0.out, below_setRow HB.out (Nat.le_refl _) _, by simp, fun b hb => setRow_other _ _ _ _ hb⟩ ?_
          rintro X ⟨HQ, hbX, hsX, hkX⟩
          have c0 := cellOf (j := 0) HQ rfl
          have c1 := cellOf (j := 1) HQ rfl
          have c2 := cellOf (j := 2) HQ rfl
          have HBX := hide hbX
          have HSX := hide hsX
          have HKX := hide hkX
          clear hbX hsX hkX HQ e0 e1 e2
          exact bodyPost_ret (v := .tuple #[vv 0 ⟨#[]⟩ (.slice la ps.length lc), .int .i64 at']) (by simp [results, Tryz.results135, go_sem, c0, c1, c2]) rfl ⟨HFIN.out X HSX.out HKX.out, HBX.out⟩
      · have d1 : decide ((i : Int) < nI) = false := decide_eq_false h1
        go_wp2_with (refine wpList_store_row rfl 113 _ _ rfl w.heap.size #[.int .i64 0, .string ⟨#[]⟩, .slice la ps.length lc] rfl rfl 113 _ HH0.out Tryz.size113 rfl (one_v _ _ _ _ _) ?_)
        refine bp_gen (fun X => X.heap[w.heap.size]? = some (.cells #[.int .i64 0, .string ⟨#[]⟩, .slice la ps.length lc] 113) ∧ Below w.heap.size w X ∧ X.heap.size = wr.heap.size ∧ ∀ b, b ≠ w.heap.size → X.heap[b]? = wr.heap[b]?) ⟨setRow_heap _ _ _ _ _ _ HH0.out, below_setRow HB.out (Nat.le_refl _) _, by simp, fun b hb => setRow_other _ _ _ _ hb⟩ ?_
        rintro X ⟨HQ, hbX, hsX, hkX⟩
        have c0 := cellOf (j := 0) HQ rfl
        have c1 := cellOf (j := 1) HQ rfl
        have c2 := cellOf (j := 2) HQ rfl
        have HBX := hide hbX
        have HSX := hide hsX
        have HKX := hide hkX
        clear hbX hsX hkX HQ e0 e1 e2
        exact bodyPost_ret (v := .tuple #[vv 0 ⟨#[]⟩ (.slice la ps.length lc), .int .i64 at']) (by simp [results, Tryz.results135, go_sem, c0, c1, c2]) rfl ⟨HFIN.out X HSX.out HKX.out, HBX.out⟩
end Go.Proofs.YtlghcldiboecoaaGreatDoor
