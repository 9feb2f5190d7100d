/- keepBytes, wherever the list's row lies. -/
import Derived.Test.YtlghcldiboecoaaGreatDoorQ02
set_option linter.unusedVariables false
namespace Go.Proofs.YtlghcldiboecoaaGreatDoor
open Go.RowKit

/-- The marks of the n-th list of bytes. -/
def bmark (N i : Nat) : Value := .int .u8 (mark N i).toNat

set_option maxRecDepth 8000 in
set_option maxHeartbeats 4000000 in
/-- keepBytes: the list is marked, appended to three times, and kept: wherever its row lies. -/
theorem keepBytes_wide (w : World) (K o : Nat) (cs : Array Value) (kt : TypeId) (ba : Option Addr) (N bc : Nat) (hkb : w.heap[K]? = some (.cells cs kt)) (hko : cs[o]? = some (.slice ba N bc)) (hk5 : (5 : TypeId) ≠ kt) (hk120 : (120 : TypeId) ≠ kt)
    (B : Nat) (flat : List Value) (hrow : w.ownsRow B 120 5 (.slice ba N bc) N flat) (hB : B ≤ w.heap.size) (lv : Value) (at' : Nat) (xs : List Value) (hat : at' ≤ 1500) (hN : N ≤ 1000000000)
    (hown : w.ownsRow 0 5 1 lv at' xs) :
    Calls Tryz.prog 85 #[.pointer (some ⟨K, o, none⟩), lv] w fun e w' => e = .returned (.tuple #[]) ∧ ∃ ba' bc' l a b c, KgRes w w' K o cs kt 5 120 (bmark N) B ba N bc flat lv ba' bc' l a b c := by
  have hk : w.cell? ⟨K, o, none⟩ = some (.slice ba N bc) := cellOf hkb hko
  have HKB := hid hkb
  have HROW := hid hrow
  have HKO := hid hko
  have HKR : Hid ((Value.slice ba N bc).ownBlock ≠ some K) := fun h => by
    obtain ⟨cs', h'⟩ := own_type hrow h
    rw [hkb] at h'
    cases h'
    exact hk120 rfl
  have HLK : Hid (lv.ownBlock ≠ some K) := fun h => by
    obtain ⟨cs', h'⟩ := own_type hown h
    rw [hkb] at h'
    cases h'
    exact hk5 rfl
  have HLR : Hid (∀ i, (Value.slice ba N bc).ownBlock = some i → lv.ownBlock ≠ some i) := fun i h1 h2 => by
    obtain ⟨c1, t1⟩ := own_type hrow h1
    obtain ⟨c2, t2⟩ := own_type hown h2
    rw [t1] at t2
    cases t2
  clear hkb hrow hko
  obtain ⟨la, lc, rfl⟩ := own_shape hown
  have hxl : xs.length = at' := by have := hown.1; omega
  have HXL := hid hxl
  have HO := hid hown
  have HO0 := HO
  clear hxl hown
  have HM : Hid (∀ (W : World) (i : Nat), i ≤ 2000 → Calls Tryz.prog 114 #[.int .i64 N, .int .i64 i] W fun e w' => e = .returned (.int .u8 (mark N i).toNat) ∧ w' = W) := fun W i hi => markByte_any W N i (by omega) (by omega)
  have HM0 : Hid (∀ W : World, Calls Tryz.prog 114 #[.int .i64 N, .int .i64 at'] W fun e w' => e = .returned (.int .u8 (mark N at').toNat) ∧ w' = W) := fun W => HM.out W at' (by omega)
  have HM1 : Hid (∀ W : World, Calls Tryz.prog 114 #[.int .i64 N, .int .i64 ((at' : Int) + 1)] W fun e w' => e = .returned (.int .u8 (mark N (at' + 1)).toNat) ∧ w' = W) := fun W => HM.out W (at' + 1) (by omega)
  have HM2 : Hid (∀ W : World, Calls Tryz.prog 114 #[.int .i64 N, .int .i64 ((at' : Int) + 2)] W fun e w' => e = .returned (.int .u8 (mark N (at' + 2)).toNat) ∧ w' = W) := fun W => HM.out W (at' + 2) (by omega)
  have HMZ : Hid (∀ (W : World) (x : Int), 0 ≤ x → x ≤ 2000 → Calls Tryz.prog 114 #[.int .i64 N, .int .i64 x] W fun e w' => e = .returned (.int .u8 (mark N x.toNat).toNat) ∧ w' = W) := fun W x h0 h1 => by
    obtain ⟨i, rfl⟩ := Int.eq_ofNat_of_zero_le h0
    exact HM.out W i (by omega)
  have hT0 : ((at' : Int)).toNat = at' := by omega
  have hT1 : ((at' : Int) + 1).toNat = at' + 1 := by omega
  have hT2 : ((at' : Int) + 2).toNat = at' + 2 := by omega
  have HT0 := hid hT0
  have HT1 := hid hT1
  have HT2 := hid hT2
  clear hT0 hT1 hT2 HM0 HM1 HM2
  go_enter Tryz.func85, Tryz.ntmps85
  go_wp2
  go_loopw [6] (fun k wr => ∃ i : Nat, k = .int .i64 i ∧ i ≤ at' ∧ Hid (w.grownBy wr (Value.slice la at' lc).ownBlock) ∧ Hid (wr.ownsRow 0 5 1 (.slice la at' lc) at' (marks N i ++ xs.drop i))) (fun k _ => at' - (intOf k).toNat)
  case atStart => exact ⟨0, rfl, Nat.zero_le _, gr_below (Below.refl _ _), HO⟩
  case round =>
    obtain ⟨i, rfl, hi, HB, HR⟩ := hrel
    by_cases hlt : i < at'
    · have hltz : (i : Int) < (at' : Int) := by omega
      obtain ⟨g, cap, hv, _⟩ := own_bytes' HR.out (by omega)
      cases hv
      have hfr := HR.out.frozenAt i
      obtain ⟨old, hce⟩ : ∃ old, wr.cell? ⟨g, i, none⟩ = some old := by
        have h := HR.out.cellAt i (by omega)
        rw [List.getElem?_append_right (by rw [marks_len]; omega), marks_len, Nat.sub_self, List.getElem?_drop, Nat.add_zero, List.getElem?_eq_getElem (by rw [HXL.out]; exact hlt)] at h
        exact ⟨_, h⟩
      have HMi := hid (HM.out wr i (by omega))
      have HST : Hid ((wr.setCell ⟨g, i, none⟩ (.int .u8 (mark N i).toNat)).ownsRow 0 5 1 (.slice (some ⟨g, 0, none⟩) at' lc) at' (marks N (i + 1) ++ xs.drop (i + 1))) := by
        have h := (HR.out.stored i (.int .u8 (mark N i).toNat)).1
        rw [set_marks (by rw [HXL.out]; exact hlt)] at h
        exact h
      have HBT : Hid (w.grownBy (wr.setCell ⟨g, i, none⟩ (.int .u8 (mark N i).toNat)) (Value.slice (some ⟨g, 0, none⟩) at' lc).ownBlock) := gr_trans HB.out (HR.out.stored i (.int .u8 (mark N i).toNat)).2
      generalize mark N i = mk at *
      go_wp2_with (go_at_call 114; refine HMi.out.mono ?_; rintro e w1 ⟨rfl, hw1⟩; have hw2 := hw1.symm; clear hw1; subst hw2)
      all_goals go_roundw
      all_goals try (case rel => exact ⟨i + 1, by go_num, by omega, HBT, HST⟩)
      all_goals try (case measure => simp [intOf]; omega)
    · have hltz : ¬ (i : Int) < (at' : Int) := by omega
      have hie : i = at' := by omega
      have HOM : Hid (wr.ownsRow 0 5 1 (.slice la at' lc) at' (marks N at')) := by
        have h := HR.out
        rw [hie, List.drop_of_length_le (by rw [HXL.out]; omega), List.append_nil] at h
        exact h
      clear HR
      have HWR : Hid (w.heap.size ≤ wr.heap.size) := HB.out.size
      have KP : Hid (Kg w (wr.alloc (.cells #[.slice la at' lc, .slice none 0 0, .slice none 0 0, .slice none 0 0, .int .i64 N] 120)) 5 120 (bmark N) wr.heap.size at' N (.slice la at' lc) (.slice none 0 0) (.slice none 0 0) (.slice none 0 0)) :=
        ⟨gr_trans HB.out (gr_below (below1 _ _)), heap_alloc_new _ _, HB.out.size, HOM.out.alloc _, .nil, .nil, .nil, fun e => by have := (HOM.out.lt _ e).2; omega, by decide⟩
      have KP2 : Hid (Kg w ((wr.alloc (.cells #[.slice la at' lc, .slice none 0 0, .slice none 0 0, .slice none 0 0, .int .i64 N] 120)).alloc (.cells #[.int .u8 (mark N at').toNat] 5)) 5 120 (bmark N) wr.heap.size at' N (.slice la at' lc) (.slice none 0 0) (.slice none 0 0) (.slice none 0 0)) := KP.out.after (below1 _ _)
      have HNA : Hid (((wr.alloc (.cells #[.slice la at' lc, .slice none 0 0, .slice none 0 0, .slice none 0 0, .int .i64 N] 120)).alloc (.cells #[.int .u8 (mark N at').toNat] 5)).heap[wr.heap.size + 1]? = some (.cells #[.int .u8 (mark N at').toNat] 5)) := by
        have h := heap_alloc_new (wr.alloc (.cells #[.slice la at' lc, .slice none 0 0, .slice none 0 0, .slice none 0 0, .int .i64 N] 120)) (.cells #[.int .u8 (mark N at').toNat] 5)
        rw [show (wr.alloc (.cells #[.slice la at' lc, .slice none 0 0, .slice none 0 0, .slice none 0 0, .int .i64 N] 120)).heap.size = wr.heap.size + 1 by simp] at h
        exact h
      obtain ⟨i0, hi0, hz0, hz1, hz2⟩ := info_parts Tryz.info5
      go_wp2_with (first
        | (at_builtin; refine wpList_append_keep _ rfl _ _ 57 rfl 0 5 i0 (.int .u8 0) 1 1 Tryz.underlying57 hi0 hz0 hz1 hz2 rfl (by decide) _ at' (marks N at') rfl KP2.out.row ⟨wr.heap.size + 1, 0, none⟩ 1 1 (more N at' 1) rfl (by simp) ?hnews (by simp [Value.oneCell']) (by omega) (by unfold maxLen; omega) (by omega) (Nat.zero_le _) ?_)
        | (go_at_call 114; refine (HM.out _ at' (by omega)).mono ?_; rintro e w1 ⟨rfl, hw1⟩; have hw2 := hw1.symm; clear hw1; subst hw2))
      case hnews =>
        intro j u hj
        cases j with
        | zero =>
          simp at hj
          subst hj
          exact cellOf (j := 0) HNA.out rfl
        | succ j => simp at hj
      intro V1 w2 hr1
      obtain ⟨kp1, mk1⟩ := KP2.out.append hr1 (by omega) (fun _ _ _ h => by cases h; omega) (fun _ _ _ h => by cases h; omega) (fun _ _ _ h => by cases h; omega)
      obtain ⟨va1, n1, vc1, hv1⟩ : ∃ a n c, V1 = .slice a n c := by obtain ⟨a, c, h⟩ := own_shape hr1.1; exact ⟨a, _, c, h⟩
      subst hv1
      have KP3 := hid kp1
      have MK1 := hid mk1
      clear hr1 kp1 mk1 KP KP2 HNA HOM HO HXL HB hie hlt
      have q1 := cellOf (j := 1) KP3.out.blk rfl
      have z1 := frozen_of_row w2 wr.heap.size 1 _ 120 KP3.out.blk
      have KS1 : Hid (Kg w (w2.setCell ⟨wr.heap.size, 1, none⟩ (.slice va1 n1 vc1)) 5 120 (bmark N) wr.heap.size at' N (.slice la at' lc) (.slice va1 n1 vc1) (.slice none 0 0) (.slice none 0 0)) := KP3.out.store1 MK1.out
      clear KP3
      have KT1 : Hid (Kg w ((w2.setCell ⟨wr.heap.size, 1, none⟩ (.slice va1 n1 vc1)).alloc (.cells #[.int .u8 (mark N (at' : Int).toNat).toNat, .int .u8 (mark N ((at' : Int) + 1).toNat).toNat] 5)) 5 120 (bmark N) wr.heap.size at' N (.slice la at' lc) (.slice va1 n1 vc1) (.slice none 0 0) (.slice none 0 0)) := KS1.out.after (below1 _ _)
      have HN1 : Hid (((w2.setCell ⟨wr.heap.size, 1, none⟩ (.slice va1 n1 vc1)).alloc (.cells #[.int .u8 (mark N (at' : Int).toNat).toNat, .int .u8 (mark N ((at' : Int) + 1).toNat).toNat] 5)).heap[w2.heap.size]? = some (.cells #[.int .u8 (mark N (at' : Int).toNat).toNat, .int .u8 (mark N ((at' : Int) + 1).toNat).toNat] 5)) := by
        have h := heap_alloc_new (w2.setCell ⟨wr.heap.size, 1, none⟩ (.slice va1 n1 vc1)) (.cells #[.int .u8 (mark N (at' : Int).toNat).toNat, .int .u8 (mark N ((at' : Int) + 1).toNat).toNat] 5)
        rw [show (w2.setCell ⟨wr.heap.size, 1, none⟩ (.slice va1 n1 vc1)).heap.size = w2.heap.size by simp] at h
        exact h
      go_wp2_with (first
        | (at_builtin; refine wpList_append_keep _ rfl _ _ 57 rfl 0 5 i0 (.int .u8 0) 1 1 Tryz.underlying57 hi0 hz0 hz1 hz2 rfl (by decide) _ at' (marks N at') rfl KT1.out.row ⟨w2.heap.size, 0, none⟩ 2 2 (more N at' 2) rfl (by simp) ?hnews (more_one N at' 2) (by omega) (by unfold maxLen; omega) (by omega) (Nat.zero_le _) ?_)
        | (go_at_call 114; refine (HMZ.out _ _ (by omega) (by omega)).mono ?_; rintro e w1 ⟨rfl, hw1⟩; have hw2 := hw1.symm; clear hw1; subst hw2))
      case hnews =>
        intro j u hj
        have hj1 : j < 2 := by have := (List.getElem?_eq_some_iff.1 hj).1; simpa using this
        obtain rfl | rfl : j = 0 ∨ j = 1 := by omega
        · cases hj
          have h := cellOf (j := 0) HN1.out rfl
          rw [HT0.out] at h
          exact h
        · cases hj
          have h := cellOf (j := 1) HN1.out rfl
          rw [HT1.out] at h
          exact h
      intro V2 w3 hr2
      obtain ⟨kp2, mk2⟩ := KT1.out.append hr2 (by omega) (fun x y z h => Nat.le_trans (MK1.out.2 x y z h) (by omega)) (fun _ _ _ h => by cases h; omega) (fun _ _ _ h => by cases h; omega)
      obtain ⟨va2, n2, vc2, hv2⟩ : ∃ a n c, V2 = .slice a n c := by obtain ⟨a, c, h⟩ := own_shape hr2.1; exact ⟨a, _, c, h⟩
      subst hv2
      have KP4 := hid kp2
      have MK2 := hid mk2
      clear hr2 kp2 mk2 q1 z1 KS1 KT1 HN1
      have q2 := cellOf (j := 2) KP4.out.blk rfl
      have z2 := frozen_of_row w3 wr.heap.size 2 _ 120 KP4.out.blk
      have KS2 : Hid (Kg w (w3.setCell ⟨wr.heap.size, 2, none⟩ (.slice va2 n2 vc2)) 5 120 (bmark N) wr.heap.size at' N (.slice la at' lc) (.slice va1 n1 vc1) (.slice va2 n2 vc2) (.slice none 0 0)) := KP4.out.store2 MK2.out
      clear KP4
      have KT2 : Hid (Kg w ((w3.setCell ⟨wr.heap.size, 2, none⟩ (.slice va2 n2 vc2)).alloc (.cells #[.int .u8 (mark N (at' : Int).toNat).toNat, .int .u8 (mark N ((at' : Int) + 1).toNat).toNat, .int .u8 (mark N ((at' : Int) + 2).toNat).toNat] 5)) 5 120 (bmark N) wr.heap.size at' N (.slice la at' lc) (.slice va1 n1 vc1) (.slice va2 n2 vc2) (.slice none 0 0)) := KS2.out.after (below1 _ _)
      have HN2 : Hid (((w3.setCell ⟨wr.heap.size, 2, none⟩ (.slice va2 n2 vc2)).alloc (.cells #[.int .u8 (mark N (at' : Int).toNat).toNat, .int .u8 (mark N ((at' : Int) + 1).toNat).toNat, .int .u8 (mark N ((at' : Int) + 2).toNat).toNat] 5)).heap[w3.heap.size]? = some (.cells #[.int .u8 (mark N (at' : Int).toNat).toNat, .int .u8 (mark N ((at' : Int) + 1).toNat).toNat, .int .u8 (mark N ((at' : Int) + 2).toNat).toNat] 5)) := by
        have h := heap_alloc_new (w3.setCell ⟨wr.heap.size, 2, none⟩ (.slice va2 n2 vc2)) (.cells #[.int .u8 (mark N (at' : Int).toNat).toNat, .int .u8 (mark N ((at' : Int) + 1).toNat).toNat, .int .u8 (mark N ((at' : Int) + 2).toNat).toNat] 5)
        rw [show (w3.setCell ⟨wr.heap.size, 2, none⟩ (.slice va2 n2 vc2)).heap.size = w3.heap.size by simp] at h
        exact h
      go_wp2_with (first
        | (at_builtin; refine wpList_append_keep _ rfl _ _ 57 rfl 0 5 i0 (.int .u8 0) 1 1 Tryz.underlying57 hi0 hz0 hz1 hz2 rfl (by decide) _ at' (marks N at') rfl KT2.out.row ⟨w3.heap.size, 0, none⟩ 3 3 (more N at' 3) rfl (by simp) ?hnews (more_one N at' 3) (by omega) (by unfold maxLen; omega) (by omega) (Nat.zero_le _) ?_)
        | (go_at_call 114; refine (HMZ.out _ _ (by omega) (by omega)).mono ?_; rintro e w1 ⟨rfl, hw1⟩; have hw2 := hw1.symm; clear hw1; subst hw2))
      case hnews =>
        intro j u hj
        have hj1 : j < 3 := by have := (List.getElem?_eq_some_iff.1 hj).1; simpa using this
        obtain rfl | rfl | rfl : j = 0 ∨ j = 1 ∨ j = 2 := by omega
        · cases hj
          have h := cellOf (j := 0) HN2.out rfl
          rw [HT0.out] at h
          exact h
        · cases hj
          have h := cellOf (j := 1) HN2.out rfl
          rw [HT1.out] at h
          exact h
        · cases hj
          have h := cellOf (j := 2) HN2.out rfl
          rw [HT2.out] at h
          exact h
      intro V3 w4 hr3
      obtain ⟨kp3, mk3⟩ := KT2.out.append hr3 (by omega) (fun x y z h => Nat.le_trans (MK1.out.2 x y z h) (by omega)) (fun x y z h => Nat.le_trans (MK2.out.2 x y z h) (by omega)) (fun _ _ _ h => by cases h; omega)
      obtain ⟨va3, n3, vc3, hv3⟩ : ∃ a n c, V3 = .slice a n c := by obtain ⟨a, c, h⟩ := own_shape hr3.1; exact ⟨a, _, c, h⟩
      subst hv3
      have KP5 := hid kp3
      have MK3 := hid mk3
      clear hr3 kp3 mk3 q2 z2 KS2 KT2 HN2
      have q3 := cellOf (j := 3) KP5.out.blk rfl
      have z3 := frozen_of_row w4 wr.heap.size 3 _ 120 KP5.out.blk
      have KS3 : Hid (Kg w (w4.setCell ⟨wr.heap.size, 3, none⟩ (.slice va3 n3 vc3)) 5 120 (bmark N) wr.heap.size at' N (.slice la at' lc) (.slice va1 n1 vc1) (.slice va2 n2 vc2) (.slice va3 n3 vc3)) := KP5.out.store3 MK3.out
      clear KP5
      go_wp2
      clear q3 z3
      refine wp_gen (fun W => Kg w W 5 120 (bmark N) wr.heap.size at' N (.slice la at' lc) (.slice va1 n1 vc1) (.slice va2 n2 vc2) (.slice va3 n3 vc3)) KS3.out ?_
      intro W0 k0
      clear KS3
      have KS := hid k0
      clear k0
      have HKB0 : Hid (W0.heap[K]? = some (.cells cs kt)) := (KS.out.low.block K (ltOf HKB.out) (fun h => HLK.out h.symm)).trans HKB.out
      have hkc := cellOf HKB0.out HKO.out
      have X0 := cellOf (j := 0) KS.out.blk rfl
      have X1 := cellOf (j := 1) KS.out.blk rfl
      have X2 := cellOf (j := 2) KS.out.blk rfl
      have X3 := cellOf (j := 3) KS.out.blk rfl
      have X4 := cellOf (j := 4) KS.out.blk rfl
      clear hk
      clear HMZ HM HT0 HT1 HT2
      have HNEWB := hid (heap_alloc_new W0 (.cells #[.slice la at' lc, .slice va1 n1 vc1, .slice va2 n2 vc2, .slice va3 n3 vc3, .int .i64 N] 120))
      have HROW0 := hid ((HROW.out.kept KS.out.low (by
        cases hq : (Value.slice ba N bc).ownBlock with
        | none => exact .inl rfl
        | some g => exact .inr (fun e => HLR.out g hq e.symm))).alloc (.cells #[.slice la at' lc, .slice va1 n1 vc1, .slice va2 n2 vc2, .slice va3 n3 vc3, .int .i64 N] 120))
      have HKP0 := hid (KS.out.after (below1 W0 (.cells #[.slice la at' lc, .slice va1 n1 vc1, .slice va2 n2 vc2, .slice va3 n3 vc3, .int .i64 N] 120)))
      have HKW : Hid ((W0.alloc (.cells #[.slice la at' lc, .slice va1 n1 vc1, .slice va2 n2 vc2, .slice va3 n3 vc3, .int .i64 N] 120)).heap[K]? = some (.cells cs kt)) := (HKP0.out.low.block K (ltOf HKB.out) (fun h => HLK.out h.symm)).trans HKB.out
      have hkc2 := cellOf HKW.out HKO.out
      obtain ⟨j0, hj0, hy0, hy1, hy2⟩ := info_parts Tryz.info120
      go_region_law (refine step_append_lies _ rfl (.tmp 66) (.tmp 68) 66 rfl B 120 j0 _ 5 104 Tryz.underlying66 hj0 hy0 hy1 hy2 rfl (by decide) (.slice ba N bc) N flat (by simp [Act.eval]) HROW0.out.drew ⟨W0.heap.size, 0, none⟩ 1 1 _ (by simp [Act.eval]) (by rfl) (World.news_of_block HNEWB.out) (by intro u hu; simp at hu; rcases hu with rfl | rfl | rfl | rfl | rfl <;> rfl) (by omega) (by unfold maxLen; omega) (by omega) (by show B ≤ _; exact Nat.le_trans hB HKP0.out.low.size) _ rfl ?_; intro g cap w5 hown5 hgrow hat5 hlt5; have HK5 := hid ((hgrow.block K (by show K < _; exact ltOf HKW.out) (fun e => HKR.out e.symm)).trans HKW.out); have k5 := cellOf HK5.out HKO.out; have z5 := frozen_of_row w5 K o _ _ HK5.out; have HOWN5 := hid hown5; have HGR5 := hid hgrow; have HAT5 := hid hat5; clear hown5 hgrow hat5)
      all_goals go_end0
      all_goals exact ⟨rfl, _, _, _, _, _, _, kg_end HKP0.out (by omega) HKB.out hk5 hk120 HROW.out HOWN5.out HGR5.out HAT5.out ⟨_, HO0.out⟩⟩

end Go.Proofs.YtlghcldiboecoaaGreatDoor
