/- keepBodies: the bodies are kept, then the list is marked, appended to three times, and kept. -/
import Derived.Test.YtlghcldiboecoaaGreatDoorPKb
set_option linter.unusedVariables false
namespace Go.Proofs.YtlghcldiboecoaaGreatDoor
open Go.RowKit

theorem Tryz.info124 : (Tryz.prog.info? 124).map (fun i => (i.zero, i.size, i.bytes)) = some (some (.agg #[.slice none 0 0, .slice none 0 0, .slice none 0 0, .slice none 0 0, .int .i64 0]), 5, 104) := by kernel_rfl
theorem Tryz.info57 : (Tryz.prog.info? 57).map (fun i => (i.zero, i.size, i.bytes)) = some (some (.slice none 0 0), 1, 24) := by kernel_rfl

/-- The mark of the M-th list of bodies: a body of M + 1 bytes, at MB. -/
def dmark (MB M : Nat) (_ : Nat) : Value := .slice (some ⟨MB, 0, none⟩) (M + 1) (M + 1)

/-- What stands when the bodies are kept. -/
structure Kb (W : World) (WB B : Nat) (cs : Array Value) (M : Nat) (da : Option Addr) (dc : Nat) (flad : List Value) (lv : Value) (k : Nat) (xs : List Value) : Prop where
  blk : W.heap[WB]? = some (.cells cs 73)
  at5 : cs[5]? = some (.slice da M dc)
  row : W.ownsRow B 124 5 (.slice da M dc) M flad
  le : B ≤ W.heap.size
  hM : M ≤ 1000000000
  lst : W.ownsRow 0 57 1 lv k xs

theorem mfm_one (MB M k m : Nat) : ∀ u, u ∈ mfm (dmark MB M) k m → u.oneCell' = true := by
  intro u hu
  obtain ⟨x, _, rfl⟩ := List.mem_map.1 hu
  rfl

set_option maxRecDepth 8000 in
set_option maxHeartbeats 4000000 in
theorem kbd_walk (w : World) (WB B k : Nat) (hk : k ≤ 2000000) (la : Option Addr) (lc : Nat) (I : Nat → World → Prop) (hI0 : I 0 w) (xv : Nat → Value)
    (HS : Hid (∀ i W, i < k → I i W → ∃ g xa xm xc, la = some ⟨g, 0, none⟩ ∧ k ≤ lc ∧ xv i = .slice xa xm xc ∧ W.cell? ⟨g, i, none⟩ = some (xv i) ∧ Calls Tryz.prog 85 #[.pointer (some ⟨WB, 4, none⟩), xv i] W fun e w' => e = .returned (.tuple #[]) ∧ I (i + 1) w'))
    (Z : World → Array Value → Nat → Option Addr → Nat → List Value → Prop) (HT : Hid (∀ W, I k W → ∃ cs M da dc flad xs, Kb W WB B cs M da dc flad (.slice la k lc) k xs ∧ Z W cs M da dc flad)) :
    Calls Tryz.prog 100 #[.pointer (some ⟨WB, 4, none⟩), .slice la k lc] w fun e w' => e = .returned (.tuple #[]) ∧ ∃ W cs M da dc flad MB da' dc' l a b c, Z W cs M da dc flad ∧ KgRes W w' WB 5 cs 73 57 124 (dmark MB M) B da M dc flad (.slice la k lc) da' dc' l a b c := by
  have HI0 := hid hI0
  clear hI0
  go_enter Tryz.func100, Tryz.ntmps100
  go_wp2
  go_loopw [4] (fun u wr => ∃ i : Nat, u = .int .i64 i ∧ i ≤ k ∧ Hid (I i wr)) (fun u _ => k - (intOf u).toNat)
  case atStart => exact ⟨0, rfl, Nat.zero_le _, HI0⟩
  case round =>
    obtain ⟨i, rfl, hi, HI⟩ := hrel
    by_cases hlt : i < k
    · have hltz : (i : Int) < (k : Int) := by omega
      obtain ⟨g, xa, xm, xc, hla, hlc, hxv, hc, hcall⟩ := HS.out i wr hlt HI.out
      subst hla
      rw [hxv] at hc hcall
      have HCALL := hid hcall
      clear hcall hxv
      have a1 : (⟨g, 0, none⟩ : Addr).add i = ⟨g, i, none⟩ := by cases i <;> simp [Addr.add]
      go_wp2_with (go_at_call 85; refine HCALL.out.mono ?_; rintro e w1 ⟨rfl, hi1⟩; have HI1 := hid hi1; clear hi1)
      all_goals go_roundw
      all_goals try (case rel => exact ⟨i + 1, by go_num, by omega, HI1⟩)
      all_goals try (case measure => simp [intOf]; omega)
    · have hltz : ¬ (i : Int) < (k : Int) := by omega
      have hie : i = k := by omega
      subst hie
      obtain ⟨cs, M, da, dc, flad, xs, hks, hz⟩ := HT.out wr HI.out
      have HKS := hid hks
      have HZ := hid hz
      clear hks hz HT HS HI HI0 hlt
      have hM := HKS.out.hM
      have hn5 : wr.cell? ⟨WB, 5, none⟩ = some (.slice da M dc) := cellOf HKS.out.blk HKS.out.at5
      have hxl : xs.length = i := by have := HKS.out.lst.1; omega
      have HXL := hid hxl
      clear hxl
      obtain ⟨i5, hi5, hz50, hz51, hz52⟩ := info_parts Tryz.info5
      have hmk := run_make (P := Tryz.prog) wr 57 5 i5 _ Tryz.underlying57 hi5 hz50 .i64 .i64 ((M : Int) + 1) ((M : Int) + 1) (by omega) (by omega) (by rw [hz52]; omega) (by omega)
      rw [show ((M : Int) + 1).toNat = M + 1 by omega, hz51, Nat.mul_one] at hmk
      clear hz50 hz51 hz52
      go_wp2
      clear hmk hn5
      generalize wr = W0 at *
      have HG1 : Hid (W0.grownBy (W0.alloc (.cells (madeCells #[Value.int .u8 0] (M + 1)) 5)) (Value.slice la i lc).ownBlock) := gr_below (below1 _ _)
      have HR1 : Hid ((W0.alloc (.cells (madeCells #[Value.int .u8 0] (M + 1)) 5)).ownsRow 0 57 1 (.slice la i lc) i xs) := HKS.out.lst.alloc _
      generalize W0.alloc (.cells (madeCells #[Value.int .u8 0] (M + 1)) 5) = W1 at *
      generalize hMB : W0.heap.size = MB at *
      have HMB := hid hMB
      clear hMB
      go_loopw [7] (fun u W' => ∃ j : Nat, u = .int .i64 j ∧ j ≤ i ∧ Hid (W0.grownBy W' (Value.slice la i lc).ownBlock) ∧ Hid (W'.ownsRow 0 57 1 (.slice la i lc) i (mfs (dmark MB M) j ++ xs.drop j))) (fun u _ => i - (intOf u).toNat)
      case atStart => exact ⟨0, rfl, Nat.zero_le _, HG1, HR1⟩
      case round =>
        obtain ⟨j, rfl, hj, HG, HR⟩ := hrel
        by_cases hlt : j < i
        · have hltz : (j : Int) < (i : Int) := by omega
          obtain ⟨g, hla⟩ : ∃ g, la = some ⟨g, 0, none⟩ := by
            rcases HR.out.2 with ⟨e, h0⟩ | ⟨g, cap, cur, e, _⟩
            · omega
            · cases e; exact ⟨g, rfl⟩
          subst hla
          have hlc : i ≤ lc := by
            rcases HR.out.2 with ⟨e, h0⟩ | ⟨g, cap, cur, e, _, _, hc, _⟩
            · omega
            · cases e; exact hc
          have hlen : (mfs (dmark MB M) j ++ xs.drop j).length = i := by have := HR.out.1; omega
          have R1 := HR.out.stored j (.slice (some ⟨MB, 0, none⟩) (M + 1) (M + 1))
          have z0 := HR.out.frozenAt j
          obtain ⟨o0, k0⟩ : ∃ o, wr.cell? ⟨g, j, none⟩ = some o := ⟨_, (HR.out.cellAt j (by omega)).trans (List.getElem?_eq_getElem (by omega))⟩
          have HR' : Hid ((wr.setCell ⟨g, j, none⟩ (.slice (some ⟨MB, 0, none⟩) (M + 1) (M + 1))).ownsRow 0 57 1 (.slice (some ⟨g, 0, none⟩) i lc) i (mfs (dmark MB M) (j + 1) ++ xs.drop (j + 1))) := by
            show World.ownsRow _ _ _ _ _ _ _
            rw [← set_mfs (by rw [HXL.out]; omega)]
            exact R1.1
          have HG' : Hid (W0.grownBy (wr.setCell ⟨g, j, none⟩ (.slice (some ⟨MB, 0, none⟩) (M + 1) (M + 1))) (Value.slice (some ⟨g, 0, none⟩) i lc).ownBlock) := gr_trans HG.out R1.2
          have a1 : (⟨g, 0, none⟩ : Addr).add j = ⟨g, j, none⟩ := by cases j <;> simp [Addr.add]
          clear R1 hlen
          go_wp2
          all_goals go_roundw
          all_goals try (case rel => exact ⟨j + 1, by go_num, by omega, HG', HR'⟩)
          all_goals try (case measure => simp [intOf]; omega)
        · have hltz : ¬ (j : Int) < (i : Int) := by omega
          have hje : j = i := by omega
          have HOM : Hid (wr.ownsRow 0 57 1 (.slice la i lc) i (mfs (dmark MB M) i)) := by
            have h := HR.out
            rw [hje, List.drop_of_length_le (by rw [HXL.out]; omega), List.append_nil] at h
            exact h
          clear HR hlt hje hj
          have hB0 : B ≤ W0.heap.size := HKS.out.le
          have KP : Hid (Kg W0 (wr.alloc (.cells #[.slice la i lc, .slice none 0 0, .slice none 0 0, .slice none 0 0, .int .i64 M] 124)) 57 124 (dmark MB M) wr.heap.size i M (.slice la i lc) (.slice none 0 0) (.slice none 0 0) (.slice none 0 0)) :=
            ⟨gr_trans HG.out (gr_below (below1 _ _)), heap_alloc_new _ _, HG.out.size, HOM.out.alloc _, .nil, .nil, .nil, fun e => by have := (HOM.out.lt _ e).2; omega, by decide⟩
          clear HOM HG
          have KP2 : Hid (Kg W0 ((wr.alloc (.cells #[.slice la i lc, .slice none 0 0, .slice none 0 0, .slice none 0 0, .int .i64 M] 124)).alloc (.cells #[.slice (some ⟨MB, 0, none⟩) (M + 1) (M + 1)] 57)) 57 124 (dmark MB M) wr.heap.size i M (.slice la i lc) (.slice none 0 0) (.slice none 0 0) (.slice none 0 0)) := KP.out.after (below1 _ _)
          have HNA : Hid (((wr.alloc (.cells #[.slice la i lc, .slice none 0 0, .slice none 0 0, .slice none 0 0, .int .i64 M] 124)).alloc (.cells #[.slice (some ⟨MB, 0, none⟩) (M + 1) (M + 1)] 57)).heap[wr.heap.size + 1]? = some (.cells #[.slice (some ⟨MB, 0, none⟩) (M + 1) (M + 1)] 57)) := by
            have h := heap_alloc_new (wr.alloc (.cells #[.slice la i lc, .slice none 0 0, .slice none 0 0, .slice none 0 0, .int .i64 M] 124)) (.cells #[.slice (some ⟨MB, 0, none⟩) (M + 1) (M + 1)] 57)
            rw [show (wr.alloc (.cells #[.slice la i lc, .slice none 0 0, .slice none 0 0, .slice none 0 0, .int .i64 M] 124)).heap.size = wr.heap.size + 1 by simp] at h
            exact h
          obtain ⟨i0, hi0, hz0, hz1, hz2⟩ := info_parts Tryz.info57
          go_wp2_with (at_builtin; refine wpList_append_keep _ rfl _ _ 122 rfl 0 57 i0 (.slice none 0 0) 1 24 Tryz.underlying122 hi0 hz0 hz1 hz2 rfl (by decide) _ i (mfs (dmark MB M) i) rfl KP2.out.row ⟨wr.heap.size + 1, 0, none⟩ 1 1 (mfm (dmark MB M) i 1) rfl (by simp) (World.news_of_block HNA.out) (mfm_one MB M i 1) (by omega) (by unfold maxLen; omega) (by omega) (Nat.zero_le _) ?_)
          intro V1 w2 hr1
          obtain ⟨kp1, mk1⟩ := KP2.out.append hr1 (by omega) (fun _ _ _ h => by cases h; omega) (fun _ _ _ h => by cases h; omega) (fun _ _ _ h => by cases h; omega)
          obtain ⟨va1, n1, vc1, hv1⟩ : ∃ a n c, V1 = .slice a n c := by obtain ⟨a, c, h⟩ := own_shapeZ hr1.1; exact ⟨a, _, c, h⟩
          subst hv1
          have KP3 := hid kp1
          have MK1 := hid mk1
          clear hr1 kp1 mk1 KP KP2 HNA
          have q1 := cellOf (j := 1) KP3.out.blk rfl
          have z1 := frozen_of_row w2 wr.heap.size 1 _ 124 KP3.out.blk
          have KS1 : Hid (Kg W0 (w2.setCell ⟨wr.heap.size, 1, none⟩ (.slice va1 n1 vc1)) 57 124 (dmark MB M) wr.heap.size i M (.slice la i lc) (.slice va1 n1 vc1) (.slice none 0 0) (.slice none 0 0)) := KP3.out.store1 MK1.out
          clear KP3
          have KT1 : Hid (Kg W0 ((w2.setCell ⟨wr.heap.size, 1, none⟩ (.slice va1 n1 vc1)).alloc (.cells #[.slice (some ⟨MB, 0, none⟩) (M + 1) (M + 1), .slice (some ⟨MB, 0, none⟩) (M + 1) (M + 1)] 57)) 57 124 (dmark MB M) wr.heap.size i M (.slice la i lc) (.slice va1 n1 vc1) (.slice none 0 0) (.slice none 0 0)) := KS1.out.after (below1 _ _)
          have HN1 : Hid (((w2.setCell ⟨wr.heap.size, 1, none⟩ (.slice va1 n1 vc1)).alloc (.cells #[.slice (some ⟨MB, 0, none⟩) (M + 1) (M + 1), .slice (some ⟨MB, 0, none⟩) (M + 1) (M + 1)] 57)).heap[w2.heap.size]? = some (.cells #[.slice (some ⟨MB, 0, none⟩) (M + 1) (M + 1), .slice (some ⟨MB, 0, none⟩) (M + 1) (M + 1)] 57)) := by
            have h := heap_alloc_new (w2.setCell ⟨wr.heap.size, 1, none⟩ (.slice va1 n1 vc1)) (.cells #[.slice (some ⟨MB, 0, none⟩) (M + 1) (M + 1), .slice (some ⟨MB, 0, none⟩) (M + 1) (M + 1)] 57)
            rw [show (w2.setCell ⟨wr.heap.size, 1, none⟩ (.slice va1 n1 vc1)).heap.size = w2.heap.size by simp] at h
            exact h
          go_wp2_with (at_builtin; refine wpList_append_keep _ rfl _ _ 122 rfl 0 57 i0 (.slice none 0 0) 1 24 Tryz.underlying122 hi0 hz0 hz1 hz2 rfl (by decide) _ i (mfs (dmark MB M) i) rfl KT1.out.row ⟨w2.heap.size, 0, none⟩ 2 2 (mfm (dmark MB M) i 2) rfl (by simp) (World.news_of_block HN1.out) (mfm_one MB M i 2) (by omega) (by unfold maxLen; omega) (by omega) (Nat.zero_le _) ?_)
          intro V2 w3 hr2
          obtain ⟨kp2, mk2⟩ := KT1.out.append hr2 (by omega) (fun x y z h => Nat.le_trans (MK1.out.2 x y z h) (by omega)) (fun _ _ _ h => by cases h; omega) (fun _ _ _ h => by cases h; omega)
          obtain ⟨va2, n2, vc2, hv2⟩ : ∃ a n c, V2 = .slice a n c := by obtain ⟨a, c, h⟩ := own_shapeZ hr2.1; exact ⟨a, _, c, h⟩
          subst hv2
          have KP4 := hid kp2
          have MK2 := hid mk2
          clear hr2 kp2 mk2 q1 z1 KS1 KT1 HN1
          have q2 := cellOf (j := 2) KP4.out.blk rfl
          have z2 := frozen_of_row w3 wr.heap.size 2 _ 124 KP4.out.blk
          have KS2 : Hid (Kg W0 (w3.setCell ⟨wr.heap.size, 2, none⟩ (.slice va2 n2 vc2)) 57 124 (dmark MB M) wr.heap.size i M (.slice la i lc) (.slice va1 n1 vc1) (.slice va2 n2 vc2) (.slice none 0 0)) := KP4.out.store2 MK2.out
          clear KP4
          have KT2 : Hid (Kg W0 ((w3.setCell ⟨wr.heap.size, 2, none⟩ (.slice va2 n2 vc2)).alloc (.cells #[.slice (some ⟨MB, 0, none⟩) (M + 1) (M + 1), .slice (some ⟨MB, 0, none⟩) (M + 1) (M + 1), .slice (some ⟨MB, 0, none⟩) (M + 1) (M + 1)] 57)) 57 124 (dmark MB M) wr.heap.size i M (.slice la i lc) (.slice va1 n1 vc1) (.slice va2 n2 vc2) (.slice none 0 0)) := KS2.out.after (below1 _ _)
          have HN2 : Hid (((w3.setCell ⟨wr.heap.size, 2, none⟩ (.slice va2 n2 vc2)).alloc (.cells #[.slice (some ⟨MB, 0, none⟩) (M + 1) (M + 1), .slice (some ⟨MB, 0, none⟩) (M + 1) (M + 1), .slice (some ⟨MB, 0, none⟩) (M + 1) (M + 1)] 57)).heap[w3.heap.size]? = some (.cells #[.slice (some ⟨MB, 0, none⟩) (M + 1) (M + 1), .slice (some ⟨MB, 0, none⟩) (M + 1) (M + 1), .slice (some ⟨MB, 0, none⟩) (M + 1) (M + 1)] 57)) := by
            have h := heap_alloc_new (w3.setCell ⟨wr.heap.size, 2, none⟩ (.slice va2 n2 vc2)) (.cells #[.slice (some ⟨MB, 0, none⟩) (M + 1) (M + 1), .slice (some ⟨MB, 0, none⟩) (M + 1) (M + 1), .slice (some ⟨MB, 0, none⟩) (M + 1) (M + 1)] 57)
            rw [show (w3.setCell ⟨wr.heap.size, 2, none⟩ (.slice va2 n2 vc2)).heap.size = w3.heap.size by simp] at h
            exact h
          go_wp2_with (at_builtin; refine wpList_append_keep _ rfl _ _ 122 rfl 0 57 i0 (.slice none 0 0) 1 24 Tryz.underlying122 hi0 hz0 hz1 hz2 rfl (by decide) _ i (mfs (dmark MB M) i) rfl KT2.out.row ⟨w3.heap.size, 0, none⟩ 3 3 (mfm (dmark MB M) i 3) rfl (by simp) (World.news_of_block HN2.out) (mfm_one MB M i 3) (by omega) (by unfold maxLen; omega) (by omega) (Nat.zero_le _) ?_)
          intro V3 w4 hr3
          obtain ⟨kp3, mk3'⟩ := KT2.out.append hr3 (by omega) (fun x y z h => Nat.le_trans (MK1.out.2 x y z h) (by omega)) (fun x y z h => Nat.le_trans (MK2.out.2 x y z h) (by omega)) (fun _ _ _ h => by cases h; omega)
          obtain ⟨va3, n3, vc3, hv3⟩ : ∃ a n c, V3 = .slice a n c := by obtain ⟨a, c, h⟩ := own_shapeZ hr3.1; exact ⟨a, _, c, h⟩
          subst hv3
          have KP5 := hid kp3
          have MK3 := hid mk3'
          clear hr3 kp3 mk3' q2 z2 KS2 KT2 HN2
          have q3 := cellOf (j := 3) KP5.out.blk rfl
          have z3 := frozen_of_row w4 wr.heap.size 3 _ 124 KP5.out.blk
          have KS3 : Hid (Kg W0 (w4.setCell ⟨wr.heap.size, 3, none⟩ (.slice va3 n3 vc3)) 57 124 (dmark MB M) wr.heap.size i M (.slice la i lc) (.slice va1 n1 vc1) (.slice va2 n2 vc2) (.slice va3 n3 vc3)) := KP5.out.store3 MK3.out
          clear KP5
          go_wp2
          clear q3 z3
          refine wp_gen (fun W => Kg W0 W 57 124 (dmark MB M) wr.heap.size i M (.slice la i lc) (.slice va1 n1 vc1) (.slice va2 n2 vc2) (.slice va3 n3 vc3)) KS3.out ?_
          intro W5 k0
          clear KS3
          have KS := hid k0
          clear k0
          have HLW : Hid ((Value.slice la i lc).ownBlock ≠ some WB) := by
            intro e
            obtain ⟨c1, t1⟩ := own_type HKS.out.lst e
            rw [HKS.out.blk] at t1
            cases t1
          have HKB : Hid (W5.heap[WB]? = some (.cells cs 73)) := (KS.out.low.block WB (ltOf HKS.out.blk) HLW.out.symm).trans HKS.out.blk
          have hkc := cellOf HKB.out HKS.out.at5
          have X0 := cellOf (j := 0) KS.out.blk rfl
          have X1 := cellOf (j := 1) KS.out.blk rfl
          have X2 := cellOf (j := 2) KS.out.blk rfl
          have X3 := cellOf (j := 3) KS.out.blk rfl
          have X4 := cellOf (j := 4) KS.out.blk rfl
          have HNEWB := hid (heap_alloc_new W5 (.cells #[.slice la i lc, .slice va1 n1 vc1, .slice va2 n2 vc2, .slice va3 n3 vc3, .int .i64 M] 124))
          have HROW5 : Hid (W5.ownsRow B 124 5 (.slice da M dc) M flad) := HKS.out.row.kept KS.out.low (by
            cases hq : (Value.slice da M dc).ownBlock with
            | none => exact .inl rfl
            | some g => exact .inr (fun e => by
                obtain ⟨c1, t1⟩ := own_type HKS.out.row hq
                obtain ⟨c2, t2⟩ := own_type HKS.out.lst e.symm
                rw [t1] at t2
                cases t2))
          have HROW0 := hid (HROW5.out.alloc (.cells #[.slice la i lc, .slice va1 n1 vc1, .slice va2 n2 vc2, .slice va3 n3 vc3, .int .i64 M] 124))
          have HKP0 := hid (KS.out.after (below1 W5 (.cells #[.slice la i lc, .slice va1 n1 vc1, .slice va2 n2 vc2, .slice va3 n3 vc3, .int .i64 M] 124)))
          have HKW : Hid ((W5.alloc (.cells #[.slice la i lc, .slice va1 n1 vc1, .slice va2 n2 vc2, .slice va3 n3 vc3, .int .i64 M] 124)).heap[WB]? = some (.cells cs 73)) := (Below.heap_alloc _ _ _ (ltOf HKB.out)).trans HKB.out
          have hkc2 := cellOf HKW.out HKS.out.at5
          have HRW : Hid ((Value.slice da M dc).ownBlock ≠ some WB) := by
            intro e
            obtain ⟨c1, t1⟩ := own_type HKS.out.row e
            rw [HKS.out.blk] at t1
            cases t1
          obtain ⟨j0, hj0, hy0, hy1, hy2⟩ := info_parts Tryz.info124
          go_region_law (refine step_append_lies _ rfl (.tmp 64) (.tmp 66) 67 rfl B 124 j0 _ 5 104 Tryz.underlying67 hj0 hy0 hy1 hy2 rfl (by decide) (.slice da M dc) M flad (by simp [Act.eval]) HROW0.out.drew ⟨W5.heap.size, 0, none⟩ 1 1 _ (by simp [Act.eval]) (by rfl) (World.news_of_block HNEWB.out) (by intro u hu; simp at hu; rcases hu with rfl | rfl | rfl | rfl | rfl <;> rfl) (by omega) (by unfold maxLen; omega) (by omega) (by show B ≤ _; exact Nat.le_trans hB0 HKP0.out.low.size) _ rfl ?_; intro g cap w5 hown5 hgrow hat5 hlt5; have HK5 := hid ((hgrow.block WB (by show WB < _; exact ltOf HKW.out) (fun e => HRW.out e.symm)).trans HKW.out); have k5 := cellOf HK5.out HKS.out.at5; have z5 := frozen_of_row w5 WB 5 _ _ HK5.out; have HOWN5 := hid hown5; have HGR5 := hid hgrow; have HAT5 := hid hat5; clear hown5 hgrow hat5)
          all_goals go_end0
          all_goals exact ⟨rfl, W0, cs, M, da, dc, flad, MB, _, _, _, _, _, _, HZ.out, kg_end HKP0.out (by omega) HKS.out.blk (by decide) (by decide) HKS.out.row HOWN5.out HGR5.out HAT5.out ⟨_, HKS.out.lst⟩⟩

end Go.Proofs.YtlghcldiboecoaaGreatDoor
