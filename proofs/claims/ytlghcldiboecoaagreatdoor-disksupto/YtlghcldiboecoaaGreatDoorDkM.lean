/- Disks: what is left behind a crash: the program's. -/
import Derived.Test.YtlghcldiboecoaaGreatDoorDkL
import Derived.Test.YtlghcldiboecoaaGreatDoorQ43
set_option linter.unusedVariables false
set_option linter.unusedSimpArgs false
namespace Go.Proofs.YtlghcldiboecoaaGreatDoor
open Go.RowKit

/-- Behind an append to what a crash leaves. -/
theorem after_cr3 {w W1 w5 : World} {i g cap vc : Nat} {va : Option Addr} {M : List Fl} {f : Fl} (hb : Below w.heap.size w W1) (hk : W1.heap[w.heap.size]? = some (.cells #[.slice va i vc, .int .i64 (-1)] 82)) (hD : W1.heap[w.heap.size + 1]? = some (.cells #[.pointer (some ⟨w.heap.size, 0, none⟩)] 84)) (hH : W1.heap[w.heap.size + 2]? = some (.cells #[.pointer (some ⟨w.heap.size, 0, none⟩)] 86)) (hr : W1.ownsRow (w.heap.size + 3) 91 3 (.slice va i vc) i (fcells M))
    (hown : w5.ownsRow (w.heap.size + 3) 91 3 (.slice (some ⟨g, 0, none⟩) (i + 1) cap) (i + 1) (fcells M ++ [.string f.n, .string f.d, .int .i64 f.s])) (hg : W1.grownBy w5 (Value.slice va i vc).ownBlock) :
    w5.cell? ⟨w.heap.size, 0, none⟩ = some (.slice va i vc) ∧ w5.frozen? ⟨w.heap.size, 0, none⟩ = false ∧ w5.cell? ⟨w.heap.size + 2, 0, none⟩ = some (.pointer (some ⟨w.heap.size, 0, none⟩)) ∧
      ∃ W6, w5.setCell ⟨w.heap.size, 0, none⟩ (.slice (some ⟨g, 0, none⟩) (i + 1) cap) = W6 ∧ Hid (Below w.heap.size w W6 ∧ W6.heap[w.heap.size]? = some (.cells #[.slice (some ⟨g, 0, none⟩) (i + 1) cap, .int .i64 (-1)] 82) ∧ W6.ownsRow (w.heap.size + 3) 91 3 (.slice (some ⟨g, 0, none⟩) (i + 1) cap) (i + 1) (fcells (M ++ [f])) ∧
        W6.heap[w.heap.size + 1]? = some (.cells #[.pointer (some ⟨w.heap.size, 0, none⟩)] 84) ∧ W6.heap[w.heap.size + 2]? = some (.cells #[.pointer (some ⟨w.heap.size, 0, none⟩)] 86)) := by
  have hne : ∀ j, j < w.heap.size + 3 → (Value.slice va i vc).ownBlock ≠ some j := fun j hj e => by
    have := (hr.lt j e).1
    omega
  have hs : w.heap.size + 2 < W1.heap.size := ltOf hH
  have hk5 : w5.heap[w.heap.size]? = _ := (hg.block _ (by omega) (fun e => hne _ (by omega) e.symm)).trans hk
  have hD5 : w5.heap[w.heap.size + 1]? = _ := (hg.block _ (by omega) (fun e => hne _ (by omega) e.symm)).trans hD
  have hH5 : w5.heap[w.heap.size + 2]? = _ := (hg.block _ (by omega) (fun e => hne _ (by omega) e.symm)).trans hH
  have hb5 : Below w.heap.size w w5 := hb.trans ⟨hg.os, hg.tape, hg.output, by have := hg.size; omega, fun j hj => hg.block j (by omega) (fun e => hne j (by omega) e.symm)⟩
  refine ⟨cellOf hk5 rfl, frozen_of_row w5 _ 0 _ 82 hk5, cellOf hH5 rfl, _, rfl, hb5.trans (below_setX (Nat.le_refl _)), heap_setCell_same w5 w.heap.size 0 _ 82 _ hk5, ?_, (heap_setCell_other _ _ _ _ (by show w.heap.size + 1 ≠ w.heap.size; omega)).trans hD5, (heap_setCell_other _ _ _ _ (by show w.heap.size + 2 ≠ w.heap.size; omega)).trans hH5⟩
  rw [fcells_add]
  exact own_setZ hown (fun e => by
    have := (hown.lt _ e).1
    omega) _

set_option maxRecDepth 8000 in
set_option maxHeartbeats 4000000 in
theorem pcrash_any (w : World) (HB SB : Nat) (left keep : Int) (L : List Fl) (fa : Option Addr) (fc : Nat) (hH : w.heap[HB]? = some (.cells #[.pointer (some ⟨SB, 0, none⟩)] 86)) (h : St 82 91 w SB left L fa fc) (hk0 : -9223372036854775808 ≤ keep) (hk1 : keep ≤ 9223372036854775807) (hL : L.length ≤ 10000000) (hs : ∀ f, f ∈ L → f.s ≤ f.d.size) (hd : ∀ f, f ∈ L → f.d.size ≤ 1099511627776) :
    Calls Tryz.prog 14 #[.pointer (some ⟨HB, 0, none⟩), .int .i64 keep] w fun e w' => e = .returned (.tuple #[.pointer (some ⟨w.heap.size + 1, 0, none⟩), .pointer (some ⟨w.heap.size + 2, 0, none⟩)]) ∧ Below w.heap.size w w' ∧ w'.heap[w.heap.size + 1]? = some (.cells #[.pointer (some ⟨w.heap.size, 0, none⟩)] 84) ∧ w'.heap[w.heap.size + 2]? = some (.cells #[.pointer (some ⟨w.heap.size, 0, none⟩)] 86) ∧
      ∃ va vc, w'.heap[w.heap.size]? = some (.cells #[.slice va (L.map (cr keep)).length vc, .int .i64 (-1)] 82) ∧ w'.ownsRow (w.heap.size + 3) 91 3 (.slice va (L.map (cr keep)).length vc) (L.map (cr keep)).length (fcells (L.map (cr keep))) := by
  have c0 := cellOf (j := 0) h.blk rfl
  have hRl := ltOf h.blk
  have b0 := cellOf (j := 0) hH rfl
  have hHl := ltOf hH
  have HROW := hid h.row
  have HSS := hid hs
  have HDD := hid hd
  have H11 := hid (pnew_any w)
  clear h hs hd
  go_enter Tryz.func14, Tryz.ntmps14
  go_wp2_with (go_at_call 11; refine H11.out.mono ?_; rintro e w1 ⟨rfl, hs1, hd1, hh1, hb1⟩; have HS1 := hid hs1; have HD1 := hid hd1; have HH1 := hid hh1; have HB1 := hid hb1; have b1 := (hb1.cell (p := ⟨HB, 0, none⟩) hHl).trans b0; have c1 := (hb1.cell (p := ⟨SB, 0, none⟩) hRl).trans c0; clear hs1 hd1 hh1 hb1)
  obtain ⟨j0, hj0, hy0, hy1, hy2⟩ := info_parts Tryz.info91
  go_loopw [23] (fun k wr => ∃ (i : Nat) (va : Option Addr) (vc : Nat), k = .int .i64 i ∧ i ≤ L.length ∧ Hid (Below w.heap.size w wr ∧ wr.heap[w.heap.size]? = some (.cells #[.slice va i vc, .int .i64 (-1)] 82) ∧ wr.ownsRow (w.heap.size + 3) 91 3 (.slice va i vc) i (fcells ((L.take i).map (cr keep))) ∧ wr.heap[w.heap.size + 1]? = some (.cells #[.pointer (some ⟨w.heap.size, 0, none⟩)] 84) ∧ wr.heap[w.heap.size + 2]? = some (.cells #[.pointer (some ⟨w.heap.size, 0, none⟩)] 86))) (fun k _ => L.length - (intOf k).toNat)
  case atStart => exact ⟨0, none, 0, rfl, Nat.zero_le _, HB1.out, HS1.out, World.ownsRow_nil _ _ _ _, HD1.out, HH1.out⟩
  case round =>
    obtain ⟨i, va, vc, rfl, hi, HI⟩ := hrel
    by_cases hlt : i < L.length
    · have hltz : (i : Int) < (L.length : Int) := by omega
      obtain ⟨f, hf⟩ : ∃ f, L[i]? = some f := ⟨_, List.getElem?_eq_getElem hlt⟩
      obtain ⟨g, hfa, hfc, hgw, _⟩ := row_at HROW.out (by omega)
      subst hfa
      obtain ⟨q0, q1, q2⟩ := cells3_of HROW.out hf
      have f0 := (HI.out.1.cell (p := ⟨g, i * 3, none⟩) hgw).trans q0
      have f1 := (HI.out.1.cell (p := ⟨g, i * 3 + 1, none⟩) hgw).trans q1
      have f2 := (HI.out.1.cell (p := ⟨g, i * 3 + 2, none⟩) hgw).trans q2
      clear q0 q1 q2 b1 c1 b0 c0
      have hfs := HSS.out f (List.mem_of_getElem? hf)
      have hfd := HDD.out f (List.mem_of_getElem? hf)
      have hw1 : IntKind.i64.wrap ((f.d.size : Int) - f.s) = (f.d.size : Int) - f.s := by rw [IntKind.wrap_i64]; omega
      have HTK : Hid ((L.take (i + 1)).map (cr keep) = (L.take i).map (cr keep) ++ [cr keep f]) := by
        show _ = _
        rw [List.take_succ_eq_append_getElem hlt, List.map_append, (List.getElem?_eq_some_iff.1 hf).2]
        rfl
      by_cases hk : keep < 0
      · have HC : Hid (cr keep f = ⟨f.n, (f.d.extract 0 f.s), f.s⟩) := by show _ = _; unfold cr; rw [show crn keep f = f.s by unfold crn; simp [hk]]
        have hm1 : min keep ((f.d.size : Int) - f.s) = keep := by omega
        have hm2 : max 0 keep = 0 := by omega
        have HA0 := hid (below1 wr (.cells #[.string f.n, .string (f.d.extract 0 f.s), .int .i64 (f.s : Nat)] 91))
        have HN0 := hid (heap_alloc_new wr (.cells #[.string f.n, .string (f.d.extract 0 f.s), .int .i64 (f.s : Nat)] 91))
        have HS0 := hid (HI.out.2.2.1.alloc (.cells #[.string f.n, .string (f.d.extract 0 f.s), .int .i64 (f.s : Nat)] 91))
        have HK0 := hid ((HA0.out.block _ (ltOf HI.out.2.1)).trans HI.out.2.1)
        have HD0 := hid ((HA0.out.block _ (ltOf HI.out.2.2.2.1)).trans HI.out.2.2.2.1)
        have HH0 := hid ((HA0.out.block _ (ltOf HI.out.2.2.2.2)).trans HI.out.2.2.2.2)
        have HB0 : Hid (Below w.heap.size w (wr.alloc (.cells #[.string f.n, .string (f.d.extract 0 f.s), .int .i64 (f.s : Nat)] 91))) := HI.out.1.trans (HA0.out.mono HI.out.1.size)
        have n0 := cellOf (j := 0) HN0.out rfl
        have n1 := cellOf (j := 1) HN0.out rfl
        have n2 := cellOf (j := 2) HN0.out rfl
        have k0 := cellOf (j := 0) HK0.out rfl
        have h0 := cellOf (j := 0) HH0.out rfl
        go_wp2
        clear f0 f1 f2
        generalize hW0 : wr.alloc (.cells #[.string f.n, .string (f.d.extract 0 f.s), .int .i64 (f.s : Nat)] 91) = W0 at *
        have HA1 := hid (below1 W0 (.cells #[.string f.n, .string (f.d.extract 0 f.s), .int .i64 (f.s : Nat)] 91))
        have HN1 := hid (heap_alloc_new W0 (.cells #[.string f.n, .string (f.d.extract 0 f.s), .int .i64 (f.s : Nat)] 91))
        have HS1 := hid (HS0.out.alloc (.cells #[.string f.n, .string (f.d.extract 0 f.s), .int .i64 (f.s : Nat)] 91))
        have HK1 := hid ((HA1.out.block _ (ltOf HK0.out)).trans HK0.out)
        have HD1 := hid ((HA1.out.block _ (ltOf HD0.out)).trans HD0.out)
        have HH1 := hid ((HA1.out.block _ (ltOf HH0.out)).trans HH0.out)
        have HB1 : Hid (Below w.heap.size w (W0.alloc (.cells #[.string f.n, .string (f.d.extract 0 f.s), .int .i64 (f.s : Nat)] 91)).drew) := (HB0.out.trans (HA1.out.mono HB0.out.size)).trans ((bdrew _).mono (by have := HB0.out.size; have := HA1.out.size; omega))
        have k1 := cellOf (j := 0) HK1.out rfl
        have h1 := cellOf (j := 0) HH1.out rfl
        go_region_law (refine step_append_lies _ rfl (.tmp 58) (.tmp 60) 80 rfl (w.heap.size + 3) 91 j0 _ 3 40 Tryz.underlying80 hj0 hy0 hy1 hy2 rfl (by decide) (.slice va i vc) i (fcells ((L.take i).map (cr keep))) (by simp [Act.eval]) HS1.out.drew ⟨W0.heap.size, 0, none⟩ 1 1 [.string f.n, .string (f.d.extract 0 f.s), .int .i64 (f.s : Nat)] (by simp [Act.eval]) (by rfl) (World.news_of_block HN1.out) (by intro u hu; simp at hu; rcases hu with rfl | rfl | rfl <;> rfl) (by omega) (by unfold maxLen; omega) (by omega) (by have := ltOf HH1.out; exact this) _ rfl ?_; intro g' cap w5 hown5 hgrow hat5 hlt5; obtain ⟨k5, z5, h5, W6, hW6, HF⟩ := after_cr3 (f := cr keep f) HB1.out HK1.out HD1.out HH1.out HS1.out.drew (by rw [HC.out]; exact hown5) hgrow; clear hown5 hgrow hat5)
        all_goals go_wp2
        all_goals go_roundw
        all_goals try (case rel => exact ⟨i + 1, some ⟨g', 0, none⟩, cap, by go_num, by omega, HF.out.1, HF.out.2.1, by rw [HTK.out]; exact HF.out.2.2.1, HF.out.2.2.2.1, HF.out.2.2.2.2⟩)
        all_goals try (case measure => simp [intOf]; omega)
      · obtain ⟨kk, rfl⟩ : ∃ kk : Nat, keep = kk := ⟨keep.toNat, by omega⟩
        obtain ⟨nn, hnn2⟩ : ∃ nn, f.s + kk = nn := ⟨_, rfl⟩
        by_cases hk2 : (kk : Int) < (f.d.size : Int) - f.s
        · have HC : Hid (cr kk f = ⟨f.n, (f.d.extract 0 nn), nn⟩) := by show _ = _; unfold cr; rw [show crn kk f = nn by rw [← hnn2]; unfold crn; simp [hk, hk2]]
          have hle : nn ≤ f.d.size := by omega
          have hm1 : min (kk : Int) ((f.d.size : Int) - f.s) = kk := by omega
          have hm2 : max 0 (kk : Int) = kk := by omega
          have hw2 : IntKind.i64.wrap ((f.s : Int) + kk) = (nn : Int) := by rw [IntKind.wrap_i64]; omega
          have HA0 := hid (below1 wr (.cells #[.string f.n, .string (f.d.extract 0 nn), .int .i64 (nn : Nat)] 91))
          have HN0 := hid (heap_alloc_new wr (.cells #[.string f.n, .string (f.d.extract 0 nn), .int .i64 (nn : Nat)] 91))
          have HS0 := hid (HI.out.2.2.1.alloc (.cells #[.string f.n, .string (f.d.extract 0 nn), .int .i64 (nn : Nat)] 91))
          have HK0 := hid ((HA0.out.block _ (ltOf HI.out.2.1)).trans HI.out.2.1)
          have HD0 := hid ((HA0.out.block _ (ltOf HI.out.2.2.2.1)).trans HI.out.2.2.2.1)
          have HH0 := hid ((HA0.out.block _ (ltOf HI.out.2.2.2.2)).trans HI.out.2.2.2.2)
          have HB0 : Hid (Below w.heap.size w (wr.alloc (.cells #[.string f.n, .string (f.d.extract 0 nn), .int .i64 (nn : Nat)] 91))) := HI.out.1.trans (HA0.out.mono HI.out.1.size)
          have n0 := cellOf (j := 0) HN0.out rfl
          have n1 := cellOf (j := 1) HN0.out rfl
          have n2 := cellOf (j := 2) HN0.out rfl
          have k0 := cellOf (j := 0) HK0.out rfl
          have h0 := cellOf (j := 0) HH0.out rfl
          go_wp2
          clear f0 f1 f2
          generalize hW0 : wr.alloc (.cells #[.string f.n, .string (f.d.extract 0 nn), .int .i64 (nn : Nat)] 91) = W0 at *
          have HA1 := hid (below1 W0 (.cells #[.string f.n, .string (f.d.extract 0 nn), .int .i64 (nn : Nat)] 91))
          have HN1 := hid (heap_alloc_new W0 (.cells #[.string f.n, .string (f.d.extract 0 nn), .int .i64 (nn : Nat)] 91))
          have HS1 := hid (HS0.out.alloc (.cells #[.string f.n, .string (f.d.extract 0 nn), .int .i64 (nn : Nat)] 91))
          have HK1 := hid ((HA1.out.block _ (ltOf HK0.out)).trans HK0.out)
          have HD1 := hid ((HA1.out.block _ (ltOf HD0.out)).trans HD0.out)
          have HH1 := hid ((HA1.out.block _ (ltOf HH0.out)).trans HH0.out)
          have HB1 : Hid (Below w.heap.size w (W0.alloc (.cells #[.string f.n, .string (f.d.extract 0 nn), .int .i64 (nn : Nat)] 91)).drew) := (HB0.out.trans (HA1.out.mono HB0.out.size)).trans ((bdrew _).mono (by have := HB0.out.size; have := HA1.out.size; omega))
          have k1 := cellOf (j := 0) HK1.out rfl
          have h1 := cellOf (j := 0) HH1.out rfl
          go_region_law (refine step_append_lies _ rfl (.tmp 58) (.tmp 60) 80 rfl (w.heap.size + 3) 91 j0 _ 3 40 Tryz.underlying80 hj0 hy0 hy1 hy2 rfl (by decide) (.slice va i vc) i (fcells ((L.take i).map (cr kk))) (by simp [Act.eval]) HS1.out.drew ⟨W0.heap.size, 0, none⟩ 1 1 [.string f.n, .string (f.d.extract 0 nn), .int .i64 (nn : Nat)] (by simp [Act.eval]) (by rfl) (World.news_of_block HN1.out) (by intro u hu; simp at hu; rcases hu with rfl | rfl | rfl <;> rfl) (by omega) (by unfold maxLen; omega) (by omega) (by have := ltOf HH1.out; exact this) _ rfl ?_; intro g' cap w5 hown5 hgrow hat5 hlt5; obtain ⟨k5, z5, h5, W6, hW6, HF⟩ := after_cr3 (f := cr kk f) HB1.out HK1.out HD1.out HH1.out HS1.out.drew (by rw [HC.out]; exact hown5) hgrow; clear hown5 hgrow hat5)
          all_goals go_wp2
          all_goals go_roundw
          all_goals try (case rel => exact ⟨i + 1, some ⟨g', 0, none⟩, cap, by go_num, by omega, HF.out.1, HF.out.2.1, by rw [HTK.out]; exact HF.out.2.2.1, HF.out.2.2.2.1, HF.out.2.2.2.2⟩)
          all_goals try (case measure => simp [intOf]; omega)
        · have HC : Hid (cr kk f = ⟨f.n, f.d, f.d.size⟩) := by show _ = _; unfold cr; rw [show crn kk f = f.d.size by unfold crn; simp [hk, hk2]]; simp
          have hm1 : min (kk : Int) ((f.d.size : Int) - f.s) = (f.d.size : Int) - f.s := by omega
          have hm2 : max 0 ((f.d.size : Int) - f.s) = (f.d.size : Int) - f.s := by omega
          have hw2 : IntKind.i64.wrap ((f.s : Int) + ((f.d.size : Int) - f.s)) = (f.d.size : Int) := by rw [IntKind.wrap_i64]; omega
          have HA0 := hid (below1 wr (.cells #[.string f.n, .string f.d, .int .i64 (f.d.size : Nat)] 91))
          have HN0 := hid (heap_alloc_new wr (.cells #[.string f.n, .string f.d, .int .i64 (f.d.size : Nat)] 91))
          have HS0 := hid (HI.out.2.2.1.alloc (.cells #[.string f.n, .string f.d, .int .i64 (f.d.size : Nat)] 91))
          have HK0 := hid ((HA0.out.block _ (ltOf HI.out.2.1)).trans HI.out.2.1)
          have HD0 := hid ((HA0.out.block _ (ltOf HI.out.2.2.2.1)).trans HI.out.2.2.2.1)
          have HH0 := hid ((HA0.out.block _ (ltOf HI.out.2.2.2.2)).trans HI.out.2.2.2.2)
          have HB0 : Hid (Below w.heap.size w (wr.alloc (.cells #[.string f.n, .string f.d, .int .i64 (f.d.size : Nat)] 91))) := HI.out.1.trans (HA0.out.mono HI.out.1.size)
          have n0 := cellOf (j := 0) HN0.out rfl
          have n1 := cellOf (j := 1) HN0.out rfl
          have n2 := cellOf (j := 2) HN0.out rfl
          have k0 := cellOf (j := 0) HK0.out rfl
          have h0 := cellOf (j := 0) HH0.out rfl
          go_wp2
          clear f0 f1 f2
          generalize hW0 : wr.alloc (.cells #[.string f.n, .string f.d, .int .i64 (f.d.size : Nat)] 91) = W0 at *
          have HA1 := hid (below1 W0 (.cells #[.string f.n, .string f.d, .int .i64 (f.d.size : Nat)] 91))
          have HN1 := hid (heap_alloc_new W0 (.cells #[.string f.n, .string f.d, .int .i64 (f.d.size : Nat)] 91))
          have HS1 := hid (HS0.out.alloc (.cells #[.string f.n, .string f.d, .int .i64 (f.d.size : Nat)] 91))
          have HK1 := hid ((HA1.out.block _ (ltOf HK0.out)).trans HK0.out)
          have HD1 := hid ((HA1.out.block _ (ltOf HD0.out)).trans HD0.out)
          have HH1 := hid ((HA1.out.block _ (ltOf HH0.out)).trans HH0.out)
          have HB1 : Hid (Below w.heap.size w (W0.alloc (.cells #[.string f.n, .string f.d, .int .i64 (f.d.size : Nat)] 91)).drew) := (HB0.out.trans (HA1.out.mono HB0.out.size)).trans ((bdrew _).mono (by have := HB0.out.size; have := HA1.out.size; omega))
          have k1 := cellOf (j := 0) HK1.out rfl
          have h1 := cellOf (j := 0) HH1.out rfl
          go_region_law (refine step_append_lies _ rfl (.tmp 58) (.tmp 60) 80 rfl (w.heap.size + 3) 91 j0 _ 3 40 Tryz.underlying80 hj0 hy0 hy1 hy2 rfl (by decide) (.slice va i vc) i (fcells ((L.take i).map (cr kk))) (by simp [Act.eval]) HS1.out.drew ⟨W0.heap.size, 0, none⟩ 1 1 [.string f.n, .string f.d, .int .i64 (f.d.size : Nat)] (by simp [Act.eval]) (by rfl) (World.news_of_block HN1.out) (by intro u hu; simp at hu; rcases hu with rfl | rfl | rfl <;> rfl) (by omega) (by unfold maxLen; omega) (by omega) (by have := ltOf HH1.out; exact this) _ rfl ?_; intro g' cap w5 hown5 hgrow hat5 hlt5; obtain ⟨k5, z5, h5, W6, hW6, HF⟩ := after_cr3 (f := cr kk f) HB1.out HK1.out HD1.out HH1.out HS1.out.drew (by rw [HC.out]; exact hown5) hgrow; clear hown5 hgrow hat5)
          all_goals go_wp2
          all_goals go_roundw
          all_goals try (case rel => exact ⟨i + 1, some ⟨g', 0, none⟩, cap, by go_num, by omega, HF.out.1, HF.out.2.1, by rw [HTK.out]; exact HF.out.2.2.1, HF.out.2.2.2.1, HF.out.2.2.2.2⟩)
          all_goals try (case measure => simp [intOf]; omega)
    · have hltz : ¬ (i : Int) < (L.length : Int) := by omega
      have hie : i = L.length := by omega
      subst hie
      have HT : Hid (L.take L.length = L) := by show _ = _; simp
      go_wp2
      all_goals go_ret2
      all_goals (rw [HT.out] at HI; exact ⟨rfl, HI.out.1, HI.out.2.2.2.1, HI.out.2.2.2.2, va, vc, HI.out.2.1, HI.out.2.2.1⟩)

end Go.Proofs.YtlghcldiboecoaaGreatDoor
