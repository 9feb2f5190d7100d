/- Disks: what is left behind a crash: the document's. -/
import Derived.Test.YtlghcldiboecoaaGreatDoorDkJ
import Derived.Deep.RegionWith
set_option linter.unusedVariables false
set_option linter.unusedSimpArgs false
namespace Go.Proofs.YtlghcldiboecoaaGreatDoor
open Go.RowKit

/-- How many bytes of a file are left. -/
def crn (keep : Int) (f : Fl) : Nat := if keep < 0 then f.s else if keep < (f.d.size : Int) - f.s then f.s + keep.toNat else f.d.size

def cr (keep : Int) (f : Fl) : Fl := ⟨f.n, f.d.extract 0 (crn keep f), crn keep f⟩
theorem crn_le {keep : Int} {f : Fl} (h : f.s ≤ f.d.size) : crn keep f ≤ f.d.size := by unfold crn; split <;> (try split) <;> omega

/-- Behind an append to what a crash leaves. -/
theorem after_cr {w W1 w5 : World} {bt rt : TypeId} {i g cap vc : Nat} {va : Option Addr} {M : List Fl} {f : Fl} (hb : Below w.heap.size w W1) (hk : W1.heap[w.heap.size]? = some (.cells #[.slice va i vc, .int .i64 (-1)] bt)) (hr : W1.ownsRow (w.heap.size + 1) rt 3 (.slice va i vc) i (fcells M)) (hi : M.length = i)
    (hown : w5.ownsRow (w.heap.size + 1) rt 3 (.slice (some ⟨g, 0, none⟩) (i + 1) cap) (i + 1) (fcells M ++ [.string f.n, .string f.d, .int .i64 f.s])) (hg : W1.grownBy w5 (Value.slice va i vc).ownBlock) :
    w5.cell? ⟨w.heap.size, 0, none⟩ = some (.slice va i vc) ∧ w5.frozen? ⟨w.heap.size, 0, none⟩ = false ∧
      Hid (Below w.heap.size w (w5.setCell ⟨w.heap.size, 0, none⟩ (.slice (some ⟨g, 0, none⟩) (i + 1) cap)) ∧ (w5.setCell ⟨w.heap.size, 0, none⟩ (.slice (some ⟨g, 0, none⟩) (i + 1) cap)).heap[w.heap.size]? = some (.cells #[.slice (some ⟨g, 0, none⟩) (i + 1) cap, .int .i64 (-1)] bt) ∧ (w5.setCell ⟨w.heap.size, 0, none⟩ (.slice (some ⟨g, 0, none⟩) (i + 1) cap)).ownsRow (w.heap.size + 1) rt 3 (.slice (some ⟨g, 0, none⟩) (i + 1) cap) (i + 1) (fcells (M ++ [f]))) := by
  have hne : ∀ j, j ≤ w.heap.size → (Value.slice va i vc).ownBlock ≠ some j := fun j hj e => by
    have := (hr.lt j e).1
    omega
  have hs : w.heap.size < W1.heap.size := ltOf hk
  have hk5 : w5.heap[w.heap.size]? = _ := (hg.block _ hs (fun e => hne _ (Nat.le_refl _) e.symm)).trans hk
  have hb5 : Below w.heap.size w w5 := hb.trans ⟨hg.os, hg.tape, hg.output, by have := hg.size; omega, fun j hj => hg.block j (by omega) (fun e => hne j (by omega) e.symm)⟩
  refine ⟨cellOf hk5 rfl, frozen_of_row w5 _ 0 _ bt hk5, hb5.trans (below_setX (Nat.le_refl _)), heap_setCell_same w5 w.heap.size 0 _ bt _ hk5, ?_⟩
  rw [fcells_add]
  exact own_setZ hown (fun e => by
    have := (hown.lt _ e).1
    omega) _

set_option maxRecDepth 8000 in
set_option maxHeartbeats 4000000 in
theorem rcrash_any (w : World) (RB : Nat) (left keep : Int) (L : List Fl) (fa : Option Addr) (fc : Nat) (h : St 89 93 w RB left L fa fc) (hk0 : -9223372036854775808 ≤ keep) (hk1 : keep ≤ 9223372036854775807) (hL : L.length ≤ 10000000) (hs : ∀ f, f ∈ L → f.s ≤ f.d.size) (hd : ∀ f, f ∈ L → f.d.size ≤ 1099511627776) :
    Calls Tryz.prog 15 #[.pointer (some ⟨RB, 0, none⟩), .int .i64 keep] w fun e w' => e = .returned (.pointer (some ⟨w.heap.size, 0, none⟩)) ∧ Below w.heap.size w w' ∧ ∃ va vc, w'.heap[w.heap.size]? = some (.cells #[.slice va (L.map (cr keep)).length vc, .int .i64 (-1)] 89) ∧ w'.ownsRow (w.heap.size + 1) 93 3 (.slice va (L.map (cr keep)).length vc) (L.map (cr keep)).length (fcells (L.map (cr keep))) := by
  have c0 := cellOf (j := 0) h.blk rfl
  have hRl := ltOf h.blk
  have HROW := hid h.row
  have HSS := hid hs
  have HDD := hid hd
  have H12 := hid (rnew_any w)
  clear h hs hd
  go_enter Tryz.func15, Tryz.ntmps15
  go_wp2_with (go_at_call 12; refine H12.out.mono ?_; rintro e w1 ⟨rfl, hw1⟩; have HW1 : Hid (Below w.heap.size w w1 ∧ w1.heap[w.heap.size]? = some (.cells #[.slice none 0 0, .int .i64 (-1)] 89)) := (by subst hw1; exact ⟨below1 w _, heap_alloc_new w _⟩); clear hw1)
  obtain ⟨j0, hj0, hy0, hy1, hy2⟩ := info_parts Tryz.info93
  go_loopw [6] (fun k wr => ∃ (i : Nat) (va : Option Addr) (vc : Nat), k = .int .i64 i ∧ i ≤ L.length ∧ Hid (Below w.heap.size w wr ∧ wr.heap[w.heap.size]? = some (.cells #[.slice va i vc, .int .i64 (-1)] 89) ∧ wr.ownsRow (w.heap.size + 1) 93 3 (.slice va i vc) i (fcells ((L.take i).map (cr keep))))) (fun k _ => L.length - (intOf k).toNat)
  case atStart => exact ⟨0, none, 0, rfl, Nat.zero_le _, HW1.out.1, HW1.out.2, World.ownsRow_nil _ _ _ _⟩
  case round =>
    obtain ⟨i, va, vc, rfl, hi, HI⟩ := hrel
    have c1 := (HI.out.1.cell (p := ⟨RB, 0, none⟩) hRl).trans c0
    by_cases hlt : i < L.length
    · have hltz : (i : Int) < (L.length : Int) := by omega
      obtain ⟨f, hf⟩ : ∃ f, L[i]? = some f := ⟨_, List.getElem?_eq_getElem hlt⟩
      obtain ⟨g, hfa, hfc, hgw, _⟩ := row_at HROW.out (by omega)
      subst hfa
      obtain ⟨q0, q1, q2⟩ := cells3_of HROW.out hf
      have f0 := (HI.out.1.cell (p := ⟨g, i * 3, none⟩) hgw).trans q0
      have f1 := (HI.out.1.cell (p := ⟨g, i * 3 + 1, none⟩) hgw).trans q1
      have f2 := (HI.out.1.cell (p := ⟨g, i * 3 + 2, none⟩) hgw).trans q2
      clear q0 q1 q2
      have hfs := HSS.out f (List.mem_of_getElem? hf)
      have hfd := HDD.out f (List.mem_of_getElem? hf)
      have HTK : Hid ((L.take (i + 1)).map (cr keep) = (L.take i).map (cr keep) ++ [cr keep f]) := by
        show _ = _
        rw [List.take_succ_eq_append_getElem hlt, List.map_append, (List.getElem?_eq_some_iff.1 hf).2]
        rfl
      by_cases hk : keep < 0
      · have HC : Hid (cr keep f = ⟨f.n, f.d.extract 0 (f.s), f.s⟩) := by show _ = _; unfold cr; rw [show crn keep f = f.s by unfold crn; simp [hk]]
        have HA0 := hid (below1 wr (.cells #[.string f.n, .string f.d, .int .i64 f.s] 93))
        have HN0 := hid (heap_alloc_new wr (.cells #[.string f.n, .string f.d, .int .i64 f.s] 93))
        have HS0 := hid (HI.out.2.2.alloc (.cells #[.string f.n, .string f.d, .int .i64 f.s] 93))
        have HK0 := hid ((HA0.out.block _ (ltOf HI.out.2.1)).trans HI.out.2.1)
        have HB0 : Hid (Below w.heap.size w (wr.alloc (.cells #[.string f.n, .string f.d, .int .i64 f.s] 93))) := HI.out.1.trans (HA0.out.mono HI.out.1.size)
        have HWL : Hid (w.heap.size < wr.heap.size) := ltOf HI.out.2.1
        have n0 := cellOf (j := 0) HN0.out rfl
        have n1 := cellOf (j := 1) HN0.out rfl
        have n2 := cellOf (j := 2) HN0.out rfl
        have k0 := cellOf (j := 0) HK0.out rfl
        go_wp2
        clear f0 f1 f2 c1
        generalize hW0 : wr.alloc (.cells #[.string f.n, .string f.d, .int .i64 f.s] 93) = W0 at *
        have HA1 := hid (below1 W0 (.cells #[.string f.n, .string (f.d.extract 0 (f.s)), .int .i64 (f.s : Nat)] 93))
        have HN1 := hid (heap_alloc_new W0 (.cells #[.string f.n, .string (f.d.extract 0 (f.s)), .int .i64 (f.s : Nat)] 93))
        have HS1 := hid (HS0.out.alloc (.cells #[.string f.n, .string (f.d.extract 0 (f.s)), .int .i64 (f.s : Nat)] 93))
        have HK1 := hid ((HA1.out.block _ (ltOf HK0.out)).trans HK0.out)
        have HB1 : Hid (Below w.heap.size w (W0.alloc (.cells #[.string f.n, .string (f.d.extract 0 (f.s)), .int .i64 (f.s : Nat)] 93)).drew) := (HB0.out.trans (HA1.out.mono HB0.out.size)).trans ((bdrew _).mono (by have := HB0.out.size; have := HA1.out.size; omega))
        have k1 := cellOf (j := 0) HK1.out rfl
        go_region_law (refine step_append_lies _ rfl (.tmp 47) (.tmp 56) 87 rfl (w.heap.size + 1) 93 j0 _ 3 40 Tryz.underlying87 hj0 hy0 hy1 hy2 rfl (by decide) (.slice va i vc) i (fcells ((L.take i).map (cr keep))) (by simp [Act.eval]) HS1.out.drew ⟨W0.heap.size, 0, none⟩ 1 1 [.string f.n, .string (f.d.extract 0 (f.s)), .int .i64 (f.s : Nat)] (by simp [Act.eval]) (by rfl) (World.news_of_block HN1.out) (by intro u hu; simp at hu; rcases hu with rfl | rfl | rfl <;> rfl) (by omega) (by unfold maxLen; omega) (by omega) (by have := HB1.out.size; have := HWL.out; have := ltOf HK1.out; exact this) _ rfl ?_; intro g' cap w5 hown5 hgrow hat5 hlt5; obtain ⟨k5, z5, HF⟩ := after_cr (f := cr keep f) HB1.out HK1.out HS1.out.drew (by rw [List.length_map, List.length_take]; omega) (by rw [HC.out]; exact hown5) hgrow; clear hown5 hgrow hat5)
        all_goals go_wp2
        all_goals go_roundw
        all_goals try (case rel => exact ⟨i + 1, some ⟨g', 0, none⟩, cap, by go_num, by omega, HF.out.1, HF.out.2.1, by rw [HTK.out]; exact HF.out.2.2⟩)
        all_goals try (case measure => simp [intOf]; omega)
      · obtain ⟨kk, rfl⟩ : ∃ kk : Nat, keep = kk := ⟨keep.toNat, by omega⟩
        obtain ⟨nn, hnn2⟩ : ∃ nn, f.s + kk = nn := ⟨_, rfl⟩
        by_cases hk2 : (kk : Int) < (f.d.size : Int) - f.s
        · have HC : Hid (cr kk f = ⟨f.n, f.d.extract 0 (nn), nn⟩) := by show _ = _; unfold cr; rw [show crn kk f = nn by rw [← hnn2]; unfold crn; simp [hk, hk2]]
          have HA0 := hid (below1 wr (.cells #[.string f.n, .string f.d, .int .i64 f.s] 93))
          have HN0 := hid (heap_alloc_new wr (.cells #[.string f.n, .string f.d, .int .i64 f.s] 93))
          have HS0 := hid (HI.out.2.2.alloc (.cells #[.string f.n, .string f.d, .int .i64 f.s] 93))
          have HK0 := hid ((HA0.out.block _ (ltOf HI.out.2.1)).trans HI.out.2.1)
          have HB0 : Hid (Below w.heap.size w (wr.alloc (.cells #[.string f.n, .string f.d, .int .i64 f.s] 93))) := HI.out.1.trans (HA0.out.mono HI.out.1.size)
          have HWL : Hid (w.heap.size < wr.heap.size) := ltOf HI.out.2.1
          have n0 := cellOf (j := 0) HN0.out rfl
          have n1 := cellOf (j := 1) HN0.out rfl
          have n2 := cellOf (j := 2) HN0.out rfl
          have k0 := cellOf (j := 0) HK0.out rfl
          have hle : nn ≤ f.d.size := by omega
          have hw1 : IntKind.i64.wrap ((f.d.size : Int) - f.s) = (f.d.size : Int) - f.s := by rw [IntKind.wrap_i64]; omega
          have hw2 : IntKind.i64.wrap ((f.s : Int) + kk) = (nn : Int) := by rw [IntKind.wrap_i64]; omega
          go_wp2
          clear f0 f1 f2 c1
          generalize hW0 : wr.alloc (.cells #[.string f.n, .string f.d, .int .i64 f.s] 93) = W0 at *
          have HA1 := hid (below1 W0 (.cells #[.string f.n, .string (f.d.extract 0 (nn)), .int .i64 (nn : Nat)] 93))
          have HN1 := hid (heap_alloc_new W0 (.cells #[.string f.n, .string (f.d.extract 0 (nn)), .int .i64 (nn : Nat)] 93))
          have HS1 := hid (HS0.out.alloc (.cells #[.string f.n, .string (f.d.extract 0 (nn)), .int .i64 (nn : Nat)] 93))
          have HK1 := hid ((HA1.out.block _ (ltOf HK0.out)).trans HK0.out)
          have HB1 : Hid (Below w.heap.size w (W0.alloc (.cells #[.string f.n, .string (f.d.extract 0 (nn)), .int .i64 (nn : Nat)] 93)).drew) := (HB0.out.trans (HA1.out.mono HB0.out.size)).trans ((bdrew _).mono (by have := HB0.out.size; have := HA1.out.size; omega))
          have k1 := cellOf (j := 0) HK1.out rfl
          go_region_law (refine step_append_lies _ rfl (.tmp 47) (.tmp 56) 87 rfl (w.heap.size + 1) 93 j0 _ 3 40 Tryz.underlying87 hj0 hy0 hy1 hy2 rfl (by decide) (.slice va i vc) i (fcells ((L.take i).map (cr kk))) (by simp [Act.eval]) HS1.out.drew ⟨W0.heap.size, 0, none⟩ 1 1 [.string f.n, .string (f.d.extract 0 (nn)), .int .i64 (nn : Nat)] (by simp [Act.eval]) (by rfl) (World.news_of_block HN1.out) (by intro u hu; simp at hu; rcases hu with rfl | rfl | rfl <;> rfl) (by omega) (by unfold maxLen; omega) (by omega) (by have := HB1.out.size; have := HWL.out; have := ltOf HK1.out; exact this) _ rfl ?_; intro g' cap w5 hown5 hgrow hat5 hlt5; obtain ⟨k5, z5, HF⟩ := after_cr (f := cr kk f) HB1.out HK1.out HS1.out.drew (by rw [List.length_map, List.length_take]; omega) (by rw [HC.out]; exact hown5) hgrow; clear hown5 hgrow hat5)
          all_goals go_wp2
          all_goals go_roundw
          all_goals try (case rel => exact ⟨i + 1, some ⟨g', 0, none⟩, cap, by go_num, by omega, HF.out.1, HF.out.2.1, by rw [HTK.out]; exact HF.out.2.2⟩)
          all_goals try (case measure => simp [intOf]; omega)
        · have HC : Hid (cr kk f = ⟨f.n, f.d, f.d.size⟩) := by show _ = _; unfold cr; rw [show crn kk f = f.d.size by unfold crn; simp [hk, hk2]]; simp
          have HA0 := hid (below1 wr (.cells #[.string f.n, .string f.d, .int .i64 f.s] 93))
          have HN0 := hid (heap_alloc_new wr (.cells #[.string f.n, .string f.d, .int .i64 f.s] 93))
          have HS0 := hid (HI.out.2.2.alloc (.cells #[.string f.n, .string f.d, .int .i64 f.s] 93))
          have HK0 := hid ((HA0.out.block _ (ltOf HI.out.2.1)).trans HI.out.2.1)
          have HB0 : Hid (Below w.heap.size w (wr.alloc (.cells #[.string f.n, .string f.d, .int .i64 f.s] 93))) := HI.out.1.trans (HA0.out.mono HI.out.1.size)
          have HWL : Hid (w.heap.size < wr.heap.size) := ltOf HI.out.2.1
          have n0 := cellOf (j := 0) HN0.out rfl
          have n1 := cellOf (j := 1) HN0.out rfl
          have n2 := cellOf (j := 2) HN0.out rfl
          have k0 := cellOf (j := 0) HK0.out rfl
          have hw1 : IntKind.i64.wrap ((f.d.size : Int) - f.s) = (f.d.size : Int) - f.s := by rw [IntKind.wrap_i64]; omega
          go_wp2
          clear f0 f1 f2 c1
          generalize hW0 : wr.alloc (.cells #[.string f.n, .string f.d, .int .i64 f.s] 93) = W0 at *
          have HA1 := hid (below1 W0 (.cells #[.string f.n, .string f.d, .int .i64 (f.d.size : Nat)] 93))
          have HN1 := hid (heap_alloc_new W0 (.cells #[.string f.n, .string f.d, .int .i64 (f.d.size : Nat)] 93))
          have HS1 := hid (HS0.out.alloc (.cells #[.string f.n, .string f.d, .int .i64 (f.d.size : Nat)] 93))
          have HK1 := hid ((HA1.out.block _ (ltOf HK0.out)).trans HK0.out)
          have HB1 : Hid (Below w.heap.size w (W0.alloc (.cells #[.string f.n, .string f.d, .int .i64 (f.d.size : Nat)] 93)).drew) := (HB0.out.trans (HA1.out.mono HB0.out.size)).trans ((bdrew _).mono (by have := HB0.out.size; have := HA1.out.size; omega))
          have k1 := cellOf (j := 0) HK1.out rfl
          go_region_law (refine step_append_lies _ rfl (.tmp 47) (.tmp 56) 87 rfl (w.heap.size + 1) 93 j0 _ 3 40 Tryz.underlying87 hj0 hy0 hy1 hy2 rfl (by decide) (.slice va i vc) i (fcells ((L.take i).map (cr kk))) (by simp [Act.eval]) HS1.out.drew ⟨W0.heap.size, 0, none⟩ 1 1 [.string f.n, .string f.d, .int .i64 (f.d.size : Nat)] (by simp [Act.eval]) (by rfl) (World.news_of_block HN1.out) (by intro u hu; simp at hu; rcases hu with rfl | rfl | rfl <;> rfl) (by omega) (by unfold maxLen; omega) (by omega) (by have := HB1.out.size; have := HWL.out; have := ltOf HK1.out; exact this) _ rfl ?_; intro g' cap w5 hown5 hgrow hat5 hlt5; obtain ⟨k5, z5, HF⟩ := after_cr (f := cr kk f) HB1.out HK1.out HS1.out.drew (by rw [List.length_map, List.length_take]; omega) (by rw [HC.out]; exact hown5) hgrow; clear hown5 hgrow hat5)
          all_goals go_wp2
          all_goals go_roundw
          all_goals try (case rel => exact ⟨i + 1, some ⟨g', 0, none⟩, cap, by go_num, by omega, HF.out.1, HF.out.2.1, by rw [HTK.out]; exact HF.out.2.2⟩)
          all_goals try (case measure => simp [intOf]; omega)
    · have hltz : ¬ (i : Int) < (L.length : Int) := by omega
      have hie : i = L.length := by omega
      subst hie
      have HT : Hid (L.take L.length = L) := by show _ = _; simp
      go_wp2
      all_goals go_ret
      all_goals (rw [HT.out] at HI; exact ⟨rfl, HI.out.1, va, vc, HI.out.2.1, HI.out.2.2⟩)

end Go.Proofs.YtlghcldiboecoaaGreatDoor
