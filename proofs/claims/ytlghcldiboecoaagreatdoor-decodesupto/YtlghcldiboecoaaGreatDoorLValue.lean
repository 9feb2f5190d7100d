/- The caller's loans: a value is lent (value). -/
import Derived.Test.YtlghcldiboecoaaGreatDoorLStep
import Derived.Deep.RegionLaw
set_option linter.unusedVariables false
namespace Go.Proofs.YtlghcldiboecoaaGreatDoor
open Go.RowKit

theorem Tryz.info221 : (Tryz.prog.info? 221).map (fun i => (i.zero, i.size, i.bytes)) = some (some (.agg #[.slice none 0 0, .slice none 0 0]), 2, 48) := by kernel_rfl

/-- A value is lent, whatever it is. -/
def LvSaid (w0 : World) (S : Nat → Prop) (vs : List Orch.V) (ov : Value) : Prop :=
  ∀ (W : World) (BB base : Nat) (av : Value) (L0 : List Loan) (n : Int) (s : ByteArray), (∀ b, S b → W.heap[b]? = w0.heap[b]?) → Lp W BB base S av L0 → L0.length + 1 + cntL vs ≤ 4000000 →
  Calls Tryz.prog 81 #[.pointer (some ⟨BB, 0, none⟩), vv n s ov] W fun e w' => ∃ la ln lc av' L1, e = .returned (vv n s (.slice la ln lc)) ∧ LvRes W w' BB base S av av' L0 L1 vs ov (.slice la ln lc)

set_option maxRecDepth 8000 in
set_option maxHeartbeats 2000000 in
theorem lv_nil (w0 : World) (S : Nat → Prop) : LvSaid w0 S [] (.slice none 0 0) := by
  intro w BB base av L0 n s _ hlp _
  have HLP := hid hlp
  clear hlp
  obtain ⟨n0, n1⟩ := new2 w (.cells #[.int .i64 n, .string s, .slice none 0 0] 113) (.cells #[.int .i64 0, .string ⟨#[]⟩, .slice none 0 0] 113)
  have a0 := cellOf (j := 0) n0 rfl
  have a1 := cellOf (j := 1) n0 rfl
  have a2 := cellOf (j := 2) n0 rfl
  have q := nil22 ((w.alloc (.cells #[.int .i64 n, .string s, .slice none 0 0] 113)).alloc (.cells #[.int .i64 0, .string ⟨#[]⟩, .slice none 0 0] 113))
  have HB := hid (below2 w (.cells #[.int .i64 n, .string s, .slice none 0 0] 113) (.cells #[.int .i64 n, .string s, .slice none 0 0] 113))
  clear n0
  go_enter Tryz.func81, Tryz.ntmps81
  go_wp2
  refine bodyPost_ret (v := vv n s (.slice none 0 0)) (by simp [results, Tryz.results81, go_sem]) rfl ⟨none, 0, 0, av, [], rfl, ?_⟩
  have hb := HB.out
  exact ⟨by simpa using HLP.out.below hb, .inl ⟨rfl, rfl⟩, .nil _ _, (fun L hL => by cases hL), .inl rfl, hb.os, hb.tape, hb.output, hb.size, fun b h1 _ _ => hb.block b h1, by simp⟩

set_option maxHeartbeats 1000000 in
theorem lv_end {w wr w5 W6 W7 Wf : World} {BB base : Nat} {S : Nat → Prop} {av : Value} {L0 : List Loan} {ps : List (Orch.V × Value)} {g ln m am ac g5 cap5 : Nat} {aa : Option Addr} {qs : List (Orch.V × Value × Value)} {L1 : List Loan} {n : Int} {s : ByteArray} {la : Addr} {lc : Nat} {o : Obj}
    (h : Lo w wr BB base S av L0 #[.int .i64 n, .string s, .slice (some la) ln lc] ps g (ps.length + 3) qs (.slice aa am ac) L1) (hln : ps.length = ln) (hl4 : ln ≤ 4000000) (hBB : BB < w.heap.size) (hbw : base ≤ w.heap.size) (hlc : ln ≤ lc)
    (hw : ps ≠ [] → ∃ gl o, la = ⟨gl, o, none⟩ ∧ S gl ∧ ∀ j u, (ps.flatMap vcell)[j]? = some u → w.cell? ⟨gl, o + j, none⟩ = some u) (hm : m = (L0 ++ L1).length)
    (hown : w5.ownsRow base 221 2 (.slice (some ⟨g5, 0, none⟩) (m + 1) cap5) (m + 1) ((L0 ++ L1).flatMap loanc ++ [.slice (some ⟨g, 0, none⟩) (ln + 3) (ln + 3), .slice (some la) ln lc]))
    (hgrow : (wr.alloc o).drew.grownBy w5 (Value.slice aa am ac).ownBlock) (hat : (Value.slice aa am ac).ownBlock = some g5 ∨ g5 = (wr.alloc o).drew.heap.size)
    (h6 : W6 = w5.setCell ⟨BB, 0, none⟩ (.slice (some ⟨g5, 0, none⟩) (m + 1) cap5)) (h7 : W7 = W6.setCell ⟨w.heap.size, 2, none⟩ (.slice (some ⟨g, 0, none⟩) ln (ln + 3)))
    (hf : Wf = ((W7.setCell ⟨w.heap.size + 1, 0, none⟩ (.int .i64 n)).setCell ⟨w.heap.size + 1, 1, none⟩ (.string s)).setCell ⟨w.heap.size + 1, 2, none⟩ (.slice (some ⟨g, 0, none⟩) ln (ln + 3))) :
    W6.cell? ⟨w.heap.size, 2, none⟩ = some (.slice (some la) ln lc) ∧ W6.frozen? ⟨w.heap.size, 2, none⟩ = false ∧ W7.cell? ⟨w.heap.size, 0, none⟩ = some (.int .i64 n) ∧ W7.cell? ⟨w.heap.size, 1, none⟩ = some (.string s) ∧ W7.cell? ⟨w.heap.size, 2, none⟩ = some (.slice (some ⟨g, 0, none⟩) ln (ln + 3)) ∧
    W7.cell? ⟨w.heap.size + 1, 0, none⟩ = some (.int .i64 0) ∧ W7.frozen? ⟨w.heap.size + 1, 0, none⟩ = false ∧
    (W7.setCell ⟨w.heap.size + 1, 0, none⟩ (.int .i64 n)).cell? ⟨w.heap.size + 1, 1, none⟩ = some (.string ⟨#[]⟩) ∧ (W7.setCell ⟨w.heap.size + 1, 0, none⟩ (.int .i64 n)).frozen? ⟨w.heap.size + 1, 1, none⟩ = false ∧
    ((W7.setCell ⟨w.heap.size + 1, 0, none⟩ (.int .i64 n)).setCell ⟨w.heap.size + 1, 1, none⟩ (.string s)).cell? ⟨w.heap.size + 1, 2, none⟩ = some (.slice none 0 0) ∧ ((W7.setCell ⟨w.heap.size + 1, 0, none⟩ (.int .i64 n)).setCell ⟨w.heap.size + 1, 1, none⟩ (.string s)).frozen? ⟨w.heap.size + 1, 2, none⟩ = false ∧
    Wf.cell? ⟨w.heap.size + 1, 0, none⟩ = some (.int .i64 n) ∧ Wf.cell? ⟨w.heap.size + 1, 1, none⟩ = some (.string s) ∧ Wf.cell? ⟨w.heap.size + 1, 2, none⟩ = some (.slice (some ⟨g, 0, none⟩) ln (ln + 3)) ∧
    ∃ av2 L2, LvRes w Wf BB base S av av2 L0 L2 (ps.map Prod.fst) (.slice (some la) ln lc) (.slice (some ⟨g, 0, none⟩) ln (ln + 3)) := by
  subst hln
  subst hm
  have hgs := h.gs
  have hsz := h.size
  have hfar := h.far hBB
  have hwa : (wr.alloc o).drew.heap.size = wr.heap.size + 1 := by show (wr.alloc o).heap.size = _; simp
  have hs5 := hgrow.size
  rw [hwa] at hs5
  have hg5 : g5 ≠ BB ∧ g5 ≠ w.heap.size ∧ g5 ≠ w.heap.size + 1 := by
    rcases hat with e | e
    · exact ⟨fun e' => h.lp.rowBB (e' ▸ e), fun e' => (hfar _ (Nat.le_refl _) (by omega)).2.1 (e' ▸ e), fun e' => (hfar _ (by omega) (by omega)).2.1 (e' ▸ e)⟩
    · rw [hwa] at e
      omega
  have hold : ∀ b, b < wr.heap.size → (Value.slice aa am ac).ownBlock ≠ some b → w5.heap[b]? = wr.heap[b]? := fun b hb hne =>
    (hgrow.block b (by rw [hwa]; omega) (fun e => hne e.symm)).trans ((below1 wr o).block b hb)
  have hbb5 : w5.heap[BB]? = some (.cells #[.slice aa am ac] 157) := (hold BB (ltOf h.lp.blk) h.lp.rowBB).trans h.lp.blk
  have hbb6 : W6.heap[BB]? = some (.cells #[.slice (some ⟨g5, 0, none⟩) ((L0 ++ L1).length + 1) cap5] 157) := by
    rw [h6]
    exact heap_setCell_same w5 BB 0 _ 157 _ hbb5
  have h6o : ∀ b, b ≠ BB → W6.heap[b]? = w5.heap[b]? := fun b hb => by rw [h6]; exact heap_setCell_other _ _ _ _ hb
  have hvb6 : W6.heap[w.heap.size]? = some (.cells #[.int .i64 n, .string s, .slice (some la) ps.length lc] 113) := (h6o _ (by omega)).trans ((hold _ (by omega) (hfar _ (Nat.le_refl _) (by omega)).2.1).trans h.vb)
  have hrb6 : W6.heap[w.heap.size + 1]? = some (.cells #[.int .i64 0, .string ⟨#[]⟩, .slice none 0 0] 113) := (h6o _ (by omega)).trans ((hold _ (by omega) (hfar _ (by omega) (by omega)).2.1).trans h.rb)
  have hvb7 : W7.heap[w.heap.size]? = some (.cells #[.int .i64 n, .string s, .slice (some ⟨g, 0, none⟩) ps.length (ps.length + 3)] 113) := by
    rw [h7]
    exact heap_setCell_same W6 w.heap.size 2 _ 113 _ hvb6
  have h7o : ∀ b, b ≠ w.heap.size → W7.heap[b]? = W6.heap[b]? := fun b hb => by rw [h7]; exact heap_setCell_other _ _ _ _ hb
  have hrb7 : W7.heap[w.heap.size + 1]? = some (.cells #[.int .i64 0, .string ⟨#[]⟩, .slice none 0 0] 113) := (h7o _ (by omega)).trans hrb6
  obtain ⟨k0, z0, k1, z1, k2, z2, hg3, hgr3, hs3⟩ := store3 W7 (w.heap.size + 1) 0 [] [] (.int .i64 0) (.string ⟨#[]⟩) (.slice none 0 0) 113 hrb7 rfl (.int .i64 n) (.string s) (.slice (some ⟨g, 0, none⟩) ps.length (ps.length + 3))
  simp only [Nat.zero_add] at k1 z1 k2 z2 hg3 hgr3 hs3
  rw [← hf] at hg3 hgr3 hs3
  refine ⟨cellOf hvb6 rfl, frozen_of_row _ _ _ _ _ hvb6, cellOf hvb7 rfl, cellOf hvb7 rfl, cellOf hvb7 rfl, k0, z0, k1, z1, k2, z2, cellOf hg3 rfl, cellOf hg3 rfl, cellOf hg3 rfl, ?_⟩
  have hfo : ∀ b, b < w5.heap.size → b ≠ BB → b ≠ w.heap.size → b ≠ w.heap.size + 1 → Wf.heap[b]? = w5.heap[b]? := fun b hb h1 h2 h3 => by
    rw [hgr3.block b (by rw [h7, h6]; simpa using hb) (by simpa using h3), h7o b h2, h6o b h1]
  have hsf : Wf.heap.size = w5.heap.size := by rw [hs3, h7, h6]; simp
  refine h.done (av2 := .slice (some ⟨g5, 0, none⟩) ((L0 ++ L1).length + 1) cap5) hBB hbw hl4 la lc hlc hw ?_ ?_ ?_ ?_ ?_ ?_ (by omega) ?_
  · rw [hgr3.block BB (by rw [h7, h6]; simp; omega) (by simp; omega), h7o BB (by omega)]
    exact hbb6
  · refine ⟨hown.1, ?_⟩
    rcases hown.2 with h0 | ⟨gg, cap, cur, hv, q1, q2, q3⟩
    · exact .inl h0
    · refine .inr ⟨gg, cap, cur, hv, q1, ?_, q3⟩
      cases hv
      rw [hfo _ (ltOf q2) hg5.1 hg5.2.1 hg5.2.2]
      exact q2
  · intro b hb hne hob hnb
    rw [hfo b (by omega) hne (fun e => hnb (.inl e)) (fun e => hnb (.inr e))]
    exact hold b hb hob
  · exact hgr3.os.trans (by rw [h7, h6]; exact hgrow.os)
  · exact hgr3.tape.trans (by rw [h7, h6]; exact hgrow.tape)
  · exact hgr3.output.trans (by rw [h7, h6]; exact hgrow.output)
  · rcases hat with e | e
    · exact .inl e.symm
    · rw [hwa] at e
      exact .inr ⟨g5, rfl, by omega⟩

set_option maxRecDepth 8000 in
set_option maxHeartbeats 4000000 in
theorem lv_row (w0 : World) (S : Nat → Prop) (ps : List (Orch.V × Value)) (la : Addr) (lc : Nat) (hlc : ps.length ≤ lc)
    (hw : ps ≠ [] → ∃ gl o, la = ⟨gl, o, none⟩ ∧ S gl ∧ ∀ j u, (ps.flatMap vcell)[j]? = some u → w0.cell? ⟨gl, o + j, none⟩ = some u)
    (hsh : ∀ p, p ∈ ps → ∃ a m c, p.2 = .slice a m c) (ih : ∀ p, p ∈ ps → LvSaid w0 S p.1.l p.2) : LvSaid w0 S (ps.map Prod.fst) (.slice (some la) ps.length lc) := by
  intro w BB base av L0 n s hws hlp hcnt
  have hln : ps.length ≤ 4000000 := by
    have := cntL_len (ps.map Prod.fst)
    rw [List.length_map] at this
    omega
  have HLP := hid hlp
  have HWS := hid hws
  have HIH := hid ih
  have HSH := hid hsh
  have HW : Hid (ps ≠ [] → ∃ gl o, la = ⟨gl, o, none⟩ ∧ S gl ∧ ∀ j u, (ps.flatMap vcell)[j]? = some u → w.cell? ⟨gl, o + j, none⟩ = some u) := fun h0 => by
    obtain ⟨gl, o, h1, h2, h3⟩ := hw h0
    exact ⟨gl, o, h1, h2, fun j u hj => (World.cell?_of_block (w := w0) (a := ⟨gl, o + j, none⟩) (hws gl h2)).trans (h3 j u hj)⟩
  have HCNT := hid hcnt
  have hBB : BB < w.heap.size := ltOf hlp.blk
  have hbw := hlp.le
  clear hlp hws ih hsh hw hcnt
  obtain ⟨n0, n1⟩ := new2 w (.cells #[.int .i64 n, .string s, .slice (some la) ps.length lc] 113) (.cells #[.int .i64 0, .string ⟨#[]⟩, .slice none 0 0] 113)
  have a2 := cellOf (j := 2) n0 rfl
  have q := some22 ((w.alloc (.cells #[.int .i64 n, .string s, .slice (some la) ps.length lc] 113)).alloc (.cells #[.int .i64 0, .string ⟨#[]⟩, .slice none 0 0] 113)) la ps.length lc
  obtain ⟨i0, hi0, hz0, hz1, hz2⟩ := info_parts Tryz.info113
  have hmk := run_make (P := Tryz.prog) ((w.alloc (.cells #[.int .i64 n, .string s, .slice (some la) ps.length lc] 113)).alloc (.cells #[.int .i64 0, .string ⟨#[]⟩, .slice none 0 0] 113)) 22 113 i0 _ Tryz.underlying22 hi0 hz0 .i64 .i64 ((ps.length : Int) + 3) ((ps.length : Int) + 3) (by omega) (by omega) (by rw [hz2]; omega) (by omega)
  rw [show ((ps.length : Int) + 3).toNat = ps.length + 3 by omega, hz1] at hmk
  have HLO : Hid (∃ qs av' L1, Lo w (((w.alloc (.cells #[.int .i64 n, .string s, .slice (some la) ps.length lc] 113)).alloc (.cells #[.int .i64 0, .string ⟨#[]⟩, .slice none 0 0] 113)).alloc (.cells (madeCells #[.int .i64 0, .string ⟨#[]⟩, .slice none 0 0] ((ps.length + 3) * 3)) 113)) BB base S av L0 #[.int .i64 n, .string s, .slice (some la) ps.length lc] ps (w.heap.size + 1 + 1) 0 qs av' L1) := ⟨[], av, [], Lo.start ps HLP.out rfl⟩
  clear n0 n1
  generalize hlnn : ps.length = ln at *
  have HLN := hid hlnn
  clear hlnn
  go_enter Tryz.func81, Tryz.ntmps81
  go_wp2
  clear hmk a2 q
  generalize ((w.alloc (.cells #[.int .i64 n, .string s, .slice (some la) ln lc] 113)).alloc (.cells #[.int .i64 0, .string ⟨#[]⟩, .slice none 0 0] 113)).alloc (.cells (madeCells #[.int .i64 0, .string ⟨#[]⟩, .slice none 0 0] ((ln + 3) * 3)) 113) = W0 at *
  generalize hgg : w.heap.size + 1 + 1 = g at *
  have HGG := hid hgg
  clear hgg
  go_loopw [7] (fun k wr => ∃ i : Nat, k = .int .i64 i ∧ i ≤ ln + 3 ∧ Hid (∃ qs av' L1, Lo w wr BB base S av L0 #[.int .i64 n, .string s, .slice (some la) ln lc] ps g i qs av' L1)) (fun k _ => ln + 3 - (intOf k).toNat)
  case atStart => exact ⟨0, rfl, Nat.zero_le _, HLO⟩
  case round =>
    obtain ⟨i, rfl, hi, HR⟩ := hrel
    obtain ⟨qs, av', L1, lo⟩ := HR.out
    have HL := hid lo
    clear HR lo
    have b2 := cellOf (j := 2) HL.out.vb rfl
    by_cases hlt : i < ln
    · have hltz : (i : Int) < (ln : Int) := by omega
      have hltz3 : (i : Int) < (ln : Int) + 3 := by omega
      have hip : i < ps.length := by rw [HLN.out]; exact hlt
      obtain ⟨gl, o, hla, hSg, hc⟩ := HW.out (by intro e; rw [e] at hip; simp at hip)
      subst hla
      obtain ⟨xa, xm, xc, hx⟩ := HSH.out ps[i] (List.getElem_mem hip)
      have hglw : gl < w.heap.size := by have := HLP.out.low gl hSg; omega
      have hblk : wr.heap[gl]? = w.heap[gl]? := HL.out.block gl hglw (by have := HLP.out.low gl hSg; omega) (HLP.out.rowS gl hSg)
      have hce : ∀ j u, (vcell ps[i])[j]? = some u → wr.cell? ⟨gl, o + i * 3 + j, none⟩ = some u := fun j u hj => by
        refine (World.cell?_of_block (w := w) (a := ⟨gl, o + i * 3 + j, none⟩) hblk).trans ?_
        rw [Nat.add_assoc]
        refine hc _ u ?_
        have hj3 : j < 3 := by have := (List.getElem?_eq_some_iff.1 hj).1; rwa [vcell_len] at this
        rw [flat_get vcell 3 vcell_len ps i j hj3, List.getElem?_eq_getElem hip, Option.bind_some]
        exact hj
      have e0 : wr.cell? ⟨gl, o + i * 3, none⟩ = some (.int .i64 ps[i].1.n) := hce 0 _ rfl
      have e1 : wr.cell? ⟨gl, o + i * 3 + 1, none⟩ = some (.string ps[i].1.s) := hce 1 _ rfl
      have e2 : wr.cell? ⟨gl, o + i * 3 + 2, none⟩ = some ps[i].2 := hce 2 _ rfl
      rw [hx] at e2
      have hcnt' : (L0 ++ L1).length + 1 + cntL (ps[i].1).l ≤ 4000000 := by
        have h1 := HL.out.cnt
        have h2 := cntL_take (ps.map Prod.fst) i (by simpa using hip)
        have h3 := cntL_take_le (ps.map Prod.fst) (i + 1)
        have h4 := HCNT.out
        have h5 := cntV_eq ps[i].1
        simp only [List.getElem_map] at h2
        rw [List.length_append]
        omega
      have HC := hid (HIH.out ps[i] (List.getElem_mem hip) wr BB base av' (L0 ++ L1) (ps[i].1).n (ps[i].1).s (fun b hb => (HL.out.block b (by have := HLP.out.low b hb; omega) (by have := HLP.out.low b hb; omega) (HLP.out.rowS b hb)).trans (HWS.out b hb)) HL.out.lp hcnt')
      rw [hx] at HC
      clear hce hc hblk hcnt'
      have HQ : Hid (ps[i] = (ps[i].1, Value.slice xa xm xc)) := by show _ = _; rw [← hx]
      clear hx
      have HST : Hid (∀ (w1 : World) (lv : Value) (av2 : Value) (L2 : List Loan), LvRes wr w1 BB base S av' av2 (L0 ++ L1) L2 (ps[i].1).l (.slice xa xm xc) lv → 
          w1.heap[g]? = some (.cells (qs.flatMap lcell ++ Value.int .i64 0 :: .string ⟨#[]⟩ :: .slice none 0 0 :: (List.replicate (ln + 2 - i) zer).flatten).toArray 113) ∧
          ∀ w2, w2.heap[g]? = some (.cells (qs.flatMap lcell ++ Value.int .i64 (ps[i].1).n :: .string (ps[i].1).s :: lv :: (List.replicate (ln + 2 - i) zer).flatten).toArray 113) → w1.grownBy w2 (some g) → ∃ qs av' L1, Lo w w2 BB base S av L0 #[.int .i64 n, .string s, .slice (some ⟨gl, o, none⟩) ln lc] ps g (i + 1) qs av' L1) := by
        intro w1 lv av2 L2 hr
        have hfar := HL.out.far hBB
        have hgs := HL.out.gs
        refine ⟨?_, fun w2 hg2 hgr => ?_⟩
        · rw [hr.block g HL.out.size (by omega) (hfar g (by omega) (Nat.le_refl _)).2.1, HL.out.blk, ← rowAt_elem, HLN.out, show i - ln = 0 by omega, show ln + 3 - i = ln + 2 - i + 1 by omega]
        · rw [show (Value.int .i64 (ps[i].1).n :: .string (ps[i].1).s :: lv :: (List.replicate (ln + 2 - i) zer).flatten) = (Value.int .i64 ((ps[i].1, Value.slice xa xm xc, lv) : Orch.V × Value × Value).1.n :: .string ((ps[i].1, Value.slice xa xm xc, lv) : Orch.V × Value × Value).1.s :: ((ps[i].1, Value.slice xa xm xc, lv) : Orch.V × Value × Value).2.2 :: (List.replicate (ln + 2 - i) zer).flatten) from rfl, rowAt_elem'] at hg2
          have hp2 : ps[i].2 = Value.slice xa xm xc := congrArg Prod.snd HQ.out
          refine ⟨_, _, _, HL.out.elem hBB hip lv (w1 := w1) (av2 := av2) (L2 := L2) ?_ ?_ hgr⟩
          · rw [hp2]; exact hr
          · rw [hp2, HLN.out, show ln + 3 - (i + 1) = ln + 2 - i by omega]; exact hg2
      have HQL : Hid ((qs.flatMap lcell).length = i * 3) := by
        show _ = _
        rw [flat_len lcell 3 (fun _ => rfl), HL.out.qlen, HLN.out, Nat.min_eq_left (by omega)]
      clear HQ HL
      generalize ps[i].1 = v at *
      go_wp2_with (go_at_call 81; refine HC.out.mono ?_; rintro e w1 ⟨ra, rn, rc, av2, L2, rfl, hres⟩; obtain ⟨hg1, hnext⟩ := HST.out w1 _ av2 L2 hres; obtain ⟨k0, z0, k1, z1, k2, z2, hg3, hgr3, _⟩ := store3 w1 g (i * 3) _ _ _ _ _ 113 hg1 HQL.out (.int .i64 v.n) (.string v.s) (.slice ra rn rc); have HNX := hid (hnext _ hg3 hgr3); clear hres hg1 hnext hg3 hgr3 HST HC)
      all_goals go_roundw
      all_goals try (case rel => exact ⟨i + 1, by go_num, by omega, HNX⟩)
      all_goals try (case measure => simp [intOf]; omega)
    · have hltz : ¬ (i : Int) < (ln : Int) := by omega
      by_cases hlt3 : i < ln + 3
      · have hltz3 : (i : Int) < (ln : Int) + 3 := by omega
        have hblk := HL.out.blk
        rw [HLN.out, show ln + 3 - i = ln + 2 - i + 1 by omega, rowAt_room] at hblk
        have hlen : (qs.flatMap lcell ++ (List.replicate (i - ln) bey).flatten).length = i * 3 := by
          rw [room_len, HL.out.qlen, HLN.out, Nat.min_eq_right (by omega), show ln + (i - ln) = i by omega]
        obtain ⟨k0, z0, k1, z1, k2, z2, hg3, hgr3, _⟩ := store3 wr g (i * 3) _ _ _ _ _ 113 hblk hlen (.int .i64 77) (.string ⟨#[]⟩) (.slice none 0 0)
        rw [rowAt_room', show i - ln + 1 = i + 1 - ln by omega, show ln + 2 - i = ln + 3 - (i + 1) by omega] at hg3
        have HNX : Hid (∃ qs av' L1, Lo w _ BB base S av L0 #[.int .i64 n, .string s, .slice (some la) ln lc] ps g (i + 1) qs av' L1) := ⟨qs, av', L1, HL.out.room hBB (by rw [HLN.out]; omega) (by rw [HLN.out]; exact hg3) hgr3⟩
        clear hblk hlen hg3 hgr3
        go_wp2
        all_goals go_roundw
        all_goals try (case rel => exact ⟨i + 1, by go_num, by omega, HNX⟩)
        all_goals try (case measure => simp [intOf]; omega)
      · have hltz3 : ¬ (i : Int) < (ln : Int) + 3 := by omega
        have hie : i = ln + 3 := by omega
        have HLE : Hid (Lo w wr BB base S av L0 #[.int .i64 n, .string s, .slice (some la) ln lc] ps g (ps.length + 3) qs av' L1) := by
          have h := HL.out
          rw [hie, ← HLN.out] at h
          rw [HLN.out] at h
          show Lo _ _ _ _ _ _ _ _ _ _ _ _ _ _
          rw [HLN.out]
          exact h
        clear HL
        obtain ⟨aa, am, ac, hav⟩ : ∃ a m c, av' = .slice a m c := by
          rcases HLE.out.lp.row.2 with ⟨h0, _⟩ | ⟨g', cap', cur, h0, _⟩
          · exact ⟨_, _, _, h0⟩
          · exact ⟨_, _, _, h0⟩
        subst hav
        have hbb0 := cellOf (j := 0) HLE.out.lp.blk rfl
        have HNEWB := hid (heap_alloc_new wr (.cells #[.slice (some ⟨g, 0, none⟩) (ln + 3) (ln + 3), .slice (some la) ln lc] 221))
        have HLPA := hid (HLE.out.lp.below (below1 wr (.cells #[.slice (some ⟨g, 0, none⟩) (ln + 3) (ln + 3), .slice (some la) ln lc] 221)))
        have hbb1 := cellOf (j := 0) HLPA.out.blk rfl
        have b2a := ((below1 wr (.cells #[.slice (some ⟨g, 0, none⟩) (ln + 3) (ln + 3), .slice (some la) ln lc] 221)).cell (p := ⟨w.heap.size, 2, none⟩) (ltOf HLE.out.vb)).trans b2
        obtain ⟨j0, hj0, hy0, hy1, hy2⟩ := info_parts Tryz.info221
        have hbyt : ((L0 ++ L1).length + 1) * 48 ≤ 140737488355328 := by
          have h1 := HLE.out.cnt
          rw [List.take_of_length_le (by simp)] at h1
          have h2 := HCNT.out
          rw [List.length_append]
          omega
        obtain ⟨m, hm⟩ : ∃ m, m = (L0 ++ L1).length := ⟨_, rfl⟩
        rw [← hm] at hbyt
        have HROWM := HLPA.out.row
        rw [← hm] at HROWM
        have HROWM := hid HROWM
        have HM := hid hm
        have HBYT := hid hbyt
        clear hbyt hm
        go_wp2
        go_region_law (refine step_append_lies _ rfl (.tmp 45) (.tmp 50) 155 rfl base 221 j0 _ 2 48 Tryz.underlying155 hj0 hy0 hy1 hy2 rfl (by decide) (.slice aa am ac) m ((L0 ++ L1).flatMap loanc) (by simp [Act.eval]) HROWM.out.drew ⟨wr.heap.size, 0, none⟩ 1 1 _ (by simp [Act.eval]) (by rfl) (World.news_of_block HNEWB.out) (by intro u hu; simp at hu; rcases hu with rfl | rfl <;> rfl) (by omega) (by have := HBYT.out; unfold maxLen; omega) HBYT.out (by show base ≤ _; exact HLPA.out.le) _ rfl ?_; intro g5 cap5 w5 hown5 hgrow5 hat5 hlt5; have HK5 := hid ((hgrow5.block BB (by show BB < _; exact ltOf HLPA.out.blk) (fun e => HLPA.out.rowBB e.symm)).trans HLPA.out.blk); have k5 := cellOf (j := 0) HK5.out rfl; have z5 := frozen_of_row w5 BB 0 _ _ HK5.out; have HOWN5 := hid hown5; have HGR5 := hid hgrow5; have HAT5 := hid hat5; clear hown5 hgrow5 hat5)
        all_goals
          obtain ⟨y0, y1, y2, y3, y4, y5, y6, y7, y8, y9, y10, r0, r1, r2, hfin⟩ := lv_end HLE.out HLN.out hln hBB hbw hlc HW.out HM.out HOWN5.out HGR5.out HAT5.out rfl rfl rfl
          have HFIN := hid hfin
          clear hfin k5 z5 HOWN5 HGR5 HAT5 HK5
          go_wp2
        all_goals
          obtain ⟨av2, L2, hres⟩ := HFIN.out
          exact bodyPost_ret (v := vv n s (.slice (some ⟨g, 0, none⟩) ln (ln + 3))) (by simp [results, Tryz.results81, go_sem, r0, r1, r2]) rfl ⟨_, _, _, av2, L2, rfl, hres⟩

/-- A value is lent. -/
theorem lv_any {w0 : World} {S : Nat → Prop} {vs : List Orch.V} {ov : Value} (h : WsAt w0 S vs ov) : LvSaid w0 S vs ov := by
  induction h with
  | nil => exact lv_nil w0 S
  | emp a c => exact lv_row w0 S [] a c (Nat.zero_le _) (fun h => absurd rfl h) (fun p hp => by cases hp) (fun p hp => by cases hp)
  | row ps g o cap h0 hcap hS hc hr ih =>
    refine lv_row w0 S ps ⟨g, o, none⟩ cap hcap (fun _ => ⟨g, o, rfl, hS, hc⟩) (fun p hp => ?_) ih
    obtain ⟨a, c, h⟩ := (hr p hp).shape
    exact ⟨a, _, c, h⟩
end Go.Proofs.YtlghcldiboecoaaGreatDoor
