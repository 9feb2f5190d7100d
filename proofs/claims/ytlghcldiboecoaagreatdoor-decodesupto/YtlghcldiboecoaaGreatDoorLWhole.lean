/- The caller's loans: halfway through the look at them. -/
import Derived.Test.YtlghcldiboecoaaGreatDoorLStep
import Derived.Deep.RegionLaw
set_option linter.unusedVariables false
namespace Go.Proofs.YtlghcldiboecoaaGreatDoor
open Go.RowKit

/-- A list whose first i places are written over. -/
def half (ps : List (Orch.V × Value × Value)) (i : Nat) : List Value := (List.replicate i ovr).flatten ++ (lrow ps).drop (i * 3)

theorem half_zero (ps : List (Orch.V × Value × Value)) : half ps 0 = lrow ps := by simp [half]
theorem half_end (ps : List (Orch.V × Value × Value)) : half ps (ps.length + 3) = orow ps.length := by
  rw [half, List.drop_of_length_le (by rw [lrow_len]; omega), List.append_nil]
  rfl
theorem over_len (i : Nat) : (List.replicate i ovr).flatten.length = i * 3 := by simp [ovr]

theorem lrow_get (ps : List (Orch.V × Value × Value)) (i : Nat) (hi : i < ps.length) : (lrow ps).drop (i * 3) = .int .i64 ps[i].1.n :: .string ps[i].1.s :: ps[i].2.2 :: (lrow ps).drop ((i + 1) * 3) := by
  have h0 : ∀ j, j < 3 → (lrow ps)[i * 3 + j]? = (lcell ps[i])[j]? := fun j hj => by
    have hlt : i * 3 + j < (ps.flatMap lcell).length := by rw [flat_len lcell 3 (fun _ => rfl)]; omega
    rw [lrow, List.getElem?_append_left hlt, flat_get lcell 3 (fun _ => rfl) ps i j hj, List.getElem?_eq_getElem hi, Option.bind_some]
  apply List.ext_getElem?
  intro j
  rw [List.getElem?_drop]
  match j with
  | 0 => rw [h0 0 (by omega)]; rfl
  | 1 => rw [h0 1 (by omega)]; rfl
  | 2 => rw [h0 2 (by omega)]; rfl
  | j + 3 =>
    simp only [List.getElem?_cons_succ]
    rw [List.getElem?_drop]
    congr 1
    omega

theorem lrow_room (ps : List (Orch.V × Value × Value)) (i : Nat) (h1 : ps.length ≤ i) (h2 : i < ps.length + 3) : (lrow ps).drop (i * 3) = .int .i64 77 :: .string ⟨#[]⟩ :: .slice none 0 0 :: (lrow ps).drop ((i + 1) * 3) := by
  obtain ⟨k, rfl⟩ : ∃ k, i = ps.length + k := ⟨i - ps.length, by omega⟩
  have hl : (ps.flatMap lcell).length = ps.length * 3 := flat_len lcell 3 (fun _ => rfl) ps
  have hd : ∀ m, (lrow ps).drop ((ps.length + m) * 3) = ((List.replicate 3 bey).flatten).drop (m * 3) := fun m => by
    rw [lrow, show (ps.length + m) * 3 = (ps.flatMap lcell).length + m * 3 by rw [hl]; omega, List.drop_append]
    simp
  rw [hd, show ps.length + k + 1 = ps.length + (k + 1) by omega, hd]
  rcases (show k = 0 ∨ k = 1 ∨ k = 2 by omega) with rfl | rfl | rfl <;> rfl

theorem half_step (ps : List (Orch.V × Value × Value)) (i : Nat) : (List.replicate i ovr).flatten ++ Value.int .i64 (-5) :: .string ⟨#[]⟩ :: .slice none 0 0 :: (lrow ps).drop ((i + 1) * 3) = half ps (i + 1) := by
  rw [half, show List.replicate (i + 1) ovr = List.replicate i ovr ++ [ovr] from List.replicate_succ', List.flatten_append]
  simp [ovr]

theorem orow_get (n i : Nat) (hi : i < n + 3) : (orow n)[i * 3]? = some (.int .i64 (-5)) ∧ (orow n)[i * 3 + 1]? = some (.string ⟨#[]⟩) ∧ (orow n)[i * 3 + 2]? = some (.slice none 0 0) := by
  have h : ∀ m i j, i < m → j < 3 → ((List.replicate m ovr).flatten)[i * 3 + j]? = ovr[j]? := by
    intro m
    induction m with
    | zero => intro i j h; omega
    | succ m ih =>
      intro i j hi hj
      rw [List.replicate_succ, List.flatten_cons]
      cases i with
      | zero => rw [Nat.zero_mul, Nat.zero_add, List.getElem?_append_left (by simpa [ovr] using hj)]
      | succ i =>
        rw [List.getElem?_append_right (by simp [ovr]; omega), show ovr.length = 3 from rfl, show (i + 1) * 3 + j - 3 = i * 3 + j by omega]
        exact ih i j (by omega) hj
  exact ⟨h _ i 0 hi (by omega), h _ i 1 hi (by omega), h _ i 2 hi (by omega)⟩

/-- k lists are written over, and i places of the next. -/
structure Md (w W : World) (Ls : List Loan) (k i : Nat) : Prop where
  done : ∀ (j : Nat) (L : Loan), Ls[j]? = some L → j < k → W.heap[L.g]? = some (.cells (orow L.ps.length).toArray 113)
  now : ∀ (L : Loan), Ls[k]? = some L → W.heap[L.g]? = some (.cells (half L.ps i).toArray 113)
  rest : ∀ (j : Nat) (L : Loan), Ls[j]? = some L → k < j → W.heap[L.g]? = some (.cells (lrow L.ps).toArray 113)
  other : ∀ b, b < w.heap.size → (∀ L : Loan, L ∈ Ls → L.g ≠ b) → W.heap[b]? = w.heap[b]?
  os : W.os = w.os
  tape : W.tape = w.tape
  output : W.output = w.output
  size : w.heap.size ≤ W.heap.size

theorem Md.start {w : World} {BB base : Nat} {S : Nat → Prop} {av : Value} {Ls : List Loan} (h : Lp w BB base S av Ls) : Md w w Ls 0 0 :=
  ⟨fun j L _ hj => by omega, fun L hL => by rw [half_zero]; exact (h.loan 0 L hL).1, fun j L hL _ => (h.loan j L hL).1, fun _ _ _ => rfl, rfl, rfl, rfl, Nat.le_refl _⟩

theorem Md.below {w W W' : World} {Ls : List Loan} {k i : Nat} (h : Md w W Ls k i) (hb : Below W.heap.size W W') : Md w W' Ls k i :=
  ⟨fun j L hL hj => (hb.block _ (ltOf (h.done j L hL hj))).trans (h.done j L hL hj), fun L hL => (hb.block _ (ltOf (h.now L hL))).trans (h.now L hL), fun j L hL hj => (hb.block _ (ltOf (h.rest j L hL hj))).trans (h.rest j L hL hj),
    fun b hb' hn => (hb.block b (Nat.lt_of_lt_of_le hb' h.size)).trans (h.other b hb' hn), hb.os.trans h.os, hb.tape.trans h.tape, hb.output.trans h.output, Nat.le_trans h.size hb.size⟩

theorem Md.step {w W W' : World} {BB base : Nat} {S : Nat → Prop} {av : Value} {Ls : List Loan} {k i : Nat} (hp : Lp w BB base S av Ls) (h : Md w W Ls k i) {L : Loan} (hL : Ls[k]? = some L) (hg : W'.heap[L.g]? = some (.cells (half L.ps (i + 1)).toArray 113)) (hgr : W.grownBy W' (some L.g)) : Md w W' Ls k (i + 1) := by
  have hne : ∀ j M, Ls[j]? = some M → j ≠ k → some M.g ≠ some L.g := fun j M hM hj e => hj (hp.one j k M L hM hL (by simpa using e))
  refine ⟨fun j M hM hj => (hgr.block _ (ltOf (h.done j M hM hj)) (hne j M hM (by omega))).trans (h.done j M hM hj), fun M hM => ?_, fun j M hM hj => (hgr.block _ (ltOf (h.rest j M hM hj)) (hne j M hM (by omega))).trans (h.rest j M hM hj),
    fun b hb hn => (hgr.block b (Nat.lt_of_lt_of_le hb h.size) (fun e => hn L (List.mem_of_getElem? hL) (by simpa using e.symm))).trans (h.other b hb hn), hgr.os.trans h.os, hgr.tape.trans h.tape, hgr.output.trans h.output, Nat.le_trans h.size hgr.size⟩
  rw [hL] at hM
  cases hM
  exact hg

theorem Md.next {w W : World} {Ls : List Loan} {k : Nat} {L : Loan} (h : Md w W Ls k (L.ps.length + 3)) (hL : Ls[k]? = some L) : Md w W Ls (k + 1) 0 := by
  refine ⟨fun j M hM hj => ?_, fun M hM => ?_, fun j M hM hj => h.rest j M hM (by omega), h.other, h.os, h.tape, h.output, h.size⟩
  · by_cases hjk : j < k
    · exact h.done j M hM hjk
    · have : j = k := by omega
      subst this
      rw [hL] at hM
      cases hM
      rw [h.now L hL, half_end]
  · rw [half_zero]
    exact h.rest (k + 1) M hM (by omega)
end Go.Proofs.YtlghcldiboecoaaGreatDoor

/- The caller's loans: all are as they were, and are written over (whole). -/
set_option linter.unusedVariables false
namespace Go.Proofs.YtlghcldiboecoaaGreatDoor
open Go.RowKit

/-- A value that was lent stands. -/
theorem stand_any {w W : World} {BB base : Nat} {S : Nat → Prop} {av : Value} {Ls : List Loan} {k i : Nat} (hp : Lp w BB base S av Ls) (h : Md w W Ls k i) {L : Loan} (hL : Ls[k]? = some L) {p : Orch.V × Value × Value} (hpm : p ∈ L.ps) (hlen : ∀ L : Loan, L ∈ Ls → L.ps.length ≤ 140737488355328) :
    Calls Tryz.prog 132 #[vv p.1.n p.1.s p.2.2, vv p.1.n p.1.s p.2.1] W fun e w' => e = .returned (.bool true) ∧ Below W.heap.size W w' := by
  rcases (hp.loan k L hL).2.2.2 p hpm with ⟨ho, hl⟩ | ⟨M, oa, oc, hM, ho, hl⟩
  · rw [ho, hl]
    exact stands_nil W p.1.n p.1.s
  · rw [ho, hl]
    obtain ⟨j, hj⟩ := List.mem_iff_getElem?.1 hM
    have hjk : j < k := by
      have := (List.getElem?_eq_some_iff.1 hj).1
      rw [List.length_take] at this
      omega
    have hj' : Ls[j]? = some M := by rw [← hj, List.getElem?_take, if_pos hjk]
    have hd := h.done j M hj' hjk
    refine stands_some W p.1.n p.1.s ⟨M.g, 0, none⟩ oa M.ps.length (M.ps.length + 3) oc (by omega) (hlen M (List.mem_of_getElem? hj')) M.g rfl (ltOf hd) fun i hi => ?_
    obtain ⟨a, b, c⟩ := orow_get M.ps.length i (by omega)
    exact ⟨cellOf hd (by simpa using a), cellOf hd (by simpa using b), cellOf hd (by simpa using c)⟩

set_option maxRecDepth 8000 in
set_option maxHeartbeats 4000000 in
theorem loans_whole (w : World) (BB base : Nat) (S : Nat → Prop) (av : Value) (Ls : List Loan) (hp : Lp w BB base S av Ls) (hlen : ∀ L : Loan, L ∈ Ls → L.ps.length ≤ 4000000) (hm : Ls.length ≤ 4000000) :
    Calls Tryz.prog 86 #[.pointer (some ⟨BB, 0, none⟩)] w fun e w' => e = .returned (.bool true) ∧ ∃ k i, Md w w' Ls k i := by
  have HP := hid hp
  have HLEN := hid hlen
  have HMD : Hid (Md w w Ls 0 0) := Md.start hp
  obtain ⟨aa, ac, hav⟩ : ∃ a c, av = .slice a Ls.length c := by
    rcases hp.row.2 with ⟨h0, h1⟩ | ⟨g', cap', cur, h0, _⟩
    · rw [h1]; exact ⟨_, _, h0⟩
    · exact ⟨_, _, h0⟩
  subst hav
  clear hp hlen
  generalize hmm : Ls.length = m at *
  have HMM := hid hmm
  clear hmm
  have HBB : Hid (∀ W k i, Md w W Ls k i → W.heap[BB]? = some (.cells #[.slice aa m ac] 157)) := fun W k i h => (h.other BB (ltOf HP.out.blk) (fun L hL => HP.out.loanBB hL)).trans HP.out.blk
  go_enter Tryz.func86, Tryz.ntmps86
  go_wp2
  go_loopw [3, 4] (fun b k wr => ∃ j : Nat, b = .bool true ∧ k = .int .i64 j ∧ j ≤ m ∧ Hid (Md w wr Ls j 0)) (fun _ k _ => m - (intOf k).toNat)
  case atStart => exact ⟨0, rfl, rfl, Nat.zero_le _, HMD⟩
  case round =>
    obtain ⟨k, rfl, rfl, hk, HM⟩ := hrel
    have b0 := cellOf (j := 0) (HBB.out wr k 0 HM.out) rfl
    by_cases hlt : k < m
    · have hltz : (k : Int) < (m : Int) := by omega
      have hkl : k < Ls.length := by rw [HMM.out]; exact hlt
      obtain ⟨L, hL⟩ : ∃ L, Ls[k]? = some L := ⟨_, List.getElem?_eq_getElem hkl⟩
      have HL := hid hL
      have hLm := List.mem_of_getElem? hL
      obtain ⟨_, hLb, ⟨wa, wc, hwant, hwc, hwcell⟩, _⟩ := HP.out.loan k L hL
      have hLlt := HP.out.loanLt hLm
      have hn := HLEN.out L hLm
      obtain ⟨ag, hag⟩ : ∃ ag, aa = some ⟨ag, 0, none⟩ := by
        rcases HP.out.row.2 with ⟨_, h1⟩ | ⟨g', cap', cur, h0, _⟩
        · rw [HMM.out] at h1; omega
        · cases h0; exact ⟨_, rfl⟩
      subst hag
      have hagc : m ≤ ac := by
        rcases HP.out.row.2 with ⟨h0, _⟩ | ⟨g', cap', cur, h0, _, _, h3, _⟩
        · cases h0
        · cases h0; rw [HMM.out] at h3; exact h3
      have hrow : ∀ j u, (loanc L)[j]? = some u → wr.cell? ⟨ag, k * 2 + j, none⟩ = some u := fun j u hj => by
        have hj2 : j < 2 := by have := (List.getElem?_eq_some_iff.1 hj).1; simpa [loanc] using this
        have h1 := HP.out.row.cells rfl (k * 2 + j) u (by rw [flat_get loanc 2 (fun _ => rfl) Ls k j hj2, hL, Option.bind_some]; exact hj)
        rw [Addr.add_lit, Nat.zero_add] at h1
        refine (World.cell?_of_block (w := w) (a := ⟨ag, k * 2 + j, none⟩) (HM.out.other ag (HP.out.row.lt ag rfl).2 (fun M hM e => HP.out.loanRow hM (by rw [e]; rfl)))).trans h1
      have r0 : wr.cell? ⟨ag, k * 2, none⟩ = some (.slice (some ⟨L.g, 0, none⟩) (L.ps.length + 3) (L.ps.length + 3)) := hrow 0 _ rfl
      have r1 : wr.cell? ⟨ag, k * 2 + 1, none⟩ = some (.slice (some wa) L.ps.length wc) := by rw [← hwant]; exact hrow 1 _ rfl
      have HX := hid (heap_alloc_new wr (.cells #[.slice (some ⟨L.g, 0, none⟩) (L.ps.length + 3) (L.ps.length + 3), .slice (some wa) L.ps.length wc] 221))
      have HM1 : Hid (Md w (wr.alloc (.cells #[.slice (some ⟨L.g, 0, none⟩) (L.ps.length + 3) (L.ps.length + 3), .slice (some wa) L.ps.length wc] 221)) Ls k 0) := HM.out.below (below1 _ _)
      have x1 := cellOf (j := 1) HX.out rfl
      have HWC : Hid (∀ W i (hi : i < L.ps.length), Md w W Ls k i → ∃ gl o, wa = ⟨gl, o, none⟩ ∧ ∀ j u, (ocell L.ps[i])[j]? = some u → W.cell? ⟨gl, o + i * 3 + j, none⟩ = some u) := fun W i hi h => by
        obtain ⟨gl, o, hwa, hSg, hc⟩ := hwcell (by intro e; rw [e] at hi; simp at hi)
        have hlow := HP.out.low gl hSg
        have hlt' := HP.out.lt
        have hle := HP.out.le
        refine ⟨gl, o, hwa, fun j u hj => ?_⟩
        refine (World.cell?_of_block (w := w) (a := ⟨gl, o + i * 3 + j, none⟩) (h.other gl (by omega) (fun M hM => by have := HP.out.loanBase hM; omega))).trans ?_
        rw [Nat.add_assoc]
        refine hc _ u ?_
        have hj3 : j < 3 := by have := (List.getElem?_eq_some_iff.1 hj).1; simpa [ocell, vcell] using this
        rw [flat_get ocell 3 (fun _ => rfl) L.ps i j hj3, List.getElem?_eq_getElem hi, Option.bind_some]
        exact hj
      clear hrow hwcell hL hkl
      have hXb : w.heap.size ≤ wr.heap.size := HM.out.size
      go_wp2
      clear r0 r1 x1 b0
      generalize hxb : wr.heap.size = xb at *
      clear hxb
      go_loopw [3, 7] (fun b k' wi => ∃ i : Nat, b = .bool true ∧ k' = .int .i64 i ∧ i ≤ L.ps.length + 3 ∧ Hid (Md w wi Ls k i) ∧ Hid (wi.heap[xb]? = some (.cells #[.slice (some ⟨L.g, 0, none⟩) (L.ps.length + 3) (L.ps.length + 3), .slice (some wa) L.ps.length wc] 221))) (fun _ k' _ => L.ps.length + 3 - (intOf k').toNat)
      case atStart => exact ⟨0, rfl, rfl, Nat.zero_le _, HM1, HX⟩
      case round =>
        obtain ⟨i, rfl, rfl, hi, HI, HXI⟩ := hrel
        have x0 := cellOf (j := 0) HXI.out rfl
        have x1 := cellOf (j := 1) HXI.out rfl
        have hnow := HI.out.now L HL.out
        have HNEXT : Hid (∀ w2 w3, Below wr.heap.size wr w2 → w3.heap[L.g]? = some (.cells ((List.replicate i ovr).flatten ++ Value.int .i64 (-5) :: .string ⟨#[]⟩ :: .slice none 0 0 :: (lrow L.ps).drop ((i + 1) * 3)).toArray 113) → w2.grownBy w3 (some L.g) → Md w w3 Ls k (i + 1) ∧ w3.heap[xb]? = some (.cells #[.slice (some ⟨L.g, 0, none⟩) (L.ps.length + 3) (L.ps.length + 3), .slice (some wa) L.ps.length wc] 221)) := by
          intro w2 w3 hb h3 hgr
          rw [half_step] at h3
          refine ⟨(HI.out.below hb).step HP.out HL.out h3 hgr, ?_⟩
          have hlt2 := ltOf HXI.out
          exact (hgr.block xb (Nat.lt_of_lt_of_le hlt2 hb.size) (by simp; omega)).trans ((hb.block xb hlt2).trans HXI.out)
        by_cases hin : i < L.ps.length
        · have hinz : (i : Int) < (L.ps.length : Int) := by omega
          have hinz3 : (i : Int) < ((L.ps.length + 3 : Nat) : Int) := by omega
          rw [half, lrow_get L.ps i hin] at hnow
          have c0 : wr.cell? ⟨L.g, i * 3, none⟩ = some (.int .i64 L.ps[i].1.n) := (store3 wr L.g (i * 3) _ _ _ _ _ 113 hnow (over_len i) (.int .i64 0) (.int .i64 0) (.int .i64 0)).1
          have c1 : wr.cell? ⟨L.g, i * 3 + 1, none⟩ = some (.string L.ps[i].1.s) := cellOf (j := i * 3 + 1) hnow (by rw [List.getElem?_toArray, List.getElem?_append_right (by rw [over_len]; omega), over_len, show i * 3 + 1 - i * 3 = 1 by omega]; rfl)
          have c2 : wr.cell? ⟨L.g, i * 3 + 2, none⟩ = some L.ps[i].2.2 := cellOf (j := i * 3 + 2) hnow (by rw [List.getElem?_toArray, List.getElem?_append_right (by rw [over_len]; omega), over_len, show i * 3 + 2 - i * 3 = 2 by omega]; rfl)
          obtain ⟨gl, o, hwa, hoc⟩ := HWC.out wr i hin HI.out
          subst hwa
          have d0 : wr.cell? ⟨gl, o + i * 3, none⟩ = some (.int .i64 L.ps[i].1.n) := hoc 0 _ rfl
          have d1 : wr.cell? ⟨gl, o + i * 3 + 1, none⟩ = some (.string L.ps[i].1.s) := hoc 1 _ rfl
          have d2 : wr.cell? ⟨gl, o + i * 3 + 2, none⟩ = some L.ps[i].2.1 := hoc 2 _ rfl
          have HST : Hid (∀ W, Below wr.heap.size wr W → Calls Tryz.prog 132 #[vv L.ps[i].1.n L.ps[i].1.s L.ps[i].2.2, vv L.ps[i].1.n L.ps[i].1.s L.ps[i].2.1] W fun e w' => e = .returned (.bool true) ∧ Below W.heap.size W w') := fun W hb =>
            stand_any HP.out (HI.out.below hb) HL.out (List.getElem_mem hin) (fun M hM => Nat.le_trans (HLEN.out M hM) (by omega))
          have o2 : L.ps[i].2.2.oneCell' = true ∧ L.ps[i].2.1.oneCell' = true := by
            rcases (HP.out.loan k L HL.out).2.2.2 _ (List.getElem_mem hin) with ⟨ho, hl⟩ | ⟨M, oa, oc, hM, ho, hl⟩ <;> rw [ho, hl] <;> exact ⟨rfl, rfl⟩
          obtain ⟨⟨l1, l2, l3, hl⟩, ⟨q1, q2, q3, hq⟩⟩ : (∃ a n c, L.ps[i].2.2 = .slice a n c) ∧ (∃ a n c, L.ps[i].2.1 = .slice a n c) := by
            rcases (HP.out.loan k L HL.out).2.2.2 _ (List.getElem_mem hin) with ⟨ho, hl⟩ | ⟨M, oa, oc, hM, ho, hl⟩ <;> rw [ho, hl] <;> exact ⟨⟨_, _, _, rfl⟩, ⟨_, _, _, rfl⟩⟩
          have HNOW := hid hnow
          clear hnow hoc o2
          rw [hl] at c2 HST HNOW
          rw [hq] at d2 HST
          clear hl hq
          generalize L.ps[i].1 = v at *
          go_wp2
          go_region_with (go_at_call 132; refine (HST.out _ (by first | exact Below.refl _ _ | exact below_drew' wr)).mono ?_; rintro e w1 ⟨rfl, hb⟩; have HB1 : Hid (Below wr.heap.size wr w1) := (by first | exact hb | exact (below_drew' wr).trans hb); have HX1 : Hid (w1.heap[xb]? = _) := (HB1.out.block _ (ltOf HXI.out)).trans HXI.out; have HNOW1 : Hid (w1.heap[L.g]? = _) := (HB1.out.block _ (ltOf HNOW.out)).trans HNOW.out; have t0 := cellOf (j := 0) HX1.out rfl; clear hb)
          all_goals go_wp2
          all_goals go_region_with (go_at_call 133; refine (over_any _).mono ?_; rintro e w2 ⟨rfl, hb⟩; have hbb : Below w1.heap.size w1 w2 := (by first | exact hb | exact (below_drew' w1).trans hb); have y0 := (hbb.cell (p := ⟨xb, 0, none⟩) (ltOf HX1.out)).trans t0; have hn2 := (hbb.block _ (ltOf HNOW1.out)).trans HNOW1.out; obtain ⟨k0, z0, k1, z1, k2, z2, hg3, hgr3, _⟩ := store3 w2 L.g (i * 3) _ _ _ _ _ 113 hn2 (over_len i) (.int .i64 (-5)) (.string ⟨#[]⟩) (.slice none 0 0); have HNX := hid (HNEXT.out w2 _ (HB1.out.trans (hbb.mono HB1.out.size)) hg3 hgr3); clear hb hbb hn2 hg3 hgr3)
          all_goals go_wp2
          all_goals go_roundw
          all_goals try (case rel => exact ⟨i + 1, rfl, by go_num, by omega, HNX.out.1, HNX.out.2⟩)
          all_goals try (case measure => simp [intOf]; omega)
        · have hinz : ¬ (i : Int) < (L.ps.length : Int) := by omega
          by_cases hin3 : i < L.ps.length + 3
          · have hinz3 : (i : Int) < ((L.ps.length + 3 : Nat) : Int) := by omega
            rw [half, lrow_room L.ps i (by omega) hin3] at hnow
            have c0 := (store3 wr L.g (i * 3) _ _ _ _ _ 113 hnow (over_len i) (.int .i64 0) (.int .i64 0) (.int .i64 0)).1
            have c1 := cellOf (j := i * 3 + 1) hnow (by rw [List.getElem?_toArray, List.getElem?_append_right (by rw [over_len]; omega), over_len, show i * 3 + 1 - i * 3 = 1 by omega]; rfl)
            have c2 := cellOf (j := i * 3 + 2) hnow (by rw [List.getElem?_toArray, List.getElem?_append_right (by rw [over_len]; omega), over_len, show i * 3 + 2 - i * 3 = 2 by omega]; rfl)
            have q := nil22 wr
            have HNOW := hid hnow
            clear hnow
            go_wp2
            go_region_with (go_at_call 133; refine (over_any _).mono ?_; rintro e w2 ⟨rfl, hb⟩; have hbb : Below wr.heap.size wr w2 := (by first | exact hb | exact (below_drew' wr).trans hb); have y0 := (hbb.cell (p := ⟨xb, 0, none⟩) (ltOf HXI.out)).trans x0; have hn2 := (hbb.block _ (ltOf HNOW.out)).trans HNOW.out; obtain ⟨k0, z0, k1, z1, k2, z2, hg3, hgr3, _⟩ := store3 w2 L.g (i * 3) _ _ _ _ _ 113 hn2 (over_len i) (.int .i64 (-5)) (.string ⟨#[]⟩) (.slice none 0 0); have HNX := hid (HNEXT.out w2 _ hbb hg3 hgr3); clear hb hbb hn2 hg3 hgr3)
            all_goals go_wp2
            all_goals go_roundw
            all_goals try (case rel => exact ⟨i + 1, rfl, by go_num, by omega, HNX.out.1, HNX.out.2⟩)
            all_goals try (case measure => simp [intOf]; omega)
          · have hinz3 : ¬ (i : Int) < ((L.ps.length + 3 : Nat) : Int) := by omega
            have hie : i = L.ps.length + 3 := by omega
            have HNX : Hid (Md w wr Ls (k + 1) 0) := by
              have h := HI.out
              rw [hie] at h
              exact h.next HL.out
            clear hnow
            go_wp2
            all_goals go_roundw
            all_goals try (case rel => exact ⟨k + 1, rfl, by go_num, by omega, HNX⟩)
            all_goals try (case measure => simp [intOf]; omega)
    · have hltz : ¬ (k : Int) < (m : Int) := by omega
      go_wp2
      go_ret
      exact ⟨rfl, _, _, HM.out⟩
end Go.Proofs.YtlghcldiboecoaaGreatDoor
