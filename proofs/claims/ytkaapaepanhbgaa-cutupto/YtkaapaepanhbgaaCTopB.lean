/- Cut: the second loop: the frames. -/
import Derived.Test.YtkaapaepanhbgaaCTopA
set_option linter.unusedVariables false
set_option linter.unusedSimpArgs false
namespace Go.Proofs.Ytkaapaepanhbgaa
open Go Go.Conc Go.Pair Go.RowKit

noncomputable def c4 : Code := Code.two c3
noncomputable def LB : Code := Code.core (Code.core (Code.two (Code.one c4)))
noncomputable def c5 : Code := Code.two c4
noncomputable def LKB : List Item := [.inLoop LB, .inBlock 2, .code c5]
noncomputable def BB : Code := Code.core (Code.one (Code.two LB))
theorem c3_eq : c3 = .seq (.region 6 (Code.ops (Code.one c3)) false) (.seq (.seq (.region 7 (Code.ops (Code.one (Code.one c4))) false) (.block 2 (.loop LB))) c5) := rfl
theorem LB_eq : LB = .seq (.seq (.region 8 (Code.ops (Code.one (Code.one LB))) false) (.cond (.tmp 38) .skip (.exit 2))) (.seq (.block 3 BB) (.region 9 (Code.ops (Code.two (Code.two LB))) false)) := rfl
theorem BB_eq : BB = .seq (.region 10 (Code.ops (Code.one BB)) false) (.seq (.seq (.region 11 (Code.ops (Code.one (Code.one (Code.two BB)))) false) (.cond (.tmp 62) (Code.yes (Code.two (Code.one (Code.two BB)))) .skip)) (.region 13 (Code.ops (Code.two (Code.two BB))) false)) := rfl

section
variable {Post : Value → World → Prop} {W w w' w₁ : World} {xs : List Value} {all want : Value} {cs : List Frame} {s : Nat → Value} {bv tv cv : Value}

theorem AppS.ext {e : TypeId} {v0 v : Value} (h : AppS W e v0 xs v w) (hs : w.heap.size ≤ w'.heap.size) (hk : ∀ i, i < w.heap.size → w'.heap[i]? = w.heap[i]?) : AppS W e v0 xs v w' := by
  have h1 := h.size
  exact ⟨RowIs.back h.row (fun q o _ ho => by rw [hk q (lt_of_get ho)]; exact ho), by omega, fun i hi hv => by rw [hk i (by omega)]; exact h.keep i hi hv, h.own, fun i hi => let ⟨cells, x⟩ := h.kind i hi; ⟨cells, by rw [hk i (lt_of_get x)]; exact x⟩⟩

/-- All so far, and a row besides. -/
structure AllAnd (W : World) (xs : List Value) (all : Value) (ys : List Value) (y : Value) (w : World) : Prop where
  a : AppS W 5 (.slice none 0 0) xs all w
  r : ReadRow w 5 ys y
theorem ReadRow.heapEq {e : TypeId} {ys : List Value} {y : Value} (h : ReadRow w e ys y) (he : w'.heap = w.heap) : ReadRow w' e ys y := by
  rcases h with h1 | ⟨a, c, o, h1, h2, h3, h4⟩
  · exact .inl h1
  · exact .inr ⟨a, c, o, h1, fun j u hu => (World.cell?_of_block (by rw [he])).trans (h2 j u hu), by rw [he]; exact h3, h4⟩
theorem AllAnd.rely {ys : List Value} {y : Value} (h : AllAnd W xs all ys y w) (rr : AtRel w w₁) : AllAnd W xs all ys y w₁ :=
  ⟨h.a.rely rr, ReadRow.heapEq h.r (atRel_heap rr)⟩

/-- The texts that are wanted, in a row. -/
def WantAt (W : World) (want : Value) (ws : List ByteArray) : Prop :=
  ∃ ad c, want = .slice (some ad) ws.length c ∧ (∀ i (h : i < ws.length), W.cell? (ad.add i) = some (.string ws[i])) ∧ ∀ i, (ad.add i).block < W.heap.size

set_option maxRecDepth 100000 in
set_option maxHeartbeats 4000000 in
theorem roundB {ws : List ByteArray} {i : Nat} {b : ByteArray} (hw : WantAt W want ws) (h0 : s 0 = bv) (h1 : s 1 = tv) (h2 : s 2 = cv) (h6 : s 6 = .bool false) (h7 : s 7 = want) (h9 : s 9 = all) (h10 : s 10 = .int .i64 i)
    (hi : i < ws.length) (hbl : ws.length ≤ 4294967296) (hb : ws[i] = b) (hbs : b.size ≤ 1000) (hlen : xs.length + 1004 ≤ 4294967296) (hF : AppS W 5 (.slice none 0 0) xs all w)
    (hnext : ∀ w' (s' : Nat → Value) all', s' 0 = bv → s' 1 = tv → s' 2 = cv → s' 6 = .bool false → s' 7 = want → s' 9 = all' → s' 10 = .int .i64 ((i + 1 : Nat) : Int) → AppS W 5 (.slice none 0 0) (xs ++ bc (frameOf (sb b))) all' w' → EA Try.prog Post S0 (G ((base 3).at (CAct s') (.code LB :: LKB)) cs) w') :
    EA Try.prog Post S0 (G ((base 3).at (CAct s) (.code LB :: LKB)) cs) w := by
  have T := termsS S0
  obtain ⟨ad, wc, hwv, hcell, hblk⟩ := hw
  subst hb
  subst hwv
  have hlt : (i : Int) < (ws.length : Int) := by omega
  have hi0 : (0 : Int) ≤ (i : Int) := by omega
  have ew : IntKind.i64.wrap ((i : Int) + 1) = ((i + 1 : Nat) : Int) := by rw [IntKind.wrap_i64]; omega
  have ew4 : IntKind.i64.wrap (4 + (ws[i].size : Int)) = 4 + (ws[i].size : Int) := by rw [IntKind.wrap_i64]; omega
  obtain ⟨nf, hfr⟩ := frame_c (Shun := S0) (sb ws[i]) (by rw [sb_len]; exact hbs)
  have key : ∀ (k : Nat) (a : Act) (w' : World) (all' : Value), (∃ s', a = CAct s' ∧ s' 0 = bv ∧ s' 1 = tv ∧ s' 2 = cv ∧ s' 6 = .bool false ∧ s' 7 = .slice (some ad) ws.length wc ∧ s' 9 = all' ∧ s' 10 = .int .i64 ((i + 1 : Nat) : Int)) → AppS W 5 (.slice none 0 0) (xs ++ bc (frameOf (sb ws[i]))) all' w' →
      Goes Try.prog true AtRel (DS S0) (EA Try.prog Post S0) k (G ((base 3).at a (.code LB :: LKB)) cs) w' := fun k a w' all' ⟨s', e, g0, g1, g2, g6, g7, g9, g10⟩ hF => by
    rw [e]
    exact EA.stop (hnext w' s' all' g0 g1 g2 g6 g7 g9 g10 hF)
  refine EA.goes (n := nf + 90) ?_
  rw [LB_eq]
  refine goes_ctl T rfl (fun _ => stepG_seq) ?_
  refine goes_ctl T rfl (fun _ => stepG_seq) ?_
  simp only [Code.ops, LB, c4, c3, c2, body3, Code.core, Code.one, Code.two, Try.f3, Option.getD_some, CAct, h0, h1, h2, h6, h7, h9, h10]
  refine goes_ctl T rfl (fun _ => stepG_region) ?_
  simp only [List.size_toArray, List.length_cons, List.length_nil, Nat.reduceAdd, Nat.zero_add, List.range, List.range.loop]
  refine goes_op rfl (by rfl) (by decide) fun _ hRz Kz hKz => ?_
  replace hF := AppS.rely hF hRz
  clear hRz
  (skip)
  go_simp
  try (unfold stored; go_simp)
  refine hKz _ _ ⟨?_, ?_⟩
  · (co_quiet T)
  clear hKz Kz
  try walk_nrm
  refine goes_op rfl (by rfl) (by decide) fun _ hRz Kz hKz => ?_
  replace hF := AppS.rely hF hRz
  clear hRz
  (skip)
  go_simp
  try (unfold stored; go_simp)
  refine hKz _ _ ⟨?_, ?_⟩
  · (co_quiet T)
  clear hKz Kz
  try walk_nrm
  refine goes_op rfl (by rfl) (by decide) fun _ hRz Kz hKz => ?_
  replace hF := AppS.rely hF hRz
  clear hRz
  (skip)
  go_simp
  try (unfold stored; go_simp)
  refine hKz _ _ ⟨?_, ?_⟩
  · (co_quiet T)
  clear hKz Kz
  try walk_nrm
  refine goes_op rfl (by rfl) (by decide) fun _ hRz Kz hKz => ?_
  replace hF := AppS.rely hF hRz
  clear hRz
  (skip)
  go_simp
  try (unfold stored; go_simp)
  refine hKz _ _ ⟨?_, ?_⟩
  · (co_quiet T)
  clear hKz Kz
  try walk_nrm
  refine goes_ctl T rfl (fun _ => stepG_region_end) ?_
  refine goes_ctl T rfl (fun _ => (stepG_cond (t := true) rfl)) ?_
  simp only [if_true]
  refine goes_ctl T rfl (fun _ => stepG_skip) ?_
  refine goes_ctl T rfl (fun _ => stepG_seq) ?_
  refine goes_ctl T rfl (fun _ => stepG_block) ?_
  rw [BB_eq]
  refine goes_ctl T rfl (fun _ => stepG_seq) ?_
  simp only [Code.ops, BB, LB, c4, c3, c2, body3, Code.core, Code.one, Code.two, Code.yes, Try.f3, Option.getD_some]
  refine goes_ctl T rfl (fun _ => stepG_region) ?_
  simp only [List.size_toArray, List.length_cons, List.length_nil, Nat.reduceAdd, Nat.zero_add, List.range, List.range.loop]
  refine goes_op rfl (by rfl) (by decide) fun _ hRz Kz hKz => ?_
  replace hF := AppS.rely hF hRz
  clear hRz
  (skip)
  go_simp
  try (unfold stored; go_simp)
  refine hKz _ _ ⟨?_, ?_⟩
  · (co_quiet T)
  clear hKz Kz
  try walk_nrm
  refine goes_op rfl (by rfl) (by decide) fun _ hRz Kz hKz => ?_
  replace hF := AppS.rely hF hRz
  clear hRz
  (skip)
  go_simp
  try (unfold stored; go_simp)
  refine hKz _ _ ⟨?_, ?_⟩
  · (co_quiet T)
  clear hKz Kz
  try walk_nrm
  refine goes_op rfl (by rfl) (by decide) fun _ hRz Kz hKz => ?_
  replace hF := AppS.rely hF hRz
  clear hRz
  (skip)
  go_simp
  try (unfold stored; go_simp)
  refine hKz _ _ ⟨?_, ?_⟩
  · (co_still T)
  clear hKz Kz
  try walk_nrm
  refine goes_op rfl (by rfl) (by decide) fun _ hRz Kz hKz => ?_
  replace hF := AppS.rely hF hRz
  clear hRz
  (have hcl := show World.cell? _ (ad.add i) = some (.string ws[i]) from (World.cell?_of_block (AppS.keep0 hF (hblk i))).trans (hcell i hi))
  go_simp
  try (unfold stored; go_simp)
  refine hKz _ _ ⟨?_, ?_⟩
  · (refine ds_read ?_; co_evs (exact evL_cell (fun h => h) (Nat.lt_of_lt_of_le (hblk i) hF.size)))
  clear hKz Kz
  try walk_nrm
  clear hcl
  refine goes_op rfl (by rfl) (by decide) fun _ hRz Kz hKz => ?_
  replace hF := AppS.rely hF hRz
  clear hRz
  (have hcr := fun w => conv_run w ws[i]; have hce := fun w es => conv_ev w ws[i] es)
  go_simp
  try (unfold stored; go_simp)
  refine hKz _ _ ⟨?_, ?_⟩
  · (rw [listed_nil (by simp [go_sem, hce])]; exact ⟨by rw [Lib.bytesWorld_size]; omega, by simp, rfl, rfl⟩)
  clear hKz Kz
  try walk_nrm
  rename_i wz
  have hG : AllAnd W xs all (bc (sb ws[i])) (.slice (some ⟨wz.heap.size, 0, none⟩) ws[i].size (grownCap wz ws[i].size 0 5)) (Lib.bytesWorld wz 5 ws[i]) := ⟨AppS.ext hF (by rw [Lib.bytesWorld_size]; omega) (fun k hk => Lib.bytesWorld_at_old wz 5 ws[i] k hk), conv_read wz ws[i]⟩
  clear hF hcr hce
  generalize grownCap wz ws[i].size 0 5 = gc at hG ⊢
  generalize Lib.bytesWorld wz 5 ws[i] = wy at hG ⊢
  generalize wz.heap.size = r at hG ⊢
  refine Goes.mono (Goes.call (m := 60) (nf := nf) T rfl (by rfl) (by decide) rfl (by walk_nrm; exact hfr _ _ (shun0 _) hG.r) ?_) (by omega)
  rintro y w' ⟨v', rfl, hA⟩
  have hF : AllAnd W xs all (bc (frameOf (sb ws[i]))) v' w' := ⟨AppS.ext hG.a hA.size (fun k hk => AppS.keep0 hA hk), hA.row.read⟩
  clear hG hA
  obtain ⟨va, vl, vc, rfl, hvl⟩ : ∃ va vl vc, v' = .slice va vl vc ∧ (vl : Int) = 4 + (ws[i].size : Int) := by
    have hfl : (bc (frameOf (sb ws[i]))).length = 4 + ws[i].size := by rw [bc_len]; simp [frameOf, hdr, sb_len]; omega
    rcases hF.r with ⟨b', c', rfl, h⟩ | ⟨a', c', o', rfl, _⟩
    · rw [h] at hfl; simp at hfl; omega
    · exact ⟨_, _, _, rfl, by rw [hfl]; omega⟩
  walk_nrm
  refine goes_op rfl (by rfl) (by decide) fun _ hRz Kz hKz => ?_
  replace hF := AllAnd.rely hF hRz
  clear hRz
  (skip)
  go_simp
  try (unfold stored; go_simp)
  refine hKz _ _ ⟨?_, ?_⟩
  · (co_quiet T)
  clear hKz Kz
  try walk_nrm
  refine goes_op rfl (by rfl) (by decide) fun _ hRz Kz hKz => ?_
  replace hF := AllAnd.rely hF hRz
  clear hRz
  (skip)
  go_simp
  try (unfold stored; go_simp)
  refine hKz _ _ ⟨?_, ?_⟩
  · (co_quiet T)
  clear hKz Kz
  try walk_nrm
  refine goes_op rfl (by rfl) (by decide) fun _ hRz Kz hKz => ?_
  replace hF := AllAnd.rely hF hRz
  clear hRz
  (skip)
  go_simp
  try (unfold stored; go_simp)
  refine hKz _ _ ⟨?_, ?_⟩
  · (co_quiet T)
  clear hKz Kz
  try walk_nrm
  refine goes_op rfl (by rfl) (by decide) fun _ hRz Kz hKz => ?_
  replace hF := AllAnd.rely hF hRz
  clear hRz
  (skip)
  go_simp
  try (unfold stored; go_simp)
  refine hKz _ _ ⟨?_, ?_⟩
  · (co_quiet T)
  clear hKz Kz
  try walk_nrm
  refine goes_op rfl (by rfl) (by decide) fun _ hRz Kz hKz => ?_
  replace hF := AllAnd.rely hF hRz
  clear hRz
  (skip)
  go_simp
  try (unfold stored; go_simp)
  refine hKz _ _ ⟨?_, ?_⟩
  · (co_quiet T)
  clear hKz Kz
  try walk_nrm
  refine goes_ctl T rfl (fun _ => stepG_region_end) ?_
  refine goes_ctl T rfl (fun _ => stepG_seq) ?_
  refine goes_ctl T rfl (fun _ => stepG_seq) ?_
  refine goes_ctl T rfl (fun _ => stepG_region) ?_
  simp only [List.size_toArray, List.length_cons, List.length_nil, Nat.reduceAdd, Nat.zero_add, List.range, List.range.loop]
  refine goes_op rfl (by rfl) (by decide) fun _ hRz Kz hKz => ?_
  replace hF := AllAnd.rely hF hRz
  clear hRz
  (skip)
  go_simp
  try (unfold stored; go_simp)
  refine hKz _ _ ⟨?_, ?_⟩
  · (co_quiet T)
  clear hKz Kz
  try walk_nrm
  refine goes_op rfl (by rfl) (by decide) fun _ hRz Kz hKz => ?_
  replace hF := AllAnd.rely hF hRz
  clear hRz
  (skip)
  go_simp
  try (unfold stored; go_simp)
  refine hKz _ _ ⟨?_, ?_⟩
  · (co_quiet T)
  clear hKz Kz
  try walk_nrm
  refine goes_op rfl (by rfl) (by decide) fun _ hRz Kz hKz => ?_
  replace hF := AllAnd.rely hF hRz
  clear hRz
  (skip)
  go_simp
  try (unfold stored; go_simp)
  refine hKz _ _ ⟨?_, ?_⟩
  · (co_quiet T)
  clear hKz Kz
  try walk_nrm
  refine goes_op rfl (by rfl) (by decide) fun _ hRz Kz hKz => ?_
  replace hF := AllAnd.rely hF hRz
  clear hRz
  (skip)
  go_simp
  try (unfold stored; go_simp)
  refine hKz _ _ ⟨?_, ?_⟩
  · (co_quiet T)
  clear hKz Kz
  try walk_nrm
  refine goes_op rfl (by rfl) (by decide) fun _ hRz Kz hKz => ?_
  replace hF := AllAnd.rely hF hRz
  clear hRz
  (skip)
  go_simp
  try (unfold stored; go_simp)
  refine hKz _ _ ⟨?_, ?_⟩
  · (co_quiet T)
  clear hKz Kz
  try walk_nrm
  refine goes_op rfl (by rfl) (by decide) fun _ hRz Kz hKz => ?_
  replace hF := AllAnd.rely hF hRz
  clear hRz
  (skip)
  go_simp
  try (unfold stored; go_simp)
  refine hKz _ _ ⟨?_, ?_⟩
  · (co_quiet T)
  clear hKz Kz
  try walk_nrm
  refine goes_op rfl (by rfl) (by decide) fun _ hRz Kz hKz => ?_
  replace hF := AllAnd.rely hF hRz
  clear hRz
  (skip)
  go_simp
  try (unfold stored; go_simp)
  refine hKz _ _ ⟨?_, ?_⟩
  · (co_quiet T)
  clear hKz Kz
  try walk_nrm
  refine goes_op rfl (by rfl) (by decide) fun _ hRz Kz hKz => ?_
  replace hF := AllAnd.rely hF hRz
  clear hRz
  (skip)
  go_simp
  try (unfold stored; go_simp)
  refine hKz _ _ ⟨?_, ?_⟩
  · (co_still T)
  clear hKz Kz
  try walk_nrm
  refine goes_op rfl (by rfl) (by decide) fun _ hRz Kz hKz => ?_
  replace hF := AllAnd.rely hF hRz
  clear hRz
  (have hcl := show World.cell? _ (ad.add i) = some (.string ws[i]) from (World.cell?_of_block (AppS.keep0 hF.a (hblk i))).trans (hcell i hi))
  go_simp
  try (unfold stored; go_simp)
  refine hKz _ _ ⟨?_, ?_⟩
  · (refine ds_read ?_; co_evs (exact evL_cell (fun h => h) (Nat.lt_of_lt_of_le (hblk i) hF.a.size)))
  clear hKz Kz
  try walk_nrm
  clear hcl
  refine goes_op rfl (by rfl) (by decide) fun _ hRz Kz hKz => ?_
  replace hF := AllAnd.rely hF hRz
  clear hRz
  (have hl9 := ev_len9)
  go_simp
  try (unfold stored; go_simp)
  refine hKz _ _ ⟨?_, ?_⟩
  · (rw [listed_nil (by simp [go_sem, hl9])]; exact T.idle _)
  clear hKz Kz
  try walk_nrm
  clear hl9
  refine goes_op rfl (by rfl) (by decide) fun _ hRz Kz hKz => ?_
  replace hF := AllAnd.rely hF hRz
  clear hRz
  (skip)
  go_simp
  try (unfold stored; go_simp)
  refine hKz _ _ ⟨?_, ?_⟩
  · (co_quiet T)
  clear hKz Kz
  try walk_nrm
  try simp only [ew4]
  refine goes_op rfl (by rfl) (by decide) fun _ hRz Kz hKz => ?_
  replace hF := AllAnd.rely hF hRz
  clear hRz
  (skip)
  go_simp
  try (unfold stored; go_simp)
  refine hKz _ _ ⟨?_, ?_⟩
  · (co_quiet T)
  clear hKz Kz
  try walk_nrm
  refine goes_op rfl (by rfl) (by decide) fun _ hRz Kz hKz => ?_
  replace hF := AllAnd.rely hF hRz
  clear hRz
  (skip)
  go_simp
  try (unfold stored; go_simp)
  refine hKz _ _ ⟨?_, ?_⟩
  · (co_quiet T)
  clear hKz Kz
  try walk_nrm
  refine goes_ctl T rfl (fun _ => stepG_region_end) ?_
  refine goes_ctl T rfl (fun _ => (stepG_cond (t := false) rfl)) ?_
  simp only [Bool.false_eq_true, if_false]
  refine goes_ctl T rfl (fun _ => stepG_skip) ?_
  refine goes_ctl T rfl (fun _ => stepG_region) ?_
  simp only [List.size_toArray, List.length_cons, List.length_nil, Nat.reduceAdd, Nat.zero_add, List.range, List.range.loop]
  refine goes_op rfl (by rfl) (by decide) fun _ hRz Kz hKz => ?_
  replace hF := AllAnd.rely hF hRz
  clear hRz
  (skip)
  go_simp
  try (unfold stored; go_simp)
  refine hKz _ _ ⟨?_, ?_⟩
  · (co_quiet T)
  clear hKz Kz
  try walk_nrm
  refine goes_op rfl (by rfl) (by decide) fun _ hRz Kz hKz => ?_
  replace hF := AllAnd.rely hF hRz
  clear hRz
  (skip)
  go_simp
  try (unfold stored; go_simp)
  refine hKz _ _ ⟨?_, ?_⟩
  · (co_quiet T)
  clear hKz Kz
  try walk_nrm
  refine goes_op rfl (by rfl) (by decide) fun w₁ hR K' hK => ?_
  replace hF := hF.rely hR
  clear hR
  obtain ⟨i0, hi0', hz0, hz1, hz2⟩ := info5
  have hfl : (bc (frameOf (sb ws[i]))).length = 4 + ws[i].size := by rw [bc_len]; simp [frameOf, hdr, sb_len]; omega
  obtain ⟨all', w', hr, hA, hD⟩ := app_s (P := Try.prog) (Shun := S0) 25 i0 (.int .u8 0) 1 un25 hi0' hz0 rfl hz1 hz2 hF.a.row hF.r (fun _ _ _ _ h => h) (bc_one _) (by rw [hfl]; simp only [maxLen]; omega) (by rw [hfl]; omega) (by omega)
  refine uponK_append (.tmp 63) (.tmp 64) 25 rfl rfl rfl hr (hK _ _ ⟨hD _ fun e he => ?_, ?_⟩)
  · have hm := mem_listed he
    rw [events_append_op (.tmp 63) (.tmp 64) 25 rfl rfl rfl] at hm
    exact hm
  have hG := hF.a.trans hA
  clear hK K' hr hD hA hF
  walk_nrm
  refine goes_op rfl (by rfl) (by decide) fun _ hRz Kz hKz => ?_
  replace hG := AppS.rely hG hRz
  clear hRz
  (skip)
  go_simp
  try (unfold stored; go_simp)
  refine hKz _ _ ⟨?_, ?_⟩
  · (co_quiet T)
  clear hKz Kz
  try walk_nrm
  refine goes_ctl T rfl (fun _ => stepG_region_end) ?_
  refine goes_ctl T rfl (fun _ => stepG_inBlock) ?_
  refine goes_ctl T rfl (fun _ => stepG_region) ?_
  simp only [List.size_toArray, List.length_cons, List.length_nil, Nat.reduceAdd, Nat.zero_add, List.range, List.range.loop]
  refine goes_op rfl (by rfl) (by decide) fun _ hRz Kz hKz => ?_
  replace hG := AppS.rely hG hRz
  clear hRz
  (skip)
  go_simp
  try (unfold stored; go_simp)
  refine hKz _ _ ⟨?_, ?_⟩
  · (co_quiet T)
  clear hKz Kz
  try walk_nrm
  refine goes_op rfl (by rfl) (by decide) fun _ hRz Kz hKz => ?_
  replace hG := AppS.rely hG hRz
  clear hRz
  (skip)
  go_simp
  try (unfold stored; go_simp)
  refine hKz _ _ ⟨?_, ?_⟩
  · (co_quiet T)
  clear hKz Kz
  try walk_nrm
  refine goes_op rfl (by rfl) (by decide) fun _ hRz Kz hKz => ?_
  replace hG := AppS.rely hG hRz
  clear hRz
  (skip)
  go_simp
  try (unfold stored; go_simp)
  refine hKz _ _ ⟨?_, ?_⟩
  · (co_quiet T)
  clear hKz Kz
  try walk_nrm
  try simp only [ew]
  refine goes_ctl T rfl (fun _ => stepG_region_end) ?_
  refine goes_ctl T rfl (fun _ => stepG_inLoop) ?_
  exact key _ _ _ all' (cget rfl ⟨rfl, rfl, rfl, rfl, rfl, rfl, rfl⟩) hG
end
end Go.Proofs.Ytkaapaepanhbgaa
