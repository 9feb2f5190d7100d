/- Cut: the third loop, on. -/
import Derived.Test.YtkaapaepanhbgaaCTopF
set_option linter.unusedVariables false
set_option linter.unusedSimpArgs false
namespace Go.Proofs.Ytkaapaepanhbgaa
open Go Go.Conc Go.Pair Go.RowKit
section
variable {Post : Value → World → Prop} {S : Loc → Prop} {W0 w w' w₁ : World} {want l k : Value} {ws : List ByteArray} {sent1 sent2 : List (List UInt8 × Value)} {cs : List Frame} {s : Nat → Value} {tv : Value}

set_option maxRecDepth 100000 in
set_option maxHeartbeats 4000000 in
/-- Behind what is wanted. -/
theorem r22_out {lg kg lc kc wc n i : Nat} {ad : Addr} {b : List UInt8} {r1 r2 : Nat} (hl : l = .slice (some ⟨lg, 0, none⟩) n lc) (hk : k = .slice (some ⟨kg, 0, none⟩) n kc) (hw : want = .slice (some ad) ws.length wc) (hi : i < n) (hiw : ws.length ≤ i) (h1i : i < sent1.length) (h2i : i < sent2.length)
    (e1 : sent1[i] = (b, .slice (some ⟨r1, 0, none⟩) b.length b.length)) (e2 : sent2[i] = (b, .slice (some ⟨r2, 0, none⟩) b.length b.length)) :
    ∃ m, ∀ w (s : Nat → Value), s 1 = tv → s 6 = .bool false → s 7 = want → s 13 = l → s 16 = k → s 19 = .int .i64 i → TD W0 want ws sent1 l sent2 k S w →
    r22.wpC Try.prog true AtRel (DS S) 3 m (fun e a' w' => e = .normal ∧ (∃ s', a' = CAct s' ∧ s' 1 = tv ∧ s' 6 = .bool false ∧ s' 7 = want ∧ s' 13 = l ∧ s' 14 = s 14 ∧ s' 16 = k ∧ s' 19 = .int .i64 i ∧ s' 141 = .bool false) ∧ TD W0 want ws sent1 l sent2 k S w') (CAct s) w := by
  have T := termsS S
  subst hl
  subst hk
  subst hw
  have hlt : (i : Int) < (n : Int) := by omega
  have hltw : ¬ (i : Int) < (ws.length : Int) := by omega
  have hi0 : (0 : Int) ≤ (i : Int) := by omega
  co_apply Exists.intro
  intro w s h1 h6 h7 h13 h16 h19 hF
  have hQR : ∀ (a : Act) (y z : World), (Exit.normal = Exit.normal ∧ (∃ s', a = CAct s' ∧ s' 1 = tv ∧ s' 6 = .bool false ∧ s' 7 = .slice (some ad) ws.length wc ∧ s' 13 = .slice (some ⟨lg, 0, none⟩) n lc ∧ s' 14 = s 14 ∧ s' 16 = .slice (some ⟨kg, 0, none⟩) n kc ∧ s' 19 = .int .i64 i ∧ s' 141 = .bool false) ∧ TD W0 (.slice (some ad) ws.length wc) ws sent1 (.slice (some ⟨lg, 0, none⟩) n lc) sent2 (.slice (some ⟨kg, 0, none⟩) n kc) S y) → AtRel y z →
      (Exit.normal = Exit.normal ∧ (∃ s', a = CAct s' ∧ s' 1 = tv ∧ s' 6 = .bool false ∧ s' 7 = .slice (some ad) ws.length wc ∧ s' 13 = .slice (some ⟨lg, 0, none⟩) n lc ∧ s' 14 = s 14 ∧ s' 16 = .slice (some ⟨kg, 0, none⟩) n kc ∧ s' 19 = .int .i64 i ∧ s' 141 = .bool false) ∧ TD W0 (.slice (some ad) ws.length wc) ws sent1 (.slice (some ⟨lg, 0, none⟩) n lc) sent2 (.slice (some ⟨kg, 0, none⟩) n kc) S z) := fun a y z ⟨g1, g2, g3⟩ r => ⟨g1, g2, g3.rely r⟩
  simp only [r22, BC, LC, c9, c8, c7, c6, c5, c4, c3, c2, body3, Code.core, Code.one, Code.two, Try.f3, Option.getD_some, CAct, h1, h6, h7, h13, h16, h19]
  co_held T letsS drawS (TD W0 (.slice (some ad) ws.length wc) ws sent1 (.slice (some ⟨lg, 0, none⟩) n lc) sent2 (.slice (some ⟨kg, 0, none⟩) n kc) S) TD.rely hF
  co_applyP anyCH_take T (fun _ _ hz rz => TD.rely hz rz) hQR (i := 0) rfl (by first | kernel_rfl | decide +kernel) (by first | kernel_rfl | decide +kernel) (by first | kernel_rfl | decide +kernel)
    (.inl ⟨by rfl, fun _ hw => ⟨run_eq_of ?run1, ?guar1⟩⟩) hF ?rest1
  case run1 =>
    intro Kz hKz
    (skip)
    go_simp
    exact hKz
  case guar1 =>
    (skip)
    (co_quiet T)
  try walk_nrm
  co_applyP anyCH_take T (fun _ _ hz rz => TD.rely hz rz) hQR (i := 1) rfl (by first | kernel_rfl | decide +kernel) (by first | kernel_rfl | decide +kernel) (by first | kernel_rfl | decide +kernel)
    (.inl ⟨by rfl, fun _ hw => ⟨run_eq_of ?run2, ?guar2⟩⟩) hF ?rest2
  case run2 =>
    intro Kz hKz
    (skip)
    go_simp
    exact hKz
  case guar2 =>
    (skip)
    (co_quiet T)
  try walk_nrm
  co_applyP anyCH_take T (fun _ _ hz rz => TD.rely hz rz) hQR (i := 2) rfl (by first | kernel_rfl | decide +kernel) (by first | kernel_rfl | decide +kernel) (by first | kernel_rfl | decide +kernel)
    (.inl ⟨by rfl, fun _ hw => ⟨run_eq_of ?run3, ?guar3⟩⟩) hF ?rest3
  case run3 =>
    intro Kz hKz
    (skip)
    go_simp
    exact hKz
  case guar3 =>
    (skip)
    (co_still T)
  try walk_nrm
  have tdl : ∀ {w : World}, TD W0 (.slice (some ad) ws.length wc) ws sent1 (.slice (some ⟨lg, 0, none⟩) n lc) sent2 (.slice (some ⟨kg, 0, none⟩) n kc) S w → w.cell? ⟨lg, i, none⟩ = some (.slice (some ⟨r1, 0, none⟩) b.length b.length) ∧ EvL S w.heap.size ⟨.cell ⟨lg, i, none⟩, false, false⟩ := fun h => by
    obtain ⟨g1, cells, g2⟩ := h.l.get rfl h1i
    rw [e1, Addr.add_lit, Nat.zero_add] at g1
    exact ⟨g1, evL_cell (h.shun.notA g2 (by simp [kindOf])) (lt_of_get g2)⟩
  have tdk : ∀ {w : World}, TD W0 (.slice (some ad) ws.length wc) ws sent1 (.slice (some ⟨lg, 0, none⟩) n lc) sent2 (.slice (some ⟨kg, 0, none⟩) n kc) S w → w.cell? ⟨kg, i, none⟩ = some (.slice (some ⟨r2, 0, none⟩) b.length b.length) ∧ EvL S w.heap.size ⟨.cell ⟨kg, i, none⟩, false, false⟩ := fun h => by
    obtain ⟨g1, cells, g2⟩ := h.k.get rfl h2i
    rw [e2, Addr.add_lit, Nat.zero_add] at g1
    exact ⟨g1, evL_cell (h.shun.notA g2 (by simp [kindOf])) (lt_of_get g2)⟩
  have tdr1 : ∀ {w : World}, TD W0 (.slice (some ad) ws.length wc) ws sent1 (.slice (some ⟨lg, 0, none⟩) n lc) sent2 (.slice (some ⟨kg, 0, none⟩) n kc) S w → w.heap[r1]? = some (.cells (bc b).toArray 5) := fun h => by
    obtain ⟨r, g1, g2⟩ := h.l.2 sent1[i] (List.getElem_mem _)
    rw [e1] at g1 g2
    cases g1
    exact g2
  have tdr2 : ∀ {w : World}, TD W0 (.slice (some ad) ws.length wc) ws sent1 (.slice (some ⟨lg, 0, none⟩) n lc) sent2 (.slice (some ⟨kg, 0, none⟩) n kc) S w → w.heap[r2]? = some (.cells (bc b).toArray 5) := fun h => by
    obtain ⟨r, g1, g2⟩ := h.k.2 sent2[i] (List.getElem_mem _)
    rw [e2] at g1 g2
    cases g1
    exact g2
  co_applyP anyCH_take T (fun _ _ hz rz => TD.rely hz rz) hQR (i := 3) rfl (by first | kernel_rfl | decide +kernel) (by first | kernel_rfl | decide +kernel) (by first | kernel_rfl | decide +kernel)
    (.inl ⟨by rfl, fun _ hw => ⟨run_eq_of ?run4, ?guar4⟩⟩) hF ?rest4
  case run4 =>
    intro Kz hKz
    (have hc := (tdl hw).1)
    go_simp
    exact hKz
  case guar4 =>
    (have hc := (tdl hw).1)
    (refine ds_read ?_; co_evs (exact (tdl hw).2))
  try walk_nrm
  co_applyP anyCH_take T (fun _ _ hz rz => TD.rely hz rz) hQR (i := 4) rfl (by first | kernel_rfl | decide +kernel) (by first | kernel_rfl | decide +kernel) (by first | kernel_rfl | decide +kernel)
    (.inl ⟨by rfl, fun _ hw => ⟨run_eq_of ?run5, ?guar5⟩⟩) hF ?rest5
  case run5 =>
    intro Kz hKz
    (have hcv := back_run (c := b.length) (tdr1 hw))
    go_simp
    exact hKz
  case guar5 =>
    (have hcv := back_run (c := b.length) (tdr1 hw))
    (refine ds_read fun e he => ?_; have hm := mem_listed he; simp [go_sem] at hm; exact back_ev (tdr1 hw) hw.shun e hm)
  try walk_nrm
  co_applyP anyCH_take T (fun _ _ hz rz => TD.rely hz rz) hQR (i := 5) rfl (by first | kernel_rfl | decide +kernel) (by first | kernel_rfl | decide +kernel) (by first | kernel_rfl | decide +kernel)
    (.inl ⟨by rfl, fun _ hw => ⟨run_eq_of ?run6, ?guar6⟩⟩) hF ?rest6
  case run6 =>
    intro Kz hKz
    (skip)
    go_simp
    exact hKz
  case guar6 =>
    (skip)
    (co_quiet T)
  try walk_nrm
  co_applyP anyCH_take T (fun _ _ hz rz => TD.rely hz rz) hQR (i := 6) rfl (by first | kernel_rfl | decide +kernel) (by first | kernel_rfl | decide +kernel) (by first | kernel_rfl | decide +kernel)
    (.inl ⟨by rfl, fun _ hw => ⟨run_eq_of ?run7, ?guar7⟩⟩) hF ?rest7
  case run7 =>
    intro Kz hKz
    (skip)
    go_simp
    exact hKz
  case guar7 =>
    (skip)
    (co_quiet T)
  try walk_nrm
  co_applyP anyCH_take T (fun _ _ hz rz => TD.rely hz rz) hQR (i := 7) rfl (by first | kernel_rfl | decide +kernel) (by first | kernel_rfl | decide +kernel) (by first | kernel_rfl | decide +kernel)
    (.inl ⟨by rfl, fun _ hw => ⟨run_eq_of ?run8, ?guar8⟩⟩) hF ?rest8
  case run8 =>
    intro Kz hKz
    (skip)
    go_simp
    exact hKz
  case guar8 =>
    (skip)
    (co_still T)
  try walk_nrm
  co_applyP anyCH_take T (fun _ _ hz rz => TD.rely hz rz) hQR (i := 8) rfl (by first | kernel_rfl | decide +kernel) (by first | kernel_rfl | decide +kernel) (by first | kernel_rfl | decide +kernel)
    (.inl ⟨by rfl, fun _ hw => ⟨run_eq_of ?run9, ?guar9⟩⟩) hF ?rest9
  case run9 =>
    intro Kz hKz
    (have hc := (tdk hw).1)
    go_simp
    exact hKz
  case guar9 =>
    (have hc := (tdk hw).1)
    (refine ds_read ?_; co_evs (exact (tdk hw).2))
  try walk_nrm
  co_applyP anyCH_take T (fun _ _ hz rz => TD.rely hz rz) hQR (i := 9) rfl (by first | kernel_rfl | decide +kernel) (by first | kernel_rfl | decide +kernel) (by first | kernel_rfl | decide +kernel)
    (.inl ⟨by rfl, fun _ hw => ⟨run_eq_of ?run10, ?guar10⟩⟩) hF ?rest10
  case run10 =>
    intro Kz hKz
    (have hcv := back_run (c := b.length) (tdr2 hw))
    go_simp
    exact hKz
  case guar10 =>
    (have hcv := back_run (c := b.length) (tdr2 hw))
    (refine ds_read fun e he => ?_; have hm := mem_listed he; simp [go_sem] at hm; exact back_ev (tdr2 hw) hw.shun e hm)
  try walk_nrm
  co_applyP anyCH_take T (fun _ _ hz rz => TD.rely hz rz) hQR (i := 10) rfl (by first | kernel_rfl | decide +kernel) (by first | kernel_rfl | decide +kernel) (by first | kernel_rfl | decide +kernel)
    (.inl ⟨by rfl, fun _ hw => ⟨run_eq_of ?run11, ?guar11⟩⟩) hF ?rest11
  case run11 =>
    intro Kz hKz
    (skip)
    go_simp
    exact hKz
  case guar11 =>
    (skip)
    (co_quiet T)
  try walk_nrm
  co_applyP anyCH_take T (fun _ _ hz rz => TD.rely hz rz) hQR (i := 11) rfl (by first | kernel_rfl | decide +kernel) (by first | kernel_rfl | decide +kernel) (by first | kernel_rfl | decide +kernel)
    (.inl ⟨by rfl, fun _ hw => ⟨run_eq_of ?run12, ?guar12⟩⟩) hF ?rest12
  case run12 =>
    intro Kz hKz
    (skip)
    go_simp
    exact hKz
  case guar12 =>
    (skip)
    (co_quiet T)
  try walk_nrm
  co_applyP anyCH_take T (fun _ _ hz rz => TD.rely hz rz) hQR (i := 12) rfl (by first | kernel_rfl | decide +kernel) (by first | kernel_rfl | decide +kernel) (by first | kernel_rfl | decide +kernel)
    (.inl ⟨by rfl, fun _ hw => ⟨run_eq_of ?run13, ?guar13⟩⟩) hF ?rest13
  case run13 =>
    intro Kz hKz
    (skip)
    go_simp
    exact hKz
  case guar13 =>
    (skip)
    (co_quiet T)
  try walk_nrm
  co_applyP anyCH_take T (fun _ _ hz rz => TD.rely hz rz) hQR (i := 13) rfl (by first | kernel_rfl | decide +kernel) (by first | kernel_rfl | decide +kernel) (by first | kernel_rfl | decide +kernel)
    (.inl ⟨by rfl, fun _ hw => ⟨run_eq_of ?run14, ?guar14⟩⟩) hF ?rest14
  case run14 =>
    intro Kz hKz
    (skip)
    go_simp
    exact hKz
  case guar14 =>
    (skip)
    (co_quiet T)
  try walk_nrm
  co_applyP anyCH_take T (fun _ _ hz rz => TD.rely hz rz) hQR (i := 14) rfl (by first | kernel_rfl | decide +kernel) (by first | kernel_rfl | decide +kernel) (by first | kernel_rfl | decide +kernel)
    (.inl ⟨by rfl, fun _ hw => ⟨run_eq_of ?run15, ?guar15⟩⟩) hF ?rest15
  case run15 =>
    intro Kz hKz
    (skip)
    go_simp
    exact hKz
  case guar15 =>
    (skip)
    (co_quiet T)
  try walk_nrm
  co_applyP anyCH_take T (fun _ _ hz rz => TD.rely hz rz) hQR (i := 15) rfl (by first | kernel_rfl | decide +kernel) (by first | kernel_rfl | decide +kernel) (by first | kernel_rfl | decide +kernel)
    (.inl ⟨by rfl, fun _ hw => ⟨run_eq_of ?run16, ?guar16⟩⟩) hF ?rest16
  case run16 =>
    intro Kz hKz
    (skip)
    go_simp
    exact hKz
  case guar16 =>
    (skip)
    (co_quiet T)
  try walk_nrm
  co_applyP anyCH_take T (fun _ _ hz rz => TD.rely hz rz) hQR (i := 16) rfl (by first | kernel_rfl | decide +kernel) (by first | kernel_rfl | decide +kernel) (by first | kernel_rfl | decide +kernel)
    (.inl ⟨by rfl, fun _ hw => ⟨run_eq_of ?run17, ?guar17⟩⟩) hF ?rest17
  case run17 =>
    intro Kz hKz
    (skip)
    go_simp
    exact hKz
  case guar17 =>
    (skip)
    (co_quiet T)
  try walk_nrm
  co_applyP anyCH_take T (fun _ _ hz rz => TD.rely hz rz) hQR (i := 17) rfl (by first | kernel_rfl | decide +kernel) (by first | kernel_rfl | decide +kernel) (by first | kernel_rfl | decide +kernel)
    (.inr ⟨by rfl, rfl⟩) hF ?rest18
  try walk_nrm
  co_applyP anyCH_take T (fun _ _ hz rz => TD.rely hz rz) hQR (i := 18) rfl (by first | kernel_rfl | decide +kernel) (by first | kernel_rfl | decide +kernel) (by first | kernel_rfl | decide +kernel)
    (.inr ⟨by rfl, rfl⟩) hF ?rest19
  try walk_nrm
  co_applyP anyCH_take T (fun _ _ hz rz => TD.rely hz rz) hQR (i := 19) rfl (by first | kernel_rfl | decide +kernel) (by first | kernel_rfl | decide +kernel) (by first | kernel_rfl | decide +kernel)
    (.inr ⟨by rfl, rfl⟩) hF ?rest20
  try walk_nrm
  co_applyP anyCH_take T (fun _ _ hz rz => TD.rely hz rz) hQR (i := 20) rfl (by first | kernel_rfl | decide +kernel) (by first | kernel_rfl | decide +kernel) (by first | kernel_rfl | decide +kernel)
    (.inr ⟨by rfl, rfl⟩) hF ?rest21
  try walk_nrm
  co_applyP anyCH_take T (fun _ _ hz rz => TD.rely hz rz) hQR (i := 21) rfl (by first | kernel_rfl | decide +kernel) (by first | kernel_rfl | decide +kernel) (by first | kernel_rfl | decide +kernel)
    (.inr ⟨by rfl, rfl⟩) hF ?rest22
  try walk_nrm
  co_applyP anyCH_take T (fun _ _ hz rz => TD.rely hz rz) hQR (i := 22) rfl (by first | kernel_rfl | decide +kernel) (by first | kernel_rfl | decide +kernel) (by first | kernel_rfl | decide +kernel)
    (.inr ⟨by rfl, rfl⟩) hF ?rest23
  try walk_nrm
  co_applyP anyCH_take T (fun _ _ hz rz => TD.rely hz rz) hQR (i := 23) rfl (by first | kernel_rfl | decide +kernel) (by first | kernel_rfl | decide +kernel) (by first | kernel_rfl | decide +kernel)
    (.inr ⟨by rfl, rfl⟩) hF ?rest24
  try walk_nrm
  co_applyP anyCH_take T (fun _ _ hz rz => TD.rely hz rz) hQR (i := 24) rfl (by first | kernel_rfl | decide +kernel) (by first | kernel_rfl | decide +kernel) (by first | kernel_rfl | decide +kernel)
    (.inr ⟨by rfl, rfl⟩) hF ?rest25
  try walk_nrm
  co_applyP anyCH_take T (fun _ _ hz rz => TD.rely hz rz) hQR (i := 25) rfl (by first | kernel_rfl | decide +kernel) (by first | kernel_rfl | decide +kernel) (by first | kernel_rfl | decide +kernel)
    (.inr ⟨by rfl, rfl⟩) hF ?rest26
  try walk_nrm
  co_applyP anyCH_take T (fun _ _ hz rz => TD.rely hz rz) hQR (i := 26) rfl (by first | kernel_rfl | decide +kernel) (by first | kernel_rfl | decide +kernel) (by first | kernel_rfl | decide +kernel)
    (.inr ⟨by rfl, rfl⟩) hF ?rest27
  try walk_nrm
  co_applyP anyCH_take T (fun _ _ hz rz => TD.rely hz rz) hQR (i := 27) rfl (by first | kernel_rfl | decide +kernel) (by first | kernel_rfl | decide +kernel) (by first | kernel_rfl | decide +kernel)
    (.inl ⟨by rfl, fun _ hw => ⟨run_eq_of ?run28, ?guar28⟩⟩) hF ?rest28
  case run28 =>
    intro Kz hKz
    (skip)
    go_simp
    exact hKz
  case guar28 =>
    (skip)
    (co_quiet T)
  try walk_nrm
  co_applyP anyCH_take T (fun _ _ hz rz => TD.rely hz rz) hQR (i := 28) rfl (by first | kernel_rfl | decide +kernel) (by first | kernel_rfl | decide +kernel) (by first | kernel_rfl | decide +kernel)
    (.inl ⟨by rfl, fun _ hw => ⟨run_eq_of ?run29, ?guar29⟩⟩) hF ?rest29
  case run29 =>
    intro Kz hKz
    (skip)
    go_simp
    exact hKz
  case guar29 =>
    (skip)
    (co_quiet T)
  try walk_nrm
  refine anyCH_done (by first | kernel_rfl | decide +kernel) ?_ _
  exact ⟨rfl, cget rfl ⟨rfl, rfl, rfl, rfl, rfl, rfl, rfl, rfl⟩, hF⟩
end
end Go.Proofs.Ytkaapaepanhbgaa
