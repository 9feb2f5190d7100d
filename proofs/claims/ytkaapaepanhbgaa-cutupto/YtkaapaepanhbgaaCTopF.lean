/- Cut: the third loop: what is told against what is wanted. -/
import Derived.Test.YtkaapaepanhbgaaCBack
set_option linter.unusedVariables false
set_option linter.unusedSimpArgs false
namespace Go.Proofs.Ytkaapaepanhbgaa
open Go Go.Conc Go.Pair Go.RowKit


noncomputable def BC : Code := Code.core (Code.one (Code.two LC))
theorem LC_eq : LC = .seq (.seq (.region 20 (Code.ops (Code.one (Code.one LC))) false) (.cond (.tmp 110) .skip (.exit 4))) (.seq (.block 5 BC) (.region 21 (Code.ops (Code.two (Code.two LC))) false)) := rfl
noncomputable def r22 : Code := Code.one BC
theorem BC_eq : BC = .seq r22 (.cond (.tmp 141) (Code.yes (Code.two BC)) .skip) := rfl

section
variable {Post : Value → World → Prop} {S : Loc → Prop} {W0 w w' w₁ : World} {want l k : Value} {ws : List ByteArray} {sent1 sent2 : List (List UInt8 × Value)} {cs : List Frame} {s : Nat → Value} {tv : Value}

theorem letsS : LetsDraw (DS S) := fun w => ⟨Nat.le_refl _, by simp, rfl, rfl⟩
theorem drawS (w : World) : AtRel w { w with drawn := w.drawn + 1 } := ⟨w.drawn + 1, rfl⟩

/-- The i-th of a list that was told. -/
theorem ListAt.get {sent : List (List UInt8 × Value)} {l : Value} (h : ListAt w sent l) {g n c i : Nat} (hl : l = .slice (some ⟨g, 0, none⟩) n c) (hi : i < sent.length) : w.cell? ((⟨g, 0, none⟩ : Addr).add i) = some (sent[i].2) ∧ (∃ cells, w.heap[g]? = some (.cells cells 25)) := by
  rcases h.1 with ⟨h1, _⟩ | ⟨q, c, cells, h1, h2, h3, h4, h5, h6⟩
  · rw [h1] at hl; cases hl
  · rw [h1] at hl
    cases hl
    have := h5 i (by simpa using hi)
    refine ⟨?_, cells, h3⟩
    rw [Addr.add_lit]
    simp only [World.cell?, Nat.zero_add, h3, this]
    simp

set_option maxRecDepth 100000 in
set_option maxHeartbeats 4000000 in
/-- Within what is wanted. -/
theorem r22_in {lg kg lc kc wc n i : Nat} {ad : Addr} {b : List UInt8} {r1 r2 : Nat} (hl : l = .slice (some ⟨lg, 0, none⟩) n lc) (hk : k = .slice (some ⟨kg, 0, none⟩) n kc) (hw : want = .slice (some ad) ws.length wc) (hi : i < n) (hiw : i < ws.length) (h1i : i < sent1.length) (h2i : i < sent2.length)
    (e1 : sent1[i] = (b, .slice (some ⟨r1, 0, none⟩) b.length b.length)) (e2 : sent2[i] = (b, .slice (some ⟨r2, 0, none⟩) b.length b.length)) (ew : ws[i] = ⟨b.toArray⟩) :
    ∃ m, ∀ w (s : Nat → Value), s 1 = tv → s 6 = .bool false → s 7 = want → s 13 = l → s 16 = k → s 19 = .int .i64 i → TD W0 want ws sent1 l sent2 k S w →
    r22.wpC Try.prog true AtRel (DS S) 3 m (fun e a' w' => e = .normal ∧ (∃ s', a' = CAct s' ∧ s' 1 = tv ∧ s' 6 = .bool false ∧ s' 7 = want ∧ s' 13 = l ∧ s' 14 = s 14 ∧ s' 16 = k ∧ s' 19 = .int .i64 i ∧ s' 141 = .bool false) ∧ TD W0 want ws sent1 l sent2 k S w') (CAct s) w := by
  have T := termsS S
  subst hl
  subst hk
  subst hw
  have hlt : (i : Int) < (n : Int) := by omega
  have hltw : (i : Int) < (ws.length : Int) := by omega
  have hi0 : (0 : Int) ≤ (i : Int) := by omega
  co_apply Exists.intro
  intro w s h1 h6 h7 h13 h16 h19 hF
  have hQR : ∀ (a : Act) (y z : World), (Exit.normal = Exit.normal ∧ (∃ s', a = CAct s' ∧ s' 1 = tv ∧ s' 6 = .bool false ∧ s' 7 = .slice (some ad) ws.length wc ∧ s' 13 = .slice (some ⟨lg, 0, none⟩) n lc ∧ s' 14 = s 14 ∧ s' 16 = .slice (some ⟨kg, 0, none⟩) n kc ∧ s' 19 = .int .i64 i ∧ s' 141 = .bool false) ∧ TD W0 (.slice (some ad) ws.length wc) ws sent1 (.slice (some ⟨lg, 0, none⟩) n lc) sent2 (.slice (some ⟨kg, 0, none⟩) n kc) S y) → AtRel y z →
      (Exit.normal = Exit.normal ∧ (∃ s', a = CAct s' ∧ s' 1 = tv ∧ s' 6 = .bool false ∧ s' 7 = .slice (some ad) ws.length wc ∧ s' 13 = .slice (some ⟨lg, 0, none⟩) n lc ∧ s' 14 = s 14 ∧ s' 16 = .slice (some ⟨kg, 0, none⟩) n kc ∧ s' 19 = .int .i64 i ∧ s' 141 = .bool false) ∧ TD W0 (.slice (some ad) ws.length wc) ws sent1 (.slice (some ⟨lg, 0, none⟩) n lc) sent2 (.slice (some ⟨kg, 0, none⟩) n kc) S z) := fun a y z ⟨g1, g2, g3⟩ r => ⟨g1, g2, g3.rely r⟩
  simp only [r22, BC, LC, c9, c8, c7, c6, c5, c4, c3, c2, body3, Code.core, Code.one, Code.two, Try.f3, Option.getD_some, CAct, h1, h6, h7, h13, h16, h19]
  co_held T letsS drawS (TD W0 (.slice (some ad) ws.length wc) ws sent1 (.slice (some ⟨lg, 0, none⟩) n lc) sent2 (.slice (some ⟨kg, 0, none⟩) n kc) S) TD.rely hF
  co_applyP anyCH_take T (fun _ _ hz rz => TD.rely hz rz) hQR (i := 0) rfl (by first | kernel_rfl | decide +kernel) (by first | kernel_rfl | decide +kernel) (by first | kernel_rfl | decide +kernel)
    (.inl ⟨by rfl, fun _ hw => ⟨run_eq_of ?run1, ?guar1⟩⟩) hF ?rest1
  case run1 =>
    intro Kz hKz
    (skip)
    go_simp
    exact hKz
  case guar1 =>
    (skip)
    (co_quiet T)
  try walk_nrm
  co_applyP anyCH_take T (fun _ _ hz rz => TD.rely hz rz) hQR (i := 1) rfl (by first | kernel_rfl | decide +kernel) (by first | kernel_rfl | decide +kernel) (by first | kernel_rfl | decide +kernel)
    (.inl ⟨by rfl, fun _ hw => ⟨run_eq_of ?run2, ?guar2⟩⟩) hF ?rest2
  case run2 =>
    intro Kz hKz
    (skip)
    go_simp
    exact hKz
  case guar2 =>
    (skip)
    (co_quiet T)
  try walk_nrm
  co_applyP anyCH_take T (fun _ _ hz rz => TD.rely hz rz) hQR (i := 2) rfl (by first | kernel_rfl | decide +kernel) (by first | kernel_rfl | decide +kernel) (by first | kernel_rfl | decide +kernel)
    (.inl ⟨by rfl, fun _ hw => ⟨run_eq_of ?run3, ?guar3⟩⟩) hF ?rest3
  case run3 =>
    intro Kz hKz
    (skip)
    go_simp
    exact hKz
  case guar3 =>
    (skip)
    (co_still T)
  try walk_nrm
  have tdl : ∀ {w : World}, TD W0 (.slice (some ad) ws.length wc) ws sent1 (.slice (some ⟨lg, 0, none⟩) n lc) sent2 (.slice (some ⟨kg, 0, none⟩) n kc) S w → w.cell? ⟨lg, i, none⟩ = some (.slice (some ⟨r1, 0, none⟩) b.length b.length) ∧ EvL S w.heap.size ⟨.cell ⟨lg, i, none⟩, false, false⟩ := fun h => by
    obtain ⟨g1, cells, g2⟩ := h.l.get rfl h1i
    rw [e1, Addr.add_lit, Nat.zero_add] at g1
    exact ⟨g1, evL_cell (h.shun.notA g2 (by simp [kindOf])) (lt_of_get g2)⟩
  have tdk : ∀ {w : World}, TD W0 (.slice (some ad) ws.length wc) ws sent1 (.slice (some ⟨lg, 0, none⟩) n lc) sent2 (.slice (some ⟨kg, 0, none⟩) n kc) S w → w.cell? ⟨kg, i, none⟩ = some (.slice (some ⟨r2, 0, none⟩) b.length b.length) ∧ EvL S w.heap.size ⟨.cell ⟨kg, i, none⟩, false, false⟩ := fun h => by
    obtain ⟨g1, cells, g2⟩ := h.k.get rfl h2i
    rw [e2, Addr.add_lit, Nat.zero_add] at g1
    exact ⟨g1, evL_cell (h.shun.notA g2 (by simp [kindOf])) (lt_of_get g2)⟩
  have tdw : ∀ {w : World}, TD W0 (.slice (some ad) ws.length wc) ws sent1 (.slice (some ⟨lg, 0, none⟩) n lc) sent2 (.slice (some ⟨kg, 0, none⟩) n kc) S w → w.cell? (ad.add i) = some (.string ⟨b.toArray⟩) ∧ EvL S w.heap.size ⟨.cell (ad.add i), false, false⟩ := fun h => by
    obtain ⟨ad', c', g1, g2, g3⟩ := h.hwant
    cases g1
    have := g2 i hiw
    rw [ew] at this
    exact ⟨this, evL_cell (h.wk ad wc rfl i) (g3 i)⟩
  have tdr1 : ∀ {w : World}, TD W0 (.slice (some ad) ws.length wc) ws sent1 (.slice (some ⟨lg, 0, none⟩) n lc) sent2 (.slice (some ⟨kg, 0, none⟩) n kc) S w → w.heap[r1]? = some (.cells (bc b).toArray 5) := fun h => by
    obtain ⟨r, g1, g2⟩ := h.l.2 sent1[i] (List.getElem_mem _)
    rw [e1] at g1 g2
    cases g1
    exact g2
  have tdr2 : ∀ {w : World}, TD W0 (.slice (some ad) ws.length wc) ws sent1 (.slice (some ⟨lg, 0, none⟩) n lc) sent2 (.slice (some ⟨kg, 0, none⟩) n kc) S w → w.heap[r2]? = some (.cells (bc b).toArray 5) := fun h => by
    obtain ⟨r, g1, g2⟩ := h.k.2 sent2[i] (List.getElem_mem _)
    rw [e2] at g1 g2
    cases g1
    exact g2
  co_applyP anyCH_take T (fun _ _ hz rz => TD.rely hz rz) hQR (i := 3) rfl (by first | kernel_rfl | decide +kernel) (by first | kernel_rfl | decide +kernel) (by first | kernel_rfl | decide +kernel)
    (.inl ⟨by rfl, fun _ hw => ⟨run_eq_of ?run4, ?guar4⟩⟩) hF ?rest4
  case run4 =>
    intro Kz hKz
    (have hc := (tdl hw).1)
    go_simp
    exact hKz
  case guar4 =>
    (have hc := (tdl hw).1)
    (refine ds_read ?_; co_evs (exact (tdl hw).2))
  try walk_nrm
  co_applyP anyCH_take T (fun _ _ hz rz => TD.rely hz rz) hQR (i := 4) rfl (by first | kernel_rfl | decide +kernel) (by first | kernel_rfl | decide +kernel) (by first | kernel_rfl | decide +kernel)
    (.inl ⟨by rfl, fun _ hw => ⟨run_eq_of ?run5, ?guar5⟩⟩) hF ?rest5
  case run5 =>
    intro Kz hKz
    (have hcv := back_run (c := b.length) (tdr1 hw))
    go_simp
    exact hKz
  case guar5 =>
    (have hcv := back_run (c := b.length) (tdr1 hw))
    (refine ds_read fun e he => ?_; have hm := mem_listed he; simp [go_sem] at hm; exact back_ev (tdr1 hw) hw.shun e hm)
  try walk_nrm
  co_applyP anyCH_take T (fun _ _ hz rz => TD.rely hz rz) hQR (i := 5) rfl (by first | kernel_rfl | decide +kernel) (by first | kernel_rfl | decide +kernel) (by first | kernel_rfl | decide +kernel)
    (.inl ⟨by rfl, fun _ hw => ⟨run_eq_of ?run6, ?guar6⟩⟩) hF ?rest6
  case run6 =>
    intro Kz hKz
    (skip)
    go_simp
    exact hKz
  case guar6 =>
    (skip)
    (co_quiet T)
  try walk_nrm
  co_applyP anyCH_take T (fun _ _ hz rz => TD.rely hz rz) hQR (i := 6) rfl (by first | kernel_rfl | decide +kernel) (by first | kernel_rfl | decide +kernel) (by first | kernel_rfl | decide +kernel)
    (.inl ⟨by rfl, fun _ hw => ⟨run_eq_of ?run7, ?guar7⟩⟩) hF ?rest7
  case run7 =>
    intro Kz hKz
    (skip)
    go_simp
    exact hKz
  case guar7 =>
    (skip)
    (co_quiet T)
  try walk_nrm
  co_applyP anyCH_take T (fun _ _ hz rz => TD.rely hz rz) hQR (i := 7) rfl (by first | kernel_rfl | decide +kernel) (by first | kernel_rfl | decide +kernel) (by first | kernel_rfl | decide +kernel)
    (.inl ⟨by rfl, fun _ hw => ⟨run_eq_of ?run8, ?guar8⟩⟩) hF ?rest8
  case run8 =>
    intro Kz hKz
    (skip)
    go_simp
    exact hKz
  case guar8 =>
    (skip)
    (co_still T)
  try walk_nrm
  co_applyP anyCH_take T (fun _ _ hz rz => TD.rely hz rz) hQR (i := 8) rfl (by first | kernel_rfl | decide +kernel) (by first | kernel_rfl | decide +kernel) (by first | kernel_rfl | decide +kernel)
    (.inl ⟨by rfl, fun _ hw => ⟨run_eq_of ?run9, ?guar9⟩⟩) hF ?rest9
  case run9 =>
    intro Kz hKz
    (have hc := (tdk hw).1)
    go_simp
    exact hKz
  case guar9 =>
    (have hc := (tdk hw).1)
    (refine ds_read ?_; co_evs (exact (tdk hw).2))
  try walk_nrm
  co_applyP anyCH_take T (fun _ _ hz rz => TD.rely hz rz) hQR (i := 9) rfl (by first | kernel_rfl | decide +kernel) (by first | kernel_rfl | decide +kernel) (by first | kernel_rfl | decide +kernel)
    (.inl ⟨by rfl, fun _ hw => ⟨run_eq_of ?run10, ?guar10⟩⟩) hF ?rest10
  case run10 =>
    intro Kz hKz
    (have hcv := back_run (c := b.length) (tdr2 hw))
    go_simp
    exact hKz
  case guar10 =>
    (have hcv := back_run (c := b.length) (tdr2 hw))
    (refine ds_read fun e he => ?_; have hm := mem_listed he; simp [go_sem] at hm; exact back_ev (tdr2 hw) hw.shun e hm)
  try walk_nrm
  co_applyP anyCH_take T (fun _ _ hz rz => TD.rely hz rz) hQR (i := 10) rfl (by first | kernel_rfl | decide +kernel) (by first | kernel_rfl | decide +kernel) (by first | kernel_rfl | decide +kernel)
    (.inl ⟨by rfl, fun _ hw => ⟨run_eq_of ?run11, ?guar11⟩⟩) hF ?rest11
  case run11 =>
    intro Kz hKz
    (skip)
    go_simp
    exact hKz
  case guar11 =>
    (skip)
    (co_quiet T)
  try walk_nrm
  co_applyP anyCH_take T (fun _ _ hz rz => TD.rely hz rz) hQR (i := 11) rfl (by first | kernel_rfl | decide +kernel) (by first | kernel_rfl | decide +kernel) (by first | kernel_rfl | decide +kernel)
    (.inl ⟨by rfl, fun _ hw => ⟨run_eq_of ?run12, ?guar12⟩⟩) hF ?rest12
  case run12 =>
    intro Kz hKz
    (skip)
    go_simp
    exact hKz
  case guar12 =>
    (skip)
    (co_quiet T)
  try walk_nrm
  co_applyP anyCH_take T (fun _ _ hz rz => TD.rely hz rz) hQR (i := 12) rfl (by first | kernel_rfl | decide +kernel) (by first | kernel_rfl | decide +kernel) (by first | kernel_rfl | decide +kernel)
    (.inl ⟨by rfl, fun _ hw => ⟨run_eq_of ?run13, ?guar13⟩⟩) hF ?rest13
  case run13 =>
    intro Kz hKz
    (skip)
    go_simp
    exact hKz
  case guar13 =>
    (skip)
    (co_quiet T)
  try walk_nrm
  co_applyP anyCH_take T (fun _ _ hz rz => TD.rely hz rz) hQR (i := 13) rfl (by first | kernel_rfl | decide +kernel) (by first | kernel_rfl | decide +kernel) (by first | kernel_rfl | decide +kernel)
    (.inl ⟨by rfl, fun _ hw => ⟨run_eq_of ?run14, ?guar14⟩⟩) hF ?rest14
  case run14 =>
    intro Kz hKz
    (skip)
    go_simp
    exact hKz
  case guar14 =>
    (skip)
    (co_quiet T)
  try walk_nrm
  co_applyP anyCH_take T (fun _ _ hz rz => TD.rely hz rz) hQR (i := 14) rfl (by first | kernel_rfl | decide +kernel) (by first | kernel_rfl | decide +kernel) (by first | kernel_rfl | decide +kernel)
    (.inl ⟨by rfl, fun _ hw => ⟨run_eq_of ?run15, ?guar15⟩⟩) hF ?rest15
  case run15 =>
    intro Kz hKz
    (skip)
    go_simp
    exact hKz
  case guar15 =>
    (skip)
    (co_quiet T)
  try walk_nrm
  co_applyP anyCH_take T (fun _ _ hz rz => TD.rely hz rz) hQR (i := 15) rfl (by first | kernel_rfl | decide +kernel) (by first | kernel_rfl | decide +kernel) (by first | kernel_rfl | decide +kernel)
    (.inl ⟨by rfl, fun _ hw => ⟨run_eq_of ?run16, ?guar16⟩⟩) hF ?rest16
  case run16 =>
    intro Kz hKz
    (skip)
    go_simp
    exact hKz
  case guar16 =>
    (skip)
    (co_quiet T)
  try walk_nrm
  co_applyP anyCH_take T (fun _ _ hz rz => TD.rely hz rz) hQR (i := 16) rfl (by first | kernel_rfl | decide +kernel) (by first | kernel_rfl | decide +kernel) (by first | kernel_rfl | decide +kernel)
    (.inl ⟨by rfl, fun _ hw => ⟨run_eq_of ?run17, ?guar17⟩⟩) hF ?rest17
  case run17 =>
    intro Kz hKz
    (skip)
    go_simp
    exact hKz
  case guar17 =>
    (skip)
    (co_quiet T)
  try walk_nrm
  co_applyP anyCH_take T (fun _ _ hz rz => TD.rely hz rz) hQR (i := 17) rfl (by first | kernel_rfl | decide +kernel) (by first | kernel_rfl | decide +kernel) (by first | kernel_rfl | decide +kernel)
    (.inl ⟨by rfl, fun _ hw => ⟨run_eq_of ?run18, ?guar18⟩⟩) hF ?rest18
  case run18 =>
    intro Kz hKz
    (skip)
    go_simp
    exact hKz
  case guar18 =>
    (skip)
    (co_quiet T)
  try walk_nrm
  co_applyP anyCH_take T (fun _ _ hz rz => TD.rely hz rz) hQR (i := 18) rfl (by first | kernel_rfl | decide +kernel) (by first | kernel_rfl | decide +kernel) (by first | kernel_rfl | decide +kernel)
    (.inl ⟨by rfl, fun _ hw => ⟨run_eq_of ?run19, ?guar19⟩⟩) hF ?rest19
  case run19 =>
    intro Kz hKz
    (skip)
    go_simp
    exact hKz
  case guar19 =>
    (skip)
    (co_quiet T)
  try walk_nrm
  co_applyP anyCH_take T (fun _ _ hz rz => TD.rely hz rz) hQR (i := 19) rfl (by first | kernel_rfl | decide +kernel) (by first | kernel_rfl | decide +kernel) (by first | kernel_rfl | decide +kernel)
    (.inl ⟨by rfl, fun _ hw => ⟨run_eq_of ?run20, ?guar20⟩⟩) hF ?rest20
  case run20 =>
    intro Kz hKz
    (skip)
    go_simp
    exact hKz
  case guar20 =>
    (skip)
    (co_still T)
  try walk_nrm
  co_applyP anyCH_take T (fun _ _ hz rz => TD.rely hz rz) hQR (i := 20) rfl (by first | kernel_rfl | decide +kernel) (by first | kernel_rfl | decide +kernel) (by first | kernel_rfl | decide +kernel)
    (.inl ⟨by rfl, fun _ hw => ⟨run_eq_of ?run21, ?guar21⟩⟩) hF ?rest21
  case run21 =>
    intro Kz hKz
    (have hc := (tdl hw).1)
    go_simp
    exact hKz
  case guar21 =>
    (have hc := (tdl hw).1)
    (refine ds_read ?_; co_evs (exact (tdl hw).2))
  try walk_nrm
  co_applyP anyCH_take T (fun _ _ hz rz => TD.rely hz rz) hQR (i := 21) rfl (by first | kernel_rfl | decide +kernel) (by first | kernel_rfl | decide +kernel) (by first | kernel_rfl | decide +kernel)
    (.inl ⟨by rfl, fun _ hw => ⟨run_eq_of ?run22, ?guar22⟩⟩) hF ?rest22
  case run22 =>
    intro Kz hKz
    (have hcv := back_run (c := b.length) (tdr1 hw))
    go_simp
    exact hKz
  case guar22 =>
    (have hcv := back_run (c := b.length) (tdr1 hw))
    (refine ds_read fun e he => ?_; have hm := mem_listed he; simp [go_sem] at hm; exact back_ev (tdr1 hw) hw.shun e hm)
  try walk_nrm
  co_applyP anyCH_take T (fun _ _ hz rz => TD.rely hz rz) hQR (i := 22) rfl (by first | kernel_rfl | decide +kernel) (by first | kernel_rfl | decide +kernel) (by first | kernel_rfl | decide +kernel)
    (.inl ⟨by rfl, fun _ hw => ⟨run_eq_of ?run23, ?guar23⟩⟩) hF ?rest23
  case run23 =>
    intro Kz hKz
    (skip)
    go_simp
    exact hKz
  case guar23 =>
    (skip)
    (co_quiet T)
  try walk_nrm
  co_applyP anyCH_take T (fun _ _ hz rz => TD.rely hz rz) hQR (i := 23) rfl (by first | kernel_rfl | decide +kernel) (by first | kernel_rfl | decide +kernel) (by first | kernel_rfl | decide +kernel)
    (.inl ⟨by rfl, fun _ hw => ⟨run_eq_of ?run24, ?guar24⟩⟩) hF ?rest24
  case run24 =>
    intro Kz hKz
    (skip)
    go_simp
    exact hKz
  case guar24 =>
    (skip)
    (co_quiet T)
  try walk_nrm
  co_applyP anyCH_take T (fun _ _ hz rz => TD.rely hz rz) hQR (i := 24) rfl (by first | kernel_rfl | decide +kernel) (by first | kernel_rfl | decide +kernel) (by first | kernel_rfl | decide +kernel)
    (.inl ⟨by rfl, fun _ hw => ⟨run_eq_of ?run25, ?guar25⟩⟩) hF ?rest25
  case run25 =>
    intro Kz hKz
    (skip)
    go_simp
    exact hKz
  case guar25 =>
    (skip)
    (co_still T)
  try walk_nrm
  co_applyP anyCH_take T (fun _ _ hz rz => TD.rely hz rz) hQR (i := 25) rfl (by first | kernel_rfl | decide +kernel) (by first | kernel_rfl | decide +kernel) (by first | kernel_rfl | decide +kernel)
    (.inl ⟨by rfl, fun _ hw => ⟨run_eq_of ?run26, ?guar26⟩⟩) hF ?rest26
  case run26 =>
    intro Kz hKz
    (have hc := (tdw hw).1)
    go_simp
    exact hKz
  case guar26 =>
    (have hc := (tdw hw).1)
    (refine ds_read ?_; co_evs (exact (tdw hw).2))
  try walk_nrm
  co_applyP anyCH_take T (fun _ _ hz rz => TD.rely hz rz) hQR (i := 26) rfl (by first | kernel_rfl | decide +kernel) (by first | kernel_rfl | decide +kernel) (by first | kernel_rfl | decide +kernel)
    (.inl ⟨by rfl, fun _ hw => ⟨run_eq_of ?run27, ?guar27⟩⟩) hF ?rest27
  case run27 =>
    intro Kz hKz
    (skip)
    go_simp
    exact hKz
  case guar27 =>
    (skip)
    (co_quiet T)
  try walk_nrm
  co_applyP anyCH_take T (fun _ _ hz rz => TD.rely hz rz) hQR (i := 27) rfl (by first | kernel_rfl | decide +kernel) (by first | kernel_rfl | decide +kernel) (by first | kernel_rfl | decide +kernel)
    (.inl ⟨by rfl, fun _ hw => ⟨run_eq_of ?run28, ?guar28⟩⟩) hF ?rest28
  case run28 =>
    intro Kz hKz
    (skip)
    go_simp
    exact hKz
  case guar28 =>
    (skip)
    (co_quiet T)
  try walk_nrm
  co_applyP anyCH_take T (fun _ _ hz rz => TD.rely hz rz) hQR (i := 28) rfl (by first | kernel_rfl | decide +kernel) (by first | kernel_rfl | decide +kernel) (by first | kernel_rfl | decide +kernel)
    (.inl ⟨by rfl, fun _ hw => ⟨run_eq_of ?run29, ?guar29⟩⟩) hF ?rest29
  case run29 =>
    intro Kz hKz
    (skip)
    go_simp
    exact hKz
  case guar29 =>
    (skip)
    (co_quiet T)
  try walk_nrm
  refine anyCH_done (by first | kernel_rfl | decide +kernel) ?_ _
  exact ⟨rfl, cget rfl ⟨rfl, rfl, rfl, rfl, rfl, rfl, rfl, rfl⟩, hF⟩
end
end Go.Proofs.Ytkaapaepanhbgaa
