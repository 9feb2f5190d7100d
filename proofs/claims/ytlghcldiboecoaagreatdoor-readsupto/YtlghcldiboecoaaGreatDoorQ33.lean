/- c.part = append(c.part, b[:n]...), in company. -/
import Derived.Test.YtlghcldiboecoaaGreatDoorQ32
set_option linter.unusedVariables false
set_option linter.unusedSimpArgs false
set_option maxRecDepth 100000
namespace Go.Pair
open Go Go.Conc
section
variable {P : Program} {main : Bool} {R : World → World → Prop} {D : World → World → Array Event → Prop} {fn : FuncId} {ops : Array Oper} {Q : Exit → Act → World → Prop} {md : Region.Mode} {S : World → Prop} {nf l : Nat}
theorem opC_of {i : Nat} {o : Oper} {K : Act → World → Prop} {a : Act} {w : World} (ho : ops[i]? = some o) (hw : Region.wanted o (yielded ops a.tmps) = true)
    (h : ∀ w₁, R w w₁ → uponK o a (fun a' w' => D w₁ w' (listed P fn a o w₁) ∧ K a' w') ((execOp a.eval o).run P w₁)) : OpC P R D fn ops i K a w := by
  unfold OpC
  simp only [ho, hw, if_true]
  exact h

theorem opC_k {i : Nat} {o : Oper} {K : Act → World → Prop} {a : Act} {w : World} (ho : ops[i]? = some o) (hw : Region.wanted o (yielded ops a.tmps) = true)
    (h : ∀ w₁, R w w₁ → ∀ K' : Act → World → Prop, (∀ a' w', D w₁ w' (listed P fn a o w₁) ∧ K a' w' → K' a' w') → uponK o a K' ((execOp a.eval o).run P w₁)) : OpC P R D fn ops i K a w :=
  opC_of ho hw fun w₁ r => h w₁ r _ fun _ _ x => x

theorem AnyL.one (T : Terms R D) (hSR : ∀ x y, S x → R x y → S y) (hQR : ∀ a x y, Q .normal a x → R x y → Q .normal a y) {i : Nat} {oi : Oper} {v : Value} {fuel : Nat} {done : Array Bool} {a : Act} {w : World} (hi : ops[i]? = some oi)
    (hr : Region.ready md ops done = [i]) (hy : YieldsIfC P D fn ops S oi v a) (hS : S w) (h : AnyL P main R D fn md ops Q S nf l fuel (done.setIfInBounds i true) (a.put oi.dst v) w) : AnyL P main R D fn md ops Q S nf l (fuel + 1) done a w :=
  AnyL.only hr (.inl (hy.opC hSR hi (fun a x y h r => ⟨fun z => hSR _ _ (h.1 z) r, AnyL.rely T hSR hQR fuel _ a x y h.2 r⟩) hS ⟨fun _ => hS, h⟩))

end
end Go.Pair
namespace Go.Proofs.YtlghcldiboecoaaGreatDoor.Cu
open Go Go.Conc Go.Pair Go.RowKit

noncomputable def cut2 : Code := Code.one (Code.two cutRest)
/-- The Cutter holds v. -/
def RIs (E : EP) (v : Value) (tl : Bool) (w : World) : Prop := w.heap[E.R]? = some (.cells #[v, .bool tl] 237)

section
variable {E : EP} {sent : List (List UInt8 × Value)} {p : List UInt8} {v : Value} {tl : Bool} {w w' w₁ : World} {k : Nat} {FB : List (List UInt8 × Value) → World → Prop} {PostA : List (List UInt8 × Value) → Goroutine → World → Prop}
theorem RIs.rely (O : E.Ok) (h : RIs E v tl w) (r : RB (E.cfg k FB PostA) w w₁) : RIs E v tl w₁ := r.keep.keep _ _ h ⟨O.rg, O.rc, O.rv, fun ⟨x, _⟩ => by have := O.r; omega⟩
theorem RIs.c0 (h : RIs E v tl w) : w.cell? ⟨E.R, 0, none⟩ = some v := by unfold RIs at h; simp [World.cell?, h]
theorem AView.c0 {v' : Value} (h : AView E sent p v' tl v w) : w.cell? ⟨E.R, 0, none⟩ = some v := by simp [World.cell?, h.r]
theorem PartAt.shape (h : PartAt E sent w p v) : ∃ a c, v = .slice a p.length c := by
  rcases h with ⟨rfl, rfl⟩ | ⟨q, c, cells, h1, _⟩
  · exact ⟨none, 0, rfl⟩
  · exact ⟨_, _, h1⟩

theorem RIs.ev (h : RIs E v tl w) (i : Nat) : EvP (E.cfg k FB PostA).LB w ⟨.cell ⟨E.R, i, none⟩, false, false⟩ := .inr ⟨_, _, rfl, ⟨_, rfl, .inl (.inl rfl)⟩, lt_of_get h⟩

set_option maxRecDepth 100000 in
set_option maxHeartbeats 1000000 in
/-- The next bytes go behind the part. -/
theorem cut2_c (O : E.Ok) (x o bl bcap : Nat) (news : List UInt8) (cs : Array Value) (hx : E.Fix x = some (.cells cs 5)) (hns : ∀ a : Addr, a.block = x → ¬ E.Shun (.cell a)) (hcs : ∀ i (h : i < news.length), cs[o + i]? = some (.int .u8 (news[i].toNat : Int)))
    (h0 : 0 < news.length) (hj : news.length ≤ bl) (hc : bl ≤ bcap) (hbig : bcap ≤ maxLen) (hp : p.length + news.length ≤ 4294967296) (ch : Value) : ∃ m, ∀ v w u, BView E sent p v tl w →
    cut2.wpC Tryz.prog false (RB (E.cfg k FB PostA)) (DB (E.cfg k FB PostA) sent) 161 m (fun e a' w' => e = .normal ∧ (∃ u', a' = CutAct (.pointer (some ⟨E.R, 0, none⟩)) (.slice (some ⟨x, o, none⟩) bl bcap) ch (.int .i64 news.length) u') ∧ ∃ v', BView E sent (p ++ news) v' tl w')
      (CutAct (.pointer (some ⟨E.R, 0, none⟩)) (.slice (some ⟨x, o, none⟩) bl bcap) ch (.int .i64 news.length) u) w := by
  have T := termsB (E.cfg k FB PostA) sent
  have hev := fun w es => events_sl_h w es (some ⟨x, o, none⟩) bl bcap news.length (by omega) (by omega)
  have hj0 : (0 : Int) ≤ (news.length : Int) := by omega
  have hj1 : (news.length : Int) ≤ (bcap : Int) := by omega
  have hj2 : (bl : Int) ≤ (bcap : Int) := by omega
  co_apply Exists.intro
  intro v w u hF
  obtain ⟨va, vc, rfl⟩ := hF.shape
  have hQR : ∀ (a : Act) (y z : World), ((Exit.normal = Exit.normal ∧ (∃ u', a = CutAct (.pointer (some ⟨E.R, 0, none⟩)) (.slice (some ⟨x, o, none⟩) bl bcap) ch (.int .i64 news.length) u') ∧ ∃ v', BView E sent (p ++ news) v' tl y)) → RB (E.cfg k FB PostA) y z →
      (Exit.normal = Exit.normal ∧ (∃ u', a = CutAct (.pointer (some ⟨E.R, 0, none⟩)) (.slice (some ⟨x, o, none⟩) bl bcap) ch (.int .i64 news.length) u') ∧ ∃ v', BView E sent (p ++ news) v' tl z) := fun a y z ⟨h1, h2, v', h3⟩ r => ⟨h1, h2, v', h3.rely O r⟩
  simp only [cut2, cutRest, cutLoop, cutCode, Code.core, Code.one, Code.two, Tryz.f161, CutAct]
  co_apply wpC_region_l T letsB (S := RIs E (.slice va p.length vc) tl) (nf := 0) (l := 11) (by first | kernel_rfl | rfl)
  intro _ hR
  replace hF := BView.rely O (BView.rely O hF hR) (rbDraw (k := k) (FB := FB) (PostA := PostA) _)
  clear hR
  have hS : RIs E (.slice va p.length vc) tl _ := hF.r
  simp only [List.size_toArray, List.length_cons, List.length_nil, Nat.reduceAdd, Nat.zero_add]
  co_applyP AnyL.take T (fun _ _ hz rz => (RIs.rely O) hz rz) hQR (i := 0) rfl (by first | kernel_rfl | decide +kernel) (by first | kernel_rfl | decide +kernel) (by first | kernel_rfl | decide +kernel) (by first | kernel_rfl | decide +kernel)
    (.inl ⟨by rfl, fun _ hw => ⟨run_eq_of ?run1, ?guar1⟩⟩) hS ?rest1
  case run1 =>
    intro Kz hKz
    (skip)
    go_simp
    exact hKz
  case guar1 =>
    (skip)
    (co_quiet T)
  try walk_nrm
  co_applyP AnyL.take T (fun _ _ hz rz => (RIs.rely O) hz rz) hQR (i := 1) rfl (by first | kernel_rfl | decide +kernel) (by first | kernel_rfl | decide +kernel) (by first | kernel_rfl | decide +kernel) (by first | kernel_rfl | decide +kernel)
    (.inl ⟨by rfl, fun _ hw => ⟨run_eq_of ?run2, ?guar2⟩⟩) hS ?rest2
  case run2 =>
    intro Kz hKz
    (skip)
    go_simp
    exact hKz
  case guar2 =>
    (skip)
    (co_quiet T)
  try walk_nrm
  co_applyP AnyL.take T (fun _ _ hz rz => (RIs.rely O) hz rz) hQR (i := 2) rfl (by first | kernel_rfl | decide +kernel) (by first | kernel_rfl | decide +kernel) (by first | kernel_rfl | decide +kernel) (by first | kernel_rfl | decide +kernel)
    (.inl ⟨by rfl, fun _ hw => ⟨run_eq_of ?run3, ?guar3⟩⟩) hS ?rest3
  case run3 =>
    intro Kz hKz
    (skip)
    go_simp
    exact hKz
  case guar3 =>
    (skip)
    (co_quiet T)
  try walk_nrm
  co_applyP AnyL.take T (fun _ _ hz rz => (RIs.rely O) hz rz) hQR (i := 3) rfl (by first | kernel_rfl | decide +kernel) (by first | kernel_rfl | decide +kernel) (by first | kernel_rfl | decide +kernel) (by first | kernel_rfl | decide +kernel)
    (.inl ⟨by rfl, fun _ hw => ⟨run_eq_of ?run4, ?guar4⟩⟩) hS ?rest4
  case run4 =>
    intro Kz hKz
    (skip)
    go_simp
    exact hKz
  case guar4 =>
    (skip)
    (co_quiet T)
  try walk_nrm
  co_applyP AnyL.take T (fun _ _ hz rz => (RIs.rely O) hz rz) hQR (i := 4) rfl (by first | kernel_rfl | decide +kernel) (by first | kernel_rfl | decide +kernel) (by first | kernel_rfl | decide +kernel) (by first | kernel_rfl | decide +kernel)
    (.inl ⟨by rfl, fun _ hw => ⟨run_eq_of ?run5, ?guar5⟩⟩) hS ?rest5
  case run5 =>
    intro Kz hKz
    (have hc := hw.c0)
    go_simp
    exact hKz
  case guar5 =>
    (have hc := hw.c0)
    (refine db_read ?_; co_evs (exact hw.ev 0))
  try walk_nrm
  co_applyP AnyL.take T (fun _ _ hz rz => (RIs.rely O) hz rz) hQR (i := 5) rfl (by first | kernel_rfl | decide +kernel) (by first | kernel_rfl | decide +kernel) (by first | kernel_rfl | decide +kernel) (by first | kernel_rfl | decide +kernel)
    (.inl ⟨by rfl, fun _ hw => ⟨run_eq_of ?run6, ?guar6⟩⟩) hS ?rest6
  case run6 =>
    intro Kz hKz
    (skip)
    go_simp
    exact hKz
  case guar6 =>
    (skip)
    (co_quiet T)
  try walk_nrm
  co_applyP AnyL.take T (fun _ _ hz rz => (RIs.rely O) hz rz) hQR (i := 6) rfl (by first | kernel_rfl | decide +kernel) (by first | kernel_rfl | decide +kernel) (by first | kernel_rfl | decide +kernel) (by first | kernel_rfl | decide +kernel)
    (.inl ⟨by rfl, fun _ hw => ⟨run_eq_of ?run7, ?guar7⟩⟩) hS ?rest7
  case run7 =>
    intro Kz hKz
    (skip)
    go_simp
    exact hKz
  case guar7 =>
    (skip)
    (co_quiet T)
  try walk_nrm
  co_applyP AnyL.take T (fun _ _ hz rz => (RIs.rely O) hz rz) hQR (i := 7) rfl (by first | kernel_rfl | decide +kernel) (by first | kernel_rfl | decide +kernel) (by first | kernel_rfl | decide +kernel) (by first | kernel_rfl | decide +kernel)
    (.inl ⟨by rfl, fun _ hw => ⟨run_eq_of ?run8, ?guar8⟩⟩) hS ?rest8
  case run8 =>
    intro Kz hKz
    (skip)
    go_simp
    exact hKz
  case guar8 =>
    (skip)
    (co_still T)
  try walk_nrm
  refine AnyL.only (i := 8) (by first | kernel_rfl | decide +kernel) (.inl (opC_of rfl (by rfl) fun w₁ r => ?_))
  replace hF := hF.rely O r
  clear hS r
  have hsr := hF.src x _ hx
  obtain ⟨v', w', hr, hA, hD⟩ := append_c (k := k) (FB := FB) (PostA := PostA) (c := bcap) O hF (a := ⟨x, o, none⟩) (m := news.length) (news := news) rfl h0 (fun j u hu => by
    have hjl : j < news.length := by have := (List.getElem?_eq_some_iff.1 hu).1; simpa [bc] using this
    rw [bc_get news j hjl] at hu
    rw [← hu, Addr.add_lit]
    simp [World.cell?, hsr, hcs j hjl]) (fun ad e => (O.fix x _ hx).still e (hns ad e)) (lt_of_get hsr) hp
  refine uponK_append (.tmp 19) (.tmp 22) 57 rfl rfl rfl hr ⟨hD _ fun e he => ?_, fun _ => hA.r, ?_⟩
  · have hm := mem_listed he
    rw [events_append_op (.tmp 19) (.tmp 22) 57 rfl rfl rfl] at hm
    exact hm
  clear hr hD hF hsr
  have hS : RIs E (.slice va p.length vc) tl _ := hA.r
  walk_nrm
  co_applyP AnyL.one T (fun _ _ hz rz => (RIs.rely O) hz rz) hQR (i := 9) rfl (by first | kernel_rfl | decide +kernel)
    (.inl ⟨by rfl, fun _ hw => ⟨run_eq_of ?run9, ?guar9⟩⟩) hS ?rest9
  case run9 =>
    intro Kz hKz
    (skip)
    go_simp
    exact hKz
  case guar9 =>
    (skip)
    (co_quiet T)
  try walk_nrm
  co_applyP AnyL.one T (fun _ _ hz rz => (RIs.rely O) hz rz) hQR (i := 10) rfl (by first | kernel_rfl | decide +kernel)
    (.inl ⟨by rfl, fun _ hw => ⟨run_eq_of ?run10, ?guar10⟩⟩) hS ?rest10
  case run10 =>
    intro Kz hKz
    (skip)
    go_simp
    exact hKz
  case guar10 =>
    (skip)
    (co_quiet T)
  try walk_nrm
  refine AnyL.only (i := 11) (by first | kernel_rfl | decide +kernel) (.inl (opC_k rfl (by rfl) fun w₂ r K' hK => ?_))
  replace hA := hA.rely O r
  clear hS r
  have hc := hA.c0
  have hfz := hA.fz 0
  obtain ⟨a', c', rfl⟩ := hA.part.shape
  have hse := evs_storeR _ hc hfz (.slice a' (p ++ news).length c') rfl
  simp only [List.length_append] at hse
  go_simp
  try (unfold stored; go_simp)
  refine hK _ _ ⟨?_, fun h => absurd h (by first | decide | simp), ?_⟩
  · refine db_setR O 0 _ ?_
    co_evs (exact evWR hA _ 0)
  clear hK K'
  try walk_nrm
  have hB := hA.store O
  rw [List.length_append] at hB
  exact AnyL.all (by first | kernel_rfl | decide +kernel) ⟨rfl, cutAct_of _ rfl, _, hB⟩ _

end
end Go.Proofs.YtlghcldiboecoaaGreatDoor.Cu

/- The tests of cut's loop, in company. -/
set_option linter.unusedVariables false
set_option linter.unusedSimpArgs false
set_option maxRecDepth 100000
namespace Go.Proofs.YtlghcldiboecoaaGreatDoor.Cu
open Go Go.Conc Go.Pair Go.RowKit

section
variable {E : EP} {sent : List (List UInt8 × Value)} {p : List UInt8} {v : Value} {tl : Bool} {w w' w₁ : World} {k : Nat} {FB : List (List UInt8 × Value) → World → Prop} {PostA : List (List UInt8 × Value) → Goroutine → World → Prop}

theorem cutAct_40 {c b ch n x : Value} (a : Act) (h : a = CutAct c b ch n fun i => a.tmps.getD i undef) (h40 : a.tmps.getD 40 undef = x) : ∃ u', a = CutAct c b ch n u' ∧ u' 40 = x := ⟨_, h, h40⟩
set_option maxRecDepth 100000 in
set_option maxHeartbeats 1000000 in
/-- The length is not too great. -/
theorem cut4_ok (O : E.Ok) (hl : lenOf p ≤ 1000) (b ch n : Value) : ∃ m, ∀ v w u, BView E sent p v tl w →
    cut4.wpC Tryz.prog false (RB (E.cfg k FB PostA)) (DB (E.cfg k FB PostA) sent) 161 m (fun e a' w' => e = .normal ∧ (∃ u', a' = CutAct (.pointer (some ⟨E.R, 0, none⟩)) b ch n u') ∧ BView E sent p v tl w')
      (CutAct (.pointer (some ⟨E.R, 0, none⟩)) b ch n u) w := by
  have T := termsB (E.cfg k FB PostA) sent
  obtain ⟨nu, hu⟩ := length_any (sent := sent) (tl := tl) (k := k) (FB := FB) (PostA := PostA) (p := p) O
  have hlt : ¬ (1000 : Int) < (lenOf p : Int) := by omega
  co_apply Exists.intro
  intro v w u hF
  simp only [cut4, cutRest, cutLoop, cutCode, Code.core, Code.one, Code.two, Tryz.f161, CutAct]
  co_apply wpC_seq T
  co_reg T
  co_op (BView.rely O) hF (co_quiet T)
  co_apply opsC_call T rfl (by rfl) rfl
  · walk_nrm
    exact hu _ _ hF
  rintro x w' ⟨rfl, hF⟩
  walk_nrm
  co_op (BView.rely O) hF (co_quiet T)
  co_apply opsC_nil T
  co_then
  co_apply wpC_cond T (t := false) rfl
  simp only [Bool.false_eq_true, if_false]
  co_apply wpC_skip T
  exact ⟨rfl, cutAct_of _ rfl, hF⟩

theorem BView.bare (h : BView E sent p v tl w) : AView E sent [] (.slice none 0 0) tl v w := ⟨h.r, .inl ⟨rfl, rfl⟩, h.low, h.old, h.src, h.wg, h.dis⟩
theorem BView.same (h : BView E sent p v tl w) : AView E sent p v tl v w := ⟨h.r, h.part, h.low, h.old, h.src, h.wg, h.dis⟩

set_option maxRecDepth 100000 in
set_option maxHeartbeats 1000000 in
/-- The length is too great. -/
theorem cut4_long (O : E.Ok) (hl : 1000 < lenOf p) (b ch n : Value) : ∃ m, ∀ v w u, BView E sent p v tl w →
    cut4.wpC Tryz.prog false (RB (E.cfg k FB PostA)) (DB (E.cfg k FB PostA) sent) 161 m (fun e a' w' => e = .ret ∧ (∃ u', a' = CutAct (.pointer (some ⟨E.R, 0, none⟩)) b ch n u') ∧ ∃ v', BView E sent [] v' true w')
      (CutAct (.pointer (some ⟨E.R, 0, none⟩)) b ch n u) w := by
  have T := termsB (E.cfg k FB PostA) sent
  obtain ⟨nu, hu⟩ := length_any (sent := sent) (tl := tl) (k := k) (FB := FB) (PostA := PostA) (p := p) O
  have hlt : (1000 : Int) < (lenOf p : Int) := by omega
  co_apply Exists.intro
  intro v w u hF
  simp only [cut4, cutRest, cutLoop, cutCode, Code.core, Code.one, Code.two, Tryz.f161, CutAct]
  co_apply wpC_seq T
  co_reg T
  co_op (BView.rely O) hF (co_quiet T)
  co_apply opsC_call T rfl (by rfl) rfl
  · walk_nrm
    exact hu _ _ hF
  rintro x w' ⟨rfl, hF⟩
  walk_nrm
  co_op (BView.rely O) hF (co_quiet T)
  co_apply opsC_nil T
  co_then
  co_apply wpC_cond T (t := true) rfl
  simp only [if_true]
  co_apply wpC_seq T
  co_reg T
  obtain ⟨va, vc, rfl⟩ := hF.shape
  co_op (BView.rely O) hF (co_quiet T)
  co_op (BView.rely O) hF (co_quiet T)
  co_op (BView.rely O) hF (co_quiet T)
  co_op (BView.rely O) hF (co_quiet T)
  co_opw (BView.rely O) hF (have hc := hF.c0; have hfz := hF.fz 0; have hse := evs_storeR _ hc hfz (.slice none 0 0) rfl) (refine db_setR O 0 _ ?_; co_evs (exact evWR hF.bare _ 0))
  clear hc hfz hse
  have hG := hF.bare.store O
  clear hF
  co_op (BView.rely O) hG (co_quiet T)
  co_op (BView.rely O) hG (co_quiet T)
  co_opw (BView.rely O) hG (have hc := hG.c1; have hfz := hG.fz 1; have hse := evs_storeR _ hc hfz (.bool true) rfl) (refine db_setR O 1 _ ?_; co_evs (exact evWR hG.same _ 1))
  clear hc hfz hse
  co_apply opsC_nil T
  co_then
  co_apply wpC_ret T
  refine ⟨rfl, cutAct_of _ rfl, .slice none 0 0, ?_⟩
  exact ⟨by rw [setCell_row hG.r]; rfl, hG.part.setR, by rw [set_size]; exact hG.low, fun x hx => by rw [set_size]; exact hG.old x hx, fun i o e => by rw [set_other _ _ (O.fix i o e).2.1]; exact hG.src i o e, let ⟨st, sm, x⟩ := hG.wg; ⟨st, sm, by unfold WgIs; rw [set_other _ _ (Ne.symm O.rg)]; exact x⟩, hG.dis⟩

set_option maxRecDepth 100000 in
set_option maxHeartbeats 1000000 in
/-- Is the frame whole? -/
theorem cut6_c (O : E.Ok) (hbig : p.length < 4294967296) (b ch n : Value) : ∃ m, ∀ v w u, BView E sent p v tl w →
    cut6.wpC Tryz.prog false (RB (E.cfg k FB PostA)) (DB (E.cfg k FB PostA) sent) 161 m (fun e a' w' => e = .normal ∧ (∃ u', a' = CutAct (.pointer (some ⟨E.R, 0, none⟩)) b ch n u' ∧ u' 40 = .bool (decide (missing p = 0))) ∧ BView E sent p v tl w')
      (CutAct (.pointer (some ⟨E.R, 0, none⟩)) b ch n u) w := by
  have T := termsB (E.cfg k FB PostA) sent
  obtain ⟨nu, hu⟩ := missing_any (sent := sent) (tl := tl) (k := k) (FB := FB) (PostA := PostA) (p := p) O hbig
  co_apply Exists.intro
  intro v w u hF
  simp only [cut6, cut5, cutRest, cutLoop, cutCode, Code.core, Code.one, Code.two, Tryz.f161, CutAct]
  co_reg T
  co_op (BView.rely O) hF (co_quiet T)
  co_apply opsC_call T rfl (by rfl) rfl
  · walk_nrm
    exact hu _ _ hF
  rintro x w' ⟨rfl, hF⟩
  walk_nrm
  co_op (BView.rely O) hF (co_quiet T)
  co_apply opsC_nil T
  exact ⟨rfl, cutAct_40 _ rfl rfl, hF⟩

end
end Go.Proofs.YtlghcldiboecoaaGreatDoor.Cu

/- How bytes are cut into bodies: the rounds of cut's loop. -/
set_option linter.unusedVariables false
set_option linter.unusedSimpArgs false
set_option maxRecDepth 100000
namespace Go.Proofs.YtlghcldiboecoaaGreatDoor.Cu
open Go Go.Conc Go.Pair Go.RowKit

/-- A part that something is missing of. -/
structure OkP (p : List UInt8) : Prop where
  pos : 0 < missing p
  len : lenOf p ≤ 1000

/-- How many bytes the next round takes. -/
def nn (p bs : List UInt8) : Nat := if (bs.length : Int) < missing p then bs.length else (missing p).toNat

/-- The part behind it. -/
def nextP (p bs : List UInt8) : List UInt8 := p ++ bs.take (nn p bs)

theorem okP_nil : OkP [] := ⟨by decide, by decide⟩
theorem missing_lenOf (p : List UInt8) : missing p = if p.length < 4 then 4 - (p.length : Int) else 4 + lenOf p - p.length := by
  unfold missing lenOf
  by_cases h : p.length < 4
  · simp [h]
  · simp [h]

theorem OkP.lt {p : List UInt8} (h : OkP p) : p.length < 1004 := by
  have h1 := h.pos
  have h2 := h.len
  rw [missing_lenOf] at h1
  split at h1 <;> omega

theorem nn_pos {p bs : List UInt8} (h : OkP p) (hb : bs ≠ []) : 0 < nn p bs := by
  have := List.length_pos_iff.2 hb
  have := h.pos
  unfold nn
  split <;> omega

theorem nn_le (p bs : List UInt8) : nn p bs ≤ bs.length := by
  unfold nn
  split <;> omega

theorem nn_int {p bs : List UInt8} (h : OkP p) : (if (bs.length : Int) < missing p then (bs.length : Int) else missing p) = (nn p bs : Int) := by
  have := h.pos
  unfold nn
  split <;> omega

theorem nn_miss {p bs : List UInt8} (h : OkP p) : (nn p bs : Int) ≤ missing p := by
  have := h.pos
  unfold nn
  split <;> omega

theorem nextP_len {p bs : List UInt8} : (nextP p bs).length = p.length + nn p bs := by
  have := nn_le p bs
  simp [nextP]
  omega

theorem nextP_lt {p bs : List UInt8} (h : OkP p) : (nextP p bs).length ≤ 1004 := by
  have h1 := h.len
  have h2 := nn_miss (bs := bs) h
  rw [missing_lenOf] at h2
  rw [nextP_len]
  split at h2 <;> omega

theorem nextP_miss {p bs : List UInt8} (h : OkP p) : 0 ≤ missing (nextP p bs) := by
  have h2 := nn_miss (bs := bs) h
  have h3 := nextP_len (p := p) (bs := bs)
  rw [missing_lenOf] at h2
  rw [missing_lenOf]
  split
  · omega
  · rename_i h4
    by_cases hp : p.length < 4
    · rw [if_pos hp] at h2
      omega
    · rw [if_neg hp] at h2
      have : lenOf (nextP p bs) = lenOf p := by
        unfold lenOf
        rw [if_neg h4, if_neg hp]
        congr 1
        unfold nextP
        rw [List.take_append_of_le_length (by omega)]
      omega

theorem nextP_ok {p bs : List UInt8} (h : OkP p) (hl : lenOf (nextP p bs) ≤ 1000) (hm : missing (nextP p bs) ≠ 0) : OkP (nextP p bs) :=
  ⟨by have := nextP_miss (bs := bs) h; omega, hl⟩

theorem whole_len {p : List UInt8} (hm : missing p = 0) : 4 ≤ p.length := by
  rw [missing_lenOf] at hm
  split at hm <;> omega

/-- The bytes bs behind the part p: these bodies end in them; the part q is left; a length that is too great has come, or not. -/
inductive Cuts : List UInt8 → List UInt8 → List (List UInt8) → List UInt8 → Bool → Prop
  | done (p : List UInt8) : Cuts p [] [] p false
  | long {p bs : List UInt8} : bs ≠ [] → 1000 < lenOf (nextP p bs) → Cuts p bs [] [] true
  | body {p bs : List UInt8} {bodies : List (List UInt8)} {q : List UInt8} {t : Bool} : bs ≠ [] → lenOf (nextP p bs) ≤ 1000 → missing (nextP p bs) = 0 → Cuts [] (bs.drop (nn p bs)) bodies q t → Cuts p bs ((nextP p bs).drop 4 :: bodies) q t
  | more {p bs : List UInt8} {bodies : List (List UInt8)} {q : List UInt8} {t : Bool} : bs ≠ [] → lenOf (nextP p bs) ≤ 1000 → missing (nextP p bs) ≠ 0 → Cuts (nextP p bs) (bs.drop (nn p bs)) bodies q t → Cuts p bs bodies q t

theorem cuts_any : ∀ (N : Nat) (p bs : List UInt8), bs.length ≤ N → OkP p → ∃ bodies q t, Cuts p bs bodies q t
  | N, p, [], _, _ => ⟨_, _, _, .done p⟩
  | 0, p, _ :: _, h, _ => by simp at h
  | N + 1, p, c :: bs, h, hp => by
    have hb : c :: bs ≠ [] := by simp
    have h0 := nn_pos hp hb
    have hd : ((c :: bs).drop (nn p (c :: bs))).length ≤ N := by rw [List.length_drop]; omega
    by_cases hl : 1000 < lenOf (nextP p (c :: bs))
    · exact ⟨_, _, _, .long hb hl⟩
    · by_cases hm : missing (nextP p (c :: bs)) = 0
      · obtain ⟨bodies, q, t, h1⟩ := cuts_any N [] _ hd okP_nil
        exact ⟨_, _, _, .body hb (by omega) hm h1⟩
      · obtain ⟨bodies, q, t, h1⟩ := cuts_any N _ _ hd (nextP_ok hp (by omega) hm)
        exact ⟨_, _, _, .more hb (by omega) hm h1⟩

theorem Cuts.ok {p bs : List UInt8} {bodies : List (List UInt8)} {q : List UInt8} {t : Bool} (h : Cuts p bs bodies q t) (hp : OkP p) : OkP q := by
  induction h with
  | done p => exact hp
  | long _ _ => exact okP_nil
  | body _ _ _ _ ih => exact ih okP_nil
  | more _ h1 h2 _ ih => exact ih (nextP_ok hp h1 h2)

end Go.Proofs.YtlghcldiboecoaaGreatDoor.Cu
