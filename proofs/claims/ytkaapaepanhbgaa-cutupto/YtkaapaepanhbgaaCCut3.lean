/- c.part = append(c.part, b[:n]...), in company. -/
import Derived.Test.YtkaapaepanhbgaaCCutA
import Derived.Test.YtkaapaepanhbgaaHDraw
set_option linter.unusedVariables false
set_option linter.unusedSimpArgs false
namespace Go.Pair
open Go Go.Conc
section
variable {P : Program} {main : Bool} {R : World → World → Prop} {D : World → World → Array Event → Prop} {fn : FuncId} {ops : Array Oper} {Q : Exit → Act → World → Prop} {md : Region.Mode} {S : World → Prop} {nf l : Nat}
theorem opC_of {i : Nat} {o : Oper} {K : Act → World → Prop} {a : Act} {w : World} (ho : ops[i]? = some o) (hw : Region.wanted o (yielded ops a.tmps) = true)
    (h : ∀ w₁, R w w₁ → uponK o a (fun a' w' => D w₁ w' (listed P fn a o w₁) ∧ K a' w') ((execOp a.eval o).run P w₁)) : OpC P R D fn ops i K a w := by
  unfold OpC
  simp only [ho, hw, if_true]
  exact h
theorem opC_k {i : Nat} {o : Oper} {K : Act → World → Prop} {a : Act} {w : World} (ho : ops[i]? = some o) (hw : Region.wanted o (yielded ops a.tmps) = true)
    (h : ∀ w₁, R w w₁ → ∀ K' : Act → World → Prop, (∀ a' w', D w₁ w' (listed P fn a o w₁) ∧ K a' w' → K' a' w') → uponK o a K' ((execOp a.eval o).run P w₁)) : OpC P R D fn ops i K a w :=
  opC_of ho hw fun w₁ r => h w₁ r _ fun _ _ x => x
theorem AnyL.one (T : Terms R D) (hSR : ∀ x y, S x → R x y → S y) (hQR : ∀ a x y, Q .normal a x → R x y → Q .normal a y) {i : Nat} {oi : Oper} {v : Value} {fuel : Nat} {done : Array Bool} {a : Act} {w : World} (hi : ops[i]? = some oi)
    (hr : Region.ready md ops done = [i]) (hy : YieldsIfC P D fn ops S oi v a) (hS : S w) (h : AnyL P main R D fn md ops Q S nf l fuel (done.setIfInBounds i true) (a.put oi.dst v) w) : AnyL P main R D fn md ops Q S nf l (fuel + 1) done a w :=
  AnyL.only hr (.inl (hy.opC hSR hi (fun a x y h r => ⟨fun z => hSR _ _ (h.1 z) r, AnyL.rely T hSR hQR fuel _ a x y h.2 r⟩) hS ⟨fun _ => hS, h⟩))
end
end Go.Pair
namespace Go.Proofs.Ytkaapaepanhbgaa
open Go Go.Conc Go.Pair Go.RowKit


noncomputable def cut2 : Code := Code.one (Code.two cutRest)
/-- The Cutter holds v. -/
def RIs (E : EP) (v : Value) (tl : Bool) (w : World) : Prop := w.heap[E.R]? = some (.cells #[v, .bool tl] 44)
section
variable {E : EP} {sent : List (List UInt8 × Value)} {p : List UInt8} {v : Value} {tl : Bool} {w w' w₁ : World} {k : Nat} {FB : List (List UInt8 × Value) → World → Prop} {PostA : List (List UInt8 × Value) → Goroutine → World → Prop}
theorem RIs.rely (O : E.Ok) (h : RIs E v tl w) (r : RB (E.cfg k FB PostA) w w₁) : RIs E v tl w₁ := r.keep.keep _ _ h ⟨O.rg, O.rc, O.rv, fun ⟨x, _⟩ => by have := O.r; omega⟩
theorem RIs.c0 (h : RIs E v tl w) : w.cell? ⟨E.R, 0, none⟩ = some v := by unfold RIs at h; simp [World.cell?, h]
theorem AView.c0 {v' : Value} (h : AView E sent p v' tl v w) : w.cell? ⟨E.R, 0, none⟩ = some v := by simp [World.cell?, h.r]
theorem PartAt.shape (h : PartAt E sent w p v) : ∃ a c, v = .slice a p.length c := by
  rcases h with ⟨rfl, rfl⟩ | ⟨q, c, cells, h1, _⟩
  · exact ⟨none, 0, rfl⟩
  · exact ⟨_, _, h1⟩
theorem RIs.ev (h : RIs E v tl w) (i : Nat) : EvP (E.cfg k FB PostA).LB w ⟨.cell ⟨E.R, i, none⟩, false, false⟩ := .inr ⟨_, _, rfl, ⟨_, rfl, .inl (.inl rfl)⟩, lt_of_get h⟩

set_option maxRecDepth 100000 in
set_option maxHeartbeats 1000000 in
/-- The next bytes go behind the part. -/
theorem cut2_c (O : E.Ok) (x o bl bcap : Nat) (news : List UInt8) (cs : Array Value) (hx : E.Fix x = some (.cells cs 5)) (hns : ∀ a : Addr, a.block = x → ¬ E.Shun (.cell a)) (hcs : ∀ i (h : i < news.length), cs[o + i]? = some (.int .u8 (news[i].toNat : Int)))
    (h0 : 0 < news.length) (hj : news.length ≤ bl) (hc : bl ≤ bcap) (hbig : bcap ≤ maxLen) (hp : p.length + news.length ≤ 4294967296) (ch : Value) : ∃ m, ∀ v w u, BView E sent p v tl w →
    cut2.wpC Try.prog false (RB (E.cfg k FB PostA)) (DB (E.cfg k FB PostA) sent) 17 m (fun e a' w' => e = .normal ∧ (∃ u', a' = CutAct (.pointer (some ⟨E.R, 0, none⟩)) (.slice (some ⟨x, o, none⟩) bl bcap) ch (.int .i64 news.length) u') ∧ ∃ v', BView E sent (p ++ news) v' tl w')
      (CutAct (.pointer (some ⟨E.R, 0, none⟩)) (.slice (some ⟨x, o, none⟩) bl bcap) ch (.int .i64 news.length) u) w := by
  have T := termsB (E.cfg k FB PostA) sent
  have hev := fun w es => events_sl_h w es (some ⟨x, o, none⟩) bl bcap news.length (by omega) (by omega)
  have hj0 : (0 : Int) ≤ (news.length : Int) := by omega
  have hj1 : (news.length : Int) ≤ (bcap : Int) := by omega
  have hj2 : (bl : Int) ≤ (bcap : Int) := by omega
  co_apply Exists.intro
  intro v w u hF
  obtain ⟨va, vc, rfl⟩ := hF.shape
  have hQR : ∀ (a : Act) (y z : World), ((Exit.normal = Exit.normal ∧ (∃ u', a = CutAct (.pointer (some ⟨E.R, 0, none⟩)) (.slice (some ⟨x, o, none⟩) bl bcap) ch (.int .i64 news.length) u') ∧ ∃ v', BView E sent (p ++ news) v' tl y)) → RB (E.cfg k FB PostA) y z →
      (Exit.normal = Exit.normal ∧ (∃ u', a = CutAct (.pointer (some ⟨E.R, 0, none⟩)) (.slice (some ⟨x, o, none⟩) bl bcap) ch (.int .i64 news.length) u') ∧ ∃ v', BView E sent (p ++ news) v' tl z) := fun a y z ⟨h1, h2, v', h3⟩ r => ⟨h1, h2, v', h3.rely O r⟩
  simp only [cut2, cutRest, cutLoop, cutCode, Code.core, Code.one, Code.two, Try.f17, CutAct]
  co_apply wpC_region_l T letsB (S := RIs E (.slice va p.length vc) tl) (nf := 0) (l := 11) (by first | kernel_rfl | rfl)
  intro _ hR
  replace hF := BView.rely O (BView.rely O hF hR) (rbDraw (k := k) (FB := FB) (PostA := PostA) _)
  clear hR
  have hS : RIs E (.slice va p.length vc) tl _ := hF.r
  simp only [List.size_toArray, List.length_cons, List.length_nil, Nat.reduceAdd, Nat.zero_add]
  co_applyP AnyL.take T (fun _ _ hz rz => (RIs.rely O) hz rz) hQR (i := 0) rfl (by first | kernel_rfl | decide +kernel) (by first | kernel_rfl | decide +kernel) (by first | kernel_rfl | decide +kernel) (by first | kernel_rfl | decide +kernel)
    (.inl ⟨by rfl, fun _ hw => ⟨run_eq_of ?run1, ?guar1⟩⟩) hS ?rest1
  case run1 =>
    intro Kz hKz
    (skip)
    go_simp
    exact hKz
  case guar1 =>
    (skip)
    (co_quiet T)
  try walk_nrm
  co_applyP AnyL.take T (fun _ _ hz rz => (RIs.rely O) hz rz) hQR (i := 1) rfl (by first | kernel_rfl | decide +kernel) (by first | kernel_rfl | decide +kernel) (by first | kernel_rfl | decide +kernel) (by first | kernel_rfl | decide +kernel)
    (.inl ⟨by rfl, fun _ hw => ⟨run_eq_of ?run2, ?guar2⟩⟩) hS ?rest2
  case run2 =>
    intro Kz hKz
    (skip)
    go_simp
    exact hKz
  case guar2 =>
    (skip)
    (co_quiet T)
  try walk_nrm
  co_applyP AnyL.take T (fun _ _ hz rz => (RIs.rely O) hz rz) hQR (i := 2) rfl (by first | kernel_rfl | decide +kernel) (by first | kernel_rfl | decide +kernel) (by first | kernel_rfl | decide +kernel) (by first | kernel_rfl | decide +kernel)
    (.inl ⟨by rfl, fun _ hw => ⟨run_eq_of ?run3, ?guar3⟩⟩) hS ?rest3
  case run3 =>
    intro Kz hKz
    (skip)
    go_simp
    exact hKz
  case guar3 =>
    (skip)
    (co_quiet T)
  try walk_nrm
  co_applyP AnyL.take T (fun _ _ hz rz => (RIs.rely O) hz rz) hQR (i := 3) rfl (by first | kernel_rfl | decide +kernel) (by first | kernel_rfl | decide +kernel) (by first | kernel_rfl | decide +kernel) (by first | kernel_rfl | decide +kernel)
    (.inl ⟨by rfl, fun _ hw => ⟨run_eq_of ?run4, ?guar4⟩⟩) hS ?rest4
  case run4 =>
    intro Kz hKz
    (skip)
    go_simp
    exact hKz
  case guar4 =>
    (skip)
    (co_quiet T)
  try walk_nrm
  co_applyP AnyL.take T (fun _ _ hz rz => (RIs.rely O) hz rz) hQR (i := 4) rfl (by first | kernel_rfl | decide +kernel) (by first | kernel_rfl | decide +kernel) (by first | kernel_rfl | decide +kernel) (by first | kernel_rfl | decide +kernel)
    (.inl ⟨by rfl, fun _ hw => ⟨run_eq_of ?run5, ?guar5⟩⟩) hS ?rest5
  case run5 =>
    intro Kz hKz
    (have hc := hw.c0)
    go_simp
    exact hKz
  case guar5 =>
    (have hc := hw.c0)
    (refine db_read ?_; co_evs (exact hw.ev 0))
  try walk_nrm
  co_applyP AnyL.take T (fun _ _ hz rz => (RIs.rely O) hz rz) hQR (i := 5) rfl (by first | kernel_rfl | decide +kernel) (by first | kernel_rfl | decide +kernel) (by first | kernel_rfl | decide +kernel) (by first | kernel_rfl | decide +kernel)
    (.inl ⟨by rfl, fun _ hw => ⟨run_eq_of ?run6, ?guar6⟩⟩) hS ?rest6
  case run6 =>
    intro Kz hKz
    (skip)
    go_simp
    exact hKz
  case guar6 =>
    (skip)
    (co_quiet T)
  try walk_nrm
  co_applyP AnyL.take T (fun _ _ hz rz => (RIs.rely O) hz rz) hQR (i := 6) rfl (by first | kernel_rfl | decide +kernel) (by first | kernel_rfl | decide +kernel) (by first | kernel_rfl | decide +kernel) (by first | kernel_rfl | decide +kernel)
    (.inl ⟨by rfl, fun _ hw => ⟨run_eq_of ?run7, ?guar7⟩⟩) hS ?rest7
  case run7 =>
    intro Kz hKz
    (skip)
    go_simp
    exact hKz
  case guar7 =>
    (skip)
    (co_quiet T)
  try walk_nrm
  co_applyP AnyL.take T (fun _ _ hz rz => (RIs.rely O) hz rz) hQR (i := 7) rfl (by first | kernel_rfl | decide +kernel) (by first | kernel_rfl | decide +kernel) (by first | kernel_rfl | decide +kernel) (by first | kernel_rfl | decide +kernel)
    (.inl ⟨by rfl, fun _ hw => ⟨run_eq_of ?run8, ?guar8⟩⟩) hS ?rest8
  case run8 =>
    intro Kz hKz
    (skip)
    go_simp
    exact hKz
  case guar8 =>
    (skip)
    (co_still T)
  try walk_nrm
  refine AnyL.only (i := 8) (by first | kernel_rfl | decide +kernel) (.inl (opC_of rfl (by rfl) fun w₁ r => ?_))
  replace hF := hF.rely O r
  clear hS r
  have hsr := hF.src x _ hx
  obtain ⟨v', w', hr, hA, hD⟩ := append_c (k := k) (FB := FB) (PostA := PostA) (c := bcap) O hF (a := ⟨x, o, none⟩) (m := news.length) (news := news) rfl h0 (fun j u hu => by
    have hjl : j < news.length := by have := (List.getElem?_eq_some_iff.1 hu).1; simpa [bc] using this
    rw [bc_get news j hjl] at hu
    rw [← hu, Addr.add_lit]
    simp [World.cell?, hsr, hcs j hjl]) (fun ad e => (O.fix x _ hx).still e (hns ad e)) (lt_of_get hsr) hp
  refine uponK_append (.tmp 19) (.tmp 22) 25 rfl rfl rfl hr ⟨hD _ fun e he => ?_, fun _ => hA.r, ?_⟩
  · have hm := mem_listed he
    rw [events_append_op (.tmp 19) (.tmp 22) 25 rfl rfl rfl] at hm
    exact hm
  clear hr hD hF hsr
  have hS : RIs E (.slice va p.length vc) tl _ := hA.r
  walk_nrm
  co_applyP AnyL.one T (fun _ _ hz rz => (RIs.rely O) hz rz) hQR (i := 9) rfl (by first | kernel_rfl | decide +kernel)
    (.inl ⟨by rfl, fun _ hw => ⟨run_eq_of ?run9, ?guar9⟩⟩) hS ?rest9
  case run9 =>
    intro Kz hKz
    (skip)
    go_simp
    exact hKz
  case guar9 =>
    (skip)
    (co_quiet T)
  try walk_nrm
  co_applyP AnyL.one T (fun _ _ hz rz => (RIs.rely O) hz rz) hQR (i := 10) rfl (by first | kernel_rfl | decide +kernel)
    (.inl ⟨by rfl, fun _ hw => ⟨run_eq_of ?run10, ?guar10⟩⟩) hS ?rest10
  case run10 =>
    intro Kz hKz
    (skip)
    go_simp
    exact hKz
  case guar10 =>
    (skip)
    (co_quiet T)
  try walk_nrm
  refine AnyL.only (i := 11) (by first | kernel_rfl | decide +kernel) (.inl (opC_k rfl (by rfl) fun w₂ r K' hK => ?_))
  replace hA := hA.rely O r
  clear hS r
  have hc := hA.c0
  have hfz := hA.fz 0
  obtain ⟨a', c', rfl⟩ := hA.part.shape
  have hse := evs_storeR _ hc hfz (.slice a' (p ++ news).length c') rfl
  simp only [List.length_append] at hse
  go_simp
  try (unfold stored; go_simp)
  refine hK _ _ ⟨?_, fun h => absurd h (by first | decide | simp), ?_⟩
  · refine db_setR O 0 _ ?_
    co_evs (exact evWR hA _ 0)
  clear hK K'
  try walk_nrm
  have hB := hA.store O
  rw [List.length_append] at hB
  exact AnyL.all (by first | kernel_rfl | decide +kernel) ⟨rfl, cutAct_of _ rfl, _, hB⟩ _
end
end Go.Proofs.Ytkaapaepanhbgaa
