/- Each's goroutine, whole. -/
import Derived.Test.YtlghcldiboecoaaGreatDoorQ32
import Derived.Test.YtlghcldiboecoaaGreatDoorQ29
import Derived.Test.YtlghcldiboecoaaGreatDoorQ21
import Derived.Conc.AppendWalk
import Derived.Handy
import Derived.Great.BuildSlice
set_option linter.unusedVariables false
set_option linter.unusedSimpArgs false
set_option maxRecDepth 100000
namespace Go.Proofs.YtlghcldiboecoaaGreatDoor.Cu
open Go Go.Conc Go.Pair Go.RowKit
section
variable {E : EP} {k : Nat} {FB : List (List UInt8 × Value) → World → Prop} {PostA : List (List UInt8 × Value) → Goroutine → World → Prop}

noncomputable def ops15 : Array Oper := match body15 with | .seq _ (.seq _ (.region _ ops _)) => ops | _ => #[]
theorem after15 (O : E.Ok) (OC : (E.cfg k FB PostA).Ok) {q : List UInt8} {t : Bool} (hFB : ∀ sent v w, BView E sent q v t w → FB sent w) (T : Array Value) (ops : Array Oper) (o : Oper) (ho : ops[3]? = some o) (hd : o.dst = some 8) :
    AfterCut E k FB PostA (base 161) [(baseD 159).at ⟨T, [dclose 261 0 E.Ch, dcall 160 #[.pointer (some ⟨E.Wg, 0, none⟩)]]⟩ [.inRegion ops [3]], bot] q t := by
  intro sent
  have T' := termsB (E.cfg k FB PostA) sent
  refine ⟨0 + 1 + 1 + 1, fun v w u n bv todo hF => ?_⟩
  refine goes_ctl T' rfl (fun w => stepG_leave (v := .tuple #[]) rfl rfl Tryz.func161 (results_none (by rfl) _ _ _) (events_results_none (by rfl) _ _)) ?_
  rw [Frame.finish_at, ho]
  refine goes_ctl T' rfl (fun w => stepG_region_end) ?_
  refine goes_ctl T' rfl (fun w => stepG_end) ?_
  intro w₁ hR
  simp only [Option.bind_some, hd]
  exact tail15 O OC hFB (T.setIfInBounds 8 (.tuple #[])) sent v w₁ (hF.rely O hR)

set_option maxRecDepth 100000 in
set_option maxHeartbeats 1000000 in
theorem worker_c (O : E.Ok) (OC : (E.cfg k FB PostA).Ok) {p bs : List UInt8} {bodies : List (List UInt8)} {q : List UInt8} {t : Bool} (hC : Cuts p bs bodies q t) (hp : OkP p) {ba : Option Addr} {cap B Cv Bv : Nat} {tB tC tb : TypeId} (hs : SrcAt E ba bs cap)
    (hB : E.Fix B = some (.cells #[.chan (some E.Ch)] tB)) (hCv : E.Fix Cv = some (.cells #[.pointer (some ⟨E.R, 0, none⟩)] tC)) (hBv : E.Fix Bv = some (.cells #[.slice ba bs.length cap] tb))
    (hns_hB : ∀ a : Addr, a.block = B → ¬ E.Shun (.cell a)) (hns_hCv : ∀ a : Addr, a.block = Cv → ¬ E.Shun (.cell a)) (hns_hBv : ∀ a : Addr, a.block = Bv → ¬ E.Shun (.cell a))
    (hFB : ∀ sent v w, BView E sent q v t w → FB sent w) (v : Value) (w : World) (hF : BView E [] p v false w) : BSends (E.cfg k FB PostA) bodies [] (born Tryz.prog (call15 E.Wg B Cv Bv)) w := by
  have T := termsB (E.cfg k FB PostA) []
  have hc1 : ∀ w, BView E [] p v false w → w.cell? ⟨B, 0, none⟩ = some (.chan (some E.Ch)) := fun w h => by simp [World.cell?, h.src _ _ hB]
  have hc2 : ∀ w, BView E [] p v false w → w.cell? ⟨Cv, 0, none⟩ = some (.pointer (some ⟨E.R, 0, none⟩)) := fun w h => by simp [World.cell?, h.src _ _ hCv]
  have hc3 : ∀ w, BView E [] p v false w → w.cell? ⟨Bv, 0, none⟩ = some (.slice ba bs.length cap) := fun w h => by simp [World.cell?, h.src _ _ hBv]
  obtain ⟨m, hm⟩ := loop_c (b0 := base 161) (cs := [(baseD 159).at ⟨#[.pointer (some ⟨E.Wg, 0, none⟩), .pointer (some ⟨B, 0, none⟩), .pointer (some ⟨Cv, 0, none⟩), .pointer (some ⟨Bv, 0, none⟩), .chan (some E.Ch), .pointer (some ⟨E.R, 0, none⟩), .slice ba bs.length cap, .chan (some E.Ch), undef], [dclose 261 0 E.Ch, dcall 160 #[.pointer (some ⟨E.Wg, 0, none⟩)]]⟩ [.inRegion ops15 [3]], bot]) O rfl (by decide) hC (after15 O OC hFB _ _ _ rfl rfl) [] ba cap undef hp hs
  refine (bsends_iff _ _ _ _ _).2 ⟨m + 17, ?_⟩
  show Goes Tryz.prog false (RB (E.cfg k FB PostA)) (DB (E.cfg k FB PostA) []) (BStop (E.cfg k FB PostA) bodies []) (m + 17) _ w
  refine goes_ctl T rfl (fun w => born15 _ _ _ _ w) ?_
  simp only [body15, Tryz.f159, Option.getD_some]
  refine goes_ctl T rfl (fun w => stepG_seq) ?_
  refine goes_ctl T rfl (fun w => stepG_region) ?_
  simp only [List.size_toArray, List.length_cons, List.length_nil, Nat.reduceAdd, Nat.zero_add, List.range, List.range.loop]
  refine goes_ctl T rfl (fun w => stepG_defer rfl (by rfl) (by decide) rfl) ?_
  walk_nrm
  refine goes_ctl T rfl (fun w => stepG_region_end) ?_
  refine goes_ctl T rfl (fun w => stepG_seq) ?_
  refine goes_ctl T rfl (fun w => stepG_region) ?_
  simp only [List.size_toArray, List.length_cons, List.length_nil, Nat.reduceAdd, Nat.zero_add, List.range, List.range.loop]
  refine goes_op rfl (by rfl) (by decide) fun w₁ hR K' hK => ?_
  replace hF := hF.rely O hR
  clear hR
  have hc := hc1 _ hF
  go_simp
  refine hK _ _ ⟨?_, ?_⟩
  · refine db_read ?_
    co_evs (exact evFix O hB hns_hB (hF.src _ _ hB))
  clear hK K' hc
  try walk_nrm
  refine goes_ctl T rfl (fun w => stepG_defer_close (c := E.Ch) rfl (by rfl) (by decide) rfl rfl) ?_
  walk_nrm
  refine goes_ctl T rfl (fun w => stepG_region_end) ?_
  refine goes_ctl T rfl (fun w => stepG_region) ?_
  simp only [List.size_toArray, List.length_cons, List.length_nil, Nat.reduceAdd, Nat.zero_add, List.range, List.range.loop]
  refine goes_op rfl (by rfl) (by decide) fun w₁ hR K' hK => ?_
  replace hF := hF.rely O hR
  clear hR
  have hc := hc2 _ hF
  go_simp
  refine hK _ _ ⟨?_, ?_⟩
  · refine db_read ?_
    co_evs (exact evFix O hCv hns_hCv (hF.src _ _ hCv))
  clear hK K' hc
  try walk_nrm
  refine goes_op rfl (by rfl) (by decide) fun w₁ hR K' hK => ?_
  replace hF := hF.rely O hR
  clear hR
  have hc := hc3 _ hF
  go_simp
  refine hK _ _ ⟨?_, ?_⟩
  · refine db_read ?_
    co_evs (exact evFix O hBv hns_hBv (hF.src _ _ hBv))
  clear hK K' hc
  try walk_nrm
  refine goes_op rfl (by rfl) (by decide) fun w₁ hR K' hK => ?_
  replace hF := hF.rely O hR
  clear hR
  have hc := hc1 _ hF
  go_simp
  refine hK _ _ ⟨?_, ?_⟩
  · refine db_read ?_
    co_evs (exact evFix O hB hns_hB (hF.src _ _ hB))
  clear hK K' hc
  try walk_nrm
  refine Goes.step rfl fun w₁ hR => goes_call rfl (by rfl) (by decide) rfl Tryz.func161 (by rfl) rfl ⟨T.idle _, ?_⟩
  replace hF := hF.rely O hR
  clear hR
  refine goes_ctl T rfl (fun w => stepG_block) ?_
  refine goes_ctl T rfl (fun w => stepG_loop) ?_
  walk_nrm
  simp only [Tryz.ntmps161, List.map_toArray, List.map_cons, List.map_nil, List.size_toArray, List.length_cons, List.length_nil, Nat.reduceAdd, Nat.reduceSub, Array.replicate_succ, Array.replicate_zero, List.push_toArray, List.append_toArray, List.nil_append, List.cons_append]
  exact hm v w₁ (fun _ => undef) hF

end
end Go.Proofs.YtlghcldiboecoaaGreatDoor.Cu

/- append onto a row of one's own: what it yields, what it lists. -/
namespace Go.Pair
open Go Go.Conc

def RowIs (w : World) (e : TypeId) (xs : List Value) (v : Value) : Prop :=
  (v = .slice none 0 0 ∧ xs = []) ∨ ∃ q c cells, v = .slice (some ⟨q, 0, none⟩) xs.length c ∧ xs.length ≤ c ∧ w.heap[q]? = some (.cells cells e) ∧ cells.size = c ∧ (∀ i (h : i < xs.length), cells[i]? = some xs[i]) ∧ c ≤ maxLen

section
variable {P : Program} {w : World} {e : TypeId} {xs : List Value} {v : Value}
theorem RowIs.row (h : RowIs w e xs v) : w.ownsRow 0 e 1 v xs.length xs := by
  refine ⟨by simp, ?_⟩
  rcases h with ⟨h1, h2⟩ | ⟨q, c, cells, h1, h2, h3, h4, h5, h9⟩
  · exact .inl ⟨h1, by simp [h2]⟩
  · refine .inr ⟨q, c, cells, h1, Nat.zero_le _, h3, h2, h9, by omega, ?_⟩
    apply List.ext_getElem?
    intro i
    by_cases hi : i < xs.length
    · rw [List.getElem?_take_of_lt (by omega), List.getElem?_eq_getElem hi]
      have := h5 i hi
      simpa using this
    · rw [List.getElem?_eq_none (by simp; omega), List.getElem?_eq_none (by omega)]

theorem RowIs.new {w' : World} {g c : Nat} {Z : List Value} (hg : w'.heap[g]? = some (.cells (xs ++ Z).toArray e)) (hc : xs.length + Z.length = c) (hm : c ≤ maxLen) : RowIs w' e xs (.slice (some ⟨g, 0, none⟩) xs.length c) := by
  refine .inr ⟨g, c, _, rfl, by omega, hg, by simp; omega, fun i hi => ?_, hm⟩
  simp only [List.getElem?_toArray]
  rw [List.getElem?_append_left hi, List.getElem?_eq_getElem hi]

theorem RowIs.own (h : RowIs w e xs v) {q : Nat} (hq : v.ownBlock = some q) : ∃ c cells, v = .slice (some ⟨q, 0, none⟩) xs.length c ∧ w.heap[q]? = some (.cells cells e) := by
  rcases h with ⟨rfl, _⟩ | ⟨q', c, cells, rfl, h2, h3, h4, h5, h9⟩
  · simp [Value.ownBlock] at hq
  · simp [Value.ownBlock] at hq
    subst hq
    exact ⟨_, _, rfl, h3⟩

structure AppTo (w : World) (e : TypeId) (v : Value) (all : List Value) (v' : Value) (w' : World) : Prop where
  rest : w'.tape = w.tape ∧ w'.os = w.os ∧ w'.output = w.output
  row : RowIs w' e all v'
  how : (∃ Z c, w'.heap = w.heap.push (.cells (all ++ Z).toArray e) ∧ v' = .slice (some ⟨w.heap.size, 0, none⟩) all.length c) ∨
    (∃ q n c cells, v = .slice (some ⟨q, 0, none⟩) n c ∧ v' = .slice (some ⟨q, 0, none⟩) all.length c ∧ w.heap[q]? = some (.cells cells e) ∧ w'.heap.size = w.heap.size ∧ (∀ i, i ≠ q → w'.heap[i]? = w.heap[i]?) ∧ ∃ cells', w'.heap[q]? = some (.cells cells' e))

theorem app_arr' (l : List Value) (Z : Array Value) : l.toArray ++ Z = (l ++ Z.toList).toArray := by
  apply Array.ext'
  simp

theorem append_gen (t : TypeId) (i : TypeInfo) (z : Value) (bytes : Nat) (ht : P.underlying t = some (.slice e)) (hi : P.info? e = some i) (hz : i.zero = some z) (hzc : z.cells.size = 1) (hz1 : i.size = 1) (hz2 : i.bytes = bytes)
    (hF : RowIs w e xs v) {a : Addr} {m c : Nat} {news : List Value} (hl : news.length = m) (hm : 0 < m) (hsrc : ∀ (j : Nat) (u : Value), news[j]? = some u → w.cell? (a.add j) = some u) (h1 : ∀ u ∈ news, u.oneCell' = true)
    (hbig : xs.length + m ≤ maxLen) (hby : (xs.length + m) * bytes ≤ 140737488355328) (hb0 : 0 < bytes) :
    ∃ v' w', (Builtin.append_ #[t, t] t #[v, .slice (some a) m c]).run P w = .ok v' w' ∧ AppTo w e v (xs ++ news) v' w' ∧
      ∀ ev ∈ (Builtin.append_ #[t, t] t #[v, .slice (some a) m c]).events P w #[], (∃ ad wr, ev = ⟨.cell ad, wr, false⟩ ∧ ((wr = false ∧ ad.block = a.block) ∨ some ad.block = v.ownBlock)) ∨ ∃ mk, ev = ⟨.mark mk, false, true⟩ ∧ Neutral mk := by
  have hlen : news.length = m * i.size := by rw [hz1, hl]; omega
  have hpl : (xs ++ news).length = xs.length + m := by simp [hl]
  have h63 : xs.length + m ≤ 9223372036854775807 := by simp only [maxLen] at hbig; omega
  have hevs : ∀ ev ∈ (Builtin.append_ #[t, t] t #[v, .slice (some a) m c]).events P w #[], (∃ ad wr, ev = ⟨.cell ad, wr, false⟩ ∧ ((wr = false ∧ ad.block = a.block) ∨ some ad.block = v.ownBlock)) ∨ ∃ mk, ev = ⟨.mark mk, false, true⟩ ∧ Neutral mk := by
    intro ev he
    rcases events_append_where (P := P) w 0 t t e i z 1 bytes ht hi hz hz1 hz2 v xs.length xs hF.row a m c news (by rw [hl]; omega) hsrc h1 hbig hby ev he with ⟨ad, h3, h2⟩ | ⟨mk, h3, h2⟩
    · rcases Flat.append _ _ _ _ _ ev he with h4 | h4
      · simp at h4
      · exact .inl ⟨ad, ev.write, flat_cell h4 h3, h2⟩
    · exact .inr ⟨mk, h3, h2⟩
  have hgrow : ∀ (old : Nat), (Builtin.append_ #[t, t] t #[v, .slice (some a) m c]).run P w = .ok (.slice (some ⟨w.heap.size, 0, none⟩) (xs.length + m) (grownCap w (xs.length + m) old e)) (w.drew.alloc (.cells ((xs ++ news).toArray ++ Builtin.zeroCells z.cells (grownCap w (xs.length + m) old e - (xs.length + m))) e)) →
      ∃ v' w', (Builtin.append_ #[t, t] t #[v, .slice (some a) m c]).run P w = .ok v' w' ∧ AppTo w e v (xs ++ news) v' w' ∧
      ∀ ev ∈ (Builtin.append_ #[t, t] t #[v, .slice (some a) m c]).events P w #[], (∃ ad wr, ev = ⟨.cell ad, wr, false⟩ ∧ ((wr = false ∧ ad.block = a.block) ∨ some ad.block = v.ownBlock)) ∨ ∃ mk, ev = ⟨.mark mk, false, true⟩ ∧ Neutral mk := by
    intro old hr
    have hge := grownCap_ge w (xs.length + m) old e
    have hle := grownCap_le_maxLen w (xs.length + m) old e hbig
    have hh : (w.drew.alloc (.cells ((xs ++ news).toArray ++ Builtin.zeroCells z.cells (grownCap w (xs.length + m) old e - (xs.length + m))) e)).heap = w.heap.push (.cells ((xs ++ news) ++ (Builtin.zeroCells z.cells (grownCap w (xs.length + m) old e - (xs.length + m))).toList).toArray e) := by
      show w.heap.push _ = _
      rw [app_arr']
    have hZ : (Builtin.zeroCells z.cells (grownCap w (xs.length + m) old e - (xs.length + m))).toList.length = grownCap w (xs.length + m) old e - (xs.length + m) := by
      rw [Array.length_toList, size_zeroCells, hzc]
      omega
    refine ⟨_, _, hr, ⟨⟨rfl, rfl, rfl⟩, ?_, .inl ⟨_, _, hh, by rw [hpl]⟩⟩, hevs⟩
    rw [← hpl]
    rw [hpl]
    have := RowIs.new (xs := xs ++ news) (w' := w.drew.alloc (.cells ((xs ++ news).toArray ++ Builtin.zeroCells z.cells (grownCap w (xs.length + m) old e - (xs.length + m))) e)) (g := w.heap.size) (e := e) (c := grownCap w (xs.length + m) old e) (by rw [hh, Array.getElem?_push, if_pos rfl]) (by rw [hpl, hZ]; omega) hle
    rw [hpl] at this
    exact this
  rcases hF with ⟨rfl, rfl⟩ | ⟨q, c', cells, rfl, h2, h3, h4, h5, h9⟩
  · have hr := run_append_nil (P := P) w t t e i z ht hi hz a m c news hlen hsrc hm (by simp at h63; omega) (by rw [hz2]; simp at hby; omega)
    refine hgrow 0 ?_
    simp only [List.length_nil, Nat.zero_add, List.nil_append]
    exact hr
  · have hrow := (RowIs.row (.inr ⟨q, c', cells, rfl, h2, h3, h4, h5, h9⟩ : RowIs w e xs _))
    have htake : cells.toList.take xs.length = xs := by
      rcases hrow.2 with ⟨x, _⟩ | ⟨g, cap, cur, e1, _, e2, _, _, _, e3⟩
      · cases x
      · cases e1
        rw [h3] at e2
        cases e2
        simpa using e3
    by_cases hroom : xs.length + m ≤ c'
    · have hr := run_append_room (P := P) w t t e i ht hi q xs.length c' cells h3 a m c news hlen hsrc h1 hroom (by rw [hlen, hz1]; omega)
      rw [hz1, Nat.mul_one, htake] at hr
      have hg := setRow_heap w q cells (xs ++ news ++ cells.toList.drop (xs.length + news.length)).toArray e (0, 0) h3
      have oth := fun i (hi : i ≠ q) => setRow_other w q i (xs ++ news ++ cells.toList.drop (xs.length + news.length)).toArray hi
      have sz : (w.setRow q (xs ++ news ++ cells.toList.drop (xs.length + news.length)).toArray).heap.size = w.heap.size := by simp [World.setRow]
      have hP := RowIs.new (xs := xs ++ news) (e := e) (c := c') hg (by have : cells.toList.length = cells.size := Array.length_toList; rw [hpl, List.length_drop, hl, this]; omega) h9
      rw [hpl] at hP
      exact ⟨_, _, hr, ⟨⟨rfl, rfl, rfl⟩, hP, .inr ⟨q, _, _, cells, rfl, by rw [hpl], h3, sz, oth, _, hg⟩⟩, hevs⟩
    · have holds : ∀ (j : Nat) (u : Value), xs[j]? = some u → w.cell? ((⟨q, 0, none⟩ : Addr).add j) = some u := hrow.cells (g := q) rfl
      have hfit := growslice_fits (need := xs.length + m) (old := c') (bytes := i.bytes) (by omega) (by rw [hz2]; omega)
      have hr := run_append_grow (P := P) w t t e i z ht hi hz ⟨q, 0, none⟩ xs.length c' xs (by rw [hz1]; omega) holds a m c news hlen hsrc (by omega) (by omega) (by omega)
      rw [show xs.toArray ++ news.toArray = (xs ++ news).toArray by simp] at hr
      exact hgrow c' hr

end
end Go.Pair

/- The caller's side: what it gathers while the worker cuts; Feed's function literal, in company. -/
set_option maxRecDepth 100000
namespace Go.Proofs.YtlghcldiboecoaaGreatDoor.Cu
open Go Go.Conc Go.Pair Go.RowKit

theorem un29 : Tryz.prog.underlying 122 = some (.slice 57) := Tryz.underlying122
theorem info25 : ∃ i, Tryz.prog.info? 57 = some i ∧ i.zero = some (.slice none 0 0) ∧ i.size = 1 ∧ i.bytes = 24 := by
  have h1 : (Tryz.prog.info? 57).map (·.size) = some 1 := by kernel_rfl
  have h2 : (Tryz.prog.info? 57).map (·.bytes) = some 24 := by kernel_rfl
  have h3 : (Tryz.prog.info? 57).bind (·.zero) = some (.slice none 0 0) := by kernel_rfl
  cases hi : Tryz.prog.info? 57 with
  | none => rw [hi] at h1; cases h1
  | some i =>
    rw [hi] at h1 h2 h3
    exact ⟨i, rfl, h3, Option.some.inj h1, Option.some.inj h2⟩

structure GView (E : EP) (vs : List Value) (lv : Value) (w : World) : Prop where
  v : w.heap[E.Vb]? = some (.cells #[lv] 122)
  row : RowIs w 57 vs lv
  ge : ∀ q, lv.ownBlock = some q → E.Low ≤ q
  low : E.Low ≤ w.heap.size
  src : ∀ i o, E.Fix i = some o → w.heap[i]? = some o
  wg : WgAny 271 E.Wg w

section
variable {E : EP} {sent : List (List UInt8 × Value)} {vs : List Value} {lv : Value} {w w' w₁ : World} {k : Nat} {FB : List (List UInt8 × Value) → World → Prop} {PostA : List (List UInt8 × Value) → Goroutine → World → Prop}

theorem termsA (C : Cfg) (sent : List (C.β × Value)) : Terms (RA C sent) (DA C) := ⟨fun _ _ _ h k => h.trans k, fun w => ⟨.refl _ _, .refl _, rfl, rfl, by simp⟩⟩

theorem RowIs.relyA (O : E.Ok) (h : RowIs w 57 vs lv) (hg : ∀ q, lv.ownBlock = some q → E.Low ≤ q) (r : RA (E.cfg k FB PostA) sent w w₁) : RowIs w₁ 57 vs lv := by
  rcases h with h1 | ⟨q, c, cells, h1, h2, h3, h4⟩
  · exact .inl h1
  · have := hg q (by rw [h1]; rfl)
    have := O.g
    have := O.c
    have := O.r
    have := O.p
    exact .inr ⟨q, c, cells, h1, h2, r.keep.keep _ _ h3 ⟨by omega, by omega, by omega, by omega, fun ⟨_, x⟩ => by simp [kindOf] at x⟩, h4⟩

theorem GView.rely (O : E.Ok) (h : GView E vs lv w) (r : RA (E.cfg k FB PostA) sent w w₁) : GView E vs lv w₁ := by
  refine ⟨r.keep.keep _ _ h.v ⟨O.vg, O.vc, Ne.symm O.rv, Ne.symm O.pv, fun ⟨x, _⟩ => by have := O.v; omega⟩, RowIs.relyA O h.row h.ge r, h.ge, Nat.le_trans h.low r.keep.size, fun i o e => ?_, r.wg h.wg⟩
  have hs := O.fix i o e
  exact r.keep.keep _ _ (h.src i o e) ⟨hs.2.2.2.2.1, hs.2.2.2.2.2, hs.2.1, hs.2.2.1, fun ⟨x, _⟩ => by have := hs.1; omega⟩

theorem GView.c0 (h : GView E vs lv w) : w.cell? ⟨E.Vb, 0, none⟩ = some lv := by simp [World.cell?, h.v]
theorem da_read {C : Cfg} {w : World} {es : Array Event} (h : ∀ e ∈ es, EvP C.LA w e) : DA C w w es := ⟨.refl _ _, .refl _, rfl, rfl, h⟩
theorem evV (h : w.heap[E.Vb]? = some (.cells #[lv] 122)) (i : Nat) (wr : Bool) : EvP (E.cfg k FB PostA).LA w ⟨.cell ⟨E.Vb, i, none⟩, wr, false⟩ := .inr ⟨_, _, rfl, ⟨_, rfl, .inl rfl⟩, lt_of_get h⟩

theorem da_push (O : E.Ok) (hl : E.Low ≤ w.heap.size) {o : Obj} (hh : w'.heap = w.heap.push o) (ht : w'.tape = w.tape ∧ w'.os = w.os ∧ w'.output = w.output) {es : Array Event} (he : ∀ e ∈ es, EvP (E.cfg k FB PostA).LA w' e) : DA (E.cfg k FB PostA) w w' es := by
  have sz : w.heap.size ≤ w'.heap.size := by rw [hh, Array.size_push]; omega
  have old : ∀ i x, w.heap[i]? = some x → w'.heap[i]? = some x := fun i x h => by rw [push_old hh (lt_of_get h)]; exact h
  exact ⟨⟨ht.1, ht.2.1, ht.2.2, sz, fun i x h _ => old i x h⟩, ⟨sz, fun i x h => ⟨x, old i x h, rfl⟩⟩, push_old hh (Nat.lt_of_lt_of_le O.g hl), push_old hh (Nat.lt_of_lt_of_le O.c hl), he⟩

theorem da_row (O : E.Ok) {r : Nat} (hr : E.Low ≤ r) {cells cells' : Array Value} (h : w.heap[r]? = some (.cells cells 57)) (h' : w'.heap[r]? = some (.cells cells' 57)) (ht : w'.tape = w.tape ∧ w'.os = w.os ∧ w'.output = w.output) (hsz : w'.heap.size = w.heap.size) (ho : ∀ i, i ≠ r → w'.heap[i]? = w.heap[i]?)
    {es : Array Event} (he : ∀ e ∈ es, EvP (E.cfg k FB PostA).LA w' e) : DA (E.cfg k FB PostA) w w' es := by
  have := O.g
  have := O.c
  refine ⟨⟨ht.1, ht.2.1, ht.2.2, Nat.le_of_eq hsz.symm, fun i o h1 h2 => ?_⟩, ⟨Nat.le_of_eq hsz.symm, fun i o h1 => ?_⟩, ho _ (by show E.Wg ≠ r; omega), ho _ (by show E.Ch ≠ r; omega), he⟩
  · by_cases hi : i = r
    · subst hi
      rw [h] at h1
      cases h1
      exact absurd ⟨hr, rfl⟩ h2.2.2.2
    · rw [ho i hi]; exact h1
  · by_cases hi : i = r
    · subst hi
      rw [h] at h1
      cases h1
      exact ⟨_, h', rfl⟩
    · exact ⟨o, by rw [ho i hi]; exact h1, rfl⟩

theorem da_setV (O : E.Ok) (x : Value) {es : Array Event} (he : ∀ e ∈ es, EvP (E.cfg k FB PostA).LA (w.setCell ⟨E.Vb, 0, none⟩ x) e) : DA (E.cfg k FB PostA) w (w.setCell ⟨E.Vb, 0, none⟩ x) es :=
  ⟨keeps_set _ _ (fun i o hk => hk.2.2.1), grow_set _ _, set_other _ _ (Ne.symm O.vg), set_other _ _ (Ne.symm O.vc), he⟩

structure HView (E : EP) (vs' : List Value) (lv' lv : Value) (w : World) : Prop where
  v : w.heap[E.Vb]? = some (.cells #[lv] 122)
  row : RowIs w 57 vs' lv'
  ge : ∀ q, lv'.ownBlock = some q → E.Low ≤ q
  low : E.Low ≤ w.heap.size
  src : ∀ i o, E.Fix i = some o → w.heap[i]? = some o
  wg : WgAny 271 E.Wg w

theorem HView.rely (O : E.Ok) {lv' : Value} (h : HView E vs lv' lv w) (r : RA (E.cfg k FB PostA) sent w w₁) : HView E vs lv' lv w₁ := by
  refine ⟨r.keep.keep _ _ h.v ⟨O.vg, O.vc, Ne.symm O.rv, Ne.symm O.pv, fun ⟨x, _⟩ => by have := O.v; omega⟩, RowIs.relyA O h.row h.ge r, h.ge, Nat.le_trans h.low r.keep.size, fun i o e => ?_, r.wg h.wg⟩
  have hs := O.fix i o e
  exact r.keep.keep _ _ (h.src i o e) ⟨hs.2.2.2.2.1, hs.2.2.2.2.2, hs.2.1, hs.2.2.1, fun ⟨x, _⟩ => by have := hs.1; omega⟩

theorem HView.store (O : E.Ok) {lv' : Value} (h : HView E vs lv' lv w) : GView E vs lv' (w.setCell ⟨E.Vb, 0, none⟩ lv') := by
  have oth : ∀ i, i ≠ E.Vb → (w.setCell ⟨E.Vb, 0, none⟩ lv').heap[i]? = w.heap[i]? := fun i hi => set_other _ _ hi
  refine ⟨by rw [setCell_row h.v]; rfl, ?_, h.ge, by rw [set_size]; exact h.low, fun i o e => by rw [oth i (O.fix i o e).2.2.2.1]; exact h.src i o e, let ⟨st, sm, x⟩ := h.wg; ⟨st, sm, by unfold WgIs; rw [oth _ (Ne.symm O.vg)]; exact x⟩⟩
  rcases h.row with h1 | ⟨q, c, cells, h1, h2, h3, h4⟩
  · exact .inl h1
  · exact .inr ⟨q, c, cells, h1, h2, by rw [oth q (by have := h.ge q (by rw [h1]; rfl); have := O.v; omega)]; exact h3, h4⟩

structure IView (E : EP) (vs : List Value) (lv : Value) (r : Nat) (x : Value) (w : World) : Prop where
  g : GView E vs lv w
  one : w.heap[r]? = some (.cells #[x] 57)
  ge : E.Low ≤ r

theorem IView.rely (O : E.Ok) {r : Nat} {x : Value} (h : IView E vs lv r x w) (rr : RA (E.cfg k FB PostA) sent w w₁) : IView E vs lv r x w₁ := by
  have := O.g
  have := O.c
  have := O.r
  have := O.p
  have := h.ge
  exact ⟨h.g.rely O rr, rr.keep.keep _ _ h.one ⟨by omega, by omega, by omega, by omega, fun ⟨_, x⟩ => by simp [kindOf] at x⟩, h.ge⟩

theorem GView.alloc (h : GView E vs lv w) (x : Value) : IView E vs lv w.heap.size x (w.alloc (.cells #[x] 57)) := by
  have hh : (w.alloc (.cells #[x] 57)).heap = w.heap.push (.cells #[x] 57) := rfl
  have old : ∀ i o, w.heap[i]? = some o → (w.alloc (.cells #[x] 57)).heap[i]? = some o := fun i o h => by rw [push_old hh (lt_of_get h)]; exact h
  refine ⟨⟨old _ _ h.v, ?_, h.ge, by have := h.low; rw [hh, Array.size_push]; omega, fun i o e => old _ _ (h.src i o e), let ⟨st, sm, x⟩ := h.wg; ⟨st, sm, old _ _ x⟩⟩, push_new hh, h.low⟩
  rcases h.row with h1 | ⟨q, c, cells, h1, h2, h3, h4⟩
  · exact .inl h1
  · exact .inr ⟨q, c, cells, h1, h2, old _ _ h3, h4⟩

theorem app_a (O : E.Ok) {r c : Nat} {x : Value} (h : IView E vs lv r x w) (hx : x.oneCell' = true) (hbig : vs.length + 1 ≤ 4294967296) :
    ∃ v' w', (Builtin.append_ #[122, 122] 122 #[lv, .slice (some ⟨r, 0, none⟩) 1 c]).run Tryz.prog w = .ok v' w' ∧ HView E (vs ++ [x]) v' lv w' ∧
      ∀ es : Array Event, (∀ e ∈ es, e ∈ (Builtin.append_ #[122, 122] 122 #[lv, .slice (some ⟨r, 0, none⟩) 1 c]).events Tryz.prog w #[]) → DA (E.cfg k FB PostA) w w' es := by
  obtain ⟨i0, hi, hz0, hz1, hz2⟩ := info25
  have hsrc : ∀ (j : Nat) (u : Value), [x][j]? = some u → w.cell? ((⟨r, 0, none⟩ : Addr).add j) = some u := fun j u hu => by
    cases j with
    | zero => simp at hu; subst hu; simp [World.cell?, h.one, Addr.add_lit]
    | succ j => simp at hu
  obtain ⟨v', w', hr, hA, hE⟩ := append_gen (P := Tryz.prog) (w := w) (xs := vs) (v := lv) 122 i0 (.slice none 0 0) 24 un29 hi hz0 rfl hz1 hz2 h.g.row (a := ⟨r, 0, none⟩) (m := 1) (c := c) (news := [x]) rfl (by omega) hsrc (by simpa using hx) (by simp only [maxLen]; omega) (by omega) (by omega)
  have hone : ∀ q, lv.ownBlock = some q → E.Low ≤ q ∧ ∃ cells, w.heap[q]? = some (.cells cells 57) := fun q hq => ⟨h.g.ge q hq, let ⟨c, cells, _, x⟩ := h.g.row.own hq; ⟨cells, x⟩⟩
  have hev : ∀ es : Array Event, (∀ (q : Nat) (cells : Array Value), w.heap[q]? = some (Obj.cells cells 57) → ∃ cells' : Array Value, w'.heap[q]? = some (Obj.cells cells' 57)) → (∀ e ∈ es, e ∈ (Builtin.append_ #[122, 122] 122 #[lv, .slice (some ⟨r, 0, none⟩) 1 c]).events Tryz.prog w #[]) → ∀ e ∈ es, EvP (E.cfg k FB PostA).LA w' e := by
    intro es hk hes e he
    rcases hE e (hes e he) with ⟨ad, wr, rfl, h1⟩ | ⟨mk, h1, h2⟩
    · have hb : ∃ q, ad.block = q ∧ E.Low ≤ q ∧ ∃ cells, w.heap[q]? = some (.cells cells 57) := by
        rcases h1 with ⟨_, h1⟩ | h1
        · exact ⟨r, h1, h.ge, _, h.one⟩
        · exact ⟨ad.block, rfl, hone _ h1.symm⟩
      obtain ⟨q, rfl, h2, cells, h3⟩ := hb
      obtain ⟨cells', h4⟩ := hk _ _ h3
      exact .inr ⟨_, _, rfl, ⟨_, rfl, .inr (.inl ⟨h2, _, h4, rfl⟩)⟩, lt_of_get h4⟩
    · exact .inl ⟨mk, by rw [h1], h2⟩
  refine ⟨v', w', hr, ?_, fun es hes => ?_⟩
  · rcases hA.how with ⟨Z, cc, hh, rfl⟩ | ⟨q, n, cc, cells, e1, rfl, h3, sz, oth, cells', h4⟩
    · have old : ∀ i o, w.heap[i]? = some o → w'.heap[i]? = some o := fun i o h => by rw [push_old hh (lt_of_get h)]; exact h
      have := h.g.low
      exact ⟨old _ _ h.g.v, hA.row, fun q hq => by simp [Value.ownBlock] at hq; omega, by rw [hh, Array.size_push]; omega, fun i o e => old _ _ (h.g.src i o e), let ⟨st, sm, x⟩ := h.g.wg; ⟨st, sm, old _ _ x⟩⟩
    · have hq := h.g.ge q (by rw [e1]; rfl)
      have := O.v
      have := O.g
      exact ⟨by rw [oth _ (by omega)]; exact h.g.v, hA.row, fun q' hq' => by simp [Value.ownBlock] at hq'; omega, by rw [sz]; exact h.g.low, fun i o e => by rw [oth i (by have := (O.fix i o e).1; omega)]; exact h.g.src i o e, let ⟨st, sm, x⟩ := h.g.wg; ⟨st, sm, by unfold WgIs; rw [oth _ (by omega)]; exact x⟩⟩
  · rcases hA.how with ⟨Z, cc, hh, rfl⟩ | ⟨q, n, cc, cells, e1, rfl, h3, sz, oth, cells', h4⟩
    · exact da_push O h.g.low hh hA.rest (hev es (fun q cells h => ⟨cells, by rw [push_old hh (lt_of_get h)]; exact h⟩) hes)
    · refine da_row O (h.g.ge q (by rw [e1]; rfl)) h3 h4 hA.rest sz oth (hev es (fun q' c' h' => ?_) hes)
      by_cases e : q' = q
      · subst e; exact ⟨_, h4⟩
      · exact ⟨c', by rw [oth q' e]; exact h'⟩

end
end Go.Proofs.YtlghcldiboecoaaGreatDoor.Cu

/- Feed's function literal, in company. -/
set_option maxRecDepth 100000
namespace Go.Proofs.YtlghcldiboecoaaGreatDoor.Cu
open Go Go.Conc Go.Pair Go.RowKit

theorem fill_one (xa : Option Addr) (xl xc : Nat) : Instr.fill (fun i => some (i * 1, 1)) ((Array.range (1 * 1)).map ((Value.slice none 0 0).cells[· % (Value.slice none 0 0).cells.size]!)) [(0, .slice xa xl xc)] = some #[.slice xa xl xc] := by
  simp [Instr.fill, Value.cells, Array.range]
  rfl

theorem bs_run (w : World) (xa : Option Addr) (xl xc : Nat) : (Instr.buildSlice 122 1 #[(0, .slice xa xl xc)]).run Tryz.prog w = .ok (.slice (some ⟨w.heap.size, 0, none⟩) 1 1) (w.alloc (.cells #[.slice xa xl xc] 57)) := by
  obtain ⟨i0, hi, hz0, hz1, hz2⟩ := info25
  refine run_buildSlice w 122 57 1 _ _ i0 (.slice none 0 0) un29 hi hz0 (by rw [hz1]; omega) (by rw [hz1]; omega) ?_
  rw [hz1]
  exact fill_one xa xl xc

theorem bs_ev (w : World) (es : Array Event) (xa : Option Addr) (xl xc : Nat) : (Instr.buildSlice 122 1 #[(0, .slice xa xl xc)]).events Tryz.prog w es = es := by
  obtain ⟨i0, hi, hz0, hz1, hz2⟩ := info25
  have h1 := fill_one xa xl xc
  simp only [Nat.mul_one] at h1
  simp [Instr.buildSlice, go_sem, run_underlying un29, sizeOf, typeInfo, zeroValue, hi, hz0, hz1, newRow, Result.evThen]

section
variable {E : EP} {sent : List (List UInt8 × Value)} {vs : List Value} {lv : Value} {w w' w₁ : World} {k : Nat} {FB : List (List UInt8 × Value) → World → Prop} {PostA : List (List UInt8 × Value) → Goroutine → World → Prop}

theorem HView.c0 {lv' : Value} (h : HView E vs lv' lv w) : w.cell? ⟨E.Vb, 0, none⟩ = some lv := by simp [World.cell?, h.v]
theorem HView.fz {lv' : Value} (h : HView E vs lv' lv w) : w.frozen? ⟨E.Vb, 0, none⟩ = false := by simp [World.frozen?, h.v]
theorem evs_storeV (w : World) (h0 : w.cell? ⟨E.Vb, 0, none⟩ = some lv) (hfz : w.frozen? ⟨E.Vb, 0, none⟩ = false) (y : Value) (hy : y.oneCell' = true) : (store ⟨E.Vb, 0, none⟩ y).events Tryz.prog w #[] = #[⟨.cell ⟨E.Vb, 0, none⟩, true, false⟩] := by
  rw [events_store Tryz.prog w #[] ⟨E.Vb, 0, none⟩ y _ hy]
  simp [h0, hfz]

set_option maxRecDepth 100000 in
set_option maxHeartbeats 1000000 in
theorem gath_c (O : E.Ok) (hbig : vs.length + 1 ≤ 4294967296) : ∃ m, ∀ (xa : Option Addr) (xl xc : Nat) lv w, GView E vs lv w →
    CallsC Tryz.prog true (RA (E.cfg k FB PostA) sent) (DA (E.cfg k FB PostA)) 139 #[.slice xa xl xc, .pointer (some ⟨E.Vb, 0, none⟩)] m w fun x w' => x = .tuple #[] ∧ ∃ lv', GView E (vs ++ [.slice xa xl xc]) lv' w' := by
  have T := termsA (E.cfg k FB PostA) sent
  co_apply Exists.intro
  intro xa xl xc lv w hF
  co_apply callsC_of_wpC Tryz.func139 (by rfl) rfl
  simp only [Tryz.ntmps139, List.size_toArray, List.length_cons, List.length_nil, Nat.reduceAdd, Nat.reduceSub, Array.replicate_succ, Array.replicate_zero, List.push_toArray, List.append_toArray, List.nil_append, List.cons_append]
  co_reg T
  co_opw (GView.rely O) hF (have hc := hF.c0) (refine da_read ?_; co_evs (exact evV hF.v 0 false))
  clear hc
  co_op (GView.rely O) hF (co_quiet T)
  co_opw (GView.rely O) hF (have hbs := fun w => bs_run w xa xl xc; have hbe := fun w es => bs_ev w es xa xl xc) (rw [listed_nil (by simp [go_sem, hbe])]; exact da_push (o := .cells #[.slice xa xl xc] 57) O hF.low (by rfl) (by exact ⟨rfl, rfl, rfl⟩) (by simp))
  have hG := hF.alloc (.slice xa xl xc)
  rename_i wz
  generalize wz.heap.size = r at hG ⊢
  clear hF hbs hbe
  co_apply opsC_cons rfl (by rfl)
  intro w₁ hR
  replace hG := hG.rely O hR
  clear hR
  obtain ⟨v', w', hr, hA, hD⟩ := app_a (k := k) (FB := FB) (PostA := PostA) (c := 1) O hG rfl hbig
  refine uponK_append (.tmp 3) (.tmp 5) 122 rfl rfl rfl hr ⟨hD _ fun e he => ?_, ?_⟩
  · have hm := mem_listed he
    rw [events_append_op (.tmp 3) (.tmp 5) 122 rfl rfl rfl] at hm
    exact hm
  clear hr hD hG
  walk_nrm
  obtain ⟨a', c', rfl⟩ : ∃ a' c', v' = .slice a' (vs ++ [Value.slice xa xl xc]).length c' := by
    rcases hA.row with ⟨rfl, h⟩ | ⟨q, c, cells, h1, _⟩
    · exact ⟨none, 0, by rw [h]; rfl⟩
    · exact ⟨_, _, h1⟩
  generalize hL : (vs ++ [Value.slice xa xl xc]).length = L at *
  co_opw (HView.rely O) hA (have hc := hA.c0; have hfz := hA.fz; have hse := evs_storeV _ hc hfz (.slice a' L c') rfl) (refine da_setV O _ ?_; co_evs (exact evV (lv := .slice a' L c') (by rw [setCell_row hA.v]; rfl) 0 true))
  clear hc hfz hse
  co_apply opsC_nil T
  exact ⟨rfl, _, resultsC_none (by rfl) _, rfl, _, hA.store O⟩

end
end Go.Proofs.YtlghcldiboecoaaGreatDoor.Cu
