/- Each whole: the pair between its go statement and its return. -/
import Derived.Test.YtlghcldiboecoaaGreatDoorQ34
set_option linter.unusedVariables false
set_option linter.unusedSimpArgs false
set_option maxRecDepth 100000
namespace Go.Proofs.YtlghcldiboecoaaGreatDoor.Cu
open Go Go.Conc Go.Pair Go.RowKit

theorem ShunW.notA {Shun : Loc → Prop} {w : World} (h : ShunW Shun w) {a : Addr} {o : Obj} (ho : w.heap[a.block]? = some o) (hk : kindOf o ≠ some 271) : ¬ Shun (.cell a) := fun hs => by
  obtain ⟨a', e, o', h1, h2⟩ := h _ hs
  cases e
  rw [ho] at h1
  cases h1
  exact hk h2

theorem ShunW.newA {Shun : Loc → Prop} {w : World} (h : ShunW Shun w) {a : Addr} (hi : w.heap.size ≤ a.block) : ¬ Shun (.cell a) := fun hs => by
  obtain ⟨a', e, o', h1, h2⟩ := h _ hs
  cases e
  have := lt_of_get h1
  omega

structure EachIn (R Vb : Nat) (p bs : List UInt8) (v : Value) (ba : Option Addr) (cap : Nat) (Shun : Loc → Prop) (w : World) : Prop where
  r : w.heap[R]? = some (.cells #[v, .bool false] 237)
  part : RowIs w 5 (bc p) v
  vb : w.heap[Vb]? = some (.cells #[.slice none 0 0] 122)
  src : bs = [] ∨ ∃ x o cs, ba = some ⟨x, o, none⟩ ∧ w.heap[x]? = some (.cells cs 5) ∧ (∀ i (h : i < bs.length), cs[o + i]? = some (.int .u8 (bs[i].toNat : Int))) ∧ bs.length ≤ cap ∧ cap ≤ maxLen ∧ v.ownBlock ≠ some x
  shun : ShunW Shun w

structure EachOut (w0 : World) (R Vb : Nat) (v : Value) (bodies : List (List UInt8)) (q : List UInt8) (t : Bool) (v' : Value) (sent : List (List UInt8 × Value)) (lv : Value) (S0 Shun : Loc → Prop) (w : World) : Prop where
  size : w0.heap.size ≤ w.heap.size
  r : w.heap[R]? = some (.cells #[v', .bool t] 237)
  part : RowIs w 5 (bc q) v'
  own : ∀ g, v'.ownBlock = some g → v.ownBlock = some g ∨ w0.heap.size ≤ g
  told : sent.map (·.1) = bodies
  vb : w.heap[Vb]? = some (.cells #[lv] 122)
  list : RowIs w 57 (sent.map (·.2)) lv
  lown : ∀ g, lv.ownBlock = some g → w0.heap.size ≤ g
  msg : ∀ x ∈ sent, ∃ r, w0.heap.size ≤ r ∧ x.2 = .slice (some ⟨r, 0, none⟩) x.1.length x.1.length ∧ w.heap[r]? = some (.cells (bc x.1).toArray 5) ∧ v'.ownBlock ≠ some r
  keep : ∀ i, i < w0.heap.size → i ≠ R → v.ownBlock ≠ some i → i ≠ Vb → w.heap[i]? = w0.heap[i]?
  shun : ShunW Shun w
  more : ∀ l, Shun l → S0 l ∨ ∃ a : Addr, l = .cell a ∧ w0.heap.size ≤ a.block
  dis : Dis sent

section
variable {Post : Value → World → Prop} {Shun : Loc → Prop} {w w0 w₁ w' : World} {fr : Frame} {cs : List Frame} {R Vb : Nat} {v : Value} {p bs : List UInt8} {ba : Option Addr} {cap : Nat}

noncomputable def theE (w0 w : World) (R Vb : Nat) (v : Value) (Shun : Loc → Prop) : EP :=
  { R, pb := v.ownBlock.getD R, Vb, Wg := w0.heap.size + 4, Ch := w0.heap.size + 2, Low := w0.heap.size + 5, Shun
    Fix := fun i => if i < w0.heap.size + 5 ∧ i ≠ R ∧ i ≠ v.ownBlock.getD R ∧ i ≠ Vb ∧ i ≠ w0.heap.size + 4 ∧ i ≠ w0.heap.size + 2 then w.heap[i]? else none }

theorem fix_of {i : Nat} {o : Obj} (h : (theE w0 w R Vb v Shun).Fix i = some o) : (i < w0.heap.size + 5 ∧ i ≠ R ∧ i ≠ v.ownBlock.getD R ∧ i ≠ Vb ∧ i ≠ w0.heap.size + 4 ∧ i ≠ w0.heap.size + 2) ∧ w.heap[i]? = some o := by
  simp only [theE] at h
  split at h
  · exact ⟨by assumption, h⟩
  · cases h

theorem EachIn.pbk (h : EachIn R Vb p bs v ba cap Shun w0) : ∃ o, w0.heap[v.ownBlock.getD R]? = some o ∧ (kindOf o = some 5 ∨ kindOf o = some 237) := by
  rcases h.part with ⟨e, _⟩ | ⟨q, c, cells, e, h2, h3, _⟩
  · subst e
    exact ⟨_, h.r, .inr rfl⟩
  · subst e
    exact ⟨_, h3, .inl rfl⟩

theorem EachIn.ok (h : EachIn R Vb p bs v ba cap Shun w0) (w : World) : (theE w0 w R Vb v Shun).Ok := by
  obtain ⟨o, ho, hk⟩ := h.pbk
  have h1 := lt_of_get h.r
  have h2 := lt_of_get ho
  have h3 := lt_of_get h.vb
  have pv : v.ownBlock.getD R ≠ Vb := fun e => by
    rw [e, h.vb] at ho
    cases ho
    simp [kindOf] at hk
  have rv : R ≠ Vb := fun e => by
    have := h.r
    rw [e, h.vb] at this
    cases this
  refine ⟨?_, ?_, ?_, ?_, ?_, rv, pv, ?_, ?_, ?_, ?_, ?_, ?_, ?_, fun l hl => ?_, fun i o e => (fix_of e).1⟩
  all_goals first | (show _ < _; simp only [theE]; omega) | (show _ ≠ _; simp only [theE]; omega) | skip
  obtain ⟨a, e, o', h4, h5⟩ := h.shun l hl
  have h6 := lt_of_get h4
  refine ⟨a, e, by show _ < _; simp only [theE]; omega, fun e => ?_, fun e => ?_, fun e => ?_, by show _ ≠ _; simp only [theE]; omega⟩
  · have e' : a.block = R := e
    rw [e', h.r] at h4
    cases h4
    cases h5
  · have e' : a.block = v.ownBlock.getD R := e
    rw [e', ho] at h4
    cases h4
    rw [h5] at hk
    simp at hk
  · have e' : a.block = Vb := e
    rw [e', h.vb] at h4
    cases h4
    cases h5

theorem PV.back (hP : PV w0 (fresh5 R w0.heap.size (.slice ba bs.length cap) KK) w) {i : Nat} {o : Obj} (h : w0.heap[i]? = some o) : w.heap[i]? = some o := by rw [hP.old i (lt_of_get h)]; exact h

theorem RowIs.back {e : TypeId} {xs : List Value} {x : Value} (h : RowIs w e xs x) (hk : ∀ q o, x.ownBlock = some q → w.heap[q]? = some o → w'.heap[q]? = some o) : RowIs w' e xs x := by
  rcases h with h1 | ⟨q, c, cells, h1, h2, h3, h4⟩
  · exact .inl h1
  · exact .inr ⟨q, c, cells, h1, h2, hk q _ (by rw [h1]; rfl) h3, h4⟩

theorem EachIn.bview (h : EachIn R Vb p bs v ba cap Shun w0) (hP : PV w0 (fresh5 R w0.heap.size (.slice ba bs.length cap) KK) w) : BView (theE w0 w R Vb v Shun) [] p v false w := by
  refine ⟨PV.back hP h.r, ?_, by show w0.heap.size + 5 ≤ _; rw [hP.size]; simp [fresh5], fun x hx => by simp at hx, fun i o e => (fix_of e).2, ⟨KK, 0, hP.new 4 _ rfl⟩, .nil⟩
  rcases h.part with ⟨h1, h2⟩ | ⟨q, c, cells, h1, h2, h3, h4, h5, h6⟩
  · exact .inl ⟨h1, by simpa [bc] using h2⟩
  · rw [bc_len] at h1 h2
    refine .inr ⟨q, c, cells, h1, h2, PV.back hP h3, h4, fun i hi => ?_, .inl ?_, fun e => ?_, fun x hx => by simp at hx, h6⟩
    · have := h5 i (by rw [bc_len]; exact hi)
      rw [this]
      simp [bc]
    · show q = v.ownBlock.getD R
      rw [h1]
      rfl
    · have e' : q = R := e
      rw [e', h.r] at h3
      cases h3

theorem EachIn.gview (h : EachIn R Vb p bs v ba cap Shun w0) (hP : PV w0 (fresh5 R w0.heap.size (.slice ba bs.length cap) KK) w) : GView (theE w0 w R Vb v Shun) [] (.slice none 0 0) w :=
  ⟨PV.back hP h.vb, .inl ⟨rfl, rfl⟩, fun q hq => by simp [Value.ownBlock] at hq, by show w0.heap.size + 5 ≤ _; rw [hP.size]; simp [fresh5], fun i o e => (fix_of e).2, ⟨KK, 0, hP.new 4 _ rfl⟩⟩

theorem EachIn.srcAt (h : EachIn R Vb p bs v ba cap Shun w0) (hP : PV w0 (fresh5 R w0.heap.size (.slice ba bs.length cap) KK) w) : SrcAt (theE w0 w R Vb v Shun) ba bs cap := by
  rcases h.src with h1 | ⟨x, o, cs, h1, h2, h3, h4, h5, h6⟩
  · exact .inl h1
  · have hx := lt_of_get h2
    have xr : x ≠ R := fun e => by rw [e, h.r] at h2; cases h2
    have xv : x ≠ Vb := fun e => by rw [e, h.vb] at h2; cases h2
    have xp : x ≠ v.ownBlock.getD R := fun e => by
      cases hv : v.ownBlock with
      | none => rw [hv] at e; exact xr e
      | some g => rw [hv] at e h6; exact h6 (by rw [e]; rfl)
    refine .inr ⟨x, o, cs, h1, ?_, fun a ha => h.shun.notA (by rw [ha]; exact h2) (by simp [kindOf]), h3, h4, h5⟩
    simp only [theE]
    rw [if_pos ⟨by omega, xr, xp, xv, by omega, by omega⟩]
    exact PV.back hP h2

theorem fix_new (hP : PV w0 (fresh5 R w0.heap.size (.slice ba bs.length cap) KK) w) (h : EachIn R Vb p bs v ba cap Shun w0) {j : Nat} {o : Obj} (hj : j = 0 ∨ j = 1 ∨ j = 3) (ho : (fresh5 R w0.heap.size (.slice ba bs.length cap) KK)[j]? = some o) : (theE w0 w R Vb v Shun).Fix (w0.heap.size + j) = some o := by
  obtain ⟨o', ho', _⟩ := h.pbk
  have h1 := lt_of_get h.r
  have h2 := lt_of_get ho'
  have h3 := lt_of_get h.vb
  simp only [theE]
  rw [if_pos ⟨by omega, by omega, by omega, by omega, by omega, by omega⟩]
  exact hP.new j o ho

structure CV (E : EP) (sent : List (List UInt8 × Value)) (q : List UInt8) (v : Value) (t : Bool) (w : World) : Prop where
  r : w.heap[E.R]? = some (.cells #[v, .bool t] 237)
  part : PartAt E sent w q v
  src : ∀ i o, E.Fix i = some o → w.heap[i]? = some o
  dis : Dis sent

theorem CV.keeps {E : EP} {sent : List (List UInt8 × Value)} {q : List UInt8} {t : Bool} (O : E.Ok) (h : CV E sent q v t w) (k : Keeps E.KB w w') : CV E sent q v t w' := by
  refine ⟨k.keep _ _ h.r ⟨O.rg, O.rc, O.rv, fun ⟨x, _⟩ => by have := O.r; omega⟩, ?_, fun i o e => ?_, h.dis⟩
  · rcases h.part with h1 | ⟨q, c, cells, h1, h2, h3, h4, h5, h6, h7, h8⟩
    · exact .inl h1
    · refine .inr ⟨q, c, cells, h1, h2, k.keep _ _ h3 ?_, h4, h5, h6, h7, h8⟩
      rcases h6 with rfl | h6
      · exact ⟨O.pg, O.pc, O.pv, fun ⟨x, _⟩ => by have := O.p; omega⟩
      · exact ⟨by have := O.g; omega, by have := O.c; omega, by have := O.v; omega, fun ⟨_, x⟩ => by simp [kindOf] at x⟩
  · have hs := O.fix i o e
    exact k.keep _ _ (h.src i o e) ⟨hs.2.2.2.2.1, hs.2.2.2.2.2, hs.2.2.2.1, fun ⟨x, _⟩ => by have := hs.1; omega⟩

def FBc (E : EP) (q : List UInt8) (t : Bool) (sent : List (List UInt8 × Value)) (w : World) : Prop := ∃ v, CV E sent q v t w

theorem pa_at (E : EP) (Cv B : Nat) (sent : List (List UInt8 × Value)) (g : Goroutine) (w : World) (d : Nat) : PA E Cv B fr cs sent g (w.at d) ↔ PA E Cv B fr cs sent g w := by
  constructor
  · rintro ⟨lv, hG, u, n, h⟩
    exact ⟨lv, ⟨hG.v, hG.row, hG.ge, hG.low, hG.src, hG.wg⟩, u, n, Goes.rely (R := AtRel) atRel_trans h ⟨w.drawn, rfl⟩⟩
  · rintro ⟨lv, hG, u, n, h⟩
    exact ⟨lv, ⟨hG.v, hG.row, hG.ge, hG.low, hG.src, hG.wg⟩, u, n, Goes.rely (R := AtRel) atRel_trans h ⟨d, rfl⟩⟩

theorem EachIn.cfgOk (h : EachIn R Vb p bs v ba cap Shun w0) {k : Nat} (hk : 0 < k) (q : List UInt8) (t : Bool) (Cv B : Nat) : ((theE w0 w R Vb v Shun).cfg k (FBc (theE w0 w R Vb v Shun) q t) (PA (theE w0 w R Vb v Shun) Cv B fr cs)).Ok :=
  (h.ok w).cfg hk (fun sent w w' hK ⟨v, hv⟩ => ⟨v, hv.keeps (h.ok _) hK⟩) (fun sent g w d => pa_at _ _ _ _ _ _ _)

end
end Go.Proofs.YtlghcldiboecoaaGreatDoor.Cu

/- Each whole. -/
set_option maxRecDepth 100000
namespace Go.Proofs.YtlghcldiboecoaaGreatDoor.Cu
open Go Go.Conc Go.Pair Go.RowKit
section
variable {Post : Value → World → Prop} {Shun : Loc → Prop} {w w0 w₁ w' : World} {fr : Frame} {cs : List Frame} {R Vb : Nat} {v : Value} {p bs : List UInt8} {ba : Option Addr} {cap : Nat}

theorem end12_eq : Code.two end12 = .seq (.region 12 (Code.ops (Code.one (Code.two end12))) false) .ret := rfl
set_option maxRecDepth 100000 in
set_option maxHeartbeats 1000000 in
theorem each_end {Cv : Nat} {t : Bool} {v' s2 s7 s8 s17 : Value} {u : Nat → Value} (hS : ShunW Shun w) (hc : w.heap[Cv]? = some (.cells #[.pointer (some ⟨R, 0, none⟩)] 260)) (hr : w.heap[R]? = some (.cells #[v', .bool t] 237))
    (hnext : ∀ w', PV w [] w' → EA Tryz.prog Post Shun (G (fr.finish (.bool (!t))) cs) w') :
    EA Tryz.prog Post Shun (G ((base 118).at (EAct s2 (.pointer (some ⟨Cv, 0, none⟩)) s7 s8 s17 u) [.inRegion ops11 [], .code (Code.two end12)]) (fr :: cs)) w := by
  have T := termsS Shun
  refine EA.goes (n := 12) ?_
  have hF := PV.start w
  generalize hw0 : w = w0 at hS hr hc hnext
  rw [hw0] at hF
  refine goes_ctl T rfl (fun _ => stepG_region_end) ?_
  rw [end12_eq]
  refine goes_ctl T rfl (fun _ => stepG_seq) ?_
  simp only [Code.ops, end12, aft12, body12, Code.core, Code.one, Code.two, Tryz.f118, Option.getD_some, EAct]
  refine goes_ctl T rfl (fun _ => stepG_region) ?_
  simp only [List.size_toArray, List.length_cons, List.length_nil, Nat.reduceAdd, Nat.zero_add, List.range, List.range.loop]
  refine goes_op rfl (by rfl) (by decide) fun _ hRz Kz hKz => ?_
  replace hF := PV.rely hF hRz
  clear hRz
  (have hc := hF.cellOld (j := 0) hc rfl)
  go_simp
  try (unfold stored; go_simp)
  refine hKz _ _ ⟨?_, ?_⟩
  · (refine ds_read ?_; co_evs (exact evL_cell (hS.not ‹w0.heap[Cv]? = _› (by simp [kindOf])) (by rw [hF.size]; exact lt_of_get ‹w0.heap[Cv]? = _›)))
  clear hKz Kz
  try walk_nrm
  refine goes_op rfl (by rfl) (by decide) fun _ hRz Kz hKz => ?_
  replace hF := PV.rely hF hRz
  clear hRz
  (skip)
  go_simp
  try (unfold stored; go_simp)
  refine hKz _ _ ⟨?_, ?_⟩
  · (co_quiet T)
  clear hKz Kz
  try walk_nrm
  refine goes_op rfl (by rfl) (by decide) fun _ hRz Kz hKz => ?_
  replace hF := PV.rely hF hRz
  clear hRz
  (skip)
  go_simp
  try (unfold stored; go_simp)
  refine hKz _ _ ⟨?_, ?_⟩
  · (co_quiet T)
  clear hKz Kz
  try walk_nrm
  refine goes_op rfl (by rfl) (by decide) fun _ hRz Kz hKz => ?_
  replace hF := PV.rely hF hRz
  clear hRz
  (have hc := hF.cellOld (j := 1) hr rfl)
  go_simp
  try (unfold stored; go_simp)
  refine hKz _ _ ⟨?_, ?_⟩
  · (refine ds_read ?_; co_evs (exact evL_cell (hS.not hr (by simp [kindOf])) (by rw [hF.size]; exact lt_of_get hr)))
  clear hKz Kz
  try walk_nrm
  refine goes_op rfl (by rfl) (by decide) fun _ hRz Kz hKz => ?_
  replace hF := PV.rely hF hRz
  clear hRz
  (skip)
  go_simp
  try (unfold stored; go_simp)
  refine hKz _ _ ⟨?_, ?_⟩
  · (co_quiet T)
  clear hKz Kz
  try walk_nrm
  refine goes_op rfl (by rfl) (by decide) fun _ hRz Kz hKz => ?_
  replace hF := PV.rely hF hRz
  clear hRz
  (skip)
  go_simp
  try (unfold stored; go_simp)
  refine hKz _ _ ⟨?_, ?_⟩
  · (co_quiet T)
  clear hKz Kz
  try walk_nrm
  refine goes_ctl T rfl (fun _ => stepG_region_end) ?_
  refine goes_ctl T rfl (fun _ => stepG_ret') ?_
  refine goes_ctl T rfl (fun w => stepG_leave (v := .bool (!t)) rfl rfl Tryz.func118 (results_tmp (t := 6) (by rfl) _ _ _) (events_results_tmp (t := 6) (by rfl) _ _)) ?_
  exact EA.stop (hnext _ hF)

noncomputable def r6 : Code := Code.one aft5
theorem aft5_eq : aft5 = .seq (.region 6 (Code.ops r6) false) aft12 := rfl
theorem aft12_eq : aft12 = .seq (.seq (.region 7 (Code.ops (Code.one range12)) false) (.block 0 (.loop L12))) end12 := rfl
noncomputable def A13 (R N Vb : Nat) (bsl : Value) : Act :=
  { tmps := #[.pointer (some ⟨R, 0, none⟩), bsl, clo Vb, .pointer (some ⟨N, 0, none⟩), .pointer (some ⟨N + 1, 0, none⟩), undef, .bool false, .pointer (some ⟨N + 3, 0, none⟩), .pointer (some ⟨N + 4, 0, none⟩), undef, .pointer (some ⟨R, 0, none⟩), .pointer (some ⟨R, 0, none⟩), .pointer (some ⟨R, 1, none⟩), .bool false, .chan (some (N + 2)), .tuple #[], .func (.func 159) #[] #[.pointer (some ⟨N + 4, 0, none⟩), .pointer (some ⟨N + 3, 0, none⟩), .pointer (some ⟨N, 0, none⟩), .pointer (some ⟨N + 1, 0, none⟩)], undef, undef, undef, undef, undef, undef, undef, undef, undef, undef, undef, undef, undef], defers := [] }

set_option maxRecDepth 100000 in
set_option maxHeartbeats 1000000 in
theorem each_mf (hP : PV w0 (fresh5 R w0.heap.size (.slice ba bs.length cap) KK) w)
    (hnext : ∀ w', PV w0 (fresh5 R w0.heap.size (.slice ba bs.length cap) KK) w' → EA Tryz.prog Post Shun (G ((base 118).at (A13 R w0.heap.size Vb (.slice ba bs.length cap)) [.inRegion (Code.ops r6) [1], .code aft12]) (fr :: cs)) w') :
    EA Tryz.prog Post Shun (G ((base 118).at (A12 R w0.heap.size Vb (.slice ba bs.length cap) (.tuple #[])) [.inRegion ops5 [], .code aft5]) (fr :: cs)) w := by
  have T := termsS Shun
  refine EA.goes (n := 4) ?_
  refine goes_ctl T rfl (fun _ => stepG_region_end) ?_
  rw [aft5_eq]
  refine goes_ctl T rfl (fun _ => stepG_seq) ?_
  simp only [Code.ops, r6, aft5, body12, Code.core, Code.one, Code.two, Tryz.f118, Option.getD_some, A12]
  refine goes_ctl T rfl (fun _ => stepG_region) ?_
  simp only [List.size_toArray, List.length_cons, List.length_nil, Nat.reduceAdd, Nat.zero_add, List.range, List.range.loop]
  have hF := hP
  refine goes_op rfl (by rfl) (by decide) fun _ hRz Kz hKz => ?_
  replace hF := PV.rely hF hRz
  clear hRz
  (skip)
  go_simp
  try (unfold stored; go_simp)
  refine hKz _ _ ⟨?_, ?_⟩
  · (co_quiet T)
  clear hKz Kz
  try walk_nrm
  exact EA.stop (hnext _ hF)

end
end Go.Proofs.YtlghcldiboecoaaGreatDoor.Cu

/- Each: the go statement; the contract. -/
set_option maxRecDepth 100000
namespace Go.Proofs.YtlghcldiboecoaaGreatDoor.Cu
open Go Go.Conc Go.Pair Go.RowKit
section
variable {Post : Value → World → Prop} {Shun : Loc → Prop} {w w0 w₁ w' : World} {fr : Frame} {cs : List Frame} {R Vb : Nat} {v : Value} {p bs : List UInt8} {ba : Option Addr} {cap : Nat}

theorem evFixA {E : EP} {k : Nat} {FB : List (List UInt8 × Value) → World → Prop} {PostA : List (List UInt8 × Value) → Goroutine → World → Prop} (O : E.Ok) {i j : Nat} {o : Obj} {w : World} (h : E.Fix i = some o) (hns : ∀ a : Addr, a.block = i → ¬ E.Shun (.cell a)) (hw : w.heap[i]? = some o) : EvP (E.cfg k FB PostA).LA w ⟨.cell ⟨i, j, none⟩, false, false⟩ :=
  .inr ⟨_, _, rfl, ⟨_, rfl, .inr (.inr ⟨rfl, (O.fix i o h).still rfl (hns _ rfl)⟩)⟩, lt_of_get hw⟩

set_option maxRecDepth 100000 in
set_option maxHeartbeats 1000000 in
theorem arecvs_start {E : EP} {k N : Nat} {FB : List (List UInt8 × Value) → World → Prop} (O : E.Ok) (OC : (E.cfg k FB (PA E N (N + 3) fr cs)).Ok) {bodies : List (List UInt8)} (hn : bodies.length ≤ 4294967296) (hW : E.Wg = N + 4) (hCh : E.Ch = N + 2)
    (hB : E.Fix (N + 3) = some (.cells #[.chan (some (N + 2))] 261)) (hns : ∀ a : Addr, a.block = N + 3 → ¬ E.Shun (.cell a)) (hF : GView E [] (.slice none 0 0) w) {bsl : Value} :
    ARecvs (E.cfg k FB (PA E N (N + 3) fr cs)) bodies [] (G ((base 118).at (A13 R N E.Vb bsl) [.inRegion (Code.ops r6) [], .code aft12]) (fr :: cs)) w := by
  have T := termsA (E.cfg k FB (PA E N (N + 3) fr cs)) []
  refine (arecvs_iff _ _ _ _ _).2 ⟨2 + 8, ?_⟩
  show Goes Tryz.prog true (RA (E.cfg k FB (PA E N (N + 3) fr cs)) []) (DA (E.cfg k FB (PA E N (N + 3) fr cs))) (AStop (E.cfg k FB (PA E N (N + 3) fr cs)) bodies []) _ _ w
  refine goes_ctl T rfl (fun _ => stepG_region_end) ?_
  rw [aft12_eq]
  refine goes_ctl T rfl (fun _ => stepG_seq) ?_
  refine goes_ctl T rfl (fun _ => stepG_seq) ?_
  simp only [Code.ops, range12, aft12, body12, Code.core, Code.one, Code.two, Tryz.f118, Option.getD_some, A13]
  refine goes_ctl T rfl (fun _ => stepG_region) ?_
  simp only [List.size_toArray, List.length_cons, List.length_nil, Nat.reduceAdd, Nat.zero_add, List.range, List.range.loop]
  refine goes_op rfl (by rfl) (by decide) fun _ hRz Kz hKz => ?_
  replace hF := (GView.rely O) hF hRz
  clear hRz
  (have hc := show World.cell? _ ⟨N + 3, 0, none⟩ = some (.chan (some (N + 2))) from (by simp [World.cell?]; rw [hF.src _ _ hB]; rfl))
  go_simp
  try (unfold stored; go_simp)
  refine hKz _ _ ⟨?_, ?_⟩
  · (refine da_read ?_; co_evs (exact evFixA O hB hns (hF.src _ _ hB)))
  clear hKz Kz
  try walk_nrm
  refine goes_ctl T rfl (fun _ => stepG_region_end) ?_
  refine goes_ctl T rfl (fun _ => stepG_block) ?_
  refine goes_ctl T rfl (fun _ => stepG_loop) ?_
  obtain ⟨u', hu'⟩ := eact_of (s2 := clo E.Vb) (s3 := .pointer (some ⟨N, 0, none⟩)) (s7 := .pointer (some ⟨N + 3, 0, none⟩)) (s8 := .pointer (some ⟨E.Wg, 0, none⟩)) (s17 := .chan (some E.Ch)) { tmps := #[.pointer (some ⟨R, 0, none⟩), bsl, clo E.Vb, .pointer (some ⟨N, 0, none⟩), .pointer (some ⟨N + 1, 0, none⟩), undef, .bool false, .pointer (some ⟨N + 3, 0, none⟩), .pointer (some ⟨E.Wg, 0, none⟩), undef, .pointer (some ⟨R, 0, none⟩), .pointer (some ⟨R, 0, none⟩), .pointer (some ⟨R, 1, none⟩), .bool false, .chan (some (N + 2)), .tuple #[], .func (.func 159) #[] #[.pointer (some ⟨N + 4, 0, none⟩), .pointer (some ⟨N + 3, 0, none⟩), .pointer (some ⟨N, 0, none⟩), .pointer (some ⟨N + 1, 0, none⟩)], .chan (some E.Ch), undef, undef, undef, undef, undef, undef, undef, undef, undef, undef, undef, undef], defers := [] } rfl
  have hi := recv_c (k := k) (FB := FB) (Cv := N) (B := N + 3) (fr := fr) (cs := cs) O OC bodies [] _ _ u' (by simpa using hn) hF
  rw [← hu', hW, hCh] at hi
  exact hi

theorem spawn_eq {N : Nat} {bsl : Value} (w : World) : stepG Tryz.prog true (G ((base 118).at (A13 R N Vb bsl) [.inRegion (Code.ops r6) [1], .code aft12]) (fr :: cs)) w =
    .spawn (G ((base 118).at (A13 R N Vb bsl) [.inRegion (Code.ops r6) [], .code aft12]) (fr :: cs)) (born Tryz.prog (call15 (N + 4) (N + 3) N (N + 1))) w #[] := by
  simp only [Code.ops, r6, aft5, body12, Code.core, Code.one, Code.two, Tryz.f118, Option.getD_some]
  rw [stepG_spawn rfl (by rfl) (by decide) (d := call15 (N + 4) (N + 3) N (N + 1)) (w' := w) (f := .func 159) (c := #[.pointer (some ⟨N + 4, 0, none⟩), .pointer (some ⟨N + 3, 0, none⟩), .pointer (some ⟨N, 0, none⟩), .pointer (some ⟨N + 1, 0, none⟩)]) (by simp [go_sem, execOp, resolve, Deferred.ofValue, Act.eval, A13, call15]) rfl]
  rw [listed_nil (by simp [go_sem, execOp, resolve, Deferred.ofValue, Act.eval, A13])]
  rfl

end
end Go.Proofs.YtlghcldiboecoaaGreatDoor.Cu

/- Each: the contract. -/
set_option maxRecDepth 100000
namespace Go.Proofs.YtlghcldiboecoaaGreatDoor.Cu
open Go Go.Conc Go.Pair Go.RowKit
section
variable {Post : Value → World → Prop} {Shun : Loc → Prop} {w w0 w₁ w' : World} {fr : Frame} {cs : List Frame} {R Vb : Nat} {v : Value} {p bs : List UInt8} {ba : Option Addr} {cap : Nat}

theorem PV.same (h : PV w [] w') : w'.heap = w.heap := by
  apply Array.ext_getElem?
  intro i
  rcases Nat.lt_or_ge i w.heap.size with hi | hi
  · exact h.old i hi
  · have := h.size
    simp at this
    rw [Array.getElem?_eq_none hi, Array.getElem?_eq_none (by omega)]

theorem ShunW.heap (h : ShunW Shun w) (e : w'.heap = w.heap) : ShunW Shun w' := fun l hl => by
  obtain ⟨a, h1, o, h2, h3⟩ := h l hl
  exact ⟨a, h1, o, by rw [e]; exact h2, h3⟩

theorem EachOut.heap {S0 : Loc → Prop} {bodies : List (List UInt8)} {q : List UInt8} {t : Bool} {v' : Value} {sent : List (List UInt8 × Value)} {lv : Value} (h : EachOut w0 R Vb v bodies q t v' sent lv S0 Shun w) (e : w'.heap = w.heap) : EachOut w0 R Vb v bodies q t v' sent lv S0 Shun w' := by
  refine ⟨by rw [e]; exact h.size, by rw [e]; exact h.r, RowIs.back h.part (fun q o _ x => by rw [e]; exact x), h.own, h.told, by rw [e]; exact h.vb, RowIs.back h.list (fun q o _ x => by rw [e]; exact x), h.lown, fun x hx => ?_, fun i h1 h2 h3 h4 => by rw [e]; exact h.keep i h1 h2 h3 h4, h.shun.heap e, h.more, h.dis⟩
  obtain ⟨r, h1, h2, h3, h4⟩ := h.msg x hx
  exact ⟨r, h1, h2, by rw [e]; exact h3, h4⟩

theorem each_out {k : Nat} (h : EachIn R Vb p bs v ba cap Shun w0) {bodies : List (List UInt8)} {q : List UInt8} {t : Bool} (hP : PV w0 (fresh5 R w0.heap.size (.slice ba bs.length cap) KK) w) {sent : List (List UInt8 × Value)} {v' lv : Value}
    (hs : sent.map (·.1) = bodies) (hG : GView (theE w0 w R Vb v Shun) (sent.map (·.2)) lv w') (hv : CV (theE w0 w R Vb v Shun) sent q v' t w') (hmsg : ∀ x ∈ sent, (theE w0 w R Vb v Shun).Msg x.1 x.2 w') :
    EachOut w0 R Vb v bodies q t v' sent lv Shun (fun l => Shun l ∨ IsWg (w0.heap.size + 4) l) w' := by
  obtain ⟨o', ho', hk'⟩ := h.pbk
  have hlow : w0.heap.size + 5 ≤ w'.heap.size := hG.low
  have keep : ∀ i, i < w0.heap.size → i ≠ R → v.ownBlock ≠ some i → i ≠ Vb → w'.heap[i]? = w0.heap[i]? := fun i h1 h2 h3 h4 => by
    have hi : w0.heap[i]? = some w0.heap[i] := Array.getElem?_eq_getElem h1
    have hne : i ≠ v.ownBlock.getD R := fun e => by
      cases hv' : v.ownBlock with
      | none => rw [hv'] at e; exact h2 e
      | some g => rw [hv'] at e h3; exact h3 (by rw [e]; rfl)
    rw [hi]
    refine hv.src i _ ?_
    simp only [theE]
    rw [if_pos ⟨by omega, h2, hne, h4, by omega, by omega⟩]
    rw [hP.old i h1]
    exact hi
  refine ⟨by omega, hv.r, ?_, fun g hg => ?_, hs, hG.v, hG.row, fun g hg => ?_, fun x hx => ?_, keep, fun l hl => ?_, fun l hl => hl.imp id fun ⟨a, e, h⟩ => ⟨a, e, by omega⟩, hv.dis⟩
  · rcases hv.part with ⟨h1, h2⟩ | ⟨g, c, cells, h1, h2, h3, h4, h5, h6, h7, h8, h9⟩
    · exact .inl ⟨h1, by rw [h2]; rfl⟩
    · refine .inr ⟨g, c, cells, by rw [bc_len]; exact h1, by rw [bc_len]; exact h2, h3, h4, fun i hi => ?_, h9⟩
      rw [bc_len] at hi
      rw [h5 i hi]
      simp [bc]
  · rcases hv.part with ⟨h1, h2⟩ | ⟨g', c, cells, h1, h2, h3, h4, h5, h6, h7, h8, h9⟩
    · rw [h1] at hg; simp [Value.ownBlock] at hg
    · rw [h1] at hg
      simp [Value.ownBlock] at hg
      subst hg
      rcases h6 with h6 | h6
      · left
        have h6' : g' = v.ownBlock.getD R := h6
        cases hv' : v.ownBlock with
        | none => rw [hv'] at h6'; exact absurd h6' h7
        | some y => rw [hv'] at h6'; rw [h6']; rfl
      · right
        have : w0.heap.size + 5 ≤ g' := h6
        omega
  · have := hG.ge g hg
    have : w0.heap.size + 5 ≤ g := this
    omega
  · obtain ⟨r, h1, h2, h3⟩ := hmsg x hx
    have h1' : w0.heap.size + 5 ≤ r := h1
    refine ⟨r, by omega, h2, h3, fun e => ?_⟩
    rcases hv.part with ⟨h4, _⟩ | ⟨g', c, cells, h4, _, _, _, _, _, _, h8, _⟩
    · rw [h4] at e; simp [Value.ownBlock] at e
    · rw [h4] at e
      simp [Value.ownBlock] at e
      subst e
      exact h8 x hx _ _ h2
  · rcases hl with hl | ⟨a, rfl, ha⟩
    · obtain ⟨a, rfl, o, h1, h2⟩ := h.shun l hl
      refine ⟨a, rfl, o, ?_, h2⟩
      rw [keep a.block (lt_of_get h1) (fun e => ?_) (fun e => ?_) (fun e => ?_)]
      · exact h1
      · rw [e, h.r] at h1; cases h1; cases h2
      · rw [e] at ho'
        have : (some a.block).getD R = a.block := rfl
        rw [this, h1] at ho'
        cases ho'
        rw [h2] at hk'
        simp at hk'
      · rw [e, h.vb] at h1; cases h1; cases h2
    · obtain ⟨st, sm, x⟩ := hG.wg
      exact ⟨a, rfl, _, by rw [ha]; exact x, rfl⟩

theorem each_fork (h : EachIn R Vb p bs v ba cap Shun w0) {bodies : List (List UInt8)} {q : List UInt8} {t : Bool} (hC : Cuts p bs bodies q t) (hp : OkP p) (hn : bodies.length ≤ 4294967296) (hP : PV w0 (fresh5 R w0.heap.size (.slice ba bs.length cap) KK) w)
    (hnext : ∀ v' sent lv Shun' w', EachOut w0 R Vb v bodies q t v' sent lv Shun Shun' w' → EA Tryz.prog Post Shun' (G (fr.finish (.bool (!t))) cs) w') :
    EA Tryz.prog Post Shun (G ((base 118).at (A13 R w0.heap.size Vb (.slice ba bs.length cap)) [.inRegion (Code.ops r6) [1], .code aft12]) (fr :: cs)) w := by
  intro d
  have O := h.ok w
  have nsn : ∀ j, ∀ a : Addr, a.block = w0.heap.size + j → ¬ Shun (.cell a) := fun j a e => h.shun.newA (by omega)
  refine Ends.fork rfl fun n k hk => ⟨((theE w0 w R Vb v Shun).cfg k (FBc (theE w0 w R Vb v Shun) q t) (PA (theE w0 w R Vb v Shun) w0.heap.size (w0.heap.size + 3) fr cs)).saying (Same w), bodies, _, _, 0, 0, false, rfl, rfl, rfl, (h.cfgOk hk q t w0.heap.size (w0.heap.size + 3)).saying (fun w' d => Iff.rfl), spawn_eq _, hP.new 2 _ rfl, hP.new 4 _ rfl, ?_, ?_, fun sent g' w' hs hrun hPA hFB hmsg => ?_⟩
  · have hg := h.gview hP
    refine arecvs_say (C := (theE w0 w R Vb v Shun).cfg k (FBc (theE w0 w R Vb v Shun) q t) (PA (theE w0 w R Vb v Shun) w0.heap.size (w0.heap.size + 3) fr cs)) (I := Same w) (fun _ _ s h => h.trans s) _ _ _ _ ⟨rfl, rfl⟩ ?_
    exact arecvs_start (w := (w.at d).at n) (bodies := bodies) O (h.cfgOk hk q t _ _) hn rfl rfl (fix_new hP h (.inr (.inr rfl)) rfl) (nsn 3) ⟨hg.v, hg.row, hg.ge, hg.low, hg.src, hg.wg⟩
  · have hb := h.bview hP
    exact worker_c (PostA := fun s g w' => Same w w' ∧ PA (theE w0 w R Vb v Shun) w0.heap.size (w0.heap.size + 3) fr cs s g w') O ((h.cfgOk hk q t w0.heap.size (w0.heap.size + 3)).saying (I := Same w) (fun w' d => Iff.rfl)) hC hp (h.srcAt hP) (fix_new hP h (.inr (.inr rfl)) rfl) (fix_new hP h (.inl rfl) rfl) (fix_new hP h (.inr (.inl rfl)) rfl) (nsn 3) (nsn 0) (nsn 1) (fun sent v w hv => ⟨v, hv.r, hv.part, hv.src, hv.dis⟩) v _ ⟨hb.r, hb.part, hb.low, hb.old, hb.src, hb.wg, hb.dis⟩
  · obtain ⟨hsm, lv, hG, u, m, hgo⟩ := hPA
    obtain ⟨v', hv⟩ := hFB
    have hO := each_out (k := k) h hP hs hG hv hmsg
    have hend := each_end (Post := Post) (fr := fr) (cs := cs) (R := R) (Cv := w0.heap.size) (t := t) (v' := v') (s2 := clo Vb) (s7 := .pointer (some ⟨w0.heap.size + 3, 0, none⟩)) (s8 := .pointer (some ⟨w0.heap.size + 4, 0, none⟩)) (s17 := .chan (some (w0.heap.size + 2))) (u := u) hO.shun (hv.src _ _ (fix_new hP h (.inl rfl) rfl)) hv.r fun w'' hpv => hnext v' sent lv _ w'' (hO.heap (PV.same hpv))
    exact Ends.goesA (w₀ := w') (fun g w'' h0 hst => by rw [hst w'' (atRel_refl w'')]; exact (hend.rel h0).from (by obtain ⟨e, rfl⟩ := h0; exact hsm)) (atRel_refl w') hgo

end
end Go.Proofs.YtlghcldiboecoaaGreatDoor.Cu
