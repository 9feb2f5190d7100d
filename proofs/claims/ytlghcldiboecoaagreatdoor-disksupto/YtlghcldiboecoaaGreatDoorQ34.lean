/- Each's range over the channel: the caller's receives. -/
import Derived.Test.YtlghcldiboecoaaGreatDoorQ33
import Derived.Test.YtlghcldiboecoaaGreatDoorQ22
import Derived.Conc.SmallLaws
set_option linter.unusedVariables false
set_option linter.unusedSimpArgs false
set_option maxRecDepth 100000
namespace Go.Pair
open Go Go.Conc
theorem goes_callV {P : Program} {main : Bool} {R : World → World → Prop} {D : World → World → Array Event → Prop} (T : Terms R D) {b : Frame} {a : Act} {k : List Item} {cs : List Frame} {w : World} {ops : Array Oper} {i : Nat} {rest : List Nat} {o : Oper} {f : FuncId} {args : Array Value}
    {nf m : Nat} {Post : Value → World → Prop} {Stop : Goroutine → World → Prop}
    (ho : ops[i]? = some o) (hw : Region.wanted o (yielded ops a.tmps) = true) (hk : b.kind ≠ .early) (hr : ∀ w, (execOp a.eval o).run P w = .ok (.enter f args) w) (he : ∀ w, (execOp a.eval o).events P w #[] = #[])
    (hcall : CallsC P main R D f args nf w Post)
    (hnext : ∀ v w', Post v w' → Goes P main R D Stop m (G (b.at (a.put o.dst v) (.inRegion ops rest :: k)) cs) w') :
    Goes P main R D Stop (m + nf + 3) (G (b.at a (.inRegion ops (i :: rest) :: k)) cs) w := by
  obtain ⟨fn, c, hf, hname, hbody, hwp⟩ := hcall
  have hfin : ∀ v, (b.at a (.inRegion ops (i :: rest) :: k)).finish v = b.at (a.put o.dst v) (.inRegion ops rest :: k) := fun v => by rw [Frame.finish_at, ho]; rfl
  have hleave : ∀ (a' : Act) (w' : World) (todo : List Item), (a'.defers = [] ∧ ∃ v, ResultsC P fn a'.tmps v ∧ Post v w') →
      Goes P main R D Stop (m + 1) (G { (base f).at a' todo with mode := .returning } (b.at a (.inRegion ops (i :: rest) :: k) :: cs)) w' := by
    rintro a' w' todo ⟨hd, v, hr, hp⟩
    refine Goes.step rfl fun w₁ h₁ => ?_
    rw [stepG_leave (b := base f) rfl hd hf (hr w₁).1 (hr w₁).2, hfin]
    exact ⟨T.idle _, (hnext v w' hp).rely T.trans h₁⟩
  have hbodyG : Goes P main R D Stop (m + 2 + nf) (G ((base f).at { tmps := args ++ Array.replicate (fn.ntmps - args.size) undef, defers := [] } [.code c]) (b.at a (.inRegion ops (i :: rest) :: k) :: cs)) w := by
    refine hwp (base f) [] _ Stop (m + 2) rfl (by simp [base]) fun e a' w' q => ?_
    cases e with
    | normal => exact Goes.step rfl fun w₁ h₁ => by rw [stepG_end]; exact ⟨T.idle _, (hleave a' w' [] q).rely T.trans h₁⟩
    | ret => exact fun todo => (hleave a' w' todo q).more
    | exit id => exact q.elim
    | goto l => exact q.elim
    | panic ch => exact q.elim
    | outgrown => exact q.elim
  have e : m + nf + 3 = (m + 2 + nf) + 1 := by omega
  rw [e]
  refine Goes.step rfl fun w₁ h₁ => ?_
  rw [stepG_enter ho hw hk (hr w₁), listed_nil (he w₁), enter_at args hf hbody]
  exact ⟨T.idle _, hbodyG.rely T.trans h₁⟩

end Go.Pair
namespace Go.Proofs.YtlghcldiboecoaaGreatDoor.Cu
open Go Go.Conc Go.Pair Go.RowKit

noncomputable def body12 : Code := Tryz.f118.body.getD .skip
noncomputable def aft12 : Code := Code.two (Code.two (Code.two (Code.two (Code.two (Code.two body12)))))

noncomputable def range12 : Code := Code.one aft12
noncomputable def end12 : Code := Code.two aft12
noncomputable def L12 : Code := Code.core (Code.core (Code.two range12))
noncomputable def LK12 : List Item := [.inLoop L12, .inBlock 0, .code end12]
noncomputable def Code.ops : Code → Array Oper | .region _ ops _ => ops | _ => #[]
noncomputable def ops11 : Array Oper := Code.ops (Code.one end12)

noncomputable def EAct (s2 s3 s7 s8 s17 : Value) (u : Nat → Value) : Act :=
  { tmps := #[u 0, u 1, s2, s3, u 4, u 5, u 6, s7, s8, u 9, u 10, u 11, u 12, u 13, u 14, u 15, u 16, s17, u 18, u 19, u 20, u 21, u 22, u 23, u 24, u 25, u 26, u 27, u 28, u 29], defers := [] }

theorem eact_of {s2 s3 s7 s8 s17 : Value} (a : Act) (h : a = EAct s2 s3 s7 s8 s17 fun i => a.tmps.getD i undef) : ∃ u, a = EAct s2 s3 s7 s8 s17 u := ⟨_, h⟩

def clo (V : Nat) : Value := .func (.func 139) #[] #[.pointer (some ⟨V, 0, none⟩)]
def PA (E : EP) (Cv B : Nat) (fr : Frame) (cs : List Frame) (sent : List (List UInt8 × Value)) (g : Goroutine) (w : World) : Prop :=
  ∃ lv, GView E (sent.map (·.2)) lv w ∧ ∃ u n, Goes Tryz.prog true AtRel Pair.D0 (fun g _ => g = G ((base 118).at (EAct (clo E.Vb) (.pointer (some ⟨Cv, 0, none⟩)) (.pointer (some ⟨B, 0, none⟩)) (.pointer (some ⟨E.Wg, 0, none⟩)) (.chan (some E.Ch)) u) [.inRegion ops11 [], .code (Code.two end12)]) (fr :: cs)) n g w

section
variable {E : EP} {sent : List (List UInt8 × Value)} {vs : List Value} {lv : Value} {w w' w₁ : World} {k : Nat} {FB : List (List UInt8 × Value) → World → Prop} {Cv B : Nat} {fr : Frame} {cs : List Frame}

theorem L12_eq : L12 = .seq (.region 8 (Code.ops (Code.one L12)) false) (.seq (.cond (.tmp 19) .skip (.exit 0)) (.block 1 (.seq (.region 9 (Code.ops (Code.one (Code.core (Code.two (Code.two L12))))) false) (.region 10 (Code.ops (Code.two (Code.core (Code.two (Code.two L12))))) false)))) := rfl

theorem wait_of (O : E.Ok) (OC : (E.cfg k FB (PA E Cv B fr cs)).Ok) {a₀ : Act} (hF : GView E (sent.map (·.2)) lv w)
    (hu : ∀ w' : World, True → ∃ u, a₀.put (some 24) (.tuple #[]) = EAct (clo E.Vb) (.pointer (some ⟨Cv, 0, none⟩)) (.pointer (some ⟨B, 0, none⟩)) (.pointer (some ⟨E.Wg, 0, none⟩)) (.chan (some E.Ch)) u) :
    Goes Tryz.prog true (RA (E.cfg k FB (PA E Cv B fr cs)) sent) Pair.D0 (AKd (E.cfg k FB (PA E Cv B fr cs)) sent) 100 (G ((base 162).at ⟨#[.pointer (some ⟨E.Wg, 0, none⟩)] ++ Array.replicate ((Lib.waitFn Tryz.link).ntmps - 1) undef, []⟩ [.code (bodyWait Tryz.link)]) ((base 118).at a₀ (.inRegion ops11 [0] :: [.code (Code.two end12)]) :: fr :: cs)) w := by
  refine waitA (C := E.cfg k FB (PA E Cv B fr cs)) (sent := sent) OC Tryz.wgLib rfl (b₀ := base 118) (a₀ := a₀) (ops₀ := ops11) (i₀ := 0) (rest₀ := []) (k₀ := [.code (Code.two end12)]) (cs := fr :: cs) w hF.wg (fun g' w₃ hk hrun hgo => ?_)
  obtain ⟨nn, hgo⟩ := hgo
  obtain ⟨u', hu'⟩ := hu w trivial
  refine ⟨lv, hF.rely O hk.1, u', nn, ?_⟩
  rw [← hu']
  exact hgo

set_option maxRecDepth 100000 in
set_option maxHeartbeats 1000000 in
theorem recv_c (O : E.Ok) (OC : (E.cfg k FB (PA E Cv B fr cs)).Ok) : ∀ (bs : List (List UInt8)) (sent : List (List UInt8 × Value)) (lv : Value) (w : World) (u : Nat → Value), sent.length + bs.length ≤ 4294967296 → GView E (sent.map (·.2)) lv w →
    Goes Tryz.prog true (RA (E.cfg k FB (PA E Cv B fr cs)) sent) (DA (E.cfg k FB (PA E Cv B fr cs))) (AStop (E.cfg k FB (PA E Cv B fr cs)) bs sent) 2 (G ((base 118).at (EAct (clo E.Vb) (.pointer (some ⟨Cv, 0, none⟩)) (.pointer (some ⟨B, 0, none⟩)) (.pointer (some ⟨E.Wg, 0, none⟩)) (.chan (some E.Ch)) u) (.code L12 :: LK12)) (fr :: cs)) w := by
  intro bs
  induction bs with
  | nil =>
    intro sent lv w u hn hF
    have T := termsA (E.cfg k FB (PA E Cv B fr cs)) sent
    rw [L12_eq]
    refine goes_ctl T rfl (fun w => stepG_seq) ?_
    refine goes_ctl T rfl (fun w => stepG_region) ?_
    simp only [Code.ops, L12, range12, aft12, body12, Code.core, Code.one, Code.two, Tryz.f118, Option.getD_some, List.size_toArray, List.length_cons, List.length_nil, Nat.reduceAdd, Nat.zero_add, List.range, List.range.loop, EAct]
    intro w₁ hR
    replace hF := hF.rely O hR
    clear hR
    refine ⟨rfl, .slice none 0 0, ?_, fun w₂ hR => ?_⟩
    · show stepG Tryz.prog true _ w₁ = _
      rw [stepG_comm rfl (by rfl) (by decide) (cases := #[rcase E.Ch (.slice none 0 0)]) (blocking := true) (shape := .recv true) (w' := w₁) (by simp [go_sem, execOp, rcase, Act.eval, Tryz.runUnderlying261, Tryz.zeroValue57])]
      rw [listed_nil (by simp [go_sem, execOp, Act.eval, Tryz.runUnderlying261, Tryz.zeroValue57])]
      rfl
    · replace hF := hF.rely O hR
      clear hR
      refine ⟨100 + 8, ?_⟩
      rw [served_at rfl]
      show Goes Tryz.prog true (RA (E.cfg k FB (PA E Cv B fr cs)) sent) (DA (E.cfg k FB (PA E Cv B fr cs))) _ _ _ _
      refine goes_op rfl (by rfl) (by decide) fun w₁ hR K' hK => ?_
      replace hF := hF.rely O hR
      clear hR
      try walk_nrm
      go_simp
      refine hK _ _ ⟨by co_quiet T, ?_⟩
      clear hK K'
      try walk_nrm
      refine goes_ctl T rfl (fun w => stepG_region_end) ?_
      refine goes_ctl T rfl (fun w => stepG_seq) ?_
      refine goes_ctl T rfl (fun w => stepG_cond (t := false) rfl) ?_
      refine goes_ctl T rfl (fun w => stepG_exit (k' := [.code end12]) rfl) ?_
      rw [show end12 = .seq (.region 11 ops11 false) (Code.two end12) from rfl]
      refine goes_ctl T rfl (fun w => stepG_seq) ?_
      refine goes_ctl T rfl (fun w => stepG_region) ?_
      rw [show List.range ops11.size = [0] from rfl]
      refine Goes.step rfl fun w₂ hR => goes_call (f := 162) (fn := Lib.waitFn Tryz.link) (c := bodyWait Tryz.link) rfl (by rfl) (by decide) rfl Tryz.wgLib.f_wait (by rfl) (by rfl) ⟨T.idle _, ?_⟩
      replace hF := hF.rely O hR
      clear hR
      obtain ⟨u', hu'⟩ := eact_of (s2 := clo E.Vb) (s3 := .pointer (some ⟨Cv, 0, none⟩)) (s7 := .pointer (some ⟨B, 0, none⟩)) (s8 := .pointer (some ⟨E.Wg, 0, none⟩)) (s17 := .chan (some E.Ch)) { tmps := #[u 0, u 1, clo E.Vb, .pointer (some ⟨Cv, 0, none⟩), u 4, u 5, u 6, .pointer (some ⟨B, 0, none⟩), .pointer (some ⟨E.Wg, 0, none⟩), u 9, u 10, u 11, u 12, u 13, u 14, u 15, u 16, .chan (some E.Ch), .tuple #[.slice none 0 0, .bool false], .bool false, u 20, u 21, u 22, u 23, .tuple #[], u 25, u 26, u 27, u 28, u 29], defers := [] } rfl
      rw [show Array.map (Act.eval ({ tmps := #[u 0, u 1, clo E.Vb, .pointer (some ⟨Cv, 0, none⟩), u 4, u 5, u 6, .pointer (some ⟨B, 0, none⟩), .pointer (some ⟨E.Wg, 0, none⟩), u 9, u 10, u 11, u 12, u 13, u 14, u 15, u 16, .chan (some E.Ch), .tuple #[.slice none 0 0, .bool false], .bool false, u 20, u 21, u 22, u 23, u 24, u 25, u 26, u 27, u 28, u 29], defers := [] } : Act)) #[Operand.tmp 8] = #[.pointer (some ⟨E.Wg, 0, none⟩)] by simp [Act.eval]]
      exact goes_monoD (fun _ _ _ h => D0.da _ h) (wait_of O OC hF fun w₃ hk => ⟨u', hu'⟩)
  | cons b bs ih =>
    intro sent lv w u hn hF
    have T := termsA (E.cfg k FB (PA E Cv B fr cs)) sent
    rw [L12_eq]
    refine goes_ctl T rfl (fun w => stepG_seq) ?_
    refine goes_ctl T rfl (fun w => stepG_region) ?_
    simp only [Code.ops, L12, range12, aft12, body12, Code.core, Code.one, Code.two, Tryz.f118, Option.getD_some, List.size_toArray, List.length_cons, List.length_nil, Nat.reduceAdd, Nat.zero_add, List.range, List.range.loop, EAct]
    intro w₁ hR
    replace hF := hF.rely O hR
    clear hR
    refine ⟨rfl, .slice none 0 0, ?_, fun v w₂ hR hmsg => ?_⟩
    · show stepG Tryz.prog true _ w₁ = _
      rw [stepG_comm rfl (by rfl) (by decide) (cases := #[rcase E.Ch (.slice none 0 0)]) (blocking := true) (shape := .recv true) (w' := w₁) (by simp [go_sem, execOp, rcase, Act.eval, Tryz.runUnderlying261, Tryz.zeroValue57])]
      rw [listed_nil (by simp [go_sem, execOp, Act.eval, Tryz.runUnderlying261, Tryz.zeroValue57])]
      rfl
    · replace hF := hF.rely O hR
      clear hR
      obtain ⟨r, hr1, rfl, hr2⟩ := hmsg
      have T' := termsA (E.cfg k FB (PA E Cv B fr cs)) (sent ++ [(b, .slice (some ⟨r, 0, none⟩) b.length b.length)])
      simp only [List.length_cons] at hn
      obtain ⟨nf, hg⟩ := gath_c (k := k) (FB := FB) (PostA := PA E Cv B fr cs) (sent := sent ++ [(b, .slice (some ⟨r, 0, none⟩) b.length b.length)]) (vs := sent.map (·.2)) O (by simp; omega)
      refine (arecvs_iff _ _ _ _ _).2 ⟨5 + nf + 3 + 14, ?_⟩
      rw [served_at rfl]
      show Goes Tryz.prog true (RA (E.cfg k FB (PA E Cv B fr cs)) (sent ++ [(b, .slice (some ⟨r, 0, none⟩) b.length b.length)])) (DA (E.cfg k FB (PA E Cv B fr cs))) _ _ _ _
      refine goes_op rfl (by rfl) (by decide) fun w₁ hR K' hK => ?_
      replace hF := hF.rely O hR
      clear hR
      try walk_nrm
      go_simp
      refine hK _ _ ⟨by co_quiet T', ?_⟩
      clear hK K'
      try walk_nrm
      refine goes_ctl T' rfl (fun w => stepG_region_end) ?_
      refine goes_ctl T' rfl (fun w => stepG_seq) ?_
      refine goes_ctl T' rfl (fun w => stepG_cond (t := true) rfl) ?_
      refine goes_ctl T' rfl (fun w => stepG_skip) ?_
      refine goes_ctl T' rfl (fun w => stepG_block) ?_
      refine goes_ctl T' rfl (fun w => stepG_seq) ?_
      refine goes_ctl T' rfl (fun w => stepG_region) ?_
      simp only [List.size_toArray, List.length_cons, List.length_nil, Nat.reduceAdd, Nat.zero_add, List.range, List.range.loop]
      refine goes_op rfl (by rfl) (by decide) fun w₁ hR K' hK => ?_
      replace hF := hF.rely O hR
      clear hR
      go_simp
      refine hK _ _ ⟨by co_quiet T', ?_⟩
      clear hK K'
      try walk_nrm
      refine goes_op rfl (by rfl) (by decide) fun w₁ hR K' hK => ?_
      replace hF := hF.rely O hR
      clear hR
      go_simp
      refine hK _ _ ⟨by co_quiet T', ?_⟩
      clear hK K'
      try walk_nrm
      refine goes_ctl T' rfl (fun w => stepG_region_end) ?_
      refine goes_ctl T' rfl (fun w => stepG_region) ?_
      simp only [List.size_toArray, List.length_cons, List.length_nil, Nat.reduceAdd, Nat.zero_add, List.range, List.range.loop]
      refine goes_op rfl (by rfl) (by decide) fun w₁ hR K' hK => ?_
      replace hF := hF.rely O hR
      clear hR
      go_simp
      refine hK _ _ ⟨by co_quiet T', ?_⟩
      clear hK K'
      try walk_nrm
      refine goes_op rfl (by rfl) (by decide) fun w₁ hR K' hK => ?_
      replace hF := hF.rely O hR
      clear hR
      go_simp
      refine hK _ _ ⟨by co_quiet T', ?_⟩
      clear hK K'
      try walk_nrm
      refine goes_callV (f := 139) (args := #[.slice (some ⟨r, 0, none⟩) b.length b.length, .pointer (some ⟨E.Vb, 0, none⟩)]) T' rfl (by rfl) (by decide) (fun w => ?_) (fun w => ?_) (hg _ _ _ _ _ hF) ?_
      · simp [go_sem, execOp, resolve, Deferred.ofValue, Act.eval, clo, invoke, callFunc, Tryz.func139, Tryz.f139]
      · simp [go_sem, execOp, resolve, Deferred.ofValue, Act.eval, clo, invoke, callFunc, Tryz.func139, Tryz.f139]
      · rintro x w' ⟨rfl, lv', hG⟩
        try walk_nrm
        refine goes_ctl T' rfl (fun w => stepG_region_end) ?_
        refine goes_ctl T' rfl (fun w => stepG_inBlock) ?_
        refine goes_ctl T' rfl (fun w => stepG_inLoop) ?_
        obtain ⟨u', hu'⟩ := eact_of (s2 := clo E.Vb) (s3 := .pointer (some ⟨Cv, 0, none⟩)) (s7 := .pointer (some ⟨B, 0, none⟩)) (s8 := .pointer (some ⟨E.Wg, 0, none⟩)) (s17 := .chan (some E.Ch)) { tmps := #[u 0, u 1, clo E.Vb, .pointer (some ⟨Cv, 0, none⟩), u 4, u 5, u 6, .pointer (some ⟨B, 0, none⟩), .pointer (some ⟨E.Wg, 0, none⟩), .slice (some ⟨r, 0, none⟩) b.length b.length, u 10, u 11, u 12, u 13, u 14, u 15, u 16, .chan (some E.Ch), .tuple #[.slice (some ⟨r, 0, none⟩) b.length b.length, .bool true], .bool true, .slice (some ⟨r, 0, none⟩) b.length b.length, clo E.Vb, .slice (some ⟨r, 0, none⟩) b.length b.length, .tuple #[], u 24, u 25, u 26, u 27, u 28, u 29], defers := [] } rfl
        have hi := ih (sent ++ [(b, .slice (some ⟨r, 0, none⟩) b.length b.length)]) lv' w' u' (by simp; omega) (by simpa using hG)
        rw [← hu'] at hi
        exact hi

end
end Go.Proofs.YtlghcldiboecoaaGreatDoor.Cu

/- Each, up to its go statement. -/
set_option maxRecDepth 100000
namespace Go.Pair
open Go Go.Conc
structure PV (w0 : World) (os : List Obj) (w : World) : Prop where
  size : w.heap.size = w0.heap.size + os.length
  old : ∀ i, i < w0.heap.size → w.heap[i]? = w0.heap[i]?
  new : ∀ j o, os[j]? = some o → w.heap[w0.heap.size + j]? = some o

section
variable {w0 w w₁ : World} {os : List Obj}
theorem PV.start (w : World) : PV w [] w := ⟨rfl, fun _ _ => rfl, fun j o h => by simp at h⟩
theorem PV.rely (h : PV w0 os w) (r : AtRel w w₁) : PV w0 os w₁ := by
  obtain ⟨d, rfl⟩ := r
  exact ⟨h.size, h.old, h.new⟩

theorem PV.push (h : PV w0 os w) (o : Obj) : PV w0 (os ++ [o]) (w.alloc o) := by
  have hh : (w.alloc o).heap = w.heap.push o := rfl
  refine ⟨by rw [hh, Array.size_push, h.size]; simp; omega, fun i hi => ?_, fun j x hx => ?_⟩
  · rw [hh, Array.getElem?_push, if_neg (by have := h.size; omega)]
    exact h.old i hi
  · rcases Nat.lt_or_ge j os.length with hj | hj
    · rw [List.getElem?_append_left hj] at hx
      rw [hh, Array.getElem?_push, if_neg (by have := h.size; omega)]
      exact h.new j x hx
    · rw [List.getElem?_append_right hj] at hx
      have hj0 : j - os.length = 0 := by
        have := (List.getElem?_eq_some_iff.1 hx).1
        simp at this
        omega
      rw [hj0] at hx
      simp at hx
      rw [hh, Array.getElem?_push, if_pos (by have := h.size; omega), hx]

theorem PV.set (h : PV w0 os w) {j i : Nat} {cur : Array Value} {t : TypeId} (ho : os[j]? = some (.cells cur t)) (x : Value) : PV w0 (os.set j (.cells (cur.setIfInBounds i x) t)) (w.setCell ⟨w0.heap.size + j, i, none⟩ x) := by
  refine ⟨by rw [set_size, h.size]; simp, fun k hk => by rw [set_other _ _ (show k ≠ w0.heap.size + j by omega)]; exact h.old k hk, fun k o hk => ?_⟩
  by_cases e : k = j
  · subst e
    have hlt := (List.getElem?_eq_some_iff.1 ho).1
    rw [List.getElem?_set_self hlt] at hk
    cases hk
    rw [setCell_row (h.new k _ ho)]
  · rw [List.getElem?_set_ne (by omega)] at hk
    rw [set_other _ _ (show w0.heap.size + k ≠ w0.heap.size + j by omega)]
    exact h.new k o hk

theorem PV.cell (h : PV w0 os w) {j i : Nat} {cur : Array Value} {t : TypeId} {x : Value} (ho : os[j]? = some (.cells cur t)) (hx : cur[i]? = some x) : w.cell? ⟨w0.heap.size + j, i, none⟩ = some x := by
  simp [World.cell?, h.new j _ ho, hx]

theorem PV.fz (h : PV w0 os w) {j i : Nat} {cur : Array Value} {t : TypeId} (ho : os[j]? = some (.cells cur t)) : w.frozen? ⟨w0.heap.size + j, i, none⟩ = false := by
  simp [World.frozen?, h.new j _ ho]

theorem PV.cellOld (h : PV w0 os w) {i j : Nat} {cur : Array Value} {t : TypeId} {x : Value} (ho : w0.heap[i]? = some (.cells cur t)) (hx : cur[j]? = some x) : w.cell? ⟨i, j, none⟩ = some x := by
  have := h.old i (lt_of_get ho)
  rw [ho] at this
  simp [World.cell?, this, hx]

end
end Go.Pair
namespace Go.Proofs.YtlghcldiboecoaaGreatDoor.Cu
open Go Go.Conc Go.Pair Go.RowKit

def ShunW (Shun : Loc → Prop) (w : World) : Prop := ∀ l, Shun l → ∃ a : Addr, l = .cell a ∧ kindAt w a.block 271

theorem ShunW.not {Shun : Loc → Prop} {w : World} (h : ShunW Shun w) {i j : Nat} {o : Obj} (ho : w.heap[i]? = some o) (hk : kindOf o ≠ some 271) : ¬ Shun (.cell ⟨i, j, none⟩) := fun hs => by
  obtain ⟨a, e, o', h1, h2⟩ := h _ hs
  cases e
  rw [ho] at h1
  cases h1
  exact hk h2

theorem ShunW.new {Shun : Loc → Prop} {w : World} (h : ShunW Shun w) {i j : Nat} (hi : w.heap.size ≤ i) : ¬ Shun (.cell ⟨i, j, none⟩) := fun hs => by
  obtain ⟨a, e, o', h1, h2⟩ := h _ hs
  cases e
  have := lt_of_get h1
  simp at this
  omega

section
variable {Post : Value → World → Prop} {Shun : Loc → Prop} {w w₁ : World} {fr : Frame} {cs : List Frame} {R Vb : Nat} {v bsl : Value}

theorem ds_alloc (w : World) (o : Obj) : DS Shun w (w.alloc o) #[] := ⟨by show w.heap.size ≤ (w.heap.push o).size; rw [Array.size_push]; omega, by simp, rfl, rfl⟩
theorem ds_read {w : World} {es : Array Event} (h : ∀ e ∈ es, EvL Shun w.heap.size e) : DS Shun w w es := ⟨Nat.le_refl _, h, rfl, rfl⟩
theorem ds_set {w : World} {a : Addr} {x : Value} {es : Array Event} (h : ∀ e ∈ es, EvL Shun w.heap.size e) : DS Shun w (w.setCell a x) es := ⟨by rw [set_size]; exact Nat.le_refl _, by rw [set_size]; exact h, rfl, rfl⟩

theorem un49 : ∃ d, Tryz.prog.underlying 261 = some (.chan d 57) := ⟨_, Tryz.underlying261⟩
theorem mk49 (w : World) : (Instr.makeChan 261 (.int .i64 0)).run Tryz.prog w = .ok (.chan (some w.heap.size)) (w.alloc (.chan 0 #[] false 0 0 false)) := by
  obtain ⟨d, hd⟩ := un49
  obtain ⟨i0, hi, hz0, hz1, hz2⟩ := info25
  exact run_makeChan hd hi .i64 0 (by omega) (by omega)

theorem mk49e (w : World) (es : Array Event) : (Instr.makeChan 261 (.int .i64 0)).events Tryz.prog w es = es := by
  obtain ⟨d, hd⟩ := un49
  obtain ⟨i0, hi, hz0, hz1, hz2⟩ := info25
  exact events_makeChan hd hi .i64 0 (by omega) (by omega) es

noncomputable def A12 (R N Vb : Nat) (bsl x15 : Value) : Act :=
  { tmps := #[.pointer (some ⟨R, 0, none⟩), bsl, clo Vb, .pointer (some ⟨N, 0, none⟩), .pointer (some ⟨N + 1, 0, none⟩), undef, .bool false, .pointer (some ⟨N + 3, 0, none⟩), .pointer (some ⟨N + 4, 0, none⟩), undef, .pointer (some ⟨R, 0, none⟩), .pointer (some ⟨R, 0, none⟩), .pointer (some ⟨R, 1, none⟩), .bool false, .chan (some (N + 2)), x15, undef, undef, undef, undef, undef, undef, undef, undef, undef, undef, undef, undef, undef, undef], defers := [] }

noncomputable def r5 : Code := Code.one (Code.two (Code.two (Code.two (Code.two body12))))
noncomputable def aft5 : Code := Code.two (Code.two (Code.two (Code.two (Code.two body12))))
noncomputable def ops5 : Array Oper := Code.ops r5
def fresh5 (R N : Nat) (bsl : Value) (st : Int) : List Obj := [.cells #[.pointer (some ⟨R, 0, none⟩)] 260, .cells #[bsl] 57, .chan 0 #[] false 0 0 false, .cells #[.chan (some (N + 2))] 261, wgO 271 st 0]

set_option maxRecDepth 100000 in
set_option maxHeartbeats 1000000 in
theorem each_closed (hS : ShunW Shun w) (hr : w.heap[R]? = some (.cells #[v, .bool true] 237)) {ba : Option Addr} {bl cap : Nat}
    (hnext : ∀ w', PV w [.cells #[.pointer (some ⟨R, 0, none⟩)] 260, .cells #[.slice ba bl cap] 57] w' → EA Tryz.prog Post Shun (G (fr.finish (.bool false)) cs) w') :
    EA Tryz.prog Post Shun (G ((base 118).at { tmps := #[.pointer (some ⟨R, 0, none⟩), .slice ba bl cap, clo Vb] ++ Array.replicate 27 undef, defers := [] } [.code body12]) (fr :: cs)) w := by
  have T := termsS Shun
  have hF := PV.start w
  generalize hw0 : w = w0 at hS hr hnext
  rw [hw0] at hF
  refine EA.goes (n := 30) ?_
  simp only [Array.replicate_succ, Array.replicate_zero, List.push_toArray, List.append_toArray, List.nil_append, List.cons_append]
  simp only [body12, Tryz.f118, Option.getD_some]
  refine goes_ctl T rfl (fun _ => stepG_seq) ?_
  refine goes_ctl T rfl (fun _ => stepG_region) ?_
  simp only [List.size_toArray, List.length_cons, List.length_nil, Nat.reduceAdd, Nat.zero_add, List.range, List.range.loop]
  refine goes_op rfl (by rfl) (by decide) fun _ hRz Kz hKz => ?_
  replace hF := PV.rely hF hRz
  clear hRz
  (skip)
  go_simp
  try (unfold stored; go_simp)
  refine hKz _ _ ⟨?_, ?_⟩
  · (rw [listed_nil (by simp [go_sem])]; exact ds_alloc _ _)
  clear hKz Kz
  try walk_nrm
  simp only [hF.size, List.length_nil, Nat.add_zero]
  replace hF := hF.push (.cells #[.pointer (some ⟨R, 0, none⟩)] 260)
  refine goes_op rfl (by rfl) (by decide) fun _ hRz Kz hKz => ?_
  replace hF := PV.rely hF hRz
  clear hRz
  (skip)
  go_simp
  try (unfold stored; go_simp)
  refine hKz _ _ ⟨?_, ?_⟩
  · (rw [listed_nil (by simp [go_sem])]; exact ds_alloc _ _)
  clear hKz Kz
  try walk_nrm
  simp only [hF.size, List.length_nil, List.nil_append, List.length_cons, Nat.zero_add]
  replace hF := hF.push (.cells #[.slice ba bl cap] 57)
  simp only [List.nil_append, List.cons_append] at hF
  refine goes_op rfl (by rfl) (by decide) fun _ hRz Kz hKz => ?_
  replace hF := PV.rely hF hRz
  clear hRz
  (skip)
  go_simp
  try (unfold stored; go_simp)
  refine hKz _ _ ⟨?_, ?_⟩
  · (co_quiet T)
  clear hKz Kz
  try walk_nrm
  refine goes_ctl T rfl (fun _ => stepG_region_end) ?_
  refine goes_ctl T rfl (fun _ => stepG_seq) ?_
  refine goes_ctl T rfl (fun _ => stepG_seq) ?_
  refine goes_ctl T rfl (fun _ => stepG_region) ?_
  simp only [List.size_toArray, List.length_cons, List.length_nil, Nat.reduceAdd, Nat.zero_add, List.range, List.range.loop]
  have e0 : w0.heap.size + 0 = w0.heap.size := rfl
  refine goes_op rfl (by rfl) (by decide) fun _ hRz Kz hKz => ?_
  replace hF := PV.rely hF hRz
  clear hRz
  (have hc := hF.cell (j := 0) (i := 0) rfl rfl; rw [e0] at hc)
  go_simp
  try (unfold stored; go_simp)
  refine hKz _ _ ⟨?_, ?_⟩
  · (refine ds_read ?_; co_evs (exact evL_cell (hS.new (Nat.le_refl _)) (by have := hF.size; simp at this; show _ < _; simp; omega)))
  clear hKz Kz
  try walk_nrm
  clear hc
  refine goes_op rfl (by rfl) (by decide) fun _ hRz Kz hKz => ?_
  replace hF := PV.rely hF hRz
  clear hRz
  (skip)
  go_simp
  try (unfold stored; go_simp)
  refine hKz _ _ ⟨?_, ?_⟩
  · (co_quiet T)
  clear hKz Kz
  try walk_nrm
  refine goes_op rfl (by rfl) (by decide) fun _ hRz Kz hKz => ?_
  replace hF := PV.rely hF hRz
  clear hRz
  (skip)
  go_simp
  try (unfold stored; go_simp)
  refine hKz _ _ ⟨?_, ?_⟩
  · (co_quiet T)
  clear hKz Kz
  try walk_nrm
  refine goes_op rfl (by rfl) (by decide) fun _ hRz Kz hKz => ?_
  replace hF := PV.rely hF hRz
  clear hRz
  (have hc := hF.cellOld (j := 1) hr rfl)
  go_simp
  try (unfold stored; go_simp)
  refine hKz _ _ ⟨?_, ?_⟩
  · (refine ds_read ?_; co_evs (exact evL_cell (hS.not hr (by simp [kindOf])) (by have := hF.size; have := lt_of_get hr; show _ < _; simp; omega)))
  clear hKz Kz
  try walk_nrm
  clear hc
  refine goes_ctl T rfl (fun _ => stepG_region_end) ?_
  refine goes_ctl T rfl (fun _ => (stepG_cond (t := true) rfl)) ?_
  simp only [if_true]
  refine goes_ctl T rfl (fun _ => stepG_seq) ?_
  refine goes_ctl T rfl (fun _ => stepG_region) ?_
  simp only [List.size_toArray, List.length_cons, List.length_nil, Nat.reduceAdd, Nat.zero_add, List.range, List.range.loop]
  refine goes_op rfl (by rfl) (by decide) fun _ hRz Kz hKz => ?_
  replace hF := PV.rely hF hRz
  clear hRz
  (skip)
  go_simp
  try (unfold stored; go_simp)
  refine hKz _ _ ⟨?_, ?_⟩
  · (co_quiet T)
  clear hKz Kz
  try walk_nrm
  refine goes_ctl T rfl (fun _ => stepG_region_end) ?_
  refine goes_ctl T rfl (fun _ => stepG_ret') ?_
  refine goes_ctl T rfl (fun w => stepG_leave (v := .bool false) rfl rfl Tryz.func118 (results_tmp (t := 6) (by rfl) _ _ _) (events_results_tmp (t := 6) (by rfl) _ _)) ?_
  exact EA.stop (hnext _ hF)

set_option maxRecDepth 100000 in
set_option maxHeartbeats 1000000 in
theorem each_open (hS : ShunW Shun w) (hr : w.heap[R]? = some (.cells #[v, .bool false] 237)) {ba : Option Addr} {bl cap : Nat}
    (hnext : ∀ w', PV w (fresh5 R w.heap.size (.slice ba bl cap) 0) w' → EA Tryz.prog Post Shun (G ((base 118).at (A12 R w.heap.size Vb (.slice ba bl cap) undef) [.inRegion ops5 [0], .code aft5]) (fr :: cs)) w') :
    EA Tryz.prog Post Shun (G ((base 118).at { tmps := #[.pointer (some ⟨R, 0, none⟩), .slice ba bl cap, clo Vb] ++ Array.replicate 27 undef, defers := [] } [.code body12]) (fr :: cs)) w := by
  have T := termsS Shun
  have hF := PV.start w
  generalize hw0 : w = w0 at hS hr hnext
  rw [hw0] at hF
  refine EA.goes (n := 30) ?_
  simp only [Array.replicate_succ, Array.replicate_zero, List.push_toArray, List.append_toArray, List.nil_append, List.cons_append]
  simp only [body12, Tryz.f118, Option.getD_some]
  refine goes_ctl T rfl (fun _ => stepG_seq) ?_
  refine goes_ctl T rfl (fun _ => stepG_region) ?_
  simp only [List.size_toArray, List.length_cons, List.length_nil, Nat.reduceAdd, Nat.zero_add, List.range, List.range.loop]
  refine goes_op rfl (by rfl) (by decide) fun _ hRz Kz hKz => ?_
  replace hF := PV.rely hF hRz
  clear hRz
  (skip)
  go_simp
  try (unfold stored; go_simp)
  refine hKz _ _ ⟨?_, ?_⟩
  · (rw [listed_nil (by simp [go_sem])]; exact ds_alloc _ _)
  clear hKz Kz
  try walk_nrm
  simp only [hF.size, List.length_nil, Nat.add_zero]
  replace hF := hF.push (.cells #[.pointer (some ⟨R, 0, none⟩)] 260)
  refine goes_op rfl (by rfl) (by decide) fun _ hRz Kz hKz => ?_
  replace hF := PV.rely hF hRz
  clear hRz
  (skip)
  go_simp
  try (unfold stored; go_simp)
  refine hKz _ _ ⟨?_, ?_⟩
  · (rw [listed_nil (by simp [go_sem])]; exact ds_alloc _ _)
  clear hKz Kz
  try walk_nrm
  simp only [hF.size, List.length_nil, List.nil_append, List.length_cons, Nat.zero_add]
  replace hF := hF.push (.cells #[.slice ba bl cap] 57)
  simp only [List.nil_append, List.cons_append] at hF
  refine goes_op rfl (by rfl) (by decide) fun _ hRz Kz hKz => ?_
  replace hF := PV.rely hF hRz
  clear hRz
  (skip)
  go_simp
  try (unfold stored; go_simp)
  refine hKz _ _ ⟨?_, ?_⟩
  · (co_quiet T)
  clear hKz Kz
  try walk_nrm
  refine goes_ctl T rfl (fun _ => stepG_region_end) ?_
  refine goes_ctl T rfl (fun _ => stepG_seq) ?_
  refine goes_ctl T rfl (fun _ => stepG_seq) ?_
  refine goes_ctl T rfl (fun _ => stepG_region) ?_
  simp only [List.size_toArray, List.length_cons, List.length_nil, Nat.reduceAdd, Nat.zero_add, List.range, List.range.loop]
  have e0 : w0.heap.size + 0 = w0.heap.size := rfl
  refine goes_op rfl (by rfl) (by decide) fun _ hRz Kz hKz => ?_
  replace hF := PV.rely hF hRz
  clear hRz
  (have hc := hF.cell (j := 0) (i := 0) rfl rfl; rw [e0] at hc)
  go_simp
  try (unfold stored; go_simp)
  refine hKz _ _ ⟨?_, ?_⟩
  · (refine ds_read ?_; co_evs (exact evL_cell (hS.new (Nat.le_refl _)) (by have := hF.size; simp at this; show _ < _; simp; omega)))
  clear hKz Kz
  try walk_nrm
  clear hc
  refine goes_op rfl (by rfl) (by decide) fun _ hRz Kz hKz => ?_
  replace hF := PV.rely hF hRz
  clear hRz
  (skip)
  go_simp
  try (unfold stored; go_simp)
  refine hKz _ _ ⟨?_, ?_⟩
  · (co_quiet T)
  clear hKz Kz
  try walk_nrm
  refine goes_op rfl (by rfl) (by decide) fun _ hRz Kz hKz => ?_
  replace hF := PV.rely hF hRz
  clear hRz
  (skip)
  go_simp
  try (unfold stored; go_simp)
  refine hKz _ _ ⟨?_, ?_⟩
  · (co_quiet T)
  clear hKz Kz
  try walk_nrm
  refine goes_op rfl (by rfl) (by decide) fun _ hRz Kz hKz => ?_
  replace hF := PV.rely hF hRz
  clear hRz
  (have hc := hF.cellOld (j := 1) hr rfl)
  go_simp
  try (unfold stored; go_simp)
  refine hKz _ _ ⟨?_, ?_⟩
  · (refine ds_read ?_; co_evs (exact evL_cell (hS.not hr (by simp [kindOf])) (by have := hF.size; have := lt_of_get hr; show _ < _; simp; omega)))
  clear hKz Kz
  try walk_nrm
  clear hc
  refine goes_ctl T rfl (fun _ => stepG_region_end) ?_
  refine goes_ctl T rfl (fun _ => (stepG_cond (t := false) rfl)) ?_
  simp only [Bool.false_eq_true, if_false]
  refine goes_ctl T rfl (fun _ => stepG_skip) ?_
  refine goes_ctl T rfl (fun _ => stepG_seq) ?_
  refine goes_ctl T rfl (fun _ => stepG_region) ?_
  simp only [List.size_toArray, List.length_cons, List.length_nil, Nat.reduceAdd, Nat.zero_add, List.range, List.range.loop]
  refine goes_op rfl (by rfl) (by decide) fun _ hRz Kz hKz => ?_
  replace hF := PV.rely hF hRz
  clear hRz
  (have hmc := mk49; have hme := mk49e)
  go_simp
  try (unfold stored; go_simp)
  refine hKz _ _ ⟨?_, ?_⟩
  · (rw [listed_nil (by simp [go_sem, hme])]; exact ds_alloc _ _)
  clear hKz Kz
  try walk_nrm
  clear hmc hme
  simp only [hF.size, List.length_nil, List.length_cons, Nat.zero_add, Nat.reduceAdd]
  replace hF := hF.push (.chan 0 #[] false 0 0 false)
  simp only [List.nil_append, List.cons_append] at hF
  refine goes_op rfl (by rfl) (by decide) fun _ hRz Kz hKz => ?_
  replace hF := PV.rely hF hRz
  clear hRz
  (skip)
  go_simp
  try (unfold stored; go_simp)
  refine hKz _ _ ⟨?_, ?_⟩
  · (rw [listed_nil (by simp [go_sem])]; exact ds_alloc _ _)
  clear hKz Kz
  try walk_nrm
  simp only [hF.size, List.length_nil, List.length_cons, Nat.zero_add, Nat.reduceAdd]
  replace hF := hF.push (.cells #[.chan none] 261)
  simp only [List.nil_append, List.cons_append] at hF
  refine goes_op rfl (by rfl) (by decide) fun _ hRz Kz hKz => ?_
  replace hF := PV.rely hF hRz
  clear hRz
  (have hc := hF.cell (j := 3) (i := 0) rfl rfl; have hfz := hF.fz (j := 3) (i := 0) rfl)
  go_simp
  try (unfold stored; go_simp)
  refine hKz _ _ ⟨?_, ?_⟩
  · (refine ds_set ?_; co_evs (exact evL_cell (hS.new (by omega)) (by have := hF.size; simp at this; show _ < _; simp; omega)))
  clear hKz Kz
  try walk_nrm
  clear hc hfz
  replace hF := hF.set (j := 3) (i := 0) rfl (.chan (some (w0.heap.size + 2)))
  refine goes_ctl T rfl (fun _ => stepG_region_end) ?_
  refine goes_ctl T rfl (fun _ => stepG_seq) ?_
  refine goes_ctl T rfl (fun _ => stepG_region) ?_
  simp only [List.size_toArray, List.length_cons, List.length_nil, Nat.reduceAdd, Nat.zero_add, List.range, List.range.loop]
  refine goes_op rfl (by rfl) (by decide) fun _ hRz Kz hKz => ?_
  replace hF := PV.rely hF hRz
  clear hRz
  (skip)
  go_simp
  try (unfold stored; go_simp)
  refine hKz _ _ ⟨?_, ?_⟩
  · (rw [listed_nil (by simp [go_sem])]; exact ds_alloc _ _)
  clear hKz Kz
  try walk_nrm
  simp only [hF.size, List.length_nil, List.length_cons, List.length_set, Nat.zero_add, Nat.reduceAdd]
  replace hF := hF.push (wgO 271 0 0)
  refine goes_ctl T rfl (fun _ => stepG_region_end) ?_
  refine goes_ctl T rfl (fun _ => stepG_seq) ?_
  refine goes_ctl T rfl (fun w => stepG_region) ?_
  exact EA.stop (hnext _ hF)

end
end Go.Proofs.YtlghcldiboecoaaGreatDoor.Cu

/- Each: Add(1), the go statement, the pair, the end. -/
set_option maxRecDepth 100000
namespace Go.Proofs.YtlghcldiboecoaaGreatDoor.Cu
open Go Go.Conc Go.Pair Go.RowKit
section
variable {Post : Value → World → Prop} {Shun : Loc → Prop} {w w0 w₁ : World} {fr : Frame} {cs : List Frame} {R Vb : Nat} {v bsl : Value}

theorem termsD0 : Terms AtRel Pair.D0 := ⟨atRel_trans, fun w => ⟨rfl, rfl⟩⟩

theorem each_add (hF : PV w0 (fresh5 R w0.heap.size bsl 0) w)
    (hnext : ∀ w', PV w0 (fresh5 R w0.heap.size bsl KK) w' → EA Tryz.prog Post Shun (G ((base 118).at (A12 R w0.heap.size Vb bsl (.tuple #[])) [.inRegion ops5 [], .code aft5]) (fr :: cs)) w') :
    EA Tryz.prog Post Shun (G ((base 118).at (A12 R w0.heap.size Vb bsl undef) [.inRegion ops5 [0], .code aft5]) (fr :: cs)) w := by
  intro d
  have hP : PV w0 (fresh5 R w0.heap.size bsl 0) (w.at d) := hF.rely ⟨d, rfl⟩
  have hwg : WgIs 271 (w0.heap.size + 4) (w.at d) 0 0 := hP.new 4 _ rfl
  refine ends_add (Wg := w0.heap.size + 4) (Ret := G ((base 118).at (A12 R w0.heap.size Vb bsl (.tuple #[])) [.inRegion ops5 [], .code aft5]) (fr :: cs)) (lt_of_get hwg) (fun w' r => ?_) (n := 100 + 1) ?_
  · have := hP.set (j := 4) (i := 0) rfl (.int .u64 KK)
    exact (hnext _ (this.rely r)).from (by obtain ⟨e, rfl⟩ := r; exact ⟨rfl, rfl⟩)
  · refine Goes.step rfl fun w₁ r => goes_call (f := 158) (fn := Lib.addFn Tryz.link) (c := bodyAdd Tryz.link) rfl (by rfl) (by decide) rfl Tryz.wgLib.f_add (by rfl) (by rfl) ⟨termsD0.idle _, ?_⟩
    have e : Array.map (A12 R w0.heap.size Vb bsl undef).eval #[Operand.tmp 8, Operand.const (Value.int IntKind.i64 1)] = #[.pointer (some ⟨w0.heap.size + 4, 0, none⟩), .int .i64 1] := by simp [Act.eval, A12]
    rw [e]
    exact addPos Tryz.wgLib (Wg := w0.heap.size + 4) (b₀ := base 118) (a₀ := A12 R w0.heap.size Vb bsl undef) (ops₀ := ops5) (i₀ := 0) (rest₀ := []) (k₀ := [.code aft5]) (cs := fr :: cs) w₁ (wg_rel hwg r)

end
end Go.Proofs.YtlghcldiboecoaaGreatDoor.Cu
