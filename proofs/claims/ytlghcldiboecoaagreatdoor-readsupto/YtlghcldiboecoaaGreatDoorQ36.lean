/- Feed's function literal, in company. -/
import Derived.Test.YtlghcldiboecoaaGreatDoorQ35
import Derived.Great.BuildSlice
set_option linter.unusedVariables false
set_option linter.unusedSimpArgs false
set_option maxRecDepth 100000
namespace Go.Proofs.YtlghcldiboecoaaGreatDoor.Cu
open Go Go.Conc Go.Pair Go.RowKit

theorem fill_one (xa : Option Addr) (xl xc : Nat) : Instr.fill (fun i => some (i * 1, 1)) ((Array.range (1 * 1)).map ((Value.slice none 0 0).cells[· % (Value.slice none 0 0).cells.size]!)) [(0, .slice xa xl xc)] = some #[.slice xa xl xc] := by
  simp [Instr.fill, Value.cells, Array.range]
  rfl

theorem bs_run (w : World) (xa : Option Addr) (xl xc : Nat) : (Instr.buildSlice 122 1 #[(0, .slice xa xl xc)]).run Tryz.prog w = .ok (.slice (some ⟨w.heap.size, 0, none⟩) 1 1) (w.alloc (.cells #[.slice xa xl xc] 57)) := by
  obtain ⟨i0, hi, hz0, hz1, hz2⟩ := info25
  refine run_buildSlice w 122 57 1 _ _ i0 (.slice none 0 0) un29 hi hz0 (by rw [hz1]; omega) (by rw [hz1]; omega) ?_
  rw [hz1]
  exact fill_one xa xl xc

theorem bs_ev (w : World) (es : Array Event) (xa : Option Addr) (xl xc : Nat) : (Instr.buildSlice 122 1 #[(0, .slice xa xl xc)]).events Tryz.prog w es = es := by
  obtain ⟨i0, hi, hz0, hz1, hz2⟩ := info25
  have h1 := fill_one xa xl xc
  simp only [Nat.mul_one] at h1
  simp [Instr.buildSlice, go_sem, run_underlying un29, sizeOf, typeInfo, zeroValue, hi, hz0, hz1, newRow, Result.evThen]

section
variable {E : EP} {sent : List (List UInt8 × Value)} {vs : List Value} {lv : Value} {w w' w₁ : World} {k : Nat} {FB : List (List UInt8 × Value) → World → Prop} {PostA : List (List UInt8 × Value) → Goroutine → World → Prop}

theorem HView.c0 {lv' : Value} (h : HView E vs lv' lv w) : w.cell? ⟨E.Vb, 0, none⟩ = some lv := by simp [World.cell?, h.v]
theorem HView.fz {lv' : Value} (h : HView E vs lv' lv w) : w.frozen? ⟨E.Vb, 0, none⟩ = false := by simp [World.frozen?, h.v]
theorem evs_storeV (w : World) (h0 : w.cell? ⟨E.Vb, 0, none⟩ = some lv) (hfz : w.frozen? ⟨E.Vb, 0, none⟩ = false) (y : Value) (hy : y.oneCell' = true) : (store ⟨E.Vb, 0, none⟩ y).events Tryz.prog w #[] = #[⟨.cell ⟨E.Vb, 0, none⟩, true, false⟩] := by
  rw [events_store Tryz.prog w #[] ⟨E.Vb, 0, none⟩ y _ hy]
  simp [h0, hfz]

set_option maxRecDepth 100000 in
set_option maxHeartbeats 1000000 in
theorem gath_c (O : E.Ok) (hbig : vs.length + 1 ≤ 4294967296) : ∃ m, ∀ (xa : Option Addr) (xl xc : Nat) lv w, GView E vs lv w →
    CallsC Tryz.prog true (RA (E.cfg k FB PostA) sent) (DA (E.cfg k FB PostA)) 139 #[.slice xa xl xc, .pointer (some ⟨E.Vb, 0, none⟩)] m w fun x w' => x = .tuple #[] ∧ ∃ lv', GView E (vs ++ [.slice xa xl xc]) lv' w' := by
  have T := termsA (E.cfg k FB PostA) sent
  co_apply Exists.intro
  intro xa xl xc lv w hF
  co_apply callsC_of_wpC Tryz.func139 (by rfl) rfl
  simp only [Tryz.ntmps139, List.size_toArray, List.length_cons, List.length_nil, Nat.reduceAdd, Nat.reduceSub, Array.replicate_succ, Array.replicate_zero, List.push_toArray, List.append_toArray, List.nil_append, List.cons_append]
  co_reg T
  co_opw (GView.rely O) hF (have hc := hF.c0) (refine da_read ?_; co_evs (exact evV hF.v 0 false))
  clear hc
  co_op (GView.rely O) hF (co_quiet T)
  co_opw (GView.rely O) hF (have hbs := fun w => bs_run w xa xl xc; have hbe := fun w es => bs_ev w es xa xl xc) (rw [listed_nil (by simp [go_sem, hbe])]; exact da_push (o := .cells #[.slice xa xl xc] 57) O hF.low (by rfl) (by exact ⟨rfl, rfl, rfl⟩) (by simp))
  have hG := hF.alloc (.slice xa xl xc)
  rename_i wz
  generalize wz.heap.size = r at hG ⊢
  clear hF hbs hbe
  co_apply opsC_cons rfl (by rfl)
  intro w₁ hR
  replace hG := hG.rely O hR
  clear hR
  obtain ⟨v', w', hr, hA, hD⟩ := app_a (k := k) (FB := FB) (PostA := PostA) (c := 1) O hG rfl hbig
  refine uponK_append (.tmp 3) (.tmp 5) 122 rfl rfl rfl hr ⟨hD _ fun e he => ?_, ?_⟩
  · have hm := mem_listed he
    rw [events_append_op (.tmp 3) (.tmp 5) 122 rfl rfl rfl] at hm
    exact hm
  clear hr hD hG
  walk_nrm
  obtain ⟨a', c', rfl⟩ : ∃ a' c', v' = .slice a' (vs ++ [Value.slice xa xl xc]).length c' := by
    rcases hA.row with ⟨rfl, h⟩ | ⟨q, c, cells, h1, _⟩
    · exact ⟨none, 0, by rw [h]; rfl⟩
    · exact ⟨_, _, h1⟩
  generalize hL : (vs ++ [Value.slice xa xl xc]).length = L at *
  co_opw (HView.rely O) hA (have hc := hA.c0; have hfz := hA.fz; have hse := evs_storeV _ hc hfz (.slice a' L c') rfl) (refine da_setV O _ ?_; co_evs (exact evV (lv := .slice a' L c') (by rw [setCell_row hA.v]; rfl) 0 true))
  clear hc hfz hse
  co_apply opsC_nil T
  exact ⟨rfl, _, resultsC_none (by rfl) _, rfl, _, hA.store O⟩

end
end Go.Proofs.YtlghcldiboecoaaGreatDoor.Cu

/- Each's range over the channel: the caller's receives. -/
set_option linter.unusedVariables false
set_option linter.unusedSimpArgs false
set_option maxRecDepth 100000
namespace Go.Pair
open Go Go.Conc
/-- A call of a function value. -/
theorem goes_callV {P : Program} {main : Bool} {R : World → World → Prop} {D : World → World → Array Event → Prop} (T : Terms R D) {b : Frame} {a : Act} {k : List Item} {cs : List Frame} {w : World} {ops : Array Oper} {i : Nat} {rest : List Nat} {o : Oper} {f : FuncId} {args : Array Value}
    {nf m : Nat} {Post : Value → World → Prop} {Stop : Goroutine → World → Prop}
    (ho : ops[i]? = some o) (hw : Region.wanted o (yielded ops a.tmps) = true) (hk : b.kind ≠ .early) (hr : ∀ w, (execOp a.eval o).run P w = .ok (.enter f args) w) (he : ∀ w, (execOp a.eval o).events P w #[] = #[])
    (hcall : CallsC P main R D f args nf w Post)
    (hnext : ∀ v w', Post v w' → Goes P main R D Stop m (G (b.at (a.put o.dst v) (.inRegion ops rest :: k)) cs) w') :
    Goes P main R D Stop (m + nf + 3) (G (b.at a (.inRegion ops (i :: rest) :: k)) cs) w := by
  obtain ⟨fn, c, hf, hname, hbody, hwp⟩ := hcall
  have hfin : ∀ v, (b.at a (.inRegion ops (i :: rest) :: k)).finish v = b.at (a.put o.dst v) (.inRegion ops rest :: k) := fun v => by rw [Frame.finish_at, ho]; rfl
  have hleave : ∀ (a' : Act) (w' : World) (todo : List Item), (a'.defers = [] ∧ ∃ v, ResultsC P fn a'.tmps v ∧ Post v w') →
      Goes P main R D Stop (m + 1) (G { (base f).at a' todo with mode := .returning } (b.at a (.inRegion ops (i :: rest) :: k) :: cs)) w' := by
    rintro a' w' todo ⟨hd, v, hr, hp⟩
    refine Goes.step rfl fun w₁ h₁ => ?_
    rw [stepG_leave (b := base f) rfl hd hf (hr w₁).1 (hr w₁).2, hfin]
    exact ⟨T.idle _, (hnext v w' hp).rely T.trans h₁⟩
  have hbodyG : Goes P main R D Stop (m + 2 + nf) (G ((base f).at { tmps := args ++ Array.replicate (fn.ntmps - args.size) undef, defers := [] } [.code c]) (b.at a (.inRegion ops (i :: rest) :: k) :: cs)) w := by
    refine hwp (base f) [] _ Stop (m + 2) rfl (by simp [base]) fun e a' w' q => ?_
    cases e with
    | normal => exact Goes.step rfl fun w₁ h₁ => by rw [stepG_end]; exact ⟨T.idle _, (hleave a' w' [] q).rely T.trans h₁⟩
    | ret => exact fun todo => (hleave a' w' todo q).more
    | exit id => exact q.elim
    | goto l => exact q.elim
    | panic ch => exact q.elim
    | outgrown => exact q.elim
  have e : m + nf + 3 = (m + 2 + nf) + 1 := by omega
  rw [e]
  refine Goes.step rfl fun w₁ h₁ => ?_
  rw [stepG_enter ho hw hk (hr w₁), listed_nil (he w₁), enter_at args hf hbody]
  exact ⟨T.idle _, hbodyG.rely T.trans h₁⟩

end Go.Pair
namespace Go.Proofs.YtlghcldiboecoaaGreatDoor.Cu
open Go Go.Conc Go.Pair Go.RowKit

noncomputable def body12 : Code := Tryz.f118.body.getD .skip
/-- Behind the go statement. -/
noncomputable def aft12 : Code := Code.two (Code.two (Code.two (Code.two (Code.two (Code.two body12)))))

noncomputable def range12 : Code := Code.one aft12
noncomputable def end12 : Code := Code.two aft12
noncomputable def L12 : Code := Code.core (Code.core (Code.two range12))
noncomputable def LK12 : List Item := [.inLoop L12, .inBlock 0, .code end12]
noncomputable def Code.ops : Code → Array Oper | .region _ ops _ => ops | _ => #[]
noncomputable def ops11 : Array Oper := Code.ops (Code.one end12)

/-- Each's slots. -/
noncomputable def EAct (s2 s3 s7 s8 s17 : Value) (u : Nat → Value) : Act :=
  { tmps := #[u 0, u 1, s2, s3, u 4, u 5, u 6, s7, s8, u 9, u 10, u 11, u 12, u 13, u 14, u 15, u 16, s17, u 18, u 19, u 20, u 21, u 22, u 23, u 24, u 25, u 26, u 27, u 28, u 29], defers := [] }

theorem eact_of {s2 s3 s7 s8 s17 : Value} (a : Act) (h : a = EAct s2 s3 s7 s8 s17 fun i => a.tmps.getD i undef) : ∃ u, a = EAct s2 s3 s7 s8 s17 u := ⟨_, h⟩

def clo (V : Nat) : Value := .func (.func 139) #[] #[.pointer (some ⟨V, 0, none⟩)]
/-- What the caller knows when it has waited. -/
def PA (E : EP) (Cv B : Nat) (fr : Frame) (cs : List Frame) (sent : List (List UInt8 × Value)) (g : Goroutine) (w : World) : Prop :=
  ∃ lv, GView E (sent.map (·.2)) lv w ∧ ∃ u n, Goes Tryz.prog true AtRel Pair.D0 (fun g _ => g = G ((base 118).at (EAct (clo E.Vb) (.pointer (some ⟨Cv, 0, none⟩)) (.pointer (some ⟨B, 0, none⟩)) (.pointer (some ⟨E.Wg, 0, none⟩)) (.chan (some E.Ch)) u) [.inRegion ops11 [], .code (Code.two end12)]) (fr :: cs)) n g w

section
variable {E : EP} {sent : List (List UInt8 × Value)} {vs : List Value} {lv : Value} {w w' w₁ : World} {k : Nat} {FB : List (List UInt8 × Value) → World → Prop} {Cv B : Nat} {fr : Frame} {cs : List Frame}

theorem L12_eq : L12 = .seq (.region 8 (Code.ops (Code.one L12)) false) (.seq (.cond (.tmp 19) .skip (.exit 0)) (.block 1 (.seq (.region 9 (Code.ops (Code.one (Code.core (Code.two (Code.two L12))))) false) (.region 10 (Code.ops (Code.two (Code.core (Code.two (Code.two L12))))) false)))) := rfl

theorem wait_of (O : E.Ok) (OC : (E.cfg k FB (PA E Cv B fr cs)).Ok) {a₀ : Act} (hF : GView E (sent.map (·.2)) lv w)
    (hu : ∀ w' : World, True → ∃ u, a₀.put (some 24) (.tuple #[]) = EAct (clo E.Vb) (.pointer (some ⟨Cv, 0, none⟩)) (.pointer (some ⟨B, 0, none⟩)) (.pointer (some ⟨E.Wg, 0, none⟩)) (.chan (some E.Ch)) u) :
    Goes Tryz.prog true (RA (E.cfg k FB (PA E Cv B fr cs)) sent) Pair.D0 (AKd (E.cfg k FB (PA E Cv B fr cs)) sent) 100 (G ((base 162).at ⟨#[.pointer (some ⟨E.Wg, 0, none⟩)] ++ Array.replicate ((Lib.waitFn Tryz.link).ntmps - 1) undef, []⟩ [.code (bodyWait Tryz.link)]) ((base 118).at a₀ (.inRegion ops11 [0] :: [.code (Code.two end12)]) :: fr :: cs)) w := by
  refine waitA (C := E.cfg k FB (PA E Cv B fr cs)) (sent := sent) OC Tryz.wgLib rfl (b₀ := base 118) (a₀ := a₀) (ops₀ := ops11) (i₀ := 0) (rest₀ := []) (k₀ := [.code (Code.two end12)]) (cs := fr :: cs) w hF.wg (fun g' w₃ hk hrun hgo => ?_)
  obtain ⟨nn, hgo⟩ := hgo
  obtain ⟨u', hu'⟩ := hu w trivial
  refine ⟨lv, hF.rely O hk.1, u', nn, ?_⟩
  rw [← hu']
  exact hgo

set_option maxRecDepth 100000 in
set_option maxHeartbeats 1000000 in
theorem recv_c (O : E.Ok) (OC : (E.cfg k FB (PA E Cv B fr cs)).Ok) : ∀ (bs : List (List UInt8)) (sent : List (List UInt8 × Value)) (lv : Value) (w : World) (u : Nat → Value), sent.length + bs.length ≤ 4294967296 → GView E (sent.map (·.2)) lv w →
    Goes Tryz.prog true (RA (E.cfg k FB (PA E Cv B fr cs)) sent) (DA (E.cfg k FB (PA E Cv B fr cs))) (AStop (E.cfg k FB (PA E Cv B fr cs)) bs sent) 2 (G ((base 118).at (EAct (clo E.Vb) (.pointer (some ⟨Cv, 0, none⟩)) (.pointer (some ⟨B, 0, none⟩)) (.pointer (some ⟨E.Wg, 0, none⟩)) (.chan (some E.Ch)) u) (.code L12 :: LK12)) (fr :: cs)) w := by
  intro bs
  induction bs with
  | nil =>
    intro sent lv w u hn hF
    have T := termsA (E.cfg k FB (PA E Cv B fr cs)) sent
    rw [L12_eq]
    refine goes_ctl T rfl (fun w => stepG_seq) ?_
    refine goes_ctl T rfl (fun w => stepG_region) ?_
    simp only [Code.ops, L12, range12, aft12, body12, Code.core, Code.one, Code.two, Tryz.f118, Option.getD_some, List.size_toArray, List.length_cons, List.length_nil, Nat.reduceAdd, Nat.zero_add, List.range, List.range.loop, EAct]
    intro w₁ hR
    replace hF := hF.rely O hR
    clear hR
    refine ⟨rfl, .slice none 0 0, ?_, fun w₂ hR => ?_⟩
    · show stepG Tryz.prog true _ w₁ = _
      rw [stepG_comm rfl (by rfl) (by decide) (cases := #[rcase E.Ch (.slice none 0 0)]) (blocking := true) (shape := .recv true) (w' := w₁) (by simp [go_sem, execOp, rcase, Act.eval, Tryz.runUnderlying261, Tryz.zeroValue57])]
      rw [listed_nil (by simp [go_sem, execOp, Act.eval, Tryz.runUnderlying261, Tryz.zeroValue57])]
      rfl
    · replace hF := hF.rely O hR
      clear hR
      refine ⟨100 + 8, ?_⟩
      rw [served_at rfl]
      show Goes Tryz.prog true (RA (E.cfg k FB (PA E Cv B fr cs)) sent) (DA (E.cfg k FB (PA E Cv B fr cs))) _ _ _ _
      refine goes_op rfl (by rfl) (by decide) fun w₁ hR K' hK => ?_
      replace hF := hF.rely O hR
      clear hR
      try walk_nrm
      go_simp
      refine hK _ _ ⟨by co_quiet T, ?_⟩
      clear hK K'
      try walk_nrm
      refine goes_ctl T rfl (fun w => stepG_region_end) ?_
      refine goes_ctl T rfl (fun w => stepG_seq) ?_
      refine goes_ctl T rfl (fun w => stepG_cond (t := false) rfl) ?_
      refine goes_ctl T rfl (fun w => stepG_exit (k' := [.code end12]) rfl) ?_
      rw [show end12 = .seq (.region 11 ops11 false) (Code.two end12) from rfl]
      refine goes_ctl T rfl (fun w => stepG_seq) ?_
      refine goes_ctl T rfl (fun w => stepG_region) ?_
      rw [show List.range ops11.size = [0] from rfl]
      refine Goes.step rfl fun w₂ hR => goes_call (f := 162) (fn := Lib.waitFn Tryz.link) (c := bodyWait Tryz.link) rfl (by rfl) (by decide) rfl Tryz.wgLib.f_wait (by rfl) (by rfl) ⟨T.idle _, ?_⟩
      replace hF := hF.rely O hR
      clear hR
      obtain ⟨u', hu'⟩ := eact_of (s2 := clo E.Vb) (s3 := .pointer (some ⟨Cv, 0, none⟩)) (s7 := .pointer (some ⟨B, 0, none⟩)) (s8 := .pointer (some ⟨E.Wg, 0, none⟩)) (s17 := .chan (some E.Ch)) { tmps := #[u 0, u 1, clo E.Vb, .pointer (some ⟨Cv, 0, none⟩), u 4, u 5, u 6, .pointer (some ⟨B, 0, none⟩), .pointer (some ⟨E.Wg, 0, none⟩), u 9, u 10, u 11, u 12, u 13, u 14, u 15, u 16, .chan (some E.Ch), .tuple #[.slice none 0 0, .bool false], .bool false, u 20, u 21, u 22, u 23, .tuple #[], u 25, u 26, u 27, u 28, u 29], defers := [] } rfl
      rw [show Array.map (Act.eval ({ tmps := #[u 0, u 1, clo E.Vb, .pointer (some ⟨Cv, 0, none⟩), u 4, u 5, u 6, .pointer (some ⟨B, 0, none⟩), .pointer (some ⟨E.Wg, 0, none⟩), u 9, u 10, u 11, u 12, u 13, u 14, u 15, u 16, .chan (some E.Ch), .tuple #[.slice none 0 0, .bool false], .bool false, u 20, u 21, u 22, u 23, u 24, u 25, u 26, u 27, u 28, u 29], defers := [] } : Act)) #[Operand.tmp 8] = #[.pointer (some ⟨E.Wg, 0, none⟩)] by simp [Act.eval]]
      exact goes_monoD (fun _ _ _ h => D0.da _ h) (wait_of O OC hF fun w₃ hk => ⟨u', hu'⟩)
  | cons b bs ih =>
    intro sent lv w u hn hF
    have T := termsA (E.cfg k FB (PA E Cv B fr cs)) sent
    rw [L12_eq]
    refine goes_ctl T rfl (fun w => stepG_seq) ?_
    refine goes_ctl T rfl (fun w => stepG_region) ?_
    simp only [Code.ops, L12, range12, aft12, body12, Code.core, Code.one, Code.two, Tryz.f118, Option.getD_some, List.size_toArray, List.length_cons, List.length_nil, Nat.reduceAdd, Nat.zero_add, List.range, List.range.loop, EAct]
    intro w₁ hR
    replace hF := hF.rely O hR
    clear hR
    refine ⟨rfl, .slice none 0 0, ?_, fun v w₂ hR hmsg => ?_⟩
    · show stepG Tryz.prog true _ w₁ = _
      rw [stepG_comm rfl (by rfl) (by decide) (cases := #[rcase E.Ch (.slice none 0 0)]) (blocking := true) (shape := .recv true) (w' := w₁) (by simp [go_sem, execOp, rcase, Act.eval, Tryz.runUnderlying261, Tryz.zeroValue57])]
      rw [listed_nil (by simp [go_sem, execOp, Act.eval, Tryz.runUnderlying261, Tryz.zeroValue57])]
      rfl
    · replace hF := hF.rely O hR
      clear hR
      obtain ⟨r, hr1, rfl, hr2⟩ := hmsg
      have T' := termsA (E.cfg k FB (PA E Cv B fr cs)) (sent ++ [(b, .slice (some ⟨r, 0, none⟩) b.length b.length)])
      simp only [List.length_cons] at hn
      obtain ⟨nf, hg⟩ := gath_c (k := k) (FB := FB) (PostA := PA E Cv B fr cs) (sent := sent ++ [(b, .slice (some ⟨r, 0, none⟩) b.length b.length)]) (vs := sent.map (·.2)) O (by simp; omega)
      refine (arecvs_iff _ _ _ _ _).2 ⟨5 + nf + 3 + 14, ?_⟩
      rw [served_at rfl]
      show Goes Tryz.prog true (RA (E.cfg k FB (PA E Cv B fr cs)) (sent ++ [(b, .slice (some ⟨r, 0, none⟩) b.length b.length)])) (DA (E.cfg k FB (PA E Cv B fr cs))) _ _ _ _
      refine goes_op rfl (by rfl) (by decide) fun w₁ hR K' hK => ?_
      replace hF := hF.rely O hR
      clear hR
      try walk_nrm
      go_simp
      refine hK _ _ ⟨by co_quiet T', ?_⟩
      clear hK K'
      try walk_nrm
      refine goes_ctl T' rfl (fun w => stepG_region_end) ?_
      refine goes_ctl T' rfl (fun w => stepG_seq) ?_
      refine goes_ctl T' rfl (fun w => stepG_cond (t := true) rfl) ?_
      refine goes_ctl T' rfl (fun w => stepG_skip) ?_
      refine goes_ctl T' rfl (fun w => stepG_block) ?_
      refine goes_ctl T' rfl (fun w => stepG_seq) ?_
      refine goes_ctl T' rfl (fun w => stepG_region) ?_
      simp only [List.size_toArray, List.length_cons, List.length_nil, Nat.reduceAdd, Nat.zero_add, List.range, List.range.loop]
      refine goes_op rfl (by rfl) (by decide) fun w₁ hR K' hK => ?_
      replace hF := hF.rely O hR
      clear hR
      go_simp
      refine hK _ _ ⟨by co_quiet T', ?_⟩
      clear hK K'
      try walk_nrm
      refine goes_op rfl (by rfl) (by decide) fun w₁ hR K' hK => ?_
      replace hF := hF.rely O hR
      clear hR
      go_simp
      refine hK _ _ ⟨by co_quiet T', ?_⟩
      clear hK K'
      try walk_nrm
      refine goes_ctl T' rfl (fun w => stepG_region_end) ?_
      refine goes_ctl T' rfl (fun w => stepG_region) ?_
      simp only [List.size_toArray, List.length_cons, List.length_nil, Nat.reduceAdd, Nat.zero_add, List.range, List.range.loop]
      refine goes_op rfl (by rfl) (by decide) fun w₁ hR K' hK => ?_
      replace hF := hF.rely O hR
      clear hR
      go_simp
      refine hK _ _ ⟨by co_quiet T', ?_⟩
      clear hK K'
      try walk_nrm
      refine goes_op rfl (by rfl) (by decide) fun w₁ hR K' hK => ?_
      replace hF := hF.rely O hR
      clear hR
      go_simp
      refine hK _ _ ⟨by co_quiet T', ?_⟩
      clear hK K'
      try walk_nrm
      refine goes_callV (f := 139) (args := #[.slice (some ⟨r, 0, none⟩) b.length b.length, .pointer (some ⟨E.Vb, 0, none⟩)]) T' rfl (by rfl) (by decide) (fun w => ?_) (fun w => ?_) (hg _ _ _ _ _ hF) ?_
      · simp [go_sem, execOp, resolve, Deferred.ofValue, Act.eval, clo, invoke, callFunc, Tryz.func139, Tryz.f139]
      · simp [go_sem, execOp, resolve, Deferred.ofValue, Act.eval, clo, invoke, callFunc, Tryz.func139, Tryz.f139]
      · rintro x w' ⟨rfl, lv', hG⟩
        try walk_nrm
        refine goes_ctl T' rfl (fun w => stepG_region_end) ?_
        refine goes_ctl T' rfl (fun w => stepG_inBlock) ?_
        refine goes_ctl T' rfl (fun w => stepG_inLoop) ?_
        obtain ⟨u', hu'⟩ := eact_of (s2 := clo E.Vb) (s3 := .pointer (some ⟨Cv, 0, none⟩)) (s7 := .pointer (some ⟨B, 0, none⟩)) (s8 := .pointer (some ⟨E.Wg, 0, none⟩)) (s17 := .chan (some E.Ch)) { tmps := #[u 0, u 1, clo E.Vb, .pointer (some ⟨Cv, 0, none⟩), u 4, u 5, u 6, .pointer (some ⟨B, 0, none⟩), .pointer (some ⟨E.Wg, 0, none⟩), .slice (some ⟨r, 0, none⟩) b.length b.length, u 10, u 11, u 12, u 13, u 14, u 15, u 16, .chan (some E.Ch), .tuple #[.slice (some ⟨r, 0, none⟩) b.length b.length, .bool true], .bool true, .slice (some ⟨r, 0, none⟩) b.length b.length, clo E.Vb, .slice (some ⟨r, 0, none⟩) b.length b.length, .tuple #[], u 24, u 25, u 26, u 27, u 28, u 29], defers := [] } rfl
        have hi := ih (sent ++ [(b, .slice (some ⟨r, 0, none⟩) b.length b.length)]) lv' w' u' (by simp; omega) (by simpa using hG)
        rw [← hu'] at hi
        exact hi

end
end Go.Proofs.YtlghcldiboecoaaGreatDoor.Cu
