/- From a good run at every start to a row that says 'leaving' and bears a condition of its own. -/
import Derived.Test.YtlghcldiboecoaaGreatDoorQ22
import Derived.Conc.Holds
import Derived.JoinedCond
import Derived.Test.YtlghcldiboecoaaGreatDoorPPlay
import Derived.Test.YtlghcldiboecoaaGreatDoorDkT
import Derived.Test.YtlghcldiboecoaaGreatDoorQ40
import Derived.Deep.RegionHeld3
import Derived.Test.YtlghcldiboecoaaGreatDoorQ47
import Derived.Lib.SmallJoins
import Derived.Deep.Strs
import Derived.WideKeyArgs
import Derived.OpenShut
import Derived.Test.YtlghcldiboecoaaGreatDoorQ39
import Derived.Lib.LaidIn
import Derived.Deep.DeepHandedRow
import Derived.ProofKit
import Derived.SizedLaws
import Derived.Deep.DeepWitnessRowRef
import Derived.Carry
set_option linter.unusedVariables false
namespace Go.Pair
open Go Go.Conc

theorem EA.run {P : Program} {Post : Value → World → Prop} {g : Goroutine} {w : World} (h : EA P Post (fun _ => False) g w) :
    ∃ N last o w' t', runNT P (N + 1) (solo g w) #[] = (.ended o w', t') ∧ runN P N (solo g w) = .next last ∧ step P last = .ended o w' ∧ Conc.Good P (fun v w' => Same w w' ∧ Post v w') last o w' t' := by
  rw [solo_eq_crowd]
  refine h.ends #[g] none #[] (fun _ => 0) rfl ⟨fun i x hi hx => ?_, fun j _ => rfl⟩ ((PastD.of past_nil).mono (Nat.zero_le _))
  rw [Array.getElem?_eq_none (by simp; omega)] at hx
  cases hx

section
variable {H : Type} {enc : TypeId × Value → H}
end

theorem holds_narrowed_leaving {p : Pinned} {s : OpenSpec} {c : OpenClaim} (f : FuncId) (fn : Func) (names : c.program = p.name ∧ c.sum = p.sum ∧ c.spec = s.name) (plain : c.start = .entering ∧ c.outside = [] ∧ c.inits = [] ∧ c.under = none ∧ c.noBlocks = false ∧ c.followed = none ∧ c.still = false)
    (hi4 : c.initsInPlace = [] ∧ c.initsUnfollowed = false ∧ c.initsRecurse = false ∧ c.initsNamed = [] ∧ c.initsPassed = []) (hlv : c.leaving = true) (hnar : c.narrowed = s.cond.isSome)
    (hfn : p.checked.prog.funcNamed c.func = some f) (hf : p.checked.prog.funcs[f]? = some fn) (closed : joinedFacts p.checked.prog f fn s.bare c = true)
    (hinst : fn.isInstance p.checked.prog c.origin c.targs) (hwrap : fn.isWrapper p.checked.prog c.wrapper c.mainSum)
    (h : ∀ os : Os, os.Started → ∀ (H : Type) (enc : TypeId × Value → H), ∀ F : Stop.Interp, ReturnsInLeavingWide c.assume p.checked os f .any (c.pre enc p.checked.prog fn s) ((s.at F).post enc p.checked.prog fn c.apart c.fresh c.handsOn c.again)) : c.holds p s := by
  obtain ⟨hn, hs, hsp⟩ := names
  obtain ⟨hstart, hout, hin, hun, hnb, hfo, hstill⟩ := plain
  simp only [joinedFacts, Bool.and_eq_true, beq_iff_eq, Array.all_eq_true_iff_forall_mem, List.all_eq_true, decide_eq_true_eq] at closed
  obtain ⟨⟨⟨⟨⟨⟨⟨⟨⟨⟨⟨⟨⟨⟨⟨⟨⟨⟨⟨⟨⟨⟨⟨⟨⟨⟨⟨⟨⟨⟨⟨k1, k2⟩, k3⟩, k4⟩, k5⟩, k6⟩, k7⟩, k8⟩, k9⟩, k10⟩, k11⟩, k12⟩, k13⟩, k14⟩, k15⟩, k16⟩, k17⟩, k17b⟩, k18⟩, k19⟩, k20⟩, k21⟩, k22⟩, k23⟩, k23b⟩, k24⟩, k24b⟩, k24c⟩, k25⟩, k26⟩, k27⟩, k28⟩ := closed
  have hq : ∀ os : Os, Stop.quiet p.checked.prog os := fun os k hk => by rw [k9] at hk; cases hk
  have hshort : c.shortTexts.isSome = false := by
    cases hx : c.shortTexts with
    | none => rfl
    | some _ => rw [hx] at k23; cases k23
  have hworld : ∀ os, c.world os = os.Started := fun os => by unfold OpenClaim.world; rw [hout, hstart]
  refine ⟨k1, hn, hs, hsp, k2, k3, ?_, ?_, f, fn, hfn, hf, ⟨k4, k19⟩, fun hb => absurd (hnb.symm.trans hb) (by decide), ?_, hinst, hwrap, k6.trans k7.symm, ⟨k8.trans k9.symm, ?_, k23b⟩, k10, k11, k12, k13, k14, ⟨k15, k27, k28⟩, ⟨k16, k20⟩, ⟨k17, k21, k25, k26⟩, ⟨k22, k24b, k24c, k17b⟩, ?_, fun n hn' => varReadable_some (k18 n hn'), ⟨_, (hworld _).symm ▸ WideRow.started_initial, hq _⟩, [], ?_, fun os st _ H enc _ => ?_⟩
  · unfold OpenClaim.startFits; rw [hstart]; exact k24
  · unfold OpenClaim.startTold; rw [hstart]; exact ⟨hin, hun, hi4⟩
  · unfold OpenClaim.namedList; rw [hfo]; exact k5
  · unfold Program.envWorded; rw [k9]; rfl
  · rw [hout, hnar, hshort]; simp
  · unfold OpenClaim.lists; rw [hfo]
  rw [hworld] at st
  rw [OpenClaim.post_not_still hstill]
  unfold OpenClaim.form
  rw [hstart, k6]
  intro F
  have e1 : c.okInput = Input.okWide := by unfold OpenClaim.okInput; rw [hnb]
  have e2 : c.atReturn p.checked.prog = leavingAtReturn p.checked.prog := by unfold OpenClaim.atReturn; rw [hlv]
  have e3 : c.always p.checked.prog [] = nothingAlways := by unfold OpenClaim.always; rw [hfo]
  have e4 : s.post enc p.checked.prog fn F c.outside c.apart c.fresh c.handsOn c.again = (s.at F).post enc p.checked.prog fn c.apart c.fresh c.handsOn c.again := by rw [hout]; rfl
  rw [e1, e2, e3]
  show ReturnsInOpen _ _ _ _ _ _ _ _ (s.post enc p.checked.prog fn F c.outside c.apart c.fresh c.handsOn c.again) _ _
  rw [e4]
  exact h os st H enc F k24

end Go.Pair

/- Reads, from its beginning to its return. -/
namespace Go.Proofs.YtlghcldiboecoaaGreatDoor
open Go.RowKit Go.Pair Go.Conc

/-- The script, as it was handed in. -/
def ScriptAt (w : World) (A : Nat) (sa : Option Addr) (sn sc : Nat) (T : Nat → Nat) : Prop :=
  sn ≤ 1048576 ∧ T 0 = 0 ∧ (∀ i, i ≤ sn → T i ≤ 1048576) ∧ ∀ i, i < sn → ∃ (g o : Nat) (k a b c : Int) (s t : ByteArray), sa = some ⟨g, o, none⟩ ∧ g < A ∧ sn ≤ sc ∧ w.cell? ⟨g, o + i * 6, none⟩ = some (.int .i64 k) ∧ w.cell? ⟨g, o + i * 6 + 1, none⟩ = some (.int .i64 a) ∧ w.cell? ⟨g, o + i * 6 + 2, none⟩ = some (.int .i64 b) ∧ w.cell? ⟨g, o + i * 6 + 3, none⟩ = some (.int .i64 c) ∧ w.cell? ⟨g, o + i * 6 + 4, none⟩ = some (.string s) ∧ w.cell? ⟨g, o + i * 6 + 5, none⟩ = some (.string t) ∧ (-9223372036854775808 ≤ a ∧ a ≤ 9223372036854775807) ∧ T i + s.size ≤ T (i + 1)

theorem ScriptAt.keep {w w' : World} {A : Nat} {sa : Option Addr} {sn sc : Nat} {T : Nat → Nat} (h : ScriptAt w A sa sn sc T) (hk : ∀ i, i < A → w'.heap[i]? = w.heap[i]?) : ScriptAt w' A sa sn sc T := by
  refine ⟨h.1, h.2.1, h.2.2.1, fun i hi => ?_⟩
  obtain ⟨g, o, k, a, b, c, s, t, h1, h2, h3, k0, k1, k2, k3, k4, k5, h4, h5⟩ := h.2.2.2 i hi
  have hc : ∀ (j : Nat) (x : Value), w.cell? ⟨g, j, none⟩ = some x → w'.cell? ⟨g, j, none⟩ = some x := fun j x hx => (World.cell?_of_block (w := w) (a := ⟨g, j, none⟩) (hk g h2)).trans hx
  exact ⟨g, o, k, a, b, c, s, t, h1, h2, h3, hc _ _ k0, hc _ _ k1, hc _ _ k2, hc _ _ k3, hc _ _ k4, hc _ _ k5, h4, h5⟩

/-- What Reads leaves. -/
def ReadsOut (A : Nat) (w : World) (x : Value) (w' : World) (Sh' : Loc → Prop) : Prop := x = .bool true ∧ ShunT 271 Sh' w' ∧ (∀ l, Sh' l → ∃ a : Addr, l = .cell a ∧ A ≤ a.block) ∧ w.heap.size ≤ w'.heap.size ∧ ∀ i, i < w.heap.size → w'.heap[i]? = w.heap[i]?

noncomputable def body5 : Code := Tryz.f5.body.getD .skip

set_option maxRecDepth 100000 in
set_option maxHeartbeats 4000000 in
theorem reads_wp {Post : Value → World → Prop} {Shun : Loc → Prop} {w : World} {A : Nat} (hS : ShunT 271 Shun w) (hTop : ∀ l, Shun l → ∃ a : Addr, l = .cell a ∧ A ≤ a.block) (hA : A ≤ w.heap.size) (ga ta sa : Option Addr) (gn gc tn tc sn sc : Nat) (T : Nat → Nat) (hsc : ScriptAt w A sa sn sc T) :
    wpE Tryz.prog Post 5 body5 (fun e a w' S => (e = .normal ∨ e = .ret) ∧ a.defers = [] ∧ ReadsOut A w (a.tmps.getD 4 undef) w' S) { tmps := #[.agg #[.slice ga gn gc, .slice ta tn tc], .slice sa sn sc] ++ Array.replicate (Tryz.f5.ntmps - (#[.agg #[.slice ga gn gc, .slice ta tn tc], .slice sa sn sc] : Array Value).size) undef, defers := [] } w Shun := by
  simp only [Tryz.ntmps5, List.size_toArray, List.length_cons, List.length_nil, Nat.reduceAdd, Nat.reduceSub, Array.replicate_succ, Array.replicate_zero, List.push_toArray, List.append_toArray, List.nil_append, List.cons_append]
  simp only [body5, Tryz.f5, Option.getD_some]
  have hfn : ∃ f, Tryz.prog.funcs[5]? = some f := ⟨_, Tryz.func5⟩
  have HSC := hid hsc
  clear hsc
  refine wpE_then hfn (by kernel_rfl) hS rfl [] (fun v hv Ql hn hr he => ?_)
  have HN := hid hn
  clear hn hr he
  have HB1 := hid (below1 v (.cells #[.slice ga gn gc, .slice ta tn tc] 25))
  have HG1 := hid (heap_alloc_new v (.cells #[.slice ga gn gc, .slice ta tn tc] 25))
  go_wp2
  refine HN.out _ _ (fun w1 hk1 hs1 => ?_)
  clear HN Ql
  generalize v.alloc (.cells #[.slice ga gn gc, .slice ta tn tc] 25) = v1 at *
  have hS1 := hS.kept hk1
  have HSV := hid hv.size
  have HOLD : Hid (∀ i, i < w.heap.size → w1.heap[i]? = w.heap[i]?) := fun i hi => Sim.stay hk1 hv hs1 (HB1.out.block i (by have := HSV.out; omega))
  have HSZ : Hid (w.heap.size ≤ w1.heap.size) := hk1.grow
  clear HB1 hk1 hv
  refine wpE_seq (wpE_region ?_)
  simp only [List.size_toArray, List.length_cons, List.length_nil, Nat.reduceAdd, Nat.zero_add, List.range, List.range.loop]
  refine opsE_one rfl (by rfl) (by kernel_rfl) hS1 (fun v2 hv2 => ⟨.agg #[.slice ga gn gc, .slice ta tn tc], ?_, fun w2 hk2 hs2 => ?_⟩)
  · have hb2 : v2.heap[v.heap.size]? = some (.cells #[.slice ga gn gc, .slice ta tn tc] 25) := by rw [Sim.heap hv2 hs1]; exact HG1.out
    have c0 := cellOf (j := 0) hb2 rfl
    have c1 := cellOf (j := 1) hb2 rfl
    clear hb2
    go_simp
  walk_nrm
  have hS2 := hS1.kept hk2
  refine opsE_one rfl (by rfl) (by kernel_rfl) hS2 (fun v3 hv3 => ⟨.slice sa sn sc, ?_, fun w3 hk3 hs3 => ?_⟩)
  · go_simp
  walk_nrm
  have hS3 := hS2.kept hk3
  have hold3 : ∀ i, i < w.heap.size → w3.heap[i]? = w.heap[i]? := fun i hi => (Sim.stay hk3 hv3 hs3 rfl).trans ((Sim.stay hk2 hv2 hs2 rfl).trans (HOLD.out i hi))
  have hsz3 : w.heap.size ≤ w3.heap.size := Nat.le_trans HSZ.out (Nat.le_trans hk2.grow hk3.grow)
  have hsc3 := HSC.out.keep (w' := w3) (fun i hi => hold3 i (by omega))
  have hpl := plays_E (Post := Post) hS3 hTop (Nat.le_trans hA hsz3) ga ta sa gn gc tn tc sn sc hsc3.1 T hsc3.2.1 hsc3.2.2.1 hsc3.2.2.2
  refine opsE_call rfl (by rfl) rfl (by walk_nrm; exact hpl) (fun x w4 Sh4 hx => ?_)
  obtain ⟨rfl, hS4, hTop4, hsz4, hold4⟩ := hx
  walk_nrm
  refine opsE_one rfl (by rfl) (by kernel_rfl) hS4 (fun v5 hv5 => ⟨.bool true, ?_, fun w5 hk5 hs5 => ?_⟩)
  · go_simp
  walk_nrm
  refine opsE_nil ?_
  show wpE _ _ _ _ _ _ _ _
  refine wpE_ret ?_
  exact ⟨.inr rfl, rfl, rfl, hS4.kept hk5, hTop4, Nat.le_trans hsz3 (Nat.le_trans hsz4 hk5.grow), fun i hi => (Sim.stay hk5 hv5 hs5 rfl).trans ((hold4 i (Nat.lt_of_lt_of_le hi hsz3)).trans (hold3 i hi))⟩

set_option maxRecDepth 100000 in
/-- Reads, called. -/
theorem reads_calls {Post : Value → World → Prop} {Shun : Loc → Prop} {w : World} {A : Nat} (hS : ShunT 271 Shun w) (hTop : ∀ l, Shun l → ∃ a : Addr, l = .cell a ∧ A ≤ a.block) (hA : A ≤ w.heap.size) (ga ta sa : Option Addr) (gn gc tn tc sn sc : Nat) (T : Nat → Nat) (hsc : ScriptAt w A sa sn sc T) :
    CallsE Tryz.prog Post 5 #[.agg #[.slice ga gn gc, .slice ta tn tc], .slice sa sn sc] Shun w (ReadsOut A w) :=
  callsE_of_wpE (t := 4) Tryz.func5 (by rfl) rfl rfl (reads_wp hS hTop hA ga ta sa gn gc tn tc sn sc T hsc)

theorem stepG_out {P : Program} {b : Frame} {a : Act} {todo : List Item} {fn : Func} {v : Value} {w : World} (hn : b.kind = .normal) (hd : a.defers = []) (hf : P.funcs[b.fn]? = some fn) (hr : (results fn a.tmps).run P w = .ok v w) (he : (results fn a.tmps).events P w #[] = #[]) (hi : P.inits.idxOf? b.fn = none) :
    stepG P true (G { b.at a todo with mode := .returning } []) w = .ended (.done v) w #[] := by
  simp [G, stepG, unwind, doReturn, Frame.at, hn, hd, hf, hr, he, hi, seen, GStep.after]

end Go.Proofs.YtlghcldiboecoaaGreatDoor

/- Disks, from its beginning to its return. -/
namespace Go.Proofs.YtlghcldiboecoaaGreatDoor
open Go.RowKit Go.Pair Go.Conc

theorem ActsAt.cells {w w' : World} {A : Nat} {sa : Option Addr} {sn sc : Nat} {T : Nat → Nat} (h : ActsAt w A sa sn sc T) (hk : ∀ g j x, g < A → w.cell? ⟨g, j, none⟩ = some x → w'.cell? ⟨g, j, none⟩ = some x) : ActsAt w' A sa sn sc T := by
  refine ⟨h.1, h.2.1, h.2.2.1, fun i hi => ?_⟩
  obtain ⟨g, o, k, a, x, s, t, h1, h2, h3, k0, k1, k2, k3, k4, h4, h5, h6⟩ := h.2.2.2 i hi
  exact ⟨g, o, k, a, x, s, t, h1, h2, h3, hk _ _ _ h2 k0, hk _ _ _ h2 k1, hk _ _ _ h2 k2, hk _ _ _ h2 k3, hk _ _ _ h2 k4, h4, h5, h6⟩

/-- What Disks leaves. -/
def DisksOut (A : Nat) (w : World) (x : Value) (w' : World) (Sh' : Loc → Prop) : Prop := x = .bool true ∧ w.heap.size ≤ w'.heap.size ∧ ∀ i, i < w.heap.size → w'.heap[i]? = w.heap[i]?

noncomputable def body6 : Code := Tryz.f6.body.getD .skip

set_option maxRecDepth 100000 in
set_option maxHeartbeats 4000000 in
theorem disks_wp (HPC : Hid Crashes) {Post : Value → World → Prop} {Shun : Loc → Prop} {w : World} {A : Nat} (hS : ShunT 271 Shun w) (hTop : ∀ l, Shun l → ∃ a : Addr, l = .cell a ∧ A ≤ a.block) (hA : A ≤ w.heap.size) (sa : Option Addr) (sn sc : Nat) (T : Nat → Nat) (hsc : ActsAt w A sa sn sc T) :
    wpE Tryz.prog Post 6 body6 (fun e a w' S => (e = .normal ∨ e = .ret) ∧ a.defers = [] ∧ DisksOut A w (a.tmps.getD 2 undef) w' S) { tmps := #[.slice sa sn sc] ++ Array.replicate (Tryz.f6.ntmps - (#[.slice sa sn sc] : Array Value).size) undef, defers := [] } w Shun := by
  simp only [Tryz.ntmps6, List.size_toArray, List.length_cons, List.length_nil, Nat.reduceAdd, Nat.reduceSub, Array.replicate_succ, Array.replicate_zero, List.push_toArray, List.append_toArray, List.nil_append, List.cons_append]
  simp only [body6, Tryz.f6, Option.getD_some]
  have hfn : ∃ f, Tryz.prog.funcs[6]? = some f := ⟨_, Tryz.func6⟩
  have HSC := hid hsc
  clear hsc
  refine wpE_then hfn (by kernel_rfl) hS rfl [] (fun v hv Ql hn hr he => ?_)
  have HN := hid hn
  clear hn hr he
  go_wp2
  refine HN.out _ _ (fun w1 hk1 hs1 => ?_)
  clear HN Ql
  have hS1 := hS.kept hk1
  have HOLD : Hid (∀ i, i < w.heap.size → w1.heap[i]? = w.heap[i]?) := fun i hi => Sim.stay hk1 hv hs1 rfl
  have HSZ : Hid (w.heap.size ≤ w1.heap.size) := hk1.grow
  clear hk1 hv
  refine wpE_seq (wpE_region ?_)
  simp only [List.size_toArray, List.length_cons, List.length_nil, Nat.reduceAdd, Nat.zero_add, List.range, List.range.loop]
  refine opsE_one rfl (by rfl) (by kernel_rfl) hS1 (fun v2 hv2 => ⟨.agg #[.slice none 0 0, .slice none 0 0], ?_, fun w2 hk2 hs2 => ?_⟩)
  · go_simp
  walk_nrm
  have hS2 := hS1.kept hk2
  have hold2 : ∀ i, i < w.heap.size → w2.heap[i]? = w.heap[i]? := fun i hi => (Sim.stay hk2 hv2 hs2 rfl).trans (HOLD.out i hi)
  have hsz2 : w.heap.size ≤ w2.heap.size := Nat.le_trans HSZ.out hk2.grow
  have hrd := reads_calls (Post := Post) hS2 hTop (Nat.le_trans hA hsz2) none none none 0 0 0 0 0 0 (fun _ => 0) ⟨by omega, rfl, fun _ _ => Nat.zero_le _, fun i hi => by omega⟩
  refine opsE_call rfl (by rfl) rfl (by walk_nrm; exact hrd) (fun x w4 Sh4 hx => ?_)
  obtain ⟨rfl, hS4, hTop4, hsz4, hold4⟩ := hx
  walk_nrm
  refine opsE_one rfl (by rfl) (by kernel_rfl) hS4 (fun v5 hv5 => ⟨.bool true, ?_, fun w5 hk5 hs5 => ?_⟩)
  · go_simp
  walk_nrm
  refine opsE_nil ?_
  have hS5 := hS4.kept hk5
  have hold5 : ∀ i, i < w.heap.size → w5.heap[i]? = w.heap[i]? := fun i hi => (Sim.stay hk5 hv5 hs5 rfl).trans ((hold4 i (Nat.lt_of_lt_of_le hi hsz2)).trans (hold2 i hi))
  have hsz5 : w.heap.size ≤ w5.heap.size := Nat.le_trans hsz2 (Nat.le_trans hsz4 hk5.grow)
  refine wpE_fin hfn (by kernel_rfl) hS5 rfl [] (fun v6 hv6 Ql hn hr he => ?_)
  have hsz6 := hv6.size
  have hac : ActsAt v6 A sa sn sc T := HSC.out.cells (fun g j x hg hx => lone_cell hv6 hTop4 hg ((World.cell?_of_block (w := w) (a := ⟨g, j, none⟩) (hold5 g (by omega))).trans hx))
  have hrest := rest_wp HPC v6 A sa sn sc T hac (by omega) Ql (fun a' v' hd h2 hsz hkeep => hr a' v' (fun w' hk' hs' => ⟨.inr rfl, hd, by simpa using h2, Nat.le_trans hsz5 hk'.grow, fun i hi => (Sim.stay hk' hv6 hs' (hkeep i (by omega))).trans (hold5 i hi)⟩))
  simpa only [rest6, Tryz.f6] using hrest

theorem inits6 : Tryz.prog.inits.idxOf? (base 6).fn = none := by kernel_rfl

set_option maxRecDepth 100000 in
/-- Disks, from the start. -/
theorem disks_runs (HPC : Hid Crashes) {Post : Value → World → Prop} {W : World} (sa : Option Addr) (sn sc : Nat) (T : Nat → Nat) (hsc : ActsAt W W.heap.size sa sn sc T)
    (hPost : ∀ w', W.heap.size ≤ w'.heap.size → (∀ i, i < W.heap.size → w'.heap[i]? = W.heap[i]?) → Post (.bool true) w') :
    EA Tryz.prog Post (fun _ => False) (G ((base 6).at { tmps := #[.slice sa sn sc] ++ Array.replicate (Tryz.f6.ntmps - (#[.slice sa sn sc] : Array Value).size) undef, defers := [] } [.code body6]) []) W := by
  refine disks_wp HPC (Post := Post) (A := W.heap.size) (fun l h => h.elim) (fun l h => h.elim) (Nat.le_refl _) sa sn sc T hsc (base 6) [] [] rfl rfl fun e a' w' S ⟨he, hd, hx, h1, h2⟩ => ?_
  have hret : ∀ todo, EA Tryz.prog Post S (G { (base 6).at a' todo with mode := .returning } []) w' := fun todo d =>
    Ends.ret rfl fun n => ⟨.bool true, #[], by rw [stepG_out rfl hd Tryz.func6 (results_tmp (t := 2) (by rfl) _ _ _) (events_results_tmp (t := 2) (by rfl) _ _) inits6, hx], by simp, ⟨rfl, rfl⟩, hPost _ h1 h2⟩
  rcases he with rfl | rfl
  · exact EA.ctl rfl (fun w1 => stepG_end) (hret [])
  · exact hret

end Go.Proofs.YtlghcldiboecoaaGreatDoor

/- The arguments of Encodes: values and steps of whatever make. -/
namespace Go.Proofs.YtlghcldiboecoaaGreatDoor
open Go.ChangeShapes Go.WideShapes Go.ChangeAt Go.RowKit

theorem cells3' : Tryz.prog.cellsOf 3 = 1 := by kernel_rfl
theorem cells9' : Tryz.prog.cellsOf 9 = 1 := by kernel_rfl

instance : Inhabited (Orch.V × Value) := ⟨(.mk 0 ⟨#[]⟩ [], .slice none 0 0)⟩

theorem str_len (s : ByteArray) : s.data.toList.length = s.size := by rw [Array.length_toList]; rfl

theorem bulk_str {H : Type} (l : List UInt8) : Rows.uptoBulk (DataW.lit (H := H) (.string l)) = l.length + 1 := by simp [Rows.uptoBulk]
theorem bulk_one {H : Type} (d : DataW H) : 1 ≤ Rows.uptoBulk d := by
  cases d with
  | lit l => cases l <;> simp [Rows.uptoBulk]
  | _ => simp [Rows.uptoBulk]

theorem bulk_part {H : Type} {l : List (DataW H)} {i : Nat} (h : i < l.length) : Rows.uptoBulk l[i] ≤ Rows.uptoBulkAll l := by
  induction l generalizing i with
  | nil => simp at h
  | cons x r ih =>
    simp only [Rows.uptoBulkAll]
    cases i with
    | zero => simp
    | succ i =>
      have := ih (i := i) (by simpa using h)
      simp only [List.getElem_cons_succ]
      omega

end Go.Proofs.YtlghcldiboecoaaGreatDoor

/- The frame of Reads: the steps, read. -/
namespace Go.Proofs.YtlghcldiboecoaaGreatDoor
open Go.ChangeShapes Go.WideShapes Go.ChangeAt Go.RowKit

theorem bulk_take_le {H : Type} (l : List (DataW H)) (i : Nat) : Rows.uptoBulkAll (l.take i) ≤ Rows.uptoBulkAll l := by
  induction l generalizing i with
  | nil => simp
  | cons x r ih =>
    cases i with
    | zero => simp [Rows.uptoBulkAll]
    | succ i =>
      have := ih i
      simp only [List.take_succ_cons, Rows.uptoBulkAll]
      omega

theorem bulk_take_add {H : Type} {l : List (DataW H)} {i : Nat} (h : i < l.length) : Rows.uptoBulkAll (l.take (i + 1)) = Rows.uptoBulkAll (l.take i) + Rows.uptoBulk l[i] := by
  induction l generalizing i with
  | nil => simp at h
  | cons x r ih =>
    cases i with
    | zero => simp [Rows.uptoBulkAll]
    | succ i =>
      have := ih (i := i) (by simpa using h)
      simp only [List.take_succ_cons, Rows.uptoBulkAll, List.getElem_cons_succ] at *
      omega

end Go.Proofs.YtlghcldiboecoaaGreatDoor

/- The frame of Encodes: an input that fits. -/
namespace Go.Proofs.YtlghcldiboecoaaGreatDoor
open Go.ChangeShapes Go.WideShapes Go.ChangeAt Go.RowKit

theorem own : ownKnob Tryz.prog.godebug = none := by kernel_rfl

noncomputable def laidWorld (os : Os) : World :=
  let w0 := World.holding Tryz.prog os ⟨#[], #[], []⟩
  let put (h : Array Obj) (g : Nat) (cs : Array Value) : Array Obj := h.modify g fun
    | .cells _ t frozen => .cells cs t frozen
    | o => o
  let h0 := put w0.heap 3 letCells
  let h1 := put h0 6 (Lib.firstTab.map fun z => Value.int .u8 z).toArray
  let h2 := put h1 7 ((List.range 16).flatMap fun i => [Value.int .u8 (Lib.accLo i), Value.int .u8 (Lib.accHi i)]).toArray
  let h3 := put h2 1 #[.string ⟨#[]⟩, .string ⟨#[40, 116, 98, 56, 56, 52, 41]⟩, .string ⟨#[40, 116, 98, 116, 56, 56, 52, 41]⟩]
  let h4 := put h3 0 #[.string ⟨#[]⟩, .string ⟨#[]⟩, .string ⟨#[]⟩, .string ⟨#[]⟩, .string ⟨#[40, 52, 52, 116, 98, 41]⟩, .string ⟨#[40, 52, 52, 116, 98, 116, 41]⟩, .string ⟨#[]⟩, .string ⟨#[40, 52, 52, 116, 52, 41]⟩, .string ⟨#[40, 52, 52, 116, 52, 41]⟩, .string ⟨#[]⟩, .string ⟨#[40, 52, 52, 116, 98, 52, 41]⟩, .string ⟨#[40, 52, 52, 116, 98, 52, 41]⟩, .string ⟨#[]⟩, .string ⟨#[40, 52, 52, 116, 63, 41]⟩, .string ⟨#[40, 52, 52, 116, 63, 41]⟩, .string ⟨#[]⟩, .string ⟨#[40, 52, 52, 116, 63, 41]⟩, .string ⟨#[40, 52, 52, 116, 63, 41]⟩, .string ⟨#[]⟩, .string ⟨#[40, 52, 52, 116, 63, 41]⟩, .string ⟨#[40, 52, 52, 116, 63, 41]⟩, .string ⟨#[]⟩, .string ⟨#[40, 52, 52, 41]⟩, .string ⟨#[40, 52, 52, 41]⟩]
  let h5 := put h4 4 #[.string ⟨#[]⟩, .string ⟨#[]⟩, .string ⟨#[]⟩, .string ⟨#[]⟩, .string ⟨#[40, 52, 56, 52, 116, 41]⟩, .string ⟨#[40, 52, 56, 52, 116, 41]⟩, .string ⟨#[]⟩, .string ⟨#[40, 52, 56, 52, 41]⟩, .string ⟨#[40, 52, 56, 52, 41]⟩, .string ⟨#[]⟩, .string ⟨#[40, 52, 56, 52, 40, 56, 56, 52, 52, 41, 41]⟩, .string ⟨#[40, 52, 56, 52, 40, 56, 56, 52, 52, 41, 41]⟩, .string ⟨#[]⟩, .string ⟨#[40, 52, 56, 52, 98, 40, 56, 56, 52, 52, 41, 41]⟩, .string ⟨#[40, 52, 56, 52, 98, 116, 40, 56, 56, 52, 52, 41, 41]⟩, .string ⟨#[]⟩, .string ⟨#[40, 52, 56, 52, 40, 56, 56, 52, 52, 41, 41]⟩, .string ⟨#[40, 52, 56, 52, 40, 56, 56, 52, 52, 41, 41]⟩, .string ⟨#[]⟩, .string ⟨#[40, 52, 56, 52, 91, 116, 93, 41]⟩, .string ⟨#[40, 52, 56, 52, 91, 116, 93, 41]⟩, .string ⟨#[]⟩, .string ⟨#[40, 52, 56, 52, 41]⟩, .string ⟨#[40, 52, 56, 52, 41]⟩]
  let h6 := put h5 5 #[.slice none 0 0, .slice (some ⟨13, 0, none⟩) 2 2, .slice (some ⟨14, 0, none⟩) 3 3, .slice (some ⟨15, 0, none⟩) 1 1]
  { w0 with heap := ((h6.push (.cells #[.int .i64 0, .bool false, .int .i64 1, .int .i64 1, .bool true, .int .i64 4] 440)).push (.cells #[.int .i64 0, .bool false, .int .i64 2, .int .i64 1, .bool false, .int .i64 2, .int .i64 1, .bool true, .int .i64 4] 440)).push (.cells #[.int .i64 0, .bool false, .int .i64 3] 440) }

end Go.Proofs.YtlghcldiboecoaaGreatDoor

/- The frame of Reads: what the walk gives, for every argument; an input that fits. -/
namespace Go.Proofs.YtlghcldiboecoaaGreatDoor
open Go.ChangeShapes Go.WideShapes Go.ChangeAt Go.RowKit Go.Pair Go.Conc

section
variable {H : Type} {enc : TypeId × Value → H}
/-- The form, of a contract in which the arguments have been read: a row that lists variables. -/
theorem leaving_of_row {a : Assume} {C : Checked} {os : Os} {f : FuncId} {fn : Func} {s : OpenSpec} {F : Stop.Interp} {conds : List PathCond} {apart fresh handsOn again : Bool} {laid : List (String × DataW Unit)}
    (own : ownKnob C.prog.godebug = none) (started : os.Started) (hfn : C.prog.funcs[f]? = some fn)
    (witness : ∃ (w : World) (tape : Tape) (i : Input), w.os = os ∧ (w.forCall tape i).Shaped C.prog ∧ i.vars = [] ∧ Input.okWide C.prog (w.forCall tape i) .any w.heap.size f i ∧
      s.preRow enc C.prog fn conds apart laid (w.forCall tape i).memory i.args ∧ a.holds C.prog (lone (Frame.enter C.prog f i.args .normal) [] (w.forCall tape i)))
    (contract : ∀ (W : World) (base : Nat) (args : Array Value) (ds gs : List (DataW H)) (before : List MemPlace),
      (∀ (j : Nat) t v, fn.params[j]? = some t → args[j]? = some v → Value.okWide C.prog W .any base t v) → DataW.Whole enc C.prog fn.params.toList s.vars apart W args.toList ds gs before → (∀ k, s.cond = some k → k H (ds ++ gs) = true) →
      EA C.prog (fun v W' => Same W W' → (s.at F).post enc C.prog fn apart fresh handsOn again W args v W') (fun _ => False) (G (Frame.enter C.prog f args .normal) []) W) :
    ReturnsInLeavingWide a C os f .any (s.preRow enc C.prog fn conds apart laid) ((s.at F).post enc C.prog fn apart fresh handsOn again) := by
  refine returnsInLeavingWide_of_good own started witness fun w tape i _ _ _ hok hpre _ => ?_
  obtain ⟨_, _, _, fn', hfn', _, _, _, _, hval⟩ := hok
  obtain rfl : fn' = fn := Option.some.inj (hfn'.symm.trans hfn)
  obtain ⟨⟨hp, hl⟩, hz⟩ := hpre
  obtain ⟨ds, gs, before, hw, hc, hk⟩ := OpenSpec.pre_parts hp
  obtain ⟨N, last, o, w', t', r1, r2, r3, v, rfl, hp, rest⟩ := (contract (w.forCall tape i) w.heap.size i.args ds gs before hval (DataW.Whole.of_heap (w' := w.forCall tape i) (by rfl) hw) hk).run
  exact ⟨N, last, _, w', t', r1, r2, r3, v, rfl, ChangeSpec.post_blind (hp.2 hp.1), rest⟩

end

end Go.Proofs.YtlghcldiboecoaaGreatDoor
