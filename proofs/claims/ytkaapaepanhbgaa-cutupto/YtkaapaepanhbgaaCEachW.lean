/- Each's goroutine: the two deferred calls, cut, the close, the end. -/
import Derived.Test.YtkaapaepanhbgaaCLoop
set_option linter.unusedVariables false
set_option linter.unusedSimpArgs false
namespace Go.Pair
open Go Go.Conc
section
variable {P : Program} {main : Bool} {b : Frame} {a : Act} {k : List Item} {cs : List Frame} {w : World}
/-- The deferred close of a channel. -/
def dclose (t ty : TypeId) (c : Nat) : Deferred := { target := .builtin .close #[t] ty #[false], args := #[.chan (some c)] }
theorem stepG_defer_close {ops : Array Oper} {i : Nat} {rest : List Nat} {o : Oper} {x : Tmp} {t : TypeId} {c : Nat} (ho : ops[i]? = some o) (hw : Region.wanted o (yielded ops a.tmps) = true) (hk : b.kind ≠ .early)
    (hop : o.op = .defer { callee := .builtin .close, args := #[.tmp x], argTypes := #[t] }) (hx : a.eval (.tmp x) = .chan (some c)) :
    stepG P main (G (b.at a (.inRegion ops (i :: rest) :: k)) cs) w = .go (G (b.at (Act.put ⟨a.tmps, dclose t o.type c :: a.defers⟩ o.dst undef) (.inRegion ops rest :: k)) cs) w #[] := by
  have hr : (execOp a.eval o).run P w = .ok (.defer (dclose t o.type c)) w := by
    unfold execOp
    simp [hop, resolve, dclose, hx]
  have he : (execOp a.eval o).events P w #[] = #[] := by
    unfold execOp
    simp [hop, resolve]
  have hfin : (b.at ⟨a.tmps, dclose t o.type c :: a.defers⟩ (.inRegion ops (i :: rest) :: k)).finish undef = b.at (Act.put ⟨a.tmps, dclose t o.type c :: a.defers⟩ o.dst undef) (.inRegion ops rest :: k) := by rw [Frame.finish_at, ho]; rfl
  have hk' : (b.kind == CallKind.early) = false := by simpa using hk
  rw [stepG_oper ho hw, ← hfin]
  simp [stepG.apply, hr, he, G, Frame.at, hk', GStep.after, seen_none]

theorem stepG_unwind_close {todo : List Item} {ds : List Deferred} {t ty : TypeId} {c s r : Nat} {tm : Bool} (hd : a.defers = dclose t ty c :: ds) (hq : (P.funcs[b.fn]?).any (·.norace) = false) (hc : w.heap[c]? = some (.chan 0 #[] false s r tm)) :
    stepG P main (G { b.at a todo with mode := .returning } cs) w = .go (G { b.at ⟨a.tmps, ds⟩ todo with mode := .returning } cs) (w.shut c s r tm) #[⟨.obj c, false, true⟩, ⟨.obj c, true, true⟩] := by
  have hr : (invoke (.builtin .close #[t] ty #[false]) #[.chan (some c)]).run P w = .ok (.value (.tuple #[])) (w.shut c s r tm) := by
    simp only [invoke, builtin, Sem.run_bind, run_close_open (P := P) #[t] ty hc]
    rfl
  have he : (invoke (.builtin .close #[t] ty #[false]) #[.chan (some c)]).events P w #[] = #[⟨.obj c, false, true⟩, ⟨.obj c, true, true⟩] := by
    simp only [invoke, builtin, Sem.events_bind, events_close_open (P := P) #[t] ty hc, run_close_open (P := P) #[t] ty hc]
    rfl
  have hl : seen P b.fn #[⟨.obj c, false, true⟩, ⟨.obj c, true, true⟩] = #[⟨.obj c, false, true⟩, ⟨.obj c, true, true⟩] := seen_eq hq (by intro e he f; simp only [List.mem_toArray, List.mem_cons, List.not_mem_nil, or_false] at he; rcases he with rfl | rfl <;> simp)
  simp [G, stepG, unwind, callDeferred, Frame.at, hd, dclose, hr, he, GStep.after, hl]
end
end Go.Pair
namespace Go.Proofs.Ytkaapaepanhbgaa
open Go Go.Conc Go.Pair Go.RowKit

noncomputable def bot : Frame := { (default : Frame) with fn := Try.prog.funcs.size, defers := [], mode := .panicking [goexitEntry] }
noncomputable def body15 : Code := Try.f15.body.getD .skip
/-- The call that the go statement makes. -/
def call15 (W B Cv Bv : Nat) : Deferred := { target := .fn (.func 15) #[.pointer (some ⟨W, 0, none⟩), .pointer (some ⟨B, 0, none⟩), .pointer (some ⟨Cv, 0, none⟩), .pointer (some ⟨Bv, 0, none⟩)], args := #[] }

theorem born15 (W B Cv Bv : Nat) (w : World) : stepG Try.prog false (born Try.prog (call15 W B Cv Bv)) w =
    .go (G ((baseD 15).at ⟨#[.pointer (some ⟨W, 0, none⟩), .pointer (some ⟨B, 0, none⟩), .pointer (some ⟨Cv, 0, none⟩), .pointer (some ⟨Bv, 0, none⟩), undef, undef, undef, undef, undef], []⟩ [.code body15]) [bot]) w #[] := by
  simp [born, call15, stepG, unwind, callDeferred, invoke, callFunc, Try.func15, Try.f15, seen, GStep.after, G, Frame.enter, Frame.at, baseD, bot, body15]

/-- The literal's frame and the bottom frame end: it only leaves, and says nothing. -/
theorem quits15 (T : Array Value) : QuitsD Try.prog 2 0 (G { (baseD 15).at ⟨T, []⟩ [] with mode := .returning } [bot]) := by
  refine QuitsD.ctl (g' := G bot []) rfl (fun w => ?_) ?_
  · simp [G, stepG, unwind, doReturn, results, Frame.at, baseD, bot, Try.func15, Try.f15, seen, GStep.after, goexitEntry]
  refine QuitsD.ctl (g' := { G bot [] with status := .finished }) rfl (fun w => ?_) ⟨rfl, rfl⟩
  simp [G, stepG, unwind, bot, goexitEntry, Frame.catches]
  rfl

section
variable {E : EP} {k : Nat} {FB : List (List UInt8 × Value) → World → Prop} {PostA : List (List UInt8 × Value) → Goroutine → World → Prop}

theorem evFix (O : E.Ok) {i j : Nat} {o : Obj} {w : World} (h : E.Fix i = some o) (hns : ∀ a : Addr, a.block = i → ¬ E.Shun (.cell a)) (hw : w.heap[i]? = some o) : EvP (E.cfg k FB PostA).LB w ⟨.cell ⟨i, j, none⟩, false, false⟩ :=
  .inr ⟨_, _, rfl, ⟨_, rfl, .inr (.inr ⟨rfl, (O.fix i o h).still rfl (hns _ rfl)⟩)⟩, lt_of_get hw⟩

set_option maxRecDepth 100000 in
set_option maxHeartbeats 1000000 in
theorem tail15 (O : E.Ok) (OC : (E.cfg k FB PostA).Ok) {q : List UInt8} {t : Bool} (hFB : ∀ sent v w, BView E sent q v t w → FB sent w) (T : Array Value) (sent : List (List UInt8 × Value)) (v : Value) (w : World) (hF : BView E sent q v t w) :
    BClose (E.cfg k FB PostA) sent (G { (baseD 15).at ⟨T, [dclose 49 0 E.Ch, dcall 16 #[.pointer (some ⟨E.Wg, 0, none⟩)]]⟩ [] with mode := .returning } [bot]) w := by
  refine ⟨rfl, rfl, fun s r tm hch => ⟨_, stepG_unwind_close rfl (by rfl) hch, rfl, 103 + 1, ?_⟩⟩
  have hG := hF.rely O (put_ch (sent := sent) (w := w) OC (o := .chan 0 #[] true s r tm)).2
  refine goes_ctl (termsB (E.cfg k FB PostA) sent) rfl (fun w => stepG_unwind_enter (f := 16) rfl Try.func16 (by rfl) rfl) ?_
  refine goes_monoD (fun _ _ _ h => D0.db _ _ h) ?_
  have := doneW OC Try.wgLib rfl (c := { (baseD 15).at ⟨T, []⟩ [] with mode := .returning }) (cs := [bot]) (qt := 2) rfl (quits15 T) _ ⟨hG.wg, hFB _ _ _ hG⟩
  exact this
end
end Go.Proofs.Ytkaapaepanhbgaa

/- Each's goroutine, whole. -/
set_option linter.unusedVariables false
set_option linter.unusedSimpArgs false
namespace Go.Proofs.Ytkaapaepanhbgaa
open Go Go.Conc Go.Pair Go.RowKit
section
variable {E : EP} {k : Nat} {FB : List (List UInt8 × Value) → World → Prop} {PostA : List (List UInt8 × Value) → Goroutine → World → Prop}

noncomputable def ops15 : Array Oper := match body15 with | .seq _ (.seq _ (.region _ ops _)) => ops | _ => #[]
/-- Behind cut's return. -/
theorem after15 (O : E.Ok) (OC : (E.cfg k FB PostA).Ok) {q : List UInt8} {t : Bool} (hFB : ∀ sent v w, BView E sent q v t w → FB sent w) (T : Array Value) (ops : Array Oper) (o : Oper) (ho : ops[3]? = some o) (hd : o.dst = some 8) :
    AfterCut E k FB PostA (base 17) [(baseD 15).at ⟨T, [dclose 49 0 E.Ch, dcall 16 #[.pointer (some ⟨E.Wg, 0, none⟩)]]⟩ [.inRegion ops [3]], bot] q t := by
  intro sent
  have T' := termsB (E.cfg k FB PostA) sent
  refine ⟨0 + 1 + 1 + 1, fun v w u n bv todo hF => ?_⟩
  refine goes_ctl T' rfl (fun w => stepG_leave (v := .tuple #[]) rfl rfl Try.func17 (results_none (by rfl) _ _ _) (events_results_none (by rfl) _ _)) ?_
  rw [Frame.finish_at, ho]
  refine goes_ctl T' rfl (fun w => stepG_region_end) ?_
  refine goes_ctl T' rfl (fun w => stepG_end) ?_
  intro w₁ hR
  simp only [Option.bind_some, hd]
  exact tail15 O OC hFB (T.setIfInBounds 8 (.tuple #[])) sent v w₁ (hF.rely O hR)

set_option maxRecDepth 100000 in
set_option maxHeartbeats 1000000 in
theorem worker_c (O : E.Ok) (OC : (E.cfg k FB PostA).Ok) {p bs : List UInt8} {bodies : List (List UInt8)} {q : List UInt8} {t : Bool} (hC : Cuts p bs bodies q t) (hp : OkP p) {ba : Option Addr} {cap B Cv Bv : Nat} {tB tC tb : TypeId} (hs : SrcAt E ba bs cap)
    (hB : E.Fix B = some (.cells #[.chan (some E.Ch)] tB)) (hCv : E.Fix Cv = some (.cells #[.pointer (some ⟨E.R, 0, none⟩)] tC)) (hBv : E.Fix Bv = some (.cells #[.slice ba bs.length cap] tb))
    (hns_hB : ∀ a : Addr, a.block = B → ¬ E.Shun (.cell a)) (hns_hCv : ∀ a : Addr, a.block = Cv → ¬ E.Shun (.cell a)) (hns_hBv : ∀ a : Addr, a.block = Bv → ¬ E.Shun (.cell a))
    (hFB : ∀ sent v w, BView E sent q v t w → FB sent w) (v : Value) (w : World) (hF : BView E [] p v false w) : BSends (E.cfg k FB PostA) bodies [] (born Try.prog (call15 E.Wg B Cv Bv)) w := by
  have T := termsB (E.cfg k FB PostA) []
  have hc1 : ∀ w, BView E [] p v false w → w.cell? ⟨B, 0, none⟩ = some (.chan (some E.Ch)) := fun w h => by simp [World.cell?, h.src _ _ hB]
  have hc2 : ∀ w, BView E [] p v false w → w.cell? ⟨Cv, 0, none⟩ = some (.pointer (some ⟨E.R, 0, none⟩)) := fun w h => by simp [World.cell?, h.src _ _ hCv]
  have hc3 : ∀ w, BView E [] p v false w → w.cell? ⟨Bv, 0, none⟩ = some (.slice ba bs.length cap) := fun w h => by simp [World.cell?, h.src _ _ hBv]
  obtain ⟨m, hm⟩ := loop_c (b0 := base 17) (cs := [(baseD 15).at ⟨#[.pointer (some ⟨E.Wg, 0, none⟩), .pointer (some ⟨B, 0, none⟩), .pointer (some ⟨Cv, 0, none⟩), .pointer (some ⟨Bv, 0, none⟩), .chan (some E.Ch), .pointer (some ⟨E.R, 0, none⟩), .slice ba bs.length cap, .chan (some E.Ch), undef], [dclose 49 0 E.Ch, dcall 16 #[.pointer (some ⟨E.Wg, 0, none⟩)]]⟩ [.inRegion ops15 [3]], bot]) O rfl (by decide) hC (after15 O OC hFB _ _ _ rfl rfl) [] ba cap undef hp hs
  refine (bsends_iff _ _ _ _ _).2 ⟨m + 17, ?_⟩
  show Goes Try.prog false (RB (E.cfg k FB PostA)) (DB (E.cfg k FB PostA) []) (BStop (E.cfg k FB PostA) bodies []) (m + 17) _ w
  refine goes_ctl T rfl (fun w => born15 _ _ _ _ w) ?_
  simp only [body15, Try.f15, Option.getD_some]
  refine goes_ctl T rfl (fun w => stepG_seq) ?_
  refine goes_ctl T rfl (fun w => stepG_region) ?_
  simp only [List.size_toArray, List.length_cons, List.length_nil, Nat.reduceAdd, Nat.zero_add, List.range, List.range.loop]
  refine goes_ctl T rfl (fun w => stepG_defer rfl (by rfl) (by decide) rfl) ?_
  walk_nrm
  refine goes_ctl T rfl (fun w => stepG_region_end) ?_
  refine goes_ctl T rfl (fun w => stepG_seq) ?_
  refine goes_ctl T rfl (fun w => stepG_region) ?_
  simp only [List.size_toArray, List.length_cons, List.length_nil, Nat.reduceAdd, Nat.zero_add, List.range, List.range.loop]
  refine goes_op rfl (by rfl) (by decide) fun w₁ hR K' hK => ?_
  replace hF := hF.rely O hR
  clear hR
  have hc := hc1 _ hF
  go_simp
  refine hK _ _ ⟨?_, ?_⟩
  · refine db_read ?_
    co_evs (exact evFix O hB hns_hB (hF.src _ _ hB))
  clear hK K' hc
  try walk_nrm
  refine goes_ctl T rfl (fun w => stepG_defer_close (c := E.Ch) rfl (by rfl) (by decide) rfl rfl) ?_
  walk_nrm
  refine goes_ctl T rfl (fun w => stepG_region_end) ?_
  refine goes_ctl T rfl (fun w => stepG_region) ?_
  simp only [List.size_toArray, List.length_cons, List.length_nil, Nat.reduceAdd, Nat.zero_add, List.range, List.range.loop]
  refine goes_op rfl (by rfl) (by decide) fun w₁ hR K' hK => ?_
  replace hF := hF.rely O hR
  clear hR
  have hc := hc2 _ hF
  go_simp
  refine hK _ _ ⟨?_, ?_⟩
  · refine db_read ?_
    co_evs (exact evFix O hCv hns_hCv (hF.src _ _ hCv))
  clear hK K' hc
  try walk_nrm
  refine goes_op rfl (by rfl) (by decide) fun w₁ hR K' hK => ?_
  replace hF := hF.rely O hR
  clear hR
  have hc := hc3 _ hF
  go_simp
  refine hK _ _ ⟨?_, ?_⟩
  · refine db_read ?_
    co_evs (exact evFix O hBv hns_hBv (hF.src _ _ hBv))
  clear hK K' hc
  try walk_nrm
  refine goes_op rfl (by rfl) (by decide) fun w₁ hR K' hK => ?_
  replace hF := hF.rely O hR
  clear hR
  have hc := hc1 _ hF
  go_simp
  refine hK _ _ ⟨?_, ?_⟩
  · refine db_read ?_
    co_evs (exact evFix O hB hns_hB (hF.src _ _ hB))
  clear hK K' hc
  try walk_nrm
  refine Goes.step rfl fun w₁ hR => goes_call rfl (by rfl) (by decide) rfl Try.func17 (by rfl) rfl ⟨T.idle _, ?_⟩
  replace hF := hF.rely O hR
  clear hR
  refine goes_ctl T rfl (fun w => stepG_block) ?_
  refine goes_ctl T rfl (fun w => stepG_loop) ?_
  walk_nrm
  simp only [Try.ntmps17, List.map_toArray, List.map_cons, List.map_nil, List.size_toArray, List.length_cons, List.length_nil, Nat.reduceAdd, Nat.reduceSub, Array.replicate_succ, Array.replicate_zero, List.push_toArray, List.append_toArray, List.nil_append, List.cons_append]
  exact hm v w₁ (fun _ => undef) hF
end
end Go.Proofs.Ytkaapaepanhbgaa
