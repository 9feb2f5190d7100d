/- The Cutter's missing, in company. -/
import Derived.Test.YtlghcldiboecoaaGreatDoorQ29
import Derived.Conc.AppendWalk
import Derived.Laws.IdiomCopy
set_option linter.unusedVariables false
set_option linter.unusedSimpArgs false
set_option maxRecDepth 100000
namespace Go.Proofs.YtlghcldiboecoaaGreatDoor.Cu
open Go Go.Conc Go.Pair Go.RowKit

/-- How many bytes are still missing of what the part begins. -/
def missing (p : List UInt8) : Int := if p.length < 4 then 4 - p.length else 4 + uns (p.take 4) - p.length

section
variable {E : EP} {sent : List (List UInt8 × Value)} {p : List UInt8} {v : Value} {tl : Bool} {w w₁ : World} {k : Nat} {FB : List (List UInt8 × Value) → World → Prop} {PostA : List (List UInt8 × Value) → Goroutine → World → Prop}

theorem letsB : LetsDraw (DB (E.cfg k FB PostA) sent) := fun w => ⟨.at _ w _, fun _ _ ⟨r, h1, h2, h3⟩ => ⟨r, h1, h2, h3⟩, ⟨Nat.le_refl _, fun i o h => ⟨o, h, rfl⟩⟩, rfl, rfl, by simp⟩
theorem rbDraw (w : World) : RB (E.cfg k FB PostA) w { w with drawn := w.drawn + 1 } := ⟨.at _ w _, fun h => h⟩

set_option maxRecDepth 100000 in
theorem missing_short (O : E.Ok) (hp : p.length < 4) : ∃ m, ∀ v w, BView E sent p v tl w →
    CallsC Tryz.prog false (RB (E.cfg k FB PostA)) (DB (E.cfg k FB PostA) sent) 218 #[.pointer (some ⟨E.R, 0, none⟩)] m w fun x w' => x = .int .i64 (missing p) ∧ BView E sent p v tl w' := by
  have T := termsB (E.cfg k FB PostA) sent
  co_apply Exists.intro
  intro v w hF
  obtain ⟨va, vc, rfl⟩ := hF.shape
  co_apply callsC_of_wpC Tryz.func218 (by rfl) rfl
  simp only [Tryz.ntmps218, List.size_toArray, List.length_cons, List.length_nil, Nat.reduceAdd, Nat.reduceSub, Array.replicate_succ, Array.replicate_zero, List.push_toArray, List.append_toArray, List.nil_append, List.cons_append]
  have hlt : ((p.length : Nat) : Int) < 4 := by omega
  co_stmt T (BView.rely O) hF (co_quiet T)
  co_apply wpC_seq (n₂ := 0) T
  co_apply wpC_seq T
  co_reg T
  co_op (BView.rely O) hF (co_quiet T)
  co_op (BView.rely O) hF (co_quiet T)
  co_op (BView.rely O) hF (co_quiet T)
  co_opw (BView.rely O) hF (have hc := hF.c0) (refine db_read ?_; co_evs (exact evR hF 0))
  clear hc
  co_op (BView.rely O) hF (co_quiet T)
  co_op (BView.rely O) hF (co_quiet T)
  co_apply opsC_nil T
  co_then
  co_apply wpC_cond T (t := true) rfl
  simp only [if_true]
  co_apply wpC_seq T
  co_reg T
  co_op (BView.rely O) hF (co_quiet T)
  co_op (BView.rely O) hF (co_quiet T)
  co_op (BView.rely O) hF (co_quiet T)
  co_opw (BView.rely O) hF (have hc := hF.c0) (refine db_read ?_; co_evs (exact evR hF 0))
  clear hc
  co_op (BView.rely O) hF (co_quiet T)
  co_op (BView.rely O) hF (co_quiet T)
  co_op (BView.rely O) hF (co_quiet T)
  co_apply opsC_nil T
  co_then
  co_go T (BView.rely O) hF (co_quiet T)
  refine ⟨rfl, _, resultsC_tmp (by rfl) _, ?_, hF⟩
  simp only [missing, if_pos hp]
  show Value.int .i64 (IntKind.i64.wrap (4 - (p.length : Int))) = _
  congr 1
  rw [IntKind.wrap_i64]
  omega

set_option maxRecDepth 100000 in
set_option maxHeartbeats 1000000 in
theorem missing_long (O : E.Ok) (h4 : 4 ≤ p.length) (hbig : p.length < 4294967296) : ∃ m, ∀ v w, BView E sent p v tl w →
    CallsC Tryz.prog false (RB (E.cfg k FB PostA)) (DB (E.cfg k FB PostA) sent) 218 #[.pointer (some ⟨E.R, 0, none⟩)] m w fun x w' => x = .int .i64 (missing p) ∧ BView E sent p v tl w' := by
  have T := termsB (E.cfg k FB PostA) sent
  obtain ⟨nu, hu⟩ := length_long (sent := sent) (tl := tl) (k := k) (FB := FB) (PostA := PostA) O h4
  have hun := uns_lt p 4 h4
  co_apply Exists.intro
  intro v w hF
  obtain ⟨q, c, rfl, hc, hcm⟩ := hF.long (by omega)
  co_apply callsC_of_wpC Tryz.func218 (by rfl) rfl
  simp only [Tryz.ntmps218, List.size_toArray, List.length_cons, List.length_nil, Nat.reduceAdd, Nat.reduceSub, Array.replicate_succ, Array.replicate_zero, List.push_toArray, List.append_toArray, List.nil_append, List.cons_append]
  have hlt : ¬ ((p.length : Nat) : Int) < 4 := by omega
  co_stmt T (BView.rely O) hF (co_quiet T)
  co_apply wpC_seq T
  co_apply wpC_seq T
  co_reg T
  co_op (BView.rely O) hF (co_quiet T)
  co_op (BView.rely O) hF (co_quiet T)
  co_op (BView.rely O) hF (co_quiet T)
  co_opw (BView.rely O) hF (have hc := hF.c0) (refine db_read ?_; co_evs (exact evR hF 0))
  clear hc
  co_op (BView.rely O) hF (co_quiet T)
  co_op (BView.rely O) hF (co_quiet T)
  co_apply opsC_nil T
  co_then
  co_apply wpC_cond T (t := false) rfl
  simp only [Bool.false_eq_true, if_false]
  co_ctl T
  co_then
  co_apply wpC_seq T
  co_apply wpC_region_m T letsB (S := BView E sent p (.slice (some ⟨q, 0, none⟩) p.length c) tl) (nf := nu) (by first | kernel_rfl | rfl)
  intro _ hR
  replace hF := BView.rely O (BView.rely O hF hR) (rbDraw (k := k) (FB := FB) (PostA := PostA) _)
  clear hR
  simp only [List.size_toArray, List.length_cons, List.length_nil, Nat.reduceAdd, Nat.zero_add]
  co_applyP AnyM.take T (fun _ _ hz rz => (BView.rely O) hz rz) (fun _ _ _ hz rz => wpC_rely T hz rz) (i := 0) rfl (by first | kernel_rfl | decide +kernel) (by first | kernel_rfl | decide +kernel) (by first | kernel_rfl | decide +kernel)
    (.inl ⟨by rfl, fun _ hw => ⟨run_eq_of ?run1, ?guar1⟩⟩) hF ?rest1
  case run1 =>
    intro Kz hKz
    (skip)
    go_simp
    exact hKz
  case guar1 =>
    (skip)
    (co_quiet T)
  try walk_nrm
  co_applyP AnyM.take T (fun _ _ hz rz => (BView.rely O) hz rz) (fun _ _ _ hz rz => wpC_rely T hz rz) (i := 4) rfl (by first | kernel_rfl | decide +kernel) (by first | kernel_rfl | decide +kernel) (by first | kernel_rfl | decide +kernel)
    (.inl ⟨by rfl, fun _ hw => ⟨run_eq_of ?run2, ?guar2⟩⟩) hF ?rest2
  case run2 =>
    intro Kz hKz
    (skip)
    go_simp
    exact hKz
  case guar2 =>
    (skip)
    (co_quiet T)
  try walk_nrm
  co_applyP AnyM.take T (fun _ _ hz rz => (BView.rely O) hz rz) (fun _ _ _ hz rz => wpC_rely T hz rz) (i := 5) rfl (by first | kernel_rfl | decide +kernel) (by first | kernel_rfl | decide +kernel) (by first | kernel_rfl | decide +kernel)
    (.inl ⟨by rfl, fun _ hw => ⟨run_eq_of ?run3, ?guar3⟩⟩) hF ?rest3
  case run3 =>
    intro Kz hKz
    (skip)
    go_simp
    exact hKz
  case guar3 =>
    (skip)
    (co_quiet T)
  try walk_nrm
  co_applyP AnyM.take T (fun _ _ hz rz => (BView.rely O) hz rz) (fun _ _ _ hz rz => wpC_rely T hz rz) (i := 6) rfl (by first | kernel_rfl | decide +kernel) (by first | kernel_rfl | decide +kernel) (by first | kernel_rfl | decide +kernel)
    (.inl ⟨by rfl, fun _ hw => ⟨run_eq_of ?run4, ?guar4⟩⟩) hF ?rest4
  case run4 =>
    intro Kz hKz
    (skip)
    go_simp
    exact hKz
  case guar4 =>
    (skip)
    (co_quiet T)
  try walk_nrm
  co_applyP AnyM.take T (fun _ _ hz rz => (BView.rely O) hz rz) (fun _ _ _ hz rz => wpC_rely T hz rz) (i := 7) rfl (by first | kernel_rfl | decide +kernel) (by first | kernel_rfl | decide +kernel) (by first | kernel_rfl | decide +kernel)
    (.inl ⟨by rfl, fun _ hw => ⟨run_eq_of ?run5, ?guar5⟩⟩) hF ?rest5
  case run5 =>
    intro Kz hKz
    (have hc := hw.c0)
    go_simp
    exact hKz
  case guar5 =>
    (have hc := hw.c0)
    (refine db_read ?_; co_evs (exact evR hw 0))
  try walk_nrm
  co_applyP AnyM.take T (fun _ _ hz rz => (BView.rely O) hz rz) (fun _ _ _ hz rz => wpC_rely T hz rz) (i := 8) rfl (by first | kernel_rfl | decide +kernel) (by first | kernel_rfl | decide +kernel) (by first | kernel_rfl | decide +kernel)
    (.inl ⟨by rfl, fun _ hw => ⟨run_eq_of ?run6, ?guar6⟩⟩) hF ?rest6
  case run6 =>
    intro Kz hKz
    (skip)
    go_simp
    exact hKz
  case guar6 =>
    (skip)
    (co_quiet T)
  try walk_nrm
  refine AnyM.only (i := 1) (by first | kernel_rfl | decide +kernel) ?_
  co_apply OpM.call rfl (by rfl) rfl
  · walk_nrm
    exact hu _ _ hF
  rintro x w' ⟨rfl, hF⟩
  refine ⟨hF, ?_⟩
  walk_nrm
  co_applyP AnyM.take T (fun _ _ hz rz => (BView.rely O) hz rz) (fun _ _ _ hz rz => wpC_rely T hz rz) (i := 2) rfl (by first | kernel_rfl | decide +kernel) (by first | kernel_rfl | decide +kernel) (by first | kernel_rfl | decide +kernel)
    (.inl ⟨by rfl, fun _ hw => ⟨run_eq_of ?run7, ?guar7⟩⟩) hF ?rest7
  case run7 =>
    intro Kz hKz
    (skip)
    go_simp
    exact hKz
  case guar7 =>
    (skip)
    (co_quiet T)
  try walk_nrm
  co_applyP AnyM.take T (fun _ _ hz rz => (BView.rely O) hz rz) (fun _ _ _ hz rz => wpC_rely T hz rz) (i := 3) rfl (by first | kernel_rfl | decide +kernel) (by first | kernel_rfl | decide +kernel) (by first | kernel_rfl | decide +kernel)
    (.inl ⟨by rfl, fun _ hw => ⟨run_eq_of ?run8, ?guar8⟩⟩) hF ?rest8
  case run8 =>
    intro Kz hKz
    (skip)
    go_simp
    exact hKz
  case guar8 =>
    (skip)
    (co_quiet T)
  try walk_nrm
  co_applyP AnyM.take T (fun _ _ hz rz => (BView.rely O) hz rz) (fun _ _ _ hz rz => wpC_rely T hz rz) (i := 9) rfl (by first | kernel_rfl | decide +kernel) (by first | kernel_rfl | decide +kernel) (by first | kernel_rfl | decide +kernel)
    (.inl ⟨by rfl, fun _ hw => ⟨run_eq_of ?run9, ?guar9⟩⟩) hF ?rest9
  case run9 =>
    intro Kz hKz
    (skip)
    go_simp
    exact hKz
  case guar9 =>
    (skip)
    (co_quiet T)
  try walk_nrm
  co_applyP AnyM.take T (fun _ _ hz rz => (BView.rely O) hz rz) (fun _ _ _ hz rz => wpC_rely T hz rz) (i := 10) rfl (by first | kernel_rfl | decide +kernel) (by first | kernel_rfl | decide +kernel) (by first | kernel_rfl | decide +kernel)
    (.inl ⟨by rfl, fun _ hw => ⟨run_eq_of ?run10, ?guar10⟩⟩) hF ?rest10
  case run10 =>
    intro Kz hKz
    (skip)
    go_simp
    exact hKz
  case guar10 =>
    (skip)
    (co_quiet T)
  try walk_nrm
  refine AnyM.all (by first | kernel_rfl | decide +kernel) ?_ _
  co_then
  co_go T (BView.rely O) hF (co_quiet T)
  refine ⟨rfl, _, resultsC_tmp (by rfl) _, ?_, hF⟩
  simp only [missing, if_neg (show ¬ p.length < 4 by omega)]
  show Value.int .i64 _ = _
  congr 1
  simp only [IntKind.wrap_i64]
  omega

theorem missing_any (O : E.Ok) (hbig : p.length < 4294967296) : ∃ m, ∀ v w, BView E sent p v tl w →
    CallsC Tryz.prog false (RB (E.cfg k FB PostA)) (DB (E.cfg k FB PostA) sent) 218 #[.pointer (some ⟨E.R, 0, none⟩)] m w fun x w' => x = .int .i64 (missing p) ∧ BView E sent p v tl w' := by
  by_cases h : p.length < 4
  · exact missing_short O h
  · exact missing_long O (by omega) hbig

end
end Go.Proofs.YtlghcldiboecoaaGreatDoor.Cu

/- What append and copy list is plain: no entry at a cell is marked as one of sync. What copy lists. -/
set_option linter.unusedVariables false
set_option linter.unusedSimpArgs false
namespace Go.Pair
open Go Go.Conc

def Event.flat (e : Event) : Prop := e.sync = false ∨ ∃ m, e.loc = .mark m
/-- Whatever the world: every entry that it adds is flat. -/
def Flat {α : Type} (P : Program) (x : Sem α) : Prop := ∀ w es, ∀ ev ∈ x.events P w es, ev ∈ es ∨ Event.flat ev

section
variable {P : Program} {α β : Type}
theorem Flat.pure (a : α) : Flat P (Pure.pure a : Sem α) := fun _ _ _ h => .inl h
theorem Flat.stuck (s : String) : Flat P (Go.stuck s : Sem α) := fun _ _ _ h => .inl h
theorem Flat.unsupported (u : Unsupported) : Flat P (Go.unsupported u : Sem α) := fun _ _ _ h => .inl h
theorem Flat.goPanic (v : Value) : Flat P (Go.goPanic v : Sem α) := fun _ _ _ h => .inl h
theorem Flat.bind {x : Sem α} {f : α → Sem β} (hx : Flat P x) (hf : ∀ a, Flat P (f a)) : Flat P (x >>= f) := fun w es ev h => by
  rw [Sem.events_bind] at h
  cases hr : x.run P w with
  | halt y w' => rw [hr] at h; exact hx w es ev h
  | ok a w' =>
    rw [hr] at h
    rcases hf a w' _ ev h with h | h
    · exact hx w es ev h
    · exact .inr h

theorem Flat.ite {c : Prop} [Decidable c] {x y : Sem α} (hx : Flat P x) (hy : Flat P y) : Flat P (if c then x else y) := by split <;> assumption
theorem Flat.load (a : Addr) : Flat P (load a) := fun w es ev h => by
  rw [events_load] at h
  split at h
  · rcases Array.mem_push.1 h with h | rfl
    · exact .inl h
    · exact .inr (.inl rfl)
  · split at h
    · rcases Array.mem_append.1 h with h | h
      · exact .inl h
      · obtain ⟨x, _, rfl⟩ := Array.mem_map.1 h
        exact .inr (.inl rfl)
    · exact .inl h

theorem Flat.store (a : Addr) (v : Value) : Flat P (store a v) := fun w es ev h => by
  by_cases hv : v.oneCell' = true
  · rw [events_store P w es a v _ hv] at h
    split at h
    · split at h
      · exact .inl h
      · rcases Array.mem_push.1 h with h | rfl
        · exact .inl h
        · exact .inr (.inl rfl)
    · split at h
      · rcases Array.mem_append.1 h with h | h
        · exact .inl h
        · obtain ⟨x, _, rfl⟩ := Array.mem_map.1 h
          exact .inr (.inl rfl)
      · exact .inl h
  · cases v <;> first | (simp [Value.oneCell'] at hv; done) | exact .inl h

theorem Flat.loadCellsFrom (a : Addr) : ∀ (n i : Nat) (acc : Array Value), Flat P (loadCellsFrom a i n acc)
  | 0, _, _ => .pure _
  | n + 1, i, acc => .bind (.load _) fun v => Flat.loadCellsFrom a n (i + 1) (acc.push v)

theorem Flat.storeCells (a : Addr) : ∀ (vs : List Value) (i : Nat), Flat P (storeCells a vs i)
  | [], _ => .pure _
  | v :: rest, i => .bind (.store _ v) fun _ => Flat.storeCells a rest (i + 1)

theorem Flat.firstCells (size n : Nat) (v : Value) : Flat P (Builtin.firstCells size n v) := by
  unfold Builtin.firstCells
  split
  · exact .loadCellsFrom _ _ _ _
  · exact .pure _
  · exact .pure _
  · exact .stuck _

theorem Flat.lenOf (v : Value) : Flat P (Builtin.lenOf v) := by
  unfold Builtin.lenOf
  split <;> first | exact .pure _ | exact .stuck _

theorem Flat.typeInfo (t : TypeId) : Flat P (typeInfo t) := fun w es ev h => by rw [events_typeInfo] at h; exact .inl h
theorem Flat.program : Flat P Go.program := fun _ _ _ h => .inl h
theorem Flat.underlying (t : TypeId) : Flat P (underlying t) := by
  unfold Go.underlying
  refine .bind .program fun p => ?_
  split <;> first | exact .pure _ | exact .stuck _

theorem Flat.sizeOf (t : TypeId) : Flat P (Go.sizeOf t) := .bind (.typeInfo t) fun _ => .pure _
theorem Flat.zeroValue (t : TypeId) : Flat P (zeroValue t) := by
  unfold Go.zeroValue
  refine .bind (.typeInfo t) fun i => ?_
  split <;> first | exact .pure _ | exact .unsupported _

theorem Flat.choose (q : Question) : Flat P (choose q) := fun w es ev h => by rw [events_choose] at h; exact .inl h
theorem Flat.mark (m : Mark) : Flat P (mark m) := fun w es ev h => by
  rw [events_mark] at h
  rcases Array.mem_push.1 h with h | rfl
  · exact .inl h
  · exact .inr (.inr ⟨m, rfl⟩)

theorem Flat.askRoom (b : Nat) : Flat P (askRoom b) := by
  unfold Go.askRoom
  split
  · exact .mark _
  · exact .pure _

theorem Flat.newRow (t : TypeId) (c : Array Value) : Flat P (newRow t c) := .bind (fun _ _ _ h => .inl h) fun _ => .pure _

/-- What copy lists is flat. -/
theorem Flat.copy (ats : Array TypeId) (ty : TypeId) (args : Array Value) : Flat P (Builtin.copy_ ats ty args) := by
  unfold Builtin.copy_
  repeat' first
    | exact Flat.pure _ | exact Flat.stuck _ | exact Flat.lenOf _ | exact Flat.underlying _ | exact Flat.sizeOf _ | exact Flat.firstCells _ _ _ | exact Flat.storeCells _ _ _
    | refine Flat.bind ?_ fun _ => ?_
    | split

theorem Flat.asIntOf (v : Value) : Flat P (asIntOf v) := by
  unfold Go.asIntOf
  repeat' (first | with_reducible exact Flat.pure _ | with_reducible exact Flat.stuck _ | with_reducible exact Flat.unsupported _ | with_reducible exact Flat.goPanic _ | with_reducible exact Flat.lenOf _ | with_reducible exact Flat.underlying _ | with_reducible exact Flat.sizeOf _ | with_reducible exact Flat.typeInfo _ | with_reducible exact Flat.zeroValue _ | with_reducible exact Flat.choose _ | with_reducible exact Flat.askRoom _ | with_reducible exact Flat.mark _ | with_reducible exact Flat.newRow _ _ | with_reducible exact Flat.firstCells _ _ _ | with_reducible exact Flat.storeCells _ _ _ | with_reducible refine Flat.bind ?_ fun _ => ?_ | with_reducible refine Flat.ite ?_ ?_ | split | dsimp only)

theorem Flat.asInt (v : Value) : Flat P (asInt v) := .bind (.asIntOf v) fun _ => .pure _
theorem Flat.shape (r : Nat) : Flat P (shape r) := fun _ _ _ h => .inl h
theorem Flat.frozen (a : Addr) : Flat P (frozen a) := fun _ _ _ h => .inl h
theorem Flat.holdsCells (a : Addr) (n : Nat) : Flat P (Builtin.holdsCells a n) := by
  unfold Builtin.holdsCells
  refine .bind (.shape _) fun x => ?_
  split <;> exact .pure _

theorem Flat.mayShare (a b c : Nat) (x : Option Addr) (v : Value) : Flat P (Builtin.mayShare a b c x v) := by
  unfold Builtin.mayShare
  repeat' first | with_reducible exact Flat.holdsCells _ _ | with_reducible exact Flat.frozen _ | (first | with_reducible exact Flat.pure _ | with_reducible exact Flat.stuck _ | with_reducible exact Flat.unsupported _ | with_reducible exact Flat.goPanic _ | with_reducible exact Flat.lenOf _ | with_reducible exact Flat.underlying _ | with_reducible exact Flat.sizeOf _ | with_reducible exact Flat.typeInfo _ | with_reducible exact Flat.zeroValue _ | with_reducible exact Flat.choose _ | with_reducible exact Flat.askRoom _ | with_reducible exact Flat.mark _ | with_reducible exact Flat.newRow _ _ | with_reducible exact Flat.firstCells _ _ _ | with_reducible exact Flat.storeCells _ _ _ | with_reducible refine Flat.bind ?_ fun _ => ?_ | with_reducible refine Flat.ite ?_ ?_ | split | dsimp only)

theorem Flat.panics (e : String) : Flat P (runtimePanic (.error e) : Sem α) := .bind .program fun _ => .goPanic _
set_option maxHeartbeats 2000000 in
/-- What append lists is flat. -/
theorem Flat.append (ats : Array TypeId) (ty : TypeId) (args : Array Value) : Flat P (Builtin.append_ ats ty args) := by
  unfold Builtin.append_
  repeat' first | with_reducible exact Flat.panics _ | with_reducible exact Flat.mayShare _ _ _ _ _ | with_reducible exact Flat.asInt _ | (first | with_reducible exact Flat.pure _ | with_reducible exact Flat.stuck _ | with_reducible exact Flat.unsupported _ | with_reducible exact Flat.goPanic _ | with_reducible exact Flat.lenOf _ | with_reducible exact Flat.underlying _ | with_reducible exact Flat.sizeOf _ | with_reducible exact Flat.typeInfo _ | with_reducible exact Flat.zeroValue _ | with_reducible exact Flat.choose _ | with_reducible exact Flat.askRoom _ | with_reducible exact Flat.mark _ | with_reducible exact Flat.newRow _ _ | with_reducible exact Flat.firstCells _ _ _ | with_reducible exact Flat.storeCells _ _ _ | with_reducible refine Flat.bind ?_ fun _ => ?_ | with_reducible refine Flat.ite ?_ ?_ | split | dsimp only)

/-- Where copy reads and writes. -/
theorem events_copy_where (w : World) (dT sT ty elem : TypeId) (g o dLen dCap : Nat) (a : Addr) (sLen sCap : Nat) (cur : Array Value) (t : TypeId) (cs : List Value)
    (hu : P.underlying dT = some (.slice elem)) (hs : (P.info? elem).map (·.size) = some 1) (hn : cs.length = Nat.min sLen dLen)
    (hsrc : ∀ j v, cs[j]? = some v → w.cell? (a.add j) = some v) (hg : w.heap[g]? = some (.cells cur t (0, 0))) (hl : o + cs.length ≤ cur.size) (h1 : ∀ v ∈ cs, v.oneCell' = true) :
    ∀ ev ∈ (Builtin.copy_ #[dT, sT] ty #[.slice (some ⟨g, o, none⟩) dLen dCap, .slice (some a) sLen sCap]).events P w #[], ∃ ad, ev.loc = .cell ad ∧ ((ev.write = false ∧ ad.block = a.block) ∨ ad.block = g) := by
  intro ev hev
  cases hq : P.info? elem with
  | none => simp [hq] at hs
  | some i =>
    have hi : i.size = 1 := by simpa [hq] using hs
    have hf := run_firstCells_some (P := P) w 1 cs.length a sLen sCap cs (by simp) hsrc
    simp [Builtin.copy_, run_underlying hu, Builtin.lenOf, sizeOf, typeInfo, hq, hi, ← hn, hf] at hev
    rcases events_storeCells_at (P := P) g o t cs 0 cur w _ hg (by simpa using hl) h1 ev hev with h | ⟨ad, h2, h3⟩
    · rcases events_firstCells_in (P := P) (fun b => b = a.block) 1 cs.length (.slice (some a) sLen sCap) w #[] (fun a' l c e => by cases e; exact ⟨rfl, fun j hj => isSome_of_list hsrc (by simpa using hj)⟩) ev h with h | ⟨ad, h4, h5, h6⟩
      · simp at h
      · exact ⟨ad, h4, .inl ⟨h5, h6⟩⟩
    · exact ⟨ad, h2, .inr h3⟩

theorem flat_cell {ev : Event} {ad : Addr} (h : Event.flat ev) (hl : ev.loc = .cell ad) : ev = ⟨.cell ad, ev.write, false⟩ := by
  rcases h with h | ⟨m, h⟩
  · cases ev; simp_all
  · rw [h] at hl; cases hl

end
end Go.Pair

/- What the worker may do: a row of its own made, a row of its own turned. -/
set_option linter.unusedVariables false
set_option linter.unusedSimpArgs false
set_option maxRecDepth 100000
namespace Go.Pair
open Go Go.Conc

theorem setCell_row {w : World} {b i : Nat} {cur : Array Value} {t : TypeId} {v : Value} {f : Nat × Nat} (h : w.heap[b]? = some (.cells cur t f)) : (w.setCell ⟨b, i, none⟩ v).heap[b]? = some (.cells (cur.setIfInBounds i v) t f) := by
  simp [World.setCell, Array.getElem?_modify, h]

theorem setCells_other {i b : Nat} (hi : i ≠ b) : ∀ (vs : List Value) (o : Nat) (w : World), (w.setCells b o vs).heap[i]? = w.heap[i]?
  | [], _, _ => rfl
  | v :: r, o, w => by rw [World.setCells, setCells_other hi r]; exact set_other _ _ hi

theorem setCells_size (b : Nat) : ∀ (vs : List Value) (o : Nat) (w : World), (w.setCells b o vs).heap.size = w.heap.size
  | [], _, _ => rfl
  | v :: r, o, w => by rw [World.setCells, setCells_size b r]; exact set_size _ _

theorem setCells_rest (b : Nat) : ∀ (vs : List Value) (o : Nat) (w : World), (w.setCells b o vs).tape = w.tape ∧ (w.setCells b o vs).os = w.os ∧ (w.setCells b o vs).output = w.output
  | [], _, _ => ⟨rfl, rfl, rfl⟩
  | v :: r, o, w => by rw [World.setCells]; exact setCells_rest b r (o + 1) _

theorem setCells_row (b : Nat) (t : TypeId) (f : Nat × Nat) : ∀ (vs : List Value) (o : Nat) (w : World) (cur : Array Value), w.heap[b]? = some (.cells cur t f) → o + vs.length ≤ cur.size →
    ∃ cur', (w.setCells b o vs).heap[b]? = some (.cells cur' t f) ∧ cur'.size = cur.size ∧ (∀ j (hj : j < vs.length), cur'[o + j]? = some vs[j]) ∧ ∀ i, (i < o ∨ o + vs.length ≤ i) → cur'[i]? = cur[i]?
  | [], o, w, cur, h, hl => ⟨cur, h, rfl, fun j hj => by simp at hj, fun _ _ => rfl⟩
  | v :: r, o, w, cur, h, hl => by
    simp at hl
    obtain ⟨cur', h1, h2, h3, h4⟩ := setCells_row b t f r (o + 1) (w.setCell ⟨b, o, none⟩ v) (cur.setIfInBounds o v) (setCell_row h) (by simp; omega)
    refine ⟨cur', by rw [World.setCells]; exact h1, by simpa using h2, fun j hj => ?_, fun i hi => ?_⟩
    · cases j with
      | zero =>
        show cur'[o]? = some v
        rw [h4 o (.inl (Nat.lt_succ_self o))]
        simp [show o < cur.size by omega]
      | succ j => have := h3 j (by simpa using hj); rw [show o + 1 + j = o + (j + 1) by omega] at this; simpa using this
    · rw [h4 i (by simp at hi; omega)]
      have : o ≠ i := by simp at hi; omega
      simp [Array.getElem?_setIfInBounds_ne this]

end Go.Pair
namespace Go.Proofs.YtlghcldiboecoaaGreatDoor.Cu
open Go Go.Conc Go.Pair Go.RowKit
section
variable {E : EP} {sent : List (List UInt8 × Value)} {p : List UInt8} {v : Value} {tl : Bool} {w w' : World} {k : Nat} {FB : List (List UInt8 × Value) → World → Prop} {PostA : List (List UInt8 × Value) → Goroutine → World → Prop}

/-- A new object. -/
theorem db_alloc (O : E.Ok) (hl : E.Low ≤ w.heap.size) (o : Obj) {es : Array Event} (he : ∀ e ∈ es, EvP (E.cfg k FB PostA).LB (w.alloc o) e) : DB (E.cfg k FB PostA) sent w (w.alloc o) es := by
  have old : ∀ i x, w.heap[i]? = some x → (w.alloc o).heap[i]? = some x := fun i x h => by
    have := lt_of_get h
    show (w.heap.push o)[i]? = some x
    rw [Array.getElem?_push, if_neg (by omega)]
    exact h
  have low : ∀ i, i < E.Low → (w.alloc o).heap[i]? = w.heap[i]? := fun i h => by
    show (w.heap.push o)[i]? = w.heap[i]?
    rw [Array.getElem?_push, if_neg (by omega)]
  have sz : w.heap.size ≤ (w.alloc o).heap.size := by
    show w.heap.size ≤ (w.heap.push o).size
    rw [Array.size_push]
    omega
  refine ⟨⟨rfl, rfl, rfl, sz, fun i x h _ => old i x h⟩, fun x _ ⟨r, h1, h2, h3⟩ => ⟨r, h1, h2, old r _ h3⟩, ⟨sz, fun i x h => ⟨x, old i x h, rfl⟩⟩, low _ O.g, low _ O.c, he⟩

/-- A row of the worker's that no body lies in. -/
structure OwnRow (E : EP) (sent : List (List UInt8 × Value)) (w : World) (r : Nat) : Prop where
  mine : r = E.R ∨ r = E.pb ∨ (E.Low ≤ r ∧ kindAt w r 5)
  bare : ∀ x ∈ sent, ∀ n m, x.2 ≠ .slice (some ⟨r, 0, none⟩) n m

theorem OwnRow.ne (O : E.Ok) {r : Nat} (h : OwnRow E sent w r) : r ≠ E.Wg ∧ r ≠ E.Ch := by
  have := O.g
  have := O.c
  rcases h.mine with rfl | rfl | ⟨h, _⟩
  · exact ⟨O.rg, O.rc⟩
  · exact ⟨O.pg, O.pc⟩
  · exact ⟨by omega, by omega⟩

theorem db_row (O : E.Ok) {r : Nat} (h : OwnRow E sent w r) (ht : w'.tape = w.tape ∧ w'.os = w.os ∧ w'.output = w.output) (hsz : w'.heap.size = w.heap.size) (ho : ∀ i, i ≠ r → w'.heap[i]? = w.heap[i]?)
    (hk : ∀ o, w.heap[r]? = some o → ∃ o', w'.heap[r]? = some o' ∧ kindOf o' = kindOf o) {es : Array Event} (he : ∀ e ∈ es, EvP (E.cfg k FB PostA).LB w' e) : DB (E.cfg k FB PostA) sent w w' es := by
  refine ⟨⟨ht.1, ht.2.1, ht.2.2, Nat.le_of_eq hsz.symm, fun i o h1 h2 => ?_⟩, fun x hx ⟨b, h1, h2, h3⟩ => ⟨b, h1, h2, ?_⟩, ⟨Nat.le_of_eq hsz.symm, fun i o h1 => ?_⟩, ho _ (Ne.symm (h.ne O).1), ho _ (Ne.symm (h.ne O).2), he⟩
  · by_cases hi : i = r
    · exfalso
      subst hi
      obtain ⟨_, _, n1, n2, n3⟩ := h2
      rcases h.mine with e | e | ⟨e, o', e1, e2⟩
      · exact n1 e
      · exact n2 e
      · rw [h1] at e1
        cases e1
        exact n3 ⟨e, e2⟩
    · rw [ho i hi]; exact h1
  · by_cases hb : b = r
    · subst hb; exact absurd h2 (h.bare x hx _ _)
    · rw [ho b hb]; exact h3
  · by_cases hi : i = r
    · subst hi; exact hk o h1
    · exact ⟨o, by rw [ho i hi]; exact h1, rfl⟩

theorem db_cells (O : E.Ok) {r o : Nat} (h : OwnRow E sent w r) {cur : Array Value} {t : TypeId} {f : Nat × Nat} (hr : w.heap[r]? = some (.cells cur t f)) (vs : List Value) (hl : o + vs.length ≤ cur.size) {es : Array Event} (he : ∀ e ∈ es, EvP (E.cfg k FB PostA).LB (w.setCells r o vs) e) :
    DB (E.cfg k FB PostA) sent w (w.setCells r o vs) es :=
  db_row O h (setCells_rest r vs o w) (setCells_size r vs o w) (fun i hi => setCells_other hi vs o w) (fun x hx => by
    obtain ⟨cur', h1, _⟩ := setCells_row r t f vs o w cur hr hl
    rw [hr] at hx
    cases hx
    exact ⟨_, h1, rfl⟩) he

end
end Go.Proofs.YtlghcldiboecoaaGreatDoor.Cu
