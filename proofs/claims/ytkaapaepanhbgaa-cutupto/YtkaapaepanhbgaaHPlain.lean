/- What append and copy list is plain: no entry at a cell is marked as one of sync. What copy lists. -/
import Derived.Conc.AppendWalk
import Derived.Laws.IdiomCopy
set_option linter.unusedVariables false
set_option linter.unusedSimpArgs false
namespace Go.Pair
open Go Go.Conc

def Event.flat (e : Event) : Prop := e.sync = false ∨ ∃ m, e.loc = .mark m
/-- Whatever the world: every entry that it adds is flat. -/
def Flat {α : Type} (P : Program) (x : Sem α) : Prop := ∀ w es, ∀ ev ∈ x.events P w es, ev ∈ es ∨ Event.flat ev

section
variable {P : Program} {α β : Type}
theorem Flat.pure (a : α) : Flat P (Pure.pure a : Sem α) := fun _ _ _ h => .inl h
theorem Flat.pure' (a : α) : Flat P (Sem.pure a : Sem α) := fun _ _ _ h => .inl h
theorem Flat.halt (h : Halt) : Flat P (Sem.halt h : Sem α) := fun _ _ _ h => .inl h
theorem Flat.stuck (s : String) : Flat P (Go.stuck s : Sem α) := fun _ _ _ h => .inl h
theorem Flat.unsupported (u : Unsupported) : Flat P (Go.unsupported u : Sem α) := fun _ _ _ h => .inl h
theorem Flat.goPanic (v : Value) : Flat P (Go.goPanic v : Sem α) := fun _ _ _ h => .inl h
theorem Flat.bind {x : Sem α} {f : α → Sem β} (hx : Flat P x) (hf : ∀ a, Flat P (f a)) : Flat P (x >>= f) := fun w es ev h => by
  rw [Sem.events_bind] at h
  cases hr : x.run P w with
  | halt y w' => rw [hr] at h; exact hx w es ev h
  | ok a w' =>
    rw [hr] at h
    rcases hf a w' _ ev h with h | h
    · exact hx w es ev h
    · exact .inr h
theorem Flat.ite {c : Prop} [Decidable c] {x y : Sem α} (hx : Flat P x) (hy : Flat P y) : Flat P (if c then x else y) := by split <;> assumption
theorem Flat.load (a : Addr) : Flat P (load a) := fun w es ev h => by
  rw [events_load] at h
  split at h
  · rcases Array.mem_push.1 h with h | rfl
    · exact .inl h
    · exact .inr (.inl rfl)
  · split at h
    · rcases Array.mem_append.1 h with h | h
      · exact .inl h
      · obtain ⟨x, _, rfl⟩ := Array.mem_map.1 h
        exact .inr (.inl rfl)
    · exact .inl h
theorem Flat.store (a : Addr) (v : Value) : Flat P (store a v) := fun w es ev h => by
  by_cases hv : v.oneCell' = true
  · rw [events_store P w es a v _ hv] at h
    split at h
    · split at h
      · exact .inl h
      · rcases Array.mem_push.1 h with h | rfl
        · exact .inl h
        · exact .inr (.inl rfl)
    · split at h
      · rcases Array.mem_append.1 h with h | h
        · exact .inl h
        · obtain ⟨x, _, rfl⟩ := Array.mem_map.1 h
          exact .inr (.inl rfl)
      · exact .inl h
  · cases v <;> first | (simp [Value.oneCell'] at hv; done) | exact .inl h
theorem Flat.loadCellsFrom (a : Addr) : ∀ (n i : Nat) (acc : Array Value), Flat P (loadCellsFrom a i n acc)
  | 0, _, _ => .pure _
  | n + 1, i, acc => .bind (.load _) fun v => Flat.loadCellsFrom a n (i + 1) (acc.push v)
theorem Flat.storeCells (a : Addr) : ∀ (vs : List Value) (i : Nat), Flat P (storeCells a vs i)
  | [], _ => .pure _
  | v :: rest, i => .bind (.store _ v) fun _ => Flat.storeCells a rest (i + 1)
theorem Flat.firstCells (size n : Nat) (v : Value) : Flat P (Builtin.firstCells size n v) := by
  unfold Builtin.firstCells
  split
  · exact .loadCellsFrom _ _ _ _
  · exact .pure _
  · exact .pure _
  · exact .stuck _
theorem Flat.lenOf (v : Value) : Flat P (Builtin.lenOf v) := by
  unfold Builtin.lenOf
  split <;> first | exact .pure _ | exact .stuck _
theorem Flat.typeInfo (t : TypeId) : Flat P (typeInfo t) := fun w es ev h => by rw [events_typeInfo] at h; exact .inl h
theorem Flat.program : Flat P Go.program := fun _ _ _ h => .inl h
theorem Flat.underlying (t : TypeId) : Flat P (underlying t) := by
  unfold Go.underlying
  refine .bind .program fun p => ?_
  split <;> first | exact .pure _ | exact .stuck _
theorem Flat.sizeOf (t : TypeId) : Flat P (Go.sizeOf t) := .bind (.typeInfo t) fun _ => .pure _
theorem Flat.zeroValue (t : TypeId) : Flat P (zeroValue t) := by
  unfold Go.zeroValue
  refine .bind (.typeInfo t) fun i => ?_
  split <;> first | exact .pure _ | exact .unsupported _
theorem Flat.choose (q : Question) : Flat P (choose q) := fun w es ev h => by rw [events_choose] at h; exact .inl h
theorem Flat.mark (m : Mark) : Flat P (mark m) := fun w es ev h => by
  rw [events_mark] at h
  rcases Array.mem_push.1 h with h | rfl
  · exact .inl h
  · exact .inr (.inr ⟨m, rfl⟩)
theorem Flat.askRoom (b : Nat) : Flat P (askRoom b) := by
  unfold Go.askRoom
  split
  · exact .mark _
  · exact .pure _
theorem Flat.newRow (t : TypeId) (c : Array Value) : Flat P (newRow t c) := .bind (fun _ _ _ h => .inl h) fun _ => .pure _

/-- What copy lists is flat. -/
theorem Flat.copy (ats : Array TypeId) (ty : TypeId) (args : Array Value) : Flat P (Builtin.copy_ ats ty args) := by
  unfold Builtin.copy_
  repeat' first
    | exact Flat.pure _ | exact Flat.stuck _ | exact Flat.lenOf _ | exact Flat.underlying _ | exact Flat.sizeOf _ | exact Flat.firstCells _ _ _ | exact Flat.storeCells _ _ _
    | refine Flat.bind ?_ fun _ => ?_
    | split
theorem Flat.asIntOf (v : Value) : Flat P (asIntOf v) := by
  unfold Go.asIntOf
  repeat' (first | with_reducible exact Flat.pure _ | with_reducible exact Flat.stuck _ | with_reducible exact Flat.unsupported _ | with_reducible exact Flat.goPanic _ | with_reducible exact Flat.lenOf _ | with_reducible exact Flat.underlying _ | with_reducible exact Flat.sizeOf _ | with_reducible exact Flat.typeInfo _ | with_reducible exact Flat.zeroValue _ | with_reducible exact Flat.choose _ | with_reducible exact Flat.askRoom _ | with_reducible exact Flat.mark _ | with_reducible exact Flat.newRow _ _ | with_reducible exact Flat.firstCells _ _ _ | with_reducible exact Flat.storeCells _ _ _ | with_reducible refine Flat.bind ?_ fun _ => ?_ | with_reducible refine Flat.ite ?_ ?_ | split | dsimp only)
theorem Flat.asInt (v : Value) : Flat P (asInt v) := .bind (.asIntOf v) fun _ => .pure _
theorem Flat.shape (r : Nat) : Flat P (shape r) := fun _ _ _ h => .inl h
theorem Flat.frozen (a : Addr) : Flat P (frozen a) := fun _ _ _ h => .inl h
theorem Flat.holdsCells (a : Addr) (n : Nat) : Flat P (Builtin.holdsCells a n) := by
  unfold Builtin.holdsCells
  refine .bind (.shape _) fun x => ?_
  split <;> exact .pure _
theorem Flat.mayShare (a b c : Nat) (x : Option Addr) (v : Value) : Flat P (Builtin.mayShare a b c x v) := by
  unfold Builtin.mayShare
  repeat' first | with_reducible exact Flat.holdsCells _ _ | with_reducible exact Flat.frozen _ | (first | with_reducible exact Flat.pure _ | with_reducible exact Flat.stuck _ | with_reducible exact Flat.unsupported _ | with_reducible exact Flat.goPanic _ | with_reducible exact Flat.lenOf _ | with_reducible exact Flat.underlying _ | with_reducible exact Flat.sizeOf _ | with_reducible exact Flat.typeInfo _ | with_reducible exact Flat.zeroValue _ | with_reducible exact Flat.choose _ | with_reducible exact Flat.askRoom _ | with_reducible exact Flat.mark _ | with_reducible exact Flat.newRow _ _ | with_reducible exact Flat.firstCells _ _ _ | with_reducible exact Flat.storeCells _ _ _ | with_reducible refine Flat.bind ?_ fun _ => ?_ | with_reducible refine Flat.ite ?_ ?_ | split | dsimp only)
theorem Flat.panics (e : String) : Flat P (runtimePanic (.error e) : Sem α) := .bind .program fun _ => .goPanic _
set_option maxHeartbeats 2000000 in
/-- What append lists is flat. -/
theorem Flat.append (ats : Array TypeId) (ty : TypeId) (args : Array Value) : Flat P (Builtin.append_ ats ty args) := by
  unfold Builtin.append_
  repeat' first | with_reducible exact Flat.panics _ | with_reducible exact Flat.mayShare _ _ _ _ _ | with_reducible exact Flat.asInt _ | (first | with_reducible exact Flat.pure _ | with_reducible exact Flat.stuck _ | with_reducible exact Flat.unsupported _ | with_reducible exact Flat.goPanic _ | with_reducible exact Flat.lenOf _ | with_reducible exact Flat.underlying _ | with_reducible exact Flat.sizeOf _ | with_reducible exact Flat.typeInfo _ | with_reducible exact Flat.zeroValue _ | with_reducible exact Flat.choose _ | with_reducible exact Flat.askRoom _ | with_reducible exact Flat.mark _ | with_reducible exact Flat.newRow _ _ | with_reducible exact Flat.firstCells _ _ _ | with_reducible exact Flat.storeCells _ _ _ | with_reducible refine Flat.bind ?_ fun _ => ?_ | with_reducible refine Flat.ite ?_ ?_ | split | dsimp only)

/-- Where copy reads and writes. -/
theorem events_copy_where (w : World) (dT sT ty elem : TypeId) (g o dLen dCap : Nat) (a : Addr) (sLen sCap : Nat) (cur : Array Value) (t : TypeId) (cs : List Value)
    (hu : P.underlying dT = some (.slice elem)) (hs : (P.info? elem).map (·.size) = some 1) (hn : cs.length = Nat.min sLen dLen)
    (hsrc : ∀ j v, cs[j]? = some v → w.cell? (a.add j) = some v) (hg : w.heap[g]? = some (.cells cur t (0, 0))) (hl : o + cs.length ≤ cur.size) (h1 : ∀ v ∈ cs, v.oneCell' = true) :
    ∀ ev ∈ (Builtin.copy_ #[dT, sT] ty #[.slice (some ⟨g, o, none⟩) dLen dCap, .slice (some a) sLen sCap]).events P w #[], ∃ ad, ev.loc = .cell ad ∧ ((ev.write = false ∧ ad.block = a.block) ∨ ad.block = g) := by
  intro ev hev
  cases hq : P.info? elem with
  | none => simp [hq] at hs
  | some i =>
    have hi : i.size = 1 := by simpa [hq] using hs
    have hf := run_firstCells_some (P := P) w 1 cs.length a sLen sCap cs (by simp) hsrc
    simp [Builtin.copy_, run_underlying hu, Builtin.lenOf, sizeOf, typeInfo, hq, hi, ← hn, hf] at hev
    rcases events_storeCells_at (P := P) g o t cs 0 cur w _ hg (by simpa using hl) h1 ev hev with h | ⟨ad, h2, h3⟩
    · rcases events_firstCells_in (P := P) (fun b => b = a.block) 1 cs.length (.slice (some a) sLen sCap) w #[] (fun a' l c e => by cases e; exact ⟨rfl, fun j hj => isSome_of_list hsrc (by simpa using hj)⟩) ev h with h | ⟨ad, h4, h5, h6⟩
      · simp at h
      · exact ⟨ad, h4, .inl ⟨h5, h6⟩⟩
    · exact ⟨ad, h2, .inr h3⟩

theorem flat_cell {ev : Event} {ad : Addr} (h : Event.flat ev) (hl : ev.loc = .cell ad) : ev = ⟨.cell ad, ev.write, false⟩ := by
  rcases h with h | ⟨m, h⟩
  · cases ev; simp_all
  · rw [h] at hl; cases hl
end
end Go.Pair
