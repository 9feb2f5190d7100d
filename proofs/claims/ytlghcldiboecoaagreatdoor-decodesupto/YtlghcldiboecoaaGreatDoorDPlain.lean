/- The document's answer: the value that bytes may stand for: what is said of it. -/
import Derived.Test.YtlghcldiboecoaaGreatDoorRAll
import Derived.Test.YtlghcldiboecoaaGreatDoorTakeA
set_option linter.unusedVariables false
namespace Go.Proofs.YtlghcldiboecoaaGreatDoor
open Go.RowKit

/-- So many elements, one behind the other. -/
def tkN (F : Nat → List UInt8 → Option (Orch.V × List UInt8)) : Nat → Nat → List UInt8 → Option (List Orch.V × List UInt8)
  | 0, _, b => some ([], b)
  | m + 1, i, b => match F i b with
    | none => none
    | some (e, rest) => match tkN F m (i + 1) rest with
      | none => none
      | some (es, r) => some (e :: es, r)

theorem tkN_takeE (f : Orch.Ty → List UInt8 → Option (Orch.V × List UInt8)) (t : Orch.Ty) : ∀ m i b, Orch.takeE f t m i b = tkN (fun i => f (Orch.part t i)) m i b := by
  intro m
  induction m with
  | zero => intro i b; rfl
  | succ m ih =>
    intro i b
    unfold Orch.takeE tkN
    cases f (Orch.part t i) b with
    | none => rfl
    | some er =>
      obtain ⟨e, r⟩ := er
      simp only [ih]
      cases tkN (fun i => f (Orch.part t i)) m (i + 1) r <;> rfl

theorem tkN_congr {F G : Nat → List UInt8 → Option (Orch.V × List UInt8)} {N : Nat} (h : ∀ i, i < N → F i = G i) : ∀ m i b, i + m ≤ N → tkN F m i b = tkN G m i b := by
  intro m
  induction m with
  | zero => intro i b _; rfl
  | succ m ih =>
    intro i b hi
    unfold tkN
    rw [h i (by omega)]
    cases G i b with
    | none => rfl
    | some er =>
      obtain ⟨e, r⟩ := er
      simp only [ih (i + 1) r (by omega)]

/-- What guess leaves: a value; the right one, if there is one. -/
def GsRes (w w' : World) (e : Ending) (l : List UInt8) (o : Option (Orch.V × List UInt8)) : Prop :=
  ∃ (v : Orch.V) (lv : Value) (used : Nat), e = .returned (.tuple #[vval v lv, .int .i64 used]) ∧ OwnV w.heap.size w' v.l lv ∧ InV v ∧ used ≤ l.length + 204 ∧ ∀ v0 rest, o = some (v0, rest) → v0 = v ∧ used + rest.length = l.length

/-- Halfway through the elements. -/
def Cor (F : Nat → List UInt8 → Option (Orch.V × List UInt8)) (TOT : Option (List Orch.V × List UInt8)) (l : List UInt8) (n : Int) (at' i : Nat) (vs : List Orch.V) : Prop :=
  ∀ es rest, TOT = some (es, rest) → at' ≤ l.length ∧ ∃ m : Nat, (i : Int) + m = n ∧ ∃ es', tkN F m i (l.drop at') = some (es', rest) ∧ vs ++ es' = es

theorem Cor.step {F : Nat → List UInt8 → Option (Orch.V × List UInt8)} (hF : ∀ i b e rest, F i b = some (e, rest) → ∃ pre, b = pre ++ rest) {TOT : Option (List Orch.V × List UInt8)} {l : List UInt8} {n : Int} {at' i : Nat} {vs : List Orch.V} (h : Cor F TOT l n at' i vs) (hi : (i : Int) < n) {v : Orch.V} {used : Nat}
    (hv : ∀ v0 rest, F i (l.drop at') = some (v0, rest) → v0 = v ∧ used + rest.length = (l.drop at').length) : Cor F TOT l n (at' + used) (i + 1) (vs ++ [v]) := by
  intro es rest ht
  obtain ⟨h1, m, hm, es', h2, h3⟩ := h es rest ht
  obtain ⟨m', rfl⟩ : ∃ m', m = m' + 1 := ⟨m - 1, by omega⟩
  unfold tkN at h2
  cases hq : F i (l.drop at') with
  | none => rw [hq] at h2; cases h2
  | some er =>
    obtain ⟨e, r⟩ := er
    rw [hq] at h2
    simp only at h2
    obtain ⟨rfl, hu⟩ := hv e r hq
    obtain ⟨pre, hp⟩ := hF i _ e r hq
    have hl : pre.length = used := by
      rw [hp, List.length_append] at hu; omega
    have hr : r = l.drop (at' + used) := by
      rw [← List.drop_drop, hp, ← hl, List.drop_left]
    have hd : (l.drop at').length = l.length - at' := List.length_drop ..
    cases ht2 : tkN F m' (i + 1) r with
    | none => rw [ht2] at h2; cases h2
    | some er2 =>
      obtain ⟨es2, r2⟩ := er2
      rw [ht2] at h2
      simp only [Option.some.injEq, Prod.mk.injEq] at h2
      obtain ⟨rfl, rfl⟩ := h2
      refine ⟨by omega, m', by omega, es2, by rw [← hr]; exact ht2, by rw [← h3]; simp⟩

theorem Cor.done {F : Nat → List UInt8 → Option (Orch.V × List UInt8)} {TOT : Option (List Orch.V × List UInt8)} {l : List UInt8} {n : Int} {at' i : Nat} {vs : List Orch.V} (h : Cor F TOT l n at' i vs) (hi : n ≤ i ∨ l.length < at' ∨ TOT = none) :
    ∀ v0 rest, TOT.map Orch.listV = some (v0, rest) → v0 = .mk 0 ⟨#[]⟩ vs ∧ at' + rest.length = l.length := by
  intro v0 rest hm
  cases hT : TOT with
  | none => rw [hT] at hm; cases hm
  | some er =>
    obtain ⟨es, r⟩ := er
    rw [hT] at hm
    simp only [Option.map_some, Option.some.injEq] at hm
    obtain ⟨h1, m, hmm, es', h2, h3⟩ := h es r hT
    rcases hi with hi | hi | hi
    · have h0 : m = 0 := by omega
      subst h0
      simp only [tkN, Option.some.injEq, Prod.mk.injEq] at h2
      obtain ⟨rfl, rfl⟩ := h2
      rw [List.append_nil] at h3
      subst h3
      cases hm
      refine ⟨rfl, ?_⟩
      rw [List.length_drop]
      omega
    · omega
    · rw [hT] at hi; cases hi
end Go.Proofs.YtlghcldiboecoaaGreatDoor
