/- Plain mathematics of the document's answer: the bytes of a value, laid down part by part; that they are the bytes which the program puts. -/
import Derived.Test.YtlghcldiboecoaaGreatDoorRSchema
set_option linter.unusedVariables false
namespace Orch
section
variable (valid : ByteArray → Bool)

/-- The parts of a vector or a record behind b; none, if a part is none, or if it is too long ahead of a part. -/
def laidE (f : Ty → V → Option (List UInt8)) (t : Ty) : List V → Nat → List UInt8 → Option (List UInt8)
  | [], _, b => some b
  | e :: r, i, b => if 1000 < b.length then none else match f (part t i) e with
    | none => none
    | some c => laidE f t r (i + 1) (b ++ c)

/-- The bytes of a value of a type. -/
def laidT : Nat → Ty → V → Option (List UInt8)
  | 0, _, _ => none
  | k + 1, t, v => if fits valid t v then laidE (laidT k) t v.l 0 (head t v) else none

def capped (out : List UInt8) : Option (List UInt8) → Option (List UInt8)
  | none => none
  | some b => if out.length + b.length ≤ 1000 then some (out ++ b) else none

theorem putE_laidE {k : Nat} (ih : ∀ out t v, put valid k out t v = capped out (laidT valid k t v)) (t : Ty) : ∀ (l : List V) (i : Nat) (out b : List UInt8),
    (match putE (put valid k) t l i (out ++ b) with | none => none | some o => if o.length ≤ 1000 then some o else none) = capped out (laidE (laidT valid k) t l i b)
  | [], i, out, b => by
    simp only [putE, laidE, capped, List.length_append]
  | e :: r, i, out, b => by
    unfold putE laidE
    rw [ih]
    by_cases hb : 1000 < b.length
    · rw [if_pos hb]
      cases laidT valid k (part t i) e with
      | none => rfl
      | some c => simp only [capped, List.length_append]; rw [if_neg (by omega)]
    · rw [if_neg hb]
      cases hc : laidT valid k (part t i) e with
      | none => rfl
      | some c =>
        by_cases ho : (out ++ b).length + c.length ≤ 1000
        · simp only [capped]
          rw [if_pos ho]
          simp only
          have := putE_laidE ih t r (i + 1) out (b ++ c)
          rw [← List.append_assoc] at this
          rw [this]
          rfl
        · simp only [capped]
          rw [if_neg ho]
          have hlen : ∀ (l : List V) (i : Nat) (b b' : List UInt8), laidE (laidT valid k) t l i b = some b' → b.length ≤ b'.length := by
            intro l
            induction l with
            | nil => intro i b b' h; simp only [laidE, Option.some.injEq] at h; rw [h]; omega
            | cons x xs ihl =>
              intro i b b' h
              unfold laidE at h
              split at h
              · cases h
              · split at h
                · cases h
                · have := ihl _ _ _ h
                  rw [List.length_append] at this
                  omega
          cases hl : laidE (laidT valid k) t r (i + 1) (b ++ c) with
          | none => rfl
          | some b' =>
            have := hlen _ _ _ _ hl
            rw [List.length_append] at this ho
            simp only
            rw [if_neg (by omega)]

/-- What is put is what is laid, where it is not too long. -/
theorem put_laid : ∀ (k : Nat) (out : List UInt8) (t : Ty) (v : V), put valid k out t v = capped out (laidT valid k t v)
  | 0, out, t, v => rfl
  | k + 1, out, t, v => by
    unfold put laidT
    by_cases h : fits valid t v = true
    · rw [if_pos h, if_pos h]
      exact putE_laidE valid (fun out t v => put_laid k out t v) t v.l 0 out (head t v)
    · rw [if_neg h, if_neg h]
      rfl

/-- The document's Encode, of a schema that is one. -/
theorem encode_laid (k : Nat) (t : Ty) (v : V) : put valid k [] t v = (match laidT valid k t v with | none => none | some b => if b.length ≤ 1000 then some b else none) := by
  rw [put_laid]
  cases laidT valid k t v with
  | none => rfl
  | some b => simp [capped]
end
end Orch
