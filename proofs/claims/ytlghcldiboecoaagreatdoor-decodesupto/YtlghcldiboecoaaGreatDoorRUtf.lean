/- Plain mathematics of the document's answer: well-formed characters, one by one. -/
import Derived.Lib.ValidU
set_option linter.unusedVariables false
namespace Orch
open Go

/-- Is this byte one that stands behind the first of a character? -/
def isCont (l : List UInt8) (k : Nat) : Bool := decide (k < l.length) && decide (128 ≤ (l.getD k 0).toNat) && decide ((l.getD k 0).toNat ≤ 191)
def byteAt (l : List UInt8) (k : Nat) : Nat := (l.getD k 0).toNat
def ch2 (l : List UInt8) : Nat := byteAt l 0 % 32 * 64 + byteAt l 1 % 64
def ch3 (l : List UInt8) : Nat := byteAt l 0 % 16 * 4096 + byteAt l 1 % 64 * 64 + byteAt l 2 % 64
def ch4 (l : List UInt8) : Nat := byteAt l 0 % 8 * 262144 + byteAt l 1 % 64 * 4096 + byteAt l 2 % 64 * 64 + byteAt l 3 % 64

theorem getB (l : List UInt8) (k : Nat) : ((⟨l.toArray⟩ : ByteArray).get! (0 + k)).toNat = byteAt l k := by
  unfold byteAt
  rw [Nat.zero_add, List.getD_eq_getElem?_getD]
  show (l.toArray[k]!).toNat = _
  rw [getElem!_def, List.getElem?_toArray]
  cases l[k]? <;> rfl

theorem contB (l : List UInt8) (k : Nat) : (decide (0 + k < (⟨l.toArray⟩ : ByteArray).size) && byteAt l k / 64 == 2) = isCont l k := by
  rw [Nat.zero_add]
  unfold isCont byteAt
  have e : (⟨l.toArray⟩ : ByteArray).size = l.length := by show l.toArray.size = _; simp
  rw [e, Bool.and_assoc]
  congr 1
  rw [Bool.eq_iff_iff]
  simp only [beq_iff_eq, Bool.and_eq_true, decide_eq_true_iff]
  omega

/-- What a step of the decoder says. -/
theorem decode_eq (l : List UInt8) : Lib.decodeL l =
    (if byteAt l 0 < 128 then (byteAt l 0, 1)
     else if (byteAt l 0 / 32 == 6 && isCont l 1) = true then (if ch2 l ≥ 128 then (ch2 l, 2) else (65533, 1))
     else if (byteAt l 0 / 16 == 14 && isCont l 1 && isCont l 2) = true then (if (decide (ch3 l ≥ 2048) && Utf8.valid (ch3 l : Nat)) = true then (ch3 l, 3) else (65533, 1))
     else if (byteAt l 0 / 8 == 30 && isCont l 1 && isCont l 2 && isCont l 3) = true then (if (decide (ch4 l ≥ 65536) && Utf8.valid (ch4 l : Nat)) = true then (ch4 l, 4) else (65533, 1))
     else (65533, 1)) := by
  unfold Lib.decodeL Utf8.decode
  simp only [getB, contB]
  rfl

/-- How many bytes the first character has; none, if there is no well-formed one. -/
def uStep (l : List UInt8) : Option Nat :=
  if byteAt l 0 < 128 then some 1
  else if 192 ≤ byteAt l 0 ∧ byteAt l 0 < 224 then (if isCont l 1 = true ∧ 128 ≤ ch2 l then some 2 else none)
  else if 224 ≤ byteAt l 0 ∧ byteAt l 0 < 240 then (if (isCont l 1 = true ∧ isCont l 2 = true) ∧ 2048 ≤ ch3 l ∧ ¬ (55296 ≤ ch3 l ∧ ch3 l ≤ 57343) then some 3 else none)
  else if 240 ≤ byteAt l 0 ∧ byteAt l 0 < 248 then (if (isCont l 1 = true ∧ isCont l 2 = true ∧ isCont l 3 = true) ∧ 65536 ≤ ch4 l ∧ ch4 l ≤ 1114111 then some 4 else none)
  else none

theorem valid_iff (n : Nat) : Utf8.valid (n : Int) = true ↔ n < 55296 ∨ (57344 ≤ n ∧ n ≤ 1114111) := by
  unfold Utf8.valid
  simp only [Bool.or_eq_true, Bool.and_eq_true, decide_eq_true_iff]
  omega

theorem uStep_decode (l : List UInt8) : (∀ k, uStep l = some k → ¬ ((Lib.decodeL l).1 = 65533 ∧ (Lib.decodeL l).2 = 1) ∧ (Lib.decodeL l).2 = k) ∧ (uStep l = none → (Lib.decodeL l).1 = 65533 ∧ (Lib.decodeL l).2 = 1) := by
  have h3 : ch3 l ≤ 65535 := by unfold ch3; omega
  rw [decode_eq]
  unfold uStep
  by_cases a1 : byteAt l 0 < 128
  · rw [if_pos a1, if_pos a1]
    refine ⟨fun k hk => ?_, fun h => by cases h⟩
    simp only [Option.some.injEq] at hk
    subst hk
    exact ⟨by simp only; omega, rfl⟩
  · rw [if_neg a1, if_neg a1]
    by_cases a2 : 192 ≤ byteAt l 0 ∧ byteAt l 0 < 224
    · have e2 : (byteAt l 0 / 32 == 6) = true := by rw [beq_iff_eq]; omega
      have e3 : (byteAt l 0 / 16 == 14) = false := by rw [beq_eq_false_iff_ne]; omega
      have e4 : (byteAt l 0 / 8 == 30) = false := by rw [beq_eq_false_iff_ne]; omega
      rw [if_pos a2, e2, e3, e4]
      cases isCont l 1 with
      | false => simp
      | true =>
        by_cases hc : 128 ≤ ch2 l
        · simp [hc]
        · simp [hc]
    · rw [if_neg a2]
      have e2 : (byteAt l 0 / 32 == 6) = false := by rw [beq_eq_false_iff_ne]; omega
      rw [e2]
      by_cases a3 : 224 ≤ byteAt l 0 ∧ byteAt l 0 < 240
      · have e3 : (byteAt l 0 / 16 == 14) = true := by rw [beq_iff_eq]; omega
        have e4 : (byteAt l 0 / 8 == 30) = false := by rw [beq_eq_false_iff_ne]; omega
        rw [if_pos a3, e3, e4]
        have hv : (decide (ch3 l ≥ 2048) && Utf8.valid (ch3 l : Nat)) = decide (2048 ≤ ch3 l ∧ ¬ (55296 ≤ ch3 l ∧ ch3 l ≤ 57343)) := by
          rw [Bool.eq_iff_iff, Bool.and_eq_true, valid_iff]
          simp only [decide_eq_true_iff]
          omega
        rw [hv]
        by_cases hc : 2048 ≤ ch3 l ∧ ¬ (55296 ≤ ch3 l ∧ ch3 l ≤ 57343)
        · rw [decide_eq_true hc]
          simp only [eq_true hc]
          cases isCont l 1 <;> cases isCont l 2 <;> simp
        · rw [decide_eq_false hc]
          simp only [eq_false hc]
          cases isCont l 1 <;> cases isCont l 2 <;> simp
      · rw [if_neg a3]
        have e3 : (byteAt l 0 / 16 == 14) = false := by rw [beq_eq_false_iff_ne]; omega
        rw [e3]
        by_cases a4 : 240 ≤ byteAt l 0 ∧ byteAt l 0 < 248
        · have e4 : (byteAt l 0 / 8 == 30) = true := by rw [beq_iff_eq]; omega
          rw [if_pos a4, e4]
          have hv : (decide (ch4 l ≥ 65536) && Utf8.valid (ch4 l : Nat)) = decide (65536 ≤ ch4 l ∧ ch4 l ≤ 1114111) := by
            rw [Bool.eq_iff_iff, Bool.and_eq_true, valid_iff]
            simp only [decide_eq_true_iff]
            omega
          rw [hv]
          by_cases hc : 65536 ≤ ch4 l ∧ ch4 l ≤ 1114111
          · rw [decide_eq_true hc]
            simp only [eq_true hc]
            cases isCont l 1 <;> cases isCont l 2 <;> cases isCont l 3 <;> simp
          · rw [decide_eq_false hc]
            simp only [eq_false hc]
            cases isCont l 1 <;> cases isCont l 2 <;> cases isCont l 3 <;> simp
        · rw [if_neg a4]
          have e4 : (byteAt l 0 / 8 == 30) = false := by rw [beq_eq_false_iff_ne]; omega
          rw [e4]
          simp

theorem uStep_len {l : List UInt8} {k : Nat} (hl : l ≠ []) (h : uStep l = some k) : 1 ≤ k ∧ k ≤ l.length := by
  have h1 : 1 ≤ l.length := List.length_pos_iff.2 hl
  have hc : ∀ j, isCont l j = true → j < l.length := fun j hj => by
    unfold isCont at hj
    simp only [Bool.and_eq_true, decide_eq_true_iff] at hj
    exact hj.1.1
  unfold uStep at h
  repeat' split at h
  all_goals cases h
  · exact ⟨by omega, h1⟩
  · rename_i hx
    exact ⟨by omega, hc 1 hx.1⟩
  · rename_i hx
    exact ⟨by omega, hc 2 hx.1.2⟩
  · rename_i hx
    exact ⟨by omega, hc 3 hx.1.2.2⟩

/-- More fuel than bytes changes nothing. -/
theorem validGo_fuel : ∀ (n m : Nat) (l : List UInt8), l.length ≤ n → l.length ≤ m → Lib.validGoD n l = Lib.validGoD m l
  | 0, m, l, hn, _ => by
    have : l = [] := List.length_eq_zero_iff.1 (by omega)
    subst this
    cases m <;> simp [Lib.validGoD]
  | n + 1, 0, l, _, hm => by
    have : l = [] := List.length_eq_zero_iff.1 (by omega)
    subst this
    simp [Lib.validGoD]
  | n + 1, m + 1, l, hn, hm => by
    unfold Lib.validGoD
    by_cases hl : l = []
    · rw [if_pos hl, if_pos hl]
    · rw [if_neg hl, if_neg hl]
      split
      · rfl
      · rename_i hd
        cases hu : uStep l with
        | none => exact absurd ((uStep_decode l).2 hu) hd
        | some k =>
          have h2 := ((uStep_decode l).1 k hu).2
          have h3 := uStep_len hl hu
          rw [h2]
          exact validGo_fuel n m _ (by rw [List.length_drop]; omega) (by rw [List.length_drop]; omega)

/-- From a place on: is all well-formed? -/
theorem valid_step (l : List UInt8) (hl : l ≠ []) : Lib.validD l = match uStep l with
    | none => false
    | some k => Lib.validD (l.drop k) := by
  have h1 : 1 ≤ l.length := List.length_pos_iff.2 hl
  obtain ⟨n, hn⟩ : ∃ n, l.length = n + 1 := ⟨l.length - 1, by omega⟩
  unfold Lib.validD
  rw [hn, Lib.validGoD, if_neg hl]
  cases hu : uStep l with
  | none => rw [if_pos ((uStep_decode l).2 hu)]
  | some k =>
    have h2 := (uStep_decode l).1 k hu
    have h3 := uStep_len hl hu
    rw [if_neg h2.1, h2.2]
    exact validGo_fuel n _ _ (by rw [List.length_drop]; omega) (Nat.le_refl _)

theorem valid_nil : Lib.validD [] = true := rfl
end Orch
