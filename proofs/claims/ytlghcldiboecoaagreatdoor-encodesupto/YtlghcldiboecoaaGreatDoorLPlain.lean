/- The caller's loans: lists of values that are handed in, each with three places of room. -/
import Derived.Test.YtlghcldiboecoaaGreatDoorKBytes
import Derived.Test.YtlghcldiboecoaaGreatDoorRWide
set_option linter.unusedVariables false
namespace Go.Proofs.YtlghcldiboecoaaGreatDoor
open Go.RowKit

/-- A list that was lent: its block; what is in it (a value, its list as it was, its list as it was lent); the list as it was. -/
structure Loan where
  g : Nat
  ps : List (Orch.V × Value × Value)
  want : Value

def ocell (p : Orch.V × Value × Value) : List Value := vcell (p.1, p.2.1)
def lcell (p : Orch.V × Value × Value) : List Value := vcell (p.1, p.2.2)
def bey : List Value := [.int .i64 77, .string ⟨#[]⟩, .slice none 0 0]
def ovr : List Value := [.int .i64 (-5), .string ⟨#[]⟩, .slice none 0 0]
def zer : List Value := [.int .i64 0, .string ⟨#[]⟩, .slice none 0 0]
def lrow (ps : List (Orch.V × Value × Value)) : List Value := ps.flatMap lcell ++ (List.replicate 3 bey).flatten
def orow (n : Nat) : List Value := (List.replicate (n + 3) ovr).flatten
def loanc (L : Loan) : List Value := [.slice (some ⟨L.g, 0, none⟩) (L.ps.length + 3) (L.ps.length + 3), L.want]

/-- A list as it was, and as it was lent. -/
def PairOk (Ls : List Loan) (o l : Value) : Prop :=
  (o = .slice none 0 0 ∧ l = .slice none 0 0) ∨ ∃ L oa oc, L ∈ Ls ∧ o = .slice (some oa) L.ps.length oc ∧ l = .slice (some ⟨L.g, 0, none⟩) L.ps.length (L.ps.length + 3)

/-- The list as it was reads so. -/
def WantOk (w : World) (S : Nat → Prop) (L : Loan) : Prop :=
  ∃ wa wc, L.want = .slice (some wa) L.ps.length wc ∧ L.ps.length ≤ wc ∧ (L.ps ≠ [] → ∃ g o, wa = ⟨g, o, none⟩ ∧ S g ∧ ∀ j u, (L.ps.flatMap ocell)[j]? = some u → w.cell? ⟨g, o + j, none⟩ = some u)

/-- The loans of a value, as the caller keeps them. -/
structure Lp (W : World) (BB base : Nat) (S : Nat → Prop) (av : Value) (Ls : List Loan) : Prop where
  blk : W.heap[BB]? = some (.cells #[av] 157)
  row : W.ownsRow base 221 2 av Ls.length (Ls.flatMap loanc)
  lt : BB < base
  le : base ≤ W.heap.size
  loan : ∀ (j : Nat) (L : Loan), Ls[j]? = some L → W.heap[L.g]? = some (.cells (lrow L.ps).toArray 113) ∧ base ≤ L.g ∧ WantOk W S L ∧ ∀ p, p ∈ L.ps → PairOk (Ls.take j) p.2.1 p.2.2
  one : ∀ (i j : Nat) (L M : Loan), Ls[i]? = some L → Ls[j]? = some M → L.g = M.g → i = j
  low : ∀ b, S b → b < BB
  len : ∀ L : Loan, L ∈ Ls → L.ps.length ≤ 4000000

theorem PairOk.mono {Ls Ms : List Loan} {o l : Value} (h : PairOk Ls o l) (hs : ∀ L, L ∈ Ls → L ∈ Ms) : PairOk Ms o l := by
  rcases h with h | ⟨L, oa, oc, hL, h1, h2⟩
  · exact .inl h
  · exact .inr ⟨L, oa, oc, hs L hL, h1, h2⟩

theorem WantOk.congr {w w' : World} {S : Nat → Prop} {L : Loan} (h : WantOk w S L) (hw : ∀ b, S b → w'.heap[b]? = w.heap[b]?) : WantOk w' S L := by
  obtain ⟨wa, wc, h1, h2, h3⟩ := h
  refine ⟨wa, wc, h1, h2, fun h0 => ?_⟩
  obtain ⟨g, o, hg, hS, hc⟩ := h3 h0
  exact ⟨g, o, hg, hS, fun j u hj => (World.cell?_of_block (w := w) (a := ⟨g, o + j, none⟩) (hw g hS)).trans (hc j u hj)⟩

theorem lrow_len (ps : List (Orch.V × Value × Value)) : (lrow ps).length = (ps.length + 3) * 3 := by
  unfold lrow
  rw [List.length_append, flat_len lcell 3 (fun _ => rfl)]
  simp [bey]
  omega

theorem lrow_zero (ps : List (Orch.V × Value × Value)) : ∃ n, (lrow ps)[0]? = some (.int .i64 n) := by
  cases ps with
  | nil => exact ⟨77, rfl⟩
  | cons p r => exact ⟨p.1.n, rfl⟩

/-- The loans stand where other blocks change. -/
theorem Lp.keep {W W' : World} {BB base : Nat} {S : Nat → Prop} {av : Value} {Ls : List Loan} (h : Lp W BB base S av Ls) (bad : Nat → Prop) (hsz : W.heap.size ≤ W'.heap.size) (hsame : ∀ i, i < W.heap.size → ¬ bad i → W'.heap[i]? = W.heap[i]?)
    (h1 : ¬ bad BB) (h2 : ∀ g, av.ownBlock = some g → ¬ bad g) (h3 : ∀ L, L ∈ Ls → ¬ bad L.g) (h4 : ∀ b, S b → ¬ bad b) : Lp W' BB base S av Ls := by
  have hBB := h.lt
  have hle := h.le
  refine ⟨(hsame BB (by omega) h1).trans h.blk, ⟨h.row.1, ?_⟩, h.lt, Nat.le_trans h.le hsz, fun j L hj => ?_, h.one, h.low, h.len⟩
  · rcases h.row.2 with h0 | ⟨g, cap, cur, rfl, k1, k2, k3⟩
    · exact .inl h0
    · exact .inr ⟨g, cap, cur, rfl, k1, (hsame g (ltOf k2) (h2 g rfl)).trans k2, k3⟩
  · obtain ⟨q1, q2, q3, q4⟩ := h.loan j L hj
    exact ⟨(hsame L.g (ltOf q1) (h3 L (List.mem_of_getElem? hj))).trans q1, q2, q3.congr (fun b hb => hsame b (by have := h.low b hb; omega) (h4 b hb)), q4⟩

theorem Lp.below {W W' : World} {BB base : Nat} {S : Nat → Prop} {av : Value} {Ls : List Loan} (h : Lp W BB base S av Ls) (hb : Below W.heap.size W W') : Lp W' BB base S av Ls :=
  h.keep (fun _ => False) hb.size (fun i hi _ => hb.block i hi) (fun h => h) (fun _ _ h => h) (fun _ _ h => h) (fun _ _ h => h)

/-- A block of loans holds no list at its beginning. -/
theorem Lp.apart {W : World} {BB base : Nat} {S : Nat → Prop} {av : Value} {Ls : List Loan} (h : Lp W BB base S av Ls) {L : Loan} (hL : L ∈ Ls) {b : Nat} {a : Option Addr} {n c : Nat} (hb : W.cell? ⟨b, 0, none⟩ = some (.slice a n c)) : L.g ≠ b := by
  intro e
  subst e
  obtain ⟨j, hj⟩ := List.mem_iff_getElem?.1 hL
  obtain ⟨q1, _⟩ := h.loan j L hj
  obtain ⟨m, hm⟩ := lrow_zero L.ps
  have := cellOf (j := 0) q1 (by simpa using hm)
  rw [this] at hb
  cases hb

/-- One loan more. -/
theorem Lp.add {W W2 : World} {BB base : Nat} {S : Nat → Prop} {av av' : Value} {Ls : List Loan} {L : Loan} (h : Lp W BB base S av Ls) (hb : W2.heap[BB]? = some (.cells #[av'] 157)) (hrow : W2.ownsRow base 221 2 av' (Ls.length + 1) (Ls.flatMap loanc ++ loanc L))
    (bad : Nat → Prop) (hbL : ∀ M, M ∈ Ls → ¬ bad M.g) (hbS : ∀ b, S b → ¬ bad b) (hsz : W.heap.size ≤ W2.heap.size) (hsame : ∀ i, i < W.heap.size → i ≠ BB → av.ownBlock ≠ some i → ¬ bad i → W2.heap[i]? = W.heap[i]?) (hav : ∀ M, M ∈ Ls → av.ownBlock ≠ some M.g) (hS : ∀ b, S b → av.ownBlock ≠ some b)
    (hL : W2.heap[L.g]? = some (.cells (lrow L.ps).toArray 113)) (hLb : base ≤ L.g) (hLw : WantOk W2 S L) (hLp : ∀ p, p ∈ L.ps → PairOk Ls p.2.1 p.2.2) (hne : ∀ M, M ∈ Ls → M.g ≠ L.g) (hln : L.ps.length ≤ 4000000) : Lp W2 BB base S av' (Ls ++ [L]) := by
  have hBB := h.lt
  have hle := h.le
  refine ⟨hb, ?_, h.lt, Nat.le_trans h.le hsz, fun j M hj => ?_, fun i j M M' hi hj he => ?_, h.low, fun M hM => by rcases List.mem_append.1 hM with hM | hM; exact h.len M hM; rw [List.mem_singleton] at hM; rw [hM]; exact hln⟩
  · simpa using hrow
  · by_cases hjl : j < Ls.length
    · rw [List.getElem?_append_left hjl] at hj
      obtain ⟨q1, q2, q3, q4⟩ := h.loan j M hj
      have hM := List.mem_of_getElem? hj
      refine ⟨(hsame M.g (ltOf q1) (by omega) (hav M hM) (hbL M hM)).trans q1, q2, q3.congr (fun b hb => hsame b (by have := h.low b hb; omega) (by have := h.low b hb; omega) (hS b hb) (hbS b hb)), fun p hp => ?_⟩
      rw [List.take_append_of_le_length (by omega)]
      exact q4 p hp
    · rw [List.getElem?_append_right (by omega)] at hj
      have hj0 : j = Ls.length := by
        have := (List.getElem?_eq_some_iff.1 hj).1
        simp at this
        omega
      subst hj0
      simp at hj
      subst hj
      exact ⟨hL, hLb, hLw, fun p hp => by simpa using hLp p hp⟩
  · by_cases hil : i < Ls.length
    · by_cases hjl : j < Ls.length
      · rw [List.getElem?_append_left hil] at hi
        rw [List.getElem?_append_left hjl] at hj
        exact h.one i j M M' hi hj he
      · rw [List.getElem?_append_left hil] at hi
        rw [List.getElem?_append_right (by omega)] at hj
        have hj0 : j = Ls.length := by
          have := (List.getElem?_eq_some_iff.1 hj).1
          simp at this
          omega
        subst hj0
        simp at hj
        subst hj
        exact absurd he (hne M (List.mem_of_getElem? hi))
    · rw [List.getElem?_append_right (by omega)] at hi
      have hi0 : i = Ls.length := by
        have := (List.getElem?_eq_some_iff.1 hi).1
        simp at this
        omega
      subst hi0
      simp at hi
      subst hi
      by_cases hjl : j < Ls.length
      · rw [List.getElem?_append_left hjl] at hj
        exact absurd he.symm (hne M' (List.mem_of_getElem? hj))
      · rw [List.getElem?_append_right (by omega)] at hj
        have := (List.getElem?_eq_some_iff.1 hj).1
        simp at this
        omega

theorem Lp.loanLt {W : World} {BB base : Nat} {S : Nat → Prop} {av : Value} {Ls : List Loan} (h : Lp W BB base S av Ls) {L : Loan} (hL : L ∈ Ls) : L.g < W.heap.size := by
  obtain ⟨j, hj⟩ := List.mem_iff_getElem?.1 hL
  exact ltOf (h.loan j L hj).1
theorem Lp.loanBase {W : World} {BB base : Nat} {S : Nat → Prop} {av : Value} {Ls : List Loan} (h : Lp W BB base S av Ls) {L : Loan} (hL : L ∈ Ls) : base ≤ L.g := by
  obtain ⟨j, hj⟩ := List.mem_iff_getElem?.1 hL
  exact (h.loan j L hj).2.1
theorem Lp.loanBB {W : World} {BB base : Nat} {S : Nat → Prop} {av : Value} {Ls : List Loan} (h : Lp W BB base S av Ls) {L : Loan} (hL : L ∈ Ls) : L.g ≠ BB := by
  have := h.loanBase hL
  have := h.lt
  omega
theorem Lp.loanRow {W : World} {BB base : Nat} {S : Nat → Prop} {av : Value} {Ls : List Loan} (h : Lp W BB base S av Ls) {L : Loan} (hL : L ∈ Ls) : av.ownBlock ≠ some L.g := by
  intro e
  cases Ls with
  | nil => cases hL
  | cons M Ms =>
    have := h.row.cells e 0 _ (by rw [List.flatMap_cons]; rfl)
    exact h.apart hL (this : W.cell? ⟨L.g, 0, none⟩ = _) rfl
theorem Lp.rowBB {W : World} {BB base : Nat} {S : Nat → Prop} {av : Value} {Ls : List Loan} (h : Lp W BB base S av Ls) : av.ownBlock ≠ some BB := by
  intro e
  have := (h.row.lt BB e).1
  have := h.lt
  omega
theorem Lp.rowS {W : World} {BB base : Nat} {S : Nat → Prop} {av : Value} {Ls : List Loan} (h : Lp W BB base S av Ls) (b : Nat) (hb : S b) : av.ownBlock ≠ some b := by
  intro e
  have := (h.row.lt b e).1
  have := h.low b hb
  have := h.lt
  omega
end Go.Proofs.YtlghcldiboecoaaGreatDoor
