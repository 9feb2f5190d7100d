/- The caller's loans: lists of values that are handed in, each with three places of room. -/
import Derived.Test.YtlghcldiboecoaaGreatDoorKBytes
import Derived.Test.YtlghcldiboecoaaGreatDoorRWide
set_option linter.unusedVariables false
namespace Go.Proofs.YtlghcldiboecoaaGreatDoor
open Go.RowKit

/-- A list that was lent: its block; what is in it (a value, its list as it was, its list as it was lent); the list as it was. -/
structure Loan where
  g : Nat
  ps : List (Orch.V × Value × Value)
  want : Value

def ocell (p : Orch.V × Value × Value) : List Value := vcell (p.1, p.2.1)
def lcell (p : Orch.V × Value × Value) : List Value := vcell (p.1, p.2.2)
def bey : List Value := [.int .i64 77, .string ⟨#[]⟩, .slice none 0 0]
def ovr : List Value := [.int .i64 (-5), .string ⟨#[]⟩, .slice none 0 0]
def zer : List Value := [.int .i64 0, .string ⟨#[]⟩, .slice none 0 0]
def lrow (ps : List (Orch.V × Value × Value)) : List Value := ps.flatMap lcell ++ (List.replicate 3 bey).flatten
def orow (n : Nat) : List Value := (List.replicate (n + 3) ovr).flatten
def loanc (L : Loan) : List Value := [.slice (some ⟨L.g, 0, none⟩) (L.ps.length + 3) (L.ps.length + 3), L.want]

/-- A list as it was, and as it was lent. -/
def PairOk (Ls : List Loan) (o l : Value) : Prop :=
  (o = .slice none 0 0 ∧ l = .slice none 0 0) ∨ ∃ L oa oc, L ∈ Ls ∧ o = .slice (some oa) L.ps.length oc ∧ l = .slice (some ⟨L.g, 0, none⟩) L.ps.length (L.ps.length + 3)

/-- The list as it was reads so. -/
def WantOk (w : World) (S : Nat → Prop) (L : Loan) : Prop :=
  ∃ wa wc, L.want = .slice (some wa) L.ps.length wc ∧ L.ps.length ≤ wc ∧ (L.ps ≠ [] → ∃ g o, wa = ⟨g, o, none⟩ ∧ S g ∧ ∀ j u, (L.ps.flatMap ocell)[j]? = some u → w.cell? ⟨g, o + j, none⟩ = some u)

/-- The loans of a value, as the caller keeps them. -/
structure Lp (W : World) (BB base : Nat) (S : Nat → Prop) (av : Value) (Ls : List Loan) : Prop where
  blk : W.heap[BB]? = some (.cells #[av] 157)
  row : W.ownsRow base 221 2 av Ls.length (Ls.flatMap loanc)
  lt : BB < base
  le : base ≤ W.heap.size
  loan : ∀ (j : Nat) (L : Loan), Ls[j]? = some L → W.heap[L.g]? = some (.cells (lrow L.ps).toArray 113) ∧ base ≤ L.g ∧ WantOk W S L ∧ ∀ p, p ∈ L.ps → PairOk (Ls.take j) p.2.1 p.2.2
  one : ∀ (i j : Nat) (L M : Loan), Ls[i]? = some L → Ls[j]? = some M → L.g = M.g → i = j
  low : ∀ b, S b → b < BB
  len : ∀ L : Loan, L ∈ Ls → L.ps.length ≤ 4000000

theorem PairOk.mono {Ls Ms : List Loan} {o l : Value} (h : PairOk Ls o l) (hs : ∀ L, L ∈ Ls → L ∈ Ms) : PairOk Ms o l := by
  rcases h with h | ⟨L, oa, oc, hL, h1, h2⟩
  · exact .inl h
  · exact .inr ⟨L, oa, oc, hs L hL, h1, h2⟩

theorem WantOk.congr {w w' : World} {S : Nat → Prop} {L : Loan} (h : WantOk w S L) (hw : ∀ b, S b → w'.heap[b]? = w.heap[b]?) : WantOk w' S L := by
  obtain ⟨wa, wc, h1, h2, h3⟩ := h
  refine ⟨wa, wc, h1, h2, fun h0 => ?_⟩
  obtain ⟨g, o, hg, hS, hc⟩ := h3 h0
  exact ⟨g, o, hg, hS, fun j u hj => (World.cell?_of_block (w := w) (a := ⟨g, o + j, none⟩) (hw g hS)).trans (hc j u hj)⟩

theorem lrow_len (ps : List (Orch.V × Value × Value)) : (lrow ps).length = (ps.length + 3) * 3 := by
  unfold lrow
  rw [List.length_append, flat_len lcell 3 (fun _ => rfl)]
  simp [bey]
  omega

theorem lrow_zero (ps : List (Orch.V × Value × Value)) : ∃ n, (lrow ps)[0]? = some (.int .i64 n) := by
  cases ps with
  | nil => exact ⟨77, rfl⟩
  | cons p r => exact ⟨p.1.n, rfl⟩

/-- The loans stand where other blocks change. -/
theorem Lp.keep {W W' : World} {BB base : Nat} {S : Nat → Prop} {av : Value} {Ls : List Loan} (h : Lp W BB base S av Ls) (bad : Nat → Prop) (hsz : W.heap.size ≤ W'.heap.size) (hsame : ∀ i, i < W.heap.size → ¬ bad i → W'.heap[i]? = W.heap[i]?)
    (h1 : ¬ bad BB) (h2 : ∀ g, av.ownBlock = some g → ¬ bad g) (h3 : ∀ L, L ∈ Ls → ¬ bad L.g) (h4 : ∀ b, S b → ¬ bad b) : Lp W' BB base S av Ls := by
  have hBB := h.lt
  have hle := h.le
  refine ⟨(hsame BB (by omega) h1).trans h.blk, ⟨h.row.1, ?_⟩, h.lt, Nat.le_trans h.le hsz, fun j L hj => ?_, h.one, h.low, h.len⟩
  · rcases h.row.2 with h0 | ⟨g, cap, cur, rfl, k1, k2, k3⟩
    · exact .inl h0
    · exact .inr ⟨g, cap, cur, rfl, k1, (hsame g (ltOf k2) (h2 g rfl)).trans k2, k3⟩
  · obtain ⟨q1, q2, q3, q4⟩ := h.loan j L hj
    exact ⟨(hsame L.g (ltOf q1) (h3 L (List.mem_of_getElem? hj))).trans q1, q2, q3.congr (fun b hb => hsame b (by have := h.low b hb; omega) (h4 b hb)), q4⟩

theorem Lp.below {W W' : World} {BB base : Nat} {S : Nat → Prop} {av : Value} {Ls : List Loan} (h : Lp W BB base S av Ls) (hb : Below W.heap.size W W') : Lp W' BB base S av Ls :=
  h.keep (fun _ => False) hb.size (fun i hi _ => hb.block i hi) (fun h => h) (fun _ _ h => h) (fun _ _ h => h) (fun _ _ h => h)

/-- A block of loans holds no list at its beginning. -/
theorem Lp.apart {W : World} {BB base : Nat} {S : Nat → Prop} {av : Value} {Ls : List Loan} (h : Lp W BB base S av Ls) {L : Loan} (hL : L ∈ Ls) {b : Nat} {a : Option Addr} {n c : Nat} (hb : W.cell? ⟨b, 0, none⟩ = some (.slice a n c)) : L.g ≠ b := by
  intro e
  subst e
  obtain ⟨j, hj⟩ := List.mem_iff_getElem?.1 hL
  obtain ⟨q1, _⟩ := h.loan j L hj
  obtain ⟨m, hm⟩ := lrow_zero L.ps
  have := cellOf (j := 0) q1 (by simpa using hm)
  rw [this] at hb
  cases hb

/-- One loan more. -/
theorem Lp.add {W W2 : World} {BB base : Nat} {S : Nat → Prop} {av av' : Value} {Ls : List Loan} {L : Loan} (h : Lp W BB base S av Ls) (hb : W2.heap[BB]? = some (.cells #[av'] 157)) (hrow : W2.ownsRow base 221 2 av' (Ls.length + 1) (Ls.flatMap loanc ++ loanc L))
    (bad : Nat → Prop) (hbL : ∀ M, M ∈ Ls → ¬ bad M.g) (hbS : ∀ b, S b → ¬ bad b) (hsz : W.heap.size ≤ W2.heap.size) (hsame : ∀ i, i < W.heap.size → i ≠ BB → av.ownBlock ≠ some i → ¬ bad i → W2.heap[i]? = W.heap[i]?) (hav : ∀ M, M ∈ Ls → av.ownBlock ≠ some M.g) (hS : ∀ b, S b → av.ownBlock ≠ some b)
    (hL : W2.heap[L.g]? = some (.cells (lrow L.ps).toArray 113)) (hLb : base ≤ L.g) (hLw : WantOk W2 S L) (hLp : ∀ p, p ∈ L.ps → PairOk Ls p.2.1 p.2.2) (hne : ∀ M, M ∈ Ls → M.g ≠ L.g) (hln : L.ps.length ≤ 4000000) : Lp W2 BB base S av' (Ls ++ [L]) := by
  have hBB := h.lt
  have hle := h.le
  refine ⟨hb, ?_, h.lt, Nat.le_trans h.le hsz, fun j M hj => ?_, fun i j M M' hi hj he => ?_, h.low, fun M hM => by rcases List.mem_append.1 hM with hM | hM; exact h.len M hM; rw [List.mem_singleton] at hM; rw [hM]; exact hln⟩
  · simpa using hrow
  · by_cases hjl : j < Ls.length
    · rw [List.getElem?_append_left hjl] at hj
      obtain ⟨q1, q2, q3, q4⟩ := h.loan j M hj
      have hM := List.mem_of_getElem? hj
      refine ⟨(hsame M.g (ltOf q1) (by omega) (hav M hM) (hbL M hM)).trans q1, q2, q3.congr (fun b hb => hsame b (by have := h.low b hb; omega) (by have := h.low b hb; omega) (hS b hb) (hbS b hb)), fun p hp => ?_⟩
      rw [List.take_append_of_le_length (by omega)]
      exact q4 p hp
    · rw [List.getElem?_append_right (by omega)] at hj
      have hj0 : j = Ls.length := by
        have := (List.getElem?_eq_some_iff.1 hj).1
        simp at this
        omega
      subst hj0
      simp at hj
      subst hj
      exact ⟨hL, hLb, hLw, fun p hp => by simpa using hLp p hp⟩
  · by_cases hil : i < Ls.length
    · by_cases hjl : j < Ls.length
      · rw [List.getElem?_append_left hil] at hi
        rw [List.getElem?_append_left hjl] at hj
        exact h.one i j M M' hi hj he
      · rw [List.getElem?_append_left hil] at hi
        rw [List.getElem?_append_right (by omega)] at hj
        have hj0 : j = Ls.length := by
          have := (List.getElem?_eq_some_iff.1 hj).1
          simp at this
          omega
        subst hj0
        simp at hj
        subst hj
        exact absurd he (hne M (List.mem_of_getElem? hi))
    · rw [List.getElem?_append_right (by omega)] at hi
      have hi0 : i = Ls.length := by
        have := (List.getElem?_eq_some_iff.1 hi).1
        simp at this
        omega
      subst hi0
      simp at hi
      subst hi
      by_cases hjl : j < Ls.length
      · rw [List.getElem?_append_left hjl] at hj
        exact absurd he.symm (hne M' (List.mem_of_getElem? hj))
      · rw [List.getElem?_append_right (by omega)] at hj
        have := (List.getElem?_eq_some_iff.1 hj).1
        simp at this
        omega

theorem Lp.loanLt {W : World} {BB base : Nat} {S : Nat → Prop} {av : Value} {Ls : List Loan} (h : Lp W BB base S av Ls) {L : Loan} (hL : L ∈ Ls) : L.g < W.heap.size := by
  obtain ⟨j, hj⟩ := List.mem_iff_getElem?.1 hL
  exact ltOf (h.loan j L hj).1
theorem Lp.loanBase {W : World} {BB base : Nat} {S : Nat → Prop} {av : Value} {Ls : List Loan} (h : Lp W BB base S av Ls) {L : Loan} (hL : L ∈ Ls) : base ≤ L.g := by
  obtain ⟨j, hj⟩ := List.mem_iff_getElem?.1 hL
  exact (h.loan j L hj).2.1
theorem Lp.loanBB {W : World} {BB base : Nat} {S : Nat → Prop} {av : Value} {Ls : List Loan} (h : Lp W BB base S av Ls) {L : Loan} (hL : L ∈ Ls) : L.g ≠ BB := by
  have := h.loanBase hL
  have := h.lt
  omega
theorem Lp.loanRow {W : World} {BB base : Nat} {S : Nat → Prop} {av : Value} {Ls : List Loan} (h : Lp W BB base S av Ls) {L : Loan} (hL : L ∈ Ls) : av.ownBlock ≠ some L.g := by
  intro e
  cases Ls with
  | nil => cases hL
  | cons M Ms =>
    have := h.row.cells e 0 _ (by rw [List.flatMap_cons]; rfl)
    exact h.apart hL (this : W.cell? ⟨L.g, 0, none⟩ = _) rfl
theorem Lp.rowBB {W : World} {BB base : Nat} {S : Nat → Prop} {av : Value} {Ls : List Loan} (h : Lp W BB base S av Ls) : av.ownBlock ≠ some BB := by
  intro e
  have := (h.row.lt BB e).1
  have := h.lt
  omega
theorem Lp.rowS {W : World} {BB base : Nat} {S : Nat → Prop} {av : Value} {Ls : List Loan} (h : Lp W BB base S av Ls) (b : Nat) (hb : S b) : av.ownBlock ≠ some b := by
  intro e
  have := (h.row.lt b e).1
  have := h.low b hb
  have := h.lt
  omega
end Go.Proofs.YtlghcldiboecoaaGreatDoor

/- The caller's loans: how a list is lent, step by step. -/
set_option linter.unusedVariables false
namespace Go.Proofs.YtlghcldiboecoaaGreatDoor
open Go.RowKit

mutual
/-- How many values there are in a value. -/
def cntV : Orch.V → Nat | .mk _ _ l => 1 + cntL l
def cntL : List Orch.V → Nat | [] => 0 | x :: r => cntV x + cntL r
end

theorem cntV_eq (v : Orch.V) : cntV v = 1 + cntL v.l := by cases v; rfl
theorem cntL_len : ∀ l : List Orch.V, l.length ≤ cntL l
  | [] => Nat.zero_le _
  | x :: r => by
    have := cntL_len r
    have h1 := cntV_eq x
    simp only [cntL, List.length_cons]
    omega
theorem cntL_take (l : List Orch.V) : ∀ i (hi : i < l.length), cntL (l.take (i + 1)) = cntL (l.take i) + cntV l[i] := by
  induction l with
  | nil => intro i hi; simp at hi
  | cons x r ih =>
    intro i hi
    cases i with
    | zero => simp [cntL]
    | succ i =>
      have := ih i (by simpa using hi)
      simp only [List.take_succ_cons, cntL, List.getElem_cons_succ]
      omega
theorem cntL_take_le (l : List Orch.V) : ∀ i, cntL (l.take i) ≤ cntL l := by
  induction l with
  | nil => intro i; simp
  | cons x r ih =>
    intro i
    cases i with
    | zero => simp [cntL]
    | succ i =>
      have := ih i
      simp only [List.take_succ_cons, cntL]
      omega

/-- Three cells are stored. -/
theorem store3 (W : World) (g k : Nat) (A R : List Value) (x0 x1 x2 : Value) (t : TypeId) (hg : W.heap[g]? = some (.cells (A ++ x0 :: x1 :: x2 :: R).toArray t)) (hk : A.length = k) (a b c : Value) :
    W.cell? ⟨g, k, none⟩ = some x0 ∧ W.frozen? ⟨g, k, none⟩ = false ∧
    (W.setCell ⟨g, k, none⟩ a).cell? ⟨g, k + 1, none⟩ = some x1 ∧ (W.setCell ⟨g, k, none⟩ a).frozen? ⟨g, k + 1, none⟩ = false ∧
    ((W.setCell ⟨g, k, none⟩ a).setCell ⟨g, k + 1, none⟩ b).cell? ⟨g, k + 2, none⟩ = some x2 ∧ ((W.setCell ⟨g, k, none⟩ a).setCell ⟨g, k + 1, none⟩ b).frozen? ⟨g, k + 2, none⟩ = false ∧
    (((W.setCell ⟨g, k, none⟩ a).setCell ⟨g, k + 1, none⟩ b).setCell ⟨g, k + 2, none⟩ c).heap[g]? = some (.cells (A ++ a :: b :: c :: R).toArray t) ∧
    W.grownBy (((W.setCell ⟨g, k, none⟩ a).setCell ⟨g, k + 1, none⟩ b).setCell ⟨g, k + 2, none⟩ c) (some g) ∧
    (((W.setCell ⟨g, k, none⟩ a).setCell ⟨g, k + 1, none⟩ b).setCell ⟨g, k + 2, none⟩ c).heap.size = W.heap.size := by
  subst hk
  have h1 := heap_setCell_same W g A.length _ t a hg
  rw [show (A ++ x0 :: x1 :: x2 :: R).toArray.setIfInBounds A.length a = (A ++ a :: x1 :: x2 :: R).toArray by simp] at h1
  have h2 := heap_setCell_same _ g (A.length + 1) _ t b h1
  rw [show (A ++ a :: x1 :: x2 :: R).toArray.setIfInBounds (A.length + 1) b = (A ++ a :: b :: x2 :: R).toArray by simp] at h2
  have h3 := heap_setCell_same _ g (A.length + 2) _ t c h2
  rw [show (A ++ a :: b :: x2 :: R).toArray.setIfInBounds (A.length + 2) c = (A ++ a :: b :: c :: R).toArray by simp] at h3
  refine ⟨cellOf hg (by simp), frozen_of_row W g _ _ t hg, cellOf h1 (by simp), frozen_of_row _ g _ _ t h1, cellOf h2 (by simp), frozen_of_row _ g _ _ t h2, h3, ⟨rfl, rfl, rfl, by simp, fun i _ hi => ?_⟩, by simp⟩
  have hne : i ≠ g := fun e => hi (by rw [e])
  rw [heap_setCell_other _ _ _ _ hne, heap_setCell_other _ _ _ _ hne, heap_setCell_other _ _ _ _ hne]

/-- The list that is being lent: some of its values, some places of room, what is not written yet. -/
def rowAt (qs : List (Orch.V × Value × Value)) (j m : Nat) : List Value := qs.flatMap lcell ++ ((List.replicate j bey).flatten ++ (List.replicate m zer).flatten)

theorem rowAt_end (qs : List (Orch.V × Value × Value)) : rowAt qs 3 0 = lrow qs := by simp [rowAt, lrow]

theorem rowAt_elem (qs : List (Orch.V × Value × Value)) (m : Nat) : rowAt qs 0 (m + 1) = qs.flatMap lcell ++ Value.int .i64 0 :: .string ⟨#[]⟩ :: .slice none 0 0 :: (List.replicate m zer).flatten := by
  simp [rowAt, List.replicate_succ, zer]
theorem rowAt_elem' (qs : List (Orch.V × Value × Value)) (m : Nat) (p : Orch.V × Value × Value) : qs.flatMap lcell ++ Value.int .i64 p.1.n :: .string p.1.s :: p.2.2 :: (List.replicate m zer).flatten = rowAt (qs ++ [p]) 0 m := by
  simp [rowAt, lcell, vcell]
theorem rowAt_room (qs : List (Orch.V × Value × Value)) (j m : Nat) : rowAt qs j (m + 1) = (qs.flatMap lcell ++ (List.replicate j bey).flatten) ++ Value.int .i64 0 :: .string ⟨#[]⟩ :: .slice none 0 0 :: (List.replicate m zer).flatten := by
  simp [rowAt, List.replicate_succ, zer]
theorem rowAt_room' (qs : List (Orch.V × Value × Value)) (j m : Nat) : (qs.flatMap lcell ++ (List.replicate j bey).flatten) ++ Value.int .i64 77 :: .string ⟨#[]⟩ :: .slice none 0 0 :: (List.replicate m zer).flatten = rowAt qs (j + 1) m := by
  rw [rowAt, show List.replicate (j + 1) bey = List.replicate j bey ++ [bey] from List.replicate_succ', List.flatten_append]
  simp [bey]
theorem room_len (qs : List (Orch.V × Value × Value)) (j : Nat) : (qs.flatMap lcell ++ (List.replicate j bey).flatten).length = (qs.length + j) * 3 := by
  rw [List.length_append, flat_len lcell 3 (fun _ => rfl), List.length_flatten]
  simp [bey]
  omega
theorem made_zer (m : Nat) : madeCells (vv 0 ⟨#[]⟩ (.slice none 0 0)).cells (m * 3) = (rowAt [] 0 m).toArray := by
  apply Array.ext'
  apply List.ext_getElem?
  intro j
  have hz : rowAt [] 0 m = (List.replicate m zer).flatten := by simp [rowAt]
  rw [hz]
  have hlen : (List.replicate m zer).flatten.length = m * 3 := by simp [zer]
  by_cases hj : j < m * 3
  · have hz2 : (List.replicate m zer).flatten[j]? = zer[j % 3]? := by
      clear hz hlen
      induction m generalizing j with
      | zero => omega
      | succ m ih =>
        rw [List.replicate_succ, List.flatten_cons]
        by_cases h3 : j < 3
        · rw [List.getElem?_append_left (by simpa [zer] using h3), Nat.mod_eq_of_lt h3]
        · rw [List.getElem?_append_right (by simp [zer]; omega), show zer.length = 3 from rfl, ih (j - 3) (by omega), show (j - 3) % 3 = j % 3 by omega]
    rw [hz2]
    have : j % 3 < 3 := Nat.mod_lt _ (by omega)
    simp only [madeCells, vv, Array.toList_map, Array.toList_range, List.getElem?_map, List.getElem?_range hj, Option.map_some]
    rcases (show j % 3 = 0 ∨ j % 3 = 1 ∨ j % 3 = 2 by omega) with h | h | h <;> simp [Value.cells, h, zer]
  · rw [List.getElem?_eq_none (by simp [madeCells]; omega), List.getElem?_eq_none (by simpa [hlen] using Nat.le_of_not_lt hj)]

/-- What a call of value leaves. -/
structure LvRes (W w' : World) (BB base : Nat) (S : Nat → Prop) (av av' : Value) (L0 L1 : List Loan) (vs : List Orch.V) (ov lv : Value) : Prop where
  lp : Lp w' BB base S av' (L0 ++ L1)
  pair : PairOk (L0 ++ L1) ov lv
  vat : VsAt w' (fun b => ∃ L : Loan, L ∈ L0 ++ L1 ∧ L.g = b) vs lv
  new : ∀ L : Loan, L ∈ L1 → W.heap.size ≤ L.g
  own : av'.ownBlock = av.ownBlock ∨ ∃ g, av'.ownBlock = some g ∧ W.heap.size ≤ g
  os : w'.os = W.os
  tape : w'.tape = W.tape
  output : w'.output = W.output
  size : W.heap.size ≤ w'.heap.size
  block : ∀ b, b < W.heap.size → b ≠ BB → av.ownBlock ≠ some b → w'.heap[b]? = W.heap[b]?
  cnt : L1.length ≤ 1 + cntL vs

/-- Halfway through a list. -/
structure Lo (w wr : World) (BB base : Nat) (S : Nat → Prop) (av : Value) (L0 : List Loan) (box : Array Value) (ps : List (Orch.V × Value)) (g i : Nat) (qs : List (Orch.V × Value × Value)) (av' : Value) (L1 : List Loan) : Prop where
  q : qs.map (fun p => (p.1, p.2.1)) = ps.take i
  blk : wr.heap[g]? = some (.cells (rowAt qs (i - ps.length) (ps.length + 3 - i)).toArray 113)
  vb : wr.heap[w.heap.size]? = some (.cells box 113)
  rb : wr.heap[w.heap.size + 1]? = some (.cells #[.int .i64 0, .string ⟨#[]⟩, .slice none 0 0] 113)
  lp : Lp wr BB base S av' (L0 ++ L1)
  pair : ∀ p, p ∈ qs → PairOk (L0 ++ L1) p.2.1 p.2.2
  vat : ∀ p, p ∈ qs → VsAt wr (fun b => ∃ L : Loan, L ∈ L0 ++ L1 ∧ L.g = b) p.1.l p.2.2
  new : ∀ L : Loan, L ∈ L1 → g < L.g
  old : ∀ L : Loan, L ∈ L0 → L.g < w.heap.size
  own : av'.ownBlock = av.ownBlock ∨ ∃ b, av'.ownBlock = some b ∧ g < b
  avl : ∀ b, av.ownBlock = some b → b < w.heap.size
  avS : ∀ b, S b → av.ownBlock ≠ some b
  os : wr.os = w.os
  tape : wr.tape = w.tape
  output : wr.output = w.output
  gs : g = w.heap.size + 2
  size : g < wr.heap.size
  block : ∀ b, b < w.heap.size → b ≠ BB → av.ownBlock ≠ some b → wr.heap[b]? = w.heap[b]?
  cnt : L1.length ≤ cntL ((ps.map Prod.fst).take i)

theorem Lo.qlen {w wr : World} {BB base : Nat} {S : Nat → Prop} {av : Value} {L0 : List Loan} {box : Array Value} {ps : List (Orch.V × Value)} {g i : Nat} {qs : List (Orch.V × Value × Value)} {av' : Value} {L1 : List Loan} (h : Lo w wr BB base S av L0 box ps g i qs av' L1) : qs.length = min i ps.length := by
  have := congrArg List.length h.q
  simpa using this

/-- A block of the loans' row, and the caller's own, are none of these. -/
theorem Lo.far {w wr : World} {BB base : Nat} {S : Nat → Prop} {av : Value} {L0 : List Loan} {box : Array Value} {ps : List (Orch.V × Value)} {g i : Nat} {qs : List (Orch.V × Value × Value)} {av' : Value} {L1 : List Loan} (h : Lo w wr BB base S av L0 box ps g i qs av' L1) (hBB : BB < w.heap.size) :
    ∀ b, w.heap.size ≤ b → b ≤ g → b ≠ BB ∧ av'.ownBlock ≠ some b ∧ ∀ L : Loan, L ∈ L0 ++ L1 → L.g ≠ b := by
  intro b h1 h2
  refine ⟨by omega, fun e => ?_, fun L hL e => ?_⟩
  · rcases h.own with ho | ⟨c, hc, hg⟩
    · have := h.avl b (ho ▸ e)
      omega
    · rw [hc] at e
      cases e
      omega
  · rcases List.mem_append.1 hL with hL | hL
    · have := h.old L hL
      omega
    · have := h.new L hL
      omega

/-- One value more is lent. -/
theorem Lo.elem {w wr w1 w2 : World} {BB base : Nat} {S : Nat → Prop} {av : Value} {L0 : List Loan} {box : Array Value} {ps : List (Orch.V × Value)} {g i : Nat} {qs : List (Orch.V × Value × Value)} {av' av2 : Value} {L1 L2 : List Loan} (h : Lo w wr BB base S av L0 box ps g i qs av' L1) (hBB : BB < w.heap.size) (hi : i < ps.length) (lv : Value)
    (hr : LvRes wr w1 BB base S av' av2 (L0 ++ L1) L2 (ps[i].1).l ps[i].2 lv) (hg : w2.heap[g]? = some (.cells (rowAt (qs ++ [(ps[i].1, ps[i].2, lv)]) 0 (ps.length + 3 - (i + 1))).toArray 113)) (hgr : w1.grownBy w2 (some g)) :
    Lo w w2 BB base S av L0 box ps g (i + 1) (qs ++ [(ps[i].1, ps[i].2, lv)]) av2 (L1 ++ L2) := by
  have hfar := h.far hBB
  have hgs := h.gs
  have hsz := h.size
  have hs1 := hr.size
  have hs2 := hgr.size
  have hlow : ∀ b, w.heap.size ≤ b → b ≤ g → b ≠ g → w2.heap[b]? = wr.heap[b]? := fun b h1 h2 h3 =>
    (hgr.block b (by omega) (by simpa using h3)).trans (hr.block b (by omega) (hfar b h1 h2).1 (hfar b h1 h2).2.1)
  have hLg : ∀ L : Loan, L ∈ L0 ++ L1 → L.g ≠ g := (hfar g (by omega) (Nat.le_refl _)).2.2
  have hown2 : ∀ b, av2.ownBlock = some b → b ≠ g := by
    intro b hb e
    subst e
    rcases hr.own with ho | ⟨c, hc, hcg⟩
    · exact (hfar b (by omega) (Nat.le_refl _)).2.1 (ho ▸ hb)
    · rw [hc] at hb
      cases hb
      omega
  refine ⟨?_, ?_, ?_, ?_, ?_, ?_, ?_, ?_, h.old, ?_, h.avl, h.avS, ?_, ?_, ?_, h.gs, ?_, ?_, ?_⟩
  · rw [List.map_append, h.q, List.take_add_one, List.getElem?_eq_getElem hi]
    rfl
  · rw [show i + 1 - ps.length = 0 by omega]
    exact hg
  · exact (hlow _ (Nat.le_refl _) (by omega) (by omega)).trans h.vb
  · exact (hlow _ (by omega) (by omega) (by omega)).trans h.rb
  · rw [← List.append_assoc]
    refine hr.lp.keep (fun b => b = g) hs2 (fun b hb hne => hgr.block b hb (by simpa using hne)) (fun e => by omega) (fun b hb e => hown2 b hb e) (fun L hL e => ?_) (fun b hb e => ?_)
    · rcases List.mem_append.1 hL with hL | hL
      · exact hLg L hL e
      · have := hr.new L hL
        omega
    · have := hr.lp.low b hb
      omega
  · intro p hp
    rw [← List.append_assoc]
    rcases List.mem_append.1 hp with hp | hp
    · exact (h.pair p hp).mono fun L hL => List.mem_append_left _ hL
    · rw [List.mem_singleton] at hp
      subst hp
      exact hr.pair
  · intro p hp
    rcases List.mem_append.1 hp with hp | hp
    · refine (h.vat p hp).congr (fun b hb => ?_) (fun b hb => ?_)
      · obtain ⟨L, hL, rfl⟩ := hb
        exact ⟨L, by rw [← List.append_assoc]; exact List.mem_append_left _ hL, rfl⟩
      · obtain ⟨L, hL, rfl⟩ := hb
        exact (hgr.block _ (Nat.lt_of_lt_of_le (h.lp.loanLt hL) hs1) (by simpa using hLg L hL)).trans (hr.block _ (h.lp.loanLt hL) (h.lp.loanBB hL) (h.lp.loanRow hL))
    · rw [List.mem_singleton] at hp
      subst hp
      refine hr.vat.congr (fun b hb => ?_) (fun b hb => ?_)
      · rwa [← List.append_assoc]
      · obtain ⟨L, hL, rfl⟩ := hb
        refine hgr.block _ (hr.lp.loanLt hL) ?_
        rcases List.mem_append.1 hL with hL | hL
        · simpa using hLg L hL
        · have := hr.new L hL
          simp
          omega
  · intro L hL
    rcases List.mem_append.1 hL with hL | hL
    · exact h.new L hL
    · have := hr.new L hL
      omega
  · rcases hr.own with ho | ⟨c, hc, hcg⟩
    · rw [ho]
      exact h.own
    · exact .inr ⟨c, hc, by omega⟩
  · exact hgr.os.trans (hr.os.trans h.os)
  · exact hgr.tape.trans (hr.tape.trans h.tape)
  · exact hgr.output.trans (hr.output.trans h.output)
  · omega
  · intro b hb hne hob
    refine (hgr.block b (by omega) (by simp; omega)).trans ((hr.block b (by omega) hne ?_).trans (h.block b hb hne hob))
    intro e
    rcases h.own with ho | ⟨c, hc, hcg⟩
    · exact hob (ho ▸ e)
    · rw [hc] at e
      cases e
      omega
  · rw [cntL_take _ _ (by simpa using hi), List.length_append]
    have h1 := h.cnt
    have h2 := hr.cnt
    have h3 := cntV_eq ps[i].1
    simp only [List.getElem_map]
    omega

/-- The beginning. -/
theorem Lo.start {w W : World} {BB base : Nat} {S : Nat → Prop} {av : Value} {L0 : List Loan} {box : Array Value} (ps : List (Orch.V × Value)) (h : Lp w BB base S av L0) (hW : W = ((w.alloc (.cells box 113)).alloc (.cells #[.int .i64 0, .string ⟨#[]⟩, .slice none 0 0] 113)).alloc (.cells (madeCells (vv 0 ⟨#[]⟩ (.slice none 0 0)).cells ((ps.length + 3) * 3)) 113)) :
    Lo w W BB base S av L0 box ps (w.heap.size + 2) 0 [] av [] := by
  obtain ⟨n0, n1⟩ := new2 w (.cells box 113) (.cells #[.int .i64 0, .string ⟨#[]⟩, .slice none 0 0] 113)
  have hb2 := below2 w (.cells box 113) (.cells #[.int .i64 0, .string ⟨#[]⟩, .slice none 0 0] 113)
  have hb3 := below1 ((w.alloc (.cells box 113)).alloc (.cells #[.int .i64 0, .string ⟨#[]⟩, .slice none 0 0] 113)) (.cells (madeCells (vv 0 ⟨#[]⟩ (.slice none 0 0)).cells ((ps.length + 3) * 3)) 113)
  have hn := heap_alloc_new ((w.alloc (.cells box 113)).alloc (.cells #[.int .i64 0, .string ⟨#[]⟩, .slice none 0 0] 113)) (.cells (madeCells (vv 0 ⟨#[]⟩ (.slice none 0 0)).cells ((ps.length + 3) * 3)) 113)
  have hs2 : ((w.alloc (.cells box 113)).alloc (.cells #[.int .i64 0, .string ⟨#[]⟩, .slice none 0 0] 113)).heap.size = w.heap.size + 2 := by simp
  rw [← hW] at hb3 hn
  rw [hs2] at hn
  have hs3 : W.heap.size = w.heap.size + 3 := by rw [hW]; simp
  have hb : Below w.heap.size w W := hb2.trans (hb3.mono hb2.size)
  refine ⟨by simp, ?_, (hb3.block _ (by omega)).trans n0, (hb3.block _ (by omega)).trans n1, by simpa using h.below hb, (fun p hp => by cases hp), (fun p hp => by cases hp), (fun L hL => by cases hL), fun L hL => h.loanLt hL, .inl rfl, fun b hb => (h.row.lt b hb).2, h.rowS, hb.os, hb.tape, hb.output, rfl, by omega, fun b h1 _ _ => hb.block b h1, by simp⟩
  rw [hn, made_zer, Nat.zero_sub, Nat.sub_zero]

/-- A place of room more. -/
theorem Lo.room {w wr w2 : World} {BB base : Nat} {S : Nat → Prop} {av : Value} {L0 : List Loan} {box : Array Value} {ps : List (Orch.V × Value)} {g i : Nat} {qs : List (Orch.V × Value × Value)} {av' : Value} {L1 : List Loan} (h : Lo w wr BB base S av L0 box ps g i qs av' L1) (hBB : BB < w.heap.size) (hi : ps.length ≤ i)
    (hg : w2.heap[g]? = some (.cells (rowAt qs (i + 1 - ps.length) (ps.length + 3 - (i + 1))).toArray 113)) (hgr : wr.grownBy w2 (some g)) :
    Lo w w2 BB base S av L0 box ps g (i + 1) qs av' L1 := by
  have hfar := h.far hBB
  have hgs := h.gs
  have hsz := h.size
  have hs2 := hgr.size
  have hLg : ∀ L : Loan, L ∈ L0 ++ L1 → L.g ≠ g := (hfar g (by omega) (Nat.le_refl _)).2.2
  refine ⟨?_, hg, (hgr.block _ (by omega) (by simp; omega)).trans h.vb, (hgr.block _ (by omega) (by simp; omega)).trans h.rb, ?_, h.pair, ?_, h.new, h.old, h.own, h.avl, h.avS, hgr.os.trans h.os, hgr.tape.trans h.tape, hgr.output.trans h.output, h.gs, by omega, ?_, ?_⟩
  · rw [h.q, List.take_of_length_le hi, List.take_of_length_le (by omega)]
  · refine h.lp.keep (fun b => b = g) hs2 (fun b hb hne => hgr.block b hb (by simpa using hne)) (fun e => by omega) (fun b hb e => (hfar g (by omega) (Nat.le_refl _)).2.1 (e ▸ hb)) (fun L hL e => hLg L hL e) (fun b hb e => ?_)
    have := h.lp.low b hb
    omega
  · intro p hp
    refine (h.vat p hp).congr (fun b hb => hb) (fun b hb => ?_)
    obtain ⟨L, hL, rfl⟩ := hb
    exact hgr.block _ (h.lp.loanLt hL) (by simpa using hLg L hL)
  · intro b hb hne hob
    exact (hgr.block b (by omega) (by simp; omega)).trans (h.block b hb hne hob)
  · rw [List.take_of_length_le (by simp; omega)]
    have := h.cnt
    rwa [List.take_of_length_le (by simpa using hi)] at this

/-- The end. -/
theorem Lo.done {w wr wf : World} {BB base : Nat} {S : Nat → Prop} {av : Value} {L0 : List Loan} {box : Array Value} {ps : List (Orch.V × Value)} {g : Nat} {qs : List (Orch.V × Value × Value)} {av' av2 : Value} {L1 : List Loan} (h : Lo w wr BB base S av L0 box ps g (ps.length + 3) qs av' L1) (hBB : BB < w.heap.size) (hbw : base ≤ w.heap.size) (hpl : ps.length ≤ 4000000) (la : Addr) (lc : Nat) (hlc : ps.length ≤ lc)
    (hw : ps ≠ [] → ∃ gl o, la = ⟨gl, o, none⟩ ∧ S gl ∧ ∀ j u, (ps.flatMap vcell)[j]? = some u → w.cell? ⟨gl, o + j, none⟩ = some u)
    (hbb : wf.heap[BB]? = some (.cells #[av2] 157)) (hrow : wf.ownsRow base 221 2 av2 ((L0 ++ L1).length + 1) ((L0 ++ L1).flatMap loanc ++ [.slice (some ⟨g, 0, none⟩) (ps.length + 3) (ps.length + 3), .slice (some la) ps.length lc]))
    (hsame : ∀ b, b < wr.heap.size → b ≠ BB → av'.ownBlock ≠ some b → ¬ (b = w.heap.size ∨ b = w.heap.size + 1) → wf.heap[b]? = wr.heap[b]?) (hos : wf.os = wr.os) (htape : wf.tape = wr.tape) (hout : wf.output = wr.output) (hsz : wr.heap.size ≤ wf.heap.size)
    (hav : av2.ownBlock = av'.ownBlock ∨ ∃ c, av2.ownBlock = some c ∧ wr.heap.size ≤ c) :
    ∃ av2 L2, LvRes w wf BB base S av av2 L0 L2 (ps.map Prod.fst) (.slice (some la) ps.length lc) (.slice (some ⟨g, 0, none⟩) ps.length (ps.length + 3)) := by
  have hfar := h.far hBB
  have hgs := h.gs
  have hs := h.size
  have hql : qs.length = ps.length := by rw [h.qlen]; omega
  have hq : qs.map (fun p => (p.1, p.2.1)) = ps := by rw [h.q, List.take_of_length_le (by omega)]
  have hg : wf.heap[g]? = some (.cells (lrow qs).toArray 113) := by
    rw [hsame g hs (by omega) (hfar g (by omega) (Nat.le_refl _)).2.1 (by omega), h.blk, show ps.length + 3 - ps.length = 3 by omega, Nat.sub_self, rowAt_end]
  have hoc : qs.flatMap ocell = ps.flatMap vcell := by
    rw [← hq, List.flatMap_map]
    rfl
  have hSw : ∀ b, S b → wf.heap[b]? = w.heap[b]? := fun b hb => by
    have h1 := h.lp.low b hb
    have hob := h.avS b hb
    refine (hsame b (by omega) (by omega) (h.lp.rowS b hb) (by omega)).trans (h.block b (by omega) (by omega) hob)
  let L : Loan := ⟨g, qs, .slice (some la) ps.length lc⟩
  have hLp : Lp wf BB base S av2 ((L0 ++ L1) ++ [L]) := by
    refine h.lp.add hbb ?_ (fun b => b = w.heap.size ∨ b = w.heap.size + 1) (fun M hM => ?_) (fun b hb => ?_) hsz hsame (fun M hM => h.lp.loanRow hM) h.lp.rowS hg (by show base ≤ g; omega) ?_ h.pair (fun M hM => (hfar g (by omega) (Nat.le_refl _)).2.2 M hM) (by simp only [L, hql]; exact hpl)
    · have : loanc L = [.slice (some ⟨g, 0, none⟩) (ps.length + 3) (ps.length + 3), .slice (some la) ps.length lc] := by simp only [loanc, L, hql]
      rw [this]
      exact hrow
    · rintro (e | e)
      · exact (hfar _ (Nat.le_refl _) (by omega)).2.2 M hM e
      · exact (hfar _ (by omega) (by omega)).2.2 M hM e
    · have := h.lp.low b hb
      omega
    · refine ⟨la, lc, by simp only [L, hql], by simp only [L, hql]; exact hlc, fun h0 => ?_⟩
      have hp0 : ps ≠ [] := by
        intro e
        subst e
        exact h0 (List.length_eq_zero_iff.1 hql)
      obtain ⟨gl, o, hla, hSg, hc⟩ := hw hp0
      refine ⟨gl, o, hla, hSg, fun j u hj => ?_⟩
      exact (World.cell?_of_block (w := w) (a := ⟨gl, o + j, none⟩) (hSw gl hSg)).trans (hc j u (by rw [← hoc]; exact hj))
  refine ⟨av2, L1 ++ [L], by rw [← List.append_assoc]; exact hLp, .inr ⟨L, la, lc, by simp, by simp only [L, hql], by simp only [L, hql]⟩, ?_, ?_, ?_, hos.trans h.os, htape.trans h.tape, hout.trans h.output, by omega, ?_, ?_⟩
  · have hpm : (qs.map (fun p => (p.1, p.2.2))).map Prod.fst = ps.map Prod.fst := by
      rw [← hq]
      simp [Function.comp_def]
    have hfl : (qs.map (fun p => (p.1, p.2.2))).flatMap vcell = qs.flatMap lcell := by
      rw [List.flatMap_map]
      rfl
    by_cases h0 : ps = []
    · subst h0
      exact .nil _ _
    · have hq0 : qs ≠ [] := by
        intro e
        subst e
        exact h0 (List.length_eq_zero_iff.1 hql.symm)
      have hrw := VsAt.row (w := wf) (S := fun b => ∃ L' : Loan, L' ∈ L0 ++ (L1 ++ [L]) ∧ L'.g = b) (qs.map (fun p => (p.1, p.2.2))) g (ps.length + 3) (by simpa using hq0) (by simp; omega) ⟨L, by simp, rfl⟩ (fun j u hj => ?_) (fun p hp => ?_)
      · rw [hpm, List.length_map, hql] at hrw
        exact hrw
      · rw [hfl] at hj
        refine cellOf hg ?_
        have hjl := (List.getElem?_eq_some_iff.1 hj).1
        rw [List.getElem?_toArray, lrow, List.getElem?_append_left hjl]
        exact hj
      · obtain ⟨p', hp', rfl⟩ := List.mem_map.1 hp
        refine (h.vat p' hp').congr (fun b hb => ?_) (fun b hb => ?_)
        · obtain ⟨M, hM, rfl⟩ := hb
          exact ⟨M, by rw [← List.append_assoc]; exact List.mem_append_left _ hM, rfl⟩
        · obtain ⟨M, hM, rfl⟩ := hb
          refine hsame _ (h.lp.loanLt hM) (h.lp.loanBB hM) (h.lp.loanRow hM) ?_
          rintro (e | e)
          · exact (hfar _ (Nat.le_refl _) (by omega)).2.2 M hM e
          · exact (hfar _ (by omega) (by omega)).2.2 M hM e
  · intro M hM
    rcases List.mem_append.1 hM with hM | hM
    · have := h.new M hM
      omega
    · rw [List.mem_singleton] at hM
      subst hM
      show w.heap.size ≤ g
      omega
  · rcases hav with ho | ⟨c, hc, hcg⟩
    · rw [ho]
      rcases h.own with ho | ⟨c, hc, hcg⟩
      · exact .inl ho
      · exact .inr ⟨c, hc, by omega⟩
    · exact .inr ⟨c, hc, by omega⟩
  · intro b hb hne hob
    refine (hsame b (by omega) hne ?_ (by omega)).trans (h.block b hb hne hob)
    intro e
    rcases h.own with ho | ⟨c, hc, hcg⟩
    · exact hob (ho ▸ e)
    · rw [hc] at e
      cases e
      omega
  · have := h.cnt
    rw [List.take_of_length_le (by simp)] at this
    simp only [List.length_append, List.length_singleton]
    omega
end Go.Proofs.YtlghcldiboecoaaGreatDoor
