/- The caller's loans: halfway through the look at them. -/
import Derived.Test.YtlghcldiboecoaaGreatDoorLStep
set_option linter.unusedVariables false
namespace Go.Proofs.YtlghcldiboecoaaGreatDoor
open Go.RowKit

/-- A list whose first i places are written over. -/
def half (ps : List (Orch.V × Value × Value)) (i : Nat) : List Value := (List.replicate i ovr).flatten ++ (lrow ps).drop (i * 3)

theorem half_zero (ps : List (Orch.V × Value × Value)) : half ps 0 = lrow ps := by simp [half]
theorem half_end (ps : List (Orch.V × Value × Value)) : half ps (ps.length + 3) = orow ps.length := by
  rw [half, List.drop_of_length_le (by rw [lrow_len]; omega), List.append_nil]
  rfl
theorem over_len (i : Nat) : (List.replicate i ovr).flatten.length = i * 3 := by simp [ovr]

theorem lrow_get (ps : List (Orch.V × Value × Value)) (i : Nat) (hi : i < ps.length) : (lrow ps).drop (i * 3) = .int .i64 ps[i].1.n :: .string ps[i].1.s :: ps[i].2.2 :: (lrow ps).drop ((i + 1) * 3) := by
  have h0 : ∀ j, j < 3 → (lrow ps)[i * 3 + j]? = (lcell ps[i])[j]? := fun j hj => by
    have hlt : i * 3 + j < (ps.flatMap lcell).length := by rw [flat_len lcell 3 (fun _ => rfl)]; omega
    rw [lrow, List.getElem?_append_left hlt, flat_get lcell 3 (fun _ => rfl) ps i j hj, List.getElem?_eq_getElem hi, Option.bind_some]
  apply List.ext_getElem?
  intro j
  rw [List.getElem?_drop]
  match j with
  | 0 => rw [h0 0 (by omega)]; rfl
  | 1 => rw [h0 1 (by omega)]; rfl
  | 2 => rw [h0 2 (by omega)]; rfl
  | j + 3 =>
    simp only [List.getElem?_cons_succ]
    rw [List.getElem?_drop]
    congr 1
    omega

theorem lrow_room (ps : List (Orch.V × Value × Value)) (i : Nat) (h1 : ps.length ≤ i) (h2 : i < ps.length + 3) : (lrow ps).drop (i * 3) = .int .i64 77 :: .string ⟨#[]⟩ :: .slice none 0 0 :: (lrow ps).drop ((i + 1) * 3) := by
  obtain ⟨k, rfl⟩ : ∃ k, i = ps.length + k := ⟨i - ps.length, by omega⟩
  have hl : (ps.flatMap lcell).length = ps.length * 3 := flat_len lcell 3 (fun _ => rfl) ps
  have hd : ∀ m, (lrow ps).drop ((ps.length + m) * 3) = ((List.replicate 3 bey).flatten).drop (m * 3) := fun m => by
    rw [lrow, show (ps.length + m) * 3 = (ps.flatMap lcell).length + m * 3 by rw [hl]; omega, List.drop_append]
    simp
  rw [hd, show ps.length + k + 1 = ps.length + (k + 1) by omega, hd]
  rcases (show k = 0 ∨ k = 1 ∨ k = 2 by omega) with rfl | rfl | rfl <;> rfl

theorem half_step (ps : List (Orch.V × Value × Value)) (i : Nat) : (List.replicate i ovr).flatten ++ Value.int .i64 (-5) :: .string ⟨#[]⟩ :: .slice none 0 0 :: (lrow ps).drop ((i + 1) * 3) = half ps (i + 1) := by
  rw [half, show List.replicate (i + 1) ovr = List.replicate i ovr ++ [ovr] from List.replicate_succ', List.flatten_append]
  simp [ovr]

theorem orow_get (n i : Nat) (hi : i < n + 3) : (orow n)[i * 3]? = some (.int .i64 (-5)) ∧ (orow n)[i * 3 + 1]? = some (.string ⟨#[]⟩) ∧ (orow n)[i * 3 + 2]? = some (.slice none 0 0) := by
  have h : ∀ m i j, i < m → j < 3 → ((List.replicate m ovr).flatten)[i * 3 + j]? = ovr[j]? := by
    intro m
    induction m with
    | zero => intro i j h; omega
    | succ m ih =>
      intro i j hi hj
      rw [List.replicate_succ, List.flatten_cons]
      cases i with
      | zero => rw [Nat.zero_mul, Nat.zero_add, List.getElem?_append_left (by simpa [ovr] using hj)]
      | succ i =>
        rw [List.getElem?_append_right (by simp [ovr]; omega), show ovr.length = 3 from rfl, show (i + 1) * 3 + j - 3 = i * 3 + j by omega]
        exact ih i j (by omega) hj
  exact ⟨h _ i 0 hi (by omega), h _ i 1 hi (by omega), h _ i 2 hi (by omega)⟩

/-- k lists are written over, and i places of the next. -/
structure Md (w W : World) (Ls : List Loan) (k i : Nat) : Prop where
  done : ∀ (j : Nat) (L : Loan), Ls[j]? = some L → j < k → W.heap[L.g]? = some (.cells (orow L.ps.length).toArray 113)
  now : ∀ (L : Loan), Ls[k]? = some L → W.heap[L.g]? = some (.cells (half L.ps i).toArray 113)
  rest : ∀ (j : Nat) (L : Loan), Ls[j]? = some L → k < j → W.heap[L.g]? = some (.cells (lrow L.ps).toArray 113)
  other : ∀ b, b < w.heap.size → (∀ L : Loan, L ∈ Ls → L.g ≠ b) → W.heap[b]? = w.heap[b]?
  os : W.os = w.os
  tape : W.tape = w.tape
  output : W.output = w.output
  size : w.heap.size ≤ W.heap.size

theorem Md.start {w : World} {BB base : Nat} {S : Nat → Prop} {av : Value} {Ls : List Loan} (h : Lp w BB base S av Ls) : Md w w Ls 0 0 :=
  ⟨fun j L _ hj => by omega, fun L hL => by rw [half_zero]; exact (h.loan 0 L hL).1, fun j L hL _ => (h.loan j L hL).1, fun _ _ _ => rfl, rfl, rfl, rfl, Nat.le_refl _⟩

theorem Md.below {w W W' : World} {Ls : List Loan} {k i : Nat} (h : Md w W Ls k i) (hb : Below W.heap.size W W') : Md w W' Ls k i :=
  ⟨fun j L hL hj => (hb.block _ (ltOf (h.done j L hL hj))).trans (h.done j L hL hj), fun L hL => (hb.block _ (ltOf (h.now L hL))).trans (h.now L hL), fun j L hL hj => (hb.block _ (ltOf (h.rest j L hL hj))).trans (h.rest j L hL hj),
    fun b hb' hn => (hb.block b (Nat.lt_of_lt_of_le hb' h.size)).trans (h.other b hb' hn), hb.os.trans h.os, hb.tape.trans h.tape, hb.output.trans h.output, Nat.le_trans h.size hb.size⟩

theorem Md.step {w W W' : World} {BB base : Nat} {S : Nat → Prop} {av : Value} {Ls : List Loan} {k i : Nat} (hp : Lp w BB base S av Ls) (h : Md w W Ls k i) {L : Loan} (hL : Ls[k]? = some L) (hg : W'.heap[L.g]? = some (.cells (half L.ps (i + 1)).toArray 113)) (hgr : W.grownBy W' (some L.g)) : Md w W' Ls k (i + 1) := by
  have hne : ∀ j M, Ls[j]? = some M → j ≠ k → some M.g ≠ some L.g := fun j M hM hj e => hj (hp.one j k M L hM hL (by simpa using e))
  refine ⟨fun j M hM hj => (hgr.block _ (ltOf (h.done j M hM hj)) (hne j M hM (by omega))).trans (h.done j M hM hj), fun M hM => ?_, fun j M hM hj => (hgr.block _ (ltOf (h.rest j M hM hj)) (hne j M hM (by omega))).trans (h.rest j M hM hj),
    fun b hb hn => (hgr.block b (Nat.lt_of_lt_of_le hb h.size) (fun e => hn L (List.mem_of_getElem? hL) (by simpa using e.symm))).trans (h.other b hb hn), hgr.os.trans h.os, hgr.tape.trans h.tape, hgr.output.trans h.output, Nat.le_trans h.size hgr.size⟩
  rw [hL] at hM
  cases hM
  exact hg

theorem Md.next {w W : World} {Ls : List Loan} {k : Nat} {L : Loan} (h : Md w W Ls k (L.ps.length + 3)) (hL : Ls[k]? = some L) : Md w W Ls (k + 1) 0 := by
  refine ⟨fun j M hM hj => ?_, fun M hM => ?_, fun j M hM hj => h.rest j M hM (by omega), h.other, h.os, h.tape, h.output, h.size⟩
  · by_cases hjk : j < k
    · exact h.done j M hM hjk
    · have : j = k := by omega
      subst this
      rw [hL] at hM
      cases hM
      rw [h.now L hL, half_end]
  · rw [half_zero]
    exact h.rest (k + 1) M hM (by omega)
end Go.Proofs.YtlghcldiboecoaaGreatDoor
