/- The trees that grown makes: plain. -/
import Derived.Test.YtbnoghkijgmcgaaDoorFIns
import Derived.Lib.SplitLaws
set_option linter.unusedVariables false
namespace Go.Proofs.YtbnoghkijgmcgaaDoor
open Go.RowKit

theorem bl_trans : ∀ a b c : List UInt8, Op.bytesLess a b = true → Op.bytesLess b c = true → Op.bytesLess a c = true
  | [], [], _, h, _ => by simp [Op.bytesLess] at h
  | _ :: _, [], _, h, _ => by simp [Op.bytesLess] at h
  | _, _ :: _, [], _, h => by simp [Op.bytesLess] at h
  | [], _ :: _, _ :: _, _, _ => by simp [Op.bytesLess]
  | a :: x, b :: y, c :: z, h, h' => by
    simp only [Op.bytesLess, Bool.or_eq_true, Bool.and_eq_true, decide_eq_true_iff, beq_iff_eq] at h h' ⊢
    rcases h with h | ⟨rfl, h⟩
    · rcases h' with h' | ⟨rfl, h'⟩
      · exact .inl (by rw [UInt8.lt_iff_toNat_lt] at *; omega)
      · exact .inl h
    · rcases h' with h' | ⟨rfl, h'⟩
      · exact .inl h'
      · exact .inr ⟨rfl, bl_trans x y z h h'⟩

theorem bl_tri : ∀ a b : List UInt8, Op.bytesLess a b = false → a ≠ b → Op.bytesLess b a = true
  | [], [], _, h => absurd rfl h
  | _ :: _, [], _, _ => by simp [Op.bytesLess]
  | [], _ :: _, h, _ => by simp [Op.bytesLess] at h
  | a :: x, b :: y, h, hn => by
    simp only [Op.bytesLess, Bool.or_eq_false_iff, Bool.and_eq_false_iff, decide_eq_false_iff_not, beq_eq_false_iff_ne] at h
    simp only [Op.bytesLess, Bool.or_eq_true, Bool.and_eq_true, decide_eq_true_iff, beq_iff_eq]
    by_cases e : a = b
    · subst e
      exact .inr ⟨rfl, bl_tri x y (h.2.resolve_left (fun h => h rfl)) (fun e => hn (by rw [e]))⟩
    · refine .inl ?_
      have h1 := h.1
      have : a.toNat ≠ b.toNat := fun e' => e (UInt8.toNat_inj.1 e')
      rw [UInt8.lt_iff_toNat_lt] at *
      omega

theorem mem_ins (x : Orch.Node) : ∀ (r : List Orch.Node) y, y ∈ insN x r → y = x ∨ y ∈ r
  | [], y, h => by simpa [insN] using h
  | a :: r, y, h => by
    unfold insN at h
    split at h
    · simpa using h
    · split at h
      · exact .inr h
      · rcases List.mem_cons.1 h with h | h
        · exact .inr (by simp [h])
        · rcases mem_ins x r y h with h | h
          · exact .inl h
          · exact .inr (by simp [h])

theorem ins_mem (x : Orch.Node) : ∀ (r : List Orch.Node) y, y ∈ r → y ∈ insN x r
  | [], y, h => by simp at h
  | a :: r, y, h => by
    unfold insN
    split
    · exact List.mem_cons_of_mem _ h
    · split
      · exact h
      · rcases List.mem_cons.1 h with h | h
        · simp [h]
        · exact List.mem_cons_of_mem _ (ins_mem x r y h)

theorem ins_len (x : Orch.Node) : ∀ r : List Orch.Node, (insN x r).length ≤ r.length + 1
  | [] => by simp [insN]
  | a :: r => by
    unfold insN
    split
    · simp
    · split
      · simp
      · have := ins_len x r
        simpa using this

def Ord (r : List Orch.Node) : Prop := r.Pairwise fun a b => ltP a.path b.path = true

theorem ins_ord (x : Orch.Node) : ∀ r : List Orch.Node, Ord r → Ord (insN x r)
  | [], _ => by simp [Ord, insN]
  | a :: r, h => by
    have h' := List.pairwise_cons.1 h
    unfold insN
    split
    · rename_i hlt
      refine List.pairwise_cons.2 ⟨fun y hy => ?_, h⟩
      rcases List.mem_cons.1 hy with rfl | hy
      · exact hlt
      · exact bl_trans _ _ _ hlt (h'.1 y hy)
    · rename_i hlt
      split
      · exact h
      · rename_i hne
        refine List.pairwise_cons.2 ⟨fun y hy => ?_, ins_ord x r h'.2⟩
        rcases mem_ins x r y hy with rfl | hy
        · exact bl_tri _ _ (by simpa [ltP] using hlt) (by simpa using hne)
        · exact h'.1 y hy

/-- Names of one letter each, a slash ahead of each. -/
def pr (l : List UInt8) : List UInt8 := l.flatMap fun c => [47, c]

theorem pr_snoc (l : List UInt8) (c : UInt8) : pr (l ++ [c]) = pr l ++ [47, c] := by simp [pr]
theorem pr_len : ∀ l : List UInt8, (pr l).length = 2 * l.length
  | [] => rfl
  | c :: l => by
    have := pr_len l
    show (47 :: c :: pr l).length = _
    simp only [List.length_cons]
    omega

theorem split_pr : ∀ (l : List UInt8) (c : UInt8), c ≠ 47 → (∀ d ∈ l, d ≠ 47) → Lib.splitK [47] 0 l.length (c :: pr l) = (c :: l).map fun d => [d]
  | [], c, _, _ => rfl
  | d :: l, c, hc, hl => by
    have hi : Lib.index (c :: 47 :: d :: pr l) [47] = 1 := by
      have hp : ([47] : List UInt8).isPrefixOf (c :: 47 :: d :: pr l) = false := by
        simp only [List.isPrefixOf, Bool.and_true, beq_eq_false_iff_ne]
        exact fun e => hc e.symm
      have hq : ([47] : List UInt8).isPrefixOf (47 :: d :: pr l) = true := by simp [List.isPrefixOf]
      have h0 : Lib.index (47 :: d :: pr l) [47] = 0 := by rw [Lib.index, if_pos hq]
      rw [Lib.index, if_neg (by rw [hp]; simp), h0]
      rfl
    have ih := split_pr l d (hl d (by simp)) (fun e he => hl e (by simp [he]))
    show Lib.splitK [47] 0 (l.length + 1) (c :: 47 :: d :: pr l) = _
    rw [Lib.splitK, hi, if_neg (by decide)]
    show [c] :: Lib.splitK [47] 0 l.length (d :: pr l) = _
    rw [ih]
    rfl

theorem count_pr : ∀ (l : List UInt8), (∀ d ∈ l, d ≠ 47) → (pr l).count 47 = l.length
  | [], _ => rfl
  | d :: l, h => by
    have ih := count_pr l (fun e he => h e (by simp [he]))
    show (47 :: d :: pr l).count 47 = _
    rw [List.count_cons_self, List.count_cons_of_ne (h d (by simp)), ih]
    rfl

theorem nm_one {p : ByteArray} {d : UInt8} (h : p.data.toList = [d]) (h0 : 97 ≤ d.toNat) (h1 : d.toNat ≤ 116) : isNm p = true := by
  unfold isNm
  rw [Bool.and_eq_true, decide_eq_true_iff, h]
  refine ⟨⟨?_, ?_, ?_⟩, ?_⟩
  · rintro rfl; simp at h
  · rintro rfl
    simp at h
    rw [← h] at h0
    exact absurd h0 (by decide)
  · rintro rfl; simp at h
  · simp [nameC]
    omega

/-- A path of pairs. -/
def Pairs (s : ByteArray) : Prop := ∃ l, l ≠ [] ∧ (∀ c ∈ l, 97 ≤ c.toNat ∧ c.toNat ≤ 116) ∧ s.data.toList = pr l

theorem ne47 {d : UInt8} (h : 97 ≤ d.toNat) : d ≠ 47 := by rintro rfl; exact absurd h (by decide)

theorem pairs_pa {s : ByteArray} (h : Pairs s) (hs : s.size ≤ 24) : isPa s = true := by
  obtain ⟨l, hne, hl, e⟩ := h
  cases l with
  | nil => exact absurd rfl hne
  | cons c l =>
    have e' : s.data.toList = 47 :: c :: pr l := e
    have hsz : s.size = l.length * 2 + 2 := by
      have := congrArg List.length e'
      rw [List.length_cons, List.length_cons, pr_len, Array.length_toList] at this
      show s.data.size = _
      omega
    have hx : (s.extract 1 s.size).data.toList = c :: pr l := by
      rw [ByteArray.data_extract, Array.toList_extract, e', hsz]
      show (c :: pr l).take _ = _
      exact List.take_of_length_le (by rw [List.length_cons, pr_len]; omega)
    have h47 : ∀ d ∈ l, d ≠ 47 := fun d hd => ne47 (hl d (by simp [hd])).1
    have hc : c ≠ 47 := ne47 (hl c (by simp)).1
    unfold isPa
    rw [Bool.and_eq_true, decide_eq_true_iff, Bool.or_eq_true, Bool.and_eq_true]
    refine ⟨hs, .inr ⟨?_, ?_⟩⟩
    · unfold slash1
      rw [Bool.and_eq_true, decide_eq_true_iff, beq_iff_eq, Lib.toList_data, ByteArray.data_extract, Array.toList_extract, e']
      exact ⟨by omega, by simp [List.extract]⟩
    · rw [List.all_eq_true]
      intro p hp
      have hm := List.mem_map_of_mem (f := fun p : ByteArray => p.data.toList) hp
      unfold names at hm
      rw [Lib.splitB_data, hx] at hm
      have hcnt : Lib.countB (s.extract 1 s.size) ⟨#[47]⟩ = l.length := by
        show Lib.count (s.extract 1 s.size).data.toList [47] = _
        rw [hx, Lib.count_one, List.count_cons_of_ne hc, count_pr l h47]
      rw [hcnt] at hm
      have hm' : p.data.toList ∈ Lib.splitK [47] 0 l.length (c :: pr l) := hm
      rw [split_pr l c hc h47] at hm'
      obtain ⟨d, hd, he⟩ := List.mem_map.1 hm'
      exact nm_one he.symm (hl d hd).1 (hl d hd).2

theorem pairs_one {s : ByteArray} {c : UInt8} (h0 : 97 ≤ c.toNat) (h1 : c.toNat ≤ 116) (h : s = ⟨#[47, c]⟩) : Pairs s := ⟨[c], by simp, by simpa using ⟨h0, h1⟩, by rw [h]; rfl⟩
theorem pairs_more {s q : ByteArray} {c : UInt8} (h0 : 97 ≤ c.toNat) (h1 : c.toNat ≤ 116) (hq : Pairs q) (h : s = q ++ ⟨#[47, c]⟩) : Pairs s := by
  obtain ⟨l, hne, hl, e⟩ := hq
  refine ⟨l ++ [c], by simp, fun d hd => ?_, ?_⟩
  · rcases List.mem_append.1 hd with hd | hd
    · exact hl d hd
    · simp at hd
      rw [hd]
      exact ⟨h0, h1⟩
  · rw [h, ByteArray.data_append, Array.toList_append, e, pr_snoc]

theorem last_pr (l : List UInt8) (c : UInt8) (hc : c ≠ 47) : lastIx (pr l ++ [47, c]) ((pr l).length + 2) = (pr l).length := by
  rw [lastIx, List.getElem?_append_right (by omega), if_neg (by
    rw [show (pr l).length + 1 - (pr l).length = 1 by omega]
    simpa using hc), lastIx, List.getElem?_append_right (by omega), Nat.sub_self]
  exact if_pos rfl

theorem parent_one {s : ByteArray} {c : UInt8} (h0 : 97 ≤ c.toNat) (h : s = ⟨#[47, c]⟩) : parentB s = ⟨#[47]⟩ := by
  unfold parentB
  have := last_pr [] c (ne47 h0)
  rw [h]
  exact if_pos this

theorem parent_more {s q : ByteArray} {c : UInt8} (h0 : 97 ≤ c.toNat) (hq : Pairs q) (h : s = q ++ ⟨#[47, c]⟩) : parentB s = q := by
  obtain ⟨l, hne, hl, e⟩ := hq
  have hd : s.data.toList = pr l ++ [47, c] := by rw [h, ByteArray.data_append, Array.toList_append, e]
  have hqs : q.size = (pr l).length := by rw [← e]; rfl
  have hsz : s.size = (pr l).length + 2 := by
    show s.data.size = _
    rw [← Array.length_toList, hd]
    simp
  have hl0 : 0 < (pr l).length := by
    rw [pr_len]
    have := List.length_pos_iff.2 hne
    omega
  unfold parentB
  rw [hd, hsz, last_pr l c (ne47 h0), if_neg (by omega)]
  apply bytes_inj
  rw [ByteArray.data_extract, Array.toList_extract, hd, e]
  simp [List.extract]
end Go.Proofs.YtbnoghkijgmcgaaDoor
