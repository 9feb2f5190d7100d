/- A file in which one byte is another, or with one more or less, is none. -/
import Derived.Test.YtbnoghkijgmcgaaDoorFBack
set_option linter.unusedVariables false
namespace Go.Proofs.YtbnoghkijgmcgaaDoor
open Go.RowKit

def tot : List UInt8 → Nat
  | [] => 0
  | x :: l => x.toNat + tot l

theorem tot_append (a b : List UInt8) : tot (a ++ b) = tot a + tot b := by
  induction a with
  | nil => simp [tot]
  | cons x a ih => simp only [List.cons_append, tot, ih]; omega

theorem fold_first : ∀ (l : List UInt8) (p : Nat × Nat), p.1 < 65521 → (l.foldl Orch.sumStep p).1 = (p.1 + tot l) % 65521
  | [], p, h => by simp only [List.foldl_nil, tot, Nat.add_zero]; exact (Nat.mod_eq_of_lt h).symm
  | x :: l, p, h => by
    rw [List.foldl_cons, fold_first l (Orch.sumStep p x) (Nat.mod_lt _ (by omega))]
    show ((p.1 + x.toNat) % 65521 + tot l) % 65521 = (p.1 + (x.toNat + tot l)) % 65521
    omega

theorem sum_first (l : List UInt8) : Orch.sum l % 65536 = (1 + tot l) % 65521 := by
  have h := Orch.sumP_lt l
  have hf := fold_first l (1, 0) (by decide)
  have hf' : (Orch.sumP l).1 = (1 + tot l) % 65521 := hf
  unfold Orch.sum
  omega

theorem tot_set (l : List UInt8) (i : Nat) (h : i < l.length) (v : UInt8) : tot (l.set i v) + l[i].toNat = tot l + v.toNat := by
  induction l generalizing i with
  | nil => simp at h
  | cons x l ih =>
    cases i with
    | zero => simp only [List.set_cons_zero, tot, List.getElem_cons_zero]; omega
    | succ i =>
      have := ih i (by simpa using h)
      simp only [List.set_cons_succ, tot, List.getElem_cons_succ]
      omega

theorem sum_set {l : List UInt8} {i : Nat} (h : i < l.length) {v : UInt8} (hv : v ≠ l[i]) : Orch.sum (l.set i v) ≠ Orch.sum l := by
  intro e
  have h1 := sum_first (l.set i v)
  have h2 := sum_first l
  have h3 := tot_set l i h v
  have b1 : v.toNat < 256 := UInt8.toNat_lt _
  have b2 : (l[i]).toNat < 256 := UInt8.toNat_lt _
  have hne : v.toNat ≠ (l[i]).toNat := fun e => hv (UInt8.toNat_inj.1 e)
  rw [e] at h1
  omega

theorem uns_inj {a b : List UInt8} (hl : a.length = b.length) (h : Orch.uns a = Orch.uns b) : a = b := by
  rw [← Orch.be_uns a, ← Orch.be_uns b, hl, h]

/-- One byte is another. -/
theorem changed_sum (n : Int) (ns : List Orch.Node) (i : Nat) (hi : i < (fileB n ns).length) (v : UInt8) (hv : v ≠ (fileB n ns)[i]) :
    ¬ Orch.uns (((fileB n ns).set i v).drop (((fileB n ns).set i v).length - 4)) = Orch.sum (((fileB n ns).set i v).take (((fileB n ns).set i v).length - 4)) := by
  have hl : (fileB n ns).length = (bodyB n ns).length + 4 := by unfold fileB; rw [List.length_append, Orch.be_length]
  rw [List.length_set, hl, Nat.add_sub_cancel]
  have hu := uns_be_lt _ 4 (Orch.sum_lt (bodyB n ns))
  by_cases him : i < (bodyB n ns).length
  · have e1 : (fileB n ns).set i v = (bodyB n ns).set i v ++ Orch.be (Orch.sum (bodyB n ns)) 4 := by
      unfold fileB
      rw [List.set_append_left _ _ him]
    have hget : (fileB n ns)[i] = (bodyB n ns)[i] := by
      unfold fileB
      exact List.getElem_append_left him
    rw [e1, List.drop_left' (by rw [List.length_set]), List.take_left' (by rw [List.length_set]), hu]
    exact fun e => sum_set him (by rw [← hget]; exact hv) e.symm
  · have e1 : (fileB n ns).set i v = bodyB n ns ++ (Orch.be (Orch.sum (bodyB n ns)) 4).set (i - (bodyB n ns).length) v := by
      unfold fileB
      rw [List.set_append_right _ _ (by omega)]
    have hj : i - (bodyB n ns).length < (Orch.be (Orch.sum (bodyB n ns)) 4).length := by rw [Orch.be_length]; omega
    have hget : (fileB n ns)[i] = (Orch.be (Orch.sum (bodyB n ns)) 4)[i - (bodyB n ns).length] := by
      unfold fileB
      exact List.getElem_append_right (by omega)
    rw [e1, List.drop_left' rfl, List.take_left' rfl]
    intro e
    have h2 := uns_inj (by rw [List.length_set]) (e.trans hu.symm)
    have h3 := congrArg (fun l => l[i - (bodyB n ns).length]?) h2
    simp only [List.getElem?_set_self hj, List.getElem?_eq_getElem hj, Option.some.injEq] at h3
    rw [hget] at hv
    exact hv h3

theorem changed_none (n : Int) (ns : List Orch.Node) (i : Nat) (hi : i < (fileB n ns).length) (v : UInt8) (hv : v ≠ (fileB n ns)[i]) : ¬ ∃ n' ns', LoadIs ((fileB n ns).set i v) n' ns' :=
  fun ⟨n', ns', h⟩ => changed_sum n ns i hi v hv h.2.1

section
variable {n : Int} {ns : List Orch.Node} (h0 : 0 ≤ n) (h1 : n ≤ 9223372036854775807) (ht : TreeP n ns) (hok : ∀ x, x ∈ ns → Orch.put validB 9 [] ty2 (Orch.fields 2 x) = some (nb x) ∧ 0 < (nb x).length)
include h0 h1 ht hok

theorem flat_pos : 0 < (ns.flatMap nb).length := by
  obtain ⟨h, _⟩ := ht.2.1
  cases ns with
  | nil => simp at h
  | cons x ns =>
    rw [List.flatMap_cons, List.length_append]
    have := (hok x (by simp)).2
    omega

/-- One byte less. -/
theorem shorter_head : (((fileB n ns).take ((fileB n ns).length - 1)).take (((fileB n ns).take ((fileB n ns).length - 1)).length - 4)) = headB n ns.length ++ (ns.flatMap nb).take ((ns.flatMap nb).length - 1) := by
  have hf := flat_pos h0 h1 ht hok
  have hl : (fileB n ns).length = 17 + (ns.flatMap nb).length + 4 := by unfold fileB; rw [List.length_append, Orch.be_length, body_eq, List.length_append, headB_len]
  rw [List.length_take, List.take_take, hl, show min (min (17 + (ns.flatMap nb).length + 4 - 1) (17 + (ns.flatMap nb).length + 4) - 4) (17 + (ns.flatMap nb).length + 4 - 1) = 17 + ((ns.flatMap nb).length - 1) by omega]
  unfold fileB
  rw [List.take_append_of_le_length (by rw [body_eq, List.length_append, headB_len]; omega), body_eq]
  have := List.take_length_add_append (l₁ := headB n ns.length) (l₂ := ns.flatMap nb) ((ns.flatMap nb).length - 1)
  rw [headB_len] at this
  exact this

theorem shorter_none : ¬ ∃ n' ns', LoadIs ((fileB n ns).take ((fileB n ns).length - 1)) n' ns' := by
  rintro ⟨n', ns', h⟩
  obtain ⟨_, _, _, c, hh, hr, _⟩ := h
  rw [shorter_head h0 h1 ht hok] at hh hr
  rw [List.take_left' (headB_len n ns.length), headOf_headB n h0 h1 _ ht.1] at hh
  rw [List.drop_left' (headB_len n ns.length)] at hr
  simp only [Option.some.injEq, Prod.mk.injEq, true_and] at hh
  obtain ⟨rfl, rfl⟩ := hh
  obtain ⟨pre, he, hp⟩ := rdN_pre _ _ _ _ hr
  rw [List.append_nil] at he
  have hf := flat_pos h0 h1 ht hok
  have h2 := hp ((ns.flatMap nb).drop ((ns.flatMap nb).length - 1))
  rw [← he, List.take_append_drop] at h2
  have h3 := rdN_flat ns (fun x hx => (hok x hx).1) []
  rw [List.append_nil, h2] at h3
  simp only [Option.some.injEq, Prod.mk.injEq] at h3
  have h4 := congrArg List.length h3.2
  rw [List.length_drop] at h4
  simp only [List.length_nil] at h4
  omega

theorem shorter_cov : ∀ v n' c, headOf ((((fileB n ns).take ((fileB n ns).length - 1)).take (((fileB n ns).take ((fileB n ns).length - 1)).length - 4)).take 17) = some (v, n', c) → v = 2 ∧ c ≤ 32 := by
  intro v n' c h
  rw [shorter_head h0 h1 ht hok, List.take_left' (headB_len n ns.length), headOf_headB n h0 h1 _ ht.1] at h
  simp only [Option.some.injEq, Prod.mk.injEq] at h
  exact ⟨h.1.symm, by have := ht.1; omega⟩

/-- One byte more. -/
theorem longer_head (x : UInt8) : ((fileB n ns ++ [x]).take ((fileB n ns ++ [x]).length - 4)) = headB n ns.length ++ (ns.flatMap nb ++ (Orch.be (Orch.sum (bodyB n ns)) 4).take 1) := by
  have hl : (fileB n ns).length = (bodyB n ns).length + 4 := by unfold fileB; rw [List.length_append, Orch.be_length]
  rw [List.length_append, hl, List.length_singleton, show (bodyB n ns).length + 4 + 1 - 4 = (bodyB n ns).length + 1 by omega, List.take_append_of_le_length (by omega)]
  unfold fileB
  rw [List.take_length_add_append, body_eq, List.append_assoc]

theorem longer_none (x : UInt8) : ¬ ∃ n' ns', LoadIs (fileB n ns ++ [x]) n' ns' := by
  rintro ⟨n', ns', h⟩
  obtain ⟨_, _, _, c, hh, hr, _⟩ := h
  rw [longer_head h0 h1 ht hok x] at hh hr
  rw [List.take_left' (headB_len n ns.length), headOf_headB n h0 h1 _ ht.1] at hh
  rw [List.drop_left' (headB_len n ns.length)] at hr
  simp only [Option.some.injEq, Prod.mk.injEq, true_and] at hh
  obtain ⟨rfl, rfl⟩ := hh
  rw [rdN_flat ns (fun x hx => (hok x hx).1)] at hr
  simp only [Option.some.injEq, Prod.mk.injEq] at hr
  have h4 := congrArg List.length hr.2
  rw [List.length_take, Orch.be_length] at h4
  simp at h4

theorem longer_cov (x : UInt8) : ∀ v n' c, headOf (((fileB n ns ++ [x]).take ((fileB n ns ++ [x]).length - 4)).take 17) = some (v, n', c) → v = 2 ∧ c ≤ 32 := by
  intro v n' c h
  rw [longer_head h0 h1 ht hok x, List.take_left' (headB_len n ns.length), headOf_headB n h0 h1 _ ht.1] at h
  simp only [Option.some.injEq, Prod.mk.injEq] at h
  exact ⟨h.1.symm, by have := ht.1; omega⟩
end
end Go.Proofs.YtbnoghkijgmcgaaDoor
