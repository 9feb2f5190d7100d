/- What a file of a tree says when it is read again. -/
import Derived.Test.YtlghcldiboecoaaDoorFWrap
import Derived.Lib.SplitLaws
set_option linter.unusedVariables false
namespace Go.Proofs.YtlghcldiboecoaaDoor
open Go.RowKit

theorem vtake_pre_of {v : Orch.V} {pre : List UInt8} (hp : pre.length ≤ 1000) (h : ∀ rest, Orch.take validB 9 ty2 (pre ++ rest) = some (v, rest)) (rest : List UInt8) : vtake validB ty2 (pre ++ rest) = some (v, rest) := by
  unfold vtake
  have e : (pre ++ rest).take 1000 = pre ++ rest.take (1000 - pre.length) := by rw [List.take_append, List.take_of_length_le hp]
  rw [e, h]
  simp only [List.length_append, Nat.add_sub_cancel]
  rw [List.drop_left]

theorem well2 (m : Nat) : Orch.Well m ty2 := Orch.parse_well parse_ty2 m

theorem vtake_put {v : Orch.V} {b : List UInt8} (h : Orch.put validB 9 [] ty2 v = some b) (rest : List UInt8) : vtake validB ty2 (b ++ rest) = some (v, rest) := by
  have hb := Orch.put_length validB _ _ _ _ _ h
  obtain ⟨pre, he, ht⟩ := Orch.take_put validB 9 ty2 v [] b (well2 9) h
  rw [List.nil_append] at he
  subst he
  exact vtake_pre_of hb ht rest

theorem vtake_pre {l r : List UInt8} {v : Orch.V} (h : vtake validB ty2 l = some (v, r)) : ∃ pre, l = pre ++ r ∧ ∀ any, vtake validB ty2 (pre ++ any) = some (v, any) := by
  unfold vtake at h
  cases hq : Orch.take validB 9 ty2 (l.take 1000) with
  | none => rw [hq] at h; cases h
  | some vr =>
    obtain ⟨v', r'⟩ := vr
    rw [hq] at h
    simp only [Option.some.injEq, Prod.mk.injEq] at h
    obtain ⟨rfl, rfl⟩ := h
    obtain ⟨pre, he, hp⟩ := Orch.put_take validB 9 ty2 _ _ _ hq
    have hlen : pre.length ≤ 1000 := by
      have := congrArg List.length he
      rw [List.length_take, List.length_append] at this
      omega
    have hput := hp [] (by simpa using hlen)
    rw [List.nil_append] at hput
    refine ⟨pre, ?_, fun any => vtake_put hput any⟩
    have h1 : (l.take 1000).length - r'.length = pre.length := by rw [he, List.length_append]; omega
    rw [h1]
    have h2 : l.take pre.length = pre := by
      have := congrArg (List.take pre.length) he
      rw [List.take_take, Nat.min_eq_left hlen, List.take_left] at this
      exact this
    conv => lhs; rw [← List.take_append_drop pre.length l, h2]

theorem rdN_pre : ∀ (k : Nat) (l r : List UInt8) (ns : List Orch.Node), rdN k l = some (ns, r) → ∃ pre, l = pre ++ r ∧ ∀ any, rdN k (pre ++ any) = some (ns, any)
  | 0, l, r, ns, h => by
    simp only [rdN, Option.some.injEq, Prod.mk.injEq] at h
    obtain ⟨rfl, rfl⟩ := h
    exact ⟨[], rfl, fun any => rfl⟩
  | k + 1, l, r, ns, h => by
    unfold rdN at h
    split at h
    · cases h
    · rename_i v rest hv
      simp only [Option.map_eq_some_iff, Prod.mk.injEq] at h
      obtain ⟨⟨ms, r'⟩, hm, rfl, rfl⟩ := h
      obtain ⟨p1, rfl, h1⟩ := vtake_pre hv
      obtain ⟨p2, rfl, h2⟩ := rdN_pre k rest r' ms hm
      refine ⟨p1 ++ p2, by simp, fun any => ?_⟩
      rw [List.append_assoc]
      simp only [rdN, h1, h2]
      rfl

theorem nodeOf_fields (x : Orch.Node) : nodeOf (Orch.fields 2 x) = x := rfl

theorem rdN_flat : ∀ (ns : List Orch.Node), (∀ x, x ∈ ns → Orch.put validB 9 [] ty2 (Orch.fields 2 x) = some (nb x)) → ∀ rest, rdN ns.length (ns.flatMap nb ++ rest) = some (ns, rest)
  | [], _, rest => rfl
  | x :: ns, h, rest => by
    have h1 := vtake_put (h x (by simp)) (ns.flatMap nb ++ rest)
    have h2 := rdN_flat ns (fun y hy => h y (by simp [hy])) rest
    rw [List.flatMap_cons, List.append_assoc, List.length_cons]
    simp only [rdN, h1, h2]
    rfl

theorem uns_be_lt (n : Nat) (k : Nat) (h : n < 256 ^ k) : Orch.uns (Orch.be n k) = n := by
  have h1 := Orch.uns_be (n : Int) k
  have h3 : ((256 ^ k : Nat) : Int) = (256 : Int) ^ k := by rw [Int.natCast_pow]; rfl
  have h2 : ((n : Int) % 256 ^ k) = n := Int.emod_eq_of_lt (by omega) (by rw [← h3]; omega)
  rw [h2] at h1
  omega

/-- The head of a file. -/
def headB (n : Int) (c : Nat) : List UInt8 := [79, 82, 67, 72] ++ Orch.be 2 1 ++ Orch.be n 8 ++ Orch.be c 4

theorem headB_len (n : Int) (c : Nat) : (headB n c).length = 17 := by
  unfold headB
  rw [List.length_append, List.length_append, List.length_append, Orch.be_length, Orch.be_length, Orch.be_length]
  rfl

theorem body_eq (n : Int) (ns : List Orch.Node) : bodyB n ns = headB n ns.length ++ ns.flatMap nb := rfl

theorem headOf_headB (n : Int) (h0 : 0 ≤ n) (h1 : n ≤ 9223372036854775807) (c : Nat) (hc : c ≤ 32) : headOf (headB n c) = some (2, n, c) := by
  have e1 : (headB n c).take 4 = [79, 82, 67, 72] := rfl
  have e2 : ((headB n c).drop 4).take 1 = Orch.be 2 1 := rfl
  have e3 : (headB n c).drop 5 = Orch.be n 8 ++ Orch.be c 4 := rfl
  have e4 : (headB n c).drop 13 = Orch.be c 4 := rfl
  have e5 : ((headB n c).drop 5).take 8 = Orch.be n 8 := by
    rw [e3]
    exact List.take_left' (Orch.be_length n 8)
  unfold headOf
  rw [if_pos e1, e2, e5, e4]
  have u2 : Orch.uns (Orch.be 2 1) = 2 := rfl
  rw [u2]
  simp only [show (1 : Nat) ≤ 2 ∧ 2 ≤ 2 from ⟨by omega, by omega⟩, if_true, and_self]
  rw [Orch.sgn_be n 8 (by omega) (by omega), uns_be_lt c 4 (by omega)]

theorem load_file {n : Int} {ns : List Orch.Node} (h0 : 0 ≤ n) (h1 : n ≤ 9223372036854775807) (ht : TreeP n ns) (hok : ∀ x, x ∈ ns → Orch.put validB 9 [] ty2 (Orch.fields 2 x) = some (nb x)) :
    LoadIs (fileB n ns) n ns := by
  have hl : (fileB n ns).length = (bodyB n ns).length + 4 := by unfold fileB; rw [List.length_append, Orch.be_length]
  have e1 : (fileB n ns).take ((fileB n ns).length - 4) = bodyB n ns := by
    rw [hl, Nat.add_sub_cancel]
    unfold fileB
    exact List.take_left
  have e2 : (fileB n ns).drop ((fileB n ns).length - 4) = Orch.be (Orch.sum (bodyB n ns)) 4 := by
    rw [hl, Nat.add_sub_cancel]
    unfold fileB
    exact List.drop_left
  have h17 : 17 ≤ (bodyB n ns).length := by rw [body_eq, List.length_append, headB_len]; omega
  refine ⟨by omega, ?_, by omega, ns.length, ?_, ?_, ht⟩
  · rw [e1, e2, uns_be_lt _ 4 (Orch.sum_lt _)]
  · rw [e1, body_eq, List.take_left' (headB_len n ns.length)]
    exact headOf_headB n h0 h1 _ ht.1
  · rw [e1, body_eq, List.drop_left' (headB_len n ns.length)]
    have := rdN_flat ns hok []
    rw [List.append_nil] at this
    exact this

theorem load_unique {l : List UInt8} {n n' : Int} {ns ns' : List Orch.Node} (h : LoadIs l n ns) (h' : LoadIs l n' ns') : n = n' ∧ ns = ns' := by
  obtain ⟨_, _, _, c, a1, a2, _⟩ := h
  obtain ⟨_, _, _, c', b1, b2, _⟩ := h'
  rw [a1] at b1
  simp only [Option.some.injEq, Prod.mk.injEq, true_and] at b1
  obtain ⟨rfl, rfl⟩ := b1
  rw [a2] at b2
  simp only [Option.some.injEq, Prod.mk.injEq, and_true] at b2
  exact ⟨rfl, b2⟩
end Go.Proofs.YtlghcldiboecoaaDoor

/- A file in which one byte is another, or with one more or less, is none. -/
set_option linter.unusedVariables false
namespace Go.Proofs.YtlghcldiboecoaaDoor
open Go.RowKit

def tot : List UInt8 → Nat
  | [] => 0
  | x :: l => x.toNat + tot l

theorem tot_append (a b : List UInt8) : tot (a ++ b) = tot a + tot b := by
  induction a with
  | nil => simp [tot]
  | cons x a ih => simp only [List.cons_append, tot, ih]; omega

theorem fold_first : ∀ (l : List UInt8) (p : Nat × Nat), p.1 < 65521 → (l.foldl Orch.sumStep p).1 = (p.1 + tot l) % 65521
  | [], p, h => by simp only [List.foldl_nil, tot, Nat.add_zero]; exact (Nat.mod_eq_of_lt h).symm
  | x :: l, p, h => by
    rw [List.foldl_cons, fold_first l (Orch.sumStep p x) (Nat.mod_lt _ (by omega))]
    show ((p.1 + x.toNat) % 65521 + tot l) % 65521 = (p.1 + (x.toNat + tot l)) % 65521
    omega

theorem sum_first (l : List UInt8) : Orch.sum l % 65536 = (1 + tot l) % 65521 := by
  have h := Orch.sumP_lt l
  have hf := fold_first l (1, 0) (by decide)
  have hf' : (Orch.sumP l).1 = (1 + tot l) % 65521 := hf
  unfold Orch.sum
  omega

theorem tot_set (l : List UInt8) (i : Nat) (h : i < l.length) (v : UInt8) : tot (l.set i v) + l[i].toNat = tot l + v.toNat := by
  induction l generalizing i with
  | nil => simp at h
  | cons x l ih =>
    cases i with
    | zero => simp only [List.set_cons_zero, tot, List.getElem_cons_zero]; omega
    | succ i =>
      have := ih i (by simpa using h)
      simp only [List.set_cons_succ, tot, List.getElem_cons_succ]
      omega

theorem sum_set {l : List UInt8} {i : Nat} (h : i < l.length) {v : UInt8} (hv : v ≠ l[i]) : Orch.sum (l.set i v) ≠ Orch.sum l := by
  intro e
  have h1 := sum_first (l.set i v)
  have h2 := sum_first l
  have h3 := tot_set l i h v
  have b1 : v.toNat < 256 := UInt8.toNat_lt _
  have b2 : (l[i]).toNat < 256 := UInt8.toNat_lt _
  have hne : v.toNat ≠ (l[i]).toNat := fun e => hv (UInt8.toNat_inj.1 e)
  rw [e] at h1
  omega

theorem uns_inj {a b : List UInt8} (hl : a.length = b.length) (h : Orch.uns a = Orch.uns b) : a = b := by
  rw [← Orch.be_uns a, ← Orch.be_uns b, hl, h]

/-- One byte is another. -/
theorem changed_sum (n : Int) (ns : List Orch.Node) (i : Nat) (hi : i < (fileB n ns).length) (v : UInt8) (hv : v ≠ (fileB n ns)[i]) :
    ¬ Orch.uns (((fileB n ns).set i v).drop (((fileB n ns).set i v).length - 4)) = Orch.sum (((fileB n ns).set i v).take (((fileB n ns).set i v).length - 4)) := by
  have hl : (fileB n ns).length = (bodyB n ns).length + 4 := by unfold fileB; rw [List.length_append, Orch.be_length]
  rw [List.length_set, hl, Nat.add_sub_cancel]
  have hu := uns_be_lt _ 4 (Orch.sum_lt (bodyB n ns))
  by_cases him : i < (bodyB n ns).length
  · have e1 : (fileB n ns).set i v = (bodyB n ns).set i v ++ Orch.be (Orch.sum (bodyB n ns)) 4 := by
      unfold fileB
      rw [List.set_append_left _ _ him]
    have hget : (fileB n ns)[i] = (bodyB n ns)[i] := by
      unfold fileB
      exact List.getElem_append_left him
    rw [e1, List.drop_left' (by rw [List.length_set]), List.take_left' (by rw [List.length_set]), hu]
    exact fun e => sum_set him (by rw [← hget]; exact hv) e.symm
  · have e1 : (fileB n ns).set i v = bodyB n ns ++ (Orch.be (Orch.sum (bodyB n ns)) 4).set (i - (bodyB n ns).length) v := by
      unfold fileB
      rw [List.set_append_right _ _ (by omega)]
    have hj : i - (bodyB n ns).length < (Orch.be (Orch.sum (bodyB n ns)) 4).length := by rw [Orch.be_length]; omega
    have hget : (fileB n ns)[i] = (Orch.be (Orch.sum (bodyB n ns)) 4)[i - (bodyB n ns).length] := by
      unfold fileB
      exact List.getElem_append_right (by omega)
    rw [e1, List.drop_left' rfl, List.take_left' rfl]
    intro e
    have h2 := uns_inj (by rw [List.length_set]) (e.trans hu.symm)
    have h3 := congrArg (fun l => l[i - (bodyB n ns).length]?) h2
    simp only [List.getElem?_set_self hj, List.getElem?_eq_getElem hj, Option.some.injEq] at h3
    rw [hget] at hv
    exact hv h3

theorem changed_none (n : Int) (ns : List Orch.Node) (i : Nat) (hi : i < (fileB n ns).length) (v : UInt8) (hv : v ≠ (fileB n ns)[i]) : ¬ ∃ n' ns', LoadIs ((fileB n ns).set i v) n' ns' :=
  fun ⟨n', ns', h⟩ => changed_sum n ns i hi v hv h.2.1

theorem flat_pos {n : Int} {ns : List Orch.Node} (ht : TreeP n ns) (hok : ∀ x, x ∈ ns → Orch.put validB 9 [] ty2 (Orch.fields 2 x) = some (nb x) ∧ 0 < (nb x).length) : 0 < (ns.flatMap nb).length := by
  obtain ⟨h, _⟩ := ht.2.1
  cases ns with
  | nil => simp at h
  | cons x ns =>
    rw [List.flatMap_cons, List.length_append]
    have := (hok x (by simp)).2
    omega

theorem longer_head (n : Int) (ns : List Orch.Node) (x : UInt8) : ((fileB n ns ++ [x]).take ((fileB n ns ++ [x]).length - 4)) = headB n ns.length ++ (ns.flatMap nb ++ (Orch.be (Orch.sum (bodyB n ns)) 4).take 1) := by
  have hl : (fileB n ns).length = (bodyB n ns).length + 4 := by unfold fileB; rw [List.length_append, Orch.be_length]
  rw [List.length_append, hl, List.length_singleton, show (bodyB n ns).length + 4 + 1 - 4 = (bodyB n ns).length + 1 by omega, List.take_append_of_le_length (by omega)]
  unfold fileB
  rw [List.take_length_add_append, body_eq, List.append_assoc]

/-- One byte less. -/
theorem shorter_head {n : Int} {ns : List Orch.Node} (ht : TreeP n ns) (hok : ∀ x, x ∈ ns → Orch.put validB 9 [] ty2 (Orch.fields 2 x) = some (nb x) ∧ 0 < (nb x).length) : (((fileB n ns).take ((fileB n ns).length - 1)).take (((fileB n ns).take ((fileB n ns).length - 1)).length - 4)) = headB n ns.length ++ (ns.flatMap nb).take ((ns.flatMap nb).length - 1) := by
  have hf := flat_pos ht hok
  have hl : (fileB n ns).length = 17 + (ns.flatMap nb).length + 4 := by unfold fileB; rw [List.length_append, Orch.be_length, body_eq, List.length_append, headB_len]
  rw [List.length_take, List.take_take, hl, show min (min (17 + (ns.flatMap nb).length + 4 - 1) (17 + (ns.flatMap nb).length + 4) - 4) (17 + (ns.flatMap nb).length + 4 - 1) = 17 + ((ns.flatMap nb).length - 1) by omega]
  unfold fileB
  rw [List.take_append_of_le_length (by rw [body_eq, List.length_append, headB_len]; omega), body_eq]
  have := List.take_length_add_append (l₁ := headB n ns.length) (l₂ := ns.flatMap nb) ((ns.flatMap nb).length - 1)
  rw [headB_len] at this
  exact this

theorem shorter_none {n : Int} {ns : List Orch.Node} (h0 : 0 ≤ n) (h1 : n ≤ 9223372036854775807) (ht : TreeP n ns) (hok : ∀ x, x ∈ ns → Orch.put validB 9 [] ty2 (Orch.fields 2 x) = some (nb x) ∧ 0 < (nb x).length) : ¬ ∃ n' ns', LoadIs ((fileB n ns).take ((fileB n ns).length - 1)) n' ns' := by
  rintro ⟨n', ns', h⟩
  obtain ⟨_, _, _, c, hh, hr, _⟩ := h
  rw [shorter_head ht hok] at hh hr
  rw [List.take_left' (headB_len n ns.length), headOf_headB n h0 h1 _ ht.1] at hh
  rw [List.drop_left' (headB_len n ns.length)] at hr
  simp only [Option.some.injEq, Prod.mk.injEq, true_and] at hh
  obtain ⟨rfl, rfl⟩ := hh
  obtain ⟨pre, he, hp⟩ := rdN_pre _ _ _ _ hr
  rw [List.append_nil] at he
  have hf := flat_pos ht hok
  have h2 := hp ((ns.flatMap nb).drop ((ns.flatMap nb).length - 1))
  rw [← he, List.take_append_drop] at h2
  have h3 := rdN_flat ns (fun x hx => (hok x hx).1) []
  rw [List.append_nil, h2] at h3
  simp only [Option.some.injEq, Prod.mk.injEq] at h3
  have h4 := congrArg List.length h3.2
  rw [List.length_drop] at h4
  simp only [List.length_nil] at h4
  omega

theorem shorter_cov {n : Int} {ns : List Orch.Node} (h0 : 0 ≤ n) (h1 : n ≤ 9223372036854775807) (ht : TreeP n ns) (hok : ∀ x, x ∈ ns → Orch.put validB 9 [] ty2 (Orch.fields 2 x) = some (nb x) ∧ 0 < (nb x).length) : ∀ v n' c, headOf ((((fileB n ns).take ((fileB n ns).length - 1)).take (((fileB n ns).take ((fileB n ns).length - 1)).length - 4)).take 17) = some (v, n', c) → v = 2 ∧ c ≤ 32 := by
  intro v n' c h
  rw [shorter_head ht hok, List.take_left' (headB_len n ns.length), headOf_headB n h0 h1 _ ht.1] at h
  simp only [Option.some.injEq, Prod.mk.injEq] at h
  exact ⟨h.1.symm, by have := ht.1; omega⟩

/-- One byte more. -/
theorem longer_none {n : Int} {ns : List Orch.Node} (h0 : 0 ≤ n) (h1 : n ≤ 9223372036854775807) (ht : TreeP n ns) (hok : ∀ x, x ∈ ns → Orch.put validB 9 [] ty2 (Orch.fields 2 x) = some (nb x) ∧ 0 < (nb x).length) (x : UInt8) : ¬ ∃ n' ns', LoadIs (fileB n ns ++ [x]) n' ns' := by
  rintro ⟨n', ns', h⟩
  obtain ⟨_, _, _, c, hh, hr, _⟩ := h
  rw [longer_head n ns x] at hh hr
  rw [List.take_left' (headB_len n ns.length), headOf_headB n h0 h1 _ ht.1] at hh
  rw [List.drop_left' (headB_len n ns.length)] at hr
  simp only [Option.some.injEq, Prod.mk.injEq, true_and] at hh
  obtain ⟨rfl, rfl⟩ := hh
  rw [rdN_flat ns (fun x hx => (hok x hx).1)] at hr
  simp only [Option.some.injEq, Prod.mk.injEq] at hr
  have h4 := congrArg List.length hr.2
  rw [List.length_take, Orch.be_length] at h4
  simp at h4

theorem longer_cov {n : Int} {ns : List Orch.Node} (h0 : 0 ≤ n) (h1 : n ≤ 9223372036854775807) (ht : TreeP n ns) (x : UInt8) : ∀ v n' c, headOf (((fileB n ns ++ [x]).take ((fileB n ns ++ [x]).length - 4)).take 17) = some (v, n', c) → v = 2 ∧ c ≤ 32 := by
  intro v n' c h
  rw [longer_head n ns x, List.take_left' (headB_len n ns.length), headOf_headB n h0 h1 _ ht.1] at h
  simp only [Option.some.injEq, Prod.mk.injEq] at h
  exact ⟨h.1.symm, by have := ht.1; omega⟩
end Go.Proofs.YtlghcldiboecoaaDoor

/- saved: the file of a tree is read again as that tree. -/
set_option linter.unusedVariables false
namespace Go.Proofs.YtlghcldiboecoaaDoor
open Go.RowKit

theorem file_len {n : Int} {ns : List Orch.Node} (h32 : ns.length ≤ 32) (hok : ∀ x, x ∈ ns → Orch.put validB 9 [] ty2 (Orch.fields 2 x) = some (nb x) ∧ 0 < (nb x).length) : (fileB n ns).length ≤ 40000 ∧ 21 ≤ (fileB n ns).length := by
  have hf := flat_short (l := ns) (fun x hx => put_short (hok x hx).1)
  have hl : (fileB n ns).length = 17 + (ns.flatMap nb).length + 4 := by unfold fileB; rw [List.length_append, Orch.be_length, body_eq, List.length_append, headB_len]
  omega

section
variable {Tabs : World → Prop}

set_option maxRecDepth 8000 in
set_option maxHeartbeats 2000000 in
theorem saved_core (w : World) (ver n : Int) (nsv : Value) (F : List UInt8) (ns : List Orch.Node) (hF : F.length ≤ 40000) (hF0 : 0 < F.length)
    (HS : Hid (Calls Tryd.prog 26 #[.int .i64 ver, .int .i64 n, nsv] w fun e w' => ∃ ov, e = .returned (.tuple #[ov, .int .i64 0]) ∧ w'.ownsRow w.heap.size 5 1 ov F.length (bcells F) ∧ Below w.heap.size w w'))
    (HL : Hid (∀ W bv, Below w.heap.size w W → BsAt W bv F → Calls Tryd.prog 15 #[bv] W fun e w' => ∃ v, e = .returned (.tuple #[.int .i64 ver, .int .i64 n, v, .int .i64 0]) ∧ w'.ownsRow W.heap.size 69 6 v ns.length (ns.flatMap ncell) ∧ Below W.heap.size W w'))
    (HN : Hid (∀ W v, Below w.heap.size w W → W.ownsRow w.heap.size 69 6 v ns.length (ns.flatMap ncell) → Calls Tryd.prog 27 #[v, nsv] W fun e w' => e = .returned (.bool true) ∧ Below W.heap.size W w')) :
    Calls Tryd.prog 13 #[.int .i64 ver, .int .i64 n, nsv] w fun e w' => (∃ ov, e = .returned (.tuple #[ov, .bool true]) ∧ w'.ownsRow w.heap.size 5 1 ov F.length (bcells F)) ∧ Below w.heap.size w w' := by
  go_enter Tryd.func13, Tryd.ntmps13
  go_wp2_with fail
  refine HS.out.mono ?_
  rintro e w1 ⟨ov, rfl, ho1, hb1⟩
  obtain ⟨g, cap, rfl, hcap, hbs⟩ := own_bytes ho1 hF0
  have HO1 := hide ho1
  have HB1 := hide hb1
  have HL1 := hide (HL.out w1 _ hb1 hbs)
  clear ho1 hb1 hbs HS
  go_wp2_with fail
  refine HL1.out.mono ?_
  rintro e w2 ⟨v, rfl, ho2, hb2⟩
  have HB2 : Hid (Below w.heap.size w w2) := HB1.out.trans (hb2.mono HB1.out.size)
  have HO2 := hide (ownsRow_below HO1.out hb2)
  have HN2 := hide (HN.out w2 v HB2.out (own_mono ho2 HB1.out.size))
  clear ho2 hb2 HL1
  go_wp2_with fail
  refine HN2.out.mono ?_
  rintro e w3 ⟨rfl, hb3⟩
  have HB3 : Hid (Below w.heap.size w w3) := HB2.out.trans (hb3.mono HB2.out.size)
  have HO3 := hide (ownsRow_below HO2.out hb3)
  clear hb3 HN2
  go_wp2
  exact bodyPost_ret (v := .tuple #[.slice (some ⟨g, 0, none⟩) F.length cap, .bool true]) (by simp [results, Tryd.results13, go_sem]) rfl ⟨⟨_, rfl, HO3.out⟩, HB3.out⟩

theorem saved_2 (U : Utf validB Tabs) (w : World) (hT : Tabs w) (hL : Table w) (hSc : Schemas w) (mx : Int) (hm : w.cell? ⟨4, 0, none⟩ = some (.int .i64 mx)) (h4 : 4 < w.heap.size) (n : Int) (hn0 : 0 ≤ n) (hn1 : n ≤ 9223372036854775807) (nsv : Value) (ns : List Orch.Node) (hns : NsAt w w.heap.size nsv ns)
    (htree : TreeP n ns) (hsz : ∀ x, x ∈ ns → x.path.size ≤ 140737488355328 ∧ x.data.size ≤ 140737488355328) (hok : ∀ x, x ∈ ns → Orch.put validB 9 [] ty2 (Orch.fields 2 x) = some (nb x) ∧ 0 < (nb x).length) :
    Calls Tryd.prog 13 #[.int .i64 2, .int .i64 n, nsv] w fun e w' => (∃ ov, e = .returned (.tuple #[ov, .bool true]) ∧ w'.ownsRow w.heap.size 5 1 ov (fileB n ns).length (bcells (fileB n ns))) ∧ Below w.heap.size w w' := by
  have hlen := file_len (n := n) htree.1 hok
  have hload := load_file hn0 hn1 htree (fun x hx => (hok x hx).1)
  refine saved_core w 2 n nsv (fileB n ns) ns hlen.1 (by omega) ?_ ?_ ?_
  · refine oSave_of w 2 n nsv (fun ov w' => w'.ownsRow w.heap.size 5 1 ov (fileB n ns).length (bcells (fileB n ns)) ∧ Below w.heap.size w w') ?_
    refine (save_2 U w hT hL hSc mx hm h4 n hn0 nsv ns hns htree hsz hok).mono ?_
    rintro e w' ⟨⟨ov, rfl, ho⟩, hb⟩
    exact ⟨ov, rfl, ho, hb⟩
  · intro W bv hW hbs
    have hc : Calls Tryd.prog 28 #[bv] W fun e w' => ∃ a b v c, e = .returned (.tuple #[.int .i64 a, .int .i64 b, v, .int .i64 c]) ∧ ((a = 2 ∧ b = n ∧ c = 0) ∧ w'.ownsRow W.heap.size 69 6 v ns.length (ns.flatMap ncell) ∧ Below W.heap.size W w') := by
      refine (load_2 U W (U.kept (U.size hT) hW hT) (hL.below hW hL.pos) (hSc.below hW (by omega)) mx ((hW.cell (p := ⟨4, 0, none⟩) h4).trans hm) (Nat.lt_of_lt_of_le h4 hW.size) bv (fileB n ns) (by omega) hbs ?_).mono ?_
      · intro _ _ v n' c' hh
        obtain ⟨_, _, _, c, hc1, _⟩ := hload
        have hcl : c = ns.length := by
          obtain ⟨_, _, _, c2, hc2, hr2, _⟩ := load_file hn0 hn1 htree (fun x hx => (hok x hx).1)
          rw [hc1] at hc2
          simp only [Option.some.injEq, Prod.mk.injEq, true_and] at hc2
          rw [hc2]
          exact (rdN_small _ _ _ _ hr2).1.symm
        rw [hc1] at hh
        simp only [Option.some.injEq, Prod.mk.injEq] at hh
        exact ⟨hh.1.symm, by have := htree.1; omega⟩
      · rintro e w' ⟨h | ⟨h, _⟩, hb⟩
        · obtain ⟨n', ns', v, hl, rfl, ho⟩ := h
          obtain ⟨rfl, rfl⟩ := load_unique hload hl
          exact ⟨2, n, v, 0, rfl, ⟨rfl, rfl, rfl⟩, ho, hb⟩
        · exact absurd ⟨n, ns, hload⟩ h
    refine (oLoad_of W bv _ hc).mono ?_
    rintro e w' ⟨a, b, v, c, rfl, ⟨rfl, rfl, rfl⟩, ho, hb⟩
    exact ⟨v, rfl, ho, hb⟩
  · intro W v hW ho
    obtain ⟨h1, _⟩ := htree.2.1
    have h32 := htree.1
    have hA := ns_of_own ho (by omega)
    have hB : NsAt W W.heap.size nsv ns := by
      obtain ⟨b, off, cap, e, hc, hlt, hn⟩ := hns.below hW
      exact ⟨b, off, cap, e, hc, Nat.lt_of_lt_of_le hlt hW.size, hn⟩
    exact sameNodes_same W v nsv ns hA hB (by omega)
end

set_option maxRecDepth 8000 in
set_option maxHeartbeats 1000000 in
theorem small_any (w : World) (z : Int) (h0 : -9223372036854775808 ≤ z) (h1 : z ≤ 9223372036854775807) :
    Calls Tryd.prog 22 #[.int .i64 z] w fun e w' => (∃ c : UInt8, 97 ≤ c.toNat ∧ c.toNat ≤ 116 ∧ e = .returned (.string ⟨#[c]⟩)) ∧ Below w.heap.size w w' := by
  go_enter Tryd.func22, Tryd.ntmps22
  go_wp2_with fail
  refine (pick_any w z 20 h0 h1 (by omega) (by omega)).mono ?_
  rintro e w1 ⟨⟨k, hk, rfl⟩, hw1⟩
  have hw2 := hw1.symm
  clear hw1
  subst hw2
  have hkz : (k : Int) < 20 := by omega
  have hcv : (97 : Int) + k = ((UInt8.ofNat (97 + k)).toNat : Int) := by rw [show (UInt8.ofNat (97 + k)).toNat = 97 + k by simp; omega]; omega
  have hconv : (convert 34 9 (.slice (some ⟨w.heap.size, 0, none⟩) 1 1)).run Tryd.prog (w.alloc (.cells #[.int .u8 (97 + k)] 5)) = .ok (.string ⟨#[UInt8.ofNat (97 + k)]⟩) (w.alloc (.cells #[.int .u8 (97 + k)] 5)) := by
    refine conv_bytes _ w.heap.size 0 1 1 [UInt8.ofNat (97 + k)] rfl (fun i hi => ?_)
    obtain rfl : i = 0 := by simpa using hi
    refine cellOf (heap_alloc_new w _) ?_
    simp only [List.getElem_cons_zero]
    rw [← hcv]
    rfl
  have HC : Hid ((UInt8.ofNat (97 + k)).toNat = 97 + k) := by show _ = _; omega
  clear hcv
  generalize UInt8.ofNat (97 + k) = C at *
  go_wp2
  go_ret
  exact ⟨⟨C, by have := HC.out; omega, by have := HC.out; omega, rfl⟩, below1 _ _⟩
end Go.Proofs.YtlghcldiboecoaaDoor

/- put: a node more, in its place. -/
set_option linter.unusedVariables false
namespace Go.Proofs.YtlghcldiboecoaaDoor
open Go.RowKit

def ltP (a b : ByteArray) : Bool := Op.bytesLess a.toList b.toList

/-- A node more, in its place; one of that path stays as it is. -/
def insN (x : Orch.Node) : List Orch.Node → List Orch.Node
  | [] => [x]
  | a :: r => if ltP x.path a.path = true then x :: a :: r else if (x.path.toList == a.path.toList) = true then a :: r else a :: insN x r

section
variable (w : World)
theorem wpList_append_node {ops : Array Oper} {rest : List Oper} {o : Oper} {a : Act} {Q : Exit → Act → World → Prop} (hgd : o.guard = none) (s x : Operand)
    (ho : o.op = .call { callee := .builtin .append, args := #[s, x], argTypes := #[44, 44] }) (base : Nat) (v : Value) (pre : List Orch.Node) (hs : a.eval s = v) (hown : w.ownsRow base 69 6 v pre.length (pre.flatMap ncell))
    (g : Nat) (p d t : ByteArray) (m c r : Int) (hx : a.eval x = .slice (some ⟨g, 0, none⟩) 1 1) (hg : w.heap[g]? = some (.cells #[.string p, .string d, .string t, .int .i64 m, .int .i64 c, .int .i64 r] 69)) (hl : pre.length ≤ 1000) (hbase : base ≤ w.heap.size)
    (h : ∀ v' w', w'.ownsRow base 69 6 v' (pre ++ [(⟨p, d, t, m, c, r⟩ : Orch.Node)]).length ((pre ++ [(⟨p, d, t, m, c, r⟩ : Orch.Node)]).flatMap ncell) → Below base w w' → wpList Tryd.prog ops Q rest (a.put o.dst v') w') : wpList Tryd.prog ops Q (o :: rest) a w := by
  obtain ⟨i0, hi0, hz0, hz1, hz2⟩ := info_parts Tryd.info69
  refine wpList_append_own w hgd s x 44 ho base 69 i0 (ndv ⟨#[]⟩ ⟨#[]⟩ ⟨#[]⟩ 0 0 0) 6 72 Tryd.underlying44 hi0 hz0 hz1 hz2 rfl (by decide) v pre.length (pre.flatMap ncell) hs hown ⟨g, 0, none⟩ 1 1 (ncell ⟨p, d, t, m, c, r⟩) hx rfl (World.news_of_block hg) ?_ (by unfold maxLen; omega) (by omega) hbase (fun v' w' ho' hgr _ => h v' w' ?_ ((Below.refl base w).grown hgr hbase (fun j hj => (hown.lt j hj).1)))
  · intro u hu
    simp only [ncell, List.mem_cons, List.mem_nil_iff, or_false] at hu
    rcases hu with rfl | rfl | rfl | rfl | rfl | rfl <;> rfl
  · rw [List.length_append, List.flatMap_append]
    simpa using ho'
end

set_option maxRecDepth 8000 in
set_option maxHeartbeats 4000000 in
theorem put_any (w : World) (lv : Value) (ns : List Orch.Node) (hns : NsAt w w.heap.size lv ns) (hlen : ns.length ≤ 32) (x : Orch.Node) :
    Calls Tryd.prog 25 #[lv, ndv x.path x.data x.note x.made x.changed x.version] w fun e w' => (∃ v, e = .returned v ∧ w'.ownsRow w.heap.size 69 6 v (insN x ns).length ((insN x ns).flatMap ncell)) ∧ Below w.heap.size w w' := by
  obtain ⟨p, d, t, m, c, v⟩ := x
  simp only
  have HNS : Hid (∀ W, Below w.heap.size w W → NsAt W w.heap.size lv ns) := fun W h => hns.below h
  obtain ⟨b, off, cap, rfl, hcap, hblt, _⟩ := hns
  have hn0 := heap_alloc_new w (.cells #[.string p, .string d, .string t, .int .i64 m, .int .i64 c, .int .i64 v] 69)
  have HN0 := hide hn0
  have HB0 : Hid (Below w.heap.size w (w.alloc (.cells #[.string p, .string d, .string t, .int .i64 m, .int .i64 c, .int .i64 v] 69))) := below1 _ _
  have HS0 : Hid ((w.alloc (.cells #[.string p, .string d, .string t, .int .i64 m, .int .i64 c, .int .i64 v] 69)).heap.size = w.heap.size + 1) := by show _ = _; simp
  obtain ⟨i0, hi0, hz0, hz1, hz2⟩ := info_parts Tryd.info69
  clear hn0
  obtain ⟨LL, hLL⟩ : ∃ LL, LL = insN ⟨p, d, t, m, c, v⟩ ns := ⟨_, rfl⟩
  rw [← hLL]
  have HLL := hide hLL
  clear hLL
  go_enter Tryd.func25, Tryd.ntmps25
  go_wp2_with fail
  generalize w.alloc (.cells #[.string p, .string d, .string t, .int .i64 m, .int .i64 c, .int .i64 v] 69) = w0 at *
  go_loopw [5, 6, 7] (fun o dn i wr => ∃ (k : Nat) (done : Bool) (pre : List Orch.Node), k ≤ ns.length ∧ i = .int .i64 k ∧ dn = .bool done ∧ (pre.length ≤ k + 1 ∧ (done = false → pre.length ≤ k)) ∧ Hid (wr.ownsRow (w.heap.size + 1) 69 6 o pre.length (pre.flatMap ncell)) ∧ Hid (Below (w.heap.size + 1) w0 wr) ∧
      Hid (LL = if done = true then pre ++ ns.drop k else pre ++ insN ⟨p, d, t, m, c, v⟩ (ns.drop k)))
    (fun _ _ i _ => ns.length - (intOf i).toNat)
  case atStart => exact ⟨0, false, [], Nat.zero_le _, rfl, rfl, ⟨by simp, by simp⟩, ⟨rfl, .inl ⟨rfl, rfl⟩⟩, Below.refl _ _, by show _ = _; rw [HLL.out]; simp⟩
  case round =>
    obtain ⟨k, done, pre, hk, rfl, rfl, ⟨hpl, hpf⟩, HO, HB, HR⟩ := hrel
    have hbw : Below w.heap.size w wr := HB0.out.trans (HB.out.mono (by omega))
    have hbz := HB.out.size
    have hs0 := HS0.out
    have hX : wr.heap[w.heap.size]? = some (.cells #[.string p, .string d, .string t, .int .i64 m, .int .i64 c, .int .i64 v] 69) := (HB.out.block _ (by omega)).trans HN0.out
    have k0 := cellOf (j := 0) hX rfl
    have k1 := cellOf (j := 1) hX rfl
    have k2 := cellOf (j := 2) hX rfl
    have k3 := cellOf (j := 3) hX rfl
    have k4 := cellOf (j := 4) hX rfl
    have k5 := cellOf (j := 5) hX rfl
    have HBW := hide hbw
    have HX := hide hX
    obtain ⟨qa, qc, hqv⟩ : ∃ a c, u5 = .slice a pre.length c := by
      rcases HO.out.2 with ⟨e, h⟩ | ⟨g, cap, cur, e, _⟩
      · exact ⟨none, 0, by rw [e, h]⟩
      · exact ⟨_, _, e⟩
    by_cases hlt : k < ns.length
    · have hkz : (k : Int) < (ns.length : Int) := by omega
      obtain ⟨b1, o1, p1, e1, _, _, hc1⟩ := HNS.out wr hbw
      simp only [Value.slice.injEq, Option.some.injEq, Addr.mk.injEq] at e1
      obtain ⟨⟨rfl, rfl, _⟩, _, rfl⟩ := e1
      have c0 := hc1 k hlt 0 _ rfl
      have c1 := hc1 k hlt 1 _ rfl
      have c2 := hc1 k hlt 2 _ rfl
      have c3 := hc1 k hlt 3 _ rfl
      have c4 := hc1 k hlt 4 _ rfl
      have c5 := hc1 k hlt 5 _ rfl
      rw [Nat.add_zero] at c0
      have hdrop : ns.drop k = ns[k] :: ns.drop (k + 1) := List.drop_eq_getElem_cons hlt
      have HDR := hide hdrop
      have HCY : Hid (∀ W, Below w.heap.size w W → W.cell? ⟨b, off + k * 6, none⟩ = some (.string ns[k].path) ∧ W.cell? ⟨b, off + k * 6 + 1, none⟩ = some (.string ns[k].data) ∧ W.cell? ⟨b, off + k * 6 + 2, none⟩ = some (.string ns[k].note) ∧ W.cell? ⟨b, off + k * 6 + 3, none⟩ = some (.int .i64 ns[k].made) ∧ W.cell? ⟨b, off + k * 6 + 4, none⟩ = some (.int .i64 ns[k].changed) ∧ W.cell? ⟨b, off + k * 6 + 5, none⟩ = some (.int .i64 ns[k].version)) := fun W hW => by
        obtain ⟨b2, o2, p2, e2, _, _, hc2⟩ := HNS.out W hW
        simp only [Value.slice.injEq, Option.some.injEq, Addr.mk.injEq] at e2
        obtain ⟨⟨rfl, rfl, _⟩, _, rfl⟩ := e2
        exact ⟨hc2 k hlt 0 _ rfl, hc2 k hlt 1 _ rfl, hc2 k hlt 2 _ rfl, hc2 k hlt 3 _ rfl, hc2 k hlt 4 _ rfl, hc2 k hlt 5 _ rfl⟩
      clear hc1 hbw hX hdrop
      generalize ns[k] = y at *
      obtain ⟨yp, yd, yt, ym, yc, yv⟩ := y
      simp only at c0 c1 c2 c3 c4 c5
      cases done with
      | true =>
        subst hqv
        have HR1 : Hid (LL = (pre ++ [(⟨yp, yd, yt, ym, yc, yv⟩ : Orch.Node)]) ++ ns.drop (k + 1)) := by
          show _ = _
          rw [HR.out, if_pos rfl, HDR.out]
          simp
        go_wp2_with fail
        go_region
        go_wp2_with (at_builtin; refine wpList_append_node _ rfl _ _ rfl (w.heap.size + 1) _ pre rfl (HO.out.drew.alloc _) _ yp yd yt ym yc yv rfl (heap_alloc_new _ _) (by omega) (by simp; omega) ?_; intro v' w1 ho1 hb1; have HB1 : Hid (Below (w.heap.size + 1) w0 w1) := (HB.out.drew.alloc (by simp; omega) _).trans hb1; have HO1 := hide ho1; clear ho1 hb1)
        exact ⟨⟨k + 1, true, pre ++ [⟨yp, yd, yt, ym, yc, yv⟩], by omega, by go_num, rfl, ⟨by simp; omega, by simp⟩, HO1, HB1, by show _ = _; rw [if_pos rfl]; exact HR1.out⟩, by first | (simp [intOf]; done) | (simp [intOf]; omega)⟩
      | false =>
        subst hqv
        have hpk := hpf rfl
        have HR0 : Hid (LL = pre ++ insN ⟨p, d, t, m, c, v⟩ (⟨yp, yd, yt, ym, yc, yv⟩ :: ns.drop (k + 1))) := by
          show _ = _
          rw [HR.out, HDR.out]
          rfl
        cases h2 : Op.bytesLess p.toList yp.toList with
        | false =>
          cases h3 : (p.toList == yp.toList) with
          | false =>
            have HR1 : Hid (LL = (pre ++ [(⟨yp, yd, yt, ym, yc, yv⟩ : Orch.Node)]) ++ insN ⟨p, d, t, m, c, v⟩ (ns.drop (k + 1))) := by
              show _ = _
              rw [HR0.out, insN, if_neg (show ¬ ltP p yp = true by unfold ltP; rw [h2]; simp), if_neg (show ¬ (p.toList == yp.toList) = true by rw [h3]; simp)]
              simp
            go_wp2_with fail
            go_region
            all_goals go_wp2_with (at_builtin; refine wpList_append_node _ rfl _ _ rfl (w.heap.size + 1) _ pre rfl (HO.out.drew.alloc _) _ yp yd yt ym yc yv rfl (heap_alloc_new _ _) (by omega) (by simp; omega) ?_; intro v' w1 ho1 hb1; have HB1 : Hid (Below (w.heap.size + 1) w0 w1) := (HB.out.drew.alloc (by simp; omega) _).trans hb1; have HO1 := hide ho1; clear ho1 hb1)
            all_goals exact ⟨⟨k + 1, false, pre ++ [⟨yp, yd, yt, ym, yc, yv⟩], by omega, by go_num, rfl, ⟨by simp; omega, by simp; omega⟩, HO1, HB1, by show _ = _; rw [if_neg (by simp)]; exact HR1.out⟩, by first | (simp [intOf]; done) | (simp [intOf]; omega)⟩
          | true =>
            have HR1 : Hid (LL = (pre ++ [(⟨yp, yd, yt, ym, yc, yv⟩ : Orch.Node)]) ++ ns.drop (k + 1)) := by
              show _ = _
              rw [HR0.out, insN, if_neg (show ¬ ltP p yp = true by unfold ltP; rw [h2]; simp), if_pos (show (p.toList == yp.toList) = true from h3)]
              simp
            go_wp2_with fail
            go_region
            all_goals go_wp2_with fail
            all_goals go_region
            all_goals go_wp2_with (at_builtin; refine wpList_append_node _ rfl _ _ rfl (w.heap.size + 1) _ pre rfl (HO.out.drew.drew.alloc _) _ yp yd yt ym yc yv rfl (heap_alloc_new _ _) (by omega) (by simp; omega) ?_; intro v' w1 ho1 hb1; have HB1 : Hid (Below (w.heap.size + 1) w0 w1) := (HB.out.drew.drew.alloc (by simp; omega) _).trans hb1; have HO1 := hide ho1; clear ho1 hb1)
            all_goals exact ⟨⟨k + 1, true, pre ++ [⟨yp, yd, yt, ym, yc, yv⟩], by omega, by go_num, rfl, ⟨by simp; omega, by simp⟩, HO1, HB1, by show _ = _; rw [if_pos rfl]; exact HR1.out⟩, by first | (simp [intOf]; done) | (simp [intOf]; omega)⟩
        | true =>
          have HR1 : Hid (LL = ((pre ++ [(⟨p, d, t, m, c, v⟩ : Orch.Node)]) ++ [(⟨yp, yd, yt, ym, yc, yv⟩ : Orch.Node)]) ++ ns.drop (k + 1)) := by
            show _ = _
            rw [HR0.out, insN, if_pos (show ltP p yp = true from h2)]
            simp
          have HNSc : Hid (∀ W, Below w.heap.size w W → W.cell? ⟨b, off + k * 6, none⟩ = some (.string yp) ∧ W.cell? ⟨b, off + k * 6 + 1, none⟩ = some (.string yd) ∧ W.cell? ⟨b, off + k * 6 + 2, none⟩ = some (.string yt) ∧ W.cell? ⟨b, off + k * 6 + 3, none⟩ = some (.int .i64 ym) ∧ W.cell? ⟨b, off + k * 6 + 4, none⟩ = some (.int .i64 yc) ∧ W.cell? ⟨b, off + k * 6 + 5, none⟩ = some (.int .i64 yv)) := HCY
          go_wp2_with fail
          go_region
          all_goals go_wp2_with fail
          all_goals go_region
          all_goals go_wp2_with (first
            | (at_builtin; refine wpList_append_node _ rfl _ _ rfl (w.heap.size + 1) _ pre rfl (HO.out.drew.drew.alloc _) _ p d t m c v rfl (heap_alloc_new _ _) (by omega) (by simp; omega) ?_; intro v' w1 ho1 hb1; have HB1 : Hid (Below (w.heap.size + 1) w0 w1) := (HB.out.drew.drew.alloc (by simp; omega) _).trans hb1; have HO1 := hide ho1; obtain ⟨f0, f1, f2, f3, f4, f5⟩ := HNSc.out w1 (HB0.out.trans (HB1.out.mono (by omega))); have hs1 := HB1.out.size; clear ho1 hb1)
            | (at_builtin; refine wpList_append_node _ rfl _ _ rfl (w.heap.size + 1) _ (pre ++ [⟨p, d, t, m, c, v⟩]) rfl (HO1.out.alloc _) _ yp yd yt ym yc yv rfl (heap_alloc_new _ _) (by simp; omega) (by simp; omega) ?_; intro v2 w2 ho2 hb2; have HB2 : Hid (Below (w.heap.size + 1) w0 w2) := (HB1.out.alloc (by omega) _).trans hb2; have HO2 := hide ho2; clear ho2 hb2))
          all_goals exact ⟨⟨k + 1, true, (pre ++ [⟨p, d, t, m, c, v⟩]) ++ [⟨yp, yd, yt, ym, yc, yv⟩], by omega, by go_num, rfl, ⟨by simp; omega, by simp⟩, HO2, HB2, by show _ = _; rw [if_pos rfl]; exact HR1.out⟩, by first | (simp [intOf]; done) | (simp [intOf]; omega)⟩
    · have hkz : ¬ (k : Int) < (ns.length : Int) := by omega
      have hdn : ns.drop k = [] := List.drop_eq_nil_of_le (by omega)
      subst hqv
      cases done with
      | true =>
        have HR1 : Hid (LL = pre) := by show _ = _; rw [HR.out, if_pos rfl, hdn, List.append_nil]
        clear hdn hbw hX
        go_wp2
        go_ret
        exact ⟨⟨_, rfl, by rw [HR1.out]; exact own_mono HO.out (by omega)⟩, HBW.out⟩
      | false =>
        have HR1 : Hid (LL = pre ++ [(⟨p, d, t, m, c, v⟩ : Orch.Node)]) := by show _ = _; rw [HR.out, if_neg (by simp), hdn]; rfl
        clear hdn hbw hX
        go_wp2_with (at_builtin; refine wpList_append_node _ rfl _ _ rfl (w.heap.size + 1) _ pre rfl (HO.out.alloc _) _ p d t m c v rfl (heap_alloc_new _ _) (by omega) (by simp; omega) ?_; intro v' w1 ho1 hb1; have HB1 : Hid (Below (w.heap.size + 1) w0 w1) := (HB.out.alloc (by omega) _).trans hb1; have HO1 := hide ho1; clear ho1 hb1)
        go_ret
        exact ⟨⟨_, rfl, by rw [HR1.out]; exact own_mono HO1.out (by omega)⟩, HB0.out.trans (HB1.out.mono (by omega))⟩
end Go.Proofs.YtlghcldiboecoaaDoor

/- The trees that grown makes: plain. -/
set_option linter.unusedVariables false
namespace Go.Proofs.YtlghcldiboecoaaDoor
open Go.RowKit

theorem bl_trans : ∀ a b c : List UInt8, Op.bytesLess a b = true → Op.bytesLess b c = true → Op.bytesLess a c = true
  | [], [], _, h, _ => by simp [Op.bytesLess] at h
  | _ :: _, [], _, h, _ => by simp [Op.bytesLess] at h
  | _, _ :: _, [], _, h => by simp [Op.bytesLess] at h
  | [], _ :: _, _ :: _, _, _ => by simp [Op.bytesLess]
  | a :: x, b :: y, c :: z, h, h' => by
    simp only [Op.bytesLess, Bool.or_eq_true, Bool.and_eq_true, decide_eq_true_iff, beq_iff_eq] at h h' ⊢
    rcases h with h | ⟨rfl, h⟩
    · rcases h' with h' | ⟨rfl, h'⟩
      · exact .inl (by rw [UInt8.lt_iff_toNat_lt] at *; omega)
      · exact .inl h
    · rcases h' with h' | ⟨rfl, h'⟩
      · exact .inl h'
      · exact .inr ⟨rfl, bl_trans x y z h h'⟩

theorem bl_tri : ∀ a b : List UInt8, Op.bytesLess a b = false → a ≠ b → Op.bytesLess b a = true
  | [], [], _, h => absurd rfl h
  | _ :: _, [], _, _ => by simp [Op.bytesLess]
  | [], _ :: _, h, _ => by simp [Op.bytesLess] at h
  | a :: x, b :: y, h, hn => by
    simp only [Op.bytesLess, Bool.or_eq_false_iff, Bool.and_eq_false_iff, decide_eq_false_iff_not, beq_eq_false_iff_ne] at h
    simp only [Op.bytesLess, Bool.or_eq_true, Bool.and_eq_true, decide_eq_true_iff, beq_iff_eq]
    by_cases e : a = b
    · subst e
      exact .inr ⟨rfl, bl_tri x y (h.2.resolve_left (fun h => h rfl)) (fun e => hn (by rw [e]))⟩
    · refine .inl ?_
      have h1 := h.1
      have : a.toNat ≠ b.toNat := fun e' => e (UInt8.toNat_inj.1 e')
      rw [UInt8.lt_iff_toNat_lt] at *
      omega

theorem mem_ins (x : Orch.Node) : ∀ (r : List Orch.Node) y, y ∈ insN x r → y = x ∨ y ∈ r
  | [], y, h => by simpa [insN] using h
  | a :: r, y, h => by
    unfold insN at h
    split at h
    · simpa using h
    · split at h
      · exact .inr h
      · rcases List.mem_cons.1 h with h | h
        · exact .inr (by simp [h])
        · rcases mem_ins x r y h with h | h
          · exact .inl h
          · exact .inr (by simp [h])

theorem ins_mem (x : Orch.Node) : ∀ (r : List Orch.Node) y, y ∈ r → y ∈ insN x r
  | [], y, h => by simp at h
  | a :: r, y, h => by
    unfold insN
    split
    · exact List.mem_cons_of_mem _ h
    · split
      · exact h
      · rcases List.mem_cons.1 h with h | h
        · simp [h]
        · exact List.mem_cons_of_mem _ (ins_mem x r y h)

theorem ins_len (x : Orch.Node) : ∀ r : List Orch.Node, (insN x r).length ≤ r.length + 1
  | [] => by simp [insN]
  | a :: r => by
    unfold insN
    split
    · simp
    · split
      · simp
      · have := ins_len x r
        simpa using this

def Ord (r : List Orch.Node) : Prop := r.Pairwise fun a b => ltP a.path b.path = true

theorem ins_ord (x : Orch.Node) : ∀ r : List Orch.Node, Ord r → Ord (insN x r)
  | [], _ => by simp [Ord, insN]
  | a :: r, h => by
    have h' := List.pairwise_cons.1 h
    unfold insN
    split
    · rename_i hlt
      refine List.pairwise_cons.2 ⟨fun y hy => ?_, h⟩
      rcases List.mem_cons.1 hy with rfl | hy
      · exact hlt
      · exact bl_trans _ _ _ hlt (h'.1 y hy)
    · rename_i hlt
      split
      · exact h
      · rename_i hne
        refine List.pairwise_cons.2 ⟨fun y hy => ?_, ins_ord x r h'.2⟩
        rcases mem_ins x r y hy with rfl | hy
        · exact bl_tri _ _ (by simpa [ltP] using hlt) (by simpa using hne)
        · exact h'.1 y hy

/-- Names of one letter each, a slash ahead of each. -/
def pr (l : List UInt8) : List UInt8 := l.flatMap fun c => [47, c]

theorem pr_snoc (l : List UInt8) (c : UInt8) : pr (l ++ [c]) = pr l ++ [47, c] := by simp [pr]
theorem pr_len : ∀ l : List UInt8, (pr l).length = 2 * l.length
  | [] => rfl
  | c :: l => by
    have := pr_len l
    show (47 :: c :: pr l).length = _
    simp only [List.length_cons]
    omega

theorem split_pr : ∀ (l : List UInt8) (c : UInt8), c ≠ 47 → (∀ d ∈ l, d ≠ 47) → Lib.splitK [47] 0 l.length (c :: pr l) = (c :: l).map fun d => [d]
  | [], c, _, _ => rfl
  | d :: l, c, hc, hl => by
    have hi : Lib.index (c :: 47 :: d :: pr l) [47] = 1 := by
      have hp : ([47] : List UInt8).isPrefixOf (c :: 47 :: d :: pr l) = false := by
        simp only [List.isPrefixOf, Bool.and_true, beq_eq_false_iff_ne]
        exact fun e => hc e.symm
      have hq : ([47] : List UInt8).isPrefixOf (47 :: d :: pr l) = true := by simp [List.isPrefixOf]
      have h0 : Lib.index (47 :: d :: pr l) [47] = 0 := by rw [Lib.index, if_pos hq]
      rw [Lib.index, if_neg (by rw [hp]; simp), h0]
      rfl
    have ih := split_pr l d (hl d (by simp)) (fun e he => hl e (by simp [he]))
    show Lib.splitK [47] 0 (l.length + 1) (c :: 47 :: d :: pr l) = _
    rw [Lib.splitK, hi, if_neg (by decide)]
    show [c] :: Lib.splitK [47] 0 l.length (d :: pr l) = _
    rw [ih]
    rfl

theorem count_pr : ∀ (l : List UInt8), (∀ d ∈ l, d ≠ 47) → (pr l).count 47 = l.length
  | [], _ => rfl
  | d :: l, h => by
    have ih := count_pr l (fun e he => h e (by simp [he]))
    show (47 :: d :: pr l).count 47 = _
    rw [List.count_cons_self, List.count_cons_of_ne (h d (by simp)), ih]
    rfl

theorem nm_one {p : ByteArray} {d : UInt8} (h : p.data.toList = [d]) (h0 : 97 ≤ d.toNat) (h1 : d.toNat ≤ 116) : isNm p = true := by
  unfold isNm
  rw [Bool.and_eq_true, decide_eq_true_iff, h]
  refine ⟨⟨?_, ?_, ?_⟩, ?_⟩
  · rintro rfl; simp at h
  · rintro rfl
    simp at h
    rw [← h] at h0
    exact absurd h0 (by decide)
  · rintro rfl; simp at h
  · simp [nameC]
    omega

/-- A path of pairs. -/
def Pairs (s : ByteArray) : Prop := ∃ l, l ≠ [] ∧ (∀ c ∈ l, 97 ≤ c.toNat ∧ c.toNat ≤ 116) ∧ s.data.toList = pr l

theorem ne47 {d : UInt8} (h : 97 ≤ d.toNat) : d ≠ 47 := by rintro rfl; exact absurd h (by decide)

theorem pairs_pa {s : ByteArray} (h : Pairs s) (hs : s.size ≤ 24) : isPa s = true := by
  obtain ⟨l, hne, hl, e⟩ := h
  cases l with
  | nil => exact absurd rfl hne
  | cons c l =>
    have e' : s.data.toList = 47 :: c :: pr l := e
    have hsz : s.size = l.length * 2 + 2 := by
      have := congrArg List.length e'
      rw [List.length_cons, List.length_cons, pr_len, Array.length_toList] at this
      show s.data.size = _
      omega
    have hx : (s.extract 1 s.size).data.toList = c :: pr l := by
      rw [ByteArray.data_extract, Array.toList_extract, e', hsz]
      show (c :: pr l).take _ = _
      exact List.take_of_length_le (by rw [List.length_cons, pr_len]; omega)
    have h47 : ∀ d ∈ l, d ≠ 47 := fun d hd => ne47 (hl d (by simp [hd])).1
    have hc : c ≠ 47 := ne47 (hl c (by simp)).1
    unfold isPa
    rw [Bool.and_eq_true, decide_eq_true_iff, Bool.or_eq_true, Bool.and_eq_true]
    refine ⟨hs, .inr ⟨?_, ?_⟩⟩
    · unfold slash1
      rw [Bool.and_eq_true, decide_eq_true_iff, beq_iff_eq, Lib.toList_data, ByteArray.data_extract, Array.toList_extract, e']
      exact ⟨by omega, by simp [List.extract]⟩
    · rw [List.all_eq_true]
      intro p hp
      have hm := List.mem_map_of_mem (f := fun p : ByteArray => p.data.toList) hp
      unfold names at hm
      rw [Lib.splitB_data, hx] at hm
      have hcnt : Lib.countB (s.extract 1 s.size) ⟨#[47]⟩ = l.length := by
        show Lib.count (s.extract 1 s.size).data.toList [47] = _
        rw [hx, Lib.count_one, List.count_cons_of_ne hc, count_pr l h47]
      rw [hcnt] at hm
      have hm' : p.data.toList ∈ Lib.splitK [47] 0 l.length (c :: pr l) := hm
      rw [split_pr l c hc h47] at hm'
      obtain ⟨d, hd, he⟩ := List.mem_map.1 hm'
      exact nm_one he.symm (hl d hd).1 (hl d hd).2

theorem pairs_one {s : ByteArray} {c : UInt8} (h0 : 97 ≤ c.toNat) (h1 : c.toNat ≤ 116) (h : s = ⟨#[47, c]⟩) : Pairs s := ⟨[c], by simp, by simpa using ⟨h0, h1⟩, by rw [h]; rfl⟩
theorem pairs_more {s q : ByteArray} {c : UInt8} (h0 : 97 ≤ c.toNat) (h1 : c.toNat ≤ 116) (hq : Pairs q) (h : s = q ++ ⟨#[47, c]⟩) : Pairs s := by
  obtain ⟨l, hne, hl, e⟩ := hq
  refine ⟨l ++ [c], by simp, fun d hd => ?_, ?_⟩
  · rcases List.mem_append.1 hd with hd | hd
    · exact hl d hd
    · simp at hd
      rw [hd]
      exact ⟨h0, h1⟩
  · rw [h, ByteArray.data_append, Array.toList_append, e, pr_snoc]

theorem last_pr (l : List UInt8) (c : UInt8) (hc : c ≠ 47) : lastIx (pr l ++ [47, c]) ((pr l).length + 2) = (pr l).length := by
  rw [lastIx, List.getElem?_append_right (by omega), if_neg (by
    rw [show (pr l).length + 1 - (pr l).length = 1 by omega]
    simpa using hc), lastIx, List.getElem?_append_right (by omega), Nat.sub_self]
  exact if_pos rfl

theorem parent_one {s : ByteArray} {c : UInt8} (h0 : 97 ≤ c.toNat) (h : s = ⟨#[47, c]⟩) : parentB s = ⟨#[47]⟩ := by
  unfold parentB
  have := last_pr [] c (ne47 h0)
  rw [h]
  exact if_pos this

theorem parent_more {s q : ByteArray} {c : UInt8} (h0 : 97 ≤ c.toNat) (hq : Pairs q) (h : s = q ++ ⟨#[47, c]⟩) : parentB s = q := by
  obtain ⟨l, hne, hl, e⟩ := hq
  have hd : s.data.toList = pr l ++ [47, c] := by rw [h, ByteArray.data_append, Array.toList_append, e]
  have hqs : q.size = (pr l).length := by rw [← e]; rfl
  have hsz : s.size = (pr l).length + 2 := by
    show s.data.size = _
    rw [← Array.length_toList, hd]
    simp
  have hl0 : 0 < (pr l).length := by
    rw [pr_len]
    have := List.length_pos_iff.2 hne
    omega
  unfold parentB
  rw [hd, hsz, last_pr l c (ne47 h0), if_neg (by omega)]
  apply bytes_inj
  rw [ByteArray.data_extract, Array.toList_extract, hd, e]
  simp [List.extract]
end Go.Proofs.YtlghcldiboecoaaDoor

/- The trees that grown makes: what every step keeps. -/
set_option linter.unusedVariables false
namespace Go.Proofs.YtlghcldiboecoaaDoor
open Go.RowKit

/-- A node that grown adds to these. -/
def NewN (ns : List Orch.Node) (x : Orch.Node) : Prop :=
  (∃ c : UInt8, 97 ≤ c.toNat ∧ c.toNat ≤ 116 ∧ (x.path = ⟨#[47, c]⟩ ∨ ∃ j, ∃ h : j < ns.length, 0 < j ∧ ns[j].path.size < 20 ∧ x.path = ns[j].path ++ ⟨#[47, c]⟩)) ∧ x.data.size ≤ 40 ∧ x.note.size ≤ 10 ∧ validB x.note = true ∧
  0 ≤ x.made ∧ x.made ≤ 999 ∧ x.made ≤ x.changed ∧ x.changed ≤ x.made + 999 ∧ 0 ≤ x.version ∧ x.version ≤ 2147483647

def root : Orch.Node := ⟨⟨#[47]⟩, ⟨#[]⟩, ⟨#[]⟩, 0, 0, 0⟩

/-- A node that grown has added. -/
def Good (n : Int) (x : Orch.Node) : Prop := Pairs x.path ∧ x.path.size ≤ 24 ∧ x.data.size ≤ 40 ∧ x.note.size ≤ 10 ∧ validB x.note = true ∧ 0 ≤ x.made ∧ x.made ≤ x.changed ∧ x.changed ≤ n ∧ 0 ≤ x.version ∧ x.version ≤ 2147483647

/-- The tree so far. -/
def Grow (n : Int) (ns : List Orch.Node) : Prop := ∃ r, ns = root :: r ∧ r.length ≤ 31 ∧ 0 ≤ n ∧ n ≤ 2000 ∧ (∀ x ∈ r, Good n x) ∧ Ord r ∧ ∀ x ∈ r, ∃ y ∈ root :: r, y.path = parentB x.path

theorem grow_root : Grow 0 [root] := ⟨[], rfl, by simp, by omega, by omega, by simp, by simp [Ord], by simp⟩

theorem pairs_lt {s : ByteArray} (h : Pairs s) : ltP root.path s = true ∧ ltP s root.path = false ∧ (s.toList == root.path.toList) = false ∧ slash1 s = true ∧ 2 ≤ s.size := by
  obtain ⟨l, hne, hl, e⟩ := h
  cases l with
  | nil => exact absurd rfl hne
  | cons c l =>
    have e' : s.data.toList = 47 :: c :: pr l := e
    have hr : root.path.data.toList = [47] := rfl
    have hsz : 2 ≤ s.size := by
      have := congrArg List.length e'
      rw [Array.length_toList] at this
      show 2 ≤ s.data.size
      rw [this]
      simp
    refine ⟨?_, ?_, ?_, ?_, hsz⟩
    · unfold ltP
      rw [Lib.toList_data, Lib.toList_data, e', hr]
      simp [Op.bytesLess]
    · unfold ltP
      rw [Lib.toList_data, Lib.toList_data, e', hr]
      simp [Op.bytesLess]
    · rw [Lib.toList_data, Lib.toList_data, e', hr]
      simp
    · unfold slash1
      rw [Bool.and_eq_true, decide_eq_true_iff, beq_iff_eq, Lib.toList_data, ByteArray.data_extract, Array.toList_extract, e']
      exact ⟨by omega, by simp [List.extract]⟩

theorem grow_step (n : Int) (ns : List Orch.Node) (x : Orch.Node) (h : Grow n ns) (hl : ns.length < 32) (hx : NewN ns x) : Grow (if n < x.changed then x.changed else n) (insN x ns) := by
  obtain ⟨r, rfl, hr31, h0, h1, hg, ho, hp⟩ := h
  obtain ⟨⟨c, hc0, hc1, hpath⟩, hd, ht, hv, hm0, hm1, hmc, hch, hv0, hv1⟩ := hx
  have hX : Pairs x.path ∧ x.path.size ≤ 24 ∧ ∃ y ∈ root :: r, y.path = parentB x.path := by
    rcases hpath with e | ⟨j, hj, hj0, hs, e⟩
    · exact ⟨pairs_one hc0 hc1 e, by rw [e]; show 2 ≤ 24; omega, root, by simp, (parent_one hc0 e).symm⟩
    · cases j with
      | zero => omega
      | succ j =>
        have hj' : j < r.length := by simpa using hj
        have em : (root :: r)[j + 1] = r[j] := rfl
        rw [em] at hs e
        have hm := List.getElem_mem hj'
        have hq := (hg _ hm).1
        refine ⟨pairs_more hc0 hc1 hq e, ?_, r[j], by simp [hm], (parent_more hc0 hq e).symm⟩
        rw [e, ByteArray.size_append]
        show _ + 2 ≤ 24
        omega
  obtain ⟨hX1, hX2, hX3⟩ := hX
  have hlt := pairs_lt hX1
  have hins : insN x (root :: r) = root :: insN x r := by
    rw [insN, if_neg (by rw [hlt.2.1]; simp), if_neg (by rw [hlt.2.2.1]; simp)]
  have hn' : n ≤ (if n < x.changed then x.changed else n) ∧ x.changed ≤ (if n < x.changed then x.changed else n) ∧ (if n < x.changed then x.changed else n) ≤ 2000 := by
    split <;> omega
  refine ⟨insN x r, hins, ?_, by omega, hn'.2.2, fun y hy => ?_, ins_ord x r ho, fun y hy => ?_⟩
  · have := ins_len x r
    simp at hl
    omega
  · rcases mem_ins x r y hy with rfl | hy
    · exact ⟨hX1, hX2, hd, ht, hv, hm0, hmc, hn'.2.1, hv0, hv1⟩
    · obtain ⟨a1, a2, a3, a4, a5, a6, a7, a8, a9, a10⟩ := hg y hy
      exact ⟨a1, a2, a3, a4, a5, a6, a7, by omega, a9, a10⟩
  · have hkeep : ∀ z ∈ root :: r, z ∈ root :: insN x r := fun z hz => by
      rcases List.mem_cons.1 hz with rfl | hz
      · simp
      · exact List.mem_cons_of_mem _ (ins_mem x r z hz)
    rcases mem_ins x r y hy with rfl | hy
    · obtain ⟨z, hz, e⟩ := hX3
      exact ⟨z, hkeep z hz, e⟩
    · obtain ⟨z, hz, e⟩ := hp y hy
      exact ⟨z, hkeep z hz, e⟩

theorem grow_is {n : Int} {ns : List Orch.Node} (h : Grow n ns) : 1 ≤ ns.length ∧ ns.length ≤ 32 ∧ 0 ≤ n ∧ n ≤ 1000000 ∧ ∀ x, x ∈ ns → x.path.size ≤ 24 := by
  obtain ⟨r, rfl, hr31, h0, h1, hg, ho, hp⟩ := h
  refine ⟨by simp, by simpa using hr31, h0, by omega, fun x hx => ?_⟩
  rcases List.mem_cons.1 hx with rfl | hx
  · decide
  · exact (hg x hx).2.1

theorem grow_nd {n : Int} {ns : List Orch.Node} (h : Grow n ns) (x : Orch.Node) (hx : x ∈ ns) : isPa x.path = true ∧ x.path.size ≤ 24 ∧ validB x.path = true ∧ x.data.size ≤ 40 ∧ x.note.size ≤ 10 ∧ validB x.note = true ∧ 0 ≤ x.made ∧ x.made ≤ x.changed ∧ x.changed ≤ n ∧ 0 ≤ x.version ∧ x.version ≤ 2147483647 := by
  obtain ⟨r, rfl, hr31, h0, h1, hg, ho, hp⟩ := h
  rcases List.mem_cons.1 hx with rfl | hx
  · refine ⟨?_, by decide, ascii_valid [47] (by simp), by decide, by decide, ascii_valid [] (by simp), by decide, by decide, h0, by decide, by decide⟩
    unfold isPa
    rw [Bool.and_eq_true, Bool.or_eq_true, Lib.toList_data]
    exact ⟨by decide, .inl rfl⟩
  · obtain ⟨a1, a2, a3, a4, a5, a6, a7, a8, a9, a10⟩ := hg x hx
    refine ⟨pairs_pa a1 a2, a2, ?_, a3, a4, a5, a6, a7, a8, a9, a10⟩
    obtain ⟨l, hne, hl, e⟩ := a1
    have := ascii_valid (pr l) (fun c hc => by
      unfold pr at hc
      rw [List.mem_flatMap] at hc
      obtain ⟨d, hd, hc⟩ := hc
      simp only [List.mem_cons, List.mem_nil_iff, or_false] at hc
      rcases hc with rfl | rfl
      · decide
      · have := (hl _ hd).2
        omega)
    rw [← e] at this
    exact this

theorem grow_tree {n : Int} {ns : List Orch.Node} (h : Grow n ns) : TreeP n ns := by
  have hn := grow_nd h
  have hi := grow_is h
  obtain ⟨r, rfl, hr31, h0, h1, hg, ho, hp⟩ := h
  refine ⟨hi.2.1, ⟨by simp, rfl⟩, fun x hx => ?_, ?_, fun k hk => ?_⟩
  · obtain ⟨a1, a2, a3, a4, a5, a6, a7, a8, a9, a10, a11⟩ := hn x hx
    refine ⟨?_, a9⟩
    unfold isNd isNt
    simp only [Bool.and_eq_true, decide_eq_true_iff]
    exact ⟨a1, a4, ⟨a5, a6⟩, a7, a8, a10, a11⟩
  · have hall : Ord (root :: r) := List.pairwise_cons.2 ⟨fun y hy => (pairs_lt (hg y hy).1).1, ho⟩
    intro k hk
    exact (List.pairwise_iff_getElem.1 hall) k (k + 1) (by omega) hk (by omega)
  · have hk' : k < r.length := by simpa using hk
    obtain ⟨y, hy, e⟩ := hp r[k] (List.getElem_mem hk')
    obtain ⟨j, hj, ej⟩ := List.getElem_of_mem hy
    exact ⟨j, hj, by rw [ej, e]; rfl⟩

theorem nb_some {p d t : ByteArray} {m c v : Int} (hp : p.size ≤ 200) (hpv : validB p = true) (hd : d.size ≤ 200) (ht : t.size ≤ 200) (htv : validB t = true) (hm0 : 0 ≤ m) (hm1 : m ≤ 9223372036854775807) (hc0 : 0 ≤ c) (hc1 : c ≤ 9223372036854775807) (hv0 : 0 ≤ v) (hv1 : v ≤ 2147483647) :
    ∃ b, Orch.put validB 9 [] ty2 (Orch.fields 2 ⟨p, d, t, m, c, v⟩) = some b ∧ 0 < b.length := by
  have r1 : ∀ l : Orch.Lt, Orch.find l.sign = some l → l.fin = 0 → Orch.Reads 8 [l.sign] (.mk l []) := fun l h hs rest => by
    rw [List.singleton_append, Orch.ptype, h]
    simp only
    rw [if_pos hs]
  have T0 := Orch.Tup.nil (valid := validB) 8
  have T1 := T0.snoc (r1 ⟨116, 1, 0, 0, 0, true, 0⟩ rfl rfl) (Orch.lays_bytes (valid := validB) (k := 7) (l := ⟨116, 1, 0, 0, 0, true, 0⟩) (s := p) rfl hp (fun _ => hpv))
  have T2 := T1.snoc (r1 ⟨98, 1, 0, 0, 0, false, 0⟩ rfl rfl) (Orch.lays_bytes (valid := validB) (k := 7) (l := ⟨98, 1, 0, 0, 0, false, 0⟩) (s := d) rfl hd (fun h => by cases h))
  have T3 := T2.snoc (r1 ⟨116, 1, 0, 0, 0, true, 0⟩ rfl rfl) (Orch.lays_bytes (valid := validB) (k := 7) (l := ⟨116, 1, 0, 0, 0, true, 0⟩) (s := t) rfl ht (fun _ => htv))
  have T4 := T3.snoc (r1 ⟨56, 0, 8, -9223372036854775808, 9223372036854775807, false, 0⟩ rfl rfl) (Orch.lays_num (valid := validB) (k := 7) (l := ⟨56, 0, 8, -9223372036854775808, 9223372036854775807, false, 0⟩) (n := m) rfl (by simp only; omega) (by simp only; omega))
  have T5 := T4.snoc (r1 ⟨56, 0, 8, -9223372036854775808, 9223372036854775807, false, 0⟩ rfl rfl) (Orch.lays_num (valid := validB) (k := 7) (l := ⟨56, 0, 8, -9223372036854775808, 9223372036854775807, false, 0⟩) (n := c) rfl (by simp only; omega) (by simp only; omega))
  have T6 := T5.snoc (r1 ⟨52, 0, 4, -2147483648, 2147483647, false, 0⟩ rfl rfl) (Orch.lays_num (valid := validB) (k := 7) (l := ⟨52, 0, 4, -2147483648, 2147483647, false, 0⟩) (n := v) rfl (by simp only; omega) (by simp only; omega))
  have L := Orch.lays_tup T6
  have := L [] (by
    simp only [List.length_append, List.length_nil, Orch.be_length, Array.length_toList]
    have e1 : p.data.size = p.size := rfl
    have e2 : d.data.size = d.size := rfl
    have e3 : t.data.size = t.size := rfl
    omega)
  exact ⟨_, this, by simp [Orch.be_length]; omega⟩

theorem grow_nb {n : Int} {ns : List Orch.Node} (h : Grow n ns) (x : Orch.Node) (hx : x ∈ ns) : Orch.put validB 9 [] ty2 (Orch.fields 2 x) = some (nb x) ∧ 0 < (nb x).length := by
  obtain ⟨a1, a2, a3, a4, a5, a6, a7, a8, a9, a10, a11⟩ := grow_nd h x hx
  have hi := grow_is h
  obtain ⟨p, d, t, m, c, v⟩ := x
  simp only at a1 a2 a3 a4 a5 a6 a7 a8 a9 a10 a11
  obtain ⟨b, hb, hb0⟩ := nb_some (p := p) (d := d) (t := t) (m := m) (c := c) (v := v) (by omega) a3 (by omega) (by omega) a6 a7 (by omega) (by omega) (by omega) a10 a11
  unfold nb
  rw [hb]
  exact ⟨rfl, hb0⟩
end Go.Proofs.YtlghcldiboecoaaDoor
