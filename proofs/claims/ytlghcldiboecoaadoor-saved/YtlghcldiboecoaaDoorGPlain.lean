/- Files of the first version: what they say. -/
import Derived.Test.YtlghcldiboecoaaDoorFInv2
set_option linter.unusedVariables false
namespace Go.Proofs.YtlghcldiboecoaaDoor
open Go.RowKit

/-- The type of a node in a file of the first version. -/
def ty1 : Orch.Ty := .mk ⟨40, 3, 0, 0, 0, false, 41⟩ [.mk ⟨116, 1, 0, 0, 0, true, 0⟩ [], .mk ⟨98, 1, 0, 0, 0, false, 0⟩ [],
  .mk ⟨56, 0, 8, -9223372036854775808, 9223372036854775807, false, 0⟩ [], .mk ⟨56, 0, 8, -9223372036854775808, 9223372036854775807, false, 0⟩ [], .mk ⟨52, 0, 4, -2147483648, 2147483647, false, 0⟩ []]

theorem parse_ty1 : Orch.parse [40, 116, 98, 56, 56, 52, 41] = some ty1 := by rfl
theorem ok_ty1 : okT 9 ty1 := parse_ok parse_ty1

/-- The bytes of a node. -/
def nb1 (x : Orch.Node) : List UInt8 := (Orch.put validB 9 [] ty1 (Orch.fields 1 x)).getD []

theorem pre_short1 {xs : List UInt8} {l : List Orch.Node} {k : Nat} (hx : xs.length ≤ 1000) (h : ∀ x, x ∈ l.take k → (nb1 x).length ≤ 1000) : (xs ++ (l.take k).flatMap nb1).length ≤ 1000 + k * 1000 := by
  have aux : ∀ (m : List Orch.Node), (∀ x, x ∈ m → (nb1 x).length ≤ 1000) → (m.flatMap nb1).length ≤ m.length * 1000 := by
    intro m
    induction m with
    | nil => simp
    | cons a m ih =>
      intro hm
      have h1 := hm a (by simp)
      have h2 := ih (fun x hx => hm x (by simp [hx]))
      rw [List.flatMap_cons, List.length_append, List.length_cons]
      omega
  have h1 := aux _ h
  have h2 : (l.take k).length ≤ k := by rw [List.length_take]; omega
  rw [List.length_append]
  omega

theorem flat_short1 {l : List Orch.Node} (h : ∀ x, x ∈ l → (nb1 x).length ≤ 1000) : (l.flatMap nb1).length ≤ l.length * 1000 := by
  induction l with
  | nil => simp
  | cons a m ih =>
    have h1 := h a (by simp)
    have h2 := ih (fun x hx => h x (by simp [hx]))
    rw [List.flatMap_cons, List.length_append, List.length_cons]
    omega

/-- The node of which these are the fields. -/
def nodeOf1 (v : Orch.V) : Orch.Node :=
  ⟨(v.l.getD 0 (.mk 0 ByteArray.empty [])).s, (v.l.getD 1 (.mk 0 ByteArray.empty [])).s, ⟨#[]⟩, (v.l.getD 2 (.mk 0 ByteArray.empty [])).n, (v.l.getD 3 (.mk 0 ByteArray.empty [])).n, (v.l.getD 4 (.mk 0 ByteArray.empty [])).n⟩

/-- So many nodes out of bytes; what is left. -/
def rdN1 : Nat → List UInt8 → Option (List Orch.Node × List UInt8)
  | 0, l => some ([], l)
  | k + 1, l => match vtake validB ty1 l with
    | none => none
    | some (v, rest) => (rdN1 k rest).map fun r => (nodeOf1 v :: r.1, r.2)

theorem vtake_five {l : List UInt8} {v : Orch.V} {rest : List UInt8} (h : vtake validB ty1 l = some (v, rest)) : v.l.length = 5 := by
  unfold vtake at h
  cases hq : Orch.take validB 9 ty1 (l.take 1000) with
  | none => rw [hq] at h; cases h
  | some vr =>
    obtain ⟨v', r'⟩ := vr
    rw [hq] at h
    simp only [Option.some.injEq, Prod.mk.injEq] at h
    obtain ⟨rfl, _⟩ := h
    have hq' : (Orch.takeE (Orch.take validB 8) ty1 5 0 (l.take 1000)).map Orch.listV = some (v', r') := hq
    simp only [Option.map_eq_some_iff] at hq'
    obtain ⟨⟨es, r⟩, he, hl⟩ := hq'
    simp only [Orch.listV, Prod.mk.injEq] at hl
    obtain ⟨rfl, _⟩ := hl
    exact Orch.takeE_length _ _ _ _ _ _ _ he

theorem vtake_len1 {l : List UInt8} {v : Orch.V} {rest : List UInt8} (h : vtake validB ty1 l = some (v, rest)) : rest.length ≤ l.length := by
  unfold vtake at h
  split at h
  · cases h
  · simp only [Option.some.injEq, Prod.mk.injEq] at h
    obtain ⟨_, rfl⟩ := h
    rw [List.length_drop]
    omega

theorem node_small1 {l : List UInt8} {v : Orch.V} {rest : List UInt8} (h : vtake validB ty1 l = some (v, rest)) : (nodeOf1 v).path.size ≤ 200 ∧ (nodeOf1 v).data.size ≤ 200 := by
  have h5 := vtake_five h
  have hall : ∀ e, e ∈ v.l → e.s.size ≤ 200 := by
    unfold vtake at h
    cases hq : Orch.take validB 9 ty1 (l.take 1000) with
    | none => rw [hq] at h; cases h
    | some vr =>
      obtain ⟨v', r'⟩ := vr
      rw [hq] at h
      simp only [Option.some.injEq, Prod.mk.injEq] at h
      obtain ⟨rfl, _⟩ := h
      have hq' : (Orch.takeE (Orch.take validB 8) ty1 5 0 (l.take 1000)).map Orch.listV = some (v', r') := hq
      simp only [Option.map_eq_some_iff] at hq'
      obtain ⟨⟨es, r⟩, he, hl⟩ := hq'
      simp only [Orch.listV, Prod.mk.injEq] at hl
      obtain ⟨rfl, _⟩ := hl
      exact takeE_small validB 8 ty1 5 0 _ _ _ he
  refine ⟨?_, ?_⟩
  · show (v.l.getD 0 _).s.size ≤ 200
    rw [List.getD_eq_getElem?_getD, List.getElem?_eq_getElem (by omega)]
    exact hall _ (List.getElem_mem _)
  · show (v.l.getD 1 _).s.size ≤ 200
    rw [List.getD_eq_getElem?_getD, List.getElem?_eq_getElem (by omega)]
    exact hall _ (List.getElem_mem _)

theorem rdN_small1 : ∀ (k : Nat) (l : List UInt8) (ns : List Orch.Node) (r : List UInt8), rdN1 k l = some (ns, r) → ns.length = k ∧ ∀ x, x ∈ ns → x.path.size ≤ 200 ∧ x.data.size ≤ 200
  | 0, l, ns, r, h => by
    simp only [rdN1, Option.some.injEq, Prod.mk.injEq] at h
    obtain ⟨rfl, _⟩ := h
    exact ⟨rfl, fun x hx => by cases hx⟩
  | k + 1, l, ns, r, h => by
    unfold rdN1 at h
    split at h
    · cases h
    · rename_i v rest hv
      simp only [Option.map_eq_some_iff, Prod.mk.injEq] at h
      obtain ⟨⟨ms, r'⟩, hm, rfl, _⟩ := h
      obtain ⟨h1, h2⟩ := rdN_small1 k rest ms r' hm
      refine ⟨by simp [h1], fun x hx => ?_⟩
      rcases List.mem_cons.1 hx with rfl | hx
      · exact node_small1 hv
      · exact h2 x hx

/-- What stands ahead of the sum. -/
def bodyB1 (n : Int) (ns : List Orch.Node) : List UInt8 := [79, 82, 67, 72] ++ Orch.be 1 1 ++ Orch.be n 8 ++ Orch.be ns.length 4 ++ ns.flatMap nb1

/-- The file of a tree in the first version. -/
def fileB1 (n : Int) (ns : List Orch.Node) : List UInt8 := bodyB1 n ns ++ Orch.be (Orch.sum (bodyB1 n ns)) 4

/-- What a file of the first version says. -/
def LoadIs1 (l : List UInt8) (n : Int) (ns : List Orch.Node) : Prop :=
  4 ≤ l.length ∧ Orch.uns (l.drop (l.length - 4)) = Orch.sum (l.take (l.length - 4)) ∧ 17 ≤ l.length - 4 ∧
    ∃ c, headOf ((l.take (l.length - 4)).take 17) = some (1, n, c) ∧ rdN1 c ((l.take (l.length - 4)).drop 17) = some (ns, []) ∧ TreeP n ns

theorem vtake_pre_of1 {v : Orch.V} {pre : List UInt8} (hp : pre.length ≤ 1000) (h : ∀ rest, Orch.take validB 9 ty1 (pre ++ rest) = some (v, rest)) (rest : List UInt8) : vtake validB ty1 (pre ++ rest) = some (v, rest) := by
  unfold vtake
  have e : (pre ++ rest).take 1000 = pre ++ rest.take (1000 - pre.length) := by rw [List.take_append, List.take_of_length_le hp]
  rw [e, h]
  simp only [List.length_append, Nat.add_sub_cancel]
  rw [List.drop_left]

theorem well1 (m : Nat) : Orch.Well m ty1 := Orch.parse_well parse_ty1 m

theorem vtake_put1 {v : Orch.V} {b : List UInt8} (h : Orch.put validB 9 [] ty1 v = some b) (rest : List UInt8) : vtake validB ty1 (b ++ rest) = some (v, rest) := by
  have hb := Orch.put_length validB _ _ _ _ _ h
  obtain ⟨pre, he, ht⟩ := Orch.take_put validB 9 ty1 v [] b (well1 9) h
  rw [List.nil_append] at he
  subst he
  exact vtake_pre_of1 hb ht rest

theorem vtake_pre1 {l r : List UInt8} {v : Orch.V} (h : vtake validB ty1 l = some (v, r)) : ∃ pre, l = pre ++ r ∧ ∀ any, vtake validB ty1 (pre ++ any) = some (v, any) := by
  unfold vtake at h
  cases hq : Orch.take validB 9 ty1 (l.take 1000) with
  | none => rw [hq] at h; cases h
  | some vr =>
    obtain ⟨v', r'⟩ := vr
    rw [hq] at h
    simp only [Option.some.injEq, Prod.mk.injEq] at h
    obtain ⟨rfl, rfl⟩ := h
    obtain ⟨pre, he, hp⟩ := Orch.put_take validB 9 ty1 _ _ _ hq
    have hlen : pre.length ≤ 1000 := by
      have := congrArg List.length he
      rw [List.length_take, List.length_append] at this
      omega
    have hput := hp [] (by simpa using hlen)
    rw [List.nil_append] at hput
    refine ⟨pre, ?_, fun any => vtake_put1 hput any⟩
    have h1 : (l.take 1000).length - r'.length = pre.length := by rw [he, List.length_append]; omega
    rw [h1]
    have h2 : l.take pre.length = pre := by
      have := congrArg (List.take pre.length) he
      rw [List.take_take, Nat.min_eq_left hlen, List.take_left] at this
      exact this
    conv => lhs; rw [← List.take_append_drop pre.length l, h2]

theorem rdN_pre1 : ∀ (k : Nat) (l r : List UInt8) (ns : List Orch.Node), rdN1 k l = some (ns, r) → ∃ pre, l = pre ++ r ∧ ∀ any, rdN1 k (pre ++ any) = some (ns, any)
  | 0, l, r, ns, h => by
    simp only [rdN1, Option.some.injEq, Prod.mk.injEq] at h
    obtain ⟨rfl, rfl⟩ := h
    exact ⟨[], rfl, fun any => rfl⟩
  | k + 1, l, r, ns, h => by
    unfold rdN1 at h
    split at h
    · cases h
    · rename_i v rest hv
      simp only [Option.map_eq_some_iff, Prod.mk.injEq] at h
      obtain ⟨⟨ms, r'⟩, hm, rfl, rfl⟩ := h
      obtain ⟨p1, rfl, h1⟩ := vtake_pre1 hv
      obtain ⟨p2, rfl, h2⟩ := rdN_pre1 k rest r' ms hm
      refine ⟨p1 ++ p2, by simp, fun any => ?_⟩
      rw [List.append_assoc]
      simp only [rdN1, h1, h2]
      rfl

theorem nodeOf_fields1 (x : Orch.Node) (h : x.note = ⟨#[]⟩) : nodeOf1 (Orch.fields 1 x) = x := by
  obtain ⟨p, d, t, m, c, v⟩ := x
  obtain rfl : t = ⟨#[]⟩ := h
  rfl

theorem rdN_flat1 : ∀ (ns : List Orch.Node), (∀ x, x ∈ ns → Orch.put validB 9 [] ty1 (Orch.fields 1 x) = some (nb1 x) ∧ x.note = ⟨#[]⟩) → ∀ rest, rdN1 ns.length (ns.flatMap nb1 ++ rest) = some (ns, rest)
  | [], _, rest => rfl
  | x :: ns, h, rest => by
    have h1 := vtake_put1 (h x (by simp)).1 (ns.flatMap nb1 ++ rest)
    have h2 := rdN_flat1 ns (fun y hy => h y (by simp [hy])) rest
    rw [List.flatMap_cons, List.append_assoc, List.length_cons]
    simp only [rdN1, h1, h2, nodeOf_fields1 x (h x (by simp)).2]
    rfl

/-- The head of a file. -/
def headB1 (n : Int) (c : Nat) : List UInt8 := [79, 82, 67, 72] ++ Orch.be 1 1 ++ Orch.be n 8 ++ Orch.be c 4

theorem headB_len1 (n : Int) (c : Nat) : (headB1 n c).length = 17 := by
  unfold headB1
  rw [List.length_append, List.length_append, List.length_append, Orch.be_length, Orch.be_length, Orch.be_length]
  rfl

theorem body_eq1 (n : Int) (ns : List Orch.Node) : bodyB1 n ns = headB1 n ns.length ++ ns.flatMap nb1 := rfl

theorem headOf_headB1 (n : Int) (h0 : 0 ≤ n) (h1 : n ≤ 9223372036854775807) (c : Nat) (hc : c ≤ 32) : headOf (headB1 n c) = some (1, n, c) := by
  have e1 : (headB1 n c).take 4 = [79, 82, 67, 72] := rfl
  have e2 : ((headB1 n c).drop 4).take 1 = Orch.be 1 1 := rfl
  have e3 : (headB1 n c).drop 5 = Orch.be n 8 ++ Orch.be c 4 := rfl
  have e4 : (headB1 n c).drop 13 = Orch.be c 4 := rfl
  have e5 : ((headB1 n c).drop 5).take 8 = Orch.be n 8 := by
    rw [e3]
    exact List.take_left' (Orch.be_length n 8)
  unfold headOf
  rw [if_pos e1, e2, e5, e4]
  have u1 : Orch.uns (Orch.be 1 1) = 1 := rfl
  rw [u1]
  simp only [show (1 : Nat) ≤ 1 ∧ 1 ≤ 2 from ⟨by omega, by omega⟩, if_true, and_self]
  rw [Orch.sgn_be n 8 (by omega) (by omega), uns_be_lt c 4 (by omega)]

theorem load_file1 {n : Int} {ns : List Orch.Node} (h0 : 0 ≤ n) (h1 : n ≤ 9223372036854775807) (ht : TreeP n ns) (hok : ∀ x, x ∈ ns → Orch.put validB 9 [] ty1 (Orch.fields 1 x) = some (nb1 x) ∧ x.note = ⟨#[]⟩) :
    LoadIs1 (fileB1 n ns) n ns := by
  have hl : (fileB1 n ns).length = (bodyB1 n ns).length + 4 := by unfold fileB1; rw [List.length_append, Orch.be_length]
  have e1 : (fileB1 n ns).take ((fileB1 n ns).length - 4) = bodyB1 n ns := by
    rw [hl, Nat.add_sub_cancel]
    unfold fileB1
    exact List.take_left
  have e2 : (fileB1 n ns).drop ((fileB1 n ns).length - 4) = Orch.be (Orch.sum (bodyB1 n ns)) 4 := by
    rw [hl, Nat.add_sub_cancel]
    unfold fileB1
    exact List.drop_left
  have h17 : 17 ≤ (bodyB1 n ns).length := by rw [body_eq1, List.length_append, headB_len1]; omega
  refine ⟨by omega, ?_, by omega, ns.length, ?_, ?_, ht⟩
  · rw [e1, e2, uns_be_lt _ 4 (Orch.sum_lt _)]
  · rw [e1, body_eq1, List.take_left' (headB_len1 n ns.length)]
    exact headOf_headB1 n h0 h1 _ ht.1
  · rw [e1, body_eq1, List.drop_left' (headB_len1 n ns.length)]
    have := rdN_flat1 ns hok []
    rw [List.append_nil] at this
    exact this

theorem load_unique1 {l : List UInt8} {n n' : Int} {ns ns' : List Orch.Node} (h : LoadIs1 l n ns) (h' : LoadIs1 l n' ns') : n = n' ∧ ns = ns' := by
  obtain ⟨_, _, _, c, a1, a2, _⟩ := h
  obtain ⟨_, _, _, c', b1, b2, _⟩ := h'
  rw [a1] at b1
  simp only [Option.some.injEq, Prod.mk.injEq, true_and] at b1
  obtain ⟨rfl, rfl⟩ := b1
  rw [a2] at b2
  simp only [Option.some.injEq, Prod.mk.injEq, and_true] at b2
  exact ⟨rfl, b2⟩

theorem file_len1 {n : Int} {ns : List Orch.Node} (h32 : ns.length ≤ 32) (hok : ∀ x, x ∈ ns → Orch.put validB 9 [] ty1 (Orch.fields 1 x) = some (nb1 x) ∧ 0 < (nb1 x).length) : (fileB1 n ns).length ≤ 40000 ∧ 21 ≤ (fileB1 n ns).length := by
  have hf := flat_short1 (l := ns) (fun x hx => put_short (hok x hx).1)
  have hl : (fileB1 n ns).length = 17 + (ns.flatMap nb1).length + 4 := by unfold fileB1; rw [List.length_append, Orch.be_length, body_eq1, List.length_append, headB_len1]
  omega

end Go.Proofs.YtlghcldiboecoaaDoor
