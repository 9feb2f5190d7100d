/- What a file of a tree says when it is read again. -/
import Derived.Test.YtbnoghkijgmcgaaDoorFWrap
set_option linter.unusedVariables false
namespace Go.Proofs.YtbnoghkijgmcgaaDoor
open Go.RowKit

theorem vtake_pre_of {v : Orch.V} {pre : List UInt8} (hp : pre.length ≤ 1000) (h : ∀ rest, Orch.take validB 9 ty2 (pre ++ rest) = some (v, rest)) (rest : List UInt8) : vtake validB ty2 (pre ++ rest) = some (v, rest) := by
  unfold vtake
  have e : (pre ++ rest).take 1000 = pre ++ rest.take (1000 - pre.length) := by rw [List.take_append, List.take_of_length_le hp]
  rw [e, h]
  simp only [List.length_append, Nat.add_sub_cancel]
  rw [List.drop_left]

theorem well2 (m : Nat) : Orch.Well m ty2 := Orch.parse_well parse_ty2 m

theorem vtake_put {v : Orch.V} {b : List UInt8} (h : Orch.put validB 9 [] ty2 v = some b) (rest : List UInt8) : vtake validB ty2 (b ++ rest) = some (v, rest) := by
  have hb := Orch.put_length validB _ _ _ _ _ h
  obtain ⟨pre, he, ht⟩ := Orch.take_put validB 9 ty2 v [] b (well2 9) h
  rw [List.nil_append] at he
  subst he
  exact vtake_pre_of hb ht rest

theorem vtake_pre {l r : List UInt8} {v : Orch.V} (h : vtake validB ty2 l = some (v, r)) : ∃ pre, l = pre ++ r ∧ ∀ any, vtake validB ty2 (pre ++ any) = some (v, any) := by
  unfold vtake at h
  cases hq : Orch.take validB 9 ty2 (l.take 1000) with
  | none => rw [hq] at h; cases h
  | some vr =>
    obtain ⟨v', r'⟩ := vr
    rw [hq] at h
    simp only [Option.some.injEq, Prod.mk.injEq] at h
    obtain ⟨rfl, rfl⟩ := h
    obtain ⟨pre, he, hp⟩ := Orch.put_take validB 9 ty2 _ _ _ hq
    have hlen : pre.length ≤ 1000 := by
      have := congrArg List.length he
      rw [List.length_take, List.length_append] at this
      omega
    have hput := hp [] (by simpa using hlen)
    rw [List.nil_append] at hput
    refine ⟨pre, ?_, fun any => vtake_put hput any⟩
    have h1 : (l.take 1000).length - r'.length = pre.length := by rw [he, List.length_append]; omega
    rw [h1]
    have h2 : l.take pre.length = pre := by
      have := congrArg (List.take pre.length) he
      rw [List.take_take, Nat.min_eq_left hlen, List.take_left] at this
      exact this
    conv => lhs; rw [← List.take_append_drop pre.length l, h2]

theorem rdN_pre : ∀ (k : Nat) (l r : List UInt8) (ns : List Orch.Node), rdN k l = some (ns, r) → ∃ pre, l = pre ++ r ∧ ∀ any, rdN k (pre ++ any) = some (ns, any)
  | 0, l, r, ns, h => by
    simp only [rdN, Option.some.injEq, Prod.mk.injEq] at h
    obtain ⟨rfl, rfl⟩ := h
    exact ⟨[], rfl, fun any => rfl⟩
  | k + 1, l, r, ns, h => by
    unfold rdN at h
    split at h
    · cases h
    · rename_i v rest hv
      simp only [Option.map_eq_some_iff, Prod.mk.injEq] at h
      obtain ⟨⟨ms, r'⟩, hm, rfl, rfl⟩ := h
      obtain ⟨p1, rfl, h1⟩ := vtake_pre hv
      obtain ⟨p2, rfl, h2⟩ := rdN_pre k rest r' ms hm
      refine ⟨p1 ++ p2, by simp, fun any => ?_⟩
      rw [List.append_assoc]
      simp only [rdN, h1, h2]
      rfl

theorem nodeOf_fields (x : Orch.Node) : nodeOf (Orch.fields 2 x) = x := rfl

theorem rdN_flat : ∀ (ns : List Orch.Node), (∀ x, x ∈ ns → Orch.put validB 9 [] ty2 (Orch.fields 2 x) = some (nb x)) → ∀ rest, rdN ns.length (ns.flatMap nb ++ rest) = some (ns, rest)
  | [], _, rest => rfl
  | x :: ns, h, rest => by
    have h1 := vtake_put (h x (by simp)) (ns.flatMap nb ++ rest)
    have h2 := rdN_flat ns (fun y hy => h y (by simp [hy])) rest
    rw [List.flatMap_cons, List.append_assoc, List.length_cons]
    simp only [rdN, h1, h2]
    rfl

theorem uns_be_lt (n : Nat) (k : Nat) (h : n < 256 ^ k) : Orch.uns (Orch.be n k) = n := by
  have h1 := Orch.uns_be (n : Int) k
  have h3 : ((256 ^ k : Nat) : Int) = (256 : Int) ^ k := by rw [Int.natCast_pow]; rfl
  have h2 : ((n : Int) % 256 ^ k) = n := Int.emod_eq_of_lt (by omega) (by rw [← h3]; omega)
  rw [h2] at h1
  omega

/-- The head of a file. -/
def headB (n : Int) (c : Nat) : List UInt8 := [79, 82, 67, 72] ++ Orch.be 2 1 ++ Orch.be n 8 ++ Orch.be c 4

theorem headB_len (n : Int) (c : Nat) : (headB n c).length = 17 := by
  unfold headB
  rw [List.length_append, List.length_append, List.length_append, Orch.be_length, Orch.be_length, Orch.be_length]
  rfl

theorem body_eq (n : Int) (ns : List Orch.Node) : bodyB n ns = headB n ns.length ++ ns.flatMap nb := rfl

theorem headOf_headB (n : Int) (h0 : 0 ≤ n) (h1 : n ≤ 9223372036854775807) (c : Nat) (hc : c ≤ 32) : headOf (headB n c) = some (2, n, c) := by
  have e1 : (headB n c).take 4 = [79, 82, 67, 72] := rfl
  have e2 : ((headB n c).drop 4).take 1 = Orch.be 2 1 := rfl
  have e3 : (headB n c).drop 5 = Orch.be n 8 ++ Orch.be c 4 := rfl
  have e4 : (headB n c).drop 13 = Orch.be c 4 := rfl
  have e5 : ((headB n c).drop 5).take 8 = Orch.be n 8 := by
    rw [e3]
    exact List.take_left' (Orch.be_length n 8)
  unfold headOf
  rw [if_pos e1, e2, e5, e4]
  have u2 : Orch.uns (Orch.be 2 1) = 2 := rfl
  rw [u2]
  simp only [show (1 : Nat) ≤ 2 ∧ 2 ≤ 2 from ⟨by omega, by omega⟩, if_true, and_self]
  rw [Orch.sgn_be n 8 (by omega) (by omega), uns_be_lt c 4 (by omega)]

theorem load_file {n : Int} {ns : List Orch.Node} (h0 : 0 ≤ n) (h1 : n ≤ 9223372036854775807) (ht : TreeP n ns) (hok : ∀ x, x ∈ ns → Orch.put validB 9 [] ty2 (Orch.fields 2 x) = some (nb x)) :
    LoadIs (fileB n ns) n ns := by
  have hl : (fileB n ns).length = (bodyB n ns).length + 4 := by unfold fileB; rw [List.length_append, Orch.be_length]
  have e1 : (fileB n ns).take ((fileB n ns).length - 4) = bodyB n ns := by
    rw [hl, Nat.add_sub_cancel]
    unfold fileB
    exact List.take_left
  have e2 : (fileB n ns).drop ((fileB n ns).length - 4) = Orch.be (Orch.sum (bodyB n ns)) 4 := by
    rw [hl, Nat.add_sub_cancel]
    unfold fileB
    exact List.drop_left
  have h17 : 17 ≤ (bodyB n ns).length := by rw [body_eq, List.length_append, headB_len]; omega
  refine ⟨by omega, ?_, by omega, ns.length, ?_, ?_, ht⟩
  · rw [e1, e2, uns_be_lt _ 4 (Orch.sum_lt _)]
  · rw [e1, body_eq, List.take_left' (headB_len n ns.length)]
    exact headOf_headB n h0 h1 _ ht.1
  · rw [e1, body_eq, List.drop_left' (headB_len n ns.length)]
    have := rdN_flat ns hok []
    rw [List.append_nil] at this
    exact this

theorem load_unique {l : List UInt8} {n n' : Int} {ns ns' : List Orch.Node} (h : LoadIs l n ns) (h' : LoadIs l n' ns') : n = n' ∧ ns = ns' := by
  obtain ⟨_, _, _, c, a1, a2, _⟩ := h
  obtain ⟨_, _, _, c', b1, b2, _⟩ := h'
  rw [a1] at b1
  simp only [Option.some.injEq, Prod.mk.injEq, true_and] at b1
  obtain ⟨rfl, rfl⟩ := b1
  rw [a2] at b2
  simp only [Option.some.injEq, Prod.mk.injEq, and_true] at b2
  exact ⟨rfl, b2⟩
end Go.Proofs.YtbnoghkijgmcgaaDoor
