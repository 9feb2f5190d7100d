/- A file of the second version, read. -/
import Derived.Test.YtbnoghkijgmcgaaDoorFSave
set_option linter.unusedVariables false
namespace Go.Proofs.YtbnoghkijgmcgaaDoor
open Go.RowKit

theorem take_small (valid : ByteArray → Bool) : ∀ (k : Nat) (t : Orch.Ty) (l : List UInt8) (v : Orch.V) (r : List UInt8), Orch.take valid k t l = some (v, r) → v.s.size ≤ 200
  | 0, t, l, v, r, h => by simp [Orch.take] at h
  | k + 1, t, l, v, r, h => by
    unfold Orch.take at h
    split at h
    · split at h
      · cases h
      · split at h
        · simp only [Option.some.injEq, Prod.mk.injEq] at h
          obtain ⟨rfl, _⟩ := h
          exact Nat.zero_le _
        · cases h
    · split at h
      · cases h
      · rename_i n rest hc
        have hn : n ≤ 200 := by
          unfold Orch.count at hc
          split at hc
          · cases hc
          · split at hc
            · cases hc
            · simp only [Option.some.injEq, Prod.mk.injEq] at hc
              obtain ⟨rfl, _⟩ := hc
              omega
        split at h
        · cases h
        · split at h
          · simp only [Option.some.injEq, Prod.mk.injEq] at h
            obtain ⟨rfl, _⟩ := h
            show (rest.take n).toArray.size ≤ 200
            simp
            omega
          · cases h
    · split at h
      · cases h
      · simp only [Option.map_eq_some_iff, Orch.listV, Prod.mk.injEq] at h
        obtain ⟨_, _, rfl, _⟩ := h
        exact Nat.zero_le _
    · simp only [Option.map_eq_some_iff, Orch.listV, Prod.mk.injEq] at h
      obtain ⟨_, _, rfl, _⟩ := h
      exact Nat.zero_le _

theorem takeE_small (valid : ByteArray → Bool) (k : Nat) (t : Orch.Ty) : ∀ m i b es r, Orch.takeE (Orch.take valid k) t m i b = some (es, r) → ∀ e, e ∈ es → e.s.size ≤ 200
  | 0, i, b, es, r, h => by
    simp only [Orch.takeE, Option.some.injEq, Prod.mk.injEq] at h
    obtain ⟨rfl, _⟩ := h
    intro e he
    cases he
  | m + 1, i, b, es, r, h => by
    unfold Orch.takeE at h
    split at h
    · cases h
    · rename_i e0 rest0 h0
      split at h
      · cases h
      · rename_i es' r' h1
        simp only [Option.some.injEq, Prod.mk.injEq] at h
        obtain ⟨rfl, _⟩ := h
        intro e he
        rcases List.mem_cons.1 he with rfl | he
        · exact take_small valid k _ _ _ _ h0
        · exact takeE_small valid k t m _ _ _ _ h1 e he

theorem node_small {l : List UInt8} {v : Orch.V} {rest : List UInt8} (h : vtake validB ty2 l = some (v, rest)) : (nodeOf v).path.size ≤ 200 ∧ (nodeOf v).data.size ≤ 200 := by
  have h6 := vtake_six h
  have hall : ∀ e, e ∈ v.l → e.s.size ≤ 200 := by
    unfold vtake at h
    cases hq : Orch.take validB 9 ty2 (l.take 1000) with
    | none => rw [hq] at h; cases h
    | some vr =>
      obtain ⟨v', r'⟩ := vr
      rw [hq] at h
      simp only [Option.some.injEq, Prod.mk.injEq] at h
      obtain ⟨rfl, _⟩ := h
      have hq' : (Orch.takeE (Orch.take validB 8) ty2 6 0 (l.take 1000)).map Orch.listV = some (v', r') := hq
      simp only [Option.map_eq_some_iff] at hq'
      obtain ⟨⟨es, r⟩, he, hl⟩ := hq'
      simp only [Orch.listV, Prod.mk.injEq] at hl
      obtain ⟨rfl, _⟩ := hl
      exact takeE_small validB 8 ty2 6 0 _ _ _ he
  refine ⟨?_, ?_⟩
  · show (v.l.getD 0 _).s.size ≤ 200
    rw [List.getD_eq_getElem?_getD, List.getElem?_eq_getElem (by omega)]
    exact hall _ (List.getElem_mem _)
  · show (v.l.getD 1 _).s.size ≤ 200
    rw [List.getD_eq_getElem?_getD, List.getElem?_eq_getElem (by omega)]
    exact hall _ (List.getElem_mem _)

theorem rdN_small : ∀ (k : Nat) (l : List UInt8) (ns : List Orch.Node) (r : List UInt8), rdN k l = some (ns, r) → ns.length = k ∧ ∀ x, x ∈ ns → x.path.size ≤ 200 ∧ x.data.size ≤ 200
  | 0, l, ns, r, h => by
    simp only [rdN, Option.some.injEq, Prod.mk.injEq] at h
    obtain ⟨rfl, _⟩ := h
    exact ⟨rfl, fun x hx => by cases hx⟩
  | k + 1, l, ns, r, h => by
    unfold rdN at h
    split at h
    · cases h
    · rename_i v rest hv
      simp only [Option.map_eq_some_iff, Prod.mk.injEq] at h
      obtain ⟨⟨ms, r'⟩, hm, rfl, _⟩ := h
      obtain ⟨h1, h2⟩ := rdN_small k rest ms r' hm
      refine ⟨by simp [h1], fun x hx => ?_⟩
      rcases List.mem_cons.1 hx with rfl | hx
      · exact node_small hv
      · exact h2 x hx

set_option maxRecDepth 8000 in
set_option maxHeartbeats 1000000 in
theorem isTree_empty (w : World) (n : Int) (a : Option Addr) (c : Nat) : Calls Tryd.prog 37 #[.int .i64 n, .slice a 0 c] w fun e w' => e = .returned (.bool false) ∧ w' = w := by
  go_enter Tryd.func37, Tryd.ntmps37
  go_wp2
  go_ret
  exact ⟨rfl, rfl⟩

theorem flat_at : ∀ (ns : List Orch.Node) (i j : Nat) (hi : i < ns.length), j < 6 → (ns.flatMap ncell)[i * 6 + j]? = (ncell ns[i])[j]?
  | [], i, j, hi, _ => by simp at hi
  | a :: ns, 0, j, hi, hj => by
    rw [List.flatMap_cons, Nat.zero_mul, Nat.zero_add, List.getElem?_append_left (by simpa [ncell] using hj)]
    rfl
  | a :: ns, i + 1, j, hi, hj => by
    have h6 : (ncell a).length = 6 := rfl
    rw [List.flatMap_cons, List.getElem?_append_right (by rw [h6]; omega), h6, show (i + 1) * 6 + j - 6 = i * 6 + j by omega]
    exact flat_at ns i j (by simpa using hi) hj

theorem ns_of_own {w : World} {base : Nat} {v : Value} {ns : List Orch.Node} (h : w.ownsRow base 69 6 v ns.length (ns.flatMap ncell)) (h1 : 1 ≤ ns.length) : NsAt w w.heap.size v ns := by
  have h' := h
  rcases h.2 with ⟨rfl, h0⟩ | ⟨g, cap, cur, rfl, hb, hg, hn, _, hs, ht⟩
  · omega
  · refine ⟨g, 0, cap, rfl, hn, ltOf hg, fun i hi j u hu => ?_⟩
    have hj : j < 6 := by
      have := (List.getElem?_eq_some_iff.1 hu).1
      simpa [ncell] using this
    have h2 := h'.cells (g := g) rfl (i * 6 + j) u (by rw [flat_at ns i j hi hj]; exact hu)
    rw [Addr.add_lit, Nat.zero_add] at h2
    rw [Nat.zero_add]
    exact h2
end Go.Proofs.YtbnoghkijgmcgaaDoor
