/- Lists of values whose rows are owned, all apart from one another. -/
import Derived.Test.YtlghcldiboecoaaGreatDoorFind
set_option linter.unusedVariables false
namespace Go.Proofs.YtlghcldiboecoaaGreatDoor
open Go.RowKit

/-- An element of a list: the value, its list, between which blocks all lists within lie. -/
structure Oe where
  v : Orch.V
  x : Value
  lo : Nat
  hi : Nat

def Oe.pr (q : Oe) : Orch.V × Value := (q.v, q.x)

/-- A list of values: nil or an owned row, and so all lists within, each in blocks of its own between lo and hi. -/
inductive OwT (w : World) : Nat → Nat → List Orch.V → Value → Prop
  | nil (lo hi : Nat) : OwT w lo hi [] (.slice none 0 0)
  | row (lo hi : Nat) (qs : List Oe) (g cap : Nat) (hhi : g < hi)
      (hown : w.ownsRow lo 113 3 (.slice (some ⟨g, 0, none⟩) qs.length cap) qs.length ((qs.map Oe.pr).flatMap vcell))
      (hin : ∀ q, q ∈ qs → lo ≤ q.lo ∧ q.lo ≤ q.hi ∧ q.hi ≤ hi ∧ ¬ (q.lo ≤ g ∧ g < q.hi)) (hdis : qs.Pairwise (fun a b => a.hi ≤ b.lo))
      (hr : ∀ q, q ∈ qs → OwT w q.lo q.hi q.v.l q.x) : OwT w lo hi (qs.map Oe.v) (.slice (some ⟨g, 0, none⟩) qs.length cap)

theorem OwT.congr {w w' : World} {lo hi : Nat} {vs : List Orch.V} {v : Value} (h : OwT w lo hi vs v) : (∀ b, lo ≤ b → b < hi → w'.heap[b]? = w.heap[b]?) → OwT w' lo hi vs v := by
  induction h with
  | nil lo hi => intro _; exact .nil lo hi
  | row lo hi qs g cap hhi hown hin hdis hr ih =>
    intro hk
    refine .row lo hi qs g cap hhi ⟨hown.1, ?_⟩ hin hdis (fun q hq => ih q hq (fun b h1 h2 => ?_))
    · have hlo := (hown.lt g rfl).1
      rcases hown.2 with h | ⟨g', cap', cur, e, k1, k2, k3⟩
      · exact .inl h
      · cases e
        exact .inr ⟨g, cap, cur, rfl, k1, (hk g hlo hhi).trans k2, k3⟩
    · have := hin q hq
      exact hk b (by omega) (by omega)

theorem OwT.mono {w : World} {lo hi lo' hi' : Nat} {vs : List Orch.V} {v : Value} (h : OwT w lo hi vs v) (h1 : lo' ≤ lo) (h2 : hi ≤ hi') : OwT w lo' hi' vs v := by
  cases h with
  | nil => exact .nil _ _
  | row _ _ qs g cap hhi hown hin hdis hr =>
    refine .row lo' hi' qs g cap (by omega) ⟨hown.1, hown.2.imp id fun ⟨g, cap, cur, e, k1, k2⟩ => ⟨g, cap, cur, e, Nat.le_trans h1 k1, k2⟩⟩ (fun q hq => ?_) hdis hr
    have := hin q hq
    omega

theorem pr_fst (qs : List Oe) : (qs.map Oe.pr).map Prod.fst = qs.map Oe.v := by rw [List.map_map]; rfl

theorem OwT.vs {w : World} {lo hi : Nat} {vs : List Orch.V} {v : Value} (h : OwT w lo hi vs v) : VsAt w (fun b => lo ≤ b ∧ b < hi) vs v := by
  induction h with
  | nil lo hi => exact .nil _ _
  | row lo hi qs g cap hhi hown hin hdis hr ih =>
    have hl : (qs.map Oe.pr).length = qs.length := List.length_map _
    rw [← pr_fst]
    rw [← hl] at hown ⊢
    refine VsAt.of_own hown (fun p hp => ?_) (fun g' hg' => ?_)
    · obtain ⟨q, hq, rfl⟩ := List.mem_map.1 hp
      have := hin q hq
      exact (ih q hq).congr (fun b hb => ⟨by omega, by omega⟩) (fun _ _ => rfl)
    · have h1 := hown.lt g' hg'
      have : g' = g := by simp [Value.ownBlock] at hg'; exact hg'.symm
      exact ⟨h1.1, by omega⟩

theorem OwT.shape {w : World} {lo hi : Nat} {vs : List Orch.V} {v : Value} (h : OwT w lo hi vs v) : ∃ a c, v = .slice a vs.length c := by
  cases h with
  | nil => exact ⟨_, _, rfl⟩
  | row _ _ qs g cap => exact ⟨_, _, by rw [List.length_map]⟩

/-- Halfway through a list. -/
def OwL (w : World) (base : Nat) (v : Value) (ps : List (Orch.V × Value)) : Prop :=
  ∃ qs : List Oe, qs.map Oe.pr = ps ∧ (∀ q, q ∈ qs → base ≤ q.lo ∧ q.lo ≤ q.hi ∧ q.hi ≤ w.heap.size ∧ ∀ g, v.ownBlock = some g → ¬ (q.lo ≤ g ∧ g < q.hi)) ∧ qs.Pairwise (fun a b => a.hi ≤ b.lo) ∧ ∀ q, q ∈ qs → OwT w q.lo q.hi q.v.l q.x

theorem OwL.nil (w : World) (base : Nat) (v : Value) : OwL w base v [] := ⟨[], rfl, (fun q hq => by cases hq), List.Pairwise.nil, (fun q hq => by cases hq)⟩

theorem OwL.keep {w w' : World} {base : Nat} {v : Value} {ps : List (Orch.V × Value)} (h : OwL w base v ps) (hs : w.heap.size ≤ w'.heap.size) (hk : ∀ b, base ≤ b → b < w.heap.size → v.ownBlock ≠ some b → w'.heap[b]? = w.heap[b]?) : OwL w' base v ps := by
  obtain ⟨qs, h1, h2, h3, h4⟩ := h
  refine ⟨qs, h1, fun q hq => ?_, h3, fun q hq => (h4 q hq).congr (fun b k1 k2 => ?_)⟩
  · have := h2 q hq
    exact ⟨this.1, this.2.1, by omega, this.2.2.2⟩
  · obtain ⟨a1, a2, a3, a4⟩ := h2 q hq
    exact hk b (by omega) (by omega) (fun e => a4 b e ⟨k1, k2⟩)

theorem OwL.grow {wr w1 w2 w3 : World} {base : Nat} {v : Value} {ps : List (Orch.V × Value)} {t : Orch.V} {x : Value} {g cap n : Nat}
    (hbase : base ≤ wr.heap.size) (hlt : ∀ g, v.ownBlock = some g → g < wr.heap.size) (hps : OwL wr base v ps)
    (hb1 : Below wr.heap.size wr w1) (hx : OwT w1 wr.heap.size w1.heap.size t.l x) (hb2 : Below w1.heap.size w1 w2)
    (hgr : w2.grownBy w3 v.ownBlock) (hat : v.ownBlock = some g ∨ g = w2.heap.size) : OwL w3 base (.slice (some ⟨g, 0, none⟩) n cap) (ps ++ [(t, x)]) := by
  have s1 := hb1.size
  have s2 := hb2.size
  have s3 := hgr.size
  obtain ⟨qs, rfl, h2, h3, h4⟩ := hps
  have hgk : ∀ g', (Value.slice (some ⟨g, 0, none⟩) n cap).ownBlock = some g' → v.ownBlock = some g' ∨ g' = w2.heap.size := by
    intro g' hg'
    have : g = g' := by simpa [Value.ownBlock] using hg'
    subst this
    exact hat
  refine ⟨qs ++ [⟨t, x, wr.heap.size, w1.heap.size⟩], by rw [List.map_append]; rfl, fun q hq => ?_, ?_, fun q hq => ?_⟩
  · rw [List.mem_append] at hq
    rcases hq with hq | hq
    · obtain ⟨a1, a2, a3, a4⟩ := h2 q hq
      refine ⟨a1, a2, by omega, fun g' hg' => ?_⟩
      rcases hgk g' hg' with h | h
      · exact a4 g' h
      · omega
    · obtain rfl : q = ⟨t, x, wr.heap.size, w1.heap.size⟩ := by simpa using hq
      refine ⟨hbase, s1, by show w1.heap.size ≤ _; omega, fun g' hg' => ?_⟩
      show ¬ (wr.heap.size ≤ g' ∧ g' < w1.heap.size)
      rcases hgk g' hg' with h | h
      · have := hlt g' h; omega
      · omega
  · rw [List.pairwise_append]
    refine ⟨h3, List.pairwise_singleton _ _, fun a ha b hb => ?_⟩
    obtain rfl : b = ⟨t, x, wr.heap.size, w1.heap.size⟩ := by simpa using hb
    exact (h2 a ha).2.2.1
  · rw [List.mem_append] at hq
    rcases hq with hq | hq
    · obtain ⟨a1, a2, a3, a4⟩ := h2 q hq
      refine (h4 q hq).congr (fun b k1 k2 => ?_)
      rw [hgr.block b (by omega) (fun e => a4 b e.symm ⟨k1, k2⟩), hb2.block b (by omega), hb1.block b (by omega)]
    · obtain rfl : q = ⟨t, x, wr.heap.size, w1.heap.size⟩ := by simpa using hq
      refine hx.congr (fun b k1 k2 => ?_)
      rw [hgr.block b (by omega) (fun e => by have := hlt b e.symm; omega), hb2.block b k2]

theorem OwL.done {w : World} {base : Nat} {v : Value} {ps : List (Orch.V × Value)} (hown : w.ownsRow base 113 3 v ps.length (ps.flatMap vcell)) (h : OwL w base v ps) : OwT w base w.heap.size (ps.map Prod.fst) v := by
  obtain ⟨qs, rfl, h2, h3, h4⟩ := h
  rw [List.length_map] at hown
  rw [pr_fst]
  rcases hown.2 with ⟨rfl, h0⟩ | ⟨g, cap, cur, rfl, _⟩
  · have : qs = [] := List.length_eq_zero_iff.1 h0
    subst this
    exact .nil _ _
  · exact .row _ _ qs g cap (hown.lt g rfl).2 hown (fun q hq => by obtain ⟨a1, a2, a3, a4⟩ := h2 q hq; exact ⟨a1, a2, a3, a4 g rfl⟩) h3 h4
end Go.Proofs.YtlghcldiboecoaaGreatDoor
