/- How a list of values grows by append while the maker changes. -/
import Derived.Test.YtbnoghkijgmcgaaDoorMade
set_option linter.unusedVariables false
namespace Go.Proofs.YtbnoghkijgmcgaaDoor
open Go.RowKit

theorem own_empty (w : World) (base : Nat) (hb : base ≤ w.heap.size) : (w.alloc (.cells #[] 31)).ownsRow base 31 3 (.slice (some ⟨w.heap.size, 0, none⟩) 0 0) 0 [] :=
  ⟨rfl, .inr ⟨w.heap.size, 0, #[], rfl, hb, heap_alloc_new w _, Nat.le_refl _, Nat.zero_le _, rfl, rfl⟩⟩

theorem ownsRow_keeps {w w1 : World} {M base : Nat} {e : TypeId} {size : Nat} {v : Value} {n : Nat} {xs : List Value} (h : w.ownsRow base e size v n xs) (hM : M < base) (hk : Keeps M w.heap.size w w1) : w1.ownsRow base e size v n xs :=
  h.kept (row := some M) ⟨hk.os, hk.tape, hk.output, hk.size, fun k hk1 hk2 => hk.block k hk1 (fun e => hk2 (by rw [e]))⟩ (by
    cases hv : v.ownBlock with
    | none => exact .inl rfl
    | some g =>
      refine .inr fun e => ?_
      have := (ownBlock_lt h hv).1
      injection e with e
      omega)

theorem grow_K {wr w2 w3 : World} {M base : Nat} {S : Nat → Prop} {v : Value} {ps : List (Orch.V × Value)} {t : Orch.V} {x : Value} {g cap : Nat} (hM : M < base)
    (hbase : base ≤ wr.heap.size) (hown : wr.ownsRow base 31 3 v ps.length (ps.flatMap vcell)) (hps : ∀ p, p ∈ ps → VsAt wr (Beside base v wr) p.1.l p.2)
    (hk : Keeps M wr.heap.size wr w2) (hx : VsAt w2 S t.l x) (hS : ∀ b, S b → base ≤ b ∧ b < w2.heap.size ∧ v.ownBlock ≠ some b)
    (hown3 : w3.ownsRow base 31 3 (.slice (some ⟨g, 0, none⟩) (ps.length + 1) cap) (ps.length + 1) (ps.flatMap vcell ++ vcell (t, x))) (hgr : w2.grownBy w3 v.ownBlock) (hat : v.ownBlock = some g ∨ g = w2.heap.size) :
    w3.ownsRow base 31 3 (.slice (some ⟨g, 0, none⟩) (ps.length + 1) cap) (ps ++ [(t, x)]).length ((ps ++ [(t, x)]).flatMap vcell) ∧
    (∀ p, p ∈ ps ++ [(t, x)] → VsAt w3 (Beside base (.slice (some ⟨g, 0, none⟩) (ps.length + 1) cap) w3) p.1.l p.2) ∧ Keeps M base wr w3 ∧ w3.heap[M]? = w2.heap[M]? := by
  have s1 := hk.size
  have s3 := hgr.size
  refine ⟨by rw [List.length_append, List.flatMap_append]; simpa using hown3, ?_, ⟨hgr.os.trans hk.os, hgr.tape.trans hk.tape, hgr.output.trans hk.output, by omega, fun b hb hne => ?_⟩, ?_⟩
  · intro p hp
    rw [List.mem_append] at hp
    rcases hp with hp | hp
    · refine (hps p hp).congr (fun b ⟨h1, h2, h3⟩ => ⟨h1, by omega, ?_⟩) (fun b ⟨h1, h2, h3⟩ => ?_)
      · intro he
        have he' : g = b := by simpa [Value.ownBlock] using he
        subst he'
        rcases hat with h | h
        · exact h3 h
        · omega
      · rw [hgr.block b (by omega) (fun e => h3 e.symm), hk.block b h2 (by omega)]
    · obtain rfl : p = (t, x) := by simpa using hp
      refine hx.congr (fun b hb => ⟨(hS b hb).1, by have := (hS b hb).2.1; omega, ?_⟩) (fun b hb => ?_)
      · rw [hgr.block b (hS b hb).2.1 (fun e => (hS b hb).2.2 e.symm)]
      · intro he
        have he' : g = b := by simpa [Value.ownBlock] using he
        subst he'
        rcases hat with h | h
        · exact (hS _ hb).2.2 h
        · have := (hS _ hb).2.1; omega
  · rw [hgr.block b (by omega) (fun e => by have := (ownBlock_lt hown e.symm).1; omega), hk.block b (by omega) hne]
  · rw [hgr.block M (by omega) (fun e => by have := (ownBlock_lt hown e.symm).1; omega)]
end Go.Proofs.YtbnoghkijgmcgaaDoor
