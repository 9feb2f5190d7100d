/- How lists of types and of values grow by append. -/
import Derived.Test.YtbnoghkijgmcgaaDoorFind
namespace Go.Proofs.YtbnoghkijgmcgaaDoor
open Go.RowKit

/-- The blocks from base on that are not the slice's own row. -/
def Beside (base : Nat) (v : Value) (w : World) (b : Nat) : Prop := base ≤ b ∧ b < w.heap.size ∧ v.ownBlock ≠ some b

theorem ownsRow_below {w w1 : World} {base : Nat} {e : TypeId} {size : Nat} {v : Value} {n : Nat} {xs : List Value} (h : w.ownsRow base e size v n xs) (hb : Below w.heap.size w w1) : w1.ownsRow base e size v n xs :=
  h.kept (row := none) ⟨hb.os, hb.tape, hb.output, hb.size, fun k hk _ => hb.block k hk⟩ (by cases hv : v.ownBlock <;> simp)

theorem ownBlock_lt {w : World} {base : Nat} {e : TypeId} {size : Nat} {v : Value} {n : Nat} {xs : List Value} (h : w.ownsRow base e size v n xs) {g : Nat} (hg : v.ownBlock = some g) : base ≤ g ∧ g < w.heap.size := h.lt g hg

/-- A list of types, owned, and one type more that was made by a call, appended. -/
theorem grow_T {wr w1 w2 w3 : World} {base : Nat} {v : Value} {ps : List (Orch.Ty × Value)} {t : Orch.Ty} {x : Value} {g cap : Nat}
    (hbase : base ≤ wr.heap.size) (hown : wr.ownsRow base 62 8 v ps.length (ps.flatMap tcell)) (hps : ∀ p, p ∈ ps → TsAt wr (Beside base v wr) p.1.ps p.2)
    (hb1 : Below wr.heap.size wr w1) (hx : TsAt w1 (fun b => wr.heap.size ≤ b ∧ b < w1.heap.size) t.ps x) (hb2 : Below w1.heap.size w1 w2)
    (hown3 : w3.ownsRow base 62 8 (.slice (some ⟨g, 0, none⟩) (ps.length + 1) cap) (ps.length + 1) (ps.flatMap tcell ++ tcell (t, x))) (hgr : w2.grownBy w3 v.ownBlock) (hat : v.ownBlock = some g ∨ g = w2.heap.size) :
    w3.ownsRow base 62 8 (.slice (some ⟨g, 0, none⟩) (ps.length + 1) cap) (ps ++ [(t, x)]).length ((ps ++ [(t, x)]).flatMap tcell) ∧
    (∀ p, p ∈ ps ++ [(t, x)] → TsAt w3 (Beside base (.slice (some ⟨g, 0, none⟩) (ps.length + 1) cap) w3) p.1.ps p.2) ∧ Below base wr w3 := by
  have s1 := hb1.size
  have s2 := hb2.size
  have s3 := hgr.size
  refine ⟨by rw [List.length_append, List.flatMap_append]; simpa using hown3, ?_, ?_⟩
  · intro p hp
    rw [List.mem_append] at hp
    rcases hp with hp | hp
    · refine (hps p hp).congr (fun b ⟨h1, h2, h3⟩ => ⟨h1, by omega, ?_⟩) (fun b ⟨h1, h2, h3⟩ => ?_)
      · intro he
        have he' : g = b := by simpa [Value.ownBlock] using he
        subst he'
        rcases hat with h | h
        · exact h3 h
        · omega
      · rw [hgr.block b (by omega) (fun e => h3 e.symm), hb2.block b (by omega), hb1.block b h2]
    · obtain rfl : p = (t, x) := by simpa using hp
      refine hx.congr (fun b ⟨h1, h2⟩ => ⟨by omega, by omega, ?_⟩) (fun b ⟨h1, h2⟩ => ?_)
      · intro he
        have he' : g = b := by simpa [Value.ownBlock] using he
        subst he'
        rcases hat with h | h
        · have := (ownBlock_lt hown h).2; omega
        · omega
      · rw [hgr.block b (by omega) (fun e => by have := (ownBlock_lt hown e.symm).2; omega), hb2.block b h2]
  · exact ((hb1.mono hbase).trans (hb2.mono (by omega))).grown hgr (by omega) (fun k hk => (ownBlock_lt hown hk).1)

theorem grow_V {wr w1 w2 w3 : World} {base : Nat} {v : Value} {ps : List (Orch.V × Value)} {t : Orch.V} {x : Value} {g cap : Nat}
    (hbase : base ≤ wr.heap.size) (hown : wr.ownsRow base 31 3 v ps.length (ps.flatMap vcell)) (hps : ∀ p, p ∈ ps → VsAt wr (Beside base v wr) p.1.l p.2)
    (hb1 : Below wr.heap.size wr w1) (hx : VsAt w1 (fun b => wr.heap.size ≤ b ∧ b < w1.heap.size) t.l x) (hb2 : Below w1.heap.size w1 w2)
    (hown3 : w3.ownsRow base 31 3 (.slice (some ⟨g, 0, none⟩) (ps.length + 1) cap) (ps.length + 1) (ps.flatMap vcell ++ vcell (t, x))) (hgr : w2.grownBy w3 v.ownBlock) (hat : v.ownBlock = some g ∨ g = w2.heap.size) :
    w3.ownsRow base 31 3 (.slice (some ⟨g, 0, none⟩) (ps.length + 1) cap) (ps ++ [(t, x)]).length ((ps ++ [(t, x)]).flatMap vcell) ∧
    (∀ p, p ∈ ps ++ [(t, x)] → VsAt w3 (Beside base (.slice (some ⟨g, 0, none⟩) (ps.length + 1) cap) w3) p.1.l p.2) ∧ Below base wr w3 := by
  have s1 := hb1.size
  have s2 := hb2.size
  have s3 := hgr.size
  refine ⟨by rw [List.length_append, List.flatMap_append]; simpa using hown3, ?_, ?_⟩
  · intro p hp
    rw [List.mem_append] at hp
    rcases hp with hp | hp
    · refine (hps p hp).congr (fun b ⟨h1, h2, h3⟩ => ⟨h1, by omega, ?_⟩) (fun b ⟨h1, h2, h3⟩ => ?_)
      · intro he
        have he' : g = b := by simpa [Value.ownBlock] using he
        subst he'
        rcases hat with h | h
        · exact h3 h
        · omega
      · rw [hgr.block b (by omega) (fun e => h3 e.symm), hb2.block b (by omega), hb1.block b h2]
    · obtain rfl : p = (t, x) := by simpa using hp
      refine hx.congr (fun b ⟨h1, h2⟩ => ⟨by omega, by omega, ?_⟩) (fun b ⟨h1, h2⟩ => ?_)
      · intro he
        have he' : g = b := by simpa [Value.ownBlock] using he
        subst he'
        rcases hat with h | h
        · have := (ownBlock_lt hown h).2; omega
        · omega
      · rw [hgr.block b (by omega) (fun e => by have := (ownBlock_lt hown e.symm).2; omega), hb2.block b h2]
  · exact ((hb1.mono hbase).trans (hb2.mono (by omega))).grown hgr (by omega) (fun k hk => (ownBlock_lt hown hk).1)

/-- .. at the end. -/
theorem done_T {w : World} {base B : Nat} {v : Value} {ps : List (Orch.Ty × Value)} (hown : w.ownsRow base 62 8 v ps.length (ps.flatMap tcell)) (hps : ∀ p, p ∈ ps → TsAt w (Beside base v w) p.1.ps p.2) (hB : B ≤ base) :
    TsAt w (fun b => B ≤ b ∧ b < w.heap.size) (ps.map Prod.fst) v :=
  TsAt.of_own hown (fun p hp => (hps p hp).congr (fun b ⟨h1, h2, _⟩ => ⟨by omega, h2⟩) (fun _ _ => rfl)) (fun g hg => by have := ownBlock_lt hown hg; exact ⟨by omega, this.2⟩)

theorem done_V {w : World} {base B : Nat} {v : Value} {ps : List (Orch.V × Value)} (hown : w.ownsRow base 31 3 v ps.length (ps.flatMap vcell)) (hps : ∀ p, p ∈ ps → VsAt w (Beside base v w) p.1.l p.2) (hB : B ≤ base) :
    VsAt w (fun b => B ≤ b ∧ b < w.heap.size) (ps.map Prod.fst) v :=
  VsAt.of_own hown (fun p hp => (hps p hp).congr (fun b ⟨h1, h2, _⟩ => ⟨by omega, h2⟩) (fun _ _ => rfl)) (fun g hg => by have := ownBlock_lt hown hg; exact ⟨by omega, this.2⟩)

end Go.Proofs.YtbnoghkijgmcgaaDoor
