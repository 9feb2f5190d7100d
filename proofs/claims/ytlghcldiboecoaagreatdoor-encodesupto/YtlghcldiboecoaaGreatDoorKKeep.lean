/- The caller's books: a list of bytes is kept. -/
import Derived.Test.YtlghcldiboecoaaGreatDoorKApp
set_option linter.unusedVariables false
namespace Go.Proofs.YtlghcldiboecoaaGreatDoor
open Go.RowKit

/-- A list of at most k bytes that reads as marked. -/
def MkLe (W : World) (N k : Nat) (v : Value) : Prop := MkAt W W.heap.size N v ∧ ∀ la ln lc, v = .slice la ln lc → ln ≤ k

/-- What keepBytes carries along. -/
structure Kp (w W : World) (C X k N : Nat) (l a b c : Value) : Prop where
  low : Below C w W
  blk : W.heap[X]? = some (.cells #[l, a, b, c, .int .i64 N] 120)
  row : W.ownsRow C 5 1 l k (marks N k)
  ma : MkLe W N (k + 1) a
  mb : MkLe W N (k + 2) b
  mc : MkLe W N (k + 3) c
  ne : l.ownBlock ≠ some X
  hC : C ≤ w.heap.size

theorem MkLe.nil (W : World) (N k : Nat) : MkLe W N k (.slice none 0 0) := ⟨⟨none, 0, 0, rfl, by omega, by omega, fun i hi => by omega⟩, fun la ln lc h => by cases h; omega⟩

theorem MkLe.below {W W' : World} {N k : Nat} {v : Value} (h : MkLe W N k v) (hb : Below W.heap.size W W') : MkLe W' N k v := by
  refine ⟨?_, h.2⟩
  obtain ⟨la, ln, lc, hv, h1, h2, h3⟩ := h.1
  refine ⟨la, ln, lc, hv, h1, h2, fun i hi => ?_⟩
  obtain ⟨g, hg, hB, hc⟩ := h3 i hi
  exact ⟨g, hg, Nat.lt_of_lt_of_le hB hb.size, (hb.cell (p := ⟨g, i, none⟩) hB).trans hc⟩

theorem Kp.after {w W W' : World} {C X k N : Nat} {l a b c : Value} (h : Kp w W C X k N l a b c) (hb : Below W.heap.size W W') : Kp w W' C X k N l a b c :=
  ⟨h.low.trans (hb.mono (Nat.le_trans h.hC h.low.size)), (hb.block _ (ltOf h.blk)).trans h.blk, ownsRow_below h.row hb, h.ma.below hb, h.mb.below hb, h.mc.below hb, h.ne, h.hC⟩

/-- The marks that an append adds. -/
abbrev more (N k m : Nat) : List Value := (List.range m).map (fun i => Value.int .u8 (mark N (k + i)).toNat)

theorem Kp.append {w W W' : World} {C X k N m : Nat} {l a b c v' : Value} (h : Kp w W C X k N l a b c) (hr : AppRes W W' C 5 1 l v' k m (marks N k) (more N k m)) (hk : k + m ≤ 9223372036854775806)
    (h1 : ∀ la ln lc, a = .slice la ln lc → ln ≤ k + m) (h2 : ∀ la ln lc, b = .slice la ln lc → ln ≤ k + m) (h3 : ∀ la ln lc, c = .slice la ln lc → ln ≤ k + m) :
    Kp w W' C X k N l a b c ∧ MkLe W' N (k + m) v' := by
  have hsz : W.heap.size ≤ W'.heap.size := by
    rcases hr.2.2 with ⟨_, hg⟩ | ⟨_, hb⟩
    · exact hg.size
    · exact hb.size
  have hlow : Below C W W' := by
    rcases hr.2.2 with ⟨_, hg⟩ | ⟨_, hb⟩
    · exact ⟨hg.os, hg.tape, hg.output, hg.size, fun i hi => hg.block i (Nat.lt_of_lt_of_le hi (Nat.le_trans h.hC h.low.size)) (fun e => by have := (h.row.lt i e.symm).1; omega)⟩
    · exact hb.mono (Nat.le_trans h.hC h.low.size)
  have hblk : W'.heap[X]? = some (.cells #[l, a, b, c, .int .i64 N] 120) := by
    rcases hr.2.2 with ⟨_, hg⟩ | ⟨_, hb⟩
    · exact (hg.block X (ltOf h.blk) (fun e => h.ne e.symm)).trans h.blk
    · exact (hb.block X (ltOf h.blk)).trans h.blk
  refine ⟨⟨h.low.trans hlow, hblk, hr.2.1, ⟨mk_after h.ma.1 h1 hr, h.ma.2⟩, ⟨mk_after h.mb.1 h2 hr, h.mb.2⟩, ⟨mk_after h.mc.1 h3 hr, h.mc.2⟩, h.ne, h.hC⟩, ?_, ?_⟩
  · have ho := hr.1
    rw [← marks_add] at ho
    exact mk_of_own ho hk
  · intro la ln lc hv
    have ho := hr.1
    rcases ho.2 with ⟨h0, hn⟩ | ⟨g, cap, cur, h0, _⟩
    · rw [hv] at h0; cases h0; omega
    · rw [hv] at h0; cases h0; omega

theorem MkLe.set {W : World} {N k X j : Nat} {v u : Value} {xa : Option Addr} {xn xc : Nat} {r : List Value} (h : MkLe W N k v) (hx : W.heap[X]? = some (.cells (Value.slice xa xn xc :: r).toArray 120)) : MkLe (W.setCell ⟨X, j, none⟩ u) N k v := by
  refine ⟨?_, h.2⟩
  obtain ⟨la, ln, lc, hv, h1, h2, h3⟩ := h.1
  refine ⟨la, ln, lc, hv, h1, h2, fun i hi => ?_⟩
  obtain ⟨g, hg, hB, hc⟩ := h3 i hi
  have hne : g ≠ X := by
    intro e
    subst e
    obtain ⟨g', hg', _, hc'⟩ := h3 0 (by omega)
    rw [hg] at hg'
    cases hg'
    have h0 := cellOf (j := 0) hx rfl
    rw [h0] at hc'
    cases hc'
  refine ⟨g, hg, by simpa using hB, ?_⟩
  rw [← hc]
  unfold World.cell?
  rw [heap_setCell_other _ _ _ _ hne]

theorem below_setX {W : World} {C X j : Nat} {u : Value} (hX : C ≤ X) : Below C W (W.setCell ⟨X, j, none⟩ u) :=
  ⟨rfl, rfl, rfl, by simp, fun i hi => heap_setCell_other _ _ _ _ (by show i ≠ X; omega)⟩

theorem own_setX {W : World} {C X j k : Nat} {u l : Value} {xs : List Value} (h : W.ownsRow C 5 1 l k xs) (hne : l.ownBlock ≠ some X) : (W.setCell ⟨X, j, none⟩ u).ownsRow C 5 1 l k xs :=
  h.kept (row := some X) ⟨rfl, rfl, rfl, by simp, fun i _ hi => heap_setCell_other _ _ _ _ (fun e => hi (by rw [e]))⟩ (.inr hne)

theorem Kp.store1 {w W : World} {C X k N : Nat} {l a b c u : Value} (h : Kp w W C X k N l a b c) (hX : C ≤ X) (hu : MkLe W N (k + 1) u) : Kp w (W.setCell ⟨X, 1, none⟩ u) C X k N l u b c := by
  obtain ⟨la, lc, rfl⟩ := own_shape h.row
  exact ⟨h.low.trans (below_setX hX), heap_setCell_same W X 1 _ 120 u h.blk, own_setX h.row h.ne, hu.set h.blk, h.mb.set h.blk, h.mc.set h.blk, h.ne, h.hC⟩

theorem Kp.store2 {w W : World} {C X k N : Nat} {l a b c u : Value} (h : Kp w W C X k N l a b c) (hX : C ≤ X) (hu : MkLe W N (k + 2) u) : Kp w (W.setCell ⟨X, 2, none⟩ u) C X k N l a u c := by
  obtain ⟨la, lc, rfl⟩ := own_shape h.row
  exact ⟨h.low.trans (below_setX hX), heap_setCell_same W X 2 _ 120 u h.blk, own_setX h.row h.ne, h.ma.set h.blk, hu.set h.blk, h.mc.set h.blk, h.ne, h.hC⟩

theorem Kp.store3 {w W : World} {C X k N : Nat} {l a b c u : Value} (h : Kp w W C X k N l a b c) (hX : C ≤ X) (hu : MkLe W N (k + 3) u) : Kp w (W.setCell ⟨X, 3, none⟩ u) C X k N l a b u := by
  obtain ⟨la, lc, rfl⟩ := own_shape h.row
  exact ⟨h.low.trans (below_setX hX), heap_setCell_same W X 3 _ 120 u h.blk, own_setX h.row h.ne, h.ma.set h.blk, h.mb.set h.blk, hu.set h.blk, h.ne, h.hC⟩
end Go.Proofs.YtlghcldiboecoaaGreatDoor
