/- Walks of the maker's small calls. -/
import Derived.Test.YtlghcldiboecoaaDoorTake
set_option linter.unusedVariables false
namespace Go.Proofs.YtlghcldiboecoaaDoor
open Go.RowKit

theorem pick_any (w : World) (c : Int) (n : Nat) (h0 : -9223372036854775808 ≤ c) (h1 : c ≤ 9223372036854775807) (hn : 0 < n) (hn' : n ≤ 4294967296) :
    Calls Tryd.prog 11 #[.int .i64 c, .int .i64 n] w fun e w' => (∃ z : Nat, z < n ∧ e = .returned (.int .i64 z)) ∧ w' = w := by
  have hz : (n : Int) ≠ 0 := by omega
  by_cases hc : c < 0
  · obtain ⟨d, rfl⟩ : ∃ d : Nat, c = -(d + 1 : Int) := ⟨(-(c + 1)).toNat, by omega⟩
    have HZ : Hid (-((-(d + 1 : Int) + 1).tmod n) = ((d % n : Nat) : Int)) := by
      show -((-(d + 1 : Int) + 1).tmod n) = ((d % n : Nat) : Int)
      rw [show (-(d + 1 : Int) + 1) = -(d : Int) by omega, Int.neg_tmod, Int.neg_neg]
      exact (Int.ofNat_tmod d n).symm
    go_enter Tryd.func11, Tryd.ntmps11
    go_wp2
    go_ret
    exact ⟨⟨d % n, Nat.mod_lt _ hn, ret_int HZ.out⟩, rfl⟩
  · obtain ⟨d, rfl⟩ : ∃ d : Nat, c = d := ⟨c.toNat, by omega⟩
    go_enter Tryd.func11, Tryd.ntmps11
    go_wp2
    go_ret
    exact ⟨⟨d % n, Nat.mod_lt _ hn, ret_int (by omega)⟩, rfl⟩

theorem cut_any (w : World) (s : ByteArray) (hs : s.size ≤ 9223372036854775807) :
    Calls Tryd.prog 23 #[.string s, .int .i64 40] w fun e w' => (∃ t : ByteArray, t.size ≤ 40 ∧ e = .returned (.string t)) ∧ w' = w := by
  by_cases h : 40 < s.size
  · have hz : (40 : Int) < s.size := by omega
    go_enter Tryd.func23, Tryd.ntmps23
    go_wp2
    all_goals go_ret
    exact ⟨⟨s.extract 0 40, by rw [ByteArray.size_extract]; omega, rfl⟩, rfl⟩
  · have hz : ¬ (40 : Int) < s.size := by omega
    go_enter Tryd.func23, Tryd.ntmps23
    go_wp2
    all_goals go_ret
    exact ⟨⟨s, by omega, rfl⟩, rfl⟩

/-- Nothing below B has changed but what lies in block M. -/
structure Keeps (M B : Nat) (w w' : World) : Prop where
  os : w'.os = w.os
  tape : w'.tape = w.tape
  output : w'.output = w.output
  size : w.heap.size ≤ w'.heap.size
  block : ∀ k, k < B → k ≠ M → w'.heap[k]? = w.heap[k]?

theorem Keeps.refl (M B : Nat) (w : World) : Keeps M B w w := ⟨rfl, rfl, rfl, Nat.le_refl _, fun _ _ _ => rfl⟩
theorem Keeps.trans {M B : Nat} {a b c : World} (h : Keeps M B a b) (k : Keeps M B b c) : Keeps M B a c :=
  ⟨k.os.trans h.os, k.tape.trans h.tape, k.output.trans h.output, Nat.le_trans h.size k.size, fun i hi hm => (k.block i hi hm).trans (h.block i hi hm)⟩
theorem Keeps.mono {M B B' : Nat} {a b : World} (h : Keeps M B a b) (hB : B' ≤ B) : Keeps M B' a b := ⟨h.os, h.tape, h.output, h.size, fun i hi hm => h.block i (by omega) hm⟩
theorem Keeps.of {M B : Nat} {a b : World} (h : Below B a b) : Keeps M B a b := ⟨h.os, h.tape, h.output, h.size, fun i hi _ => h.block i hi⟩
theorem Keeps.below {M B : Nat} {a b : World} (h : Keeps M B a b) (hM : M ≤ B) : Below M a b := ⟨h.os, h.tape, h.output, h.size, fun i hi => h.block i (by omega) (by omega)⟩
theorem Keeps.drew {M B : Nat} {a b : World} (h : Keeps M B a b) : Keeps M B a b.drew := h.trans (.of (below_drew b))
theorem Keeps.alloc {M B : Nat} {a b : World} (h : Keeps M B a b) (hB : B ≤ b.heap.size) (o : Obj) : Keeps M B a (b.alloc o) := h.trans (.of ((Below.refl _ _).alloc hB o))

/-- The maker lies in block M: its tape, where it is in it, what is left. -/
abbrev mkCells (N S : Value) (n s x y : Int) : Array Value := #[N, S, .int .i64 n, .int .i64 s, .int .i64 x, .int .i64 y]
def MkAt (w : World) (M : Nat) (N S : Value) (n s x y : Int) : Prop := w.heap[M]? = some (.cells (mkCells N S n s x y) 28)

/-- The numbers of the tape lie below block M. -/
def Ints (w : World) (M : Nat) (v : Value) : Prop :=
  (∃ a c, v = .slice a 0 c) ∨ ∃ b off len cap, v = .slice (some ⟨b, off, none⟩) len cap ∧ 0 < len ∧ len ≤ 9223372036854775807 ∧ b < M ∧ ∀ i, i < len → ∃ z : Int, w.cell? ⟨b, off + i, none⟩ = some (.int .i64 z) ∧ -9223372036854775808 ≤ z ∧ z ≤ 9223372036854775807

theorem keeps_set (M B j : Nat) (w : World) (v : Value) : Keeps M B w (w.setCell ⟨M, j, none⟩ v) :=
  ⟨rfl, rfl, rfl, by simp [World.setCell], fun k _ hm => heap_setCell_other w ⟨M, j, none⟩ k v hm⟩

theorem MkAt.set {w : World} {M : Nat} {N S : Value} {n s x y : Int} (h : MkAt w M N S n s x y) (j : Nat) (v : Value) : (w.setCell ⟨M, j, none⟩ v).heap[M]? = some (.cells ((mkCells N S n s x y).setIfInBounds j v) 28) :=
  heap_setCell_same w M j _ 28 v h

set_option maxHeartbeats 1000000 in
theorem number_any (w : World) (M : Nat) (N S : Value) (n : Nat) (s x y : Int) (hM : MkAt w M N S n s x y) (hN : Ints w M N) (hn : n ≤ 1000000000) :
    Calls Tryd.prog 16 #[.pointer (some ⟨M, 0, none⟩)] w fun e w' => (∃ (z : Int) (n' : Nat), e = .returned (.int .i64 z) ∧ -9223372036854775808 ≤ z ∧ z ≤ 9223372036854775807 ∧ n' ≤ n + 1 ∧ MkAt w' M N S n' s x y) ∧ Keeps M w.heap.size w w' := by
  have c0 := cellOf (j := 0) hM rfl
  have c2 := cellOf (j := 2) hM rfl
  have f2 := frozenOf (j := 2) hM
  rcases hN with ⟨a, c, rfl⟩ | ⟨b, off, len, cap, rfl, hlen, hlen', hb, hz⟩
  · go_enter Tryd.func16, Tryd.ntmps16
    go_wp2
    go_ret
    exact ⟨⟨0, n, rfl, by omega, by omega, by omega, hM⟩, Keeps.refl _ _ _⟩
  · obtain ⟨z, hc, hz0, hz1⟩ := hz (n % len) (Nat.mod_lt _ hlen)
    have hl0 : ¬ (len : Int) = 0 := by omega
    have hml : n % len < len := Nat.mod_lt _ hlen
    have HM : Hid (MkAt w M (.slice (some ⟨b, off, none⟩) len cap) S n s x y) := hM
    have HC : Hid (w.cell? ⟨b, off + n % len, none⟩ = some (.int .i64 z)) := hc
    clear hz hM hc
    go_enter Tryd.func16, Tryd.ntmps16
    go_wp2_with fail
    refine wp_gen (fun W => MkAt W M (.slice (some ⟨b, off, none⟩) len cap) S (n + 1 : Nat) s x y ∧ W.cell? ⟨b, off + n % len, none⟩ = some (.int .i64 z) ∧ Keeps M w.heap.size w W) ?_ ?_
    · refine ⟨(HM.out.set 2 _).trans ?_, ?_, keeps_set _ _ _ _ _⟩
      · rfl
      · exact (World.cell?_of_block (w := w) (a := ⟨b, off + n % len, none⟩) (heap_setCell_other w ⟨M, 2, none⟩ b _ (Nat.ne_of_lt hb))).trans HC.out
    · rintro W ⟨hM', hc', hK⟩
      have c0 := cellOf (j := 0) hM' rfl
      have c2 := cellOf (j := 2) hM' rfl
      have HM' : Hid (MkAt W M (.slice (some ⟨b, off, none⟩) len cap) S (n + 1 : Nat) s x y) := hM'
      have HK : Hid (Keeps M w.heap.size w W) := hK
      clear hM' hK
      clear f2 HM HC
      go_region
      go_wp2
      go_ret
      exact ⟨⟨z, n + 1, rfl, hz0, hz1, Nat.le_refl _, HM'.out⟩, HK.out.drew⟩
/-- The texts of the tape lie below block M. -/
def Strs (w : World) (M : Nat) (v : Value) : Prop :=
  (∃ a c, v = .slice a 0 c) ∨ ∃ b off len cap, v = .slice (some ⟨b, off, none⟩) len cap ∧ 0 < len ∧ len ≤ 9223372036854775807 ∧ b < M ∧ ∀ i, i < len → ∃ z : ByteArray, w.cell? ⟨b, off + i, none⟩ = some (.string z) ∧ z.size ≤ 9223372036854775807

theorem Ints.keeps {M B : Nat} {w w' : World} {v : Value} (h : Ints w M v) (hk : Keeps M B w w') (hB : M ≤ B) : Ints w' M v := by
  rcases h with h | ⟨b, off, len, cap, e, h0, h1, h2, h3⟩
  · exact .inl h
  · refine .inr ⟨b, off, len, cap, e, h0, h1, h2, fun i hi => ?_⟩
    obtain ⟨z, hz, hz'⟩ := h3 i hi
    exact ⟨z, (World.cell?_of_block (w := w) (a := ⟨b, off + i, none⟩) (hk.block b (by omega) (by omega))).trans hz, hz'⟩
theorem Strs.keeps {M B : Nat} {w w' : World} {v : Value} (h : Strs w M v) (hk : Keeps M B w w') (hB : M ≤ B) : Strs w' M v := by
  rcases h with h | ⟨b, off, len, cap, e, h0, h1, h2, h3⟩
  · exact .inl h
  · refine .inr ⟨b, off, len, cap, e, h0, h1, h2, fun i hi => ?_⟩
    obtain ⟨z, hz, hz'⟩ := h3 i hi
    exact ⟨z, (World.cell?_of_block (w := w) (a := ⟨b, off + i, none⟩) (hk.block b (by omega) (by omega))).trans hz, hz'⟩

set_option maxHeartbeats 1000000 in
theorem text_any (w : World) (M : Nat) (N S : Value) (n : Int) (s : Nat) (x y : Int) (hM : MkAt w M N S n s x y) (hS : Strs w M S) (hs : s ≤ 1000000000) :
    Calls Tryd.prog 30 #[.pointer (some ⟨M, 0, none⟩)] w fun e w' => (∃ (z : ByteArray) (s' : Nat), e = .returned (.string z) ∧ z.size ≤ 9223372036854775807 ∧ s' ≤ s + 1 ∧ MkAt w' M N S n s' x y) ∧ Keeps M w.heap.size w w' := by
  have c0 := cellOf (j := 1) hM rfl
  have c2 := cellOf (j := 3) hM rfl
  have f2 := frozenOf (j := 3) hM
  rcases hS with ⟨a, c, rfl⟩ | ⟨b, off, len, cap, rfl, hlen, hlen', hb, hz⟩
  · go_enter Tryd.func30, Tryd.ntmps30
    go_wp2
    go_ret
    exact ⟨⟨⟨#[]⟩, s, rfl, by decide, by omega, hM⟩, Keeps.refl _ _ _⟩
  · obtain ⟨z, hc, hz0⟩ := hz (s % len) (Nat.mod_lt _ hlen)
    have hl0 : ¬ (len : Int) = 0 := by omega
    have hml : s % len < len := Nat.mod_lt _ hlen
    have HM : Hid (MkAt w M N (.slice (some ⟨b, off, none⟩) len cap) n s x y) := hM
    have HC : Hid (w.cell? ⟨b, off + s % len, none⟩ = some (.string z)) := hc
    clear hz hM hc
    go_enter Tryd.func30, Tryd.ntmps30
    go_wp2_with fail
    refine wp_gen (fun W => MkAt W M N (.slice (some ⟨b, off, none⟩) len cap) n (s + 1 : Nat) x y ∧ W.cell? ⟨b, off + s % len, none⟩ = some (.string z) ∧ Keeps M w.heap.size w W) ?_ ?_
    · refine ⟨(HM.out.set 3 _).trans ?_, ?_, keeps_set _ _ _ _ _⟩
      · rfl
      · exact (World.cell?_of_block (w := w) (a := ⟨b, off + s % len, none⟩) (heap_setCell_other w ⟨M, 3, none⟩ b _ (Nat.ne_of_lt hb))).trans HC.out
    · rintro W ⟨hM', hc', hK⟩
      have c0 := cellOf (j := 1) hM' rfl
      have c2 := cellOf (j := 3) hM' rfl
      have HM' : Hid (MkAt W M N (.slice (some ⟨b, off, none⟩) len cap) n (s + 1 : Nat) x y) := hM'
      have HK : Hid (Keeps M w.heap.size w W) := hK
      clear hM' hK
      clear f2 HM HC
      go_region
      go_wp2
      go_ret
      exact ⟨⟨z, s + 1, rfl, hz0, Nat.le_refl _, HM'.out⟩, HK.out.drew⟩
end Go.Proofs.YtlghcldiboecoaaDoor
