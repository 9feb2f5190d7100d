/- The caller's books: a list is kept, whatever its elements are: what is carried along. -/
import Derived.Test.YtlghcldiboecoaaGreatDoorQ03
set_option linter.unusedVariables false
namespace Go.Proofs.YtlghcldiboecoaaGreatDoor
open Go.RowKit

theorem gr_trans {a b c : World} {r : Option Nat} (h1 : a.grownBy b r) (h2 : b.grownBy c r) : a.grownBy c r :=
  ⟨h2.os.trans h1.os, h2.tape.trans h1.tape, h2.output.trans h1.output, Nat.le_trans h1.size h2.size, fun i hi hr => (h2.block i (Nat.lt_of_lt_of_le hi h1.size) hr).trans (h1.block i hi hr)⟩

theorem gr_below {a b : World} {r : Option Nat} (h : Below a.heap.size a b) : a.grownBy b r := ⟨h.os, h.tape, h.output, h.size, fun i hi _ => h.block i hi⟩

/-- A list that reads as written, in a block of its type, among the blocks S. -/
def MfAt (w : World) (S : Nat → Prop) (e : TypeId) (mf : Nat → Value) (v : Value) : Prop :=
  ∃ la ln lc, v = .slice la ln lc ∧ ln ≤ 9223372036854775806 ∧ ln ≤ lc ∧ ∀ i, i < ln → ∃ g cs, la = some ⟨g, 0, none⟩ ∧ S g ∧ w.heap[g]? = some (.cells cs e) ∧ w.cell? ⟨g, i, none⟩ = some (mf i)

def mfs (mf : Nat → Value) (k : Nat) : List Value := (List.range k).map mf
abbrev mfm (mf : Nat → Value) (k m : Nat) : List Value := (List.range m).map fun i => mf (k + i)

variable {w W W' : World} {S S' : Nat → Prop} {e rt kt : TypeId} {mf : Nat → Value} {v u l a b c v' : Value} {base k m N X : Nat}

theorem mfs_len : (mfs mf k).length = k := by simp [mfs]
theorem mfs_get {i : Nat} (h : i < k) : (mfs mf k)[i]? = some (mf i) := by simp [mfs, h]
theorem mfs_add : mfs mf (k + m) = mfs mf k ++ mfm mf k m := by simp [mfs, mfm, List.range_add, Function.comp_def]
theorem set_mfs {i : Nat} {xs : List Value} (hi : i < xs.length) : (mfs mf i ++ xs.drop i).set i (mf i) = mfs mf (i + 1) ++ xs.drop (i + 1) := by
  rw [List.set_append_right _ _ (by rw [mfs_len]; omega), mfs_len, Nat.sub_self, List.drop_eq_getElem_cons hi, List.set_cons_zero, mfs_add]
  simp [mfm]

theorem MfAt.keep (h : MfAt W S e mf v) (hs : ∀ g cs, S g → W.heap[g]? = some (.cells cs e) → W'.heap[g]? = W.heap[g]?) (hSS : ∀ g cs, S g → W.heap[g]? = some (.cells cs e) → S' g) : MfAt W' S' e mf v := by
  obtain ⟨la, ln, lc, hv, h1, h2, h3⟩ := h
  refine ⟨la, ln, lc, hv, h1, h2, fun i hi => ?_⟩
  obtain ⟨g, cs, hg, hB, hc, hce⟩ := h3 i hi
  exact ⟨g, cs, hg, hSS g cs hB hc, (hs g cs hB hc).trans hc, (World.cell?_of_block (w := W) (a := ⟨g, i, none⟩) (hs g cs hB hc)).trans hce⟩

theorem MfAt.nil : MfAt W S e mf (.slice none 0 0) := ⟨none, 0, 0, rfl, by omega, by omega, fun i hi => by omega⟩

theorem mf_of_own (h : w.ownsRow base e 1 v k (mfs mf k)) (hk : k ≤ 9223372036854775806) (hS : ∀ g, v.ownBlock = some g → S g) : MfAt w S e mf v := by
  rcases h.2 with ⟨rfl, rfl⟩ | ⟨g, cap, cur, rfl, hbg, hg, hnc, _⟩
  · exact .nil
  · refine ⟨_, k, cap, rfl, hk, hnc, fun i hi => ⟨g, cur, rfl, hS g rfl, hg, ?_⟩⟩
    have := h.cells rfl i _ (mfs_get hi)
    rw [Addr.add_lit, Nat.zero_add] at this
    exact this

theorem mf_after (hu : MfAt w S e mf u) (hul : ∀ la ln lc, u = .slice la ln lc → ln ≤ k + m) (h : AppRes w W' base e 1 v v' k m (mfs mf k) (mfm mf k m)) : MfAt W' S e mf u := by
  obtain ⟨la, ln, lc, rfl, h1, h2, h3⟩ := hu
  have hle := hul la ln lc rfl
  obtain ⟨ho, _, hcase⟩ := h
  rw [← mfs_add] at ho
  refine ⟨la, ln, lc, rfl, h1, h2, fun i hi => ?_⟩
  obtain ⟨g, cs, hg, hSg, hgt, hc⟩ := h3 i hi
  rcases hcase with ⟨he, hgr⟩ | ⟨_, hb⟩
  · by_cases hgv : v.ownBlock = some g
    · have hgv' : v'.ownBlock = some g := he.trans hgv
      have := ho.cells hgv' i _ (mfs_get (show i < k + m by omega))
      rw [Addr.add_lit, Nat.zero_add] at this
      rcases ho.2 with ⟨hz, _⟩ | ⟨g', cap, cur, hz, _, hg', _⟩
      · rw [hz] at hgv'; cases hgv'
      · rw [hz] at hgv'
        cases hgv'
        exact ⟨_, cur, hg, hSg, hg', this⟩
    · have hs := hgr.block g (ltOf hgt) (fun e => hgv e.symm)
      exact ⟨g, cs, hg, hSg, hs.trans hgt, (World.cell?_of_block (w := w) (a := ⟨g, i, none⟩) hs).trans hc⟩
  · have hs := hb.block g (ltOf hgt)
    exact ⟨g, cs, hg, hSg, hs.trans hgt, (World.cell?_of_block (w := w) (a := ⟨g, i, none⟩) hs).trans hc⟩

/-- A list of at most k. -/
def MfLe (W : World) (S : Nat → Prop) (e : TypeId) (mf : Nat → Value) (k : Nat) (v : Value) : Prop := MfAt W S e mf v ∧ ∀ la ln lc, v = .slice la ln lc → ln ≤ k

theorem MfLe.nil : MfLe W S e mf k (.slice none 0 0) := ⟨.nil, fun la ln lc h => by cases h; omega⟩
theorem MfLe.below (h : MfLe W S e mf k v) (hb : Below W.heap.size W W') : MfLe W' S e mf k v :=
  ⟨h.1.keep (fun g cs _ hg => hb.block g (ltOf hg)) (fun _ _ h _ => h), h.2⟩

/-- What keepBytes and keepBodies carry along: rt: the type of the books' rows. -/
structure Kg (w W : World) (e rt : TypeId) (mf : Nat → Value) (X k N : Nat) (l a b c : Value) : Prop where
  low : w.grownBy W l.ownBlock
  blk : W.heap[X]? = some (.cells #[l, a, b, c, .int .i64 N] rt)
  hX : w.heap.size ≤ X
  row : W.ownsRow 0 e 1 l k (mfs mf k)
  ma : MfLe W (fun g => l.ownBlock = some g ∨ w.heap.size ≤ g) e mf (k + 1) a
  mb : MfLe W (fun g => l.ownBlock = some g ∨ w.heap.size ≤ g) e mf (k + 2) b
  mc : MfLe W (fun g => l.ownBlock = some g ∨ w.heap.size ≤ g) e mf (k + 3) c
  ne : l.ownBlock ≠ some X
  et : e ≠ rt

theorem Kg.after (h : Kg w W e rt mf X k N l a b c) (hb : Below W.heap.size W W') : Kg w W' e rt mf X k N l a b c :=
  ⟨gr_trans h.low (gr_below hb), (hb.block _ (ltOf h.blk)).trans h.blk, h.hX, ownsRow_below h.row hb, h.ma.below hb, h.mb.below hb, h.mc.below hb, h.ne, h.et⟩

theorem Kg.append (h : Kg w W e rt mf X k N l a b c) (hr : AppRes W W' 0 e 1 l v' k m (mfs mf k) (mfm mf k m)) (hk : k + m ≤ 9223372036854775806)
    (h1 : ∀ la ln lc, a = .slice la ln lc → ln ≤ k + m) (h2 : ∀ la ln lc, b = .slice la ln lc → ln ≤ k + m) (h3 : ∀ la ln lc, c = .slice la ln lc → ln ≤ k + m) :
    Kg w W' e rt mf X k N l a b c ∧ MfLe W' (fun g => l.ownBlock = some g ∨ w.heap.size ≤ g) e mf (k + m) v' := by
  have hlow : W.grownBy W' l.ownBlock := by
    rcases hr.2.2 with ⟨_, hg⟩ | ⟨_, hb⟩
    · exact hg
    · exact gr_below hb
  refine ⟨⟨gr_trans h.low hlow, (hlow.block X (ltOf h.blk) h.ne.symm).trans h.blk, h.hX, hr.2.1, ⟨mf_after h.ma.1 h1 hr, h.ma.2⟩, ⟨mf_after h.mb.1 h2 hr, h.mb.2⟩, ⟨mf_after h.mc.1 h3 hr, h.mc.2⟩, h.ne, h.et⟩, ?_, ?_⟩
  · have ho := hr.1
    rw [← mfs_add] at ho
    refine mf_of_own ho (by omega) (fun g hg => ?_)
    rcases hr.2.2 with ⟨he, _⟩ | ⟨he, _⟩
    · exact .inl (he.symm.trans hg)
    · rw [he] at hg
      cases hg
      exact .inr h.low.size
  · intro la ln lc hv
    rcases hr.1.2 with ⟨h0, hn⟩ | ⟨g, cap, cur, h0, _⟩
    · rw [hv] at h0; cases h0; omega
    · rw [hv] at h0; cases h0; omega

theorem MfLe.set {j : Nat} {cs : Array Value} {t : TypeId} (h : MfLe W S e mf k u) (hx : W.heap[X]? = some (.cells cs t)) (ht : e ≠ t) (z : Value) : MfLe (W.setCell ⟨X, j, none⟩ z) S e mf k u :=
  ⟨h.1.keep (fun g cs _ hg => heap_setCell_other _ _ _ _ (fun h => by subst h; rw [hx] at hg; cases hg; exact ht rfl)) (fun _ _ h _ => h), h.2⟩

theorem gr_setX {j : Nat} {r : Option Nat} (hX : w.heap.size ≤ X) (h : w.grownBy W r) (z : Value) : w.grownBy (W.setCell ⟨X, j, none⟩ z) r :=
  ⟨h.os, h.tape, h.output, by simpa using h.size, fun i hi hr => (heap_setCell_other _ _ _ _ (by show i ≠ X; omega)).trans (h.block i hi hr)⟩

theorem own_setZ {j n : Nat} {e : TypeId} {size : Nat} {xs : List Value} (h : W.ownsRow base e size l n xs) (hne : l.ownBlock ≠ some X) (z : Value) : (W.setCell ⟨X, j, none⟩ z).ownsRow base e size l n xs :=
  h.kept (row := some X) ⟨rfl, rfl, rfl, by simp, fun i _ hi => heap_setCell_other _ _ _ _ (fun e => hi (by rw [e]))⟩ (.inr hne)

theorem own_shapeZ {base n : Nat} {e : TypeId} {size : Nat} {v : Value} {xs : List Value} (h : w.ownsRow base e size v n xs) : ∃ a c, v = .slice a n c := by
  rcases h.2 with ⟨e, h0⟩ | ⟨g, cap, cur, e, _⟩
  · exact ⟨none, 0, by rw [e, h0]⟩
  · exact ⟨_, _, e⟩

theorem Kg.store1 (h : Kg w W e rt mf X k N l a b c) (hu : MfLe W (fun g => l.ownBlock = some g ∨ w.heap.size ≤ g) e mf (k + 1) u) : Kg w (W.setCell ⟨X, 1, none⟩ u) e rt mf X k N l u b c :=
  ⟨gr_setX h.hX h.low u, heap_setCell_same W X 1 _ rt u h.blk, h.hX, own_setZ h.row h.ne u, hu.set h.blk h.et u, h.mb.set h.blk h.et u, h.mc.set h.blk h.et u, h.ne, h.et⟩

theorem Kg.store2 (h : Kg w W e rt mf X k N l a b c) (hu : MfLe W (fun g => l.ownBlock = some g ∨ w.heap.size ≤ g) e mf (k + 2) u) : Kg w (W.setCell ⟨X, 2, none⟩ u) e rt mf X k N l a u c :=
  ⟨gr_setX h.hX h.low u, heap_setCell_same W X 2 _ rt u h.blk, h.hX, own_setZ h.row h.ne u, h.ma.set h.blk h.et u, hu.set h.blk h.et u, h.mc.set h.blk h.et u, h.ne, h.et⟩

theorem Kg.store3 (h : Kg w W e rt mf X k N l a b c) (hu : MfLe W (fun g => l.ownBlock = some g ∨ w.heap.size ≤ g) e mf (k + 3) u) : Kg w (W.setCell ⟨X, 3, none⟩ u) e rt mf X k N l a b u :=
  ⟨gr_setX h.hX h.low u, heap_setCell_same W X 3 _ rt u h.blk, h.hX, own_setZ h.row h.ne u, h.ma.set h.blk h.et u, h.mb.set h.blk h.et u, hu.set h.blk h.et u, h.ne, h.et⟩

/-- What a kept list leaves. -/
structure KgRes (w w' : World) (K o : Nat) (cs : Array Value) (kt e rt : TypeId) (mf : Nat → Value) (B : Nat) (ba : Option Addr) (N bc : Nat) (flat : List Value) (lv : Value) (ba' : Option Addr) (bc' : Nat) (l a b c : Value) : Prop where
  kb : w'.heap[K]? = some (.cells (cs.setIfInBounds o (.slice ba' (N + 1) bc')) kt)
  row : w'.ownsRow B rt 5 (.slice ba' (N + 1) bc') (N + 1) (flat ++ [l, a, b, c, .int .i64 N])
  ml : MfAt w' (fun g => lv.ownBlock = some g ∨ w.heap.size ≤ g) e mf l
  ma : MfAt w' (fun g => lv.ownBlock = some g ∨ w.heap.size ≤ g) e mf a
  mb : MfAt w' (fun g => lv.ownBlock = some g ∨ w.heap.size ≤ g) e mf b
  mc : MfAt w' (fun g => lv.ownBlock = some g ∨ w.heap.size ≤ g) e mf c
  at' : (Value.slice ba' (N + 1) bc').ownBlock = (Value.slice ba N bc).ownBlock ∨ ∃ g, (Value.slice ba' (N + 1) bc').ownBlock = some g ∧ w.heap.size ≤ g
  os : w'.os = w.os
  tape : w'.tape = w.tape
  output : w'.output = w.output
  size : w.heap.size ≤ w'.heap.size
  same : ∀ i, i < w.heap.size → i ≠ K → (Value.slice ba N bc).ownBlock ≠ some i → lv.ownBlock ≠ some i → w'.heap[i]? = w.heap[i]?

theorem own_type {n size : Nat} {xs : List Value} {g : Nat} (h : w.ownsRow base e size v n xs) (hg : v.ownBlock = some g) : ∃ cs, w.heap[g]? = some (.cells cs e) := by
  rcases h.2 with ⟨hz, _⟩ | ⟨g', cap, cur, hz, _, hg', _⟩
  · rw [hz] at hg; cases hg
  · rw [hz] at hg; cases hg; exact ⟨cur, hg'⟩

set_option maxHeartbeats 1000000 in
theorem kg_end {w5 : World} {K o B bc g cap : Nat} {cs : Array Value} {ba : Option Addr} {flat : List Value}
    (KP : Kg w W e rt mf X k N l a b c) (hk : k ≤ 1000000000000) (hKB : w.heap[K]? = some (.cells cs kt)) (hek : e ≠ kt) (hrk : rt ≠ kt)
    (hrow : w.ownsRow B rt 5 (.slice ba N bc) N flat) (hown : w5.ownsRow B rt 5 (.slice (some ⟨g, 0, none⟩) (N + 1) cap) (N + 1) (flat ++ [l, a, b, c, .int .i64 N]))
    (hgrow : W.drew.grownBy w5 (Value.slice ba N bc).ownBlock) (hat : (Value.slice ba N bc).ownBlock = some g ∨ g = W.drew.heap.size) (hl0 : ∃ xs, w.ownsRow 0 e 1 l k xs) :
    KgRes w (w5.setCell ⟨K, o, none⟩ (.slice (some ⟨g, 0, none⟩) (N + 1) cap)) K o cs kt e rt mf B ba N bc flat l (some ⟨g, 0, none⟩) cap l a b c := by
  obtain ⟨xs0, hl0⟩ := hl0
  have hl : l.ownBlock ≠ some K := fun h => by
    obtain ⟨cs', h'⟩ := own_type hl0 h
    rw [hKB] at h'
    cases h'
    exact hek rfl
  have hW : W.heap.size ≤ w5.heap.size := hgrow.size
  have hwW := KP.low.size
  have hKW : W.heap[K]? = some (.cells cs kt) := (KP.low.block K (ltOf hKB) (fun h => hl h.symm)).trans hKB
  have hrK : (Value.slice ba N bc).ownBlock ≠ some K := fun h => by
    obtain ⟨cs', h'⟩ := own_type hrow h
    rw [hKB] at h'
    cases h'
    exact hrk rfl
  have hK5 : w5.heap[K]? = some (.cells cs kt) := (hgrow.block K (ltOf hKW) (fun e => hrK e.symm)).trans hKW
  have hgt : ∃ cs, w5.heap[g]? = some (.cells cs rt) := own_type hown rfl
  have hgK : g ≠ K := fun h => by
    obtain ⟨cs', h'⟩ := hgt
    rw [h, hK5] at h'
    cases h'
    exact hrk rfl
  have hother : ∀ i, i ≠ K → (w5.setCell ⟨K, o, none⟩ (.slice (some ⟨g, 0, none⟩) (N + 1) cap)).heap[i]? = w5.heap[i]? := fun i hi => heap_setCell_other _ _ _ _ hi
  have hlr : ∀ i, (Value.slice ba N bc).ownBlock = some i → l.ownBlock ≠ some i := fun i h1 h2 => by
    obtain ⟨c1, t1⟩ := own_type hrow h1
    obtain ⟨c2, t2⟩ := own_type hl0 h2
    rw [t1] at t2
    cases t2
    exact KP.et rfl
  have hrt : ∀ i, (Value.slice ba N bc).ownBlock = some i → ∃ cs, W.heap[i]? = some (.cells cs rt) := fun i h1 => by
    obtain ⟨c1, t1⟩ := own_type hrow h1
    exact ⟨c1, (KP.low.block i (ltOf t1) (fun h => hlr i h1 h.symm)).trans t1⟩
  have hmk : ∀ v, MfAt W (fun g => l.ownBlock = some g ∨ w.heap.size ≤ g) e mf v → MfAt (w5.setCell ⟨K, o, none⟩ (.slice (some ⟨g, 0, none⟩) (N + 1) cap)) (fun g => l.ownBlock = some g ∨ w.heap.size ≤ g) e mf v := fun v hv =>
    hv.keep (fun i cs' _ hi => by
      have h1 : i ≠ K := fun h => by rw [h, hKW] at hi; cases hi; exact hek rfl
      rw [hother i h1]
      refine hgrow.block i (ltOf hi) (fun h => ?_)
      obtain ⟨c1, t1⟩ := hrt i h.symm
      rw [t1] at hi
      cases hi
      exact KP.et rfl) (fun _ _ h _ => h)
  have h5 : (w5.setCell ⟨K, o, none⟩ (.slice (some ⟨g, 0, none⟩) (N + 1) cap)).heap.size = w5.heap.size := by simp
  refine ⟨heap_setCell_same w5 K o _ kt _ hK5, ?_, hmk l (mf_of_own KP.row (by omega) (fun g h => .inl h)), hmk a KP.ma.1, hmk b KP.mb.1, hmk c KP.mc.1, ?_, hgrow.os.trans KP.low.os, hgrow.tape.trans KP.low.tape, hgrow.output.trans KP.low.output, by omega, fun i hi hiK hir hil => ?_⟩
  · exact own_setZ hown (by simp [Value.ownBlock, hgK]) _
  · rcases hat with h | h
    · exact .inl h.symm
    · exact .inr ⟨g, rfl, by have : g = W.heap.size := h; omega⟩
  · rw [hother i hiK]
    exact (hgrow.block i (by show i < W.heap.size; omega) (fun e => hir e.symm)).trans (KP.low.block i hi (fun e => hil e.symm))

end Go.Proofs.YtlghcldiboecoaaGreatDoor
