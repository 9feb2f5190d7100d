/- The caller's books: a list of values is kept: what is carried along. -/
import Derived.Test.YtlghcldiboecoaaGreatDoorDBook
import Derived.Deep.RegionLaw
set_option linter.unusedVariables false
namespace Go.Proofs.YtlghcldiboecoaaGreatDoor
open Go.RowKit

theorem Tryz.info127 : (Tryz.prog.info? 127).map (fun i => (i.zero, i.size, i.bytes)) = some (some (.agg #[.slice none 0 0, .slice none 0 0, .slice none 0 0, .slice none 0 0, .int .i64 0]), 5, 104) := by kernel_rfl

theorem grown_trans {a b c : World} {r : Option Nat} (h1 : a.grownBy b r) (h2 : b.grownBy c r) : a.grownBy c r :=
  ⟨h2.os.trans h1.os, h2.tape.trans h1.tape, h2.output.trans h1.output, Nat.le_trans h1.size h2.size, fun i hi hr => (h2.block i (Nat.lt_of_lt_of_le hi h1.size) hr).trans (h1.block i hi hr)⟩
theorem grown_below {a b : World} {r : Option Nat} (h : Below a.heap.size a b) : a.grownBy b r := ⟨h.os, h.tape, h.output, h.size, fun i hi _ => h.block i hi⟩

/-- A list of at most k marks. -/
def MvLe (W : World) (S : Nat → Prop) (N k : Nat) (v : Value) : Prop := MvAt W S N v ∧ ∀ la ln lc, v = .slice la ln lc → ln ≤ k

theorem MvLe.nil (W : World) (S : Nat → Prop) (N k : Nat) : MvLe W S N k (.slice none 0 0) := ⟨.nil _ _ _, fun la ln lc h => by cases h; omega⟩

/-- What keepValues carries along. -/
structure Kq (w W : World) (B X k N : Nat) (S : Nat → Prop) (l a b c : Value) : Prop where
  low : w.grownBy W l.ownBlock
  blk : W.heap[X]? = some (.cells #[l, a, b, c, .int .i64 N] 127)
  hX : w.heap.size ≤ X
  row : W.ownsRow B 113 3 l k (vmarks N k)
  ma : MvLe W S N (k + 1) a
  mb : MvLe W S N (k + 2) b
  mc : MvLe W S N (k + 3) c
  ne : l.ownBlock ≠ some X
  gS : ∀ g, l.ownBlock = some g → S g
  nS : ∀ b, w.heap.size ≤ b → S b

variable {w W W' : World} {B X k N m : Nat} {S : Nat → Prop} {l a b c u v' : Value}

theorem Kq.after (h : Kq w W B X k N S l a b c) (hb : Below W.heap.size W W') : Kq w W' B X k N S l a b c :=
  ⟨grown_trans h.low (grown_below hb), (hb.block _ (ltOf h.blk)).trans h.blk, h.hX, ownsRow_below h.row hb, ⟨h.ma.1.below hb, h.ma.2⟩, ⟨h.mb.1.below hb, h.mb.2⟩, ⟨h.mc.1.below hb, h.mc.2⟩, h.ne, h.gS, h.nS⟩

theorem Kq.append (h : Kq w W B X k N S l a b c) (hr : AppRes W W' B 113 3 l v' k m (vmarks N k) (vmarks N m)) (hk : k + m ≤ 1000000)
    (h1 : ∀ la ln lc, a = .slice la ln lc → ln ≤ k + m) (h2 : ∀ la ln lc, b = .slice la ln lc → ln ≤ k + m) (h3 : ∀ la ln lc, c = .slice la ln lc → ln ≤ k + m) :
    Kq w W' B X k N S l a b c ∧ MvLe W' S N (k + m) v' := by
  have hlow : W.grownBy W' l.ownBlock := by
    rcases hr.2.2 with ⟨_, hg⟩ | ⟨_, hb⟩
    · exact hg
    · exact grown_below hb
  refine ⟨⟨grown_trans h.low hlow, (hlow.block X (ltOf h.blk) h.ne.symm).trans h.blk, h.hX, hr.2.1, ⟨mv_after h.ma.1 h1 hr (fun _ h _ => h), h.ma.2⟩, ⟨mv_after h.mb.1 h2 hr (fun _ h _ => h), h.mb.2⟩, ⟨mv_after h.mc.1 h3 hr (fun _ h _ => h), h.mc.2⟩, h.ne, h.gS, h.nS⟩, ?_, ?_⟩
  · have ho := hr.1
    rw [← vmarks_add] at ho
    refine mv_of_own ho (by omega) (fun g hg => ?_)
    rcases hr.2.2 with ⟨he, _⟩ | ⟨he, _⟩
    · exact h.gS g (he.symm.trans hg)
    · rw [he] at hg
      cases hg
      exact h.nS _ h.low.size
  · intro la ln lc hv
    rcases hr.1.2 with ⟨h0, hn⟩ | ⟨g, cap, cur, h0, _⟩
    · rw [hv] at h0; cases h0; omega
    · rw [hv] at h0; cases h0; omega

theorem MvLe.set {j : Nat} {xa : Option Addr} {xn xc : Nat} {r : List Value} {t : TypeId} (h : MvLe W S N k u) (hx : W.heap[X]? = some (.cells (Value.slice xa xn xc :: r).toArray t)) (z : Value) : MvLe (W.setCell ⟨X, j, none⟩ z) S N k u :=
  ⟨h.1.keep (fun b => b = X) (by simp) (fun b _ hb => heap_setCell_other _ _ _ _ hb) (fun b hb _ z e => by
    subst hb
    have := cellOf (j := 0) hx rfl
    rw [this] at e
    cases e) (fun _ h _ => h), h.2⟩

theorem grown_setX {j : Nat} {r : Option Nat} (hX : w.heap.size ≤ X) (h : w.grownBy W r) (z : Value) : w.grownBy (W.setCell ⟨X, j, none⟩ z) r :=
  ⟨h.os, h.tape, h.output, by simpa using h.size, fun i hi hr => (heap_setCell_other _ _ _ _ (by show i ≠ X; omega)).trans (h.block i hi hr)⟩

theorem own_setY {j n : Nat} {e : TypeId} {size : Nat} {xs : List Value} (h : W.ownsRow B e size l n xs) (hne : l.ownBlock ≠ some X) (z : Value) : (W.setCell ⟨X, j, none⟩ z).ownsRow B e size l n xs :=
  h.kept (row := some X) ⟨rfl, rfl, rfl, by simp, fun i _ hi => heap_setCell_other _ _ _ _ (fun e => hi (by rw [e]))⟩ (.inr hne)

theorem own_shape3 {base n : Nat} {e : TypeId} {size : Nat} {v : Value} {xs : List Value} (h : w.ownsRow base e size v n xs) : ∃ a c, v = .slice a n c := by
  rcases h.2 with ⟨e, h0⟩ | ⟨g, cap, cur, e, _⟩
  · exact ⟨none, 0, by rw [e, h0]⟩
  · exact ⟨_, _, e⟩

theorem Kq.store1 (h : Kq w W B X k N S l a b c) (hu : MvLe W S N (k + 1) u) : Kq w (W.setCell ⟨X, 1, none⟩ u) B X k N S l u b c := by
  obtain ⟨la, lc, rfl⟩ := own_shape3 h.row
  exact ⟨grown_setX h.hX h.low u, heap_setCell_same W X 1 _ 127 u h.blk, h.hX, own_setY h.row h.ne u, hu.set h.blk u, h.mb.set h.blk u, h.mc.set h.blk u, h.ne, h.gS, h.nS⟩
theorem Kq.store2 (h : Kq w W B X k N S l a b c) (hu : MvLe W S N (k + 2) u) : Kq w (W.setCell ⟨X, 2, none⟩ u) B X k N S l a u c := by
  obtain ⟨la, lc, rfl⟩ := own_shape3 h.row
  exact ⟨grown_setX h.hX h.low u, heap_setCell_same W X 2 _ 127 u h.blk, h.hX, own_setY h.row h.ne u, h.ma.set h.blk u, hu.set h.blk u, h.mc.set h.blk u, h.ne, h.gS, h.nS⟩
theorem Kq.store3 (h : Kq w W B X k N S l a b c) (hu : MvLe W S N (k + 3) u) : Kq w (W.setCell ⟨X, 3, none⟩ u) B X k N S l a b u := by
  obtain ⟨la, lc, rfl⟩ := own_shape3 h.row
  exact ⟨grown_setX h.hX h.low u, heap_setCell_same W X 3 _ 127 u h.blk, h.hX, own_setY h.row h.ne u, h.ma.set h.blk u, h.mb.set h.blk u, hu.set h.blk u, h.ne, h.gS, h.nS⟩

/-- .. with the mark itself. -/
structure Km (w W : World) (B X k N : Nat) (S : Nat → Prop) (l a b c : Value) (MB : Nat) : Prop where
  q : Kq w W B X k N S l a b c
  m : W.heap[MB]? = some (.cells #[.int .i64 (-1000 - (N : Int)), .string ⟨#[]⟩, .slice none 0 0] 113)
  nX : MB ≠ X
  nl : l.ownBlock ≠ some MB

theorem Km.after {MB : Nat} (h : Km w W B X k N S l a b c MB) (hb : Below W.heap.size W W') : Km w W' B X k N S l a b c MB :=
  ⟨h.q.after hb, (hb.block _ (ltOf h.m)).trans h.m, h.nX, h.nl⟩
theorem Km.append {MB : Nat} (h : Km w W B X k N S l a b c MB) (hr : AppRes W W' B 113 3 l v' k m (vmarks N k) (vmarks N m)) (hk : k + m ≤ 1000000)
    (h1 : ∀ la ln lc, a = .slice la ln lc → ln ≤ k + m) (h2 : ∀ la ln lc, b = .slice la ln lc → ln ≤ k + m) (h3 : ∀ la ln lc, c = .slice la ln lc → ln ≤ k + m) :
    Km w W' B X k N S l a b c MB ∧ MvLe W' S N (k + m) v' := by
  have hlow : W.grownBy W' l.ownBlock := by
    rcases hr.2.2 with ⟨_, hg⟩ | ⟨_, hb⟩
    · exact hg
    · exact grown_below hb
  have := h.q.append hr hk h1 h2 h3
  exact ⟨⟨this.1, (hlow.block MB (ltOf h.m) h.nl.symm).trans h.m, h.nX, h.nl⟩, this.2⟩
theorem Km.store1 {MB : Nat} (h : Km w W B X k N S l a b c MB) (hu : MvLe W S N (k + 1) u) : Km w (W.setCell ⟨X, 1, none⟩ u) B X k N S l u b c MB :=
  ⟨h.q.store1 hu, (heap_setCell_other _ _ _ _ h.nX).trans h.m, h.nX, h.nl⟩
theorem Km.store2 {MB : Nat} (h : Km w W B X k N S l a b c MB) (hu : MvLe W S N (k + 2) u) : Km w (W.setCell ⟨X, 2, none⟩ u) B X k N S l a u c MB :=
  ⟨h.q.store2 hu, (heap_setCell_other _ _ _ _ h.nX).trans h.m, h.nX, h.nl⟩
theorem Km.store3 {MB : Nat} (h : Km w W B X k N S l a b c MB) (hu : MvLe W S N (k + 3) u) : Km w (W.setCell ⟨X, 3, none⟩ u) B X k N S l a b u MB :=
  ⟨h.q.store3 hu, (heap_setCell_other _ _ _ _ h.nX).trans h.m, h.nX, h.nl⟩

/-- What a kept list leaves. -/
structure Kd (w w' : World) (WB B : Nat) (S' : Nat → Prop) (gv gt : Value) (N N' : Nat) (ba : Option Addr) (bc : Nat) (ch : Nat → Prop) : Prop where
  bk : ∃ ba' bc' flat', Bv w' WB B S' gv gt N' ba' bc' flat' ∧ ((Value.slice ba' N' bc').ownBlock = (Value.slice ba N bc).ownBlock ∨ ∃ g, (Value.slice ba' N' bc').ownBlock = some g ∧ w.heap.size ≤ g)
  os : w'.os = w.os
  tape : w'.tape = w.tape
  output : w'.output = w.output
  size : w.heap.size ≤ w'.heap.size
  block : ∀ i, i < w.heap.size → i ≠ WB → (Value.slice ba N bc).ownBlock ≠ some i → ¬ ch i → w'.heap[i]? = w.heap[i]?

set_option maxHeartbeats 1000000 in
theorem kq_end {w5 : World} {WB bc g cap : Nat} {S0 : Nat → Prop} {gv gt : Value} {ba : Option Addr} {flat : List Value} (h : Bv w WB B S0 gv gt N ba bc flat) (KP : Kq w W B X k N S l a b c) (hk : k ≤ 10000) (hlS : ∀ g, l.ownBlock = some g → ¬ S0 g) (hlW : l.ownBlock ≠ some WB) (hSS : ∀ b, S0 b → b < w.heap.size → S b)
    (hown : w5.ownsRow B 127 5 (.slice (some ⟨g, 0, none⟩) (N + 1) cap) (N + 1) (flat ++ [l, a, b, c, .int .i64 N]))
    (hgrow : W.drew.grownBy w5 (Value.slice ba N bc).ownBlock) (hat : (Value.slice ba N bc).ownBlock = some g ∨ g = W.drew.heap.size) :
    Kd w (w5.setCell ⟨WB, 6, none⟩ (.slice (some ⟨g, 0, none⟩) (N + 1) cap)) WB B S gv gt N (N + 1) ba bc (fun b => l.ownBlock = some b) := by
  have hW : W.heap.size ≤ w5.heap.size := hgrow.size
  have hWw := KP.low.size
  have hWB := ltOf h.blk
  have hrl : ∀ g, (Value.slice ba N bc).ownBlock = some g → l.ownBlock ≠ some g := fun g hg e => hlS g e (h.rS g hg)
  have hKW : W.heap[WB]? = _ := (KP.low.block WB hWB hlW.symm).trans h.blk
  have hK5 : w5.heap[WB]? = _ := (hgrow.block WB (by show WB < W.heap.size; omega) h.rowWB.symm).trans hKW
  have hgK : g ≠ WB := by
    rcases hat with e | e
    · intro he; subst he; exact h.rowWB e
    · have : g = W.heap.size := e
      omega
  have hother : ∀ i, i ≠ WB → (w5.setCell ⟨WB, 6, none⟩ (.slice (some ⟨g, 0, none⟩) (N + 1) cap)).heap[i]? = w5.heap[i]? := fun i hi => heap_setCell_other _ _ _ _ hi
  have hsz5 : (w5.setCell ⟨WB, 6, none⟩ (.slice (some ⟨g, 0, none⟩) (N + 1) cap)).heap.size = w5.heap.size := by simp
  have hbeg : ∀ i, (i = WB ∨ (Value.slice ba N bc).ownBlock = some i) → ∃ a n c, W.cell? ⟨i, 0, none⟩ = some (.slice a n c) := by
    intro i hi
    obtain ⟨x, y, z, hx⟩ := h.begin i hi
    refine ⟨x, y, z, ?_⟩
    have hne : l.ownBlock ≠ some i := by
      rcases hi with rfl | hi
      · exact hlW
      · exact hrl i hi
    have hlt : i < w.heap.size := by
      rcases hi with rfl | hi
      · exact hWB
      · exact (h.row.lt i hi).2
    rw [World.cell?_of_block (w := w) (a := ⟨i, 0, none⟩) (KP.low.block i hlt hne.symm)]
    exact hx
  have hmk : ∀ v, MvAt W S N v → MvAt (w5.setCell ⟨WB, 6, none⟩ (.slice (some ⟨g, 0, none⟩) (N + 1) cap)) S N v := fun v hv =>
    hv.keep (fun i => i = WB ∨ (Value.slice ba N bc).ownBlock = some i) (by omega) (fun i hi hnb => by
      rw [hother i (fun e => hnb (.inl e))]
      exact hgrow.block i hi (fun e => hnb (.inr e.symm))) (fun i hi _ z e => by
      obtain ⟨x, y, z', hx⟩ := hbeg i hi
      rw [hx] at e
      cases e) (fun _ h _ => h)
  have hblk : ∀ i, i < w.heap.size → i ≠ WB → (Value.slice ba N bc).ownBlock ≠ some i → l.ownBlock ≠ some i → (w5.setCell ⟨WB, 6, none⟩ (.slice (some ⟨g, 0, none⟩) (N + 1) cap)).heap[i]? = w.heap[i]? := fun i hi h1 h2 h3 => by
    rw [hother i h1]
    exact (hgrow.block i (by show i < W.heap.size; omega) h2.symm).trans (KP.low.block i hi h3.symm)
  have hgS : S g := by
    rcases hat with e | e
    · exact hSS g (h.rS g e) (h.row.lt g e).2
    · exact KP.nS g (by have : g = W.heap.size := e; omega)
  refine ⟨⟨some ⟨g, 0, none⟩, cap, flat ++ [l, a, b, c, .int .i64 N], h.add (lv := l) (heap_setCell_same w5 WB 6 _ 73 _ hK5) ?_ ⟨hmk l (mv_of_own KP.row (by omega) KP.gS), hmk a KP.ma.1, hmk b KP.mb.1, hmk c KP.mc.1⟩ (by omega) hlS hblk hSS (fun g' hg' => ?_), ?_⟩, ?_, ?_, ?_, by omega, fun i hi h1 h2 h3 => hblk i hi h1 h2 h3⟩
  · exact own_setY hown (by simp [Value.ownBlock, hgK]) _
  · have : g = g' := by simpa [Value.ownBlock] using hg'
    rw [← this]; exact hgS
  · rcases hat with e | e
    · exact .inl e.symm
    · exact .inr ⟨g, rfl, by have : g = W.heap.size := e; omega⟩
  · exact hgrow.os.trans KP.low.os
  · exact hgrow.tape.trans KP.low.tape
  · exact hgrow.output.trans KP.low.output
end Go.Proofs.YtlghcldiboecoaaGreatDoor

/- The caller's books: a list of values is kept: the walk. -/
set_option linter.unusedVariables false
namespace Go.Proofs.YtlghcldiboecoaaGreatDoor
open Go.RowKit

/-- What stands when the lists within are kept. -/
structure Ks (W : World) (WB B : Nat) (S0 S : Nat → Prop) (gv gt : Value) (N : Nat) (ba : Option Addr) (bc : Nat) (flat : List Value) (lv : Value) (k : Nat) (xs : List Value) : Prop where
  bv : Bv W WB B S0 gv gt N ba bc flat
  row : W.ownsRow B 113 3 lv k xs
  hN : N ≤ 100000000000
  lS : ∀ g, lv.ownBlock = some g → ¬ S0 g
  SS : ∀ b, S0 b → b < W.heap.size → S b
  gS : ∀ g, lv.ownBlock = some g → S g
  nS : ∀ b, W.heap.size ≤ b → S b

set_option maxRecDepth 8000 in
set_option maxHeartbeats 4000000 in
theorem kv_walk (w : World) (WB B k : Nat) (hk : k ≤ 10000) (la : Option Addr) (lc : Nat) (gv gt : Value) (I : Nat → World → Prop) (hI0 : I 0 w) (xv : Nat → Value)
    (HS : Hid (∀ i W, i < k → I i W → ∃ g xa xm xc, la = some ⟨g, 0, none⟩ ∧ k ≤ lc ∧ xv i = .slice xa xm xc ∧ W.cell? ⟨g, i * 3 + 2, none⟩ = some (xv i) ∧ Calls Tryz.prog 91 #[.pointer (some ⟨WB, 4, none⟩), xv i] W fun e w' => e = .returned (.tuple #[]) ∧ I (i + 1) w'))
    (Z : World → (Nat → Prop) → Nat → Option Addr → Nat → Prop) (HT : Hid (∀ W, I k W → ∃ S0 S N ba bc flat xs, Ks W WB B S0 S gv gt N ba bc flat (.slice la k lc) k xs ∧ Z W S N ba bc)) :
    Calls Tryz.prog 91 #[.pointer (some ⟨WB, 4, none⟩), .slice la k lc] w fun e w' => e = .returned (.tuple #[]) ∧ ∃ W S N ba bc, Z W S N ba bc ∧ Kd W w' WB B S gv gt N (N + 1) ba bc (fun b => (Value.slice la k lc).ownBlock = some b) := by
  have HI0 := hid hI0
  clear hI0
  go_enter Tryz.func91, Tryz.ntmps91
  go_wp2
  go_loopw [4] (fun u wr => ∃ i : Nat, u = .int .i64 i ∧ i ≤ k ∧ Hid (I i wr)) (fun u _ => k - (intOf u).toNat)
  case atStart => exact ⟨0, rfl, Nat.zero_le _, HI0⟩
  case round =>
    obtain ⟨i, rfl, hi, HI⟩ := hrel
    by_cases hlt : i < k
    · have hltz : (i : Int) < (k : Int) := by omega
      obtain ⟨g, xa, xm, xc, hla, hlc, hxv, hc, hcall⟩ := HS.out i wr hlt HI.out
      subst hla
      rw [hxv] at hc hcall
      have HCALL := hid hcall
      clear hcall hxv
      go_wp2_with (go_at_call 91; refine HCALL.out.mono ?_; rintro e w1 ⟨rfl, hi1⟩; have HI1 := hid hi1; clear hi1)
      all_goals go_roundw
      all_goals try (case rel => exact ⟨i + 1, by go_num, by omega, HI1⟩)
      all_goals try (case measure => simp [intOf]; omega)
    · have hltz : ¬ (i : Int) < (k : Int) := by omega
      have hie : i = k := by omega
      subst hie
      obtain ⟨S0, S, N, ba, bc, flat, xs, hks, hz⟩ := HT.out wr HI.out
      have HKS := hid hks
      have HZ := hid hz
      clear hks hz HT HS HI HI0 hlt
      have hN := HKS.out.hN
      have hn6 : wr.cell? ⟨WB, 6, none⟩ = some (.slice ba N bc) := cellOf (j := 6) HKS.out.bv.blk rfl
      have hxl : xs.length = i * 3 := HKS.out.row.1
      have HXL := hid hxl
      clear hxl
      go_wp2_with (go_at_call 136; refine (markValue_any _ N (by omega)).mono ?_; rintro e w1 ⟨rfl, hb1⟩; have HB1 := hid hb1; clear hb1)
      generalize wr = W0 at *
      have HM1 := hid (heap_alloc_new w1 (.cells #[.int .i64 (-1000 - (N : Int)), .string ⟨#[]⟩, .slice none 0 0] 113))
      have HMB : Hid (W0.heap.size ≤ w1.heap.size) := HB1.out.size
      have HG1 : Hid (W0.grownBy (w1.alloc (.cells #[.int .i64 (-1000 - (N : Int)), .string ⟨#[]⟩, .slice none 0 0] 113)) (Value.slice la i lc).ownBlock) := grown_below (HB1.out.alloc HB1.out.size _)
      have HR1 : Hid ((w1.alloc (.cells #[.int .i64 (-1000 - (N : Int)), .string ⟨#[]⟩, .slice none 0 0] 113)).ownsRow B 113 3 (.slice la i lc) i xs) := (ownsRow_below HKS.out.row HB1.out).alloc _
      clear HB1 hn6
      generalize w1.alloc (.cells #[.int .i64 (-1000 - (N : Int)), .string ⟨#[]⟩, .slice none 0 0] 113) = W1 at *
      generalize w1.heap.size = MB at *
      go_loopw [7] (fun u W' => ∃ j : Nat, u = .int .i64 j ∧ j ≤ i ∧ Hid (W0.grownBy W' (Value.slice la i lc).ownBlock) ∧ Hid (W'.ownsRow B 113 3 (.slice la i lc) i (vmarks N j ++ xs.drop (j * 3))) ∧ Hid (W'.heap[MB]? = some (.cells #[.int .i64 (-1000 - (N : Int)), .string ⟨#[]⟩, .slice none 0 0] 113))) (fun u _ => i - (intOf u).toNat)
      case atStart => exact ⟨0, rfl, Nat.zero_le _, HG1, by show World.ownsRow _ _ _ _ _ _ _; rw [Nat.zero_mul, List.drop_zero]; exact HR1.out, HM1⟩
      case round =>
        obtain ⟨j, rfl, hj, HG, HR, HM⟩ := hrel
        have m0 := cellOf (j := 0) HM.out rfl
        have m1 := cellOf (j := 1) HM.out rfl
        have m2 := cellOf (j := 2) HM.out rfl
        by_cases hlt : j < i
        · have hltz : (j : Int) < (i : Int) := by omega
          obtain ⟨g, hla⟩ : ∃ g, la = some ⟨g, 0, none⟩ := by
            rcases HR.out.2 with ⟨e, h0⟩ | ⟨g, cap, cur, e, _⟩
            · omega
            · cases e; exact ⟨g, rfl⟩
          subst hla
          have hlc : i ≤ lc := by
            rcases HR.out.2 with ⟨e, h0⟩ | ⟨g, cap, cur, e, _, _, hc, _⟩
            · omega
            · cases e; exact hc
          have hlen : (vmarks N j ++ xs.drop (j * 3)).length = i * 3 := HR.out.1
          have R1 := HR.out.stored (j * 3) (.int .i64 (-1000 - (N : Int)))
          have R2 := R1.1.stored (j * 3 + 1) (.string ⟨#[]⟩)
          have R3 := R2.1.stored (j * 3 + 2) (.slice none 0 0)
          have z0 := HR.out.frozenAt (j * 3)
          have z1 := R1.1.frozenAt (j * 3 + 1)
          have z2 := R2.1.frozenAt (j * 3 + 2)
          obtain ⟨o0, k0⟩ : ∃ o, wr.cell? ⟨g, j * 3, none⟩ = some o := ⟨_, (HR.out.cellAt (j * 3) (by omega)).trans (List.getElem?_eq_getElem (by omega))⟩
          obtain ⟨o1, k1⟩ : ∃ o, (wr.setCell ⟨g, j * 3, none⟩ (.int .i64 (-1000 - (N : Int)))).cell? ⟨g, j * 3 + 1, none⟩ = some o := ⟨_, (R1.1.cellAt (j * 3 + 1) (by omega)).trans (List.getElem?_eq_getElem (by rw [List.length_set]; omega))⟩
          obtain ⟨o2, k2⟩ : ∃ o, ((wr.setCell ⟨g, j * 3, none⟩ (.int .i64 (-1000 - (N : Int)))).setCell ⟨g, j * 3 + 1, none⟩ (.string ⟨#[]⟩)).cell? ⟨g, j * 3 + 2, none⟩ = some o := ⟨_, (R2.1.cellAt (j * 3 + 2) (by omega)).trans (List.getElem?_eq_getElem (by rw [List.length_set, List.length_set]; omega))⟩
          have HR' : Hid ((((wr.setCell ⟨g, j * 3, none⟩ (.int .i64 (-1000 - (N : Int)))).setCell ⟨g, j * 3 + 1, none⟩ (.string ⟨#[]⟩)).setCell ⟨g, j * 3 + 2, none⟩ (.slice none 0 0)).ownsRow B 113 3 (.slice (some ⟨g, 0, none⟩) i lc) i (vmarks N (j + 1) ++ xs.drop ((j + 1) * 3))) := by
            show World.ownsRow _ _ _ _ _ _ _
            rw [← set_vmarks (by rw [HXL.out]; omega) _ _ _ rfl]
            exact R3.1
          have HG' : Hid (W0.grownBy (((wr.setCell ⟨g, j * 3, none⟩ (.int .i64 (-1000 - (N : Int)))).setCell ⟨g, j * 3 + 1, none⟩ (.string ⟨#[]⟩)).setCell ⟨g, j * 3 + 2, none⟩ (.slice none 0 0)) (Value.slice (some ⟨g, 0, none⟩) i lc).ownBlock) := grown_trans HG.out (grown_trans R1.2 (grown_trans R2.2 R3.2))
          have hMg : MB ≠ g := by
            intro e
            have := (HKS.out.row.lt g rfl).2
            have := HMB.out
            omega
          have HM' : Hid ((((wr.setCell ⟨g, j * 3, none⟩ (.int .i64 (-1000 - (N : Int)))).setCell ⟨g, j * 3 + 1, none⟩ (.string ⟨#[]⟩)).setCell ⟨g, j * 3 + 2, none⟩ (.slice none 0 0)).heap[MB]? = some (.cells #[.int .i64 (-1000 - (N : Int)), .string ⟨#[]⟩, .slice none 0 0] 113)) := by
            show _ = _
            rw [heap_setCell_other _ _ _ _ hMg, heap_setCell_other _ _ _ _ hMg, heap_setCell_other _ _ _ _ hMg]
            exact HM.out
          clear R1 R2 R3 hlen
          go_wp2
          all_goals go_roundw
          all_goals try (case rel => exact ⟨j + 1, by go_num, by omega, HG', HR', HM'⟩)
          all_goals try (case measure => simp [intOf]; omega)
        · have hltz : ¬ (j : Int) < (i : Int) := by omega
          have hje : j = i := by omega
          have HOM : Hid (wr.ownsRow B 113 3 (.slice la i lc) i (vmarks N i)) := by
            have h := HR.out
            rw [hje, List.drop_of_length_le (by rw [HXL.out]; omega), List.append_nil] at h
            exact h
          clear HR hlt hje hj
          have hB0 : B ≤ W0.heap.size := HKS.out.bv.le
          have KP : Hid (Km W0 (wr.alloc (.cells #[.slice la i lc, .slice none 0 0, .slice none 0 0, .slice none 0 0, .int .i64 N] 127)) B wr.heap.size i N S (.slice la i lc) (.slice none 0 0) (.slice none 0 0) (.slice none 0 0) MB) := by
            have hl := HOM.out.lt
            have h2 := HKS.out.row.lt
            exact ⟨⟨grown_trans HG.out (grown_below (below1 _ _)), heap_alloc_new _ _, HG.out.size, HOM.out.alloc _, MvLe.nil _ _ _ _, MvLe.nil _ _ _ _, MvLe.nil _ _ _ _, fun e => by have := (hl _ e).2; omega, HKS.out.gS, HKS.out.nS⟩, (Below.heap_alloc _ _ _ (ltOf HM.out)).trans HM.out, fun e => by have := ltOf HM.out; omega, fun e => by have := (h2 _ e).2; have := HMB.out; omega⟩
          have HWR : Hid (W0.heap.size ≤ wr.heap.size) := HG.out.size
          clear HOM HG HM m0 m1 m2
          have p0 := cellOf (j := 0) KP.out.m rfl
          have p1 := cellOf (j := 1) KP.out.m rfl
          have p2 := cellOf (j := 2) KP.out.m rfl
          have KP2 : Hid (Km W0 ((wr.alloc (.cells #[.slice la i lc, .slice none 0 0, .slice none 0 0, .slice none 0 0, .int .i64 N] 127)).alloc (.cells #[.int .i64 (-1000 - (N : Int)), .string ⟨#[]⟩, .slice none 0 0] 113)) B wr.heap.size i N S (.slice la i lc) (.slice none 0 0) (.slice none 0 0) (.slice none 0 0) MB) := KP.out.after (below1 _ _)
          have HNA : Hid (((wr.alloc (.cells #[.slice la i lc, .slice none 0 0, .slice none 0 0, .slice none 0 0, .int .i64 N] 127)).alloc (.cells #[.int .i64 (-1000 - (N : Int)), .string ⟨#[]⟩, .slice none 0 0] 113)).heap[wr.heap.size + 1]? = some (.cells #[.int .i64 (-1000 - (N : Int)), .string ⟨#[]⟩, .slice none 0 0] 113)) := by
            have h := heap_alloc_new (wr.alloc (.cells #[.slice la i lc, .slice none 0 0, .slice none 0 0, .slice none 0 0, .int .i64 N] 127)) (.cells #[.int .i64 (-1000 - (N : Int)), .string ⟨#[]⟩, .slice none 0 0] 113)
            rw [show (wr.alloc (.cells #[.slice la i lc, .slice none 0 0, .slice none 0 0, .slice none 0 0, .int .i64 N] 127)).heap.size = wr.heap.size + 1 by simp] at h
            exact h
          obtain ⟨i0, hi0, hz0, hz1, hz2⟩ := info_parts Tryz.info113
          go_wp2_with (at_builtin; refine wpList_append_keep _ rfl _ _ 22 rfl B 113 i0 (vv 0 ⟨#[]⟩ (.slice none 0 0)) 3 48 Tryz.underlying22 hi0 hz0 hz1 hz2 rfl (by decide) _ i (vmarks N i) rfl KP2.out.q.row ⟨wr.heap.size + 1, 0, none⟩ 1 1 (vmarks N 1) rfl (vmarks_len N 1) ?hnews (vmarks_one N 1) (by omega) (by unfold maxLen; omega) (by omega) (Nat.le_trans hB0 KP2.out.q.low.size) ?_)
          case hnews => intro j u hj; first | exact World.news_of_block HNA.out j u hj | exact hj
          intro V1 w2 hr1
          obtain ⟨kp1, mk1⟩ := KP2.out.append hr1 (by omega) (fun _ _ _ h => by cases h; omega) (fun _ _ _ h => by cases h; omega) (fun _ _ _ h => by cases h; omega)
          obtain ⟨va1, n1, vc1, hv1⟩ : ∃ a n c, V1 = .slice a n c := by obtain ⟨a, c, h⟩ := own_shape3 hr1.1; exact ⟨a, _, c, h⟩
          subst hv1
          have KP3 := hid kp1
          have MK1 := hid mk1
          clear hr1 kp1 mk1 KP KP2 HNA p0 p1 p2
          have q1 := cellOf (j := 1) KP3.out.q.blk rfl
          have z1 := frozen_of_row w2 wr.heap.size 1 _ 127 KP3.out.q.blk
          have KS1 : Hid (Km W0 (w2.setCell ⟨wr.heap.size, 1, none⟩ (.slice va1 n1 vc1)) B wr.heap.size i N S (.slice la i lc) (.slice va1 n1 vc1) (.slice none 0 0) (.slice none 0 0) MB) := KP3.out.store1 MK1.out
          clear KP3
          have p0 := cellOf (j := 0) KS1.out.m rfl
          have p1 := cellOf (j := 1) KS1.out.m rfl
          have p2 := cellOf (j := 2) KS1.out.m rfl
          have KT1 : Hid (Km W0 ((w2.setCell ⟨wr.heap.size, 1, none⟩ (.slice va1 n1 vc1)).alloc (.cells #[.int .i64 (-1000 - (N : Int)), .string ⟨#[]⟩, .slice none 0 0, .int .i64 (-1000 - (N : Int)), .string ⟨#[]⟩, .slice none 0 0] 113)) B wr.heap.size i N S (.slice la i lc) (.slice va1 n1 vc1) (.slice none 0 0) (.slice none 0 0) MB) := KS1.out.after (below1 _ _)
          have HN1 : Hid (((w2.setCell ⟨wr.heap.size, 1, none⟩ (.slice va1 n1 vc1)).alloc (.cells #[.int .i64 (-1000 - (N : Int)), .string ⟨#[]⟩, .slice none 0 0, .int .i64 (-1000 - (N : Int)), .string ⟨#[]⟩, .slice none 0 0] 113)).heap[w2.heap.size]? = some (.cells #[.int .i64 (-1000 - (N : Int)), .string ⟨#[]⟩, .slice none 0 0, .int .i64 (-1000 - (N : Int)), .string ⟨#[]⟩, .slice none 0 0] 113)) := by
            have h := heap_alloc_new (w2.setCell ⟨wr.heap.size, 1, none⟩ (.slice va1 n1 vc1)) (.cells #[.int .i64 (-1000 - (N : Int)), .string ⟨#[]⟩, .slice none 0 0, .int .i64 (-1000 - (N : Int)), .string ⟨#[]⟩, .slice none 0 0] 113)
            rw [show (w2.setCell ⟨wr.heap.size, 1, none⟩ (.slice va1 n1 vc1)).heap.size = w2.heap.size by simp] at h
            exact h
          go_wp2_with (at_builtin; refine wpList_append_keep _ rfl _ _ 22 rfl B 113 i0 (vv 0 ⟨#[]⟩ (.slice none 0 0)) 3 48 Tryz.underlying22 hi0 hz0 hz1 hz2 rfl (by decide) _ i (vmarks N i) rfl KT1.out.q.row ⟨w2.heap.size, 0, none⟩ 2 2 (vmarks N 2) rfl (vmarks_len N 2) ?hnews (vmarks_one N 2) (by omega) (by unfold maxLen; omega) (by omega) (Nat.le_trans hB0 KT1.out.q.low.size) ?_)
          case hnews => intro j u hj; exact World.news_of_block HN1.out j u hj
          intro V2 w3 hr2
          obtain ⟨kp2, mk2⟩ := KT1.out.append hr2 (by omega) (fun x y z h => Nat.le_trans (MK1.out.2 x y z h) (by omega)) (fun _ _ _ h => by cases h; omega) (fun _ _ _ h => by cases h; omega)
          obtain ⟨va2, n2, vc2, hv2⟩ : ∃ a n c, V2 = .slice a n c := by obtain ⟨a, c, h⟩ := own_shape3 hr2.1; exact ⟨a, _, c, h⟩
          subst hv2
          have KP4 := hid kp2
          have MK2 := hid mk2
          clear hr2 kp2 mk2 q1 z1 KS1 KT1 HN1 p0 p1 p2
          have q2 := cellOf (j := 2) KP4.out.q.blk rfl
          have z2 := frozen_of_row w3 wr.heap.size 2 _ 127 KP4.out.q.blk
          have KS2 : Hid (Km W0 (w3.setCell ⟨wr.heap.size, 2, none⟩ (.slice va2 n2 vc2)) B wr.heap.size i N S (.slice la i lc) (.slice va1 n1 vc1) (.slice va2 n2 vc2) (.slice none 0 0) MB) := KP4.out.store2 MK2.out
          clear KP4
          have p0 := cellOf (j := 0) KS2.out.m rfl
          have p1 := cellOf (j := 1) KS2.out.m rfl
          have p2 := cellOf (j := 2) KS2.out.m rfl
          have KT2 : Hid (Km W0 ((w3.setCell ⟨wr.heap.size, 2, none⟩ (.slice va2 n2 vc2)).alloc (.cells #[.int .i64 (-1000 - (N : Int)), .string ⟨#[]⟩, .slice none 0 0, .int .i64 (-1000 - (N : Int)), .string ⟨#[]⟩, .slice none 0 0, .int .i64 (-1000 - (N : Int)), .string ⟨#[]⟩, .slice none 0 0] 113)) B wr.heap.size i N S (.slice la i lc) (.slice va1 n1 vc1) (.slice va2 n2 vc2) (.slice none 0 0) MB) := KS2.out.after (below1 _ _)
          have HN2 : Hid (((w3.setCell ⟨wr.heap.size, 2, none⟩ (.slice va2 n2 vc2)).alloc (.cells #[.int .i64 (-1000 - (N : Int)), .string ⟨#[]⟩, .slice none 0 0, .int .i64 (-1000 - (N : Int)), .string ⟨#[]⟩, .slice none 0 0, .int .i64 (-1000 - (N : Int)), .string ⟨#[]⟩, .slice none 0 0] 113)).heap[w3.heap.size]? = some (.cells #[.int .i64 (-1000 - (N : Int)), .string ⟨#[]⟩, .slice none 0 0, .int .i64 (-1000 - (N : Int)), .string ⟨#[]⟩, .slice none 0 0, .int .i64 (-1000 - (N : Int)), .string ⟨#[]⟩, .slice none 0 0] 113)) := by
            have h := heap_alloc_new (w3.setCell ⟨wr.heap.size, 2, none⟩ (.slice va2 n2 vc2)) (.cells #[.int .i64 (-1000 - (N : Int)), .string ⟨#[]⟩, .slice none 0 0, .int .i64 (-1000 - (N : Int)), .string ⟨#[]⟩, .slice none 0 0, .int .i64 (-1000 - (N : Int)), .string ⟨#[]⟩, .slice none 0 0] 113)
            rw [show (w3.setCell ⟨wr.heap.size, 2, none⟩ (.slice va2 n2 vc2)).heap.size = w3.heap.size by simp] at h
            exact h
          go_wp2_with (at_builtin; refine wpList_append_keep _ rfl _ _ 22 rfl B 113 i0 (vv 0 ⟨#[]⟩ (.slice none 0 0)) 3 48 Tryz.underlying22 hi0 hz0 hz1 hz2 rfl (by decide) _ i (vmarks N i) rfl KT2.out.q.row ⟨w3.heap.size, 0, none⟩ 3 3 (vmarks N 3) rfl (vmarks_len N 3) ?hnews (vmarks_one N 3) (by omega) (by unfold maxLen; omega) (by omega) (Nat.le_trans hB0 KT2.out.q.low.size) ?_)
          case hnews => intro j u hj; exact World.news_of_block HN2.out j u hj
          intro V3 w4 hr3
          obtain ⟨kp3, mk3'⟩ := KT2.out.append hr3 (by omega) (fun x y z h => Nat.le_trans (MK1.out.2 x y z h) (by omega)) (fun x y z h => Nat.le_trans (MK2.out.2 x y z h) (by omega)) (fun _ _ _ h => by cases h; omega)
          obtain ⟨va3, n3, vc3, hv3⟩ : ∃ a n c, V3 = .slice a n c := by obtain ⟨a, c, h⟩ := own_shape3 hr3.1; exact ⟨a, _, c, h⟩
          subst hv3
          have KP5 := hid kp3
          have MK3 := hid mk3'
          clear hr3 kp3 mk3' q2 z2 KS2 KT2 HN2 p0 p1 p2
          have q3 := cellOf (j := 3) KP5.out.q.blk rfl
          have z3 := frozen_of_row w4 wr.heap.size 3 _ 127 KP5.out.q.blk
          have KS3 : Hid (Km W0 (w4.setCell ⟨wr.heap.size, 3, none⟩ (.slice va3 n3 vc3)) B wr.heap.size i N S (.slice la i lc) (.slice va1 n1 vc1) (.slice va2 n2 vc2) (.slice va3 n3 vc3) MB) := KP5.out.store3 MK3.out
          clear KP5
          go_wp2
          clear q3 z3
          refine wp_gen (fun W => Km W0 W B wr.heap.size i N S (.slice la i lc) (.slice va1 n1 vc1) (.slice va2 n2 vc2) (.slice va3 n3 vc3) MB) KS3.out ?_
          intro W5 k0
          clear KS3
          have KS := hid k0
          clear k0
          have HLW : Hid ((Value.slice la i lc).ownBlock ≠ some WB) := by
            intro e
            have h1 := (HKS.out.row.lt WB e).1
            have h2 := HKS.out.bv.lt
            omega
          have HKB : Hid (W5.heap[WB]? = _) := (KS.out.q.low.block WB (ltOf HKS.out.bv.blk) HLW.out.symm).trans HKS.out.bv.blk
          have hkc := cellOf (j := 6) HKB.out rfl
          have X0 := cellOf (j := 0) KS.out.q.blk rfl
          have X1 := cellOf (j := 1) KS.out.q.blk rfl
          have X2 := cellOf (j := 2) KS.out.q.blk rfl
          have X3 := cellOf (j := 3) KS.out.q.blk rfl
          have X4 := cellOf (j := 4) KS.out.q.blk rfl
          have HNEWB := hid (heap_alloc_new W5 (.cells #[.slice la i lc, .slice va1 n1 vc1, .slice va2 n2 vc2, .slice va3 n3 vc3, .int .i64 N] 127))
          have HROW5 : Hid (W5.ownsRow B 127 5 (.slice ba N bc) N flat) := HKS.out.bv.row.kept KS.out.q.low (by
            cases hq : (Value.slice ba N bc).ownBlock with
            | none => exact .inl rfl
            | some g => exact .inr (fun e => HKS.out.lS g e.symm (HKS.out.bv.rS g hq)))
          have HROW0 := hid (HROW5.out.alloc (.cells #[.slice la i lc, .slice va1 n1 vc1, .slice va2 n2 vc2, .slice va3 n3 vc3, .int .i64 N] 127))
          have HKP0 := hid (KS.out.after (below1 W5 (.cells #[.slice la i lc, .slice va1 n1 vc1, .slice va2 n2 vc2, .slice va3 n3 vc3, .int .i64 N] 127)))
          have HKW : Hid ((W5.alloc (.cells #[.slice la i lc, .slice va1 n1 vc1, .slice va2 n2 vc2, .slice va3 n3 vc3, .int .i64 N] 127)).heap[WB]? = _) := (Below.heap_alloc _ _ _ (ltOf HKB.out)).trans HKB.out
          have hkc2 := cellOf (j := 6) HKW.out rfl
          have HRW := hid HKS.out.bv.rowWB
          obtain ⟨j0, hj0, hy0, hy1, hy2⟩ := info_parts Tryz.info127
          go_region_law (refine step_append_lies _ rfl (.tmp 64) (.tmp 66) 68 rfl B 127 j0 _ 5 104 Tryz.underlying68 hj0 hy0 hy1 hy2 rfl (by decide) (.slice ba N bc) N flat (by simp [Act.eval]) HROW0.out.drew ⟨W5.heap.size, 0, none⟩ 1 1 _ (by simp [Act.eval]) (by rfl) (World.news_of_block HNEWB.out) (by intro u hu; simp at hu; rcases hu with rfl | rfl | rfl | rfl | rfl <;> rfl) (by omega) (by unfold maxLen; omega) (by omega) (by show B ≤ _; exact Nat.le_trans hB0 HKP0.out.q.low.size) _ rfl ?_; intro g cap w5 hown5 hgrow hat5 hlt5; have HK5 := hid ((hgrow.block WB (by show WB < _; exact ltOf HKW.out) (fun e => HRW.out e.symm)).trans HKW.out); have k5 := cellOf (j := 6) HK5.out rfl; have z5 := frozen_of_row w5 WB 6 _ _ HK5.out; have HOWN5 := hid hown5; have HGR5 := hid hgrow; have HAT5 := hid hat5; clear hown5 hgrow hat5)
          all_goals go_end0
          all_goals exact ⟨rfl, W0, S, N, ba, bc, HZ.out, kq_end HKS.out.bv HKP0.out.q (by omega) HKS.out.lS HLW.out HKS.out.SS HOWN5.out HGR5.out HAT5.out⟩
end Go.Proofs.YtlghcldiboecoaaGreatDoor

/- The caller's books: a list of values is kept, and all lists within. -/
set_option linter.unusedVariables false
namespace Go.Proofs.YtlghcldiboecoaaGreatDoor
open Go.RowKit

/-- The blocks that are not to be kept still, when i elements are. -/
def Si (S : Nat → Prop) (n lo hi g : Nat) (qs : List Oe) (i : Nat) (b : Nat) : Prop := S b ∨ n ≤ b ∨ (lo ≤ b ∧ b < hi ∧ b ≠ g ∧ ∀ q, q ∈ qs.drop i → ¬ (q.lo ≤ b ∧ b < q.hi))
def Chi (qs : List Oe) (i : Nat) (b : Nat) : Prop := ∃ q, q ∈ qs.take i ∧ q.lo ≤ b ∧ b < q.hi

theorem pair_get {qs : List Oe} (h : qs.Pairwise (fun a b => a.hi ≤ b.lo)) {i j : Nat} (hij : i < j) (hj : j < qs.length) : (qs[i]'(by omega)).hi ≤ qs[j].lo := List.pairwise_iff_getElem.1 h i j (by omega) hj hij

theorem apart {qs : List Oe} (h : qs.Pairwise (fun a b => a.hi ≤ b.lo)) (hlh : ∀ q, q ∈ qs → q.lo ≤ q.hi) {i j b : Nat} (hne : i ≠ j) (hi : i < qs.length) (hj : j < qs.length) (h1 : qs[i].lo ≤ b ∧ b < qs[i].hi) : ¬ (qs[j].lo ≤ b ∧ b < qs[j].hi) := by
  intro h2
  rcases Nat.lt_or_gt_of_ne hne with hlt | hgt
  · have := pair_get h hlt hj
    omega
  · have := pair_get h hgt hi
    omega

theorem drop_mem {qs : List Oe} {i : Nat} {q : Oe} (h : q ∈ qs.drop i) : ∃ j, i ≤ j ∧ ∃ hj : j < qs.length, q = qs[j] := by
  obtain ⟨k, hk, rfl⟩ := List.mem_iff_getElem.1 h
  rw [List.length_drop] at hk
  exact ⟨i + k, by omega, by omega, by rw [List.getElem_drop]⟩

theorem take_mem {qs : List Oe} {i : Nat} {q : Oe} (h : q ∈ qs.take i) : ∃ j, j < i ∧ ∃ hj : j < qs.length, q = qs[j] := by
  obtain ⟨k, hk, rfl⟩ := List.mem_iff_getElem.1 h
  rw [List.length_take] at hk
  exact ⟨k, by omega, by omega, by rw [List.getElem_take]⟩

theorem Kd.weak {w w' : World} {WB B : Nat} {S S' : Nat → Prop} {gv gt : Value} {N N' : Nat} {ba : Option Addr} {bc : Nat} {ch ch' : Nat → Prop} (h : Kd w w' WB B S gv gt N N' ba bc ch) (hS : ∀ b, S b → b < w'.heap.size → S' b) (hch : ∀ b, ch b → ch' b) : Kd w w' WB B S' gv gt N N' ba bc ch' := by
  obtain ⟨ba', bc', flat', hbv, ht⟩ := h.bk
  exact ⟨⟨ba', bc', flat', hbv.mono hS, ht⟩, h.os, h.tape, h.output, h.size, fun i hi h1 h2 h3 => h.block i hi h1 h2 (fun e => h3 (hch i e))⟩

theorem Kd.refl {w : World} {WB B : Nat} {S : Nat → Prop} {gv gt : Value} {N : Nat} {ba : Option Addr} {bc : Nat} {flat : List Value} (h : Bv w WB B S gv gt N ba bc flat) (ch : Nat → Prop) : Kd w w WB B S gv gt N N ba bc ch :=
  ⟨⟨ba, bc, flat, h, .inl rfl⟩, rfl, rfl, rfl, Nat.le_refl _, fun _ _ _ _ _ => rfl⟩

/-- One behind the other. -/
theorem Kd.then {w W w' : World} {WB B : Nat} {S : Nat → Prop} {gv gt : Value} {N N1 N2 : Nat} {ba ba1 : Option Addr} {bc bc1 : Nat} {ch1 ch2 ch : Nat → Prop}
    (ht : (Value.slice ba1 N1 bc1).ownBlock = (Value.slice ba N bc).ownBlock ∨ ∃ g, (Value.slice ba1 N1 bc1).ownBlock = some g ∧ w.heap.size ≤ g)
    (hos : W.os = w.os) (htape : W.tape = w.tape) (hout : W.output = w.output) (hsz : w.heap.size ≤ W.heap.size) (hblk : ∀ i, i < w.heap.size → i ≠ WB → (Value.slice ba N bc).ownBlock ≠ some i → ¬ ch1 i → W.heap[i]? = w.heap[i]?)
    (h2 : Kd W w' WB B S gv gt N1 N2 ba1 bc1 ch2) (hc1 : ∀ b, ch1 b → ch b) (hc2 : ∀ b, b < w.heap.size → ch2 b → ch b) : Kd w w' WB B S gv gt N N2 ba bc ch := by
  obtain ⟨ba', bc', flat', hbv, ht2⟩ := h2.bk
  refine ⟨⟨ba', bc', flat', hbv, ?_⟩, h2.os.trans hos, h2.tape.trans htape, h2.output.trans hout, Nat.le_trans hsz h2.size, fun i hi k1 k2 k3 => ?_⟩
  · rcases ht2 with e | ⟨g, e, hg⟩
    · rcases ht with e' | ⟨g, e', hg⟩
      · exact .inl (e.trans e')
      · exact .inr ⟨g, e.trans e', hg⟩
    · exact .inr ⟨g, e, by omega⟩
  · refine (h2.block i (by omega) k1 ?_ (fun e => k3 (hc2 i hi e))).trans (hblk i hi k1 k2 (fun e => k3 (hc1 i e)))
    intro e
    rcases ht with e' | ⟨g, e', hg⟩
    · exact k2 (e'.symm.trans e)
    · rw [e'] at e; cases e; omega

set_option maxHeartbeats 1000000 in
theorem kv_any {w0 : World} {lo hi : Nat} {vs : List Orch.V} {lv : Value} (h : OwT w0 lo hi vs lv) : ∀ (w : World) (WB B : Nat) (S : Nat → Prop) (gv gt : Value) (N : Nat) (ba : Option Addr) (bc : Nat) (flat : List Value), (∀ b, lo ≤ b → b < hi → w.heap[b]? = w0.heap[b]?) → hi ≤ w.heap.size → B ≤ lo → Bv w WB B S gv gt N ba bc flat →
    (∀ b, lo ≤ b → b < hi → ¬ S b) → cntL vs ≤ 9990 → N + 1 + cntL vs ≤ 100000000000 →
    Calls Tryz.prog 91 #[.pointer (some ⟨WB, 4, none⟩), lv] w fun e w' => e = .returned (.tuple #[]) ∧ Kd w w' WB B (fun b => S b ∨ (lo ≤ b ∧ b < hi) ∨ w.heap.size ≤ b) gv gt N (N + 1 + cntL vs) ba bc (fun b => lo ≤ b ∧ b < hi) := by
  induction h with
  | nil lo hi =>
    intro w WB B S gv gt N ba bc flat hsame hhi hB hbv hS hc hN
    refine (kv_walk w WB B 0 (by omega) none 0 gv gt (fun i W => W = w) rfl (fun _ => .slice none 0 0) (fun i W hi => absurd hi (by omega)) (fun W S2 N2 ba2 bc2 => W = w ∧ S2 = (fun b => S b ∨ (lo ≤ b ∧ b < hi) ∨ w.heap.size ≤ b) ∧ N2 = N ∧ ba2 = ba ∧ bc2 = bc) (fun W hW => ?_)).mono ?_
    · subst hW
      exact ⟨S, _, N, ba, bc, flat, [], ⟨hbv, World.ownsRow_nil _ _ _ _, by omega, (fun g hg => by cases hg), (fun b hb _ => .inl hb), (fun g hg => by cases hg), (fun b hb => .inr (.inr hb))⟩, rfl, rfl, rfl, rfl, rfl⟩
    · rintro e w' ⟨rfl, W, S2, N2, ba2, bc2, ⟨rfl, rfl, rfl, rfl, rfl⟩, hkd⟩
      exact ⟨rfl, hkd.weak (fun _ h _ => h) (fun b hb => by cases hb)⟩
  | row lo hi qs g cap hhi hown hin hdis hr ih =>
    intro w WB B S gv gt N ba bc flat hsame hhw hB hbv hS hc hN
    have hlo := (hown.lt g rfl).1
    have hWBB := hbv.lt
    have hgW : g ≠ WB := by omega
    have hgS : ¬ S g := hS g hlo hhi
    have hgR : (Value.slice ba N bc).ownBlock ≠ some g := fun e => hgS (hbv.rS g e)
    have hgq : ∀ q, q ∈ qs → ¬ (q.lo ≤ g ∧ g < q.hi) := fun q hq => (hin q hq).2.2.2
    have hlh : ∀ q, q ∈ qs → q.lo ≤ q.hi := fun q hq => (hin q hq).2.1
    have hlen := cntL_len (qs.map Oe.v)
    rw [List.length_map] at hlen
    have hlcap : qs.length ≤ cap := by
      rcases hown.2 with ⟨e, _⟩ | ⟨g', cap', cur, e, _, _, hcc, _⟩
      · cases e
      · cases e; exact hcc
    have hcnt : ∀ i, cntL ((qs.map Oe.v).take i) ≤ cntL (qs.map Oe.v) := cntL_take_le _
    have hrowg : ∀ W : World, W.heap[g]? = w.heap[g]? → W.ownsRow B 113 3 (.slice (some ⟨g, 0, none⟩) qs.length cap) qs.length ((qs.map Oe.pr).flatMap vcell) := by
      intro W hW
      refine ⟨hown.1, ?_⟩
      rcases hown.2 with ⟨e, _⟩ | ⟨g', cap', cur, e, k1, k2, k3⟩
      · cases e
      · cases e
        exact .inr ⟨g, cap, cur, rfl, by omega, (hW.trans (hsame g hlo hhi)).trans k2, k3⟩
    have hgsame : ∀ (i : Nat) (W : World), Kd w W WB B (Si S w.heap.size lo hi g qs i) gv gt N (N + cntL ((qs.map Oe.v).take i)) ba bc (Chi qs i) → W.heap[g]? = w.heap[g]? := fun i W hk =>
      hk.block g (by omega) hgW hgR (fun ⟨q, hq, h2⟩ => hgq q (List.mem_of_mem_take hq) h2)
    refine (kv_walk w WB B qs.length (by omega) (some ⟨g, 0, none⟩) cap gv gt (fun i W => Kd w W WB B (Si S w.heap.size lo hi g qs i) gv gt N (N + cntL ((qs.map Oe.v).take i)) ba bc (Chi qs i)) ?_ (fun i => (qs.getD i ⟨zV, .slice none 0 0, 0, 0⟩).x) ?_
      (fun W S2 N2 ba2 bc2 => S2 = (fun b => S b ∨ (lo ≤ b ∧ b < hi) ∨ w.heap.size ≤ b) ∧ N2 = N + cntL (qs.map Oe.v) ∧ ((Value.slice ba2 N2 bc2).ownBlock = (Value.slice ba N bc).ownBlock ∨ ∃ g, (Value.slice ba2 N2 bc2).ownBlock = some g ∧ w.heap.size ≤ g) ∧ W.os = w.os ∧ W.tape = w.tape ∧ W.output = w.output ∧ w.heap.size ≤ W.heap.size ∧ ∀ i, i < w.heap.size → i ≠ WB → (Value.slice ba N bc).ownBlock ≠ some i → ¬ Chi qs qs.length i → W.heap[i]? = w.heap[i]?) ?_).mono ?_
    · have := Kd.refl (hbv.mono (S' := Si S w.heap.size lo hi g qs 0) (fun b hb _ => .inl hb)) (Chi qs 0)
      exact this
    · intro i W hi' hkd
      have hq : qs.getD i ⟨zV, .slice none 0 0, 0, 0⟩ = qs[i] := getD_lt _ _ _ hi'
      have hmem : qs[i] ∈ qs := List.getElem_mem hi'
      obtain ⟨l1, l2, l3, l4⟩ := hin _ hmem
      obtain ⟨xa, xc, hx⟩ := (hr _ hmem).shape
      simp only [hq]
      refine ⟨g, xa, _, xc, rfl, hlcap, hx, ?_, ?_⟩
      · have hrow := hrowg W (hgsame i W hkd)
        have := hrow.cells (g := g) rfl (i * 3 + 2) qs[i].x (by
          rw [flat_get vcell 3 vcell_len _ i 2 (by omega), List.getElem?_map, List.getElem?_eq_getElem hi']
          rfl)
        rw [Addr.add_lit, Nat.zero_add] at this
        exact this
      · obtain ⟨ba1, bc1, flat1, hbv1, ht1⟩ := hkd.bk
        have hcv := cntL_take (qs.map Oe.v) i (by rw [List.length_map]; exact hi')
        rw [List.getElem_map] at hcv
        have hcv2 := cntV_eq qs[i].v
        have hc1 := hcnt (i + 1)
        have hsz := hkd.size
        refine (ih _ hmem W WB B (Si S w.heap.size lo hi g qs i) gv gt _ ba1 bc1 flat1 (fun b k1 k2 => ?_) (by omega) (by omega) hbv1 (fun b k1 k2 => ?_) (by omega) (by omega)).mono ?_
        · refine (hkd.block b (by omega) (by omega) (fun e => hS b (by omega) (by omega) (hbv.rS b e)) (fun ⟨q, hq', k3⟩ => ?_)).trans (hsame b (by omega) (by omega))
          obtain ⟨j, hj1, hj2, rfl⟩ := take_mem hq'
          exact apart hdis hlh (by omega) hi' hj2 ⟨k1, k2⟩ k3
        · rintro (k3 | k3 | ⟨_, _, _, k3⟩)
          · exact hS b (by omega) (by omega) k3
          · omega
          · refine k3 qs[i] ?_ ⟨k1, k2⟩
            rw [List.drop_eq_getElem_cons hi']
            exact List.mem_cons_self
        · rintro e w' ⟨rfl, hk2⟩
          refine ⟨rfl, ?_⟩
          have hN2 : N + cntL ((qs.map Oe.v).take i) + 1 + cntL qs[i].v.l = N + cntL ((qs.map Oe.v).take (i + 1)) := by omega
          rw [hN2] at hk2
          refine (Kd.then ht1 hkd.os hkd.tape hkd.output hkd.size hkd.block hk2 (ch := Chi qs (i + 1)) (fun b ⟨q, hq', k⟩ => ⟨q, ?_, k⟩) (fun b _ k => ⟨qs[i], ?_, k⟩)).weak (fun b hb hbs => ?_) (fun b hb => hb)
          · rw [List.take_succ_eq_append_getElem hi']
            exact List.mem_append_left _ hq'
          · rw [List.take_succ_eq_append_getElem hi']
            exact List.mem_append_right _ (List.mem_singleton.2 rfl)
          · rcases hb with (hb | hb | ⟨k1, k2, k3, k4⟩) | hb | hb
            · exact .inl hb
            · exact .inr (.inl hb)
            · exact .inr (.inr ⟨k1, k2, k3, fun q hq' => k4 q (by rw [List.drop_eq_getElem_cons hi']; exact List.mem_cons_of_mem _ hq')⟩)
            · refine .inr (.inr ⟨by omega, by omega, fun e => by subst e; exact l4 hb, fun q hq' => ?_⟩)
              obtain ⟨j, hj1, hj2, rfl⟩ := drop_mem hq'
              exact apart hdis hlh (by omega) hi' hj2 hb
            · exact .inr (.inl (by omega))
    · intro W hkd
      obtain ⟨ba1, bc1, flat1, hbv1, ht1⟩ := hkd.bk
      have htk : (qs.map Oe.v).take qs.length = qs.map Oe.v := List.take_of_length_le (by rw [List.length_map]; exact Nat.le_refl _)
      rw [htk] at hbv1 ht1
      have hsz := hkd.size
      refine ⟨Si S w.heap.size lo hi g qs qs.length, _, _, ba1, bc1, flat1, _, ⟨hbv1, hrowg W (hgsame _ W hkd), by omega, fun g' hg' => ?_, fun b hb _ => ?_, fun g' hg' => ?_, fun b hb => .inr (.inr (by omega))⟩, rfl, rfl, ht1, hkd.os, hkd.tape, hkd.output, hkd.size, hkd.block⟩
      · have : g = g' := by simpa [Value.ownBlock] using hg'
        subst this
        rintro (k | k | ⟨_, _, k, _⟩)
        · exact hgS k
        · omega
        · exact k rfl
      · rcases hb with hb | hb | ⟨k1, k2, _, _⟩
        · exact .inl hb
        · exact .inr (.inr hb)
        · exact .inr (.inl ⟨k1, k2⟩)
      · have : g = g' := by simpa [Value.ownBlock] using hg'
        subst this
        exact .inr (.inl ⟨hlo, hhi⟩)
    · rintro e w' ⟨rfl, W, S2, N2, ba2, bc2, ⟨rfl, rfl, ht, hos, htp, hou, hsz, hblk⟩, hkd⟩
      refine ⟨rfl, ?_⟩
      have := Kd.then ht hos htp hou hsz hblk hkd (ch := fun b => lo ≤ b ∧ b < hi) (fun b ⟨q, hq, k⟩ => ?_) (fun b _ k => ?_)
      · rw [show N + cntL (qs.map Oe.v) + 1 = N + 1 + cntL (qs.map Oe.v) by omega] at this
        exact this
      · have := hin q (List.mem_of_mem_take hq)
        exact ⟨by omega, by omega⟩
      · have : g = b := by simpa [Value.ownBlock] using k
        subst this
        exact ⟨hlo, hhi⟩
end Go.Proofs.YtlghcldiboecoaaGreatDoor
