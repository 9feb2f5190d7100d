/- The caller's books of bytes and of bodies, their marks among blocks S. -/
import Derived.Test.YtlghcldiboecoaaGreatDoorPKd
import Derived.Test.YtlghcldiboecoaaGreatDoorPCode
set_option linter.unusedVariables false
namespace Go.Proofs.YtlghcldiboecoaaGreatDoor
open Go.RowKit

/-- The i-th entry of the books of bytes, of bodies. -/
def EntS (W : World) (S : Nat → Prop) (flat : List Value) (i : Nat) : Prop :=
  ∃ l a b c, flat[i * 5]? = some l ∧ flat[i * 5 + 1]? = some a ∧ flat[i * 5 + 2]? = some b ∧ flat[i * 5 + 3]? = some c ∧ flat[i * 5 + 4]? = some (.int .i64 i) ∧ MfAt W S 5 (bmark i) l ∧ MfAt W S 5 (bmark i) a ∧ MfAt W S 5 (bmark i) b ∧ MfAt W S 5 (bmark i) c

def EntD (W : World) (S : Nat → Prop) (flat : List Value) (i : Nat) : Prop :=
  ∃ MB l a b c, flat[i * 5]? = some l ∧ flat[i * 5 + 1]? = some a ∧ flat[i * 5 + 2]? = some b ∧ flat[i * 5 + 3]? = some c ∧ flat[i * 5 + 4]? = some (.int .i64 i) ∧ MfAt W S 57 (dmark MB i) l ∧ MfAt W S 57 (dmark MB i) a ∧ MfAt W S 57 (dmark MB i) b ∧ MfAt W S 57 (dmark MB i) c

/-- The caller's world: x0 to x3 are its four cells ahead of the books. -/
structure Bc (W : World) (WB B : Nat) (S : Nat → Prop) (x0 x1 x2 x3 : Value) (N : Nat) (ba : Option Addr) (bc : Nat) (flat : List Value) (M : Nat) (da : Option Addr) (dc : Nat) (flad : List Value) : Prop where
  blk : W.heap[WB]? = some (.cells #[x0, x1, x2, x3, .slice ba N bc, .slice da M dc, .slice none 0 0, .slice none 0 0] 73)
  row : W.ownsRow B 120 5 (.slice ba N bc) N flat
  rod : W.ownsRow B 124 5 (.slice da M dc) M flad
  le : B ≤ W.heap.size
  ent : ∀ i, i < N → EntS W S flat i
  end' : ∀ i, i < M → EntD W S flad i
  sl : ∀ g, S g → g < W.heap.size

/-- What a step of the books at WB, whose rows lie from B on, leaves alone; where their marks lie now. -/
structure Go2 (WB B : Nat) (ch S S' : Nat → Prop) (W W' : World) : Prop where
  os : W'.os = W.os
  tape : W'.tape = W.tape
  output : W'.output = W.output
  size : W.heap.size ≤ W'.heap.size
  same : ∀ i, i < W.heap.size → i ≠ WB → (i < B ∨ ∀ cs t, W.heap[i]? = some (.cells cs t) → t ≠ 120 ∧ t ≠ 124) → ¬ ch i → W'.heap[i]? = W.heap[i]?
  new : ∀ g, S' g → S g ∨ ch g ∨ W.heap.size ≤ g

variable {W W' W'' : World} {WB B : Nat} {S S' S'' ch ch' : Nat → Prop} {x0 x1 x2 x3 : Value} {N : Nat} {ba : Option Addr} {bc : Nat} {flat : List Value} {M : Nat} {da : Option Addr} {dc : Nat} {flad : List Value}

theorem Go2.refl : Go2 WB B ch S S W W := ⟨rfl, rfl, rfl, Nat.le_refl _, fun _ _ _ _ _ => rfl, fun _ h => .inl h⟩
theorem Go2.mono (h : Go2 WB B ch S S' W W') (hc : ∀ g, ch g → ch' g) : Go2 WB B ch' S S' W W' :=
  ⟨h.os, h.tape, h.output, h.size, fun i h0 h1 h2 h4 => h.same i h0 h1 h2 (fun x => h4 (hc _ x)), fun g hg => (h.new g hg).imp id (fun x => x.imp (hc g) id)⟩

theorem Go2.trans (h : Go2 WB B ch S S' W W') (h' : Go2 WB B ch S' S'' W' W'') : Go2 WB B ch S S'' W W'' :=
  ⟨h'.os.trans h.os, h'.tape.trans h.tape, h'.output.trans h.output, Nat.le_trans h.size h'.size, fun i h0 h1 h2 h4 => by
    have e := h.same i h0 h1 h2 h4
    exact (h'.same i (Nat.lt_of_lt_of_le h0 h.size) h1 (by rw [e]; exact h2) h4).trans e, fun g hg => by
    rcases h'.new g hg with h1 | h1 | h1
    · exact h.new g h1
    · exact .inr (.inl h1)
    · exact .inr (.inr (Nat.le_trans h.size h1))⟩

theorem Go2.cells (h : Go2 WB B ch S S' W W') {i : Nat} {cs : Array Value} {t : TypeId} (hi : W.heap[i]? = some (.cells cs t)) (h0 : i ≠ WB) (h1 : t ≠ 120) (h2 : t ≠ 124) (h3 : ¬ ch i) : W'.heap[i]? = W.heap[i]? :=
  h.same i (ltOf hi) h0 (.inr fun cs' t' h' => by rw [hi] at h'; cases h'; exact ⟨h1, h2⟩) h3

theorem get_more {flat more : List Value} {j : Nat} {u : Value} (h : flat[j]? = some u) : (flat ++ more)[j]? = some u := by
  rw [List.getElem?_append_left (List.getElem?_eq_some_iff.1 h).1]; exact h

theorem EntS.keep {i : Nat} {more : List Value} (h : EntS W S flat i) (hs : ∀ g cs, S g → W.heap[g]? = some (.cells cs 5) → W'.heap[g]? = W.heap[g]?) (hSS : ∀ g, S g → S' g) : EntS W' S' (flat ++ more) i := by
  obtain ⟨l, a, b, c, h0, h1, h2, h3, h4, m0, m1, m2, m3⟩ := h
  exact ⟨l, a, b, c, get_more h0, get_more h1, get_more h2, get_more h3, get_more h4, m0.keep hs (fun g _ h _ => hSS g h), m1.keep hs (fun g _ h _ => hSS g h), m2.keep hs (fun g _ h _ => hSS g h), m3.keep hs (fun g _ h _ => hSS g h)⟩

theorem EntD.keep {i : Nat} {more : List Value} (h : EntD W S flat i) (hs : ∀ g cs, S g → W.heap[g]? = some (.cells cs 57) → W'.heap[g]? = W.heap[g]?) (hSS : ∀ g, S g → S' g) : EntD W' S' (flat ++ more) i := by
  obtain ⟨MB, l, a, b, c, h0, h1, h2, h3, h4, m0, m1, m2, m3⟩ := h
  exact ⟨MB, l, a, b, c, get_more h0, get_more h1, get_more h2, get_more h3, get_more h4, m0.keep hs (fun g _ h _ => hSS g h), m1.keep hs (fun g _ h _ => hSS g h), m2.keep hs (fun g _ h _ => hSS g h), m3.keep hs (fun g _ h _ => hSS g h)⟩

theorem own_sameS {e : TypeId} {size n : Nat} {v : Value} {xs : List Value} (h : W.ownsRow B e size v n xs) (hs : ∀ g cs, v.ownBlock = some g → W.heap[g]? = some (.cells cs e) → W'.heap[g]? = W.heap[g]?) : W'.ownsRow B e size v n xs := by
  refine ⟨h.1, ?_⟩
  rcases h.2 with h0 | ⟨g, cap, cur, hv, k1, k2, k3⟩
  · exact .inl h0
  · exact .inr ⟨g, cap, cur, hv, k1, (hs g cur (by rw [hv]; rfl) k2).trans k2, k3⟩

theorem Bc.keep (h : Bc W WB B S x0 x1 x2 x3 N ba bc flat M da dc flad) (hsz : W.heap.size ≤ W'.heap.size)
    (hs : ∀ i cs t, W.heap[i]? = some (.cells cs t) → t = 73 ∨ t = 120 ∨ t = 124 ∨ (S i ∧ (t = 5 ∨ t = 57)) → W'.heap[i]? = W.heap[i]?) : Bc W' WB B S x0 x1 x2 x3 N ba bc flat M da dc flad := by
  refine ⟨(hs _ _ _ h.blk (.inl rfl)).trans h.blk, own_sameS h.row (fun g cs _ hg => hs g cs _ hg (.inr (.inl rfl))), own_sameS h.rod (fun g cs _ hg => hs g cs _ hg (.inr (.inr (.inl rfl)))), Nat.le_trans h.le hsz, fun i hi => ?_, fun i hi => ?_, fun g hg => Nat.lt_of_lt_of_le (h.sl g hg) hsz⟩
  · have := (h.ent i hi).keep (W' := W') (S' := S) (more := []) (fun g cs hg hc => hs g cs 5 hc (.inr (.inr (.inr ⟨hg, .inl rfl⟩)))) (fun _ h => h)
    rwa [List.append_nil] at this
  · have := (h.end' i hi).keep (W' := W') (S' := S) (more := []) (fun g cs hg hc => hs g cs 57 hc (.inr (.inr (.inr ⟨hg, .inr rfl⟩)))) (fun _ h => h)
    rwa [List.append_nil] at this

theorem Bc.below (h : Bc W WB B S x0 x1 x2 x3 N ba bc flat M da dc flad) (hb : Below W.heap.size W W') : Bc W' WB B S x0 x1 x2 x3 N ba bc flat M da dc flad :=
  h.keep hb.size (fun i cs t hi _ => hb.block i (ltOf hi))

theorem MfAt.mk {i : Nat} {v : Value} (h : MfAt W S 5 (bmark i) v) : MkAt W W.heap.size i v := by
  obtain ⟨la, ln, lc, hv, h1, h2, h3⟩ := h
  refine ⟨la, ln, lc, hv, h1, h2, fun j hj => ?_⟩
  obtain ⟨g, cs, hg, _, ht, hc⟩ := h3 j hj
  exact ⟨g, hg, ltOf ht, hc⟩

theorem MfAt.mb {i MB : Nat} {v : Value} (h : MfAt W S 57 (dmark MB i) v) : MbAt W W.heap.size i v := by
  obtain ⟨la, ln, lc, hv, h1, h2, h3⟩ := h
  refine ⟨la, ln, lc, hv, h1, h2, fun j hj => ?_⟩
  obtain ⟨g, cs, hg, _, ht, hc⟩ := h3 j hj
  exact ⟨g, _, _, hg, ltOf ht, hc, cs, ht⟩

theorem Bc.whole (h : Bc W WB B S x0 x1 x2 x3 N ba bc flat M da dc flad) (hN : N ≤ 140737488355328) (hM : M ≤ 1000000000) :
    Calls Tryz.prog 27 #[.pointer (some ⟨WB, 4, none⟩)] W fun e w' => e = .returned (.bool true) ∧ Below W.heap.size W w' := by
  refine wholeB_any W WB 4 ba N bc da M dc (ltOf h.blk) hN hM (cellOf h.blk rfl) (cellOf h.blk rfl) (cellOf h.blk rfl) (cellOf h.blk rfl) (fun i hi => ?_) (fun i hi => ?_)
  · obtain ⟨l, a, b, c, h0, h1, h2, h3, h4, m0, m1, m2, m3⟩ := h.ent i hi
    rcases h.row.2 with ⟨_, h0'⟩ | ⟨g, cap, cur, hv, k1, k2, k3, _⟩
    · omega
    · cases hv
      have hc : ∀ j u, flat[j]? = some u → W.cell? ⟨g, j, none⟩ = some u := fun j u hj => by
        have := h.row.cells (g := g) rfl j u hj
        rwa [Addr.add_lit, Nat.zero_add] at this
      exact ⟨g, l, a, b, c, rfl, ltOf k2, k3, hc _ _ h0, hc _ _ h1, hc _ _ h2, hc _ _ h3, hc _ _ h4, m0.mk, m1.mk, m2.mk, m3.mk⟩
  · obtain ⟨MB, l, a, b, c, h0, h1, h2, h3, h4, m0, m1, m2, m3⟩ := h.end' i hi
    rcases h.rod.2 with ⟨_, h0'⟩ | ⟨g, cap, cur, hv, k1, k2, k3, _⟩
    · omega
    · cases hv
      have hc : ∀ j u, flad[j]? = some u → W.cell? ⟨g, j, none⟩ = some u := fun j u hj => by
        have := h.rod.cells (g := g) rfl j u hj
        rwa [Addr.add_lit, Nat.zero_add] at this
      exact ⟨g, l, a, b, c, rfl, ltOf k2, k3, hc _ _ h0, hc _ _ h1, hc _ _ h2, hc _ _ h3, hc _ _ h4, m0.mb, m1.mb, m2.mb, m3.mb⟩

theorem get_new {flat : List Value} {n : Nat} (h : flat.length = n * 5) (l a b c z : Value) : (flat ++ [l, a, b, c, z])[n * 5]? = some l ∧ (flat ++ [l, a, b, c, z])[n * 5 + 1]? = some a ∧ (flat ++ [l, a, b, c, z])[n * 5 + 2]? = some b ∧ (flat ++ [l, a, b, c, z])[n * 5 + 3]? = some c ∧ (flat ++ [l, a, b, c, z])[n * 5 + 4]? = some z := by
  refine ⟨?_, ?_, ?_, ?_, ?_⟩ <;> rw [List.getElem?_append_right (by omega), h] <;> simp [Nat.add_sub_cancel_left]

/-- A list of bytes is kept. -/
theorem Bc.kb (h : Bc W WB B S x0 x1 x2 x3 N ba bc flat M da dc flad) (hN : N ≤ 1000000000) (lv : Value) (k : Nat) (xs : List Value) (hk : k ≤ 1500) (hown : W.ownsRow 0 5 1 lv k xs) (hlS : ∀ g, lv.ownBlock = some g → ¬ S g) :
    Calls Tryz.prog 85 #[.pointer (some ⟨WB, 4, none⟩), lv] W fun e W' => e = .returned (.tuple #[]) ∧ ∃ S' ba' bc' flat', Bc W' WB B S' x0 x1 x2 x3 (N + 1) ba' bc' flat' M da dc flad ∧ Go2 WB B (fun g => lv.ownBlock = some g) S S' W W' := by
  refine (keepBytes_wide W WB 4 _ 73 ba N bc h.blk rfl (by decide) (by decide) B flat h.row h.le lv k xs hk hN hown).mono ?_
  rintro e W' ⟨rfl, ba', bc', l, a, b, c, H⟩
  have hlt : ∀ g cs t, lv.ownBlock = some g → W.heap[g]? = some (.cells cs t) → t = 5 := fun g cs t hg ht => by
    obtain ⟨c1, t1⟩ := own_type hown hg
    rw [ht] at t1; cases t1; rfl
  have hrt : ∀ g cs t, (Value.slice ba N bc).ownBlock = some g → W.heap[g]? = some (.cells cs t) → t = 120 := fun g cs t hg ht => by
    obtain ⟨c1, t1⟩ := own_type h.row hg
    rw [ht] at t1; cases t1; rfl
  have hwt : ∀ cs t, W.heap[WB]? = some (.cells cs t) → t = 73 := fun cs t ht => by
    have := h.blk
    rw [ht] at this; cases this; rfl
  have hsame : ∀ i cs t, W.heap[i]? = some (.cells cs t) → t ≠ 73 → t ≠ 120 → lv.ownBlock ≠ some i → W'.heap[i]? = W.heap[i]? := fun i cs t hi h1 h2 h3 =>
    H.same i (ltOf hi) (fun e => by subst e; exact h1 (hwt cs t hi)) (fun e => h2 (hrt i cs t e hi)) h3
  have hrow : ∀ i, (i < B ∨ ∀ cs t, W.heap[i]? = some (.cells cs t) → t ≠ 120 ∧ t ≠ 124) → (Value.slice ba N bc).ownBlock ≠ some i := fun i hi e => by
    have h1 := (h.row.lt i e).1
    obtain ⟨c1, t1⟩ := own_type h.row e
    rcases hi with hi | hi
    · omega
    · exact (hi _ _ t1).1 rfl
  refine ⟨rfl, fun g => (S g ∨ lv.ownBlock = some g ∨ W.heap.size ≤ g) ∧ g < W'.heap.size, ba', bc', _, ⟨H.kb, H.row, own_sameS h.rod (fun g cs hg ht => hsame g cs _ ht (by decide) (by decide) (fun e => by cases hlt g cs _ e ht)), Nat.le_trans h.le H.size, fun i hi => ?_, fun i hi => ?_, fun g hg => hg.2⟩, ⟨H.os, H.tape, H.output, H.size, fun i hi h1 h2 h4 => H.same i hi h1 (hrow i h2) h4, fun g hg => hg.1⟩⟩
  · by_cases hiN : i < N
    · exact (h.ent i hiN).keep (fun g cs hg ht => hsame g cs _ ht (by decide) (by decide) (fun e => hlS g e hg)) (fun g hg => ⟨.inl hg, Nat.lt_of_lt_of_le (h.sl g hg) H.size⟩)
    · obtain rfl : i = N := by omega
      obtain ⟨g0, g1, g2, g3, g4⟩ := get_new (n := i) h.row.1 l a b c (.int .i64 i)
      exact ⟨l, a, b, c, g0, g1, g2, g3, g4, H.ml.keep (fun _ _ _ _ => rfl) (fun g cs hg ht => ⟨.inr hg, ltOf ht⟩), H.ma.keep (fun _ _ _ _ => rfl) (fun g cs hg ht => ⟨.inr hg, ltOf ht⟩), H.mb.keep (fun _ _ _ _ => rfl) (fun g cs hg ht => ⟨.inr hg, ltOf ht⟩), H.mc.keep (fun _ _ _ _ => rfl) (fun g cs hg ht => ⟨.inr hg, ltOf ht⟩)⟩
  · have := (h.end' i hi).keep (W' := W') (S' := fun g => (S g ∨ lv.ownBlock = some g ∨ W.heap.size ≤ g) ∧ g < W'.heap.size) (more := []) (fun g cs hg ht => hsame g cs _ ht (by decide) (by decide) (fun e => hlS g e hg)) (fun g hg => ⟨.inl hg, Nat.lt_of_lt_of_le (h.sl g hg) H.size⟩)
    rwa [List.append_nil] at this

/-- A list of bodies is kept, and they. -/
theorem Bc.kd (h : Bc W WB B S x0 x1 x2 x3 N ba bc flat M da dc flad) (k : Nat) (hk : k ≤ 2000000) (hN : N + k ≤ 1000000000) (hM : M ≤ 1000000000) (la : Option Addr) (lc : Nat) (xs : List Value) (hlst : W.ownsRow 0 57 1 (.slice la k lc) k xs) (hlS : ∀ g, (Value.slice la k lc).ownBlock = some g → ¬ S g)
    (hb : ∀ (i : Nat) (x : Value), xs[i]? = some x → ∃ r n c ys, x = .slice (some ⟨r, 0, none⟩) n c ∧ n ≤ 1500 ∧ W.ownsRow 0 5 1 x n ys ∧ ¬ S r) (hd : ∀ (i j : Nat) (x y : Value), xs[i]? = some x → xs[j]? = some y → i ≠ j → x.ownBlock ≠ y.ownBlock) :
    Calls Tryz.prog 100 #[.pointer (some ⟨WB, 4, none⟩), .slice la k lc] W fun e W' => e = .returned (.tuple #[]) ∧ ∃ S' N' ba' bc' flat' da' dc' flad', N' = N + k ∧ Bc W' WB B S' x0 x1 x2 x3 N' ba' bc' flat' (M + 1) da' dc' flad' ∧
      Go2 WB B (fun g => (Value.slice la k lc).ownBlock = some g ∨ ∃ x, x ∈ xs ∧ x.ownBlock = some g) S S' W W' := by
  have hxl : xs.length = k := by have := hlst.1; omega
  have hlt : ∀ g cs t, (Value.slice la k lc).ownBlock = some g → W.heap[g]? = some (.cells cs t) → t = 57 := fun g cs t hg ht => by
    obtain ⟨c1, t1⟩ := own_type hlst hg
    rw [ht] at t1; cases t1; rfl
  have hbt : ∀ (i : Nat) (x : Value) (g : Nat) cs t, xs[i]? = some x → x.ownBlock = some g → W.heap[g]? = some (.cells cs t) → t = 5 := fun i x g cs t hx hg ht => by
    obtain ⟨r, n, c, ys, rfl, _, ho, _⟩ := hb i x hx
    obtain ⟨c1, t1⟩ := own_type ho hg
    rw [ht] at t1; cases t1; rfl
  let I : Nat → World → Prop := fun i W' => ∃ S' ba' bc' flat', Bc W' WB B S' x0 x1 x2 x3 (N + i) ba' bc' flat' M da dc flad ∧ Go2 WB B (fun g => ∃ (j : Nat) (x : Value), j < i ∧ xs[j]? = some x ∧ x.ownBlock = some g) S S' W W'
  have hkeepL : ∀ {i W' S'}, Go2 WB B (fun g => ∃ (j : Nat) (x : Value), j < i ∧ xs[j]? = some x ∧ x.ownBlock = some g) S S' W W' → W'.ownsRow 0 57 1 (.slice la k lc) k xs := fun G => own_sameS hlst (fun g cs hg ht => G.cells ht (fun e => by have := h.blk; rw [← e, ht] at this; cases this) (by decide) (by decide) (fun ⟨j, x, _, hx, hxg⟩ => by cases hbt j x g cs _ hx hxg ht))
  refine (kbd_walk W WB B k hk la lc I ⟨S, ba, bc, flat, h, .refl⟩ (fun i => xs.getD i (.slice none 0 0)) ?_ (fun W' cs M' da' dc' flad' => M' = M ∧ da' = da ∧ dc' = dc ∧ flad' = flad ∧ I k W' ∧ ∃ ba' bc', cs = #[x0, x1, x2, x3, .slice ba' (N + k) bc', .slice da M dc, .slice none 0 0, .slice none 0 0] ∧ W'.heap[WB]? = some (.cells cs 73)) ?_).mono ?_
  · intro i W' hi ⟨S', ba', bc', flat', hB, G⟩
    have hx : xs[i]? = some (xs.getD i (.slice none 0 0)) := by simp [List.getD, List.getElem?_eq_getElem (show i < xs.length by omega)]
    obtain ⟨r, n, c, ys, hxe, hn, ho, hS⟩ := hb i _ hx
    have hL := hkeepL G
    rcases hL.2 with ⟨hz, h0⟩ | ⟨g, cap, cur, hv, _, hg, hcap, _⟩
    · omega
    · cases hv
      refine ⟨g, _, _, _, rfl, hcap, hxe, ?_, ?_⟩
      · have := hL.cells (g := g) rfl i _ hx
        rwa [Addr.add_lit, Nat.zero_add] at this
      · have ho' : W'.ownsRow 0 5 1 (xs.getD i (.slice none 0 0)) n ys := own_sameS ho (fun g' cs hg' ht => G.cells ht (fun e => by have := h.blk; rw [← e, ht] at this; cases this) (by decide) (by decide) (fun ⟨j, x, hj, hxj, hxg⟩ => hd i j _ x hx hxj (by omega) (hg'.trans hxg.symm)))
        refine (hB.kb (by omega) _ n ys hn ho' (fun g' hg' hS' => ?_)).mono ?_
        · rcases G.new g' hS' with h1 | ⟨j, x, hj, hxj, hxg⟩ | h1
          · rw [hxe] at hg'
            cases hg'
            exact hS h1
          · exact hd i j _ x hx hxj (by omega) (hg'.trans hxg.symm)
          · obtain ⟨c1, t1⟩ := own_type ho hg'
            have := ltOf t1
            omega
        · rintro e W2 ⟨rfl, S2, ba2, bc2, flat2, hB2, G2⟩
          exact ⟨rfl, S2, ba2, bc2, flat2, hB2, (G.mono (fun g' ⟨j, x, hj, h⟩ => ⟨j, x, by omega, h⟩)).trans (G2.mono (fun g' hg' => ⟨i, _, by omega, hx, hg'⟩))⟩
  · intro W' hI
    obtain ⟨S', ba', bc', flat', hB, G⟩ := id hI
    exact ⟨_, M, da, dc, flad, xs, ⟨hB.blk, rfl, hB.rod, hB.le, hM, hkeepL G⟩, rfl, rfl, rfl, rfl, hI, ba', bc', rfl, hB.blk⟩
  · rintro e W2 ⟨rfl, W', cs, M', da', dc', flad', MB, da2, dc2, l, a, b, c, ⟨rfl, rfl, rfl, rfl, ⟨S', ba', bc', flat', hB, G⟩, ba1, bc1, rfl, hcs⟩, H⟩
    have hcs' := hcs
    rw [hB.blk] at hcs'
    simp only [Option.some.injEq, Obj.cells.injEq] at hcs'
    obtain ⟨hcs', _⟩ := hcs'
    have hL := hkeepL G
    have hlt' : ∀ g cs t, (Value.slice la k lc).ownBlock = some g → W'.heap[g]? = some (.cells cs t) → t = 57 := fun g cs t hg ht => by
      obtain ⟨c1, t1⟩ := own_type hL hg
      rw [ht] at t1; cases t1; rfl
    have hrt : ∀ g cs t, (Value.slice da' M' dc').ownBlock = some g → W'.heap[g]? = some (.cells cs t) → t = 124 := fun g cs t hg ht => by
      obtain ⟨c1, t1⟩ := own_type hB.rod hg
      rw [ht] at t1; cases t1; rfl
    have hwt : ∀ cs t, W'.heap[WB]? = some (.cells cs t) → t = 73 := fun cs t ht => by
      have := hB.blk
      rw [ht] at this; cases this; rfl
    have hsame : ∀ i cs t, W'.heap[i]? = some (.cells cs t) → t ≠ 73 → t ≠ 124 → (Value.slice la k lc).ownBlock ≠ some i → W2.heap[i]? = W'.heap[i]? := fun i cs t hi h1 h2 h3 =>
      H.same i (ltOf hi) (fun e => by subst e; exact h1 (hwt cs t hi)) (fun e => h2 (hrt i cs t e hi)) h3
    have hlS' : ∀ g, (Value.slice la k lc).ownBlock = some g → ¬ S' g := fun g hg hS => by
      obtain ⟨c1, t1⟩ := own_type hlst hg
      rcases G.new g hS with h1 | ⟨j, x, hj, hxj, hxg⟩ | h1
      · exact hlS g hg h1
      · cases hbt j x g _ _ hxj hxg t1
      · have := ltOf t1
        omega
    have hrow : ∀ i, (i < B ∨ ∀ cs t, W'.heap[i]? = some (.cells cs t) → t ≠ 120 ∧ t ≠ 124) → (Value.slice da' M' dc').ownBlock ≠ some i := fun i hi e => by
      have h1 := (hB.rod.lt i e).1
      obtain ⟨c1, t1⟩ := own_type hB.rod e
      rcases hi with hi | hi
      · omega
      · exact (hi _ _ t1).2 rfl
    refine ⟨rfl, fun g => (S' g ∨ (Value.slice la k lc).ownBlock = some g ∨ W'.heap.size ≤ g) ∧ g < W2.heap.size, N + k, ba', bc', flat', da2, dc2, _, rfl, ⟨?_, own_sameS hB.row (fun g cs hg ht => hsame g cs _ ht (by decide) (by decide) (fun e => by cases hlt' g cs _ e ht)), H.row, Nat.le_trans hB.le H.size, fun i hi => ?_, fun i hi => ?_, fun g hg => hg.2⟩, ?_⟩
    · have := H.kb
      rw [← hcs'] at this
      exact this
    · have := (hB.ent i hi).keep (W' := W2) (S' := fun g => (S' g ∨ (Value.slice la k lc).ownBlock = some g ∨ W'.heap.size ≤ g) ∧ g < W2.heap.size) (more := []) (fun g cs hg ht => hsame g cs _ ht (by decide) (by decide) (fun e => hlS' g e hg)) (fun g hg => ⟨.inl hg, Nat.lt_of_lt_of_le (hB.sl g hg) H.size⟩)
      rwa [List.append_nil] at this
    · by_cases hiM : i < M'
      · exact (hB.end' i hiM).keep (fun g cs hg ht => hsame g cs _ ht (by decide) (by decide) (fun e => hlS' g e hg)) (fun g hg => ⟨.inl hg, Nat.lt_of_lt_of_le (hB.sl g hg) H.size⟩)
      · obtain rfl : i = M' := by omega
        obtain ⟨g0, g1, g2, g3, g4⟩ := get_new (n := i) hB.rod.1 l a b c (.int .i64 i)
        exact ⟨MB, l, a, b, c, g0, g1, g2, g3, g4, H.ml.keep (fun _ _ _ _ => rfl) (fun g cs hg ht => ⟨.inr hg, ltOf ht⟩), H.ma.keep (fun _ _ _ _ => rfl) (fun g cs hg ht => ⟨.inr hg, ltOf ht⟩), H.mb.keep (fun _ _ _ _ => rfl) (fun g cs hg ht => ⟨.inr hg, ltOf ht⟩), H.mc.keep (fun _ _ _ _ => rfl) (fun g cs hg ht => ⟨.inr hg, ltOf ht⟩)⟩
    · refine (G.mono (fun g ⟨j, x, hj, hx, hg⟩ => .inr ⟨x, List.mem_of_getElem? hx, hg⟩)).trans ⟨H.os, H.tape, H.output, H.size, fun i hi h1 h2 h4 => H.same i hi h1 (hrow i h2) (fun e => h4 (.inl e)), fun g hg => ?_⟩
      rcases hg.1 with h1 | h1 | h1
      · exact .inl h1
      · exact .inr (.inl (.inl h1))
      · exact .inr (.inr h1)

end Go.Proofs.YtlghcldiboecoaaGreatDoor

/- The readers of the caller's world: the program's and the document's. -/
set_option linter.unusedVariables false
namespace Go.Proofs.YtlghcldiboecoaaGreatDoor
open Go.RowKit

/-- Two readers of one number: where they lie, what they hold. -/
structure Rd where
  R : Nat
  Q : Nat
  pv : Value
  av : Value
  p : List UInt8
  all : List UInt8
  tl : Bool
  told : Nat

/-- Their blocks. -/
def Rd.blk (r : Rd) (g : Nat) : Prop := g = r.R ∨ g = r.Q ∨ r.pv.ownBlock = some g ∨ r.av.ownBlock = some g

structure Rd.At (r : Rd) (v : World) (tot : Nat) : Prop where
  rR : v.heap[r.R]? = some (.cells #[r.pv, .bool r.tl] 237)
  part : Go.Pair.RowIs v 5 (Cu.bc r.p) r.pv
  rQ : v.heap[r.Q]? = some (.cells #[r.av, .int .i64 r.told, .bool r.tl] 177)
  all : v.ownsRow 0 5 1 r.av r.all.length (bcells r.all)
  tw : Twins r.all r.p r.tl r.told
  len : r.all.length ≤ tot
  apart : ∀ g, r.pv.ownBlock = some g → r.av.ownBlock ≠ some g

theorem Rd.At.keep {r : Rd} {v v' : World} {tot tot' : Nat} (h : r.At v tot) (hs : ∀ g cs t, r.blk g → v.heap[g]? = some (.cells cs t) → t = 237 ∨ t = 177 ∨ t = 5 → v'.heap[g]? = v.heap[g]?) (ht : tot ≤ tot') : r.At v' tot' := by
  refine ⟨(hs _ _ _ (.inl rfl) h.rR (.inl rfl)).trans h.rR, ?_, (hs _ _ _ (.inr (.inl rfl)) h.rQ (.inr (.inl rfl))).trans h.rQ, own_sameS h.all (fun g cs hg hc => hs g cs _ (.inr (.inr (.inr hg))) hc (.inr (.inr rfl))), h.tw, Nat.le_trans h.len ht, h.apart⟩
  rcases h.part with h0 | ⟨q, c, cells, h1, h2, h3, h4⟩
  · exact .inl h0
  · exact .inr ⟨q, c, cells, h1, h2, (hs q _ _ (.inr (.inr (.inl (by rw [h1]; rfl)))) h3 (.inr (.inr rfl))).trans h3, h4⟩

theorem Rd.At.type {r : Rd} {v : World} {tot g : Nat} {cs : Array Value} {t : TypeId} (h : r.At v tot) (hg : r.blk g) (hc : v.heap[g]? = some (.cells cs t)) : t = 237 ∨ t = 177 ∨ t = 5 := by
  rcases hg with rfl | rfl | hg | hg
  · rw [h.rR] at hc; cases hc; exact .inl rfl
  · rw [h.rQ] at hc; cases hc; exact .inr (.inl rfl)
  · obtain ⟨c1, t1⟩ := own_type (Go.Pair.RowIs.row h.part) hg
    rw [hc] at t1; cases t1; exact .inr (.inr rfl)
  · obtain ⟨c1, t1⟩ := own_type h.all hg
    rw [hc] at t1; cases t1; exact .inr (.inr rfl)

theorem Rd.At.lt {r : Rd} {v : World} {tot g : Nat} (h : r.At v tot) (hg : r.blk g) : g < v.heap.size := by
  rcases hg with rfl | rfl | hg | hg
  · exact ltOf h.rR
  · exact ltOf h.rQ
  · obtain ⟨c1, t1⟩ := own_type (Go.Pair.RowIs.row h.part) hg
    exact ltOf t1
  · obtain ⟨c1, t1⟩ := own_type h.all hg
    exact ltOf t1

/-- The list of the readers. -/
def rcells (rds : List Rd) : List Value := rds.flatMap fun r => [.pointer (some ⟨r.R, 0, none⟩), .pointer (some ⟨r.Q, 0, none⟩)]

theorem rcells_get {rds : List Rd} {i : Nat} {r : Rd} (h : rds[i]? = some r) : (rcells rds)[i * 2]? = some (.pointer (some ⟨r.R, 0, none⟩)) ∧ (rcells rds)[i * 2 + 1]? = some (.pointer (some ⟨r.Q, 0, none⟩)) := by
  induction rds generalizing i with
  | nil => simp at h
  | cons x l ih =>
    cases i with
    | zero => simp at h; subst h; simp [rcells]
    | succ i =>
      have := ih (i := i) (by simpa using h)
      rw [show (i + 1) * 2 = i * 2 + 2 by omega]
      simpa [rcells] using this

theorem rcells_add (rds : List Rd) (r : Rd) : rcells (rds ++ [r]) = rcells rds ++ [.pointer (some ⟨r.R, 0, none⟩), .pointer (some ⟨r.Q, 0, none⟩)] := by simp [rcells]
theorem rcells_set {rds : List Rd} {i : Nat} {r r' : Rd} (h : rds[i]? = some r) (h1 : r'.R = r.R) (h2 : r'.Q = r.Q) : rcells (rds.set i r') = rcells rds := by
  induction rds generalizing i with
  | nil => rfl
  | cons x l ih =>
    cases i with
    | zero => simp at h; subst h; simp [rcells, h1, h2]
    | succ i =>
      have := ih (i := i) (by simpa using h)
      simp only [rcells, List.set_cons_succ, List.flatMap_cons] at *
      rw [this]

/-- The caller's world, its books, its readers. -/
structure Rw (v : World) (L WB : Nat) (S : Nat → Prop) (x0 x1 : Value) (ra : Option Addr) (rc : Nat) (rds : List Rd) (tot N M : Nat) : Prop where
  bk : ∃ ba bc flat da dc flad, Bc v WB L S x0 x1 (.slice ra rds.length rc) (.slice none 0 0) N ba bc flat M da dc flad
  row : v.ownsRow L 179 2 (.slice ra rds.length rc) rds.length (rcells rds)
  rd : ∀ (i : Nat) (r : Rd), rds[i]? = some r → r.At v tot
  dis : ∀ (i j : Nat) (r s : Rd), rds[i]? = some r → rds[j]? = some s → i ≠ j → ∀ g, r.blk g → ¬ s.blk g
  sep : ∀ (i : Nat) (r : Rd), rds[i]? = some r → ∀ g, r.blk g → ¬ S g ∧ L ≤ g
  sL : ∀ g, S g → L ≤ g
  wl : WB < L

/-- What lies below stays. -/
def Los (L WB : Nat) (v v' : World) : Prop := v.heap.size ≤ v'.heap.size ∧ ∀ i, i < L → i ≠ WB → v'.heap[i]? = v.heap[i]?

theorem Los.trans {L WB : Nat} {v v' v'' : World} (h : Los L WB v v') (h' : Los L WB v' v'') : Los L WB v v'' := ⟨Nat.le_trans h.1 h'.1, fun i hi hn => (h'.2 i hi hn).trans (h.2 i hi hn)⟩
section
variable {v v' : World} {L WB : Nat} {S : Nat → Prop} {x0 x1 : Value} {ra : Option Addr} {rc : Nat} {rds : List Rd} {tot tot' N M : Nat}

theorem Rw.le (h : Rw v L WB S x0 x1 ra rc rds tot N M) : L ≤ v.heap.size := by
  obtain ⟨_, _, _, _, _, _, hb⟩ := h.bk
  exact hb.le

theorem Rw.keep (h : Rw v L WB S x0 x1 ra rc rds tot N M) (hsz : v.heap.size ≤ v'.heap.size) (ht : tot ≤ tot') (hs : ∀ i cs t, v.heap[i]? = some (.cells cs t) → i = WB ∨ L ≤ i → v'.heap[i]? = v.heap[i]?) : Rw v' L WB S x0 x1 ra rc rds tot' N M := by
  obtain ⟨ba, bc, flat, da, dc, flad, hb⟩ := h.bk
  refine ⟨⟨ba, bc, flat, da, dc, flad, ?_⟩, own_sameS h.row (fun g cs hg ht => hs g cs _ ht (.inr (h.row.lt g hg).1)), fun i r hr => (h.rd i r hr).keep (fun g cs t hg hc _ => hs g cs t hc (.inr (h.sep i r hr g hg).2)) ht, h.dis, h.sep, h.sL, h.wl⟩
  refine ⟨(hs _ _ _ hb.blk (.inl rfl)).trans hb.blk, own_sameS hb.row (fun g cs hg ht => hs g cs _ ht (.inr (hb.row.lt g hg).1)), own_sameS hb.rod (fun g cs hg ht => hs g cs _ ht (.inr (hb.rod.lt g hg).1)), Nat.le_trans hb.le hsz, fun i hi => ?_, fun i hi => ?_, fun g hg => Nat.lt_of_lt_of_le (hb.sl g hg) hsz⟩
  · have := (hb.ent i hi).keep (W' := v') (S' := S) (more := []) (fun g cs hg hc => hs g cs 5 hc (.inr (h.sL g hg))) (fun _ h => h)
    rwa [List.append_nil] at this
  · have := (hb.end' i hi).keep (W' := v') (S' := S) (more := []) (fun g cs hg hc => hs g cs 57 hc (.inr (h.sL g hg))) (fun _ h => h)
    rwa [List.append_nil] at this

theorem Rw.below (h : Rw v L WB S x0 x1 ra rc rds tot N M) (hb : Below v.heap.size v v') : Rw v' L WB S x0 x1 ra rc rds tot N M :=
  h.keep hb.size (Nat.le_refl _) (fun i cs t hi _ => hb.block i (ltOf hi))

theorem Rw.heap (h : Rw v L WB S x0 x1 ra rc rds tot N M) (he : v'.heap = v.heap) : Rw v' L WB S x0 x1 ra rc rds tot N M :=
  h.keep (by rw [he]; exact Nat.le_refl _) (Nat.le_refl _) (fun i cs t hi _ => by rw [he])

theorem Below.los (h : Below v.heap.size v v') (hL : L ≤ v.heap.size) : Los L WB v v' := ⟨h.size, fun i hi _ => h.block i (Nat.lt_of_lt_of_le hi hL)⟩

theorem Rw.whole (h : Rw v L WB S x0 x1 ra rc rds tot N M) (hN : N ≤ 1000000000) (hM : M ≤ 1000000000) :
    Calls Tryz.prog 27 #[.pointer (some ⟨WB, 4, none⟩)] v fun e v' => e = .returned (.bool true) ∧ Rw v' L WB S x0 x1 ra rc rds tot N M ∧ Los L WB v v' := by
  obtain ⟨ba, bc, flat, da, dc, flad, hb⟩ := h.bk
  refine (hb.whole (by omega) hM).mono ?_
  rintro e v' ⟨rfl, hb'⟩
  exact ⟨rfl, h.below hb', Below.los hb' h.le⟩

end

section
variable {v v' : World} {L WB : Nat} {S S' : Nat → Prop} {x0 x1 : Value} {ra : Option Addr} {rc : Nat} {rds : List Rd} {tot tot' N M N' M' : Nat} {ba : Option Addr} {bc : Nat} {flat : List Value} {da : Option Addr} {dc : Nat} {flad : List Value}

/-- The books went on; the readers stand. -/
theorem Rw.go (h : Rw v L WB S x0 x1 ra rc rds tot N M) (hb' : Bc v' WB L S' x0 x1 (.slice ra rds.length rc) (.slice none 0 0) N' ba bc flat M' da dc flad)
    (hs : ∀ i cs t, v.heap[i]? = some (.cells cs t) → L ≤ i → t = 179 ∨ ((t = 237 ∨ t = 177 ∨ t = 5) ∧ ¬ S i ∧ i < v.heap.size ∧ ∃ (j : Nat) (r : Rd), rds[j]? = some r ∧ r.blk i) → v'.heap[i]? = v.heap[i]?) (hnew : ∀ g, S' g → S g ∨ v.heap.size ≤ g) : Rw v' L WB S' x0 x1 ra rc rds tot N' M' := by
  have hL := h.le
  refine ⟨⟨_, _, _, _, _, _, hb'⟩, own_sameS h.row (fun g cs hg ht => hs g cs _ ht (h.row.lt g hg).1 (.inl rfl)), fun i r hr => (h.rd i r hr).keep (fun g cs t hg hc ht => hs g cs t hc (h.sep i r hr g hg).2 (.inr ⟨ht, (h.sep i r hr g hg).1, (h.rd i r hr).lt hg, i, r, hr, hg⟩)) (Nat.le_refl _), h.dis, fun i r hr g hg => ⟨fun hS => ?_, (h.sep i r hr g hg).2⟩, fun g hg => ?_, h.wl⟩
  · rcases hnew g hS with h1 | h1
    · exact (h.sep i r hr g hg).1 h1
    · have := (h.rd i r hr).lt hg
      omega
  · rcases hnew g hg with h1 | h1
    · exact h.sL g h1
    · omega

end
end Go.Proofs.YtlghcldiboecoaaGreatDoor
