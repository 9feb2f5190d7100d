/- The caller's books: marks of values. -/
import Derived.Test.YtlghcldiboecoaaGreatDoorKCode
import Derived.Test.YtlghcldiboecoaaGreatDoorOwn
set_option linter.unusedVariables false
namespace Go.Proofs.YtlghcldiboecoaaGreatDoor
open Go.RowKit

/-- The cells of the mark of the n-th list of values. -/
def mk3 (n : Nat) : List Value := [.int .i64 (-1000 - (n : Int)), .string ⟨#[]⟩, .slice none 0 0]
def vmarks (n k : Nat) : List Value := (List.replicate k n).flatMap mk3

theorem mk3_len (n : Nat) : (mk3 n).length = 3 := rfl
theorem vmarks_len (n k : Nat) : (vmarks n k).length = k * 3 := by
  unfold vmarks
  induction k with
  | zero => rfl
  | succ k ih => rw [List.replicate_succ, List.flatMap_cons, List.length_append, ih, mk3_len]; omega
theorem vmarks_add (n k m : Nat) : vmarks n (k + m) = vmarks n k ++ vmarks n m := by
  unfold vmarks
  rw [← List.replicate_append_replicate, List.flatMap_append]
theorem vmarks_get {n k i j : Nat} (hi : i < k) (hj : j < 3) : (vmarks n k)[i * 3 + j]? = (mk3 n)[j]? := by
  unfold vmarks
  rw [flat_get mk3 3 mk3_len _ i j hj, List.getElem?_replicate, if_pos hi]
  rfl
theorem vmarks_one (n k : Nat) : ∀ u, u ∈ vmarks n k → u.oneCell' = true := by
  intro u hu
  unfold vmarks at hu
  obtain ⟨x, _, hx⟩ := List.mem_flatMap.1 hu
  simp only [mk3, List.mem_cons, List.mem_nil_iff, or_false] at hx
  rcases hx with rfl | rfl | rfl <;> rfl

/-- A list of values that reads as the caller has written it; it lies among the blocks S. -/
def MvAt (W : World) (S : Nat → Prop) (n : Nat) (v : Value) : Prop :=
  ∃ la ln lc, v = .slice la ln lc ∧ ln ≤ 1000000000000 ∧ ln ≤ lc ∧ ∀ i, i < ln → ∃ g, la = some ⟨g, 0, none⟩ ∧ g < W.heap.size ∧ S g ∧ ∀ j u, (mk3 n)[j]? = some u → W.cell? ⟨g, i * 3 + j, none⟩ = some u

theorem MvAt.keep {W W' : World} {S S' : Nat → Prop} {n : Nat} {v : Value} (h : MvAt W S n v) (bad : Nat → Prop) (hsz : W.heap.size ≤ W'.heap.size) (hsame : ∀ b, b < W.heap.size → ¬ bad b → W'.heap[b]? = W.heap[b]?)
    (hbad : ∀ b, bad b → S b → ∀ z, W.cell? ⟨b, 0, none⟩ ≠ some (.int .i64 z)) (hS : ∀ b, S b → b < W.heap.size → S' b) : MvAt W' S' n v := by
  obtain ⟨la, ln, lc, hv, h1, h2, h3⟩ := h
  refine ⟨la, ln, lc, hv, h1, h2, fun i hi => ?_⟩
  obtain ⟨g, hg, hB, hSg, hc⟩ := h3 i hi
  have hnb : ¬ bad g := by
    intro hb
    obtain ⟨g', hg', _, _, hc'⟩ := h3 0 (by omega)
    rw [hg] at hg'
    cases hg'
    exact hbad g hb hSg _ (hc' 0 _ rfl)
  exact ⟨g, hg, Nat.lt_of_lt_of_le hB hsz, hS g hSg hB, fun j u hu => (World.cell?_of_block (w := W) (a := ⟨g, i * 3 + j, none⟩) (hsame g hB hnb)).trans (hc j u hu)⟩

theorem MvAt.nil (W : World) (S : Nat → Prop) (n : Nat) : MvAt W S n (.slice none 0 0) := ⟨none, 0, 0, rfl, by omega, by omega, fun i hi => by omega⟩

theorem mv_of_own {w : World} {S : Nat → Prop} {base n k : Nat} {v : Value} (h : w.ownsRow base 113 3 v k (vmarks n k)) (hk : k ≤ 1000000000000) (hS : ∀ g, v.ownBlock = some g → S g) : MvAt w S n v := by
  rcases h.2 with ⟨rfl, rfl⟩ | ⟨g, cap, cur, rfl, hbg, hg, hnc, _⟩
  · exact .nil _ _ _
  · refine ⟨_, k, cap, rfl, hk, hnc, fun i hi => ⟨g, rfl, ltOf hg, hS g rfl, fun j u hu => ?_⟩⟩
    have hj : j < 3 := by have := (List.getElem?_eq_some_iff.1 hu).1; rwa [mk3_len] at this
    have := h.cells rfl (i * 3 + j) u (by rw [vmarks_get hi hj]; exact hu)
    rw [Addr.add_lit, Nat.zero_add] at this
    exact this

/-- Another list of the same marks, behind an append. -/
theorem mv_after {w w' : World} {S S' : Nat → Prop} {base n k m : Nat} {v v' u : Value} (hu : MvAt w S n u) (hul : ∀ la ln lc, u = .slice la ln lc → ln ≤ k + m) (h : AppRes w w' base 113 3 v v' k m (vmarks n k) (vmarks n m)) (hS : ∀ b, S b → b < w.heap.size → S' b) : MvAt w' S' n u := by
  obtain ⟨la, ln, lc, rfl, h1, h2, h3⟩ := hu
  have hle := hul la ln lc rfl
  obtain ⟨ho, _, hcase⟩ := h
  rw [← vmarks_add] at ho
  refine ⟨la, ln, lc, rfl, h1, h2, fun i hi => ?_⟩
  obtain ⟨g, hg, hgB, hSg, hc⟩ := h3 i hi
  rcases hcase with ⟨he, hgr⟩ | ⟨_, hb⟩
  · by_cases hgv : v.ownBlock = some g
    · have hgv' : v'.ownBlock = some g := he.trans hgv
      refine ⟨g, hg, (ho.lt g hgv').2, hS g hSg hgB, fun j u hu => ?_⟩
      have hj : j < 3 := by have := (List.getElem?_eq_some_iff.1 hu).1; rwa [mk3_len] at this
      have := ho.cells hgv' (i * 3 + j) u (by rw [vmarks_get (show i < k + m by omega) hj]; exact hu)
      rw [Addr.add_lit, Nat.zero_add] at this
      exact this
    · refine ⟨g, hg, Nat.lt_of_lt_of_le hgB hgr.size, hS g hSg hgB, fun j u hu => ?_⟩
      rw [← hc j u hu]
      unfold World.cell?
      rw [hgr.block g hgB (fun e => hgv e.symm)]
  · exact ⟨g, hg, Nat.lt_of_lt_of_le hgB hb.size, hS g hSg hgB, fun j u hu => (hb.cell (p := ⟨g, i * 3 + j, none⟩) hgB).trans (hc j u hu)⟩

/-- One mark more. -/
theorem set_vmarks {n i : Nat} {xs : List Value} (hi : (i + 1) * 3 ≤ xs.length) (a b c : Value) (h : mk3 n = [a, b, c]) : (((vmarks n i ++ xs.drop (i * 3)).set (i * 3) a).set (i * 3 + 1) b).set (i * 3 + 2) c = vmarks n (i + 1) ++ xs.drop ((i + 1) * 3) := by
  have hl := vmarks_len n i
  obtain ⟨x0, x1, x2, hx⟩ : ∃ x0 x1 x2, xs.drop (i * 3) = x0 :: x1 :: x2 :: xs.drop ((i + 1) * 3) := by
    refine ⟨xs[i * 3], xs[i * 3 + 1], xs[i * 3 + 2], ?_⟩
    rw [List.drop_eq_getElem_cons (by omega), List.drop_eq_getElem_cons (by omega), List.drop_eq_getElem_cons (by omega)]
    congr 4
    omega
  rw [hx, vmarks_add]
  have h1 : vmarks n 1 = [a, b, c] := by rw [← h]; rfl
  rw [h1]
  generalize vmarks n i = A at *
  rw [← hl]
  simp

theorem markValue_any (w : World) (n : Nat) (hn : n ≤ 1000000000000) : Calls Tryz.prog 136 #[.int .i64 n] w fun e w' => e = .returned (vv (-1000 - (n : Int)) ⟨#[]⟩ (.slice none 0 0)) ∧ Below w.heap.size w w' := by
  go_enter Tryz.func136, Tryz.ntmps136
  go_wp2
  exact bodyPost_ret (v := vv (-1000 - (n : Int)) ⟨#[]⟩ (.slice none 0 0)) (by simp [results, Tryz.results136, go_sem]) rfl ⟨rfl, below1 _ _⟩

set_option maxRecDepth 8000 in
set_option maxHeartbeats 2000000 in
/-- A list that reads as the caller has written it. -/
theorem markedValues_any (w : World) (la : Option Addr) (ln lc n : Nat) (hn : n ≤ 1000000000000) (hl : ln ≤ 1000000000000) (hlc : ln ≤ lc)
    (HC : Hid (∀ i, i < ln → ∃ g, la = some ⟨g, 0, none⟩ ∧ g < w.heap.size ∧ w.cell? ⟨g, i * 3, none⟩ = some (.int .i64 (-1000 - (n : Int))) ∧ w.cell? ⟨g, i * 3 + 1, none⟩ = some (.string ⟨#[]⟩) ∧ w.cell? ⟨g, i * 3 + 2, none⟩ = some (.slice none 0 0))) :
    Calls Tryz.prog 58 #[.slice la ln lc, .int .i64 n] w fun e w' => e = .returned (.bool true) ∧ Below w.heap.size w w' := by
  go_enter Tryz.func58, Tryz.ntmps58
  go_wp2
  go_loopw [5] (fun k wr => ∃ i : Nat, k = .int .i64 i ∧ i ≤ ln ∧ Hid (Below w.heap.size w wr)) (fun k _ => ln - (intOf k).toNat)
  case atStart => exact ⟨0, rfl, Nat.zero_le _, Below.refl _ _⟩
  case round =>
    obtain ⟨i, rfl, hi, HB⟩ := hrel
    by_cases hlt : i < ln
    · have hltz : (i : Int) < (ln : Int) := by omega
      obtain ⟨g, hla, hg, d0, d1, d2⟩ := HC.out i hlt
      subst hla
      have c0 := (HB.out.cell (p := ⟨g, i * 3, none⟩) hg).trans d0
      have c1 := (HB.out.cell (p := ⟨g, i * 3 + 1, none⟩) hg).trans d1
      have c2 := (HB.out.cell (p := ⟨g, i * 3 + 2, none⟩) hg).trans d2
      have q := nil22 wr
      clear d0 d1 d2
      go_wp2
      all_goals go_roundw
      all_goals try (case rel => exact ⟨i + 1, by go_num, by omega, by first | exact HB | exact HB.out.drew⟩)
      all_goals try (case measure => simp [intOf]; omega)
    · have hltz : ¬ (i : Int) < (ln : Int) := by omega
      go_wp2
      all_goals go_ret
      all_goals exact ⟨rfl, HB.out⟩
end Go.Proofs.YtlghcldiboecoaaGreatDoor

/- The caller's books: lists of values, what stands between the steps. -/
set_option linter.unusedVariables false
namespace Go.Proofs.YtlghcldiboecoaaGreatDoor
open Go.RowKit

/-- The i-th entry of the books of values. -/
def EntV (W : World) (S : Nat → Prop) (flat : List Value) (i : Nat) : Prop :=
  ∃ l a b c, flat[i * 5]? = some l ∧ flat[i * 5 + 1]? = some a ∧ flat[i * 5 + 2]? = some b ∧ flat[i * 5 + 3]? = some c ∧ flat[i * 5 + 4]? = some (.int .i64 i) ∧ MvAt W S i l ∧ MvAt W S i a ∧ MvAt W S i b ∧ MvAt W S i c

/-- The caller's world: its goods, its books of N lists of values, nothing else; these lie among S. -/
structure Bv (W : World) (WB B : Nat) (S : Nat → Prop) (gv gt : Value) (N : Nat) (ba : Option Addr) (bc : Nat) (flat : List Value) : Prop where
  blk : W.heap[WB]? = some (.cells #[gv, gt, .slice none 0 0, .slice none 0 0, .slice none 0 0, .slice none 0 0, .slice ba N bc, .slice none 0 0] 73)
  gsl : ∃ a n c, gv = .slice a n c
  row : W.ownsRow B 127 5 (.slice ba N bc) N flat
  lt : WB < B
  le : B ≤ W.heap.size
  nil : N = 0 → ba = none
  ent : ∀ i, i < N → EntV W S flat i
  rS : ∀ g, (Value.slice ba N bc).ownBlock = some g → S g

variable {W W' : World} {WB B : Nat} {S S' : Nat → Prop} {gv gt : Value} {N : Nat} {ba : Option Addr} {bc : Nat} {flat : List Value}

theorem Bv.rowWB (h : Bv W WB B S gv gt N ba bc flat) : (Value.slice ba N bc).ownBlock ≠ some WB := by
  intro e
  have := (h.row.lt WB e).1
  have := h.lt
  omega

theorem EntV.slice {i : Nat} (h : EntV W S flat i) : ∃ a n c, flat[i * 5]? = some (.slice a n c) := by
  obtain ⟨l, a, b, c, h0, _, _, _, _, hl, _⟩ := h
  obtain ⟨la, ln, lc, rfl, _⟩ := hl
  exact ⟨_, _, _, h0⟩

/-- What begins with a list. -/
theorem Bv.begin (h : Bv W WB B S gv gt N ba bc flat) : ∀ i, (i = WB ∨ (Value.slice ba N bc).ownBlock = some i) → ∃ a n c, W.cell? ⟨i, 0, none⟩ = some (.slice a n c) := by
  intro i hi
  rcases hi with rfl | hi
  · obtain ⟨a, n, c, hg⟩ := h.gsl
    refine ⟨a, n, c, ?_⟩
    rw [← hg]
    exact cellOf (j := 0) h.blk rfl
  · by_cases h0 : N = 0
    · rw [h.nil h0] at hi
      cases hi
    · obtain ⟨a, n, c, hf⟩ := (h.ent 0 (by omega)).slice
      exact ⟨a, n, c, h.row.cells hi 0 _ hf⟩

theorem EntV.keep {more : List Value} {i : Nat} (h : EntV W S flat i) (bad : Nat → Prop) (hsz : W.heap.size ≤ W'.heap.size) (hsame : ∀ b, b < W.heap.size → ¬ bad b → W'.heap[b]? = W.heap[b]?)
    (hbad : ∀ b, bad b → S b → ∀ z, W.cell? ⟨b, 0, none⟩ ≠ some (.int .i64 z)) (hS : ∀ b, S b → b < W.heap.size → S' b) : EntV W' S' (flat ++ more) i := by
  obtain ⟨l, a, b, c, h0, h1, h2, h3, h4, m0, m1, m2, m3⟩ := h
  have ha : ∀ j u, flat[j]? = some u → (flat ++ more)[j]? = some u := fun j u hj => by rw [List.getElem?_append_left (List.getElem?_eq_some_iff.1 hj).1]; exact hj
  exact ⟨l, a, b, c, ha _ _ h0, ha _ _ h1, ha _ _ h2, ha _ _ h3, ha _ _ h4, m0.keep bad hsz hsame hbad hS, m1.keep bad hsz hsame hbad hS, m2.keep bad hsz hsame hbad hS, m3.keep bad hsz hsame hbad hS⟩

theorem Bv.keep (h : Bv W WB B S gv gt N ba bc flat) (bad : Nat → Prop) (hsz : W.heap.size ≤ W'.heap.size) (hsame : ∀ b, b < W.heap.size → ¬ bad b → W'.heap[b]? = W.heap[b]?)
    (hbad : ∀ b, bad b → S b → ∀ z, W.cell? ⟨b, 0, none⟩ ≠ some (.int .i64 z)) (hS : ∀ b, S b → b < W.heap.size → S' b) (h1 : ¬ bad WB) (h2 : ∀ g, (Value.slice ba N bc).ownBlock = some g → ¬ bad g) : Bv W' WB B S' gv gt N ba bc flat := by
  refine ⟨(hsame WB (ltOf h.blk) h1).trans h.blk, h.gsl, ⟨h.row.1, ?_⟩, h.lt, Nat.le_trans h.le hsz, h.nil, fun i hi => ?_, fun g hg => hS g (h.rS g hg) (h.row.lt g hg).2⟩
  · rcases h.row.2 with h0 | ⟨g, cap, cur, hv, k1, k2, k3⟩
    · exact .inl h0
    · exact .inr ⟨g, cap, cur, hv, k1, (hsame g (ltOf k2) (h2 g (by rw [hv]; rfl))).trans k2, k3⟩
  · have := (h.ent i hi).keep (more := []) (S' := S') bad hsz hsame hbad hS
    rwa [List.append_nil] at this

theorem Bv.mono (h : Bv W WB B S gv gt N ba bc flat) (hS : ∀ b, S b → b < W.heap.size → S' b) : Bv W WB B S' gv gt N ba bc flat :=
  h.keep (fun _ => False) (Nat.le_refl _) (fun _ _ _ => rfl) (fun _ h => h.elim) hS (fun h => h) (fun _ _ h => h)

theorem Bv.below (h : Bv W WB B S gv gt N ba bc flat) (hb : Below W.heap.size W W') : Bv W' WB B S gv gt N ba bc flat :=
  h.keep (fun _ => False) hb.size (fun i hi _ => hb.block i hi) (fun _ h => h.elim) (fun _ h _ => h) (fun h => h) (fun _ _ h => h)

/-- One list more is kept. -/
theorem Bv.add {ba' : Option Addr} {bc' : Nat} {l a b c lv : Value} (h : Bv W WB B S gv gt N ba bc flat)
    (hblk : W'.heap[WB]? = some (.cells #[gv, gt, .slice none 0 0, .slice none 0 0, .slice none 0 0, .slice none 0 0, .slice ba' (N + 1) bc', .slice none 0 0] 73))
    (hrow : W'.ownsRow B 127 5 (.slice ba' (N + 1) bc') (N + 1) (flat ++ [l, a, b, c, .int .i64 N])) (hm : MvAt W' S' N l ∧ MvAt W' S' N a ∧ MvAt W' S' N b ∧ MvAt W' S' N c)
    (hsz : W.heap.size ≤ W'.heap.size) (hlv : ∀ g, lv.ownBlock = some g → ¬ S g) (hsame : ∀ i, i < W.heap.size → i ≠ WB → (Value.slice ba N bc).ownBlock ≠ some i → lv.ownBlock ≠ some i → W'.heap[i]? = W.heap[i]?)
    (hS : ∀ b, S b → b < W.heap.size → S' b) (hr' : ∀ g, (Value.slice ba' (N + 1) bc').ownBlock = some g → S' g) : Bv W' WB B S' gv gt (N + 1) ba' bc' (flat ++ [l, a, b, c, .int .i64 N]) := by
  have hfl : flat.length = N * 5 := h.row.1
  refine ⟨hblk, h.gsl, hrow, h.lt, Nat.le_trans h.le hsz, fun h0 => by omega, fun i hi => ?_, hr'⟩
  by_cases hiN : i < N
  · refine (h.ent i hiN).keep (fun i => (i = WB ∨ (Value.slice ba N bc).ownBlock = some i) ∨ lv.ownBlock = some i) hsz (fun i hi hb => hsame i hi (fun e => hb (.inl (.inl e))) (fun e => hb (.inl (.inr e))) (fun e => hb (.inr e))) ?_ hS
    rintro b (hb | hb) hSb z e
    · obtain ⟨x, y, z', hx⟩ := h.begin b hb
      rw [hx] at e
      cases e
    · exact hlv b hb hSb
  · have hie : i = N := by omega
    subst hie
    have hg : ∀ j u, ([l, a, b, c, Value.int .i64 i] : List Value)[j]? = some u → (flat ++ [l, a, b, c, .int .i64 i])[i * 5 + j]? = some u := fun j u hj => by
      rw [List.getElem?_append_right (by omega), hfl, show i * 5 + j - i * 5 = j by omega]
      exact hj
    exact ⟨l, a, b, c, hg 0 _ rfl, hg 1 _ rfl, hg 2 _ rfl, hg 3 _ rfl, hg 4 _ rfl, hm.1, hm.2.1, hm.2.2.1, hm.2.2.2⟩

theorem MvAt.calls {w : World} {n : Nat} {v : Value} (h : MvAt w S n v) (hn : n ≤ 1000000000000) : Calls Tryz.prog 58 #[v, .int .i64 n] w fun e w' => e = .returned (.bool true) ∧ Below w.heap.size w w' := by
  obtain ⟨la, ln, lc, rfl, h1, h2, h3⟩ := h
  exact markedValues_any w la ln lc n hn h1 h2 (fun i hi => by
    obtain ⟨g, hg, hgB, _, hc⟩ := h3 i hi
    exact ⟨g, hg, hgB, hc 0 _ rfl, hc 1 _ rfl, hc 2 _ rfl⟩)

theorem MvAt.below {w w' : World} {n : Nat} {v : Value} (h : MvAt w S n v) (hb : Below w.heap.size w w') : MvAt w' S n v :=
  h.keep (fun _ => False) hb.size (fun i hi _ => hb.block i hi) (fun _ h => h.elim) (fun _ h _ => h)

set_option maxRecDepth 8000 in
set_option maxHeartbeats 4000000 in
theorem wholeV_any (w : World) (K o : Nat) (ba : Option Addr) (N bc : Nat) (S : Nat → Prop) (hK : K < w.heap.size) (hN : N ≤ 1000000000000)
    (k0 : w.cell? ⟨K, o, none⟩ = some (.slice none 0 0)) (k1 : w.cell? ⟨K, o + 1, none⟩ = some (.slice none 0 0)) (k2 : w.cell? ⟨K, o + 2, none⟩ = some (.slice ba N bc)) (k3 : w.cell? ⟨K, o + 3, none⟩ = some (.slice none 0 0))
    (HE : Hid (∀ i, i < N → ∃ g l a b c, ba = some ⟨g, 0, none⟩ ∧ g < w.heap.size ∧ N ≤ bc ∧ w.cell? ⟨g, i * 5, none⟩ = some l ∧ w.cell? ⟨g, i * 5 + 1, none⟩ = some a ∧ w.cell? ⟨g, i * 5 + 2, none⟩ = some b ∧ w.cell? ⟨g, i * 5 + 3, none⟩ = some c ∧ w.cell? ⟨g, i * 5 + 4, none⟩ = some (.int .i64 i) ∧ MvAt w S i l ∧ MvAt w S i a ∧ MvAt w S i b ∧ MvAt w S i c)) :
    Calls Tryz.prog 27 #[.pointer (some ⟨K, o, none⟩)] w fun e w' => e = .returned (.bool true) ∧ Below w.heap.size w w' := by
  have HK : Hid (∀ W, Below w.heap.size w W → W.cell? ⟨K, o, none⟩ = some (.slice none 0 0) ∧ W.cell? ⟨K, o + 1, none⟩ = some (.slice none 0 0) ∧ W.cell? ⟨K, o + 2, none⟩ = some (.slice ba N bc) ∧ W.cell? ⟨K, o + 3, none⟩ = some (.slice none 0 0)) := fun W hb =>
    ⟨(hb.cell (p := ⟨K, o, none⟩) hK).trans k0, (hb.cell (p := ⟨K, o + 1, none⟩) hK).trans k1, (hb.cell (p := ⟨K, o + 2, none⟩) hK).trans k2, (hb.cell (p := ⟨K, o + 3, none⟩) hK).trans k3⟩
  go_enter Tryz.func27, Tryz.ntmps27
  go_wp2
  refine wp_loop_rounds 1 ?_
  rw [rounds_succ]
  go_wp2
  refine wp_loop_rounds 1 ?_
  rw [rounds_succ]
  go_wp2
  clear k0 k1 k2 k3
  go_loopw [3, 8] (fun b k wr => ∃ i : Nat, b = .bool true ∧ k = .int .i64 i ∧ i ≤ N ∧ Hid (Below w.heap.size w wr)) (fun _ k _ => N - (intOf k).toNat)
  case atStart => exact ⟨0, rfl, rfl, Nat.zero_le _, Below.refl _ _⟩
  case round =>
    obtain ⟨i, rfl, rfl, hi, HB⟩ := hrel
    obtain ⟨k0, k1, k2, k3⟩ := HK.out wr HB.out
    by_cases hlt : i < N
    · have hltz : (i : Int) < (N : Int) := by omega
      obtain ⟨g, l, a, b, c, hba, hg, hbc, e0, e1, e2, e3, e4, ml, ma, mb, mc⟩ := HE.out i hlt
      subst hba
      have f0 := (HB.out.cell (p := ⟨g, i * 5, none⟩) hg).trans e0
      have f1 := (HB.out.cell (p := ⟨g, i * 5 + 1, none⟩) hg).trans e1
      have f2 := (HB.out.cell (p := ⟨g, i * 5 + 2, none⟩) hg).trans e2
      have f3 := (HB.out.cell (p := ⟨g, i * 5 + 3, none⟩) hg).trans e3
      have f4 := (HB.out.cell (p := ⟨g, i * 5 + 4, none⟩) hg).trans e4
      clear e0 e1 e2 e3 e4 k0 k1 k3
      have HL : Hid (∀ W, Below w.heap.size w W → Calls Tryz.prog 58 #[l, .int .i64 i] W fun e w' => e = .returned (.bool true) ∧ Below W.heap.size W w') := fun W hb => (ml.below hb).calls (by omega)
      have HA : Hid (∀ W, Below w.heap.size w W → Calls Tryz.prog 58 #[a, .int .i64 i] W fun e w' => e = .returned (.bool true) ∧ Below W.heap.size W w') := fun W hb => (ma.below hb).calls (by omega)
      have HBB : Hid (∀ W, Below w.heap.size w W → Calls Tryz.prog 58 #[b, .int .i64 i] W fun e w' => e = .returned (.bool true) ∧ Below W.heap.size W w') := fun W hb => (mb.below hb).calls (by omega)
      have HCC : Hid (∀ W, Below w.heap.size w W → Calls Tryz.prog 58 #[c, .int .i64 i] W fun e w' => e = .returned (.bool true) ∧ Below W.heap.size W w') := fun W hb => (mc.below hb).calls (by omega)
      obtain ⟨l1, l2, l3, rfl, _⟩ := ml
      obtain ⟨a1, a2, a3, rfl, _⟩ := ma
      obtain ⟨b1, b2, b3, rfl, _⟩ := mb
      obtain ⟨c1, c2, c3, rfl, _⟩ := mc
      have HX := hid (heap_alloc_new wr (.cells #[.slice l1 l2 l3, .slice a1 a2 a3, .slice b1 b2 b3, .slice c1 c2 c3, .int .i64 i] 127))
      have HW : Hid (Below w.heap.size w (wr.alloc (.cells #[.slice l1 l2 l3, .slice a1 a2 a3, .slice b1 b2 b3, .slice c1 c2 c3, .int .i64 i] 127))) := HB.out.alloc HB.out.size _
      have x0 := cellOf (j := 0) HX.out rfl
      have x4 := cellOf (j := 4) HX.out rfl
      go_wp2_with (go_at_call 58; first
        | (refine (HL.out _ HW.out).mono ?_; rintro e w1 ⟨rfl, hb⟩; have HX1 : Hid (w1.heap[wr.heap.size]? = _) := (hb.block _ (ltOf HX.out)).trans HX.out; have HW1 : Hid (Below w.heap.size w w1) := HW.out.trans (hb.mono HW.out.size); clear hb HX HW x0 x4; have y0 := cellOf (j := 1) HX1.out rfl; have y4 := cellOf (j := 4) HX1.out rfl)
        | (refine (HA.out _ HW1.out).mono ?_; rintro e w2 ⟨rfl, hb⟩; have HX2 : Hid (w2.heap[wr.heap.size]? = _) := (hb.block _ (ltOf HX1.out)).trans HX1.out; have HW2 : Hid (Below w.heap.size w w2) := HW1.out.trans (hb.mono HW1.out.size); clear hb HX1 HW1 y0 y4; have z0 := cellOf (j := 2) HX2.out rfl; have z4 := cellOf (j := 4) HX2.out rfl)
        | (refine (HBB.out _ HW2.out).mono ?_; rintro e w3 ⟨rfl, hb⟩; have HX3 : Hid (w3.heap[wr.heap.size]? = _) := (hb.block _ (ltOf HX2.out)).trans HX2.out; have HW3 : Hid (Below w.heap.size w w3) := HW2.out.trans (hb.mono HW2.out.size); clear hb HX2 HW2 z0 z4; have u0 := cellOf (j := 3) HX3.out rfl; have u4 := cellOf (j := 4) HX3.out rfl)
        | (refine (HCC.out _ HW3.out).mono ?_; rintro e w4 ⟨rfl, hb⟩; have HW4 : Hid (Below w.heap.size w w4) := HW3.out.trans (hb.mono HW3.out.size); clear hb HX3 HW3 u0 u4))
      all_goals go_roundw
      all_goals try (case rel => exact ⟨i + 1, rfl, by go_num, by omega, HW4⟩)
      all_goals try (case measure => simp [intOf]; omega)
    · have hltz : ¬ (i : Int) < (N : Int) := by omega
      go_wp2
      refine wp_loop_rounds 1 ?_
      rw [rounds_succ]
      go_wp2
      all_goals go_ret
      all_goals exact ⟨rfl, HB.out⟩

theorem Bv.whole (h : Bv W WB B S gv gt N ba bc flat) (hN : N ≤ 1000000000000) :
    Calls Tryz.prog 27 #[.pointer (some ⟨WB, 4, none⟩)] W fun e w' => e = .returned (.bool true) ∧ Below W.heap.size W w' := by
  refine wholeV_any W WB 4 ba N bc S (ltOf h.blk) hN (cellOf h.blk rfl) (cellOf h.blk rfl) (cellOf h.blk rfl) (cellOf h.blk rfl) fun i hi => ?_
  obtain ⟨l, a, b, c, h0, h1, h2, h3, h4, m0, m1, m2, m3⟩ := h.ent i hi
  rcases h.row.2 with ⟨_, h0'⟩ | ⟨g, cap, cur, hv, k1, k2, k3, _⟩
  · omega
  · cases hv
    have hc : ∀ j u, flat[j]? = some u → W.cell? ⟨g, j, none⟩ = some u := fun j u hj => by
      have := h.row.cells (g := g) rfl j u hj
      rwa [Addr.add_lit, Nat.zero_add] at this
    exact ⟨g, l, a, b, c, rfl, ltOf k2, k3, hc _ _ h0, hc _ _ h1, hc _ _ h2, hc _ _ h3, hc _ _ h4, m0, m1, m2, m3⟩
end Go.Proofs.YtlghcldiboecoaaGreatDoor
