/- The caller's books: what stands between the steps. -/
import Derived.Test.YtlghcldiboecoaaGreatDoorLWhole
import Derived.Test.YtlghcldiboecoaaGreatDoorLValue
import Derived.Test.YtlghcldiboecoaaGreatDoorREnc
import Derived.Lib.ConvBytes
set_option linter.unusedVariables false
namespace Go.Proofs.YtlghcldiboecoaaGreatDoor
open Go.RowKit

theorem conv_own {w : World} {base : Nat} {ov : Value} {b : List UInt8} (h : w.ownsRow base 5 1 ov b.length (bcells b)) : (convert 57 9 ov).run Tryz.prog w = .ok (.string ⟨b.toArray⟩) w := by
  rcases h.2 with ⟨rfl, h0⟩ | ⟨g, cap, cur, rfl, hb, hg, hn, _, hs, ht⟩
  · have : b = [] := List.length_eq_zero_iff.1 h0
    subst this
    exact run_convert_bytes_nil (P := Tryz.prog) w 57 5 Tryz.underlying57 Tryz.underlying5 0 0 9 Tryz.underlying9
  · have hstr : strOfNums (b.map fun c => (c.toNat : Int)) = (⟨b.toArray⟩ : ByteArray) := by
      unfold strOfNums
      congr 2
      rw [List.map_map]
      conv => rhs; rw [← List.map_id b]
      apply List.map_congr_left
      intro c _
      simp
    have := run_convert_bytes_arg (P := Tryz.prog) w 57 5 Tryz.underlying57 Tryz.underlying5 g 0 b.length cap (b.map fun c => (c.toNat : Int)) (by simp) (fun i hi => by
      have h1 := h.cells (g := g) rfl i (.int .u8 b[i].toNat) (by simp [bcells, hi])
      rw [Addr.add_lit, Nat.zero_add] at h1
      rw [Nat.zero_add, h1, List.getD_eq_getElem?_getD, List.getElem?_map, List.getElem?_eq_getElem hi]
      rfl) 9 Tryz.underlying9
    rw [hstr] at this
    exact this

theorem nil57 (W : World) : (binOp .eql 57 (.slice none 0 0) (.slice none 0 0)).run Tryz.prog W = .ok (.bool true) W := by kernel_rfl
theorem some57 (W : World) (a : Addr) (n c : Nat) : (binOp .eql 57 (.slice (some a) n c) (.slice none 0 0)).run Tryz.prog W = .ok (.bool false) W := by kernel_rfl

theorem enc_len {s : List UInt8} {v : Orch.V} {b : List UInt8} (h : Orch.encode validB s v = .ok b) : b.length ≤ 1000 := by
  unfold Orch.encode at h
  cases hp : Orch.parse s with
  | none => rw [hp] at h; cases h
  | some t =>
    rw [hp] at h
    simp only [Orch.encode_laid] at h
    cases hl : Orch.laidT validB 9 t v with
    | none => rw [hl] at h; cases h
    | some c =>
      rw [hl] at h
      by_cases hc : c.length ≤ 1000
      · simp [hc] at h
        subst h
        exact hc
      · simp [hc] at h

/-- Marks stay where the blocks that change do not begin with a byte. -/
theorem MkAt.keep2 {W W' : World} {N : Nat} {v : Value} (bad : Nat → Prop) (h : MkAt W W.heap.size N v) (hsz : W.heap.size ≤ W'.heap.size) (hsame : ∀ i, i < W.heap.size → ¬ bad i → W'.heap[i]? = W.heap[i]?)
    (hbad : ∀ i, bad i → ∀ z, W.cell? ⟨i, 0, none⟩ ≠ some (.int .u8 z)) : MkAt W' W'.heap.size N v := by
  obtain ⟨la, ln, lc, hv, h1, h2, h3⟩ := h
  refine ⟨la, ln, lc, hv, h1, h2, fun i hi => ?_⟩
  obtain ⟨g, hg, hB, hc⟩ := h3 i hi
  have hnb : ¬ bad g := by
    intro hb
    obtain ⟨g', hg', _, hc'⟩ := h3 0 (by omega)
    rw [hg] at hg'
    cases hg'
    exact hbad g hb _ hc'
  exact ⟨g, hg, Nat.lt_of_lt_of_le hB hsz, (World.cell?_of_block (w := W) (a := ⟨g, i, none⟩) (hsame g hB hnb)).trans hc⟩

/-- The n-th entry of the books. -/
def EntAt (W : World) (flat : List Value) (i : Nat) : Prop :=
  ∃ l a b c, flat[i * 5]? = some l ∧ flat[i * 5 + 1]? = some a ∧ flat[i * 5 + 2]? = some b ∧ flat[i * 5 + 3]? = some c ∧ flat[i * 5 + 4]? = some (.int .i64 i) ∧ MkAt W W.heap.size i l ∧ MkAt W W.heap.size i a ∧ MkAt W W.heap.size i b ∧ MkAt W W.heap.size i c

/-- The caller's world: its goods, its books of N lists of bytes, nothing else. -/
structure Bk (W : World) (WB B : Nat) (gv gt : Value) (N : Nat) (ba : Option Addr) (bc : Nat) (flat : List Value) : Prop where
  blk : W.heap[WB]? = some (.cells #[gv, gt, .slice none 0 0, .slice none 0 0, .slice ba N bc, .slice none 0 0, .slice none 0 0, .slice none 0 0] 73)
  gsl : ∃ a n c, gv = .slice a n c
  row : W.ownsRow B 120 5 (.slice ba N bc) N flat
  lt : WB < B
  le : B ≤ W.heap.size
  nil : N = 0 → ba = none
  ent : ∀ i, i < N → EntAt W flat i

theorem Bk.rowWB {W : World} {WB B : Nat} {gv gt : Value} {N : Nat} {ba : Option Addr} {bc : Nat} {flat : List Value} (h : Bk W WB B gv gt N ba bc flat) : (Value.slice ba N bc).ownBlock ≠ some WB := by
  intro e
  have := (h.row.lt WB e).1
  have := h.lt
  omega

theorem EntAt.slice {W : World} {flat : List Value} {i : Nat} (h : EntAt W flat i) : ∃ a n c, flat[i * 5]? = some (.slice a n c) := by
  obtain ⟨l, a, b, c, h0, _, _, _, _, hl, _⟩ := h
  obtain ⟨la, ln, lc, rfl, _⟩ := hl
  exact ⟨_, _, _, h0⟩

/-- What does not begin with a byte. -/
theorem Bk.bad {W : World} {WB B : Nat} {gv gt : Value} {N : Nat} {ba : Option Addr} {bc : Nat} {flat : List Value} (h : Bk W WB B gv gt N ba bc flat) : ∀ i, (i = WB ∨ (Value.slice ba N bc).ownBlock = some i) → ∀ z, W.cell? ⟨i, 0, none⟩ ≠ some (.int .u8 z) := by
  intro i hi z e
  rcases hi with rfl | hi
  · obtain ⟨a, n, c, hg⟩ := h.gsl
    have := cellOf (j := 0) h.blk rfl
    rw [this] at e
    simp only [hg] at e
    cases e
  · by_cases h0 : N = 0
    · rw [h.nil h0] at hi
      cases hi
    · obtain ⟨a, n, c, hf⟩ := (h.ent 0 (by omega)).slice
      have := h.row.cells hi 0 _ hf
      rw [show ((⟨i, 0, none⟩ : Addr).add 0) = ⟨i, 0, none⟩ from rfl] at this
      rw [this] at e
      cases e

theorem EntAt.keep {W W' : World} {flat more : List Value} {i : Nat} (bad : Nat → Prop) (h : EntAt W flat i) (hsz : W.heap.size ≤ W'.heap.size) (hsame : ∀ i, i < W.heap.size → ¬ bad i → W'.heap[i]? = W.heap[i]?)
    (hbad : ∀ i, bad i → ∀ z, W.cell? ⟨i, 0, none⟩ ≠ some (.int .u8 z)) : EntAt W' (flat ++ more) i := by
  obtain ⟨l, a, b, c, h0, h1, h2, h3, h4, m0, m1, m2, m3⟩ := h
  have ha : ∀ j u, flat[j]? = some u → (flat ++ more)[j]? = some u := fun j u hj => by rw [List.getElem?_append_left (List.getElem?_eq_some_iff.1 hj).1]; exact hj
  exact ⟨l, a, b, c, ha _ _ h0, ha _ _ h1, ha _ _ h2, ha _ _ h3, ha _ _ h4, m0.keep2 bad hsz hsame hbad, m1.keep2 bad hsz hsame hbad, m2.keep2 bad hsz hsame hbad, m3.keep2 bad hsz hsame hbad⟩

theorem Bk.keep {W W' : World} {WB B : Nat} {gv gt : Value} {N : Nat} {ba : Option Addr} {bc : Nat} {flat : List Value} (h : Bk W WB B gv gt N ba bc flat) (bad : Nat → Prop) (hsz : W.heap.size ≤ W'.heap.size) (hsame : ∀ i, i < W.heap.size → ¬ bad i → W'.heap[i]? = W.heap[i]?)
    (hbad : ∀ i, bad i → ∀ z, W.cell? ⟨i, 0, none⟩ ≠ some (.int .u8 z)) (h1 : ¬ bad WB) (h2 : ∀ g, (Value.slice ba N bc).ownBlock = some g → ¬ bad g) : Bk W' WB B gv gt N ba bc flat := by
  refine ⟨(hsame WB (ltOf h.blk) h1).trans h.blk, h.gsl, ⟨h.row.1, ?_⟩, h.lt, Nat.le_trans h.le hsz, h.nil, fun i hi => ?_⟩
  · rcases h.row.2 with h0 | ⟨g, cap, cur, hv, k1, k2, k3⟩
    · exact .inl h0
    · exact .inr ⟨g, cap, cur, hv, k1, (hsame g (ltOf k2) (h2 g (by rw [hv]; rfl))).trans k2, k3⟩
  · have := (h.ent i hi).keep (more := []) bad hsz hsame hbad
    rwa [List.append_nil] at this

theorem Bk.below {W W' : World} {WB B : Nat} {gv gt : Value} {N : Nat} {ba : Option Addr} {bc : Nat} {flat : List Value} (h : Bk W WB B gv gt N ba bc flat) (hb : Below W.heap.size W W') : Bk W' WB B gv gt N ba bc flat :=
  h.keep (fun _ => False) hb.size (fun i hi _ => hb.block i hi) (fun _ h => h.elim) (fun h => h) (fun _ _ h => h)

theorem Bk.whole {W : World} {WB B : Nat} {gv gt : Value} {N : Nat} {ba : Option Addr} {bc : Nat} {flat : List Value} (h : Bk W WB B gv gt N ba bc flat) (hN : N ≤ 140737488355328) :
    Calls Tryz.prog 27 #[.pointer (some ⟨WB, 4, none⟩)] W fun e w' => e = .returned (.bool true) ∧ Below W.heap.size W w' := by
  refine whole_any W WB 4 ba N bc (ltOf h.blk) hN (cellOf h.blk rfl) (cellOf h.blk rfl) (cellOf h.blk rfl) (cellOf h.blk rfl) fun i hi => ?_
  obtain ⟨l, a, b, c, h0, h1, h2, h3, h4, m0, m1, m2, m3⟩ := h.ent i hi
  rcases h.row.2 with ⟨_, h0'⟩ | ⟨g, cap, cur, hv, k1, k2, k3, _⟩
  · omega
  · cases hv
    have hc : ∀ j u, flat[j]? = some u → W.cell? ⟨g, j, none⟩ = some u := fun j u hj => by
      have := h.row.cells (g := g) rfl j u hj
      rwa [Addr.add_lit, Nat.zero_add] at this
    exact ⟨g, l, a, b, c, rfl, ltOf k2, k3, hc _ _ h0, hc _ _ h1, hc _ _ h2, hc _ _ h3, hc _ _ h4, m0, m1, m2, m3⟩

/-- One list more is kept. -/
theorem Bk.add {w w' : World} {WB B : Nat} {gv gt : Value} {N : Nat} {ba ba' : Option Addr} {bc bc' : Nat} {flat : List Value} {l a b c : Value} (h : Bk w WB B gv gt N ba bc flat)
    (hblk : w'.heap[WB]? = some (.cells #[gv, gt, .slice none 0 0, .slice none 0 0, .slice ba' (N + 1) bc', .slice none 0 0, .slice none 0 0, .slice none 0 0] 73))
    (hrow : w'.ownsRow B 120 5 (.slice ba' (N + 1) bc') (N + 1) (flat ++ [l, a, b, c, .int .i64 N])) (hm : MkAt w' w'.heap.size N l ∧ MkAt w' w'.heap.size N a ∧ MkAt w' w'.heap.size N b ∧ MkAt w' w'.heap.size N c)
    (hsz : w.heap.size ≤ w'.heap.size) (hsame : ∀ i, i < w.heap.size → i ≠ WB → (Value.slice ba N bc).ownBlock ≠ some i → w'.heap[i]? = w.heap[i]?) : Bk w' WB B gv gt (N + 1) ba' bc' (flat ++ [l, a, b, c, .int .i64 N]) := by
  have hfl : flat.length = N * 5 := h.row.1
  refine ⟨hblk, h.gsl, hrow, h.lt, Nat.le_trans h.le hsz, fun h0 => by omega, fun i hi => ?_⟩
  by_cases hiN : i < N
  · exact (h.ent i hiN).keep (fun i => i = WB ∨ (Value.slice ba N bc).ownBlock = some i) hsz (fun i hi hb => hsame i hi (fun e => hb (.inl e)) (fun e => hb (.inr e))) h.bad
  · have hie : i = N := by omega
    subst hie
    have hg : ∀ j u, ([l, a, b, c, Value.int .i64 i] : List Value)[j]? = some u → (flat ++ [l, a, b, c, .int .i64 i])[i * 5 + j]? = some u := fun j u hj => by
      rw [List.getElem?_append_right (by omega), hfl, show i * 5 + j - i * 5 = j by omega]
      exact hj
    exact ⟨l, a, b, c, hg 0 _ rfl, hg 1 _ rfl, hg 2 _ rfl, hg 3 _ rfl, hg 4 _ rfl, hm.1, hm.2.1, hm.2.2.1, hm.2.2.2⟩

/-- The books stand where the loans are written over. -/
theorem Bk.loans {w w' : World} {WB B : Nat} {gv gt : Value} {N : Nat} {ba : Option Addr} {bc : Nat} {flat : List Value} {BB base : Nat} {S : Nat → Prop} {av : Value} {Ls : List Loan} {k i : Nat} (h : Bk w WB B gv gt N ba bc flat) (hp : Lp w BB base S av Ls) (hm : Md w w' Ls k i) : Bk w' WB B gv gt N ba bc flat := by
  have hz : ∀ L : Loan, L ∈ Ls → ∃ z, w.cell? ⟨L.g, 0, none⟩ = some (.int .i64 z) := fun L hL => by
    obtain ⟨j, hj⟩ := List.mem_iff_getElem?.1 hL
    obtain ⟨z, hz⟩ := lrow_zero L.ps
    exact ⟨z, cellOf (j := 0) (hp.loan j L hj).1 (by simpa using hz)⟩
  refine h.keep (fun b => ∃ L : Loan, L ∈ Ls ∧ L.g = b) hm.size (fun b hb hn => hm.other b hb (fun L hL e => hn ⟨L, hL, e⟩)) ?_ ?_ ?_
  · rintro b ⟨L, hL, rfl⟩ z e
    obtain ⟨z', hz'⟩ := hz L hL
    rw [hz'] at e
    cases e
  · rintro ⟨L, hL, e⟩
    obtain ⟨z, hz'⟩ := hz L hL
    obtain ⟨a, n, c, hg⟩ := h.gsl
    have := cellOf (j := 0) h.blk rfl
    rw [e, this] at hz'
    simp only [hg] at hz'
    cases hz'
  · rintro g hg ⟨L, hL, e⟩
    obtain ⟨z, hz'⟩ := hz L hL
    by_cases h0 : N = 0
    · rw [h.nil h0] at hg
      cases hg
    · obtain ⟨a, n, c, hf⟩ := (h.ent 0 (by omega)).slice
      have := h.row.cells hg 0 _ hf
      rw [show ((⟨g, 0, none⟩ : Addr).add 0) = ⟨g, 0, none⟩ from rfl, ← e, hz'] at this
      cases this

/-- A region ends so, and in no other way. -/
def EndsAt (A : Act) (W : World) : Exit → Act → World → Prop
  | .panic _, _, _ => False
  | .normal, a, w => a = A ∧ w = W
  | _, _, _ => False
theorem wp_ends {P : Program} {c : Code} {Q : Exit → Act → World → Prop} {a : Act} {w : World} (h : ∃ A W, Code.wp P c (EndsAt A W) a w ∧ Q .normal A W) : Code.wp P c Q a w := by
  obtain ⟨A, W, h1, h2⟩ := h
  refine Code.wp_mono ?_ h1
  intro e a w he
  cases e with
  | normal => obtain ⟨rfl, rfl⟩ := he; exact h2
  | _ => exact (he : False).elim

abbrev opv (k a b c : Int) (s t : ByteArray) : Value := .agg #[.int .i64 k, .int .i64 a, .int .i64 b, .int .i64 c, .string s, .string t]

/-- Which of n things a number speaks of. -/
def pk (c : Int) (n : Nat) : Nat := if c < 0 then (-(c + 1)).toNat % n else c.toNat % n

theorem pk_lt (c : Int) {n : Nat} (hn : 0 < n) : pk c n < n := by
  unfold pk
  split <;> exact Nat.mod_lt _ hn

theorem pick_is (w : World) (c : Int) (n : Nat) (h0 : -9223372036854775808 ≤ c) (h1 : c ≤ 9223372036854775807) (hn : 0 < n) (hn' : n ≤ 9223372036854775807) :
    Calls Tryz.prog 13 #[.int .i64 c, .int .i64 n] w fun e w' => e = .returned (.int .i64 (pk c n : Nat)) ∧ w' = w := by
  have hz : (n : Int) ≠ 0 := by omega
  by_cases hc : c < 0
  · obtain ⟨d, rfl⟩ : ∃ d : Nat, c = -(d + 1 : Int) := ⟨(-(c + 1)).toNat, by omega⟩
    have HZ : Hid (-((-(d + 1 : Int) + 1).tmod n) = ((d % n : Nat) : Int)) := by
      show -((-(d + 1 : Int) + 1).tmod n) = ((d % n : Nat) : Int)
      rw [show (-(d + 1 : Int) + 1) = -(d : Int) by omega, Int.neg_tmod, Int.neg_neg]
      exact (Int.ofNat_tmod d n).symm
    have HK : Hid (pk (-(d + 1 : Int)) n = d % n) := by
      show pk _ _ = _
      unfold pk
      rw [if_pos hc, show (-(-(d + 1 : Int) + 1)).toNat = d by omega]
    go_enter Tryz.func13, Tryz.ntmps13
    go_wp2
    go_ret
    exact ⟨by rw [HK.out]; exact congrArg (fun z => Ending.returned (Value.int .i64 z)) HZ.out, rfl⟩
  · obtain ⟨d, rfl⟩ : ∃ d : Nat, c = (d : Int) := ⟨c.toNat, by omega⟩
    have HK : Hid (pk (d : Int) n = d % n) := by
      show pk _ _ = _
      unfold pk
      rw [if_neg hc, Int.toNat_natCast]
    go_enter Tryz.func13, Tryz.ntmps13
    go_wp2
    go_ret
    exact ⟨by rw [HK.out]; rfl, rfl⟩
end Go.Proofs.YtlghcldiboecoaaGreatDoor
