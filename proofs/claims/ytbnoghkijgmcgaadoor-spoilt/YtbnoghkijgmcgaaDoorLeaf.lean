/- The walk of leaf. -/
import Derived.Test.YtbnoghkijgmcgaaDoorAgain
import Derived.Test.YtbnoghkijgmcgaaDoorMk
set_option linter.unusedVariables false
namespace Go.Proofs.YtbnoghkijgmcgaaDoor
open Go.RowKit

/-- What leaf gives: the sign of a type without brackets and a value of it, so many bytes long. -/
def LeafIs (c : UInt8) (v : Orch.V) (L : Nat) : Prop :=
  c = 63 ∧ v.s = ByteArray.empty ∧ v.l = [] ∧ 0 ≤ v.n ∧ v.n ≤ 1 ∧ L = 1 ∨
  c = 52 ∧ v.s = ByteArray.empty ∧ v.l = [] ∧ -2147483648 ≤ v.n ∧ v.n ≤ 2147483647 ∧ L = 4 ∨
  c = 56 ∧ v.s = ByteArray.empty ∧ v.l = [] ∧ -9223372036854775808 ≤ v.n ∧ v.n ≤ 9223372036854775807 ∧ L = 8 ∨
  c = 98 ∧ v.n = 0 ∧ v.l = [] ∧ v.s.size ≤ 40 ∧ L = 4 + v.s.size ∨
  c = 116 ∧ v.n = 0 ∧ v.l = [] ∧ v.s.size ≤ 40 ∧ validB v.s = true ∧ L = 4 + v.s.size

abbrev zeroV : Array Value := #[.int .i64 0, .string ⟨#[]⟩, .slice none 0 0]

/-- Within leaf: the value that is to be given, the maker, and that nothing else has changed. -/
structure Lf (w W : World) (M : Nat) (N S : Value) (n s x y : Int) : Prop where
  r : W.heap[w.heap.size]? = some (.cells zeroV 31)
  m : MkAt W M N S n s x y
  k : Keeps M w.heap.size w W

theorem Lf.bytes {w W : World} {M : Nat} {N S : Value} {n s x y : Int} (h : Lf w W M N S n s x y) (hlt : M < w.heap.size) (z : Int) : Lf w (W.setCell ⟨M, 5, none⟩ (.int .i64 z)) M N S n s x z :=
  ⟨(heap_setCell_other W ⟨M, 5, none⟩ _ _ (Nat.ne_of_gt hlt)).trans h.r, h.m.set 5 _, h.k.trans (keeps_set _ _ _ _ _)⟩
theorem Lf.next {w W W' : World} {M : Nat} {N S : Value} {n s x y n' s' x' y' : Int} (h : Lf w W M N S n s x y) (hlt : M < w.heap.size) (hm : MkAt W' M N S n' s' x' y') (hk : Keeps M W.heap.size W W') : Lf w W' M N S n' s' x' y' :=
  ⟨(hk.block _ (ltOf h.r) (Nat.ne_of_gt hlt)).trans h.r, hm, h.k.trans (hk.mono h.k.size)⟩
theorem Lf.store {w W : World} {M : Nat} {N S : Value} {n s x y : Int} (h : Lf w W M N S n s x y) (hlt : M < w.heap.size) (cs : Array Value) :
    (W.setRow w.heap.size cs).heap[w.heap.size]? = some (.cells cs 31) ∧ MkAt (W.setRow w.heap.size cs) M N S n s x y ∧ Keeps M w.heap.size w (W.setRow w.heap.size cs) :=
  ⟨setRow_heap _ _ _ _ _ _ h.r, (setRow_other _ _ _ _ (Nat.ne_of_lt hlt)).trans h.m, h.k.trans ⟨rfl, rfl, rfl, by simp, fun k hk _ => setRow_other _ _ _ _ (Nat.ne_of_lt hk)⟩⟩

set_option maxRecDepth 8000 in
set_option maxHeartbeats 4000000 in
theorem leaf_any (w : World) (M : Nat) (N S : Value) (n s : Nat) (x y : Int) (hM : MkAt w M N S n s x y) (hN : Ints w M N) (hS : Strs w M S) (hn : n ≤ 999999990) (hs : s ≤ 999999990) (hx : -1000000 ≤ x) (hx' : x ≤ 40) (hy : -1000000000000 ≤ y) (hy' : y ≤ 700) :
    Calls Tryd.prog 17 #[.pointer (some ⟨M, 0, none⟩)] w fun e w' => (∃ (c : UInt8) (v : Orch.V) (L n' s' : Nat), e = .returned (.tuple #[.string ⟨#[c]⟩, vval v (.slice none 0 0)]) ∧ LeafIs c v L ∧ (y < 50 → L = 1) ∧ n' ≤ n + 2 ∧ s' ≤ s + 1 ∧ MkAt w' M N S n' s' (x - 1) (y - L)) ∧ Keeps M w.heap.size w w' := by
  have hlt := ltOf hM
  have HNb : Hid (∀ B W, M < B → Keeps M B w W → Ints W M N) := fun B W hB h => hN.keeps h (by omega)
  have HSb : Hid (∀ B W, M < B → Keeps M B w W → Strs W M S) := fun B W hB h => hS.keeps h (by omega)
  have HM := hide hM
  have HA : Hid (MkAt (w.alloc (.cells #[.int .i64 0, .string ⟨#[]⟩, .slice none 0 0] 31)) M N S n s x y) := (Below.heap_alloc _ _ _ hlt).trans hM
  have HN0 := hide (heap_alloc_new w (.cells #[.int .i64 0, .string ⟨#[]⟩, .slice none 0 0] 31))
  clear hM hN hS
  go_enter Tryd.func17, Tryd.ntmps17
  go_wp2_with fail
  have hsz : (w.alloc (.cells #[.int .i64 0, .string ⟨#[]⟩, .slice none 0 0] 31)).heap.size = w.heap.size + 1 := by simp
  have HK0 : Hid (Keeps M w.heap.size w (w.alloc (.cells #[.int .i64 0, .string ⟨#[]⟩, .slice none 0 0] 31))) := (Keeps.refl _ _ _).alloc (Nat.le_refl _) _
  refine (number_any _ M N S n s x y HA.out (HNb.out _ _ hlt HK0.out) (by omega)).mono ?_
  rintro e w1 ⟨⟨z, n1, rfl, hz0, hz1, hn1, hM1⟩, hK1⟩
  rw [hsz] at hK1
  have HR1 : Hid (w1.heap[w.heap.size]? = some (.cells #[.int .i64 0, .string ⟨#[]⟩, .slice none 0 0] 31)) := (hK1.block _ (by omega) (by omega)).trans HN0.out
  have HK1 : Hid (Keeps M w.heap.size w w1) := HK0.out.trans (hK1.mono (by omega))
  have c4 := cellOf (j := 4) hM1 rfl
  have f4 := frozenOf (j := 4) hM1
  have HM1 := hide hM1
  clear hM1 hK1 hsz HK0 HN0 HA HM
  go_wp2_with fail
  have H2 : Hid (Lf w (w1.setCell ⟨M, 4, none⟩ (.int .i64 (x - 1))) M N S n1 s (x - 1) y) := ⟨(heap_setCell_other w1 ⟨M, 4, none⟩ _ _ (Nat.ne_of_gt hlt)).trans HR1.out, HM1.out.set 4 _, HK1.out.trans (keeps_set _ _ _ _ _)⟩
  clear HR1 HK1 HM1 c4 f4
  generalize w1.setCell ⟨M, 4, none⟩ (.int .i64 (x - 1)) = w2 at *
  refine (pick_any w2 z 5 hz0 hz1 (by omega) (by omega)).mono ?_
  rintro e w' ⟨⟨k, hk, rfl⟩, rfl⟩
  have c5 := cellOf (j := 5) H2.out.m rfl
  have f5 := frozenOf (j := 5) H2.out.m
  have hk5 : k = 0 ∨ k = 1 ∨ k = 2 ∨ k = 3 ∨ k = 4 := by omega
  have two : y < 50 ∨ ¬ y < 50 := by omega
  rcases two with hy50 | hy50
  · clear hk5
    go_wp2_with fail
    have H3 := hide (H2.out.bytes hlt (y - 1))
    clear H2 c5 f5
    generalize w'.setCell ⟨M, 5, none⟩ (.int .i64 (y - 1)) = w3 at *
    refine (number_any _ M N S n1 s _ _ H3.out.m (HNb.out _ _ hlt H3.out.k) (by omega)).mono ?_
    rintro e w4 ⟨⟨z2, n2, rfl, hz2, hz2', hn2, hM4⟩, hK4⟩
    have H4 := hide (H3.out.next hlt hM4 hK4)
    clear hM4 hK4 H3
    go_wp2_with fail
    refine (pick_any w4 z2 2 hz2 hz2' (by omega) (by omega)).mono ?_
    rintro e w5 ⟨⟨q, hq, rfl⟩, rfl⟩
    go_wp2_with (refine wpList_store_row rfl 31 _ _ rfl w.heap.size #[.int .i64 q, .string ⟨#[]⟩, .slice none 0 0] rfl rfl 31 _ H4.out.r Tryd.size31 rfl (one_v _ _ _ _ _) ?_)
    refine bp_gen (fun X => X.heap[w.heap.size]? = some (.cells #[.int .i64 (q : Int), .string ⟨#[]⟩, .slice none 0 0] 31) ∧ MkAt X M N S n2 s (x - 1) (y - (1 : Nat)) ∧ Keeps M w.heap.size w X) (H4.out.store hlt _) ?_
    rintro X ⟨hX, hXm, hXk⟩
    have c0 := cellOf (j := 0) hX rfl
    have c1 := cellOf (j := 1) hX rfl
    have c2 := cellOf (j := 2) hX rfl
    exact bodyPost_ret (v := .tuple #[.string ⟨#[63]⟩, vv ((q : Int)) ⟨#[]⟩ (.slice none 0 0)]) (by simp [results, Tryd.results17, go_sem, c0, c1, c2]) rfl ⟨⟨63, .mk ((q : Int)) ⟨#[]⟩ [], 1, n2, s, rfl, .inl ⟨rfl, rfl, rfl, by show (0 : Int) ≤ q; omega, by show (q : Int) ≤ 1; omega, rfl⟩, fun _ => rfl, by omega, by omega, hXm⟩, hXk⟩
  · rcases hk5 with rfl | rfl | rfl | rfl | rfl
    · go_wp2_with fail
      have H3 := hide (H2.out.bytes hlt (y - 1))
      clear H2 c5 f5
      generalize w'.setCell ⟨M, 5, none⟩ (.int .i64 (y - 1)) = w3 at *
      refine (number_any _ M N S n1 s _ _ H3.out.m (HNb.out _ _ hlt H3.out.k) (by omega)).mono ?_
      rintro e w4 ⟨⟨z2, n2, rfl, hz2, hz2', hn2, hM4⟩, hK4⟩
      have H4 := hide (H3.out.next hlt hM4 hK4)
      clear hM4 hK4 H3
      go_wp2_with fail
      refine (pick_any w4 z2 2 hz2 hz2' (by omega) (by omega)).mono ?_
      rintro e w5 ⟨⟨q, hq, rfl⟩, rfl⟩
      go_wp2_with (refine wpList_store_row rfl 31 _ _ rfl w.heap.size #[.int .i64 q, .string ⟨#[]⟩, .slice none 0 0] rfl rfl 31 _ H4.out.r Tryd.size31 rfl (one_v _ _ _ _ _) ?_)
      refine bp_gen (fun X => X.heap[w.heap.size]? = some (.cells #[.int .i64 (q : Int), .string ⟨#[]⟩, .slice none 0 0] 31) ∧ MkAt X M N S n2 s (x - 1) (y - (1 : Nat)) ∧ Keeps M w.heap.size w X) (H4.out.store hlt _) ?_
      rintro X ⟨hX, hXm, hXk⟩
      have c0 := cellOf (j := 0) hX rfl
      have c1 := cellOf (j := 1) hX rfl
      have c2 := cellOf (j := 2) hX rfl
      exact bodyPost_ret (v := .tuple #[.string ⟨#[63]⟩, vv ((q : Int)) ⟨#[]⟩ (.slice none 0 0)]) (by simp [results, Tryd.results17, go_sem, c0, c1, c2]) rfl ⟨⟨63, .mk ((q : Int)) ⟨#[]⟩ [], 1, n2, s, rfl, .inl ⟨rfl, rfl, rfl, by show (0 : Int) ≤ q; omega, by show (q : Int) ≤ 1; omega, rfl⟩, fun h => by omega, by omega, by omega, hXm⟩, hXk⟩
    · go_wp2_with fail
      have H3 := hide (H2.out.bytes hlt (y - 4))
      clear H2 c5 f5
      generalize w'.setCell ⟨M, 5, none⟩ (.int .i64 (y - 4)) = w3 at *
      refine (number_any _ M N S n1 s _ _ H3.out.m (HNb.out _ _ hlt H3.out.k) (by omega)).mono ?_
      rintro e w4 ⟨⟨z2, n2, rfl, hz2, hz2', hn2, hM4⟩, hK4⟩
      have H4 := hide (H3.out.next hlt hM4 hK4)
      clear hM4 hK4 H3
      go_wp2_with fail
      refine (pick_any w4 z2 4294967296 hz2 hz2' (by omega) (by omega)).mono ?_
      rintro e w5 ⟨⟨q, hq, rfl⟩, rfl⟩
      go_wp2_with (refine wpList_store_row rfl 31 _ _ rfl w.heap.size #[.int .i64 ((q : Int) - 2147483648), .string ⟨#[]⟩, .slice none 0 0] rfl rfl 31 _ H4.out.r Tryd.size31 rfl (one_v _ _ _ _ _) ?_)
      refine bp_gen (fun X => X.heap[w.heap.size]? = some (.cells #[.int .i64 ((q : Int) - 2147483648), .string ⟨#[]⟩, .slice none 0 0] 31) ∧ MkAt X M N S n2 s (x - 1) (y - (4 : Nat)) ∧ Keeps M w.heap.size w X) (H4.out.store hlt _) ?_
      rintro X ⟨hX, hXm, hXk⟩
      have c0 := cellOf (j := 0) hX rfl
      have c1 := cellOf (j := 1) hX rfl
      have c2 := cellOf (j := 2) hX rfl
      exact bodyPost_ret (v := .tuple #[.string ⟨#[52]⟩, vv ((q : Int) - 2147483648) ⟨#[]⟩ (.slice none 0 0)]) (by simp [results, Tryd.results17, go_sem, c0, c1, c2]) rfl ⟨⟨52, .mk ((q : Int) - 2147483648) ⟨#[]⟩ [], 4, n2, s, rfl, .inr (.inl ⟨rfl, rfl, rfl, by show (-2147483648 : Int) ≤ q - 2147483648; omega, by show (q : Int) - 2147483648 ≤ 2147483647; omega, rfl⟩), fun h => by omega, by omega, by omega, hXm⟩, hXk⟩
    · go_wp2_with fail
      have H3 := hide (H2.out.bytes hlt (y - 8))
      clear H2 c5 f5
      generalize w'.setCell ⟨M, 5, none⟩ (.int .i64 (y - 8)) = w3 at *
      refine (number_any _ M N S n1 s _ _ H3.out.m (HNb.out _ _ hlt H3.out.k) (by omega)).mono ?_
      rintro e w4 ⟨⟨z2, n2, rfl, hz2, hz2', hn2, hM4⟩, hK4⟩
      have H4 := hide (H3.out.next hlt hM4 hK4)
      clear hM4 hK4 H3
      go_wp2_with (refine wpList_store_row rfl 31 _ _ rfl w.heap.size #[.int .i64 z2, .string ⟨#[]⟩, .slice none 0 0] rfl rfl 31 _ H4.out.r Tryd.size31 rfl (one_v _ _ _ _ _) ?_)
      refine bp_gen (fun X => X.heap[w.heap.size]? = some (.cells #[.int .i64 z2, .string ⟨#[]⟩, .slice none 0 0] 31) ∧ MkAt X M N S n2 s (x - 1) (y - (8 : Nat)) ∧ Keeps M w.heap.size w X) (H4.out.store hlt _) ?_
      rintro X ⟨hX, hXm, hXk⟩
      have c0 := cellOf (j := 0) hX rfl
      have c1 := cellOf (j := 1) hX rfl
      have c2 := cellOf (j := 2) hX rfl
      exact bodyPost_ret (v := .tuple #[.string ⟨#[56]⟩, vv (z2) ⟨#[]⟩ (.slice none 0 0)]) (by simp [results, Tryd.results17, go_sem, c0, c1, c2]) rfl ⟨⟨56, .mk (z2) ⟨#[]⟩ [], 8, n2, s, rfl, .inr (.inr (.inl ⟨rfl, rfl, rfl, hz2, hz2', rfl⟩)), fun h => by omega, by omega, by omega, hXm⟩, hXk⟩
    · go_wp2_with fail
      refine (text_any _ M N S n1 s _ _ H2.out.m (HSb.out _ _ hlt H2.out.k) (by omega)).mono ?_
      rintro e w3 ⟨⟨t, s2, rfl, ht, hs2, hM4⟩, hK4⟩
      have H3 := hide (H2.out.next hlt hM4 hK4)
      clear hM4 hK4 H2 c5 f5
      go_wp2_with fail
      refine (cut_any w3 t ht).mono ?_
      rintro e w3' ⟨⟨u, hu, rfl⟩, rfl⟩
      have c5 := cellOf (j := 5) H3.out.m rfl
      have f5 := frozenOf (j := 5) H3.out.m
      have H4 := hide (H3.out.bytes hlt (y - 4 - u.size))
      have HL : Hid (y - 4 - u.size = y - (4 + u.size : Nat)) := by show y - 4 - (u.size : Int) = y - (4 + u.size : Nat); omega
      go_wp2_with (refine wpList_store_row rfl 31 _ _ rfl w.heap.size #[.int .i64 0, .string u, .slice none 0 0] rfl rfl 31 _ H4.out.r Tryd.size31 rfl (one_v _ _ _ _ _) ?_)
      refine bp_gen (fun X => X.heap[w.heap.size]? = some (.cells #[.int .i64 0, .string u, .slice none 0 0] 31) ∧ MkAt X M N S n1 s2 (x - 1) (y - 4 - u.size) ∧ Keeps M w.heap.size w X) (H4.out.store hlt _) ?_
      rintro X ⟨hX, hXm, hXk⟩
      rw [HL.out] at hXm
      have c0 := cellOf (j := 0) hX rfl
      have c1 := cellOf (j := 1) hX rfl
      have c2 := cellOf (j := 2) hX rfl
      exact bodyPost_ret (v := .tuple #[.string ⟨#[98]⟩, vv 0 u (.slice none 0 0)]) (by simp [results, Tryd.results17, go_sem, c0, c1, c2]) rfl ⟨⟨98, .mk 0 u [], 4 + u.size, n1, s2, rfl, .inr (.inr (.inr (.inl ⟨rfl, rfl, rfl, hu, rfl⟩))), fun h => by omega, by omega, by omega, hXm⟩, hXk⟩
    · go_wp2_with fail
      refine (text_any _ M N S n1 s _ _ H2.out.m (HSb.out _ _ hlt H2.out.k) (by omega)).mono ?_
      rintro e w3 ⟨⟨t, s2, rfl, ht, hs2, hM4⟩, hK4⟩
      have H3 := hide (H2.out.next hlt hM4 hK4)
      clear hM4 hK4 H2 c5 f5
      go_wp2_with fail
      refine (cut_any w3 t ht).mono ?_
      rintro e w3' ⟨⟨u, hu, rfl⟩, rfl⟩
      go_wp2_with fail
      refine (plain_any w3' u hu).mono ?_
      rintro e w6 ⟨⟨v, hv, hvv, rfl⟩, hB6⟩
      have H6 := hide (H3.out.next hlt ((hB6.block M (Nat.lt_of_lt_of_le hlt H3.out.k.size)).trans H3.out.m) (Keeps.of hB6))
      clear hB6 H3
      have c5 := cellOf (j := 5) H6.out.m rfl
      have f5 := frozenOf (j := 5) H6.out.m
      have H4 := hide (H6.out.bytes hlt (y - 4 - v.size))
      have HL : Hid (y - 4 - v.size = y - (4 + v.size : Nat)) := by show y - 4 - (v.size : Int) = y - (4 + v.size : Nat); omega
      go_wp2_with (refine wpList_store_row rfl 31 _ _ rfl w.heap.size #[.int .i64 0, .string v, .slice none 0 0] rfl rfl 31 _ H4.out.r Tryd.size31 rfl (one_v _ _ _ _ _) ?_)
      refine bp_gen (fun X => X.heap[w.heap.size]? = some (.cells #[.int .i64 0, .string v, .slice none 0 0] 31) ∧ MkAt X M N S n1 s2 (x - 1) (y - 4 - v.size) ∧ Keeps M w.heap.size w X) (H4.out.store hlt _) ?_
      rintro X ⟨hX, hXm, hXk⟩
      rw [HL.out] at hXm
      have c0 := cellOf (j := 0) hX rfl
      have c1 := cellOf (j := 1) hX rfl
      have c2 := cellOf (j := 2) hX rfl
      exact bodyPost_ret (v := .tuple #[.string ⟨#[116]⟩, vv 0 v (.slice none 0 0)]) (by simp [results, Tryd.results17, go_sem, c0, c1, c2]) rfl ⟨⟨116, .mk 0 v [], 4 + v.size, n1, s2, rfl, .inr (.inr (.inr (.inr ⟨rfl, rfl, rfl, hv, hvv, rfl⟩))), fun h => by omega, by omega, by omega, hXm⟩, hXk⟩
end Go.Proofs.YtbnoghkijgmcgaaDoor
