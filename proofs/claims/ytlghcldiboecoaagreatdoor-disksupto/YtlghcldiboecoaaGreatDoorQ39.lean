/- Plain mathematics of the document's answer: the bytes of a value, laid down part by part; that they are the bytes which the program puts. -/
import Derived.Test.YtlghcldiboecoaaGreatDoorQ01
import Derived.Test.YtlghcldiboecoaaGreatDoorQ00
import Derived.Test.YtlghcldiboecoaaGreatDoorRows
import Derived.Shelf.Unicode.ValidAny
import Derived.Lib.LaidU8T
import Derived.OpenShut
import Derived.Test.YtlghcldiboecoaaGreatDoorRUtf8
import Derived.BigRegion
set_option linter.unusedVariables false
namespace Orch
section
variable (valid : ByteArray → Bool)

def laidE (f : Ty → V → Option (List UInt8)) (t : Ty) : List V → Nat → List UInt8 → Option (List UInt8)
  | [], _, b => some b
  | e :: r, i, b => if 1000 < b.length then none else match f (part t i) e with
    | none => none
    | some c => laidE f t r (i + 1) (b ++ c)

def laidT : Nat → Ty → V → Option (List UInt8)
  | 0, _, _ => none
  | k + 1, t, v => if fits valid t v then laidE (laidT k) t v.l 0 (head t v) else none

end
end Orch

/- The tables that the row lists, in the world, and what utf8.ValidString answers. -/
namespace Go.Proofs.YtlghcldiboecoaaGreatDoor
open Go.RowKit

def validB (s : ByteArray) : Bool := Lib.validD s.data.toList

theorem cut7 {α : Type} (l : List α) (k : Nat) : l.drop k = (l.drop k).take 7 ++ l.drop (k + 7) := by
  rw [← List.drop_drop]
  exact (List.take_append_drop 7 (l.drop k)).symm

end Go.Proofs.YtlghcldiboecoaaGreatDoor

/- The document's answer: the bytes of a value of a type without brackets. -/
namespace Go.Proofs.YtlghcldiboecoaaGreatDoor
open Go.RowKit

inductive InV : Orch.V → Prop
  | mk (n : Int) (s : ByteArray) (l : List Orch.V) (hn : -9223372036854775808 ≤ n ∧ n ≤ 9223372036854775807) (hs : s.size ≤ 140737488351232) (hl : l.length ≤ 140737488351232) (he : ∀ e, e ∈ l → InV e) : InV (.mk n s l)

def ldRes (base : Nat) (w' : World) (bd : Nat) (e : Ending) (o : Option (List UInt8)) : Prop :=
  ∃ ov ok, e = .returned (.tuple #[ov, .bool ok]) ∧ (match o with | none => ok = false | some b => ok = true ∧ b.length ≤ bd ∧ w'.ownsRow base 5 1 ov b.length (bcells b))

theorem own_mono {w : World} {base base' : Nat} {e : TypeId} {size : Nat} {v : Value} {n : Nat} {xs : List Value} (h : w.ownsRow base e size v n xs) (hb : base' ≤ base) : w.ownsRow base' e size v n xs :=
  ⟨h.1, h.2.imp id fun ⟨g, cap, cur, h1, h2, h3⟩ => ⟨g, cap, cur, h1, Nat.le_trans hb h2, h3⟩⟩

theorem empty_of {s : ByteArray} (h : s.size = 0) : s = ⟨#[]⟩ := by
  cases s with | mk d => congr 1; exact Array.eq_empty_of_size_eq_zero h

theorem ld_none {base : Nat} {w' : World} {bd : Nat} {ov : Value} {o : Option (List UInt8)} (h : o = none) : ldRes base w' bd (.returned (.tuple #[ov, .bool false])) o := by
  subst h
  exact ⟨ov, false, rfl, rfl⟩

theorem ld_some {base : Nat} {w' : World} {bd : Nat} {ov : Value} {o : Option (List UInt8)} {b : List UInt8} (h : o = some b) (hb : b.length ≤ bd) (ho : w'.ownsRow base 5 1 ov b.length (bcells b)) : ldRes base w' bd (.returned (.tuple #[ov, .bool true])) o := by
  subst h
  exact ⟨ov, true, rfl, rfl, hb, ho⟩

set_option maxRecDepth 8000 in
set_option maxHeartbeats 2000000 in
theorem laid_63 (w : World) (n : Int) (s : ByteArray) (l : List Orch.V) (la : Option Addr) (lc : Nat) (hn0 : -9223372036854775808 ≤ n) (hn1 : n ≤ 9223372036854775807) (k : Nat) :
    Calls Tryz.prog 128 #[.string ⟨#[63]⟩, vv n s (.slice la l.length lc)] w fun e w' => ldRes w.heap.size w' 208 e (Orch.laidT validB (k + 1) (.mk ⟨63, 0, 1, 0, 1, false, 0⟩ []) (.mk n s l)) ∧ Below w.heap.size w w' := by
  have hnew := heap_alloc_new w (.cells #[.int .i64 n, .string s, .slice la l.length lc] 113)
  have hbl := below1 w (.cells #[.int .i64 n, .string s, .slice la l.length lc] 113)
  have c0 := cellOf (j := 0) hnew rfl
  have c1 := cellOf (j := 1) hnew rfl
  have c2 := cellOf (j := 2) hnew rfl
  have HB := hid hbl
  have HLT : Hid (Orch.laidT validB (k + 1) (.mk ⟨63, 0, 1, 0, 1, false, 0⟩ []) (.mk n s l) = if (0 ≤ n ∧ n ≤ 1) ∧ s.size = 0 ∧ l.length = 0 then some (Orch.be n 1) else none) := by
    show _ = _
    rw [Orch.laidT]
    have hf : Orch.fits validB (.mk ⟨63, 0, 1, 0, 1, false, 0⟩ []) (.mk n s l) = decide ((0 ≤ n ∧ n ≤ 1) ∧ s.size = 0 ∧ l.length = 0) := by
      show (decide (0 ≤ n) && decide (n ≤ 1) && decide (s.size = 0) && decide (l.length = 0)) = _
      rw [Bool.eq_iff_iff]
      simp only [Bool.and_eq_true, decide_eq_true_eq]
      exact ⟨fun ⟨⟨⟨a, b⟩, c⟩, d⟩ => ⟨⟨a, b⟩, c, d⟩, fun ⟨⟨a, b⟩, c, d⟩ => ⟨⟨⟨a, b⟩, c⟩, d⟩⟩
    rw [hf]
    by_cases h : (0 ≤ n ∧ n ≤ 1) ∧ s.size = 0 ∧ l.length = 0
    · rw [decide_eq_true h, if_pos rfl, if_pos h]
      have : l = [] := List.length_eq_zero_iff.1 h.2.2
      subst this
      rfl
    · rw [decide_eq_false h, if_neg (by simp), if_neg h]
  clear hnew hbl
  generalize Orch.laidT validB (k + 1) (.mk ⟨63, 0, 1, 0, 1, false, 0⟩ []) (.mk n s l) = LT at *
  have hone : ∀ z : Int, (z = 0 ∨ z = 1) → ((w.alloc (.cells #[.int .i64 n, .string s, .slice la l.length lc] 113)).alloc (.cells #[.int .u8 z] 5)).ownsRow w.heap.size 5 1 (.slice (some ⟨w.heap.size + 1, 0, none⟩) 1 1) (Orch.be z 1).length (bcells (Orch.be z 1)) := fun z hz => by
    refine ⟨rfl, .inr ⟨w.heap.size + 1, 1, #[.int .u8 z], rfl, by omega, ?_, Nat.le_refl _, by unfold maxLen; omega, rfl, ?_⟩⟩
    · have := heap_alloc_new (w.alloc (.cells #[.int .i64 n, .string s, .slice la l.length lc] 113)) (.cells #[.int .u8 z] 5)
      rw [show (w.alloc (.cells #[.int .i64 n, .string s, .slice la l.length lc] 113)).heap.size = w.heap.size + 1 by simp] at this
      exact this
    · rcases hz with rfl | rfl <;> rfl
  have HONE := hid hone
  clear hone
  by_cases hs : s.size = 0
  · obtain rfl := empty_of hs
    by_cases hl : l.length = 0
    · obtain rfl : l = [] := List.length_eq_zero_iff.1 hl
      have hcase : n = 0 ∨ n = 1 ∨ ((n == 0) = false ∧ (n == 1) = false) := by
        by_cases h0 : n = 0
        · exact .inl h0
        · by_cases h1 : n = 1
          · exact .inr (.inl h1)
          · exact .inr (.inr ⟨by simpa using h0, by simpa using h1⟩)
      rcases hcase with rfl | rfl | ⟨b0, b1⟩
      · have HS : Hid (LT = some (Orch.be 0 1)) := by show _ = _; rw [HLT.out, if_pos ⟨⟨by omega, by omega⟩, rfl, rfl⟩]
        go_enter Tryz.func128, Tryz.ntmps128
        go_wp2
        go_ret2
        exact ⟨ld_some HS.out (by decide) (HONE.out 0 (.inl rfl)), HB.out.alloc (by simp) _⟩
      · have HS : Hid (LT = some (Orch.be 1 1)) := by show _ = _; rw [HLT.out, if_pos ⟨⟨by omega, by omega⟩, rfl, rfl⟩]
        go_enter Tryz.func128, Tryz.ntmps128
        go_wp2
        go_ret2
        exact ⟨ld_some HS.out (by decide) (HONE.out 1 (.inr rfl)), HB.out.alloc (by simp) _⟩
      · have HS : Hid (LT = none) := by
          show _ = _
          rw [HLT.out, if_neg]
          rintro ⟨⟨h0, h1⟩, _⟩
          simp only [beq_eq_false_iff_ne] at b0 b1
          omega
        go_enter Tryz.func128, Tryz.ntmps128
        go_wp2
        all_goals go_ret2
        all_goals exact ⟨ld_none HS.out, (below1 _ _).alloc (by simp) _⟩
    · have bl : ((l.length : Int) == 0) = false := by rw [beq_eq_false_iff_ne]; omega
      have HS : Hid (LT = none) := by show _ = _; rw [HLT.out, if_neg (fun h => hl h.2.2)]
      go_enter Tryz.func128, Tryz.ntmps128
      go_wp2
      all_goals go_ret2
      all_goals exact ⟨ld_none HS.out, (below1 _ _).alloc (by simp) _⟩
  · have bs : s.toList.isEmpty = false := by rw [List.isEmpty_eq_false_iff]; exact fun h => hs ((toList_nil s).1 h)
    have HS : Hid (LT = none) := by show _ = _; rw [HLT.out, if_neg (fun h => hs h.2.1)]
    go_enter Tryz.func128, Tryz.ntmps128
    go_wp2
    all_goals go_ret2
    all_goals exact ⟨ld_none HS.out, (below1 _ _).alloc (by simp) _⟩

theorem by_in (w : World) (n : Int) (s : ByteArray) (q : Nat) (la : Option Addr) (lc : Nat) (m : Int) (hm0 : -9223372036854775808 ≤ m) (hm1 : m ≤ 9223372036854775807) (z : Nat) (hz1 : 1 ≤ z) (hz8 : z ≤ 8) :
    Calls Tryz.prog 78 #[.int .i64 m, .int .i64 z] (w.alloc (.cells #[.int .i64 n, .string s, .slice la q lc] 113)) fun e w1 => ∃ oa oc, e = .returned (.slice oa z oc) ∧ w1.cell? ⟨w.heap.size, 0, none⟩ = some (.int .i64 n) ∧ w1.cell? ⟨w.heap.size, 1, none⟩ = some (.string s) ∧ w1.cell? ⟨w.heap.size, 2, none⟩ = some (.slice la q lc) ∧ Hid (w1.heap[w.heap.size]? = some (.cells #[.int .i64 n, .string s, .slice la q lc] 113)) ∧ Hid (w1.ownsRow (w.heap.size + 1) 5 1 (.slice oa z oc) z (bcells (Orch.be m z))) ∧ Hid (Below (w.heap.size + 1) (w.alloc (.cells #[.int .i64 n, .string s, .slice la q lc] 113)) w1) := by
  have hnew := heap_alloc_new w (.cells #[.int .i64 n, .string s, .slice la q lc] 113)
  refine (bytesOf_any _ m hm0 hm1 z hz1 hz8).mono ?_
  rintro e w1 ⟨⟨ov, rfl, ho⟩, hb1⟩
  obtain ⟨oa, oc, rfl⟩ := own_shape ho
  have hn1' := (hb1.block _ (ltOf hnew)).trans hnew
  have hsz : (w.alloc (.cells #[.int .i64 n, .string s, .slice la q lc] 113)).heap.size = w.heap.size + 1 := by simp
  rw [hsz] at ho hb1
  exact ⟨oa, oc, rfl, cellOf (j := 0) hn1' rfl, cellOf (j := 1) hn1' rfl, cellOf (j := 2) hn1' rfl, hn1', ho, hb1⟩

set_option maxRecDepth 8000 in
set_option maxHeartbeats 4000000 in
theorem laid_52 (w : World) (n : Int) (s : ByteArray) (l : List Orch.V) (la : Option Addr) (lc : Nat) (hn0 : -9223372036854775808 ≤ n) (hn1 : n ≤ 9223372036854775807) (k : Nat) :
    Calls Tryz.prog 128 #[.string ⟨#[52]⟩, vv n s (.slice la l.length lc)] w fun e w' => ldRes w.heap.size w' 208 e (Orch.laidT validB (k + 1) (.mk ⟨52, 0, 4, -2147483648, 2147483647, false, 0⟩ []) (.mk n s l)) ∧ Below w.heap.size w w' := by
  have hnew := heap_alloc_new w (.cells #[.int .i64 n, .string s, .slice la l.length lc] 113)
  have hbl := below1 w (.cells #[.int .i64 n, .string s, .slice la l.length lc] 113)
  have c0 := cellOf (j := 0) hnew rfl
  have c1 := cellOf (j := 1) hnew rfl
  have c2 := cellOf (j := 2) hnew rfl
  have HB := hid hbl
  have HNEW := hid hnew
  have HLT : Hid (Orch.laidT validB (k + 1) (.mk ⟨52, 0, 4, -2147483648, 2147483647, false, 0⟩ []) (.mk n s l) = if (-2147483648 ≤ n ∧ n ≤ 2147483647) ∧ s.size = 0 ∧ l.length = 0 then some (Orch.be n 4) else none) := by
    show _ = _
    rw [Orch.laidT]
    have hf : Orch.fits validB (.mk ⟨52, 0, 4, -2147483648, 2147483647, false, 0⟩ []) (.mk n s l) = decide ((-2147483648 ≤ n ∧ n ≤ 2147483647) ∧ s.size = 0 ∧ l.length = 0) := by
      show (decide (-2147483648 ≤ n) && decide (n ≤ 2147483647) && decide (s.size = 0) && decide (l.length = 0)) = _
      rw [Bool.eq_iff_iff]
      simp only [Bool.and_eq_true, decide_eq_true_eq]
      exact ⟨fun ⟨⟨⟨a, b⟩, c⟩, d⟩ => ⟨⟨a, b⟩, c, d⟩, fun ⟨⟨a, b⟩, c, d⟩ => ⟨⟨⟨a, b⟩, c⟩, d⟩⟩
    rw [hf]
    by_cases h : (-2147483648 ≤ n ∧ n ≤ 2147483647) ∧ s.size = 0 ∧ l.length = 0
    · rw [decide_eq_true h, if_pos rfl, if_pos h]
      have : l = [] := List.length_eq_zero_iff.1 h.2.2
      subst this
      rfl
    · rw [decide_eq_false h, if_neg (by simp), if_neg h]
  have HBY := hid (by_in w n s l.length la lc n hn0 hn1 4 (by omega) (by omega))
  rw [show ((4 : Nat) : Int) = 4 from rfl] at HBY
  clear hnew hbl
  generalize Orch.laidT validB (k + 1) (.mk ⟨52, 0, 4, -2147483648, 2147483647, false, 0⟩ []) (.mk n s l) = LT at *
  by_cases hs : s.size = 0
  · obtain rfl := empty_of hs
    by_cases hl : l.length = 0
    · obtain rfl : l = [] := List.length_eq_zero_iff.1 hl
      have rng : (-2147483648 ≤ n ∧ n < 2147483648) ∨ n < -2147483648 ∨ (-2147483648 ≤ n ∧ ¬ n < 2147483648) := by omega
      rcases rng with ⟨r1, r2⟩ | r1 | ⟨r1, r2⟩
      all_goals
        go_enter Tryz.func128, Tryz.ntmps128
        go_wp2_with (go_at_call 78; refine HBY.out.mono ?_; rintro e w1 ⟨oa, oc, rfl, d0, d1, d2, HN1, HO, HB1⟩; clear HNEW c0 c1 c2)
        all_goals go_ret2
        all_goals first
          | exact ⟨ld_some (by rw [HLT.out, if_pos ⟨⟨by omega, by omega⟩, rfl, rfl⟩]) (by rw [Orch.be_length]; omega) (by rw [Orch.be_length]; exact own_mono HO.out (Nat.le_succ _)), HB.out.trans (HB1.out.mono (Nat.le_succ _))⟩
          | exact ⟨ld_none (by rw [HLT.out, if_neg]; rintro ⟨⟨a, b⟩, _⟩; omega), HB.out.trans (HB1.out.mono (Nat.le_succ _))⟩
    · have bl : ((l.length : Int) == 0) = false := by rw [beq_eq_false_iff_ne]; omega
      have HS : Hid (LT = none) := by show _ = _; rw [HLT.out, if_neg (fun h => hl h.2.2)]
      have rng : (-2147483648 ≤ n ∧ n < 2147483648) ∨ n < -2147483648 ∨ (-2147483648 ≤ n ∧ ¬ n < 2147483648) := by omega
      rcases rng with ⟨r1, r2⟩ | r1 | ⟨r1, r2⟩
      all_goals
        go_enter Tryz.func128, Tryz.ntmps128
        go_wp2_with (go_at_call 78; refine HBY.out.mono ?_; rintro e w1 ⟨oa, oc, rfl, d0, d1, d2, HN1, HO, HB1⟩; clear HNEW c0 c1 c2)
        all_goals go_ret2
        all_goals exact ⟨ld_none HS.out, HB.out.trans (HB1.out.mono (Nat.le_succ _))⟩
  · have bs : s.toList.isEmpty = false := by rw [List.isEmpty_eq_false_iff]; exact fun h => hs ((toList_nil s).1 h)
    have HS : Hid (LT = none) := by show _ = _; rw [HLT.out, if_neg (fun h => hs h.2.1)]
    have rng : (-2147483648 ≤ n ∧ n < 2147483648) ∨ n < -2147483648 ∨ (-2147483648 ≤ n ∧ ¬ n < 2147483648) := by omega
    rcases rng with ⟨r1, r2⟩ | r1 | ⟨r1, r2⟩
    all_goals
      go_enter Tryz.func128, Tryz.ntmps128
      go_wp2_with (go_at_call 78; refine HBY.out.mono ?_; rintro e w1 ⟨oa, oc, rfl, d0, d1, d2, HN1, HO, HB1⟩; clear HNEW c0 c1 c2)
      all_goals go_ret2
      all_goals exact ⟨ld_none HS.out, HB.out.trans (HB1.out.mono (Nat.le_succ _))⟩

set_option maxRecDepth 8000 in
set_option maxHeartbeats 4000000 in
theorem laid_56 (w : World) (n : Int) (s : ByteArray) (l : List Orch.V) (la : Option Addr) (lc : Nat) (hn0 : -9223372036854775808 ≤ n) (hn1 : n ≤ 9223372036854775807) (k : Nat) :
    Calls Tryz.prog 128 #[.string ⟨#[56]⟩, vv n s (.slice la l.length lc)] w fun e w' => ldRes w.heap.size w' 208 e (Orch.laidT validB (k + 1) (.mk ⟨56, 0, 8, -9223372036854775808, 9223372036854775807, false, 0⟩ []) (.mk n s l)) ∧ Below w.heap.size w w' := by
  have hnew := heap_alloc_new w (.cells #[.int .i64 n, .string s, .slice la l.length lc] 113)
  have hbl := below1 w (.cells #[.int .i64 n, .string s, .slice la l.length lc] 113)
  have c0 := cellOf (j := 0) hnew rfl
  have c1 := cellOf (j := 1) hnew rfl
  have c2 := cellOf (j := 2) hnew rfl
  have HB := hid hbl
  have HNEW := hid hnew
  have HLT : Hid (Orch.laidT validB (k + 1) (.mk ⟨56, 0, 8, -9223372036854775808, 9223372036854775807, false, 0⟩ []) (.mk n s l) = if (-9223372036854775808 ≤ n ∧ n ≤ 9223372036854775807) ∧ s.size = 0 ∧ l.length = 0 then some (Orch.be n 8) else none) := by
    show _ = _
    rw [Orch.laidT]
    have hf : Orch.fits validB (.mk ⟨56, 0, 8, -9223372036854775808, 9223372036854775807, false, 0⟩ []) (.mk n s l) = decide ((-9223372036854775808 ≤ n ∧ n ≤ 9223372036854775807) ∧ s.size = 0 ∧ l.length = 0) := by
      show (decide (-9223372036854775808 ≤ n) && decide (n ≤ 9223372036854775807) && decide (s.size = 0) && decide (l.length = 0)) = _
      rw [Bool.eq_iff_iff]
      simp only [Bool.and_eq_true, decide_eq_true_eq]
      exact ⟨fun ⟨⟨⟨a, b⟩, c⟩, d⟩ => ⟨⟨a, b⟩, c, d⟩, fun ⟨⟨a, b⟩, c, d⟩ => ⟨⟨⟨a, b⟩, c⟩, d⟩⟩
    rw [hf]
    by_cases h : (-9223372036854775808 ≤ n ∧ n ≤ 9223372036854775807) ∧ s.size = 0 ∧ l.length = 0
    · rw [decide_eq_true h, if_pos rfl, if_pos h]
      have : l = [] := List.length_eq_zero_iff.1 h.2.2
      subst this
      rfl
    · rw [decide_eq_false h, if_neg (by simp), if_neg h]
  have HBY := hid (by_in w n s l.length la lc n hn0 hn1 8 (by omega) (by omega))
  rw [show ((8 : Nat) : Int) = 8 from rfl] at HBY
  clear hnew hbl
  generalize Orch.laidT validB (k + 1) (.mk ⟨56, 0, 8, -9223372036854775808, 9223372036854775807, false, 0⟩ []) (.mk n s l) = LT at *
  by_cases hs : s.size = 0
  · obtain rfl := empty_of hs
    by_cases hl : l.length = 0
    · obtain rfl : l = [] := List.length_eq_zero_iff.1 hl
      go_enter Tryz.func128, Tryz.ntmps128
      go_wp2_with (go_at_call 78; refine HBY.out.mono ?_; rintro e w1 ⟨oa, oc, rfl, d0, d1, d2, HN1, HO, HB1⟩; clear HNEW c0 c1 c2)
      all_goals go_ret2
      all_goals first
        | exact ⟨ld_some (by rw [HLT.out, if_pos ⟨⟨by omega, by omega⟩, rfl, rfl⟩]) (by rw [Orch.be_length]; omega) (by rw [Orch.be_length]; exact own_mono HO.out (Nat.le_succ _)), HB.out.trans (HB1.out.mono (Nat.le_succ _))⟩
        | exact ⟨ld_none (by rw [HLT.out, if_neg]; rintro ⟨⟨a, b⟩, _⟩; omega), HB.out.trans (HB1.out.mono (Nat.le_succ _))⟩
    · have bl : ((l.length : Int) == 0) = false := by rw [beq_eq_false_iff_ne]; omega
      have HS : Hid (LT = none) := by show _ = _; rw [HLT.out, if_neg (fun h => hl h.2.2)]
      go_enter Tryz.func128, Tryz.ntmps128
      go_wp2_with (go_at_call 78; refine HBY.out.mono ?_; rintro e w1 ⟨oa, oc, rfl, d0, d1, d2, HN1, HO, HB1⟩; clear HNEW c0 c1 c2)
      all_goals go_ret2
      all_goals exact ⟨ld_none HS.out, HB.out.trans (HB1.out.mono (Nat.le_succ _))⟩
  · have bs : s.toList.isEmpty = false := by rw [List.isEmpty_eq_false_iff]; exact fun h => hs ((toList_nil s).1 h)
    have HS : Hid (LT = none) := by show _ = _; rw [HLT.out, if_neg (fun h => hs h.2.1)]
    go_enter Tryz.func128, Tryz.ntmps128
    go_wp2_with (go_at_call 78; refine HBY.out.mono ?_; rintro e w1 ⟨oa, oc, rfl, d0, d1, d2, HN1, HO, HB1⟩; clear HNEW c0 c1 c2)
    all_goals go_ret2
    all_goals exact ⟨ld_none HS.out, HB.out.trans (HB1.out.mono (Nat.le_succ _))⟩

end Go.Proofs.YtlghcldiboecoaaGreatDoor

/- The document's answer: the bytes of bytes and of a text. -/
namespace Go.Proofs.YtlghcldiboecoaaGreatDoor
open Go.RowKit

set_option maxRecDepth 8000 in
set_option maxHeartbeats 8000000 in
theorem laid_98 (w : World) (n : Int) (s : ByteArray) (l : List Orch.V) (la : Option Addr) (lc : Nat) (hs : s.size ≤ 140737488351232) (k : Nat) :
    Calls Tryz.prog 128 #[.string ⟨#[98]⟩, vv n s (.slice la l.length lc)] w fun e w' => ldRes w.heap.size w' 208 e (Orch.laidT validB (k + 1) (.mk ⟨98, 1, 0, 0, 0, false, 0⟩ []) (.mk n s l)) ∧ Below w.heap.size w w' := by
  obtain ⟨i0, hi0, hz0, hz1, hz2⟩ := info_parts Tryz.info5
  have hnew := heap_alloc_new w (.cells #[.int .i64 n, .string s, .slice la l.length lc] 113)
  have hbl := below1 w (.cells #[.int .i64 n, .string s, .slice la l.length lc] 113)
  have c0 := cellOf (j := 0) hnew rfl
  have c1 := cellOf (j := 1) hnew rfl
  have c2 := cellOf (j := 2) hnew rfl
  have HB := hid hbl
  have HNEW := hid hnew
  have HLT : Hid (Orch.laidT validB (k + 1) (.mk ⟨98, 1, 0, 0, 0, false, 0⟩ []) (.mk n s l) = if n = 0 ∧ s.size ≤ 200 ∧ l.length = 0 then some (Orch.be s.size 4 ++ s.data.toList) else none) := by
    show _ = _
    rw [Orch.laidT]
    have hf : Orch.fits validB (.mk ⟨98, 1, 0, 0, 0, false, 0⟩ []) (.mk n s l) = decide (n = 0 ∧ s.size ≤ 200 ∧ l.length = 0) := by
      show (decide (n = 0) && (decide (s.size ≤ 200) && (!false || validB s)) && decide (l.length = 0)) = _
      rw [Bool.eq_iff_iff]
      simp only [Bool.and_eq_true, decide_eq_true_eq, Bool.not_false, Bool.true_or]
      exact ⟨fun ⟨⟨a, b, c⟩, d⟩ => ⟨a, b, d⟩, fun ⟨a, b, d⟩ => ⟨⟨a, b, trivial⟩, d⟩⟩
    rw [hf]
    by_cases h : n = 0 ∧ s.size ≤ 200 ∧ l.length = 0
    · rw [decide_eq_true h, if_pos rfl, if_pos h]
      have : l = [] := List.length_eq_zero_iff.1 h.2.2
      subst this
      rfl
    · rw [decide_eq_false h, if_neg (by simp), if_neg h]
  have HBY := hid (by_in w n s l.length la lc s.size (by omega) (by omega) 4 (by omega) (by omega))
  rw [show ((4 : Nat) : Int) = 4 from rfl] at HBY
  have HU : Hid (Calls Tryz.prog 125 #[.string s] (w.alloc (.cells #[.int .i64 n, .string s, .slice la l.length lc] 113)) fun e w' => e = .returned (.bool (validB s)) ∧ w' = w.alloc (.cells #[.int .i64 n, .string s, .slice la l.length lc] 113)) := utf8_any s _ (by omega)
  clear hnew hbl
  generalize Orch.laidT validB (k + 1) (.mk ⟨98, 1, 0, 0, 0, false, 0⟩ []) (.mk n s l) = LT at *
  generalize validB s = vb at *
  have hn : n = 0 ∨ (n == 0) = false := by
    by_cases h : n = 0
    · exact .inl h
    · exact .inr (by simpa using h)
  have hz : ((s.size : Int) ≤ 200 ∧ decide ((s.size : Int) ≤ 200) = true) ∨ (¬ ((s.size : Int) ≤ 200) ∧ decide ((s.size : Int) ≤ 200) = false) := by
    by_cases h : (s.size : Int) ≤ 200
    · exact .inl ⟨h, decide_eq_true h⟩
    · exact .inr ⟨h, decide_eq_false h⟩
  have hl : l = [] ∨ ((l.length : Int) == 0) = false := by
    cases l with
    | nil => exact .inl rfl
    | cons x r => exact .inr (by rw [beq_eq_false_iff_ne]; simp only [List.length_cons]; omega)
  have hsz : Hid (s.size ≤ 140737488351232) := hs
  rcases hn with rfl | hn <;> rcases hz with ⟨hz, hzd⟩ | ⟨hz, hzd⟩ <;> rcases hl with rfl | hl <;> cases vb
  all_goals
    go_enter Tryz.func128, Tryz.ntmps128
    go_wp2_with (first
      | (at_builtin; refine wpList_append_own_string_at _ rfl _ _ 57 9 rfl (w.heap.size + 1) 5 i0 Tryz.underlying57 Tryz.underlying9 hi0 hz0 hz1 hz2 _ 4 (by omega) (bcells (Orch.be s.size 4)) rfl HO.out s rfl ?_ ?_ ?_ ?_)
      | (go_at_call 125; refine HU.out.mono ?_; rintro e w1 ⟨rfl, rfl⟩)
      | (go_at_call 78; refine HBY.out.mono ?_; rintro e w1 ⟨oa, oc, rfl, d0, d1, d2, HN1, HO, HB1⟩; clear HNEW c0 c1 c2))
    · unfold maxLen; omega
    · omega
    · exact Nat.le_trans (Nat.le_of_eq (by simp)) HB1.out.size
    intro v3 w3 hown3 hout3
    obtain ⟨ra, rc, rfl⟩ := own_shape hown3
    have hn3 := hout3.keep HN1.out (fun e => by have := (ownBlock_lt HO.out e).1; omega)
    have e0 := cellOf (j := 0) hn3 rfl
    have e1 := cellOf (j := 1) hn3 rfl
    have HO3 := hid hown3
    have HB3 : Hid (Below w.heap.size w w3) := HB.out.trans ((HB1.out.mono (Nat.le_succ _)).trans (hout3.low (Nat.le_trans HB.out.size HB1.out.size) (fun g e => by have := (ownBlock_lt HO.out e).1; omega)))
    clear hown3 hout3 d0 d1 d2 hn3 HN1 HB1 HO HB
    go_wp2
    go_big_region
    all_goals (try go_wp2)
    all_goals go_ret2
    all_goals first
      | exact ⟨ld_some (by rw [HLT.out, if_pos (by simp; omega)]) (by rw [List.length_append, Orch.be_length]; have := hz; show 4 + s.size ≤ 208; omega) (by rw [List.length_append, Orch.be_length]; exact own_mono HO3.out.drew (Nat.le_succ _)), HB3.out.drew⟩
      | exact ⟨ld_none (by rw [HLT.out, if_neg]; first | (intro h; have := h.1; simp_all; done) | (intro h; have := h.2.1; omega) | (intro h; have := h.2.2; simp_all; done)), HB3.out.drew⟩

set_option maxRecDepth 8000 in
set_option maxHeartbeats 8000000 in
theorem laid_116 (w : World) (n : Int) (s : ByteArray) (l : List Orch.V) (la : Option Addr) (lc : Nat) (hs : s.size ≤ 140737488351232) (k : Nat) :
    Calls Tryz.prog 128 #[.string ⟨#[116]⟩, vv n s (.slice la l.length lc)] w fun e w' => ldRes w.heap.size w' 208 e (Orch.laidT validB (k + 1) (.mk ⟨116, 1, 0, 0, 0, true, 0⟩ []) (.mk n s l)) ∧ Below w.heap.size w w' := by
  obtain ⟨i0, hi0, hz0, hz1, hz2⟩ := info_parts Tryz.info5
  have hnew := heap_alloc_new w (.cells #[.int .i64 n, .string s, .slice la l.length lc] 113)
  have hbl := below1 w (.cells #[.int .i64 n, .string s, .slice la l.length lc] 113)
  have c0 := cellOf (j := 0) hnew rfl
  have c1 := cellOf (j := 1) hnew rfl
  have c2 := cellOf (j := 2) hnew rfl
  have HB := hid hbl
  have HNEW := hid hnew
  have HLT : Hid (Orch.laidT validB (k + 1) (.mk ⟨116, 1, 0, 0, 0, true, 0⟩ []) (.mk n s l) = if n = 0 ∧ s.size ≤ 200 ∧ l.length = 0 ∧ validB s = true then some (Orch.be s.size 4 ++ s.data.toList) else none) := by
    show _ = _
    rw [Orch.laidT]
    have hf : Orch.fits validB (.mk ⟨116, 1, 0, 0, 0, true, 0⟩ []) (.mk n s l) = decide (n = 0 ∧ s.size ≤ 200 ∧ l.length = 0 ∧ validB s = true) := by
      show (decide (n = 0) && (decide (s.size ≤ 200) && (!true || validB s)) && decide (l.length = 0)) = _
      rw [Bool.eq_iff_iff]
      simp only [Bool.and_eq_true, decide_eq_true_eq, Bool.not_true, Bool.false_or]
      exact ⟨fun ⟨⟨a, b, c⟩, d⟩ => ⟨a, b, d, c⟩, fun ⟨a, b, d, c⟩ => ⟨⟨a, b, c⟩, d⟩⟩
    rw [hf]
    by_cases h : n = 0 ∧ s.size ≤ 200 ∧ l.length = 0 ∧ validB s = true
    · rw [decide_eq_true h, if_pos rfl, if_pos h]
      have : l = [] := List.length_eq_zero_iff.1 h.2.2.1
      subst this
      rfl
    · rw [decide_eq_false h, if_neg (by simp), if_neg h]
  have HBY := hid (by_in w n s l.length la lc s.size (by omega) (by omega) 4 (by omega) (by omega))
  rw [show ((4 : Nat) : Int) = 4 from rfl] at HBY
  have HU : Hid (Calls Tryz.prog 125 #[.string s] (w.alloc (.cells #[.int .i64 n, .string s, .slice la l.length lc] 113)) fun e w' => e = .returned (.bool (validB s)) ∧ w' = w.alloc (.cells #[.int .i64 n, .string s, .slice la l.length lc] 113)) := utf8_any s _ (by omega)
  clear hnew hbl
  generalize Orch.laidT validB (k + 1) (.mk ⟨116, 1, 0, 0, 0, true, 0⟩ []) (.mk n s l) = LT at *
  generalize validB s = vb at *
  have hn : n = 0 ∨ (n == 0) = false := by
    by_cases h : n = 0
    · exact .inl h
    · exact .inr (by simpa using h)
  have hz : ((s.size : Int) ≤ 200 ∧ decide ((s.size : Int) ≤ 200) = true) ∨ (¬ ((s.size : Int) ≤ 200) ∧ decide ((s.size : Int) ≤ 200) = false) := by
    by_cases h : (s.size : Int) ≤ 200
    · exact .inl ⟨h, decide_eq_true h⟩
    · exact .inr ⟨h, decide_eq_false h⟩
  have hl : l = [] ∨ ((l.length : Int) == 0) = false := by
    cases l with
    | nil => exact .inl rfl
    | cons x r => exact .inr (by rw [beq_eq_false_iff_ne]; simp only [List.length_cons]; omega)
  have hsz : Hid (s.size ≤ 140737488351232) := hs
  rcases hn with rfl | hn <;> rcases hz with ⟨hz, hzd⟩ | ⟨hz, hzd⟩ <;> rcases hl with rfl | hl <;> cases vb
  all_goals
    go_enter Tryz.func128, Tryz.ntmps128
    go_wp2_with (first
      | (at_builtin; refine wpList_append_own_string_at _ rfl _ _ 57 9 rfl (w.heap.size + 1) 5 i0 Tryz.underlying57 Tryz.underlying9 hi0 hz0 hz1 hz2 _ 4 (by omega) (bcells (Orch.be s.size 4)) rfl HO.out s rfl ?_ ?_ ?_ ?_)
      | (go_at_call 125; refine HU.out.mono ?_; rintro e w1 ⟨rfl, rfl⟩)
      | (go_at_call 78; refine HBY.out.mono ?_; rintro e w1 ⟨oa, oc, rfl, d0, d1, d2, HN1, HO, HB1⟩; clear HNEW c0 c1 c2))
    · unfold maxLen; omega
    · omega
    · exact Nat.le_trans (Nat.le_of_eq (by simp)) HB1.out.size
    intro v3 w3 hown3 hout3
    obtain ⟨ra, rc, rfl⟩ := own_shape hown3
    have hn3 := hout3.keep HN1.out (fun e => by have := (ownBlock_lt HO.out e).1; omega)
    have e0 := cellOf (j := 0) hn3 rfl
    have e1 := cellOf (j := 1) hn3 rfl
    have HO3 := hid hown3
    have HB3 : Hid (Below w.heap.size w w3) := HB.out.trans ((HB1.out.mono (Nat.le_succ _)).trans (hout3.low (Nat.le_trans HB.out.size HB1.out.size) (fun g e => by have := (ownBlock_lt HO.out e).1; omega)))
    clear hown3 hout3 d0 d1 d2 hn3 HN1 HB1 HO HB
    go_wp2
    go_big_region
    all_goals (try go_wp2)
    all_goals go_ret2
    all_goals first
      | exact ⟨ld_some (by rw [HLT.out, if_pos (by simp; omega)]) (by rw [List.length_append, Orch.be_length]; have := hz; show 4 + s.size ≤ 208; omega) (by rw [List.length_append, Orch.be_length]; exact own_mono HO3.out.drew (Nat.le_succ _)), HB3.out.drew⟩
      | exact ⟨ld_none (by rw [HLT.out, if_neg]; first | (intro h; have := h.1; simp_all; done) | (intro h; have := h.2.1; omega) | (intro h; have := h.2.2; simp_all; done)), HB3.out.drew⟩

end Go.Proofs.YtlghcldiboecoaaGreatDoor

/- The document's answer: the bytes of a vector. -/
namespace Go.Proofs.YtlghcldiboecoaaGreatDoor
open Go.RowKit

def goL (f : Nat → Option (List UInt8)) : Nat → Nat → List UInt8 → Option (List UInt8)
  | 0, _, b => some b
  | m + 1, i, b => if 1000 < b.length then none else match f i with
    | none => none
    | some c => goL f m (i + 1) (b ++ c)

theorem bcells_len (c : List UInt8) : (bcells c).length = c.length := by simp [bcells]
theorem bcells_app (b c : List UInt8) : bcells (b ++ c) = bcells b ++ bcells c := by simp [bcells]
theorem bcells_one (c : List UInt8) : ∀ u, u ∈ bcells c → u.oneCell' = true := by
  intro u hu
  unfold bcells at hu
  obtain ⟨x, _, rfl⟩ := List.mem_map.1 hu
  rfl

set_option maxRecDepth 8000 in
set_option maxHeartbeats 4000000 in
theorem laid_91 (w : World) (T P : ByteArray) (hT0 : 3 ≤ T.size) (hT1 : T.size ≤ 64) (hT : T[0] = 91) (hTP : T.extract 1 (T.size - 1) = P) (hP : P.size = T.size - 2) (la : Option Addr) (ln lc : Nat) (hln : ln ≤ 32) (B : Nat) (hB : B ≤ 20000)
    (f : Nat → Option (List UInt8)) (LT : Option (List UInt8)) (hLT : LT = goL f ln 0 (Orch.be ln 4)) (hf : ∀ i c, f i = some c → 1 ≤ c.length)
    (el : Nat → Orch.V) (ex : Nat → Value) (HEL : Hid (∀ W, Below w.heap.size w W → ∀ i, i < ln → ∃ (g o : Nat) (xa : Option Addr) (xm xc : Nat), la = some ⟨g, o, none⟩ ∧ g < W.heap.size ∧ ln ≤ lc ∧ ex i = .slice xa xm xc ∧ W.cell? ⟨g, o + i * 3, none⟩ = some (.int .i64 (el i).n) ∧ W.cell? ⟨g, o + i * 3 + 1, none⟩ = some (.string (el i).s) ∧ W.cell? ⟨g, o + i * 3 + 2, none⟩ = some (ex i)))
    (HFI : Hid (∀ W, Calls Tryz.prog 175 #[.string P] W fun e w' => e = .returned (.string P) ∧ w' = W))
    (HLA : Hid (∀ W, Below w.heap.size w W → ∀ i, i < ln → Calls Tryz.prog 128 #[.string P, vv (el i).n (el i).s (ex i)] W fun e w' => ldRes W.heap.size w' B e (f i) ∧ Below W.heap.size W w')) :
    Calls Tryz.prog 128 #[.string T, vv 0 ⟨#[]⟩ (.slice la ln lc)] w fun e w' => ldRes w.heap.size w' (1000 + B) e LT ∧ Below w.heap.size w w' := by
  obtain ⟨i0, hi0, hz0, hz1, hz2⟩ := info_parts Tryz.info5
  have hnew := heap_alloc_new w (.cells #[.int .i64 0, .string ⟨#[]⟩, .slice la ln lc] 113)
  have hbl := below1 w (.cells #[.int .i64 0, .string ⟨#[]⟩, .slice la ln lc] 113)
  have c0 := cellOf (j := 0) hnew rfl
  have c1 := cellOf (j := 1) hnew rfl
  have c2 := cellOf (j := 2) hnew rfl
  have HB := hid hbl
  have HNEW := hid hnew
  have HLT := hid hLT
  have HF1 := hid hf
  have HBY := hid (by_in w 0 ⟨#[]⟩ ln la lc ln (by omega) (by omega) 4 (by omega) (by omega))
  rw [show ((4 : Nat) : Int) = 4 from rfl] at HBY
  have q0 : ((T[0].toNat : Int) == 63) = false := by rw [hT]; rfl
  have q1 : ((T[0].toNat : Int) == 52) = false := by rw [hT]; rfl
  have q2 : ((T[0].toNat : Int) == 56) = false := by rw [hT]; rfl
  have q3 : ((T[0].toNat : Int) == 98) = false := by rw [hT]; rfl
  have q4 : ((T[0].toNat : Int) == 116) = false := by rw [hT]; rfl
  have q5 : ((T[0].toNat : Int) == 91) = true := by rw [hT]; rfl
  have q6 : ((T[0].toNat : Int) == 40) = false := by rw [hT]; rfl
  have hl32 : ¬ ((ln : Int) > 32) := by omega
  have hld : decide ((ln : Int) > 32) = false := decide_eq_false hl32
  clear hT hnew hbl hLT hf
  have hTP' := hid hTP
  have hPe : P.toList.isEmpty = false := by rw [List.isEmpty_eq_false_iff]; exact fun h => by have := (toList_nil P).1 h; omega
  have hm1 : (1 : Int) ≤ ((T.size - 1 : Nat) : Int) := by omega
  have hTS : ((T.size : Int) - 1) = ((T.size - 1 : Nat) : Int) := by omega
  have HTS := hid hTS
  clear hTS
  go_enter Tryz.func128, Tryz.ntmps128
  go_wp2_with (go_at_call 78; refine HBY.out.mono ?_; rintro e w1 ⟨oa, oc, rfl, d0, d1, d2, HN1, HO, HB1⟩; clear HNEW c0 c1 c2)
  go_loopw [11, 12, 13] (fun u0 u1 i13 wr => ∃ (i : Nat) (xr : List UInt8), u1 = .string P ∧ i13 = .int .i64 i ∧ i ≤ ln ∧ (1 ≤ xr.length ∧ xr.length ≤ 1000 + B) ∧ Hid (LT = goL f (ln - i) i xr) ∧ Hid (wr.ownsRow (w.heap.size + 1) 5 1 u0 xr.length (bcells xr)) ∧ Hid (Below (w.heap.size + 1) (w.alloc (.cells #[.int .i64 0, .string ⟨#[]⟩, .slice la ln lc] 113)) wr))
    (fun _ _ i _ => ln - (intOf i).toNat)
  case atStart => exact ⟨0, Orch.be ln 4, rfl, rfl, Nat.zero_le _, by rw [Orch.be_length]; omega, HLT, by show World.ownsRow _ _ _ _ _ _ _; rw [Orch.be_length]; exact HO.out, HB1⟩
  case round =>
    obtain ⟨i, xr, rfl, rfl, hi', ⟨hx1, hx2⟩, HG, HOR, HBR⟩ := hrel
    obtain ⟨qa, qc, hq⟩ := own_shape HOR.out
    subst hq
    have HLOW : Hid (Below w.heap.size w wr) := HB.out.trans (HBR.out.mono (Nat.le_succ _))
    by_cases hlt : i < ln
    · have hltz : (i : Int) < (ln : Int) := by omega
      have HGS : Hid (LT = if 1000 < xr.length then none else match f i with | none => none | some c => goL f (ln - (i + 1)) (i + 1) (xr ++ c)) := by
        show _ = _
        rw [HG.out, show ln - i = (ln - (i + 1)) + 1 by omega, goL]
      clear HG
      by_cases hbig : 1000 < xr.length
      · have hb1 : (xr.length : Int) > 1000 := by omega
        have hb2 : decide ((xr.length : Int) > 1000) = true := decide_eq_true hb1
        have HR : Hid (LT = none) := by show _ = _; rw [HGS.out, if_pos hbig]
        go_wp2
        all_goals go_ret2
        all_goals exact ⟨ld_none HR.out, HLOW.out⟩
      · have hb1 : ¬ ((xr.length : Int) > 1000) := by omega
        have hb2 : decide ((xr.length : Int) > 1000) = false := decide_eq_false hb1
        obtain ⟨g, o, xa, xm, xc, hla, hgl, hlc, hex, e0, e1, e2⟩ := HEL.out wr HLOW.out i hlt
        subst hla
        rw [hex] at e2
        have hn2 := (HBR.out.block _ (by simp)).trans (heap_alloc_new w (.cells #[.int .i64 0, .string ⟨#[]⟩, .slice (some ⟨g, o, none⟩) ln lc] 113))
        have k2 := cellOf (j := 2) hn2 rfl
        have HLI := HLA.out wr HLOW.out i hlt
        rw [hex] at HLI
        have HLI := hid HLI
        have HFW := hid (HFI.out wr)
        clear hn2 hex
        cases hfi : f i with
        | none =>
          have HR : Hid (LT = none) := by show _ = _; rw [HGS.out, if_neg hbig, hfi]
          rw [hfi] at HLI
          clear hfi HGS
          go_wp2_with (first
            | (go_at_call 175; refine HFW.out.mono ?_; rintro e w2 ⟨rfl, hw2⟩; have hw3 := hw2.symm; clear hw2; subst hw3)
            | (go_at_call 128; refine HLI.out.mono ?_; rintro e w2 ⟨⟨ov, ok, rfl, hok⟩, hb⟩; have hok' : ok = false := hok; subst hok'; clear hok; have HB2 : Hid (Below w.heap.size w w2) := HLOW.out.trans (hb.mono HLOW.out.size); clear hb))
          all_goals go_ret2
          all_goals exact ⟨ld_none HR.out, HB2.out⟩
        | some c =>
          have HR : Hid (LT = goL f (ln - (i + 1)) (i + 1) (xr ++ c)) := by show _ = _; rw [HGS.out, if_neg hbig, hfi]
          have hc1 := HF1.out i c hfi
          rw [hfi] at HLI
          clear hfi HGS
          go_wp2_with (first
            | (at_builtin; refine wpList_append_own_at _ rfl _ _ 57 rfl (w.heap.size + 1) 5 i0 (.int .u8 0) 1 1 Tryz.underlying57 hi0 hz0 hz1 hz2 rfl (by decide) _ xr.length (bcells xr) rfl (ownsRow_below HOR.out HB2.out) ⟨cg, 0, none⟩ c.length cc (bcells c) rfl (by rw [bcells_len, Nat.mul_one]) HC.out (bcells_one c) ?_ ?_ ?_ ?_)
            | (go_at_call 175; refine HFW.out.mono ?_; rintro e w2 ⟨rfl, hw2⟩; have hw3 := hw2.symm; clear hw2; subst hw3)
            | (go_at_call 128; refine HLI.out.mono ?_; rintro e w2 ⟨⟨ov, ok, rfl, hok, hcl, hco⟩, hb⟩; subst hok; obtain ⟨cg, cc, rfl, hcc⟩ := own_bytes' hco (by omega); have HC := hid hcc; have HB2 := hid hb; clear hco hcc hb))
          · unfold maxLen; omega
          · omega
          · exact Nat.le_trans (Nat.le_trans (Nat.le_of_eq (by simp)) HBR.out.size) HB2.out.size
          intro v3 w3 ho3 hg3 _ hlie
          obtain ⟨ra, rc, hr⟩ := own_shape ho3
          subst hr
          have HO3 : Hid (w3.ownsRow (w.heap.size + 1) 5 1 (.slice ra (xr.length + c.length) rc) (xr ++ c).length (bcells (xr ++ c))) := by
            show World.ownsRow _ _ _ _ _ _ _
            rw [bcells_app, List.length_append]
            exact ho3
          have HB3 : Hid (Below (w.heap.size + 1) (w.alloc (.cells #[.int .i64 0, .string ⟨#[]⟩, .slice (some ⟨g, o, none⟩) ln lc] 113)) w3) := by
            have hw1 : w.heap.size + 1 ≤ wr.heap.size := Nat.le_trans (Nat.le_of_eq (by simp)) HBR.out.size
            have hout : Outs w2 w3 (.slice qa xr.length qc) (.slice ra (xr.length + c.length) rc) := ⟨hg3, hlie.imp id (fun h => ⟨_, h, Nat.le_refl _⟩)⟩
            exact (HBR.out.trans (HB2.out.mono hw1)).trans (hout.low (Nat.le_trans hw1 HB2.out.size) (fun g e => (ownBlock_lt HOR.out e).1))
          clear ho3 hg3 hlie k2
          go_wp2
          go_roundw
          case rel => exact ⟨i + 1, xr ++ c, rfl, by go_num, by omega, by rw [List.length_append]; omega, HR, HO3, HB3⟩
          case measure => simp [intOf]; omega
    · have hie : i = ln := by omega
      have HR : Hid (LT = some xr) := by
        show _ = _
        rw [HG.out, hie, Nat.sub_self, goL]
      have hltz : ¬ (i : Int) < (ln : Int) := by omega
      clear HG
      go_wp2
      all_goals go_ret2
      all_goals exact ⟨ld_some HR.out hx2 (own_mono HOR.out (Nat.le_succ _)), HLOW.out⟩

end Go.Proofs.YtlghcldiboecoaaGreatDoor
