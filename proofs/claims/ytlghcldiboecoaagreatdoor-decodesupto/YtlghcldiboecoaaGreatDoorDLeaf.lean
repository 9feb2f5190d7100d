/- The document's answer: the number that bytes stand for, the first bytes of a list. -/
import Derived.Test.YtlghcldiboecoaaGreatDoorTake
import Derived.Test.YtlghcldiboecoaaGreatDoorTakeA
set_option linter.unusedVariables false
namespace Go.Proofs.YtlghcldiboecoaaGreatDoor
open Go.RowKit

/-- The number that at most eight bytes stand for. -/
def numI (l : List UInt8) : Int := if l.length = 4 ∧ 2147483648 ≤ wrap64 (Orch.uns l : Int) then wrap64 (Orch.uns l : Int) - 4294967296 else wrap64 (Orch.uns l : Int)

theorem wrap_in (z : Int) : -9223372036854775808 ≤ wrap64 z ∧ wrap64 z ≤ 9223372036854775807 := by
  unfold wrap64
  omega

theorem numI_1 {l : List UInt8} (h : l.length = 1) : numI l = Orch.uns l := by
  have := Orch.uns_lt l
  rw [h] at this
  unfold numI
  rw [if_neg (by omega)]
  unfold wrap64
  omega

theorem numI_4 {l : List UInt8} (h : l.length = 4) : numI l = Orch.sgn l := by
  have h1 := Orch.uns_lt l
  rw [h] at h1
  unfold numI Orch.sgn
  have h2 : wrap64 (Orch.uns l : Int) = (Orch.uns l : Int) := by unfold wrap64; omega
  rw [h2, h]
  by_cases h3 : 256 ^ 4 ≤ 2 * Orch.uns l
  · rw [if_pos (by omega), if_pos h3]; rfl
  · rw [if_neg (by omega), if_neg h3]

theorem numI_8 {l : List UInt8} (h : l.length = 8) : numI l = Orch.sgn l := by
  have h1 := Orch.uns_lt l
  rw [h] at h1
  unfold numI Orch.sgn
  rw [if_neg (by omega), h]
  unfold wrap64
  split <;> omega

theorem numI_in (l : List UInt8) : -9223372036854775808 ≤ numI l ∧ numI l ≤ 9223372036854775807 := by
  have := wrap_in (Orch.uns l : Int)
  unfold numI
  split <;> omega

set_option maxHeartbeats 1000000 in
theorem numberOf_any (w : World) (b off n cap : Nat) (l : List UInt8) (hn : l.length = n) (hl : n ≤ 8) (hb : Bytes w b off l) (hc : n ≤ cap) :
    Calls Tryz.prog 144 #[.slice (some ⟨b, off, none⟩) n cap] w fun e w' => e = .returned (.int .i64 (numI l)) ∧ w' = w := by
  subst hn
  go_enter Tryz.func144, Tryz.ntmps144
  go_wp2
  go_loop [3, 4] (fun x i => ∃ k : Nat, k ≤ l.length ∧ i = .int .i64 k ∧ x = .int .i64 (wrap64 (Orch.uns (l.take k) : Int))) (fun _ i => l.length - (intOf i).toNat)
  case atStart => exact ⟨0, Nat.zero_le _, rfl, val_int (by simp [Orch.uns, wrap64])⟩
  case round =>
    obtain ⟨k, hk, rfl, rfl⟩ := hrel
    by_cases hlt : k < l.length
    · have hc := hb k hlt
      have HS : Hid (Orch.uns (l.take (k + 1)) = Orch.uns (l.take k) * 256 + l[k].toNat) := uns_snoc l k hlt
      have hc8 : l[k].toNat < 256 := UInt8.toNat_lt _
      have HY : Hid (wrap64 (wrap64 (wrap64 (Orch.uns (l.take k) : Int) * 256) + (l[k].toNat : Int)) = wrap64 (Orch.uns (l.take (k + 1)) : Int)) := by
        show _ = _
        rw [HS.out]
        unfold wrap64
        omega
      generalize wrap64 (Orch.uns (l.take k) : Int) = Y at *
      go_wp2
      go_round
      case rel => exact ⟨k + 1, by omega, by go_num, val_int HY.out⟩
      case measure => first | (simp [intOf]; done) | (simp [intOf]; omega)
    · have hke : l.take k = l := List.take_of_length_le (by omega)
      rw [hke]
      have HN : Hid (numI l = if l.length = 4 ∧ 2147483648 ≤ wrap64 (Orch.uns l : Int) then wrap64 (Orch.uns l : Int) - 4294967296 else wrap64 (Orch.uns l : Int)) := rfl
      have hw := wrap_in (Orch.uns l : Int)
      generalize wrap64 (Orch.uns l : Int) = Y at *
      have hltz : ¬ (k : Int) < (l.length : Int) := by omega
      clear hb
      by_cases h4 : l.length = 4
      · have h4z : ((l.length : Int) == 4) = true := by rw [beq_iff_eq]; omega
        by_cases hh : 2147483648 ≤ Y
        · have hg : Y ≥ 2147483648 := hh
          have hd : decide (Y ≥ 2147483648) = true := decide_eq_true hg
          go_wp2
          all_goals go_ret
          all_goals exact ⟨ret_int (by rw [HN.out, if_pos ⟨h4, hh⟩]), rfl⟩
        · have hg : ¬ (Y ≥ 2147483648) := hh
          have hd : decide (Y ≥ 2147483648) = false := decide_eq_false hg
          go_wp2
          all_goals go_ret
          all_goals exact ⟨ret_int (by rw [HN.out, if_neg (fun h => by have := h.2; omega)]), rfl⟩
      · have h4z : ((l.length : Int) == 4) = false := by rw [beq_eq_false_iff_ne]; omega
        go_wp2
        all_goals go_ret
        all_goals exact ⟨ret_int (by rw [HN.out, if_neg (fun h => h4 h.1)]), rfl⟩

set_option maxHeartbeats 1000000 in
theorem cut_any (w : World) (b off len cap n : Nat) (hlen : len ≤ cap) (h1 : len ≤ 9223372036854775807) (h2 : n ≤ 9223372036854775807) :
    Calls Tryz.prog 180 #[.slice (some ⟨b, off, none⟩) len cap, .int .i64 n] w fun e w' => e = .returned (.slice (some ⟨b, off, none⟩) (min n len) cap) ∧ w' = w := by
  have hz : ¬ (n : Int) < 0 := by omega
  by_cases h : len < n
  · have hg : (n : Int) > (len : Int) := by omega
    rw [Nat.min_eq_right (by omega)]
    go_enter Tryz.func180, Tryz.ntmps180
    go_wp2
    all_goals go_ret
    all_goals exact ⟨rfl, rfl⟩
  · have hg : ¬ (n : Int) > (len : Int) := by omega
    rw [Nat.min_eq_left (by omega)]
    go_enter Tryz.func180, Tryz.ntmps180
    go_wp2
    all_goals go_ret
    all_goals exact ⟨rfl, rfl⟩
end Go.Proofs.YtlghcldiboecoaaGreatDoor

/- The document's answer: the value that bytes may stand for: numbers, texts. -/
set_option linter.unusedVariables false
namespace Go.Proofs.YtlghcldiboecoaaGreatDoor
open Go.RowKit

set_option maxRecDepth 8000 in
set_option maxHeartbeats 1000000 in
theorem guess_63 (w : World) (b off k cap : Nat) (hcap : k ≤ cap) (hk : k ≤ 140737488355328) (n : Int) (hn : Hid (∀ W, Below w.heap.size w W → Calls Tryz.prog 144 #[.slice (some ⟨b, off, none⟩) (min 1 k) cap] W fun e w' => e = .returned (.int .i64 n) ∧ w' = W)) :
    Calls Tryz.prog 135 #[.string ⟨#[63]⟩, .slice (some ⟨b, off, none⟩) k cap] w fun e w' => e = .returned (.tuple #[vv n ⟨#[]⟩ (.slice none 0 0), .int .i64 1]) ∧ Below w.heap.size w w' := by
  have HC := hide (fun W => cut_any W b off k cap 1 hcap (by omega) (by omega))
  rw [show ((1 : Nat) : Int) = 1 from rfl] at HC
  generalize min 1 k = m at *
  have N0 := hide (heap_alloc_new w (.cells #[.int .i64 0, .string ⟨#[]⟩, .slice none 0 0] 113))
  have N1 : Hid (((w.alloc (.cells #[.int .i64 0, .string ⟨#[]⟩, .slice none 0 0] 113)).alloc (.cells #[.int .i64 n, .string ⟨#[]⟩, .slice none 0 0] 113)).heap[w.heap.size]? = some (.cells #[.int .i64 0, .string ⟨#[]⟩, .slice none 0 0] 113)) := (Below.heap_alloc _ _ _ (ltOf N0.out)).trans N0.out
  go_enter Tryz.func135, Tryz.ntmps135
  go_wp2_with (first
    | (refine wpList_store_row rfl 113 _ _ rfl w.heap.size #[.int .i64 n, .string ⟨#[]⟩, .slice none 0 0] rfl rfl 113 _ N1.out Tryz.size113 rfl (one_v _ _ _ _ _) ?_)
    | (go_at_call 180; refine (HC.out _).mono ?_; rintro e w1 ⟨rfl, hw1⟩; have hw2 := hw1.symm; clear hw1; subst hw2)
    | (go_at_call 144; refine (hn.out _ (below1 _ _)).mono ?_; rintro e w1 ⟨rfl, hw1⟩; have hw2 := hw1.symm; clear hw1; subst hw2))
  refine bp_gen (fun X => X.heap[w.heap.size]? = some (.cells #[.int .i64 n, .string ⟨#[]⟩, .slice none 0 0] 113) ∧ Below w.heap.size w X) ⟨heap_alloc_new _ _, below1 _ _⟩ ?_
  rintro X ⟨HQ, hbX⟩
  have c0 := cellOf (j := 0) HQ rfl
  have c1 := cellOf (j := 1) HQ rfl
  have c2 := cellOf (j := 2) HQ rfl
  have HBX := hide hbX
  clear hbX HQ
  exact bodyPost_ret (v := .tuple #[vv n ⟨#[]⟩ (.slice none 0 0), .int .i64 1]) (by simp [results, Tryz.results135, go_sem, c0, c1, c2]) rfl ⟨rfl, HBX.out⟩

set_option maxRecDepth 8000 in
set_option maxHeartbeats 1000000 in
theorem guess_52 (w : World) (b off k cap : Nat) (hcap : k ≤ cap) (hk : k ≤ 140737488355328) (n : Int) (hn : Hid (∀ W, Below w.heap.size w W → Calls Tryz.prog 144 #[.slice (some ⟨b, off, none⟩) (min 4 k) cap] W fun e w' => e = .returned (.int .i64 n) ∧ w' = W)) :
    Calls Tryz.prog 135 #[.string ⟨#[52]⟩, .slice (some ⟨b, off, none⟩) k cap] w fun e w' => e = .returned (.tuple #[vv n ⟨#[]⟩ (.slice none 0 0), .int .i64 4]) ∧ Below w.heap.size w w' := by
  have HC := hide (fun W => cut_any W b off k cap 4 hcap (by omega) (by omega))
  rw [show ((4 : Nat) : Int) = 4 from rfl] at HC
  generalize min 4 k = m at *
  have N0 := hide (heap_alloc_new w (.cells #[.int .i64 0, .string ⟨#[]⟩, .slice none 0 0] 113))
  have N1 : Hid (((w.alloc (.cells #[.int .i64 0, .string ⟨#[]⟩, .slice none 0 0] 113)).alloc (.cells #[.int .i64 n, .string ⟨#[]⟩, .slice none 0 0] 113)).heap[w.heap.size]? = some (.cells #[.int .i64 0, .string ⟨#[]⟩, .slice none 0 0] 113)) := (Below.heap_alloc _ _ _ (ltOf N0.out)).trans N0.out
  go_enter Tryz.func135, Tryz.ntmps135
  go_wp2_with (first
    | (refine wpList_store_row rfl 113 _ _ rfl w.heap.size #[.int .i64 n, .string ⟨#[]⟩, .slice none 0 0] rfl rfl 113 _ N1.out Tryz.size113 rfl (one_v _ _ _ _ _) ?_)
    | (go_at_call 180; refine (HC.out _).mono ?_; rintro e w1 ⟨rfl, hw1⟩; have hw2 := hw1.symm; clear hw1; subst hw2)
    | (go_at_call 144; refine (hn.out _ (below1 _ _)).mono ?_; rintro e w1 ⟨rfl, hw1⟩; have hw2 := hw1.symm; clear hw1; subst hw2))
  refine bp_gen (fun X => X.heap[w.heap.size]? = some (.cells #[.int .i64 n, .string ⟨#[]⟩, .slice none 0 0] 113) ∧ Below w.heap.size w X) ⟨heap_alloc_new _ _, below1 _ _⟩ ?_
  rintro X ⟨HQ, hbX⟩
  have c0 := cellOf (j := 0) HQ rfl
  have c1 := cellOf (j := 1) HQ rfl
  have c2 := cellOf (j := 2) HQ rfl
  have HBX := hide hbX
  clear hbX HQ
  exact bodyPost_ret (v := .tuple #[vv n ⟨#[]⟩ (.slice none 0 0), .int .i64 4]) (by simp [results, Tryz.results135, go_sem, c0, c1, c2]) rfl ⟨rfl, HBX.out⟩

set_option maxRecDepth 8000 in
set_option maxHeartbeats 1000000 in
theorem guess_56 (w : World) (b off k cap : Nat) (hcap : k ≤ cap) (hk : k ≤ 140737488355328) (n : Int) (hn : Hid (∀ W, Below w.heap.size w W → Calls Tryz.prog 144 #[.slice (some ⟨b, off, none⟩) (min 8 k) cap] W fun e w' => e = .returned (.int .i64 n) ∧ w' = W)) :
    Calls Tryz.prog 135 #[.string ⟨#[56]⟩, .slice (some ⟨b, off, none⟩) k cap] w fun e w' => e = .returned (.tuple #[vv n ⟨#[]⟩ (.slice none 0 0), .int .i64 8]) ∧ Below w.heap.size w w' := by
  have HC := hide (fun W => cut_any W b off k cap 8 hcap (by omega) (by omega))
  rw [show ((8 : Nat) : Int) = 8 from rfl] at HC
  generalize min 8 k = m at *
  have N0 := hide (heap_alloc_new w (.cells #[.int .i64 0, .string ⟨#[]⟩, .slice none 0 0] 113))
  have N1 : Hid (((w.alloc (.cells #[.int .i64 0, .string ⟨#[]⟩, .slice none 0 0] 113)).alloc (.cells #[.int .i64 n, .string ⟨#[]⟩, .slice none 0 0] 113)).heap[w.heap.size]? = some (.cells #[.int .i64 0, .string ⟨#[]⟩, .slice none 0 0] 113)) := (Below.heap_alloc _ _ _ (ltOf N0.out)).trans N0.out
  go_enter Tryz.func135, Tryz.ntmps135
  go_wp2_with (first
    | (refine wpList_store_row rfl 113 _ _ rfl w.heap.size #[.int .i64 n, .string ⟨#[]⟩, .slice none 0 0] rfl rfl 113 _ N1.out Tryz.size113 rfl (one_v _ _ _ _ _) ?_)
    | (go_at_call 180; refine (HC.out _).mono ?_; rintro e w1 ⟨rfl, hw1⟩; have hw2 := hw1.symm; clear hw1; subst hw2)
    | (go_at_call 144; refine (hn.out _ (below1 _ _)).mono ?_; rintro e w1 ⟨rfl, hw1⟩; have hw2 := hw1.symm; clear hw1; subst hw2))
  refine bp_gen (fun X => X.heap[w.heap.size]? = some (.cells #[.int .i64 n, .string ⟨#[]⟩, .slice none 0 0] 113) ∧ Below w.heap.size w X) ⟨heap_alloc_new _ _, below1 _ _⟩ ?_
  rintro X ⟨HQ, hbX⟩
  have c0 := cellOf (j := 0) HQ rfl
  have c1 := cellOf (j := 1) HQ rfl
  have c2 := cellOf (j := 2) HQ rfl
  have HBX := hide hbX
  clear hbX HQ
  exact bodyPost_ret (v := .tuple #[vv n ⟨#[]⟩ (.slice none 0 0), .int .i64 8]) (by simp [results, Tryz.results135, go_sem, c0, c1, c2]) rfl ⟨rfl, HBX.out⟩

set_option maxRecDepth 8000 in
set_option maxHeartbeats 2000000 in
/-- A text: too few bytes, or a count that is none. -/
theorem guess_tx0 (c : UInt8) (hc : c = 98 ∨ c = 116) (w : World) (b off k cap : Nat) (hcap : k ≤ cap) (hk : k ≤ 140737488355328) (n : Int) (hn : Hid (∀ W, Below w.heap.size w W → Calls Tryz.prog 144 #[.slice (some ⟨b, off, none⟩) (min 4 k) cap] W fun e w' => e = .returned (.int .i64 n) ∧ w' = W)) (bad : k < 4 ∨ n < 0 ∨ 200 < n) :
    Calls Tryz.prog 135 #[.string ⟨#[c]⟩, .slice (some ⟨b, off, none⟩) k cap] w fun e w' => e = .returned (.tuple #[vv 0 ⟨#[]⟩ (.slice none 0 0), .int .i64 4]) ∧ Below w.heap.size w w' := by
  have HC := hide (fun W => cut_any W b off k cap 4 hcap (by omega) (by omega))
  rw [show ((4 : Nat) : Int) = 4 from rfl] at HC
  generalize min 4 k = m at *
  have N0 := hide (heap_alloc_new w (.cells #[.int .i64 0, .string ⟨#[]⟩, .slice none 0 0] 113))
  have key : ∀ (p q r : Bool), decide ((k : Int) < 4) = p → decide (n < 0) = q → decide (n > 200) = r → (p || q || r) = true → Calls Tryz.prog 135 #[.string ⟨#[c]⟩, .slice (some ⟨b, off, none⟩) k cap] w fun e w' => e = .returned (.tuple #[vv 0 ⟨#[]⟩ (.slice none 0 0), .int .i64 4]) ∧ Below w.heap.size w w' := by
    intro p q r hp hq hr hor
    clear bad
    have hp' := hp
    have hq' := hq
    have hr' := hr
    rcases hc with rfl | rfl <;> cases p <;> cases q <;> cases r <;> simp at hor <;> simp only [decide_eq_true_eq, decide_eq_false_iff_not] at hp' hq' hr'
    all_goals go_enter Tryz.func135, Tryz.ntmps135
    all_goals go_wp2_with (first
      | (refine wpList_store_row rfl 113 _ _ rfl w.heap.size #[.int .i64 0, .string ⟨#[]⟩, .slice none 0 0] rfl rfl 113 _ N0.out Tryz.size113 rfl (one_v _ _ _ _ _) ?_)
      | (go_at_call 180; refine (HC.out _).mono ?_; rintro e w1 ⟨rfl, hw1⟩; have hw2 := hw1.symm; clear hw1; subst hw2)
      | (go_at_call 144; refine (hn.out _ (below1 _ _)).mono ?_; rintro e w1 ⟨rfl, hw1⟩; have hw2 := hw1.symm; clear hw1; subst hw2))
    all_goals refine bp_gen (fun X => X.heap[w.heap.size]? = some (.cells #[.int .i64 0, .string ⟨#[]⟩, .slice none 0 0] 113) ∧ Below w.heap.size w X) (by first | exact ⟨heap_alloc_new _ _, below1 _ _⟩ | exact ⟨setRow_heap _ _ _ _ _ _ N0.out, below_setRow (below1 _ _) (Nat.le_refl _) _⟩) ?_
    all_goals rintro X ⟨HQ, hbX⟩
    all_goals have c0 := cellOf (j := 0) HQ rfl
    all_goals have c1 := cellOf (j := 1) HQ rfl
    all_goals have c2 := cellOf (j := 2) HQ rfl
    all_goals have HBX := hide hbX
    all_goals clear hbX HQ
    all_goals exact bodyPost_ret (v := .tuple #[vv 0 ⟨#[]⟩ (.slice none 0 0), .int .i64 4]) (by simp [results, Tryz.results135, go_sem, c0, c1, c2]) rfl ⟨rfl, HBX.out⟩
  refine key _ _ _ rfl rfl rfl ?_
  simp only [Bool.or_eq_true, decide_eq_true_eq]
  omega

set_option maxRecDepth 8000 in
set_option maxHeartbeats 4000000 in
/-- A text. -/
theorem guess_txp_98 (w : World) (b off k cap : Nat) (hcap : k ≤ cap) (hk : k ≤ 140737488355328) (n : Nat) (hn : Hid (∀ W, Below w.heap.size w W → Calls Tryz.prog 144 #[.slice (some ⟨b, off, none⟩) (min 4 k) cap] W fun e w' => e = .returned (.int .i64 n) ∧ w' = W)) (hcp : cap = 4) (h4 : 4 ≤ k) (h200 : n ≤ 200)
    (s : ByteArray) (hs : Hid (∀ W cap', Below w.heap.size w W → (convert 57 9 (.slice (some ⟨b, if cap = 4 then off else off + 4, none⟩) (min n (k - 4)) cap')).run Tryz.prog W = .ok (.string s) W)) :
    Calls Tryz.prog 135 #[.string ⟨#[98]⟩, .slice (some ⟨b, off, none⟩) k cap] w fun e w' => e = .returned (.tuple #[vv 0 s (.slice none 0 0), .int .i64 ((4 + n : Nat) : Int)]) ∧ Below w.heap.size w w' := by
  have HC := hide (fun W => cut_any W b off k cap 4 hcap (by omega) (by omega))
  rw [show ((4 : Nat) : Int) = 4 from rfl] at HC
  rw [Nat.min_eq_left h4] at hn HC
  have h4z : ¬ (k : Int) < 4 := by omega
  have hnz : ¬ (n : Int) < 0 := by omega
  have hn2 : ¬ (n : Int) > 200 := by omega
  have N0 := hide (heap_alloc_new w (.cells #[.int .i64 0, .string ⟨#[]⟩, .slice none 0 0] 113))
  have N1 : Hid (((w.alloc (.cells #[.int .i64 0, .string ⟨#[]⟩, .slice none 0 0] 113)).alloc (.cells #[.int .i64 0, .string s, .slice none 0 0] 113)).heap[w.heap.size]? = some (.cells #[.int .i64 0, .string ⟨#[]⟩, .slice none 0 0] 113)) := (Below.heap_alloc _ _ _ (ltOf N0.out)).trans N0.out
  have T1 : Hid True := trivial
  rw [if_pos hcp] at hs
  have HC2 := hide (fun W => cut_any W b off 0 0 n (by omega) (by omega) (by omega))
  have hk4 : k = 4 := by omega
  subst hk4
  subst hcp
  have hs0 : Hid (∀ W cap', Below w.heap.size w W → (convert 57 9 (.slice (some ⟨b, off, none⟩) 0 cap')).run Tryz.prog W = .ok (.string s) W) := fun W cap' hb => by
    have := hs.out W cap' hb
    rw [Nat.sub_self, Nat.min_zero] at this
    exact this
  clear hs
  rw [show (min n 0) = 0 from Nat.min_zero n] at HC2
  clear h4 hcap hk h4z
  go_enter Tryz.func135, Tryz.ntmps135
  all_goals go_wp2_with (first
    | (refine wpList_store_row rfl 113 _ _ rfl w.heap.size #[.int .i64 0, .string s, .slice none 0 0] rfl rfl 113 _ N1.out Tryz.size113 rfl (one_v _ _ _ _ _) ?_)
    | (go_at_call 180; clear T1; refine (HC.out _).mono ?_; rintro e w1 ⟨rfl, hw1⟩; have hw2 := hw1.symm; clear hw1; subst hw2)
    | (go_at_call 180; refine (HC2.out _).mono ?_; rintro e w1 ⟨rfl, hw1⟩; have hw2 := hw1.symm; clear hw1; subst hw2; have hcv := hs0.out (w.alloc (.cells #[.int .i64 0, .string ⟨#[]⟩, .slice none 0 0] 113)) 0 (below1 _ _))
    | (go_at_call 144; refine (hn.out _ (below1 _ _)).mono ?_; rintro e w1 ⟨rfl, hw1⟩; have hw2 := hw1.symm; clear hw1; subst hw2))
  all_goals refine bp_gen (fun X => X.heap[w.heap.size]? = some (.cells #[.int .i64 0, .string s, .slice none 0 0] 113) ∧ Below w.heap.size w X) ⟨heap_alloc_new _ _, below1 _ _⟩ ?_
  all_goals rintro X ⟨HQ, hbX⟩
  all_goals have c0 := cellOf (j := 0) HQ rfl
  all_goals have c1 := cellOf (j := 1) HQ rfl
  all_goals have c2 := cellOf (j := 2) HQ rfl
  all_goals have HBX := hide hbX
  all_goals clear hbX HQ
  all_goals exact bodyPost_ret (v := .tuple #[vv 0 s (.slice none 0 0), .int .i64 (4 + (n : Int))]) (by simp [results, Tryz.results135, go_sem, c0, c1, c2]) rfl ⟨rfl, HBX.out⟩

set_option maxRecDepth 8000 in
set_option maxHeartbeats 4000000 in
/-- A text. -/
theorem guess_txn_98 (w : World) (b off k cap : Nat) (hcap : k ≤ cap) (hk : k ≤ 140737488355328) (n : Nat) (hn : Hid (∀ W, Below w.heap.size w W → Calls Tryz.prog 144 #[.slice (some ⟨b, off, none⟩) (min 4 k) cap] W fun e w' => e = .returned (.int .i64 n) ∧ w' = W)) (hcp : ¬ cap = 4) (h4 : 4 ≤ k) (h200 : n ≤ 200)
    (s : ByteArray) (hs : Hid (∀ W cap', Below w.heap.size w W → (convert 57 9 (.slice (some ⟨b, if cap = 4 then off else off + 4, none⟩) (min n (k - 4)) cap')).run Tryz.prog W = .ok (.string s) W)) :
    Calls Tryz.prog 135 #[.string ⟨#[98]⟩, .slice (some ⟨b, off, none⟩) k cap] w fun e w' => e = .returned (.tuple #[vv 0 s (.slice none 0 0), .int .i64 ((4 + n : Nat) : Int)]) ∧ Below w.heap.size w w' := by
  have HC := hide (fun W => cut_any W b off k cap 4 hcap (by omega) (by omega))
  rw [show ((4 : Nat) : Int) = 4 from rfl] at HC
  rw [Nat.min_eq_left h4] at hn HC
  have h4z : ¬ (k : Int) < 4 := by omega
  have hnz : ¬ (n : Int) < 0 := by omega
  have hn2 : ¬ (n : Int) > 200 := by omega
  have N0 := hide (heap_alloc_new w (.cells #[.int .i64 0, .string ⟨#[]⟩, .slice none 0 0] 113))
  have N1 : Hid (((w.alloc (.cells #[.int .i64 0, .string ⟨#[]⟩, .slice none 0 0] 113)).alloc (.cells #[.int .i64 0, .string s, .slice none 0 0] 113)).heap[w.heap.size]? = some (.cells #[.int .i64 0, .string ⟨#[]⟩, .slice none 0 0] 113)) := (Below.heap_alloc _ _ _ (ltOf N0.out)).trans N0.out
  have T1 : Hid True := trivial
  rw [if_neg hcp] at hs
  have HC2 := hide (fun W => cut_any W b (off + 4) (k - 4) (cap - 4) n (by omega) (by omega) (by omega))
  generalize min n (k - 4) = m2 at *
  go_enter Tryz.func135, Tryz.ntmps135
  all_goals go_wp2_with (first
    | (refine wpList_store_row rfl 113 _ _ rfl w.heap.size #[.int .i64 0, .string s, .slice none 0 0] rfl rfl 113 _ N1.out Tryz.size113 rfl (one_v _ _ _ _ _) ?_)
    | (go_at_call 180; clear T1; refine (HC.out _).mono ?_; rintro e w1 ⟨rfl, hw1⟩; have hw2 := hw1.symm; clear hw1; subst hw2)
    | (go_at_call 180; refine (HC2.out _).mono ?_; rintro e w1 ⟨rfl, hw1⟩; have hw2 := hw1.symm; clear hw1; subst hw2; have hcv := hs.out (w.alloc (.cells #[.int .i64 0, .string ⟨#[]⟩, .slice none 0 0] 113)) (cap - 4) (below1 _ _))
    | (go_at_call 144; refine (hn.out _ (below1 _ _)).mono ?_; rintro e w1 ⟨rfl, hw1⟩; have hw2 := hw1.symm; clear hw1; subst hw2))
  all_goals refine bp_gen (fun X => X.heap[w.heap.size]? = some (.cells #[.int .i64 0, .string s, .slice none 0 0] 113) ∧ Below w.heap.size w X) ⟨heap_alloc_new _ _, below1 _ _⟩ ?_
  all_goals rintro X ⟨HQ, hbX⟩
  all_goals have c0 := cellOf (j := 0) HQ rfl
  all_goals have c1 := cellOf (j := 1) HQ rfl
  all_goals have c2 := cellOf (j := 2) HQ rfl
  all_goals have HBX := hide hbX
  all_goals clear hbX HQ
  all_goals exact bodyPost_ret (v := .tuple #[vv 0 s (.slice none 0 0), .int .i64 (4 + (n : Int))]) (by simp [results, Tryz.results135, go_sem, c0, c1, c2]) rfl ⟨rfl, HBX.out⟩

set_option maxRecDepth 8000 in
set_option maxHeartbeats 4000000 in
/-- A text. -/
theorem guess_txp_116 (w : World) (b off k cap : Nat) (hcap : k ≤ cap) (hk : k ≤ 140737488355328) (n : Nat) (hn : Hid (∀ W, Below w.heap.size w W → Calls Tryz.prog 144 #[.slice (some ⟨b, off, none⟩) (min 4 k) cap] W fun e w' => e = .returned (.int .i64 n) ∧ w' = W)) (hcp : cap = 4) (h4 : 4 ≤ k) (h200 : n ≤ 200)
    (s : ByteArray) (hs : Hid (∀ W cap', Below w.heap.size w W → (convert 57 9 (.slice (some ⟨b, if cap = 4 then off else off + 4, none⟩) (min n (k - 4)) cap')).run Tryz.prog W = .ok (.string s) W)) :
    Calls Tryz.prog 135 #[.string ⟨#[116]⟩, .slice (some ⟨b, off, none⟩) k cap] w fun e w' => e = .returned (.tuple #[vv 0 s (.slice none 0 0), .int .i64 ((4 + n : Nat) : Int)]) ∧ Below w.heap.size w w' := by
  have HC := hide (fun W => cut_any W b off k cap 4 hcap (by omega) (by omega))
  rw [show ((4 : Nat) : Int) = 4 from rfl] at HC
  rw [Nat.min_eq_left h4] at hn HC
  have h4z : ¬ (k : Int) < 4 := by omega
  have hnz : ¬ (n : Int) < 0 := by omega
  have hn2 : ¬ (n : Int) > 200 := by omega
  have N0 := hide (heap_alloc_new w (.cells #[.int .i64 0, .string ⟨#[]⟩, .slice none 0 0] 113))
  have N1 : Hid (((w.alloc (.cells #[.int .i64 0, .string ⟨#[]⟩, .slice none 0 0] 113)).alloc (.cells #[.int .i64 0, .string s, .slice none 0 0] 113)).heap[w.heap.size]? = some (.cells #[.int .i64 0, .string ⟨#[]⟩, .slice none 0 0] 113)) := (Below.heap_alloc _ _ _ (ltOf N0.out)).trans N0.out
  have T1 : Hid True := trivial
  rw [if_pos hcp] at hs
  have HC2 := hide (fun W => cut_any W b off 0 0 n (by omega) (by omega) (by omega))
  have hk4 : k = 4 := by omega
  subst hk4
  subst hcp
  have hs0 : Hid (∀ W cap', Below w.heap.size w W → (convert 57 9 (.slice (some ⟨b, off, none⟩) 0 cap')).run Tryz.prog W = .ok (.string s) W) := fun W cap' hb => by
    have := hs.out W cap' hb
    rw [Nat.sub_self, Nat.min_zero] at this
    exact this
  clear hs
  rw [show (min n 0) = 0 from Nat.min_zero n] at HC2
  clear h4 hcap hk h4z
  go_enter Tryz.func135, Tryz.ntmps135
  all_goals go_wp2_with (first
    | (refine wpList_store_row rfl 113 _ _ rfl w.heap.size #[.int .i64 0, .string s, .slice none 0 0] rfl rfl 113 _ N1.out Tryz.size113 rfl (one_v _ _ _ _ _) ?_)
    | (go_at_call 180; clear T1; refine (HC.out _).mono ?_; rintro e w1 ⟨rfl, hw1⟩; have hw2 := hw1.symm; clear hw1; subst hw2)
    | (go_at_call 180; refine (HC2.out _).mono ?_; rintro e w1 ⟨rfl, hw1⟩; have hw2 := hw1.symm; clear hw1; subst hw2; have hcv := hs0.out (w.alloc (.cells #[.int .i64 0, .string ⟨#[]⟩, .slice none 0 0] 113)) 0 (below1 _ _))
    | (go_at_call 144; refine (hn.out _ (below1 _ _)).mono ?_; rintro e w1 ⟨rfl, hw1⟩; have hw2 := hw1.symm; clear hw1; subst hw2))
  all_goals refine bp_gen (fun X => X.heap[w.heap.size]? = some (.cells #[.int .i64 0, .string s, .slice none 0 0] 113) ∧ Below w.heap.size w X) ⟨heap_alloc_new _ _, below1 _ _⟩ ?_
  all_goals rintro X ⟨HQ, hbX⟩
  all_goals have c0 := cellOf (j := 0) HQ rfl
  all_goals have c1 := cellOf (j := 1) HQ rfl
  all_goals have c2 := cellOf (j := 2) HQ rfl
  all_goals have HBX := hide hbX
  all_goals clear hbX HQ
  all_goals exact bodyPost_ret (v := .tuple #[vv 0 s (.slice none 0 0), .int .i64 (4 + (n : Int))]) (by simp [results, Tryz.results135, go_sem, c0, c1, c2]) rfl ⟨rfl, HBX.out⟩

set_option maxRecDepth 8000 in
set_option maxHeartbeats 4000000 in
/-- A text. -/
theorem guess_txn_116 (w : World) (b off k cap : Nat) (hcap : k ≤ cap) (hk : k ≤ 140737488355328) (n : Nat) (hn : Hid (∀ W, Below w.heap.size w W → Calls Tryz.prog 144 #[.slice (some ⟨b, off, none⟩) (min 4 k) cap] W fun e w' => e = .returned (.int .i64 n) ∧ w' = W)) (hcp : ¬ cap = 4) (h4 : 4 ≤ k) (h200 : n ≤ 200)
    (s : ByteArray) (hs : Hid (∀ W cap', Below w.heap.size w W → (convert 57 9 (.slice (some ⟨b, if cap = 4 then off else off + 4, none⟩) (min n (k - 4)) cap')).run Tryz.prog W = .ok (.string s) W)) :
    Calls Tryz.prog 135 #[.string ⟨#[116]⟩, .slice (some ⟨b, off, none⟩) k cap] w fun e w' => e = .returned (.tuple #[vv 0 s (.slice none 0 0), .int .i64 ((4 + n : Nat) : Int)]) ∧ Below w.heap.size w w' := by
  have HC := hide (fun W => cut_any W b off k cap 4 hcap (by omega) (by omega))
  rw [show ((4 : Nat) : Int) = 4 from rfl] at HC
  rw [Nat.min_eq_left h4] at hn HC
  have h4z : ¬ (k : Int) < 4 := by omega
  have hnz : ¬ (n : Int) < 0 := by omega
  have hn2 : ¬ (n : Int) > 200 := by omega
  have N0 := hide (heap_alloc_new w (.cells #[.int .i64 0, .string ⟨#[]⟩, .slice none 0 0] 113))
  have N1 : Hid (((w.alloc (.cells #[.int .i64 0, .string ⟨#[]⟩, .slice none 0 0] 113)).alloc (.cells #[.int .i64 0, .string s, .slice none 0 0] 113)).heap[w.heap.size]? = some (.cells #[.int .i64 0, .string ⟨#[]⟩, .slice none 0 0] 113)) := (Below.heap_alloc _ _ _ (ltOf N0.out)).trans N0.out
  have T1 : Hid True := trivial
  rw [if_neg hcp] at hs
  have HC2 := hide (fun W => cut_any W b (off + 4) (k - 4) (cap - 4) n (by omega) (by omega) (by omega))
  generalize min n (k - 4) = m2 at *
  go_enter Tryz.func135, Tryz.ntmps135
  all_goals go_wp2_with (first
    | (refine wpList_store_row rfl 113 _ _ rfl w.heap.size #[.int .i64 0, .string s, .slice none 0 0] rfl rfl 113 _ N1.out Tryz.size113 rfl (one_v _ _ _ _ _) ?_)
    | (go_at_call 180; clear T1; refine (HC.out _).mono ?_; rintro e w1 ⟨rfl, hw1⟩; have hw2 := hw1.symm; clear hw1; subst hw2)
    | (go_at_call 180; refine (HC2.out _).mono ?_; rintro e w1 ⟨rfl, hw1⟩; have hw2 := hw1.symm; clear hw1; subst hw2; have hcv := hs.out (w.alloc (.cells #[.int .i64 0, .string ⟨#[]⟩, .slice none 0 0] 113)) (cap - 4) (below1 _ _))
    | (go_at_call 144; refine (hn.out _ (below1 _ _)).mono ?_; rintro e w1 ⟨rfl, hw1⟩; have hw2 := hw1.symm; clear hw1; subst hw2))
  all_goals refine bp_gen (fun X => X.heap[w.heap.size]? = some (.cells #[.int .i64 0, .string s, .slice none 0 0] 113) ∧ Below w.heap.size w X) ⟨heap_alloc_new _ _, below1 _ _⟩ ?_
  all_goals rintro X ⟨HQ, hbX⟩
  all_goals have c0 := cellOf (j := 0) HQ rfl
  all_goals have c1 := cellOf (j := 1) HQ rfl
  all_goals have c2 := cellOf (j := 2) HQ rfl
  all_goals have HBX := hide hbX
  all_goals clear hbX HQ
  all_goals exact bodyPost_ret (v := .tuple #[vv 0 s (.slice none 0 0), .int .i64 (4 + (n : Int))]) (by simp [results, Tryz.results135, go_sem, c0, c1, c2]) rfl ⟨rfl, HBX.out⟩

theorem guess_tx (c : UInt8) (hc : c = 98 ∨ c = 116) (w : World) (b off k cap : Nat) (hcap : k ≤ cap) (hk : k ≤ 140737488355328) (n : Nat) (hn : Hid (∀ W, Below w.heap.size w W → Calls Tryz.prog 144 #[.slice (some ⟨b, off, none⟩) (min 4 k) cap] W fun e w' => e = .returned (.int .i64 n) ∧ w' = W)) (h4 : 4 ≤ k) (h200 : n ≤ 200)
    (s : ByteArray) (hs : Hid (∀ W cap', Below w.heap.size w W → (convert 57 9 (.slice (some ⟨b, if cap = 4 then off else off + 4, none⟩) (min n (k - 4)) cap')).run Tryz.prog W = .ok (.string s) W)) :
    Calls Tryz.prog 135 #[.string ⟨#[c]⟩, .slice (some ⟨b, off, none⟩) k cap] w fun e w' => e = .returned (.tuple #[vv 0 s (.slice none 0 0), .int .i64 ((4 + n : Nat) : Int)]) ∧ Below w.heap.size w w' := by
  by_cases hcp : cap = 4
  · rcases hc with rfl | rfl
    · exact guess_txp_98 w b off k cap hcap hk n hn hcp h4 h200 s hs
    · exact guess_txp_116 w b off k cap hcap hk n hn hcp h4 h200 s hs
  · rcases hc with rfl | rfl
    · exact guess_txn_98 w b off k cap hcap hk n hn hcp h4 h200 s hs
    · exact guess_txn_116 w b off k cap hcap hk n hn hcp h4 h200 s hs
end Go.Proofs.YtlghcldiboecoaaGreatDoor
