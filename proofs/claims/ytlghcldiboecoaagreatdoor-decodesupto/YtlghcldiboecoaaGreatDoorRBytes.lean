/- The document's answer: a number in so many bytes. -/
import Derived.Test.YtlghcldiboecoaaGreatDoorEnc
import Derived.Test.YtlghcldiboecoaaGreatDoorRCloses
import Derived.Deep.OwnRows
import Derived.Laws.OwnMore
set_option linter.unusedVariables false
namespace Go.Proofs.YtlghcldiboecoaaGreatDoor
open Go.RowKit

theorem be_drop (n : Int) : ∀ (k r : Nat), r < k → (Orch.be n k).drop r = UInt8.ofNat ((n / 256 ^ (k - 1 - r)) % 256).toNat :: (Orch.be n k).drop (r + 1)
  | 0, r, h => by omega
  | k + 1, 0, _ => by simp [Orch.be]
  | k + 1, r + 1, h => by
    rw [Orch.be, List.drop_succ_cons, List.drop_succ_cons, be_drop n k r (by omega), show k + 1 - 1 - (r + 1) = k - 1 - r by omega]

/-- The row while it is filled, from its end on. -/
def rowR (n : Int) (bs r : Nat) : Array Value := (List.replicate r (Value.int .u8 0) ++ bcells ((Orch.be n bs).drop r)).toArray

theorem rowR_size (n : Int) (bs r : Nat) (h : r ≤ bs) : (rowR n bs r).size = bs := by
  unfold rowR bcells
  simp [Orch.be_length]
  omega

theorem rowR_set (n : Int) (bs r : Nat) (h : r < bs) : (rowR n bs (r + 1)).setIfInBounds r (.int .u8 ((UInt8.ofNat ((n / 256 ^ (bs - 1 - r)) % 256).toNat).toNat : Nat)) = rowR n bs r := by
  unfold rowR
  rw [be_drop n bs r h, List.setIfInBounds_toArray]
  congr 1
  rw [List.set_append_left _ _ (by simp), List.replicate_succ', List.set_append_right _ _ (by simp)]
  simp [bcells]

theorem div_pow (n : Int) (k : Nat) : n / 256 ^ k / 256 = n / 256 ^ (k + 1) := by
  rw [Int.pow_succ, Int.ediv_ediv_of_nonneg (Int.le_of_lt (Int.pow_pos (by omega)))]

theorem div_bd (n : Int) (k : Nat) (h0 : -9223372036854775808 ≤ n) (h1 : n ≤ 9223372036854775807) : -9223372036854775808 ≤ n / 256 ^ k ∧ n / 256 ^ k ≤ 9223372036854775807 := by
  have hp : (0 : Int) < 256 ^ k := Int.pow_pos (by omega)
  have hp1 : (1 : Int) ≤ 256 ^ k := hp
  constructor
  · rw [Int.le_ediv_iff_mul_le hp]
    have : (-9223372036854775808 : Int) * 256 ^ k ≤ -9223372036854775808 * 1 := Int.mul_le_mul_of_nonpos_left (by omega) hp1
    omega
  · apply Int.ediv_le_of_le_mul hp
    have : (9223372036854775807 : Int) * 1 ≤ 9223372036854775807 * 256 ^ k := Int.mul_le_mul_of_nonneg_left hp1 (by omega)
    omega

set_option maxRecDepth 8000 in
set_option maxHeartbeats 1000000 in
theorem bytesOf_any (w : World) (n : Int) (h0 : -9223372036854775808 ≤ n) (h1 : n ≤ 9223372036854775807) (bs : Nat) (hb1 : 1 ≤ bs) (hb8 : bs ≤ 8) :
    Calls Tryz.prog 78 #[.int .i64 n, .int .i64 bs] w fun e w' => (∃ ov, e = .returned ov ∧ w'.ownsRow w.heap.size 5 1 ov bs (bcells (Orch.be n bs))) ∧ Below w.heap.size w w' := by
  have hmk := run_make_row' (P := Tryz.prog) 57 5 (.int .u8 0) 1 Tryz.underlying57 Tryz.info5 rfl .i64 .i64 bs (by omega) (by omega)
  have hst : (madeCells #[Value.int .u8 0] bs) = rowR n bs bs := by
    apply Array.ext'
    rw [toList_madeCells_one]
    unfold rowR bcells
    rw [List.drop_eq_nil_of_le (by rw [Orch.be_length]; omega)]
    simp
  rw [hst] at hmk
  have HNEW := hid (heap_alloc_new w (.cells (rowR n bs bs) 5))
  have HB0 : Hid (Below w.heap.size w (w.alloc (.cells (rowR n bs bs) 5))) := below1 _ _
  clear hst
  go_enter Tryz.func78, Tryz.ntmps78
  go_wp2
  clear hmk
  generalize w.alloc (.cells (rowR n bs bs) 5) = w0 at *
  go_loopw [0, 6] (fun nn i wr => ∃ r : Nat, r ≤ bs ∧ i = .int .i64 ((r : Int) - 1) ∧ nn = .int .i64 (n / 256 ^ (bs - r)) ∧ Hid (wr.heap[w.heap.size]? = some (.cells (rowR n bs r) 5)) ∧ Hid (Below w.heap.size w wr)) (fun _ i _ => (intOf i + 1).toNat)
  case atStart => exact ⟨bs, by omega, rfl, by simp, HNEW, HB0⟩
  case round =>
    obtain ⟨r, hr, rfl, rfl, HR, HB⟩ := hrel
    cases r with
    | zero =>
      have hz : ¬ (0 : Int) ≤ ((0 : Nat) : Int) - 1 := by omega
      go_wp2
      go_ret
      refine ⟨⟨_, rfl, ?_⟩, HB.out⟩
      refine ⟨by rw [show (bcells (Orch.be n bs)).length = bs by simp [bcells, Orch.be_length], Nat.mul_one], .inr ⟨w.heap.size, bs, rowR n bs 0, rfl, Nat.le_refl _, HR.out, Nat.le_refl _, by unfold maxLen; omega, by rw [rowR_size n bs 0 (by omega), Nat.mul_one], ?_⟩⟩
      rw [Nat.mul_one]
      unfold rowR
      simp only [List.replicate_zero, List.nil_append, List.drop_zero]
      exact List.take_of_length_le (by simp [bcells, Orch.be_length])
    | succ r =>
      have hrz : ((r + 1 : Nat) : Int) - 1 = (r : Int) := by omega
      rw [hrz]
      have hr0 : (0 : Int) ≤ (r : Int) := by omega
      have hrb : (r : Int) < (bs : Int) := by omega
      have hcell := cellOf (j := r) (u := (rowR n bs (r + 1))[r]'(by rw [rowR_size _ _ _ (by omega)]; omega)) HR.out (Array.getElem?_eq_getElem _)
      have hfz := frozenOf (j := r) HR.out
      obtain ⟨hd0, hd1⟩ := div_bd n (bs - (r + 1)) h0 h1
      have hnext : (n / 256 ^ (bs - (r + 1))) / 256 = n / 256 ^ (bs - r) := by rw [div_pow, show bs - (r + 1) + 1 = bs - r by omega]
      have hset := rowR_set n bs r (by omega)
      rw [show bs - 1 - r = bs - (r + 1) by omega] at hset
      generalize n / 256 ^ (bs - (r + 1)) = q at *
      have hu8 : ((UInt8.ofNat (q % 256).toNat).toNat : Int) = q % 256 := by
        have hq0 : 0 ≤ q % 256 := Int.emod_nonneg _ (by omega)
        have hq1 : q % 256 < 256 := Int.emod_lt_of_pos _ (by omega)
        rw [UInt8.toNat_ofNat']
        omega
      rw [hu8] at hset
      have HSET := hid hset
      have HNX := hid hnext
      have hblk := heap_setCell_same wr w.heap.size r _ 5 (.int .u8 (q % 256)) HR.out
      rw [HSET.out] at hblk
      have HBLK : Hid ((wr.setCell ⟨w.heap.size, r, none⟩ (.int .u8 (q % 256))).heap[w.heap.size]? = some (.cells (rowR n bs r) 5)) := hblk
      have HB2 : Hid (Below w.heap.size w (wr.setCell ⟨w.heap.size, r, none⟩ (.int .u8 (q % 256)))) := HB.out.setCell (p := ⟨w.heap.size, r, none⟩) (Nat.le_refl _) _
      clear hset hnext hblk hu8
      generalize (rowR n bs (r + 1))[r]'_ = old at *
      go_wp2
      go_roundw
      case rel => exact ⟨r, by omega, by first | rfl | go_num, by rw [← HNX.out], HBLK, HB2⟩
      case measure => simp [intOf]

theorem own_bytes' {w : World} {base : Nat} {ov : Value} {n : Nat} {xs : List Value} (h : w.ownsRow base 5 1 ov n xs) (h0 : 0 < n) : ∃ g cap, ov = .slice (some ⟨g, 0, none⟩) n cap ∧ (∀ j u, xs[j]? = some u → w.cell? ((⟨g, 0, none⟩ : Addr).add j) = some u) := by
  rcases h.2 with ⟨_, h1⟩ | ⟨g, cap, cur, rfl, _⟩
  · omega
  · exact ⟨g, cap, rfl, fun j u hj => h.cells rfl j u hj⟩
end Go.Proofs.YtlghcldiboecoaaGreatDoor
