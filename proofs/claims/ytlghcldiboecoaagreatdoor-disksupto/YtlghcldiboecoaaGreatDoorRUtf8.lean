/- The document's answer: is a text UTF-8? -/
import Derived.Test.YtlghcldiboecoaaGreatDoorQ37
set_option linter.unusedVariables false
namespace Go.Proofs.YtlghcldiboecoaaGreatDoor
open Go.RowKit

def tailB (l : List UInt8) (i : Nat) : Nat → Bool
  | 0 => true
  | n + 1 => tailB l i n && Orch.isCont l (i + n)

theorem tailB_all (l : List UInt8) (i n : Nat) : tailB l i n = true ↔ ∀ j, j < n → Orch.isCont l (i + j) = true := by
  induction n with
  | zero => simp [tailB]
  | succ n ih =>
    rw [tailB, Bool.and_eq_true, ih]
    constructor
    · rintro ⟨h1, h2⟩ j hj
      rcases Nat.lt_or_ge j n with h | h
      · exact h1 j h
      · rw [show j = n by omega]; exact h2
    · exact fun h => ⟨fun j hj => h j (by omega), h n (by omega)⟩

theorem tailB_false {l : List UInt8} {i n j : Nat} (hj : j < n) (h : Orch.isCont l (i + j) = false) : tailB l i n = false := by
  cases ht : tailB l i n with
  | false => rfl
  | true => rw [(tailB_all l i n).1 ht j hj] at h; cases h

theorem isCont_iff (s : ByteArray) (k : Nat) (h : k < s.size) : Orch.isCont s.data.toList k = decide (128 ≤ s[k].toNat ∧ s[k].toNat ≤ 191) := by
  unfold Orch.isCont
  rw [getD_idx s k h, toList_len, decide_eq_true h, Bool.true_and, Bool.eq_iff_iff, Bool.and_eq_true]
  simp only [decide_eq_true_iff]

set_option maxRecDepth 8000 in
set_option maxHeartbeats 1000000 in
theorem tail_any (s : ByteArray) (i n : Nat) (w : World) (hs : s.size ≤ 140737488355328) (hi : i ≤ s.size) (hn : n ≤ 3) :
    Calls Tryz.prog 174 #[.string s, .int .i64 i, .int .i64 n] w fun e w' => e = .returned (.bool (tailB s.data.toList i n)) ∧ w' = w := by
  by_cases hlen : s.size - i < n
  · have hz : (s.size : Int) - (i : Int) < (n : Int) := by omega
    have HF : Hid (tailB s.data.toList i n = false) := tailB_false (j := s.size - i) hlen (by
      unfold Orch.isCont
      rw [decide_eq_false (by rw [toList_len]; omega)]
      rfl)
    go_enter Tryz.func174, Tryz.ntmps174
    go_wp2
    go_ret
    exact ⟨ret_bool HF.out.symm, rfl⟩
  · have hz : ¬ (s.size : Int) - (i : Int) < (n : Int) := by omega
    go_enter Tryz.func174, Tryz.ntmps174
    go_wp2
    go_loop [7] (fun k => ∃ j : Nat, k = .int .i64 ((i : Int) + j) ∧ j ≤ n ∧ Hid (∀ t, t < j → Orch.isCont s.data.toList (i + t) = true)) (fun k => i + n - (intOf k).toNat)
    case atStart => exact ⟨0, by simp, by omega, fun t ht => by omega⟩
    case round =>
      obtain ⟨j, rfl, hj, HJ⟩ := hrel
      by_cases hlt : j < n
      · have hlz : (i : Int) + (j : Int) < (i : Int) + (n : Int) := by omega
        have hidx : (i : Int) + (j : Int) < (s.size : Int) := by omega
        have hid0 : (0 : Int) ≤ (i : Int) + (j : Int) := by omega
        have htn : ((i : Int) + (j : Int)).toNat = i + j := by omega
        have hin : i + j < s.size := by omega
        have hic := isCont_iff s (i + j) hin
        have h256 := s[i + j].toNat_lt
        have three : (s[i + j].toNat : Int) < 128 ∨ (¬ (s[i + j].toNat : Int) < 128 ∧ (191 : Int) < (s[i + j].toNat : Int)) ∨ (¬ (s[i + j].toNat : Int) < 128 ∧ ¬ (191 : Int) < (s[i + j].toNat : Int)) := by omega
        have HIC := hid hic
        clear hic
        rcases three with b1 | ⟨b1, b2⟩ | ⟨b1, b2⟩
        · have HF : Hid (tailB s.data.toList i n = false) := tailB_false hlt (by rw [HIC.out]; exact decide_eq_false (by omega))
          go_wp2
          all_goals go_ret
          all_goals exact ⟨ret_bool HF.out.symm, rfl⟩
        · have HF : Hid (tailB s.data.toList i n = false) := tailB_false hlt (by rw [HIC.out]; exact decide_eq_false (by omega))
          go_wp2
          all_goals go_ret
          all_goals exact ⟨ret_bool HF.out.symm, rfl⟩
        · have HN : Hid (∀ t, t < j + 1 → Orch.isCont s.data.toList (i + t) = true) := fun t ht => by
            rcases Nat.lt_or_ge t j with h | h
            · exact HJ.out t h
            · rw [show t = j by omega, HIC.out]
              exact decide_eq_true (by omega)
          clear HJ HIC
          go_wp2
          go_round
          case rel => exact ⟨j + 1, by go_num, by omega, HN⟩
          case measure => simp [intOf]; omega
      · have hlz : ¬ (i : Int) + (j : Int) < (i : Int) + (n : Int) := by omega
        obtain rfl : j = n := by omega
        have HF : Hid (tailB s.data.toList i j = true) := (tailB_all _ _ _).2 HJ.out
        go_wp2
        go_ret
        exact ⟨ret_bool HF.out.symm, rfl⟩

theorem drop_cont (l : List UInt8) (i k : Nat) : Orch.isCont (l.drop i) k = Orch.isCont l (i + k) := by
  unfold Orch.isCont
  rw [List.length_drop, List.getD_eq_getElem?_getD, List.getElem?_drop, ← List.getD_eq_getElem?_getD]
  congr 2
  rw [Bool.eq_iff_iff, decide_eq_true_iff, decide_eq_true_iff]
  omega

theorem drop_byte (l : List UInt8) (i k : Nat) : Orch.byteAt (l.drop i) k = Orch.byteAt l (i + k) := by
  unfold Orch.byteAt
  rw [List.getD_eq_getElem?_getD, List.getElem?_drop, ← List.getD_eq_getElem?_getD]

theorem byte_idx (s : ByteArray) (i : Nat) (h : i < s.size) : Orch.byteAt s.data.toList i = s[i].toNat := by
  unfold Orch.byteAt
  rw [getD_idx s i h]

def accV (l : List UInt8) (i : Nat) (v0 : Int) : Nat → Int
  | 0 => v0
  | t + 1 => 64 * accV l i v0 t + (Orch.byteAt l (i + 1 + t) : Int) - 128

theorem accV_bd (l : List UInt8) (i : Nat) (v0 : Int) (n : Nat) (hn : n ≤ 3) (h0 : 0 ≤ v0) (h1 : v0 ≤ 255) (ht : tailB l (i + 1) n = true) : ∀ t, t ≤ n → 0 ≤ accV l i v0 t ∧ accV l i v0 t ≤ 255 * 64 ^ t + 64 ^ t - 1
  | 0, _ => by simp [accV]; omega
  | t + 1, h => by
    have ih := accV_bd l i v0 n hn h0 h1 ht t (by omega)
    have hc := (tailB_all l (i + 1) n).1 ht t (by omega)
    unfold Orch.isCont at hc
    simp only [Bool.and_eq_true, decide_eq_true_iff] at hc
    have hb : (128 : Int) ≤ (Orch.byteAt l (i + 1 + t) : Int) ∧ (Orch.byteAt l (i + 1 + t) : Int) ≤ 191 := by
      unfold Orch.byteAt
      omega
    simp only [accV]
    have hp : (64 : Int) ^ (t + 1) = 64 * 64 ^ t := by rw [Int.pow_succ, Int.mul_comm]
    rw [hp]
    omega

theorem valid_at (s : ByteArray) (i : Nat) (hi : i < s.size) : Lib.validD (s.data.toList.drop i) = match Orch.uStep (s.data.toList.drop i) with
    | none => false
    | some k => Lib.validD (s.data.toList.drop (i + k)) := by
  rw [Orch.valid_step _ (fun h => by have := congrArg List.length h; rw [List.length_drop, toList_len] at this; simp at this; omega)]
  cases Orch.uStep (s.data.toList.drop i) with
  | none => rfl
  | some k => simp only [List.drop_drop]

def fine (n : Nat) (v : Int) : Bool := !((n == 1 && decide (v < 128)) || (n == 2 && decide (v < 2048)) || (n == 3 && decide (v < 65536)) || decide (1114111 < v) || (decide (55296 ≤ v) && decide (v ≤ 57343)))

theorem uStep_find (s : ByteArray) (i : Nat) (hi : i < s.size) (n : Nat) (base : Int)
    (h : (n = 0 ∧ s[i].toNat < 128 ∧ base = 0) ∨ (n = 1 ∧ 192 ≤ s[i].toNat ∧ s[i].toNat < 224 ∧ base = 192) ∨ (n = 2 ∧ 224 ≤ s[i].toNat ∧ s[i].toNat < 240 ∧ base = 224) ∨ (n = 3 ∧ 240 ≤ s[i].toNat ∧ s[i].toNat < 248 ∧ base = 240)) :
    Orch.uStep (s.data.toList.drop i) = if tailB s.data.toList (i + 1) n = true ∧ fine n (accV s.data.toList i ((s[i].toNat : Int) - base) n) = true then some (n + 1) else none := by
  have hb := byte_idx s i hi
  have h0 : Orch.byteAt (s.data.toList.drop i) 0 = s[i].toNat := by rw [drop_byte, Nat.add_zero, hb]
  have hcb : ∀ k, Orch.isCont s.data.toList k = true → 128 ≤ Orch.byteAt s.data.toList k ∧ Orch.byteAt s.data.toList k ≤ 191 := fun k hk => by
    unfold Orch.isCont at hk
    simp only [Bool.and_eq_true, decide_eq_true_iff] at hk
    exact ⟨hk.1.2, hk.2⟩
  generalize s[i].toNat = c at *
  rcases h with ⟨rfl, h1, rfl⟩ | ⟨rfl, h1, h2, rfl⟩ | ⟨rfl, h1, h2, rfl⟩ | ⟨rfl, h1, h2, rfl⟩
  · unfold Orch.uStep
    have hf : fine 0 (accV s.data.toList i ((c : Int) - 0) 0) = true := by
      unfold fine accV
      first | (simp; done) | (simp; omega)
    rw [h0, if_pos h1, if_pos ⟨rfl, hf⟩]
  · unfold Orch.uStep
    rw [h0, if_neg (by omega), if_pos ⟨h1, h2⟩, drop_cont]
    have e : tailB s.data.toList (i + 1) 1 = Orch.isCont s.data.toList (i + 1) := by simp [tailB]
    rw [e]
    cases hc : Orch.isCont s.data.toList (i + 1) with
    | false => simp
    | true =>
      have := hcb _ hc
      have hch : (Orch.ch2 (s.data.toList.drop i) : Int) = accV s.data.toList i ((c : Int) - 192) 1 := by
        unfold Orch.ch2
        rw [h0, drop_byte]
        simp only [accV, Nat.add_zero]
        omega
      have hf : fine 1 (accV s.data.toList i ((c : Int) - 192) 1) = decide (128 ≤ Orch.ch2 (s.data.toList.drop i)) := by
        rw [← hch]
        have hlt : Orch.ch2 (s.data.toList.drop i) < 2048 := by unfold Orch.ch2; omega
        unfold fine
        rw [Bool.eq_iff_iff, decide_eq_true_iff]
        simp
        omega
      rw [hf]
      by_cases hq : 128 ≤ Orch.ch2 (s.data.toList.drop i)
      · rw [if_pos ⟨rfl, hq⟩, if_pos ⟨rfl, decide_eq_true hq⟩]
      · rw [if_neg (fun h => hq h.2), if_neg (fun h => hq (of_decide_eq_true h.2))]
  · unfold Orch.uStep
    rw [h0, if_neg (by omega), if_neg (by omega), if_pos ⟨h1, h2⟩, drop_cont, drop_cont]
    have e : tailB s.data.toList (i + 1) 2 = (Orch.isCont s.data.toList (i + 1) && Orch.isCont s.data.toList (i + 2)) := by simp [tailB, show i + 1 + 1 = i + 2 by omega]
    rw [e]
    cases hc : Orch.isCont s.data.toList (i + 1) with
    | false => simp
    | true =>
      cases hc' : Orch.isCont s.data.toList (i + 2) with
      | false => simp
      | true =>
        have b1 := hcb _ hc
        have b2 := hcb _ hc'
        have hch : (Orch.ch3 (s.data.toList.drop i) : Int) = accV s.data.toList i ((c : Int) - 224) 2 := by
          unfold Orch.ch3
          rw [h0, drop_byte, drop_byte]
          simp only [accV, Nat.add_zero, show i + 1 + 1 = i + 2 by omega]
          omega
        have hf : fine 2 (accV s.data.toList i ((c : Int) - 224) 2) = decide (2048 ≤ Orch.ch3 (s.data.toList.drop i) ∧ ¬ (55296 ≤ Orch.ch3 (s.data.toList.drop i) ∧ Orch.ch3 (s.data.toList.drop i) ≤ 57343)) := by
          rw [← hch]
          have hlt : Orch.ch3 (s.data.toList.drop i) < 65536 := by unfold Orch.ch3; omega
          unfold fine
          rw [Bool.eq_iff_iff, decide_eq_true_iff]
          simp
          omega
        rw [hf]
        by_cases hq : 2048 ≤ Orch.ch3 (s.data.toList.drop i) ∧ ¬ (55296 ≤ Orch.ch3 (s.data.toList.drop i) ∧ Orch.ch3 (s.data.toList.drop i) ≤ 57343)
        · rw [if_pos ⟨⟨rfl, rfl⟩, hq⟩, if_pos ⟨rfl, decide_eq_true hq⟩]
        · rw [if_neg (fun h => hq h.2), if_neg (fun h => hq (of_decide_eq_true h.2))]
  · unfold Orch.uStep
    rw [h0, if_neg (by omega), if_neg (by omega), if_neg (by omega), if_pos ⟨h1, h2⟩, drop_cont, drop_cont, drop_cont]
    have e : tailB s.data.toList (i + 1) 3 = (Orch.isCont s.data.toList (i + 1) && Orch.isCont s.data.toList (i + 2) && Orch.isCont s.data.toList (i + 3)) := by simp [tailB, show i + 1 + 1 = i + 2 by omega, show i + 1 + 2 = i + 3 by omega]
    rw [e]
    cases hc : Orch.isCont s.data.toList (i + 1) with
    | false => simp
    | true =>
      cases hc' : Orch.isCont s.data.toList (i + 2) with
      | false => simp
      | true =>
        cases hc'' : Orch.isCont s.data.toList (i + 3) with
        | false => simp
        | true =>
          have b1 := hcb _ hc
          have b2 := hcb _ hc'
          have b3 := hcb _ hc''
          have hch : (Orch.ch4 (s.data.toList.drop i) : Int) = accV s.data.toList i ((c : Int) - 240) 3 := by
            unfold Orch.ch4
            rw [h0, drop_byte, drop_byte, drop_byte]
            simp only [accV, Nat.add_zero, show i + 1 + 1 = i + 2 by omega, show i + 1 + 2 = i + 3 by omega]
            omega
          have hf : fine 3 (accV s.data.toList i ((c : Int) - 240) 3) = decide (65536 ≤ Orch.ch4 (s.data.toList.drop i) ∧ Orch.ch4 (s.data.toList.drop i) ≤ 1114111) := by
            rw [← hch]
            unfold fine
            rw [Bool.eq_iff_iff, decide_eq_true_iff]
            simp
            omega
          rw [hf]
          by_cases hq : 65536 ≤ Orch.ch4 (s.data.toList.drop i) ∧ Orch.ch4 (s.data.toList.drop i) ≤ 1114111
          · rw [if_pos ⟨⟨rfl, rfl, rfl⟩, hq⟩, if_pos ⟨rfl, decide_eq_true hq⟩]
          · rw [if_neg (fun h => hq h.2), if_neg (fun h => hq (of_decide_eq_true h.2))]

theorem uStep_else (s : ByteArray) (i : Nat) (hi : i < s.size) (h : (128 ≤ s[i].toNat ∧ s[i].toNat < 192) ∨ 248 ≤ s[i].toNat) : Orch.uStep (s.data.toList.drop i) = none := by
  have h0 : Orch.byteAt (s.data.toList.drop i) 0 = s[i].toNat := by rw [drop_byte, Nat.add_zero, byte_idx s i hi]
  unfold Orch.uStep
  rw [h0, if_neg (by omega), if_neg (by omega), if_neg (by omega), if_neg (by omega)]

set_option maxRecDepth 8000 in
set_option maxHeartbeats 4000000 in
theorem utf8_any (s : ByteArray) (w : World) (hs : s.size ≤ 140737488355328) :
    Calls Tryz.prog 125 #[.string s] w fun e w' => e = .returned (.bool (Lib.validD s.data.toList)) ∧ w' = w := by
  go_enter Tryz.func125, Tryz.ntmps125
  go_wp2
  go_loop [3] (fun k => ∃ i : Nat, k = .int .i64 i ∧ i ≤ s.size ∧ Hid (Lib.validD s.data.toList = Lib.validD (s.data.toList.drop i))) (fun k => s.size - (intOf k).toNat)
  case atStart => exact ⟨0, rfl, by omega, rfl⟩
  case round =>
    obtain ⟨i, rfl, hi, HV⟩ := hrel
    by_cases hlt : i < s.size
    · have hiz : (i : Int) < (s.size : Int) := by omega
      have HVA := hid (valid_at s i hlt)
      have h256 : s[i].toNat < 256 := s[i].toNat_lt
      have five : s[i].toNat < 128 ∨ (192 ≤ s[i].toNat ∧ s[i].toNat < 224) ∨ (224 ≤ s[i].toNat ∧ s[i].toNat < 240) ∨ (240 ≤ s[i].toNat ∧ s[i].toNat < 248) ∨ ((128 ≤ s[i].toNat ∧ s[i].toNat < 192) ∨ 248 ≤ s[i].toNat) := by omega
      rcases five with c1 | ⟨c1, c2⟩ | ⟨c1, c2⟩ | ⟨c1, c2⟩ | c1
      · have HU := hid (uStep_find s i hlt 0 0 (.inl ⟨rfl, c1, rfl⟩))
        have HT := hid (tail_any s (i + 1) 0 w hs (by omega) (by omega))
        have hbd := accV_bd s.data.toList i ((s[i].toNat : Int) - 0) 0 (by omega) (by omega) (by omega)
        have HBD := hid hbd
        clear hbd
        have hi1 : ((i + 1 : Nat) : Int) = (i : Int) + 1 := by omega
        rw [hi1] at HT
        cases htl : tailB s.data.toList (i + 1) 0 with
        | false =>
          rw [htl] at HT
          have HF : Hid (Lib.validD s.data.toList = false) := by
            show _ = _
            rw [HV.out, HVA.out, HU.out, htl, if_neg (by simp)]
          clear HU HBD HV HVA
          go_wp2_with (go_at_call 174; refine HT.out.mono ?_; rintro e w1 ⟨rfl, hw1⟩; have hw2 := hw1.symm; clear hw1; subst hw2)
          all_goals go_ret
          all_goals exact ⟨ret_bool HF.out.symm, rfl⟩
        | true =>
          rw [htl] at HT
          go_wp2_with (go_at_call 174; refine HT.out.mono ?_; rintro e w1 ⟨rfl, hw1⟩; have hw2 := hw1.symm; clear hw1; subst hw2)
          clear HT
          go_loop [6, 8] (fun v k => ∃ t : Nat, t ≤ 0 ∧ k = .int .i64 ((i : Int) + 1 + t) ∧ v = .int .i64 (accV s.data.toList i ((s[i].toNat : Int) - 0) t)) (fun _ k => i + 1 + 0 - (intOf k).toNat)
          case atStart => exact ⟨0, by omega, by simp, by simp [accV]⟩
          case round =>
            obtain ⟨t, ht, rfl, rfl⟩ := hrel
            by_cases htn : t < 0
            · exact absurd htn (by omega)
            · have htn' : t = 0 := by omega
              subst htn'
              have hvb := HBD.out htl 0 (by omega)
              have hle : ¬ (i : Int) + 1 + ((0 : Nat) : Int) ≤ (i : Int) + 0 := by omega
              have HUF : Hid (∀ b, fine 0 (accV s.data.toList i ((s[i].toNat : Int) - 0) 0) = b → Lib.validD s.data.toList = if b then Lib.validD (s.data.toList.drop (i + (0 + 1))) else false) := fun b hb => by
                rw [HV.out, HVA.out, HU.out, htl, hb]
                cases b <;> rfl
              have hV : accV s.data.toList i ((s[i].toNat : Int) - 0) 0 = (s[i].toNat : Int) := by simp [accV]
              rw [hV] at HUF ⊢
              clear hV hvb HBD HV HVA HU
              have hfin := HUF.out true (by unfold fine; simp; omega)
              have HN : Hid (Lib.validD s.data.toList = Lib.validD (s.data.toList.drop (i + 1))) := hfin
              clear hfin HUF
              have q1 : ¬ (1114111 : Int) < (s[i].toNat : Int) := by omega
              have q2 : ¬ (55296 : Int) ≤ (s[i].toNat : Int) := by omega
              go_wp2
              go_round
              case rel => exact ⟨i + 1, by go_num, by omega, HN⟩
              case measure => simp [intOf]; omega
      · have HU := hid (uStep_find s i hlt 1 192 (.inr (.inl ⟨rfl, c1, c2, rfl⟩)))
        have HT := hid (tail_any s (i + 1) 1 w hs (by omega) (by omega))
        have hbd := accV_bd s.data.toList i ((s[i].toNat : Int) - 192) 1 (by omega) (by omega) (by omega)
        have HBD := hid hbd
        clear hbd
        have hi1 : ((i + 1 : Nat) : Int) = (i : Int) + 1 := by omega
        rw [hi1] at HT
        cases htl : tailB s.data.toList (i + 1) 1 with
        | false =>
          rw [htl] at HT
          have HF : Hid (Lib.validD s.data.toList = false) := by
            show _ = _
            rw [HV.out, HVA.out, HU.out, htl, if_neg (by simp)]
          clear HU HBD HV HVA
          go_wp2_with (go_at_call 174; refine HT.out.mono ?_; rintro e w1 ⟨rfl, hw1⟩; have hw2 := hw1.symm; clear hw1; subst hw2)
          all_goals go_ret
          all_goals exact ⟨ret_bool HF.out.symm, rfl⟩
        | true =>
          rw [htl] at HT
          go_wp2_with (go_at_call 174; refine HT.out.mono ?_; rintro e w1 ⟨rfl, hw1⟩; have hw2 := hw1.symm; clear hw1; subst hw2)
          clear HT
          go_loop [6, 8] (fun v k => ∃ t : Nat, t ≤ 1 ∧ k = .int .i64 ((i : Int) + 1 + t) ∧ v = .int .i64 (accV s.data.toList i ((s[i].toNat : Int) - 192) t)) (fun _ k => i + 1 + 1 - (intOf k).toNat)
          case atStart => exact ⟨0, by omega, by simp, by simp [accV]⟩
          case round =>
            obtain ⟨t, ht, rfl, rfl⟩ := hrel
            by_cases htn : t < 1
            · have hidx : i + 1 + t < s.size := by
                have hc := (tailB_all _ _ _).1 htl t htn
                unfold Orch.isCont at hc
                simp only [Bool.and_eq_true, decide_eq_true_iff, toList_len] at hc
                omega
              have hbt := byte_idx s (i + 1 + t) hidx
              have hb256 : s[i + 1 + t].toNat < 256 := s[i + 1 + t].toNat_lt
              have hvb := HBD.out htl t (by omega)
              have hp : (64 : Int) ^ t ≤ 4096 := by
                have h3 : t = 0 ∨ t = 1 ∨ t = 2 := by omega
                rcases h3 with rfl | rfl | rfl <;> decide
              have hnext : accV s.data.toList i ((s[i].toNat : Int) - 192) (t + 1) = 64 * accV s.data.toList i ((s[i].toNat : Int) - 192) t + (s[i + 1 + t].toNat : Int) - 128 := by simp only [accV, hbt]
              have HN := hid hnext
              clear hnext hbt
              generalize accV s.data.toList i ((s[i].toNat : Int) - 192) t = V at *
              have hv1 : V ≤ 1048575 := by omega
              have hle : (i : Int) + 1 + (t : Int) ≤ (i : Int) + 1 := by omega
              have hix : (i : Int) + 1 + (t : Int) < (s.size : Int) := by omega
              have hi0 : (0 : Int) ≤ (i : Int) + 1 + (t : Int) := by omega
              have htz : ((i : Int) + 1 + (t : Int)).toNat = i + 1 + t := by omega
              clear hp
              go_wp2
              go_round
              case rel => exact ⟨t + 1, by omega, by go_num, by rw [HN.out]⟩
              case measure => simp [intOf]; omega
            · have htn' : t = 1 := by omega
              subst htn'
              have hvb := HBD.out htl 1 (by omega)
              have hle : ¬ (i : Int) + 1 + ((1 : Nat) : Int) ≤ (i : Int) + 1 := by omega
              have HUF : Hid (∀ b, fine 1 (accV s.data.toList i ((s[i].toNat : Int) - 192) 1) = b → Lib.validD s.data.toList = if b then Lib.validD (s.data.toList.drop (i + (1 + 1))) else false) := fun b hb => by
                rw [HV.out, HVA.out, HU.out, htl, hb]
                cases b <;> rfl
              have hlen : i + (1 + 1) ≤ s.size := by
                have hc := (tailB_all _ _ _).1 htl 0 (by omega)
                unfold Orch.isCont at hc
                simp only [Bool.and_eq_true, decide_eq_true_iff, toList_len] at hc
                omega
              clear HBD HV HVA HU
              generalize accV s.data.toList i ((s[i].toNat : Int) - 192) 1 = V at *
              have hv1 : V ≤ 16383 := by simpa using hvb.2
              have hv0 := hvb.1
              clear hvb
              have cs : (V < 128) ∨ (¬ V < 128) := by omega
              rcases cs with d1 | d1
              · have HF : Hid (Lib.validD s.data.toList = false) := HUF.out false (by unfold fine; simp; omega)
                have q1 : ¬ (1114111 : Int) < V := by omega
                have q2 : ¬ (55296 : Int) ≤ V := by omega
                clear HUF
                go_wp2
                all_goals go_ret
                all_goals exact ⟨ret_bool HF.out.symm, rfl⟩
              · have HN : Hid (Lib.validD s.data.toList = Lib.validD (s.data.toList.drop (i + (1 + 1)))) := HUF.out true (by unfold fine; simp; omega)
                have q1 : ¬ (1114111 : Int) < V := by omega
                have q2 : ¬ (55296 : Int) ≤ V := by omega
                clear HUF
                go_wp2
                go_round
                case rel => exact ⟨i + (1 + 1), by go_num, by omega, HN⟩
                case measure => simp [intOf]; omega
      · have HU := hid (uStep_find s i hlt 2 224 (.inr (.inr (.inl ⟨rfl, c1, c2, rfl⟩))))
        have HT := hid (tail_any s (i + 1) 2 w hs (by omega) (by omega))
        have hbd := accV_bd s.data.toList i ((s[i].toNat : Int) - 224) 2 (by omega) (by omega) (by omega)
        have HBD := hid hbd
        clear hbd
        have hi1 : ((i + 1 : Nat) : Int) = (i : Int) + 1 := by omega
        rw [hi1] at HT
        cases htl : tailB s.data.toList (i + 1) 2 with
        | false =>
          rw [htl] at HT
          have HF : Hid (Lib.validD s.data.toList = false) := by
            show _ = _
            rw [HV.out, HVA.out, HU.out, htl, if_neg (by simp)]
          clear HU HBD HV HVA
          go_wp2_with (go_at_call 174; refine HT.out.mono ?_; rintro e w1 ⟨rfl, hw1⟩; have hw2 := hw1.symm; clear hw1; subst hw2)
          all_goals go_ret
          all_goals exact ⟨ret_bool HF.out.symm, rfl⟩
        | true =>
          rw [htl] at HT
          go_wp2_with (go_at_call 174; refine HT.out.mono ?_; rintro e w1 ⟨rfl, hw1⟩; have hw2 := hw1.symm; clear hw1; subst hw2)
          clear HT
          go_loop [6, 8] (fun v k => ∃ t : Nat, t ≤ 2 ∧ k = .int .i64 ((i : Int) + 1 + t) ∧ v = .int .i64 (accV s.data.toList i ((s[i].toNat : Int) - 224) t)) (fun _ k => i + 1 + 2 - (intOf k).toNat)
          case atStart => exact ⟨0, by omega, by simp, by simp [accV]⟩
          case round =>
            obtain ⟨t, ht, rfl, rfl⟩ := hrel
            by_cases htn : t < 2
            · have hidx : i + 1 + t < s.size := by
                have hc := (tailB_all _ _ _).1 htl t htn
                unfold Orch.isCont at hc
                simp only [Bool.and_eq_true, decide_eq_true_iff, toList_len] at hc
                omega
              have hbt := byte_idx s (i + 1 + t) hidx
              have hb256 : s[i + 1 + t].toNat < 256 := s[i + 1 + t].toNat_lt
              have hvb := HBD.out htl t (by omega)
              have hp : (64 : Int) ^ t ≤ 4096 := by
                have h3 : t = 0 ∨ t = 1 ∨ t = 2 := by omega
                rcases h3 with rfl | rfl | rfl <;> decide
              have hnext : accV s.data.toList i ((s[i].toNat : Int) - 224) (t + 1) = 64 * accV s.data.toList i ((s[i].toNat : Int) - 224) t + (s[i + 1 + t].toNat : Int) - 128 := by simp only [accV, hbt]
              have HN := hid hnext
              clear hnext hbt
              generalize accV s.data.toList i ((s[i].toNat : Int) - 224) t = V at *
              have hv1 : V ≤ 1048575 := by omega
              have hle : (i : Int) + 1 + (t : Int) ≤ (i : Int) + 2 := by omega
              have hix : (i : Int) + 1 + (t : Int) < (s.size : Int) := by omega
              have hi0 : (0 : Int) ≤ (i : Int) + 1 + (t : Int) := by omega
              have htz : ((i : Int) + 1 + (t : Int)).toNat = i + 1 + t := by omega
              clear hp
              go_wp2
              go_round
              case rel => exact ⟨t + 1, by omega, by go_num, by rw [HN.out]⟩
              case measure => simp [intOf]; omega
            · have htn' : t = 2 := by omega
              subst htn'
              have hvb := HBD.out htl 2 (by omega)
              have hle : ¬ (i : Int) + 1 + ((2 : Nat) : Int) ≤ (i : Int) + 2 := by omega
              have HUF : Hid (∀ b, fine 2 (accV s.data.toList i ((s[i].toNat : Int) - 224) 2) = b → Lib.validD s.data.toList = if b then Lib.validD (s.data.toList.drop (i + (2 + 1))) else false) := fun b hb => by
                rw [HV.out, HVA.out, HU.out, htl, hb]
                cases b <;> rfl
              have hlen : i + (2 + 1) ≤ s.size := by
                have hc := (tailB_all _ _ _).1 htl 1 (by omega)
                unfold Orch.isCont at hc
                simp only [Bool.and_eq_true, decide_eq_true_iff, toList_len] at hc
                omega
              clear HBD HV HVA HU
              generalize accV s.data.toList i ((s[i].toNat : Int) - 224) 2 = V at *
              have hv1 : V ≤ 1048575 := by simpa using hvb.2
              have hv0 := hvb.1
              clear hvb
              have cs : (V < 2048) ∨ (¬ V < 2048 ∧ V < 55296) ∨ (¬ V < 2048 ∧ ¬ V < 55296 ∧ V ≤ 57343) ∨ (¬ V < 2048 ∧ ¬ V < 55296 ∧ ¬ V ≤ 57343) := by omega
              rcases cs with d1 | ⟨d1, d2⟩ | ⟨d1, d2, d3⟩ | ⟨d1, d2, d3⟩
              · have HF : Hid (Lib.validD s.data.toList = false) := HUF.out false (by unfold fine; simp; omega)
                have q1 : ¬ (1114111 : Int) < V := by omega
                have q2 : ¬ (55296 : Int) ≤ V := by omega
                clear HUF
                go_wp2
                all_goals go_ret
                all_goals exact ⟨ret_bool HF.out.symm, rfl⟩
              · have HN : Hid (Lib.validD s.data.toList = Lib.validD (s.data.toList.drop (i + (2 + 1)))) := HUF.out true (by unfold fine; simp; omega)
                have q1 : ¬ (1114111 : Int) < V := by omega
                have q2 : ¬ (55296 : Int) ≤ V := by omega
                clear HUF
                go_wp2
                go_round
                case rel => exact ⟨i + (2 + 1), by go_num, by omega, HN⟩
                case measure => simp [intOf]; omega
              · have HF : Hid (Lib.validD s.data.toList = false) := HUF.out false (by unfold fine; simp; omega)
                have q1 : ¬ (1114111 : Int) < V := by omega
                have q2 : (55296 : Int) ≤ V := by omega
                clear HUF
                go_wp2
                all_goals go_ret
                all_goals exact ⟨ret_bool HF.out.symm, rfl⟩
              · have HN : Hid (Lib.validD s.data.toList = Lib.validD (s.data.toList.drop (i + (2 + 1)))) := HUF.out true (by unfold fine; simp; omega)
                have q1 : ¬ (1114111 : Int) < V := by omega
                have q2 : (55296 : Int) ≤ V := by omega
                clear HUF
                go_wp2
                go_round
                case rel => exact ⟨i + (2 + 1), by go_num, by omega, HN⟩
                case measure => simp [intOf]; omega
      · have HU := hid (uStep_find s i hlt 3 240 (.inr (.inr (.inr ⟨rfl, c1, c2, rfl⟩))))
        have HT := hid (tail_any s (i + 1) 3 w hs (by omega) (by omega))
        have hbd := accV_bd s.data.toList i ((s[i].toNat : Int) - 240) 3 (by omega) (by omega) (by omega)
        have HBD := hid hbd
        clear hbd
        have hi1 : ((i + 1 : Nat) : Int) = (i : Int) + 1 := by omega
        rw [hi1] at HT
        cases htl : tailB s.data.toList (i + 1) 3 with
        | false =>
          rw [htl] at HT
          have HF : Hid (Lib.validD s.data.toList = false) := by
            show _ = _
            rw [HV.out, HVA.out, HU.out, htl, if_neg (by simp)]
          clear HU HBD HV HVA
          go_wp2_with (go_at_call 174; refine HT.out.mono ?_; rintro e w1 ⟨rfl, hw1⟩; have hw2 := hw1.symm; clear hw1; subst hw2)
          all_goals go_ret
          all_goals exact ⟨ret_bool HF.out.symm, rfl⟩
        | true =>
          rw [htl] at HT
          go_wp2_with (go_at_call 174; refine HT.out.mono ?_; rintro e w1 ⟨rfl, hw1⟩; have hw2 := hw1.symm; clear hw1; subst hw2)
          clear HT
          go_loop [6, 8] (fun v k => ∃ t : Nat, t ≤ 3 ∧ k = .int .i64 ((i : Int) + 1 + t) ∧ v = .int .i64 (accV s.data.toList i ((s[i].toNat : Int) - 240) t)) (fun _ k => i + 1 + 3 - (intOf k).toNat)
          case atStart => exact ⟨0, by omega, by simp, by simp [accV]⟩
          case round =>
            obtain ⟨t, ht, rfl, rfl⟩ := hrel
            by_cases htn : t < 3
            · have hidx : i + 1 + t < s.size := by
                have hc := (tailB_all _ _ _).1 htl t htn
                unfold Orch.isCont at hc
                simp only [Bool.and_eq_true, decide_eq_true_iff, toList_len] at hc
                omega
              have hbt := byte_idx s (i + 1 + t) hidx
              have hb256 : s[i + 1 + t].toNat < 256 := s[i + 1 + t].toNat_lt
              have hvb := HBD.out htl t (by omega)
              have hp : (64 : Int) ^ t ≤ 4096 := by
                have h3 : t = 0 ∨ t = 1 ∨ t = 2 := by omega
                rcases h3 with rfl | rfl | rfl <;> decide
              have hnext : accV s.data.toList i ((s[i].toNat : Int) - 240) (t + 1) = 64 * accV s.data.toList i ((s[i].toNat : Int) - 240) t + (s[i + 1 + t].toNat : Int) - 128 := by simp only [accV, hbt]
              have HN := hid hnext
              clear hnext hbt
              generalize accV s.data.toList i ((s[i].toNat : Int) - 240) t = V at *
              have hv1 : V ≤ 1048575 := by omega
              have hle : (i : Int) + 1 + (t : Int) ≤ (i : Int) + 3 := by omega
              have hix : (i : Int) + 1 + (t : Int) < (s.size : Int) := by omega
              have hi0 : (0 : Int) ≤ (i : Int) + 1 + (t : Int) := by omega
              have htz : ((i : Int) + 1 + (t : Int)).toNat = i + 1 + t := by omega
              clear hp
              go_wp2
              go_round
              case rel => exact ⟨t + 1, by omega, by go_num, by rw [HN.out]⟩
              case measure => simp [intOf]; omega
            · have htn' : t = 3 := by omega
              subst htn'
              have hvb := HBD.out htl 3 (by omega)
              have hle : ¬ (i : Int) + 1 + ((3 : Nat) : Int) ≤ (i : Int) + 3 := by omega
              have HUF : Hid (∀ b, fine 3 (accV s.data.toList i ((s[i].toNat : Int) - 240) 3) = b → Lib.validD s.data.toList = if b then Lib.validD (s.data.toList.drop (i + (3 + 1))) else false) := fun b hb => by
                rw [HV.out, HVA.out, HU.out, htl, hb]
                cases b <;> rfl
              have hlen : i + (3 + 1) ≤ s.size := by
                have hc := (tailB_all _ _ _).1 htl 2 (by omega)
                unfold Orch.isCont at hc
                simp only [Bool.and_eq_true, decide_eq_true_iff, toList_len] at hc
                omega
              clear HBD HV HVA HU
              generalize accV s.data.toList i ((s[i].toNat : Int) - 240) 3 = V at *
              have hv1 : V ≤ 67108863 := by simpa using hvb.2
              have hv0 := hvb.1
              clear hvb
              have cs : (V < 65536) ∨ (¬ V < 65536 ∧ (1114111 : Int) < V) ∨ (¬ V < 65536 ∧ ¬ (1114111 : Int) < V) := by omega
              rcases cs with d1 | ⟨d1, d2⟩ | ⟨d1, d2⟩
              · have HF : Hid (Lib.validD s.data.toList = false) := HUF.out false (by unfold fine; simp; omega)
                have q2 : ¬ (55296 : Int) ≤ V ∨ True := .inr trivial
                clear HUF
                go_wp2
                all_goals go_ret
                all_goals exact ⟨ret_bool HF.out.symm, rfl⟩
              · have HF : Hid (Lib.validD s.data.toList = false) := HUF.out false (by unfold fine; simp; omega)
                have q2 : ¬ (55296 : Int) ≤ V ∨ True := .inr trivial
                clear HUF
                go_wp2
                all_goals go_ret
                all_goals exact ⟨ret_bool HF.out.symm, rfl⟩
              · have HN : Hid (Lib.validD s.data.toList = Lib.validD (s.data.toList.drop (i + (3 + 1)))) := HUF.out true (by unfold fine; simp; omega)
                have q2 : (55296 : Int) ≤ V := by omega
                have q3 : ¬ V ≤ 57343 := by omega
                clear HUF
                go_wp2
                go_round
                case rel => exact ⟨i + (3 + 1), by go_num, by omega, HN⟩
                case measure => simp [intOf]; omega
      · have HF : Hid (Lib.validD s.data.toList = false) := by
          show _ = _
          rw [HV.out, HVA.out, uStep_else s i hlt c1]
        clear HV HVA
        rcases c1 with ⟨c1, c2⟩ | c1
        all_goals
          go_wp2
          all_goals go_ret
          all_goals exact ⟨ret_bool HF.out.symm, rfl⟩
    · have hiz : ¬ (i : Int) < (s.size : Int) := by omega
      have HF : Hid (Lib.validD s.data.toList = true) := by
        show _ = _
        rw [HV.out, List.drop_eq_nil_of_le (by rw [toList_len]; omega)]
        rfl
      go_wp2
      go_ret
      exact ⟨ret_bool HF.out.symm, rfl⟩

end Go.Proofs.YtlghcldiboecoaaGreatDoor
