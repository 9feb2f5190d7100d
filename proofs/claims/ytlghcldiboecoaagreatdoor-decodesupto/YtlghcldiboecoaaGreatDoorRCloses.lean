/- The document's answer: which texts are schemas. -/
import Derived.Test.YtlghcldiboecoaaGreatDoorFind
import Derived.Test.YtlghcldiboecoaaGreatDoorRSchema
set_option linter.unusedVariables false
namespace Go.Proofs.YtlghcldiboecoaaGreatDoor
open Go.RowKit

theorem hid {p : Prop} (h : p) : Hid p := h

def resZ : Option Nat → Int
  | none => -1
  | some i => i
def closesZ (l : List UInt8) : Int := resZ (Orch.closesFrom 0 l)

theorem cnt_bd (n : Int) (c : UInt8) : n - 1 ≤ Orch.cnt n c ∧ Orch.cnt n c ≤ n + 1 := by
  unfold Orch.cnt
  split <;> split <;> omega

theorem cnt_cases (n : Int) (c : UInt8) : Orch.cnt n c = (n + (if c.toNat = 91 ∨ c.toNat = 40 then 1 else 0)) - (if c.toNat = 93 ∨ c.toNat = 41 then 1 else 0) := by
  have e : ∀ (k : Nat) (hk : k < 256), (c == UInt8.ofNat k) = decide (c.toNat = k) := fun k hk => by
    rw [Bool.eq_iff_iff, beq_iff_eq, decide_eq_true_iff]
    constructor
    · rintro rfl; simp; omega
    · intro h; rw [← h]; simp
  have e1 := e 91 (by omega)
  have e2 := e 40 (by omega)
  have e3 := e 93 (by omega)
  have e4 := e 41 (by omega)
  unfold Orch.cnt Orch.opens Orch.shuts
  simp only [show (91 : UInt8) = UInt8.ofNat 91 from rfl, show (40 : UInt8) = UInt8.ofNat 40 from rfl, show (93 : UInt8) = UInt8.ofNat 93 from rfl, show (41 : UInt8) = UInt8.ofNat 41 from rfl, e1, e2, e3, e4, Bool.or_eq_true, decide_eq_true_iff]
  split <;> split <;> omega

set_option maxRecDepth 8000 in
set_option maxHeartbeats 1000000 in
theorem closes_any (s : ByteArray) (w : World) (hs : s.size ≤ 140737488355328) :
    Calls Tryz.prog 240 #[.string s] w fun e w' => e = .returned (.int .i64 (closesZ s.data.toList)) ∧ w' = w := by
  obtain ⟨R, hR⟩ : ∃ R, Orch.closesFrom 0 s.data.toList = R := ⟨_, rfl⟩
  have HC : Hid (closesZ s.data.toList = resZ R) := by show _ = _; unfold closesZ; rw [hR]
  have HR := hid hR
  clear hR
  go_enter Tryz.func240, Tryz.ntmps240
  go_wp2
  go_loop [3, 4] (fun o i => ∃ (k : Nat) (n : Int), k ≤ s.size ∧ i = .int .i64 k ∧ o = .int .i64 n ∧ -(k : Int) ≤ n ∧ n ≤ k ∧ Hid (R = (Orch.closesFrom n (s.data.toList.drop k)).map (· + k))) (fun _ i => s.size - (intOf i).toNat)
  case atStart => exact ⟨0, 0, Nat.zero_le _, rfl, rfl, by omega, by omega, by show _ = _; rw [← HR.out]; simp⟩
  case round =>
    obtain ⟨k, n, hk, rfl, rfl, hn0, hn1, HK⟩ := hrel
    by_cases hlt : k < s.size
    · have hkz : (k : Int) < (s.size : Int) := by omega
      have hdr : s.data.toList.drop k = s[k] :: s.data.toList.drop (k + 1) := List.drop_eq_getElem_cons (by simpa using hlt)
      have HK2 : Hid (R = if Orch.cnt n s[k] = 0 then some k else (Orch.closesFrom (Orch.cnt n s[k]) (s.data.toList.drop (k + 1))).map (· + (k + 1))) := by
        show _ = _
        rw [HK.out, hdr, Orch.closesFrom]
        split
        · simp
        · rw [Option.map_map]
          congr 1
          funext i
          simp only [Function.comp]
          omega
      have hcb := cnt_bd n s[k]
      have hcc := cnt_cases n s[k]
      clear HK hdr
      have hc : s[k].toNat < 256 := s[k].toNat_lt
      generalize hcv : s[k].toNat = cv at *
      have HCC := hid hcc
      clear hcc
      generalize Orch.cnt n s[k] = m at *
      have hcvz : (cv : Int) < 256 := by omega
      have five : (cv = 91 ∧ m = n + 1) ∨ (cv = 40 ∧ m = n + 1) ∨ (cv = 93 ∧ m = n - 1) ∨ (cv = 41 ∧ m = n - 1) ∨ ((¬ cv = 91 ∧ ¬ cv = 40 ∧ ¬ cv = 93 ∧ ¬ cv = 41) ∧ m = n) := by
        have := HCC.out
        split at this <;> split at this <;> omega
      clear HCC hcvz
      rcases five with ⟨rfl, rfl⟩ | ⟨rfl, rfl⟩ | ⟨rfl, rfl⟩ | ⟨rfl, rfl⟩ | ⟨⟨a1, a2, a3, a4⟩, rfl⟩
      · by_cases h0 : n + 1 = 0
        · have HF : Hid (R = some k) := by show _ = _; rw [HK2.out, if_pos h0]
          clear HK2
          go_wp2
          go_ret
          exact ⟨by rw [HC.out, HF.out]; rfl, rfl⟩
        · have HF : Hid (R = (Orch.closesFrom (n + 1) (s.data.toList.drop (k + 1))).map (· + (k + 1))) := by show _ = _; rw [HK2.out, if_neg h0]
          clear HK2
          go_wp2
          go_round
          case rel => exact ⟨k + 1, n + 1, by omega, by go_num, by first | rfl | go_num, by omega, by omega, HF⟩
          case measure => simp [intOf]; omega
      · by_cases h0 : n + 1 = 0
        · have HF : Hid (R = some k) := by show _ = _; rw [HK2.out, if_pos h0]
          clear HK2
          go_wp2
          go_ret
          exact ⟨by rw [HC.out, HF.out]; rfl, rfl⟩
        · have HF : Hid (R = (Orch.closesFrom (n + 1) (s.data.toList.drop (k + 1))).map (· + (k + 1))) := by show _ = _; rw [HK2.out, if_neg h0]
          clear HK2
          go_wp2
          go_round
          case rel => exact ⟨k + 1, n + 1, by omega, by go_num, by first | rfl | go_num, by omega, by omega, HF⟩
          case measure => simp [intOf]; omega
      · by_cases h0 : n - 1 = 0
        · have HF : Hid (R = some k) := by show _ = _; rw [HK2.out, if_pos h0]
          clear HK2
          go_wp2
          go_ret
          exact ⟨by rw [HC.out, HF.out]; rfl, rfl⟩
        · have HF : Hid (R = (Orch.closesFrom (n - 1) (s.data.toList.drop (k + 1))).map (· + (k + 1))) := by show _ = _; rw [HK2.out, if_neg h0]
          clear HK2
          go_wp2
          go_round
          case rel => exact ⟨k + 1, n - 1, by omega, by go_num, by first | rfl | go_num, by omega, by omega, HF⟩
          case measure => simp [intOf]; omega
      · by_cases h0 : n - 1 = 0
        · have HF : Hid (R = some k) := by show _ = _; rw [HK2.out, if_pos h0]
          clear HK2
          go_wp2
          go_ret
          exact ⟨by rw [HC.out, HF.out]; rfl, rfl⟩
        · have HF : Hid (R = (Orch.closesFrom (n - 1) (s.data.toList.drop (k + 1))).map (· + (k + 1))) := by show _ = _; rw [HK2.out, if_neg h0]
          clear HK2
          go_wp2
          go_round
          case rel => exact ⟨k + 1, n - 1, by omega, by go_num, by first | rfl | go_num, by omega, by omega, HF⟩
          case measure => simp [intOf]; omega
      · have b1 : ((cv : Int) == 91) = false := by rw [beq_eq_false_iff_ne]; omega
        have b2 : ((cv : Int) == 40) = false := by rw [beq_eq_false_iff_ne]; omega
        have b3 : ((cv : Int) == 93) = false := by rw [beq_eq_false_iff_ne]; omega
        have b4 : ((cv : Int) == 41) = false := by rw [beq_eq_false_iff_ne]; omega
        by_cases h0 : m = 0
        · have HF : Hid (R = some k) := by show _ = _; rw [HK2.out, if_pos h0]
          clear HK2
          go_wp2
          go_ret
          exact ⟨by rw [HC.out, HF.out]; rfl, rfl⟩
        · have HF : Hid (R = (Orch.closesFrom (m) (s.data.toList.drop (k + 1))).map (· + (k + 1))) := by show _ = _; rw [HK2.out, if_neg h0]
          clear HK2
          go_wp2
          go_round
          case rel => exact ⟨k + 1, m, by omega, by go_num, by first | rfl | go_num, by omega, by omega, HF⟩
          case measure => simp [intOf]; omega
    · have hkz : ¬ (k : Int) < (s.size : Int) := by omega
      have HN : Hid (R = none) := by
        show _ = _
        rw [HK.out, List.drop_eq_nil_of_le (by simp; omega)]
        rfl
      go_wp2
      go_ret
      exact ⟨by rw [HC.out, HN.out]; rfl, rfl⟩

theorem firstL_take (s : List UInt8) : Orch.firstL s = s.take (Orch.firstL s).length := by
  cases s with
  | nil => rfl
  | cons c r =>
    rw [Orch.firstL]
    cases Orch.opens c with
    | false => rfl
    | true =>
      rw [if_pos rfl]
      cases Orch.closesFrom 0 (c :: r) with
      | none => exact (List.take_length).symm
      | some i =>
        simp only
        rw [List.length_take, ← List.take_eq_take_min]

theorem closes_lt : ∀ (l : List UInt8) (n : Int) (i : Nat), Orch.closesFrom n l = some i → i < l.length
  | [], n, i, h => by simp [Orch.closesFrom] at h
  | c :: r, n, i, h => by
    unfold Orch.closesFrom at h
    split at h
    · simp only [Option.some.injEq] at h
      subst h
      simp
    · simp only [Option.map_eq_some_iff] at h
      obtain ⟨j, hj, rfl⟩ := h
      have := closes_lt r _ j hj
      simp
      omega

set_option maxRecDepth 8000 in
set_option maxHeartbeats 1000000 in
theorem first_any (s : ByteArray) (w : World) (hs : s.size ≤ 140737488355328) (h1 : 1 ≤ s.size) :
    Calls Tryz.prog 175 #[.string s] w fun e w' => (∃ t : ByteArray, t.data.toList = Orch.firstL s.data.toList ∧ e = .returned (.string t)) ∧ w' = w := by
  have hcl := closes_any s w hs
  have hlen : s.data.toList.length = s.size := by simp [Array.length_toList]
  obtain ⟨c, r, hcr⟩ : ∃ c r, s.data.toList = c :: r := by
    cases h : s.data.toList with
    | nil => rw [h] at hlen; simp at hlen; omega
    | cons c r => exact ⟨c, r, rfl⟩
  have hc0 : s[0] = c := by
    have : s.data.toList[0]'(by rw [hlen]; omega) = c := by simp only [hcr, List.getElem_cons_zero]
    exact this
  have hext : ∀ j, (s.extract 0 j).data.toList = s.data.toList.take j := fun j => by
    rw [ByteArray.data_extract, Array.toList_extract, List.extract_eq_take_drop, List.drop_zero, Nat.sub_zero]
  have hcl' : ∀ i, Orch.closesFrom 0 s.data.toList = some i → i < s.size := fun i hi => by have := closes_lt _ _ _ hi; omega
  have HEX := hid hext
  have hop : Orch.opens c = decide (s[0].toNat = 91 ∨ s[0].toNat = 40) := by
    rw [hc0]
    unfold Orch.opens
    rw [Bool.eq_iff_iff, Bool.or_eq_true, beq_iff_eq, beq_iff_eq, decide_eq_true_iff]
    constructor
    · rintro (rfl | rfl) <;> simp
    · rintro (h | h)
      · exact .inl (UInt8.toNat_inj.1 h)
      · exact .inr (UInt8.toNat_inj.1 h)
  have HF0 : Hid (Orch.opens c = false → Orch.firstL s.data.toList = s.data.toList.take 1) := fun h => by rw [hcr, Orch.firstL, h]; rfl
  have HF1 : Hid (Orch.opens c = true → Orch.closesFrom 0 s.data.toList = none → Orch.firstL s.data.toList = s.data.toList) := fun h h' => by
    rw [hcr] at h' ⊢
    rw [Orch.firstL, h, if_pos rfl, h']
  have HF2 : Hid (∀ i, Orch.opens c = true → Orch.closesFrom 0 s.data.toList = some i → Orch.firstL s.data.toList = s.data.toList.take (i + 1)) := fun i h h' => by
    rw [hcr] at h' ⊢
    rw [Orch.firstL, h, if_pos rfl, h']
  have HOP := hid hop
  have HCL := hid hcl
  clear hext hop hcr hc0 hcl
  have h0z : (0 : Int) < (s.size : Int) := by omega
  have hsz : 0 < s.size := by omega
  have h256 := s[0].toNat_lt
  generalize hcv : s[0].toNat = cv at *
  by_cases hq : cv = 91 ∨ cv = 40
  · have ho : Orch.opens c = true := by rw [HOP.out, decide_eq_true hq]
    have HO := hid ho
    clear ho HOP
    cases hR : Orch.closesFrom 0 s.data.toList with
    | none =>
      have HL := hid (HF1.out HO.out hR)
      have HZ : Hid (closesZ s.data.toList = -1) := by show _ = _; unfold closesZ; rw [hR]; rfl
      rw [HZ.out] at HCL
      clear HF0 HF1 HF2 hR
      rcases hq with rfl | rfl
      all_goals
        go_enter Tryz.func175, Tryz.ntmps175
        go_wp2_with (go_at_call 240; refine HCL.out.mono ?_; rintro e w1 ⟨rfl, hw1⟩; have hw2 := hw1.symm; clear hw1; subst hw2)
        go_ret
        exact ⟨⟨s, HL.out.symm, rfl⟩, rfl⟩
    | some i =>
      have HL := hid (HF2.out i HO.out hR)
      have hi := hcl' i hR
      have HZ : Hid (closesZ s.data.toList = (i : Int)) := by show _ = _; unfold closesZ; rw [hR]; rfl
      rw [HZ.out] at HCL
      clear HF0 HF1 HF2 hR hcl'
      have hi1 : (i : Int) + 1 ≤ (s.size : Int) := by omega
      rcases hq with rfl | rfl
      all_goals
        go_enter Tryz.func175, Tryz.ntmps175
        go_wp2_with (go_at_call 240; refine HCL.out.mono ?_; rintro e w1 ⟨rfl, hw1⟩; have hw2 := hw1.symm; clear hw1; subst hw2)
        go_ret
        exact ⟨⟨_, by rw [HL.out]; exact HEX.out (i + 1), rfl⟩, rfl⟩
  · have ho : Orch.opens c = false := by rw [HOP.out, decide_eq_false hq]
    have HL := hid (HF0.out ho)
    clear ho HOP HF0 HF1 HF2 hcl' HCL
    have b1 : ((cv : Int) == 91) = false := by rw [beq_eq_false_iff_ne]; omega
    have b2 : ((cv : Int) == 40) = false := by rw [beq_eq_false_iff_ne]; omega
    have b3 : ((cv : Int) != 91) = true := by simp [bne, b1]
    have b4 : ((cv : Int) != 40) = true := by simp [bne, b2]
    have hs1 : (1 : Int) ≤ (s.size : Int) := by omega
    go_enter Tryz.func175, Tryz.ntmps175
    go_wp2
    go_ret
    exact ⟨⟨_, by rw [HL.out]; exact HEX.out 1, rfl⟩, rfl⟩
end Go.Proofs.YtlghcldiboecoaaGreatDoor
