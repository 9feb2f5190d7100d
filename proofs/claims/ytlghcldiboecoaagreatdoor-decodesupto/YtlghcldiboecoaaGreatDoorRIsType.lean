/- The document's answer: is a text one type, a schema? -/
import Derived.Test.YtlghcldiboecoaaGreatDoorRCloses
set_option linter.unusedVariables false
namespace Go.Proofs.YtlghcldiboecoaaGreatDoor
open Go.RowKit

def tyEnd (c : UInt8) : Option Nat → Bool
  | none => false
  | some m => m == 1 || (decide (1 < m) && c == 40)

theorem isTy_two (k : Nat) (l : List UInt8) (h : 2 ≤ l.length) : Orch.isTy (k + 1) l = (if Orch.closesFrom 0 l = some (l.length - 1) ∧ Orch.mates (l.getD 0 0) (l.getD (l.length - 1) 0) = true then tyEnd (l.getD 0 0) (Orch.rowL (Orch.isTy k) l.length ((l.take (l.length - 1)).drop 1) 0) else false) := by
  match l, h with
  | c :: d :: r, _ =>
    rw [Orch.isTy]
    have e1 : (c :: d :: r).length - 1 = r.length + 1 := by simp
    have e2 : (d :: r).getLast?.getD 0 = (c :: d :: r).getD (r.length + 1) 0 := by
      rw [List.getD_cons_succ, List.getLast?_eq_getElem?, List.getD_eq_getElem?_getD]
      rfl
    have e3 : ((c :: d :: r).take (r.length + 1)).drop 1 = (d :: r).take r.length := by rw [List.take_succ_cons]; rfl
    rw [e1, e2, e3]
    have e4 : (c :: d :: r).length = r.length + 2 := by simp
    rw [e4]
    have e5 : (c :: d :: r).getD 0 0 = c := rfl
    rw [e5]
    by_cases hc : Orch.closesFrom 0 (c :: d :: r) = some (r.length + 1) ∧ Orch.mates c ((c :: d :: r).getD (r.length + 1) 0) = true
    · rw [if_pos hc, if_pos hc]
      cases Orch.rowL (Orch.isTy k) (r.length + 2) (List.take r.length (d :: r)) 0 <;> rfl
    · rw [if_neg hc, if_neg hc]

theorem u8_eq (c : UInt8) (n : Nat) (hn : n < 256) : (c == UInt8.ofNat n) = ((c.toNat : Int) == (n : Int)) := by
  rw [Bool.eq_iff_iff, beq_iff_eq, beq_iff_eq]
  constructor
  · rintro rfl
    simp
    omega
  · intro h
    apply UInt8.toNat_inj.1
    simp
    omega

theorem firstL_pos {v : List UInt8} (h : v ≠ []) : 1 ≤ (Orch.firstL v).length ∧ (Orch.firstL v).length ≤ v.length := by
  cases v with
  | nil => exact absurd rfl h
  | cons c r =>
    rw [Orch.firstL]
    cases Orch.opens c with
    | false => simp
    | true =>
      rw [if_pos rfl]
      cases Orch.closesFrom 0 (c :: r) with
      | none => simp
      | some i => simp only [List.length_take, List.length_cons]; omega

theorem toList_len (s : ByteArray) : s.data.toList.length = s.size := by rw [Array.length_toList]; rfl

theorem getD_idx (s : ByteArray) (i : Nat) (h : i < s.size) : s.data.toList.getD i 0 = s[i] := by
  rw [List.getD_eq_getElem?_getD, List.getElem?_eq_getElem (by rw [toList_len]; exact h)]
  rfl

set_option maxRecDepth 8000 in
set_option maxHeartbeats 4000000 in
theorem isType_any : ∀ (k : Nat), k ≤ 9 → ∀ (s : ByteArray) (w : World), s.size ≤ 140737488355328 →
    Calls Tryz.prog 178 #[.string s, .int .i64 (9 - (k : Int))] w fun e w' => e = .returned (.bool (Orch.isTy k s.data.toList)) ∧ w' = w := by
  intro k
  induction k with
  | zero =>
    intro _ s w hs
    go_enter Tryz.func178, Tryz.ntmps178
    go_wp2
    all_goals (go_ret; exact ⟨rfl, rfl⟩)
  | succ k ih =>
    intro hk s w hs
    have hdz : (9 : Int) - ((k + 1 : Nat) : Int) = 8 - (k : Int) := by omega
    rw [hdz]
    have hd0 : ¬ (8 : Int) < 8 - (k : Int) := by omega
    have HIH : Hid (∀ (s : ByteArray) (w : World), s.size ≤ 140737488355328 → Calls Tryz.prog 178 #[.string s, .int .i64 (8 - (k : Int) + 1)] w fun e w' => e = .returned (.bool (Orch.isTy k s.data.toList)) ∧ w' = w) := fun s w hs => by
      have := ih (by omega) s w hs
      rw [show (9 : Int) - (k : Int) = 8 - (k : Int) + 1 by omega] at this
      exact this
    clear ih hdz
    by_cases h0 : s.size = 0
    · have HZ : Hid (Orch.isTy (k + 1) s.data.toList = false) := by
        show _ = _
        have hn : s.data.toList = [] := List.length_eq_zero_iff.1 (by rw [toList_len]; exact h0)
        rw [hn]
        rfl
      have hst : s = ⟨#[]⟩ := by
        cases s with | mk d => congr 1; exact Array.eq_empty_of_size_eq_zero h0
      subst hst
      go_enter Tryz.func178, Tryz.ntmps178
      go_wp2
      go_ret
      exact ⟨ret_bool HZ.out.symm, rfl⟩
    · have hp : 0 < s.size := by omega
      have hpz : (0 : Int) < (s.size : Int) := by omega
      have h256 := s[0].toNat_lt
      have hie : s.toList.isEmpty = false := by rw [List.isEmpty_eq_false_iff]; exact fun h => h0 ((toList_nil s).1 h)
      have hc0 := getD_idx s 0 hp
      by_cases h1 : s.size = 1
      · have HL : Hid (Orch.isTy (k + 1) s.data.toList = Orch.isLeaf s[0]) := by
          show _ = _
          obtain ⟨c, hc⟩ : ∃ c, s.data.toList = [c] := List.length_eq_one_iff.1 (by rw [toList_len]; exact h1)
          rw [hc] at hc0 ⊢
          have : c = s[0] := hc0
          rw [← this]
          rfl
        have hlf : Orch.isLeaf s[0] = (((s[0].toNat : Int) == 63) || ((s[0].toNat : Int) == 52) || ((s[0].toNat : Int) == 56) || ((s[0].toNat : Int) == 98) || ((s[0].toNat : Int) == 116)) := by
          unfold Orch.isLeaf
          rw [show (63 : UInt8) = UInt8.ofNat 63 from rfl, show (52 : UInt8) = UInt8.ofNat 52 from rfl, show (56 : UInt8) = UInt8.ofNat 56 from rfl, show (98 : UInt8) = UInt8.ofNat 98 from rfl, show (116 : UInt8) = UInt8.ofNat 116 from rfl,
            u8_eq _ 63 (by omega), u8_eq _ 52 (by omega), u8_eq _ 56 (by omega), u8_eq _ 98 (by omega), u8_eq _ 116 (by omega)]
          rfl
        rw [HL.out, hlf]
        have h1z : (s.size : Int) = 1 := by omega
        clear HL hlf hc0 HIH
        have six : (s[0].toNat : Int) = 63 ∨ (s[0].toNat : Int) = 52 ∨ (s[0].toNat : Int) = 56 ∨ (s[0].toNat : Int) = 98 ∨ (s[0].toNat : Int) = 116 ∨ (((s[0].toNat : Int) == 63) = false ∧ ((s[0].toNat : Int) == 52) = false ∧ ((s[0].toNat : Int) == 56) = false ∧ ((s[0].toNat : Int) == 98) = false ∧ ((s[0].toNat : Int) == 116) = false) := by
          by_cases a1 : (s[0].toNat : Int) = 63
          · exact .inl a1
          · by_cases a2 : (s[0].toNat : Int) = 52
            · exact .inr (.inl a2)
            · by_cases a3 : (s[0].toNat : Int) = 56
              · exact .inr (.inr (.inl a3))
              · by_cases a4 : (s[0].toNat : Int) = 98
                · exact .inr (.inr (.inr (.inl a4)))
                · by_cases a5 : (s[0].toNat : Int) = 116
                  · exact .inr (.inr (.inr (.inr (.inl a5))))
                  · exact .inr (.inr (.inr (.inr (.inr ⟨by simpa using a1, by simpa using a2, by simpa using a3, by simpa using a4, by simpa using a5⟩))))
        rcases six with b0 | b0 | b0 | b0 | b0 | ⟨b1, b2, b3, b4, b5⟩
        all_goals
          go_enter Tryz.func178, Tryz.ntmps178
          go_wp2
          all_goals go_ret
          all_goals first
            | exact ⟨rfl, rfl⟩
            | exact ⟨ret_bool (by simp [b0]), rfl⟩
            | exact ⟨ret_bool (by simp [b1, b2, b3, b4, b5]), rfl⟩
      · obtain ⟨m, hm⟩ : ∃ m, s.size = m + 1 := ⟨s.size - 1, by omega⟩
        have hmz : (s.size : Int) - 1 = (m : Int) := by omega
        have hm0 : (0 : Int) ≤ (m : Int) := by omega
        have hml : (m : Int) < (s.size : Int) := by omega
        have hmn : m < s.size := by omega
        have h1z : ¬ (s.size : Int) = 1 := by omega
        have h1b : ((s.size : Int) == 1) = false := by rw [beq_eq_false_iff_ne]; exact h1z
        have hlen := toList_len s
        have hcm := getD_idx s m hmn
        have HT := isTy_two k s.data.toList (by omega)
        rw [hlen, show s.size - 1 = m by omega, hc0, hcm] at HT
        have HCL := hid (closes_any s w hs)
        have hmate : Orch.mates s[0] s[m] = (((s[0].toNat : Int) == 91) && ((s[m].toNat : Int) == 93) || ((s[0].toNat : Int) == 40) && ((s[m].toNat : Int) == 41)) := by
          unfold Orch.mates
          rw [show (91 : UInt8) = UInt8.ofNat 91 from rfl, show (93 : UInt8) = UInt8.ofNat 93 from rfl, show (40 : UInt8) = UInt8.ofNat 40 from rfl, show (41 : UInt8) = UInt8.ofNat 41 from rfl,
            u8_eq _ 91 (by omega), u8_eq _ 93 (by omega), u8_eq _ 40 (by omega), u8_eq _ 41 (by omega)]
          rfl
        have hz256 := s[m].toNat_lt
        clear hc0 hcm
        by_cases hcl : Orch.closesFrom 0 s.data.toList = some m
        · have hcz : closesZ s.data.toList = (m : Int) := by unfold closesZ; rw [hcl]; rfl
          rw [hcz] at HCL
          by_cases hmt : Orch.mates s[0] s[m] = true
          · rw [if_pos ⟨hcl, hmt⟩] at HT
            rw [hmate] at hmt
            clear hcl hcz hmate
            have hin : (s.extract 1 m).data.toList = (s.data.toList.take m).drop 1 := by
              rw [ByteArray.data_extract, Array.toList_extract, List.extract_eq_take_drop, List.drop_take]
            rw [← hin] at HT
            have hisz : (s.extract 1 m).size = m - 1 := by
              rw [ByteArray.size_extract]
              omega
            generalize hRR : Orch.rowL (Orch.isTy k) s.size (s.extract 1 m).data.toList 0 = RR at HT
            have HRR := hid hRR
            have HTT := hid HT
            clear HT hRR hin
            have hm1 : (1 : Int) ≤ (m : Int) := by omega
            have hmle : (m : Int) ≤ (s.size : Int) := by omega
            have two : ((s[0].toNat : Int) = 91 ∧ (s[m].toNat : Int) = 93) ∨ ((s[0].toNat : Int) = 40 ∧ (s[m].toNat : Int) = 41) := by
              simp only [Bool.or_eq_true, Bool.and_eq_true, beq_iff_eq] at hmt
              exact hmt
            clear hmt
            rcases two with ⟨b1, b2⟩ | ⟨b1, b2⟩
            · have HE : Hid (Orch.isTy (k + 1) s.data.toList = tyEnd 91 RR) := by
                show _ = _
                rw [HTT.out, show s[0] = 91 from UInt8.toNat_inj.1 (by show _ = 91; omega)]
              clear HTT
              go_enter Tryz.func178, Tryz.ntmps178
              go_wp2_with (go_at_call 240; refine HCL.out.mono ?_; rintro e w1 ⟨rfl, hw1⟩; have hw2 := hw1.symm; clear hw1; subst hw2)
              go_loop [8, 9, 10, 11] (fun v n _ _ => ∃ (x : ByteArray) (j : Nat), v = .string x ∧ n = .int .i64 j ∧ x.size + j + 1 ≤ s.size ∧ Hid (RR = Orch.rowL (Orch.isTy k) (s.size - j) x.data.toList j)) (fun v _ _ _ => match v with | .string x => x.size | _ => 0)
              case atStart => exact ⟨_, 0, rfl, rfl, by omega, by show _ = _; rw [Nat.sub_zero]; exact HRR.out.symm⟩
              case round =>
                obtain ⟨x, j, rfl, rfl, hxj, HJ⟩ := hrel
                have hx63 : x.size ≤ 140737488355328 := by omega
                by_cases hx0 : x.size = 0
                · have HD : Hid (RR = some j) := by
                    show _ = _
                    have hn : x.data.toList = [] := List.length_eq_zero_iff.1 (by rw [toList_len]; exact hx0)
                    rw [HJ.out, hn]
                    obtain ⟨f, hf⟩ : ∃ f, s.size - j = f + 1 := ⟨s.size - j - 1, by omega⟩
                    rw [hf]
                    rfl
                  have hxe : x.toList.isEmpty = true := by rw [List.isEmpty_iff]; exact (toList_nil x).2 hx0
                  have HF : Hid (Orch.isTy (k + 1) s.data.toList = tyEnd 91 (some j)) := by show _ = _; rw [HE.out, HD.out]
                  have hcase : j = 0 ∨ j = 1 ∨ 2 ≤ j := by omega
                  clear HJ HD HE
                  rcases hcase with rfl | rfl | h2
                  · go_wp2
                    all_goals go_ret
                    all_goals exact ⟨ret_bool (by rw [HF.out]; rfl), rfl⟩
                  · go_wp2
                    all_goals go_ret
                    all_goals exact ⟨ret_bool (by rw [HF.out]; rfl), rfl⟩
                  · have c1 : ((j : Int) == 1) = false := by rw [beq_eq_false_iff_ne]; omega
                    have c2 : (1 : Int) < (j : Int) := by omega
                    have HG : Hid (tyEnd 91 (some j) = false) := by
                      show (j == 1 || (decide (1 < j) && (91 : UInt8) == 40)) = _
                      rw [show (j == 1) = false by rw [beq_eq_false_iff_ne]; omega, decide_eq_true (by omega : 1 < j)]
                      rfl
                    go_wp2
                    all_goals go_ret
                    all_goals exact ⟨ret_bool (by rw [HF.out, HG.out]), rfl⟩
                · have hxe : x.toList.isEmpty = false := by rw [List.isEmpty_eq_false_iff]; exact fun h => hx0 ((toList_nil x).1 h)
                  have hxne : x.data.toList ≠ [] := fun h => hx0 (by rw [← toList_len x, h]; rfl)
                  have hfp := firstL_pos hxne
                  rw [toList_len] at hfp
                  have HFP := hid hfp
                  have HSTEP : Hid (RR = if Orch.isTy k (Orch.firstL x.data.toList) = true then Orch.rowL (Orch.isTy k) (s.size - (j + 1)) (x.data.toList.drop (Orch.firstL x.data.toList).length) (j + 1) else none) := by
                    show _ = _
                    rw [HJ.out]
                    obtain ⟨f, hf⟩ : ∃ f, s.size - j = f + 1 := ⟨s.size - j - 1, by omega⟩
                    rw [hf, show s.size - (j + 1) = f by omega]
                    cases hxl : x.data.toList with
                    | nil => exact absurd hxl hxne
                    | cons c r => rfl
                  clear HJ hfp hxne
                  have HFA := hid (first_any x w hx63 (by omega))
                  go_wp2_with (go_at_call 175; refine HFA.out.mono ?_; rintro e w1 ⟨⟨t, ht, rfl⟩, hw1⟩; have HTL := hid ht; have hw2 := hw1.symm; clear hw1 ht; subst hw2)
                  have hts : t.size = (Orch.firstL x.data.toList).length := by rw [← toList_len t, HTL.out]
                  have hfp := HFP.out
                  have hIT := HIH.out t w (by omega)
                  rw [HTL.out] at hIT
                  have HIT := hid hIT
                  have hdrop : (x.extract t.size x.size).data.toList = x.data.toList.drop (Orch.firstL x.data.toList).length := by
                    rw [ByteArray.data_extract, Array.toList_extract, List.extract_eq_take_drop, hts, List.take_of_length_le (by rw [List.length_drop, toList_len]; omega)]
                  have HDR := hid hdrop
                  have htx : (t.size : Int) ≤ (x.size : Int) := by omega
                  have ht1 : 1 ≤ t.size := by omega
                  clear hIT hdrop hfp HFP HTL HFA hts
                  have HXS : Hid ((x.extract t.size x.size).size = x.size - t.size) := by show _ = _; rw [ByteArray.size_extract]; omega
                  cases hb : Orch.isTy k (Orch.firstL x.data.toList) with
                  | false =>
                    rw [hb] at HIT
                    have HF : Hid (Orch.isTy (k + 1) s.data.toList = false) := by
                      show _ = _
                      rw [HE.out, HSTEP.out, hb]
                      rfl
                    clear HSTEP HDR HXS
                    refine HIT.out.mono ?_
                    rintro e w1 ⟨rfl, hw1⟩
                    have hw2 := hw1.symm
                    clear hw1
                    subst hw2
                    go_wp2_with fail
                    go_ret
                    exact ⟨ret_bool HF.out.symm, rfl⟩
                  | true =>
                    rw [hb] at HIT
                    have HN : Hid (RR = Orch.rowL (Orch.isTy k) (s.size - (j + 1)) (x.extract t.size x.size).data.toList (j + 1)) := by
                      show _ = _
                      rw [HSTEP.out, hb, if_pos rfl, HDR.out]
                    clear HSTEP HDR
                    refine HIT.out.mono ?_
                    rintro e w1 ⟨rfl, hw1⟩
                    have hw2 := hw1.symm
                    clear hw1
                    subst hw2
                    have hle : ¬ (t.size : Int) < 0 := by omega
                    go_wp2_with fail
                    go_round
                    case rel => exact ⟨_, j + 1, rfl, by go_num, by have := HXS.out; omega, HN⟩
                    case measure => have := HXS.out; simp only [this]; omega
            · have HE : Hid (Orch.isTy (k + 1) s.data.toList = tyEnd 40 RR) := by
                show _ = _
                rw [HTT.out, show s[0] = 40 from UInt8.toNat_inj.1 (by show _ = 40; omega)]
              clear HTT
              go_enter Tryz.func178, Tryz.ntmps178
              go_wp2_with (go_at_call 240; refine HCL.out.mono ?_; rintro e w1 ⟨rfl, hw1⟩; have hw2 := hw1.symm; clear hw1; subst hw2)
              go_loop [8, 9, 10, 11] (fun v n _ _ => ∃ (x : ByteArray) (j : Nat), v = .string x ∧ n = .int .i64 j ∧ x.size + j + 1 ≤ s.size ∧ Hid (RR = Orch.rowL (Orch.isTy k) (s.size - j) x.data.toList j)) (fun v _ _ _ => match v with | .string x => x.size | _ => 0)
              case atStart => exact ⟨_, 0, rfl, rfl, by omega, by show _ = _; rw [Nat.sub_zero]; exact HRR.out.symm⟩
              case round =>
                obtain ⟨x, j, rfl, rfl, hxj, HJ⟩ := hrel
                have hx63 : x.size ≤ 140737488355328 := by omega
                by_cases hx0 : x.size = 0
                · have HD : Hid (RR = some j) := by
                    show _ = _
                    have hn : x.data.toList = [] := List.length_eq_zero_iff.1 (by rw [toList_len]; exact hx0)
                    rw [HJ.out, hn]
                    obtain ⟨f, hf⟩ : ∃ f, s.size - j = f + 1 := ⟨s.size - j - 1, by omega⟩
                    rw [hf]
                    rfl
                  have hxe : x.toList.isEmpty = true := by rw [List.isEmpty_iff]; exact (toList_nil x).2 hx0
                  have HF : Hid (Orch.isTy (k + 1) s.data.toList = tyEnd 40 (some j)) := by show _ = _; rw [HE.out, HD.out]
                  have hcase : j = 0 ∨ j = 1 ∨ 2 ≤ j := by omega
                  clear HJ HD HE
                  rcases hcase with rfl | rfl | h2
                  · go_wp2
                    all_goals go_ret
                    all_goals exact ⟨ret_bool (by rw [HF.out]; rfl), rfl⟩
                  · go_wp2
                    all_goals go_ret
                    all_goals exact ⟨ret_bool (by rw [HF.out]; rfl), rfl⟩
                  · have c1 : ((j : Int) == 1) = false := by rw [beq_eq_false_iff_ne]; omega
                    have c2 : (1 : Int) < (j : Int) := by omega
                    have HG : Hid (tyEnd 40 (some j) = true) := by
                      show (j == 1 || (decide (1 < j) && (40 : UInt8) == 40)) = _
                      rw [show (j == 1) = false by rw [beq_eq_false_iff_ne]; omega, decide_eq_true (by omega : 1 < j)]
                      rfl
                    go_wp2
                    all_goals go_ret
                    all_goals exact ⟨ret_bool (by rw [HF.out, HG.out]), rfl⟩
                · have hxe : x.toList.isEmpty = false := by rw [List.isEmpty_eq_false_iff]; exact fun h => hx0 ((toList_nil x).1 h)
                  have hxne : x.data.toList ≠ [] := fun h => hx0 (by rw [← toList_len x, h]; rfl)
                  have hfp := firstL_pos hxne
                  rw [toList_len] at hfp
                  have HFP := hid hfp
                  have HSTEP : Hid (RR = if Orch.isTy k (Orch.firstL x.data.toList) = true then Orch.rowL (Orch.isTy k) (s.size - (j + 1)) (x.data.toList.drop (Orch.firstL x.data.toList).length) (j + 1) else none) := by
                    show _ = _
                    rw [HJ.out]
                    obtain ⟨f, hf⟩ : ∃ f, s.size - j = f + 1 := ⟨s.size - j - 1, by omega⟩
                    rw [hf, show s.size - (j + 1) = f by omega]
                    cases hxl : x.data.toList with
                    | nil => exact absurd hxl hxne
                    | cons c r => rfl
                  clear HJ hfp hxne
                  have HFA := hid (first_any x w hx63 (by omega))
                  go_wp2_with (go_at_call 175; refine HFA.out.mono ?_; rintro e w1 ⟨⟨t, ht, rfl⟩, hw1⟩; have HTL := hid ht; have hw2 := hw1.symm; clear hw1 ht; subst hw2)
                  have hts : t.size = (Orch.firstL x.data.toList).length := by rw [← toList_len t, HTL.out]
                  have hfp := HFP.out
                  have hIT := HIH.out t w (by omega)
                  rw [HTL.out] at hIT
                  have HIT := hid hIT
                  have hdrop : (x.extract t.size x.size).data.toList = x.data.toList.drop (Orch.firstL x.data.toList).length := by
                    rw [ByteArray.data_extract, Array.toList_extract, List.extract_eq_take_drop, hts, List.take_of_length_le (by rw [List.length_drop, toList_len]; omega)]
                  have HDR := hid hdrop
                  have htx : (t.size : Int) ≤ (x.size : Int) := by omega
                  have ht1 : 1 ≤ t.size := by omega
                  clear hIT hdrop hfp HFP HTL HFA hts
                  have HXS : Hid ((x.extract t.size x.size).size = x.size - t.size) := by show _ = _; rw [ByteArray.size_extract]; omega
                  cases hb : Orch.isTy k (Orch.firstL x.data.toList) with
                  | false =>
                    rw [hb] at HIT
                    have HF : Hid (Orch.isTy (k + 1) s.data.toList = false) := by
                      show _ = _
                      rw [HE.out, HSTEP.out, hb]
                      rfl
                    clear HSTEP HDR HXS
                    refine HIT.out.mono ?_
                    rintro e w1 ⟨rfl, hw1⟩
                    have hw2 := hw1.symm
                    clear hw1
                    subst hw2
                    go_wp2_with fail
                    go_ret
                    exact ⟨ret_bool HF.out.symm, rfl⟩
                  | true =>
                    rw [hb] at HIT
                    have HN : Hid (RR = Orch.rowL (Orch.isTy k) (s.size - (j + 1)) (x.extract t.size x.size).data.toList (j + 1)) := by
                      show _ = _
                      rw [HSTEP.out, hb, if_pos rfl, HDR.out]
                    clear HSTEP HDR
                    refine HIT.out.mono ?_
                    rintro e w1 ⟨rfl, hw1⟩
                    have hw2 := hw1.symm
                    clear hw1
                    subst hw2
                    have hle : ¬ (t.size : Int) < 0 := by omega
                    go_wp2_with fail
                    go_round
                    case rel => exact ⟨_, j + 1, rfl, by go_num, by have := HXS.out; omega, HN⟩
                    case measure => have := HXS.out; simp only [this]; omega
          · rw [if_neg (fun h => hmt h.2)] at HT
            have HTT := hid HT
            clear HT hcl hcz HIH
            have hm2 : Orch.mates s[0] s[m] = false := by simpa using hmt
            rw [hmate] at hm2
            clear hmate hmt
            have three : (((s[0].toNat : Int) = 91) ∧ ((s[m].toNat : Int) == 93) = false) ∨ (((s[0].toNat : Int) == 91) = false ∧ ((s[0].toNat : Int) == 40) = false) ∨ ((s[0].toNat : Int) = 40 ∧ ((s[m].toNat : Int) == 41) = false) := by
              by_cases a : (s[0].toNat : Int) = 91
              · refine .inl ⟨a, ?_⟩
                rw [a] at hm2
                simpa using hm2
              · have a' : ((s[0].toNat : Int) == 91) = false := by rw [beq_eq_false_iff_ne]; exact a
                by_cases b : (s[0].toNat : Int) = 40
                · refine .inr (.inr ⟨b, ?_⟩)
                  rw [b] at hm2
                  simpa using hm2
                · exact .inr (.inl ⟨a', by rw [beq_eq_false_iff_ne]; exact b⟩)
            clear hm2
            have HC2 := HCL
            clear HCL
            rcases three with ⟨b1, b2⟩ | ⟨b1, b2⟩ | ⟨b1, b2⟩
            all_goals
              go_enter Tryz.func178, Tryz.ntmps178
              go_wp2_with (go_at_call 240; refine HC2.out.mono ?_; rintro e w1 ⟨rfl, hw1⟩; have hw2 := hw1.symm; clear hw1; subst hw2)
              all_goals go_ret
              all_goals exact ⟨ret_bool HTT.out.symm, rfl⟩
        · rw [if_neg (fun h => hcl h.1)] at HT
          have HTT := hid HT
          have hcz : ¬ closesZ s.data.toList = (m : Int) := fun h => by
            unfold closesZ resZ at h
            split at h
            · omega
            · rename_i i hi
              exact hcl (by rw [hi]; congr 1; omega)
          have hcb : (closesZ s.data.toList == (m : Int)) = false := by rw [beq_eq_false_iff_ne]; exact hcz
          clear HT hcl HIH hmate
          generalize closesZ s.data.toList = cz at *
          go_enter Tryz.func178, Tryz.ntmps178
          go_wp2_with (go_at_call 240; refine HCL.out.mono ?_; rintro e w1 ⟨rfl, hw1⟩; have hw2 := hw1.symm; clear hw1; subst hw2)
          go_ret
          exact ⟨ret_bool HTT.out.symm, rfl⟩

/-- Whether a text is a schema, as the parser says. -/
def isSch (l : List UInt8) : Bool := (Orch.parse l).isSome

theorem isSch_eq (l : List UInt8) : (Orch.isTy 9 l && decide (l.length ≤ 64)) = isSch l := by
  unfold isSch
  rw [Bool.eq_iff_iff, Bool.and_eq_true, decide_eq_true_iff]
  exact Orch.schema_iff l

set_option maxRecDepth 8000 in
set_option maxHeartbeats 1000000 in
theorem isSchema_any (s : ByteArray) (w : World) (hs : s.size ≤ 140737488355328) :
    Calls Tryz.prog 131 #[.string s] w fun e w' => e = .returned (.bool (isSch s.data.toList)) ∧ w' = w := by
  have HI := hid (isType_any 9 (Nat.le_refl _) s w hs)
  have HE := hid (isSch_eq s.data.toList)
  rw [toList_len] at HE
  cases hb : Orch.isTy 9 s.data.toList with
  | false =>
    rw [hb] at HI HE
    go_enter Tryz.func131, Tryz.ntmps131
    go_wp2_with (go_at_call 178; refine HI.out.mono ?_; rintro e w1 ⟨rfl, hw1⟩; have hw2 := hw1.symm; clear hw1; subst hw2)
    go_ret
    exact ⟨ret_bool (by rw [← HE.out]; rfl), rfl⟩
  | true =>
    rw [hb, Bool.true_and] at HE
    rw [hb] at HI
    by_cases h64 : s.size ≤ 64
    · have hz : (s.size : Int) ≤ 64 := by omega
      go_enter Tryz.func131, Tryz.ntmps131
      go_wp2_with (go_at_call 178; refine HI.out.mono ?_; rintro e w1 ⟨rfl, hw1⟩; have hw2 := hw1.symm; clear hw1; subst hw2)
      all_goals go_ret
      all_goals exact ⟨ret_bool (by have hq := HE.out; rw [decide_eq_true h64] at hq; first | exact hq | (rw [← hq]; exact decide_eq_true (by omega))), rfl⟩
    · have hz : ¬ (s.size : Int) ≤ 64 := by omega
      go_enter Tryz.func131, Tryz.ntmps131
      go_wp2_with (go_at_call 178; refine HI.out.mono ?_; rintro e w1 ⟨rfl, hw1⟩; have hw2 := hw1.symm; clear hw1; subst hw2)
      all_goals go_ret
      all_goals exact ⟨ret_bool (by have hq := HE.out; rw [decide_eq_false h64] at hq; first | exact hq | (rw [← hq]; exact decide_eq_false (by omega))), rfl⟩
end Go.Proofs.YtlghcldiboecoaaGreatDoor
