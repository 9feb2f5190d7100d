/- The document's answer: Encode, whole. -/
import Derived.Test.YtlghcldiboecoaaGreatDoorRAll
set_option linter.unusedVariables false
namespace Go.Proofs.YtlghcldiboecoaaGreatDoor
open Go.RowKit

set_option maxRecDepth 8000 in
set_option maxHeartbeats 2000000 in
theorem re_schema (w : World) (str : ByteArray) (vn : Int) (vs : ByteArray) (la : Option Addr) (ln lc : Nat)
    (HI : Hid (∀ W, Calls Tryz.prog 131 #[.string str] W fun e w' => e = .returned (.bool false) ∧ w' = W)) :
    Calls Tryz.prog 83 #[.string str, vv vn vs (.slice la ln lc)] w fun e w' => eRes w w' e (.error 1) ∧ Below w.heap.size w w' := by
  go_enter Tryz.func83, Tryz.ntmps83
  go_wp2_with (go_at_call 131; refine (HI.out _).mono ?_; rintro e w1 ⟨rfl, hw1⟩; have hw2 := hw1.symm; clear hw1; subst hw2)
  all_goals go_ret2
  all_goals exact ⟨rfl, by first | exact below1 _ _ | exact Below.refl _ _⟩

/-- What Encode answers of what is laid. -/
def encOf : Option (List UInt8) → Except Nat (List UInt8)
  | none => .error 2
  | some b => if b.length ≤ 1000 then .ok b else .error 2

set_option maxRecDepth 8000 in
set_option maxHeartbeats 2000000 in
theorem re_laid (w : World) (str : ByteArray) (vn : Int) (vs : ByteArray) (la : Option Addr) (ln lc : Nat) (o : Option (List UInt8))
    (HI : Hid (∀ W, Calls Tryz.prog 131 #[.string str] W fun e w' => e = .returned (.bool true) ∧ w' = W))
    (HL : Hid (∀ W, Below w.heap.size w W → Calls Tryz.prog 128 #[.string str, vv vn vs (.slice la ln lc)] W fun e w' => ldRes W.heap.size w' 9208 e o ∧ Below W.heap.size W w')) :
    Calls Tryz.prog 83 #[.string str, vv vn vs (.slice la ln lc)] w fun e w' => eRes w w' e (encOf o) ∧ Below w.heap.size w w' := by
  cases o with
  | none =>
    go_enter Tryz.func83, Tryz.ntmps83
    go_wp2_with (first
      | (go_at_call 131; refine (HI.out _).mono ?_; rintro e w1 ⟨rfl, hw1⟩; have hw2 := hw1.symm; clear hw1; subst hw2)
      | (go_at_call 128; refine (HL.out _ (by first | exact Below.refl _ _ | exact below1 _ _)).mono ?_; rintro e w1 ⟨⟨ov, ok, rfl, hok⟩, hb⟩; have hok' : ok = false := hok; subst hok'; clear hok; have HB2 := hid hb; clear hb))
    all_goals go_ret2
    all_goals exact ⟨rfl, by first | exact HB2.out | exact (below1 _ _).trans (HB2.out.mono (by simp))⟩
  | some b =>
    by_cases hbl : b.length ≤ 1000
    · have hb1 : ¬ ((b.length : Int) > 1000) := by omega
      have hb2 : decide ((b.length : Int) > 1000) = false := decide_eq_false hb1
      have HE : Hid (encOf (some b) = .ok b) := by show (if b.length ≤ 1000 then _ else _) = _; rw [if_pos hbl]
      rw [HE.out]
      go_enter Tryz.func83, Tryz.ntmps83
      go_wp2_with (first
        | (go_at_call 131; refine (HI.out _).mono ?_; rintro e w1 ⟨rfl, hw1⟩; have hw2 := hw1.symm; clear hw1; subst hw2)
        | (go_at_call 128; refine (HL.out _ (by first | exact Below.refl _ _ | exact below1 _ _)).mono ?_; rintro e w1 ⟨⟨ov, ok, rfl, hok, hcl, hco⟩, hb⟩; subst hok; obtain ⟨oa, oc, rfl⟩ := own_shape hco; have HB2 := hid hb; have HO := hid hco; clear hb hco))
      all_goals go_ret2
      all_goals exact ⟨⟨_, rfl, by first | exact HO.out | exact own_mono HO.out (by simp)⟩, by first | exact HB2.out | exact (below1 _ _).trans (HB2.out.mono (by simp))⟩
    · have hb1 : (b.length : Int) > 1000 := by omega
      have hb2 : decide ((b.length : Int) > 1000) = true := decide_eq_true hb1
      have HE : Hid (encOf (some b) = .error 2) := by show (if b.length ≤ 1000 then _ else _) = _; rw [if_neg hbl]
      rw [HE.out]
      go_enter Tryz.func83, Tryz.ntmps83
      go_wp2_with (first
        | (go_at_call 131; refine (HI.out _).mono ?_; rintro e w1 ⟨rfl, hw1⟩; have hw2 := hw1.symm; clear hw1; subst hw2)
        | (go_at_call 128; refine (HL.out _ (by first | exact Below.refl _ _ | exact below1 _ _)).mono ?_; rintro e w1 ⟨⟨ov, ok, rfl, hok, hcl, hco⟩, hb⟩; subst hok; obtain ⟨oa, oc, rfl⟩ := own_shape hco; have HB2 := hid hb; clear hb hco))
      all_goals go_ret2
      all_goals exact ⟨rfl, by first | exact HB2.out | exact (below1 _ _).trans (HB2.out.mono (by simp))⟩

/-- The document's Encode is the program's. -/
theorem refEncode_any (w : World) (str : ByteArray) (hs : str.size ≤ 140737488355328) (v : Orch.V) (hin : InV v) (lv : Value) (hvs : WsAt w (fun b => b < w.heap.size) v.l lv) :
    Calls Tryz.prog 83 #[.string str, vval v lv] w fun e w' => eRes w w' e (Orch.encode validB str.data.toList v) ∧ Below w.heap.size w w' := by
  obtain ⟨la, lc, rfl⟩ := hvs.shape
  have HI := fun W => isSchema_any str W hs
  unfold Orch.encode
  cases hq : Orch.parse str.data.toList with
  | none =>
    have hf : isSch str.data.toList = false := by unfold isSch; rw [hq]; rfl
    rw [hf] at HI
    exact re_schema w str _ _ la _ lc HI
  | some t =>
    have hf : isSch str.data.toList = true := by unfold isSch; rw [hq]; rfl
    rw [hf] at HI
    have hp : Orch.ptype 9 str.data.toList = some (t, []) ∧ str.size ≤ 64 := by
      unfold Orch.parse at hq
      split at hq
      · cases hq
      · rename_i h64
        split at hq
        · rename_i t' ht
          cases hq
          rw [toList_len] at h64
          exact ⟨ht, by omega⟩
        · cases hq
    have HL : ∀ W, Below w.heap.size w W → Calls Tryz.prog 128 #[.string str, vval v (.slice la v.l.length lc)] W fun e w' => ldRes W.heap.size w' 9208 e (Orch.laidT validB 9 t v) ∧ Below W.heap.size W w' := fun W hb =>
      ld_all 9 (by omega) W str t hp.2 hp.1 v hin _ (hvs.congr (fun b hb' => Nat.lt_of_lt_of_le hb' hb.size) (fun b hb' => hb.block b hb'))
    refine (re_laid w str _ _ la _ lc _ HI HL).mono fun e w' h => ⟨?_, h.2⟩
    have h1 := h.1
    have he : (match Orch.put validB 9 [] t v with | none => Except.error 2 | some b => Except.ok b) = encOf (Orch.laidT validB 9 t v) := by
      rw [Orch.encode_laid]
      cases hl : Orch.laidT validB 9 t v with
      | none => rfl
      | some b =>
        simp only [encOf]
        by_cases hb : b.length ≤ 1000
        · rw [if_pos hb, if_pos hb]
        · rw [if_neg hb, if_neg hb]
    rw [← he] at h1
    exact h1
end Go.Proofs.YtlghcldiboecoaaGreatDoor
