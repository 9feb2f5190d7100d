/- Disks: the program's Sync, Remove. -/
import Derived.Test.YtlghcldiboecoaaGreatDoorQ04
import Derived.Deep.RegionHeld3
set_option linter.unusedVariables false
set_option linter.unusedSimpArgs false
namespace Go.Proofs.YtlghcldiboecoaaGreatDoor
open Go.RowKit

theorem own_safe {w : World} {base g i : Nat} {t : TypeId} {L : List Fl} {f : Fl} {c : Nat} (h : w.ownsRow base t 3 (.slice (some ⟨g, 0, none⟩) L.length c) L.length (fcells L)) (hf : L[i]? = some f) (s : Nat) :
    (w.setCell ⟨g, i * 3 + 2, none⟩ (.int .i64 s)).ownsRow base t 3 (.slice (some ⟨g, 0, none⟩) L.length c) L.length (fcells (L.set i { f with s := s })) ∧ w.grownBy (w.setCell ⟨g, i * 3 + 2, none⟩ (.int .i64 s)) (some g) := by
  have := h.stored (i * 3 + 2) (.int .i64 s)
  refine ⟨?_, this.2⟩
  have e : (fcells L).set (i * 3 + 2) (.int .i64 s) = fcells (L.set i { f with s := s }) := by
    rw [fcells_set hf]
    obtain ⟨h0, h1, h2⟩ := fcells_get hf
    refine List.ext_getElem? fun j => ?_
    by_cases j2 : j = i * 3 + 2
    · subst j2
      have hl := (List.getElem?_eq_some_iff.1 h2).1
      rw [List.getElem?_set_self hl, List.getElem?_set_self (by simpa using hl)]
    · rw [List.getElem?_set_ne (by omega), List.getElem?_set_ne (by omega)]
      by_cases j1 : j = i * 3 + 1
      · subst j1
        have hl := (List.getElem?_eq_some_iff.1 h1).1
        rw [List.getElem?_set_self (by simpa using hl), h1]
      · rw [List.getElem?_set_ne (by omega)]
        by_cases j0 : j = i * 3
        · subst j0
          rw [List.getElem?_set_self (List.getElem?_eq_some_iff.1 h0).1, h0]
        · rw [List.getElem?_set_ne (by omega)]
  rw [← e]
  exact this.1

theorem St.safe {bt rt : TypeId} {w : World} {K : Nat} {lf : Int} {L : List Fl} {g fc i : Nat} {f : Fl} (h : St bt rt w K lf L (some ⟨g, 0, none⟩) fc) (ht : rt ≠ bt) (hf : L[i]? = some f) (s : Nat) :
    St bt rt (w.setCell ⟨g, i * 3 + 2, none⟩ (.int .i64 s)) K lf (L.set i { f with s := s }) (some ⟨g, 0, none⟩) fc ∧ w.grownBy (w.setCell ⟨g, i * 3 + 2, none⟩ (.int .i64 s)) (some g) := by
  obtain ⟨h1, h2⟩ := own_safe h.row hf s
  have hgK : K ≠ g := fun e => by
    obtain ⟨c1, t1⟩ := own_type h.row rfl
    rw [← e, h.blk] at t1
    cases t1
    exact ht rfl
  refine ⟨⟨?_, ?_⟩, h2⟩
  · rw [List.length_set]
    exact (heap_setCell_other _ _ _ _ hgK).trans h.blk
  · rw [List.length_set]
    exact h1

theorem St.drew {bt rt : TypeId} {w : World} {K : Nat} {lf : Int} {L : List Fl} {fa : Option Addr} {fc : Nat} (h : St bt rt w K lf L fa fc) : St bt rt w.drew K lf L fa fc := ⟨h.blk, h.row.drew⟩

/-- How the program makes a file's bytes safe. -/
def syncP (L : List Fl) (n : ByteArray) (L' : List Fl) : Prop :=
  ((∀ f, f ∈ L → f.n ≠ n) ∧ L' = L) ∨ ∃ i f, L[i]? = some f ∧ f.n = n ∧ L' = L.set i { f with s := f.d.size }

set_option maxRecDepth 8000 in
set_option maxHeartbeats 4000000 in
theorem psync_any (w : World) (DB SB : Nat) (left : Int) (L : List Fl) (fa : Option Addr) (fc : Nat) (n : ByteArray) (hD : w.heap[DB]? = some (.cells #[.pointer (some ⟨SB, 0, none⟩)] 84)) (h : St 82 91 w SB left L fa fc) (hl0 : -1 ≤ left) (hl1 : left ≤ 9223372036854775807) (hL : L.length ≤ 10000000) :
    Calls Tryz.prog 30 #[.pointer (some ⟨DB, 0, none⟩), .string n] w fun e w' => e = .returned (.bool (decide (left ≠ 0))) ∧ ∃ L', Dgo 82 91 w w' SB (dec left) fa L' ∧ ((left = 0 ∧ L' = L) ∨ (left ≠ 0 ∧ syncP L n L')) := by
  have hDS : DB ≠ SB := fun e => by have := h.blk; rw [← e, hD] at this; simp at this
  have h60 := dstep_any w SB _ left h.blk hl0 hl1
  have c0 := cellOf (j := 0) hD rfl
  have HST := hid h
  have HDB := hid hD
  clear h hD
  by_cases hl : left = 0
  · have hdl : decide (left ≠ 0) = false := by simp [hl]
    rw [hdl] at h60 ⊢
    have H60 := hid h60
    clear h60
    go_enter Tryz.func30, Tryz.ntmps30
    go_wp2_with (go_at_call 60; refine H60.out.mono ?_; rintro e w1 ⟨rfl, hb1, hg1⟩; have HS1 := hid (HST.out.lefts hb1 hg1 (by decide)); have HG1 := hid hg1; clear hb1 hg1)
    all_goals go_ret
    all_goals exact ⟨rfl, L, .same HS1.out (Go3.grown HG1.out), .inl ⟨hl, rfl⟩⟩
  · have hdl : decide (left ≠ 0) = true := by simp [hl]
    rw [hdl] at h60 ⊢
    have H60 := hid h60
    have HL0 := hid hl
    clear h60 hl hdl
    go_enter Tryz.func30, Tryz.ntmps30
    go_wp2_with (go_at_call 60; refine H60.out.mono ?_; rintro e w1 ⟨rfl, hb1, hg1⟩; have HS1 := hid (HST.out.lefts hb1 hg1 (by decide)); have HG1 := hid hg1; have HD1 := hid ((hg1.block DB (ltOf HDB.out) (fun e => hDS (by cases e; rfl))).trans HDB.out); have c1 := cellOf (j := 0) HD1.out rfl; have H61 := hid (find_any w1 SB fa fc (dec left) L n HS1.out.blk HS1.out.row (by omega)); clear hb1 hg1)
    refine H61.out.mono ?_
    rintro e w2 ⟨hw2, hz⟩
    subst hw2
    have s0 := cellOf (j := 0) HS1.out.blk rfl
    rcases hz with ⟨rfl, hno⟩ | ⟨i, f, rfl, hf, hfn⟩
    · have HNO := hid hno
      clear hno
      go_wp2
      all_goals go_ret
      all_goals exact ⟨rfl, L, .same HS1.out (Go3.grown HG1.out), .inr ⟨HL0.out, .inl ⟨HNO.out, rfl⟩⟩⟩
    · have hil := (List.getElem?_eq_some_iff.1 hf).1
      have hilz : (i : Int) < (L.length : Int) := by omega
      have hi0 : (i : Int) ≥ 0 := by omega
      obtain ⟨g, hfa, hfc, hgw, _⟩ := row_at HS1.out.row (by omega)
      subst hfa
      obtain ⟨q0, q1, q2⟩ := cells3_of HS1.out.row hf
      have z1 := HS1.out.row.frozenAt (i * 3 + 2)
      have HDA := hid (HS1.out.drew.safe (by decide) hf f.d.size)
      have HF := hid hf
      have HFN := hid hfn
      clear hf hfn q0
      go_wp2
      go_region_law (fail)
      all_goals go_wp2
      all_goals go_ret
      all_goals exact ⟨rfl, _, ⟨some ⟨g, 0, none⟩, fc, HDA.out.1, (Go3.grown HG1.out).trans ⟨HDA.out.2.size, fun j hj hk ho => HDA.out.2.block j hj (fun e => ho (by cases e; rfl)), fun _ h => .inl h⟩⟩, .inr ⟨HL0.out, .inr ⟨i, f, HF.out, HFN.out, rfl⟩⟩⟩

end Go.Proofs.YtlghcldiboecoaaGreatDoor
