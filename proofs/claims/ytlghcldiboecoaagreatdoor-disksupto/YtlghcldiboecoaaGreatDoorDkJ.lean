/- Disks: the program's Remove. -/
import Derived.Test.YtlghcldiboecoaaGreatDoorDkI
import Derived.Deep.RegionWith
set_option linter.unusedVariables false
set_option linter.unusedSimpArgs false
namespace Go.Proofs.YtlghcldiboecoaaGreatDoor
open Go.RowKit

theorem bdrew (w : World) : Below w.heap.size w w.drew := ⟨rfl, rfl, rfl, Nat.le_refl _, fun _ _ => rfl⟩

/-- Behind the files but one: what the store wants, and what it leaves. -/
theorem after_wo {w1 W w2 : World} {SB DB : Nat} {lf : Int} {L M : List Fl} {fa va : Option Addr} {fc vc : Nat} (hW : W = w1 ∨ W = w1.drew) (hS : St 82 91 w1 SB lf L fa fc) (hD : w1.heap[DB]? = some (.cells #[.pointer (some ⟨SB, 0, none⟩)] 84)) (hr : w2.ownsRow W.heap.size 91 3 (.slice va M.length vc) M.length (fcells M)) (hb : Below W.heap.size W w2) :
    w2.cell? ⟨DB, 0, none⟩ = some (.pointer (some ⟨SB, 0, none⟩)) ∧ w2.cell? ⟨SB, 0, none⟩ = some (.slice fa L.length fc) ∧ w2.frozen? ⟨SB, 0, none⟩ = false ∧
    Hid (St 82 91 (w2.setCell ⟨SB, 0, none⟩ (.slice va M.length vc)) SB lf M va vc ∧ (w2.setCell ⟨SB, 0, none⟩ (.slice va M.length vc)).ownsRow w1.heap.size 91 3 (.slice va M.length vc) M.length (fcells M) ∧ w1.grownBy (w2.setCell ⟨SB, 0, none⟩ (.slice va M.length vc)) (some SB)) ∧
    Hid (St 82 91 (w2.drew.setCell ⟨SB, 0, none⟩ (.slice va M.length vc)) SB lf M va vc ∧ (w2.drew.setCell ⟨SB, 0, none⟩ (.slice va M.length vc)).ownsRow w1.heap.size 91 3 (.slice va M.length vc) M.length (fcells M) ∧ w1.grownBy (w2.drew.setCell ⟨SB, 0, none⟩ (.slice va M.length vc)) (some SB)) := by
  have hs : W.heap.size = w1.heap.size := by rcases hW with rfl | rfl <;> rfl
  have hb' : Below w1.heap.size w1 w2 := by
    rcases hW with rfl | rfl
    · exact hb
    · exact (bdrew w1).trans hb
  rw [hs] at hr
  have hk : w2.heap[SB]? = _ := (hb'.block _ (ltOf hS.blk)).trans hS.blk
  have h1 := St.swap hk hr (by decide)
  have h2 := St.swap (w := w2.drew) hk hr.drew (by decide)
  exact ⟨cellOf ((hb'.block _ (ltOf hD)).trans hD) rfl, cellOf hk rfl, frozen_of_row w2 SB 0 _ 82 hk, ⟨h1.1, h1.2, gr_trans (gr_below hb') (gr_set _)⟩, ⟨h2.1, h2.2, gr_trans (gr_below (hb'.trans ((bdrew w2).mono hb'.size))) (gr_set _)⟩⟩

set_option maxRecDepth 8000 in
set_option maxHeartbeats 4000000 in
theorem premove_any (w : World) (DB SB : Nat) (left : Int) (L : List Fl) (fa : Option Addr) (fc : Nat) (n : ByteArray) (hD : w.heap[DB]? = some (.cells #[.pointer (some ⟨SB, 0, none⟩)] 84)) (h : St 82 91 w SB left L fa fc) (hl0 : -1 ≤ left) (hl1 : left ≤ 9223372036854775807) (hL : L.length ≤ 10000000) :
    Calls Tryz.prog 34 #[.pointer (some ⟨DB, 0, none⟩), .string n] w fun e w' => e = .returned (.bool (decide (left ≠ 0))) ∧ Dgo 82 91 w w' SB (dec left) fa (if left = 0 then L else wo L n) := by
  have hDS : DB ≠ SB := fun e => by have := h.blk; rw [← e, hD] at this; simp at this
  have h60 := dstep_any w SB _ left h.blk hl0 hl1
  have c0 := cellOf (j := 0) hD rfl
  have HST := hid h
  have HDB := hid hD
  clear h hD
  by_cases hl : left = 0
  · have hdl : decide (left ≠ 0) = false := by simp [hl]
    rw [hdl] at h60 ⊢
    rw [if_pos hl]
    have H60 := hid h60
    clear h60
    go_enter Tryz.func34, Tryz.ntmps34
    go_wp2_with (go_at_call 60; refine H60.out.mono ?_; rintro e w1 ⟨rfl, hb1, hg1⟩; have HS1 := hid (HST.out.lefts hb1 hg1 (by decide)); have HG1 := hid hg1; clear hb1 hg1)
    all_goals go_ret
    all_goals exact ⟨rfl, .same HS1.out (Go3.grown HG1.out)⟩
  · have hdl : decide (left ≠ 0) = true := by simp [hl]
    rw [hdl] at h60 ⊢
    rw [if_neg hl]
    have H60 := hid h60
    clear h60 hl hdl
    go_enter Tryz.func34, Tryz.ntmps34
    go_wp2_with (go_at_call 60; refine H60.out.mono ?_; rintro e w1 ⟨rfl, hb1, hg1⟩; have HS1 := hid (HST.out.lefts hb1 hg1 (by decide)); have HG1 := hid hg1; have HD1 := hid ((hg1.block DB (ltOf HDB.out) (fun e => hDS (by cases e; rfl))).trans HDB.out); have c1 := cellOf (j := 0) HD1.out rfl; have H64 : Hid (∀ W, W = w1 ∨ W = w1.drew → _) := (fun W hW => without_any W SB fa fc (dec left) L n (by rcases hW with rfl | rfl <;> exact HS1.out.blk) (by rcases hW with rfl | rfl <;> first | exact HS1.out.row | exact HS1.out.row.drew) (by omega)); clear hb1 hg1)
    go_region_with (go_at_call 64; refine (H64.out _ (by first | exact .inl rfl | exact .inr rfl)).mono ?_; rintro e w2 ⟨va, vc, rfl, hr2, hb2⟩; obtain ⟨c2, k2, z2, HSW, HSX⟩ := after_wo (by first | exact .inl rfl | exact .inr rfl) HS1.out HD1.out hr2 hb2; clear hr2 hb2)
    all_goals go_wp2
    all_goals go_ret
    all_goals first | exact ⟨rfl, .new (Go3.grown HG1.out) HSW.out.1.blk HSW.out.2.1 HSW.out.2.2⟩ | exact ⟨rfl, .new (Go3.grown HG1.out) HSX.out.1.blk HSX.out.2.1 HSX.out.2.2⟩

end Go.Proofs.YtlghcldiboecoaaGreatDoor
