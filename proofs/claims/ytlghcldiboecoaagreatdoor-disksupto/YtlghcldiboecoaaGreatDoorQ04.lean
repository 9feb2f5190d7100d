/- Disks: the document's Remove, Stop, Rename. -/
import Derived.Test.YtlghcldiboecoaaGreatDoorQ03
import Derived.Deep.RegionLaw
set_option linter.unusedVariables false
set_option linter.unusedSimpArgs false
namespace Go.Proofs.YtlghcldiboecoaaGreatDoor
open Go.RowKit

/-- The files' row is another. -/
theorem St.swap {bt rt : TypeId} {w : World} {K : Nat} {lf : Int} {L : List Fl} {fa : Option Addr} {fc : Nat} {M : List Fl} {va : Option Addr} {vc base : Nat} (hb : w.heap[K]? = some (.cells #[.slice fa L.length fc, .int .i64 lf] bt)) (hr : w.ownsRow base rt 3 (.slice va M.length vc) M.length (fcells M)) (ht : rt ≠ bt) :
    St bt rt (w.setCell ⟨K, 0, none⟩ (.slice va M.length vc)) K lf M va vc ∧ (w.setCell ⟨K, 0, none⟩ (.slice va M.length vc)).ownsRow base rt 3 (.slice va M.length vc) M.length (fcells M) := by
  have h1 := heap_setCell_same w K 0 _ bt (.slice va M.length vc) hb
  have h2 : (w.setCell ⟨K, 0, none⟩ (.slice va M.length vc)).ownsRow base rt 3 (.slice va M.length vc) M.length (fcells M) := own_setZ hr (fun e => by
    obtain ⟨c1, t1⟩ := own_type hr e
    rw [hb] at t1
    cases t1
    exact ht rfl) _
  exact ⟨⟨h1, h2.1, h2.2.imp id (fun ⟨g, cap, cur, k1, k2, k3⟩ => ⟨g, cap, cur, k1, Nat.zero_le _, k3⟩)⟩, h2⟩

set_option maxRecDepth 8000 in
set_option maxHeartbeats 4000000 in
theorem rremove_any (w : World) (RB : Nat) (left : Int) (L : List Fl) (fa : Option Addr) (fc : Nat) (n : ByteArray) (h : St 89 93 w RB left L fa fc) (hl0 : -1 ≤ left) (hl1 : left ≤ 9223372036854775807) (hL : L.length ≤ 10000000) :
    Calls Tryz.prog 35 #[.pointer (some ⟨RB, 0, none⟩), .string n] w fun e w' => e = .returned (.bool (decide (left ≠ 0))) ∧ Dgo 89 93 w w' RB (dec left) fa (if left = 0 then L else wo L n) := by
  have h62 := rstep_any w RB _ left h.blk hl0 hl1
  have HST := hid h
  clear h
  by_cases hl : left = 0
  · have hdl : decide (left ≠ 0) = false := by simp [hl]
    rw [hdl] at h62 ⊢
    rw [if_pos hl]
    have H62 := hid h62
    clear h62
    go_enter Tryz.func35, Tryz.ntmps35
    go_wp2_with (go_at_call 62; refine H62.out.mono ?_; rintro e w1 ⟨rfl, hb1, hg1⟩; have HS1 := hid (HST.out.lefts hb1 hg1 (by decide)); have HG1 := hid hg1; clear hb1 hg1)
    all_goals go_ret
    all_goals exact ⟨rfl, .same HS1.out (Go3.grown HG1.out)⟩
  · have hdl : decide (left ≠ 0) = true := by simp [hl]
    rw [hdl] at h62 ⊢
    rw [if_neg hl]
    have H62 := hid h62
    clear h62 hl hdl
    go_enter Tryz.func35, Tryz.ntmps35
    go_wp2_with (first
      | (go_at_call 62; refine H62.out.mono ?_; rintro e w1 ⟨rfl, hb1, hg1⟩; have HS1 := hid (HST.out.lefts hb1 hg1 (by decide)); have HG1 := hid hg1; have H65 := hid (rwithout_any w1 RB fa fc (dec left) L n HS1.out.blk HS1.out.row (by omega)); clear hb1 hg1)
      | (go_at_call 65; refine H65.out.mono ?_; rintro e w2 ⟨va, vc, rfl, hr2, hb2⟩
         have HK2 := hid ((hb2.block _ (ltOf HS1.out.blk)).trans HS1.out.blk)
         have k2 := cellOf (j := 0) HK2.out rfl
         have z2 := frozen_of_row w2 RB 0 _ 89 HK2.out
         have HSW := hid (St.swap HK2.out hr2 (by decide))
         have HG2 : Hid (w1.grownBy (w2.setCell ⟨RB, 0, none⟩ (.slice va (wo L n).length vc)) (some RB)) := gr_trans (gr_below hb2) (gr_set _)
         clear hr2 hb2))
    all_goals go_ret
    all_goals exact ⟨rfl, .new (Go3.grown HG1.out) HSW.out.1.blk HSW.out.2 HG2.out⟩

theorem rstop_any (w : World) (RB : Nat) (left n : Int) (fv : Value) (hb : w.heap[RB]? = some (.cells #[fv, .int .i64 left] 89)) :
    Calls Tryz.prog 41 #[.pointer (some ⟨RB, 0, none⟩), .int .i64 n] w fun e w' => e = .returned (.tuple #[]) ∧ w'.heap[RB]? = some (.cells #[fv, .int .i64 (if left = 0 then 0 else if n < 0 then -1 else n)] 89) ∧ w.grownBy w' (some RB) := by
  have c1 := cellOf (j := 1) hb rfl
  have z1 := frozen_of_row w RB 1 _ 89 hb
  have h1 := heap_setCell_same w RB 1 _ 89 (.int .i64 n) hb
  have k2 := cellOf (j := 1) h1 rfl
  have z2 := frozen_of_row _ RB 1 _ 89 h1
  have HB := hid hb
  have H1 := hid h1
  have H2 := hid (heap_setCell_same _ RB 1 _ 89 (.int .i64 (-1)) h1)
  clear hb h1
  by_cases hl : left = 0
  · subst hl
    go_enter Tryz.func41, Tryz.ntmps41
    go_wp2
    exact bodyPost_ret (v := .tuple #[]) (by simp [results, Tryz.results41, go_sem]) rfl ⟨rfl, by simpa using HB.out, gr_below (Below.refl _ _)⟩
  · by_cases hn : n < 0
    · go_enter Tryz.func41, Tryz.ntmps41
      go_wp2
      all_goals go_end0
      all_goals exact ⟨rfl, by have := H2.out; simpa [hl, hn] using this, gr_trans (gr_set _) (gr_set _)⟩
    · go_enter Tryz.func41, Tryz.ntmps41
      go_wp2
      all_goals go_end0
      all_goals exact ⟨rfl, by have := H1.out; simpa [hl, hn] using this, gr_set _⟩

set_option maxRecDepth 8000 in
set_option maxHeartbeats 4000000 in
theorem rrename_any (w : World) (RB : Nat) (left : Int) (L : List Fl) (fa : Option Addr) (fc : Nat) (n m : ByteArray) (h : St 89 93 w RB left L fa fc) (hl0 : -1 ≤ left) (hl1 : left ≤ 9223372036854775807) (hL : L.length ≤ 10000000) :
    Calls Tryz.prog 33 #[.pointer (some ⟨RB, 0, none⟩), .string n, .string m] w fun e w' => e = .returned (.bool (decide (left ≠ 0))) ∧ ∃ L', Dgo 89 93 w w' RB (dec left) fa L' ∧ ((left = 0 ∧ L' = L) ∨ (left ≠ 0 ∧ ∃ o, AtN L n o ∧ ((o = none ∧ L' = L) ∨ ∃ f, o = some f ∧ L' = wo (wo L n) m ++ [⟨m, f.d, f.s⟩]))) := by
  have h62 := rstep_any w RB _ left h.blk hl0 hl1
  have HST := hid h
  clear h
  by_cases hl : left = 0
  · have hdl : decide (left ≠ 0) = false := by simp [hl]
    rw [hdl] at h62 ⊢
    have H62 := hid h62
    clear h62
    go_enter Tryz.func33, Tryz.ntmps33
    go_wp2_with (first
      | (go_at_call 62; refine H62.out.mono ?_; rintro e w1 ⟨rfl, hb1, hg1⟩; have HS1 := hid (HST.out.lefts hb1 hg1 (by decide)); have HG1 := hid hg1; have H39 := hid (rfile_any w1 RB (dec left) L fa fc n HS1.out (by omega)); clear hb1 hg1)
      | (go_at_call 39; refine H39.out.mono ?_; rintro e w2 ⟨o, he, hat, hb2⟩
         obtain ⟨fo, hfo⟩ : ∃ fo, o.getD fl0 = fo := ⟨_, rfl⟩
         rw [hfo] at he
         subst he
         have HB3 := hid (hb2.trans ((below1 w2 (.cells #[.string fo.n, .string fo.d, .int .i64 fo.s] 93)).mono hb2.size))
         clear hat hb2 hfo))
    all_goals go_ret
    all_goals exact ⟨rfl, L, .same (HS1.out.below HB3.out) ((Go3.grown HG1.out).trans (Go3.below HB3.out)), .inl ⟨hl, rfl⟩⟩
  · have hdl : decide (left ≠ 0) = true := by simp [hl]
    rw [hdl] at h62 ⊢
    have H62 := hid h62
    have HL0 := hid hl
    clear h62 hl hdl
    go_enter Tryz.func33, Tryz.ntmps33
    go_wp2_with (first
      | (go_at_call 62; refine H62.out.mono ?_; rintro e w1 ⟨rfl, hb1, hg1⟩; have HS1 := hid (HST.out.lefts hb1 hg1 (by decide)); have HG1 := hid hg1; have H39 := hid (rfile_any w1 RB (dec left) L fa fc n HS1.out (by omega)); clear hb1 hg1))
    refine H39.out.mono ?_
    rintro e w2 ⟨o, he, hat, hb2⟩
    cases o with
    | none =>
      subst he
      have HAT := hid hat
      have HB3 := hid (hb2.trans ((below1 w2 (.cells #[.string ⟨#[]⟩, .string ⟨#[]⟩, .int .i64 0] 93)).mono hb2.size))
      clear hat hb2
      simp only [Option.getD_none, Option.isSome_none, fl0]
      go_wp2
      all_goals go_ret
      all_goals exact ⟨rfl, L, .same (HS1.out.below HB3.out) ((Go3.grown HG1.out).trans (Go3.below HB3.out)), .inr ⟨HL0.out, none, HAT.out, .inl ⟨rfl, rfl⟩⟩⟩
    | some fo =>
      subst he
      have HAT := hid hat
      have HB3 := hid (hb2.trans ((below1 w2 (.cells #[.string fo.n, .string fo.d, .int .i64 fo.s] 93)).mono hb2.size))
      have HN3 := hid (heap_alloc_new w2 (.cells #[.string fo.n, .string fo.d, .int .i64 fo.s] 93))
      have HS3 := hid (HS1.out.below HB3.out)
      have H65 := hid (rwithout_any (w2.alloc (.cells #[.string fo.n, .string fo.d, .int .i64 fo.s] 93)) RB fa fc (dec left) L n HS3.out.blk HS3.out.row (by omega))
      have HWL : Hid ((wo L n).length ≤ L.length) := List.length_filter_le _ _
      have HFBs : Hid (w1.heap.size ≤ w2.heap.size) := hb2.size
      have hRB : RB ≠ w2.heap.size := by have := ltOf HS1.out.blk; have := hb2.size; omega
      clear hat hb2
      simp only [Option.getD_some, Option.isSome_some]
      generalize hW3 : w2.alloc (.cells #[.string fo.n, .string fo.d, .int .i64 fo.s] 93) = W3 at *
      generalize hFB : w2.heap.size = FB at *
      go_wp2_with fail
      refine H65.out.mono ?_
      rintro e w4 ⟨va, vc, rfl, hr4, hb4⟩
      have HK4 := hid ((hb4.block _ (ltOf HS3.out.blk)).trans HS3.out.blk)
      have k4 := cellOf (j := 0) HK4.out rfl
      have z4 := frozen_of_row w4 RB 0 _ 89 HK4.out
      have HSW := hid (St.swap HK4.out hr4 (by decide))
      have HN4 : Hid ((w4.setCell ⟨RB, 0, none⟩ (.slice va (wo L n).length vc)).heap[FB]? = some (.cells #[.string fo.n, .string fo.d, .int .i64 fo.s] 93)) := (heap_setCell_other _ _ _ _ (fun e => hRB e.symm)).trans ((hb4.block _ (ltOf HN3.out)).trans HN3.out)
      have HG4 : Hid (W3.grownBy (w4.setCell ⟨RB, 0, none⟩ (.slice va (wo L n).length vc)) (some RB)) := gr_trans (gr_below hb4) (gr_set _)
      have HWS : Hid (W3.heap.size ≤ w4.heap.size) := hb4.size
      clear hr4 hb4
      generalize hW5 : w4.setCell ⟨RB, 0, none⟩ (.slice va (wo L n).length vc) = W5 at *
      have k5 := cellOf (j := 0) HN4.out rfl
      have z5 := frozen_of_row _ FB 0 _ 93 HN4.out
      have HN6 := hid (heap_setCell_same W5 FB 0 _ 93 (.string m) HN4.out)
      have HFW : Hid (FB < W3.heap.size) := ltOf HN3.out
      have HOF : Hid ((Value.slice va (wo L n).length vc).ownBlock ≠ some FB) := fun e => by
        have := (HSW.out.2.lt FB e).1
        have := HFW.out
        omega
      have HS6 : Hid (St 89 93 (W5.setCell ⟨FB, 0, none⟩ (.string m)) RB (dec left) (wo L n) va vc) := ⟨(heap_setCell_other _ _ _ _ hRB).trans HSW.out.1.blk, own_setZ HSW.out.1.row HOF.out _⟩
      have H63 := hid (rput_any (W5.setCell ⟨FB, 0, none⟩ (.string m)) RB va vc (dec left) (wo L n) ⟨m, fo.d, fo.s⟩ HS6.out.blk HS6.out.row (by have := HWL.out; omega))
      have m0 := cellOf (j := 0) HN6.out rfl
      have m1 := cellOf (j := 1) HN6.out rfl
      have m2 := cellOf (j := 2) HN6.out rfl
      go_wp2_with (go_at_call 63; refine H63.out.mono ?_; rintro e w7 ⟨rfl, va', vc', hb7, hr7, hg7⟩; have HR7 := hid hr7; have HB7 := hid hb7; have HG7 := hid hg7; clear hb7 hr7 hg7)
      have HGO : Hid (Go3 w (W5.setCell ⟨FB, 0, none⟩ (.string m)) RB (ownA fa) (ownA fa)) := by
        have h1 := ((Go3.grown HG1.out (o := ownA fa)).trans (Go3.below HB3.out)).trans (Go3.grown HG4.out)
        refine ⟨by have := h1.size; simpa using this, fun i hi hk ho => (heap_setCell_other _ _ _ _ (fun e => ?_)).trans (h1.same i hi hk ho), fun _ h => .inl h⟩
        have e' : i = FB := e
        have := HFBs.out
        have := HG1.out.size
        omega
      all_goals go_ret
      all_goals exact ⟨rfl, wo (wo L n) m ++ [⟨m, fo.d, fo.s⟩], .new HGO.out HB7.out HR7.out HG7.out, .inr ⟨HL0.out, some fo, HAT.out, .inr ⟨fo, rfl, rfl⟩⟩⟩

end Go.Proofs.YtlghcldiboecoaaGreatDoor

/- Disks: the program's Append. -/
namespace Go.Proofs.YtlghcldiboecoaaGreatDoor
open Go.RowKit

/-- One cell of a row of files is written. -/
theorem own_data {w : World} {base g i : Nat} {t : TypeId} {L : List Fl} {f : Fl} {c : Nat} (h : w.ownsRow base t 3 (.slice (some ⟨g, 0, none⟩) L.length c) L.length (fcells L)) (hf : L[i]? = some f) (d : ByteArray) :
    (w.setCell ⟨g, i * 3 + 1, none⟩ (.string d)).ownsRow base t 3 (.slice (some ⟨g, 0, none⟩) L.length c) L.length (fcells (L.set i { f with d := d })) ∧ w.grownBy (w.setCell ⟨g, i * 3 + 1, none⟩ (.string d)) (some g) := by
  have := h.stored (i * 3 + 1) (.string d)
  refine ⟨?_, this.2⟩
  have e : (fcells L).set (i * 3 + 1) (.string d) = fcells (L.set i { f with d := d }) := by
    rw [fcells_set hf]
    obtain ⟨h0, h1, h2⟩ := fcells_get hf
    refine List.ext_getElem? fun j => ?_
    by_cases j0 : j = i * 3
    · subst j0
      rw [List.getElem?_set_ne (by omega), List.getElem?_set_ne (by omega), List.getElem?_set_ne (by omega), List.getElem?_set_self (List.getElem?_eq_some_iff.1 h0).1, h0]
    · by_cases j2 : j = i * 3 + 2
      · subst j2
        have hl := (List.getElem?_eq_some_iff.1 h2).1
        rw [List.getElem?_set_ne (by omega), List.getElem?_set_self (by simpa using hl), h2]
      · rw [List.getElem?_set_ne (a := Value.int .i64 f.s) (by omega : i * 3 + 2 ≠ j)]
        by_cases j1 : j = i * 3 + 1
        · subst j1
          have hl := (List.getElem?_eq_some_iff.1 h1).1
          rw [List.getElem?_set_self hl, List.getElem?_set_self (by simpa using hl)]
        · rw [List.getElem?_set_ne (by omega), List.getElem?_set_ne (by omega), List.getElem?_set_ne (by omega)]
  rw [← e]
  exact this.1

/-- How the program lays bytes behind a file's. -/
def appP (L : List Fl) (n d : ByteArray) (L' : List Fl) : Prop :=
  ((∀ f, f ∈ L → f.n ≠ n) ∧ L' = L ++ [⟨n, (⟨#[]⟩ : ByteArray) ++ d, 0⟩]) ∨ ∃ i f, L[i]? = some f ∧ f.n = n ∧ L' = L.set i { f with d := f.d ++ d }

/-- A file's bytes are written. -/
theorem St.data {bt rt : TypeId} {w : World} {K : Nat} {lf : Int} {L : List Fl} {g fc i : Nat} {f : Fl} (h : St bt rt w K lf L (some ⟨g, 0, none⟩) fc) (ht : rt ≠ bt) (hf : L[i]? = some f) (d : ByteArray) :
    St bt rt (w.setCell ⟨g, i * 3 + 1, none⟩ (.string d)) K lf (L.set i { f with d := d }) (some ⟨g, 0, none⟩) fc ∧ w.grownBy (w.setCell ⟨g, i * 3 + 1, none⟩ (.string d)) (some g) := by
  obtain ⟨h1, h2⟩ := own_data h.row hf d
  have hgK : K ≠ g := fun e => by
    obtain ⟨c1, t1⟩ := own_type h.row rfl
    rw [← e, h.blk] at t1
    cases t1
    exact ht rfl
  refine ⟨⟨?_, ?_⟩, h2⟩
  · rw [List.length_set]
    exact (heap_setCell_other _ _ _ _ hgK).trans h.blk
  · rw [List.length_set]
    exact h1

/-- Behind an append of one file. -/
theorem after_app {w2 w3 w5 : World} {SB DB g cap : Nat} {lf : Int} {L : List Fl} {fa : Option Addr} {fc : Nat} {n d : ByteArray} (hS : St 82 91 w2 SB lf L fa fc) (hb3 : Below w2.heap.size w2 w3) (hD5 : w5.heap[DB]? = some (.cells #[.pointer (some ⟨SB, 0, none⟩)] 84)) (hK5 : w5.heap[SB]? = some (.cells #[.slice fa L.length fc, .int .i64 lf] 82))
    (hown : w5.ownsRow 0 91 3 (.slice (some ⟨g, 0, none⟩) (L.length + 1) cap) (L.length + 1) (fcells L ++ [.string n, .string ⟨#[]⟩, .int .i64 0])) (hgrow : w3.drew.grownBy w5 (Value.slice fa L.length fc).ownBlock) (hat : (Value.slice fa L.length fc).ownBlock = some g ∨ g = w3.drew.heap.size) :
    ∃ W6, w5.setCell ⟨SB, 0, none⟩ (.slice (some ⟨g, 0, none⟩) (L.length + 1) cap) = W6 ∧ W6.cell? ⟨DB, 0, none⟩ = some (.pointer (some ⟨SB, 0, none⟩)) ∧ W6.cell? ⟨SB, 0, none⟩ = some (.slice (some ⟨g, 0, none⟩) (L.length + 1) cap) ∧ W6.cell? ⟨g, L.length * 3 + 1, none⟩ = some (.string ⟨#[]⟩) ∧ W6.frozen? ⟨g, L.length * 3 + 1, none⟩ = false ∧ L.length + 1 ≤ cap ∧
      Hid (Dgo 82 91 w2 (W6.setCell ⟨g, L.length * 3 + 1, none⟩ (.string (⟨#[]⟩ ++ d))) SB lf fa (L ++ [⟨n, (⟨#[]⟩ : ByteArray) ++ d, 0⟩])) := by
  have hl : (L ++ [(⟨n, ⟨#[]⟩, 0⟩ : Fl)]).length = L.length + 1 := by simp
  have hg5 : ∃ cs, w5.heap[g]? = some (.cells cs 91) := own_type hown rfl
  have hgS : g ≠ SB := fun e => by obtain ⟨c, t⟩ := hg5; rw [e, hK5] at t; cases t
  have hDS : DB ≠ SB := fun e => by rw [e, hK5] at hD5; simp at hD5
  have hrow6 : (w5.setCell ⟨SB, 0, none⟩ (.slice (some ⟨g, 0, none⟩) (L.length + 1) cap)).ownsRow 0 91 3 (.slice (some ⟨g, 0, none⟩) (L.length + 1) cap) (L.length + 1) (fcells (L ++ [⟨n, ⟨#[]⟩, 0⟩])) := by
    rw [fcells_add]
    exact own_setZ hown (by simp [Value.ownBlock, hgS]) _
  have hb6 := heap_setCell_same w5 SB 0 _ 82 (.slice (some ⟨g, 0, none⟩) (L.length + 1) cap) hK5
  have hS6 : St 82 91 (w5.setCell ⟨SB, 0, none⟩ (.slice (some ⟨g, 0, none⟩) (L.length + 1) cap)) SB lf (L ++ [⟨n, ⟨#[]⟩, 0⟩]) (some ⟨g, 0, none⟩) cap := ⟨by rw [hl]; exact hb6, by rw [hl]; exact hrow6⟩
  have hf : (L ++ [(⟨n, ⟨#[]⟩, 0⟩ : Fl)])[L.length]? = some ⟨n, ⟨#[]⟩, 0⟩ := by simp
  obtain ⟨_, q1, _⟩ := cells3_of hrow6 hf
  obtain ⟨hS7, hg7⟩ := hS6.data (by decide) hf (⟨#[]⟩ ++ d)
  have hset : (L ++ [(⟨n, ⟨#[]⟩, 0⟩ : Fl)]).set L.length ⟨n, (⟨#[]⟩ : ByteArray) ++ d, 0⟩ = L ++ [⟨n, (⟨#[]⟩ : ByteArray) ++ d, 0⟩] := by simp
  rw [hset] at hS7
  refine ⟨_, rfl, cellOf ((heap_setCell_other _ _ _ _ hDS).trans hD5) rfl, cellOf hb6 rfl, q1, hrow6.frozenAt (L.length * 3 + 1), ?_, ⟨some ⟨g, 0, none⟩, cap, hS7, ?_⟩⟩
  · rcases hown.2 with ⟨e, _⟩ | ⟨g', c', cur, e, _, _, hc, _⟩
    · cases e
    · cases e; exact hc
  · have hsz : w3.heap.size ≤ w5.heap.size := hgrow.size
    have h23 := hb3.size
    refine ⟨by have := hg7.size; simp at this ⊢; omega, fun i hi hk ho => ?_, fun g' hg' => ?_⟩
    · have hig : i ≠ g := fun e => by
        subst e
        rcases hat with h | h
        · exact ho ((own_A fa _ _).symm.trans h)
        · have : i = w3.heap.size := h
          omega
      rw [hg7.block i (by simp; omega) (fun e => hig (by cases e; rfl)), heap_setCell_other _ _ _ _ hk, hgrow.block i (by show i < w3.heap.size; omega) (fun e => ho ((own_A fa _ _).symm.trans e.symm))]
      exact hb3.block i hi
    · cases hg'
      rcases hat with h | h
      · exact .inl ((own_A fa _ _).symm.trans h)
      · exact .inr (by have : g = w3.heap.size := h; show w2.heap.size ≤ g; omega)

theorem Dgo.pre {bt rt : TypeId} {w w1 w' : World} {K : Nat} {lf : Int} {fa : Option Addr} {L' : List Fl} (hg : Go3 w w1 K (ownA fa) (ownA fa)) (h : Dgo bt rt w1 w' K lf fa L') : Dgo bt rt w w' K lf fa L' := by
  obtain ⟨fa', fc', st, go⟩ := h.st
  exact ⟨fa', fc', st, hg.trans go⟩

set_option maxRecDepth 8000 in
set_option maxHeartbeats 4000000 in
theorem pappend_any (w : World) (DB SB : Nat) (left : Int) (L : List Fl) (fa : Option Addr) (fc : Nat) (n d : ByteArray) (hD : w.heap[DB]? = some (.cells #[.pointer (some ⟨SB, 0, none⟩)] 84)) (h : St 82 91 w SB left L fa fc) (hl0 : -1 ≤ left) (hl1 : left ≤ 9223372036854775807) (hL : L.length ≤ 10000000) (hd : ∀ f, f ∈ L → f.d.size + d.size ≤ 1099511627776) (hd0 : d.size ≤ 1099511627776) :
    Calls Tryz.prog 28 #[.pointer (some ⟨DB, 0, none⟩), .string n, .string d] w fun e w' => e = .returned (.bool (decide (left ≠ 0))) ∧ ∃ L', Dgo 82 91 w w' SB (dec left) fa L' ∧ ((left = 0 ∧ L' = L) ∨ (left ≠ 0 ∧ appP L n d L')) := by
  have hDS : DB ≠ SB := fun e => by have := h.blk; rw [← e, hD] at this; simp at this
  have h60 := dstep_any w SB _ left h.blk hl0 hl1
  have c0 := cellOf (j := 0) hD rfl
  have HST := hid h
  have HD := hid hd
  have HDB := hid hD
  clear h hd hD
  by_cases hl : left = 0
  · have hdl : decide (left ≠ 0) = false := by simp [hl]
    rw [hdl] at h60 ⊢
    have H60 := hid h60
    clear h60
    go_enter Tryz.func28, Tryz.ntmps28
    go_wp2_with (go_at_call 60; refine H60.out.mono ?_; rintro e w1 ⟨rfl, hb1, hg1⟩; have HS1 := hid (HST.out.lefts hb1 hg1 (by decide)); have HG1 := hid hg1; clear hb1 hg1)
    all_goals go_ret
    all_goals exact ⟨rfl, L, .same HS1.out (Go3.grown HG1.out), .inl ⟨hl, rfl⟩⟩
  · have hdl : decide (left ≠ 0) = true := by simp [hl]
    rw [hdl] at h60 ⊢
    have H60 := hid h60
    have HL0 := hid hl
    clear h60 hl hdl
    go_enter Tryz.func28, Tryz.ntmps28
    go_wp2_with (go_at_call 60; refine H60.out.mono ?_; rintro e w1 ⟨rfl, hb1, hg1⟩; have HS1 := hid (HST.out.lefts hb1 hg1 (by decide)); have HG1 := hid hg1; have HD1 := hid ((hg1.block DB (ltOf HDB.out) (fun e => hDS (by cases e; rfl))).trans HDB.out); have c1 := cellOf (j := 0) HD1.out rfl; have H61 := hid (find_any w1 SB fa fc (dec left) L n HS1.out.blk HS1.out.row (by omega)); clear hb1 hg1)
    refine H61.out.mono ?_
    rintro e w2 ⟨hw2, hz⟩
    subst hw2
    have s0 := cellOf (j := 0) HS1.out.blk rfl
    rcases hz with ⟨rfl, hno⟩ | ⟨i, f, rfl, hf, hfn⟩
    · -- one more
      have HNO := hid hno
      clear hno
      have HNB := hid (heap_alloc_new w2 (.cells #[.string n, .string ⟨#[]⟩, .int .i64 0] 91))
      have HB3 := hid (below1 w2 (.cells #[.string n, .string ⟨#[]⟩, .int .i64 0] 91))
      have HROW0 := hid (HS1.out.row.alloc (.cells #[.string n, .string ⟨#[]⟩, .int .i64 0] 91))
      have HK3 := hid ((HB3.out.block SB (ltOf HS1.out.blk)).trans HS1.out.blk)
      have HRN : Hid ((Value.slice fa L.length fc).ownBlock ≠ some SB) := fun e => by
        obtain ⟨c1, t1⟩ := own_type HS1.out.row e
        rw [HS1.out.blk] at t1
        cases t1
      have HRD : Hid ((Value.slice fa L.length fc).ownBlock ≠ some DB) := fun e => by
        obtain ⟨c1, t1⟩ := own_type HS1.out.row e
        rw [HD1.out] at t1
        cases t1
      have HD3 := hid ((HB3.out.block DB (ltOf HD1.out)).trans HD1.out)
      obtain ⟨j0, hj0, hy0, hy1, hy2⟩ := info_parts Tryz.info91
      have hs3 := cellOf (j := 0) HK3.out rfl
      have hd3 := (HB3.out.cell (p := ⟨DB, 0, none⟩) (ltOf HD1.out)).trans c1
      go_wp2
      go_region_law (refine step_append_lies _ rfl (.tmp 32) (.tmp 35) 80 rfl 0 91 j0 _ 3 40 Tryz.underlying80 hj0 hy0 hy1 hy2 rfl (by decide) (.slice fa L.length fc) L.length (fcells L) (by simp [Act.eval]) HROW0.out.drew ⟨w2.heap.size, 0, none⟩ 1 1 _ (by simp [Act.eval]) (by rfl) (World.news_of_block HNB.out) (by intro u hu; simp at hu; rcases hu with rfl | rfl | rfl <;> rfl) (by omega) (by unfold maxLen; omega) (by omega) (Nat.zero_le _) _ rfl ?_; intro g cap w5 hown5 hgrow hat5 hlt5; have HK5 := hid ((hgrow.block SB (by show SB < _; exact ltOf HK3.out) (fun e => HRN.out e.symm)).trans HK3.out); have HD5 := hid ((hgrow.block DB (by show DB < _; exact ltOf HD3.out) (fun e => HRD.out e.symm)).trans HD3.out); have d5 := cellOf (j := 0) HD5.out rfl; have k5 := cellOf (j := 0) HK5.out rfl; have z5 := frozen_of_row w5 SB 0 _ _ HK5.out; have HOWN5 := hid hown5; have HGR5 := hid hgrow; have HAT5 := hid hat5; clear hown5 hgrow hat5)
      all_goals (obtain ⟨W6, hW6, D6, S6, q6, z6, hcap, HDG⟩ := after_app (d := d) HS1.out HB3.out HD5.out HK5.out HOWN5.out HGR5.out HAT5.out)
      all_goals clear HOWN5 HGR5 HAT5 HD5 HK5 k5 z5 d5 HNB HROW0
      all_goals go_wp2
      all_goals go_ret
      all_goals exact ⟨rfl, _, .pre (Go3.grown HG1.out) HDG.out, .inr ⟨HL0.out, .inl ⟨HNO.out, rfl⟩⟩⟩
    · -- one that is there
      have hil := (List.getElem?_eq_some_iff.1 hf).1
      have hilz : (i : Int) < (L.length : Int) := by omega
      obtain ⟨g, hfa, hfc, hgw, _⟩ := row_at HS1.out.row (by omega)
      subst hfa
      obtain ⟨q0, q1, q2⟩ := cells3_of HS1.out.row hf
      have z1 := HS1.out.row.frozenAt (i * 3 + 1)
      have hsz := HD.out f (List.mem_of_getElem? hf)
      have HDA := hid (HS1.out.data (by decide) hf (f.d ++ d))
      have HF := hid hf
      have HFN := hid hfn
      clear hf hfn q0 q2
      go_wp2
      all_goals go_ret
      all_goals exact ⟨rfl, _, ⟨some ⟨g, 0, none⟩, fc, HDA.out.1, (Go3.grown HG1.out).trans ⟨HDA.out.2.size, fun j hj hk ho => HDA.out.2.block j hj (fun e => ho (by cases e; rfl)), fun _ h => .inl h⟩⟩, .inr ⟨HL0.out, .inr ⟨i, f, HF.out, HFN.out, rfl⟩⟩⟩

end Go.Proofs.YtlghcldiboecoaaGreatDoor

/- Disks: the program's Read, Has, Stopped, Stop; new disks. -/
namespace Go.Proofs.YtlghcldiboecoaaGreatDoor
open Go.RowKit

set_option maxHeartbeats 2000000 in
theorem pread_any (w : World) (DB SB : Nat) (left : Int) (L : List Fl) (fa : Option Addr) (fc : Nat) (n : ByteArray) (hD : w.heap[DB]? = some (.cells #[.pointer (some ⟨SB, 0, none⟩)] 84)) (h : St 82 91 w SB left L fa fc) (hL : L.length ≤ 10000000) :
    Calls Tryz.prog 36 #[.pointer (some ⟨DB, 0, none⟩), .string n] w fun e w' => w' = w ∧ ∃ o, AtN L n o ∧ e = .returned (.string (o.getD fl0).d) := by
  have c0 := cellOf (j := 0) hD rfl
  have s0 := cellOf (j := 0) h.blk rfl
  have H61 := hid (find_any w SB fa fc left L n h.blk h.row (by omega))
  have HST := hid h
  clear h hD
  go_enter Tryz.func36, Tryz.ntmps36
  go_wp2_with fail
  refine H61.out.mono ?_
  rintro e w2 ⟨hw2, hz⟩
  subst hw2
  rcases hz with ⟨rfl, hno⟩ | ⟨i, f, rfl, hf, hfn⟩
  · have HNO := hid hno
    clear hno
    go_wp2
    all_goals go_ret
    all_goals exact ⟨rfl, none, HNO.out, rfl⟩
  · have hil := (List.getElem?_eq_some_iff.1 hf).1
    have hilz : (i : Int) < (L.length : Int) := by omega
    have hi0 : (i : Int) ≥ 0 := by omega
    obtain ⟨g, hfa, hfc, hgw, _⟩ := row_at HST.out.row (by omega)
    subst hfa
    obtain ⟨q0, q1, q2⟩ := cells3_of HST.out.row hf
    have HF := hid hf
    have HFN := hid hfn
    clear hf hfn q0 q2
    go_wp2
    all_goals go_ret
    all_goals exact ⟨rfl, some f, ⟨List.mem_of_getElem? HF.out, HFN.out⟩, rfl⟩

set_option maxHeartbeats 2000000 in
theorem phas_any (w : World) (DB SB : Nat) (left : Int) (L : List Fl) (fa : Option Addr) (fc : Nat) (n : ByteArray) (hD : w.heap[DB]? = some (.cells #[.pointer (some ⟨SB, 0, none⟩)] 84)) (h : St 82 91 w SB left L fa fc) (hL : L.length ≤ 10000000) :
    Calls Tryz.prog 37 #[.pointer (some ⟨DB, 0, none⟩), .string n] w fun e w' => w' = w ∧ ∃ o, AtN L n o ∧ e = .returned (.bool o.isSome) := by
  have c0 := cellOf (j := 0) hD rfl
  have H61 := hid (find_any w SB fa fc left L n h.blk h.row (by omega))
  clear h hD
  go_enter Tryz.func37, Tryz.ntmps37
  go_wp2_with fail
  refine H61.out.mono ?_
  rintro e w2 ⟨hw2, hz⟩
  subst hw2
  rcases hz with ⟨rfl, hno⟩ | ⟨i, f, rfl, hf, hfn⟩
  · have HNO := hid hno
    clear hno
    go_wp2
    all_goals go_ret
    all_goals exact ⟨rfl, none, HNO.out, rfl⟩
  · have HF := hid hf
    have HFN := hid hfn
    have hi0 : (i : Int) ≥ 0 := by omega
    clear hf hfn
    go_wp2
    all_goals go_ret
    all_goals exact ⟨rfl, some f, ⟨List.mem_of_getElem? HF.out, HFN.out⟩, by first | rfl | simp⟩

theorem pstopped_any (w : World) (DB SB : Nat) (left : Int) (fv : Value) (hD : w.heap[DB]? = some (.cells #[.pointer (some ⟨SB, 0, none⟩)] 84)) (hb : w.heap[SB]? = some (.cells #[fv, .int .i64 left] 82)) :
    Calls Tryz.prog 38 #[.pointer (some ⟨DB, 0, none⟩)] w fun e w' => w' = w ∧ e = .returned (.bool (decide (left = 0))) := by
  have c0 := cellOf (j := 0) hD rfl
  have s1 := cellOf (j := 1) hb rfl
  clear hD hb
  by_cases hl : left = 0
  · subst hl
    go_enter Tryz.func38, Tryz.ntmps38
    go_wp2
    all_goals go_ret
    all_goals exact ⟨rfl, rfl⟩
  · go_enter Tryz.func38, Tryz.ntmps38
    go_wp2
    all_goals go_ret
    all_goals exact ⟨rfl, by first | rfl | simp [hl]⟩

theorem pstop_any (w : World) (HB SB : Nat) (left n : Int) (fv : Value) (hH : w.heap[HB]? = some (.cells #[.pointer (some ⟨SB, 0, none⟩)] 86)) (hb : w.heap[SB]? = some (.cells #[fv, .int .i64 left] 82)) :
    Calls Tryz.prog 40 #[.pointer (some ⟨HB, 0, none⟩), .int .i64 n] w fun e w' => e = .returned (.tuple #[]) ∧ w'.heap[SB]? = some (.cells #[fv, .int .i64 (if left = 0 then 0 else if n < 0 then -1 else n)] 82) ∧ w.grownBy w' (some SB) := by
  have c0 := cellOf (j := 0) hH rfl
  have s1 := cellOf (j := 1) hb rfl
  have z1 := frozen_of_row w SB 1 _ 82 hb
  have HS := hid hb
  have H1 := hid (heap_setCell_same w SB 1 _ 82 (.int .i64 (if n < 0 then -1 else n)) hb)
  clear hH hb
  by_cases hl : left = 0
  · subst hl
    go_enter Tryz.func40, Tryz.ntmps40
    go_wp2
    all_goals go_end0
    all_goals exact ⟨rfl, by simpa using HS.out, gr_below (Below.refl _ _)⟩
  · by_cases hn : n < 0
    · have hmx : max (-1) n = -1 := by omega
      go_enter Tryz.func40, Tryz.ntmps40
      go_wp2
      all_goals go_end0
      all_goals exact ⟨rfl, by have := H1.out; simpa [hl, hn] using this, gr_set _⟩
    · have hmx : max (-1) n = n := by omega
      go_enter Tryz.func40, Tryz.ntmps40
      go_wp2
      all_goals go_end0
      all_goals exact ⟨rfl, by have := H1.out; rw [if_neg (show ¬ n < 0 by omega)] at this; simpa [hl, show ¬ n < 0 by omega] using this, gr_set _⟩

theorem pnew_any (w : World) : Calls Tryz.prog 11 #[] w fun e w' => e = .returned (.tuple #[.pointer (some ⟨w.heap.size + 1, 0, none⟩), .pointer (some ⟨w.heap.size + 2, 0, none⟩)]) ∧ w'.heap[w.heap.size]? = some (.cells #[.slice none 0 0, .int .i64 (-1)] 82) ∧
    w'.heap[w.heap.size + 1]? = some (.cells #[.pointer (some ⟨w.heap.size, 0, none⟩)] 84) ∧ w'.heap[w.heap.size + 2]? = some (.cells #[.pointer (some ⟨w.heap.size, 0, none⟩)] 86) ∧ Below w.heap.size w w' := by
  go_enter Tryz.func11, Tryz.ntmps11
  go_wp2
  have s1 : (w.alloc (.cells #[.slice none 0 0, .int .i64 (-1)] 82)).heap.size = w.heap.size + 1 := by simp
  have s2 : ((w.alloc (.cells #[.slice none 0 0, .int .i64 (-1)] 82)).alloc (.cells #[.pointer (some ⟨w.heap.size, 0, none⟩)] 84)).heap.size = w.heap.size + 2 := by simp
  have n0 := heap_alloc_new w (.cells #[.slice none 0 0, .int .i64 (-1)] 82)
  have n1 := heap_alloc_new (w.alloc (.cells #[.slice none 0 0, .int .i64 (-1)] 82)) (.cells #[.pointer (some ⟨w.heap.size, 0, none⟩)] 84)
  have n2 := heap_alloc_new ((w.alloc (.cells #[.slice none 0 0, .int .i64 (-1)] 82)).alloc (.cells #[.pointer (some ⟨w.heap.size, 0, none⟩)] 84)) (.cells #[.pointer (some ⟨w.heap.size, 0, none⟩)] 86)
  rw [s1] at n1
  rw [s2] at n2
  have b1 := below1 (w.alloc (.cells #[.slice none 0 0, .int .i64 (-1)] 82)) (.cells #[.pointer (some ⟨w.heap.size, 0, none⟩)] 84)
  have b2 := below1 ((w.alloc (.cells #[.slice none 0 0, .int .i64 (-1)] 82)).alloc (.cells #[.pointer (some ⟨w.heap.size, 0, none⟩)] 84)) (.cells #[.pointer (some ⟨w.heap.size, 0, none⟩)] 86)
  exact bodyPost_ret (v := .tuple #[.pointer (some ⟨w.heap.size + 1, 0, none⟩), .pointer (some ⟨w.heap.size + 2, 0, none⟩)]) (by simp [results, Tryz.results11, go_sem]) rfl ⟨rfl, (b2.block _ (by omega)).trans ((b1.block _ (by omega)).trans n0), (b2.block _ (by omega)).trans n1, n2, below3 _ _ _ _⟩

theorem rnew_any (w : World) : Calls Tryz.prog 12 #[] w fun e w' => e = .returned (.pointer (some ⟨w.heap.size, 0, none⟩)) ∧ w' = w.alloc (.cells #[.slice none 0 0, .int .i64 (-1)] 89) := by
  go_enter Tryz.func12, Tryz.ntmps12
  go_wp2
  all_goals go_ret
  all_goals exact ⟨rfl, rfl⟩

end Go.Proofs.YtlghcldiboecoaaGreatDoor
