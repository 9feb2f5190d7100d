/- Disks: the program's Rename. -/
import Derived.Test.YtlghcldiboecoaaGreatDoorDkJ
import Derived.Deep.RegionWith
set_option linter.unusedVariables false
set_option linter.unusedSimpArgs false
namespace Go.Proofs.YtlghcldiboecoaaGreatDoor
open Go.RowKit

/-- How the program gives a file another name. -/
def renP (L : List Fl) (n m : ByteArray) (L' : List Fl) : Prop :=
  (((∀ f, f ∈ L → f.n ≠ n) ∨ n = m) ∧ L' = L) ∨ ∃ f, f ∈ L ∧ f.n = n ∧ n ≠ m ∧ L' = wo (wo L n) m ++ [⟨m, f.d, f.s⟩]

/-- Ends at a frame that tells where a row lies, in a world of which this is known. -/
def EndsIn (A : Option Addr → Nat → Act) (R : Option Addr → Nat → World → Prop) : Exit → Act → World → Prop
  | .normal, a, w => ∃ x y, a = A x y ∧ R x y w
  | _, _, _ => False

theorem wp_endsIn {P : Program} {c : Code} {Q : Exit → Act → World → Prop} {a : Act} {w : World} (R : Option Addr → Nat → World → Prop) (h : ∃ A, Code.wp P c (EndsIn A R) a w ∧ ∀ x y W, R x y W → Q .normal (A x y) W) : Code.wp P c Q a w := by
  obtain ⟨A, h1, h2⟩ := h
  refine Code.wp_mono ?_ h1
  intro e a w he
  cases e with
  | normal => obtain ⟨x, y, rfl, hr⟩ := he; exact h2 x y w hr
  | _ => exact (he : False).elim

/-- Ends at a frame that tells where rows lie. -/
def EndsIn5 (A : Option Addr → Nat → Nat → Nat → Nat → Act) (R : World → Prop) : Exit → Act → World → Prop
  | .normal, a, w => ∃ x y z t u, a = A x y z t u ∧ R w
  | _, _, _ => False

theorem wp_endsIn5 {P : Program} {c : Code} {Q : Exit → Act → World → Prop} {a : Act} {w : World} (R : World → Prop) (h : ∃ A, Code.wp P c (EndsIn5 A R) a w ∧ ∀ x y z t u W, R W → Q .normal (A x y z t u) W) : Code.wp P c Q a w := by
  obtain ⟨A, h1, h2⟩ := h
  refine Code.wp_mono ?_ h1
  intro e a w he
  cases e with
  | normal => obtain ⟨x, y, z, t, u, rfl, hr⟩ := he; exact h2 x y z t u w hr
  | _ => exact (he : False).elim

theorem ren_end {w W5 w8 : World} {SB vc : Nat} {lf : Int} {X : List Fl} {y : Fl} {fa va : Option Addr} (hgo : Go3 w W5 SB (ownA fa) (ownA fa))
    (H : St 82 91 (w8.setCell ⟨SB, 0, none⟩ (.slice va (X ++ [y]).length vc)) SB lf (X ++ [y]) va vc ∧ (w8.setCell ⟨SB, 0, none⟩ (.slice va (X ++ [y]).length vc)).ownsRow W5.heap.size 91 3 (.slice va (X ++ [y]).length vc) (X ++ [y]).length (fcells (X ++ [y])) ∧ W5.grownBy (w8.setCell ⟨SB, 0, none⟩ (.slice va (X ++ [y]).length vc)) (some SB)) :
    Dgo 82 91 w (w8.setCell ⟨SB, 0, none⟩ (.slice va (X.length + 1) vc)) SB lf fa (X ++ [y]) := by
  have e : (X ++ [y]).length = X.length + 1 := by simp
  rw [← e]
  exact .new hgo H.1.blk H.2.1 H.2.2

/-- Behind an append to a row of its own. -/
theorem app_own {W5 w7 w8 : World} {v : Value} {n : Nat} {xs : List Value} (hb : Below W5.heap.size W5 w7) (hr : w7.ownsRow W5.heap.size 91 3 v n xs) (hg : w7.grownBy w8 v.ownBlock) : Below W5.heap.size W5 w8 :=
  hb.trans ⟨hg.os, hg.tape, hg.output, by have := hg.size; have := hb.size; omega, fun i hi => hg.block i (by have := hb.size; omega) (fun e => by have := (hr.lt i e.symm).1; omega)⟩

/-- Behind the files but one, made in a world above. -/
theorem own_up {W5 W w6 : World} {v : Value} {n : Nat} {xs : List Value} (hW : Below W5.heap.size W5 W) (hr : w6.ownsRow W.heap.size 91 3 v n xs) (hb : Below W.heap.size W w6) (o : Obj) :
    Hid (w6.ownsRow W5.heap.size 91 3 v n xs) ∧ Hid (Below W5.heap.size W5 w6) ∧ Hid ((w6.alloc o).ownsRow W5.heap.size 91 3 v n xs) ∧ Hid (Below W5.heap.size W5 (w6.alloc o)) ∧ Hid ((w6.alloc o).heap[w6.heap.size]? = some o) := by
  have h1 : w6.ownsRow W5.heap.size 91 3 v n xs := ⟨hr.1, hr.2.imp id (fun ⟨g, cap, cur, k1, k2, k3⟩ => ⟨g, cap, cur, k1, by have := hW.size; omega, k3⟩)⟩
  have h2 : Below W5.heap.size W5 w6 := hW.trans (hb.mono hW.size)
  exact ⟨h1, h2, h1.alloc o, h2.trans ((below1 w6 o).mono h2.size), heap_alloc_new w6 o⟩

set_option maxRecDepth 8000 in
set_option maxHeartbeats 4000000 in
theorem prename_any (w : World) (DB SB : Nat) (left : Int) (L : List Fl) (fa : Option Addr) (fc : Nat) (n m : ByteArray) (hD : w.heap[DB]? = some (.cells #[.pointer (some ⟨SB, 0, none⟩)] 84)) (h : St 82 91 w SB left L fa fc) (hl0 : -1 ≤ left) (hl1 : left ≤ 9223372036854775807) (hL : L.length ≤ 10000000) :
    Calls Tryz.prog 32 #[.pointer (some ⟨DB, 0, none⟩), .string n, .string m] w fun e w' => e = .returned (.bool (decide (left ≠ 0))) ∧ ∃ L', Dgo 82 91 w w' SB (dec left) fa L' ∧ ((left = 0 ∧ L' = L) ∨ (left ≠ 0 ∧ renP L n m L')) := by
  have hDS : DB ≠ SB := fun e => by have := h.blk; rw [← e, hD] at this; simp at this
  have h60 := dstep_any w SB _ left h.blk hl0 hl1
  have c0 := cellOf (j := 0) hD rfl
  have HST := hid h
  have HDB := hid hD
  clear h hD
  by_cases hl : left = 0
  · have hdl : decide (left ≠ 0) = false := by simp [hl]
    rw [hdl] at h60 ⊢
    have H60 := hid h60
    clear h60
    go_enter Tryz.func32, Tryz.ntmps32
    go_wp2_with (go_at_call 60; refine H60.out.mono ?_; rintro e w1 ⟨rfl, hb1, hg1⟩; have HS1 := hid (HST.out.lefts hb1 hg1 (by decide)); have HG1 := hid hg1; clear hb1 hg1)
    all_goals go_ret
    all_goals exact ⟨rfl, L, .same HS1.out (Go3.grown HG1.out), .inl ⟨hl, rfl⟩⟩
  · have hdl : decide (left ≠ 0) = true := by simp [hl]
    rw [hdl] at h60 ⊢
    have H60 := hid h60
    have HL0 := hid hl
    clear h60 hl hdl
    go_enter Tryz.func32, Tryz.ntmps32
    go_wp2_with (go_at_call 60; refine H60.out.mono ?_; rintro e w1 ⟨rfl, hb1, hg1⟩; have HS1 := hid (HST.out.lefts hb1 hg1 (by decide)); have HG1 := hid hg1; have HD1 := hid ((hg1.block DB (ltOf HDB.out) (fun e => hDS (by cases e; rfl))).trans HDB.out); have c1 := cellOf (j := 0) HD1.out rfl; have H61 := hid (find_any w1 SB fa fc (dec left) L n HS1.out.blk HS1.out.row (by omega)); clear hb1 hg1)
    refine H61.out.mono ?_
    rintro e w2 ⟨hw2, hz⟩
    subst hw2
    have s0 := cellOf (j := 0) HS1.out.blk rfl
    rcases hz with ⟨rfl, hno⟩ | ⟨i, f, rfl, hf, hfn⟩
    · have HNO := hid hno
      clear hno
      go_wp2
      all_goals go_ret
      all_goals exact ⟨rfl, L, .same HS1.out (Go3.grown HG1.out), .inr ⟨HL0.out, .inl ⟨.inl HNO.out, rfl⟩⟩⟩
    · have hil := (List.getElem?_eq_some_iff.1 hf).1
      have hilz : (i : Int) < (L.length : Int) := by omega
      have hi0 : ¬ (i : Int) < 0 := by omega
      obtain ⟨g, hfa, hfc, hgw, _⟩ := row_at HS1.out.row (by omega)
      subst hfa
      obtain ⟨q0, q1, q2⟩ := cells3_of HS1.out.row hf
      by_cases hnm : n = m
      · have hq := str_eq hnm
        have HNM := hid hnm
        clear hnm
        go_wp2
        all_goals go_ret
        all_goals exact ⟨rfl, L, .same HS1.out (Go3.grown HG1.out), .inr ⟨HL0.out, .inl ⟨.inr HNM.out, rfl⟩⟩⟩
      · have hq := str_ne hnm
        have HNM := hid hnm
        have HF := hid hf
        have HFN := hid hfn
        clear hnm hf hfn
        go_wp2
        have HB3 := hid (below1 w2 (.cells #[.string m, .string f.d, .int .i64 f.s] 91))
        have HN3 := hid (heap_alloc_new w2 (.cells #[.string m, .string f.d, .int .i64 f.s] 91))
        have HS3 := hid (HS1.out.below HB3.out)
        have HD3 := hid ((HB3.out.block DB (ltOf HD1.out)).trans HD1.out)
        clear c1 s0 q0 q1 q2 H61 c0
        have c3 := cellOf (j := 0) HD3.out rfl
        generalize hW3 : w2.alloc (.cells #[.string m, .string f.d, .int .i64 f.s] 91) = W3 at *
        generalize hFB : w2.heap.size = FB at *
        have H64 : Hid (∀ W, W = W3 ∨ W = W3.drew → _) := (fun W hW => without_any W SB (some ⟨g, 0, none⟩) fc (dec left) L n (by rcases hW with rfl | rfl <;> exact HS3.out.blk) (by rcases hW with rfl | rfl <;> first | exact HS3.out.row | exact HS3.out.row.drew) (by omega))
        refine wp_endsIn (fun va vc W5 => Hid (St 82 91 W5 SB (dec left) (wo L n) va vc ∧ W5.ownsRow W3.heap.size 91 3 (.slice va (wo L n).length vc) (wo L n).length (fcells (wo L n)) ∧ W3.grownBy W5 (some SB))) ?_
        apply Exists.intro
        refine ⟨?_, ?_⟩
        · go_region_with (go_at_call 64; refine (H64.out _ (by first | exact .inl rfl | exact .inr rfl)).mono ?_; rintro e w4 ⟨va, vc, rfl, hr4, hb4⟩; obtain ⟨c4, k4, z4, HSW, HSX⟩ := after_wo (by first | exact .inl rfl | exact .inr rfl) HS3.out HD3.out hr4 hb4; clear hr4 hb4)
          all_goals first | exact ⟨va, vc, rfl, HSW⟩ | exact ⟨va, vc, rfl, HSX⟩
        intro va vc W5 HX
        clear H64 c3
        go_wp2
        all_goals (
          have HN5 : Hid (W5.heap[FB]? = some (.cells #[.string m, .string f.d, .int .i64 f.s] 91)) := (HX.out.2.2.block FB (ltOf HN3.out) (fun e => by cases e; have := ltOf HS1.out.blk; omega)).trans HN3.out
          have HD5 : Hid (W5.heap[DB]? = some (.cells #[.pointer (some ⟨SB, 0, none⟩)] 84)) := (HX.out.2.2.block DB (ltOf HD3.out) (fun e => hDS (by cases e; rfl))).trans HD3.out
          have c5 := cellOf (j := 0) HD5.out rfl
          have m0 := cellOf (j := 0) HN5.out rfl
          have m1 := cellOf (j := 1) HN5.out rfl
          have m2 := cellOf (j := 2) HN5.out rfl
          have HWL : Hid ((wo L n).length ≤ L.length) := List.length_filter_le _ _
          have HWM : Hid ((wo (wo L n) m).length ≤ (wo L n).length) := List.length_filter_le _ _
          have H64 : Hid (∀ W, Below W5.heap.size W5 W → _) := (fun W hW => without_any W SB va vc (dec left) (wo L n) m ((hW.block _ (ltOf HX.out.1.blk)).trans HX.out.1.blk) (ownsRow_below HX.out.1.row hW) (by have := HWL.out; omega))
          have HBA := hid (below1 W5 (.cells #[.string m, .string f.d, .int .i64 f.s] 91))
          have HNA := hid (heap_alloc_new W5 (.cells #[.string m, .string f.d, .int .i64 f.s] 91)))
        all_goals (have c5a := (HBA.out.cell (p := ⟨DB, 0, none⟩) (ltOf HD5.out)).trans c5)
        all_goals (have HBD : Hid (Below W5.heap.size W5 (W5.alloc (.cells #[.string m, .string f.d, .int .i64 f.s] 91)).drew) := HBA.out.trans ((bdrew _).mono HBA.out.size))
        have HGO : Hid (Go3 w W5 SB (ownA (some ⟨g, 0, none⟩)) (ownA (some ⟨g, 0, none⟩))) := ((Go3.grown HG1.out).trans (Go3.below (by rw [hFB]; exact HB3.out))).trans (Go3.grown HX.out.2.2)
        all_goals (obtain ⟨j0, hj0, hy0, hy1, hy2⟩ := info_parts Tryz.info91)
        refine wp_endsIn5 (fun W9 => Hid (Dgo 82 91 w W9 SB (dec left) (some ⟨g, 0, none⟩) (wo (wo L n) m ++ [⟨m, f.d, f.s⟩]))) ?_
        apply Exists.intro
        refine ⟨?_, ?_⟩
        · go_region_law (first
              | (refine step_append_lies _ rfl (.tmp 61) (.tmp 63) 80 rfl W5.heap.size 91 j0 _ 3 40 Tryz.underlying80 hj0 hy0 hy1 hy2 rfl (by decide) (.slice va' (wo (wo L n) m).length vc') (wo (wo L n) m).length (fcells (wo (wo L n) m)) (by simp [Act.eval]) (by first | exact HR6.out | exact HR6.out.drew) ⟨W5.heap.size, 0, none⟩ 1 1 [.string m, .string f.d, .int .i64 f.s] (by simp [Act.eval]) (by rfl) (World.news_of_block HN6.out) (by intro u hu; simp at hu; rcases hu with rfl | rfl | rfl <;> rfl) (by omega) (by have := HWL.out; have := HWM.out; unfold maxLen; omega) (by have := HWL.out; have := HWM.out; omega) HB6.out.size _ rfl ?_; intro g' cap w8 hown8 hgrow hat8 hlt8; obtain ⟨c8, k8, z8, HSW, HSX⟩ := after_wo (W := W5) (w2 := w8) (M := wo (wo L n) m ++ [⟨m, f.d, f.s⟩]) (.inl rfl) HX.out.1 HD5.out (by rw [fcells_add, List.length_append]; exact hown8) (app_own HB6.out HR6.out hgrow); obtain ⟨W9, hW9⟩ : ∃ W9, w8.setCell ⟨SB, 0, none⟩ (.slice (some ⟨g', 0, none⟩) ((wo (wo L n) m).length + 1) cap) = W9 := ⟨_, rfl⟩; have HZ : Hid (Dgo 82 91 w W9 SB (dec left) (some ⟨g, 0, none⟩) (wo (wo L n) m ++ [⟨m, f.d, f.s⟩])) := (by subst hW9; exact ren_end HGO.out HSW.out); clear hown8 hgrow hat8 HSW HSX)
              | (refine step_append_lies _ rfl (.tmp 61) (.tmp 63) 80 rfl W5.heap.size 91 j0 _ 3 40 Tryz.underlying80 hj0 hy0 hy1 hy2 rfl (by decide) (.slice va' (wo (wo L n) m).length vc') (wo (wo L n) m).length (fcells (wo (wo L n) m)) (by simp [Act.eval]) (by first | exact HR7.out | exact HR7.out.drew) ⟨w6.heap.size, 0, none⟩ 1 1 [.string m, .string f.d, .int .i64 f.s] (by simp [Act.eval]) (by rfl) (World.news_of_block HN7.out) (by intro u hu; simp at hu; rcases hu with rfl | rfl | rfl <;> rfl) (by omega) (by have := HWL.out; have := HWM.out; unfold maxLen; omega) (by have := HWL.out; have := HWM.out; omega) HB7.out.size _ rfl ?_; intro g' cap w8 hown8 hgrow hat8 hlt8; obtain ⟨c8, k8, z8, HSW, HSX⟩ := after_wo (W := W5) (w2 := w8) (M := wo (wo L n) m ++ [⟨m, f.d, f.s⟩]) (.inl rfl) HX.out.1 HD5.out (by rw [fcells_add, List.length_append]; exact hown8) (app_own HB7.out HR7.out hgrow); obtain ⟨W9, hW9⟩ : ∃ W9, w8.setCell ⟨SB, 0, none⟩ (.slice (some ⟨g', 0, none⟩) ((wo (wo L n) m).length + 1) cap) = W9 := ⟨_, rfl⟩; have HZ : Hid (Dgo 82 91 w W9 SB (dec left) (some ⟨g, 0, none⟩) (wo (wo L n) m ++ [⟨m, f.d, f.s⟩])) := (by subst hW9; exact ren_end HGO.out HSW.out); clear hown8 hgrow hat8 HSW HSX)
              | (go_simp; refine (H64.out _ (by first | exact Below.refl _ _ | exact bdrew _ | exact HBA.out | exact HBD.out)).mono ?_; rintro e w6 ⟨va', vc', rfl, hr6, hb6⟩; obtain ⟨HR6, HB6, HR7, HB7, HN7⟩ := own_up (W5 := W5) (by first | exact Below.refl _ _ | exact bdrew _ | exact HBA.out | exact HBD.out) hr6 hb6 (.cells #[.string m, .string f.d, .int .i64 f.s] 91); have c6 := (HB6.out.cell (p := ⟨DB, 0, none⟩) (ltOf HD5.out)).trans c5; have n0 := (HB6.out.cell (p := ⟨FB, 0, none⟩) (ltOf HN5.out)).trans m0; have n1 := (HB6.out.cell (p := ⟨FB, 1, none⟩) (ltOf HN5.out)).trans m1; have n2 := (HB6.out.cell (p := ⟨FB, 2, none⟩) (ltOf HN5.out)).trans m2; have c7 := (HB7.out.cell (p := ⟨DB, 0, none⟩) (ltOf HD5.out)).trans c5; first | (have HN6 := hid ((hb6.block _ (ltOf HNA.out)).trans HNA.out); clear hr6 hb6) | clear hr6 hb6; dsimp only))
          all_goals generalize W5.heap.size = nb1
          all_goals generalize w6.heap.size = nb2
          all_goals first | exact ⟨va', vc', nb1, g', cap, rfl, HZ⟩ | exact ⟨va', vc', nb2, g', cap, rfl, HZ⟩
        intro x y z t u W9 HZ
        clear H64 c5 m0 m1 m2 c5a
        go_wp2
        all_goals go_ret
        all_goals exact ⟨rfl, _, HZ.out, .inr ⟨HL0.out, .inr ⟨f, List.mem_of_getElem? HF.out, HFN.out, HNM.out, rfl⟩⟩⟩

end Go.Proofs.YtlghcldiboecoaaGreatDoor
