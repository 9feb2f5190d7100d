/- The caller's script: Decode. -/
import Derived.Test.YtlghcldiboecoaaGreatDoorDCode
import Derived.Test.YtlghcldiboecoaaGreatDoorKPlays
set_option linter.unusedVariables false
namespace Go.Proofs.YtlghcldiboecoaaGreatDoor
open Go.RowKit

set_option maxRecDepth 8000 in
set_option maxHeartbeats 4000000 in
/-- A step of kind 2 is codes. -/
theorem step_codes2 (w : World) (WB : Nat) (a b c : Int) (s t : ByteArray) (R : World → Prop)
    (HC : Hid (∀ W, Below w.heap.size w W → Calls Tryz.prog 52 #[.pointer (some ⟨WB, 0, none⟩), opv 2 a b c s t] W fun e w' => e = .returned (.bool true) ∧ R w')) :
    Calls Tryz.prog 26 #[.pointer (some ⟨WB, 0, none⟩), opv 2 a b c s t] w fun e w' => e = .returned (.bool true) ∧ R w' := by
  have hbl := below1 w (.cells #[.int .i64 2, .int .i64 a, .int .i64 b, .int .i64 c, .string s, .string t] 76)
  have hob := heap_alloc_new w (.cells #[.int .i64 2, .int .i64 a, .int .i64 b, .int .i64 c, .string s, .string t] 76)
  have o0 := cellOf (j := 0) hob rfl
  have o1 := cellOf (j := 1) hob rfl
  have o2 := cellOf (j := 2) hob rfl
  have o3 := cellOf (j := 3) hob rfl
  have o4 := cellOf (j := 4) hob rfl
  have o5 := cellOf (j := 5) hob rfl
  have HBL := hid hbl
  clear hbl hob
  go_enter Tryz.func26, Tryz.ntmps26
  go_wp2_with (go_at_call 52; refine (HC.out _ HBL.out).mono ?_; rintro e w1 ⟨rfl, hr⟩; have HR := hid hr; clear hr)
  all_goals go_ret
  all_goals exact ⟨rfl, HR.out⟩

set_option maxRecDepth 8000 in
set_option maxHeartbeats 4000000 in
theorem opening_dec (w : World) : Calls Tryz.prog 25 #[] w fun e w' => (∃ g cs, e = .returned (.slice (some ⟨g, 0, none⟩) 17 17) ∧ w'.heap[g]? = some (.cells cs 76) ∧
    (cs[6]? = some (.int .i64 2) ∧ cs[7]? = some (.int .i64 0) ∧ cs[8]? = some (.int .i64 0) ∧ cs[9]? = some (.int .i64 0) ∧ cs[10]? = some (.string ⟨#[63]⟩) ∧ cs[11]? = some (.string ⟨#[1]⟩)) ∧
    ∀ i, i ≠ 1 → i < 17 → ∃ k : Int, cs[i * 6]? = some (.int .i64 k) ∧ k ≠ 2) ∧ Below w.heap.size w w' := by
  have HS := hid (fun W g hg => save_root W g hg)
  have HN := hid (heap_alloc_new w (.cells #[.string ⟨#[47]⟩, .string ⟨#[]⟩, .string ⟨#[]⟩, .int .i64 0, .int .i64 0, .int .i64 0] 115))
  have HB0 := hid (below1 w (.cells #[.string ⟨#[47]⟩, .string ⟨#[]⟩, .string ⟨#[]⟩, .int .i64 0, .int .i64 0, .int .i64 0] 115))
  go_enter Tryz.func25, Tryz.ntmps25
  go_wp2_with (go_at_call 51; refine (HS.out _ _ HN.out).mono ?_; rintro e w1 ⟨⟨ov, code, rfl, bs, hbl, ho⟩, hb⟩; obtain ⟨oa, oc, rfl⟩ := own_shape ho; have hcv := conv_own ho; have HB1 := hid hb; clear ho hb hbl)
  all_goals go_ret
  refine ⟨⟨w1.heap.size, _, rfl, heap_alloc_new _ _, ⟨rfl, rfl, rfl, rfl, rfl, rfl⟩, fun i h1 h2 => ?_⟩, ?_⟩
  · obtain rfl | rfl | rfl | rfl | rfl | rfl | rfl | rfl | rfl | rfl | rfl | rfl | rfl | rfl | rfl | rfl : i = 0 ∨ i = 2 ∨ i = 3 ∨ i = 4 ∨ i = 5 ∨ i = 6 ∨ i = 7 ∨ i = 8 ∨ i = 9 ∨ i = 10 ∨ i = 11 ∨ i = 12 ∨ i = 13 ∨ i = 14 ∨ i = 15 ∨ i = 16 := by omega
    all_goals exact ⟨_, rfl, by decide⟩
  · have hb := HB0.out.trans (HB1.out.mono HB0.out.size)
    exact hb.alloc hb.size _

/-- The tables that Decode looks at. -/
structure Tb (w : World) (WB : Nat) : Prop where
  tabs : Lib.Utf8Tabs 6 7 w
  tab : Table w
  top : gTop ≤ WB

theorem Tb.keep {w w' : World} {WB : Nat} (h : Tb w WB) (hb : Below WB w w') : Tb w' WB :=
  ⟨utf.kept h.top hb h.tabs, h.tab.below hb (by have := h.top; unfold gTop at this; omega), h.top⟩
theorem Tb.lift {w : World} {WB WB' : Nat} (h : Tb w WB) (hle : WB ≤ WB') : Tb w WB' := ⟨h.tabs, h.tab, Nat.le_trans h.top hle⟩

theorem step_dec (w : World) (WB B : Nat) (gv gt : Value) (N : Nat) (ba : Option Addr) (bc : Nat) (flat : List Value) (hbk : Bv w WB B (fun _ => True) gv gt N ba bc flat) (hN : N ≤ 50000000000) (hg : Tb w WB)
    (a b c : Int) (s t : ByteArray) (hs : s.size ≤ 140737488355328) (ht : t.size ≤ 4000000) :
    Calls Tryz.prog 26 #[.pointer (some ⟨WB, 0, none⟩), opv 2 a b c s t] w fun e w' => e = .returned (.bool true) ∧ (∃ N' ba' bc' flat', N' ≤ N + 10000 ∧ Bv w' WB B (fun _ => True) gv gt N' ba' bc' flat') ∧ Fr w w' WB (Value.slice ba N bc).ownBlock := by
  refine step_codes2 w WB a b c s t (fun w' => (∃ N' ba' bc' flat', N' ≤ N + 10000 ∧ Bv w' WB B (fun _ => True) gv gt N' ba' bc' flat') ∧ Fr w w' WB (Value.slice ba N bc).ownBlock) fun W hb => ?_
  have hg' := hg.keep (hb.mono (Nat.le_of_lt (ltOf hbk.blk)))
  refine (codes_dec W WB B gv gt N ba bc flat a b c s t (hbk.below hb) hN hg'.tabs hg'.tab hg'.top hs ht).mono ?_
  rintro e w' ⟨rfl, hB, hfr⟩
  exact ⟨rfl, hB, hfr.after hb⟩

/-- A fresh caller. -/
theorem Bv.new {w : World} {gv gt : Value} (hg : ∃ a n c, gv = .slice a n c) : Bv (w.alloc (.cells #[gv, gt, .slice none 0 0, .slice none 0 0, .slice none 0 0, .slice none 0 0, .slice none 0 0, .slice none 0 0] 73)) w.heap.size (w.heap.size + 1) (fun _ => True) gv gt 0 none 0 [] :=
  ⟨heap_alloc_new _ _, hg, World.ownsRow_nil _ _ _ _, by omega, by simp, fun _ => rfl, fun i hi => by omega, fun _ _ => trivial⟩

/-- What the first caller has. -/
structure F2 (w W : World) (FB : Nat) (gvk gtk : Value) : Prop where
  bk : Bv W FB (FB + 1) (fun _ => True) gvk gtk 0 none 0 []
  low : Below w.heap.size w W
  le : w.heap.size ≤ FB

theorem F2.below {w W W' : World} {FB : Nat} {gvk gtk : Value} (h : F2 w W FB gvk gtk) (hb : Below W.heap.size W W') : F2 w W' FB gvk gtk := ⟨h.bk.below hb, h.low.trans (hb.mono h.low.size), h.le⟩

/-- Halfway through a script. -/
def Pl2 (w W : World) (WB : Nat) (gv gt : Value) (i : Nat) : Prop := (∃ N ba bc flat, N ≤ i * 10000 ∧ Bv W WB (WB + 1) (fun _ => True) gv gt N ba bc flat) ∧ Below w.heap.size w W

theorem Pl2.step {w W : World} {WB : Nat} {gv gt : Value} {i : Nat} (h : Pl2 w W WB gv gt i) (hi : i ≤ 4000000) (hg : Tb w w.heap.size) (hWB : w.heap.size ≤ WB) (a b c : Int) (s t : ByteArray) (hs : s.size ≤ 140737488355328) (ht : t.size ≤ 4000000) :
    Calls Tryz.prog 26 #[.pointer (some ⟨WB, 0, none⟩), opv 2 a b c s t] W fun e w' => e = .returned (.bool true) ∧ Hid (Pl2 w w' WB gv gt (i + 1)) := by
  obtain ⟨⟨N, ba, bc, flat, hN, hbk⟩, hb⟩ := h
  refine (step_dec W WB (WB + 1) gv gt N ba bc flat hbk (by omega) ((hg.keep hb).lift hWB) a b c s t hs ht).mono ?_
  rintro e w' ⟨rfl, ⟨N', ba', bc', flat', hN', hbk'⟩, hfr⟩
  have hlt := ltOf hbk.blk
  exact ⟨rfl, ⟨N', ba', bc', flat', by omega, hbk'⟩, hfr.os.trans hb.os, hfr.tape.trans hb.tape, hfr.output.trans hb.output, Nat.le_trans hb.size hfr.size, fun k hk => (hfr.block k (by have := hb.size; omega) (by omega) (fun e => by have := (hbk.row.lt k e).1; omega)).trans (hb.block k hk)⟩

theorem Pl2.skip {w W : World} {WB : Nat} {gv gt : Value} {i : Nat} (h : Pl2 w W WB gv gt i) : Pl2 w W WB gv gt (i + 1) := by
  obtain ⟨⟨N, ba, bc, flat, hN, hbk⟩, hb⟩ := h
  exact ⟨⟨N, ba, bc, flat, Nat.le_trans hN (Nat.mul_le_mul_right _ (Nat.le_succ i)), hbk⟩, hb⟩

theorem Pl2.whole {w W : World} {WB : Nat} {gv gt : Value} {i : Nat} (h : Pl2 w W WB gv gt i) (hi : i ≤ 4000001) :
    Calls Tryz.prog 27 #[.pointer (some ⟨WB, 4, none⟩)] W fun e w' => e = .returned (.bool true) ∧ Hid (Pl2 w w' WB gv gt i) := by
  obtain ⟨⟨N, ba, bc, flat, hN, hbk⟩, hb⟩ := h
  refine (hbk.whole (by omega)).mono ?_
  rintro e w' ⟨rfl, hb'⟩
  exact ⟨rfl, ⟨N, ba, bc, flat, hN, hbk.below hb'⟩, hb.trans (hb'.mono hb.size)⟩

set_option maxRecDepth 8000 in
set_option maxHeartbeats 2000000 in
theorem plays_dec (w : World) (ga : Option Addr) (gn gc : Nat) (gt : Value) (hgt : ∃ x n m, gt = .slice x n m) (sa : Option Addr) (sn sc : Nat) (hsn : sn ≤ 4000000) (hg : Tb w w.heap.size)
    (HSC : Hid (∀ i, i < sn → ∃ (g o : Nat) (k a b c : Int) (s t : ByteArray), sa = some ⟨g, o, none⟩ ∧ g < w.heap.size ∧ sn ≤ sc ∧ w.cell? ⟨g, o + i * 6, none⟩ = some (.int .i64 k) ∧ w.cell? ⟨g, o + i * 6 + 1, none⟩ = some (.int .i64 a) ∧ w.cell? ⟨g, o + i * 6 + 2, none⟩ = some (.int .i64 b) ∧ w.cell? ⟨g, o + i * 6 + 3, none⟩ = some (.int .i64 c) ∧ w.cell? ⟨g, o + i * 6 + 4, none⟩ = some (.string s) ∧ w.cell? ⟨g, o + i * 6 + 5, none⟩ = some (.string t) ∧ (-9223372036854775808 ≤ a ∧ a ≤ 9223372036854775807) ∧ s.size ≤ 140737488355328 ∧ t.size ≤ 4000000)) :
    Calls Tryz.prog 10 #[.agg #[.slice ga gn gc, gt], .slice sa sn sc, .int .i64 2, .int .i64 2] w fun e w' => e = .returned (.bool true) ∧ Below w.heap.size w w' := by
  obtain ⟨x1, x2, x3, rfl⟩ := hgt
  have HG := hid hg
  clear hg
  go_enter Tryz.func10, Tryz.ntmps10
  have HB0 := hid (below1 w (.cells #[.slice ga gn gc, .slice x1 x2 x3] 25))
  have HGB := hid (heap_alloc_new w (.cells #[.slice ga gn gc, .slice x1 x2 x3] 25))
  go_wp2_with (first
    | (go_at_call 24; refine (known_any _).mono ?_; rintro e w1 ⟨⟨ka, kc, gtk, rfl, ⟨y1, y2, y3, rfl⟩, hka, hkc⟩, hb⟩; have HF : Hid (F2 (w.alloc (.cells #[.slice ga gn gc, .slice x1 x2 x3] 25)) (w1.alloc (.cells #[.slice (some ⟨ka, 0, none⟩) 1 1, .slice y1 y2 y3, .slice none 0 0, .slice none 0 0, .slice none 0 0, .slice none 0 0, .slice none 0 0, .slice none 0 0] 73)) w1.heap.size (.slice (some ⟨ka, 0, none⟩) 1 1) (.slice y1 y2 y3)) := ⟨Bv.new ⟨_, _, _, rfl⟩, hb.alloc hb.size _, hb.size⟩; clear hb hka hkc)
    | (go_at_call 25; refine (opening_dec _).mono ?_; rintro e w3 ⟨⟨sg, cs, rfl, hsg, hc0, hck⟩, hb⟩; have HF3 := hid (HF.out.below hb); have HSG := hid hsg; have HC0 := hid hc0; have HCK := hid hck; have HB3 := hid hb; clear hb hsg hc0 hck HF))
  have HST : Hid (∀ wr, F2 (w.alloc (.cells #[.slice ga gn gc, .slice x1 x2 x3] 25)) wr w1.heap.size (.slice (some ⟨ka, 0, none⟩) 1 1) (.slice y1 y2 y3) → wr.heap[sg]? = some (.cells cs 76) → Calls Tryz.prog 26 #[.pointer (some ⟨w1.heap.size, 0, none⟩), opv 2 0 0 0 ⟨#[63]⟩ ⟨#[1]⟩] wr fun e w' => e = .returned (.bool true) ∧ Hid (w'.heap[sg]? = some (.cells cs 76)) ∧ Hid (Below (w.alloc (.cells #[.slice ga gn gc, .slice x1 x2 x3] 25)).heap.size (w.alloc (.cells #[.slice ga gn gc, .slice x1 x2 x3] 25)) w')) := by
    intro wr hf hs
    have hle := hf.le
    have hfb := ltOf hf.bk.blk
    have hgd : Tb wr w1.heap.size := ((HG.out.keep (HB0.out.trans (hf.low.mono HB0.out.size))).lift (by have := HB0.out.size; omega))
    refine (step_dec wr w1.heap.size (w1.heap.size + 1) _ _ 0 none 0 [] hf.bk (by omega) hgd 0 0 0 ⟨#[63]⟩ ⟨#[1]⟩ (by decide) (by decide)).mono ?_
    rintro e w' ⟨rfl, _, hfr⟩
    have hne : sg ≠ w1.heap.size := by
      intro e
      have h1 := hf.bk.blk
      rw [← e, hs] at h1
      simp at h1
    refine ⟨rfl, (hfr.block sg (ltOf hs) hne (by simp [Value.ownBlock])).trans hs, ⟨hfr.os.trans hf.low.os, hfr.tape.trans hf.low.tape, hfr.output.trans hf.low.output, Nat.le_trans hf.low.size hfr.size, fun b hb => (hfr.block b (by omega) (by omega) (by simp [Value.ownBlock])).trans (hf.low.block b hb)⟩⟩
  go_loopw [11] (fun k wr => ∃ i : Nat, k = .int .i64 i ∧ i ≤ 17 ∧ Hid (i ≤ 1 → F2 (w.alloc (.cells #[.slice ga gn gc, .slice x1 x2 x3] 25)) wr w1.heap.size (.slice (some ⟨ka, 0, none⟩) 1 1) (.slice y1 y2 y3)) ∧ Hid (wr.heap[sg]? = some (.cells cs 76)) ∧ Hid (Below (w.alloc (.cells #[.slice ga gn gc, .slice x1 x2 x3] 25)).heap.size (w.alloc (.cells #[.slice ga gn gc, .slice x1 x2 x3] 25)) wr)) (fun k _ => 17 - (intOf k).toNat)
  case atStart => exact ⟨0, rfl, by omega, fun _ => HF3.out, HSG, HF3.out.low⟩
  case round =>
    obtain ⟨i, rfl, hi, HF, HS, HB⟩ := hrel
    by_cases hlt : i < 17
    · have hltz : (i : Int) < 17 := by omega
      by_cases hi0 : i = 1
      · subst hi0
        obtain ⟨q0, q1, q2, q3, q4, q5⟩ := HC0.out
        have c0 := cellOf (j := 6) HS.out q0
        have c1 := cellOf (j := 7) HS.out q1
        have c2 := cellOf (j := 8) HS.out q2
        have c3 := cellOf (j := 9) HS.out q3
        have c4 := cellOf (j := 10) HS.out q4
        have c5 := cellOf (j := 11) HS.out q5
        have HC26 := hid (HST.out wr (HF.out (by omega)) HS.out)
        clear q0 q1 q2 q3 q4 q5
        go_wp2_with (go_at_call 26; refine HC26.out.mono ?_; rintro e w5 ⟨rfl, HS5, HB5⟩)
        all_goals go_roundw
        all_goals try (case rel => exact ⟨2, rfl, by omega, (fun h => by omega), HS5, HB5⟩)
        all_goals try (case measure => simp [intOf])
      · obtain ⟨k, hk, hk2⟩ := HCK.out i hi0 hlt
        have c0 := cellOf (j := i * 6) HS.out hk
        have HF' : Hid (i + 1 ≤ 1 → F2 (w.alloc (.cells #[.slice ga gn gc, .slice x1 x2 x3] 25)) wr w1.heap.size (.slice (some ⟨ka, 0, none⟩) 1 1) (.slice y1 y2 y3)) := fun h => HF.out (by omega)
        clear hk
        by_cases hk1 : k ≥ 2
        · have hk3 : ¬ k ≤ 2 := by omega
          go_wp2
          all_goals go_roundw
          all_goals try (case rel => exact ⟨i + 1, by go_num, by omega, HF', HS, HB⟩)
          all_goals try (case measure => simp [intOf]; omega)
        · go_wp2
          all_goals go_roundw
          all_goals try (case rel => exact ⟨i + 1, by go_num, by omega, HF', HS, HB⟩)
          all_goals try (case measure => simp [intOf]; omega)
    · have hltz : ¬ (i : Int) < 17 := by omega
      have hgb := (HB.out.block _ (ltOf HGB.out)).trans HGB.out
      have g0 := cellOf (j := 0) hgb rfl
      have g1 := cellOf (j := 1) hgb rfl
      clear hgb
      go_wp2
      have HWB : Hid (w.heap.size ≤ wr.heap.size) := by
        have h1 := HB.out.size
        have h2 := HB0.out.size
        show _ ≤ _
        omega
      have HPL : Hid (Pl2 w (wr.alloc (.cells #[.slice ga gn gc, .slice x1 x2 x3, .slice none 0 0, .slice none 0 0, .slice none 0 0, .slice none 0 0, .slice none 0 0, .slice none 0 0] 73)) wr.heap.size (.slice ga gn gc) (.slice x1 x2 x3) 0) := by
        have hb := HB0.out.trans (HB.out.mono HB0.out.size)
        exact ⟨⟨0, none, 0, [], Nat.zero_le _, Bv.new ⟨_, _, _, rfl⟩⟩, hb.alloc hb.size _⟩
      clear HB HF HS HST HF3 HSG HC0 HCK HB3 g0 g1
      generalize wr.alloc (.cells #[.slice ga gn gc, .slice x1 x2 x3, .slice none 0 0, .slice none 0 0, .slice none 0 0, .slice none 0 0, .slice none 0 0, .slice none 0 0] 73) = W6 at *
      generalize wr.heap.size = WB at *
      go_loopw [14] (fun k wi => ∃ i : Nat, k = .int .i64 i ∧ i ≤ sn ∧ Hid (Pl2 w wi WB (.slice ga gn gc) (.slice x1 x2 x3) i)) (fun k _ => sn - (intOf k).toNat)
      case atStart => exact ⟨0, rfl, by omega, HPL⟩
      case round =>
        obtain ⟨i, rfl, hi, HP⟩ := hrel
        by_cases hlt2 : i < sn
        · have hlt2z : (i : Int) < (sn : Int) := by omega
          obtain ⟨g, o, k, a, b, c, s, t, hsa, hgl, hsc, c0, c1, c2, c3, c4, c5, hra, hss, hst⟩ := HSC.out i hlt2
          subst hsa
          have d0 := (HP.out.2.cell (p := ⟨g, o + i * 6, none⟩) hgl).trans c0
          have d1 := (HP.out.2.cell (p := ⟨g, o + i * 6 + 1, none⟩) hgl).trans c1
          have d2 := (HP.out.2.cell (p := ⟨g, o + i * 6 + 2, none⟩) hgl).trans c2
          have d3 := (HP.out.2.cell (p := ⟨g, o + i * 6 + 3, none⟩) hgl).trans c3
          have d4 := (HP.out.2.cell (p := ⟨g, o + i * 6 + 4, none⟩) hgl).trans c4
          have d5 := (HP.out.2.cell (p := ⟨g, o + i * 6 + 5, none⟩) hgl).trans c5
          clear c0 c1 c2 c3 c4 c5
          by_cases hk : k = 2
          · subst hk
            have HC26 := hid (HP.out.step (by omega) HG.out HWB.out a b c s t hss hst)
            go_wp2_with (first
              | (go_at_call 26; refine HC26.out.mono ?_; rintro e w7 ⟨rfl, HP7⟩; have HC27 := hid (HP7.out.whole (by omega)))
              | (go_at_call 27; refine HC27.out.mono ?_; rintro e w8 ⟨rfl, HP8⟩))
            all_goals go_roundw
            all_goals try (case rel => exact ⟨i + 1, by go_num, by omega, HP8⟩)
            all_goals try (case measure => simp [intOf]; omega)
          · have HP8 : Hid (Pl2 w wr WB (.slice ga gn gc) (.slice x1 x2 x3) (i + 1)) := HP.out.skip
            by_cases hk1 : k < 2
            · go_wp2
              all_goals go_roundw
              all_goals try (case rel => exact ⟨i + 1, by go_num, by omega, HP8⟩)
              all_goals try (case measure => simp [intOf]; omega)
            · have hk2 : k > 2 := by omega
              go_wp2
              all_goals go_roundw
              all_goals try (case rel => exact ⟨i + 1, by go_num, by omega, HP8⟩)
              all_goals try (case measure => simp [intOf]; omega)
        · have hlt2z : ¬ (i : Int) < (sn : Int) := by omega
          go_wp2
          all_goals go_ret
          all_goals exact ⟨rfl, HP.out.2⟩
end Go.Proofs.YtlghcldiboecoaaGreatDoor
