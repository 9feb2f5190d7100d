/- The caller's script. -/
import Derived.Test.YtlghcldiboecoaaGreatDoorKAny
import Derived.Test.YtlghcldiboecoaaGreatDoorKOpen
import Derived.Deep.RegionHeld3
set_option linter.unusedVariables false
namespace Go.Proofs.YtlghcldiboecoaaGreatDoor
open Go.RowKit

/-- The known goods. -/
def knownV : Orch.V := .mk 0 ⟨#[]⟩ [.mk (-2) ⟨#[]⟩ [], .mk 0 ⟨#[97, 98]⟩ []]

theorem known_goods {W : World} {a c FB : Nat} (ha : W.heap[a]? = some (.cells #[.int .i64 0, .string ⟨#[]⟩, .slice (some ⟨c, 0, none⟩) 2 2] 113)) (hc : W.heap[c]? = some (.cells #[.int .i64 (-2), .string ⟨#[]⟩, .slice none 0 0, .int .i64 0, .string ⟨#[97, 98]⟩, .slice none 0 0] 113))
    (haF : a < FB) (hcF : c < FB) (htabs : Lib.Utf8Tabs 6 7 W) (htab : Table W) (htop : gTop ≤ FB) : Goods W FB (fun b => b < FB) [knownV] (.slice (some ⟨a, 0, none⟩) 1 1) := by
  have h2 : WsAt W (fun b => b < FB) knownV.l (.slice (some ⟨c, 0, none⟩) 2 2) := by
    refine WsAt.row [(.mk (-2) ⟨#[]⟩ [], .slice none 0 0), (.mk 0 ⟨#[97, 98]⟩ [], .slice none 0 0)] c 0 2 (by simp) (by simp) hcF (fun j u hj => ?_) (fun p hp => ?_)
    · rw [Nat.zero_add]
      refine cellOf hc ?_
      rw [← Array.getElem?_toList]
      exact hj
    · simp only [List.mem_cons, List.mem_nil_iff, or_false] at hp
      rcases hp with rfl | rfl <;> exact .nil
  refine ⟨?_, fun b hb => hb, by simp, fun v hv => ?_, htabs, htab, htop⟩
  · refine WsAt.row [(knownV, .slice (some ⟨c, 0, none⟩) 2 2)] a 0 1 (by simp) (by simp) haF (fun j u hj => ?_) (fun p hp => ?_)
    · rw [Nat.zero_add]
      refine cellOf ha ?_
      rw [← Array.getElem?_toList]
      exact hj
    · rw [List.mem_singleton] at hp
      subst hp
      exact h2
  · rw [List.mem_singleton] at hv
    subst hv
    refine ⟨.mk _ _ _ ⟨by omega, by omega⟩ (by decide) (by decide) (fun e he => ?_), by decide⟩
    simp only [List.mem_cons, List.mem_nil_iff, or_false] at he
    rcases he with rfl | rfl <;> exact .mk _ _ _ ⟨by omega, by omega⟩ (by decide) (by decide) (fun e he => by cases he)

/-- A fresh caller. -/
theorem Bk.new {w : World} {gv gt : Value} (hg : ∃ a n c, gv = .slice a n c) : Bk (w.alloc (.cells #[gv, gt, .slice none 0 0, .slice none 0 0, .slice none 0 0, .slice none 0 0, .slice none 0 0, .slice none 0 0] 73)) w.heap.size (w.heap.size + 1) gv gt 0 none 0 [] :=
  ⟨heap_alloc_new _ _, hg, World.ownsRow_nil _ _ _ _, by omega, by simp, fun _ => rfl, fun i hi => by omega⟩

/-- What the first caller has. -/
structure F0 (w W : World) (FB a c : Nat) (gtk : Value) : Prop where
  ka : W.heap[a]? = some (.cells #[.int .i64 0, .string ⟨#[]⟩, .slice (some ⟨c, 0, none⟩) 2 2] 113)
  kc : W.heap[c]? = some (.cells #[.int .i64 (-2), .string ⟨#[]⟩, .slice none 0 0, .int .i64 0, .string ⟨#[97, 98]⟩, .slice none 0 0] 113)
  aF : a < FB
  cF : c < FB
  bk : Bk W FB (FB + 1) (.slice (some ⟨a, 0, none⟩) 1 1) gtk 0 none 0 []
  low : Below w.heap.size w W
  le : w.heap.size ≤ FB

theorem F0.below {w W W' : World} {FB a c : Nat} {gtk : Value} (h : F0 w W FB a c gtk) (hb : Below W.heap.size W W') : F0 w W' FB a c gtk :=
  ⟨(hb.block _ (ltOf h.ka)).trans h.ka, (hb.block _ (ltOf h.kc)).trans h.kc, h.aF, h.cF, h.bk.below hb, h.low.trans (hb.mono h.low.size), h.le⟩

theorem F0.goods {w W : World} {FB a c : Nat} {gtk : Value} (h : F0 w W FB a c gtk) (htabs : Lib.Utf8Tabs 6 7 w) (htab : Table w) : Goods W FB (fun b => b < FB) [knownV] (.slice (some ⟨a, 0, none⟩) 1 1) :=
  known_goods h.ka h.kc h.aF h.cF (utf.kept (utf.size htabs) h.low htabs) (htab.below h.low htab.pos) (Nat.le_trans (utf.size htabs) h.le)

theorem after24 {w w1 : World} {a c : Nat} {gtk : Value} (hb : Below w.heap.size w w1) (ha : w1.heap[a]? = some (.cells #[.int .i64 0, .string ⟨#[]⟩, .slice (some ⟨c, 0, none⟩) 2 2] 113)) (hc : w1.heap[c]? = some (.cells #[.int .i64 (-2), .string ⟨#[]⟩, .slice none 0 0, .int .i64 0, .string ⟨#[97, 98]⟩, .slice none 0 0] 113)) :
    Hid (F0 w (w1.alloc (.cells #[.slice (some ⟨a, 0, none⟩) 1 1, gtk, .slice none 0 0, .slice none 0 0, .slice none 0 0, .slice none 0 0, .slice none 0 0, .slice none 0 0] 73)) w1.heap.size a c gtk) := by
  have hb1 := below1 w1 (.cells #[.slice (some ⟨a, 0, none⟩) 1 1, gtk, .slice none 0 0, .slice none 0 0, .slice none 0 0, .slice none 0 0, .slice none 0 0, .slice none 0 0] 73)
  exact ⟨(hb1.block _ (ltOf ha)).trans ha, (hb1.block _ (ltOf hc)).trans hc, ltOf ha, ltOf hc, Bk.new ⟨_, _, _, rfl⟩, hb.trans (hb1.mono hb.size), hb.size⟩

theorem Goods.lift {w : World} {WB WB' : Nat} {S : Nat → Prop} {vs : List Orch.V} {gv : Value} (h : Goods w WB S vs gv) (hle : WB ≤ WB') : Goods w WB' S vs gv :=
  ⟨h.at', fun b hb => Nat.lt_of_lt_of_le (h.low b hb) hle, h.len, h.ok, h.tabs, h.tab, Nat.le_trans h.top hle⟩

/-- Halfway through a script. -/
def Pl (w W : World) (WB : Nat) (gv gt : Value) (i : Nat) : Prop := (∃ N ba bc flat, N ≤ i ∧ Bk W WB (WB + 1) gv gt N ba bc flat) ∧ Below w.heap.size w W

theorem Pl.step {w W : World} {WB : Nat} {gv gt : Value} {i : Nat} (h : Pl w W WB gv gt i) (hi : i ≤ 100000000) {S : Nat → Prop} {vs : List Orch.V} (hg : Goods w w.heap.size S vs gv) (hWB : w.heap.size ≤ WB) (a b c : Int) (s t : ByteArray) (h0 : -9223372036854775808 ≤ a) (h1 : a ≤ 9223372036854775807) (hs : s.size ≤ 140737488355328) :
    Calls Tryz.prog 26 #[.pointer (some ⟨WB, 0, none⟩), opv 1 a b c s t] W fun e w' => e = .returned (.bool true) ∧ Hid (Pl w w' WB gv gt (i + 1)) := by
  obtain ⟨⟨N, ba, bc, flat, hN, hbk⟩, hb⟩ := h
  refine (step_any W WB (WB + 1) gv gt N ba bc flat hbk (by omega) S vs ((hg.keep hb).lift hWB) a b c s t h0 h1 hs).mono ?_
  rintro e w' ⟨rfl, ⟨N', ba', bc', flat', hN', hbk'⟩, hfr⟩
  have hlt := ltOf hbk.blk
  exact ⟨rfl, ⟨N', ba', bc', flat', by omega, hbk'⟩, hfr.os.trans hb.os, hfr.tape.trans hb.tape, hfr.output.trans hb.output, Nat.le_trans hb.size hfr.size, fun k hk => (hfr.block k (by omega) (by omega) (fun e => by have := (hbk.row.lt k e).1; omega)).trans (hb.block k hk)⟩

theorem Pl.whole {w W : World} {WB : Nat} {gv gt : Value} {i : Nat} (h : Pl w W WB gv gt i) (hi : i ≤ 100000001) :
    Calls Tryz.prog 27 #[.pointer (some ⟨WB, 4, none⟩)] W fun e w' => e = .returned (.bool true) ∧ Hid (Pl w w' WB gv gt i) := by
  obtain ⟨⟨N, ba, bc, flat, hN, hbk⟩, hb⟩ := h
  refine (hbk.whole (by omega)).mono ?_
  rintro e w' ⟨rfl, hb'⟩
  exact ⟨rfl, ⟨N, ba, bc, flat, hN, hbk.below hb'⟩, hb.trans (hb'.mono hb.size)⟩

set_option maxRecDepth 8000 in
set_option maxHeartbeats 8000000 in
theorem plays_enc (w : World) (ga : Option Addr) (gn gc : Nat) (gt : Value) (hgt : ∃ x n m, gt = .slice x n m) (sa : Option Addr) (sn sc : Nat) (hsn : sn ≤ 100000000) (S : Nat → Prop) (vs : List Orch.V) (hg : Goods w w.heap.size S vs (.slice ga gn gc))
    (HSC : Hid (∀ i, i < sn → ∃ (g o : Nat) (k a b c : Int) (s t : ByteArray), sa = some ⟨g, o, none⟩ ∧ g < w.heap.size ∧ sn ≤ sc ∧ w.cell? ⟨g, o + i * 6, none⟩ = some (.int .i64 k) ∧ w.cell? ⟨g, o + i * 6 + 1, none⟩ = some (.int .i64 a) ∧ w.cell? ⟨g, o + i * 6 + 2, none⟩ = some (.int .i64 b) ∧ w.cell? ⟨g, o + i * 6 + 3, none⟩ = some (.int .i64 c) ∧ w.cell? ⟨g, o + i * 6 + 4, none⟩ = some (.string s) ∧ w.cell? ⟨g, o + i * 6 + 5, none⟩ = some (.string t) ∧ (-9223372036854775808 ≤ a ∧ a ≤ 9223372036854775807) ∧ s.size ≤ 140737488355328)) :
    Calls Tryz.prog 10 #[.agg #[.slice ga gn gc, gt], .slice sa sn sc, .int .i64 1, .int .i64 1] w fun e w' => e = .returned (.bool true) ∧ Below w.heap.size w w' := by
  obtain ⟨x1, x2, x3, rfl⟩ := hgt
  have HG := hid hg
  clear hg
  go_enter Tryz.func10, Tryz.ntmps10
  have HB0 := hid (below1 w (.cells #[.slice ga gn gc, .slice x1 x2 x3] 25))
  have HGB := hid (heap_alloc_new w (.cells #[.slice ga gn gc, .slice x1 x2 x3] 25))
  go_wp2_with (first
    | (go_at_call 24; refine (known_any _).mono ?_; rintro e w1 ⟨⟨ka, kc, gtk, rfl, ⟨y1, y2, y3, rfl⟩, hka, hkc⟩, hb⟩; have HF := after24 (gtk := .slice y1 y2 y3) hb hka hkc; clear hb hka hkc)
    | (go_at_call 25; refine (opening_any _).mono ?_; rintro e w3 ⟨⟨sg, cs, rfl, hsg, hc0, hck⟩, hb⟩; have HF3 := hid (HF.out.below hb); have HSG := hid hsg; have HC0 := hid hc0; have HCK := hid hck; have HB3 := hid hb; clear hb hsg hc0 hck HF))
  have HST : Hid (∀ wr, F0 (w.alloc (.cells #[.slice ga gn gc, .slice x1 x2 x3] 25)) wr w1.heap.size ka kc (.slice y1 y2 y3) → wr.heap[sg]? = some (.cells cs 76) → Calls Tryz.prog 26 #[.pointer (some ⟨w1.heap.size, 0, none⟩), opv 1 0 0 0 ⟨#[40, 52, 116, 41]⟩ ⟨#[]⟩] wr fun e w' => e = .returned (.bool true) ∧ Hid (w'.heap[sg]? = some (.cells cs 76)) ∧ Hid (Below (w.alloc (.cells #[.slice ga gn gc, .slice x1 x2 x3] 25)).heap.size (w.alloc (.cells #[.slice ga gn gc, .slice x1 x2 x3] 25)) w')) := by
    intro wr hf hs
    have hgd := hf.goods (utf.kept (utf.size HG.out.tabs) HB0.out HG.out.tabs) (HG.out.tab.below HB0.out HG.out.tab.pos)
    refine (step_any wr w1.heap.size (w1.heap.size + 1) _ _ 0 none 0 [] hf.bk (by omega) (fun b => b < w1.heap.size) [knownV] hgd 0 0 0 ⟨#[40, 52, 116, 41]⟩ ⟨#[]⟩ (by omega) (by omega) (by decide)).mono ?_
    rintro e w' ⟨rfl, _, hfr⟩
    have hne : sg ≠ w1.heap.size := by
      intro e
      have h1 := hf.bk.blk
      rw [← e, hs] at h1
      simp at h1
    have hle := hf.le
    have hfb := ltOf hf.bk.blk
    refine ⟨rfl, (hfr.block sg (ltOf hs) hne (by simp [Value.ownBlock])).trans hs, ⟨hfr.os.trans hf.low.os, hfr.tape.trans hf.low.tape, hfr.output.trans hf.low.output, Nat.le_trans hf.low.size hfr.size, fun b hb => (hfr.block b (by omega) (by omega) (by simp [Value.ownBlock])).trans (hf.low.block b hb)⟩⟩
  go_loopw [11] (fun k wr => ∃ i : Nat, k = .int .i64 i ∧ i ≤ 17 ∧ Hid (i = 0 → F0 (w.alloc (.cells #[.slice ga gn gc, .slice x1 x2 x3] 25)) wr w1.heap.size ka kc (.slice y1 y2 y3)) ∧ Hid (wr.heap[sg]? = some (.cells cs 76)) ∧ Hid (Below (w.alloc (.cells #[.slice ga gn gc, .slice x1 x2 x3] 25)).heap.size (w.alloc (.cells #[.slice ga gn gc, .slice x1 x2 x3] 25)) wr)) (fun k _ => 17 - (intOf k).toNat)
  case atStart => exact ⟨0, rfl, by omega, fun _ => HF3.out, HSG, HF3.out.low⟩
  case round =>
    obtain ⟨i, rfl, hi, HF, HS, HB⟩ := hrel
    by_cases hlt : i < 17
    · have hltz : (i : Int) < 17 := by omega
      by_cases hi0 : i = 0
      · subst hi0
        obtain ⟨q0, q1, q2, q3, q4, q5⟩ := HC0.out
        have c0 := cellOf (j := 0) HS.out q0
        have c1 := cellOf (j := 1) HS.out q1
        have c2 := cellOf (j := 2) HS.out q2
        have c3 := cellOf (j := 3) HS.out q3
        have c4 := cellOf (j := 4) HS.out q4
        have c5 := cellOf (j := 5) HS.out q5
        have HC26 := hid (HST.out wr (HF.out rfl) HS.out)
        clear q0 q1 q2 q3 q4 q5
        go_wp2_with (go_at_call 26; refine HC26.out.mono ?_; rintro e w5 ⟨rfl, HS5, HB5⟩)
        all_goals go_roundw
        all_goals try (case rel => exact ⟨1, rfl, by omega, (fun h => by omega), HS5, HB5⟩)
        all_goals try (case measure => simp [intOf])
      · obtain ⟨k, hk, hk2, hk21⟩ := HCK.out i (by omega) hlt
        have c0 := cellOf (j := i * 6) HS.out hk
        have hk1 : k ≥ 1 := by omega
        have hk3 : ¬ k ≤ 1 := by omega
        clear hk
        go_wp2
        all_goals go_roundw
        all_goals try (case rel => exact ⟨i + 1, by go_num, by omega, (fun h => by omega), HS, HB⟩)
        all_goals try (case measure => simp [intOf]; omega)
    · have hltz : ¬ (i : Int) < 17 := by omega
      have hgb := (HB.out.block _ (ltOf HGB.out)).trans HGB.out
      have g0 := cellOf (j := 0) hgb rfl
      have g1 := cellOf (j := 1) hgb rfl
      clear hgb
      go_wp2
      have HWB : Hid (w.heap.size ≤ wr.heap.size) := by
        have h1 := HB.out.size
        have h2 := HB0.out.size
        show _ ≤ _
        omega
      have HPL : Hid (Pl w (wr.alloc (.cells #[.slice ga gn gc, .slice x1 x2 x3, .slice none 0 0, .slice none 0 0, .slice none 0 0, .slice none 0 0, .slice none 0 0, .slice none 0 0] 73)) wr.heap.size (.slice ga gn gc) (.slice x1 x2 x3) 0) := by
        have hb := HB0.out.trans (HB.out.mono HB0.out.size)
        exact ⟨⟨0, none, 0, [], Nat.le_refl _, Bk.new ⟨_, _, _, rfl⟩⟩, hb.alloc hb.size _⟩
      clear HB HF HS HST HF3 HSG HC0 HCK HB3 g0 g1
      generalize wr.alloc (.cells #[.slice ga gn gc, .slice x1 x2 x3, .slice none 0 0, .slice none 0 0, .slice none 0 0, .slice none 0 0, .slice none 0 0, .slice none 0 0] 73) = W6 at *
      generalize wr.heap.size = WB at *
      go_loopw [14] (fun k wi => ∃ i : Nat, k = .int .i64 i ∧ i ≤ sn ∧ Hid (Pl w wi WB (.slice ga gn gc) (.slice x1 x2 x3) i)) (fun k _ => sn - (intOf k).toNat)
      case atStart => exact ⟨0, rfl, by omega, HPL⟩
      case round =>
        obtain ⟨i, rfl, hi, HP⟩ := hrel
        by_cases hlt2 : i < sn
        · have hlt2z : (i : Int) < (sn : Int) := by omega
          obtain ⟨g, o, k, a, b, c, s, t, hsa, hgl, hsc, c0, c1, c2, c3, c4, c5, hra, hss⟩ := HSC.out i hlt2
          subst hsa
          have d0 := (HP.out.2.cell (p := ⟨g, o + i * 6, none⟩) hgl).trans c0
          have d1 := (HP.out.2.cell (p := ⟨g, o + i * 6 + 1, none⟩) hgl).trans c1
          have d2 := (HP.out.2.cell (p := ⟨g, o + i * 6 + 2, none⟩) hgl).trans c2
          have d3 := (HP.out.2.cell (p := ⟨g, o + i * 6 + 3, none⟩) hgl).trans c3
          have d4 := (HP.out.2.cell (p := ⟨g, o + i * 6 + 4, none⟩) hgl).trans c4
          have d5 := (HP.out.2.cell (p := ⟨g, o + i * 6 + 5, none⟩) hgl).trans c5
          clear c0 c1 c2 c3 c4 c5
          by_cases hk : k = 1
          · subst hk
            have HC26 := hid (HP.out.step (by omega) HG.out HWB.out a b c s t hra.1 hra.2 hss)
            go_wp2_with (first
              | (go_at_call 26; refine HC26.out.mono ?_; rintro e w7 ⟨rfl, HP7⟩; have HC27 := hid (HP7.out.whole (by omega)))
              | (go_at_call 27; refine HC27.out.mono ?_; rintro e w8 ⟨rfl, HP8⟩))
            all_goals go_roundw
            all_goals try (case rel => exact ⟨i + 1, by go_num, by omega, HP8⟩)
            all_goals try (case measure => simp [intOf]; omega)
          · have HP8 : Hid (Pl w wr WB (.slice ga gn gc) (.slice x1 x2 x3) (i + 1)) := by
              obtain ⟨⟨N, ba, bc, flat, hN, hbk⟩, hb⟩ := HP.out
              exact ⟨⟨N, ba, bc, flat, by omega, hbk⟩, hb⟩
            by_cases hk1 : k < 1
            · go_wp2
              all_goals go_roundw
              all_goals try (case rel => exact ⟨i + 1, by go_num, by omega, HP8⟩)
              all_goals try (case measure => simp [intOf]; omega)
            · have hk2 : k > 1 := by omega
              go_wp2
              all_goals go_roundw
              all_goals try (case rel => exact ⟨i + 1, by go_num, by omega, HP8⟩)
              all_goals try (case measure => simp [intOf]; omega)
        · have hlt2z : ¬ (i : Int) < (sn : Int) := by omega
          go_wp2
          all_goals go_ret
          all_goals exact ⟨rfl, HP.out.2⟩
end Go.Proofs.YtlghcldiboecoaaGreatDoor
