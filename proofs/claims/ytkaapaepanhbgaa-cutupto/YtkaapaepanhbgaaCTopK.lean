/- Cut: its beginning. -/
import Derived.Test.YtkaapaepanhbgaaCTopI
set_option linter.unusedVariables false
set_option linter.unusedSimpArgs false
namespace Go.Proofs.Ytkaapaepanhbgaa
open Go Go.Conc Go.Pair Go.RowKit
theorem body3_eq : body3 = .seq (.region 0 (Code.ops (Code.one body3)) false) (.seq (.region 1 (Code.ops (Code.one (Code.two body3))) false) c2) := rfl
theorem c2_eq : c2 = .seq (.seq (.region 2 (Code.ops (Code.one (Code.one c2))) false) (.block 0 (.loop LA))) c3 := rfl
section
variable {Post : Value → World → Prop} {W w w' w₁ : World} {bv tv cv : Value} {cs : List Frame}

theorem app_two (w : World) (x y : Value) : AppS w 9 (.slice none 0 0) [x, y] (.slice (some ⟨w.heap.size, 0, none⟩) 2 2) (w.alloc (.cells #[x, y] 9)) := by
  have hh : (w.alloc (.cells #[x, y] 9)).heap = w.heap.push (.cells #[x, y] 9) := rfl
  refine ⟨.inr ⟨w.heap.size, 2, _, rfl, by simp, push_new hh, rfl, fun i hi => ?_, by simp only [maxLen]; omega⟩, by rw [hh, Array.size_push]; omega, fun i hi _ => push_old hh hi, fun g hg => by simp [Value.ownBlock] at hg; right; omega, fun i hi => by simp [Value.ownBlock] at hi⟩
  match i, hi with
  | 0, _ => rfl
  | 1, _ => rfl
  | i + 2, hi => simp at hi; omega

set_option maxRecDepth 100000 in
set_option maxHeartbeats 4000000 in
theorem enterA (hnext : ∀ w' (s' : Nat → Value) want, s' 0 = bv → s' 1 = tv → s' 2 = cv → s' 6 = .bool false → s' 7 = want → s' 8 = .int .i64 0 → AppS W 9 (.slice none 0 0) [.string ⟨#[104, 105]⟩, .string ⟨#[]⟩] want w' → EA Try.prog Post S0 (G ((base 3).at (CAct s') (.code LA :: LKA)) cs) w') :
    EA Try.prog Post S0 (G ((base 3).at ⟨#[bv, tv, cv] ++ Array.replicate 152 undef, []⟩ [.code body3]) cs) W := by
  have T := termsS S0
  have key : ∀ (j : Nat) (a : Act) (w' : World) (want : Value), (∃ s', a = CAct s' ∧ s' 0 = bv ∧ s' 1 = tv ∧ s' 2 = cv ∧ s' 6 = .bool false ∧ s' 7 = want ∧ s' 8 = .int .i64 0) → AppS W 9 (.slice none 0 0) [.string ⟨#[104, 105]⟩, .string ⟨#[]⟩] want w' →
      Goes Try.prog true AtRel (DS S0) (EA Try.prog Post S0) j (G ((base 3).at a (.code LA :: LKA)) cs) w' := fun j a w' want ⟨s', e, g0, g1, g2, g6, g7, g8⟩ hF => by
    rw [e]
    exact EA.stop (hnext w' s' want g0 g1 g2 g6 g7 g8 hF)
  have hF := AppS.refl (row_nil W 9)
  refine EA.goes (n := 16) ?_
  simp only [Array.replicate_succ, Array.replicate_zero, List.push_toArray, List.append_toArray, List.nil_append, List.cons_append]
  rw [body3_eq]
  refine goes_ctl T rfl (fun _ => stepG_seq) ?_
  simp only [Code.ops, body3, Code.core, Code.one, Code.two, Try.f3, Option.getD_some]
  refine goes_ctl T rfl (fun _ => stepG_region) ?_
  simp only [List.size_toArray, List.length_cons, List.length_nil, Nat.reduceAdd, Nat.zero_add, List.range, List.range.loop]
  refine goes_op rfl (by rfl) (by decide) fun _ hRz Kz hKz => ?_
  replace hF := AppS.rely hF hRz
  clear hRz
  (skip)
  go_simp
  try (unfold stored; go_simp)
  refine hKz _ _ ⟨?_, ?_⟩
  · (co_quiet T)
  clear hKz Kz
  try walk_nrm
  refine goes_ctl T rfl (fun _ => stepG_region_end) ?_
  refine goes_ctl T rfl (fun _ => stepG_seq) ?_
  refine goes_ctl T rfl (fun _ => stepG_region) ?_
  simp only [List.size_toArray, List.length_cons, List.length_nil, Nat.reduceAdd, Nat.zero_add, List.range, List.range.loop]
  refine goes_op rfl (by rfl) (by decide) fun _ hRz Kz hKz => ?_
  replace hF := AppS.rely hF hRz
  clear hRz
  (have hbs := fun w => bs2_run w ⟨#[104, 105]⟩ ⟨#[]⟩; have hbe := fun w es => bs2_ev w es ⟨#[104, 105]⟩ ⟨#[]⟩)
  go_simp
  try (unfold stored; go_simp)
  refine hKz _ _ ⟨?_, ?_⟩
  · (rw [listed_nil (by simp [go_sem, hbe])]; exact ds_alloc _ _)
  clear hKz Kz
  try walk_nrm
  replace hF := hF.trans (app_two _ (.string ⟨#[104, 105]⟩) (.string ⟨#[]⟩))
  rename_i wz
  generalize wz.heap.size = r at hF ⊢
  clear hbs hbe
  refine goes_op rfl (by rfl) (by decide) fun _ hRz Kz hKz => ?_
  replace hF := AppS.rely hF hRz
  clear hRz
  (skip)
  go_simp
  try (unfold stored; go_simp)
  refine hKz _ _ ⟨?_, ?_⟩
  · (co_quiet T)
  clear hKz Kz
  try walk_nrm
  refine goes_ctl T rfl (fun _ => stepG_region_end) ?_
  rw [c2_eq]
  refine goes_ctl T rfl (fun _ => stepG_seq) ?_
  refine goes_ctl T rfl (fun _ => stepG_seq) ?_
  simp only [Code.ops, c2, body3, Code.core, Code.one, Code.two, Try.f3, Option.getD_some]
  refine goes_ctl T rfl (fun _ => stepG_region) ?_
  simp only [List.size_toArray, List.length_cons, List.length_nil, Nat.reduceAdd, Nat.zero_add, List.range, List.range.loop]
  refine goes_op rfl (by rfl) (by decide) fun _ hRz Kz hKz => ?_
  replace hF := AppS.rely hF hRz
  clear hRz
  (skip)
  go_simp
  try (unfold stored; go_simp)
  refine hKz _ _ ⟨?_, ?_⟩
  · (co_quiet T)
  clear hKz Kz
  try walk_nrm
  refine goes_ctl T rfl (fun _ => stepG_region_end) ?_
  refine goes_ctl T rfl (fun _ => stepG_block) ?_
  refine goes_ctl T rfl (fun _ => stepG_loop) ?_
  exact key _ _ _ _ (cget rfl ⟨rfl, rfl, rfl, rfl, rfl, rfl⟩) hF
end
end Go.Proofs.Ytkaapaepanhbgaa

/- Cut, from its beginning to its return. -/
set_option linter.unusedVariables false
set_option linter.unusedSimpArgs false
namespace Go.Proofs.Ytkaapaepanhbgaa
open Go Go.Conc Go.Pair Go.RowKit

theorem stepG_out {P : Program} {b : Frame} {a : Act} {todo : List Item} {fn : Func} {v : Value} {w : World} (hn : b.kind = .normal) (hd : a.defers = []) (hf : P.funcs[b.fn]? = some fn) (hr : (results fn a.tmps).run P w = .ok v w) (he : (results fn a.tmps).events P w #[] = #[]) (hi : P.inits.idxOf? b.fn = none) :
    stepG P true (G { b.at a todo with mode := .returning } []) w = .ended (.done v) w #[] := by
  simp [G, stepG, unwind, doReturn, Frame.at, hn, hd, hf, hr, he, hi, seen, GStep.after]

theorem inits3 : Try.prog.inits.idxOf? (base 3).fn = none := by first | rfl | kernel_rfl | decide +kernel
section
variable {Post : Value → World → Prop} {W w w' w₁ : World}

theorem bytesW_of {bytes : List UInt8} {all : Value} (h : RowIs w 5 (bc bytes) all) (h0 : bytes ≠ []) : ∃ g cap, all = .slice (some ⟨g, 0, none⟩) bytes.length cap ∧ BytesW w (some ⟨g, 0, none⟩) bytes cap := by
  rcases h with ⟨_, h⟩ | ⟨q, c, cells, h1, h2, h3, h4, h5, h6⟩
  · exact absurd (List.map_eq_nil_iff.1 h) h0
  · rw [bc_len] at h1 h2
    refine ⟨q, c, h1, q, 0, cells, rfl, h3, fun i hi => ?_, h2, h6⟩
    have := h5 i (by rw [bc_len]; exact hi)
    rw [Nat.zero_add, this]
    simp [bc]

theorem listAt_of {N0 : Nat} {sent : List (List UInt8 × Value)} {l : Value} {S : Loc → Prop} (h : ToldOut W N0 sent l S w) : ListAt w sent l := ⟨h.list, fun x hx => let ⟨r, _, h1, h2⟩ := h.msg x hx; ⟨r, h1, h2⟩⟩

/-- A list that was told: not empty. -/
theorem list_addr {sent : List (List UInt8 × Value)} {l : Value} (h : ListAt w sent l) (h0 : 0 < sent.length) : ∃ g c, l = .slice (some ⟨g, 0, none⟩) sent.length c := by
  rcases h.1 with ⟨_, h⟩ | ⟨q, c, cells, h1, _⟩
  · have := congrArg List.length h
    simp at this
    simp [this] at h0
  · exact ⟨q, c, by rw [h1, List.length_map]⟩

set_option maxRecDepth 100000 in
set_option maxHeartbeats 4000000 in
theorem cut_runs {bodies : List ByteArray} {tail : ByteArray} {cuts : List Int} {ba ca : Option Addr} {bcap cc : Nat} (hB : StrsAt W ba bodies) (hcu : CutsAt W W.heap.size ca cuts) (hcl : cuts.length < 9223372036854775805) (hbig : (bodies.length + 2) * 1004 + 2000 + tail.size ≤ 4294967295)
    (hPost : ∀ w', W.heap.size ≤ w'.heap.size → (∀ i, i < W.heap.size → w'.heap[i]? = W.heap[i]?) → Post (.bool true) w') :
    EA Try.prog Post S0 (G ((base 3).at ⟨#[.slice ba bodies.length bcap, .string tail, .slice ca cuts.length cc] ++ Array.replicate 152 undef, []⟩ [.code body3]) []) W := by
  have hret : ∀ (S : Loc → Prop) w' a todo, W.heap.size ≤ w'.heap.size → (∀ i, i < W.heap.size → w'.heap[i]? = W.heap[i]?) → a.defers = [] → a.tmps.getD 6 undef = .bool true → EA Try.prog Post S (G { (base 3).at a todo with mode := .returning } []) w' := fun S w' a todo h1 h2 hd h6 d =>
    Ends.ret rfl fun n => ⟨.bool true, #[], by rw [stepG_out rfl hd Try.func3 (results_tmp (t := 6) (by rfl) _ _ _) (events_results_tmp (t := 6) (by rfl) _ _) inits3, h6], by simp, ⟨rfl, rfl⟩, hPost _ h1 h2⟩
  have hbl : bodies.length + 2 ≤ 4300000 := by omega
  refine enterA fun w1 s1 want1 g0 g1 g2 g6 g7 g8 hF1 => ?_
  refine loopA (bodies := bodies) hB (by omega) rfl _ _ (fun w2 s2 want g0 g1 g2 g6 g7 hF2 => ?_) bodies 0 w1 s1 want1 (by simp) (by omega) g0 g1 g2 g6 g7 g8 (by simpa using hF1)
  obtain ⟨ws, hws⟩ : ∃ ws : List ByteArray, ws = (⟨#[104, 105]⟩ : ByteArray) :: ⟨#[]⟩ :: bodies.map cutS := ⟨_, rfl⟩
  have hwl : ws.length = bodies.length + 2 := by rw [hws]; simp
  have hwm : (Value.string ⟨#[104, 105]⟩ :: Value.string ⟨#[]⟩ :: bodies.map fun b => Value.string (cutS b)) = ws.map fun b => .string b := by rw [hws]; simp
  rw [hwm] at hF2
  have hwsz : ∀ b ∈ ws, b.size ≤ 1000 := fun b hb => by
    rw [hws] at hb
    rcases List.mem_cons.1 hb with rfl | hb
    · decide
    rcases List.mem_cons.1 hb with rfl | hb
    · decide
    obtain ⟨x, _, rfl⟩ := List.mem_map.1 hb
    unfold cutS
    split
    · simp; omega
    · omega
  have hw2 : WantAt w2 want ws := wantAt hF2.row (by rw [hws]; simp)
  have hs2 := hF2.size
  refine enterB (ws := ws) g0 g1 g2 g6 g7 (AppS.refl (row_nil w2 5)) fun w3 s3 g0 g1 g2 g6 g7 g9 g10 hF3 => ?_
  refine loopB hw2 (by rw [hwl]; omega) hwsz (fun w4 s4 all4 g0 g1 g2 g6 g7 g9 hF4 => ?_) ws 0 w3 s3 _ (by simp) (by omega) g0 g1 g2 g6 g7 g9 g10 (by simpa [bc] using hF3)
  obtain ⟨fs, hfs⟩ : ∃ fs : List UInt8, fs = (ws.map fun b => frameOf (sb b)).flatten := ⟨_, rfl⟩
  rw [← hfs] at hF4
  have hfl : fs.length ≤ ws.length * 1004 := by
    rw [hfs]
    clear hfs hF4
    have : ∀ us : List ByteArray, (∀ b ∈ us, b.size ≤ 1000) → ((us.map fun b => frameOf (sb b)).flatten).length ≤ us.length * 1004 := by
      intro us
      induction us with
      | nil => simp
      | cons b us ih =>
        intro h
        have h1 := ih fun x hx => h x (by simp [hx])
        have h2 := h b (by simp)
        have h3 : (frameOf (sb b)).length = 4 + b.size := by simp [frameOf, hdr, sb_len]; omega
        simp only [List.map_cons, List.flatten_cons, List.length_append, List.length_cons]
        omega
    exact this ws hwsz
  have hf4 : 4 ≤ fs.length := by
    rw [hfs, hws]
    simp only [List.map_cons, List.flatten_cons, List.length_append]
    have : (frameOf (sb ⟨#[104, 105]⟩)).length = 6 := rfl
    omega
  rw [hwl] at hfl
  have htl := sb_len tail
  refine tailC rfl g0 g1 g2 g6 g7 g9 (by rw [bc_len]; omega) hF4 fun w5 s5 all5 g0 g1 g2 g6 g7 g9 hF5 => ?_
  rw [← bc_app] at hF5
  obtain ⟨bytes, hby⟩ : ∃ bytes : List UInt8, bytes = fs ++ sb tail := ⟨_, rfl⟩
  rw [← hby] at hF5
  have hbyl : bytes.length = fs.length + tail.size := by rw [hby, List.length_append, htl]
  obtain ⟨g, cap, hall, hbw⟩ := bytesW_of hF5.row (by intro e; rw [e] at hbyl; simp at hbyl; omega)
  have hs5 := hF5.size
  obtain ⟨B1, q1, t1, hT1⟩ := told_any [] [] false bytes okP_nil
  obtain ⟨B2, q2, t2, hT2⟩ := told_any cuts [] false bytes okP_nil
  have hr1 := hT1.run okP_nil (fun h => by cases h)
  have hr2 := hT2.run okP_nil (fun h => by cases h)
  rw [hr1] at hr2
  simp only [Prod.mk.injEq] at hr2
  obtain ⟨rfl, rfl, rfl⟩ := hr2
  simp only [feedB, Bool.false_eq_true, if_false] at hr1
  have hcount := runB_count bytes []
  rw [hr1] at hcount
  have hrun := runB_frames (ws.map sb) (sb tail) (fun b hb => by obtain ⟨x, hx, rfl⟩ := List.mem_map.1 hb; rw [sb_len]; exact hwsz x hx)
  rw [List.map_map, show ((fun b => frameOf b) ∘ sb) = fun b => frameOf (sb b) from rfl] at hrun
  rw [show (List.map (fun b => frameOf (sb b)) ws).flatten = fs from hfs.symm, ← hby, hr1] at hrun
  simp only [Prod.mk.injEq] at hrun
  obtain ⟨hB1, hq1⟩ := hrun
  refine told1 (N0 := W.heap.size) hall g0 g1 g2 g6 g7 g9 hT1 (by omega) hbw (by omega) (by simp at hcount; omega) fun w6 s6 sent1 l S1 g0 g1 g2 g6 g7 g9 g13 g14 g15 hs1 hO1 => ?_
  have k5 : ∀ i, i < W.heap.size → w5.heap[i]? = W.heap[i]? := fun i hi => by rw [AppS.keep0 hF5 (by omega), AppS.keep0 hF2 hi]
  have hs6 := hO1.size
  have k6 : ∀ i, i < W.heap.size → w6.heap[i]? = W.heap[i]? := fun i hi => by rw [hO1.old i (by omega), k5 i hi]
  have hcu6 : CutsAt w6 W.heap.size ca cuts := fun i hi => by
    obtain ⟨h1, ad, h2, h3, h4, h5⟩ := hcu i hi
    exact ⟨h1, ad, h2, (World.cell?_of_block (k6 _ h5)).trans h3, h4, by omega⟩
  have hbw6 : BytesW w6 (some ⟨g, 0, none⟩) bytes cap := by
    obtain ⟨x', o', c', e, h1, h2⟩ := hbw
    exact ⟨x', o', c', e, by rw [hO1.old _ (lt_of_get h1)]; exact h1, h2⟩
  refine told2 (N0 := W.heap.size) hall rfl g0 g1 g2 g6 g7 g9 g13 g14 g15 hT2 (by omega) hcu6 hcl hbw6 (by omega) (by simp at hcount; omega) hO1.shun hO1.top fun w7 s7 sent2 k S2 g0 g1 g2 g6 g7 g13 g14 g15 g16 g17 g18 hs2' hO2 => ?_
  have hs7 := hO2.size
  have k7 : ∀ i, i < W.heap.size → w7.heap[i]? = W.heap[i]? := fun i hi => by rw [hO2.old i (by omega), k6 i hi]
  have kw : ∀ i, i < w2.heap.size → w7.heap[i]? = w2.heap[i]? := fun i hi => by rw [hO2.old i (by omega), hO1.old i (by omega), AppS.keep0 hF5 hi]
  have hrow7 : RowIs w7 9 (ws.map fun b => .string b) want := RowIs.back hF2.row (fun q o _ ho => by rw [kw q (lt_of_get ho)]; exact ho)
  have hTD : TD W want ws sent1 l sent2 k S2 w7 := ⟨hw2.keep (by omega) kw, (listAt_of hO1).keep hO2.old, listAt_of hO2, hO2.shun, fun ad c e i => by
    rcases hrow7 with ⟨e', _⟩ | ⟨q, c', cells, e', _, h3, _⟩
    · rw [e'] at e; cases e
    · rw [e'] at e
      simp only [Value.slice.injEq, Option.some.injEq] at e
      obtain ⟨rfl, _⟩ := e
      exact hO2.shun.notA (by rw [addBlock]; exact h3) (by simp [kindOf]), by omega, k7⟩
  have hn1 : sent1.length = B1.length := by rw [← hs1]; simp
  have hn2 : sent2.length = B1.length := by rw [← hs2']; simp
  have hBl : ws.length ≤ B1.length := by rw [hB1]; simp
  obtain ⟨lg, lc, hl⟩ := list_addr hTD.l (by rw [hn1]; omega)
  obtain ⟨kg, kc, hk⟩ := list_addr hTD.k (by rw [hn2]; omega)
  rw [hn1] at hl
  rw [hn2] at hk
  obtain ⟨ad, wc, hwv, _⟩ := id hTD.hwant
  have hE : ((if t1 = true then 4 else 0 : Int)) = ((if t1 = true then 4 else 0 : Nat) : Int) := by split <;> rfl
  rw [hE] at g14 g17
  refine test17 hl hk hwv hBl g1 g6 g7 g13 g14 g15 g16 g17 g18 hTD fun w8 s8 g1 g6 g7 g13 g14 g16 g19 hF8 => ?_
  refine loopC (B := B1) hl hk hwv hs1 hs2' rfl (by simp at hcount; omega) (fun i hi => ?_) (fun x hx => let ⟨r, _, h, _⟩ := hO1.msg x hx; ⟨r, h⟩) (fun x hx => let ⟨r, _, h, _⟩ := hO2.msg x hx; ⟨r, h⟩) (fun w9 s9 g1 g6 g7 g13 g14 hF9 => ?_) B1.length 0 (by omega) w8 s8 g1 g6 g7 g13 g14 g16 g19 hF8
  · refine ⟨by omega, ?_⟩
    have : B1[i]? = some (sb ws[i]) := by rw [hB1, List.getElem?_append_left (by simpa using hi)]; simp [hi]
    rw [List.getElem?_eq_getElem (by omega)] at this
    exact Option.some.inj this
  · by_cases ht : tail.size = 0
    · have hte : tail = ⟨#[]⟩ := by
        cases tail with
        | mk d => simp [ByteArray.size] at ht; rw [ht]
      have hsb0 : sb tail = [] := by rw [hte]; rfl
      rw [hsb0] at hB1 hq1
      simp only [runB, List.append_nil, Prod.mk.injEq] at hB1 hq1
      have hlen : B1.length = ws.length := by rw [hB1]; simp
      rw [hlen] at hl
      have ht1 : t1 = false := hq1.2
      rw [ht1] at g14
      simp only [Bool.false_eq_true, if_false] at g14
      exact endC_none hl hwv hte g1 g6 g7 g13 g14 hF9 fun w' a todo hd h6 hF => hret S2 w' a todo hF.size hF.old hd h6
    · exact endC_some hl hwv ht g1 g6 g7 g13 g14 hF9 fun w' a todo hd h6 hF => hret S2 w' a todo hF.size hF.old hd h6
end
end Go.Proofs.Ytkaapaepanhbgaa
