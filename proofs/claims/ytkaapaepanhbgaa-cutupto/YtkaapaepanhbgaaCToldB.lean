/- told's loop: the append; the rounds. -/
import Derived.Test.YtkaapaepanhbgaaCTold6
set_option linter.unusedVariables false
set_option linter.unusedSimpArgs false
namespace Go.Proofs.Ytkaapaepanhbgaa
open Go Go.Conc Go.Pair Go.RowKit
section
variable {Post : Value → World → Prop} {S : Loc → Prop} {W w w' w₁ : World} {N0 R : Nat} {q : List UInt8} {t : Bool} {v outv lv : Value} {sent sent' : List (List UInt8 × Value)} {fr : Frame} {cs : List Frame}

theorem ShunW.kind {w : World} (h : ShunW S w) (e : TypeId) (he : e ≠ 58) : ∀ (a : Addr) (o : Obj), w.heap[a.block]? = some o → kindOf o = some e → ¬ S (.cell a) := fun a o hc hk => h.notA hc (by rw [hk]; simpa using he)

set_option maxRecDepth 100000 in
set_option maxHeartbeats 1000000 in
/-- out = append(out, l...); i++. -/
theorem told_app {s0 s1 last : Value} {i : Nat} {u : Nat → Value} (hi : i < 9223372036854775806) (h13 : u 13 = lv) (h14 : u 14 = .int .i64 (if t then 4 else 0)) (hbig : sent.length + sent'.length ≤ 4294967296) (hF : TF W N0 R q t v sent outv S sent' lv w)
    (hnext : ∀ w' u' outv', TV W N0 R q t v (sent ++ sent') outv' S w' → EA Try.prog Post S (G ((base 6).at (TAct s0 s1 (.pointer (some ⟨R, 0, none⟩)) outv' (.bool true) (.int .i64 (if t then 4 else 0)) (.int .i64 ((i + 1 : Nat) : Int)) u') (.code LT :: LKT)) (fr :: cs)) w') :
    EA Try.prog Post S (G ((base 6).at (TAct s0 s1 (.pointer (some ⟨R, 0, none⟩)) outv (.bool true) last (.int .i64 i) u) (.code TAILT :: .inBlock 1 :: .code R9T :: LKT)) (fr :: cs)) w := by
  have T := termsS S
  have ew : IntKind.i64.wrap ((i : Int) + 1) = ((i + 1 : Nat) : Int) := by rw [IntKind.wrap_i64]; omega
  obtain ⟨i0, hi0, hz0, hz1, hz2⟩ := info25
  have key : ∀ (k : Nat) (a : Act) (w' : World) (outv' : Value), (∃ u', a = TAct s0 s1 (.pointer (some ⟨R, 0, none⟩)) outv' (.bool true) (.int .i64 (if t then 4 else 0)) (.int .i64 ((i + 1 : Nat) : Int)) u') → TV W N0 R q t v (sent ++ sent') outv' S w' →
      Goes Try.prog true AtRel (DS S) (EA Try.prog Post S) k (G ((base 6).at a (.code LT :: LKT)) (fr :: cs)) w' := fun k a w' outv' ⟨u', e⟩ hF => by
    rw [e]
    exact EA.stop (hnext w' u' outv' hF)
  refine EA.goes (n := 19) ?_
  rw [TAILT_eq]
  refine goes_ctl T rfl (fun _ => stepG_seq) ?_
  simp only [Code.ops, TAILT, B4T, B3T, BT, LT, aft6, body6, Code.core, Code.one, Code.two, Try.f6, Option.getD_some, TAct, h13, h14]
  refine goes_ctl T rfl (fun _ => stepG_region) ?_
  simp only [List.size_toArray, List.length_cons, List.length_nil, Nat.reduceAdd, Nat.zero_add, List.range, List.range.loop]
  refine goes_op rfl (by rfl) (by decide) fun _ hRz Kz hKz => ?_
  replace hF := TF.rely hF hRz
  clear hRz
  (skip)
  go_simp
  try (unfold stored; go_simp)
  refine hKz _ _ ⟨?_, ?_⟩
  · (co_quiet T)
  clear hKz Kz
  try walk_nrm
  refine goes_op rfl (by rfl) (by decide) fun _ hRz Kz hKz => ?_
  replace hF := TF.rely hF hRz
  clear hRz
  (skip)
  go_simp
  try (unfold stored; go_simp)
  refine hKz _ _ ⟨?_, ?_⟩
  · (co_quiet T)
  clear hKz Kz
  try walk_nrm
  refine goes_ctl T rfl (fun _ => stepG_region_end) ?_
  refine goes_ctl T rfl (fun _ => stepG_region) ?_
  simp only [List.size_toArray, List.length_cons, List.length_nil, Nat.reduceAdd, Nat.zero_add, List.range, List.range.loop]
  refine goes_op rfl (by rfl) (by decide) fun _ hRz Kz hKz => ?_
  replace hF := TF.rely hF hRz
  clear hRz
  (skip)
  go_simp
  try (unfold stored; go_simp)
  refine hKz _ _ ⟨?_, ?_⟩
  · (co_quiet T)
  clear hKz Kz
  try walk_nrm
  refine goes_op rfl (by rfl) (by decide) fun _ hRz Kz hKz => ?_
  replace hF := TF.rely hF hRz
  clear hRz
  (skip)
  go_simp
  try (unfold stored; go_simp)
  refine hKz _ _ ⟨?_, ?_⟩
  · (co_quiet T)
  clear hKz Kz
  try walk_nrm
  refine goes_op rfl (by rfl) (by decide) fun w₁ hR K' hK => ?_
  replace hF := hF.rely hR
  clear hR
  obtain ⟨outv', w', hr, hA, hD⟩ := app_s (P := Try.prog) (Shun := S) 29 i0 (.slice none 0 0) 24 un29 hi0 hz0 rfl hz1 hz2 hF.tv.list hF.row.read (hF.tv.shun.kind 25 (by decide)) hF.one (by simp only [List.length_map, maxLen]; omega) (by simp only [List.length_map]; omega) (by omega)
  rw [← List.map_append] at hA
  refine uponK_append (.tmp 62) (.tmp 63) 29 rfl rfl rfl hr (hK _ _ ⟨hD _ fun e he => ?_, ?_⟩)
  · have hm := mem_listed he
    rw [events_append_op (.tmp 62) (.tmp 63) 29 rfl rfl rfl] at hm
    exact hm
  have hG := hF.tv.app hF.msg hA
  clear hK K' hr hD hA hF
  walk_nrm
  refine goes_op rfl (by rfl) (by decide) fun _ hRz Kz hKz => ?_
  replace hG := TV.rely hG hRz
  clear hRz
  (skip)
  go_simp
  try (unfold stored; go_simp)
  refine hKz _ _ ⟨?_, ?_⟩
  · (co_quiet T)
  clear hKz Kz
  try walk_nrm
  refine goes_ctl T rfl (fun _ => stepG_region_end) ?_
  refine goes_ctl T rfl (fun _ => stepG_inBlock) ?_
  rw [R9T_eq]
  simp only [Code.ops, R9T, LT, aft6, body6, Code.core, Code.one, Code.two, Try.f6, Option.getD_some]
  refine goes_ctl T rfl (fun _ => stepG_region) ?_
  simp only [List.size_toArray, List.length_cons, List.length_nil, Nat.reduceAdd, Nat.zero_add, List.range, List.range.loop]
  refine goes_op rfl (by rfl) (by decide) fun _ hRz Kz hKz => ?_
  replace hG := TV.rely hG hRz
  clear hRz
  (skip)
  go_simp
  try (unfold stored; go_simp)
  refine hKz _ _ ⟨?_, ?_⟩
  · (co_quiet T)
  clear hKz Kz
  try walk_nrm
  refine goes_op rfl (by rfl) (by decide) fun _ hRz Kz hKz => ?_
  replace hG := TV.rely hG hRz
  clear hRz
  (skip)
  go_simp
  try (unfold stored; go_simp)
  refine hKz _ _ ⟨?_, ?_⟩
  · (co_quiet T)
  clear hKz Kz
  try walk_nrm
  refine goes_op rfl (by rfl) (by decide) fun _ hRz Kz hKz => ?_
  replace hG := TV.rely hG hRz
  clear hRz
  (skip)
  go_simp
  try (unfold stored; go_simp)
  refine hKz _ _ ⟨?_, ?_⟩
  · (co_quiet T)
  clear hKz Kz
  try walk_nrm
  try simp only [ew]
  refine goes_ctl T rfl (fun _ => stepG_region_end) ?_
  refine goes_ctl T rfl (fun _ => stepG_inLoop) ?_
  exact key _ _ _ _ (tact_of _ rfl) hG
end
end Go.Proofs.Ytkaapaepanhbgaa

/- told: its end; the loop. -/
set_option linter.unusedVariables false
set_option linter.unusedSimpArgs false
namespace Go.Proofs.Ytkaapaepanhbgaa
open Go Go.Conc Go.Pair Go.RowKit

theorem ENDT_eq : ENDT = .seq (.region 19 (Code.ops (Code.one ENDT)) false) .ret := rfl

/-- What told makes of the cuts. -/
inductive Told : List UInt8 → Bool → List UInt8 → List Int → List (List UInt8) → List UInt8 → Bool → Prop
  | last {p : List UInt8} {tl : Bool} {rem : List UInt8} {bodies : List (List UInt8)} {q : List UInt8} {t : Bool} : Feeds p tl rem bodies q t → Told p tl rem [] bodies q t
  | cut {p : List UInt8} {tl : Bool} {rem : List UInt8} {c : Int} {cuts : List Int} {n : Nat} {b1 b2 : List (List UInt8)} {p1 q : List UInt8} {t1 t : Bool} : (n : Int) = pk c (rem.length + 1) → n ≤ rem.length → Feeds p tl (rem.take n) b1 p1 t1 → Told p1 t1 (rem.drop n) cuts b2 q t → Told p tl rem (c :: cuts) (b1 ++ b2) q t

section
variable {Post : Value → World → Prop} {S : Loc → Prop} {W w w' w₁ : World} {N0 R : Nat} {q : List UInt8} {t : Bool} {v outv lv : Value} {sent sent' : List (List UInt8 × Value)} {fr : Frame} {cs : List Frame}

theorem results3 {P : Program} {fn : Func} {a b c : Tmp} (h : fn.results = #[.tmp a, .tmp b, .tmp c]) (tmps : Array Value) (w : World) : (results fn tmps).run P w = .ok (.tuple #[tmps.getD a undef, tmps.getD b undef, tmps.getD c undef]) w := by
  simp [results, h]
theorem results3e {P : Program} {fn : Func} {a b c : Tmp} (h : fn.results = #[.tmp a, .tmp b, .tmp c]) (tmps : Array Value) (w : World) : (results fn tmps).events P w #[] = #[] := by
  simp [results, h]

set_option maxRecDepth 100000 in
set_option maxHeartbeats 1000000 in
/-- told's end. -/
theorem told_end {s0 last : Value} {ca : Option Addr} {cl cc i : Nat} {u : Nat → Value} (hi : i = cl + 1) (hF : TV W N0 R q t v sent outv S w)
    (hnext : ∀ w', TV W N0 R q t v sent outv S w' → EA Try.prog Post S (G (fr.finish (.tuple #[outv, last, .bool true])) cs) w') :
    EA Try.prog Post S (G ((base 6).at (TAct s0 (.slice ca cl cc) (.pointer (some ⟨R, 0, none⟩)) outv (.bool true) last (.int .i64 i) u) (.code LT :: LKT)) (fr :: cs)) w := by
  have T := termsS S
  have hle : ¬ (i : Int) ≤ (cl : Int) := by omega
  clear hi
  refine EA.goes (n := 24) ?_
  rw [LT_eq]
  refine goes_ctl T rfl (fun _ => stepG_seq) ?_
  rw [LT1_eq]
  refine goes_ctl T rfl (fun _ => stepG_seq) ?_
  simp only [Code.ops, LT, aft6, body6, Code.core, Code.one, Code.two, Try.f6, Option.getD_some, TAct]
  refine goes_ctl T rfl (fun _ => stepG_region) ?_
  simp only [List.size_toArray, List.length_cons, List.length_nil, Nat.reduceAdd, Nat.zero_add, List.range, List.range.loop]
  refine goes_op rfl (by rfl) (by decide) fun _ hRz Kz hKz => ?_
  replace hF := TV.rely hF hRz
  clear hRz
  (skip)
  go_simp
  try (unfold stored; go_simp)
  refine hKz _ _ ⟨?_, ?_⟩
  · (co_quiet T)
  clear hKz Kz
  try walk_nrm
  refine goes_op rfl (by rfl) (by decide) fun _ hRz Kz hKz => ?_
  replace hF := TV.rely hF hRz
  clear hRz
  (skip)
  go_simp
  try (unfold stored; go_simp)
  refine hKz _ _ ⟨?_, ?_⟩
  · (co_quiet T)
  clear hKz Kz
  try walk_nrm
  refine goes_op rfl (by rfl) (by decide) fun _ hRz Kz hKz => ?_
  replace hF := TV.rely hF hRz
  clear hRz
  (skip)
  go_simp
  try (unfold stored; go_simp)
  refine hKz _ _ ⟨?_, ?_⟩
  · (co_quiet T)
  clear hKz Kz
  try walk_nrm
  refine goes_op rfl (by rfl) (by decide) fun _ hRz Kz hKz => ?_
  replace hF := TV.rely hF hRz
  clear hRz
  (skip)
  go_simp
  try (unfold stored; go_simp)
  refine hKz _ _ ⟨?_, ?_⟩
  · (co_quiet T)
  clear hKz Kz
  try walk_nrm
  refine goes_ctl T rfl (fun _ => stepG_region_end) ?_
  refine goes_ctl T rfl (fun _ => (stepG_cond (t := false) rfl)) ?_
  simp only [Bool.false_eq_true, if_false]
  refine goes_ctl T rfl (fun w => stepG_exit (k' := [.code ENDT]) rfl) ?_
  rw [ENDT_eq]
  refine goes_ctl T rfl (fun _ => stepG_seq) ?_
  simp only [Code.ops, ENDT, aft6, body6, Code.core, Code.one, Code.two, Try.f6, Option.getD_some]
  refine goes_ctl T rfl (fun _ => stepG_region) ?_
  simp only [List.size_toArray, List.length_cons, List.length_nil, Nat.reduceAdd, Nat.zero_add, List.range, List.range.loop]
  refine goes_op rfl (by rfl) (by decide) fun _ hRz Kz hKz => ?_
  replace hF := TV.rely hF hRz
  clear hRz
  (skip)
  go_simp
  try (unfold stored; go_simp)
  refine hKz _ _ ⟨?_, ?_⟩
  · (co_quiet T)
  clear hKz Kz
  try walk_nrm
  refine goes_op rfl (by rfl) (by decide) fun _ hRz Kz hKz => ?_
  replace hF := TV.rely hF hRz
  clear hRz
  (skip)
  go_simp
  try (unfold stored; go_simp)
  refine hKz _ _ ⟨?_, ?_⟩
  · (co_quiet T)
  clear hKz Kz
  try walk_nrm
  refine goes_op rfl (by rfl) (by decide) fun _ hRz Kz hKz => ?_
  replace hF := TV.rely hF hRz
  clear hRz
  (skip)
  go_simp
  try (unfold stored; go_simp)
  refine hKz _ _ ⟨?_, ?_⟩
  · (co_quiet T)
  clear hKz Kz
  try walk_nrm
  refine goes_op rfl (by rfl) (by decide) fun _ hRz Kz hKz => ?_
  replace hF := TV.rely hF hRz
  clear hRz
  (skip)
  go_simp
  try (unfold stored; go_simp)
  refine hKz _ _ ⟨?_, ?_⟩
  · (co_quiet T)
  clear hKz Kz
  try walk_nrm
  refine goes_op rfl (by rfl) (by decide) fun _ hRz Kz hKz => ?_
  replace hF := TV.rely hF hRz
  clear hRz
  (skip)
  go_simp
  try (unfold stored; go_simp)
  refine hKz _ _ ⟨?_, ?_⟩
  · (co_quiet T)
  clear hKz Kz
  try walk_nrm
  refine goes_op rfl (by rfl) (by decide) fun _ hRz Kz hKz => ?_
  replace hF := TV.rely hF hRz
  clear hRz
  (skip)
  go_simp
  try (unfold stored; go_simp)
  refine hKz _ _ ⟨?_, ?_⟩
  · (co_quiet T)
  clear hKz Kz
  try walk_nrm
  refine goes_ctl T rfl (fun _ => stepG_region_end) ?_
  refine goes_ctl T rfl (fun _ => stepG_ret') ?_
  refine Goes.mono (goes_ctl (n := 0) T rfl (fun w => stepG_leave (v := .tuple #[outv, last, .bool true]) rfl rfl Try.func6 (results3 (a := 4) (b := 5) (c := 6) (by rfl) _ _) (results3e (a := 4) (b := 5) (c := 6) (by rfl) _ _)) ?_) (by omega)
  exact EA.stop (hnext _ hF)

/-- The rounds. -/
theorem told_loop {cuts : List Int} {ca : Option Addr} {cc : Nat} (hN : N0 ≤ W.heap.size) (hcu : CutsAt W N0 ca cuts) (hcl : cuts.length < 9223372036854775805) :
    ∀ (rest : List Int) (i : Nat) (p : List UInt8) (tl : Bool) (rem : List UInt8) (bodies : List (List UInt8)) (q : List UInt8) (t : Bool), Told p tl rem rest bodies q t → cuts.drop i = rest → i ≤ cuts.length →
      ∀ (x o cap : Nat) (v outv : Value) (sent : List (List UInt8 × Value)) (S : Loc → Prop) (w : World) (u : Nat → Value), BytesW W (some ⟨x, o, none⟩) rem cap → rem.length < 9223372036854775807 → sent.length + bodies.length ≤ 4294967296 → TV W N0 R p tl v sent outv S w →
      (∀ w' v' outv' sent' S', sent'.map (·.1) = sent.map (·.1) ++ bodies → TV W N0 R q t v' sent' outv' S' w' → EA Try.prog Post S' (G (fr.finish (.tuple #[outv', .int .i64 (if t then 4 else 0), .bool true])) cs) w') →
      EA Try.prog Post S (G ((base 6).at (TAct (.slice (some ⟨x, o, none⟩) rem.length cap) (.slice ca cuts.length cc) (.pointer (some ⟨R, 0, none⟩)) outv (.bool true) (.int .i64 (if tl then 4 else 0)) (.int .i64 i) u) (.code LT :: LKT)) (fr :: cs)) w := by
  intro rest
  induction rest with
  | nil =>
    intro i p tl rem bodies q t hT hd hi x o cap v outv sent S w u hb hml hbd hF hnext
    have hie : i = cuts.length := by
      have := congrArg List.length hd
      simp at this
      omega
    cases hT with
    | last hC =>
    refine told_last hie (by omega) hF fun w1 u1 h12 hF => ?_
    obtain ⟨x', o', csv, e, hx, hcs, hle, hmax⟩ := id hb
    refine told_feed rfl (Nat.le_refl _) hb h12 hN hF (by rw [List.take_length]; exact hC) (by omega) fun w2 u2 v2 sent2 lv S2 h12 h13 h14 htold hF hrow hmsg => ?_
    refine told_rest (Nat.le_refl _) hle hmax h12 h13 h14 (fun htl => ?_) ⟨hF, hrow, hmsg⟩ fun w3 u3 h13 h14 hF => ?_
    · subst htl
      simp only [Feeds, if_true] at hC
      refine ⟨hC.2.2, ?_⟩
      rw [hC.1] at htold
      simpa using htold
    have hl2 : sent2.length = bodies.length := by rw [← htold]; simp
    refine told_app (by omega) h13 h14 (by omega) hF fun w4 u4 outv4 hF => ?_
    exact told_end (by omega) hF fun w5 hF => hnext w5 _ _ _ _ (by rw [List.map_append, htold]) hF
  | cons c rest ih =>
    intro i p tl rem bodies q t hT hd hi x o cap v outv sent S w u hb hml hbd hF hnext
    have hilt : i < cuts.length := by
      have := congrArg List.length hd
      simp at this
      omega
    have hci : cuts[i] = c := by
      have := List.drop_eq_getElem_cons hilt
      rw [hd] at this
      exact (List.cons.inj this).1.symm
    have hdr : cuts.drop (i + 1) = rest := by
      have := List.drop_eq_getElem_cons hilt
      rw [hd] at this
      exact (List.cons.inj this).2.symm
    obtain ⟨⟨hc0, hc1⟩, ad, rfl, hcell, hb0, hb1⟩ := hcu i hilt
    rw [hci] at hc0 hc1 hcell
    cases hT with
    | @cut _ _ _ _ _ n b1 b2 p1 _ t1 _ hn hnl hC hT' =>
    obtain ⟨x', o', csv, e, hx, hcs, hle, hmax⟩ := id hb
    simp only [List.length_append] at hbd
    refine told_some hilt hc0 hc1 hcell hb0 hb1 hml hn hF fun w1 u1 h12 hF => ?_
    refine told_feed rfl hnl hb h12 hN hF hC (by omega) fun w2 u2 v2 sent2 lv S2 h12 h13 h14 htold hF hrow hmsg => ?_
    refine told_rest hnl hle hmax h12 h13 h14 (fun htl => ?_) ⟨hF, hrow, hmsg⟩ fun w3 u3 h13 h14 hF => ?_
    · subst htl
      simp only [Feeds, if_true] at hC
      refine ⟨hC.2.2, ?_⟩
      rw [hC.1] at htold
      simpa using htold
    have hl2 : sent2.length = b1.length := by rw [← htold]; simp
    refine told_app (by omega) h13 h14 (by omega) hF fun w4 u4 outv4 hF => ?_
    have hb' := hb.drop hnl
    obtain ⟨x2, o2, csv2, e2, _⟩ := id hb'
    rw [e2] at hb' ⊢
    rw [show rem.length - n = (rem.drop n).length by simp]
    refine ih (i + 1) p1 t1 (rem.drop n) b2 q t hT' hdr (by omega) x2 o2 (cap - n) v2 outv4 (sent ++ sent2) S2 w4 u4 hb' (by simp; omega) (by simp; omega) hF fun w' v' outv' sent' S' hs hF => hnext w' v' outv' sent' S' ?_ hF
    rw [hs, List.map_append, htold, List.append_assoc]
end
end Go.Proofs.Ytkaapaepanhbgaa
