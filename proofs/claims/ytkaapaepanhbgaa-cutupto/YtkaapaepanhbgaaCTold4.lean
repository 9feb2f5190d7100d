/- told's loop: a piece that a cut tells. -/
import Derived.Test.YtkaapaepanhbgaaCTold3
set_option linter.unusedVariables false
set_option linter.unusedSimpArgs false
namespace Go.Proofs.Ytkaapaepanhbgaa
open Go Go.Conc Go.Pair Go.RowKit
section
variable {Post : Value → World → Prop} {Shun : Loc → Prop} {W w w' w₁ : World} {N0 R : Nat} {p : List UInt8} {tl : Bool} {v outv : Value} {sent : List (List UInt8 × Value)} {fr : Frame} {cs : List Frame}

theorem TV.heap (h : TV W N0 R p tl v sent outv Shun w) (e : w'.heap = w.heap) : TV W N0 R p tl v sent outv Shun w' := by
  refine ⟨by rw [e]; exact h.size, fun i hi => by rw [e]; exact h.old i hi, ⟨by rw [e]; exact h.rd.r, RowIs.back h.rd.part (fun q o _ x => by rw [e]; exact x), h.rd.ok⟩, h.rge, h.pge, RowIs.back h.list (fun q o _ x => by rw [e]; exact x), h.lge, fun x hx => ?_, h.shun.heap e, h.top⟩
  obtain ⟨r, h1, h2, h3, h4⟩ := h.msg x hx
  exact ⟨r, h1, h2, by rw [e]; exact h3, h4⟩

set_option maxRecDepth 100000 in
set_option maxHeartbeats 1000000 in
/-- A piece that a cut tells. -/
theorem told_some {s0a : Option Addr} {len cap cl cc i : Nat} {ad : Addr} {c : Int} {n : Nat} {lastv : Value} {u : Nat → Value} (hi : i < cl) (hc0 : -9223372036854775808 ≤ c) (hc1 : c ≤ 9223372036854775807) (hcell : W.cell? (ad.add i) = some (.int .i64 c)) (hb0 : (ad.add i).block < N0) (hb1 : (ad.add i).block < W.heap.size) (hl : len < 9223372036854775807) (hn : (n : Int) = pk c (len + 1)) (hF : TV W N0 R p tl v sent outv Shun w)
    (hnext : ∀ w' u', u' 12 = .int .i64 n → TV W N0 R p tl v sent outv Shun w' → EA Try.prog Post Shun (G ((base 6).at (TAct (.slice s0a len cap) (.slice (some ad) cl cc) (.pointer (some ⟨R, 0, none⟩)) outv (.bool true) lastv (.int .i64 i) u') (.code B3T :: .inBlock 1 :: .code R9T :: LKT)) (fr :: cs)) w') :
    EA Try.prog Post Shun (G ((base 6).at (TAct (.slice s0a len cap) (.slice (some ad) cl cc) (.pointer (some ⟨R, 0, none⟩)) outv (.bool true) lastv (.int .i64 i) u) (.code LT :: LKT)) (fr :: cs)) w := by
  have T := termsS Shun
  have hle : (i : Int) ≤ (cl : Int) := by omega
  have hlt : (i : Int) < (cl : Int) := by omega
  have hi0 : (0 : Int) ≤ (i : Int) := by omega
  obtain ⟨np, hp⟩ := pick_c (Shun := Shun) c (len + 1) hc0 hc1 (by omega) (by omega)
  have key : ∀ (k : Nat) (a : Act) (w' : World), (∃ u', a = TAct (.slice s0a len cap) (.slice (some ad) cl cc) (.pointer (some ⟨R, 0, none⟩)) outv (.bool true) lastv (.int .i64 i) u' ∧ u' 12 = .int .i64 n) → TV W N0 R p tl v sent outv Shun w' →
      Goes Try.prog true AtRel (DS Shun) (EA Try.prog Post Shun) k (G ((base 6).at a (.code B3T :: .inBlock 1 :: .code R9T :: LKT)) (fr :: cs)) w' := fun k a w' ⟨u', e, h⟩ hF => by
    rw [e]
    exact EA.stop (hnext w' u' h hF)
  refine EA.goes (n := np + 42) ?_
  rw [LT_eq]
  refine goes_ctl T rfl (fun _ => stepG_seq) ?_
  rw [LT1_eq]
  refine goes_ctl T rfl (fun _ => stepG_seq) ?_
  simp only [Code.ops, LT, aft6, body6, Code.core, Code.one, Code.two, Try.f6, Option.getD_some, TAct]
  refine goes_ctl T rfl (fun _ => stepG_region) ?_
  simp only [List.size_toArray, List.length_cons, List.length_nil, Nat.reduceAdd, Nat.zero_add, List.range, List.range.loop]
  refine goes_op rfl (by rfl) (by decide) fun _ hRz Kz hKz => ?_
  replace hF := TV.rely hF hRz
  clear hRz
  (skip)
  go_simp
  try (unfold stored; go_simp)
  refine hKz _ _ ⟨?_, ?_⟩
  · (co_quiet T)
  clear hKz Kz
  try walk_nrm
  refine goes_op rfl (by rfl) (by decide) fun _ hRz Kz hKz => ?_
  replace hF := TV.rely hF hRz
  clear hRz
  (skip)
  go_simp
  try (unfold stored; go_simp)
  refine hKz _ _ ⟨?_, ?_⟩
  · (co_quiet T)
  clear hKz Kz
  try walk_nrm
  refine goes_op rfl (by rfl) (by decide) fun _ hRz Kz hKz => ?_
  replace hF := TV.rely hF hRz
  clear hRz
  (skip)
  go_simp
  try (unfold stored; go_simp)
  refine hKz _ _ ⟨?_, ?_⟩
  · (co_quiet T)
  clear hKz Kz
  try walk_nrm
  refine goes_op rfl (by rfl) (by decide) fun _ hRz Kz hKz => ?_
  replace hF := TV.rely hF hRz
  clear hRz
  (skip)
  go_simp
  try (unfold stored; go_simp)
  refine hKz _ _ ⟨?_, ?_⟩
  · (co_quiet T)
  clear hKz Kz
  try walk_nrm
  refine goes_ctl T rfl (fun _ => stepG_region_end) ?_
  refine goes_ctl T rfl (fun _ => (stepG_cond (t := true) rfl)) ?_
  simp only [if_true]
  refine goes_ctl T rfl (fun _ => stepG_skip) ?_
  refine goes_ctl T rfl (fun _ => stepG_seq) ?_
  refine goes_ctl T rfl (fun _ => stepG_block) ?_
  rw [BT_eq]
  refine goes_ctl T rfl (fun _ => stepG_seq) ?_
  simp only [Code.ops, BT, LT, aft6, body6, Code.core, Code.one, Code.two, Try.f6, Option.getD_some]
  refine goes_ctl T rfl (fun _ => stepG_region) ?_
  simp only [List.size_toArray, List.length_cons, List.length_nil, Nat.reduceAdd, Nat.zero_add, List.range, List.range.loop]
  refine goes_op rfl (by rfl) (by decide) fun _ hRz Kz hKz => ?_
  replace hF := TV.rely hF hRz
  clear hRz
  (skip)
  go_simp
  try (unfold stored; go_simp)
  refine hKz _ _ ⟨?_, ?_⟩
  · (co_quiet T)
  clear hKz Kz
  try walk_nrm
  refine goes_op rfl (by rfl) (by decide) fun _ hRz Kz hKz => ?_
  replace hF := TV.rely hF hRz
  clear hRz
  (skip)
  go_simp
  try (unfold stored; go_simp)
  refine hKz _ _ ⟨?_, ?_⟩
  · (co_quiet T)
  clear hKz Kz
  try walk_nrm
  refine goes_op rfl (by rfl) (by decide) fun _ hRz Kz hKz => ?_
  replace hF := TV.rely hF hRz
  clear hRz
  (skip)
  go_simp
  try (unfold stored; go_simp)
  refine hKz _ _ ⟨?_, ?_⟩
  · (co_quiet T)
  clear hKz Kz
  try walk_nrm
  refine goes_ctl T rfl (fun _ => stepG_region_end) ?_
  refine goes_ctl T rfl (fun _ => stepG_seq) ?_
  rw [B2T_eq]
  refine goes_ctl T rfl (fun _ => stepG_seq) ?_
  simp only [Code.ops, B2T, BT, LT, aft6, body6, Code.core, Code.one, Code.two, Code.yes, Try.f6, Option.getD_some]
  refine goes_ctl T rfl (fun _ => stepG_region) ?_
  simp only [List.size_toArray, List.length_cons, List.length_nil, Nat.reduceAdd, Nat.zero_add, List.range, List.range.loop]
  refine goes_op rfl (by rfl) (by decide) fun _ hRz Kz hKz => ?_
  replace hF := TV.rely hF hRz
  clear hRz
  (skip)
  go_simp
  try (unfold stored; go_simp)
  refine hKz _ _ ⟨?_, ?_⟩
  · (co_quiet T)
  clear hKz Kz
  try walk_nrm
  refine goes_op rfl (by rfl) (by decide) fun _ hRz Kz hKz => ?_
  replace hF := TV.rely hF hRz
  clear hRz
  (skip)
  go_simp
  try (unfold stored; go_simp)
  refine hKz _ _ ⟨?_, ?_⟩
  · (co_quiet T)
  clear hKz Kz
  try walk_nrm
  refine goes_op rfl (by rfl) (by decide) fun _ hRz Kz hKz => ?_
  replace hF := TV.rely hF hRz
  clear hRz
  (skip)
  go_simp
  try (unfold stored; go_simp)
  refine hKz _ _ ⟨?_, ?_⟩
  · (co_quiet T)
  clear hKz Kz
  try walk_nrm
  refine goes_op rfl (by rfl) (by decide) fun _ hRz Kz hKz => ?_
  replace hF := TV.rely hF hRz
  clear hRz
  (skip)
  go_simp
  try (unfold stored; go_simp)
  refine hKz _ _ ⟨?_, ?_⟩
  · (co_quiet T)
  clear hKz Kz
  try walk_nrm
  refine goes_ctl T rfl (fun _ => stepG_region_end) ?_
  refine goes_ctl T rfl (fun _ => (stepG_cond (t := true) rfl)) ?_
  simp only [if_true]
  refine goes_ctl T rfl (fun _ => stepG_region) ?_
  simp only [List.size_toArray, List.length_cons, List.length_nil, Nat.reduceAdd, Nat.zero_add, List.range, List.range.loop]
  refine goes_op rfl (by rfl) (by decide) fun _ hRz Kz hKz => ?_
  replace hF := TV.rely hF hRz
  clear hRz
  (skip)
  go_simp
  try (unfold stored; go_simp)
  refine hKz _ _ ⟨?_, ?_⟩
  · (co_quiet T)
  clear hKz Kz
  try walk_nrm
  refine goes_op rfl (by rfl) (by decide) fun _ hRz Kz hKz => ?_
  replace hF := TV.rely hF hRz
  clear hRz
  (skip)
  go_simp
  try (unfold stored; go_simp)
  refine hKz _ _ ⟨?_, ?_⟩
  · (co_quiet T)
  clear hKz Kz
  try walk_nrm
  refine goes_op rfl (by rfl) (by decide) fun _ hRz Kz hKz => ?_
  replace hF := TV.rely hF hRz
  clear hRz
  (skip)
  go_simp
  try (unfold stored; go_simp)
  refine hKz _ _ ⟨?_, ?_⟩
  · (co_still T)
  clear hKz Kz
  try walk_nrm
  refine goes_op rfl (by rfl) (by decide) fun _ hRz Kz hKz => ?_
  replace hF := TV.rely hF hRz
  clear hRz
  (have hc := show World.cell? _ (ad.add i) = some (.int .i64 c) from (World.cell?_of_block (hF.old _ hb1)).trans hcell)
  go_simp
  try (unfold stored; go_simp)
  refine hKz _ _ ⟨?_, ?_⟩
  · (refine ds_read ?_; co_evs (exact evL_cell (fun hs => by obtain ⟨a, e, h⟩ := hF.top _ hs; cases e; omega) (Nat.lt_of_lt_of_le hb1 hF.size)))
  clear hKz Kz
  try walk_nrm
  clear hc
  refine goes_op rfl (by rfl) (by decide) fun _ hRz Kz hKz => ?_
  replace hF := TV.rely hF hRz
  clear hRz
  (skip)
  go_simp
  try (unfold stored; go_simp)
  refine hKz _ _ ⟨?_, ?_⟩
  · (co_quiet T)
  clear hKz Kz
  try walk_nrm
  refine goes_op rfl (by rfl) (by decide) fun _ hRz Kz hKz => ?_
  replace hF := TV.rely hF hRz
  clear hRz
  (skip)
  go_simp
  try (unfold stored; go_simp)
  refine hKz _ _ ⟨?_, ?_⟩
  · (co_quiet T)
  clear hKz Kz
  try walk_nrm
  refine goes_op rfl (by rfl) (by decide) fun _ hRz Kz hKz => ?_
  replace hF := TV.rely hF hRz
  clear hRz
  (skip)
  go_simp
  try (unfold stored; go_simp)
  refine hKz _ _ ⟨?_, ?_⟩
  · (co_quiet T)
  clear hKz Kz
  try walk_nrm
  have ew : IntKind.i64.wrap ((len : Int) + 1) = (len : Int) + 1 := by rw [IntKind.wrap_i64]; omega
  simp only [ew]
  refine Goes.mono (Goes.call (m := 3) (nf := np) T rfl (by rfl) (by decide) rfl (by walk_nrm; exact hp _ _ _ (PV.start _)) ?_) (by omega)
  rintro y w' ⟨rfl, hpv⟩
  replace hF := hF.heap (PV.same hpv)
  walk_nrm
  refine goes_op rfl (by rfl) (by decide) fun _ hRz Kz hKz => ?_
  replace hF := TV.rely hF hRz
  clear hRz
  (skip)
  go_simp
  try (unfold stored; go_simp)
  refine hKz _ _ ⟨?_, ?_⟩
  · (co_quiet T)
  clear hKz Kz
  try walk_nrm
  refine goes_ctl T rfl (fun _ => stepG_region_end) ?_
  exact key _ _ _ (tact_12 _ rfl (by rw [hn]; rfl)) hF
end
end Go.Proofs.Ytkaapaepanhbgaa
