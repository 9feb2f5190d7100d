/- Cut: the third loop's rounds; the end. -/
import Derived.Test.YtkaapaepanhbgaaCTopH
set_option linter.unusedVariables false
set_option linter.unusedSimpArgs false
namespace Go.Proofs.Ytkaapaepanhbgaa
open Go Go.Conc Go.Pair Go.RowKit
section
variable {Post : Value → World → Prop} {S : Loc → Prop} {W0 w w' w₁ : World} {want l k : Value} {ws : List ByteArray} {sent1 sent2 : List (List UInt8 × Value)} {s : Nat → Value} {tv ev : Value} {cs : List Frame}

theorem ba_eq (b : ByteArray) : (⟨(sb b).toArray⟩ : ByteArray) = b := by
  cases b
  rfl

/-- The rounds. -/
theorem loopC {lg kg lc kc wc n : Nat} {ad : Addr} {B : List (List UInt8)} (hl : l = .slice (some ⟨lg, 0, none⟩) n lc) (hk : k = .slice (some ⟨kg, 0, none⟩) n kc) (hw : want = .slice (some ad) ws.length wc) (hB1 : sent1.map (·.1) = B) (hB2 : sent2.map (·.1) = B) (hn : n = B.length) (hn1 : n ≤ 4294967296)
    (hpre : ∀ i (h : i < ws.length), ∃ h' : i < B.length, B[i] = sb ws[i])
    (hm1 : ∀ x ∈ sent1, ∃ r, x.2 = .slice (some ⟨r, 0, none⟩) x.1.length x.1.length) (hm2 : ∀ x ∈ sent2, ∃ r, x.2 = .slice (some ⟨r, 0, none⟩) x.1.length x.1.length)
    (hnext : ∀ w' (s' : Nat → Value), s' 1 = tv → s' 6 = .bool false → s' 7 = want → s' 13 = l → s' 14 = ev → TD W0 want ws sent1 l sent2 k S w' → EA Try.prog Post S (G ((base 3).at (CAct s') [.code c10]) cs) w') :
    ∀ (j i : Nat), i + j = n → ∀ (w : World) (s : Nat → Value), s 1 = tv → s 6 = .bool false → s 7 = want → s 13 = l → s 14 = ev → s 16 = k → s 19 = .int .i64 i → TD W0 want ws sent1 l sent2 k S w → EA Try.prog Post S (G ((base 3).at (CAct s) (.code LC :: LKC)) cs) w := by
  have hs1 : sent1.length = n := by rw [hn, ← hB1]; simp
  have hs2 : sent2.length = n := by rw [hn, ← hB2]; simp
  intro j
  induction j with
  | zero =>
    intro i hij w s h1 h6 h7 h13 h14 h16 h19 hF
    exact exitC hl (by omega) h1 h6 h7 h13 h14 h19 hF hnext
  | succ j ih =>
    intro i hij w s h1 h6 h7 h13 h14 h16 h19 hF
    have h1i : i < sent1.length := by omega
    have h2i : i < sent2.length := by omega
    obtain ⟨r1, hr1⟩ := hm1 sent1[i] (List.getElem_mem _)
    obtain ⟨r2, hr2⟩ := hm2 sent2[i] (List.getElem_mem _)
    have hb1 : sent1[i].1 = B[i]'(by omega) := by
      have := congrArg (fun x => x[i]?) hB1
      simp only [List.getElem?_map, List.getElem?_eq_getElem h1i, Option.map_some, List.getElem?_eq_getElem (show i < B.length by omega), Option.some.injEq] at this
      exact this
    have hb2 : sent2[i].1 = B[i]'(by omega) := by
      have := congrArg (fun x => x[i]?) hB2
      simp only [List.getElem?_map, List.getElem?_eq_getElem h2i, Option.map_some, List.getElem?_eq_getElem (show i < B.length by omega), Option.some.injEq] at this
      exact this
    have e1 : sent1[i] = (B[i]'(by omega), .slice (some ⟨r1, 0, none⟩) (B[i]'(by omega)).length (B[i]'(by omega)).length) := by
      rw [← hb1]; exact Prod.ext rfl hr1
    have e2 : sent2[i] = (B[i]'(by omega), .slice (some ⟨r2, 0, none⟩) (B[i]'(by omega)).length (B[i]'(by omega)).length) := by
      rw [← hb2]; exact Prod.ext rfl hr2
    refine roundC hl (by omega) hn1 ?_ h1 h6 h7 h13 h14 h16 h19 hF fun w' s' g1 g6 g7 g13 g14 g16 g19 hF => ih (i + 1) (by omega) w' s' g1 g6 g7 g13 g14 g16 g19 hF
    by_cases hiw : i < ws.length
    · obtain ⟨h', hbi⟩ := hpre i hiw
      exact r22_in hl hk hw (by omega) hiw h1i h2i e1 e2 (by rw [hbi]; exact (ba_eq _).symm)
    · exact r22_out hl hk hw (by omega) (by omega) h1i h2i e1 e2

set_option maxRecDepth 100000 in
set_option maxHeartbeats 4000000 in
/-- The end: something comes behind the frames. -/
theorem endC_some {la : Option Addr} {lc wc n E : Nat} {ad : Addr} {tail : ByteArray} (hl : l = .slice la n lc) (hw : want = .slice (some ad) ws.length wc) (ht : tail.size ≠ 0) (h1 : s 1 = .string tail) (h6 : s 6 = .bool false) (h7 : s 7 = want) (h13 : s 13 = l) (h14 : s 14 = .int .i64 E) (hF : TD W0 want ws sent1 l sent2 k S w)
    (hnext : ∀ w' a todo, a.defers = [] → a.tmps.getD 6 undef = .bool true → TD W0 want ws sent1 l sent2 k S w' → EA Try.prog Post S (G { (base 3).at a todo with mode := .returning } cs) w') :
    EA Try.prog Post S (G ((base 3).at (CAct s) [.code c10]) cs) w := by
  have T := termsS S
  subst hl
  subst hw
  have hne2 : ¬ tail.toList = [] := fun e => ht (by rw [ByteArray.toList_eq] at e; have := congrArg List.length e; simpa using this)
  have hne3 : (tail.toList == (⟨#[]⟩ : ByteArray).toList) = false := by
    rw [show (⟨#[]⟩ : ByteArray).toList = [] by rw [ByteArray.toList_eq]]
    simpa using hne2
  have hne4 : (tail.toList == []) = false := by simpa using hne2
  refine EA.goes (n := 20) ?_
  rw [c10_eq]
  refine goes_ctl T rfl (fun _ => stepG_seq) ?_
  simp only [Code.ops, c10, c9, c8, c7, c6, c5, c4, c3, c2, body3, Code.core, Code.one, Code.two, Try.f3, Option.getD_some, CAct, h1, h6, h7, h13, h14]
  refine goes_ctl T rfl (fun _ => stepG_region) ?_
  simp only [List.size_toArray, List.length_cons, List.length_nil, Nat.reduceAdd, Nat.zero_add, List.range, List.range.loop]
  refine goes_op rfl (by rfl) (by decide) fun _ hRz Kz hKz => ?_
  replace hF := TD.rely hF hRz
  clear hRz
  (skip)
  go_simp
  try (unfold stored; go_simp)
  refine hKz _ _ ⟨?_, ?_⟩
  · (co_quiet T)
  clear hKz Kz
  try walk_nrm
  refine goes_op rfl (by rfl) (by decide) fun _ hRz Kz hKz => ?_
  replace hF := TD.rely hF hRz
  clear hRz
  (skip)
  go_simp
  try (unfold stored; go_simp)
  refine hKz _ _ ⟨?_, ?_⟩
  · (co_quiet T)
  clear hKz Kz
  try walk_nrm
  refine goes_op rfl (by rfl) (by decide) fun _ hRz Kz hKz => ?_
  replace hF := TD.rely hF hRz
  clear hRz
  (skip)
  go_simp
  try (unfold stored; go_simp)
  refine hKz _ _ ⟨?_, ?_⟩
  · (co_quiet T)
  clear hKz Kz
  try walk_nrm
  refine goes_ctl T rfl (fun _ => (stepG_unwanted rfl rfl)) ?_
  walk_nrm
  refine goes_ctl T rfl (fun _ => (stepG_unwanted rfl rfl)) ?_
  walk_nrm
  refine goes_ctl T rfl (fun _ => (stepG_unwanted rfl rfl)) ?_
  walk_nrm
  refine goes_ctl T rfl (fun _ => (stepG_unwanted rfl rfl)) ?_
  walk_nrm
  refine goes_ctl T rfl (fun _ => (stepG_unwanted rfl rfl)) ?_
  walk_nrm
  refine goes_ctl T rfl (fun _ => (stepG_unwanted rfl rfl)) ?_
  walk_nrm
  refine goes_ctl T rfl (fun _ => (stepG_unwanted rfl rfl)) ?_
  walk_nrm
  refine goes_ctl T rfl (fun _ => (stepG_unwanted rfl rfl)) ?_
  walk_nrm
  refine goes_ctl T rfl (fun _ => (stepG_unwanted rfl rfl)) ?_
  walk_nrm
  refine goes_op rfl (by rfl) (by decide) fun _ hRz Kz hKz => ?_
  replace hF := TD.rely hF hRz
  clear hRz
  (skip)
  go_simp
  try (unfold stored; go_simp)
  refine hKz _ _ ⟨?_, ?_⟩
  · (co_quiet T)
  clear hKz Kz
  try walk_nrm
  refine goes_op rfl (by rfl) (by decide) fun _ hRz Kz hKz => ?_
  replace hF := TD.rely hF hRz
  clear hRz
  (skip)
  go_simp
  try (unfold stored; go_simp)
  refine hKz _ _ ⟨?_, ?_⟩
  · (co_quiet T)
  clear hKz Kz
  try walk_nrm
  refine goes_ctl T rfl (fun _ => stepG_region_end) ?_
  refine goes_ctl T rfl (fun _ => stepG_ret') ?_
  exact EA.stop (hnext _ _ _ rfl rfl hF)

set_option maxRecDepth 100000 in
set_option maxHeartbeats 4000000 in
/-- The end: nothing comes behind the frames. -/
theorem endC_none {la : Option Addr} {lc wc : Nat} {ad : Addr} {tail : ByteArray} (hl : l = .slice la ws.length lc) (hw : want = .slice (some ad) ws.length wc) (ht : tail = ⟨#[]⟩) (h1 : s 1 = .string tail) (h6 : s 6 = .bool false) (h7 : s 7 = want) (h13 : s 13 = l) (h14 : s 14 = .int .i64 0) (hF : TD W0 want ws sent1 l sent2 k S w)
    (hnext : ∀ w' a todo, a.defers = [] → a.tmps.getD 6 undef = .bool true → TD W0 want ws sent1 l sent2 k S w' → EA Try.prog Post S (G { (base 3).at a todo with mode := .returning } cs) w') :
    EA Try.prog Post S (G ((base 3).at (CAct s) [.code c10]) cs) w := by
  have T := termsS S
  subst hl
  subst hw
  subst ht
  refine EA.goes (n := 20) ?_
  rw [c10_eq]
  refine goes_ctl T rfl (fun _ => stepG_seq) ?_
  simp only [Code.ops, c10, c9, c8, c7, c6, c5, c4, c3, c2, body3, Code.core, Code.one, Code.two, Try.f3, Option.getD_some, CAct, h1, h6, h7, h13, h14]
  refine goes_ctl T rfl (fun _ => stepG_region) ?_
  simp only [List.size_toArray, List.length_cons, List.length_nil, Nat.reduceAdd, Nat.zero_add, List.range, List.range.loop]
  refine goes_op rfl (by rfl) (by decide) fun _ hRz Kz hKz => ?_
  replace hF := TD.rely hF hRz
  clear hRz
  (skip)
  go_simp
  try (unfold stored; go_simp)
  refine hKz _ _ ⟨?_, ?_⟩
  · (co_quiet T)
  clear hKz Kz
  try walk_nrm
  refine goes_op rfl (by rfl) (by decide) fun _ hRz Kz hKz => ?_
  replace hF := TD.rely hF hRz
  clear hRz
  (skip)
  go_simp
  try (unfold stored; go_simp)
  refine hKz _ _ ⟨?_, ?_⟩
  · (co_quiet T)
  clear hKz Kz
  try walk_nrm
  refine goes_op rfl (by rfl) (by decide) fun _ hRz Kz hKz => ?_
  replace hF := TD.rely hF hRz
  clear hRz
  (skip)
  go_simp
  try (unfold stored; go_simp)
  refine hKz _ _ ⟨?_, ?_⟩
  · (co_quiet T)
  clear hKz Kz
  try walk_nrm
  refine goes_op rfl (by rfl) (by decide) fun _ hRz Kz hKz => ?_
  replace hF := TD.rely hF hRz
  clear hRz
  (skip)
  go_simp
  try (unfold stored; go_simp)
  refine hKz _ _ ⟨?_, ?_⟩
  · (co_quiet T)
  clear hKz Kz
  try walk_nrm
  refine goes_op rfl (by rfl) (by decide) fun _ hRz Kz hKz => ?_
  replace hF := TD.rely hF hRz
  clear hRz
  (skip)
  go_simp
  try (unfold stored; go_simp)
  refine hKz _ _ ⟨?_, ?_⟩
  · (co_quiet T)
  clear hKz Kz
  try walk_nrm
  refine goes_op rfl (by rfl) (by decide) fun _ hRz Kz hKz => ?_
  replace hF := TD.rely hF hRz
  clear hRz
  (skip)
  go_simp
  try (unfold stored; go_simp)
  refine hKz _ _ ⟨?_, ?_⟩
  · (co_quiet T)
  clear hKz Kz
  try walk_nrm
  refine goes_op rfl (by rfl) (by decide) fun _ hRz Kz hKz => ?_
  replace hF := TD.rely hF hRz
  clear hRz
  (skip)
  go_simp
  try (unfold stored; go_simp)
  refine hKz _ _ ⟨?_, ?_⟩
  · (co_quiet T)
  clear hKz Kz
  try walk_nrm
  refine goes_op rfl (by rfl) (by decide) fun _ hRz Kz hKz => ?_
  replace hF := TD.rely hF hRz
  clear hRz
  (skip)
  go_simp
  try (unfold stored; go_simp)
  refine hKz _ _ ⟨?_, ?_⟩
  · (co_quiet T)
  clear hKz Kz
  try walk_nrm
  refine goes_op rfl (by rfl) (by decide) fun _ hRz Kz hKz => ?_
  replace hF := TD.rely hF hRz
  clear hRz
  (skip)
  go_simp
  try (unfold stored; go_simp)
  refine hKz _ _ ⟨?_, ?_⟩
  · (co_quiet T)
  clear hKz Kz
  try walk_nrm
  refine goes_op rfl (by rfl) (by decide) fun _ hRz Kz hKz => ?_
  replace hF := TD.rely hF hRz
  clear hRz
  (skip)
  go_simp
  try (unfold stored; go_simp)
  refine hKz _ _ ⟨?_, ?_⟩
  · (co_quiet T)
  clear hKz Kz
  try walk_nrm
  refine goes_op rfl (by rfl) (by decide) fun _ hRz Kz hKz => ?_
  replace hF := TD.rely hF hRz
  clear hRz
  (skip)
  go_simp
  try (unfold stored; go_simp)
  refine hKz _ _ ⟨?_, ?_⟩
  · (co_quiet T)
  clear hKz Kz
  try walk_nrm
  refine goes_op rfl (by rfl) (by decide) fun _ hRz Kz hKz => ?_
  replace hF := TD.rely hF hRz
  clear hRz
  (skip)
  go_simp
  try (unfold stored; go_simp)
  refine hKz _ _ ⟨?_, ?_⟩
  · (co_quiet T)
  clear hKz Kz
  try walk_nrm
  refine goes_op rfl (by rfl) (by decide) fun _ hRz Kz hKz => ?_
  replace hF := TD.rely hF hRz
  clear hRz
  (skip)
  go_simp
  try (unfold stored; go_simp)
  refine hKz _ _ ⟨?_, ?_⟩
  · (co_quiet T)
  clear hKz Kz
  try walk_nrm
  refine goes_op rfl (by rfl) (by decide) fun _ hRz Kz hKz => ?_
  replace hF := TD.rely hF hRz
  clear hRz
  (skip)
  go_simp
  try (unfold stored; go_simp)
  refine hKz _ _ ⟨?_, ?_⟩
  · (co_quiet T)
  clear hKz Kz
  try walk_nrm
  refine goes_ctl T rfl (fun _ => stepG_region_end) ?_
  refine goes_ctl T rfl (fun _ => stepG_ret') ?_
  exact EA.stop (hnext _ _ _ rfl rfl hF)
end
end Go.Proofs.Ytkaapaepanhbgaa
