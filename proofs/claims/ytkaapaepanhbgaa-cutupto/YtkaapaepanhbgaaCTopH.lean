/- Cut: the third loop whole; the end. -/
import Derived.Test.YtkaapaepanhbgaaCTopG
set_option linter.unusedVariables false
set_option linter.unusedSimpArgs false
namespace Go.Proofs.Ytkaapaepanhbgaa
open Go Go.Conc Go.Pair Go.RowKit
theorem c10_eq : c10 = .seq (.region 24 (Code.ops (Code.one c10)) false) .ret := rfl
section
variable {Post : Value → World → Prop} {S : Loc → Prop} {W0 w w' w₁ : World} {want l k : Value} {ws : List ByteArray} {sent1 sent2 : List (List UInt8 × Value)} {cs : List Frame} {s : Nat → Value} {tv ev : Value}

set_option maxRecDepth 100000 in
set_option maxHeartbeats 4000000 in
theorem roundC {la : Option Addr} {lc n i : Nat} (hl : l = .slice la n lc) (hi : i < n) (hn : n ≤ 4294967296)
    (hr : ∃ m, ∀ w (s : Nat → Value), s 1 = tv → s 6 = .bool false → s 7 = want → s 13 = l → s 16 = k → s 19 = .int .i64 i → TD W0 want ws sent1 l sent2 k S w →
      r22.wpC Try.prog true AtRel (DS S) 3 m (fun e a' w' => e = .normal ∧ (∃ s', a' = CAct s' ∧ s' 1 = tv ∧ s' 6 = .bool false ∧ s' 7 = want ∧ s' 13 = l ∧ s' 14 = s 14 ∧ s' 16 = k ∧ s' 19 = .int .i64 i ∧ s' 141 = .bool false) ∧ TD W0 want ws sent1 l sent2 k S w') (CAct s) w)
    (h1 : s 1 = tv) (h6 : s 6 = .bool false) (h7 : s 7 = want) (h13 : s 13 = l) (h14 : s 14 = ev) (h16 : s 16 = k) (h19 : s 19 = .int .i64 i) (hF : TD W0 want ws sent1 l sent2 k S w)
    (hnext : ∀ w' (s' : Nat → Value), s' 1 = tv → s' 6 = .bool false → s' 7 = want → s' 13 = l → s' 14 = ev → s' 16 = k → s' 19 = .int .i64 ((i + 1 : Nat) : Int) → TD W0 want ws sent1 l sent2 k S w' → EA Try.prog Post S (G ((base 3).at (CAct s') (.code LC :: LKC)) cs) w') :
    EA Try.prog Post S (G ((base 3).at (CAct s) (.code LC :: LKC)) cs) w := by
  have T := termsS S
  subst hl
  obtain ⟨m, hm⟩ := hr
  have hlt : (i : Int) < (n : Int) := by omega
  have ew : IntKind.i64.wrap ((i : Int) + 1) = ((i + 1 : Nat) : Int) := by rw [IntKind.wrap_i64]; omega
  have key2 : ∀ (j : Nat) (a : Act) (w' : World), (∃ s', a = CAct s' ∧ s' 1 = tv ∧ s' 6 = .bool false ∧ s' 7 = want ∧ s' 13 = .slice la n lc ∧ s' 14 = ev ∧ s' 16 = k ∧ s' 19 = .int .i64 ((i + 1 : Nat) : Int)) → TD W0 want ws sent1 (.slice la n lc) sent2 k S w' →
      Goes Try.prog true AtRel (DS S) (EA Try.prog Post S) j (G ((base 3).at a (.code LC :: LKC)) cs) w' := fun j a w' ⟨s', e, g1, g6, g7, g13, g14, g16, g19⟩ hF => by
    rw [e]
    exact EA.stop (hnext w' s' g1 g6 g7 g13 g14 g16 g19 hF)
  have key1 : ∀ (a : Act) (w' : World), (∃ s', a = CAct s' ∧ s' 1 = tv ∧ s' 6 = .bool false ∧ s' 7 = want ∧ s' 13 = .slice la n lc ∧ s' 14 = ev ∧ s' 16 = k ∧ s' 19 = .int .i64 i) → TD W0 want ws sent1 (.slice la n lc) sent2 k S w' →
      Goes Try.prog true AtRel (DS S) (EA Try.prog Post S) (10 + m) (G ((base 3).at a (.code r22 :: .code (.cond (.tmp 141) (Code.yes (Code.two BC)) .skip) :: .inBlock 5 :: .code (.region 21 (Code.ops (Code.two (Code.two LC))) false) :: LKC)) cs) w' := fun a w' ⟨s', e, g1, g6, g7, g13, g14, g16, g19⟩ hF => by
    rw [e]
    refine wpC_goes (hm w' s' g1 g6 g7 g13 g16 g19 hF) rfl (by decide) fun e a' w' q => ?_
    obtain ⟨rfl, ⟨s'', rfl, k1, k6, k7, k13, k14, k16, k19, k141⟩, hF⟩ := q
    refine goes_ctl T rfl (fun w => stepG_cond (t := false) (by rw [show (CAct s'').eval (.tmp 141) = s'' 141 from rfl, k141])) ?_
    simp only [Bool.false_eq_true, if_false]
    refine goes_ctl T rfl (fun _ => stepG_skip) ?_
    refine goes_ctl T rfl (fun _ => stepG_inBlock) ?_
    rw [g14] at k14
    simp only [Code.ops, LC, c9, c8, c7, c6, c5, c4, c3, c2, body3, Code.core, Code.one, Code.two, Try.f3, Option.getD_some, CAct, k1, k6, k7, k13, k14, k16, k19]
    refine goes_ctl T rfl (fun _ => stepG_region) ?_
    simp only [List.size_toArray, List.length_cons, List.length_nil, Nat.reduceAdd, Nat.zero_add, List.range, List.range.loop]
    refine goes_op rfl (by rfl) (by decide) fun _ hRz Kz hKz => ?_
    replace hF := TD.rely hF hRz
    clear hRz
    (skip)
    go_simp
    try (unfold stored; go_simp)
    refine hKz _ _ ⟨?_, ?_⟩
    · (co_quiet T)
    clear hKz Kz
    try walk_nrm
    refine goes_op rfl (by rfl) (by decide) fun _ hRz Kz hKz => ?_
    replace hF := TD.rely hF hRz
    clear hRz
    (skip)
    go_simp
    try (unfold stored; go_simp)
    refine hKz _ _ ⟨?_, ?_⟩
    · (co_quiet T)
    clear hKz Kz
    try walk_nrm
    refine goes_op rfl (by rfl) (by decide) fun _ hRz Kz hKz => ?_
    replace hF := TD.rely hF hRz
    clear hRz
    (skip)
    go_simp
    try (unfold stored; go_simp)
    refine hKz _ _ ⟨?_, ?_⟩
    · (co_quiet T)
    clear hKz Kz
    try walk_nrm
    try simp only [ew]
    refine goes_ctl T rfl (fun _ => stepG_region_end) ?_
    refine goes_ctl T rfl (fun _ => stepG_inLoop) ?_
    exact key2 _ _ _ (cget rfl ⟨rfl, rfl, rfl, rfl, rfl, rfl, rfl⟩) hF
  refine EA.goes (n := 10 + m + 14) ?_
  rw [LC_eq]
  refine Goes.mono (goes_ctl (n := (10 + m) + 13) T rfl (fun w => stepG_seq) ?_) (by omega)
  refine goes_ctl T rfl (fun _ => stepG_seq) ?_
  simp only [Code.ops, LC, c9, c8, c7, c6, c5, c4, c3, c2, body3, Code.core, Code.one, Code.two, Try.f3, Option.getD_some, CAct, h1, h6, h7, h13, h14, h16, h19]
  refine goes_ctl T rfl (fun _ => stepG_region) ?_
  simp only [List.size_toArray, List.length_cons, List.length_nil, Nat.reduceAdd, Nat.zero_add, List.range, List.range.loop]
  refine goes_op rfl (by rfl) (by decide) fun _ hRz Kz hKz => ?_
  replace hF := TD.rely hF hRz
  clear hRz
  (skip)
  go_simp
  try (unfold stored; go_simp)
  refine hKz _ _ ⟨?_, ?_⟩
  · (co_quiet T)
  clear hKz Kz
  try walk_nrm
  refine goes_op rfl (by rfl) (by decide) fun _ hRz Kz hKz => ?_
  replace hF := TD.rely hF hRz
  clear hRz
  (skip)
  go_simp
  try (unfold stored; go_simp)
  refine hKz _ _ ⟨?_, ?_⟩
  · (co_quiet T)
  clear hKz Kz
  try walk_nrm
  refine goes_op rfl (by rfl) (by decide) fun _ hRz Kz hKz => ?_
  replace hF := TD.rely hF hRz
  clear hRz
  (skip)
  go_simp
  try (unfold stored; go_simp)
  refine hKz _ _ ⟨?_, ?_⟩
  · (co_quiet T)
  clear hKz Kz
  try walk_nrm
  refine goes_op rfl (by rfl) (by decide) fun _ hRz Kz hKz => ?_
  replace hF := TD.rely hF hRz
  clear hRz
  (skip)
  go_simp
  try (unfold stored; go_simp)
  refine hKz _ _ ⟨?_, ?_⟩
  · (co_quiet T)
  clear hKz Kz
  try walk_nrm
  refine goes_ctl T rfl (fun _ => stepG_region_end) ?_
  refine goes_ctl T rfl (fun _ => (stepG_cond (t := true) rfl)) ?_
  simp only [if_true]
  refine goes_ctl T rfl (fun _ => stepG_skip) ?_
  refine goes_ctl T rfl (fun _ => stepG_seq) ?_
  refine goes_ctl T rfl (fun _ => stepG_block) ?_
  rw [BC_eq]
  refine goes_ctl T rfl (fun _ => stepG_seq) ?_
  exact Goes.mono (key1 _ _ (cget rfl ⟨rfl, rfl, rfl, rfl, rfl, rfl, rfl⟩) hF) (by omega)

set_option maxRecDepth 100000 in
set_option maxHeartbeats 4000000 in
theorem exitC {la : Option Addr} {lc n i : Nat} (hl : l = .slice la n lc) (hi : n ≤ i) (h1 : s 1 = tv) (h6 : s 6 = .bool false) (h7 : s 7 = want) (h13 : s 13 = l) (h14 : s 14 = ev) (h19 : s 19 = .int .i64 i) (hF : TD W0 want ws sent1 l sent2 k S w)
    (hnext : ∀ w' (s' : Nat → Value), s' 1 = tv → s' 6 = .bool false → s' 7 = want → s' 13 = l → s' 14 = ev → TD W0 want ws sent1 l sent2 k S w' → EA Try.prog Post S (G ((base 3).at (CAct s') [.code c10]) cs) w') :
    EA Try.prog Post S (G ((base 3).at (CAct s) (.code LC :: LKC)) cs) w := by
  have T := termsS S
  subst hl
  have hlt : ¬ (i : Int) < (n : Int) := by omega
  have key : ∀ (j : Nat) (a : Act) (w' : World), (∃ s', a = CAct s' ∧ s' 1 = tv ∧ s' 6 = .bool false ∧ s' 7 = want ∧ s' 13 = .slice la n lc ∧ s' 14 = ev) → TD W0 want ws sent1 (.slice la n lc) sent2 k S w' →
      Goes Try.prog true AtRel (DS S) (EA Try.prog Post S) j (G ((base 3).at a [.code c10]) cs) w' := fun j a w' ⟨s', e, g1, g6, g7, g13, g14⟩ hF => by
    rw [e]
    exact EA.stop (hnext w' s' g1 g6 g7 g13 g14 hF)
  refine EA.goes (n := 12) ?_
  rw [LC_eq]
  refine goes_ctl T rfl (fun _ => stepG_seq) ?_
  refine goes_ctl T rfl (fun _ => stepG_seq) ?_
  simp only [Code.ops, LC, c9, c8, c7, c6, c5, c4, c3, c2, body3, Code.core, Code.one, Code.two, Try.f3, Option.getD_some, CAct, h1, h6, h7, h13, h14, h19]
  refine goes_ctl T rfl (fun _ => stepG_region) ?_
  simp only [List.size_toArray, List.length_cons, List.length_nil, Nat.reduceAdd, Nat.zero_add, List.range, List.range.loop]
  refine goes_op rfl (by rfl) (by decide) fun _ hRz Kz hKz => ?_
  replace hF := TD.rely hF hRz
  clear hRz
  (skip)
  go_simp
  try (unfold stored; go_simp)
  refine hKz _ _ ⟨?_, ?_⟩
  · (co_quiet T)
  clear hKz Kz
  try walk_nrm
  refine goes_op rfl (by rfl) (by decide) fun _ hRz Kz hKz => ?_
  replace hF := TD.rely hF hRz
  clear hRz
  (skip)
  go_simp
  try (unfold stored; go_simp)
  refine hKz _ _ ⟨?_, ?_⟩
  · (co_quiet T)
  clear hKz Kz
  try walk_nrm
  refine goes_op rfl (by rfl) (by decide) fun _ hRz Kz hKz => ?_
  replace hF := TD.rely hF hRz
  clear hRz
  (skip)
  go_simp
  try (unfold stored; go_simp)
  refine hKz _ _ ⟨?_, ?_⟩
  · (co_quiet T)
  clear hKz Kz
  try walk_nrm
  refine goes_op rfl (by rfl) (by decide) fun _ hRz Kz hKz => ?_
  replace hF := TD.rely hF hRz
  clear hRz
  (skip)
  go_simp
  try (unfold stored; go_simp)
  refine hKz _ _ ⟨?_, ?_⟩
  · (co_quiet T)
  clear hKz Kz
  try walk_nrm
  refine goes_ctl T rfl (fun _ => stepG_region_end) ?_
  refine goes_ctl T rfl (fun _ => (stepG_cond (t := false) rfl)) ?_
  simp only [Bool.false_eq_true, if_false]
  refine goes_ctl T rfl (fun w => stepG_exit (k' := [.code c10]) rfl) ?_
  exact key _ _ _ (cget rfl ⟨rfl, rfl, rfl, rfl, rfl⟩) hF
end
end Go.Proofs.Ytkaapaepanhbgaa
