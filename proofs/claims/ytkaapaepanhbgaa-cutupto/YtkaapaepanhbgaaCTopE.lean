/- Cut: behind the two calls: the first test. -/
import Derived.Test.YtkaapaepanhbgaaCTopD
set_option linter.unusedVariables false
set_option linter.unusedSimpArgs false
namespace Go.Proofs.Ytkaapaepanhbgaa
open Go Go.Conc Go.Pair Go.RowKit

noncomputable def c9 : Code := Code.two c8
noncomputable def LC : Code := Code.core (Code.core (Code.two (Code.one c9)))
noncomputable def c10 : Code := Code.two c9
noncomputable def LKC : List Item := [.inLoop LC, .inBlock 4, .code c10]
theorem c8_eq : c8 = .seq (.seq (.region 17 (Code.ops (Code.one (Code.one c8))) false) (.cond (.tmp 106) (Code.yes (Code.two (Code.one c8))) .skip)) c9 := rfl
theorem c9_eq : c9 = .seq (.seq (.region 19 (Code.ops (Code.one (Code.one c9))) false) (.block 4 (.loop LC))) c10 := rfl

/-- What is held behind the two calls. -/
structure TD (W0 : World) (want : Value) (ws : List ByteArray) (sent1 : List (List UInt8 × Value)) (l : Value) (sent2 : List (List UInt8 × Value)) (k : Value) (S : Loc → Prop) (w : World) : Prop where
  hwant : WantAt w want ws
  l : ListAt w sent1 l
  k : ListAt w sent2 k
  shun : ShunW S w
  wk : ∀ (ad : Addr) (c : Nat), want = .slice (some ad) ws.length c → ∀ i, ¬ S (.cell (ad.add i))
  size : W0.heap.size ≤ w.heap.size
  old : ∀ i, i < W0.heap.size → w.heap[i]? = W0.heap[i]?

section
variable {Post : Value → World → Prop} {S : Loc → Prop} {W0 w w' w₁ : World} {want l k : Value} {ws : List ByteArray} {sent1 sent2 : List (List UInt8 × Value)} {cs : List Frame} {s : Nat → Value} {tv : Value}

theorem TD.rely (h : TD W0 want ws sent1 l sent2 k S w) (r : AtRel w w₁) : TD W0 want ws sent1 l sent2 k S w₁ := by
  have e := atRel_heap r
  exact ⟨h.hwant.keep (by rw [e]; exact Nat.le_refl _) (fun i _ => by rw [e]), h.l.keep (fun i _ => by rw [e]), h.k.keep (fun i _ => by rw [e]), h.shun.heap e, h.wk, by rw [e]; exact h.size, fun i hi => by rw [e]; exact h.old i hi⟩

set_option maxRecDepth 100000 in
set_option maxHeartbeats 4000000 in
theorem test17 {la ka : Option Addr} {lc kc wc n E : Nat} {ad : Addr} (hl : l = .slice la n lc) (hk : k = .slice ka n kc) (hw : want = .slice (some ad) ws.length wc) (hnw : ws.length ≤ n) (h1 : s 1 = tv) (h6 : s 6 = .bool false) (h7 : s 7 = want) (h13 : s 13 = l) (h14 : s 14 = .int .i64 E) (h15 : s 15 = .bool true) (h16 : s 16 = k) (h17 : s 17 = .int .i64 E) (h18 : s 18 = .bool true)
    (hF : TD W0 want ws sent1 l sent2 k S w)
    (hnext : ∀ w' (s' : Nat → Value), s' 1 = tv → s' 6 = .bool false → s' 7 = want → s' 13 = l → s' 14 = .int .i64 E → s' 16 = k → s' 19 = .int .i64 0 → TD W0 want ws sent1 l sent2 k S w' → EA Try.prog Post S (G ((base 3).at (CAct s') (.code LC :: LKC)) cs) w') :
    EA Try.prog Post S (G ((base 3).at (CAct s) [.code c8]) cs) w := by
  have T := termsS S
  subst hl
  subst hk
  subst hw
  have hlt : ¬ (n : Int) < (ws.length : Int) := by omega
  have key : ∀ (j : Nat) (a : Act) (w' : World), (∃ s', a = CAct s' ∧ s' 1 = tv ∧ s' 6 = .bool false ∧ s' 7 = .slice (some ad) ws.length wc ∧ s' 13 = .slice la n lc ∧ s' 14 = .int .i64 E ∧ s' 16 = .slice ka n kc ∧ s' 19 = .int .i64 0) → TD W0 (.slice (some ad) ws.length wc) ws sent1 (.slice la n lc) sent2 (.slice ka n kc) S w' →
      Goes Try.prog true AtRel (DS S) (EA Try.prog Post S) j (G ((base 3).at a (.code LC :: LKC)) cs) w' := fun j a w' ⟨s', e, g1, g6, g7, g13, g14, g16, g19⟩ hF => by
    rw [e]
    exact EA.stop (hnext w' s' g1 g6 g7 g13 g14 g16 g19 hF)
  refine EA.goes (n := 40) ?_
  rw [c8_eq]
  refine goes_ctl T rfl (fun _ => stepG_seq) ?_
  refine goes_ctl T rfl (fun _ => stepG_seq) ?_
  simp only [Code.ops, c8, c7, c6, c5, c4, c3, c2, body3, Code.core, Code.one, Code.two, Code.yes, Try.f3, Option.getD_some, CAct, h1, h6, h7, h13, h14, h15, h16, h17, h18]
  refine goes_ctl T rfl (fun _ => stepG_region) ?_
  simp only [List.size_toArray, List.length_cons, List.length_nil, Nat.reduceAdd, Nat.zero_add, List.range, List.range.loop]
  refine goes_op rfl (by rfl) (by decide) fun _ hRz Kz hKz => ?_
  replace hF := TD.rely hF hRz
  clear hRz
  (skip)
  go_simp
  try (unfold stored; go_simp)
  refine hKz _ _ ⟨?_, ?_⟩
  · (co_quiet T)
  clear hKz Kz
  try walk_nrm
  refine goes_op rfl (by rfl) (by decide) fun _ hRz Kz hKz => ?_
  replace hF := TD.rely hF hRz
  clear hRz
  (skip)
  go_simp
  try (unfold stored; go_simp)
  refine hKz _ _ ⟨?_, ?_⟩
  · (co_quiet T)
  clear hKz Kz
  try walk_nrm
  refine goes_op rfl (by rfl) (by decide) fun _ hRz Kz hKz => ?_
  replace hF := TD.rely hF hRz
  clear hRz
  (skip)
  go_simp
  try (unfold stored; go_simp)
  refine hKz _ _ ⟨?_, ?_⟩
  · (co_quiet T)
  clear hKz Kz
  try walk_nrm
  refine goes_op rfl (by rfl) (by decide) fun _ hRz Kz hKz => ?_
  replace hF := TD.rely hF hRz
  clear hRz
  (skip)
  go_simp
  try (unfold stored; go_simp)
  refine hKz _ _ ⟨?_, ?_⟩
  · (co_quiet T)
  clear hKz Kz
  try walk_nrm
  refine goes_op rfl (by rfl) (by decide) fun _ hRz Kz hKz => ?_
  replace hF := TD.rely hF hRz
  clear hRz
  (skip)
  go_simp
  try (unfold stored; go_simp)
  refine hKz _ _ ⟨?_, ?_⟩
  · (co_quiet T)
  clear hKz Kz
  try walk_nrm
  refine goes_op rfl (by rfl) (by decide) fun _ hRz Kz hKz => ?_
  replace hF := TD.rely hF hRz
  clear hRz
  (skip)
  go_simp
  try (unfold stored; go_simp)
  refine hKz _ _ ⟨?_, ?_⟩
  · (co_quiet T)
  clear hKz Kz
  try walk_nrm
  refine goes_op rfl (by rfl) (by decide) fun _ hRz Kz hKz => ?_
  replace hF := TD.rely hF hRz
  clear hRz
  (skip)
  go_simp
  try (unfold stored; go_simp)
  refine hKz _ _ ⟨?_, ?_⟩
  · (co_quiet T)
  clear hKz Kz
  try walk_nrm
  refine goes_op rfl (by rfl) (by decide) fun _ hRz Kz hKz => ?_
  replace hF := TD.rely hF hRz
  clear hRz
  (skip)
  go_simp
  try (unfold stored; go_simp)
  refine hKz _ _ ⟨?_, ?_⟩
  · (co_quiet T)
  clear hKz Kz
  try walk_nrm
  refine goes_op rfl (by rfl) (by decide) fun _ hRz Kz hKz => ?_
  replace hF := TD.rely hF hRz
  clear hRz
  (skip)
  go_simp
  try (unfold stored; go_simp)
  refine hKz _ _ ⟨?_, ?_⟩
  · (co_quiet T)
  clear hKz Kz
  try walk_nrm
  refine goes_op rfl (by rfl) (by decide) fun _ hRz Kz hKz => ?_
  replace hF := TD.rely hF hRz
  clear hRz
  (skip)
  go_simp
  try (unfold stored; go_simp)
  refine hKz _ _ ⟨?_, ?_⟩
  · (co_quiet T)
  clear hKz Kz
  try walk_nrm
  refine goes_op rfl (by rfl) (by decide) fun _ hRz Kz hKz => ?_
  replace hF := TD.rely hF hRz
  clear hRz
  (skip)
  go_simp
  try (unfold stored; go_simp)
  refine hKz _ _ ⟨?_, ?_⟩
  · (co_quiet T)
  clear hKz Kz
  try walk_nrm
  refine goes_op rfl (by rfl) (by decide) fun _ hRz Kz hKz => ?_
  replace hF := TD.rely hF hRz
  clear hRz
  (skip)
  go_simp
  try (unfold stored; go_simp)
  refine hKz _ _ ⟨?_, ?_⟩
  · (co_quiet T)
  clear hKz Kz
  try walk_nrm
  refine goes_op rfl (by rfl) (by decide) fun _ hRz Kz hKz => ?_
  replace hF := TD.rely hF hRz
  clear hRz
  (skip)
  go_simp
  try (unfold stored; go_simp)
  refine hKz _ _ ⟨?_, ?_⟩
  · (co_quiet T)
  clear hKz Kz
  try walk_nrm
  refine goes_op rfl (by rfl) (by decide) fun _ hRz Kz hKz => ?_
  replace hF := TD.rely hF hRz
  clear hRz
  (skip)
  go_simp
  try (unfold stored; go_simp)
  refine hKz _ _ ⟨?_, ?_⟩
  · (co_quiet T)
  clear hKz Kz
  try walk_nrm
  refine goes_op rfl (by rfl) (by decide) fun _ hRz Kz hKz => ?_
  replace hF := TD.rely hF hRz
  clear hRz
  (skip)
  go_simp
  try (unfold stored; go_simp)
  refine hKz _ _ ⟨?_, ?_⟩
  · (co_quiet T)
  clear hKz Kz
  try walk_nrm
  refine goes_op rfl (by rfl) (by decide) fun _ hRz Kz hKz => ?_
  replace hF := TD.rely hF hRz
  clear hRz
  (skip)
  go_simp
  try (unfold stored; go_simp)
  refine hKz _ _ ⟨?_, ?_⟩
  · (co_quiet T)
  clear hKz Kz
  try walk_nrm
  refine goes_op rfl (by rfl) (by decide) fun _ hRz Kz hKz => ?_
  replace hF := TD.rely hF hRz
  clear hRz
  (skip)
  go_simp
  try (unfold stored; go_simp)
  refine hKz _ _ ⟨?_, ?_⟩
  · (co_quiet T)
  clear hKz Kz
  try walk_nrm
  refine goes_op rfl (by rfl) (by decide) fun _ hRz Kz hKz => ?_
  replace hF := TD.rely hF hRz
  clear hRz
  (skip)
  go_simp
  try (unfold stored; go_simp)
  refine hKz _ _ ⟨?_, ?_⟩
  · (co_quiet T)
  clear hKz Kz
  try walk_nrm
  refine goes_op rfl (by rfl) (by decide) fun _ hRz Kz hKz => ?_
  replace hF := TD.rely hF hRz
  clear hRz
  (skip)
  go_simp
  try (unfold stored; go_simp)
  refine hKz _ _ ⟨?_, ?_⟩
  · (co_quiet T)
  clear hKz Kz
  try walk_nrm
  refine goes_op rfl (by rfl) (by decide) fun _ hRz Kz hKz => ?_
  replace hF := TD.rely hF hRz
  clear hRz
  (skip)
  go_simp
  try (unfold stored; go_simp)
  refine hKz _ _ ⟨?_, ?_⟩
  · (co_quiet T)
  clear hKz Kz
  try walk_nrm
  refine goes_op rfl (by rfl) (by decide) fun _ hRz Kz hKz => ?_
  replace hF := TD.rely hF hRz
  clear hRz
  (skip)
  go_simp
  try (unfold stored; go_simp)
  refine hKz _ _ ⟨?_, ?_⟩
  · (co_quiet T)
  clear hKz Kz
  try walk_nrm
  refine goes_op rfl (by rfl) (by decide) fun _ hRz Kz hKz => ?_
  replace hF := TD.rely hF hRz
  clear hRz
  (skip)
  go_simp
  try (unfold stored; go_simp)
  refine hKz _ _ ⟨?_, ?_⟩
  · (co_quiet T)
  clear hKz Kz
  try walk_nrm
  refine goes_op rfl (by rfl) (by decide) fun _ hRz Kz hKz => ?_
  replace hF := TD.rely hF hRz
  clear hRz
  (skip)
  go_simp
  try (unfold stored; go_simp)
  refine hKz _ _ ⟨?_, ?_⟩
  · (co_quiet T)
  clear hKz Kz
  try walk_nrm
  refine goes_op rfl (by rfl) (by decide) fun _ hRz Kz hKz => ?_
  replace hF := TD.rely hF hRz
  clear hRz
  (skip)
  go_simp
  try (unfold stored; go_simp)
  refine hKz _ _ ⟨?_, ?_⟩
  · (co_quiet T)
  clear hKz Kz
  try walk_nrm
  refine goes_op rfl (by rfl) (by decide) fun _ hRz Kz hKz => ?_
  replace hF := TD.rely hF hRz
  clear hRz
  (skip)
  go_simp
  try (unfold stored; go_simp)
  refine hKz _ _ ⟨?_, ?_⟩
  · (co_quiet T)
  clear hKz Kz
  try walk_nrm
  refine goes_ctl T rfl (fun _ => stepG_region_end) ?_
  refine goes_ctl T rfl (fun _ => (stepG_cond (t := false) rfl)) ?_
  simp only [Bool.false_eq_true, if_false]
  refine goes_ctl T rfl (fun _ => stepG_skip) ?_
  rw [c9_eq]
  refine goes_ctl T rfl (fun _ => stepG_seq) ?_
  refine goes_ctl T rfl (fun _ => stepG_seq) ?_
  simp only [Code.ops, c9, c8, c7, c6, c5, c4, c3, c2, body3, Code.core, Code.one, Code.two, Try.f3, Option.getD_some]
  refine goes_ctl T rfl (fun _ => stepG_region) ?_
  simp only [List.size_toArray, List.length_cons, List.length_nil, Nat.reduceAdd, Nat.zero_add, List.range, List.range.loop]
  refine goes_op rfl (by rfl) (by decide) fun _ hRz Kz hKz => ?_
  replace hF := TD.rely hF hRz
  clear hRz
  (skip)
  go_simp
  try (unfold stored; go_simp)
  refine hKz _ _ ⟨?_, ?_⟩
  · (co_quiet T)
  clear hKz Kz
  try walk_nrm
  refine goes_ctl T rfl (fun _ => stepG_region_end) ?_
  refine goes_ctl T rfl (fun _ => stepG_block) ?_
  refine goes_ctl T rfl (fun _ => stepG_loop) ?_
  exact key _ _ _ (cget rfl ⟨rfl, rfl, rfl, rfl, rfl, rfl, rfl⟩) hF
end
end Go.Proofs.Ytkaapaepanhbgaa
