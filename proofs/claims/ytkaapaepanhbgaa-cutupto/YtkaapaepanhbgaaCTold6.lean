/- told's loop: behind the Feed. -/
import Derived.Test.YtkaapaepanhbgaaCTold5
set_option linter.unusedVariables false
set_option linter.unusedSimpArgs false
namespace Go.Proofs.Ytkaapaepanhbgaa
open Go Go.Conc Go.Pair Go.RowKit

/-- Behind the Feed, ahead of the append. -/
structure TF (W : World) (N0 R : Nat) (q : List UInt8) (t : Bool) (v : Value) (sent : List (List UInt8 × Value)) (outv : Value) (S : Loc → Prop) (sent' : List (List UInt8 × Value)) (lv : Value) (w : World) : Prop where
  tv : TV W N0 R q t v sent outv S w
  row : RowIs w 25 (sent'.map (·.2)) lv
  msg : ∀ x ∈ sent', ∃ r, W.heap.size ≤ r ∧ x.2 = .slice (some ⟨r, 0, none⟩) x.1.length x.1.length ∧ w.heap[r]? = some (.cells (bc x.1).toArray 5) ∧ v.ownBlock ≠ some r
section
variable {Post : Value → World → Prop} {S : Loc → Prop} {W w w' w₁ : World} {N0 R : Nat} {q : List UInt8} {t : Bool} {v outv lv : Value} {sent sent' : List (List UInt8 × Value)} {fr : Frame} {cs : List Frame}
theorem TF.rely (h : TF W N0 R q t v sent outv S sent' lv w) (r : AtRel w w₁) : TF W N0 R q t v sent outv S sent' lv w₁ := by
  have e := atRel_heap r
  refine ⟨h.tv.heap e, RowIs.back h.row (fun q o _ x => by rw [e]; exact x), fun x hx => ?_⟩
  rw [e]
  exact h.msg x hx
theorem TF.one (h : TF W N0 R q t v sent outv S sent' lv w) : ∀ u ∈ sent'.map (·.2), u.oneCell' = true := fun u hu => by
  obtain ⟨x, hx, rfl⟩ := List.mem_map.1 hu
  obtain ⟨r, _, h2, _⟩ := h.msg x hx
  rw [h2]
  rfl

noncomputable def TAILT : Code := Code.two (Code.two B4T)
theorem TAILT_eq : TAILT = .seq (.region 17 (Code.ops (Code.one TAILT)) false) (.region 18 (Code.ops (Code.two TAILT)) false) := rfl
theorem tact_1314 {s0 s1 s7 s8 s9 s10 s11 y z : Value} (a : Act) (h : a = TAct s0 s1 s7 s8 s9 s10 s11 fun i => a.tmps.getD i undef) (h13 : a.tmps.getD 13 undef = y) (h14 : a.tmps.getD 14 undef = z) : ∃ u, a = TAct s0 s1 s7 s8 s9 s10 s11 u ∧ u 13 = y ∧ u 14 = z := ⟨_, h, h13, h14⟩

set_option maxRecDepth 100000 in
set_option maxHeartbeats 1000000 in
/-- all = all[n:]; the test of ok. -/
theorem told_rest {x o len cap n i : Nat} {s1 : Value} {tl : Bool} {u : Nat → Value} (hn : n ≤ len) (hcap : len ≤ cap) (hmax : cap ≤ maxLen) (hu : u 12 = .int .i64 n) (h13 : u 13 = lv) (h14 : u 14 = .int .i64 (if t then 4 else 0))
    (htl : tl = true → t = true ∧ sent' = []) (hF : TF W N0 R q t v sent outv S sent' lv w)
    (hnext : ∀ w' (u' : Nat → Value), u' 13 = lv → u' 14 = .int .i64 (if t then 4 else 0) → TF W N0 R q t v sent outv S sent' lv w' →
      EA Try.prog Post S (G ((base 6).at (TAct (.slice (behindAt x o n cap) (len - n) (cap - n)) s1 (.pointer (some ⟨R, 0, none⟩)) outv (.bool true) (.int .i64 (if tl then 4 else 0)) (.int .i64 i) u') (.code TAILT :: .inBlock 1 :: .code R9T :: LKT)) (fr :: cs)) w') :
    EA Try.prog Post S (G ((base 6).at (TAct (.slice (some ⟨x, o, none⟩) len cap) s1 (.pointer (some ⟨R, 0, none⟩)) outv (.bool true) (.int .i64 (if tl then 4 else 0)) (.int .i64 i) u) (.code B4T :: .inBlock 1 :: .code R9T :: LKT)) (fr :: cs)) w := by
  have T := termsS S
  have hev := fun w es => events_sl_l w es (some ⟨x, o, none⟩) len cap n (by omega) (by omega)
  have hj0 : (0 : Int) ≤ (n : Int) := by omega
  have hj1 : (n : Int) ≤ (len : Int) := by omega
  have hj2 : (len : Int) ≤ (cap : Int) := by omega
  have key : ∀ (k : Nat) (a : Act) (w' : World), (∃ u', a = TAct (.slice (behindAt x o n cap) (len - n) (cap - n)) s1 (.pointer (some ⟨R, 0, none⟩)) outv (.bool true) (.int .i64 (if tl then 4 else 0)) (.int .i64 i) u' ∧ u' 13 = lv ∧ u' 14 = .int .i64 (if t then 4 else 0)) → TF W N0 R q t v sent outv S sent' lv w' →
      Goes Try.prog true AtRel (DS S) (EA Try.prog Post S) k (G ((base 6).at a (.code TAILT :: .inBlock 1 :: .code R9T :: LKT)) (fr :: cs)) w' := fun k a w' ⟨u', e, h1, h2⟩ hF => by
    rw [e]
    exact EA.stop (hnext w' u' h1 h2 hF)
  refine EA.goes (n := 50) ?_
  rw [B4T_eq]
  rw [show Code.seq (.region 17 (Code.ops (Code.one (Code.two (Code.two B4T)))) false) (.region 18 (Code.ops (Code.two (Code.two (Code.two B4T)))) false) = TAILT from rfl]
  refine goes_ctl T rfl (fun _ => stepG_seq) ?_
  simp only [Code.ops, B4T, B3T, BT, LT, aft6, body6, Code.core, Code.one, Code.two, Try.f6, Option.getD_some, TAct, hu, h13, h14]
  refine goes_ctl T rfl (fun _ => stepG_region) ?_
  simp only [List.size_toArray, List.length_cons, List.length_nil, Nat.reduceAdd, Nat.zero_add, List.range, List.range.loop]
  refine goes_op rfl (by rfl) (by decide) fun _ hRz Kz hKz => ?_
  replace hF := TF.rely hF hRz
  clear hRz
  (skip)
  go_simp
  try (unfold stored; go_simp)
  refine hKz _ _ ⟨?_, ?_⟩
  · (co_quiet T)
  clear hKz Kz
  try walk_nrm
  refine goes_op rfl (by rfl) (by decide) fun _ hRz Kz hKz => ?_
  replace hF := TF.rely hF hRz
  clear hRz
  (skip)
  go_simp
  try (unfold stored; go_simp)
  refine hKz _ _ ⟨?_, ?_⟩
  · (co_quiet T)
  clear hKz Kz
  try walk_nrm
  refine goes_op rfl (by rfl) (by decide) fun _ hRz Kz hKz => ?_
  replace hF := TF.rely hF hRz
  clear hRz
  (skip)
  go_simp
  try (unfold stored; go_simp)
  refine hKz _ _ ⟨?_, ?_⟩
  · (co_still T)
  clear hKz Kz
  try walk_nrm
  refine goes_op rfl (by rfl) (by decide) fun _ hRz Kz hKz => ?_
  replace hF := TF.rely hF hRz
  clear hRz
  (skip)
  go_simp
  try (unfold stored; go_simp)
  refine hKz _ _ ⟨?_, ?_⟩
  · (co_quiet T)
  clear hKz Kz
  try walk_nrm
  refine goes_ctl T rfl (fun _ => stepG_region_end) ?_
  refine goes_ctl T rfl (fun _ => stepG_seq) ?_
  refine goes_ctl T rfl (fun _ => stepG_seq) ?_
  refine goes_ctl T rfl (fun _ => stepG_region) ?_
  simp only [List.size_toArray, List.length_cons, List.length_nil, Nat.reduceAdd, Nat.zero_add, List.range, List.range.loop]
  refine goes_op rfl (by rfl) (by decide) fun _ hRz Kz hKz => ?_
  replace hF := TF.rely hF hRz
  clear hRz
  (skip)
  go_simp
  try (unfold stored; go_simp)
  refine hKz _ _ ⟨?_, ?_⟩
  · (co_quiet T)
  clear hKz Kz
  try walk_nrm
  cases tl with
  | false =>
    simp only [Bool.false_eq_true, if_false]
    refine goes_op rfl (by rfl) (by decide) fun _ hRz Kz hKz => ?_
    replace hF := TF.rely hF hRz
    clear hRz
    (skip)
    go_simp
    try (unfold stored; go_simp)
    refine hKz _ _ ⟨?_, ?_⟩
    · (co_quiet T)
    clear hKz Kz
    try walk_nrm
    refine goes_op rfl (by rfl) (by decide) fun _ hRz Kz hKz => ?_
    replace hF := TF.rely hF hRz
    clear hRz
    (skip)
    go_simp
    try (unfold stored; go_simp)
    refine hKz _ _ ⟨?_, ?_⟩
    · (co_quiet T)
    clear hKz Kz
    try walk_nrm
    refine goes_ctl T rfl (fun _ => (stepG_unwanted rfl rfl)) ?_
    walk_nrm
    refine goes_ctl T rfl (fun _ => (stepG_unwanted rfl rfl)) ?_
    walk_nrm
    refine goes_ctl T rfl (fun _ => (stepG_unwanted rfl rfl)) ?_
    walk_nrm
    refine goes_ctl T rfl (fun _ => (stepG_unwanted rfl rfl)) ?_
    walk_nrm
    refine goes_ctl T rfl (fun _ => (stepG_unwanted rfl rfl)) ?_
    walk_nrm
    refine goes_ctl T rfl (fun _ => (stepG_unwanted rfl rfl)) ?_
    walk_nrm
    refine goes_ctl T rfl (fun _ => (stepG_unwanted rfl rfl)) ?_
    walk_nrm
    refine goes_ctl T rfl (fun _ => (stepG_unwanted rfl rfl)) ?_
    walk_nrm
    refine goes_op rfl (by rfl) (by decide) fun _ hRz Kz hKz => ?_
    replace hF := TF.rely hF hRz
    clear hRz
    (skip)
    go_simp
    try (unfold stored; go_simp)
    refine hKz _ _ ⟨?_, ?_⟩
    · (co_quiet T)
    clear hKz Kz
    try walk_nrm
    refine goes_ctl T rfl (fun _ => stepG_region_end) ?_
    refine goes_ctl T rfl (fun _ => (stepG_cond (t := false) rfl)) ?_
    simp only [Bool.false_eq_true, if_false]
    refine goes_ctl T rfl (fun _ => stepG_skip) ?_
    exact key _ _ _ (tact_1314 _ rfl rfl rfl) hF
  | true =>
    obtain ⟨rfl, rfl⟩ := htl rfl
    obtain ⟨lb, lc, rfl⟩ : ∃ lb lc, lv = .slice lb 0 lc := by
      rcases hF.row with ⟨h1, _⟩ | ⟨q, c, cells, h1, _⟩
      · exact ⟨_, _, h1⟩
      · exact ⟨_, _, h1⟩
    simp only [if_true] at h14 ⊢
    refine goes_op rfl (by rfl) (by decide) fun _ hRz Kz hKz => ?_
    replace hF := TF.rely hF hRz
    clear hRz
    (skip)
    go_simp
    try (unfold stored; go_simp)
    refine hKz _ _ ⟨?_, ?_⟩
    · (co_quiet T)
    clear hKz Kz
    try walk_nrm
    refine goes_op rfl (by rfl) (by decide) fun _ hRz Kz hKz => ?_
    replace hF := TF.rely hF hRz
    clear hRz
    (skip)
    go_simp
    try (unfold stored; go_simp)
    refine hKz _ _ ⟨?_, ?_⟩
    · (co_quiet T)
    clear hKz Kz
    try walk_nrm
    refine goes_op rfl (by rfl) (by decide) fun _ hRz Kz hKz => ?_
    replace hF := TF.rely hF hRz
    clear hRz
    (skip)
    go_simp
    try (unfold stored; go_simp)
    refine hKz _ _ ⟨?_, ?_⟩
    · (co_quiet T)
    clear hKz Kz
    try walk_nrm
    refine goes_op rfl (by rfl) (by decide) fun _ hRz Kz hKz => ?_
    replace hF := TF.rely hF hRz
    clear hRz
    (skip)
    go_simp
    try (unfold stored; go_simp)
    refine hKz _ _ ⟨?_, ?_⟩
    · (co_quiet T)
    clear hKz Kz
    try walk_nrm
    refine goes_op rfl (by rfl) (by decide) fun _ hRz Kz hKz => ?_
    replace hF := TF.rely hF hRz
    clear hRz
    (skip)
    go_simp
    try (unfold stored; go_simp)
    refine hKz _ _ ⟨?_, ?_⟩
    · (co_quiet T)
    clear hKz Kz
    try walk_nrm
    refine goes_op rfl (by rfl) (by decide) fun _ hRz Kz hKz => ?_
    replace hF := TF.rely hF hRz
    clear hRz
    (skip)
    go_simp
    try (unfold stored; go_simp)
    refine hKz _ _ ⟨?_, ?_⟩
    · (co_quiet T)
    clear hKz Kz
    try walk_nrm
    refine goes_op rfl (by rfl) (by decide) fun _ hRz Kz hKz => ?_
    replace hF := TF.rely hF hRz
    clear hRz
    (skip)
    go_simp
    try (unfold stored; go_simp)
    refine hKz _ _ ⟨?_, ?_⟩
    · (co_quiet T)
    clear hKz Kz
    try walk_nrm
    refine goes_op rfl (by rfl) (by decide) fun _ hRz Kz hKz => ?_
    replace hF := TF.rely hF hRz
    clear hRz
    (skip)
    go_simp
    try (unfold stored; go_simp)
    refine hKz _ _ ⟨?_, ?_⟩
    · (co_quiet T)
    clear hKz Kz
    try walk_nrm
    refine goes_op rfl (by rfl) (by decide) fun _ hRz Kz hKz => ?_
    replace hF := TF.rely hF hRz
    clear hRz
    (skip)
    go_simp
    try (unfold stored; go_simp)
    refine hKz _ _ ⟨?_, ?_⟩
    · (co_quiet T)
    clear hKz Kz
    try walk_nrm
    refine goes_op rfl (by rfl) (by decide) fun _ hRz Kz hKz => ?_
    replace hF := TF.rely hF hRz
    clear hRz
    (skip)
    go_simp
    try (unfold stored; go_simp)
    refine hKz _ _ ⟨?_, ?_⟩
    · (co_quiet T)
    clear hKz Kz
    try walk_nrm
    refine goes_op rfl (by rfl) (by decide) fun _ hRz Kz hKz => ?_
    replace hF := TF.rely hF hRz
    clear hRz
    (skip)
    go_simp
    try (unfold stored; go_simp)
    refine hKz _ _ ⟨?_, ?_⟩
    · (co_quiet T)
    clear hKz Kz
    try walk_nrm
    refine goes_ctl T rfl (fun _ => stepG_region_end) ?_
    refine goes_ctl T rfl (fun _ => (stepG_cond (t := false) rfl)) ?_
    simp only [Bool.false_eq_true, if_false]
    refine goes_ctl T rfl (fun _ => stepG_skip) ?_
    exact key _ _ _ (tact_1314 _ rfl rfl rfl) hF
end
end Go.Proofs.Ytkaapaepanhbgaa
