/- told's loop: how much is fed. -/
import Derived.Test.YtkaapaepanhbgaaCToldA
set_option linter.unusedVariables false
set_option linter.unusedSimpArgs false
namespace Go.Proofs.Ytkaapaepanhbgaa
open Go Go.Conc Go.Pair Go.RowKit

noncomputable def BT : Code := Code.core (Code.one (Code.two LT))
noncomputable def R9T : Code := Code.two (Code.two LT)
noncomputable def B2T : Code := Code.one (Code.two BT)
noncomputable def B3T : Code := Code.two (Code.two BT)
theorem LT_eq : LT = .seq (Code.one LT) (.seq (.block 1 BT) R9T) := rfl
theorem LT1_eq : Code.one LT = .seq (.region 8 (Code.ops (Code.one (Code.one LT))) false) (.cond (.tmp 21) .skip (.exit 0)) := rfl
theorem BT_eq : BT = .seq (.region 10 (Code.ops (Code.one BT)) false) (.seq B2T B3T) := rfl
theorem B2T_eq : B2T = .seq (.region 11 (Code.ops (Code.one B2T)) false) (.cond (.tmp 29) (.region 12 (Code.ops (Code.yes (Code.two B2T))) false) .skip) := rfl

section
variable {Post : Value → World → Prop} {Shun : Loc → Prop} {W w w' w₁ : World} {N0 R : Nat} {p : List UInt8} {tl : Bool} {v outv : Value} {sent : List (List UInt8 × Value)} {fr : Frame} {cs : List Frame}

/-- The slot n. -/
def SlotN (u : Nat → Value) (n : Nat) : Prop := u 12 = .int .i64 n
theorem tact_12 {s0 s1 s7 s8 s9 s10 s11 x : Value} (a : Act) (h : a = TAct s0 s1 s7 s8 s9 s10 s11 fun i => a.tmps.getD i undef) (h12 : a.tmps.getD 12 undef = x) : ∃ u, a = TAct s0 s1 s7 s8 s9 s10 s11 u ∧ u 12 = x := ⟨_, h, h12⟩

set_option maxRecDepth 100000 in
set_option maxHeartbeats 1000000 in
/-- The last piece: all that is left. -/
theorem told_last {s0a : Option Addr} {len cap cl cc i : Nat} {ca : Option Addr} {lastv : Value} {u : Nat → Value} (hi : i = cl) (hlen : cl ≤ 9223372036854775807) (hF : TV W N0 R p tl v sent outv Shun w)
    (hnext : ∀ w' u', u' 12 = .int .i64 len → TV W N0 R p tl v sent outv Shun w' → EA Try.prog Post Shun (G ((base 6).at (TAct (.slice s0a len cap) (.slice ca cl cc) (.pointer (some ⟨R, 0, none⟩)) outv (.bool true) lastv (.int .i64 i) u') (.code B3T :: .inBlock 1 :: .code R9T :: LKT)) (fr :: cs)) w') :
    EA Try.prog Post Shun (G ((base 6).at (TAct (.slice s0a len cap) (.slice ca cl cc) (.pointer (some ⟨R, 0, none⟩)) outv (.bool true) lastv (.int .i64 i) u) (.code LT :: LKT)) (fr :: cs)) w := by
  have T := termsS Shun
  subst hi
  have hle : (i : Int) ≤ (i : Int) := by omega
  have hlt : ¬ (i : Int) < (i : Int) := by omega
  have key : ∀ (k : Nat) (a : Act) (w' : World), (∃ u', a = TAct (.slice s0a len cap) (.slice ca i cc) (.pointer (some ⟨R, 0, none⟩)) outv (.bool true) lastv (.int .i64 i) u' ∧ u' 12 = .int .i64 len) → TV W N0 R p tl v sent outv Shun w' →
      Goes Try.prog true AtRel (DS Shun) (EA Try.prog Post Shun) k (G ((base 6).at a (.code B3T :: .inBlock 1 :: .code R9T :: LKT)) (fr :: cs)) w' := fun k a w' ⟨u', e, h⟩ hF => by
    rw [e]
    exact EA.stop (hnext w' u' h hF)
  refine EA.goes (n := 28) ?_
  rw [LT_eq]
  refine goes_ctl T rfl (fun _ => stepG_seq) ?_
  rw [LT1_eq]
  refine goes_ctl T rfl (fun _ => stepG_seq) ?_
  simp only [Code.ops, LT, aft6, body6, Code.core, Code.one, Code.two, Try.f6, Option.getD_some, TAct]
  refine goes_ctl T rfl (fun _ => stepG_region) ?_
  simp only [List.size_toArray, List.length_cons, List.length_nil, Nat.reduceAdd, Nat.zero_add, List.range, List.range.loop]
  refine goes_op rfl (by rfl) (by decide) fun _ hRz Kz hKz => ?_
  replace hF := TV.rely hF hRz
  clear hRz
  (skip)
  go_simp
  try (unfold stored; go_simp)
  refine hKz _ _ ⟨?_, ?_⟩
  · (co_quiet T)
  clear hKz Kz
  try walk_nrm
  refine goes_op rfl (by rfl) (by decide) fun _ hRz Kz hKz => ?_
  replace hF := TV.rely hF hRz
  clear hRz
  (skip)
  go_simp
  try (unfold stored; go_simp)
  refine hKz _ _ ⟨?_, ?_⟩
  · (co_quiet T)
  clear hKz Kz
  try walk_nrm
  refine goes_op rfl (by rfl) (by decide) fun _ hRz Kz hKz => ?_
  replace hF := TV.rely hF hRz
  clear hRz
  (skip)
  go_simp
  try (unfold stored; go_simp)
  refine hKz _ _ ⟨?_, ?_⟩
  · (co_quiet T)
  clear hKz Kz
  try walk_nrm
  refine goes_op rfl (by rfl) (by decide) fun _ hRz Kz hKz => ?_
  replace hF := TV.rely hF hRz
  clear hRz
  (skip)
  go_simp
  try (unfold stored; go_simp)
  refine hKz _ _ ⟨?_, ?_⟩
  · (co_quiet T)
  clear hKz Kz
  try walk_nrm
  refine goes_ctl T rfl (fun _ => stepG_region_end) ?_
  refine goes_ctl T rfl (fun _ => (stepG_cond (t := true) rfl)) ?_
  simp only [if_true]
  refine goes_ctl T rfl (fun _ => stepG_skip) ?_
  refine goes_ctl T rfl (fun _ => stepG_seq) ?_
  refine goes_ctl T rfl (fun _ => stepG_block) ?_
  rw [BT_eq]
  refine goes_ctl T rfl (fun _ => stepG_seq) ?_
  simp only [Code.ops, BT, LT, aft6, body6, Code.core, Code.one, Code.two, Try.f6, Option.getD_some]
  refine goes_ctl T rfl (fun _ => stepG_region) ?_
  simp only [List.size_toArray, List.length_cons, List.length_nil, Nat.reduceAdd, Nat.zero_add, List.range, List.range.loop]
  refine goes_op rfl (by rfl) (by decide) fun _ hRz Kz hKz => ?_
  replace hF := TV.rely hF hRz
  clear hRz
  (skip)
  go_simp
  try (unfold stored; go_simp)
  refine hKz _ _ ⟨?_, ?_⟩
  · (co_quiet T)
  clear hKz Kz
  try walk_nrm
  refine goes_op rfl (by rfl) (by decide) fun _ hRz Kz hKz => ?_
  replace hF := TV.rely hF hRz
  clear hRz
  (skip)
  go_simp
  try (unfold stored; go_simp)
  refine hKz _ _ ⟨?_, ?_⟩
  · (co_quiet T)
  clear hKz Kz
  try walk_nrm
  refine goes_op rfl (by rfl) (by decide) fun _ hRz Kz hKz => ?_
  replace hF := TV.rely hF hRz
  clear hRz
  (skip)
  go_simp
  try (unfold stored; go_simp)
  refine hKz _ _ ⟨?_, ?_⟩
  · (co_quiet T)
  clear hKz Kz
  try walk_nrm
  refine goes_ctl T rfl (fun _ => stepG_region_end) ?_
  refine goes_ctl T rfl (fun _ => stepG_seq) ?_
  rw [B2T_eq]
  refine goes_ctl T rfl (fun _ => stepG_seq) ?_
  simp only [Code.ops, B2T, BT, LT, aft6, body6, Code.core, Code.one, Code.two, Code.yes, Try.f6, Option.getD_some]
  refine goes_ctl T rfl (fun _ => stepG_region) ?_
  simp only [List.size_toArray, List.length_cons, List.length_nil, Nat.reduceAdd, Nat.zero_add, List.range, List.range.loop]
  refine goes_op rfl (by rfl) (by decide) fun _ hRz Kz hKz => ?_
  replace hF := TV.rely hF hRz
  clear hRz
  (skip)
  go_simp
  try (unfold stored; go_simp)
  refine hKz _ _ ⟨?_, ?_⟩
  · (co_quiet T)
  clear hKz Kz
  try walk_nrm
  refine goes_op rfl (by rfl) (by decide) fun _ hRz Kz hKz => ?_
  replace hF := TV.rely hF hRz
  clear hRz
  (skip)
  go_simp
  try (unfold stored; go_simp)
  refine hKz _ _ ⟨?_, ?_⟩
  · (co_quiet T)
  clear hKz Kz
  try walk_nrm
  refine goes_op rfl (by rfl) (by decide) fun _ hRz Kz hKz => ?_
  replace hF := TV.rely hF hRz
  clear hRz
  (skip)
  go_simp
  try (unfold stored; go_simp)
  refine hKz _ _ ⟨?_, ?_⟩
  · (co_quiet T)
  clear hKz Kz
  try walk_nrm
  refine goes_op rfl (by rfl) (by decide) fun _ hRz Kz hKz => ?_
  replace hF := TV.rely hF hRz
  clear hRz
  (skip)
  go_simp
  try (unfold stored; go_simp)
  refine hKz _ _ ⟨?_, ?_⟩
  · (co_quiet T)
  clear hKz Kz
  try walk_nrm
  refine goes_ctl T rfl (fun _ => stepG_region_end) ?_
  refine goes_ctl T rfl (fun _ => (stepG_cond (t := false) rfl)) ?_
  simp only [Bool.false_eq_true, if_false]
  refine goes_ctl T rfl (fun _ => stepG_skip) ?_
  exact key _ _ _ (tact_12 _ rfl rfl) hF
end
end Go.Proofs.Ytkaapaepanhbgaa
