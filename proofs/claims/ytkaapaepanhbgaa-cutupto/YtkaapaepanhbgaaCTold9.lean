/- told: the contract. -/
import Derived.Test.YtkaapaepanhbgaaCToldB
set_option linter.unusedVariables false
set_option linter.unusedSimpArgs false
namespace Go.Proofs.Ytkaapaepanhbgaa
open Go Go.Conc Go.Pair Go.RowKit

/-- What told leaves. -/
structure ToldOut (W : World) (N0 : Nat) (sent : List (List UInt8 × Value)) (outv : Value) (S : Loc → Prop) (w : World) : Prop where
  size : W.heap.size ≤ w.heap.size
  old : ∀ i, i < W.heap.size → w.heap[i]? = W.heap[i]?
  list : RowIs w 25 (sent.map (·.2)) outv
  lge : ∀ g, outv.ownBlock = some g → W.heap.size ≤ g
  msg : ∀ x ∈ sent, ∃ r, W.heap.size ≤ r ∧ x.2 = .slice (some ⟨r, 0, none⟩) x.1.length x.1.length ∧ w.heap[r]? = some (.cells (bc x.1).toArray 5)
  shun : ShunW S w
  top : ∀ l, S l → ∃ a : Addr, l = .cell a ∧ N0 ≤ a.block

theorem ev_equalIn35 (d : Nat) (a : Addr) (w : World) (es : Array Event) : (Op.equalIn (d + 1) 35 (.pointer (some a)) (.pointer none)).events Try.prog w es = es := by
  simp [Op.equalIn, go_sem, Try.runUnderlying35, Result.evThen]
theorem ev_ptr35 (a : Addr) (w : World) (es : Array Event) : (binOp .eql 35 (.pointer (some a)) (.pointer none)).events Try.prog w es = es := by
  have h := ev_equalIn35 9999 a w es
  simp only [binOp]
  simp [Op.equal, go_sem]
  exact h

theorem aft6_eq : aft6 = .seq (.seq (.region 7 (Code.ops (Code.one (Code.one aft6))) false) (.block 0 (.loop LT))) ENDT := rfl

section
variable {Post : Value → World → Prop} {S : Loc → Prop} {W w w' w₁ : World} {N0 : Nat}

set_option maxRecDepth 100000 in
set_option maxHeartbeats 1000000 in
theorem told_E {cuts : List Int} {ca : Option Addr} {cc x o cap : Nat} {all : List UInt8} {bodies : List (List UInt8)} {q : List UInt8} {t : Bool} (hT : Told [] false all cuts bodies q t) (hN : N0 ≤ W.heap.size) (hcu : CutsAt W N0 ca cuts) (hcl : cuts.length < 9223372036854775805)
    (hb : BytesW W (some ⟨x, o, none⟩) all cap) (hal : all.length < 9223372036854775807) (hbd : bodies.length ≤ 4294967296) (hS : ShunW S W) (htop : ∀ l, S l → ∃ a : Addr, l = .cell a ∧ N0 ≤ a.block) :
    CallsE Try.prog Post 6 #[.slice (some ⟨x, o, none⟩) all.length cap, .slice ca cuts.length cc] S W (fun y w' S' => ∃ sent outv, sent.map (·.1) = bodies ∧ y = .tuple #[outv, .int .i64 (if t then 4 else 0), .bool true] ∧ ToldOut W N0 sent outv S' w') := by
  refine ⟨Try.f6, body6, Try.func6, by rfl, rfl, fun fr cs hnext => ?_⟩
  have T := termsS S
  obtain ⟨nr, hnr⟩ := newReader_c (Shun := S)
  have key : ∀ (k : Nat) (a : Act) (w : World), (∃ u, a = TAct (.slice (some ⟨x, o, none⟩) all.length cap) (.slice ca cuts.length cc) (.pointer (some ⟨W.heap.size, 0, none⟩)) (.slice none 0 0) (.bool true) (.int .i64 0) (.int .i64 0) u) → PV W [.cells #[.slice none 0 0, .bool false] 44] w →
      Goes Try.prog true AtRel (DS S) (EA Try.prog Post S) k (G ((base 6).at a (.code LT :: LKT)) (fr :: cs)) w := fun k a w ⟨u, e⟩ hP => by
    rw [e]
    refine EA.stop ?_
    have hsz := hP.size
    simp at hsz
    have hF : TV W N0 W.heap.size [] false (.slice none 0 0) [] (.slice none 0 0) S w := ⟨by omega, hP.old, ⟨hP.new 0 _ rfl, .inl ⟨rfl, rfl⟩, okP_nil⟩, Nat.le_refl _, fun g hg => by simp [Value.ownBlock] at hg, .inl ⟨rfl, rfl⟩, fun g hg => by simp [Value.ownBlock] at hg, fun x hx => by simp at hx, PV.shun hP hS, htop⟩
    exact told_loop hN hcu hcl cuts 0 [] false all bodies q t hT (by simp) (by omega) x o cap _ _ [] S w u hb hal (by simpa using hbd) hF fun w' v' outv' sent' S' hs hF => hnext _ _ _ ⟨sent', outv', by simpa using hs, rfl, ⟨hF.size, hF.old, hF.list, hF.lge, fun x hx => let ⟨r, h1, h2, h3, h4⟩ := hF.msg x hx; ⟨r, h1, h2, h3⟩, hF.shun, hF.top⟩⟩
  have hF := PV.start W
  refine EA.goes (n := nr + 42) ?_
  simp only [Try.ntmps6, List.size_toArray, List.length_cons, List.length_nil, Nat.reduceAdd, Nat.reduceSub, Array.replicate_succ, Array.replicate_zero, List.push_toArray, List.append_toArray, List.nil_append, List.cons_append]
  rw [show body6 = .seq (Code.one body6) (.seq (Code.one (Code.two body6)) (.seq (Code.one (Code.two (Code.two body6))) (.seq (Code.one (Code.two (Code.two (Code.two body6)))) (.seq (Code.one (Code.two (Code.two (Code.two (Code.two body6))))) (.seq (Code.one (Code.two (Code.two (Code.two (Code.two (Code.two body6)))))) aft6))))) from rfl]
  simp only [body6, Code.core, Code.one, Code.two, Try.f6, Option.getD_some]
  refine goes_ctl T rfl (fun _ => stepG_seq) ?_
  refine goes_ctl T rfl (fun _ => stepG_region) ?_
  simp only [List.size_toArray, List.length_cons, List.length_nil, Nat.reduceAdd, Nat.zero_add, List.range, List.range.loop]
  refine goes_op rfl (by rfl) (by decide) fun _ hRz Kz hKz => ?_
  replace hF := PV.rely hF hRz
  clear hRz
  (skip)
  go_simp
  try (unfold stored; go_simp)
  refine hKz _ _ ⟨?_, ?_⟩
  · (co_quiet T)
  clear hKz Kz
  try walk_nrm
  refine goes_op rfl (by rfl) (by decide) fun _ hRz Kz hKz => ?_
  replace hF := PV.rely hF hRz
  clear hRz
  (skip)
  go_simp
  try (unfold stored; go_simp)
  refine hKz _ _ ⟨?_, ?_⟩
  · (co_quiet T)
  clear hKz Kz
  try walk_nrm
  refine goes_op rfl (by rfl) (by decide) fun _ hRz Kz hKz => ?_
  replace hF := PV.rely hF hRz
  clear hRz
  (skip)
  go_simp
  try (unfold stored; go_simp)
  refine hKz _ _ ⟨?_, ?_⟩
  · (co_quiet T)
  clear hKz Kz
  try walk_nrm
  refine goes_ctl T rfl (fun _ => stepG_region_end) ?_
  refine goes_ctl T rfl (fun _ => stepG_seq) ?_
  refine goes_ctl T rfl (fun _ => stepG_region) ?_
  simp only [List.size_toArray, List.length_cons, List.length_nil, Nat.reduceAdd, Nat.zero_add, List.range, List.range.loop]
  refine Goes.mono (Goes.call (m := 30) (nf := nr) T rfl (by rfl) (by decide) rfl (by walk_nrm; exact hnr _ _ _ hF) ?_) (by omega)
  rintro y w' ⟨rfl, hpv⟩
  simp only [List.nil_append, List.length_nil, Nat.add_zero] at hpv ⊢
  clear hF
  have hF := hpv
  clear hpv
  walk_nrm
  refine goes_op rfl (by rfl) (by decide) fun _ hRz Kz hKz => ?_
  replace hF := PV.rely hF hRz
  clear hRz
  (skip)
  go_simp
  try (unfold stored; go_simp)
  refine hKz _ _ ⟨?_, ?_⟩
  · (co_quiet T)
  clear hKz Kz
  try walk_nrm
  refine goes_ctl T rfl (fun _ => stepG_region_end) ?_
  refine goes_ctl T rfl (fun _ => stepG_seq) ?_
  refine goes_ctl T rfl (fun _ => stepG_seq) ?_
  refine goes_ctl T rfl (fun _ => stepG_region) ?_
  simp only [List.size_toArray, List.length_cons, List.length_nil, Nat.reduceAdd, Nat.zero_add, List.range, List.range.loop]
  refine goes_op rfl (by rfl) (by decide) fun _ hRz Kz hKz => ?_
  replace hF := PV.rely hF hRz
  clear hRz
  (skip)
  go_simp
  try (unfold stored; go_simp)
  refine hKz _ _ ⟨?_, ?_⟩
  · (co_quiet T)
  clear hKz Kz
  try walk_nrm
  refine goes_op rfl (by rfl) (by decide) fun _ hRz Kz hKz => ?_
  replace hF := PV.rely hF hRz
  clear hRz
  (have hp35 := ev_ptr35)
  go_simp
  try (unfold stored; go_simp)
  refine hKz _ _ ⟨?_, ?_⟩
  · (rw [listed_nil (by simp [go_sem, hp35])]; exact T.idle _)
  clear hKz Kz
  try walk_nrm
  refine goes_ctl T rfl (fun _ => stepG_region_end) ?_
  refine goes_ctl T rfl (fun _ => (stepG_cond (t := false) rfl)) ?_
  simp only [Bool.false_eq_true, if_false]
  refine goes_ctl T rfl (fun _ => stepG_skip) ?_
  refine goes_ctl T rfl (fun _ => stepG_seq) ?_
  refine goes_ctl T rfl (fun _ => stepG_region) ?_
  simp only [List.size_toArray, List.length_cons, List.length_nil, Nat.reduceAdd, Nat.zero_add, List.range, List.range.loop]
  refine goes_op rfl (by rfl) (by decide) fun _ hRz Kz hKz => ?_
  replace hF := PV.rely hF hRz
  clear hRz
  (skip)
  go_simp
  try (unfold stored; go_simp)
  refine hKz _ _ ⟨?_, ?_⟩
  · (co_quiet T)
  clear hKz Kz
  try walk_nrm
  refine goes_ctl T rfl (fun _ => stepG_region_end) ?_
  refine goes_ctl T rfl (fun _ => stepG_seq) ?_
  refine goes_ctl T rfl (fun _ => stepG_region) ?_
  simp only [List.size_toArray, List.length_cons, List.length_nil, Nat.reduceAdd, Nat.zero_add, List.range, List.range.loop]
  refine goes_op rfl (by rfl) (by decide) fun _ hRz Kz hKz => ?_
  replace hF := PV.rely hF hRz
  clear hRz
  (skip)
  go_simp
  try (unfold stored; go_simp)
  refine hKz _ _ ⟨?_, ?_⟩
  · (co_quiet T)
  clear hKz Kz
  try walk_nrm
  refine goes_ctl T rfl (fun _ => stepG_region_end) ?_
  refine goes_ctl T rfl (fun _ => stepG_seq) ?_
  refine goes_ctl T rfl (fun _ => stepG_region) ?_
  simp only [List.size_toArray, List.length_cons, List.length_nil, Nat.reduceAdd, Nat.zero_add, List.range, List.range.loop]
  refine goes_op rfl (by rfl) (by decide) fun _ hRz Kz hKz => ?_
  replace hF := PV.rely hF hRz
  clear hRz
  (skip)
  go_simp
  try (unfold stored; go_simp)
  refine hKz _ _ ⟨?_, ?_⟩
  · (co_quiet T)
  clear hKz Kz
  try walk_nrm
  refine goes_ctl T rfl (fun _ => stepG_region_end) ?_
  rw [aft6_eq]
  refine goes_ctl T rfl (fun _ => stepG_seq) ?_
  refine goes_ctl T rfl (fun _ => stepG_seq) ?_
  simp only [Code.ops, aft6, body6, Code.core, Code.one, Code.two, Try.f6, Option.getD_some]
  refine goes_ctl T rfl (fun _ => stepG_region) ?_
  simp only [List.size_toArray, List.length_cons, List.length_nil, Nat.reduceAdd, Nat.zero_add, List.range, List.range.loop]
  refine goes_op rfl (by rfl) (by decide) fun _ hRz Kz hKz => ?_
  replace hF := PV.rely hF hRz
  clear hRz
  (skip)
  go_simp
  try (unfold stored; go_simp)
  refine hKz _ _ ⟨?_, ?_⟩
  · (co_quiet T)
  clear hKz Kz
  try walk_nrm
  refine goes_ctl T rfl (fun _ => stepG_region_end) ?_
  refine goes_ctl T rfl (fun _ => stepG_block) ?_
  refine goes_ctl T rfl (fun _ => stepG_loop) ?_
  exact key _ _ _ (tact_of _ rfl) hF
end
end Go.Proofs.Ytkaapaepanhbgaa
