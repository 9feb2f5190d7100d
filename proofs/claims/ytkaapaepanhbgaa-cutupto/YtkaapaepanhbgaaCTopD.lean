/- Cut: the two calls of told. -/
import Derived.Test.YtkaapaepanhbgaaCTopC
set_option linter.unusedVariables false
set_option linter.unusedSimpArgs false
namespace Go.Proofs.Ytkaapaepanhbgaa
open Go Go.Conc Go.Pair Go.RowKit

noncomputable def c7 : Code := Code.two c6
noncomputable def c8 : Code := Code.two c7
theorem c6_eq : c6 = .seq (.region 15 (Code.ops (Code.one c6)) false) c7 := rfl
theorem c7_eq : c7 = .seq (.region 16 (Code.ops (Code.one c7)) false) c8 := rfl

section
variable {Post : Value → World → Prop} {S : Loc → Prop} {W w w' w₁ : World} {all want : Value} {cs : List Frame} {s : Nat → Value} {bv tv cv : Value} {N0 : Nat}

/-- Bodies as told, where they lie. -/
def ListAt (w : World) (sent : List (List UInt8 × Value)) (l : Value) : Prop :=
  RowIs w 25 (sent.map (·.2)) l ∧ ∀ x ∈ sent, ∃ r, x.2 = .slice (some ⟨r, 0, none⟩) x.1.length x.1.length ∧ w.heap[r]? = some (.cells (bc x.1).toArray 5)
theorem ListAt.keep {sent : List (List UInt8 × Value)} {l : Value} (h : ListAt w sent l) (hk : ∀ i, i < w.heap.size → w'.heap[i]? = w.heap[i]?) : ListAt w' sent l := by
  refine ⟨RowIs.back h.1 (fun q o _ ho => by rw [hk q (lt_of_get ho)]; exact ho), fun x hx => ?_⟩
  obtain ⟨r, h1, h2⟩ := h.2 x hx
  exact ⟨r, h1, by rw [hk r (lt_of_get h2)]; exact h2⟩
theorem WantAt.keep {ws : List ByteArray} (h : WantAt w want ws) (hs : w.heap.size ≤ w'.heap.size) (hk : ∀ i, i < w.heap.size → w'.heap[i]? = w.heap[i]?) : WantAt w' want ws := by
  obtain ⟨ad, c, h1, h2, h3⟩ := h
  exact ⟨ad, c, h1, fun i hi => (World.cell?_of_block (hk _ (h3 i))).trans (h2 i hi), fun i => Nat.lt_of_lt_of_le (h3 i) hs⟩

set_option maxRecDepth 100000 in
set_option maxHeartbeats 2000000 in
theorem told1 {x o cap : Nat} {bytes : List UInt8} {bodies : List (List UInt8)} {q : List UInt8} {t : Bool} (hall : all = .slice (some ⟨x, o, none⟩) bytes.length cap) (h0 : s 0 = bv) (h1 : s 1 = tv) (h2 : s 2 = cv) (h6 : s 6 = .bool false) (h7 : s 7 = want) (h9 : s 9 = all)
    (hT : Told [] false bytes [] bodies q t) (hN : N0 ≤ w.heap.size) (hb : BytesW w (some ⟨x, o, none⟩) bytes cap) (hbl : bytes.length < 4294967296) (hbd : bodies.length ≤ 4294967296)
    (hnext : ∀ w' (s' : Nat → Value) sent l S', s' 0 = bv → s' 1 = tv → s' 2 = cv → s' 6 = .bool false → s' 7 = want → s' 9 = all → s' 13 = l → s' 14 = .int .i64 (if t then 4 else 0) → s' 15 = .bool true → sent.map (·.1) = bodies → ToldOut w N0 sent l S' w' → EA Try.prog Post S' (G ((base 3).at (CAct s') [.code c7]) cs) w') :
    EA Try.prog Post S0 (G ((base 3).at (CAct s) [.code c6]) cs) w := by
  have T := termsS S0
  subst hall
  refine EA.goes (n := 5) ?_
  rw [c6_eq]
  refine goes_ctl T rfl (fun _ => stepG_seq) ?_
  simp only [Code.ops, c6, c5, c4, c3, c2, body3, Code.core, Code.one, Code.two, Try.f3, Option.getD_some, CAct, h0, h1, h2, h6, h7, h9]
  refine goes_ctl T rfl (fun _ => stepG_region) ?_
  simp only [List.size_toArray, List.length_cons, List.length_nil, Nat.reduceAdd, Nat.zero_add, List.range, List.range.loop]
  have hF := PV.start w
  refine goes_op rfl (by rfl) (by decide) fun _ hRz Kz hKz => ?_
  replace hF := PV.rely hF hRz
  clear hRz
  (skip)
  go_simp
  try (unfold stored; go_simp)
  refine hKz _ _ ⟨?_, ?_⟩
  · (co_quiet T)
  clear hKz Kz
  try walk_nrm
  rename_i wz
  have hh := PV.same hF
  have hb' : BytesW wz (some ⟨x, o, none⟩) bytes cap := by
    obtain ⟨x', o', c', e, g1, g2⟩ := hb
    exact ⟨x', o', c', e, by rw [hh]; exact g1, g2⟩
  have htold := told_E (Post := Post) (S := S0) (W := wz) (N0 := N0) (ca := none) (cc := 0) hT (by rw [hh]; exact hN) (fun i hi => by simp at hi) (by simp) hb' (by omega) hbd (shun0 _) (fun l h => h.elim)
  refine Goes.mono (goes_callE (f := 6) rfl (by rfl) (by decide) rfl (by walk_nrm; exact htold) ?_) (by omega)
  rintro y w' S' ⟨sent, l, hs, rfl, hO⟩
  have hO' : ToldOut w N0 sent l S' w' := ⟨by rw [← hh]; exact hO.size, fun i hi => by rw [hO.old i (by rw [hh]; exact hi), hh], hO.list, fun g hg => by rw [← hh]; exact hO.lge g hg, fun x hx => by rw [← hh]; exact hO.msg x hx, hO.shun, hO.top⟩
  clear T hF hO htold hb'
  have T := termsS S'
  have key : ∀ (k : Nat) (a : Act) (w'' : World), (∃ s', a = CAct s' ∧ s' 0 = bv ∧ s' 1 = tv ∧ s' 2 = cv ∧ s' 6 = .bool false ∧ s' 7 = want ∧ s' 9 = .slice (some ⟨x, o, none⟩) bytes.length cap ∧ s' 13 = l ∧ s' 14 = .int .i64 (if t then 4 else 0) ∧ s' 15 = .bool true) → PV w' [] w'' →
      Goes Try.prog true AtRel (DS S') (EA Try.prog Post S') k (G ((base 3).at a [.code c7]) cs) w'' := fun k a w'' ⟨s', e, g0, g1, g2, g6, g7, g9, g13, g14, g15⟩ hP => by
    rw [e]
    have e2 := PV.same hP
    refine EA.stop (hnext w'' s' sent l S' g0 g1 g2 g6 g7 g9 g13 g14 g15 hs ⟨by rw [e2]; exact hO'.size, fun i hi => by rw [e2]; exact hO'.old i hi, RowIs.heapEq hO'.list e2, hO'.lge, fun x hx => by rw [e2]; exact hO'.msg x hx, hO'.shun.heap e2, hO'.top⟩)
  have hF := PV.start w'
  walk_nrm
  refine EA.goes (n := 8) ?_
  refine goes_op rfl (by rfl) (by decide) fun _ hRz Kz hKz => ?_
  replace hF := PV.rely hF hRz
  clear hRz
  (skip)
  go_simp
  try (unfold stored; go_simp)
  refine hKz _ _ ⟨?_, ?_⟩
  · (co_quiet T)
  clear hKz Kz
  try walk_nrm
  refine goes_op rfl (by rfl) (by decide) fun _ hRz Kz hKz => ?_
  replace hF := PV.rely hF hRz
  clear hRz
  (skip)
  go_simp
  try (unfold stored; go_simp)
  refine hKz _ _ ⟨?_, ?_⟩
  · (co_quiet T)
  clear hKz Kz
  try walk_nrm
  refine goes_op rfl (by rfl) (by decide) fun _ hRz Kz hKz => ?_
  replace hF := PV.rely hF hRz
  clear hRz
  (skip)
  go_simp
  try (unfold stored; go_simp)
  refine hKz _ _ ⟨?_, ?_⟩
  · (co_quiet T)
  clear hKz Kz
  try walk_nrm
  refine goes_op rfl (by rfl) (by decide) fun _ hRz Kz hKz => ?_
  replace hF := PV.rely hF hRz
  clear hRz
  (skip)
  go_simp
  try (unfold stored; go_simp)
  refine hKz _ _ ⟨?_, ?_⟩
  · (co_quiet T)
  clear hKz Kz
  try walk_nrm
  refine goes_op rfl (by rfl) (by decide) fun _ hRz Kz hKz => ?_
  replace hF := PV.rely hF hRz
  clear hRz
  (skip)
  go_simp
  try (unfold stored; go_simp)
  refine hKz _ _ ⟨?_, ?_⟩
  · (co_quiet T)
  clear hKz Kz
  try walk_nrm
  refine goes_op rfl (by rfl) (by decide) fun _ hRz Kz hKz => ?_
  replace hF := PV.rely hF hRz
  clear hRz
  (skip)
  go_simp
  try (unfold stored; go_simp)
  refine hKz _ _ ⟨?_, ?_⟩
  · (co_quiet T)
  clear hKz Kz
  try walk_nrm
  refine goes_op rfl (by rfl) (by decide) fun _ hRz Kz hKz => ?_
  replace hF := PV.rely hF hRz
  clear hRz
  (skip)
  go_simp
  try (unfold stored; go_simp)
  refine hKz _ _ ⟨?_, ?_⟩
  · (co_quiet T)
  clear hKz Kz
  try walk_nrm
  refine goes_ctl T rfl (fun _ => stepG_region_end) ?_
  exact key _ _ _ (cget rfl ⟨rfl, rfl, rfl, rfl, rfl, rfl, rfl, rfl, rfl⟩) hF

set_option maxRecDepth 100000 in
set_option maxHeartbeats 2000000 in
theorem told2 {x o cap cc : Nat} {ca : Option Addr} {cuts : List Int} {bytes : List UInt8} {bodies : List (List UInt8)} {q : List UInt8} {t : Bool} {l ev okv : Value} (hall : all = .slice (some ⟨x, o, none⟩) bytes.length cap) (hcv : cv = .slice ca cuts.length cc) (h0 : s 0 = bv) (h1 : s 1 = tv) (h2 : s 2 = cv) (h6 : s 6 = .bool false) (h7 : s 7 = want) (h9 : s 9 = all) (h13 : s 13 = l) (h14 : s 14 = ev) (h15 : s 15 = okv)
    (hT : Told [] false bytes cuts bodies q t) (hN : N0 ≤ w.heap.size) (hcu : CutsAt w N0 ca cuts) (hcl : cuts.length < 9223372036854775805) (hb : BytesW w (some ⟨x, o, none⟩) bytes cap) (hbl : bytes.length < 4294967296) (hbd : bodies.length ≤ 4294967296) (hS : ShunW S w) (htop : ∀ l, S l → ∃ a : Addr, l = .cell a ∧ N0 ≤ a.block)
    (hnext : ∀ w' (s' : Nat → Value) sent k S', s' 0 = bv → s' 1 = tv → s' 2 = cv → s' 6 = .bool false → s' 7 = want → s' 13 = l → s' 14 = ev → s' 15 = okv → s' 16 = k → s' 17 = .int .i64 (if t then 4 else 0) → s' 18 = .bool true → sent.map (·.1) = bodies → ToldOut w N0 sent k S' w' → EA Try.prog Post S' (G ((base 3).at (CAct s') [.code c8]) cs) w') :
    EA Try.prog Post S (G ((base 3).at (CAct s) [.code c7]) cs) w := by
  have T := termsS S
  subst hall
  subst hcv
  refine EA.goes (n := 6) ?_
  rw [c7_eq]
  refine goes_ctl T rfl (fun _ => stepG_seq) ?_
  simp only [Code.ops, c7, c6, c5, c4, c3, c2, body3, Code.core, Code.one, Code.two, Try.f3, Option.getD_some, CAct, h0, h1, h2, h6, h7, h9, h13, h14, h15]
  refine goes_ctl T rfl (fun _ => stepG_region) ?_
  simp only [List.size_toArray, List.length_cons, List.length_nil, Nat.reduceAdd, Nat.zero_add, List.range, List.range.loop]
  have hF := PV.start w
  refine goes_op rfl (by rfl) (by decide) fun _ hRz Kz hKz => ?_
  replace hF := PV.rely hF hRz
  clear hRz
  (skip)
  go_simp
  try (unfold stored; go_simp)
  refine hKz _ _ ⟨?_, ?_⟩
  · (co_quiet T)
  clear hKz Kz
  try walk_nrm
  refine goes_op rfl (by rfl) (by decide) fun _ hRz Kz hKz => ?_
  replace hF := PV.rely hF hRz
  clear hRz
  (skip)
  go_simp
  try (unfold stored; go_simp)
  refine hKz _ _ ⟨?_, ?_⟩
  · (co_quiet T)
  clear hKz Kz
  try walk_nrm
  rename_i wz
  have hh := PV.same hF
  have hb' : BytesW wz (some ⟨x, o, none⟩) bytes cap := by
    obtain ⟨x', o', c', e, g1, g2⟩ := hb
    exact ⟨x', o', c', e, by rw [hh]; exact g1, g2⟩
  have hcu' : CutsAt wz N0 ca cuts := fun i hi => by
    obtain ⟨g1, ad, g2, g3, g4, g5⟩ := hcu i hi
    exact ⟨g1, ad, g2, (World.cell?_of_block (by rw [hh])).trans g3, g4, by rw [hh]; exact g5⟩
  have htold := told_E (Post := Post) (S := S) (W := wz) (N0 := N0) (ca := ca) (cc := cc) hT (by rw [hh]; exact hN) hcu' hcl hb' (by omega) hbd (hS.heap hh) htop
  refine Goes.mono (goes_callE (f := 6) rfl (by rfl) (by decide) rfl (by walk_nrm; exact htold) ?_) (by omega)
  rintro y w' S' ⟨sent, k, hs, rfl, hO⟩
  have hO' : ToldOut w N0 sent k S' w' := ⟨by rw [← hh]; exact hO.size, fun i hi => by rw [hO.old i (by rw [hh]; exact hi), hh], hO.list, fun g hg => by rw [← hh]; exact hO.lge g hg, fun x hx => by rw [← hh]; exact hO.msg x hx, hO.shun, hO.top⟩
  clear T hF hO htold hb' hcu'
  have T := termsS S'
  have key : ∀ (j : Nat) (a : Act) (w'' : World), (∃ s', a = CAct s' ∧ s' 0 = bv ∧ s' 1 = tv ∧ s' 2 = .slice ca cuts.length cc ∧ s' 6 = .bool false ∧ s' 7 = want ∧ s' 13 = l ∧ s' 14 = ev ∧ s' 15 = okv ∧ s' 16 = k ∧ s' 17 = .int .i64 (if t then 4 else 0) ∧ s' 18 = .bool true) → PV w' [] w'' →
      Goes Try.prog true AtRel (DS S') (EA Try.prog Post S') j (G ((base 3).at a [.code c8]) cs) w'' := fun j a w'' ⟨s', e, g0, g1, g2, g6, g7, g13, g14, g15, g16, g17, g18⟩ hP => by
    rw [e]
    have e2 := PV.same hP
    refine EA.stop (hnext w'' s' sent k S' g0 g1 g2 g6 g7 g13 g14 g15 g16 g17 g18 hs ⟨by rw [e2]; exact hO'.size, fun i hi => by rw [e2]; exact hO'.old i hi, RowIs.heapEq hO'.list e2, hO'.lge, fun x hx => by rw [e2]; exact hO'.msg x hx, hO'.shun.heap e2, hO'.top⟩)
  have hF := PV.start w'
  walk_nrm
  refine EA.goes (n := 8) ?_
  refine goes_op rfl (by rfl) (by decide) fun _ hRz Kz hKz => ?_
  replace hF := PV.rely hF hRz
  clear hRz
  (skip)
  go_simp
  try (unfold stored; go_simp)
  refine hKz _ _ ⟨?_, ?_⟩
  · (co_quiet T)
  clear hKz Kz
  try walk_nrm
  refine goes_op rfl (by rfl) (by decide) fun _ hRz Kz hKz => ?_
  replace hF := PV.rely hF hRz
  clear hRz
  (skip)
  go_simp
  try (unfold stored; go_simp)
  refine hKz _ _ ⟨?_, ?_⟩
  · (co_quiet T)
  clear hKz Kz
  try walk_nrm
  refine goes_op rfl (by rfl) (by decide) fun _ hRz Kz hKz => ?_
  replace hF := PV.rely hF hRz
  clear hRz
  (skip)
  go_simp
  try (unfold stored; go_simp)
  refine hKz _ _ ⟨?_, ?_⟩
  · (co_quiet T)
  clear hKz Kz
  try walk_nrm
  refine goes_op rfl (by rfl) (by decide) fun _ hRz Kz hKz => ?_
  replace hF := PV.rely hF hRz
  clear hRz
  (skip)
  go_simp
  try (unfold stored; go_simp)
  refine hKz _ _ ⟨?_, ?_⟩
  · (co_quiet T)
  clear hKz Kz
  try walk_nrm
  refine goes_op rfl (by rfl) (by decide) fun _ hRz Kz hKz => ?_
  replace hF := PV.rely hF hRz
  clear hRz
  (skip)
  go_simp
  try (unfold stored; go_simp)
  refine hKz _ _ ⟨?_, ?_⟩
  · (co_quiet T)
  clear hKz Kz
  try walk_nrm
  refine goes_op rfl (by rfl) (by decide) fun _ hRz Kz hKz => ?_
  replace hF := PV.rely hF hRz
  clear hRz
  (skip)
  go_simp
  try (unfold stored; go_simp)
  refine hKz _ _ ⟨?_, ?_⟩
  · (co_quiet T)
  clear hKz Kz
  try walk_nrm
  refine goes_op rfl (by rfl) (by decide) fun _ hRz Kz hKz => ?_
  replace hF := PV.rely hF hRz
  clear hRz
  (skip)
  go_simp
  try (unfold stored; go_simp)
  refine hKz _ _ ⟨?_, ?_⟩
  · (co_quiet T)
  clear hKz Kz
  try walk_nrm
  refine goes_ctl T rfl (fun _ => stepG_region_end) ?_
  exact key _ _ _ (cget rfl ⟨rfl, rfl, rfl, rfl, rfl, rfl, rfl, rfl, rfl, rfl, rfl⟩) hF
end
end Go.Proofs.Ytkaapaepanhbgaa
