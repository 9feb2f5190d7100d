/- Cut: the first loop: the texts that are wanted. -/
import Derived.Test.YtkaapaepanhbgaaCCutS
set_option linter.unusedVariables false
set_option linter.unusedSimpArgs false
namespace Go.Proofs.Ytkaapaepanhbgaa
open Go Go.Conc Go.Pair Go.RowKit

noncomputable def CAct (s : Nat → Value) : Act := { tmps := #[s 0, s 1, s 2, s 3, s 4, s 5, s 6, s 7, s 8, s 9, s 10, s 11, s 12, s 13, s 14, s 15, s 16, s 17, s 18, s 19, s 20, s 21, s 22, s 23, s 24, s 25, s 26, s 27, s 28, s 29, s 30, s 31, s 32, s 33, s 34, s 35, s 36, s 37, s 38, s 39, s 40, s 41, s 42, s 43, s 44, s 45, s 46, s 47, s 48, s 49, s 50, s 51, s 52, s 53, s 54, s 55, s 56, s 57, s 58, s 59, s 60, s 61, s 62, s 63, s 64, s 65, s 66, s 67, s 68, s 69, s 70, s 71, s 72, s 73, s 74, s 75, s 76, s 77, s 78, s 79, s 80, s 81, s 82, s 83, s 84, s 85, s 86, s 87, s 88, s 89, s 90, s 91, s 92, s 93, s 94, s 95, s 96, s 97, s 98, s 99, s 100, s 101, s 102, s 103, s 104, s 105, s 106, s 107, s 108, s 109, s 110, s 111, s 112, s 113, s 114, s 115, s 116, s 117, s 118, s 119, s 120, s 121, s 122, s 123, s 124, s 125, s 126, s 127, s 128, s 129, s 130, s 131, s 132, s 133, s 134, s 135, s 136, s 137, s 138, s 139, s 140, s 141, s 142, s 143, s 144, s 145, s 146, s 147, s 148, s 149, s 150, s 151, s 152, s 153, s 154], defers := [] }
theorem cget {a : Act} {P : (Nat → Value) → Prop} (h : a = CAct fun j => a.tmps.getD j undef) (hp : P fun j => a.tmps.getD j undef) : ∃ s', a = CAct s' ∧ P s' := ⟨_, h, hp⟩
noncomputable def body3 : Code := Try.f3.body.getD .skip
noncomputable def c2 : Code := Code.two (Code.two body3)
noncomputable def LA : Code := Code.core (Code.core (Code.two (Code.one c2)))
noncomputable def c3 : Code := Code.two c2
noncomputable def LKA : List Item := [.inLoop LA, .inBlock 0, .code c3]
theorem LA_eq : LA = .seq (.seq (.region 3 (Code.ops (Code.one (Code.one LA))) false) (.cond (.tmp 24) .skip (.exit 0))) (.seq (.block 1 (.region 5 (Code.ops (Code.core (Code.one (Code.two LA)))) false)) (.region 4 (Code.ops (Code.two (Code.two LA))) false)) := rfl

/-- No place is shunned. -/
def S0 : Loc → Prop := fun _ => False
theorem shun0 (w : World) : ShunW S0 w := fun _ h => h.elim

section
variable {Post : Value → World → Prop} {W w w' w₁ : World} {strs : List Value} {want : Value} {cs : List Frame} {s : Nat → Value} {bv tv cv : Value}

theorem AppS.keep0 {e : TypeId} {xs : List Value} {v : Value} (h : AppS W e (.slice none 0 0) xs v w) {i : Nat} (hi : i < W.heap.size) : w.heap[i]? = W.heap[i]? := h.keep i hi (by simp [Value.ownBlock])

/-- An append under way, and a list of one. -/
structure StrOne (W : World) (strs : List Value) (want : Value) (r : Nat) (x : Value) (w : World) : Prop where
  a : AppS W 9 (.slice none 0 0) strs want w
  one : RowIs w 9 [x] (.slice (some ⟨r, 0, none⟩) 1 1)
theorem StrOne.rely {r : Nat} {x : Value} (h : StrOne W strs want r x w) (rr : AtRel w w₁) : StrOne W strs want r x w₁ := by
  obtain ⟨d, rfl⟩ := rr
  exact ⟨h.a.rely ⟨d, rfl⟩, h.one⟩
theorem StrOne.new (h : AppS W 9 (.slice none 0 0) strs want w) (x : Value) : StrOne W strs want w.heap.size x (w.alloc (.cells #[x] 9)) :=
  ⟨AppS.alloc h _, .inr ⟨w.heap.size, 1, _, rfl, by simp, push_new (w := w) (w' := w.alloc (.cells #[x] 9)) rfl, rfl, fun i hi => by simp at hi; subst hi; rfl, by simp only [maxLen]; omega⟩⟩
theorem AppS.heapEq {e : TypeId} {v0 v : Value} {xs : List Value} (h : AppS W e v0 xs v w) (he : w'.heap = w.heap) : AppS W e v0 xs v w' :=
  ⟨RowIs.heapEq h.row he, by rw [he]; exact h.size, fun i h1 h2 => by rw [he]; exact h.keep i h1 h2, h.own, fun i hi => by rw [he]; exact h.kind i hi⟩

set_option maxRecDepth 100000 in
set_option maxHeartbeats 2000000 in
theorem roundA {ad : Addr} {bl bcap i : Nat} {b : ByteArray} (hb : bv = .slice (some ad) bl bcap) (h0 : s 0 = bv) (h1 : s 1 = tv) (h2 : s 2 = cv) (h6 : s 6 = .bool false) (h7 : s 7 = want) (h8 : s 8 = .int .i64 i)
    (hi : i < bl) (hbl : bl ≤ 4294967296) (hcell : W.cell? (ad.add i) = some (.string b)) (hblk : (ad.add i).block < W.heap.size) (hbs : b.size ≤ 9223372036854775807) (hlen : strs.length + 1 ≤ 4294967296) (hF : AppS W 9 (.slice none 0 0) strs want w)
    (hnext : ∀ w' (s' : Nat → Value) want', s' 0 = bv → s' 1 = tv → s' 2 = cv → s' 6 = .bool false → s' 7 = want' → s' 8 = .int .i64 ((i + 1 : Nat) : Int) → AppS W 9 (.slice none 0 0) (strs ++ [.string (cutS b)]) want' w' → EA Try.prog Post S0 (G ((base 3).at (CAct s') (.code LA :: LKA)) cs) w') :
    EA Try.prog Post S0 (G ((base 3).at (CAct s) (.code LA :: LKA)) cs) w := by
  have T := termsS S0
  subst hb
  have hlt : (i : Int) < (bl : Int) := by omega
  have hi0 : (0 : Int) ≤ (i : Int) := by omega
  have ew : IntKind.i64.wrap ((i : Int) + 1) = ((i + 1 : Nat) : Int) := by rw [IntKind.wrap_i64]; omega
  obtain ⟨nc, hc⟩ := cut_c (Shun := S0) b hbs
  have key : ∀ (k : Nat) (a : Act) (w' : World) (want' : Value), (∃ s', a = CAct s' ∧ s' 0 = .slice (some ad) bl bcap ∧ s' 1 = tv ∧ s' 2 = cv ∧ s' 6 = .bool false ∧ s' 7 = want' ∧ s' 8 = .int .i64 ((i + 1 : Nat) : Int)) → AppS W 9 (.slice none 0 0) (strs ++ [.string (cutS b)]) want' w' →
      Goes Try.prog true AtRel (DS S0) (EA Try.prog Post S0) k (G ((base 3).at a (.code LA :: LKA)) cs) w' := fun k a w' want' ⟨s', e, g0, g1, g2, g6, g7, g8⟩ hF => by
    rw [e]
    exact EA.stop (hnext w' s' want' g0 g1 g2 g6 g7 g8 hF)
  refine EA.goes (n := nc + 60) ?_
  rw [LA_eq]
  refine goes_ctl T rfl (fun _ => stepG_seq) ?_
  refine goes_ctl T rfl (fun _ => stepG_seq) ?_
  simp only [Code.ops, LA, c2, body3, Code.core, Code.one, Code.two, Try.f3, Option.getD_some, CAct, h0, h1, h2, h6, h7, h8]
  refine goes_ctl T rfl (fun _ => stepG_region) ?_
  simp only [List.size_toArray, List.length_cons, List.length_nil, Nat.reduceAdd, Nat.zero_add, List.range, List.range.loop]
  refine goes_op rfl (by rfl) (by decide) fun _ hRz Kz hKz => ?_
  replace hF := AppS.rely hF hRz
  clear hRz
  (skip)
  go_simp
  try (unfold stored; go_simp)
  refine hKz _ _ ⟨?_, ?_⟩
  · (co_quiet T)
  clear hKz Kz
  try walk_nrm
  refine goes_op rfl (by rfl) (by decide) fun _ hRz Kz hKz => ?_
  replace hF := AppS.rely hF hRz
  clear hRz
  (skip)
  go_simp
  try (unfold stored; go_simp)
  refine hKz _ _ ⟨?_, ?_⟩
  · (co_quiet T)
  clear hKz Kz
  try walk_nrm
  refine goes_op rfl (by rfl) (by decide) fun _ hRz Kz hKz => ?_
  replace hF := AppS.rely hF hRz
  clear hRz
  (skip)
  go_simp
  try (unfold stored; go_simp)
  refine hKz _ _ ⟨?_, ?_⟩
  · (co_quiet T)
  clear hKz Kz
  try walk_nrm
  refine goes_op rfl (by rfl) (by decide) fun _ hRz Kz hKz => ?_
  replace hF := AppS.rely hF hRz
  clear hRz
  (skip)
  go_simp
  try (unfold stored; go_simp)
  refine hKz _ _ ⟨?_, ?_⟩
  · (co_quiet T)
  clear hKz Kz
  try walk_nrm
  refine goes_ctl T rfl (fun _ => stepG_region_end) ?_
  refine goes_ctl T rfl (fun _ => (stepG_cond (t := true) rfl)) ?_
  simp only [if_true]
  refine goes_ctl T rfl (fun _ => stepG_skip) ?_
  refine goes_ctl T rfl (fun _ => stepG_seq) ?_
  refine goes_ctl T rfl (fun _ => stepG_block) ?_
  refine goes_ctl T rfl (fun _ => stepG_region) ?_
  simp only [List.size_toArray, List.length_cons, List.length_nil, Nat.reduceAdd, Nat.zero_add, List.range, List.range.loop]
  refine goes_op rfl (by rfl) (by decide) fun _ hRz Kz hKz => ?_
  replace hF := AppS.rely hF hRz
  clear hRz
  (skip)
  go_simp
  try (unfold stored; go_simp)
  refine hKz _ _ ⟨?_, ?_⟩
  · (co_quiet T)
  clear hKz Kz
  try walk_nrm
  refine goes_op rfl (by rfl) (by decide) fun _ hRz Kz hKz => ?_
  replace hF := AppS.rely hF hRz
  clear hRz
  (skip)
  go_simp
  try (unfold stored; go_simp)
  refine hKz _ _ ⟨?_, ?_⟩
  · (co_quiet T)
  clear hKz Kz
  try walk_nrm
  refine goes_op rfl (by rfl) (by decide) fun _ hRz Kz hKz => ?_
  replace hF := AppS.rely hF hRz
  clear hRz
  (skip)
  go_simp
  try (unfold stored; go_simp)
  refine hKz _ _ ⟨?_, ?_⟩
  · (co_quiet T)
  clear hKz Kz
  try walk_nrm
  refine goes_op rfl (by rfl) (by decide) fun _ hRz Kz hKz => ?_
  replace hF := AppS.rely hF hRz
  clear hRz
  (skip)
  go_simp
  try (unfold stored; go_simp)
  refine hKz _ _ ⟨?_, ?_⟩
  · (co_still T)
  clear hKz Kz
  try walk_nrm
  refine goes_op rfl (by rfl) (by decide) fun _ hRz Kz hKz => ?_
  replace hF := AppS.rely hF hRz
  clear hRz
  (have hcl := show World.cell? _ (ad.add i) = some (.string b) from (World.cell?_of_block (AppS.keep0 hF hblk)).trans hcell)
  go_simp
  try (unfold stored; go_simp)
  refine hKz _ _ ⟨?_, ?_⟩
  · (refine ds_read ?_; co_evs (exact evL_cell (fun h => h) (Nat.lt_of_lt_of_le hblk hF.size)))
  clear hKz Kz
  try walk_nrm
  clear hcl
  refine Goes.mono (Goes.call (m := 20) (nf := nc) T rfl (by rfl) (by decide) rfl (by walk_nrm; exact hc _ _ _ (PV.start _)) ?_) (by omega)
  rintro y w' ⟨rfl, hpv⟩
  replace hF := AppS.heapEq hF (PV.same hpv)
  clear hpv
  walk_nrm
  refine goes_op rfl (by rfl) (by decide) fun _ hRz Kz hKz => ?_
  replace hF := AppS.rely hF hRz
  clear hRz
  (have hbs := fun w => bsS_run w (cutS b); have hbe := fun w es => bsS_ev w es (cutS b))
  go_simp
  try (unfold stored; go_simp)
  refine hKz _ _ ⟨?_, ?_⟩
  · (rw [listed_nil (by simp [go_sem, hbe])]; exact ds_alloc _ _)
  clear hKz Kz
  try walk_nrm
  have hG := StrOne.new hF (.string (cutS b))
  rename_i wz
  generalize wz.heap.size = r at hG ⊢
  clear hF hbs hbe
  refine goes_op rfl (by rfl) (by decide) fun w₁ hR K' hK => ?_
  replace hG := hG.rely hR
  clear hR
  obtain ⟨i0, hi0', hz0, hz1, hz2⟩ := info9
  obtain ⟨want', w', hr, hA, hD⟩ := app_s (P := Try.prog) (Shun := S0) 22 i0 (.string ⟨#[]⟩) 16 un22 hi0' hz0 rfl hz1 hz2 hG.a.row hG.one.read (fun _ _ _ _ h => h) (by simp; rfl) (by simp only [List.length_cons, List.length_nil, maxLen]; omega) (by simp only [List.length_cons, List.length_nil]; omega) (by omega)
  refine uponK_append (.tmp 27) (.tmp 33) 22 rfl rfl rfl hr (hK _ _ ⟨hD _ fun e he => ?_, ?_⟩)
  · have hm := mem_listed he
    rw [events_append_op (.tmp 27) (.tmp 33) 22 rfl rfl rfl] at hm
    exact hm
  have hF := hG.a.trans hA
  clear hK K' hr hD hA hG
  walk_nrm
  refine goes_op rfl (by rfl) (by decide) fun _ hRz Kz hKz => ?_
  replace hF := AppS.rely hF hRz
  clear hRz
  (skip)
  go_simp
  try (unfold stored; go_simp)
  refine hKz _ _ ⟨?_, ?_⟩
  · (co_quiet T)
  clear hKz Kz
  try walk_nrm
  refine goes_ctl T rfl (fun _ => stepG_region_end) ?_
  refine goes_ctl T rfl (fun _ => stepG_inBlock) ?_
  refine goes_ctl T rfl (fun _ => stepG_region) ?_
  simp only [List.size_toArray, List.length_cons, List.length_nil, Nat.reduceAdd, Nat.zero_add, List.range, List.range.loop]
  refine goes_op rfl (by rfl) (by decide) fun _ hRz Kz hKz => ?_
  replace hF := AppS.rely hF hRz
  clear hRz
  (skip)
  go_simp
  try (unfold stored; go_simp)
  refine hKz _ _ ⟨?_, ?_⟩
  · (co_quiet T)
  clear hKz Kz
  try walk_nrm
  refine goes_op rfl (by rfl) (by decide) fun _ hRz Kz hKz => ?_
  replace hF := AppS.rely hF hRz
  clear hRz
  (skip)
  go_simp
  try (unfold stored; go_simp)
  refine hKz _ _ ⟨?_, ?_⟩
  · (co_quiet T)
  clear hKz Kz
  try walk_nrm
  refine goes_op rfl (by rfl) (by decide) fun _ hRz Kz hKz => ?_
  replace hF := AppS.rely hF hRz
  clear hRz
  (skip)
  go_simp
  try (unfold stored; go_simp)
  refine hKz _ _ ⟨?_, ?_⟩
  · (co_quiet T)
  clear hKz Kz
  try walk_nrm
  try simp only [ew]
  refine goes_ctl T rfl (fun _ => stepG_region_end) ?_
  refine goes_ctl T rfl (fun _ => stepG_inLoop) ?_
  exact key _ _ _ want' (cget rfl ⟨rfl, rfl, rfl, rfl, rfl, rfl⟩) hF

set_option maxRecDepth 100000 in
set_option maxHeartbeats 2000000 in
theorem exitA {ba : Option Addr} {bl bcap i : Nat} (hb : bv = .slice ba bl bcap) (h0 : s 0 = bv) (h1 : s 1 = tv) (h2 : s 2 = cv) (h6 : s 6 = .bool false) (h7 : s 7 = want) (h8 : s 8 = .int .i64 i) (hi : bl ≤ i) (hF : AppS W 9 (.slice none 0 0) strs want w)
    (hnext : ∀ w' (s' : Nat → Value), s' 0 = bv → s' 1 = tv → s' 2 = cv → s' 6 = .bool false → s' 7 = want → AppS W 9 (.slice none 0 0) strs want w' → EA Try.prog Post S0 (G ((base 3).at (CAct s') [.code c3]) cs) w') :
    EA Try.prog Post S0 (G ((base 3).at (CAct s) (.code LA :: LKA)) cs) w := by
  have T := termsS S0
  subst hb
  have hlt : ¬ (i : Int) < (bl : Int) := by omega
  have key : ∀ (k : Nat) (a : Act) (w' : World), (∃ s', a = CAct s' ∧ s' 0 = .slice ba bl bcap ∧ s' 1 = tv ∧ s' 2 = cv ∧ s' 6 = .bool false ∧ s' 7 = want) → AppS W 9 (.slice none 0 0) strs want w' →
      Goes Try.prog true AtRel (DS S0) (EA Try.prog Post S0) k (G ((base 3).at a [.code c3]) cs) w' := fun k a w' ⟨s', e, g0, g1, g2, g6, g7⟩ hF => by
    rw [e]
    exact EA.stop (hnext w' s' g0 g1 g2 g6 g7 hF)
  refine EA.goes (n := 11) ?_
  rw [LA_eq]
  refine goes_ctl T rfl (fun _ => stepG_seq) ?_
  refine goes_ctl T rfl (fun _ => stepG_seq) ?_
  simp only [Code.ops, LA, c2, body3, Code.core, Code.one, Code.two, Try.f3, Option.getD_some, CAct, h0, h1, h2, h6, h7, h8]
  refine goes_ctl T rfl (fun _ => stepG_region) ?_
  simp only [List.size_toArray, List.length_cons, List.length_nil, Nat.reduceAdd, Nat.zero_add, List.range, List.range.loop]
  refine goes_op rfl (by rfl) (by decide) fun _ hRz Kz hKz => ?_
  replace hF := AppS.rely hF hRz
  clear hRz
  (skip)
  go_simp
  try (unfold stored; go_simp)
  refine hKz _ _ ⟨?_, ?_⟩
  · (co_quiet T)
  clear hKz Kz
  try walk_nrm
  refine goes_op rfl (by rfl) (by decide) fun _ hRz Kz hKz => ?_
  replace hF := AppS.rely hF hRz
  clear hRz
  (skip)
  go_simp
  try (unfold stored; go_simp)
  refine hKz _ _ ⟨?_, ?_⟩
  · (co_quiet T)
  clear hKz Kz
  try walk_nrm
  refine goes_op rfl (by rfl) (by decide) fun _ hRz Kz hKz => ?_
  replace hF := AppS.rely hF hRz
  clear hRz
  (skip)
  go_simp
  try (unfold stored; go_simp)
  refine hKz _ _ ⟨?_, ?_⟩
  · (co_quiet T)
  clear hKz Kz
  try walk_nrm
  refine goes_op rfl (by rfl) (by decide) fun _ hRz Kz hKz => ?_
  replace hF := AppS.rely hF hRz
  clear hRz
  (skip)
  go_simp
  try (unfold stored; go_simp)
  refine hKz _ _ ⟨?_, ?_⟩
  · (co_quiet T)
  clear hKz Kz
  try walk_nrm
  refine goes_ctl T rfl (fun _ => stepG_region_end) ?_
  refine goes_ctl T rfl (fun _ => (stepG_cond (t := false) rfl)) ?_
  simp only [Bool.false_eq_true, if_false]
  refine goes_ctl T rfl (fun w => stepG_exit (k' := [.code c3]) rfl) ?_
  exact key _ _ _ (cget rfl ⟨rfl, rfl, rfl, rfl, rfl⟩) hF

/-- The texts of the argument. -/
def StrsAt (W : World) (ba : Option Addr) (bodies : List ByteArray) : Prop :=
  ∀ i (h : i < bodies.length), bodies[i].size ≤ 9223372036854775807 ∧ ∃ ad : Addr, ba = some ad ∧ W.cell? (ad.add i) = some (.string bodies[i]) ∧ (ad.add i).block < W.heap.size

theorem loopA {ba : Option Addr} {bcap : Nat} {bodies : List ByteArray} (hB : StrsAt W ba bodies) (hbl : bodies.length + 2 ≤ 4294967296) (hb : bv = .slice ba bodies.length bcap) (x y : Value)
    (hnext : ∀ w' (s' : Nat → Value) want', s' 0 = bv → s' 1 = tv → s' 2 = cv → s' 6 = .bool false → s' 7 = want' → AppS W 9 (.slice none 0 0) (x :: y :: bodies.map fun b => .string (cutS b)) want' w' → EA Try.prog Post S0 (G ((base 3).at (CAct s') [.code c3]) cs) w') :
    ∀ (rest : List ByteArray) (i : Nat) (w : World) (s : Nat → Value) (want : Value), bodies.drop i = rest → i ≤ bodies.length → s 0 = bv → s 1 = tv → s 2 = cv → s 6 = .bool false → s 7 = want → s 8 = .int .i64 i → AppS W 9 (.slice none 0 0) (x :: y :: (bodies.take i).map fun b => .string (cutS b)) want w →
    EA Try.prog Post S0 (G ((base 3).at (CAct s) (.code LA :: LKA)) cs) w := by
  intro rest
  induction rest with
  | nil =>
    intro i w s want hd hi h0 h1 h2 h6 h7 h8 hF
    have hie : i = bodies.length := by
      have := congrArg List.length hd
      simp at this
      omega
    subst hie
    rw [List.take_length] at hF
    exact exitA hb h0 h1 h2 h6 h7 h8 (Nat.le_refl _) hF fun w' s' g0 g1 g2 g6 g7 hF => hnext w' s' want g0 g1 g2 g6 g7 hF
  | cons b rest ih =>
    intro i w s want hd hi h0 h1 h2 h6 h7 h8 hF
    have hilt : i < bodies.length := by
      have := congrArg List.length hd
      simp at this
      omega
    have hde := List.drop_eq_getElem_cons hilt
    rw [hd] at hde
    obtain ⟨hbe, hdr⟩ := List.cons.inj hde
    obtain ⟨hsz, ad, rfl, hcell, hblk⟩ := hB i hilt
    rw [← hbe] at hsz hcell
    refine roundA hb h0 h1 h2 h6 h7 h8 hilt (by omega) hcell hblk hsz (by simp; omega) hF fun w' s' want' g0 g1 g2 g6 g7 g8 hF => ih (i + 1) w' s' want' hdr.symm (by omega) g0 g1 g2 g6 g7 g8 ?_
    rw [List.take_succ_eq_append_getElem hilt, List.map_append, ← hbe]
    exact hF
end
end Go.Proofs.Ytkaapaepanhbgaa
