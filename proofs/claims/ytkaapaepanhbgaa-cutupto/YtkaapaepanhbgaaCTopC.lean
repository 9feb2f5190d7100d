/- Cut: all the bytes. -/
import Derived.Test.YtkaapaepanhbgaaCTopB
set_option linter.unusedVariables false
set_option linter.unusedSimpArgs false
namespace Go.Proofs.Ytkaapaepanhbgaa
open Go Go.Conc Go.Pair Go.RowKit

noncomputable def c6 : Code := Code.two c5
theorem c5_eq : c5 = .seq (.region 14 (Code.ops (Code.one c5)) false) c6 := rfl

theorem uponK_app2 {P : Program} {o : Oper} {a : Act} {K : Act → World → Prop} {w w' : World} {v xv v' : Value} (s x : Operand) (t t' : TypeId)
    (ho : o.op = .call { callee := .builtin .append, args := #[s, x], argTypes := #[t, t'] }) (hs : a.eval s = v) (hx : a.eval x = xv)
    (hr : (Builtin.append_ #[t, t'] o.type #[v, xv]).run P w = .ok v' w') (h : K (a.put o.dst v') w') : uponK o a K ((execOp a.eval o).run P w) := by
  unfold execOp
  simp only [ho, resolve, invoke, builtin, Sem.run_bind, Sem.run_pure, Result.andThen_ok, List.map_toArray, List.map_cons, List.map_nil, hs, hx, hr]
  exact h
theorem events_app2 {P : Program} {o : Oper} {a : Act} {w : World} {v xv : Value} (s x : Operand) (t t' : TypeId)
    (ho : o.op = .call { callee := .builtin .append, args := #[s, x], argTypes := #[t, t'] }) (hs : a.eval s = v) (hx : a.eval x = xv) (es : Array Event) :
    (execOp a.eval o).events P w es = (Builtin.append_ #[t, t'] o.type #[v, xv]).events P w es := by
  unfold execOp
  simp only [ho, resolve, invoke, builtin, Sem.events_bind, Sem.run_pure, Sem.events_pure, Result.evThen_ok, List.map_toArray, List.map_cons, List.map_nil, hs, hx]
  cases (Builtin.append_ #[t, t'] o.type #[v, xv]).run P w <;> rfl

section
variable {Post : Value → World → Prop} {W w w' w₁ : World} {xs : List Value} {all want : Value} {cs : List Frame} {s : Nat → Value} {bv tv cv : Value}

theorem wantAt {ws : List ByteArray} (h : RowIs W 9 (ws.map fun b => .string b) want) (h0 : ws ≠ []) : WantAt W want ws := by
  rcases h with ⟨_, h⟩ | ⟨q, c, cells, h1, h2, h3, h4, h5, h6⟩
  · exact absurd (List.map_eq_nil_iff.1 h) h0
  · refine ⟨⟨q, 0, none⟩, c, by rw [h1, List.length_map], fun i hi => ?_, fun i => by rw [Addr.add_lit]; exact lt_of_get h3⟩
    have := h5 i (by rw [List.length_map]; exact hi)
    rw [Addr.add_lit]
    simp only [World.cell?, Nat.zero_add, h3, this]
    simp

set_option maxRecDepth 100000 in
set_option maxHeartbeats 2000000 in
theorem exitB {ws : List ByteArray} {i : Nat} (hw : WantAt W want ws) (h0 : s 0 = bv) (h1 : s 1 = tv) (h2 : s 2 = cv) (h6 : s 6 = .bool false) (h7 : s 7 = want) (h9 : s 9 = all) (h10 : s 10 = .int .i64 i) (hi : ws.length ≤ i) (hF : AppS W 5 (.slice none 0 0) xs all w)
    (hnext : ∀ w' (s' : Nat → Value), s' 0 = bv → s' 1 = tv → s' 2 = cv → s' 6 = .bool false → s' 7 = want → s' 9 = all → AppS W 5 (.slice none 0 0) xs all w' → EA Try.prog Post S0 (G ((base 3).at (CAct s') [.code c5]) cs) w') :
    EA Try.prog Post S0 (G ((base 3).at (CAct s) (.code LB :: LKB)) cs) w := by
  have T := termsS S0
  obtain ⟨ad, wc, hwv, hcell, hblk⟩ := hw
  subst hwv
  have hlt : ¬ (i : Int) < (ws.length : Int) := by omega
  have key : ∀ (k : Nat) (a : Act) (w' : World), (∃ s', a = CAct s' ∧ s' 0 = bv ∧ s' 1 = tv ∧ s' 2 = cv ∧ s' 6 = .bool false ∧ s' 7 = .slice (some ad) ws.length wc ∧ s' 9 = all) → AppS W 5 (.slice none 0 0) xs all w' →
      Goes Try.prog true AtRel (DS S0) (EA Try.prog Post S0) k (G ((base 3).at a [.code c5]) cs) w' := fun k a w' ⟨s', e, g0, g1, g2, g6, g7, g9⟩ hF => by
    rw [e]
    exact EA.stop (hnext w' s' g0 g1 g2 g6 g7 g9 hF)
  refine EA.goes (n := 11) ?_
  rw [LB_eq]
  refine goes_ctl T rfl (fun _ => stepG_seq) ?_
  refine goes_ctl T rfl (fun _ => stepG_seq) ?_
  simp only [Code.ops, LB, c4, c3, c2, body3, Code.core, Code.one, Code.two, Try.f3, Option.getD_some, CAct, h0, h1, h2, h6, h7, h9, h10]
  refine goes_ctl T rfl (fun _ => stepG_region) ?_
  simp only [List.size_toArray, List.length_cons, List.length_nil, Nat.reduceAdd, Nat.zero_add, List.range, List.range.loop]
  refine goes_op rfl (by rfl) (by decide) fun _ hRz Kz hKz => ?_
  replace hF := AppS.rely hF hRz
  clear hRz
  (skip)
  go_simp
  try (unfold stored; go_simp)
  refine hKz _ _ ⟨?_, ?_⟩
  · (co_quiet T)
  clear hKz Kz
  try walk_nrm
  refine goes_op rfl (by rfl) (by decide) fun _ hRz Kz hKz => ?_
  replace hF := AppS.rely hF hRz
  clear hRz
  (skip)
  go_simp
  try (unfold stored; go_simp)
  refine hKz _ _ ⟨?_, ?_⟩
  · (co_quiet T)
  clear hKz Kz
  try walk_nrm
  refine goes_op rfl (by rfl) (by decide) fun _ hRz Kz hKz => ?_
  replace hF := AppS.rely hF hRz
  clear hRz
  (skip)
  go_simp
  try (unfold stored; go_simp)
  refine hKz _ _ ⟨?_, ?_⟩
  · (co_quiet T)
  clear hKz Kz
  try walk_nrm
  refine goes_op rfl (by rfl) (by decide) fun _ hRz Kz hKz => ?_
  replace hF := AppS.rely hF hRz
  clear hRz
  (skip)
  go_simp
  try (unfold stored; go_simp)
  refine hKz _ _ ⟨?_, ?_⟩
  · (co_quiet T)
  clear hKz Kz
  try walk_nrm
  refine goes_ctl T rfl (fun _ => stepG_region_end) ?_
  refine goes_ctl T rfl (fun _ => (stepG_cond (t := false) rfl)) ?_
  simp only [Bool.false_eq_true, if_false]
  refine goes_ctl T rfl (fun w => stepG_exit (k' := [.code c5]) rfl) ?_
  exact key _ _ _ (cget rfl ⟨rfl, rfl, rfl, rfl, rfl, rfl⟩) hF

set_option maxRecDepth 100000 in
set_option maxHeartbeats 2000000 in
theorem enterB {ws : List ByteArray} (h0 : s 0 = bv) (h1 : s 1 = tv) (h2 : s 2 = cv) (h6 : s 6 = .bool false) (h7 : s 7 = want) (hF : AppS W 5 (.slice none 0 0) [] (.slice none 0 0) w)
    (hnext : ∀ w' (s' : Nat → Value), s' 0 = bv → s' 1 = tv → s' 2 = cv → s' 6 = .bool false → s' 7 = want → s' 9 = .slice none 0 0 → s' 10 = .int .i64 0 → AppS W 5 (.slice none 0 0) [] (.slice none 0 0) w' → EA Try.prog Post S0 (G ((base 3).at (CAct s') (.code LB :: LKB)) cs) w') :
    EA Try.prog Post S0 (G ((base 3).at (CAct s) [.code c3]) cs) w := by
  have T := termsS S0
  have key : ∀ (k : Nat) (a : Act) (w' : World), (∃ s', a = CAct s' ∧ s' 0 = bv ∧ s' 1 = tv ∧ s' 2 = cv ∧ s' 6 = .bool false ∧ s' 7 = want ∧ s' 9 = .slice none 0 0 ∧ s' 10 = .int .i64 0) → AppS W 5 (.slice none 0 0) [] (.slice none 0 0) w' →
      Goes Try.prog true AtRel (DS S0) (EA Try.prog Post S0) k (G ((base 3).at a (.code LB :: LKB)) cs) w' := fun k a w' ⟨s', e, g0, g1, g2, g6, g7, g9, g10⟩ hF => by
    rw [e]
    exact EA.stop (hnext w' s' g0 g1 g2 g6 g7 g9 g10 hF)
  refine EA.goes (n := 11) ?_
  rw [c3_eq]
  refine goes_ctl T rfl (fun _ => stepG_seq) ?_
  simp only [Code.ops, c4, c3, c2, body3, Code.core, Code.one, Code.two, Try.f3, Option.getD_some, CAct, h0, h1, h2, h6, h7]
  refine goes_ctl T rfl (fun _ => stepG_region) ?_
  simp only [List.size_toArray, List.length_cons, List.length_nil, Nat.reduceAdd, Nat.zero_add, List.range, List.range.loop]
  refine goes_op rfl (by rfl) (by decide) fun _ hRz Kz hKz => ?_
  replace hF := AppS.rely hF hRz
  clear hRz
  (skip)
  go_simp
  try (unfold stored; go_simp)
  refine hKz _ _ ⟨?_, ?_⟩
  · (co_quiet T)
  clear hKz Kz
  try walk_nrm
  refine goes_ctl T rfl (fun _ => stepG_region_end) ?_
  refine goes_ctl T rfl (fun _ => stepG_seq) ?_
  refine goes_ctl T rfl (fun _ => stepG_seq) ?_
  refine goes_ctl T rfl (fun _ => stepG_region) ?_
  simp only [List.size_toArray, List.length_cons, List.length_nil, Nat.reduceAdd, Nat.zero_add, List.range, List.range.loop]
  refine goes_op rfl (by rfl) (by decide) fun _ hRz Kz hKz => ?_
  replace hF := AppS.rely hF hRz
  clear hRz
  (skip)
  go_simp
  try (unfold stored; go_simp)
  refine hKz _ _ ⟨?_, ?_⟩
  · (co_quiet T)
  clear hKz Kz
  try walk_nrm
  refine goes_ctl T rfl (fun _ => stepG_region_end) ?_
  refine goes_ctl T rfl (fun _ => stepG_block) ?_
  refine goes_ctl T rfl (fun _ => stepG_loop) ?_
  exact key _ _ _ (cget rfl ⟨rfl, rfl, rfl, rfl, rfl, rfl, rfl⟩) hF

theorem loopB {ws : List ByteArray} (hw : WantAt W want ws) (hbl : ws.length * 1004 + 2000 ≤ 4294967296) (hbs : ∀ b ∈ ws, b.size ≤ 1000)
    (hnext : ∀ w' (s' : Nat → Value) all', s' 0 = bv → s' 1 = tv → s' 2 = cv → s' 6 = .bool false → s' 7 = want → s' 9 = all' → AppS W 5 (.slice none 0 0) (bc ((ws.map fun b => frameOf (sb b)).flatten)) all' w' → EA Try.prog Post S0 (G ((base 3).at (CAct s') [.code c5]) cs) w') :
    ∀ (rest : List ByteArray) (i : Nat) (w : World) (s : Nat → Value) (all : Value), ws.drop i = rest → i ≤ ws.length → s 0 = bv → s 1 = tv → s 2 = cv → s 6 = .bool false → s 7 = want → s 9 = all → s 10 = .int .i64 i → AppS W 5 (.slice none 0 0) (bc (((ws.take i).map fun b => frameOf (sb b)).flatten)) all w →
    EA Try.prog Post S0 (G ((base 3).at (CAct s) (.code LB :: LKB)) cs) w := by
  have hfl : ∀ i, i ≤ ws.length → (bc (((ws.take i).map fun b => frameOf (sb b)).flatten)).length ≤ i * 1004 := by
    intro i
    induction i with
    | zero => simp [bc]
    | succ i ih =>
      intro hi
      have := ih (by omega)
      rw [List.take_succ_eq_append_getElem (by omega)]
      rw [bc_len] at this ⊢
      simp only [List.map_append, List.map_cons, List.map_nil, List.flatten_append, List.flatten_cons, List.flatten_nil, List.append_nil, List.length_append]
      have h2 := hbs ws[i] (List.getElem_mem _)
      have h3 : (frameOf (sb ws[i])).length = 4 + ws[i].size := by simp [frameOf, hdr, sb_len]; omega
      omega
  intro rest
  induction rest with
  | nil =>
    intro i w s all hd hi h0 h1 h2 h6 h7 h9 h10 hF
    have hie : i = ws.length := by
      have := congrArg List.length hd
      simp at this
      omega
    subst hie
    rw [List.take_length] at hF
    exact exitB hw h0 h1 h2 h6 h7 h9 h10 (Nat.le_refl _) hF fun w' s' g0 g1 g2 g6 g7 g9 hF => hnext w' s' all g0 g1 g2 g6 g7 g9 hF
  | cons b rest ih =>
    intro i w s all hd hi h0 h1 h2 h6 h7 h9 h10 hF
    have hilt : i < ws.length := by
      have := congrArg List.length hd
      simp at this
      omega
    have hde := List.drop_eq_getElem_cons hilt
    rw [hd] at hde
    obtain ⟨hbe, hdr⟩ := List.cons.inj hde
    have hfi := hfl i hi
    have : i * 1004 ≤ ws.length * 1004 := Nat.mul_le_mul_right _ hi
    refine roundB hw h0 h1 h2 h6 h7 h9 h10 hilt (by omega) hbe.symm (hbs b (by rw [hbe]; exact List.getElem_mem _)) (by omega) hF fun w' s' all' g0 g1 g2 g6 g7 g9 g10 hF => ih (i + 1) w' s' all' hdr.symm (by omega) g0 g1 g2 g6 g7 g9 g10 ?_
    rw [List.take_succ_eq_append_getElem hilt, List.map_append, List.flatten_append, bc_app, ← hbe]
    simpa using hF

set_option maxRecDepth 100000 in
set_option maxHeartbeats 2000000 in
theorem tailC {tail : ByteArray} (ht : tv = .string tail) (h0 : s 0 = bv) (h1 : s 1 = tv) (h2 : s 2 = cv) (h6 : s 6 = .bool false) (h7 : s 7 = want) (h9 : s 9 = all) (hbig : xs.length + tail.size ≤ 4294967296) (hF : AppS W 5 (.slice none 0 0) xs all w)
    (hnext : ∀ w' (s' : Nat → Value) all', s' 0 = bv → s' 1 = tv → s' 2 = cv → s' 6 = .bool false → s' 7 = want → s' 9 = all' → AppS W 5 (.slice none 0 0) (xs ++ bc (sb tail)) all' w' → EA Try.prog Post S0 (G ((base 3).at (CAct s') [.code c6]) cs) w') :
    EA Try.prog Post S0 (G ((base 3).at (CAct s) [.code c5]) cs) w := by
  have T := termsS S0
  subst ht
  have key : ∀ (k : Nat) (a : Act) (w' : World) (all' : Value), (∃ s', a = CAct s' ∧ s' 0 = bv ∧ s' 1 = .string tail ∧ s' 2 = cv ∧ s' 6 = .bool false ∧ s' 7 = want ∧ s' 9 = all') → AppS W 5 (.slice none 0 0) (xs ++ bc (sb tail)) all' w' →
      Goes Try.prog true AtRel (DS S0) (EA Try.prog Post S0) k (G ((base 3).at a [.code c6]) cs) w' := fun k a w' all' ⟨s', e, g0, g1, g2, g6, g7, g9⟩ hF => by
    rw [e]
    exact EA.stop (hnext w' s' all' g0 g1 g2 g6 g7 g9 hF)
  refine EA.goes (n := 8) ?_
  rw [c5_eq]
  refine goes_ctl T rfl (fun _ => stepG_seq) ?_
  simp only [Code.ops, c5, c4, c3, c2, body3, Code.core, Code.one, Code.two, Try.f3, Option.getD_some, CAct, h0, h1, h2, h6, h7, h9]
  refine goes_ctl T rfl (fun _ => stepG_region) ?_
  simp only [List.size_toArray, List.length_cons, List.length_nil, Nat.reduceAdd, Nat.zero_add, List.range, List.range.loop]
  refine goes_op rfl (by rfl) (by decide) fun _ hRz Kz hKz => ?_
  replace hF := AppS.rely hF hRz
  clear hRz
  (skip)
  go_simp
  try (unfold stored; go_simp)
  refine hKz _ _ ⟨?_, ?_⟩
  · (co_quiet T)
  clear hKz Kz
  try walk_nrm
  refine goes_op rfl (by rfl) (by decide) fun _ hRz Kz hKz => ?_
  replace hF := AppS.rely hF hRz
  clear hRz
  (skip)
  go_simp
  try (unfold stored; go_simp)
  refine hKz _ _ ⟨?_, ?_⟩
  · (co_quiet T)
  clear hKz Kz
  try walk_nrm
  refine goes_op rfl (by rfl) (by decide) fun w₁ hR K' hK => ?_
  replace hF := hF.rely hR
  clear hR
  obtain ⟨all', w', hr, hA, hD⟩ := append_str (Shun := S0) (s := tail) hF.row (fun _ _ _ _ h => h) hbig
  refine uponK_app2 (.tmp 66) (.tmp 67) 25 9 rfl rfl rfl hr (hK _ _ ⟨hD _ fun e he => ?_, ?_⟩)
  · have hm := mem_listed he
    rw [events_app2 (.tmp 66) (.tmp 67) 25 9 rfl rfl rfl] at hm
    exact hm
  have hG := hF.trans hA
  clear hK K' hr hD hA hF
  walk_nrm
  refine goes_op rfl (by rfl) (by decide) fun _ hRz Kz hKz => ?_
  replace hG := AppS.rely hG hRz
  clear hRz
  (skip)
  go_simp
  try (unfold stored; go_simp)
  refine hKz _ _ ⟨?_, ?_⟩
  · (co_quiet T)
  clear hKz Kz
  try walk_nrm
  refine goes_ctl T rfl (fun _ => stepG_region_end) ?_
  exact key _ _ _ all' (cget rfl ⟨rfl, rfl, rfl, rfl, rfl, rfl⟩) hG
end
end Go.Proofs.Ytkaapaepanhbgaa
