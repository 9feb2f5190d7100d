/- What the worker may do: a row of its own made, a row of its own turned. -/
import Derived.Test.YtlghcldiboecoaaGreatDoorQ29
set_option linter.unusedVariables false
set_option linter.unusedSimpArgs false
set_option maxRecDepth 100000
namespace Go.Pair
open Go Go.Conc

theorem setCell_row {w : World} {b i : Nat} {cur : Array Value} {t : TypeId} {v : Value} {f : Nat × Nat} (h : w.heap[b]? = some (.cells cur t f)) : (w.setCell ⟨b, i, none⟩ v).heap[b]? = some (.cells (cur.setIfInBounds i v) t f) := by
  simp [World.setCell, Array.getElem?_modify, h]

theorem setCells_other {i b : Nat} (hi : i ≠ b) : ∀ (vs : List Value) (o : Nat) (w : World), (w.setCells b o vs).heap[i]? = w.heap[i]?
  | [], _, _ => rfl
  | v :: r, o, w => by rw [World.setCells, setCells_other hi r]; exact set_other _ _ hi

theorem setCells_size (b : Nat) : ∀ (vs : List Value) (o : Nat) (w : World), (w.setCells b o vs).heap.size = w.heap.size
  | [], _, _ => rfl
  | v :: r, o, w => by rw [World.setCells, setCells_size b r]; exact set_size _ _

theorem setCells_rest (b : Nat) : ∀ (vs : List Value) (o : Nat) (w : World), (w.setCells b o vs).tape = w.tape ∧ (w.setCells b o vs).os = w.os ∧ (w.setCells b o vs).output = w.output
  | [], _, _ => ⟨rfl, rfl, rfl⟩
  | v :: r, o, w => by rw [World.setCells]; exact setCells_rest b r (o + 1) _

theorem setCells_row (b : Nat) (t : TypeId) (f : Nat × Nat) : ∀ (vs : List Value) (o : Nat) (w : World) (cur : Array Value), w.heap[b]? = some (.cells cur t f) → o + vs.length ≤ cur.size →
    ∃ cur', (w.setCells b o vs).heap[b]? = some (.cells cur' t f) ∧ cur'.size = cur.size ∧ (∀ j (hj : j < vs.length), cur'[o + j]? = some vs[j]) ∧ ∀ i, (i < o ∨ o + vs.length ≤ i) → cur'[i]? = cur[i]?
  | [], o, w, cur, h, hl => ⟨cur, h, rfl, fun j hj => by simp at hj, fun _ _ => rfl⟩
  | v :: r, o, w, cur, h, hl => by
    simp at hl
    obtain ⟨cur', h1, h2, h3, h4⟩ := setCells_row b t f r (o + 1) (w.setCell ⟨b, o, none⟩ v) (cur.setIfInBounds o v) (setCell_row h) (by simp; omega)
    refine ⟨cur', by rw [World.setCells]; exact h1, by simpa using h2, fun j hj => ?_, fun i hi => ?_⟩
    · cases j with
      | zero =>
        show cur'[o]? = some v
        rw [h4 o (.inl (Nat.lt_succ_self o))]
        simp [show o < cur.size by omega]
      | succ j => have := h3 j (by simpa using hj); rw [show o + 1 + j = o + (j + 1) by omega] at this; simpa using this
    · rw [h4 i (by simp at hi; omega)]
      have : o ≠ i := by simp at hi; omega
      simp [Array.getElem?_setIfInBounds_ne this]

end Go.Pair
namespace Go.Proofs.YtlghcldiboecoaaGreatDoor.Cu
open Go Go.Conc Go.Pair Go.RowKit
section
variable {E : EP} {sent : List (List UInt8 × Value)} {p : List UInt8} {v : Value} {tl : Bool} {w w' : World} {k : Nat} {FB : List (List UInt8 × Value) → World → Prop} {PostA : List (List UInt8 × Value) → Goroutine → World → Prop}

theorem db_alloc (O : E.Ok) (hl : E.Low ≤ w.heap.size) (o : Obj) {es : Array Event} (he : ∀ e ∈ es, EvP (E.cfg k FB PostA).LB (w.alloc o) e) : DB (E.cfg k FB PostA) sent w (w.alloc o) es := by
  have old : ∀ i x, w.heap[i]? = some x → (w.alloc o).heap[i]? = some x := fun i x h => by
    have := lt_of_get h
    show (w.heap.push o)[i]? = some x
    rw [Array.getElem?_push, if_neg (by omega)]
    exact h
  have low : ∀ i, i < E.Low → (w.alloc o).heap[i]? = w.heap[i]? := fun i h => by
    show (w.heap.push o)[i]? = w.heap[i]?
    rw [Array.getElem?_push, if_neg (by omega)]
  have sz : w.heap.size ≤ (w.alloc o).heap.size := by
    show w.heap.size ≤ (w.heap.push o).size
    rw [Array.size_push]
    omega
  refine ⟨⟨rfl, rfl, rfl, sz, fun i x h _ => old i x h⟩, fun x _ ⟨r, h1, h2, h3⟩ => ⟨r, h1, h2, old r _ h3⟩, ⟨sz, fun i x h => ⟨x, old i x h, rfl⟩⟩, low _ O.g, low _ O.c, he⟩

structure OwnRow (E : EP) (sent : List (List UInt8 × Value)) (w : World) (r : Nat) : Prop where
  mine : r = E.R ∨ r = E.pb ∨ (E.Low ≤ r ∧ kindAt w r 5)
  bare : ∀ x ∈ sent, ∀ n m, x.2 ≠ .slice (some ⟨r, 0, none⟩) n m

theorem OwnRow.ne (O : E.Ok) {r : Nat} (h : OwnRow E sent w r) : r ≠ E.Wg ∧ r ≠ E.Ch := by
  have := O.g
  have := O.c
  rcases h.mine with rfl | rfl | ⟨h, _⟩
  · exact ⟨O.rg, O.rc⟩
  · exact ⟨O.pg, O.pc⟩
  · exact ⟨by omega, by omega⟩

theorem db_row (O : E.Ok) {r : Nat} (h : OwnRow E sent w r) (ht : w'.tape = w.tape ∧ w'.os = w.os ∧ w'.output = w.output) (hsz : w'.heap.size = w.heap.size) (ho : ∀ i, i ≠ r → w'.heap[i]? = w.heap[i]?)
    (hk : ∀ o, w.heap[r]? = some o → ∃ o', w'.heap[r]? = some o' ∧ kindOf o' = kindOf o) {es : Array Event} (he : ∀ e ∈ es, EvP (E.cfg k FB PostA).LB w' e) : DB (E.cfg k FB PostA) sent w w' es := by
  refine ⟨⟨ht.1, ht.2.1, ht.2.2, Nat.le_of_eq hsz.symm, fun i o h1 h2 => ?_⟩, fun x hx ⟨b, h1, h2, h3⟩ => ⟨b, h1, h2, ?_⟩, ⟨Nat.le_of_eq hsz.symm, fun i o h1 => ?_⟩, ho _ (Ne.symm (h.ne O).1), ho _ (Ne.symm (h.ne O).2), he⟩
  · by_cases hi : i = r
    · exfalso
      subst hi
      obtain ⟨_, _, n1, n2, n3⟩ := h2
      rcases h.mine with e | e | ⟨e, o', e1, e2⟩
      · exact n1 e
      · exact n2 e
      · rw [h1] at e1
        cases e1
        exact n3 ⟨e, e2⟩
    · rw [ho i hi]; exact h1
  · by_cases hb : b = r
    · subst hb; exact absurd h2 (h.bare x hx _ _)
    · rw [ho b hb]; exact h3
  · by_cases hi : i = r
    · subst hi; exact hk o h1
    · exact ⟨o, by rw [ho i hi]; exact h1, rfl⟩

theorem db_cells (O : E.Ok) {r o : Nat} (h : OwnRow E sent w r) {cur : Array Value} {t : TypeId} {f : Nat × Nat} (hr : w.heap[r]? = some (.cells cur t f)) (vs : List Value) (hl : o + vs.length ≤ cur.size) {es : Array Event} (he : ∀ e ∈ es, EvP (E.cfg k FB PostA).LB (w.setCells r o vs) e) :
    DB (E.cfg k FB PostA) sent w (w.setCells r o vs) es :=
  db_row O h (setCells_rest r vs o w) (setCells_size r vs o w) (fun i hi => setCells_other hi vs o w) (fun x hx => by
    obtain ⟨cur', h1, _⟩ := setCells_row r t f vs o w cur hr hl
    rw [hr] at hx
    cases hx
    exact ⟨_, h1, rfl⟩) he

end
end Go.Proofs.YtlghcldiboecoaaGreatDoor.Cu

/- The Cutter's body, in company. -/
set_option maxRecDepth 100000
namespace Go.Proofs.YtlghcldiboecoaaGreatDoor.Cu
open Go Go.Conc Go.Pair Go.RowKit

theorem un25 : Tryz.prog.underlying 57 = some (.slice 5) := Tryz.underlying57
theorem info5 : ∃ i, Tryz.prog.info? 5 = some i ∧ i.zero = some (.int .u8 0) ∧ i.size = 1 ∧ i.bytes = 1 := by
  have h1 : (Tryz.prog.info? 5).map (·.size) = some 1 := by kernel_rfl
  have h2 : (Tryz.prog.info? 5).map (·.bytes) = some 1 := by kernel_rfl
  have h3 : (Tryz.prog.info? 5).bind (·.zero) = some (.int .u8 0) := by kernel_rfl
  cases hi : Tryz.prog.info? 5 with
  | none => rw [hi] at h1; cases h1
  | some i =>
    rw [hi] at h1 h2 h3
    exact ⟨i, rfl, h3, Option.some.inj h1, Option.some.inj h2⟩

structure RowV (E : EP) (sent : List (List UInt8 × Value)) (p : List UInt8) (v : Value) (tl : Bool) (r : Nat) (xs : Array Value) (w : World) : Prop where
  b : BView E sent p v tl w
  row : w.heap[r]? = some (.cells xs 5)
  ge : E.Low ≤ r
  bare : ∀ x ∈ sent, ∀ n m, x.2 ≠ .slice (some ⟨r, 0, none⟩) n m
  nq : ∀ q n c, v = .slice (some ⟨q, 0, none⟩) n c → r ≠ q

section
variable {E : EP} {sent : List (List UInt8 × Value)} {p : List UInt8} {v : Value} {tl : Bool} {w w₁ : World} {k : Nat} {FB : List (List UInt8 × Value) → World → Prop} {PostA : List (List UInt8 × Value) → Goroutine → World → Prop} {r : Nat} {xs : Array Value}

theorem RowV.rely (O : E.Ok) (h : RowV E sent p v tl r xs w) (rr : RB (E.cfg k FB PostA) w w₁) : RowV E sent p v tl r xs w₁ := by
  have := O.g
  have := O.c
  have := O.v
  have := h.ge
  exact ⟨h.b.rely O rr, rr.keep.keep _ _ h.row ⟨by omega, by omega, by omega, fun ⟨_, x⟩ => by simp [kindOf] at x⟩, h.ge, h.bare, h.nq⟩

theorem RowV.own (h : RowV E sent p v tl r xs w) : OwnRow E sent w r := ⟨.inr (.inr ⟨h.ge, _, h.row, rfl⟩), h.bare⟩

theorem PartAt.lt (h : PartAt E sent w p v) {q n c : Nat} (e : v = .slice (some ⟨q, 0, none⟩) n c) : q < w.heap.size := by
  rcases h with ⟨h1, _⟩ | ⟨q', c', cells, h1, h2, h3, _⟩
  · rw [h1] at e; cases e
  · rw [h1] at e; cases e; exact lt_of_get h3

theorem BView.alloc (h : BView E sent p v tl w) (xs : Array Value) : RowV E sent p v tl w.heap.size xs (w.alloc (.cells xs 5)) := by
  have old : ∀ i x, w.heap[i]? = some x → (w.alloc (.cells xs 5)).heap[i]? = some x := fun i x h => by
    have := lt_of_get h
    show (w.heap.push _)[i]? = some x
    rw [Array.getElem?_push, if_neg (by omega)]
    exact h
  have sz : (w.alloc (.cells xs 5)).heap.size = w.heap.size + 1 := by
    show (w.heap.push _).size = _
    rw [Array.size_push]
  refine ⟨⟨old _ _ h.r, ?_, by have := h.low; omega, fun x hx => let ⟨b, n, m, h1, h2⟩ := h.old x hx; ⟨b, n, m, h1, by omega⟩, fun i o e => old _ _ (h.src i o e), let ⟨st, sm, x⟩ := h.wg; ⟨st, sm, old _ _ x⟩, h.dis⟩, ?_, h.low, fun x hx n m e => ?_, fun q n c e => ?_⟩
  · rcases h.part with h1 | ⟨q, c, cells, h1, h2, h3, h4⟩
    · exact .inl h1
    · exact .inr ⟨q, c, cells, h1, h2, old _ _ h3, h4⟩
  · show (w.heap.push _)[w.heap.size]? = _
    rw [Array.getElem?_push, if_pos rfl]
  · obtain ⟨b, n', m', h1, h2⟩ := h.old x hx
    rw [h1] at e
    cases e
    omega
  · have := h.part.lt e
    omega

theorem RowV.fill (O : E.Ok) (h : RowV E sent p v tl r xs w) (vs : List Value) (hl : vs.length = xs.size) : RowV E sent p v tl r vs.toArray (w.setCells r 0 vs) := by
  obtain ⟨cur, h1, h2, h3, _⟩ := setCells_row r 5 (0, 0) vs 0 w xs h.row (by omega)
  have e : cur = vs.toArray := by
    apply Array.ext
    · simp; omega
    · intro i a b
      have := h3 i (by simpa using b)
      rw [Nat.zero_add] at this
      rw [Array.getElem?_eq_getElem a] at this
      simpa using this
  have oth : ∀ i, i ≠ r → (w.setCells r 0 vs).heap[i]? = w.heap[i]? := fun i hi => setCells_other hi vs 0 w
  have rR : E.R ≠ r := by have := O.r; have := h.ge; omega
  have sz := setCells_size r vs 0 w
  refine ⟨⟨by rw [oth _ rR]; exact h.b.r, ?_, by rw [sz]; exact h.b.low, fun x hx => by rw [sz]; exact h.b.old x hx, fun i o e => by rw [oth i (by have := (O.fix i o e).1; have := h.ge; omega)]; exact h.b.src i o e, let ⟨st, sm, x⟩ := h.b.wg; ⟨st, sm, by unfold WgIs; rw [oth _ (by have := O.g; have := h.ge; omega)]; exact x⟩, h.b.dis⟩, e ▸ h1, h.ge, h.bare, h.nq⟩
  rcases h.b.part with h1 | ⟨q, c, cells, h1, h2, h3, h4⟩
  · exact .inl h1
  · exact .inr ⟨q, c, cells, h1, h2, by rw [oth q (Ne.symm (h.nq _ _ _ h1))]; exact h3, h4⟩

theorem RowV.evs {q n c : Nat} (h : RowV E sent p (.slice (some ⟨q, 0, none⟩) n c) tl r xs w) {ad : Addr} {wr : Bool} (hb : ad.block = q ∨ ad.block = r) : EvP (E.cfg k FB PostA).LB w ⟨.cell ad, wr, false⟩ := by
  rcases hb with hb | hb
  · rcases h.b.part with ⟨h1, _⟩ | ⟨q', c', cells, h1, h2, h3, h4, h5, h6, _⟩
    · cases h1
    · cases h1
      refine .inr ⟨_, _, rfl, ⟨_, rfl, ?_⟩, by rw [hb]; exact lt_of_get h3⟩
      rcases h6 with h6 | h6
      · exact .inl (.inr (hb.trans h6))
      · exact .inr (.inl ⟨by rw [hb]; exact h6, by rw [hb]; exact ⟨_, h3, rfl⟩⟩)
  · exact .inr ⟨_, _, rfl, ⟨_, rfl, .inr (.inl ⟨by rw [hb]; exact h.ge, by rw [hb]; exact ⟨_, h.row, rfl⟩⟩)⟩, by rw [hb]; exact lt_of_get h.row⟩

theorem events_copy_op {P : Program} {o : Oper} {a : Act} {w : World} {x y : Value} (d s : Operand) (t t' : TypeId)
    (ho : o.op = .call { callee := .builtin .copy, args := #[d, s], argTypes := #[t, t'] }) (hd : a.eval d = x) (hs : a.eval s = y) (es : Array Event) :
    (execOp a.eval o).events P w es = (Builtin.copy_ #[t, t'] o.type #[x, y]).events P w es := by
  unfold execOp
  simp only [ho, resolve, invoke, builtin, Sem.events_bind, Sem.run_pure, Sem.events_pure, Result.evThen_ok, List.map_toArray, List.map_cons, List.map_nil, hd, hs]
  cases (Builtin.copy_ #[t, t'] o.type #[x, y]).run P w <;> rfl

theorem behind (h4 : 4 ≤ p.length) (q c : Nat) (hc : p.length ≤ c) : ∃ aa : Addr, (if c = 4 then some (⟨q, 0, none⟩ : Addr) else some ⟨q, 4, none⟩) = some aa ∧ aa.block = q ∧
    ∀ w, BView E sent p (.slice (some ⟨q, 0, none⟩) p.length c) tl w → ∀ (j : Nat) (u : Value), (bc (p.drop 4))[j]? = some u → w.cell? (aa.add j) = some u := by
  by_cases e : c = 4
  · refine ⟨⟨q, 0, none⟩, by simp [e], rfl, fun w h j u hu => ?_⟩
    have : p.drop 4 = [] := List.drop_eq_nil_of_le (by omega)
    rw [this] at hu
    simp [bc] at hu
  · refine ⟨⟨q, 4, none⟩, by simp [e], rfl, fun w h j u hu => ?_⟩
    have hj : 4 + j < p.length := by
      have := (List.getElem?_eq_some_iff.1 hu).1
      simp [bc] at this
      omega
    have := h.byte (4 + j) hj
    simp only [bc, List.getElem?_map, List.getElem?_drop, List.getElem?_eq_getElem hj, Option.map_some, Option.some.injEq] at hu
    rw [← hu, Addr.add_lit]
    exact this

theorem bc_one (b : List UInt8) : ∀ u ∈ bc b, u.oneCell' = true := fun u hu => by
  obtain ⟨x, _, rfl⟩ := List.mem_map.1 hu
  rfl

set_option maxRecDepth 100000 in
set_option maxHeartbeats 1000000 in
theorem body_c (O : E.Ok) (h4 : 4 ≤ p.length) (hbig : p.length < 4294967296) : ∃ m, ∀ v w, BView E sent p v tl w →
    CallsC Tryz.prog false (RB (E.cfg k FB PostA)) (DB (E.cfg k FB PostA) sent) 220 #[.pointer (some ⟨E.R, 0, none⟩)] m w fun x w' => ∃ r, x = .slice (some ⟨r, 0, none⟩) (p.length - 4) (p.length - 4) ∧ RowV E sent p v tl r (bc (p.drop 4)).toArray w' := by
  have T := termsB (E.cfg k FB PostA) sent
  co_apply Exists.intro
  intro v w hF
  obtain ⟨q, c, rfl, hc, hcm⟩ := hF.long (by omega)
  co_apply callsC_of_wpC Tryz.func220 (by rfl) rfl
  simp only [Tryz.ntmps220, List.size_toArray, List.length_cons, List.length_nil, Nat.reduceAdd, Nat.reduceSub, Array.replicate_succ, Array.replicate_zero, List.push_toArray, List.append_toArray, List.nil_append, List.cons_append]
  co_stmt T (BView.rely O) hF (co_quiet T)
  co_apply wpC_seq T
  co_reg T
  co_op (BView.rely O) hF (co_quiet T)
  co_op (BView.rely O) hF (co_quiet T)
  co_op (BView.rely O) hF (co_quiet T)
  co_opw (BView.rely O) hF (have hc := hF.c0) (refine db_read ?_; co_evs (exact evR hF 0))
  clear hc
  co_op (BView.rely O) hF (co_quiet T)
  co_op (BView.rely O) hF (co_quiet T)
  have e9 : IntKind.i64.wrap ((p.length : Int) - 4) = ((p.length - 4 : Nat) : Int) := by rw [IntKind.wrap_i64]; omega
  simp only [e9]
  obtain ⟨i0, hi, hz0, hz1, hz2⟩ := info5
  have hmk := fun w => run_make (P := Tryz.prog) w 57 5 i0 (.int .u8 0) un25 hi hz0 .i64 .i64 ((p.length - 4 : Nat) : Int) ((p.length - 4 : Nat) : Int) (by omega) (by omega) (by rw [hz2]; omega) (by omega)
  have hme := fun w es => events_make (P := Tryz.prog) w 57 5 i0 (.int .u8 0) un25 hi hz0 .i64 .i64 ((p.length - 4 : Nat) : Int) ((p.length - 4 : Nat) : Int) (by omega) (by omega) (by rw [hz2]; omega) (by omega) (by rw [hz2]; simp; omega) es
  co_opw (BView.rely O) hF (skip) (rw [listed_nil (by simp [go_sem, hme])]; exact db_alloc O hF.low _ (by simp))
  have hG := hF.alloc (madeCells #[.int .u8 0] (p.length - 4))
  try simp only [Int.toNat_natCast]
  rename_i wz
  generalize wz.heap.size = r at hG ⊢
  clear hF hmk hme
  co_op (RowV.rely O) hG (co_quiet T)
  co_apply opsC_nil T
  co_then
  have hev := fun w es => events_sl_l w es (some ⟨q, 0, none⟩) p.length c 4 (by omega) (by omega)
  have h4z : (4 : Int) ≤ (p.length : Int) := by omega
  co_apply wpC_seq T
  co_reg T
  co_op (RowV.rely O) hG (co_quiet T)
  co_op (RowV.rely O) hG (co_quiet T)
  co_op (RowV.rely O) hG (co_quiet T)
  co_op (RowV.rely O) hG (co_quiet T)
  co_opw (RowV.rely O) hG (have hc := hG.b.c0) (refine db_read ?_; co_evs (exact evR hG.b 0))
  clear hc
  co_opw (RowV.rely O) hG (skip) (co_still T)
  obtain ⟨aa, haa, haq, hsrc⟩ := behind (E := E) (sent := sent) (tl := tl) h4 q c hc
  simp only [haa]
  have hlen : (bc (p.drop 4)).length = p.length - 4 := by simp [bc]
  have hsz : (madeCells #[Value.int IntKind.u8 0] (p.length - 4)).size = p.length - 4 := by simp [madeCells]
  have hs1 : (Tryz.prog.info? 5).map (·.size) = some 1 := by rw [hi]; simp [hz1]
  have hmin : (bc (p.drop 4)).length = Nat.min (p.length - 4) (p.length - 4) := by rw [hlen]; exact (Nat.min_self _).symm
  co_opw (RowV.rely O) hG (have hcp := run_copy_cells (P := Tryz.prog) _ 57 57 3 5 r 0 (p.length - 4) (p.length - 4) aa (p.length - 4) (c - 4) (bc (p.drop 4)) un25 hs1 hmin (hsrc _ hG.b) (fun j hj => by simp [World.cell?, hG.row]; omega) (fun j hj => by simp [World.frozen?, hG.row]) (bc_one _))
   (refine db_cells O hG.own hG.row _ (by omega) (fun e he => ?_)
    have hm := mem_listed he
    rw [events_copy_op (.tmp 11) (.tmp 16) 57 57 rfl rfl rfl] at hm
    obtain ⟨ad, h1, h2⟩ := events_copy_where (P := Tryz.prog) _ 57 57 3 5 r 0 (p.length - 4) (p.length - 4) aa (p.length - 4) (c - 4) _ 5 (bc (p.drop 4)) un25 hs1 hmin (hsrc _ hG.b) hG.row (by omega) (bc_one _) e hm
    rcases Flat.copy _ _ _ _ _ e hm with h3 | h3
    · simp at h3
    · rw [flat_cell h3 h1]
      exact (hG.fill O (bc (p.drop 4)) (by omega)).evs (h2.imp (fun x => x.2.trans haq) id))
  replace hG := hG.fill O (bc (p.drop 4)) (by omega)
  clear hcp
  co_apply opsC_nil T
  co_then
  co_go T (RowV.rely O) hG (co_quiet T)
  exact ⟨rfl, _, resultsC_tmp (by rfl) _, r, rfl, hG⟩

end
end Go.Proofs.YtlghcldiboecoaaGreatDoor.Cu

/- append onto the part, in company. -/
set_option maxRecDepth 100000
namespace Go.Proofs.YtlghcldiboecoaaGreatDoor.Cu
open Go Go.Conc Go.Pair Go.RowKit

structure AView (E : EP) (sent : List (List UInt8 × Value)) (p : List UInt8) (v' : Value) (tl : Bool) (v : Value) (w : World) : Prop where
  r : w.heap[E.R]? = some (.cells #[v, .bool tl] 237)
  part : PartAt E sent w p v'
  low : E.Low ≤ w.heap.size
  old : ∀ x ∈ sent, ∃ r n m, x.2 = .slice (some ⟨r, 0, none⟩) n m ∧ r < w.heap.size
  src : ∀ i o, E.Fix i = some o → w.heap[i]? = some o
  wg : WgAny 271 E.Wg w
  dis : Dis sent

section
variable {E : EP} {sent : List (List UInt8 × Value)} {p : List UInt8} {v : Value} {tl : Bool} {w w' w₁ : World} {k : Nat} {FB : List (List UInt8 × Value) → World → Prop} {PostA : List (List UInt8 × Value) → Goroutine → World → Prop}

theorem PartAt.rely (O : E.Ok) (h : PartAt E sent w p v) (r : RB (E.cfg k FB PostA) w w₁) : PartAt E sent w₁ p v := by
  rcases h with h1 | ⟨q, c, cells, h1, h2, h3, h4, h5, h6, h7, h8⟩
  · exact .inl h1
  · refine .inr ⟨q, c, cells, h1, h2, r.keep.keep _ _ h3 ?_, h4, h5, h6, h7, h8⟩
    rcases h6 with rfl | h6
    · exact ⟨O.pg, O.pc, O.pv, fun ⟨x, _⟩ => by have := O.p; omega⟩
    · exact ⟨by have := O.g; omega, by have := O.c; omega, by have := O.v; omega, fun ⟨_, x⟩ => by simp [kindOf] at x⟩

theorem AView.rely (O : E.Ok) {v' : Value} (h : AView E sent p v' tl v w) (r : RB (E.cfg k FB PostA) w w₁) : AView E sent p v' tl v w₁ :=
  ⟨r.keep.keep _ _ h.r ⟨O.rg, O.rc, O.rv, fun ⟨x, _⟩ => by have := O.r; omega⟩, h.part.rely O r, Nat.le_trans h.low r.keep.size, fun x hx => let ⟨b, n, m, h1, h2⟩ := h.old x hx; ⟨b, n, m, h1, Nat.lt_of_lt_of_le h2 r.keep.size⟩, fun i o e => O.src (h.src) r e, r.wg h.wg, h.dis⟩

theorem bc_len (b : List UInt8) : (bc b).length = b.length := by simp [bc]
theorem bc_get (b : List UInt8) (i : Nat) (h : i < b.length) : (bc b)[i]? = some (.int .u8 (b[i].toNat : Int)) := by simp [bc, h]
theorem bc_app (a b : List UInt8) : bc (a ++ b) = bc a ++ bc b := by simp [bc]

theorem PartAt.row (h : PartAt E sent w p v) : w.ownsRow 0 5 1 v p.length (bc p) := by
  refine ⟨by simp [bc], ?_⟩
  rcases h with ⟨h1, h2⟩ | ⟨q, c, cells, h1, h2, h3, h4, h5, h6, h7, h8, h9⟩
  · exact .inl ⟨h1, by simp [h2]⟩
  · refine .inr ⟨q, c, cells, h1, Nat.zero_le _, h3, h2, h9, by omega, ?_⟩
    apply List.ext_getElem?
    intro i
    by_cases hi : i < p.length
    · rw [List.getElem?_take_of_lt (by omega), bc_get p i hi]
      have := h5 i hi
      simpa using this
    · rw [List.getElem?_eq_none (by simp; omega), List.getElem?_eq_none (by simp [bc]; omega)]

theorem part_new {g c : Nat} {Z : List Value} (hg : w.heap[g]? = some (.cells (bc p ++ Z).toArray 5)) (hc : p.length + Z.length = c) (hm : c ≤ maxLen) (h6 : g = E.pb ∨ E.Low ≤ g) (h7 : g ≠ E.R) (h8 : ∀ x ∈ sent, ∀ n m, x.2 ≠ .slice (some ⟨g, 0, none⟩) n m) :
    PartAt E sent w p (.slice (some ⟨g, 0, none⟩) p.length c) := by
  refine .inr ⟨g, c, _, rfl, by omega, hg, by simp [bc]; omega, fun i hi => ?_, h6, h7, h8, hm⟩
  have : i < (bc p).length := by rw [bc_len]; exact hi
  simp only [List.getElem?_toArray]
  rw [List.getElem?_append_left this]
  exact bc_get p i hi

theorem app_evs {a : Addr} {m c : Nat} {news : List UInt8} (h : PartAt E sent w p v) (hl : news.length = m) (hsrc : ∀ (j : Nat) (u : Value), (bc news)[j]? = some u → w.cell? (a.add j) = some u) (hst : ∀ ad : Addr, ad.block = a.block → E.still ad) (hlt : a.block < w.heap.size)
    (hbig : p.length + m ≤ 4294967296) (hsz : w.heap.size ≤ w'.heap.size) (hk : ∀ q, v.ownBlock = some q → (q = E.pb ∨ (E.Low ≤ q ∧ kindAt w' q 5)) ∧ q < w'.heap.size) :
    ∀ e ∈ (Builtin.append_ #[57, 57] 57 #[v, .slice (some a) m c]).events Tryz.prog w #[], EvP (E.cfg k FB PostA).LB w' e := by
  intro e he
  obtain ⟨i0, hi, hz0, hz1, hz2⟩ := info5
  rcases events_append_where (P := Tryz.prog) w 0 57 57 5 i0 (.int .u8 0) 1 1 un25 hi hz0 hz1 hz2 v p.length (bc p) h.row a m c (bc news) (by simp [bc, hl]) hsrc (bc_one _) (by simp only [maxLen]; omega) (by omega) e he with ⟨ad, h1, h2⟩ | ⟨mk, h1, h2⟩
  · rcases Flat.append _ _ _ _ _ e he with h3 | h3
    · simp at h3
    · rw [flat_cell h3 h1]
      rcases h2 with ⟨h4, h5⟩ | h5
      · rw [h4]
        exact .inr ⟨_, _, rfl, ⟨_, rfl, .inr (.inr ⟨rfl, hst ad h5⟩)⟩, by rw [h5]; omega⟩
      · obtain ⟨h6, h7⟩ := hk _ h5.symm
        exact .inr ⟨_, _, rfl, ⟨_, rfl, h6.elim (fun x => .inl (.inr x)) fun x => .inr (.inl x)⟩, h7⟩
  · exact .inl ⟨mk, by rw [h1], h2⟩

theorem push_old {o : Obj} (hh : w'.heap = w.heap.push o) {i : Nat} (hi : i < w.heap.size) : w'.heap[i]? = w.heap[i]? := by
  rw [hh, Array.getElem?_push, if_neg (by omega)]

theorem push_new {o : Obj} (hh : w'.heap = w.heap.push o) : w'.heap[w.heap.size]? = some o := by
  rw [hh, Array.getElem?_push, if_pos rfl]

theorem db_push (O : E.Ok) (hl : E.Low ≤ w.heap.size) {o : Obj} (hh : w'.heap = w.heap.push o) (ht : w'.tape = w.tape ∧ w'.os = w.os ∧ w'.output = w.output) {es : Array Event} (he : ∀ e ∈ es, EvP (E.cfg k FB PostA).LB w' e) : DB (E.cfg k FB PostA) sent w w' es := by
  have sz : w.heap.size ≤ w'.heap.size := by rw [hh, Array.size_push]; omega
  have old : ∀ i x, w.heap[i]? = some x → w'.heap[i]? = some x := fun i x h => by rw [push_old hh (lt_of_get h)]; exact h
  exact ⟨⟨ht.1, ht.2.1, ht.2.2, sz, fun i x h _ => old i x h⟩, fun x _ ⟨r, h1, h2, h3⟩ => ⟨r, h1, h2, old r _ h3⟩, ⟨sz, fun i x h => ⟨x, old i x h, rfl⟩⟩, push_old hh (Nat.lt_of_lt_of_le O.g hl), push_old hh (Nat.lt_of_lt_of_le O.c hl), he⟩

theorem app_grown (O : E.Ok) (hF : BView E sent p v tl w) {b : List UInt8} {Z : List Value} {c : Nat} (hh : w'.heap = w.heap.push (.cells (bc b ++ Z).toArray 5)) (ht : w'.tape = w.tape ∧ w'.os = w.os ∧ w'.output = w.output) (hc : b.length + Z.length = c) (hm : c ≤ maxLen) :
    AView E sent b (.slice (some ⟨w.heap.size, 0, none⟩) b.length c) tl v w' := by
  have sz : w'.heap.size = w.heap.size + 1 := by rw [hh, Array.size_push]
  have := hF.low
  have := O.r
  refine ⟨by rw [push_old hh (by omega)]; exact hF.r, part_new (push_new hh) hc hm (.inr hF.low) (by omega) (fun x hx n m e => ?_), by omega, fun x hx => let ⟨b, n, m, h1, h2⟩ := hF.old x hx; ⟨b, n, m, h1, by omega⟩, fun i o e => by rw [push_old hh (lt_of_get (hF.src i o e))]; exact hF.src i o e, let ⟨st, sm, x⟩ := hF.wg; ⟨st, sm, by unfold WgIs; rw [push_old hh (lt_of_get x)]; exact x⟩, hF.dis⟩
  obtain ⟨b', n', m', h1, h2⟩ := hF.old x hx
  rw [h1] at e
  cases e
  omega

theorem own_kind (h : PartAt E sent w p v) {q : Nat} (e : v.ownBlock = some q) : (q = E.pb ∨ (E.Low ≤ q ∧ kindAt w q 5)) ∧ q < w.heap.size ∧ (∀ x ∈ sent, ∀ n m, x.2 ≠ .slice (some ⟨q, 0, none⟩) n m) ∧ q ≠ E.R := by
  rcases h with ⟨rfl, _⟩ | ⟨q', c, cells, rfl, h2, h3, h4, h5, h6, h7, h8, h9⟩
  · simp [Value.ownBlock] at e
  · simp [Value.ownBlock] at e
    subst e
    exact ⟨h6.imp id fun x => ⟨x, _, h3, rfl⟩, lt_of_get h3, h8, h7⟩

theorem app_arr (l : List Value) (Z : Array Value) : l.toArray ++ Z = (l ++ Z.toList).toArray := by
  apply Array.ext'
  simp

theorem append_c (O : E.Ok) (hF : BView E sent p v tl w) {a : Addr} {m c : Nat} {news : List UInt8} (hl : news.length = m) (hm : 0 < m) (hsrc : ∀ (j : Nat) (u : Value), (bc news)[j]? = some u → w.cell? (a.add j) = some u)
    (hst : ∀ ad : Addr, ad.block = a.block → E.still ad) (hlt : a.block < w.heap.size) (hbig : p.length + m ≤ 4294967296) :
    ∃ v' w', (Builtin.append_ #[57, 57] 57 #[v, .slice (some a) m c]).run Tryz.prog w = .ok v' w' ∧ AView E sent (p ++ news) v' tl v w' ∧
      ∀ es : Array Event, (∀ e ∈ es, e ∈ (Builtin.append_ #[57, 57] 57 #[v, .slice (some a) m c]).events Tryz.prog w #[]) → DB (E.cfg k FB PostA) sent w w' es := by
  obtain ⟨i0, hi, hz0, hz1, hz2⟩ := info5
  have hlen : (bc news).length = m * i0.size := by rw [bc_len, hz1, hl]; omega
  have hpl : (p ++ news).length = p.length + m := by simp [hl]
  have hmax : p.length + m ≤ maxLen := by simp only [maxLen]; omega
  have hgrow : ∀ (old : Nat) (cs : Array Value), cs = (bc (p ++ news)).toArray ++ Builtin.zeroCells (Value.int .u8 0).cells (grownCap w (p.length + m) old 5 - (p.length + m)) →
      (Builtin.append_ #[57, 57] 57 #[v, .slice (some a) m c]).run Tryz.prog w = .ok (.slice (some ⟨w.heap.size, 0, none⟩) (p.length + m) (grownCap w (p.length + m) old 5)) (w.drew.alloc (.cells cs 5)) →
      ∃ v' w', (Builtin.append_ #[57, 57] 57 #[v, .slice (some a) m c]).run Tryz.prog w = .ok v' w' ∧ AView E sent (p ++ news) v' tl v w' ∧
      ∀ es : Array Event, (∀ e ∈ es, e ∈ (Builtin.append_ #[57, 57] 57 #[v, .slice (some a) m c]).events Tryz.prog w #[]) → DB (E.cfg k FB PostA) sent w w' es := by
    intro old cs hcs hr
    have hge := grownCap_ge w (p.length + m) old 5
    have hle := grownCap_le_maxLen w (p.length + m) old 5 hmax
    have hh : (w.drew.alloc (.cells cs 5)).heap = w.heap.push (.cells (bc (p ++ news) ++ (Builtin.zeroCells (Value.int .u8 0).cells (grownCap w (p.length + m) old 5 - (p.length + m))).toList).toArray 5) := by
      rw [hcs]
      show w.heap.push _ = _
      rw [app_arr]
    have hZ : (Builtin.zeroCells (Value.int .u8 0).cells (grownCap w (p.length + m) old 5 - (p.length + m))).toList.length = grownCap w (p.length + m) old 5 - (p.length + m) := by
      rw [Array.length_toList, size_zeroCells]
      show _ * 1 = _
      omega
    have hA := app_grown O hF (c := grownCap w (p.length + m) old 5) hh ⟨rfl, rfl, rfl⟩ (by rw [hpl, hZ]; omega) hle
    rw [hpl] at hA
    refine ⟨_, _, hr, hA, fun es hes => db_push O hF.low hh ⟨rfl, rfl, rfl⟩ fun e he => app_evs hF.part hl hsrc hst hlt hbig (by rw [hh, Array.size_push]; omega) (fun q hq => ?_) e (hes e he)⟩
    obtain ⟨h1, h2, h3, _⟩ := own_kind hF.part hq
    refine ⟨h1.imp id fun ⟨x, o, y, z⟩ => ⟨x, o, by rw [push_old hh h2]; exact y, z⟩, by rw [hh, Array.size_push]; omega⟩
  rcases hF.part with ⟨rfl, rfl⟩ | ⟨q, c', cells, rfl, h2, h3, h4, h5, h6, h7, h8, h9⟩
  · have hr := run_append_nil (P := Tryz.prog) w 57 57 5 i0 (.int .u8 0) un25 hi hz0 a m c (bc news) hlen hsrc hm (by omega) (by rw [hz2]; simp at hbig; omega)
    refine hgrow 0 _ rfl ?_
    simp only [List.length_nil, Nat.zero_add, List.nil_append]
    exact hr
  · have hrow := hF.part.row
    have htake : cells.toList.take p.length = bc p := by
      rcases hrow.2 with ⟨x, _⟩ | ⟨g, cap, cur, e1, _, e2, _, _, _, e3⟩
      · cases x
      · cases e1
        rw [h3] at e2
        cases e2
        simpa using e3
    by_cases hroom : p.length + m ≤ c'
    · have hr := run_append_room (P := Tryz.prog) w 57 57 5 i0 un25 hi q p.length c' cells h3 a m c (bc news) hlen hsrc (bc_one _) hroom (by rw [hlen, hz1]; omega)
      rw [hz1, Nat.mul_one, htake, ← bc_app] at hr
      have hg := setRow_heap w q cells (bc (p ++ news) ++ cells.toList.drop (p.length + (bc news).length)).toArray 5 (0, 0) h3
      have oth := fun i (hi : i ≠ q) => setRow_other w q i (bc (p ++ news) ++ cells.toList.drop (p.length + (bc news).length)).toArray hi
      have sz : (w.setRow q (bc (p ++ news) ++ cells.toList.drop (p.length + (bc news).length)).toArray).heap.size = w.heap.size := by simp [World.setRow]
      have hP := part_new (E := E) (sent := sent) (c := c') hg (by have : cells.toList.length = cells.size := Array.length_toList; rw [hpl, List.length_drop, bc_len, hl, this]; omega) h9 h6 h7 h8
      rw [hpl] at hP
      refine ⟨_, _, hr, ⟨by rw [oth _ (Ne.symm h7)]; exact hF.r, hP, by rw [sz]; exact hF.low, fun x hx => by rw [sz]; exact hF.old x hx, fun i o e => by rw [oth i (by have hs := O.fix i o e; rcases h6 with h6 | h6; exact fun x => hs.2.2.1 (x.trans h6); have := hs.1; omega)]; exact hF.src i o e, let ⟨st, sm, x⟩ := hF.wg; ⟨st, sm, by unfold WgIs; rw [oth _ (by rcases h6 with h6 | h6; exact fun y => O.pg (h6.symm.trans y.symm); have := O.g; omega)]; exact x⟩, hF.dis⟩, fun es hes => ?_⟩
      refine db_row (w' := w.setRow q (bc (p ++ news) ++ cells.toList.drop (p.length + (bc news).length)).toArray) O ⟨.inr (h6.imp id fun x => ⟨x, _, h3, rfl⟩), h8⟩ ⟨rfl, rfl, rfl⟩ sz oth (fun o ho => ?_) fun e he => app_evs hF.part hl hsrc hst hlt hbig (by rw [sz]; exact Nat.le_refl _) (fun q' hq' => ?_) e (hes e he)
      · rw [h3] at ho
        cases ho
        exact ⟨_, hg, rfl⟩
      · simp [Value.ownBlock] at hq'
        subst hq'
        exact ⟨h6.imp id fun x => ⟨x, _, hg, rfl⟩, by rw [sz]; exact lt_of_get h3⟩
    · have holds : ∀ (j : Nat) (u : Value), (bc p)[j]? = some u → w.cell? ((⟨q, 0, none⟩ : Addr).add j) = some u := hrow.cells (g := q) rfl
      refine hgrow c' _ ?_ (run_append_grow (P := Tryz.prog) w 57 57 5 i0 (.int .u8 0) un25 hi hz0 ⟨q, 0, none⟩ p.length c' (bc p) (by rw [bc_len, hz1]; omega) holds a m c (bc news) hlen hsrc (by omega) (by omega) ?_)
      · simp [bc_app]
      · have := growslice_fits (need := p.length + m) (old := c') (bytes := i0.bytes) (by omega) (by rw [hz2]; omega)
        omega

end
end Go.Proofs.YtlghcldiboecoaaGreatDoor.Cu
