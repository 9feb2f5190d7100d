/- What the worker may do: a row of its own made, a row of its own turned. -/
import Derived.Test.YtkaapaepanhbgaaCMiss
import Derived.Test.YtkaapaepanhbgaaHPlain
set_option linter.unusedVariables false
set_option linter.unusedSimpArgs false
namespace Go.Pair
open Go Go.Conc

theorem setCell_row {w : World} {b i : Nat} {cur : Array Value} {t : TypeId} {v : Value} {f : Nat × Nat} (h : w.heap[b]? = some (.cells cur t f)) : (w.setCell ⟨b, i, none⟩ v).heap[b]? = some (.cells (cur.setIfInBounds i v) t f) := by
  simp [World.setCell, Array.getElem?_modify, h]
theorem setCells_other {i b : Nat} (hi : i ≠ b) : ∀ (vs : List Value) (o : Nat) (w : World), (w.setCells b o vs).heap[i]? = w.heap[i]?
  | [], _, _ => rfl
  | v :: r, o, w => by rw [World.setCells, setCells_other hi r]; exact set_other _ _ hi
theorem setCells_size (b : Nat) : ∀ (vs : List Value) (o : Nat) (w : World), (w.setCells b o vs).heap.size = w.heap.size
  | [], _, _ => rfl
  | v :: r, o, w => by rw [World.setCells, setCells_size b r]; exact set_size _ _
theorem setCells_rest (b : Nat) : ∀ (vs : List Value) (o : Nat) (w : World), (w.setCells b o vs).tape = w.tape ∧ (w.setCells b o vs).os = w.os ∧ (w.setCells b o vs).output = w.output
  | [], _, _ => ⟨rfl, rfl, rfl⟩
  | v :: r, o, w => by rw [World.setCells]; exact setCells_rest b r (o + 1) _
theorem setCells_row (b : Nat) (t : TypeId) (f : Nat × Nat) : ∀ (vs : List Value) (o : Nat) (w : World) (cur : Array Value), w.heap[b]? = some (.cells cur t f) → o + vs.length ≤ cur.size →
    ∃ cur', (w.setCells b o vs).heap[b]? = some (.cells cur' t f) ∧ cur'.size = cur.size ∧ (∀ j (hj : j < vs.length), cur'[o + j]? = some vs[j]) ∧ ∀ i, (i < o ∨ o + vs.length ≤ i) → cur'[i]? = cur[i]?
  | [], o, w, cur, h, hl => ⟨cur, h, rfl, fun j hj => by simp at hj, fun _ _ => rfl⟩
  | v :: r, o, w, cur, h, hl => by
    simp at hl
    obtain ⟨cur', h1, h2, h3, h4⟩ := setCells_row b t f r (o + 1) (w.setCell ⟨b, o, none⟩ v) (cur.setIfInBounds o v) (setCell_row h) (by simp; omega)
    refine ⟨cur', by rw [World.setCells]; exact h1, by simpa using h2, fun j hj => ?_, fun i hi => ?_⟩
    · cases j with
      | zero =>
        show cur'[o]? = some v
        rw [h4 o (.inl (Nat.lt_succ_self o))]
        simp [show o < cur.size by omega]
      | succ j => have := h3 j (by simpa using hj); rw [show o + 1 + j = o + (j + 1) by omega] at this; simpa using this
    · rw [h4 i (by simp at hi; omega)]
      have : o ≠ i := by simp at hi; omega
      simp [Array.getElem?_setIfInBounds_ne this]
end Go.Pair
namespace Go.Proofs.Ytkaapaepanhbgaa
open Go Go.Conc Go.Pair Go.RowKit
section
variable {E : EP} {sent : List (List UInt8 × Value)} {p : List UInt8} {v : Value} {tl : Bool} {w w' : World} {k : Nat} {FB : List (List UInt8 × Value) → World → Prop} {PostA : List (List UInt8 × Value) → Goroutine → World → Prop}

theorem Msg.lt {b : List UInt8} (h : E.Msg b v w) : ∃ r, v = .slice (some ⟨r, 0, none⟩) b.length b.length ∧ r < w.heap.size ∧ w.heap[r]? = some (.cells (bc b).toArray 5) := by
  obtain ⟨r, _, h2, h3⟩ := h
  exact ⟨r, h2, lt_of_get h3, h3⟩

/-- A new object. -/
theorem db_alloc (O : E.Ok) (hl : E.Low ≤ w.heap.size) (o : Obj) {es : Array Event} (he : ∀ e ∈ es, EvP (E.cfg k FB PostA).LB (w.alloc o) e) : DB (E.cfg k FB PostA) sent w (w.alloc o) es := by
  have old : ∀ i x, w.heap[i]? = some x → (w.alloc o).heap[i]? = some x := fun i x h => by
    have := lt_of_get h
    show (w.heap.push o)[i]? = some x
    rw [Array.getElem?_push, if_neg (by omega)]
    exact h
  have low : ∀ i, i < E.Low → (w.alloc o).heap[i]? = w.heap[i]? := fun i h => by
    show (w.heap.push o)[i]? = w.heap[i]?
    rw [Array.getElem?_push, if_neg (by omega)]
  have sz : w.heap.size ≤ (w.alloc o).heap.size := by
    show w.heap.size ≤ (w.heap.push o).size
    rw [Array.size_push]
    omega
  refine ⟨⟨rfl, rfl, rfl, sz, fun i x h _ => old i x h⟩, fun x _ ⟨r, h1, h2, h3⟩ => ⟨r, h1, h2, old r _ h3⟩, ⟨sz, fun i x h => ⟨x, old i x h, rfl⟩⟩, low _ O.g, low _ O.c, he⟩

/-- A row of the worker's that no body lies in. -/
structure OwnRow (E : EP) (sent : List (List UInt8 × Value)) (w : World) (r : Nat) : Prop where
  mine : r = E.R ∨ r = E.pb ∨ (E.Low ≤ r ∧ kindAt w r 5)
  bare : ∀ x ∈ sent, ∀ n m, x.2 ≠ .slice (some ⟨r, 0, none⟩) n m

theorem OwnRow.ne (O : E.Ok) {r : Nat} (h : OwnRow E sent w r) : r ≠ E.Wg ∧ r ≠ E.Ch := by
  have := O.g
  have := O.c
  rcases h.mine with rfl | rfl | ⟨h, _⟩
  · exact ⟨O.rg, O.rc⟩
  · exact ⟨O.pg, O.pc⟩
  · exact ⟨by omega, by omega⟩

theorem db_row (O : E.Ok) {r : Nat} (h : OwnRow E sent w r) (ht : w'.tape = w.tape ∧ w'.os = w.os ∧ w'.output = w.output) (hsz : w'.heap.size = w.heap.size) (ho : ∀ i, i ≠ r → w'.heap[i]? = w.heap[i]?)
    (hk : ∀ o, w.heap[r]? = some o → ∃ o', w'.heap[r]? = some o' ∧ kindOf o' = kindOf o) {es : Array Event} (he : ∀ e ∈ es, EvP (E.cfg k FB PostA).LB w' e) : DB (E.cfg k FB PostA) sent w w' es := by
  refine ⟨⟨ht.1, ht.2.1, ht.2.2, Nat.le_of_eq hsz.symm, fun i o h1 h2 => ?_⟩, fun x hx ⟨b, h1, h2, h3⟩ => ⟨b, h1, h2, ?_⟩, ⟨Nat.le_of_eq hsz.symm, fun i o h1 => ?_⟩, ho _ (Ne.symm (h.ne O).1), ho _ (Ne.symm (h.ne O).2), he⟩
  · by_cases hi : i = r
    · exfalso
      subst hi
      obtain ⟨_, _, n1, n2, n3⟩ := h2
      rcases h.mine with e | e | ⟨e, o', e1, e2⟩
      · exact n1 e
      · exact n2 e
      · rw [h1] at e1
        cases e1
        exact n3 ⟨e, e2⟩
    · rw [ho i hi]; exact h1
  · by_cases hb : b = r
    · subst hb; exact absurd h2 (h.bare x hx _ _)
    · rw [ho b hb]; exact h3
  · by_cases hi : i = r
    · subst hi; exact hk o h1
    · exact ⟨o, by rw [ho i hi]; exact h1, rfl⟩

theorem db_cells (O : E.Ok) {r o : Nat} (h : OwnRow E sent w r) {cur : Array Value} {t : TypeId} {f : Nat × Nat} (hr : w.heap[r]? = some (.cells cur t f)) (vs : List Value) (hl : o + vs.length ≤ cur.size) {es : Array Event} (he : ∀ e ∈ es, EvP (E.cfg k FB PostA).LB (w.setCells r o vs) e) :
    DB (E.cfg k FB PostA) sent w (w.setCells r o vs) es :=
  db_row O h (setCells_rest r vs o w) (setCells_size r vs o w) (fun i hi => setCells_other hi vs o w) (fun x hx => by
    obtain ⟨cur', h1, _⟩ := setCells_row r t f vs o w cur hr hl
    rw [hr] at hx
    cases hx
    exact ⟨_, h1, rfl⟩) he
end
end Go.Proofs.Ytkaapaepanhbgaa

/- The Cutter's body, in company. -/
set_option linter.unusedVariables false
set_option linter.unusedSimpArgs false
namespace Go.Proofs.Ytkaapaepanhbgaa
open Go Go.Conc Go.Pair Go.RowKit

theorem un25 : Try.prog.underlying 25 = some (.slice 5) := by first | rfl | kernel_rfl | decide +kernel
theorem info5 : ∃ i, Try.prog.info? 5 = some i ∧ i.zero = some (.int .u8 0) ∧ i.size = 1 ∧ i.bytes = 1 := ⟨_, rfl, rfl, rfl, rfl⟩

/-- The worker's part, and a new row. -/
structure RowV (E : EP) (sent : List (List UInt8 × Value)) (p : List UInt8) (v : Value) (tl : Bool) (r : Nat) (xs : Array Value) (w : World) : Prop where
  b : BView E sent p v tl w
  row : w.heap[r]? = some (.cells xs 5)
  ge : E.Low ≤ r
  bare : ∀ x ∈ sent, ∀ n m, x.2 ≠ .slice (some ⟨r, 0, none⟩) n m
  nq : ∀ q n c, v = .slice (some ⟨q, 0, none⟩) n c → r ≠ q

section
variable {E : EP} {sent : List (List UInt8 × Value)} {p : List UInt8} {v : Value} {tl : Bool} {w w₁ : World} {k : Nat} {FB : List (List UInt8 × Value) → World → Prop} {PostA : List (List UInt8 × Value) → Goroutine → World → Prop} {r : Nat} {xs : Array Value}

theorem RowV.rely (O : E.Ok) (h : RowV E sent p v tl r xs w) (rr : RB (E.cfg k FB PostA) w w₁) : RowV E sent p v tl r xs w₁ := by
  have := O.g
  have := O.c
  have := O.v
  have := h.ge
  exact ⟨h.b.rely O rr, rr.keep.keep _ _ h.row ⟨by omega, by omega, by omega, fun ⟨_, x⟩ => by simp [kindOf] at x⟩, h.ge, h.bare, h.nq⟩
theorem RowV.own (h : RowV E sent p v tl r xs w) : OwnRow E sent w r := ⟨.inr (.inr ⟨h.ge, _, h.row, rfl⟩), h.bare⟩

theorem PartAt.lt (h : PartAt E sent w p v) {q n c : Nat} (e : v = .slice (some ⟨q, 0, none⟩) n c) : q < w.heap.size := by
  rcases h with ⟨h1, _⟩ | ⟨q', c', cells, h1, h2, h3, _⟩
  · rw [h1] at e; cases e
  · rw [h1] at e; cases e; exact lt_of_get h3

/-- A new row. -/
theorem BView.alloc (h : BView E sent p v tl w) (xs : Array Value) : RowV E sent p v tl w.heap.size xs (w.alloc (.cells xs 5)) := by
  have old : ∀ i x, w.heap[i]? = some x → (w.alloc (.cells xs 5)).heap[i]? = some x := fun i x h => by
    have := lt_of_get h
    show (w.heap.push _)[i]? = some x
    rw [Array.getElem?_push, if_neg (by omega)]
    exact h
  have sz : (w.alloc (.cells xs 5)).heap.size = w.heap.size + 1 := by
    show (w.heap.push _).size = _
    rw [Array.size_push]
  refine ⟨⟨old _ _ h.r, ?_, by have := h.low; omega, fun x hx => let ⟨b, n, m, h1, h2⟩ := h.old x hx; ⟨b, n, m, h1, by omega⟩, fun i o e => old _ _ (h.src i o e), let ⟨st, sm, x⟩ := h.wg; ⟨st, sm, old _ _ x⟩⟩, ?_, h.low, fun x hx n m e => ?_, fun q n c e => ?_⟩
  · rcases h.part with h1 | ⟨q, c, cells, h1, h2, h3, h4⟩
    · exact .inl h1
    · exact .inr ⟨q, c, cells, h1, h2, old _ _ h3, h4⟩
  · show (w.heap.push _)[w.heap.size]? = _
    rw [Array.getElem?_push, if_pos rfl]
  · obtain ⟨b, n', m', h1, h2⟩ := h.old x hx
    rw [h1] at e
    cases e
    omega
  · have := h.part.lt e
    omega

/-- The new row filled. -/
theorem RowV.fill (O : E.Ok) (h : RowV E sent p v tl r xs w) (vs : List Value) (hl : vs.length = xs.size) : RowV E sent p v tl r vs.toArray (w.setCells r 0 vs) := by
  obtain ⟨cur, h1, h2, h3, _⟩ := setCells_row r 5 (0, 0) vs 0 w xs h.row (by omega)
  have e : cur = vs.toArray := by
    apply Array.ext
    · simp; omega
    · intro i a b
      have := h3 i (by simpa using b)
      rw [Nat.zero_add] at this
      rw [Array.getElem?_eq_getElem a] at this
      simpa using this
  have oth : ∀ i, i ≠ r → (w.setCells r 0 vs).heap[i]? = w.heap[i]? := fun i hi => setCells_other hi vs 0 w
  have rR : E.R ≠ r := by have := O.r; have := h.ge; omega
  have sz := setCells_size r vs 0 w
  refine ⟨⟨by rw [oth _ rR]; exact h.b.r, ?_, by rw [sz]; exact h.b.low, fun x hx => by rw [sz]; exact h.b.old x hx, fun i o e => by rw [oth i (by have := (O.fix i o e).1; have := h.ge; omega)]; exact h.b.src i o e, let ⟨st, sm, x⟩ := h.b.wg; ⟨st, sm, by unfold WgIs; rw [oth _ (by have := O.g; have := h.ge; omega)]; exact x⟩⟩, e ▸ h1, h.ge, h.bare, h.nq⟩
  rcases h.b.part with h1 | ⟨q, c, cells, h1, h2, h3, h4⟩
  · exact .inl h1
  · exact .inr ⟨q, c, cells, h1, h2, by rw [oth q (Ne.symm (h.nq _ _ _ h1))]; exact h3, h4⟩

theorem RowV.evs {q n c : Nat} (h : RowV E sent p (.slice (some ⟨q, 0, none⟩) n c) tl r xs w) {ad : Addr} {wr : Bool} (hb : ad.block = q ∨ ad.block = r) : EvP (E.cfg k FB PostA).LB w ⟨.cell ad, wr, false⟩ := by
  rcases hb with hb | hb
  · rcases h.b.part with ⟨h1, _⟩ | ⟨q', c', cells, h1, h2, h3, h4, h5, h6, _⟩
    · cases h1
    · cases h1
      refine .inr ⟨_, _, rfl, ⟨_, rfl, ?_⟩, by rw [hb]; exact lt_of_get h3⟩
      rcases h6 with h6 | h6
      · exact .inl (.inr (hb.trans h6))
      · exact .inr (.inl ⟨by rw [hb]; exact h6, by rw [hb]; exact ⟨_, h3, rfl⟩⟩)
  · exact .inr ⟨_, _, rfl, ⟨_, rfl, .inr (.inl ⟨by rw [hb]; exact h.ge, by rw [hb]; exact ⟨_, h.row, rfl⟩⟩)⟩, by rw [hb]; exact lt_of_get h.row⟩

theorem events_copy_op {P : Program} {o : Oper} {a : Act} {w : World} {x y : Value} (d s : Operand) (t t' : TypeId)
    (ho : o.op = .call { callee := .builtin .copy, args := #[d, s], argTypes := #[t, t'] }) (hd : a.eval d = x) (hs : a.eval s = y) (es : Array Event) :
    (execOp a.eval o).events P w es = (Builtin.copy_ #[t, t'] o.type #[x, y]).events P w es := by
  unfold execOp
  simp only [ho, resolve, invoke, builtin, Sem.events_bind, Sem.run_pure, Sem.events_pure, Result.evThen_ok, List.map_toArray, List.map_cons, List.map_nil, hd, hs]
  cases (Builtin.copy_ #[t, t'] o.type #[x, y]).run P w <;> rfl

/-- What lies behind the length. -/
theorem behind (h4 : 4 ≤ p.length) (q c : Nat) (hc : p.length ≤ c) : ∃ aa : Addr, (if c = 4 then some (⟨q, 0, none⟩ : Addr) else some ⟨q, 4, none⟩) = some aa ∧ aa.block = q ∧
    ∀ w, BView E sent p (.slice (some ⟨q, 0, none⟩) p.length c) tl w → ∀ (j : Nat) (u : Value), (bc (p.drop 4))[j]? = some u → w.cell? (aa.add j) = some u := by
  by_cases e : c = 4
  · refine ⟨⟨q, 0, none⟩, by simp [e], rfl, fun w h j u hu => ?_⟩
    have : p.drop 4 = [] := List.drop_eq_nil_of_le (by omega)
    rw [this] at hu
    simp [bc] at hu
  · refine ⟨⟨q, 4, none⟩, by simp [e], rfl, fun w h j u hu => ?_⟩
    have hj : 4 + j < p.length := by
      have := (List.getElem?_eq_some_iff.1 hu).1
      simp [bc] at this
      omega
    have := h.byte (4 + j) hj
    simp only [bc, List.getElem?_map, List.getElem?_drop, List.getElem?_eq_getElem hj, Option.map_some, Option.some.injEq] at hu
    rw [← hu, Addr.add_lit]
    exact this

theorem bc_one (b : List UInt8) : ∀ u ∈ bc b, u.oneCell' = true := fun u hu => by
  obtain ⟨x, _, rfl⟩ := List.mem_map.1 hu
  rfl

set_option maxRecDepth 100000 in
set_option maxHeartbeats 1000000 in
theorem body_c (O : E.Ok) (h4 : 4 ≤ p.length) (hbig : p.length < 4294967296) : ∃ m, ∀ v w, BView E sent p v tl w →
    CallsC Try.prog false (RB (E.cfg k FB PostA)) (DB (E.cfg k FB PostA) sent) 34 #[.pointer (some ⟨E.R, 0, none⟩)] m w fun x w' => ∃ r, x = .slice (some ⟨r, 0, none⟩) (p.length - 4) (p.length - 4) ∧ RowV E sent p v tl r (bc (p.drop 4)).toArray w' := by
  have T := termsB (E.cfg k FB PostA) sent
  co_apply Exists.intro
  intro v w hF
  obtain ⟨q, c, rfl, hc, hcm⟩ := hF.long (by omega)
  co_apply callsC_of_wpC Try.func34 (by rfl) rfl
  simp only [Try.ntmps34, List.size_toArray, List.length_cons, List.length_nil, Nat.reduceAdd, Nat.reduceSub, Array.replicate_succ, Array.replicate_zero, List.push_toArray, List.append_toArray, List.nil_append, List.cons_append]
  co_stmt T (BView.rely O) hF (co_quiet T)
  co_apply wpC_seq T
  co_reg T
  co_op (BView.rely O) hF (co_quiet T)
  co_op (BView.rely O) hF (co_quiet T)
  co_op (BView.rely O) hF (co_quiet T)
  co_opw (BView.rely O) hF (have hc := hF.c0) (refine db_read ?_; co_evs (exact evR hF 0))
  clear hc
  co_op (BView.rely O) hF (co_quiet T)
  co_op (BView.rely O) hF (co_quiet T)
  have e9 : IntKind.i64.wrap ((p.length : Int) - 4) = ((p.length - 4 : Nat) : Int) := by rw [IntKind.wrap_i64]; omega
  simp only [e9]
  obtain ⟨i0, hi, hz0, hz1, hz2⟩ := info5
  have hmk := fun w => run_make (P := Try.prog) w 25 5 i0 (.int .u8 0) un25 hi hz0 .i64 .i64 ((p.length - 4 : Nat) : Int) ((p.length - 4 : Nat) : Int) (by omega) (by omega) (by rw [hz2]; omega) (by omega)
  have hme := fun w es => events_make (P := Try.prog) w 25 5 i0 (.int .u8 0) un25 hi hz0 .i64 .i64 ((p.length - 4 : Nat) : Int) ((p.length - 4 : Nat) : Int) (by omega) (by omega) (by rw [hz2]; omega) (by omega) (by rw [hz2]; simp; omega) es
  co_opw (BView.rely O) hF (skip) (rw [listed_nil (by simp [go_sem, hme])]; exact db_alloc O hF.low _ (by simp))
  have hG := hF.alloc (madeCells #[.int .u8 0] (p.length - 4))
  try simp only [Int.toNat_natCast]
  rename_i wz
  generalize wz.heap.size = r at hG ⊢
  clear hF hmk hme
  co_op (RowV.rely O) hG (co_quiet T)
  co_apply opsC_nil T
  co_then
  have hev := fun w es => events_sl_l w es (some ⟨q, 0, none⟩) p.length c 4 (by omega) (by omega)
  have h4z : (4 : Int) ≤ (p.length : Int) := by omega
  co_apply wpC_seq T
  co_reg T
  co_op (RowV.rely O) hG (co_quiet T)
  co_op (RowV.rely O) hG (co_quiet T)
  co_op (RowV.rely O) hG (co_quiet T)
  co_op (RowV.rely O) hG (co_quiet T)
  co_opw (RowV.rely O) hG (have hc := hG.b.c0) (refine db_read ?_; co_evs (exact evR hG.b 0))
  clear hc
  co_opw (RowV.rely O) hG (skip) (co_still T)
  obtain ⟨aa, haa, haq, hsrc⟩ := behind (E := E) (sent := sent) (tl := tl) h4 q c hc
  simp only [haa]
  have hlen : (bc (p.drop 4)).length = p.length - 4 := by simp [bc]
  have hsz : (madeCells #[Value.int IntKind.u8 0] (p.length - 4)).size = p.length - 4 := by simp [madeCells]
  have hs1 : (Try.prog.info? 5).map (·.size) = some 1 := by rw [hi]; simp [hz1]
  have hmin : (bc (p.drop 4)).length = Nat.min (p.length - 4) (p.length - 4) := by rw [hlen]; exact (Nat.min_self _).symm
  co_opw (RowV.rely O) hG (have hcp := run_copy_cells (P := Try.prog) _ 25 25 3 5 r 0 (p.length - 4) (p.length - 4) aa (p.length - 4) (c - 4) (bc (p.drop 4)) un25 hs1 hmin (hsrc _ hG.b) (fun j hj => by simp [World.cell?, hG.row]; omega) (fun j hj => by simp [World.frozen?, hG.row]) (bc_one _))
   (refine db_cells O hG.own hG.row _ (by omega) (fun e he => ?_)
    have hm := mem_listed he
    rw [events_copy_op (.tmp 11) (.tmp 16) 25 25 rfl rfl rfl] at hm
    obtain ⟨ad, h1, h2⟩ := events_copy_where (P := Try.prog) _ 25 25 3 5 r 0 (p.length - 4) (p.length - 4) aa (p.length - 4) (c - 4) _ 5 (bc (p.drop 4)) un25 hs1 hmin (hsrc _ hG.b) hG.row (by omega) (bc_one _) e hm
    rcases Flat.copy _ _ _ _ _ e hm with h3 | h3
    · simp at h3
    · rw [flat_cell h3 h1]
      exact (hG.fill O (bc (p.drop 4)) (by omega)).evs (h2.imp (fun x => x.2.trans haq) id))
  replace hG := hG.fill O (bc (p.drop 4)) (by omega)
  clear hcp
  co_apply opsC_nil T
  co_then
  co_go T (RowV.rely O) hG (co_quiet T)
  exact ⟨rfl, _, resultsC_tmp (by rfl) _, r, rfl, hG⟩
end
end Go.Proofs.Ytkaapaepanhbgaa
