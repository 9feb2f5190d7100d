/- append onto the part, in company. -/
import Derived.Test.YtkaapaepanhbgaaCBody
set_option linter.unusedVariables false
set_option linter.unusedSimpArgs false
namespace Go.Proofs.Ytkaapaepanhbgaa
open Go Go.Conc Go.Pair Go.RowKit

/-- The Cutter still holds v; the part to come is v'. -/
structure AView (E : EP) (sent : List (List UInt8 × Value)) (p : List UInt8) (v' : Value) (tl : Bool) (v : Value) (w : World) : Prop where
  r : w.heap[E.R]? = some (.cells #[v, .bool tl] 44)
  part : PartAt E sent w p v'
  low : E.Low ≤ w.heap.size
  old : ∀ x ∈ sent, ∃ r n m, x.2 = .slice (some ⟨r, 0, none⟩) n m ∧ r < w.heap.size
  src : ∀ i o, E.Fix i = some o → w.heap[i]? = some o
  wg : WgAny 58 E.Wg w

section
variable {E : EP} {sent : List (List UInt8 × Value)} {p : List UInt8} {v : Value} {tl : Bool} {w w' w₁ : World} {k : Nat} {FB : List (List UInt8 × Value) → World → Prop} {PostA : List (List UInt8 × Value) → Goroutine → World → Prop}

theorem PartAt.rely (O : E.Ok) (h : PartAt E sent w p v) (r : RB (E.cfg k FB PostA) w w₁) : PartAt E sent w₁ p v := by
  rcases h with h1 | ⟨q, c, cells, h1, h2, h3, h4, h5, h6, h7, h8⟩
  · exact .inl h1
  · refine .inr ⟨q, c, cells, h1, h2, r.keep.keep _ _ h3 ?_, h4, h5, h6, h7, h8⟩
    rcases h6 with rfl | h6
    · exact ⟨O.pg, O.pc, O.pv, fun ⟨x, _⟩ => by have := O.p; omega⟩
    · exact ⟨by have := O.g; omega, by have := O.c; omega, by have := O.v; omega, fun ⟨_, x⟩ => by simp [kindOf] at x⟩
theorem AView.rely (O : E.Ok) {v' : Value} (h : AView E sent p v' tl v w) (r : RB (E.cfg k FB PostA) w w₁) : AView E sent p v' tl v w₁ :=
  ⟨r.keep.keep _ _ h.r ⟨O.rg, O.rc, O.rv, fun ⟨x, _⟩ => by have := O.r; omega⟩, h.part.rely O r, Nat.le_trans h.low r.keep.size, fun x hx => let ⟨b, n, m, h1, h2⟩ := h.old x hx; ⟨b, n, m, h1, Nat.lt_of_lt_of_le h2 r.keep.size⟩, fun i o e => O.src (h.src) r e, r.wg h.wg⟩

theorem bc_len (b : List UInt8) : (bc b).length = b.length := by simp [bc]
theorem bc_get (b : List UInt8) (i : Nat) (h : i < b.length) : (bc b)[i]? = some (.int .u8 (b[i].toNat : Int)) := by simp [bc, h]
theorem bc_app (a b : List UInt8) : bc (a ++ b) = bc a ++ bc b := by simp [bc]

/-- The part as a row. -/
theorem PartAt.row (h : PartAt E sent w p v) : w.ownsRow 0 5 1 v p.length (bc p) := by
  refine ⟨by simp [bc], ?_⟩
  rcases h with ⟨h1, h2⟩ | ⟨q, c, cells, h1, h2, h3, h4, h5, h6, h7, h8, h9⟩
  · exact .inl ⟨h1, by simp [h2]⟩
  · refine .inr ⟨q, c, cells, h1, Nat.zero_le _, h3, h2, h9, by omega, ?_⟩
    apply List.ext_getElem?
    intro i
    by_cases hi : i < p.length
    · rw [List.getElem?_take_of_lt (by omega), bc_get p i hi]
      have := h5 i hi
      simpa using this
    · rw [List.getElem?_eq_none (by simp; omega), List.getElem?_eq_none (by simp [bc]; omega)]

/-- A row that begins with these bytes, as a part. -/
theorem part_new {g c : Nat} {Z : List Value} (hg : w.heap[g]? = some (.cells (bc p ++ Z).toArray 5)) (hc : p.length + Z.length = c) (hm : c ≤ maxLen) (h6 : g = E.pb ∨ E.Low ≤ g) (h7 : g ≠ E.R) (h8 : ∀ x ∈ sent, ∀ n m, x.2 ≠ .slice (some ⟨g, 0, none⟩) n m) :
    PartAt E sent w p (.slice (some ⟨g, 0, none⟩) p.length c) := by
  refine .inr ⟨g, c, _, rfl, by omega, hg, by simp [bc]; omega, fun i hi => ?_, h6, h7, h8, hm⟩
  have : i < (bc p).length := by rw [bc_len]; exact hi
  simp only [List.getElem?_toArray]
  rw [List.getElem?_append_left this]
  exact bc_get p i hi

theorem app_evs {a : Addr} {m c : Nat} {news : List UInt8} (h : PartAt E sent w p v) (hl : news.length = m) (hsrc : ∀ (j : Nat) (u : Value), (bc news)[j]? = some u → w.cell? (a.add j) = some u) (hst : ∀ ad : Addr, ad.block = a.block → E.still ad) (hlt : a.block < w.heap.size)
    (hbig : p.length + m ≤ 4294967296) (hsz : w.heap.size ≤ w'.heap.size) (hk : ∀ q, v.ownBlock = some q → (q = E.pb ∨ (E.Low ≤ q ∧ kindAt w' q 5)) ∧ q < w'.heap.size) :
    ∀ e ∈ (Builtin.append_ #[25, 25] 25 #[v, .slice (some a) m c]).events Try.prog w #[], EvP (E.cfg k FB PostA).LB w' e := by
  intro e he
  obtain ⟨i0, hi, hz0, hz1, hz2⟩ := info5
  rcases events_append_where (P := Try.prog) w 0 25 25 5 i0 (.int .u8 0) 1 1 un25 hi hz0 hz1 hz2 v p.length (bc p) h.row a m c (bc news) (by simp [bc, hl]) hsrc (bc_one _) (by simp only [maxLen]; omega) (by omega) e he with ⟨ad, h1, h2⟩ | ⟨mk, h1, h2⟩
  · rcases Flat.append _ _ _ _ _ e he with h3 | h3
    · simp at h3
    · rw [flat_cell h3 h1]
      rcases h2 with ⟨h4, h5⟩ | h5
      · rw [h4]
        exact .inr ⟨_, _, rfl, ⟨_, rfl, .inr (.inr ⟨rfl, hst ad h5⟩)⟩, by rw [h5]; omega⟩
      · obtain ⟨h6, h7⟩ := hk _ h5.symm
        exact .inr ⟨_, _, rfl, ⟨_, rfl, h6.elim (fun x => .inl (.inr x)) fun x => .inr (.inl x)⟩, h7⟩
  · exact .inl ⟨mk, by rw [h1], h2⟩

theorem push_old {o : Obj} (hh : w'.heap = w.heap.push o) {i : Nat} (hi : i < w.heap.size) : w'.heap[i]? = w.heap[i]? := by
  rw [hh, Array.getElem?_push, if_neg (by omega)]
theorem push_new {o : Obj} (hh : w'.heap = w.heap.push o) : w'.heap[w.heap.size]? = some o := by
  rw [hh, Array.getElem?_push, if_pos rfl]

theorem db_push (O : E.Ok) (hl : E.Low ≤ w.heap.size) {o : Obj} (hh : w'.heap = w.heap.push o) (ht : w'.tape = w.tape ∧ w'.os = w.os ∧ w'.output = w.output) {es : Array Event} (he : ∀ e ∈ es, EvP (E.cfg k FB PostA).LB w' e) : DB (E.cfg k FB PostA) sent w w' es := by
  have sz : w.heap.size ≤ w'.heap.size := by rw [hh, Array.size_push]; omega
  have old : ∀ i x, w.heap[i]? = some x → w'.heap[i]? = some x := fun i x h => by rw [push_old hh (lt_of_get h)]; exact h
  exact ⟨⟨ht.1, ht.2.1, ht.2.2, sz, fun i x h _ => old i x h⟩, fun x _ ⟨r, h1, h2, h3⟩ => ⟨r, h1, h2, old r _ h3⟩, ⟨sz, fun i x h => ⟨x, old i x h, rfl⟩⟩, push_old hh (Nat.lt_of_lt_of_le O.g hl), push_old hh (Nat.lt_of_lt_of_le O.c hl), he⟩

/-- It grew: a new row. -/
theorem app_grown (O : E.Ok) (hF : BView E sent p v tl w) {b : List UInt8} {Z : List Value} {c : Nat} (hh : w'.heap = w.heap.push (.cells (bc b ++ Z).toArray 5)) (ht : w'.tape = w.tape ∧ w'.os = w.os ∧ w'.output = w.output) (hc : b.length + Z.length = c) (hm : c ≤ maxLen) :
    AView E sent b (.slice (some ⟨w.heap.size, 0, none⟩) b.length c) tl v w' := by
  have sz : w'.heap.size = w.heap.size + 1 := by rw [hh, Array.size_push]
  have := hF.low
  have := O.r
  refine ⟨by rw [push_old hh (by omega)]; exact hF.r, part_new (push_new hh) hc hm (.inr hF.low) (by omega) (fun x hx n m e => ?_), by omega, fun x hx => let ⟨b, n, m, h1, h2⟩ := hF.old x hx; ⟨b, n, m, h1, by omega⟩, fun i o e => by rw [push_old hh (lt_of_get (hF.src i o e))]; exact hF.src i o e, let ⟨st, sm, x⟩ := hF.wg; ⟨st, sm, by unfold WgIs; rw [push_old hh (lt_of_get x)]; exact x⟩⟩
  obtain ⟨b', n', m', h1, h2⟩ := hF.old x hx
  rw [h1] at e
  cases e
  omega

theorem own_kind (h : PartAt E sent w p v) {q : Nat} (e : v.ownBlock = some q) : (q = E.pb ∨ (E.Low ≤ q ∧ kindAt w q 5)) ∧ q < w.heap.size ∧ (∀ x ∈ sent, ∀ n m, x.2 ≠ .slice (some ⟨q, 0, none⟩) n m) ∧ q ≠ E.R := by
  rcases h with ⟨rfl, _⟩ | ⟨q', c, cells, rfl, h2, h3, h4, h5, h6, h7, h8, h9⟩
  · simp [Value.ownBlock] at e
  · simp [Value.ownBlock] at e
    subst e
    exact ⟨h6.imp id fun x => ⟨x, _, h3, rfl⟩, lt_of_get h3, h8, h7⟩

theorem app_arr (l : List Value) (Z : Array Value) : l.toArray ++ Z = (l ++ Z.toList).toArray := by
  apply Array.ext'
  simp

/-- append onto the part. -/
theorem append_c (O : E.Ok) (hF : BView E sent p v tl w) {a : Addr} {m c : Nat} {news : List UInt8} (hl : news.length = m) (hm : 0 < m) (hsrc : ∀ (j : Nat) (u : Value), (bc news)[j]? = some u → w.cell? (a.add j) = some u)
    (hst : ∀ ad : Addr, ad.block = a.block → E.still ad) (hlt : a.block < w.heap.size) (hbig : p.length + m ≤ 4294967296) :
    ∃ v' w', (Builtin.append_ #[25, 25] 25 #[v, .slice (some a) m c]).run Try.prog w = .ok v' w' ∧ AView E sent (p ++ news) v' tl v w' ∧
      ∀ es : Array Event, (∀ e ∈ es, e ∈ (Builtin.append_ #[25, 25] 25 #[v, .slice (some a) m c]).events Try.prog w #[]) → DB (E.cfg k FB PostA) sent w w' es := by
  obtain ⟨i0, hi, hz0, hz1, hz2⟩ := info5
  have hlen : (bc news).length = m * i0.size := by rw [bc_len, hz1, hl]; omega
  have hpl : (p ++ news).length = p.length + m := by simp [hl]
  have hmax : p.length + m ≤ maxLen := by simp only [maxLen]; omega
  have hgrow : ∀ (old : Nat) (cs : Array Value), cs = (bc (p ++ news)).toArray ++ Builtin.zeroCells (Value.int .u8 0).cells (grownCap w (p.length + m) old 5 - (p.length + m)) →
      (Builtin.append_ #[25, 25] 25 #[v, .slice (some a) m c]).run Try.prog w = .ok (.slice (some ⟨w.heap.size, 0, none⟩) (p.length + m) (grownCap w (p.length + m) old 5)) (w.drew.alloc (.cells cs 5)) →
      ∃ v' w', (Builtin.append_ #[25, 25] 25 #[v, .slice (some a) m c]).run Try.prog w = .ok v' w' ∧ AView E sent (p ++ news) v' tl v w' ∧
      ∀ es : Array Event, (∀ e ∈ es, e ∈ (Builtin.append_ #[25, 25] 25 #[v, .slice (some a) m c]).events Try.prog w #[]) → DB (E.cfg k FB PostA) sent w w' es := by
    intro old cs hcs hr
    have hge := grownCap_ge w (p.length + m) old 5
    have hle := grownCap_le_maxLen w (p.length + m) old 5 hmax
    have hh : (w.drew.alloc (.cells cs 5)).heap = w.heap.push (.cells (bc (p ++ news) ++ (Builtin.zeroCells (Value.int .u8 0).cells (grownCap w (p.length + m) old 5 - (p.length + m))).toList).toArray 5) := by
      rw [hcs]
      show w.heap.push _ = _
      rw [app_arr]
    have hZ : (Builtin.zeroCells (Value.int .u8 0).cells (grownCap w (p.length + m) old 5 - (p.length + m))).toList.length = grownCap w (p.length + m) old 5 - (p.length + m) := by
      rw [Array.length_toList, size_zeroCells]
      show _ * 1 = _
      omega
    have hA := app_grown O hF (c := grownCap w (p.length + m) old 5) hh ⟨rfl, rfl, rfl⟩ (by rw [hpl, hZ]; omega) hle
    rw [hpl] at hA
    refine ⟨_, _, hr, hA, fun es hes => db_push O hF.low hh ⟨rfl, rfl, rfl⟩ fun e he => app_evs hF.part hl hsrc hst hlt hbig (by rw [hh, Array.size_push]; omega) (fun q hq => ?_) e (hes e he)⟩
    obtain ⟨h1, h2, h3, _⟩ := own_kind hF.part hq
    refine ⟨h1.imp id fun ⟨x, o, y, z⟩ => ⟨x, o, by rw [push_old hh h2]; exact y, z⟩, by rw [hh, Array.size_push]; omega⟩
  rcases hF.part with ⟨rfl, rfl⟩ | ⟨q, c', cells, rfl, h2, h3, h4, h5, h6, h7, h8, h9⟩
  · have hr := run_append_nil (P := Try.prog) w 25 25 5 i0 (.int .u8 0) un25 hi hz0 a m c (bc news) hlen hsrc hm (by omega) (by rw [hz2]; simp at hbig; omega)
    refine hgrow 0 _ rfl ?_
    simp only [List.length_nil, Nat.zero_add, List.nil_append]
    exact hr
  · have hrow := hF.part.row
    have htake : cells.toList.take p.length = bc p := by
      rcases hrow.2 with ⟨x, _⟩ | ⟨g, cap, cur, e1, _, e2, _, _, _, e3⟩
      · cases x
      · cases e1
        rw [h3] at e2
        cases e2
        simpa using e3
    by_cases hroom : p.length + m ≤ c'
    · have hr := run_append_room (P := Try.prog) w 25 25 5 i0 un25 hi q p.length c' cells h3 a m c (bc news) hlen hsrc (bc_one _) hroom (by rw [hlen, hz1]; omega)
      rw [hz1, Nat.mul_one, htake, ← bc_app] at hr
      have hg := setRow_heap w q cells (bc (p ++ news) ++ cells.toList.drop (p.length + (bc news).length)).toArray 5 (0, 0) h3
      have oth := fun i (hi : i ≠ q) => setRow_other w q i (bc (p ++ news) ++ cells.toList.drop (p.length + (bc news).length)).toArray hi
      have sz : (w.setRow q (bc (p ++ news) ++ cells.toList.drop (p.length + (bc news).length)).toArray).heap.size = w.heap.size := by simp [World.setRow]
      have hP := part_new (E := E) (sent := sent) (c := c') hg (by have : cells.toList.length = cells.size := Array.length_toList; rw [hpl, List.length_drop, bc_len, hl, this]; omega) h9 h6 h7 h8
      rw [hpl] at hP
      refine ⟨_, _, hr, ⟨by rw [oth _ (Ne.symm h7)]; exact hF.r, hP, by rw [sz]; exact hF.low, fun x hx => by rw [sz]; exact hF.old x hx, fun i o e => by rw [oth i (by have hs := O.fix i o e; rcases h6 with h6 | h6; exact fun x => hs.2.2.1 (x.trans h6); have := hs.1; omega)]; exact hF.src i o e, let ⟨st, sm, x⟩ := hF.wg; ⟨st, sm, by unfold WgIs; rw [oth _ (by rcases h6 with h6 | h6; exact fun y => O.pg (h6.symm.trans y.symm); have := O.g; omega)]; exact x⟩⟩, fun es hes => ?_⟩
      refine db_row (w' := w.setRow q (bc (p ++ news) ++ cells.toList.drop (p.length + (bc news).length)).toArray) O ⟨.inr (h6.imp id fun x => ⟨x, _, h3, rfl⟩), h8⟩ ⟨rfl, rfl, rfl⟩ sz oth (fun o ho => ?_) fun e he => app_evs hF.part hl hsrc hst hlt hbig (by rw [sz]; exact Nat.le_refl _) (fun q' hq' => ?_) e (hes e he)
      · rw [h3] at ho
        cases ho
        exact ⟨_, hg, rfl⟩
      · simp [Value.ownBlock] at hq'
        subst hq'
        exact ⟨h6.imp id fun x => ⟨x, _, hg, rfl⟩, by rw [sz]; exact lt_of_get h3⟩
    · have holds : ∀ (j : Nat) (u : Value), (bc p)[j]? = some u → w.cell? ((⟨q, 0, none⟩ : Addr).add j) = some u := hrow.cells (g := q) rfl
      refine hgrow c' _ ?_ (run_append_grow (P := Try.prog) w 25 25 5 i0 (.int .u8 0) un25 hi hz0 ⟨q, 0, none⟩ p.length c' (bc p) (by rw [bc_len, hz1]; omega) holds a m c (bc news) hlen hsrc (by omega) (by omega) ?_)
      · simp [bc_app]
      · have := growslice_fits (need := p.length + m) (old := c') (bytes := i0.bytes) (by omega) (by rw [hz2]; omega)
        omega
end
end Go.Proofs.Ytkaapaepanhbgaa
