/- What the worker holds of the Cutter; the length that stands in its part. -/
import Derived.Test.YtlghcldiboecoaaGreatDoorQ28
import Derived.Conc.CompanyMem
import Derived.Laws.BitsAllLaws
import Derived.WalkKit
import Derived.WalkSpells
import Derived.WalkLawsBesides
import Derived.Handy
import Derived.Conc.CompanyDraw
set_option linter.unusedVariables false
set_option linter.unusedSimpArgs false
set_option maxRecDepth 100000
namespace Go.Proofs.YtlghcldiboecoaaGreatDoor.Cu
open Go Go.Conc Go.Pair Go.RowKit

def PartAt (E : EP) (sent : List (List UInt8 × Value)) (w : World) (p : List UInt8) (v : Value) : Prop :=
  (v = .slice none 0 0 ∧ p = []) ∨ ∃ q c cells, v = .slice (some ⟨q, 0, none⟩) p.length c ∧ p.length ≤ c ∧ w.heap[q]? = some (.cells cells 5) ∧ cells.size = c ∧ (∀ i (h : i < p.length), cells[i]? = some (.int .u8 (p[i].toNat : Int))) ∧
    (q = E.pb ∨ E.Low ≤ q) ∧ q ≠ E.R ∧ (∀ x ∈ sent, ∀ n m, x.2 ≠ .slice (some ⟨q, 0, none⟩) n m) ∧ c ≤ maxLen

/-- What was sent lies in rows of their own. -/
def Dis (sent : List (List UInt8 × Value)) : Prop := sent.Pairwise fun x y => x.2.ownBlock ≠ y.2.ownBlock

/-- The Cutter holds this part; it has met a length that is too great, or not. -/
structure BView (E : EP) (sent : List (List UInt8 × Value)) (p : List UInt8) (v : Value) (tl : Bool) (w : World) : Prop where
  r : w.heap[E.R]? = some (.cells #[v, .bool tl] 237)
  part : PartAt E sent w p v
  low : E.Low ≤ w.heap.size
  old : ∀ x ∈ sent, ∃ r n m, x.2 = .slice (some ⟨r, 0, none⟩) n m ∧ r < w.heap.size
  src : ∀ i o, E.Fix i = some o → w.heap[i]? = some o
  wg : WgAny 271 E.Wg w
  dis : Dis sent

section
variable {E : EP} {sent : List (List UInt8 × Value)} {p : List UInt8} {v : Value} {tl : Bool} {w w₁ : World} {k : Nat} {FB : List (List UInt8 × Value) → World → Prop} {PostA : List (List UInt8 × Value) → Goroutine → World → Prop}

theorem EP.Ok.src (O : E.Ok) (h : ∀ i o, E.Fix i = some o → w.heap[i]? = some o) (r : RB (E.cfg k FB PostA) w w₁) {i : Nat} {o : Obj} (e : E.Fix i = some o) : w₁.heap[i]? = some o := by
  have hs := O.fix i o e
  exact r.keep.keep _ _ (h i o e) ⟨hs.2.2.2.2.1, hs.2.2.2.2.2, hs.2.2.2.1, fun ⟨x, _⟩ => by have := hs.1; omega⟩

theorem BView.rely (O : E.Ok) (h : BView E sent p v tl w) (r : RB (E.cfg k FB PostA) w w₁) : BView E sent p v tl w₁ := by
  refine ⟨r.keep.keep _ _ h.r ⟨O.rg, O.rc, O.rv, fun ⟨x, _⟩ => by have := O.r; omega⟩, ?_, Nat.le_trans h.low r.keep.size, fun x hx => let ⟨b, n, m, h1, h2⟩ := h.old x hx; ⟨b, n, m, h1, Nat.lt_of_lt_of_le h2 r.keep.size⟩, fun i o e => O.src (h.src) r e, r.wg h.wg, h.dis⟩
  rcases h.part with h1 | ⟨q, c, cells, h1, h2, h3, h4, h5, h6, h7, h8⟩
  · exact .inl h1
  · refine .inr ⟨q, c, cells, h1, h2, r.keep.keep _ _ h3 ?_, h4, h5, h6, h7, h8⟩
    rcases h6 with rfl | h6
    · exact ⟨O.pg, O.pc, O.pv, fun ⟨x, _⟩ => by have := O.p; omega⟩
    · exact ⟨by have := O.g; omega, by have := O.c; omega, by have := O.v; omega, fun ⟨_, x⟩ => by simp [kindOf] at x⟩

theorem BView.c0 (h : BView E sent p v tl w) : w.cell? ⟨E.R, 0, none⟩ = some v := by simp [World.cell?, h.r]
theorem BView.c1 (h : BView E sent p v tl w) : w.cell? ⟨E.R, 1, none⟩ = some (.bool tl) := by simp [World.cell?, h.r]

theorem termsB (C : Cfg) (sent : List (C.β × Value)) : Terms (RB C) (DB C sent) := ⟨fun _ _ _ h k => h.trans k, fun w => ⟨.refl _ _, fun _ _ h => h, .refl _, rfl, rfl, by simp⟩⟩

/-- A step that reads places of the worker's. -/
theorem db_read {C : Cfg} {sent : List (C.β × Value)} {w : World} {es : Array Event} (h : ∀ e ∈ es, EvP C.LB w e) : DB C sent w w es := ⟨.refl _ _, fun _ _ h => h, .refl _, rfl, rfl, h⟩

theorem evR (h : BView E sent p v tl w) (i : Nat) : EvP (E.cfg k FB PostA).LB w ⟨.cell ⟨E.R, i, none⟩, false, false⟩ := .inr ⟨_, _, rfl, ⟨_, rfl, .inl (.inl rfl)⟩, lt_of_get h.r⟩

theorem BView.shape (h : BView E sent p v tl w) : ∃ a c, v = .slice a p.length c := by
  rcases h.part with ⟨rfl, rfl⟩ | ⟨q, c, cells, h1, _⟩
  · exact ⟨none, 0, rfl⟩
  · exact ⟨_, _, h1⟩

theorem BView.long (h : BView E sent p v tl w) (h0 : 0 < p.length) : ∃ q c, v = .slice (some ⟨q, 0, none⟩) p.length c ∧ p.length ≤ c ∧ c ≤ maxLen := by
  rcases h.part with ⟨rfl, rfl⟩ | ⟨q, c, cells, h1, h2, h3, h4, h5, h6, h7, h8, h9⟩
  · simp at h0
  · exact ⟨q, c, h1, h2, h9⟩

/-- A byte of the part. -/
theorem BView.byte {q c : Nat} (h : BView E sent p (.slice (some ⟨q, 0, none⟩) p.length c) tl w) (i : Nat) (hi : i < p.length) : w.cell? ⟨q, i, none⟩ = some (.int .u8 (p[i].toNat : Int)) := by
  rcases h.part with ⟨h1, rfl⟩ | ⟨q', c', cells, h1, h2, h3, h4, h5, _⟩
  · simp at hi
  · cases h1
    simp [World.cell?, h3, h5 i hi]

theorem BView.evQ {q c : Nat} (h : BView E sent p (.slice (some ⟨q, 0, none⟩) p.length c) tl w) (i : Nat) : EvP (E.cfg k FB PostA).LB w ⟨.cell ⟨q, i, none⟩, false, false⟩ := by
  rcases h.part with ⟨h1, rfl⟩ | ⟨q', c', cells, h1, h2, h3, h4, h5, h6, _⟩
  · cases h1
  · cases h1
    refine .inr ⟨_, _, rfl, ⟨_, rfl, ?_⟩, lt_of_get h3⟩
    rcases h6 with h6 | h6
    · exact .inl (.inr h6)
    · exact .inr (.inl ⟨h6, _, h3, rfl⟩)

def uns (l : List UInt8) : Nat := l.foldl (fun x c => x * 256 + c.toNat) 0
theorem uns_snoc (l : List UInt8) (k : Nat) (h : k < l.length) : uns (l.take (k + 1)) = uns (l.take k) * 256 + l[k].toNat := by
  rw [List.take_succ_eq_append_getElem h]
  unfold uns
  rw [List.foldl_append]
  rfl

theorem uns_lt : ∀ (l : List UInt8) (k : Nat), k ≤ l.length → uns (l.take k) < 256 ^ k
  | l, 0, _ => by simp [uns]
  | l, k + 1, h => by
    have := uns_lt l k (by omega)
    rw [uns_snoc l k (by omega), Nat.pow_succ]
    have := UInt8.toNat_lt l[k]
    omega

theorem or_byte (X c : Nat) (hX : X < 72057594037927936) (hc : c < 256) : bits .or .u64 ((X : Int) * 256) (c : Int) = ((X * 256 + c : Nat) : Int) := by
  have e : ((X : Int) * 256) = ((X * 256 : Nat) : Int) := by omega
  rw [e, u64_or_nat _ _ (by omega) (by omega)]
  have := Nat.shiftLeft_add_eq_or_of_lt (i := 8) (b := c) (by omega) X
  rw [Nat.shiftLeft_eq] at this
  rw [← this]

def UInv (E : EP) (sent : List (List UInt8 × Value)) (p : List UInt8) (q c c' : Nat) (tl : Bool) (a : Act) (w : World) : Prop :=
  ∃ (i : Nat) (v5 v9 v10 v11 v12 v13 v14 v15 v16 v17 : Value), i ≤ 4 ∧ BView E sent p (.slice (some ⟨q, 0, none⟩) p.length c) tl w ∧
    a = { tmps := #[.slice (some ⟨q, 0, none⟩) 4 c', undef, .int .u64 0, .int .u64 (uns (p.take i) : Int), undef, v5, .slice (some ⟨q, 0, none⟩) 4 c', .int .i64 4, .int .i64 (i : Int), v9, v10, v11, v12, v13, v14, v15, v16, v17, undef], defers := [] }

def UMu (a : Act) (_ : World) : Nat := match a.tmps.getD 8 undef with | .int _ j => 4 - j.toNat | _ => 0

set_option maxRecDepth 100000 in
set_option maxHeartbeats 1000000 in
theorem unsigned_c (O : E.Ok) (h4 : 4 ≤ p.length) : ∃ m, ∀ (q c c' : Nat) w, BView E sent p (.slice (some ⟨q, 0, none⟩) p.length c) tl w →
    CallsC Tryz.prog false (RB (E.cfg k FB PostA)) (DB (E.cfg k FB PostA) sent) 251 #[.slice (some ⟨q, 0, none⟩) 4 c'] m w fun x w' => x = .int .u64 (uns (p.take 4) : Int) ∧ BView E sent p (.slice (some ⟨q, 0, none⟩) p.length c) tl w' := by
  have T := termsB (E.cfg k FB PostA) sent
  co_apply Exists.intro
  intro q c c' w hF
  co_apply callsC_of_wpC Tryz.func251 (by rfl) rfl
  simp only [Tryz.ntmps251, List.size_toArray, List.length_cons, List.length_nil, Nat.reduceAdd, Nat.reduceSub, Array.replicate_succ, Array.replicate_zero, List.push_toArray, List.append_toArray, List.nil_append, List.cons_append]
  co_go T (BView.rely O) hF (co_quiet T)
  co_apply wpC_loop T (UInv E sent p q c c' tl) UMu _ 4
  · exact ⟨0, _, _, _, _, _, _, _, _, _, _, by omega, hF, rfl⟩
  · simp [UMu]
  · rintro a w' ⟨i, v5, v9, v10, v11, v12, v13, v14, v15, v16, v17, hi, hS, rfl⟩
    co_go T (BView.rely O) hS (co_quiet T)
    co_split T (decide ((i : Int) < 4))
    · intro hi4
      have hi4' : i < 4 := by have := of_decide_eq_true hi4; omega
      have hiz : (i : Int) < 4 := by omega
      have hsn := uns_snoc p i (by omega)
      have hlt := uns_lt p i (by omega)
      have hb := UInt8.toNat_lt p[i]
      co_ctl T
      co_then
      co_apply wpC_seq T
      co_apply wpC_block T
      co_apply wpC_seq T
      co_reg T
      co_opw (BView.rely O) hS (skip) (co_still T)
      co_opw (BView.rely O) hS (have hc := hS.byte i (by omega)) (refine db_read ?_; co_evs (exact hS.evQ i))
      clear hc
      co_op (BView.rely O) hS (co_quiet T)
      co_apply opsC_nil T
      co_then
      co_go T (BView.rely O) hS (co_quiet T)
      have hX : uns (p.take i) < 16777216 := Nat.lt_of_lt_of_le hlt (by
        have : 256 ^ i ≤ 256 ^ 3 := Nat.pow_le_pow_right (by omega) (by omega)
        exact this)
      have e1 : IntKind.u64.wrap ((uns (p.take i) : Int) * 256) = (uns (p.take i) : Int) * 256 := by rw [IntKind.wrap_u64]; omega
      have e2 : IntKind.u64.wrap ((p[i].toNat : Nat) : Int) = ((p[i].toNat : Nat) : Int) := by rw [IntKind.wrap_u64]; omega
      have e3 : IntKind.i64.wrap ((i : Int) + 1) = ((i + 1 : Nat) : Int) := by rw [IntKind.wrap_i64]; omega
      have e4 := or_byte (uns (p.take i)) p[i].toNat (by omega) hb
      rw [← hsn] at e4
      simp only [e1, e2, e3, e4]
      refine ⟨⟨i + 1, _, _, _, _, _, _, _, _, _, _, by omega, hS, rfl⟩, ?_⟩
      simp [UMu]
      omega
    · intro hi4
      obtain rfl : i = 4 := by have := of_decide_eq_false hi4; omega
      co_go T (BView.rely O) hS (co_quiet T)
      exact ⟨rfl, _, resultsC_tmp (by rfl) _, rfl, hS⟩

set_option maxRecDepth 100000 in
theorem length_short (O : E.Ok) (hp : p.length < 4) : ∃ m, ∀ v w, BView E sent p v tl w →
    CallsC Tryz.prog false (RB (E.cfg k FB PostA)) (DB (E.cfg k FB PostA) sent) 219 #[.pointer (some ⟨E.R, 0, none⟩)] m w fun x w' => x = .int .u64 0 ∧ BView E sent p v tl w' := by
  have T := termsB (E.cfg k FB PostA) sent
  co_apply Exists.intro
  intro v w hF
  obtain ⟨va, vc, rfl⟩ := hF.shape
  co_apply callsC_of_wpC Tryz.func219 (by rfl) rfl
  simp only [Tryz.ntmps219, List.size_toArray, List.length_cons, List.length_nil, Nat.reduceAdd, Nat.reduceSub, Array.replicate_succ, Array.replicate_zero, List.push_toArray, List.append_toArray, List.nil_append, List.cons_append]
  have hlt : ((p.length : Nat) : Int) < 4 := by omega
  co_stmt T (BView.rely O) hF (co_quiet T)
  co_apply wpC_seq (n₂ := 0) T
  co_apply wpC_seq T
  co_reg T
  co_op (BView.rely O) hF (co_quiet T)
  co_op (BView.rely O) hF (co_quiet T)
  co_op (BView.rely O) hF (co_quiet T)
  co_opw (BView.rely O) hF (have hc := hF.c0) (refine db_read ?_; co_evs (exact evR hF 0))
  co_op (BView.rely O) hF (co_quiet T)
  co_op (BView.rely O) hF (co_quiet T)
  co_apply opsC_nil T
  co_then
  co_apply wpC_cond T (t := true) rfl
  simp only [if_true]
  co_go T (BView.rely O) hF (co_quiet T)
  exact ⟨rfl, _, resultsC_tmp (by rfl) _, rfl, hF⟩

end
end Go.Proofs.YtlghcldiboecoaaGreatDoor.Cu

/- The Cutter's length, what is missing, in company. -/
set_option linter.unusedVariables false
set_option linter.unusedSimpArgs false
set_option maxRecDepth 100000
namespace Go.Proofs.YtlghcldiboecoaaGreatDoor.Cu
open Go Go.Conc Go.Pair Go.RowKit
theorem events_sl_h (w : World) (es : Array Event) (a : Option Addr) (len cap : Nat) (h : Int) (h0 : 0 ≤ h) (h1 : h ≤ cap) : (Instr.sliceAt 57 (.slice a len cap) none (some (.int .i64 h)) none).events Tryz.prog w es = es := by
  simp [Instr.sliceAt, Instr.slice, Instr.sliceBounds, Instr.sliceBound, asIntOf, go_sem, Tryz.runUnderlying57, h0, h1, Result.evThen]

theorem events_sl_l (w : World) (es : Array Event) (a : Option Addr) (len cap : Nat) (l : Int) (h0 : 0 ≤ l) (h1 : l ≤ len) : (Instr.sliceAt 57 (.slice a len cap) (some (.int .i64 l)) none none).events Tryz.prog w es = es := by
  simp [Instr.sliceAt, Instr.slice, Instr.sliceBounds, Instr.sliceBound, asIntOf, go_sem, Tryz.runUnderlying57, h0, h1, Result.evThen]

section
variable {E : EP} {sent : List (List UInt8 × Value)} {p : List UInt8} {v : Value} {tl : Bool} {w w₁ : World} {k : Nat} {FB : List (List UInt8 × Value) → World → Prop} {PostA : List (List UInt8 × Value) → Goroutine → World → Prop}

set_option maxRecDepth 100000 in
set_option maxHeartbeats 1000000 in
theorem length_long (O : E.Ok) (h4 : 4 ≤ p.length) : ∃ m, ∀ v w, BView E sent p v tl w →
    CallsC Tryz.prog false (RB (E.cfg k FB PostA)) (DB (E.cfg k FB PostA) sent) 219 #[.pointer (some ⟨E.R, 0, none⟩)] m w fun x w' => x = .int .u64 (uns (p.take 4) : Int) ∧ BView E sent p v tl w' := by
  have T := termsB (E.cfg k FB PostA) sent
  obtain ⟨nu, hu⟩ := unsigned_c (sent := sent) (tl := tl) (k := k) (FB := FB) (PostA := PostA) O h4
  co_apply Exists.intro
  intro v w hF
  obtain ⟨q, c, rfl, hc, hcm⟩ := hF.long (by omega)
  co_apply callsC_of_wpC Tryz.func219 (by rfl) rfl
  simp only [Tryz.ntmps219, List.size_toArray, List.length_cons, List.length_nil, Nat.reduceAdd, Nat.reduceSub, Array.replicate_succ, Array.replicate_zero, List.push_toArray, List.append_toArray, List.nil_append, List.cons_append]
  have hlt : ¬ ((p.length : Nat) : Int) < 4 := by omega
  have h4c : 4 ≤ c := by omega
  have h4z : (4 : Int) ≤ (c : Int) := by omega
  have hev := fun w es => events_sl_h w es (some ⟨q, 0, none⟩) p.length c 4 (by omega) h4z
  co_stmt T (BView.rely O) hF (co_quiet T)
  co_apply wpC_seq T
  co_apply wpC_seq T
  co_reg T
  co_op (BView.rely O) hF (co_quiet T)
  co_op (BView.rely O) hF (co_quiet T)
  co_op (BView.rely O) hF (co_quiet T)
  co_opw (BView.rely O) hF (have hc := hF.c0) (refine db_read ?_; co_evs (exact evR hF 0))
  clear hc
  co_op (BView.rely O) hF (co_quiet T)
  co_op (BView.rely O) hF (co_quiet T)
  co_apply opsC_nil T
  co_then
  co_apply wpC_cond T (t := false) rfl
  simp only [Bool.false_eq_true, if_false]
  co_ctl T
  co_then
  co_apply wpC_seq T
  co_reg T
  co_op (BView.rely O) hF (co_quiet T)
  co_op (BView.rely O) hF (co_quiet T)
  co_op (BView.rely O) hF (co_quiet T)
  co_opw (BView.rely O) hF (have hc := hF.c0) (refine db_read ?_; co_evs (exact evR hF 0))
  clear hc
  co_opw (BView.rely O) hF (skip) (co_still T)
  co_apply opsC_call T rfl (by rfl) rfl
  · walk_nrm
    exact hu q c c _ hF
  rintro x w' ⟨rfl, hF⟩
  walk_nrm
  co_op (BView.rely O) hF (co_quiet T)
  co_apply opsC_nil T
  co_then
  co_go T (BView.rely O) hF (co_quiet T)
  exact ⟨rfl, _, resultsC_tmp (by rfl) _, rfl, hF⟩

def lenOf (p : List UInt8) : Nat := if p.length < 4 then 0 else uns (p.take 4)
theorem length_any (O : E.Ok) : ∃ m, ∀ v w, BView E sent p v tl w →
    CallsC Tryz.prog false (RB (E.cfg k FB PostA)) (DB (E.cfg k FB PostA) sent) 219 #[.pointer (some ⟨E.R, 0, none⟩)] m w fun x w' => x = .int .u64 (lenOf p : Int) ∧ BView E sent p v tl w' := by
  unfold lenOf
  by_cases h : p.length < 4
  · simp only [if_pos h]; exact length_short O h
  · simp only [if_neg h]; exact length_long O (by omega)

end
end Go.Proofs.YtlghcldiboecoaaGreatDoor.Cu

/- A region that draws its order and bears a call inside, in company: the call by its contract. -/
set_option linter.unusedVariables false
set_option linter.unusedSimpArgs false
namespace Go.Pair
open Go Go.Conc
section
variable {P : Program} {main : Bool} {R : World → World → Prop} {D : World → World → Array Event → Prop} {fn : FuncId} {ops : Array Oper} {Q : Exit → Act → World → Prop} {md : Region.Mode} {S : World → Prop} {nf : Nat}

/-- Number i comes up: it yields, or it is a call that keeps a contract. -/
def OpM (P : Program) (main : Bool) (R : World → World → Prop) (D : World → World → Array Event → Prop) (fn : FuncId) (ops : Array Oper) (nf i : Nat) (K : Act → World → Prop) (a : Act) (w : World) : Prop :=
  OpC P R D fn ops i K a w ∨ ∃ o f args ats Post, ops[i]? = some o ∧ Region.wanted o (yielded ops a.tmps) = true ∧ o.op = .call { callee := .value (.func f), args := args, argTypes := ats } ∧
    CallsC P main R D f (args.map a.eval) nf w Post ∧ ∀ v w', Post v w' → K (a.put o.dst v) w'

theorem OpM.call {i : Nat} {a : Act} {w : World} {K : Act → World → Prop} {o : Oper} {f : FuncId} {args : Array Operand} {ats : Array TypeId} {Post : Value → World → Prop} (h1 : ops[i]? = some o) (h2 : Region.wanted o (yielded ops a.tmps) = true)
    (h3 : o.op = .call { callee := .value (.func f), args := args, argTypes := ats }) (h4 : CallsC P main R D f (args.map a.eval) nf w Post) (h5 : ∀ v w', Post v w' → K (a.put o.dst v) w') : OpM P main R D fn ops nf i K a w :=
  .inr ⟨o, f, args, ats, Post, h1, h2, h3, h4, h5⟩

theorem OpM.mono {i : Nat} {a : Act} {w : World} {K K' : Act → World → Prop} (h : ∀ a w, K a w → K' a w) (hh : OpM P main R D fn ops nf i K a w) : OpM P main R D fn ops nf i K' a w := by
  rcases hh with hh | ⟨o, f, args, ats, Post, h1, h2, h3, h4, h5⟩
  · exact .inl (OpC_mono h hh)
  · exact .inr ⟨o, f, args, ats, Post, h1, h2, h3, h4, fun v w' x => h _ _ (h5 v w' x)⟩

theorem OpM.goesOn (T : Terms R D) {i : Nat} {rest : List Nat} {n : Nat} {a : Act} {w : World} (h : OpM P main R D fn ops nf i (fun a' w' => OpsC P main R D fn ops rest n Q a' w') a w) : OpsC P main R D fn ops (i :: rest) (n + nf + 3) Q a w := by
  rcases h with h | ⟨o, f, args, ats, Post, h1, h2, h3, h4, h5⟩
  · exact opsC_more (opsC_of_opC T h) (by omega)
  · exact opsC_call T h1 h2 h3 h4 h5

theorem opC_rely (T : Terms R D) {i : Nat} {a : Act} {w w₁ : World} {K : Act → World → Prop} (hK : ∀ a x y, K a x → R x y → K a y) (h : OpC P R D fn ops i K a w) (r : R w w₁) : OpC P R D fn ops i K a w₁ := by
  unfold OpC at *
  cases ho : ops[i]? with
  | none => simp [ho] at h
  | some o =>
    simp only [ho] at h ⊢
    by_cases hw : Region.wanted o (yielded ops a.tmps) = true
    · simp only [hw, if_true] at h ⊢
      exact fun w₂ h₂ => h w₂ (T.trans _ _ _ r h₂)
    · simp only [hw, if_false] at h ⊢
      exact hK _ _ _ h r

theorem callsC_rely (T : Terms R D) {f n : Nat} {vs : Array Value} {w w₁ : World} {Post : Value → World → Prop} (h : CallsC P main R D f vs n w Post) (r : R w w₁) : CallsC P main R D f vs n w₁ Post := by
  obtain ⟨fn, c, h1, h2, h3, h4⟩ := h
  exact ⟨fn, c, h1, h2, h3, wpC_rely T h4 r⟩

theorem OpM.rely (T : Terms R D) {i : Nat} {a : Act} {w w₁ : World} {K : Act → World → Prop} (hK : ∀ a x y, K a x → R x y → K a y) (h : OpM P main R D fn ops nf i K a w) (r : R w w₁) : OpM P main R D fn ops nf i K a w₁ := by
  rcases h with h | ⟨o, f, args, ats, Post, h1, h2, h3, h4, h5⟩
  · exact .inl (opC_rely T hK h r)
  · exact .inr ⟨o, f, args, ats, Post, h1, h2, h3, callsC_rely T h4 r, h5⟩

/-- Whatever order is picked from here on; S holds behind every operation. -/
def AnyM (P : Program) (main : Bool) (R : World → World → Prop) (D : World → World → Array Event → Prop) (fn : FuncId) (md : Region.Mode) (ops : Array Oper) (Q : Exit → Act → World → Prop) (S : World → Prop) (nf : Nat) : Nat → Array Bool → Act → World → Prop
  | 0, done, a, w => Region.ready md ops done = [] ∧ Q .normal a w
  | fuel + 1, done, a, w => (Region.ready md ops done = [] → Q .normal a w) ∧
    ∀ i ∈ Region.ready md ops done, OpM P main R D fn ops nf i (fun a' w' => S w' ∧ AnyM P main R D fn md ops Q S nf fuel (done.setIfInBounds i true) a' w') a w

theorem AnyM.rely (T : Terms R D) (hSR : ∀ x y, S x → R x y → S y) (hQR : ∀ a x y, Q .normal a x → R x y → Q .normal a y) :
    ∀ (fuel : Nat) (done : Array Bool) (a : Act) (w w₁ : World), AnyM P main R D fn md ops Q S nf fuel done a w → R w w₁ → AnyM P main R D fn md ops Q S nf fuel done a w₁
  | 0, _, _, _, _, h, r => ⟨h.1, hQR _ _ _ h.2 r⟩
  | fuel + 1, _, _, _, _, h, r => ⟨fun e => hQR _ _ _ (h.1 e) r, fun i hi => (h.2 i hi).rely T (fun a x y k r' => ⟨hSR _ _ k.1 r', AnyM.rely T hSR hQR fuel _ a x y k.2 r'⟩) r⟩

theorem AnyM.sound (T : Terms R D) : ∀ (fuel t : Nat) (done : Array Bool) (a : Act) (w : World), AnyM P main R D fn md ops Q S nf fuel done a w →
    OpsC P main R D fn ops (Region.linearise.go md ops fuel t done []) (fuel * (nf + 3) + 1) Q a w := by
  intro fuel
  induction fuel with
  | zero => intro t done a w h; simpa [Region.linearise.go] using opsC_nil T h.2
  | succ fuel ih =>
    intro t done a w h
    obtain ⟨h₀, h₁⟩ := h
    simp only [Region.linearise.go]
    change OpsC P main R D fn ops (match (Region.ready md ops done)[t % (Region.ready md ops done).length]? with
      | some i => Region.linearise.go md ops fuel (t / (Region.ready md ops done).length) (done.setIfInBounds i true) [i]
      | none => [].reverse) _ Q a w
    have en : (fuel + 1) * (nf + 3) + 1 = (fuel * (nf + 3) + 1) + nf + 3 := by rw [Nat.succ_mul]; omega
    cases hi : (Region.ready md ops done)[t % (Region.ready md ops done).length]? with
    | none =>
      have hnil : Region.ready md ops done = [] := by
        cases hr : Region.ready md ops done with
        | nil => rfl
        | cons x xs =>
          rw [hr, List.getElem?_eq_none_iff] at hi
          exact absurd (Nat.mod_lt t (by simp : (x :: xs).length > 0)) (by omega)
      exact opsC_more (by simpa using opsC_nil T (h₀ hnil)) (by omega)
    | some i =>
      simp only []
      rw [linearise_go_acc, List.reverse_singleton, List.singleton_append, en]
      exact OpM.goesOn T ((h₁ i (List.mem_of_getElem? hi)).mono fun a' w' x => ih _ _ a' w' x.2)

theorem eval_args_put {oj : Oper} {f : FuncId} {args : Array Operand} {ats : Array TypeId} {a : Act} {dst : Option Tmp} {v : Value} (hop : oj.op = .call { callee := .value (.func f), args := args, argTypes := ats })
    (h : ∀ d, dst = some d → d ∉ oj.looksAt ops) : args.map (a.put dst v).eval = args.map a.eval :=
  Array.map_congr_left fun x hx => Act.eval_put fun d hd hxd => h d hd (by
    subst hxd
    refine List.mem_append_left _ (List.mem_filterMap.2 ⟨.tmp d, ?_, rfl⟩)
    simp [hop, Op.operands, Call.operands, hx])

/-- Whether oi's value stands already makes no difference to a number apart from it. -/
theorem OpM.putIf {j : Nat} {oi oj : Oper} {v : Value} (hj : ops[j]? = some oj) (hap : oi.apart ops oj = true)
    (hsi : ∀ cs b, oi.op ≠ .select cs b) (hsj : ∀ cs b, oj.op ≠ .select cs b) {K : Act → World → Prop} {a : Act} {w : World}
    (hy : YieldsIfC P D fn ops S oi v a) (h : OpM P main R D fn ops nf j K (a.put oi.dst v) w) :
    OpM P main R D fn ops nf j (fun a' w' => YieldsIfC P D fn ops S oi v a' ∧ K (a'.put oi.dst v) w') a w := by
  rcases h with h | ⟨o, f, args, ats, Post, h1, h2, h3, h4, h5⟩
  · exact .inl (OpC_putIf hj hap hsi hsj hy h)
  · obtain ⟨g1, g2, g3⟩ := Oper.apart_spec hap
    obtain rfl : oj = o := Option.some.inj (hj.symm.trans h1)
    rw [wanted_put oj a oi.dst v g1] at h2
    rw [eval_args_put h3 g1] at h4
    refine .inr ⟨oj, f, args, ats, Post, h1, h2, h3, h4, fun x w' hx => ⟨hy.of_same (execOp_put oi hsi a oj.dst x g3) (wanted_put oi a oj.dst x g3), ?_⟩⟩
    rw [← Act.put_comm a v x g2]
    exact h5 x w' hx

theorem AnyM.first (T : Terms R D) (hSR : ∀ x y, S x → R x y → S y) (hQR : ∀ a x y, Q .normal a x → R x y → Q .normal a y) {i : Nat} {oi : Oper} {v : Value} (hi : ops[i]? = some oi)
    (hsel : ∀ (j : Nat) (o : Oper) cs b, ops[j]? = some o → o.op ≠ .select cs b) :
    ∀ (fuel : Nat) (done : Array Bool) (a : Act) (w : World),
      (∀ j oj, ops[j]? = some oj → j ≠ i → done.getD j true = false → (∀ e ∈ oj.after, Region.binds md e = true → e.on ≠ i) → oi.apart ops oj = true) →
      i ∈ Region.ready md ops done → YieldsIfC P D fn ops S oi v a → S w →
      AnyM P main R D fn md ops Q S nf fuel (done.setIfInBounds i true) (a.put oi.dst v) w → AnyM P main R D fn md ops Q S nf (fuel + 1) done a w := by
  have hK : ∀ fuel done, ∀ a x y, (S x ∧ AnyM P main R D fn md ops Q S nf fuel done a x) → R x y → (S y ∧ AnyM P main R D fn md ops Q S nf fuel done a y) :=
    fun fuel done a x y h r => ⟨hSR _ _ h.1 r, AnyM.rely T hSR hQR fuel done a x y h.2 r⟩
  intro fuel
  induction fuel with
  | zero =>
    intro done a w _ hr hy hS H
    refine ⟨fun h => (by rw [h] at hr; cases hr), fun j hj => ?_⟩
    by_cases hji : j = i
    · subst hji; exact .inl (hy.opC hSR hi (hK _ _) hS ⟨hS, H⟩)
    · have := ready_mono hj hji
      rw [H.1] at this
      cases this
  | succ fuel ih =>
    intro done a w hfree hr hy hS H
    refine ⟨fun h => (by rw [h] at hr; cases hr), fun j hj => ?_⟩
    by_cases hji : j = i
    · subst hji; exact .inl (hy.opC hSR hi (hK _ _) hS ⟨hS, H⟩)
    · have h1 := H.2 j (ready_mono hj hji)
      obtain ⟨hjun, oj, hoj, hall⟩ := mem_ready.1 hj
      have hnot : ∀ e ∈ oj.after, Region.binds md e = true → e.on ≠ i := fun e he hb heq => by
        have h1 := hall e he hb
        have h0 := (mem_ready.1 hr).1
        rw [heq] at h1
        rcases Nat.lt_or_ge i done.size with h' | h'
        · simp [h'] at h0 h1; rw [h0] at h1; cases h1
        · simp [Array.getElem?_eq_none h'] at h1
      have h2 := OpM.putIf hoj (hfree j oj hoj hji hjun hnot) (fun cs b => hsel i oi cs b hi) (fun cs b => hsel j oj cs b hoj) hy h1
      refine h2.mono fun a' w' h3 => ⟨h3.2.1, ih (done.setIfInBounds j true) a' w' (fun k ok hk hki hun hno => hfree k ok hk hki ?_ hno) (ready_mono hr (Ne.symm hji)) h3.1 h3.2.1 ?_⟩
      · by_cases hjk : j = k
        · subst hjk; exact hjun
        · rw [getD_set_ne true hjk] at hun; exact hun
      · rw [Array.setIfInBounds_comm _ _ hji]
        exact h3.2.2

/-- Take number i first. -/
theorem AnyM.take (T : Terms R D) (hSR : ∀ x y, S x → R x y → S y) (hQR : ∀ a x y, Q .normal a x → R x y → Q .normal a y) {i : Nat} {oi : Oper} {v : Value} {fuel : Nat} {done : Array Bool} {a : Act} {w : World} (hi : ops[i]? = some oi)
    (hs : Region.noSelect ops = true) (hf : Region.free md ops done i = true) (hr : (Region.ready md ops done).contains i = true)
    (hy : YieldsIfC P D fn ops S oi v a) (hS : S w) (h : AnyM P main R D fn md ops Q S nf fuel (done.setIfInBounds i true) (a.put oi.dst v) w) : AnyM P main R D fn md ops Q S nf (fuel + 1) done a w :=
  AnyM.first T hSR hQR hi (Region.noSelect_spec hs) fuel done a w (Region.free_spec hi hf) (by simpa using hr) hy hS h

/-- Only number i may come up. -/
theorem AnyM.only {i : Nat} {fuel : Nat} {done : Array Bool} {a : Act} {w : World} (hr : Region.ready md ops done = [i])
    (h : OpM P main R D fn ops nf i (fun a' w' => S w' ∧ AnyM P main R D fn md ops Q S nf fuel (done.setIfInBounds i true) a' w') a w) : AnyM P main R D fn md ops Q S nf (fuel + 1) done a w :=
  ⟨fun h0 => (by rw [hr] at h0; cases h0), fun j hj => by rw [hr] at hj; simp at hj; subst hj; exact h⟩

theorem AnyM.all {done : Array Bool} {a : Act} {w : World} (hr : Region.ready md ops done = []) (h : Q .normal a w) : ∀ fuel, AnyM P main R D fn md ops Q S nf fuel done a w
  | 0 => ⟨hr, h⟩
  | _ + 1 => ⟨fun _ => h, fun i hi => by rw [hr] at hi; cases hi⟩

theorem wpC_region_m (T : Terms R D) (hd : LetsDraw D) {id : Nat} {a : Act} {w : World} (hm : P.follows .mixedOrders = true)
    (h : ∀ w₁, R w w₁ → AnyM P main R D fn .any ops Q S nf ops.size (Array.replicate ops.size false) a { w₁ with drawn := w₁.drawn + 1 }) : (Code.region id ops true).wpC P main R D fn (ops.size * (nf + 3) + 1 + 1) Q a w :=
  wpC_region_draw hd fun w₁ h₁ t => by
    simp only [Region.schedule, hm, Bool.true_or, if_true]
    exact AnyM.sound T ops.size t _ a _ (h w₁ h₁)

end
end Go.Pair
