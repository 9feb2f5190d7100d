/- told: NewReader, pick, and what its loop holds. -/
import Derived.Test.YtkaapaepanhbgaaCSeq
set_option linter.unusedVariables false
set_option linter.unusedSimpArgs false
namespace Go.Proofs.Ytkaapaepanhbgaa
open Go Go.Conc Go.Pair Go.RowKit

section
variable {Shun : Loc → Prop} {w w0 w' w₁ : World} {os : List Obj}

set_option maxRecDepth 100000 in
set_option maxHeartbeats 1000000 in
theorem newReader_c : ∃ m, ∀ w0 os w, PV w0 os w → CallsC Try.prog true AtRel (DS Shun) 8 #[] m w fun x w' => x = .pointer (some ⟨w0.heap.size + os.length, 0, none⟩) ∧ PV w0 (os ++ [.cells #[.slice none 0 0, .bool false] 44]) w' := by
  have T := termsS Shun
  co_apply Exists.intro
  intro w0 os w hF
  co_apply callsC_of_wpC Try.func8 (by rfl) rfl
  simp only [Try.ntmps8, List.size_toArray, List.length_cons, List.length_nil, Nat.reduceAdd, Nat.reduceSub, Array.replicate_succ, Array.replicate_zero, List.push_toArray, List.append_toArray, List.nil_append, List.cons_append]
  co_stmt T PV.rely hF (co_quiet T)
  co_apply wpC_seq T
  co_reg T
  co_opw PV.rely hF (skip) (co_still T)
  co_opw PV.rely hF (skip) (rw [listed_nil (by simp [go_sem])]; exact ds_alloc _ _)
  simp only [hF.size]
  replace hF := hF.push (.cells #[.slice none 0 0, .bool false] 44)
  co_op PV.rely hF (co_quiet T)
  co_apply opsC_nil T
  co_then
  co_apply wpC_ret T
  exact ⟨rfl, _, resultsC_tmp (by rfl) _, rfl, hF⟩

/-- pick. -/
def pk (c n : Int) : Int := Int.tmod (if c < 0 then -(c + 1) else c) n

set_option maxRecDepth 100000 in
set_option maxHeartbeats 1000000 in
theorem pick_c (c n : Int) (hc0 : -9223372036854775808 ≤ c) (hc1 : c ≤ 9223372036854775807) (hn : 0 < n) (hn1 : n ≤ 9223372036854775807) : ∃ m, ∀ w0 os w, PV w0 os w → CallsC Try.prog true AtRel (DS Shun) 9 #[.int .i64 c, .int .i64 n] m w fun x w' => x = .int .i64 (pk c n) ∧ PV w0 os w' := by
  have T := termsS Shun
  have hnz : n ≠ 0 := by omega
  by_cases h' : c < 0
  · have hd : decide (c < 0) = true := decide_eq_true h'
    co_apply Exists.intro
    intro w0 os w hF
    co_apply callsC_of_wpC Try.func9 (by rfl) rfl
    simp only [Try.ntmps9, List.size_toArray, List.length_cons, List.length_nil, Nat.reduceAdd, Nat.reduceSub, Array.replicate_succ, Array.replicate_zero, List.push_toArray, List.append_toArray, List.nil_append, List.cons_append]
    co_go T PV.rely hF (co_quiet T)
    co_apply wpC_cond T (t := true) rfl
    simp only [if_true]
    co_go T PV.rely hF (co_quiet T)
    refine ⟨rfl, _, resultsC_tmp (by rfl) _, ?_, hF⟩
    show Value.int .i64 ((IntKind.i64.wrap (-IntKind.i64.wrap (c + 1))).tmod n) = _
    rw [show IntKind.i64.wrap (-IntKind.i64.wrap (c + 1)) = -(c + 1) by simp only [IntKind.wrap_i64]; omega]
    simp [pk, h']
  · have hd : decide (c < 0) = false := decide_eq_false h'
    co_apply Exists.intro
    intro w0 os w hF
    co_apply callsC_of_wpC Try.func9 (by rfl) rfl
    simp only [Try.ntmps9, List.size_toArray, List.length_cons, List.length_nil, Nat.reduceAdd, Nat.reduceSub, Array.replicate_succ, Array.replicate_zero, List.push_toArray, List.append_toArray, List.nil_append, List.cons_append]
    co_go T PV.rely hF (co_quiet T)
    co_apply wpC_cond T (t := false) rfl
    simp only [Bool.false_eq_true, if_false]
    co_go T PV.rely hF (co_quiet T)
    refine ⟨rfl, _, resultsC_tmp (by rfl) _, ?_, hF⟩
    show Value.int .i64 (c.tmod n) = _
    simp [pk, h']
end
end Go.Proofs.Ytkaapaepanhbgaa

/- told's loop. -/
set_option linter.unusedVariables false
set_option linter.unusedSimpArgs false
namespace Go.Proofs.Ytkaapaepanhbgaa
open Go Go.Conc Go.Pair Go.RowKit

noncomputable def body6 : Code := Try.f6.body.getD .skip
noncomputable def aft6 : Code := Code.two (Code.two (Code.two (Code.two (Code.two (Code.two body6)))))
noncomputable def LT : Code := Code.core (Code.core (Code.two (Code.one aft6)))
noncomputable def ENDT : Code := Code.two aft6
noncomputable def LKT : List Item := [.inLoop LT, .inBlock 0, .code ENDT]
/-- told's slots: all, cuts, r, out, ok, last, i. -/
noncomputable def TAct (s0 s1 s7 s8 s9 s10 s11 : Value) (u : Nat → Value) : Act :=
  { tmps := #[s0, s1, u 2, u 3, u 4, u 5, u 6, s7, s8, s9, s10, s11, u 12, u 13, u 14, u 15, u 16, u 17, u 18, u 19, u 20, u 21, u 22, u 23, u 24, u 25, u 26, u 27, u 28, u 29, u 30, u 31, u 32, u 33, u 34, u 35, u 36, u 37, u 38, u 39, u 40, u 41, u 42, u 43, u 44, u 45, u 46, u 47, u 48, u 49, u 50, u 51, u 52, u 53, u 54, u 55, u 56, u 57, u 58, u 59, u 60, u 61, u 62, u 63, u 64, u 65, u 66, u 67], defers := [] }
theorem tact_of {s0 s1 s7 s8 s9 s10 s11 : Value} (a : Act) (h : a = TAct s0 s1 s7 s8 s9 s10 s11 fun i => a.tmps.getD i undef) : ∃ u, a = TAct s0 s1 s7 s8 s9 s10 s11 u := ⟨_, h⟩

/-- What told's loop holds of the world: W is the world at its entry. -/
structure TV (W : World) (N0 R : Nat) (p : List UInt8) (tl : Bool) (v : Value) (sent : List (List UInt8 × Value)) (outv : Value) (Shun : Loc → Prop) (w : World) : Prop where
  size : W.heap.size ≤ w.heap.size
  old : ∀ i, i < W.heap.size → w.heap[i]? = W.heap[i]?
  rd : RdAt R p tl v w
  rge : W.heap.size ≤ R
  pge : ∀ g, v.ownBlock = some g → W.heap.size ≤ g
  list : RowIs w 25 (sent.map (·.2)) outv
  lge : ∀ g, outv.ownBlock = some g → W.heap.size ≤ g
  msg : ∀ x ∈ sent, ∃ r, W.heap.size ≤ r ∧ x.2 = .slice (some ⟨r, 0, none⟩) x.1.length x.1.length ∧ w.heap[r]? = some (.cells (bc x.1).toArray 5) ∧ v.ownBlock ≠ some r
  shun : ShunW Shun w
  top : ∀ l, Shun l → ∃ a : Addr, l = .cell a ∧ N0 ≤ a.block

/-- Bytes that lie in a row of the world at told's entry. -/
def BytesW (W : World) (ba : Option Addr) (bs : List UInt8) (cap : Nat) : Prop :=
  ∃ x o cs, ba = some ⟨x, o, none⟩ ∧ W.heap[x]? = some (.cells cs 5) ∧ (∀ i (h : i < bs.length), cs[o + i]? = some (.int .u8 (bs[i].toNat : Int))) ∧ bs.length ≤ cap ∧ cap ≤ maxLen
/-- The cuts. -/
def CutsAt (W : World) (N0 : Nat) (ca : Option Addr) (cuts : List Int) : Prop :=
  ∀ i (h : i < cuts.length), (-9223372036854775808 ≤ cuts[i] ∧ cuts[i] ≤ 9223372036854775807) ∧ ∃ ad : Addr, ca = some ad ∧ W.cell? (ad.add i) = some (.int .i64 cuts[i]) ∧ (ad.add i).block < N0 ∧ (ad.add i).block < W.heap.size

section
variable {Post : Value → World → Prop} {Shun : Loc → Prop} {W w w' w₁ : World} {N0 R : Nat} {p : List UInt8} {tl : Bool} {v outv : Value} {sent : List (List UInt8 × Value)} {fr : Frame} {cs : List Frame}

theorem TV.rely (h : TV W N0 R p tl v sent outv Shun w) (r : AtRel w w₁) : TV W N0 R p tl v sent outv Shun w₁ := by
  obtain ⟨d, rfl⟩ := r
  exact ⟨h.size, h.old, ⟨h.rd.r, h.rd.part, h.rd.ok⟩, h.rge, h.pge, h.list, h.lge, h.msg, h.shun, h.top⟩

theorem BytesW.at (h : TV W N0 R p tl v sent outv Shun w) {ba : Option Addr} {bs : List UInt8} {cap n : Nat} (hb : BytesW W ba bs cap) (hn : n ≤ bs.length) : BytesAt w ba (bs.take n) cap v := by
  obtain ⟨x, o, cs, h1, h2, h3, h4, h5⟩ := hb
  have hx := lt_of_get h2
  refine .inr ⟨x, o, cs, h1, by rw [h.old x hx]; exact h2, fun i hi => ?_, by simp; omega, h5, fun e => ?_⟩
  · have hi' : i < bs.length := by simp at hi; omega
    rw [h3 i hi']
    simp
  · have := h.pge x e
    omega
theorem BytesW.drop {W : World} {x o : Nat} {bs : List UInt8} {cap n : Nat} (hb : BytesW W (some ⟨x, o, none⟩) bs cap) (hn : n ≤ bs.length) : BytesW W (behindAt x o n cap) (bs.drop n) (cap - n) := by
  obtain ⟨x', o', cs, h1, h2, h3, h4, h5⟩ := hb
  cases h1
  by_cases hc : cap = n
  · refine ⟨x, o, cs, by simp [behindAt, hc], h2, fun i hi => ?_, by rw [List.length_drop]; omega, by omega⟩
    rw [List.length_drop] at hi
    omega
  · refine ⟨x, o + n, cs, by simp [behindAt, hc], h2, fun i hi => ?_, by rw [List.length_drop]; omega, by omega⟩
    rw [List.length_drop] at hi
    have := h3 (n + i) (by omega)
    rw [← Nat.add_assoc] at this
    rw [this]
    simp

/-- Behind a Feed. -/
theorem TV.fed {bodies : List (List UInt8)} {q : List UInt8} {t : Bool} {v' lv : Value} {sent' : List (List UInt8 × Value)} {S' : Loc → Prop} (h : TV W N0 R p tl v sent outv Shun w) (hf : FeedOut w R v bodies q t v' sent' lv Shun S' w') (hq : OkP q) (hN : N0 ≤ W.heap.size) :
    TV W N0 R q t v' sent outv S' w' ∧ RowIs w' 25 (sent'.map (·.2)) lv ∧ (∀ x ∈ sent', ∃ r, W.heap.size ≤ r ∧ x.2 = .slice (some ⟨r, 0, none⟩) x.1.length x.1.length ∧ w'.heap[r]? = some (.cells (bc x.1).toArray 5) ∧ v'.ownBlock ≠ some r) := by
  have hs := h.size
  have hs' := hf.size
  have pk5 : ∀ g, v.ownBlock = some g → ∃ cells : Array Value, w.heap[g]? = some (Obj.cells cells 5) := fun g hg => by
    obtain ⟨c, cells, _, x⟩ := h.rd.part.own hg
    exact ⟨cells, x⟩
  have keepK : ∀ (i : Nat) (o : Obj), w.heap[i]? = some o → kindOf o ≠ some 44 → kindOf o ≠ some 5 → w'.heap[i]? = some o := fun i o ho h44 h5 => by
    rw [hf.keep i (lt_of_get ho) (fun e => ?_) (fun e => ?_)]
    · exact ho
    · rw [e, h.rd.r] at ho; cases ho; exact h44 rfl
    · obtain ⟨cells, hc⟩ := pk5 i e
      rw [hc] at ho; cases ho; exact h5 rfl
  refine ⟨⟨by omega, fun i hi => ?_, ⟨hf.r, hf.part, hq⟩, h.rge, fun g hg => ?_, ?_, h.lge, fun x hx => ?_, hf.shun, fun l hl => ?_⟩, hf.list, fun x hx => ?_⟩
  · rw [hf.keep i (by omega) (by have := h.rge; omega) (fun e => by have := h.pge i e; omega)]
    exact h.old i hi
  · rcases hf.own g hg with h1 | h1
    · exact h.pge g h1
    · omega
  · refine RowIs.back h.list fun g o hg ho => ?_
    obtain ⟨c, cells, _, hx⟩ := h.list.own hg
    rw [ho] at hx
    cases hx
    exact keepK g _ ho (by simp [kindOf]) (by simp [kindOf])
  · obtain ⟨r, h1, h2, h3, h4⟩ := h.msg x hx
    refine ⟨r, h1, h2, ?_, fun e => ?_⟩
    · rw [hf.keep r (lt_of_get h3) (fun e => ?_) h4]
      · exact h3
      · rw [e, h.rd.r] at h3; simp at h3
    · rcases hf.own r e with h5 | h5
      · exact h4 h5
      · have := lt_of_get h3
        omega
  · rcases hf.more l hl with h1 | ⟨a, e, h1⟩
    · exact h.top l h1
    · exact ⟨a, e, by omega⟩
  · obtain ⟨r, h1, h2⟩ := hf.msg x hx
    exact ⟨r, by omega, h2⟩

/-- Behind the append of what a Feed gave. -/
theorem TV.app {sent' : List (List UInt8 × Value)} {outv' : Value} (h : TV W N0 R p tl v sent outv Shun w) (hm : ∀ x ∈ sent', ∃ r, W.heap.size ≤ r ∧ x.2 = .slice (some ⟨r, 0, none⟩) x.1.length x.1.length ∧ w.heap[r]? = some (.cells (bc x.1).toArray 5) ∧ v.ownBlock ≠ some r)
    (ha : AppS w 25 outv ((sent ++ sent').map (·.2)) outv' w') : TV W N0 R p tl v (sent ++ sent') outv' Shun w' := by
  have hs := h.size
  have hs' := ha.size
  have keepK : ∀ (i : Nat) (o : Obj), w.heap[i]? = some o → kindOf o ≠ some 25 → w'.heap[i]? = some o := fun i o ho hk => by
    rw [ha.keep i (lt_of_get ho) (fun e => ?_)]
    · exact ho
    · obtain ⟨c, cells, _, x⟩ := h.list.own e
      rw [x] at ho; cases ho; exact hk rfl
  refine ⟨by omega, fun i hi => ?_, ⟨keepK _ _ h.rd.r (by simp [kindOf]), ?_, h.rd.ok⟩, h.rge, h.pge, ha.row, fun g hg => ?_, fun x hx => ?_, fun l hl => ?_, h.top⟩
  · rw [ha.keep i (by omega) (fun e => by have := h.lge i e; omega)]
    exact h.old i hi
  · refine RowIs.back h.rd.part fun g o hg ho => ?_
    obtain ⟨c, cells, _, hx⟩ := h.rd.part.own hg
    rw [ho] at hx
    cases hx
    exact keepK g _ ho (by simp [kindOf])
  · rcases ha.own g hg with h1 | h1
    · exact h.lge g h1
    · omega
  · have : ∃ r, W.heap.size ≤ r ∧ x.2 = .slice (some ⟨r, 0, none⟩) x.1.length x.1.length ∧ w.heap[r]? = some (.cells (bc x.1).toArray 5) ∧ v.ownBlock ≠ some r := by
      rcases List.mem_append.1 hx with hx | hx
      · exact h.msg x hx
      · exact hm x hx
    obtain ⟨r, h1, h2, h3, h4⟩ := this
    exact ⟨r, h1, h2, keepK _ _ h3 (by simp [kindOf]), h4⟩
  · obtain ⟨a, e, o, h1, h2⟩ := h.shun l hl
    exact ⟨a, e, o, keepK _ _ h1 (by rw [h2]; simp), h2⟩
end
end Go.Proofs.Ytkaapaepanhbgaa
