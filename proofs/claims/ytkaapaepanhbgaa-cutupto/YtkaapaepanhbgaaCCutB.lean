/- The tests of cut's loop, in company. -/
import Derived.Test.YtkaapaepanhbgaaCCut3
set_option linter.unusedVariables false
set_option linter.unusedSimpArgs false
namespace Go.Proofs.Ytkaapaepanhbgaa
open Go Go.Conc Go.Pair Go.RowKit

section
variable {E : EP} {sent : List (List UInt8 × Value)} {p : List UInt8} {v : Value} {tl : Bool} {w w' w₁ : World} {k : Nat} {FB : List (List UInt8 × Value) → World → Prop} {PostA : List (List UInt8 × Value) → Goroutine → World → Prop}

theorem cutAct_40 {c b ch n x : Value} (a : Act) (h : a = CutAct c b ch n fun i => a.tmps.getD i undef) (h40 : a.tmps.getD 40 undef = x) : ∃ u', a = CutAct c b ch n u' ∧ u' 40 = x := ⟨_, h, h40⟩
theorem lenOf_lt (p : List UInt8) : lenOf p < 4294967296 := by
  unfold lenOf
  split
  · omega
  · exact uns_lt p 4 (by omega)

set_option maxRecDepth 100000 in
set_option maxHeartbeats 1000000 in
/-- The length is not too great. -/
theorem cut4_ok (O : E.Ok) (hl : lenOf p ≤ 1000) (b ch n : Value) : ∃ m, ∀ v w u, BView E sent p v tl w →
    cut4.wpC Try.prog false (RB (E.cfg k FB PostA)) (DB (E.cfg k FB PostA) sent) 17 m (fun e a' w' => e = .normal ∧ (∃ u', a' = CutAct (.pointer (some ⟨E.R, 0, none⟩)) b ch n u') ∧ BView E sent p v tl w')
      (CutAct (.pointer (some ⟨E.R, 0, none⟩)) b ch n u) w := by
  have T := termsB (E.cfg k FB PostA) sent
  obtain ⟨nu, hu⟩ := length_any (sent := sent) (tl := tl) (k := k) (FB := FB) (PostA := PostA) (p := p) O
  have hlt : ¬ (1000 : Int) < (lenOf p : Int) := by omega
  co_apply Exists.intro
  intro v w u hF
  simp only [cut4, cutRest, cutLoop, cutCode, Code.core, Code.one, Code.two, Try.f17, CutAct]
  co_apply wpC_seq T
  co_reg T
  co_op (BView.rely O) hF (co_quiet T)
  co_apply opsC_call T rfl (by rfl) rfl
  · walk_nrm
    exact hu _ _ hF
  rintro x w' ⟨rfl, hF⟩
  walk_nrm
  co_op (BView.rely O) hF (co_quiet T)
  co_apply opsC_nil T
  co_then
  co_apply wpC_cond T (t := false) rfl
  simp only [Bool.false_eq_true, if_false]
  co_apply wpC_skip T
  exact ⟨rfl, cutAct_of _ rfl, hF⟩

/-- The Cutter emptied, and closed. -/
theorem AView.shut (O : E.Ok) (h : AView E sent [] (.slice none 0 0) tl v w) (y : Bool) : BView E sent [] (.slice none 0 0) y ((w.setCell ⟨E.R, 0, none⟩ (.slice none 0 0)).setCell ⟨E.R, 1, none⟩ (.bool y)) := by
  have h2 := h.store O
  refine ⟨?_, h2.part.setR, by rw [set_size]; exact h2.low, fun x hx => by rw [set_size]; exact h2.old x hx, fun i o e => by rw [set_other _ _ (O.fix i o e).2.1]; exact h2.src i o e, let ⟨st, sm, x⟩ := h2.wg; ⟨st, sm, by unfold WgIs; rw [set_other _ _ (Ne.symm O.rg)]; exact x⟩⟩
  rw [setCell_row h2.r]
  rfl
theorem BView.bare (h : BView E sent p v tl w) : AView E sent [] (.slice none 0 0) tl v w := ⟨h.r, .inl ⟨rfl, rfl⟩, h.low, h.old, h.src, h.wg⟩
theorem BView.same (h : BView E sent p v tl w) : AView E sent p v tl v w := ⟨h.r, h.part, h.low, h.old, h.src, h.wg⟩

set_option maxRecDepth 100000 in
set_option maxHeartbeats 1000000 in
/-- The length is too great. -/
theorem cut4_long (O : E.Ok) (hl : 1000 < lenOf p) (b ch n : Value) : ∃ m, ∀ v w u, BView E sent p v tl w →
    cut4.wpC Try.prog false (RB (E.cfg k FB PostA)) (DB (E.cfg k FB PostA) sent) 17 m (fun e a' w' => e = .ret ∧ (∃ u', a' = CutAct (.pointer (some ⟨E.R, 0, none⟩)) b ch n u') ∧ ∃ v', BView E sent [] v' true w')
      (CutAct (.pointer (some ⟨E.R, 0, none⟩)) b ch n u) w := by
  have T := termsB (E.cfg k FB PostA) sent
  obtain ⟨nu, hu⟩ := length_any (sent := sent) (tl := tl) (k := k) (FB := FB) (PostA := PostA) (p := p) O
  have hlt : (1000 : Int) < (lenOf p : Int) := by omega
  co_apply Exists.intro
  intro v w u hF
  simp only [cut4, cutRest, cutLoop, cutCode, Code.core, Code.one, Code.two, Try.f17, CutAct]
  co_apply wpC_seq T
  co_reg T
  co_op (BView.rely O) hF (co_quiet T)
  co_apply opsC_call T rfl (by rfl) rfl
  · walk_nrm
    exact hu _ _ hF
  rintro x w' ⟨rfl, hF⟩
  walk_nrm
  co_op (BView.rely O) hF (co_quiet T)
  co_apply opsC_nil T
  co_then
  co_apply wpC_cond T (t := true) rfl
  simp only [if_true]
  co_apply wpC_seq T
  co_reg T
  obtain ⟨va, vc, rfl⟩ := hF.shape
  co_op (BView.rely O) hF (co_quiet T)
  co_op (BView.rely O) hF (co_quiet T)
  co_op (BView.rely O) hF (co_quiet T)
  co_op (BView.rely O) hF (co_quiet T)
  co_opw (BView.rely O) hF (have hc := hF.c0; have hfz := hF.fz 0; have hse := evs_storeR _ hc hfz (.slice none 0 0) rfl) (refine db_setR O 0 _ ?_; co_evs (exact evWR hF.bare _ 0))
  clear hc hfz hse
  have hG := hF.bare.store O
  clear hF
  co_op (BView.rely O) hG (co_quiet T)
  co_op (BView.rely O) hG (co_quiet T)
  co_opw (BView.rely O) hG (have hc := hG.c1; have hfz := hG.fz 1; have hse := evs_storeR _ hc hfz (.bool true) rfl) (refine db_setR O 1 _ ?_; co_evs (exact evWR hG.same _ 1))
  clear hc hfz hse
  co_apply opsC_nil T
  co_then
  co_apply wpC_ret T
  refine ⟨rfl, cutAct_of _ rfl, .slice none 0 0, ?_⟩
  exact ⟨by rw [setCell_row hG.r]; rfl, hG.part.setR, by rw [set_size]; exact hG.low, fun x hx => by rw [set_size]; exact hG.old x hx, fun i o e => by rw [set_other _ _ (O.fix i o e).2.1]; exact hG.src i o e, let ⟨st, sm, x⟩ := hG.wg; ⟨st, sm, by unfold WgIs; rw [set_other _ _ (Ne.symm O.rg)]; exact x⟩⟩

set_option maxRecDepth 100000 in
set_option maxHeartbeats 1000000 in
/-- Is the frame whole? -/
theorem cut6_c (O : E.Ok) (hbig : p.length < 4294967296) (b ch n : Value) : ∃ m, ∀ v w u, BView E sent p v tl w →
    cut6.wpC Try.prog false (RB (E.cfg k FB PostA)) (DB (E.cfg k FB PostA) sent) 17 m (fun e a' w' => e = .normal ∧ (∃ u', a' = CutAct (.pointer (some ⟨E.R, 0, none⟩)) b ch n u' ∧ u' 40 = .bool (decide (missing p = 0))) ∧ BView E sent p v tl w')
      (CutAct (.pointer (some ⟨E.R, 0, none⟩)) b ch n u) w := by
  have T := termsB (E.cfg k FB PostA) sent
  obtain ⟨nu, hu⟩ := missing_any (sent := sent) (tl := tl) (k := k) (FB := FB) (PostA := PostA) (p := p) O hbig
  co_apply Exists.intro
  intro v w u hF
  simp only [cut6, cut5, cutRest, cutLoop, cutCode, Code.core, Code.one, Code.two, Try.f17, CutAct]
  co_reg T
  co_op (BView.rely O) hF (co_quiet T)
  co_apply opsC_call T rfl (by rfl) rfl
  · walk_nrm
    exact hu _ _ hF
  rintro x w' ⟨rfl, hF⟩
  walk_nrm
  co_op (BView.rely O) hF (co_quiet T)
  co_apply opsC_nil T
  exact ⟨rfl, cutAct_40 _ rfl rfl, hF⟩
end
end Go.Proofs.Ytkaapaepanhbgaa

/- How bytes are cut into bodies: the rounds of cut's loop. -/
set_option linter.unusedVariables false
set_option linter.unusedSimpArgs false
namespace Go.Proofs.Ytkaapaepanhbgaa
open Go Go.Conc Go.Pair Go.RowKit

/-- A part that something is missing of. -/
structure OkP (p : List UInt8) : Prop where
  pos : 0 < missing p
  len : lenOf p ≤ 1000

/-- How many bytes the next round takes. -/
def nn (p bs : List UInt8) : Nat := if (bs.length : Int) < missing p then bs.length else (missing p).toNat
/-- The part behind it. -/
def nextP (p bs : List UInt8) : List UInt8 := p ++ bs.take (nn p bs)

theorem okP_nil : OkP [] := ⟨by decide, by decide⟩
theorem missing_lenOf (p : List UInt8) : missing p = if p.length < 4 then 4 - (p.length : Int) else 4 + lenOf p - p.length := by
  unfold missing lenOf
  by_cases h : p.length < 4
  · simp [h]
  · simp [h]
theorem OkP.lt {p : List UInt8} (h : OkP p) : p.length < 1004 := by
  have h1 := h.pos
  have h2 := h.len
  rw [missing_lenOf] at h1
  split at h1 <;> omega
theorem nn_pos {p bs : List UInt8} (h : OkP p) (hb : bs ≠ []) : 0 < nn p bs := by
  have := List.length_pos_iff.2 hb
  have := h.pos
  unfold nn
  split <;> omega
theorem nn_le (p bs : List UInt8) : nn p bs ≤ bs.length := by
  unfold nn
  split <;> omega
theorem nn_int {p bs : List UInt8} (h : OkP p) : (if (bs.length : Int) < missing p then (bs.length : Int) else missing p) = (nn p bs : Int) := by
  have := h.pos
  unfold nn
  split <;> omega
theorem nn_miss {p bs : List UInt8} (h : OkP p) : (nn p bs : Int) ≤ missing p := by
  have := h.pos
  unfold nn
  split <;> omega
theorem nextP_len {p bs : List UInt8} : (nextP p bs).length = p.length + nn p bs := by
  have := nn_le p bs
  simp [nextP]
  omega
theorem nextP_lt {p bs : List UInt8} (h : OkP p) : (nextP p bs).length ≤ 1004 := by
  have h1 := h.len
  have h2 := nn_miss (bs := bs) h
  rw [missing_lenOf] at h2
  rw [nextP_len]
  split at h2 <;> omega
theorem nextP_miss {p bs : List UInt8} (h : OkP p) : 0 ≤ missing (nextP p bs) := by
  have h2 := nn_miss (bs := bs) h
  have h3 := nextP_len (p := p) (bs := bs)
  rw [missing_lenOf] at h2
  rw [missing_lenOf]
  split
  · omega
  · rename_i h4
    by_cases hp : p.length < 4
    · rw [if_pos hp] at h2
      omega
    · rw [if_neg hp] at h2
      have : lenOf (nextP p bs) = lenOf p := by
        unfold lenOf
        rw [if_neg h4, if_neg hp]
        congr 1
        unfold nextP
        rw [List.take_append_of_le_length (by omega)]
      omega
theorem nextP_ok {p bs : List UInt8} (h : OkP p) (hl : lenOf (nextP p bs) ≤ 1000) (hm : missing (nextP p bs) ≠ 0) : OkP (nextP p bs) :=
  ⟨by have := nextP_miss (bs := bs) h; omega, hl⟩
theorem whole_len {p : List UInt8} (hm : missing p = 0) : 4 ≤ p.length := by
  rw [missing_lenOf] at hm
  split at hm <;> omega

/-- The bytes bs behind the part p: these bodies end in them; the part q is left; a length that is too great has come, or not. -/
inductive Cuts : List UInt8 → List UInt8 → List (List UInt8) → List UInt8 → Bool → Prop
  | done (p : List UInt8) : Cuts p [] [] p false
  | long {p bs : List UInt8} : bs ≠ [] → 1000 < lenOf (nextP p bs) → Cuts p bs [] [] true
  | body {p bs : List UInt8} {bodies : List (List UInt8)} {q : List UInt8} {t : Bool} : bs ≠ [] → lenOf (nextP p bs) ≤ 1000 → missing (nextP p bs) = 0 → Cuts [] (bs.drop (nn p bs)) bodies q t → Cuts p bs ((nextP p bs).drop 4 :: bodies) q t
  | more {p bs : List UInt8} {bodies : List (List UInt8)} {q : List UInt8} {t : Bool} : bs ≠ [] → lenOf (nextP p bs) ≤ 1000 → missing (nextP p bs) ≠ 0 → Cuts (nextP p bs) (bs.drop (nn p bs)) bodies q t → Cuts p bs bodies q t

theorem cuts_any : ∀ (N : Nat) (p bs : List UInt8), bs.length ≤ N → OkP p → ∃ bodies q t, Cuts p bs bodies q t
  | N, p, [], _, _ => ⟨_, _, _, .done p⟩
  | 0, p, _ :: _, h, _ => by simp at h
  | N + 1, p, c :: bs, h, hp => by
    have hb : c :: bs ≠ [] := by simp
    have h0 := nn_pos hp hb
    have hd : ((c :: bs).drop (nn p (c :: bs))).length ≤ N := by rw [List.length_drop]; omega
    by_cases hl : 1000 < lenOf (nextP p (c :: bs))
    · exact ⟨_, _, _, .long hb hl⟩
    · by_cases hm : missing (nextP p (c :: bs)) = 0
      · obtain ⟨bodies, q, t, h1⟩ := cuts_any N [] _ hd okP_nil
        exact ⟨_, _, _, .body hb (by omega) hm h1⟩
      · obtain ⟨bodies, q, t, h1⟩ := cuts_any N _ _ hd (nextP_ok hp (by omega) hm)
        exact ⟨_, _, _, .more hb (by omega) hm h1⟩
theorem Cuts.ok {p bs : List UInt8} {bodies : List (List UInt8)} {q : List UInt8} {t : Bool} (h : Cuts p bs bodies q t) (hp : OkP p) : OkP q := by
  induction h with
  | done p => exact hp
  | long _ _ => exact okP_nil
  | body _ _ _ _ ih => exact ih okP_nil
  | more _ h1 h2 _ ih => exact ih (nextP_ok hp h1 h2)
end Go.Proofs.Ytkaapaepanhbgaa
