/- The tests of cut's loop, in company. -/
import Derived.Test.YtlghcldiboecoaaGreatDoorQ31
set_option linter.unusedVariables false
set_option linter.unusedSimpArgs false
set_option maxRecDepth 100000
namespace Go.Proofs.YtlghcldiboecoaaGreatDoor.Cu
open Go Go.Conc Go.Pair Go.RowKit

section
variable {E : EP} {sent : List (List UInt8 × Value)} {p : List UInt8} {v : Value} {tl : Bool} {w w' w₁ : World} {k : Nat} {FB : List (List UInt8 × Value) → World → Prop} {PostA : List (List UInt8 × Value) → Goroutine → World → Prop}

theorem cutAct_40 {c b ch n x : Value} (a : Act) (h : a = CutAct c b ch n fun i => a.tmps.getD i undef) (h40 : a.tmps.getD 40 undef = x) : ∃ u', a = CutAct c b ch n u' ∧ u' 40 = x := ⟨_, h, h40⟩
set_option maxRecDepth 100000 in
set_option maxHeartbeats 1000000 in
theorem cut4_ok (O : E.Ok) (hl : lenOf p ≤ 1000) (b ch n : Value) : ∃ m, ∀ v w u, BView E sent p v tl w →
    cut4.wpC Tryz.prog false (RB (E.cfg k FB PostA)) (DB (E.cfg k FB PostA) sent) 161 m (fun e a' w' => e = .normal ∧ (∃ u', a' = CutAct (.pointer (some ⟨E.R, 0, none⟩)) b ch n u') ∧ BView E sent p v tl w')
      (CutAct (.pointer (some ⟨E.R, 0, none⟩)) b ch n u) w := by
  have T := termsB (E.cfg k FB PostA) sent
  obtain ⟨nu, hu⟩ := length_any (sent := sent) (tl := tl) (k := k) (FB := FB) (PostA := PostA) (p := p) O
  have hlt : ¬ (1000 : Int) < (lenOf p : Int) := by omega
  co_apply Exists.intro
  intro v w u hF
  simp only [cut4, cutRest, cutLoop, cutCode, Code.core, Code.one, Code.two, Tryz.f161, CutAct]
  co_apply wpC_seq T
  co_reg T
  co_op (BView.rely O) hF (co_quiet T)
  co_apply opsC_call T rfl (by rfl) rfl
  · walk_nrm
    exact hu _ _ hF
  rintro x w' ⟨rfl, hF⟩
  walk_nrm
  co_op (BView.rely O) hF (co_quiet T)
  co_apply opsC_nil T
  co_then
  co_apply wpC_cond T (t := false) rfl
  simp only [Bool.false_eq_true, if_false]
  co_apply wpC_skip T
  exact ⟨rfl, cutAct_of _ rfl, hF⟩

theorem BView.bare (h : BView E sent p v tl w) : AView E sent [] (.slice none 0 0) tl v w := ⟨h.r, .inl ⟨rfl, rfl⟩, h.low, h.old, h.src, h.wg, h.dis⟩
theorem BView.same (h : BView E sent p v tl w) : AView E sent p v tl v w := ⟨h.r, h.part, h.low, h.old, h.src, h.wg, h.dis⟩

set_option maxRecDepth 100000 in
set_option maxHeartbeats 1000000 in
theorem cut4_long (O : E.Ok) (hl : 1000 < lenOf p) (b ch n : Value) : ∃ m, ∀ v w u, BView E sent p v tl w →
    cut4.wpC Tryz.prog false (RB (E.cfg k FB PostA)) (DB (E.cfg k FB PostA) sent) 161 m (fun e a' w' => e = .ret ∧ (∃ u', a' = CutAct (.pointer (some ⟨E.R, 0, none⟩)) b ch n u') ∧ ∃ v', BView E sent [] v' true w')
      (CutAct (.pointer (some ⟨E.R, 0, none⟩)) b ch n u) w := by
  have T := termsB (E.cfg k FB PostA) sent
  obtain ⟨nu, hu⟩ := length_any (sent := sent) (tl := tl) (k := k) (FB := FB) (PostA := PostA) (p := p) O
  have hlt : (1000 : Int) < (lenOf p : Int) := by omega
  co_apply Exists.intro
  intro v w u hF
  simp only [cut4, cutRest, cutLoop, cutCode, Code.core, Code.one, Code.two, Tryz.f161, CutAct]
  co_apply wpC_seq T
  co_reg T
  co_op (BView.rely O) hF (co_quiet T)
  co_apply opsC_call T rfl (by rfl) rfl
  · walk_nrm
    exact hu _ _ hF
  rintro x w' ⟨rfl, hF⟩
  walk_nrm
  co_op (BView.rely O) hF (co_quiet T)
  co_apply opsC_nil T
  co_then
  co_apply wpC_cond T (t := true) rfl
  simp only [if_true]
  co_apply wpC_seq T
  co_reg T
  obtain ⟨va, vc, rfl⟩ := hF.shape
  co_op (BView.rely O) hF (co_quiet T)
  co_op (BView.rely O) hF (co_quiet T)
  co_op (BView.rely O) hF (co_quiet T)
  co_op (BView.rely O) hF (co_quiet T)
  co_opw (BView.rely O) hF (have hc := hF.c0; have hfz := hF.fz 0; have hse := evs_storeR _ hc hfz (.slice none 0 0) rfl) (refine db_setR O 0 _ ?_; co_evs (exact evWR hF.bare _ 0))
  clear hc hfz hse
  have hG := hF.bare.store O
  clear hF
  co_op (BView.rely O) hG (co_quiet T)
  co_op (BView.rely O) hG (co_quiet T)
  co_opw (BView.rely O) hG (have hc := hG.c1; have hfz := hG.fz 1; have hse := evs_storeR _ hc hfz (.bool true) rfl) (refine db_setR O 1 _ ?_; co_evs (exact evWR hG.same _ 1))
  clear hc hfz hse
  co_apply opsC_nil T
  co_then
  co_apply wpC_ret T
  refine ⟨rfl, cutAct_of _ rfl, .slice none 0 0, ?_⟩
  exact ⟨by rw [setCell_row hG.r]; rfl, hG.part.setR, by rw [set_size]; exact hG.low, fun x hx => by rw [set_size]; exact hG.old x hx, fun i o e => by rw [set_other _ _ (O.fix i o e).2.1]; exact hG.src i o e, let ⟨st, sm, x⟩ := hG.wg; ⟨st, sm, by unfold WgIs; rw [set_other _ _ (Ne.symm O.rg)]; exact x⟩, hG.dis⟩

set_option maxRecDepth 100000 in
set_option maxHeartbeats 1000000 in
theorem cut6_c (O : E.Ok) (hbig : p.length < 4294967296) (b ch n : Value) : ∃ m, ∀ v w u, BView E sent p v tl w →
    cut6.wpC Tryz.prog false (RB (E.cfg k FB PostA)) (DB (E.cfg k FB PostA) sent) 161 m (fun e a' w' => e = .normal ∧ (∃ u', a' = CutAct (.pointer (some ⟨E.R, 0, none⟩)) b ch n u' ∧ u' 40 = .bool (decide (missing p = 0))) ∧ BView E sent p v tl w')
      (CutAct (.pointer (some ⟨E.R, 0, none⟩)) b ch n u) w := by
  have T := termsB (E.cfg k FB PostA) sent
  obtain ⟨nu, hu⟩ := missing_any (sent := sent) (tl := tl) (k := k) (FB := FB) (PostA := PostA) (p := p) O hbig
  co_apply Exists.intro
  intro v w u hF
  simp only [cut6, cut5, cutRest, cutLoop, cutCode, Code.core, Code.one, Code.two, Tryz.f161, CutAct]
  co_reg T
  co_op (BView.rely O) hF (co_quiet T)
  co_apply opsC_call T rfl (by rfl) rfl
  · walk_nrm
    exact hu _ _ hF
  rintro x w' ⟨rfl, hF⟩
  walk_nrm
  co_op (BView.rely O) hF (co_quiet T)
  co_apply opsC_nil T
  exact ⟨rfl, cutAct_40 _ rfl rfl, hF⟩

end
end Go.Proofs.YtlghcldiboecoaaGreatDoor.Cu

/- How bytes are cut into bodies: the rounds of cut's loop. -/
set_option maxRecDepth 100000
namespace Go.Proofs.YtlghcldiboecoaaGreatDoor.Cu
open Go Go.Conc Go.Pair Go.RowKit

structure OkP (p : List UInt8) : Prop where
  pos : 0 < missing p
  len : lenOf p ≤ 1000

def nn (p bs : List UInt8) : Nat := if (bs.length : Int) < missing p then bs.length else (missing p).toNat

def nextP (p bs : List UInt8) : List UInt8 := p ++ bs.take (nn p bs)

theorem okP_nil : OkP [] := ⟨by decide, by decide⟩
theorem missing_lenOf (p : List UInt8) : missing p = if p.length < 4 then 4 - (p.length : Int) else 4 + lenOf p - p.length := by
  unfold missing lenOf
  by_cases h : p.length < 4
  · simp [h]
  · simp [h]

theorem OkP.lt {p : List UInt8} (h : OkP p) : p.length < 1004 := by
  have h1 := h.pos
  have h2 := h.len
  rw [missing_lenOf] at h1
  split at h1 <;> omega

theorem nn_pos {p bs : List UInt8} (h : OkP p) (hb : bs ≠ []) : 0 < nn p bs := by
  have := List.length_pos_iff.2 hb
  have := h.pos
  unfold nn
  split <;> omega

theorem nn_le (p bs : List UInt8) : nn p bs ≤ bs.length := by
  unfold nn
  split <;> omega

theorem nn_int {p bs : List UInt8} (h : OkP p) : (if (bs.length : Int) < missing p then (bs.length : Int) else missing p) = (nn p bs : Int) := by
  have := h.pos
  unfold nn
  split <;> omega

theorem nn_miss {p bs : List UInt8} (h : OkP p) : (nn p bs : Int) ≤ missing p := by
  have := h.pos
  unfold nn
  split <;> omega

theorem nextP_len {p bs : List UInt8} : (nextP p bs).length = p.length + nn p bs := by
  have := nn_le p bs
  simp [nextP]
  omega

theorem nextP_lt {p bs : List UInt8} (h : OkP p) : (nextP p bs).length ≤ 1004 := by
  have h1 := h.len
  have h2 := nn_miss (bs := bs) h
  rw [missing_lenOf] at h2
  rw [nextP_len]
  split at h2 <;> omega

theorem nextP_miss {p bs : List UInt8} (h : OkP p) : 0 ≤ missing (nextP p bs) := by
  have h2 := nn_miss (bs := bs) h
  have h3 := nextP_len (p := p) (bs := bs)
  rw [missing_lenOf] at h2
  rw [missing_lenOf]
  split
  · omega
  · rename_i h4
    by_cases hp : p.length < 4
    · rw [if_pos hp] at h2
      omega
    · rw [if_neg hp] at h2
      have : lenOf (nextP p bs) = lenOf p := by
        unfold lenOf
        rw [if_neg h4, if_neg hp]
        congr 1
        unfold nextP
        rw [List.take_append_of_le_length (by omega)]
      omega

theorem nextP_ok {p bs : List UInt8} (h : OkP p) (hl : lenOf (nextP p bs) ≤ 1000) (hm : missing (nextP p bs) ≠ 0) : OkP (nextP p bs) :=
  ⟨by have := nextP_miss (bs := bs) h; omega, hl⟩

theorem whole_len {p : List UInt8} (hm : missing p = 0) : 4 ≤ p.length := by
  rw [missing_lenOf] at hm
  split at hm <;> omega

inductive Cuts : List UInt8 → List UInt8 → List (List UInt8) → List UInt8 → Bool → Prop
  | done (p : List UInt8) : Cuts p [] [] p false
  | long {p bs : List UInt8} : bs ≠ [] → 1000 < lenOf (nextP p bs) → Cuts p bs [] [] true
  | body {p bs : List UInt8} {bodies : List (List UInt8)} {q : List UInt8} {t : Bool} : bs ≠ [] → lenOf (nextP p bs) ≤ 1000 → missing (nextP p bs) = 0 → Cuts [] (bs.drop (nn p bs)) bodies q t → Cuts p bs ((nextP p bs).drop 4 :: bodies) q t
  | more {p bs : List UInt8} {bodies : List (List UInt8)} {q : List UInt8} {t : Bool} : bs ≠ [] → lenOf (nextP p bs) ≤ 1000 → missing (nextP p bs) ≠ 0 → Cuts (nextP p bs) (bs.drop (nn p bs)) bodies q t → Cuts p bs bodies q t

theorem cuts_any : ∀ (N : Nat) (p bs : List UInt8), bs.length ≤ N → OkP p → ∃ bodies q t, Cuts p bs bodies q t
  | N, p, [], _, _ => ⟨_, _, _, .done p⟩
  | 0, p, _ :: _, h, _ => by simp at h
  | N + 1, p, c :: bs, h, hp => by
    have hb : c :: bs ≠ [] := by simp
    have h0 := nn_pos hp hb
    have hd : ((c :: bs).drop (nn p (c :: bs))).length ≤ N := by rw [List.length_drop]; omega
    by_cases hl : 1000 < lenOf (nextP p (c :: bs))
    · exact ⟨_, _, _, .long hb hl⟩
    · by_cases hm : missing (nextP p (c :: bs)) = 0
      · obtain ⟨bodies, q, t, h1⟩ := cuts_any N [] _ hd okP_nil
        exact ⟨_, _, _, .body hb (by omega) hm h1⟩
      · obtain ⟨bodies, q, t, h1⟩ := cuts_any N _ _ hd (nextP_ok hp (by omega) hm)
        exact ⟨_, _, _, .more hb (by omega) hm h1⟩

theorem Cuts.ok {p bs : List UInt8} {bodies : List (List UInt8)} {q : List UInt8} {t : Bool} (h : Cuts p bs bodies q t) (hp : OkP p) : OkP q := by
  induction h with
  | done p => exact hp
  | long _ _ => exact okP_nil
  | body _ _ _ _ ih => exact ih okP_nil
  | more _ h1 h2 _ ih => exact ih (nextP_ok hp h1 h2)

end Go.Proofs.YtlghcldiboecoaaGreatDoor.Cu

/- cut's loop, in company: the worker's sends. -/
set_option maxRecDepth 100000
namespace Go.Pair
open Go Go.Conc
theorem goes_op {P : Program} {main : Bool} {R : World → World → Prop} {D : World → World → Array Event → Prop} {Stop : Goroutine → World → Prop} {b : Frame} {a : Act} {k : List Item} {cs : List Frame} {w : World} {ops : Array Oper} {i : Nat} {rest : List Nat} {o : Oper} {n : Nat}
    (ho : ops[i]? = some o) (hw : Region.wanted o (yielded ops a.tmps) = true) (hk : b.kind ≠ .early)
    (h : ∀ w₁, R w w₁ → ∀ K' : Act → World → Prop, (∀ a' w', D w₁ w' (listed P b.fn a o w₁) ∧ Goes P main R D Stop n (G (b.at a' (.inRegion ops rest :: k)) cs) w' → K' a' w') → uponK o a K' ((execOp a.eval o).run P w₁)) :
    Goes P main R D Stop (n + 1) (G (b.at a (.inRegion ops (i :: rest) :: k)) cs) w := by
  refine Goes.step rfl fun w₁ h₁ => goes_oper ho hw hk ?_
  have := h w₁ h₁ _ fun _ _ x => x
  revert this
  cases (execOp a.eval o).run P w₁ with
  | ok x w' => cases x <;> first | exact fun ⟨d, g⟩ => ⟨d, g⟩ | exact id
  | halt _ _ => exact id

theorem goes_ctl {P : Program} {main : Bool} {R : World → World → Prop} {D : World → World → Array Event → Prop} {Stop : Goroutine → World → Prop} (T : Terms R D) {n : Nat} {g g' : Goroutine} {w : World} (hr : g.status = .running) (hs : ∀ w, stepG P main g w = .go g' w #[]) (h : Goes P main R D Stop n g' w) :
    Goes P main R D Stop (n + 1) g w := Goes.step hr fun w₁ h₁ => by rw [hs]; exact ⟨T.idle _, h.rely T.trans h₁⟩

theorem served_at {b : Frame} {a : Act} {k : List Item} {cs : List Frame} {ops : Array Oper} {i : Nat} {rest : List Nat} {o : Oper} (ho : ops[i]? = some o) (v : Value) : Conc.served (core (G (b.at a (.inRegion ops (i :: rest) :: k)) cs)) v = G (b.at (a.put o.dst v) (.inRegion ops rest :: k)) cs := by
  rw [core_G, served_G, ho]
  rfl

end Go.Pair
namespace Go.Proofs.YtlghcldiboecoaaGreatDoor.Cu
open Go Go.Conc Go.Pair Go.RowKit

theorem loop_eq : cutLoop = .seq cut0 (.block 1 cutRest) := rfl
theorem rest_eq : cutRest = .seq cut1 (.seq cut2 (.seq cut3 (.seq cut4 cut5))) := rfl
theorem five_eq : cut5 = .seq cut6 (.cond (.tmp 40) (.seq cut7 cut8) .skip) := rfl

def SrcAt (E : EP) (ba : Option Addr) (bs : List UInt8) (cap : Nat) : Prop :=
  bs = [] ∨ ∃ x o cs, ba = some ⟨x, o, none⟩ ∧ E.Fix x = some (.cells cs 5) ∧ (∀ a : Addr, a.block = x → ¬ E.Shun (.cell a)) ∧ (∀ i (h : i < bs.length), cs[o + i]? = some (.int .u8 (bs[i].toNat : Int))) ∧ bs.length ≤ cap ∧ cap ≤ maxLen

theorem SrcAt.drop {E : EP} {x o cap j : Nat} {bs : List UInt8} (h : SrcAt E (some ⟨x, o, none⟩) bs cap) : SrcAt E (behindAt x o j cap) (bs.drop j) (cap - j) := by
  rcases h with rfl | ⟨x, o, cs, h1, h2, hns, h3, h4, h5⟩
  · exact .inl (by simp)
  · cases h1
    by_cases hc : cap = j
    · exact .inl (List.drop_eq_nil_of_le (by omega))
    · refine .inr ⟨x, o + j, cs, by simp [behindAt, hc], h2, hns, fun i hi => ?_, by rw [List.length_drop]; omega, by omega⟩
      rw [List.length_drop] at hi
      have := h3 (j + i) (by omega)
      rw [← Nat.add_assoc] at this
      rw [this]
      simp

section
variable {E : EP} {k : Nat} {FB : List (List UInt8 × Value) → World → Prop} {PostA : List (List UInt8 × Value) → Goroutine → World → Prop} {b0 : Frame} {cs : List Frame} {sent : List (List UInt8 × Value)} {p b : List UInt8} {v : Value} {tl : Bool} {w : World} {r : Nat}

def AfterCut (E : EP) (k : Nat) (FB : List (List UInt8 × Value) → World → Prop) (PostA : List (List UInt8 × Value) → Goroutine → World → Prop) (b0 : Frame) (cs : List Frame) (q : List UInt8) (t : Bool) : Prop :=
  ∀ sent : List (List UInt8 × Value), ∃ m, ∀ v w u n bv todo, BView E sent q v t w →
    Goes Tryz.prog false (RB (E.cfg k FB PostA)) (DB (E.cfg k FB PostA) sent) (BStop (E.cfg k FB PostA) [] sent) m (G { b0.at (CutAct (.pointer (some ⟨E.R, 0, none⟩)) bv (.chan (some E.Ch)) n u) todo with mode := .returning } cs) w

noncomputable def loopK : List Item := [.inLoop cutLoop, .inBlock 0]
theorem round_pre (O : E.Ok) (hb : b0.fn = 161) (hk : b0.kind ≠ .early) {p bs : List UInt8} (hp : OkP p) (hbs : bs ≠ []) {x o cap : Nat} (hs : SrcAt E (some ⟨x, o, none⟩) bs cap) (sent : List (List UInt8 × Value)) (n : Value) :
    ∃ m, ∀ v w u, BView E sent p v false w → ∀ (Stop : Goroutine → World → Prop) (M : Nat),
      (∀ v' w' u', BView E sent (nextP p bs) v' false w' → Goes Tryz.prog false (RB (E.cfg k FB PostA)) (DB (E.cfg k FB PostA) sent) Stop M (G (b0.at (CutAct (.pointer (some ⟨E.R, 0, none⟩)) (.slice (behindAt x o (nn p bs) cap) (bs.length - nn p bs) (cap - nn p bs)) (.chan (some E.Ch)) (.int .i64 (nn p bs : Nat)) u') (.code (.seq cut4 cut5) :: .inBlock 1 :: loopK)) cs) w') →
      Goes Tryz.prog false (RB (E.cfg k FB PostA)) (DB (E.cfg k FB PostA) sent) Stop (M + m) (G (b0.at (CutAct (.pointer (some ⟨E.R, 0, none⟩)) (.slice (some ⟨x, o, none⟩) bs.length cap) (.chan (some E.Ch)) n u) (.code cutLoop :: loopK)) cs) w := by
  have T := termsB (E.cfg k FB PostA) sent
  rcases hs with h | ⟨x', o', csv, e, hx, hns, hcs, hle, hmax⟩
  · exact absurd h hbs
  cases e
  have hn0 := nn_pos hp hbs
  have hnl := nn_le p bs
  have hpl := hp.lt
  have hnm := nextP_lt (bs := bs) hp
  have hnx := nextP_len (p := p) (bs := bs)
  have htl : (bs.take (nn p bs)).length = nn p bs := by simp; omega
  obtain ⟨m0, h0⟩ := cut0_more (sent := sent) (p := p) (tl := false) (k := k) (FB := FB) (PostA := PostA) O (some ⟨x, o, none⟩) bs.length cap (by omega) (.chan (some E.Ch)) n
  obtain ⟨m1, h1⟩ := cut1_c (sent := sent) (p := p) (tl := false) (k := k) (FB := FB) (PostA := PostA) O (missing_any O (by omega)) (some ⟨x, o, none⟩) bs.length cap (.chan (some E.Ch)) n
  rw [nn_int hp] at h1
  obtain ⟨m2, h2⟩ := cut2_c (sent := sent) (p := p) (tl := false) (k := k) (FB := FB) (PostA := PostA) O x o bs.length cap (bs.take (nn p bs)) csv hx hns (fun i hi => by
    rw [htl] at hi
    rw [hcs i (by omega)]
    simp) (by omega) (by omega) hle hmax (by omega) (.chan (some E.Ch))
  rw [htl] at h2
  obtain ⟨m3, h3⟩ := cut3_c (sent := sent) (p := nextP p bs) (tl := false) (k := k) (FB := FB) (PostA := PostA) O x o bs.length cap (nn p bs) hnl hle hmax (.chan (some E.Ch))
  refine ⟨1 + m3 + 1 + m2 + 1 + m1 + 1 + 1 + m0 + 1, fun v w u hF Stop M hnext => ?_⟩
  rw [loop_eq]
  refine Goes.mono (goes_ctl (n := (M + (1 + m3 + 1 + m2 + 1 + m1 + 1 + 1)) + m0) T rfl (fun w => stepG_seq) ?_) (by omega)
  refine wpC_goes (h0 v w u hF) hb hk fun e a' w' q => ?_
  obtain ⟨rfl, ⟨u', rfl⟩, hF⟩ := q
  refine Goes.mono (goes_ctl (n := (M + (1 + m3 + 1 + m2 + 1 + m1 + 1))) T rfl (fun w => stepG_block) ?_) (by omega)
  rw [rest_eq]
  refine Goes.mono (goes_ctl (n := ((M + (1 + m3 + 1 + m2 + 1)) + m1)) T rfl (fun w => stepG_seq) ?_) (by omega)
  refine wpC_goes (h1 v w' u' hF) hb hk fun e a' w' q => ?_
  obtain ⟨rfl, ⟨u', rfl⟩, hF⟩ := q
  refine Goes.mono (goes_ctl (n := ((M + (1 + m3 + 1)) + m2)) T rfl (fun w => stepG_seq) ?_) (by omega)
  refine wpC_goes (h2 v w' u' hF) hb hk fun e a' w' q => ?_
  obtain ⟨rfl, ⟨u', rfl⟩, v', hF⟩ := q
  refine Goes.mono (goes_ctl (n := ((M + 1) + m3)) T rfl (fun w => stepG_seq) ?_) (by omega)
  refine wpC_goes (h3 v' w' u' hF) hb hk fun e a' w' q => ?_
  obtain ⟨rfl, ⟨u', rfl⟩, hF⟩ := q
  exact (hnext _ _ _ hF).mono (by omega)

theorem RowV.told (h : RowV E sent p v tl r (bc b).toArray w) {n m : Nat} : BView E (sent ++ [(b, .slice (some ⟨r, 0, none⟩) n m)]) p v tl w := by
  refine ⟨h.b.r, ?_, h.b.low, fun x hx => ?_, h.b.src, h.b.wg, ?_⟩
  · rcases h.b.part with h1 | ⟨q, c, cells, h1, h2, h3, h4, h5, h6, h7, h8, h9⟩
    · exact .inl h1
    · refine .inr ⟨q, c, cells, h1, h2, h3, h4, h5, h6, h7, fun x hx n' m' e => ?_, h9⟩
      rcases List.mem_append.1 hx with hx | hx
      · exact h8 x hx n' m' e
      · simp at hx
        subst hx
        cases e
        exact h.nq _ _ _ h1 rfl
  · rcases List.mem_append.1 hx with hx | hx
    · exact h.b.old x hx
    · simp at hx
      subst hx
      exact ⟨r, n, m, rfl, lt_of_get h.row⟩
  · refine List.pairwise_append.2 ⟨h.b.dis, List.pairwise_singleton _ _, fun x hx y hy e => ?_⟩
    simp at hy
    subst hy
    obtain ⟨b', n', m', h1, _⟩ := h.b.old x hx
    rw [h1] at e
    simp [Value.ownBlock] at e
    subst e
    exact h.bare x hx _ _ h1

theorem RowV.isMsg (h : RowV E sent p v tl r (bc b).toArray w) : E.Msg b (.slice (some ⟨r, 0, none⟩) b.length b.length) w := ⟨r, h.ge, rfl, h.row⟩

set_option maxRecDepth 100000 in
theorem send_c (O : E.Ok) (hb : b0.fn = 161) (hk : b0.kind ≠ .early) (hm : missing p = 0) (hbig : p.length ≤ 1004) (bv n : Value) {bodies : List (List UInt8)}
    (hnext : ∀ vv, ∃ m, ∀ v w u, BView E (sent ++ [(p.drop 4, vv)]) [] v false w → Goes Tryz.prog false (RB (E.cfg k FB PostA)) (DB (E.cfg k FB PostA) (sent ++ [(p.drop 4, vv)])) (BStop (E.cfg k FB PostA) bodies (sent ++ [(p.drop 4, vv)])) m (G (b0.at (CutAct (.pointer (some ⟨E.R, 0, none⟩)) bv (.chan (some E.Ch)) n u) (.inBlock 1 :: loopK)) cs) w) :
    ∃ m, ∀ v w u, BView E sent p v false w → Goes Tryz.prog false (RB (E.cfg k FB PostA)) (DB (E.cfg k FB PostA) sent) (BStop (E.cfg k FB PostA) (p.drop 4 :: bodies) sent) m (G (b0.at (CutAct (.pointer (some ⟨E.R, 0, none⟩)) bv (.chan (some E.Ch)) n u) (.code (.seq cut7 cut8) :: .inBlock 1 :: loopK)) cs) w := by
  have T := termsB (E.cfg k FB PostA) sent
  have h4 := whole_len hm
  obtain ⟨mb, hbody⟩ := body_c (sent := sent) (p := p) (tl := false) (k := k) (FB := FB) (PostA := PostA) O h4 (by omega)
  refine ⟨0 + mb + 3 + 1 + 1 + 1 + 1, fun v w u hF => ?_⟩
  refine goes_ctl T rfl (fun w => stepG_seq) ?_
  rw [show cut7 = .region 7 (match cut7 with | .region _ ops _ => ops | _ => #[]) false from rfl]
  refine goes_ctl T rfl (fun w => stepG_region) ?_
  simp only [cut7, cut78, cut5, Code.yes, cutRest, cutLoop, cutCode, Code.core, Code.one, Code.two, Tryz.f161, List.size_toArray, List.length_cons, List.length_nil, Nat.reduceAdd, Nat.zero_add, List.range, List.range.loop]
  refine goes_op rfl (by rfl) hk fun w₁ hR K' hK => ?_
  replace hF := hF.rely O hR
  clear hR
  simp only [CutAct]
  go_simp
  refine hK _ _ ⟨by rw [hb]; co_quiet T, ?_⟩
  clear hK K'
  try walk_nrm
  refine goes_op rfl (by rfl) hk fun w₁ hR K' hK => ?_
  replace hF := hF.rely O hR
  clear hR
  go_simp
  refine hK _ _ ⟨by rw [hb]; co_quiet T, ?_⟩
  clear hK K'
  try walk_nrm
  refine Goes.mono (Goes.call (m := 0) (nf := mb) T rfl (by rfl) hk rfl (by walk_nrm; exact hbody _ _ hF) ?_) (by omega)
  rintro x w' ⟨r, rfl, hG⟩
  try walk_nrm
  intro w₁ hR
  replace hG := hG.rely O hR
  clear hR
  have hlen : (p.drop 4).length = p.length - 4 := by simp
  have hmsg := hG.isMsg
  rw [hlen] at hmsg
  refine ⟨rfl, .slice (some ⟨r, 0, none⟩) (p.length - 4) (p.length - 4), .tuple #[], ?_, hmsg, fun w₂ hR => ?_⟩
  · rw [stepG_comm rfl (by rfl) hk (cases := #[scase E.Ch (.slice (some ⟨r, 0, none⟩) (p.length - 4) (p.length - 4)) (.tuple #[])]) (blocking := true) (shape := .send) (w' := w₁) (by simp [execOp, scase, Act.eval])]
    rw [listed_nil (by simp [go_sem, execOp, Act.eval])]
    rfl
  · replace hG := hG.rely O hR
    clear hR
    obtain ⟨mn, hn⟩ := hnext (.slice (some ⟨r, 0, none⟩) (p.length - 4) (p.length - 4))
    obtain ⟨m8, h8⟩ := cut8_c (sent := sent ++ [(p.drop 4, .slice (some ⟨r, 0, none⟩) (p.length - 4) (p.length - 4))]) (p := p) (tl := false) (k := k) (FB := FB) (PostA := PostA) O (by omega) bv (.chan (some E.Ch)) n
    refine (bsends_iff _ _ _ _ _).2 ⟨mn + m8 + 1, ?_⟩
    rw [served_at rfl]
    refine goes_ctl (termsB (E.cfg k FB PostA) _) rfl (fun w => stepG_region_end) ?_
    obtain ⟨u', hu'⟩ := cutAct_of (c := .pointer (some ⟨E.R, 0, none⟩)) (b := bv) (ch := .chan (some E.Ch)) (n := n) { tmps := #[.pointer (some ⟨E.R, 0, none⟩), bv, .chan (some E.Ch), undef, undef, undef, n, u 7, u 8, u 9, u 10, u 11, u 12, u 13, u 14, u 15, u 16, u 17, u 18, u 19, u 20, u 21, u 22, u 23, u 24, u 25, u 26, u 27, u 28, u 29, u 30, u 31, u 32, u 33, u 34, u 35, u 36, u 37, u 38, u 39, u 40, .chan (some E.Ch), .pointer (some ⟨E.R, 0, none⟩), .slice (some ⟨r, 0, none⟩) (p.length - 4) (p.length - 4), u 44, u 45, u 46, u 47, u 48, u 49, u 50, u 51], defers := [] } rfl
    have hgo := wpC_goes (b := b0) (k := .inBlock 1 :: loopK) (cs := cs) (m := mn) (Stop := BStop (E.cfg k FB PostA) bodies (sent ++ [(p.drop 4, .slice (some ⟨r, 0, none⟩) (p.length - 4) (p.length - 4))])) (h8 v w₂ u' hG.told) hb hk fun e a' w' q => by
      obtain ⟨rfl, ⟨u', rfl⟩, v', hF⟩ := q
      exact hn _ _ _ hF
    rw [← hu'] at hgo
    exact hgo

end
end Go.Proofs.YtlghcldiboecoaaGreatDoor.Cu

/- cut as a whole: all its sends, and its end. -/
set_option maxRecDepth 100000
namespace Go.Proofs.YtlghcldiboecoaaGreatDoor.Cu
open Go Go.Conc Go.Pair Go.RowKit
section
variable {E : EP} {k : Nat} {FB : List (List UInt8 × Value) → World → Prop} {PostA : List (List UInt8 × Value) → Goroutine → World → Prop} {b0 : Frame} {cs : List Frame}

theorem loop_c (O : E.Ok) (hb : b0.fn = 161) (hk : b0.kind ≠ .early) {p bs : List UInt8} {bodies : List (List UInt8)} {q : List UInt8} {t : Bool} (hC : Cuts p bs bodies q t) (hend : AfterCut E k FB PostA b0 cs q t) :
    ∀ (sent : List (List UInt8 × Value)) (ba : Option Addr) (cap : Nat) (n : Value), OkP p → SrcAt E ba bs cap → ∃ m, ∀ v w u, BView E sent p v false w →
      Goes Tryz.prog false (RB (E.cfg k FB PostA)) (DB (E.cfg k FB PostA) sent) (BStop (E.cfg k FB PostA) bodies sent) m (G (b0.at (CutAct (.pointer (some ⟨E.R, 0, none⟩)) (.slice ba bs.length cap) (.chan (some E.Ch)) n u) (.code cutLoop :: loopK)) cs) w := by
  have hsome : ∀ {bs : List UInt8} {ba : Option Addr} {cap : Nat}, bs ≠ [] → SrcAt E ba bs cap → ∃ x o, ba = some ⟨x, o, none⟩ := fun hne h => by
    rcases h with h | ⟨x, o, _, h, _⟩
    · exact absurd h hne
    · exact ⟨x, o, h⟩
  induction hC with
  | done p =>
    intro sent ba cap n hp hs
    have T := termsB (E.cfg k FB PostA) sent
    obtain ⟨m0, h0⟩ := cut0_end (sent := sent) (p := p) (tl := false) (k := k) (FB := FB) (PostA := PostA) O ba cap (.chan (some E.Ch)) n
    obtain ⟨me, he⟩ := hend sent
    refine ⟨me + 1 + m0 + 1, fun v w u hF => ?_⟩
    rw [loop_eq]
    refine goes_ctl T rfl (fun w => stepG_seq) ?_
    refine wpC_goes (h0 v w u hF) hb hk fun e a' w' q => ?_
    obtain ⟨rfl, ⟨u', rfl⟩, hF⟩ := q
    exact ⟨[], rfl, goes_ctl T rfl (fun w => stepG_end) (he _ _ _ _ _ _ hF)⟩
  | @long p bs hne hl =>
    intro sent ba cap n hp hs
    have T := termsB (E.cfg k FB PostA) sent
    obtain ⟨x, o, rfl⟩ := hsome hne hs
    obtain ⟨mp, hpre⟩ := round_pre (k := k) (FB := FB) (PostA := PostA) (cs := cs) O hb hk hp hne hs sent n
    obtain ⟨m4, h4⟩ := cut4_long (sent := sent) (p := nextP p bs) (tl := false) (k := k) (FB := FB) (PostA := PostA) O hl (.slice (behindAt x o (nn p bs) cap) (bs.length - nn p bs) (cap - nn p bs)) (.chan (some E.Ch)) (.int .i64 (nn p bs : Nat))
    obtain ⟨me, he⟩ := hend sent
    refine ⟨me + m4 + 1 + mp, fun v w u hF => hpre v w u hF _ _ fun v' w' u' hF => ?_⟩
    refine goes_ctl T rfl (fun w => stepG_seq) ?_
    refine wpC_goes (h4 v' w' u' hF) hb hk fun e a' w' q => ?_
    obtain ⟨rfl, ⟨u', rfl⟩, v'', hF⟩ := q
    exact fun todo => he _ _ _ _ _ _ hF
  | @body p bs bodies q t hne hl hm _ ih =>
    intro sent ba cap n hp hs
    have T := termsB (E.cfg k FB PostA) sent
    obtain ⟨x, o, rfl⟩ := hsome hne hs
    have hbig := nextP_lt (bs := bs) hp
    obtain ⟨mp, hpre⟩ := round_pre (k := k) (FB := FB) (PostA := PostA) (cs := cs) O hb hk hp hne hs sent n
    obtain ⟨m4, h4⟩ := cut4_ok (sent := sent) (p := nextP p bs) (tl := false) (k := k) (FB := FB) (PostA := PostA) O hl (.slice (behindAt x o (nn p bs) cap) (bs.length - nn p bs) (cap - nn p bs)) (.chan (some E.Ch)) (.int .i64 (nn p bs : Nat))
    obtain ⟨m6, h6⟩ := cut6_c (sent := sent) (p := nextP p bs) (tl := false) (k := k) (FB := FB) (PostA := PostA) O (by omega) (.slice (behindAt x o (nn p bs) cap) (bs.length - nn p bs) (cap - nn p bs)) (.chan (some E.Ch)) (.int .i64 (nn p bs : Nat))
    obtain ⟨ms, hsend⟩ := send_c (k := k) (FB := FB) (PostA := PostA) (b0 := b0) (cs := cs) (sent := sent) (p := nextP p bs) (bodies := bodies) O hb hk hm hbig (.slice (behindAt x o (nn p bs) cap) (bs.length - nn p bs) (cap - nn p bs)) (.int .i64 (nn p bs : Nat)) fun vv => by
      obtain ⟨mi, hi⟩ := ih hend (sent ++ [((nextP p bs).drop 4, vv)]) (behindAt x o (nn p bs) cap) (cap - nn p bs) (.int .i64 (nn p bs : Nat)) okP_nil hs.drop
      rw [List.length_drop] at hi
      exact ⟨mi + 1 + 1, fun v w u hF => goes_ctl (termsB _ _) rfl (fun w => stepG_inBlock) (goes_ctl (termsB _ _) rfl (fun w => stepG_inLoop) (hi v w u hF))⟩
    refine ⟨ms + 1 + m6 + 1 + m4 + 1 + mp, fun v w u hF => hpre v w u hF _ _ fun v' w' u' hF => ?_⟩
    refine goes_ctl T rfl (fun w => stepG_seq) ?_
    refine wpC_goes (h4 v' w' u' hF) hb hk fun e a' w' q => ?_
    obtain ⟨rfl, ⟨u', rfl⟩, hF⟩ := q
    rw [five_eq]
    refine goes_ctl T rfl (fun w => stepG_seq) ?_
    refine wpC_goes (h6 v' w' u' hF) hb hk fun e a' w' q => ?_
    obtain ⟨rfl, ⟨u', rfl, h40⟩, hF⟩ := q
    exact goes_ctl T rfl (fun w => stepG_cond (t := true) (by rw [show (CutAct (.pointer (some ⟨E.R, 0, none⟩)) (.slice (behindAt x o (nn p bs) cap) (bs.length - nn p bs) (cap - nn p bs)) (.chan (some E.Ch)) (.int .i64 (nn p bs : Nat)) u').eval (.tmp 40) = u' 40 from rfl, h40]; simp [hm])) (hsend v' w' u' hF)
  | @more p bs bodies q t hne hl hm _ ih =>
    intro sent ba cap n hp hs
    have T := termsB (E.cfg k FB PostA) sent
    obtain ⟨x, o, rfl⟩ := hsome hne hs
    have hbig := nextP_lt (bs := bs) hp
    obtain ⟨mp, hpre⟩ := round_pre (k := k) (FB := FB) (PostA := PostA) (cs := cs) O hb hk hp hne hs sent n
    obtain ⟨m4, h4⟩ := cut4_ok (sent := sent) (p := nextP p bs) (tl := false) (k := k) (FB := FB) (PostA := PostA) O hl (.slice (behindAt x o (nn p bs) cap) (bs.length - nn p bs) (cap - nn p bs)) (.chan (some E.Ch)) (.int .i64 (nn p bs : Nat))
    obtain ⟨m6, h6⟩ := cut6_c (sent := sent) (p := nextP p bs) (tl := false) (k := k) (FB := FB) (PostA := PostA) O (by omega) (.slice (behindAt x o (nn p bs) cap) (bs.length - nn p bs) (cap - nn p bs)) (.chan (some E.Ch)) (.int .i64 (nn p bs : Nat))
    obtain ⟨mi, hi⟩ := ih hend sent (behindAt x o (nn p bs) cap) (cap - nn p bs) (.int .i64 (nn p bs : Nat)) (nextP_ok hp hl hm) hs.drop
    rw [List.length_drop] at hi
    refine ⟨mi + 1 + 1 + 1 + 1 + m6 + 1 + m4 + 1 + mp, fun v w u hF => hpre v w u hF _ _ fun v' w' u' hF => ?_⟩
    refine goes_ctl T rfl (fun w => stepG_seq) ?_
    refine wpC_goes (h4 v' w' u' hF) hb hk fun e a' w' q => ?_
    obtain ⟨rfl, ⟨u', rfl⟩, hF⟩ := q
    rw [five_eq]
    refine goes_ctl T rfl (fun w => stepG_seq) ?_
    refine wpC_goes (h6 v' w' u' hF) hb hk fun e a' w' q => ?_
    obtain ⟨rfl, ⟨u', rfl, h40⟩, hF⟩ := q
    refine goes_ctl T rfl (fun w => stepG_cond (t := false) (by rw [show (CutAct (.pointer (some ⟨E.R, 0, none⟩)) (.slice (behindAt x o (nn p bs) cap) (bs.length - nn p bs) (cap - nn p bs)) (.chan (some E.Ch)) (.int .i64 (nn p bs : Nat)) u').eval (.tmp 40) = u' 40 from rfl, h40]; simp [hm])) ?_
    refine goes_ctl T rfl (fun w => stepG_skip) ?_
    exact goes_ctl (termsB _ _) rfl (fun w => stepG_inBlock) (goes_ctl (termsB _ _) rfl (fun w => stepG_inLoop) (hi v' w' u' hF))

end
end Go.Proofs.YtlghcldiboecoaaGreatDoor.Cu

/- Each's goroutine: the two deferred calls, cut, the close, the end. -/
set_option maxRecDepth 100000
namespace Go.Pair
open Go Go.Conc
section
variable {P : Program} {main : Bool} {b : Frame} {a : Act} {k : List Item} {cs : List Frame} {w : World}
def dclose (t ty : TypeId) (c : Nat) : Deferred := { target := .builtin .close #[t] ty #[false], args := #[.chan (some c)] }

theorem stepG_defer_close {ops : Array Oper} {i : Nat} {rest : List Nat} {o : Oper} {x : Tmp} {t : TypeId} {c : Nat} (ho : ops[i]? = some o) (hw : Region.wanted o (yielded ops a.tmps) = true) (hk : b.kind ≠ .early)
    (hop : o.op = .defer { callee := .builtin .close, args := #[.tmp x], argTypes := #[t] }) (hx : a.eval (.tmp x) = .chan (some c)) :
    stepG P main (G (b.at a (.inRegion ops (i :: rest) :: k)) cs) w = .go (G (b.at (Act.put ⟨a.tmps, dclose t o.type c :: a.defers⟩ o.dst undef) (.inRegion ops rest :: k)) cs) w #[] := by
  have hr : (execOp a.eval o).run P w = .ok (.defer (dclose t o.type c)) w := by
    unfold execOp
    simp [hop, resolve, dclose, hx]
  have he : (execOp a.eval o).events P w #[] = #[] := by
    unfold execOp
    simp [hop, resolve]
  have hfin : (b.at ⟨a.tmps, dclose t o.type c :: a.defers⟩ (.inRegion ops (i :: rest) :: k)).finish undef = b.at (Act.put ⟨a.tmps, dclose t o.type c :: a.defers⟩ o.dst undef) (.inRegion ops rest :: k) := by rw [Frame.finish_at, ho]; rfl
  have hk' : (b.kind == CallKind.early) = false := by simpa using hk
  rw [stepG_oper ho hw, ← hfin]
  simp [stepG.apply, hr, he, G, Frame.at, hk', GStep.after, seen_none]

theorem stepG_unwind_close {todo : List Item} {ds : List Deferred} {t ty : TypeId} {c s r : Nat} {tm : Bool} (hd : a.defers = dclose t ty c :: ds) (hq : (P.funcs[b.fn]?).any (·.norace) = false) (hc : w.heap[c]? = some (.chan 0 #[] false s r tm)) :
    stepG P main (G { b.at a todo with mode := .returning } cs) w = .go (G { b.at ⟨a.tmps, ds⟩ todo with mode := .returning } cs) (w.shut c s r tm) #[⟨.obj c, false, true⟩, ⟨.obj c, true, true⟩] := by
  have hr : (invoke (.builtin .close #[t] ty #[false]) #[.chan (some c)]).run P w = .ok (.value (.tuple #[])) (w.shut c s r tm) := by
    simp only [invoke, builtin, Sem.run_bind, run_close_open (P := P) #[t] ty hc]
    rfl
  have he : (invoke (.builtin .close #[t] ty #[false]) #[.chan (some c)]).events P w #[] = #[⟨.obj c, false, true⟩, ⟨.obj c, true, true⟩] := by
    simp only [invoke, builtin, Sem.events_bind, events_close_open (P := P) #[t] ty hc, run_close_open (P := P) #[t] ty hc]
    rfl
  have hl : seen P b.fn #[⟨.obj c, false, true⟩, ⟨.obj c, true, true⟩] = #[⟨.obj c, false, true⟩, ⟨.obj c, true, true⟩] := seen_eq hq (by intro e he f; simp only [List.mem_toArray, List.mem_cons, List.not_mem_nil, or_false] at he; rcases he with rfl | rfl <;> simp)
  simp [G, stepG, unwind, callDeferred, Frame.at, hd, dclose, hr, he, GStep.after, hl]

end
end Go.Pair
namespace Go.Proofs.YtlghcldiboecoaaGreatDoor.Cu
open Go Go.Conc Go.Pair Go.RowKit

noncomputable def bot : Frame := { (default : Frame) with fn := Tryz.prog.funcs.size, defers := [], mode := .panicking [goexitEntry] }
noncomputable def body15 : Code := Tryz.f159.body.getD .skip
def call15 (W B Cv Bv : Nat) : Deferred := { target := .fn (.func 159) #[.pointer (some ⟨W, 0, none⟩), .pointer (some ⟨B, 0, none⟩), .pointer (some ⟨Cv, 0, none⟩), .pointer (some ⟨Bv, 0, none⟩)], args := #[] }

theorem born15 (W B Cv Bv : Nat) (w : World) : stepG Tryz.prog false (born Tryz.prog (call15 W B Cv Bv)) w =
    .go (G ((baseD 159).at ⟨#[.pointer (some ⟨W, 0, none⟩), .pointer (some ⟨B, 0, none⟩), .pointer (some ⟨Cv, 0, none⟩), .pointer (some ⟨Bv, 0, none⟩), undef, undef, undef, undef, undef], []⟩ [.code body15]) [bot]) w #[] := by
  simp [born, call15, stepG, unwind, callDeferred, invoke, callFunc, Tryz.func159, Tryz.f159, seen, GStep.after, G, Frame.enter, Frame.at, baseD, bot, body15]

theorem quits15 (T : Array Value) : QuitsD Tryz.prog 2 0 (G { (baseD 159).at ⟨T, []⟩ [] with mode := .returning } [bot]) := by
  refine QuitsD.ctl (g' := G bot []) rfl (fun w => ?_) ?_
  · simp [G, stepG, unwind, doReturn, results, Frame.at, baseD, bot, Tryz.func159, Tryz.f159, seen, GStep.after, goexitEntry]
  refine QuitsD.ctl (g' := { G bot [] with status := .finished }) rfl (fun w => ?_) ⟨rfl, rfl⟩
  simp [G, stepG, unwind, bot, goexitEntry, Frame.catches]
  rfl

section
variable {E : EP} {k : Nat} {FB : List (List UInt8 × Value) → World → Prop} {PostA : List (List UInt8 × Value) → Goroutine → World → Prop}

theorem evFix (O : E.Ok) {i j : Nat} {o : Obj} {w : World} (h : E.Fix i = some o) (hns : ∀ a : Addr, a.block = i → ¬ E.Shun (.cell a)) (hw : w.heap[i]? = some o) : EvP (E.cfg k FB PostA).LB w ⟨.cell ⟨i, j, none⟩, false, false⟩ :=
  .inr ⟨_, _, rfl, ⟨_, rfl, .inr (.inr ⟨rfl, (O.fix i o h).still rfl (hns _ rfl)⟩)⟩, lt_of_get hw⟩

set_option maxRecDepth 100000 in
set_option maxHeartbeats 1000000 in
theorem tail15 (O : E.Ok) (OC : (E.cfg k FB PostA).Ok) {q : List UInt8} {t : Bool} (hFB : ∀ sent v w, BView E sent q v t w → FB sent w) (T : Array Value) (sent : List (List UInt8 × Value)) (v : Value) (w : World) (hF : BView E sent q v t w) :
    BClose (E.cfg k FB PostA) sent (G { (baseD 159).at ⟨T, [dclose 261 0 E.Ch, dcall 160 #[.pointer (some ⟨E.Wg, 0, none⟩)]]⟩ [] with mode := .returning } [bot]) w := by
  refine ⟨rfl, rfl, fun s r tm hch => ⟨_, stepG_unwind_close rfl (by rfl) hch, rfl, 103 + 1, ?_⟩⟩
  have hG := hF.rely O (put_ch (sent := sent) (w := w) OC (o := .chan 0 #[] true s r tm)).2
  refine goes_ctl (termsB (E.cfg k FB PostA) sent) rfl (fun w => stepG_unwind_enter (f := 160) rfl Tryz.func160 (by rfl) rfl) ?_
  refine goes_monoD (fun _ _ _ h => D0.db _ _ h) ?_
  have := doneW OC Tryz.wgLib rfl (c := { (baseD 159).at ⟨T, []⟩ [] with mode := .returning }) (cs := [bot]) (qt := 2) rfl (quits15 T) _ ⟨hG.wg, hFB _ _ _ hG⟩
  exact this

end
end Go.Proofs.YtlghcldiboecoaaGreatDoor.Cu
