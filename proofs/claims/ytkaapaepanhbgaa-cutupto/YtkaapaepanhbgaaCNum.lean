/- number.Append. -/
import Derived.Test.YtkaapaepanhbgaaCTold9
set_option linter.unusedVariables false
set_option linter.unusedSimpArgs false
namespace Go.Pair
open Go Go.Conc
section
variable {w w1 w2 w₁ : World} {e : TypeId} {v v1 v2 : Value} {xs ys : List Value}
theorem AppS.refl (h : RowIs w e xs v) : AppS w e v xs v w := ⟨h, Nat.le_refl _, fun _ _ _ => rfl, fun _ h => .inl h, fun i hi => let ⟨c, cells, _, x⟩ := h.own hi; ⟨cells, x⟩⟩
theorem AppS.trans (h : AppS w e v xs v1 w1) (h' : AppS w1 e v1 ys v2 w2) : AppS w e v ys v2 w2 := by
  have hs := h.size
  have hs' := h'.size
  refine ⟨h'.row, by omega, fun i hi hv => ?_, fun g hg => ?_, fun i hi => ?_⟩
  · rw [h'.keep i (by omega) (fun e1 => ?_), h.keep i hi hv]
    rcases h.own i e1 with h2 | h2
    · exact hv h2
    · omega
  · rcases h'.own g hg with h2 | h2
    · exact h.own g h2
    · right; omega
  · obtain ⟨cells, h3⟩ := h.kind i hi
    by_cases e1 : v1.ownBlock = some i
    · exact h'.kind i e1
    · exact ⟨cells, by rw [h'.keep i (lt_of_get h3) e1]; exact h3⟩
theorem RowIs.heapEq (h : RowIs w e xs v) (he : w1.heap = w.heap) : RowIs w1 e xs v := by
  rcases h with h1 | ⟨q, c, cells, h1, h2, h3, h4⟩
  · exact .inl h1
  · exact .inr ⟨q, c, cells, h1, h2, by rw [he]; exact h3, h4⟩
theorem AppS.rely (h : AppS w e v xs v1 w1) (r : AtRel w1 w₁) : AppS w e v xs v1 w₁ := by
  obtain ⟨d, rfl⟩ := r
  exact ⟨h.row, h.size, h.keep, h.own, h.kind⟩
end
end Go.Pair
namespace Go.Proofs.Ytkaapaepanhbgaa
open Go Go.Conc Go.Pair Go.RowKit

theorem bs5_run (w : World) (k : IntKind) (x : Int) : (Instr.buildSlice 25 1 #[(0, .int k x)]).run Try.prog w = .ok (.slice (some ⟨w.heap.size, 0, none⟩) 1 1) (w.alloc (.cells #[.int k x] 5)) := by
  obtain ⟨i0, hi, hz0, hz1, hz2⟩ := info5
  refine run_buildSlice w 25 5 1 _ _ i0 (.int .u8 0) un25 hi hz0 (by rw [hz1]; omega) (by rw [hz1]; omega) ?_
  rw [hz1]
  simp [Instr.fill, Value.cells, Array.range]
  rfl
theorem bs5_ev (w : World) (es : Array Event) (k : IntKind) (x : Int) : (Instr.buildSlice 25 1 #[(0, .int k x)]).events Try.prog w es = es := by
  obtain ⟨i0, hi, hz0, hz1, hz2⟩ := info5
  have h1 : Instr.fill (fun i => some (i * 1, 1)) ((Array.range (1 * 1)).map ((Value.int .u8 0).cells[· % (Value.int .u8 0).cells.size]!)) [(0, .int k x)] = some #[.int k x] := by
    simp [Instr.fill, Value.cells, Array.range]
    rfl
  simp only [Nat.mul_one] at h1
  simp [Instr.buildSlice, go_sem, run_underlying un25, sizeOf, typeInfo, zeroValue, hi, hz0, hz1, newRow, Result.evThen]
section
variable {Shun : Loc → Prop} {w w0 w' w₁ : World} {xs : List Value} {v : Value}

theorem byte_eq (n i : Nat) : IntKind.u8.wrap ((n : Int) / 2 ^ (8 * (i : Int)).toNat) = ((UInt8.ofNat (n / 2 ^ (8 * i))).toNat : Int) := by
  have h1 : (8 * (i : Int)).toNat = 8 * i := by omega
  rw [h1, IntKind.wrap_u8]
  have h2 : ((n : Int) / 2 ^ (8 * i)) = ((n / 2 ^ (8 * i) : Nat) : Int) := by simp
  rw [h2]
  simp [UInt8.toNat_ofNat']
/-- An append under way, and a list of one. -/
structure AppOne (w0 : World) (v0 : Value) (xs : List Value) (v : Value) (r : Nat) (x : Value) (w : World) : Prop where
  a : AppS w0 5 v0 xs v w
  one : RowIs w 5 [x] (.slice (some ⟨r, 0, none⟩) 1 1)
theorem AppOne.rely {v0 : Value} {r : Nat} {x : Value} (h : AppOne w0 v0 xs v r x w) (rr : AtRel w w₁) : AppOne w0 v0 xs v r x w₁ := by
  obtain ⟨d, rfl⟩ := rr
  exact ⟨h.a.rely ⟨d, rfl⟩, h.one⟩
theorem AppS.alloc {v0 : Value} {e : TypeId} (h : AppS w0 e v0 xs v w) (o : Obj) : AppS w0 e v0 xs v (w.alloc o) := by
  have hh : (w.alloc o).heap = w.heap.push o := rfl
  have old : ∀ i x, w.heap[i]? = some x → (w.alloc o).heap[i]? = some x := fun i x h => by rw [push_old hh (lt_of_get h)]; exact h
  have hs := h.size
  refine ⟨RowIs.back h.row (fun q o _ h => old q o h), by rw [hh, Array.size_push]; omega, fun i hi hv => ?_, h.own, fun i hi => let ⟨cells, x⟩ := h.kind i hi; ⟨cells, old _ _ x⟩⟩
  rw [push_old hh (by omega)]
  exact h.keep i hi hv
theorem AppOne.new {v0 : Value} (h : AppS w0 5 v0 xs v w) (x : Value) : AppOne w0 v0 xs v w.heap.size x (w.alloc (.cells #[x] 5)) :=
  ⟨AppS.alloc h _, .inr ⟨w.heap.size, 1, _, rfl, by simp, push_new (w := w) (w' := w.alloc (.cells #[x] 5)) rfl, rfl, fun i hi => by simp at hi; subst hi; rfl, by simp only [maxLen]; omega⟩⟩
theorem AppS.shun {v0 : Value} {e : TypeId} {xs0 : List Value} (h : AppS w0 e v0 xs v w) (h0 : RowIs w0 e xs0 v0) (hS : ShunW Shun w0) (he : e ≠ 58) : ShunW Shun w := fun l hl => by
  obtain ⟨a, e1, o, h1, h2⟩ := hS l hl
  by_cases hv : v0.ownBlock = some a.block
  · exfalso
    obtain ⟨c, cells, _, x⟩ := h0.own hv
    rw [h1] at x
    cases x
    simp [kindOf] at h2
    exact he h2
  · exact ⟨a, e1, o, by rw [h.keep _ (lt_of_get h1) hv]; exact h1, h2⟩

noncomputable def LN : Code := Code.core (Code.core (Code.two (Code.one (Code.two (Try.f11.body.getD .skip)))))
noncomputable def NAct (v : Value) (n i : Int) (u : Nat → Value) : Act :=
  { tmps := #[v, .int .i64 n, .int .i64 4, undef, undef, undef, .slice none 0 0, .int .i64 i, u 8, u 9, u 10, u 11, u 12, u 13, u 14, u 15, u 16, u 17, u 18, u 19, u 20, u 21, u 22, undef], defers := [] }
theorem nact_of {v : Value} {n i : Int} (a : Act) (h : a = NAct v n i fun j => a.tmps.getD j undef) : ∃ u, a = NAct v n i u := ⟨_, h⟩

set_option maxRecDepth 100000 in
set_option maxHeartbeats 1000000 in
/-- One round of number.Append. -/
theorem num_round (n i : Nat) (hi : i < 4) (hn : n < 4294967296) (hxs : xs.length ≤ 4294967296) : ∃ m, ∀ w0 v0 v w u xs0, ShunW Shun w0 → RowIs w0 5 xs0 v0 → AppS w0 5 v0 xs v w →
    LN.wpC Try.prog true AtRel (DS Shun) 11 m (fun e a' w' => e = .normal ∧ ∃ v', (∃ u', a' = NAct v' n (i - 1) u') ∧ AppS w0 5 v0 (xs ++ [.int .u8 (UInt8.ofNat (n / 2 ^ (8 * i))).toNat]) v' w') (NAct v n i u) w := by
  have T := termsS Shun
  have hge : (0 : Int) ≤ (i : Int) := by omega
  co_apply Exists.intro
  intro w0 v0 v w u xs0 hS h0 hF
  simp only [LN, Code.core, Code.one, Code.two, Try.f11, Option.getD_some, NAct]
  co_apply wpC_seq T
  co_apply wpC_seq T
  co_reg T
  co_op AppS.rely hF (co_quiet T)
  co_op AppS.rely hF (co_quiet T)
  co_apply opsC_nil T
  co_then
  co_apply wpC_cond T (t := true) rfl
  simp only [if_true]
  co_apply wpC_skip T
  co_then
  co_apply wpC_seq T
  co_apply wpC_block T
  co_reg T
  co_op AppS.rely hF (co_quiet T)
  co_op AppS.rely hF (co_quiet T)
  co_op AppS.rely hF (co_quiet T)
  co_op AppS.rely hF (co_quiet T)
  co_op AppS.rely hF (co_quiet T)
  have ew : IntKind.i64.wrap (8 * (i : Int)) = 8 * (i : Int) := by rw [IntKind.wrap_i64]; omega
  have en : IntKind.u64.wrap (n : Int) = (n : Int) := by rw [IntKind.wrap_u64]; omega
  simp only [ew, en]
  co_op AppS.rely hF (co_quiet T)
  co_op AppS.rely hF (co_quiet T)
  simp only [byte_eq n i]
  co_opw AppS.rely hF (have hbs := fun w => bs5_run w .u8 (UInt8.ofNat (n / 2 ^ (8 * i))).toNat; have hbe := fun w es => bs5_ev w es .u8 (UInt8.ofNat (n / 2 ^ (8 * i))).toNat) (rw [listed_nil (by simp [go_sem, hbe])]; exact ds_alloc _ _)
  have hG := AppOne.new hF (.int .u8 (UInt8.ofNat (n / 2 ^ (8 * i))).toNat)
  rename_i wz
  generalize wz.heap.size = r at hG ⊢
  clear hF hbs hbe
  co_apply opsC_cons rfl (by rfl)
  intro w₁ hR
  replace hG := hG.rely hR
  clear hR
  obtain ⟨i0, hi0, hz0, hz1, hz2⟩ := info5
  obtain ⟨v', w', hr, hA, hD⟩ := app_s (P := Try.prog) (Shun := Shun) 25 i0 (.int .u8 0) 1 un25 hi0 hz0 rfl hz1 hz2 hG.a.row hG.one.read ((AppS.shun hG.a h0 hS (by decide)).kind 5 (by decide)) (by simp; rfl) (by simp only [List.length_cons, List.length_nil, maxLen]; omega) (by simp only [List.length_cons, List.length_nil]; omega) (by omega)
  refine uponK_append (.tmp 14) (.tmp 21) 25 rfl rfl rfl hr ⟨hD _ fun e he => ?_, ?_⟩
  · have hm := mem_listed he
    rw [events_append_op (.tmp 14) (.tmp 21) 25 rfl rfl rfl] at hm
    exact hm
  have hF := hG.a.trans hA
  clear hr hD hA hG
  walk_nrm
  co_op AppS.rely hF (co_quiet T)
  co_apply opsC_nil T
  co_then
  co_reg T
  co_op AppS.rely hF (co_quiet T)
  co_op AppS.rely hF (co_quiet T)
  co_op AppS.rely hF (co_quiet T)
  have ew2 : IntKind.i64.wrap ((i : Int) - 1) = (i : Int) - 1 := by rw [IntKind.wrap_i64]; omega
  simp only [ew2]
  co_apply opsC_nil T
  exact ⟨rfl, _, nact_of _ rfl, hF⟩
end
end Go.Proofs.Ytkaapaepanhbgaa

/- number.Append, whole. -/
set_option linter.unusedVariables false
set_option linter.unusedSimpArgs false
namespace Go.Proofs.Ytkaapaepanhbgaa
open Go Go.Conc Go.Pair Go.RowKit

/-- A frame's head. -/
def hdr (n : Nat) : List UInt8 := [UInt8.ofNat (n / 2 ^ 24), UInt8.ofNat (n / 2 ^ 16), UInt8.ofNat (n / 2 ^ 8), UInt8.ofNat (n / 2 ^ 0)]
noncomputable def body11 : Code := Try.f11.body.getD .skip
theorem body11_eq : body11 = .seq (Code.one body11) (.seq (.seq (Code.one (Code.one (Code.two body11))) (.block 0 (.loop LN))) (Code.two (Code.two body11))) := rfl
section
variable {Shun : Loc → Prop} {w w0 w' w₁ : World} {xs : List Value} {v : Value}

set_option maxRecDepth 100000 in
set_option maxHeartbeats 1000000 in
theorem num_exit (n : Nat) : ∃ m, ∀ w0 v0 v w u, AppS w0 5 v0 xs v w →
    LN.wpC Try.prog true AtRel (DS Shun) 11 m (fun e a' w' => e = .exit 0 ∧ (∃ u', a' = NAct v n (-1) u') ∧ AppS w0 5 v0 xs v w') (NAct v n (-1) u) w := by
  have T := termsS Shun
  co_apply Exists.intro
  intro w0 v0 v w u hF
  simp only [LN, Code.core, Code.one, Code.two, Try.f11, Option.getD_some, NAct]
  co_apply wpC_seq (n₂ := 0) T
  co_apply wpC_seq T
  co_reg T
  co_op AppS.rely hF (co_quiet T)
  co_op AppS.rely hF (co_quiet T)
  co_apply opsC_nil T
  co_then
  co_apply wpC_cond T (t := false) rfl
  simp only [Bool.false_eq_true, if_false]
  co_apply wpC_exit T
  exact ⟨rfl, nact_of _ rfl, hF⟩

theorem num_loop (n : Nat) (hn : n < 4294967296) (hxs : xs.length + 4 ≤ 4294967296) : ∃ m, ∀ w0 v0 v w u xs0, ShunW Shun w0 → RowIs w0 5 xs0 v0 → AppS w0 5 v0 xs v w →
    (Code.loop LN).wpC Try.prog true AtRel (DS Shun) 11 m (fun e a' w' => e = .exit 0 ∧ ∃ v', (∃ u', a' = NAct v' n (-1) u') ∧ AppS w0 5 v0 (xs ++ bc (hdr n)) v' w') (NAct v n 3 u) w := by
  have T := termsS Shun
  obtain ⟨m3, h3⟩ := num_round (Shun := Shun) (xs := xs) n 3 (by omega) hn (by omega)
  obtain ⟨m2, h2⟩ := num_round (Shun := Shun) (xs := xs ++ [.int .u8 (UInt8.ofNat (n / 2 ^ (8 * 3))).toNat]) n 2 (by omega) hn (by simp; omega)
  obtain ⟨m1, h1⟩ := num_round (Shun := Shun) (xs := xs ++ [.int .u8 (UInt8.ofNat (n / 2 ^ (8 * 3))).toNat] ++ [.int .u8 (UInt8.ofNat (n / 2 ^ (8 * 2))).toNat]) n 1 (by omega) hn (by simp; omega)
  obtain ⟨m0, h0⟩ := num_round (Shun := Shun) (xs := xs ++ [.int .u8 (UInt8.ofNat (n / 2 ^ (8 * 3))).toNat] ++ [.int .u8 (UInt8.ofNat (n / 2 ^ (8 * 2))).toNat] ++ [.int .u8 (UInt8.ofNat (n / 2 ^ (8 * 1))).toNat]) n 0 (by omega) hn (by simp; omega)
  obtain ⟨me, he⟩ := num_exit (Shun := Shun) (xs := xs ++ [.int .u8 (UInt8.ofNat (n / 2 ^ (8 * 3))).toNat] ++ [.int .u8 (UInt8.ofNat (n / 2 ^ (8 * 2))).toNat] ++ [.int .u8 (UInt8.ofNat (n / 2 ^ (8 * 1))).toNat] ++ [.int .u8 (UInt8.ofNat (n / 2 ^ (8 * 0))).toNat]) n
  refine ⟨me + 1 + m0 + 1 + m1 + 1 + m2 + 1 + m3 + 1, fun w0 v0 v w u xs0 hS hr hF b k cs Stop M hb hk hc => ?_⟩
  refine Goes.mono (goes_ctl (n := (M + (me + 1 + m0 + 1 + m1 + 1 + m2 + 1)) + m3) T rfl (fun w => stepG_loop) ?_) (by omega)
  refine wpC_goes (h3 w0 v0 v w u xs0 hS hr hF) hb hk fun e a' w' q => ?_
  obtain ⟨rfl, v, ⟨u, rfl⟩, hF⟩ := q
  refine Goes.mono (goes_ctl (n := (M + (me + 1 + m0 + 1 + m1 + 1)) + m2) T rfl (fun w => stepG_inLoop) ?_) (by omega)
  refine wpC_goes (h2 w0 v0 v w' u xs0 hS hr hF) hb hk fun e a' w' q => ?_
  obtain ⟨rfl, v, ⟨u, rfl⟩, hF⟩ := q
  refine Goes.mono (goes_ctl (n := (M + (me + 1 + m0 + 1)) + m1) T rfl (fun w => stepG_inLoop) ?_) (by omega)
  refine wpC_goes (h1 w0 v0 v w' u xs0 hS hr hF) hb hk fun e a' w' q => ?_
  obtain ⟨rfl, v, ⟨u, rfl⟩, hF⟩ := q
  refine Goes.mono (goes_ctl (n := (M + (me + 1)) + m0) T rfl (fun w => stepG_inLoop) ?_) (by omega)
  refine wpC_goes (h0 w0 v0 v w' u xs0 hS hr hF) hb hk fun e a' w' q => ?_
  obtain ⟨rfl, v, ⟨u, rfl⟩, hF⟩ := q
  refine Goes.mono (goes_ctl (n := M + me) T rfl (fun w => stepG_inLoop) ?_) (by omega)
  refine wpC_goes (he w0 v0 v w' u hF) hb hk fun e a' w' q => ?_
  obtain ⟨rfl, ⟨u, rfl⟩, hF⟩ := q
  refine After.push rfl (by simp) (hc _ _ _ ⟨rfl, v, ⟨u, rfl⟩, ?_⟩)
  have e : xs ++ bc (hdr n) = xs ++ [.int .u8 (UInt8.ofNat (n / 2 ^ (8 * 3))).toNat] ++ [.int .u8 (UInt8.ofNat (n / 2 ^ (8 * 2))).toNat] ++ [.int .u8 (UInt8.ofNat (n / 2 ^ (8 * 1))).toNat] ++ [.int .u8 (UInt8.ofNat (n / 2 ^ (8 * 0))).toNat] := by
    simp only [bc, hdr, List.map_cons, List.map_nil, List.append_assoc, List.cons_append, List.nil_append]
  rw [e]
  exact hF

set_option maxRecDepth 100000 in
set_option maxHeartbeats 1000000 in
/-- number.Append(out, n, 4). -/
theorem num_c (n : Nat) (hn : n < 4294967296) (hxs : xs.length + 4 ≤ 4294967296) : ∃ m, ∀ v w, ShunW Shun w → RowIs w 5 xs v → CallsC Try.prog true AtRel (DS Shun) 11 #[v, .int .i64 n, .int .i64 4] m w fun x w' => AppS w 5 v (xs ++ bc (hdr n)) x w' := by
  have T := termsS Shun
  obtain ⟨ml, hl⟩ := num_loop (Shun := Shun) (xs := xs) n hn hxs
  co_apply Exists.intro
  intro v w hS hr
  have hF := AppS.refl hr
  generalize hw0 : w = w0 at hS hr
  rw [hw0] at hF
  rw [show AppS w0 5 v xs v w0 = AppS w0 5 v xs v w0 from rfl] at hF
  co_apply callsC_of_wpC Try.func11 (by rfl) rfl
  simp only [Try.ntmps11, List.size_toArray, List.length_cons, List.length_nil, Nat.reduceAdd, Nat.reduceSub, Array.replicate_succ, Array.replicate_zero, List.push_toArray, List.append_toArray, List.nil_append, List.cons_append]
  co_apply wpC_seq T
  co_reg T
  co_op AppS.rely hF (co_quiet T)
  co_apply opsC_nil T
  co_then
  co_apply wpC_seq T
  co_apply wpC_seq T
  co_reg T
  co_op AppS.rely hF (co_quiet T)
  co_op AppS.rely hF (co_quiet T)
  co_op AppS.rely hF (co_quiet T)
  co_apply opsC_nil T
  co_then
  co_apply wpC_block T
  co_applyP wpC_mono (hl w0 v v _ (fun i => if i = 8 then .int .i64 4 else if i = 9 then .int .i64 3 else undef) xs hS hr hF)
  rintro e a' w' ⟨rfl, v', ⟨u', rfl⟩, hF⟩
  co_then
  simp only [NAct]
  co_apply wpC_seq T
  co_reg T
  co_op AppS.rely hF (co_quiet T)
  co_op AppS.rely hF (co_quiet T)
  co_apply opsC_nil T
  co_then
  co_apply wpC_ret T
  exact ⟨rfl, _, resultsC_tmp (t := 6) (by rfl) _, hF⟩
end
end Go.Proofs.Ytkaapaepanhbgaa
