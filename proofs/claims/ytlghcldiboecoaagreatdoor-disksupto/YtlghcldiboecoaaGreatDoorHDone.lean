/- A worker's 'defer wg.Done()', from the moment the deferred call is entered: 'release', 'disable', the atomic step; then it leaves, or wakes who waits. -/
import Derived.Test.YtlghcldiboecoaaGreatDoorQ19
import Derived.Conc.FxGenAddNeg
set_option linter.unusedVariables false
set_option linter.unusedSimpArgs false
namespace Go.Pair
open Go Go.Conc Go.ConcX.Gen Go.RowKit Go.Conc.Lib

theorem WgIs.c0 {ty : TypeId} {Wg : Nat} {w : World} {st sm : Int} (h : WgIs ty Wg w st sm) : w.cell? (stW Wg) = some (.int .u64 st) := by
  unfold WgIs at h
  simp [World.cell?, stW, wgO, h]

theorem WgAny.cell0 {ty : TypeId} {Wg : Nat} {w : World} (h : WgAny ty Wg w) : ∃ v, w.cell? ⟨Wg, 0, none⟩ = some v := let ⟨st, sm, x⟩ := h; ⟨_, x.c0⟩

variable {C : Cfg} {L : WgLink}
theorem kb_rely (O : C.Ok) {sent : List (C.β × Value)} {w w₁ : World} (h : WgAny C.ty C.Wg w ∧ C.FB sent w) (r : RB C w w₁) : WgAny C.ty C.Wg w₁ ∧ C.FB sent w₁ := ⟨r.wg h.1, O.fbB _ _ _ r.keep h.2⟩

noncomputable def bodyAdd (L : WgLink) : Code := (addFn L).body.getD .skip
set_option maxRecDepth 100000 in
set_option maxHeartbeats 4000000 in
theorem addNeg (O : C.Ok) {sent : List (C.β × Value)} (H : WgLib C.P L) (hty : C.ty = L.tWg) {b₀ : Frame} {a₀ : Act} {ops₀ : Array Oper} {i₀ : Nat} {rest₀ : List Nat} {k₀ : List Item} {cs : List Frame} {qt : Nat}
    (hT : QuitsD C.P qt 0 (G (b₀.at (a₀.put ((ops₀[i₀]?).bind (·.dst)) (.tuple #[])) (.inRegion ops₀ rest₀ :: k₀)) cs)) (w : World) (hK : WgAny C.ty C.Wg w ∧ C.FB sent w) :
    Goes C.P false (RB C) D0 (BR0 C sent) 100 (G ((base L.add).at ⟨#[.pointer (some ⟨C.Wg, 0, none⟩), .int .i64 (-1)] ++ Array.replicate 115 undef, []⟩ [.code (bodyAdd L)]) (b₀.at a₀ (.inRegion ops₀ (i₀ :: rest₀) :: k₀) :: cs)) w := by
  lib_facts
  simp only [bodyAdd, addFn, Option.getD_some, Array.replicate_succ, Array.replicate_zero, List.push_toArray, List.append_toArray, List.nil_append, List.cons_append]
  have wgc : ∀ {w : World} {st sm : Int}, WgIs C.ty C.Wg w st sm → w.cell? ⟨C.Wg, 0, none⟩ = some (.int .u64 st) ∧ w.frozen? ⟨C.Wg, 0, none⟩ = false ∧ w.cell? ⟨C.Wg, 1, none⟩ = some (.int .u32 sm) ∧ w.frozen? ⟨C.Wg, 1, none⟩ = false := fun h => by
    unfold WgIs at h
    simp [World.cell?, World.frozen?, wgO, h]
  u_c stepG_seq (kb_rely O) hK
  u_cond true (kb_rely O) hK
  u_c stepG_seq (kb_rely O) hK
  u_c stepG_seq (kb_rely O) hK
  u_reg (kb_rely O) hK
  u_op (kb_rely O) hK
  u_op (kb_rely O) hK
  u_c stepG_region_end (kb_rely O) hK
  u_cond true (kb_rely O) hK
  u_reg (kb_rely O) hK
  u_op (kb_rely O) hK
  u_in (kb_rely O) hK
  refine goes_oper_k rfl rfl (by k_ne) (fun Kx hKx => ?_)
  have hcv := run_convert_to_unsafe (P := C.P) H.underlying_tWgP H.underlying_tUP H.room_tWg (WgAny.cell0 hK.1).choose_spec
  have hce := fun es => events_convert_to_unsafe (P := C.P) H.underlying_tWgP H.underlying_tUP H.room_tWg (WgAny.cell0 hK.1).choose_spec es
  go_simp
  refine hKx _ _ ⟨?_, ?_⟩
  · u_none
    intro ex hex
    have hmx := mem_listed hex
    simp [go_sem, hce] at hmx
  clear hKx Kx hcv hce
  refine Goes.stop (fun w₁ h₁ => ?_)
  replace hK := kb_rely O hK h₁
  clear h₁
  refine ⟨rfl, hK.2, _, stepG_markAt .releaseMerge (by simp) rfl rfl (by k_ne) rfl H.f_relMerge (x_relMerge_n L) (x_relMerge_b L) (x_relMerge_x L) (x_relMerge_f L) (by simp [Act.eval, stW]), 100, ?_⟩
  walk_nrm
  u_c stepG_region_end (kb_rely O) hK
  u_c stepG_seq (kb_rely O) hK
  u_reg (kb_rely O) hK
  refine Goes.stop (fun w₁ h₁ => ?_)
  replace hK := kb_rely O hK h₁
  clear h₁
  refine ⟨rfl, _, stepG_mark0 .disable (by simp) rfl rfl (by k_ne) rfl H.f_disable (x_disable_n L) (x_disable_b L) (x_disable_x L) (x_disable_f L), 100, ?_⟩
  walk_nrm
  u_c stepG_region_end (kb_rely O) hK
  u_reg (kb_rely O) hK
  u_defer (kb_rely O) hK
  u_c stepG_region_end (kb_rely O) hK
  u_c stepG_seq (kb_rely O) hK
  u_reg (kb_rely O) hK
  u_op (kb_rely O) hK
  u_c stepG_region_end (kb_rely O) hK
  u_c stepG_seq (kb_rely O) hK
  u_c stepG_seq (kb_rely O) hK
  u_reg (kb_rely O) hK
  u_bub (kb_rely O) hK
  u_c stepG_region_end (kb_rely O) hK
  u_cond false (kb_rely O) hK
  u_c stepG_skip (kb_rely O) hK
  u_c stepG_seq (kb_rely O) hK
  u_reg (kb_rely O) hK
  u_op (kb_rely O) hK
  u_op (kb_rely O) hK
  u_op (kb_rely O) hK
  u_op (kb_rely O) hK
  u_op (kb_rely O) hK
  u_op (kb_rely O) hK
  u_call H.f_uAdd (nm_uAdd L) uAddFn (kb_rely O) hK
  u_c stepG_seq (kb_rely O) hK
  u_reg (kb_rely O) hK
  u_op (kb_rely O) hK
  u_c stepG_region_end (kb_rely O) hK
  u_c stepG_seq (kb_rely O) hK
  u_reg (kb_rely O) hK
  u_op (kb_rely O) hK
  u_op (kb_rely O) hK
  u_op (kb_rely O) hK
  u_op (kb_rely O) hK
  refine Goes.stop (fun w₁ h₁ => ?_)
  replace hK := kb_rely O hK h₁
  clear h₁
  have e0 : IntKind.u64.wrap (KK + 18446744069414584320) = 0 := by decide
  have e1 : IntKind.u64.wrap (KK + 1 + 18446744069414584320) = 1 := by decide
  refine ⟨rfl, fun hw => ?_, fun hw => ?_⟩
  · refine ⟨_, (stepG_add_atomic rfl rfl (by k_ne) rfl H.f_addU64 (x_addU64_n L) (x_addU64_b L) (x_addU64_x L) .u64 (x_addU64_f L) rfl rfl (wgc hw).1 (wgc hw).2.1).trans (by rw [e0]; rfl), qt + 89, ?_⟩
    walk_nrm
    clear hK hw
    apply QuitsD.value _ rfl rfl (by k_ne)
    · intro w; go_simp; (try w_num); exact rfl
    · intro w; simp [go_sem, *]
    walk_nrm
    q_c stepG_region_end
    q_c stepG_ret'
    q_leave1 H.f_uAdd
    apply QuitsD.value _ rfl rfl (by k_ne)
    · intro w; go_simp; (try w_num); exact rfl
    · intro w; simp [go_sem, *]
    walk_nrm
    q_c stepG_region_end
    q_c stepG_seq
    q_c stepG_seq
    q_reg
    apply QuitsD.value _ rfl rfl (by k_ne)
    · intro w; go_simp; (try w_num); exact rfl
    · intro w; simp [go_sem, *]
    walk_nrm
    apply QuitsD.value _ rfl rfl (by k_ne)
    · intro w; go_simp; (try w_num); exact rfl
    · intro w; simp [go_sem, *]
    walk_nrm
    apply QuitsD.value _ rfl rfl (by k_ne)
    · intro w; go_simp; (try w_num); exact rfl
    · intro w; simp [go_sem, *]
    walk_nrm
    apply QuitsD.value _ rfl rfl (by k_ne)
    · intro w; go_simp; (try w_num); exact rfl
    · intro w; simp [go_sem, *]
    walk_nrm
    q_skip
    q_skip
    apply QuitsD.value _ rfl rfl (by k_ne)
    · intro w; go_simp; (try w_num); exact rfl
    · intro w; simp [go_sem, *]
    walk_nrm
    q_c stepG_region_end
    q_cond false
    q_c stepG_skip
    q_c stepG_seq
    q_reg
    apply QuitsD.value _ rfl rfl (by k_ne)
    · intro w; go_simp; (try w_num); exact rfl
    · intro w; simp [go_sem, *]
    walk_nrm
    apply QuitsD.value _ rfl rfl (by k_ne)
    · intro w; go_simp; (try w_num); exact rfl
    · intro w; simp [go_sem, *]
    walk_nrm
    apply QuitsD.value _ rfl rfl (by k_ne)
    · intro w; go_simp; (try w_num); exact rfl
    · intro w; simp [go_sem, *]
    walk_nrm
    apply QuitsD.value _ rfl rfl (by k_ne)
    · intro w; go_simp; (try w_num); exact rfl
    · intro w; simp [go_sem, *]
    walk_nrm
    q_c stepG_region_end
    q_c stepG_seq
    q_reg
    apply QuitsD.value _ rfl rfl (by k_ne)
    · intro w; go_simp; (try w_num); exact rfl
    · intro w; simp [go_sem, *]
    walk_nrm
    apply QuitsD.value _ rfl rfl (by k_ne)
    · intro w; go_simp; (try w_num); exact rfl
    · intro w; simp [go_sem, *]
    walk_nrm
    apply QuitsD.value _ rfl rfl (by k_ne)
    · intro w; go_simp; (try w_num); exact rfl
    · intro w; simp [go_sem, *]
    walk_nrm
    apply QuitsD.value _ rfl rfl (by k_ne)
    · intro w; go_simp; (try w_num); exact rfl
    · intro w; simp [go_sem, *]
    walk_nrm
    q_c stepG_region_end
    q_c stepG_seq
    q_c stepG_seq
    q_reg
    apply QuitsD.value _ rfl rfl (by k_ne)
    · intro w; go_simp; (try w_num); exact rfl
    · intro w; simp [go_sem, *]
    walk_nrm
    apply QuitsD.value _ rfl rfl (by k_ne)
    · intro w; go_simp; (try w_num); exact rfl
    · intro w; simp [go_sem, *]
    walk_nrm
    apply QuitsD.value _ rfl rfl (by k_ne)
    · intro w; go_simp; (try w_num); exact rfl
    · intro w; simp [go_sem, *]
    walk_nrm
    apply QuitsD.value _ rfl rfl (by k_ne)
    · intro w; go_simp; (try w_num); exact rfl
    · intro w; simp [go_sem, *]
    walk_nrm
    apply QuitsD.value _ rfl rfl (by k_ne)
    · intro w; go_simp; (try w_num); exact rfl
    · intro w; simp [go_sem, *]
    walk_nrm
    q_skip
    q_skip
    q_skip
    q_skip
    apply QuitsD.value _ rfl rfl (by k_ne)
    · intro w; go_simp; (try w_num); exact rfl
    · intro w; simp [go_sem, *]
    walk_nrm
    q_c stepG_region_end
    q_cond false
    q_c stepG_skip
    q_c stepG_seq
    q_c stepG_seq
    q_reg
    apply QuitsD.value _ rfl rfl (by k_ne)
    · intro w; go_simp; (try w_num); exact rfl
    · intro w; simp [go_sem, *]
    walk_nrm
    apply QuitsD.value _ rfl rfl (by k_ne)
    · intro w; go_simp; (try w_num); exact rfl
    · intro w; simp [go_sem, *]
    walk_nrm
    q_c stepG_region_end
    q_cond false
    q_c stepG_skip
    q_c stepG_seq
    q_c stepG_seq
    q_reg
    apply QuitsD.value _ rfl rfl (by k_ne)
    · intro w; go_simp; (try w_num); exact rfl
    · intro w; simp [go_sem, *]
    walk_nrm
    apply QuitsD.value _ rfl rfl (by k_ne)
    · intro w; go_simp; (try w_num); exact rfl
    · intro w; simp [go_sem, *]
    walk_nrm
    apply QuitsD.value _ rfl rfl (by k_ne)
    · intro w; go_simp; (try w_num); exact rfl
    · intro w; simp [go_sem, *]
    walk_nrm
    q_skip
    q_skip
    apply QuitsD.value _ rfl rfl (by k_ne)
    · intro w; go_simp; (try w_num); exact rfl
    · intro w; simp [go_sem, *]
    walk_nrm
    apply QuitsD.value _ rfl rfl (by k_ne)
    · intro w; go_simp; (try w_num); exact rfl
    · intro w; simp [go_sem, *]
    walk_nrm
    q_skip
    q_skip
    q_skip
    q_skip
    apply QuitsD.value _ rfl rfl (by k_ne)
    · intro w; go_simp; (try w_num); exact rfl
    · intro w; simp [go_sem, *]
    walk_nrm
    q_c stepG_region_end
    q_cond false
    q_c stepG_skip
    q_c stepG_seq
    q_c stepG_seq
    q_reg
    apply QuitsD.value _ rfl rfl (by k_ne)
    · intro w; go_simp; (try w_num); exact rfl
    · intro w; simp [go_sem, *]
    walk_nrm
    apply QuitsD.value _ rfl rfl (by k_ne)
    · intro w; go_simp; (try w_num); exact rfl
    · intro w; simp [go_sem, *]
    walk_nrm
    apply QuitsD.value _ rfl rfl (by k_ne)
    · intro w; go_simp; (try w_num); exact rfl
    · intro w; simp [go_sem, *]
    walk_nrm
    apply QuitsD.value _ rfl rfl (by k_ne)
    · intro w; go_simp; (try w_num); exact rfl
    · intro w; simp [go_sem, *]
    walk_nrm
    apply QuitsD.value _ rfl rfl (by k_ne)
    · intro w; go_simp; (try w_num); exact rfl
    · intro w; simp [go_sem, *]
    walk_nrm
    apply QuitsD.value _ rfl rfl (by k_ne)
    · intro w; go_simp; (try w_num); exact rfl
    · intro w; simp [go_sem, *]
    walk_nrm
    q_c stepG_region_end
    q_cond true
    q_c stepG_ret'
    q_enable
    q_leave0 H.f_add
    exact hT
  · refine ⟨_, (stepG_add_atomic rfl rfl (by k_ne) rfl H.f_addU64 (x_addU64_n L) (x_addU64_b L) (x_addU64_x L) .u64 (x_addU64_f L) rfl rfl (wgc hw).1 (wgc hw).2.1).trans (by rw [e1]; rfl), 200, ?_⟩
    have hF : WgAny C.ty C.Wg (w₁.setCell (stW C.Wg) (.int .u64 1)) := ⟨_, _, wg_set0 hw 1⟩
    walk_nrm
    clear hK hw
    u_op (fun h (r : RB C _ _) => r.wg h) hF
    u_c stepG_region_end (fun h (r : RB C _ _) => r.wg h) hF
    u_c stepG_ret' (fun h (r : RB C _ _) => r.wg h) hF
    u_leave1 H.f_uAdd (fun h (r : RB C _ _) => r.wg h) hF
    u_op (fun h (r : RB C _ _) => r.wg h) hF
    u_c stepG_region_end (fun h (r : RB C _ _) => r.wg h) hF
    u_c stepG_seq (fun h (r : RB C _ _) => r.wg h) hF
    u_c stepG_seq (fun h (r : RB C _ _) => r.wg h) hF
    u_reg (fun h (r : RB C _ _) => r.wg h) hF
    u_op (fun h (r : RB C _ _) => r.wg h) hF
    u_op (fun h (r : RB C _ _) => r.wg h) hF
    u_op (fun h (r : RB C _ _) => r.wg h) hF
    u_op (fun h (r : RB C _ _) => r.wg h) hF
    u_skip (fun h (r : RB C _ _) => r.wg h) hF
    u_skip (fun h (r : RB C _ _) => r.wg h) hF
    u_op (fun h (r : RB C _ _) => r.wg h) hF
    u_c stepG_region_end (fun h (r : RB C _ _) => r.wg h) hF
    u_cond false (fun h (r : RB C _ _) => r.wg h) hF
    u_c stepG_skip (fun h (r : RB C _ _) => r.wg h) hF
    u_c stepG_seq (fun h (r : RB C _ _) => r.wg h) hF
    u_reg (fun h (r : RB C _ _) => r.wg h) hF
    u_op (fun h (r : RB C _ _) => r.wg h) hF
    u_op (fun h (r : RB C _ _) => r.wg h) hF
    u_op (fun h (r : RB C _ _) => r.wg h) hF
    u_op (fun h (r : RB C _ _) => r.wg h) hF
    u_c stepG_region_end (fun h (r : RB C _ _) => r.wg h) hF
    u_c stepG_seq (fun h (r : RB C _ _) => r.wg h) hF
    u_reg (fun h (r : RB C _ _) => r.wg h) hF
    u_op (fun h (r : RB C _ _) => r.wg h) hF
    u_op (fun h (r : RB C _ _) => r.wg h) hF
    u_op (fun h (r : RB C _ _) => r.wg h) hF
    u_op (fun h (r : RB C _ _) => r.wg h) hF
    u_c stepG_region_end (fun h (r : RB C _ _) => r.wg h) hF
    u_c stepG_seq (fun h (r : RB C _ _) => r.wg h) hF
    u_c stepG_seq (fun h (r : RB C _ _) => r.wg h) hF
    u_reg (fun h (r : RB C _ _) => r.wg h) hF
    u_op (fun h (r : RB C _ _) => r.wg h) hF
    u_op (fun h (r : RB C _ _) => r.wg h) hF
    u_op (fun h (r : RB C _ _) => r.wg h) hF
    u_op (fun h (r : RB C _ _) => r.wg h) hF
    u_op (fun h (r : RB C _ _) => r.wg h) hF
    u_skip (fun h (r : RB C _ _) => r.wg h) hF
    u_skip (fun h (r : RB C _ _) => r.wg h) hF
    u_skip (fun h (r : RB C _ _) => r.wg h) hF
    u_skip (fun h (r : RB C _ _) => r.wg h) hF
    u_op (fun h (r : RB C _ _) => r.wg h) hF
    u_c stepG_region_end (fun h (r : RB C _ _) => r.wg h) hF
    u_cond false (fun h (r : RB C _ _) => r.wg h) hF
    u_c stepG_skip (fun h (r : RB C _ _) => r.wg h) hF
    u_c stepG_seq (fun h (r : RB C _ _) => r.wg h) hF
    u_c stepG_seq (fun h (r : RB C _ _) => r.wg h) hF
    u_reg (fun h (r : RB C _ _) => r.wg h) hF
    u_op (fun h (r : RB C _ _) => r.wg h) hF
    u_op (fun h (r : RB C _ _) => r.wg h) hF
    u_c stepG_region_end (fun h (r : RB C _ _) => r.wg h) hF
    u_cond false (fun h (r : RB C _ _) => r.wg h) hF
    u_c stepG_skip (fun h (r : RB C _ _) => r.wg h) hF
    u_c stepG_seq (fun h (r : RB C _ _) => r.wg h) hF
    u_c stepG_seq (fun h (r : RB C _ _) => r.wg h) hF
    u_reg (fun h (r : RB C _ _) => r.wg h) hF
    u_op (fun h (r : RB C _ _) => r.wg h) hF
    u_op (fun h (r : RB C _ _) => r.wg h) hF
    u_op (fun h (r : RB C _ _) => r.wg h) hF
    u_op (fun h (r : RB C _ _) => r.wg h) hF
    u_op (fun h (r : RB C _ _) => r.wg h) hF
    u_op (fun h (r : RB C _ _) => r.wg h) hF
    u_op (fun h (r : RB C _ _) => r.wg h) hF
    u_skip (fun h (r : RB C _ _) => r.wg h) hF
    u_skip (fun h (r : RB C _ _) => r.wg h) hF
    u_skip (fun h (r : RB C _ _) => r.wg h) hF
    u_skip (fun h (r : RB C _ _) => r.wg h) hF
    u_op (fun h (r : RB C _ _) => r.wg h) hF
    u_c stepG_region_end (fun h (r : RB C _ _) => r.wg h) hF
    u_cond false (fun h (r : RB C _ _) => r.wg h) hF
    u_c stepG_skip (fun h (r : RB C _ _) => r.wg h) hF
    u_c stepG_seq (fun h (r : RB C _ _) => r.wg h) hF
    u_c stepG_seq (fun h (r : RB C _ _) => r.wg h) hF
    u_reg (fun h (r : RB C _ _) => r.wg h) hF
    u_op (fun h (r : RB C _ _) => r.wg h) hF
    u_op (fun h (r : RB C _ _) => r.wg h) hF
    u_op (fun h (r : RB C _ _) => r.wg h) hF
    u_op (fun h (r : RB C _ _) => r.wg h) hF
    u_op (fun h (r : RB C _ _) => r.wg h) hF
    u_op (fun h (r : RB C _ _) => r.wg h) hF
    u_c stepG_region_end (fun h (r : RB C _ _) => r.wg h) hF
    u_cond false (fun h (r : RB C _ _) => r.wg h) hF
    u_c stepG_skip (fun h (r : RB C _ _) => r.wg h) hF
    u_c stepG_seq (fun h (r : RB C _ _) => r.wg h) hF
    u_c stepG_seq (fun h (r : RB C _ _) => r.wg h) hF
    u_reg (fun h (r : RB C _ _) => r.wg h) hF
    u_op (fun h (r : RB C _ _) => r.wg h) hF
    u_op (fun h (r : RB C _ _) => r.wg h) hF
    u_op (fun h (r : RB C _ _) => r.wg h) hF
    u_call H.f_uLoad (nm_uLoad L) uLoadFn (fun h (r : RB C _ _) => r.wg h) hF
    u_c stepG_seq (fun h (r : RB C _ _) => r.wg h) hF
    u_reg (fun h (r : RB C _ _) => r.wg h) hF
    u_op (fun h (r : RB C _ _) => r.wg h) hF
    u_c stepG_region_end (fun h (r : RB C _ _) => r.wg h) hF
    u_c stepG_seq (fun h (r : RB C _ _) => r.wg h) hF
    u_reg (fun h (r : RB C _ _) => r.wg h) hF
    u_op (fun h (r : RB C _ _) => r.wg h) hF
    u_op (fun h (r : RB C _ _) => r.wg h) hF
    u_op (fun h (r : RB C _ _) => r.wg h) hF
    refine Goes.stop (fun w₂ h₂ => ?_)
    replace hF := h₂.wg hF
    clear h₂
    refine ⟨rfl, fun hw => ?_⟩
    refine ⟨_, stepG_load_atomic rfl rfl (by k_ne) rfl H.f_loadU64 (x_loadU64_n L) (x_loadU64_b L) (x_loadU64_x L) .u64 (x_loadU64_f L) rfl (wgc hw).1, 100, ?_⟩
    clear hw
    walk_nrm
    u_op (fun h (r : RB C _ _) => r.wg h) hF
    u_c stepG_region_end (fun h (r : RB C _ _) => r.wg h) hF
    u_c stepG_ret' (fun h (r : RB C _ _) => r.wg h) hF
    u_leave1 H.f_uLoad (fun h (r : RB C _ _) => r.wg h) hF
    u_op (fun h (r : RB C _ _) => r.wg h) hF
    u_op (fun h (r : RB C _ _) => r.wg h) hF
    u_c stepG_region_end (fun h (r : RB C _ _) => r.wg h) hF
    u_cond false (fun h (r : RB C _ _) => r.wg h) hF
    u_c stepG_skip (fun h (r : RB C _ _) => r.wg h) hF
    u_c stepG_seq (fun h (r : RB C _ _) => r.wg h) hF
    u_reg (fun h (r : RB C _ _) => r.wg h) hF
    u_op (fun h (r : RB C _ _) => r.wg h) hF
    u_op (fun h (r : RB C _ _) => r.wg h) hF
    u_op (fun h (r : RB C _ _) => r.wg h) hF
    u_call H.f_uStore (nm_uStore L) uStoreFn (fun h (r : RB C _ _) => r.wg h) hF
    u_reg (fun h (r : RB C _ _) => r.wg h) hF
    u_op (fun h (r : RB C _ _) => r.wg h) hF
    u_op (fun h (r : RB C _ _) => r.wg h) hF
    u_op (fun h (r : RB C _ _) => r.wg h) hF
    u_op (fun h (r : RB C _ _) => r.wg h) hF
    refine Goes.stop (fun w₂ h₂ => ?_)
    replace hF := h₂.wg hF
    clear h₂
    refine ⟨rfl, fun ⟨st, hw⟩ => ?_⟩
    refine ⟨_, stepG_store_atomic rfl rfl (by k_ne) rfl H.f_storeU64 (x_storeU64_n L) (x_storeU64_b L) (x_storeU64_x L) (x_storeU64_f L) rfl rfl (wgc hw).1 (wgc hw).2.1, 100, ?_⟩
    replace hF : WgAny C.ty C.Wg (w₂.setCell (stW C.Wg) (.int .u64 0)) := ⟨_, _, wg_set0 hw 0⟩
    clear hw
    walk_nrm
    u_c stepG_region_end (fun h (r : RB C _ _) => r.wg h) hF
    u_c stepG_end (fun h (r : RB C _ _) => r.wg h) hF
    u_leave0 H.f_uStore (fun h (r : RB C _ _) => r.wg h) hF
    u_c stepG_region_end (fun h (r : RB C _ _) => r.wg h) hF
    u_c stepG_seq (fun h (r : RB C _ _) => r.wg h) hF
    u_c stepG_seq (fun h (r : RB C _ _) => r.wg h) hF
    u_reg (fun h (r : RB C _ _) => r.wg h) hF
    u_op (fun h (r : RB C _ _) => r.wg h) hF
    u_c stepG_region_end (fun h (r : RB C _ _) => r.wg h) hF
    u_cond false (fun h (r : RB C _ _) => r.wg h) hF
    u_c stepG_skip (fun h (r : RB C _ _) => r.wg h) hF
    u_c stepG_block (fun h (r : RB C _ _) => r.wg h) hF
    u_c stepG_loop (fun h (r : RB C _ _) => r.wg h) hF
    u_c stepG_seq (fun h (r : RB C _ _) => r.wg h) hF
    u_c stepG_seq (fun h (r : RB C _ _) => r.wg h) hF
    u_reg (fun h (r : RB C _ _) => r.wg h) hF
    u_op (fun h (r : RB C _ _) => r.wg h) hF
    u_op (fun h (r : RB C _ _) => r.wg h) hF
    u_c stepG_region_end (fun h (r : RB C _ _) => r.wg h) hF
    u_cond true (fun h (r : RB C _ _) => r.wg h) hF
    u_c stepG_skip (fun h (r : RB C _ _) => r.wg h) hF
    u_c stepG_seq (fun h (r : RB C _ _) => r.wg h) hF
    u_c stepG_block (fun h (r : RB C _ _) => r.wg h) hF
    u_reg (fun h (r : RB C _ _) => r.wg h) hF
    u_op (fun h (r : RB C _ _) => r.wg h) hF
    u_op (fun h (r : RB C _ _) => r.wg h) hF
    u_op (fun h (r : RB C _ _) => r.wg h) hF
    refine Goes.stop (fun w₂ h₂ => ?_)
    clear h₂ hF
    refine ⟨rfl, fun ⟨st, hw⟩ => ?_⟩
    refine ⟨_, (stepG_semrelease rfl rfl (by k_ne) rfl H.f_semrelease (x_semrelease_n L) (x_semrelease_b L) (x_semrelease_x L) (x_semrelease_f L) (by simp [Act.eval, smW]) (wgc hw).2.2.1 (wgc hw).2.2.2).trans (by rfl), mayWake_entry rfl rfl H.f_semrelease (x_semrelease_b L), qt + 19, ?_⟩
    clear hw
    walk_nrm
    q_c stepG_region_end
    q_c stepG_inBlock
    q_reg
    apply QuitsD.value _ rfl rfl (by k_ne)
    · intro w; go_simp; (try w_num); exact rfl
    · intro w; simp [go_sem, *]
    walk_nrm
    apply QuitsD.value _ rfl rfl (by k_ne)
    · intro w; go_simp; (try w_num); exact rfl
    · intro w; simp [go_sem, *]
    walk_nrm
    apply QuitsD.value _ rfl rfl (by k_ne)
    · intro w; go_simp; (try w_num); exact rfl
    · intro w; simp [go_sem, *]
    walk_nrm
    q_c stepG_region_end
    q_c stepG_inLoop
    q_c stepG_seq
    q_c stepG_seq
    q_reg
    apply QuitsD.value _ rfl rfl (by k_ne)
    · intro w; go_simp; (try w_num); exact rfl
    · intro w; simp [go_sem, *]
    walk_nrm
    apply QuitsD.value _ rfl rfl (by k_ne)
    · intro w; go_simp; (try w_num); exact rfl
    · intro w; simp [go_sem, *]
    walk_nrm
    q_c stepG_region_end
    q_cond false
    q_exit
    q_c stepG_end
    q_enable
    q_leave0 H.f_add
    exact hT

noncomputable def bodyDone (L : WgLink) : Code := (doneFn L).body.getD .skip

set_option maxRecDepth 100000 in
theorem doneW (O : C.Ok) {sent : List (C.β × Value)} (H : WgLib C.P L) (hty : C.ty = L.tWg) {c : Frame} {cs : List Frame} {qt : Nat} (hcm : c.mode = .returning) (hT : QuitsD C.P qt 0 (G c cs)) (w : World) (hK : WgAny C.ty C.Wg w ∧ C.FB sent w) :
    Goes C.P false (RB C) D0 (BR0 C sent) 103 (G ((baseD L.done).at ⟨#[.pointer (some ⟨C.Wg, 0, none⟩), undef, undef, undef], []⟩ [.code (bodyDone L)]) (c :: cs)) w := by
  lib_facts
  have hA := @addNeg C L O sent H hty
  simp only [bodyDone, bodyAdd, doneFn, addFn, Option.getD_some, Array.replicate_succ, Array.replicate_zero, List.push_toArray, List.append_toArray, List.nil_append, List.cons_append] at hA ⊢
  u_reg (kb_rely O) hK
  u_op (kb_rely O) hK
  u_in (kb_rely O) hK
  refine goes_call rfl rfl (by k_ne) rfl H.f_add (nm_add L) rfl ⟨by u_nil, ?_⟩
  walk_nrmf addFn
  refine hA (qt := qt + 3) ?_ _ hK
  q_c stepG_region_end
  q_c stepG_end
  exact QuitsD.leaveD rfl rfl H.f_done rfl hcm hT

end Go.Pair
