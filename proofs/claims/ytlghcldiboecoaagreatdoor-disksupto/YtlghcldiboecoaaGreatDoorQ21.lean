/- The caller's wg.Wait(), to its 'acquire' and back. -/
import Derived.Test.YtlghcldiboecoaaGreatDoorHDone
import Derived.Conc.FxGenAddNeg
import Derived.Test.YtlghcldiboecoaaGreatDoorQ16
set_option linter.unusedVariables false
set_option linter.unusedSimpArgs false
namespace Go.Pair
open Go Go.Conc Go.ConcX.Gen Go.RowKit Go.Conc.Lib
variable {C : Cfg} {L : WgLink}
def KA2 (C : Cfg) (sent : List (C.β × Value)) (w w₁ : World) : Prop := RA C sent w w₁ ∧ WgAny C.ty C.Wg w₁
theorem ka2_rely {sent : List (C.β × Value)} {w₀ w w₁ : World} (h : KA2 C sent w₀ w) (r : RA C sent w w₁) : KA2 C sent w₀ w₁ := ⟨h.1.trans r, r.wg h.2⟩
theorem ka2_set (O : C.Ok) {sent : List (C.β × Value)} {w₀ w : World} {ad : Addr} {v : Value} {st sm : Int} (h : KA2 C sent w₀ w) (had : ad.block = C.Wg) (hw : WgIs C.ty C.Wg (w.setCell ad v) st sm) : KA2 C sent w₀ (w.setCell ad v) :=
  ⟨h.1.trans (rely_set O had fun _ => ⟨st, sm, hw⟩), ⟨st, sm, hw⟩⟩

theorem WgAny.cell1 {ty : TypeId} {Wg : Nat} {w : World} (h : WgAny ty Wg w) : ∃ v, w.cell? ⟨Wg, 1, none⟩ = some v := by
  obtain ⟨st, sm, x⟩ := h
  unfold WgIs at x
  exact ⟨.int .u32 sm, by simp [World.cell?, wgO, x]⟩

noncomputable def bodyWait (L : WgLink) : Code := (waitFn L).body.getD .skip
set_option maxRecDepth 100000 in
set_option maxHeartbeats 4000000 in
theorem waitA (O : C.Ok) (H : WgLib C.P L) (hty : C.ty = L.tWg) {sent : List (C.β × Value)} {b₀ : Frame} {a₀ : Act} {ops₀ : Array Oper} {i₀ : Nat} {rest₀ : List Nat} {k₀ : List Item} {cs : List Frame} (w : World) (hK : WgAny C.ty C.Wg w)
    (hpost : ∀ g' w₁, KA2 C sent w w₁ → g'.status = .running → (∃ n, Goes C.P true AtRel D0 (fun g _ => g = G (b₀.at (a₀.put ((ops₀[i₀]?).bind (·.dst)) (.tuple #[])) (.inRegion ops₀ rest₀ :: k₀)) cs) n g' w₁) → C.PostA sent g' w₁) :
    Goes C.P true (RA C sent) D0 (AKd C sent) 100 (G ((base L.wait).at ⟨#[.pointer (some ⟨C.Wg, 0, none⟩)] ++ Array.replicate ((waitFn L).ntmps - 1) undef, []⟩ [.code (bodyWait L)]) (b₀.at a₀ (.inRegion ops₀ (i₀ :: rest₀) :: k₀) :: cs)) w := by
  lib_facts
  simp only [bodyWait, waitFn, Option.getD_some, Nat.reduceSub, Array.replicate_succ, Array.replicate_zero, List.push_toArray, List.append_toArray, List.nil_append, List.cons_append]
  have wgc : ∀ {w : World} {st sm : Int}, WgIs C.ty C.Wg w st sm → w.cell? ⟨C.Wg, 0, none⟩ = some (.int .u64 st) ∧ w.frozen? ⟨C.Wg, 0, none⟩ = false ∧ w.cell? ⟨C.Wg, 1, none⟩ = some (.int .u32 sm) ∧ w.frozen? ⟨C.Wg, 1, none⟩ = false := fun h => by
    unfold WgIs at h
    simp [World.cell?, World.frozen?, wgO, h]
  have hK : KA2 C sent w w := ⟨RA.refl _ _ _, hK⟩
  u_c stepG_seq ka2_rely hK
  u_cond true ka2_rely hK
  u_reg ka2_rely hK
  refine Goes.stop (fun w₁ h₁ => ?_)
  replace hK := ka2_rely hK h₁
  clear h₁
  refine ⟨rfl, _, stepG_mark0 .disable (by simp) rfl rfl (by k_ne) rfl H.f_disable (x_disable_n L) (x_disable_b L) (x_disable_x L) (x_disable_f L), 100, ?_⟩
  walk_nrm
  u_c stepG_region_end ka2_rely hK
  u_c stepG_block ka2_rely hK
  u_c stepG_loop ka2_rely hK
  u_c stepG_block ka2_rely hK
  u_c stepG_seq ka2_rely hK
  u_reg ka2_rely hK
  u_op ka2_rely hK
  u_op ka2_rely hK
  u_op ka2_rely hK
  u_call H.f_uLoad (nm_uLoad L) uLoadFn ka2_rely hK
  u_c stepG_seq ka2_rely hK
  u_reg ka2_rely hK
  u_op ka2_rely hK
  u_c stepG_region_end ka2_rely hK
  u_c stepG_seq ka2_rely hK
  u_reg ka2_rely hK
  u_op ka2_rely hK
  u_op ka2_rely hK
  u_op ka2_rely hK
  refine Goes.stop (fun w₁ h₁ => ?_)
  replace hK := ka2_rely hK h₁
  clear h₁
  refine ⟨rfl, fun hw => ?_, fun hw => ?_⟩
  · refine ⟨_, stepG_load_atomic rfl rfl (by k_ne) rfl H.f_loadU64 (x_loadU64_n L) (x_loadU64_b L) (x_loadU64_x L) .u64 (x_loadU64_f L) rfl (wgc hw).1, 200, ?_⟩
    clear hw
    walk_nrm
    u_op ka2_rely hK
    u_c stepG_region_end ka2_rely hK
    u_c stepG_ret' ka2_rely hK
    u_leave1 H.f_uLoad ka2_rely hK
    u_op ka2_rely hK
    u_c stepG_region_end ka2_rely hK
    u_c stepG_seq ka2_rely hK
    u_reg ka2_rely hK
    u_op ka2_rely hK
    u_op ka2_rely hK
    u_op ka2_rely hK
    u_op ka2_rely hK
    u_c stepG_region_end ka2_rely hK
    u_c stepG_seq ka2_rely hK
    u_reg ka2_rely hK
    u_op ka2_rely hK
    u_op ka2_rely hK
    u_op ka2_rely hK
    u_op ka2_rely hK
    u_c stepG_region_end ka2_rely hK
    u_c stepG_seq ka2_rely hK
    u_c stepG_seq ka2_rely hK
    u_reg ka2_rely hK
    u_op ka2_rely hK
    u_op ka2_rely hK
    u_c stepG_region_end ka2_rely hK
    u_cond false ka2_rely hK
    u_c stepG_skip ka2_rely hK
    u_c stepG_seq ka2_rely hK
    u_reg ka2_rely hK
    u_op ka2_rely hK
    u_op ka2_rely hK
    u_op ka2_rely hK
    u_op ka2_rely hK
    u_op ka2_rely hK
    u_op ka2_rely hK
    u_call H.f_uCas (nm_uCas L) uCasFn ka2_rely hK
    u_c stepG_seq ka2_rely hK
    u_reg ka2_rely hK
    u_op ka2_rely hK
    u_c stepG_region_end ka2_rely hK
    u_c stepG_seq ka2_rely hK
    u_reg ka2_rely hK
    u_op ka2_rely hK
    u_op ka2_rely hK
    u_op ka2_rely hK
    u_op ka2_rely hK
    u_op ka2_rely hK
    refine Goes.stop (fun w₂ h₂ => ?_)
    replace hK := ka2_rely hK h₂
    clear h₂
    refine ⟨rfl, fun hw => ?_, fun hw => ?_⟩
    · refine ⟨_, stepG_cas_hit rfl rfl (by k_ne) rfl H.f_casU64 (x_casU64_n L) (x_casU64_b L) (x_casU64_x L) .u64 (x_casU64_f L) rfl rfl rfl (wgc hw).1 (wgc hw).2.1, 200, ?_⟩
      replace hK := ka2_set O hK rfl (wg_set0 hw (KK + 1))
      clear hw
      walk_nrm
      u_op ka2_rely hK
      u_c stepG_region_end ka2_rely hK
      u_c stepG_ret' ka2_rely hK
      u_leave1 H.f_uCas ka2_rely hK
      u_c stepG_region_end ka2_rely hK
      u_cond true ka2_rely hK
      u_c stepG_seq ka2_rely hK
      u_c stepG_seq ka2_rely hK
      u_reg ka2_rely hK
      u_op ka2_rely hK
      u_op ka2_rely hK
      u_op ka2_rely hK
      u_op ka2_rely hK
      u_c stepG_region_end ka2_rely hK
      u_cond true ka2_rely hK
      u_reg ka2_rely hK
      u_op ka2_rely hK
      u_op ka2_rely hK
      u_op ka2_rely hK
      u_in ka2_rely hK
      refine goes_oper_k rfl rfl (by k_ne) (fun Kx hKx => ?_)
      have hcv := run_convert_to_unsafe (P := C.P) H.underlying_tPU32 H.underlying_tUP H.room_tU32 (WgAny.cell1 hK.2).choose_spec
      have hce := fun es => events_convert_to_unsafe (P := C.P) H.underlying_tPU32 H.underlying_tUP H.room_tU32 (WgAny.cell1 hK.2).choose_spec es
      go_simp
      refine hKx _ _ ⟨?_, ?_⟩
      · u_none
        intro ex hex
        have hmx := mem_listed hex
        simp [go_sem, hce] at hmx
      clear hKx Kx hcv hce
      refine Goes.stop (fun w₃ h₃ => ?_)
      replace hK := ka2_rely hK h₃
      clear h₃
      refine ⟨rfl, _, stepG_markAt .write (by simp) rfl rfl (by k_ne) rfl H.f_raceWrite (x_raceWrite_n L) (x_raceWrite_b L) (x_raceWrite_x L) (x_raceWrite_f L) (by simp [Act.eval, smW]), 200, ?_⟩
      walk_nrm
      u_c stepG_region_end ka2_rely hK
      u_c stepG_seq ka2_rely hK
      u_reg ka2_rely hK
      u_op ka2_rely hK
      u_c stepG_region_end ka2_rely hK
      u_c stepG_seq ka2_rely hK
      u_c stepG_seq ka2_rely hK
      u_reg ka2_rely hK
      u_op ka2_rely hK
      u_op ka2_rely hK
      u_op ka2_rely hK
      u_op ka2_rely hK
      u_skip ka2_rely hK
      u_op ka2_rely hK
      u_c stepG_region_end ka2_rely hK
      u_cond false ka2_rely hK
      u_c stepG_skip ka2_rely hK
      u_c stepG_seq ka2_rely hK
      u_reg ka2_rely hK
      u_op ka2_rely hK
      u_op ka2_rely hK
      u_op ka2_rely hK
      u_op ka2_rely hK
      refine Goes.stop (fun w₄ h₄ => ?_)
      replace hK := ka2_rely hK h₄
      clear h₄
      refine ⟨rfl, rfl, fun ⟨st, hw⟩ => ?_, fun hw => ?_⟩
      · exact stepG_semacquire_wait rfl rfl rfl H.f_semacquire (x_semacquire_n L) (x_semacquire_b L) (x_semacquire_x L) (x_semacquire_f L) (by simp [Act.eval]) (wgc hw).2.2.1
      · refine ⟨_, stepG_semacquire rfl rfl (by k_ne) rfl H.f_semacquire (x_semacquire_n L) (x_semacquire_b L) (x_semacquire_x L) (x_semacquire_f L) (by simp [Act.eval, smW]) (wgc hw).2.2.1 (by decide) (wgc hw).2.2.2, 200, ?_⟩
        replace hK := ka2_set O hK rfl (wg_set1 hw 0)
        clear hw
        walk_nrm
        u_c stepG_region_end ka2_rely hK
        u_c stepG_seq ka2_rely hK
        u_reg ka2_rely hK
        u_op ka2_rely hK
        u_op ka2_rely hK
        u_op ka2_rely hK
        u_call H.f_uLoad (nm_uLoad L) uLoadFn ka2_rely hK
        u_c stepG_seq ka2_rely hK
        u_reg ka2_rely hK
        u_op ka2_rely hK
        u_c stepG_region_end ka2_rely hK
        u_c stepG_seq ka2_rely hK
        u_reg ka2_rely hK
        u_op ka2_rely hK
        u_op ka2_rely hK
        u_op ka2_rely hK
        refine Goes.stop (fun w₅ h₅ => ?_)
        replace hK := ka2_rely hK h₅
        clear h₅
        refine ⟨rfl, fun hw => ?_⟩
        refine ⟨_, stepG_load_atomic rfl rfl (by k_ne) rfl H.f_loadU64 (x_loadU64_n L) (x_loadU64_b L) (x_loadU64_x L) .u64 (x_loadU64_f L) rfl (wgc hw).1, 200, ?_⟩
        clear hw
        walk_nrm
        u_op ka2_rely hK
        u_c stepG_region_end ka2_rely hK
        u_c stepG_ret' ka2_rely hK
        u_leave1 H.f_uLoad ka2_rely hK
        u_op ka2_rely hK
        u_op ka2_rely hK
        u_c stepG_region_end ka2_rely hK
        u_c stepG_seq ka2_rely hK
        u_cond true ka2_rely hK
        u_c stepG_seq ka2_rely hK
        u_reg ka2_rely hK
        refine Goes.stop (fun w₆ h₆ => ?_)
        replace hK := ka2_rely hK h₆
        clear h₆
        refine ⟨rfl, _, stepG_mark0 .enable (by simp) rfl rfl (by k_ne) rfl H.f_enable (x_enable_n L) (x_enable_b L) (x_enable_x L) (x_enable_f L), 50, ?_⟩
        walk_nrm
        u_c stepG_region_end ka2_rely hK
        u_reg ka2_rely hK
        u_op ka2_rely hK
        u_in ka2_rely hK
        refine goes_oper_k rfl rfl (by k_ne) (fun Kx hKx => ?_)
        have hcv := run_convert_to_unsafe (P := C.P) H.underlying_tWgP H.underlying_tUP H.room_tWg (WgAny.cell0 hK.2).choose_spec
        have hce := fun es => events_convert_to_unsafe (P := C.P) H.underlying_tWgP H.underlying_tUP H.room_tWg (WgAny.cell0 hK.2).choose_spec es
        go_simp
        refine hKx _ _ ⟨?_, ?_⟩
        · u_none
          intro ex hex
          have hmx := mem_listed hex
          simp [go_sem, hce] at hmx
        clear hKx Kx hcv hce
        refine Goes.stop (fun w₇ h₇ => ?_)
        replace hK := ka2_rely hK h₇
        clear h₇
        refine ⟨rfl, _, stepG_markAt .acquire (by simp) rfl rfl (by k_ne) rfl H.f_acquire (x_acquire_n L) (x_acquire_b L) (x_acquire_x L) (x_acquire_f L) (by simp [Act.eval, stW]), rfl, hpost _ _ hK rfl ⟨60, ?_⟩⟩
        walk_nrm
        have hN : True := trivial
        clear hK
        u_c stepG_region_end (fun (h : True) (_ : AtRel _ _) => h) hN
        u_c stepG_seq (fun (h : True) (_ : AtRel _ _) => h) hN
        u_c stepG_seq (fun (h : True) (_ : AtRel _ _) => h) hN
        u_reg (fun (h : True) (_ : AtRel _ _) => h) hN
        u_op (fun (h : True) (_ : AtRel _ _) => h) hN
        u_c stepG_region_end (fun (h : True) (_ : AtRel _ _) => h) hN
        u_cond false (fun (h : True) (_ : AtRel _ _) => h) hN
        u_c stepG_skip (fun (h : True) (_ : AtRel _ _) => h) hN
        u_c stepG_ret' (fun (h : True) (_ : AtRel _ _) => h) hN
        u_leave0 H.f_wait (fun (h : True) (_ : AtRel _ _) => h) hN
        exact Goes.stop (fun _ _ => rfl)
    · refine ⟨_, stepG_cas_miss rfl rfl (by k_ne) rfl H.f_casU64 (x_casU64_n L) (x_casU64_b L) (x_casU64_x L) .u64 (x_casU64_f L) rfl rfl rfl (wgc hw).1 (wgc hw).2.1 (by decide), 200, ?_⟩
      clear hw
      walk_nrm
      u_op ka2_rely hK
      u_c stepG_region_end ka2_rely hK
      u_c stepG_ret' ka2_rely hK
      u_leave1 H.f_uCas ka2_rely hK
      u_c stepG_region_end ka2_rely hK
      u_cond false ka2_rely hK
      u_c stepG_skip ka2_rely hK
      u_c stepG_inBlock ka2_rely hK
      u_c stepG_inLoop ka2_rely hK
      u_c stepG_block ka2_rely hK
      u_c stepG_seq ka2_rely hK
      u_reg ka2_rely hK
      u_op ka2_rely hK
      u_op ka2_rely hK
      u_op ka2_rely hK
      u_call H.f_uLoad (nm_uLoad L) uLoadFn ka2_rely hK
      u_c stepG_seq ka2_rely hK
      u_reg ka2_rely hK
      u_op ka2_rely hK
      u_c stepG_region_end ka2_rely hK
      u_c stepG_seq ka2_rely hK
      u_reg ka2_rely hK
      u_op ka2_rely hK
      u_op ka2_rely hK
      u_op ka2_rely hK
      refine Goes.stop (fun w₃ h₃ => ?_)
      replace hK := ka2_rely hK h₃
      clear h₃
      refine ⟨rfl, fun hw => ?_⟩
      refine ⟨_, stepG_load_atomic rfl rfl (by k_ne) rfl H.f_loadU64 (x_loadU64_n L) (x_loadU64_b L) (x_loadU64_x L) .u64 (x_loadU64_f L) rfl (wgc hw).1, 200, ?_⟩
      clear hw
      walk_nrm
      u_op ka2_rely hK
      u_c stepG_region_end ka2_rely hK
      u_c stepG_ret' ka2_rely hK
      u_leave1 H.f_uLoad ka2_rely hK
      u_op ka2_rely hK
      u_c stepG_region_end ka2_rely hK
      u_c stepG_seq ka2_rely hK
      u_reg ka2_rely hK
      u_op ka2_rely hK
      u_op ka2_rely hK
      u_op ka2_rely hK
      u_op ka2_rely hK
      u_c stepG_region_end ka2_rely hK
      u_c stepG_seq ka2_rely hK
      u_reg ka2_rely hK
      u_op ka2_rely hK
      u_op ka2_rely hK
      u_op ka2_rely hK
      u_op ka2_rely hK
      u_c stepG_region_end ka2_rely hK
      u_c stepG_seq ka2_rely hK
      u_c stepG_seq ka2_rely hK
      u_reg ka2_rely hK
      u_op ka2_rely hK
      u_op ka2_rely hK
      u_c stepG_region_end ka2_rely hK
      u_cond true ka2_rely hK
      u_c stepG_seq ka2_rely hK
      u_cond true ka2_rely hK
      u_c stepG_seq ka2_rely hK
      u_reg ka2_rely hK
      refine Goes.stop (fun w₆ h₆ => ?_)
      replace hK := ka2_rely hK h₆
      clear h₆
      refine ⟨rfl, _, stepG_mark0 .enable (by simp) rfl rfl (by k_ne) rfl H.f_enable (x_enable_n L) (x_enable_b L) (x_enable_x L) (x_enable_f L), 50, ?_⟩
      walk_nrm
      u_c stepG_region_end ka2_rely hK
      u_reg ka2_rely hK
      u_op ka2_rely hK
      u_in ka2_rely hK
      refine goes_oper_k rfl rfl (by k_ne) (fun Kx hKx => ?_)
      have hcv := run_convert_to_unsafe (P := C.P) H.underlying_tWgP H.underlying_tUP H.room_tWg (WgAny.cell0 hK.2).choose_spec
      have hce := fun es => events_convert_to_unsafe (P := C.P) H.underlying_tWgP H.underlying_tUP H.room_tWg (WgAny.cell0 hK.2).choose_spec es
      go_simp
      refine hKx _ _ ⟨?_, ?_⟩
      · u_none
        intro ex hex
        have hmx := mem_listed hex
        simp [go_sem, hce] at hmx
      clear hKx Kx hcv hce
      refine Goes.stop (fun w₇ h₇ => ?_)
      replace hK := ka2_rely hK h₇
      clear h₇
      refine ⟨rfl, _, stepG_markAt .acquire (by simp) rfl rfl (by k_ne) rfl H.f_acquire (x_acquire_n L) (x_acquire_b L) (x_acquire_x L) (x_acquire_f L) (by simp [Act.eval, stW]), rfl, hpost _ _ hK rfl ⟨60, ?_⟩⟩
      walk_nrm
      have hN : True := trivial
      clear hK
      u_c stepG_region_end (fun (h : True) (_ : AtRel _ _) => h) hN
      u_c stepG_seq (fun (h : True) (_ : AtRel _ _) => h) hN
      u_c stepG_seq (fun (h : True) (_ : AtRel _ _) => h) hN
      u_reg (fun (h : True) (_ : AtRel _ _) => h) hN
      u_op (fun (h : True) (_ : AtRel _ _) => h) hN
      u_op (fun (h : True) (_ : AtRel _ _) => h) hN
      u_op (fun (h : True) (_ : AtRel _ _) => h) hN
      u_op (fun (h : True) (_ : AtRel _ _) => h) hN
      u_op (fun (h : True) (_ : AtRel _ _) => h) hN
      u_op (fun (h : True) (_ : AtRel _ _) => h) hN
      u_op (fun (h : True) (_ : AtRel _ _) => h) hN
      u_op (fun (h : True) (_ : AtRel _ _) => h) hN
      u_skip (fun (h : True) (_ : AtRel _ _) => h) hN
      u_skip (fun (h : True) (_ : AtRel _ _) => h) hN
      u_op (fun (h : True) (_ : AtRel _ _) => h) hN
      u_c stepG_region_end (fun (h : True) (_ : AtRel _ _) => h) hN
      u_cond false (fun (h : True) (_ : AtRel _ _) => h) hN
      u_c stepG_skip (fun (h : True) (_ : AtRel _ _) => h) hN
      u_c stepG_ret' (fun (h : True) (_ : AtRel _ _) => h) hN
      u_leave0 H.f_wait (fun (h : True) (_ : AtRel _ _) => h) hN
      exact Goes.stop (fun _ _ => rfl)
  · refine ⟨_, stepG_load_atomic rfl rfl (by k_ne) rfl H.f_loadU64 (x_loadU64_n L) (x_loadU64_b L) (x_loadU64_x L) .u64 (x_loadU64_f L) rfl (wgc hw).1, 200, ?_⟩
    clear hw
    walk_nrm
    u_op ka2_rely hK
    u_c stepG_region_end ka2_rely hK
    u_c stepG_ret' ka2_rely hK
    u_leave1 H.f_uLoad ka2_rely hK
    u_op ka2_rely hK
    u_c stepG_region_end ka2_rely hK
    u_c stepG_seq ka2_rely hK
    u_reg ka2_rely hK
    u_op ka2_rely hK
    u_op ka2_rely hK
    u_op ka2_rely hK
    u_op ka2_rely hK
    u_c stepG_region_end ka2_rely hK
    u_c stepG_seq ka2_rely hK
    u_reg ka2_rely hK
    u_op ka2_rely hK
    u_op ka2_rely hK
    u_op ka2_rely hK
    u_op ka2_rely hK
    u_c stepG_region_end ka2_rely hK
    u_c stepG_seq ka2_rely hK
    u_c stepG_seq ka2_rely hK
    u_reg ka2_rely hK
    u_op ka2_rely hK
    u_op ka2_rely hK
    u_c stepG_region_end ka2_rely hK
    u_cond true ka2_rely hK
    u_c stepG_seq ka2_rely hK
    u_cond true ka2_rely hK
    u_c stepG_seq ka2_rely hK
    u_reg ka2_rely hK
    refine Goes.stop (fun w₆ h₆ => ?_)
    replace hK := ka2_rely hK h₆
    clear h₆
    refine ⟨rfl, _, stepG_mark0 .enable (by simp) rfl rfl (by k_ne) rfl H.f_enable (x_enable_n L) (x_enable_b L) (x_enable_x L) (x_enable_f L), 50, ?_⟩
    walk_nrm
    u_c stepG_region_end ka2_rely hK
    u_reg ka2_rely hK
    u_op ka2_rely hK
    u_in ka2_rely hK
    refine goes_oper_k rfl rfl (by k_ne) (fun Kx hKx => ?_)
    have hcv := run_convert_to_unsafe (P := C.P) H.underlying_tWgP H.underlying_tUP H.room_tWg (WgAny.cell0 hK.2).choose_spec
    have hce := fun es => events_convert_to_unsafe (P := C.P) H.underlying_tWgP H.underlying_tUP H.room_tWg (WgAny.cell0 hK.2).choose_spec es
    go_simp
    refine hKx _ _ ⟨?_, ?_⟩
    · u_none
      intro ex hex
      have hmx := mem_listed hex
      simp [go_sem, hce] at hmx
    clear hKx Kx hcv hce
    refine Goes.stop (fun w₇ h₇ => ?_)
    replace hK := ka2_rely hK h₇
    clear h₇
    refine ⟨rfl, _, stepG_markAt .acquire (by simp) rfl rfl (by k_ne) rfl H.f_acquire (x_acquire_n L) (x_acquire_b L) (x_acquire_x L) (x_acquire_f L) (by simp [Act.eval, stW]), rfl, hpost _ _ hK rfl ⟨60, ?_⟩⟩
    walk_nrm
    have hN : True := trivial
    clear hK
    u_c stepG_region_end (fun (h : True) (_ : AtRel _ _) => h) hN
    u_c stepG_seq (fun (h : True) (_ : AtRel _ _) => h) hN
    u_c stepG_seq (fun (h : True) (_ : AtRel _ _) => h) hN
    u_reg (fun (h : True) (_ : AtRel _ _) => h) hN
    u_op (fun (h : True) (_ : AtRel _ _) => h) hN
    u_op (fun (h : True) (_ : AtRel _ _) => h) hN
    u_op (fun (h : True) (_ : AtRel _ _) => h) hN
    u_op (fun (h : True) (_ : AtRel _ _) => h) hN
    u_op (fun (h : True) (_ : AtRel _ _) => h) hN
    u_op (fun (h : True) (_ : AtRel _ _) => h) hN
    u_op (fun (h : True) (_ : AtRel _ _) => h) hN
    u_op (fun (h : True) (_ : AtRel _ _) => h) hN
    u_skip (fun (h : True) (_ : AtRel _ _) => h) hN
    u_skip (fun (h : True) (_ : AtRel _ _) => h) hN
    u_op (fun (h : True) (_ : AtRel _ _) => h) hN
    u_c stepG_region_end (fun (h : True) (_ : AtRel _ _) => h) hN
    u_cond false (fun (h : True) (_ : AtRel _ _) => h) hN
    u_c stepG_skip (fun (h : True) (_ : AtRel _ _) => h) hN
    u_c stepG_ret' (fun (h : True) (_ : AtRel _ _) => h) hN
    u_leave0 H.f_wait (fun (h : True) (_ : AtRel _ _) => h) hN
    exact Goes.stop (fun _ _ => rfl)

end Go.Pair

/- The caller's wg.Add(1), beside goroutines that only leave. -/
namespace Go.Pair
open Go Go.Conc Go.ConcX.Gen Go.RowKit Go.Conc.Lib

section
variable {P : Program} {L : WgLink}
variable (P) (Wg : Nat) (ty : TypeId) (Ret : Goroutine)
def PEn (g : Goroutine) (w : World) : Prop := g.status = .running ∧ ∃ g', stepG P true g w = .go g' w #[mkE .enable] ∧ ∃ n, Goes P true AtRel D0 (fun g _ => g = Ret) n g' w
def PRd (g : Goroutine) (w : World) : Prop := g.status = .running ∧ ∃ g', stepG P true g w = .go g' w #[mkE (.read (smW Wg))] ∧ ∃ n, Goes P true AtRel D0 (PEn P Ret) n g' w
def PAd (g : Goroutine) (w : World) : Prop := g.status = .running ∧ ∃ g', stepG P true g w = .go g' (w.setCell (stW Wg) (.int .u64 KK)) #[rdE (stW Wg), wrE (stW Wg)] ∧ ∃ n, Goes P true AtRel D0 (PRd P Wg Ret) n g' (w.setCell (stW Wg) (.int .u64 KK))
def PDi (g : Goroutine) (w : World) : Prop := g.status = .running ∧ ∃ g', stepG P true g w = .go g' w #[mkE .disable] ∧ ∃ n, Goes P true AtRel D0 (PAd P Wg Ret) n g' w
end

theorem wg_rel {ty : TypeId} {Wg : Nat} {st sm : Int} {w w₁ : World} (h : WgIs ty Wg w st sm) (r : AtRel w w₁) : WgIs ty Wg w₁ st sm := by
  obtain ⟨d, rfl⟩ := r
  exact h

set_option maxRecDepth 100000 in
set_option maxHeartbeats 4000000 in
theorem addPos {P : Program} {L : WgLink} (H : WgLib P L) {Wg : Nat} {b₀ : Frame} {a₀ : Act} {ops₀ : Array Oper} {i₀ : Nat} {rest₀ : List Nat} {k₀ : List Item} {cs : List Frame} (w : World) (hF : WgIs L.tWg Wg w 0 0) :
    Goes P true AtRel D0 (PDi P Wg (G (b₀.at (a₀.put ((ops₀[i₀]?).bind (·.dst)) (.tuple #[])) (.inRegion ops₀ rest₀ :: k₀)) cs)) 100 (G ((base L.add).at ⟨#[.pointer (some ⟨Wg, 0, none⟩), .int .i64 1] ++ Array.replicate 115 undef, []⟩ [.code (bodyAdd L)]) (b₀.at a₀ (.inRegion ops₀ (i₀ :: rest₀) :: k₀) :: cs)) w := by
  lib_facts
  simp only [bodyAdd, addFn, Option.getD_some, Array.replicate_succ, Array.replicate_zero, List.push_toArray, List.append_toArray, List.nil_append, List.cons_append]
  have wgc : ∀ {w : World} {st sm : Int}, WgIs L.tWg Wg w st sm → w.cell? ⟨Wg, 0, none⟩ = some (.int .u64 st) ∧ w.frozen? ⟨Wg, 0, none⟩ = false ∧ w.cell? ⟨Wg, 1, none⟩ = some (.int .u32 sm) ∧ w.frozen? ⟨Wg, 1, none⟩ = false := fun h => by
    unfold WgIs at h
    simp [World.cell?, World.frozen?, wgO, h]
  u_c stepG_seq wg_rel hF
  u_cond true wg_rel hF
  u_c stepG_seq wg_rel hF
  u_c stepG_seq wg_rel hF
  u_reg wg_rel hF
  u_op wg_rel hF
  u_op wg_rel hF
  u_c stepG_region_end wg_rel hF
  u_cond false wg_rel hF
  u_c stepG_skip wg_rel hF
  u_c stepG_seq wg_rel hF
  u_reg wg_rel hF
  refine Goes.stop (fun w₁ h₁ => ?_)
  replace hF := wg_rel hF h₁
  clear h₁
  refine ⟨rfl, _, stepG_mark0 .disable (by simp) rfl rfl (by k_ne) rfl H.f_disable (x_disable_n L) (x_disable_b L) (x_disable_x L) (x_disable_f L), 100, ?_⟩
  walk_nrm
  u_c stepG_region_end wg_rel hF
  u_reg wg_rel hF
  u_defer wg_rel hF
  u_c stepG_region_end wg_rel hF
  u_c stepG_seq wg_rel hF
  u_reg wg_rel hF
  u_op wg_rel hF
  u_c stepG_region_end wg_rel hF
  u_c stepG_seq wg_rel hF
  u_c stepG_seq wg_rel hF
  u_reg wg_rel hF
  u_bub wg_rel hF
  u_c stepG_region_end wg_rel hF
  u_cond false wg_rel hF
  u_c stepG_skip wg_rel hF
  u_c stepG_seq wg_rel hF
  u_reg wg_rel hF
  u_op wg_rel hF
  u_op wg_rel hF
  u_op wg_rel hF
  u_op wg_rel hF
  u_op wg_rel hF
  u_op wg_rel hF
  u_call H.f_uAdd (nm_uAdd L) uAddFn wg_rel hF
  u_c stepG_seq wg_rel hF
  u_reg wg_rel hF
  u_op wg_rel hF
  u_c stepG_region_end wg_rel hF
  u_c stepG_seq wg_rel hF
  u_reg wg_rel hF
  u_op wg_rel hF
  u_op wg_rel hF
  u_op wg_rel hF
  u_op wg_rel hF
  refine Goes.stop (fun w₁ h₁ => ?_)
  replace hF := wg_rel hF h₁
  clear h₁
  have e0 : IntKind.u64.wrap (0 + 4294967296) = KK := by decide
  refine ⟨rfl, _, (stepG_add_atomic rfl rfl (by k_ne) rfl H.f_addU64 (x_addU64_n L) (x_addU64_b L) (x_addU64_x L) .u64 (x_addU64_f L) rfl rfl (wgc hF).1 (wgc hF).2.1).trans (by rw [e0]; rfl), 200, ?_⟩
  replace hF : WgIs L.tWg Wg (w₁.setCell (stW Wg) (.int .u64 KK)) KK 0 := wg_set0 hF KK
  unfold KK at hF ⊢
  walk_nrm
  u_op wg_rel hF
  u_c stepG_region_end wg_rel hF
  u_c stepG_ret' wg_rel hF
  u_leave1 H.f_uAdd wg_rel hF
  u_op wg_rel hF
  u_c stepG_region_end wg_rel hF
  u_c stepG_seq wg_rel hF
  u_c stepG_seq wg_rel hF
  u_reg wg_rel hF
  u_op wg_rel hF
  u_op wg_rel hF
  u_op wg_rel hF
  u_op wg_rel hF
  u_skip wg_rel hF
  u_skip wg_rel hF
  u_op wg_rel hF
  u_c stepG_region_end wg_rel hF
  u_cond false wg_rel hF
  u_c stepG_skip wg_rel hF
  u_c stepG_seq wg_rel hF
  u_reg wg_rel hF
  u_op wg_rel hF
  u_op wg_rel hF
  u_op wg_rel hF
  u_op wg_rel hF
  u_c stepG_region_end wg_rel hF
  u_c stepG_seq wg_rel hF
  u_reg wg_rel hF
  u_op wg_rel hF
  u_op wg_rel hF
  u_op wg_rel hF
  u_op wg_rel hF
  u_c stepG_region_end wg_rel hF
  u_c stepG_seq wg_rel hF
  u_c stepG_seq wg_rel hF
  u_reg wg_rel hF
  u_op wg_rel hF
  u_op wg_rel hF
  u_op wg_rel hF
  u_op wg_rel hF
  u_op wg_rel hF
  u_op wg_rel hF
  u_op wg_rel hF
  u_op wg_rel hF
  u_op wg_rel hF
  u_op wg_rel hF
  u_c stepG_region_end wg_rel hF
  u_cond true wg_rel hF
  u_reg wg_rel hF
  u_op wg_rel hF
  u_op wg_rel hF
  u_op wg_rel hF
  u_in wg_rel hF
  refine goes_oper_k rfl rfl (by k_ne) (fun Kx hKx => ?_)
  have hcv := run_convert_to_unsafe (P := P) H.underlying_tPU32 H.underlying_tUP H.room_tU32 (wgc hF).2.2.1
  have hce := fun es => events_convert_to_unsafe (P := P) H.underlying_tPU32 H.underlying_tUP H.room_tU32 (wgc hF).2.2.1 es
  go_simp
  refine hKx _ _ ⟨?_, ?_⟩
  · u_none
    intro ex hex
    have hmx := mem_listed hex
    simp [go_sem, hce] at hmx
  clear hKx Kx hcv hce
  refine Goes.stop (fun w₂ h₂ => ?_)
  replace hF := wg_rel hF h₂
  clear h₂
  refine ⟨rfl, _, stepG_markAt .read (by simp) rfl rfl (by k_ne) rfl H.f_raceRead (x_raceRead_n L) (x_raceRead_b L) (x_raceRead_x L) (x_raceRead_f L) (by simp [Act.eval, smW]), 100, ?_⟩
  walk_nrm
  u_c stepG_region_end wg_rel hF
  u_c stepG_seq wg_rel hF
  u_c stepG_seq wg_rel hF
  u_reg wg_rel hF
  u_op wg_rel hF
  u_op wg_rel hF
  u_c stepG_region_end wg_rel hF
  u_cond false wg_rel hF
  u_c stepG_skip wg_rel hF
  u_c stepG_seq wg_rel hF
  u_c stepG_seq wg_rel hF
  u_reg wg_rel hF
  u_op wg_rel hF
  u_op wg_rel hF
  u_op wg_rel hF
  u_skip wg_rel hF
  u_skip wg_rel hF
  u_op wg_rel hF
  u_op wg_rel hF
  u_skip wg_rel hF
  u_skip wg_rel hF
  u_skip wg_rel hF
  u_skip wg_rel hF
  u_op wg_rel hF
  u_c stepG_region_end wg_rel hF
  u_cond false wg_rel hF
  u_c stepG_skip wg_rel hF
  u_c stepG_seq wg_rel hF
  u_c stepG_seq wg_rel hF
  u_reg wg_rel hF
  u_op wg_rel hF
  u_op wg_rel hF
  u_op wg_rel hF
  u_skip wg_rel hF
  u_skip wg_rel hF
  u_op wg_rel hF
  u_c stepG_region_end wg_rel hF
  u_cond true wg_rel hF
  u_c stepG_ret' wg_rel hF
  refine Goes.stop (fun w₃ h₃ => ?_)
  refine ⟨rfl, _, stepG_unwind_entry (v := .tuple #[]) (evs := #[mkE .enable]) rfl H.f_enable (x_enable_n L) (x_enable_b L) (x_enable_x L) (x_enable_f L) (by simp [Extern.Race.none_]) (by simp [mkE]) (fun x hx => by simp at hx; subst hx; simp [mkE]), 20, ?_⟩
  have hN : True := trivial
  clear hF h₃
  u_leave0 H.f_add (fun (h : True) (_ : AtRel _ _) => h) hN
  exact Goes.stop (fun _ _ => rfl)

theorem Ends.goesA {P : Program} {Post : Value → World → Prop} {Shun : Loc → Prop} {d : Nat} {Stop : Goroutine → World → Prop} {w₀ : World} (hS : ∀ g w, AtRel w₀ w → (∀ w₁, AtRel w w₁ → Stop g w₁) → Ends P Post Shun d g w) :
    ∀ {n : Nat} {g : Goroutine} {w : World}, AtRel w₀ w → Goes P true AtRel D0 Stop n g w → Ends P Post Shun d g w
  | 0, g, w, h0, h => hS g w h0 h
  | n + 1, g, w, h0, h => by
    rcases h with h | ⟨hs, h⟩
    · exact hS g w h0 h
    · refine Ends.step hs fun k => ?_
      have := h (w.at k) ⟨k, rfl⟩
      obtain ⟨g', w', es, e, ⟨rfl, rfl⟩, hg⟩ := goes_elim this
      exact ⟨g', w.at k, #[], e, Nat.le_refl _, by simp, Ends.goesA hS (atRel_trans _ _ _ h0 ⟨k, rfl⟩) hg⟩

section
variable {P : Program} {Post : Value → World → Prop} {Shun : Loc → Prop} {Wg : Nat} {Ret : Goroutine} {g : Goroutine} {w : World}

theorem evD_mark {B : Nat} {m : Mark} (h : (MemAct.mark m).touch? = none) (hl : (MemAct.mark m).low B) : EvD Shun B (mkE m) := ⟨(fun x hx => by rw [ofEvent_mkE, h] at hx; cases hx), hl⟩
theorem evD_wg {B : Nat} {a : Addr} {wr : Bool} (h : a.block < B) : EvD Shun B ⟨.cell a, wr, true⟩ := ⟨fun x hx _ => by
  simp only [ofEvent_atomic, MemAct.touch?, Option.some.injEq] at hx
  subst hx
  simp, h⟩

theorem ends_en (hR : ∀ w', AtRel w w' → Ends P Post Shun 0 Ret w') (h : ∀ w₁, AtRel w w₁ → PEn P Ret g w₁) : Ends P Post Shun 1 g w := by
  refine Ends.step (h w (atRel_refl w)).1 fun n => ?_
  obtain ⟨_, g', hs, m, hG⟩ := h (w.at n) ⟨n, rfl⟩
  refine ⟨g', w.at n, _, hs, Nat.le_refl _, fun e he => ?_, ?_⟩
  · simp at he
    subst he
    exact evD_mark rfl trivial
  · exact Ends.goesA (w₀ := w) (fun g w' h0 hst => by rw [hst w' (atRel_refl w')]; exact hR w' h0) ⟨n, rfl⟩ hG

theorem ends_rd (hW : Wg < w.heap.size) (hR : ∀ w', AtRel w w' → Ends P Post Shun 0 Ret w') (h : ∀ w₁, AtRel w w₁ → PRd P Wg Ret g w₁) : Ends P Post Shun 1 g w := by
  refine Ends.step (h w (atRel_refl w)).1 fun n => ?_
  obtain ⟨_, g', hs, m, hG⟩ := h (w.at n) ⟨n, rfl⟩
  refine ⟨g', w.at n, _, hs, Nat.le_refl _, fun e he => ?_, ?_⟩
  · simp at he
    subst he
    refine ⟨fun x hx _ => ?_, hW⟩
    simp only [ofEvent_mkE, MemAct.touch?, Option.some.injEq] at hx
    subst hx
    simp
  · exact Ends.goesA (w₀ := w) (fun g w' h0 hst => ends_en (fun w'' h'' => hR w'' (atRel_trans _ _ _ h0 h'')) hst) ⟨n, rfl⟩ hG

theorem ends_add (hW : Wg < w.heap.size) (hR : ∀ w', AtRel (w.setCell (stW Wg) (.int .u64 KK)) w' → Ends P Post Shun 0 Ret w') {n : Nat} (h : Goes P true AtRel D0 (PDi P Wg Ret) n g w) : Ends P Post Shun 0 g w := by
  refine Ends.goesA (w₀ := w) (fun g w' h0 hst => ?_) (atRel_refl w) h
  obtain ⟨d0, rfl⟩ := h0
  refine Ends.step (hst _ (atRel_refl _)).1 fun n => ?_
  obtain ⟨_, g', hs, m, hG⟩ := hst _ ⟨n, rfl⟩
  refine ⟨g', _, _, hs, Nat.le_refl _, fun e he => ?_, ?_⟩
  · simp at he
    subst he
    exact evD_mark rfl trivial
  · refine Ends.goesA (w₀ := w) (d := 1) (fun g w' h0 hst => ?_) ⟨n, rfl⟩ hG
    obtain ⟨d1, rfl⟩ := h0
    refine Ends.step (hst _ (atRel_refl _)).1 fun n => ?_
    obtain ⟨_, g', hs, m, hG⟩ := hst _ ⟨n, rfl⟩
    refine ⟨g', _, _, hs, by rw [set_size]; exact Nat.le_refl _, fun e he => ?_, ?_⟩
    · simp at he
      rcases he with rfl | rfl
      · exact evD_wg (by rw [set_size]; exact hW)
      · exact evD_wg (by rw [set_size]; exact hW)
    · refine Ends.goesA (w₀ := w.setCell (stW Wg) (.int .u64 KK)) (d := 1) (fun g w' h0 hst => ?_) ⟨n, rfl⟩ hG
      refine ends_rd (w := w') ?_ (fun w'' h'' => hR w'' (atRel_trans _ _ _ h0 h'')) hst
      obtain ⟨d2, rfl⟩ := h0
      show Wg < (w.setCell _ _).heap.size
      rw [set_size]; exact hW

end
end Go.Pair

/- The streams of the world (what the operating system is, what was written out): the caller's script keeps them, so that its end may say so. -/
namespace Go.Pair
open Go Go.Conc

def Same (w w' : World) : Prop := w'.os = w.os ∧ w'.output = w.output

theorem Same.refl (w : World) : Same w w := ⟨rfl, rfl⟩
theorem Same.trans {a b c : World} (h : Same a b) (h' : Same b c) : Same a c := ⟨h'.1.trans h.1, h'.2.trans h.2⟩
theorem Keeps.same {K : Nat → Obj → Prop} {w w' : World} (h : Keeps K w w') : Same w w' := ⟨h.os, h.output⟩

theorem goes_conv {P : Program} {main : Bool} {R R' : World → World → Prop} {D D' : World → World → Array Event → Prop} {Stop Stop' : Goroutine → World → Prop} {I : World → Prop} (hR : ∀ w w', R' w w' → R w w') (hRI : ∀ w w', R' w w' → I w → I w')
    (hD : ∀ w w' es, D w w' es → D' w w' es) (hDI : ∀ w w' es, D w w' es → I w → I w') (hS : ∀ g w, I w → Stop g w → Stop' g w) : ∀ {n : Nat} {g : Goroutine} {w : World}, I w → Goes P main R D Stop n g w → Goes P main R' D' Stop' n g w
  | 0, g, w, hI, h => fun w₁ r => hS g w₁ (hRI _ _ r hI) (h w₁ (hR _ _ r))
  | n + 1, g, w, hI, h => by
    rcases h with h | ⟨hs, h⟩
    · exact .inl fun w₁ r => hS g w₁ (hRI _ _ r hI) (h w₁ (hR _ _ r))
    · refine .inr ⟨hs, fun w₁ r => ?_⟩
      have h1 := h w₁ (hR _ _ r)
      have hI1 := hRI _ _ r hI
      revert h1
      cases stepG P main g w₁ <;> simp only [GStep.goes, imp_self]
      exact fun ⟨d, x⟩ => ⟨hD _ _ _ d, goes_conv hR hRI hD hDI hS (hDI _ _ _ d hI1) x⟩

section
variable (C : Cfg) (I : World → Prop)
def Cfg.saying : Cfg := { C with PostA := fun s g w => I w ∧ C.PostA s g w }

variable {C I}
theorem Cfg.Ok.saying (O : C.Ok) (hI : ∀ (w : World) (d : Nat), I (w.at d) ↔ I w) : (C.saying I).Ok := ⟨O.hk, O.parts, O.neq, O.ka, O.kb, O.msgB, O.fbB, fun s g w d => and_congr (hI w d) (O.postAt s g w d)⟩
variable {sent : List (C.β × Value)} {g : Goroutine} {w : World}

theorem goes_a0 (hK : ∀ w w', Same w w' → I w → I w') {Stop Stop' : Goroutine → World → Prop} (hS : ∀ g w, I w → Stop g w → Stop' g w) {n : Nat} (hI : I w) (h : Goes C.P true (RA C sent) D0 Stop n g w) : Goes (C.saying I).P true (RA (C.saying I) sent) D0 Stop' n g w :=
  goes_conv (fun w w' r => ⟨r.keep, r.wg, r.msg⟩) (fun w w' r => hK _ _ r.keep.same) (fun _ _ _ h => h) (fun w w' es h => by obtain ⟨rfl, rfl⟩ := h; exact id) hS hI h

theorem goes_a1 (hK : ∀ w w', Same w w' → I w → I w') {Stop Stop' : Goroutine → World → Prop} (hS : ∀ g w, I w → Stop g w → Stop' g w) {n : Nat} (hI : I w) (h : Goes C.P true (RA C sent) (DA C) Stop n g w) : Goes (C.saying I).P true (RA (C.saying I) sent) (DA (C.saying I)) Stop' n g w :=
  goes_conv (fun w w' r => ⟨r.keep, r.wg, r.msg⟩) (fun w w' r => hK _ _ r.keep.same) (fun _ _ _ h => ⟨h.keep, h.grow, h.wg, h.ch, h.ev⟩) (fun w w' es h => hK _ _ h.keep.same) hS hI h

theorem aacq_say (hI : I w) (h : AAcq C sent g w) : AAcq (C.saying I) sent g w := by
  obtain ⟨h1, g', h2, h3, h4⟩ := h
  exact ⟨h1, g', h2, h3, hI, h4⟩

theorem ake_say (hK : ∀ w w', Same w w' → I w → I w') (hI : I w) (h : AKe C sent g w) : AKe (C.saying I) sent g w := by
  obtain ⟨h1, g', h2, m, h3⟩ := h
  exact ⟨h1, g', h2, m, goes_a0 hK (fun _ _ => aacq_say) hI h3⟩

theorem aw4_say (hK : ∀ w w', Same w w' → I w → I w') (hI : I w) (h : AW4 C sent g w) : AW4 (C.saying I) sent g w := by
  refine ⟨h.1, fun hw => ?_⟩
  obtain ⟨g', h2, m, h3⟩ := h.2 hw
  exact ⟨g', h2, m, goes_a0 hK (fun _ _ => ake_say hK) hI h3⟩

theorem aw3_say (hK : ∀ w w', Same w w' → I w → I w') (hI : I w) (h : AW3 C sent g w) : AW3 (C.saying I) sent g w := by
  refine ⟨h.1, h.2.1, h.2.2.1, fun hw => ?_⟩
  obtain ⟨g', h2, m, h3⟩ := h.2.2.2 hw
  exact ⟨g', h2, m, goes_a0 hK (fun _ _ => aw4_say hK) (hK w (w.setCell (smW C.Wg) (.int .u32 0)) ⟨rfl, rfl⟩ hI) h3⟩

theorem awm_say (hK : ∀ w w', Same w w' → I w → I w') (hI : I w) (h : AWm C sent g w) : AWm (C.saying I) sent g w := by
  obtain ⟨h1, g', h2, m, h3⟩ := h
  exact ⟨h1, g', h2, m, goes_a0 hK (fun _ _ => aw3_say hK) hI h3⟩

theorem awz_say (hK : ∀ w w', Same w w' → I w → I w') (hI : I w) (h : AWz C sent g w) : AWz (C.saying I) sent g w := by
  refine ⟨h.1, fun hw => ?_⟩
  obtain ⟨g', h2, m, h3⟩ := h.2 hw
  exact ⟨g', h2, m, goes_a0 hK (fun _ _ => ake_say hK) hI h3⟩

theorem aw2_say (hK : ∀ w w', Same w w' → I w → I w') (hI : I w) (h : AW2 C sent g w) : AW2 (C.saying I) sent g w := by
  refine ⟨h.1, fun hw => ?_, fun hw => ?_⟩
  · obtain ⟨g', h2, m, h3⟩ := h.2.1 hw
    exact ⟨g', h2, m, goes_a0 hK (fun _ _ => awm_say hK) (hK w (w.setCell (stW C.Wg) (.int .u64 (KK + 1))) ⟨rfl, rfl⟩ hI) h3⟩
  · obtain ⟨g', h2, m, h3⟩ := h.2.2 hw
    exact ⟨g', h2, m, goes_a0 hK (fun _ _ => awz_say hK) hI h3⟩

theorem aw1_say (hK : ∀ w w', Same w w' → I w → I w') (hI : I w) (h : AW1 C sent g w) : AW1 (C.saying I) sent g w := by
  refine ⟨h.1, fun hw => ?_, fun hw => ?_⟩
  · obtain ⟨g', h2, m, h3⟩ := h.2.1 hw
    exact ⟨g', h2, m, goes_a0 hK (fun _ _ => aw2_say hK) hI h3⟩
  · obtain ⟨g', h2, m, h3⟩ := h.2.2 hw
    exact ⟨g', h2, m, goes_a0 hK (fun _ _ => ake_say hK) hI h3⟩

theorem akd_say (hK : ∀ w w', Same w w' → I w → I w') (hI : I w) (h : AKd C sent g w) : AKd (C.saying I) sent g w := by
  obtain ⟨h1, g', h2, m, h3⟩ := h
  exact ⟨h1, g', h2, m, goes_a0 hK (fun _ _ => aw1_say hK) hI h3⟩

theorem arc_say (hK : ∀ w w', Same w w' → I w → I w') (hI : I w) (h : ARc C sent g w) : ARc (C.saying I) sent g w := by
  obtain ⟨h1, z, h2, h3⟩ := h
  refine ⟨h1, z, h2, fun w₂ r => ?_⟩
  obtain ⟨m, h4⟩ := h3 w₂ ⟨r.keep, r.wg, r.msg⟩
  exact ⟨m, goes_a1 hK (fun _ _ => akd_say hK) (hK _ _ r.keep.same hI) h4⟩

theorem arecvs_say (hK : ∀ w w', Same w w' → I w → I w') : ∀ (bs : List C.β) (sent : List (C.β × Value)) (g : Goroutine) (w : World), I w → ARecvs C bs sent g w → ARecvs (C.saying I) bs sent g w
  | [], sent, g, w, hI, h => by
    obtain ⟨n, h⟩ := h
    exact ⟨n, goes_a1 hK (fun _ _ => arc_say hK) hI h⟩
  | b :: bs, sent, g, w, hI, h => by
    obtain ⟨n, h⟩ := h
    refine ⟨n, goes_a1 hK (fun g w hI h => ?_) hI h⟩
    obtain ⟨h1, z, h2, h3⟩ := h
    exact ⟨h1, z, h2, fun v w₂ r hm => arecvs_say hK bs _ _ _ (hK _ _ r.keep.same hI) (h3 v w₂ ⟨r.keep, r.wg, r.msg⟩ hm)⟩

end
end Go.Pair
