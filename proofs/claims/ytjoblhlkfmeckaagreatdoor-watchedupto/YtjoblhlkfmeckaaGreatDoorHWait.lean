import Derived.Test.YtjoblhlkfmeckaaGreatDoorHDone
import Derived.Conc.FxGenAddNeg
set_option linter.unusedVariables false
set_option linter.unusedSimpArgs false
open Go.Conc renaming stepG_region_end → we,stepG_seq → mr,AtRel → cu,stepG_ret' → ae,stepG_skip → rp
open Go.Conc.Goes renaming stop → gx
open Go.Act renaming eval → cj
theorem U1l{p q:Prop}(k:q)(h:Hd q->p:=by
 intro kz
 have hcv:=run_convert_to_unsafe (P:=C.P) H.underlying_tWgP H.underlying_tUP H.room_tWg (Dq.cell0 hK.2).choose_spec
 have hce:=fun es=>events_convert_to_unsafe (P:=C.P) H.underlying_tWgP H.underlying_tUP H.room_tWg (Dq.cell0 hK.2).choose_spec es
 go_simp
 revert hcv hce
 exact kz.1):p:=h ⟨k⟩
theorem Wdh{p:Prop}(h:p:=by
 refine⟨_,stepG_load_atomic rfl rfl (by k_ne) rfl H.f_loadU64 (x_loadU64_n L) (x_loadU64_b L) (x_loadU64_x L) .u64 (x_loadU64_f L) rfl (wgc hw).1,200,?_⟩
 clear hw
 walk_nrm
 u_op Ap hK
 u_c stepG_region_end Ap hK
 u_c stepG_ret' Ap hK
 u_leave1 H.f_uLoad Ap hK
 u_op Ap hK
 u_c stepG_region_end Ap hK
 u_c stepG_seq Ap hK
 u_reg Ap hK
 u_op Ap hK
 u_op Ap hK
 u_op Ap hK
 u_op Ap hK
 u_c stepG_region_end Ap hK
 u_c stepG_seq Ap hK
 u_reg Ap hK
 u_op Ap hK
 u_op Ap hK
 u_op Ap hK
 u_op Ap hK
 u_c stepG_region_end Ap hK
 u_c stepG_seq Ap hK
 u_c stepG_seq Ap hK
 u_reg Ap hK
 u_op Ap hK
 u_op Ap hK
 u_c stepG_region_end Ap hK
 u_cond true Ap hK
 u_c stepG_seq Ap hK
 u_cond true Ap hK
 u_c stepG_seq Ap hK
 u_reg Ap hK
 refine Goes.stop (fun w₆ h₆=>?_)
 replace hK:=Ap hK h₆
 clear h₆
 refine⟨rfl,_,stepG_mark0 .enable Ae rfl rfl (by k_ne) rfl H.f_enable (x_enable_n L) (x_enable_b L) (x_enable_x L) (x_enable_f L),50,?_⟩
 walk_nrm
 u_c stepG_region_end Ap hK
 u_reg Ap hK
 u_op Ap hK
 u_in Ap hK
 refine goes_oper_k rfl rfl (by k_ne) (fun Kx hKx=>?_)
 refine U1l ?_;intro hcv hce
 refine hKx _ _ ⟨?_,?_⟩
 ·u_none
  intro ex hex
  have hmx:=mem_listed hex
  simp [go_sem,hce] at hmx
 clear hKx Kx hcv hce
 refine Goes.stop (fun w₇ h₇=>?_)
 replace hK:=Ap hK h₇
 clear h₇
 refine⟨rfl,_,stepG_markAt .acquire Ae rfl rfl (by k_ne) rfl H.f_acquire (x_acquire_n L) (x_acquire_b L) (x_acquire_x L) (x_acquire_f L) (by simp [Act.eval,Gq]),rfl,hpost _ _ hK rfl ⟨60,?_⟩⟩
 walk_nrm
 have hN:True:=trivial
 clear hK
 u_c stepG_region_end (fun(h:True) (_:AtRel _ _)=>h) hN
 u_c stepG_seq (fun(h:True) (_:AtRel _ _)=>h) hN
 u_c stepG_seq (fun(h:True) (_:AtRel _ _)=>h) hN
 u_reg (fun(h:True) (_:AtRel _ _)=>h) hN
 u_op (fun(h:True) (_:AtRel _ _)=>h) hN
 u_op (fun(h:True) (_:AtRel _ _)=>h) hN
 u_op (fun(h:True) (_:AtRel _ _)=>h) hN
 u_op (fun(h:True) (_:AtRel _ _)=>h) hN
 u_op (fun(h:True) (_:AtRel _ _)=>h) hN
 u_op (fun(h:True) (_:AtRel _ _)=>h) hN
 u_op (fun(h:True) (_:AtRel _ _)=>h) hN
 u_op (fun(h:True) (_:AtRel _ _)=>h) hN
 u_skip (fun(h:True) (_:AtRel _ _)=>h) hN
 u_skip (fun(h:True) (_:AtRel _ _)=>h) hN
 u_op (fun(h:True) (_:AtRel _ _)=>h) hN
 u_c stepG_region_end (fun(h:True) (_:AtRel _ _)=>h) hN
 u_cond false (fun(h:True) (_:AtRel _ _)=>h) hN
 u_c stepG_skip (fun(h:True) (_:AtRel _ _)=>h) hN
 u_c stepG_ret' (fun(h:True) (_:AtRel _ _)=>h) hN
 u_leave0 H.f_wait (fun(h:True) (_:AtRel _ _)=>h) hN
 exact Goes.stop (fun _ _=>rfl)):p:=h
namespace Go.Pair
open Go Go.Conc Go.ConcX.Gen Go.RowKit Go.Conc.Lib
variable {C:Pu} {L:WgLink}
def KA2(C:Pu)(sent:List (C.β×Value))(w w₁:World):Prop:=RA C sent w w₁/\Dq C.ty C.Wg w₁
theorem Ap{sent:List (C.β×Value)}{w₀ w w₁:World}(h:KA2 C sent w₀ w)(r:RA C sent w w₁):KA2 C sent w₀ w₁:=⟨h.1.trans r,r.wg h.2⟩
theorem FL(O:C.Ok){sent:List (C.β×Value)}{w₀ w:World}{ad:Addr}{v:Value}{st sm:Int}(h:KA2 C sent w₀ w)(had:ad.block=C.Wg)(hw:D3 C.ty C.Wg (w.setCell ad v) st sm):KA2 C sent w₀ (w.setCell ad v):=
 ⟨h.1.trans (AD O had fun _=>⟨st,sm,hw⟩),⟨st,sm,hw⟩⟩
theorem Dq.cell1{ty:TypeId}{Wg:Nat}{w:World}(h:Dq ty Wg w):∃v,w.cell? ⟨Wg,1,none⟩=some v:=by
 obtain⟨st,sm,x⟩:=h
 unfold D3 at x
 exact⟨.int .u32 sm,by simp [World.cell?,KY,x]⟩
noncomputable def Pw(L:WgLink):Code:=(waitFn L).body.getD .skip
set_option maxRecDepth 100000 in
set_option maxHeartbeats 4000000 in
theorem WM(O:C.Ok)(H:WgLib C.P L)(hty:C.ty=L.tWg){sent:List (C.β×Value)}{b₀:Frame}{a₀:Act}{ops₀:Array Oper}{i₀:Nat}{rest₀:List Nat}{k₀:List Item}{cs:List Frame}(w:World)(hK:Dq C.ty C.Wg w)(hpost:∀g' w₁,KA2 C sent w w₁->g'.status=.running->(∃n,Goes C.P true cu D0 (fun g _=>g=G (b₀.at (a₀.put ((ops₀[i₀]?).bind (·.dst)) (.tuple #[])) (.inRegion ops₀ rest₀ :: k₀)) cs) n g' w₁)->C.PostA sent g' w₁) :
  Goes C.P true (RA C sent) D0 (AKd C sent) 100 (G ((base L.wait).at ⟨#[.pointer (some ⟨C.Wg,0,none⟩)]++Array.replicate ((waitFn L).ntmps - 1) undef,[]⟩ [.code (Pw L)]) (b₀.at a₀ (.inRegion ops₀ (i₀ :: rest₀) :: k₀) :: cs)) w:=by
 lib_facts
 simp only [Pw,waitFn,aN,Nat.reduceSub,bT,bZ,cG,cB,aP,bK]
 refine S9h ?_;intro wgc
 have hK:KA2 C sent w w:=⟨RA.refl _ _ _,hK⟩
 u_c mr Ap hK
 u_cond true Ap hK
 u_reg Ap hK
 refine gx (fun w₁ h₁=>?_)
 replace hK:=Ap hK h₁
 clear h₁
 refine⟨rfl,_,stepG_mark0 .disable Ae rfl rfl (by k_ne) rfl H.f_disable (x_disable_n L) (x_disable_b L) (x_disable_x L) (x_disable_f L),100,?_⟩
 walk_nrm
 u_c we Ap hK
 u_c stepG_block Ap hK
 u_c stepG_loop Ap hK
 u_c stepG_block Ap hK
 u_c mr Ap hK
 u_reg Ap hK
 u_op Ap hK
 u_op Ap hK
 u_op Ap hK
 u_call H.f_uLoad (nm_uLoad L) uLoadFn Ap hK
 u_c mr Ap hK
 u_reg Ap hK
 u_op Ap hK
 u_c we Ap hK
 u_c mr Ap hK
 u_reg Ap hK
 u_op Ap hK
 u_op Ap hK
 u_op Ap hK
 refine gx (fun w₁ h₁=>?_)
 replace hK:=Ap hK h₁
 clear h₁
 refine⟨rfl,fun hw=>?_,fun hw=>?_⟩
 ·refine⟨_,stepG_load_atomic rfl rfl (by k_ne) rfl H.f_loadU64 (x_loadU64_n L) (x_loadU64_b L) (x_loadU64_x L) .u64 (x_loadU64_f L) rfl (wgc hw).1,200,?_⟩
  clear hw
  walk_nrm
  u_op Ap hK
  u_c we Ap hK
  u_c ae Ap hK
  u_leave1 H.f_uLoad Ap hK
  u_op Ap hK
  u_c we Ap hK
  u_c mr Ap hK
  u_reg Ap hK
  u_op Ap hK
  u_op Ap hK
  u_op Ap hK
  u_op Ap hK
  u_c we Ap hK
  u_c mr Ap hK
  u_reg Ap hK
  u_op Ap hK
  u_op Ap hK
  u_op Ap hK
  u_op Ap hK
  u_c we Ap hK
  u_c mr Ap hK
  u_c mr Ap hK
  u_reg Ap hK
  u_op Ap hK
  u_op Ap hK
  u_c we Ap hK
  u_cond false Ap hK
  u_c rp Ap hK
  u_c mr Ap hK
  u_reg Ap hK
  u_op Ap hK
  u_op Ap hK
  u_op Ap hK
  u_op Ap hK
  u_op Ap hK
  u_op Ap hK
  u_call H.f_uCas (nm_uCas L) uCasFn Ap hK
  u_c mr Ap hK
  u_reg Ap hK
  u_op Ap hK
  u_c we Ap hK
  u_c mr Ap hK
  u_reg Ap hK
  u_op Ap hK
  u_op Ap hK
  u_op Ap hK
  u_op Ap hK
  u_op Ap hK
  refine gx (fun w₂ h₂=>?_)
  replace hK:=Ap hK h₂
  clear h₂
  refine⟨rfl,fun hw=>?_,fun hw=>?_⟩
  ·refine⟨_,stepG_cas_hit rfl rfl (by k_ne) rfl H.f_casU64 (x_casU64_n L) (x_casU64_b L) (x_casU64_x L) .u64 (x_casU64_f L) rfl rfl rfl (wgc hw).1 (wgc hw).2.1,200,?_⟩
   replace hK:=FL O hK rfl (Jp hw (KK+1))
   clear hw
   walk_nrm
   u_op Ap hK
   u_c we Ap hK
   u_c ae Ap hK
   u_leave1 H.f_uCas Ap hK
   u_c we Ap hK
   u_cond true Ap hK
   u_c mr Ap hK
   u_c mr Ap hK
   u_reg Ap hK
   u_op Ap hK
   u_op Ap hK
   u_op Ap hK
   u_op Ap hK
   u_c we Ap hK
   u_cond true Ap hK
   u_reg Ap hK
   u_op Ap hK
   u_op Ap hK
   u_op Ap hK
   u_in Ap hK
   refine goes_oper_k rfl rfl (by k_ne) (fun Kx hKx=>?_)
   have hcv:=run_convert_to_unsafe (P:=C.P) H.underlying_tPU32 H.underlying_tUP H.room_tU32 (Dq.cell1 hK.2).choose_spec
   have hce:=fun es=>events_convert_to_unsafe (P:=C.P) H.underlying_tPU32 H.underlying_tUP H.room_tU32 (Dq.cell1 hK.2).choose_spec es
   go_simp
   refine hKx _ _ ⟨?_,?_⟩
   ·exact Xz3
   clear hKx Kx hcv hce
   refine gx (fun w₃ h₃=>?_)
   replace hK:=Ap hK h₃
   clear h₃
   refine⟨rfl,_,stepG_markAt .write Ae rfl rfl (by k_ne) rfl H.f_raceWrite (x_raceWrite_n L) (x_raceWrite_b L) (x_raceWrite_x L) (x_raceWrite_f L) (by simp [cj,Yi]),200,?_⟩
   walk_nrm
   u_c we Ap hK
   u_c mr Ap hK
   u_reg Ap hK
   u_op Ap hK
   u_c we Ap hK
   u_c mr Ap hK
   u_c mr Ap hK
   u_reg Ap hK
   u_op Ap hK
   u_op Ap hK
   u_op Ap hK
   u_op Ap hK
   u_skip Ap hK
   u_op Ap hK
   u_c we Ap hK
   u_cond false Ap hK
   u_c rp Ap hK
   u_c mr Ap hK
   u_reg Ap hK
   u_op Ap hK
   u_op Ap hK
   u_op Ap hK
   u_op Ap hK
   refine gx (fun w₄ h₄=>?_)
   replace hK:=Ap hK h₄
   clear h₄
   refine⟨rfl,rfl,fun⟨st,hw⟩=>?_,fun hw=>?_⟩
   ·exact stepG_semacquire_wait rfl rfl rfl H.f_semacquire (x_semacquire_n L) (x_semacquire_b L) (x_semacquire_x L) (x_semacquire_f L) (by simp [cj]) (wgc hw).2.2.1
   ·refine⟨_,stepG_semacquire rfl rfl (by k_ne) rfl H.f_semacquire (x_semacquire_n L) (x_semacquire_b L) (x_semacquire_x L) (x_semacquire_f L) (by simp [cj,Yi]) (wgc hw).2.2.1 Ad (wgc hw).2.2.2,200,?_⟩
    replace hK:=FL O hK rfl (Yd hw 0)
    clear hw
    walk_nrm
    u_c we Ap hK
    u_c mr Ap hK
    u_reg Ap hK
    u_op Ap hK
    u_op Ap hK
    u_op Ap hK
    u_call H.f_uLoad (nm_uLoad L) uLoadFn Ap hK
    u_c mr Ap hK
    u_reg Ap hK
    u_op Ap hK
    u_c we Ap hK
    u_c mr Ap hK
    u_reg Ap hK
    u_op Ap hK
    u_op Ap hK
    u_op Ap hK
    refine gx (fun w₅ h₅=>?_)
    replace hK:=Ap hK h₅
    clear h₅
    refine⟨rfl,fun hw=>?_⟩
    refine⟨_,stepG_load_atomic rfl rfl (by k_ne) rfl H.f_loadU64 (x_loadU64_n L) (x_loadU64_b L) (x_loadU64_x L) .u64 (x_loadU64_f L) rfl (wgc hw).1,200,?_⟩
    clear hw
    walk_nrm
    u_op Ap hK
    u_c we Ap hK
    u_c ae Ap hK
    u_leave1 H.f_uLoad Ap hK
    u_op Ap hK
    u_op Ap hK
    u_c we Ap hK
    u_c mr Ap hK
    u_cond true Ap hK
    u_c mr Ap hK
    u_reg Ap hK
    refine gx (fun w₆ h₆=>?_)
    replace hK:=Ap hK h₆
    clear h₆
    refine⟨rfl,_,stepG_mark0 .enable Ae rfl rfl (by k_ne) rfl H.f_enable (x_enable_n L) (x_enable_b L) (x_enable_x L) (x_enable_f L),50,?_⟩
    walk_nrm
    u_c we Ap hK
    u_reg Ap hK
    u_op Ap hK
    u_in Ap hK
    refine goes_oper_k rfl rfl (by k_ne) (fun Kx hKx=>?_)
    refine U1l ?_;intro hcv hce
    refine hKx _ _ ⟨?_,?_⟩
    ·exact Xz3
    clear hKx Kx hcv hce
    refine gx (fun w₇ h₇=>?_)
    replace hK:=Ap hK h₇
    clear h₇
    refine⟨rfl,_,stepG_markAt .acquire Ae rfl rfl (by k_ne) rfl H.f_acquire (x_acquire_n L) (x_acquire_b L) (x_acquire_x L) (x_acquire_f L) (by simp [cj,Gq]),rfl,hpost _ _ hK rfl ⟨60,?_⟩⟩
    walk_nrm
    have hN:True:=trivial
    clear hK
    u_c we (fun(h:True) (_:cu _ _)=>h) hN
    u_c mr (fun(h:True) (_:cu _ _)=>h) hN
    u_c mr (fun(h:True) (_:cu _ _)=>h) hN
    u_reg (fun(h:True) (_:cu _ _)=>h) hN
    u_op (fun(h:True) (_:cu _ _)=>h) hN
    u_c we (fun(h:True) (_:cu _ _)=>h) hN
    u_cond false (fun(h:True) (_:cu _ _)=>h) hN
    u_c rp (fun(h:True) (_:cu _ _)=>h) hN
    u_c ae (fun(h:True) (_:cu _ _)=>h) hN
    u_leave0 H.f_wait (fun(h:True) (_:cu _ _)=>h) hN
    exact gx (fun _ _=>rfl)
  ·refine⟨_,stepG_cas_miss rfl rfl (by k_ne) rfl H.f_casU64 (x_casU64_n L) (x_casU64_b L) (x_casU64_x L) .u64 (x_casU64_f L) rfl rfl rfl (wgc hw).1 (wgc hw).2.1 Ad,200,?_⟩
   clear hw
   walk_nrm
   u_op Ap hK
   u_c we Ap hK
   u_c ae Ap hK
   u_leave1 H.f_uCas Ap hK
   u_c we Ap hK
   u_cond false Ap hK
   u_c rp Ap hK
   u_c stepG_inBlock Ap hK
   u_c stepG_inLoop Ap hK
   u_c stepG_block Ap hK
   u_c mr Ap hK
   u_reg Ap hK
   u_op Ap hK
   u_op Ap hK
   u_op Ap hK
   u_call H.f_uLoad (nm_uLoad L) uLoadFn Ap hK
   u_c mr Ap hK
   u_reg Ap hK
   u_op Ap hK
   u_c we Ap hK
   u_c mr Ap hK
   u_reg Ap hK
   u_op Ap hK
   u_op Ap hK
   u_op Ap hK
   refine gx (fun w₃ h₃=>?_)
   replace hK:=Ap hK h₃
   clear h₃
   refine⟨rfl,fun hw=>?_⟩
   exact Wdh
 ·exact Wdh
end Go.Pair
