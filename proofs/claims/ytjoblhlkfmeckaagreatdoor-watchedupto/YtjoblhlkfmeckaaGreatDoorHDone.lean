import Derived.Test.YtjoblhlkfmeckaaGreatDoorQ02
import Derived.Conc.FxGenAddNeg
set_option maxRecDepth 100000
set_option linter.unusedVariables false
set_option linter.unusedSimpArgs false
open Go.Conc renaming stepG_region_end → we,stepG_seq → mr,stepG_skip → rp,stepG_ret' → ae
open Bool renaming false → vp
open Go.Conc.Goes renaming stop → gx
theorem S9h{p q:Prop}(k:q)(h:Hd q->p:=by
 intro kz
 have wgc:∀{w:World} {st sm:Int},D3 C.ty C.Wg w st sm->w.cell? ⟨C.Wg,0,none⟩=some (.int .u64 st)/\w.frozen? ⟨C.Wg,0,none⟩=false/\w.cell? ⟨C.Wg,1,none⟩=some (.int .u32 sm)/\w.frozen? ⟨C.Wg,1,none⟩=false:=fun h=>by
  unfold D3 at h
  simp [World.cell?,World.frozen?,KY,h]
 revert wgc
 exact kz.1):p:=h ⟨k⟩
theorem Xz3{p:Prop}(h:p:=by
 u_none
 intro ex hex
 have hmx:=mem_listed hex
 simp [go_sem,hce] at hmx):p:=h
namespace Go.Pair
open Go Go.Conc Go.ConcX.Gen Go.RowKit Go.Conc.Lib
theorem Me{p q:Prop}(k:q)(h:Hd q->p:=by
 intro kz
 apply QuitsD.value _ rfl rfl (by k_ne)
 ·intro w;go_simp;(try w_num);exact rfl
 ·intro w;simp [go_sem, *]
 walk_nrm
 exact kz.1):p:=h ⟨k⟩
theorem Dg{C:Pu}{w w₁:World}(h:Dq C.ty C.Wg w)(r:RB C w w₁):Dq C.ty C.Wg w₁:=r.wg h
theorem D3.c0{ty:TypeId}{Wg:Nat}{w:World}{st sm:Int}(h:D3 ty Wg w st sm):w.cell? (Gq Wg)=some (.int .u64 st):=by
 unfold D3 at h
 simp [World.cell?,Gq,KY,h]
theorem Dq.cell0{ty:TypeId}{Wg:Nat}{w:World}(h:Dq ty Wg w):∃v,w.cell? ⟨Wg,0,none⟩=some v:=let⟨st,sm,x⟩:=h;⟨_,x.c0⟩
variable {C:Pu} {L:WgLink}
theorem Bw(O:C.Ok){sent:List (C.β×Value)}{w w₁:World}(h:Dq C.ty C.Wg w/\C.FB sent w)(r:RB C w w₁):Dq C.ty C.Wg w₁/\C.FB sent w₁:=⟨r.wg h.1,O.fbB _ _ _ r.keep h.2⟩
noncomputable def Mg(L:WgLink):Code:=(addFn L).body.getD .skip
set_option maxHeartbeats 4000000 in
theorem addNeg(O:C.Ok){sent:List (C.β×Value)}(H:WgLib C.P L)(hty:C.ty=L.tWg){b₀:Frame}{a₀:Act}{ops₀:Array Oper}{i₀:Nat}{rest₀:List Nat}{k₀:List Item}{cs:List Frame}{qt:Nat}(hT:QuitsD C.P qt 0 (G (b₀.at (a₀.put ((ops₀[i₀]?).bind (·.dst)) (.tuple #[])) (.inRegion ops₀ rest₀ :: k₀)) cs))(w:World)(hK:Dq C.ty C.Wg w/\C.FB sent w) :
  Goes C.P vp (RB C) D0 (RN C sent) 100 (G ((base L.add).at ⟨#[.pointer (some ⟨C.Wg,0,none⟩),.int .i64 (-1)]++Array.replicate 115 undef,[]⟩ [.code (Mg L)]) (b₀.at a₀ (.inRegion ops₀ (i₀ :: rest₀) :: k₀) :: cs)) w:=by
 lib_facts
 simp only [Mg,addFn,aN,bT,bZ,cG,cB,aP,bK]
 refine S9h ?_;intro wgc
 u_c mr (Bw O) hK
 u_cond true (Bw O) hK
 u_c mr (Bw O) hK
 u_c mr (Bw O) hK
 u_reg (Bw O) hK
 u_op (Bw O) hK
 u_op (Bw O) hK
 u_c we (Bw O) hK
 u_cond true (Bw O) hK
 u_reg (Bw O) hK
 u_op (Bw O) hK
 u_in (Bw O) hK
 refine goes_oper_k rfl rfl (by k_ne) (fun Kx hKx=>?_)
 have hcv:=run_convert_to_unsafe (P:=C.P) H.underlying_tWgP H.underlying_tUP H.room_tWg (Dq.cell0 hK.1).choose_spec
 have hce:=fun es=>events_convert_to_unsafe (P:=C.P) H.underlying_tWgP H.underlying_tUP H.room_tWg (Dq.cell0 hK.1).choose_spec es
 go_simp
 refine hKx _ _ ⟨?_,?_⟩
 ·exact Xz3
 clear hKx Kx hcv hce
 refine gx (fun w₁ h₁=>?_)
 replace hK:=Bw O hK h₁
 clear h₁
 refine⟨rfl,hK.2,_,stepG_markAt .releaseMerge Ae rfl rfl (by k_ne) rfl H.f_relMerge (x_relMerge_n L) (x_relMerge_b L) (x_relMerge_x L) (x_relMerge_f L) (by simp [Act.eval,Gq]),100,?_⟩
 walk_nrm
 u_c we (Bw O) hK
 u_c mr (Bw O) hK
 u_reg (Bw O) hK
 refine gx (fun w₁ h₁=>?_)
 replace hK:=Bw O hK h₁
 clear h₁
 refine⟨rfl,_,stepG_mark0 .disable Ae rfl rfl (by k_ne) rfl H.f_disable (x_disable_n L) (x_disable_b L) (x_disable_x L) (x_disable_f L),100,?_⟩
 walk_nrm
 u_c we (Bw O) hK
 u_reg (Bw O) hK
 u_defer (Bw O) hK
 u_c we (Bw O) hK
 u_c mr (Bw O) hK
 u_reg (Bw O) hK
 u_op (Bw O) hK
 u_c we (Bw O) hK
 u_c mr (Bw O) hK
 u_c mr (Bw O) hK
 u_reg (Bw O) hK
 u_bub (Bw O) hK
 u_c we (Bw O) hK
 u_cond vp (Bw O) hK
 u_c rp (Bw O) hK
 u_c mr (Bw O) hK
 u_reg (Bw O) hK
 u_op (Bw O) hK
 u_op (Bw O) hK
 u_op (Bw O) hK
 u_op (Bw O) hK
 u_op (Bw O) hK
 u_op (Bw O) hK
 u_call H.f_uAdd (nm_uAdd L) uAddFn (Bw O) hK
 u_c mr (Bw O) hK
 u_reg (Bw O) hK
 u_op (Bw O) hK
 u_c we (Bw O) hK
 u_c mr (Bw O) hK
 u_reg (Bw O) hK
 u_op (Bw O) hK
 u_op (Bw O) hK
 u_op (Bw O) hK
 u_op (Bw O) hK
 refine gx (fun w₁ h₁=>?_)
 replace hK:=Bw O hK h₁
 clear h₁
 have e0:IntKind.u64.wrap (KK+18446744069414584320)=0:=Ad
 have e1:IntKind.u64.wrap (KK+1+18446744069414584320)=1:=Ad
 refine⟨rfl,fun hw=>?_,fun hw=>?_⟩
 ·refine⟨_,(stepG_add_atomic rfl rfl (by k_ne) rfl H.f_addU64 (x_addU64_n L) (x_addU64_b L) (x_addU64_x L) .u64 (x_addU64_f L) rfl rfl (wgc hw).1 (wgc hw).2.1).trans (by rw [e0];rfl),qt+89,?_⟩
  walk_nrm
  clear hK hw
  refine Me ?_
  q_c we
  q_c ae
  q_leave1 H.f_uAdd
  refine Me ?_
  q_c we
  q_c mr
  q_c mr
  q_reg
  iterate 4(refine Me ?_)
  q_skip
  q_skip
  refine Me ?_
  q_c we
  q_cond vp
  q_c rp
  q_c mr
  q_reg
  iterate 4(refine Me ?_)
  q_c we
  q_c mr
  q_reg
  iterate 4(refine Me ?_)
  q_c we
  q_c mr
  q_c mr
  q_reg
  iterate 5(refine Me ?_)
  q_skip
  q_skip
  q_skip
  q_skip
  refine Me ?_
  q_c we
  q_cond vp
  q_c rp
  q_c mr
  q_c mr
  q_reg
  iterate 2(refine Me ?_)
  q_c we
  q_cond vp
  q_c rp
  q_c mr
  q_c mr
  q_reg
  iterate 3(refine Me ?_)
  q_skip
  q_skip
  iterate 2(refine Me ?_)
  q_skip
  q_skip
  q_skip
  q_skip
  refine Me ?_
  q_c we
  q_cond vp
  q_c rp
  q_c mr
  q_c mr
  q_reg
  iterate 6(refine Me ?_)
  q_c we
  q_cond true
  q_c ae
  q_enable
  q_leave0 H.f_add
  exact hT
 ·refine⟨_,(stepG_add_atomic rfl rfl (by k_ne) rfl H.f_addU64 (x_addU64_n L) (x_addU64_b L) (x_addU64_x L) .u64 (x_addU64_f L) rfl rfl (wgc hw).1 (wgc hw).2.1).trans (by rw [e1];rfl),200,?_⟩
  have hF:Dq C.ty C.Wg (w₁.setCell (Gq C.Wg) (.int .u64 1)):=⟨_,_,Jp hw 1⟩
  walk_nrm
  clear hK hw
  u_op Dg hF
  u_c we Dg hF
  u_c ae Dg hF
  u_leave1 H.f_uAdd Dg hF
  u_op Dg hF
  u_c we Dg hF
  u_c mr Dg hF
  u_c mr Dg hF
  u_reg Dg hF
  u_op Dg hF
  u_op Dg hF
  u_op Dg hF
  u_op Dg hF
  u_skip Dg hF
  u_skip Dg hF
  u_op Dg hF
  u_c we Dg hF
  u_cond vp Dg hF
  u_c rp Dg hF
  u_c mr Dg hF
  u_reg Dg hF
  u_op Dg hF
  u_op Dg hF
  u_op Dg hF
  u_op Dg hF
  u_c we Dg hF
  u_c mr Dg hF
  u_reg Dg hF
  u_op Dg hF
  u_op Dg hF
  u_op Dg hF
  u_op Dg hF
  u_c we Dg hF
  u_c mr Dg hF
  u_c mr Dg hF
  u_reg Dg hF
  u_op Dg hF
  u_op Dg hF
  u_op Dg hF
  u_op Dg hF
  u_op Dg hF
  u_skip Dg hF
  u_skip Dg hF
  u_skip Dg hF
  u_skip Dg hF
  u_op Dg hF
  u_c we Dg hF
  u_cond vp Dg hF
  u_c rp Dg hF
  u_c mr Dg hF
  u_c mr Dg hF
  u_reg Dg hF
  u_op Dg hF
  u_op Dg hF
  u_c we Dg hF
  u_cond vp Dg hF
  u_c rp Dg hF
  u_c mr Dg hF
  u_c mr Dg hF
  u_reg Dg hF
  u_op Dg hF
  u_op Dg hF
  u_op Dg hF
  u_op Dg hF
  u_op Dg hF
  u_op Dg hF
  u_op Dg hF
  u_skip Dg hF
  u_skip Dg hF
  u_skip Dg hF
  u_skip Dg hF
  u_op Dg hF
  u_c we Dg hF
  u_cond vp Dg hF
  u_c rp Dg hF
  u_c mr Dg hF
  u_c mr Dg hF
  u_reg Dg hF
  u_op Dg hF
  u_op Dg hF
  u_op Dg hF
  u_op Dg hF
  u_op Dg hF
  u_op Dg hF
  u_c we Dg hF
  u_cond vp Dg hF
  u_c rp Dg hF
  u_c mr Dg hF
  u_c mr Dg hF
  u_reg Dg hF
  u_op Dg hF
  u_op Dg hF
  u_op Dg hF
  u_call H.f_uLoad (nm_uLoad L) uLoadFn Dg hF
  u_c mr Dg hF
  u_reg Dg hF
  u_op Dg hF
  u_c we Dg hF
  u_c mr Dg hF
  u_reg Dg hF
  u_op Dg hF
  u_op Dg hF
  u_op Dg hF
  refine gx (fun w₂ h₂=>?_)
  replace hF:=h₂.wg hF
  clear h₂
  refine⟨rfl,fun hw=>?_⟩
  refine⟨_,stepG_load_atomic rfl rfl (by k_ne) rfl H.f_loadU64 (x_loadU64_n L) (x_loadU64_b L) (x_loadU64_x L) .u64 (x_loadU64_f L) rfl (wgc hw).1,100,?_⟩
  clear hw
  walk_nrm
  u_op Dg hF
  u_c we Dg hF
  u_c ae Dg hF
  u_leave1 H.f_uLoad Dg hF
  u_op Dg hF
  u_op Dg hF
  u_c we Dg hF
  u_cond vp Dg hF
  u_c rp Dg hF
  u_c mr Dg hF
  u_reg Dg hF
  u_op Dg hF
  u_op Dg hF
  u_op Dg hF
  u_call H.f_uStore (nm_uStore L) uStoreFn Dg hF
  u_reg Dg hF
  u_op Dg hF
  u_op Dg hF
  u_op Dg hF
  u_op Dg hF
  refine gx (fun w₂ h₂=>?_)
  replace hF:=h₂.wg hF
  clear h₂
  refine⟨rfl,fun⟨st,hw⟩=>?_⟩
  refine⟨_,stepG_store_atomic rfl rfl (by k_ne) rfl H.f_storeU64 (x_storeU64_n L) (x_storeU64_b L) (x_storeU64_x L) (x_storeU64_f L) rfl rfl (wgc hw).1 (wgc hw).2.1,100,?_⟩
  replace hF:Dq C.ty C.Wg (w₂.setCell (Gq C.Wg) (.int .u64 0)):=⟨_,_,Jp hw 0⟩
  clear hw
  walk_nrm
  u_c we Dg hF
  u_c stepG_end Dg hF
  u_leave0 H.f_uStore Dg hF
  u_c we Dg hF
  u_c mr Dg hF
  u_c mr Dg hF
  u_reg Dg hF
  u_op Dg hF
  u_c we Dg hF
  u_cond vp Dg hF
  u_c rp Dg hF
  u_c stepG_block Dg hF
  u_c stepG_loop Dg hF
  u_c mr Dg hF
  u_c mr Dg hF
  u_reg Dg hF
  u_op Dg hF
  u_op Dg hF
  u_c we Dg hF
  u_cond true Dg hF
  u_c rp Dg hF
  u_c mr Dg hF
  u_c stepG_block Dg hF
  u_reg Dg hF
  u_op Dg hF
  u_op Dg hF
  u_op Dg hF
  refine gx (fun w₂ h₂=>?_)
  clear h₂ hF
  refine⟨rfl,fun⟨st,hw⟩=>?_⟩
  refine⟨_,(stepG_semrelease rfl rfl (by k_ne) rfl H.f_semrelease (x_semrelease_n L) (x_semrelease_b L) (x_semrelease_x L) (x_semrelease_f L) (by simp [Act.eval,Yi]) (wgc hw).2.2.1 (wgc hw).2.2.2).trans Ac,mayWake_entry rfl rfl H.f_semrelease (x_semrelease_b L),qt+19,?_⟩
  clear hw
  walk_nrm
  q_c we
  q_c stepG_inBlock
  q_reg
  iterate 3(refine Me ?_)
  q_c we
  q_c stepG_inLoop
  q_c mr
  q_c mr
  q_reg
  iterate 2(refine Me ?_)
  q_c we
  q_cond vp
  q_exit
  q_c stepG_end
  q_enable
  q_leave0 H.f_add
  exact hT
noncomputable def Yz(L:WgLink):Code:=(doneFn L).body.getD .skip
theorem VP(O:C.Ok){sent:List (C.β×Value)}(H:WgLib C.P L)(hty:C.ty=L.tWg){c:Frame}{cs:List Frame}{qt:Nat}(hcm:c.mode=.returning)(hT:QuitsD C.P qt 0 (G c cs))(w:World)(hK:Dq C.ty C.Wg w/\C.FB sent w) :
  Goes C.P vp (RB C) D0 (RN C sent) 103 (G ((baseD L.done).at ⟨#[.pointer (some ⟨C.Wg,0,none⟩),undef,undef,undef],[]⟩ [.code (Yz L)]) (c :: cs)) w:=by
 lib_facts
 have hA:=@addNeg C L O sent H hty
 simp only [Yz,Mg,doneFn,addFn,aN,bT,bZ,cG,cB,aP,bK] at hA ⊢
 u_reg (Bw O) hK
 u_op (Bw O) hK
 u_in (Bw O) hK
 refine goes_call rfl rfl (by k_ne) rfl H.f_add (nm_add L) rfl ⟨by u_nil,?_⟩
 walk_nrmf addFn
 refine hA (qt:=qt+3) ?_ _ hK
 q_c we
 q_c stepG_end
 exact QuitsD.leaveD rfl rfl H.f_done rfl hcm hT
end Go.Pair
