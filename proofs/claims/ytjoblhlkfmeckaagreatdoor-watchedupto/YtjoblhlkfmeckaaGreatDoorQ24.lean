import Derived.Test.YtjoblhlkfmeckaaGreatDoorQ23
import Derived.Test.YtjoblhlkfmeckaaGreatDoorQ08
import Derived.Test.YtjoblhlkfmeckaaGreatDoorQ05
set_option maxHeartbeats 1000000
set_option maxRecDepth 100000
set_option linter.unusedVariables false
set_option linter.unusedSimpArgs false
open Option renaming some → lp,none → od
open Go renaming undef → yj,World → qq,Value → tj,stored → ve,Frame → qg,Addr → zu,Goroutine → gq
open Go.Proofs.Tryz renaming prog → ly,f34 → qh
open Bool renaming false → vp,true → s7
open Array renaming replicate → yl
open Go.Conc renaming listed_nil → vj,atRel_trans → c8,AtRel → cu
open Go.Act renaming eval → cj
open Go.Deferred renaming ofValue → zr
open List renaming range → qw
open Go.Value renaming pointer → om,slice → cf,bool → gf,tuple → fh
open Go.Obj renaming cells → ye
open Or renaming inl → af,inr → o5
open Go.Proofs.Tryz
theorem Eps{p q:Prop}(k:q)(h:Hd q->p:=by
 intro kz
 refine Uiu ?_
 refine Iya ?_
 refine Av T rfl (fun w=>stepG_cond (t:=false) rfl) ?_
 refine Av T rfl (fun w=>stepG_exit (k':=[.code Gm]) rfl) ?_
 exact kz.1):p:=h ⟨k⟩
theorem Ehz{p:Prop}(h:p:=by
 unfold He
 simp only [Ot,Uj,Ic,Et,Code.opsOf,Code.one,Code.two,Code.core,Tryz.f34,aN,LG,h17]
 rw [stepG_comm rfl Ac Ad (cases:=#[rcase Ch (.slice none 0 0)]) (blocking:=true) (shape:=.recv true) (w':=w) (by simp [go_sem,execOp,rcase,Act.eval,Tryz.runUnderlying105,Tryz.zeroValue35])]
 rw [listed_nil (by simp [go_sem,execOp,Act.eval,Tryz.runUnderlying105,Tryz.zeroValue35])]
 rfl):p:=h
theorem Vta{p q:Prop}(k:q)(h:Hd q->p:=by
 intro kz
 refine Av T rfl (fun _=>(stepG_cond (t:=false) rfl)) ?_
 exact kz.1):p:=h ⟨k⟩
theorem Hom{p q:Prop}(k:q)(h:Hd q->p:=by
 intro kz
 refine Av T rfl (fun _=>stepG_region_end) ?_
 exact kz.1):p:=h ⟨k⟩
theorem I9g{p q:Prop}(k:q)(h:Hd q->p:=by
 intro kz
 refine Av T rfl (fun _=>stepG_seq) ?_
 exact kz.1):p:=h ⟨k⟩
theorem An{p q:Prop}(k:q)(h:Hd q->p:=by
 intro kz
 refine Av T rfl (fun _=>stepG_region) ?_;simp only [aU,aK,aI,Nat.reduceAdd,aM,List.range,List.range.loop]
 exact kz.1):p:=h ⟨k⟩
theorem Oso{p q:Prop}(k:q)(h:Hd q->p:=by
 intro kz
 refine EA.goes (n:=30) ?_
 simp only [bT,bZ,cG,cB,aP,bK]
 simp only [Et,Tryz.f34,aN]
 exact kz.1):p:=h ⟨k⟩
theorem Jc0{p q:Prop}(k:q)(h:Hd q->p:=by
 intro kz
 refine I9g ?_
 refine An ?_
 exact kz.1):p:=h ⟨k⟩
theorem Ddq{p q:Prop}(k:q)(h:Hd q->p:=by
 intro kz
 refine Hom ?_
 refine Vta ?_
 simp only [aV,bQ]
 refine Av T rfl (fun _=>stepG_skip) ?_
 exact kz.1):p:=h ⟨k⟩
theorem Up3{p:Prop}(h:p:=by
 have:=hP.set (j:=4) (i:=0) rfl (.int .u64 KK)
 exact(Bo _ (this.rely r)).from (by obtain⟨e,rfl⟩:=r;exact⟨rfl,rfl⟩)):p:=h
theorem Ox3{p:Prop}(h:p:=by
 refine An ?_
 have hF:=hP
 refine Bj rfl Ac Ad fun _ hRz Kz hKz=>?_
 replace hF:=PV.rely hF hRz
 clear hRz
 go_simp
 try(unfold stored;go_simp)
 refine hKz _ _ ⟨?_,?_⟩
 ·co_quiet T
 clear hKz Kz
 try walk_nrm
 exact EA.stop (Bo _ hF)):p:=h
theorem Egx{p:Prop}(h:p:=by
 go_simp
 try(unfold stored;go_simp)
 refine hKz _ _ ⟨?_,?_⟩
 ·(refine If ?_;co_evs (exact evL_cell (hS.not hr (by simp [kindOf])) (by have:=hF.size;have:=Ax hr;show _<_;simp;omega)))
 clear hKz Kz
 try walk_nrm
 clear hc
 refine Ddq ?_
 refine Jc0 ?_
 refine Bj rfl Ac Ad fun _ hRz Kz hKz=>?_
 replace hF:=PV.rely hF hRz
 clear hRz
 (have hmc:=VT;have hme:=OK)
 go_simp
 try(unfold stored;go_simp)
 refine hKz _ _ ⟨?_,?_⟩
 ·(rw [listed_nil (by simp [go_sem,hme])];exact Gg _ _)
 clear hKz Kz
 try walk_nrm
 clear hmc hme
 simp only [hF.size,aI,aK,aM,Nat.reduceAdd]
 replace hF:=hF.push (.chan 0 #[] false 0 0 false)
 simp only [aP,bK] at hF
 refine Bj rfl Ac Ad fun _ hRz Kz hKz=>?_
 replace hF:=PV.rely hF hRz
 clear hRz
 (skip)
 go_simp
 try(unfold stored;go_simp)
 refine hKz _ _ ⟨?_,?_⟩
 ·(rw [listed_nil (by simp [go_sem])];exact Gg _ _)
 clear hKz Kz
 try walk_nrm
 simp only [hF.size,aI,aK,aM,Nat.reduceAdd]
 replace hF:=hF.push (.cells #[.chan none] 105)
 simp only [aP,bK] at hF
 refine Bj rfl Ac Ad fun _ hRz Kz hKz=>?_
 replace hF:=PV.rely hF hRz
 clear hRz
 (have hc:=hF.cell (j:=3) (i:=0) rfl rfl;have hfz:=hF.fz (j:=3) (i:=0) rfl)
 go_simp
 try(unfold stored;go_simp)
 refine hKz _ _ ⟨?_,?_⟩
 ·(refine MZ ?_;co_evs (exact evL_cell (hS.new Ab) (by have:=hF.size;simp at this;show _<_;simp;omega)))
 clear hKz Kz
 try walk_nrm
 clear hc hfz
 replace hF:=hF.set (j:=3) (i:=0) rfl (.chan (some (w0.heap.size+2)))
 refine Hom ?_
 refine Jc0 ?_
 refine Bj rfl Ac Ad fun _ hRz Kz hKz=>?_
 replace hF:=PV.rely hF hRz
 clear hRz
 (skip)
 go_simp
 try(unfold stored;go_simp)
 refine hKz _ _ ⟨?_,?_⟩
 ·(rw [listed_nil (by simp [go_sem])];exact Gg _ _)
 clear hKz Kz
 try walk_nrm
 simp only [hF.size,aI,aK,List.length_set,aM,Nat.reduceAdd]
 replace hF:=hF.push (KY 115 0 0)
 refine Hom ?_
 refine I9g ?_
 refine Grn ?_
 exact EA.stop (Bo _ hF)):p:=h
theorem Wem{p q:Prop}(k:q)(h:Hd q->p:=by
 intro kz
 refine Av T rfl (fun _=>stepG_block) ?_
 refine Av T rfl (fun _=>stepG_loop) ?_
 exact kz.1):p:=h ⟨k⟩
theorem Fmv{p q:Prop}(k:q)(h:Hd q->p:=by
 intro kz
 refine Av T rfl (fun w=>stepG_leave (v:=.bool true) rfl rfl Tryz.func34 (results_tmp (t:=6) Ac _ _ _) (events_results_tmp (t:=6) Ac _ _)) ?_
 exact kz.1):p:=h ⟨k⟩
theorem Fpl{p q:Prop}(k:q)(h:Hd q->p:=by
 intro kz
 refine I9g ?_
 simp only [Code.opsOf,Gm,Ic,Et,Code.core,Code.one,Code.two,Tryz.f34,aN,LG,h3]
 refine An ?_
 exact kz.1):p:=h ⟨k⟩
theorem Xit{p:Prop}(h:p:=by
 clear hRz
 go_simp
 try(unfold stored;go_simp)
 refine hKz _ _ ⟨?_,?_⟩
 ·co_quiet T
 clear hKz Kz
 try walk_nrm
 refine Hom ?_
 refine Av T rfl (fun _=>stepG_ret') ?_
 refine Fmv ?_
 refine EA.stop ?_
 obtain⟨d,rfl⟩:=hG.r
 exact Bo d):p:=h
theorem Nph{p:Prop}(h:p:=by
 rcases hr with⟨a',e',h⟩|h|h|⟨a',e',h⟩
 ·cases e'
 ·cases h
  exact .inl ⟨Ab,Ab⟩
 ·obtain⟨a',e',_⟩:=hS _ h
  cases e'
 ·cases e'):p:=h
theorem K3g{p:Prop}(h:p:=by
 rcases ha with⟨a',e',h⟩|h|h|⟨a',e',h⟩
 ·cases e'
  have h':a.block=w0.heap.size+4:=h
  exact .inl ⟨Ab,Ab⟩
 ·cases h
 ·exact .inr ⟨a,h,rfl⟩
 ·cases e'
  have h':a.block=w0.heap.size∨a.block=w0.heap.size+1∨a.block=w0.heap.size+3:=h
  exact .inl ⟨Ab,Ab⟩):p:=h
namespace Go.Proofs.YtjoblhlkfmeckaaGreatDoor
open Go Go.Conc Go.Pair Go.RowKit
noncomputable def Gm:Code:=Code.two Ic
noncomputable def Qe:Array Oper:=Code.opsOf (Code.one Gm)
def Mf(p3:tj)(z:List qg)(g:gq)(w:qq):Prop:=
 ∃y n,y 3=p3/\Goes ly s7 cu Go.Pair.D0 (fun g _=>g=G ((base 34).at (LG y) (.inRegion Qe [] :: [.code (Code.two Gm)])) z) n g w
theorem FV(p3:tj)(z:List qg)(g:gq)(w:qq)(d:Nat):Mf p3 z g (w.at d)↔Mf p3 z g w:=by
 constructor
 ·rintro⟨y,n,h,hg⟩
  exact⟨y,n,h,Goes.rely (R:=cu) c8 hg ⟨w.drawn,rfl⟩⟩
 ·rintro⟨y,n,h,hg⟩
  exact⟨y,n,h,Goes.rely (R:=cu) c8 hg ⟨d,rfl⟩⟩
section
variable {far:Nat->Obj->Prop} {Shun:Loc->Prop} {k Wg Ch sb Bx:Nat} {Ro:zu->Prop} {Facts FB:qq->Prop} {p3:tj} {z:List qg} {w:qq}
theorem EN(C:Pu)(sent:List (C.β×tj)):Terms (RA C sent) (DA C):=⟨fun _ _ _ h k=>h.trans k,fun w=>⟨.refl _ _,.refl _,rfl,rfl,Ae⟩⟩
theorem Acz(O:(M5 far Shun k Wg Ch sb Bx Ro Facts FB (Mf p3 z)).Ok)(y:Nat->tj)(h3:y 3=p3)(h8:y 8=om (lp ⟨Wg,0,od⟩))(h17:y 17=.chan (lp Ch))(hw:Dq 115 Wg w) :
  WN (M5 far Shun k Wg Ch sb Bx Ro Facts FB (Mf p3 z)).cE S1 (He (base 34) [.code Gm] z y) w:=by
 have T:=EN (M5 far Shun k Wg Ch sb Bx Ro Facts FB (Mf p3 z)).cE S1
 refine⟨rfl,cf od 0 0,?_,fun w₂ hR=>?_⟩
 ·show stepG ly s7 (He (base 34) [.code Gm] z y) w=_
  exact Ehz
 ·have hw2:=hR.wg hw
  clear hR
  refine⟨100+8,?_⟩
  unfold He
  rw [Oi (o:=Ot[0]' Ad) rfl]
  show Goes ly s7 (RA (M5 far Shun k Wg Ch sb Bx Ro Facts FB (Mf p3 z)).cE S1) (DA (M5 far Shun k Wg Ch sb Bx Ro Facts FB (Mf p3 z)).cE) _ _ _ _
  simp only [Ot,Rv,Uj,Ic,Et,Code.opsOf,Code.one,Code.two,Code.core,qh,aN,LG]
  refine Bj rfl Ac Ad fun w₁ hR K' hK=>?_
  replace hw2:=hR.wg hw2
  clear hR
  try walk_nrm
  go_simp
  refine hK _ _ ⟨by co_quiet T,?_⟩
  clear hK K'
  try walk_nrm
  refine Eps ?_
  rw [show Gm=.seq (.region 11 Qe vp) (Code.two Gm) from rfl]
  refine Iya ?_
  refine Grn ?_
  rw [show qw Qe.size = [0] from rfl]
  refine Goes.step rfl fun w₂ hR=>goes_call (f:=50) (fn:=Lib.waitFn Tryz.link) (c:=Pw Tryz.link) rfl Ac Ad rfl Tryz.wgLib.f_wait Ac Ac ⟨T.idle _,?_⟩
  replace hw2:=hR.wg hw2
  clear hR
  rw [show Array.map (cj ({ tmps:=#[y 0,y 1,y 2,p3,y 4,y 5,y 6,y 7,om (lp ⟨Wg,0,od⟩),y 9,y 10,y 11,y 12,y 13,y 14,y 15,y 16,.chan (lp Ch),fh #[cf od 0 0,gf vp],gf vp,y 20,y 21,y 22,y 23,y 24,y 25,y 26,y 27,y 28,y 29],defers:=[] }:Act)) #[Operand.tmp 8]=#[om (lp ⟨Wg,0,od⟩)] by simp [cj]]
  refine J9 (fun _ _ _ h=>D0.da _ h) ?_
  refine WM (C:=(M5 far Shun k Wg Ch sb Bx Ro Facts FB (Mf p3 z)).cE) (sent:=S1) O.cfg Tryz.wgLib rfl (b₀:=base 34) (a₀:={ tmps:=#[y 0,y 1,y 2,p3,y 4,y 5,y 6,y 7,om (lp ⟨Wg,0,od⟩),y 9,y 10,y 11,y 12,y 13,y 14,y 15,y 16,.chan (lp Ch),fh #[cf od 0 0,gf vp],gf vp,y 20,y 21,y 22,y 23,y 24,y 25,y 26,y 27,y 28,y 29],defers:=[] }) (ops₀:=Qe) (i₀:=0) (rest₀:=[]) (k₀:=[.code (Code.two Gm)]) (cs:=z) _ hw2 (fun g' w₃ hk D1 hgo=>?_)
  obtain⟨nn,hgo⟩:=hgo
  exact⟨fun i=>([y 0,y 1,y 2,p3,y 4,y 5,y 6,y 7,om (lp ⟨Wg,0,od⟩),y 9,y 10,y 11,y 12,y 13,y 14,y 15,y 16,.chan (lp Ch),fh #[cf od 0 0,gf vp],gf vp,y 20,y 21,y 22,y 23,fh #[],y 25,y 26,y 27,y 28,y 29]:List tj).getD i yj,nn,rfl,hgo⟩
end
section
variable {far:Nat->Obj->Prop} {Shun:Loc->Prop} {k Wg Ch sb Bx:Nat} {Ro:zu->Prop} {Facts FB:qq->Prop} {PostA:gq->qq->Prop} {p3:tj} {z:List qg} {v w:qq} {M:BJ}
theorem XC(y:Nat->tj)(h17:y 17=.chan (lp Ch))(kk:List Item)(w:qq):stepG ly s7 (He (base 34) kk z y) w=.comm (core (He (base 34) kk z y)) #[rcase Ch (cf od 0 0)] s7 (.recv s7) w #[]:=by
 exact Ehz
theorem Aat(OI:∀i,(M5 far Shun k Wg Ch sb Bx Ro (M.F i) (M.B i) (Mf p3 z)).Ok)(y:Nat->tj)(ob vb:Nat)(h2:y 2=I8 ob vb)(h3:y 3=p3)(h8:y 8=om (lp ⟨Wg,0,od⟩))(h17:y 17=.chan (lp Ch))(hat:∀i v d,M.F i v->M.F i (World.at v d))(HC:∀i x u w' d,M.Mid i x u->NF u->Ct (M5 far Shun k Wg Ch sb Bx Ro Facts FB (Mf p3 z)).J1 w' (World.at u d)->NF w'->NJ (M5 far Shun k Wg Ch sb Bx Ro (M.F i) (M.B i) (Mf p3 z)).J2 w'/\Bz ly s7 (M5 far Shun k Wg Ch sb Bx Ro (M.F i) (M.B i) (Mf p3 z)).J2 (StopA (M5 far Shun k Wg Ch sb Bx Ro (M.F i) (M.B i) (Mf p3 z))) 35 #[x,om (lp ⟨ob,0,od⟩),om (lp ⟨vb,0,od⟩)] w' fun r u'=>r=fh #[]/\M.F i u') :
  BE (M5 far Shun k Wg Ch sb Bx Ro Facts FB (Mf p3 z)) M (He (base 34) [.code Gm] z y):=by
 refine⟨rfl,⟨_,fun w=>XC y h17 _ w⟩,fun i x u w' d hM hn hs hn'=>?_⟩
 obtain⟨hnj,hc⟩:=HC i x u w' d hM hn hs hn'
 refine Abw (J:=(M5 far Shun k Wg Ch sb Bx Ro (M.F i) (M.B i) (Mf p3 z)).J2) (Stop:=StopA (M5 far Shun k Wg Ch sb Bx Ro (M.F i) (M.B i) (Mf p3 z))) y ob vb x h2 rfl hc (fun y' u' hF hy d=>⟨hat _ _ _ hF,fun w hw=>?_⟩) hnj
 exact Acz (OI i) y' ((hy 3 Ab).trans h3) ((hy 8 Ab).trans h8) ((hy 17 Ab).trans h17) hw
theorem XD(T:Array tj)(bv mm x:tj)(xs:Nat->tj)(h41:xs 41=.chan (lp Ch))(h43:xs 43=x)(w:qq):stepG ly vp (Na (base 49) [] [Zm T Wg Ch,bot] sb bv (.chan (lp Ch)) mm xs) w=.comm (core (Na (base 49) [] [Zm T Wg Ch,bot] sb bv (.chan (lp Ch)) mm xs)) #[scase Ch x (fh #[])] s7 .send w #[]:=by
 unfold Na
 simp only [IZ,SO,Y9,GZ,G5,Hk,Fv,Code.core,Code.one,Code.two,Code.yes,Code.opsOf,f49,C9,h41,h43]
 rw [stepG_comm rfl Ac Ad (cases:=#[scase Ch x (fh #[])]) (blocking:=s7) (shape:=.send) (w':=w) (by simp [execOp,scase,cj])]
 rw [vj (by simp [go_sem,execOp,cj])]
 rfl
theorem Aau(i:M.ι)(O:(M5 far Shun k Wg Ch sb Bx Ro (M.F i) (M.B i) PostA).Ok)(hx:Ro ⟨Bx,0,od⟩)(hbn:Bx≠sb)(Cu:Wg≠sb)(g n c:Nat)(hn:n<=c)(hB:∀w,TV Wg sb Bx (cf (lp ⟨g,0,od⟩) 0 c) w->M.B i w)(T:Array tj)(aa:Option zu)(bc:Nat)(mm x:tj)(xs:Nat->tj)(h41:xs 41=.chan (lp Ch))(h43:xs 43=x)(hM:M.Mid i x v)(hNF:NF v)(Ee:v.cell? ⟨sb,1,od⟩=lp (cf (lp ⟨g,0,od⟩) n c))(hfz:v.frozen? ⟨sb,1,od⟩=vp)(Cg:sb<v.heap.size)(hj:¬(M5 far Shun k Wg Ch sb Bx Ro Facts FB PostA).J1 (.cell ⟨sb,1,od⟩)) :
  Ww (M5 far Shun k Wg Ch sb Bx Ro Facts FB PostA) M x (fh #[]) (Na (base 49) [] [Zm T Wg Ch,bot] sb (cf aa 0 bc) (.chan (lp Ch)) mm xs) v:=by
 refine⟨rfl,fun w=>XD T _ mm x xs h41 h43 w,i,hM,hNF,fun w' d hs Hh hbx=>?_⟩
 exact SB O hx Cu g n c hn hB T aa bc (.chan (lp Ch)) mm xs ⟨(hs.like sb).cell (a:=⟨sb,1,od⟩) Ee hj,(hs.like sb).frozen.symm.trans hfz,by rw [←hs.size];exact Cg,Hh,hbx.1,hbx.2,hbn⟩
end
def Gb(w:qq)(b:Nat)(t:TypeId):Prop:=∃o,w.heap[b]? = lp o/\kindOf o=lp t
def Bf(Shun:Loc->Prop)(w:qq):Prop:=∀l,Shun l->∃a:zu,l=.cell a/\Gb w a.block 115
theorem Bf.not{Shun:Loc->Prop}{w:qq}(h:Bf Shun w){i j:Nat}{o:Obj}(ho:w.heap[i]? = lp o)(hk:kindOf o≠lp 115):¬Shun (.cell ⟨i,j,od⟩):=fun hs=>by
 obtain⟨a,e,o',h1,h2⟩:=h _ hs
 cases e
 rw [ho] at h1
 cases h1
 exact hk h2
theorem Bf.new{Shun:Loc->Prop}{w:qq}(h:Bf Shun w){i j:Nat}(hi:w.heap.size<=i):¬Shun (.cell ⟨i,j,od⟩):=fun hs=>by
 obtain⟨a,e,o',h1,h2⟩:=h _ hs
 cases e
 have:=Ax h1
 simp at this
 omega
section
variable {Post:tj->qq->Prop} {Shun:Loc->Prop} {w w0 w₁:qq} {fr:qg} {cs:List qg} {sb ob vb bl cap:Nat} {ba:Option zu}
theorem WJ:∃d,prog.underlying 105=lp (.chan d 35):=⟨_,underlying105⟩
theorem OB:∃i,prog.info? 35=lp i:=Option.isSome_iff_exists.1 (by kernel_rfl:(prog.info? 35).isSome=s7)
theorem VT(w:qq):(Instr.makeChan 105 (.int .i64 0)).run ly w=.ok (.chan (lp w.heap.size)) (w.alloc (.chan 0 #[] vp 0 0 vp)):=by
 obtain⟨d,hd⟩:=WJ
 obtain⟨i0,hi⟩:=OB
 exact run_makeChan hd hi .i64 0 Ab Ab
theorem OK(w:qq)(es:Array Event):(Instr.makeChan 105 (.int .i64 0)).events ly w es=es:=by
 obtain⟨d,hd⟩:=WJ
 obtain⟨i0,hi⟩:=OB
 exact events_makeChan hd hi .i64 0 Ab Ab es
noncomputable def RM(sb N ob vb:Nat)(ba:Option zu)(bl cap:Nat)(x15:tj):Act:=
 {tmps:=#[om (lp ⟨sb,1,od⟩),cf ba bl cap,I8 ob vb,om (lp ⟨N,0,od⟩),om (lp ⟨N+1,0,od⟩),yj,gf vp,om (lp ⟨N+3,0,od⟩),om (lp ⟨N+4,0,od⟩),yj,om (lp ⟨sb,1,od⟩),om (lp ⟨sb,1,od⟩),om (lp ⟨sb,2,od⟩),gf vp,.chan (lp (N+2)),x15,yj,yj,yj,yj,yj,yj,yj,yj,yj,yj,yj,yj,yj,yj],defers:=[] }
noncomputable def r5:Code:=Code.one (Code.two (Code.two (Code.two (Code.two Et))))
noncomputable def M6:Code:=Code.two (Code.two (Code.two (Code.two (Code.two Et))))
noncomputable def Sb:Array Oper:=Code.opsOf r5
def F9(sb N:Nat)(bsl:tj)(st:Int):List Obj:=[ye #[om (lp ⟨sb,1,od⟩)] 104,ye #[bsl] 35,.chan 0 #[] vp 0 0 vp,ye #[.chan (lp (N+2))] 105,KY 115 st 0]
theorem IF(hS:Bf Shun w){cc:Array tj}(hr:w.heap[sb]? = lp (ye cc 75))(h2:cc[2]? = lp (gf vp))(Bo:∀w',PV w (F9 sb w.heap.size (cf ba bl cap) 0) w'->EA ly Post Shun (G ((base 34).at (RM sb w.heap.size ob vb ba bl cap yj) [.inRegion Sb [0],.code M6]) (fr :: cs)) w') :
  EA ly Post Shun (G ((base 34).at { tmps:=#[om (lp ⟨sb,1,od⟩),cf ba bl cap,I8 ob vb]++yl 27 yj,defers:=[] } [.code Et]) (fr :: cs)) w:=by
 have T:=Ln Shun
 have hF:=PV.start w
 generalize hw0:w=w0 at hS hr Bo
 rw [hw0] at hF
 refine Oso ?_
 refine Jc0 ?_
 refine Bj rfl Ac Ad fun _ hRz Kz hKz=>?_
 replace hF:=PV.rely hF hRz
 clear hRz
 (skip)
 go_simp
 try(unfold ve;go_simp)
 refine hKz _ _ ⟨?_,?_⟩
 ·(rw [vj (by simp [go_sem])];exact Gg _ _)
 clear hKz Kz
 try walk_nrm
 simp only [hF.size,aI,Nat.add_zero]
 replace hF:=hF.push (ye #[om (lp ⟨sb,1,od⟩)] 104)
 refine Bj rfl Ac Ad fun _ hRz Kz hKz=>?_
 replace hF:=PV.rely hF hRz
 clear hRz
 (skip)
 go_simp
 try(unfold ve;go_simp)
 refine hKz _ _ ⟨?_,?_⟩
 ·(rw [vj (by simp [go_sem])];exact Gg _ _)
 clear hKz Kz
 try walk_nrm
 simp only [hF.size,aI,aP,aK,aM]
 replace hF:=hF.push (ye #[cf ba bl cap] 35)
 simp only [aP,bK] at hF
 refine Bj rfl Ac Ad fun _ hRz Kz hKz=>?_
 replace hF:=PV.rely hF hRz
 clear hRz
 go_simp
 try(unfold ve;go_simp)
 refine hKz _ _ ⟨?_,?_⟩
 ·co_quiet T
 clear hKz Kz
 try walk_nrm
 refine Hom ?_
 iterate 2(refine I9g ?_)
 refine An ?_
 have e0:w0.heap.size+0=w0.heap.size:=rfl
 refine Bj rfl Ac Ad fun _ hRz Kz hKz=>?_
 replace hF:=PV.rely hF hRz
 clear hRz
 (have hc:=hF.cell (j:=0) (i:=0) rfl rfl;rw [e0] at hc)
 go_simp
 try(unfold ve;go_simp)
 refine hKz _ _ ⟨?_,?_⟩
 ·(refine If ?_;co_evs (exact evL_cell (hS.new (aA _)) (by have:=hF.size;simp at this;show _<_;simp;omega)))
 clear hKz Kz
 try walk_nrm
 clear hc
 refine Bj rfl Ac Ad fun _ hRz Kz hKz=>?_
 replace hF:=PV.rely hF hRz
 clear hRz
 go_simp
 try(unfold ve;go_simp)
 refine hKz _ _ ⟨?_,?_⟩
 ·co_quiet T
 clear hKz Kz
 try walk_nrm
 refine Bj rfl Ac Ad fun _ hRz Kz hKz=>?_
 replace hF:=PV.rely hF hRz
 clear hRz
 go_simp
 try(unfold ve;go_simp)
 refine hKz _ _ ⟨?_,?_⟩
 ·co_quiet T
 clear hKz Kz
 try walk_nrm
 refine Bj rfl Ac Ad fun _ hRz Kz hKz=>?_
 replace hF:=PV.rely hF hRz
 clear hRz
 (have hc:=hF.cellOld (j:=2) hr h2)
 exact Egx
theorem NB(hF:PV w0 (F9 sb w0.heap.size (cf ba bl cap) 0) w)(Bo:∀w',PV w0 (F9 sb w0.heap.size (cf ba bl cap) KK) w'->EA ly Post Shun (G ((base 34).at (RM sb w0.heap.size ob vb ba bl cap (fh #[])) [.inRegion Sb [],.code M6]) (fr :: cs)) w') :
  EA ly Post Shun (G ((base 34).at (RM sb w0.heap.size ob vb ba bl cap yj) [.inRegion Sb [0],.code M6]) (fr :: cs)) w:=by
 intro d
 have hP:PV w0 (F9 sb w0.heap.size (cf ba bl cap) 0) (w.at d):=hF.rely ⟨d,rfl⟩
 have Hh:D3 115 (w0.heap.size+4) (w.at d) 0 0:=hP.new 4 _ rfl
 refine Zc (Wg:=w0.heap.size+4) (Ret:=G ((base 34).at (RM sb w0.heap.size ob vb ba bl cap (fh #[])) [.inRegion Sb [],.code M6]) (fr :: cs)) (Ax Hh) (fun w' r=>?_) (n:=100+1) ?_
 ·exact Up3
 ·refine Goes.step rfl fun w₁ r=>goes_call (f:=46) (fn:=Lib.addFn Tryz.link) (c:=Mg Tryz.link) rfl Ac Ad rfl Tryz.wgLib.f_add Ac Ac ⟨GD.idle _,?_⟩
  have e:Array.map (RM sb w0.heap.size ob vb ba bl cap yj).eval #[Operand.tmp 8,Operand.const (Value.int IntKind.i64 1)]=#[om (lp ⟨w0.heap.size+4,0,od⟩),.int .i64 1]:=by simp [cj,RM]
  rw [e]
  exact LP Tryz.wgLib (Wg:=w0.heap.size+4) (b₀:=base 34) (a₀:=RM sb w0.heap.size ob vb ba bl cap yj) (ops₀:=Sb) (i₀:=0) (rest₀:=[]) (k₀:=[.code M6]) (cs:=fr :: cs) w₁ (A2 Hh r)
noncomputable def r6:Code:=Code.one M6
theorem FA:M6=.seq (.region 6 (Code.opsOf r6) vp) Ic:=rfl
noncomputable def VJ(sb N ob vb:Nat)(ba:Option zu)(bl cap:Nat):Act:=
 {tmps:=#[om (lp ⟨sb,1,od⟩),cf ba bl cap,I8 ob vb,om (lp ⟨N,0,od⟩),om (lp ⟨N+1,0,od⟩),yj,gf vp,om (lp ⟨N+3,0,od⟩),om (lp ⟨N+4,0,od⟩),yj,om (lp ⟨sb,1,od⟩),om (lp ⟨sb,1,od⟩),om (lp ⟨sb,2,od⟩),gf vp,.chan (lp (N+2)),fh #[],.func (.func 47) #[] #[om (lp ⟨N+4,0,od⟩),om (lp ⟨N+3,0,od⟩),om (lp ⟨N,0,od⟩),om (lp ⟨N+1,0,od⟩)],yj,yj,yj,yj,yj,yj,yj,yj,yj,yj,yj,yj,yj],defers:=[] }
theorem SU(hP:PV w0 (F9 sb w0.heap.size (cf ba bl cap) KK) w)(Bo:∀w',PV w0 (F9 sb w0.heap.size (cf ba bl cap) KK) w'->EA ly Post Shun (G ((base 34).at (VJ sb w0.heap.size ob vb ba bl cap) [.inRegion (Code.opsOf r6) [1],.code Ic]) (fr :: cs)) w') :
  EA ly Post Shun (G ((base 34).at (RM sb w0.heap.size ob vb ba bl cap (fh #[])) [.inRegion Sb [],.code M6]) (fr :: cs)) w:=by
 have T:=Ln Shun
 refine EA.goes (n:=4) ?_
 refine Hom ?_
 rw [FA]
 refine I9g ?_
 simp only [Code.opsOf,r6,M6,Et,Code.core,Code.one,Code.two,qh,aN,RM]
 exact Ox3
theorem PX{N:Nat}(w:qq):stepG ly s7 (G ((base 34).at (VJ sb N ob vb ba bl cap) [.inRegion (Code.opsOf r6) [1],.code Ic]) (fr :: cs)) w =
  .spawn (G ((base 34).at (VJ sb N ob vb ba bl cap) [.inRegion (Code.opsOf r6) [],.code Ic]) (fr :: cs)) (born ly (call47 (N+4) (N+3) N (N+1))) w #[]:=by
 simp only [Code.opsOf,r6,M6,Et,Code.core,Code.one,Code.two,qh,aN]
 rw [stepG_spawn rfl Ac Ad (d:=call47 (N+4) (N+3) N (N+1)) (w':=w) (f:=.func 47) (c:=#[om (lp ⟨N+4,0,od⟩),om (lp ⟨N+3,0,od⟩),om (lp ⟨N,0,od⟩),om (lp ⟨N+1,0,od⟩)]) (by simp [go_sem,execOp,resolve,zr,cj,VJ,call47]) rfl]
 rw [vj (by simp [go_sem,execOp,resolve,zr,cj,VJ])]
 rfl
end
section
variable {Post:tj->qq->Prop} {far:Nat->Obj->Prop} {Shun:Loc->Prop} {w w0 w₁:qq} {z:List qg} {sb ob vb bl cap k N:Nat} {ba:Option zu} {Ro:zu->Prop} {Facts FB:qq->Prop} {PostA:gq->qq->Prop} {M:BJ} {cc:Array tj}
theorem UR(C:VC):Terms (Hg C) (VN C):=⟨fun _ _ _ h k=>h.trans k,fun w=>⟨rfl,Ae⟩⟩
structure BX(N:Nat)(w:qq):Prop where
 c:w.cell? ⟨N+3,0,od⟩=lp (.chan (lp (N+2)))
 lt:N+3<w.heap.size
theorem YC{C:VC}(hro:C.Ro ⟨N+3,0,od⟩)(hF:BX N w)(hAt:∀y,y 2=I8 ob vb->y 3=om (lp ⟨N,0,od⟩)->y 8=om (lp ⟨N+4,0,od⟩)->y 17=.chan (lp (N+2))->BE C M (He (base 34) [.code Gm] z y)) :
  Goes ly s7 (Hg C) (VN C) (fun g _=>BE C M g) 10 (G ((base 34).at (VJ sb N ob vb ba bl cap) [.inRegion (Code.opsOf r6) [],.code Ic]) z) w:=by
 have T:=UR C
 have rel:∀{w w':qq},BX N w->Hg C w w'->BX N w':=fun h r=>⟨(r.cell _ hro h.lt).trans h.c,aB h.lt r.size⟩
 refine Hom ?_
 rw [show Ic=.seq (.seq (.region 7 (Code.opsOf (Code.one (Code.one Ic))) vp) (.block 0 (.loop (.seq (.region 8 Ot vp) Rv)))) Gm from rfl]
 iterate 2(refine I9g ?_)
 refine Grn ?_
 rw [show qw (Code.opsOf (Code.one (Code.one Ic))).size = [0] from rfl]
 refine Bj (o:=(Code.opsOf (Code.one (Code.one Ic)))[0]' Ad) rfl Ac Ad fun w₁ hR K' hK=>?_
 replace hF:=rel hF hR
 clear hR
 have hc:=hF.c
 simp only [Code.opsOf,Ic,Et,Code.core,Code.one,Code.two,qh,aN,VJ] at hK ⊢
 go_simp
 refine hK _ _ ⟨⟨rfl,?_⟩,?_⟩
 ·co_evs (exact⟨_,rfl,hro,hF.lt⟩)
 clear hK K' hc
 try walk_nrm
 refine Hom ?_
 refine Wem ?_
 refine I9g ?_
 refine Grn ?_
 rw [show qw Ot.size = [0,1] from rfl]
 intro w₂ hR
 exact hAt (fun i=>([om (lp ⟨sb,1,od⟩),cf ba bl cap,I8 ob vb,om (lp ⟨N,0,od⟩),om (lp ⟨N+1,0,od⟩),yj,gf vp,om (lp ⟨N+3,0,od⟩),om (lp ⟨N+4,0,od⟩),yj,om (lp ⟨sb,1,od⟩),om (lp ⟨sb,1,od⟩),om (lp ⟨sb,2,od⟩),gf vp,.chan (lp (N+2)),fh #[],.func (.func 47) #[] #[om (lp ⟨N+4,0,od⟩),om (lp ⟨N+3,0,od⟩),om (lp ⟨N,0,od⟩),om (lp ⟨N+1,0,od⟩)],.chan (lp (N+2)),yj,yj,yj,yj,yj,yj,yj,yj,yj,yj,yj,yj]:List tj).getD i yj) rfl rfl rfl rfl
def RoN(N:Nat)(a:zu):Prop:=a.block=N∨a.block=N+1∨a.block=N+3
def J0(sb N:Nat)(i:Nat×Nat)(w:qq):Prop:=(w.cell? ⟨sb,1,od⟩=lp (cf (lp ⟨i.1,0,od⟩) 0 i.2)/\sb<w.heap.size)/\w.cell? ⟨N,0,od⟩=lp (om (lp ⟨sb,1,od⟩))/\N<w.heap.size
def Yo(sb N:Nat)(F:Nat×Nat->qq->Prop)(Md:Nat×Nat->tj->qq->Prop):BJ:={ ι:=Nat×Nat,F:=F,B:=J0 sb N,Mid:=Md }
theorem Ya(hk:0<k)(hS:Bf Shun w0)(Gs:w0.heap[sb]? = lp (ye cc 75))(Fa:qq->Prop)(FB:qq->Prop)(p3:tj)(hfb:(∀w,FB w)∨∃i,FB=J0 sb w0.heap.size i) :
  (M5 far Shun k (w0.heap.size+4) (w0.heap.size+2) sb w0.heap.size (RoN w0.heap.size) Fa FB (Mf p3 z)).Ok:=by
 have Cg:=Ax Gs
 have old:∀l,Shun l->∃a:zu,l=.cell a/\a.block<w0.heap.size/\a.block≠sb:=fun l hl=>by
  obtain⟨a,e,o,h1,h2⟩:=hS l hl
  refine⟨a,e,Ax h1,fun e'=>?_⟩
  rw [e',Gs] at h1
  cases h1
  cases h2
 refine⟨hk,by show w0.heap.size+4≠w0.heap.size+2;omega,fun l ⟨a,e,ha⟩ hs=>?_,fun l hl=>?_,fun a ha=>?_,fun a ha=>?_,fun w w' hm hf=>?_,fun w w' hm hf=>?_,fun g w d=>FV _ _ _ _ _,fun w w' hs hc h=>⟨(hc _ (af rfl) h.2).trans h.1,aB h.2 hs⟩⟩
 ·obtain⟨a',e',h1,_⟩:=old l hs
  rw [e] at e'
  cases e'
  have ha':a.block=w0.heap.size+4:=ha
  omega
 ·obtain⟨a,e,h1,_⟩:=old l hl
  exact⟨a,e,by show a.block≠w0.heap.size+2;omega⟩
 ·have ha':a=⟨sb,1,od⟩:=ha
  subst ha'
  refine⟨by show sb≠w0.heap.size+4;omega,by show sb≠w0.heap.size+2;omega,fun hs=>?_⟩
  obtain⟨a',e',_,h1⟩:=old _ hs
  cases e'
  exact h1 rfl
 ·have ha':a.block=w0.heap.size∨a.block=w0.heap.size+1∨a.block=w0.heap.size+3:=ha
  refine⟨by show a.block≠w0.heap.size+4;omega,by show a.block≠w0.heap.size+2;omega,fun hs=>?_⟩
  obtain⟨a',e',h1,_⟩:=old _ hs
  cases e'
  omega
 ·rcases hfb with h|⟨i,rfl⟩
  ·exact h _
  ·exact⟨⟨(hm.cell _ (af ⟨_,rfl,rfl⟩) hf.1.2).trans hf.1.1,aB hf.1.2 hm.size⟩,(hm.cell _ (o5 (o5 (o5 (o5 ⟨_,rfl,af rfl⟩)))) hf.2.2).trans hf.2.1,aB hf.2.2 hm.size⟩
 ·rcases hfb with h|⟨i,rfl⟩
  ·exact h _
  ·have key:∀j,j<w.heap.size->j≠w0.heap.size+4->j≠w0.heap.size+2->w'.heap[j]? = w.heap[j]?:=fun j hl h4 h2=>by
    have e:w.heap[j]? = lp w.heap[j]:=aZ hl
    rw [hm.keep j _ e ⟨h4,h2⟩,e]
   refine⟨⟨(Ew (key sb hf.1.2 Ab Ab)).trans hf.1.1,aB hf.1.2 hm.size⟩,(Ew (key _ hf.2.2 Ab Ab)).trans hf.2.1,aB hf.2.2 hm.size⟩
end
structure CE(N sb:Nat)(w:qq):Prop where
 c:w.cell? ⟨N,0,od⟩=lp (om (lp ⟨sb,1,od⟩))
 lt:N<w.heap.size
 t:w.cell? ⟨sb,2,od⟩=lp (gf vp)
 ls:sb<w.heap.size
structure RG(N sb:Nat)(w0 w:qq):Prop where
 e:CE N sb w
 r:cu w0 w
theorem CE.rely{N sb:Nat}{w w':qq}(h:CE N sb w)(r:cu w w'):CE N sb w':=by
 obtain⟨d,rfl⟩:=r
 exact⟨h.c,h.lt,h.t,h.ls⟩
theorem RG.rely{N sb:Nat}{w0 w w':qq}(h:RG N sb w0 w)(r:cu w w'):RG N sb w0 w':=⟨h.e.rely r,c8 _ _ _ h.r r⟩
section
variable {Post:tj->qq->Prop} {Shun:Loc->Prop} {w:qq} {fr:qg} {cs:List qg} {sb N:Nat}
theorem Zb:Code.two Gm=.seq (.region 12 (Code.opsOf (Code.one (Code.two Gm))) vp) .ret:=rfl
theorem NC(y:Nat->tj)(h3:y 3=om (lp ⟨N,0,od⟩))(n1:¬Shun (.cell ⟨N,0,od⟩))(n2:¬Shun (.cell ⟨sb,2,od⟩))(hF:CE N sb w)(Bo:∀d,EA ly Post Shun (G (fr.finish (gf s7)) cs) (w.at d)) :
  EA ly Post Shun (G ((base 34).at (LG y) [.inRegion Qe [],.code (Code.two Gm)]) (fr :: cs)) w:=by
 have T:=Ln Shun
 refine EA.goes (n:=12) ?_
 have hG:RG N sb w w:=⟨hF,atRel_refl w⟩
 clear hF
 refine Hom ?_
 rw [Zb]
 refine Fpl ?_
 refine Bj rfl Ac Ad fun _ hRz Kz hKz=>?_
 replace hG:=RG.rely hG hRz
 clear hRz
 (have hc:=hG.e.c)
 go_simp
 try(unfold ve;go_simp)
 refine hKz _ _ ⟨?_,?_⟩
 ·(refine If ?_;co_evs (exact evL_cell n1 hG.e.lt))
 clear hKz Kz
 try walk_nrm
 clear hc
 refine Bj rfl Ac Ad fun _ hRz Kz hKz=>?_
 replace hG:=RG.rely hG hRz
 clear hRz
 go_simp
 try(unfold ve;go_simp)
 refine hKz _ _ ⟨?_,?_⟩
 ·co_quiet T
 clear hKz Kz
 try walk_nrm
 refine Bj rfl Ac Ad fun _ hRz Kz hKz=>?_
 replace hG:=RG.rely hG hRz
 clear hRz
 go_simp
 try(unfold ve;go_simp)
 refine hKz _ _ ⟨?_,?_⟩
 ·co_quiet T
 clear hKz Kz
 try walk_nrm
 refine Bj rfl Ac Ad fun _ hRz Kz hKz=>?_
 replace hG:=RG.rely hG hRz
 clear hRz
 (have hc:=hG.e.t)
 go_simp
 try(unfold ve;go_simp)
 refine hKz _ _ ⟨?_,?_⟩
 ·(refine If ?_;co_evs (exact evL_cell n2 hG.e.ls))
 clear hKz Kz
 try walk_nrm
 clear hc
 refine Bj rfl Ac Ad fun _ hRz Kz hKz=>?_
 replace hG:=RG.rely hG hRz
 clear hRz
 go_simp
 try(unfold ve;go_simp)
 refine hKz _ _ ⟨?_,?_⟩
 ·co_quiet T
 clear hKz Kz
 try walk_nrm
 refine Bj rfl Ac Ad fun _ hRz Kz hKz=>?_
 replace hG:=RG.rely hG hRz
 exact Xit
end
section
variable {Post:tj->qq->Prop} {far:Nat->Obj->Prop} {Shun:Loc->Prop} {w w0:qq} {fr:qg} {cs:List qg} {sb ob vb bl cap:Nat} {ba:Option zu}
@[reducible] noncomputable def BA(far:Nat->Obj->Prop)(Shun:Loc->Prop)(N:Nat)(sb:Nat)(z:List qg)(Fa FB:qq->Prop)(k:Nat):VC:=
 M5 far Shun k (N+4) (N+2) sb N (RoN N) Fa FB (Mf (om (lp ⟨N,0,od⟩)) z)
theorem ID(F:Nat×Nat->qq->Prop)(Md:Nat×Nat->tj->qq->Prop)(hat:∀i v d,F i v->F i (World.at v d))(hS:Bf Shun w0){cc:Array tj}(Gs:w0.heap[sb]? = lp (ye cc 75))(hP:PV w0 (F9 sb w0.heap.size (cf ba bl cap) KK) w)(HC:∀k,0<k->∀i x u w' d,Md i x u->NF u->Ct (BA far Shun w0.heap.size sb (fr :: cs) (fun _=>True) (fun _=>True) k).J1 w' (World.at u d)->NF w'->NJ (BA far Shun w0.heap.size sb (fr :: cs) (F i) (J0 sb w0.heap.size i) k).J2 w'/\Bz ly s7 (BA far Shun w0.heap.size sb (fr :: cs) (F i) (J0 sb w0.heap.size i) k).J2 (StopA (BA far Shun w0.heap.size sb (fr :: cs) (F i) (J0 sb w0.heap.size i) k)) 35 #[x,om (lp ⟨ob,0,od⟩),om (lp ⟨vb,0,od⟩)] w' fun r u'=>r=fh #[]/\F i u')(HB:∀k,0<k->∀d,Fw ly vp (BA far Shun w0.heap.size sb (fr :: cs) (fun _=>True) (fun _=>True) k).J1 (fun g v=>∃x z,Ww (BA far Shun w0.heap.size sb (fr :: cs) (fun _=>True) (fun _=>True) k) (Yo sb w0.heap.size F Md) x z g v) (G ((base 49).at (C9 (om (lp ⟨sb,1,od⟩)) (cf ba bl cap) (.chan (lp (w0.heap.size+2))) yj (fun _=>yj)) [.code Fv]) [Zm (T47 (w0.heap.size+4) (w0.heap.size+3) w0.heap.size (w0.heap.size+1) (w0.heap.size+2) sb (cf ba bl cap)) (w0.heap.size+4) (w0.heap.size+2),bot]) ((Cf w).at d))(hfar:∀(i:Nat) (o:Obj),w.heap[i]? = lp o->¬B7 o->far i o)(hend:∀k i w',J0 sb w0.heap.size i w'->(BA far Shun w0.heap.size sb (fr :: cs) (F i) (J0 sb w0.heap.size i) k).Msg w'->Wy 115 (w0.heap.size+4) (w0.heap.size+2) w'->Ed w w'/\w'.cell? ⟨sb,2,od⟩=lp (gf vp)/\EA ly Post (fun l=>Shun l∨Hy (w0.heap.size+4) l) (G (fr.finish (gf s7)) cs) w') :
  EA ly Post Shun (G ((base 34).at (VJ sb w0.heap.size ob vb ba bl cap) [.inRegion (Code.opsOf r6) [1],.code Ic]) (fr :: cs)) w:=by
 intro d
 have Cg:=Ax Gs
 have b0:w.heap[w0.heap.size]? = lp (ye #[om (lp ⟨sb,1,od⟩)] 104):=hP.new 0 _ rfl
 have b1:w.heap[w0.heap.size+1]? = lp (ye #[cf ba bl cap] 35):=hP.new 1 _ rfl
 have b3:w.heap[w0.heap.size+3]? = lp (ye #[.chan (lp (w0.heap.size+2))] 105):=hP.new 3 _ rfl
 refine Ends.forkV rfl fun n k hk=>⟨BA far Shun w0.heap.size sb (fr :: cs) (fun _=>True) (fun _=>True) k,Yo sb w0.heap.size F Md,_,_,vp,10,15,rfl,rfl,rfl,Ya hk hS Gs _ _ _ (af fun _=>trivial),fun i=>Ya hk hS Gs _ _ _ (o5 ⟨i,rfl⟩),PX _,hP.new 2 _ rfl,hP.new 4 _ rfl,⟨cellOf (j:=0) b0 rfl,Ax b0⟩,hfar,?_,?_,fun i g' w' D1 hPA hB hM hEW=>?_⟩
 ·refine YC (o5 (o5 rfl)) ⟨cellOf (j:=0) b3 rfl,Ax b3⟩ fun y h2 h3 h8 h17=>?_
  exact Aat (M:=Yo sb w0.heap.size F Md) (fun i=>Ya hk hS Gs _ _ _ (o5 ⟨i,rfl⟩)) y ob vb h2 h3 h8 h17 hat (HC k hk)
 ·exact TK (fun i hi=>by
   rcases hi with h|h|h
   ·exact o5 (o5 h)
   ·exact af h
   ·exact o5 (af h)) ⟨b3,b0,b1⟩ fun e=>HB k hk e
 ·obtain⟨y,m,h3,hgo⟩:=hPA
  obtain⟨hsm,ht,hE⟩:=hend k i w' hB hM hEW
  have n1:¬(Shun (.cell ⟨w0.heap.size,0,od⟩)∨Hy (w0.heap.size+4) (.cell ⟨w0.heap.size,0,od⟩)):=by
   rintro(h|⟨a,e,ha⟩)
   ·exact hS.new (aA _) h
   ·cases e
    have ha':w0.heap.size=w0.heap.size+4:=ha
    omega
  have n2:¬(Shun (.cell ⟨sb,2,od⟩)∨Hy (w0.heap.size+4) (.cell ⟨sb,2,od⟩)):=by
   rintro(h|⟨a,e,ha⟩)
   ·exact hS.not Gs (by simp [kindOf]) h
   ·cases e
    have ha':sb=w0.heap.size+4:=ha
    omega
  have hz:=NC (Post:=Post) (fr:=fr) (cs:=cs) y h3 n1 n2 ⟨hB.2.1,hB.2.2,ht,hB.1.2⟩ fun e=>hE.rel ⟨e,rfl⟩
  exact Ends.goesA (w₀:=w') (fun g Hx h0 Dk=>by rw [Dk Hx (atRel_refl Hx)];exact(hz.rel h0).from (by obtain⟨e,rfl⟩:=h0;exact hsm)) (atRel_refl w') hgo
end
def KP(Shun:Loc->Prop)(N:Nat)(l:Loc):Prop:=Hy (N+4) l∨l=.obj (N+2)∨Shun l∨∃a,l=.cell a/\RoN N a
def Wx(Shun:Loc->Prop)(N i:Nat):Prop:=(N<=i/\i<N+5)∨∃a:zu,Shun (.cell a)/\a.block=i
section
variable {far:Nat->Obj->Prop} {Shun:Loc->Prop} {w w0:qq} {sb bb off bcap:Nat} {n t v e o pv:tj} {hd body:List UInt8} {bsl:tj}
theorem vw1(hS:Bf Shun w0)(hN:NF w)(hP:PV w0 (F9 sb w0.heap.size bsl KK) w):VW (KP Shun w0.heap.size) (Wx Shun w0.heap.size) w:=by
 refine⟨hN,fun i hi=>?_,⟨fun a ha=>?_,fun r hr=>?_⟩⟩
 ·rcases hi with⟨h1,h2⟩|⟨a,ha,rfl⟩
  ·have h5:i=w0.heap.size+0∨i=w0.heap.size+1∨i=w0.heap.size+2∨i=w0.heap.size+3∨i=w0.heap.size+4:=Ab
   rcases h5 with rfl|rfl|rfl|rfl|rfl
   ·exact af ⟨_,_,_,hP.new 0 _ rfl⟩
   ·exact af ⟨_,_,_,hP.new 1 _ rfl⟩
   ·exact o5 ⟨_,hP.new 2 _ rfl,rfl⟩
   ·exact af ⟨_,_,_,hP.new 3 _ rfl⟩
   ·exact af ⟨_,_,_,hP.new 4 _ rfl⟩
  ·obtain⟨a',e',ob,h1,h2⟩:=hS _ ha
   cases e'
   have h3:=hP.old a.block (Ax h1)
   rw [h1] at h3
   cases ob with
   | cells c t fz=>exact af ⟨_,_,_,h3⟩
   | _=>cases h2
 ·exact K3g
 ·exact Nph
def MdN(Shun:Loc->Prop)(N:Nat)(w:qq)(sb bb:Nat)(n t v e o pv:tj)(hd body:List UInt8)(i:Nat×Nat)(x:tj)(u:qq):Prop:=
 ∃q,x=cf (lp ⟨q,0,od⟩) body.length body.length/\u.heap[q]? = lp (ye (A0 body).toArray 5)/\Ar w u (fun j=>j=sb∨pv.ownBlock=lp j)/\w.heap.size<=q/\q≠i.1/\(pv.ownBlock=lp i.1∨w.heap.size<=i.1) /\
  Lf (KP Shun N) (Wx Shun N) u sb bb n t v e o (cf (lp ⟨i.1,0,od⟩) (hd++body).length i.2) (hd++body)
theorem Abh(F:Nat×Nat->qq->Prop)(z:List qg)(T:Array tj)(hS:Bf Shun w0){cc:Array tj}(Gs:w0.heap[sb]? = lp (ye cc 75))(hP:PV w0 (F9 sb w0.heap.size (cf (lp ⟨bb,off,od⟩) (hd++body).length bcap) KK) w)(C:Lf (KP Shun w0.heap.size) (Wx Shun w0.heap.size) w sb bb n t v e o pv [])(hnj:NJ (KP Shun w0.heap.size) w)(hb:Bytes w bb off (hd++body))(hh:hd.length=4)(hU:Orch.uns hd=body.length)(h1:0<body.length)(h2:body.length<=1000)(Ea:(hd++body).length<=bcap)(k:Nat)(hk:0<k)(d:Nat) :
  Fw ly vp (BA far Shun w0.heap.size sb z (fun _=>True) (fun _=>True) k).J1 (fun g v'=>∃x zz,Ww (BA far Shun w0.heap.size sb z (fun _=>True) (fun _=>True) k) (Yo sb w0.heap.size F (MdN Shun w0.heap.size w sb bb n t v e o pv hd body)) x zz g v')
   (G ((base 49).at (C9 (om (lp ⟨sb,1,od⟩)) (cf (lp ⟨bb,off,od⟩) (hd++body).length bcap) (.chan (lp (w0.heap.size+2))) yj (fun _=>yj)) [.code Fv]) [Zm T (w0.heap.size+4) (w0.heap.size+2),bot]) (w.at d):=by
 have Cg:=Ax Gs
 refine MV (J:=KP Shun w0.heap.size) (Bs:=Wx Shun w0.heap.size) (u:=w.at d) (b:=base 49) (k:=[]) off bcap hd body (C.at d) hb hh hU h1 h2 Ea (.chan (lp (w0.heap.size+2))) yj (fun _=>yj) rfl rfl ?_ hnj
 intro x' u' g c q aa C' hq K' hqs hqg hg h41 h43 d'
 refine⟨_,fh #[],Aau (M:=Yo sb w0.heap.size F (MdN Shun w0.heap.size w sb bb n t v e o pv hd body)) (i:=(g,c)) (Ya hk hS Gs _ _ _ (o5 ⟨(g,c),rfl⟩)) (af rfl) Ab Ab g (hd++body).length c ?_ (fun w' hw'=>⟨⟨hw'.cell,hw'.lt⟩,hw'.bx,hw'.bl⟩) T aa _ _ _ x' h41 h43 ⟨q,rfl,hq,⟨K'.os,K'.tape,K'.output,K'.size,K'.block⟩,hqs,hqg,hg,C'.at d'⟩ C'.W.nf (cellOf (j:=1) C'.blk rfl) (Ay (j:=1) (W:=u') C'.blk) (ltOf C'.blk) fun hj=>C'.nb (C'.W.ji.cell _ hj)⟩
 obtain⟨g',cap',e1,e2,_⟩:=Og C'.own Ag
 cases e1
 exact e2
end
section
variable {Post:tj->qq->Prop} {far:Nat->Obj->Prop} {Shun:Loc->Prop} {w w0:qq} {fr:qg} {cs:List qg} {sb bb off bcap ob vb:Nat} {n t v e o pv:tj} {hd body:List UInt8} {bsl:tj}
theorem FX{os:List Obj}(hP:PV w0 os w)(hos:∀o∈os,B7 o):PV (Cf w0) os (Cf w):=by
 refine⟨by rw [Cw,Cw];exact hP.size,fun i hi=>?_,fun j o h=>?_⟩
 ·rw [Cw] at hi
  rw [Cr,Cr,hP.old i hi]
 ·rw [Cw,Cr,hP.new j o h,bA,Gu (hos o (cD h))]
theorem DQ{os:List Obj}(hP:PV w0 os w)(hos:∀o∈os,B7 o)(i:Nat)(o:Obj)(h:w.heap[i]? = lp o)(hn:¬B7 o):w0.heap[i]? = lp o:=by
 rcases cO i w0.heap.size with hl|hl
 ·rw [←hP.old i hl];exact h
 ·have Cg:=Ax h
  have hs:=hP.size
  have hj:i - w0.heap.size<os.length:=Ab
  have h1:=hP.new (i - w0.heap.size) _ (aR hj)
  rw [show w0.heap.size+(i - w0.heap.size)=i by omega,h] at h1
  cases h1
  exact absurd (hos _ (dF _)) hn
theorem Rs{W:qq}{b t:Nat}:Gb (Cf W) b t↔Gb W b t:=by
 constructor
 ·rintro⟨o,h1,h2⟩
  rw [Cr] at h1
  obtain⟨x,hx,rfl⟩:=aJ.1 h1
  refine⟨x,hx,?_⟩
  cases x <;> first|exact h2|cases h2
 ·rintro⟨o,h1,h2⟩
  refine⟨o,Js h1 ?_,h2⟩
  cases o <;> first|trivial|cases h2
theorem Jv{W:qq}:Bf Shun (Cf W)↔Bf Shun W:=⟨fun h l hl=>let⟨a,e,k⟩:=h l hl;⟨a,e,Rs.1 k⟩,fun h l hl=>let⟨a,e,k⟩:=h l hl;⟨a,e,Rs.2 k⟩⟩
theorem Zn{st:Int}{N:Nat}:∀o∈F9 sb N bsl st,B7 o:=by
 intro o ho
 simp only [F9,bI,cF,or_false] at ho
 rcases ho with rfl|rfl|rfl|rfl|rfl <;> trivial
theorem N8(W:qq)(a:zu):(Cf W).cell? a=W.cell? a:=by
 exact Aod
theorem OL(hN:NF w0)(hP:PV w0 (F9 sb w0.heap.size bsl KK) w):NF w:=by
 intro i x hx
 rcases cO i w0.heap.size with hi|hi
 ·rw [hP.old i hi] at hx
  exact hN i x hx
 ·have hl:=Ax hx
  have hs:=hP.size
  have h5:(F9 sb w0.heap.size bsl KK).length=5:=rfl
  have h6:i=w0.heap.size+0∨i=w0.heap.size+1∨i=w0.heap.size+2∨i=w0.heap.size+3∨i=w0.heap.size+4:=Ab
  rcases h6 with rfl|rfl|rfl|rfl|rfl
  ·rw [hP.new 0 _ rfl] at hx;cases hx;exact af trivial
  ·rw [hP.new 1 _ rfl] at hx;cases hx;exact af trivial
  ·rw [hP.new 2 _ rfl] at hx;cases hx;exact af trivial
  ·rw [hP.new 3 _ rfl] at hx;cases hx;exact af trivial
  ·rw [hP.new 4 _ rfl] at hx;cases hx;exact af trivial
theorem nj1(hS:Bf Shun w0)(hN:NF w)(hP:PV w0 (F9 sb w0.heap.size bsl KK) w):NJ (KP Shun w0.heap.size) w:=by
 refine⟨hN,fun i hi=>?_⟩
 rcases hi 0 with⟨a,e',h⟩|h|h|⟨a,e',h⟩
 ·cases e'
  have h':i=w0.heap.size+4:=h
  subst h'
  exact⟨_,_,_,hP.new 4 _ rfl⟩
 ·cases h
 ·obtain⟨a,e',ob,h1,h2⟩:=hS _ h
  cases e'
  have h3:=hP.old i (Ax h1)
  rw [h1] at h3
  cases ob with
  | cells c t fz=>exact⟨_,_,_,h3⟩
  | _=>cases h2
 ·cases e'
  have h':i=w0.heap.size+0∨i=w0.heap.size+1∨i=w0.heap.size+3:=h
  rcases h' with rfl|rfl|rfl
  ·exact⟨_,_,_,hP.new 0 _ rfl⟩
  ·exact⟨_,_,_,hP.new 1 _ rfl⟩
  ·exact⟨_,_,_,hP.new 3 _ rfl⟩
theorem Jn(hS:Bf Shun w0){i:Nat}(hi:i<w0.heap.size)(hk:¬Gb w0 i 115):¬Wx Shun w0.heap.size i:=by
 rintro(⟨h,_⟩|⟨a,ha,rfl⟩)
 ·omega
 ·obtain⟨a',e',h⟩:=hS _ ha
  cases e'
  exact hk h
structure Jx(w0:qq)(sb bb off:Nat)(n t v e o pv:tj)(hd body:List UInt8):Prop where
 nf:NF w0
 blk:w0.heap[sb]? = lp (ye (Bl n pv t v e o) 75)
 own:w0.ownsRow 0 5 1 pv 0 (A0 [])
 ap:∀g,pv.ownBlock=lp g->g<w0.heap.size/\g≠sb/\g≠bb/\¬Gb w0 g 115
 bl:bb<w0.heap.size
 bs:bb≠sb
 bk:¬Gb w0 bb 115
 bytes:Bytes w0 bb off (hd++body)
 h4:hd.length=4
 un:Orch.uns hd=body.length
 pos:0<body.length
 le:body.length<=1000
theorem Aa8(h:Jx w0 sb bb off n t v e o pv hd body)(hS:Bf Shun w0)(hP:PV w0 (F9 sb w0.heap.size bsl KK) w):Lf (KP Shun w0.heap.size) (Wx Shun w0.heap.size) w sb bb n t v e o pv []:=by
 have hs:=hP.size
 have Cg:=Ax h.blk
 refine⟨vw1 hS (OL h.nf hP) hP,Jn hS Cg ?_,Jn hS h.bl h.bk,h.bs,(hP.old sb Cg).trans h.blk,Ff h.own fun g hg=>hP.old g (h.ap g hg).1,fun g hg=>?_⟩
 ·rintro⟨ob,h1,h2⟩
  rw [h.blk] at h1
  cases h1
  cases h2
 ·obtain⟨h1,h2,h3,h4⟩:=h.ap g hg
  exact⟨Ab,h2,h3,Jn hS h1 h4⟩
theorem CH{W:qq}(hW:w0=Cf W)(h:Jx w0 sb bb off n (gf vp) v e o pv hd body)(hS:Bf Shun w0)(Ea:(hd++body).length<=bcap)(F:qq->Nat×Nat->qq->Prop)(hat:∀w i v d,F w i v->F w i (World.at v d))(HC:∀w,PV w0 (F9 sb w0.heap.size (cf (lp ⟨bb,off,od⟩) (hd++body).length bcap) KK) w->∀k,0<k->∀i x u w' d,MdN Shun w0.heap.size w sb bb n (gf vp) v e o pv hd body i x u->NF u->Ct (BA far Shun w0.heap.size sb (fr :: cs) (fun _=>True) (fun _=>True) k).J1 w' (World.at u d)->NF w'->NJ (BA far Shun w0.heap.size sb (fr :: cs) (F w i) (J0 sb w0.heap.size i) k).J2 w'/\Bz ly s7 (BA far Shun w0.heap.size sb (fr :: cs) (F w i) (J0 sb w0.heap.size i) k).J2 (StopA (BA far Shun w0.heap.size sb (fr :: cs) (F w i) (J0 sb w0.heap.size i) k)) 35 #[x,om (lp ⟨ob,0,od⟩),om (lp ⟨vb,0,od⟩)] w' fun r u'=>r=fh #[]/\F w i u')(hfar:∀(i:Nat) (o:Obj),W.heap[i]? = lp o->¬B7 o->far i o)(hend:∀w,PV w0 (F9 sb w0.heap.size (cf (lp ⟨bb,off,od⟩) (hd++body).length bcap) KK) w->∀k i w',J0 sb w0.heap.size i w'->(BA far Shun w0.heap.size sb (fr :: cs) (F w i) (J0 sb w0.heap.size i) k).Msg w'->Wy 115 (w0.heap.size+4) (w0.heap.size+2) w'->Ed w w'/\w'.cell? ⟨sb,2,od⟩=lp (gf vp)/\EA ly Post (fun l=>Shun l∨Hy (w0.heap.size+4) l) (G (fr.finish (gf s7)) cs) w') :
  EA ly Post Shun (G ((base 34).at { tmps:=#[om (lp ⟨sb,1,od⟩),cf (lp ⟨bb,off,od⟩) (hd++body).length bcap,I8 ob vb]++yl 27 yj,defers:=[] } [.code Et]) (fr :: cs)) W:=by
 have ez:W.heap.size=w0.heap.size:=by rw [hW,Cw]
 have hS':Bf Shun W:=by rw [hW] at hS;exact Jv.1 hS
 have Es:W.heap[sb]? = lp (ye (Bl n pv (gf vp) v e o) 75):=J6 (by rw [←hW];exact h.blk) trivial
 refine IF hS' Es rfl fun w1 hP1=>NB hP1 fun w2 hP2=>SU hP2 fun w3 hP3=>?_
 have hPf:PV w0 (F9 sb w0.heap.size (cf (lp ⟨bb,off,od⟩) (hd++body).length bcap) KK) (Cf w3):=by
  have:=FX hP3 Zn
  rwa [←hW,ez] at this
 have hN:=OL h.nf hPf
 refine ID (far:=far) (F (Cf w3)) (MdN Shun w0.heap.size (Cf w3) sb bb n (gf vp) v e o pv hd body) (hat _) hS' Es hP3 ?_ ?_ (fun i o ho hn=>hfar i o (DQ hP3 Zn i o ho hn) hn) ?_
 ·rw [ez]
  exact HC _ hPf
 ·intro k hk d
  rw [ez]
  exact Abh (F (Cf w3)) (fr :: cs) _ hS h.blk hPf (Aa8 h hS hPf) (nj1 hS hN hPf) (fun i hi=>(Ew (hPf.old bb h.bl)).trans (h.bytes i hi)) h.h4 h.un h.pos h.le Ea k hk d
 ·rw [ez]
  exact hend _ hPf
end
theorem IN{J:Loc->Prop}{Bs:Nat->Prop}{w' u:qq}(hJ:LH J Bs)(h:Ct J w' u)(hn:NF w'){i:Nat}(hi:¬Bs i):w'.heap[i]? = u.heap[i]?:=by
 rcases h.like i with e|⟨c,c',t,fz,h1,h2,h3,h4⟩|⟨hj,_⟩|⟨⟨o4,h4,n4⟩,hv4⟩
 ·exact e.symm
 ·have:c'=c:=cY fun j=>h4 j fun hx=>hi (hJ.cell _ hx)
  subst this
  rw [h1,h2]
 ·exact absurd (hJ.obj i hj) hi
 ·rcases hn i o4 h4 with h'|rfl
  ·exact absurd h' n4
  ·rw [h4,hv4]
def Vz(Shun:Loc->Prop)(N sb:Nat)(l:Loc):Prop:=(∃a:zu,l=.cell a/\a=⟨sb,1,od⟩)∨KP Shun N l
def M4(Shun:Loc->Prop)(N sb i:Nat):Prop:=i=sb∨Wx Shun N i
section
variable {Shun:Loc->Prop} {w w0 w' u:qq} {sb bb off bcap d:Nat} {n t v e o pv bsl x:tj} {hd body:List UInt8} {i:Nat×Nat}
structure Found(w0 w w':qq)(Shun:Loc->Prop)(sb:Nat)(n t v e o pv:tj)(hd body:List UInt8)(i:Nat×Nat)(x:tj):Prop where
 W:VW (Vz Shun w0.heap.size sb) (M4 Shun w0.heap.size sb) w'
 nj:NJ (Vz Shun w0.heap.size sb) w'
 size:w0.heap.size+5<=w'.heap.size
 os:w'.os=w.os
 out:w'.output=w.output
 tape:w'.tape=w.tape
 same:∀j,j<w0.heap.size->j≠sb->pv.ownBlock≠lp j->¬Wx Shun w0.heap.size j->w'.heap[j]? = w0.heap[j]?
 kind:∀j,Gb w0 j 115->Gb w' j 115
 blk:w'.heap[sb]? = lp (ye (Bl n (cf (lp ⟨i.1,0,od⟩) (hd++body).length i.2) t v e o) 75)
 own:w'.ownsRow 0 5 1 (cf (lp ⟨i.1,0,od⟩) (hd++body).length i.2) (hd++body).length (A0 (hd++body))
 part:pv.ownBlock=lp i.1∨w0.heap.size+5<=i.1
 pl:i.1<w'.heap.size
 msg:∃q,x=cf (lp ⟨q,0,od⟩) body.length body.length/\w'.heap[q]? = lp (ye (A0 body).toArray 5)/\w0.heap.size+5<=q/\q≠i.1
theorem found(h:Jx w0 sb bb off n t v e o pv hd body)(hS:Bf Shun w0)(hP:PV w0 (F9 sb w0.heap.size bsl KK) w)(hM:MdN Shun w0.heap.size w sb bb n t v e o pv hd body i x u)(hs:Ct (KP Shun w0.heap.size) w' (World.at u d))(hNF:NF w'):Found w0 w w' Shun sb n t v e o pv hd body i x:=by
 obtain⟨q,hx,hq,K,hqs,hqg,hg,C⟩:=hM
 have Di:w.heap.size=w0.heap.size+5:=hP.size
 have Cg:=Ax h.blk
 have wu:w'.heap.size=u.heap.size:=hs.size.symm
 have S:∀j,¬Wx Shun w0.heap.size j->w'.heap[j]? = u.heap[j]?:=fun j hj=>IN C.W.ji hs hNF hj
 have old:∀j,w0.heap.size+5<=j->¬Wx Shun w0.heap.size j:=by
  rintro j hj (⟨_,h2⟩|⟨a,ha,rfl⟩)
  ·omega
  ·obtain⟨a',e',ob,h1,_⟩:=hS _ ha
   cases e'
   have:=Ax h1
   omega
 have rows:∀j,Wx Shun w0.heap.size j->Em w' j:=fun j hj=>by
  have h1:=C.W.rc j hj
  rcases hs.like j with e'|⟨c,c',t',fz,a1,a2,_⟩|⟨_,o1,o2,a1,a2,a3,a4⟩|⟨_,a2⟩
  ·unfold Em
   rw [←e']
   exact h1
  ·exact af ⟨_,_,_,a1⟩
  ·exact o5 ⟨_,a1,a3⟩
  ·exfalso
   have a2':u.heap[j]? = lp dead:=a2
   rcases h1 with⟨_,_,_,h1⟩|⟨_,h1,h2⟩
   ·rw [a2'] at h1;cases h1
   ·rw [a2'] at h1;cases h1;cases h2
 have hbk:w'.heap[sb]? = lp (ye (Bl n (cf (lp ⟨i.1,0,od⟩) (hd++body).length i.2) t v e o) 75):=(S sb C.nb).trans C.blk
 have Wv:VW (Vz Shun w0.heap.size sb) (M4 Shun w0.heap.size sb) w':=by
  refine⟨hNF,fun j hj=>?_,⟨fun a ha=>?_,fun r hr=>?_⟩⟩
  ·rcases hj with rfl|hj
   ·exact af ⟨_,_,_,hbk⟩
   ·exact rows j hj
  ·rcases ha with⟨a',e',rfl⟩|ha
   ·cases e'
    exact af rfl
   ·exact o5 (C.W.ji.cell a ha)
  ·rcases hr with⟨a',e',_⟩|hr
   ·cases e'
   ·exact o5 (C.W.ji.obj r hr)
 have gi:=C.ap i.1 rfl
 refine⟨Wv,⟨hNF,fun j hj=>?_⟩,?_,?_,?_,?_,fun j hj Cu hno hk=>?_,fun j hj=>?_,hbk,?_,?_,?_,q,hx,?_,?_,hqg⟩
 ·have hj0:KP Shun w0.heap.size (.cell ⟨j,0,od⟩):=by
   rcases hj 0 with⟨a',e',ha⟩|ha
   ·cases e'
    cases ha
   ·exact ha
  have hrow:Fb w j:=(nj1 hS (OL h.nf hP) hP).2 j fun m=>by
   rcases hj m with⟨a',e',ha⟩|ha
   ·exfalso
    cases e'
    cases ha
    rcases hj 0 with⟨a',e',ha⟩|ha
    ·cases e'
     cases ha
    ·exact C.nb (C.W.ji.cell _ ha)
   ·exact ha
  have hB:=C.W.ji.cell _ hj0
  have hu:u.heap[j]? = w.heap[j]?:=K.block j hrow.lt fun hx=>by
   rcases hx with rfl|hx
   ·exact C.nb hB
   ·obtain⟨h1,_,_,h4⟩:=h.ap j hx
    exact Jn hS h1 h4 hB
  obtain⟨c0,t0,f0,hw0⟩:=hrow
  rw [hw0] at hu
  rcases hs.like j with e'|⟨c,c',t',fz,a1,a2,_⟩|⟨_,o1,o2,a1,a2,a3,a4⟩|⟨_,a2⟩
  ·exact⟨_,_,_,e'.symm.trans hu⟩
  ·exact⟨_,_,_,a1⟩
  ·have a2':u.heap[j]? = lp o2:=a2
   rw [hu] at a2'
   cases a2'
   cases a4
  ·have a2':u.heap[j]? = lp dead:=a2
   rw [hu] at a2'
   cases a2'
 ·rw [wu];have:=K.size;omega
 ·exact hs.os.symm.trans K.os
 ·exact hs.output.symm.trans K.output
 ·exact hs.tape.symm.trans K.tape
 ·rw [S j hk,K.block j Ab (fun hx=>hx.elim Cu hno),hP.old j hj]
 ·obtain⟨o0,h1,h2⟩:=hj
  have hl0:=Ax h1
  have hu:u.heap[j]? = lp o0:=by
   rw [K.block j Ab ?_,hP.old j hl0]
   ·exact h1
   ·rintro(rfl|hx)
    ·rw [h.blk] at h1
     cases h1
     cases h2
    ·exact(h.ap j hx).2.2.2 ⟨o0,h1,h2⟩
  rcases hs.like j with e'|⟨c,c',t',fz,a1,a2,_⟩|⟨_,o1,o2,a1,a2,a3,a4⟩|⟨_,a2⟩
  ·exact⟨o0,e'.symm.trans hu,h2⟩
  ·have a2':u.heap[j]? = _:=a2
   rw [hu] at a2'
   cases a2'
   exact⟨_,a1,h2⟩
  ·have a2':u.heap[j]? = lp o2:=a2
   rw [hu] at a2'
   cases a2'
   cases o0 <;> first|(cases a4;done)|(cases h2;done)
  ·have a2':u.heap[j]? = lp dead:=a2
   rw [hu] at a2'
   cases a2'
   cases h2
 ·refine Ff C.own fun g' e'=>?_
  obtain rfl:i.1=g':=by simpa [Value.ownBlock] using e'
  exact S _ gi.2.2.2
 ·rcases hg with h1|h1
  ·exact af h1
  ·exact o5 Ab
 ·rw [wu];exact gi.1
 ·rw [S q (old q Ab)];exact hq
 ·omega
end
section
variable {far:Nat->Obj->Prop} {Shun:Loc->Prop} {w0 w':qq} {sb k:Nat} {z:List qg} {Fa FB:qq->Prop} {i:Nat×Nat}
theorem ji1(hS:Bf Shun w0):LH (KP Shun w0.heap.size) (Wx Shun w0.heap.size):=by
 refine⟨fun a ha=>?_,fun r hr=>?_⟩
 ·exact K3g
 ·exact Nph
theorem Le.mort{C:VC}{W v:qq}(h:C.Le W v)(hn:NF v):C.Le (Cf W) v:=by
 refine⟨by rw [Cw];exact h.size,fun i hi h1 h2=>?_,h.same⟩
 unfold Go.Pair.Alike
 rw [Cr]
 rcases h.like i hi h1 h2 with e|⟨c,c',t,fz,hu,hw,hz,hj⟩|⟨hJi,x,x',hu,hw,h1,h2⟩|⟨⟨o4,h4,n4⟩,hw⟩
 ·left
  cases ho:W.heap[i]? with
  | none=>rw [e,ho];rfl
  | some o=>
   exact Re9
 ·exact o5 (af ⟨c,c',t,fz,by rw [hu];rfl,hw,hz,hj⟩)
 ·exact O10
 ·left
  rw [hw,h4,bA,It n4]
theorem ended(hS:Bf Shun w0)(hnb:¬Wx Shun w0.heap.size sb){v:qq}(hL:(BA far Shun w0.heap.size sb z Fa FB k).Le w' v)(hN:NF v)(hNw:NF w')(hF:Fa v)(hB:J0 sb w0.heap.size i w')(hE:Wy 115 (w0.heap.size+4) (w0.heap.size+2) w') :
  v.heap.size<=w'.heap.size/\Ed v w'/\(∀j,j<v.heap.size->¬M4 Shun w0.heap.size sb j->w'.heap[j]? = v.heap[j]?) /\
   (∀n p t x e o,v.heap[sb]? = lp (ye (Bl n p t x e o) 75)->w'.heap[sb]? = lp (ye (Bl n (cf (lp ⟨i.1,0,od⟩) 0 i.2) t x e o) 75))/\NF w'/\Gb w' (w0.heap.size+4) 115/\∀j,j<w0.heap.size->Gb v j 115->Gb w' j 115:=by
 have hji:=ji1 hS
 have n4:¬Wx Shun w0.heap.size sb:=hnb
 have s4:sb≠w0.heap.size+4:=fun e=>hnb (af ⟨Ab,Ab⟩)
 have s2:sb≠w0.heap.size+2:=fun e=>hnb (af ⟨Ab,Ab⟩)
 have no:∀j m,¬Wx Shun w0.heap.size j->¬KP Shun w0.heap.size (.cell ⟨j,m,od⟩):=fun j m hj hx=>hj (hji.cell _ hx)
 refine⟨hL.size,hL.same,fun j hj hb=>?_,fun n p t x e o hv=>?_,hNw,?_,fun j hj hk=>?_⟩
 ·have B9:¬Wx Shun w0.heap.size j:=fun h=>hb (o5 h)
  have hjs:j≠sb:=fun h=>hb (af h)
  rcases hL.like j hj (fun(h:j=w0.heap.size+4)=>B9 (af ⟨Ab,Ab⟩)) (fun(h:j=w0.heap.size+2)=>B9 (af ⟨Ab,Ab⟩)) with e|⟨c,c',ty,fz,h1,h2,h3,h4⟩|⟨hJ,_⟩|⟨⟨o4,g4,n4⟩,hv4⟩
  ·exact e.symm
  ·have:c'=c:=cY fun m=>h4 m fun hx=>by
    rcases hx with⟨a,e',ha⟩|hx
    ·cases e'
     have ha':(⟨j,m,od⟩:zu)=⟨sb,1,od⟩:=ha
     cases ha'
     exact hjs rfl
    ·exact no j m B9 hx
   subst this
   rw [h1,h2]
  ·rcases hJ with⟨a,e',_⟩|hJ
   ·cases e'
   ·exact absurd (hji.obj _ hJ) B9
  ·rcases hNw j o4 g4 with h'|rfl
   ·exact absurd h' n4
   ·rw [g4,hv4]
 ·have hls:sb<v.heap.size:=Ax hv
  have hc1:=hB.1.1
  rcases hL.like sb hls s4 s2 with e'|⟨c,c',ty,fz,h1,h2,h3,h4⟩|⟨hJ,_⟩|⟨_,hv4⟩
  ·rw [hv] at e'
   unfold World.cell? at hc1
   rw [←e'] at hc1
   simp at hc1
   rw [←e',hc1]
  ·rw [hv] at h2
   cases h2
   have Ee:c[1]? = lp (cf (lp ⟨i.1,0,od⟩) 0 i.2):=by
    unfold World.cell? at hc1
    rw [h1] at hc1
    simpa using hc1
   rw [h1]
   congr 2
   refine cY fun m=>?_
   by_cases hm:m=1
   ·subst hm
    rw [Ee]
    rfl
   ·rw [←h4 m fun hx=>?_]
    ·match m,hm with
     | 0,_=>rfl
     | 1,hm=>exact absurd rfl hm
     | 2,_=>rfl
     | 3,_=>rfl
     | 4,_=>rfl
     | 5,_=>rfl
     | m+6,_=>simp
    ·rcases hx with⟨a,e',ha⟩|hx
     ·cases e'
      have ha':(⟨sb,m,od⟩:zu)=⟨sb,1,od⟩:=ha
      injection ha' with _ h6 _
      exact hm h6
     ·exact no sb m hnb hx
  ·rcases hJ with⟨a,e',_⟩|hJ
   ·cases e'
   ·exact absurd (hji.obj _ hJ) hnb
  ·rw [hv] at hv4;cases hv4
 ·obtain⟨⟨st,sm,hg⟩,_⟩:=hE
  exact⟨_,hg,rfl⟩
 ·obtain⟨ob,h1,h2⟩:=hk
  rcases hL.like j (Ax h1) (fun(h:j=w0.heap.size+4)=>Ab) (fun(h:j=w0.heap.size+2)=>Ab) with e|⟨c,c',ty,fz,g1,g2,g3,g4⟩|⟨_,o1,o2,g1,g2,g3,g4⟩|⟨_,g2⟩
  ·exact⟨ob,e.symm.trans h1,h2⟩
  ·rw [g2] at h1
   cases h1
   exact⟨_,g1,h2⟩
  ·rw [g2] at h1
   cases h1
   cases ob <;> first|(cases g4;done)|(cases h2;done)
  ·rw [g2] at h1
   cases h1
   cases h2
end
section
variable {T:Da} {Shun:Loc->Prop} {w0:qq} {fr:qg} {cs:List qg} {sb bb off bcap ob vb:Nat} {n v e o pv:tj} {hd body:List UInt8}
structure Left(w0:qq)(Shun:Loc->Prop)(sb:Nat)(i:Nat×Nat)(v w':qq):Prop where
 size:v.heap.size<=w'.heap.size
 same:Ed v w'
 old:∀j,j<v.heap.size->¬M4 Shun w0.heap.size sb j->w'.heap[j]? = v.heap[j]?
 blk:∀n p t x e o,v.heap[sb]? = lp (ye (Bl n p t x e o) 75)->w'.heap[sb]? = lp (ye (Bl n (cf (lp ⟨i.1,0,od⟩) 0 i.2) t x e o) 75)
 nf:NF w'
 wg:Gb w' (w0.heap.size+4) 115
 kind:∀j,j<w0.heap.size->Gb v j 115->Gb w' j 115
theorem Abb(h:Jx w0 sb bb off n (gf vp) v e o pv hd body)(hS:Bf Shun w0)(Ea:(hd++body).length<=bcap)(F:qq->Nat×Nat->qq->Prop)(hat:∀w i v d,F w i v->F w i (World.at v d))(hsame:∀w i v,F w i v->Ed w v/\∃n p x e o,v.heap[sb]? = lp (ye (Bl n p (gf vp) x e o) 75))(HC:∀w w' i x,Found w0 w w' Shun sb n (gf vp) v e o pv hd body i x->∀Stop,Bz ly s7 (Vz Shun w0.heap.size sb) Stop 35 #[x,om (lp ⟨ob,0,od⟩),om (lp ⟨vb,0,od⟩)] w' fun r u'=>r=fh #[]/\F w i u')(hend:∀w i u w',NF u->F w i u->Left w0 Shun sb i u w'->EF ly T (fun l=>Shun l∨Hy (w0.heap.size+4) l) (G (fr.finish (gf s7)) cs) w') :
  EF ly T Shun (G ((base 34).at { tmps:=#[om (lp ⟨sb,1,od⟩),cf (lp ⟨bb,off,od⟩) (hd++body).length bcap,I8 ob vb]++yl 27 yj,defers:=[] } [.code Et]) (fr :: cs)) w0:=by
 intro W hW hF
 have hnb:¬Wx Shun w0.heap.size sb:=Jn hS (Ax h.blk) (by
  rintro⟨ob,h1,h2⟩
  rw [h.blk] at h1
  cases h1
  cases h2)
 refine CH (far:=T.far) hW h hS Ea F hat (fun w hP k hk i x u w' d hM hn hs hn'=>?_) hF (fun w hP k i w' hB hM hE=>?_)
 ·have hf:=found h hS hP hM hs hn'
  exact⟨hf.nj,HC w w' i x hf _⟩
 ·obtain⟨u,hL,hN,hFa,hF1⟩:=hM
  have hB':J0 sb w0.heap.size i (Cf w'):=by
   unfold J0 at hB ⊢
   rw [N8,N8,Cw]
   exact hB
  have hE':Wy 115 (w0.heap.size+4) (w0.heap.size+2) (Cf w'):=by
   obtain⟨⟨st,sm,hg⟩,s,r,tm,h2⟩:=hE
   exact⟨⟨st,sm,Js hg trivial⟩,s,r,tm,Js h2 trivial⟩
  obtain⟨h1,h2,h3,h4,h5,h6,h7⟩:=ended hS hnb (Le.mort hL hN) hN (Qc _) hF1 hB' hE'
  obtain⟨hs1,n',p',x',e',o',hu⟩:=hsame w i u hF1
  exact⟨hs1.trans h2,(N8 w' _).symm.trans (cellOf (j:=2) (h4 _ _ _ _ _ _ hu) rfl),hend w i u _ hN hF1 ⟨h1,h2,h3,h4,h5,h6,h7⟩ w' rfl hFa⟩
end
section
variable {Tabs:qq->Prop} {gN:Nat} {Shun:Loc->Prop} {w0 w w':qq} {sb:Nat} {n t v e o pv x:tj} {hd body:List UInt8} {i:Nat×Nat}
theorem MW(hf:Found w0 w w' Shun sb n t v e o pv hd body i x)(hS:Bf Shun w0)(hG:EY Tabs gN w0)(hgN:gN<=w0.heap.size)(g8:8<=gN)(Gs:gN<=sb)(hpv:∀g,pv.ownBlock=lp g->gN<=g)(hk:∀j,j<gN->¬Wx Shun w0.heap.size j) :
  Cx Tabs gN (Vz Shun w0.heap.size sb) (M4 Shun w0.heap.size sb) w':=by
 refine⟨hf.W,fun u hu hs=>hG u (fun j hj=>(hu j hj).trans (hf.same j Ab Ab (fun h=>by have:=hpv j h;omega) (hk j hj))) hs,fun j hj=>?_,by have:=hf.size;omega,g8⟩
 rcases hj with rfl|⟨h1,_⟩|⟨a,ha,rfl⟩
 ·exact Gs
 ·omega
 ·exact Nat.le_of_not_lt fun h=>hk _ h (o5 ⟨a,ha,rfl⟩)
theorem Nl(hS:Bf Shun w0)(Gs:sb<w0.heap.size){q:Nat}(hq:w0.heap.size+5<=q):¬M4 Shun w0.heap.size sb q:=by
 rintro(h|⟨_,h2⟩|⟨a,ha,rfl⟩)
 ·omega
 ·omega
 ·obtain⟨a',e',ob,h1,_⟩:=hS _ ha
  cases e'
  have:=Ax h1
  omega
theorem Nn(hS:Bf Shun w0){q:Nat}(hq:q<w0.heap.size)(Cu:q≠sb)(hk:¬Gb w0 q 115):¬M4 Shun w0.heap.size sb q:=fun h=>h.elim Cu (Jn hS hq hk)
theorem Y3(hf:Found w0 w w' Shun sb n t v e o pv hd body i x)(hS:Bf Shun w0)(Gs:sb<w0.heap.size):KZ (M4 Shun w0.heap.size sb) w' x body:=by
 obtain⟨q,hx,hq,h1,_⟩:=hf.msg
 refine⟨q,0,body.length,hx,aA _,Ax hq,Nl hS Gs h1,fun j hj=>?_⟩
 rw [aM]
 exact cellOf (j:=j) hq (by simp [A0,aR hj])
end
noncomputable def Ph:Code:=f30.body.getD .skip
noncomputable def Yq:Code:=Code.two (Code.two Ph)
noncomputable def Uq:Array Oper:=Code.opsOf (Code.one (Code.two Ph))
noncomputable def A30(svb sb N:Nat)(bv:tj):Act:=
 {tmps:=#[om (lp ⟨svb,0,od⟩),om (lp ⟨sb,0,od⟩),bv,om (lp ⟨N,0,od⟩),om (lp ⟨N+1,0,od⟩),yj,yj,om (lp ⟨sb,0,od⟩),om (lp ⟨sb,0,od⟩),om (lp ⟨sb,1,od⟩),bv,I8 (N+1) N,yj,yj,yj,yj,yj,yj,yj,yj,yj,yj,yj,yj,yj,yj,yj,yj,yj,yj,yj,yj,yj,yj,yj,yj,yj,yj],defers:=[] }
def boxes(svb sb:Nat):List Obj:=[ye #[om (lp ⟨svb,0,od⟩)] 61,ye #[om (lp ⟨sb,0,od⟩)] 69]
section
variable {Post:tj->qq->Prop} {Shun:Loc->Prop} {w w0:qq} {fr:qg} {cs:List qg} {svb sb bl cap:Nat} {ba:Option zu}
theorem JM(hS:Bf Shun w)(Bo:∀w',PV w (boxes svb sb) w'->EA ly Post Shun (G ((base 34).at { tmps:=#[om (lp ⟨sb,1,od⟩),cf ba bl cap,I8 (w.heap.size+1) w.heap.size]++yl 27 yj,defers:=[] } [.code Et]) ((base 30).at (A30 svb sb w.heap.size (cf ba bl cap)) [.inRegion Uq [5,6],.code Yq] :: fr :: cs)) w') :
  EA ly Post Shun (G ((base 30).at { tmps:=#[om (lp ⟨svb,0,od⟩),om (lp ⟨sb,0,od⟩),cf ba bl cap]++yl 35 yj,defers:=[] } [.code Ph]) (fr :: cs)) w:=by
 have T:=Ln Shun
 have hF:=PV.start w
 generalize hw0:w=w0 at hS Bo
 rw [hw0] at hF
 refine EA.goes (n:=15) ?_
 simp only [bT,bZ,cG,cB,aP,bK]
 simp only [Ph,f30,aN]
 refine Jc0 ?_
 refine Bj rfl Ac Ad fun _ hRz Kz hKz=>?_
 replace hF:=PV.rely hF hRz
 clear hRz
 (skip)
 go_simp
 try(unfold ve;go_simp)
 refine hKz _ _ ⟨?_,?_⟩
 ·(rw [vj (by simp [go_sem])];exact Gg _ _)
 clear hKz Kz
 try walk_nrm
 simp only [hF.size,aI,Nat.add_zero]
 replace hF:=hF.push (ye #[om (lp ⟨svb,0,od⟩)] 61)
 refine Bj rfl Ac Ad fun _ hRz Kz hKz=>?_
 replace hF:=PV.rely hF hRz
 clear hRz
 (skip)
 go_simp
 try(unfold ve;go_simp)
 refine hKz _ _ ⟨?_,?_⟩
 ·(rw [vj (by simp [go_sem])];exact Gg _ _)
 clear hKz Kz
 try walk_nrm
 simp only [hF.size,aI,aP,aK,aM]
 replace hF:=hF.push (ye #[om (lp ⟨sb,0,od⟩)] 69)
 simp only [aP,bK] at hF
 refine Hom ?_
 refine Jc0 ?_
 refine Bj rfl Ac Ad fun _ hRz Kz hKz=>?_
 replace hF:=PV.rely hF hRz
 clear hRz
 (have hc:=hF.cell (j:=1) (i:=0) rfl rfl)
 go_simp
 try(unfold ve;go_simp)
 refine hKz _ _ ⟨?_,?_⟩
 ·(refine If ?_;co_evs (exact evL_cell (hS.new Ab) (by have:=hF.size;simp at this;show _<_;simp;omega)))
 clear hKz Kz
 try walk_nrm
 clear hc
 refine Bj rfl Ac Ad fun _ hRz Kz hKz=>?_
 replace hF:=PV.rely hF hRz
 clear hRz
 go_simp
 try(unfold ve;go_simp)
 refine hKz _ _ ⟨?_,?_⟩
 ·co_quiet T
 clear hKz Kz
 try walk_nrm
 refine Bj rfl Ac Ad fun _ hRz Kz hKz=>?_
 replace hF:=PV.rely hF hRz
 clear hRz
 go_simp
 try(unfold ve;go_simp)
 refine hKz _ _ ⟨?_,?_⟩
 ·co_quiet T
 clear hKz Kz
 try walk_nrm
 refine Bj rfl Ac Ad fun _ hRz Kz hKz=>?_
 replace hF:=PV.rely hF hRz
 clear hRz
 go_simp
 try(unfold ve;go_simp)
 refine hKz _ _ ⟨?_,?_⟩
 ·co_quiet T
 clear hKz Kz
 try walk_nrm
 refine Bj rfl Ac Ad fun _ hRz Kz hKz=>?_
 replace hF:=PV.rely hF hRz
 clear hRz
 go_simp
 try(unfold ve;go_simp)
 refine hKz _ _ ⟨?_,?_⟩
 ·co_quiet T
 clear hKz Kz
 try walk_nrm
 refine Goes.step rfl fun w₁ r=>goes_call rfl Ac Ad rfl func34 Ac rfl ⟨T.idle _,?_⟩
 replace hF:=hF.rely r
 clear r
 walk_nrm
 exact EA.stop (Bo _ hF)
end
def F6(Shun:Loc->Prop)(i:Nat):Prop:=∃a:zu,Shun (.cell a)/\a.block=i
section
variable {Post:tj->qq->Prop} {fn:FuncId} {Q:Exit->Act->qq->(Loc->Prop)->Prop} {a:Act} {w:qq} {Shun:Loc->Prop}
theorem Bf.obj(h:Bf Shun w)(r:Nat)(hr:Shun (.obj r)):F6 Shun r:=by
 obtain⟨a,e,_⟩:=h _ hr
 cases e
theorem Bf.cells(h:Bf Shun w)(i:Nat)(hi:F6 Shun i):∃c e fz,w.heap[i]? = lp (ye c e fz):=by
 obtain⟨a,ha,rfl⟩:=hi
 obtain⟨a',e,o,h1,h2⟩:=h _ ha
 cases e
 cases o with
 | cells c t fz=>exact⟨_,_,_,h1⟩
 | _=>cases h2
theorem YH{f:FuncId}(hf:f∈Lv)(hS:Bf Shun w){args:Array tj}{R:Ending->qq->Prop}(hR1:∀c v,¬R (.panicked c) v)(hR2:∀v,¬R .outgrown v)(H:∀v,Cq (F6 Shun) w v->Calls ly f args v R) :
  Pc ly Post f args Shun w (fun val w' Sh=>Sh=Shun/\Kept (F6 Shun) w w'/\∃v',Cq (F6 Shun) w' v'/\R (.returned val) v'):=
 carry (S:=env Lv) YO (show f∈Lv from hf) (fun a h=>⟨a,h,rfl⟩) hS.obj hS.cells (Bg _ _) hR1 hR2 H
end
structure RE(N sb:Nat)(w0 w:qq):Prop where
 c:w.cell? ⟨N+1,0,od⟩=lp (om (lp ⟨sb,0,od⟩))
 lt:N+1<w.heap.size
 t:w.cell? ⟨sb,4,od⟩=lp (gf vp)
 ls:sb<w.heap.size
 r:cu w0 w
theorem RE.rely{N sb:Nat}{w0 w w':qq}(h:RE N sb w0 w)(r:cu w w'):RE N sb w0 w':=by
 have hr:=c8 _ _ _ h.r r
 obtain⟨d,rfl⟩:=r
 exact⟨h.c,h.lt,h.t,h.ls,hr⟩
section
variable {Post:tj->qq->Prop} {Shun:Loc->Prop} {w:qq} {fr:qg} {cs:List qg} {svb sb N:Nat} {bv:tj}
theorem PM(n1:¬Shun (.cell ⟨N+1,0,od⟩))(n2:¬Shun (.cell ⟨sb,4,od⟩))(hF:RE N sb w w)(Bo:∀d,EA ly Post Shun (G (fr.finish (fh #[])) cs) (w.at d)) :
  EA ly Post Shun (G (((base 30).at (A30 svb sb N bv) [.inRegion Uq [5,6],.code Yq]).finish (gf s7)) (fr :: cs)) w:=by
 have T:=Ln Shun
 refine EA.goes (n:=40) ?_
 rw [Frame.finish_at,show Uq[5]? = lp (Uq[5]' Ad) from rfl]
 simp only [Uq,Yq,Ph,Code.opsOf,Code.one,Code.two,f30,aN,A30,cW]
 walk_nrm
 refine Bj rfl Ac Ad fun _ hRz Kz hKz=>?_
 replace hF:=RE.rely hF hRz
 clear hRz
 go_simp
 try(unfold ve;go_simp)
 refine hKz _ _ ⟨?_,?_⟩
 ·co_quiet T
 clear hKz Kz
 try walk_nrm
 refine Hom ?_
 iterate 2(refine I9g ?_)
 refine An ?_
 refine Bj rfl Ac Ad fun _ hRz Kz hKz=>?_
 replace hF:=RE.rely hF hRz
 clear hRz
 go_simp
 try(unfold ve;go_simp)
 refine hKz _ _ ⟨?_,?_⟩
 ·co_quiet T
 clear hKz Kz
 try walk_nrm
 refine Bj rfl Ac Ad fun _ hRz Kz hKz=>?_
 replace hF:=RE.rely hF hRz
 clear hRz
 go_simp
 try(unfold ve;go_simp)
 refine hKz _ _ ⟨?_,?_⟩
 ·co_quiet T
 clear hKz Kz
 try walk_nrm
 refine Bj rfl Ac Ad fun _ hRz Kz hKz=>?_
 replace hF:=RE.rely hF hRz
 clear hRz
 go_simp
 try(unfold ve;go_simp)
 refine hKz _ _ ⟨?_,?_⟩
 ·co_quiet T
 clear hKz Kz
 try walk_nrm
 iterate 5 (refine Av T rfl (fun w=>stepG_unwanted rfl Ac) ?_;walk_nrm)
 refine Bj rfl Ac Ad fun _ hRz Kz hKz=>?_
 replace hF:=RE.rely hF hRz
 clear hRz
 go_simp
 try(unfold ve;go_simp)
 refine hKz _ _ ⟨?_,?_⟩
 ·co_quiet T
 clear hKz Kz
 try walk_nrm
 refine Bj rfl Ac Ad fun _ hRz Kz hKz=>?_
 replace hF:=RE.rely hF hRz
 clear hRz
 go_simp
 try(unfold ve;go_simp)
 refine hKz _ _ ⟨?_,?_⟩
 ·co_quiet T
 clear hKz Kz
 try walk_nrm
 iterate 3 (refine Av T rfl (fun w=>stepG_unwanted rfl Ac) ?_;walk_nrm)
 refine Bj rfl Ac Ad fun _ hRz Kz hKz=>?_
 replace hF:=RE.rely hF hRz
 clear hRz
 go_simp
 try(unfold ve;go_simp)
 refine hKz _ _ ⟨?_,?_⟩
 ·co_quiet T
 clear hKz Kz
 try walk_nrm
 refine Ddq ?_
 refine Jc0 ?_
 refine Bj rfl Ac Ad fun _ hRz Kz hKz=>?_
 replace hF:=RE.rely hF hRz
 clear hRz
 (have hc:=hF.c)
 go_simp
 try(unfold ve;go_simp)
 refine hKz _ _ ⟨?_,?_⟩
 ·(refine If ?_;co_evs (exact evL_cell n1 hF.lt))
 clear hKz Kz
 try walk_nrm
 clear hc
 refine Bj rfl Ac Ad fun _ hRz Kz hKz=>?_
 replace hF:=RE.rely hF hRz
 clear hRz
 go_simp
 try(unfold ve;go_simp)
 refine hKz _ _ ⟨?_,?_⟩
 ·co_quiet T
 clear hKz Kz
 try walk_nrm
 refine Bj rfl Ac Ad fun _ hRz Kz hKz=>?_
 replace hF:=RE.rely hF hRz
 clear hRz
 go_simp
 try(unfold ve;go_simp)
 refine hKz _ _ ⟨?_,?_⟩
 ·co_quiet T
 clear hKz Kz
 try walk_nrm
 refine Bj rfl Ac Ad fun _ hRz Kz hKz=>?_
 replace hF:=RE.rely hF hRz
 clear hRz
 (have hc:=hF.t)
 go_simp
 try(unfold ve;go_simp)
 refine hKz _ _ ⟨?_,?_⟩
 ·(refine If ?_;co_evs (exact evL_cell n2 hF.ls))
 clear hKz Kz
 try walk_nrm
 clear hc
 refine Ddq ?_
 refine Av T rfl (fun _=>stepG_end) ?_
 refine Av T rfl (fun w=>stepG_leave (v:=fh #[]) rfl rfl func30 (results_none Ac _ _ _) (events_results_none Ac _ _)) ?_
 refine EA.stop ?_
 obtain⟨d,rfl⟩:=hF.r
 exact Bo d
end
end Go.Proofs.YtjoblhlkfmeckaaGreatDoor
