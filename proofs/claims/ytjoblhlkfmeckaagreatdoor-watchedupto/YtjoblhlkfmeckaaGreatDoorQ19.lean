import Derived.Test.YtjoblhlkfmeckaaGreatDoorBase
import Derived.Test.YtjoblhlkfmeckaaGreatDoorProg
import Derived.Conc.WgLib
import Derived.KernelRfl
import Derived.Test.YtjoblhlkfmeckaaGreatDoorQ07
import Derived.Test.YtjoblhlkfmeckaaGreatDoorQ05
import Derived.Test.YtjoblhlkfmeckaaGreatDoorQ15
import Derived.Test.YtjoblhlkfmeckaaGreatDoorQ14
import Derived.WalkKit
import Derived.Conc.CompanyMem
import Derived.Test.YtjoblhlkfmeckaaGreatDoorQ16
set_option maxHeartbeats 1000000
set_option maxRecDepth 8000
set_option linter.unusedVariables false
set_option linter.unusedSimpArgs false
open Go.Proofs.Tryz renaming prog → ly
open Go renaming World → qq,Value → tj,Goroutine → gq,FuncId → du,TypeId → s8,yielded → iw,results_none → og
open Option renaming some → lp,none → od
open Bool renaming true → s7,false → vp
open Go.Exit renaming normal → kr,ret → ue
open Go.Region renaming wanted → br,ready → ef
open Go.World renaming cell? → q7,frozen? → cq
open Go.Conc renaming events_results_none → b9
open Array renaming replicate → yl
open Go.Value renaming int → rl,string → pt,pointer → om,slice → cf,tuple → fh
open Go.Obj renaming cells → ye
open Go.IntKind renaming i64 → tz
open Go.Proofs.Tryz Orch
theorem Ak{p q:Prop}(k:q)(h:Hd q->p:=by
 intro kz
 refine Ao ?_;walk_nrm
 exact kz.1):p:=h ⟨k⟩
theorem Lh6{p q:Prop}(k:q)(h:Hd q->p:=by
 intro kz
 iterate 2(refine Ak ?_)
 exact kz.1):p:=h ⟨k⟩
theorem M3b{p:Prop}(h:p:=by
 walk_nrm
 unfold execOp
 simp only [resolve,invoke,builtin,Sem.run_bind,Sem.run_pure,Result.andThen_ok,dG,bY,dR]
 walk_nrm
 rw [hr]
 rfl):p:=h
theorem Dbh{p q:Prop}(k:q)(h:Hd q->p:=by
 intro kz
 refine Cz ?_;simp only [Az,As]
 exact kz.1):p:=h ⟨k⟩
theorem Fr7{p q:Prop}(k:q)(h:Hd q->p:=by
 intro kz
 refine Bi (t:=false) Ac ?_;simp only [bC,bQ,aV]
 exact kz.1):p:=h ⟨k⟩
theorem Am{p q:Prop}(k:q)(h:Hd q->p:=by
 intro kz
 refine Au ?_;simp only [Az,As]
 exact kz.1):p:=h ⟨k⟩
theorem Guh{p q:Prop}(k:q)(h:Hd q->p:=by
 intro kz
 refine Fr7 ?_
 refine Dbh ?_
 exact kz.1):p:=h ⟨k⟩
theorem M8j{p q:Prop}(k:q)(h:Hd q->p:=by
 intro kz
 iterate 2(refine Aw ?_)
 exact kz.1):p:=h ⟨k⟩
theorem D9q{p q:Prop}(k:q)(h:Hd q->p:=by
 intro kz
 refine A5 ?_
 iterate 2(refine Ak ?_)
 refine Am ?_
 exact kz.1):p:=h ⟨k⟩
theorem Fck{p q:Prop}(k:q)(h:Hd q->p:=by
 intro kz
 refine Aw ?_
 refine A5 ?_
 exact kz.1):p:=h ⟨k⟩
theorem Gne{p:Prop}(h:p:=by
 obtain⟨⟨ov,h1,h2⟩,h3⟩:=h
 rw [hs.size] at h2
 exact⟨⟨ov,h1,h2⟩,Bp h3⟩):p:=h
theorem Nds{p q:Prop}(k:q)(h:Hd q->p:=by
 intro kz
 refine A6.tp 0 hI hQ hS ?_;walk_nrm
 refine A6.tp 1 hI hQ hS ?_;walk_nrm
 refine A6.tp 2 hI hQ hS ?_;walk_nrm
 exact kz.1):p:=h ⟨k⟩
theorem Rq5{p q:Prop}(k:q)(h:Hd q->p:=by
 intro kz
 refine Fck ?_
 refine E9 (Bb kind m pa d nt' ver wt) 119 ?_;walk_nrm
 refine Am ?_
 have H0:=B8 u (Bb kind m pa d nt' ver wt) 119 (fun _=>False)
 have W1:=C.W.alloc (Bb kind m pa d nt' ver wt) 119
 have F7:(u.alloc (.cells (Bb kind m pa d nt' ver wt) 119)).heap[u.heap.size]? = some (.cells (Bb kind m pa d nt' ver wt) 119):=heap_alloc_new _ _
 generalize u.alloc (.cells (Bb kind m pa d nt' ver wt) 119)=u1 at H0 W1 F7 ⊢
 revert u1 H0 W1 F7
 exact kz.1):p:=h ⟨k⟩
theorem Sj6{p:Prop}(h:p:=by
 have:=hT.tame ((base fn).at a []) Ga
 rwa [Frame.eval_at'] at this):p:=h
theorem Ccr{p:Prop}(h:p:=by
 exact(Kb L tb mb num ns ((ht1.at d0).sim W1'.nf hs nt nm)).mono fun e w' h=>⟨⟨_,h.1,rfl⟩,by rw [h.2];exact Ar.refl _ _⟩):p:=h
theorem Bnc{p q:Prop}(k:q)(h:Hd q->p:=by
 intro kz
 have hT':Ev Tryz.prog (Ta Tryz.prog S) (execOp a.eval o) (fun _=>False):=by
  exact Sj6
 revert hT'
 exact kz.1):p:=h ⟨k⟩
namespace Go.Proofs
abbrev Tryz.link:Go.Conc.Lib.WgLink:={ add:=46,done:=48,wait:=50,relMerge:=74,disable:=75,enable:=76,inBubble:=77,associate:=78,fatal:=79,uOr:=80,uAdd:=81,raceRead:=82,uLoad:=83,uStore:=84,disassociate:=85,semrelease:=86,acquire:=90,isAssociated:=91,uCas:=92,raceWrite:=93,semacquire:=94,orU64:=136,addU64:=137,loadU64:=138,storeU64:=139,casU64:=141,tWgP:=138,tUP:=140,tAssoc:=141,tWg:=115,tAU:=112,tU64:=110,tUint:=63,tU32:=113,tPU32:=145,tPAU:=208,tPU64:=210,tNoCopy:=107,tANoCopy:=108,tAlign64:=109 }
theorem Tryz.wgLib:Go.Conc.Lib.WgLib ly Tryz.link:=
 ⟨func46,func48,func50,func74,func75,func76,func77,func78,func79,func80,func81,func82,func83,func84,func85,func86,func90,func91,func92,func93,func94,func136,func137,func138,func139,func141,underlying138,runUnderlying138,sizeOf138,isAgg138,zeroValue138,underlying140,runUnderlying140,sizeOf140,isAgg140,zeroValue140,underlying141,runUnderlying141,sizeOf141,isAgg141,zeroValue141,underlying115,runUnderlying115,sizeOf115,isAgg115,zeroValue115,underlying112,runUnderlying112,sizeOf112,isAgg112,zeroValue112,underlying110,runUnderlying110,sizeOf110,isAgg110,zeroValue110,underlying63,runUnderlying63,sizeOf63,isAgg63,zeroValue63,underlying113,runUnderlying113,sizeOf113,isAgg113,zeroValue113,underlying145,runUnderlying145,sizeOf145,isAgg145,zeroValue145,underlying208,runUnderlying208,sizeOf208,isAgg208,zeroValue208,underlying210,runUnderlying210,sizeOf210,isAgg210,zeroValue210,underlying0,runUnderlying0,sizeOf0,isAgg0,zeroValue0,underlying3,runUnderlying3,sizeOf3,isAgg3,zeroValue3,underlying4,runUnderlying4,sizeOf4,isAgg4,zeroValue4,underlying9,runUnderlying9,sizeOf9,isAgg9,zeroValue9,underlying20,runUnderlying20,sizeOf20,isAgg20,zeroValue20,underlying21,runUnderlying21,sizeOf21,isAgg21,zeroValue21,Aa,Aa⟩
end Go.Proofs
namespace Go.Proofs.YtjoblhlkfmeckaaGreatDoor
open Go Go.Conc Go.Pair Go.RowKit
def Lv:List du:=[4,7,8,10,11,12,13,16,17,20,21,25,28,29,31,43,45,52,58,61,62,63,66,67,68,71,72,87,88,89,95,96,97,98,99,105,114,115,117,121,122,123,124,125,126,131,133,134,140,142,144,146,147,148,149,150,151,153,155,156,157,159,160,163,168,169,170,173,174,177,178,179,180,181,182,184,186,189,190,191,194,196,197,198,199,200,201,202,203,204,205,208,209,211,212,213,214,215,216,217,218,219,220,221,222,223,224,226,227,228,229,230,231,232,233,234,235,236,237,238,239,240,241,242,243,245,246,247,248,249,250,252,253,254,255,256,258,259,261]
theorem YJ:(Lv.all fun f=>NU ly Lv f)=s7:=Aa
theorem YO:BL ly (env Lv):=YP fun f hf=>eN.1 YJ f hf
theorem YK:∀f,(Lv.contains f)=s7→∃fn c,prog.funcs[f]? = lp fn∧(fn.name == "runtime.NumGoroutine")=vp∧fn.body=lp c:=fun f hf=>by
 obtain⟨fn,c,h1,h2,h3,_⟩:=YO f (show f∈Lv by simpa using hf)
 exact⟨fn,c,h1,h2,h3⟩
theorem Dp{fn:du}{o:Oper}(h:Oq ly (Lv.contains ·) DC fn o=s7):Sj ly (env Lv) fn o:=OP (S:=(Lv.contains ·)) YK (fun f hf=>by simpa using hf) (fun g e=>by cases e) h
section
variable {J:Loc->Prop} {Bs:Nat->Prop} {Stop:gq->qq->Prop} {u:qq} {X:Nat->Prop} {main:Bool}
structure VW(J:Loc->Prop)(Bs:Nat->Prop)(u:qq):Prop where
 nf:NF u
 rc:∀i,Bs i->Em u i
 ji:LH J Bs
theorem VW.lt(h:VW J Bs u){i:Nat}(hi:Bs i):i<u.heap.size:=by
 rcases h.rc i hi with⟨c,e,fz,h⟩|⟨o,h,_⟩ <;> exact(aF.1 h).1
theorem VW.kx{u':qq}(h:VW J Bs u)(hk:∀i,Bs i->u'.heap[i]? = u.heap[i]?)(hn:NF u'):VW J Bs u':=
 ⟨hn,fun i hi=>by unfold Em;rw [hk i hi];exact h.rc i hi,h.ji⟩
theorem Ks{v u' v':qq}(hn:NF u)(h1:Cq Bs u v)(h2:Kept Bs u u')(h3:Cq Bs u' v')(h4:Ar v v' X):Ar u u' X:=by
 have hn':=h2.nf hn
 refine⟨h2.same.1,h2.tape,h2.same.2,h2.grow,fun k hk hx=>?_⟩
 by_cases hb:Bs k
 ·exact h2.keep k hb
 ·rw [←h3.same hn' hb,←h1.same hn hb]
  exact h4.block k (by rw [h1.size];exact hk) hx
theorem Fc{f:du}(hf:f∈Lv)(W:VW J Bs u){args:Array tj}{R:tj->qq->Prop}(H:∀v,Cq Bs u v->Calls ly f args v fun e w'=>(∃x,e=.returned x/\R x w')/\Ar v w' X) :
  Bz ly main J Stop f args u fun x u'=>Ar u u' X/\VW J Bs u'/\∃v',Cq Bs u' v'/\R x v':=by
 refine Dm (WV (S:=env Lv) YO (show f∈Lv from hf) W.ji W.rc (Bg _ _) (R:=fun e w'=>∃v,Cq Bs u v/\(∃x,e=.returned x/\R x w')/\Ar v w' X) (fun c v h=>?_) (fun v h=>?_) (fun v hs=>(H v hs).mono fun e w' h=>⟨v,hs,h⟩)) ?_
 ·obtain⟨_,_,⟨x,e,_⟩,_⟩:=h;cases e
 ·obtain⟨_,_,⟨x,e,_⟩,_⟩:=h;cases e
 ·rintro x u' ⟨hk,v',hs',v,hs,⟨y,e,hR⟩,hX⟩
  cases e
  exact⟨Ks W.nf hs hk hs' hX,W.kx (fun i hi=>hk.keep i hi) (hk.nf W.nf),v',hs',hR⟩
end
theorem na:(∀l:List tj,l.toArray.size=l.length)/\(∀(a:tj) l,(a :: l).length=l.length+1)/\([]:List tj).length=0/\(∀n (a:tj),yl (n+1) a=(yl n a).push a)/\(∀a:tj,yl 0 a=#[])/\(∀(l:List tj) a,l.toArray.push a=(l ++ [a]).toArray)/\(∀l m:List tj,l.toArray++m.toArray=(l++m).toArray)/\(∀l:List tj,[]++l=l)/\∀(a:tj) l m,a :: l++m=a :: (l++m):=by
 refine⟨?_,?_,?_,?_,?_,?_,?_,?_,?_⟩ <;> intros <;> first|rfl|exact bT|simp
section
variable {P:Program} {main:Bool} {J:Loc->Prop} {Stop:gq->qq->Prop} {fn:du} {Q:Exit->Act->qq->Prop} {a:Act} {w:qq} {ops:Array Oper} {i:Nat} {l:List Nat} {o:Oper}
theorem A5{id:Nat}(h:opsV P main J Stop fn ops l Q a w)(hl:List.range ops.size=l:=by(simp only [aU,aK,aI,Nat.reduceAdd,aM,List.range,List.range.loop];exact rfl)):N5 P main J Stop fn (.region id ops false) Q a w:=EW (hl▸h)
theorem Ao{x:Value}(h:opsV P main J Stop fn ops l Q (a.put o.dst x) w)(ho:ops[i]? = some o:=by exact rfl)(hw:Region.wanted o (yielded ops a.tmps)=true:=by rfl)(hr:∀w,(execOp a.eval o).run P w=.ok (.value x) w:=by(intro wz;first|rfl|(go_simp;done)|(go_simp;rfl)))(he:∀w,(execOp a.eval o).events P w #[]=#[]:=by(intro wz;first|rfl|(go_simp;done)|(go_simp;rfl))):opsV P main J Stop fn ops (i :: l) Q a w:=Iv ho hw hr he h
theorem Ex(x:Value)(h:opsV P main J Stop fn ops l Q (a.put o.dst x) w)(ho:ops[i]? = some o:=by exact rfl)(hw:Region.wanted o (yielded ops a.tmps)=true:=by rfl)(hr:∀w,(execOp a.eval o).run P w=.ok (.value x) w:=by(intro wz;first|rfl|(go_simp;done)|(go_simp;kernel_rfl)|(go_simp;rfl)))(he:∀w,(execOp a.eval o).events P w #[]=#[]:=by(intro wz;first|rfl|(go_simp;done)|(go_simp;rfl))):opsV P main J Stop fn ops (i :: l) Q a w:=Iv ho hw hr he h
theorem Bq{u:World}{x:Value}{p:Addr}(hc:u.cell? p=some x)(hj:¬J (.cell p))(hl:p.block<u.heap.size)(h:opsV Tryz.prog main J Stop fn ops l Q (a.put o.dst x) u)(ho:ops[i]? = some o:=by exact rfl)(hw:Region.wanted o (yielded ops a.tmps)=true:=by rfl)(hT:Sj Tryz.prog (env Lv) fn o:=by exact Dp Aa)(hr:∀d,(u.at d).cell? p=some x->(execOp a.eval o).run Tryz.prog (u.at d)=.ok (.value x) (u.at d):=by(intro dz hcz;walk_nrm;go_simp))(he:(¬J (.cell p)/\p.block<u.heap.size)->∀d,(u.at d).cell? p=some x->∀e∈(execOp a.eval o).events Tryz.prog (u.at d) #[],EvJ J u.heap.size e:=by(intro hjz dz hcz;walk_nrm;intro ez hez;simp [go_sem,hcz] at hez;subst hez;exact hjz)):opsV Tryz.prog main J Stop fn ops (i :: l) Q a u:=Ef ho hw hT (Bg _ _) (fun d=>.inl (hr d hc)) (fun d=>he ⟨hj,hl⟩ d hc) h
theorem E9{u:World}(cs:Array Value)(ty:TypeId)(h:opsV Tryz.prog main J Stop fn ops l Q (a.put o.dst (.pointer (some ⟨u.heap.size,0,none⟩))) (u.alloc (.cells cs ty)))(ho:ops[i]? = some o:=by exact rfl)(hw:Region.wanted o (yielded ops a.tmps)=true:=by rfl)(hT:Sj Tryz.prog (env Lv) fn o:=by exact Dp Aa)(hr:∀d,(execOp a.eval o).run Tryz.prog (u.at d)=.ok (.value (.pointer (some ⟨u.heap.size,0,none⟩))) ((u.alloc (.cells cs ty)).at d):=by(intro dz;walk_nrm;go_simp;first|done|rfl|exact⟨rfl,rfl⟩))(he:∀d,∀e∈(execOp a.eval o).events Tryz.prog (u.at d) #[],EvJ J (u.alloc (.cells cs ty)).heap.size e:=by(intro dz;walk_nrm;intro ez hez;simp [go_sem] at hez)):opsV Tryz.prog main J Stop fn ops (i :: l) Q a u:=Ef ho hw hT (Bg _ _) (fun d=>.inl (hr d)) he h
end
abbrev Bl(n p t v e o:tj):Array tj:=#[n,p,t,v,e,o]
theorem No(l:List UInt8):∀u∈A0 l,u.oneCell'=s7:=fun u hu=>by
 obtain⟨x,_,rfl⟩:=bE.1 hu
 rfl
theorem D8{w w':qq}{base e size n:Nat}{v:tj}{xs:List tj}(h:w.ownsRow base e size v n xs)(hk:∀g,base<=g->g<w.heap.size->w'.heap[g]? = w.heap[g]?):w'.ownsRow base e size v n xs:=by
 obtain⟨h0,h1|⟨g,cap,cur,h1,h2,h3,h4⟩⟩:=h
 ·exact⟨h0,.inl h1⟩
 ·exact⟨h0,.inr ⟨g,cap,cur,h1,h2,by rw [hk g h2 (ltOf h3)];exact h3,h4⟩⟩
theorem Sc(w:qq)(base:Nat)(f:tj)(l:List UInt8)(h0:l≠[])(hf:w.ownsRow base 5 1 f l.length (A0 l))(hl:l.length<=100000) :
  ∃ov w',(Builtin.append_ #[35,35] 35 #[cf od 0 0,f]).run ly w=.ok ov w'/\w'.ownsRow w.heap.size 5 1 ov l.length (A0 l)/\Ar w w' (fun _=>False):=by
 obtain⟨i0,hi0,hz0,hz1,hz2⟩:=info_parts Tryz.info5
 obtain⟨hlen,⟨rfl,hn⟩|⟨g,cap,cur,rfl,hg,hb,hc,hm,hs,ht⟩⟩:=hf
 ·exact absurd (bP.1 hn) h0
 ·have hbl:(A0 l).length=l.length:=by simp [A0]
  have hnews:∀(j:Nat) (u:tj),(A0 l)[j]? = lp u->w.cell? ((⟨g,0,od⟩:Addr).add j)=lp u:=fun j u hu=>by
   have hj:j<l.length:=by have:=(aW.1 hu).1;omega
   have e1:(cur.toList.take (l.length * 1))[j]? = lp u:=by rw [ht];exact hu
   rw [cK Ab,dC] at e1
   have e2:=cellOf (j:=j) hb e1
   rw [Addr.add_lit,aM]
   exact e2
  obtain⟨v',w',hr,h2,h3,h4⟩:=run_append_own (P:=ly) w w.heap.size 35 35 5 i0 _ 1 1 underlying35 hi0 hz0 hz1 hz2 rfl Ad (.slice od 0 0) 0 [] ⟨rfl,.inl ⟨rfl,rfl⟩⟩ ⟨g,0,od⟩ l.length cap (A0 l) (by rw [hbl,eZ]) hnews (No l) (by simp only [maxLen];omega) Ab (aA _)
  rw [aM,aP] at h2
  exact⟨v',w',hr,h2,h3.os,h3.tape,h3.output,h3.size,fun k hk _=>h3.block k hk (by simp [Value.ownBlock])⟩
section
variable {J:Loc->Prop} {Bs:Nat->Prop} {Stop:gq->qq->Prop} {u:qq}
structure Told(u u':qq)(sb:Nat)(n p t v e:tj)(l:List UInt8):Prop where
 kept:Ar u u' (· = sb)
 out:∃ov,u'.heap[sb]? = lp (ye (Bl n p t v e ov) 75)/\u'.ownsRow u.heap.size 5 1 ov l.length (A0 l)
theorem GC(W:VW J Bs u)(sb base:Nat)(f n p t v e:tj)(l:List UInt8)(h0:l≠[])(hl:l.length<=100000)(hb:u.heap[sb]? = lp (ye (Bl n p t v e (cf od 0 0)) 75))(hf:u.ownsRow base 5 1 f l.length (A0 l))(Dx:∀i,Bs i->i<base)(j5:¬J (.cell ⟨sb,5,od⟩)) :
  Bz ly s7 J Stop 55 #[om (lp ⟨sb,0,od⟩),f] u fun x u'=>x=fh #[]/\Told u u' sb n p t v e l/\VW J Bs u':=by
 have Cg:=ltOf hb
 refine Br func55 Ac rfl (R:=fun _=>fh #[]) (fun _ _=>og Ac _ _ _) (fun _ _=>b9 Ac _ _) ?_
 simp only [ntmps55,na,Nat.reduceAdd,Nat.reduceSub]
 refine A5 ?_
 iterate 4(refine Ak ?_)
 refine Bq (cellOf (j:=5) hb rfl) j5 Cg ?_;walk_nrm
 refine Ak ?_
 refine Lz (S:=env Lv) (Bs:=Bs) rfl Ac (Dp Aa) (Bg _ _) W.ji W.rc (R:=fun ov L'=>∃L,Cq Bs u L/\L'.ownsRow u.heap.size 5 1 ov l.length (A0 l)/\Ar L L' (fun _=>False)) (fun L hs=>?_) ?_
 ·obtain⟨ov,w',hr,h1,h2⟩:=Sc L base f l h0 (D8 hf fun g hg hgl=>hs.same W.nf fun hB=>by have:=Dx g hB;omega) hl
  rw [hs.size] at h1
  refine⟨ov,w',.inl ?_,L,hs,h1,h2⟩
  exact M3b
 rintro ov u1 L' hk hs' ⟨L,hs,ho,hX⟩
 have hn1:=hk.nf W.nf
 have H0:Ar u u1 (fun _=>False):=Ks W.nf hs hk hs' hX
 have ho1:u1.ownsRow u.heap.size 5 1 ov l.length (A0 l):=D8 ho fun g hg _=>(hs'.same hn1 fun hB=>by have:=W.lt hB;omega).symm
 have B9:u1.heap[sb]? = lp (ye (Bl n p t v e (cf od 0 0)) 75):=(H0.block sb Cg (fun h=>h)).trans hb
 walk_nrm
 refine Lh6 ?_
 have c5:=Kl (w:=u1) 5 B9
 have f5:=EX (w:=u1) 5 B9
 have hl1:=ltOf B9
 obtain⟨oa,on,oc,rfl⟩:∃a k c,ov=cf a k c:=by
  rcases ho1 with⟨_,⟨rfl,_⟩|⟨g,cap,cur,rfl,_⟩⟩ <;> exact⟨_,_,_,rfl⟩
 refine Ef (S:=env Lv) rfl Ac (Dp Aa) (Bg _ _) (x:=undef) (v':=(u1.setCell ⟨sb,5,od⟩ (cf oa on oc))) (fun dz=>.inr ⟨by have hcz:=(show q7 (World.at u1 dz) _=_ from c5);have hfz:=(show cq (World.at u1 dz) _=vp from f5);walk_nrm;go_simp;first|done|rfl,rfl⟩) (fun dz=>by have hcz:=(show q7 (World.at u1 dz) _=_ from c5);have hfz:=(show cq (World.at u1 dz) _=vp from f5);walk_nrm;intro ez hez;simp [go_sem,hcz,hfz,events_store _ _ _ _ (Value.slice _ _ _) Mode.plain rfl,storedEv] at hez;subst hez;exact⟨j5,by rw [size_setCell];exact hl1⟩) ?_;walk_nrm
 have T9:Bn u1 (u1.setCell ⟨sb,5,od⟩ (cf oa on oc)) sb (Bl n p t v e (cf oa on oc)) 75:=(Bn.refl B9).set 5 _
 refine Au ⟨.inl rfl,rfl,trivial,⟨(H0.mono fun _ h=>h.elim).trans (Ar.of_grown T9.grown (.inl rfl)),_,T9.blk,D8 ho1 fun g hg hgl=>T9.grown.block g hgl (fun h=>by cases h;omega)⟩,NF.setCell hn1 _ _,fun i hi=>?_,W.ji⟩
 by_cases his:i=sb
 ·subst his;exact .inl ⟨_,_,_,T9.blk⟩
 ·have e1:=T9.grown.block i (aB (W.lt hi) H0.size) (fun h=>his Ah)
  unfold Em
  rw [e1,H0.block i (W.lt hi) (fun h=>h)]
  exact W.rc i hi
end
structure Yn(Tabs:qq->Prop)(gN:Nat)(v:qq):Prop where
 size:gN<=v.heap.size
 tabs:Tabs v
 table:Table v
 rq1:v.cell? ⟨0,4,od⟩=lp (pt ⟨#[40,52,52,116,98,41]⟩)
 rq2:v.cell? ⟨0,7,od⟩=lp (pt ⟨#[40,52,52,116,52,41]⟩)
 rq3:v.cell? ⟨0,10,od⟩=lp (pt ⟨#[40,52,52,116,98,52,41]⟩)
 rq5:v.cell? ⟨0,16,od⟩=lp (pt ⟨#[40,52,52,116,63,41]⟩)
 an1:v.cell? ⟨3,1 * 3+1,od⟩=lp (pt ⟨#[40,52,56,52,116,41]⟩)
 an2:v.cell? ⟨3,2 * 3+1,od⟩=lp (pt ⟨#[40,52,56,52,41]⟩)
 an3:v.cell? ⟨3,3 * 3+1,od⟩=lp (pt ⟨#[40,52,56,52,40,56,56,52,52,41,41]⟩)
 an5:v.cell? ⟨3,5 * 3+1,od⟩=lp (pt ⟨#[40,52,56,52,40,56,56,52,52,41,41]⟩)
 ml:∃m,v.cell? ⟨1,0,od⟩=lp (rl tz m)
 t1:∃g,g<gN/\Hn v 1 g [(0,vp,1),(1,s7,4)]
 t2:∃g,g<gN/\Hn v 2 g [(0,vp,2),(1,vp,2),(1,s7,4)]
 t3:∃g,g<gN/\Hn v 3 g [(0,vp,3)]
def EY(Tabs:qq->Prop)(gN:Nat)(u:qq):Prop:=∀v:qq,(∀i,i<gN->v.heap[i]? = u.heap[i]?)->gN<=v.heap.size->Yn Tabs gN v
section
variable {Tabs:qq->Prop} {gN:Nat} {J:Loc->Prop} {Bs:Nat->Prop} {Stop:gq->qq->Prop} {u u' v:qq} {X:Nat->Prop}
structure Cx(Tabs:qq->Prop)(gN:Nat)(J:Loc->Prop)(Bs:Nat->Prop)(u:qq):Prop where
 W:VW J Bs u
 G:EY Tabs gN u
 bs:∀i,Bs i->gN<=i
 sz:gN<=u.heap.size
 g8:8<=gN
theorem Cx.kx(C:Cx Tabs gN J Bs u)(hk:Ar u u' X)(hW:VW J Bs u')(hX:∀i,X i->gN<=i):Cx Tabs gN J Bs u':=
 ⟨hW,fun v hv hs=>C.G v (fun i hi=>(hv i hi).trans (hk.block i (aB hi C.sz) fun hx=>by have:=hX i hx;omega)) hs,C.bs,aE C.sz hk.size,C.g8⟩
theorem Cx.glob(C:Cx Tabs gN J Bs u)(hs:Cq Bs u v):Yn Tabs gN v:=
 C.G v (fun i hi=>hs.same C.W.nf fun hb=>by have:=C.bs i hb;omega) (by rw [hs.size];exact C.sz)
theorem VW.set{w w':qq}{sb:Nat}{cs:Array tj}{ty:s8}(W:VW J Bs w)(T:Bn w w' sb cs ty)(hn:NF w'):VW J Bs w':=by
 refine⟨hn,fun i hi=>?_,W.ji⟩
 by_cases his:i=sb
 ·subst his;exact .inl ⟨_,_,_,T.blk⟩
 ·have e1:=T.grown.block i (W.lt hi) (fun h=>his Ah)
  unfold Em
  rw [e1]
  exact W.rc i hi
theorem VW.alloc{w:qq}(W:VW J Bs w)(cs:Array tj)(ty:s8):VW J Bs (w.alloc (ye cs ty)):=by
 refine⟨NF.push W.nf trivial,fun i hi=>?_,W.ji⟩
 have e1:=Below.heap_alloc w (ye cs ty) i (W.lt hi)
 unfold Em
 rw [e1]
 exact W.rc i hi
theorem B8(w:qq)(cs:Array tj)(ty:s8)(X:Nat->Prop):Ar w (w.alloc (ye cs ty)) X:=Ar.of_below (Bh _ _) (aA _)
theorem Df{w:qq}{b b' e size n:Nat}{x:tj}{xs:List tj}(h:w.ownsRow b e size x n xs)(hb:b'<=b):w.ownsRow b' e size x n xs:=by
 obtain⟨h0,h1|⟨g,cap,cur,h1,h2,h3⟩⟩:=h
 ·exact⟨h0,.inl h1⟩
 ·exact⟨h0,.inr ⟨g,cap,cur,h1,aE hb h2,h3⟩⟩
theorem By{fn:du}{Q:Exit->Act->qq->Prop}{a:Act}{w:qq}{ops:Array Oper}{i:Nat}{l:List Nat}{o:Oper}{f:du}{args:Array Operand}{ats:Array s8}{xs:Array tj}{Cd:tj->qq->Prop}(Gh:Bz ly s7 J Stop f xs w Cd)(ho:ops[i]? = lp o)(hw:br o (iw ops a.tmps)=s7)(Bt:o.op=.call { callee:=.value (.func f),args,argTypes:=ats })(hargs:args.map a.eval=xs)(Bo:∀v w',Cd v w'->opsV ly s7 J Stop fn ops l Q (a.put o.dst v) w'):opsV ly s7 J Stop fn ops (i :: l) Q a w:=
 Q8 ho hw Bt (by rw [hargs];exact Gh) Bo
def KZ(Bs:Nat->Prop)(u:qq)(bv:tj)(l:List UInt8):Prop:=∃b off cap,bv=cf (lp ⟨b,off,od⟩) l.length cap/\l.length<=cap/\b<u.heap.size/\¬Bs b/\Bytes u b off l
theorem Ew{b j:Nat}(h:v.heap[b]? = u.heap[b]?):v.cell? ⟨b,j,od⟩=u.cell? ⟨b,j,od⟩:=by unfold q7;rw [h]
theorem KZ.sim{bv:tj}{l:List UInt8}(h:KZ Bs u bv l)(hn:NF u)(hs:Cq Bs u v):Gz v bv l:=by
 obtain⟨b,off,cap,h1,h2,h3,h4,h5⟩:=h
 exact⟨b,off,cap,h1,h2,by rw [hs.size];exact h3,fun i hi=>(Ew (hs.same hn h4)).trans (h5 i hi)⟩
theorem Ju(W:VW J Bs u){base e size n:Nat}{x:tj}{xs:List tj}(hn:NF u')(hs:Cq Bs u' v)(hb:∀i,Bs i->i<base)(h:v.ownsRow base e size x n xs):u'.ownsRow base e size x n xs:=
 D8 h fun g hg _=>(hs.same hn fun hB=>by have:=hb g hB;omega).symm
end
section
variable {valid:ByteArray->Bool} {Tabs:qq->Prop} {gN:Nat} {J:Loc->Prop} {Bs:Nat->Prop} {Stop:gq->qq->Prop} {u:qq}
theorem Bp{w w':qq}{X:Nat->Prop}(h:Below w.heap.size w w'):Ar w w' X:=Ar.of_below h (aA _)
theorem XX(U:Jk valid Tabs)(C:Cx Tabs gN J Bs u)(sv bv n p t e:tj)(sb:Nat)(hb:u.heap[sb]? = lp (ye (Bl n p t (rl tz 0) e (cf od 0 0)) 75))(hg:gN<=sb)(j3:¬J (.cell ⟨sb,3,od⟩))(j5:¬J (.cell ⟨sb,5,od⟩))(hbv:KZ Bs u bv [0,0,0,1]) :
  Bz ly s7 J Stop 51 #[sv,om (lp ⟨sb,0,od⟩),bv] u fun x u'=>x=fh #[]/\Ar u u' (· = sb)/\VW J Bs u'/\∃ov,u'.heap[sb]? = lp (ye (Bl n p t (rl tz 1) e ov) 75)/\u'.ownsRow u.heap.size 5 1 ov 8 (A0 [0,0,0,4,0,0,0,1]):=by
 have Cg:=ltOf hb
 refine Br func51 Ac rfl (R:=fun _=>fh #[]) (fun _ _=>og Ac _ _ _) (fun _ _=>b9 Ac _ _) ?_
 simp only [ntmps51,na,Nat.reduceAdd,Nat.reduceSub]
 refine Fck ?_
 refine Ak ?_
 refine By (Fc (f:=95) (args:=#[bv]) Ad C.W (X:=fun _=>False) (R:=fun x _=>x=fh #[rl tz 1,.bool s7]) fun v hs=>?_) rfl Ac rfl (by walk_nrm) ?_
 ·have Gv:=C.glob hs
  have hd:AQ valid (.mk lr [t4]) [0,0,0,1]=lp (.mk 0 ⟨#[]⟩ [Orch.num 1]):=AR valid parse_hello (puts_hello valid (n:=1) Ad Ad)
  exact(Vt U v Gv.tabs Gv.table bv [0,0,0,1] Ad (hbv.sim C.W.nf hs) 1 hd).mono fun e w' h=>⟨⟨_,h.1,rfl⟩,Bp h.2⟩
 rintro x u1 ⟨H0,W1,v1,hs1,rfl⟩
 walk_nrm
 iterate 5(refine Ak ?_)
 refine Am ?_
 refine M8j ?_
 refine D9q ?_
 refine Guh ?_
 refine M8j ?_
 refine D9q ?_
 refine Guh ?_
 refine Fck ?_
 iterate 5(refine Ak ?_)
 have B9:u1.heap[sb]? = lp (ye (Bl n p t (rl tz 0) e (cf od 0 0)) 75):=(H0.block sb Cg fun h=>h).trans hb
 refine Ef (S:=env Lv) rfl Ac (Dp Aa) (Bg _ _) (x:=undef) (v':=(u1.setCell ⟨sb,3,od⟩ (rl tz 1))) (fun dz=>.inr ⟨by have hcz:=(show q7 (World.at u1 dz) _=_ from(cellOf (j:=3) B9 rfl));have hfz:=(show cq (World.at u1 dz) _=vp from(Ay (j:=3) B9));walk_nrm;go_simp;first|done|rfl,rfl⟩) (fun dz=>by have hcz:=(show q7 (World.at u1 dz) _=_ from(cellOf (j:=3) B9 rfl));have hfz:=(show cq (World.at u1 dz) _=vp from(Ay (j:=3) B9));walk_nrm;intro ez hez;simp [go_sem,hcz,hfz,events_store _ _ _ _ (Value.slice _ _ _) Mode.plain rfl,storedEv] at hez;subst hez;exact⟨j3,by rw [size_setCell];exact(ltOf B9)⟩) ?_;walk_nrm
 refine Am ?_
 have T2:Bn u1 (u1.setCell ⟨sb,3,od⟩ (rl tz 1)) sb (Bl n p t (rl tz 1) e (cf od 0 0)) 75:=(Bn.refl B9).set 3 _
 have W2:VW J Bs (u1.setCell ⟨sb,3,od⟩ (rl tz 1)):=W1.set T2 (NF.setCell W1.nf _ _)
 generalize u1.setCell ⟨sb,3,od⟩ (rl tz 1)=u2 at T2 W2 ⊢
 have H2:Ar u u2 (· = sb):=(H0.mono fun _ h=>h.elim).trans (Ar.of_grown T2.grown (.inl rfl))
 have C2:=C.kx H2 W2 (fun i h=>by subst h;exact hg)
 refine A5 ?_
 iterate 4(refine Ak ?_)
 refine Bq (cellOf (j:=3) T2.blk rfl) j3 (ltOf T2.blk) ?_;walk_nrm
 refine By (Fc (f:=96) (args:=#[rl tz 1]) Ad W2 (X:=fun _=>False) (R:=fun x w'=>w'.ownsRow u2.heap.size 5 1 x 8 (A0 [0,0,0,4,0,0,0,1])) fun v hs=>?_) rfl Ac rfl (by walk_nrm) ?_
 ·have Gv:=C2.glob hs
  refine(IL U v Gv.tabs Gv.table 1 Ad Ad).mono fun e w' h=>?_
  exact Gne
 rintro f u3 ⟨hk3,W3,v3,hs3,ho3⟩
 walk_nrm
 have hb3:u3.heap[sb]? = lp (ye (Bl n p t (rl tz 1) e (cf od 0 0)) 75):=(hk3.block sb (ltOf T2.blk) fun h=>h).trans T2.blk
 refine By (GC W3 sb u2.heap.size f n p t (rl tz 1) e [0,0,0,4,0,0,0,1] Ad Ad hb3 (Ju W3 W3.nf hs3 (fun i hi=>W2.lt hi) ho3) (fun i hi=>W2.lt hi) j5) rfl Ac rfl (by walk_nrm) ?_
 rintro x u4 ⟨rfl,T4,W4⟩
 walk_nrm
 obtain⟨ov,h1,h2⟩:=T4.out
 have Ia:=(H2.trans (hk3.mono fun _ h=>h.elim)).trans T4.kept
 refine Au ⟨.inl rfl,rfl,trivial,Ia,W4,ov,h1,Df h2 (H2.trans (hk3.mono fun _ h=>h.elim)).size⟩
end
abbrev B0(db tb wm sm:Nat)(last:Int)(down:Bool):Array tj:=#[om (lp ⟨db,0,od⟩),om (lp ⟨tb,0,od⟩),.map (lp wm),.map (lp sm),rl tz last,.bool down]
def F2(rb:Nat)(rc:Array tj)(rt:s8)(svb:Nat)(vc:Array tj)(w:qq):Prop:=w.heap[rb]? = lp (ye rc rt)/\w.heap[svb]? = lp (ye vc 84)
theorem F2.at{rb:Nat}{rc:Array tj}{rt:s8}{svb:Nat}{vc:Array tj}(w:qq)(d:Nat)(h:F2 rb rc rt svb vc w):F2 rb rc rt svb vc (w.at d):=h
section
variable {J:Loc->Prop} {ops:Array Oper} {I:qq->Prop} {oi:Oper} {x:tj} {a:Act}
theorem Yf(hw:br oi (iw ops a.tmps)=s7)(hr:∀w,(execOp a.eval oi).run ly w=.ok (.value x) w)(he:∀w,(execOp a.eval oi).events ly w #[]=#[]):YV ly J ops I oi x a:=
 ⟨fun h=>absurd (hw.symm.trans h) Ae,fun _ w _=>AG hr he⟩
theorem Ge{S:Env}{fn:du}(hw:br oi (iw ops a.tmps)=s7)(hT:Sj ly S fn oi)(Ga:S.reg fn a.tmps)(h:∀w,I w->Go.Pair.Yields ly (execOp a.eval oi) w x w/\∀e∈(execOp a.eval oi).events ly w #[],EvJ J w.heap.size e):YV ly J ops I oi x a:=by
 refine⟨fun h=>absurd (hw.symm.trans h) Ae,fun _ w hI=>?_⟩
 have hT':Ev ly (Ta ly S) (execOp a.eval oi) (fun _=>False):=by
  exact Sj6
 exact DZ hT' (h w hI).1 (h w hI).2
end
theorem Cb{J:Loc->Prop}{Stop:gq->qq->Prop}{ops:Array Oper}{I:qq->Prop}{a:Act}{w:qq}{md:Region.Mode}{Q:Exit->Act->qq->Prop}{i fuel:Nat}{done:Array Bool}{f:du}{args:Array Operand}{ats:Array s8}{xs:Array tj}{o:Oper}{Post:tj->qq->Prop}(Gh:Bz ly s7 J Stop f xs w Post)(hr:ef md ops done = [i])(ho:ops[i]? = lp o)(hw:br o (iw ops a.tmps)=s7)(Bt:o.op=.call { callee:=.value (.func f),args,argTypes:=ats })(hargs:args.map a.eval=xs)(Bo:∀x w',Post x w'->I w'/\A6 ly s7 J Stop md ops Q I fuel (done.setIfInBounds i s7) (a.put o.dst x) w'):A6 ly s7 J Stop md ops Q I (fuel+1) done a w:=
 A6.only hr (.call o f args ats Post ho hw Bt (by rw [hargs];exact Gh) Bo)
theorem A6.tp{J:Loc->Prop}{Stop:Goroutine->World->Prop}{ops:Array Oper}{I:World->Prop}{a:Act}{w:World}{md:Region.Mode}{Q:Exit->Act->World->Prop}{fuel:Nat}{done:Array Bool}{oi:Oper}{x:Value}{main:Bool}(i:Nat)(hI:∀w d,I w->I (w.at d))(hQ:∀a w d,Q .normal a w->Q .normal a (w.at d))(hS:I w)(h:A6 Tryz.prog main J Stop md ops Q I fuel (done.setIfInBounds i true) (a.put oi.dst x) w)(hi:ops[i]? = some oi:=by exact rfl)(hs:Region.noSelect ops=true:=by kernel_rfl)(hf:Region.free md ops done i=true:=by kernel_rfl)(hr:(Region.ready md ops done).contains i=true:=by kernel_rfl)(hw:Region.wanted oi (yielded ops a.tmps)=true:=by rfl)(hx:∀w,(execOp a.eval oi).run Tryz.prog w=.ok (.value x) w:=by(intro wz;first|rfl|(go_simp;done)|(go_simp;rfl)))(he:∀w,(execOp a.eval oi).events Tryz.prog w #[]=#[]:=by(intro wz;first|rfl|(go_simp;done)|(go_simp;rfl))):A6 Tryz.prog main J Stop md ops Q I (fuel+1) done a w:=A6.take hI hQ hi hs hf hr (Yf hw hx he) hS h
theorem A6.tl{J:Loc->Prop}{Stop:Goroutine->World->Prop}{ops:Array Oper}{I:World->Prop}{a:Act}{w:World}{md:Region.Mode}{Q:Exit->Act->World->Prop}{fuel:Nat}{done:Array Bool}{oi:Oper}{main:Bool}{x:Value}{p:Addr}(i:Nat)(hI:∀w d,I w->I (w.at d))(hQ:∀a w d,Q .normal a w->Q .normal a (w.at d))(hS:I w)(hc:∀w,I w->w.cell? p=some x)(hj:¬J (.cell p))(hl:∀w,I w->p.block<w.heap.size)(h:A6 Tryz.prog main J Stop md ops Q I fuel (done.setIfInBounds i true) (a.put oi.dst x) w)(hi:ops[i]? = some oi:=by exact rfl)(hs:Region.noSelect ops=true:=by kernel_rfl)(hf:Region.free md ops done i=true:=by kernel_rfl)(hr:(Region.ready md ops done).contains i=true:=by kernel_rfl)(hw:Region.wanted oi (yielded ops a.tmps)=true:=by rfl)(hT:Sj Tryz.prog (env Lv) 0 oi:=by exact Dp Aa)(hx:∀w,w.cell? p=some x->(execOp a.eval oi).run Tryz.prog w=.ok (.value x) w:=by(intro wz hcz;walk_nrm;go_simp))(he:∀w,w.cell? p=some x->(¬J (.cell p)/\p.block<w.heap.size)->∀e∈(execOp a.eval oi).events Tryz.prog w #[],EvJ J w.heap.size e:=by(intro wz hcz hjz;walk_nrm;intro ez hez;simp [go_sem,hcz] at hez;subst hez;exact hjz)):A6 Tryz.prog main J Stop md ops Q I (fuel+1) done a w:=
 A6.take hI hQ hi hs hf hr (Ge (S:=env Lv) hw hT (Bg _ _) fun w hw=>⟨.inl (hx w (hc w hw)),he w (hc w hw) ⟨hj,hl w hw⟩⟩) hS h
section
variable {valid:ByteArray->Bool} {Tabs:qq->Prop} {gN:Nat} {J:Loc->Prop} {Bs:Nat->Prop} {Stop:gq->qq->Prop} {u:qq}
def NH(m z e:Int):List UInt8:=be (be m 4++be z 8++be e 4).length 4++(be m 4++be z 8++be e 4)
theorem Tu(m z e:Int):(NH m z e).length=20:=by simp [NH,be_length]
theorem Ca.sim{L:qq}{tb mb:Nat}{num:Int}{ns:List (ByteArray×Nd)}(h:Ca u tb mb num ns)(hn:NF u)(hs:Cq Bs u L)(h1:¬Bs tb)(h2:¬Bs mb):Ca L tb mb num ns:=⟨(hs.same hn h1).trans h.blk,h.map.of_block (hs.same hn h2)⟩
theorem Ca.kx{u':qq}{X:Nat->Prop}{tb mb:Nat}{num:Int}{ns:List (ByteArray×Nd)}(h:Ca u tb mb num ns)(hk:Ar u u' X)(h1:¬X tb)(h2:¬X mb):Ca u' tb mb num ns:=⟨(hk.block _ (ltOf h.blk) h1).trans h.blk,h.map.of_block (hk.block _ h.map.lt h2)⟩
theorem Ca.at{tb mb:Nat}{num:Int}{ns:List (ByteArray×Nd)}(h:Ca u tb mb num ns)(d:Nat):Ca (u.at d) tb mb num ns:=⟨h.blk,h.map.of_block rfl⟩
theorem Ar.get{w w':qq}{X:Nat->Prop}(h:Ar w w' X){b:Nat}{o:Obj}(hb:w.heap[b]? = lp o)(hx:¬X b):w'.heap[b]? = lp o:=(h.block b (ltOf hb) hx).trans hb
theorem Ar.at{w w':qq}{X:Nat->Prop}(h:Ar w w' X)(d:Nat):Ar w (w'.at d) X:=⟨h.os,h.tape,h.output,h.size,h.block⟩
theorem VW.at(h:VW J Bs u)(d:Nat):VW J Bs (u.at d):=⟨h.nf,h.rc,h.ji⟩
theorem Told.at{u':qq}{sb:Nat}{n p t v e:tj}{l:List UInt8}(h:Told u u' sb n p t v e l)(d:Nat):Told u (u'.at d) sb n p t v e l:=⟨h.kept.at d,h.out⟩
theorem Told.from{u0 u':qq}{sb:Nat}{n p t v e:tj}{l:List UInt8}(h:Told u u' sb n p t v e l)(hk:Ar u0 u (fun _=>False)):Told u0 u' sb n p t v e l:=by
 obtain⟨ov,h1,h2⟩:=h.out
 exact⟨(hk.mono fun _ h=>h.elim).trans h.kept,ov,h1,Df h2 hk.size⟩
theorem FZ(U:Jk valid Tabs)(C:Cx Tabs gN J Bs u)(n p t v e:tj)(sb svb db tb mb wm sm:Nat)(last:Int)(down:Bool)(num:Int)(ns:List (ByteArray×Nd))(hb:u.heap[sb]? = lp (ye (Bl n p t v e (cf od 0 0)) 75))(hg:gN<=sb)(j5:¬J (.cell ⟨sb,5,od⟩))(hv:u.heap[svb]? = lp (ye (B0 db tb wm sm last down) 84))(nv:¬Bs svb)(hsv:svb≠sb)(ht:Ca u tb mb num ns)(nt:¬Bs tb)(nm:¬Bs mb)(kind m:Int)(pa d nt':ByteArray)(ver:Int)(wt:Bool)(en:Int)(hm1:-2147483648<=m)(hm2:m<=2147483647)(hz1:-9223372036854775808<=num)(hz2:num<=9223372036854775807)(he1:-2147483648<=en)(he2:en<=2147483647) :
  Bz ly s7 J Stop 143 #[om (lp ⟨svb,0,od⟩),om (lp ⟨sb,0,od⟩),Mv kind m pa d nt' ver wt,rl tz en] u fun x u'=>x=fh #[]/\(∃l:List UInt8,20<=l.length/\Told u u' sb n p t v e l)/\VW J Bs u':=by
 have Cg:=ltOf hb
 refine Br func143 Ac rfl (R:=fun _=>fh #[]) (fun _ _=>og Ac _ _ _) (fun _ _=>b9 Ac _ _) ?_
 simp only [ntmps143,na,Nat.reduceAdd,Nat.reduceSub]
 refine Rq5 ?_;intro u1 H0 W1 F7
 have hv1:u1.heap[svb]? = lp (ye (B0 db tb wm sm last down) 84):=(H0.block _ (ltOf hv) fun h=>h).trans hv
 have ht1:Ca u1 tb mb num ns:=⟨(H0.block _ (ltOf ht.blk) fun h=>h).trans ht.blk,ht.map.of_block (H0.block _ ht.map.lt fun h=>h)⟩
 have B9:u1.heap[sb]? = lp (ye (Bl n p t v e (cf od 0 0)) 75):=(H0.block sb Cg fun h=>h).trans hb
 have nr:¬Bs u.heap.size:=fun h=>by have:=C.W.lt h;omega
 have hI:=F2.at (rb:=u.heap.size) (rc:=Bb kind m pa d nt' ver wt) (rt:=119) (svb:=svb) (vc:=B0 db tb wm sm last down)
 refine Ei (I:=F2 u.heap.size (Bb kind m pa d nt' ver wt) 119 svb (B0 db tb wm sm last down)) Ac fun d0=>?_
 have hQ:∀(a:Act) (w:qq) (d:Nat),((kr=kr∨kr=ue)/\a.defers = []/\True/\(∃l:List UInt8,20<=l.length/\Told u w sb n p t v e l)/\VW J Bs w)->((kr=kr∨kr=ue)/\a.defers = []/\True/\(∃l:List UInt8,20<=l.length/\Told u (w.at d) sb n p t v e l)/\VW J Bs (w.at d)):=fun a w d ⟨h1,h2,h3,⟨l,h4,h5⟩,h6⟩=>⟨h1,h2,h3,⟨l,h4,h5.at d⟩,h6.at d⟩
 have hS:F2 u.heap.size (Bb kind m pa d nt' ver wt) 119 svb (B0 db tb wm sm last down) (u1.at d0):=⟨F7,hv1⟩
 refine A6.tp 0 hI hQ hS ?_;walk_nrm
 refine A6.tp 2 hI hQ hS ?_;walk_nrm
 refine A6.tp 3 hI hQ hS ?_;walk_nrm
 refine A6.tp 4 hI hQ hS ?_;walk_nrm
 refine A6.tp 7 hI hQ hS ?_;walk_nrm
 refine A6.tl 5 hI hQ hS (fun w (hw:F2 _ _ _ _ _ w)=>(cellOf (j:=1) hw.2 rfl:w.cell? ⟨svb,1,od⟩=lp (om (lp ⟨tb,0,od⟩)))) (fun h=>nv (C.W.ji.cell _ h)) (fun w (hw:F2 _ _ _ _ _ w)=>ltOf hw.2) ?_;walk_nrm
 refine A6.take (i:=1) (x:=(Mv kind m pa d nt' ver wt)) hI hQ rfl Aa Aa Aa (Ge (S:=env Lv) Ac (Dp (fn:=0) Aa) (Bg _ _) ?_) hS ?_
 ·intro w hw
  obtain⟨c0,c1,c2,c3,c4,c5,c6⟩:=LD (w:=w) 0 1 2 3 4 5 6 hw.1
  refine⟨.inl ?_,?_⟩
  ·walk_nrm
   go_simp
  ·walk_nrm
   intro e he
   simp [go_sem,c0,c1,c2,c3,c4,c5,c6] at he
   rcases he with rfl|rfl|rfl|rfl|rfl|rfl|rfl <;> exact⟨fun h=>nr (C.W.ji.cell _ h),ltOf hw.1⟩
 walk_nrm
 have W1':=W1.at d0
 refine Cb (i:=6) (Fc (f:=31) (args:=#[om (lp ⟨tb,0,od⟩)]) Ad W1' (X:=fun _=>False) (R:=fun x _=>x=rl tz num) fun L hs=>?_) Aa rfl Ac rfl (by walk_nrm) ?_
 ·exact Ccr
 rintro x u2 ⟨H2,W2,L2,hs2,rfl⟩
 have hk12:Ar u u2 (fun _=>False):=(H0.at d0).trans H2
 have C2:=C.kx hk12 W2 (fun _ h=>h.elim)
 refine⟨⟨H2.get F7 id,H2.get hv1 id⟩,?_⟩
 walk_nrm
 refine Cb (i:=8) (Fc (f:=173) (args:=#[Mv kind m pa d nt' ver wt,rl tz num,rl tz en]) Ad W2 (X:=fun _=>False) (R:=fun x w'=>w'.ownsRow u2.heap.size 5 1 x (NH m num en).length (A0 (NH m num en))) fun L hs=>?_) Aa rfl Ac rfl (by walk_nrm) ?_
 ·have Gv:=C2.glob hs
  refine(IG U L Gv.tabs Gv.table kind m pa d nt' ver wt num en hm1 hm2 hz1 hz2 he1 he2).mono fun e w' h=>?_
  exact Gne
 rintro f u3 ⟨hk3,W3,L3,hs3,ho3⟩
 have Ft:Ar u u3 (fun _=>False):=hk12.trans hk3
 refine⟨⟨hk3.get (H2.get F7 id) id,hk3.get (H2.get hv1 id) id⟩,?_⟩
 walk_nrm
 have hb3:u3.heap[sb]? = lp (ye (Bl n p t v e (cf od 0 0)) 75):=(Ft.block sb Cg fun h=>h).trans hb
 refine Cb (i:=9) (GC W3 sb u2.heap.size f n p t v e (NH m num en) (by intro h;have:=Tu m num en;rw [h] at this;simp at this) (by rw [Tu];omega) hb3 (Ju W3 W3.nf hs3 (fun i hi=>W2.lt hi) ho3) (fun i hi=>W2.lt hi) j5) Aa rfl Ac rfl (by walk_nrm) ?_
 rintro x u4 ⟨rfl,T4,W4⟩
 have hk34:=T4.kept
 refine⟨⟨hk34.get (hk3.get (H2.get F7 id) id) Ab,hk34.get (hk3.get (H2.get hv1 id) id) hsv⟩,?_⟩
 walk_nrm
 exact A6.all Aa ⟨.inl rfl,rfl,trivial,⟨_,by rw [Tu];omega,T4.from Ft⟩,W4⟩ _
def RD(rb:Nat)(rc:Array tj)(rt:s8)(svb:Nat)(vc:Array tj)(sb:Nat)(w:qq):Prop:=F2 rb rc rt svb vc w/\w.cell? ⟨sb,3,od⟩=lp (rl tz 1)/\sb<w.heap.size
theorem RD.at{rb:Nat}{rc:Array tj}{rt:s8}{svb:Nat}{vc:Array tj}{sb:Nat}(w:qq)(d:Nat)(h:RD rb rc rt svb vc sb w):RD rb rc rt svb vc sb (w.at d):=h
abbrev RU(Bs:Nat->Prop)(u:qq)(l:List V)(lv:tj):Prop:=Er u (fun b=>b<u.heap.size/\¬Bs b) l lv
theorem RU.sim{L:qq}{l:List V}{lv:tj}(h:RU Bs u l lv)(hn:NF u)(hs:Cq Bs u L):Er L (fun b=>b<L.heap.size) l lv:=
 Er.congr (fun b hb=>by rw [hs.size];exact hb.1) (fun b hb=>hs.same hn hb.2) h
theorem RU.kx{u':qq}{X:Nat->Prop}{l:List V}{lv:tj}(h:RU Bs u l lv)(hk:Ar u u' X)(hX:∀b,X b->b<u.heap.size->Bs b):RU Bs u' l lv:=
 Er.congr (fun b hb=>⟨aB hb.1 hk.size,hb.2⟩) (fun b hb=>hk.block b hb.1 fun hx=>hb.2 (hX b hx hb.1)) h
theorem Yb{L:qq}(W:VW J Bs u)(hs:Cq Bs u L){l:List V}{lv:tj}(h:Er L (fun b=>b<L.heap.size) l lv):RU Bs u l lv:=by
 induction h with
 | nil a c=>exact .nil a c
 | row ps g cap h0 Ea hS hc hr ih=>
  have hg:¬Bs g:=fun hb=>by
   obtain⟨x,hx⟩:∃x,(ps.flatMap Fe)[0]? = lp x:=by
    cases ps with
    | nil=>exact absurd rfl h0
    | cons q qs=>exact⟨_,rfl⟩
   have h1:=hc 0 x hx
   rcases hs.like g with⟨hn,_⟩|⟨_,c,e,fz,_,hv⟩|⟨hn,_⟩|⟨_,_,hv⟩
   ·exact hn hb
   ·simp [q7,hv] at h1
   ·exact hn hb
   ·simp [q7,hv,dead] at h1
  exact .row ps g cap h0 Ea ⟨by rw [←hs.size];exact hS,hg⟩ (fun j x hx=>(Ew (hs.same W.nf hg)).symm.trans (hc j x hx)) ih
theorem Sl(U:Jk valid Tabs)(C:Cx Tabs gN J Bs u)(n p t e:tj)(sb svb db tb mb wm sm:Nat)(last:Int)(down:Bool)(num:Int)(ns:List (ByteArray×Nd))(hb:u.heap[sb]? = lp (ye (Bl n p t (rl tz 1) e (cf od 0 0)) 75))(hg:gN<=sb)(j3:¬J (.cell ⟨sb,3,od⟩))(j5:¬J (.cell ⟨sb,5,od⟩))(hv:u.heap[svb]? = lp (ye (B0 db tb wm sm last down) 84))(nv:¬Bs svb)(hsv:svb≠sb)(ht:Ca u tb mb num ns)(nt:¬Bs tb)(nm:¬Bs mb)(kind:Nat)(hk8:kind<8)(m:Int)(pa d nt':ByteArray)(ver:Int)(wt:Bool)(sch:ByteArray)(hsch:∀L,Yn Tabs gN L->L.cell? ⟨3,kind * 3+1,od⟩=lp (pt sch))(l:List V)(lv:tj)(hl0:l = []->lv=cf od 0 0)(hl9:l.length<=100)(hvs:RU Bs u l lv)(ty:Ty)(hp:parse sch.data.toList=lp ty)(body:List UInt8)(hq:put valid 9 [] ty (.mk 0 ⟨#[]⟩ ([Orch.num m,Orch.num num,Orch.num 0]++l))=lp body)(h16:16<=body.length)(hbl:body.length<=1000) :
  Bz ly s7 J Stop 102 #[om (lp ⟨svb,0,od⟩),om (lp ⟨sb,0,od⟩),Mv kind m pa d nt' ver wt,lv] u fun x u'=>x=fh #[]/\(∃l:List UInt8,20<=l.length/\Told u u' sb n p t (rl tz 1) e l)/\VW J Bs u':=by
 have Cg:=ltOf hb
 refine Br func102 Ac rfl (R:=fun _=>fh #[]) (fun _ _=>og Ac _ _ _) (fun _ _=>b9 Ac _ _) ?_
 simp only [ntmps102,na,Nat.reduceAdd,Nat.reduceSub]
 refine Rq5 ?_;intro u1 H0 W1 F7
 have hv1:=H0.get hv id
 have ht1:=ht.kx H0 id id
 have B9:=H0.get hb id
 have nr:¬Bs u.heap.size:=fun h=>by have:=C.W.lt h;omega
 have hI:=RD.at (rb:=u.heap.size) (rc:=Bb kind m pa d nt' ver wt) (rt:=119) (svb:=svb) (vc:=B0 db tb wm sm last down) (sb:=sb)
 refine Ei (I:=RD u.heap.size (Bb kind m pa d nt' ver wt) 119 svb (B0 db tb wm sm last down) sb) Ac fun d0=>?_
 have hQ:∀(a:Act) (w:qq) (d:Nat),((kr=kr∨kr=ue)/\a.defers = []/\True/\(∃l:List UInt8,20<=l.length/\Told u w sb n p t (rl tz 1) e l)/\VW J Bs w)->((kr=kr∨kr=ue)/\a.defers = []/\True/\(∃l:List UInt8,20<=l.length/\Told u (w.at d) sb n p t (rl tz 1) e l)/\VW J Bs (w.at d)):=fun a w d ⟨h1,h2,h3,⟨l,h4,h5⟩,h6⟩=>⟨h1,h2,h3,⟨l,h4,h5.at d⟩,h6.at d⟩
 have hS:RD u.heap.size (Bb kind m pa d nt' ver wt) 119 svb (B0 db tb wm sm last down) sb (u1.at d0):=⟨⟨F7,hv1⟩,cellOf (j:=3) B9 rfl,ltOf B9⟩
 refine Nds ?_
 refine A6.tp 3 hI hQ hS ?_;walk_nrm
 refine A6.tp 6 hI hQ hS ?_;walk_nrm
 refine A6.tp 7 hI hQ hS ?_;walk_nrm
 refine A6.tp 8 hI hQ hS ?_;walk_nrm
 refine A6.tp 11 hI hQ hS ?_;walk_nrm
 refine A6.tl 4 hI hQ hS (fun w (hw:RD _ _ _ _ _ _ w)=>(hw.2.1:w.cell? ⟨sb,3,od⟩=lp (rl tz 1))) j3 (fun w (hw:RD _ _ _ _ _ _ w)=>hw.2.2) ?_;walk_nrm
 refine A6.tl 9 hI hQ hS (fun w (hw:RD _ _ _ _ _ _ w)=>(cellOf (j:=1) hw.1.2 rfl:w.cell? ⟨svb,1,od⟩=lp (om (lp ⟨tb,0,od⟩)))) (fun h=>nv (C.W.ji.cell _ h)) (fun w (hw:RD _ _ _ _ _ _ w)=>ltOf hw.1.2) ?_;walk_nrm
 refine A6.take (i:=5) (x:=(Mv kind m pa d nt' ver wt)) hI hQ rfl Aa Aa Aa (Ge (S:=env Lv) Ac (Dp (fn:=0) Aa) (Bg _ _) ?_) hS ?_
 ·intro w hw
  obtain⟨c0,c1,c2,c3,c4,c5,c6⟩:=LD (w:=w) 0 1 2 3 4 5 6 hw.1.1
  refine⟨.inl ?_,?_⟩
  ·walk_nrm
   go_simp
  ·walk_nrm
   intro e he
   simp [go_sem,c0,c1,c2,c3,c4,c5,c6] at he
   rcases he with rfl|rfl|rfl|rfl|rfl|rfl|rfl <;> exact⟨fun h=>nr (C.W.ji.cell _ h),ltOf hw.1.1⟩
 walk_nrm
 have W1':=W1.at d0
 refine Cb (i:=10) (Fc (f:=31) (args:=#[om (lp ⟨tb,0,od⟩)]) Ad W1' (X:=fun _=>False) (R:=fun x _=>x=rl tz num) fun L hs=>?_) Aa rfl Ac rfl (by walk_nrm) ?_
 ·exact Ccr
 rintro x u2 ⟨H2,W2,L2,hs2,rfl⟩
 have hk12:Ar u u2 (fun _=>False):=(H0.at d0).trans H2
 have C2:=C.kx hk12 W2 (fun _ h=>h.elim)
 have Fs:=hk12.get hb id
 refine⟨⟨⟨H2.get F7 id,H2.get hv1 id⟩,cellOf (j:=3) Fs rfl,ltOf Fs⟩,?_⟩
 walk_nrm
 refine Cb (i:=12) (Fc (f:=155) (args:=#[rl tz 1,Mv kind m pa d nt' ver wt,rl tz num,lv]) Ad W2 (X:=fun _=>False) (R:=fun x w'=>w'.ownsRow u2.heap.size 5 1 x (be body.length 4++body).length (A0 (be body.length 4++body))) fun L hs=>?_) Aa rfl Ac rfl (by walk_nrm) ?_
 ·have Gv:=C2.glob hs
  refine(BQ U L Gv.tabs Gv.table kind hk8 m pa d nt' ver wt num sch (hsch L Gv) (by have:=Gv.size;have:=C.g8;omega) l lv hl0 hl9 ((hvs.kx hk12 fun _ h=>h.elim).sim W2.nf hs) ty hp body hq Ab hbl).mono fun e w' h=>?_
  exact Gne
 rintro f u3 ⟨hk3,W3,L3,hs3,ho3⟩
 have Ft:Ar u u3 (fun _=>False):=hk12.trans hk3
 have hb3:=Ft.get hb id
 refine⟨⟨⟨hk3.get (H2.get F7 id) id,hk3.get (H2.get hv1 id) id⟩,cellOf (j:=3) hb3 rfl,ltOf hb3⟩,?_⟩
 walk_nrm
 have hlen:(be body.length 4++body).length=4+body.length:=by rw [aH,be_length]
 refine Cb (i:=13) (GC W3 sb u2.heap.size f n p t (rl tz 1) e (be body.length 4++body) (by intro h;rw [h] at hlen;simp at hlen;omega) Ab hb3 (Ju W3 W3.nf hs3 (fun i hi=>W2.lt hi) ho3) (fun i hi=>W2.lt hi) j5) Aa rfl Ac rfl (by walk_nrm) ?_
 rintro x u4 ⟨rfl,T4,W4⟩
 have hk34:=T4.kept
 obtain⟨ov4,ho4,_⟩:=T4.out
 refine⟨⟨⟨hk34.get (hk3.get (H2.get F7 id) id) Ab,hk34.get (hk3.get (H2.get hv1 id) id) hsv⟩,cellOf (j:=3) ho4 rfl,ltOf ho4⟩,?_⟩
 walk_nrm
 exact A6.all Aa ⟨.inl rfl,rfl,trivial,⟨_,Ab,T4.from Ft⟩,W4⟩ _
end
section
variable {J:Loc->Prop} {Stop:gq->qq->Prop} {ops:Array Oper} {I:qq->Prop} {a:Act} {w v':qq} {md:Region.Mode} {Q:Exit->Act->qq->Prop} {i j fuel:Nat} {done:Array Bool} {o:Oper} {x:tj} {S:Env} {fn:du}
theorem Pp(hI:∀w d,I w->I (w.at d))(hQ:∀a w d,Q .normal a w->Q .normal a (w.at d))(ho:ops[i]? = lp o)(hw:br o (iw ops a.tmps)=s7)(hT:Sj ly S fn o)(Ga:S.reg fn a.tmps)(hr:∀d,Go.Pair.Yields ly (execOp a.eval o) (w.at d) x (v'.at d))(he:∀d,∀e∈(execOp a.eval o).events ly (w.at d) #[],EvJ J v'.heap.size e)(hS:I v')(h:A6 ly s7 J Stop md ops Q I fuel (done.setIfInBounds i s7) (a.put o.dst x) v'):V0 ly s7 J Stop ops i (fun a' w'=>I w'/\A6 ly s7 J Stop md ops Q I fuel (done.setIfInBounds i s7) a' w') a w:=by
 refine Bnc ?_;intro hT'
 exact .op o ho hw fun d=>⟨x,v'.at d,DZ hT' (hr d) (he d),hI _ d hS,A6.at hI hQ _ _ _ _ d h⟩
theorem Jl(hI:∀w d,I w->I (w.at d))(hQ:∀a w d,Q .normal a w->Q .normal a (w.at d))(hrd:ef md ops done = [i])(ho:ops[i]? = lp o)(hw:br o (iw ops a.tmps)=s7)(hT:Sj ly S fn o)(Ga:S.reg fn a.tmps)(hr:∀d,Go.Pair.Yields ly (execOp a.eval o) (w.at d) x (v'.at d))(he:∀d,∀e∈(execOp a.eval o).events ly (w.at d) #[],EvJ J v'.heap.size e)(hS:I v')(h:A6 ly s7 J Stop md ops Q I fuel (done.setIfInBounds i s7) (a.put o.dst x) v'):A6 ly s7 J Stop md ops Q I (fuel+1) done a w:=
 A6.only hrd (Pp hI hQ ho hw hT Ga hr he hS h)
theorem Te(hrd:ef md ops done = [i,j])(hi:V0 ly s7 J Stop ops i (fun a' w'=>I w'/\A6 ly s7 J Stop md ops Q I fuel (done.setIfInBounds i s7) a' w') a w)(hj:V0 ly s7 J Stop ops j (fun a' w'=>I w'/\A6 ly s7 J Stop md ops Q I fuel (done.setIfInBounds j s7) a' w') a w):A6 ly s7 J Stop md ops Q I (fuel+1) done a w:=by
 refine⟨fun h=>(by rw [hrd] at h;cases h),fun k hk=>?_⟩
 rw [hrd] at hk
 simp at hk
 rcases hk with rfl|rfl
 ·exact hi
 ·exact hj
theorem Z1{f:du}{args:Array Operand}{ats:Array s8}{xs:Array tj}{Post:tj->qq->Prop}{K:Act->qq->Prop}(Gh:Bz ly s7 J Stop f xs w Post)(ho:ops[i]? = lp o)(hw:br o (iw ops a.tmps)=s7)(Bt:o.op=.call { callee:=.value (.func f),args,argTypes:=ats })(hargs:args.map a.eval=xs)(Bo:∀x w',Post x w'->K (a.put o.dst x) w'):V0 ly s7 J Stop ops i K a w:=
 .call o f args ats Post ho hw Bt (by rw [hargs];exact Gh) Bo
end
section
variable {J:Loc->Prop} {Bs:Nat->Prop} {u:qq}
def Jg(w:qq)(nb:Nat)(x:Nd):qq:=(((((w.setCell ⟨nb,0,od⟩ (pt x.path)).setCell ⟨nb,1,od⟩ (pt x.data)).setCell ⟨nb,2,od⟩ (pt x.note)).setCell ⟨nb,3,od⟩ (rl tz x.made)).setCell ⟨nb,4,od⟩ (rl tz x.changed)).setCell ⟨nb,5,od⟩ (rl tz x.version)
theorem Kv{w:qq}{nb:Nat}{y:Nd}(h:w.heap[nb]? = lp (ye y.cs 96))(x:Nd):Bn w (Jg w nb x) nb x.cs 96:=
 ((((((Bn.refl h).set 0 (pt x.path)).set 1 (pt x.data)).set 2 (pt x.note)).set 3 (rl tz x.made)).set 4 (rl tz x.changed)).set 5 (rl tz x.version)
end
end Go.Proofs.YtjoblhlkfmeckaaGreatDoor
