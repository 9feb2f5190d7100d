import Derived.Test.YtcbilgmfdgpomaaGreatDoorQ09
import Derived.Test.YtcbilgmfdgpomaaGreatDoorQ08
set_option linter.all false
noncomputable section
open Array renaming size → iS
set_option maxHeartbeats 4000000
set_option maxRecDepth 8000
open Option renaming some → ni,none → su,toList_some → ke4,toList_none → uh
open Go.Proofs.Tryz renaming prog → qz,underlying92 → ng8
open Go renaming undef → uw,Value → w8,World → qg,heap_alloc_new → sx,Goroutine → o5,Frame → zq,TypeId → mi,Oper → km,results_tmp → we,FuncId → pz,events_store → nk,Value → E
open Bool renaming false → o9,true → tu
open List.range renaming loop → kh
open List renaming range → jk,getElem?_toArray → tdr,length → iR
open Go.Act renaming eval → hv6
open Go.Value renaming ownBlock → yf,slice → um,int → pq,string → x7,pointer → w9,bool → vp,tuple → my,agg → h9
open Go.Conc renaming events_results_tmp → xrg
open Prod renaming fst → wv
open Go.World renaming cell? → sw
open Go.Region renaming wanted → yg
open Go.Sem renaming run_bind → uln
open Go.Exit renaming normal → cxv
open Go.Mode renaming plain → uwj
open Go.Goroutine renaming callers → xmf
open Go.Deferred renaming ofValue → uj
open Go.Obj renaming cells → jf
open Go.IntKind renaming i64 → yi
open Or renaming inl → p8,inr → n9
open Go.Pair renaming sh → Q
open Go.Proofs.Tryz Orch
variable {B O u v w:qg}{Bs X c:hY}{C I K L M N U Z co e g gr i j k l n sm svb x y z:Nat}{F R ss:List (Int×Nat)}{H a o:E}{W:hQ}{b:mi}{cs:List zq}{d:iB}{f:pz}{fr:zq}{h:o5}{p q:Prop}{s st what:Int}{t:Bool}
def G0q(h:p:=by
 rcases z g G with C|C
 ·exact a g C Y
 ·have:=Cm (d.one k r b).1.own Y;omega):p:=h
def E37(k:q)(h:Hd q->p:=by
 intro kz;refine A2 (t:=true) Ac ?_;simp only[bP,bQ,aR];exact kz.1):p:=h ⟨k⟩
def Prc(k:q)(h:Hd q->p:=by
 intro kz;simp only[Hm,rev,Act.eval,rn,bC,aU,aX,Nat.reduceAdd,bM,bH,bF,List.range,List.range.loop,aY];refine EV.ropP (S:=env Lv) iP Ac (by intro cz N;cases N) (B7 Ab) (A4 _ _) Agg Agg ?_;simp only[Hm,rev,Act.eval,rn,bC,aU,aX,Nat.reduceAdd,bM,bH,bF,List.range,List.range.loop,aY];exact kz.1):p:=h ⟨k⟩
def Yv4(h:p:=by
 unfold execOp;walk_nrm;simp only[Sem.run_bind,d]
 rfl):p:=h
def Dpx(h:p:=by
 obtain rfl:r=X:=by simpa[Value.ownBlock] using z
 rw[ar]at O;cases O;cases M):p:=h
def Lqx(h:p:=by
 refine⟨_,_,.inl ?_,⟨iP,G⟩,Ax.of_below (Be _ _) (aB _)⟩;unfold execOp;walk_nrm;simp only[Sem.run_bind,d]
 rfl):p:=h
def W62(h:p:=by
 simp only[cJ,bR,bW,dS,bG,dL,or_false,not_or,gW,Option.toList_some,Option.toList_none,and_true,not_false_eq_true];omega):p:=h
def Bnv(h:p:=by
 cases l with
 |cell y=>
  obtain⟨g,q,Q⟩:=y;simp only[Gg,Ei,Loc.cell.injEq,Addr.mk.injEq]at c;obtain⟨S,rfl,rfl⟩:=c;rw[Gx S]
 |_=>simp[Gg]at c):p:=h
def Kbk(k:q)(h:Hd q->p:=by
 intro kz;refine B6 (.bool false) ?_;walk_nrm;exact kz.1):p:=h ⟨k⟩
def Bom(k:q)(h:Hd q->p:=by
 intro kz;refine B6 (.bool true) ?_;walk_nrm;exact kz.1):p:=h ⟨k⟩
def Mz8(k:q)(h:Hd q->p:=by
 intro kz;refine B6 (.bool true) ?_;walk_nrm;refine Au ?_;simp only[A0,As];refine Aw ?_;refine A2 (t:=true) Ac ?_;simp only[bP,bQ,aR];refine Br ?_;simp only[A0,As];refine Aw (Du ?_);exact kz.1):p:=h ⟨k⟩
def S74(k:q)(h:Hd q->p:=by
 intro kz;refine A2 (t:=false) Ac ?_;simp only[bP,bQ,aR];refine J4 ?_;simp only[A0,As,bP,bQ];exact kz.1):p:=h ⟨k⟩
def Ofi(k:q)(h:Hd q->p:=by
 intro kz;refine A2 (t:=false) Ac ?_;simp only[bP,bQ,aR];refine Br ?_;simp only[A0,As];exact kz.1):p:=h ⟨k⟩
namespace Go.Proofs.YtcbilgmfdgpomaaGreatDoor
variable {P:Program}{T:List Tl}{m:hZ}
open Go Go.Conc Go.Pair Go.RowKit
structure SI where
 k:Int
 b:Nat
 ver:Int
 en:Bool
 lo:hQ
 ov:w8
def SI.has(p:SI)(i:Nat):Prop:=i=p.b∨p.6.ownBlock=ni i
def Ho(se:List SI)(i:Nat):Prop:=∃(j:Nat)(p:SI),se[j]?=ni p/\p.has i
structure Ue(cu:Nat->w8×w8)(J Bs gN u)(se:List SI):Prop where
 one:∀(i:Nat)p,se[i]?=ni p->Gm cu J Bs u p.b p.k p.ver p.en p.6 p.lo/\gN<=p.b/\∀g,p.6.ownBlock=ni g->gN<=g
 apart:∀(i j:Nat)p q,se[i]?=ni p->se[j]?=ni q->i≠j->p.b≠q.b/\∀g,p.6.ownBlock=ni g->q.6.ownBlock≠ni g
structure Oj(N se Fq)(ls:gY):Prop where
 len:iR Fq=iR se
 lls:iR ls=iR se
 one:∀(i:Nat)(p:SI)(l:hQ),se[i]?=ni p->ls[i]?=ni l->∃ov',Fq[i]?=ni { p with lo:=p.lo++l,ov:=ov' }/\∀g,ov'.ownBlock=ni g->p.6.ownBlock=ni g∨N<=g
section
variable {cu:Nat->E×E}
variable {J:hZ} {se b:List SI} {B:gY}
def Ue.lt(h:Ue cu J c y u se){i}(V:Ho se i):i<iS u.1:=by
 obtain⟨j,p,l,rfl|Q⟩:=V
 ·exact(h.one j p l).1.lt
 ·exact Cm (h.one j p l).1.own Q
def Ue.ge(h:Ue cu J c y u se)(V:Ho se i):y<=i:=by
 obtain⟨j,p,l,rfl|Q⟩:=V
 ·exact(h.one j p l).2.1
 ·exact(h.one j p l).2.2 _ Q
def Ue.kx(h:Ue cu J c y u se)(K:Ax u O X)(t:∀i,Ho se i->¬X i):Ue cu J c y O se:=
 ⟨λi p Q=>⟨(h.one i p Q).1.kx K (t _ ⟨i,p,Q,p8 iP⟩) λg G=>t _ ⟨i,p,Q,n9 G⟩,(h.one i p Q).2⟩,h.apart⟩
def Ue.kf(h:Ue cu J c y u se)(K:Ax u O iO):=h.kx K λ_ _=>id
def Ue.told(d:Ue cu J c y u se){p}(V:se[i]?=ni p){l}(s:y<=iS u.1)(T:Told cu J c u O p.b p.k p.ver p.en p.6 p.lo l):∃S,Ue cu J c y O (se.set i { p with lo:=p.lo++l,ov:=S })/\∀g,S.ownBlock=ni g->p.6.ownBlock=ni g∨iS u.1<=g:=by
 obtain⟨S,N,z⟩:=T.S;obtain⟨o,I,X⟩:=d.one i p V;refine⟨S,⟨λj q E=>?_,λj k q r E b t=>?_⟩,z⟩
 ·by_cases W:i=j
  ·grind
  ·rw[bD W]at E;obtain⟨m,a⟩:=d.apart i j p q V E W;obtain⟨Q,x,P⟩:=d.one j q E;refine⟨Q.kx T.K ?_ λg G=>?_,x,P⟩
   ·rintro(e|e)
    ·exact m e.symm
    ·exact o.ap _ e Q.inb
   ·rintro(e|e)
    ·exact Q.ap _ G (e▸o.inb)
    ·exact a g e G
 ·have v:∀j k(q r:SI),i=j->i≠k->(se.set i { p with lo:=p.lo++l,ov:=S })[j]?=ni q->se[k]?=ni r->q.b≠r.b/\∀g,q.6.ownBlock=ni g->r.6.ownBlock≠ni g:=by
   rintro j k q r rfl M E b;rw[bI ((aD.1 V).1)]at E;obtain rfl:=aA E;obtain⟨m,a⟩:=d.apart i k p r V b M;refine⟨m,λg G Y=>?_⟩;exact G0q
  by_cases C:i=j
  ·have f:i≠k:=λe=>t (C.symm.trans e);rw[bD f]at b;exact v j k q r C f E b
  ·by_cases f:i=k
   ·rw[bD C]at E;obtain⟨P,n⟩:=v k j r q f C b E;exact⟨P.symm,λg G Y=>n g Y G⟩
   ·rw[bD C]at E;rw[bD f]at b;exact d.apart j k q r E b t
def Oj.refl(N se):Oj N se se (List.replicate (iR se) []):=
 ⟨iP,Ad,λi p l Q K=>⟨p.6,by
  have:=dT (aV K)
  simp_all,λg G=>p8 G⟩⟩
def Oj.set(h:Oj N se b B){i:Nat}{p u}{x l:hQ}(a:se[i]?=ni p)(K:B[i]?=ni x)(X:b[i]?=ni u){ov' M}(c:N<=M)(z:∀g,ov'.ownBlock=ni g->u.6.ownBlock=ni g∨M<=g):Oj N se (b.set i { u with lo:=u.lo++l,ov:=ov' }) (B.set i (x++l)):=by
 obtain⟨d,C,J⟩:=h.one i p x a K;rw[X]at C;obtain rfl:=aA C;refine⟨by simp[h.len],by simp[h.2],λj q m f Q=>?_⟩;by_cases W:i=j
 ·subst W;rw[bI ((aD.1 K).1)]at Q;obtain rfl:=aA Q;rw[a]at f;obtain rfl:=aA f;refine⟨ov',by rw[bI ((aD.1 X).1)];simp only[bY],λg G=>?_⟩;rcases z g G with T|T
  ·exact J g T
  ·exact n9 (aF c T)
 ·rw[bD W]at Q;rw[bD W];exact h.one j q m f Q
def Oj.sin(h:Oj N se b B)(V:Ho b i):Ho se i∨N<=i:=by
 have ⟨j,u,f,Q⟩:=V;have F:j<iR se:=by have:=(aD.1 f).1;have:=h.len;omega
 obtain⟨l,K⟩:∃l,B[j]?=ni l:=⟨_,aG (by have:=h.2;omega)⟩;have ⟨S,C,J⟩:=h.one j se[j] l (aG F) K;rw[f]at C;obtain rfl:=aA C;rcases Q with Q|Q
 ·exact p8 ⟨j,_,aG F,p8 Q⟩
 ·rcases J _ Q with T|T
  ·exact p8 ⟨j,_,aG F,n9 T⟩
  ·exact n9 T
def Oj.kb(h:Oj N se b B):(b.map λp=>(p.k,p.b))=se.map λp=>(p.k,p.b):=by
 apply bK;intro j;by_cases F:j<iR se
 ·obtain⟨l,K⟩:∃l,B[j]?=ni l:=⟨_,aG (by have:=h.2;omega)⟩;have ⟨S,C,_⟩:=h.one j se[j] l (aG F) K
  grind
 ·have:=h.len
  grind
def evB(z x:Int)(q:hU):hQ:=be (be (-1) 4++be z 8++be 0 4++be x 4++be q.size 4++q.data.toList).length 4++(be (-1) 4++be z 8++be 0 4++be x 4++be q.size 4++q.data.toList)
def UM(z x q):(evB z x q).length=28+q.size:=by
 have:iR q.data.toList=q.size:=iP;simp only[evB,aM,be_length,this];omega
def evs(num:Int)(E:List (Int×hU)):hQ:=E.flatMap λe=>evB num e.1 e.2
def Acg(num E e):evs num (E++[e])=evs num E++evB num e.1 e.2:=by simp[evs]
def UN{num E}(h:∀e∈E,e.2.size<=200):(evs num E).length<=iR E * 228:=by
 induction E with
 |nil=>simp[evs]
 |cons e E O=>
  have C:=O λx Z=>h x (cF _ Z);have J:=h e cH;simp only[evs,List.flatMap_cons,aM,aU,UM]at *;omega
def Dj(num:Int)(q:hU)(T:List Tl):List Int->List E->List (hQ)×List E
 |[],ks=>([],ks)
 |k::r,ks=>(evs num (Fg k q T ks).1::(Dj num q T r (Fg k q T ks).2).1,(Dj num q T r (Fg k q T ks).2).2)
def Vr(num q T l k)(g:iC):Dj num q T (l++[k]) g=((Dj num q T l g).1++[evs num (Fg k q T (Dj num q T l g).2).1],(Fg k q T (Dj num q T l g).2).2):=by
 induction l generalizing g with
 |nil=>simp[Dj]
 |cons x l O=>simp[Dj,O]
def Q9(num q T l)(g:iC):(Dj num q T l g).1.length=iR l:=by
 induction l generalizing g with
 |nil=>simp[Dj]
 |cons x l O=>simp[Dj,O]
def Sa{q}:∀{T} {g:iC},∀e∈(Fg s q T g).1,∃x∈T,e=(x.2.2,Ms q x.2.1)
 |[],g,e,h=>by simp[Fg]at h
 |x::T,g,e,h=>by
  unfold Fg at h;split at h
  ·rcases bG.1 h with rfl|h
   ·grind
   ·have ⟨y,U,e⟩:=Sa e h
    grind
  ·have ⟨y,U,e⟩:=Sa e h
   grind
def R8{s q}:∀{T} {ks:iC},(Fg s q T ks).1.length<=iR T
 |[],ks=>by simp[Fg]
 |x::T,ks=>by
  unfold Fg;split
  ·exact Nat.succ_le_succ R8
  ·exact Nat.le_succ_of_le R8
def Xg{q}:∀{T} {g:iC},(Fg s q T g).2.Sublist g
 |[],g=>by simp[Fg]
 |x::T,g=>by
  unfold Fg;split
  ·exact(Xg ).trans List.filter_sublist
  ·exact Xg
def Ra{num q T}:∀{l} {ks:iC},(Dj num q T l ks).2.Sublist ks
 |[],ks=>by simp[Dj]
 |k::l,ks=>by
  exact(Ra (l:=l)).trans Xg
end
def D5:Loc->Prop:=λ_=>False
structure JIn(J:hZ)(N cb)(ob pg:iF):Prop where
 obj:∀r,¬J (.obj r)
 old:∀a,J (.cell a)->a.block<N/\a.block≠cb/\ob≠ni a.block/\pg≠ni a.block
def JIn.new{J cb ob pg}(h:JIn J N cb ob pg)(V:N<=i)(j):¬J (.cell (iK i j)):=λl=>by have:=(h.old _ l).1;simp at this;omega
def JIn.cb{J cb ob pg}(h:JIn J N cb ob pg)(j):¬J (.cell (iK cb j)):=λl=>(h.old _ l).2.1 iP
def JIn.ob{J cb ob pg}(h:JIn J N cb ob pg)(V:ob=ni i)(j):¬J (.cell (iK i j)):=λl=>(h.old _ l).2.2.1 V
def JIn.pg{J cb ob pg}(h:JIn J N cb ob pg)(V:pg=ni i)(j):¬J (.cell (iK i j)):=λl=>(h.old _ l).2.2.2 V
structure Fi(v cb co bsl st u):Prop where
 K:Ax v u iO
 size:iS u.1=iS v.1+5
 b0:u.1[iS v.1]?=ni (jf #[w9 (ni (iK cb co))] 117)
 b1:u.1[iS v.1+1]?=ni (jf #[bsl] 37)
 b2:u.1[iS v.1+2]?=ni (.chan 0 #[] o9 0 0 o9)
 b3:u.1[iS v.1+3]?=ni (jf #[.chan (ni (iS v.1+2))] 118)
 b4:u.1[iS v.1+4]?=ni (JU 128 st 0)
def Fi.at{v cb B a}(h:Fi v cb U B a u)(d):Fi v cb U B a (u.at d):=⟨h.K.at d,h.size,h.3,h.4,h.b2,h.6,h.b4⟩
def yE(cb co N:Nat)(bsl clo x15 x16:E)(i:Nat):E:=([w9 (ni (iK cb co)),bsl,clo,iI N,w9 (ni ⟨N+1,0,su⟩),uw,vp o9,w9 (ni ⟨N+3,0,su⟩),w9 (ni ⟨N+4,0,su⟩),uw,w9 (ni (iK cb co)),w9 (ni (iK cb co)),w9 (ni ⟨cb,co+1,su⟩),vp o9,.chan (ni (N+2)),x15,x16,uw,uw,uw,uw,uw,uw,uw,uw,uw,uw,uw,uw,uw]:iC).getD i uw
def r5:Code:=Code.one (Code.two (Code.two (Code.two (Code.two Ka))))
def Za:Code:=Code.two (Code.two (Code.two (Code.two (Code.two Ka))))
def Ye:Array km:=Code.opsOf r5
def Ajo:∃d,prog.underlying 118=ni (.chan d 37):=⟨_,underlying118⟩
def Ac5:=Option.isSome_iff_exists.1 (by kernel_rfl:(prog.info? 37).isSome=tu)
def Aoo(w):(Instr.makeChan 118 (iL 0)).run qz w=.ok (.chan (ni w.1.size)) (w.alloc (.chan 0 #[] o9 0 0 o9)):=by
 have ⟨d,y⟩:=Ajo;have ⟨b,V⟩:=Ac5;exact run_makeChan y V yi 0 Aa Aa
def Alj(w X):(Instr.makeChan 118 (iL 0)).events qz w X=X:=by
 have ⟨d,y⟩:=Ajo;have ⟨b,V⟩:=Ac5;exact events_makeChan y V yi 0 Aa Aa X
def alz(w:qg)(o):(w.alloc o).1.size=iS w.1+1:=Ad
def alk(w o):Ax w (w.alloc o) iO:=Ax.of_below (Be _ _) (aB _)
def Ax.get{o}(h:Ax w B X)(V:w.1[i]?=ni o)(Z:¬X i):=(h.block i (ltOf V) Z).trans V
section
variable {N:o5->qg->Prop} {cb bl cap:Nat} {ba:iE} {clo:E}
def PG(l):¬D5 l:=λh=>h
set_option maxRecDepth 100000 in
def XI(g:v.cell? ⟨cb,co+1,su⟩=ni (vp o9))(F:∀u,Fi v cb co (um ba bl cap) 0 u->EV qz tu D5 N (G ((base 46).at (Kg (yE cb co v.1.size (um ba bl cap) clo uw uw)) [.inRegion Ye [0],.code Za]) (fr::cs)) u):EV qz tu D5 N (G ((base 46).at { tmps:=#[w9 (ni (iK cb co)),um ba bl cap,clo]++Array.replicate 27 uw,defers:=[] } [.code Ka]) (fr::cs)) v:=by
 have Y:cb<iS v.1:=by
  exact Tdr
 simp only[dF,dQ,eN,dZ,bR,cJ];simp only[Ka,f46,bJ];apply EV.seqC;refine EV.piece (fn:=46) iP iP (Pd (Q:=λe c O=>e=.normal/\c = { tmps:=#[w9 (ni (iK cb co)),um ba bl cap,clo,iI v.1.size,w9 (ni ⟨iS v.1+1,0,su⟩),uw,vp o9,uw,uw,uw,uw,uw,uw,uw,uw,uw,uw,uw,uw,uw,uw,uw,uw,uw,uw,uw,uw,uw,uw,uw],defers:=[] }/\O=(v.alloc (jf #[w9 (ni (iK cb co))] 117)).alloc (jf #[um ba bl cap] 37)) ?_) ?_
 ·simp only[bC,aU,aX,Nat.reduceAdd,aY,jk,kh];apply Dl (#[Value.pointer (ni (iK cb co))]) 117;walk_nrm;apply Cy (S:=env Lv) iP Ac (B7 Ab) (A4 _ _) (x:=w9 (ni ⟨iS v.1+1,0,su⟩)) (v':=(v.alloc (jf #[w9 (ni (iK cb co))] 117)).alloc (jf #[um ba bl cap] 37)) (λd=>p8 (by walk_nrm;go_simp;exact⟨alz _ _,iP⟩)) Ai7;walk_nrm;refine V2g ?_;exact Au ⟨iP,iP,iP⟩
 rintro e m Z⟨rfl,rfl,rfl⟩;generalize y:(v.alloc (jf #[w9 (ni (iK cb co))] 117)).alloc (jf #[um ba bl cap] 37)=Z;have b:iS Z.1=iS v.1+2:=by rw[←y,alz,alz]
 have f:Ax v Z iO:=by rw[←y];exact(Ba v _ _ _).trans (Ba _ _ _ _)
 have x:Z.1[iS v.1]?=ni (jf #[w9 (ni (iK cb co))] 117):=by rw[←y];exact(alk _ _).get (sx _ _) λh=>h
 have P:Z.1[iS v.1+1]?=ni (jf #[um ba bl cap] 37):=by rw[←y,←alz v (jf #[w9 (ni (iK cb co))] 117)];exact sx _ _
 clear y;refine EV.seqC (EV.seqC ?_);refine EV.piece (fn:=46) iP iP (Pd (Q:=λe c O=>e=.normal/\c = { tmps:=#[w9 (ni (iK cb co)),um ba bl cap,clo,iI v.1.size,w9 (ni ⟨iS v.1+1,0,su⟩),uw,vp o9,uw,uw,uw,w9 (ni (iK cb co)),w9 (ni (iK cb co)),w9 (ni ⟨cb,co+1,su⟩),vp o9,uw,uw,uw,uw,uw,uw,uw,uw,uw,uw,uw,uw,uw,uw,uw,uw],defers:=[] }/\O=Z) ?_) ?_
 ·simp only[bC,aU,aX,Nat.reduceAdd,aY,jk,kh];apply Bq (cellOf (j:=0) x iP) (PG _);walk_nrm;refine Wad ?_;apply Bq ((Ce (f.block cb Y λh=>h)).trans g) (PG _);walk_nrm;exact Au ⟨iP,iP,iP⟩
 rintro e m B⟨rfl,rfl,rfl⟩;apply EV.condC (t:=o9) iP;simp only[bQ,aR];refine EV.skipC (EV.seqC ?_);have I:(B.alloc (.chan 0 #[] o9 0 0 o9)).1.size=iS v.1+3:=by rw[alz,b]
 apply EV.regionC;simp only[bC,aU,aX,Nat.reduceAdd,aY,jk,kh];refine EV.opRob iP iP Ac λd=>⟨.chan (ni (B.at d).1.size),(B.at d).alloc (.chan 0 #[] o9 0 0 o9),Al3 (λn J=>?_) (p8 ?_) ?_,?_⟩
 ·have h:=Ek (P:=qz) (n:=n) (OE 118 (iL 0));have e:A1 n (iL 0)=iL 0:=Ad
  rwa[e]at h
 ·have h:=Aoo (B.at d);go_simp
 ·have h:=Alj (B.at d);intro e a;simp[go_sem,h]at a
 walk_nrm;generalize l:(B.at d).alloc (.chan 0 #[] o9 0 0 o9)=E;have z:iS E.1=iS v.1+3:=by rwa[←l]
 have j:Ax B E iO:=by rw[←l];exact(alk (B.at d) _).ofAt
 have b2:E.1[iS v.1+2]?=ni (.chan 0 #[] o9 0 0 o9):=by
  have h:=sx (B.at d) (.chan 0 #[] o9 0 0 o9);rw[l]at h;have D:(B.at d).1.size=iS v.1+2:=b
  rwa[D]at h
 have D:(B.at d).1.size=iS v.1+2:=b;rw[D];clear l;apply EV.opEv (S:=env Lv) (fn:=46) iP iP Ac (B7 Ab) (A4 _ _) (x:=w9 (ni ⟨iS v.1+3,0,su⟩)) (v':=World.alloc E (jf #[.chan su] 118)) (λd=>p8 (by walk_nrm;go_simp;exact⟨z,iP⟩)) Ai7;walk_nrm;have p:(E.alloc (jf #[.chan su] 118)).1.size=iS v.1+4:=by rw[alz,z]
 have K:(E.alloc (jf #[.chan su] 118)).1[iS v.1+3]?=ni (jf #[.chan su] 118):=by rw[←z];exact sx _ _
 have W:Ax E (E.alloc (jf #[.chan su] 118)) iO:=Ba _ _ _ _;generalize E.alloc (jf #[.chan su] 118)=k at p K W⊢;apply EV.opEv (S:=env Lv) (fn:=46) iP iP Ac (B7 Ab) (A4 _ _) (x:=uw) (v':=k.setCell ⟨iS v.1+3,0,su⟩ (.chan (ni (iS v.1+2)))) (λd=>n9 ⟨by have M:=(show sw (k.at d) ⟨iS v.1+3,0,su⟩=_ from cellOf (j:=0) K iP);have L:=(show World.frozen? (k.at d) ⟨iS v.1+3,0,su⟩=o9 from Dr (j:=0) K);walk_nrm;go_simp;first|done|rfl,rfl⟩) (λd e a=>Cl (PG _));walk_nrm;have w:(k.setCell ⟨iS v.1+3,0,su⟩ (.chan (ni (iS v.1+2)))).1.size=iS v.1+4:=by rwa[size_setCell]
 have i:=Et k (iS v.1+3) 0 (.chan (ni (iS v.1+2)));have q:(k.setCell ⟨iS v.1+3,0,su⟩ (.chan (ni (iS v.1+2)))).1[iS v.1+3]?=ni (jf #[.chan (ni (iS v.1+2))] 118):=by rw[heap_setCell,aJ iP,K];rfl
 generalize k.setCell ⟨iS v.1+3,0,su⟩ (.chan (ni (iS v.1+2)))=s at w i q⊢;refine EV.regionEnd (EV.seqC (EV.regionC ?_));simp only[bC,aU,aX,Nat.reduceAdd,aY,jk,kh];apply EV.opEv (S:=env Lv) (fn:=46) iP iP Ac (B7 Ab) (A4 _ _) (x:=w9 (ni ⟨iS v.1+4,0,su⟩)) (v':=World.alloc s (JU 128 0 0)) (λd=>p8 (by walk_nrm;go_simp;exact⟨w,iP⟩)) Ai7;walk_nrm;refine EV.regionEnd (EV.seqC (EV.regionC ?_));have C:Ax s (s.alloc (JU 128 0 0)) iO:=alk _ _;have t:Ax E (s.alloc (JU 128 0 0)) (· = iS v.1+3):=((W.mono λ_ h=>h.elim).trans i).trans (C.mono λ_ h=>h.elim);have r:Ax B (s.alloc (JU 128 0 0)) (· = iS v.1+3):=(j.mono λ_ h=>h.elim).trans t;have H:Ax v (s.alloc (JU 128 0 0)) (· = iS v.1+3):=(f.mono λ_ h=>h.elim).trans r;refine F _ ⟨⟨H.os,H.tape,H.output,H.size,λA V _=>H.block A V Aa⟩,by rw[alz,w],r.get x Aa,r.get P Aa,t.get b2 Aa,C.get q λh=>h,?_⟩;rw[←w];exact sx _ _
end
section
variable {J:hZ} {N:o5->qg->Prop} {k:Bool}
def MJ{f}(I:f∈Lv)(W:VW J c u){args:iB}{R:iH}(t:∀r,J (.obj r)->¬X r)(H:∀v,Yb c u v->Calls qz f args v λe B=>(∃x,e=.returned x/\R x B)/\Ax v B X):Bg qz k J N f args u λx O=>Ax u O X/\VW J c O/\∃U,(∀i,¬c i->U.1[i]?=O.1[i]?)/\iS U.1=iS O.1/\(∀a:Addr,c a.block->U.cell? a=su)/\R x U:=by
 refine Bp (M5 Alo (show f∈Lv from I) W.rows W.blind W.low (A4 _ _) (R:=λe B=>∃v,Yb c u v/\(∃x,e=.returned x/\R x B)/\Ax v B X) (λj v h=>?_) (λv h=>?_) (λv s=>(H v s).mono λe B h=>⟨v,s,h⟩)) ?_
 ·grind
 ·grind
 ·rintro x O⟨y,U,rfl,g,C,E,v,s,⟨z,e,b⟩,p⟩;cases e;have K:=O3 s g C p E;refine⟨K,W.kx (λi V=>D3 g V) (λr Y=>K.block r (W.low.obj r Y) (t r Y)),U,λi D=>Rx g C D,by rw[Bj,C.1],λa d=>?_,b⟩;have:=Yp g d;unfold sw at this⊢
  rwa[C.1]
def Vv{L}(s:∀i,¬c i->L.1[i]?=u.1[i]?)(N:iS L.1=iS u.1)(y:∀a:Addr,c a.block->L.cell? a=su){l lv}(h:D9 L (λb=>b<iS L.1) l lv):VsB c u l lv:=by
 induction h with
 |nil a d=>exact .nil a d
 |row ps g I F C H M Y O=>
  have U:¬c g:=λk=>by
   cases ps with
   |nil=>exact F iP
   |cons p ps=>
    have:=M 0 (iL p.1.n) (by simp[Eo])
    grind
  exact .row ps g I F C ⟨N▸H,U⟩ (λj e f=>(Ce (s g U)).symm.trans (M j e f)) O
def putN(w:qg)(nb:Nat)(x:Nd):qg:=(((((w.setCell (iJ nb) (x7 x.path)).setCell (iK nb 1) (x7 x.data)).setCell (iK nb 2) (x7 x.note)).setCell (iK nb 3) (iL x.made)).setCell (iK nb 4) (iL x.changed)).setCell (iK nb 5) (iL x.version)
def VW.putN(W:VW J c w)(V x):VW J c (putN w V x):=(((((W.set _ _ _).set _ _ _).set _ _ _).set _ _ _).set _ _ _).set _ _ _
end
section
variable {Y:E2} {J:hZ} {cb:Nat} {X:zq}
def Fi.set(j:Fi v cb U o 0 u):Fi v cb U o KK (u.setCell ⟨iS v.1+4,0,su⟩ (pq .u64 KK)):=by
 have K:=Et u (iS v.1+4) 0 (pq .u64 KK);refine⟨⟨K.os.trans j.K.os,K.tape.trans j.K.tape,K.output.trans j.K.output,aF j.K.size K.size,λk V Z=>(K.block k (aC V j.K.size) Aa).trans (j.K.block k V Z)⟩,by rw[Go.Pair.size_setCell];exact j.size,K.get j.3 Aa,K.get j.4 Aa,K.get j.b2 Aa,K.get j.6 Aa,?_⟩;rw[heap_setCell,aJ iP,j.b4]
 rfl
def P5(N:Nat):E:=.func (.func 62) #[] #[w9 (ni ⟨N+4,0,su⟩),w9 (ni ⟨N+3,0,su⟩),iI N,w9 (ni ⟨N+1,0,su⟩)]
def Vi(n y k)(E:k.map (Dg n)=k)(z):Bn n (G ((base 46).at (Kg y) k) z)=G ((base 46).at (Kg λi=>A1 n (y i)) k) (z.map (Bm n)):=by
 rw[Ep,Gu,Y0,E]
set_option maxRecDepth 100000 in
def Ab9(E:∀j,¬J (.cell ⟨iS v.1+4,j,su⟩))(hF:Fi v cb U o 0 u)(F:∀d,EN qz Y J (G ((base 46).at (Kg (yE cb U v.1.size o a (my #[]) uw)) [.inRegion Ye [],.code Za]) (X::cs)) ((u.setCell ⟨iS v.1+4,0,su⟩ (pq .u64 KK)).at d)):EN qz Y J (G ((base 46).at (Kg (yE cb U v.1.size o a uw uw)) [.inRegion Ye [0],.code Za]) (X::cs)) u:=by
 intro n w p b H;have c:Eh 128 (Q n (iS v.1+4)) w 0 0:=by
  have:=b.row hF.b4 Ad E;unfold Eh;rw[this];simp[JU]
 have f:Bn (.up u.1.size) (G ((base 46).at (Kg (yE cb U v.1.size o a (my #[]) uw)) [.inRegion Ye [],.code Za]) (X::cs))=G ((base 46).at (Kg (yE cb U v.1.size o a (my #[]) uw)) [.inRegion Ye [],.code Za]) (X::cs):=by
  have h:=b.wf.2;rw[Vi _ _ _ iP]at h⊢;have S:(X::cs).map (Bm (.up u.1.size))=X::cs:=aK xmf h;have L:(Kg λi=>A1 (.up u.1.size) (yE cb U v.1.size o a uw uw i)).tmps=(Kg (yE cb U v.1.size o a uw uw)).tmps:=aK (λg:o5=>g.frame.tmps) h;rw[S]
  congr 2
  simp[Kg,yE]at L⊢;simp[L]
 have s:=Vx (w:=u) 0 hF.b4;rw[Vi _ _ _ iP];refine Aca (Wg:=Q n (iS v.1+4)) (Ret:=Bn n (G ((base 46).at (Kg (yE cb U v.1.size o a (my #[]) uw)) [.inRegion Ye [],.code Za]) (X::cs))) (N7 c) (λB r=>?_) (n:=100+1) ?_
 ·obtain⟨d,rfl⟩:=r;have m:=(b.setCell (x:=pq .u64 KK) s Ad f).at d;have e:A1 n (pq .u64 KK)=pq .u64 KK:=Ad;rw[e]at m;refine F d n _ p m ⟨λl h=>by
   have:=H.low l h;have D:((w.setCell (Hp (Q n (iS v.1+4))) (pq .u64 KK)).at d).1.size=iS w.1:=Go.Pair.size_setCell _ _ _
   rwa[D],H.blk,H.off,(H.kept.frame (Gf w ⟨Q n (iS v.1+4),0,su⟩ (pq .u64 KK) tu) λe N _=>?_).at d,λi V=>⟨(H.nn i V).1,by
   have D:((w.setCell (Hp (Q n (iS v.1+4))) (pq .u64 KK)).at d).1.size=iS w.1:=Go.Pair.size_setCell _ _ _;rw[D];exact(H.nn i V).2⟩⟩
  simp at N;subst N;exact(b.own (.cell ⟨iS v.1+4,0,su⟩) ⟨_,s⟩ (E 0)).2
 ·refine Goes.step iP λK r=>goes_call (f:=61) (fn:=Lib.addFn Tryz.link) (c:=Re Tryz.link) iP Ac Ae iP Tryz.wgLib.1 Ac Ac ⟨⟨iP,iP⟩,?_⟩;have e:Array.map (Kg λi=>A1 n (yE cb U v.1.size o a uw uw i)).eval #[Operand.tmp 8,Operand.const (Value.int IntKind.i64 1)]=#[w9 (ni ⟨Q n (iS v.1+4),0,su⟩),iL 1]:=by simp[hv6,Kg,yE,Ei]
  rw[e];have y:=Aj2 Tryz.wgLib (d:=Q n (iS v.1+4)) (g:=base 46) (f:=Kg λi=>A1 n (yE cb U v.1.size o a uw uw i)) (a:=Ye) (j:=0) (c:=[]) (k:=[.code Za]) (cs:=(X::cs).map (Bm n)) K (A6 c r);have L:Bn n (G ((base 46).at (Kg (yE cb U v.1.size o a (my #[]) uw)) [.inRegion Ye [],.code Za]) (X::cs))=G ((base 46).at ((Kg λi=>A1 n (yE cb U v.1.size o a uw uw i)).put ((Ye[0]?).bind (·.dst)) (my #[])) (.inRegion Ye []::[.code Za])) ((X::cs).map (Bm n)):=by
   rw[Vi _ _ _ iP]
   congr 2
   simp[Kg,yE]
   rfl
  rwa[L]
set_option maxRecDepth 100000 in
def Ag5{b:o5->qg->Prop}(h:∀d,b (G ((base 46).at (Kg (yE cb U v.1.size o a (my #[]) (P5 v.1.size))) [.inRegion NC [1],.code V4]) (X::cs)) (u.at d)):EV qz tu J b (G ((base 46).at (Kg (yE cb U v.1.size o a (my #[]) uw)) [.inRegion Ye [],.code Za]) (X::cs)) u:=by
 apply EV.regionEnd;refine EV.seqC (EV.regionC (ops:=NC) ?_);simp only[NC,r6,Code.opsOf,Code.one,Code.two,Ka,f46,bJ,Kg,yE];apply EV.opPure (S:=env Lv) (fn:=46) (x:=P5 v.1.size) iP iP Ac (B7 Ab) (A4 _ _) Ale Ale;exact EV.stop h
end
open Go.Maps
def Hg{a size v}{X:iC}(h:w.ownsRow a e size v n X)(E:∀g,a<=g->g<iS w.1->B.1[g]?=w.1[g]?):B.ownsRow a e size v n X:=by
 obtain⟨F,C|⟨g,I,H,C,J,T,q⟩⟩:=h
 ·exact⟨F,p8 C⟩
 ·exact⟨F,n9 ⟨g,I,H,C,J,Ai,q⟩⟩
def RU{b a size x}{X:iC}(h:w.ownsRow b e size x n X)(D:a<=b):w.ownsRow a e size x n X:=by
 obtain⟨F,C|⟨g,I,H,C,J,T⟩⟩:=h
 ·exact⟨F,p8 C⟩
 ·exact⟨F,n9 ⟨g,I,H,C,aF D J,T⟩⟩
abbrev ints(zs:List Int):List E:=zs.map λz=>iL z
abbrev E0(ss:List (Int×Nat)):List (E×E):=ss.map λq=>(iL q.1,iI q.2)
section
variable {J:hZ} {Stop:o5->qg->Prop}
structure CG(J Bs u)(bx bl l it sm:Nat)(lo ss zs R w):Prop where
 kept:Ax u w iO
 W:VW J Bs w
 loop:Fj w l lo
 dfr:w.1[bl]?=ni (.deferred (ni []))
 rng:Io w sm it (E0 ss) (E0 R)
 box:∃sv,w.1[bx]?=ni (jf #[sv] 23)/\w.ownsRow (it+1) 3 1 sv (iR zs) (ints zs)
def CG.at{W a sm s ss V}(H:CG J Bs u W y l a sm s ss V R w)(d):CG J Bs u W y l a sm s ss V R (w.at d):=⟨H.kept.at d,H.W.at d,H.loop,H.4,H.5.keep iP iP,H.box⟩
def MO{a b:Type}[DecidableEq a](f:a->b):∀{l} {Z},l.Perm (Z.map f)->∃c:List a,l=c.map f/\c.Perm Z
 |[],Z,h=>by
  simp_all
 |p::l,Z,h=>by
  obtain⟨q,d,rfl⟩:=aZ.1 (h.mem_iff.1 cH);have C:=List.perm_cons_erase d;obtain⟨c,rfl,T⟩:=MO f ((h.trans (C.map f)).cons_inv);exact⟨q::c,iP,(T.cons q).trans C.symm⟩
def TD{p i}(h:(p::i).Perm (E0 R)):∃q f,p=(iL q.1,iI q.2)/\i=E0 f/\(q::f).Perm R:=by
 have ⟨Z,a,b⟩:=MO _ h;cases Z with
 |nil=>cases a
 |cons q Z=>
  grind
section
variable {k:Bool} {v':qg} {a:iB} {j:List Item} {g:Array km} {b:iG} {o:km} {x:E} {S:Env}
def EV.ropP(O:g[i]?=ni o)(W:yg o (yielded g a)=tu)(y:∀c,o.op≠.defer c)(V:Nx P S f o)(e:S.reg f a)(Y:∀w,(execOp (rev a).eval o).run P w=.ok (.value x) w)(N:∀w,(execOp (rev a).eval o).events P w #[]=#[])(h:EV P k J Stop (G (Lc l f (Hm o.dst x a) (.inRegion g b::j)) cs) v):=
 EV.ropR O W y λd=>⟨x,v.at d,R6 V e Y N,EV.at h d⟩
def EV.ropE(O:g[i]?=ni o)(W:yg o (yielded g a)=tu)(y:∀c,o.op≠.defer c)(V:Nx P S f o)(e:S.reg f a)(Y:∀d,Go.Pair.Yields P (execOp (rev a).eval o) (v.at d) x (v'.at d))(N:∀d,∀h∈(execOp (rev a).eval o).events P (v.at d) #[],Fb J h)(m:EV P k J Stop (G (Lc l f (Hm o.dst x a) (.inRegion g b::j)) cs) v'):=
 EV.ropR O W y λd=>⟨x,v'.at d,Qy V e (Y d) (N d),EV.at m d⟩
end
def EV.ropL{b}{a:iB}{k g}{c:iG}{o S}(W:VW J Bs v)(O:g[i]?=ni o)(w:yg o (yielded g a)=tu)(y:∀d,o.op≠.defer d)(V:Nx qz S f o)(j:S.reg f a){R:iH}{X}(t:∀r,J (.obj r)->¬X r)(H:∀L,Yb Bs v L->∃x p,Go.Pair.Yields qz (execOp (rev a).eval o) L x p/\R x p/\Ax L p X)(F:∀x U p,Ax v U X->VW J Bs U->(∀i,¬Bs i->p.1[i]?=U.1[i]?)->iS p.1=iS U.1->R x p->EV qz b J Stop (G (Lc l f (Hm o.dst x a) (.inRegion g c::k)) cs) U):EV qz b J Stop (G (Lc l f a (.inRegion g (i::c)::k)) cs) v:=λQ=>
 EV.ropR O w y (λh=>by
  have ⟨x,u,C,e,T,L,s,q,z⟩:=BF V j W.rows W.blind W.low (R:=λx p=>∃L,Yb Bs v L/\R x p/\Ax L p X) (λL s=>let⟨x,p,m,A,B⟩:=H L s;⟨x,p,m,L,s,A,B⟩) h Q;have K:=O3 s e (.refl u) z T;exact⟨x,_,C,F x _ u K (W.kx (λi n=>D3 e n) λr Y=>K.block r (W.low.obj r Y) (t r Y)) (λi D=>(By D).symm) (by rw[Bj]) q⟩) Q
def Abk:Code:=match f225.body with|some (.seq _ (.seq (.seq _ (.block _ (.rangeFunc _ _ c _))) _))=>c|_=>.skip
def Abn:Code:=match f225.body with|some (.seq _ (.seq (.seq _ (.block _ (.rangeFunc _ _ _ c))) _))=>c|_=>.skip
abbrev Iw(bx bl:Nat)(seq:E):Loop:={ state:=.ready,pending:=su,fn:=225,tmps:=#[um su 0 0,seq,iI bx,uw,um su 0 0,uw,seq,uw,uw,uw,uw,uw,uw],params:=#[7],assign:=Abk,body:=Abn,defers:=bl }
def rn:(∀(a:iB) i d,a.getD i d=a[i]?.getD d)/\(∀(l:iC)(i:Nat),l.toArray[i]?=l[i]?)/\(∀(a:E) l i,(a::l)[i+1]?=l[i]?)/\(∀(a:E) l,(a::l)[0]?=ni a)/\(∀a d:E,(ni a).getD d=a)/\(∀l:List E,l.toArray.size=iR l)/\(∀(a:E) l,(a::l).length=iR l+1)/\([]:iC).length=0/\(∀(l:iC) i a,l.toArray.setIfInBounds i a=(l.set i a).toArray)/\(∀(a:E) l i b,(a::l).set (i+1) b=a::l.set i b)/\∀(a:E) l b,(a::l).set 0 b=b::l:=by
 refine⟨?_,?_,?_,?_,?_,?_,?_,?_,?_,?_,?_⟩<;>intros<;>first|rfl|simp
def Ff(v r)(V:i≠l):(E5 v l r).1[i]?=v.1[i]?:=aE (dN V)
def BL{v o}(h:v.1[l]?=ni o)(r):Fj (E5 v l r) l r:=aQ (ltOf h)
def VW.setL(W:VW J Bs w){l}(X:¬Bs l)(a:¬J (.obj l))(r):=
 W.kx (λi V=>Ff w r (λe=>by subst e;exact X V)) λi V=>Ff w r (λe=>by subst e;exact a V)
def Ax.setL(h:Ax w B X){l}(K:iS w.1<=l)(r):Ax w (E5 B l r) X:=
 ⟨h.os,h.tape,h.output,by rw[JM];exact h.size,λk E Z=>(Ff B r Aa).trans (h.block k E Z)⟩
def Tryz.info3:(prog.info? 3).map (λi=>(i.zero,i.size,i.bytes))=ni (ni (iL 0),1,8):=Ab
def BI(w a g d V z)(O:w.ownsRow a 3 1 d (iR V) (ints V))(G:w.1[g]?=ni (jf #[iL z] 3))(K:iR V<=100)(D:a<=iS w.1):∃t B,(Builtin.append_ #[23,23] 23 #[d,um (ni (iJ g)) 1 1]).run qz w=.ok t B/\B.ownsRow a 3 1 t (V++[z]).length (ints (V++[z]))/\Ax w B (λi=>d.ownBlock=ni i):=by
 have ⟨b,c,v,W,f⟩:=info_parts Tryz.info3;have M:∀j(u:w8),([iL z]:iC)[j]?=ni u->w.cell? (((iJ g):Addr).add j)=ni u:=λj u r=>by
  cases j with
  |zero=>simp at r;subst r;exact cellOf G iP
  |succ j=>simp at r
 have ⟨U,B,Y,J,T,q⟩:=run_append_own w a 23 23 3 b _ 1 8 underlying23 c v W f iP Ae d (iR V) _ O (iJ g) 1 1 [iL z] iP M (by intro u r;simp at r;subst r;rfl) Af2 Aa D;refine⟨U,B,Y,by simpa[ints] using J,T.os,T.tape,T.output,T.size,λk E Z=>T.block k E λe=>Z e.symm⟩
def Aez{W seq V}(a)(az:iS u.1<=W)(a6:iS u.1<=l)(b5:W<j)(P:W≠l)(I:¬J (.obj l))(nl:¬Bs l)(aj:¬Bs W)(b6:l<j)(b7:sm<iS u.1)(b8:y<j)(a7:y≠l)(ak:y≠W)(c:CG J Bs u W y l j sm (Iw W y seq) F V R w)(e cs)(b9:iR V<=99)(a8:∀i,Bs i->i<iS u.1)(al:∀B,Ax u B iO->VW J Bs B->Fj B l (Iw W y seq)->B.1[y]?=ni (.deferred (ni []))->Io B sm j (E0 F) (E0 R)->(∃A,B.1[W]?=ni (jf #[A] 23)/\B.ownsRow (j+1) 3 1 A (V++[a]).length (ints (V++[a])))->EV qz tu J Stop (G (e.finish (vp tu)) cs) B):EV qz tu J Stop (G (Lc l 225 #[um su 0 0,seq,iI W,uw,um su 0 0,uw,seq,iL a,uw,uw,uw,uw,uw] [.code Abk,.beginRound,.code Abn]) (e::cs)) w:=by
 unfold Abk Abn;simp only[f225];apply BE;refine Prc ?_;apply Qx;refine EV.begin c.loop iP I λx=>?_;obtain⟨A,hb,O⟩:=c.box;have K:=(c.W.at x).setL nl I { Iw W y seq with state:=.busy };have m:=(c.kept.at x).setL a6 { Iw W y seq with state:=.busy };have L0:=BL (v:=w.at x) c.loop { Iw W y seq with state:=.busy };have q:∀i,i≠l->(E5 (w.at x) l { Iw W y seq with state:=.busy }).1[i]?=w.1[i]?:=λi g=>Ff (w.at x) _ g;generalize E5 (w.at x) l { Iw W y seq with state:=.busy }=h at K m L0 q⊢;have ba:j+1<=iS h.1:=by
  obtain⟨_,_,_,_,_,_,_,_,z,_⟩:=c.5.ex;have:=ltOf ((q j Aa).trans z);omega
 have aa:=(q W P).trans hb;apply ZT;refine BE ?_;simp only[Hm,rev,hv6,rn,bC,aU,aX,Nat.reduceAdd,bM,bH,bF,jk,kh,aY];have ab:¬J (.cell (iJ W)):=λz=>aj (K.2 _ z);refine EV.ropE (S:=env Lv) iP Ac Af7 (B7 Ab) (A4 _ _) (x:=A) (v':=h) (λd=>p8 (by have M:(h.at d).cell? (iJ W)=ni A:=cellOf (j:=0) aa iP;simp only[Hm,rev,hv6,rn,bC,aU,aX,Nat.reduceAdd,bM,bH,bF,jk,kh,aY];go_simp)) (λd=>by have M:(h.at d).cell? (iJ W)=ni A:=cellOf (j:=0) aa iP;simp only[Hm,rev,hv6,rn,bC,aU,aX,Nat.reduceAdd,bM,bH,bF,jk,kh,aY];intro av E;simp[go_sem,M]at E;subst E;exact Cl ab) ?_;refine Prc ?_;refine EV.ropE (S:=env Lv) iP Ac Af7 (B7 Ab) (A4 _ _) (x:=um (ni (iJ h.1.size)) 1 1) (v':=h.alloc (jf #[iL a] 3)) (λd=>p8 (by simp only[Hm,rev,hv6,rn,bC,aU,aX,Nat.reduceAdd,bM,bH,bF,jk,kh,aY];go_simp;first|done|rfl|exact⟨rfl,rfl⟩)) (λd=>by simp only[Hm,rev,hv6,rn,bC,aU,aX,Nat.reduceAdd,bM,bH,bF,jk,kh,aY];intro av E;simp[go_sem]at E) ?_;simp only[Hm,rev,hv6,rn,bC,aU,aX,Nat.reduceAdd,bM,bH,bF,jk,kh,aY];have H:=Ba h #[iL a] 3 iO;have T:=K.alloc #[iL a] 3;have ad:(h.alloc (jf #[iL a] 3)).1[iS h.1]?=ni (jf #[iL a] 3):=sx _ _;generalize h.alloc (jf #[iL a] 3)=v1 at H T ad⊢;have Y:v1.ownsRow (j+1) 3 1 A (iR V) (ints V):=Hg (Hg O λr n _=>q r Aa) λr n L=>H.block r L id;have ae:∀i,A.ownBlock=ni i->j+1<=i:=λi g=>by
  rcases Y with⟨_,⟨rfl,_⟩|⟨r,af,ah,rfl,n,_⟩⟩
  ·cases g
  ·simp[yf]at g;omega
 have an:∀X,J (.obj X)->¬A.ownBlock=ni X:=λX hr z=>by
  obtain⟨bb,O,M⟩:=T.3 X hr;rcases Y with⟨_,⟨rfl,_⟩|⟨r,af,ah,rfl,n,ar,_⟩⟩
  ·cases z
  ·exact Dpx
 refine EV.ropL (S:=env Lv) (Bs:=Bs) T iP Ac Af7 (B7 Ab) (A4 _ _) (X:=λi=>A.ownBlock=ni i) (R:=λt L'=>L'.ownsRow (j+1) 3 1 t (V++[a]).length (ints (V++[a]))) an (λao N=>?_) ?_
 ·obtain⟨t,B,hr,h1,h2⟩:=BI ao (j+1) h.1.size A V a (Hg Y λr n L=>N.same λhB=>by have:=a8 r hB;omega) ((N.same (λz=>by have:=K.lt z;omega)).trans ad) Aa (by rw[N.size];have:=H.size;omega);refine⟨t,B,p8 ?_,h1,h2⟩;simp only[Hm,rev,hv6,rn,bC,aU,aX,Nat.reduceAdd,bM,bH,bF,jk,kh,aY];unfold execOp;simp only[resolve,invoke,builtin,uln,Sem.run_pure,Result.andThen_ok,cK,bA,cO];simp only[Hm,rev,hv6,rn,bC,aU,aX,Nat.reduceAdd,bM,bH,bF,jk,kh,aY];rw[hr]
  rfl
 rintro t v L' f W2 aq bc au;simp only[Hm,rev,hv6,rn,bC,aU,aX,Nat.reduceAdd,bM,bH,bF,jk,kh,aY];have ai:v.ownsRow (j+1) 3 1 t (V++[a]).length (ints (V++[a])):=Hg au λr n _=>(aq r λhB=>by have:=a8 r hB;omega).symm
 have Q:∀i,i<j+1->i≠l->v.1[i]?=w.1[i]?:=λi g hl=>(f.block i (by have:=H.size;omega) (λz=>by have:=ae i z;omega)).trans ((H.block i Aa id).trans (q i hl))
 have D:v.1[W]?=ni (jf #[A] 23):=(Q W Aa P).trans hb;obtain⟨C,o,U,rfl⟩:∃aw s e,t=um aw s e:=by
  rcases ai with⟨_,⟨rfl,_⟩|⟨r,af,ah,rfl,_⟩⟩<;>exact⟨_,_,_,iP⟩
 refine EV.ropE (S:=env Lv) iP Ac Af7 (B7 Ab) (A4 _ _) (x:=uw) (v':=v.setCell (iJ W) (um C o U)) (λd=>n9 ⟨by have M:(v.at d).cell? (iJ W)=ni A:=cellOf (j:=0) D iP;have a1:(v.at d).frozen? (iJ W)=o9:=Dr (W:=v) (j:=0) D;simp only[Hm,rev,hv6,rn,bC,aU,aX,Nat.reduceAdd,bM,bH,bF,jk,kh,aY];go_simp;first|done|rfl,rfl⟩) (λd=>by have M:(v.at d).cell? (iJ W)=ni A:=cellOf (j:=0) D iP;have a1:(v.at d).frozen? (iJ W)=o9:=Dr (W:=v) (j:=0) D;simp only[Hm,rev,hv6,rn,bC,aU,aX,Nat.reduceAdd,bM,bH,bF,jk,kh,aY];intro av E;simp[go_sem,M,a1,nk _ _ _ _ (um _ _ _) uwj iP,storedEv]at E;subst E;exact Cl ab) ?_;simp only[Hm,rev,hv6,rn,bC,aU,aX,Nat.reduceAdd,bM,bH,bF,jk,kh,aY];have k:B8 v (v.setCell (iJ W) (um C o U)) W #[um C o U] 23:=(B8.refl D).set 0 _;have W3:VW J Bs (v.setCell (iJ W) (um C o U)):=W2.set W 0 _;generalize v.setCell (iJ W) (um C o U)=b at k W3⊢;have p:∀i,i<iS v.1->i≠W->b.1[i]?=v.1[i]?:=λi g ax=>k.grown.block i g (λz=>ax (by cases z;rfl));have bd:j+1<=iS v.1:=by have:=H.size;have:=f.size;omega
 have L3:Fj b l { Iw W y seq with state:=.busy }:=(p l Aa (dN P)).trans ((f.block l (by have:=H.size;omega) (λz=>by have:=ae l z;omega)).trans ((H.block l Aa id).trans L0));refine Qx (OI ?_);refine EV.endRound L3 I λZ=>?_;have ay:Ax u b iO:=by
  refine⟨k.grown.os.trans (f.os.trans (H.os.trans m.os)),k.grown.tape.trans (f.tape.trans (H.tape.trans m.tape)),k.grown.output.trans (f.output.trans (H.output.trans m.output)),aF (aF (aF m.size H.size) f.size) k.grown.size,λs hk _=>?_⟩;rw[p s (by have:=m.size;have:=H.size;have:=f.size;omega) Aa,Q s Aa Aa];exact c.kept.block s hk id
 refine al _ ((ay.at Z).setL a6 _) ((W3.at Z).setL nl I _) (BL (v:=b.at Z) L3 _) ?_ ?_ ⟨um C o U,?_,?_⟩
 ·rw[Ff (b.at Z) _ a7]
  show b.1[y]?=_;rw[p y Aa ak,Q y Aa a7];exact c.4
 ·refine c.5.keep ?_ ?_
  ·rw[Ff (b.at Z) _ Aa]
   show b.1[sm]?=_;rw[p sm Aa Aa,Q sm Aa Aa]
  ·rw[Ff (b.at Z) _ Aa]
   show b.1[j]?=_;rw[p j Aa Aa,Q j Aa Aa]
 ·rw[Ff (b.at Z) _ P];exact k.blk
 ·refine Hg ai λr n L=>?_;rw[Ff (b.at Z) _ Aa];exact p r L Aa
def An9(A:iB)(v):((#[7]:Array Tmp).zip #[v]).foldl (λa x=>a.setIfInBounds x.1 x.2) A=A.setIfInBounds 7 v:=by
 simp
def Anp:Code:=match f211.body with|some c=>c|none=>.skip
def Ahj(K:VW J Bs B)(c:∀k,Bs k->k<iS u.1)(A:Ax u B iO)(W y l sm Q seq F)(h8:iR F<=99)(a8:iS u.1<=W)(aa:iS u.1<=l)(b8:iS u.1<=y)(ad:W≠l)(an:y≠l)(ao:y≠W)(aq:sm<iS u.1)(m:¬Bs sm)(ar:¬Bs Q)(N:Fj B l (Iw W y seq))(o:B.1[y]?=ni (.deferred (ni [])))(D:B.1[W]?=ni (jf #[um su 0 0] 23))(hm:Bl qz 3 B sm (E0 F))(Z:B.1[Q]?=ni (jf #[.map (ni sm)] 93)):Hj qz tu J Stop 211 Anp (λv a' z=>(v=.normal∨v=.ret)/\a'.defers = []/\∃it V,CG J Bs u W y l it sm (Iw W y seq) F V [] z/\V.Perm (F.map wv)/\W<it/\y<it/\l<it) ⟨#[.func (.yield l) #[] #[],iI Q,uw,uw,uw,uw,uw,uw,uw,uw,uw,uw,uw,uw],[]⟩ B:=by
 have x:¬J (.obj l):=λh=>by obtain⟨C,b,hc⟩:=K.3 l h;rw[show B.1[l]?=ni (.loop (Iw W y seq)) from N]at b;cases b;cases hc
 unfold Anp;simp only[f211];refine Rxn ?_;apply Bq (cellOf (j:=0) Z iP) (λh=>ar (K.2 _ h));walk_nrm;refine Dy (S:=env Lv) K iP Ac (B7 Ab) (A4 _ _) (X:=λ_=>False) (R:=λq a1=>q=iI B.1.size/\Io a1 sm B.1.size (E0 F) (E0 F)) (λ_ _ h=>h) (λL s=>?_) ?_
 ·obtain⟨C,d,G⟩:=Bl.rangeL (hm.of_block (s.same m)) underlying93;rw[s.size]at d G;exact Lqx
 rintro q au a1 ae aj av c8⟨rfl,ax⟩;walk_nrm;refine Vj2 ?_;have O:¬Bs B.1.size:=λh=>by have:=K.lt h;omega
 have H3:CG J Bs u W y l B.1.size sm (Iw W y seq) F [] F au:=by
  refine⟨A.trans ae,aj,ae.get N id,ae.get o id,ax.keep (av _ m).symm (av _ O).symm,⟨_,ae.get D id,iP,p8 ⟨iP,iP⟩⟩⟩
 have P:=ltOf D;have b2:=ltOf o;have I:l<iS B.1:=ltOf N;apply Du;refine Mt (n:=iR F) (I:=λn M w=>∃V R Y j6 j7 j8 j9 ak al am a6,n=iR R/\iR V+iR R<=99/\(V++R.map wv).Perm (F.map wv)/\M=⟨#[.func (.yield l) #[] #[],iI Q,uw,Y,.map (ni sm),iI B.1.size,j6,j7,j8,j9,ak,al,am,a6],[]⟩/\CG J Bs u W y l B.1.size sm (Iw W y seq) F V R w) ?_ ⟨[],F,uw,uw,uw,uw,uw,uw,uw,uw,uw,iP,by simpa using h8,by rw[bR],iP,H3⟩;rintro n M w⟨V,R,Y,j6,j7,j8,j9,ak,al,am,a6,rfl,b9,ab,rfl,H⟩;refine Rxn ?_;have aw:∀r,J (.obj r)->¬r=iS B.1:=λr d h=>by
  obtain⟨C,b,_⟩:=K.3 r d;have:=ltOf b;omega
 refine Dy (S:=env Lv) H.W iP Ac (B7 Ab) (A4 _ _) (X:=(· = iS B.1)) (R:=λq a1=>((R = []/\q=my #[vp o9]/\Io a1 sm B.1.size (E0 F) (E0 R))∨∃a i,(a::i).Perm R/\q=my #[vp tu,iL a.1,iI a.2]/\Io a1 sm B.1.size (E0 F) (E0 i)/\∀q:qg,q.1[sm]?=a1.1[sm]?->q.1[iS B.1]?=a1.1[iS B.1]?->(Instr.entry (iI B.1.size)).run qz q=.ok (my #[iL a.1,iI a.2]) q)) aw (λL s=>?_) ?_
 ·rcases Io.next (P:=qz) (H.5.keep (s.same m) (s.same O)) 0 with⟨h0,d⟩|⟨ba,R',ay,a1,d,G,hg,bb,X⟩
  ·refine⟨my #[vp o9],L,p8 ?_,p8 ⟨(List.map_eq_nil_iff.1 h0),iP,H.5.keep (s.same m) (s.same O)⟩,Ax.refl _ _⟩;exact Yv4
  ·obtain⟨a,i,rfl,rfl,U⟩:=TD ay;refine⟨_,a1,p8 ?_,n9 ⟨a,i,U,iP,G,X⟩,Ax.of_grown hg (p8 iP)⟩;exact Yv4
 rintro q u4 L4 p af T bc S;walk_nrm;have bd:iS B.1<iS w.1:=by
  obtain⟨_,_,_,_,_,_,_,_,h,_⟩:=H.5.ex;exact ltOf h
 have ah:Ax u u4 iO:=⟨p.os.trans H.kept.os,p.tape.trans H.kept.tape,p.output.trans H.kept.output,aF H.kept.size p.size,λa7 hk Z=>(p.block a7 (aC hk H.kept.size) (by have:=A.size;omega)).trans (H.kept.block a7 hk Z)⟩;obtain⟨f,az,b5⟩:=H.box;have ag:=p.get H.loop Aa;have D4:=p.get H.4 Aa;have B4:=p.get az Aa;have O4:u4.ownsRow (iS B.1+1) 3 1 f (iR V) (ints V):=Hg b5 λg hg j=>p.block g j Aa;rcases S with⟨rfl,rfl,ai⟩|⟨a,i,U,rfl,ai,X⟩
 ·refine Ths ?_;apply Aw;apply A2 (t:=o9) Ac;simp only[bP,bQ,aR];refine J4 ?_;simp only[A0,As,bP];exact⟨p8 trivial,trivial,iS B.1,V,(⟨ah,af,ag,D4,ai.keep (T _ m).symm (T _ O).symm,⟨f,B4,O4⟩⟩),by simpa using ab,P,b2,I⟩
 ·refine Ths ?_;refine Aw ?_;refine E37 ?_;refine Nqc ?_;refine Du ?_;refine Rxn ?_;refine Dy (S:=env Lv) af iP Ac (B7 Ab) (A4 _ _) (X:=λ_=>False) (R:=λq a1=>q=my #[iL a.1,iI a.2]) (λ_ _ h=>h) (λL s=>?_) ?_
  ·refine⟨_,L,p8 ?_,iP,Ax.refl _ _⟩;unfold execOp;walk_nrm;simp only[uln,(X L ((s.same m).trans (T _ m).symm) ((s.same O).trans (T _ O).symm))]
   rfl
  rintro q u5 L5 t e cn cp rfl;walk_nrm;refine Wad ?_;refine Vj2 ?_;refine Rxn ?_;refine Wad ?_;have H5:CG J Bs u W y l B.1.size sm (Iw W y seq) F V i u5:=⟨ah.trans t,e,t.get ag id,t.get D4 id,(ai.keep (T _ m).symm (T _ O).symm).keep (t.block _ (by have:=p.size;have:=A.size;omega) id) (t.block _ (by have:=p.size;omega) id),⟨f,t.get B4 id,Hg O4 λg hg j=>t.block g j id⟩⟩;have bf:iR i+1=iR R:=by have:=U.length_eq;simpa using this
  refine RS (r:=Iw W y seq) (l:=l) (Post:=λz=>CG J Bs u W y l B.1.size sm (Iw W y seq) F (V++[a.1]) i z) iP Ac iP Ac H5.loop Ac x Ac (by first|rfl|(simp[Eg];done)|kernel_rfl) (λb6 b7 cs hn=>?_) ?_
  ·have bg:=Aez (J:=J) (Bs:=Bs) (Stop:=Stop) (seq:=seq) a.1 a8 aa P ad x (λh=>by have:=c l h;omega) (λh=>by have:=c W h;omega) I aq b2 an ao (H5.at b6) b7 cs Aa c (λz h1 h2 h3 h4 h5 h6=>hn z ⟨h1,h2,h3,h4,h5,h6⟩);walk_nrm
   rwa[An9]
  ·intro z E;walk_nrm;refine Ths ?_;refine A2 (t:=o9) Ac ?_;simp only[bP,bQ,aR];refine Br ?_;simp only[A0,As];refine⟨iR i,Aa,V++[a.1],i,_,_,_,_,_,_,_,_,_,iP,Ah,?_,iP,E⟩;rw[bY];exact((U.map wv).append_left V).trans ab
def PY(W:VW J Bs u)(sm Q F)(L:Bl qz 3 u sm (E0 F))(K:¬Bs sm)(b:u.1[Q]?=ni (jf #[.map (ni sm)] 93))(w:¬Bs Q)(I:iR F<=99):Bg qz tu J Stop 225 #[um su 0 0,.func (.func 211) #[] #[iI Q]] u λx O=>Ax u O iO/\VW J Bs O/\∃V,V.Perm (F.map wv)/\O.ownsRow u.1.size 3 1 x (iR V) (ints V):=by
 apply Zg func225 Ac iP (R:=λS=>S.getD 4 uw) (λ_ _=>we Ac _ _ _) (λ_ _=>xrg Ac _ _);simp only[ntmps225,na,Nat.reduceAdd,Nat.reduceSub];refine Rxn ?_;apply Dl #[um su 0 0] 23;walk_nrm;refine Ths ?_;have X:=Ba u #[um su 0 0] 23 iO;have P:=W.alloc #[um su 0 0] 23;have M:(u.alloc (jf #[um su 0 0] 23)).1[iS u.1]?=ni (jf #[um su 0 0] 23):=sx _ _;have q:(u.alloc (jf #[um su 0 0] 23)).1.size=iS u.1+1:=Ad;generalize u.alloc (jf #[um su 0 0] 23)=Z at X P M q⊢;refine R5v ?_;refine Ths ?_;apply Du;have m:∀r,iS Z.1<=r->¬J (.obj r):=λr Y h=>by obtain⟨s,c,_⟩:=P.3 r h;have:=ltOf c;omega
 refine DL (h:=211) (cap:=#[iI Q]) (λa=>∃l V,CG J Bs u u.1.size Z.1.size (iS Z.1+1) l sm (Iw u.1.size Z.1.size (.func (.func 211) #[] #[iI Q])) F V [] a/\V.Perm (F.map wv)/\iS u.1<l/\iS Z.1<l/\iS Z.1+1<l) Ac Ac func211 Ac iP (λ_ _=>results_none Ac _ _ _) (λ_ _=>events_results_none Ac _ _) (λd=>?_) (m _ Aa) ?_
 ·simp only[ntmps211,na,Nat.reduceAdd,Nat.reduceSub];have e:Ax Z { Z.at d with heap:=(Z.1.push (.deferred (ni []))).push (.loop (Iw u.1.size Z.1.size (.func (.func 211) #[] #[iI Q]))) } iO:=⟨rfl,rfl,rfl,Ah,λk E _=>by
   grind⟩
  exact Ahj (P.ofK e (λ_ _ h=>h) λ_ _ h=>h) (λi j=>W.lt j) (X.trans e) u.1.size Z.1.size (iS Z.1+1) sm Q _ F Aa (aB _) Aa Aa Aa Aa Aa L.lt K w (by show((Z.1.push _).push _)[iS Z.1+1]?=_;grind) Ai (e.get M id) ((L.of_block (X.block _ L.lt id)).of_block (e.block _ (by have:=L.lt;omega) id)) (e.get (X.get b id) id)
 ·rintro a⟨l,V,H,n,C,v,T⟩;refine⟨_,H.loop,iP,iP,λd=>?_⟩;simp only[As,A0];obtain⟨y,D,c⟩:=H.box;have o:¬Bs (iS Z.1+1):=λh=>by have:=P.lt h;omega
  have f:=(H.W.at d).setL o (m _ Aa) { Iw u.1.size Z.1.size (.func (.func 211) #[] #[iI Q]) with state:=.exhausted };have B:=(H.kept.at d).setL (l:=iS Z.1+1) Aa { Iw u.1.size Z.1.size (.func (.func 211) #[] #[iI Q]) with state:=.exhausted };have t:∀i,i≠iS Z.1+1->(E5 (a.at d) (iS Z.1+1) { Iw u.1.size Z.1.size (.func (.func 211) #[] #[iI Q]) with state:=.exhausted }).1[i]?=a.1[i]?:=λi j=>Ff (a.at d) _ j;generalize E5 (a.at d) (iS Z.1+1) { Iw u.1.size Z.1.size (.func (.func 211) #[] #[iI Q]) with state:=.exhausted }=p at f B t⊢;refine Rxn ?_;apply Bq (cellOf (j:=0) ((t u.1.size Aa).trans D) iP) (λh=>by have:=W.lt (W.2 _ h);simp at this);walk_nrm;refine Ths ?_;refine Dm ⟨n9 iP,iS Z.1,iP,((t Z.1.size Aa).trans H.4),m _ (aB _),λz=>⟨⟨B.os,B.tape,B.output,by simp only[Array.size_setIfInBounds];exact B.size,λk E b=>?_⟩,f.kx (λi j=>?_) (λi j=>?_),V,n,?_⟩⟩
  ·show(p.1.setIfInBounds Z.1.size _)[k]?=_;rw[aE Aa];exact B.block k E b
  ·show(p.1.setIfInBounds Z.1.size _)[i]?=_;rw[aE (by have:=P.lt j;omega)]
  ·show(p.1.setIfInBounds Z.1.size _)[i]?=_;rw[aE (by have:=P.low.obj i j;omega)]
  ·walk_nrm;refine RU (Hg (Hg c λg G _=>t g Aa) λg G _=>?_) Aa
   show(p.1.setIfInBounds Z.1.size _)[g]?=_;rw[aE Aa]
def Abz(W:VW J Bs u)(sm Q F)(L:Bl qz 3 u sm (E0 F))(K:¬Bs sm)(Z:u.1[Q]?=ni (jf #[.map (ni sm)] 93))(w:¬Bs Q)(I:iR F<=99):Bg qz tu J Stop 209 #[.func (.func 211) #[] #[iI Q]] u λx O=>Ax u O iO/\VW J Bs O/\∃V,V.Perm (F.map wv)/\O.ownsRow u.1.size 3 1 x (iR V) (ints V):=by
 apply Bh func209 Ac iP (λ_ _=>we Ac _ _ _) (λ_ _=>xrg Ac _ _);simp only[ntmps209,na,Nat.reduceAdd,Nat.reduceSub];refine Rxn ?_;refine Ths ?_;refine Rxn ?_;refine V2g ?_;apply A3 (PY W sm Q F L K Z w I) iP Ac iP Af;rintro x b⟨C,a,V,T,q⟩;walk_nrm;refine Ths ?_;refine Dm ⟨n9 iP,iP,C,a,V,T,?_⟩;walk_nrm;exact q
end
structure Dw(J0)(v:qg)(cb co:Nat)(cT)(Ev:iB)(pv)(p:hQ)(ob:iF)(C9 cap)(bs:hQ):Prop where
 glob:∀i,i<8->∃c e fz,v.1[i]?=ni (jf c e fz)
 blk:v.1[cb]?=ni (jf Ev cT)
 c0:Ev[co]?=ni pv
 c1:Ev[co+1]?=ni (vp o9)
 own:v.ownsRow 0 5 1 pv (iR p) (A5 p)
 ints:IntsIn v pv
 cb8:8<=cb
 pg8:∀g,pv.ownBlock=ni g->8<=g/\g≠cb/\ob≠ni g
 brow:∀bb,ob=ni bb->8<=bb/\bb≠cb/\∃c e fz,v.1[bb]?=ni (jf c e fz)/\Jl c
 len:iR bs<=cap
 bby:bs≠[]->∃bb,ob=ni bb/\Bytes v bb C9 bs
 jn:JIn J0 v.1.size cb ob pv.ownBlock
def Jd(ob:iF)(C9 n cap:Nat):E:=um (ob.map λb=>(iK b C9)) n cap
def Jv(N cb:Nat)(ob pg:iF):List Nat:=[0,1,2,3,4,5,6,7,cb,N+4,N+2,N,N+1,N+3]++(ob.toList++pg.toList)
def Tv(ob:iF):Nat:=14+iR ob.toList
def Jj(k:Nat):E->E
 |um (ni a) n c=>um (ni ⟨k,a.off,su⟩) n c
 |x=>x
def Ic(Ev:iB)(co:Nat)(pvB:E):Array E:=((Array.replicate Ev.size uw).setIfInBounds co pvB).setIfInBounds (co+1) (vp o9)
def Tc:Obj->Obj
 |jf c e fz=>jf #[] e fz
 |o=>o
def Wn(u:qg)(N cb co:Nat)(cT:mi)(Ev:iB)(pvB:E)(x:Nat):Obj:=
 if x=cb then jf (Ic Ev co pvB) cT else if x=N+2 then .chan 0 #[] o9 0 0 o9 else if x<8∨N<=x then Tc ((u.1[x]?).getD (jf #[] 0)) else(u.1[x]?).getD (jf #[] 0)
def Iy(u:qg)(N cb co:Nat)(cT:mi)(Ev:iB)(ob:iF)(pv:E):qg:=
 {u with heap:=((Jv N cb ob pv.ownBlock).map (Wn u N cb co cT Ev (Jj (Tv ob) pv))).toArray }
def TZ(co:Nat)(l:Loc):Prop:=(∃j,l=.cell ⟨8,j,su⟩/\j≠co/\j≠co+1)∨l=.obj 10
section
variable {cb:Nat} {i:hQ} {ob:iF}
def Dw.cbN(E:Dw m v cb U b d a i ob K L W):=ltOf E.blk
def Dw.bbN(E:Dw m v cb U b d a i ob K L W){X}(h:ob=ni X):=let⟨_,_,c,e,f,h,_⟩:=E.brow X h;ltOf h
def Dw.pgN(E:Dw m v cb U b d a i ob K L W){g}(h:a.ownBlock=ni g):=Cm E.own h
def Ru(E:Dw m v cb U b d a i ob K L W):(Jv v.1.size cb ob a.ownBlock).Nodup:=by
 have C:=E.7;have J:=E.cbN;unfold Jv;cases D:ob with
 |none=>
  cases Q:a.ownBlock with
  |none=>simp only[cJ,bR,bW,dS,bG,dL,or_false,not_or,gW,ke4,uh,and_true,not_false_eq_true];omega
  |some g=>
   have T:=E.8 g Q;have q:=E.pgN Q;exact W62
 |some X=>
  have z:=E.brow X D;have f:=E.bbN D;cases Q:a.ownBlock with
  |none=>simp only[cJ,bR,bW,dS,bG,dL,or_false,not_or,gW,ke4,uh,and_true,not_false_eq_true];omega
  |some g=>
   have T:=E.8 g Q;have q:=E.pgN Q;have M:X≠g:=λe=>T.2.2 (by rw[D,e]);exact W62
def Ald(E:Dw m v cb U b d a i ob K L W)(Z:x∈Jv v.1.size cb ob a.ownBlock):x<iS v.1+5:=by
 have C:=E.7;have J:=E.cbN;simp only[Jv,bX,bG,dL,or_false,gE]at Z;rcases Z with Z|Z|Z
 ·omega
 ·have:=E.bbN Z;omega
 ·have:=E.pgN Z;omega
def Yv(E:Dw m v cb U b d a i ob K L W)(Z:x∈Jv v.1.size cb ob a.ownBlock)(I:¬(x<8∨iS v.1<=x))(M:x≠cb):ob=ni x∨a.ownBlock=ni x:=by
 simp only[Jv,bX,bG,dL,or_false,gE]at Z;rcases Z with Z|Z|Z
 ·omega
 ·exact p8 Z
 ·exact n9 Z
def idx_eq{l:iG}(z:l.Nodup){i}(C:l[i]?=ni x)(J:l[j]?=ni x):i=j:=by
 have ⟨m,a⟩:=aD.1 C;have ⟨P,b⟩:=aD.1 J;exact(gM z).1 (a.trans b.symm)
def IL{N pg X}(h:ob=ni X):(Jv N cb ob pg)[14]?=ni X:=by subst h;rfl
def IM{pg:iF}(h:pg=ni g):(Jv N cb ob pg)[Tv ob]?=ni g:=by
 subst h;cases ob<;>rfl
def Yu(N pg):(Jv N cb ob pg).length=14+iR ob.toList+iR pg.toList:=by simp[Jv];omega
def U6{i:Nat}{o}(h:(Iy u v.1.size cb U b d ob a).1[i]?=ni o):∃x,(Jv v.1.size cb ob a.ownBlock)[i]?=ni x/\o=Wn u v.1.size cb U b d (Jj (Tv ob) a) x:=by
 simp only[Iy,tdr,aT,bB]at h
 grind
def IP{i x:Nat}(h:(Jv v.1.size cb ob a.ownBlock)[i]?=ni x):(Iy u v.1.size cb U b d ob a).1[i]?=ni (Wn u v.1.size cb U b d (Jj (Tv ob) a) x):=by
 simp only[Iy,tdr,aT,h,aI]
def Lr:(Iy u v.1.size cb U b d ob a).1.size=14+iR ob.toList+iR a.ownBlock.toList:=by simp only[Iy,bC,bU,Yu]
def Sk(y):(Ic d U y).size=d.size:=by simp[Ic]
def M8(E:Dw m v cb U b d a i ob K L W)(y):(Ic d U y)[U]?=ni y/\(Ic d U y)[U+1]?=ni (vp o9):=by
 have C:=(aH.1 E.c1).1
 constructor
 ·unfold Ic
  grind
 ·unfold Ic;rw[aQ (by simpa using C)]
def Nh{n J i}{c:iB}{e a I}(h:Go.Pair.LikeO n J i (Obj.cells c e a) I):∃B,I=Obj.cells B e a:=by
 rcases h with h|⟨Q,B,S,R,C,b,_⟩|⟨_,h,_⟩|⟨B,S,R,C,b⟩
 ·exact⟨_,h⟩
 ·grind
 ·exact absurd iP (h _ _ _)
 grind
def U5(e:Dw m v cb U b d a i ob K L W){B c}(F:Fi v cb U B c u)(Z:I∈Jv v.1.size cb ob a.ownBlock)(J:I≠iS v.1+2):∃f h j,u.1[I]?=ni (jf f h j):=by
 have k:∀y(f:iB)h(j:Nat×Nat),v.1[y]?=ni (jf f h j)->∃f h j,u.1[y]?=ni (jf f h j):=λy f h j T=>⟨f,h,j,F.K.get T λT=>T⟩;simp only[Jv,bX,bG,dL,or_false,gE]at Z;rcases Z with Z|Z|Z
 ·by_cases l:I<8
  ·obtain⟨f,h,j,T⟩:=e.glob I l;grind
  ·by_cases M:I=cb
   ·subst M;exact k _ _ _ _ e.blk
   ·have:I=iS v.1+4∨I=iS v.1∨I=iS v.1+1∨I=iS v.1+3:=Aa;rcases this with rfl|rfl|rfl|rfl
    ·exact⟨_,_,_,F.b4⟩
    ·exact⟨_,_,_,F.3⟩
    ·exact⟨_,_,_,F.4⟩
    ·exact⟨_,_,_,F.6⟩
 ·obtain⟨_,_,f,h,j,T,_⟩:=e.brow I Z;exact k _ _ _ _ T
 ·obtain⟨_,⟨T,_⟩|⟨G,ar,n,T,_,g,_⟩⟩:=e.own
  ·rw[T]at Z;cases Z
  ·rw[T]at Z;obtain rfl:G=I:=by simpa[yf] using Z
   exact k _ _ _ _ g
def Qn(E:Dw m v cb U b d a i ob K L W)(O:ob=ni I∨a.ownBlock=ni I):∃c e f,v.1[I]?=ni (jf c e f)/\Jl c:=by
 rcases O with O|O
 ·obtain⟨_,_,c,e,f,T,V⟩:=E.brow I O;grind
 ·obtain⟨_,⟨T,_⟩|⟨G,h,j,T,_,g,_⟩⟩:=E.own
  ·rw[T]at O;cases O
  ·have Z:=O;rw[T]at Z;obtain rfl:G=I:=by simpa[yf] using Z
   exact⟨_,_,_,g,E.ints G _ O g⟩
def Alv(E:Dw m v cb U b d a i ob K L W)(n D)(h:∀g,a.ownBlock=ni g->Q D (Tv ob)=Q n g):A1 n a=A1 D (Jj (Tv ob) a):=by
 obtain⟨_,⟨rfl,_⟩|⟨g,c,H,rfl,_⟩⟩:=E.own
 ·simp[Jj]
 ·simp[Jj,Ei,h g iP]
def Aj9(n D k)(h:∀X,ob=ni X->Q D 14=Q n X):A1 n (Jd ob K k L)=A1 D (Jj 14 (Jd ob K k L)):=by
 cases ob with
 |none=>simp[Jd,Jj]
 |some X=>simp[Jd,Jj,Ei,h X iP]
def YK(E:Dw m v cb U b d a i ob K L W)(F:Fi v cb U o st u){n n' e g}(s:Dq P n m e g u w)(A:∀g,a.ownBlock=ni g->sh n' (Tv ob)=sh n g){c}(Z:(Jv v.1.size cb ob a.ownBlock)[c]?=ni x):∃I,w.1[sh n x]?=ni I/\LikeO n' (TZ U) c (Wn u v.1.size cb U b d (Jj (Tv ob) a) x) I:=by
 have k:=aV Z;have H:=E.cbN;unfold Wn;by_cases M:x=cb
 ·rw[aJ M];subst M;have V:c=8:=idx_eq (Ru E) Z iP;subst V;have p:d≠#[]:=λf=>by have:=E.c0;grind
  refine⟨_,s.row (F.K.get E.blk λh=>h) p E.jn.cb,n9 (p8 ⟨_,_,_,_,iP,iP,by simp[Sk],λj l=>?_⟩)⟩;have D:j=U∨j=U+1:=cL λz=>l (p8 ⟨j,iP,λf=>z (p8 f),λf=>z (n9 f)⟩);rcases D with rfl|rfl
  ·rw[(M8 E _).1,aN,E.c0,aI,aI,Alv E n n' A]
  ·rw[(M8 E _).2,aN,E.c1];simp
 ·rw[aL M];by_cases J:x=iS v.1+2
  ·rw[aJ J];subst J;obtain⟨I,C,T⟩:=(s.sm 0).4 _ _ F.b2;refine⟨I,C,?_⟩;rcases T with T|⟨_,_,_,_,T,_⟩|⟨T,_⟩|⟨_,_,_,T,_⟩
   ·rw[T];exact p8 (by simp[Dt])
   ·cases T
   ·exact(E.jn.obj _ T.1).elim
   ·cases T
  ·rw[aL J];obtain⟨G,f,y,Y⟩:=U5 E F k J;obtain⟨I,C,T⟩:=(s.sm 0).4 _ _ Y;refine⟨I,C,?_⟩;rw[Y];simp only[bJ];split
   ·obtain⟨B,rfl⟩:=Nh T;exact n9 (n9 (n9 ⟨B,f,y,iP,iP⟩))
   ·rename_i t;obtain⟨Q,S,R,r,q⟩:=Qn E (Yv E k t M);rw[F.K.get r λh=>h]at Y;cases Y;by_cases p:G=#[]
    ·subst p;obtain⟨B,rfl⟩:=Nh T;exact n9 (n9 (n9 ⟨B,f,y,iP,iP⟩))
    ·have:=Go.Pair.LikeO.row T p ((Yv E k t M).elim (λh=>E.jn.ob h) λh=>E.jn.pg h);rw[this,q.map n];exact p8 (by simp only[Dt];rw[q.map n'])
end
section
variable {J:hZ} {N:o5->qg->Prop}
def Aod(W:VW J c u)(sm):Bg qz tu J N 190 #[.map (ni sm)] u λx O=>x=.func (.func 211) #[] #[iI u.1.size]/\Ax u O iO/\VW J c O/\O.1[iS u.1]?=ni (jf #[.map (ni sm)] 93):=by
 apply Bh func190 Ac iP (λ_ _=>we Ac _ _ _) (λ_ _=>xrg Ac _ _);simp only[ntmps190,na,Nat.reduceAdd,Nat.reduceSub];refine Rxn ?_;apply Dl #[.map _] 93;walk_nrm;refine Ths ?_;refine Rxn ?_;refine Wad ?_;refine Vj2 ?_;refine Dm ⟨n9 iP,iP,?_,Ba u _ 93 _,W.alloc _ 93,sx _ _⟩;walk_nrm
def Aag{V c:List Int}(h:V.Perm c)(F:c.Pairwise (·<=·)):(V.mergeSort λx y=>decide (x<=y))=c:=by
 refine fX (λa b _ _ C J=>Int.le_antisymm C J) ?_ F ((fN _ _).trans h);exact(gC Ai (by intro a b;simp;omega) _).imp λh=>HI
def Aig(W:VW J c u)(sm Q F)(d:F≠[])(S:iR F<=8)(C:(F.map wv).Pairwise (·<=·))(L:Bl qz 3 u sm (E0 F))(K:¬c sm)(Z:u.1[Q]?=ni (jf #[.map (ni sm)] 93))(w:¬c Q):Bg qz tu J N 189 #[.func (.func 211) #[] #[iI Q]] u λx X=>Ax u X iO/\VW J c X/\∃g I,x=um (ni (iJ g)) (iR F) I/\iR F<=I/\iS u.1<=g/\∀j q,F[j]?=ni q->X.cell? (iK g j)=ni (iL q.1):=by
 apply Bh func189 Ac iP (R:=λv=>v.getD 2 uw) (λ_ _=>we Ac _ _ _) (λ_ _=>xrg Ac _ _);simp only[ntmps189,na,Nat.reduceAdd,Nat.reduceSub];refine Rxn ?_;refine Ths ?_;refine Rxn ?_;refine V2g ?_;apply A3 (Abz W sm Q F L K Z w Aa) iP Ac iP Af;rintro x T⟨a,P,V,n,z⟩;walk_nrm;refine Ths ?_;have p:iR V=iR F:=by have:=n.length_eq;simpa using this
 have af:0<iR F:=eV.2 d;obtain⟨aa,⟨rfl,hn⟩|⟨g,I,H,rfl,G,D,a1,a6,s,R⟩⟩:=z
 ·omega
 refine Rxn ?_;refine V2g ?_;have U:¬c g:=λh=>by have:=W.lt h;omega
 have A:∀r,J (.obj r)->¬r=g:=λr Y h=>by
  obtain⟨a7,z,e⟩:=P.3 r Y;rw[h,D]at z;cases z;cases e
 refine A3 (Gl (f:=210) (args:=#[um (ni (iJ g)) (iR V) I]) Ae P (X:=(· = g)) (R:=λy b=>y=my #[]/\∀j (h:j<iR V),b.cell? (iK g j)=ni (iL ((V.mergeSort λx y=>decide (x<=y))[j]'(by simp_all)))) A λi m=>?_) iP Ac iP Af ?_
 ·refine(Aaf i g I V H 3 ((m.same U).trans D) (λj l=>?_) Aa).mono λa8 b h=>⟨⟨_,h.1,iP,h.2.2⟩,Ax.of_grown h.2.1 (p8 iP)⟩;have ab:(H.toList.take (iR V * 1))[j]?=ni (iL V[j]):=by
   grind
  grind
 rintro y B⟨f,o,ad,t,ae,rfl,M⟩;walk_nrm;refine Vj2 ?_;refine Rxn ?_;refine Wad ?_;refine Vj2 ?_;refine Dm ⟨n9 iP,iP,⟨f.os.trans a.os,f.tape.trans a.tape,f.output.trans a.output,aF a.size f.size,λk E _=>(f.block k (aC E a.size) Aa).trans (a.block k E id)⟩,o,g,I,?_,Aa,G,λj q l=>?_⟩
 ·walk_nrm;rw[p]
 ·obtain⟨ah,O⟩:=((aD.1 l));have:=M j Aa;simp only[(Aag n C)]at this;rw[(Ce (t g U)).symm.trans this];simp[←O]
end
section
variable {H:E2} {cb:Nat} {i:hQ} {ob:iF}
def Aou(t:E)(h:t.ownBlock=ni g):Tv ob<14+iR ob.toList+iR t.ownBlock.toList:=by rw[h];simp[Tv]
def Alu(E:Dw m v cb U b d a i ob K L W)(c:14+iR ob.toList+iR a.ownBlock.toList<=M):A1 (.up M) (Jj (Tv ob) a)=Jj (Tv ob) a:=by
 obtain⟨_,⟨rfl,_⟩|⟨g,e,H,rfl,_⟩⟩:=E.own
 ·simp[Jj]
 ·have:=Aou (ob:=ob) (um (ni (iJ g)) (iR i) e) iP;simp[Jj,Ei,Ix (aC this c)]
def Aj8(k)(b:14+iR ob.toList<=M):A1 (.up M) (Jj 14 (Jd ob K k L))=Jj 14 (Jd ob K k L):=by
 cases ob with
 |none=>simp[Jd,Jj]
 |some X=>
  have:14<M:=by simp at b;omega
  simp[Jd,Jj,Ei,Ix this]
def Ahr(E:Dw m v cb U b d a i ob K L W)(F:Fi v cb U o st u){c}(h:(Iy u v.1.size cb U b d ob a).1[e]?=ni c):LikeO (.up (Iy u v.1.size cb U b d ob a).1.size) (TZ U) e c c:=by
 obtain⟨x,Z,rfl⟩:=U6 h;have k:=aV Z;rw[Lr];apply p8;unfold Wn;split
 ·simp only[Dt]
  congr 1
  refine bV λj=>?_;rw[aN];have n:∀y,(Ic d U (Jj (Tv ob) a))[j]?=ni y->A1 (.up (14+iR ob.toList+iR a.ownBlock.toList)) y=y:=λy f=>by
   unfold Ic at f;rw[bZ]at f;split at f
   ·split at f
    ·cases f;simp
    ·cases f
   ·rw[bZ]at f;split at f
    ·split at f
     ·cases f;exact Alu E (aB _)
     ·cases f
    ·rw[Array.getElem?_replicate]at f;split at f
     ·cases f;exact Eu _
     ·cases f
  cases l:(Ic d U (Jj (Tv ob) a))[j]? with
  |none=>rfl
  |some y=>rw[aI,n y l]
 ·rename_i M;split
  ·simp[Dt]
  ·rename_i J;obtain⟨g,p,s,Y⟩:=U5 E F k J;rw[Y];simp only[bJ];split
   ·simp[Tc,Dt]
   ·rename_i t;obtain⟨Q,S,R,r,q⟩:=Qn E (Yv E k t M);rw[F.K.get r λh=>h]at Y;cases Y;simp only[Dt];rw[q.map]
def NZ(n W B J Y N D U T):Bn n (GV W B J Y N D U T)=GV (Q n W) (Q n B) (Q n J) (Q n Y) (Q n N) (Q n D) U (A1 n T):=by
 unfold GV;rw[Ep,Gu,AW];simp only[bA,cO,VN];have S:Bm n (QT (T62 W B J Y N D U T) W N)=QT (T62 (Q n W) (Q n B) (Q n J) (Q n Y) (Q n N) (Q n D) U (A1 n T)) (Q n W) (Q n N):=by
  unfold QT;rw[Gu,FH]
  congr 2
  simp[T62,Ei,Eu]
 rw[S];have L:(Dp (A1 n (Jq D U)) (A1 n T) (A1 n (.chan (ni N))) (A1 n uw) λi=>A1 n uw)=Dp (Jq (Q n D) U) (A1 n T) (.chan (ni (Q n N))) uw λ_=>uw:=by
  simp[Jq,Ei,Eu]
 rw[L]
 rfl
def Ano(E:Dw m v cb U b d a i ob K L W)(F:Fi v cb U o st u):Wk (TZ U) (· = 8) (Iy u v.1.size cb U b d ob a) (a.ownBlock.map λ_=>Tv ob) 8 U (if ob=su then 13 else 14) iO (Iy u v.1.size cb U b d ob a) (Jj (Tv ob) a) o9 i/\Src (· = 8) (Iy u v.1.size cb U b d ob a) (if ob=su then 13 else 14) (Jj 14 (Jd ob K (iR W) L)) W:=by
 have hcut:(Iy u v.1.size cb U b d ob a).1[8]?=ni (jf (Ic d U (Jj (Tv ob) a)) b):=by
  rw[IP (x:=cb) iP];simp[Wn]
 have z:(Iy u v.1.size cb U b d ob a).1[10]?=ni (.chan 0 #[] o9 0 0 o9):=by
  rw[IP (x:=iS v.1+2) iP];unfold Wn;rw[aL (by have:=E.cbN;omega),aJ iP]
 have P:∀c x(k:iB)e(w:Nat×Nat),(Jv v.1.size cb ob a.ownBlock)[c]?=ni x->(ob=ni x∨a.ownBlock=ni x)->v.1[x]?=ni (jf k e w)->(Iy u v.1.size cb U b d ob a).1[c]?=ni (jf k e w):=λc x k e w C J T=>by
  rw[IP C];have q:8<=x/\x≠cb/\x<iS v.1:=by
   rcases J with J|J
   ·exact⟨(E.brow x J).1,(E.brow x J).2.1,E.bbN J⟩
   ·exact⟨(E.8 x J).1,(E.8 x J).2.1,E.pgN J⟩
  unfold Wn;rw[aL q.2.1,aL Aa,aL Aa,F.K.get T λh=>h]
  rfl
 have B:(Iy u v.1.size cb U b d ob a).ownsRow 0 5 1 (Jj (Tv ob) a) (iR i) (A5 i):=by
  obtain⟨n,⟨h,C⟩|⟨g,p,H,h,J,T,r,t,y,M⟩⟩:=E.own
  ·rw[h];exact⟨n,p8 ⟨iP,C⟩⟩
  ·refine⟨n,n9 ⟨Tv ob,p,H,Aay,bE _,?_,r,t,y,M⟩⟩;exact P _ g _ _ _ (IM Aay) (n9 Aay) T
 have s:∀g,(Jj (Tv ob) a).ownBlock=ni g->g=Tv ob/\∃I,a.ownBlock=ni I:=λg G=>by
  obtain⟨_,⟨h,_⟩|⟨I,p,H,h,_⟩⟩:=E.own
  ·rw[h]at G;cases G
  ·rw[h]at G;exact⟨by simpa[Jj,yf,eq_comm] using G,I,Aay⟩
 have A:VW (TZ U) (· = 8) (Iy u v.1.size cb U b d ob a):=by
  refine⟨λc V=>by subst V;exact⟨_,_,_,hcut⟩,λa6 N=>?_,λa7 Y=>?_,λa8 O=>?_⟩
  ·rcases N with⟨j,e,_⟩|e
   ·cases e;rfl
   ·cases e
  ·rcases Y with⟨j,e,_⟩|e
   ·cases e
   ·cases e;exact⟨_,z,iP⟩
  ·rcases O with⟨j,e,_⟩|e<;>cases e
 have aa:14<=Tv ob:=by unfold Tv;omega
 have Z:∀I,a.ownBlock=ni I->Tv ob≠(if ob=su then 13 else 14):=λI _=>by
  cases ob with
  |none=>simp[Tv]
  |some X=>simp[Tv]
 refine⟨⟨⟨A,iP,?_,?_,cellOf (j:=U) hcut (M8 E _).1,cellOf (j:=U+1) hcut (M8 E _).2,Dr hcut,Dr hcut,B,λg G e=>?_,λg cc G h=>?_⟩,.refl _ _,λg G=>?_,λ_ h=>h.elim,?_⟩,⟨?_,?_⟩⟩
 ·rintro(⟨j,e,C,J⟩|e)
  ·cases e;exact C iP
  ·cases e
 ·rintro(⟨j,e,C,J⟩|e)
  ·cases e;exact J iP
  ·cases e
 ·have:=(s g G).1;omega
 ·obtain⟨rfl,I,l⟩:=s g G;obtain⟨ab,ad,ae,Q,R⟩:=Qn E (n9 l);rw[P _ I _ _ _ (IM l) (n9 l) Q]at h;cases h;exact R
 ·obtain⟨rfl,I,l⟩:=s g G;exact⟨p8 (by rw[l];rfl),Z I l,λh=>h⟩
 ·split<;>omega
 ·split<;>omega
 ·have S:Jj 14 (Jd ob K (iR W) L)=um (ob.map λ_=>⟨14,K,su⟩) (iR W) L:=by cases ob<;>rfl
  refine⟨_,_,S,E.len,λD=>?_⟩;obtain⟨X,f,a1⟩:=E.bby D;refine⟨K,by rw[f];rfl,?_⟩;rw[f,aL Ad];obtain⟨_,_,k,e,w,Y,_⟩:=E.brow X f;rw[←f];intro c V;have C:=a1 c V;rw[Cg Y]at C
  rwa[Cg (P 14 X k e w (IL f) (p8 f) Y)]
end
section
variable {h:Nat->E×E}
variable {z:gZ} {F:iA} {J:hZ} {N:o5->qg->Prop}
def O1{w cb kind p d n v}(h:w.1[cb]?=ni (jf (Dx kind p d n v) 152))(l:∀k,¬J (.cell (iK cb k)))(o)(k:Nat)(O:o.op=.load 152 (.tmp k))(a:Act)(E:a.eval (.tmp k)=iI cb):Go.Pair.Yields qz (execOp a.eval o) w (Mx kind p d n v) w/\∀f∈(execOp a.eval o).events qz w #[],Fb J f:=by
 have ⟨c0,Q,R,U,u⟩:=Wd h iP;unfold execOp;rw[O];simp only[E];refine⟨p8 ?_,λf N=>?_⟩
 ·go_simp
 ·simp[go_sem,c0,Q,R,U,u]at N;rcases N with rfl|rfl|rfl|rfl|rfl<;>exact Cl (l _)
def Jg.kx{P j rt z G X}(h:Jg P j rt z G w)(E:Ax w B X)(C:¬X P)(J:¬X z):Jg P j rt z G B:=⟨E.keep h.1 C,E.keep h.2 J⟩
def WB(J:hZ)(Bs:hY)(svb:Nat)(vc:iB)(eb:Nat)(what:Int)(q:hU)(sm:Nat)(ss:List (Int×Nat))(w:qg):Prop:=w.1[svb]?=ni (jf vc 95)/\w.1[eb]?=ni (jf #[iL what,x7 q] 266)/\Bl qz 3 w sm (E0 ss)/\VW J Bs w
def WB.at{svb vc eb what q sm ss}(w d)(h:WB J Bs svb vc eb what q sm ss w):WB J Bs svb vc eb what q sm ss (w.at d):=⟨h.1,h.2.1,h.2.2.1.of_block iP,h.2.2.2.at d⟩
def WB.kx{z G K q F X}(h:WB J Bs z G g K q sm F w)(E:Ax w B X)(W:VW J Bs B)(b:¬X z)(T:¬X g)(c:¬X sm):WB J Bs z G g K q sm F B:=⟨E.get h.1 b,E.get h.2.1 T,h.2.2.1.of_block (E.block _ h.2.2.1.lt c),W⟩
def Aof:Keyed qz 3:=int_keyed underlying3
def UU{w K}{q:hU}(c0:w.cell? (iK Z C)=ni (iL K))(Q:w.cell? ⟨Z,C+1,su⟩=ni (x7 q))(l:∀k,¬J (.cell (iK Z k)))(o)(k:Nat)(O:o.op=.load 266 (.tmp k))(a:Act)(E:a.eval (.tmp k)=w9 (ni (iK Z C))):Go.Pair.Yields qz (execOp a.eval o) w (h9 #[iL K,x7 q]) w/\∀f∈(execOp a.eval o).events qz w #[],Fb J f:=by
 unfold execOp;rw[O];simp only[E];refine⟨p8 ?_,λf N=>?_⟩
 ·go_simp
 ·simp[go_sem,c0,Q]at N;rcases N with rfl|rfl<;>exact Cl (l _)
def at_set(w:qg)(d a x):(w.at d).setCell a x=(w.setCell a x).at d:=iP
def Aal{what}{q:hU}(h:w.1[g]?=ni (jf #[iL 0,x7 iN] 266))(l:∀k,¬J (.cell (iK g k)))(o)(O:o.op=.store 266 (.tmp 7) (.tmp 30))(a:Act)(f:a.eval (.tmp 7)=iI g)(L:a.eval (.tmp 30)=h9 #[iL what,x7 q]):(∀d,Go.Pair.Yields qz (execOp a.eval o) (w.at d) uw (((w.setCell (iJ g) (iL what)).setCell (iK g 1) (x7 q)).at d))/\∀d,∀e∈(execOp a.eval o).events qz (w.at d) #[],Fb J e:=by
 refine⟨λd=>n9 ⟨?_,iP⟩,λd=>?_⟩
 all_goals
  obtain⟨y,m⟩:=Ck2 (w:=(w.at d)) 0 1 h;obtain⟨Q,D⟩:=Fk2 (w:=(w.at d)) 0 1 h;unfold execOp;rw[O];simp only[f,L]
 ·go_simp;simp only[at_set]
 ·intro e N;simp[go_sem,y,m,Q,D,nk _ _ _ _ (Value.string _) uwj iP,storedEv]at N;rcases N with rfl|rfl<;>exact Cl (l _)
def OJ{t:Ren->Sem Next}{U x}(h:Plain v->GL P J t v x U):GL P J t v x U:=⟨λQ=>(h Q).plain Q,λQ=>(h Q).frame Q,λQ=>(h Q).all Q⟩
def ZU{S u o a d x}(W:VW J Bs d)(V:Nx qz S u o)(j:S.reg u a.tmps)(h:(execOp a.eval o).run qz (Bb Bs d)=.ok (.value x) (Bb Bs d)):GL qz J (Fv a o) d x d:=OJ λQ=>by
 have q:Plain (Bb Bs d):=Qw Q;have r:∀b:Act,((default:zq).at b []).eval=b.eval:=λb=>funext λy=>Frame.eval_at _ b [] y;have ⟨l,F⟩:=Sr;have g:Rf qz l (Ku l) (execOp a.eval o) (Fv a o l):=by
  have:=V.rf l ((default:zq).at a []) (F _) j;exact this
 have ⟨i,f,k⟩:=g.mono _ _ _ q h;have t:∀e∈(execOp a.eval o).events qz _ #[],Fb J e:=λe N=>(W.blind).frame (by rw[Dd];exact W.low) f e (k e N);have:=GL.over W.rows (Ga W.rows) (λ_=>q) (Qy V j (p8 h) t);rw[Jc W.rows]at this;exact this.1
def Aiz{g I G x a S fn}(W:yg G (yielded g a.tmps)=tu)(V:Nx qz S fn G)(j:S.reg fn a.tmps)(o:∀w,I w->VW J Bs w)(c:∀w L,I w->Yb Bs w L->(execOp a.eval G).run qz L=.ok (.value x) L):YV qz J g I G x a:=
 ⟨λh=>absurd (W.symm.trans h) Ad,λ_ w b=>ZU (o w b) V j (c w _ b (.refl _))⟩
def UR:Code:=match f161.body with|some (.seq _ (.seq _ (.block _ (.loop (.seq _ (.seq _ (.seq (.block _ (.seq _ (.seq _ (.block _ (.loop (.seq _ (.seq _ (.seq (.block _ c) _)))))))) _)))))))=>c|_=>.skip
def TI(svb rb:Nat)(k:Int)(gr m gcap j eg n ecap i:Nat)(s:iD):Act:=⟨#[iI svb,s 1,s 2,iI rb,s 4,iL k,s 6,s 7,s 8,s 9,s 10,s 11,s 12,um (ni (iJ gr)) m gcap,iL m,iL j,s 16,s 17,s 18,s 19,s 20,s 21,s 22,s 23,s 24,um (ni (iJ eg)) n ecap,iL n,iL i,s 28,s 29,s 30,s 31,s 32,s 33,s 34,s 35,s 36,s 37,s 38,s 39,s 40,s 41,s 42,s 43,s 44,s 45,s 46,s 47,s 48,s 49],[]⟩
def TO(svb rb gr m gcap j:Nat)(s:iD):Act:=⟨#[iI svb,s 1,s 2,iI rb,s 4,s 5,s 6,s 7,s 8,s 9,s 10,s 11,s 12,um (ni (iJ gr)) m gcap,iL m,iL j,s 16,s 17,s 18,s 19,s 20,s 21,s 22,s 23,s 24,s 25,s 26,s 27,s 28,s 29,s 30,s 31,s 32,s 33,s 34,s 35,s 36,s 37,s 38,s 39,s 40,s 41,s 42,s 43,s 44,s 45,s 46,s 47,s 48,s 49],[]⟩
def TN(svb rb:Nat)(k:Int)(gr m gcap j:Nat)(ev:E)(n i:Nat)(s:iD):Act:=⟨#[iI svb,s 1,s 2,iI rb,s 4,iL k,s 6,s 7,s 8,s 9,s 10,s 11,s 12,um (ni (iJ gr)) m gcap,iL m,iL j,s 16,s 17,s 18,s 19,s 20,s 21,s 22,s 23,s 24,ev,iL n,iL i,s 28,s 29,s 30,s 31,s 32,s 33,s 34,s 35,s 36,s 37,s 38,s 39,s 40,s 41,s 42,s 43,s 44,s 45,s 46,s 47,s 48,s 49],[]⟩
def Aqz{z P k m p a}(h:a=TI z P k gr m p j Z n K i (λj=>a.tmps.getD j uw)):∃W,a=TI z P k gr m p j Z n K i W:=⟨_,h⟩
def Api{z P m p a}(h:a=TO z P gr m p j (λj=>a.tmps.getD j uw)):∃W,a=TO z P gr m p j W:=⟨_,h⟩
def Aih(bg:Im z F)(C:Cx F y J Bs w){a tb c K I num r}(V:GN Bs w svb a tb c M sm K I num r){p:SI}(S:Gm h J Bs w p.b p.k p.ver p.en p.6 p.lo)(bu:iR p.lo<=10000000000)(ss)(bh:(p.k,p.b)∈ss)(bj:keyOf qz 3 (iL p.k)=ni (Lit.int yi p.k))(hm:Bl qz 3 w sm (E0 ss))(b8:¬Bs sm)(rb gr ai al j m n o i)(bw:i<n)(bx:n<=o)(what)(q:hU)(bk:-2147483648<=what)(bm:what<=2147483647)(aw:q.size<=200)(ax:z q=tu)(b9:w.cell? ⟨m,i * 2,su⟩=ni (iL what))(ba:w.cell? ⟨m,i * 2+1,su⟩=ni (x7 q))(ab:¬Bs m)(s):Hj qz tu J N 161 UR (λE a' R=>E=.normal/\(∃H,a'=TI svb rb p.k gr ai al j m n o i H)/\Told h J Bs w R p.b p.k p.ver p.en p.6 p.lo (evB num what q)) (TI svb rb p.k gr ai al j m n o i s) w:=by
 have bb:∀P,¬J (.cell (iK m P)):=λP Z=>ab (C.W.2 _ Z);have jv:∀P,¬J (.cell (iK svb P)):=λP Z=>V.nv (C.W.2 _ Z);have av:=S.lt;unfold UR TI;simp only[f161];refine Rxn ?_;refine B6 (w9 (ni ⟨m,i * 2,su⟩)) ?_;walk_nrm;refine Cy (S:=env Lv) (fn:=161) iP Ac (B7 Ab) (A4 _ _) (x:=h9 #[iL what,x7 q]) (v':=w) (λt=>(UU (J:=J) (w:=w.at t) b9 ba bb _ _ iP _ Ac).1) (λt=>(UU (J:=J) (w:=w.at t) b9 ba bb _ _ iP _ Ac).2) ?_;walk_nrm;refine Dl #[iL 0,x7 iN] 266 ?_;walk_nrm;have Y:=Ba w #[iL 0,x7 iN] 266 iO;have W6:=C.W.alloc #[iL 0,x7 iN] 266;have ay:(w.alloc (jf #[iL 0,x7 iN] 266)).1[iS w.1]?=ni (jf #[iL 0,x7 iN] 266):=sx _ _;generalize w.alloc (jf #[iL 0,x7 iN] 266)=L at Y W6 ay⊢;have bn:¬Bs w.1.size:=λZ=>by have:=C.W.lt Z;omega
 have az:∀P,¬J (.cell (iK w.1.size P)):=λP Z=>bn (C.W.2 _ Z);have a6:=Aal (J:=J) (what:=what) (q:=q) ay az;refine Cy (S:=env Lv) (fn:=161) iP Ac (B7 Ab) (A4 _ _) (x:=uw) (v':=(L.setCell (iJ w.1.size) (iL what)).setCell (iK w.1.size 1) (x7 q)) (a6 _ iP _ Ac Ac).1 (a6 _ iP _ Ac Ac).2 ?_;walk_nrm;refine Vj2 ?_;have B:B8 L ((L.setCell (iJ w.1.size) (iL what)).setCell (iK w.1.size 1) (x7 q)) w.1.size #[iL what,x7 q] 266:=((B8.refl ay).set 0 _).set 1 _;have af:VW J Bs ((L.setCell (iJ w.1.size) (iL what)).setCell (iK w.1.size 1) (x7 q)):=(W6.set _ _ _).set _ _ _;generalize (L.setCell (iJ w.1.size) (iL what)).setCell (iK w.1.size 1) (x7 q)=u7 at B af⊢;have an:Ax w u7 iO:=⟨B.grown.os.trans Y.os,B.grown.tape.trans Y.tape,B.grown.output.trans Y.output,aF Y.size B.grown.size,λP hk _=>(B.grown.block P (aC hk Y.size) (λZ=>by cases Z;omega)).trans (Y.block P hk id)⟩;have O:=WB.at (J:=J) (Bs:=Bs) (svb:=svb) (vc:=B9 a tb M sm K I) (eb:=iS w.1) (what:=what) (q:=q) (sm:=sm) (ss:=ss);refine Em (I:=WB J Bs svb (B9 a tb M sm K I) w.1.size what q sm ss) Ac λQ=>?_;have u:WB J Bs svb (B9 a tb M sm K I) w.1.size what q sm ss (u7.at Q):=⟨an.get V.1 id,B.blk,(hm.of_block (an.block _ hm.lt id)).of_block iP,af.at Q⟩;have b:∀(b5:Act)(R:qg)(b6:Nat),(cxv=cxv/\(∃H,b5=TI svb rb p.k gr ai al j m n o i H)/\Told h J Bs w R p.b p.k p.ver p.en p.6 p.lo (evB num what q))->(cxv=cxv/\(∃H,b5=TI svb rb p.k gr ai al j m n o i H)/\Told h J Bs w (R.at b6) p.b p.k p.ver p.en p.6 p.lo (evB num what q)):=λb5 w b6⟨h1,U,g⟩=>⟨h1,U,g.at b6⟩;refine A9.tp 0 O b u ?_;walk_nrm;refine A9.tp 1 O b u ?_;walk_nrm;refine A9.tp 2 O b u ?_;walk_nrm;refine A9.tp 4 O b u ?_;walk_nrm;refine A9.tp 6 O b u ?_;walk_nrm;refine A9.tp 7 O b u ?_;walk_nrm;refine A9.tp 8 O b u ?_;walk_nrm;refine A9.tp 11 O b u ?_;walk_nrm;refine A9.tp 13 O b u ?_;walk_nrm;refine A9.tl 3 O b u (λw (k:WB _ _ _ _ _ _ _ _ _ w)=>(cellOf (j:=3) k.1 iP:w.cell? (iK svb 3)=ni (.map (ni sm)))) (jv 3) ?_;walk_nrm;refine A9.tl 9 O b u (λw (k:WB _ _ _ _ _ _ _ _ _ w)=>(cellOf (j:=1) k.1 iP:w.cell? (iK svb 1)=ni (iI tb))) (jv 1) ?_;walk_nrm;refine A9.tl 12 O b u (λR (k:WB _ _ _ _ _ _ _ _ _ R)=>(cellOf (j:=0) k.2.1 iP:R.cell? (iJ w.1.size)=ni (iL what))) (az 0) ?_;walk_nrm;refine A9.tl 14 O b u (λR (k:WB _ _ _ _ _ _ _ _ _ R)=>(cellOf (j:=1) k.2.1 iP:R.cell? (iK w.1.size 1)=ni (x7 q))) (az 1) ?_;walk_nrm;have bo:∀w:qg,Bl qz 3 w sm (E0 ss)->(Instr.lookup 93 (.map (ni sm)) (iL p.k) o9).run qz w=.ok (iI p.b) w:=λw bq=>Bl.look_some o9 bq Aof underlying93 (kl:=.int .i64 p.k) bj (v:=iI p.b) (aZ.2 ⟨_,bh,iP⟩);refine A9.take (i:=5) (x:=iI p.b) O b iP Ab Ab Ab (Aiz (Bs:=Bs) (S:=env Lv) (fn:=0) Ac (B7 Ab) (A4 _ _) (λw k=>k.2.2.2) (λw d k l=>?_)) u ?_
 ·unfold execOp;walk_nrm;simp only[uln,bo d (k.2.2.1.of_block (l.same b8))]
  rfl
 walk_nrm;refine Ca (i:=10) (Gl (f:=42) (args:=#[iI tb]) Ae (af.at Q) (X:=λ_=>False) (R:=λx _=>x=iL num) (λ_ _ Z=>Z) λd l=>?_) Ab iP Ac iP Af ?_
 ·exact(Kd d tb c num r (((V.ht.kx an id id).at Q).sim l V.4 V.nm)).mono λE R Z=>⟨⟨_,Z.1,iP⟩,by rw[Z.2];exact Ax.refl _ _⟩
 rintro x aa⟨bc,a1,L8,bz,c6,rfl⟩;have bd:=u.kx bc a1 id id id;refine⟨bd,?_⟩;walk_nrm;have A:Ax w aa iO:=(an.at Q).trans bc;refine Ca (i:=15) (Gl (f:=192) (args:=#[iL num,iL what,x7 q]) Ae a1 (X:=λ_=>False) (R:=λx R=>R.ownsRow aa.1.size 5 1 x (evB num what q).length (A5 (evB num what q))) (λ_ _ Z=>Z) λd l=>?_) Ab iP Ac iP Af ?_
 ·have D:=(C.kx A a1 λi Z=>Z.elim).glob l;refine(XN bg d D.tabs D.table num what q V.6 V.z2 bk bm aw ax).mono λE R Z=>?_;exact Smd
 rintro f ah⟨W,a7,aj,ad,ak,ae⟩;have v:=bd.kx W a7 id id id;refine⟨v,?_⟩;walk_nrm;have X:=A.trans W;have e:=S.kx X (λZ=>Z) λ_ _ Z=>Z;obtain⟨ao,aq⟩:=Qt a7 (λi hi=>a1.lt hi) ad ae;have c7:=UM num what q;refine Ca (i:=16) (OU a7 e f (evB num what q) Aa Aa ao λG hg=>(aq G hg).1) Ab iP Ac iP Af ?_;rintro x bf⟨rfl,b7⟩;have c8:=X.size;have br:=v.kx b7.K b7.W (by
   rintro(Z|Z)
   ·exact V.nv (Z▸S.inb)
   ·obtain⟨_,⟨T,_⟩|⟨G,ar,au,T,_,g,_⟩⟩:=e.own
    ·rw[T]at Z;cases Z
    ·rw[T]at Z;obtain rfl:G=svb:=by simpa[yf] using Z
     rw[v.1]at g;cases g) (by
   rintro(Z|Z)
   ·omega
   ·have:=Cm S.own Z;omega) (by
   rintro(Z|Z)
   ·exact b8 (Z▸S.inb)
   ·obtain⟨_,⟨T,_⟩|⟨G,ar,au,T,_,g,_⟩⟩:=e.own
    ·rw[T]at Z;cases Z
    ·rw[T]at Z;obtain rfl:G=sm:=by simpa[yf] using Z
     obtain⟨es,c9,h1,_⟩:=v.2.2.1.ex;rw[h1]at g;cases g)
 refine⟨br,?_⟩;walk_nrm;exact A9.all Ab ⟨iP,Aqz iP,b7.from X av⟩ _
end
@[reducible] def LE(n:Ren)(N:Nat)(In Shun:hZ)(k:Nat):Mv:=
 {Shun,k,Wg:=Q n (N+4),Ch:=Q n (N+2),Ro:=λl=>(∃a,l=.cell a/\(a.block=Q n N∨a.block=Q n (N+1)∨a.block=Q n (N+3)))∨In l }
def KBE(u0:qg)(co:Nat)(n':Ren)(l:Loc):Prop:=∃q,I3 u0 q/\¬TZ co q/\l=Gg n' q
def JAE(cb co N:Nat)(l:Loc):Prop:=l=.cell (iK cb co)∨l=.cell ⟨cb,co+1,su⟩∨l=.obj (N+2)
def PD(J0:hZ)(cb co N:Nat):Loc->Prop:=JOr (JAE cb co N) J0
def Lq(N:Nat)(ob pg:iF)(i:Nat):Prop:=i=N∨i=N+1∨i=N+3∨i=N+4∨ob=ni i∨pg=ni i
def yR(cb co N:Nat)(bsl clo:E)(i:Nat):E:=if i=17 then .chan (ni (N+2)) else yE cb co N bsl clo (my #[]) (P5 N) i
section
variable {H:E2} {cb:Nat} {i:hQ} {ob:iF} {n:Ren} {e:qg} {p:hZ}
def Tq(E:Dw m v cb U b d a i ob K L W)(n):((Jv v.1.size cb ob a.ownBlock).map (Q n)).Nodup:=List.Pairwise.map _ (λc f h e=>h (Gx e)) (Ru E)
def IK(E:Dw m v cb U b d a i ob K L W)(F:Fi v cb U o st u){c}(s:Dq qz n m c h u e):∀x∈(Jv v.1.size cb ob a.ownBlock).map (Q n),x<iS e.1:=λx Z=>by
 obtain⟨y,f,rfl⟩:=aZ.1 Z;exact(s.sm 0).lt y (by rw[F.size];exact Ald E f)
def nB(E:Dw m v cb U b d a i ob K L W)(F:Fi v cb U o st u){Own}(hs:Dq qz n m Own h u e):Ren:=Ren.ofList ((Jv v.1.size cb ob a.ownBlock).map (Q n)) e.1.size (Tq E n) (IK E F hs)
def N9(E:Dw m v cb U b d a i ob K L W)(F:Fi v cb U o st u){f}(s:Dq qz n m f h u e){c}(g:(Jv v.1.size cb ob a.ownBlock)[c]?=ni x):Q (nB E F s) c=Q n x:=Wo Ai
def Ab5(E:Dw m v cb U b d a i ob K L W)(F:Fi v cb U o st u){c}(s:Dq qz n m c h u e):Bn (nB E F s) (GV 9 13 11 12 10 8 U (Jj 14 (Jd ob K (iR W) L)))=GV (Q n (iS v.1+4)) (Q n (iS v.1+3)) (Q n v.1.size) (Q n (iS v.1+1)) (Q n (iS v.1+2)) (Q n cb) U (A1 n (Jd ob K (iR W) L)):=by
 rw[NZ,N9 E F s iP,N9 E F s iP,N9 E F s iP,N9 E F s iP,N9 E F s iP,N9 E F s iP,←Aj9 n _ (iR W) λX f=>N9 E F s (IL f)]
def VP(E:Dw m v cb U b d a i ob K L W)(F:Fi v cb U o st u){q}(p:I3 (Iy u v.1.size cb U b d ob a) q)(l:¬TZ U q):∃g x j,q=.cell (iK g j)/\(Jv v.1.size cb ob a.ownBlock)[g]?=ni x/\I3 u (.cell (iK x j))/\((x=cb/\(j=U∨j=U+1))∨ob=ni x∨a.ownBlock=ni x)/\x<iS v.1:=by
 cases q with
 |cell w=>
  obtain⟨y,e⟩:=p;obtain⟨g,j,k⟩:=w;cases k with
  |some s=>
   exfalso;unfold sw at e;cases h:(Iy u v.1.size cb U b d ob a).1[g]? with
   |none=>simp[h]at e
   |some A=>grind
  |none=>
   have X:=Jw e;have c:(Iy u v.1.size cb U b d ob a).1[g]?=ni (Iy u v.1.size cb U b d ob a).1[g]:=aO X;obtain⟨x,Z,O⟩:=U6 c;have t:=aV Z;rw[O]at c;unfold Wn at c;by_cases M:x=cb
   ·rw[aJ M]at c;subst M;have V:g=8:=idx_eq (Ru E) Z iP;subst V;rw[Cg c]at e;have Y:=(aH.1 e).1;rw[Sk]at Y;refine⟨8,x,j,iP,Z,⟨d[j],?_⟩,p8 ⟨iP,(cL λz=>l (p8 ⟨j,iP,λf=>z (p8 f),λf=>z (n9 f)⟩))⟩,E.cbN⟩
    ·rw[Cg (F.K.get E.blk λp=>p)];exact aO Y
   ·rw[aL M]at c;by_cases J:x=iS v.1+2
    ·rw[aJ J]at c;unfold sw at e;simp[c]at e
    ·rw[aL J]at c;obtain⟨B,f,n,r⟩:=U5 E F t J;rw[r]at c;simp only[bJ]at c;split at c
     ·simp only[Tc]at c;rw[Cg c]at e;simp at e
     ·rename_i I;rw[Cg c]at e;exact⟨g,x,j,iP,Z,⟨y,by rwa[Cg r]⟩,n9 (Yv E t I M),Aa⟩
 |obj C=>
  exfalso;obtain⟨A,O,S⟩:=p;obtain⟨x,Z,rfl⟩:=U6 O;by_cases J:x=iS v.1+2
  ·subst J;have:C=10:=idx_eq (Ru E) Z iP;subst this;exact l (n9 iP)
  ·obtain⟨B,f,n,r⟩:=U5 E F (aV Z) J;unfold Wn at S;rw[aL J,r]at S;split at S
   ·exact S _ _ _ iP
   ·split at S
    ·exact S _ _ _ iP
    ·exact S _ _ _ iP
 |_=>exact p.elim
def Mr{p}(s:Dq qz n m (H.Own p) h u e){l}(a:I3 u l)(b:¬m l):=(s.own l a b).1
def Adl{J d g}(s:Dq qz n J d g u w)(E:H.Kept w){i}{c:iB}{e m}(Y:u.1[i]?=ni (jf c e m))(M:c≠#[])(p:∀j,¬J (.cell (iK i j)))(t:∀j,j<c.size->¬H.In (.cell ⟨Q n i,j,su⟩)){l}(K:M3 (Q n i) l):¬H.In l:=λV=>by
 have W:=s.row Y M p;cases l with
 |cell a=>
  obtain⟨x,Z⟩:=H.ex a V;have D:a.block=Q n i:=K;rw[←E.cell a V]at Z;obtain⟨b,j,k⟩:=a;simp only at D;subst D;unfold sw at Z;rw[W]at Z;cases k with
  |some q=>simp at Z
  |none=>
   grind
 |obj r=>
  obtain⟨o,O,z⟩:=H.5 r V;have f:=E.obj r o V O z;rw[K,W]at f;exact z _ _ _ (aA f).symm
 |_=>exact K.elim
def Ama(E:Dw m v cb U b d a i ob K L W)(F:Fi v cb U o st u)(s:Dq qz n m (H.Own p) h u e):Dq qz (nB E F s) (TZ U) ((LE n v.1.size H.In p k).B (KBE (Iy u v.1.size cb U b d ob a) U (nB E F s))) (GV 9 13 11 12 10 8 U (Jj 14 (Jd ob K (iR W) L))) (Iy u v.1.size cb U b d ob a) e:=by
 have C:(Iy u v.1.size cb U b d ob a).1.size=14+iR ob.toList+iR a.ownBlock.toList:=Lr;refine Dq.ofList (Tq E n) (IK E F s) (by rw[C,bU,Yu]) (s.sm 0).tape (s.sm 0).drawn (s.sm 0).os (s.sm 0).output (λg I y V O=>?_) (λg V=>?_) ⟨λg y O=>Ahr E F O,?_⟩ λM r l=>?_
 ·obtain⟨x,Z,rfl⟩:=U6 O;rw[aT,Z]at V;obtain rfl:=aA V;exact YK E F s (n':=nB E F s) (λh G=>N9 E F s (IM G)) Z
 ·have f:(Jv v.1.size cb ob a.ownBlock)[g]?=ni g:=by
   match g,V with
   |0,_|1,_|2,_|3,_|4,_|5,_|6,_|7,_=>rfl
  rw[aT,f,aI,show Q n g=g from s.fix g V]
 ·rw[C,NZ,Ix Aa,Ix Aa,Ix Aa,Ix Aa,Ix Aa,Ix Aa,Aj8 _ Aa]
 ·obtain⟨g,x,q,rfl,Z,P,j,A⟩:=VP E F r l;have t:Gg (nB E F s) (.cell (iK g q))=.cell ⟨Q n x,q,su⟩:=by simp only[Gg,Ei,N9 E F s Z]
  refine⟨⟨_,r,l,iP⟩,?_⟩
  show _/\_;have z:Gg (Ren.ofList ((Jv v.1.size cb ob a.ownBlock).map (Q n)) e.1.size (Tq E n) (IK E F s)) (.cell (iK g q))=.cell ⟨Q n x,q,su⟩:=t;rw[z];have w:¬m (.cell (iK x q)):=by
   rcases j with⟨rfl,_⟩|j|j
   ·exact E.jn.cb q
   ·exact E.jn.ob j q
   ·exact E.jn.pg j q
  refine⟨?_,?_,Ad,(Mr (l:=.cell (iK x q)) s P w)⟩
  ·rintro(⟨B,f,c⟩|c)
   ·cases f;rcases c with c|c|c<;>(have J:=Gx c;omega)
   ·exact(s.own (.cell (iK x q)) P w).2 c
  ·rintro⟨B,f,D⟩;cases f;have:=Gx D;omega
def Al9(E:Dw m v cb U b d a i ob K L W)(F:Fi v cb U o st u)(s:Dq qz n m (H.Own p) h u e){R}(G:Bn (.up u.1.size) R=R):Dq qz n (PD m cb U v.1.size) ((LE n v.1.size H.In p k).A (KBE (Iy u v.1.size cb U b d ob a) U (nB E F s))) R (Bb (Lq v.1.size ob a.ownBlock) u) e:=by
 have C:Dq qz n (PD m cb U v.1.size) (λl=>H.Own p l/\l≠.cell ⟨Q n cb,U,su⟩/\l≠.cell ⟨Q n cb,U+1,su⟩/\l≠.obj (Q n (iS v.1+2))) R u e:=by
  refine s.less (λl f=>n9 f) G λl D j O=>⟨O,λc=>j (p8 (p8 ?_)),λc=>j (p8 (n9 (p8 ?_))),λc=>j (p8 (n9 (n9 ?_)))⟩
  ·exact Bnv
  ·exact Bnv
  ·cases l with
   |obj I=>simp only[Gg,Loc.obj.injEq]at c;rw[Gx c]
   |_=>simp[Gg]at c
 refine C.hide (λg V=>?_) G λl O z=>⟨?_,?_,?_,O.2.2.2,O.1.1⟩
 ·rcases V with rfl|rfl|rfl|rfl|V|V
  ·exact⟨_,_,_,F.3⟩
  ·exact⟨_,_,_,F.4⟩
  ·exact⟨_,_,_,F.6⟩
  ·exact⟨_,_,_,F.b4⟩
  ·obtain⟨w,c,A,f,_⟩:=Qn E (p8 V);exact⟨w,c,A,F.K.get f λf=>f⟩
  ·obtain⟨w,c,A,f,_⟩:=Qn E (n9 V);exact⟨w,c,A,F.K.get f λf=>f⟩
 ·rintro⟨J,B,j,rfl⟩;obtain⟨g,x,q,rfl,Z,P,r,M⟩:=VP E F B j;have t:Gg (nB E F s) (.cell (iK g q))=.cell ⟨Q n x,q,su⟩:=by simp only[Gg,Ei,N9 E F s Z]
  rw[t]at O z;rcases r with⟨rfl,rfl|rfl⟩|r|r
  ·exact O.2.1 iP
  ·exact O.2.2.1 iP
  ·exact z x (n9 (n9 (n9 (n9 (p8 r))))) iP
  ·exact z x (n9 (n9 (n9 (n9 (n9 r))))) iP
 ·rintro(⟨y,rfl,f|f|f⟩|f)
  ·exact z _ (p8 iP) f
  ·exact z _ (n9 (p8 iP)) f
  ·exact z _ (n9 (n9 (p8 iP))) f
  ·exact O.1.2 f
 ·rintro⟨y,rfl,c⟩;exact z _ (n9 (n9 (n9 (p8 iP)))) c
end
structure Sz(J:hZ)(u:qg)(kind g T):Prop where
 ex:∃o,(u.cell? ⟨4,kind,su⟩=ni (um (ni (iK g o)) (iR T) (iR T))/\¬J (.cell ⟨4,kind,su⟩))/\∀j (x:Tl),T[j]?=ni x->(u.cell? ⟨g,o+j * 3,su⟩=ni (iL x.1)/\u.cell? ⟨g,o+j * 3+1,su⟩=ni (vp x.2.1)/\u.cell? ⟨g,o+j * 3+2,su⟩=ni (iL x.2.2))/\¬J (.cell ⟨g,o+j * 3,su⟩)/\¬J (.cell ⟨g,o+j * 3+1,su⟩)/\¬J (.cell ⟨g,o+j * 3+2,su⟩)
def TT(kind:Nat):List Tl:=match kind with
 |1=>[(0,o9,1),(1,tu,4)]
 |2=>[(0,o9,2),(1,o9,2),(1,tu,4)]
 |_=>[(0,o9,3)]
def TlU(gN:Nat)(J:hZ)(u:qg):Prop:=∀kind,kind=1∨kind=2∨kind=3->∃g,g<gN/\Sz J u kind g (TT kind)
section
variable {J:hZ} {N:o5->qg->Prop}
def Ax.trans'{H E Y}(h:Ax w H X)(c:Ax H E Y)(a:∀j,Y j->j<iS w.1->X j):Ax w E X:=
 ⟨c.os.trans h.os,c.tape.trans h.tape,c.output.trans h.output,aF h.size c.size,λj V Z=>(c.block j (aC V h.size) λU=>Z (a j U V)).trans (h.block j V Z)⟩
def Sz.kx{kind X}(h:Sz J u kind g T)(K:Ax u O X)(q:4<iS u.1/\¬X 4)(G:g<iS u.1/\¬X g):Sz J O kind g T:=by
 have ⟨o,⟨C,b⟩,c⟩:=h.ex;refine⟨o,⟨(Ce (K.block 4 q.1 q.2)).trans C,b⟩,λj x Z=>?_⟩;have ⟨⟨m,a,S⟩,n⟩:=c j x Z;exact⟨⟨(Ce (K.block g G.1 G.2)).trans m,(Ce (K.block g G.1 G.2)).trans a,(Ce (K.block g G.1 G.2)).trans S⟩,n⟩
def TlU.kx{X}(h:TlU y J u)(K:Ax u O X)(o:8<=y)(N:y<=iS u.1)(t:∀i,X i->y<=i):TlU y J O:=λkind E=>by
 have ⟨g,G,V⟩:=h kind E;exact⟨g,G,V.kx K ⟨Aa,λh=>by have:=t 4 h;omega⟩ ⟨Aa,λh=>by have:=t g h;omega⟩⟩
def UW{w}{x:Tl}(c0:w.cell? (iK g C)=ni (iL x.1))(Q:w.cell? ⟨g,C+1,su⟩=ni (vp x.2.1))(R:w.cell? ⟨g,C+2,su⟩=ni (iL x.2.2))(l:¬J (.cell (iK g C))/\¬J (.cell ⟨g,C+1,su⟩)/\¬J (.cell ⟨g,C+2,su⟩))(T)(k:Nat)(O:T.op=.load 288 (.tmp k))(a:Act)(E:a.eval (.tmp k)=w9 (ni (iK g C))):Go.Pair.Yields qz (execOp a.eval T) w (h9 #[iL x.1,vp x.2.1,iL x.2.2]) w/\∀f∈(execOp a.eval T).events qz w #[],Fb J f:=by
 unfold execOp;rw[O];simp only[E];refine⟨p8 ?_,λf N=>?_⟩
 ·go_simp
 ·simp[go_sem,c0,Q,R]at N;rcases N with rfl|rfl|rfl
  ·exact Cl l.1
  ·exact Cl l.2.1
  ·exact Cl l.2.2
def Afk{x:Tl}(h:w.1[g]?=ni (jf #[iL 0,vp o9,iL 0] 288))(l:∀k,¬J (.cell (iK g k)))(T)(O:T.op=.store 288 (.tmp 9) (.tmp 22))(a:Act)(f:a.eval (.tmp 9)=iI g)(L:a.eval (.tmp 22)=h9 #[iL x.1,vp x.2.1,iL x.2.2]):(∀d,Go.Pair.Yields qz (execOp a.eval T) (w.at d) uw ((((w.setCell (iJ g) (iL x.1)).setCell (iK g 1) (vp x.2.1)).setCell (iK g 2) (iL x.2.2)).at d))/\∀d,∀e∈(execOp a.eval T).events qz (w.at d) #[],Fb J e:=by
 refine⟨λd=>n9 ⟨?_,iP⟩,λd=>?_⟩
 all_goals
  have ⟨y,m,n⟩:=Jn (W:=w.at d) h iP;have ⟨Q,D,K,_⟩:=Iv (W:=w.at d) h;unfold execOp;rw[O];simp only[f,L]
 ·go_simp;simp only[at_set]
 ·intro e N;simp[go_sem,y,m,n,Q,D,K,nk _ _ _ _ (Value.bool _) uwj iP,storedEv]at N;rcases N with rfl|rfl|rfl<;>exact Cl (l _)
def Ni{w o}{p:hU}(h:w.1[g]?=ni (jf #[iL s,x7 p,iL o] 189))(l:∀k,¬J (.cell (iK g k)))(T)(k:Nat)(O:T.op=.load 189 (.tmp k))(a:Act)(E:a.eval (.tmp k)=iI g):Go.Pair.Yields qz (execOp a.eval T) w (Gp s p o) w/\∀f∈(execOp a.eval T).events qz w #[],Fb J f:=by
 have ⟨c0,Q,R⟩:=Jn h iP;unfold execOp;rw[O];simp only[E];refine⟨p8 ?_,λf N=>?_⟩
 ·go_simp
 ·simp[go_sem,c0,Q,R]at N;rcases N with rfl|rfl|rfl<;>exact Cl (l _)
def OR{s o p}(h:w.1[g]?=ni (jf #[iL 0,x7 iN,iL 0] 189))(l:∀k,¬J (.cell (iK g k)))(T){i j:Nat}(O:T.op=.store 189 (.tmp i) (.tmp j))(a:Act)(f:a.eval (.tmp i)=iI g)(L:a.eval (.tmp j)=Gp s p o):(∀d,Go.Pair.Yields qz (execOp a.eval T) (w.at d) uw ((((w.setCell (iJ g) (iL s)).setCell (iK g 1) (x7 p)).setCell (iK g 2) (iL o)).at d))/\∀d,∀e∈(execOp a.eval T).events qz (w.at d) #[],Fb J e:=by
 refine⟨λd=>n9 ⟨?_,iP⟩,λd=>?_⟩
 all_goals
  have ⟨y,m,r⟩:=Jn (W:=w.at d) h iP;have ⟨Q,D,K,_⟩:=Iv (W:=w.at d) h;unfold execOp;rw[O];simp only[f,L]
 ·go_simp;simp only[at_set]
 ·intro e N;simp[go_sem,y,m,r,Q,D,K,nk _ _ _ _ (Value.string _) uwj iP,storedEv]at N;rcases N with rfl|rfl|rfl<;>exact Cl (l _)
def TL(b:Nat)(s:Int)(cb:Nat)(ev:E)(g o m j:Nat)(f:iD):Act:=⟨#[.map (ni b),iL s,f 2,f 3,f 4,iI cb,f 6,ev,f 8,f 9,f 10,f 11,f 12,f 13,f 14,f 15,f 16,um (ni (iK g o)) m m,iL m,iL j,f 20,f 21,f 22,f 23,f 24,f 25,f 26,f 27,f 28,f 29,f 30,f 31,f 32,f 33,f 34,f 35,f 36,f 37,f 38,f 39,f 40,f 41,f 42,f 43,f 44,f 45,f 46,f 47,f 48,f 49,f 50,f 51],[]⟩
def Amp{b cb o m a}(h:a=TL b s cb H g o m j (λj=>a.tmps.getD j uw)):∃f,a=TL b s cb H g o m j f:=⟨_,h⟩
end
set_option maxRecDepth 100000 in
def Afe{z W B J Y}(y)(h:y 16=.func (.func 62) #[] #[iI W,iI B,iI J,iI Y])(w):stepG qz tu (G ((base 46).at (Kg y) [.inRegion NC [1],.code V4]) z) w=.spawn (GO z y) (born qz (call62 W B J Y)) w #[]:=by
 simp only[Code.opsOf,NC,r6,Ka,Code.core,Code.one,Code.two,f46,bJ];rw[stepG_spawn iP Ac Ae (d:=call62 W B J Y) (w':=w) (f:=.func 62) (c:=#[iI W,iI B,iI J,iI Y]) (by simp[go_sem,execOp,resolve,uj,hv6,Kg,call62,h]) iP];rw[listed_nil (by simp[go_sem,execOp,resolve,uj,hv6,Kg,h])]
 rfl
section
variable {H:E2} {cb:Nat} {i:hQ} {ob:iF} {n:Ren} {e:qg} {p:hZ} {o:gY} {q:hQ} {cp:iB} {I:List (hQ)->qg->Prop} {Y:iH}
def bbW(ob:iF):Nat:=if ob=su then 13 else 14
@[reducible] noncomputable def DE(m In:hZ)(n:Ren)(e u:qg)(p:hZ)(k N cb U:Nat)(b:mi)(d:iB)(ob:iF)(a:E)(q:hQ)(t:Bool)(f:pz)(cp:iB)(z:List zq)(I:List (hQ)->qg->Prop):Mw:=
 KI (LE n N In p k) (N+2) (N+4) 10 9 (N+5) (14+iR ob.toList+iR a.ownBlock.toList) (Q n) (λi=>((Jv N cb ob a.ownBlock).map (Q n)).getD i 0) e e.1.size (PD m cb U N) (TZ U) (KL (N+4) (N+2) f cp (iI N) z I)
  (TY (TZ U) (· = 8) (Iy u N cb U b d ob a) (a.ownBlock.map λ_=>Tv ob) 8 U (bbW ob) 9 10 q t)
def Amv{B c}(E:Dw m v cb U b d a i ob K L W)(F:Fi v cb U B c u)(s:Dq qz n m (H.Own p) h u e)(f:H.Shd e p n){l}(g:Gy (Q n (iS v.1+4)) l):¬H.In l:=by
 obtain⟨q,rfl,k⟩:=g;refine Adl s f.kept F.b4 Ad (λj=>E.jn.new Aa j) (λj o=>?_) k;exact(s.own (.cell ⟨iS v.1+4,j,su⟩) ⟨_,((Cg F.b4 j).trans (aO o))⟩ (E.jn.new Aa j)).2
def An0(E:Dw m v cb U b d a i ob K L W)(J:Fi v cb U (Jd ob K (iR W) L) KK u)(s:Dq qz n m (H.Own p) h u e)(r:H.Shd e p n)(G:0<k):(DE m H.In n e u p k v.1.size cb U b d ob a q t f cp (fr::cs) I).Ok:=by
 have lt:∀o,o<5->Q n (iS v.1+o)<iS e.1:=λo V=>(s.sm 0).lt _ (by rw[J.size];omega);have w:∀o(c:Addr),c.block=Q n o->o≠iS v.1+4->¬Gy (Q n (iS v.1+4)) (.cell c):=λo c y V⟨F,z,A⟩=>by
  cases z;exact V (Gx (y.symm.trans A))
 refine⟨⟨G,λl x B=>?_,(Mr (l:=.obj (iS v.1+2)) s ⟨_,J.b2,λ_ _ _ z=>by cases z⟩ (E.jn.obj _)),λl Y=>?_⟩,λz=>by have:=Gx z;omega,lt 4 Aa,lt 2 Aa,r.low,λl Y=>?_,λo j D=>?_,p8 (n9 (n9 iP)),λC Y=>?_,λC Y=>?_,λM o N=>by simp[Ei]⟩
 ·obtain⟨c,rfl,z⟩:=x;exact(Mr (l:=.cell ⟨iS v.1+4,0,su⟩) s ⟨_,cellOf (j:=0) J.b4 iP⟩ (E.jn.new Aa 0)) (r.blk.cell c _ B z.symm)
 ·rcases Y with⟨c,rfl,g|g|g⟩|V
  ·exact⟨w _ c g Aa,Ad,λB=>(Mr (l:=.cell (iJ v.1.size)) s ⟨_,cellOf (j:=0) J.3 iP⟩ (E.jn.new (aB _) 0)) (r.blk.cell c _ B g.symm)⟩
  ·exact⟨w _ c g Aa,Ad,λB=>(Mr (l:=.cell ⟨iS v.1+1,0,su⟩) s ⟨_,cellOf (j:=0) J.4 iP⟩ (E.jn.new Aa 0)) (r.blk.cell c _ B g.symm)⟩
  ·exact⟨w _ c g Aa,Ad,λB=>(Mr (l:=.cell ⟨iS v.1+3,0,su⟩) s ⟨_,cellOf (j:=0) J.6 iP⟩ (E.jn.new Aa 0)) (r.blk.cell c _ B g.symm)⟩
  ·refine⟨λx=>Amv E J s r x V,λz=>?_,λZ=>r.off l Z V⟩;rw[z]at V;exact(s.own (.obj (iS v.1+2)) ⟨_,J.b2,λ_ _ _ z=>by cases z⟩ (E.jn.obj _)).2 V
 ·rcases Y with⟨c,rfl,g|g|g⟩|V
  ·show c.block<_;rw[g];exact lt 0 Aa
  ·show c.block<_;rw[g];exact lt 1 Aa
  ·show c.block<_;rw[g];exact lt 3 Aa
  ·exact r.kept.low V
 ·rcases D with⟨_,z,_⟩|z
  ·cases z;show 8<14+_+_;omega
  ·cases z
 ·rcases Y with(z|z|z)|z
  ·cases z
  ·cases z
  ·cases z;rfl
  ·exact(E.jn.obj _ z).elim
 ·rcases Y with⟨_,z,_⟩|z
  ·cases z
  ·cases z;rfl
def RF(E:Dw m v cb U b d a i ob K L W){B c}(F:Fi v cb U B c u):Plain (Iy u v.1.size cb U b d ob a):=λe o O=>by
 obtain⟨x,Z,rfl⟩:=U6 O;unfold Wn;split
 ·trivial
 ·split
  ·trivial
  ·rename_i J;have ⟨f,g,h,Y⟩:=U5 E F (aV Z) J;rw[Y];split<;>trivial
def Af3(b:a=.func (.func f) #[] cp)(N B):Yk (N+4) (N+2) f cp (iI N) (yR cb U N B a):=⟨b,iP,iP,iP⟩
def Apq{B z j}(b:Bn (.up M) (G ((base 46).at (Kg (yE cb U v.1.size B a (my #[]) (P5 v.1.size))) j) z)=G ((base 46).at (Kg (yE cb U v.1.size B a (my #[]) (P5 v.1.size))) j) z)(c:iS v.1+5<=M):Bn (.up M) (Ge [.code Kr] z (yR cb U v.1.size B a))=Ge [.code Kr] z (yR cb U v.1.size B a):=by
 rw[Ep,Gu,Y0]at b;have S:z.map _=z:=aK xmf b;have L:(Kg λi=>A1 _ _).tmps=(Kg _).tmps:=aK (λh:o5=>h.frame.tmps) b;rw[Mq,S];unfold Ge
 congr 2
 simp[Kg,yE]at L;simp[Kg,yR,yE,L]
end
def Ak6(kind:Nat)(E:kind<4)(w):(Instr.indexAt 286 (w9 (ni ⟨4,0,su⟩)) (iL kind)).events qz w #[]=#[]/\(Instr.indexAt 286 (w9 (ni ⟨4,0,su⟩)) (iL kind)).run qz w=.ok (w9 (ni ⟨4,kind,su⟩)) w:=by
 match kind,E with
 |0,_=>exact⟨Ab,Ab⟩
 |1,_=>exact⟨Ab,Ab⟩
 |2,_=>exact⟨Ab,Ab⟩
 |3,_=>exact⟨Ab,Ab⟩
def TL2(b:Nat)(s:Int)(cb:Nat)(ev:E)(g o m j tb:Nat)(pth:hU)(f:iD):Act:=⟨#[.map (ni b),iL s,f 2,f 3,f 4,iI cb,f 6,ev,f 8,iI tb,x7 pth,f 11,f 12,f 13,f 14,f 15,f 16,um (ni (iK g o)) m m,iL m,iL j,f 20,f 21,f 22,f 23,f 24,f 25,f 26,f 27,f 28,f 29,f 30,f 31,f 32,f 33,f 34,f 35,f 36,f 37,f 38,f 39,f 40,f 41,f 42,f 43,f 44,f 45,f 46,f 47,f 48,f 49,f 50,f 51],[]⟩
def Ajm{b cb o m c D a}(h:a=TL2 b s cb H g o m j c D (λj=>a.tmps.getD j uw)):∃f,a=TL2 b s cb H g o m j c D f:=⟨_,h⟩
section
variable {J:hZ} {N:o5->qg->Prop}
def Afp(az:VW J c u)(b s kind)(hk:kind<4)(l g n v F T)(hT:iR T<=3)(eo:b≠4)(dc:b≠F)(ks)(Z:Ld u b ks)(dd:ks.Nodup)(nb:¬c b)(de:Sz J u kind F T)(h4:4<iS u.1)(hg:F<iS u.1)(hs:(Lit.int yi s).wf=tu)(dg:∀x∈T,(Lit.int yi x.1).wf=tu)(hq:l.size<=1000)(dh:Eb l=tu):Bg qz tu J N 191 #[.map (ni b),iL s,Mx kind l g n v] u λov u'=>VW J c u'/\Ax u u' (· = b)/\Ld u' b (Fg s l T ks).2/\u'.ownsRow u.1.size 266 2 ov (Fg s l T ks).1.length (PF (Fg s l T ks).1):=by
 have di:=Bl.lt Z;obtain⟨o,⟨dj,dk⟩,dm⟩:=de.ex;have ep:(kind:Int)<4:=Aa;have nr:¬c u.1.size:=λZ=>by have:=az.lt Z;omega
 have jr:∀k,¬J (.cell (iK u.1.size k)):=λk Z=>nr (az.2 _ Z);have dp:∀X,J (.obj X)->¬X=b:=λX d E=>by
  obtain⟨o,ho,dq⟩:=az.3 X d;obtain⟨es,cl,hb⟩:=Z.ex;rw[E,hb.1]at ho;cases ho;cases dq
 obtain⟨RR,c9⟩:∃R,Fg s l T ks=R:=⟨_,iP⟩;rw[c9];refine Bh func191 Ac iP (R:=λbo=>bo.getD 6 uw) (λ_ _=>we Ac _ _ _) (λ_ _=>xrg Ac _ _) ?_;simp only[ntmps191,na,Nat.reduceAdd,Nat.reduceSub];refine Rxn ?_;refine Dl (Dx kind l g n v) 152 ?_;walk_nrm;refine Ths ?_;have ax:=Ba u (Dx kind l g n v) 152 iO;have L:=az.alloc (Dx kind l g n v) 152;have bd:(u.alloc (jf (Dx kind l g n v) 152)).1[iS u.1]?=ni (jf (Dx kind l g n v) 152):=sx _ _;generalize u.alloc (jf (Dx kind l g n v) 152)=V at ax L bd⊢;refine Rxn ?_;refine Ths ?_;refine M8j ?_;refine Mwc ?_;refine Bq (cellOf (j:=0) bd iP) (jr 0) ?_;walk_nrm;have bq:=Ak6 kind hk;refine Fh (S:=env Lv) (x:=w9 (ni ⟨4,kind,su⟩)) iP Ac (B7 Ab) (A4 _ _) (λw=>by have O:=(bq w).2;go_simp) (λw=>by have O:=(bq w).1;have M:=(bq w).2;simp[go_sem,O,M]) ?_;walk_nrm;refine Bq ((Ce (ax.block 4 h4 id)).trans dj) dk ?_;walk_nrm;refine Wad ?_;refine Vj2 ?_;refine Du ?_;refine Mt (n:=iR T) (I:=λt cc w=>∃(j:Nat) (ev:w8) (a:List (Int×hU)) (W:iC),t+j=iR T/\(∃f,cc=TL b s u.1.size ev F o (iR T) j f)/\VW J c w/\(iR a<=j/\W.Nodup/\(a++(Fg s l (T.drop j) W).1,(Fg s l (T.drop j) W).2)=RR)/\w.ownsRow V.1.size 266 2 ev (iR a) (PF a)/\Ax V w (· = b)/\Ld w b W) ?_ ?_
 case refine_2=>exact⟨0,_,[],ks,Aa,Amp iP,L,⟨aB _,dd,by simpa using c9⟩,World.ownsRow_nil _ _ _ _,Ax.refl _ _,Z.keep (ax.block _ di id)⟩
 rintro t cc w⟨j,ev,a,W,er,⟨f,rfl⟩,Ww,⟨et,br,Q⟩,bf,Kw,b9⟩;unfold TL;have ba:Ax u w (· = b):=(ax.mono λ_ Z=>Z.elim).trans Kw;have dr:=ltOf bd;by_cases hj:j<iR T
 case neg=>
  refine Rxn ?_;refine Kbk ?_;refine Vj2 ?_;refine Aw ?_;refine S74 ?_;refine Rxn ?_;refine Wad ?_;refine Vj2 ?_;rw[gH Aa]at Q;simp only[Fg,bW]at Q;rw[←Q];exact Dm ⟨n9 iP,iP,Ww,ba,b9,Ad6 bf (eS dr)⟩
 case pos=>
 obtain⟨x,z⟩:∃x,T[j]?=ni x:=⟨_,aG hj⟩;obtain⟨⟨c0,c1,c2⟩,cd⟩:=dm j x z;have bu:¬F=b:=λE=>dc E.symm;have e0:w.cell? ⟨F,o+j * 3,su⟩=ni (iL x.1):=(Ce (ba.block F hg bu)).trans c0;have e1:w.cell? ⟨F,o+j * 3+1,su⟩=ni (vp x.2.1):=(Ce (ba.block F hg bu)).trans c1;have e2:w.cell? ⟨F,o+j * 3+2,su⟩=ni (iL x.2.2):=(Ce (ba.block F hg bu)).trans c2;have dt:=dg x (aV z);have du:T.drop j=x::T.drop (j+1):=by
  rw[eP hj]
  congr 1
  exact(aD.1 z).2
 rw[du,Fg]at Q;obtain⟨D,bh⟩:∃D,Ms l x.2.1=D:=⟨_,iP⟩;rw[bh]at Q;have dv:D.size<=1000:=by
  rw[←bh];unfold Ms;split
  ·unfold Ec;split
   ·decide
   ·rw[cM];omega
  ·exact hq
 have eu:(j:Int)<(iR T:Int):=Aa;have ew:IntKind.i64.wrap ((j:Int)+1)=((j+1:Nat):Int):=by simp[IntKind.wrap,IntKind.bits,IntKind.signed];omega
 refine Rxn ?_;refine Mz8 ?_;refine Rxn ?_;refine B6 (w9 (ni ⟨F,o+j * 3,su⟩)) ?_;walk_nrm;refine Cy (S:=env Lv) (fn:=191) iP Ac (B7 Ab) (A4 _ _) (x:=h9 #[iL x.1,vp x.2.1,iL x.2.2]) (v':=w) (λm=>(UW (J:=J) (w:=w.at m) e0 e1 e2 cd _ _ iP _ Ac).1) (λm=>(UW (J:=J) (w:=w.at m) e0 e1 e2 cd _ _ iP _ Ac).2) ?_;walk_nrm;refine Dl #[iL 0,vp o9,iL 0] 288 ?_;walk_nrm;have K2:=Ba w #[iL 0,vp o9,iL 0] 288 iO;have W2:=Ww.alloc #[iL 0,vp o9,iL 0] 288;have b2:(w.alloc (jf #[iL 0,vp o9,iL 0] 288)).1[iS w.1]?=ni (jf #[iL 0,vp o9,iL 0] 288):=sx _ _;generalize w.alloc (jf #[iL 0,vp o9,iL 0] 288)=ab at K2 W2 b2⊢;have nn:¬c w.1.size:=λZ=>by have:=Ww.lt Z;omega
 have U:∀k,¬J (.cell (iK w.1.size k)):=λk Z=>nn (az.2 _ Z);have a6:=Afk (J:=J) (x:=x) b2 U;refine Cy (S:=env Lv) (fn:=191) iP Ac (B7 Ab) (A4 _ _) (x:=uw) (v':=((ab.setCell (iJ w.1.size) (iL x.1)).setCell (iK w.1.size 1) (vp x.2.1)).setCell (iK w.1.size 2) (iL x.2.2)) (a6 _ iP _ Ac Ac).1 (a6 _ iP _ Ac Ac).2 ?_;walk_nrm;have aa:B8 ab (((ab.setCell (iJ w.1.size) (iL x.1)).setCell (iK w.1.size 1) (vp x.2.1)).setCell (iK w.1.size 2) (iL x.2.2)) w.1.size #[iL x.1,vp x.2.1,iL x.2.2] 288:=(((B8.refl b2).set 0 _).set 1 _).set 2 _;have W3:VW J c (((ab.setCell (iJ w.1.size) (iL x.1)).setCell (iK w.1.size 1) (vp x.2.1)).setCell (iK w.1.size 2) (iL x.2.2)):=((W2.set _ _ _).set _ _ _).set _ _ _;generalize ((ab.setCell (iJ w.1.size) (iL x.1)).setCell (iK w.1.size 1) (vp x.2.1)).setCell (iK w.1.size 2) (iL x.2.2)=w3 at aa W3⊢;have cf:Ax w w3 iO:=K2.trans' (Ax.of_grown (X:=(· = iS w.1)) aa.grown (p8 iP)) λj hj Ig=>Aa;have b3:=aa.blk;have dw:w3.1[iS u.1]?=ni (jf (Dx kind l g n v) 152):=cf.get (Kw.get bd Aa) id;refine Vj2 ?_;refine Rxn ?_;refine V2g ?_;refine Bq (cellOf (j:=1) dw iP) (jr 1) ?_;walk_nrm;refine Ths ?_;refine Aw ?_;refine Cr (Q:=λE a' w'=>E=.normal/\(∃f',a'=TL2 b s u.1.size ev F o (iR T) j w.1.size D f')/\VW J c w'/\Ax w3 w' iO) ?_ ?_
 ·refine Rxn ?_;refine V2g ?_;refine Bq (cellOf (j:=1) b3 iP) (U 1) ?_;walk_nrm;refine Vj2 ?_;cases cg:x.2.1 with
  |false=>
   refine Ofi ?_;obtain rfl:l=D:=by simpa[Ms,cg] using bh
   exact⟨trivial,Ajm iP,W3,Ax.refl _ _⟩
  |true=>
   refine E37 ?_;refine Mwc ?_;refine A3 (Gl (f:=180) (args:=#[x7 l]) Ae W3 (X:=λ_=>False) (R:=λq _=>q=x7 D) (λ_ _ Z=>Z) λI hs=>(Tt I l Aa dh).mono λE w' Z=>⟨⟨_,Z.1,by rw[←bh,cg];rfl⟩,by rw[Z.2];exact Ax.refl _ _⟩) iP Ac iP Af ?_;rintro q G⟨b6,e,_,_,_,rfl⟩;walk_nrm;refine Ths ?_;exact⟨trivial,Ajm iP,e,b6⟩
 rintro E a' G⟨rfl,⟨f',rfl⟩,e,b7⟩;simp only[A0];unfold TL2;have b4:=b7.get b3 id;have dx:=cf.trans b7;refine Rxn ?_;refine Trb ?_;refine Bq (cellOf (j:=0) b4 iP) (U 0) ?_;walk_nrm;refine V2g ?_;refine Dl #[iL 0,x7 iN,iL 0] 189 ?_;walk_nrm;have Y:=Ba G #[iL 0,x7 iN,iL 0] 189 iO;have ay:=e.alloc #[iL 0,x7 iN,iL 0] 189;have ao:(G.alloc (jf #[iL 0,x7 iN,iL 0] 189)).1[iS G.1]?=ni (jf #[iL 0,x7 iN,iL 0] 189):=sx _ _;generalize G.alloc (jf #[iL 0,x7 iN,iL 0] 189)=aq at Y ay ao⊢;have aw:¬c G.1.size:=λZ=>by have:=e.lt Z;omega
 have a8:∀k,¬J (.cell (iK G.1.size k)):=λk Z=>aw (az.2 _ Z);have a6:=OR (J:=J) (s:=s) (p:=D) (o:=x.1) ao a8;refine Cy (S:=env Lv) (fn:=191) iP Ac (B7 Ab) (A4 _ _) (x:=uw) (v':=((aq.setCell (iJ G.1.size) (iL s)).setCell (iK G.1.size 1) (x7 D)).setCell (iK G.1.size 2) (iL x.1)) (a6 _ iP _ Ac Ac).1 (a6 _ iP _ Ac Ac).2 ?_;walk_nrm;have ah:B8 aq (((aq.setCell (iJ G.1.size) (iL s)).setCell (iK G.1.size 1) (x7 D)).setCell (iK G.1.size 2) (iL x.1)) G.1.size #[iL s,x7 D,iL x.1] 189:=(((B8.refl ao).set 0 _).set 1 _).set 2 _;have af:VW J c (((aq.setCell (iJ G.1.size) (iL s)).setCell (iK G.1.size 1) (x7 D)).setCell (iK G.1.size 2) (iL x.1)):=((ay.set _ _ _).set _ _ _).set _ _ _;generalize ((aq.setCell (iJ G.1.size) (iL s)).setCell (iK G.1.size 1) (x7 D)).setCell (iK G.1.size 2) (iL x.1)=P at ah af⊢;have cj:Ax G P iO:=Y.trans' (Ax.of_grown (X:=(· = iS G.1)) ah.grown (p8 iP)) λj hj Ig=>Aa;have an:=ah.blk;have bw:=dx.trans cj;refine Vj2 ?_;refine Rxn ?_;refine V2g ?_;refine Cy (S:=env Lv) (fn:=191) iP Ac (B7 Ab) (A4 _ _) (x:=Gp s D x.1) (v':=P) (λm=>(Ni (J:=J) (w:=P.at m) an a8 _ _ iP _ Ac).1) (λm=>(Ni (J:=J) (w:=P.at m) an a8 _ _ iP _ Ac).2) ?_;walk_nrm;obtain⟨lk,bx⟩:=RA hs dt dv;have dy:Ld P b W:=b9.keep (bw.block _ (Bl.lt b9) id);obtain⟨na,H,rfl⟩:∃na H,ev=um na (iR a) H:=by
  rcases bf.2 with⟨E,h0⟩|⟨F,ck,cm,E,_⟩
  ·exact⟨su,0,by rw[E,h0]⟩
  ·exact⟨_,_,E⟩
 have bz:∀r,(um na (iR a) H).ownBlock=ni r->iS V.1<=r:=λr i=>by
  rcases bf.2 with⟨E,h0⟩|⟨F,ck,cm,E,S,_⟩
  ·rw[E]at i;simp[yf]at i
  ·rw[E]at i;simp[yf]at i;omega
 have bj:∀I,Yb c P I->∀fd:Bool,(fd=tu↔Gp s D x.1∈W)->(Instr.lookup 92 (.map (ni b)) (Gp s D x.1) tu).run qz I=.ok (my #[h9 #[],vp fd]) I:=λI hs fd ak=>by
  have hL:=dy.keep (hs.same nb);cases fd with
  |true=>exact Bl.look_some tu hL Wm ng8 bx (v:=.agg #[]) (aZ.2 ⟨_,ak.1 iP,iP⟩)
  |false=>exact Bl.look_none tu hL Wm ng8 (Ai0 I) bx (λp hp E=>by
    obtain⟨k,hk,rfl⟩:=aZ.1 hp;simp only at E;subst E;exact absurd (ak.2 hk) Ad)
 obtain⟨fd,ak⟩:∃fd:Bool,fd=tu↔Gp s D x.1∈W:=by
  by_cases bb:Gp s D x.1∈W
  ·exact⟨tu,by simp[bb]⟩
  ·exact⟨o9,by simp[bb]⟩
 refine Dy (S:=env Lv) af iP Ac (B7 Ab) (A4 _ _) (X:=λ_=>False) (R:=λx y=>x=my #[h9 #[],vp fd]) (λ_ _ Z=>Z) (λI hs=>?_) ?_
 ·refine⟨_,I,p8 ?_,iP,Ax.refl _ _⟩;have d:=bj I hs fd ak;exact Yv4
 rintro q au a1 ae aj av c8 rfl;walk_nrm;refine Trb ?_;refine Dl #[] 119 ?_;walk_nrm;have K8:=Ba au #[] 119 iO;have al:=aj.alloc #[] 119;generalize au.alloc (jf #[] 119)=B at K8 al⊢;refine Cy (S:=env Lv) (fn:=191) iP Ac (B7 Ab) (A4 _ _) (x:=uw) (v':=B) (λg=>n9 ⟨by walk_nrm;go_simp;first|done|rfl,iP⟩) Ai5 ?_;walk_nrm;refine Ths ?_;refine Rxn ?_;refine Ths ?_;have bk:=ae.trans K8;have bm:=bw.trans bk;have cn:=bk.get an id;have dz:=(cj.trans bk).get b4 id;have cp:Ld B b W:=b9.keep (bm.block _ (Bl.lt b9) id);have cq:B.ownsRow V.1.size 266 2 (um na (iR a) H) (iR a) (PF a):=Hg bf λr _ hl=>bm.block r hl id;cases fd with
 |false=>
  refine Ofi ?_;have e3:Gp s D x.1∉W:=λZ=>by simp at ak;exact ak Z
  rw[aL e3]at Q;refine Ay ?_;refine B6 (iL ((j+1:Nat):Int)) ?_;walk_nrm;refine Ths ?_;exact⟨iR T - (j+1),Aa,j+1,_,a,W,Aa,Amp iP,al,⟨Aa,br,Q⟩,cq,Kw.trans (bm.mono λ_ Z=>Z.elim),cp⟩
 |true=>
  have bb:Gp s D x.1∈W:=ak.1 iP;obtain⟨A,C,bn⟩:=fD bb;refine E37 ?_;refine Rxn ?_;refine V2g ?_;refine Cy (S:=env Lv) (fn:=191) iP Ac (B7 Ab) (A4 _ _) (x:=Gp s D x.1) (v':=B) (λm=>(Ni (J:=J) (w:=B.at m) cn a8 _ _ iP _ Ac).1) (λm=>(Ni (J:=J) (w:=B.at m) cn a8 _ _ iP _ Ac).2) ?_;walk_nrm;refine Dy (S:=env Lv) al iP Ac (B7 Ab) (A4 _ _) (X:=(· = b)) (R:=λx y=>Ld y b (A++C)) dp (λI hs=>?_) ?_
  ·obtain⟨aj,ad,m7,g7⟩:=Bl.drop_some (ty:=0) (cp.keep (hs.same nb)) Wm ng8 bx (A:=A.map λk=>(k,h9 #[])) (C:=C.map λk=>(k,h9 #[])) (v:=h9 #[]) (by rw[bn];simp);refine⟨my #[],aj,p8 ?_,by rw[Ld,cP];exact m7,Ax.of_grown g7 (p8 iP)⟩;exact Zz1
  rintro q h L9 ai W9 e4 ey e5;walk_nrm;refine Vj2 ?_;have cr:Ld h b (A++C):=e5.keep (e4 _ nb).symm;have ez:b<iS V.1:=by have:=ax.size;omega
  have e6:h.ownsRow V.1.size 266 2 (um na (iR a) H) (iR a) (PF a):=Hg cq λr b8 hl=>ai.block r hl λE=>Aa;have fc:b<iS w.1:=by have:=ba.size;omega
  have a7:=ai.get dz Aa;have cu:Ax V h (· = b):=(Kw.trans (bm.mono λ_ Z=>Z.elim)).trans ai;refine Qit ?_;refine Bq (cellOf (j:=2) a7 iP) (U 2) ?_;walk_nrm;refine Wad ?_;refine Cy (S:=env Lv) (fn:=191) iP Ac (B7 Ab) (A4 _ _) (x:=um (ni (iJ h.1.size)) 1 1) (v':=h.alloc (jf #[iL x.2.2,x7 D] 266)) (λg=>p8 Kx) Ai5 ?_;walk_nrm;have b5:=Ba h #[iL x.2.2,x7 D] 266 iO;have K:=W9.alloc #[iL x.2.2,x7 D] 266;have cw:(h.alloc (jf #[iL x.2.2,x7 D] 266)).1[iS h.1]?=ni (jf #[iL x.2.2,x7 D] 266):=sx _ _;generalize h.alloc (jf #[iL x.2.2,x7 D] 266)=cx at b5 K cw⊢;have cy:cx.ownsRow V.1.size 266 2 (um na (iR a) H) (iR a) (PF a):=Hg e6 λr _ hl=>b5.block r hl id;have e7:¬c h.1.size:=λZ=>by have:=W9.lt Z;omega
  have fe:∀r,(um na (iR a) H).ownBlock=ni r->¬c r:=λr i hB=>by
   have:=bz r i;have:=L.lt hB;omega
  obtain⟨i0,e8,e9,ec,ed⟩:=info_parts Tryz.info266;have ee:iS V.1<=iS cx.1:=by have:=cu.size;have:=b5.size;omega
  refine Dy (S:=env Lv) K iP Ac (B7 Ab) (A4 _ _) (X:=λc6=>(um na (iR a) H).ownBlock=ni c6) (R:=λq y=>y.ownsRow V.1.size 266 2 q (a++[(x.2.2,D)]).length (PF (a++[(x.2.2,D)]))) (λX d z=>?_) (λI hs=>?_) ?_
  ·obtain⟨ob,O,M⟩:=K.3 X d;rcases cy.2 with⟨E,_⟩|⟨r,ck,cm,E,_,ar,_⟩
   ·rw[E]at z;cases z
   ·rw[E]at z;exact Dpx
  ·have ef:I.ownsRow V.1.size 266 2 (um na (iR a) H) (iR a) (PF a):=Hg cy λr b8 _=>hs.same λhB=>by have:=L.lt hB;omega
   have eg:I.1[iS h.1]?=ni (jf #[iL x.2.2,x7 D] 266):=(hs.same e7).trans cw;obtain⟨r,c',w',d,M,h3,h4,h5⟩:=run_append_lies (P:=qz) I 263 263 V.1.size 266 i0 _ 2 24 underlying263 e8 e9 ec ed iP Ae (.slice na (iR a) H) (iR a) (PF a) ef (iJ h.1.size) 1 1 [iL x.2.2,x7 D] iP (World.news_of_block eg) (by intro u hu;simp at hu;rcases hu with rfl|rfl<;>rfl) Aa Pc Aa (by rw[hs.size];exact ee) _ iP;refine⟨_,w',p8 ?_,by rw[QN];simpa using M,⟨h3.os,h3.tape,h3.output,h3.size,λk hk z=>h3.block k hk (λZ=>z Z.symm)⟩⟩;walk_nrm;unfold execOp;simp only[resolve,invoke,builtin,uln,Sem.run_pure,Result.andThen_ok,cK,bA,cO];walk_nrm;rw[d]
   rfl
  rintro q c7 fg cz eh bc fh bg;walk_nrm;refine Ths ?_;have da:(A++C).Nodup/\((a++[(x.2.2,D)])++(Fg s l (T.drop (j+1)) (A++C)).1,(Fg s l (T.drop (j+1)) (A++C)).2)=RR:=by
   have db:=HY (A:=A) (C:=C) (k:=Gp s D x.1) (bn▸br);rw[aJ bb,bn,db]at Q;refine⟨?_,by simpa using Q⟩;rw[←db];exact List.Pairwise.filter _ (bn▸br)
  have ei:Ld c7 b (A++C):=cr.keep (by rw[cz.block b (by have:=ai.size;have:=b5.size;have:=bk.size;have:=bw.size;omega) (λE=>by have:=bz b E;omega),b5.block b (Bl.lt cr) id]);have ej:c7.ownsRow V.1.size 266 2 q (a++[(x.2.2,D)]).length (PF (a++[(x.2.2,D)])):=Hg bg λr b8 _=>(bc r λhB=>by have:=L.lt hB;omega).symm
  have ek:Ax V c7 (· = b):=(cu.trans (b5.mono λ_ Z=>Z.elim)).trans' cz λc6 hi Ig=>by have:=bz c6 hi;omega
  refine Ay ?_;refine B6 (iL ((j+1:Nat):Int)) ?_;walk_nrm;refine Ths ?_;exact⟨iR T - (j+1),Aa,j+1,_,a++[(x.2.2,D)],A++C,Aa,Amp iP,eh,⟨Ah,da.1,da.2⟩,ej,ek,ei⟩
end
section
variable {H:E2} {cb:Nat} {i:hQ} {ob:iF} {n:Ren} {p:hZ} {o:gY} {q:hQ} {h:iB} {r:List (hQ)->qg->Prop} {X:zq}
def Ajw(cb co N:Nat)(bsl clo:E)(z:List zq):o5:=G ((base 46).at (Kg (yE cb co N bsl clo (my #[]) (P5 N))) [.inRegion NC [1],.code V4]) z
def QL(E:Dw m v cb co b d a i ob K L W)(F:Fi v cb co (Jd ob K (iR W) L) KK u)(R:E6 i W o q t)(Q:Pl i)(x:∀ms v y,r ms v->r ms (World.at v y))(A:Aa2 (PD m cb co v.1.size) f h r)(D:r o (Bb (Lq v.1.size ob a.ownBlock) u))(N:Plain u)(s:Dq qz n m (H.Own p) (Ajw cb co v.1.size (Jd ob K (iR W) L) (.func (.func f) #[] h) (X::cs)) u w)(O:(DE m H.In n w u p k v.1.size cb co b d ob a q t f h (X::cs) r).Ok):∀P,(DE m H.In n w u p k v.1.size cb co b d ob a q t f h (X::cs) r).L.TI (KBE (Iy u v.1.size cb co b d ob a) co (nB E F s)) P w 0 0->∃G,JD (DE m H.In n w u p k v.1.size cb co b d ob a q t f h (X::cs) r) (Acn x O) G (GO ((X::cs).map (Bm n)) λc=>A1 n (yE cb co v.1.size (Jd ob K (iR W) L) (.func (.func f) #[] h) (my #[]) (P5 v.1.size) c)) (born qz (call62 (sh n (iS v.1+4)) (sh n (iS v.1+3)) (sh n v.1.size) (sh n (iS v.1+1)))) w P:=by
 have lt:∀c,c<5->sh n (iS v.1+c)<iS w.1:=λc V=>(s.sm 0).lt _ (by rw[F.size];omega);have I:=Al9 (k:=k) E F s (Apq (z:=X::cs) s.wf.2 (by rw[F.size];exact aB _));have sb:=Ama (k:=k) E F s;have S:w.cell? ⟨sh n v.1.size,0,su⟩=ni (w9 (ni ⟨sh n cb,co,su⟩)):=by
  rw[s.cellW (cellOf (j:=0) F.3 iP) (E.jn.new (aB _) 0)];simp[Ei]
 have B:w.cell? ⟨sh n (iS v.1+3),0,su⟩=ni (.chan (ni (sh n (iS v.1+2)))):=by
  rw[s.cellW (cellOf (j:=0) F.6 iP) (E.jn.new Aa 0)];simp
 have a6:13<14+iR ob.toList+iR a.ownBlock.toList:=Aa;obtain⟨z,J⟩:=Ano E F;refine JD.start (ms:=o.map rowOf) (n:=n) (n':=nB E F s) (g:=Ge [.code Kr] (X::cs) (yR cb co v.1.size (Jd ob K (iR W) L) (.func (.func f) #[] h))) (g':=GV 9 13 11 12 10 8 co (Jj 14 (Jd ob K (iR W) L))) (v:=Bb (Lq v.1.size ob a.ownBlock) u) (v':=Iy u v.1.size cb co b d ob a) (mA:=10) (mB:=15)
  (aB _) (λl M=>?_) I sb (EV.stop (P:=qz) (main:=tu) (J:=PD m cb co v.1.size) (λy=>scA x A o _ _ (Af3 iP _ _) (x _ _ _ D)) (Qw N)) ?_ (by rw[Dd];exact F.size) Lr (λc _=>rfl) (λc V=>?_) (.refl _) ⟨Ai,iP⟩ ⟨Ai,iP⟩ ⟨Ai,N9 E F s iP⟩ ⟨Ai,N9 E F s iP⟩ ?_ ?_ ?_ ?_
 ·obtain⟨a7,U,_,rfl⟩:=M;exact Nj (sb.sm 0) U
 ·refine(?_:EV qz o9 (TZ co) _ _ _) (RF E F);unfold GV;rw[Aki];refine EV.blockC (EV.loopC ?_);refine scB _ Lr ?_ o iO R Q _ _ _ _ _ z J;rw[Lr];unfold bbW;cases ob with
  |none=>simp;omega
  |some a8=>simp;omega
 ·have g:c<(Jv v.1.size cb ob a.ownBlock).length:=by rwa[Yu]
  rw[N9 E F s (aG g)];simp[cZ,aT,aG g]
 ·obtain⟨o',C,T⟩:=(s.sm 0).4 _ _ F.b2;rcases T with T|⟨_,_,_,_,T,_⟩|⟨T,_⟩|⟨_,_,_,T,_⟩
  ·exact⟨0,o9,by rw[show(DE m H.In n w u p k v.1.size cb co b d ob a q t f h (X::cs) r).L.Ch=sh n (iS v.1+2) from iP,C,T];simp[Dt]⟩
  ·cases T
  ·exact(E.jn.obj _ T.1).elim
  ·cases T
 ·have:=s.row F.b4 Ad λj=>E.jn.new Aa j;unfold Eh;rw[show(DE m H.In n w u p k v.1.size cb co b d ob a q t f h (X::cs) r).L.Wg=sh n (iS v.1+4) from iP,this];simp[JU]
 ·have e:=Ak9 (C:=LE n v.1.size H.In p k) (z:=(X::cs).map (Bm n)) (w:=w) (Bx:=sh n (iS v.1+3)) (Ch:=sh n (iS v.1+2)) (p8 ⟨_,iP,n9 (n9 iP)⟩) (λc=>A1 n (yE cb co v.1.size (Jd ob K (iR W) L) (.func (.func f) #[] h) (my #[]) (P5 v.1.size) c)) (by simp[yE,Ei]) B (lt 3 Aa);refine Rk (λ_ _ e=>e) (λ_ _ _ e=>e) (λY _ Z=>⟨Z.trans ?_,iP⟩) e;rw[Mq]
  congr 1
  funext c
  unfold yR;split
  ·simp
  ·rfl
 ·have e:=Ahg (C:=LE n v.1.size H.In p k) (w:=w) (q:=sh n (iS v.1+4)) (B:=sh n (iS v.1+3)) (Cv:=sh n v.1.size) (Bv:=sh n (iS v.1+1)) (Ch:=sh n (iS v.1+2)) (sb:=sh n cb) (co:=co) (ba:=(ob.map λa1=>((iK a1 K):Addr)).map (Ei n)) (bl:=iR W) (bc:=L) (λc V=>?_) ⟨B,S,by rw[(s.cellW (cellOf (j:=0) F.4 iP) (E.jn.new Aa 0))];simp[Jd],lt 3 Aa,lt 0 Aa,lt 1 Aa⟩
  ·refine Rk (λ_ _ e=>e) (λ_ _ _ e=>e) (λY _ Z=>⟨Z.trans ?_,iP⟩) e;rw[Ab5 E F s];simp[Jd]
  ·rcases V with rfl|rfl|rfl
   ·exact p8 ⟨_,iP,n9 (n9 iP)⟩
   ·exact p8 ⟨_,iP,p8 iP⟩
   ·exact p8 ⟨_,iP,n9 (p8 iP)⟩
