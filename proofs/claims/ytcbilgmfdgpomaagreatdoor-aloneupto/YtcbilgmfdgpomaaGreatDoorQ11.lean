import Derived.Test.YtcbilgmfdgpomaaGreatDoorQ10
open Array renaming size → iL
set_option maxHeartbeats 4000000
set_option maxRecDepth 8000
set_option linter.all false
open Option renaming some → lj,none → jh
open Go renaming World → gk,Value → uo,TypeId → q9,Goroutine → vr,heap_alloc_new → iw,undef → qp,World → Y
open Go.Proofs.Tryz renaming prog → y7
open Go.Value renaming ownBlock → yq,int → uu,string → pc,pointer → pdw,slice → qh,bool → gd,tuple → js,agg → faj
open Bool renaming true → km
open Prod renaming fst → l9
open Go.Conc renaming events_results_none → jil
open List renaming replicate → vm4,length → iK
open Go.Obj renaming cells → oh
open Go.IntKind renaming i64 → gh
open Or renaming inl → r7,inr → kr
open Go.Pair renaming Bh → O,By → Z,Plain → S,Cb → T
open Go.Proofs.Tryz
variable {B e u v w:Y}{Bs X:gV}{E:gR}{F:vr->Y->Prop}{I:List (gT)->Y->Prop}{K L M N U b c cb co i j n rb sm svb y:Nat}{R z:gX}{W q:gT}{a:uo}{d h:gY}{g':vr}{k rt:q9}{ob:hY}{p:Prop}{t:Bool}
def Gql{q:Prop}(k:q)(h:Hd q->p:=by
 intro kz;refine A9.all Ab ?_ _;simp only[A1];exact kz.1):p:=h ⟨k⟩
def Zcg{q:Prop}(k:q)(h:Hd q->p:=by
 intro kz;refine A9.tp 0 e Am6 T ?_;walk_nrm;refine A9.tp 1 e Am6 T ?_;walk_nrm;refine A9.tp 2 e Am6 T ?_;walk_nrm;refine A9.tp 4 e Am6 T ?_;walk_nrm;exact kz.1):p:=h ⟨k⟩
def Fku(h:p:=by
 obtain⟨cm,ho,b7⟩:=C.W.3 O hr;obtain⟨es,cl,D⟩:=Bi.obj W;rw[Z,D]at ho;cases ho;cases b7):p:=h
namespace Go.Proofs.YtcbilgmfdgpomaaGreatDoor
variable {P:Program}{cs:List Frame}{f:FuncId}{m:gW}{o:Obj}{r:List (gU×Nd)}{se:List SI}{x:Nd}
open Go Go.Conc Go.Pair Go.RowKit Go.Maps
section
variable {G:Nat->uo×uo}
variable {h:gS} {J:gW}
def Gm{t}{X:gZ}{I}(h:w.ownsRow 0 5 1 t n X)(D:w.1[I]?=lj o)(f:∀c,o≠oh c 5):t.ownBlock≠lj I:=λN=>by
 obtain⟨_,⟨M,_⟩|⟨E,a,H,M,_,T,_⟩⟩:=h
 ·rw[M]at N;cases N
 ·rw[M]at N;obtain rfl:E=I:=by simpa[yq] using N
  grind
def Bi.obj{m}(h:Bi P k w b m):∃X a,w.1[b]?=lj (.map X a):=let⟨X,a,C,_⟩:=h.ex;⟨X,a,C⟩
def Mm{a I}(h:u.1[a]?=lj o)(P:u.1[b]?=lj I)(f:o≠I):a≠b:=λe=>by
 grind
def D3{a m}{cs:gY}{I e}(h:Bi P k w b m)(d:w.1[a]?=lj (oh cs I e)):b≠a:=by
 have ⟨X,c,C⟩:=h.obj
 grind
def Tn.off(h:Tn G J Bs y u se){b o}(D:u.1[b]?=lj o)(C:∀c,o≠oh c 84)(a:∀c,o≠oh c 5):¬Hg se b:=by
 rintro⟨j,p,l,Q|Q⟩
 ·have ⟨c,M,_⟩:=(h.one j p l).1.row
  grind
 ·exact Gm (h.one j p l).1.own D a Q
def Apd{z P k o m p H a}(h:a=TN z P k o m p j H n i (λj=>a.tmps.getD j qp)):∃W,a=TN z P k o m p j H n i W:=⟨_,h⟩
def List.set_eq_of_getElem?{a:Type}{l:List a}{x}(h:l[i]?=lj x):l.set i x=l:=by
 apply bL
 grind
def Amp{svb rb k gr m gcap j eg n ecap i a}{Q:Exit->Act->Y->Prop}(h:a=TI svb rb k gr m gcap j eg n ecap i (λj=>a.tmps.getD j qp))(H:∀s,Hp y7 km J F 161 UN Q (TI svb rb k gr m gcap j eg n ecap i s) w):Hp y7 km J F 161 UN Q a w:=by
 rw[h];exact H _
def Ag4{L e}(h:L[i]?=lj e):(OT L)[i * 2]?=lj (iE e.1)/\(OT L)[i * 2+1]?=lj (pc e.2):=by
 induction L generalizing i with
 |nil=>simp at h
 |cons x l O=>
  cases i with
  |zero=>simp at h;subst h;simp[OT]
  |succ i=>
   have:=O Aan;rw[show(i+1) * 2=i * 2+2 by omega];simpa[OT] using this
def Oh.mono{w B}(h:Oh M se w B)(S:N<=M):Oh N se w B:=⟨h.len,h.2,λi p l Q K=>let⟨o,a,b⟩:=h.one i p l Q K;⟨o,a,λg G=>(b g G).imp id λh=>aE S h⟩⟩
def GF.kx{O z d t b a num}(V:GF Bs u z d c t M sm b a num r){X}(K:Ax u O X)(C:¬X z)(J:¬X c)(T:¬X t):GF Bs O z d c t M sm b a num r:=⟨K.get V.1 C,V.nv,V.ht.kx K J T,V.4,V.nm,V.6,V.z2⟩
def GF.at{svb e t sm b a num}(V:GF Bs u svb c e t M sm b a num r)(d):GF Bs (u.at d) svb c e t M sm b a num r:=⟨V.1,V.nv,V.ht.at d,V.4,V.nm,V.6,V.z2⟩
def Cx.at(C:Cx z y J Bs u)(d):=C.kx ((Ax.refl u iH).at d) (C.W.at d) λ_ h=>h.elim
def CY(cn:It h z)(C:Cx z y J Bs u){db tb a last b num}(V:GF Bs u svb db tb a M sm last b num r)(se)(B:Tn G J Bs y u se)(h0:se≠[])(h8:iK se<=8)(cp:(se.map SI.k).Pairwise (·<=·))(bd:∀p∈se,keyOf y7 3 (iE p.k)=lj (Lit.int gh p.k)/\(Lit.int gh p.k).wf=km)(cq:∀p∈se,iK p.lo<=9000000000)(S:Bi y7 3 u sm (E0 (se.map λp=>(p.k,p.b))))(bf:¬Bs sm)(K)(W:Lf u M K)(cr:K.Nodup)(nw:¬Bs M)(gw:y<=M)(cu:M≠a)(cw:M≠sm)(kind)(cx:kind<4)(d)(b8:iK d<=3)(hT:∃ab,ab<y/\Se J u kind ab d)(bg:∀x∈d,(Lit.int gh x.1).wf=km∧-2147483648<=x.2.2/\x.2.2<=2147483647)(c o n A)(hq:c.size<=200)(bh:∀bj,(Mt c bj).size<=200/\h (Mt c bj)=km)(a1:Eb c=km):Bg y7 km J F 161 #[iB svb,M3 kind c o n A] u λx u'=>x=js #[]/\VW J Bs u'/\Ax u u' (λi=>i=M∨Hg se i)/\Lf u' M (Ct num c d (se.map SI.k) K).2/\∃Fu,Tn G J Bs y u' Fu/\Oh u.1.size se Fu (Ct num c d (se.map SI.k) K).1:=by
 have aa:¬Bs u.1.size:=λZ=>by have:=C.W.lt Z;omega
 have U:∀k,¬J (.cell (iD u.1.size k)):=λk Z=>aa (C.W.2 _ Z);have jv:∀k,¬J (.cell (iD svb k)):=λk Z=>V.nv (C.W.2 _ Z);refine Bl func161 Ac iI (R:=λ_=>js #[]) (λ_ _=>results_none Ac _ _ _) (λ_ _=>jil Ac _ _) ?_;simp only[ntmps161,na,Nat.reduceAdd,Nat.reduceSub];refine Wqw ?_;refine Dk (Du kind c o n A) 152 ?_;walk_nrm;refine Ro8 ?_;have ad:=Ba u (Du kind c o n A) 152 iH;have W1:=C.W.alloc (Du kind c o n A) 152;have b9:(u.alloc (oh (Du kind c o n A) 152)).1[iL u.1]?=lj (oh (Du kind c o n A) 152):=iw _ _;generalize u.alloc (oh (Du kind c o n A) 152)=u1 at ad W1 b9⊢;have cy:=ad.get V.1 id;refine Wqw ?_;refine Trb ?_;refine Bp (cellOf (j:=3) cy iI) (jv 3) ?_;walk_nrm;refine A2 (An6 W1 sm) iI Ac iI Af ?_;rintro x u2⟨rfl,al,W2,cz⟩;walk_nrm;have dc:Bi y7 3 u2 sm (E0 (se.map λp=>(p.k,p.b))):=(S.of_block (ad.block _ S.lt id)).of_block (al.block _ (aA S.lt ad.size) id);refine A2 (Ah9 W2 sm u1.1.size (se.map λp=>(p.k,p.b)) (by simpa using h0) (by simpa using h8) (by simpa[cW,dT] using cp) dc bf cz (λZ=>by have:=W1.lt Z;omega)) iI Ac iI Af ?_;rintro x X⟨bk,W3,gr,gcap,rfl,dd,eh,bm⟩;rw[bV]at dd⊢;walk_nrm;refine Wad ?_;refine Ro8 ?_;have ah:=(ad.trans al).trans bk;have bn:=al.trans bk;have de:¬Bs gr:=λZ=>by have h1:=C.W.lt Z;have h2:=ad.size;have h3:=al.size;omega
 have dg:∀k,¬J (.cell (iD gr k)):=λk Z=>de (C.W.2 _ Z);have dh:gr<iL X.1:=by
  obtain⟨p0,di⟩:∃p0,se[0]?=lj p0:=⟨_,aH (eP.2 h0)⟩;exact KM (bm 0 (p0.k,p0.b) (by simp[di]))
 have dj:=Bi.lt W;have ei:iL u.1<iL X.1:=by have:=ltOf b9;have:=bn.size;omega
 refine Dr ?_;generalize bo:iK se=m at *;have h3:=b8;have dk:=ah.size;refine Mv (n:=m) (I:=λt an q=>∃(j:Nat),t+j=m/\(∃s:Nat->uo,an=TO svb u.1.size gr m gcap j s)/\VW J Bs q/\Ax X q (λi=>i=M∨Hg se i)/\Lf q M (Ct num c d ((se.map SI.k).take j) K).2/\∃Fu,Tn G J Bs y q Fu/\Oh X.1.size se Fu ((Ct num c d ((se.map SI.k).take j) K).1++vm4 (m - j) [])) ?_ ?_
 case refine_2=>
  exact⟨0,Aa,Ape iI,W3,Ax.refl _ _,by simpa[Ct] using W.keep (ah.block _ dj id),se,B.kf ah,by simpa[Ct,bo] using Oh.refl X.1.size se⟩
 rintro t an q⟨j,ej,⟨s,rfl⟩,Ww,Kw,aq,ai,bq,Y⟩;unfold TO;by_cases hj:j<m
 case neg=>
  refine Wqw ?_;refine Xol ?_;refine Ro8 ?_;refine Aw ?_;refine Z2x ?_;have dm:j=m:=Aa;subst dm;rw[bO (by simp[bo])]at aq Y;refine⟨r7 trivial,trivial,trivial,Ww,(ah.mono λ_ Z=>Z.elim).trans Kw,aq,ai,bq,(by simpa using Y:Oh X.1.size se ai _).mono dk⟩
 case pos=>
 have dp:j<iK se:=Aa;obtain⟨p,hp⟩:∃p,se[j]?=lj p:=⟨_,aH dp⟩;have au:p∈se:=bA hp;have av:(Ct num c d ((se.map SI.k).take j) K).1.length=j:=by rw[Qu];simp;omega
 have aw:((Ct num c d ((se.map SI.k).take j) K).1++vm4 (m - j) ([]:gT))[j]?=lj []:=by
  rw[dK Aa,av,List.getElem?_replicate];simp;omega
 obtain⟨ek,eo,ep⟩:=Y.one j p [] hp aw;generalize ba:(Ct num c d ((se.map SI.k).take j) K).2=aj at aq;generalize dq:(Ct num c d ((se.map SI.k).take j) K).1++vm4 (m - j) ([]:gT)=ao at Y aw;have dr:aj.Nodup:=by rw[←ba];exact cr.sublist Qv
 have a7:Ax u q (λi=>i=M∨Hg se i):=(ah.mono λ_ Z=>Z.elim).trans Kw;have dt:∀i,Hg se i->i<iL u.1:=λi hi=>B.lt hi;have br:∀i,iL u.1<=i->¬(i=M∨Hg se i):=λi hi Z=>by
  rcases Z with Z|Z
  ·omega
  ·have:=dt i Z;omega
 have du:=B.off V.1 Ad Ad;have bu:¬(svb=M∨Hg se svb):=λZ=>Z.elim Am5 du;have bw:¬(tb=M∨Hg se tb):=λZ=>Z.elim (λZ=>D3 W V.ht.blk Z.symm) (B.off V.ht.blk Ad Ad);have bx:¬(a=M∨Hg se a):=λZ=>Z.elim (λZ=>cu Z.symm) (let⟨es,cl,D⟩:=V.ht.map.obj;B.off D Ad Ad);have bz:¬(sm=M∨Hg se sm):=λZ=>Z.elim (λZ=>cw Z.symm) (let⟨es,cl,D⟩:=S.obj;B.off D Ad Ad);have dv:q.cell? (iD gr j)=lj (iE p.k):=(Cg (Kw.block gr dh (br gr (by have:=ad.size;have:=al.size;omega)))).trans (bm j (p.k,p.b) (by simp[hp]));have a8:=V.kx a7 bu bw bx;have er:Bi y7 3 q sm (E0 (se.map λp=>(p.k,p.b))):=S.of_block (a7.block _ S.lt bz);have Cw:=C.kx a7 Ww (by rintro i(rfl|Z);exact gw;exact B.ge Z);have ar:q.1[iL u.1]?=lj (oh (Du kind c o n A) 152):=Kw.get (bn.get b9 id) (br _ (aC _));have et:(j:Int)<(m:Int):=Aa;have eu:(m:Int)<=(gcap:Int):=Aa;refine Wqw ?_;refine Ree ?_;refine Wqw ?_;refine Cd (pdw (lj (iD gr j))) ?_;walk_nrm;refine Bp dv (dg j) ?_;walk_nrm;refine Keu ?_;refine Aw ?_;have e:=Jb.at (rb:=iL u.1) (rc:=Du kind c o n A) (rt:=152) (svb:=svb) (vc:=B8 db tb M sm last b);refine Em (I:=Jb u.1.size (Du kind c o n A) 152 svb (B8 db tb M sm last b)) Ac λQ=>?_;have T:Jb u.1.size (Du kind c o n A) 152 svb (B8 db tb M sm last b) (q.at Q):=⟨ar,a8.1⟩;refine Zcg ?_;refine A9.tp 8 e Am6 T ?_;walk_nrm;refine A9.tl 3 e Am6 T (λq (W:Jb _ _ _ _ _ q)=>(cellOf (j:=2) W.2 iI:q.cell? (iD svb 2)=lj (.map (lj M)))) (jv 2) ?_;walk_nrm;refine A9.take (i:=5) (x:=(M3 kind c o n A)) e Am6 iI Ab Ab Ab (Gj (S:=env Lv) Ac (B7 (fn:=0) Ab) (A6 _ _) ?_) T ?_
 ·exact λq W=>O1 W.1 U _ _ iI _ Ac
 walk_nrm;have ew:∀O,J (.obj O)->¬O=M:=λO hr Z=>by
  exact Fku
 obtain⟨ab,ey,dw⟩:=hT;have dx:Se J (q.at Q) kind ab d:=(dw.kx a7 ⟨by have:=C.g8;have:=C.sz;omega,λZ=>by
  have g8:=C.g8;rcases Z with Z|Z
  ·omega
  ·have:=B.ge Z;omega⟩ ⟨by have:=C.sz;omega,λZ=>by
  rcases Z with Z|Z
  ·omega
  ·have:=B.ge Z;omega⟩).kx ((Ax.refl q iH).at Q) ⟨by have:=C.g8;have:=C.sz;have:=a7.size;omega,id⟩ ⟨by have:=C.sz;have:=a7.size;omega,id⟩
 have ez:=C.g8;have fc:=C.sz;have fe:=a7.size;refine Ca (i:=6) (Aft (Ww.at Q) M p.k kind cx c o n A ab d b8 Aa Aa aj (aq.keep iI) dr nw dx (by show 4<iL q.1;omega) (by show ab<iL q.1;omega) (bd p au).2 (λx f=>(bg x f).1) Aa a1) Ab iI Ac iI Af ?_;rintro P v⟨w,a6,c6,c7⟩;have dy:¬iL u.1=M:=λZ=>Aa;have R:=T.kx a6 dy Am5;refine⟨R,?_⟩;walk_nrm;have ck:iL q.1<=(q.at Q).1.size:=aC _;have af:Ax q v (· = M):=a6.ofAt;have c8:∀l∈(En p.k c d aj).1,l.2.size<=200/\h l.2=km∧-2147483648<=l.1/\l.1<=2147483647:=λl he=>by
  obtain⟨x,f,rfl⟩:=Rk l he;exact⟨(bh x.2.1).1,(bh x.2.1).2,(bg x f).2⟩
 have fg:(En p.k c d aj).1.length<=3:=aE Rj b8;generalize hE:(En p.k c d aj).1=E at *;generalize dz:(En p.k c d aj).2=e0 at *;obtain⟨ea,ecap,rfl⟩:∃ea ecap,P=qh ea (iK E) ecap:=by
  rcases c7 with⟨_,⟨rfl,Z⟩|⟨ab,e4,c9,rfl,_⟩⟩
  ·exact⟨jh,0,by rw[Z]⟩
  ·exact⟨_,_,iI⟩
 refine A9.tp 7 e Am6 R ?_;walk_nrm;refine Gql ?_;refine Dr ?_;have fh:Ax u v (λi=>i=M∨Hg se i):=a7.trans (af.mono λ_ Z=>r7 Z);have S5:Tn G J Bs y v ai:=bq.kx af λi hi Z=>by
  rcases Y.sin hi with h'|h'
  ·exact(let⟨es,cl,D⟩:=Bi.obj W;B.off D Ad Ad) (Z▸h')
  ·omega
 generalize fi:iK E=N at *;refine Mv (n:=N) (I:=λt' an L=>∃(i:Nat),t'+i=N/\(∃s:Nat->uo,an=TN svb u.1.size p.k gr m gcap j (qh ea N ecap) N i s)/\VW J Bs L/\Ax v L (λx=>Hg ai x)/\∃ak,Tn G J Bs y L ak/\Oh X.1.size se ak (ao.set j (evs num (E.take i)))/\∀x,Hg ak x->Hg ai x∨iL v.1<=x) ?_ ?_
 case refine_2=>
  refine⟨0,Aa,Apd iI,w,Ax.refl _ _,ai,S5,?_,λx Z=>r7 Z⟩;have:ao.set j (evs num (E.take 0))=ao:=by
   rw[List.take_zero];refine List.set_eq_of_getElem? ?_;simpa[evs] using aw
  rw[this];exact Y
 rintro t' an L⟨i,fj,⟨s',rfl⟩,W',K',ak,bb,G2,ax⟩;unfold TN;have bc:Ax X L (λi=>i=M∨Hg se i):=(Kw.trans (af.mono λ_ Z=>r7 Z)).trans' K' λx f Ib=>by
  rcases Y.sin f with Z|Z
  ·exact kr Z
  ·omega
 have ay:Ax u L (λi=>i=M∨Hg se i):=(ah.mono λ_ Z=>Z.elim).trans bc;have e5:Lf L M e0:=c6.keep (K'.block _ (Bi.lt c6) λZ=>by
  rcases Y.sin Z with h'|h'
  ·exact(let⟨es,cl,D⟩:=Bi.obj W;B.off D Ad Ad) h'
  ·omega)
 by_cases hi:i<N
 case neg=>
  refine Wqw ?_;refine Xol ?_;refine Ro8 ?_;refine Aw ?_;refine Z2x ?_;have e6:i=N:=Aa;subst e6;rw[bO Aa]at G2;refine A0 ?_;have hz:IntKind.i64.wrap ((j:Int)+1)=(j:Int)+1:=by rw[IntKind.wrap_i64];omega
  refine Gl (S:=env Lv) (x:=iE ((j:Int)+1)) iI Ac (B7 Ab) (A6 _ _) (λq=>by go_simp) (λq=>by first|rfl|(go_simp;done)|(go_simp;rfl)) ?_;walk_nrm;refine Keu ?_;have az:(se.map SI.k).take (j+1)=(se.map SI.k).take j++[p.k]:=by
   rw[List.take_add_one,aS,hp];rfl
  refine⟨t - 1,Aa,j+1,Aa,Ape iI,W',bc,?_,ak,bb,?_⟩
  ·rw[az,Vd,ba,dz];exact e5
  ·rw[az,Vd,ba,hE];have:(Ct num c d ((se.map SI.k).take j) K).1++[evs num E]++vm4 (m - (j+1)) []=ao.set j (evs num E):=by
    rw[←dq,show m - j=(m - (j+1))+1 by omega,List.replicate_succ]
    conv=>rhs;rw[←av]
    rw[av];rw[List.set_append_right _ _ Aa,av,Nat.sub_self,List.set_cons_zero];simp
   simp only[this];exact G2
 case pos=>
 obtain⟨fl,⟨Z,h'⟩|⟨eg,e4,c9,e7,fo,cc,e8,fp,fq,cd⟩⟩:=c7
 ·omega
 injection e7 with e1 e2 e3;subst e1;subst e3;obtain⟨l,he⟩:∃l,E[i]?=lj l:=⟨_,aH Aa⟩;obtain⟨I,g1⟩:=Ag4 he;rw[←cd,dD Aa,cN]at I;rw[←cd,dD Aa,cN]at g1;have cf:L.1[eg]?=lj (oh c9 266):=K'.get cc (S5.off cc Ad Ad);have neg:¬Bs eg:=λZ=>by have:=Ww.lt Z;omega
 have cg:(ao.set j (evs num (E.take i)))[j]?=lj (evs num (E.take i)):=bJ (aF.1 aw).1;obtain⟨e9,ae,fs⟩:=G2.one j p _ hp cg;obtain⟨Sp,gp,_⟩:=bb.one j _ ae;have b5:=c8 l (bA he);have ec:(p.lo++evs num (E.take i)).length<=10000000000:=by
  have h1:=cq p au;have h2:=UJ (num:=num) (E:=E.take i) λx f=>(c8 x (List.mem_of_mem_take f)).1;have h3:(E.take i).length<=3:=Ai;rw[aK];omega
 have C':=C.kx ay W' (by rintro i(rfl|Z);exact gw;exact B.ge Z);have V':=V.kx ay bu bw bx;have ed:Bi y7 3 L sm (E0 (se.map λp=>(p.k,p.b))):=S.of_block (ay.block _ S.lt bz);have ft:(i:Int)<(N:Int):=Aa;refine Wqw ?_;refine Ree ?_;refine Amp (svb:=svb) (rb:=iL u.1) (k:=p.k) (gr:=gr) (m:=m) (gcap:=gcap) (j:=j) (eg:=eg) (n:=N) (ecap:=ecap) (i:=i) iI λs3=>?_;refine Da (Aia (p:={ p with lo:=p.lo++evs num (E.take i),ov:=e9 }) cn C' V' Sp ec (se.map λp=>(p.k,p.b)) (aZ.2 ⟨p,au,rfl⟩) (bd p au).1 ed bf u.1.size gr m gcap j eg N ecap i hi e8 l.1 l.2 b5.2.2.1 b5.2.2.2 b5.1 b5.2.1 (cellOf cf I) (cellOf cf g1) neg s3) ?_;rintro e' a' w2⟨rfl,⟨s4,rfl⟩,T2⟩;simp only[As,A1];unfold TI;refine A0 ?_;have hz:IntKind.i64.wrap ((i:Int)+1)=(i:Int)+1:=by rw[IntKind.wrap_i64];omega
 refine Gl (S:=env Lv) (x:=iE ((i:Int)+1)) iI Ac (B7 Ab) (A6 _ _) (λq=>by go_simp) (λq=>by first|rfl|(go_simp;done)|(go_simp;rfl)) ?_;walk_nrm;refine Keu ?_;obtain⟨ee,ef,cj⟩:=bb.told ae (aE C.sz ay.size) T2;have az:E.take (i+1)=E.take i++[l]:=by rw[List.take_add_one,he];rfl
 refine⟨t' - 1,Aa,i+1,Aa,Apd iI,T2.W,?_,_,ef,?_,?_⟩
 ·refine K'.trans' T2.K λx f Ib=>?_;have h1:Hg ak x:=⟨j,_,ae,f⟩;rcases ax x h1 with Z|Z
  ·exact Z
  ·omega
 ·have:=G2.set (l:=evB num l.1 l.2) hp cg ae (ov':=ee) (M:=iL L.1) bc.size cj;rw[List.set_set]at this;rw[az,Aca];exact this
 ·rintro x⟨g,p',b6,f⟩;by_cases H:j=g
  ·subst H;rw[bJ (aF.1 ae).1]at b6;obtain rfl:=aB b6;rcases f with f|f
   ·exact ax x ⟨j,_,ae,r7 f⟩
   ·rcases cj x f with Z|Z
    ·exact ax x ⟨j,_,ae,kr Z⟩
    ·exact kr (aE K'.size Z)
  ·rw[bE H]at b6;exact ax x ⟨g,p',b6,f⟩
end
section
variable {J:gW} {c:gV}
noncomputable def DF(b cbx r:Nat)(s:hQ):Act:=⟨#[.map (lj b),.func (.func 124) #[] #[iB cbx],s 2,s 3,s 4,s 5,.map (lj b),iB r,s 8,s 9,s 10,s 11,s 12,s 13,s 14,s 15,s 16,s 17,s 18],[]⟩
def Amd{f r a}(h:a=DF b f r (λj=>a.tmps.getD j qp)):∃s,a=DF b f r s:=⟨_,h⟩
def Ab2(I:VW J c u)(b s f D)(h:Lf u b D)(bw:∀k∈D,Tp k)(hc:u.1[f]?=lj (oh #[iE s] 3))(bx:¬c f)(V:¬c b):Bg y7 km J F 123 #[.map (lj b),.func (.func 124) #[] #[iB f]] u λx u'=>x=js #[]/\VW J c u'/\Lf u' b (CE s D)/\Ax u u' (· = b):=by
 classical
 have bz:=Bi.lt h;have de:=ltOf hc;have c6:D.Nodup:=by
  have:=h.nodup
  rwa[cW,show(l9 ∘ λk:uo=>(k,Value.agg #[]))=id from iI,fG]at this
 have c8:∀a1,J (.obj a1)->¬a1=b:=λa1 Y m=>by
  obtain⟨o,ho,c9⟩:=I.3 a1 Y;obtain⟨es,cl,hb⟩:=Bi.obj h;rw[m,hb]at ho;cases ho;cases c9
 have P:¬c u.1.size:=λh=>by have:=I.lt h;omega
 refine Bl func123 Ac iI (R:=λ_=>js #[]) (λ_ _=>results_none Ac _ _ _) (λ_ _=>jil Ac _ _) ?_;simp only[ntmps123,na,Nat.reduceAdd,Nat.reduceSub];refine Wqw ?_;refine V2g ?_;refine Dw (S:=env Lv) I iI Ac (B7 Ab) (A6 _ _) (X:=λ_=>False) (R:=λx B=>x=iB u.1.size/\Ic B b u.1.size (D.map λk=>(k,faj #[])) (D.map λk=>(k,faj #[]))) (λ_ _ h=>h) (λL d=>?_) ?_
 ·obtain⟨o,Y,N⟩:=Bi.rangeL (t:=92) (h.keep (d.same V)) underlying92;rw[d.size]at Y N;exact Oj2
 rintro x av aa af ak ax c7⟨rfl,ao⟩;walk_nrm;refine Ro8 ?_;have O:Lf av b D:=h.keep (af.block _ bz id);refine Dr ?_;refine Mv (n:=iK D) (I:=λt aj w=>∃(R:List (uo×uo)) (n:gZ),t=iK R/\(∃a,aj=DF b f u.1.size a)/\VW J c w/\Ax u w (· = b)/\Lf w b n/\Ic w b u.1.size (n.map λk=>(k,faj #[])) R/\n.Nodup/\(R.map l9).Nodup/\n.filter (λk=>decide (LP s k))=CE s D/\(∀k∈n,Tp k/\(k∈R.map l9∨LP s k))/\∀x∈R,x.1∈n/\x.2=faj #[]) ?_ ?_
 case refine_2=>
  refine⟨_,D,Ad,Amd iI,ak,af.mono λ_ h=>h.elim,O,(ao.keep (ax _ V).symm (ax _ P).symm),c6,?_,iI,λk E=>⟨bw k E,r7 (by simpa using E)⟩,λx Z=>?_⟩
  ·rwa[cW,show(l9 ∘ λk:uo=>(k,Value.agg #[]))=id from iI,fG]
  ·obtain⟨k,E,rfl⟩:=aZ.1 Z;exact⟨E,iI⟩
 rintro t aj w⟨R,n,rfl,⟨s1,rfl⟩,Ww,Kw,ba,aw,S,cc,az,a7,b5⟩;unfold DF;have dg:iL u.1<iL w.1:=by
  obtain⟨es,dh,di,dj,c0,_,_,_,cd,_⟩:=aw.ex;exact ltOf cd
 refine Wqw ?_;refine Dw (S:=env Lv) Ww iI Ac (B7 Ab) (A6 _ _) (X:=(· = iL u.1)) (R:=λx B=>((R = []/\x=js #[gd false]/\Ic B b u.1.size (n.map λk=>(k,faj #[])) R)∨∃p i,(p::i).Perm R/\x=js #[gd km,p.1,p.2]/\Ic B b u.1.size (n.map λk=>(k,faj #[])) i/\∀x:gk,x.1[b]?=B.1[b]?->x.1[iL u.1]?=B.1[iL u.1]?->(Instr.entry (iB u.1.size)).run y7 x=.ok (js #[p.1,p.2]) x)) (λa1 Y m=>by have:=I.low.obj a1 Y;omega) (λL d=>?_) ?_
 ·rcases Ic.next (P:=y7) (aw.keep (d.same V) (d.same P)) 0 with⟨h0,Y⟩|⟨p,i,U,B,Y,N,hg,dk,X⟩
  ·refine⟨js #[gd false],L,r7 ?_,r7 ⟨h0,iI,aw.keep (d.same V) (d.same P)⟩,Ax.refl _ _⟩;exact Ja7
  ·refine⟨_,B,r7 ?_,kr ⟨p,i,U,iI,N,X⟩,Ax.of_grown hg (r7 iI)⟩;exact Ja7
 rintro x u4 L4 K4 ah al dm cf;walk_nrm;have bb:Ax u u4 (· = b):=Kw.trans' K4 λj hj Ib=>Aa;have b6:Lf u4 b n:=ba.keep (K4.block _ (Bi.lt ba) Aa);rcases cf with⟨rfl,rfl,dp⟩|⟨p,i,K,rfl,ad,X⟩
 ·refine Keu ?_;refine Aw ?_;refine Fhg ?_;refine Lc ?_;simp only[A1,As,bQ];refine⟨r7 trivial,trivial,trivial,ah,?_,bb⟩;have:n.filter (λk=>decide (LP s k))=n:=fJ.2 λk E=>by
   rcases(a7 k E).2 with q|q
   ·cases q
   ·simpa using q
  rwa[←az,this]
 obtain⟨b7,bc⟩:=b5 p (K.subset (cJ ..));obtain⟨⟨a,l,z,E,cg,cj,ck⟩,_⟩:=a7 p.1 b7;obtain⟨p1,p2⟩:=p;simp only at E bc b7;subst E bc;have dq:iK R=iK i+1:=by rw[←K.length_eq];rfl
 refine Keu ?_;refine Aw ?_;refine N5y ?_;refine K5o ?_;refine Dr ?_;refine Wqw ?_;refine Dw (S:=env Lv) ah iI Ac (B7 Ab) (A6 _ _) (X:=λ_=>False) (R:=λx B=>x=js #[Fo a l z,faj #[]]) (λ_ _ h=>h) (λL d=>?_) ?_
 ·have Y:=X L ((d.same V).trans (al _ V).symm) ((d.same P).trans (al _ P).symm);refine⟨_,L,r7 ?_,iI,Ax.refl _ _⟩;exact Ja7
 rintro x v L5 K5 e cm cn rfl;walk_nrm;refine Wad ?_;refine Dk #[iE 0,pc iG,iE 0] 189 ?_;walk_nrm;have W:=Ba v #[iE 0,pc iG,iE 0] 189 iH;have ay:=e.alloc #[iE 0,pc iG,iE 0] 189;have an:(v.alloc (oh #[iE 0,pc iG,iE 0] 189)).1[iL v.1]?=lj (oh #[iE 0,pc iG,iE 0] 189):=iw _ _;generalize v.alloc (oh #[iE 0,pc iG,iE 0] 189)=u6 at W ay an⊢;refine Dk #[] 119 ?_;walk_nrm;have K7:=Ba u6 #[] 119 iH;have W7:=ay.alloc #[] 119;have cp:(u6.alloc (oh #[] 119)).1[iL u6.1]?=lj (oh #[] 119):=iw _ _;generalize u6.alloc (oh #[] 119)=ab at K7 W7 cp⊢;have bd:=K7.get an id;have nn:¬c v.1.size:=λh=>by have:=e.lt h;omega
 have M:∀k,¬J (.cell (iD v.1.size k)):=λk h=>nn (I.2 _ h);have a6:=OD (J:=J) (s:=a) (p:=l) (o:=z) bd M;refine Cy (S:=env Lv) (fn:=123) iI Ac (B7 Ab) (A6 _ _) (x:=qp) (v':=((ab.setCell (iC v.1.size) (iE a)).setCell (iD v.1.size 1) (pc l)).setCell (iD v.1.size 2) (iE z)) (a6 _ iI _ Ac Ac).1 (a6 _ iI _ Ac Ac).2 ?_;walk_nrm;have a8:Br ab (((ab.setCell (iC v.1.size) (iE a)).setCell (iD v.1.size 1) (pc l)).setCell (iD v.1.size 2) (iE z)) v.1.size #[iE a,pc l,iE z] 189:=(((Br.refl bd).set 0 _).set 1 _).set 2 _;have W8:VW J c (((ab.setCell (iC v.1.size) (iE a)).setCell (iD v.1.size 1) (pc l)).setCell (iD v.1.size 2) (iE z)):=((W7.set _ _ _).set _ _ _).set _ _ _;generalize ((ab.setCell (iC v.1.size) (iE a)).setCell (iD v.1.size 1) (pc l)).setCell (iD v.1.size 2) (iE z)=G at a8 W8⊢;have cq:Ax v G iH:=(W.trans K7).trans' (Ax.of_grown (X:=(· = iL v.1)) a8.grown (r7 iI)) λj hj Ib=>Aa;have bf:Ax u4 G iH:=K5.trans cq;refine Cy (S:=env Lv) (fn:=123) iI Ac (B7 Ab) (A6 _ _) (x:=qp) (v':=G) (λg=>kr ⟨by walk_nrm;go_simp;first|done|rfl,iI⟩) Ak3 ?_;walk_nrm;refine Ro8 ?_;refine Wqw ?_;refine V2g ?_;refine Cy (S:=env Lv) (fn:=123) iI Ac (B7 Ab) (A6 _ _) (x:=Fo a l z) (v':=G) (λy=>(Nk (J:=J) (w:=G.at y) a8.blk M _ _ iI _ Ac).1) (λy=>(Nk (J:=J) (w:=G.at y) a8.blk M _ _ iI _ Ac).2) ?_;walk_nrm;refine Cy (S:=env Lv) (fn:=123) iI Ac (B7 Ab) (A6 _ _) (x:=faj #[]) (v':=G) (λg=>r7 (by walk_nrm;go_simp;first|done|rfl)) Ak3 ?_;walk_nrm;have bg:Ax u G (· = b):=bb.trans (bf.mono λ_ h=>h.elim);have bh:=bg.get hc (λm=>D3 h hc m.symm);refine Ad1 (f:=124) (cap:=#[iB f]) iI Ac iI Ac Ac (by first|rfl|(simp[Eh];done)|kernel_rfl) (PostF:=λai w'=>Ax G w' iH/\VW J c w'/\ai=gd (a==s)) ?_ ?_
 ·walk_nrm;refine Bq (Gg (f:=124) (args:=#[Fo a l z,faj #[],iB f]) Ae W8 (X:=λ_=>False) (R:=λai _=>ai=gd (a==s)) (λ_ _ h=>h) λL d=>(Ag0 L s a z l f ((Cg (d.same bx)).trans (cellOf (j:=0) bh iI)) (by rw[d.size];exact ltOf bh)).mono λm w' h=>⟨⟨_,h.1,iI⟩,Bo h.2⟩) λai w' h=>⟨h.1,h.2.1,let⟨_,_,_,h⟩:=h.2.2;h⟩
 rintro ai T⟨K9,ar,rfl⟩;walk_nrm;refine Ro8 ?_;have b8:Ax u4 T iH:=bf.trans K9;have bj:Ax u T (· = b):=bg.trans (K9.mono λ_ h=>h.elim);have cr:iL u.1<iL u4.1:=by have:=K4.size;omega
 have bk:Lf T b n:=b6.keep (b8.block _ (Bi.lt b6) id);have bm:Ic T b u.1.size (n.map λk=>(k,faj #[])) i:=(ad.keep (al _ V).symm (al _ P).symm).keep (b8.block _ (Bi.lt b6) id) (b8.block _ cr id);have au:=K9.get a8.blk id;have U:=(K.map l9).nodup_iff.2 cc;rw[bC,dQ]at U;obtain⟨bn,bo⟩:=U;cases bq:(a==s) with
 |true=>
  refine N5y ?_;refine Tfz ?_;refine Cy (S:=env Lv) (fn:=123) iI Ac (B7 Ab) (A6 _ _) (x:=Fo a l z) (v':=T) (λy=>(Nk (J:=J) (w:=T.at y) au M _ _ iI _ Ac).1) (λy=>(Nk (J:=J) (w:=T.at y) au M _ _ iI _ Ac).2) ?_;walk_nrm;obtain⟨A,C,Q⟩:=eV b7;obtain⟨lk,cu⟩:=QT cg cj ck;refine Dw (S:=env Lv) ar iI Ac (B7 Ab) (A6 _ _) (X:=(· = b)) (R:=λx B=>Lf B b (A++C)/\Ic B b u.1.size ((A++C).map λk=>(k,faj #[])) i) c8 (λL d=>?_) ?_
  ·obtain⟨W7,ae,m7,q7,g7⟩:=Ic.drop (ty:=0) (bm.keep (d.same V) (d.same P)) (bk.keep (d.same V)) V3 underlying92 cu (A:=A.map λk=>(k,faj #[])) (C:=C.map λk=>(k,faj #[])) (v:=faj #[]) (by rw[Q];simp) (λx Z m=>bn (aZ.2 ⟨x,Z,m⟩));refine⟨js #[],W7,r7 ?_,⟨by rwa[Lf,cP],by rwa[cP]⟩,Ax.of_grown g7 (r7 iI)⟩;exact Ewe
  rintro x dr dt cw cx b9 du⟨cy,cz⟩;walk_nrm;refine Ro8 ?_;have aq:a=s:=by simpa using bq
  subst aq;rw[Q,eZ,dQ]at S;have dc:Fo a l z∉A++C:=λhm=>by
   rcases bP.1 hm with hm|hm
   ·exact S.2.2 _ hm _ cJ iI
   ·exact S.2.1.1 hm
  refine⟨iK i,Aa,i,A++C,iI,Amd iI,cx,bj.trans (cw.mono λ_ h=>h),cy.keep (b9 _ V).symm,cz.keep (b9 _ V).symm (b9 _ P).symm,?_,bo,?_,λk E=>?_,λx Z=>?_⟩
  ·rw[eZ];exact⟨S.1,S.2.1.2,λaj ha dd hc=>S.2.2 aj ha dd (cI _ hc)⟩
  ·rw[←az,Q,fU,fU,List.filter_cons,aM (by simp[Vx])]
  ·have br:k∈n:=by rw[Q];simp only[bP,bH]at E⊢;exact E.imp id kr
   refine⟨(a7 k br).1,?_⟩;rcases(a7 k br).2 with q|q
   ·have r:=(K.map l9).mem_iff.2 q;rw[bC,bH]at r;rcases r with r|r
    ·simp only at r;rw[r]at E;exact absurd E dc
    ·exact r7 r
   ·exact kr q
  ·have bu:=b5 x (K.subset (cI _ Z));refine⟨?_,bu.2⟩;have H:=bu.1;rw[Q]at H;simp only[bP,bH]at H⊢;rcases H with H|H|H
   ·exact r7 H
   ·have h2:=cX (f:=l9) Z;rw[H]at h2;exact absurd h2 bn
   ·exact kr H
 |false=>
  refine Ve5 ?_;have aq:a≠s:=by simpa using bq
  refine⟨iK i,Aa,i,n,iI,Amd iI,ar,bj,bk,bm,S,bo,az,λk E=>⟨(a7 k E).1,?_⟩,λx Z=>b5 x (K.subset (cI _ Z))⟩;rcases(a7 k E).2 with q|q
  ·have r:=(K.map l9).mem_iff.2 q;rw[bC,bH]at r;rcases r with r|r
   ·exact kr (by rw[r];exact Vx.2 aq)
   ·exact r7 r
  ·exact kr q
def Anu(W:VW J c u)(b s g)(h:Lf u b g)(X:∀k∈g,Tp k)(V:¬c b):Bg y7 km J F 69 #[.map (lj b),iE s] u λx O=>x=js #[]/\VW J c O/\Lf O b (CE s g)/\Ax u O (· = b):=by
 apply Bl func69 Ac iI (λ_ _=>results_none Ac _ _ _) (λ_ _=>jil Ac _ _);simp only[ntmps69,na,Nat.reduceAdd,Nat.reduceSub];refine Wqw ?_;apply Dk #[iE s] 3;walk_nrm;refine Ro8 ?_;have H:=Ba u #[iE s] 3 iH;refine Gd2 ?_;apply A2 (Ab2 (W.alloc #[iE s] 3) b s u.1.size g (h.keep (H.block _ (Bi.lt h) id)) X (iw _ _) (λh=>by have:=W.lt h;omega) V) iI Ac iI Af;rintro x B⟨rfl,K,Y,a⟩;walk_nrm;exact Au ⟨r7 iI,iI,trivial,K,Y,(H.mono λ_ h=>h.elim).trans a⟩
end
structure Yy(v:gk)(cb co cT)(ob:hY)(pv:uo)(q:gT)(t vA vF):Prop where
 K:Ax vA vF (λi=>i=cb∨i=iL v.1∨i=iL v.1+2∨ob=lj i∨pv.ownBlock=lj i)
 b:∀bb,ob=lj bb->vF.1[bb]?=v.1[bb]?
 box:vF.1[iL v.1]?=lj (oh #[pdw (lj (iD cb co))] 117)
 part:∃pvA csA,vA.1[cb]?=lj (oh csA cT)/\vF.1[cb]?=lj (oh ((csA.setIfInBounds co pvA).setIfInBounds (co+1) (gd t)) cT)/\vF.ownsRow 0 5 1 pvA (iK q) (A4 q)/\IntsIn vF pvA/\∀g,pvA.ownBlock=lj g->pv.ownBlock=lj g∨iL vA.1<=g
structure Aar(v u:gk)(cb:Nat)(cT)(Ev:gY)(ob:hY)(pv:uo)(vA:gk):Prop where
 bl:∀i,i=iL v.1∨i=iL v.1+2∨ob=lj i∨pv.ownBlock=lj i->vA.1[i]?=(Bb (Ls v.1.size ob pv.ownBlock) u).1[i]?
 cb:∃csA,vA.1[cb]?=lj (oh csA cT)/\csA.size=Ev.size
 sz:iL v.1+5<=iL vA.1
section
variable {H:E2} {b:q9} {i:gT} {n:Ren} {p:gW} {k:Nat} {r:List (gT)->Y->Prop} {X:Frame}
def Y7{W B i}{c:gY}{e a}(h:W.1[i]?=lj (oh c e a))(k:B i):(Bb B W).1[i]?=lj (oh #[] e a):=by
 rw[Bz,h];simp[k];rfl
def Wl{V i}(h:S V)(O:Qf o):S { V with heap:=V.1.setIfInBounds i o }:=λj x Z=>by
 have H:=Z;rw[bY]at H;split at H
 ·grind
 ·exact h j x H
def XR{b J p Own2 u a o t P d Y e w}{l:gT}{pg:hY}{pgW:Nat}(U:Di b u J p o t d)(E:Di b a Y e g' P d)(ab:P.ownsRow 0 5 1 w (iK l) (A4 l))(a6:IntsIn P w)(I:∀g,w.ownBlock=lj g->∀a7,¬Y (.cell (iD g a7)))(a8:∀g,w.ownBlock=lj g->(∃r,pg=lj r/\t.1[r]?=lj (oh #[] 5 (0,0))/\sh a g=sh u r)∨∀i,i<iL t.1->sh u i≠sh a g)(m:∀l,p l->Own2 l)(v:∀g,w.ownBlock=lj g->((∃K,P.cell? (iC g)=lj K)∨∀i,i<iL t.1->sh u i≠sh a g)->∀l,M9 (sh a g) l->Own2 l):∃A G j,Di b A J Own2 o G d/\(∀i,i<iL t.1->sh A i=sh u i)/\Az A j=Az a w/\Az (.up G.1.size) j=j/\G.ownsRow 0 5 1 j (iK l) (A4 l)/\IntsIn G j/\(∀g,j.ownBlock=lj g->pg=lj g∨iL t.1<=g)/\Ax t G (λi=>pg=lj i)/\(Plain t->Plain G):=by
 obtain⟨F,⟨rfl,C⟩|⟨g,L,H,rfl,h2,T,q,n,f,M⟩⟩:=ab
 ·exact⟨u,t,qh jh 0 0,U.mono m,λ_ _=>rfl,Ad,Ad,⟨F,r7 ⟨iI,C⟩⟩,λg x z=>(by cases z),λg z=>(by cases z),.refl _ _,id⟩
 ·have h:=a6 g H iI T;rcases a8 g rfl with⟨r,y,D,N⟩|S
  ·by_cases a1:H=#[]
   ·subst a1;refine⟨u,t,qh (lj (iC r)) (iK l) L,U.mono m,λ_ _=>rfl,by simp[Ei,N],by simp[Ei,Im (ltOf D)],⟨F,kr ⟨r,L,#[],iI,bF _,D,q,n,f,M⟩⟩,λX x z O K Z=>?_,λX z=>r7 (by rw[y];simpa[yq] using z),.refl _ _,id⟩;obtain rfl:r=X:=by simpa[yq] using z
    grind
   ·have aa:=E.row T a1 (I g iI);rw[h.map,N]at aa;have R:=(U.unblank D (c:=H) (h.map _) (by rwa[h.map])).mono (Own':=Own2) λl O=>O.elim (m l) λO=>v g iI (r7 ⟨H[0]'(Nat.pos_of_ne_zero λz=>a1 (dS z)),by rw[Ci T];exact aO _⟩) l (by rwa[N]);have W:({ t with heap:=t.1.setIfInBounds r (oh H 5 (0,0)) }:gk).1.size=iL t.1:=Ad;have aq:({ t with heap:=t.1.setIfInBounds r (oh H 5 (0,0)) }:gk).1[r]?=lj (oh H 5 (0,0)):=aQ (ltOf D);refine⟨u,_,qh (lj (iC r)) (iK l) L,R,λ_ _=>rfl,by simp[Ei,N],by rw[W];simp[Ei,Im (ltOf D)],⟨F,kr ⟨r,L,H,iI,bF _,aq,q,n,f,M⟩⟩,λX x z O=>?_,λX z=>r7 (by rw[y];simpa[yq] using z),⟨iI,iI,iI,by rw[W];exact aC _,λi V Z=>aD λz=>Z (by rw[y,z])⟩,λQ=>Wl Q trivial⟩;obtain rfl:r=X:=by simpa[yq] using z
    rw[aq]at O;cases O;exact h
  ·obtain⟨o',ad,s⟩:=(E.sm 0).4 _ _ T;have k:o'=oh H 5 (0,0)∨∃B z fz,Obj.cells H 5 (0,0)=oh #[] z fz/\o'=oh B z fz:=by
    by_cases a1:H=#[]
    ·subst a1;obtain⟨B,rfl⟩:=Nj s;exact kr ⟨B,_,_,iI,iI⟩
    ·rw[Go.Pair.LikeO.row s a1 (I g iI),h.map];exact r7 iI
   obtain⟨A,R,e4,ag⟩:=U.give (Own':=Own2) (o:=oh H 5 (0,0)) (g':=o) ad k S (λae=>by simp only[Dq];rw[h.map]) (VV (cQ _) U.wf.2) m (v g iI (kr S));have c:({ t with heap:=t.1.push (oh H 5 (0,0)) }:gk).1[iL t.1]?=lj (oh H 5 (0,0)):=Ad;refine⟨A,_,qh (lj (iC t.1.size)) (iK l) L,R,ag,by simp[Ei,e4],by simp[Ei,Im (gC t.1.size)],⟨F,kr ⟨iL t.1,L,H,iI,bF _,c,q,n,f,M⟩⟩,λX x z O=>?_,λX z=>kr (Nat.le_of_eq (by simpa[yq] using z)),⟨iI,iI,iI,Ad,λi V _=>?_⟩,λQ=>Tf (v:=t) Q trivial⟩
   ·obtain rfl:iL t.1=X:=by simpa[yq] using z
    rw[c]at O;cases O;exact h
   ·show(t.1.push _)[i]?=_;rw[Array.getElem?_push,aM Aa]
end
section
variable {h:gS} {J:gW}
def Ns{V}{y:Nd}(h:w.1[V]?=lj (oh y.cs 87))(x):Br w (putN w V x) V x.cs 87:=
 ((((((Br.refl h).set 0 (pc x.path)).set 1 (pc x.data)).set 2 (pc x.note)).set 3 (iE x.made)).set 4 (iE x.changed)).set 5 (iE x.version)
def Jo{w P kind m p d n K a}(h:w.1[P]?=lj (oh (A5 kind m p d n K a) 131))(f:∀k,¬J (.cell (iD P k)))(o)(k:Nat)(O:o.op=.load 131 (.tmp k))(b:Act)(E:b.eval (.tmp k)=iB P):Go.Pair.Yields y7 (execOp b.eval o) w (J4 kind m p d n K a) w/\∀e∈(execOp b.eval o).events y7 w #[],Ff J e:=by
 have ⟨c0,Q,R,U,u,l,q⟩:=M4 h iI;unfold execOp;rw[O];simp only[E];refine⟨r7 ?_,λe N=>?_⟩
 ·go_simp
 ·simp[go_sem,c0,Q,R,U,u,l,q]at N;rcases N with rfl|rfl|rfl|rfl|rfl|rfl|rfl<;>exact Cl (f _)
def IA{V}(h:w.1[V]?=lj (oh x.cs 87))(d:∀k,¬J (.cell (iD V k)))(o)(k:Nat)(O:o.op=.load 87 (.tmp k))(a:Act)(E:a.eval (.tmp k)=iB V):Go.Pair.Yields y7 (execOp a.eval o) w x.val w/\∀e∈(execOp a.eval o).events y7 w #[],Ff J e:=by
 have ⟨c0,Q,R,U,u,l⟩:=N4 h iI;unfold execOp;rw[O];simp only[E];refine⟨r7 ?_,λe N=>?_⟩
 ·go_simp
 ·simp[go_sem,c0,Q,R,U,u,l]at N;rcases N with rfl|rfl|rfl|rfl|rfl|rfl<;>exact Cl (d _)
def DG(rb:Nat)(rc:gY)(rt:q9)(svb:Nat)(vc:gY)(nb:Nat)(x:Nd)(w:Y):Prop:=Jb rb rc rt svb vc w/\w.1[nb]?=lj (oh x.cs 87)
def DG.at{rb rc rt svb vc nb x}(w d)(h:DG rb rc rt svb vc nb x w):DG rb rc rt svb vc nb x (w.at d):=h
def DG.kx{P j z G V X}(h:DG P j rt z G V x w)(E:Ax w B X)(C:¬X P)(J:¬X z)(T:¬X V):DG P j rt z G V x B:=⟨h.1.kx E C J,E.get h.2 T⟩
structure Rr(num:Int)(ns:List (gU×Nd)):Prop where
 len:ns.length<=32
 num0:0<=num
 num1:num<9223372036854775807
 size:∀q∈ns,q.1.size<=1000/\Eb q.1=km
 node:∀q∈ns,0<=q.2.made/\q.2.made<=num/\0<=q.2.changed/\q.2.changed<=num/\0<=q.2.version/\q.2.version<=2147483647
def Tk{V x}(h:w.1[V]?=lj (oh Nd.zero.cs 87))(l:∀k,¬J (.cell (iD V k)))(o)(O:o.op=.store 87 (.tmp 6) (.tmp 17))(a:Act)(f:a.eval (.tmp 6)=iB V)(L:a.eval (.tmp 17)=x.val):(∀M,Go.Pair.Yields y7 (execOp a.eval o) (w.at M) qp ((putN w V x).at M))/\∀M,∀e∈(execOp a.eval o).events y7 (w.at M) #[],Ff J e:=by
 refine⟨λM=>kr ⟨?_,iI⟩,λM=>?_⟩
 all_goals
  have ⟨y,m,q,S,n,Y⟩:=N4 (W:=w.at M) h iI;have ⟨Q,D,K,b,r,t,_⟩:=Gu (W:=w.at M) h;unfold execOp;rw[O];simp only[f,L]
 ·go_simp;unfold putN;simp only[at_set]
 ·intro e N;simp[go_sem,y,m,q,S,n,Y,Q,D,K,b,r,t,events_store _ _ _ _ (Value.string _) Mode.plain iI,storedEv]at N;rcases N with rfl|rfl|rfl|rfl|rfl|rfl<;>exact Cl (l _)
def Xx{V x}(h:w.1[V]?=lj (oh Nd.zero.cs 87))(l:∀k,¬J (.cell (iD V k)))(o)(i j:Nat)(O:o.op=.store 87 (.tmp i) (.tmp j))(a:Act)(f:a.eval (.tmp i)=iB V)(L:a.eval (.tmp j)=x.val):(∀d,Go.Pair.Yields y7 (execOp a.eval o) (w.at d) qp ((putN w V x).at d))/\∀d,∀e∈(execOp a.eval o).events y7 (w.at d) #[],Ff J e:=by
 have n:=Tk h l { o with op:=.store 87 (.tmp 6) (.tmp 17) } rfl { tmps:=((Array.replicate 18 qp).setIfInBounds 6 (iB V)).setIfInBounds 17 x.val,defers:=[] } Ac Ac;have e:∀(b:Operand->uo)I(N H:Operand),I.op=.store 87 N H->execOp b I=(do Instr.storeAt 87 (b N) (b H);Pure.pure Next.skip):=λb I N H h=>by
  unfold execOp;rw[h]
 rwa[e _ _ _ _ O,f,L]
end
section
variable {H:E2} {b:q9} {i:gT} {n:Ren} {p:gW} {k:Nat} {r:List (gT)->Y->Prop} {X:Frame} {I:vr}
def Abh{b x}(h:w.cell? (iD b j)=lj x):∃c e a,w.1[b]?=lj (oh c e a)/\c[j]?=lj x:=by
 unfold World.cell? at h
 grind
def Xy{J a m o t}(s:Di P m J a o t B){i e b}{c:gY}(Y:t.1[i]?=lj (oh #[] e b))(Z:c.map (Az (.up t.1.size))=c)(W:c≠#[]->B.1[sh m i]?=lj (oh (c.map (Az m)) e b))(H:c≠#[]->∀l,M9 (sh m i) l->a l):∃G,Di P m J a o G B/\G.1[i]?=lj (oh c e b)/\Ax t G (· = i)/\iL G.1=iL t.1/\(S t->S G):=by
 by_cases M:c=#[]
 ·subst M;exact⟨t,s,Y,.refl _ _,iI,id⟩
 ·refine⟨_,(s.unblank Y Z (W M)).mono λl h=>h.elim id (H M l),aQ (ltOf Y),⟨iI,iI,iI,Ad,λj f Z=>aD λe=>Z e.symm⟩,Ad,λQ=>Wl Q trivial⟩
def join(F:Ds m v cb U b d a i ob K L W)(J:Fc v cb U (I5 ob K (iK W) L) KK u)(hI:∀ms v bj,r ms v->r ms (World.at v bj))(hs:Di y7 n m (H.Own p) I u e)(hS:H.Shd e p n)(bk:(DE m H.In n e u p k v.1.size cb U b d ob a q t f h (X::cs) r).Ok)(hA:∀x,r [] x->Aar v u cb b d ob a x){Q S w s y g P}(R:WG (DE m H.In n e u p k v.1.size cb U b d ob a q t f h (X::cs) r) (Acn hI bk) Q S B w y g s g' P):∃nF vF ab,y=Hq (X::cs) ab/\Yk (iL v.1+4) (iL v.1+2) f h (iB v.1.size) ab/\r [] g/\Yy v cb U b ob a q t g vF/\Di y7 nF m (H.Own λl=>p l∨Gw (sh n (iL v.1+4)) l) y vF B/\Bn nF y=Bn w y/\Plain vF/\H.Kept B/\∀D,D<H.num->sh nF D=H.nf D/\H.nf D<iL B.1:=by
 have b6:=hS.blk;have aq:H.Kept B:=hS.kept.ror R.same.2.2.2 λl M=>kr M;obtain⟨ab,bm,hy,b7⟩:=R.7;obtain⟨b8,T⟩:=R.eb;have A:=hA g b7;obtain⟨ad,bn,ck⟩:=A.cb;have cm:=F.cbN;have cn:=(aG.1 F.c0).1;have cp:=(aG.1 F.c1).1;have af:∀D,D<iL v.1+5->sh w D=sh n D:=λD hi=>R.same.2.1 D hi;have ar:∀D x,(Jp v.1.size cb ob a.ownBlock)[D]?=lj x->sh s D=sh n x:=λD x hx=>by
  have hi:D<(Jp v.1.size cb ob a.ownBlock).length:=(aF.1 hx).1;rw[R.same.2.2.1 D (by rwa[Yn]at hi)]
  show((Jp v.1.size cb ob a.ownBlock).map (sh n)).getD D 0=_;simp[cO,aS,hx]
 have au:(Iq u v.1.size cb U b d ob a).1.size=14+iK ob.toList+iK a.ownBlock.toList:=Lu;have ai:∀{D} {j} {x},P.cell? (iD D j)=lj x->¬TR U (.cell (iD D j))->¬(p (.cell ⟨sh s D,j,jh⟩)∨Gw (sh n (iL v.1+4)) (.cell ⟨sh s D,j,jh⟩)):=λ{D j x} C h2=>by
  have Y:=R.sb.own (.cell (iD D j)) ⟨x,C⟩ h2;exact λM=>M.elim Y.2.2.2.2 Y.2.2.1
 have aj:∀{D} {j} {x},P.cell? (iD D j)=lj x->¬TR U (.cell (iD D j))->¬H.In (.cell ⟨sh s D,j,jh⟩):=λ{D j x} C h2 M=>(R.sb.own (.cell (iD D j)) ⟨x,C⟩ h2).2.1 (kr M);have cq:∀{l},Gw (sh n (iL v.1+4)) l->¬H.In l:=λM=>Amk F J hs hS M;have ak:∀{a8} {l},M9 a8 l->(¬(p (.cell (iC a8))∨Gw (sh n (iL v.1+4)) (.cell (iC a8))))->¬(p l∨Gw (sh n (iL v.1+4)) l):=λ{a8 l} C h2 Y=>by
  have al:=b6.wg (sh n (iL v.1+4));cases l with
  |cell aa=>exact h2 (al.cell aa _ Y (show a8=aa.block from(show aa.block=a8 from C).symm))
  |obj o=>exact al.obj o Y
  |_=>exact C
 have s0:Di y7 w (OQ m cb U v.1.size) (H.Own λl=>p l∨Gw (sh n (iL v.1+4)) l) y g B:=R.sa.mono λl M=>⟨λh'=>h'.elim M.2.2.2.2 M.2.2.1,λh'=>M.2.1 (kr h')⟩;obtain⟨sc,rc,tm,cr⟩:=R.ch;have bo:¬Ls v.1.size ob a.ownBlock (iL v.1+2):=by
  rintro(M|M|M|M|M|M)
  ·omega
  ·omega
  ·omega
  ·omega
  ·have:=F.bbN M;omega
  ·have:=F.pgN M;omega
 have bq:g.1[iL v.1+2]?=lj (.chan 0 #[] false 0 0 false):=by
  rw[A.1 _ (kr (r7 iI)),Bz,J.b2];simp[bo]
 have s1:=s0.object bq (λ_ _ _ z=>by cases z) (o:=.chan 0 #[] km sc rc tm) (λ_ _ _ z=>by cases z) (λcu=>by simp[Dq]) (by rwa[show sh w (iL v.1+2)=_ from R.ca.2]);have s1:=s1.mono (Own':=H.Own λl=>p l∨Gw (sh n (iL v.1+4)) l) λl M=>M.elim id λz=>by
  rw[z,af (iL v.1+2) Aa];exact⟨(b6.wg _).obj _,(hs.own (.obj (iL v.1+2)) ⟨_,J.b2,λ_ _ _ z=>by cases z⟩ (F.jn.obj _)).2⟩
 have k1:Ax g { g with heap:=g.1.setIfInBounds (iL v.1+2) (.chan 0 #[] km sc rc tm) } (· = iL v.1+2):=⟨rfl,rfl,rfl,Ad,λD hi hx=>aD λz=>hx z.symm⟩;have z1:({ g with heap:=g.1.setIfInBounds (iL v.1+2) (.chan 0 #[] km sc rc tm) }:gk).1.size=iL g.1:=Ad;have p1:Plain { g with heap:=g.1.setIfInBounds (iL v.1+2) (.chan 0 #[] km sc rc tm) }:=Wl R.pa trivial;generalize ({ g with heap:=g.1.setIfInBounds (iL v.1+2) (.chan 0 #[] km sc rc tm) }:gk)=v1 at s1 k1 z1 p1;have br:∃Z,Di y7 w (λl=>OQ m cb U v.1.size l/\l≠.obj (iL v.1+2)) (H.Own λl=>p l∨Gw (sh n (iL v.1+4)) l) y Z B/\(∀V,ob=lj V->Z.1[V]?=v.1[V]?)/\Ax v1 Z (λD=>ob=lj D)/\iL Z.1=iL v1.1/\Plain Z:=by
  cases a6:ob with
  |none=>exact⟨v1,s1,λ_ z=>(by cases z),.refl _ _,iI,p1⟩
  |some V=>
   obtain⟨cw,bu,c,z,fz,hr,ah⟩:=F.brow V a6;have bw:=F.bbN a6;have bx:v1.1[V]?=lj (oh #[] z fz):=by
    rw[k1.block V (by have:=A.sz;omega) Aa,A.1 V (kr (kr (r7 a6)))];exact Y7 (J.K.get hr λM=>M) (kr (kr (kr (kr (r7 a6)))))
   have an:P.1[14]?=lj (oh c z fz):=by
    have bz:=IC (N:=iL v.1) (cb:=cb) (pg:=a.ownBlock) a6;have Ib:14<(Iq u v.1.size cb U b d ob a).1.size:=by rw[au,a6];simp;omega
    rw[T.K.block 14 Ib (by
     rintro(M|M)
     ·omega
     ·cases b9:a.ownBlock with
      |none=>rw[b9]at M;cases M
      |some E=>rw[b9,a6]at M;simp[Te]at M),IG bz]
    unfold V9;rw[aM bu,aM Aa,aM Aa,J.K.get hr λM=>M]
    rfl
   have av:sh s 14=sh w V:=by rw[ar 14 V (IC a6),af V Aa]
   have nj:∀j,¬TR U (.cell ⟨14,j,jh⟩):=λj M=>by rcases M with⟨_,z,_⟩|z<;>cases z
   obtain⟨Z,c6,a2,a3,a4,a5⟩:=Xy s1 (c:=c) bx (ah.map _) (λa1=>by
    have:=R.sb.row an a1 nj;rw[ah.map,av]at this
    rwa[ah.map]) (λa1 l a7=>by
    refine⟨?_,Ado R.sb aq an a1 nj (λj hj=>aj (x:=c[j]) (by rw[Ci an];exact aO _) (nj j)) (by rwa[av])⟩;apply ak a7;rw[←av];exact ai (x:=c[0]'(Nat.pos_of_ne_zero λz=>a1 (dS z))) (by rw[Ci an];exact aO _) (nj 0))
   exact⟨Z,c6,λb' e'=>by cases e';rw[a2,hr],a3.mono λD M=>by rw[M],a4,a5 p1⟩
 obtain⟨Z,s2,al,k2,z2,p2⟩:=br;have cx:=A.sz;have ba:Z.1[iL v.1]?=lj (oh #[] 117 (0,0)):=by
  rw[k2.block _ Aa (λM=>by have:=F.bbN M;omega),k1.block _ Aa Aa,A.1 _ (r7 iI)];exact Y7 J.3 (r7 iI)
 have c7:B.1[sh w v.1.size]?=lj (oh #[pdw (lj ⟨sh n cb,U,jh⟩)] 117 (0,0)):=by
  obtain⟨o',C,h2⟩:=(s2.sm 0).4 _ _ ba;obtain⟨c',rfl⟩:=Nj h2;have bb:=hs.row J.3 Ad λj=>F.jn.new (aC _) j;have c8:=R.same.2.2.2;rw[C]
  congr 2
  refine bX λj=>?_;have Y:=c8.cell ⟨sh n v.1.size,j,jh⟩ (r7 ⟨_,iI,r7 iI⟩) (ltOf bb);rw[←af v.1.size Aa,Ci C j,af v.1.size Aa]at Y;rw[Y,show(DE m H.In n e u p k v.1.size cb U b d ob a q t f h (X::cs) r).w0=e from iI,Ci bb j];simp[Ei]
 obtain⟨v3,s3,cy,k3,z3,p3⟩:=Xy s2 (c:=#[pdw (lj (iD cb U))]) ba (by simp[Ei,Im (show cb<iL Z.1 by omega)]) (λ_=>by rw[c7];simp[Ei,af cb Aa]) (λ_ l a7=>by
  refine⟨?_,Ado hs hS.kept J.3 Ad (λj=>F.jn.new (aC _) j) (λj hj=>(hs.own (.cell (iD v.1.size j)) ⟨_,(Ci J.3 j).trans (aO hj)⟩ (F.jn.new (aC _) j)).2) (by rwa[←af v.1.size Aa])⟩;apply ak a7;rw[af v.1.size Aa];rintro(M|⟨aa,z,e2⟩)
  ·exact Ms (l:=.cell (iC v.1.size)) hs ⟨_,cellOf (j:=0) J.3 iI⟩ (F.jn.new (aC _) 0) M
  ·cases z;have e2:sh n v.1.size=sh n (iL v.1+4):=e2;have:=Gq e2;omega)
 have aw:∀I,a.ownBlock=lj I->v3.1[I]?=lj (oh #[] 5 (0,0))/\sh s (Te ob)=sh w I:=λI O=>by
  have G:=F.pgN O;have c9:=F.8 I O;refine⟨?_,by rw[ar _ I (ID O),af I Aa]⟩;rw[k3.block _ Aa Aa,k2.block _ Aa c9.2.2,k1.block _ Aa Aa,A.1 _ (kr (kr (kr O)))];obtain⟨_,⟨M,_⟩|⟨E,cz,dc,M,_,Y,_⟩⟩:=F.own
  ·rw[M]at O;cases O
  ·have N:=O;rw[M]at N;obtain rfl:E=I:=by simpa[yq] using N
   exact Y7 (J.K.get Y λM=>M) (kr (kr (kr (kr (kr O)))))
 have dd:iL v3.1=iL g.1:=Aa;have cc:∀E,b8.ownBlock=lj E->(Iq u v.1.size cb U b d ob a).1.size<=E->∀D,D<iL v3.1->sh w D≠sh s E:=λE G ao D hi=>R.disj D E Aa (by rwa[au]at ao) (Cm T.C.own G) (T.P E G).2.2;have bc:∀E,b8.ownBlock=lj E->a.ownBlock.map (λ_=>Te ob)=lj E->∃I,a.ownBlock=lj I/\E=Te ob:=λE G M=>by
  cases hp:a.ownBlock with
  |none=>rw[hp]at M;cases M
  |some I=>rw[hp]at M;exact⟨I,iI,by simpa[eq_comm] using M⟩
 obtain⟨n4,v4,ae,s4,ag,er,cd,ax,ah,ay,k4,p4⟩:=XR (Own2:=H.Own λl=>p l∨Gw (sh n (iL v.1+4)) l) (pg:=a.ownBlock) (pgW:=0) s3 R.sb T.C.own T.C.ints (λE G j hJ=>by
   rcases hJ with⟨_,z,_⟩|z
   ·cases z;exact T.C.ap 8 G iI
   ·cases z) (λE G=>by
   rcases(T.P E G).1 with M|M
   ·obtain⟨I,O,rfl⟩:=bc E G M;exact r7 ⟨I,O,(aw I O).1,(aw I O).2⟩
   ·exact kr (cc E G M)) (λl M=>M) (λE G hx l a7=>by
   have az:∀j,¬TR U (.cell (iD E j)):=λj hJ=>by
    rcases hJ with⟨_,z,_⟩|z
    ·cases z;exact T.C.ap 8 G iI
    ·cases z
   rcases hx with⟨x,hx⟩|hx
   ·refine⟨ak a7 (ai hx (az 0)),?_⟩;obtain⟨c,z,fz,hr,h0⟩:=Abh hx;exact Ado R.sb aq hr (λz=>by rw[z]at h0;simp at h0) az (λj hj=>aj (x:=c[j]) (by rw[Ci hr];exact aO _) (az j)) a7
   ·have ao:(Iq u v.1.size cb U b d ob a).1.size<=E:=by
     rcases(T.P E G).1 with M|M
     ·obtain⟨I,O,rfl⟩:=bc E G M;have:=F.pgN O;exact absurd (aw I O).2.symm (hx I Aa)
     ·exact M
    have cf:iL e.1<=sh s E:=R.new E (by rwa[au]at ao) (Cm T.C.own G);have de:sh n (iL v.1+4)<iL e.1:=(hs.sm 0).lt _ (by rw[J.size];omega);refine⟨?_,λhi=>Ee cf (hS.kept.low hi) (DZ (aC _) a7)⟩;apply ak a7;rintro(M|⟨aa,z,e2⟩)
    ·have:sh s E<iL e.1:=hS.low _ M;omega
    ·cases z;have e2:sh s E=sh n (iL v.1+4):=e2;omega)
 have z4:=k4.size;have bd:ob≠lj cb:=λM=>(F.brow cb M).2.1 iI;have bf:v4.1[cb]?=lj (oh ad b):=by
  rwa[k4.block cb Aa (λM=>(F.8 cb M).2.1 iI),k3.block _ Aa Aa,k2.block _ Aa bd,k1.block _ Aa Aa]
 have e8:sh n4 cb=sh s 8:=by rw[ag cb Aa,af cb Aa,ar 8 cb iI]
 have s5:=s4.reveal bf (off:=U) Aa (x:=ae) cd (by rw[e8,er];exact R.sb.cellW T.C.c0 T.C.j0);have bg:(v4.setCell (iD cb U) ae).1[cb]?=lj (oh (ad.setIfInBounds U ae) b):=by rw[heap_setCell,aL iI,bf];rfl
 have s6:=s5.reveal bg (off:=U+1) Ah (x:=gd t) Ad (by rw[e8,R.sb.cellW T.C.c1 T.C.j1];simp);have bh:((v4.setCell (iD cb U) ae).setCell ⟨cb,U+1,jh⟩ (gd t)).1[cb]?=lj (oh ((ad.setIfInBounds U ae).setIfInBounds (U+1) (gd t)) b):=by rw[heap_setCell,aL iI,bg];rfl
 have k6:Ax v4 ((v4.setCell (iD cb U) ae).setCell ⟨cb,U+1,jh⟩ (gd t)) (· = cb):=(Et v4 cb U ae).trans (Et _ cb (U+1) (gd t));have z6:((v4.setCell (iD cb U) ae).setCell ⟨cb,U+1,jh⟩ (gd t)).1.size=iL v4.1:=by rw[Go.Pair.size_setCell,Go.Pair.size_setCell]
 have s7:=s6.less (J':=m) (Own':=H.Own λl=>p l∨Gw (sh n (iL v.1+4)) l) (g':=y) (λl M=>by
  obtain⟨⟨⟨C,h2⟩,Y⟩,h4⟩:=M;rcases C with(C|C|C)|C
  ·exact(Y C).elim
  ·exact(h4 C).elim
  ·exact(h2 C).elim
  ·exact C) s6.wf.2 (λl _ _ ho=>by
  rcases ho with(ho|ho)|ho
  ·exact ho
  ·rw[ho,e8];exact⟨ai T.C.c0 T.C.j0,aj T.C.c0 T.C.j0⟩
  ·rw[ho,e8];exact⟨ai T.C.c1 T.C.j1,aj T.C.c1 T.C.j1⟩)
 have p6:Plain ((v4.setCell (iD cb U) ae).setCell ⟨cb,U+1,jh⟩ (gd t)):=Kk (Kk (p4 (p3 p2)) _ _) _ _;generalize dg:(v4.setCell (iD cb U) ae).setCell ⟨cb,U+1,jh⟩ (gd t)=v6 at s7 bh k6 z6 p6;refine⟨n4,v6,ab,bm,hy,b7,⟨?_,λV b5=>?_,?_,⟨ae,ad,bn,bh,?_,?_,λE G=>(ay E G).imp id λM=>Aa⟩⟩,s7,((U2 (TY (M:=iL g.1) λD hi=>ag D Aa) R.sa.wf.2)),p6,aq,λD hi=>?_⟩
 ·have m1:Ax g v1 (λD=>D=cb∨D=iL v.1∨D=iL v.1+2∨ob=lj D∨a.ownBlock=lj D):=k1.mono λD M=>kr (kr (r7 M));have m2:Ax v1 Z (λD=>D=cb∨D=iL v.1∨D=iL v.1+2∨ob=lj D∨a.ownBlock=lj D):=k2.mono λD M=>kr (kr (kr (r7 M)));have m3:Ax Z v3 (λD=>D=cb∨D=iL v.1∨D=iL v.1+2∨ob=lj D∨a.ownBlock=lj D):=k3.mono λD M=>kr (r7 M);have m4:Ax v3 v4 (λD=>D=cb∨D=iL v.1∨D=iL v.1+2∨ob=lj D∨a.ownBlock=lj D):=k4.mono λD M=>kr (kr (kr (kr M)));have m6:Ax v4 v6 (λD=>D=cb∨D=iL v.1∨D=iL v.1+2∨ob=lj D∨a.ownBlock=lj D):=k6.mono λD M=>r7 M;exact(((m1.trans m2).trans m3).trans m4).trans m6
 ·have bw:=F.bbN b5;rw[k6.block V Aa (λz=>bd (by rwa[←z])),k4.block V Aa (λz=>(F.8 V z).2.2 b5),k3.block V Aa Aa];exact al V b5
 ·rwa[k6.block _ Aa Aa,k4.block _ Aa (λM=>by have:=F.pgN M;omega)]
 ·refine Dh ax λE G=>k6.block E (Cm ax G) λz=>?_;rcases ay E G with M|M
  ·exact(F.8 E M).2.1 z
  ·omega
 ·intro E cg G M;apply ah E cg G;rw[←M];refine(k6.block E (Cm ax G) λz=>?_).symm;rcases ay E G with M|M
  ·exact(F.8 E M).2.1 z
  ·omega
 ·obtain⟨C,h2⟩:=hS.nn D hi;have cj:D<iL v.1+5:=by
   refine Nat.lt_of_not_le λao=>?_;have:=(hs.sm 0).out D (by rwa[J.size]);omega
  exact⟨by rwa[ag D Aa,af D cj],aA h2 R.1⟩
end
section
variable {H:E2} {b:q9} {i:gT} {cp:gY} {fr:Frame}
def GZ{c}(E:Ds m v cb U b d a i ob K L W)(A:∃e,c.1[cb]?=lj (oh e b)/\e.size=d.size)(h:Yy v cb U b ob a q t c w):w.cell? ⟨cb,U+1,jh⟩=lj (gd t):=by
 have ⟨r,e,C,J,_⟩:=h.part;have ⟨f,T,g⟩:=A;rw[C]at T;cases T;have Q:=(aG.1 E.c1).1;rw[Ci J,aQ Ah]
set_option maxRecDepth 100000 in
def XF{a}(y)(T:y 3=iB v.1.size)(b:a.1[iL v.1]?=lj (oh #[pdw (lj (iD cb U))] 117))(M:a.cell? ⟨cb,U+1,jh⟩=lj (gd t))(Y:∀j,¬m (.cell (iD cb j)))(C:∀j,¬m (.cell (iD v.1.size j)))(d:EV y7 km m F (G (fr.finish (gd (!t))) cs) a):EV y7 km m F (Hq (fr::cs) y) a:=by
 apply EV.regionEnd;simp only[HJ,Ku,Vo,J7,Code.one,Code.two,f46,aY,Ke,T];apply EV.seqC;refine EV.piece (fn:=46) iI iI (Pc (Q:=λe c O=>e=.normal/\c.defers = []/\c.tmps.getD 6 qp=gd (!t)/\O=a) ?_) ?_
 ·simp only[bD,aV,aW,Nat.reduceAdd,aX,List.range,List.range.loop];apply Bp (cellOf (j:=0) b iI) (C _);walk_nrm;refine Wad ?_;apply Bp M (Y _);walk_nrm;refine Wad ?_;exact Au ⟨iI,iI,iI,iI⟩
 rintro e c O⟨rfl,g,f,rfl⟩;refine EV.ctl (g':=G { (base 46).at c [.code .ret] with mode:=.returning } (fr::cs)) ?_ rfl rfl λn w _=>stepG_ret' (b:=base 46) (a:=Bw n c) (k:=[]) (cs:=(fr::cs).map (Bj n));refine EV.leave (b:=base 46) g func46 iI (r:=gd (!t)) (λw=>by rw[←f];exact results_tmp Ac _ _ _) (λw=>events_results_tmp Ac _ _) d
def XH(c:Ds m v cb U b d a i ob K L W)(S:Je i W E q t)(a1:Wz i)(o:∀r v a6,I r v->I r (World.at v a6))(aa:Aat (OQ m cb U v.1.size) f cp I)(V:∀u,Fc v cb U (I5 ob K (iK W) L) KK u->I E (Bb (Ls v.1.size ob a.ownBlock) u))(y:∀u,Fc v cb U (I5 ob K (iK W) L) KK u->∀x,I [] x->Aar v u cb b d ob a x)(a7:∀X g,I [] g->Yy v cb U b ob a q t g X->EV y7 km m (ENP y7 H m) (G (fr.finish (gd (!t))) cs) X)(J:Fc v cb U (I5 ob K (iK W) L) 0 u)(a8:Plain u):EN y7 H m (G ((base 46).at (Ke (yE cb U v.1.size (I5 ob K (iK W) L) (.func (.func f) #[] cp) qp qp)) [.inRegion X7 [0],.code Y3]) (fr::cs)) u:=by
 refine Ab4 (λj=>c.jn.new Aa j) J λM=>?_;refine EN.ofP (Kk a8 _ _) (Agz λT z=>?_);have Y:=((J.set).at M).at T;generalize ((World.setCell u ⟨iL v.1+4,0,jh⟩ (uu .u64 KK)).at M).at T=B at z Y⊢;refine EN.fork iI λn w ab k Z hk s A=>?_;have e:=Y.at Z;have C:Plain (B.at Z):=z;generalize B.at Z=R at s e C;have O:=Anp (q:=q) (t:=t) (f:=f) (cp:=cp) (I:=I) (fr:=fr) (cs:=cs) c e s A hk;refine⟨DE m H.In n w R ab k v.1.size cb U b d ob a q t f cp (fr::cs) I,Acn o O,KBE (Iq R v.1.size cb U b d ob a) U (nB c e s),GG ((fr::cs).map (Bj n)) λad=>Az n (yE cb U v.1.size (I5 ob K (iK W) L) (.func (.func f) #[] cp) (js #[]) (Pu v.1.size) ad),born y7 (call62 (sh n (iL v.1+4)) (sh n (iL v.1+3)) (sh n v.1.size) (sh n (iL v.1+1))),iI,iI,iI,O,?_,QD c e S a1 o aa (V R e) C s O,λKB aj n2 gP g ak g' al F N an=>?_⟩
 ·rw[show(G ((base 46).at (Ke (yE cb U v.1.size (I5 ob K (iK W) L) (.func (.func f) #[] cp) (js #[]) (Pu v.1.size))) [.inRegion MO [1],.code Vo]) (fr::cs))=Ajr cb U v.1.size (I5 ob K (iK W) L) (.func (.func f) #[] cp) (fr::cs) from iI];unfold Ajr;rw[U3 n _ _ iI];exact Afi _ (by simp[yE,Pu,Ei,Mq]) w
 ·obtain⟨ae,X,P,rfl,af,D,p,sF,er,pF,ah,ai⟩:=join (k:=k) c e o s A O (y R e) N;rw[←er];have Q:iL w.1<=iL F.1:=N.1;refine(EN.ofP pF (XF (v:=v) (t:=t) P af.2 p.box (GZ c (y R e g D).cb p) c.jn.cb (λj=>c.jn.new (aC _) j) (a7 _ _ D p)):EN y7 H m (Hq (fr::cs) P) X) ae F _ sF ⟨λl h=>?_,A.blk.wg _,λl h=>h.elim (A.off l) λh=>Amk c e s A h,ah,ai⟩;rcases h with h|h
  ·exact Ja Q (A.low l h)
  ·exact LO (aA ((s.sm 0).lt _ (by rw[e.size];omega)) Q) h
end
section
variable {B:gV} {a x b c:Y} {o:uo} {st:Int}
def Oz(W:Go.Pair.RowsIn B a)(h:∀i,B i->x.1[i]?=a.1[i]?):De B a (Bb B x):=⟨λi V=>by
 have ⟨c,e,b,C⟩:=W i V;exact⟨c,e,b,C,by rw[Bz,h i V,C,aI,aL V];rfl⟩⟩
def Wh(W:Go.Pair.RowsIn B a)(h:∀i,B i->x.1[i]?=a.1[i]?):T B a (Bb B x)=x:=by
 have e:(T B a (Bb B x)).1=x.heap:=by
  apply bX;intro i;by_cases V:B i
  ·rw[Dy (Oz W h) V,h i V]
  ·rw[Z V,Bz]
   grind
 cases x;simp only[T,World.mk.injEq]at e⊢;exact⟨e,iI,iI,iI,iI⟩
def Zz(d:De B a b)(D:De B a c)(K:Ax b c X):Ax (T B a b) (T B a c) X:=
 ⟨K.os,K.tape,K.output,by rw[O,O];exact K.size,λi V Z=>by
  by_cases k:B i
  ·rw[Dy d k,Dy D k]
  ·rw[By k,By k];exact K.block i (by rwa[O]at V) Z⟩
def Ui(d:De B a b)(D:De B a c)(K:Ax (Cb B a b) (Cb B a c) X):Ax b c X:=
 ⟨K.os,K.tape,K.output,by have:=K.size;rwa[O,O]at this,λi V Z=>by
  by_cases k:B i
  ·have ⟨e,f,g,C,J⟩:=d.blank i k;have ⟨h,E,H,T,q⟩:=D.blank i k
   grind
  ·have:=K.block i (by rwa[O]) Z
   rwa[By k,By k]at this⟩
def Uf(h:De B a b)(V:B i):i<iL b.1:=by
 have ⟨_,_,_,_,J⟩:=h.blank i V;exact ltOf J
def Fc.lowB(F:Fc v cb U o st u)(h:De B a u):∀i,B i->i<iL v.1:=λi V=>by
 have ⟨d,e,c,C,J⟩:=h.blank i V;have K:=ltOf J;rw[F.size]at K;refine Nat.lt_of_not_le λb=>?_;have:i=iL v.1∨i=iL v.1+1∨i=iL v.1+2∨i=iL v.1+3∨i=iL v.1+4:=Aa;rcases this with rfl|rfl|rfl|rfl|rfl
 ·rw[F.3]at J;cases J
 ·rw[F.4]at J;cases J
 ·rw[F.b2]at J;cases J
 ·rw[F.6]at J;cases J
 ·rw[F.b4]at J;simp[JK]at J
def Fc.over(F:Fc v cb U o st u)(q:De B a v)(r:De B a u):Fc (T B a v) cb U o st (T B a u):=by
 have n:∀k,¬B (iL v.1+k):=λk h=>by have:=Uf q h;omega
 have l:¬B v.1.size:=n 0;refine⟨Zz q r F.K,by rw[O,O];exact F.size,?_,?_,?_,?_,?_⟩
 ·rw[O,Z l];exact F.3
 ·rw[O,Z (n 1)];exact F.4
 ·rw[O,Z (n 2)];exact F.b2
 ·rw[O,Z (n 3)];exact F.6
 ·rw[O,Z (n 4)];exact F.b4
def Fc.unover(W:Go.Pair.RowsIn B a)(q:De B a v)(F:Fc (T B a v) cb U o st u):∃P,u=T B a P/\De B a P/\Fc v cb U o st P:=by
 have Y:∀i,B i->u.1[i]?=a.1[i]?:=λi V=>by rw[F.K.block i (by rw[O];exact Uf q V) id,Dy q V]
 have r:=Oz W Y;have e:=Wh W Y;have n:∀k,¬B (iL v.1+k):=λk h=>by have:=Uf q h;omega
 have l:¬B v.1.size:=n 0;rw[←e]at F;refine⟨Bb B u,e.symm,r,Ui q r F.K,?_,?_,?_,?_,?_,?_⟩
 ·have:=F.size;rwa[O,O]at this
 ·have:=F.3;rwa[O,Z l]at this
 ·have:=F.4;rwa[O,Z (n 1)]at this
 ·have:=F.b2;rwa[O,Z (n 2)]at this
 ·have:=F.6;rwa[O,Z (n 3)]at this
 ·have:=F.b4;rwa[O,Z (n 4)]at this
end
structure PA(gN)(Tabs:gX) where
 H:E2
 TA:Nat->Prop
 base:gk
 J0:Loc->Prop
 rows:Go.Pair.RowsIn TA base
 jin:Pj TA J0
 lt:∀i,TA i->i<gN
 ge:∀i,TA i->8<=i
 tl:∀L:gk,Tabs L->∀kind,kind=1∨kind=2∨kind=3->∃g o,TA g/\L.cell? ⟨4,kind,jh⟩=lj (qh (lj (iD g o)) (TT kind).length (TT kind).length)/\∀j x,(TT kind)[j]?=lj x->(base.cell? ⟨g,o+j * 3,jh⟩=lj (iE x.1)/\base.cell? ⟨g,o+j * 3+1,jh⟩=lj (gd x.2.1)/\base.cell? ⟨g,o+j * 3+2,jh⟩=lj (iE x.2.2))/\¬J0 (.cell ⟨g,o+j * 3,jh⟩)/\¬J0 (.cell ⟨g,o+j * 3+1,jh⟩)/\¬J0 (.cell ⟨g,o+j * 3+2,jh⟩)
def PA.JX{gN Tabs}(A:PA gN Tabs):Loc->Prop:=JOr Ec A.4
def PA.jx{A:PA y R}{l}(h:A.JX l):=h.elim (λh=>h.elim) (A.6 l)
def Mz{gN Tabs}(A:PA gN Tabs):vr->Y->Prop:=Ajt A.2 A.base (ENP y7 A.H A.JX)
def PA.tlU(A:PA y R)(p:De A.2 A.base v)(d:R v){cb co N}(H:y<=cb):TlU y (OQ A.JX cb co N) (T A.2 A.base v):=λkind E=>by
 obtain⟨g,o,G,n,M⟩:=A.tl v d kind E;have c:¬A.2 4:=λh=>by have:=A.ge 4 h;omega
 have r:=A.lt g G;have B:∀{b j},b<y->¬A.4 (.cell (iD b j))->¬OQ A.JX cb co N (.cell (iD b j)):=λD F h=>by
  rcases h with(h|h|h)|h|h
  ·cases h;omega
  ·cases h;omega
  ·cases h
  ·exact h
  ·exact F h
 have f:¬A.4 (.cell ⟨4,kind,jh⟩):=λh=>by
  obtain⟨a,e,l⟩:=A.6 _ h;cases e;exact c l
 refine⟨g,r,o,⟨(Cg (By c)).trans n,B (by have:=A.ge g G;omega) f⟩,λj x Z=>?_⟩;obtain⟨⟨m,i,S⟩,P,k,q⟩:=M j x Z;have D:=λs:Nat=>Yf (w:=A.base) p (a:=(iD g s)) G;exact⟨⟨(D _).trans m,(D _).trans i,(D _).trans S⟩,B r P,B r k,B r q⟩
section
variable {A:PA y z} {b:q9} {i:gT} {cap:Nat} {J:gW}
def Ds.over(E:Ds Ec v cb co b d a i ob K cap W)(m:De A.2 A.base v)(H:¬A.2 cb)(s:∀X,ob=lj X->¬A.2 X)(c:∀g,a.ownBlock=lj g->¬A.2 g):Ds A.JX (Cb A.2 A.base v) cb co b d a i ob K cap W:=by
 refine⟨λj V=>?_,by rw[Z H];exact E.blk,E.c0,E.c1,Dh E.own λg G=>Z (c g G),λg O G M=>E.ints g O G (by rwa[←Z (c g G)]),E.7,E.8,λX D=>?_,E.len,λf=>?_,⟨λt Y=>?_,λk n=>?_⟩⟩
 ·rw[Z λh=>by have:=A.ge j h;omega];exact E.glob j V
 ·obtain⟨C,J,o,e,p,T,q⟩:=E.brow X D;exact⟨C,J,o,e,p,by rwa[Z (s X D)],q⟩
 ·obtain⟨X,D,U⟩:=E.bby f;exact⟨X,D,λr l=>(Cg (Z (s X D))).trans (U r l)⟩
 ·obtain⟨k,e,_⟩:=PA.jx Y;cases e
 ·obtain⟨u,e,h⟩:=PA.jx n;cases e;refine⟨by rw[Bh];exact Uf m h,λe=>H (e▸h),λe=>s _ e h,λe=>c _ e h⟩
def Ai3(z:Ds Ec v cb co b d a i ob K cap W)(Y:¬A.2 cb)(R:∀X,ob=lj X->¬A.2 X)(Q:∀c,a.ownBlock=lj c->¬A.2 c)(j:Je i W E q t)(hp:Wz i)(hI:∀Z v r,I Z v->I Z (World.at v r))(H:Aat (OQ A.JX cb co v.1.size) f h I)(ao:∀u,Fc v cb co (I5 ob K (iK W) cap) KK u->De A.2 A.base u->I E (Bb (Ls v.1.size ob a.ownBlock) (Cb A.2 A.base u)))(a8:∀u,Fc v cb co (I5 ob K (iK W) cap) KK u->De A.2 A.base u->∀x,I [] x->Aar v u cb b d ob a x)(o:∀x,I [] x->∀g,A.2 g->x.1[g]?=A.base.1[g]?):Bg y7 km Ec (Mz A) 46 #[pdw (lj (iD cb co)),I5 ob K (iK W) cap,.func (.func f) #[] h] v λaa w=>aa=gd (!t)/\∃k,I [] k/\De A.2 A.base (Bb A.2 k)/\Yy v cb co b ob a q t (Bb A.2 k) w:=by
 refine⟨f46,J7,func46,iI,iI,λfr cs aq ae=>?_⟩;refine XG (v:=v) (cb:=cb) (co:=co) (ba:=ob.map λaf=>(iD af K)) (bl:=iK W) (cap:=cap) (clo:=.func (.func f) #[] h) (fr:=fr) (cs:=cs) (cellOf (j:=co+1) z.blk z.c1) λah F0=>EV.stop λr F ar D=>?_;have S:=F0.at r;generalize ah.at r=u1 at *;have ai:=S.lowB F;have y:De A.2 A.base v:=⟨λg V=>by
  obtain⟨T,U,fz,C,J⟩:=F.blank g V;exact⟨T,U,fz,C,by rwa[←S.K.block g (ai g V) id]⟩⟩
 have N:(Cb A.2 A.base v).1.size=iL v.1:=Bh;have L:∀g,g=iL v.1∨g=iL v.1+2∨ob=lj g∨a.ownBlock=lj g->¬A.2 g:=λg V o=>by
  grind
 have:=XH (H:=A.H) (fr:=fr) (cs:=cs) (u:=Cb A.2 A.base u1) (z.over y Y R Q) j hp hI (by rwa[N]) (λu M=>?_) (λu M x aj=>?_) (λw k l p=>?_) (S.over y F) D
 ·rwa[N]at this
 ·obtain⟨B,rfl,C,J⟩:=M.unover A.rows y
  grind
 ·obtain⟨B,rfl,C,J⟩:=M.unover A.rows y;have O:=a8 B J C x aj;refine⟨λg V=>?_,O.cb,by rw[N];exact O.sz⟩;rw[N]at V⊢;rw[O.1 g V,Bz,Bz,By (L g V)]
 ·have s:=o k l;have hX:∀g,A.2 g->¬(g=cb∨g=(Cb A.2 A.base v).1.size∨g=(Cb A.2 A.base v).1.size+2∨ob=lj g∨a.ownBlock=lj g):=λg V e=>by
   rw[N]at e;rcases e with e|e
   ·exact Y (e▸V)
   ·exact L g e V
  have a1:∀g,A.2 g->g<iL k.1:=λg V=>by
   obtain⟨T,U,fz,C⟩:=A.rows g V;exact ltOf ((s g V).trans C)
  have ad:∀g,A.2 g->w.1[g]?=A.base.1[g]?:=λg V=>(p.K.block g (a1 g V) (hX g V)).trans (s g V);have a6:=Oz A.rows s;have ab:=Oz A.rows ad;have eF:=Wh A.rows ad;have ak:Yy v cb co b ob a q t (Bb A.2 k) (Bb A.2 w):=by
   have m:∀x(g:Nat),¬A.2 g->(Bb A.2 x).1[g]?=x.1[g]?:=λx g V=>by
    rw[Bz];cases x.1[g]? with
    |none=>rfl
    |some au=>simp[V]
   obtain⟨ag,al,C,J,an,h4,a7⟩:=p.part;have G:∀c,ag.ownBlock=lj c->¬A.2 c:=λc G o=>by
    rcases a7 c G with e|e
    ·exact Q c e o
    ·have:=a1 c o;omega
   have hK:=p.K;rw[N]at hK;refine⟨Ui a6 ab (by rwa[(Wh A.rows s),eF]),λX P=>?_,?_,ag,al,by rwa[m _ _ Y],by rwa[m _ _ Y],Dh an λc n=>m _ _ (G c n),λc cc n av=>h4 c cc n (by rwa[←m _ _ (G c n)]),λc n=>(a7 c n).imp id λe=>by rwa[Dc]⟩
   ·rw[m _ _ (R X P),p.b X P,By (R X P)]
   ·have:=p.box;rw[N]at this
    rwa[m _ _ (L _ (r7 iI))]
  have:=EV.show A.6 A.rows ab (ae (gd (!t)) (Bb A.2 w) ⟨iI,k,l,a6,ak⟩)
  rwa[eF]at this
end
end Go.Proofs.YtcbilgmfdgpomaaGreatDoor
