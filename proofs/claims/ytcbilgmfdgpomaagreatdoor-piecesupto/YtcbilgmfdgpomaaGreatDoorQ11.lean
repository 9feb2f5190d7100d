import Derived.Test.YtcbilgmfdgpomaaGreatDoorQ10
set_option linter.all false
open Array renaming size → iS
set_option maxHeartbeats 4000000
set_option maxRecDepth 8000
open Option renaming some → ni,none → su
open Go renaming World → qg,Value → w8,TypeId → mi,Goroutine → o5,heap_alloc_new → sx,undef → uw,World → Y
open Go.Proofs.Tryz renaming prog → qz,prog → S
open Go.Value renaming ownBlock → yf,int → pq,string → x7,pointer → w9,slice → um,bool → vp,tuple → my,agg → h9
open Bool renaming true → tu
open Prod renaming fst → wv
open Go.Conc renaming events_results_none → kmq
open List renaming replicate → ene,length → iR
open Go.IntKind renaming wrap_i64 → yd,i64 → yi
open Go.Obj renaming cells → jf
open Or renaming inl → p8,inr → n9
open Go.Pair renaming Bj → O,By → Z,Plain → E,Cb → T
open Go.Proofs.Tryz
variable {B e u v w:Y}{Bs X:hY}{F R:iA}{I:List (hQ)->Y->Prop}{K L M U b c cb co gr i j n rb sm svb y z:Nat}{N:o5->Y->Prop}{W q:hQ}{a:w8}{d h:iB}{g':o5}{k rt:mi}{ob:iF}{p:Prop}{t:Bool}
def E43{q:Prop}(k:q)(h:Hd q->p:=by
 intro kz;refine A9.all Ab ?_ _;simp only[A0];exact kz.1):p:=h ⟨k⟩
def S70{q:Prop}(k:q)(h:Hd q->p:=by
 intro kz;refine A9.tp 0 l Am4 T ?_;walk_nrm;refine A9.tp 1 l Am4 T ?_;walk_nrm;refine A9.tp 2 l Am4 T ?_;walk_nrm;refine A9.tp 4 l Am4 T ?_;walk_nrm;exact kz.1):p:=h ⟨k⟩
def Oyb(h:p:=by
 obtain⟨cm,ho,b7⟩:=C.W.3 P hr;obtain⟨es,cl,D⟩:=Bl.obj e;rw[Z,D]at ho;cases ho;cases b7):p:=h
namespace Go.Proofs.YtcbilgmfdgpomaaGreatDoor
variable {P:Program}{cs:List Frame}{f:FuncId}{m:hZ}{o:Obj}{r:List (hU×Nd)}{se:List SI}{x:Nd}
open Go Go.Conc Go.Pair Go.RowKit Go.Maps
section
variable {h:Nat->w8×w8}
variable {z:gZ} {J:hZ}
def Gt{t}{X:iC}{I}(h:w.ownsRow 0 5 1 t n X)(D:w.1[I]?=ni o)(f:∀c,o≠jf c 5):t.ownBlock≠ni I:=λZ=>by
 obtain⟨_,⟨T,_⟩|⟨G,a,H,T,_,b,_⟩⟩:=h
 ·rw[T]at Z;cases Z
 ·rw[T]at Z;obtain rfl:G=I:=by simpa[yf] using Z
  grind
def Bl.obj{m}(h:Bl P k w b m):∃X a,w.1[b]?=ni (.map X a):=let⟨X,a,C,_⟩:=h.ex;⟨X,a,C⟩
def Mj{a I}(h:u.1[a]?=ni o)(P:u.1[b]?=ni I)(f:o≠I):a≠b:=λe=>by
 grind
def D7{a m}{cs:iB}{I e}(h:Bl P k w b m)(d:w.1[a]?=ni (jf cs I e)):b≠a:=by
 have ⟨X,c,C⟩:=h.obj
 grind
def Ue.off(a:Ue h J Bs y u se){b o}(D:u.1[b]?=ni o)(C:∀c,o≠jf c 84)(d:∀c,o≠jf c 5):¬Ho se b:=by
 rintro⟨j,p,l,Q|Q⟩
 ·have ⟨c,M,_⟩:=(a.one j p l).1.row
  grind
 ·exact Gt (a.one j p l).1.own D d Q
def Aph{z P k m p H a}(h:a=TN z P k gr m p j H n i (λj=>a.tmps.getD j uw)):∃W,a=TN z P k gr m p j H n i W:=⟨_,h⟩
def List.set_eq_of_getElem?{a:Type}{l:List a}{x}(h:l[i]?=ni x):l.set i x=l:=by
 apply bK
 grind
def Am0{svb rb k gr m gcap j eg n ecap i a}{Q:Exit->Act->Y->Prop}(h:a=TI svb rb k gr m gcap j eg n ecap i (λj=>a.tmps.getD j uw))(H:∀s,Hj S tu J N 161 UR Q (TI svb rb k gr m gcap j eg n ecap i s) w):Hj S tu J N 161 UR Q a w:=by
 rw[h];exact H _
def Aha{L e}(h:L[i]?=ni e):(PF L)[i * 2]?=ni (iL e.1)/\(PF L)[i * 2+1]?=ni (x7 e.2):=by
 induction L generalizing i with
 |nil=>simp at h
 |cons x l O=>
  cases i with
  |zero=>simp at h;subst h;simp[PF]
  |succ i=>
   have:=O HI;rw[show(i+1) * 2=i * 2+2 by omega];simpa[PF] using this
def Oj.mono{N w B}(h:Oj M se w B)(S:N<=M):Oj N se w B:=⟨h.len,h.2,λi p l Q K=>let⟨o,a,b⟩:=h.one i p l Q K;⟨o,a,λg G=>(b g G).imp id λh=>aF S h⟩⟩
def GN.kx{O z d t b a num}(V:GN Bs u z d c t M sm b a num r){X}(K:Ax u O X)(C:¬X z)(J:¬X c)(T:¬X t):GN Bs O z d c t M sm b a num r:=⟨K.get V.1 C,V.nv,V.ht.kx K J T,V.4,V.nm,V.6,V.z2⟩
def GN.at{svb e t sm b a num}(V:GN Bs u svb c e t M sm b a num r)(d):GN Bs (u.at d) svb c e t M sm b a num r:=⟨V.1,V.nv,V.ht.at d,V.4,V.nm,V.6,V.z2⟩
def Cx.at(C:Cx F y J Bs u)(d):=C.kx ((Ax.refl u iO).at d) (C.W.at d) λ_ h=>h.elim
def DJ(cn:Im z F)(C:Cx F y J Bs u){a tb last c num}(V:GN Bs u svb a tb b M sm last c num r)(se)(I:Ue h J Bs y u se)(h0:se≠[])(h8:iR se<=8)(cp:(se.map SI.k).Pairwise (·<=·))(bd:∀p∈se,keyOf qz 3 (iL p.k)=ni (Lit.int yi p.k)/\(Lit.int yi p.k).wf=tu)(cq:∀p∈se,iR p.lo<=9000000000)(X:Bl qz 3 u sm (E0 (se.map λp=>(p.k,p.b))))(bf:¬Bs sm)(K)(e:Ld u M K)(cr:K.Nodup)(nw:¬Bs M)(gw:y<=M)(cu:M≠b)(cw:M≠sm)(kind)(cx:kind<4)(f)(b8:iR f<=3)(hT:∃aa,aa<y/\Sz J u kind aa f)(bg:∀x∈f,(Lit.int yi x.1).wf=tu∧-2147483648<=x.2.2/\x.2.2<=2147483647)(d o n B)(hq:d.size<=200)(bh:∀bj,(Ms d bj).size<=200/\z (Ms d bj)=tu)(L:Eb d=tu):Bg qz tu J N 161 #[iI svb,Mx kind d o n B] u λx u'=>x=my #[]/\VW J Bs u'/\Ax u u' (λi=>i=M∨Ho se i)/\Ld u' M (Dj num d f (se.map SI.k) K).2/\∃Fq,Ue h J Bs y u' Fq/\Oj u.1.size se Fq (Dj num d f (se.map SI.k) K).1:=by
 have ab:¬Bs u.1.size:=λZ=>by have:=C.W.lt Z;omega
 have U:∀k,¬J (.cell (iK u.1.size k)):=λk Z=>ab (C.W.2 _ Z);have jv:∀k,¬J (.cell (iK svb k)):=λk Z=>V.nv (C.W.2 _ Z);refine Bh func161 Ac iP (R:=λ_=>my #[]) (λ_ _=>results_none Ac _ _ _) (λ_ _=>kmq Ac _ _) ?_;simp only[ntmps161,na,Nat.reduceAdd,Nat.reduceSub];refine Rxn ?_;refine Dl (Dx kind d o n B) 152 ?_;walk_nrm;refine Vj2 ?_;have ad:=Ba u (Dx kind d o n B) 152 iO;have W1:=C.W.alloc (Dx kind d o n B) 152;have b9:(u.alloc (jf (Dx kind d o n B) 152)).1[iS u.1]?=ni (jf (Dx kind d o n B) 152):=sx _ _;generalize u.alloc (jf (Dx kind d o n B) 152)=u1 at ad W1 b9⊢;have cy:=ad.get V.1 id;refine Rxn ?_;refine Trb ?_;refine Bq (cellOf (j:=3) cy iP) (jv 3) ?_;walk_nrm;refine A3 (Aod W1 sm) iP Ac iP Af ?_;rintro x u2⟨rfl,al,W2,cz⟩;walk_nrm;have da:Bl qz 3 u2 sm (E0 (se.map λp=>(p.k,p.b))):=(X.of_block (ad.block _ X.lt id)).of_block (al.block _ (aC X.lt ad.size) id);refine A3 (Aig W2 sm u1.1.size (se.map λp=>(p.k,p.b)) (by simpa using h0) (by simpa using h8) (by simpa[cY,dW] using cp) da bf cz (λZ=>by have:=W1.lt Z;omega)) iP Ac iP Af ?_;rintro x Y⟨bk,W3,gr,gcap,rfl,db,ee,bm⟩;rw[bU]at db⊢;walk_nrm;refine Wad ?_;refine Vj2 ?_;have af:=(ad.trans al).trans bk;have bn:=al.trans bk;have dc:¬Bs gr:=λZ=>by have h1:=C.W.lt Z;have h2:=ad.size;have h3:=al.size;omega
 have dd:∀k,¬J (.cell (iK gr k)):=λk Z=>dc (C.W.2 _ Z);have de:gr<iS Y.1:=by
  obtain⟨p0,dg⟩:∃p0,se[0]?=ni p0:=⟨_,aG (eV.2 h0)⟩;exact LF (bm 0 (p0.k,p0.b) (by simp[dg]))
 have dh:=Bl.lt e;have ef:iS u.1<iS Y.1:=by have:=ltOf b9;have:=bn.size;omega
 refine Du ?_;generalize bo:iR se=m at *;have h3:=b8;have di:=af.size;refine Mt (n:=m) (I:=λt an q=>∃(j:Nat),t+j=m/\(∃s:Nat->w8,an=TO svb u.1.size gr m gcap j s)/\VW J Bs q/\Ax Y q (λi=>i=M∨Ho se i)/\Ld q M (Dj num d f ((se.map SI.k).take j) K).2/\∃Fq,Ue h J Bs y q Fq/\Oj Y.1.size se Fq ((Dj num d f ((se.map SI.k).take j) K).1++ene (m - j) [])) ?_ ?_
 case refine_2=>
  exact⟨0,Aa,Api iP,W3,Ax.refl _ _,by simpa[Dj] using e.keep (af.block _ dh id),se,I.kf af,by simpa[Dj,bo] using Oj.refl Y.1.size se⟩
 rintro t an q⟨j,eh,⟨s,rfl⟩,Ww,Kw,aq,ai,bq,G1⟩;unfold TO;by_cases hj:j<m
 case neg=>
  refine Rxn ?_;refine Kbk ?_;refine Vj2 ?_;refine Aw ?_;refine S74 ?_;have dj:j=m:=Aa;subst dj;rw[bN (by simp[bo])]at aq G1;refine⟨p8 trivial,trivial,trivial,Ww,(af.mono λ_ Z=>Z.elim).trans Kw,aq,ai,bq,(by simpa using G1:Oj Y.1.size se ai _).mono di⟩
 case pos=>
 have dk:j<iR se:=Aa;obtain⟨p,hp⟩:∃p,se[j]?=ni p:=⟨_,aG dk⟩;have ar:p∈se:=aV hp;have av:(Dj num d f ((se.map SI.k).take j) K).1.length=j:=by rw[Q9];simp;omega
 have aw:((Dj num d f ((se.map SI.k).take j) K).1++ene (m - j) ([]:hQ))[j]?=ni []:=by
  rw[dK Aa,av,List.getElem?_replicate];simp;omega
 obtain⟨ei,ej,ek⟩:=G1.one j p [] hp aw;generalize ba:(Dj num d f ((se.map SI.k).take j) K).2=aj at aq;generalize dm:(Dj num d f ((se.map SI.k).take j) K).1++ene (m - j) ([]:hQ)=ao at G1 aw;have dp:aj.Nodup:=by rw[←ba];exact cr.sublist Ra
 have a7:Ax u q (λi=>i=M∨Ho se i):=(af.mono λ_ Z=>Z.elim).trans Kw;have dq:∀i,Ho se i->i<iS u.1:=λi hi=>I.lt hi;have br:∀i,iS u.1<=i->¬(i=M∨Ho se i):=λi hi Z=>by
  rcases Z with Z|Z
  ·omega
  ·have:=dq i Z;omega
 have dr:=I.off V.1 Ad Ad;have bu:¬(svb=M∨Ho se svb):=λZ=>Z.elim (λZ=>D7 e V.1 Z.symm) dr;have bw:¬(tb=M∨Ho se tb):=λZ=>Z.elim (λZ=>D7 e V.ht.blk Z.symm) (I.off V.ht.blk Ad Ad);have bx:¬(b=M∨Ho se b):=λZ=>Z.elim (λZ=>cu Z.symm) (let⟨es,cl,D⟩:=V.ht.map.obj;I.off D Ad Ad);have bz:¬(sm=M∨Ho se sm):=λZ=>Z.elim (λZ=>cw Z.symm) (let⟨es,cl,D⟩:=X.obj;I.off D Ad Ad);have dt:q.cell? (iK gr j)=ni (iL p.k):=(Ce (Kw.block gr de (br gr (by have:=ad.size;have:=al.size;omega)))).trans (bm j (p.k,p.b) (by simp[hp]));have a8:=V.kx a7 bu bw bx;have eo:Bl qz 3 q sm (E0 (se.map λp=>(p.k,p.b))):=X.of_block (a7.block _ X.lt bz);have Cw:=C.kx a7 Ww (by rintro i(rfl|Z);exact gw;exact I.ge Z);have au:q.1[iS u.1]?=ni (jf (Dx kind d o n B) 152):=Kw.get (bn.get b9 id) (br _ (aB _));have ep:(j:Int)<(m:Int):=Aa;have er:(m:Int)<=(gcap:Int):=Aa;refine Rxn ?_;refine Mz8 ?_;refine Rxn ?_;refine B6 (w9 (ni (iK gr j))) ?_;walk_nrm;refine Bq dt (dd j) ?_;walk_nrm;refine Ths ?_;refine Aw ?_;have l:=Jg.at (rb:=iS u.1) (rc:=Dx kind d o n B) (rt:=152) (svb:=svb) (vc:=B9 a tb M sm last c);refine Em (I:=Jg u.1.size (Dx kind d o n B) 152 svb (B9 a tb M sm last c)) Ac λQ=>?_;have T:Jg u.1.size (Dx kind d o n B) 152 svb (B9 a tb M sm last c) (q.at Q):=⟨au,a8.1⟩;refine S70 ?_;refine A9.tp 8 l Am4 T ?_;walk_nrm;refine A9.tl 3 l Am4 T (λq (e:Jg _ _ _ _ _ q)=>(cellOf (j:=2) e.2 iP:q.cell? (iK svb 2)=ni (.map (ni M)))) (jv 2) ?_;walk_nrm;refine A9.take (i:=5) (x:=(Mx kind d o n B)) l Am4 iP Ab Ab Ab (Gq (S:=env Lv) Ac (B7 (fn:=0) Ab) (A4 _ _) ?_) T ?_
 ·exact λq e=>O1 e.1 U _ _ iP _ Ac
 walk_nrm;have et:∀P,J (.obj P)->¬P=M:=λP hr Z=>by
  exact Oyb
 obtain⟨aa,eu,du⟩:=hT;have dv:Sz J (q.at Q) kind aa f:=(du.kx a7 ⟨by have:=C.g8;have:=C.sz;omega,λZ=>by
  have g8:=C.g8;rcases Z with Z|Z
  ·omega
  ·have:=I.ge Z;omega⟩ ⟨by have:=C.sz;omega,λZ=>by
  rcases Z with Z|Z
  ·omega
  ·have:=I.ge Z;omega⟩).kx ((Ax.refl q iO).at Q) ⟨by have:=C.g8;have:=C.sz;have:=a7.size;omega,id⟩ ⟨by have:=C.sz;have:=a7.size;omega,id⟩
 have ev:=C.g8;have ew:=C.sz;have ey:=a7.size;refine Ca (i:=6) (Afp (Ww.at Q) M p.k kind cx d o n B aa f b8 Aa Aa aj (aq.keep iP) dp nw dv (by show 4<iS q.1;omega) (by show aa<iS q.1;omega) (bd p ar).2 (λx g=>(bg x g).1) Aa L) Ab iP Ac iP Af ?_;rintro W v⟨w,a6,c6,c7⟩;have dw:¬iS u.1=M:=λZ=>Aa;have R:=T.kx a6 dw (λZ=>D7 e V.1 Z.symm);refine⟨R,?_⟩;walk_nrm;have ck:iS q.1<=(q.at Q).1.size:=aB _;have ah:Ax q v (· = M):=a6.ofAt;have c8:∀A∈(Fg p.k d f aj).1,A.2.size<=200/\z A.2=tu∧-2147483648<=A.1/\A.1<=2147483647:=λA he=>by
  obtain⟨x,g,rfl⟩:=Sa A he;exact⟨(bh x.2.1).1,(bh x.2.1).2,(bg x g).2⟩
 have ez:(Fg p.k d f aj).1.length<=3:=aF R8 b8;generalize hE:(Fg p.k d f aj).1=E at *;generalize dx:(Fg p.k d f aj).2=dy at *;obtain⟨ea,ecap,rfl⟩:∃ea ecap,W=um ea (iR E) ecap:=by
  rcases c7 with⟨_,⟨rfl,Z⟩|⟨aa,dz,c9,rfl,_⟩⟩
  ·exact⟨su,0,by rw[Z]⟩
  ·exact⟨_,_,iP⟩
 refine A9.tp 7 l Am4 R ?_;walk_nrm;refine E43 ?_;refine Du ?_;have fc:Ax u v (λi=>i=M∨Ho se i):=a7.trans (ah.mono λ_ Z=>p8 Z);have S5:Ue h J Bs y v ai:=bq.kx ah λi hi Z=>by
  rcases G1.sin hi with h'|h'
  ·exact(let⟨es,cl,D⟩:=Bl.obj e;I.off D Ad Ad) (Z▸h')
  ·omega
 generalize fe:iR E=S at *;refine Mt (n:=S) (I:=λt' an O=>∃(i:Nat),t'+i=S/\(∃s:Nat->w8,an=TN svb u.1.size p.k gr m gcap j (um ea S ecap) S i s)/\VW J Bs O/\Ax v O (λx=>Ho ai x)/\∃ak,Ue h J Bs y O ak/\Oj Y.1.size se ak (ao.set j (evs num (E.take i)))/\∀x,Ho ak x->Ho ai x∨iS v.1<=x) ?_ ?_
 case refine_2=>
  refine⟨0,Aa,Aph iP,w,Ax.refl _ _,ai,S5,?_,λx Z=>p8 Z⟩;have:ao.set j (evs num (E.take 0))=ao:=by
   rw[List.take_zero];refine List.set_eq_of_getElem? ?_;simpa[evs] using aw
  rw[this];exact G1
 rintro t' an O⟨i,fg,⟨s',rfl⟩,W',K',ak,bb,G2,ax⟩;unfold TN;have bc:Ax Y O (λi=>i=M∨Ho se i):=(Kw.trans (ah.mono λ_ Z=>p8 Z)).trans' K' λx g Ig=>by
  rcases G1.sin g with Z|Z
  ·exact n9 Z
  ·omega
 have ay:Ax u O (λi=>i=M∨Ho se i):=(af.mono λ_ Z=>Z.elim).trans bc;have e0:Ld O M dy:=c6.keep (K'.block _ (Bl.lt c6) λZ=>by
  rcases G1.sin Z with h'|h'
  ·exact(let⟨es,cl,D⟩:=Bl.obj e;I.off D Ad Ad) h'
  ·omega)
 by_cases hi:i<S
 case neg=>
  refine Rxn ?_;refine Kbk ?_;refine Vj2 ?_;refine Aw ?_;refine S74 ?_;have e4:i=S:=Aa;subst e4;rw[bN Aa]at G2;refine Ay ?_;have hz:IntKind.i64.wrap ((j:Int)+1)=(j:Int)+1:=by rw[yd];omega
  refine Fh (S:=env Lv) (x:=iL ((j:Int)+1)) iP Ac (B7 Ab) (A4 _ _) (λq=>by go_simp) (λq=>by first|rfl|(go_simp;done)|(go_simp;rfl)) ?_;walk_nrm;refine Ths ?_;have az:(se.map SI.k).take (j+1)=(se.map SI.k).take j++[p.k]:=by
   rw[List.take_add_one,aT,hp];rfl
  refine⟨t - 1,Aa,j+1,Aa,Api iP,W',bc,?_,ak,bb,?_⟩
  ·rw[az,Vr,ba,dx];exact e0
  ·rw[az,Vr,ba,hE];have:(Dj num d f ((se.map SI.k).take j) K).1++[evs num E]++ene (m - (j+1)) []=ao.set j (evs num E):=by
    rw[←dm,show m - j=(m - (j+1))+1 by omega,List.replicate_succ]
    conv=>rhs;rw[←av]
    rw[av];rw[List.set_append_right _ _ Aa,av,Nat.sub_self,List.set_cons_zero];simp
   simp only[this];exact G2
 case pos=>
 obtain⟨fh,⟨Z,h'⟩|⟨eg,dz,c9,e5,fi,cc,e6,fj,fl,cd⟩⟩:=c7
 ·omega
 injection e5 with e1 e2 e3;subst e1;subst e3;obtain⟨A,he⟩:∃A,E[i]?=ni A:=⟨_,aG Aa⟩;obtain⟨a1,g1⟩:=Aha he;rw[←cd,dE Aa,cN]at a1;rw[←cd,dE Aa,cN]at g1;have cf:O.1[eg]?=ni (jf c9 266):=K'.get cc (S5.off cc Ad Ad);have neg:¬Bs eg:=λZ=>by have:=Ww.lt Z;omega
 have cg:(ao.set j (evs num (E.take i)))[j]?=ni (evs num (E.take i)):=bI (aD.1 aw).1;obtain⟨e7,ae,fo⟩:=G2.one j p _ hp cg;obtain⟨Sp,gp,_⟩:=bb.one j _ ae;have b5:=c8 A (aV he);have e8:(p.lo++evs num (E.take i)).length<=10000000000:=by
  have h1:=cq p ar;have h2:=UN (num:=num) (E:=E.take i) λx g=>(c8 x (gS g)).1;have h3:(E.take i).length<=3:=Aj;rw[aM];omega
 have C':=C.kx ay W' (by rintro i(rfl|Z);exact gw;exact I.ge Z);have V':=V.kx ay bu bw bx;have e9:Bl qz 3 O sm (E0 (se.map λp=>(p.k,p.b))):=X.of_block (ay.block _ X.lt bz);have fp:(i:Int)<(S:Int):=Aa;refine Rxn ?_;refine Mz8 ?_;refine Am0 (svb:=svb) (rb:=iS u.1) (k:=p.k) (gr:=gr) (m:=m) (gcap:=gcap) (j:=j) (eg:=eg) (n:=S) (ecap:=ecap) (i:=i) iP λs3=>?_;refine Cr (Aih (p:={ p with lo:=p.lo++evs num (E.take i),ov:=e7 }) cn C' V' Sp e8 (se.map λp=>(p.k,p.b)) (aZ.2 ⟨p,ar,rfl⟩) (bd p ar).1 e9 bf u.1.size gr m gcap j eg S ecap i hi e6 A.1 A.2 b5.2.2.1 b5.2.2.2 b5.1 b5.2.1 (cellOf cf a1) (cellOf cf g1) neg s3) ?_;rintro e' a' w2⟨rfl,⟨s4,rfl⟩,T2⟩;simp only[As,A0];unfold TI;refine Ay ?_;have hz:IntKind.i64.wrap ((i:Int)+1)=(i:Int)+1:=by rw[yd];omega
 refine Fh (S:=env Lv) (x:=iL ((i:Int)+1)) iP Ac (B7 Ab) (A4 _ _) (λq=>by go_simp) (λq=>by first|rfl|(go_simp;done)|(go_simp;rfl)) ?_;walk_nrm;refine Ths ?_;obtain⟨ec,ed,cj⟩:=bb.told ae (aF C.sz ay.size) T2;have az:E.take (i+1)=E.take i++[A]:=by rw[List.take_add_one,he];rfl
 refine⟨t' - 1,Aa,i+1,Aa,Aph iP,T2.W,?_,_,ed,?_,?_⟩
 ·refine K'.trans' T2.K λx g Ig=>?_;have h1:Ho ak x:=⟨j,_,ae,g⟩;rcases ax x h1 with Z|Z
  ·exact Z
  ·omega
 ·have:=G2.set (l:=evB num A.1 A.2) hp cg ae (ov':=ec) (M:=iS O.1) bc.size cj;rw[List.set_set]at this;rw[az,Acg];exact this
 ·rintro x⟨G,p',b6,g⟩;by_cases H:j=G
  ·subst H;rw[bI (aD.1 ae).1]at b6;obtain rfl:=aA b6;rcases g with g|g
   ·exact ax x ⟨j,_,ae,p8 g⟩
   ·rcases cj x g with Z|Z
    ·exact ax x ⟨j,_,ae,n9 Z⟩
    ·exact n9 (aF K'.size Z)
  ·rw[bD H]at b6;exact ax x ⟨G,p',b6,g⟩
end
section
variable {J:hZ} {c:hY}
noncomputable def DF(b cbx r:Nat)(s:iD):Act:=⟨#[.map (ni b),.func (.func 124) #[] #[iI cbx],s 2,s 3,s 4,s 5,.map (ni b),iI r,s 8,s 9,s 10,s 11,s 12,s 13,s 14,s 15,s 16,s 17,s 18],[]⟩
def Amn{f r a}(h:a=DF b f r (λj=>a.tmps.getD j uw)):∃s,a=DF b f r s:=⟨_,h⟩
def Ab7(K:VW J c u)(b s f D)(h:Ld u b D)(bx:∀k∈D,Uh k)(hc:u.1[f]?=ni (jf #[iL s] 3))(bz:¬c f)(V:¬c b):Bg qz tu J N 123 #[.map (ni b),.func (.func 124) #[] #[iI f]] u λx u'=>x=my #[]/\VW J c u'/\Ld u' b (GX s D)/\Ax u u' (· = b):=by
 classical
 have c6:=Bl.lt h;have dd:=ltOf hc;have c7:D.Nodup:=by
  have:=h.nodup
  rwa[cY,show(wv ∘ λk:w8=>(k,Value.agg #[]))=id from iP,fL]at this
 have c9:∀a7,J (.obj a7)->¬a7=b:=λa7 d E=>by
  obtain⟨o,ho,cc⟩:=K.3 a7 d;obtain⟨es,cl,hb⟩:=Bl.obj h;rw[E,hb]at ho;cases ho;cases cc
 have I:¬c u.1.size:=λh=>by have:=K.lt h;omega
 apply Bh func123 Ac iP (R:=λ_=>my #[]) (λ_ _=>results_none Ac _ _ _) (λ_ _=>kmq Ac _ _);simp only[ntmps123,na,Nat.reduceAdd,Nat.reduceSub];refine Rxn ?_;refine V2g ?_;refine Dy (S:=env Lv) K iP Ac (B7 Ab) (A4 _ _) (X:=λ_=>False) (R:=λx y=>x=iI u.1.size/\Io y b u.1.size (D.map λk=>(k,h9 #[])) (D.map λk=>(k,h9 #[]))) (λ_ _ h=>h) (λL a=>?_) ?_
 ·obtain⟨o,d,G⟩:=Bl.rangeL (t:=92) (h.keep (a.same V)) underlying92;rw[a.size]at d G;exact Lqx
 rintro x au a1 ae aj av c8⟨rfl,ax⟩;walk_nrm;refine Vj2 ?_;have O:Ld au b D:=h.keep (ae.block _ c6 id);refine Du ?_;refine Mt (n:=iR D) (I:=λt aq w=>∃(R:List (w8×w8)) (r:iC),t=iR R/\(∃W,aq=DF b f u.1.size W)/\VW J c w/\Ax u w (· = b)/\Ld w b r/\Io w b u.1.size (r.map λk=>(k,h9 #[])) R/\r.Nodup/\(R.map wv).Nodup/\r.filter (λk=>decide (MC s k))=GX s D/\(∀k∈r,Uh k/\(k∈R.map wv∨MC s k))/\∀x∈R,x.1∈r/\x.2=h9 #[]) ?_ ?_
 case refine_2=>
  refine⟨_,D,Ad,Amn iP,aj,ae.mono λ_ h=>h.elim,O,(ax.keep (av _ V).symm (av _ I).symm),c7,?_,iP,λk n=>⟨bx k n,p8 (by simpa using n)⟩,λx Z=>?_⟩
  ·rwa[cY,show(wv ∘ λk:w8=>(k,Value.agg #[]))=id from iP,fL]
  ·obtain⟨k,n,rfl⟩:=aZ.1 Z;exact⟨n,iP⟩
 rintro t aq w⟨R,r,rfl,⟨s1,rfl⟩,Ww,Kw,bb,az,Q,cd,b5,ah,b6⟩;unfold DF;have de:iS u.1<iS w.1:=by
  obtain⟨es,dg,dh,di,c0,_,_,_,cf,_⟩:=az.ex;exact ltOf cf
 refine Rxn ?_;refine Dy (S:=env Lv) Ww iP Ac (B7 Ab) (A4 _ _) (X:=(· = iS u.1)) (R:=λx y=>((R = []/\x=my #[vp false]/\Io y b u.1.size (r.map λk=>(k,h9 #[])) R)∨∃p i,(p::i).Perm R/\x=my #[vp tu,p.1,p.2]/\Io y b u.1.size (r.map λk=>(k,h9 #[])) i/\∀x:qg,x.1[b]?=y.1[b]?->x.1[iS u.1]?=y.1[iS u.1]?->(Instr.entry (iI u.1.size)).run qz x=.ok (my #[p.1,p.2]) x)) (λa7 d E=>by have:=K.low.obj a7 d;omega) (λL a=>?_) ?_
 ·rcases Io.next (P:=qz) (az.keep (a.same V) (a.same I)) 0 with⟨h0,d⟩|⟨p,i,U,y,d,G,hg,dj,X⟩
  ·refine⟨my #[vp false],L,p8 ?_,p8 ⟨h0,iP,az.keep (a.same V) (a.same I)⟩,Ax.refl _ _⟩;exact Yv4
  ·refine⟨_,y,p8 ?_,n9 ⟨p,i,U,iP,G,X⟩,Ax.of_grown hg (p8 iP)⟩;exact Yv4
 rintro x H L4 K4 af aw dk cg;walk_nrm;have bc:Ax u H (· = b):=Kw.trans' K4 λj hj Ig=>Aa;have b7:Ld H b r:=bb.keep (K4.block _ (Bl.lt bb) Aa);rcases cg with⟨rfl,rfl,dm⟩|⟨p,i,S,rfl,ai,X⟩
 ·refine Ths ?_;refine Aw ?_;refine Wv1 ?_;refine J4 ?_;simp only[A0,As,bP];refine⟨p8 trivial,trivial,trivial,af,?_,bc⟩;have:r.filter (λk=>decide (MC s k))=r:=fO.2 λk n=>by
   rcases(ah k n).2 with q|q
   ·cases q
   ·simpa using q
  rwa[←b5,this]
 obtain⟨b8,bd⟩:=b6 p (S.subset (cH ..));obtain⟨⟨W,l,T,n,cj,ck,cm⟩,_⟩:=ah p.1 b8;obtain⟨p1,p2⟩:=p;simp only at n bd b8;subst n bd;have dp:iR R=iR i+1:=by rw[←S.length_eq];rfl
 refine Ths ?_;refine Aw ?_;refine E37 ?_;refine Nqc ?_;refine Du ?_;refine Rxn ?_;refine Dy (S:=env Lv) af iP Ac (B7 Ab) (A4 _ _) (X:=λ_=>False) (R:=λx y=>x=my #[Gp W l T,h9 #[]]) (λ_ _ h=>h) (λL a=>?_) ?_
 ·have d:=X L ((a.same V).trans (aw _ V).symm) ((a.same I).trans (aw _ I).symm);refine⟨_,L,p8 ?_,iP,Ax.refl _ _⟩;exact Yv4
 rintro x v L5 K5 e cn cp rfl;walk_nrm;refine Wad ?_;refine Dl #[iL 0,x7 iN,iL 0] 189 ?_;walk_nrm;have Y:=Ba v #[iL 0,x7 iN,iL 0] 189 iO;have ay:=e.alloc #[iL 0,x7 iN,iL 0] 189;have ao:(v.alloc (jf #[iL 0,x7 iN,iL 0] 189)).1[iS v.1]?=ni (jf #[iL 0,x7 iN,iL 0] 189):=sx _ _;generalize v.alloc (jf #[iL 0,x7 iN,iL 0] 189)=u6 at Y ay ao⊢;refine Dl #[] 119 ?_;walk_nrm;have K7:=Ba u6 #[] 119 iO;have W7:=ay.alloc #[] 119;have cq:(u6.alloc (jf #[] 119)).1[iS u6.1]?=ni (jf #[] 119):=sx _ _;generalize u6.alloc (jf #[] 119)=ab at K7 W7 cq⊢;have bf:=K7.get ao id;have nn:¬c v.1.size:=λh=>by have:=e.lt h;omega
 have a8:∀k,¬J (.cell (iK v.1.size k)):=λk h=>nn (K.2 _ h);have a6:=OR (J:=J) (s:=W) (p:=l) (o:=T) bf a8;refine Cy (S:=env Lv) (fn:=123) iP Ac (B7 Ab) (A4 _ _) (x:=uw) (v':=((ab.setCell (iJ v.1.size) (iL W)).setCell (iK v.1.size 1) (x7 l)).setCell (iK v.1.size 2) (iL T)) (a6 _ iP _ Ac Ac).1 (a6 _ iP _ Ac Ac).2 ?_;walk_nrm;have aa:B8 ab (((ab.setCell (iJ v.1.size) (iL W)).setCell (iK v.1.size 1) (x7 l)).setCell (iK v.1.size 2) (iL T)) v.1.size #[iL W,x7 l,iL T] 189:=(((B8.refl bf).set 0 _).set 1 _).set 2 _;have W8:VW J c (((ab.setCell (iJ v.1.size) (iL W)).setCell (iK v.1.size 1) (x7 l)).setCell (iK v.1.size 2) (iL T)):=((W7.set _ _ _).set _ _ _).set _ _ _;generalize ((ab.setCell (iJ v.1.size) (iL W)).setCell (iK v.1.size 1) (x7 l)).setCell (iK v.1.size 2) (iL T)=B at aa W8⊢;have cr:Ax v B iO:=(Y.trans K7).trans' (Ax.of_grown (X:=(· = iS v.1)) aa.grown (p8 iP)) λj hj Ig=>Aa;have bg:Ax H B iO:=K5.trans cr;refine Cy (S:=env Lv) (fn:=123) iP Ac (B7 Ab) (A4 _ _) (x:=uw) (v':=B) (λg=>n9 ⟨by walk_nrm;go_simp;first|done|rfl,iP⟩) Ai5 ?_;walk_nrm;refine Vj2 ?_;refine Rxn ?_;refine V2g ?_;refine Cy (S:=env Lv) (fn:=123) iP Ac (B7 Ab) (A4 _ _) (x:=Gp W l T) (v':=B) (λm=>(Ni (J:=J) (w:=B.at m) aa.blk a8 _ _ iP _ Ac).1) (λm=>(Ni (J:=J) (w:=B.at m) aa.blk a8 _ _ iP _ Ac).2) ?_;walk_nrm;refine Cy (S:=env Lv) (fn:=123) iP Ac (B7 Ab) (A4 _ _) (x:=h9 #[]) (v':=B) (λg=>p8 (by walk_nrm;go_simp;first|done|rfl)) Ai5 ?_;walk_nrm;have bh:Ax u B (· = b):=bc.trans (bg.mono λ_ h=>h.elim);have bj:=bh.get hc (λE=>D7 h hc E.symm);refine Adz (f:=124) (cap:=#[iI f]) iP Ac iP Ac Ac (by first|rfl|(simp[Eg];done)|kernel_rfl) (PostF:=λak w'=>Ax B w' iO/\VW J c w'/\ak=vp (W==s)) ?_ ?_
 ·walk_nrm;refine Bp (Gl (f:=124) (args:=#[Gp W l T,h9 #[],iI f]) Ae W8 (X:=λ_=>False) (R:=λak _=>ak=vp (W==s)) (λ_ _ h=>h) λL a=>(Ag6 L s W T l f ((Ce (a.same bz)).trans (cellOf (j:=0) bj iP)) (by rw[a.size];exact ltOf bj)).mono λE w' h=>⟨⟨_,h.1,iP⟩,B5 h.2⟩) λak w' h=>⟨h.1,h.2.1,let⟨_,_,_,h⟩:=h.2.2;h⟩
 rintro ak P⟨K9,al,rfl⟩;walk_nrm;refine Vj2 ?_;have b9:Ax H P iO:=bg.trans K9;have bk:Ax u P (· = b):=bh.trans (K9.mono λ_ h=>h.elim);have cu:iS u.1<iS H.1:=by have:=K4.size;omega
 have bm:Ld P b r:=b7.keep (b9.block _ (Bl.lt b7) id);have bn:Io P b u.1.size (r.map λk=>(k,h9 #[])) i:=(ai.keep (aw _ V).symm (aw _ I).symm).keep (b9.block _ (Bl.lt b7) id) (b9.block _ cu id);have an:=K9.get aa.blk id;have U:=(S.map wv).nodup_iff.2 cd;rw[bA,dS]at U;obtain⟨bo,bq⟩:=U;cases br:(W==s) with
 |true=>
  refine E37 ?_;refine Mwc ?_;refine Cy (S:=env Lv) (fn:=123) iP Ac (B7 Ab) (A4 _ _) (x:=Gp W l T) (v':=P) (λm=>(Ni (J:=J) (w:=P.at m) an a8 _ _ iP _ Ac).1) (λm=>(Ni (J:=J) (w:=P.at m) an a8 _ _ iP _ Ac).2) ?_;walk_nrm;obtain⟨A,C,M⟩:=fD b8;obtain⟨lk,cw⟩:=RA cj ck cm;refine Dy (S:=env Lv) al iP Ac (B7 Ab) (A4 _ _) (X:=(· = b)) (R:=λx y=>Ld y b (A++C)/\Io y b u.1.size ((A++C).map λk=>(k,h9 #[])) i) c9 (λL a=>?_) ?_
  ·obtain⟨W7,ad,m7,q7,g7⟩:=Io.drop (ty:=0) (bn.keep (a.same V) (a.same I)) (bm.keep (a.same V)) Wm underlying92 cw (A:=A.map λk=>(k,h9 #[])) (C:=C.map λk=>(k,h9 #[])) (v:=h9 #[]) (by rw[M];simp) (λx Z E=>bo (aZ.2 ⟨x,Z,E⟩));refine⟨my #[],W7,p8 ?_,⟨by rwa[Ld,cP],by rwa[cP]⟩,Ax.of_grown g7 (p8 iP)⟩;exact Zz1
  rintro x dq dr cx cy ba dt⟨cz,da⟩;walk_nrm;refine Vj2 ?_;have ar:W=s:=by simpa using br
  subst ar;rw[M,fH,dS]at Q;have db:Gp W l T∉A++C:=λhm=>by
   rcases bX.1 hm with hm|hm
   ·exact Q.2.2 _ hm _ cH iP
   ·exact Q.2.1.1 hm
  refine⟨iR i,Aa,i,A++C,iP,Amn iP,cy,bk.trans (cx.mono λ_ h=>h),cz.keep (ba _ V).symm,da.keep (ba _ V).symm (ba _ I).symm,?_,bq,?_,λk n=>?_,λx Z=>?_⟩
  ·rw[fH];exact⟨Q.1,Q.2.1.2,λaq ha dc hc=>Q.2.2 aq ha dc (cF _ hc)⟩
  ·rw[←b5,M,fZ,fZ,List.filter_cons,aL (by simp[EK])]
  ·have bu:k∈r:=by rw[M];simp only[bX,bG]at n⊢;exact n.imp id n9
   refine⟨(ah k bu).1,?_⟩;rcases(ah k bu).2 with q|q
   ·have z:=(S.map wv).mem_iff.2 q;rw[bA,bG]at z;rcases z with z|z
    ·simp only at z;rw[z]at n;exact absurd n db
    ·exact p8 z
   ·exact n9 q
  ·have bw:=b6 x (S.subset (cF _ Z));refine⟨?_,bw.2⟩;have F:=bw.1;rw[M]at F;simp only[bX,bG]at F⊢;rcases F with F|F|F
   ·exact p8 F
   ·have h2:=dC (f:=wv) Z;rw[F]at h2;exact absurd h2 bo
   ·exact n9 F
 |false=>
  refine Ofi ?_;have ar:W≠s:=by simpa using br
  refine⟨iR i,Aa,i,r,iP,Amn iP,al,bk,bm,bn,Q,bq,b5,λk n=>⟨(ah k n).1,?_⟩,λx Z=>b6 x (S.subset (cF _ Z))⟩;rcases(ah k n).2 with q|q
  ·have z:=(S.map wv).mem_iff.2 q;rw[bA,bG]at z;rcases z with z|z
   ·exact n9 (by rw[z];exact EK.2 ar)
   ·exact p8 z
  ·exact n9 q
def An4(W:VW J c u)(b s g)(h:Ld u b g)(X:∀k∈g,Uh k)(V:¬c b):Bg S tu J N 69 #[.map (ni b),iL s] u λx O=>x=my #[]/\VW J c O/\Ld O b (GX s g)/\Ax u O (· = b):=by
 apply Bh func69 Ac iP (λ_ _=>results_none Ac _ _ _) (λ_ _=>kmq Ac _ _);simp only[ntmps69,na,Nat.reduceAdd,Nat.reduceSub];refine Rxn ?_;apply Dl #[iL s] 3;walk_nrm;refine Vj2 ?_;have H:=Ba u #[iL s] 3 iO;refine Qit ?_;apply A3 (Ab7 (W.alloc #[iL s] 3) b s u.1.size g (h.keep (H.block _ (Bl.lt h) id)) X (sx _ _) (λh=>by have:=W.lt h;omega) V) iP Ac iP Af;rintro x B⟨rfl,K,Y,a⟩;walk_nrm;exact Au ⟨p8 iP,iP,trivial,K,Y,(H.mono λ_ h=>h.elim).trans a⟩
end
structure Y5(v:qg)(cb co cT)(ob:iF)(pv:w8)(q:hQ)(t vA vF):Prop where
 K:Ax vA vF (λi=>i=cb∨i=iS v.1∨i=iS v.1+2∨ob=ni i∨pv.ownBlock=ni i)
 b:∀bb,ob=ni bb->vF.1[bb]?=v.1[bb]?
 box:vF.1[iS v.1]?=ni (jf #[w9 (ni (iK cb co))] 117)
 part:∃pvA csA,vA.1[cb]?=ni (jf csA cT)/\vF.1[cb]?=ni (jf ((csA.setIfInBounds co pvA).setIfInBounds (co+1) (vp t)) cT)/\vF.ownsRow 0 5 1 pvA (iR q) (A5 q)/\IntsIn vF pvA/\∀g,pvA.ownBlock=ni g->pv.ownBlock=ni g∨iS vA.1<=g
structure Aa0(v u:qg)(cb:Nat)(cT)(Ev:iB)(ob:iF)(pv:w8)(vA:qg):Prop where
 bl:∀i,i=iS v.1∨i=iS v.1+2∨ob=ni i∨pv.ownBlock=ni i->vA.1[i]?=(Bb (Lq v.1.size ob pv.ownBlock) u).1[i]?
 cb:∃csA,vA.1[cb]?=ni (jf csA cT)/\csA.size=Ev.size
 sz:iS v.1+5<=iS vA.1
section
variable {H:E2} {b:mi} {i:hQ} {n:Ren} {p:hZ} {k:Nat} {o:gY} {r:List (hQ)->Y->Prop} {X:Frame}
def Ze{W B i}{c:iB}{e a}(h:W.1[i]?=ni (jf c e a))(k:B i):(Bb B W).1[i]?=ni (jf #[] e a):=by
 rw[Bu,h];simp[k];rfl
def Wv{V i o}(h:E V)(O:Va o):E { V with heap:=V.1.setIfInBounds i o }:=λj x Z=>by
 have H:=Z;rw[bZ]at H;split at H
 ·grind
 ·exact h j x H
def XX{b J p Own2 u a o t P d Y e w}{l:hQ}{pg:iF}{pgW:Nat}(U:Dq b u J p o t d)(E:Dq b a Y e g' P d)(ab:P.ownsRow 0 5 1 w (iR l) (A5 l))(a6:IntsIn P w)(I:∀g,w.ownBlock=ni g->∀a7,¬Y (.cell (iK g a7)))(a8:∀g,w.ownBlock=ni g->(∃r,pg=ni r/\t.1[r]?=ni (jf #[] 5 (0,0))/\sh a g=sh u r)∨∀i,i<iS t.1->sh u i≠sh a g)(m:∀l,p l->Own2 l)(v:∀g,w.ownBlock=ni g->((∃K,P.cell? (iJ g)=ni K)∨∀i,i<iS t.1->sh u i≠sh a g)->∀l,M3 (sh a g) l->Own2 l):∃A G j,Dq b A J Own2 o G d/\(∀i,i<iS t.1->sh A i=sh u i)/\A1 A j=A1 a w/\A1 (.up G.1.size) j=j/\G.ownsRow 0 5 1 j (iR l) (A5 l)/\IntsIn G j/\(∀g,j.ownBlock=ni g->pg=ni g∨iS t.1<=g)/\Ax t G (λi=>pg=ni i)/\(Plain t->Plain G):=by
 obtain⟨F,⟨rfl,C⟩|⟨g,L,H,rfl,h2,T,q,n,f,M⟩⟩:=ab
 ·exact⟨u,t,um su 0 0,U.mono m,λ_ _=>rfl,Ad,Ad,⟨F,p8 ⟨iP,C⟩⟩,λg x z=>(by cases z),λg z=>(by cases z),.refl _ _,id⟩
 ·have h:=a6 g H iP T;rcases a8 g rfl with⟨r,y,D,N⟩|S
  ·by_cases a1:H=#[]
   ·subst a1;refine⟨u,t,um (ni (iJ r)) (iR l) L,U.mono m,λ_ _=>rfl,by simp[Ei,N],by simp[Ei,Ix (ltOf D)],⟨F,n9 ⟨r,L,#[],iP,bE _,D,q,n,f,M⟩⟩,λX x z O K Z=>?_,λX z=>p8 (by rw[y];simpa[yf] using z),.refl _ _,id⟩;obtain rfl:r=X:=by simpa[yf] using z
    grind
   ·have aa:=E.row T a1 (I g iP);rw[h.map,N]at aa;have R:=(U.unblank D (c:=H) (h.map _) (by rwa[h.map])).mono (Own':=Own2) λl O=>O.elim (m l) λO=>v g iP (p8 ⟨H[0]'(Nat.pos_of_ne_zero λz=>a1 (dU z)),by rw[Cg T];exact aO _⟩) l (by rwa[N]);have W:({ t with heap:=t.1.setIfInBounds r (jf H 5 (0,0)) }:qg).1.size=iS t.1:=Ad;have ar:({ t with heap:=t.1.setIfInBounds r (jf H 5 (0,0)) }:qg).1[r]?=ni (jf H 5 (0,0)):=aQ (ltOf D);refine⟨u,_,um (ni (iJ r)) (iR l) L,R,λ_ _=>rfl,by simp[Ei,N],by rw[W];simp[Ei,Ix (ltOf D)],⟨F,n9 ⟨r,L,H,iP,bE _,ar,q,n,f,M⟩⟩,λX x z O=>?_,λX z=>p8 (by rw[y];simpa[yf] using z),⟨iP,iP,iP,by rw[W];exact aB _,λi V Z=>aE λz=>Z (by rw[y,z])⟩,λQ=>Wv Q trivial⟩;obtain rfl:r=X:=by simpa[yf] using z
    rw[ar]at O;cases O;exact h
  ·obtain⟨o',ad,s⟩:=(E.sm 0).4 _ _ T;have k:o'=jf H 5 (0,0)∨∃B z fz,Obj.cells H 5 (0,0)=jf #[] z fz/\o'=jf B z fz:=by
    by_cases a1:H=#[]
    ·subst a1;obtain⟨B,rfl⟩:=Nh s;exact n9 ⟨B,_,_,iP,iP⟩
    ·rw[Go.Pair.LikeO.row s a1 (I g iP),h.map];exact p8 iP
   obtain⟨A,R,e4,ag⟩:=U.give (Own':=Own2) (o:=jf H 5 (0,0)) (g':=o) ad k S (λae=>by simp only[Dt];rw[h.map]) (VZ (cQ _) U.wf.2) m (v g iP (n9 S));have c:({ t with heap:=t.1.push (jf H 5 (0,0)) }:qg).1[iS t.1]?=ni (jf H 5 (0,0)):=Ad;refine⟨A,_,um (ni (iJ t.1.size)) (iR l) L,R,ag,by simp[Ei,e4],by simp[Ei,Ix (gL t.1.size)],⟨F,n9 ⟨iS t.1,L,H,iP,bE _,c,q,n,f,M⟩⟩,λX x z O=>?_,λX z=>n9 (Nat.le_of_eq (by simpa[yf] using z)),⟨iP,iP,iP,Ad,λi V _=>?_⟩,λQ=>Tw (v:=t) Q trivial⟩
   ·obtain rfl:iS t.1=X:=by simpa[yf] using z
    rw[c]at O;cases O;exact h
   ·show(t.1.push _)[i]?=_;rw[Array.getElem?_push,aL Aa]
end
section
variable {z:gZ} {J:hZ}
def Nn{V}{y:Nd}(h:w.1[V]?=ni (jf y.cs 87))(x):B8 w (putN w V x) V x.cs 87:=
 ((((((B8.refl h).set 0 (x7 x.path)).set 1 (x7 x.data)).set 2 (x7 x.note)).set 3 (iL x.made)).set 4 (iL x.changed)).set 5 (iL x.version)
def Ju{w P kind m p d n K a}(h:w.1[P]?=ni (jf (A7 kind m p d n K a) 131))(c:∀k,¬J (.cell (iK P k)))(o)(k:Nat)(O:o.op=.load 131 (.tmp k))(b:Act)(E:b.eval (.tmp k)=iI P):Go.Pair.Yields S (execOp b.eval o) w (J7 kind m p d n K a) w/\∀f∈(execOp b.eval o).events S w #[],Fb J f:=by
 have ⟨c0,Q,R,U,u,l,q⟩:=P9 h iP;unfold execOp;rw[O];simp only[E];refine⟨p8 ?_,λf N=>?_⟩
 ·go_simp
 ·simp[go_sem,c0,Q,R,U,u,l,q]at N;rcases N with rfl|rfl|rfl|rfl|rfl|rfl|rfl<;>exact Cl (c _)
def IJ{V}(h:w.1[V]?=ni (jf x.cs 87))(d:∀k,¬J (.cell (iK V k)))(o)(k:Nat)(O:o.op=.load 87 (.tmp k))(a:Act)(E:a.eval (.tmp k)=iI V):Go.Pair.Yields S (execOp a.eval o) w x.val w/\∀f∈(execOp a.eval o).events S w #[],Fb J f:=by
 have ⟨c0,Q,R,U,u,l⟩:=My h iP;unfold execOp;rw[O];simp only[E];refine⟨p8 ?_,λf N=>?_⟩
 ·go_simp
 ·simp[go_sem,c0,Q,R,U,u,l]at N;rcases N with rfl|rfl|rfl|rfl|rfl|rfl<;>exact Cl (d _)
def DN(rb:Nat)(rc:iB)(rt:mi)(svb:Nat)(vc:iB)(nb:Nat)(x:Nd)(w:Y):Prop:=Jg rb rc rt svb vc w/\w.1[nb]?=ni (jf x.cs 87)
def DN.at{rb rc rt svb vc nb x}(w d)(h:DN rb rc rt svb vc nb x w):DN rb rc rt svb vc nb x (w.at d):=h
def DN.kx{P j z G V X}(h:DN P j rt z G V x w)(E:Ax w B X)(C:¬X P)(J:¬X z)(T:¬X V):DN P j rt z G V x B:=⟨h.1.kx E C J,E.get h.2 T⟩
structure Pm(num:Int)(ns:List (hU×Nd)):Prop where
 len:ns.length<=32
 num0:0<=num
 num1:num<9223372036854775807
 size:∀q∈ns,q.1.size<=1000/\Eb q.1=tu
 node:∀q∈ns,0<=q.2.made/\q.2.made<=num/\0<=q.2.changed/\q.2.changed<=num/\0<=q.2.version/\q.2.version<=2147483647
def Ub{V x}(h:w.1[V]?=ni (jf Nd.zero.cs 87))(l:∀k,¬J (.cell (iK V k)))(o)(O:o.op=.store 87 (.tmp 6) (.tmp 17))(a:Act)(f:a.eval (.tmp 6)=iI V)(L:a.eval (.tmp 17)=x.val):(∀M,Go.Pair.Yields qz (execOp a.eval o) (w.at M) uw ((putN w V x).at M))/\∀M,∀e∈(execOp a.eval o).events qz (w.at M) #[],Fb J e:=by
 refine⟨λM=>n9 ⟨?_,iP⟩,λM=>?_⟩
 all_goals
  have ⟨y,m,q,S,n,Y⟩:=My (W:=w.at M) h iP;have ⟨Q,D,K,b,r,t,_⟩:=Iv (W:=w.at M) h;unfold execOp;rw[O];simp only[f,L]
 ·go_simp;unfold putN;simp only[at_set]
 ·intro e N;simp[go_sem,y,m,q,S,n,Y,Q,D,K,b,r,t,events_store _ _ _ _ (Value.string _) Mode.plain iP,storedEv]at N;rcases N with rfl|rfl|rfl|rfl|rfl|rfl<;>exact Cl (l _)
def X5{V x}(h:w.1[V]?=ni (jf Nd.zero.cs 87))(l:∀k,¬J (.cell (iK V k)))(o)(i j:Nat)(O:o.op=.store 87 (.tmp i) (.tmp j))(a:Act)(f:a.eval (.tmp i)=iI V)(L:a.eval (.tmp j)=x.val):(∀d,Go.Pair.Yields S (execOp a.eval o) (w.at d) uw ((putN w V x).at d))/\∀d,∀e∈(execOp a.eval o).events S (w.at d) #[],Fb J e:=by
 have n:=Ub h l { o with op:=.store 87 (.tmp 6) (.tmp 17) } rfl { tmps:=((Array.replicate 18 uw).setIfInBounds 6 (iI V)).setIfInBounds 17 x.val,defers:=[] } Ac Ac;have e:∀(b:Operand->w8)I(N H:Operand),I.op=.store 87 N H->execOp b I=(do Instr.storeAt 87 (b N) (b H);Pure.pure Next.skip):=λb I N H h=>by
  unfold execOp;rw[h]
 rwa[e _ _ _ _ O,f,L]
end
section
variable {H:E2} {b:mi} {i:hQ} {n:Ren} {p:hZ} {k:Nat} {o:gY} {r:List (hQ)->Y->Prop} {X:Frame} {I:o5}
def Abm{b x}(h:w.cell? (iK b j)=ni x):∃c e a,w.1[b]?=ni (jf c e a)/\c[j]?=ni x:=by
 unfold World.cell? at h
 grind
def X6{J a m o t}(s:Dq P m J a o t B){i e b}{c:iB}(Y:t.1[i]?=ni (jf #[] e b))(Z:c.map (A1 (.up t.1.size))=c)(W:c≠#[]->B.1[sh m i]?=ni (jf (c.map (A1 m)) e b))(H:c≠#[]->∀l,M3 (sh m i) l->a l):∃G,Dq P m J a o G B/\G.1[i]?=ni (jf c e b)/\Ax t G (· = i)/\iS G.1=iS t.1/\(E t->E G):=by
 by_cases M:c=#[]
 ·subst M;exact⟨t,s,Y,.refl _ _,iP,id⟩
 ·refine⟨_,(s.unblank Y Z (W M)).mono λl h=>h.elim id (H M l),aQ (ltOf Y),⟨iP,iP,iP,Ad,λj f Z=>aE λe=>Z e.symm⟩,Ad,λQ=>Wv Q trivial⟩
theorem join(E:Dw m v cb U b d a i ob K L W)(J:Fi v cb U (Jd ob K W.length L) KK u)(hI:∀ms v bj,r ms v->r ms (World.at v bj))(hs:Dq qz n m (H.Own p) I u e)(hS:H.Shd e p n)(bk:(DE m H.In n e u p k v.heap.size cb U b d ob a q t f h (X :: cs) r).Ok)(hA:∀x,r [] x->Aa0 v u cb b d ob a x){Q:hZ}{S:hY}{w s:Ren}{y:o5}{g P:qg}(M:WI (DE m H.In n e u p k v.heap.size cb U b d ob a q t f h (X :: cs) r) (Acn hI bk) Q S B w y g s g' P) :
  ∃(nF:Ren)(vF:qg)(ab:iD),y=H9 (X :: cs) ab/\Yk (v.heap.size+4) (v.heap.size+2) f h (w9 (ni ⟨v.heap.size,0,su⟩)) ab/\r [] g/\Y5 v cb U b ob a q t g vF/\Dq qz nF m (H.Own λl=>p l∨Gy (sh n (v.heap.size+4)) l) y vF B/\Bn nF y=Bn w y/\Plain vF/\H.Kept B/\∀D,D<H.num->sh nF D=H.nf D/\H.nf D<B.heap.size:=by
 have b6:=hS.blk;have aq:H.Kept B:=hS.kept.ror M.same.2.2.2 λl T=>n9 T;obtain⟨ab,bm,hy,b7⟩:=M.ea;obtain⟨b8,N⟩:=M.eb;have A:=hA g b7;obtain⟨ad,bn,ck⟩:=A.cb;have cm:=E.cbN;have cn:=(aH.1 E.c0).1;have cp:=(aH.1 E.c1).1;have af:∀D,D<v.heap.size+5->sh w D=sh n D:=λD hi=>M.same.2.1 D hi;have ar:∀D x,(Jv v.heap.size cb ob a.ownBlock)[D]? = ni x->sh s D=sh n x:=λD x hx=>by
  have hi:D<(Jv v.heap.size cb ob a.ownBlock).length:=(aD.1 hx).1;rw[M.same.2.2.1 D (by rwa[Yu]at hi)]
  show((Jv v.heap.size cb ob a.ownBlock).map (sh n)).getD D 0=_;simp[cZ,aT,hx]
 have au:(Iy u v.heap.size cb U b d ob a).heap.size=14+ob.toList.length+a.ownBlock.toList.length:=Lr;have ai:∀{D:Nat} {j:Nat} {x:w8},P.cell? ⟨D,j,su⟩=ni x->¬TZ U (.cell ⟨D,j,su⟩)->¬(p (.cell ⟨sh s D,j,su⟩)∨Gy (sh n (v.heap.size+4)) (.cell ⟨sh s D,j,su⟩)):=λ{D j x} C h2=>by
  have V:=M.sb.own (.cell ⟨D,j,su⟩) ⟨x,C⟩ h2;exact λT=>T.elim V.2.2.2.2 V.2.2.1
 have aj:∀{D:Nat} {j:Nat} {x:w8},P.cell? ⟨D,j,su⟩=ni x->¬TZ U (.cell ⟨D,j,su⟩)->¬H.In (.cell ⟨sh s D,j,su⟩):=λ{D j x} C h2 T=>(M.sb.own (.cell ⟨D,j,su⟩) ⟨x,C⟩ h2).2.1 (n9 T);have cq:∀{l:Loc},Gy (sh n (v.heap.size+4)) l->¬H.In l:=λT=>Amv E J hs hS T;have ak:∀{a8:Nat} {l:Loc},M3 a8 l->(¬(p (.cell ⟨a8,0,su⟩)∨Gy (sh n (v.heap.size+4)) (.cell ⟨a8,0,su⟩)))->¬(p l∨Gy (sh n (v.heap.size+4)) l):=λ{a8 l} C h2 V=>by
  have al:=b6.wg (sh n (v.heap.size+4));cases l with
  | cell aa=>exact h2 (al.cell aa _ V (show a8=aa.block from(show aa.block=a8 from C).symm))
  | obj o=>exact al.obj o V
  | _=>exact C
 have s0:Dq qz w (PD m cb U v.heap.size) (H.Own λl=>p l∨Gy (sh n (v.heap.size+4)) l) y g B:=M.sa.mono λl T=>⟨λh'=>h'.elim T.2.2.2.2 T.2.2.1,λh'=>T.2.1 (n9 h')⟩;obtain⟨sc,rc,tm,cr⟩:=M.ch;have bo:¬Lq v.heap.size ob a.ownBlock (v.heap.size+2):=by
  rintro(T|T|T|T|T|T)
  ·omega
  ·omega
  ·omega
  ·omega
  ·have:=E.bbN T;omega
  ·have:=E.pgN T;omega
 have bq:g.heap[v.heap.size+2]? = ni (.chan 0 #[] false 0 0 false):=by
  rw[A.bl _ (n9 (p8 rfl)),Bu,J.b2];simp[bo]
 have s1:=s0.object bq (λ_ _ _ z=>by cases z) (o:=.chan 0 #[] tu sc rc tm) (λ_ _ _ z=>by cases z) (λcu=>by simp[Dt]) (by rwa[show sh w (v.heap.size+2)=_ from M.ca.2]);have s1:=s1.mono (Own':=H.Own λl=>p l∨Gy (sh n (v.heap.size+4)) l) λl T=>T.elim id λz=>by
  rw[z,af (v.heap.size+2) Aa];exact⟨(b6.wg _).obj _,(hs.own (.obj (v.heap.size+2)) ⟨_,J.b2,λ_ _ _ z=>by cases z⟩ (E.jn.obj _)).2⟩
 have k1:Ax g { g with heap:=g.heap.setIfInBounds (v.heap.size+2) (.chan 0 #[] tu sc rc tm) } (· = v.heap.size+2):=⟨rfl,rfl,rfl,Ad,λD hi hx=>aE λz=>hx z.symm⟩;have z1:({ g with heap:=g.heap.setIfInBounds (v.heap.size+2) (.chan 0 #[] tu sc rc tm) }:qg).heap.size=g.heap.size:=Ad;have p1:Plain { g with heap:=g.heap.setIfInBounds (v.heap.size+2) (.chan 0 #[] tu sc rc tm) }:=Wv M.pa trivial;generalize ({ g with heap:=g.heap.setIfInBounds (v.heap.size+2) (.chan 0 #[] tu sc rc tm) }:qg)=v1 at s1 k1 z1 p1;have br:∃Y,Dq qz w (λl=>PD m cb U v.heap.size l/\l≠.obj (v.heap.size+2)) (H.Own λl=>p l∨Gy (sh n (v.heap.size+4)) l) y Y B/\(∀R,ob=ni R->Y.heap[R]? = v.heap[R]?)/\Ax v1 Y (λD=>ob=ni D)/\Y.heap.size=v1.heap.size/\Plain Y:=by
  cases a6:ob with
  | none=>exact⟨v1,s1,λ_ z=>(by cases z),.refl _ _,rfl,p1⟩
  | some R=>
   obtain⟨cw,bu,c,z,fz,hr,ah⟩:=E.brow R a6;have bw:=E.bbN a6;have bx:v1.heap[R]? = ni (jf #[] z fz):=by
    rw[k1.block R (by have:=A.sz;omega) Aa,A.bl R (n9 (n9 (p8 a6)))];exact Ze (J.K.get hr λT=>T) (n9 (n9 (n9 (n9 (p8 a6)))))
   have an:P.heap[14]? = ni (jf c z fz):=by
    have bz:=IL (N:=v.heap.size) (cb:=cb) (pg:=a.ownBlock) a6;have Ig:14<(Iy u v.heap.size cb U b d ob a).heap.size:=by rw[au,a6];simp;omega
    rw[N.K.block 14 Ig (by
     rintro(T|T)
     ·omega
     ·cases b9:a.ownBlock with
      | none=>rw[b9]at T;cases T
      | some G=>rw[b9,a6]at T;simp[Tv]at T),IP bz]
    unfold Wn;rw[aL bu,aL Aa,aL Aa,J.K.get hr λT=>T]
    rfl
   have av:sh s 14=sh w R:=by rw[ar 14 R (IL a6),af R Aa]
   have nj:∀j,¬TZ U (.cell ⟨14,j,su⟩):=λj T=>by rcases T with⟨_,z,_⟩|z <;> cases z
   obtain⟨Y,c6,a2,a3,a4,a5⟩:=X6 s1 (c:=c) bx (ah.map _) (λa1=>by
    have:=M.sb.row an a1 nj;rw[ah.map,av]at this
    rwa[ah.map]) (λa1 l a7=>by
    refine⟨?_,Adl M.sb aq an a1 nj (λj hj=>aj (x:=c[j]) (by rw[Cg an];exact aO _) (nj j)) (by rwa[av])⟩;refine ak a7 ?_;rw[←av];exact ai (x:=c[0]'(Nat.pos_of_ne_zero λz=>a1 (dU z))) (by rw[Cg an];exact aO _) (nj 0))
   exact⟨Y,c6,λb' e'=>by cases e';rw[a2,hr],a3.mono λD T=>by rw[T],a4,a5 p1⟩
 obtain⟨Y,s2,al,k2,z2,p2⟩:=br;have cx:=A.sz;have ba:Y.heap[v.heap.size]? = ni (jf #[] 117 (0,0)):=by
  rw[k2.block _ Aa (λT=>by have:=E.bbN T;omega),k1.block _ Aa Aa,A.bl _ (p8 rfl)];exact Ze J.b0 (p8 rfl)
 have c7:B.heap[sh w v.heap.size]? = ni (jf #[w9 (ni ⟨sh n cb,U,su⟩)] 117 (0,0)):=by
  obtain⟨o',C,h2⟩:=(s2.sm 0).like _ _ ba;obtain⟨c',rfl⟩:=Nh h2;have bb:=hs.row J.b0 Ad λj=>E.jn.new (aB _) j;have c8:=M.same.2.2.2;rw[C]
  congr 2
  refine bV λj=>?_;have V:=c8.cell ⟨sh n v.heap.size,j,su⟩ (p8 ⟨_,rfl,p8 rfl⟩) (ltOf bb);rw[←af v.heap.size Aa,Cg C j,af v.heap.size Aa]at V;rw[V,show(DE m H.In n e u p k v.heap.size cb U b d ob a q t f h (X :: cs) r).w0=e from rfl,Cg bb j];simp[Ei]
 obtain⟨v3,s3,cy,k3,z3,p3⟩:=X6 s2 (c:=#[w9 (ni ⟨cb,U,su⟩)]) ba (by simp[Ei,Ix (show cb<Y.heap.size by omega)]) (λ_=>by rw[c7];simp[Ei,af cb Aa]) (λ_ l a7=>by
  refine⟨?_,Adl hs hS.kept J.b0 Ad (λj=>E.jn.new (aB _) j) (λj hj=>(hs.own (.cell ⟨v.heap.size,j,su⟩) ⟨_,(Cg J.b0 j).trans (aO hj)⟩ (E.jn.new (aB _) j)).2) (by rwa[←af v.heap.size Aa])⟩;refine ak a7 ?_;rw[af v.heap.size Aa];rintro(T|⟨aa,z,e2⟩)
  ·exact Mr (l:=.cell ⟨v.heap.size,0,su⟩) hs ⟨_,cellOf (j:=0) J.b0 rfl⟩ (E.jn.new (aB _) 0) T
  ·cases z;have e2:sh n v.heap.size=sh n (v.heap.size+4):=e2;have:=Gx e2;omega)
 have aw:∀I,a.ownBlock=ni I->v3.heap[I]? = ni (jf #[] 5 (0,0))/\sh s (Tv ob)=sh w I:=λI O=>by
  have F:=E.pgN O;have c9:=E.pg8 I O;refine⟨?_,by rw[ar _ I (IM O),af I Aa]⟩;rw[k3.block _ Aa Aa,k2.block _ Aa c9.2.2,k1.block _ Aa Aa,A.bl _ (n9 (n9 (n9 O)))];obtain⟨_,⟨T,_⟩|⟨G,cz,da,T,_,V,_⟩⟩:=E.own
  ·rw[T]at O;cases O
  ·have Z:=O;rw[T]at Z;obtain rfl:G=I:=by simpa[yf] using Z
   exact Ze (J.K.get V λT=>T) (n9 (n9 (n9 (n9 (n9 O)))))
 have db:v3.heap.size=g.heap.size:=Aa;have cc:∀G,b8.ownBlock=ni G->(Iy u v.heap.size cb U b d ob a).heap.size<=G->∀D,D<v3.heap.size->sh w D≠sh s G:=λG F ao D hi=>M.disj D G Aa (by rwa[au]at ao) (Cm N.C.own F) (N.P G F).2.2;have bc:∀G,b8.ownBlock=ni G->a.ownBlock.map (λ_=>Tv ob)=ni G->∃I,a.ownBlock=ni I/\G=Tv ob:=λG F T=>by
  cases hp:a.ownBlock with
  | none=>rw[hp]at T;cases T
  | some I=>rw[hp]at T;exact⟨I,rfl,by simpa[eq_comm] using T⟩
 obtain⟨n4,v4,ae,s4,ag,er,cd,ax,ah,ay,k4,p4⟩:=XX (Own2:=H.Own λl=>p l∨Gy (sh n (v.heap.size+4)) l) (pg:=a.ownBlock) (pgW:=0) s3 M.sb N.C.own N.C.ints (λG F j hJ=>by
   rcases hJ with⟨_,z,_⟩|z
   ·cases z;exact N.C.ap 8 F rfl
   ·cases z) (λG F=>by
   rcases(N.P G F).1 with T|T
   ·obtain⟨I,O,rfl⟩:=bc G F T;exact p8 ⟨I,O,(aw I O).1,(aw I O).2⟩
   ·exact n9 (cc G F T)) (λl T=>T) (λG F hx l a7=>by
   have az:∀j,¬TZ U (.cell ⟨G,j,su⟩):=λj hJ=>by
    rcases hJ with⟨_,z,_⟩|z
    ·cases z;exact N.C.ap 8 F rfl
    ·cases z
   rcases hx with⟨x,hx⟩|hx
   ·refine⟨ak a7 (ai hx (az 0)),?_⟩;obtain⟨c,z,fz,hr,h0⟩:=Abm hx;exact Adl M.sb aq hr (λz=>by rw[z]at h0;simp at h0) az (λj hj=>aj (x:=c[j]) (by rw[Cg hr];exact aO _) (az j)) a7
   ·have ao:(Iy u v.heap.size cb U b d ob a).heap.size<=G:=by
     rcases(N.P G F).1 with T|T
     ·obtain⟨I,O,rfl⟩:=bc G F T;have:=E.pgN O;exact absurd (aw I O).2.symm (hx I Aa)
     ·exact T
    have cf:e.heap.size<=sh s G:=M.new G (by rwa[au]at ao) (Cm N.C.own F);have dc:sh n (v.heap.size+4)<e.heap.size:=(hs.sm 0).lt _ (by rw[J.size];omega);refine⟨?_,λhi=>En cf (hS.kept.low hi) (EJ (aB _) a7)⟩;refine ak a7 ?_;rintro(T|⟨aa,z,e2⟩)
    ·have:sh s G<e.heap.size:=hS.low _ T;omega
    ·cases z;have e2:sh s G=sh n (v.heap.size+4):=e2;omega)
 have z4:=k4.size;have bd:ob≠ni cb:=λT=>(E.brow cb T).2.1 rfl;have bf:v4.heap[cb]? = ni (jf ad b):=by
  rwa[k4.block cb Aa (λT=>(E.pg8 cb T).2.1 rfl),k3.block _ Aa Aa,k2.block _ Aa bd,k1.block _ Aa Aa]
 have e8:sh n4 cb=sh s 8:=by rw[ag cb Aa,af cb Aa,ar 8 cb rfl]
 have s5:=s4.reveal bf (off:=U) Aa (x:=ae) cd (by rw[e8,er];exact M.sb.cellW N.C.c0 N.C.j0);have bg:(v4.setCell ⟨cb,U,su⟩ ae).heap[cb]? = ni (jf (ad.setIfInBounds U ae) b):=by rw[heap_setCell,aJ rfl,bf];rfl
 have s6:=s5.reveal bg (off:=U+1) Ah (x:=vp t) Ad (by rw[e8,M.sb.cellW N.C.c1 N.C.j1];simp);have bh:((v4.setCell ⟨cb,U,su⟩ ae).setCell ⟨cb,U+1,su⟩ (vp t)).heap[cb]? = ni (jf ((ad.setIfInBounds U ae).setIfInBounds (U+1) (vp t)) b):=by rw[heap_setCell,aJ rfl,bg];rfl
 have k6:Ax v4 ((v4.setCell ⟨cb,U,su⟩ ae).setCell ⟨cb,U+1,su⟩ (vp t)) (· = cb):=(Et v4 cb U ae).trans (Et _ cb (U+1) (vp t));have z6:((v4.setCell ⟨cb,U,su⟩ ae).setCell ⟨cb,U+1,su⟩ (vp t)).heap.size=v4.heap.size:=by rw[Go.Pair.size_setCell,Go.Pair.size_setCell]
 have s7:=s6.less (J':=m) (Own':=H.Own λl=>p l∨Gy (sh n (v.heap.size+4)) l) (g':=y) (λl T=>by
  obtain⟨⟨⟨C,h2⟩,V⟩,h4⟩:=T;rcases C with(C|C|C)|C
  ·exact(V C).elim
  ·exact(h4 C).elim
  ·exact(h2 C).elim
  ·exact C) s6.wf.gor (λl _ _ ho=>by
  rcases ho with(ho|ho)|ho
  ·exact ho
  ·rw[ho,e8];exact⟨ai N.C.c0 N.C.j0,aj N.C.c0 N.C.j0⟩
  ·rw[ho,e8];exact⟨ai N.C.c1 N.C.j1,aj N.C.c1 N.C.j1⟩)
 have p6:Plain ((v4.setCell ⟨cb,U,su⟩ ae).setCell ⟨cb,U+1,su⟩ (vp t)):=Kk (Kk (p4 (p3 p2)) _ _) _ _;generalize dd:(v4.setCell ⟨cb,U,su⟩ ae).setCell ⟨cb,U+1,su⟩ (vp t)=v6 at s7 bh k6 z6 p6;refine⟨n4,v6,ab,bm,hy,b7,⟨?_,λR b5=>?_,?_,⟨ae,ad,bn,bh,?_,?_,λG F=>(ay G F).imp id λT=>Aa⟩⟩,s7,((Vh (UD (M:=g.heap.size) λD hi=>ag D Aa) M.sa.wf.gor)),p6,aq,λD hi=>?_⟩
 ·have m1:Ax g v1 (λD=>D=cb∨D=v.heap.size∨D=v.heap.size+2∨ob=ni D∨a.ownBlock=ni D):=k1.mono λD T=>n9 (n9 (p8 T));have m2:Ax v1 Y (λD=>D=cb∨D=v.heap.size∨D=v.heap.size+2∨ob=ni D∨a.ownBlock=ni D):=k2.mono λD T=>n9 (n9 (n9 (p8 T)));have m3:Ax Y v3 (λD=>D=cb∨D=v.heap.size∨D=v.heap.size+2∨ob=ni D∨a.ownBlock=ni D):=k3.mono λD T=>n9 (p8 T);have m4:Ax v3 v4 (λD=>D=cb∨D=v.heap.size∨D=v.heap.size+2∨ob=ni D∨a.ownBlock=ni D):=k4.mono λD T=>n9 (n9 (n9 (n9 T)));have m6:Ax v4 v6 (λD=>D=cb∨D=v.heap.size∨D=v.heap.size+2∨ob=ni D∨a.ownBlock=ni D):=k6.mono λD T=>p8 T;exact(((m1.trans m2).trans m3).trans m4).trans m6
 ·have bw:=E.bbN b5;rw[k6.block R Aa (λz=>bd (by rwa[←z])),k4.block R Aa (λz=>(E.pg8 R z).2.2 b5),k3.block R Aa Aa];exact al R b5
 ·rwa[k6.block _ Aa Aa,k4.block _ Aa (λT=>by have:=E.pgN T;omega)]
 ·refine Di ax λG F=>k6.block G (Cm ax F) λz=>?_;rcases ay G F with T|T
  ·exact(E.pg8 G T).2.1 z
  ·omega
 ·intro G cg F T;refine ah G cg F ?_;rw[←T];refine(k6.block G (Cm ax F) λz=>?_).symm;rcases ay G F with T|T
  ·exact(E.pg8 G T).2.1 z
  ·omega
 ·obtain⟨C,h2⟩:=hS.nn D hi;have cj:D<v.heap.size+5:=by
   refine gO λao=>?_;have:=(hs.sm 0).out D (by rwa[J.size]);omega
  exact⟨by rwa[ag D Aa,af D cj],aC h2 M.lowW⟩
end
section
variable {H:E2} {b:mi} {i:hQ} {o:gY} {cp:iB} {fr:Frame}
def IF{c}(E:Dw m v cb U b d a i ob K L W)(A:∃e,c.1[cb]?=ni (jf e b)/\e.size=d.size)(h:Y5 v cb U b ob a q t c w):w.cell? ⟨cb,U+1,su⟩=ni (vp t):=by
 have ⟨r,e,C,J,_⟩:=h.part;have ⟨f,T,g⟩:=A;rw[C]at T;cases T;have Q:=(aH.1 E.c1).1;rw[Cg J,aQ Ah]
set_option maxRecDepth 100000 in
def XH{a}(y)(T:y 3=iI v.1.size)(b:a.1[iS v.1]?=ni (jf #[w9 (ni (iK cb U))] 117))(M:a.cell? ⟨cb,U+1,su⟩=ni (vp t))(Y:∀j,¬m (.cell (iK cb j)))(C:∀j,¬m (.cell (iK v.1.size j)))(F:EV S tu m N (G (fr.finish (vp (!t))) cs) a):EV S tu m N (H9 (fr::cs) y) a:=by
 apply EV.regionEnd;simp only[IG,Kr,V4,Ka,Code.one,Code.two,f46,bJ,Kg,T];apply EV.seqC;refine EV.piece (fn:=46) iP iP (Pd (Q:=λe c O=>e=.normal/\c.defers = []/\c.tmps.getD 6 uw=vp (!t)/\O=a) ?_) ?_
 ·simp only[bC,aU,aX,Nat.reduceAdd,aY,List.range,List.range.loop];apply Bq (cellOf (j:=0) b iP) (C _);walk_nrm;refine Wad ?_;apply Bq M (Y _);walk_nrm;refine Wad ?_;exact Au ⟨iP,iP,iP,iP⟩
 rintro e c O⟨rfl,d,f,rfl⟩;refine EV.ctl (g':=G { (base 46).at c [.code .ret] with mode:=.returning } (fr::cs)) ?_ rfl rfl λn w _=>stepG_ret' (b:=base 46) (a:=Bw n c) (k:=[]) (cs:=(fr::cs).map (Bm n));refine EV.leave (b:=base 46) d func46 iP (r:=vp (!t)) (λw=>by rw[←f];exact results_tmp Ac _ _ _) (λw=>events_results_tmp Ac _ _) F
theorem XJ(E:Dw m v cb U b d a i ob K L W)(S:E6 i W o q t)(a1:Pl i)(g:∀r v a6,I r v->I r (World.at v a6))(aa:Aa2 (PD m cb U v.heap.size) f cp I)(V:∀u,Fi v cb U (Jd ob K W.length L) KK u->I o (Bb (Lq v.heap.size ob a.ownBlock) u))(y:∀u,Fi v cb U (Jd ob K W.length L) KK u->∀x,I [] x->Aa0 v u cb b d ob a x)(a7:∀X c,I [] c->Y5 v cb U b ob a q t c X->EV qz tu m (ENP qz H m) (G (fr.finish (vp (!t))) cs) X)(J:Fi v cb U (Jd ob K W.length L) 0 u)(a8:Plain u) :
  EN qz H m (G ((base 46).at (Kg (yE cb U v.heap.size (Jd ob K W.length L) (.func (.func f) #[] cp) uw uw)) [.inRegion Ye [0],.code Za]) (fr :: cs)) u:=by
 refine Ab9 (λj=>E.jn.new Aa j) J λM=>?_;refine EN.ofP (Kk a8 _ _) (Ag5 λT z=>?_);have Y:=((J.set).at M).at T;generalize ((World.setCell u ⟨v.heap.size+4,0,su⟩ (pq .u64 KK)).at M).at T=B at z Y⊢;refine EN.fork rfl λn w ab k Z hk s A=>?_;have e:=Y.at Z;have C:Plain (B.at Z):=z;generalize B.at Z=R at s e C;have O:=An0 (q:=q) (t:=t) (f:=f) (cp:=cp) (I:=I) (fr:=fr) (cs:=cs) E e s A hk;refine⟨DE m H.In n w R ab k v.heap.size cb U b d ob a q t f cp (fr :: cs) I,Acn g O,KBE (Iy R v.heap.size cb U b d ob a) U (nB E e s),GO ((fr :: cs).map (Bm n)) λad=>A1 n (yE cb U v.heap.size (Jd ob K W.length L) (.func (.func f) #[] cp) (my #[]) (P5 v.heap.size) ad),born qz (call62 (sh n (v.heap.size+4)) (sh n (v.heap.size+3)) (sh n v.heap.size) (sh n (v.heap.size+1))),rfl,rfl,rfl,O,?_,QL E e S a1 g aa (V R e) C s O,λKB aj n2 gP c ak g' al F N an=>?_⟩
 ·rw[show(G ((base 46).at (Kg (yE cb U v.heap.size (Jd ob K W.length L) (.func (.func f) #[] cp) (my #[]) (P5 v.heap.size))) [.inRegion NC [1],.code V4]) (fr :: cs))=Ajw cb U v.heap.size (Jd ob K W.length L) (.func (.func f) #[] cp) (fr :: cs) from rfl];unfold Ajw;rw[Vi n _ _ rfl];exact Afe _ (by simp[yE,P5,Ei,Mp]) w
 ·obtain⟨ae,X,P,rfl,af,D,p,sF,er,pF,ah,ai⟩:=join (k:=k) E e g s A O (y R e) N;rw[←er];have Q:w.heap.size<=F.heap.size:=N.lowW;refine(EN.ofP pF (XH (v:=v) (t:=t) P af.h3 p.box (IF E (y R e c D).cb p) E.jn.cb (λj=>E.jn.new (aB _) j) (a7 _ _ D p)):EN qz H m (H9 (fr :: cs) P) X) ae F _ sF ⟨λl h=>?_,A.blk.wg _,λl h=>h.elim (A.off l) λh=>Amv E e s A h,ah,ai⟩;rcases h with h|h
  ·exact N6 Q (A.low l h)
  ·exact MB (aC ((s.sm 0).lt _ (by rw[e.size];omega)) Q) h
end
section
variable {B:hY} {a x b c:Y} {o:w8} {st:Int}
def Oz(W:Go.Pair.RowsIn B a)(h:∀i,B i->x.1[i]?=a.1[i]?):Df B a (Bb B x):=⟨λi V=>by
 have ⟨c,e,b,C⟩:=W i V;exact⟨c,e,b,C,by rw[Bu,h i V,C,aI,aJ V];rfl⟩⟩
def Ws(W:Go.Pair.RowsIn B a)(h:∀i,B i->x.1[i]?=a.1[i]?):T B a (Bb B x)=x:=by
 have e:(T B a (Bb B x)).1=x.heap:=by
  apply bV;intro i;by_cases V:B i
  ·rw[D3 (Oz W h) V,h i V]
  ·rw[Z V,Bu]
   grind
 cases x;simp only[T,World.mk.injEq]at e⊢;exact⟨e,iP,iP,iP,iP⟩
def Z3(d:Df B a b)(D:Df B a c)(K:Ax b c X):Ax (T B a b) (T B a c) X:=
 ⟨K.os,K.tape,K.output,by rw[O,O];exact K.size,λi V Z=>by
  by_cases k:B i
  ·rw[D3 d k,D3 D k]
  ·rw[By k,By k];exact K.block i (by rwa[O]at V) Z⟩
def Uz(d:Df B a b)(D:Df B a c)(K:Ax (Cb B a b) (Cb B a c) X):Ax b c X:=
 ⟨K.os,K.tape,K.output,by have:=K.size;rwa[O,O]at this,λi V Z=>by
  by_cases k:B i
  ·have ⟨e,f,g,C,J⟩:=d.blank i k;have ⟨h,E,H,T,q⟩:=D.blank i k
   grind
  ·have:=K.block i (by rwa[O]) Z
   rwa[By k,By k]at this⟩
def Uw(h:Df B a b)(V:B i):i<iS b.1:=by
 have ⟨_,_,_,_,J⟩:=h.blank i V;exact ltOf J
def Fi.lowB(F:Fi v cb U o st u)(h:Df B a u):∀i,B i->i<iS v.1:=λi V=>by
 have ⟨d,e,c,C,J⟩:=h.blank i V;have K:=ltOf J;rw[F.size]at K;refine gO λb=>?_;have:i=iS v.1∨i=iS v.1+1∨i=iS v.1+2∨i=iS v.1+3∨i=iS v.1+4:=Aa;rcases this with rfl|rfl|rfl|rfl|rfl
 ·rw[F.3]at J;cases J
 ·rw[F.4]at J;cases J
 ·rw[F.b2]at J;cases J
 ·rw[F.6]at J;cases J
 ·rw[F.b4]at J;simp[JU]at J
def Fi.over(F:Fi v cb U o st u)(q:Df B a v)(r:Df B a u):Fi (T B a v) cb U o st (T B a u):=by
 have n:∀k,¬B (iS v.1+k):=λk h=>by have:=Uw q h;omega
 have l:¬B v.1.size:=n 0;refine⟨Z3 q r F.K,by rw[O,O];exact F.size,?_,?_,?_,?_,?_⟩
 ·rw[O,Z l];exact F.3
 ·rw[O,Z (n 1)];exact F.4
 ·rw[O,Z (n 2)];exact F.b2
 ·rw[O,Z (n 3)];exact F.6
 ·rw[O,Z (n 4)];exact F.b4
def Fi.unover(W:Go.Pair.RowsIn B a)(q:Df B a v)(F:Fi (T B a v) cb U o st u):∃P,u=T B a P/\Df B a P/\Fi v cb U o st P:=by
 have Y:∀i,B i->u.1[i]?=a.1[i]?:=λi V=>by rw[F.K.block i (by rw[O];exact Uw q V) id,D3 q V]
 have r:=Oz W Y;have e:=Ws W Y;have n:∀k,¬B (iS v.1+k):=λk h=>by have:=Uw q h;omega
 have l:¬B v.1.size:=n 0;rw[←e]at F;refine⟨Bb B u,e.symm,r,Uz q r F.K,?_,?_,?_,?_,?_,?_⟩
 ·have:=F.size;rwa[O,O]at this
 ·have:=F.3;rwa[O,Z l]at this
 ·have:=F.4;rwa[O,Z (n 1)]at this
 ·have:=F.b2;rwa[O,Z (n 2)]at this
 ·have:=F.6;rwa[O,Z (n 3)]at this
 ·have:=F.b4;rwa[O,Z (n 4)]at this
end
structure PA(gN)(Tabs:iA) where
 H:E2
 TA:Nat->Prop
 base:qg
 J0:Loc->Prop
 rows:Go.Pair.RowsIn TA base
 jin:Po TA J0
 lt:∀i,TA i->i<gN
 ge:∀i,TA i->8<=i
 tl:∀L:qg,Tabs L->∀kind,kind=1∨kind=2∨kind=3->∃g o,TA g/\L.cell? ⟨4,kind,su⟩=ni (um (ni (iK g o)) (TT kind).length (TT kind).length)/\∀j x,(TT kind)[j]?=ni x->(base.cell? ⟨g,o+j * 3,su⟩=ni (iL x.1)/\base.cell? ⟨g,o+j * 3+1,su⟩=ni (vp x.2.1)/\base.cell? ⟨g,o+j * 3+2,su⟩=ni (iL x.2.2))/\¬J0 (.cell ⟨g,o+j * 3,su⟩)/\¬J0 (.cell ⟨g,o+j * 3+1,su⟩)/\¬J0 (.cell ⟨g,o+j * 3+2,su⟩)
def PA.JX{gN Tabs}(A:PA gN Tabs):Loc->Prop:=JOr D5 A.4
def PA.jx{A:PA y R}{l}(h:A.JX l):=h.elim (λh=>h.elim) (A.6 l)
def Jh{gN Tabs}(A:PA gN Tabs):o5->Y->Prop:=Ajz A.2 A.base (ENP S A.H A.JX)
def PA.tlU(A:PA y R)(p:Df A.2 A.base v)(d:R v){cb co N}(H:y<=cb):TlU y (PD A.JX cb co N) (T A.2 A.base v):=λkind E=>by
 obtain⟨g,o,G,n,M⟩:=A.tl v d kind E;have c:¬A.2 4:=λh=>by have:=A.ge 4 h;omega
 have r:=A.lt g G;have B:∀{b j},b<y->¬A.4 (.cell (iK b j))->¬PD A.JX cb co N (.cell (iK b j)):=λD F h=>by
  rcases h with(h|h|h)|h|h
  ·cases h;omega
  ·cases h;omega
  ·cases h
  ·exact h
  ·exact F h
 have f:¬A.4 (.cell ⟨4,kind,su⟩):=λh=>by
  obtain⟨a,e,l⟩:=A.6 _ h;cases e;exact c l
 refine⟨g,r,o,⟨(Ce (By c)).trans n,B (by have:=A.ge g G;omega) f⟩,λj x Z=>?_⟩;obtain⟨⟨m,i,S⟩,P,k,q⟩:=M j x Z;have D:=λs:Nat=>Um (w:=A.base) p (a:=(iK g s)) G;exact⟨⟨(D _).trans m,(D _).trans i,(D _).trans S⟩,B r P,B r k,B r q⟩
section
variable {A:PA y F} {b:mi} {i:hQ} {cap:Nat} {o:gY} {J:hZ}
def Dw.over(E:Dw D5 v cb co b d a i ob K cap W)(m:Df A.2 A.base v)(H:¬A.2 cb)(s:∀X,ob=ni X->¬A.2 X)(c:∀g,a.ownBlock=ni g->¬A.2 g):Dw A.JX (Cb A.2 A.base v) cb co b d a i ob K cap W:=by
 refine⟨λj V=>?_,by rw[Z H];exact E.blk,E.c0,E.c1,Di E.own λg G=>Z (c g G),λg O G M=>E.ints g O G (by rwa[←Z (c g G)]),E.7,E.8,λX D=>?_,E.len,λf=>?_,⟨λt Y=>?_,λk n=>?_⟩⟩
 ·rw[Z λh=>by have:=A.ge j h;omega];exact E.glob j V
 ·obtain⟨C,J,o,e,p,T,q⟩:=E.brow X D;exact⟨C,J,o,e,p,by rwa[Z (s X D)],q⟩
 ·obtain⟨X,D,U⟩:=E.bby f;exact⟨X,D,λr l=>(Ce (Z (s X D))).trans (U r l)⟩
 ·obtain⟨k,e,_⟩:=PA.jx Y;cases e
 ·obtain⟨u,e,h⟩:=PA.jx n;cases e;refine⟨by rw[Bj];exact Uw m h,λe=>H (e▸h),λe=>s _ e h,λe=>c _ e h⟩
def Ai9(E:Dw D5 v cb co b d a i ob K cap W)(Y:¬A.2 cb)(R:∀X,ob=ni X->¬A.2 X)(Q:∀g,a.ownBlock=ni g->¬A.2 g)(j:E6 i W o q t)(hp:Pl i)(hI:∀Z v y,I Z v->I Z (World.at v y))(H:Aa2 (PD A.JX cb co v.1.size) f h I)(ao:∀u,Fi v cb co (Jd ob K (iR W) cap) KK u->Df A.2 A.base u->I o (Bb (Lq v.1.size ob a.ownBlock) (Cb A.2 A.base u)))(a8:∀u,Fi v cb co (Jd ob K (iR W) cap) KK u->Df A.2 A.base u->∀x,I [] x->Aa0 v u cb b d ob a x)(p:∀x,I [] x->∀k,A.2 k->x.1[k]?=A.base.1[k]?):Bg qz tu D5 (Jh A) 46 #[w9 (ni (iK cb co)),Jd ob K (iR W) cap,.func (.func f) #[] h] v λaa w=>aa=vp (!t)/\∃e,I [] e/\Df A.2 A.base (Bb A.2 e)/\Y5 v cb co b ob a q t (Bb A.2 e) w:=by
 refine⟨f46,Ka,func46,iP,iP,λfr cs aq ae=>?_⟩;refine XI (v:=v) (cb:=cb) (co:=co) (ba:=ob.map λaf=>(iK af K)) (bl:=iR W) (cap:=cap) (clo:=.func (.func f) #[] h) (fr:=fr) (cs:=cs) (cellOf (j:=co+1) E.blk E.c1) λah F0=>EV.stop λy F ar D=>?_;have S:=F0.at y;generalize ah.at y=u1 at *;have ai:=S.lowB F;have z:Df A.2 A.base v:=⟨λk V=>by
  obtain⟨T,U,fz,C,J⟩:=F.blank k V;exact⟨T,U,fz,C,by rwa[←S.K.block k (ai k V) id]⟩⟩
 have N:(Cb A.2 A.base v).1.size=iS v.1:=Bj;have L:∀k,k=iS v.1∨k=iS v.1+2∨ob=ni k∨a.ownBlock=ni k->¬A.2 k:=λk V p=>by
  grind
 have:=XJ (H:=A.H) (fr:=fr) (cs:=cs) (u:=Cb A.2 A.base u1) (E.over z Y R Q) j hp hI (by rwa[N]) (λu M=>?_) (λu M x aj=>?_) (λw e l r=>?_) (S.over z F) D
 ·rwa[N]at this
 ·obtain⟨B,rfl,C,J⟩:=M.unover A.rows z
  grind
 ·obtain⟨B,rfl,C,J⟩:=M.unover A.rows z;have O:=a8 B J C x aj;refine⟨λk V=>?_,O.cb,by rw[N];exact O.sz⟩;rw[N]at V⊢;rw[O.1 k V,Bu,Bu,By (L k V)]
 ·have s:=p e l;have hX:∀k,A.2 k->¬(k=cb∨k=(Cb A.2 A.base v).1.size∨k=(Cb A.2 A.base v).1.size+2∨ob=ni k∨a.ownBlock=ni k):=λk V c=>by
   rw[N]at c;rcases c with c|c
   ·exact Y (c▸V)
   ·exact L k c V
  have a1:∀k,A.2 k->k<iS e.1:=λk V=>by
   obtain⟨T,U,fz,C⟩:=A.rows k V;exact ltOf ((s k V).trans C)
  have ad:∀k,A.2 k->w.1[k]?=A.base.1[k]?:=λk V=>(r.K.block k (a1 k V) (hX k V)).trans (s k V);have a6:=Oz A.rows s;have ab:=Oz A.rows ad;have eF:=Ws A.rows ad;have ak:Y5 v cb co b ob a q t (Bb A.2 e) (Bb A.2 w):=by
   have m:∀x(k:Nat),¬A.2 k->(Bb A.2 x).1[k]?=x.1[k]?:=λx k V=>by
    rw[Bu];cases x.1[k]? with
    |none=>rfl
    |some au=>simp[V]
   obtain⟨ag,al,C,J,an,h4,a7⟩:=r.part;have G:∀g,ag.ownBlock=ni g->¬A.2 g:=λg G p=>by
    rcases a7 g G with c|c
    ·exact Q g c p
    ·have:=a1 g p;omega
   have hK:=r.K;rw[N]at hK;refine⟨Uz a6 ab (by rwa[(Ws A.rows s),eF]),λX P=>?_,?_,ag,al,by rwa[m _ _ Y],by rwa[m _ _ Y],Di an λg n=>m _ _ (G g n),λg cc n av=>h4 g cc n (by rwa[←m _ _ (G g n)]),λg n=>(a7 g n).imp id λc=>by rwa[Dd]⟩
   ·rw[m _ _ (R X P),r.b X P,By (R X P)]
   ·have:=r.box;rw[N]at this
    rwa[m _ _ (L _ (p8 iP))]
  have:=EV.show A.6 A.rows ab (ae (vp (!t)) (Bb A.2 w) ⟨iP,e,l,a6,ak⟩)
  rwa[eF]at this
