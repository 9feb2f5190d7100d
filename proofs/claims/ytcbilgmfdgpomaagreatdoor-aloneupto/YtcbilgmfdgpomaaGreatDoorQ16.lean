import Derived.Test.YtcbilgmfdgpomaaGreatDoorQ15
open List renaming length → iK
open Array renaming size → iL,size → N
set_option maxHeartbeats 4000000
set_option maxRecDepth 8000
set_option linter.all false
open Go.Proofs.Tryz renaming prog → y7,f4 → oj,prog → Y
open Option renaming some → lj,none → jh
open Bool renaming false → sd,true → km
open Go renaming World → gk,Value → uo
open Go.IntKind renaming signed → buy,wrap → quq,bits → rir,i64 → gh
open Go.Value renaming string → pc,pointer → pdw,slice → qh,bool → gd
variable {I K L T U b d m n y:Nat}{O e u:gk}{W i r:gR}{c v w:gV}{f:hQ}{h j:uo}{kind:Int}{ob:hY}{p q:Prop}{s:gU}{z:gX}
def Pmj(h:p:=by
 split
 ·simp only[aK,Orch.be_length];omega
 ·split
  ·simp only[aK,Orch.be_length];omega
  ·simp only[aK,Orch.be_length];omega):p:=h
def Jw0(h:p:=by
 split
 ·simp only[bT,Lh,I8];omega
 ·simp only[bT,Lh,I8];omega):p:=h
def Xyh(k:q)(h:Hd q->p:=by
 intro kz;simp only[rA,Tryz.f4,aY,Code.one,Code.two];refine A0 ?_;exact kz.1):p:=h ⟨k⟩
def Gse(k:q)(h:Hd q->p:=by
 intro kz;refine Cd (.pointer (some ⟨W,off+i * 6,none⟩)) ?_;walk_nrm;exact kz.1):p:=h ⟨k⟩
def Hwo(k:q)(h:Hd q->p:=by
 intro kz;refine Cd (.pointer (some ⟨W,off+i * 6,none⟩)) ?_;walk_nrm;refine AF Y iI Ac (B7 Ab) iI Ac ?_;walk_nrm;refine Ar ?_;walk_nrm;exact kz.1):p:=h ⟨k⟩
namespace Go.Proofs.YtcbilgmfdgpomaaGreatDoor
variable {A B:SA}{F:Goroutine->gk->Prop}{a g o:ST}{k l:List AS}
open Go Go.Conc Go.Pair Go.RowKit Go.Maps
def QN{b:gT}(h:16<=iK b):20<=(Zr b).length:=by rw[Q4];omega
def MB(kind m z x en L):20<=(Xp kind m z x en L).length:=by
 unfold Xp;split
 ·apply QN;unfold V7;exact Pmj
 ·rw[N5];exact aC _
def Agh(kind m z p r):20<=(Zr (BX kind m z p r)).length:=by
 apply QN;unfold BX;exact Pmj
def Pa{i a}(h:l[i]?=lj a)(b):(G9 l i b)[i]?=lj { a with lo:=a.lo++b }:=by
 unfold G9
 grind
def TK{r i G V b}(h:Hf r i a l G V)(K:a.left = -1)(d:l[i]?=lj b):∃e:gT,20<=iK e/\V[i]?=lj { b with lo:=b.lo++e }:=by
 unfold Hf at h;split at h
 ·unfold chR at h;rw[K]at h;rcases h with⟨_,_,rfl⟩|⟨_,e,u,p,Y,h⟩
  ·exact⟨_,by rw[N5];exact aC _,Pa d _⟩
  ·obtain⟨rfl,rfl⟩:=U0 Y;rcases h with⟨D,_⟩|⟨_,_,rfl⟩
   ·cases D
   ·obtain⟨c,M⟩:∃c,(Ol l (Ct (a.num+1) r.p (TT r.kind) (l.map AS.k) a.ks).1)[i]?=lj { b with lo:=b.lo++c }:=by
     have F:=(aF.1 d).1;obtain⟨c,M⟩:∃c,(Ct (a.num+1) r.p (TT r.kind) (l.map AS.k) a.ks).1[i]?=lj c:=⟨_,aH (by rwa[Qu,bV])⟩;refine⟨c,?_⟩;unfold Ol
     grind
    refine⟨c++_,?_,by rw[Pa M,cB]⟩;rw[aK];have:=Agh r.kind r.m (a.num+1) r.p (P0 r.kind a.ns r.p r.d iG (a.num+1));omega
 ·split at h
  ·obtain⟨_,rfl⟩:=h;exact⟨_,MB _ _ _ _ _ _,Pa d _⟩
  ·obtain⟨_,rfl⟩:=h;exact⟨_,QN Al,Pa d _⟩
structure JY(n)(σ):Prop where
 inv:Vm n σ
 num:σ.num=0
 ns:σ.ns=σ0.ns
 ks:∀k∈σ.ks,∃p o,k=Fo 2 p o
structure DH(n)(σ)(l:List AS):Prop extends JY n σ where
 ses:∃lo,l = [⟨1,1,sd,[]⟩,⟨2,1,sd,lo⟩]/\20 * n<=iK lo/\iK lo<=2000 * n
def YB{b r G V}(I:DH n a l)(h:Hf r 1 a l G V)(T:Rr a.num a.ns)(N:TrN b a.ns)(E:4<=r.kind)(Q:r.kind<=6->Wy b r.p):DH (n+1) G V:=by
 obtain⟨s,rfl,C,J⟩:=I.ses;have c:=BP h I.inv Aa Q (λh=>Aa);unfold Hf at h;rw[aM Aa]at h;split at h
 ·obtain⟨rfl,rfl⟩:=h;have v:=MB r.kind r.m a.num (Gt a.ns r.p).1 (Gt a.ns r.p).2 (kids r.p a.ns);have o:=ED T N r.kind r.m a.num r.p;refine⟨⟨c,I.num,I.ns,λk E=>?_⟩,s++_,iI,HQ,HQ⟩;have P:k∈Nn 2 r.kind r.p r.6 (Gt a.ns r.p).2 a.ks:=E;unfold Nn at P;by_cases M:(r.6&&((Gt a.ns r.p).2==0||(r.kind==5&&(Gt a.ns r.p).2==10)))=km
  ·rw[aL M]at P;generalize (if r.kind=6 then(1:Int) else 0)=z at P;unfold Rs at P;split at P
   ·exact I.ks k P
   ·rcases bP.1 P with h|h
    ·exact I.ks k h
    grind
  ·rw[aM M]at P;exact I.ks k P
 ·obtain⟨rfl,rfl⟩:=h;have K:(Zr (Orch.be r.m 4++Orch.be G.num 8++Orch.be 0 4)).length=20:=by simp[Q4,Orch.be_length]
  exact⟨⟨c,I.num,I.ns,I.ks⟩,s++_,iI,by rw[aK,K];omega,by rw[aK,K];omega⟩
def Je.len{p bs}{F:gR}{q t}(h:Je p bs F q t):Wz p->∀b∈F,iK b<=1000:=by
 induction h with
 |done p=>grind
 |long _ _=>grind
 |@body p bs _ _ _ _ _ _ _ O=>
  intro Q b D;rcases bH.1 D with rfl|D
  ·rw[cV];have:=Z9 (bs:=bs) Q;omega
  ·exact O Kj b D
 |more _ C J _ O=>exact λQ=>O (Ur Q C J)
def PV{c i G V}(h:Ij c i W a l G V){b}(d:l[i]?=lj b)(p:b.en=km):G=a/\V=l:=by
 induction h with
 |nil a l=>exact⟨iI,iI⟩
 |cons D _ O=>
  have ⟨e,Q,D⟩:=D
  grind
def Kt:gU:=b4 8++b4 0
def Aow(a):Il a Kt.data.toList=jh:=by
 have h:Kt.data.toList = [0,0,0,8,0,0,0,0]:=by decide +kernel
 unfold Il;rw[aM Ae,aM Ae]
def Ab5{g s}(h:∀k∈g,∃p o,k=Fo s p o):CE s g = []:=by
 classical
 refine List.filter_eq_nil_iff.2 λk E=>?_;obtain⟨p,o,rfl⟩:=h k E;simp[Vx]
def PU{b G V}(I:JY n a)(h:Ij b 1 (Kt.data.toList::W) a [⟨1,1,sd,[]⟩,⟨2,1,sd,[]⟩] G V):G = { a with ks:=[] }/\V = [⟨1,1,sd,[]⟩,⟨2,1,km,E8 0 3⟩]:=by
 cases h with
 |cons D M=>
  have ⟨c,d,D⟩:=D;obtain rfl:(⟨2,1,sd,[]⟩:AS)=c:=aB d;rw[aM (by rw[I.inv.dn];simp),aM Ae,Aow]at D;obtain⟨rfl,rfl⟩:=D;obtain⟨rfl,rfl⟩:=PV M iI iI;rw[Ab5 I.ks,I.num];exact⟨iI,iI⟩
structure WA(n m)(σ τ)(l k):Prop where
 tw:Aa2 σ τ l k
 is:Vm n σ
 it:Vm (n+m) τ
 lo:∀a,l[0]?=lj a->20 * n<=iK a.lo/\iK a.lo<=2000 * n
def Abg{b r c G e V q}(I:WA n m a c l k)(C:Hf r 0 a l G V)(J:Hf r 0 c k e q)(T:Rr a.num a.ns)(N:TrN b a.ns)(E:1<=r.kind)(Q:r.kind<=6->Wy b r.p)(y:r.kind<=3->r.d.size<=40):WA (n+1) m G e V q:=by
 refine⟨Aag I.1 C J,BP C I.is E Q y,?_,λd f=>?_⟩
 ·have:=BP J I.it E Q y
  grind
 ·have ⟨s,K,_⟩:=I.1.ses;have F:l[0]?=lj ⟨1,1,sd,s⟩:=by rw[K];rfl
  have ⟨P,g⟩:=I.lo _ F;have ⟨h,D,R⟩:=TK C I.is.left F;have ⟨i,M,j⟩:=(BO C T N E Q).one 0 _ F
  grind
def Adh(I:JY n a):WA 0 n { σ0 with last:=1 } { a with ks:=[] } [⟨1,1,sd,[]⟩] [⟨1,1,sd,[]⟩,⟨2,1,km,[]⟩]:=by
 have J:=I.inv;refine⟨⟨I.num,I.ns,iI,λp o h=>(by cases h),⟨iI,J.dn⟩,⟨iI,J.left⟩,[],iI,1,iI⟩,(An5 1),by rw[aX];exact⟨J.num0,J.num,J.path,J.root,J.dn,J.left,J.L,J.d⟩,λb d=>?_⟩
 grind
def KY:(E9 (b4 (-2)++b4 0++b4 0++b4 3)).data.toList=E8 0 3:=by decide +kernel
def On:0<Kt.size/\Kt.size<=1000:=by decide +kernel
structure Ak where
 k:Int
 a:Int
 b:Int
 s:gU
 v:Int
 w:Bool
def Ak.val(x:Ak):uo:=.agg #[iE x.k,iE x.a,iE x.b,pc x.s,iE x.v,gd x.w]
structure Ak.Ok(x:Ak):Prop where
 k:Ph x.k
 a:Ph x.a
 b:Ph x.b
 v:Ph x.v
 s:x.s.size<=9223372036854775807
structure Amz{gN Tabs}(A:PA gN Tabs)(b off)(x:Ak):Prop where
 ta:A.2 b
 c0:A.base.cell? (iD b off)=lj (iE x.k)
 c1:A.base.cell? ⟨b,off+1,jh⟩=lj (iE x.a)
 c2:A.base.cell? ⟨b,off+2,jh⟩=lj (iE x.b)
 c3:A.base.cell? ⟨b,off+3,jh⟩=lj (pc x.s)
 c4:A.base.cell? ⟨b,off+4,jh⟩=lj (iE x.v)
 c5:A.base.cell? ⟨b,off+5,jh⟩=lj (gd x.w)
 j0:¬A.4 (.cell (iD b off))
 j1:¬A.4 (.cell ⟨b,off+1,jh⟩)
 j2:¬A.4 (.cell ⟨b,off+2,jh⟩)
 j3:¬A.4 (.cell ⟨b,off+3,jh⟩)
 j4:¬A.4 (.cell ⟨b,off+4,jh⟩)
 j5:¬A.4 (.cell ⟨b,off+5,jh⟩)
def Yu{gN Tabs}(A:PA gN Tabs)(oA:hU)(xs:List Ak):Prop:=∀i(x:Ak),xs[i]?=lj x->∃b off,oA=lj (iD b off)/\Amz A b (off+i * 6) x/\x.Ok
section
variable {A:PA y z} {fn:FuncId} {Q:Exit->Act->gk->Prop} {a:Act} {w:gk} {g:Array Oper} {i:Nat} {l:hZ} {o:Oper}
def AF{x}{off k:Nat}(h:Amz A b off x)(O:g[i]?=lj o)(c:Region.wanted o (yielded g a.tmps)=km)(V:Oi y7 (env Lv) fn o)(T:o.op=.load 34 (.tmp k))(E:a.eval (.tmp k)=pdw (lj (iD b off)))(F:opsV y7 km Ec (Mz A) fn g l Q (a.put o.dst x.val) w):opsV y7 km Ec (Mz A) fn g (i::l) Q a w:=by
 intro J q f m P r;refine EV.stop λd p C D=>?_;apply EN.ofP D;have z:=EV.show A.6 A.rows p (EV.at (F J q f m P r) d);have y:=λj:Nat=>Yf (w:=A.base) p (a:=(iD b j)) h.1;generalize Cb A.2 A.base (World.at w d)=W at z y D⊢;have B:∀{j},¬A.4 (.cell (iD b j))->¬A.JX (.cell (iD b j)):=λs h=>h.elim (λh=>h) s;have n:∀M:Nat,Go.Pair.Yields y7 (execOp a.eval o) (W.at M) x.val (W.at M)/\∀e∈(execOp a.eval o).events y7 (W.at M) #[],Ff A.JX e:=λM=>by
  have t:(W.at M).cell? (iD b off)=lj (iE x.k):=((y _).trans h.c0);have S:(W.at M).cell? ⟨b,off+1,jh⟩=lj (iE x.a):=((y _).trans h.c1);have L:(W.at M).cell? ⟨b,off+2,jh⟩=lj (iE x.b):=((y _).trans h.c2);have Y:(W.at M).cell? ⟨b,off+3,jh⟩=lj (pc x.s):=((y _).trans h.c3);have u:(W.at M).cell? ⟨b,off+4,jh⟩=lj (iE x.v):=((y _).trans h.c4);have v:(W.at M).cell? ⟨b,off+5,jh⟩=lj (gd x.w):=((y _).trans h.c5);unfold execOp;rw[T];simp only[E];refine⟨.inl ?_,λe N=>?_⟩
  ·unfold Ak.val;go_simp
  ·simp[go_sem,t,S,L,Y,u,v]at N;rcases N with rfl|rfl|rfl|rfl|rfl|rfl
   ·exact Cl (B h.j0)
   ·exact Cl (B h.j1)
   ·exact Cl (B h.j2)
   ·exact Cl (B h.j3)
   ·exact Cl (B h.j4)
   ·exact Cl (B h.j5)
 exact EV.opEv (S:=env Lv) (fn:=fn) P O c V (A6 _ _) (λM=>(n M).1) (λM=>(n M).2) z
end
def OS(x:Ak)(kind:Int)(i:Nat):gU:=Sg kind (QZ i) (E3 x.a x.b) (Py x.s) (Tm x.v) x.w
def PF(x:Ak)(kind:Int)(i:Nat):Rq:=Abf kind.toNat (QZ i) (E3 x.a x.b) (Py x.s) (Tm x.v) x.w
structure Am0(x kind i):Prop where
 s0:0<(OS x kind i).size
 s1:(OS x kind i).size<=1000
 req:Il Fj (OS x kind i).data.toList=lj (PF x kind i)
 kk:(PF x kind i).kind=kind.toNat
 p:(PF x kind i).kind<=6->Wy Fj (PF x kind i).p
 d:(PF x kind i).kind<=3->(PF x kind i).d.size<=40
def PG(x){kind}(C:1<=kind)(M:kind<=7)(i):Am0 x kind i:=by
 obtain⟨k,rfl⟩:∃k:Nat,kind=k:=⟨kind.toNat,Aa⟩;have G:=YT x.a x.b;have Q:=Td x.a x.b;have y:=DL x.s;have g:=VX x.v;have L:0<=QZ i/\QZ i<=2147483647:=by unfold QZ;omega
 have Y:=ZC (valid:=Fj) (k:=k) (mk:=QZ i) (p:=E3 x.a x.b) (d:=Py x.s) (v:=Tm x.v) (wt:=x.w) Aa Aa L.1 L.2 Aa G.pv Aa Aa Aa;have c:(PF x k i).kind=k:=by
  unfold PF Abf
  grind
 have V:(PF x k i).kind<=6->(PF x k i).p=E3 x.a x.b:=λf=>by
  rw[c]at f;unfold PF Abf
  grind
 have e:(PF x k i).d.size<=40:=by
  unfold PF Abf;simp only[dU];split
  ·exact y
  ·split
   ·exact bF _
   ·split
    ·exact y
    ·split
     ·exact bF _
     ·exact bF _
 have q:¬(OS x k i).data.toList.length<4:=λh=>by
  unfold Il at Y;have P:(Sg (k:Int) (QZ i) (E3 x.a x.b) (Py x.s) (Tm x.v) x.w).data.toList.length<4:=h;rw[aL P]at Y;cases Y
 refine⟨?_,?_,by rwa[OS,PF,dU],by rw[c,dU],λf=>by rwa[V f],λ_=>e⟩
 ·have:(OS x k i).data.toList.length=(OS x k i).size:=iI;omega
 ·have W:∀b,(wB b).size<=1:=λb=>by cases b<;>decide
  have:=W x.w;unfold OS Sg Agi;split
  ·split
   ·simp only[bT,Lh,I8];omega
   ·exact Jw0
  ·exact Jw0
def Sv(Tabs:gX)(gN:Nat)(Bs:gV)(u:gk)(Ir:Nat)(A:SA)(σ:ST)(l:List AS)(qs:gR)(Ft:gV):Prop:=
 ∃cu fa fc se,Hand cu Fj Tabs gN Bs u Ir A σ fa fc se qs/\se.map SI.abs=l/\Ft=Ho cu A fa se
section
variable {j:gV} {f:gV} {X:gV} {Post:PA y z} {i:Nat} {a:AS}
def Sv.C(h:Sv z y c u b A o l r v):=let⟨_,_,_,_,h,_⟩:=h;h.H.C
def Sv.lt(h:Sv z y c u b A o l r v){j}(a:v j):j<N u.1:=by
 obtain⟨_,_,_,_,h,_,rfl⟩:=h;exact h.H.lt a
def Sv.ge(h:Sv z y c u b A o l r v){j}(a:v j):y<=j:=by
 obtain⟨_,_,_,_,h,_,rfl⟩:=h;exact h.H.ge a
def Sv.D(h:Sv z y c u b A o l r v):=let⟨_,_,_,_,h,_⟩:=h;ltOf h.H.F.1.7
def Sv.os(h:Sv z y c u b A o l r v):=let⟨_,_,_,_,h,_⟩:=h;ltOf h.os
def Sv.tr(h:Sv z y c u b A o l r v):Rr o.num o.ns/\TrN Fj o.ns:=let⟨_,_,_,_,h,_⟩:=h;⟨h.H.F.1.2,h.H.F.1.3⟩
def Sv.glob(h:Sv z y c u b A o l r v):=let⟨_,_,_,_,h,_⟩:=h;h.H.glob
def Sv.kx(h:Sv z y c u b A o l r v)(K:Ax u O X)(W:VW Ec c O)(t:∀j,v j->¬X j)(m:¬X A.D)(a:¬X b)(G:∀j,X j->y<=j):Sv z y c O b A o l r v:=by
 obtain⟨L,d,s,e,h,C,rfl⟩:=h;exact⟨L,d,s,e,⟨h.H.kx K W t m G,K.get h.os a,h.of⟩,C,iI⟩
def Sv.kf(a:Sv z y c u b A o l r v)(K:Ax u O iH):=
 a.kx K (a.C.W.ofK K (λ_ _ a=>a) λ_ a=>a.elim) (λ_ _ a=>a) (λa=>a) (λa=>a) λ_ a=>a.elim
def Sv.grow(h:Sv z y c u b A o l r v)(W:VW Ec j u)(C:∀a,c a->j a)(J:∀a,j a->c a∨(y<=a/\¬v a/\a≠A.D)):Sv z y j u b A o l r v:=by
 obtain⟨L,d,s,e,h,T,rfl⟩:=h;exact⟨L,d,s,e,⟨h.H.grow W C J,h.os,h.of⟩,T,iI⟩
def Sv.feed(U:It Fj z)(h:Sv z y c u b A o l r v)(V:l[i]?=lj a)(E:a.ver=1)(p:a.en=sd)(e:r[i]?=lj [])(g:FT l)(Q:∀a∈l,iK a.lo+2000<=9000000000)(s:OZ o){x kind}(j:1<=kind)(M:kind<=7)(B:OU y c u v A.D ob T I (E9 (OS x kind n)).data.toList):Bg Y km Ec (Mz Post) 10 #[iB b,iE a.k,I5 ob T (E9 (OS x kind n)).data.toList.length I] u λk O=>∃G d f,Sv z y c O b A G d r f/\J3 u O v f/\Hf (PF x kind n) i o l G d:=by
 obtain⟨L,q,F,H,h,rfl,rfl⟩:=h;have R:=PG x j M n;obtain⟨N,K,rfl⟩:∃N,H[i]?=lj N/\N.abs=a:=by
  grind
 apply Bq (Ag6 (Post:=Post) U Aai h K E p e g Q s R.1 R.s1 R.3 (by rw[R.4];omega) R.p R.d B);rintro k O⟨X,G,C,m,w,_,D,t,W⟩;exact⟨G,_,_,⟨X,C,m,w,D,iI,iI⟩,t.moved,W⟩
def Sv.take(H:Sv z y c u b A o l r v)(V:l[i]?=lj a)(E:keyOf y7 3 (iE a.k)=lj (Lit.int gh a.k)):Bg y7 km Ec F 12 #[iB b,iE a.k] u λk O=>∃e f,k=.tuple #[e,iE 0]/\Sv z y c O b A o (l.set i { a with lo:=[] }) r f/\J3 u O v f/\O.ownsRow 0 5 1 e (iK a.lo) (A4 a.lo)/\(∀g,e.ownBlock=lj g->v g)/\∀g,e.ownBlock=lj g->¬f g:=by
 obtain⟨L,n,s,M,H,rfl,rfl⟩:=H;obtain⟨N,K,rfl⟩:∃N,M[i]?=lj N/\N.abs=a:=by
  grind
 apply Bq (Ajg H.H H.os iI K E);rintro k O⟨U,D,t,q⟩;refine⟨N.6,_,U,⟨L,n,s,_,⟨D,t.K.get H.os H.of,λZ=>(t.new _ Z).elim H.of λZ=>by have:=ltOf H.os;omega⟩,?_,iI⟩,t.moved,q,λg G=>.inr (.inl ⟨i,N,K,.inr G⟩),λg G I=>?_⟩
 ·rw[fR]
  rfl
 ·have S:=(H.H.F.ses.one i N K).1;rcases I with I|I|I
  ·obtain⟨J,m,_,Y⟩:=H.H.F.1.obj H.H.F.map I;obtain⟨cs,w⟩:=Hz S.own G;rw[w]at m;exact Y _ (aB m).symm
  ·obtain⟨j,p,Q,d⟩:=I;by_cases h:i=j
   ·subst h;rw[bJ ((aF.1 K).1)]at Q;obtain rfl:=aB Q;rcases d with d|d
    ·exact S.ap g G (by rw[d];exact S.inb)
    ·cases d
   ·rw[bE h]at Q;rcases d with d|d
    ·exact S.ap g G (by rw[d];exact(H.H.F.ses.one j p Q).1.inb)
    ·exact(H.H.F.ses.apart i j N p K Q h).2 g G d
  ·obtain⟨j,p,Q,d⟩:=I;obtain⟨x,X,B⟩:=Ll t.kb j p Q;obtain⟨_,_,_,_,_,_,C⟩:=H.H.Q.one j x X;rw[B]at d;exact(C g d).2.2 ⟨i,N,K,.inr G⟩
end
structure Rw(u0 Tabs gN Bs u os ot A B)(σ τ)(l k qs rs Fs Ft):Prop where
 s:Sv Tabs gN Bs u os A σ l qs Fs
 t:Sv Tabs gN Bs u ot B τ k rs Ft
 ap:∀j,Fs j->¬Ft j
 sD:¬Ft A.D
 tD:¬Fs B.D
 so:¬Ft os
 te:¬Fs ot
 kl:Ax u0 u (λj=>gN<=j)
section
variable {j:gV} {os:Nat} {G n:ST} {V q:List AS} {a b:gR} {I f:gV}
def Rw.kf(T:Rw e z y c u os d A B o g l k r i w v)(K:Ax u O iH):Rw e z y c O os d A B o g l k r i w v:=⟨T.s.kf K,T.t.kf K,T.ap,T.4,T.5,T.6,T.7,T.8.trans (K.mono λ_ h=>h.elim)⟩
def Rw.mvT(T:Rw e z y c u os d A B o g l k r i w v)(S:Sv z y c O d B n q b f)(M:J3 u O v f):Rw e z y c O os d A B o n l q r b w f:=
 ⟨T.s.kx M.K S.C.W T.ap T.4 T.6 λj a=>T.t.ge a,S,λj s R=>(M.new j R).elim (T.ap j s) λh=>by have:=T.s.lt s;omega,λh=>(M.new _ h).elim T.4 λh=>by have:=T.s.D;omega,T.5,λh=>(M.new _ h).elim T.6 λh=>by have:=T.s.os;omega,T.7,T.8.trans (M.K.mono λj a=>T.t.ge a)⟩
def Rw.mvS(T:Rw e z y c u os d A B o g l k r i w v)(S:Sv z y c O os A G V a I)(M:J3 u O w I):Rw e z y c O os d A B G g V k a i I v:=
 ⟨S,T.t.kx M.K S.C.W (λj R s=>T.ap j s R) T.5 T.7 λj b=>T.s.ge b,λj s R=>(M.new j s).elim (λh=>T.ap j h R) λh=>by have:=T.t.lt R;omega,T.4,λh=>(M.new _ h).elim T.5 λh=>by have:=T.t.D;omega,T.6,λh=>(M.new _ h).elim T.7 λh=>by have:=T.t.os;omega,T.8.trans (M.K.mono λj b=>T.s.ge b)⟩
end
def Aqg{v e}{s:gT}(h:iK s<=9000000000):FT [⟨1,v,e,s⟩]:=by
 refine⟨Ad,Ad,λp Q=>?_,λp Q=>?_⟩
 ·simp at Q;subst Q;exact Ac8
 grind
def Abd{v U e E}{s L:gT}(h:iK s<=9000000000)(P:iK L<=9000000000):FT [⟨1,v,e,s⟩,⟨2,U,E,L⟩]:=by
 refine⟨Ad,Ad,λp Q=>?_,λp Q=>?_⟩
 ·simp at Q;rcases Q with rfl|rfl
  ·exact Ac8
  ·exact Ac9
 grind
noncomputable def AT(f:hQ):Act:={ tmps:=#[f 0,f 1,f 2,f 3,f 4,f 5,f 6,f 7,f 8,f 9,f 10,f 11,f 12,f 13,f 14,f 15,f 16,f 17,f 18,f 19,f 20,f 21,f 22,f 23,f 24,f 25,f 26,f 27,f 28,f 29,f 30,f 31,f 32,f 33,f 34,f 35,f 36,f 37,f 38,f 39,f 40,f 41,f 42,f 43,f 44,f 45,f 46,f 47,f 48,f 49,f 50,f 51,f 52,f 53,f 54,f 55,f 56,f 57,f 58,f 59,f 60,f 61,f 62,f 63,f 64,f 65,f 66,f 67,f 68,f 69,f 70,f 71,f 72,f 73,f 74,f 75,f 76,f 77,f 78,f 79,f 80,f 81,f 82,f 83,f 84,f 85,f 86,f 87,f 88,f 89,f 90,f 91,f 92,f 93,f 94,f 95,f 96,f 97,f 98,f 99,f 100,f 101,f 102,f 103,f 104,f 105,f 106,f 107,f 108,f 109,f 110,f 111,f 112,f 113,f 114,f 115,f 116,f 117,f 118,f 119,f 120,f 121,f 122,f 123,f 124,f 125,f 126,f 127,f 128,f 129,f 130,f 131,f 132,f 133,f 134,f 135,f 136,f 137,f 138,f 139,f 140,f 141,f 142,f 143,f 144,f 145,f 146,f 147,f 148,f 149,f 150,f 151,f 152,f 153,f 154,f 155,f 156,f 157,f 158,f 159,f 160,f 161,f 162,f 163,f 164,f 165,f 166,f 167,f 168,f 169,f 170,f 171,f 172,f 173,f 174,f 175,f 176,f 177,f 178,f 179,f 180,f 181,f 182,f 183,f 184,f 185,f 186,f 187,f 188,f 189,f 190,f 191,f 192,f 193,f 194,f 195,f 196,f 197,f 198,f 199,f 200,f 201,f 202],defers:=[] }
def Mf{a}{P:(Nat->uo)->Prop}(h:a=AT λj=>a.tmps.getD j undef)(Q:P λj=>a.tmps.getD j undef):∃f,a=AT f/\P f:=⟨_,h,Q⟩
noncomputable def rA:Nat->Code
 |0=>Tryz.f4.body.getD .skip
 |n+1=>Code.two (rA n)
noncomputable def stA(n:Nat):Code:=Code.one (rA n)
structure Tr(az lz nz os ot)(f:hQ):Prop where
 h0:f 0=az
 h1:f 1=lz
 h2:f 2=nz
 h11:f 11=iB os
 h12:f 12=iE 1
 h13:f 13=iB ot
 h14:f 14=iE 1
section
variable {Post:PA y z}
def Aqs:Hp Y km Ec (Mz Post) 4 (stA 1) (λe l O=>e=.normal/\∃r,l=AT r/\(r 0=f 0/\r 1=f 1/\r 2=f 2/\r 7=pdw (lj ⟨N u.1+1,0,jh⟩))/\Ax u O iH/\Hj O (N u.1+1) u.1.size/\N u.1+3<=N O.1) (AT f) u:=by
 unfold stA AT;refine Xyh ?_;refine A2 MH iI Ac iI Af ?_;rintro a Z⟨rfl,j,H,x⟩;refine Mtk ?_;exact Au ⟨iI,Mf iI ⟨⟨iI,iI,iI,iI⟩,j,H,x⟩⟩
end
section
variable {Post:PA y z} {os:Nat} {V:uo} {n:hU} {p q:Nat}
def Sv.bin(h:Sv z y c u b A o l r v)(K:Ax u O iH){cs:gY}{fz a}(D:O.1[N u.1]?=lj (.cells cs 5 fz))(V:Jf cs)(M:s.size<=a)(d:Bytes O u.1.size 0 s.data.toList):OU y c O v A.D (lj u.1.size) 0 a s.data.toList:=by
 obtain⟨_,_,_,_,h,_,rfl⟩:=h;exact OU.new h.H K D V M d
def Aqy(N:It Fj z)(S:Tr V (qh n p q) h os d f)(H:f 15=iE 2){b}(X:Yu Post n b)(hn:iK b=p)(hb:p<=1000000)(hc:p<=q)(Z:Rw e z y c u os d A B o g l k r [[],[]] w v)(I0:DH 0 g k):Hp y7 km Ec (Mz Post) 4 (stA 7) (λI a' O=>I=.normal/\∃j,a'=AT j/\(Tr V (qh n p q) h os d j/\j 15=iE 2)/\∃m s D,Rw e z y c O os d A B o m l s r [[],[]] w D/\DH p m s) (AT f) u:=by
 have h1:=S.2;unfold stA AT;simp only[rA,oj,aY,Code.one,Code.two];refine Wqw ?_;refine Keu ?_;refine Dr ?_;refine Mv (n:=p) (I:=λt a G=>∃(i:Nat),t+i=p/\∃(j:hQ),a=AT j/\(Tr V (qh n p q) h os d j/\j 15=iE 2/\j 16=iE i)/\∃m s D,Rw e z y c G os d A B o m l s r [[],[]] w D/\DH i m s) ?_ ?_
 case refine_2=>exact⟨0,Aa,Mf iI ⟨⟨⟨S.1,S.2,S.h2,S.4,S.5,S.6,S.7⟩,H,iI⟩,g,k,v,Z,I0⟩⟩
 rintro t a G⟨i,af,f,rfl,⟨S,H,ad⟩,a1,a6,a7,T,C⟩;unfold AT;rw[S.2,S.6,H,ad];by_cases hi:i<p
 case neg=>
  refine Mk2 ?_;refine Trb ?_;refine Xol ?_;refine Rgq ?_;refine Lc ?_;simp only[A1,As,bQ,bR];obtain rfl:i=p:=Aa;exact⟨trivial,Mf iI ⟨⟨⟨S.1,iI,S.h2,S.4,S.5,iI,S.7⟩,iI⟩,a1,a6,a7,T,C⟩⟩
 case pos=>
 obtain⟨x,hx⟩:∃x,b[i]?=lj x:=⟨_,aH Aa⟩;obtain⟨W,off,rfl,Y,F⟩:=X i x hx;obtain⟨J,rfl,l1,l2⟩:=C.ses;have ah:(i:Int)<(p:Int):=Aa;have ai:(p:Int)<=(q:Int):=Aa;have aj:IntKind.i64.wrap ((i:Int)+1)=((i+1:Nat):Int):=by simp[quq,rir,buy];omega
 obtain⟨q0,q1⟩:=Ql x.k (n:=4) Ae;refine Mk2 ?_;refine Trb ?_;refine Mdt ?_;refine C7u ?_;refine K5o ?_;refine Aw (Dr ?_);refine Dur ?_;refine Hwo ?_;refine A2 (Nl (f:=14) (args:=#[x.val,iE i]) Ae (X:=λ_=>False) (R:=λE _=>E=pc (E9 (OS x (4+M5 x.k 4) i))) λG K hz=>(AO G x.k x.a x.b x.v x.s x.w i 14 4 4 Ae F.k F.a F.b F.v F.s Aa Aa).mono λI w' L=>⟨⟨_,L.1,iI⟩,Bo L.2⟩) iI Ac iI Af ?_;rintro E w1⟨P,_,_,_,rfl⟩;walk_nrm;refine Lx (E9 (OS x (4+M5 x.k 4) i)) iI Ac iI iI (B7 Ab) λw2 aq cs fz Q b2 a8 aa ab=>?_;walk_nrm;have U:=(T.kf P).kf Q;refine A2 (U.t.feed (Post:=Post) (i:=1) (a:=⟨2,1,sd,J⟩) N iI iI iI iI (Abd (bF _) Aa) (λa M=>?_) (C.inv.ok Aa) (kind:=4+M5 x.k 4) Aa Aa ((T.t.kf P).bin Q b2 a8 aa ab)) iI Ac iI T1 ?_
 ·simp at M;rcases M with rfl|rfl
  ·show 0+2000<=9000000000;decide
  ·show iK J+2000<=9000000000;omega
 rintro E w3⟨m,s,D,S',ae,K⟩;walk_nrm;refine Ro8 ?_;have R:=PG x (kind:=4+M5 x.k 4) Aa Aa i;refine Tfz ?_;refine Cd (iE ((i+1:Nat):Int)) ?_;walk_nrm;refine Keu ?_;exact⟨p - (i+1),Aa,i+1,Aa,Mf iI ⟨⟨⟨S.1,iI,S.h2,S.4,S.5,iI,S.7⟩,iI,iI⟩,m,s,D,(U.mvT S' ae),(YB C K T.t.tr.1 T.t.tr.2 (by rw[R.4];omega) R.p)⟩⟩
end
section
variable {Post:PA y z} {D:Nat}
def Aqr:Hp Y km Ec (Mz Post) 4 (stA 0) (λe l O=>e=.normal/\∃r,l=AT r/\(r 0=f 0/\r 1=f 1/\r 2=f 2)/\O=u) (AT f) u:=by
 unfold stA AT;simp only[rA,oj,aY,Code.one,Code.two];refine Tfz ?_;exact Au ⟨iI,Mf iI ⟨⟨iI,iI,iI⟩,iI⟩⟩
def Aqt:Hp Y km Ec (Mz Post) 4 (stA 2) (λe l O=>e=.normal/\∃r,l=AT r/\(r 0=f 0/\r 1=f 1/\r 2=f 2/\r 7=f 7/\r 9=pdw (lj ⟨N u.1+1,0,jh⟩))/\Ax u O iH/\Hj O (N u.1+1) u.1.size/\N u.1+3<=N O.1) (AT f) u:=by
 unfold stA AT;refine Xyh ?_;refine A2 MH iI Ac iI Af ?_;rintro a Z⟨rfl,j,H,x⟩;refine Mtk ?_;exact Au ⟨iI,Mf iI ⟨⟨iI,iI,iI,iI,iI⟩,j,H,x⟩⟩
def Aax(z:gX)(y:Nat)(c:gV)(u u':gk)(D K os:Nat):Prop:=
 ∃A Fs b,Sv z y (λj=>c j∨j=b) u' os A { σ0 with last:=1 } [⟨1,1,sd,[]⟩] [[]] Fs/\A.D=D/\(∀j,Fs j->j=K∨N u.1<=j)/\N u.1<=os/\N u.1<=b/\Ax u u' (· = K)/\¬Fs D
def Ai4(U:It Fj z)(C:Cx z y Ec c u)(G:∀i,i<8->∃b e l,u.1[i]?=lj (.cells b e l))(F:Hj u D K)(L:y<=D)(v:y<=K)(N:¬c D)(W:¬c K):Bg Y km Ec (Mz Post) 7 #[iB D] u λx O=>∃a,x=.tuple #[iB a,iE 1]/\Aax z y c u O D K a:=by
 apply Bq (Ah7 (Post:=Post) U C G F L v N W ZL);rintro x O⟨a,A,X,d,g,w,o,rfl,H,m,s,n,p,T,j,q,f⟩;refine⟨a,iI,A,_,o,⟨X,d,g,w,H,q,iI⟩,m,T,n,p,j,λh=>?_⟩;have J:=H.H.F.1.notD H.H.F.map;have k:=H.H.F.1.offD H.H.F.ses;rw[m]at J k;rcases h with h|h|⟨i,r,Q,G⟩
 ·exact J h
 ·exact k h
 ·have ⟨t,_,_,_,j,_⟩:=H.H.Q.one i r Q;exact(H.H.F.offP j G).2 m.symm
def Aqu(U:It Fj z)(C:Cx z y Ec c u)(G:∀i,i<8->∃b e d,u.1[i]?=lj (.cells b e d))(F:Hj u D K)(L:y<=D)(v:y<=K)(N:¬c D)(W:¬c K)(M:f 7=iB D):Hp Y km Ec (Mz Post) 4 (stA 3) (λe l O=>e=.normal/\∃r,l=AT r/\∃a,(r 0=f 0/\r 1=f 1/\r 2=f 2/\r 9=f 9/\r 11=iB a/\r 12=iE 1)/\Aax z y c u O D K a) (AT f) u:=by
 unfold stA AT;simp only[rA,oj,aY,Code.one,Code.two];refine Tfz ?_;refine A2 (Ai4 (Post:=Post) U C G F L v N W) iI Ac iI (by walk_nrm;rw[M]) ?_;rintro g Z⟨a,rfl,x⟩;refine Mtk ?_;exact Au ⟨iI,Mf iI ⟨a,⟨iI,iI,iI,iI,iI,iI⟩,x⟩⟩
def Aqv(U:It Fj z)(C:Cx z y Ec c u)(G:∀i,i<8->∃d e h,u.1[i]?=lj (.cells d e h))(F:Hj u D K)(L:y<=D)(v:y<=K)(N:¬c D)(W:¬c K)(M:f 9=iB D):Hp Y km Ec (Mz Post) 4 (stA 4) (λe l O=>e=.normal/\∃r,l=AT r/\∃b,(r 0=f 0/\r 1=f 1/\r 2=f 2/\r 11=f 11/\r 12=f 12/\r 13=iB b/\r 14=iE 1)/\Aax z y c u O D K b) (AT f) u:=by
 unfold stA AT;simp only[rA,oj,aY,Code.one,Code.two];refine Tfz ?_;refine A2 (Ai4 (Post:=Post) U C G F L v N W) iI Ac iI (by walk_nrm;rw[M]) ?_;rintro g Z⟨a,rfl,x⟩;refine Mtk ?_;exact Au ⟨iI,Mf iI ⟨a,⟨iI,iI,iI,iI,iI,iI,iI⟩,x⟩⟩
end
section
variable {Post:PA y z} {os:Nat} {V:uo}
def Aqw(S:Tr V j h os d f):Hp Y km Ec (Mz Post) 4 (stA 5) (λe l O=>e=.normal/\∃r,l=AT r/\Tr V j h os d r/\O=u) (AT f) u:=by
 unfold stA AT;simp only[rA,oj,aY,Code.one,Code.two];rw[S.4,S.6];refine Wqw ?_
 iterate 6(refine V2g ?_)
 refine Rgq ?_;refine K5o ?_;exact⟨trivial,Mf iI ⟨⟨S.1,S.2,S.h2,iI,S.5,iI,S.7⟩,trivial⟩⟩
theorem Aqx(U:It Fj z)(a:Tr V j h os d f)(H:Sv z y c u d A { σ0 with last:=1 } [⟨1,1,sd,[]⟩] [[]] v):Hp y7 km Ec (Mz Post) 4 (stA 6) (λo q O=>o=.normal/\∃r,q=AT r/\(Tr V j h os d r/\r 15=iE 2)/\∃l,Sv z y (λn=>c n∨n=u.1.size) O d A { σ0 with last:=2 } [⟨1,1,sd,[]⟩,⟨2,1,sd,[]⟩] [[],[]] l/\J3 u O v l) (AT f) u:=by
 have S:=a.6;obtain⟨L,w,x,G,H,K,rfl⟩:=H;have s:G.length=1:=by have:=aJ List.length K;simpa using this
 unfold stA AT;simp only[rA,oj,aY,Code.one,Code.two];rw[S];refine Tfz ?_;refine A2 (NZ (Post:=Post) (k:=2) U H.H H.os iI H.of (by rw[s];rfl) iI (.inr ⟨iI,iI⟩) Aa (λp Q J=>?_) (by rw[K];exact Abd (bF _) (bF _)) (λC k=>?_)) iI Ac iI Af ?_
 ·have:=cX (f:=SI.abs) Q;rw[K]at this;simp at this;have:=aJ AS.k this;rw[show p.abs.k=p.k from iI,J]at this;cases this
 ·rw[K]at k;simp at k;subst k;exact bF _
 rintro D F⟨rfl,g,b,i,e,m,t,E,B⟩;walk_nrm;refine V2g ?_;refine Au ⟨iI,Mf iI ⟨⟨⟨a.1,a.2,a.h2,a.4,a.5,iI,a.7⟩,iI⟩,_,⟨g,b,i,e,⟨m,t.K.get H.os H.of,λZ=>(t.new _ Z).elim H.of λZ=>by have:=ltOf H.os;omega⟩,by rw[E,K];rfl,iI⟩,t⟩⟩
end
section
variable {Post:PA y z} {os:Nat} {V:uo} {q:hU}
def Ao5(ae:It Fj z)(S:Tr (qh q L K) j h os d f)(M:f 15=iE 2){b}(hy:Yu Post q b)(hn:iK b=L)(hb:L+m<=1000000)(hc:L<=K)(af:Rw e z y c u os d A B o g l k [[]] [[],[]] w v)(I0:WA 0 m o g l k):Hp y7 km Ec (Mz Post) 4 (stA 13) (λah a' O=>ah=.normal/\∃r,a'=AT r/\(Tr (qh q L K) j h os d r/\r 15=iE 2)/\∃G n V F I N,Rw e z y c O os d A B G n V F [[]] [[],[]] I N/\WA L m G n V F) (AT f) u:=by
 unfold stA AT;simp only[rA,oj,aY,Code.one,Code.two];refine Wqw ?_;refine Keu ?_;refine Dr ?_;refine Mv (n:=L) (I:=λt a p=>∃(i:Nat),t+i=L/\∃(r:hQ),a=AT r/\(Tr (qh q L K) j h os d r/\r 15=iE 2/\r 23=iE i)/\∃G n V F I N,Rw e z y c p os d A B G n V F [[]] [[],[]] I N/\WA i m G n V F) ?_ ?_
 case refine_2=>exact⟨0,Aa,Mf iI ⟨⟨⟨S.1,S.2,S.h2,S.4,S.5,S.6,S.7⟩,M,iI⟩,o,g,l,k,w,v,af,I0⟩⟩
 clear S M af I0;rintro t a p⟨i,ay,f,rfl,⟨S,M,ai⟩,σ1,τ1,l1,a1,a6,a7,T,C⟩;have h0:=S.1;have aj:=S.4;have ak:=S.5;have al:=S.6;have an:=S.7;unfold AT;rw[h0,aj,ak,al,an,ai];by_cases hi:i<L
 case neg=>
  refine Mk2 ?_;refine Trb ?_;refine Xol ?_;refine Rgq ?_;refine Lc ?_;simp only[A1,As,bQ,bR];obtain rfl:i=L:=Aa;exact⟨trivial,Mf iI ⟨⟨⟨iI,S.2,S.h2,iI,iI,iI,iI⟩,M⟩,σ1,τ1,l1,a1,a6,a7,T,C⟩⟩
 case pos=>
 obtain⟨x,hx⟩:∃x,b[i]?=lj x:=⟨_,aH Aa⟩;obtain⟨W,off,rfl,Y,X⟩:=hy i x hx;obtain⟨s,Z,az,hk⟩:=C.1.ses;have ao:=C.lo ⟨1,1,sd,s⟩ (by rw[Z];rfl);simp only at ao;have b6:(i:Int)<(L:Int):=Aa;have b7:(L:Int)<=(K:Int):=Aa;have b8:IntKind.i64.wrap ((i:Int)+1)=((i+1:Nat):Int):=by simp[quq,rir,buy];omega
 obtain⟨q0,q1⟩:=Ql x.k (n:=7) Ae;have R:=PG x (kind:=1+M5 x.k 7) Aa Aa i;have D:∀p,Bg y7 km Ec (Mz Post) 9 #[x.val,iE i] p λE w'=>Ax p w' iH/\E=pc (E9 (OS x (1+M5 x.k 7) i)):=λp=>
  Bq (Nl (f:=9) (args:=#[x.val,iE i]) Ae (X:=λ_=>False) (R:=λE _=>E=pc (E9 (OS x (1+M5 x.k 7) i))) λp hw hz=>(AO p x.k x.a x.b x.v x.s x.w i 9 1 7 Ae X.k X.a X.b X.v X.s Aa Aa).mono λah w' H=>⟨⟨_,H.1,iI⟩,Bo H.2⟩) λE w' H=>⟨H.1,by obtain⟨_,_,_,_,H⟩:=H;exact H⟩
 refine Mk2 ?_;refine Trb ?_;refine Mdt ?_;refine C7u ?_;refine K5o ?_;refine Aw (Dr ?_);refine Wqw ?_;refine Ldr ?_;refine Hwo ?_;refine A2 (D _) iI Ac iI Af ?_;rintro E w1⟨P,rfl⟩;walk_nrm;refine Lx (E9 (OS x (1+M5 x.k 7) i)) iI Ac iI iI (B7 Ab) λw2 aq cs fz Q b2 a8 aa ab=>?_;walk_nrm;have U:=(T.kf P).kf Q;have BB:=(T.s.kf P).bin Q b2 a8 aa ab;refine A2 (U.s.feed (Post:=Post) (i:=0) (a:=⟨1,1,sd,s⟩) ae (by rw[Z];rfl) iI iI iI (by rw[Z];exact Aqg Aa) (λa J=>?_) (C.is.ok Aa) (kind:=1+M5 x.k 7) Aa Aa BB) iI Ac iI T1 ?_
 ·rw[Z]at J;simp at J;subst J
  show iK s+2000<=9000000000;omega
 rintro E w3⟨G,V,I,S',ad,hw⟩;walk_nrm;refine Ro8 ?_;have T3:=U.mvS S' ad;refine Dur ?_;refine Hwo ?_;refine A2 (D _) iI Ac iI Af ?_;rintro y' w4⟨K4,rfl⟩;walk_nrm;refine Lx (E9 (OS x (1+M5 x.k 7) i)) iI Ac iI iI (B7 Ab) λw5 c' b9 ba K5 b5 ar au av=>?_;walk_nrm;have T5:=(T3.kf K4).kf K5;have aw:=(T3.t.kf K4).bin K5 b5 ar au av;refine A2 (T5.t.feed (Post:=Post) (i:=0) (a:=⟨1,1,sd,s⟩) ae (by rw[hk];rfl) iI iI iI (by rw[hk];exact Abd Aa (bF _)) (λa J=>?_) (C.it.ok Aa) (kind:=1+M5 x.k 7) Aa Aa aw) iI Ac iI T1 ?_
 ·rw[hk]at J;simp at J;rcases J with rfl|rfl
  ·show iK s+2000<=9000000000;omega
  ·show 0+2000<=9000000000
   decide
 rintro E w6⟨n,F,N,S6,M6,ax⟩;walk_nrm;refine Ro8 ?_;have T6:=T5.mvT S6 M6;have I6:=Abg C hw ax T.s.tr.1 T.s.tr.2 (by rw[R.4];omega) R.p R.d;refine Tfz ?_;refine Cd (iE ((i+1:Nat):Int)) ?_;walk_nrm;refine Keu ?_;exact⟨L - (i+1),Aa,i+1,Aa,Mf iI ⟨⟨⟨iI,S.2,S.h2,iI,iI,iI,iI⟩,M,iI⟩,G,n,V,F,I,N,T6,I6⟩⟩
end
section
variable {Post:PA y z} {os:Nat} {V:uo}
def DW(z)(N:Ph z):Bg Y km Ec F 16 #[iE z] u λx O=>x=pc (b4 z)/\Ax u O iH:=
 Bq (Nl Ae (R:=λy _=>y=pc (b4 z)) λw W _=>(Zq w z N).mono λe B h=>⟨⟨_,h.1,iI⟩,Bo h.2⟩) λy O h=>⟨Aj,h.1⟩
def Acs(s:gU)(b:s.size<=1000000):Bg Y km Ec F 15 #[pc s] u λx O=>x=pc (E9 s)/\Ax u O iH:=
 Bq (Nl Ae (R:=λy _=>y=pc (E9 s)) λw W _=>(DX w s b).mono λe B h=>⟨⟨_,h.1,iI⟩,Bo h.2⟩) λy O h=>⟨Aj,h.1⟩
def Akh(x y:gU)(w):(Op.stringOp .add x y).events Y w #[]=#[]:=by
 unfold Op.stringOp;simp[go_sem]
def GU:gU:=E9 (b4 (-2)++b4 0++b4 0++b4 3)
def Aqz(S:Tr V j h os d f)(F:f 15=iE 2):Hp Y km Ec (Mz Post) 4 (stA 8) (λe l O=>e=.normal/\∃r,l=AT r/\(Tr V j h os d r/\r 15=iE 2/\r 17=pc GU)/\Ax u O iH) (AT f) u:=by
 unfold stA AT;refine Xyh ?_;refine A2 (DW (-2) Aaw) iI Ac iI Af ?_;rintro P m⟨rfl,H⟩;walk_nrm;refine A2 (DW 0 Aaw) iI Ac iI Af ?_;rintro P B⟨rfl,J⟩;walk_nrm;refine Cd (pc (b4 (-2)++b4 0)) ?_;walk_nrm;refine A2 (DW 0 Aaw) iI Ac iI Af ?_;rintro P E⟨rfl,W⟩;walk_nrm;refine Cd (pc (b4 (-2)++b4 0++b4 0)) ?_;walk_nrm;refine A2 (DW 3 Aaw) iI Ac iI Af ?_;rintro P k⟨rfl,p⟩;walk_nrm;refine Cd (pc (b4 (-2)++b4 0++b4 0++b4 3)) ?_;walk_nrm;refine A2 (Acs (b4 (-2)++b4 0++b4 0++b4 3) (by simp[bT,Lh])) iI Ac iI Af ?_;rintro P a⟨rfl,ad⟩;walk_nrm;refine V2g ?_;exact Au ⟨iI,Mf iI ⟨⟨⟨S.1,S.2,S.h2,S.4,S.5,S.6,S.7⟩,F,iI⟩,(((H.trans J).trans W).trans p).trans ad⟩⟩
def Rc{w:gk}{t}{X:gZ}(h:w.ownsRow 0 5 1 t m X):∃C U,t=qh C m U:=by
 rcases h.2 with⟨e,F⟩|⟨g,I,H,e,_⟩
 ·grind
 ·exact⟨_,_,e⟩
def Aq0(S:Tr V j h os d f)(F:f 15=iE 2)(L:f 17=pc GU)(T:Rw e z y c u os d A B o g l k r i w v)(I:DH n g k):Hp Y km Ec (Mz Post) 4 (stA 9) (λq D O=>q=.normal/\∃b,D=AT b/\(Tr V j h os d b/\b 15=iE 2/\b 17=pc GU/\∃C p U,b 18=qh C p U/\20 * n<=p/\p<=2000 * n)/\∃a,Rw e z y c O os d A B o g l [⟨1,1,sd,[]⟩,⟨2,1,sd,[]⟩] r i w a) (AT f) u:=by
 obtain⟨s,rfl,E,G⟩:=I.ses;unfold stA AT;simp only[rA,oj,aY,Code.one,Code.two];rw[S.6,F];refine Gd2 ?_;refine A2 (T.t.take (i:=1) (a:=⟨2,1,sd,s⟩) iI Ac9.1) iI Ac iI Af ?_;rintro x Z⟨t,a,rfl,N,M,m,_,_⟩;obtain⟨C,U,rfl⟩:=Rc m;refine Mtk ?_;exact Au ⟨iI,Mf iI ⟨⟨⟨S.1,S.2,S.h2,S.4,S.5,iI,S.7⟩,iI,L,C,_,U,iI,E,G⟩,a,T.mvT N M⟩⟩
def Sv.feed8(U:It Fj z)(H:Sv z y c u b A o [⟨1,1,sd,[]⟩,⟨2,1,sd,[]⟩] [[],[]] v)(a:JY n o)(D:n<=1000000)(S:OU y c u v A.D ob T I (E9 Kt++s).data.toList):Bg y7 km Ec (Mz Post) 10 #[iB b,iE 2,I5 ob T (E9 Kt++s).data.toList.length I] u λh O=>h=iE 0/\∃p,Sv z y c O b A { o with ks:=[] } [⟨1,1,sd,[]⟩,⟨2,1,km,E8 0 3⟩] [[],[]] p/\J3 u O v p:=by
 obtain⟨cu,fa,fc,se,H,K,rfl⟩:=H;obtain⟨N,E,q⟩:∃N,se[1]?=lj N/\N.abs=⟨2,1,sd,[]⟩:=by
  have:(se.map SI.abs)[1]?=lj ⟨2,1,sd,[]⟩:=by rw[K];rfl
  grind
 have x:N.k=2:=aJ AS.k q;obtain⟨W,r,F,J⟩:=Zd (iK s.data.toList) [] s.data.toList (aC _) Kj;have w:Je [] (E9 Kt++s).data.toList (Kt.data.toList::W) r F:=by
  rw[Ip];exact KS On.1 On.2 J
 have l:FT [⟨1,1,sd,[]⟩,⟨2,1,km,E8 0 3⟩]:=Abd (bF _) (by rw[Zj];decide);have G:(#[iB b,iE 2,I5 ob T (E9 Kt++s).data.toList.length I]:gY)=#[iB b,iE N.k,I5 ob T (E9 Kt++s).data.toList.length I]:=by rw[x]
 rw[G];refine Bq (Acd (Post:=Post) U H.H H.os iI E (by rw[x];exact Ac9.1) a.inv.dn (aJ AS.en q) iI S w ?_ ?_) ?_
 ·intro L B a7 P l' j M;rw[K]at M;have k:iK B<=1000:=w.len Kj B (by rw[j];simp)
  match L,j with
  |[],j=>
   cases M;obtain⟨rfl,_⟩:=fF j;refine⟨k,Abd (bF _) (bF _),λf Q _ _=>?_⟩;obtain rfl:(⟨2,1,sd,[]⟩:AS)=f:=aB Q;refine .inr ⟨iI,a.inv.ok D,λa8 Y=>?_⟩;rw[Aow]at Y;cases Y
  |d::ds,j=>
   obtain⟨rfl,_⟩:=fF j;obtain⟨rfl,rfl⟩:=PU a M;refine⟨k,l,λf Q V _=>?_⟩;obtain rfl:(⟨2,1,km,E8 0 3⟩:AS)=f:=aB Q;cases V
 ·intro X l1 M;rw[K]at M;obtain⟨rfl,rfl⟩:=PU a M;exact⟨l,λ_=>a.inv.dn⟩
 ·rintro h O⟨a1,P,C,i,e,rfl,m,t,X,l1,M,g⟩;rw[K]at M;obtain⟨rfl,rfl⟩:=PU a M;obtain⟨f,Q,g⟩:=g;obtain rfl:(⟨2,1,km,E8 0 3⟩:AS)=f:=aB Q;rw[aM Ad]at g;obtain⟨rfl,R⟩:=g;have a6:partOf (e.map SI.abs) 1 r = []:=by rw[R];rfl
  rw[a6]at m;refine⟨?_,_,⟨a1,C,i,e,⟨m,t.K.get H.os H.of,λZ=>(t.new _ Z).elim H.of λZ=>by have:=ltOf H.os;omega⟩,R,iI⟩,t.moved⟩
  show Value.int gh (KT o.down)=_;rw[a.inv.dn]
  rfl
def Ao2(U:It Fj z)(R:s.size<=1048576)(S:Tr V j (pc s) os d f)(F:f 15=iE 2)(L:f 17=pc GU)(T:Rw e z y c u os d A B o g l [⟨1,1,sd,[]⟩,⟨2,1,sd,[]⟩] r [[],[]] w v)(I:JY n g)(i:n<=1000000):Hp y7 km Ec (Mz Post) 4 (stA 10) (λk q O=>k=.normal/\∃a,q=AT a/\(Tr V j (pc s) os d a/\a 15=iE 2/\a 17=pc GU/\a 18=f 18/\a 20=iE 0)/\∃E,Rw e z y c O os d A B o { g with ks:=[] } l [⟨1,1,sd,[]⟩,⟨2,1,km,E8 0 3⟩] r [[],[]] w E) (AT f) u:=by
 unfold stA AT;simp only[rA,oj,aY,Code.one,Code.two];rw[S.6,F,S.h2];refine Gd2 ?_;refine A2 (DW 8 Aaw) iI Ac iI Af ?_;rintro x m⟨rfl,H⟩;walk_nrm;refine A2 (DW 0 Aaw) iI Ac iI Af ?_;rintro x X⟨rfl,J⟩;walk_nrm;refine Cd (pc Kt) ?_;walk_nrm;refine A2 (Acs Kt (by have:=On;omega)) iI Ac iI Af ?_;rintro x Y⟨rfl,W⟩;walk_nrm;refine V2g ?_;have Z:(E9 Kt).size+s.size<=9223372036854775807:=by rw[I8];have:=On;omega
 refine Gl (S:=env Lv) (x:=pc (E9 Kt++s)) iI Ac (B7 Ab) (A6 _ _) (λb=>by first|(go_simp;done)|(go_simp;rfl)) (λb=>by have h:=Akh (E9 Kt) s b;first|(simp[go_sem,h];done)|(go_simp;exact h)) ?_;walk_nrm;refine Lx (E9 Kt++s) iI Ac iI iI (B7 Ab) λu4 a1 cs fz p t M P Q=>?_;walk_nrm;have G:=T.kf ((H.trans J).trans W);have D:=G.kf p;refine A2 (D.t.feed8 (Post:=Post) U I i (G.t.bin p t M P Q)) iI Ac iI T1 ?_;rintro C ak⟨rfl,E,N,K⟩;walk_nrm;refine V2g ?_;exact Au ⟨iI,Mf iI ⟨⟨⟨S.1,S.2,iI,S.4,S.5,iI,S.7⟩,iI,L,iI,iI⟩,E,D.mvT N K⟩⟩
def Ao3(S:Tr V j h os d f)(F:f 15=iE 2)(L:f 17=pc GU)(T:Rw e z y c u os d A B o g l [⟨1,1,sd,[]⟩,⟨2,1,km,E8 0 3⟩] r i w v):Hp Y km Ec (Mz Post) 4 (stA 11) (λk n O=>k=.normal/\∃b,n=AT b/\(Tr V j h os d b/\b 15=iE 2/\b 17=pc GU/\b 18=f 18/\b 20=f 20)/\O.ownsRow 0 5 1 (b 21) (E8 0 3).length (A4 (E8 0 3))/\∃a,Rw e z y c O os d A B o g l [⟨1,1,sd,[]⟩,⟨2,1,km,[]⟩] r i w a) (AT f) u:=by
 unfold stA AT;simp only[rA,oj,aY,Code.one,Code.two];rw[S.6,F];refine Gd2 ?_;refine A2 (T.t.take (i:=1) (a:=⟨2,1,km,E8 0 3⟩) iI Ac9.1) iI Ac iI Af ?_;rintro x Z⟨t,a,rfl,N,M,m,_,_⟩;refine Mtk ?_;exact Au ⟨iI,Mf iI ⟨⟨⟨S.1,S.2,S.h2,S.4,S.5,iI,S.7⟩,iI,L,iI,iI⟩,m,a,T.mvT N M⟩⟩
end
section
variable {Post:PA y z} {os:Nat} {V:uo} {q:hU} {b:gT} {n:Int}
def Ao6(S:Tr V j h os d f)(F:f 15=iE 2)(T:Rw e z y c u os d A B o g [⟨1,1,sd,b⟩] k r i w v):Hp Y km Ec (Mz Post) 4 (stA 14) (λn p O=>n=.normal/\∃l,p=AT l/\(Tr V j h os d l/\l 15=iE 2/\l 25=iE 0)/\O.ownsRow 0 5 1 (l 24) (iK b) (A4 b)/\∃I,Rw e z y c O os d A B o g [⟨1,1,sd,[]⟩] k r i I v/\∀a,(l 24).ownBlock=lj a->¬I a/\¬v a) (AT f) u:=by
 unfold stA AT;simp only[rA,oj,aY,Code.one,Code.two];rw[S.4,S.5];refine Gd2 ?_;refine A2 (T.s.take (i:=0) (a:=⟨1,1,sd,b⟩) iI Ac8.1) iI Ac iI Af ?_;rintro s Z⟨t,I,rfl,N,M,m,H,x⟩;refine Mtk ?_;exact Au ⟨iI,Mf iI ⟨⟨⟨S.1,S.2,S.h2,iI,iI,S.6,S.7⟩,F,iI⟩,m,I,T.mvS N M,λa G=>⟨x a G,T.ap a (H a G)⟩⟩⟩
def Ao7(S:Tr V j h os d f)(F:f 15=iE 2)(C:f 25=iE 0)(T:Rw e z y c u os d A B o g l [⟨1,1,sd,b⟩,⟨2,n,km,[]⟩] r i w v):Hp Y km Ec (Mz Post) 4 (stA 15) (λD E O=>D=.normal/\∃k,E=AT k/\(Tr V j h os d k/\k 15=iE 2/\k 25=iE 0/\k 27=iE 0/\k 24=f 24)/\O.ownsRow 0 5 1 (k 26) (iK b) (A4 b)/\Ax u O v/\∃a,Rw e z y c O os d A B o g l [⟨1,1,sd,[]⟩,⟨2,n,km,[]⟩] r i w a/\(∀p,a p->v p∨iL u.1<=p)/\∀q,(k 26).ownBlock=lj q->¬a q) (AT f) u:=by
 unfold stA AT;simp only[rA,oj,aY,Code.one,Code.two];rw[S.6,S.7];refine Gd2 ?_;refine A2 (T.t.take (i:=0) (a:=⟨1,1,sd,b⟩) iI Ac8.1) iI Ac iI Af ?_;rintro s Z⟨t,a,rfl,N,M,m,H,x⟩;refine Mtk ?_;exact Au ⟨iI,Mf iI ⟨⟨⟨S.1,S.2,S.h2,S.4,S.5,iI,iI⟩,F,C,iI,iI⟩,m,M.K,a,T.mvT N M,M.new,x⟩⟩
def Ao8(S:Tr V j h os d f)(F:f 15=iE 2)(p:f 25=iE 0)(E:f 27=iE 0)(T:Rw e z y c u os d A B o g l [⟨1,1,sd,[]⟩,⟨2,n,km,[]⟩] r i w v):Hp Y km Ec (Mz Post) 4 (stA 16) (λq s O=>q=.normal/\∃b,s=AT b/\(Tr V j h os d b/\b 25=iE 0/\b 27=iE 0/\b 29=iE 0/\b 24=f 24/\b 26=f 26/\∃C U,b 28=qh C 0 U)/\Ax u O v/\∃a,Rw e z y c O os d A B o g l [⟨1,1,sd,[]⟩,⟨2,n,km,[]⟩] r i w a) (AT f) u:=by
 unfold stA AT;simp only[rA,oj,aY,Code.one,Code.two];rw[S.6,F];refine Gd2 ?_;refine A2 (T.t.take (i:=1) (a:=⟨2,n,km,[]⟩) iI Ac9.1) iI Ac iI Af ?_;rintro x Z⟨t,a,rfl,N,M,m,D,k⟩;obtain⟨C,U,rfl⟩:=Rc m;refine Mtk ?_;exact Au ⟨iI,Mf iI ⟨⟨⟨S.1,S.2,S.h2,S.4,S.5,iI,S.7⟩,p,E,iI,iI,iI,C,U,iI⟩,M.K,a,T.mvT N M⟩⟩
def Rw.tree{a:Goroutine->gk->Prop}(T:Rw e z y c u os d A B o g l k r i w v)(F:0<iK o.ns)(Q:∀q∈o.ns,q.2.path=q.1)(I:g.num=o.num)(U:g.ns=o.ns):Bg Y km Ec a 13 #[iB os,iB d] u λx O=>x=gd km/\Ax u O iH:=by
 have ⟨_,_,_,_,H,_⟩:=T.s;have ⟨_,_,_,_,D,_⟩:=T.t;exact ZP H D F Q I U
def Ao9(S:Tr V j h os d f)(T:Rw e z y c u os d A B o g l k r i w v)(b5:0<iK o.ns)(b6:∀q∈o.ns,q.2.path=q.1)(bd:g.num=o.num)(au:g.ns=o.ns):Hp Y km Ec (Mz Post) 4 (stA 17) (λb m O=>b=.normal/\∃a,m=AT a/\(Tr V j h os d a/\a 30=gd km/\a 24=f 24/\a 25=f 25/\a 26=f 26/\a 27=f 27/\a 28=f 28/\a 29=f 29)/\Ax u O iH) (AT f) u:=by
 unfold stA AT;simp only[rA,oj,aY,Code.one,Code.two];rw[S.4,S.6];refine Gd2 ?_;refine A2 (T.tree b5 b6 bd au) iI Ac iI Af ?_;rintro P n⟨rfl,ad⟩;walk_nrm;refine V2g ?_;exact Au ⟨iI,Mf iI ⟨⟨⟨S.1,S.2,S.h2,iI,S.5,iI,S.7⟩,iI,iI,iI,iI,iI,iI,iI⟩,ad⟩⟩
def Apa(S:Tr (qh q L K) j h os d f)(T:f 30=gd km)(i:f 25=iE 0)(E:f 27=iE 0)(o:f 29=iE 0){C:hU}(p:f 28=qh C 0 U)(r:u.ownsRow 0 5 1 (f 24) (iK b) (A4 b))(a:u.ownsRow 0 5 1 (f 26) (iK b) (A4 b))(y:20 * L<=iK b/\iK b<=2000 * L)(z:L<=1000000):Hp Y km Ec (Mz Post) 4 (stA 18) (λs t O=>s=.normal/\∃k,t=AT k/\k 6=gd km/\Ax u O iH) (AT f) u:=by
 obtain⟨l,n,c⟩:=Rc r;obtain⟨v,G,e⟩:=Rc a;rw[c]at r;rw[e]at a;have W:IntKind.i64.wrap (20 * (L:Int))=20 * (L:Int):=by simp[quq,rir,buy];omega
 generalize g:iK b=m at *;have A:(20 * (L:Int))<=(m:Int):=Aa;unfold stA AT;simp only[rA,oj,aY,Code.one,Code.two];rw[S.1,i,E,p,o,T,c,e];refine A0 ?_
 iterate 15(refine V2g ?_)
 refine Uu (qh l m n) b (by rwa[g]) iI Ac (B7 Ab) iI Ac ?_;intro Z H;walk_nrm;refine V2g ?_;refine Uu (qh v m G) b (by rw[g];exact Dh a λw x=>H.block w (Cm a x) id) iI Ac (B7 Ab) iI Ac ?_;intro B J;walk_nrm;refine Mdt ?_
 iterate 11(refine V2g ?_)
 refine Cd (iE (20 * (L:Int))) ?_;walk_nrm;refine Mdt ?_;refine Wad ?_;exact Au ⟨iI,Mf iI ⟨iI,H.trans J⟩⟩
end
section
variable {Post:PA y z} {os:Nat} {V:uo} {n C:hU} {p q:Nat}
def Akq:(⟨(E8 0 3).toArray⟩:gU)=GU:=by
 apply ByteArray.ext;apply Array.ext';exact KY.symm
def Ao4(S:Tr V (qh n p q) h os d f)(F:f 15=iE 2)(L:f 17=pc GU)(B:f 18=qh C m U)(o:20 * p<=m)(i:m<=2000 * p)(D:p<=1000000)(b:f 20=iE 0)(a:u.ownsRow 0 5 1 (f 21) (E8 0 3).length (A4 (E8 0 3))):Hp Y km Ec (Mz Post) 4 (stA 12) (λe l O=>e=.normal/\∃r,l=AT r/\(Tr V (qh n p q) h os d r/\r 15=iE 2)/\Ax u O iH) (AT f) u:=by
 have W:IntKind.i64.wrap (20 * (p:Int))=20 * (p:Int):=by simp[quq,rir,buy];omega
 have g:decide ((m:Int)<20 * (p:Int))=sd:=by simpa using Aa
 generalize c:f 21=t at a;unfold stA AT;simp only[rA,oj,aY,Code.one,Code.two];rw[S.2,F,L,B,b,c];refine Wqw ?_
 iterate 8(refine V2g ?_)
 refine Uu t (E8 0 3) a iI Ac (B7 Ab) iI Ac λZ H=>?_;rw[Akq];walk_nrm;refine V2g ?_;refine Xol ?_
 iterate 6(refine V2g ?_)
 refine Cd (iE (20 * (p:Int))) ?_;walk_nrm;refine Xol ?_;refine Keu ?_;refine Ve5 ?_;exact⟨trivial,Mf iI ⟨⟨⟨S.1,iI,S.h2,S.4,S.5,S.6,S.7⟩,iI⟩,H⟩⟩
end
def Js(n)(z:n<19):rA n=.seq (stA n) (rA (n+1)):=by
 have h:n=0∨n=1∨n=2∨n=3∨n=4∨n=5∨n=6∨n=7∨n=8∨n=9∨n=10∨n=11∨n=12∨n=13∨n=14∨n=15∨n=16∨n=17∨n=18:=Aa;rcases h with rfl|rfl|rfl|rfl|rfl|rfl|rfl|rfl|rfl|rfl|rfl|rfl|rfl|rfl|rfl|rfl|rfl|rfl|rfl<;>rfl
def Alk:rA 19=.ret:=iI
section
variable {Post:PA y z} {q n:hU} {cA p cL:Nat}
def Aba(U:It Fj z)(C:Cx z y Ec iH u)(dh:y=iL u.1)(G:∀a6,a6<8->∃ae e fz,u.1[a6]?=lj (.cells ae e fz)){X j}(hA:Yu Post q X)(af:iK X=L)(ah:L<=cA)(hL:Yu Post n j)(an:iK j=p)(ao:p<=cL)(hb:L+p<=1000000)(c:s.size<=1048576)(h0:f 0=qh q L cA)(h1:f 1=qh n p cL)(h2:f 2=pc s):Hp y7 km Ec (Mz Post) 4 (rA 0) (λe a' O=>e=.ret/\a'.defers = []/\a'.tmps.getD 6 undef=gd km/\Ax u O (λa=>y<=a)) (AT f) u:=by
 rw[Js 0 Ae];refine Aw (Da (Aqr (Post:=Post) (f:=f)) ?_);rintro e b k⟨rfl,f0,rfl,⟨a0,av,a2⟩,rfl⟩;simp only[A1];rw[Js 1 Ae];refine Aw (Da (Aqs (Post:=Post) (f:=f0)) ?_);rintro e b t⟨rfl,f1,rfl,⟨b0,b1,b2,b7⟩,K1,F1,z1⟩;simp only[A1];rw[Js 2 Ae];refine Aw (Da (Aqt (Post:=Post) (f:=f1)) ?_);rintro e b E⟨rfl,f2,rfl,⟨c0,c1,c2,c7,c9⟩,J,Y,z2⟩;simp only[A1];have o:Ax k E iH:=K1.trans J;have C2:Cx z y Ec iH E:=C.kx o (C.W.ofK o (λ_ _ h=>h) λ_ h=>h.elim) λ_ h=>h.elim;have a7:=Lj G o λ_ h=>h.elim;rw[Js 3 Ae];refine Aw (Da (Aqu (Post:=Post) (f:=f2) (D:=iL k.1+1) (K:=iL k.1) U C2 a7 (F1.kf J) Aa Aa id id (c7.trans b7)) ?_);rintro e b v3⟨rfl,f3,rfl,os,⟨d0,d1,d2,d9,aw,ay⟩,A,w,v,Z,hD,H,di,dj,W,nD⟩;simp only[A1];have C3:=Z.C;have z3:=W.size;have ap:Hj v3 (iL t.1+1) t.1.size:=⟨W.get Y.d Aa,W.get Y.k Aa⟩;have dk:iL t.1+1<iL E.1:=Aa;rw[Js 4 Ae];refine Aw (Da (Aqv (Post:=Post) (f:=f3) (D:=iL t.1+1) (K:=iL t.1) U C3 Z.glob ap Aa Aa (by rintro(h|h);exact h;omega) (by rintro(h|h);exact h;omega) (d9.trans c9)) ?_);rintro e b V⟨rfl,f4,rfl,ot,⟨e0,e1,e2,az,b5,b6,b8⟩,B,Ft,M,N,b9,x,dm,dp,Q,dq⟩;simp only[A1];have K:∀a,w a->a<iL v3.1:=λa l=>Z.lt l;have dr:=Z.os;have dt:=Z.D;have W4:=N.C.W;have Wb:VW Ec (λa=>False∨a=v) V:=⟨λa l=>W4.rows a (.inl l),λ_ h=>h.elim,λ_ h=>h.elim,λ_ h=>h⟩;have nK:∀a,w a->¬a=iL t.1:=λa l e=>by
  rcases H a l with h|h<;>omega
 have ar:=Z.kx Q Wb nK (by rw[hD];omega) Aa λa l=>Aa;have ag:Sv z y (λa=>(False∨a=v)∨a=M) V os A { σ0 with last:=1 } [⟨1,1,sd,[]⟩] [[]] w:=ar.grow W4 (λa h=>.inl h) λa h=>h.imp id λe=>⟨Aa,λl=>by have:=K a l;omega,Aa⟩
 have ba:∀a,w a->¬Ft a:=λa c R=>by
  have:=K a c;rcases x a R with h|h
  ·exact nK a c h
  ·omega
 have D:Rw k z y (λa=>(False∨a=v)∨a=M) V os ot A B { σ0 with last:=1 } { σ0 with last:=1 } [⟨1,1,sd,[]⟩] [⟨1,1,sd,[]⟩] [[]] [[]] w Ft:=by
  refine⟨ag,N,ba,λh=>?_,λh=>?_,λh=>?_,λh=>?_,(((o.mono λ_ h=>h.elim).trans (W.mono λa h=>Aa)).trans (Q.mono λa h=>Aa))⟩
  ·rcases x _ h with h|h<;>omega
  ·rw[b9]at h;rcases H _ h with h|h<;>omega
  ·rcases x _ h with h|h<;>omega
  ·have:=K _ h;omega
 clear Z ar ag C3 ap W Q Wb C2 a7 o K1 J F1 Y N H x;rw[Js 5 Ae];refine Aw (Da (Aqw (Post:=Post) (⟨by rw[e0,d0,c0,b0,a0,h0],by rw[e1,d1,c1,b1,av,h1],by rw[e2,d2,c2,b2,a2,h2],by rw[az,aw],by rw[b5,ay],b6,b8⟩)) ?_);rintro e b v5⟨rfl,f5,rfl,S5,rfl⟩;simp only[A1];rw[Js 6 Ae];refine Aw (Da (Aqx (Post:=Post) U S5 D.t) ?_);rintro e b v6⟨rfl,f6,rfl,⟨S6,F⟩,bb,H6,P⟩;simp only[A1];have W6:=H6.C.W;have T6:Rw k z y (λa=>((False∨a=v)∨a=M)∨a=iL v5.1) v6 os ot A B { σ0 with last:=1 } { σ0 with last:=2 } [⟨1,1,sd,[]⟩] [⟨1,1,sd,[]⟩,⟨2,1,sd,[]⟩] [[]] [[],[]] w bb:=by
  have a8:∀a,w a->a<iL v5.1:=λa l=>D.s.lt l;refine⟨(D.s.kx P.K (⟨λa l=>W6.rows a (.inl l),λ_ h=>h.elim,λ_ h=>h.elim,λ_ h=>h⟩) D.ap D.4 D.6 λa l=>D.t.ge l).grow W6 (λa h=>.inl h) (λa h=>h.imp id λe=>⟨?_,λl=>?_,?_⟩),H6,λa c R=>(P.new a R).elim (D.ap a c) λh=>?_,λh=>(P.new _ h).elim D.4 λh=>?_,D.5,λh=>(P.new _ h).elim D.6 λh=>?_,D.7,D.8.trans (P.K.mono λa l=>D.t.ge l)⟩
  ·rw[e];exact D.s.C.sz
  ·have:=a8 a l;omega
  ·have:=D.s.D;omega
  ·have:=a8 a c;omega
  ·have:=D.s.D;omega
  ·have:=D.s.os;omega
 rw[Js 7 Ae];refine Aw (Da (Aqy (Post:=Post) U S6 F hL an Aa ao T6 (⟨⟨An5 2,iI,iI,λdu hk=>(by cases hk)⟩,[],iI,aC _,aC _⟩)) ?_);rintro e b v7⟨rfl,f7,rfl,⟨S7,F⟩,τ7,k7,dv,T7,S⟩;simp only[A1];rw[Js 8 Ae];refine Aw (Da (Aqz (Post:=Post) S7 F) ?_);rintro e b v8⟨rfl,f8,rfl,⟨S8,F,d⟩,K8⟩;simp only[A1];rw[Js 9 Ae];refine Aw (Da (Aq0 (Post:=Post) S8 F d (T7.kf K8) S) ?_);rintro e b v9⟨rfl,f9,rfl,⟨S9,F,d,oa,m,oc,bc,bd,bf⟩,dw,T9⟩;simp only[A1];rw[Js 10 Ae];refine Aw (Da (Ao2 (Post:=Post) U c S9 F d T9 S.1 Aa) ?_);rintro e b dx⟨rfl,dy,rfl,⟨bg,F,d,bh,bj⟩,dz,bk⟩;simp only[A1];rw[Js 11 Ae];refine Aw (Da (Ao3 (Post:=Post) bg F d bk) ?_);rintro e b e3⟨rfl,e4,rfl,⟨bm,F,d,bn,bo⟩,Jc,e5,bq⟩;simp only[A1];rw[Js 12 Ae];refine Aw (Da (Ao4 (Post:=Post) bm F d (by rw[bn,bh,bc]) bd bf Aa (by rw[bo,bj]) Jc) ?_);rintro e b e6⟨rfl,e7,rfl,⟨br,F⟩,bu⟩;simp only[A1];rw[Js 13 Ae];refine Aw (Da (Ao5 (Post:=Post) U br F hA af (m:=p) Aa ah (bq.kf bu) (Adh S.1)) ?_);rintro e b e8⟨rfl,e9,rfl,⟨bw,F⟩,σ',τ',l',k',ec,ed,bx,I⟩;simp only[A1];obtain⟨i,rfl,vv,rfl⟩:=I.1.ses;have aa:=I.lo _ iI;simp only at aa;rw[Js 14 Ae];refine Aw (Da (Ao6 (Post:=Post) bw F bx) ?_);rintro e b ee⟨rfl,ef,rfl,⟨bz,F,r⟩,T,eg,c6,ai⟩;simp only[A1];rw[Js 15 Ae];refine Aw (Da (Ao7 (Post:=Post) bz F r c6) ?_);rintro e b c8⟨rfl,cc,rfl,⟨cd,F,r,a1,ax⟩,hv,cf,eh,cg,cj,ck⟩;simp only[A1];have aj:c8.ownsRow 0 5 1 (cc 24) (iK i) (A4 i):=by rw[ax];exact Dh T λg G=>cf.block g (Cm T G) (ai g G).2
 rw[Js 16 Ae];refine Aw (Da (Ao8 (Post:=Post) cd F r a1 cg) ?_);rintro e b ab⟨rfl,au,rfl,⟨cm,r,a1,cn,cp,cq,ei,ej,cr⟩,aq,ek,ad⟩;simp only[A1];have ak:ab.ownsRow 0 5 1 (au 24) (iK i) (A4 i):=by
  rw[cp];refine Dh aj λg G=>aq.block g (Cm aj G) λhf=>?_;rw[ax]at G;rcases cj g hf with h|h
  ·exact(ai g G).2 h
  ·have:=Cm T G;omega
 have al:ab.ownsRow 0 5 1 (au 26) (iK i) (A4 i):=by rw[cq];exact Dh hv λg G=>aq.block g (Cm hv G) (ck g G)
 rw[Js 17 Ae];refine Aw (Da (Ao9 (Post:=Post) cm ad I.is.pos I.is.path I.1.num I.1.ns) ?_);rintro e b eo⟨rfl,ep,rfl,⟨cu,cw,cx,cy,cz,dc,dd,de⟩,am⟩;simp only[A1];rw[Js 18 Ae];refine Aw (Da (Apa (Post:=Post) cu cw (by rw[cy,r]) (by rw[dc,a1]) (by rw[de,cn]) (by rw[dd,cr]) (by rw[cx];exact Dh ak λg G=>am.block g (Cm ak G) id) (by rw[cz];exact Dh al λg G=>am.block g (Cm al G) id) aa Aa) ?_);rintro e b er⟨rfl,et,rfl,h6,dg⟩;simp only[A1];rw[Alk];exact Dt ⟨iI,iI,h6,(ad.8.trans (am.mono λ_ h=>h.elim)).trans (dg.mono λ_ h=>h.elim)⟩
end
end Go.Proofs.YtcbilgmfdgpomaaGreatDoor
