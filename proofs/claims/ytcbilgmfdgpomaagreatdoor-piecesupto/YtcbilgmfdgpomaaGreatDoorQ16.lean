import Derived.Test.YtcbilgmfdgpomaaGreatDoorQ15
set_option linter.all false
open List renaming length → iR
open Array renaming size → iS
open Go renaming World → qg,Value → w8
open Option renaming some → ni,none → su
open Go.Proofs.Tryz renaming prog → qz
open Go.Value renaming pointer → w9
open Go.IntKind renaming i64 → yi
variable {F:iA}{K b g i j m n y:Nat}{O e u:qg}{X a p:w8}{c v w:hY}{f:iD}{kind:Int}{o r:gY}
def Kt4{p:Prop}(h:p:=by
 split
 ·simp only[cB,M4,Je];omega
 ·simp only[cB,M4,Je];omega):p:=h
namespace Go.Proofs.YtcbilgmfdgpomaaGreatDoor
variable {A B:SA}{N:Goroutine->qg->Prop}{d h:ST}{k l:List AS}
open Go Go.Conc Go.Pair Go.RowKit Go.Maps
def E6.len{p bs}{F:gY}{q t}(h:E6 p bs F q t):Pl p->∀b∈F,iR b<=1000:=by
 induction h with
 |done p=>grind
 |long _ _=>grind
 |@body p bs _ _ _ _ _ _ _ O=>
  intro Q b D;rcases bG.1 D with rfl|D
  ·rw[cU];have:=AH (bs:=bs) Q;omega
  ·exact O I9 b D
 |more _ C J _ O=>exact λQ=>O (Mk Q C J)
structure Ak where
 k:Int
 a:Int
 b:Int
 s:hU
 v:Int
 w:Bool
def Ak.val(x:Ak):w8:=.agg #[iL x.k,iL x.a,iL x.b,.string x.s,iL x.v,.bool x.w]
structure Ak.Ok(x:Ak):Prop where
 k:Sh x.k
 a:Sh x.a
 b:Sh x.b
 v:Sh x.v
 s:x.s.size<=9223372036854775807
structure Am6{gN Tabs}(A:PA gN Tabs)(b off)(x:Ak):Prop where
 ta:A.2 b
 c0:A.base.cell? (iK b off)=ni (iL x.k)
 c1:A.base.cell? ⟨b,off+1,su⟩=ni (iL x.a)
 c2:A.base.cell? ⟨b,off+2,su⟩=ni (iL x.b)
 c3:A.base.cell? ⟨b,off+3,su⟩=ni (.string x.s)
 c4:A.base.cell? ⟨b,off+4,su⟩=ni (iL x.v)
 c5:A.base.cell? ⟨b,off+5,su⟩=ni (.bool x.w)
 j0:¬A.4 (.cell (iK b off))
 j1:¬A.4 (.cell ⟨b,off+1,su⟩)
 j2:¬A.4 (.cell ⟨b,off+2,su⟩)
 j3:¬A.4 (.cell ⟨b,off+3,su⟩)
 j4:¬A.4 (.cell ⟨b,off+4,su⟩)
 j5:¬A.4 (.cell ⟨b,off+5,su⟩)
def Y2{gN Tabs}(A:PA gN Tabs)(oA:iE)(xs:List Ak):Prop:=∀i(x:Ak),xs[i]?=ni x->∃b off,oA=ni (iK b off)/\Am6 A b (off+i * 6) x/\x.Ok
section
variable {A:PA y F} {fn:FuncId} {Q:Exit->Act->qg->Prop} {a:Act} {w:qg} {g:Array Oper} {l:iG} {o:Oper}
def Ady{x}{off k:Nat}(h:Am6 A b off x)(O:g[i]?=ni o)(e:Region.wanted o (yielded g a.tmps)=true)(V:Nx qz (env Lv) fn o)(T:o.op=.load 34 (.tmp k))(E:a.eval (.tmp k)=w9 (ni (iK b off)))(F:opsV qz true D5 (Jh A) fn g l Q (a.put o.dst x.val) w):opsV qz true D5 (Jh A) fn g (i::l) Q a w:=by
 intro J q m r P s;refine EV.stop λf p v D=>?_;apply EN.ofP D;have z:=EV.show A.6 A.rows p (EV.at (F J q m r P s) f);have y:=λc:Nat=>Um (w:=A.base) p (a:=(iK b c)) h.1;generalize Cb A.2 A.base (World.at w f)=W at z y D⊢;have B:∀{c},¬A.4 (.cell (iK b c))->¬A.JX (.cell (iK b c)):=λt h=>h.elim (λh=>h) t;have n:∀M:Nat,Go.Pair.Yields qz (execOp a.eval o) (W.at M) x.val (W.at M)/\∀d∈(execOp a.eval o).events qz (W.at M) #[],Fb A.JX d:=λM=>by
  have u:(W.at M).cell? (iK b off)=ni (iL x.k):=((y _).trans h.c0);have S:(W.at M).cell? ⟨b,off+1,su⟩=ni (iL x.a):=((y _).trans h.c1);have L:(W.at M).cell? ⟨b,off+2,su⟩=ni (iL x.b):=((y _).trans h.c2);have Y:(W.at M).cell? ⟨b,off+3,su⟩=ni (.string x.s):=((y _).trans h.c3);have j:(W.at M).cell? ⟨b,off+4,su⟩=ni (iL x.v):=((y _).trans h.c4);have C:(W.at M).cell? ⟨b,off+5,su⟩=ni (.bool x.w):=((y _).trans h.c5);unfold execOp;rw[T];simp only[E];refine⟨.inl ?_,λd N=>?_⟩
  ·unfold Ak.val;go_simp
  ·simp[go_sem,u,S,L,Y,j,C]at N;rcases N with rfl|rfl|rfl|rfl|rfl|rfl
   ·exact Cl (B h.j0)
   ·exact Cl (B h.j1)
   ·exact Cl (B h.j2)
   ·exact Cl (B h.j3)
   ·exact Cl (B h.j4)
   ·exact Cl (B h.j5)
 exact EV.opEv (S:=env Lv) (fn:=fn) P O e V (A4 _ _) (λM=>(n M).1) (λM=>(n M).2) z
end
def KR(x:Ak)(kind:Int)(i:Nat):hU:=Tb kind (RH i) (E4 x.a x.b) (Qa x.s) (Ud x.v) x.w
def PU(x:Ak)(kind:Int)(i:Nat):Rq:=Abl kind.toNat (RH i) (E4 x.a x.b) (Qa x.s) (Ud x.v) x.w
structure Am7(x kind i):Prop where
 s0:0<(KR x kind i).size
 s1:(KR x kind i).size<=1000
 req:Hc Cp (KR x kind i).data.toList=ni (PU x kind i)
 kk:(PU x kind i).kind=kind.toNat
 p:(PU x kind i).kind<=6->Y4 Cp (PU x kind i).p
 d:(PU x kind i).kind<=3->(PU x kind i).d.size<=40
def PV(x){kind}(C:1<=kind)(M:kind<=7)(i):Am7 x kind i:=by
 obtain⟨k,rfl⟩:∃k:Nat,kind=k:=⟨kind.toNat,Aa⟩;have G:=ZC x.a x.b;have Q:=Tu x.a x.b;have y:=DW x.s;have g:=WA x.v;have L:0<=RH i/\RH i<=2147483647:=by unfold RH;omega
 have Y:=ZL (valid:=Cp) (k:=k) (mk:=RH i) (p:=E4 x.a x.b) (d:=Qa x.s) (v:=Ud x.v) (wt:=x.w) Aa Aa L.1 L.2 Aa G.pv Aa Aa Aa;have c:(PU x k i).kind=k:=by
  unfold PU Abl
  grind
 have V:(PU x k i).kind<=6->(PU x k i).p=E4 x.a x.b:=λf=>by
  rw[c]at f;unfold PU Abl
  grind
 have e:(PU x k i).d.size<=40:=by
  unfold PU Abl;simp only[dX];split
  ·exact y
  ·split
   ·exact bE _
   ·split
    ·exact y
    ·split
     ·exact bE _
     ·exact bE _
 have q:¬(KR x k i).data.toList.length<4:=λh=>by
  unfold Hc at Y;have P:(Tb (k:Int) (RH i) (E4 x.a x.b) (Qa x.s) (Ud x.v) x.w).data.toList.length<4:=h;rw[aJ P]at Y;cases Y
 refine⟨?_,?_,by rwa[KR,PU,dX],by rw[c,dX],λf=>by rwa[V f],λ_=>e⟩
 ·have:(KR x k i).data.toList.length=(KR x k i).size:=iP;omega
 ·have W:∀b,(wB b).size<=1:=λb=>by cases b<;>decide
  have:=W x.w;unfold KR Tb Agl;split
  ·split
   ·simp only[cB,M4,Je];omega
   ·exact Kt4
  ·exact Kt4
def Sv(Tabs:iA)(gN:Nat)(Bs:hY)(u:qg)(Is:Nat)(A:SA)(σ:ST)(l:List AS)(qs:gY)(Ft:hY):Prop:=
 ∃cu fa fc se,Hand cu Cp Tabs gN Bs u Is A σ fa fc se qs/\se.map SI.abs=l/\Ft=Hy cu A fa se
section
variable {p:hY} {j:hY} {X:hY} {Post:PA y F} {a:AS}
def Sv.C(h:Sv F y c u g A d l r v):=let⟨_,_,_,_,h,_⟩:=h;h.H.C
def Sv.lt(h:Sv F y c u g A d l r v){j}(a:v j):j<iS u.1:=by
 obtain⟨_,_,_,_,h,_,rfl⟩:=h;exact h.H.lt a
def Sv.ge(h:Sv F y c u g A d l r v){j}(a:v j):y<=j:=by
 obtain⟨_,_,_,_,h,_,rfl⟩:=h;exact h.H.ge a
def Sv.D(h:Sv F y c u g A d l r v):=let⟨_,_,_,_,h,_⟩:=h;ltOf h.H.F.1.7
def Sv.os(h:Sv F y c u g A d l r v):=let⟨_,_,_,_,h,_⟩:=h;ltOf h.os
def Sv.tr(h:Sv F y c u g A d l r v):Pm d.num d.ns/\TrN Cp d.ns:=let⟨_,_,_,_,h,_⟩:=h;⟨h.H.F.1.2,h.H.F.1.3⟩
def Sv.glob(h:Sv F y c u g A d l r v):=let⟨_,_,_,_,h,_⟩:=h;h.H.glob
def Sv.kx(h:Sv F y c u g A d l r v)(K:Ax u O X)(W:VW D5 c O)(t:∀j,v j->¬X j)(m:¬X A.D)(a:¬X g)(G:∀j,X j->y<=j):Sv F y c O g A d l r v:=by
 obtain⟨L,b,s,e,h,C,rfl⟩:=h;exact⟨L,b,s,e,⟨h.H.kx K W t m G,K.get h.os a,h.of⟩,C,iP⟩
def Sv.kf(h:Sv F y c u g A d l r v)(K:Ax u O iO):=
 h.kx K (h.C.W.ofK K (λ_ _ h=>h) λ_ h=>h.elim) (λ_ _ h=>h) (λh=>h) (λh=>h) λ_ h=>h.elim
def Sv.grow(h:Sv F y c u g A d l r v)(W:VW D5 p u)(C:∀j,c j->p j)(J:∀j,p j->c j∨(y<=j/\¬v j/\j≠A.D)):Sv F y p u g A d l r v:=by
 obtain⟨L,a,s,b,h,T,rfl⟩:=h;exact⟨L,a,s,b,⟨h.H.grow W C J,h.os,h.of⟩,T,iP⟩
def Sv.feed(U:Im Cp F)(h:Sv F y c u g A d l r v)(V:l[i]?=ni a)(E:a.ver=1)(p:a.en=false)(f:r[i]?=ni [])(k:GD l)(Q:∀a∈l,iR a.lo+2000<=9000000000)(s:PN d){x}(m:1<=kind)(M:kind<=7){ob T I}(B:PC y c u v A.D ob T I (Hf (KR x kind n)).data.toList):Bg qz true D5 (Jh Post) 10 #[iI g,iL a.k,Jd ob T (Hf (KR x kind n)).data.toList.length I] u λo O=>∃G b j,Sv F y c O g A G b r j/\Fu u O v j/\Hn (PU x kind n) i d l G b:=by
 obtain⟨L,z,H,N,h,rfl,rfl⟩:=h;have R:=PV x m M n;obtain⟨e,K,rfl⟩:∃e,N[i]?=ni e/\e.abs=a:=by
  grind
 apply Bp (Ahc (Post:=Post) U FX h K E p f k Q s R.1 R.s1 R.3 (by rw[R.4];omega) R.p R.d B);rintro o O⟨X,G,C,q,w,_,D,t,W⟩;exact⟨G,_,_,⟨X,C,q,w,D,iP,iP⟩,t.moved,W⟩
def Sv.take(H:Sv F y c u g A d l r v)(V:l[i]?=ni a)(E:keyOf qz 3 (iL a.k)=ni (Lit.int yi a.k)):Bg qz true D5 N 12 #[iI g,iL a.k] u λn O=>∃k j,n=.tuple #[k,iL 0]/\Sv F y c O g A d (l.set i { a with lo:=[] }) r j/\Fu u O v j/\O.ownsRow 0 5 1 k (iR a.lo) (A5 a.lo)/\(∀f,k.ownBlock=ni f->v f)/\∀f,k.ownBlock=ni f->¬j f:=by
 obtain⟨L,q,s,M,H,rfl,rfl⟩:=H;obtain⟨e,K,rfl⟩:∃e,M[i]?=ni e/\e.abs=a:=by
  grind
 apply Bp (Ajk H.H H.os iP K E);rintro n O⟨U,D,t,w⟩;refine⟨e.6,_,U,⟨L,q,s,_,⟨D,t.K.get H.os H.of,λZ=>(t.new _ Z).elim H.of λZ=>by have:=ltOf H.os;omega⟩,?_,iP⟩,t.moved,w,λf G=>.inr (.inl ⟨i,e,K,.inr G⟩),λf G I=>?_⟩
 ·rw[fW]
  rfl
 ·have S:=(H.H.F.ses.one i e K).1;rcases I with I|I|I
  ·obtain⟨J,o,_,Y⟩:=H.H.F.1.obj H.H.F.map I;obtain⟨cs,x⟩:=Ii S.own G;rw[x]at o;exact Y _ (aA o).symm
  ·obtain⟨h,p,Q,b⟩:=I;by_cases m:i=h
   ·subst m;rw[bI ((aD.1 K).1)]at Q;obtain rfl:=aA Q;rcases b with b|b
    ·exact S.ap f G (by rw[b];exact S.inb)
    ·cases b
   ·rw[bD m]at Q;rcases b with b|b
    ·exact S.ap f G (by rw[b];exact(H.H.F.ses.one h p Q).1.inb)
    ·exact(H.H.F.ses.apart i h e p K Q m).2 f G b
  ·obtain⟨h,p,Q,b⟩:=I;obtain⟨z,X,B⟩:=Lj t.kb h p Q;obtain⟨_,_,_,_,_,_,C⟩:=H.H.Q.one h z X;rw[B]at b;exact(C f b).2.2 ⟨i,e,K,.inr G⟩
end
structure Ma(u0 Tabs gN Bs u os ot A B)(σ τ)(l k qs rs Fs Ft):Prop where
 s:Sv Tabs gN Bs u os A σ l qs Fs
 t:Sv Tabs gN Bs u ot B τ k rs Ft
 ap:∀j,Fs j->¬Ft j
 sD:¬Ft A.D
 tD:¬Fs B.D
 so:¬Ft os
 te:¬Fs ot
 kl:Ax u0 u (λj=>gN<=j)
section
variable {p:hY} {os:Nat} {G i:ST} {V q:List AS} {t z:gY} {I j:hY}
def Ma.kf(T:Ma e F y c u os b A B d h l k r o w v)(K:Ax u O iO):Ma e F y c O os b A B d h l k r o w v:=⟨T.s.kf K,T.t.kf K,T.ap,T.4,T.5,T.6,T.7,T.kl.trans (K.mono λ_ a=>a.elim)⟩
def Ma.mvT(T:Ma e F y c u os b A B d h l k r o w v)(S:Sv F y c O b B i q z j)(M:Fu u O v j):Ma e F y c O os b A B d i l q r z w j:=
 ⟨T.s.kx M.K S.C.W T.ap T.4 T.6 λf g=>T.t.ge g,S,λf s R=>(M.new f R).elim (T.ap f s) λa=>by have:=T.s.lt s;omega,λa=>(M.new _ a).elim T.4 λa=>by have:=T.s.D;omega,T.5,λa=>(M.new _ a).elim T.6 λa=>by have:=T.s.os;omega,T.7,T.kl.trans (M.K.mono λf g=>T.t.ge g)⟩
def Ma.mvS(T:Ma e F y c u os b A B d h l k r o w v)(S:Sv F y c O os A G V t I)(M:Fu u O w I):Ma e F y c O os b A B G h V k t o I v:=
 ⟨S,T.t.kx M.K S.C.W (λj R s=>T.ap j s R) T.5 T.7 λj f=>T.s.ge f,λj s R=>(M.new j s).elim (λa=>T.ap j a R) λa=>by have:=T.t.lt R;omega,T.4,λa=>(M.new _ a).elim T.5 λa=>by have:=T.t.D;omega,T.6,λa=>(M.new _ a).elim T.7 λa=>by have:=T.t.os;omega,T.kl.trans (M.K.mono λj f=>T.s.ge f)⟩
end
def Ani{v U e E}{s L:hQ}(h:iR s<=9000000000)(P:iR L<=9000000000):GD [⟨1,v,e,s⟩,⟨2,U,E,L⟩]:=by
 refine⟨Ad,Ad,λp Q=>?_,λp Q=>?_⟩
 ·simp at Q;rcases Q with rfl|rfl
  ·exact Ahi
  ·exact Ala
 grind
noncomputable def AT(f:iD):Act:={ tmps:=#[f 0,f 1,f 2,f 3,f 4,f 5,f 6,f 7,f 8,f 9,f 10,f 11,f 12,f 13,f 14,f 15,f 16,f 17,f 18,f 19,f 20,f 21,f 22,f 23,f 24,f 25,f 26,f 27,f 28,f 29,f 30,f 31,f 32,f 33,f 34,f 35,f 36,f 37,f 38,f 39,f 40,f 41,f 42,f 43,f 44,f 45,f 46,f 47,f 48,f 49,f 50,f 51,f 52,f 53,f 54,f 55,f 56,f 57,f 58,f 59,f 60,f 61,f 62,f 63,f 64,f 65,f 66,f 67,f 68,f 69,f 70,f 71,f 72,f 73,f 74,f 75,f 76,f 77,f 78,f 79,f 80,f 81,f 82,f 83,f 84,f 85,f 86,f 87,f 88,f 89,f 90,f 91,f 92,f 93,f 94,f 95,f 96,f 97,f 98,f 99,f 100,f 101,f 102,f 103,f 104,f 105,f 106,f 107,f 108,f 109,f 110,f 111,f 112,f 113,f 114,f 115,f 116,f 117,f 118,f 119,f 120,f 121,f 122,f 123,f 124,f 125,f 126,f 127,f 128,f 129,f 130,f 131,f 132,f 133,f 134,f 135,f 136,f 137,f 138,f 139,f 140,f 141,f 142,f 143,f 144,f 145,f 146,f 147,f 148,f 149,f 150,f 151,f 152,f 153,f 154,f 155,f 156,f 157,f 158,f 159,f 160,f 161,f 162,f 163,f 164,f 165,f 166,f 167,f 168,f 169,f 170,f 171,f 172,f 173,f 174,f 175,f 176,f 177,f 178,f 179,f 180,f 181,f 182,f 183,f 184,f 185,f 186,f 187,f 188,f 189,f 190,f 191,f 192,f 193,f 194,f 195,f 196,f 197,f 198,f 199,f 200,f 201,f 202],defers:=[] }
section
variable {Y:PA y F}
end
section
variable {Y:PA y F} {os:Nat} {i:iE}
def Sv.bin(h:Sv F y c u g A d l r v)(K:Ax u O iO){cs:iB}{fz}{s:hU}{a}(D:O.1[iS u.1]?=ni (.cells cs 5 fz))(V:Jl cs)(M:s.size<=a)(o:Bytes O u.1.size 0 s.data.toList):PC y c O v A.D (ni u.1.size) 0 a s.data.toList:=by
 obtain⟨_,_,_,_,h,_,rfl⟩:=h;exact PC.new h.H K D V M o
end
section
variable {Post:PA y F} {D:Nat}
def Aa6(F:iA)(y:Nat)(c:hY)(u u':qg)(D K os:Nat):Prop:=
 ∃A Fs b,Sv F y (λj=>c j∨j=b) u' os A { σ0 with last:=1 } [⟨1,1,false,[]⟩] [[]] Fs/\A.D=D/\(∀j,Fs j->j=K∨iS u.1<=j)/\iS u.1<=os/\iS u.1<=b/\Ax u u' (· = K)/\¬Fs D
def Ajb(U:Im Cp F)(C:Cx F y D5 c u)(G:∀i,i<8->∃b e l,u.1[i]?=ni (.cells b e l))(d:Hs u D K)(L:y<=D)(v:y<=K)(N:¬c D)(W:¬c K):Bg qz true D5 (Jh Post) 7 #[iI D] u λx O=>∃a,x=.tuple #[iI a,iL 1]/\Aa6 F y c u O D K a:=by
 apply Bp (Aie (Post:=Post) U C G d L v N W ZV);rintro x O⟨a,A,X,g,o,w,p,rfl,H,m,s,n,q,T,j,z,f⟩;refine⟨a,iP,A,_,p,⟨X,g,o,w,H,z,iP⟩,m,T,n,q,j,λh=>?_⟩;have J:=H.H.F.1.notD H.H.F.map;have k:=H.H.F.1.offD H.H.F.ses;rw[m]at J k;rcases h with h|h|⟨i,r,Q,G⟩
 ·exact J h
 ·exact k h
 ·have ⟨t,_,_,_,j,_⟩:=H.H.Q.one i r Q;exact(H.H.F.offP j G).2 m.symm
end
section
variable {Y:PA y F} {os:Nat}
def Akp(x y:hU)(w):(Op.stringOp .add x y).events qz w #[]=#[]:=by
 unfold Op.stringOp;simp[go_sem]
def Ry{w:qg}{t}{X:iC}(h:w.ownsRow 0 5 1 t m X):∃C U,t=.slice C m U:=by
 rcases h.2 with⟨e,F⟩|⟨g,I,H,e,_⟩
 ·grind
 ·exact⟨_,_,e⟩
end
section
variable {Y:PA y F} {os:Nat} {x:iE} {L:Nat} {m:hQ} {i:Int}
def Ma.tree{a:Goroutine->qg->Prop}(T:Ma e F y c u os b A B d h l k r o w v)(f:0<iR d.ns)(Q:∀q∈d.ns,q.2.path=q.1)(I:h.num=d.num)(U:h.ns=d.ns):Bg qz true D5 a 13 #[iI os,iI b] u λx O=>x=.bool true/\Ax u O iO:=by
 have ⟨_,_,_,_,H,_⟩:=T.s;have ⟨_,_,_,_,D,_⟩:=T.t;exact ZZ H D f Q I U
