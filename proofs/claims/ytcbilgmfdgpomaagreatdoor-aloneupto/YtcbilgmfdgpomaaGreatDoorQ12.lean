import Derived.Test.YtcbilgmfdgpomaaGreatDoorQ11
open List renaming length → iK
open Array renaming size → iL
set_option maxHeartbeats 4000000
set_option maxRecDepth 8000
set_option linter.all false
open Go.Proofs.Tryz renaming prog → y7
open Option renaming some → lj,none → jh
open Go renaming Calls → xq,World → gk
open Bool renaming false → sd
open Go.Value renaming string → pc,bool → gd
open Go.Ending renaming returned → k8
open Orch renaming be_length → F,be → I,puts_4 → N,fld → O,txt → T,fits_4 → Q
open Go.Proofs.Tryz Orch
variable {a:gT}{b k kind t:Nat}{d n p:gU}{q:Prop}{v z:Int}{w:gk}
def It1{p:Prop}(k:q)(h:Hd q->p:=by
 intro kz;obtain⟨P,Z⟩:∃P,w.alloc (.cells #[.int .i64 f,.int .i64 O,.int .i64 g,.string V,.int .i64 I,.bool X] 34)=P:=⟨_,iI⟩;have y:P.1[w.1.size]?=some (.cells #[.int .i64 f,.int .i64 O,.int .i64 g,.string V,.int .i64 I,.bool X] 34):=by rw[←Z];exact heap_alloc_new _ _
 revert P Z y;exact kz.1):p:=h ⟨k⟩
def Wxd{p:Prop}(k:q)(h:Hd q->p:=by
 intro kz;have D:=Orch.fits_4 h (R 1 _ c iI iI);have K:=Orch.fits_t h (R 2 _ d iI iI);revert D K;exact kz.1):p:=h ⟨k⟩
def C4j{p:Prop}(h:p:=by
 obtain⟨g,c,d,e,rfl⟩:=LX (l:=Z) G4;have D:=Orch.fits_4 h (R 1 _ c iI iI);have K:=Orch.fits_t h (R 2 _ d iI iI);simp at f;exact⟨by simp[Og],by simp[Og],by simpa[Og] using f,D.2.2,K.2.1,λ_=>K.2.2,by simp[Og,N],by simp[Og],by simp[Og]⟩):p:=h
namespace Go.Proofs.YtcbilgmfdgpomaaGreatDoor
variable {A B r:List (gU×Nd)}{x:Nd}
open Go.RowKit
def wB(b:Bool):gU:=if b then⟨#[1]⟩ else⟨#[0]⟩
def Sg(kind mk:Int)(p d:gU)(v:Int)(wt:Bool):gU:=if kind<=3 then Agi kind mk p d v else if kind<=6 then b4 kind++b4 mk++E9 p++wB wt else b4 kind++b4 mk
def Agj(w f O g I)(V:gU)(X kind N)(ha:Ph O)(D:Ph g)(hv:Ph I)(hm:Ph N)(G:V.size<=9223372036854775807)(C:1<=kind)(p:kind<=7):xq y7 17 #[.agg #[iE f,iE O,iE g,pc V,iE I,gd X],iE kind,iE N] w λe B=>e=k8 (pc (E9 (Sg kind N (E3 O g) (Py V) (Tm I) X)))/\iF w B:=by
 refine It1 λP Z y=>?_;have K:=ltOf y;have HW:Hid (iF w P):=by rw[←Z];exact Bf _ _
 have c:∀{W B},iF P W->iF W B->iF P B:=λC J=>C.trans (J.mono C.size);have M:Hid (∀W,iF P W->W.cell? (iD w.1.size 1)=lj (iE O)/\W.cell? (iD w.1.size 2)=lj (iE g)/\W.cell? (iD w.1.size 3)=lj (pc V)/\W.cell? (iD w.1.size 4)=lj (iE I)/\W.cell? (iD w.1.size 5)=lj (gd X)):=λW D=>by
  have:=(D.block _ K).trans y;exact⟨cellOf (j:=1) this iI,cellOf (j:=2) this iI,cellOf (j:=3) this iI,cellOf (j:=4) this iI,cellOf (j:=5) this iI⟩
 have q:Hid (∀W n,Ph n->iF P W->xq y7 16 #[iE n] W λe B=>e=k8 (pc (b4 n))/\Hid (iF P B)):=λW n z D=>(Zq W n z).mono λe B⟨C,J⟩=>⟨C,c D J⟩;have r:Hid (∀W a b,Ph a->Ph b->iF P W->xq y7 31 #[iE a,iE b] W λe B=>e=k8 (pc (E3 a b))/\Hid (iF P B)):=λW a b C J D=>(YS W a b C J).mono λe B⟨C,J⟩=>⟨C,c D J⟩;have t:Hid (∀W s,s.size<=1000000->iF P W->xq y7 30 #[pc s] W λe B=>e=k8 (pc (E9 s))/\Hid (iF P B)):=λW s G D=>(DS W s G).mono λe B⟨C,J⟩=>⟨C,c D J⟩;have v:Hid (∀W s,s.size<=1000000->iF P W->xq y7 15 #[pc s] W λe B=>e=k8 (pc (E9 s))/\Hid (iF P B)):=λW s G D=>(DX W s G).mono λe B⟨C,J⟩=>⟨C,c D J⟩;refine Bd8 λA=>?_;have d:Hid (∀W s,s.size<=9223372036854775807->xq y7 32 #[pc s,iE 40] W λe B=>e=k8 (pc (Py s))/\B=W):=λW s G=>XD W s G;have j:Hid (iF P P):=Below.refl _ _;have zp:=Td O g;have zd:=DL V;have Y:=I8 (E3 O g);have m:=I8 (Py V);have x:=Lh;obtain⟨E,F⟩:=VX I;have L:Ph (Tm I):=⟨Aa,Aa⟩;have ik:Ph kind:=⟨Aa,Aa⟩;have p1:(E3 O g).size<=1000000:=Aa;have p2:(Py V).size<=1000000:=Aa;have o:(Sg kind N (E3 O g) (Py V) (Tm I) X).size<=1000000:=by
  have T:(wB X).size=1:=by cases X<;>rfl
  unfold Sg Agi
  repeat' split
  all_goals simp only[bT,x,Y,m,T];omega
 obtain⟨Q,R,U,u,l⟩:=M.out _ j.out;have hk:kind=1∨kind=2∨kind=3∨kind=4∨kind=5∨kind=6∨kind=7:=Aa;clear E F y c C p;have h:0<I/\Tm I=M5 I 3∨¬0<I/\Tm I = -1:=if k:0<I then .inl ⟨k,aL k⟩ else .inr ⟨k,aM k⟩
 rcases h with⟨a1,h⟩|⟨a1,h⟩<;>rw[h]at L o⊢<;>rcases hk with rfl|rfl|rfl|rfl|rfl|rfl|rfl<;>cases X
 all_goals
  simp only[Sg,Agi,wB,Int.reduceLE,Int.reduceEq,bQ,bR,aR,reduceIte]at o⊢;go_enter func17,ntmps17;go_wp2_with (first
   |(go_at_call 16;apply(q.out _ _ HV j.out).mono;clear j;rintro S H⟨rfl,j⟩;obtain⟨Q,R,U,u,l⟩:=M.out _ j.out)
   |(go_at_call 31;apply(r.out _ _ _ HV HV j.out).mono;clear j;rintro S H⟨rfl,j⟩;obtain⟨Q,R,U,u,l⟩:=M.out _ j.out)
   |(go_at_call 30;apply(t.out _ _ HV j.out).mono;clear j;rintro S H⟨rfl,j⟩;obtain⟨Q,R,U,u,l⟩:=M.out _ j.out)
   |(go_at_call 15;apply(v.out _ _ HV j.out).mono;clear j;rintro S H⟨rfl,j⟩)
   |(go_at_call 11;apply(A.out _ _ _ HV Ae Ae).mono;rintro S H⟨rfl,rfl⟩)
   |(go_at_call 32;apply(d.out _ _ HV).mono;rintro S H⟨rfl,rfl⟩))
 all_goals first|(exfalso;rename_i i;simp only[bT,x,Y,m]at i;omega)|skip
 all_goals go_ret
 all_goals exact⟨iI,HW.out.trans (j.out.mono Aa)⟩
def AO(w f O g I)(V:gU)(X i)(b:Nat)(z n)(c:b=9/\z=1/\n=7∨b=14/\z=4/\n=4)(E:Ph f)(d:Ph O)(D:Ph g)(h:Ph I)(s:V.size<=9223372036854775807)(j:0<=i)(m:i<=9223372036854775807):xq y7 b #[.agg #[iE f,iE O,iE g,pc V,iE I,gd X],iE i] w λe W=>e=k8 (pc (E9 (Sg (z+M5 f n) (QZ i) (E3 O g) (Py V) (Tm I) X)))/\iF w W:=by
 refine It1 λP Z y=>?_;have HW:Hid (iF w P):=by rw[←Z];exact Bf _ _
 have K:=ltOf y;have L:=hide (eL (ltOf y));have ⟨c0,Q,R,U,u,l⟩:=N4 y iI;obtain⟨p,F⟩:=Ql f (n:=n) Aa;have C:Hid (∀a,xq y7 11 #[iE f,iE n] a λe W=>e=k8 (iE (M5 f n))/\W=a):=λa=>Uw a f n E Aa Aa;have J:Hid (∀a,xq y7 25 #[iE i] a λe W=>e=k8 (iE (QZ i))/\W=a):=λa=>Adj a i j m;generalize M5 f n=q at *;have k:Hid (∀a,xq y7 17 #[.agg #[iE f,iE O,iE g,pc V,iE I,gd X],iE (z+q),iE (QZ i)] a λe W=>e=k8 (pc (E9 (Sg (z+q) (QZ i) (E3 O g) (Py V) (Tm I) X)))/\iF a W):=λa=>Agj a f O g I V X (z+q) (QZ i) d D h (by unfold QZ Ph;omega) s Aa Aa;have r:IntKind.i64.wrap (z+q)=z+q:=by simp[IntKind.wrap,IntKind.bits,IntKind.signed];omega
 generalize QZ i=N at *;generalize Sg (z+q) N (E3 O g) (Py V) (Tm I) X=t at *;clear y;rcases c with⟨rfl,rfl,rfl⟩|⟨rfl,rfl,rfl⟩;go_enter func9,ntmps9
 rotate_left
 go_enter func14,ntmps14
 all_goals go_wp2_with fail
 all_goals go_region_held3 (λW=>W.cell? (iC w.1.size)=lj (iE f)/\W.cell? (iD w.1.size 1)=lj (iE O)/\W.cell? (iD w.1.size 2)=lj (iE g)/\W.cell? (iD w.1.size 3)=lj (pc V)/\W.cell? (iD w.1.size 4)=lj (iE I)/\W.cell? (iD w.1.size 5)=lj (gd X)) (first|(go_keep;done)|exact⟨c0,Q,R,U,u,l⟩|exact⟨a7,a8,aa,v,x,o⟩) (first|(go_at_call 11;apply(C.out _).mono;rintro S H⟨rfl,rfl⟩)|(go_at_call 25;apply(J.out _).mono;rintro S H⟨rfl,rfl⟩)|(go_at_call 17;apply(k.out _).mono;rintro S H⟨rfl,M⟩;have HB:=hide M;have a7:=(M.cell (p:=(iC w.1.size)) K).trans c0;have a8:=(M.cell (p:=(iD w.1.size 1)) K).trans Q;have aa:=(M.cell (p:=(iD w.1.size 2)) K).trans R;have v:=(M.cell (p:=(iD w.1.size 3)) K).trans U;have x:=(M.cell (p:=(iD w.1.size 4)) K).trans u;have o:=(M.cell (p:=(iD w.1.size 5)) K).trans l;clear M))
 all_goals go_wp2_with fail
 all_goals go_ret
 all_goals first|exact⟨iI,HW.out.trans (HB.out.mono L.out)⟩|exact⟨iI,HW.out.drew.trans (HB.out.mono L.out)⟩|exact⟨iI,HW.out.drew.drew.trans (HB.out.mono L.out)⟩
open Go
def rqS(k:Nat):gU:=
 if k=1 then⟨#[40,52,52,116,98,41]⟩ else if k=2 then⟨#[40,52,52,116,52,41]⟩ else if k=3 then⟨#[40,52,52,116,98,52,41]⟩ else if k=7 then⟨#[40,52,52,41]⟩ else⟨#[40,52,52,116,63,41]⟩
def kinds(C:1<=k)(M:k<=7):k=1∨k=2∨k=3∨k=4∨k=5∨k=6∨k=7:=Aa
def ZM(C:1<=k)(M:k<=7):parse (rqS k).data.toList=lj (.mk lr (Jy k)):=by
 rcases kinds C M with rfl|rfl|rfl|rfl|rfl|rfl|rfl<;>rfl
def Ae6(C:1<=k)(M:k<=7):2<=(Jy k).length/\(k≠7->4<=(Jy k).length):=by
 rcases kinds C M with rfl|rfl|rfl|rfl|rfl|rfl|rfl<;>simp[Jy]
section
variable {h:gS} {z:gX} {y:Nat}
def Ah5(G:X1 z y w){k}(C:1<=k)(M:k<=7):w.cell? ⟨0,k * 3+1,jh⟩=lj (pc (rqS k)):=by
 rcases kinds C M with rfl|rfl|rfl|rfl|rfl|rfl|rfl
 ·exact G.4
 ·exact G.5
 ·exact G.6
 ·exact G.8
 ·exact G.7
 ·exact G.9
 ·exact G.10
def FD{v}(b:Vf h (.mk lr (Jy k)) a=lj v):iK a<=1000/\iK v.l=(Jy k).length/\∀(j:Nat)t(x:Orch.V),(Jy k)[j]?=lj t->v.l[j]?=lj x->fits h t x=true:=by
 unfold Vf at b;split at b
 ·cases b
 ·split at b
  ·rename_i U f;have ⟨_,_,T,q⟩:=take_rec h Aa f
   grind
  ·cases b
def EB{l:List Orch.V}(h:iK l=2):∃a b,l = [a,b]:=by
 match l,h with
 |[a,b],_=>exact⟨a,b,iI⟩
def LX{l:List Orch.V}(h:iK l=4):∃a b c d,l = [a,b,c,d]:=by
 match l,h with
 |[a,b,c,d],_=>grind
def An9{l:List Orch.V}(h:iK l=5):∃a b c d e,l = [a,b,c,d,e]:=by
 match l,h with
 |[a,b,c,d,e],_=>grind
def SD(U:It h z)(w)(N:X1 z y w)(af:8<=y)(b:gT)(m:iK b<=1000)(T)(u:J5 w T b):xq y7 67 #[iE 1,T] w λG l=>G=k8 (Ae5 (Il h b))/\iF w l:=by
 have R:=u;have F:0<iL w.1:=by have:=N.size;omega
 have V:=N.tabs;have A:=N.table;unfold Il;by_cases h4:iK b<4
 ·rw[aL h4];obtain⟨o,off,X,rfl,C,Y,D⟩:=u;exact Ae7 w _ _ _ 0 λW k=>AI W _ _ _ h4
 rw[aM h4];have S:4<=iK b:=Aa;by_cases hk:1<=sgn (b.take 4)/\sgn (b.take 4)<=7
 case neg=>
  rw[aM hk];obtain⟨o,off,X,rfl,C,Y,D⟩:=u;exact Ae7 w _ _ _ _ λW k=>IP W _ _ S m (R.below k (aC _)) _ iI hk
 case pos=>
 rw[aL hk];obtain⟨kind,v⟩:∃kind:Nat,sgn (b.take 4)=kind:=⟨(sgn (b.take 4)).toNat,Aa⟩;have Z:1<=kind:=Aa;have h7:kind<=7:=Aa;rw[v,dU];have s:=Ah5 N Z h7;have Q:=ZM Z h7;have a7:∀W,iF w W->xq y7 117 #[T] W λG l=>G=k8 (.tuple #[iE kind,gd true])/\l=W:=λW k=>Uz W _ _ S m (R.below k (aC _)) kind v Aa Aa;cases E:Vf h (.mk lr (Jy kind)) b with
 |none=>
  obtain⟨o,off,X,rfl,C,Y,D⟩:=u;exact Als w kind Aa _ _ _ (rqS kind) s F a7 λW k=>XL U W (U.kept (U.size V) k V) (A.below k A.pos) _ _ Q _ _ m (R.below k (aC _)) E
 |some ad=>
 obtain⟨_,O,a1⟩:=FD E;obtain⟨nn,H,a6⟩:=ad;simp only[Orch.V.l]at O a1⊢;have HF:∀W,iF w W->∀i K,a6=i::K->xq y7 118 #[pc (rqS kind),T] W λG l=>∃g d,G=k8 (.tuple #[.slice (lj (iC g)) (iK K+1) d,gd true])/\iK K+1<=d/\(∀j x,(i::K)[j]?=lj x->l.cell? ⟨g,j * 3,jh⟩=lj (iE x.n)/\l.cell? ⟨g,j * 3+1,jh⟩=lj (pc x.s))/\g<iL l.1/\iF W l:=λW k i K hv=>by
  apply(Sl U W (U.kept (U.size V) k V) (A.below k A.pos) _ _ Q _ _ m (R.below k (aC _)) _ E).mono;rintro G l⟨⟨lv,rfl,ab⟩,ae⟩;rw[show(Orch.V.mk nn H a6).l=i::K from hv]at ab;obtain⟨g,d,rfl,M,hg,L⟩:=BN ab;exact⟨g,d,iI,M,L,hg.2,ae⟩
 obtain⟨i,t,e,rfl⟩:∃i t e,a6=i::t::e:=by
  have:=(Ae6 Z h7).1
  match a6,O with
  |a::o::r,_=>exact⟨a,o,r,iI⟩
  |[a],c=>simp at c;omega
  |[],c=>simp at c;omega
 simp only[List.getD_cons_succ,List.getD_cons_zero];by_cases B:t.n<0
 ·rw[aL B];obtain⟨o,off,X,rfl,C,Y,D⟩:=u;refine Alu w kind Aa _ _ _ (rqS kind) (iK e+2) Aa t.n B s F a7 λW k=>(HF W k i (t::e) iI).mono ?_;rintro G l⟨g,d,rfl,M,L,hg,a8⟩;exact⟨g,d,iI,(L 1 _ iI).1,a8⟩
 rw[aM B];have J:0<=t.n:=Aa;rcases kinds Z h7 with rfl|rfl|rfl|rfl|rfl|rfl|rfl
 ·obtain⟨p,I,rfl⟩:=EB (l:=e) G4;exact Wo U w V A 1 Aa Aa _ s F _ Q b m S v nn H i t J [p,I] Ad E T u p.s I.s iG 0 sd λg d P W M f n=>KZ W P 0 g 6 d t.n p.s I.s n (M 0 _ iI).2 (M 1 _ iI).2 f
 ·obtain⟨p,x,rfl⟩:=EB (l:=e) G4;exact Wo U w V A 2 Aa Aa _ s F _ Q b m S v nn H i t J [p,x] Ad E T u p.s iG iG x.n sd λg d P W M f n=>LD W P 0 g 6 d t.n p.s x.n n (M 0 _ iI).2 (M 1 _ iI).1 f
 ·obtain⟨p,I,x,rfl⟩:∃a o d,e = [a,o,d]:=by
   match e,O with
   |[a,o,d],_=>exact⟨a,o,d,iI⟩
   |[],c=>simp[Jy]at c
   |[_],c=>simp[Jy]at c
   |[_,_],c=>simp[Jy]at c
   |_::_::_::_::_,c=>simp[Jy]at c
  exact Wo U w V A 3 Aa Aa _ s F _ Q b m S v nn H i t J [p,I,x] Ad E T u p.s I.s iG x.n sd λg d P W M f n=>Ack W P 0 g 6 d t.n p.s I.s x.n n (M 0 _ iI).2 (M 1 _ iI).2 (M 2 _ iI).1 f
 ·obtain⟨p,q,rfl⟩:=EB (l:=e) G4;have aa:=Orch.fits_q h (a1 3 _ q iI iI);refine Wo U w V A 4 Aa Aa _ s F _ Q b m S v nn H i t J [p,q] Ad E T u p.s iG iG 0 (q.n==1) λg d P W M f n=>?_;rcases aa.2 with c|c
  ·rw[c];exact Ace W P 0 g 6 d t.n p.s 4 false 0 ⟨.inl iI,.inl ⟨iI,iI⟩⟩ n (M 0 _ iI).2 HI f
  ·rw[c];exact Ace W P 0 g 6 d t.n p.s 4 true 1 ⟨.inl iI,.inr ⟨iI,iI⟩⟩ n (M 0 _ iI).2 HI f
 ·obtain⟨p,q,rfl⟩:=EB (l:=e) G4;have aa:=Orch.fits_q h (a1 3 _ q iI iI);refine Wo U w V A 5 Aa Aa _ s F _ Q b m S v nn H i t J [p,q] Ad E T u p.s iG iG 0 (q.n==1) λg d P W M f n=>?_;rcases aa.2 with c|c
  ·rw[c];exact Ace W P 0 g 6 d t.n p.s 5 false 0 ⟨.inr (.inl iI),.inl ⟨iI,iI⟩⟩ n (M 0 _ iI).2 HI f
  ·rw[c];exact Ace W P 0 g 6 d t.n p.s 5 true 1 ⟨.inr (.inl iI),.inr ⟨iI,iI⟩⟩ n (M 0 _ iI).2 HI f
 ·obtain⟨p,q,rfl⟩:=EB (l:=e) G4;refine Wo U w V A 6 Aa Aa _ s F _ Q b m S v nn H i t J [p,q] Ad E T u p.s iG iG 0 (q.n==1) λg d P W M f n=>?_;rcases(Orch.fits_q h (a1 3 _ q rfl rfl)).2 with c|c
  ·rw[c];exact Ace W P 0 g 6 d t.n p.s 6 false 0 ⟨.inr (.inr iI),.inl ⟨iI,iI⟩⟩ n (M 0 _ iI).2 HI f
  ·rw[c];exact Ace W P 0 g 6 d t.n p.s 6 true 1 ⟨.inr (.inr iI),.inr ⟨iI,iI⟩⟩ n (M 0 _ iI).2 HI f
 ·obtain rfl:e = []:=by
   have:iK e=0:=G4;exact bN.1 this
  obtain⟨o,off,X,rfl,C,Y,D⟩:=u;refine Aje w 7 Aa _ _ _ 2 Aa (rqS 7) t.n B iG iG iG 0 sd (λ_ _ _=>True) s F a7 (λW k=>(HF W k i [t] iI).mono ?_) λ_ _ _ sv _ _ _ W _ n=>XM W _ sv t.n n;rintro G l⟨g,d,rfl,M,L,hg,a8⟩;exact⟨g,d,iI,M,(L 1 _ iI).1,trivial,hg,a8⟩
structure Am4(h:gS)(r:Rq):Prop where
 k1:1<=r.kind
 k7:r.kind<=7
 m0:0<=r.m
 m1:r.m<=2147483647
 p:r.p.size<=200
 pv:r.kind≠7->h r.p=true
 d:r.d.size<=200
 v0:-2147483648<=r.ver
 v1:r.ver<=2147483647
def Aev{b r}(a:Il h b=lj r):Am4 h r:=by
 unfold Il at a;split at a
 ·cases a
 split at a
 rotate_left
 ·cases a
 rename_i q E;obtain⟨kind,v⟩:∃kind:Nat,sgn (b.take 4)=kind:=⟨(sgn (b.take 4)).toNat,Aa⟩;rw[v]at a E;rw[dU]at a;have M:kind<=7:=Aa;split at a
 ·cases a
 rename_i j y;obtain⟨_,O,R⟩:=FD y;split at a
 ·cases a
 rename_i f;obtain rfl:=aB a;obtain⟨nn,H,Z⟩:=j;simp only[Orch.V.l]at O R f⊢;have N:(iG:gU).size=0:=iI;rcases kinds Aa M with rfl|rfl|rfl|rfl|rfl|rfl|rfl
 ·obtain⟨g,c,d,e,rfl⟩:=LX (l:=Z) G4;refine Wxd λD K=>?_;have i:=fits_b h (R 3 _ e iI iI);simp at f;exact⟨by simp[Og],by simp[Og],by simpa[Og] using f,D.2.2,K.2.1,λ_=>K.2.2,i.2,by simp[Og],by simp[Og]⟩
 ·obtain⟨g,c,d,e,rfl⟩:=LX (l:=Z) G4;refine Wxd λD K=>?_;have i:=Q h (R 3 _ e iI iI);simp at f;exact⟨by simp[Og],by simp[Og],by simpa[Og] using f,D.2.2,K.2.1,λ_=>K.2.2,by simp[Og,N],i.2.1,i.2.2⟩
 ·obtain⟨g,c,d,e,k,rfl⟩:=An9 (l:=Z) G4;refine Wxd λD K=>?_;have J:=Q h (R 4 _ k iI iI);simp at f;exact⟨by simp[Og],by simp[Og],by simpa[Og] using f,D.2.2,K.2.1,λ_=>K.2.2,(fits_b h (R 3 _ e iI iI)).2,J.2.1,J.2.2⟩
 ·exact C4j
 ·exact C4j
 ·exact C4j
 ·obtain⟨g,c,rfl⟩:=EB (l:=Z) G4;simp at f;exact⟨by simp[Og],by simp[Og],by simpa[Og] using f,(Q h (R 1 _ c iI iI)).2.2,by simp[Og,N],λa=>absurd iI a,by simp[Og,N],by simp[Og],by simp[Og]⟩
end
def Abf(kind:Nat)(mk:Int)(p d:gU)(v:Int)(wt:Bool):Rq:=
 if kind=1 then⟨1,mk,p,d,0,sd⟩ else if kind=2 then⟨2,mk,p,iG,v,sd⟩ else if kind=3 then⟨3,mk,p,d,v,sd⟩ else if kind=7 then⟨7,mk,iG,iG,0,sd⟩ else⟨kind,mk,p,iG,0,wt⟩
def Oc{b r v}(C:1<=k)(M:k<=7)(D:a=I k 4++r)(y:Vf b (.mk lr (Jy k)) a=lj v)(L:¬(v.l.getD 1 (Orch.num 0)).n<0):Il b a=lj (Og k v.l):=by
 have R:a.take 4=I k 4:=by rw[D,cY (by rw[F];exact aC _),bO (by rw[F];exact aC _)]
 have s:sgn (I k 4)=k:=by
  rcases kinds C M with rfl|rfl|rfl|rfl|rfl|rfl|rfl<;>decide
 unfold Il;rw[aM (by rw[D,aK,F];omega),R,s,aL ⟨Aa,Aa⟩,dU,y];simp only;rw[aM L]
def Ip(a b:gU):(a++b).data.toList=a.data.toList++b.data.toList:=Ad
def Mi(s):(E9 s).data.toList=O s:=by
 unfold E9;rw[Ip,Ie]
def Aip(b):(wB b).data.toList=I (if b then 1 else 0) 1:=by cases b<;>decide
section
variable {valid:gS} {mk:Int} {wt:Bool}
theorem ZC{k:Nat}(C:1<=k)(M:k<=7)(o:0<=mk)(i:mk<=2147483647)(Q:p.size<=200)(q:valid p=true)(y:d.size<=200)(S:-2147483648<=v)(K:v<=2147483647) :
  Il valid (Sg k mk p d v wt).data.toList=some (Abf k mk p d v wt):=by
 have G:-2147483648<=mk:=Aa
 have look:∀k:Nat,1<=k->k<=7->Orch.put valid 9 [] (.mk Orch.lr [Orch.t4,Orch.t4,Orch.tt,Orch.tq]) (.mk 0 ⟨#[]⟩ [Orch.num k,Orch.num mk,Orch.txt p,Orch.num (if wt then 1 else 0)])=some (Orch.be k 4++(Orch.be mk 4++(Orch.fld p++(Orch.be (if wt then 1 else 0) 1 ++ [])))):=fun k C M=>by
  have H:p.data.toList.length=p.size:=rfl
  have:=Orch.puts_rec valid (k:=8) (l:=Orch.lr) rfl (.cons (Orch.puts_4 valid (n:=(k:Int)) Aa Aa) (.cons (Orch.puts_4 valid G i) (.cons (Orch.puts_t valid Q q) (.cons (Orch.puts_q valid (n:=if wt then 1 else 0) (by split <;> omega) (by split <;> omega)) .nil)))) [] (by simp only [List.length_append,Orch.be_length,H,List.length_nil];omega)
  simpa using this
 have Y:∀k:Nat,k=4∨k=5∨k=6->Il valid (b4 k++b4 mk++E9 p++wB wt).data.toList=some (Og k [Orch.num k,Orch.num mk,Orch.txt p,Orch.num (if wt then 1 else 0)]):=fun k E=>by
  have e:(b4 k++b4 mk++E9 p++wB wt).data.toList=Orch.be k 4++(Orch.be mk 4++(Orch.fld p++(Orch.be (if wt then 1 else 0) 1 ++ []))):=by
   rw [Ip,Ip,Ip,Ie,Ie,Mi,Aip]
   simp
  rw [e]
  have R:Jy k = [Orch.t4,Orch.t4,Orch.tt,Orch.tq]:=by rcases E with rfl|rfl|rfl <;> rfl
  exact Oc (v:=.mk 0 ⟨#[]⟩ [Orch.num k,Orch.num mk,Orch.txt p,Orch.num (if wt then 1 else 0)]) Aa Aa rfl (by rw [R];exact Of valid Orch.parse_exists (look k Aa Aa)) Af4
 rcases kinds C M with rfl|rfl|rfl|rfl|rfl|rfl|rfl
 ·have e:(Sg (1:Nat) mk p d v wt).data.toList=Orch.be (1:Nat) 4++(Orch.be mk 4++(Orch.fld p++(Orch.fld d ++ []))):=by
   show(b4 1++b4 mk++E9 p++E9 d).data.toList=_
   rw [Ip,Ip,Ip,Ie,Ie,Mi,Mi]
   simp
  rw [e]
  exact Oc (v:=.mk 0 ⟨#[]⟩ [Orch.num 1,Orch.num mk,Orch.txt p,Orch.txt d]) Ae Ae rfl (Of valid Orch.parse_create (Orch.put_create valid G i Q q y)) Af4
 ·have e:(Sg (2:Nat) mk p d v wt).data.toList=Orch.be (2:Nat) 4++(Orch.be mk 4++(Orch.fld p++(Orch.be v 4 ++ []))):=by
   show(b4 2++b4 mk++E9 p++b4 v).data.toList=_
   rw [Ip,Ip,Ip,Ie,Ie,Mi,Ie]
   simp
  rw [e]
  exact Oc (v:=.mk 0 ⟨#[]⟩ [Orch.num 2,Orch.num mk,Orch.txt p,Orch.num v]) Ae Ae rfl (Of valid Orch.parse_delete (Orch.put_delete valid G i Q q S K)) Af4
 ·have e:(Sg (3:Nat) mk p d v wt).data.toList=Orch.be (3:Nat) 4++(Orch.be mk 4++(Orch.fld p++(Orch.fld d++(Orch.be v 4 ++ [])))):=by
   show(b4 3++b4 mk++E9 p++E9 d++b4 v).data.toList=_
   rw [Ip,Ip,Ip,Ip,Ie,Ie,Mi,Mi,Ie]
   simp
  rw [e]
  exact Oc (v:=.mk 0 ⟨#[]⟩ [Orch.num 3,Orch.num mk,Orch.txt p,Orch.txt d,Orch.num v]) Ae Ae rfl (Of valid Orch.parse_set (Orch.put_set valid G i Q q y S K)) Af4
 ·refine(Y 4 Ae).trans ?_
  cases wt <;> rfl
 ·refine(Y 5 Ae).trans ?_
  cases wt <;> rfl
 ·refine(Y 6 Ae).trans ?_
  cases wt <;> rfl
 ·have e:(Sg (7:Nat) mk p d v wt).data.toList=Orch.be (7:Nat) 4++(Orch.be mk 4 ++ []):=by
   show(b4 7++b4 mk).data.toList=_
   rw [Ip,Ie,Ie]
   simp
  rw [e]
  have f:Orch.put valid 9 [] (.mk Orch.lr [Orch.t4,Orch.t4]) (.mk 0 ⟨#[]⟩ [Orch.num 7,Orch.num mk])=some (Orch.be 7 4++(Orch.be mk 4 ++ [])):=by
   have:=Orch.puts_rec valid (k:=8) (l:=Orch.lr) rfl (.cons (Orch.puts_4 valid (n:=7) Aa Aa) (.cons (Orch.puts_4 valid G i) .nil)) [] (by simp only [List.length_append,Orch.be_length,List.length_nil];omega)
   simpa using this
  exact Oc (v:=.mk 0 ⟨#[]⟩ [Orch.num 7,Orch.num mk]) Ae Ae rfl (Of valid Orch.parse_ping f) Af4
end
open Go.Conc Go.Pair
def Okd(kind:Nat)(p:gU)(ns:List (gU×Nd)):Prop:=match kind with
 |1=>(∀q∈ns,q.1≠p)/\iK ns<32
 |_=>∃x,(p,x)∈ns
def P0(kind:Nat)(ns:List (gU×Nd))(p d n:gU)(z:Int):List (gU×Nd):=
 if kind=1 then ns++[(p,⟨p,d,n,z,z,0⟩)]
 else if kind=2 then ns.filter λq=>decide (q.1≠p)
 else ns.map λq=>if q.1=p then(p,{ q.2 with data:=d,changed:=z,version:=Ny q.2.version }) else q
def Ck.nodup{num}(h:Ck w b t num r):(r.map Prod.fst).Nodup:=by
 have C:=h.map.nodup
 grind
def do2(h:((A++(p,x)::B).map Prod.fst).Nodup):P0 2 (A++(p,x)::B) p d n z=A++B:=by
 rw[cP,bC,eZ]at h;obtain⟨C,J,T⟩:=h;rw[dQ]at J;have y:A.filter (λq=>decide (q.1≠p))=A:=fJ.2 λq f=>by
  simpa using λe=>T q.1 (cX f) p cJ e
 have k:B.filter (λq=>decide (q.1≠p))=B:=fJ.2 λq f=>by
  have:q.1≠p:=λe=>J.1 SE;simpa using this
 unfold P0;rw[aM Ae,aL iI,fU,List.filter_cons,y,k];simp
def do3(h:((A++(p,x)::B).map Prod.fst).Nodup):P0 3 (A++(p,x)::B) p d n z=A++(p,{ x with data:=d,changed:=z,version:=Ny x.version })::B:=by
 rw[cP,bC,eZ]at h;obtain⟨C,J,T⟩:=h;rw[dQ]at J;have y:A.map (λq=>if q.1=p then(p,{ q.2 with data:=d,changed:=z,version:=Ny q.2.version }) else q)=A:=by
  conv=>rhs;rw[←fG A]
  exact dF λq f=>aM λe=>T q.1 (cX f) p cJ e
 have k:B.map (λq=>if q.1=p then(p,{ q.2 with data:=d,changed:=z,version:=Ny q.2.version }) else q)=B:=by
  conv=>rhs;rw[←fG B]
  exact dF λq f=>aM λe=>J.1 SE
 unfold P0;rw[aM Ae,aM Ae,cP,bC,y,k,aL iI]
def Anr{num}(h:Ck w b t num r)(f:t≠b)(G:Rr num r)(C:num+1<9223372036854775807)(kind)(E:kind=1∨kind=2∨kind=3)(p d n v)(Q:p.size<=1000)(l:Okd kind p r):xq y7 93 #[iB b,M3 kind p d n v] w λe a=>e=k8 (.tuple #[])/\Ck a b t (num+1) (P0 kind r p d n (num+1))/\Ax w a (λk=>k=b∨k=t):=by
 have F:=G.num0;rcases E with rfl|rfl|rfl
 ·exact doC h f F Aa p d n v Q l.1
 ·obtain⟨x,Z⟩:=l;obtain⟨A,B,H⟩:=eV Z;have z:=h.nodup;have:=doD h f F Aa p d n v Q H;rw[H]at z
  rwa[H,do2 z]
 ·obtain⟨x,Z⟩:=l;obtain⟨A,B,H⟩:=eV Z;obtain⟨J,u,c,g,L,N⟩:=G.node _ Z;have z:=h.nodup;have:=doS h f F Aa p d n v Q H L N;rw[H]at z
  rwa[H,do3 z]
def Aim(C:0<=v)(J:v<=2147483647):0<=Ny v/\Ny v<=2147483647:=by unfold Ny;split<;>omega
def Rr.done{num}(G:Rr num r)(C:num+1<9223372036854775807){kind}(E:kind=1∨kind=2∨kind=3){p d n}(Q:p.size<=1000)(O:Eb p=true)(l:Okd kind p r):Rr (num+1) (P0 kind r p d n (num+1)):=by
 have F:=G.num0;have K:=G.len;have j:∀q∈r,0<=q.2.made/\q.2.made<=num+1/\0<=q.2.changed/\q.2.changed<=num+1/\0<=q.2.version/\q.2.version<=2147483647:=λq g=>by
  obtain⟨a,b,c,d,e,f⟩:=G.node q g;omega
 rcases E with rfl|rfl|rfl
 ·have L:∀q∈P0 1 r p d n (num+1),q∈r∨q=(p,⟨p,d,n,num+1,num+1,0⟩):=λq g=>by
   simp[P0]at g;exact g
  refine⟨by have:=l.2;simp[P0];omega,Aa,C,λq g=>?_,λq g=>?_⟩
  ·rcases L q g with h|rfl
   ·exact G.size q h
   ·exact⟨Q,O⟩
  grind
 ·have L:∀q∈P0 2 r p d n (num+1),q∈r:=λq g=>by simp[P0]at g;exact g.1
  exact⟨aE (by simpa[P0] using List.length_filter_le _ _) K,Aa,C,λq g=>G.size q (L q g),λq g=>j q (L q g)⟩
 ·have L:∀q∈P0 3 r p d n (num+1),q∈r∨∃y∈r,y.1=p/\q=(p,{ y.2 with data:=d,changed:=num+1,version:=Ny y.2.version }):=λq g=>by
   simp only[P0,aM (show ¬(3:Nat)=1 by decide),aM (show ¬(3:Nat)=2 by decide),aZ]at g;obtain⟨y,U,rfl⟩:=g;by_cases e:y.1=p
   ·rw[aL e];exact .inr ⟨y,U,e,iI⟩
   ·rw[aM e];exact .inl U
  refine⟨by simpa[P0] using K,Aa,C,λq g=>?_,λq g=>?_⟩
  ·rcases L q g with h|⟨y,U,e,rfl⟩
   ·exact G.size q h
   ·exact⟨Q,O⟩
  ·rcases L q g with h|⟨y,U,e,rfl⟩
   ·exact j q h
   ·obtain⟨a,b,c,M,e,f⟩:=j y U;have:=Aim e f;exact⟨a,b,by simp only;omega,by simp only;omega,this.1,this.2⟩
def TrN.done{a}(T:TrN a r){kind}(E:kind=1∨kind=2∨kind=3){p d n z}(b:d.size<=40)(S:(Hx p).size<=24/\a (Hx p)=true):TrN a (P0 kind r p d n z):=by
 refine⟨λq g=>?_⟩;rcases E with rfl|rfl|rfl
 ·simp[P0]at g;rcases g with h|rfl
  ·exact T.nm q h
  grind
 ·simp[P0]at g;exact T.nm q g.1
 ·simp only[P0,aM (show ¬(3:Nat)=1 by decide),aM (show ¬(3:Nat)=2 by decide),aZ]at g;obtain⟨y,U,rfl⟩:=g;by_cases e:y.1=p
  ·grind
  ·rw[aM e];exact T.nm y U
def Agx(Z:(p,x)∈r):(p,({ x with data:=d,changed:=z,version:=Ny x.version }:Nd))∈P0 3 r p d n z:=by
 simp only[P0, aZ]
 grind
end Go.Proofs.YtcbilgmfdgpomaaGreatDoor
