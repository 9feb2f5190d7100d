import Derived.Test.YtcbilgmfdgpomaaGreatDoorQ11
set_option linter.all false
open List renaming length → iR
open Array renaming size → iS
set_option maxHeartbeats 4000000
set_option maxRecDepth 8000
open Go.Proofs.Tryz renaming prog → qz
open Option renaming some → ni,none → su
open Go renaming Calls → sf,World → qg
open Bool renaming false → o9
open Go.Value renaming string → x7,bool → vp
open Go.Ending renaming returned → xr
open Orch renaming be_length → I,be → N,puts_4 → O,fld → T,txt → U,fits_4 → Q
open Go.Proofs.Tryz Orch
variable {a:gZ}{b k kind t:Nat}{body:hQ}{d n p:hU}{q:Prop}{v z:Int}{w:qg}
def It1{p:Prop}(k:q)(h:Hd q->p:=by
 intro kz;obtain⟨P,Z⟩:∃P,w.alloc (.cells #[.int .i64 f,.int .i64 O,.int .i64 g,.string V,.int .i64 I,.bool X] 34)=P:=⟨_,iP⟩;have y:P.1[w.1.size]?=some (.cells #[.int .i64 f,.int .i64 O,.int .i64 g,.string V,.int .i64 I,.bool X] 34):=by rw[←Z];exact heap_alloc_new _ _
 revert P Z y;exact kz.1):p:=h ⟨k⟩
def Zsz{p:Prop}(k:q)(h:Hd q->p:=by
 intro kz;have D:=Orch.fits_4 z (R 1 _ b iP iP);have K:=Orch.fits_t z (R 2 _ c iP iP);revert D K;exact kz.1):p:=h ⟨k⟩
def Mdo{p:Prop}(h:p:=by
 obtain⟨a,b,c,d,rfl⟩:=MI (l:=Z) P2;have D:=Orch.fits_4 z (R 1 _ b iP iP);have K:=Orch.fits_t z (R 2 _ c iP iP);simp at f;exact⟨by simp[Og],by simp[Og],by simpa[Og] using f,D.2.2,K.2.1,λ_=>K.2.2,by simp[Og,N],by simp[Og],by simp[Og]⟩):p:=h
namespace Go.Proofs.YtcbilgmfdgpomaaGreatDoor
variable {A B r:List (hU×Nd)}{x:Nd}
open Go.RowKit
def wB(b:Bool):hU:=if b then⟨#[1]⟩ else⟨#[0]⟩
def Tb(kind mk:Int)(p d:hU)(v:Int)(wt:Bool):hU:=if kind<=3 then Agl kind mk p d v else if kind<=6 then b4 kind++b4 mk++Hf p++wB wt else b4 kind++b4 mk
def Agm(w f O g I)(V:hU)(X kind N)(ha:Sh O)(D:Sh g)(hv:Sh I)(hm:Sh N)(G:V.size<=9223372036854775807)(C:1<=kind)(p:kind<=7):sf qz 17 #[.agg #[iL f,iL O,iL g,x7 V,iL I,vp X],iL kind,iL N] w λe B=>e=xr (x7 (Hf (Tb kind N (E4 O g) (Qa V) (Ud I) X)))/\iM w B:=by
 refine It1 λP Z y=>?_;have K:=ltOf y;have HW:Hid (iM w P):=by rw[←Z];exact Be _ _
 have c:∀{W B},iM P W->iM W B->iM P B:=λC J=>C.trans (J.mono C.size);have M:Hid (∀W,iM P W->W.cell? (iK w.1.size 1)=ni (iL O)/\W.cell? (iK w.1.size 2)=ni (iL g)/\W.cell? (iK w.1.size 3)=ni (x7 V)/\W.cell? (iK w.1.size 4)=ni (iL I)/\W.cell? (iK w.1.size 5)=ni (vp X)):=λW D=>by
  have:=(D.block _ K).trans y;exact⟨cellOf (j:=1) this iP,cellOf (j:=2) this iP,cellOf (j:=3) this iP,cellOf (j:=4) this iP,cellOf (j:=5) this iP⟩
 have q:Hid (∀W n,Sh n->iM P W->sf qz 16 #[iL n] W λe B=>e=xr (x7 (b4 n))/\Hid (iM P B)):=λW n z D=>(LY W n z).mono λe B⟨C,J⟩=>⟨C,c D J⟩;have r:Hid (∀W a b,Sh a->Sh b->iM P W->sf qz 31 #[iL a,iL b] W λe B=>e=xr (x7 (E4 a b))/\Hid (iM P B)):=λW a b C J D=>(ZB W a b C J).mono λe B⟨C,J⟩=>⟨C,c D J⟩;have t:Hid (∀W s,s.size<=1000000->iM P W->sf qz 30 #[x7 s] W λe B=>e=xr (x7 (Hf s))/\Hid (iM P B)):=λW s G D=>(EB W s G).mono λe B⟨C,J⟩=>⟨C,c D J⟩;have v:Hid (∀W s,s.size<=1000000->iM P W->sf qz 15 #[x7 s] W λe B=>e=xr (x7 (Hf s))/\Hid (iM P B)):=λW s G D=>(XU W s G).mono λe B⟨C,J⟩=>⟨C,c D J⟩;refine E6q λA=>?_;have d:Hid (∀W s,s.size<=9223372036854775807->sf qz 32 #[x7 s,iL 40] W λe B=>e=xr (x7 (Qa s))/\B=W):=λW s G=>XE W s G;have j:Hid (iM P P):=Below.refl _ _;have zp:=Tu O g;have zd:=DW V;have Y:=Je (E4 O g);have m:=Je (Qa V);have x:=M4;obtain⟨E,F⟩:=WA I;have L:Sh (Ud I):=⟨Aa,Aa⟩;have ik:Sh kind:=⟨Aa,Aa⟩;have p1:(E4 O g).size<=1000000:=Aa;have p2:(Qa V).size<=1000000:=Aa;have o:(Tb kind N (E4 O g) (Qa V) (Ud I) X).size<=1000000:=by
  have T:(wB X).size=1:=by cases X<;>rfl
  unfold Tb Agl
  repeat' split
  all_goals simp only[cB,x,Y,m,T];omega
 obtain⟨Q,R,U,u,l⟩:=M.out _ j.out;have hk:kind=1∨kind=2∨kind=3∨kind=4∨kind=5∨kind=6∨kind=7:=Aa;clear E F y c C p;have h:0<I/\Ud I=Mo I 3∨¬0<I/\Ud I = -1:=if k:0<I then .inl ⟨k,aJ k⟩ else .inr ⟨k,aL k⟩
 rcases h with⟨a1,h⟩|⟨a1,h⟩<;>rw[h]at L o⊢<;>rcases hk with rfl|rfl|rfl|rfl|rfl|rfl|rfl<;>cases X
 all_goals
  simp only[Tb,Agl,wB,Int.reduceLE,Int.reduceEq,bP,bQ,aR,reduceIte]at o⊢;go_enter func17,ntmps17;go_wp2_with (first
   |(go_at_call 16;apply(q.out _ _ HM j.out).mono;clear j;rintro S H⟨rfl,j⟩;obtain⟨Q,R,U,u,l⟩:=M.out _ j.out)
   |(go_at_call 31;apply(r.out _ _ _ HM HM j.out).mono;clear j;rintro S H⟨rfl,j⟩;obtain⟨Q,R,U,u,l⟩:=M.out _ j.out)
   |(go_at_call 30;apply(t.out _ _ HM j.out).mono;clear j;rintro S H⟨rfl,j⟩;obtain⟨Q,R,U,u,l⟩:=M.out _ j.out)
   |(go_at_call 15;apply(v.out _ _ HM j.out).mono;clear j;rintro S H⟨rfl,j⟩)
   |(go_at_call 11;apply(A.out _ _ _ HM Ae Ae).mono;rintro S H⟨rfl,rfl⟩)
   |(go_at_call 32;apply(d.out _ _ HM).mono;rintro S H⟨rfl,rfl⟩))
 all_goals first|(exfalso;rename_i i;simp only[cB,x,Y,m]at i;omega)|skip
 all_goals go_ret
 all_goals exact⟨iP,HW.out.trans (j.out.mono Aa)⟩
def SO(w f O g I)(V:hU)(X i)(b:Nat)(z n)(c:b=9/\z=1/\n=7∨b=14/\z=4/\n=4)(E:Sh f)(d:Sh O)(D:Sh g)(h:Sh I)(s:V.size<=9223372036854775807)(j:0<=i)(m:i<=9223372036854775807):sf qz b #[.agg #[iL f,iL O,iL g,x7 V,iL I,vp X],iL i] w λe W=>e=xr (x7 (Hf (Tb (z+Mo f n) (RH i) (E4 O g) (Qa V) (Ud I) X)))/\iM w W:=by
 refine It1 λP Z y=>?_;have HW:Hid (iM w P):=by rw[←Z];exact Be _ _
 have K:=ltOf y;have L:=hide (eS (ltOf y));have ⟨c0,Q,R,U,u,l⟩:=My y iP;obtain⟨p,F⟩:=O5 f (n:=n) Aa;have C:Hid (∀a,sf qz 11 #[iL f,iL n] a λe W=>e=xr (iL (Mo f n))/\W=a):=λa=>Qv a f n E Aa Aa;have J:Hid (∀a,sf qz 25 #[iL i] a λe W=>e=xr (iL (RH i))/\W=a):=λa=>Adg a i j m;generalize Mo f n=q at *;have k:Hid (∀a,sf qz 17 #[.agg #[iL f,iL O,iL g,x7 V,iL I,vp X],iL (z+q),iL (RH i)] a λe W=>e=xr (x7 (Hf (Tb (z+q) (RH i) (E4 O g) (Qa V) (Ud I) X)))/\iM a W):=λa=>Agm a f O g I V X (z+q) (RH i) d D h (by unfold RH Sh;omega) s Aa Aa;have r:IntKind.i64.wrap (z+q)=z+q:=by simp[IntKind.wrap,IntKind.bits,IntKind.signed];omega
 generalize RH i=N at *;generalize Tb (z+q) N (E4 O g) (Qa V) (Ud I) X=t at *;clear y;rcases c with⟨rfl,rfl,rfl⟩|⟨rfl,rfl,rfl⟩;go_enter func9,ntmps9
 rotate_left
 go_enter func14,ntmps14
 all_goals go_wp2_with fail
 all_goals go_region_held3 (λW=>W.cell? (iJ w.1.size)=ni (iL f)/\W.cell? (iK w.1.size 1)=ni (iL O)/\W.cell? (iK w.1.size 2)=ni (iL g)/\W.cell? (iK w.1.size 3)=ni (x7 V)/\W.cell? (iK w.1.size 4)=ni (iL I)/\W.cell? (iK w.1.size 5)=ni (vp X)) (first|(go_keep;done)|exact⟨c0,Q,R,U,u,l⟩|exact⟨a7,a8,aa,v,ab,o⟩) (first|(go_at_call 11;apply(C.out _).mono;rintro S H⟨rfl,rfl⟩)|(go_at_call 25;apply(J.out _).mono;rintro S H⟨rfl,rfl⟩)|(go_at_call 17;apply(k.out _).mono;rintro S H⟨rfl,M⟩;have HB:=hide M;have a7:=(M.cell (p:=(iJ w.1.size)) K).trans c0;have a8:=(M.cell (p:=(iK w.1.size 1)) K).trans Q;have aa:=(M.cell (p:=(iK w.1.size 2)) K).trans R;have v:=(M.cell (p:=(iK w.1.size 3)) K).trans U;have ab:=(M.cell (p:=(iK w.1.size 4)) K).trans u;have o:=(M.cell (p:=(iK w.1.size 5)) K).trans l;clear M))
 all_goals go_wp2_with fail
 all_goals go_ret
 all_goals first|exact⟨iP,HW.out.trans (HB.out.mono L.out)⟩|exact⟨iP,HW.out.drew.trans (HB.out.mono L.out)⟩|exact⟨iP,HW.out.drew.drew.trans (HB.out.mono L.out)⟩
open Go
def rqS(k:Nat):hU:=
 if k=1 then⟨#[40,52,52,116,98,41]⟩ else if k=2 then⟨#[40,52,52,116,52,41]⟩ else if k=3 then⟨#[40,52,52,116,98,52,41]⟩ else if k=7 then⟨#[40,52,52,41]⟩ else⟨#[40,52,52,116,63,41]⟩
def kinds(C:1<=k)(M:k<=7):k=1∨k=2∨k=3∨k=4∨k=5∨k=6∨k=7:=Aa
def ZW(C:1<=k)(M:k<=7):parse (rqS k).data.toList=ni (.mk lr (Kv k)):=by
 rcases kinds C M with rfl|rfl|rfl|rfl|rfl|rfl|rfl<;>rfl
def Ae4(C:1<=k)(M:k<=7):2<=(Kv k).length/\(k≠7->4<=(Kv k).length):=by
 rcases kinds C M with rfl|rfl|rfl|rfl|rfl|rfl|rfl<;>simp[Kv]
section
variable {z:gZ} {F:iA} {y:Nat}
def Aic(G:V0 F y w){k}(C:1<=k)(M:k<=7):w.cell? ⟨0,k * 3+1,su⟩=ni (x7 (rqS k)):=by
 rcases kinds C M with rfl|rfl|rfl|rfl|rfl|rfl|rfl
 ·exact G.4
 ·exact G.5
 ·exact G.6
 ·exact G.8
 ·exact G.7
 ·exact G.9
 ·exact G.10
def FN{v}(h:Vt z (.mk lr (Kv k)) body=ni v):iR body<=1000/\iR v.l=(Kv k).length/\∀(j:Nat)t(x:Orch.V),(Kv k)[j]?=ni t->v.l[j]?=ni x->fits z t x=true:=by
 unfold Vt at h;split at h
 ·cases h
 ·split at h
  ·rename_i U f;have ⟨_,_,T,q⟩:=take_rec z Aa f
   grind
  ·cases h
def UT{l:List Orch.V}(h:iR l=2):∃a b,l = [a,b]:=by
 match l,h with
 |[a,b],_=>exact⟨a,b,iP⟩
def MI{l:List Orch.V}(h:iR l=4):∃a b c d,l = [a,b,c,d]:=by
 match l,h with
 |[a,b,c,d],_=>grind
def Aog{l:List Orch.V}(h:iR l=5):∃a b c d e,l = [a,b,c,d,e]:=by
 match l,h with
 |[a,b,c,d,e],_=>grind
def SM(U:Im z F)(w)(I:V0 F y w)(ae:8<=y)(body:hQ)(f:iR body<=1000)(T)(u:J8 w T body):sf qz 67 #[iL 1,T] w λl b=>l=xr (Ae3 (Hc z body))/\iM w b:=by
 have L:=u;have o:0<iS w.1:=by have:=I.size;omega
 have V:=I.tabs;have A:=I.table;unfold Hc;by_cases h4:iR body<4
 ·rw[aJ h4];obtain⟨e,off,N,rfl,C,Y,D⟩:=u;exact Ae5 w _ _ _ 0 λW k=>AQ W _ _ _ h4
 rw[aL h4];have S:4<=iR body:=Aa;by_cases hk:1<=sgn (body.take 4)/\sgn (body.take 4)<=7
 case neg=>
  rw[aL hk];obtain⟨e,off,N,rfl,C,Y,D⟩:=u;exact Ae5 w _ _ _ _ λW k=>IY W _ _ S f (L.below k (aB _)) _ iP hk
 case pos=>
 rw[aJ hk];obtain⟨kind,m⟩:∃kind:Nat,sgn (body.take 4)=kind:=⟨(sgn (body.take 4)).toNat,Aa⟩;have X:1<=kind:=Aa;have R:kind<=7:=Aa;rw[m,dX];have s:=Aic I X R;have Q:=ZW X R;have a1:∀W,iM w W->sf qz 117 #[T] W λl b=>l=xr (.tuple #[iL kind,vp true])/\b=W:=λW k=>Ve W _ _ S f (L.below k (aB _)) kind m Aa Aa;cases q:Vt z (.mk lr (Kv kind)) body with
 |none=>
  obtain⟨e,off,N,rfl,C,Y,D⟩:=u;exact Al4 w kind Aa _ _ _ (rqS kind) s o a1 λW k=>XP U W (U.kept (U.size V) k V) (A.below k A.pos) _ _ Q _ _ f (L.below k (aB _)) q
 |some ab=>
 obtain⟨_,O,a8⟩:=FN q;obtain⟨nn,H,Z⟩:=ab;simp only[Orch.V.l]at O a8⊢;have HF:∀W,iM w W->∀i K,Z=i::K->sf qz 118 #[x7 (rqS kind),T] W λl b=>∃g c,l=xr (.tuple #[.slice (ni (iJ g)) (iR K+1) c,vp true])/\iR K+1<=c/\(∀j x,(i::K)[j]?=ni x->b.cell? ⟨g,j * 3,su⟩=ni (iL x.n)/\b.cell? ⟨g,j * 3+1,su⟩=ni (x7 x.s))/\g<iS b.1/\iM W b:=λW k i K hv=>by
  apply(Tg U W (U.kept (U.size V) k V) (A.below k A.pos) _ _ Q _ _ f (L.below k (aB _)) _ q).mono;rintro l b⟨⟨lv,rfl,aa⟩,ad⟩;rw[show(Orch.V.mk nn H Z).l=i::K from hv]at aa;obtain⟨g,c,rfl,M,hg,G⟩:=BZ aa;exact⟨g,c,iP,M,G,hg.2,ad⟩
 obtain⟨i,t,d,rfl⟩:∃i t d,Z=i::t::d:=by
  have:=(Ae4 X R).1
  match Z,O with
  |a::e::r,_=>exact⟨a,e,r,iP⟩
  |[a],h=>simp at h;omega
  |[],h=>simp at h;omega
 simp only[List.getD_cons_succ,List.getD_cons_zero];by_cases B:t.n<0
 ·rw[aJ B];obtain⟨e,off,N,rfl,C,Y,D⟩:=u;refine Al5 w kind Aa _ _ _ (rqS kind) (iR d+2) Aa t.n B s o a1 λW k=>(HF W k i (t::d) iP).mono ?_;rintro l b⟨g,c,rfl,M,G,hg,a6⟩;exact⟨g,c,iP,(G 1 _ iP).1,a6⟩
 rw[aL B];have J:0<=t.n:=Aa;rcases kinds X R with rfl|rfl|rfl|rfl|rfl|rfl|rfl
 ·obtain⟨p,v,rfl⟩:=UT (l:=d) P2;exact JC U w V A 1 Aa Aa _ s o _ Q body f S m nn H i t J [p,v] Ad q T u p.s v.s iN 0 o9 λg c P W M E n=>LP W P 0 g 6 c t.n p.s v.s n (M 0 _ iP).2 (M 1 _ iP).2 E
 ·obtain⟨p,x,rfl⟩:=UT (l:=d) P2;exact JC U w V A 2 Aa Aa _ s o _ Q body f S m nn H i t J [p,x] Ad q T u p.s iN iN x.n o9 λg c P W M E n=>LQ W P 0 g 6 c t.n p.s x.n n (M 0 _ iP).2 (M 1 _ iP).1 E
 ·obtain⟨p,v,x,rfl⟩:∃a e c,d = [a,e,c]:=by
   match d,O with
   |[a,e,c],_=>exact⟨a,e,c,iP⟩
   |[],h=>simp[Kv]at h
   |[_],h=>simp[Kv]at h
   |[_,_],h=>simp[Kv]at h
   |_::_::_::_::_,h=>simp[Kv]at h
  exact JC U w V A 3 Aa Aa _ s o _ Q body f S m nn H i t J [p,v,x] Ad q T u p.s v.s iN x.n o9 λg c P W M E n=>Acj W P 0 g 6 c t.n p.s v.s x.n n (M 0 _ iP).2 (M 1 _ iP).2 (M 2 _ iP).1 E
 iterate 3
  ·obtain⟨p,a7,rfl⟩:=UT (l:=d) P2;exact JC U w V A _ Aa Aa _ s o _ Q body f S m nn H i t J [p,a7] Ad q T u p.s iN iN 0 (a7.n==1) λg c P W M E n=>XQ W P g c t.n p.s _ _ ⟨Ad,(fits_q z (a8 3 _ a7 iP iP)).2⟩ n (M 0 _ iP).2 (M 1 _ iP).1 E
 ·obtain rfl:d = []:=by
   have:iR d=0:=P2;exact bO.1 this
  obtain⟨e,off,N,rfl,C,Y,D⟩:=u;refine Aji w 7 Aa _ _ _ 2 Aa (rqS 7) t.n B iN iN iN 0 o9 (λ_ _ _=>True) s o a1 (λW k=>(HF W k i [t] iP).mono ?_) λ_ _ _ sv _ _ _ W _ n=>XR W _ sv t.n n;rintro l b⟨g,c,rfl,M,G,hg,a6⟩;exact⟨g,c,iP,M,(G 1 _ iP).1,trivial,hg,a6⟩
structure Ajy(z:gZ)(r:Rq):Prop where
 k1:1<=r.kind
 k7:r.kind<=7
 m0:0<=r.m
 m1:r.m<=2147483647
 p:r.p.size<=200
 pv:r.kind≠7->z r.p=true
 d:r.d.size<=200
 v0:-2147483648<=r.ver
 v1:r.ver<=2147483647
def AY{r}(h:Hc z body=ni r):Ajy z r:=by
 unfold Hc at h;split at h
 ·cases h
 split at h
 rotate_left
 ·cases h
 rename_i q E;obtain⟨kind,m⟩:∃kind:Nat,sgn (body.take 4)=kind:=⟨(sgn (body.take 4)).toNat,Aa⟩;rw[m]at h E;rw[dX]at h;have M:kind<=7:=Aa;split at h
 ·cases h
 rename_i v y;obtain⟨_,O,R⟩:=FN y;split at h
 ·cases h
 rename_i f;obtain rfl:=aA h;obtain⟨nn,H,Z⟩:=v;simp only[Orch.V.l]at O R f⊢;have N:(iN:hU).size=0:=iP;rcases kinds Aa M with rfl|rfl|rfl|rfl|rfl|rfl|rfl
 ·obtain⟨a,b,c,d,rfl⟩:=MI (l:=Z) P2;refine Zsz λD K=>?_;have g:=fits_b z (R 3 _ d iP iP);simp at f;exact⟨by simp[Og],by simp[Og],by simpa[Og] using f,D.2.2,K.2.1,λ_=>K.2.2,g.2,by simp[Og],by simp[Og]⟩
 ·obtain⟨a,b,c,d,rfl⟩:=MI (l:=Z) P2;refine Zsz λD K=>?_;have g:=Q z (R 3 _ d iP iP);simp at f;exact⟨by simp[Og],by simp[Og],by simpa[Og] using f,D.2.2,K.2.1,λ_=>K.2.2,by simp[Og,N],g.2.1,g.2.2⟩
 ·obtain⟨a,b,c,d,e,rfl⟩:=Aog (l:=Z) P2;refine Zsz λD K=>?_;have J:=Q z (R 4 _ e iP iP);simp at f;exact⟨by simp[Og],by simp[Og],by simpa[Og] using f,D.2.2,K.2.1,λ_=>K.2.2,(fits_b z (R 3 _ d iP iP)).2,J.2.1,J.2.2⟩
 ·exact Mdo
 ·exact Mdo
 ·exact Mdo
 ·obtain⟨a,b,rfl⟩:=UT (l:=Z) P2;simp at f;exact⟨by simp[Og],by simp[Og],by simpa[Og] using f,(Q z (R 1 _ b iP iP)).2.2,by simp[Og,N],λh=>absurd iP h,by simp[Og,N],by simp[Og],by simp[Og]⟩
end
def Abl(kind:Nat)(mk:Int)(p d:hU)(v:Int)(wt:Bool):Rq:=
 if kind=1 then⟨1,mk,p,d,0,o9⟩ else if kind=2 then⟨2,mk,p,iN,v,o9⟩ else if kind=3 then⟨3,mk,p,d,v,o9⟩ else if kind=7 then⟨7,mk,iN,iN,0,o9⟩ else⟨kind,mk,p,iN,0,wt⟩
def Of{r v}(C:1<=k)(M:k<=7)(D:body=N k 4++r)(y:Vt a (.mk lr (Kv k)) body=ni v)(L:¬(v.l.getD 1 (Orch.num 0)).n<0):Hc a body=ni (Og k v.l):=by
 have R:body.take 4=N k 4:=by rw[D,cV (by rw[I];exact aB _),bN (by rw[I];exact aB _)]
 have s:sgn (N k 4)=k:=by
  rcases kinds C M with rfl|rfl|rfl|rfl|rfl|rfl|rfl<;>decide
 unfold Hc;rw[aL (by rw[D,aM,I];omega),R,s,aJ ⟨Aa,Aa⟩,dX,y];simp only;rw[aL L]
def Jb(a b:hU):(a++b).data.toList=a.data.toList++b.data.toList:=Ad
def Mf(s):(Hf s).data.toList=T s:=by
 unfold Hf;rw[Jb,Ip]
def Aix(b):(wB b).data.toList=N (if b then 1 else 0) 1:=by cases b<;>decide
section
variable {valid:gZ} {mk:Int} {wt:Bool}
theorem ZL{k:Nat}(C:1<=k)(M:k<=7)(o:0<=mk)(i:mk<=2147483647)(Q:p.size<=200)(q:valid p=true)(y:d.size<=200)(S:-2147483648<=v)(K:v<=2147483647) :
  Hc valid (Tb k mk p d v wt).data.toList=some (Abl k mk p d v wt):=by
 have G:-2147483648<=mk:=Aa
 have a:∀k:Nat,1<=k->k<=7->Orch.put valid 9 [] (.mk Orch.lr [Orch.t4,Orch.t4,Orch.tt,Orch.tq]) (.mk 0 ⟨#[]⟩ [Orch.num k,Orch.num mk,Orch.txt p,Orch.num (if wt then 1 else 0)])=some (Orch.be k 4++(Orch.be mk 4++(Orch.fld p++(Orch.be (if wt then 1 else 0) 1 ++ [])))):=fun k C M=>by
  have H:p.data.toList.length=p.size:=rfl
  have:=Orch.puts_rec valid (k:=8) (l:=Orch.lr) rfl (.cons (Orch.puts_4 valid (n:=(k:Int)) Aa Aa) (.cons (Orch.puts_4 valid G i) (.cons (Orch.puts_t valid Q q) (.cons (Orch.puts_q valid (n:=if wt then 1 else 0) (by split <;> omega) (by split <;> omega)) .nil)))) [] (by simp only [List.length_append,Orch.be_length,H,List.length_nil];omega)
  simpa using this
 have Y:∀k:Nat,k=4∨k=5∨k=6->Hc valid (b4 k++b4 mk++Hf p++wB wt).data.toList=some (Og k [Orch.num k,Orch.num mk,Orch.txt p,Orch.num (if wt then 1 else 0)]):=fun k E=>by
  have e:(b4 k++b4 mk++Hf p++wB wt).data.toList=Orch.be k 4++(Orch.be mk 4++(Orch.fld p++(Orch.be (if wt then 1 else 0) 1 ++ []))):=by
   rw [Jb,Jb,Jb,Ip,Ip,Mf,Aix]
   simp
  rw [e]
  have R:Kv k = [Orch.t4,Orch.t4,Orch.tt,Orch.tq]:=by rcases E with rfl|rfl|rfl <;> rfl
  exact Of (v:=.mk 0 ⟨#[]⟩ [Orch.num k,Orch.num mk,Orch.txt p,Orch.num (if wt then 1 else 0)]) Aa Aa rfl (by rw [R];exact Oi valid Orch.parse_exists (a k Aa Aa)) Aba
 rcases kinds C M with rfl|rfl|rfl|rfl|rfl|rfl|rfl
 ·have e:(Tb (1:Nat) mk p d v wt).data.toList=Orch.be (1:Nat) 4++(Orch.be mk 4++(Orch.fld p++(Orch.fld d ++ []))):=by
   show(b4 1++b4 mk++Hf p++Hf d).data.toList=_
   rw [Jb,Jb,Jb,Ip,Ip,Mf,Mf]
   simp
  rw [e]
  exact Of (v:=.mk 0 ⟨#[]⟩ [Orch.num 1,Orch.num mk,Orch.txt p,Orch.txt d]) Ae Ae rfl (Oi valid Orch.parse_create (Orch.put_create valid G i Q q y)) Aba
 ·have e:(Tb (2:Nat) mk p d v wt).data.toList=Orch.be (2:Nat) 4++(Orch.be mk 4++(Orch.fld p++(Orch.be v 4 ++ []))):=by
   show(b4 2++b4 mk++Hf p++b4 v).data.toList=_
   rw [Jb,Jb,Jb,Ip,Ip,Mf,Ip]
   simp
  rw [e]
  exact Of (v:=.mk 0 ⟨#[]⟩ [Orch.num 2,Orch.num mk,Orch.txt p,Orch.num v]) Ae Ae rfl (Oi valid Orch.parse_delete (Orch.put_delete valid G i Q q S K)) Aba
 ·have e:(Tb (3:Nat) mk p d v wt).data.toList=Orch.be (3:Nat) 4++(Orch.be mk 4++(Orch.fld p++(Orch.fld d++(Orch.be v 4 ++ [])))):=by
   show(b4 3++b4 mk++Hf p++Hf d++b4 v).data.toList=_
   rw [Jb,Jb,Jb,Jb,Ip,Ip,Mf,Mf,Ip]
   simp
  rw [e]
  exact Of (v:=.mk 0 ⟨#[]⟩ [Orch.num 3,Orch.num mk,Orch.txt p,Orch.txt d,Orch.num v]) Ae Ae rfl (Oi valid Orch.parse_set (Orch.put_set valid G i Q q y S K)) Aba
 ·refine(Y 4 Ae).trans ?_
  cases wt <;> rfl
 ·refine(Y 5 Ae).trans ?_
  cases wt <;> rfl
 ·refine(Y 6 Ae).trans ?_
  cases wt <;> rfl
 ·have e:(Tb (7:Nat) mk p d v wt).data.toList=Orch.be (7:Nat) 4++(Orch.be mk 4 ++ []):=by
   show(b4 7++b4 mk).data.toList=_
   rw [Jb,Ip,Ip]
   simp
  rw [e]
  have f:Orch.put valid 9 [] (.mk Orch.lr [Orch.t4,Orch.t4]) (.mk 0 ⟨#[]⟩ [Orch.num 7,Orch.num mk])=some (Orch.be 7 4++(Orch.be mk 4 ++ [])):=by
   have:=Orch.puts_rec valid (k:=8) (l:=Orch.lr) rfl (.cons (Orch.puts_4 valid (n:=7) Aa Aa) (.cons (Orch.puts_4 valid G i) .nil)) [] (by simp only [List.length_append,Orch.be_length,List.length_nil];omega)
   simpa using this
  exact Of (v:=.mk 0 ⟨#[]⟩ [Orch.num 7,Orch.num mk]) Ae Ae rfl (Oi valid Orch.parse_ping f) Aba
end
open Go.Conc Go.Pair
def Okd(kind:Nat)(p:hU)(ns:List (hU×Nd)):Prop:=match kind with
 |1=>(∀q∈ns,q.1≠p)/\iR ns<32
 |_=>∃x,(p,x)∈ns
def Rh(kind:Nat)(ns:List (hU×Nd))(p d n:hU)(z:Int):List (hU×Nd):=
 if kind=1 then ns++[(p,⟨p,d,n,z,z,0⟩)]
 else if kind=2 then ns.filter λq=>decide (q.1≠p)
 else ns.map λq=>if q.1=p then(p,{ q.2 with data:=d,changed:=z,version:=Nt q.2.version }) else q
def Cj.nodup{num}(h:Cj w b t num r):(r.map Prod.fst).Nodup:=by
 have C:=h.map.nodup
 grind
def do2(h:((A++(p,x)::B).map Prod.fst).Nodup):Rh 2 (A++(p,x)::B) p d n z=A++B:=by
 rw[cP,bA,fH]at h;obtain⟨C,J,T⟩:=h;rw[dS]at J;have y:A.filter (λq=>decide (q.1≠p))=A:=fO.2 λq f=>by
  simpa using λe=>T q.1 (dC f) p cH e
 have k:B.filter (λq=>decide (q.1≠p))=B:=fO.2 λq f=>by
  have:q.1≠p:=λe=>J.1 SB;simpa using this
 unfold Rh;rw[aL Ae,aJ iP,fZ,List.filter_cons,y,k];simp
def do3(h:((A++(p,x)::B).map Prod.fst).Nodup):Rh 3 (A++(p,x)::B) p d n z=A++(p,{ x with data:=d,changed:=z,version:=Nt x.version })::B:=by
 rw[cP,bA,fH]at h;obtain⟨C,J,T⟩:=h;rw[dS]at J;have y:A.map (λq=>if q.1=p then(p,{ q.2 with data:=d,changed:=z,version:=Nt q.2.version }) else q)=A:=by
  conv=>rhs;rw[←fL A]
  exact dH λq f=>aL λe=>T q.1 (dC f) p cH e
 have k:B.map (λq=>if q.1=p then(p,{ q.2 with data:=d,changed:=z,version:=Nt q.2.version }) else q)=B:=by
  conv=>rhs;rw[←fL B]
  exact dH λq f=>aL λe=>J.1 SB
 unfold Rh;rw[aL Ae,aL Ae,cP,bA,y,k,aJ iP]
def An1{num}(h:Cj w b t num r)(f:t≠b)(G:Pm num r)(C:num+1<9223372036854775807)(kind)(E:kind=1∨kind=2∨kind=3)(p d n v)(Q:p.size<=1000)(l:Okd kind p r):sf qz 93 #[iI b,Mx kind p d n v] w λe a=>e=xr (.tuple #[])/\Cj a b t (num+1) (Rh kind r p d n (num+1))/\Ax w a (λk=>k=b∨k=t):=by
 have F:=G.num0;rcases E with rfl|rfl|rfl
 ·exact doC h f F Aa p d n v Q l.1
 ·obtain⟨x,Z⟩:=l;obtain⟨A,B,H⟩:=fD Z;have z:=h.nodup;have:=doD h f F Aa p d n v Q H;rw[H]at z
  rwa[H,do2 z]
 ·obtain⟨x,Z⟩:=l;obtain⟨A,B,H⟩:=fD Z;obtain⟨J,u,c,g,L,N⟩:=G.node _ Z;have z:=h.nodup;have:=doS h f F Aa p d n v Q H L N;rw[H]at z
  rwa[H,do3 z]
def Aiu(C:0<=v)(J:v<=2147483647):0<=Nt v/\Nt v<=2147483647:=by unfold Nt;split<;>omega
def Pm.done{num}(G:Pm num r)(C:num+1<9223372036854775807){kind}(E:kind=1∨kind=2∨kind=3){p d n}(Q:p.size<=1000)(O:Eb p=true)(l:Okd kind p r):Pm (num+1) (Rh kind r p d n (num+1)):=by
 have F:=G.num0;have K:=G.len;have j:∀q∈r,0<=q.2.made/\q.2.made<=num+1/\0<=q.2.changed/\q.2.changed<=num+1/\0<=q.2.version/\q.2.version<=2147483647:=λq g=>by
  obtain⟨a,b,c,d,e,f⟩:=G.node q g;omega
 rcases E with rfl|rfl|rfl
 ·have L:∀q∈Rh 1 r p d n (num+1),q∈r∨q=(p,⟨p,d,n,num+1,num+1,0⟩):=λq g=>by
   simp[Rh]at g;exact g
  refine⟨by have:=l.2;simp[Rh];omega,Aa,C,λq g=>?_,λq g=>?_⟩
  ·rcases L q g with h|rfl
   ·exact G.size q h
   ·exact⟨Q,O⟩
  grind
 ·have L:∀q∈Rh 2 r p d n (num+1),q∈r:=λq g=>by simp[Rh]at g;exact g.1
  exact⟨aF (by simpa[Rh] using List.length_filter_le _ _) K,Aa,C,λq g=>G.size q (L q g),λq g=>j q (L q g)⟩
 ·have L:∀q∈Rh 3 r p d n (num+1),q∈r∨∃y∈r,y.1=p/\q=(p,{ y.2 with data:=d,changed:=num+1,version:=Nt y.2.version }):=λq g=>by
   simp only[Rh,aL (show ¬(3:Nat)=1 by decide),aL (show ¬(3:Nat)=2 by decide),aZ]at g;obtain⟨y,U,rfl⟩:=g;by_cases e:y.1=p
   ·rw[aJ e];exact .inr ⟨y,U,e,iP⟩
   ·rw[aL e];exact .inl U
  refine⟨by simpa[Rh] using K,Aa,C,λq g=>?_,λq g=>?_⟩
  ·rcases L q g with h|⟨y,U,e,rfl⟩
   ·exact G.size q h
   ·exact⟨Q,O⟩
  ·rcases L q g with h|⟨y,U,e,rfl⟩
   ·exact j q h
   ·obtain⟨a,b,c,M,e,f⟩:=j y U;have:=Aiu e f;exact⟨a,b,by simp only;omega,by simp only;omega,this.1,this.2⟩
def TrN.done(T:TrN a r){kind}(E:kind=1∨kind=2∨kind=3){p d n z}(b:d.size<=40)(S:(Hw p).size<=24/\a (Hw p)=true):TrN a (Rh kind r p d n z):=by
 refine⟨λq g=>?_⟩;rcases E with rfl|rfl|rfl
 ·simp[Rh]at g;rcases g with h|rfl
  ·exact T.nm q h
  grind
 ·simp[Rh]at g;exact T.nm q g.1
 ·simp only[Rh,aL (show ¬(3:Nat)=1 by decide),aL (show ¬(3:Nat)=2 by decide),aZ]at g;obtain⟨y,U,rfl⟩:=g;by_cases e:y.1=p
  ·grind
  ·rw[aL e];exact T.nm y U
def Ag3(Z:(p,x)∈r):(p,({ x with data:=d,changed:=z,version:=Nt x.version }:Nd))∈Rh 3 r p d n z:=by
 simp only[Rh, aZ]
 grind
