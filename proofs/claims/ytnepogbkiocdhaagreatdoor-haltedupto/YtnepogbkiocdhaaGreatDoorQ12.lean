import Derived.Test.YtnepogbkiocdhaaGreatDoorQ10
open List renaming length->iY
open Array renaming size->iZ
set_option linter.all false
open Option renaming some->je
open Bool renaming false->vy
open Go.Proofs.Tryz renaming prog->ow
open Orch renaming be_length->I,be->N,puts_4->L,fld->O,txt->U,fits_4->E
open Go renaming iW->X,Aa->T,Ad->W,aO->Y,iF->R,iU->j
open Go
open Orch
variable {a:iD}{b k kind t:Nat}{body:iE}{d n p:R}{v z:Int}
def K7g{p q:Prop}(k:q)(h:Hd q->p:=by
 intro kz;have D:=Orch.fits_4 o (R 1 _ b iW iW);have K:=Orch.fits_t o (R 2 _ c iW iW);revert D K;exact kz.1):p:=h ⟨k⟩
namespace Go.Proofs.Y
variable {A B r:List (R×Nd)}{w:World}{x:Nd}
open Go Go.RowKit Go.Conc Go.Pair
def Okd(kind:Nat)(p:R)(ns:List (R×Nd)):Prop:=match kind with
 |1=>(∀q∈ns,q.1≠p)/\iY ns<32
 |_=>∃x,(p,x)∈ns
def Mg(kind:Nat)(ns:List (R×Nd))(p d n:R)(z:Int):List (R×Nd):=
 if kind=1 then ns++[(p,⟨p,d,n,z,z,0⟩)]
 else if kind=2 then ns.filter λq=>decide (q.1≠p)
 else ns.map λq=>if q.1=p then(p,{ q.2 with data:=d,changed:=z,version:=Mc q.2.version }) else q
def Bw.nodup{num}(h:Bw w b t num r):(r.map Prod.fst).Nodup:=by have C:=h.2.nodup;grind
def do2(h:((A++(p,x)::B).map Prod.fst).Nodup):Mg 2 (A++(p,x)::B) p d n z=A++B:=by
 rw[cP,bF,gJ]at h;obtain⟨C,J,T⟩:=h;rw[eZ]at J;have y:A.filter (λq=>decide (q.1≠p))=A:=List.filter_eq_self.2 λq f=>by simpa using λe=>T q.1 (dG f) p cG e
 have k:B.filter (λq=>decide (q.1≠p))=B:=List.filter_eq_self.2 λq f=>by have:q.1≠p:=λe=>J.1 SB;simpa using this
 rw[Mg,Y W,aL X,List.filter_append,List.filter_cons,y,k];simp
def do3(h:((A++(p,x)::B).map Prod.fst).Nodup):Mg 3 (A++(p,x)::B) p d n z=A++(p,{ x with data:=d,changed:=z,version:=Mc x.version })::B:=by
 rw[cP,bF,gJ]at h;obtain⟨C,J,T⟩:=h;rw[eZ]at J;have y:A.map (λq=>if q.1=p then(p,{ q.2 with data:=d,changed:=z,version:=Mc q.2.6 }) else q)=A:=by (conv=>rhs;rw[←fM A]);exact cQ λq f=>Y λe=>T q.1 (dG f) p cG e
 have k:B.map (λq=>if q.1=p then(p,{ q.2 with data:=d,changed:=z,version:=Mc q.2.6 }) else q)=B:=by (conv=>rhs;rw[←fM B]);exact cQ λq f=>Y λe=>J.1 SB
 rw[Mg,Y W,Y W,cP,bF,y,k,aL X]
def Alw{num}(h:Bw w b t num r)(f:t≠b)(G:Uh num r)(C:num+1<9223372036854775807)(kind)(E:kind=1∨kind=2∨kind=3)(p d n v)(Q:p.size<=1000)(l:Okd kind p r):Calls ow 90 #[HZ b,Mo kind p d n v] w λe a=>e=.returned (.tuple #[])/\Bw a b t (num+1) (Mg kind r p d n (num+1))/\Ax w a (λk=>k=b∨k=t):=by have F:=G.2;obtain rfl|rfl|rfl:=E;exact doC h f F T p d n v Q l.1;obtain⟨x,Z⟩:=l;obtain⟨A,B,H⟩:=gB Z;have z:=h.nodup;have:=doD h f F T p d n v Q H;rw[H]at z;rwa[H,do2 z];obtain⟨x,Z⟩:=l;obtain⟨A,B,H⟩:=gB Z;obtain⟨J,u,c,g,L,N⟩:=G.5 _ Z;have z:=h.nodup;have:=doS h f F T p d n v Q H L N;rw[H]at z;rwa[H,do3 z]
def ZL(C:0<=v)(J:v<=2147483647):0<=Mc v/\Mc v<=2147483647:=by rw[Mc];split<;>omega
def Uh.done{num}(G:Uh num r)(C:num+1<9223372036854775807){kind}(E:kind=1∨kind=2∨kind=3){p d n}(Q:p.size<=1000)(O:D5 p=true)(l:Okd kind p r):Uh (num+1) (Mg kind r p d n (num+1)):=by
 have F:=G.2;have K:=G.1;have j:∀q∈r,0<=q.2.4/\q.2.4<=num+1/\0<=q.2.5/\q.2.5<=num+1/\0<=q.2.6/\q.2.6<=2147483647:=λq f=>by obtain⟨b,c,g,d,e,i⟩:=G.5 q f;omega
 obtain rfl|rfl|rfl:=E;have L:∀q∈Mg 1 r p d n (num+1),q∈r∨q=(p,⟨p,d,n,num+1,num+1,0⟩):=λq f=>by simp[Mg]at f;exact f
 refine⟨by have:=l.2;simp[Mg];omega,T,C,λq f=>?_,λq f=>?_⟩;obtain h|rfl:=L q f;exact G.4 q h;exact⟨Q,O⟩;grind;have L:∀q∈Mg 2 r p d n (num+1),q∈r:=λq f=>by simp[Mg]at f;exact f.1
 exact⟨aD (by simpa[Mg] using dT _ _) K,T,C,λq f=>G.4 q (L q f),λq f=>j q (L q f)⟩;have L:∀q∈Mg 3 r p d n (num+1),q∈r∨∃y∈r,y.1=p/\q=(p,{ y.2 with data:=d,changed:=num+1,version:=Mc y.2.6 }):=λq f=>by simp only[Mg,Y (show ¬(3:Nat)=1 by decide),Y (show ¬(3:Nat)=2 by decide),aZ]at f;obtain⟨y,U,rfl⟩:=f;by_cases e:y.1=p;rw[aL e];exact .inr ⟨y,U,e,X⟩;rw[Y e];exact .inl U
 refine⟨by simpa[Mg] using K,T,C,λq f=>?_,λq f=>?_⟩;obtain h|⟨y,U,e,rfl⟩:=L q f;exact G.4 q h;exact⟨Q,O⟩;obtain h|⟨y,U,e,rfl⟩:=L q f;exact j q h;obtain⟨b,c,g,M,e,i⟩:=j y U;have:=ZL e i;exact⟨b,c,by simp only;omega,by simp only;omega,this.1,this.2⟩
def TrN.done(T:TrN a r){kind}(E:kind=1∨kind=2∨kind=3){p d n z}(b:d.size<=40)(S:(Ji p).size<=24/\a (Ji p)=true):TrN a (Mg kind r p d n z):=by refine⟨λq f=>?_⟩;obtain rfl|rfl|rfl:=E;simp[Mg]at f;obtain h|rfl:=f;exact T.1 q h;grind;simp[Mg]at f;exact T.1 q f.1;simp only[Mg,Y (show ¬(3:Nat)=1 by decide),Y (show ¬(3:Nat)=2 by decide),aZ]at f;obtain⟨y,U,rfl⟩:=f;by_cases e:y.1=p;grind;rw[Y e];exact T.1 y U
def Ajn(Z:(p,x)∈r):(p,({ x with data:=d,changed:=z,version:=Mc x.version }:Nd))∈Mg 3 r p d n z:=by simp[Mg, aZ];grind
def kinds(C:1<=k)(M:k<=7):k=1∨k=2∨k=3∨k=4∨k=5∨k=6∨k=7:=T
def Aci(C:1<=k)(M:k<=7):parse (rqS k).data.toList=je (.mk lr (Np k)):=by obtain rfl|rfl|rfl|rfl|rfl|rfl|rfl:=kinds C M<;>rfl
def Ahk(C:1<=k)(M:k<=7):2<=(Np k).length/\(k≠7->4<=(Np k).length):=by obtain rfl|rfl|rfl|rfl|rfl|rfl|rfl:=kinds C M<;>simp[Np]
section
variable {o:iD} {F:iI} {y:Nat}
def JM{v}(h:AK o (.mk lr (Np k)) body=je v):iY body<=1000/\iY v.l=(Np k).length/\∀(j:Nat)t(x:Orch.V),(Np k)[j]?=je t->v.l[j]?=je x->fits o t x=true:=by rw[AK]at h;split at h;cases h;split at h;rename_i U f;have ⟨_,_,T,q⟩:=take_rec o Aa f;grind;cases h
def YF{l:List Orch.V}(h:iY l=2):∃a b,l = [a,b]:=by match l,h with|[a,b],_=>exact⟨a,b,X⟩
def Afw{l:List Orch.V}(h:iY l=4):∃a b c d,l = [a,b,c,d]:=by match l,h with|[a,b,c,d],_=>grind
def Aqn{l:List Orch.V}(h:iY l=5):∃a b c d e,l = [a,b,c,d,e]:=by match l,h with|[a,b,c,d,e],_=>grind
def VR(U:Hq o F)(w)(G:Vk F y w)(ab:8<=y)(body:iE)(q:iY body<=1000)(T)(u:Hy w T body){r}(h:No o body=je r):Calls ow 64 #[.int .i64 1,T] w λe b=>e=.returned (Ama r)/\iT w b:=by
 have N:=u;have z:0<iZ w.1:=by have:=G.1;omega
 have V:=G.2;have A:=G.3;rw[No]at h;split at h;cases h;have S:4<=iY body:=Aa;split at h;rotate_left;cases h;rename_i Y;obtain⟨kind,m⟩:∃kind:Nat,sgn (body.take 4)=kind:=⟨(sgn (body.take 4)).toNat,Aa⟩;have X:1<=kind:=Aa;have E:kind<=7:=Aa;rw[m,eR]at h;have s:=G.4 _ ⟨X,E⟩;have Q:=Aci X E;have a7:∀W,iT w W->Calls ow 114 #[T] W λe b=>e=.returned (.tuple #[.int .i64 kind,.bool true])/\b=W:=λW k=>Wq W _ _ S q (N.below k (aA _)) kind m Aa Aa;split at h;cases h;rename_i a8 v;split at h;cases h;rename_i B;obtain rfl:=aC h;obtain⟨_,O,R⟩:=JM v;obtain⟨nn,H,Z⟩:=a8;simp only[Orch.V.l]at O R B⊢;have HF:∀W,iT w W->∀i K,Z=i::K->Calls ow 115 #[.string (rqS kind),T] W λe b=>∃g c,e=.returned (.tuple #[.slice (je (iQ g)) (iY K+1) c,.bool true])/\iY K+1<=c/\(∀j x,(i::K)[j]?=je x->b.cell? ⟨g,j * 3,none⟩=je (.int .i64 x.n)/\b.cell? ⟨g,j * 3+1,none⟩=je (.string x.s))/\g<iZ b.1/\iT W b:=λW k i K hv=>by apply(Ur U W (U.2 (U.3 V) k V) (A.below k A.pos) _ _ Q _ _ q (N.below k (aA _)) _ v).mono;rintro e b⟨⟨lv,rfl,a1⟩,ad⟩;rw[show(Orch.V.mk nn H Z).l=i::K from hv]at a1;obtain⟨g,c,rfl,M,hg,a6⟩:=Xl a1;grind
 obtain⟨i,t,d,rfl⟩:∃i t d,Z=i::t::d:=by have:=(Ahk X E).1;match Z,O with|a::I::r,_=>grind|[a],h=>simp at h;omega|[],h=>simp at h;omega
 simp only[List.getD_cons_succ,List.getD_cons_zero]at B;have J:0<=t.n:=Aa;obtain rfl|rfl|rfl|rfl|rfl|rfl|rfl:=kinds X E;obtain⟨p,f,rfl⟩:=YF (l:=d) Wb;exact MK U w V A 1 Aa Aa _ s z _ Q body q S m nn H i t J [p,f] Ae v T u p.s f.s iU 0 vy λg c P W M l n=>OV W P 0 g 6 c t.n p.s f.s n (M 0 _ iW).2 (M 1 _ iW).2 l;obtain⟨p,x,rfl⟩:=YF (l:=d) Wb;exact MK U w V A 2 Aa Aa _ s z _ Q body q S m nn H i t J [p,x] Ae v T u p.s iU iU x.n vy λg c P W M l n=>OW W P 0 g 6 c t.n p.s x.n n (M 0 _ iW).2 (M 1 _ iW).1 l;obtain⟨p,f,x,rfl⟩:∃a I c,d = [a,I,c]:=by match d,O with|[a,I,c],_=>grind|[],h=>simp[Np]at h|[_],h=>simp[Np]at h|[_,_],h=>simp[Np]at h|_::_::_::_::_,h=>simp[Np]at h
 exact MK U w V A 3 Aa Aa _ s z _ Q body q S m nn H i t J [p,f,x] Ae v T u p.s f.s iU x.n vy λg c P W M l n=>Aez W P 0 g 6 c t.n p.s f.s x.n n (M 0 _ iW).2 (M 1 _ iW).2 (M 2 _ iW).1 l;iterate 3 obtain⟨p,L,rfl⟩:=YF (l:=d) Wb;exact MK U w V A _ Aa Aa _ s z _ Q body q S m nn H i t J [p,L] Ae v T u p.s iU iU 0 (L.n==1) λg c P W M l n=>Aav W P g c t.n p.s _ _ ⟨Ae,(fits_q o (R 3 _ L iW iW)).2⟩ n (M 0 _ iW).2 (M 1 _ iW).1 l
 obtain rfl:d = []:=by have:iY d=0:=Wb;exact bJ.1 this
 obtain⟨I,off,ae,rfl,C,af,D⟩:=u;refine Amb w 7 Aa _ _ _ 2 Aa (rqS 7) t.n B iU iU iU 0 vy (λ_ _ _=>True) s z a7 (λW k=>(HF W k i [t] iW).mono ?_) λ_ _ _ sv _ _ _ W _ n=>Aaw W _ sv t.n n;rintro e b⟨g,c,rfl,M,a6,hg,aa⟩;exact⟨g,c,iW,M,(a6 1 _ iW).1,trivial,hg,aa⟩
structure Apm(o:iD)(r:Rq):Prop where
 k1:1<=r.kind
 k7:r.kind<=7
 m0:0<=r.m
 m1:r.m<=2147483647
 p:r.p.size<=200
 pv:r.kind≠7->o r.p=true
 d:r.d.size<=200
 v0:-2147483648<=r.ver
 v1:r.ver<=2147483647
def Ag9{r}(h:No o body=je r):Apm o r:=by rw[No]at h;split at h;cases h;split at h;rotate_left;cases h;rename_i q Y;obtain⟨kind,m⟩:∃kind:Nat,sgn (body.take 4)=kind:=⟨(sgn (body.take 4)).toNat,T⟩;rw[m]at h Y;have M:kind<=7:=T;split at h;cases h;rename_i v y;obtain⟨_,O,R⟩:=JM y;split at h;cases h;rename_i f;obtain rfl:=aC h;obtain⟨nn,H,Z⟩:=v;simp[Orch.V.l]at O R f⊢;have N:(j:iF).size=0:=X;obtain rfl|rfl|rfl|rfl|rfl|rfl|rfl:=kinds T M;obtain⟨a,b,c,d,rfl⟩:=Afw (l:=Z) Wb;refine K7g λD K=>?_;have g:=fits_b o (R 3 _ d X X);exact⟨by simp[Xm],by simp[Xm],by simpa[Xm] using f,D.2.2,K.2.1,λ_=>K.2.2,g.2,by simp[Xm],by simp[Xm]⟩;obtain⟨a,b,c,d,rfl⟩:=Afw (l:=Z) Wb;refine K7g λD K=>?_;have g:=E o (R 3 _ d X X);simp at f;exact⟨by simp[Xm],by simp[Xm],by simpa[Xm] using f,D.2.2,K.2.1,λ_=>K.2.2,by simp[Xm,N],g.2.1,g.2.2⟩;obtain⟨a,b,c,d,e,rfl⟩:=Aqn (l:=Z) Wb;refine K7g λD K=>?_;have J:=E o (R 4 _ e X X);simp at f;exact⟨by simp[Xm],by simp[Xm],by simpa[Xm] using f,D.2.2,K.2.1,λ_=>K.2.2,(fits_b o (R 3 _ d X X)).2,J.2.1,J.2.2⟩;(iterate 3 obtain⟨a,b,c,d,rfl⟩:=Afw (l:=Z) Wb;refine K7g λD K=>?_;simp at f;exact⟨by simp[Xm],by simp[Xm],by simpa[Xm] using f,D.2.2,K.2.1,λ_=>K.2.2,by simp[Xm,N],by simp[Xm],by simp[Xm]⟩);obtain⟨a,b,rfl⟩:=YF (l:=Z) Wb;simp at f;exact⟨by simp[Xm],by simp[Xm],by simpa[Xm] using f,(E o (R 1 _ b X X)).2.2,by simp[Xm,N],λh=>absurd X h,by simp[Xm,N],by simp[Xm],by simp[Xm]⟩
end
def Ad3(kind:Nat)(mk:Int)(p d:R)(v:Int)(wt:Bool):Rq:=
 if kind=1 then⟨1,mk,p,d,0,vy⟩ else if kind=2 then⟨2,mk,p,j,v,vy⟩ else if kind=3 then⟨3,mk,p,d,v,vy⟩ else if kind=7 then⟨7,mk,j,j,0,vy⟩ else⟨kind,mk,p,j,0,wt⟩
def Ph{r v}(C:1<=k)(M:k<=7)(D:body=N k 4++r)(y:AK a (.mk lr (Np k)) body=je v)(L:¬(v.l.getD 1 (Orch.num 0)).n<0):No a body=je (Xm k v.l):=by
 have R:body.take 4=N k 4:=by rw[D,cR (by rw[I];exact aA _),bE (by rw[I];exact aA _)]
 have s:sgn (N k 4)=k:=by obtain rfl|rfl|rfl|rfl|rfl|rfl|rfl:=kinds C M<;>decide
 rw[No,Y (by rw[D,aH,I];omega),R,s,aL ⟨T,T⟩,eR,y];simp only;rw[Y L]
def Jo(a b:R):(a++b).data.toList=a.data.toList++b.data.toList:=Ae
def Ng(s):(Gj s).data.toList=O s:=by rw[Gj,Jo,I0]
def Alg(b):(wB b).data.toList=N (if b then 1 else 0) 1:=by cases b<;>decide
section
variable {valid:iD} {mk:Int} {wt:Bool}
def Ab8{k:Nat}(C:1<=k)(M:k<=7)(o:0<=mk)(i:mk<=2147483647)(Q:p.size<=200)(q:valid p=true)(y:d.size<=200)(S:-2147483648<=v)(K:v<=2147483647):No valid (Uj k mk p d v wt).data.toList=je (Ad3 k mk p d v wt):=by
 have G:-2147483648<=mk:=T;have a:∀k:Nat,1<=k->k<=7->put valid 9 [] (.mk lr [t4,t4,tt,tq]) (.mk 0 j [Orch.num k,Orch.num mk,U p,Orch.num (if wt then 1 else 0)])=je (N k 4++(N mk 4++(O p++(N (if wt then 1 else 0) 1++[])))):=λk C M=>by have H:iY p.1.1=p.size:=X;have:=puts_rec valid (k:=8) (l:=lr) X (.cons (L valid (n:=(k:Int)) T T) (.cons (L valid G i) (.cons (puts_t valid Q q) (.cons (puts_q valid (n:=if wt then 1 else 0) (by split<;>omega) (by split<;>omega)) .nil)))) [] (by simp[aH,I,H,aR];omega);simpa using this
 have Y:∀k:Nat,k=4∨k=5∨k=6->No valid (b4 k++b4 mk++Gj p++wB wt).1.1=je (Xm k [Orch.num k,Orch.num mk,U p,Orch.num (if wt then 1 else 0)]):=λk E=>by (have e:(b4 k++b4 mk++Gj p++wB wt).1.1=N k 4++(N mk 4++(O p++(N (if wt then 1 else 0) 1++[]))):=by rw[Jo,Jo,Jo,I0,I0,Ng,Alg];simp);rw[e];(have R:Np k = [t4,t4,tt,tq]:=by obtain rfl|rfl|rfl:=E<;>rfl);exact Ph (v:=.mk 0 j [Orch.num k,Orch.num mk,U p,Orch.num (if wt then 1 else 0)]) T T X (R▸Ns valid parse_exists (a k T T)) Ain
 obtain rfl|rfl|rfl|rfl|rfl|rfl|rfl:=kinds C M;have e:(Uj (1:Nat) mk p d v wt).1.1=N (1:Nat) 4++(N mk 4++(O p++(O d++[]))):=by show(b4 1++b4 mk++Gj p++Gj d).1.1=_;rw[Jo,Jo,Jo,I0,I0,Ng,Ng];simp
 rw[e];exact Ph (v:=.mk 0 j [Orch.num 1,Orch.num mk,U p,U d]) W W X (Ns valid parse_create (put_create valid G i Q q y)) Ain;have e:(Uj (2:Nat) mk p d v wt).1.1=N (2:Nat) 4++(N mk 4++(O p++(N v 4++[]))):=by show(b4 2++b4 mk++Gj p++b4 v).1.1=_;rw[Jo,Jo,Jo,I0,I0,Ng,I0];simp
 rw[e];exact Ph (v:=.mk 0 j [Orch.num 2,Orch.num mk,U p,Orch.num v]) W W X (Ns valid parse_delete (Orch.put_delete valid G i Q q S K)) Ain;have e:(Uj (3:Nat) mk p d v wt).1.1=N (3:Nat) 4++(N mk 4++(O p++(O d++(N v 4++[])))):=by show(b4 3++b4 mk++Gj p++Gj d++b4 v).1.1=_;rw[Jo,Jo,Jo,Jo,I0,I0,Ng,Ng,I0];simp
 rw[e];exact Ph (v:=.mk 0 j [Orch.num 3,Orch.num mk,U p,U d,Orch.num v]) W W X (Ns valid parse_set (put_set valid G i Q q y S K)) Ain;apply(Y 4 W).trans;cases wt<;>rfl;apply(Y 5 W).trans;cases wt<;>rfl;apply(Y 6 W).trans;cases wt<;>rfl;have e:(Uj (7:Nat) mk p d v wt).1.1=N (7:Nat) 4++(N mk 4++[]):=by show(b4 7++b4 mk).1.1=_;rw[Jo,I0,I0];simp
 rw[e];have f:put valid 9 [] (.mk lr [t4,t4]) (.mk 0 j [Orch.num 7,Orch.num mk])=je (N 7 4++(N mk 4++[])):=by have:=puts_rec valid (k:=8) (l:=lr) X (.cons (L valid (n:=7) T T) (.cons (L valid G i) .nil)) [] (by simp only[aH,I,aR];omega);simpa using this
 exact Ph (v:=.mk 0 j [Orch.num 7,Orch.num mk]) W W X (Ns valid parse_ping f) Ain
end
end Go.Proofs.Y
