import Derived.Test.YtcbilgmfdgpomaaGreatDoorQ06
open List renaming length → iK,length → L
open Array renaming size → iL,size → r
set_option maxHeartbeats 2000000
set_option maxRecDepth 8000
set_option linter.all false
open Option renaming none → jh,some → lj
open Go.Proofs.Tryz renaming prog → y7,results184 → vk,ntmps147 → uk,func147 → ub,prog → Q
open Go renaming World → gk,Calls → xq,Value → uo,wpList_store_row → kn,heap_setCell_other → p7,Addr → lg,bodyPost_ret → fy,Calls → R
open Go.RowKit.Below renaming heap_alloc → ir
open Bool renaming true → km,false → sd
open Go.Proofs.Tryz Orch
variable {S W:gk}{T:uo}{h:gS}{l:gT}{p q:Prop}{z:gX}
theorem F5i(k:q)(h:Hd q->p:=by
 intro kz;refine Ht (λX=>X.1[w.1.size+1]?=some (.cells #[.int .i64 0,.string iG,.slice none 0 0] 183)/\Below w.1.size w X) ⟨setRow_heap _ _ _ _ _ _ I.out,Cr (O.out.alloc O.out.size _) (cQ _) _⟩ ?_;exact kz.1):p:=h ⟨k⟩
theorem Hxg(k:q)(h:Hd q->p:=by
 intro kz;have D:Hid (w.1.size+2<=((w.alloc (.cells #[.int .u8 g,.int .i64 sh,.int .i64 P,.int .i64 f,.int .i64 V,.bool K,.int .u8 u,.slice F b d] 208)).alloc (.cells #[.int .i64 0,.string iG,.slice none 0 0] 183)).1.size):=by show _<=_;simp
 revert D;exact kz.1):p:=h ⟨k⟩
theorem Fws(k:q)(h:Hd q->p:=by
 intro kz;obtain⟨l,J⟩:=Ru w (.cells #[.int .u8 a,.int .i64 c,.int .i64 P,.int .i64 s,.int .i64 V,.bool K,.int .u8 u,.slice F b d] 208) (.cells #[.int .i64 0,.string iG,.slice none 0 0] 183);have U:=hide J;revert l J U;exact kz.1):p:=h ⟨k⟩
theorem Q17(k:q)(h:Hd q->p:=by
 intro kz;obtain⟨A,J⟩:=Ru w (.cells #[.int .u8 g,.int .i64 sh,.int .i64 P,.int .i64 f,.int .i64 V,.bool K,.int .u8 u,.slice F b d] 208) (.cells #[.int .i64 0,.string iG,.slice none 0 0] 183);have U:=hide J;revert A J U;exact kz.1):p:=h ⟨k⟩
theorem Cqz(h:p:=by
 obtain⟨d,G,rfl⟩:=q.shape;obtain⟨J,r,L,rfl,_⟩:=R w u
 grind):p:=h
theorem Gjk(h:p:=by
 refine Ht (λX=>X.1[w.1.size+1]?=some (.cells #[.int .i64 0,.string iG,.slice none 0 0] 183)∧Below w.1.size w X) ⟨setRow_heap _ _ _ _ _ _ I.out,Cr (O.out.alloc O.out.size _) (cQ _) _⟩ ?_;rintro X⟨o,E⟩;exact bodyPost_ret (v:=.tuple #[vv 0 iG (.slice none 0 0),.bool false]) (by simp[results,Tryz.results147,go_sem,(cellOf (j:=0) o iI),(cellOf (j:=1) o iI),(cellOf (j:=2) o iI)]) iI ⟨iI,E⟩):p:=h
theorem Lo2(h:p:=by
 obtain⟨l,J⟩:=Ru w (.cells #[.int .u8 a,.int .i64 c,.int .i64 P,.int .i64 s,.int .i64 V,.bool K,.int .u8 u,.slice F b d] 208) (.cells #[.int .i64 0,.string iG,.slice none 0 0] 183);have U:=hide J;clear l J;go_enter Tryz.func220,Tryz.ntmps220;go_wp2_with (first
  |(refine wpList_store_row iI 183 _ _ iI (w.1.size+1) #[.int .i64 0,.string iG,.slice none 0 0] iI iI 183 _ I.out Tryz.size183 iI (Qg _ _ _ _ _) ?_)
  |(go_at_call 221;refine(h.out _ (Dj _ _ _)).mono ?_;rintro e H⟨rfl,M⟩;have I:=hide ((M.block _ (ltOf U.out)).trans U.out);have O:=hide ((Dj _ _ _).trans (M.mono Ah));clear M))
 refine Ht (λX=>X.1[w.1.size+1]?=some (.cells #[.int .i64 0,.string iG,.slice none 0 0] 183)∧Below w.1.size w X) ⟨setRow_heap _ _ _ _ _ _ I.out,Cr O.out (cQ _) _⟩ ?_;rintro X⟨o,E⟩;have ⟨c0,Q,R⟩:=Jh o iI;have q:=hide E;clear E o;exact bodyPost_ret (v:=.tuple #[vv 0 iG (.slice none 0 0),.slice none 0 0,.bool false]) (by simp[results,Tryz.results220,go_sem,c0,Q,R]) iI ⟨⟨_,_,_,_,_,_,_,_,iI⟩,q.out⟩):p:=h
namespace Go.Proofs.YtcbilgmfdgpomaaGreatDoor
variable {e:Ending}
open Go.RowKit
def Aj6(b off cap k n:Nat)(e:Ending):Prop:=∃b' off' cap',e=.returned (.tuple #[.int .i64 n,.slice (lj ⟨b',off',jh⟩) (k - 4) cap',.bool km])/\((cap=4/\b'=b/\off'=off/\cap'=0)∨(¬cap=4/\b'=b/\off'=off+4/\cap'=cap - 4))
theorem Yb(w:gk)(b off I:Nat)(l:gT)(K:iK l<=1000)(C:iK l<=I)(D:Bytes w b off l)(m:Nat)(L:m<=1000)(n:Nat)(a:gT)(h:count l m=lj (n,a)):R Q 221 #[.slice (lj (iD b off)) (iK l) I,.int .i64 m] w λe B=>Aj6 b off I (iK l) n e/\iF w B:=by
 unfold count at h;split at h
 ·cases h
 ·split at h
  ·cases h
  ·rename_i q r;simp only[aT,cS]at h;obtain⟨rfl,rfl⟩:=h;have c:=Ii w b off 4 I (l.take 4) Ai Aa (D.take 4);have H:¬(iK l:Int)<4:=Aa;refine Kyl λt=>?_;clear D;generalize Orch.uns (l.take 4)=X at *;have d:¬(m:Int)<X:=Aa;generalize (iK l)=k at *;go_enter func221,ntmps221;go_wp2_with (go_at_call 156;refine c.mono ?_;rintro e B⟨rfl,rfl⟩);go_region
   all_goals go_wp2
   all_goals go_ret3
   all_goals first
    |exact⟨⟨b,off,0,iI,Or.inl ⟨iI,iI,iI,iI⟩⟩,Fg _⟩
    |exact⟨⟨b,off+4,I - 4,iI,Or.inr ⟨‹_›,iI,iI,iI⟩⟩,Fg _⟩
theorem BF(w:gk)(a c P s V:Int)(K:Bool)(u:Int)(F:hU)(b d:Nat)(T:uo)(h:Hid (∀B,iF w B->R Q 221 #[T,.int .i64 200] B λe t=>e=.returned (.tuple #[.int .i64 0,.slice jh 0 0,.bool sd])/\iF B t)):R Q 220 #[Ia a c P s V K u (.slice F b d),T] w λe B=>Ra e/\iF w B:=by
 exact Lo2
theorem Ya(w:gk)(a c P s V:Int)(K:Bool)(u:Int)(F:hU)(b d:Nat)(T:uo)(f off k n g:Nat)(i:k<n)(z:n<=200)(h:Hid (∀B,iF w B->R Q 221 #[T,.int .i64 200] B λe t=>e=.returned (.tuple #[.int .i64 n,.slice (lj (iD f off)) k g,.bool km])/\iF B t)):R Q 220 #[Ia a c P s V K u (.slice F b d),T] w λe B=>Ra e/\iF w B:=by
 have N:(k:Int)<(n:Int):=Aa;exact Lo2
section
variable {Tabs:gX}
theorem Afw(U:It h Tabs)(v:gk)(V:Tabs v)(k:Nat)(t:Ty)(c:CN (k+1) t)(P:t.l.shape=0)(F:hU)(d:Nat)(T:uo)(l:gT)(K:L l<=1000)(u:J5 v T l):R Q 219 #[E6 t.l (.slice F (L t.ps) d),T] v λe B=>Ih v B T l e (Orch.take h (k+1) t l)/\iF v B:=by
 obtain⟨b,off,I,rfl,C,Y,D⟩:=u;have f:=Uk c.1 P;rw[Orch.take];simp only[P];by_cases q:L l<t.l.size
 ·rw[aL q];have H:(L l:Int)<((t.l.size):Int):=Aa;go_enter func219,ntmps219;go_wp2;exact fy (v:=.tuple #[vv 0 iG (.slice jh 0 0),.slice jh 0 0,.bool sd]) (by simp[results,results219,go_sem]) iI ⟨⟨_,_,_,_,_,_,_,_,iI⟩,Dj _ _ _⟩
 ·rw[aM q];have H:∀(v:gk)(b off I:Nat)(x:gT),L x=t.l.size->Bytes v b off x->R Q 158 #[.slice (lj (iD b off)) t.l.size I] v λe B=>e=.returned (.int .i64 (sgn x))/\B=v:=by
   rcases f with a|a|a<;>rw[a]
   ·exact λv b off I x=>Afd v b off I x
   ·exact λv b off I x=>BA v b off I x
   ·exact λv b off I x=>Afe v b off I x
  refine(Yc v t.l.sign.toNat t.l.shape t.l.size t.l.least t.l.5 t.l.text t.l.fin.toNat F (L t.ps) d b off (L l) I _ _ K C Aa Y q
   (λB a=>Zo U B a t c F d (.mk (sgn (l.take t.l.size)) iG []) jh 0) (λB a=>U.kept (U.size V) a V)
   (λB g=>H B b off I _ Ai (λi j=>(g.cell (p:=⟨b,off+i,jh⟩) Y).trans (D.take _ i j)))).mono ?_
  rintro e B⟨y,rfl,E,Z⟩;refine⟨?_,Z⟩;have N:(ByteArray.empty)=(iG:gU):=iI;rw[N];cases m:fits h t _ with
  |false=>
   rw[aM Ad,E];by_cases M:I=t.l.size
   ·rw[aL M];exact⟨_,_,_,_,_,_,_,_,iI⟩
   ·rw[aM M];exact⟨_,_,_,_,_,_,_,_,iI⟩
  |true=>
   refine⟨_,y,iI,.nil _ _,?_,Tq.nil _ _⟩;rw[E];exact Ks.cut b off I l _ Aa
theorem WO(U:It h Tabs)(v:gk)(W:Tabs v)(m:Nat)(t:Ty)(S:CN (m+1) t)(P:t.l.shape=1)(F:hU)(d:Nat)(T:uo)(l:gT)(K:iK l<=1000)(u:J5 v T l):xq y7 220 #[E6 t.l (.slice F (iK t.ps) d),T] v λe w=>Ih v w T l e (Orch.take h (m+1) t l)/\iF v w:=by
 have H:∀w,iF v w->xq y7 221 #[T,.int .i64 200] w λe f=>Px T l 200 e/\iF w f:=λw D=>Sb w T l K (u.below D (aC _)) 200 Aa;rw[Orch.take];simp only[P];unfold Px at H;cases g:count l 200 with
 |none=>
  rw[g]at H;exact BF v _ _ _ _ _ _ _ F _ d T H
 |some y=>
  obtain⟨n,a⟩:=y;clear H;obtain⟨b,off,I,rfl,C,Y,D⟩:=u;have G:=count_some g;have A:a=l.drop 4:=by
   unfold count at g
   grind
  have o:iK a=iK l - 4:=Aa;have r:∀w,iF v w->xq y7 221 #[.slice (lj (iD b off)) (iK l) I,.int .i64 200] w λe f=>(∃j Q L,e=.returned (.tuple #[.int .i64 n,.slice (lj (iD j Q)) (iK l - 4) L,.bool km])/\((I=4/\j=b/\Q=off/\L=0)∨(¬I=4/\j=b/\Q=off+4/\L=I - 4)))/\iF w f:=λw x=>
   Yb w b off I l K C (λi V=>(x.cell (p:=⟨b,off+i,jh⟩) Y).trans (D i V)) 200 Aa n a g
  obtain⟨O,N,p,R,J,X⟩:∃O N,(∀w,iF v w->xq y7 221 #[.slice (lj (iD b off)) (iK l) I,.int .i64 200] w λe f=>e=.returned (.tuple #[.int .i64 n,.slice (lj (iD b O)) (iK a) N,.bool km])/\iF w f) /\
    Ks (.slice (lj (iD b off)) (iK l) I) l (.slice (lj (iD b O)) (iK a) N) a/\Bytes v b O a/\iK a<=N:=by
   have hcut:=Ks.cut b off I l 4 Aa;by_cases q:I=4
   ·refine⟨off,0,λw x=>(r w x).mono ?_,?_,?_,Aa⟩
    ·grind
    ·grind
    ·intro i V;omega
   ·refine⟨off+4,I - 4,λw x=>(r w x).mono ?_,?_,?_,Aa⟩
    ·rintro e f⟨⟨j,Q,L,rfl,c|c⟩,Z⟩
     ·exact absurd c.1 q
     ·obtain⟨_,rfl,rfl,rfl⟩:=c;exact⟨by rw[o],Z⟩
    ·rw[aM q,←A]at hcut;rwa[o]
    ·rw[A];exact D.drop 4
  clear r;simp only;by_cases z:iK a<n
  ·rw[aL z];exact Ya v _ _ _ _ _ _ _ F _ d _ b O (iK a) n N z G.1 p
  ·rw[aM z];have s:(a.take n).length=n:=Ai;have B:strOfNums ((a.take n).map λk=>(k.toNat:Int))=(⟨(a.take n).toArray⟩:gU):=by
    unfold strOfNums
    congr 2
    rw[cW]
    conv=>rhs;rw[←fG (a.take n)]
    apply dF;intro k _;simp
   refine(BE (Tabs:=Tabs) v t.l.sign.toNat t.l.shape t.l.size t.l.least t.l.5 t.l.text t.l.fin.toNat F (iK t.ps) d _ b O (iK a) n N ⟨(a.take n).toArray⟩ (fits h t (bytesV (a.take n))) Aa X Y Aa p
    (λw c=>Zo U w c t S F d (bytesV (a.take n)) jh 0) (λw c=>U.kept (U.size W) c W)
    (λw x=>by
     have:=run_convert_bytes_arg (P:=y7) w 37 5 underlying37 underlying5 b O n N ((a.take n).map λk=>(k.toNat:Int)) (by rw[bV,s]) (λi V=>by
      have a1:=(x.cell (p:=⟨b,O+i,jh⟩) Y).trans (J.take n i (by rwa[s]));rw[a1,cO,aS,aH (by rwa[s])]
      rfl) 9 underlying9
     rwa[B]at this)).mono ?_
   rintro e w⟨a6,rfl,E,Z⟩;refine⟨?_,Z⟩;cases a7:fits h t (bytesV (a.take n)) with
   |false=>
    rw[aM Ad,E];by_cases M:N=n
    ·rw[aL M];exact⟨_,_,_,_,_,_,_,_,iI⟩
    ·rw[aM M];exact⟨_,_,_,_,_,_,_,_,iI⟩
   |true=>
    rw[aL iI];refine⟨_,a6,iI,.nil _ _,R.trans ?_,Tq.nil _ _⟩;rw[E];exact Ks.cut b O N a n Aa
end
section
theorem VR{o:Option (List Orch.V×gT)}(h:Ajh W S T l e o):Ih W S T l e (o.map listV):=by
 cases o with
 |none=>exact h
 |some X=>exact h
theorem ZD{o:Option (Orch.V×gT)}(h:Ih W S T l e o):∃(n:Int)(s:gU)(a:hU)(m c:Nat)(y:uo)(b:Bool),e=.returned (.tuple #[vv n s (.slice a m c),y,.bool b]):=by
 cases o with
 |none=>obtain⟨n,s,a,d,m,c,f,B,rfl⟩:=h;grind
 |some p=>
  obtain⟨g,y,rfl,q,_⟩:=h;obtain⟨a,c,rfl⟩:=q.shape
  grind
theorem O6{f:FuncId}{a:gY}{o:Option (Orch.V×gT)}(h:R Q f a W λe B=>Ih W B T l e o/\iF W B):R Q f a W (handed (λW v S=>Ih W S T l (.returned v) o) W):=by
 refine h.mono ?_;rintro e B⟨Y,D⟩;obtain⟨n,s,b,m,c,y,d,rfl⟩:=ZD Y;exact⟨⟨n,s,b,m,c,y,d,iI,Y⟩,D⟩
theorem IS{w B:gk}{o:Option (Orch.V×gT)}(h:Adw (λW v S=>Ih W S T l (.returned v) o) w e B):Ih w B T l e o/\iF w B:=by
 obtain⟨⟨W,S,v,rfl,Y,s,C,E⟩,D⟩:=h;refine⟨?_,D⟩;cases o with
 |none=>exact Y
 |some p=>
  have ⟨d,y,N,q,R⟩:=Y;exact⟨d,y,N,q.congr (λb a=>⟨Aa,Aa⟩) (λb a=>E b Aa),R.1,R.2.keep Aa Aa (λb a _=>E b Aa)⟩
theorem Aie(U:It h z)(k:Nat)(L:Aa0 h z k):PC h z (k+1):=by
 intro w V t f S X Z m T l K u;obtain⟨F,d,rfl⟩:=Z.shape;have i:∀W,iF w W->z W:=λW a=>U.kept (U.size V) a V;have C:∀W,iF w W->J5 W T l:=λW a=>u.below a (aC _);have p:∀W,iF w W->E7 W S t.ps (.slice F (iK t.ps) d):=λW a=>Z.congr (λ_ P=>P) (λc D=>a.block c (m c D));have q:∀W,iF w W->∀c,S c->c<iL W.1:=λW a c D=>aA (m c D) a.size;rcases Nv f.1 with a|a|a|a
 ·have M:=λW (D:iF w W)=>O6 (Afw U W (i W D) k t f a F d T l K (C W D));simp only[E6,a]at M⊢;exact(SZ w _ _ _ _ _ _ _ F _ d T 219 _ _ (.inl ⟨iI,.inl ⟨iI,iI⟩⟩) M).mono λe b N=>IS N
 ·have M:=λW (D:iF w W)=>O6 (WO U W (i W D) k t f a F d T l K (C W D));simp only[E6,a]at M⊢;exact(SZ w _ _ _ _ _ _ _ F _ d T 220 _ _ (.inl ⟨iI,.inr ⟨iI,iI⟩⟩) M).mono λe b N=>IS N
 ·have H:=λW (D:iF w W)=>Sb W T l K (C W D) 32 Aa;rw[Orch.take];simp only[a];unfold Px at H;cases M:count l 32 with
  |none=>
   rw[M]at H;simp only[E6,a];exact TC w _ _ _ _ _ _ F _ d T H
  |some I=>
   obtain⟨n,g⟩:=I;rw[M]at H;have J:=count_some M;have j:∀W v,Ks T l v g->iF w W->xq y7 222 #[E6 t.l (.slice F (iK t.ps) d),.int .i64 n,v] W λe b=>Ih W b T l e ((takeE (Orch.take h k) t n 0 g).map listV)/\iF W b:=λW v r D=>by
    refine(L W (i W D) t f S _ (p W D) (q W D) n Aa (Or.inl a) v g Aa (r W (C W D))).mono ?_;rintro e b⟨Y,o⟩;refine⟨?_,o⟩;have:=VR Y;cases O:(takeE (Orch.take h k) t n 0 g).map listV with
    |none=>rwa[O]at this
    |some s=>
     rw[O]at this;obtain⟨Q,a1⟩:=s;obtain⟨B,y,N,x,R,G⟩:=this;exact⟨B,y,N,x,r.trans R,G⟩
   have E:=λW v (A:Ks T l v g) (D:iF w W)=>O6 (j W v A D);simp only[E6,a]at E⊢;exact(Al9 w _ _ _ _ _ _ F _ d T _ n (λv=>Ks T l v g) H E).mono λe b N=>IS N
 ·rw[Orch.take];simp only[a];have j:∀W,iF w W->xq y7 222 #[E6 t.l (.slice F (iK t.ps) d),.int .i64 (iK t.ps),T] W λe b=>Ih W b T l e ((takeE (Orch.take h k) t (iK t.ps) 0 l).map listV)/\iF W b:=λW D=>by
   refine(L W (i W D) t f S _ (p W D) (q W D) (iK t.ps) f.2.2.1 (Or.inr ⟨a,iI⟩) T l K (C W D)).mono ?_;rintro e b⟨Y,o⟩;exact⟨VR Y,o⟩
  have E:=λW (D:iF w W)=>O6 (j W D);simp only[E6,a]at E⊢;exact(SZ w _ _ _ _ _ _ _ F _ d T 222 _ _ (.inr ⟨iI,iI,iI⟩) E).mono λe b N=>IS N
theorem Amc(U:It h z):∀k,PC h z k:=by
 intro k
 induction k with
 |zero=>intro w _ t l;exact absurd l (by simp[CN])
 |succ k O=>exact Aie U k (Afs U k O)
end
def FP(valid:gS)(t:Ty)(l:gT):Option (Orch.V×gT):=
 match Orch.take valid 9 t (l.take 1000) with
 |none=>jh
 |some (v,rest)=>lj (v,l.drop ((l.take 1000).length - L rest))
def Ajm(w w':gk)(bv:uo)(l:gT)(e:Ending):Option (Orch.V×gT)->Prop
 |none=>e=.returned (.tuple #[vv 0 iG (.slice jh 0 0),.slice jh 0 0,.bool sd])
 |some (v,rest)=>∃lv rv,e=.returned (.tuple #[OO v lv,rv,.bool km])/\D8 w' (λb=>r w.1<=b/\b<r w'.1) v.l lv/\Ks bv l rv rest/\Tq w.1.size w' v.l lv
theorem ZR(X:gk)(g:Nat)(a b c:uo)(k:Nat)(E:k≠g):(((X.setCell (iC g) a).setCell (iD g 1) b).setCell (iD g 2) c).1[k]?=X.1[k]?:=
 (p7 _ (iD g 2) k _ E).trans ((p7 _ (iD g 1) k _ E).trans (p7 _ (iC g) k _ E))
theorem ZS(X:gk)(g:Nat)(a b c:uo):(((X.setCell (iC g) a).setCell (iD g 1) b).setCell (iD g 2) c).1.size=r X.1:=by simp[World.setCell]
theorem Aio(w:gk)(g sh P:Nat)(f V:Int)(K:Bool)(u:Nat)(F:hU)(b d:Nat)(j off k e h:Nat)(L:(1000:Int)<k/\e=1000∨¬(1000:Int)<k/\e=k)(C:k<=h)(p:k<=9223372036854775807)(l:Hid (∀W,iF w W->R Q 207 #[Ia g sh P f V K u (.slice F b d),.slice (lj (iD j off)) e h] W λi B=>Ra i/\iF W B)):R Q 184 #[Ia g sh P f V K u (.slice F b d),.slice (lj (iD j off)) k h] w λi B=>i=.returned (.tuple #[vv 0 iG (.slice jh 0 0),.slice jh 0 0,.bool sd])/\iF w B:=by
 have q:(e:Int)<=(h:Int):=Aa;refine Q17 λA J U=>?_;clear A J;rcases L with⟨N,rfl⟩|⟨N,rfl⟩
 all_goals
  go_enter func184,ntmps184;go_wp2_with (first
   |(refine kn iI 183 _ _ iI (iL w.1+1) #[.int .i64 0,.string iG,.slice jh 0 0] iI iI 183 _ I.out Tryz.size183 iI (Qg _ _ _ _ _) ?_)
   |(go_at_call 207;refine(l.out _ (Dj _ _ _)).mono ?_;rintro i H⟨⟨n,s,a,r,m,c,t,v,rfl⟩,M⟩;have O:=hide ((Dj _ _ _).trans (M.mono Ah));have Z:=hide ((M.block _ (ltOf U.out)).trans U.out);have I:Hid ((H.alloc (.cells #[.int .i64 n,.string s,.slice a m c] 183)).1[iL w.1+1]?=lj (.cells #[.int .i64 0,.string iG,.slice jh 0 0] 183)):=(ir _ _ _ (ltOf Z.out)).trans Z.out;clear M))
  refine F5i ?_;rintro X⟨o,E⟩;exact fy (v:=.tuple #[vv 0 iG (.slice jh 0 0),.slice jh 0 0,.bool sd]) (by simp[results,vk,go_sem,(cellOf (j:=0) o iI),(cellOf (j:=1) o iI),(cellOf (j:=2) o iI)]) iI ⟨iI,E⟩
theorem Api(w:gk)(g sh P:Nat)(f V:Int)(K:Bool)(u:Nat)(F:hU)(b d:Nat)(e off k h l r:Nat)(hm:(1000:Int)<k/\h=1000∨¬(1000:Int)<k/\h=k)(ad:k<=l)(ae:k<=9223372036854775807)(hr:r<=h)(n:Int)(s:gU)(Q:gk->Option lg->Nat->Nat->gk->Prop)(R:Hid (∀X,iF w X->xq y7 207 #[Ia g sh P f V K u (.slice F b d),.slice (lj (iD e off)) h l] X λy B=>(∃a m c v z,y=.returned (.tuple #[vv n s (.slice a m c),.slice v r z,.bool km])/\Q X a m c B)/\iF X B)):xq y7 184 #[Ia g sh P f V K u (.slice F b d),.slice (lj (iD e off)) k l] w λy B=>(∃a m c X S,y=.returned (.tuple #[vv n s (.slice a m c),if l=h - r then .slice (lj (iD e off)) (k - (h - r)) 0 else .slice (lj ⟨e,off+(h - r),jh⟩) (k - (h - r)) (l - (h - r)),.bool km])/\Q X a m c S/\iL w.1+2<=iL X.1/\iL B.1=iL S.1+1/\∀e,e<iL S.1->e≠iL w.1+1->B.1[e]?=S.1[e]?)/\iF w B:=by
 have af:(h:Int)<=(l:Int):=Aa;have ah:h<=k:=Aa;obtain⟨i,C⟩:∃i,i=h - r:=⟨_,iI⟩;have a7:(h:Int) - (r:Int)=(i:Int):=Aa;have ai:(i:Int)<=(k:Int):=Aa;have aj:i<=k:=Aa;rw[←C];refine Q17 λA J U=>?_;clear A J;refine Hxg λD=>?_;have HD:=hide C;clear C;obtain⟨E,G⟩:∃E,E=if l=i then Value.slice (lj (iD e off)) (k - i) 0 else .slice (lj ⟨e,off+i,jh⟩) (k - i) (l - i):=⟨_,iI⟩;rw[←G];have q:=hide G;clear G;rcases hm with⟨hz,rfl⟩|⟨hz,rfl⟩
 all_goals
  first
   |replace a7:(1000:Int) - (r:Int)=(i:Int):=Aa
   |skip
  go_enter func184,ntmps184;go_wp2_with (go_at_call 207;refine(R.out _ (Dj _ _ _)).mono ?_;rintro y H⟨⟨a,m,c,v,z,rfl,L⟩,M⟩;have O:=hide ((Dj _ _ _).trans (M.mono Ah));have Z:=hide ((M.block _ (ltOf U.out)).trans U.out);have I:=hide L;clear L;clear M);have W:(H.alloc (.cells #[.int .i64 n,.string s,.slice a m c] 183)).1[iL w.1+1]?=_:=(ir _ _ _ (ltOf Z.out)).trans Z.out;refine BQ (λX=>iF w X/\X.1[iL w.1+1]?=lj (.cells #[.int .i64 0,.string iG,.slice jh 0 0] 183)/\X.1[iL H.1]?=lj (.cells #[.int .i64 n,.string s,.slice a m c] 183)/\iL X.1=iL H.1+1/\∀e,e<iL H.1->X.1[e]?=H.1[e]?) ⟨O.out.alloc O.out.size _,W,heap_alloc_new _ _,Ad,λe hb=>ir _ _ _ hb⟩ ?_;rintro X⟨N,j,p,Y,a1⟩;have a6:=ltOf Z.out;have ak:=hide (ltOf Z.out);have a8:=hide N;have aa:=hide Y;have ab:=hide a1;generalize hG:iL H.1=al at *;have HG:=hide hG;have ⟨x,t,T⟩:=Jh j iI;have ⟨f0,f1,f2,_⟩:=Gu j;have ⟨g0,g1,g2⟩:=Jh p iI;clear N Y a1 j p W U R hG;by_cases o:l=i
  all_goals first
   |(exfalso;omega)
   |go_region
 all_goals go_wp2
 all_goals refine fy (v:=.tuple #[vv n s (.slice a m c),E,.bool km]) ?_ iI ⟨⟨a,m,c,_,H,iI,I.out,D.out,?_,?_⟩,?_⟩
 all_goals try exact(Y6 a8.out _ (cQ _) _ _ _).drew
 all_goals try(rw[q.out,aL o];simp[results,vk,go_sem,x,t,T];done)
 all_goals try(rw[q.out,aM o];simp[results,vk,go_sem,x,t,T];done)
 all_goals try(rw[HG.out];exact(ZS _ _ _ _ _).trans aa.out)
 all_goals try(rw[HG.out];exact λk hk a6=>(ZR _ _ _ _ _ k a6).trans (ab.out k hk))
section
theorem Ami(U:It h z)(w:gk)(V:z w)(c:Ty)(n:CN 9 c)(S:gV)(X:uo)(Z:E7 w S c.ps X)(H:∀b,S b->b<r w.1)(T:uo)(l:gT)(K:L l<=9223372036854775807)(j:J5 w T l):xq y7 184 #[E6 c.l X,T] w λe a=>Ajm w a T l e (FP h c l)/\iF w a:=by
 obtain⟨F,g,rfl⟩:=Z.shape;have y:=j;obtain⟨b,off,I,rfl,C,Y,D⟩:=j;have p:(1000:Int)<(L l:Nat)/\(l.take 1000).length=1000∨¬(1000:Int)<(L l:Nat)/\(l.take 1000).length=L l:=Ai;have Q:(l.take 1000).length<=L l:=Ai;have u:J5 w (.slice (lj (iD b off)) (l.take 1000).length I) (l.take 1000):=⟨b,off,I,iI,Aa,Y,D.take 1000⟩;have M:∀W,iF w W->xq y7 207 #[E6 c.l (.slice F (L c.ps) g),.slice (lj (iD b off)) (l.take 1000).length I] W λe a=>Ih W a (.slice (lj (iD b off)) (l.take 1000).length I) (l.take 1000) e (Orch.take h 9 c (l.take 1000))/\iF W a:=λW N=>
  Amc U 9 W (U.kept (U.size V) N V) c n S _ (Z.congr (λ_ P=>P) (λb D=>N.block b (H b D))) (λb D=>aA (H b D) N.size) _ _ Ai (u.below N (aC _))
 unfold FP;cases i:Orch.take h 9 c (l.take 1000) with
 |none=>
  rw[i]at M;exact Aio w _ _ _ _ _ _ _ F _ g b off _ _ I p C K M
 |some v=>
  obtain⟨t,x⟩:=v;have a1:=take_len h i;rw[i]at M;refine(Api w _ _ _ _ _ _ _ F _ g b off _ _ I (L x) p C K Aa t.n t.s (λW d m f a=>D8 a (λb=>r W.1<=b/\b<r a.1) t.l (.slice d m f)/\Tq W.1.size a t.l (.slice d m f)) (λW N=>(M W N).mono ?_)).mono ?_
  ·rintro e a⟨⟨B,k,rfl,q,R,O⟩,o⟩;exact Cqz
  ·rintro e a⟨⟨d,m,f,W,a6,rfl,⟨q,O⟩,s,A,E⟩,o⟩;exact⟨⟨_,_,iI,q.congr (λb D=>⟨Aa,Aa⟩) (λb D=>E b D.2 Aa),Ks.cut b off I l _ Aa,O.keep Aa Aa (λb D Y=>E b Y Aa)⟩,o⟩
end
def Afz(w w':gk)(e:Ending):Option Orch.V->Prop
 |none=>e=.returned (.tuple #[vv 0 iG (.slice jh 0 0),.bool sd])
 |some v=>∃lv,e=.returned (.tuple #[OO v lv,.bool km])/\Tq w.1.size w' v.l lv
def Vf(valid:gS)(t:Ty)(l:gT):Option Orch.V:=
 if 1000<L l then jh else match Orch.take valid 9 t l with
  |some (v,[])=>lj v
  |_=>jh
theorem TD(a:gS){t:Ty}:Vf a t l=match FP a t l with
  |some (v,[])=>lj v
  |_=>jh:=by
 unfold Vf FP;by_cases K:1000<L l
 ·rw[aL K];cases f:Orch.take a 9 t (l.take 1000) with
  |none=>rfl
  |some g=>
   obtain⟨v,b⟩:=g;have:(l.drop ((l.take 1000).length - L b)).length≠0:=Aj
   grind
 ·rw[aM K,bO Aa];cases f:Orch.take a 9 t l with
  |none=>rfl
  |some g=>
   obtain⟨v,b⟩:=g;have o:=take_len a f;cases b with
   |nil=>simp
   |cons y j=>
    have:(l.drop (L l - (y::j).length)).length≠0:=Aj;simp only
    grind
theorem Aii(w:gk)(a c P:Nat)(s V:Int)(K:Bool)(u:Nat)(F:hU)(b d:Nat)(T:uo)(i:Hid (∀W,iF w W->R Q 184 #[Ia a c P s V K u (.slice F b d),T] W λh B=>h=.returned (.tuple #[vv 0 iG (.slice jh 0 0),.slice jh 0 0,.bool sd])/\iF W B)):R Q 147 #[Ia a c P s V K u (.slice F b d),T] w λh B=>Afz w B h jh/\iF w B:=by
 refine Fws λl J U=>?_;clear l J;go_enter ub,uk;go_wp2_with (first
  |(refine kn iI 183 _ _ iI (r w.1+1) #[.int .i64 0,.string iG,.slice jh 0 0] iI iI 183 _ I.out Tryz.size183 iI (Qg _ _ _ _ _) ?_)
  |(go_at_call 184;refine(i.out _ (Dj _ _ _)).mono ?_;rintro h H⟨rfl,M⟩;have O:=hide ((Dj _ _ _).trans (M.mono Ah));have Z:=hide ((M.block _ (ltOf U.out)).trans U.out);have I:Hid ((H.alloc (.cells #[.int .i64 0,.string iG,.slice jh 0 0] 183)).1[r w.1+1]?=lj (.cells #[.int .i64 0,.string iG,.slice jh 0 0] 183)):=(ir _ _ _ (ltOf Z.out)).trans Z.out;clear M))
 exact Gjk
theorem Aij(w:gk)(g k P:Nat)(f V:Int)(K:Bool)(u:Nat)(F:hU)(b d:Nat)(T:uo)(i:Hid (∀W,iF w W->R Q 184 #[Ia g k P f V K u (.slice F b d),T] W λh e=>(∃n s a m c j q B,h=.returned (.tuple #[vv n s (.slice a m c),.slice j q B,.bool km])/\0<q)/\iF W e)):R Q 147 #[Ia g k P f V K u (.slice F b d),T] w λh e=>Afz w e h jh/\iF w e:=by
 refine Sec λl J=>?_;have U:=hide J;clear l J;go_enter ub,uk;go_wp2_with (first
  |(refine kn iI 183 _ _ iI (r w.1+1) #[.int .i64 0,.string iG,.slice jh 0 0] iI iI 183 _ I.out Tryz.size183 iI (Qg _ _ _ _ _) ?_)
  |(go_at_call 184;refine(i.out _ (Dj _ _ _)).mono ?_;rintro h H⟨⟨n,s,a,m,c,j,q,B,rfl,L⟩,M⟩;have O:=hide ((Dj _ _ _).trans (M.mono Ah));have Z:=hide ((M.block _ (ltOf U.out)).trans U.out);have I:Hid ((H.alloc (.cells #[.int .i64 n,.string s,.slice a m c] 183)).1[r w.1+1]?=lj (.cells #[.int .i64 0,.string iG,.slice jh 0 0] 183)):=(ir _ _ _ (ltOf Z.out)).trans Z.out;have p:(0:Int)<(q:Int):=Aa;clear M))
 exact Gjk
theorem Aph(w:gk)(g sh P:Nat)(f V:Int)(K:Bool)(u:Nat)(F:hU)(b d:Nat)(T:uo)(n:Int)(s:gU)(t:gk->Option lg->Nat->Nat->gk->Prop)(i:Hid (∀W,iF w W->xq y7 184 #[Ia g sh P f V K u (.slice F b d),T] W λh B=>(∃a m c v z,h=.returned (.tuple #[vv n s (.slice a m c),.slice v 0 z,.bool km])/\t W a m c B)/\iF W B)):xq y7 147 #[Ia g sh P f V K u (.slice F b d),T] w λh B=>(∃a m c W k,h=.returned (.tuple #[vv n s (.slice a m c),.bool km])/\t W a m c k/\r w.1+2<=r W.1/\r B.1=r k.1+1/\∀e,e<r k.1->e≠r w.1+1->B.1[e]?=k.1[e]?)/\iF w B:=by
 refine Q17 λA J U=>?_;clear A J;refine Hxg λD=>?_;go_enter ub,uk;go_wp2_with (first
  |(refine kn iI 183 _ _ iI (r w.1+1) #[.int .i64 n,.string s,.slice a m c] iI iI 183 _ I.out Tryz.size183 iI (Qg _ _ _ _ _) ?_)
  |(go_at_call 184;refine(i.out _ (Dj _ _ _)).mono ?_;rintro h H⟨⟨a,m,c,v,z,rfl,L⟩,M⟩;have O:=hide ((Dj _ _ _).trans (M.mono Ah));have Z:=hide ((M.block _ (ltOf U.out)).trans U.out);have I:Hid ((H.alloc (.cells #[.int .i64 n,.string s,.slice a m c] 183)).1[r w.1+1]?=lj (.cells #[.int .i64 0,.string iG,.slice jh 0 0] 183)):=(ir _ _ _ (ltOf Z.out)).trans Z.out;have p:=hide L;clear L;clear M))
 refine Ht (λX=>X.1[r w.1+1]?=lj (.cells #[.int .i64 n,.string s,.slice a m c] 183)/\iF w X/\r X.1=r H.1+1/\∀e,e<r H.1->e≠r w.1+1->X.1[e]?=H.1[e]?) ⟨setRow_heap _ _ _ _ _ _ I.out,Cr (O.out.alloc O.out.size _) (cQ _) _,Ad,λe l q=>(setRow_other _ _ _ _ q).trans (ir _ _ _ l)⟩ ?_;rintro X⟨o,E,y,j⟩;have ⟨c0,Q,R⟩:=Jh o iI;have S:=hide E;have a1:=hide y;have a6:=hide j;clear E y j o;exact fy (v:=.tuple #[vv n s (.slice a m c),.bool km]) (by simp[results,results147,go_sem,c0,Q,R]) iI ⟨⟨a,m,c,_,H,iI,p.out,D.out,a1.out,a6.out⟩,S.out⟩
section
theorem Af0(U:It h z)(w:gk)(V:z w)(c:Ty)(p:CN 9 c)(S:gV)(X:uo)(Z:E7 w S c.ps X)(H:∀b,S b->b<r w.1)(T:uo)(l:gT)(K:L l<=9223372036854775807)(u:J5 w T l):xq y7 147 #[E6 c.l X,T] w λe a=>Afz w a e (Vf h c l)/\iF w a:=by
 obtain⟨F,g,rfl⟩:=Z.shape;have M:∀W,iF w W->xq y7 184 #[E6 c.l (.slice F (L c.ps) g),T] W λe a=>Ajm W a T l e (FP h c l)/\iF W a:=λW N=>
  Ami U W (U.kept (U.size V) N V) c p S _ (Z.congr (λ_ P=>P) (λb D=>N.block b (H b D))) (λb D=>aA (H b D) N.size) _ l K (u.below N (aC _))
 rw[TD];cases Q:FP h c l with
 |none=>
  rw[Q]at M;exact Aii w _ _ _ _ _ _ _ F _ g T M
 |some i=>
  obtain⟨t,j⟩:=i;rw[Q]at M;cases j with
  |cons y v=>
   refine Aij w _ _ _ _ _ _ _ F _ g T (λW N=>(M W N).mono ?_);rintro e a⟨⟨x,k,rfl,q,R,_⟩,o⟩;exact Cqz
  |nil=>
   refine(Aph w _ _ _ _ _ _ _ F _ g T t.n t.s (λW d m f a=>Tq W.1.size a t.l (.slice d m f)) (λW N=>(M W N).mono ?_)).mono ?_
   ·rintro e a⟨⟨x,k,rfl,q,R,O⟩,o⟩;exact Cqz
   ·rintro e a⟨⟨d,m,f,W,n,rfl,q,s,C,E⟩,o⟩;exact⟨⟨_,iI,q.keep Aa Aa (λb D Y=>E b Y Aa)⟩,o⟩
end
end Go.Proofs.YtcbilgmfdgpomaaGreatDoor
