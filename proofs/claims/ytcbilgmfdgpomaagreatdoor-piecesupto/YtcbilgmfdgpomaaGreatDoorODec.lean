import Derived.Test.YtcbilgmfdgpomaaGreatDoorQ06
open List renaming length → iR,length → L
open Array renaming size → iS,size → r
set_option maxHeartbeats 2000000
set_option maxRecDepth 8000
set_option linter.all false
open Option renaming none → su,some → ni
open Go.Proofs.Tryz renaming prog → qz,results184 → vk,ntmps147 → uk,func147 → ub,prog → Q
open Go renaming World → qg,Calls → sf,Value → w8,wpList_store_row → kn,heap_setCell_other → mg,Addr → rj,bodyPost_ret → wj,Calls → R
open Go.RowKit.Below renaming heap_alloc → rm
open Bool renaming true → tu,false → o9
open Go.Proofs.Tryz Orch
variable {S W:qg}{T:w8}{h:gZ}{l:hQ}{p q:Prop}{z:iA}
def Sec(k:q)(h:Hd q->p:=by
 intro kz;obtain⟨l,J⟩:=Sg w (.cells #[.int .u8 g,.int .i64 k,.int .i64 P,.int .i64 f,.int .i64 V,.bool K,.int .u8 u,.slice F b d] 208) (.cells #[.int .i64 0,.string iN,.slice none 0 0] 183);revert l J;exact kz.1):p:=h ⟨k⟩
def F5i(k:q)(h:Hd q->p:=by
 intro kz;refine Hq (λX=>X.1[w.1.size+1]?=some (.cells #[.int .i64 0,.string iN,.slice none 0 0] 183)/\Below w.1.size w X) ⟨setRow_heap _ _ _ _ _ _ I.out,Cu (O.out.alloc O.out.size _) (cQ _) _⟩ ?_;exact kz.1):p:=h ⟨k⟩
def Hxg(k:q)(h:Hd q->p:=by
 intro kz;have D:Hid (w.1.size+2<=((w.alloc (.cells #[.int .u8 g,.int .i64 sh,.int .i64 P,.int .i64 f,.int .i64 V,.bool K,.int .u8 u,.slice F b d] 208)).alloc (.cells #[.int .i64 0,.string iN,.slice none 0 0] 183)).1.size):=by show _<=_;simp
 revert D;exact kz.1):p:=h ⟨k⟩
def Fws(k:q)(h:Hd q->p:=by
 intro kz;obtain⟨l,J⟩:=Sg w (.cells #[.int .u8 a,.int .i64 c,.int .i64 P,.int .i64 s,.int .i64 V,.bool K,.int .u8 u,.slice F b d] 208) (.cells #[.int .i64 0,.string iN,.slice none 0 0] 183);have U:=hide J;revert l J U;exact kz.1):p:=h ⟨k⟩
def Q17(k:q)(h:Hd q->p:=by
 intro kz;obtain⟨A,J⟩:=Sg w (.cells #[.int .u8 g,.int .i64 sh,.int .i64 P,.int .i64 f,.int .i64 V,.bool K,.int .u8 u,.slice F b d] 208) (.cells #[.int .i64 0,.string iN,.slice none 0 0] 183);have U:=hide J;revert A J U;exact kz.1):p:=h ⟨k⟩
def Cqz(h:p:=by
 obtain⟨d,G,rfl⟩:=q.shape;obtain⟨J,r,L,rfl,_⟩:=R w u
 grind):p:=h
def Gjk(h:p:=by
 refine Hq (λX=>X.1[w.1.size+1]?=some (.cells #[.int .i64 0,.string iN,.slice none 0 0] 183)∧Below w.1.size w X) ⟨setRow_heap _ _ _ _ _ _ I.out,Cu (O.out.alloc O.out.size _) (cQ _) _⟩ ?_;rintro X⟨o,E⟩;exact bodyPost_ret (v:=.tuple #[vv 0 iN (.slice none 0 0),.bool false]) (by simp[results,Tryz.results147,go_sem,(cellOf (j:=0) o iP),(cellOf (j:=1) o iP),(cellOf (j:=2) o iP)]) iP ⟨iP,E⟩):p:=h
def Lo2(h:p:=by
 obtain⟨l,J⟩:=Sg w (.cells #[.int .u8 a,.int .i64 c,.int .i64 P,.int .i64 s,.int .i64 V,.bool K,.int .u8 u,.slice F b d] 208) (.cells #[.int .i64 0,.string iN,.slice none 0 0] 183);have U:=hide J;clear l J;go_enter Tryz.func220,Tryz.ntmps220;go_wp2_with (first
  |(refine wpList_store_row iP 183 _ _ iP (w.1.size+1) #[.int .i64 0,.string iN,.slice none 0 0] iP iP 183 _ I.out Tryz.size183 iP (Qp _ _ _ _ _) ?_)
  |(go_at_call 221;refine(h.out _ (Dk _ _ _)).mono ?_;rintro e H⟨rfl,M⟩;have I:=hide ((M.block _ (ltOf U.out)).trans U.out);have O:=hide ((Dk _ _ _).trans (M.mono Ah));clear M))
 refine Hq (λX=>X.1[w.1.size+1]?=some (.cells #[.int .i64 0,.string iN,.slice none 0 0] 183)∧Below w.1.size w X) ⟨setRow_heap _ _ _ _ _ _ I.out,Cu O.out (cQ _) _⟩ ?_;rintro X⟨o,E⟩;have ⟨c0,Q,R⟩:=Jn o iP;have q:=hide E;clear E o;exact bodyPost_ret (v:=.tuple #[vv 0 iN (.slice none 0 0),.slice none 0 0,.bool false]) (by simp[results,Tryz.results220,go_sem,c0,Q,R]) iP ⟨⟨_,_,_,_,_,_,_,_,iP⟩,q.out⟩):p:=h
namespace Go.Proofs.YtcbilgmfdgpomaaGreatDoor
variable {e:Ending}
open Go.RowKit
def Zy0(b off cap k n:Nat)(e:Ending):Prop:=∃b' off' cap',e=.returned (.tuple #[.int .i64 n,.slice (ni ⟨b',off',su⟩) (k - 4) cap',.bool tu])/\((cap=4/\b'=b/\off'=off/\cap'=0)∨(¬cap=4/\b'=b/\off'=off+4/\cap'=cap - 4))
def Zy1(w:qg)(b off I:Nat)(l:hQ)(K:iR l<=1000)(C:iR l<=I)(D:Bytes w b off l)(m:Nat)(L:m<=1000)(n:Nat)(a:hQ)(h:count l m=ni (n,a)):R Q 221 #[.slice (ni (iK b off)) (iR l) I,.int .i64 m] w λe B=>Zy0 b off I (iR l) n e/\iM w B:=by
 unfold count at h;split at h
 ·cases h
 ·split at h
  ·cases h
  ·rename_i q r;simp only[aW,cW]at h;obtain⟨rfl,rfl⟩:=h;have c:=Iu w b off 4 I (l.take 4) Aj Aa (D.take 4);have H:¬(iR l:Int)<4:=Aa;refine Kyl λt=>?_;clear D;generalize Orch.uns (l.take 4)=X at *;have d:¬(m:Int)<X:=Aa;generalize (iR l)=k at *;go_enter func221,ntmps221;go_wp2_with (go_at_call 156;refine c.mono ?_;rintro e B⟨rfl,rfl⟩);go_region
   all_goals go_wp2
   all_goals go_ret3
   all_goals first
    |exact⟨⟨b,off,0,iP,Or.inl ⟨iP,iP,iP,iP⟩⟩,Fo _⟩
    |exact⟨⟨b,off+4,I - 4,iP,Or.inr ⟨‹_›,iP,iP,iP⟩⟩,Fo _⟩
def Zy2(w:qg)(a c P s V:Int)(K:Bool)(u:Int)(F:iE)(b d:Nat)(T:w8)(h:Hid (∀B,iM w B->R Q 221 #[T,.int .i64 200] B λe t=>e=.returned (.tuple #[.int .i64 0,.slice su 0 0,.bool o9])/\iM B t)):R Q 220 #[Il a c P s V K u (.slice F b d),T] w λe B=>Rw e/\iM w B:=by
 exact Lo2
def Zy3(w:qg)(a c P s V:Int)(K:Bool)(u:Int)(F:iE)(b d:Nat)(T:w8)(f off k n g:Nat)(i:k<n)(z:n<=200)(h:Hid (∀B,iM w B->R Q 221 #[T,.int .i64 200] B λe t=>e=.returned (.tuple #[.int .i64 n,.slice (ni (iK f off)) k g,.bool tu])/\iM B t)):R Q 220 #[Il a c P s V K u (.slice F b d),T] w λe B=>Rw e/\iM w B:=by
 have N:(k:Int)<(n:Int):=Aa;exact Lo2
section
variable {Tabs:iA}
def Zy4(U:Im h Tabs)(v:qg)(V:Tabs v)(k:Nat)(t:Ty)(c:CW (k+1) t)(P:t.l.shape=0)(F:iE)(d:Nat)(T:w8)(l:hQ)(K:L l<=1000)(u:J8 v T l):R Q 219 #[Fa t.l (.slice F (L t.ps) d),T] v λe B=>It v B T l e (Orch.take h (k+1) t l)/\iM v B:=by
 obtain⟨b,off,I,rfl,C,Y,D⟩:=u;have f:=U1 c.1 P;rw[Orch.take];simp only[P];by_cases q:L l<t.l.size
 ·rw[aJ q];have H:(L l:Int)<((t.l.size):Int):=Aa;go_enter func219,ntmps219;go_wp2;exact wj (v:=.tuple #[vv 0 iN (.slice su 0 0),.slice su 0 0,.bool o9]) (by simp[results,results219,go_sem]) iP ⟨⟨_,_,_,_,_,_,_,_,iP⟩,Dk _ _ _⟩
 ·rw[aL q];have H:∀(v:qg)(b off I:Nat)(x:hQ),L x=t.l.size->Bytes v b off x->R Q 158 #[.slice (ni (iK b off)) t.l.size I] v λe B=>e=.returned (.int .i64 (sgn x))/\B=v:=by
   rcases f with a|a|a<;>rw[a]
   ·exact λv b off I x=>Ae9 v b off I x
   ·exact λv b off I x=>BN v b off I x
   ·exact λv b off I x=>Afa v b off I x
  refine(Yj v t.l.sign.toNat t.l.shape t.l.size t.l.least t.l.5 t.l.text t.l.fin.toNat F (L t.ps) d b off (L l) I _ _ K C Aa Y q
   (λB a=>Zv U B a t c F d (.mk (sgn (l.take t.l.size)) iN []) su 0) (λB a=>U.kept (U.size V) a V)
   (λB g=>H B b off I _ Aj (λi j=>(g.cell (p:=⟨b,off+i,su⟩) Y).trans (D.take _ i j)))).mono ?_
  rintro e B⟨y,rfl,E,Z⟩;refine⟨?_,Z⟩;have N:(ByteArray.empty)=(iN:hU):=iP;rw[N];cases m:fits h t _ with
  |false=>
   rw[aL Ad,E];by_cases M:I=t.l.size
   ·rw[aJ M];exact⟨_,_,_,_,_,_,_,_,iP⟩
   ·rw[aL M];exact⟨_,_,_,_,_,_,_,_,iP⟩
  |true=>
   refine⟨_,y,iP,.nil _ _,?_,Ui.nil _ _⟩;rw[E];exact Kq.cut b off I l _ Aa
def Zy5(U:Im h Tabs)(v:qg)(W:Tabs v)(m:Nat)(t:Ty)(S:CW (m+1) t)(P:t.l.shape=1)(F:iE)(d:Nat)(T:w8)(l:hQ)(K:iR l<=1000)(u:J8 v T l):sf qz 220 #[Fa t.l (.slice F (iR t.ps) d),T] v λe w=>It v w T l e (Orch.take h (m+1) t l)/\iM v w:=by
 have H:∀w,iM v w->sf qz 221 #[T,.int .i64 200] w λe f=>P8 T l 200 e/\iM w f:=λw D=>Sw w T l K (u.below D (aB _)) 200 Aa;rw[Orch.take];simp only[P];unfold P8 at H;cases g:count l 200 with
 |none=>
  rw[g]at H;exact Zy2 v _ _ _ _ _ _ _ F _ d T H
 |some y=>
  obtain⟨n,a⟩:=y;clear H;obtain⟨b,off,I,rfl,C,Y,D⟩:=u;have G:=count_some g;have A:a=l.drop 4:=by
   unfold count at g
   grind
  have o:iR a=iR l - 4:=Aa;have r:∀w,iM v w->sf qz 221 #[.slice (ni (iK b off)) (iR l) I,.int .i64 200] w λe f=>(∃j Q L,e=.returned (.tuple #[.int .i64 n,.slice (ni (iK j Q)) (iR l - 4) L,.bool tu])/\((I=4/\j=b/\Q=off/\L=0)∨(¬I=4/\j=b/\Q=off+4/\L=I - 4)))/\iM w f:=λw x=>
   Zy1 w b off I l K C (λi V=>(x.cell (p:=⟨b,off+i,su⟩) Y).trans (D i V)) 200 Aa n a g
  obtain⟨O,N,p,R,J,X⟩:∃O N,(∀w,iM v w->sf qz 221 #[.slice (ni (iK b off)) (iR l) I,.int .i64 200] w λe f=>e=.returned (.tuple #[.int .i64 n,.slice (ni (iK b O)) (iR a) N,.bool tu])/\iM w f) /\
    Kq (.slice (ni (iK b off)) (iR l) I) l (.slice (ni (iK b O)) (iR a) N) a/\Bytes v b O a/\iR a<=N:=by
   have hcut:=Kq.cut b off I l 4 Aa;by_cases q:I=4
   ·refine⟨off,0,λw x=>(r w x).mono ?_,?_,?_,Aa⟩
    ·grind
    ·grind
    ·intro i V;omega
   ·refine⟨off+4,I - 4,λw x=>(r w x).mono ?_,?_,?_,Aa⟩
    ·rintro e f⟨⟨j,Q,L,rfl,c|c⟩,Z⟩
     ·exact absurd c.1 q
     ·obtain⟨_,rfl,rfl,rfl⟩:=c;exact⟨by rw[o],Z⟩
    ·rw[aL q,←A]at hcut;rwa[o]
    ·rw[A];exact D.drop 4
  clear r;simp only;by_cases z:iR a<n
  ·rw[aJ z];exact Zy3 v _ _ _ _ _ _ _ F _ d _ b O (iR a) n N z G.1 p
  ·rw[aL z];have s:(a.take n).length=n:=Aj;have B:strOfNums ((a.take n).map λk=>(k.toNat:Int))=(⟨(a.take n).toArray⟩:hU):=by
    unfold strOfNums
    congr 2
    rw[cY]
    conv=>rhs;rw[←fL (a.take n)]
    apply dH;intro k _;simp
   refine(BQ (Tabs:=Tabs) v t.l.sign.toNat t.l.shape t.l.size t.l.least t.l.5 t.l.text t.l.fin.toNat F (iR t.ps) d _ b O (iR a) n N ⟨(a.take n).toArray⟩ (fits h t (bytesV (a.take n))) Aa X Y Aa p
    (λw c=>Zv U w c t S F d (bytesV (a.take n)) su 0) (λw c=>U.kept (U.size W) c W)
    (λw x=>by
     have:=run_convert_bytes_arg (P:=qz) w 37 5 underlying37 underlying5 b O n N ((a.take n).map λk=>(k.toNat:Int)) (by rw[bU,s]) (λi V=>by
      have a1:=(x.cell (p:=⟨b,O+i,su⟩) Y).trans (J.take n i (by rwa[s]));rw[a1,cZ,aT,aG (by rwa[s])]
      rfl) 9 underlying9
     rwa[B]at this)).mono ?_
   rintro e w⟨a6,rfl,E,Z⟩;refine⟨?_,Z⟩;cases a7:fits h t (bytesV (a.take n)) with
   |false=>
    rw[aL Ad,E];by_cases M:N=n
    ·rw[aJ M];exact⟨_,_,_,_,_,_,_,_,iP⟩
    ·rw[aL M];exact⟨_,_,_,_,_,_,_,_,iP⟩
   |true=>
    rw[aJ iP];refine⟨_,a6,iP,.nil _ _,R.trans ?_,Ui.nil _ _⟩;rw[E];exact Kq.cut b O N a n Aa
end
def Zy6{o:Option (List Orch.V×hQ)}(h:Ajl W S T l e o):It W S T l e (o.map listV):=by
 cases o with
 |none=>exact h
 |some X=>exact h
def Zy7{o:Option (Orch.V×hQ)}(h:It W S T l e o):∃(n:Int)(s:hU)(a:iE)(m c:Nat)(y:w8)(b:Bool),e=.returned (.tuple #[vv n s (.slice a m c),y,.bool b]):=by
 cases o with
 |none=>obtain⟨n,s,a,d,m,c,f,B,rfl⟩:=h;grind
 |some p=>
  obtain⟨g,y,rfl,q,_⟩:=h;obtain⟨a,c,rfl⟩:=q.shape
  grind
def Zy8{f:FuncId}{a:iB}{o:Option (Orch.V×hQ)}(h:R Q f a W λe B=>It W B T l e o/\iM W B):R Q f a W (handed (λW v S=>It W S T l (.returned v) o) W):=by
 refine h.mono ?_;rintro e B⟨Y,D⟩;obtain⟨n,s,b,m,c,y,d,rfl⟩:=Zy7 Y;exact⟨⟨n,s,b,m,c,y,d,iP,Y⟩,D⟩
def Zy9{w B:qg}{o:Option (Orch.V×hQ)}(h:Ads (λW v S=>It W S T l (.returned v) o) w e B):It w B T l e o/\iM w B:=by
 obtain⟨⟨W,S,v,rfl,Y,s,C,E⟩,D⟩:=h;refine⟨?_,D⟩;cases o with
 |none=>exact Y
 |some p=>
  have ⟨d,y,N,q,R⟩:=Y;exact⟨d,y,N,q.congr (λb a=>⟨Aa,Aa⟩) (λb a=>E b Aa),R.1,R.2.keep Aa Aa (λb a _=>E b Aa)⟩
def Zy10(U:Im h z)(k:Nat)(L:Aa9 h z k):PO h z (k+1):=by
 intro w V t f S X Z m T l K u;obtain⟨F,d,rfl⟩:=Z.shape;have i:∀W,iM w W->z W:=λW a=>U.kept (U.size V) a V;have C:∀W,iM w W->J8 W T l:=λW a=>u.below a (aB _);have p:∀W,iM w W->Fc W S t.ps (.slice F (iR t.ps) d):=λW a=>Z.congr (λ_ P=>P) (λc D=>a.block c (m c D));have q:∀W,iM w W->∀c,S c->c<iS W.1:=λW a c D=>aC (m c D) a.size;rcases Nq f.1 with a|a|a|a
 ·have M:=λW (D:iM w W)=>Zy8 (Zy4 U W (i W D) k t f a F d T l K (C W D));simp only[Fa,a]at M⊢;exact(TK w _ _ _ _ _ _ _ F _ d T 219 _ _ (.inl ⟨iP,.inl ⟨iP,iP⟩⟩) M).mono λe b N=>Zy9 N
 ·have M:=λW (D:iM w W)=>Zy8 (Zy5 U W (i W D) k t f a F d T l K (C W D));simp only[Fa,a]at M⊢;exact(TK w _ _ _ _ _ _ _ F _ d T 220 _ _ (.inl ⟨iP,.inr ⟨iP,iP⟩⟩) M).mono λe b N=>Zy9 N
 ·have H:=λW (D:iM w W)=>Sw W T l K (C W D) 32 Aa;rw[Orch.take];simp only[a];unfold P8 at H;cases M:count l 32 with
  |none=>
   rw[M]at H;simp only[Fa,a];exact TM w _ _ _ _ _ _ F _ d T H
  |some I=>
   obtain⟨n,g⟩:=I;rw[M]at H;have J:=count_some M;have j:∀W v,Kq T l v g->iM w W->sf qz 222 #[Fa t.l (.slice F (iR t.ps) d),.int .i64 n,v] W λe b=>It W b T l e ((takeE (Orch.take h k) t n 0 g).map listV)/\iM W b:=λW v r D=>by
    refine(L W (i W D) t f S _ (p W D) (q W D) n Aa (Or.inl a) v g Aa (r W (C W D))).mono ?_;rintro e b⟨Y,o⟩;refine⟨?_,o⟩;have:=Zy6 Y;cases O:(takeE (Orch.take h k) t n 0 g).map listV with
    |none=>rwa[O]at this
    |some s=>
     rw[O]at this;obtain⟨Q,a1⟩:=s;obtain⟨B,y,N,x,R,G⟩:=this;exact⟨B,y,N,x,r.trans R,G⟩
   have E:=λW v (A:Kq T l v g) (D:iM w W)=>Zy8 (j W v A D);simp only[Fa,a]at E⊢;exact(Amk w _ _ _ _ _ _ F _ d T _ n (λv=>Kq T l v g) H E).mono λe b N=>Zy9 N
 ·rw[Orch.take];simp only[a];have j:∀W,iM w W->sf qz 222 #[Fa t.l (.slice F (iR t.ps) d),.int .i64 (iR t.ps),T] W λe b=>It W b T l e ((takeE (Orch.take h k) t (iR t.ps) 0 l).map listV)/\iM W b:=λW D=>by
   refine(L W (i W D) t f S _ (p W D) (q W D) (iR t.ps) f.2.2.1 (Or.inr ⟨a,iP⟩) T l K (C W D)).mono ?_;rintro e b⟨Y,o⟩;exact⟨Zy6 Y,o⟩
  have E:=λW (D:iM w W)=>Zy8 (j W D);simp only[Fa,a]at E⊢;exact(TK w _ _ _ _ _ _ _ F _ d T 222 _ _ (.inr ⟨iP,iP,iP⟩) E).mono λe b N=>Zy9 N
def Zy11(U:Im h z):∀k,PO h z k:=by
 intro k
 induction k with
 |zero=>intro w _ t l;exact absurd l (by simp[CW])
 |succ k O=>exact Zy10 U k (Afo U k O)
def Zy12(valid:gZ)(t:Ty)(l:hQ):Option (Orch.V×hQ):=
 match Orch.take valid 9 t (l.take 1000) with
 |none=>su
 |some (v,rest)=>ni (v,l.drop ((l.take 1000).length - L rest))
def Zy13(w w':qg)(bv:w8)(l:hQ)(e:Ending):Option (Orch.V×hQ)->Prop
 |none=>e=.returned (.tuple #[vv 0 iN (.slice su 0 0),.slice su 0 0,.bool o9])
 |some (v,rest)=>∃lv rv,e=.returned (.tuple #[OY v lv,rv,.bool tu])/\D9 w' (λb=>r w.1<=b/\b<r w'.1) v.l lv/\Kq bv l rv rest/\Ui w.1.size w' v.l lv
def Zy14(X:qg)(g:Nat)(a b c:w8)(k:Nat)(E:k≠g):(((X.setCell (iJ g) a).setCell (iK g 1) b).setCell (iK g 2) c).1[k]?=X.1[k]?:=
 (mg _ (iK g 2) k _ E).trans ((mg _ (iK g 1) k _ E).trans (mg _ (iJ g) k _ E))
def Zy15(X:qg)(g:Nat)(a b c:w8):(((X.setCell (iJ g) a).setCell (iK g 1) b).setCell (iK g 2) c).1.size=r X.1:=by simp[World.setCell]
def Zy16(w:qg)(g sh P:Nat)(f V:Int)(K:Bool)(u:Nat)(F:iE)(b d:Nat)(j off k e h:Nat)(L:(1000:Int)<k/\e=1000∨¬(1000:Int)<k/\e=k)(C:k<=h)(p:k<=9223372036854775807)(l:Hid (∀W,iM w W->R Q 207 #[Il g sh P f V K u (.slice F b d),.slice (ni (iK j off)) e h] W λi B=>Rw i/\iM W B)):R Q 184 #[Il g sh P f V K u (.slice F b d),.slice (ni (iK j off)) k h] w λi B=>i=.returned (.tuple #[vv 0 iN (.slice su 0 0),.slice su 0 0,.bool o9])/\iM w B:=by
 have q:(e:Int)<=(h:Int):=Aa;refine Q17 λA J U=>?_;clear A J;rcases L with⟨N,rfl⟩|⟨N,rfl⟩
 all_goals
  go_enter func184,ntmps184;go_wp2_with (first
   |(refine kn iP 183 _ _ iP (iS w.1+1) #[.int .i64 0,.string iN,.slice su 0 0] iP iP 183 _ I.out Tryz.size183 iP (Qp _ _ _ _ _) ?_)
   |(go_at_call 207;refine(l.out _ (Dk _ _ _)).mono ?_;rintro i H⟨⟨n,s,a,r,m,c,t,v,rfl⟩,M⟩;have O:=hide ((Dk _ _ _).trans (M.mono Ah));have Z:=hide ((M.block _ (ltOf U.out)).trans U.out);have I:Hid ((H.alloc (.cells #[.int .i64 n,.string s,.slice a m c] 183)).1[iS w.1+1]?=ni (.cells #[.int .i64 0,.string iN,.slice su 0 0] 183)):=(rm _ _ _ (ltOf Z.out)).trans Z.out;clear M))
  refine F5i ?_;rintro X⟨o,E⟩;exact wj (v:=.tuple #[vv 0 iN (.slice su 0 0),.slice su 0 0,.bool o9]) (by simp[results,vk,go_sem,(cellOf (j:=0) o iP),(cellOf (j:=1) o iP),(cellOf (j:=2) o iP)]) iP ⟨iP,E⟩
def Zy17(w:qg)(g sh P:Nat)(f V:Int)(K:Bool)(u:Nat)(F:iE)(b d:Nat)(e off k h l r:Nat)(hm:(1000:Int)<k/\h=1000∨¬(1000:Int)<k/\h=k)(ad:k<=l)(ae:k<=9223372036854775807)(hr:r<=h)(n:Int)(s:hU)(Q:qg->Option rj->Nat->Nat->qg->Prop)(R:Hid (∀X,iM w X->sf qz 207 #[Il g sh P f V K u (.slice F b d),.slice (ni (iK e off)) h l] X λy B=>(∃a m c v z,y=.returned (.tuple #[vv n s (.slice a m c),.slice v r z,.bool tu])/\Q X a m c B)/\iM X B)):sf qz 184 #[Il g sh P f V K u (.slice F b d),.slice (ni (iK e off)) k l] w λy B=>(∃a m c X S,y=.returned (.tuple #[vv n s (.slice a m c),if l=h - r then .slice (ni (iK e off)) (k - (h - r)) 0 else .slice (ni ⟨e,off+(h - r),su⟩) (k - (h - r)) (l - (h - r)),.bool tu])/\Q X a m c S/\iS w.1+2<=iS X.1/\iS B.1=iS S.1+1/\∀e,e<iS S.1->e≠iS w.1+1->B.1[e]?=S.1[e]?)/\iM w B:=by
 have af:(h:Int)<=(l:Int):=Aa;have ah:h<=k:=Aa;obtain⟨i,C⟩:∃i,i=h - r:=⟨_,iP⟩;have a7:(h:Int) - (r:Int)=(i:Int):=Aa;have ai:(i:Int)<=(k:Int):=Aa;have aj:i<=k:=Aa;rw[←C];refine Q17 λA J U=>?_;clear A J;refine Hxg λD=>?_;have HD:=hide C;clear C;obtain⟨E,G⟩:∃E,E=if l=i then Value.slice (ni (iK e off)) (k - i) 0 else .slice (ni ⟨e,off+i,su⟩) (k - i) (l - i):=⟨_,iP⟩;rw[←G];have q:=hide G;clear G;rcases hm with⟨hz,rfl⟩|⟨hz,rfl⟩
 all_goals
  first
   |replace a7:(1000:Int) - (r:Int)=(i:Int):=Aa
   |skip
  go_enter func184,ntmps184;go_wp2_with (go_at_call 207;refine(R.out _ (Dk _ _ _)).mono ?_;rintro y H⟨⟨a,m,c,v,z,rfl,L⟩,M⟩;have O:=hide ((Dk _ _ _).trans (M.mono Ah));have Z:=hide ((M.block _ (ltOf U.out)).trans U.out);have I:=hide L;clear L;clear M);have W:(H.alloc (.cells #[.int .i64 n,.string s,.slice a m c] 183)).1[iS w.1+1]?=_:=(rm _ _ _ (ltOf Z.out)).trans Z.out;refine CC (λX=>iM w X/\X.1[iS w.1+1]?=ni (.cells #[.int .i64 0,.string iN,.slice su 0 0] 183)/\X.1[iS H.1]?=ni (.cells #[.int .i64 n,.string s,.slice a m c] 183)/\iS X.1=iS H.1+1/\∀e,e<iS H.1->X.1[e]?=H.1[e]?) ⟨O.out.alloc O.out.size _,W,heap_alloc_new _ _,Ad,λe hb=>rm _ _ _ hb⟩ ?_;rintro X⟨N,j,p,Y,a1⟩;have a6:=ltOf Z.out;have ak:=hide (ltOf Z.out);have a8:=hide N;have aa:=hide Y;have ab:=hide a1;generalize hG:iS H.1=al at *;have HG:=hide hG;have ⟨x,t,T⟩:=Jn j iP;have ⟨f0,f1,f2,_⟩:=Iv j;have ⟨g0,g1,g2⟩:=Jn p iP;clear N Y a1 j p W U R hG;by_cases o:l=i
  all_goals first
   |(exfalso;omega)
   |go_region
 all_goals go_wp2
 all_goals refine wj (v:=.tuple #[vv n s (.slice a m c),E,.bool tu]) ?_ iP ⟨⟨a,m,c,_,H,iP,I.out,D.out,?_,?_⟩,?_⟩
 all_goals try exact(Zd a8.out _ (cQ _) _ _ _).drew
 all_goals try(rw[q.out,aJ o];simp[results,vk,go_sem,x,t,T];done)
 all_goals try(rw[q.out,aL o];simp[results,vk,go_sem,x,t,T];done)
 all_goals try(rw[HG.out];exact(Zy15 _ _ _ _ _).trans aa.out)
 all_goals try(rw[HG.out];exact λk hk a6=>(Zy14 _ _ _ _ _ k a6).trans (ab.out k hk))
def Zy18(U:Im h z)(w:qg)(V:z w)(c:Ty)(n:CW 9 c)(S:hY)(X:w8)(Z:Fc w S c.ps X)(H:∀b,S b->b<r w.1)(T:w8)(l:hQ)(K:L l<=9223372036854775807)(j:J8 w T l):sf qz 184 #[Fa c.l X,T] w λe a=>Zy13 w a T l e (Zy12 h c l)/\iM w a:=by
 obtain⟨F,g,rfl⟩:=Z.shape;have y:=j;obtain⟨b,off,I,rfl,C,Y,D⟩:=j;have p:(1000:Int)<(L l:Nat)/\(l.take 1000).length=1000∨¬(1000:Int)<(L l:Nat)/\(l.take 1000).length=L l:=Aj;have Q:(l.take 1000).length<=L l:=Aj;have u:J8 w (.slice (ni (iK b off)) (l.take 1000).length I) (l.take 1000):=⟨b,off,I,iP,Aa,Y,D.take 1000⟩;have M:∀W,iM w W->sf qz 207 #[Fa c.l (.slice F (L c.ps) g),.slice (ni (iK b off)) (l.take 1000).length I] W λe a=>It W a (.slice (ni (iK b off)) (l.take 1000).length I) (l.take 1000) e (Orch.take h 9 c (l.take 1000))/\iM W a:=λW N=>
  Zy11 U 9 W (U.kept (U.size V) N V) c n S _ (Z.congr (λ_ P=>P) (λb D=>N.block b (H b D))) (λb D=>aC (H b D) N.size) _ _ Aj (u.below N (aB _))
 unfold Zy12;cases i:Orch.take h 9 c (l.take 1000) with
 |none=>
  rw[i]at M;exact Zy16 w _ _ _ _ _ _ _ F _ g b off _ _ I p C K M
 |some v=>
  obtain⟨t,x⟩:=v;have a1:=take_len h i;rw[i]at M;refine(Zy17 w _ _ _ _ _ _ _ F _ g b off _ _ I (L x) p C K Aa t.n t.s (λW d m f a=>D9 a (λb=>r W.1<=b/\b<r a.1) t.l (.slice d m f)/\Ui W.1.size a t.l (.slice d m f)) (λW N=>(M W N).mono ?_)).mono ?_
  ·rintro e a⟨⟨B,k,rfl,q,R,O⟩,o⟩;exact Cqz
  ·rintro e a⟨⟨d,m,f,W,a6,rfl,⟨q,O⟩,s,A,E⟩,o⟩;exact⟨⟨_,_,iP,q.congr (λb D=>⟨Aa,Aa⟩) (λb D=>E b D.2 Aa),Kq.cut b off I l _ Aa,O.keep Aa Aa (λb D Y=>E b Y Aa)⟩,o⟩
def Zy19(w w':qg)(e:Ending):Option Orch.V->Prop
 |none=>e=.returned (.tuple #[vv 0 iN (.slice su 0 0),.bool o9])
 |some v=>∃lv,e=.returned (.tuple #[OY v lv,.bool tu])/\Ui w.1.size w' v.l lv
def Vt(valid:gZ)(t:Ty)(l:hQ):Option Orch.V:=
 if 1000<L l then su else match Orch.take valid 9 t l with
  |some (v,[])=>ni v
  |_=>su
def Zy20(a:gZ){t:Ty}:Vt a t l=match Zy12 a t l with
  |some (v,[])=>ni v
  |_=>su:=by
 unfold Vt Zy12;by_cases K:1000<L l
 ·rw[aJ K];cases f:Orch.take a 9 t (l.take 1000) with
  |none=>rfl
  |some g=>
   obtain⟨v,b⟩:=g;have:(l.drop ((l.take 1000).length - L b)).length≠0:=Ai
   grind
 ·rw[aL K,bN Aa];cases f:Orch.take a 9 t l with
  |none=>rfl
  |some g=>
   obtain⟨v,b⟩:=g;have o:=take_len a f;cases b with
   |nil=>simp
   |cons y j=>
    have:(l.drop (L l - (y::j).length)).length≠0:=Ai;simp only
    grind
def Zy21(w:qg)(a c P:Nat)(s V:Int)(K:Bool)(u:Nat)(F:iE)(b d:Nat)(T:w8)(i:Hid (∀W,iM w W->R Q 184 #[Il a c P s V K u (.slice F b d),T] W λh B=>h=.returned (.tuple #[vv 0 iN (.slice su 0 0),.slice su 0 0,.bool o9])/\iM W B)):R Q 147 #[Il a c P s V K u (.slice F b d),T] w λh B=>Zy19 w B h su/\iM w B:=by
 refine Fws λl J U=>?_;clear l J;go_enter ub,uk;go_wp2_with (first
  |(refine kn iP 183 _ _ iP (r w.1+1) #[.int .i64 0,.string iN,.slice su 0 0] iP iP 183 _ I.out Tryz.size183 iP (Qp _ _ _ _ _) ?_)
  |(go_at_call 184;refine(i.out _ (Dk _ _ _)).mono ?_;rintro h H⟨rfl,M⟩;have O:=hide ((Dk _ _ _).trans (M.mono Ah));have Z:=hide ((M.block _ (ltOf U.out)).trans U.out);have I:Hid ((H.alloc (.cells #[.int .i64 0,.string iN,.slice su 0 0] 183)).1[r w.1+1]?=ni (.cells #[.int .i64 0,.string iN,.slice su 0 0] 183)):=(rm _ _ _ (ltOf Z.out)).trans Z.out;clear M))
 exact Gjk
def Zy22(w:qg)(g k P:Nat)(f V:Int)(K:Bool)(u:Nat)(F:iE)(b d:Nat)(T:w8)(i:Hid (∀W,iM w W->R Q 184 #[Il g k P f V K u (.slice F b d),T] W λh e=>(∃n s a m c j q B,h=.returned (.tuple #[vv n s (.slice a m c),.slice j q B,.bool tu])/\0<q)/\iM W e)):R Q 147 #[Il g k P f V K u (.slice F b d),T] w λh e=>Zy19 w e h su/\iM w e:=by
 refine Sec λl J=>?_;have U:=hide J;clear l J;go_enter ub,uk;go_wp2_with (first
  |(refine kn iP 183 _ _ iP (r w.1+1) #[.int .i64 0,.string iN,.slice su 0 0] iP iP 183 _ I.out Tryz.size183 iP (Qp _ _ _ _ _) ?_)
  |(go_at_call 184;refine(i.out _ (Dk _ _ _)).mono ?_;rintro h H⟨⟨n,s,a,m,c,j,q,B,rfl,L⟩,M⟩;have O:=hide ((Dk _ _ _).trans (M.mono Ah));have Z:=hide ((M.block _ (ltOf U.out)).trans U.out);have I:Hid ((H.alloc (.cells #[.int .i64 n,.string s,.slice a m c] 183)).1[r w.1+1]?=ni (.cells #[.int .i64 0,.string iN,.slice su 0 0] 183)):=(rm _ _ _ (ltOf Z.out)).trans Z.out;have p:(0:Int)<(q:Int):=Aa;clear M))
 exact Gjk
def Zy23(w:qg)(g sh P:Nat)(f V:Int)(K:Bool)(u:Nat)(F:iE)(b d:Nat)(T:w8)(n:Int)(s:hU)(t:qg->Option rj->Nat->Nat->qg->Prop)(i:Hid (∀W,iM w W->sf qz 184 #[Il g sh P f V K u (.slice F b d),T] W λh B=>(∃a m c v z,h=.returned (.tuple #[vv n s (.slice a m c),.slice v 0 z,.bool tu])/\t W a m c B)/\iM W B)):sf qz 147 #[Il g sh P f V K u (.slice F b d),T] w λh B=>(∃a m c W k,h=.returned (.tuple #[vv n s (.slice a m c),.bool tu])/\t W a m c k/\r w.1+2<=r W.1/\r B.1=r k.1+1/\∀e,e<r k.1->e≠r w.1+1->B.1[e]?=k.1[e]?)/\iM w B:=by
 refine Q17 λA J U=>?_;clear A J;refine Hxg λD=>?_;go_enter ub,uk;go_wp2_with (first
  |(refine kn iP 183 _ _ iP (r w.1+1) #[.int .i64 n,.string s,.slice a m c] iP iP 183 _ I.out Tryz.size183 iP (Qp _ _ _ _ _) ?_)
  |(go_at_call 184;refine(i.out _ (Dk _ _ _)).mono ?_;rintro h H⟨⟨a,m,c,v,z,rfl,L⟩,M⟩;have O:=hide ((Dk _ _ _).trans (M.mono Ah));have Z:=hide ((M.block _ (ltOf U.out)).trans U.out);have I:Hid ((H.alloc (.cells #[.int .i64 n,.string s,.slice a m c] 183)).1[r w.1+1]?=ni (.cells #[.int .i64 0,.string iN,.slice su 0 0] 183)):=(rm _ _ _ (ltOf Z.out)).trans Z.out;have p:=hide L;clear L;clear M))
 refine Hq (λX=>X.1[r w.1+1]?=ni (.cells #[.int .i64 n,.string s,.slice a m c] 183)/\iM w X/\r X.1=r H.1+1/\∀e,e<r H.1->e≠r w.1+1->X.1[e]?=H.1[e]?) ⟨setRow_heap _ _ _ _ _ _ I.out,Cu (O.out.alloc O.out.size _) (cQ _) _,Ad,λe l q=>(setRow_other _ _ _ _ q).trans (rm _ _ _ l)⟩ ?_;rintro X⟨o,E,y,j⟩;have ⟨c0,Q,R⟩:=Jn o iP;have S:=hide E;have a1:=hide y;have a6:=hide j;clear E y j o;exact wj (v:=.tuple #[vv n s (.slice a m c),.bool tu]) (by simp[results,results147,go_sem,c0,Q,R]) iP ⟨⟨a,m,c,_,H,iP,p.out,D.out,a1.out,a6.out⟩,S.out⟩
def Afy(U:Im h z)(w:qg)(V:z w)(c:Ty)(p:CW 9 c)(S:hY)(X:w8)(Z:Fc w S c.ps X)(H:∀b,S b->b<r w.1)(T:w8)(l:hQ)(K:L l<=9223372036854775807)(u:J8 w T l):sf qz 147 #[Fa c.l X,T] w λe a=>Zy19 w a e (Vt h c l)/\iM w a:=by
 obtain⟨F,g,rfl⟩:=Z.shape;have M:∀W,iM w W->sf qz 184 #[Fa c.l (.slice F (L c.ps) g),T] W λe a=>Zy13 W a T l e (Zy12 h c l)/\iM W a:=λW N=>
  Zy18 U W (U.kept (U.size V) N V) c p S _ (Z.congr (λ_ P=>P) (λb D=>N.block b (H b D))) (λb D=>aC (H b D) N.size) _ l K (u.below N (aB _))
 rw[Zy20];cases Q:Zy12 h c l with
 |none=>
  rw[Q]at M;exact Zy21 w _ _ _ _ _ _ _ F _ g T M
 |some i=>
  obtain⟨t,j⟩:=i;rw[Q]at M;cases j with
  |cons y v=>
   refine Zy22 w _ _ _ _ _ _ _ F _ g T (λW N=>(M W N).mono ?_);rintro e a⟨⟨x,k,rfl,q,R,_⟩,o⟩;exact Cqz
  |nil=>
   refine(Zy23 w _ _ _ _ _ _ _ F _ g T t.n t.s (λW d m f a=>Ui W.1.size a t.l (.slice d m f)) (λW N=>(M W N).mono ?_)).mono ?_
   ·rintro e a⟨⟨x,k,rfl,q,R,O⟩,o⟩;exact Cqz
   ·rintro e a⟨⟨d,m,f,W,n,rfl,q,s,C,E⟩,o⟩;exact⟨⟨_,iP,q.keep Aa Aa (λb D Y=>E b Y Aa)⟩,o⟩
end Go.Proofs.YtcbilgmfdgpomaaGreatDoor
