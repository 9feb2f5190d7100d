import Derived.Test.YtcbilgmfdgpomaaGreatDoorCls
import Derived.BigQuiet
set_option linter.all false
open Array renaming size → iS,size → y
set_option maxHeartbeats 8000000
set_option maxRecDepth 8000
open Option renaming none → su,some → ni
open Go.RowKit renaming Below → ri,Below → Q
open Go renaming World → qg,Value → w8,Calls → sf,heap_setCell_same → ye,bodyPost_ret → wj,heap_alloc_new → sx,Addr → rj,results → qe,Ending → i,heap_setCell_other → mg,setRow_heap → jg,setRow_other → np,info_parts → zu,World → U,Value → Y,Calls → Z
open Bool renaming false → o9,true → tu
open Go.RowKit.Below renaming heap_alloc → rm,trans → qd
open Go.Value renaming slice → um,int → pq,ownBlock → yf,oneCell' → fx,string → x7,bool → vp,tuple → my
open Prod renaming fst → wv
open Go.Lib renaming size_eq → gq,strCells → po
open Go.World renaming ownsRow_nil → h7,setCell → q9,news_of_block → k8
open Go.IntKind renaming u8 → zi
open List renaming length_singleton → oo,length → iR,length → N
open Go.Ending.returned renaming injEq → kr
open Go.Value.tuple renaming injEq → fy
open Go.Value.bool renaming injEq → o4
open Go.Obj renaming cells → jf
open Go.Ending renaming returned → xr
open Orch renaming letters → S,Ty → u,find → W,parse → R
open Go.Proofs.YtcbilgmfdgpomaaGreatDoor renaming cellOf → K,ltOf → T,toList_nil → M,Fc → O,Il → j,vv → k
open Go.Proofs.Tryz Orch
variable {B I a g n s:Nat}{E H L r:U}{F:iA}{X:iC}{b v x:Y}{p q:Prop}{z:gZ}
def Ifg(h:p:=by
 intro p Q;rw[bX]at Q;rcases Q with Q|Q
 ·refine(B p Q).congr (λc⟨C,J,T⟩=>⟨C,Aa,?_⟩) (λc⟨C,J,T⟩=>?_)
  ·intro N;have A:g=c:=by simpa[Value.ownBlock] using N
   grind
  ·rw[i.block c Aa (λe=>T e.symm),D.block c Aa,M.block c J]
 ·obtain rfl:p=(t,x):=by simpa using Q
  refine Z.congr (λc⟨C,J⟩=>⟨Aa,Aa,?_⟩) (λc⟨C,J⟩=>?_)
  ·intro N;have A:g=c:=by simpa[Value.ownBlock] using N
   subst A;rcases j with h|h
   ·have:=(Ee d h).2;omega
   ·omega
  ·rw[i.block c Aa (λe=>by have:=(Ee d e.symm).2;omega),D.block c J]):p:=h
def Faj(h:p:=by
 cases s with
 |nil=>simp[Orch.parts]at h
 |cons c q=>
  unfold Orch.parts at h
  grind):p:=h
def W8g(k:q)(h:Hd q->p:=by
 intro kz;have n:(s.toList==[])=false:=by simpa using(λh=>by have:=(toList_nil s).1 h;omega)
 have q:(0:Int)<(s.size:Int):=Aa;have g:Hid (Table (w.alloc (.cells #[.int .u8 0,.int .i64 0,.int .i64 0,.int .i64 0,.int .i64 0,.bool false,.int .u8 0,.slice none 0 0] 208))):=a.below (Be _ _) a.pos;have r:=Js (w.alloc (.cells #[.int .u8 0,.int .i64 0,.int .i64 0,.int .i64 0,.int .i64 0,.bool false,.int .u8 0,.slice none 0 0] 208)) g.out s[0];revert n q g r;exact kz.1):p:=h ⟨k⟩
def Mqt(k:q)(h:Hd q->p:=by
 intro kz;have U:=hide (heap_alloc_new w (.cells #[.int .u8 0,.int .i64 0,.int .i64 0,.int .i64 0,.int .i64 0,.bool false,.int .u8 0,.slice none 0 0] 208));revert U;exact kz.1):p:=h ⟨k⟩
def Cj5(h:p:=by
 go_wp2;go_region
 all_goals go_wp2
 all_goals go_ret3
 all_goals exact⟨by rw[m.out];rfl,by first|exact HB.out|exact HB.out.drew⟩):p:=h
def Pd0(h:p:=by
 go_enter Tryz.func141,Tryz.ntmps141;go_wp2;exact bodyPost_ret (v:=.tuple #[Il 0 0 0 0 0 false 0 (.slice none 0 0),.bool false]) (by simp[results,Tryz.results141,go_sem]) iP ⟨⟨_,_,_,_,_,_,_,_,_,_,iP⟩,Be _ _⟩):p:=h
def Jg7(h:p:=by
 go_enter Tryz.func181,Tryz.ntmps181;go_wp2;exact bodyPost_ret (v:=.tuple #[Il 0 0 0 0 0 false 0 (.slice none 0 0),.string iN,.bool false]) (by simp[results,Tryz.results181,go_sem]) iP ⟨⟨_,_,_,_,_,_,_,_,_,_,_,iP⟩,Be _ _⟩):p:=h
def Mov(h:p:=by
 have m:Hid (h=some (ps.map Prod.fst,(S.extract 1 S.size).data.toList)):=by
  show _=_;rw[k.out,aL Aa]
 clear k i J;go_wp2;go_region
 all_goals go_wp2
 all_goals go_region
 all_goals go_wp2
 all_goals go_ret3
 all_goals exact⟨by rw[m.out];exact⟨_,_,iP,iP,HD.out _ iP⟩,by first|exact HB.out.drew.drew|exact HB.out.drew⟩):p:=h
def Brm(h:p:=by
 refine Hq (λX=>X.1[w.1.size]?=some (.cells #[.int .u8 0,.int .i64 0,.int .i64 0,.int .i64 0,.int .i64 0,.bool false,.int .u8 0,.slice none 0 0] 208)∧Below w.1.size w X) ⟨setRow_heap _ _ _ _ _ _ I.out,Cu (O.out.alloc O.out.size _) (aB _) _⟩ ?_;rintro X⟨o,E⟩;exact bodyPost_ret (v:=.tuple #[Il 0 0 0 0 0 false 0 (.slice none 0 0),.bool false]) (by simp[results,Tryz.results141,go_sem,(cellOf (j:=0) o iP),(cellOf (j:=1) o iP),(cellOf (j:=2) o iP),(cellOf (j:=3) o iP),(cellOf (j:=4) o iP),(cellOf (j:=5) o iP),(cellOf (j:=6) o iP),(cellOf (j:=7) o iP)]) iP ⟨⟨_,_,_,_,_,_,_,_,_,_,iP⟩,E⟩):p:=h
def Jtx(h:p:=by
 have U:=hide (heap_alloc_new w (.cells #[.int .u8 0,.int .i64 0,.int .i64 0,.int .i64 0,.int .i64 0,.bool false,.int .u8 0,.slice none 0 0] 208));go_enter Tryz.func181,Tryz.ntmps181;go_wp2_with (first
  |(refine wpList_store_row iP 208 _ _ iP w.1.size #[.int .u8 0,.int .i64 0,.int .i64 0,.int .i64 0,.int .i64 0,.bool false,.int .u8 0,.slice none 0 0] iP iP 208 _ I.out Tryz.size208 iP (Wq _ _ _ _ _ _ _ _ _ _) ?_)
  |(go_at_call 203;refine F.out.mono ?_;rintro e H⟨rfl,M⟩;have O:=hide ((Be _ _).trans (M.mono Ad));have Z:=hide ((M.block _ (ltOf U.out)).trans U.out);have I:Hid ((H.alloc (.cells #[.int .u8 0,.int .i64 0,.int .i64 0,.int .i64 0,.int .i64 0,.bool false,.int .u8 0] 205)).1[w.1.size]?=some (.cells #[.int .u8 0,.int .i64 0,.int .i64 0,.int .i64 0,.int .i64 0,.bool false,.int .u8 0,.slice none 0 0] 208)):=(Below.heap_alloc _ _ _ (ltOf Z.out)).trans Z.out;clear M))
 have o:=setRow_heap _ _ _ #[.int .u8 0,.int .i64 0,.int .i64 0,.int .i64 0,.int .i64 0,.bool false,.int .u8 0,.slice none 0 0] _ _ I.out;have i:=Vx 7 o;exact bodyPost_ret (v:=.tuple #[Il 0 0 0 0 0 false 0 (.slice none 0 0),.string iN,.bool false]) (by simp[results,Tryz.results181,go_sem,(cellOf (j:=0) o iP),(cellOf (j:=1) o iP),(cellOf (j:=2) o iP),(cellOf (j:=3) o iP),(cellOf (j:=4) o iP),(cellOf (j:=5) o iP),(cellOf (j:=6) o iP),i]) iP ⟨⟨_,_,_,_,_,_,_,_,_,_,_,iP⟩,Cu (O.out.alloc O.out.size _) (aB _) _⟩):p:=h
def Tlr(k:q)(h:Hd q->p:=by
 intro kz;refine Hq (λX=>X.1[w.1.size+1]?=some (.cells #[.int .i64 n,.string s,.slice a m G] 183)/\Below w.1.size w X/\X.1.size=H.1.size/\∀e,e≠w.1.size+1->X.1[e]?=H.1[e]?) ⟨setRow_heap _ _ _ _ _ _ I.out,Cu O.out (cQ _) _,Ad,λe D=>setRow_other _ _ _ _ D⟩ ?_;exact kz.1):p:=h ⟨k⟩
def Ryk(k:q)(h:Hd q->p:=by
 intro kz;refine Hq (λX=>X.1[w.1.size+1]?=some (.cells #[.int .i64 0,.string iN,.slice none 0 0] 183)/\Below w.1.size w X) ⟨setRow_heap _ _ _ _ _ _ I.out,Cu O.out (cQ _) _⟩ ?_;exact kz.1):p:=h ⟨k⟩
def N1r(k:q)(h:Hd q->p:=by
 intro kz;obtain⟨l,J⟩:=Sg w (.cells #[.int .u8 h,.int .i64 k,.int .i64 P,.int .i64 f,.int .i64 V,.bool K,.int .u8 u,.slice b c d] 208) (.cells #[.int .i64 0,.string iN,.slice none 0 0] 183);revert l J;exact kz.1):p:=h ⟨k⟩
def Kcp(k:q)(h:Hd q->p:=by
 intro kz;have ak:=hide a6;have C:=hide D;have aa:Hid (Below wr.1.size wr w2):=Below.trans JN (D.mono Ad);have k2:=(D.block _ (ltOf af.out)).trans af.out;revert ak C aa k2;exact kz.1):p:=h ⟨k⟩
def E6o(h:p:=by
 refine wp_loop_rounds 1 ?_;rw[rounds_succ];go_wp2;go_ret2;exact⟨_,JF Aaw,m.out,o.out⟩):p:=h
def B2q(h:p:=by
 have:=a8.out a W h1 h2 i a1 p h3 _ t ay (aF (aF j h1.size) h2.size) h4;rw[G,ax.out]at this;exact this):p:=h
namespace Go.Proofs.YtcbilgmfdgpomaaGreatDoor
variable {P:Program}{e:TypeId}{o:Obj}
open Go.RowKit
def Gd:Array Y:=#[pq zi 63,iL 0,iL 1,iL 0,iL 1,vp o9,pq zi 0,
 pq zi 52,iL 0,iL 4,iL (-2147483648),iL 2147483647,vp o9,pq zi 0,
 pq zi 56,iL 0,iL 8,iL (-9223372036854775808),iL 9223372036854775807,vp o9,pq zi 0,
 pq zi 98,iL 1,iL 0,iL 0,iL 0,vp o9,pq zi 0,
 pq zi 116,iL 1,iL 0,iL 0,iL 0,vp tu,pq zi 0,
 pq zi 91,iL 2,iL 0,iL 0,iL 0,vp o9,pq zi 93,
 pq zi 40,iL 3,iL 0,iL 0,iL 0,vp o9,pq zi 41]
def Table(w:U):Prop:=∃t fr,w.1[7]?=ni (jf Gd t fr)
def Table.below{w a}(h:Table w)(D:ri B w a)(k:8<=B):Table a:=by
 have ⟨t,X,h⟩:=h;exact⟨t,X,(D.block 7 Aa).trans h⟩
def ix(k:Nat)(l)(E:S[k]?=ni l):∀w,(Instr.index 298 (.agg Gd) (iL k)).run prog w=.ok (RE l) w:=by
 match k,E with
 |0,E=>simp[S]at E;subst E;intro w;kernel_rfl
 |1,E=>simp[S]at E;subst E;intro w;kernel_rfl
 |2,E=>simp[S]at E;subst E;intro w;kernel_rfl
 |3,E=>simp[S]at E;subst E;intro w;kernel_rfl
 |4,E=>simp[S]at E;subst E;intro w;kernel_rfl
 |5,E=>simp[S]at E;subst E;intro w;kernel_rfl
 |6,E=>simp[S]at E;subst E;intro w;kernel_rfl
def Tryz.size205:(prog.info? 205).map (·.size)=ni 7:=Ab
def Tryz.size208:(prog.info? 208).map (·.size)=ni 8:=Ab
def Tryz.size183:(prog.info? 183).map (·.size)=ni 3:=Ab
def Adt(a b c d e f g):(#[pq zi a,iL b,iL c,iL d,iL e,vp f,pq zi g].all (·.oneCell'))=tu:=by simp[fx]
def Wq(a b c d e f g)(x:iE)(n m):(#[pq zi a,iL b,iL c,iL d,iL e,vp f,pq zi g,um x n m].all (·.oneCell'))=tu:=by simp[fx]
def Qp(a)(s:hU)(x:iE)(n m):(#[iL a,x7 s,um x n m].all (·.oneCell'))=tu:=by simp[fx]
def Cu{a w}(h:Q B a w)(G:B<=g)(cs:iB):Q B a (w.setRow g cs):=
 h.trans ⟨iP,iP,iP,Ad,λk E=>np _ _ _ _ Aa⟩
def Jr(c:UInt8)(k:Nat):Option Lt:=(S.drop k).find? λl=>l.sign==c
def Ov(c:UInt8)(e:i):Prop:=
 match W c with
 |none=>e=xr (my #[ltv 0 0 0 0 0 o9 0,vp o9])
 |some l=>e=xr (my #[RE l,vp tu])
def Js(w)(V:Table w)(c):sf prog 203 #[pq zi c.toNat] w λe B=>Ov c e/\iM w B:=by
 obtain⟨tt,X,b⟩:=V;have f:(w.alloc (jf #[pq zi 0,iL 0,iL 0,iL 0,iL 0,vp o9,pq zi 0] 205)).1[7]?=ni (jf Gd tt X):=by
  rwa[rm _ _ _ (T b)]
 obtain⟨F,t⟩:∃F,Jr c 0=F:=⟨_,iP⟩;have r:Hid (Jr c 0=F):=t;clear t;have M:c.toNat<256:=c.toNat_lt;go_enter func203,ntmps203;go_wp2_with (refine wpList_load_row iP 298 _ iP 7 iP tt _ X _ f Tryz.underlying298 iP Ab ?_);clear f b;go_loopw [7] (λi wr=>∃k:Nat,k<=7/\i=iL k/\Hid (Jr c k=F)/\Hid (iM w wr)/\Hid (wr.1[y w.1]?=ni (jf #[pq zi 0,iL 0,iL 0,iL 0,iL 0,vp o9,pq zi 0] 205)))
  (λi _=>7 - (intOf i).toNat)
 case atStart=>exact⟨0,Aa,iP,r,Be _ _,sx _ _⟩
 case round=>
  obtain⟨k,E,rfl,N,d,Z⟩:=hrel;have g:=T Z.out;by_cases h:k<7
  ·obtain⟨l,K⟩:∃l,S[k]?=ni l:=⟨S[k]'h,aG h⟩;have L:=ix k l K;have x:Hid (Jr c k=if l.sign==c then ni l else Jr c (k+1)):=by
    show _=_;unfold Jr;have:S.drop k=l::S.drop (k+1):=by
     obtain⟨C,J⟩:=aD.1 K;rw[eP C,J]
    rw[this,List.find?_cons];cases l.sign==c<;>rfl
   clear K;by_cases s:l.sign=c
   ·have j:((l.sign.toNat:Int)==(c.toNat:Int))=tu:=by rw[s];simp
    have z:Hid (F=ni l):=by
     show _=_;rw[←N.out,x.out,s];simp
    clear s x N;have P:(wr.alloc (jf #[pq zi l.sign.toNat,iL l.shape,iL l.size,iL l.least,iL l.5,vp l.text,pq zi l.fin.toNat] 205)).1[y w.1]?=_:=(rm _ _ _ g).trans Z.out;have o:=jg _ _ _ #[pq zi l.sign.toNat,iL l.shape,iL l.size,iL l.least,iL l.5,vp l.text,pq zi l.fin.toNat] _ _ P;have m:Hid (_=_):=P;have ⟨c0,Q,R,U,u,a,q⟩:=P9 o iP;clear o P;generalize Gd=LC at *;go_wp2_with (refine wpList_store_row iP 205 _ _ iP w.1.size #[pq zi l.sign.toNat,iL l.shape,iL l.size,iL l.least,iL l.5,vp l.text,pq zi l.fin.toNat] iP iP 205 _ m.out Tryz.size205 iP (Adt _ _ _ _ _ _ _) ?_);refine wj (v:=my #[RE l,vp tu]) (by simp[qe,results203,go_sem,c0,Q,R,U,u,a,q]) iP ⟨?_,(Cu (d.out.alloc d.out.size _) (aB _) _)⟩
    ·unfold Ov;have e:W c=ni l:=(show Jr c 0=ni l from r.out.trans z.out);rw[e]
   ·have j:((l.sign.toNat:Int)==(c.toNat:Int))=o9:=by
     rw[beq_eq_false_iff_ne];intro p;exact s (gQ.1 Aa)
    have z:Hid (Jr c (k+1)=F):=by
     show _=_;rw[←N.out,x.out];simp[s]
    clear s x N;generalize Gd=LC at *;go_wp2;go_roundw
    case rel=>exact⟨k+1,Aa,by go_num,z,d.out.alloc d.out.size _,(rm _ _ _ g).trans Z.out⟩
    case measure=>simp[intOf];omega
  ·have n:k=7:=Aa;subst n;have o:=jg _ _ _ #[pq zi 0,iL 0,iL 0,iL 0,iL 0,vp o9,pq zi 0] _ _ Z.out;have ⟨c0,Q,R,U,u,a,q⟩:=P9 o iP;clear o;generalize Gd=LC at *;go_wp2_with (refine wpList_store_row iP 205 _ _ iP w.1.size #[pq zi 0,iL 0,iL 0,iL 0,iL 0,vp o9,pq zi 0] iP iP 205 _ Z.out Tryz.size205 iP (Adt _ _ _ _ _ _ _) ?_);refine wj (v:=my #[ltv 0 0 0 0 0 o9 0,vp o9]) (by simp[qe,results203,go_sem,c0,Q,R,U,u,a,q]) iP ⟨?_,(Cu d.out (aB _) _)⟩
   ·unfold Ov;have e:W c=su:=(show Jr c 0=su from r.out.trans (N.out.symm.trans iP));rw[e]
def Beside(base:Nat)(v:Y)(w:U)(b:Nat):Prop:=base<=b/\b<y w.1/\v.ownBlock≠ni b
def Ew{w b}(h:w.ownsRow a e b v n X)(D:iM w H):=
 h.kept (row:=su) ⟨D.os,D.tape,D.output,D.size,λk E _=>D.block k E⟩ Ai
def Ee{w:U}{b}(h:w.ownsRow a e b v n X)(G:v.ownBlock=ni g):=h.lt g G
def Ak4{wr ps t x}(f:a<=y wr.1)(d:wr.ownsRow a 208 8 v (N ps) (ps.flatMap Oh))(B:∀p,p∈ps->O wr (Beside a v wr) p.1.ps p.2)(M:iM wr H)(Z:O H (λc=>y wr.1<=c/\c<y H.1) t.ps x)(D:iM H E)(K:L.ownsRow a 208 8 (um (ni (iJ g)) (N ps+1) I) (N ps+1) (ps.flatMap Oh++Oh (t,x)))(i:E.grownBy L v.ownBlock)(j:v.ownBlock=ni g∨g=y E.1):L.ownsRow a 208 8 (um (ni (iJ g)) (N ps+1) I) (ps++[(t,x)]).length ((ps++[(t,x)]).flatMap Oh) /\
  (∀p,p∈ps++[(t,x)]->O L (Beside a (um (ni (iJ g)) (N ps+1) I) L) p.1.ps p.2)/\Q a wr L:=by
 have l:=M.size;have R:=D.size;have V:=i.size;refine⟨by simp_all,?_,(((M.mono f).trans (D.mono Aa)).grown i Aa (λm k=>(Ee d k).1))⟩
 ·exact Ifg
def Ak5{wr b a t x}(f:b<=y wr.1)(d:wr.ownsRow b 183 3 v (N a) (a.flatMap Eo))(B:∀p,p∈a->D9 wr (Beside b v wr) p.1.l p.2)(M:iM wr H)(Z:D9 H (λc=>y wr.1<=c/\c<y H.1) t.l x)(D:iM H E)(K:L.ownsRow b 183 3 (um (ni (iJ g)) (N a+1) I) (N a+1) (a.flatMap Eo++Eo (t,x)))(i:E.grownBy L v.ownBlock)(j:v.ownBlock=ni g∨g=y E.1):L.ownsRow b 183 3 (um (ni (iJ g)) (N a+1) I) (a++[(t,x)]).length ((a++[(t,x)]).flatMap Eo) /\
  (∀p,p∈a++[(t,x)]->D9 L (Beside b (um (ni (iJ g)) (N a+1) I) L) p.1.l p.2)/\Q b wr L:=by
 have o:=M.size;have R:=D.size;have V:=i.size;refine⟨Ai,?_,(((M.mono f).trans (D.mono Aa)).grown i Aa (λm k=>(Ee d k).1))⟩
 ·exact Ifg
def Akl{w ps}(d:w.ownsRow a 208 8 v (N ps) (ps.flatMap Oh))(e:∀p,p∈ps->O w (Beside a v w) p.1.ps p.2)(k:B<=a):O w (λc=>B<=c/\c<y w.1) (ps.map wv) v:=
 O.of_own d (λp Q=>(e p Q).congr (λc⟨C,J,_⟩=>⟨Aa,J⟩) (λ_ _=>rfl)) (λg G=>by have:=Ee d G;omega)
def Akm{w b B a}(d:w.ownsRow b 183 3 v (N a) (a.flatMap Eo))(e:∀p,p∈a->D9 w (Beside b v w) p.1.l p.2)(k:B<=b):D9 w (λc=>B<=c/\c<y w.1) (a.map wv) v:=
 D9.of_own d (λp Q=>(e p Q).congr (λc⟨C,J,_⟩=>⟨Aa,J⟩) (λ_ _=>rfl)) (λg G=>by have:=Ee d G;omega)
def Zd{w}(h:Q B w H)(g)(G:B<=g)(x y z):Q B w (((H.setCell (iJ g) x).setCell (iK g 1) y).setCell (iK g 2) z):=
 ((h.setCell (p:=(iJ g)) G x).setCell (p:=(iK g 1)) G y).setCell G z
def Yj(w)(h sh P:Nat)(f V K)(u:Nat)(b:iE)(c d a off k I U C)(M:k<=1000)(Q:k<=I)(R:1<=P/\P<=8)(S:a<iS w.1)(W:¬k<P)(E:Hid (∀B,F B->Z prog 205 #[Il h sh P f V K u (um b c d),vv U iN (um su 0 0)] B λe g=>e=xr (vp C)/\iM B g))(G:Hid (∀B,iM w B->F B))(n:Hid (∀B,iM w B->Z prog 158 #[um (ni (iK a off)) P I] B λe g=>e=xr (iL U)/\g=B)):Z prog 219 #[Il h sh P f V K u (um b c d),um (ni (iK a off)) k I] w λe B=>
   ∃z,e=xr (my #[vv U iN (um su 0 0),z,vp C])/\(z=if I=P then um (ni (iK a off)) (k - P) 0 else um (ni ⟨a,off+P,su⟩) (k - P) (I - P))/\iM w B:=by
 have Y:¬(k:Int)<(P:Int):=Aa;obtain⟨L,i⟩:∃L,L=if I=P then um (ni (iK a off)) (k - P) 0 else um (ni ⟨a,off+P,su⟩) (k - P) (I - P):=⟨_,iP⟩;rw[←i];have q:Hid (L=if I=P then um (ni (iK a off)) (k - P) 0 else um (ni ⟨a,off+P,su⟩) (k - P) (I - P)):=i;clear i;go_enter func219,ntmps219;go_wp2_with (go_at_call 158;apply(n.out _ (Dk _ _ _)).mono;rintro e B⟨rfl,rfl⟩);obtain⟨D,J,H⟩:=Aoq w (jf #[pq zi h,iL sh,iL P,iL f,iL V,vp K,pq zi u,um b c d] 208)
  (jf #[iL 0,x7 iN,um su 0 0] 183) (jf #[iL U,x7 iN,um su 0 0] 183)
 apply CC (λX=>iM w X/\X.1[iS w.1]?=ni (jf #[pq zi h,iL sh,iL P,iL f,iL V,vp K,pq zi u,um b c d] 208) /\
  X.1[iS w.1+1]?=ni (jf #[iL 0,x7 iN,um su 0 0] 183)/\X.1[iS w.1+1+1]?=ni (jf #[iL U,x7 iN,um su 0 0] 183)) ⟨P0 _ _ _ _,D,J,H⟩
 clear D J H n;rintro X⟨r,s,v,l⟩;have ⟨a0,a6,a2,a3,a4,a5,a7,a8⟩:=XC s iP;have ⟨b0,b1,b2⟩:=Jn l iP;have HW:Hid (iM w X):=r;have y:Hid (X.1[iS w.1+1]?=ni (jf #[iL 0,x7 iN,um su 0 0] 183)):=v;have A:Hid (X.1[iS w.1+1+1]?=ni (jf #[iL U,x7 iN,um su 0 0] 183)):=l;clear r s v l;by_cases o:I=P
 all_goals go_region_with (
  go_at_call 205;apply(E.out _ (G.out _ H8)).mono;rintro e m⟨rfl,N⟩;have j:m.1[iS w.1+1]?=ni (jf #[iL 0,x7 iN,um su 0 0] 183):=(N.block _ (ltOf y.out)).trans y.out;have p:m.1[iS w.1+1+1]?=ni (jf #[iL U,x7 iN,um su 0 0] 183):=(N.block _ (ltOf A.out)).trans A.out;have O:Hid (iM w m):=qd H8 (N.mono (by first|exact HW.out.size));have ⟨x,t,T⟩:=Jn j iP;have ⟨f0,f1,f2,_⟩:=Iv j;have ⟨g0,g1,g2⟩:=Jn p iP;clear N j p)
 all_goals go_wp2
 all_goals refine wj (v:=my #[vv U iN (um su 0 0),L,vp C]) ?_ iP ⟨L,iP,iP,?_⟩
 all_goals try exact Zd (by first|exact O.out|exact O.out.drew) _ (cQ _) _ _ _
 all_goals try(rw[q.out,aJ o];simp[qe,results219,go_sem,x,t,T];done)
 all_goals try(rw[q.out,aL o];simp[qe,results219,go_sem,x,t,T];done)
def Abu:prog.cellsOf 3=1:=Ab
def Abv:prog.cellsOf 4=1:=Ab
structure Oe where
 v:Orch.V
 x:w8
 lo:Nat
 hi:Nat
def Oe.pr(q:Oe):Orch.V×Y:=(q.v,q.x)
inductive CE(w:qg):Nat->Nat->List Orch.V->w8->Prop
 |nil (lo hi):CE w lo hi [] (um su 0 0)
 |row (lo hi) (qs) (g cap) (hhi:g<hi)
   (hown:w.ownsRow lo 183 3 (um (ni (iJ g)) (iR qs) cap) (iR qs) ((qs.map Oe.pr).flatMap Eo))
   (hin:∀q,q∈qs->lo<=q.lo/\q.lo<=q.hi/\q.hi<=hi/\¬(q.lo<=g/\g<q.hi)) (hdis:qs.Pairwise (λa b=>a.hi<=b.lo))
   (hr:∀q,q∈qs->CE w q.lo q.hi q.v.l q.x):CE w lo hi (qs.map Oe.v) (um (ni (iJ g)) (iR qs) cap)
def CE.congr{w B V i}(h:CE w s V i v):(∀b,s<=b->b<V->B.1[b]?=w.1[b]?)->CE B s V i v:=by
 induction h with
 |nil s V=>intro _;exact .nil s V
 |row s V r g I F d y a Y O=>
  intro E;refine .row s V r g I F ⟨d.1,?_⟩ y a (λq f=>O q f (λb C J=>?_))
  ·rcases d.2 with h|⟨R,L,H,e,j,k,N⟩
   ·exact .inl h
   ·cases e;exact .inr ⟨g,I,H,iP,j,(E g ((d.lt g iP).1) F).trans k,N⟩
  grind
def CE.mono{w V L p b}(h:CE w s V b v)(C:L<=s)(J:V<=p):CE w L p b v:=by
 cases h with
 |nil=>exact .nil _ _
 |row _ _ r g I F d y a Y=>
  refine .row L p r g I Aa ⟨d.1,d.2.imp id fun⟨g,I,H,e,c,k⟩=>⟨g,I,H,e,aF C c,k⟩⟩ (λq f=>?_) a Y;have:=y q f;omega
def Aej(r:List Oe):(r.map Oe.pr).map wv=r.map Oe.v:=by rw[cY];rfl
def CE.vs{w V e}(h:CE w s V e v):D9 w (λb=>s<=b/\b<V) e v:=by
 induction h with
 |nil s V=>exact .nil _ _
 |row s V r g I F d y c Y O=>
  rw[←Aej];rw[←(bU _)]at d⊢;refine D9.of_own d (λp Q=>?_) (λR m=>?_)
  ·obtain⟨q,f,rfl⟩:=aZ.1 Q;have:=y q f;exact(O q f).congr (λb D=>⟨Aa,Aa⟩) (λ_ _=>rfl)
  ·have C:=d.lt R m;have:R=g:=by simp[yf]at m;exact m.symm
   omega
def CE.shape{w V b}(h:CE w s V b v):∃a c,v=um a (N b) c:=by
 cases h with
 |nil=>exact⟨_,_,iP⟩
 |row _ _ r g I=>grind
def PL(w:U)(base:Nat)(v:Y)(ps:List (Orch.V×Y)):Prop:=
 ∃qs:List Oe,qs.map Oe.pr=ps/\(∀q,q∈qs->base<=q.lo/\q.lo<=q.hi/\q.hi<=y w.1/\∀g,v.ownBlock=ni g->¬(q.lo<=g/\g<q.hi))/\qs.Pairwise (λa b=>a.hi<=b.lo)/\∀q,q∈qs->CE w q.lo q.hi q.v.l q.x
def PL.nil(w a v):PL w a v []:=⟨[],iP,(λq f=>by cases f),List.Pairwise.nil,(λq f=>by cases f)⟩
def PL.keep{w B base a}(h:PL w base v a)(s:y w.1<=y B.1)(E:∀b,base<=b->b<y w.1->v.ownBlock≠ni b->B.1[b]?=w.1[b]?):PL B base v a:=by
 have ⟨r,C,J,T,d⟩:=h;refine⟨r,C,λq f=>?_,T,λq f=>(d q f).congr (λb c k=>?_)⟩
 ·grind
 grind
def PL.grow{wr o t x cap n}(c:a<=y wr.1)(Y:∀g,v.ownBlock=ni g->g<y wr.1)(B:PL wr a v o)(M:iM wr H)(Z:CE H wr.1.size H.1.size t.l x)(D:iM H E)(i:E.grownBy L v.ownBlock)(j:v.ownBlock=ni g∨g=y E.1):PL L a (um (ni (iJ g)) n cap) (o++[(t,x)]):=by
 have l:=M.size;have d:=D.size;have V:=i.size;obtain⟨r,rfl,J,T,s⟩:=B;have F:∀R,(um (ni (iJ g)) n cap).ownBlock=ni R->v.ownBlock=ni R∨R=y E.1:=by
  intro R m;have:g=R:=by simpa[yf] using m
  subst this;exact j
 refine⟨r++[⟨t,x,y wr.1,y H.1⟩],by rw[cP];rfl,λq f=>?_,?_,λq f=>?_⟩
 ·grind
 ·grind
 ·rw[bX]at f;rcases f with f|f
  ·obtain⟨u,w,S,p⟩:=J q f;refine(s q f).congr (λb h k=>?_);rw[i.block b Aa (λe=>p b e.symm ⟨h,k⟩),D.block b Aa,M.block b Aa]
  ·obtain rfl:q=⟨t,x,y wr.1,y H.1⟩:=by simpa using f
   refine Z.congr (λb h k=>?_);rw[i.block b Aa (λe=>Ai),D.block b k]
def PL.done{w b}(d:w.ownsRow a 183 3 v (N b) (b.flatMap Eo))(h:PL w a v b):CE w a w.1.size (b.map wv) v:=by
 obtain⟨r,rfl,J,T,c⟩:=h;rw[bU]at d;rw[Aej];rcases d.2 with⟨rfl,F⟩|⟨g,I,H,rfl,_⟩
 ·have:=bO.1 F;subst this;exact .nil _ _
 ·exact .row _ _ r g I (d.lt g iP).2 d (λq f=>by have ⟨m,e,S,n⟩:=J q f;exact⟨m,e,S,n g iP⟩) T c
def Acl{c l}(h:W c=ni l):=List.mem_of_find?_eq_some h
def EZ(f:hQ->Option (u×hQ))(I:∀s t r,f s=ni (t,r)->N r<N s)(l):∀n s D a r,Orch.parts f l n s D=ni (a,r)->N r<N s/\N a+N r<N D+N s:=by
 intro n
 induction n with
 |zero=>intro s D a r h;simp[Orch.parts]at h
 |succ n O=>
  intro s D a r h;exact Faj
def Wx:∀k s t r,Orch.ptype k s=ni (t,r)->N r<N s:=by
 intro k
 induction k with
 |zero=>intro s t r h;simp[Orch.ptype]at h
 |succ k O=>
  intro s t r h;cases s with
  |nil=>simp[Orch.ptype]at h
  |cons c q=>
   unfold Orch.ptype at h;split at h
   ·cases h
   ·split at h
    ·grind
    ·split at h
     ·cases h
     ·rename_i a b Q;obtain⟨rfl,rfl⟩:=h;have:=(EZ _ O _ _ _ _ _ _ Q).1;simp only[aU];omega
def Aea(f:hQ->Option (u×hQ))(k)(I:∀s t r,f s=ni (t,r)->N s<=64->CW k t/\N r<N s)(l):∀n s D a r,Orch.parts f l n s D=ni (a,r)->N s<=64->(∀p,p∈D->CW k p)->(∀p,p∈a->CW k p)/\(l.shape=2->N a=1):=by
 intro n
 induction n with
 |zero=>intro s D a r h;simp[Orch.parts]at h
 |succ n O=>
  intro s D a r h b d;exact Faj
def Aek:∀k s t r,Orch.ptype k s=ni (t,r)->N s<=64->CW k t/\N r<N s:=by
 intro k
 induction k with
 |zero=>intro s t r h;simp[Orch.ptype]at h
 |succ k O=>
  intro s t r h a;refine⟨?_,Wx _ _ _ _ h⟩;cases s with
  |nil=>simp[Orch.ptype]at h
  |cons c q=>
   unfold Orch.ptype at h;split at h
   ·cases h
   ·rename_i l K;have L:=Acl K;split at h
    ·obtain⟨rfl,rfl⟩:=h;refine⟨L,λJ=>?_,by simp[u.ps],λp Q=>by simp[u.ps]at Q⟩;simp only[u.l]at J;simp only[S,bG,eH,or_false]at L
     grind
    ·split at h
     ·cases h
     ·rename_i b d Q;obtain⟨rfl,rfl⟩:=h;simp only[aU]at a;have C:=Aea _ k O _ _ _ _ _ _ Q Aa (λp Q=>by simp at Q);have J:=(EZ _ (Wx k) _ _ _ _ _ _ Q).2;simp only[aX]at J;exact⟨L,C.2,by simp only[u.ps];omega,C.1⟩
def Vc{s t}(h:R s=ni t):CW 9 t:=by
 unfold R at h;split at h
 ·cases h
 ·split at h
  ·rename_i S Q;cases h;exact(Aek 9 s _ _ Q Aa).1
  ·cases h
def AJ(e:i):Prop:=∃(a b c d f:Int)(x:Bool)(g:Int)(p:iE)(m n:Nat)(r:hU),e=xr (my #[j a b c d f x g (um p m n),x7 r,vp o9])
def Aox(w w':U)(e:i):Option (u×hQ)->Prop
 |none=>AJ e
 |some (t,rest)=>∃psv r,e=xr (my #[Fa t.l psv,x7 r,vp tu])/\r.data.toList=rest/\O w' (λb=>y w.1<=b/\b<y w'.1) t.ps psv
def Aje(w w':U)(e:i):Option (List u×hQ)->Prop
 |none=>e=xr (my #[um su 0 0,x7 iN,vp o9])
 |some (ps,rest)=>∃v r,e=xr (my #[v,x7 r,vp tu])/\r.data.toList=rest/\O w' (λb=>y w.1<=b/\b<y w'.1) ps v
def GJ(k:Nat):Prop:=∀w(s:hU)(d:Int),Table w->s.size<=64->d+k=9->Z prog 181 #[x7 s,iL d] w λe w'=>Aox w w' e (Orch.ptype k s.data.toList)/\iM w w'
def Aa7(k:Nat):Prop:=∀w(s:hU)l(d:Int),Table w->s.size<=64->d+k=9->Z prog 204 #[x7 s,RE l,iL d] w λe w'=>Aje w w' e (Orch.parts (Orch.ptype k) l (s.size+1) s.data.toList [])/\iM w w'
def Tryz.info208:(prog.info? 208).map (λi=>(i.zero,i.size,i.bytes))=ni (ni (Il 0 0 0 0 0 o9 0 (um su 0 0)),8,72):=Ab
def Tryz.info183:(prog.info? 183).map (λi=>(i.zero,i.size,i.bytes))=ni (ni (vv 0 iN (um su 0 0)),3,48):=Ab
section
variable {Tabs:iA}
def BQ(w h sh P f V K u)(b:iE)(c d R)(g off k n a:Nat)(S C)(hk:k<=1000)(aa:k<=a)(Ig:g<iS w.1)(h4:n<=k)(i:Hid (∀B,iM w B->sf prog 221 #[R,iL 200] B λe D=>e=xr (my #[iL n,um (ni (iK g off)) k a,vp tu])/\iM B D))(E:Hid (∀B,Tabs B->sf prog 205 #[Il h sh P f V K u (um b c d),vv 0 S (um su 0 0)] B λe D=>e=xr (vp C)/\iM B D))(G:Hid (∀B,iM w B->Tabs B))(W:Hid (∀B,iM w B->(convert 37 9 (um (ni (iK g off)) n a)).run prog B=.ok (x7 S) B)):sf prog 220 #[Il h sh P f V K u (um b c d),R] w λe B=>
   ∃Y,e=xr (my #[vv 0 S (um su 0 0),Y,vp C])/\(Y=if a=n then um (ni (iK g off)) (k - n) 0 else um (ni ⟨g,off+n,su⟩) (k - n) (a - n))/\iM w B:=by
 have ab:¬(k:Int)<(n:Int):=Aa;obtain⟨L,F⟩:∃L,L=if a=n then um (ni (iK g off)) (k - n) 0 else um (ni ⟨g,off+n,su⟩) (k - n) (a - n):=⟨_,iP⟩;rw[←F];have q:Hid (L=if a=n then um (ni (iK g off)) (k - n) 0 else um (ni ⟨g,off+n,su⟩) (k - n) (a - n)):=F;clear F;obtain⟨n0,n1⟩:=Sg w (jf #[pq zi h,iL sh,iL P,iL f,iL V,vp K,pq zi u,um b c d] 208) (jf #[iL 0,x7 iN,um su 0 0] 183);have U:Hid (_=_):=n0;have J:Hid (_=_):=n1;clear n0 n1;go_enter func220,ntmps220;go_wp2_with (go_at_call 221;apply(i.out _ (Dk _ _ _)).mono;rintro e H⟨rfl,M⟩;have I:Hid (iM w H):=(Dk _ _ _).trans (M.mono Ah);have z:=W.out H I.out;have Q:Hid (H.1[iS w.1]?=_):=(M.block _ (ltOf U.out)).trans U.out;have Z:Hid (H.1[iS w.1+1]?=_):=(M.block _ (ltOf J.out)).trans J.out;clear M);have q0:(H.alloc (jf #[iL 0,x7 S,um su 0 0] 183)).1[iS w.1]?=_:=(rm _ _ _ (ltOf Q.out)).trans Q.out;have q1:(H.alloc (jf #[iL 0,x7 S,um su 0 0] 183)).1[iS w.1+1]?=_:=(rm _ _ _ (ltOf Z.out)).trans Z.out;have ad:=ltOf Z.out;apply CC (λX=>iM w X/\X.1[iS w.1]?=ni (jf #[pq zi h,iL sh,iL P,iL f,iL V,vp K,pq zi u,um b c d] 208) /\
  X.1[iS w.1+1]?=ni (jf #[iL 0,x7 iN,um su 0 0] 183)/\X.1[iS H.1]?=ni (jf #[iL 0,x7 S,um su 0 0] 183)) ⟨I.out.alloc Aa _,q0,q1,sx _ _⟩
 clear q0 q1 U J W i z Q Z I;generalize H.1.size=a1 at *;rintro X⟨r,s,v,l⟩;have ⟨a0,a6,a2,a3,a4,a5,a7,a8⟩:=XC s iP;have ⟨b0,b1,b2⟩:=Jn l iP;have HW:Hid (iM w X):=r;have y:Hid (X.1[iS w.1+1]?=ni (jf #[iL 0,x7 iN,um su 0 0] 183)):=v;have A:Hid (X.1[a1]?=ni (jf #[iL 0,x7 S,um su 0 0] 183)):=l;clear r s v l;by_cases o:a=n
 all_goals go_region_with (
  go_at_call 205;apply(E.out _ (G.out _ H8)).mono;rintro e m⟨rfl,N⟩;have j:m.1[iS w.1+1]?=ni (jf #[iL 0,x7 iN,um su 0 0] 183):=(N.block _ (ltOf y.out)).trans y.out;have p:m.1[a1]?=ni (jf #[iL 0,x7 S,um su 0 0] 183):=(N.block _ (ltOf A.out)).trans A.out;have O:Hid (iM w m):=qd H8 (N.mono (by first|exact HW.out.size));have ⟨x,t,T⟩:=Jn j iP;have ⟨f0,f1,f2,_⟩:=Iv j;have ⟨g0,g1,g2⟩:=Jn p iP;clear N j p)
 all_goals go_wp2
 all_goals refine wj (v:=my #[vv 0 S (um su 0 0),L,vp C]) ?_ iP ⟨L,iP,iP,?_⟩
 all_goals try exact Zd (by first|exact O.out|exact O.out.drew) _ (cQ _) _ _ _
 all_goals try(rw[q.out,aJ o];simp[qe,results220,go_sem,x,t,T];done)
 all_goals try(rw[q.out,aL o];simp[qe,results220,go_sem,x,t,T];done)
end
def Afl:Y->Nat|x7 s=>s.size|_=>0
def hide(h:p):Hid p:=h
def Table.pos{w}(h:Table w):8<=y w.1:=by have ⟨t,X,h⟩:=h;exact T h
def OT(s:hU)(h:0<s.size):s.data.toList=s[0]::(s.extract 1 s.size).data.toList:=by
 rw[Lib.extract_data];have P:0<N s.data.toList:=by simp_all
 have e:=eP P
 rwa[bN Ad]
def Aei(b)(b8:b<=9)(T:GJ b):Aa7 b:=by
 intro w s l u V hs Y;have U:=hide T;obtain⟨h,A⟩:∃h,Orch.parts (Orch.ptype b) l (s.size+1) s.data.toList []=h:=⟨_,iP⟩;rw[A];have a1:=hide A;have HT:=hide V;have ai:=V.pos;clear A T V;go_enter func204,ntmps204;go_wp2;go_loopw [0,9] (λz ae wr=>∃S ps c,z=x7 S/\Hid (Orch.parts (Orch.ptype b) l c S.data.toList (ps.map wv)=h)/\S.size<c/\iR ps+S.size<=64 /\
   Hid (wr.ownsRow (iS w.1+1) 208 8 ae (iR ps) (ps.flatMap Oh))/\Hid (∀v,v∈ps->Fc wr (Beside (iS w.1+1) ae wr) v.1.ps v.2)/\Hid (iM w wr) /\
   Hid (wr.1[iS w.1]?=ni (jf #[pq zi l.sign.toNat,iL l.shape,iL l.size,iL l.least,iL l.5,vp l.text,pq zi l.fin.toNat] 205)))
  (λz _ _=>Afl z)
 case atStart=>exact⟨s,[],s.size+1,iP,a1,Aa,by simpa using hs,h7 _ _ _ _,(λv hp=>by simp at hp),Be _ _,sx _ _⟩
 case round=>
  obtain⟨S,ps,c,rfl,R,hm,b9,N,C,HB,Z⟩:=hrel;have ⟨_,c1,_,_,_,_,c6⟩:=P9 Z.out iP;by_cases h0:S.size=0
  ·have ao:S.toList = []:=(toList_nil S).2 h0;have k:Hid (h=su):=by
    show _=_;rw[←R.out];cases c with
    |zero=>rfl
    |succ c=>rw[←Lib.toList_data,ao];rfl
   clear R;go_wp2;go_region
   all_goals go_wp2
   all_goals go_ret3
   all_goals exact⟨by rw[k.out];rfl,by first|exact HB.out|exact HB.out.drew⟩
  ·have a6:¬S.toList = []:=λF=>h0 ((toList_nil S).1 F);have ba:S.toList.isEmpty=o9:=by
    cases F:S.toList with
    |nil=>exact absurd F a6
    |cons _ _=>rfl
   have bb:(S.toList==[])=o9:=by simpa using a6
   have bc:(0:Int)<(S.size:Int):=Aa;have aq:0<S.size:=Aa;obtain⟨p,ar⟩:∃p,S[0]=p:=⟨_,iP⟩;have x:Hid (S.data.toList=p::(S.extract 1 S.size).data.toList):=by
    show _=_;rw[OT S aq,ar]
   obtain⟨q,rfl⟩:∃q,c=q+1:=⟨c - 1,Aa⟩;by_cases f:p=l.fin
   ·have au:((p.toNat:Int)==(l.fin.toNat:Int))=tu:=by rw[f];simp
    have k:Hid (h=if iR ps=0∨l.shape=2/\1<iR ps then su else ni (ps.map wv,(S.extract 1 S.size).data.toList)):=by
     show _=_;rw[←R.out,x.out,Orch.parts,aJ f,bU]
    clear R x f;obtain⟨ua,uc,D⟩:∃av aw,u9=um av (iR ps) aw:=by
     rcases N.out.2 with⟨E,F⟩|⟨g,I,e,E,_⟩
     ·exact⟨su,0,by rw[E,F]⟩
     ·exact⟨_,_,E⟩
    have HU:=hide D;rw[D]at N C⊢;clear D HU;have HD:Hid (∀W:qg,W.1=wr.1->Fc W (λd=>iS w.1<=d/\d<iS W.1) (ps.map wv) (um ua (iR ps) uc)):=λW hW=>(Akl N.out C.out (cQ _)).congr (λd F=>by rw[hW];exact F) (λd _=>by rw[hW])
    by_cases i:iR ps=0
    ·have ax:((iR ps:Int)==0)=tu:=by simpa using i
     have m:Hid (h=su):=by
      show _=_;rw[k.out,aJ (Or.inl i)]
     clear k;exact Cj5
    ·have ax:((iR ps:Int)==0)=o9:=by
      rw[beq_eq_false_iff_ne];omega
     by_cases J:l.shape=2
     ·have ay:((l.shape:Int)==2)=tu:=by rw[J];rfl
      by_cases h1:1<iR ps
      ·have az:(1:Int)<(iR ps:Int):=Aa;have m:Hid (h=su):=by
        show _=_;rw[k.out,aJ (Or.inr ⟨J,h1⟩)]
       clear k i J;exact Cj5
      ·have az:¬(1:Int)<(iR ps:Int):=Aa;exact Mov
     ·have ay:((l.shape:Int)==2)=o9:=by
       rw[beq_eq_false_iff_ne];omega
      exact Mov
   ·have au:((p.toNat:Int)==(l.fin.toNat:Int))=o9:=by
     rw[beq_eq_false_iff_ne];intro F;exact f (gQ.1 Aa)
    have k:Hid (h=match Orch.ptype b S.data.toList with
      |none=>su
      |some (t,n)=>Orch.parts (Orch.ptype b) l q n (ps.map wv++[t])):=by
     show _=_;rw[←R.out,x.out,Orch.parts,aL f]
     rfl
    have a7:S.size<=64:=Aa;have B:=hide (HT.out.below HB.out ai);have L:Hid (∀t r,Orch.ptype b S.data.toList=ni (t,r)->iR r<S.size):=λt r F=>by
     rw[gq];exact Wx _ _ _ _ F
    clear R x f;cases G:Orch.ptype b S.data.toList with
    |none=>
     have m:Hid (h=su):=by
      show _=_;rw[k.out,G]
     have X:Hid (∀a,Table a->sf prog 181 #[x7 S,iL u] a λE o=>AJ E/\iM a o):=λa K=>by
      have:=U.out a S u K a7 Y;rw[G]at this;exact this
     clear k G L;go_wp2;go_region
     all_goals go_wp2_with (go_at_call 181;apply(X.out _ HV).mono;rintro E H⟨⟨ta,tb,tc,td,tf,tx,tg,tp,tm,tn,tr,rfl⟩,M⟩;have O:=hide (qd (Fo _) M);clear M)
     all_goals go_ret3
     all_goals exact⟨by rw[m.out];rfl,(HB.out.trans (O.out.mono HB.out.size)).alloc (by have:=HB.out.size;have:=O.out.size;omega) _⟩
    |some tr=>
     obtain⟨t,n⟩:=tr;have b5:=L.out t n G;have m:Hid (Orch.parts (Orch.ptype b) l q n (ps.map wv++[t])=h):=by
      show _=_;rw[k.out,G]
     have X:Hid (∀a,Table a->sf prog 181 #[x7 S,iL u] a λE o=>(∃P r,E=xr (my #[Fa t.l P,x7 r,vp tu])/\r.data.toList=n/\Fc o (λd=>iS a.1<=d/\d<iS o.1) t.ps P)/\iM a o):=λa K=>by
      have:=U.out a S u K a7 Y;rw[G]at this;exact this
     clear k G L U HT a1;obtain⟨i0,aj,ak,al,an⟩:=zu Tryz.info208;go_wp2;go_region
     all_goals go_wp2_with (first|(at_builtin;refine wpList_append_lies _ iP _ _ 206 iP (iS w.1+1) 208 i0 (Il 0 0 0 0 0 o9 0 (um su 0 0)) 8 72 underlying206 aj ak al an iP Ae _ _ _ iP (((Ew N.out O.out).alloc _).alloc _) ⟨iS H.1+1,0,su⟩ 1 1 (Oh (t,um y (iR t.ps) j)) iP iP ?hn ?h1 Ae ?c3 ?c4 ?c5 (iS H.1+1+1) ?hH ?_)|(go_at_call 181;apply(X.out _ HV).mono;rintro E H⟨⟨P,r,rfl,a8,aa⟩,M⟩;have O:=hide (qd (Fo _) M);have ab:=hide a8;obtain⟨y,j,rfl⟩:=aa.shape;have b6:=hide aa;clear M a8 aa))
     case hn=>exact k8 (Sg H _ _).2
     case h1=>intro ae hu;simp only[Oh,bG,eH,or_false]at hu;rcases hu with rfl|rfl|rfl|rfl|rfl|rfl|rfl|rfl<;>rfl
     case c3=>unfold maxLen;omega
     case c4=>omega
     case c5=>have:=HB.out.size;have:=O.out.size;simp;omega
     case hH=>simp
     intro g I w3 ad af ah _;obtain⟨r1,r2,Q⟩:=Ak4 (t:=t) (x:=um y (iR t.ps) j) (by have:=ltOf Z.out;omega) N.out C.out O.out b6.out (Dk H _ _) ad af (by simpa using ah);have bd:r.size<S.size:=by rw[gq r,ab.out];exact b5
     have b7:Hid (Orch.parts (Orch.ptype b) l q r.data.toList ((ps++[(t,um y (iR t.ps) j)]).map wv)=h):=by
      show _=_;rw[ab.out,cP];exact m.out
     have R1:=hide r1;have R2:=hide r2;have R3:=hide (HB.out.trans (Q.mono (cQ _)));have R4:=hide ((Q.block _ (gL _)).trans Z.out);clear r1 r2 Q ad af ah;go_wp2;go_roundw
     case rel=>exact⟨r,ps++[(t,um y (iR t.ps) j)],q,iP,b7,Aa,by rw[aM,oo];omega,R1,R2,R3,R4⟩
     case measure=>simp[Afl];omega
def VJ(w)(s:hU)(d)(h:s.size=0∨8<d):Z prog 181 #[x7 s,iL d] w λe B=>AJ e/\iM w B:=by
 by_cases F:s.size=0
 ·have D:s.toList = []:=(M s).2 F;exact Jg7
 ·have I:8<d:=Aa;have C:(s.toList==[])=o9:=by simpa using(λh=>F ((M s).1 h))
  exact Jg7
def Ah0:GJ 0:=by
 intro w s d V a y;exact VJ w s d (Or.inr Aa)
def Hq{u}{a:i->U->Prop}{Y b w}(F:iA)(hF:F w)(h:∀W,F W->bodyPost P u a Y b W):=h w hF
def Ae6(W:U)(g t)(z:iB)(N:z.size=8)(G:W.1[g]?=ni (jf z t (0,0)))(P Z B E k v w R):((((((((W.setCell (iJ g) P).setCell (iK g 1) Z).setCell (iK g 2) B).setCell (iK g 3) E).setCell (iK g 4) k).setCell (iK g 5) v).setCell (iK g 6) w).setCell (iK g 7) R).1[g]?=ni (jf #[P,Z,B,E,k,v,w,R] t (0,0)):=by
 have F:=ye W g 0 _ t P G;have C:=ye _ g 1 _ t Z F;have J:=ye _ g 2 _ t B C;have T:=ye _ g 3 _ t E J;have q:=ye _ g 4 _ t k T;have a:=ye _ g 5 _ t v q;have f:=ye _ g 6 _ t w a;have M:=ye _ g 7 _ t R f;apply M.trans;clear M f a q T J C F G
 match z,N with
 |⟨[z0,z1,z2,z3,z4,z5,z6,z7]⟩,_=>simp
def Ae1{X}(h:X.1[g]?=ni o/\Q B r X):X.drew.1[g]?=ni o/\Q B r X.drew:=⟨h.1,h.2.drew⟩
def Ahx(w)(s:hU)(d)(a:Table w)(y:0<s.size)(D:d<=8)(l)(h:find s[0]=ni l)(e:l.fin=0):sf prog 181 #[x7 s,iL d] w λf t=>f=xr (my #[Fa l (um su 0 0),x7 (s.extract 1 s.size),vp tu])/\iM w t:=by
 refine W8g λn q g r=>?_;unfold Ov at r;rw[h]at r;obtain⟨p,L⟩:∃p,s[0]=p:=⟨_,iP⟩;rw[L]at r;have F:(l.fin.toNat:Int)=0:=by rw[e];rfl
 simp only[RE,ltv,F]at r;simp only[Fa,Il,F];have i:=hide r;clear r h a e F;generalize l.sign.toNat=v at *;generalize l.shape=A at *;generalize l.size=P at *;generalize l.least=j at *;generalize l.5=V at *;generalize l.text=K at *;have B:=hide (sx w (jf #[pq zi 0,iL 0,iL 0,iL 0,iL 0,vp o9,pq zi 0,um su 0 0] 208));go_enter func181,ntmps181;go_wp2_with (go_at_call 203;apply i.out.mono;rintro f H⟨rfl,M⟩;have O:=hide ((Be _ _).trans (M.mono Ad));have Z:=hide ((M.block _ (ltOf B.out)).trans B.out);clear M);have c:(H.alloc (jf #[pq zi v,iL A,iL P,iL j,iL V,vp K,pq zi 0] 205)).1[iS w.1]?=_:=(rm _ _ _ (ltOf Z.out)).trans Z.out;apply CC (λX=>iM w X/\X.1[iS w.1]?=ni (jf #[pq zi 0,iL 0,iL 0,iL 0,iL 0,vp o9,pq zi 0,um su 0 0] 208)/\X.1[iS H.1]?=ni (jf #[pq zi v,iL A,iL P,iL j,iL V,vp K,pq zi 0] 205))
  ⟨O.out.alloc O.out.size _,c,sx _ _⟩
 have a8:iS w.1<iS H.1:=ltOf Z.out;clear c B i O Z g;generalize H.1.size=I at *;rintro X⟨k,z,m⟩;have ⟨S,T,U,W,Y,a5,a6,a7⟩:=XC z iP;have ⟨f0,f1,f2,f3,f4,f5,f6,f7⟩:=Iv z;have u:=hide z;have ⟨b0,b1,b2,b3,b4,b5,b6⟩:=P9 m iP;have HW:=hide k;clear k z m;go_region
 all_goals go_wp2
 all_goals apply Hq (λb=>b.1[iS w.1]?=ni (jf #[pq zi v,iL A,iL P,iL j,iL V,vp K,pq zi 0,um su 0 0] 208)/\iM w b) (Ae1 ⟨Ae6 X _ _ _ iP u.out _ _ _ _ _ _ _ _,((((((((HW.out.setCell (p:=⟨(iS w.1),0,su⟩) (aB _) (pq IntKind.u8 ↑v)).setCell (p:=⟨(iS w.1),1,su⟩) (aB _) (iL ↑A)).setCell (p:=⟨(iS w.1),2,su⟩) (aB _) (iL ↑P)).setCell (p:=⟨(iS w.1),3,su⟩) (aB _) (iL j)).setCell (p:=⟨(iS w.1),4,su⟩) (aB _) (iL V)).setCell (p:=⟨(iS w.1),5,su⟩) (aB _) (Value.bool K)).setCell (p:=⟨(iS w.1),6,su⟩) (aB _) (pq IntKind.u8 0)).setCell (aB _) (um su 0 0))⟩)
 all_goals rintro b⟨o,x⟩
 all_goals have c0:=cellOf (j:=0) o iP
 all_goals have Q:=cellOf (j:=1) o iP
 all_goals have R:=cellOf (j:=2) o iP
 all_goals have C:=cellOf (j:=3) o iP
 all_goals have E:=cellOf (j:=4) o iP
 all_goals have G:=cellOf (j:=5) o iP
 all_goals have J:=cellOf (j:=6) o iP
 all_goals have N:=cellOf (j:=7) o iP
 all_goals exact wj (v:=my #[Il v A P j V K 0 (um su 0 0),x7 (s.extract 1 s.size),vp tu]) (by simp[qe,results181,go_sem,c0,Q,R,C,E,G,J,N]) iP ⟨iP,x⟩
def Ahy(w)(s:hU)(q)(a:Table w)(af:0<s.size)(ah:0<=q)(hd:q<=8)(l)(h:find s[0]=ni l)(Y:l.fin≠0)(pv:qg->Option rj->Nat->Nat->hU->Bool->qg->Prop)(HP:Hid (∀B,Table B->sf prog 204 #[x7 (s.extract 1 s.size),RE l,iL (q+1)] B λe a1=>(∃d m f k i,e=xr (my #[um d m f,x7 k,vp i])/\pv B d m f k i a1)/\iM B a1)):sf prog 181 #[x7 s,iL q] w λe B=>(∃wa S d m f k i,e=xr (my #[Fa l (um d m f),x7 k,vp i])/\pv wa d m f k i S/\iS w.1<iS wa.1/\iS B.1=iS S.1/\∀t,iS w.1<t->B.1[t]?=S.1[t]?)/\iM w B:=by
 have aa:¬s.toList = []:=λh=>by have:=(toList_nil s).1 h;omega
 have ai:(s.toList==[])=o9:=by simpa using aa
 have aj:(0:Int)<(s.size:Int):=Aa;have g:Hid (Table (w.alloc (jf #[pq zi 0,iL 0,iL 0,iL 0,iL 0,vp o9,pq zi 0,um su 0 0] 208))):=a.below (Be _ _) a.pos;have ab:Hid (∀B,iM w B->Table B):=λB hb=>a.below hb a.pos;have r:=Js (w.alloc (jf #[pq zi 0,iL 0,iL 0,iL 0,iL 0,vp o9,pq zi 0,um su 0 0] 208)) g.out s[0];unfold Ov at r;rw[h]at r;obtain⟨p,L⟩:∃p,s[0]=p:=⟨_,iP⟩;rw[L]at r;have F:((l.fin.toNat:Int)==0)=o9:=by
  rw[beq_eq_false_iff_ne];intro h;exact Y (gQ.1 Ah)
 have z:=hide r;clear r h a Y;simp only[RE,ltv,Fa,Il]at z HP⊢;generalize l.sign.toNat=v at *;generalize l.shape=A at *;generalize l.size=P at *;generalize l.least=n at *;generalize l.5=V at *;generalize l.text=K at *;generalize l.fin.toNat=u at *;refine Mqt λU=>?_;go_enter func181,ntmps181;go_wp2_with (go_at_call 203;apply z.out.mono;rintro e H⟨rfl,M⟩;have O:=hide ((Be _ _).trans (M.mono Ad));have Z:=hide ((M.block _ (ltOf U.out)).trans U.out);clear M);have c:(H.alloc (jf #[pq zi v,iL A,iL P,iL n,iL V,vp K,pq zi u] 205)).1[iS w.1]?=_:=(rm _ _ _ (ltOf Z.out)).trans Z.out;apply CC (λX=>iM w X/\X.1[iS w.1]?=ni (jf #[pq zi 0,iL 0,iL 0,iL 0,iL 0,vp o9,pq zi 0,um su 0 0] 208)/\X.1[iS H.1]?=ni (jf #[pq zi v,iL A,iL P,iL n,iL V,vp K,pq zi u] 205))
  ⟨O.out.alloc O.out.size _,c,sx _ _⟩
 have a8:iS w.1<iS H.1:=ltOf Z.out;clear c U z O Z g;generalize H.1.size=ak at *;rintro X⟨a6,m0,T⟩;have ⟨b0,b1,b2,b3,b4,b5,b6⟩:=P9 T iP;have j:=hide a6;have W:=hide m0;have M1:=hide T;clear a6 m0 T;go_region_with (
  go_at_call 204;apply(HP.out _ (ab.out _ SG)).mono;rintro e w2⟨⟨I,x,y,rr,i,rfl,a7⟩,D⟩;have ad:=hide a7;have ae:=hide (qd SG (D.mono (by first|exact j.out.size)));have K0:=hide ((D.block _ (ltOf W.out)).trans W.out);have b:=hide ((D.block _ (ltOf M1.out)).trans M1.out);clear D a7)
 all_goals have e0:=cellOf (j:=0) b.out iP
 all_goals have e1:=cellOf (j:=1) b.out iP
 all_goals have e2:=cellOf (j:=2) b.out iP
 all_goals have e3:=cellOf (j:=3) b.out iP
 all_goals have e4:=cellOf (j:=4) b.out iP
 all_goals have e5:=cellOf (j:=5) b.out iP
 all_goals have e6:=cellOf (j:=6) b.out iP
 all_goals go_wp2_with (apply wpList_store_row iP 208 _ _ iP w.1.size #[pq zi v,iL A,iL P,iL n,iL V,vp K,pq zi u,um I x y] iP iP 208 _ K0.out Tryz.size208 iP (Wq _ _ _ _ _ _ _ _ _ _))
 all_goals have o:=jg _ _ _ #[pq zi v,iL A,iL P,iL n,iL V,vp K,pq zi u,um I x y] _ _ K0.out
 all_goals have c0:=cellOf (j:=0) o iP
 all_goals have Q:=cellOf (j:=1) o iP
 all_goals have R:=cellOf (j:=2) o iP
 all_goals have C:=cellOf (j:=3) o iP
 all_goals have E:=cellOf (j:=4) o iP
 all_goals have G:=cellOf (j:=5) o iP
 all_goals have J:=cellOf (j:=6) o iP
 all_goals have N:=cellOf (j:=7) o iP
 all_goals refine wj (v:=my #[Il v A P n V K u (um I x y),x7 rr,vp i]) (by simp[qe,results181,go_sem,c0,Q,R,C,E,G,J,N]) iP ⟨⟨_,w2,I,x,y,rr,i,iP,ad.out,by show iS w.1<iS X.1;exact ltOf W.out,Ad,λt hb=>np _ _ _ _ Aa⟩,Cu ae.out (aB _) _⟩
def Ahz(k)(B:k+1<=9)(Q:Aa7 k):GJ (k+1):=by
 intro w s d V S T;by_cases h:s.size=0
 ·have e:Orch.ptype (k+1) s.data.toList=su:=by
   rw[←Lib.toList_data,(M s).2 h];rfl
  rw[e];exact VJ w s d (Or.inl h)
 ·have J:0<s.size:=Aa;have y:(s.extract 1 s.size).size<=64:=by
   rw[gq,Lib.extract_data,eG,cU];omega
  rw[(OT s J),Orch.ptype];cases I:find s[0] with
  |none=>
       have W:(s.toList==[])=o9:=by simpa using(λI=>by have:=(M s).1 I;omega)
       have a1:(0:Int)<(s.size:Int):=Aa;have X:Hid (Table (w.alloc (jf #[pq zi 0,iL 0,iL 0,iL 0,iL 0,vp o9,pq zi 0,um su 0 0] 208))):=V.below (Be _ _) V.pos;have r:=Js (w.alloc (jf #[pq zi 0,iL 0,iL 0,iL 0,iL 0,vp o9,pq zi 0,um su 0 0] 208)) X.out s[0];unfold Ov at r;rw[I]at r;obtain⟨j,P⟩:∃j,s[0]=j:=⟨_,iP⟩;rw[P]at r;have F:=hide r;clear r I V;exact Jtx
  |some l=>
   by_cases K:l.fin=0
   ·simp only[aJ K];apply(Ahx w s d V J Aa l I K).mono;rintro e a⟨rfl,D⟩;exact⟨⟨_,_,iP,iP,.nil _ _⟩,D⟩
   ·simp only[aL K,((gq _).symm)];obtain⟨E,A⟩:∃E,Orch.parts (Orch.ptype k) l ((s.extract 1 s.size).size+1) (s.extract 1 s.size).data.toList []=E:=⟨_,iP⟩;rw[A];by_cases z:0<=d
    ·refine(Ahy w s d V J z Aa l I K (λa b m c r p t=>Aje a t (xr (my #[um b m c,x7 r,vp p])) E) (λa R=>?_)).mono ?_
     ·apply(Q a (s.extract 1 s.size) l (d+1) R y Aa).mono;rintro e t⟨g,D⟩;rw[A]at g;refine⟨?_,D⟩;cases E with
      |none=>
       have N:e=xr (my #[um su 0 0,x7 iN,vp o9]):=g;exact⟨su,0,0,iN,o9,N,by rwa[←N]⟩
      |some q=>
       obtain⟨u,G⟩:=q;obtain⟨v,r,N,Y,f⟩:=g;obtain⟨b,c,rfl⟩:=f.shape;exact⟨b,iR u,c,r,tu,N,⟨_,r,iP,Y,f⟩⟩
     ·rintro e a⟨⟨a6,a7,b,m,c,r,p,rfl,L,a8,C,n⟩,D⟩;refine⟨?_,D⟩;cases E with
      |none=>
       have N:Ending.returned (my #[um b m c,x7 r,vp p])=xr (my #[um su 0 0,x7 iN,vp o9]):=L;simp only[kr,fy,gA,dG,o4]at N;obtain⟨_,_,rfl,_⟩:=N;exact⟨_,_,_,_,_,_,_,_,_,_,_,iP⟩
      |some q=>
       obtain⟨u,G⟩:=q;obtain⟨v,O,N,Y,f⟩:=L;simp only[kr,fy,gA,dG,o4,Value.string.injEq]at N;obtain⟨rfl,rfl,rfl,_⟩:=N;refine⟨_,_,iP,Y,f.congr (λx o=>⟨Aa,by rw[C];exact o.2⟩) (λx o=>n x Aa)⟩
    ·omega
def Alr:∀k,k<=9->GJ k:=by
 intro k
 induction k with
 |zero=>intro _;exact Ah0
 |succ k O=>intro h;exact Ahz k h (Aei k Aa (O Aa))
def parseRes(w w':U)(e:i):Option u->Prop
 |none=>∃(a b c d f:Int)(x:Bool)(g:Int)(p:iE)(m n:Nat),e=xr (my #[j a b c d f x g (um p m n),vp o9])
 |some t=>∃psv,e=xr (my #[Fa t.l psv,vp tu])/\O w' (λb=>y w.1<=b/\b<y w'.1) t.ps psv
def NK(w)(s:hU)(h:s.size<=64)(v:Hid (sf prog 181 #[x7 s,iL 0] (w.alloc (jf #[pq zi 0,iL 0,iL 0,iL 0,iL 0,vp o9,pq zi 0,um su 0 0] 208)) λe B=>AJ e/\Q (w.alloc (jf #[pq zi 0,iL 0,iL 0,iL 0,iL 0,vp o9,pq zi 0,um su 0 0] 208)).1.size (w.alloc (jf #[pq zi 0,iL 0,iL 0,iL 0,iL 0,vp o9,pq zi 0,um su 0 0] 208)) B)):sf prog 141 #[x7 s] w λe B=>parseRes w B e su/\iM w B:=by
 have N:¬(64:Int)<(s.size:Int):=Aa;refine Mqt λU=>?_;go_enter func141,ntmps141;go_wp2_with (first
  |(apply wpList_store_row iP 208 _ _ iP w.1.size #[pq zi 0,iL 0,iL 0,iL 0,iL 0,vp o9,pq zi 0,um su 0 0] iP iP 208 _ I.out Tryz.size208 iP (Wq _ _ _ _ _ _ _ _ _ _))
  |(go_at_call 181;apply v.out.mono;rintro e H⟨⟨a,b,c,d,f,x,g,p,m,n,r,rfl⟩,M⟩;have O:=hide ((Be _ _).trans (M.mono Ad));have Z:=hide ((M.block _ (T U.out)).trans U.out);have I:Hid ((H.alloc (jf #[pq zi a,iL b,iL c,iL d,iL f,vp x,pq zi g,um p m n] 208)).1[y w.1]?=ni (jf #[pq zi 0,iL 0,iL 0,iL 0,iL 0,vp o9,pq zi 0,um su 0 0] 208)):=(rm _ _ _ (T Z.out)).trans Z.out;clear M))
 exact Brm
def RZ(w)(s:hU)(i:s.size<=64)(y:Hid (sf prog 181 #[x7 s,iL 0] (w.alloc (jf #[pq zi 0,iL 0,iL 0,iL 0,iL 0,vp o9,pq zi 0,um su 0 0] 208)) λe B=>(∃(a b c d f:Int)(x:Bool)(g:Int)(p:iE)(m n:Nat)(r:hU),e=xr (my #[j a b c d f x g (um p m n),x7 r,vp tu])/\r.size≠0)/\Q (w.alloc (jf #[pq zi 0,iL 0,iL 0,iL 0,iL 0,vp o9,pq zi 0,um su 0 0] 208)).1.size (w.alloc (jf #[pq zi 0,iL 0,iL 0,iL 0,iL 0,vp o9,pq zi 0,um su 0 0] 208)) B)):sf prog 141 #[x7 s] w λe B=>parseRes w B e su/\iM w B:=by
 have N:¬(64:Int)<(s.size:Int):=Aa;have v:=hide (sx w (jf #[pq zi 0,iL 0,iL 0,iL 0,iL 0,vp o9,pq zi 0,um su 0 0] 208));go_enter func141,ntmps141;go_wp2_with (first
  |(apply wpList_store_row iP 208 _ _ iP w.1.size #[pq zi 0,iL 0,iL 0,iL 0,iL 0,vp o9,pq zi 0,um su 0 0] iP iP 208 _ I.out Tryz.size208 iP (Wq _ _ _ _ _ _ _ _ _ _))
  |(go_at_call 181;apply y.out.mono;rintro e H⟨⟨a,b,c,d,f,x,g,p,m,n,r,rfl,M⟩,h⟩;have O:=hide ((Be _ _).trans (h.mono Ad));have Z:=hide ((h.block _ (T v.out)).trans v.out);have I:Hid ((H.alloc (jf #[pq zi a,iL b,iL c,iL d,iL f,vp x,pq zi g,um p m n] 208)).1[iS w.1]?=ni (jf #[pq zi 0,iL 0,iL 0,iL 0,iL 0,vp o9,pq zi 0,um su 0 0] 208)):=(rm _ _ _ (T Z.out)).trans Z.out;have C:(r.toList==[])=o9:=(by simpa using(λi=>M ((toList_nil r).1 i)));clear h M))
 exact Brm
def YZ(w)(s:hU)(j:s.size<=64)(a b c d f x g)(t:Option rj->Nat->Nat->qg->Prop)(h:Hid (sf prog 181 #[x7 s,iL 0] (w.alloc (jf #[pq zi 0,iL 0,iL 0,iL 0,iL 0,vp o9,pq zi 0,um su 0 0] 208)) λe B=>(∃(p:iE)(m n:Nat)(r:hU),e=xr (my #[Il a b c d f x g (um p m n),x7 r,vp tu])/\r.size=0/\t p m n B)/\Q (w.alloc (jf #[pq zi 0,iL 0,iL 0,iL 0,iL 0,vp o9,pq zi 0,um su 0 0] 208)).1.size (w.alloc (jf #[pq zi 0,iL 0,iL 0,iL 0,iL 0,vp o9,pq zi 0,um su 0 0] 208)) B)):sf prog 141 #[x7 s] w λe B=>(∃p m n S,e=xr (my #[Il a b c d f x g (um p m n),vp tu])/\t p m n S/\y S.1<=y B.1/\∀k,y w.1<k->k<y S.1->B.1[k]?=S.1[k]?)/\iM w B:=by
 have N:¬(64:Int)<(s.size:Int):=Aa;refine Mqt λU=>?_;go_enter func141,ntmps141;go_wp2_with (first
  |(apply wpList_store_row iP 208 _ _ iP w.1.size #[pq zi a,iL b,iL c,iL d,iL f,vp x,pq zi g,um p m n] iP iP 208 _ I.out Tryz.size208 iP (Wq _ _ _ _ _ _ _ _ _ _))
  |(go_at_call 181;apply h.out.mono;rintro e H⟨⟨p,m,n,r,rfl,Y,L⟩,M⟩;have O:=hide ((Be _ _).trans (M.mono Ad));have Z:=hide ((M.block _ (T U.out)).trans U.out);have I:Hid ((H.alloc (jf #[pq zi a,iL b,iL c,iL d,iL f,vp x,pq zi g,um p m n] 208)).1[y w.1]?=ni (jf #[pq zi 0,iL 0,iL 0,iL 0,iL 0,vp o9,pq zi 0,um su 0 0] 208)):=(rm _ _ _ (T Z.out)).trans Z.out;have D:r.toList = []:=(toList_nil r).2 Y;have z:=hide L;clear M Y L))
 apply Hq (λX=>X.1[y w.1]?=ni (jf #[pq zi a,iL b,iL c,iL d,iL f,vp x,pq zi g,um p m n] 208)/\iM w X/\y H.1<=y X.1/\∀k,y w.1<k->k<y H.1->X.1[k]?=H.1[k]?) ⟨jg _ _ _ _ _ _ I.out,Cu (O.out.alloc O.out.size _) (aB _) _,Ad,λk C J=>(np _ _ _ _ Aa).trans (rm _ _ _ J)⟩;rintro X⟨o,E,i,v⟩;have V:=hide i;have A:=hide v;clear i v;exact wj (v:=my #[Il a b c d f x g (um p m n),vp tu]) (by simp[qe,results141,go_sem,(K (j:=0) o iP),(K (j:=1) o iP),(K (j:=2) o iP),(K (j:=3) o iP),(K (j:=4) o iP),(K (j:=5) o iP),(K (j:=6) o iP),(K (j:=7) o iP)]) iP ⟨⟨p,m,n,H,iP,z.out,V.out,A.out⟩,E⟩
def Rz(w)(s:hU)(V:Table w):sf prog 141 #[x7 s] w λe B=>parseRes w B e (R s.data.toList)/\iM w B:=by
 unfold R;by_cases h:64<s.size
 ·rw[aJ (by simp_all)];exact Pd0
 ·rw[aL (by simp_all)];have M:=Alr 9 Aa (w.alloc (jf #[pq zi 0,iL 0,iL 0,iL 0,iL 0,vp o9,pq zi 0,um su 0 0] 208)) s 0 (V.below (Be _ _) V.pos) Aa Aa;cases Q:Orch.ptype 9 s.data.toList with
  |none=>
   rw[Q]at M;exact NK w s Aa M
  |some i=>
   obtain⟨t,j⟩:=i;rw[Q]at M;cases j with
   |cons y v=>
    refine RZ w s Aa (M.mono ?_);rintro e B⟨⟨a,r,rfl,Y,Z⟩,D⟩;obtain⟨F,d,rfl⟩:=Z.shape;exact⟨⟨_,_,_,_,_,_,_,_,_,_,r,iP,by rw[gq,Y];simp⟩,D⟩
   |nil=>
    refine(YZ w s Aa t.l.sign.toNat t.l.shape t.l.size t.l.least t.l.5 t.l.text t.l.fin.toNat (λp m n B=>O B (λb=>iS w.1+1<=b/\b<iS B.1) t.ps (um p m n)) (M.mono ?_)).mono ?_
    ·rintro e B⟨⟨a,r,rfl,Y,Z⟩,D⟩;obtain⟨F,d,rfl⟩:=Z.shape;exact⟨⟨F,_,d,r,iP,by rw[gq,Y];rfl,SR⟩,D⟩
    ·rintro e B⟨⟨p,m,n,S,rfl,L,f,X⟩,D⟩;exact⟨⟨_,iP,L.congr (λb o=>⟨Aa,Aa⟩) (λb o=>X b Aa o.2)⟩,D⟩
def Ui(base:Nat)(w:U)(es:List Orch.V)(lv:Y):Prop:=CE w base w.1.size es lv
def Ui.nil(a w):Ui a w [] (um su 0 0):=CE.nil _ _
def Ui.keep{w B base A X a}(h:Ui base w X a)(D:A<=base)(s:y w.1<=y B.1)(E:∀b,base<=b->b<y w.1->B.1[b]?=w.1[b]?):Ui A B X a:=
 (CE.congr h E).mono D s
def It(w w':U)(bv:Y)(l:hQ)(e:i):Option (Orch.V×hQ)->Prop
 |none=>Rw e
 |some (v,rest)=>∃lv rv,e=xr (my #[OY v lv,rv,vp tu])/\D9 w' (λb=>y w.1<=b/\b<y w'.1) v.l lv/\Kq bv l rv rest/\Ui w.1.size w' v.l lv
def Ajl(w w':U)(bv:Y)(l:hQ)(e:i):Option (List Orch.V×hQ)->Prop
 |none=>Rw e
 |some (es,rest)=>∃lv rv,e=xr (my #[k 0 iN lv,rv,vp tu])/\D9 w' (λb=>y w.1<=b/\b<y w'.1) es lv/\Kq bv l rv rest/\Ui w.1.size w' es lv
def PO(valid:gZ)(Tabs:iA)(k:Nat):Prop:=∀w,Tabs w->∀t,CW k t->∀S(psv:Y),O w S t.ps psv->(∀b,S b->b<y w.1)->∀bv(l:hQ),N l<=1000->J8 w bv l ->
 Z prog 207 #[Fa t.l psv,bv] w λe w'=>It w w' bv l e (Orch.take valid k t l)/\iM w w'
def Aa9(valid:gZ)(Tabs:iA)(k:Nat):Prop:=∀w,Tabs w->∀t,CW (k+1) t->∀S(psv:Y),O w S t.ps psv->(∀b,S b->b<y w.1)->∀n,n<=64->(t.l.shape=2∨t.l.shape=3/\n=N t.ps)->∀bv(l:hQ),N l<=1000->J8 w bv l ->
 Z prog 222 #[Fa t.l psv,iL n,bv] w λe w'=>Ajl w w' bv l e (Orch.takeE (Orch.take valid k) t n 0 l)/\iM w w'
def take_len(a){k t l v r}(h:Orch.take a k t l=ni (v,r)):N r<=N l:=by
 have ⟨pre,D,_⟩:=put_take a _ _ _ _ _ h
 grind
def Afo(b6:Im z F)(k)(ih:PO z F k):Aa9 z F k:=by
 intro w hT t b7 af db ao hS n hn b8 bv l hl b9;obtain⟨b,d,rfl⟩:=ao.shape;have ba:=hide ih;have bb:=hide ao;have HS:=hide hS;have aq:=hide b7;have ar:=hide b8;have c7:Hid (∀T,iM w T->F T):=λT s=>b6.kept (b6.size hT) s hT;obtain⟨A,au⟩:∃A,Orch.takeE (Orch.take z k) t n 0 l=A:=⟨_,iP⟩;rw[au];have bc:=hide au;have c8:=hide b9;clear ih ao hS b7 b8 hT au b9;simp only[Fa,Il];generalize bd:t.l.sign.toNat=h;generalize bf:t.l.shape=sh;generalize bg:t.l.size=P;generalize bh:t.l.least=f;generalize bj:t.l.5=V;generalize bk:t.l.text=K;generalize bm:t.l.fin.toNat=u;have bn:Hid (∀(W:qg)(i:Nat),i<n->iM w W->sf prog 206 #[.agg #[pq zi h,iL sh,iL P,iL f,iL V,vp K,pq zi u,um b (iR t.ps) d],iL i] W λm T=>∃x,m=xr (Fa (Orch.part t i).l x)/\Fc W af (Orch.part t i).ps x/\iM W T):=λW i c9 bo=>by
  subst bd bf bg bh bj bk bm;exact NM W af t aq.out _ (bb.out.congr (λ_ s=>s) (λe D=>bo.block e (HS.out e D))) (λe D=>aC (HS.out e D) bo.size) i (by have:=ar.out;omega)
 clear bd bf bg bh bj bk bm;have bq:Hid (∀i,i<n->CW k (Orch.part t i)):=λi c9=>VG aq.out i (by have:=ar.out;omega);clear ar aq;generalize (iR t.ps)=c at *;obtain⟨J,n1,n2⟩:=Aoq w (jf #[pq zi h,iL sh,iL P,iL f,iL V,vp K,pq zi u,um b c d] 208) (jf #[iL 0,x7 iN,um su 0 0] 183) (jf #[iL 0,x7 iN,um su 0 0] 183);have U:=hide J;have N1:=hide n1;have N2:=hide n2;clear J n1 n2;have cc:iS w.1+3<=(((w.alloc (jf #[pq zi h,iL sh,iL P,iL f,iL V,vp K,pq zi u,um b c d] 208)).alloc (jf #[iL 0,x7 iN,um su 0 0] 183)).alloc (jf #[iL 0,x7 iN,um su 0 0] 183)).1.size:=Ad;obtain⟨i0,aj,ak,al,an⟩:=zu Tryz.info183;go_enter func222,ntmps222;go_wp2;go_loopw [2,15] (λb2 cd wr=>∃(i ab:Nat) (lr:hQ) (ps:List (Orch.V×w8)) (lv:w8),cd=iL i/\i+ab=n/\iR ps=i/\iR lr<=1000/\Hid (Kq bv l b2 lr) /\
   Hid ((Orch.takeE (Orch.take z k) t ab i lr).map (λr=>(ps.map wv++r.1,r.2))=A)/\Hid (iM w wr)/\Hid (iS w.1+3<=iS wr.1) /\
   Hid (wr.1[iS w.1]?=ni (jf #[pq zi h,iL sh,iL P,iL f,iL V,vp K,pq zi u,um b c d] 208)) /\
   Hid (wr.1[iS w.1+1]?=ni (jf #[iL 0,x7 iN,um su 0 0] 183))/\Hid (wr.1[iS w.1+1+1]?=ni (jf #[iL 0,x7 iN,lv] 183)) /\
   Hid (wr.ownsRow (iS w.1+3) 183 3 lv (iR ps) (ps.flatMap Eo))/\Hid (∀p,p∈ps->D9 wr (Beside (iS w.1+3) lv wr) p.1.l p.2)/\Hid (PL wr (iS w.1+3) lv ps))
  (λ_ i _=>n - (intOf i).toNat)
 case atStart=>exact⟨0,n,l,[],um su 0 0,iP,Aa,iP,hl,Kq.refl _ _,by show _=_;rw[bc.out];cases A<;>simp,P0 _ _ _ _,cc,U,N1,N2,h7 _ _ _ _,(λp hp=>by simp at hp),PL.nil _ _ _⟩
 case round=>
  obtain⟨i,ab,lr,ps,lv,rfl,av,br,cf,aw,HE,HB,ah,bu,I,ad,N,bw,bx⟩:=hrel;obtain⟨la,lc,cg⟩:∃a cj,lv=um a (iR ps) cj:=by
   rcases N.out.2 with⟨m,s⟩|⟨q,cap,dc,m,_⟩
   ·exact⟨su,0,by rw[m,s]⟩
   ·exact⟨_,_,m⟩
  subst cg;have ck:=hide br;have dd:iR ps<=64:=Aa;have cm:=hide av;have de:i<=64:=Aa;clear br;have ⟨e0,e1,e2⟩:=Jn ad.out iP;by_cases Ig:i<n
  ·obtain⟨m',rfl⟩:∃m',ab=m'+1:=⟨ab - 1,Aa⟩;have ⟨a0,cn,a2,a3,a4,a5,cp,cq⟩:=XC bu.out iP;have dg:(i:Int)<(n:Int):=Aa;have ai:Hid (∀(W B:qg)(x:w8),iM w B->Fc B af (Orch.part t i).ps x->sf prog 207 #[Fa (Orch.part t i).l x,u2] B λm T=>It B T u2 lr m (Orch.take z k (Orch.part t i) lr)/\iM B T):=λW B x D Z=>
    ba.out B (c7.out B D) (Orch.part t i) (bq.out i Ig) af x Z (λe cr=>aC (HS.out e cr) D.size) u2 lr cf ((aw.out w c8.out).below D (aB _))
   have HN:Hid (A=match Orch.take z k (Orch.part t i) lr with
     |none=>su
     |some (m,Y)=>(Orch.takeE (Orch.take z k) t m' (i+1) Y).map (λr=>(ps.map wv++[m]++r.1,r.2))):=by
    show _=_;rw[←HE.out,Orch.takeE];cases Orch.take z k (Orch.part t i) lr with
    |none=>rfl
    |some er=>
     obtain⟨m,Y⟩:=er;simp only;cases Orch.takeE (Orch.take z k) t m' (i+1) Y with
     |none=>rfl
     |some es=>simp
   have ax:Hid (∀v r,Orch.take z k (Orch.part t i) lr=ni (v,r)->iR r<=iR lr):=λv r s=>take_len z s;clear HE av ba bb bc bq U N1 N2;cases hq:Orch.take z k (Orch.part t i) lr with
   |none=>
    have HR:Hid (A=su):=by
     show _=_;rw[HN.out,hq]
    rw[hq]at ai;clear HN hq ax;go_wp2_with (first
     |(go_at_call 206;refine(bn.out _ i Ig HB.out).mono ?_;rintro m w1⟨x,rfl,Z,a7⟩;obtain⟨xa,xc,rfl⟩:=Z.shape;have C:=hide a7;have ay:=hide (Z.congr (λ_ s=>s) (λe D=>a7.block e (aC (HS.out e D) HB.out.size)));clear Z a7)
     |(go_at_call 207;refine(ai.out wr _ _ (HB.out.trans (C.out.mono HB.out.size)) ay.out).mono ?_;rintro m H⟨⟨vn,vs,G,dh,vm,j,di,dj,rfl⟩,M⟩;have O:=hide (C.out.trans (M.mono C.out.size));clear M)
     |(refine wpList_store_row iP 183 _ _ iP (iS w.1+1) #[iL 0,x7 iN,um su 0 0] iP iP 183 _ ((rm _ _ _ (aC (ltOf I.out) O.out.size)).trans ((O.out.block _ (ltOf I.out)).trans I.out)) Tryz.size183 iP (Qp _ _ _ _ _) ?_))
    refine Hq (λX=>X.1[iS w.1+1]?=ni (jf #[iL 0,x7 iN,um su 0 0] 183)/\iM w X) ⟨jg _ _ _ _ _ _ ((rm _ _ _ (aC (ltOf I.out) O.out.size)).trans ((O.out.block _ (ltOf I.out)).trans I.out)),Cu ((HB.out.trans (O.out.mono HB.out.size)).alloc (by have:=HB.out.size;have:=O.out.size;omega) _) (cQ _) _⟩ ?_;rintro X⟨o,E⟩;have ⟨c0,Q,R⟩:=Jn o iP;have S:=hide E;clear E o e0 e1 e2 a0 cn a2 a3 a4 a5 cp cq;refine wj (v:=my #[vv 0 iN (um su 0 0),um su 0 0,vp o9]) (by simp[qe,results222,go_sem,c0,Q,R]) iP ⟨?_,S.out⟩;rw[HR.out];exact⟨_,_,_,_,_,_,_,_,iP⟩
   |some er=>
    obtain⟨v,Y⟩:=er;have HR:Hid ((Orch.takeE (Orch.take z k) t m' (i+1) Y).map (λr=>(ps.map wv++[v]++r.1,r.2))=A):=by
     show _=_;rw[HN.out,hq]
    have dk:=ax.out v Y hq;rw[hq]at ai;clear HN hq ax;go_wp2_with (first
     |(at_builtin;refine wpList_append_lies _ iP _ _ 177 iP (iS w.1+3) 183 i0 (vv 0 iN (um su 0 0)) 3 48 underlying177 aj ak al an iP Ae _ _ _ iP (((Ew N.out O.out).alloc _).alloc _) ⟨iS H.1+1,0,su⟩ 1 1 (Eo (v,um G (iR v.l) j)) iP iP ?hn ?h1 Ae ?c3 ?c4 ?c5 (iS H.1+1+1) ?hH ?_)
     |(go_at_call 206;refine(bn.out _ i Ig HB.out).mono ?_;rintro m w1⟨x,rfl,Z,a7⟩;obtain⟨xa,xc,rfl⟩:=Z.shape;have C:=hide a7;have ay:=hide (Z.congr (λ_ s=>s) (λe D=>a7.block e (aC (HS.out e D) HB.out.size)));clear Z a7)
     |(go_at_call 207;refine(ai.out wr _ _ (HB.out.trans (C.out.mono HB.out.size)) ay.out).mono ?_;rintro m H⟨⟨dm,rv,rfl,a8,aa,bz⟩,M⟩;obtain⟨G,j,rfl⟩:=a8.shape;have O:=hide (C.out.trans (M.mono C.out.size));have cu:Hid (D9 H (λe=>iS wr.1<=e/\e<iS H.1) v.l (um G (iR v.l) j)):=a8.congr (λe D=>⟨aF C.out.size D.1,D.2⟩) (λ_ _=>rfl);have cw:=hide aa;have cx:=hide (CE.mono bz C.out.size (aB _));clear bz;have g2:=cellOf (j:=2) ((O.out.block _ (ltOf ad.out)).trans ad.out) iP;have dp:iS w.1+1+1<iS H.1:=aC (ltOf ad.out) O.out.size;clear M a8 aa))
    case hn=>exact k8 (Sg H _ _).2
    case h1=>intro ae hu;simp only[Eo,bG,eH,or_false]at hu;rcases hu with rfl|rfl|rfl<;>rfl
    case c3=>unfold maxLen;omega
    case c4=>omega
    case c5=>have:=ah.out;have:=O.out.size;simp;omega
    case hH=>simp
    intro q cap L c6 az b5 _;obtain⟨r1,r2,r3⟩:=Ak5 (t:=v) (x:=um G (iR v.l) j) ah.out N.out bw.out O.out cu.out (Dk H _ _) c6 az (by simpa using b5);have r4:=PL.grow (n:=iR ps+1) (cap:=cap) (t:=v) (x:=um G (iR v.l) j) ah.out (λg' h'=>(N.out.lt g' h').2) bx.out O.out cx.out (Dk H _ _) az (by simpa using b5);have k2:L.1[iS w.1+1+1]?=_:=(r3.block _ Aa).trans ad.out;have k1:L.1[iS w.1+1]?=_:=(r3.block _ Aa).trans I.out;have k0:L.1[iS w.1]?=_:=(r3.block _ Aa).trans bu.out;have d2:=Vx 2 k2;have f2:=Dr (j:=2) k2;have s3:=hide (aF ah.out r3.size);have q2:=ye L (iS w.1+1+1) 2 _ 183 (um (ni (iJ q)) (iR ps+1) cap) k2;have Q2:=hide q2;have Q1:Hid ((L.setCell ⟨iS w.1+1+1,2,su⟩ (um (ni (iJ q)) (iR ps+1) cap)).1[iS w.1+1]?=ni (jf #[iL 0,x7 iN,um su 0 0] 183)):=(mg _ ⟨iS w.1+1+1,2,su⟩ _ _ (by show iS w.1+1≠iS w.1+1+1;omega)).trans k1;have Q0:Hid ((L.setCell ⟨iS w.1+1+1,2,su⟩ (um (ni (iJ q)) (iR ps+1) cap)).1[iS w.1]?=ni (jf #[pq zi h,iL sh,iL P,iL f,iL V,vp K,pq zi u,um b c d] 208)):=(mg _ ⟨iS w.1+1+1,2,su⟩ _ _ (by show iS w.1≠iS w.1+1+1;omega)).trans k0;have R1:=hide (ownsRow_setCell_below r1 (a:=⟨iS w.1+1+1,2,su⟩) (by show iS w.1+1+1<iS w.1+3;omega) (um (ni (iJ q)) (iR ps+1) cap));have R2:Hid (∀p,p∈ps++[(v,um G (iR v.l) j)]->D9 (L.setCell ⟨iS w.1+1+1,2,su⟩ (um (ni (iJ q)) (iR ps+1) cap)) (Beside (iS w.1+3) (um (ni (iJ q)) (iR ps+1) cap) (L.setCell ⟨iS w.1+1+1,2,su⟩ (um (ni (iJ q)) (iR ps+1) cap))) p.1.l p.2):=λp hp=>
     (r2 p hp).congr (λe D=>⟨D.1,by have:=D.2.1;simpa[q9] using this,D.2.2⟩) (λe D=>mg _ ⟨iS w.1+1+1,2,su⟩ _ _ (by have:=D.1;show e≠iS w.1+1+1;omega))
    have R3:Hid (iM w (L.setCell ⟨iS w.1+1+1,2,su⟩ (um (ni (iJ q)) (iR ps+1) cap))):=(HB.out.trans (r3.mono Aa)).setCell (p:=⟨iS w.1+1+1,2,su⟩) (by show iS w.1<=iS w.1+1+1;omega) _;have R4:Hid (iS w.1+3<=(L.setCell ⟨iS w.1+1+1,2,su⟩ (um (ni (iJ q)) (iR ps+1) cap)).1.size):=by
     show _<=_;have:=s3.out;simpa[q9] using this
    have cy:Hid ((Orch.takeE (Orch.take z k) t m' (i+1) Y).map (λr=>((ps++[(v,um G (iR v.l) j)]).map wv++r.1,r.2))=A):=by
     show _=_;rw[cP];exact HR.out
    have R5:Hid (PL (L.setCell ⟨iS w.1+1+1,2,su⟩ (um (ni (iJ q)) (iR ps+1) cap)) (iS w.1+3) (um (ni (iJ q)) (iR ps+1) cap) (ps++[(v,um G (iR v.l) j)])):=
     r4.keep (by simp[q9]) (λe D _ _=>mg _ ⟨iS w.1+1+1,2,su⟩ _ _ (by show e≠iS w.1+1+1;omega))
    clear r4;clear r1 r2 r3 k0 k1 k2 q2 c6 az b5 e0 e1 e2 g2;go_wp2;go_roundw
    case rel=>exact⟨i+1,m',Y,ps++[(v,um G (iR v.l) j)],um (ni (iJ q)) (iR ps+1) cap,by go_num,by have:=cm.out;omega,by rw[aM,oo,ck.out],Aa,aw.out.trans cw.out,cy,R3,R4,Q0,Q1,Q2,R1,R2,R5⟩
    case measure=>simp[intOf];omega
  ·have cz:ab=0:=Aa;subst cz;clear av;have HR:Hid (A=ni (ps.map wv,lr)):=by
    show _=_;rw[←HE.out];simp[Orch.takeE]
   clear HE;go_wp2_with (refine wpList_store_row iP 183 _ _ iP (iS w.1+1) #[iL 0,x7 iN,um la (iR ps) lc] iP iP 183 _ I.out Tryz.size183 iP (Qp _ _ _ _ _) ?_);refine Hq (λX=>X.1[iS w.1+1]?=ni (jf #[iL 0,x7 iN,um la (iR ps) lc] 183)/\iM w X/\iS X.1=iS wr.1/\∀e,e≠iS w.1+1->X.1[e]?=wr.1[e]?) ⟨jg _ _ _ _ _ _ I.out,Cu HB.out (cQ _) _,Ad,λe D=>np _ _ _ _ D⟩ ?_;rintro X⟨o,E,y,g⟩;have ⟨c0,Q,R⟩:=Jn o iP;have S:=hide E;have a1:=hide y;have a6:=hide g;clear E y g o e0 e1 e2;refine wj (v:=my #[vv 0 iN (um la (iR ps) lc),u2,vp tu]) (by simp[qe,results222,go_sem,c0,Q,R]) iP ⟨?_,S.out⟩;rw[HR.out];have da:=PL.done N.out bx.out;refine⟨_,_,iP,?_,?_,Ui.keep (w:=wr) (base:=iS w.1+3) da Aa (by rw[a1.out];exact aB _) (λe D _=>a6.out e Aa)⟩
   ·refine(Akm (B:=iS w.1+3) N.out bw.out (aB _)).congr (λe D=>⟨Aa,by rw[a1.out];exact D.2⟩) (λe D=>a6.out e Aa)
   ·exact aw.out
def Ads(pv:U->Y->U->Prop)(w:U)(e:i)(w':U):Prop:=
 (∃W wb v,e=xr v/\pv W v wb/\y w.1+2<=y W.1/\y w'.1=y wb.1/\∀b,b≠y w.1+1->w'.1[b]?=wb.1[b]?)/\iM w w'
def handed(pv:U->Y->U->Prop)(W:U)(e:i)(w':U):Prop:=
 (∃(n:Int)(s:hU)(a:iE)(m c:Nat)(rv:Y)(ok:Bool),e=xr (my #[k n s (um a m c),rv,vp ok])/\pv W (my #[k n s (um a m c),rv,vp ok]) w')/\iM W w'
def TK(w)(h P:Nat)(f V K)(u:Nat)(k)(b:iE)(c d T)(g:Nat)(p:iB)(t:U->Y->U->Prop)(v:p=#[Il h k P f V K u (um b c d),T]/\(k=0/\g=219∨k=1/\g=220)∨p=#[Il h k P f V K u (um b c d),iL c,T]/\k=3/\g=222)(x:Hid (∀W,iM w W->Z prog g p W (handed t W))):Z prog 207 #[Il h k P f V K u (um b c d),T] w (Ads t w):=by
 refine N1r λl J=>?_;have j:=hide J;clear l J;have C:iS w.1+2<=((w.alloc (jf #[pq zi h,iL k,iL P,iL f,iL V,vp K,pq zi u,um b c d] 208)).alloc (jf #[iL 0,x7 iN,um su 0 0] 183)).1.size:=Ad;have q:=hide C;clear C;rcases v with⟨rfl,⟨rfl,rfl⟩|⟨rfl,rfl⟩⟩|⟨rfl,rfl,rfl⟩
 all_goals
  go_enter func207,ntmps207;go_wp2_with (first
   |(refine wpList_store_row iP 183 _ _ iP (iS w.1+1) #[iL n,x7 s,um a m G] iP iP 183 _ I.out Tryz.size183 iP (Qp _ _ _ _ _) ?_)
   |((first|go_at_call 219|go_at_call 220|go_at_call 222);refine(x.out _ (Dk _ _ _)).mono ?_;rintro A H⟨⟨n,s,a,m,G,r,e,rfl,M⟩,i⟩;have z:=hide M;have I:=hide ((i.block _ (ltOf j.out)).trans j.out);have O:=hide ((Dk _ _ _).trans (i.mono Ah));clear i M))
  refine Tlr ?_;rintro X⟨o,E,y,g⟩;have ⟨c0,Q,R⟩:=Jn o iP;have S:=hide E;have a1:=hide y;have a6:=hide g;clear E y g o;exact wj (v:=my #[vv n s (um a m G),r,vp e]) (by simp[qe,results207,go_sem,c0,Q,R]) iP ⟨⟨_,H,_,iP,z.out,q.out,a1.out,a6.out⟩,S.out⟩
def Amk(w)(h P:Nat)(B V K)(u:Nat)(b:iE)(c d T)(t:qg->w8->qg->Prop)(nn:Nat)(p:w8->Prop)(N:Hid (∀W,iM w W->sf prog 221 #[T,iL 32] W λk Y=>(∃v,k=xr (my #[iL nn,v,vp tu])/\p v)/\iM W Y))(Z:Hid (∀W v,p v->iM w W->sf prog 222 #[Il h 2 P B V K u (um b c d),iL nn,v] W (handed t W))):sf prog 207 #[Il h 2 P B V K u (um b c d),T] w (Ads t w):=by
 obtain⟨J,x⟩:=Sg w (jf #[pq zi h,iL 2,iL P,iL B,iL V,vp K,pq zi u,um b c d] 208) (jf #[iL 0,x7 iN,um su 0 0] 183);have U:=hide J;have A:=hide x;clear J x;have C:iS w.1+2<=((w.alloc (jf #[pq zi h,iL 2,iL P,iL B,iL V,vp K,pq zi u,um b c d] 208)).alloc (jf #[iL 0,x7 iN,um su 0 0] 183)).1.size:=Ad;have ad:=hide C;clear C;go_enter func207,ntmps207;go_wp2_with (first
  |(apply wpList_store_row iP 183 _ _ iP (iS w.1+1) #[iL n,x7 s,um a m G] iP iP 183 _ I.out Tryz.size183 iP (Qp _ _ _ _ _))
  |(go_at_call 221;apply(N.out _ (Dk _ _ _)).mono;rintro k D⟨⟨v0,rfl,F⟩,f⟩;have a7:=hide F;have l:=hide ((Dk _ _ _).trans (f.mono Ah));have j:=hide ((f.block _ (ltOf A.out)).trans A.out);have L:=(f.block _ (ltOf U.out)).trans U.out;have ⟨a0,a8,a2,a3,a4,a5,aa,ab⟩:=XC L iP;clear f F L)
  |(go_at_call 222;apply(Z.out _ _ a7.out l.out).mono;rintro k H⟨⟨n,s,a,m,G,r,e,rfl,M⟩,i⟩;have z:=hide M;have I:=hide ((i.block _ (ltOf j.out)).trans j.out);have O:=hide (l.out.trans (i.mono l.out.size));have q:=hide (ltOf j.out);clear i M a0 a8 a2 a3 a4 a5 aa ab))
 refine Tlr ?_;rintro X⟨o,E,y,g⟩;have ⟨c0,Q,R⟩:=Jn o iP;have S:=hide E;have a1:=hide y;have a6:=hide g;clear E y g o;exact wj (v:=my #[vv n s (um a m G),r,vp e]) (by simp[qe,results207,go_sem,c0,Q,R]) iP ⟨⟨_,H,_,iP,z.out,q.out,a1.out,a6.out⟩,S.out⟩
def TM(w)(h P:Nat)(f V K)(u:Nat)(b:iE)(c d T)(i:Hid (∀W,iM w W->Z prog 221 #[T,iL 32] W λe B=>e=xr (my #[iL 0,um su 0 0,vp o9])/\iM W B)):Z prog 207 #[j h 2 P f V K u (um b c d),T] w λe B=>Rw e/\iM w B:=by
 obtain⟨l,J⟩:=Sg w (jf #[pq zi h,iL 2,iL P,iL f,iL V,vp K,pq zi u,um b c d] 208) (jf #[iL 0,x7 iN,um su 0 0] 183);have U:=hide J;clear l J;go_enter func207,ntmps207;go_wp2_with (first
  |(apply wpList_store_row iP 183 _ _ iP (y w.1+1) #[iL 0,x7 iN,um su 0 0] iP iP 183 _ I.out Tryz.size183 iP (Qp _ _ _ _ _))
  |(go_at_call 221;apply(i.out _ (Dk _ _ _)).mono;rintro e H⟨rfl,M⟩;have I:=hide ((M.block _ (ltOf U.out)).trans U.out);have O:=hide ((Dk _ _ _).trans (M.mono Ah));clear M))
 refine Ryk ?_;rintro X⟨o,E⟩;have ⟨c0,Q,R⟩:=Jn o iP;have q:=hide E;clear E o;exact wj (v:=my #[k 0 iN (um su 0 0),um su 0 0,vp o9]) (by simp[qe,results207,go_sem,c0,Q,R]) iP ⟨⟨_,_,_,_,_,_,_,_,iP⟩,q.out⟩
structure Gz(w w':qg)(v v':w8):Prop where
 grown:w.grownBy w' v.ownBlock
 lies:v'.ownBlock=v.ownBlock∨∃g,v'.ownBlock=ni g/\iS w.1<=g
def Gz.refl(w v):Gz w w v v:=⟨⟨iP,iP,iP,aB _,λ_ _ _=>rfl⟩,Or.inl iP⟩
def Gz.trans{a c}(h:Gz r H a b)(k:Gz H E b c):Gz r E a c:=by
 have q:=h.grown.size;refine⟨⟨k.grown.os.trans h.grown.os,k.grown.tape.trans h.grown.tape,k.grown.output.trans h.grown.output,aF q k.grown.size,λi V f=>?_⟩,?_⟩
 ·rw[k.grown.block i Aa ?_,h.grown.block i V f];intro e;rcases h.2 with K|⟨g,K,G⟩
  ·grind
  grind
 ·rcases k.2 with d|⟨g,d,G⟩
  ·rw[d];exact h.2
  grind
def Gz.below{a}(h:Gz r H a b)(k:iM H E):Gz r E a b:=
 ⟨⟨k.os.trans h.grown.os,k.tape.trans h.grown.tape,k.output.trans h.grown.output,aF h.grown.size k.size,λi V f=>(k.block i (aC V h.grown.size)).trans (h.grown.block i V f)⟩,h.2⟩
def Gz.from{a}(Y:iM r H)(R:Gz H E a b):Gz r E a b:=
 ⟨⟨R.grown.os.trans Y.os,R.grown.tape.trans Y.tape,R.grown.output.trans Y.output,aF Y.size R.grown.size,λP V f=>(R.grown.block P (aC V Y.size) f).trans (Y.block P V)⟩,by
  rcases R.2 with K|⟨g,K,G⟩
  ·exact Or.inl K
  ·exact Or.inr ⟨g,K,aF Y.size G⟩⟩
def Gz.low{a}(h:Gz r H a b){base}(D:base<=y r.1)(d:∀g,a.ownBlock=ni g->base<=g):ri base r H:=
 ⟨h.grown.os,h.grown.tape,h.grown.output,h.grown.size,λk E=>h.grown.block k Aa (λe=>Ai)⟩
def Gz.keep{a}(h:Gz r H a b){g o}(G:r.1[g]?=ni o)(f:a.ownBlock≠ni g):=
 (h.grown.block g (T G) (λe=>f e.symm)).trans G
section
variable (w:U)
def Nr(a t u I e i)(R:P.underlying t=ni (.slice e))(r:P.underlying u=ni .string)(V:P.info? e=ni i)(N:i.zero=ni (pq zi 0))(D:i.size=1)(o:i.bytes=1)(v n)(z:0<n)(X:iC)(d:w.ownsRow a e 1 v n X)(s:hU)(W:n+s.size<=maxLen)(k:n+s.size<=140737488355328)(c:a<=y w.1):∃U B,(Builtin.append_ #[t,u] I #[v,x7 s]).run P w=.ok U B/\B.ownsRow a e 1 U (n+s.size) (X++po s)/\Gz w B v U:=by
 obtain⟨U,B,Y,J,T,_⟩:=Lib.run_append_own_string (P:=P) w a t u I e i R r V N D o v n X d s W k c;refine⟨U,B,Y,J,T,?_⟩;have f:n+s.size<=9223372036854775807:=Aa;rcases d.2 with⟨_,F⟩|⟨g,b,H,rfl,m,G,S,p,h,j⟩
 ·omega
 ·by_cases Q:n+s.size<=b
  ·have Z:=Lib.run_append_room_string (P:=P) w t u I e i R r V D g n b H G s Q Aa;rw[Y]at Z;injection Z with q x;rw[q];exact Or.inl iP
  ·have Z:=Lib.run_append_grow_string (P:=P) w t u I e i (pq zi 0) R r V N (iJ g) n b X (by rw[D];exact d.1) (d.cells (g:=g) iP) s Aa Aa (by rw[o];exact growslice_fits Aa Aa);rw[Y]at Z;injection Z with q x;rw[q];exact Or.inr ⟨y w.1,iP,aB _⟩
def Lp{g b o a}{Q:Exit->Act->qg->Prop}(H:o.guard=su)(G x t u)(O:o.op=.call { callee:=.builtin .append,args:=#[G,x],argTypes:=#[t,u] })(c e i)(R:P.underlying t=ni (.slice e))(r:P.underlying u=ni .string)(V:P.info? e=ni i)(N:i.zero=ni (pq zi 0))(D:i.size=1)(d:i.bytes=1)(v n)(z:0<n)(X:iC)(f:a.eval G=v)(h:w.ownsRow c e 1 v n X)(s:hU)(Z:a.eval x=x7 s)(W:n+s.size<=maxLen)(k:n+s.size<=140737488355328)(Y:c<=y w.1)(j:∀U B,B.ownsRow c e 1 U (n+s.size) (X++po s)->Gz w B v U->wpList P g Q b (a.put o.dst U) B):wpList P g Q (o::b) a w:=by
 refine wpList_plain H λK p=>?_;have ⟨U,B,l,J,T⟩:=Nr w c t u o.type e i R r V N D d v n z X h s W k Y;unfold Oper.wp execOp;simp only[O,resolve,invoke,builtin,Sem.run_bind,Sem.run_pure,Result.andThen_ok,cK,bA,cO,f,Z,l];exact p _ _ (j U B J T)
end
def Ym(w b v n)(a:Nat)(X:hQ)(s:a<=8)(f:w.ownsRow b 5 1 v (N X) (A5 X))(p:b<=y w.1)(Z:N X<=100000):sf prog 80 #[v,iL n,iL a] w λc B=>∃U,c=xr U/\B.ownsRow b 5 1 U (X++Orch.be n a).length (A5 (X++Orch.be n a))/\Gz w B v U:=by
 obtain⟨e,V,o,W,T⟩:=zu Tryz.info5;go_enter func80,ntmps80;go_wp2;go_loopw [0,7] (λu i wr=>∃j,j<=a/\i=iL ((j:Int) - 1)/\Hid (wr.ownsRow b 5 1 u (X++(Orch.be n a).take (a - j)).length (A5 (X++(Orch.be n a).take (a - j))))/\Hid (Gz w wr v u))
  (λ_ i _=>(intOf i+1).toNat)
 case atStart=>exact⟨a,aB _,iP,by show World.ownsRow _ _ _ _ _ _ _;rw[Nat.sub_self];simpa using f,Gz.refl _ _⟩
 case round=>
  obtain⟨j,l,rfl,O,x⟩:=hrel;cases j with
  |zero=>
   exact Lgl
  |succ m=>
   rw[show((m+1:Nat):Int) - 1=(m:Int) by omega];refine P4o λK g=>?_;have HB:=hide (UF n m Aa);generalize X++(Orch.be n a).take (a - (m+1))=L at *;go_wp2_with (at_builtin;refine wpList_append_own_at _ iP _ _ 37 iP b 5 e (pq zi 0) 1 1 underlying37 V o W T iP Ae _ _ _ iP (O.out.alloc _) (iJ wr.1.size) 1 1 [_] iP iP (cell_one_new _ _ _) ?c2 ?c3 ?c4 ?c5 ?_)
   case c2=>intro u r;simp at r;subst r;rfl
   case c3=>unfold maxLen;omega
   case c4=>omega
   case c5=>have:=x.out.grown.size;simp;omega
   intro U H J D _ d;have M:=hide (x.out.trans (Gz.from (Be wr _) ⟨D,by rcases d with h|h;exact Or.inl h;exact Or.inr ⟨_,h,Ad⟩⟩));refine Jir λk=>?_;clear J D d;exact Yqt
def VK(base:Nat)(w w':U)(ov:Y)(e:i):Option (hQ)->Prop
 |none=>(∃a m c,e=xr (my #[um a m c,vp o9]))/\w.grownBy w' ov.ownBlock
 |some o=>∃ov',e=xr (my #[ov',vp tu])/\w'.ownsRow base 5 1 ov' (N o) (A5 o)/\Gz w w' ov ov'
def JF{a b}(h:a=b):Ending.returned (my #[v,vp a])=xr (my #[v,vp b]):=by rw[h]
def Lu{w:U}(h:w.ownsRow a 5 1 v n X):∃b c,v=um b n c:=by
 rcases h.2 with⟨e,F⟩|⟨g,I,H,e,_⟩
 ·grind
 ·exact⟨_,_,e⟩
def ZF(w t h f P s V K u)(F:iE)(p d x g)(Q:iE)(v q)(L:Hid (∀W,iM w W->Z prog 205 #[j h f P s V K u (um F p d),k x g (um Q v q)] W λe B=>e=xr (vp o9)/\iM W B)):Z prog 182 #[t,j h f P s V K u (um F p d),k x g (um Q v q)] w λe B=>(∃a m c,e=xr (my #[um a m c,vp o9]))/\iM w B:=by
 go_enter func182,ntmps182;go_wp2_with (go_at_call 205;apply(L.out _ (Dk _ _ _)).mono;rintro e H⟨rfl,M⟩;have O:Hid _:=(Dk _ _ _).trans (M.mono Ah);clear M);go_ret2;exact⟨⟨_,_,_,iP⟩,O.out⟩
def Aoy(w a t)(X:hQ)(Z:iR X<=4000)(f:w.ownsRow a 5 1 t (iR X) (A5 X))(n:a<=iS w.1)(i P:Nat)(C:P<=8)(s V K)(u:Nat)(b:iE)(c d x vs)(Q:iE)(q)(L:Hid (∀W,iM w W->sf prog 205 #[Il i 0 P s V K u (um b c d),vv x vs (um Q 0 q)] W λe B=>e=xr (vp tu)/\iM W B)):sf prog 182 #[t,Il i 0 P s V K u (um b c d),vv x vs (um Q 0 q)] w λe B=>∃S,e=xr (my #[S,vp (decide ((X++Orch.be x P).length<=1000))])/\B.ownsRow a 5 1 S (X++Orch.be x P).length (A5 (X++Orch.be x P))/\Gz w B t S:=by
 obtain⟨l,J⟩:=Sg w (jf #[pq zi i,iL 0,iL P,iL s,iL V,vp K,pq zi u,um b c d] 208) (jf #[iL x,x7 vs,um Q 0 q] 183);have y:=hide l;have U:=hide J;have N:=hide f;clear l J f;have T:Hid (∀W,iM w W->sf prog 80 #[t,iL x,iL P] W λe B=>∃g,e=xr g/\B.ownsRow a 5 1 g (X++Orch.be x P).length (A5 (X++Orch.be x P))/\Gz W B t g):=λW D=>Ym W a t x P X C (Ew N.out D) (aF n D.size) Aa;have Y:(X++Orch.be x P).length<=4008:=by rw[aM,be_length];omega
 generalize X++Orch.be x P=O at *;go_enter func182,ntmps182;go_wp2_with (first
  |(go_at_call 205;apply(L.out _ (Dk _ _ _)).mono;rintro e H⟨rfl,M⟩;have j:=hide ((Dk _ _ _).trans (M.mono Ah));have z:=(M.block _ (ltOf y.out)).trans y.out;have r:=(M.block _ (ltOf U.out)).trans U.out;have ⟨_,p,v⟩:=Jn z iP;have A:=cellOf (j:=0) r iP;have h:=hide r;clear M z r)
  |(go_at_call 80;apply(T.out _ j.out).mono;rintro e E⟨g,rfl,k,R⟩;obtain⟨I,F,rfl⟩:=Lu k;have m:=hide k;have o:=hide (Gz.from j.out R);have G:=cellOf (j:=2) (R.keep h.out (λe=>by have:=(Ee N.out e).2;omega)) iP;clear k R))
 exact E6o
def Aoz(w a t)(X:hQ)(hx:iR X<=4000)(f:w.ownsRow a 5 1 t (iR X) (A5 X))(C:a<=iS w.1)(i P:Nat)(s V K)(u:Nat)(b:iE)(c d x j)(ad:j.size<=200)(Q:iE)(q)(L:Hid (∀W,iM w W->sf prog 205 #[Il i 1 P s V K u (um b c d),vv x j (um Q 0 q)] W λe B=>e=xr (vp tu)/\iM W B)):sf prog 182 #[t,Il i 1 P s V K u (um b c d),vv x j (um Q 0 q)] w λe B=>∃S,e=xr (my #[S,vp (decide ((X++Orch.be j.size 4).length+j.size<=1000))])/\B.ownsRow a 5 1 S ((X++Orch.be j.size 4).length+j.size) (A5 (X++Orch.be j.size 4)++po j)/\Gz w B t S:=by
 obtain⟨G,I,Y,Z,aa⟩:=zu Tryz.info5;obtain⟨l,J⟩:=Sg w (jf #[pq zi i,iL 1,iL P,iL s,iL V,vp K,pq zi u,um b c d] 208) (jf #[iL x,x7 j,um Q 0 q] 183);have y:=hide l;have U:=hide J;have N:=hide f;clear l J f;have T:Hid (∀W,iM w W->sf prog 80 #[t,iL j.size,iL 4] W λe B=>∃g,e=xr g/\B.ownsRow a 5 1 g (X++Orch.be j.size 4).length (A5 (X++Orch.be j.size 4))/\Gz W B t g):=λW D=>Ym W a t j.size 4 X Aa (Ew N.out D) (aF C D.size) Aa;have a1:(X++Orch.be j.size 4).length<=4008/\4<=(X++Orch.be j.size 4).length:=by rw[aM,be_length];omega
 generalize X++Orch.be j.size 4=O at *;obtain⟨ae,af⟩:=a1;go_enter func182,ntmps182;go_wp2_with (first
  |(at_builtin;refine Lp _ iP _ _ 37 9 iP a 5 G underlying37 underlying9 I Y Z aa _ (iR O) ?hn (A5 O) iP a6.out j iP ?h63 ?hby ?hba ?_)
  |(go_at_call 205;apply(L.out _ (Dk _ _ _)).mono;rintro e H⟨rfl,M⟩;have A:=hide ((Dk _ _ _).trans (M.mono Ah));have z:=(M.block _ (ltOf y.out)).trans y.out;have r:=(M.block _ (ltOf U.out)).trans U.out;have ao:=cellOf (j:=1) z iP;have b1:=cellOf (j:=1) r iP;have h:=hide r;clear M z r)
  |(go_at_call 80;apply(T.out _ A.out).mono;rintro e w2⟨g,rfl,k,n⟩;obtain⟨qa,qc,rfl⟩:=Lu k;have a6:=hide k;have a7:=hide n;have E:=hide (Gz.from A.out n);have F:=hide (n.keep h.out (λe=>by have:=(Ee N.out e).2;omega));have g1:=cellOf (j:=1) F.out iP;have a8:=hide (aF C E.out.grown.size);clear k n))
 case hn=>omega
 case h63=>unfold maxLen;omega
 case hby=>omega
 case hba=>exact a8.out
 intro v3 w3 p R;obtain⟨ra,rc,rfl⟩:=Lu p;have m:=hide p;have o:=hide (E.out.trans R);have k2:=cellOf (j:=2) (R.keep F.out (λe=>by
  rcases a7.out.2 with v|⟨ab,v,hg⟩
  ·rw[v]at e;have:=(Ee N.out e).2;omega
  ·rw[v]at e;have h1:ab=iS w.1+1:=by simpa using e
   have h2:=ltOf h.out;omega)) iP
 clear p R g1 b1 ao;go_wp2;exact E6o
def goE(f:Nat->hQ->Option (hQ)):Nat->Nat->hQ->Option (hQ)
 |0,_,o=>ni o
 |n+1,i,o=>match f i o with
  |none=>su
  |some o'=>goE f n (i+1) o'
def Ajf(base:Nat)(w w':U)(ov:Y)(e:i):Option (hQ)->Prop
 |none=>(∃a m c,e=xr (my #[um a m c,vp o9]))/\w.grownBy w' ov.ownBlock
 |some o=>∃ov',e=xr (my #[ov',vp (decide (N o<=1000))])/\w'.ownsRow base 5 1 ov' (N o) (A5 o)/\Gz w w' ov ov'
def Ao0(w g n)(Y:hQ)(hx:iR Y<=4000)(aq:w.ownsRow g 5 1 n (iR Y) (A5 Y))(j:g<=iS w.1)(sg P:Nat)(f V K)(u:Nat)(Z)(b:iE)(c d x vs)(Q:iE)(v lc:Nat)(br:v<=64)(Bd)(bu:1000<=Bd)(bw:Bd<=1300)(O)(S:Z=2/\O=Y++Orch.be v 4∨Z=3/\O=Y)(E:Nat->hQ->Option (hQ))(h)(ar:goE E v 0 O=h)(R:Nat->Orch.V)(ex:iD)(b9:Hid (∀W,ri g w W->∀i,i<v->∃(o:Nat)(J:iE)(T N:Nat),Q=ni (iJ o)/\o<iS W.1/\v<=lc/\ex i=um J T N/\W.cell? ⟨o,i * 3,su⟩=ni (iL (R i).n)/\W.cell? ⟨o,i * 3+1,su⟩=ni (x7 (R i).s)/\W.cell? ⟨o,i * 3+2,su⟩=ni (ex i)))(pl:Nat->Lt)(a7:Nat->qg->w8->Prop)(A:Hid (∀W,ri g w W->∀i,i<v->sf prog 206 #[Il sg Z P f V K u (um b c d),iL i] W λe l=>∃J T N,e=xr (Fa (pl i) (um J T N))/\a7 i W (um J T N)/\iM W l))(a8:Hid (∀a W,ri g w a->iM a W->∀i,i<v->∀p,a7 i a p->∀ou(ys:hQ),iR ys<=Bd->g<=iS W.1->W.ownsRow g 5 1 ou (iR ys) (A5 ys)->sf prog 182 #[ou,Fa (pl i) p,vv (R i).n (R i).s (ex i)] W λe l=>VK g W l ou e (E i ys)))(hf:∀i ys s,E i ys=ni s->iR s<=1000)(bx:iR O<=Bd∨v=0)(ba:iR O<=4008)(L:Hid (∀W,iM w W->sf prog 205 #[Il sg Z P f V K u (um b c d),vv x vs (um Q v lc)] W λe l=>e=xr (vp tu)/\iM W l)):sf prog 182 #[n,Il sg Z P f V K u (um b c d),vv x vs (um Q v lc)] w λe l=>Ajf g w l n e h:=by
 have bb:=hide ar;obtain⟨n0,n1⟩:=Sg w (jf #[pq zi sg,iL Z,iL P,iL f,iL V,vp K,pq zi u,um b c d] 208) (jf #[iL x,x7 vs,um Q v lc] 183);have y:=hide n0;have U:=hide n1;have HO:=hide aq;have bc:=hide hf;clear n0 n1 aq ar hf;rcases S with⟨rfl,S⟩|⟨rfl,S⟩;have bd:Hid (∀W,iM w W->sf prog 80 #[n,iL v,iL 4] W λe l=>∃v',e=xr v'/\l.ownsRow g 5 1 v' (iR O) (A5 O)/\Gz W l n v'):=λW hb=>by
  rw[S];exact Ym W g n v 4 Y Aa (Ew HO.out hb) (aF j hb.size) Aa
 clear S
 all_goals
  go_enter func182,ntmps182;go_wp2_with (first
   |(go_at_call 205;refine(L.out _ (Dk _ _ _)).mono ?_;rintro e H⟨rfl,M⟩;have ae:Hid (iM w H):=(Dk _ _ _).trans (M.mono Ah);have z:=(M.block _ (ltOf y.out)).trans y.out;have r:=(M.block _ (ltOf U.out)).trans U.out;have ao:=cellOf (j:=1) z iP;have b2:=cellOf (j:=2) r iP;have M0:=hide z;have M1:=hide r;clear M z r)
   |(go_at_call 80;refine(bd.out _ ae.out).mono ?_;rintro e wq⟨v',rfl,ah,ag⟩;obtain⟨I,F,rfl⟩:=Lu ah;have au:=hide ah;have av:=hide ag;have g2:=cellOf (j:=2) (ag.keep M1.out (λe=>by have:=(Ee HO.out e).2;omega)) iP;clear ah ag))
 rotate_left
 have au:Hid (H.ownsRow g 5 1 n (iR O) (A5 O)):=by
  show World.ownsRow _ _ _ _ _ _ _;rw[S];exact Ew HO.out ae.out
 have av:Hid (Gz H H n n):=Gz.refl _ _;clear S
 all_goals
  go_loopw [0,48] (λu0 bf wr=>∃(i:Nat)(t:hQ),bf=iL i/\i<=v/\(iR t<=Bd∨i=v)/\iR t<=4008/\Hid (goE E (v - i) i t=h)/\Hid (wr.ownsRow g 5 1 u0 (iR t) (A5 t))/\Hid (Gz H wr n u0))
   (λ_ i _=>v - (intOf i).toNat)
  case atStart=>exact⟨0,O,iP,bE _,Aa,ba,bb,au,av⟩
  case round=>
   obtain⟨i,t,rfl,bz,c6,c7,HG,ad,ab⟩:=hrel;obtain⟨I,F,hq⟩:=Lu ad.out;subst hq;have aw:Hid (∀o,n.ownBlock=ni o->g<=o/\o<iS w.1):=λo e=>Ee HO.out e;have bg:Hid (ri g w H):=ae.out.mono j;have B:Hid (ri g w wr):=bg.out.trans (ab.out.low (aF j ae.out.size) (λo e=>(aw.out o e).1));by_cases a1:i<v
   ·have z:=ab.out.keep M0.out (λe=>by have:=(aw.out _ e).2;omega);have ⟨c8,c9,cc,cd,cf,cg,cj,ck⟩:=XC z iP;have bh:=ltOf z;have MR:=hide z;obtain⟨o,J,T,N,bj,cm,cn,ai,e0,e1,e2⟩:=b9.out wr B.out i a1;subst bj;have ax:=hide ai;rw[ai]at e2;have cp:(i:Int)<(v:Int):=Aa;have ay:iR t<=Bd:=Aa;have k:Hid (h=match E i t with|none=>su|some s=>goE E (v - (i+1)) (i+1) s):=by
     show _=_;rw[←HG.out,show v - i=(v - (i+1))+1 by omega,goE]
    have q:Hid (ri g w (wr.alloc (jf #[iL (R i).n,x7 (R i).s,um J T N] 183))):=B.out.alloc (aF j B.out.size) _;have af:=hide (sx wr (jf #[iL (R i).n,x7 (R i).s,um J T N] 183));have cq:Hid ((wr.alloc (jf #[iL (R i).n,x7 (R i).s,um J T N] 183)).1[iS w.1]?=_):=(rm _ _ _ bh).trans z;clear z ai HG;have aj:=hide (bc.out i t);cases G:E i t with
    |none=>
     have m:Hid (h=su):=by
      show _=_;rw[k.out,G]
     have X:Hid (∀a W,ri g w a->iM a W->∀p,a7 i a p->W.ownsRow g 5 1 (um I (iR t) F) (iR t) (A5 t)->sf prog 182 #[um I (iR t) F,Fa (pl i) p,vv (R i).n (R i).s (um J T N)] W λe l=>(∃bk bm bn,e=xr (my #[um bk bm bn,vp o9]))/\W.grownBy l (um I (iR t) F).ownBlock):=λa W h1 h2 p h3 h4=>by
      exact B2q
     clear k G aj a8;go_wp2;go_region_with (first
      |(
        go_at_call 206;refine(A.out _ M2 i a1).mono ?_;rintro e w2⟨ya,ym,yc,rfl,a6,D⟩;refine Kcp λak C aa k2=>?_;have ⟨l0,l1,l2⟩:=Jn k2 iP;clear a6 D k2)
      |(
        go_at_call 182;refine(X.out _ _ M2 (by first|exact C.out|exact C.out.drew) _ ak.out (Ew ((ad.out.alloc _)) Rt)).mono ?_;rintro e w3⟨⟨za,zm,zc,rfl⟩,az⟩;have b5:Hid (w.grownBy w3 n.ownBlock):=(Gz.trans (Gz.from ae.out (ab.out.below (by first|exact aa.out|exact aa.out.drew))) (⟨az,Or.inl iP⟩:Gz _ w3 _ (um I (iR t) F))).grown;clear az))
     all_goals go_wp2
     all_goals go_ret2
     all_goals rw[m.out]
     all_goals exact⟨⟨_,_,_,iP⟩,by first|exact b5.out|exact grownBy_drew b5.out⟩
    |some s=>
     have m:Hid (goE E (v - (i+1)) (i+1) s=h):=by
      show _=_;rw[k.out,G]
     have cr:=aj.out s G;have X:Hid (∀a W,ri g w a->iM a W->∀p,a7 i a p->W.ownsRow g 5 1 (um I (iR t) F) (iR t) (A5 t)->sf prog 182 #[um I (iR t) F,Fa (pl i) p,vv (R i).n (R i).s (um J T N)] W λe l=>∃al,e=xr (my #[al,vp tu])/\l.ownsRow g 5 1 al (iR s) (A5 s)/\Gz W l (um I (iR t) F) al):=λa W h1 h2 p h3 h4=>by
      exact B2q
     clear k G aj a8;go_wp2;go_region_with (first
      |(
        go_at_call 206;refine(A.out _ M2 i a1).mono ?_;rintro e w2⟨ya,ym,yc,rfl,a6,D⟩;refine Kcp λak C aa k2=>?_;have ⟨l0,l1,l2⟩:=Jn k2 iP;clear a6 D k2)
      |(
        go_at_call 182;refine(X.out _ _ M2 (by first|exact C.out|exact C.out.drew) _ ak.out (Ew ((ad.out.alloc _)) Rt)).mono ?_;rintro e w3⟨bo,rfl,b6,b7⟩;have bq:=hide b6;have b8:Hid (Gz H w3 n bo):=(ab.out.below (by first|exact aa.out|exact aa.out.drew)).trans b7;clear b6 b7))
     all_goals go_wp2
     all_goals go_roundw
     all_goals try(case rel=>exact⟨i+1,s,by go_num,Aa,Aa,Aa,m,bq,by first|exact b8|exact b8.out.below (Fo _)⟩)
     all_goals try(case measure=>simp[intOf];omega)
   ·have an:i=v:=Aa;have m:Hid (h=ni t):=by
     show _=_;rw[←HG.out,an,Nat.sub_self,goE]
    have cu:=hide an;clear an HG;go_wp2;go_ret2;rw[m.out];exact⟨_,JF Aaw,ad.out,Gz.from ae.out ab.out⟩
def zV:Orch.V:=.mk 0 iN []
def Acw(g:hQ->u->Orch.V->Option (hQ))(t a):∀n i o,n+i=N a ->
  goE (λi j=>g j (Orch.part t i) (a.getD i zV)) n i o=Orch.putE g t (a.drop i) i o:=by
 intro n
 induction n with
 |zero=>intro i o h;rw[fE Aa];rfl
 |succ n O=>
  intro i o h;have V:i<N a:=Aa;rw[goE,eP V,Orch.putE,Rj _ _ _ V]
  grind
def put_len(a):∀k X t v o,Orch.put a k X t v=ni o->N o<=1000:=by
 intro k;cases k with
 |zero=>intro X t v o h;simp[Orch.put]at h
 |succ k=>
  intro X t v o h;unfold Orch.put at h
  grind
def D9.fam{w S b}(h:D9 w S b v):∃Y:Nat->w8,∀i (V:i<N b),
  ∃g I,v=um (ni (iJ g)) (N b) I/\N b<=I/\S g/\D9 w S b[i].l (Y i)/\∀j u,(Eo (b[i],Y i))[j]?=ni u->w.cell? ⟨g,i * 3+j,su⟩=ni u:=by
 cases h with
 |nil a c=>simp
 |row d g I F C H M f=>
  refine⟨λi=>(d.getD i (zV,um su 0 0)).2,λi V=>?_⟩;have p:i<N d:=by simpa using V
  simp only[(Rj _ _ _ p)];refine⟨g,I,by rw[bU],Ai,H,?_,λj u r=>?_⟩
  ·grind
  ·apply M _ u;have e:j<3:=by
    have:=(aD.1 r).1
    rwa[FY]at this
   rw[Us Eo 3 FY d i j e,aG p,eT]
   rwa[List.getElem_map]at r
def PM(valid:gZ)(Tabs:iA)(k:Nat):Prop:=∀w,Tabs w->∀base,Ak0<=base->base<=y w.1->∀t,CW k t->∀psv,O w (λb=>b<base) t.ps psv->∀v(lv:Y),D9 w (λb=>b<base) v.l lv->∀ov(xs:hQ),N xs<=1000+4 * (10 - k)->w.ownsRow base 5 1 ov (N xs) (A5 xs) ->
 Z prog 182 #[ov,Fa t.l psv,OY v lv] w λe w'=>VK base w w' ov e (Orch.put valid k xs t v)
def Ag2:Option (hQ)->Option (hQ)
 |none=>su
 |some o=>if N o<=1000 then ni o else su
def put_eq(a k X t v):Orch.put a (k+1) X t v=if Orch.fits a t v then Ag2 (Orch.putE (Orch.put a k) t v.l 0 (X++head t v)) else su:=by
 rw[Orch.put];split
 ·cases Orch.putE _ t v.l 0 _<;>rfl
 ·rfl
def SK{w B t e o}(h:Ajf a w B t e o):VK a w B t e (Ag2 o):=by
 cases o with
 |none=>exact h
 |some o=>
  obtain⟨S,rfl,O,R⟩:=h;by_cases K:N o<=1000
  ·rw[Ag2,aJ K,decide_eq_true K];exact⟨S,iP,O,R⟩
  ·rw[Ag2,aL K,decide_eq_false K];obtain⟨b,c,rfl⟩:=Lu O;exact⟨⟨_,_,_,iP⟩,R.grown⟩
def Ah1(U:Im z F)(k)(hk:k+1<=9)(ih:PM z F k):PM z F (k+1):=by
 intro w u a M c t p an T v lv Y n X ao y;obtain⟨d,f,rfl⟩:=T.shape;obtain⟨Q,q,rfl⟩:=Y.shape;have hF:∀W,iM w W->sf prog 205 #[Fa t.l (um d (iR t.ps) f),OY v (um Q (iR v.l) q)] W λe B=>e=xr (vp (Orch.fits z t v))/\iM W B:=λW D=>Zv U W (U.kept (U.size u) D u) t p d f v Q q;rw[put_eq];cases R:Orch.fits z t v with
 |false=>
  rw[R]at hF;simp only[aR,bQ];apply(ZF w n _ _ _ _ _ _ _ d _ f _ _ Q _ q hF).mono;rintro e B⟨ad,D⟩;exact⟨ad,(⟨D.os,D.tape,D.output,D.size,λk af _=>D.block k af⟩)⟩
 |true=>
  rw[R]at hF;simp only[bP];have ah:∀W,ri a w W->F W:=λW h=>U.kept M h u;rcases Nq p.1 with h|h|h
  ·have g:v.l = []:=by
    simp only[Orch.fits,h,aS,decide_eq_true_eq]at R;exact bO.1 R.2
   have E:head t v=Orch.be v.n t.l.size:=by simp[head,h]
   have am:=U1 p.1 h;rw[E,g,Orch.putE];rw[g]at hF;simp only[Fa,h,aX]at hF⊢;apply(Aoy w a n X Aa y c _ _ Aa _ _ _ _ d _ f _ _ Q q hF).mono;rintro e B⟨G,rfl,O,I⟩;exact SK (o:=ni (X++Orch.be v.n t.l.size)) ⟨G,iP,O,I⟩
  ·have K:=R;simp only[Orch.fits,h,aS,decide_eq_true_eq]at K;have g:v.l = []:=bO.1 K.2;have E:head t v=Orch.be v.s.size 4++v.s.data.toList:=by simp[head,h]
   rw[E,g,Orch.putE];rw[g]at hF;simp only[Fa,h,aX]at hF⊢;apply(Aoz w a n X Aa y c _ _ _ _ _ _ d _ f _ _ K.1.2.1 Q q hF).mono;rintro e B⟨G,rfl,O,I⟩;have ae:(X++(Orch.be v.s.size 4++v.s.data.toList)).length=(X++Orch.be v.s.size 4).length+v.s.size:=by
    rw[←bY,aM,←gq]
   refine SK (o:=ni (X++(Orch.be v.s.size 4++v.s.data.toList))) ⟨G,by rw[ae],?_,I⟩
   rwa[ae,←bY,I4]
  ·have S:iR v.l<=64/\(∀i,i<iR v.l->t.l.shape=2∨t.l.shape=3/\i<iR t.ps)/\((t.l.shape:Int)=2/\X++head t v=X++Orch.be (iR v.l) 4∨(t.l.shape:Int)=3/\X++head t v=X):=by
    have:=p.2.2.1;rcases h with h|h<;>simp only[Orch.fits,h,aS,decide_eq_true_eq]at R<;>exact⟨Aa,λi V=>Aa,by simp[head,h]⟩
   obtain⟨aq,al,S⟩:=S;have ar:(X++head t v).length<=iR X+4:=by rcases S with⟨_,e⟩|⟨_,e⟩<;>rw[e]<;>simp[be_length]
   obtain⟨a1,a6⟩:=Y.fam;have a7:=Acw (Orch.put z k) t v.l (iR v.l) 0 (X++head t v) Aa;rw[List.drop_zero]at a7;refine(Ao0 w a n X Aa y c _ _ _ _ _ _ _ d _ f v.n v.s Q (iR v.l) q Aa (1000+4 * (10 - k)) Aa Aa (X++head t v) S (λi r=>Orch.put z k r (Orch.part t i) (v.l.getD i zV)) _ a7
    (λi=>v.l.getD i zV) a1 (λW D i V=>?_) (λi=>(Orch.part t i).l) (λi W x=>Fc W (λb=>b<a) (Orch.part t i).ps x) (λW D i V=>?_)
    (λW0 W S a8 i V x Z ou r A ai ag=>?_) (λi r o O=>put_len z _ _ _ _ _ O) (Or.inl Aa) Aa hF).mono (λe B he=>SK he)
   ·obtain⟨l,aj,H,aa,m,L,s⟩:=a6 i V;obtain⟨J,N,ak⟩:=L.shape;simp only[Value.slice.injEq]at H;obtain⟨rfl,_,rfl⟩:=H;rw[Rj _ _ _ V];exact⟨l,J,_,N,iP,aC m (aF c D.size),aa,ak,(D.cell (p:=⟨l,i * 3,su⟩) m).trans (s 0 _ iP),(D.cell (p:=⟨l,i * 3+1,su⟩) m).trans (s 1 _ iP),(D.cell (p:=⟨l,i * 3+2,su⟩) m).trans (s 2 _ iP)⟩
   ·apply(NM W (λb=>b<a) t p _ (T.congr (λ_ P=>P) (λb j=>D.block b j)) (λb j=>aC j (aF c D.size)) i (al i V)).mono;rintro e B⟨x,rfl,Z,j⟩;obtain⟨J,N,rfl⟩:=Z.shape;exact⟨J,_,N,iP,Z,j⟩
   ·obtain⟨l,aj,H,aa,m,L,s⟩:=a6 i V;have ab:ri a w W:=S.trans (a8.mono (aF c S.size));have C:D9 W (λb=>b<a) (v.l.getD i zV).l (a1 i):=by
     rw[Rj _ _ _ V];exact L.congr (λ_ P=>P) (λb j=>ab.block b j)
    exact ih W (ah W ab) a M ai (Orch.part t i) (VG p i (al i V)) x (Z.congr (λ_ P=>P) (λb j=>a8.block b (aC j (aF c S.size)))) _ _ C ou r A ag
def Als(U:Im z F):∀k,k<=9->PM z F k:=by
 intro k
 induction k with
 |zero=>intro _ w _ a _ _ t l;exact absurd l (by simp[CW])
 |succ k O=>intro h;exact Ah1 U k h (O Aa)
def Ajp(w w':U)(e:i):Option (hQ)->Prop
 |none=>e=xr (my #[um su 0 0,vp o9])
 |some o=>∃ov,e=xr (my #[ov,vp tu])/\w'.ownsRow w.1.size 5 1 ov (N o) (A5 o)
def Ais(w)(h f P:Nat)(s V K)(u:Nat)(F:iE)(p d x g)(Q:iE)(v q)(R:Hid (∀W,iM w W->Z prog 182 #[um su 0 0,j h f P s V K u (um F p d),k x g (um Q v q)] W λe B=>(∃t m c,e=xr (my #[um t m c,vp o9]))/\iM W B)):Z prog 142 #[j h f P s V K u (um F p d),k x g (um Q v q)] w λe B=>Ajp w B e su/\iM w B:=by
 go_enter func142,ntmps142;go_wp2_with (go_at_call 182;apply(R.out _ (Dk _ _ _)).mono;rintro e H⟨⟨t,m,c,rfl⟩,M⟩;have O:Hid _:=(Dk _ _ _).trans (M.mono Ah);clear M);go_ret2;exact⟨iP,O.out⟩
def Ait(w)(h c P:Nat)(s V K)(u:Nat)(F:iE)(p d x g)(Q:iE)(v a)(q:iH)(R:Hid (∀W,iM w W->Z prog 182 #[um su 0 0,j h c P s V K u (um F p d),k x g (um Q v a)] W λe B=>(∃t,e=xr (my #[t,vp tu])/\q t B)/\iM W B)):Z prog 142 #[j h c P s V K u (um F p d),k x g (um Q v a)] w λe B=>(∃t,e=xr (my #[t,vp tu])/\q t B)/\iM w B:=by
 go_enter func142,ntmps142;go_wp2_with (go_at_call 182;apply(R.out _ (Dk _ _ _)).mono;rintro e H⟨⟨t,rfl,f⟩,M⟩;have o:=hide f;have O:Hid _:=(Dk _ _ _).trans (M.mono Ah);clear M f);go_ret2;exact⟨⟨_,iP,o.out⟩,O.out⟩
def Afz(U:Im z F)(w)(V:F w)(t)(l:CW 9 t)(S X)(Z:Fc w S t.ps X)(v m)(L:D9 w S v.l m)(H:∀b,S b->b<y w.1):sf prog 142 #[Fa t.l X,OY v m] w λe B=>Ajp w B e (Orch.put z 9 [] t v)/\iM w B:=by
 obtain⟨a,d,rfl⟩:=Z.shape;obtain⟨j,q,rfl⟩:=L.shape;have Q:∀W,iM w W->sf prog 182 #[um su 0 0,Fa t.l _,OY v _] W λe B=>VK W.1.size W B _ e _:=λW D=>
  Als U 9 Aa W (U.kept (U.size V) D V) W.1.size (aF (U.size V) D.size) (aB _) t l _ (Z.congr (λb h=>aC (H b h) D.size) (λb h=>D.block b (H b h))) v _ (L.congr (λb h=>aC (H b h) D.size) (λb h=>D.block b (H b h))) _ [] Ad (h7 _ _ _ _)
 cases f:Orch.put z 9 [] t v with
 |none=>
  rw[f]at Q;refine Ais w _ _ _ _ _ _ _ a _ d _ _ j _ q (λW D=>(Q W D).mono ?_);rintro e B⟨N,G⟩;exact⟨N,G.os,G.tape,G.output,G.size,λk E=>G.block k E (by simp[yf])⟩
 |some o=>
  rw[f]at Q;refine(Ait w _ _ _ _ _ _ _ a _ d _ _ j _ q (λi B=>B.ownsRow w.1.size 5 1 i (iR o) (A5 o)) (λW D=>(Q W D).mono ?_)).mono (λe B h=>h);rintro e B⟨i,rfl,O,R⟩;have G:=R.grown;refine⟨⟨i,iP,⟨O.1,?_⟩⟩,G.os,G.tape,G.output,G.size,λk E=>G.block k E (by simp[yf])⟩;rcases O.2 with h|⟨g,I,c,C,J,T⟩
  ·exact Or.inl h
  ·exact Or.inr ⟨g,I,c,C,aF D.size J,T⟩
