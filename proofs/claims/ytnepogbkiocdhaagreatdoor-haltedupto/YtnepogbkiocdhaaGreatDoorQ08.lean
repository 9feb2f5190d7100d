import Derived.Test.YtnepogbkiocdhaaGreatDoorQ07
import Derived.Shelf.Slices.In.SortNone
import Derived.Shelf.SlSortCmp.NoneTotal
import Derived.Shelf.Small.Strs
import Derived.Lib.ConvBytes
set_option maxHeartbeats 4000000
set_option maxRecDepth 8000
set_option linter.all false
open Option renaming some->je,none->zt
open Go.RowKit renaming Below->jg
open Go renaming World->qi,Calls->yf,heap_alloc_new->iy,Value->p8,bodyPost_ret->fx,results->yo,info_parts->uu,World->Y,Calls->j
open Go.RowKit.Below renaming heap_alloc->np,refl->zi
open Bool renaming true->jz,false->vy
open Go.Value renaming ownBlock->vi,slice->xh,int->wy,string->zx,pointer->vp,bool->o0,tuple->gq,agg->mn
open Go.Lib renaming compareBytes->k9
open Go.Sort renaming putCells->pz,get_flatK->zy,mapBlock->sj
open Prod renaming snd->ko
open Go.Instr renaming lookup->qy
open List renaming filterMap_cons_none->xi,length->iY
open UInt8 renaming ofNat->lh
open Go.Lit renaming int->yp
open Array renaming getElem?_mapIdx->pzo,size->iZ
open Go.World renaming news_of_block->qp,ownsRow_nil->gu
open Go.Shelf renaming Ren->mz
open Go.Program renaming keyLits->wu
open Go.Obj renaming cells->pf
open Go.IntKind renaming i64->yh,u8->ry
open Go.Ending renaming returned->ia
open Or renaming inl->zk,inr->qx
open Go renaming iW->S,iS->P,iF->N,Ab->Z,iU->M,aK->I
open Go.Proofs.Y renaming hide->u
open Orch renaming fits->H
open Go
open Go.Proofs.Tryz
variable {B W:Y}{R:List (p8×p8)}{U:p8}{k t:Nat}{o:iD}{s:Int}{pp:Prop}
def I9u(h:pp:=by
 go_enter Tryz.func166,Tryz.ntmps166;go_wp2;go_ret;exact⟨⟨_,iW,c.out⟩,C.out.alloc C.out.size _⟩):=h
def W1a(h:pp:=by
 go_enter Tryz.func36,Tryz.ntmps36;go_wp2
 all_goals go_ret
 all_goals exact⟨iW,iW⟩):=h
def J2a{p q:Prop}(k:q)(h:Hd q->p:=by
 intro kz;obtain⟨P,Z⟩:∃P,w.alloc (.map #[] 0)=P:=⟨_,iW⟩;have aw:(Instr.makeMap 103 none).run Tryz.prog w=.ok (.map (some w.1.size)) P:=by rw[←Z];simp[Instr.makeMap,Tryz.runUnderlying89,go_sem]
 have N:P.1.size=w.1.size+1:=by rw[←Z];simp
 revert P Z aw N;exact kz.1):p:=h ⟨k⟩
def K1w{p q:Prop}(k:q)(h:Hd q->p:=by
 intro kz;have A:Hid (∀W c n,Ov c->0<n->n<=9223372036854775807->Calls Tryz.prog 12 #[.int .i64 c,.int .i64 n] W λe B=>e=.returned (.int .i64 (Ot c n))/\B=W):=λW c n C J T=>R7 W c n C J T;revert A;exact kz.1):p:=h ⟨k⟩
def Loi{p q:Prop}(k:q)(h:Hd q->p:=by
 intro kz;obtain⟨P,Z⟩:∃P,E.alloc (.cells #[.int .i64 f,.int .i64 O,.int .i64 g,.string V,.int .i64 I,.bool X] 32)=P:=⟨_,iW⟩;have y:P.1[E.1.size]?=some (.cells #[.int .i64 f,.int .i64 O,.int .i64 g,.string V,.int .i64 I,.bool X] 32):=by rw[←Z];exact heap_alloc_new _ _
 revert P Z y;exact kz.1):p:=h ⟨k⟩
def A5v(h:pp:=by
 rw[dN (by simpa using ltOf G),bW,aL iW,G]
 rfl):=h
def Li0(h:pp:=by
 exact⟨⟨k,b,⟨by have:=A.out.2.1;omega,T.out,p.out⟩,q.out,O.out,C.out⟩,by rw[A.out.2.2];exact A.out.1⟩):=h
namespace Go.Proofs.Y
variable {A C r:List (N×Nd)}{x:Nd}
open Go.RowKit Go.Maps
section
variable {h:Y} {tb f:Nat} {num:Int}
def Bw.map_at(a:Bw h tb f num r)(b:f≠tb)(E:Ax h W (· = tb)):=a.map.of_block (E.block f a.map.lt b)
def DF{J}(c:f≠tb){a q}(E:Ax h W (· = tb))(D:W.1[tb]?=je (pf #[P a,.map (je f)] 105))(L:Bq prog 9 J f (q.map Pz))(G:W.grownBy J (je f)):Hid (Ax W J (· = f))/\Hid (Bw J tb f a q/\Ax h J (λk=>k=tb∨k=f)):=
 ⟨Ax.of_grown G (zk S),⟨(G.block tb (ltOf D) (λe=>c Aj)).trans D,L⟩,(E.mono (λ_ b=>zk b)).trans ((Ax.of_grown (X:=λk=>k=f) G (zk S)).mono (λ_ b=>qx b))⟩
def Afp{p:N}(Q:p.size<=1000):∃l,keyOf prog 9 (zx p)=je l:=⟨_,Go.WideMaps.keyOf_string_mk underlying9 Am⟩
variable (a:Bw h tb f num r) (b:f≠tb) (F:0<=num) (c:num+1<=9223372036854775807) (p d n:N) (v:Int) (Q:p.size<=1000)
include a b F c Q
def doC(O:∀q∈r,q.1≠p):j prog 90 #[HZ tb,Mo 1 p d n v] h λe B=>e=ia (gq #[])/\Bw B tb f (num+1) (r++[(p,⟨p,d,n,num+1,num+1,0⟩)])/\Ax h B (λk=>k=tb∨k=f):=by
 refine(GV h tb p d n v num F c f a.blk (λJ=>Bw J tb f (num+1) (r++[(p,⟨p,d,n,num+1,num+1,0⟩)])/\Ax h J (λk=>k=tb∨k=f)) 1 _ (zk ⟨S,S⟩) (λW E D=>?_) b a.map.lt).mono ?_
 ·have ⟨l,K⟩:=Afp Q;obtain⟨J,Y,L,G⟩:=(a.map_at b E).put_new AA underlying103 K (λq g=>by
   grind)
  exact⟨J,Y,DF b E D Aj G⟩
 grind
def doD(U:r=A++(p,x)::C):j prog 90 #[HZ tb,Mo 2 p d n v] h λe B=>e=ia (gq #[])/\Bw B tb f (num+1) (A++C)/\Ax h B (λk=>k=tb∨k=f):=by
 refine(GV h tb p d n v num F c f a.blk (λJ=>Bw J tb f (num+1) (A++C)/\Ax h J (λk=>k=tb∨k=f)) 2 _ (qx ⟨S,S⟩) (λW E D=>?_) b a.map.lt).mono ?_
 ·have ⟨l,K⟩:=Afp Q;obtain⟨J,Y,L,G⟩:=(a.map_at b E).drop_some AA underlying103 K (A:=A.map Pz) (C:=C.map Pz) (v:=x.val) Aj;exact⟨J,Y,DF b E D Aj G⟩
 grind
def doS(U:r=A++(p,x)::C)(g:0<=x.version)(X:x.version<=2147483647):j prog 90 #[HZ tb,Mo 3 p d n v] h λe B=>e=ia (gq #[])/\Bw B tb f (num+1) (A++(p,{ x with data:=d,changed:=num+1,version:=Mc x.version })::C)/\Ax h B (λk=>k=tb∨k=f):=by
 refine(Am6 h tb p d n v num F c f a.blk x.path x.data x.note x.made x.changed x.version g X (λJ=>Bw J tb f (num+1) (A++(p,{ x with data:=d,changed:=num+1,version:=Mc x.version })::C)/\Ax h J (λk=>k=tb∨k=f)) (λW E=>?_) (λW E D=>?_) b a.map.lt).mono ?_
 ·have ⟨l,K⟩:=Afp Q;exact(a.map_at b E).look_some vy AA underlying103 K (aZ.2 ⟨(p,x),by rw[U];simp,S⟩)
 ·obtain⟨l,K⟩:=Afp Q;obtain⟨J,Y,L,G⟩:=(a.map_at b E).put_old AA underlying103 K (A:=A.map Pz) (C:=C.map Pz) (v:=x.val) Aj;exact⟨J,Y,DF b E D Aj G⟩
 grind
end
def CC(E f)(p b n:N)(v)(F:Int->Prop)(i)(j:Nat)(o:i=1/\j=145∨i=2/\j=146∨i=3/\j=147)(H:Hid (∀W,iT E W->yf prog j #[HZ f,mn #[P i,zx p,zx b,zx n,P v]] W λe B=>(∃c,e=ia (P c)/\F c)/\iT W B)):yf prog 89 #[HZ f,Mo i p b n v] E λe B=>(∃c,e=ia (P c)/\F c)/\iT E B:=by
 obtain⟨a,Z⟩:∃a,E.alloc (pf #[P i,zx p,zx b,zx n,P v] 149)=a:=⟨_,iW⟩;have X:Hid (a.1[iZ E.1]?=je (pf #[P i,zx p,zx b,zx n,P v] 149)):=Z▸iy _ _
 have O:Hid (iT E a):=Z▸Bg _ _
 have ⟨y,m,h,S,k⟩:=Un X iW;obtain⟨rfl,rfl⟩|⟨rfl,rfl⟩|⟨rfl,rfl⟩:=o;all_goals go_enter func89,ntmps89;go_wp2_with ((first|go_at_call 145|go_at_call 146|go_at_call 147);apply(H a O).mono;rintro e d⟨⟨c,rfl,M⟩,D⟩;have g:=u M;have C:Hid (iT E d):=O.trans (D.mono O.4);clear M D);go_ret;exact⟨⟨_,iW,g⟩,C⟩
section
variable {h:Y} {tb f:Nat} {num:Int} (a:Bw h tb f num r) (m:Int) (L:h.cell? ⟨1,0,zt⟩=je (iS m)) (q:1<iZ h.1) (p d n:N) (v:Int) (Q:p.size<=1000) (b:Em p=jz) (y:d.size<=40) (z:n.size<=10)
include a L q Q b y z
theorem LI(g:iT h W)(x)(Z:(p,x)∈r):j prog 160 #[HZ tb,zx p] W λe B=>e=ia (gq #[x.val,P 0])/\iT W B:=
 Ut (a.below g (ltOf a.blk) a.map.lt) m ((g.cell (p:=⟨1,0,zt⟩) q).trans L) (aB q g.size) p Q b x Z
theorem LJ(g:iT h W)(x:∀c∈r,c.1≠p):j prog 160 #[HZ tb,zx p] W λe B=>e=ia (gq #[Nd.zero.val,P 10])/\iT W B:=
 CO (a.below g (ltOf a.blk) a.map.lt) m ((g.cell (p:=⟨1,0,zt⟩) q).trans L) (aB q g.size) p Q b x
end
def Tryz.info9b:(prog.info? 9).map (λi=>(i.zero,i.size,i.bytes))=je (je (zx M),1,16):=Z
abbrev strs(L:iB):List p8:=L.map Value.string
def Ags(w)(a:N):j prog 190 #[zx a] w λe B=>(∃lv,e=ia lv/\Ea B (λb=>b<iZ B.1) [Orch.txt a] lv)/\iT w B:=by have R:=u (Qo w [(Orch.txt a,xh zt 0 0)] (λb=>b<(w.alloc (pf #[P 0,zx a,xh zt 0 0] 180)).1.size) Ae #[P 0,zx a,xh zt 0 0] G0 180 1 S _ S Ae (by intro p f;simp at f;subst f;exact .nil zt 0));go_enter func190,ntmps190;go_wp2;go_ret;exact⟨⟨_,S,R⟩,Bg _ _⟩
def JR(E)(i d t:N)(T z e k):j prog 166 #[mn #[zx i,zx d,zx t,P T,P z,P e],P k] E λg B=>(∃lv,g=ia lv/\Ea B (λb=>b<iZ B.1) [.mk 0 M [Orch.num T,Orch.num z,Orch.num e,Orch.num k]] lv)/\iT E B:=by
 obtain⟨a,Z⟩:∃a,E.alloc (pf #[zx i,zx d,zx t,P T,P z,P e] 84)=a:=⟨_,iW⟩;have X:Hid (a.1[iZ E.1]?=je (pf #[zx i,zx d,zx t,P T,P z,P e] 84)):=Z▸iy _ _
 have O:Hid (iT E a):=Z▸Bg _ _
 have ⟨_,_,_,S,n,Y⟩:=Lj X iW;obtain⟨K,I⟩:∃K,a.alloc (pf #[P T,zx M,xh zt 0 0,P z,zx M,xh zt 0 0,P e,zx M,xh zt 0 0,P k,zx M,xh zt 0 0] 180)=K:=⟨_,iW⟩;have H:Hid (Ea K (λb=>b<iZ K.1) [Orch.num T,Orch.num z,Orch.num e,Orch.num k] (xh (je (iQ a.1.size)) 4 4)):=I▸Qo a [(Orch.num T,xh zt 0 0),(Orch.num z,xh zt 0 0),(Orch.num e,xh zt 0 0),(Orch.num k,xh zt 0 0)] _ Ae _ G0 180 4 iW _ iW Ae (by intro p f;simp at f;rcases f with rfl|rfl|rfl|rfl<;>exact .nil zt 0)
 have C:Hid (iT E K):=Aq;have c:=u (Qo K [(.mk 0 M [Orch.num T,Orch.num z,Orch.num e,Orch.num k],xh (je (iQ a.1.size)) 4 4)] (λb=>b<(K.alloc (pf #[P 0,zx M,xh (je (iQ a.1.size)) 4 4] 180)).1.size) Ae #[P 0,zx M,xh (je (iQ a.1.size)) 4 4] G0 180 1 iW _ iW Ae (by intro p f;simp at f;subst f;exact H.congr (λb l=>Ai) (λb l=>np _ _ _ l)));exact I9u
def Tryz.ren190:mz:=⟨fun|125=>70|128=>131|129=>132|190=>192|258=>209|302=>224|303=>225|304=>226|305=>227|306=>228|307=>229|308=>230|309=>231|310=>232|329=>171|330=>172|333=>247|334=>248|335=>249|336=>250|344=>260|n=>n,fun|0=>0|3=>3|4=>4|5=>5|9=>9|31=>233|46=>75|51=>123|53=>120|131=>171|182=>190|183=>191|218=>239|222=>242|228=>268|229=>269|n=>n,λn=>n⟩
set_option maxRecDepth 100000 in
def Tryz.lays190:Go.Proofs.Lays.n190 prog Tryz.ren190:=
 {mixed:=Z,
  f125:=func70.trans (I je Z),
  f128:=func131.trans (I je Z),
  f129:=func132.trans (I je Z),
  f190:=func192.trans (I je Z),
  f258:=func209.trans (I je Z),
  f302:=func224.trans (I je Z),
  f303:=func225.trans (I je Z),
  f304:=func226.trans (I je Z),
  f305:=func227.trans (I je Z),
  f306:=func228.trans (I je Z),
  f307:=func229.trans (I je Z),
  f308:=func230.trans (I je Z),
  f309:=func231.trans (I je Z),
  f310:=func232.trans (I je Z),
  f329:=func171.trans (I je Z),
  f330:=func172.trans (I je Z),
  f333:=func247.trans (I je Z),
  f334:=func248.trans (I je Z),
  f335:=func249.trans (I je Z),
  f336:=func250.trans (I je Z),
  f344:=func260.trans (I je Z),
  t0:=underlying0,
  a0:=isAgg0,
  z0:=sizeOf0,
  v0:=zeroValue0,
  t3:=underlying3,
  a3:=isAgg3,
  z3:=sizeOf3,
  v3:=zeroValue3,
  t4:=underlying4,
  a4:=isAgg4,
  z4:=sizeOf4,
  v4:=zeroValue4,
  t5:=underlying5,
  a5:=isAgg5,
  z5:=sizeOf5,
  v5:=zeroValue5,
  t9:=underlying9,
  a9:=isAgg9,
  z9:=sizeOf9,
  v9:=zeroValue9,
  t31:=underlying233,
  a31:=isAgg233,
  z31:=sizeOf233,
  v31:=zeroValue233,
  t46:=underlying75,
  a46:=isAgg75,
  z46:=sizeOf75,
  v46:=zeroValue75,
  t51:=underlying123,
  a51:=isAgg123,
  z51:=sizeOf123,
  v51:=zeroValue123,
  t53:=underlying120,
  a53:=isAgg120,
  z53:=sizeOf120,
  v53:=zeroValue120,
  t131:=underlying171,
  a131:=isAgg171,
  z131:=sizeOf171,
  v131:=zeroValue171,
  t182:=underlying190,
  a182:=isAgg190,
  z182:=sizeOf190,
  v182:=zeroValue190,
  t183:=underlying191,
  a183:=isAgg191,
  z183:=sizeOf191,
  v183:=zeroValue191,
  t218:=underlying239,
  a218:=isAgg239,
  z218:=sizeOf239,
  v218:=zeroValue239,
  t222:=underlying242,
  a222:=isAgg242,
  z222:=sizeOf242,
  v222:=zeroValue242,
  t228:=underlying268,
  a228:=isAgg268,
  z228:=sizeOf268,
  v228:=zeroValue268,
  t229:=underlying269,
  a229:=isAgg269,
  z229:=sizeOf269,
  v229:=zeroValue269 }
def Tryz.info84:(prog.info? 84).map (λi=>(i.zero,i.size,i.bytes))=je (je Nd.zero.val,6,72):=Z
abbrev Ek(L:List Nd):List p8:=L.flatMap λx=>x.cs.toList
def Tryz.ren6:mz:=⟨fun|6=>47|14=>69|15=>70|20=>123|21=>124|22=>125|23=>126|24=>127|25=>128|26=>129|27=>130|28=>131|29=>132|46=>170|47=>171|48=>172|49=>173|50=>174|57=>194|n=>n,fun|0=>0|3=>3|4=>4|5=>5|9=>9|22=>39|24=>84|25=>108|39=>75|45=>190|46=>191|50=>171|53=>123|55=>120|66=>239|70=>242|76=>268|77=>269|n=>n,λn=>n⟩
set_option maxRecDepth 100000 in
def Tryz.lays6:Go.Proofs.SlLaysF0.n6 prog Tryz.ren6:=
 {mixed:=Z,
  f6:=⟨Tryz.f47.name,Z,func47.trans (I je Z)⟩,
  f14:=⟨f69.name,Z,func69.trans (I je Z)⟩,
  f15:=func70.trans (I je Z),
  f20:=⟨f123.name,Z,func123.trans (I je Z)⟩,
  f21:=⟨f124.name,Z,func124.trans (I je Z)⟩,
  f22:=⟨Tryz.f125.name,Z,func125.trans (I je Z)⟩,
  f23:=⟨f126.name,Z,func126.trans (I je Z)⟩,
  f24:=⟨f127.name,Z,func127.trans (I je Z)⟩,
  f25:=⟨Tryz.f128.name,Z,func128.trans (I je Z)⟩,
  f26:=⟨Tryz.f129.name,Z,func129.trans (I je Z)⟩,
  f27:=⟨f130.name,Z,func130.trans (I je Z)⟩,
  f28:=func131.trans (I je Z),
  f29:=func132.trans (I je Z),
  f46:=⟨f170.name,Z,func170.trans (I je Z)⟩,
  f47:=func171.trans (I je Z),
  f48:=func172.trans (I je Z),
  f49:=⟨f173.name,Z,func173.trans (I je Z)⟩,
  f50:=⟨f174.name,Z,func174.trans (I je Z)⟩,
  f57:=⟨f194.name,Z,func194.trans (I je Z)⟩,
  t0:=underlying0,
  a0:=isAgg0,
  z0:=sizeOf0,
  v0:=zeroValue0,
  t3:=underlying3,
  a3:=isAgg3,
  z3:=sizeOf3,
  v3:=zeroValue3,
  t4:=underlying4,
  a4:=isAgg4,
  z4:=sizeOf4,
  v4:=zeroValue4,
  t5:=underlying5,
  a5:=isAgg5,
  z5:=sizeOf5,
  v5:=zeroValue5,
  t9:=underlying9,
  a9:=isAgg9,
  z9:=sizeOf9,
  v9:=zeroValue9,
  t22:=Tryz.underlying39,
  a22:=isAgg39,
  z22:=sizeOf39,
  v22:=zeroValue39,
  t25:=underlying108,
  a25:=isAgg108,
  z25:=sizeOf108,
  v25:=zeroValue108,
  t39:=underlying75,
  a39:=isAgg75,
  z39:=sizeOf75,
  v39:=zeroValue75,
  t45:=underlying190,
  a45:=isAgg190,
  z45:=sizeOf190,
  v45:=zeroValue190,
  t46:=underlying191,
  a46:=isAgg191,
  z46:=sizeOf191,
  v46:=zeroValue191,
  t50:=underlying171,
  a50:=isAgg171,
  z50:=sizeOf171,
  v50:=zeroValue171,
  t53:=underlying123,
  a53:=isAgg123,
  z53:=sizeOf123,
  v53:=zeroValue123,
  t55:=underlying120,
  a55:=isAgg120,
  z55:=sizeOf120,
  v55:=zeroValue120,
  t66:=underlying239,
  a66:=isAgg239,
  z66:=sizeOf239,
  v66:=zeroValue239,
  t70:=underlying242,
  a70:=isAgg242,
  z70:=sizeOf242,
  v70:=zeroValue242,
  t76:=underlying268,
  a76:=isAgg268,
  z76:=sizeOf268,
  v76:=zeroValue268,
  t77:=underlying269,
  a77:=isAgg269,
  z77:=sizeOf269,
  v77:=zeroValue269 }
def Tryz.ren106:mz:=⟨fun|106=>49|213=>71|265=>133|n=>n,λn=>n,λn=>n⟩
def Tryz.lays106:Go.Proofs.Lays.n106 prog Tryz.ren106:=
 {mixed:=Z,f106:=func49.trans (I je Z),f213:=func71.trans (I je Z),f265:=func133.trans (I je Z),
  t3:=underlying3,
  a3:=isAgg3,
  z3:=sizeOf3,
  v3:=zeroValue3,
  t9:=underlying9,
  a9:=isAgg9,
  z9:=sizeOf9,
  v9:=zeroValue9 }
instance:Inhabited Nd:=⟨Nd.zero⟩
def FM(x y:Nd):Int:=k9 x.path.data.toList y.path.data.toList
def Su:∀a b:iE,(k9 a b<0)=(a<b)
 |[],[]=>by simp[k9]|[],_::_=>by simp[k9]|_::_,[]=>by simp[k9]|x::a,y::b=>by rw[k9,List.cons_lt_cons_iff];by_cases C:x<y;simp[C];by_cases J:y<x;grind;have:=UInt8.le_antisymm (UInt8.not_lt.1 J) (UInt8.not_lt.1 C);subst this;simp[C,Su a b]
def Ah4:Go.Sort.SWO (_root_.Go.Proofs.ltOf FM):=by refine⟨λx=>?_,λx y z C J=>?_,λx y z C J=>?_⟩;simp only[_root_.Go.Proofs.ltOf,FM,Su,decide_eq_false_iff_not];exact List.lt_irrefl _;simp[_root_.Go.Proofs.ltOf,FM,Su,decide_eq_true_eq]at *;exact List.lt_trans C J;simp[_root_.Go.Proofs.ltOf,FM,Su,decide_eq_false_iff_not,List.not_lt]at *;exact List.le_trans J C
def ME(H x y):j prog 48 #[x.val,y.val] H λb B=>b=ia (P (FM x y))/\B=(H.alloc (pf x.cs 84)).alloc (pf y.cs 84):=by
 obtain⟨f,s,u,c,N,V⟩:=x;obtain⟨n,d,t,T,z,e⟩:=y;obtain⟨E,Z⟩:∃E,H.alloc (pf #[zx f,zx s,zx u,P c,P N,P V] 84)=E:=⟨_,S⟩;obtain⟨a,I⟩:∃a,E.alloc (pf #[zx n,zx d,zx t,P T,P z,P e] 84)=a:=⟨_,S⟩;have X:a.cell? (iQ H.1.size)=je (zx f):=by (have C:E.1[iZ H.1]?=je (pf #[zx f,zx s,zx u,P c,P N,P V] 84):=Z▸iy _ _);(have J:a.1[iZ H.1]?=je (pf #[zx f,zx s,zx u,P c,P N,P V] 84):=I▸(np _ _ _ (ltOf C)).trans C);exact cellOf J S
 have h:a.cell? (iQ E.1.size)=je (zx n):=by exact cellOf O1 S
 have g:=hide (Any.strings_Compare Tryz.lays106 f n a);show j prog 48 #[mn #[zx f,zx s,zx u,P c,P N,P V],mn #[zx n,zx d,zx t,P T,P z,P e]] H _;go_enter func48,ntmps48;go_wp2_with (go_at_call 49;apply g.mono;rintro b i⟨rfl,rfl⟩);go_ret;exact⟨S,by rw[Z,I]⟩
def Qd:∀L(j:Nat),j<iY L * 6->(Ek L)[j]?=je ((L.toArray[j / 6]!).cs.toList[j % 6]!)
 |[],j,h=>by simp at h|x::L,j,h=>by have e:Ek (x::L)=x.cs.1++Ek L:=S;rw[e];by_cases l:j<6;rw[eS (by simpa using l),Nat.div_eq_of_lt l,Nat.mod_eq_of_lt l];grind;obtain⟨k,rfl⟩:∃k,j=k+6:=⟨j - 6,Aa⟩;rw[dO Ae,show k+6 - iY x.cs.1=k from Ae,Qd L k (by simp at h;omega),Nat.add_div_right _ Ad,Nat.add_mod_right];grind
def Anr:laidOutB prog=jz:=Z
def Ahs:(186:Nat)<prog.types.size:=by simp
def Afq:prog.keyTypeAt 3 186=jz:=Z
def DM:Keyed prog 186:=Keyed.of_law (deep_law_laid Anr Aa Ahs Afq (by rw[underlying186]))
def BZ:prog.cellsOf 186=3:=Z
def Aed:prog.cellsOf 3=1:=Z
def Aee:prog.cellsOf 9=1:=Z
def TS:prog.cellsOf 184=1:=Z
def UR:prog.keyType 186=jz:=Z
def Am5:∃d,prog.types.size=d+1:=⟨prog.types.size - 1,by have:=Ahs;omega⟩
abbrev Jc(s:Int)(p:N)(o:Int):p8:=mn #[P s,zx p,P o]
theorem Afo{s o:Int}{p:ByteArray}(hs:(Lit.int .i64 s).wf=true)(O:(Lit.int .i64 o).wf=true)(Q:p.size<=1000):∃l,keyOf Tryz.prog 186 (Jc s p o)=some l:=by
 have ⟨d,y⟩:=Am5;have u:p.size<=maxLen:=Am;have I:Value.formed Tryz.prog 186 (Jc s p o)=true:=by simp [Value.formed,Tryz.underlying186,BZ]
 rw[keyOf];simp [UR,I,Bool.and_self,if_true,y];have:Tryz.prog.keyLits (d+1+1) 186 (Jc s p o).cells.1=some [.int .i64 s,.string p.1.1,.int .i64 o]:=by unfold Program.keyLits;simp [Value.cells,BZ,Aed,Aee,TS,Program.keyLits,Tryz.underlying3,Tryz.underlying9,Tryz.underlying184,hs,O,u]
 simp_all
abbrev Pm(w:Y)(b:Nat)(ks:iK):Prop:=Bq prog 186 w b (ks.map λk=>(k,mn #[]))
def Adw(E b s o p)(Q:iI)(c:Hid (∀W,iT E W->∃J,(Instr.mapUpdate 89 (.map (je b)) (Jc s p o) (mn #[])).run prog W=.ok () J/\Hid (Q J))):j prog 162 #[.map (je b),Jc s p o] E λe B=>e=ia (gq #[])/\Q B:=by obtain⟨a,Z⟩:∃a,E.alloc (pf #[P s,zx p,P o] 186)=a:=⟨_,S⟩;(have X:Hid (a.1[iZ E.1]?=je (pf #[P s,zx p,P o] 186)):=Z▸iy _ _);have ⟨y,m,f⟩:=Kg X S;have ⟨V,u,d⟩:=c a (Z▸Bg _ _);go_enter func162,ntmps162;go_wp2;exact⟨S,gq #[],by simp[yo,results162,go_sem],S,d⟩
abbrev Tl:=Int×Bool×Int
def Tryz.info264:(prog.info? 264).map (λi=>(i.zero,i.size,i.bytes))=je (je (mn #[iS 0,zx M]),2,24):=Z
def Alk(w):(zeroValue 116).run prog w=.ok (mn #[]) w:=Z
section
variable {w:Y} {b:Nat} {a:iK}
def Pm.keep(h:Pm w b a)(D:B.1[b]?=w.1[b]?):Pm B b a:=Bq.of_block h D
structure Qy(w:qi)(kind g T):Prop where
 ex:∃o,w.cell? ⟨4,kind,zt⟩=je (xh (je (iR g o)) (iY T) (iY T))/\∀j (x:Tl),T[j]?=je x->w.cell? ⟨g,o+j * 3,zt⟩=je (iS x.1)/\w.cell? ⟨g,o+j * 3+1,zt⟩=je (o0 x.2.1)/\w.cell? ⟨g,o+j * 3+2,zt⟩=je (iS x.2.2)
variable {kind:Nat} {g:Nat} {T:List Tl} (h:Pm w b a) (E:kind<4) (V:Qy w kind g T) (c:iY T<=3) (e:4<iZ w.1) (G:g<iZ w.1) (hs:(yp yh s).wf=jz) (f:∀x∈T,(yp yh x.1).wf=jz) {q:N} (i:q.size<=1000) (O:D5 q=jz) (d n:N) (v:Int)
include h E V c e G hs f i O
end
def JQ(w z sm s num)(M:w.cell? (iR z 3)=je (.map (je sm)))(a:(qy 90 (.map (je sm)) (P num) vy).run prog w=.ok (HZ s) w):j prog 35 #[HZ z,P num] w λe B=>e=ia (HZ s)/\B=w:=by go_enter func35,ntmps35;go_wp2;go_ret;exact⟨S,S⟩
def UP(w z)(M:w.cell? (iR z 5)=je (o0 vy)):j prog 36 #[HZ z] w λe B=>e=ia (o0 vy)/\B=w:=by exact W1a
def Oz(w b x)(M:w.cell? (iQ b)=je x):j prog 24 #[HZ b] w λe B=>e=ia x/\B=w:=by go_enter func24,ntmps24;go_wp2;go_ret;exact⟨S,S⟩
def Aqk:Keyed prog 3:=int_keyed underlying3
def Aoz(w z sm s num)(M:w.cell? (iR z 3)=je (.map (je sm)))(a:(qy 90 (.map (je sm)) (P num) vy).run prog w=.ok (HZ s) w)(n p t v b)(C:iM)(F U)(D:w.1[s]?=je (pf #[n,p,t,v,b,xh C F U] 81)):j prog 26 #[HZ z,P num] w λE B=>E=ia (gq #[xh C F U,P 0])/\B=w.setCell (iR s 5) (xh zt 0 0):=by have l:=Kj (w:=w) 5 D;have c:=Fk1 (w:=w) 5 D;have g:=u (JQ w z sm s num M a);clear a;go_enter func26,ntmps26;go_wp2_with (go_at_call 35;apply g.mono;rintro e H⟨rfl,rfl⟩);exact fx (v:=gq #[xh C F U,P 0]) (by simp[yo,results26,go_sem]) S ⟨S,S⟩
def Aoy(w P z sm s num)(V:w.cell? (iQ P)=je (HZ z))(M:w.cell? (iR z 3)=je (.map (je sm)))(b:(qy 90 (.map (je sm)) (iS num) vy).run prog w=.ok (HZ s) w)(n p t v e)(C:iM)(F U)(D:w.1[s]?=je (pf #[n,p,t,v,e,xh C F U] 81)):j prog 8 #[HZ P,iS num] w λE B=>E=ia (gq #[xh C F U,iS 0])/\B=w.setCell (iR s 5) (xh zt 0 0):=by have o:=u (Aoz w z sm s num M b n p t v e C F U D);go_enter func8,ntmps8;go_wp2_with (first|(go_at_call 24;apply(u (Oz w P _ V)).out.mono;rintro S H⟨rfl,rfl⟩)|(go_at_call 26;apply o.mono;rintro S H⟨rfl,rfl⟩));exact fx (by simp[yo,results8,go_sem]) iW ⟨iW,iW⟩
def Aei(w z D x M sm t k d)(f:w.1[z]?=je (pf #[HZ D,HZ x,.map (je M),.map (je sm),iS t,o0 vy] 92))(e:t=0/\k=1∨t=1/\k=2)(L:Bq prog 3 w sm d)(H:iY d<8)(O:∀r∈d,r.1≠iS k):yf prog 41 #[HZ z] w λe b=>e=ia (gq #[iS k,iS 0])/\Ax w b (λi=>i=z∨i=sm)/\iZ w.1<iZ b.1/\b.1[z]?=je (pf #[HZ D,HZ x,.map (je M),.map (je sm),iS k,o0 vy] 92) /\
   b.1[iZ w.1]?=je (pf #[iS k,xh zt 0 0,o0 vy,iS 0,o0 vy,xh zt 0 0] 81)/\Bq prog 3 b sm (d++[(iS k,HZ w.1.size)]):=by
 have l:=hide (UP w z (cellOf (j:=5) f iW));have ⟨_,_,_,U,Q⟩:=Un f iW;have J:=Fk1 (w:=w) 4 f;have A:=L.len (t:=90) underlying90 3;have N:z≠sm:=λe=>by obtain⟨X,I,h⟩:=L.1;rw[←e,f]at h;cases h.1
 have K:decide ((8:Int)<=(iY d:Int))=vy:=Ai;obtain⟨E,j⟩:∃E,w.setCell (iR z 4) (iS k)=E:=⟨_,iW⟩;have T:Cb w E z #[HZ D,HZ x,.map (je M),.map (je sm),iS k,o0 vy] 92:=j▸(Cb.refl f).set 4 (iS k)
 have ⟨_,_,_,F,n⟩:=Un T.1 iW;have V:iZ E.1=iZ w.1:=by rw[←j];simp
 have o:E.1[sm]?=w.1[sm]?:=T.2.5 sm L.lt (λe=>by cases e;exact N iW);obtain⟨c,m⟩:∃c,E.drew.alloc (pf #[iS k,xh zt 0 0,o0 vy,iS 0,o0 vy,xh zt 0 0] 81)=c:=⟨_,iW⟩;have q:∀k<iZ E.1,c.1[k]?=E.1[k]?:=λk a=>m▸np _ _ _ a
 have u:c.1[iZ E.1]?=je (pf #[iS k,xh zt 0 0,o0 vy,iS 0,o0 vy,xh zt 0 0] 81):=m▸iy _ _
 have R:iZ c.1=iZ E.1+1:=by rw[←m];simp
 have v:sm<iZ E.1:=V▸L.lt
 obtain⟨g,S,W,y⟩:=(L.of_block ((q sm v).trans o)).put_new (val:=HZ w.1.size) Aqk underlying90 (key:=.int .i64 k) (kl:=.int yh k) (by obtain⟨_,rfl⟩|⟨_,rfl⟩:=e<;>kernel_rfl) O;have P:=(q z (ltOf T.1)).trans T.1;have i:=(y.5 z (by have:=ltOf T.1;omega) (λe=>by cases e;exact N iW)).trans P;have ⟨_,_,_,p,C⟩:=Un i iW;have ⟨_,_,_,Y,s⟩:=Un P iW;have G:Hid (Ax w g (λi=>i=z∨i=sm)/\iZ w.1<iZ g.1/\g.1[z]?=je (pf #[HZ D,HZ x,.map (je M),.map (je sm),iS k,o0 vy] 92) /\ g.1[iZ w.1]?=je (pf #[iS k,xh zt 0 0,o0 vy,iS 0,o0 vy,xh zt 0 0] 81)/\Bq prog 3 g sm (d++[(iS k,HZ w.1.size)])):=by have B:=y.4;refine⟨⟨?_,?_,?_,Aa,λk a Z=>?_⟩,Aa,i,?_,W⟩;rw[y.1,←m];exact T.2.1;rw[y.2,←m];exact T.2.2;rw[y.3,←m];exact T.2.3;rw[y.5 k Aa (λe=>by cases e;exact Z (qx iW)),q k Aa];exact T.2.5 k a (λe=>by cases e;exact Z (zk iW));rwa[←V,y.5 _ Aa (λe=>by cases e;omega)]
 clear W y u q T L o O f P i;obtain⟨rfl,rfl⟩|⟨rfl,rfl⟩:=e;all_goals go_enter func41,ntmps41;go_wp2_with (go_at_call 36;apply l.mono;rintro a1 a6⟨rfl,rfl⟩);(first|go_region_held3 (λb=>b.cell? (iR z 3)=je (.map (je sm))/\b.cell? (iR z 4)=je (iS 1)) (first|(go_keep;done)|exact⟨F,n⟩|exact⟨Y,s⟩|exact⟨p,C⟩) (fail)|go_region_held3 (λb=>b.cell? (iR z 3)=je (.map (je sm))/\b.cell? (iR z 4)=je (iS 2)) (first|(go_keep;done)|exact⟨F,n⟩|exact⟨Y,s⟩|exact⟨p,C⟩) (fail));go_wp2_with fail;exact fx (by simp[yo,results41,go_sem]) iW ⟨iW,G⟩
def Aak(w P z k)(R:iI)(V:w.cell? (iQ P)=je (HZ z))(H:j prog 41 #[HZ z] w λe B=>e=ia (gq #[iS k,iS 0])/\R B):j prog 31 #[HZ P] w λe B=>e=ia (gq #[iS k,iS 0])/\R B:=by go_enter func31,ntmps31;go_wp2_with (first|(go_at_call 24;apply(u (Oz w P _ V)).out.mono;rintro S c⟨rfl,rfl⟩)|(go_at_call 41;apply(u H).out.mono;rintro S c⟨rfl,D⟩;have b:=u D;clear D));exact fx (by simp[yo,results31,go_sem]) iW ⟨iW,b⟩
section
variable (w:Y) (D K:Nat) (y:w.cell? (iQ D)=je (HZ K)) (E:w.cell? (iQ K)=je (xh zt 0 0)) (X:w.cell? (iR K 1)=je (iS (-1)))
include E in
include y E in
include y E in
include y X in
end
def AL(w)(a:iM)(c):j prog 141 #[xh a 0 c] w λe B=>e=ia (gq #[xh zt 0 0,o0 vy])/\B=w:=by go_enter func141,ntmps141;go_wp2;exact fx (by simp[yo,results141,go_sem]) S ⟨S,S⟩
abbrev Me:Nd:=⟨⟨#[47]⟩,⟨#[]⟩,⟨#[]⟩,0,0,0⟩
def Ao5(w g)(G:w.1[g]?=je (pf Me.cs 84)):yf prog 86 #[iS 0,xh (je (iQ g)) 1 1] w λf B=>f=ia (vp (je ⟨iZ w.1+1,0,zt⟩))/\Bw B (iZ w.1+1) w.1.size 0 [(⟨#[47]⟩,Me)]/\iT w B:=by
 refine J2a λP Z aw N=>?_;have n:Bq prog 9 P w.1.size []:=Z▸Bq.made w
 obtain⟨E,I⟩:∃E,P.alloc (pf #[iS 0,.map (je w.1.size)] 105)=E:=⟨_,S⟩;have i:iZ E.1=iZ w.1+2:=by rw[←I];simp;omega
 have s:∀k<iZ P.1,E.1[k]?=P.1[k]?:=λk a=>I▸np _ _ _ a
 have O:E.1[iZ w.1+1]?=je (pf #[iS 0,.map (je w.1.size)] 105):=I▸N▸iy _ _
 have X:P.1[g]?=je (pf Me.cs 84):=Z▸(np _ _ _ (ltOf G)).trans G
 have e:E.1[g]?=je (pf Me.cs 84):=(s g (ltOf X)).trans X;have ⟨p,l,H,t,u,v⟩:=Lj e S;obtain⟨c,m⟩:∃c,E.alloc (pf #[zx iU,zx iU,zx iU,iS 0,iS 0,iS 0] 84)=c:=⟨_,S⟩;have R:c.1[iZ E.1]?=je (pf #[zx iU,zx iU,zx iU,iS 0,iS 0,iS 0] 84):=m▸iy _ _
 have q:∀k<iZ E.1,c.1[k]?=E.1[k]?:=λk a=>m▸np _ _ _ a
 have ⟨aa,ab,ad,ae,af,ah⟩:=Lj R S;have ⟨ai,aj,ak,al,ao,aq,_⟩:=It R;obtain⟨b,F⟩:∃b,((((((c.setCell (iQ E.1.size) (zx ⟨#[47]⟩)).setCell (iR E.1.size 1) (zx iU)).setCell (iR E.1.size 2) (zx iU)).setCell (iR E.1.size 3) (iS 0)).setCell (iR E.1.size 4) (iS 0)).setCell (iR E.1.size 5) (iS 0))=b:=⟨_,S⟩;have D:Cb c b E.1.size Me.cs 84:=F▸(((((((Cb.refl R).set 0 (zx ⟨#[47]⟩)).set 1 (zx iU)).set 2 (zx iU)).set 3 (iS 0)).set 4 (iS 0)).set 5 (iS 0))
 have V:iZ c.1=iZ w.1+3:=by rw[←m];simp;omega
 have d:∀k<iZ E.1,b.1[k]?=E.1[k]?:=λk a=>(D.2.5 k Aa Amh).trans (q k a);have t4:b.1[iZ w.1+1]?=je (pf #[iS 0,.map (je w.1.size)] 105):=(d _ Aa).trans O;have h:Bq prog 9 b.drew w.1.size []:=n.of_block ((d _ Aa).trans (s _ Aa));obtain⟨U,x,j,W⟩:=h.put_new (val:=Me.val) AA underlying103 (key:=.string ⟨#[47]⟩) (kl:=.string [47]) Ab Ae;have Y:b.cell? ⟨iZ w.1+1,1,zt⟩=je (.map (je w.1.size))/\b.cell? (iQ E.1.size)=je (zx ⟨#[47]⟩)/\b.cell? (iR E.1.size 1)=je (zx iU)/\b.cell? (iR E.1.size 2)=je (zx iU)/\b.cell? (iR E.1.size 3)=je (iS 0)/\b.cell? (iR E.1.size 4)=je (iS 0)/\b.cell? (iR E.1.size 5)=je (iS 0):=⟨cellOf (j:=1) t4 S,cellOf (j:=0) D.1 S,cellOf (j:=1) D.1 S,cellOf (j:=2) D.1 S,cellOf (j:=3) D.1 S,cellOf (j:=4) D.1 S,cellOf (j:=5) D.1 S⟩;have o:U.1[iZ w.1+1]?=je (pf #[iS 0,.map (je w.1.size)] 105):=(W.5 _ S9 Amh).trans t4;have L:U.1[iZ E.1]?=je (pf Me.cs 84):=(W.5 _ (ltOf D.1) Amh).trans D.1;have M:U.cell? ⟨iZ w.1+1,1,zt⟩=je (.map (je w.1.size))/\U.cell? (iQ E.1.size)=je (zx ⟨#[47]⟩)/\U.cell? (iR E.1.size 1)=je (zx iU)/\U.cell? (iR E.1.size 2)=je (zx iU)/\U.cell? (iR E.1.size 3)=je (iS 0)/\U.cell? (iR E.1.size 4)=je (iS 0)/\U.cell? (iR E.1.size 5)=je (iS 0):=⟨cellOf (j:=1) o S,cellOf (j:=0) L S,cellOf (j:=1) L S,cellOf (j:=2) L S,cellOf (j:=3) L S,cellOf (j:=4) L S,cellOf (j:=5) L S⟩;have r:Hid (Bw U (iZ w.1+1) w.1.size 0 [(⟨#[47]⟩,Me)]/\iT w U):=by refine⟨⟨o,j⟩,?_,?_,?_,?_,λk a=>?_⟩;rw[W.1];show b.4=_;rw[D.2.1,←m,←I,←Z];rfl;rw[W.2];show b.2=_;rw[D.2.2,←m,←I,←Z];rfl;rw[W.3];show b.5=_;rw[D.2.3,←m,←I,←Z];rfl;have C:=W.4;have J:=D.2.4;have T:b.drew.1.size=iZ b.1:=S;omega;rw[W.5 k S9 Amh];show b.1[k]?=_;rw[d k Aa,s k Aa,←Z];exact np _ _ _ a
 clear j W h D n s q d t4 o L R X e O G;rw[i]at aa ai ab aj ad ak ae al af ao ah aq F Y M;clear V;go_enter func86,ntmps86;go_wp2;apply wp_loop_rounds 2;rw[rounds_succ];go_wp2;go_region_held3 (λB=>B.cell? ⟨iZ w.1+1,1,zt⟩=je (.map (je w.1.size))/\B.cell? ⟨iZ w.1+2,0,zt⟩=je (zx ⟨#[47]⟩)/\B.cell? ⟨iZ w.1+2,1,zt⟩=je (zx iU)/\B.cell? ⟨iZ w.1+2,2,zt⟩=je (zx iU)/\B.cell? ⟨iZ w.1+2,3,zt⟩=je (iS 0)/\B.cell? ⟨iZ w.1+2,4,zt⟩=je (iS 0)/\B.cell? ⟨iZ w.1+2,5,zt⟩=je (iS 0)) (first|(go_keep;done)|exact Y|exact M) (fail);go_wp2;rw[rounds_succ];go_wp2;go_ret;exact⟨S,r⟩
def Ajx(w):j prog 85 #[] w λe B=>e=ia (vp (je ⟨iZ w.1+2,0,zt⟩))/\Bw B (iZ w.1+2) (iZ w.1+1) 0 [(⟨#[47]⟩,Me)]/\iT w B:=by
 obtain⟨c,Z⟩:∃c,w.alloc (pf #[zx ⟨#[47]⟩,zx M,zx M,P 0,P 0,P 0] 84)=c:=⟨_,iW⟩;have l:iZ c.1=iZ w.1+1:=by rw[←Z];simp
 have o:=Ao5 c w.1.size (Z▸iy _ _);have D:iT w c:=Z▸Bg _ _
 rw[l]at o;have a:Hid (j prog 86 #[P 0,xh (je (iQ w.1.size)) 1 1] c λe B=>e=ia (vp (je ⟨iZ w.1+2,0,zt⟩))/\Bw B (iZ w.1+2) (iZ w.1+1) 0 [(⟨#[47]⟩,Me)]/\iT w B):=o.mono λe B⟨C,J,T⟩=>⟨C,J,D.trans (T.mono Aa)⟩;clear o D l;go_enter func85,ntmps85;go_wp2_with (go_at_call 86;apply a.mono;rintro S H⟨rfl,g⟩;have b:=u g;clear g);go_ret;exact⟨iW,b⟩
open Go
def Vs{w base t}{b:iE}(h:w.ownsRow base 5 1 t (iY b) (A4 b)):(convert 35 9 t).run prog w=.ok (zx ⟨b.toArray⟩) w:=by obtain⟨rfl,F⟩|⟨g,I,H,rfl,D,G,z,_,hs,R⟩:=h.2;have:b = []:=bJ.1 F;subst this;exact run_convert_bytes_nil (P:=prog) w 35 5 underlying35 underlying5 0 0 9 underlying9;(have a:strOfNums (b.map λc=>(c.toNat:Int))=(⟨b.toArray⟩:N):=by rw[strOfNums];congr 2;rw[cU];(conv=>rhs;rw[←fM b]);apply cQ;intro c _;simp);have:=run_convert_bytes_arg (P:=prog) w 35 5 underlying35 underlying5 g 0 (iY b) I (b.map λc=>(c.toNat:Int)) Ae (λi V=>by have C:=h.cells (g:=g) S i (wy ry b[i].toNat) (by simp[A4,V]);rw[Addr.add_lit,aY]at C;rw[aY,C,dF,aV,aG V];rfl) 9 underlying9;rwa[a]at this
def Ot(c n:Int):Int:=(if c<0 then -(c+1) else c) % n
def R8(c){n}(z:0<n):0<=Ot c n/\Ot c n<n:=⟨Int.emod_nonneg _ Aa,Int.emod_lt_of_pos _ z⟩
def Ov(c:Int):Prop:=-9223372036854775808<=c/\c<=9223372036854775807
def R7(w c n)(M:Ov c)(z:0<n)(p:n<=9223372036854775807):j prog 12 #[P c,P n] w λe B=>e=ia (P (Ot c n))/\B=w:=by
 have ⟨C,J⟩:=M;go_enter func12,ntmps12;go_wp2;have e:Int.tmod (-(c+1)) n=Ot c n:=by rw[Ot];grind
 refine fx ?_ S ⟨S,S⟩;simp[yo,results12,go_sem];rw[←e,Int.neg_tmod];refine fx ?_ S ⟨S,S⟩;have e:c % n=Ot c n:=by rw[Ot,aO Aa]
 simp[yo,results12,go_sem,e]
def QH(w:Y)(W)(cs:iJ)(f:cs=(A4 W).toArray)(K:iY W<=1000):(w.alloc (pf cs 5)).ownsRow w.1.size 5 1 (xh (je (iQ w.1.size)) (iY W) (iY W)) (iY W) (A4 W):=by refine⟨by simp[A4],qx ⟨iZ w.1,iY W,cs,S,aA _,iy _ _,aA _,Am,by rw[f];simp[A4],by rw[f,fN];exact bE (by simp[A4])⟩⟩
def b4(n:Int):N:=⟨(Orch.be n 4).toArray⟩
def Ny(n):(b4 n).size=4:=by show(Orch.be n 4).toArray.size=4;rw[bD,Orch.be_length]
def I0(n):(b4 n).data.toList=Orch.be n 4:=S
def Gj(s:N):N:=b4 s.size++s
def Jt(s):(Gj s).size=4+s.size:=by rw[Gj,bX,Ny]
def PD(w n)(z:Ov n):j prog 19 #[iS n] w λe B=>e=ia (zx (b4 n))/\iT w B:=by
 obtain⟨C,J⟩:=z;obtain⟨P,Z⟩:∃P,w.alloc (pf #[wy ry (n / 16777216 % 256),wy ry (n / 65536 % 256),wy ry (n / 256 % 256),wy ry (n % 256)] 5)=P:=⟨_,S⟩;have E:(convert 35 9 (xh (je (iQ w.1.size)) 4 4)).run prog P=.ok (zx (b4 n)) P:=by apply Vs (base:=iZ w.1) (b:=Orch.be n 4);rw[←Z];have:=QH w (Orch.be n 4) #[wy ry (n / 16777216 % 256),wy ry (n / 65536 % 256),wy ry (n / 256 % 256),wy ry (n % 256)] (by simp[A4,Orch.be];refine⟨?_,?_,?_,?_⟩<;>omega) JN;rwa[Orch.be_length]at this⊢
 have a:Hid (iT w P):=Z▸Bg _ _
 go_enter func19,ntmps19;go_wp2;go_ret;exact⟨S,a⟩
def GX(w)(s:iF)(b:s.size<=1000000):j prog 20 #[zx s] w λe B=>e=ia (zx (Gj s))/\iT w B:=by have N:=Ny s.size;go_enter func20,ntmps20;go_wp2_with (go_at_call 19;apply(u (PD w s.size ⟨Aa,Aa⟩)).out.mono;rintro S H⟨rfl,D⟩;have a:=u D;clear D);(all_goals first|(exfalso;omega)|skip);go_ret;exact⟨iW,a⟩
def Aa1(w)(s:N)(b:s.size<=1000000):j prog 22 #[zx s] w λe B=>e=ia (zx (Gj s))/\iT w B:=by go_enter func22,ntmps22;go_wp2_with (go_at_call 20;apply(u (GX w s b)).out.mono;rintro S H⟨rfl,D⟩;have a:=u D;clear D);go_ret;exact⟨iW,a⟩
def UU(i:Int):Int:=i % 2147483648
def Afy(w i)(F:0<=i)(C:i<=9223372036854775807):j prog 29 #[P i] w λe B=>e=ia (P (UU i))/\B=w:=by go_enter func29,ntmps29;go_wp2;go_ret;exact⟨S,S⟩
def smB(n:Int):N:=⟨#[lh (97+Ot n 20).toNat]⟩
def Acr(w n)(z:Ov n):j prog 34 #[iS n] w λe B=>e=ia (zx (smB n))/\iT w B:=by
 have R:=u (R7 w n 20 z Ad Ad);obtain⟨N,m⟩:=R8 n (n:=20) Ad;rw[smB];generalize Ot n 20=p at R N m⊢;obtain⟨P,Z⟩:∃P,w.alloc (pf #[wy ry (97+p)] 5)=P:=⟨_,iW⟩;have E:(convert 35 9 (xh (je (iQ w.1.size)) 1 1)).run prog P=.ok (zx ⟨#[lh (97+p).toNat]⟩) P:=by apply Vs (base:=iZ w.1) (b:=[lh (97+p).toNat]);rw[←Z];exact QH w [lh (97+p).toNat] #[wy ry (97+p)] (by simp[A4];omega) Ae
 have b:Hid (iT w P):=Z▸Bg _ _
 go_enter func34,ntmps34;go_wp2_with (go_at_call 12;apply R.mono;rintro S H⟨rfl,rfl⟩);go_ret;exact⟨iW,b⟩
def Fo(a b:Int):N:=if a<0 then⟨#[47]⟩ else if b<0 then⟨#[47]⟩++smB (Ot a 4) else⟨#[47]⟩++smB (Ot a 4)++⟨#[47]⟩++smB (Ot b 3)
def Se(n):(smB n).size=1:=S
def U7(a b):(Fo a b).size<=4:=by rw[Fo];split;decide;split;rw[bX,Se];decide;rw[bX,bX,bX,Se,Se];decide
def Abz(w a b)(f:Ov a)(D:Ov b):yf prog 21 #[P a,P b] w λe B=>e=ia (zx (Fo a b))/\iT w B:=by
 have F:=R8 a (n:=4) Ad;have k:=R8 b (n:=3) Ad;refine K1w λA=>?_;have d:Hid (∀W n,Ov n->iT w W->yf prog 34 #[P n] W λe B=>e=ia (zx (smB n))/\Hid (iT w B)):=λW n z D=>(Acr W n z).mono λe B⟨C,J⟩=>⟨C,D.trans (J.mono D.4)⟩;have h:Hid (iT w w):=zi _ _;have V:=Se (Ot a 4);have U:=Se (Ot b 3);have g:Ov (Ot a 4):=⟨Aa,Aa⟩;have j:Ov (Ot b 3):=⟨Aa,Aa⟩;have S:a<0->Fo a b=⟨#[47]⟩:=λC=>by rw[Fo,aL C]
 have L:¬a<0->b<0->Fo a b=⟨#[47]⟩++smB (Ot a 4):=λC J=>by rw[Fo,aO C,aL J]
 have Y:¬a<0->¬b<0->Fo a b=⟨#[47]⟩++smB (Ot a 4)++⟨#[47]⟩++smB (Ot b 3):=λC J=>by rw[Fo,aO C,aO J]
 by_cases C:a<0;·rw[S C];clear S L Y;go_enter func21,ntmps21;go_wp2;go_ret;exact⟨iW,h⟩
 by_cases J:b<0;·rw[L C J];clear S L Y;go_enter func21,ntmps21;go_wp2_with (first|(go_at_call 12;apply(A _ _ _ X6 Ad Ad).mono;rintro S H⟨rfl,rfl⟩)|(go_at_call 34;apply(d _ _ X6 h).mono;clear h;rintro S H⟨rfl,h⟩));(all_goals first|omega|skip);(all_goals go_ret);all_goals exact⟨iW,h⟩
 rw[Y C J];clear S L Y;go_enter func21,ntmps21;go_wp2_with (first|(go_at_call 12;apply(A _ _ _ X6 Ad Ad).mono;rintro S H⟨rfl,rfl⟩)|(go_at_call 34;apply(d _ _ X6 h).mono;clear h;rintro S H⟨rfl,h⟩));all_goals first|(exfalso;rename_i i;simp[bX,V,U]at i;revert i;decide)|skip
 all_goals go_ret
 all_goals exact⟨iW,h⟩
def Ra(s:N):N:=if 40<s.size then s.extract 0 40 else s
def GU(s):(Ra s).size<=40:=by rw[Ra];split;rw[cK];omega;omega
def Aam(w)(s:N)(a:s.size<=9223372036854775807):j prog 23 #[zx s,P 40] w λe B=>e=ia (zx (Ra s))/\B=w:=by by_cases h:40<s.size;(·have e:Ra s=s.extract 0 40:=aL h;rw[e];go_enter func23,ntmps23;go_wp2;go_ret;exact⟨S,S⟩);have e:Ra s=s:=aO h;rw[e];go_enter func23,ntmps23;go_wp2;go_ret;exact⟨S,S⟩
def Vg(v:Int):Int:=if 0<v then Ot v 3 else -1
def ZM(v):-1<=Vg v/\Vg v<=2:=by have:=R8 v (n:=3) Ad;rw[Vg];split<;>omega
def Ai7(kind mk:Int)(p d:N)(v:Int):N:=if kind=1 then b4 1++b4 mk++Gj p++Gj d else if kind=2 then b4 2++b4 mk++Gj p++b4 v else b4 3++b4 mk++Gj p++Gj d++b4 v
def wB(b:Bool):N:=if b then⟨#[1]⟩ else⟨#[0]⟩
def Uj(kind mk:Int)(p d:N)(v:Int)(wt:Bool):N:=if kind<=3 then Ai7 kind mk p d v else if kind<=6 then b4 kind++b4 mk++Gj p++wB wt else b4 kind++b4 mk
def XM(E f O g I)(V:iF)(X kind N)(ha:Ov O)(D:Ov g)(hv:Ov I)(hm:Ov N)(G:V.size<=9223372036854775807)(C:1<=kind)(p:kind<=7):yf prog 6 #[mn #[iS f,iS O,iS g,zx V,iS I,o0 X],iS kind,iS N] E λe B=>e=ia (zx (Gj (Uj kind N (Fo O g) (Ra V) (Vg I) X)))/\iT E B:=by
 refine Loi λP Z y=>?_;have K:=ltOf y;have HW:Hid (iT E P):=by rw[←Z];exact Bg _ _
 have c:∀{W B},iT P W->iT W B->iT P B:=λC J=>C.trans (J.mono C.4);have M:Hid (∀W,iT P W->W.cell? (iR E.1.size 1)=je (iS O)/\W.cell? (iR E.1.size 2)=je (iS g)/\W.cell? (iR E.1.size 3)=je (zx V)/\W.cell? (iR E.1.size 4)=je (iS I)/\W.cell? (iR E.1.size 5)=je (o0 X)):=λW D=>by have:=(D.5 _ K).trans y;exact⟨cellOf (j:=1) this iW,cellOf (j:=2) this iW,cellOf (j:=3) this iW,cellOf (j:=4) this iW,cellOf (j:=5) this iW⟩
 have q:Hid (∀W n,Ov n->iT P W->yf prog 19 #[iS n] W λe B=>e=ia (zx (b4 n))/\Hid (iT P B)):=λW n z D=>(PD W n z).mono λe B⟨C,J⟩=>⟨C,c D J⟩;have r:Hid (∀W a b,Ov a->Ov b->iT P W->yf prog 21 #[iS a,iS b] W λe B=>e=ia (zx (Fo a b))/\Hid (iT P B)):=λW a b C J D=>(Abz W a b C J).mono λe B⟨C,J⟩=>⟨C,c D J⟩;have t:Hid (∀W s,s.size<=1000000->iT P W->yf prog 20 #[zx s] W λe B=>e=ia (zx (Gj s))/\Hid (iT P B)):=λW s G D=>(GX W s G).mono λe B⟨C,J⟩=>⟨C,c D J⟩;have v:Hid (∀W s,s.size<=1000000->iT P W->yf prog 22 #[zx s] W λe B=>e=ia (zx (Gj s))/\Hid (iT P B)):=λW s G D=>(Aa1 W s G).mono λe B⟨C,J⟩=>⟨C,c D J⟩;refine K1w λA=>?_;have d:Hid (∀W s,s.size<=9223372036854775807->yf prog 23 #[zx s,iS 40] W λe B=>e=ia (zx (Ra s))/\B=W):=λW s G=>Aam W s G;have j:Hid (iT P P):=zi _ _;have zp:=U7 O g;have zd:=GU V;have Y:=Jt (Fo O g);have m:=Jt (Ra V);have x:=Ny;obtain⟨w,F⟩:=ZM I;have L:Ov (Vg I):=⟨Aa,Aa⟩;have ik:Ov kind:=⟨Aa,Aa⟩;have p1:(Fo O g).size<=1000000:=Aa;have p2:(Ra V).size<=1000000:=Aa;have o:(Uj kind N (Fo O g) (Ra V) (Vg I) X).size<=1000000:=by (have T:(wB X).size=1:=by cases X<;>rfl);unfold Uj Ai7;(repeat' split);all_goals simp only[bX,x,Y,m,T];omega
 obtain⟨Q,R,U,u,l⟩:=M _ j;have hk:kind=1∨kind=2∨kind=3∨kind=4∨kind=5∨kind=6∨kind=7:=Aa;clear w F y c C p;have h:0<I/\Vg I=Ot I 3∨¬0<I/\Vg I = -1:=if k:0<I then zk ⟨k,aL k⟩ else qx ⟨k,aO k⟩;rcases h with⟨a1,h⟩|⟨a1,h⟩<;>rw[h]at L o⊢<;>rcases hk with rfl|rfl|rfl|rfl|rfl|rfl|rfl<;>cases X;all_goals simp only[Uj,Ai7,wB,Int.reduceLE,Int.reduceEq,bV,cB,aX,reduceIte]at o⊢;go_enter func6,ntmps6;go_wp2_with (first|(go_at_call 19;apply(q _ _ X6 j).mono;clear j;rintro S H⟨rfl,j⟩;obtain⟨Q,R,U,u,l⟩:=M _ j)|(go_at_call 21;apply(r _ _ _ X6 X6 j).mono;clear j;rintro S H⟨rfl,j⟩;obtain⟨Q,R,U,u,l⟩:=M _ j)|(go_at_call 20;apply(t _ _ X6 j).mono;clear j;rintro S H⟨rfl,j⟩;obtain⟨Q,R,U,u,l⟩:=M _ j)|(go_at_call 22;apply(v _ _ X6 j).mono;clear j;rintro S H⟨rfl,j⟩)|(go_at_call 12;apply(A _ _ _ X6 Ad Ad).mono;rintro S H⟨rfl,rfl⟩)|(go_at_call 23;apply(d _ _ X6).mono;rintro S H⟨rfl,rfl⟩))
 all_goals first|(exfalso;rename_i i;simp only[bX,x,Y,m]at i;omega)|skip
 all_goals go_ret
 all_goals exact⟨iW,HW.trans (j.mono Aa)⟩
def Aav(w P g I N)(p:iF)(k i)(o:(k=4∨k=5∨k=6)/\(i=0∨i=1))(Y:w.1[P]?=je (pf (A9 k N M M M 0 vy) 128))(C:w.cell? ⟨g,6+1,zt⟩=je (zx p))(J:w.cell? ⟨g,6+3,zt⟩=je (iS i))(f:g≠P):j prog 116 #[HZ P,xh (je (iR g 6)) 2 I] w λe B=>e=ia (gq #[])/\Cb w B P (A9 k N p M M 0 (i==1)) 128:=by have ⟨c0,_,R,_,_,_,q⟩:=Z9 Y S;have ⟨_,_,K,_,_,_,c,_⟩:=It Y;have z:=u Y;clear Y;have Z:=u (((Cb.refl z).set 2 (zx p)).set 6 (o0 (i==1)));obtain⟨rfl|rfl|rfl,rfl|rfl⟩:=o<;>(go_enter func116,ntmps116;go_wp2;go_region_law (fail));(all_goals go_wp2);all_goals exact⟨S,gq #[],by simp[yo,results116,go_sem],S,by first|exact Z.drew|exact Z|exact Z.drew.drew⟩
def Aaw(w P b N)(Y:w.1[P]?=je (pf (A9 7 N M M M 0 vy) 128)):j prog 116 #[HZ P,b] w λe B=>e=ia (gq #[])/\Cb w B P (A9 7 N M M M 0 vy) 128:=by have c0:=Kj 0 Y;go_enter func116,ntmps116;go_wp2;all_goals exact⟨S,gq #[],by simp[yo,results116,go_sem],S,by first|omega|exact Cb.refl (u Y)⟩
section
variable {F:iI}
end
def PV(w kind F):j prog 161 #[P kind,P F] w λe B=>e=ia (o0 (F==0||(kind==5&&F==10)))/\B=w:=by
 by_cases a:F=0;·subst a;go_enter func161,ntmps161;go_wp2;go_ret;exact⟨S,S⟩
 by_cases z:kind=5;·subst z;go_enter func161,ntmps161;go_wp2;go_ret;simp
 go_enter func161,ntmps161;go_wp2;go_ret;exact⟨by simp[a,z],S⟩
def XA(w kind):j prog 163 #[P kind] w λe B=>e=ia (P (if kind=6 then 1 else 0))/\B=w:=by by_cases h:kind=6;(·go_enter func163,ntmps163;go_wp2;go_ret;exact⟨S,S⟩);go_enter func163,ntmps163;go_wp2;go_ret;exact⟨S,S⟩
def Ji(s:N):N:=s.extract ((Fa s.data.toList s.size).toNat+1) s.size
def PN(w s)(hs:s.size<=1000)(O:D5 s=jz):j prog 191 #[zx s] w λe B=>e=ia (zx (Ji s))/\B=w:=by obtain⟨F,C⟩:=Tg O;have Q:=U0 _ F s.size C;have o:=(Xz s.1.1 s.size).2;have L:=u (V7 w s Aa);have W:Ji s=s.extract ((Fa s.1.1 s.size).toNat+1) s.size:=S;obtain⟨i,V⟩:∃i:Nat,Fa s.1.1 s.size=(i:Int):=⟨(Fa s.1.1 s.size).toNat,Aa⟩;rw[V]at L o W;have m:(i:Int)+1<=(s.size:Int):=Aa;rw[show((i:Int).toNat)=i by omega]at W;rw[W];clear Q F C V W;go_enter func191,ntmps191;go_wp2_with (go_at_call 199;apply L.mono;rintro e H⟨rfl,rfl⟩);go_ret;exact⟨Ae,S⟩
end Go.Proofs.Y
namespace Orch
variable (f:iD)
abbrev lv:Lt:=⟨91,2,0,0,0,vy,93⟩
def parse_get:parse [40,52,56,52,98,40,56,56,52,52,41,41]=je (.mk lr [t4,t8,t4,tb,.mk lr [t8,t8,t4,t4]]):=Ac
def parse_list:parse [40,52,56,52,91,116,93,41]=je (.mk lr [t4,t8,t4,.mk lv [tt]]):=Ac
def txB(L:iB):iE:=L.flatMap λs=>be s.size 4++s.data.toList
def txB_cons(s:N)(L:iB):txB (s::L)=be s.size 4++s.data.toList++txB L:=by simp[txB]
def IZ{k}:∀L(i:Nat)(a:iE),(∀s∈L,s.size<=200/\f s=jz)->iY a+(txB L).length<=1000->putE (put f (k+1)) (.mk lv [tt]) (L.map txt) i a=je (a++txB L)
 |[],i,a,h,K=>by simp[putE,txB]|s::L,i,a,h,K=>by rw[txB_cons,aH]at K;(have E:part (.mk lv [tt]) i=tt:=by simp[part,Ty.l,Ty.ps]);rw[bF,putE,E,(puts_t f (k:=k) (h s cG).1 (h s cG).2 a Aa)];simp only;rw[IZ L _ _ (λx Z=>h x (cJ _ Z)) Aet,txB_cons];simp
def Ag1{k}{L:iB}(U:iY L<=32)(h:∀s∈L,s.size<=200/\f s=jz):KM f (k+2) (.mk lv [tt]) (.mk 0 M (L.map txt)) (be (iY L) 4++txB L):=λa O=>by
 have I:H f (.mk lv [tt]) (.mk 0 M (L.map txt))=jz:=by have C:(ByteArray.mk #[]).size=0:=S;simp[H,Ty.l,V.n,V.s,V.l,C,U]
 have g:head (.mk lv [tt]) (.mk 0 M (L.map txt))=be (iY L) 4:=by simp[head,Ty.l,V.l]
 rw[put,aL I,g];rw[aH]at O;have:=IZ f (k:=k) L 0 (a++be (iY L) 4) h Aet;show(match putE _ _ (L.map txt) 0 _ with|none=>zt|some o=>if iY o<=1000 then je o else zt)=_;grind
def puts_get{m z e a b c d s}(o:-2147483648<=m)(i:m<=2147483647)(W:-9223372036854775808<=z)(T:z<=9223372036854775807)(g:-2147483648<=e)(A:e<=2147483647)(l:s.size<=200)(h:-9223372036854775808<=a)(j:a<=9223372036854775807)(M:-9223372036854775808<=b)(D:b<=9223372036854775807)(n:-2147483648<=c)(x:c<=2147483647)(k:-2147483648<=d)(E:d<=2147483647):put f 9 [] (.mk lr [t4,t8,t4,tb,.mk lr [t8,t8,t4,t4]]) (.mk 0 iU [num m,num z,num e,txt s,.mk 0 iU [num a,num b,num c,num d]])=je (be m 4++be z 8++be e 4++be s.size 4++s.data.toList++be a 8++be b 8++be c 4++be d 4):=by have y:iY s.1.1=s.size:=S;have:=puts_rec f (l:=lr) S (.cons (puts_4 f o i) (.cons (puts_8 f W T) (.cons (puts_4 f g A) (.cons (puts_b f l) (.cons (puts_rec f (k:=7) (l:=lr) S (.cons (puts_8 f h j) (.cons (puts_8 f M D) (.cons (puts_4 f n x) (.cons (puts_4 f k E) .nil))))) .nil))))) [] N6;simpa using this
def puts_list{m z e}{L:iB}(o:-2147483648<=m)(i:m<=2147483647)(W:-9223372036854775808<=z)(T:z<=9223372036854775807)(g:-2147483648<=e)(A:e<=2147483647)(U:iY L<=32)(h:∀s∈L,s.size<=200/\f s=jz)(K:(txB L).length<=980):put f 9 [] (.mk lr [t4,t8,t4,.mk lv [tt]]) (.mk 0 M [num m,num z,num e,.mk 0 M (L.map txt)])=je (be m 4++be z 8++be e 4++be (iY L) 4++txB L):=by have:=puts_rec f (l:=lr) S (.cons (puts_4 f o i) (.cons (puts_8 f W T) (.cons (puts_4 f g A) (.cons (Ag1 f (k:=6) U h) .nil)))) [] (by simp[aH,be_length,aR];omega);simpa using this
end Orch
namespace Go.Proofs.Y
variable {A C r:List (N×Nd)}{x:Nd}
open Go Go.RowKit
def Orch.parse_record:Orch.parse [40,52,56,116,98,116,41]=je (.mk Orch.lr [Orch.t4,Orch.t8,Orch.tt,Orch.tb,Orch.tt]):=Ac
def Om(kind last:Int)(p d n:N):iE:=Orch.be kind 4++Orch.be last 8++Orch.be p.size 4++p.data.toList++Orch.be d.size 4++d.data.toList++Orch.be n.size 4++n.data.toList
abbrev Al9(kind last:Int)(p d n:N):Array p8:=#[P kind,zx ⟨#[]⟩,xh zt 0 0,P last,zx ⟨#[]⟩,xh zt 0 0,P 0,zx p,xh zt 0 0,P 0,zx d,xh zt 0 0,P 0,zx n,xh zt 0 0]
def Wr(kind a p d n):(Om kind a p d n).length=24+p.size+d.size+n.size:=by simp[Om,Orch.be_length];omega
def Zk(a){kind b p d n}(X:-2147483648<=kind)(c:kind<=2147483647)(r:-9223372036854775808<=b)(j:b<=9223372036854775807)(Q:p.size<=200)(q:a p=jz)(y:d.size<=200)(z:n.size<=200)(e:a n=jz):Orch.put a 9 [] (.mk Orch.lr [Orch.t4,Orch.t8,Orch.tt,Orch.tb,Orch.tt]) (.mk 0 M [Orch.num kind,Orch.num b,Orch.txt p,Orch.txt d,Orch.txt n])=je (Om kind b p d n):=by have C:iY p.1.1=p.size:=S;have J:iY d.1.1=d.size:=S;have T:iY n.1.1=n.size:=S;have:=Orch.puts_rec a (k:=8) (l:=Orch.lr) S (.cons (Orch.puts_4 a X c) (.cons (Orch.puts_8 a r j) (.cons (Orch.puts_t a Q q) (.cons (Orch.puts_b a y) (.cons (Orch.puts_t a z e) .nil))))) [] BB;simpa[Om] using this
def Tj(w o I):iT w ((w.alloc o).alloc I):=(Bg w o).trans ((Bg _ I).mono Ae)
def Aqw(E g kind p d n v)(h B P:Nat)(s V o)(u:Nat)(r:Option Addr->Nat->Nat->qi->Prop)(w:qi->Option Addr->Nat->Nat->qi->Prop)(z:qi->p8->qi->Prop)(HC:Hid (∀W,iT E W->yf prog 138 #[zx ⟨#[40,52,56,116,98,116,41]⟩] W λe a=>(∃p m n,e=ia (gq #[Ly h B P s V o u (xh p m n),o0 jz])/\r p m n a)/\iT W a))(HE:Hid (∀G W T m Z a1,r T m Z G->iT G W->iT E W->W.1[a1]?=je (pf (Al9 kind g p d n) 180)->yf prog 139 #[Ly h B P s V o u (xh T m Z),vv 0 iU (xh (je (iQ a1)) 5 5)] W λe a=>(∃b c f,e=ia (gq #[xh b c f,o0 jz])/\w W b c f a)/\iT W a))(X:Hid (∀W b c f J,w W b c f J->iT E J->yf prog 169 #[xh b c f] J λe a=>(∃t,e=ia (gq #[t,o0 jz])/\z J t a)/\iT J a)):yf prog 185 #[iS g,Mo kind p d n v] E λe a=>(∃t W,e=ia (gq #[t,o0 jz])/\z W t a/\iZ E.1<=iZ W.1)/\iT E a:=by have I:=hid (Bg E (pf (D3 kind p d n v) 149));obtain⟨q,ae⟩:∃q,E.alloc (pf (D3 kind p d n v) 149)=q:=⟨_,iW⟩;have S:=iy E (pf (D3 kind p d n v) 149);rw[ae]at I S;have ⟨c0,Q,R,U⟩:=Am2 S iW;have K:iZ E.1<iZ q.1:=ltOf S;clear S;go_enter func185,ntmps185;go_wp2_with (first|(go_at_call 138;apply(HC _ I).mono;rintro e H⟨⟨l,pm,pn,rfl,a6⟩,M⟩;have af:=hide a6;have O:=hide (I.trans (M.mono I.4));have a7:=(M.cell (p:=(iQ E.1.size)) K).trans c0;have a8:=(M.cell (p:=(iR E.1.size 1)) K).trans Q;have aa:=(M.cell (p:=(iR E.1.size 2)) K).trans R;have d3:=(M.cell (p:=(iR E.1.size 3)) K).trans U;have ab:iZ E.1<iZ H.1:=aB K M.4;clear M a6)|(go_at_call 139;apply(HE H _ l pm pn (iZ H.1+1) af (Tj H _ _) (O.trans ((Tj H _ _).mono O.4)) (by have:=iy (H.alloc (pf #[wy ry h,iS B,iS P,iS s,iS V,o0 o,wy ry u,xh l pm pn] 205)) (pf (Al9 kind g p d n) 180);simpa using this)).mono;rintro e w2⟨⟨L,i,j,rfl,Y⟩,D⟩;have x:=hide Y;have C:=hide ((O.trans ((Tj H _ _).mono O.4)).trans (D.mono V5));clear D Y)|(go_at_call 169;apply(X _ L i j _ x C).mono;rintro e ad⟨⟨t,rfl,N⟩,F⟩;have y:=hide N;have k:=hide (C.trans (F.mono C.4));have A:=C.4;clear F N));go_ret2;exact⟨⟨_,_,iW,y,A⟩,k⟩
section
variable {F:iI}
def FV(U:Hq o F)(w)(V:F w)(z:∀W,iT w W->Table W)(A kind)(p d n:iF)(c)(X:-2147483648<=kind)(B:kind<=2147483647)(E:-9223372036854775808<=A)(K:A<=9223372036854775807)(Q:p.size<=200)(L:o p=jz)(M:d.size<=200)(P:n.size<=200)(R:o n=jz):yf prog 185 #[iS A,Mo kind p d n c] w λe a=>(∃r,e=ia (gq #[r,o0 jz])/\a.ownsRow w.1.size 5 1 r (Orch.be (Om kind A p d n).length 4++Om kind A p d n).length (A4 (Orch.be (Om kind A p d n).length 4++Om kind A p d n)))/\iT w a:=by have x:=Zk o X B E K Q L M P R;have a8:=Wr kind A p d n;have l:=R6 (s:=[40,52,56,116,98,116,41]) Orch.parse_record;generalize S:(Orch.Ty.mk Orch.lr [Orch.t4,Orch.t8,Orch.tt,Orch.tb,Orch.tt])=t at x l;refine(Aqw w A kind p d n c t.l.1.toNat t.l.2 t.l.3 t.l.4 t.l.5 t.l.6 t.l.7.toNat (λp m n a=>Ff a (λb=>b<iZ a.1) t.ps (xh p m n)) (λW i q j a=>∃g,i=je (iQ g)/\q=(Om kind A p d n).length/\g<iZ a.1/\Bytes a g 0 (Om kind A p d n)) (λW r a=>a.ownsRow W.1.size 5 1 r (Orch.be (Om kind A p d n).length 4++Om kind A p d n).length (A4 (Orch.be (Om kind A p d n).length 4++Om kind A p d n))) (λW T=>?_) (λaa W p' m n' g Z N Y G=>?_) (λW i q j J a1 N=>?_)).mono ?_;apply(Ms W ⟨#[40,52,56,116,98,116,41]⟩ (z W T) (t:=t) (S▸Orch.parse_record)).mono;rintro e a⟨⟨af,rfl,Z⟩,v⟩;obtain⟨I,f,rfl⟩:=Z.shape;exact⟨⟨I,_,f,iW,Z.congr (λb D=>D.2) (λ_ _=>rfl)⟩,v⟩;(have a6:Ea W (λb=>b<iZ W.1) [Orch.num kind,Orch.num A,Orch.txt p,Orch.txt d,Orch.txt n] (xh (je (iQ g)) 5 5):=by refine .row [(Orch.num kind,xh zt 0 0),(Orch.num A,xh zt 0 0),(Orch.txt p,xh zt 0 0),(Orch.txt d,xh zt 0 0),(Orch.txt n,xh zt 0 0)] _ _ Ae (aA _) (ltOf G) (λj ab hj=>?_) (λad y=>?_);apply cellOf G;simpa[Eu,Orch.V.n,Orch.V.s,Orch.num,Orch.txt] using hj;simp[bM,dR,or_false]at y;obtain rfl|rfl|rfl|rfl|rfl:=y<;>exact .nil _ _);have:=WY U W (U.2 (U.3 V) Y V) t l (λb=>b<iZ W.1) _ (Z.congr (λb h=>aB h N.4) (λb D=>N.5 b D)) ⟨0,iU,[Orch.num kind,Orch.num A,Orch.txt p,Orch.txt d,Orch.txt n]⟩ _ a6 (λ_ h=>h) x;apply this.mono;rintro e a⟨⟨r,rfl,O⟩,D⟩;obtain⟨g,k,rfl,_,G,u⟩:=Vo O Aa;grind;obtain⟨g,rfl,rfl,G,u⟩:=a1;apply(PT J g j (Om kind A p d n) u G Aa).mono;grind;rintro e a⟨⟨r,W,rfl,O,s⟩,D⟩;refine⟨⟨r,iW,O.1,?_⟩,D⟩;obtain h|⟨g,k,H,C,h2,a7⟩:=O.2;exact Or.inl h;exact Or.inr ⟨g,k,H,C,aD s h2,a7⟩
end
def J6:N:=⟨#[108,111,103]⟩
def VS(left:Int)(L:List Fl)(data:N)(b:Bool)(Ce:Int)(L':List Fl):Prop:=
 (left=0/\b=vy/\Ce=0/\L'=L)∨(left≠0/\∃L1,BP L J6 data L1/\((dec left=0/\b=vy/\Ce=0/\L'=L1)∨(dec left≠0/\b=jz/\Ce=dec (dec left)/\Zu L1 J6 L')))
def AF(kind last:Int)(p d n:N):N:=⟨(Orch.be (Om kind last p d n).length 4++Om kind last p d n).toArray⟩
def Up{a}(h:-1<=a):-1<=dec a/\dec a<=a:=by rw[dec];split<;>omega
def St.kx{b rt w K a L v s}(h:St b rt w K a L v s){X}(k:Ax w B X)(C:¬X K)(J:∀g,Cl v=je g->¬X g):St b rt B K a L v s:=
 ⟨(k.block _ (ltOf h.blk) C).trans h.blk,Fj h.row λg cs G M=>k.block g (ltOf M) (J g ((Of v _ _).symm.trans G))⟩
section
variable {F:iI}
def Ag2(w D g kind p d n v)(a:iE)(X:Hid (∀W,iT w W->yf prog 185 #[iS g,Mo kind p d n v] W λe B=>(∃t,e=ia (gq #[t,o0 jz])/\B.ownsRow W.1.size 5 1 t (iY a) (A4 a))/\iT W B))(P b2)(l:qi->qi->Prop)(f:qi->qi->qi->Prop)(q:Hid (∀W,iT w W->yf prog 52 #[HZ D,zx ⟨#[108,111,103]⟩,zx ⟨a.toArray⟩] W λe B=>e=ia (o0 P)/\l W B/\∀i,iZ w.1<=i->i<iZ W.1->B.1[i]?=W.1[i]?))(r:Hid (∀W H,iT w W->l W H->yf prog 53 #[HZ D,zx ⟨#[108,111,103]⟩] H λe B=>e=ia (o0 b2)/\f W H B)):yf prog 157 #[mn #[HZ D],iS g,Mo kind p d n v] w λe B=>∃W,iT w W/\((P=vy/\e=ia (o0 vy)/\l W B)∨(P=jz/\e=ia (o0 b2)/\∃H,l W H/\f W H B)):=by
 have I:=hid (Tj w (pf #[HZ D] 86) (pf (D3 kind p d n v) 149));obtain⟨b,c⟩:∃b,(w.alloc (pf #[HZ D] 86)).alloc (pf (D3 kind p d n v) 149)=b:=⟨_,iW⟩;have S:=iy (w.alloc (pf #[HZ D] 86)) (pf (D3 kind p d n v) 149);have o:b.1[iZ w.1]?=je (pf #[HZ D] 86):=c▸((Bg (w.alloc (pf #[HZ D] 86)) (pf (D3 kind p d n v) 149)).5 _ Ae).trans (iy _ _)
 rw[c]at I S;have S:b.1[iZ w.1+1]?=je (pf (D3 kind p d n v) 149):=by simpa using S
 have ⟨c0,Q,R,U,u⟩:=Un S iW;have h:=hid o;clear S o;cases P;all_goals go_enter func157,ntmps157;go_wp2_with (first|(go_at_call 185;apply(X _ I).mono;rintro e H⟨⟨t,rfl,j⟩,M⟩;have s:=Vs j;have O:=hide (I.trans (M.mono I.4));have k:=hid ((M.5 _ (ltOf h)).trans h);have y:H.cell? (iQ w.1.size)=je (HZ D):=cellOf (j:=0) k iW;clear M j)|(go_at_call 52;apply(q _ O).mono;rintro e E⟨rfl,Y,hs⟩;have m:=hide Y;have C:E.cell? (iQ w.1.size)=je (HZ D):=cellOf (j:=0) ((hs _ (aA _) (ltOf k)).trans k) iW;clear Y hs)|(go_at_call 53;apply(r _ _ O m).mono;rintro e L⟨rfl,Y⟩;have x:=hide Y;clear Y));go_ret
 exact⟨_,O,zk ⟨by first|rfl|trivial,by first|rfl|trivial,m⟩⟩;exact⟨_,O,qx ⟨by first|rfl|trivial,by first|rfl|trivial,_,m,x⟩⟩
def Ab5(U:Hq o F)(w)(V:F w)(I:∀W,iT w W->Table W)(D K l L v s)(m:w.1[D]?=je (pf #[HZ K] 54))(h:St 52 97 w K l L v s)(u:-1<=l)(P:l<=9223372036854775807)(ah:iY L<=1000000)(Q:∀f∈L,f.d.size<=1000000000000)(A kind)(p d n:iF)(c)(X:-2147483648<=kind)(T:kind<=2147483647)(Y:-9223372036854775808<=A)(a1:A<=9223372036854775807)(a6:p.size<=200)(a7:o p=jz)(a8:d.size<=200)(hn:n.size<=200)(ao:o n=jz):yf prog 157 #[mn #[HZ D],iS A,Mo kind p d n c] w λe a=>∃y z E,e=ia (o0 y)/\VS l L (AF kind A p d n) y z E/\NJ 52 97 w a K z v E:=by
 have ai:=Wr kind A p d n;have aq:(AF kind A p d n).size<=1000000:=by show(Orch.be (Om kind A p d n).length 4++Om kind A p d n).toArray.size<=_;simp[Orch.be_length];omega
 have am:K≠D:=λe=>by subst e;rw[h.1]at m;cases m
 have ar:=ltOf h.1;have aj:∀W,iT w W->yf prog 52 #[HZ D,zx ⟨#[108,111,103]⟩,zx (AF kind A p d n)] W λe a=>e=ia (o0 (decide (l≠0)))/\(∃t O Z,St 52 97 a K (dec l) t O Z/\I8 W a K (Cl v) (Cl O)/\((l=0/\t=L)∨(l≠0/\BP L J6 (AF kind A p d n) t)))/\∀i,iZ w.1<=i->i<iZ W.1->a.1[i]?=W.1[i]?:=λW k=>by apply(Zj W D K l L v s ⟨#[108,111,103]⟩ (AF kind A p d n) ((k.5 _ (ltOf m)).trans m) (h.below k) u P Aa (λf aa=>by have:=Q f aa;omega) Aa).mono;rintro e a⟨rfl,t,⟨O,Z,r,M⟩,S⟩;exact⟨iW,⟨t,O,Z,r,M,S⟩,λi C J=>M.same i J Aa λe=>by have:=(λab ad=>(h.2.lt ab ((Of v _ _).trans ad)).2) i e;omega⟩
 have ag:∀t,BP L J6 (AF kind A p d n) t->iY t<=1000001:=by rintro t(⟨_,rfl⟩|⟨i,f,_,_,rfl⟩);simp;omega;simp;omega
 have ae:=Up u;have ak:∀W H,iT w W->(∃t O Z,St 52 97 H K (dec l) t O Z/\I8 W H K (Cl v) (Cl O)/\((l=0/\t=L)∨(l≠0/\BP L J6 (AF kind A p d n) t)))->yf prog 53 #[HZ D,zx ⟨#[108,111,103]⟩] H λe a=>e=ia (o0 (decide (dec l≠0)))/\∃t N j B,St 52 97 a K (dec (dec l)) N j B/\I8 W a K (Cl v) (Cl j)/\((l=0/\t=L)∨(l≠0/\BP L J6 (AF kind A p d n) t))/\((dec l=0/\N=t)∨(dec l≠0/\Zu t J6 N)):=by rintro W H k⟨t,O,Z,r,M,S⟩;have al:H.1[D]?=je (pf #[HZ K] 54):=(M.same D (aB (ltOf m) k.4) (dH am) (λe=>by obtain⟨cs,G⟩:=Ex h.2 ((Of v _ _).trans e);rw[m]at G;cases G)).trans ((k.5 _ (ltOf m)).trans m);apply(IY H D K (dec l) t O Z ⟨#[108,111,103]⟩ al r ae.1 Aa (by obtain⟨_,rfl⟩|⟨_,h⟩:=S;omega;have:=ag _ h;omega)).mono;rintro e a⟨rfl,N,⟨j,B,g,R⟩,x⟩;exact⟨iW,t,N,j,B,g,M.trans R,S,x⟩
 apply(Ag2 w D A kind p d n c _ (λW k=>FV U W (U.2 (U.3 V) k V) (λW' af=>I W' (k.trans (af.mono k.4))) A kind p d n c X T Y a1 a6 a7 a8 hn ao) _ _ _ _ aj ak).mono;rintro e a⟨W,k,⟨q,rfl,t,O,Z,r,M,S⟩|⟨q,rfl,H,-,t,N,j,B,g,R,S,x⟩⟩;have b:l=0:=by simpa using q
 refine⟨vy,dec l,t,iW,zk ⟨b,iW,by simp[b,dec],?_⟩,O,Z,r,(I8.below k).trans M⟩;obtain⟨_,h⟩|⟨h,_⟩:=S;exact h;exact absurd b h;have b:l≠0:=by simpa using q
 obtain⟨h,_⟩|⟨_,ha⟩:=S;exact absurd h b;refine⟨decide (dec l≠0),dec (dec l),N,iW,qx ⟨b,t,ha,?_⟩,j,B,g,(I8.below k).trans R⟩;obtain⟨C,J⟩|⟨C,J⟩:=x;exact zk ⟨C,by simp[C],by rw[C];rfl,J⟩;exact qx ⟨C,by simp[C],iW,J⟩
end
def VU(E f O g I)(V:iF)(X i)(b:Ov f)(d:Ov O)(D:Ov g)(c:Ov I)(hs:V.size<=9223372036854775807)(Tz:0<=i)(m:i<=9223372036854775807):yf prog 13 #[mn #[iS f,iS O,iS g,zx V,iS I,o0 X],iS i] E λe W=>e=ia (zx (Gj (Uj (1+Ot f 7) (UU i) (Fo O g) (Ra V) (Vg I) X)))/\iT E W:=by
 refine Loi λP Z y=>?_;have HW:Hid (iT E P):=Z▸Bg _ _
 have K:=ltOf y;have L:=hide (eI (ltOf y));have ⟨c0,Q,R,U,u,l⟩:=Lj y iW;obtain⟨k,F⟩:=R8 f (n:=7) Aa;have C:Hid (∀a,yf prog 12 #[iS f,iS 7] a λe W=>e=ia (iS (Ot f 7))/\W=a):=λa=>R7 a f 7 b Aa Aa;have J:Hid (∀a,yf prog 29 #[iS i] a λe W=>e=ia (iS (UU i))/\W=a):=λa=>Afy a i Tz m;generalize Ot f 7=q at *;have h:Hid (∀a,yf prog 6 #[mn #[iS f,iS O,iS g,zx V,iS I,o0 X],iS (1+q),iS (UU i)] a λe W=>e=ia (zx (Gj (Uj (1+q) (UU i) (Fo O g) (Ra V) (Vg I) X)))/\iT a W):=λa=>XM a f O g I V X (1+q) (UU i) d D c (by rw[UU,Ov];omega) hs Aa Aa;have n:IntKind.i64.wrap (1+q)=1+q:=by simp[IntKind.wrap,IntKind.bits,IntKind.signed];omega
 generalize UU i=N at *;generalize Uj (1+q) N (Fo O g) (Ra V) (Vg I) X=o at *;clear y;go_enter func13,ntmps13;all_goals go_wp2_with fail
 all_goals go_region_held3 (λW=>W.cell? (iQ E.1.size)=je (iS f)/\W.cell? (iR E.1.size 1)=je (iS O)/\W.cell? (iR E.1.size 2)=je (iS g)/\W.cell? (iR E.1.size 3)=je (zx V)/\W.cell? (iR E.1.size 4)=je (iS I)/\W.cell? (iR E.1.size 5)=je (o0 X)) (first|(go_keep;done)|exact⟨c0,Q,R,U,u,l⟩|exact⟨a7,a8,aa,r,ab,j⟩) (first|(go_at_call 12;apply(C _).mono;rintro S H⟨rfl,rfl⟩)|(go_at_call 29;apply(J _).mono;rintro S H⟨rfl,rfl⟩)|(go_at_call 6;apply(h _).mono;rintro S H⟨rfl,M⟩;have HB:=hide M;have a7:=(M.cell (p:=(iQ E.1.size)) K).trans c0;have a8:=(M.cell (p:=(iR E.1.size 1)) K).trans Q;have aa:=(M.cell (p:=(iR E.1.size 2)) K).trans R;have r:=(M.cell (p:=(iR E.1.size 3)) K).trans U;have ab:=(M.cell (p:=(iR E.1.size 4)) K).trans u;have j:=(M.cell (p:=(iR E.1.size 5)) K).trans l;clear M))
 all_goals go_wp2_with fail
 all_goals go_ret
 all_goals first|exact⟨iW,HW.trans (HB.mono L)⟩|exact⟨iW,HW.drew.trans (HB.mono L)⟩|exact⟨iW,HW.drew.drew.trans (HB.mono L)⟩
end Go.Proofs.Y
namespace Orch
variable (f:iD)
def Ac1{t}{b:iE}{v a}(D:iY b<=1000)(h:take f k t b=je (v,a)):H f t v=jz/\iY a<=iY b:=by have ⟨pre,e,Q⟩:=put_take f k t b v a h;have:=Q [] (by simpa using Aj);refine⟨?_,Aj⟩;cases k with|zero=>simp[put]at this|succ k=>rw[put]at this;grind
def EZ{t}:∀m i(b:iE)X(r:iE),iY b<=1000->takeE (take f k) t m i b=je (X,r)->∀j x,X[j]?=je x->H f (part t (i+j)) x=jz
 |0,i,b,X,r,D,h,j,x,Z=>by simp[takeE]at h;grind|m+1,i,b,X,r,D,h,j,x,Z=>by rw[takeE]at h;split at h;cases h;rename_i e a I;split at h;cases h;rename_i G c N;simp[aU,dE]at h;obtain⟨rfl,rfl⟩:=h;have ⟨C,J⟩:=Ac1 f D I;cases j with|zero=>grind|succ j=>have:=EZ m _ a G c Aa N j x QV;grind
def take_rec{a}{b:iE}{v r}(D:iY b<=1000)(h:take f (k+1) (.mk lr a) b=je (v,r)):v.n=0/\v.s=M/\iY v.l=iY a/\∀(j:Nat)t(x:V),a[j]?=je t->v.l[j]?=je x->H f t x=jz:=by have C:(takeE _ _ (iY a) 0 b).map listV=je (v,r):=h;cases c:takeE (take f k) (.mk lr a) (iY a) 0 b with|none=>grind|some q=>have ⟨X,d⟩:=q;rw[c]at C;obtain⟨rfl,rfl⟩:=C;refine⟨S,S,Qm _ _ _ _ _ _ _ c,λj t x R Z=>?_⟩;have:=EZ f (iY a) 0 b X d D c j x Z;rw[aY]at this;(have e:part (.mk lr a) j=t:=by simp[part,Ty.l,Ty.ps,R]);rwa[e]at this
def fits_4{x}(h:H f t4 x=jz):x=num x.n∧-2147483648<=x.n/\x.n<=2147483647:=by have ⟨n,s,l⟩:=x;simp only[H,Ty.l,V.n,V.s,V.l,aQ]at h;have ⟨⟨⟨C,J⟩,T⟩,q⟩:=h;have z:=Jg (of_decide_eq_true T);have a:=bJ.1 (of_decide_eq_true q);subst z a;exact⟨S,(of_decide_eq_true C),(of_decide_eq_true J)⟩
def fits_q{x}(h:H f tq x=jz):x=num x.n/\(x.n=0∨x.n=1):=by have ⟨n,s,l⟩:=x;simp only[H,Ty.l,V.n,V.s,V.l,aQ]at h;have ⟨⟨⟨C,J⟩,T⟩,q⟩:=h;have X:=of_decide_eq_true C;have o:=of_decide_eq_true J;have z:=Jg (of_decide_eq_true T);have a:=bJ.1 (of_decide_eq_true q);subst z a;exact⟨S,by simp[V.n];omega⟩
def fits_t{x}(h:H f tt x=jz):x=txt x.s/\x.s.size<=200/\f x.s=jz:=by have ⟨n,s,l⟩:=x;simp only[H,Ty.l,V.n,V.s,V.l,aQ, Bool.not_true,Bool.false_or]at h;have ⟨⟨C,J,T⟩,q⟩:=h;have z:=of_decide_eq_true C;have a:=bJ.1 (of_decide_eq_true q);subst z a;exact⟨S,(of_decide_eq_true J),T⟩
def fits_b{x}(h:H f tb x=jz):x=txt x.s/\x.s.size<=200:=by have ⟨n,s,l⟩:=x;simp only[H,Ty.l,V.n,V.s,V.l,aQ, Bool.not_false,Bool.true_or,and_true]at h;have ⟨⟨C,J⟩,q⟩:=h;have z:=of_decide_eq_true C;have a:=bJ.1 (of_decide_eq_true q);subst z a;exact⟨S,(of_decide_eq_true J)⟩
def parse_ping:parse [40,52,52,41]=je (.mk lr [t4,t4]):=Ac
end Orch
namespace Go.Proofs.Y
variable {A C r:List (N×Nd)}{x:Nd}
open Go.RowKit
structure Rq where
 kind:Nat
 m:Int
 p:iF
 d:iF
 ver:Int
 wt:Bool
def Np(k:Nat):List Orch.Ty:=
 if k=1 then [Orch.t4,Orch.t4,Orch.tt,Orch.tb] else if k=2 then [Orch.t4,Orch.t4,Orch.tt,Orch.t4] else if k=3 then [Orch.t4,Orch.t4,Orch.tt,Orch.tb,Orch.t4] else if k=7 then [Orch.t4,Orch.t4] else [Orch.t4,Orch.t4,Orch.tt,Orch.tq]
def Xm(k:Nat)(l:List Orch.V):Rq:=
 match l with
 |_::b::r=>match k,r with
  |1,[p,d]=>⟨1,b.n,p.s,d.s,0,vy⟩
  |2,[p,v]=>⟨2,b.n,p.s,M,v.n,vy⟩
  |3,[p,d,v]=>⟨3,b.n,p.s,d.s,v.n,vy⟩
  |k,[p,q]=>⟨k,b.n,p.s,M,0,q.n==1⟩
  |k,_=>⟨k,b.n,M,M,0,vy⟩
 |_=>⟨k,0,M,M,0,vy⟩
def No(valid:iD)(body:iE):Option Rq:=
 if iY body<4 then zt
 else if 1<=Orch.sgn (body.take 4)/\Orch.sgn (body.take 4)<=7 then
  match AK valid (.mk Orch.lr (Np (Orch.sgn (body.take 4)).toNat)) body with
  |none=>zt
  |some v=>if(v.l.getD 1 (Orch.num 0)).n<0 then zt else je (Xm (Orch.sgn (body.take 4)).toNat v.l)
 else zt
def Ama(r:Rq):p8:=gq #[Mt r.kind r.m r.p r.d M r.ver r.6,o0 jz]
section
variable {F:iI}
def MK(U:Hq o F)(w)(V:F w)(n:Table w)(kind)(Y:1<=kind)(a1:kind<=7)(O:iF)(s:w.cell? ⟨0,kind * 3+1,zt⟩=je (zx O))(m:0<iZ w.1)(d)(Q:Orch.parse O.data.toList=je d)(body:iE)(i:iY body<=1000)(q:4<=iY body)(r:Orch.sgn (body.take 4)=kind)(H y A t)(a6:0<=t.n)(a)(a7:2<=iY a)(I:AK o d body=je (.mk H y (A::t::a)))(T)(u:Hy w T body)(p f S K h)(L:∀g c P W,(∀j x,a[j]?=je x->W.cell? ⟨g,6+j * 3,zt⟩=je (iS x.n)/\W.cell? ⟨g,6+(j * 3+1),zt⟩=je (zx x.s))->g≠P->W.1[P]?=je (pf (A9 kind t.n iU iU iU 0 vy) 128) ->
   yf prog 116 #[HZ P,xh (je (iR g 6)) (iY a) c] W λe b=>e=ia (gq #[])/\Cb W b P (A9 kind t.n p f S K h) 128):yf prog 64 #[iS 1,T] w λe b=>e=ia (gq #[Mt kind t.n p f S K h,o0 jz])/\iT w b:=by have z:=u;obtain⟨a8,off,aa,rfl,C,ab,D⟩:=u;refine Amb w kind Aa _ _ _ (iY a+2) Aa O t.n Aa p f S K h (λg c W=>∀j x,a[j]?=je x->W.cell? ⟨g,6+j * 3,zt⟩=je (iS x.n)/\W.cell? ⟨g,6+(j * 3+1),zt⟩=je (zx x.s)) s m ?_ ?_ ?_;intro W k;exact Wq W _ _ q i (z.below k (aA _)) kind r Aa Aa;intro W k;apply(Ur U W (U.2 (U.3 V) k V) (n.below k n.pos) O d Q _ _ i (z.below k (aA _)) _ I).mono;rintro e b⟨⟨ad,rfl,B⟩,R⟩;obtain⟨g,c,rfl,M,G,E⟩:=Xl B;refine⟨g,c,iW,M,(E 1 _ iW).1,λj x Z=>?_,G.2,R⟩;have:=E (j+2) x QV;grind;intro g c J sv v G e X N l;rw[e Aa,Nat.add_sub_cancel];exact L g _ J.1.size X (λj x Z=>⟨(N.cell (p:=(iR g _)) G).trans (v j x Z).1,(N.cell (p:=(iR g _)) G).trans (v j x Z).2⟩) Aa l
end
open Go.Maps
def Qr(L:iB):List N:=((L.map λx=>x.data.toList).mergeSort λx y=>decide (x<=y)).map λx=>⟨x.toArray⟩
def Kb(L):(Qr L).length=iY L:=by simp[Qr,eO]
def EU{L p}(h:L.Perm p):Qr L=Qr p:=by
 rw[Qr];congr 1;have J:=h.map λx:N=>x.1.1;have e:∀a b c:iE,decide (a<=b)=jz->decide (b<=c)=jz->decide (a<=c)=jz:=λa b c C J=>by grind
 have d:∀a b:iE,(decide (a<=b)||decide (b<=a))=jz:=λa b=>by simp[cZ,decide_eq_true_eq];exact List.le_total a b
 exact fZ (le:=λa b=>a<=b) (λa b _ _ C J=>List.le_antisymm C J) ((gE e d _).imp λh=>HM) ((gE e d _).imp λh=>HM) ((fQ _ _).trans (J.trans (fQ _ _).symm))
def Ahu(w a v)(L:iB)(K:iY L<=1000)(O:w.ownsRow a 9 1 v (iY L) (strs L))(r)(D:jg a r w):yf prog 192 #[v] w λe B=>e=ia (gq #[])/\jg a r B/\B.ownsRow a 9 1 v (iY L) (strs (Qr L)):=by
 obtain⟨rfl,F⟩|⟨g,I,H,rfl,o,G,S,t,f,R⟩:=O.2;apply(Any.slices_Sort_string_none Tryz.lays190 zt 0 w).mono;rintro e B⟨rfl,rfl⟩;have c:L = []:=eC F;subst c;exact⟨iW,D,by simpa[Qr] using O⟩;have p:Go.Sort.Holds encStr w g 0 (L.map λx=>x.1.1).toArray:=λj l=>by (have P:j<iY L:=by simpa using l);rw[aY];refine⟨?_,Ej G⟩;(have C:(H.1.take (iY L * 1))[j]?=(strs L)[j]?:=by rw[R]);rw[eM,aL Aa]at C;(have J:H[j]?=je (zx L[j]):=by simp[strs,P]at C;simpa using C);rw[cellOf G J];simp[encStr,P]
 have:=Any.slices_Sort_string Tryz.lays190 g 0 I (L.map λx=>x.1.1) w p (ltOf G) Ai;rw[bR]at this;apply this.mono;rintro e B⟨rfl,n,d,rfl⟩;refine⟨iW,⟨D.1,D.2,D.3,?_,λk E=>?_⟩,⟨by simp[strs,Kb],qx ⟨g,I,pz encStr 0 ((L.map λx=>x.1.1).mergeSort λx y=>decide (x<=y)).toArray H,iW,o,?_,S,t,?_,?_⟩⟩⟩;have:=D.4;simp[Go.Sort.grow,Go.Sort.putRow,sj,Go.Sort.ahead];omega;rw[←D.5 k E];show((w.1.modify g _)++d)[k]?=_;rw[dN X7,bW,aO Aa];show((w.1.modify g _)++d)[g]?=_;exact A5v;simp[pz,f];have b:(((L.map λx=>x.1.1).mergeSort λx y=>decide (x<=y)).toArray).size=iY L:=by simp[eO]
 refine cE λj=>?_;rw[fN,eM];by_cases l:j<iY L;have Y:j<H.size:=Aa;rw[aL l];simp[pz,cO,pzo,aN Y,aI,aY,bB,true_and,b,l,bV,Nat.sub_zero];have h:j<((L.map λx=>x.1.1).mergeSort λx y=>decide (x<=y)).length:=by simp[eO];exact l
 simp[strs,Qr,encStr,aG h];rw[aO l];symm;rw[fU];simp[strs,Kb];omega
def Mz.left_eq{w b r m}(h:Mz w b r m R):w.rangeLeft b r=iY R:=by have ⟨X,a,c,d,c0,C,_,_,q,_,f,_⟩:=h.1;rw[World.rangeLeft];grind
def O0(path:N)(q:p8×p8):Option N:=
 match q.1 with
 |zx s=>if s≠⟨#[47]⟩/\Da s=path then je (Ji s) else zt
 |_=>zt
def kids(path:N)(ns:List (N×Nd)):List N:=Qr ((ns.map Pz).filterMap (O0 path))
def Abc{w h J K}{L:iB}{T:N}{m o}(O:h.ownsRow w.1.size 9 1 K (iY L) (strs L))(f:∀a,K.ownBlock=je a->a≠iZ w.1/\iZ w.1<=a)(b:Mz h t w.1.size m R)(D:iT w h)(z:t<iZ w.1)(d:J.ownsRow w.1.size 9 1 U (iY L+1) (strs L++[zx T]))(G:(h.alloc o).grownBy J K.ownBlock):Hid (J.ownsRow w.1.size 9 1 U (L++[T]).length (strs (L++[T]))/\Mz J t w.1.size m R/\iT w J):=by (have Q:iZ w.1<iZ h.1:=by have ⟨X,g,k,c,c0,_,_,_,V,_⟩:=b.1;grind);refine⟨by simpa using d,b.keep ?_ ?_,(D.alloc D.4 _).grown G Ai (λj l=>(f j l).2)⟩;rw[G.5 t Ai (λe=>Aj),np _ _ _ Aa];rw[G.5 w.1.size Ai (λe=>(f _ e.symm).1 S),np _ _ _ Q]
def Q5(w tb t num r)(u:Bw w tb t num r)(a:iF)(ba:r.length<=1000)(aj:∀a1∈r,a1.1.size<=1000/\D5 a1.1=jz) :
  yf prog 164 #[HZ tb,zx a] w λg B=>(∃a6,g=ia a6/\B.ownsRow w.1.size 9 1 a6 (kids a r).length (strs (kids a r)))/\iT w B:=by
 have c1:=Kj (w:=w) 1 u.1;obtain⟨ak,hr,z⟩:=u.2.rangeL (t:=103) underlying103;obtain⟨D,Z⟩:∃D,w.alloc ak=D:=⟨_,iW⟩;have h:Hid (iT w D):=Z▸Bg _ _
 rw[Z]at hr z;have n:=hide z;have al:=hide u.2.lt;clear z Z;obtain⟨i0,Tz,ao,aq,ar⟩:=uu Tryz.info9b;go_enter func164,ntmps164;go_wp2;go_loopw [5,6] (λnm pp wr=>∃k v,Hid (k.length+v.length<=r.length/\(∀x∈v,x∈r.map Pz)/\(k++v.filterMap (O0 a)).Perm ((r.map Pz).filterMap (O0 a)))/\Hid (wr.ownsRow w.1.size 9 1 nm k.length (strs k)/\Mz wr t w.1.size (r.map Pz) v/\iT w wr)) (λ_ _ wr=>wr.rangeLeft t w.1.size);case atStart=>exact⟨[],r.map Pz,⟨Ae,λx J=>J,hZ _⟩,gu _ _ _ _,n.out,h.out⟩
 case round=>obtain⟨k,v,G,HI⟩:=hrel;(obtain⟨na,e,N⟩:∃na e,u5=xh na k.length e:=by obtain⟨g,F⟩|⟨c,I,m,g,_⟩:=HI.out.1.2;exact⟨zt,0,by rw[g,F]⟩;exact⟨_,_,g⟩);subst N;rcases HI.out.2.1.next (P:=prog) 0 with⟨F,au⟩|⟨aa,b,Q,E,au,K,M,av,bb⟩;(have aw:(kids a r).length=k.length:=by have:=G.out.2.2.length_eq;rw[F]at this;simp only[List.filterMap_nil,bL]at this;rw[kids,Kb,←this]);(have ax:Qr k=kids a r:=by have:=G.out.2.2;rw[F]at this;simp only[List.filterMap_nil,bL]at this;exact EU this);(have ay:Hid (yf prog 192 #[xh na k.length e] wr λg B=>g=ia (gq #[])/\iT w B/\B.ownsRow w.1.size 9 1 (xh na k.length e) (kids a r).length (strs (kids a r))):=by have:=Ahu wr w.1.size (xh na k.length e) k (by have:=G.out.1;omega) HI.out.1 w HI.out.2.2;rw[ax]at this;rwa[aw]);go_wp2_with fail;apply ay.out.mono;rintro g w3⟨rfl,ab⟩;have ad:=hide ab;clear ab;go_wp2;go_ret;exact⟨⟨_,iW,ad.out.2⟩,ad.out.1⟩;have H:aa∈r.map Pz:=G.out.2.1 aa (Q.subset (cG ..));obtain⟨⟨i,l⟩,Y,rfl⟩:=aZ.1 H;have j:i.size<=1000/\D5 i=jz:=aj _ Y;have C:=hide (HI.out.2.2.grown M HI.out.2.2.4 (λbc hj=>by cases hj;exact aA _));have O:=hide K;(have az:v.length=b.length+1:=by rw[←Q.length_eq];rfl);have P:Hid (∀W,yf prog 177 #[zx i] W λg B=>g=ia (zx (Da i))/\B=W):=λW=>Qg W i (by have:=j.1;omega) j.2;have HN:Hid (∀W,yf prog 191 #[zx i] W λg B=>g=ia (zx (Ji i))/\B=W):=λW=>PN W i j.1 j.2;have A:Hid (b.length<wr.rangeLeft t w.1.size/\k.length+1+b.length<=r.length/\E.rangeLeft t w.1.size=b.length):=⟨by rw[(hide HI.out.2.1.left_eq).out];omega,by have:=G.out.1;omega,K.left_eq⟩;have T:Hid (∀x∈b,x∈r.map Pz):=λx J=>G.out.2.1 x (Q.subset (cJ _ J));have X:=hide (((hZ k).append (Q.filterMap (O0 a))).trans G.out.2.2);(have U:Hid (∀R,(xh na k.length e).ownBlock=je R->R≠w.1.size/\w.1.size<=R):=λR d=>by rcases HI.out.1.2 with⟨g,F⟩|⟨c,I,m,g,o,y,_⟩;rw[g]at d;simp[vi]at d;rw[g]at d;simp[vi]at d;subst d;refine⟨λS=>?_,o⟩;obtain⟨es,b5,b6,b7,c0,_,_,_,a7,_⟩:=HI.out.2.1.1;rw[S,a7]at y;cases y);(have q:Hid (E.ownsRow w.1.size 9 1 (xh na k.length e) k.length (strs k)):=by refine⟨HI.out.1.1,?_⟩;rcases HI.out.1.2 with⟨g,F⟩|⟨c,I,m,g,o,y,a8⟩;exact zk ⟨g,F⟩;·have:=U.out c (by rw[g];simp[vi]);exact qx ⟨c,I,m,g,o,(M.5 c (ltOf y) (λS=>this.1 (by injection S))).trans y,a8⟩);(have ae:Hid (k.length+1<=1000):=by have:=G.out.1;exact(by omega:k.length+1<=1000));clear K M Q Y av az H;by_cases s:i=⟨#[47]⟩;(·(have f:O0 a (Pz (i,l))=zt:=by simp[O0,Pz,s]);(have p:Hid ((k++b.filterMap (O0 a)).Perm ((r.map Pz).filterMap (O0 a))):=by have:=X.out;rwa[xi f]at this);subst s;go_wp2_with fail;exact Li0);·(have ai:(i.toList == [47])=vy:=by rw[Fv];exact decide_eq_false s);by_cases V:Da i=a;(·(have f:O0 a (Pz (i,l))=je (Ji i):=by simp[O0,Pz,s,V]);(have p:Hid (((k ++ [Ji i])++b.filterMap (O0 a)).Perm ((r.map Pz).filterMap (O0 a))):=by have:=X.out;rw[gA f]at this;rwa[bY]);(have b8:((Da i).toList == a.toList)=jz:=by rw[V];simp);clear f;go_wp2_with (first|(go_at_call 177;apply(P.out _).mono;rintro g L⟨rfl,rfl⟩)|(go_at_call 191;apply(HN.out _).mono;rintro g L⟨rfl,rfl⟩)|(at_builtin;apply wpList_append_own_at _ iW _ _ 233 iW w.1.size 9 i0 _ 1 16 underlying233 Tz ao aq ar iW Ad (.slice na k.length e) k.length (strs k) iW (q.out.alloc _) (iQ L.1.size) 1 1 [zx (Ji i)] iW iW (qp (iy L _)) (by intro bd hu;simp at hu;subst hu;rfl) (by unfold maxLen;have:=ae.out;omega) (by have:=ae.out;omega) Aik;intro v' w6 af ah _ b9;have HE:=hide (Abc q.out U.out O.out C.out al.out af ah);clear af ah b9));exact⟨⟨k ++ [Ji i],b,⟨by have:=A.out.2.1;simp;omega,T.out,p.out⟩,HE.out⟩,by rw[HE.out.2.1.left_eq];exact A.out.1⟩);·(have f:O0 a (Pz (i,l))=zt:=by simp[O0,Pz,V]);(have p:Hid ((k++b.filterMap (O0 a)).Perm ((r.map Pz).filterMap (O0 a))):=by have:=X.out;rwa[xi f]at this);(have b8:((Da i).toList == a.toList)=vy:=by rw[Fv];refine decide_eq_false λg=>V ?_;rw[g,Lib.toList_data]);clear f;go_wp2_with (go_at_call 177;apply(P.out _).mono;rintro g L⟨rfl,rfl⟩);exact Li0
def Rw(v xv:Int):Bool:=v == -1||v==xv
def Rs(w)(i s u:iF)(T N V v):j prog 183 #[mn #[zx i,zx s,zx u,P T,P N,P V],P v] w λe B=>e=ia (o0 (Rw v V))/\iT w B:=by by_cases h:v = -1;(·subst h;go_enter func183,ntmps183;go_wp2;go_ret;exact⟨S,Bg _ _⟩);go_enter func183,ntmps183;go_wp2;go_ret;exact⟨S,Bg _ _⟩
def Y1(w e kind)(i d n:iF)(v)(f s u:iF)(c N V a)(Q:a=0∨a=10)(y:¬(40:Int)<(d.size:Int))(r:Hid (∀W,iT w W->yf prog 160 #[HZ e,zx i] W λb B=>b=ia (gq #[mn #[zx f,zx s,zx u,iS c,iS N,iS V],iS a])/\iT W B)):yf prog 147 #[HZ e,Mo kind i d n v] w λb B=>b=ia (iS (if a=0 then(if Rw v V then 0 else 14) else 10))/\iT w B:=by
 have R:Hid (∀W,yf prog 183 #[mn #[zx f,zx s,zx u,iS c,iS N,iS V],iS v] W λb B=>b=ia (o0 (Rw v V))/\iT W B):=λW=>Rs W f s u c N V v;have X:=hide (iy w (pf #[iS kind,zx i,zx d,zx n,iS v] 149));cases Y:Rw v V;all_goals rw[Y]at R
 all_goals obtain rfl|rfl:=Q
 all_goals (go_enter func147,ntmps147;go_wp2_with (first|(go_at_call 160;apply(r _ (Bg _ _)).mono;rintro b H⟨rfl,M⟩;have O:=hide ((Bg _ _).trans (M.mono Ae));have Z:=hide ((M.5 _ (ltOf X)).trans X);obtain⟨E,I⟩:∃E,H.alloc (pf #[zx f,zx s,zx u,iS c,iS N,iS V] 84)=E:=⟨_,S⟩;have h:Hid (E.1[iZ w.1]?=je (pf #[iS kind,zx i,zx d,zx n,iS v] 149)):=Ap;have J:Hid (E.1[iZ H.1]?=je (pf #[zx f,zx s,zx u,iS c,iS N,iS V] 84)):=O1;have C:Hid (iT w E):=Aq;have ⟨_,_,g,_,j⟩:=Un h S;have ⟨x,P,m,q,l,o⟩:=Lj J S;clear M)|(go_at_call 183;apply(R _).mono;rintro b L⟨rfl,F⟩;have k:=hide (C.trans (F.mono C.4));clear F)))
 all_goals go_ret
 all_goals first|exact⟨S,k⟩|exact⟨S,C⟩
section
attribute [local go_sem ↓] Go.wp_at_zero Go.wp_at_succ
def CB(w tb kind)(p j n:iF)(v)(f s u:iF)(k N V)(hd:¬(40:Int)<(j.size:Int))(hn:¬(10:Int)<(n.size:Int))(x)(Q:w.cell? (iR tb 1)=je (.map (je x)))(D:tb<iZ w.1)(K:iF)(i d t:iF)(T z e ok)(o:Nat)(r:Hid (∀W,iT w W->yf prog 160 #[HZ tb,zx p] W λb B=>b=ia (gq #[mn #[zx f,zx s,zx u,iS k,iS N,iS V],iS 10])/\iT W B))(U:Hid (∀W,yf prog 177 #[zx p] W λb B=>b=ia (zx K)/\B=W))(L:Hid (∀W,iT w W->(qy 103 (.map (je x)) (zx K) jz).run prog W=.ok (gq #[mn #[zx i,zx d,zx t,iS T,iS z,iS e],o0 ok]) W/\(Builtin.len_ #[103] 3 #[.map (je x)]).run prog W=.ok (iS o) W)):yf prog 145 #[HZ tb,Mo kind p j n v] w λb B=>b=ia (iS (if ok then(if o<32 then 0 else 12) else 10))/\iT w B:=by
 have l:(∃Y:Int,Y=(if ok then(if o<32 then 0 else 12) else 10)):=⟨_,iW⟩;obtain⟨cd,l⟩:=l;rw[←l];have a1:=hide l;clear l;have aq:((32:Int)<=(o:Int))∨¬((32:Int)<=(o:Int)):=Classical.em _;have X:=hide (iy w (pf #[iS kind,zx p,zx j,zx n,iS v] 149));go_enter func145,ntmps145;go_wp2_with (go_at_call 160;refine(r _ (Bg _ _)).mono ?_;rintro b H⟨rfl,M⟩;have O:=hide ((Bg _ _).trans (M.mono Ae));have Z:=hide ((M.5 _ (ltOf X)).trans X);obtain⟨E,I⟩:∃E,H.alloc (pf #[zx f,zx s,zx u,iS k,iS N,iS V] 84)=E:=⟨_,iW⟩;have h:Hid (E.1[iZ w.1]?=je (pf #[iS kind,zx p,zx j,zx n,iS v] 149)):=Ap;have J:Hid (E.1[iZ H.1]?=je (pf #[zx f,zx s,zx u,iS k,iS N,iS V] 84)):=O1;have C:Hid (iT w E):=Aq;have ⟨_,y,A,F,G⟩:=Un h iW;have P:=(C.cell (p:=(iR tb 1)) D).trans Q;have l0:=(L E C).1;have l1:=(L E.drew C.drew).1;have l2:=(L E.drew.drew C.drew.drew).1;have l3:=(L E.drew.drew.drew C.drew.drew.drew).1;obtain⟨c,q⟩:∃c,E.alloc (pf #[zx iU,zx iU,zx iU,iS 0,iS 0,iS 0] 84)=c:=⟨_,iW⟩;have R:Hid (c.1[iZ E.1]?=je (pf #[zx iU,zx iU,zx iU,iS 0,iS 0,iS 0] 84)):=(q▸iy _ _);have m:Hid (iT w c):=(q▸C.alloc C.4 _);have a6:Hid (c.1[iZ w.1]?=je (pf #[iS kind,zx p,zx j,zx n,iS v] 149)):=(q▸(np _ _ _ (ltOf h)).trans h);have a7:c.cell? (iR w.1.size 1)=je (zx p):=cellOf a6 iW;have t3:=(m.cell (p:=(iR tb 1)) D).trans Q;have ⟨a8,aa,ab,ad,ae,af⟩:=Lj R iW;have ⟨ah,ai,aj,ak,al,ao,_⟩:=It R;have z0:=(L c m).1;have z1:=(L c.drew m.drew).1;have z2:=(L c.drew.drew m.drew.drew).1;have z3:=(L c.drew.drew.drew m.drew.drew.drew).1;obtain⟨a,S⟩:∃a,((((((c.setCell (iQ E.1.size) (zx i)).setCell (iR E.1.size 1) (zx d)).setCell (iR E.1.size 2) (zx t)).setCell (iR E.1.size 3) (iS T)).setCell (iR E.1.size 4) (iS z)).setCell (iR E.1.size 5) (iS e))=a:=⟨_,iW⟩;have T4:Hid (Cb c a E.1.size _ 84):=(S▸(((((((Cb.refl R).set 0 (zx i)).set 1 (zx d)).set 2 (zx t)).set 3 (iS T)).set 4 (iS z)).set 5 (iS e)));have g:=hide (m.grown T4.2 m.4 (λar hj=>by cases hj;exact C.4));have t4:=(g.cell (p:=(iR tb 1)) D).trans Q;have y0:=(L a g).2;have y1:=(L a.drew g.drew).2;have y2:=(L a.drew.drew g.drew.drew).2;have y3:=(L a.drew.drew.drew g.drew.drew.drew).2;clear M);go_region_law (go_simp;refine(U _).mono ?_;rintro b B⟨rfl,rfl⟩);all_goals (clear l0 l1 l2 l3 z0 z1 z2 z3 a8 aa ab ad ae af ah ai aj ak al ao a7 t3 y A F G P I q S;go_wp2)
 all_goals go_ret
 all_goals (have l:=a1;first|(refine⟨?_,by first|exact g|exact g.drew|exact g.drew.drew|exact g.drew.drew.drew⟩;rw[l];simp_all;(first|done|omega))|(refine⟨?_,by first|exact g|exact g.drew|exact g.drew.drew|exact g.drew.drew.drew⟩;rw[l];congr 2;repeat' split<;>first|rfl|omega|simp_all|(exfalso;omega)))
end
def Q4(w G kind)(i d n:iF)(v)(f s u:iF)(c N V e)(Q:e=0∨e=10)(B:i≠⟨#[47]⟩)(j)(p:Hid (∀W,iT w W->yf prog 164 #[HZ G,zx i] W λb a=>(∃g m,b=ia (xh g j m))/\iT W a))(r:Hid (∀W,iT w W->yf prog 160 #[HZ G,zx i] W λb a=>b=ia (gq #[mn #[zx f,zx s,zx u,iS c,iS N,iS V],iS e])/\iT W a)):yf prog 146 #[HZ G,Mo kind i d n v] w λb a=>b=ia (iS (if e=0 then(if Rw v V then(if j=0 then 0 else 15) else 14) else 10))/\iT w a:=by
 have R:Hid (∀W,yf prog 183 #[mn #[zx f,zx s,zx u,iS c,iS N,iS V],iS v] W λb a=>b=ia (o0 (Rw v V))/\iT W a):=λW=>Rs W f s u c N V v;have ai:(i.toList==[47])=vy:=by rw[Fv];exact decide_eq_false B
 have X:=hide (iy w (pf #[iS kind,zx i,zx d,zx n,iS v] 149));obtain⟨y,t⟩:∃y,decide ((0:Int)<(j:Int))=y:=⟨_,iW⟩;have z:(j=0)=(y=vy):=by rw[←t];simp
 simp only[z];cases A:Rw v V;all_goals rw[A]at R
 all_goals rcases Q with rfl|rfl
 all_goals cases y
 all_goals simp only[decide_eq_true_eq,decide_eq_false_iff_not]at t
 all_goals (go_enter func146,ntmps146;go_wp2_with (first|(go_at_call 160;apply(r _ (Bg _ _)).mono;rintro b H⟨rfl,M⟩;have O:=hide ((Bg _ _).trans (M.mono Ae));have Z:=hide ((M.5 _ (ltOf X)).trans X);obtain⟨E,I⟩:∃E,H.alloc (pf #[zx f,zx s,zx u,iS c,iS N,iS V] 84)=E:=⟨_,iW⟩;have h:Hid (E.1[iZ w.1]?=je (pf #[iS kind,zx i,zx d,zx n,iS v] 149)):=Ap;have J:Hid (E.1[iZ H.1]?=je (pf #[zx f,zx s,zx u,iS c,iS N,iS V] 84)):=O1;have C:Hid (iT w E):=Aq;have ⟨_,x,_,_,K⟩:=Un h iW;have ⟨P,S,b2,T,b4,o⟩:=Lj J iW;clear M)|(go_at_call 183;apply(R _).mono;rintro b L⟨rfl,F⟩;have k:=hide (C.trans (F.mono C.4));have Y:=hide ((F.5 _ (ltOf h)).trans h);have D:L.cell? (iR w.1.size 1)=je (zx i):=cellOf Y iW;clear F)|(go_at_call 164;apply(p _ k).mono;rintro b U⟨⟨g,m,rfl⟩,l⟩;have q:=hide (k.trans (l.mono k.4));clear l)))
 all_goals go_ret
 all_goals first|exact⟨iW,q⟩|exact⟨iW,k⟩|exact⟨iW,C⟩
end Go.Proofs.Y
namespace Go.Proofs.Y
variable {A C r:List (N×Nd)}{x:Nd}
open Go.RowKit Go.Maps
def Ed(ns:List (N×Nd))(p:N):Option Nd:=(ns.find? λq=>decide (q.1=p)).map ko
def Gt{p}(h:Ed r p=je x):(p,x)∈r:=by obtain⟨⟨a,b⟩,C,rfl⟩:=bA.1 h;grind
def Ix{p}(z:Ed r p=zt):∀q∈r,q.1≠p:=by rw[Ed,Option.map_eq_none_iff,List.find?_eq_none]at z;grind
def Vr(ns:List (N×Nd))(p:N):Int:=
 match Ed ns p with
 |some _=>9
 |none=>if(Ed ns (Da p)).isSome then(if iY ns<32 then 0 else 12) else 10
def Z8(ns:List (N×Nd))(p:N)(v:Int):Int:=
 match Ed ns p with
 |some x=>if Rw v x.version then 0 else 14
 |none=>10
def Um(ns:List (N×Nd))(p:N)(v:Int):Int:=
 if p=⟨#[47]⟩ then 13 else
 match Ed ns p with
 |some x=>if Rw v x.version then(if(kids p ns).length=0 then 0 else 15) else 14
 |none=>10
section
variable {h:Y} {tb f:Nat} {num:Int} (a:Bw h tb f num r) (m:Int) (L:h.cell? ⟨1,0,zt⟩=je (iS m)) (q:1<iZ h.1) (p d n:N) (v:Int) (Q:p.size<=1000) (b:Em p=jz) (y:d.size<=40) (z:n.size<=10)
include a L q Q b y z
def Aaj:j prog 89 #[HZ tb,Mo 3 p d n v] h λe B=>e=ia (P (Z8 r p v))/\iT h B:=by
 have f:=CC h tb p d n v (λc=>c=Z8 r p v) 3 147 (qx (qx ⟨S,S⟩)) (λW k=>?_)
 ·grind
 cases Z:Ed r p with
 |some x=>
  apply(Y1 W tb 3 p d n v x.path x.data x.note x.made x.changed x.version 0 (zk S) Aa Alm).mono;rintro e B⟨rfl,D⟩;exact⟨⟨_,S,by simp[Z8,Z]⟩,D⟩
 |none=>
  apply(Y1 W tb 3 p d n v _ _ _ _ _ _ 10 (qx S) Aa Alo).mono;rintro e B⟨rfl,D⟩;exact⟨⟨_,S,by simp[Z8,Z]⟩,D⟩
def Aah(j:D5 p=jz):yf prog 89 #[HZ tb,Mo 1 p d n v] h λe B=>e=ia (P (Vr r p))/\iT h B:=by
 have s:=CC h tb p d n v (λg=>g=Vr r p) 1 145 (zk ⟨S,S⟩) (λW k=>?_)
 ·grind
 have V:=a.below k (ltOf a.blk) a.map.lt;cases Z:Ed r p with
 |some x=>
  apply(Vq W tb 1 p d n v x.path x.data x.note x.made x.changed x.version Aa Aa f (cellOf V.blk S) (ltOf V.blk) Alm).mono;rintro e B⟨rfl,D⟩;exact⟨⟨9,S,by simp[Vr,Z]⟩,D⟩
 |none=>
  have C:(Da p).size<=1000:=by
   unfold Da;split
   ·decide
   ·rw[cK];omega
  obtain⟨l,K⟩:=Afp C;obtain⟨c,U⟩:∃(c:Nd),∀J,iT W J->(qy 103 (.map (je f)) (zx (Da p)) jz).run prog J=.ok (gq #[c.val,o0 (Ed r (Da p)).isSome]) J:=by
   cases U:Ed r (Da p) with
   |some c=>exact⟨c,λJ E=>(V.map.of_block (E.block _ V.map.lt)).look_some jz AA underlying103 K (aZ.2 ⟨_,Gt U,S⟩)⟩
   |none=>
    refine⟨Nd.zero,λJ E=>(V.map.of_block (E.block _ V.map.lt)).look_none jz AA underlying103 (Aim J) K (λt i=>?_)⟩;obtain⟨o,N,rfl⟩:=aZ.1 i;intro e;injection e with e;exact Ix U o N e
  refine(CB W tb 1 p d n v _ _ _ _ _ _ Aa Aa f (cellOf V.blk S) (ltOf V.blk) (Da p) c.path c.data c.note c.made c.changed c.version (Ed r (Da p)).isSome (iY r) Alo (λJ=>Qg J p Aa j) (λJ E=>⟨U J E,?_⟩)).mono ?_
  ·have:=(V.map.of_block (E.block _ V.map.lt)).len underlying103 3
   grind
  ·rintro e B⟨rfl,D⟩;exact⟨⟨_,S,by simp[Vr,Z]⟩,D⟩
def Aai(U:r.length<=1000)(i:∀g∈r,g.1.size<=1000/\D5 g.1=jz):yf prog 89 #[HZ tb,Mo 2 p d n v] h λe B=>e=ia (iS (Um r p v))/\iT h B:=by
 have l:=CC h tb p d n v (λc=>c=Um r p v) 2 146 (qx (zk ⟨iW,iW⟩)) (λW k=>?_)
 ·grind
 by_cases Y:p=⟨#[47]⟩
 ·subst Y;apply(Xu W tb 2 d n v).mono;rintro e B⟨rfl,D⟩;exact⟨⟨13,iW,by simp[Um]⟩,D⟩
 ·have V:=a.below k (ltOf a.blk) a.map.lt;have C:∀J,iT W J->yf prog 164 #[HZ tb,zx p] J λe B=>(∃j c,e=ia (xh j (kids p r).length c))/\iT J B:=λJ E=>by
   apply(Q5 J tb f num r (V.below E (ltOf V.blk) V.map.lt) p U i).mono;rintro e B⟨⟨x,rfl,O⟩,D⟩;refine⟨?_,D⟩;rcases O.2 with⟨rfl,F⟩|⟨o,I,H,rfl,_⟩
   ·grind
   ·exact⟨_,_,iW⟩
  cases Z:Ed r p with
  | some x=>
   apply(Q4 W tb 2 p d n v x.path x.data x.note x.made x.changed x.version 0 (zk iW) Y (kids p r).length C Alm).mono;rintro e B⟨rfl,D⟩;exact⟨⟨_,iW,by simp[Um,Z,Y]⟩,D⟩
  | none=>
   apply(Q4 W tb 2 p d n v _ _ _ _ _ _ 10 (qx iW) Y (kids p r).length C Alo).mono;rintro e B⟨rfl,D⟩;exact⟨⟨_,iW,by simp[Um,Z,Y]⟩,D⟩
end
def GJ(L:iB):List p8:=L.flatMap λs=>[P 0,zx s,xh zt 0 0]
def SJ(L)(s:N):GJ (L++[s])=GJ L++[P 0,zx s,xh zt 0 0]:=by simp[GJ]
def WX(L):(L.map λs=>(Orch.txt s,xh zt 0 0)).flatMap Eu=GJ L:=by simp[GJ,List.flatMap_map];rfl
def Alf{w a d}{L:iB}(h:w.ownsRow a 180 3 d (iY L) (GJ L)):Ea w (λb=>b<iZ w.1) (L.map Orch.txt) d:=by obtain⟨F,⟨rfl,C⟩|⟨g,I,H,rfl,o,G,M,f,i,R⟩⟩:=h;have:=eC C;subst this;exact .nil zt 0;by_cases c:L = [];subst c;exact .nil _ _;have:=Ea.row (S:=λb=>b<iZ w.1) (L.map λs=>(Orch.txt s,xh zt 0 0)) g I (by simpa using c) (by simpa using M) (ltOf G) (λj u l=>by rw[WX]at l;have e:=(aF.1 l).1;rw[F]at e;(have S:(H.1.take (iY L * 3))[j]?=je u:=by rwa[R]);rw[dK e,cO]at S;exact cellOf G S) (λp Q=>by obtain⟨s,_,rfl⟩:=aZ.1 Q;exact .nil zt 0);simpa[cU,cY] using this
def Abl{w wr H b o}(S:wr.1[iZ w.1]?=je (pf #[P 0,zx M,b] 180))(f:∀R,b.ownBlock=je R->iZ w.1+1<=R)(D:iT w wr)(G:(wr.alloc o).grownBy H b.ownBlock):H.1[iZ w.1]?=je (pf #[P 0,zx M,b] 180)/\iT w H:=by have K:=ltOf S;refine⟨?_,(D.alloc D.4 _).grown G Ai (λj l=>by have:=f j l;omega)⟩;rwa[G.5 _ Ai (λe=>Aj),np _ _ _ K]
def Af1(w)(na:iM)(P)(L:iB)(hL:iY L<=1000)(E:∀j (S:j<iY L),∃c o,na=je (iR c o)/\c<iZ w.1/\w.cell? ⟨c,o+j,zt⟩=je (zx L[j])):yf prog 167 #[xh na (iY L) P] w λg t=>(∃h,g=ia h/\Ea t (λb=>b<iZ t.1) [.mk 0 iU (L.map Orch.txt)] h)/\iT w t:=by
 obtain⟨a,Z⟩:∃a,w.alloc (pf #[iS 0,zx iU,xh zt 0 0] 180)=a:=⟨_,iW⟩;have X:Hid (a.1[iZ w.1]?=je (pf #[iS 0,zx iU,xh zt 0 0] 180)):=Z▸iy _ _
 have O:Hid (iT w a):=Z▸Bg _ _
 have v:=hide E;clear E;obtain⟨T,Tz,V,W,Y⟩:=uu Tryz.info180;go_enter func167,ntmps167;go_wp2;go_loopw [5,8] (λ_ q wr=>∃j h,j<=iY L/\q=iS j/\Hid (wr.1[iZ w.1]?=je (pf #[iS 0,zx iU,h] 180)/\wr.ownsRow (iZ w.1+1) 180 3 h j (GJ (L.take j))/\iT w wr)) (λ_ q _=>iY L - (intOf q).toNat);case atStart=>exact⟨0,xh zt 0 0,bB _,iW,X,gu _ _ _ _,O⟩
 case round=>obtain⟨j,h,S,rfl,e⟩:=hrel;have ⟨b0,b1,b2⟩:=Kg e.1 iW;by_cases En:j=iY L;(·subst En;have z:=e.2.1;rw[List.take_length]at z;have H:=hide (Alf z);have a1:=hide (Qo wr [(.mk 0 iU (L.map Orch.txt),h)] (λb=>b<(wr.alloc (pf #[iS 0,zx iU,h] 180)).1.size) Ae #[iS 0,zx iU,h] G0 180 1 iW _ iW Ae (by intro p f;simp at f;subst f;exact H.congr (λb l=>Ai) (λb l=>np _ _ _ l)));go_wp2;go_ret;exact⟨⟨_,iW,a1⟩,e.2.2.alloc e.2.2.4 _⟩);obtain⟨c,o,N,a6,s⟩:=v j Aa;have e0:wr.cell? ⟨c,o+j,zt⟩=je (zx L[j]):=(e.2.2.cell (p:=⟨c,o+j,zt⟩) a6).trans s;have ah:(j:Int)<(iY L:Int):=Aa;(obtain⟨Q,r,a7⟩:∃Q r,h=xh Q j r:=by obtain⟨g,F⟩|⟨c,I,m,g,_⟩:=e.2.1.2;(·exact⟨zt,0,by rw[g,F]⟩);·exact⟨_,_,g⟩);subst N a7;(have A:L.take (j+1)=L.take j++[L[j]]:=by rw[bQ]);(have a8:Hid (∀R,(xh Q j r).ownBlock=je R->iZ w.1+1<=R):=λR d=>by obtain⟨g,F⟩|⟨c,I,m,g,y,_⟩:=e.2.1.2;(·rw[g]at d;simp[vi]at d);·rw[g]at d;simp[vi]at d;omega);have b9:=hide A;obtain⟨u,C⟩:∃u,L[j]=u:=⟨_,iW⟩;rw[C]at e0 b9;have f2:=Fk1 (w:=wr) 2 e.1;clear s A C;have ai:=ltOf e.1;go_wp2_with (at_builtin;refine wpList_append_own_at _ iW _ _ 174 iW (iZ w.1+1) 180 T _ 3 48 underlying174 Tz V W Y iW Ad (.slice Q j r) j (GJ (L.take j)) iW (e.2.1.alloc _) (iQ wr.1.size) 1 1 [iS 0,zx u,xh zt 0 0] iW iW ?c1 ?c2 ?c3 ?c4 ?c5 ?_);(case c1=>exact qp (iy wr _));(case c2=>intro aj K;simp at K;obtain rfl|rfl|rfl:=K<;>rfl);(case c3=>rw[maxLen];omega);(case c4=>omega);(case c5=>simp;omega);intro U n J D _ aa;have HE:=hide (Abl e.1 a8 e.2.2 D);(have M:Hid (n.ownsRow (iZ w.1+1) 180 3 U (j+1) (GJ (L.take (j+1)))):=by rwa[b9,SJ]);have c6:=Kj (w:=n) 2 HE.1;have f6:=Fk1 (w:=n) 2 HE.1;(obtain⟨i,x,G,ab⟩:∃i x G,U=xh i x G:=by obtain⟨g,F⟩|⟨c,I,m,g,_⟩:=J.2;(·exact⟨_,_,_,g⟩);·exact⟨_,_,_,g⟩);subst ab;obtain⟨k,ad⟩:∃k,n.setCell (iR w.1.size 2) (xh i x G)=k:=⟨_,iW⟩;(have B:Cb n k w.1.size #[iS 0,zx iU,xh i x G] 180:=by rw[←ad];have:=(Cb.refl HE.1).set 2 (xh i x G);simpa using this);(have ae:Hid (k.1[iZ w.1]?=je (pf #[iS 0,zx iU,xh i x G] 180)/\k.ownsRow (iZ w.1+1) 180 3 (xh i x G) (j+1) (GJ (L.take (j+1)))/\iT w k):=by refine⟨B.1,?_,HE.2.grown B.2 (by have:=ltOf HE.1;omega) (λq hi=>by cases hi;exact aA _)⟩;refine⟨M.1,?_⟩;obtain⟨g,F⟩|⟨R,I,m,g,y,d,af⟩:=M.2;(·exact zk ⟨g,F⟩);·exact qx ⟨R,I,m,g,y,(B.2.5 R (ltOf d) (λe1=>by injection e1;omega)).trans d,af⟩);clear J D aa B;go_wp2;go_roundw;(case rel=>exact⟨j+1,xh i x G,Aa,by go_num,ae⟩);case measure=>first|(simp[intOf];done)|(simp[intOf];omega)
def UN(w):j prog 193 #[P 1] w λe B=>e=ia (o0 vy)/\B=w:=by go_enter func193,ntmps193;go_wp2;go_ret;exact⟨S,S⟩
def Acx(E)(e s u:N)(T z V k):j prog 166 #[mn #[zx e,zx s,zx u,P T,P z,P V],P k] E λd B=>(∃lv,d=ia lv/\Ea B (λb=>iZ E.1<=b/\b<iZ B.1) [.mk 0 M [Orch.num T,Orch.num z,Orch.num V,Orch.num k]] lv)/\iT E B:=by
 obtain⟨a,Z⟩:∃a,E.alloc (pf #[zx e,zx s,zx u,P T,P z,P V] 84)=a:=⟨_,iW⟩;have X:Hid (a.1[iZ E.1]?=je (pf #[zx e,zx s,zx u,P T,P z,P V] 84)):=Z▸iy _ _
 have O:Hid (iT E a):=Z▸Bg _ _
 have ⟨_,_,_,S,n,Y⟩:=Lj X iW;obtain⟨K,I⟩:∃K,a.alloc (pf #[P T,zx M,xh zt 0 0,P z,zx M,xh zt 0 0,P V,zx M,xh zt 0 0,P k,zx M,xh zt 0 0] 180)=K:=⟨_,iW⟩;have H:Hid (Ea K (λb=>iZ E.1<=b/\b<iZ K.1) [Orch.num T,Orch.num z,Orch.num V,Orch.num k] (xh (je (iQ a.1.size)) 4 4)):=I▸Qo a [(Orch.num T,xh zt 0 0),(Orch.num z,xh zt 0 0),(Orch.num V,xh zt 0 0),(Orch.num k,xh zt 0 0)] _ Ae _ G0 180 4 iW _ iW V5 (by intro p f;simp at f;rcases f with rfl|rfl|rfl|rfl<;>exact .nil zt 0)
 have C:Hid (iT E K):=Aq;have c:=hide (Qo K [(.mk 0 M [Orch.num T,Orch.num z,Orch.num V,Orch.num k],xh (je (iQ a.1.size)) 4 4)] (λb=>iZ E.1<=b/\b<(K.alloc (pf #[P 0,zx M,xh (je (iQ a.1.size)) 4 4] 180)).1.size) Ae #[P 0,zx M,xh (je (iQ a.1.size)) 4 4] G0 180 1 iW _ iW Aik (by intro p f;simp at f;subst f;exact H.congr (λb D=>Ai) (λb D=>np _ _ _ D.2)));exact I9u
def Ao6{w S x b}(h:Ea w S [x] b):∃g I p,b=xh (je (iQ g)) 1 I/\S g/\w.cell? (iQ g)=je (P x.n)/\w.cell? (iR g 1)=je (zx x.s)/\w.cell? (iR g 2)=je p/\Ea w S x.l p:=by generalize K:[x]=l at h;cases h with|nil a c=>cases K|row d g I F C H M Y=>match d,K with|[q],K=>(obtain rfl:x=q.1:=by simpa using K);exact⟨g,I,q.2,iW,H,(M 0 _ iW),(M 1 _ iW),(M 2 _ iW),Y q Ae⟩
def TW(w)(e s u:iF)(T z V k):yf prog 165 #[iS 1,mn #[zx e,zx s,zx u,iS T,iS z,iS V],iS k] w λb B=>(∃lv,b=ia lv/\Ea B (λc=>c<iZ B.1) [Orch.txt s,.mk 0 iU [Orch.num T,Orch.num z,Orch.num V,Orch.num k]] lv)/\iT w B:=by
 obtain⟨a,Z⟩:∃a,w.alloc (pf #[zx e,zx s,zx u,iS T,iS z,iS V] 84)=a:=⟨_,iW⟩;have X:Hid (a.1[iZ w.1]?=je (pf #[zx e,zx s,zx u,iS T,iS z,iS V] 84)):=Z▸iy _ _
 have O:Hid (iT w a):=Z▸Bg _ _
 have v:=Kj (w:=a) 1 X;obtain⟨K,f⟩:∃K,a.alloc (pf #[iS 0,zx s,xh zt 0 0] 180)=K:=⟨_,iW⟩;have o:Hid (K.1[iZ w.1]?=je (pf #[zx e,zx s,zx u,iS T,iS z,iS V] 84)):=f▸(np _ _ _ (ltOf X)).trans X
 have A:Hid (K.1[iZ a.1]?=je (pf #[iS 0,zx s,xh zt 0 0] 180)):=f▸iy _ _
 have C:Hid (iT w K):=f▸O.alloc O.4 _
 have a6:iZ w.1<iZ a.1:=ltOf X;have Y:iZ a.1<iZ K.1:=ltOf A;have ⟨b0,b1,b2,b3,b4,b5⟩:=Lj o iW;have HS:=hide (Acx K e s u T z V k);obtain⟨x,y,E,W,H⟩:=uu Tryz.info180;go_enter func165,ntmps165;go_wp2_with (first|(go_at_call 193;apply((hide UN) _).mono;rintro b w5⟨rfl,rfl⟩)|(go_at_call 166;apply HS.mono;rintro b L⟨⟨lv,rfl,q⟩,F⟩;obtain⟨M,N,p,rfl,ab,c0,c1,c2,I⟩:=Ao6 q;have h:=hide I;have t:=hide F;have P:=hide ((F.5 _ Y).trans A);have ag:Hid (L.ownsRow w.1.size 180 3 (xh (je (iQ a.1.size)) 1 1) 1 [iS 0,zx s,xh zt 0 0]):=⟨iW,qx ⟨iZ a.1,1,_,iW,eI a6,P,aA _,Ad,iW,iW⟩⟩;clear q I F)|(at_builtin;refine wpList_append_own_at _ iW _ _ 174 iW w.1.size 180 x _ 3 48 underlying174 y E W H iW Ad (.slice (je (iQ a.1.size)) 1 1) 1 [iS 0,zx s,xh zt 0 0] iW ag (iQ M) 1 N [iS 0,zx iU,p] iW iW ?c1 ?c2 ?c3 ?c4 ?c5 ?_));case c1=>intro j d l;match j,l with|0,l=>simp at l;subst l;exact c0|1,l=>simp at l;subst l;exact c1|2,l=>simp at l;subst l;exact c2
 case c2=>intro d r;simp at r;obtain rfl|rfl|rfl:=r;rfl;rfl;obtain⟨ma,mc,Q⟩:=h.shape;rw[Q];rfl
 case c3=>rw[maxLen];omega
 case c4=>omega
 case c5=>exact aD C.4 t.4
 intro U n J D _ R;have ad:=t.4;have ae:iZ a.1<iZ L.1:=Aa;have i:Hid (Ea n (λc=>c<iZ n.1) [Orch.txt s,.mk 0 iU [Orch.num T,Orch.num z,Orch.num V,Orch.num k]] U/\iT w n):=by refine⟨?_,((C.trans (t.mono C.4)).grown D (by have:=C.4;omega) (λj l=>by simp[vi]at l;omega))⟩;obtain⟨h0,⟨b,S⟩|⟨a7,a8,aa,b,af,G,hc,hm,hs,ai⟩⟩:=J;cases S;subst b;exact Ea.row (w:=n) (S:=λc=>c<iZ n.1) [(Orch.txt s,xh zt 0 0),(.mk 0 iU [Orch.num T,Orch.num z,Orch.num V,Orch.num k],p)] a7 a8 Ae (by simpa using hc) (ltOf G) (λj d l=>by (have ah:j<6:=by simpa[Eu] using(aF.1 l).1);(have a1:(aa.1.take (2 * 3))[j]?=je d:=by rwa[ai]);rw[dK Aa,cO]at a1;exact cellOf G a1) (λaj m=>by simp at m;obtain rfl|rfl:=m;exact .nil zt 0;exact(h.congr (λc g=>aB g.2 D.4) (λc g=>D.5 c g.2 (λb=>by simp[vi]at b;omega))))
 clear J D R;go_wp2;go_ret;exact⟨⟨_,iW,i.1⟩,i.2⟩
def Ih(L:List Nd):Prop:=L.Pairwise λx y=>¬FM y x<0
def U5(L):(Ek L).length=iY L * 6:=by induction L with|nil=>rfl|cons x L O=>have e:Ek (x::L)=x.cs.1++Ek L:=S;rw[e,aH,O,aW];simp;omega
def Aht(w b v L)(K:iY L<=1000)(O:w.ownsRow b 84 6 v (iY L) (Ek L))(r)(D:jg b r w):yf prog 47 #[v,.func (.func 48) #[] #[]] w λe B=>e=ia (gq #[])/\jg b r B/\∃p,p.Perm L/\Ih p/\B.ownsRow b 84 6 v (iY p) (Ek p):=by
 obtain⟨rfl,F⟩|⟨g,I,H,rfl,o,G,S,t,f,R⟩:=O.2;apply(AnyF.slices_SortFunc_none Tryz.lays6 zt 0 _ w).mono;rintro e B⟨rfl,rfl⟩;have c:L = []:=eC F;subst c;exact⟨iW,D,[],hZ _,List.Pairwise.nil,O⟩;have N:Go.Sort.HoldsK (λx:Nd=>x.cs.1) 6 w g 0 L.toArray:=λj l=>by (have h:j<iY L * 6:=by simpa using l);rw[aY];refine⟨?_,Ej G⟩;(have C:(H.1.take (iY L * 6))[j]?=(Ek L)[j]?:=by rw[R]);rw[eM,aL h,Qd L j h]at C;rw[zy _ _ _ _ HM];exact cellOf G (by simpa using C)
 have:=AnyQ.slices_SortFunc Tryz.lays6 6 isAgg84 sizeOf84 (λx:Nd=>x.cs.1) (λx=>rfl) (λx v q=>by simp at q;obtain rfl|rfl|rfl|rfl|rfl|rfl:=q<;>rfl) FM Ah4 48 #[] g 0 I L.toArray w (enters_of func48 Z iW) (λu i T s x y=>(ME _ x y).mono λe B⟨C,J⟩=>⟨C,0,#[pf x.cs 84,pf y.cs 84],by rw[J];rfl⟩) N (ltOf G) Ai;apply this.mono;rintro e B⟨rfl,M,n,i,Q,s,rfl⟩;have d:M.size=iY L:=by simpa using Q.1
 have U:M.1.Perm L:=by have:=Q.2.2;simp at this;rwa[bE (by simp[d])]at this
 refine⟨iW,⟨D.1,D.2,D.3,?_,λk E=>?_⟩,M.1,U,?_,?_⟩;have:=D.4;simp[sortWorldK,Go.Sort.putRowK,Go.Sort.grow,Go.Sort.putRow,sj,Go.Sort.ahead];omega;rw[←D.5 k E];show((w.1.modify g _)++i)[k]?=_;rw[dN X7,bW,aO Aa];refine eT.2 λm j V l W=>?_;have:=s m j (bB _) W (by simpa[d] using l);rw[getElem!_pos M m Adf,getElem!_pos M j (by simpa using l)]at this;simpa[_root_.Go.Proofs.ltOf] using this;have a:iY M.1=iY L:=by simpa using d
 refine⟨by rw[U5],qx ⟨g,I,pz id 0 (Go.Sort.flatK (λx:Nd=>x.cs.1) 6 M) H,by rw[a],o,?_,by rwa[a],t,?_,?_⟩⟩;show((w.1.modify g _)++i)[g]?=_;exact A5v;simp[pz,f];refine cE λj=>?_;rw[a,eM];by_cases l:j<iY L * 6;have Y:j<H.size:=by (have C:(H.1.take (iY L * 6)).length=iY L * 6:=by rw[R,(U5 L)]);rw[dI]at C;simp at C;omega
 rw[aL l,Qd _ j (by rwa[a])];simp only[pz,cO,pzo,aN Y,aI,aY,bB,true_and,Go.Sort.size_flatK,d,l,bV,Nat.sub_zero,id];rw[zy _ _ _ _ (by rwa[d])];rw[aO l];symm;rw[fU,U5,a];omega
def Af4(q:p8×p8):Option Nd:=
 match q.2 with
 | mn a=>match a.toList with
  | [zx p,zx d,zx n,wy yh m,wy yh c,wy yh v]=>je ⟨p,d,n,m,c,v⟩
  | _=>zt
 | _=>zt
def PZ(c D):Af4 (Pz (c,D))=je D:=S
def Af5(r:List (N×Nd)):(r.map Pz).filterMap Af4=r.map ko:=by induction r with|nil=>rfl|cons q r O=>rw[bF,gA (PZ q.1 q.2),O];rfl
def VC{w h J r}{K:p8}{L x m o I}(f:∀a,K.ownBlock=je a->a≠r/\iZ w.1<=a)(b:Mz h t r m R)(D:iT w h)(z:t<iZ w.1)(d:J.ownsRow w.1.size 84 6 U (iY L+1) (Ek L++x.cs.toList))(G:((h.alloc I).alloc o).grownBy J K.ownBlock):Hid (J.ownsRow w.1.size 84 6 U (L++[x]).length (Ek (L++[x]))/\Mz J t r m R/\iT w J):=by have s:=D.4;(have Q:r<iZ h.1:=by have ⟨X,i,n,c,c0,_,_,_,V,_⟩:=b.1;grind);refine⟨by simpa[Ek] using d,b.keep ?_ ?_,((D.alloc s _).alloc Ai _).grown G Ai (λj l=>(f j l).2)⟩;rw[G.5 t Ai (λe=>Aj),np _ _ _ Ai,np _ _ _ Aa];rw[G.5 r Ai (λe=>(f _ e.symm).1 S),np _ _ _ Ai,np _ _ _ Q]
def Af6(w tb t num r)(k:Bw w tb t num r)(bf:iY r<=1000):yf prog 39 #[HZ tb] w λg v=>(∃ab L,g=ia ab/\L.Perm (r.map ko)/\Ih L/\v.ownsRow w.1.size 84 6 ab (iY L) (Ek L))/\iT w v:=by
 have c1:=Kj (w:=w) 1 k.1;obtain⟨i0,Tz,ad,ae,af⟩:=uu Tryz.info84;have j:=k.2.len (t:=103) underlying103 3;rw[bR]at j;have ah:=run_make (P:=prog) w 39 84 i0 _ Tryz.underlying39 Tz ad .i64 .i64 (0:Int) (iY r:Int) Aa Aa (by rw[af];omega) Aa;simp[Int.toNat_zero,eR,ae]at ah;obtain⟨P,G⟩:∃P,w.alloc (pf (madeCells Nd.zero.val.cells (iY r * 6)) 84)=P:=⟨_,iW⟩;rw[G]at ah;have O:Hid (iT w P):=G▸Bg _ _
 have ao:Hid (P.ownsRow w.1.size 84 6 (xh (je (iQ w.1.size)) 0 (iY r)) 0 []):=G▸⟨iW,qx ⟨iZ w.1,iY r,_,iW,aA _,iy w _,bB _,Am,by simp[madeCells,Value.cells],Ae⟩⟩
 have ai:iZ w.1<iZ P.1:=by rw[←G];simp
 have d1:P.cell? (iR tb 1)=je (.map (je t)):=(O.cell (p:=(iR tb 1)) (ltOf k.1)).trans c1;obtain⟨aq,hr,hR⟩:=(k.2.of_block (O.5 t k.2.lt)).rangeL (t:=103) underlying103;obtain⟨K,f⟩:∃K,P.alloc aq=K:=⟨_,iW⟩;have C:Hid (iT w K):=f▸O.alloc O.4 _
 have a6:Hid (K.ownsRow w.1.size 84 6 (xh (je (iQ w.1.size)) 0 (iY r)) 0 []):=f▸ao.alloc _
 rw[f]at hr hR;have HR:=hide hR;have ar:=hide k.2.lt;have au:=hide (eI ai);clear hR G f ai;generalize P.1.size=W at *;go_enter func39,ntmps39;go_wp2;go_loopw [3,5] (λnm pp wr=>∃L R,Hid (iY L+iY R<=iY r/\(∀x∈R,x∈r.map Pz)/\(L++R.filterMap Af4).Perm (r.map ko))/\Hid (wr.ownsRow w.1.size 84 6 nm (iY L) (Ek L)/\Mz wr t W (r.map Pz) R/\iT w wr)) (λ_ _ wr=>wr.rangeLeft t W);case atStart=>exact⟨[],r.map Pz,⟨Ae,λx hx=>hx,by rw[bU,Af5]⟩,a6,HR,C⟩
 case round=>obtain⟨L,R,B,b⟩:=hrel;(obtain⟨M,n,N⟩:∃M n,u3=xh M (iY L) n:=by obtain⟨g,F⟩|⟨c,I,m,g,_⟩:=b.1.2;exact⟨zt,0,by rw[g,F]⟩;exact⟨_,_,g⟩);subst N;have av:=hide b.2.1.left_eq;rcases b.2.1.next (P:=prog) 0 with⟨F,aw⟩|⟨p,A,Q,E,aw,aj,ag,ax,bg⟩;(·(have ay:L.Perm (r.map ko):=by have:=B.2.2;rw[F]at this;simpa using this);have az:Hid (yf prog 47 #[xh M (iY L) n,.func (.func 48) #[] #[]] wr λg v=>g=ia (gq #[])/\iT w v/\∃h,h.Perm (r.map ko)/\Ih h/\v.ownsRow w.1.size 84 6 (xh M (iY L) n) (iY h) (Ek h)):=(Aht wr w.1.size (xh M (iY L) n) L (by have:=B.1;omega) b.1 w b.2.2).mono λg v⟨h1,h2,h,h3,h4,h5⟩=>⟨h1,h2,h,h3.trans ay,h4,h5⟩;go_wp2_with fail;apply az.mono;rintro g w3⟨rfl,a1⟩;have b8:=hide a1;clear a1;go_wp2;go_ret;obtain⟨a1,h,h3,h4,h5⟩:=b8;exact⟨⟨_,h,iW,h3,h4,h5⟩,a1⟩);·have H:p∈r.map Pz:=B.2.1 p (Q.subset (cG ..));obtain⟨⟨i,l⟩,Y,rfl⟩:=aZ.1 H;(have j:iY R=iY A+1:=by rw[←Q.length_eq];rfl);have b9:Hid (∀x∈A,x∈r.map Pz):=λx hx=>B.2.1 x (Q.subset (cJ _ hx));(have ak:(L++[l]++A.filterMap Af4).Perm (r.map ko):=by have:=((hZ L).append (Q.filterMap Af4)).trans B.2.2;rw[gA (PZ i l)]at this;simpa using this);have ba:=hide ak;clear ak;have C:=hide (b.2.2.grown ag b.2.2.4 (λbh hj=>by cases hj;exact au));have bb:=hide aj;have al:Hid (iY A<wr.rangeLeft t W/\iY L+1+iY A<=iY r):=⟨by rw[av];omega,by have:=B.1;omega⟩;(have aa:Hid (iY L+1<=1000):=by have:=B.1;exact(by omega:iY L+1<=1000));(have U:Hid (∀g',(xh M (iY L) n).ownBlock=je g'->g'≠W/\iZ w.1<=g'):=λg' d=>by obtain⟨g,F⟩|⟨c,I,m,g,o,y,_⟩:=b.1.2;(·rw[g]at d;simp[vi]at d);·rw[g]at d;simp[vi]at d;subst d;refine⟨λS=>?_,o⟩;obtain⟨es,b5,b6,b7,c0,_,_,_,a7,_⟩:=b.2.1.1;rw[S,a7]at y;cases y);(have q:Hid (E.ownsRow w.1.size 84 6 (xh M (iY L) n) (iY L) (Ek L)):=by refine⟨b.1.1,?_⟩;obtain⟨g,F⟩|⟨c,I,m,g,o,y,a8⟩:=b.1.2;(·exact zk ⟨g,F⟩);·have:=U c (by rw[g];simp[vi]);exact qx ⟨c,I,m,g,o,(ag.5 c (ltOf y) (λS=>this.1 (by injection S))).trans y,a8⟩);obtain⟨e,s,u,T,z,V⟩:=l;obtain⟨a,Z⟩:∃a,E.alloc (pf #[zx e,zx s,zx u,iS T,iS z,iS V] 84)=a:=⟨_,iW⟩;(have X:Hid (a.1[iZ E.1]?=je (pf #[zx e,zx s,zx u,iS T,iS z,iS V] 84)):=Z▸iy _ _);have ⟨b0,b1,b2,b3,b4,bj⟩:=Lj X iW;(have bc:Hid ((a.alloc (pf #[zx e,zx s,zx u,iS T,iS z,iS V] 84)).ownsRow w.1.size 84 6 (xh M (iY L) n) (iY L) (Ek L)):=Z▸(q.alloc _).alloc _);(have bk:iZ w.1<=iZ a.1:=by rw[←Z];have:=C.4;simp;omega);clear aj ag Q Y ax j H;go_wp2_with (at_builtin;refine wpList_append_own_at _ iW _ _ 39 iW w.1.size 84 i0 _ 6 72 Tryz.underlying39 Tz ad ae af ?g0 Ad (.slice M (iY L) n) (iY L) (Ek L) iW bc (iQ a.1.size) 1 1 [zx e,zx s,zx u,iS T,iS z,iS V] iW ?g1 ?g2 ?g3 ?g4 ?g5 ?g6 ?_);(case g3=>first|exact⟨iW,iW,iW,iW,iW,iW⟩|(simp[Value.oneCell'];done)|trace_state);(case g4=>have:=aa.out;rw[maxLen];omega);(case g5=>have:=aa.out;omega);(case g6=>have:=aa.out;omega);intro v' w6 J D _ bd;rw[←Z]at D;have HE:=hide (VC (x:=Nd.mk e s u T z V) U.out bb.out C.out ar.out J D);clear J D bd;go_wp2;all_goals exact⟨⟨L++[Nd.mk e s u T z V],A,⟨by have:=al.out.2;simp;omega,b9.out,ba.out⟩,HE⟩,HE.out.2.1.left_eq▸al.out.1⟩
def Gx(w:Y)(B:Nat)(v:p8)(L:List Nd):Prop:=
 ∃b cap,v=xh (je (iQ b)) (iY L) cap/\iY L<=cap/\b<B/\∀i (h:i<iY L) j u,(L[i].cs)[j]?=je u->w.cell? ⟨b,i * 6+j,zt⟩=je u
def Gx.below{B w a v L}(h:Gx w B v L)(D:jg B w a):Gx a B v L:=by have ⟨b,I,e,M,Y,z⟩:=h;exact⟨b,I,e,M,Y,λi V j u r=>(D.cell (p:=⟨b,i * 6+j,zt⟩) Y).trans (z i V j u r)⟩
def Gx.of{a w v L}(h:w.ownsRow a 84 6 v (iY L) (Ek L))(F:0<iY L):Gx w w.1.size v L:=by
 obtain⟨rfl,e⟩|⟨g,I,H,rfl,o,G,S,t,f,R⟩:=h.2;omega;refine⟨g,I,iW,S,ltOf G,λi V j u r=>?_⟩;have l:j<6:=(aJ.1 r).1;have E:i * 6+j<iY L * 6:=Aa;have C:(H.1.take (iY L * 6))[i * 6+j]?=(Ek L)[i * 6+j]?:=by rw[R]
 rw[eM,aL E,Qd L _ E]at C;have b:(i * 6+j) / 6=i:=Aa;have c:(i * 6+j) % 6=j:=Aa;rw[b,c]at C;have Y:L.toArray[i]! = L[i]:=by simp[V]
 rw[Y]at C;have s:L[i].cs.1[j]! = u:=by grind
 rw[s]at C;exact cellOf G (by simpa using C)
theorem MS(w:qi)(c d:p8)(S:List Nd)(i:Gx w w.heap.size c S)(D:Gx w w.heap.size d S)(z:S.length<=1000000) :
  yf prog 27 #[c,d] w fun e f=>e=ia (o0 jz)/\jg w.heap.size w f:=by have X:Hid (∀W,jg w.1.size w W->Gx W w.1.size c S):=fun W h=>i.below h;have r:Hid (∀W,jg w.1.size w W->Gx W w.1.size d S):=fun W h=>D.below h;obtain⟨j,I,rfl,C,y,_⟩:=i;obtain⟨o,L,rfl,q,p,_⟩:=D;go_enter func27,ntmps27;go_wp2_with fail;go_loopw [5] (fun a wr=>∃k:Nat,k<=S.length/\a=wy yh k/\Hid (jg w.1.size w wr)) (fun a _=>S.length - (intOf a).toNat);(case atStart=>exact⟨0,bB _,rfl,zi _ _⟩);case round=>obtain⟨k,a7,rfl,n⟩:=hrel;by_cases b:k<S.length;(·have N:(k:Int)<(S.length:Int):=Aa;obtain⟨P,H,m,_,_,g⟩:=X wr n;obtain⟨O,Q,v,_,_,M⟩:=r wr n;simp [Value.slice.injEq,aU,Addr.mk.injEq] at m v;obtain⟨⟨rfl,_,_⟩,_,rfl⟩:=m;obtain⟨⟨rfl,_,_⟩,_,rfl⟩:=v;have c0:=g k b 0 _ rfl;have R:=g k b 1 _ rfl;have T:=g k b 2 _ rfl;have a1:=g k b 3 _ rfl;have a6:=g k b 4 _ rfl;have l:=g k b 5 _ rfl;have A:=M k b 0 _ rfl;have Z:=M k b 1 _ rfl;have t:=M k b 2 _ rfl;have F:=M k b 3 _ rfl;have u:=M k b 4 _ rfl;have E:=M k b 5 _ rfl;rw [gY] at c0 A;clear g M;generalize S[k]=x at *;obtain⟨J,s,G,K,B,V⟩:=x;go_wp2_with fail;go_region;(all_goals go_wp2_with fail);(all_goals go_roundw);all_goals first|exact⟨k+1,Aa,by go_num,n.drew⟩|(simp [intOf];done)|(simp [intOf];omega));have N:¬(k:Int)<(S.length:Int):=Aa;go_wp2;go_ret;exact⟨rfl,n⟩
def MV{S p}(h:S.Perm p)(s:Ih S)(v:Ih p)(z:(S.map Nd.path).Nodup):S=p:=by
 refine fZ (le:=λx y=>¬FM y x<0) (λb d e D C J=>?_) s v h;have f:b.1.1.1=d.1.1.1:=by rw[FM,Su,List.not_lt]at C J;exact List.le_antisymm C J
 have g:b.1=d.1:=by have:b.1.1=d.1.1:=Array.ext' f;cases Q:b.1;simp_all
 obtain⟨k,V,rfl⟩:=bO.1 e;obtain⟨a,l,rfl⟩:=bO.1 (h.symm.subset D);have c:(S.map Nd.path)[k]?=je S[k].1:=Aj;have m:(S.map Nd.path)[a]?=je S[k].1:=Aj;have:k=a:=(fH Adf z).1 (c.trans m.symm);subst this;rfl
def Rz{w:Y}{B G n e v}{X:iK}(h:w.ownsRow B e k v n X)(a:G<=B):w.ownsRow G e k v n X:=by obtain⟨F,⟨rfl,C⟩|⟨g,I,H,rfl,J,T⟩⟩:=h;exact⟨F,zk ⟨S,C⟩⟩;exact⟨F,qx ⟨g,I,H,S,aD a J,T⟩⟩
def Ac4(w z c t num r)(a:w.cell? (iR z 1)=je (HZ c))(b:z<iZ w.1)(h:Bw w c t num r)(U:iY r<=1000):yf prog 28 #[HZ z] w λe B=>(∃v L,e=ia (gq #[P num,v])/\L.Perm (r.map ko)/\Ih L/\B.ownsRow w.1.size 84 6 v (iY L) (Ek L))/\iT w B:=by have d:Hid (∀W,iT w W->yf prog 38 #[HZ c] W λe B=>e=ia (P num)/\B=W):=λW D=>Jp W c t num r (h.below D (ltOf h.1) h.2.lt);have f:Hid (∀W,iT w W->yf prog 39 #[HZ c] W λe B=>(∃v L,e=ia v/\L.Perm (r.map ko)/\Ih L/\B.ownsRow w.1.size 84 6 v (iY L) (Ek L))/\iT w B):=λW D=>(Af6 W c t num r (h.below D (ltOf h.1) h.2.lt) U).mono λe B⟨⟨v,L,C,T,g,i⟩,J⟩=>⟨⟨v,L,C,T,g,Rz i D.4⟩,D.trans (J.mono D.4)⟩;have HB:Hid (iT w w):=zi _ _;have j:Hid (∀W,iT w W->W.cell? (iR z 1)=je (HZ c)):=λW D=>(D.cell (p:=(iR z 1)) b).trans a;go_enter func28,ntmps28;go_wp2_with fail;go_region_held3 (λB=>B.cell? (iR z 1)=je (HZ c)) (first|(go_keep;done)|assumption) (first|(go_at_call 38;apply(d _ Bd).mono;rintro e H⟨rfl,rfl⟩)|(go_at_call 39;apply(f _ Bd).mono;rintro e H⟨⟨v,L,rfl,q⟩,M⟩;have O:=u M;have R:=u q;have k:=j _ M;clear M q));go_wp2_with fail;exact fx (v:=gq #[P num,v]) (by simp[yo,results28,go_sem]) S ⟨⟨v,L,S,R⟩,O⟩
def Ac3(w P z b t num r)(V:w.cell? (iQ P)=je (HZ z))(M:w.cell? (iR z 1)=je (HZ b))(Y:z<iZ w.1)(h:Bw w b t num r)(U:iY r<=1000):j prog 10 #[HZ P] w λe B=>(∃v L,e=ia (gq #[iS num,v])/\L.Perm (r.map ko)/\Ih L/\B.ownsRow w.1.size 84 6 v (iY L) (Ek L))/\iT w B:=by have o:=u (Ac4 w z b t num r M Y h U);go_enter func10,ntmps10;go_wp2_with (first|(go_at_call 24;apply(u (Oz w P _ V)).out.mono;rintro S H⟨rfl,rfl⟩)|(go_at_call 28;apply o.mono;rintro S H⟨⟨v,L,rfl,q⟩,D⟩;have c:=u D;have R:=u q;clear D q));exact fx (by simp[yo,results10,go_sem]) iW ⟨⟨v,L,iW,R⟩,c⟩
open Go
def Acs{L s}(h:s∈Qr L):s∈L:=by rw[Qr]at h;obtain⟨x,Z,rfl⟩:=aZ.1 h;have:=(fQ _ _).mem_iff.1 Z;obtain⟨y,U,rfl⟩:=aZ.1 this;(have e:(⟨y.1.1.toArray⟩:N)=y:=by cases y;simp);rwa[e]
def PL{a s}(h:s∈kids a r):∃q∈r,s=Ji q.1:=by obtain⟨e,he,E⟩:=List.mem_filterMap.1 (Acs h);obtain⟨q,f,rfl⟩:=aZ.1 he;rw[O0,Pz]at E;simp only at E;split at E;exact⟨q,f,(aC E).symm⟩;cases E
def DG{path ns}:(kids path ns).length<=iY ns:=by rw[kids,Kb];apply aD (List.length_filterMap_le _ _);simp
structure TrN(valid:iD)(ns:List (iF×Nd)):Prop where
 nm:∀q∈ns,(Ji q.1).size<=24/\valid (Ji q.1)=jz/\q.2.data.size<=40
def ZH{L}(h:∀s∈L,s.size<=24):(Orch.txB L).length<=iY L * 28:=by induction L with|nil=>simp[Orch.txB]|cons s L O=>have C:=O λx Z=>h x (cJ _ Z);have J:=h s cG;have T:iY s.1.1=s.size:=S;rw[Orch.txB_cons,aH,aH,Orch.be_length,T,aW];omega
noncomputable def BM(ks:iK)(k:p8):List p8:=open Classical in if k∈ks then ks else ks++[k]
def Ams{w b g}(h:Pm w b g){o p}(hs:(yp yh s).wf=jz)(O:(yp yh o).wf=jz)(Q:p.size<=1000):j prog 162 #[.map (je b),Jc s p o] w λe B=>e=ia (gq #[])/\Pm B b (BM g (Jc s p o))/\Ax w B (· = b):=by obtain⟨l,K⟩:=Afo hs O Q;refine Adw w b s o p (λB=>Pm B b (BM g (Jc s p o))/\Ax w B (· = b)) (λW a=>?_);have L:Pm W b g:=h.keep (a.5 b (Bq.lt h));have z:∀{J},W.grownBy J (je b)->Ax w J (· = b):=λG=>(Ax.of_below a (aA _)).trans (Ax.of_grown G (zk iW));by_cases E:Jc s p o∈g;obtain⟨A,C,u⟩:=gB E;have S:BM g (Jc s p o)=g:=aL E;rw[S];obtain⟨J,Y,M,G⟩:=Bq.put_old L DM underlying89 K (val:=.agg #[]) (A:=A.map λk=>(k,mn #[])) (C:=C.map λk=>(k,mn #[])) (v:=mn #[]) (by rw[u];simp);refine⟨J,Y,?_,z G⟩;(have:Pm J b (A++Jc s p o::C):=by rw[Pm];simpa using M);rwa[u];have S:BM g (Jc s p o)=g++[Jc s p o]:=aO E;rw[S];obtain⟨J,Y,M,G⟩:=Bq.put_new L DM underlying89 K (val:=.agg #[]) (λq f e=>by obtain⟨k,P,rfl⟩:=aZ.1 f;exact E (by rwa[←e]));refine⟨J,Y,?_,z G⟩;rw[Pm];simpa using M
def Nr(q:N)(par:Bool):N:=if par then Da q else q
noncomputable def Gg(s:Int)(q:N):List Tl->List p8->List (Int×N)×List p8
 |[],ks=>([],ks)
 |x::T,ks=>open Classical in
  if Jc s (Nr q x.2.1) x.1∈ks then
   ((x.2.2,Nr q x.2.1)::(Gg s q T (ks.filter λk=>k≠Jc s (Nr q x.2.1) x.1)).1,(Gg s q T (ks.filter λk=>k≠Jc s (Nr q x.2.1) x.1)).2)
  else Gg s q T ks
def SO(E:List (Int×N)):List p8:=E.flatMap λe=>[P e.1,zx e.2]
def UF(E e):SO (E++[e])=SO E++[P e.1,zx e.2]:=by simp[SO]
def LH{A C:iK}{k}(z:(A++k::C).Nodup):open Classical in(A++k::C).filter (λx=>x≠k)=A++C:=by classical rw[gJ]at z;have ⟨d,J,T⟩:=z;rw[List.filter_append,List.filter_cons_of_neg Ae];congr 1;simp_all;refine List.filter_eq_self.2 λx Z=>?_;grind
def Agl{w:Y}{b a e size n:Nat}{x}{X:iK}(h:w.ownsRow b e size x n X)(D:a<=b):w.ownsRow a e size x n X:=by obtain⟨F,C|⟨g,I,H,C,J,T⟩⟩:=h;exact⟨F,zk C⟩;exact⟨F,qx ⟨g,I,H,C,aD D J,T⟩⟩
end Go.Proofs.Y
