import Derived.Test.YtcbilgmfdgpomaaGreatDoorCls
import Derived.BigQuiet
open Array renaming size → iL,size → y
set_option maxHeartbeats 8000000
set_option maxRecDepth 8000
set_option linter.all false
open Option renaming none → jh,some → lj
open Go.RowKit renaming Below → vu
open Go renaming World → gk,Value → uo,Calls → xq,heap_setCell_same → oe,bodyPost_ret → fy,heap_alloc_new → iw,Addr → lg,results → rz,Ending → Q,heap_setCell_other → p7,setRow_heap → ib,setRow_other → gn,info_parts → uz,World → U,Value → Y,Calls → Z
open Bool renaming false → sd,true → km
open Go.RowKit.Below renaming heap_alloc → ir,trans → mq
open Go.Value renaming slice → qh,int → uu,ownBlock → yq,oneCell' → ui,string → pc,bool → gd,tuple → js
open Prod renaming fst → l9
open Go.Lib renaming size_eq → qw,strCells → zk
open Go.World renaming ownsRow_nil → xn,setCell → mu,news_of_block → jc
open Go.IntKind renaming u8 → qg
open List renaming length_singleton → fv,length → iK,length → N
open Go.Ending.returned renaming injEq → zi
open Go.Value.tuple renaming injEq → yk
open Go.Value.bool renaming injEq → nh
open Go.Obj renaming cells → oh
open Go.Ending renaming returned → k8
open Orch renaming letters → S,Ty → u,find → W,parse → R
open Go.Proofs.YtcbilgmfdgpomaaGreatDoor renaming cellOf → F,ltOf → T,toList_nil → K,E7 → O,CN → M,Ia → j,vv → i
open Go.Proofs.Tryz Orch
variable {B I a g n s:Nat}{E H L r:U}{X:gZ}{b v x:Y}{h:gS}{p q:Prop}{z:gX}
def In4(h:p:=by
 intro p Q;rw[bP]at Q;rcases Q with Q|Q
 ·refine(B p Q).congr (λc⟨C,J,T⟩=>⟨C,Aa,?_⟩) (λc⟨C,J,T⟩=>?_)
  ·intro N;have A:g=c:=by simpa[Value.ownBlock] using N
   grind
  ·rw[i.block c Aa (λe=>T e.symm),D.block c Aa,M.block c J]
 ·obtain rfl:p=(t,x):=by simpa using Q
  refine Z.congr (λc⟨C,J⟩=>⟨Aa,Aa,?_⟩) (λc⟨C,J⟩=>?_)
  ·intro N;have A:g=c:=by simpa[Value.ownBlock] using N
   subst A;rcases j with h|h
   ·have:=(Ef d h).2;omega
   ·omega
  ·rw[i.block c Aa (λe=>by have:=(Ef d e.symm).2;omega),D.block c J]):p:=h
def Faj(h:p:=by
 cases s with
 |nil=>simp[Orch.parts]at h
 |cons c q=>
  unfold Orch.parts at h
  grind):p:=h
def Ux2(k:q)(h:Hd q->p:=by
 intro kz;refine Ht (λX=>X.1[w.1.size]?=some (.cells #[.int .u8 0,.int .i64 0,.int .i64 0,.int .i64 0,.int .i64 0,.bool false,.int .u8 0,.slice none 0 0] 208)/\Below w.1.size w X) ⟨setRow_heap _ _ _ _ _ _ I.out,Cr (O.out.alloc O.out.size _) (aC _) _⟩ ?_;exact kz.1):p:=h ⟨k⟩
def Aw8(k:q)(h:Hd q->p:=by
 intro kz;have n:(s.toList==[])=false:=by simpa using(λh=>by have:=(toList_nil s).1 h;omega)
 have q:(0:Int)<(s.size:Int):=Aa;have g:Hid (Table (w.alloc (.cells #[.int .u8 0,.int .i64 0,.int .i64 0,.int .i64 0,.int .i64 0,.bool false,.int .u8 0,.slice none 0 0] 208))):=a.below (Bf _ _) a.pos;have r:=Jm (w.alloc (.cells #[.int .u8 0,.int .i64 0,.int .i64 0,.int .i64 0,.int .i64 0,.bool false,.int .u8 0,.slice none 0 0] 208)) g.out s[0];revert n q g r;exact kz.1):p:=h ⟨k⟩
def Mqt(k:q)(h:Hd q->p:=by
 intro kz;have U:=hide (heap_alloc_new w (.cells #[.int .u8 0,.int .i64 0,.int .i64 0,.int .i64 0,.int .i64 0,.bool false,.int .u8 0,.slice none 0 0] 208));revert U;exact kz.1):p:=h ⟨k⟩
def Hks(h:p:=by
 go_wp2;go_region
 all_goals go_wp2
 all_goals go_ret3
 all_goals exact⟨by rw[k.out];rfl,by first|exact HB.out|exact HB.out.drew⟩):p:=h
def Kjm(h:p:=by
 go_enter Tryz.func141,Tryz.ntmps141;go_wp2;exact bodyPost_ret (v:=.tuple #[Ia 0 0 0 0 0 false 0 (.slice none 0 0),.bool false]) (by simp[results,Tryz.results141,go_sem]) iI ⟨⟨_,_,_,_,_,_,_,_,_,_,iI⟩,Bf _ _⟩):p:=h
def Lsq(h:p:=by
 go_enter Tryz.func181,Tryz.ntmps181;go_wp2;exact bodyPost_ret (v:=.tuple #[Ia 0 0 0 0 0 false 0 (.slice none 0 0),.string iG,.bool false]) (by simp[results,Tryz.results181,go_sem]) iI ⟨⟨_,_,_,_,_,_,_,_,_,_,_,iI⟩,Bf _ _⟩):p:=h
def Q7s(h:p:=by
 have k:Hid (E=some (ps.map Prod.fst,(S.extract 1 S.size).data.toList)):=by
  show _=_;rw[h.out,aM Aa]
 clear h i J;go_wp2;go_region
 all_goals go_wp2
 all_goals go_region
 all_goals go_wp2
 all_goals go_ret3
 all_goals exact⟨by rw[k.out];exact⟨_,_,iI,iI,HD.out _ iI⟩,by first|exact HB.out.drew.drew|exact HB.out.drew⟩):p:=h
def Bmj(h:p:=by
 refine Ht (λX=>X.1[w.1.size]?=some (.cells #[.int .u8 0,.int .i64 0,.int .i64 0,.int .i64 0,.int .i64 0,.bool false,.int .u8 0,.slice none 0 0] 208)∧Below w.1.size w X) ⟨setRow_heap _ _ _ _ _ _ I.out,Cr (O.out.alloc O.out.size _) (aC _) _⟩ ?_;rintro X⟨o,E⟩;exact bodyPost_ret (v:=.tuple #[Ia 0 0 0 0 0 false 0 (.slice none 0 0),.bool false]) (by simp[results,Tryz.results141,go_sem,(cellOf (j:=0) o iI),(cellOf (j:=1) o iI),(cellOf (j:=2) o iI),(cellOf (j:=3) o iI),(cellOf (j:=4) o iI),(cellOf (j:=5) o iI),(cellOf (j:=6) o iI),(cellOf (j:=7) o iI)]) iI ⟨⟨_,_,_,_,_,_,_,_,_,_,iI⟩,E⟩):p:=h
def A6s(h:p:=by
 have U:=hide (heap_alloc_new w (.cells #[.int .u8 0,.int .i64 0,.int .i64 0,.int .i64 0,.int .i64 0,.bool false,.int .u8 0,.slice none 0 0] 208));go_enter Tryz.func181,Tryz.ntmps181;go_wp2_with (first
  |(refine wpList_store_row iI 208 _ _ iI w.1.size #[.int .u8 0,.int .i64 0,.int .i64 0,.int .i64 0,.int .i64 0,.bool false,.int .u8 0,.slice none 0 0] iI iI 208 _ I.out Tryz.size208 iI (Wd _ _ _ _ _ _ _ _ _ _) ?_)
  |(go_at_call 203;refine F.out.mono ?_;rintro e H⟨rfl,M⟩;have O:=hide ((Bf _ _).trans (M.mono Ad));have Z:=hide ((M.block _ (ltOf U.out)).trans U.out);have I:Hid ((H.alloc (.cells #[.int .u8 0,.int .i64 0,.int .i64 0,.int .i64 0,.int .i64 0,.bool false,.int .u8 0] 205)).1[w.1.size]?=some (.cells #[.int .u8 0,.int .i64 0,.int .i64 0,.int .i64 0,.int .i64 0,.bool false,.int .u8 0,.slice none 0 0] 208)):=(Below.heap_alloc _ _ _ (ltOf Z.out)).trans Z.out;clear M))
 have o:=setRow_heap _ _ _ #[.int .u8 0,.int .i64 0,.int .i64 0,.int .i64 0,.int .i64 0,.bool false,.int .u8 0,.slice none 0 0] _ _ I.out;have i:=Vi 7 o;exact bodyPost_ret (v:=.tuple #[Ia 0 0 0 0 0 false 0 (.slice none 0 0),.string iG,.bool false]) (by simp[results,Tryz.results181,go_sem,(cellOf (j:=0) o iI),(cellOf (j:=1) o iI),(cellOf (j:=2) o iI),(cellOf (j:=3) o iI),(cellOf (j:=4) o iI),(cellOf (j:=5) o iI),(cellOf (j:=6) o iI),i]) iI ⟨⟨_,_,_,_,_,_,_,_,_,_,_,iI⟩,Cr (O.out.alloc O.out.size _) (aC _) _⟩):p:=h
def Jr3(k:q)(h:Hd q->p:=by
 intro kz;refine Ht (λX=>X.1[w.1.size+1]?=some (.cells #[.int .i64 n,.string s,.slice a m c] 183)/\Below w.1.size w X/\X.1.size=H.1.size/\∀e,e≠w.1.size+1->X.1[e]?=H.1[e]?) ⟨setRow_heap _ _ _ _ _ _ I.out,Cr O.out (cQ _) _,Ad,λe D=>setRow_other _ _ _ _ D⟩ ?_;exact kz.1):p:=h ⟨k⟩
def W4b(k:q)(h:Hd q->p:=by
 intro kz;refine Ht (λX=>X.1[w.1.size+1]?=some (.cells #[.int .i64 0,.string iG,.slice none 0 0] 183)/\Below w.1.size w X) ⟨setRow_heap _ _ _ _ _ _ I.out,Cr O.out (cQ _) _⟩ ?_;exact kz.1):p:=h ⟨k⟩
def Sec(k:q)(h:Hd q->p:=by
 intro kz;obtain⟨l,J⟩:=Ru w (.cells #[.int .u8 g,.int .i64 k,.int .i64 P,.int .i64 f,.int .i64 V,.bool K,.int .u8 u,.slice F b d] 208) (.cells #[.int .i64 0,.string iG,.slice none 0 0] 183);revert l J;exact kz.1):p:=h ⟨k⟩
def Dxn(k:q)(h:Hd q->p:=by
 intro kz;have ak:=hide a6;have C:=hide D;have aa:Hid (Below wr.1.size wr w2):=Below.trans QV (D.mono Ad);have k2:=(D.block _ (ltOf af.out)).trans af.out;revert ak C aa k2;exact kz.1):p:=h ⟨k⟩
def Czn(h:p:=by
 refine wp_loop_rounds 1 ?_;rw[rounds_succ];go_wp2;go_ret2;exact⟨_,IT Aaq,i.out,y.out⟩):p:=h
def Z24(h:p:=by
 have:=a8.out a W h1 h2 i a1 n h3 _ t ax (aE (aE j h1.size) h2.size) h4;rw[G,aw.out]at this;exact this):p:=h
namespace Go.Proofs.YtcbilgmfdgpomaaGreatDoor
variable {P:Program}{e:TypeId}{o:Obj}
open Go.RowKit
def Fz:Array Y:=#[uu qg 63,iE 0,iE 1,iE 0,iE 1,gd sd,uu qg 0,
 uu qg 52,iE 0,iE 4,iE (-2147483648),iE 2147483647,gd sd,uu qg 0,
 uu qg 56,iE 0,iE 8,iE (-9223372036854775808),iE 9223372036854775807,gd sd,uu qg 0,
 uu qg 98,iE 1,iE 0,iE 0,iE 0,gd sd,uu qg 0,
 uu qg 116,iE 1,iE 0,iE 0,iE 0,gd km,uu qg 0,
 uu qg 91,iE 2,iE 0,iE 0,iE 0,gd sd,uu qg 93,
 uu qg 40,iE 3,iE 0,iE 0,iE 0,gd sd,uu qg 41]
def Table(w:U):Prop:=∃t fr,w.1[7]?=lj (oh Fz t fr)
def Table.below{w a}(h:Table w)(D:vu B w a)(k:8<=B):Table a:=by
 have ⟨t,X,h⟩:=h;exact⟨t,X,(D.block 7 Aa).trans h⟩
def ix(k:Nat)(l)(E:S[k]?=lj l):∀w,(Instr.index 298 (.agg Fz) (iE k)).run prog w=.ok (QX l) w:=by
 match k,E with
 |0,E=>simp[S]at E;subst E;intro w;kernel_rfl
 |1,E=>simp[S]at E;subst E;intro w;kernel_rfl
 |2,E=>simp[S]at E;subst E;intro w;kernel_rfl
 |3,E=>simp[S]at E;subst E;intro w;kernel_rfl
 |4,E=>simp[S]at E;subst E;intro w;kernel_rfl
 |5,E=>simp[S]at E;subst E;intro w;kernel_rfl
 |6,E=>simp[S]at E;subst E;intro w;kernel_rfl
def Tryz.size205:(prog.info? 205).map (·.size)=lj 7:=Ab
def Tryz.size208:(prog.info? 208).map (·.size)=lj 8:=Ab
def Tryz.size183:(prog.info? 183).map (·.size)=lj 3:=Ab
def Adx(a b c d e f g):(#[uu qg a,iE b,iE c,iE d,iE e,gd f,uu qg g].all (·.oneCell'))=km:=by simp[ui]
def Wd(a b c d e f g)(x:hU)(n m):(#[uu qg a,iE b,iE c,iE d,iE e,gd f,uu qg g,qh x n m].all (·.oneCell'))=km:=by simp[ui]
def Qg(a)(s:gU)(x:hU)(n m):(#[iE a,pc s,qh x n m].all (·.oneCell'))=km:=by simp[ui]
def Cr{a w}(h:vu B a w)(G:B<=g)(cs:gY):vu B a (w.setRow g cs):=
 h.trans ⟨iI,iI,iI,Ad,λk E=>gn _ _ _ _ Aa⟩
def Jl(c:UInt8)(k:Nat):Option Lt:=(S.drop k).find? λl=>l.sign==c
def Ou(c:UInt8)(e:Q):Prop:=
 match W c with
 |none=>e=k8 (js #[ltv 0 0 0 0 0 sd 0,gd sd])
 |some l=>e=k8 (js #[QX l,gd km])
def Jm(w)(V:Table w)(c):xq prog 203 #[uu qg c.toNat] w λe B=>Ou c e/\iF w B:=by
 obtain⟨tt,X,b⟩:=V;have f:(w.alloc (oh #[uu qg 0,iE 0,iE 0,iE 0,iE 0,gd sd,uu qg 0] 205)).1[7]?=lj (oh Fz tt X):=by
  rwa[ir _ _ _ (T b)]
 obtain⟨F,t⟩:∃F,Jl c 0=F:=⟨_,iI⟩;have r:Hid (Jl c 0=F):=t;clear t;have M:c.toNat<256:=c.toNat_lt;go_enter func203,ntmps203;go_wp2_with (refine wpList_load_row iI 298 _ iI 7 iI tt _ X _ f Tryz.underlying298 iI Ab ?_);clear f b;go_loopw [7] (λi wr=>∃k:Nat,k<=7/\i=iE k/\Hid (Jl c k=F)/\Hid (iF w wr)/\Hid (wr.1[y w.1]?=lj (oh #[uu qg 0,iE 0,iE 0,iE 0,iE 0,gd sd,uu qg 0] 205)))
  (λi _=>7 - (intOf i).toNat)
 case atStart=>exact⟨0,Aa,iI,r,Bf _ _,iw _ _⟩
 case round=>
  obtain⟨k,E,rfl,N,d,Z⟩:=hrel;have g:=T Z.out;by_cases h:k<7
  ·obtain⟨l,K⟩:∃l,S[k]?=lj l:=⟨S[k]'h,aH h⟩;have L:=ix k l K;have x:Hid (Jl c k=if l.sign==c then lj l else Jl c (k+1)):=by
    show _=_;unfold Jl;have:S.drop k=l::S.drop (k+1):=by
     obtain⟨C,J⟩:=aF.1 K;rw[eK C,J]
    rw[this,List.find?_cons];cases l.sign==c<;>rfl
   clear K;by_cases s:l.sign=c
   ·have j:((l.sign.toNat:Int)==(c.toNat:Int))=km:=by rw[s];simp
    have z:Hid (F=lj l):=by
     show _=_;rw[←N.out,x.out,s];simp
    clear s x N;have P:(wr.alloc (oh #[uu qg l.sign.toNat,iE l.shape,iE l.size,iE l.least,iE l.5,gd l.text,uu qg l.fin.toNat] 205)).1[y w.1]?=_:=(ir _ _ _ g).trans Z.out;have o:=ib _ _ _ #[uu qg l.sign.toNat,iE l.shape,iE l.size,iE l.least,iE l.5,gd l.text,uu qg l.fin.toNat] _ _ P;have m:Hid (_=_):=P;have ⟨c0,Q,R,U,u,a,q⟩:=M4 o iI;clear o P;generalize Fz=LC at *;go_wp2_with (refine wpList_store_row iI 205 _ _ iI w.1.size #[uu qg l.sign.toNat,iE l.shape,iE l.size,iE l.least,iE l.5,gd l.text,uu qg l.fin.toNat] iI iI 205 _ m.out Tryz.size205 iI (Adx _ _ _ _ _ _ _) ?_);refine fy (v:=js #[QX l,gd km]) (by simp[rz,results203,go_sem,c0,Q,R,U,u,a,q]) iI ⟨?_,(Cr (d.out.alloc d.out.size _) (aC _) _)⟩
    ·unfold Ou;have e:W c=lj l:=(show Jl c 0=lj l from r.out.trans z.out);rw[e]
   ·have j:((l.sign.toNat:Int)==(c.toNat:Int))=sd:=by
     rw[beq_eq_false_iff_ne];intro p;exact s (gG.1 Aa)
    have z:Hid (Jl c (k+1)=F):=by
     show _=_;rw[←N.out,x.out];simp[s]
    clear s x N;generalize Fz=LC at *;go_wp2;go_roundw
    case rel=>exact⟨k+1,Aa,by go_num,z,d.out.alloc d.out.size _,(ir _ _ _ g).trans Z.out⟩
    case measure=>simp[intOf];omega
  ·have n:k=7:=Aa;subst n;have o:=ib _ _ _ #[uu qg 0,iE 0,iE 0,iE 0,iE 0,gd sd,uu qg 0] _ _ Z.out;have ⟨c0,Q,R,U,u,a,q⟩:=M4 o iI;clear o;generalize Fz=LC at *;go_wp2_with (refine wpList_store_row iI 205 _ _ iI w.1.size #[uu qg 0,iE 0,iE 0,iE 0,iE 0,gd sd,uu qg 0] iI iI 205 _ Z.out Tryz.size205 iI (Adx _ _ _ _ _ _ _) ?_);refine fy (v:=js #[ltv 0 0 0 0 0 sd 0,gd sd]) (by simp[rz,results203,go_sem,c0,Q,R,U,u,a,q]) iI ⟨?_,(Cr d.out (aC _) _)⟩
   ·unfold Ou;have e:W c=jh:=(show Jl c 0=jh from r.out.trans (N.out.symm.trans iI));rw[e]
def Beside(base:Nat)(v:Y)(w:U)(b:Nat):Prop:=base<=b/\b<y w.1/\v.ownBlock≠lj b
def Ew{w b}(h:w.ownsRow a e b v n X)(D:iF w H):=
 h.kept (row:=jh) ⟨D.os,D.tape,D.output,D.size,λk E _=>D.block k E⟩ Aj
def Ef{w:U}{b}(h:w.ownsRow a e b v n X)(G:v.ownBlock=lj g):=h.lt g G
def Aku{wr ps t x}(f:a<=y wr.1)(d:wr.ownsRow a 208 8 v (N ps) (ps.flatMap Od))(B:∀p,p∈ps->O wr (Beside a v wr) p.1.ps p.2)(M:iF wr H)(Z:O H (λc=>y wr.1<=c/\c<y H.1) t.ps x)(D:iF H E)(K:L.ownsRow a 208 8 (qh (lj (iC g)) (N ps+1) I) (N ps+1) (ps.flatMap Od++Od (t,x)))(i:E.grownBy L v.ownBlock)(j:v.ownBlock=lj g∨g=y E.1):L.ownsRow a 208 8 (qh (lj (iC g)) (N ps+1) I) (ps++[(t,x)]).length ((ps++[(t,x)]).flatMap Od) /\
  (∀p,p∈ps++[(t,x)]->O L (Beside a (qh (lj (iC g)) (N ps+1) I) L) p.1.ps p.2)/\vu a wr L:=by
 have l:=M.size;have R:=D.size;have V:=i.size;refine⟨by simp_all,?_,(((M.mono f).trans (D.mono Aa)).grown i Aa (λm k=>(Ef d k).1))⟩
 ·exact In4
def Akv{wr b a t x}(f:b<=y wr.1)(d:wr.ownsRow b 183 3 v (N a) (a.flatMap Eo))(B:∀p,p∈a->D8 wr (Beside b v wr) p.1.l p.2)(M:iF wr H)(Z:D8 H (λc=>y wr.1<=c/\c<y H.1) t.l x)(D:iF H E)(K:L.ownsRow b 183 3 (qh (lj (iC g)) (N a+1) I) (N a+1) (a.flatMap Eo++Eo (t,x)))(i:E.grownBy L v.ownBlock)(j:v.ownBlock=lj g∨g=y E.1):L.ownsRow b 183 3 (qh (lj (iC g)) (N a+1) I) (a++[(t,x)]).length ((a++[(t,x)]).flatMap Eo) /\
  (∀p,p∈a++[(t,x)]->D8 L (Beside b (qh (lj (iC g)) (N a+1) I) L) p.1.l p.2)/\vu b wr L:=by
 have o:=M.size;have R:=D.size;have V:=i.size;refine⟨Aj,?_,(((M.mono f).trans (D.mono Aa)).grown i Aa (λm k=>(Ef d k).1))⟩
 ·exact In4
def Akd{w ps}(d:w.ownsRow a 208 8 v (N ps) (ps.flatMap Od))(e:∀p,p∈ps->O w (Beside a v w) p.1.ps p.2)(k:B<=a):O w (λc=>B<=c/\c<y w.1) (ps.map l9) v:=
 O.of_own d (λp Q=>(e p Q).congr (λc⟨C,J,_⟩=>⟨Aa,J⟩) (λ_ _=>rfl)) (λg G=>by have:=Ef d G;omega)
def Ake{w b B a}(d:w.ownsRow b 183 3 v (N a) (a.flatMap Eo))(e:∀p,p∈a->D8 w (Beside b v w) p.1.l p.2)(k:B<=b):D8 w (λc=>B<=c/\c<y w.1) (a.map l9) v:=
 D8.of_own d (λp Q=>(e p Q).congr (λc⟨C,J,_⟩=>⟨Aa,J⟩) (λ_ _=>rfl)) (λg G=>by have:=Ef d G;omega)
def Y6{w}(h:vu B w H)(g)(G:B<=g)(x y z):vu B w (((H.setCell (iC g) x).setCell (iD g 1) y).setCell (iD g 2) z):=
 ((h.setCell (p:=(iC g)) G x).setCell (p:=(iD g 1)) G y).setCell G z
section
def Yc(w)(g sh P:Nat)(f V K)(u:Nat)(F:hU)(b d a off k I U C)(M:k<=1000)(Q:k<=I)(R:1<=P/\P<=8)(S:a<iL w.1)(W:¬k<P)(D:Hid (∀B,z B->Z prog 205 #[Ia g sh P f V K u (qh F b d),vv U iG (qh jh 0 0)] B λe c=>e=k8 (gd C)/\iF B c))(E:Hid (∀B,iF w B->z B))(n:Hid (∀B,iF w B->Z prog 158 #[qh (lj (iD a off)) P I] B λe c=>e=k8 (iE U)/\c=B)):Z prog 219 #[Ia g sh P f V K u (qh F b d),qh (lj (iD a off)) k I] w λe B=>
   ∃A,e=k8 (js #[vv U iG (qh jh 0 0),A,gd C])/\(A=if I=P then qh (lj (iD a off)) (k - P) 0 else qh (lj ⟨a,off+P,jh⟩) (k - P) (I - P))/\iF w B:=by
 have Y:¬(k:Int)<(P:Int):=Aa;obtain⟨L,h⟩:∃L,L=if I=P then qh (lj (iD a off)) (k - P) 0 else qh (lj ⟨a,off+P,jh⟩) (k - P) (I - P):=⟨_,iI⟩;rw[←h];have q:Hid (L=if I=P then qh (lj (iD a off)) (k - P) 0 else qh (lj ⟨a,off+P,jh⟩) (k - P) (I - P)):=h;clear h;go_enter func219,ntmps219;go_wp2_with (go_at_call 158;apply(n.out _ (Dj _ _ _)).mono;rintro e B⟨rfl,rfl⟩);obtain⟨G,J,H⟩:=Aoj w (oh #[uu qg g,iE sh,iE P,iE f,iE V,gd K,uu qg u,qh F b d] 208)
  (oh #[iE 0,pc iG,qh jh 0 0] 183) (oh #[iE U,pc iG,qh jh 0 0] 183)
 apply BQ (λX=>iF w X/\X.1[iL w.1]?=lj (oh #[uu qg g,iE sh,iE P,iE f,iE V,gd K,uu qg u,qh F b d] 208) /\
  X.1[iL w.1+1]?=lj (oh #[iE 0,pc iG,qh jh 0 0] 183)/\X.1[iL w.1+1+1]?=lj (oh #[iE U,pc iG,qh jh 0 0] 183)) ⟨Pq _ _ _ _,G,J,H⟩
 clear G J H n;rintro X⟨m,r,s,i⟩;have ⟨a0,a6,a2,a3,a4,a5,a7,a8⟩:=XB r iI;have ⟨b0,b1,b2⟩:=Jh i iI;have HW:Hid (iF w X):=m;have v:Hid (X.1[iL w.1+1]?=lj (oh #[iE 0,pc iG,qh jh 0 0] 183)):=s;have y:Hid (X.1[iL w.1+1+1]?=lj (oh #[iE U,pc iG,qh jh 0 0] 183)):=i;clear m r s i;by_cases o:I=P
 all_goals go_region_with (
  go_at_call 205;apply(D.out _ (E.out _ G0)).mono;rintro e l⟨rfl,N⟩;have j:l.1[iL w.1+1]?=lj (oh #[iE 0,pc iG,qh jh 0 0] 183):=(N.block _ (ltOf v.out)).trans v.out;have p:l.1[iL w.1+1+1]?=lj (oh #[iE U,pc iG,qh jh 0 0] 183):=(N.block _ (ltOf y.out)).trans y.out;have O:Hid (iF w l):=mq G0 (N.mono (by first|exact HW.out.size));have ⟨x,t,T⟩:=Jh j iI;have ⟨f0,f1,f2,_⟩:=Gu j;have ⟨g0,g1,g2⟩:=Jh p iI;clear N j p)
 all_goals go_wp2
 all_goals refine fy (v:=js #[vv U iG (qh jh 0 0),L,gd C]) ?_ iI ⟨L,iI,iI,?_⟩
 all_goals try exact Y6 (by first|exact O.out|exact O.out.drew) _ (cQ _) _ _ _
 all_goals try(rw[q.out,aL o];simp[rz,results219,go_sem,x,t,T];done)
 all_goals try(rw[q.out,aM o];simp[rz,results219,go_sem,x,t,T];done)
end
structure Oe where
 v:Orch.V
 x:uo
 lo:Nat
 hi:Nat
def Oe.pr(q:Oe):Orch.V×Y:=(q.v,q.x)
inductive BS(w:gk):Nat->Nat->List Orch.V->uo->Prop
 |nil (lo hi):BS w lo hi [] (qh jh 0 0)
 |row (lo hi) (qs) (g cap) (hhi:g<hi)
   (Jc:w.ownsRow lo 183 3 (qh (lj (iC g)) (iK qs) cap) (iK qs) ((qs.map Oe.pr).flatMap Eo))
   (hin:∀q,q∈qs->lo<=q.lo/\q.lo<=q.hi/\q.hi<=hi/\¬(q.lo<=g/\g<q.hi)) (hdis:qs.Pairwise (λa b=>a.hi<=b.lo))
   (hr:∀q,q∈qs->BS w q.lo q.hi q.v.l q.x):BS w lo hi (qs.map Oe.v) (qh (lj (iC g)) (iK qs) cap)
def BS.congr{w B V i}(h:BS w s V i v):(∀b,s<=b->b<V->B.1[b]?=w.1[b]?)->BS B s V i v:=by
 induction h with
 |nil s V=>intro _;exact .nil s V
 |row s V r g I F d y a Y O=>
  intro E;refine .row s V r g I F ⟨d.1,?_⟩ y a (λq f=>O q f (λb C J=>?_))
  ·rcases d.2 with h|⟨R,L,H,e,j,k,N⟩
   ·exact .inl h
   ·cases e;exact .inr ⟨g,I,H,iI,j,(E g ((d.lt g iI).1) F).trans k,N⟩
  grind
def BS.mono{w V L p b}(h:BS w s V b v)(C:L<=s)(J:V<=p):BS w L p b v:=by
 cases h with
 |nil=>exact .nil _ _
 |row _ _ r g I F d y a Y=>
  refine .row L p r g I Aa ⟨d.1,d.2.imp id fun⟨g,I,H,e,c,k⟩=>⟨g,I,H,e,aE C c,k⟩⟩ (λq f=>?_) a Y;have:=y q f;omega
def Aej(r:List Oe):(r.map Oe.pr).map l9=r.map Oe.v:=by rw[cW];rfl
def BS.vs{w V e}(h:BS w s V e v):D8 w (λb=>s<=b/\b<V) e v:=by
 induction h with
 |nil s V=>exact .nil _ _
 |row s V r g I F d y c Y O=>
  rw[←Aej];rw[←(bV _)]at d⊢;refine D8.of_own d (λp Q=>?_) (λR m=>?_)
  ·obtain⟨q,f,rfl⟩:=aZ.1 Q;have:=y q f;exact(O q f).congr (λb D=>⟨Aa,Aa⟩) (λ_ _=>rfl)
  ·have C:=d.lt R m;have:R=g:=by simp[yq]at m;exact m.symm
   omega
def BS.shape{w V b}(h:BS w s V b v):∃a c,v=qh a (N b) c:=by
 cases h with
 |nil=>exact⟨_,_,iI⟩
 |row _ _ r g I=>grind
def OX(w:U)(base:Nat)(v:Y)(ps:List (Orch.V×Y)):Prop:=
 ∃qs:List Oe,qs.map Oe.pr=ps/\(∀q,q∈qs->base<=q.lo/\q.lo<=q.hi/\q.hi<=y w.1/\∀g,v.ownBlock=lj g->¬(q.lo<=g/\g<q.hi))/\qs.Pairwise (λa b=>a.hi<=b.lo)/\∀q,q∈qs->BS w q.lo q.hi q.v.l q.x
def OX.nil(w a v):OX w a v []:=⟨[],iI,(λq f=>by cases f),List.Pairwise.nil,(λq f=>by cases f)⟩
def OX.keep{w B base a}(h:OX w base v a)(s:y w.1<=y B.1)(E:∀b,base<=b->b<y w.1->v.ownBlock≠lj b->B.1[b]?=w.1[b]?):OX B base v a:=by
 have ⟨r,C,J,T,d⟩:=h;refine⟨r,C,λq f=>?_,T,λq f=>(d q f).congr (λb c k=>?_)⟩
 ·grind
 grind
def OX.grow{wr o t x cap n}(c:a<=y wr.1)(Y:∀g,v.ownBlock=lj g->g<y wr.1)(B:OX wr a v o)(M:iF wr H)(Z:BS H wr.1.size H.1.size t.l x)(D:iF H E)(i:E.grownBy L v.ownBlock)(j:v.ownBlock=lj g∨g=y E.1):OX L a (qh (lj (iC g)) n cap) (o++[(t,x)]):=by
 have l:=M.size;have d:=D.size;have V:=i.size;obtain⟨r,rfl,J,T,s⟩:=B;have F:∀R,(qh (lj (iC g)) n cap).ownBlock=lj R->v.ownBlock=lj R∨R=y E.1:=by
  intro R m;have:g=R:=by simpa[yq] using m
  subst this;exact j
 refine⟨r++[⟨t,x,y wr.1,y H.1⟩],by rw[cP];rfl,λq f=>?_,?_,λq f=>?_⟩
 ·grind
 ·grind
 ·rw[bP]at f;rcases f with f|f
  ·obtain⟨u,w,S,p⟩:=J q f;refine(s q f).congr (λb h k=>?_);rw[i.block b Aa (λe=>p b e.symm ⟨h,k⟩),D.block b Aa,M.block b Aa]
  ·obtain rfl:q=⟨t,x,y wr.1,y H.1⟩:=by simpa using f
   refine Z.congr (λb h k=>?_);rw[i.block b Aa (λe=>Aj),D.block b k]
def OX.done{w b}(d:w.ownsRow a 183 3 v (N b) (b.flatMap Eo))(h:OX w a v b):BS w a w.1.size (b.map l9) v:=by
 obtain⟨r,rfl,J,T,c⟩:=h;rw[bV]at d;rw[Aej];rcases d.2 with⟨rfl,F⟩|⟨g,I,H,rfl,_⟩
 ·have:=bN.1 F;subst this;exact .nil _ _
 ·exact .row _ _ r g I (d.lt g iI).2 d (λq f=>by have ⟨m,e,S,n⟩:=J q f;exact⟨m,e,S,n g iI⟩) T c
def Acm{c l}(h:W c=lj l):=List.mem_of_find?_eq_some h
def EO(f:gT->Option (u×gT))(I:∀s t r,f s=lj (t,r)->N r<N s)(l):∀n s D a r,Orch.parts f l n s D=lj (a,r)->N r<N s/\N a+N r<N D+N s:=by
 intro n
 induction n with
 |zero=>intro s D a r h;simp[Orch.parts]at h
 |succ n O=>
  intro s D a r h;exact Faj
def Wm:∀k s t r,Orch.ptype k s=lj (t,r)->N r<N s:=by
 intro k
 induction k with
 |zero=>intro s t r h;simp[Orch.ptype]at h
 |succ k O=>
  intro s t r h;cases s with
  |nil=>simp[Orch.ptype]at h
  |cons c q=>
   unfold Orch.ptype at h;split at h
   ·cases h
   ·split at h
    ·grind
    ·split at h
     ·cases h
     ·rename_i a b Q;obtain⟨rfl,rfl⟩:=h;have:=(EO _ O _ _ _ _ _ _ Q).1;simp only[aV];omega
def Aeb(f:gT->Option (u×gT))(k)(I:∀s t r,f s=lj (t,r)->N s<=64->M k t/\N r<N s)(l):∀n s D a r,Orch.parts f l n s D=lj (a,r)->N s<=64->(∀p,p∈D->M k p)->(∀p,p∈a->M k p)/\(l.shape=2->N a=1):=by
 intro n
 induction n with
 |zero=>intro s D a r h;simp[Orch.parts]at h
 |succ n O=>
  intro s D a r h b d;exact Faj
def Aek:∀k s t r,Orch.ptype k s=lj (t,r)->N s<=64->M k t/\N r<N s:=by
 intro k
 induction k with
 |zero=>intro s t r h;simp[Orch.ptype]at h
 |succ k O=>
  intro s t r h a;refine⟨?_,Wm _ _ _ _ h⟩;cases s with
  |nil=>simp[Orch.ptype]at h
  |cons c q=>
   unfold Orch.ptype at h;split at h
   ·cases h
   ·rename_i l K;have L:=Acm K;split at h
    ·obtain⟨rfl,rfl⟩:=h;refine⟨L,λJ=>?_,by simp[u.ps],λp Q=>by simp[u.ps]at Q⟩;simp only[u.l]at J;simp only[S,bH,eC,or_false]at L
     grind
    ·split at h
     ·cases h
     ·rename_i b d Q;obtain⟨rfl,rfl⟩:=h;simp only[aV]at a;have C:=Aeb _ k O _ _ _ _ _ _ Q Aa (λp Q=>by simp at Q);have J:=(EO _ (Wm k) _ _ _ _ _ _ Q).2;simp only[aW]at J;exact⟨L,C.2,by simp only[u.ps];omega,C.1⟩
def Uv{s t}(h:R s=lj t):M 9 t:=by
 unfold R at h;split at h
 ·cases h
 ·split at h
  ·rename_i S Q;cases h;exact(Aek 9 s _ _ Q Aa).1
  ·cases h
def AA(e:Q):Prop:=∃(a b c d f:Int)(x:Bool)(g:Int)(p:hU)(m n:Nat)(r:gU),e=k8 (js #[j a b c d f x g (qh p m n),pc r,gd sd])
def Aop(w w':U)(e:Q):Option (u×gT)->Prop
 |none=>AA e
 |some (t,rest)=>∃psv r,e=k8 (js #[E6 t.l psv,pc r,gd km])/\r.data.toList=rest/\O w' (λb=>y w.1<=b/\b<y w'.1) t.ps psv
def Ai8(w w':U)(e:Q):Option (List u×gT)->Prop
 |none=>e=k8 (js #[qh jh 0 0,pc iG,gd sd])
 |some (ps,rest)=>∃v r,e=k8 (js #[v,pc r,gd km])/\r.data.toList=rest/\O w' (λb=>y w.1<=b/\b<y w'.1) ps v
def GA(k:Nat):Prop:=∀w(s:gU)(d:Int),Table w->s.size<=64->d+k=9->Z prog 181 #[pc s,iE d] w λe w'=>Aop w w' e (Orch.ptype k s.data.toList)/\iF w w'
def Aay(k:Nat):Prop:=∀w(s:gU)l(d:Int),Table w->s.size<=64->d+k=9->Z prog 204 #[pc s,QX l,iE d] w λe w'=>Ai8 w w' e (Orch.parts (Orch.ptype k) l (s.size+1) s.data.toList [])/\iF w w'
def Tryz.info208:(prog.info? 208).map (λi=>(i.zero,i.size,i.bytes))=lj (lj (Ia 0 0 0 0 0 sd 0 (qh jh 0 0)),8,72):=Ab
def Tryz.info183:(prog.info? 183).map (λi=>(i.zero,i.size,i.bytes))=lj (lj (vv 0 iG (qh jh 0 0)),3,48):=Ab
def KG{w}(h:vu B w H)(g)(G:B<=g)(x y z):vu B w (((H.setCell (iC g) x).setCell (iD g 1) y).setCell (iD g 2) z):=
 ((h.setCell (p:=(iC g)) G x).setCell (p:=(iD g 1)) G y).setCell G z
section
variable {Tabs:gX}
def BE(w g sh P f V K u)(F:hU)(b d R)(c off k n a:Nat)(S C)(hk:k<=1000)(aa:k<=a)(Ib:c<iL w.1)(h4:n<=k)(h:Hid (∀B,iF w B->xq prog 221 #[R,iE 200] B λe A=>e=k8 (js #[iE n,qh (lj (iD c off)) k a,gd km])/\iF B A))(D:Hid (∀B,Tabs B->xq prog 205 #[Ia g sh P f V K u (qh F b d),vv 0 S (qh jh 0 0)] B λe A=>e=k8 (gd C)/\iF B A))(E:Hid (∀B,iF w B->Tabs B))(W:Hid (∀B,iF w B->(convert 37 9 (qh (lj (iD c off)) n a)).run prog B=.ok (pc S) B)):xq prog 220 #[Ia g sh P f V K u (qh F b d),R] w λe B=>
   ∃Y,e=k8 (js #[vv 0 S (qh jh 0 0),Y,gd C])/\(Y=if a=n then qh (lj (iD c off)) (k - n) 0 else qh (lj ⟨c,off+n,jh⟩) (k - n) (a - n))/\iF w B:=by
 have ab:¬(k:Int)<(n:Int):=Aa;obtain⟨L,G⟩:∃L,L=if a=n then qh (lj (iD c off)) (k - n) 0 else qh (lj ⟨c,off+n,jh⟩) (k - n) (a - n):=⟨_,iI⟩;rw[←G];have q:Hid (L=if a=n then qh (lj (iD c off)) (k - n) 0 else qh (lj ⟨c,off+n,jh⟩) (k - n) (a - n)):=G;clear G;obtain⟨n0,n1⟩:=Ru w (oh #[uu qg g,iE sh,iE P,iE f,iE V,gd K,uu qg u,qh F b d] 208) (oh #[iE 0,pc iG,qh jh 0 0] 183);have U:Hid (_=_):=n0;have J:Hid (_=_):=n1;clear n0 n1;go_enter func220,ntmps220;go_wp2_with (go_at_call 221;apply(h.out _ (Dj _ _ _)).mono;rintro e H⟨rfl,M⟩;have I:Hid (iF w H):=(Dj _ _ _).trans (M.mono Ah);have z:=W.out H I.out;have Q:Hid (H.1[iL w.1]?=_):=(M.block _ (ltOf U.out)).trans U.out;have Z:Hid (H.1[iL w.1+1]?=_):=(M.block _ (ltOf J.out)).trans J.out;clear M);have q0:(H.alloc (oh #[iE 0,pc S,qh jh 0 0] 183)).1[iL w.1]?=_:=(ir _ _ _ (ltOf Q.out)).trans Q.out;have q1:(H.alloc (oh #[iE 0,pc S,qh jh 0 0] 183)).1[iL w.1+1]?=_:=(ir _ _ _ (ltOf Z.out)).trans Z.out;have ad:=ltOf Z.out;apply BQ (λX=>iF w X/\X.1[iL w.1]?=lj (oh #[uu qg g,iE sh,iE P,iE f,iE V,gd K,uu qg u,qh F b d] 208) /\
  X.1[iL w.1+1]?=lj (oh #[iE 0,pc iG,qh jh 0 0] 183)/\X.1[iL H.1]?=lj (oh #[iE 0,pc S,qh jh 0 0] 183)) ⟨I.out.alloc Aa _,q0,q1,iw _ _⟩
 clear q0 q1 U J W h z Q Z I;generalize H.1.size=a1 at *;rintro X⟨m,r,s,i⟩;have ⟨a0,a6,a2,a3,a4,a5,a7,a8⟩:=XB r iI;have ⟨b0,b1,b2⟩:=Jh i iI;have HW:Hid (iF w X):=m;have v:Hid (X.1[iL w.1+1]?=lj (oh #[iE 0,pc iG,qh jh 0 0] 183)):=s;have y:Hid (X.1[a1]?=lj (oh #[iE 0,pc S,qh jh 0 0] 183)):=i;clear m r s i;by_cases o:a=n
 all_goals go_region_with (
  go_at_call 205;apply(D.out _ (E.out _ G0)).mono;rintro e l⟨rfl,N⟩;have j:l.1[iL w.1+1]?=lj (oh #[iE 0,pc iG,qh jh 0 0] 183):=(N.block _ (ltOf v.out)).trans v.out;have p:l.1[a1]?=lj (oh #[iE 0,pc S,qh jh 0 0] 183):=(N.block _ (ltOf y.out)).trans y.out;have O:Hid (iF w l):=mq G0 (N.mono (by first|exact HW.out.size));have ⟨x,t,T⟩:=Jh j iI;have ⟨f0,f1,f2,_⟩:=Gu j;have ⟨g0,g1,g2⟩:=Jh p iI;clear N j p)
 all_goals go_wp2
 all_goals refine fy (v:=js #[vv 0 S (qh jh 0 0),L,gd C]) ?_ iI ⟨L,iI,iI,?_⟩
 all_goals try exact KG (by first|exact O.out|exact O.out.drew) _ (cQ _) _ _ _
 all_goals try(rw[q.out,aL o];simp[rz,results220,go_sem,x,t,T];done)
 all_goals try(rw[q.out,aM o];simp[rz,results220,go_sem,x,t,T];done)
end
def Afp:Y->Nat|pc s=>s.size|_=>0
def hide(h:p):Hid p:=h
def Table.pos{w}(h:Table w):8<=y w.1:=by have ⟨t,X,h⟩:=h;exact T h
def OF(s:gU)(h:0<s.size):s.data.toList=s[0]::(s.extract 1 s.size).data.toList:=by
 rw[Lib.extract_data];have P:0<N s.data.toList:=by simp_all
 have e:=eK P
 rwa[bO Ad]
def Aei(b)(b8:b<=9)(T:GA b):Aay b:=by
 intro w s l u V hs Y;have U:=hide T;obtain⟨E,A⟩:∃E,Orch.parts (Orch.ptype b) l (s.size+1) s.data.toList []=E:=⟨_,iI⟩;rw[A];have a1:=hide A;have HT:=hide V;have ai:=V.pos;clear A T V;go_enter func204,ntmps204;go_wp2;go_loopw [0,9] (λz ae wr=>∃S ps c,z=pc S/\Hid (Orch.parts (Orch.ptype b) l c S.data.toList (ps.map l9)=E)/\S.size<c/\iK ps+S.size<=64 /\
   Hid (wr.ownsRow (iL w.1+1) 208 8 ae (iK ps) (ps.flatMap Od))/\Hid (∀v,v∈ps->E7 wr (Beside (iL w.1+1) ae wr) v.1.ps v.2)/\Hid (iF w wr) /\
   Hid (wr.1[iL w.1]?=lj (oh #[uu qg l.sign.toNat,iE l.shape,iE l.size,iE l.least,iE l.5,gd l.text,uu qg l.fin.toNat] 205)))
  (λz _ _=>Afp z)
 case atStart=>exact⟨s,[],s.size+1,iI,a1,Aa,by simpa using hs,xn _ _ _ _,(λv hp=>by simp at hp),Bf _ _,iw _ _⟩
 case round=>
  obtain⟨S,ps,c,rfl,R,hm,b9,N,C,HB,Z⟩:=hrel;have ⟨_,c1,_,_,_,_,c6⟩:=M4 Z.out iI;by_cases h0:S.size=0
  ·have ao:S.toList = []:=(toList_nil S).2 h0;have h:Hid (E=jh):=by
    show _=_;rw[←R.out];cases c with
    |zero=>rfl
    |succ c=>rw[←Lib.toList_data,ao];rfl
   clear R;go_wp2;go_region
   all_goals go_wp2
   all_goals go_ret3
   all_goals exact⟨by rw[h.out];rfl,by first|exact HB.out|exact HB.out.drew⟩
  ·have a6:¬S.toList = []:=λF=>h0 ((toList_nil S).1 F);have ba:S.toList.isEmpty=sd:=by
    cases F:S.toList with
    |nil=>exact absurd F a6
    |cons _ _=>rfl
   have bb:(S.toList==[])=sd:=by simpa using a6
   have bc:(0:Int)<(S.size:Int):=Aa;have aq:0<S.size:=Aa;obtain⟨p,ar⟩:∃p,S[0]=p:=⟨_,iI⟩;have x:Hid (S.data.toList=p::(S.extract 1 S.size).data.toList):=by
    show _=_;rw[OF S aq,ar]
   obtain⟨q,rfl⟩:∃q,c=q+1:=⟨c - 1,Aa⟩;by_cases f:p=l.fin
   ·have au:((p.toNat:Int)==(l.fin.toNat:Int))=km:=by rw[f];simp
    have h:Hid (E=if iK ps=0∨l.shape=2/\1<iK ps then jh else lj (ps.map l9,(S.extract 1 S.size).data.toList)):=by
     show _=_;rw[←R.out,x.out,Orch.parts,aL f,bV]
    clear R x f;obtain⟨ua,uc,D⟩:∃av aw,u9=qh av (iK ps) aw:=by
     rcases N.out.2 with⟨m,F⟩|⟨g,I,o,m,_⟩
     ·exact⟨jh,0,by rw[m,F]⟩
     ·exact⟨_,_,m⟩
    have HU:=hide D;rw[D]at N C⊢;clear D HU;have HD:Hid (∀W:gk,W.1=wr.1->E7 W (λd=>iL w.1<=d/\d<iL W.1) (ps.map l9) (qh ua (iK ps) uc)):=λW hW=>(Akd N.out C.out (cQ _)).congr (λd F=>by rw[hW];exact F) (λd _=>by rw[hW])
    by_cases i:iK ps=0
    ·have ax:((iK ps:Int)==0)=km:=by simpa using i
     have k:Hid (E=jh):=by
      show _=_;rw[h.out,aL (Or.inl i)]
     clear h;exact Hks
    ·have ax:((iK ps:Int)==0)=sd:=by
      rw[beq_eq_false_iff_ne];omega
     by_cases J:l.shape=2
     ·have ay:((l.shape:Int)==2)=km:=by rw[J];rfl
      by_cases h1:1<iK ps
      ·have az:(1:Int)<(iK ps:Int):=Aa;have k:Hid (E=jh):=by
        show _=_;rw[h.out,aL (Or.inr ⟨J,h1⟩)]
       clear h i J;exact Hks
      ·have az:¬(1:Int)<(iK ps:Int):=Aa;exact Q7s
     ·have ay:((l.shape:Int)==2)=sd:=by
       rw[beq_eq_false_iff_ne];omega
      exact Q7s
   ·have au:((p.toNat:Int)==(l.fin.toNat:Int))=sd:=by
     rw[beq_eq_false_iff_ne];intro F;exact f (gG.1 Aa)
    have h:Hid (E=match Orch.ptype b S.data.toList with
      |none=>jh
      |some (t,j)=>Orch.parts (Orch.ptype b) l q j (ps.map l9++[t])):=by
     show _=_;rw[←R.out,x.out,Orch.parts,aM f]
     rfl
    have a7:S.size<=64:=Aa;have B:=hide (HT.out.below HB.out ai);have L:Hid (∀t r,Orch.ptype b S.data.toList=lj (t,r)->iK r<S.size):=λt r F=>by
     rw[qw];exact Wm _ _ _ _ F
    clear R x f;cases G:Orch.ptype b S.data.toList with
    |none=>
     have k:Hid (E=jh):=by
      show _=_;rw[h.out,G]
     have X:Hid (∀a,Table a->xq prog 181 #[pc S,iE u] a λm n=>AA m/\iF a n):=λa K=>by
      have:=U.out a S u K a7 Y;rw[G]at this;exact this
     clear h G L;go_wp2;go_region
     all_goals go_wp2_with (go_at_call 181;apply(X.out _ JN).mono;rintro m H⟨⟨ta,tb,tc,td,tf,tx,tg,tp,tm,tn,tr,rfl⟩,M⟩;have O:=hide (mq (Fg _) M);clear M)
     all_goals go_ret3
     all_goals exact⟨by rw[k.out];rfl,(HB.out.trans (O.out.mono HB.out.size)).alloc (by have:=HB.out.size;have:=O.out.size;omega) _⟩
    |some tr=>
     obtain⟨t,j⟩:=tr;have b5:=L.out t j G;have k:Hid (Orch.parts (Orch.ptype b) l q j (ps.map l9++[t])=E):=by
      show _=_;rw[h.out,G]
     have X:Hid (∀a,Table a->xq prog 181 #[pc S,iE u] a λm n=>(∃P r,m=k8 (js #[E6 t.l P,pc r,gd km])/\r.data.toList=j/\E7 n (λd=>iL a.1<=d/\d<iL n.1) t.ps P)/\iF a n):=λa K=>by
      have:=U.out a S u K a7 Y;rw[G]at this;exact this
     clear h G L U HT a1;obtain⟨i0,aj,ak,al,an⟩:=uz Tryz.info208;go_wp2;go_region
     all_goals go_wp2_with (first|(at_builtin;refine wpList_append_lies _ iI _ _ 206 iI (iL w.1+1) 208 i0 (Ia 0 0 0 0 0 sd 0 (qh jh 0 0)) 8 72 underlying206 aj ak al an iI Ae _ _ _ iI (((Ew N.out O.out).alloc _).alloc _) ⟨iL H.1+1,0,jh⟩ 1 1 (Od (t,qh y (iK t.ps) e)) iI iI ?hn ?h1 Ae ?c3 ?c4 ?c5 (iL H.1+1+1) ?hH ?_)|(go_at_call 181;apply(X.out _ JN).mono;rintro m H⟨⟨P,r,rfl,a8,aa⟩,M⟩;have O:=hide (mq (Fg _) M);have ab:=hide a8;obtain⟨y,e,rfl⟩:=aa.shape;have b6:=hide aa;clear M a8 aa))
     case hn=>exact jc (Ru H _ _).2
     case h1=>intro ae hu;simp only[Od,bH,eC,or_false]at hu;rcases hu with rfl|rfl|rfl|rfl|rfl|rfl|rfl|rfl<;>rfl
     case c3=>unfold maxLen;omega
     case c4=>omega
     case c5=>have:=HB.out.size;have:=O.out.size;simp;omega
     case hH=>simp
     intro g I w3 ad af ah _;obtain⟨r1,r2,Q⟩:=Aku (t:=t) (x:=qh y (iK t.ps) e) (by have:=ltOf Z.out;omega) N.out C.out O.out b6.out (Dj H _ _) ad af (by simpa using ah);have bd:r.size<S.size:=by rw[qw r,ab.out];exact b5
     have b7:Hid (Orch.parts (Orch.ptype b) l q r.data.toList ((ps++[(t,qh y (iK t.ps) e)]).map l9)=E):=by
      show _=_;rw[ab.out,cP];exact k.out
     have R1:=hide r1;have R2:=hide r2;have R3:=hide (HB.out.trans (Q.mono (cQ _)));have R4:=hide ((Q.block _ (gC _)).trans Z.out);clear r1 r2 Q ad af ah;go_wp2;go_roundw
     case rel=>exact⟨r,ps++[(t,qh y (iK t.ps) e)],q,iI,b7,Aa,by rw[aK,fv];omega,R1,R2,R3,R4⟩
     case measure=>simp[Afp];omega
def VG(w)(s:gU)(d)(h:s.size=0∨8<d):Z prog 181 #[pc s,iE d] w λe B=>AA e/\iF w B:=by
 by_cases F:s.size=0
 ·have D:s.toList = []:=(K s).2 F;exact Lsq
 ·have I:8<d:=Aa;have C:(s.toList==[])=sd:=by simpa using(λh=>F ((K s).1 h))
  exact Lsq
def Aht:GA 0:=by
 intro w s d V a y;exact VG w s d (Or.inr Aa)
def Amv(w)(s:gU)(d)(a:Table w)(J:0<s.size)(y:d<=8)(h:W s[0]=jh):Z prog 181 #[pc s,iE d] w λe B=>AA e/\iF w B:=by
 refine Aw8 λn q g r=>?_;unfold Ou at r;rw[h]at r;obtain⟨p,L⟩:∃p,s[0]=p:=⟨_,iI⟩;rw[L]at r;have F:=hide r;clear r h a;exact A6s
def Ht{u}{a:Q->U->Prop}{Y b w}(F:gX)(hF:F w)(h:∀W,F W->bodyPost P u a Y b W):=h w hF
def Ae9(W:U)(g t)(z:gY)(N:z.size=8)(G:W.1[g]?=lj (oh z t (0,0)))(P Z B E k v w R):((((((((W.setCell (iC g) P).setCell (iD g 1) Z).setCell (iD g 2) B).setCell (iD g 3) E).setCell (iD g 4) k).setCell (iD g 5) v).setCell (iD g 6) w).setCell (iD g 7) R).1[g]?=lj (oh #[P,Z,B,E,k,v,w,R] t (0,0)):=by
 have F:=oe W g 0 _ t P G;have C:=oe _ g 1 _ t Z F;have J:=oe _ g 2 _ t B C;have T:=oe _ g 3 _ t E J;have q:=oe _ g 4 _ t k T;have a:=oe _ g 5 _ t v q;have f:=oe _ g 6 _ t w a;have M:=oe _ g 7 _ t R f;apply M.trans;clear M f a q T J C F G
 match z,N with
 |⟨[z0,z1,z2,z3,z4,z5,z6,z7]⟩,_=>simp
def Ae3{X}(h:X.1[g]?=lj o/\vu B r X):X.drew.1[g]?=lj o/\vu B r X.drew:=⟨h.1,h.2.drew⟩
def Ahq(w)(s:gU)(d)(a:Table w)(y:0<s.size)(D:d<=8)(l)(h:find s[0]=lj l)(e:l.fin=0):xq prog 181 #[pc s,iE d] w λf t=>f=k8 (js #[E6 l (qh jh 0 0),pc (s.extract 1 s.size),gd km])/\iF w t:=by
 refine Aw8 λn q g r=>?_;unfold Ou at r;rw[h]at r;obtain⟨p,L⟩:∃p,s[0]=p:=⟨_,iI⟩;rw[L]at r;have F:(l.fin.toNat:Int)=0:=by rw[e];rfl
 simp only[QX,ltv,F]at r;simp only[E6,Ia,F];have i:=hide r;clear r h a e F;generalize l.sign.toNat=v at *;generalize l.shape=A at *;generalize l.size=P at *;generalize l.least=j at *;generalize l.5=V at *;generalize l.text=K at *;have B:=hide (iw w (oh #[uu qg 0,iE 0,iE 0,iE 0,iE 0,gd sd,uu qg 0,qh jh 0 0] 208));go_enter func181,ntmps181;go_wp2_with (go_at_call 203;apply i.out.mono;rintro f H⟨rfl,M⟩;have O:=hide ((Bf _ _).trans (M.mono Ad));have Z:=hide ((M.block _ (ltOf B.out)).trans B.out);clear M);have c:(H.alloc (oh #[uu qg v,iE A,iE P,iE j,iE V,gd K,uu qg 0] 205)).1[iL w.1]?=_:=(ir _ _ _ (ltOf Z.out)).trans Z.out;apply BQ (λX=>iF w X/\X.1[iL w.1]?=lj (oh #[uu qg 0,iE 0,iE 0,iE 0,iE 0,gd sd,uu qg 0,qh jh 0 0] 208)/\X.1[iL H.1]?=lj (oh #[uu qg v,iE A,iE P,iE j,iE V,gd K,uu qg 0] 205))
  ⟨O.out.alloc O.out.size _,c,iw _ _⟩
 have a8:iL w.1<iL H.1:=ltOf Z.out;clear c B i O Z g;generalize H.1.size=I at *;rintro X⟨k,z,m⟩;have ⟨S,T,U,W,Y,a5,a6,a7⟩:=XB z iI;have ⟨f0,f1,f2,f3,f4,f5,f6,f7⟩:=Gu z;have u:=hide z;have ⟨b0,b1,b2,b3,b4,b5,b6⟩:=M4 m iI;have HW:=hide k;clear k z m;go_region
 all_goals go_wp2
 all_goals apply Ht (λb=>b.1[iL w.1]?=lj (oh #[uu qg v,iE A,iE P,iE j,iE V,gd K,uu qg 0,qh jh 0 0] 208)/\iF w b) (Ae3 ⟨Ae9 X _ _ _ iI u.out _ _ _ _ _ _ _ _,((((((((HW.out.setCell (p:=⟨(iL w.1),0,jh⟩) (aC _) (uu IntKind.u8 ↑v)).setCell (p:=⟨(iL w.1),1,jh⟩) (aC _) (iE ↑A)).setCell (p:=⟨(iL w.1),2,jh⟩) (aC _) (iE ↑P)).setCell (p:=⟨(iL w.1),3,jh⟩) (aC _) (iE j)).setCell (p:=⟨(iL w.1),4,jh⟩) (aC _) (iE V)).setCell (p:=⟨(iL w.1),5,jh⟩) (aC _) (Value.bool K)).setCell (p:=⟨(iL w.1),6,jh⟩) (aC _) (uu IntKind.u8 0)).setCell (aC _) (qh jh 0 0))⟩)
 all_goals rintro b⟨o,x⟩
 all_goals have c0:=cellOf (j:=0) o iI
 all_goals have Q:=cellOf (j:=1) o iI
 all_goals have R:=cellOf (j:=2) o iI
 all_goals have C:=cellOf (j:=3) o iI
 all_goals have E:=cellOf (j:=4) o iI
 all_goals have G:=cellOf (j:=5) o iI
 all_goals have J:=cellOf (j:=6) o iI
 all_goals have N:=cellOf (j:=7) o iI
 all_goals exact fy (v:=js #[Ia v A P j V K 0 (qh jh 0 0),pc (s.extract 1 s.size),gd km]) (by simp[rz,results181,go_sem,c0,Q,R,C,E,G,J,N]) iI ⟨iI,x⟩
def Ahr(w)(s:gU)(q)(a:Table w)(af:0<s.size)(ah:0<=q)(hd:q<=8)(l)(h:find s[0]=lj l)(Y:l.fin≠0)(pv:gk->Option lg->Nat->Nat->gU->Bool->gk->Prop)(HP:Hid (∀B,Table B->xq prog 204 #[pc (s.extract 1 s.size),QX l,iE (q+1)] B λe a1=>(∃d m f k i,e=k8 (js #[qh d m f,pc k,gd i])/\pv B d m f k i a1)/\iF B a1)):xq prog 181 #[pc s,iE q] w λe B=>(∃wa S d m f k i,e=k8 (js #[E6 l (qh d m f),pc k,gd i])/\pv wa d m f k i S/\iL w.1<iL wa.1/\iL B.1=iL S.1/\∀t,iL w.1<t->B.1[t]?=S.1[t]?)/\iF w B:=by
 have aa:¬s.toList = []:=λh=>by have:=(toList_nil s).1 h;omega
 have ai:(s.toList==[])=sd:=by simpa using aa
 have aj:(0:Int)<(s.size:Int):=Aa;have g:Hid (Table (w.alloc (oh #[uu qg 0,iE 0,iE 0,iE 0,iE 0,gd sd,uu qg 0,qh jh 0 0] 208))):=a.below (Bf _ _) a.pos;have ab:Hid (∀B,iF w B->Table B):=λB hb=>a.below hb a.pos;have r:=Jm (w.alloc (oh #[uu qg 0,iE 0,iE 0,iE 0,iE 0,gd sd,uu qg 0,qh jh 0 0] 208)) g.out s[0];unfold Ou at r;rw[h]at r;obtain⟨p,L⟩:∃p,s[0]=p:=⟨_,iI⟩;rw[L]at r;have F:((l.fin.toNat:Int)==0)=sd:=by
  rw[beq_eq_false_iff_ne];intro h;exact Y (gG.1 Ah)
 have z:=hide r;clear r h a Y;simp only[QX,ltv,E6,Ia]at z HP⊢;generalize l.sign.toNat=v at *;generalize l.shape=A at *;generalize l.size=P at *;generalize l.least=n at *;generalize l.5=V at *;generalize l.text=K at *;generalize l.fin.toNat=u at *;refine Mqt λU=>?_;go_enter func181,ntmps181;go_wp2_with (go_at_call 203;apply z.out.mono;rintro e H⟨rfl,M⟩;have O:=hide ((Bf _ _).trans (M.mono Ad));have Z:=hide ((M.block _ (ltOf U.out)).trans U.out);clear M);have c:(H.alloc (oh #[uu qg v,iE A,iE P,iE n,iE V,gd K,uu qg u] 205)).1[iL w.1]?=_:=(ir _ _ _ (ltOf Z.out)).trans Z.out;apply BQ (λX=>iF w X/\X.1[iL w.1]?=lj (oh #[uu qg 0,iE 0,iE 0,iE 0,iE 0,gd sd,uu qg 0,qh jh 0 0] 208)/\X.1[iL H.1]?=lj (oh #[uu qg v,iE A,iE P,iE n,iE V,gd K,uu qg u] 205))
  ⟨O.out.alloc O.out.size _,c,iw _ _⟩
 have a8:iL w.1<iL H.1:=ltOf Z.out;clear c U z O Z g;generalize H.1.size=ak at *;rintro X⟨a6,m0,T⟩;have ⟨b0,b1,b2,b3,b4,b5,b6⟩:=M4 T iI;have j:=hide a6;have W:=hide m0;have M1:=hide T;clear a6 m0 T;go_region_with (
  go_at_call 204;apply(HP.out _ (ab.out _ Aam)).mono;rintro e w2⟨⟨I,x,y,rr,i,rfl,a7⟩,D⟩;have ad:=hide a7;have ae:=hide (mq Aam (D.mono (by first|exact j.out.size)));have K0:=hide ((D.block _ (ltOf W.out)).trans W.out);have b:=hide ((D.block _ (ltOf M1.out)).trans M1.out);clear D a7)
 all_goals have e0:=cellOf (j:=0) b.out iI
 all_goals have e1:=cellOf (j:=1) b.out iI
 all_goals have e2:=cellOf (j:=2) b.out iI
 all_goals have e3:=cellOf (j:=3) b.out iI
 all_goals have e4:=cellOf (j:=4) b.out iI
 all_goals have e5:=cellOf (j:=5) b.out iI
 all_goals have e6:=cellOf (j:=6) b.out iI
 all_goals go_wp2_with (apply wpList_store_row iI 208 _ _ iI w.1.size #[uu qg v,iE A,iE P,iE n,iE V,gd K,uu qg u,qh I x y] iI iI 208 _ K0.out Tryz.size208 iI (Wd _ _ _ _ _ _ _ _ _ _))
 all_goals have o:=ib _ _ _ #[uu qg v,iE A,iE P,iE n,iE V,gd K,uu qg u,qh I x y] _ _ K0.out
 all_goals have c0:=cellOf (j:=0) o iI
 all_goals have Q:=cellOf (j:=1) o iI
 all_goals have R:=cellOf (j:=2) o iI
 all_goals have C:=cellOf (j:=3) o iI
 all_goals have E:=cellOf (j:=4) o iI
 all_goals have G:=cellOf (j:=5) o iI
 all_goals have J:=cellOf (j:=6) o iI
 all_goals have N:=cellOf (j:=7) o iI
 all_goals refine fy (v:=js #[Ia v A P n V K u (qh I x y),pc rr,gd i]) (by simp[rz,results181,go_sem,c0,Q,R,C,E,G,J,N]) iI ⟨⟨_,w2,I,x,y,rr,i,iI,ad.out,by show iL w.1<iL X.1;exact ltOf W.out,Ad,λt hb=>gn _ _ _ _ Aa⟩,Cr ae.out (aC _) _⟩
def Ahs(k)(B:k+1<=9)(Q:Aay k):GA (k+1):=by
 intro w s d V S T;by_cases h:s.size=0
 ·have e:Orch.ptype (k+1) s.data.toList=jh:=by
   rw[←Lib.toList_data,(toList_nil s).2 h];rfl
  rw[e];exact VG w s d (Or.inl h)
 ·have J:0<s.size:=Aa;have y:(s.extract 1 s.size).size<=64:=by
   rw[qw,Lib.extract_data,dZ,cV];omega
  rw[(OF s J),Orch.ptype];cases I:find s[0] with
  |none=>
       have W:(s.toList==[])=sd:=by simpa using(λI=>by have:=(toList_nil s).1 I;omega)
       have a1:(0:Int)<(s.size:Int):=Aa;have X:Hid (Table (w.alloc (oh #[uu qg 0,iE 0,iE 0,iE 0,iE 0,gd sd,uu qg 0,qh jh 0 0] 208))):=V.below (Bf _ _) V.pos;have r:=Jm (w.alloc (oh #[uu qg 0,iE 0,iE 0,iE 0,iE 0,gd sd,uu qg 0,qh jh 0 0] 208)) X.out s[0];unfold Ou at r;rw[I]at r;obtain⟨j,P⟩:∃j,s[0]=j:=⟨_,iI⟩;rw[P]at r;have F:=hide r;clear r I V;exact A6s
  |some l=>
   by_cases K:l.fin=0
   ·simp only[aL K];apply(Ahq w s d V J Aa l I K).mono;rintro e a⟨rfl,D⟩;exact⟨⟨_,_,iI,iI,.nil _ _⟩,D⟩
   ·simp only[aM K,((qw _).symm)];obtain⟨E,A⟩:∃E,Orch.parts (Orch.ptype k) l ((s.extract 1 s.size).size+1) (s.extract 1 s.size).data.toList []=E:=⟨_,iI⟩;rw[A];by_cases z:0<=d
    ·refine(Ahr w s d V J z Aa l I K (λa b m c r p t=>Ai8 a t (k8 (js #[qh b m c,pc r,gd p])) E) (λa R=>?_)).mono ?_
     ·apply(Q a (s.extract 1 s.size) l (d+1) R y Aa).mono;rintro e t⟨g,D⟩;rw[A]at g;refine⟨?_,D⟩;cases E with
      |none=>
       have N:e=k8 (js #[qh jh 0 0,pc iG,gd sd]):=g;exact⟨jh,0,0,iG,sd,N,by rwa[←N]⟩
      |some q=>
       obtain⟨u,G⟩:=q;obtain⟨v,r,N,Y,f⟩:=g;obtain⟨b,c,rfl⟩:=f.shape;exact⟨b,iK u,c,r,km,N,⟨_,r,iI,Y,f⟩⟩
     ·rintro e a⟨⟨a6,a7,b,m,c,r,p,rfl,L,a8,C,n⟩,D⟩;refine⟨?_,D⟩;cases E with
      |none=>
       have N:Ending.returned (js #[qh b m c,pc r,gd p])=k8 (js #[qh jh 0 0,pc iG,gd sd]):=L;simp only[zi,yk,fV,dP,nh]at N;obtain⟨_,_,rfl,_⟩:=N;exact⟨_,_,_,_,_,_,_,_,_,_,_,iI⟩
      |some q=>
       obtain⟨u,G⟩:=q;obtain⟨v,O,N,Y,f⟩:=L;simp only[zi,yk,fV,dP,nh,Value.string.injEq]at N;obtain⟨rfl,rfl,rfl,_⟩:=N;refine⟨_,_,iI,Y,f.congr (λx o=>⟨Aa,by rw[C];exact o.2⟩) (λx o=>n x Aa)⟩
    ·omega
def Alg:∀k,k<=9->GA k:=by
 intro k
 induction k with
 |zero=>intro _;exact Aht
 |succ k O=>intro h;exact Ahs k h (Aei k Aa (O Aa))
def parseRes(w w':U)(e:Q):Option u->Prop
 |none=>∃(a b c d f:Int)(x:Bool)(g:Int)(p:hU)(m n:Nat),e=k8 (js #[j a b c d f x g (qh p m n),gd sd])
 |some t=>∃psv,e=k8 (js #[E6 t.l psv,gd km])/\O w' (λb=>y w.1<=b/\b<y w'.1) t.ps psv
def Ale(w)(s:gU)(h:64<s.size):Z prog 141 #[pc s] w λe B=>parseRes w B e jh/\iF w B:=by
 exact Kjm
def MW(w)(s:gU)(h:s.size<=64)(v:Hid (xq prog 181 #[pc s,iE 0] (w.alloc (oh #[uu qg 0,iE 0,iE 0,iE 0,iE 0,gd sd,uu qg 0,qh jh 0 0] 208)) λe B=>AA e/\vu (w.alloc (oh #[uu qg 0,iE 0,iE 0,iE 0,iE 0,gd sd,uu qg 0,qh jh 0 0] 208)).1.size (w.alloc (oh #[uu qg 0,iE 0,iE 0,iE 0,iE 0,gd sd,uu qg 0,qh jh 0 0] 208)) B)):xq prog 141 #[pc s] w λe B=>parseRes w B e jh/\iF w B:=by
 have N:¬(64:Int)<(s.size:Int):=Aa;refine Mqt λU=>?_;go_enter func141,ntmps141;go_wp2_with (first
  |(apply wpList_store_row iI 208 _ _ iI w.1.size #[uu qg 0,iE 0,iE 0,iE 0,iE 0,gd sd,uu qg 0,qh jh 0 0] iI iI 208 _ I.out Tryz.size208 iI (Wd _ _ _ _ _ _ _ _ _ _))
  |(go_at_call 181;apply v.out.mono;rintro e H⟨⟨a,b,c,d,f,x,g,p,m,n,r,rfl⟩,M⟩;have O:=hide ((Bf _ _).trans (M.mono Ad));have Z:=hide ((M.block _ (T U.out)).trans U.out);have I:Hid ((H.alloc (oh #[uu qg a,iE b,iE c,iE d,iE f,gd x,uu qg g,qh p m n] 208)).1[y w.1]?=lj (oh #[uu qg 0,iE 0,iE 0,iE 0,iE 0,gd sd,uu qg 0,qh jh 0 0] 208)):=(ir _ _ _ (T Z.out)).trans Z.out;clear M))
 exact Bmj
def RQ(w)(s:gU)(i:s.size<=64)(y:Hid (xq prog 181 #[pc s,iE 0] (w.alloc (oh #[uu qg 0,iE 0,iE 0,iE 0,iE 0,gd sd,uu qg 0,qh jh 0 0] 208)) λe B=>(∃(a b c d f:Int)(x:Bool)(g:Int)(p:hU)(m n:Nat)(r:gU),e=k8 (js #[j a b c d f x g (qh p m n),pc r,gd km])/\r.size≠0)/\vu (w.alloc (oh #[uu qg 0,iE 0,iE 0,iE 0,iE 0,gd sd,uu qg 0,qh jh 0 0] 208)).1.size (w.alloc (oh #[uu qg 0,iE 0,iE 0,iE 0,iE 0,gd sd,uu qg 0,qh jh 0 0] 208)) B)):xq prog 141 #[pc s] w λe B=>parseRes w B e jh/\iF w B:=by
 have N:¬(64:Int)<(s.size:Int):=Aa;have v:=hide (iw w (oh #[uu qg 0,iE 0,iE 0,iE 0,iE 0,gd sd,uu qg 0,qh jh 0 0] 208));go_enter func141,ntmps141;go_wp2_with (first
  |(apply wpList_store_row iI 208 _ _ iI w.1.size #[uu qg 0,iE 0,iE 0,iE 0,iE 0,gd sd,uu qg 0,qh jh 0 0] iI iI 208 _ I.out Tryz.size208 iI (Wd _ _ _ _ _ _ _ _ _ _))
  |(go_at_call 181;apply y.out.mono;rintro e H⟨⟨a,b,c,d,f,x,g,p,m,n,r,rfl,M⟩,h⟩;have O:=hide ((Bf _ _).trans (h.mono Ad));have Z:=hide ((h.block _ (T v.out)).trans v.out);have I:Hid ((H.alloc (oh #[uu qg a,iE b,iE c,iE d,iE f,gd x,uu qg g,qh p m n] 208)).1[iL w.1]?=lj (oh #[uu qg 0,iE 0,iE 0,iE 0,iE 0,gd sd,uu qg 0,qh jh 0 0] 208)):=(ir _ _ _ (T Z.out)).trans Z.out;have C:(r.toList==[])=sd:=(by simpa using(λi=>M ((K r).1 i)));clear h M))
 exact Bmj
def YQ(w)(s:gU)(j:s.size<=64)(a b c d f x g)(t:Option lg->Nat->Nat->gk->Prop)(h:Hid (xq prog 181 #[pc s,iE 0] (w.alloc (oh #[uu qg 0,iE 0,iE 0,iE 0,iE 0,gd sd,uu qg 0,qh jh 0 0] 208)) λe B=>(∃(p:hU)(m n:Nat)(r:gU),e=k8 (js #[Ia a b c d f x g (qh p m n),pc r,gd km])/\r.size=0/\t p m n B)/\vu (w.alloc (oh #[uu qg 0,iE 0,iE 0,iE 0,iE 0,gd sd,uu qg 0,qh jh 0 0] 208)).1.size (w.alloc (oh #[uu qg 0,iE 0,iE 0,iE 0,iE 0,gd sd,uu qg 0,qh jh 0 0] 208)) B)):xq prog 141 #[pc s] w λe B=>(∃p m n S,e=k8 (js #[Ia a b c d f x g (qh p m n),gd km])/\t p m n S/\y S.1<=y B.1/\∀k,y w.1<k->k<y S.1->B.1[k]?=S.1[k]?)/\iF w B:=by
 have N:¬(64:Int)<(s.size:Int):=Aa;refine Mqt λU=>?_;go_enter func141,ntmps141;go_wp2_with (first
  |(apply wpList_store_row iI 208 _ _ iI w.1.size #[uu qg a,iE b,iE c,iE d,iE f,gd x,uu qg g,qh p m n] iI iI 208 _ I.out Tryz.size208 iI (Wd _ _ _ _ _ _ _ _ _ _))
  |(go_at_call 181;apply h.out.mono;rintro e H⟨⟨p,m,n,r,rfl,Y,L⟩,M⟩;have O:=hide ((Bf _ _).trans (M.mono Ad));have Z:=hide ((M.block _ (T U.out)).trans U.out);have I:Hid ((H.alloc (oh #[uu qg a,iE b,iE c,iE d,iE f,gd x,uu qg g,qh p m n] 208)).1[y w.1]?=lj (oh #[uu qg 0,iE 0,iE 0,iE 0,iE 0,gd sd,uu qg 0,qh jh 0 0] 208)):=(ir _ _ _ (T Z.out)).trans Z.out;have D:r.toList = []:=(K r).2 Y;have z:=hide L;clear M Y L))
 apply Ht (λX=>X.1[y w.1]?=lj (oh #[uu qg a,iE b,iE c,iE d,iE f,gd x,uu qg g,qh p m n] 208)/\iF w X/\y H.1<=y X.1/\∀k,y w.1<k->k<y H.1->X.1[k]?=H.1[k]?) ⟨ib _ _ _ _ _ _ I.out,Cr (O.out.alloc O.out.size _) (aC _) _,Ad,λk C J=>(gn _ _ _ _ Aa).trans (ir _ _ _ J)⟩;rintro X⟨o,E,i,v⟩;have V:=hide i;have A:=hide v;clear i v;exact fy (v:=js #[Ia a b c d f x g (qh p m n),gd km]) (by simp[rz,results141,go_sem,(F (j:=0) o iI),(F (j:=1) o iI),(F (j:=2) o iI),(F (j:=3) o iI),(F (j:=4) o iI),(F (j:=5) o iI),(F (j:=6) o iI),(F (j:=7) o iI)]) iI ⟨⟨p,m,n,H,iI,z.out,V.out,A.out⟩,E⟩
def Re(w)(s:gU)(V:Table w):xq prog 141 #[pc s] w λe B=>parseRes w B e (R s.data.toList)/\iF w B:=by
 unfold R;by_cases h:64<s.size
 ·rw[aL (by simp_all)];exact Kjm
 ·rw[aM (by simp_all)];have M:=Alg 9 Aa (w.alloc (oh #[uu qg 0,iE 0,iE 0,iE 0,iE 0,gd sd,uu qg 0,qh jh 0 0] 208)) s 0 (V.below (Bf _ _) V.pos) Aa Aa;cases Q:Orch.ptype 9 s.data.toList with
  |none=>
   rw[Q]at M;exact MW w s Aa M
  |some i=>
   obtain⟨t,j⟩:=i;rw[Q]at M;cases j with
   |cons y v=>
    refine RQ w s Aa (M.mono ?_);rintro e B⟨⟨a,r,rfl,Y,Z⟩,D⟩;obtain⟨F,d,rfl⟩:=Z.shape;exact⟨⟨_,_,_,_,_,_,_,_,_,_,r,iI,by rw[qw,Y];simp⟩,D⟩
   |nil=>
    refine(YQ w s Aa t.l.sign.toNat t.l.shape t.l.size t.l.least t.l.5 t.l.text t.l.fin.toNat (λp m n B=>O B (λb=>iL w.1+1<=b/\b<iL B.1) t.ps (qh p m n)) (M.mono ?_)).mono ?_
    ·rintro e B⟨⟨a,r,rfl,Y,Z⟩,D⟩;obtain⟨F,d,rfl⟩:=Z.shape;exact⟨⟨F,_,d,r,iI,by rw[qw,Y];rfl,Aao⟩,D⟩
    ·rintro e B⟨⟨p,m,n,S,rfl,L,f,X⟩,D⟩;exact⟨⟨_,iI,L.congr (λb o=>⟨Aa,Aa⟩) (λb o=>X b Aa o.2)⟩,D⟩
def Tq(base:Nat)(w:U)(es:List Orch.V)(lv:Y):Prop:=BS w base w.1.size es lv
def Tq.nil(a w):Tq a w [] (qh jh 0 0):=BS.nil _ _
def Tq.keep{w B base A X a}(h:Tq base w X a)(D:A<=base)(s:y w.1<=y B.1)(E:∀b,base<=b->b<y w.1->B.1[b]?=w.1[b]?):Tq A B X a:=
 (BS.congr h E).mono D s
def Ih(w w':U)(bv:Y)(l:gT)(e:Q):Option (Orch.V×gT)->Prop
 |none=>Ra e
 |some (v,rest)=>∃lv rv,e=k8 (js #[OO v lv,rv,gd km])/\D8 w' (λb=>y w.1<=b/\b<y w'.1) v.l lv/\Ks bv l rv rest/\Tq w.1.size w' v.l lv
def Ajh(w w':U)(bv:Y)(l:gT)(e:Q):Option (List Orch.V×gT)->Prop
 |none=>Ra e
 |some (es,rest)=>∃lv rv,e=k8 (js #[i 0 iG lv,rv,gd km])/\D8 w' (λb=>y w.1<=b/\b<y w'.1) es lv/\Ks bv l rv rest/\Tq w.1.size w' es lv
def PC(valid:gS)(Tabs:gX)(k:Nat):Prop:=∀w,Tabs w->∀t,M k t->∀S(psv:Y),O w S t.ps psv->(∀b,S b->b<y w.1)->∀bv(l:gT),N l<=1000->J5 w bv l ->
 Z prog 207 #[E6 t.l psv,bv] w λe w'=>Ih w w' bv l e (Orch.take valid k t l)/\iF w w'
def Aa0(valid:gS)(Tabs:gX)(k:Nat):Prop:=∀w,Tabs w->∀t,M (k+1) t->∀S(psv:Y),O w S t.ps psv->(∀b,S b->b<y w.1)->∀n,n<=64->(t.l.shape=2∨t.l.shape=3/\n=N t.ps)->∀bv(l:gT),N l<=1000->J5 w bv l ->
 Z prog 222 #[E6 t.l psv,iE n,bv] w λe w'=>Ajh w w' bv l e (Orch.takeE (Orch.take valid k) t n 0 l)/\iF w w'
def take_len(a){k t l v r}(h:Orch.take a k t l=lj (v,r)):N r<=N l:=by
 have ⟨pre,D,_⟩:=put_take a _ _ _ _ _ h
 grind
section
def Afs(b6:It h z)(k)(ih:PC h z k):Aa0 h z k:=by
 intro w hT t b7 af dd ao hS n hn b8 bv l hl b9;obtain⟨F,d,rfl⟩:=ao.shape;have ba:=hide ih;have bb:=hide ao;have HS:=hide hS;have aq:=hide b7;have ar:=hide b8;have c7:Hid (∀T,iF w T->z T):=λT s=>b6.kept (b6.size hT) s hT;obtain⟨A,au⟩:∃A,Orch.takeE (Orch.take h k) t n 0 l=A:=⟨_,iI⟩;rw[au];have bc:=hide au;have c8:=hide b9;clear ih ao hS b7 b8 hT au b9;simp only[E6,Ia];generalize bd:t.l.sign.toNat=g;generalize bf:t.l.shape=sh;generalize bg:t.l.size=P;generalize bh:t.l.least=f;generalize bj:t.l.5=V;generalize bk:t.l.text=K;generalize bm:t.l.fin.toNat=u;have bn:Hid (∀(W:gk)(i:Nat),i<n->iF w W->xq prog 206 #[.agg #[uu qg g,iE sh,iE P,iE f,iE V,gd K,uu qg u,qh F (iK t.ps) d],iE i] W λm T=>∃x,m=k8 (E6 (Orch.part t i).l x)/\E7 W af (Orch.part t i).ps x/\iF W T):=λW i c9 bo=>by
  subst bd bf bg bh bj bk bm;exact MY W af t aq.out _ (bb.out.congr (λ_ s=>s) (λc D=>bo.block c (HS.out c D))) (λc D=>aA (HS.out c D) bo.size) i (by have:=ar.out;omega)
 clear bd bf bg bh bj bk bm;have bq:Hid (∀i,i<n->CN k (Orch.part t i)):=λi c9=>VE aq.out i (by have:=ar.out;omega);clear ar aq;generalize (iK t.ps)=b at *;obtain⟨J,n1,n2⟩:=Aoj w (oh #[uu qg g,iE sh,iE P,iE f,iE V,gd K,uu qg u,qh F b d] 208) (oh #[iE 0,pc iG,qh jh 0 0] 183) (oh #[iE 0,pc iG,qh jh 0 0] 183);have U:=hide J;have N1:=hide n1;have N2:=hide n2;clear J n1 n2;have cc:iL w.1+3<=(((w.alloc (oh #[uu qg g,iE sh,iE P,iE f,iE V,gd K,uu qg u,qh F b d] 208)).alloc (oh #[iE 0,pc iG,qh jh 0 0] 183)).alloc (oh #[iE 0,pc iG,qh jh 0 0] 183)).1.size:=Ad;obtain⟨i0,aj,ak,al,an⟩:=uz Tryz.info183;go_enter func222,ntmps222;go_wp2;go_loopw [2,15] (λb2 cd wr=>∃(i ab:Nat) (lr:gT) (ps:List (Orch.V×uo)) (lv:uo),cd=iE i/\i+ab=n/\iK ps=i/\iK lr<=1000/\Hid (Ks bv l b2 lr) /\
   Hid ((Orch.takeE (Orch.take h k) t ab i lr).map (λr=>(ps.map l9++r.1,r.2))=A)/\Hid (iF w wr)/\Hid (iL w.1+3<=iL wr.1) /\
   Hid (wr.1[iL w.1]?=lj (oh #[uu qg g,iE sh,iE P,iE f,iE V,gd K,uu qg u,qh F b d] 208)) /\
   Hid (wr.1[iL w.1+1]?=lj (oh #[iE 0,pc iG,qh jh 0 0] 183))/\Hid (wr.1[iL w.1+1+1]?=lj (oh #[iE 0,pc iG,lv] 183)) /\
   Hid (wr.ownsRow (iL w.1+3) 183 3 lv (iK ps) (ps.flatMap Eo))/\Hid (∀p,p∈ps->D8 wr (Beside (iL w.1+3) lv wr) p.1.l p.2)/\Hid (OX wr (iL w.1+3) lv ps))
  (λ_ i _=>n - (intOf i).toNat)
 case atStart=>exact⟨0,n,l,[],qh jh 0 0,iI,Aa,iI,hl,Ks.refl _ _,by show _=_;rw[bc.out];cases A<;>simp,Pq _ _ _ _,cc,U,N1,N2,xn _ _ _ _,(λp hp=>by simp at hp),OX.nil _ _ _⟩
 case round=>
  obtain⟨i,ab,lr,ps,lv,rfl,av,br,cf,aw,HE,HB,ah,bu,I,ad,N,bw,bx⟩:=hrel;obtain⟨la,lc,cg⟩:∃a cj,lv=qh a (iK ps) cj:=by
   rcases N.out.2 with⟨m,s⟩|⟨q,cap,de,m,_⟩
   ·exact⟨jh,0,by rw[m,s]⟩
   ·exact⟨_,_,m⟩
  subst cg;have ck:=hide br;have dg:iK ps<=64:=Aa;have cm:=hide av;have dh:i<=64:=Aa;clear br;have ⟨e0,e1,e2⟩:=Jh ad.out iI;by_cases Ib:i<n
  ·obtain⟨m',rfl⟩:∃m',ab=m'+1:=⟨ab - 1,Aa⟩;have ⟨a0,cn,a2,a3,a4,a5,cp,cq⟩:=XB bu.out iI;have di:(i:Int)<(n:Int):=Aa;have ai:Hid (∀(W B:gk)(x:uo),iF w B->E7 B af (Orch.part t i).ps x->xq prog 207 #[E6 (Orch.part t i).l x,u2] B λm T=>Ih B T u2 lr m (Orch.take h k (Orch.part t i) lr)/\iF B T):=λW B x D Z=>
    ba.out B (c7.out B D) (Orch.part t i) (bq.out i Ib) af x Z (λc cr=>aA (HS.out c cr) D.size) u2 lr cf ((aw.out w c8.out).below D (aC _))
   have HN:Hid (A=match Orch.take h k (Orch.part t i) lr with
     |none=>jh
     |some (m,Y)=>(Orch.takeE (Orch.take h k) t m' (i+1) Y).map (λr=>(ps.map l9++[m]++r.1,r.2))):=by
    show _=_;rw[←HE.out,Orch.takeE];cases Orch.take h k (Orch.part t i) lr with
    |none=>rfl
    |some er=>
     obtain⟨m,Y⟩:=er;simp only;cases Orch.takeE (Orch.take h k) t m' (i+1) Y with
     |none=>rfl
     |some es=>simp
   have ax:Hid (∀v r,Orch.take h k (Orch.part t i) lr=lj (v,r)->iK r<=iK lr):=λv r s=>take_len h s;clear HE av ba bb bc bq U N1 N2;cases hq:Orch.take h k (Orch.part t i) lr with
   |none=>
    have HR:Hid (A=jh):=by
     show _=_;rw[HN.out,hq]
    rw[hq]at ai;clear HN hq ax;go_wp2_with (first
     |(go_at_call 206;refine(bn.out _ i Ib HB.out).mono ?_;rintro m w1⟨x,rfl,Z,a7⟩;obtain⟨xa,xc,rfl⟩:=Z.shape;have C:=hide a7;have ay:=hide (Z.congr (λ_ s=>s) (λc D=>a7.block c (aA (HS.out c D) HB.out.size)));clear Z a7)
     |(go_at_call 207;refine(ai.out wr _ _ (HB.out.trans (C.out.mono HB.out.size)) ay.out).mono ?_;rintro m H⟨⟨vn,vs,G,dj,vm,e,dk,dm,rfl⟩,M⟩;have O:=hide (C.out.trans (M.mono C.out.size));clear M)
     |(refine wpList_store_row iI 183 _ _ iI (iL w.1+1) #[iE 0,pc iG,qh jh 0 0] iI iI 183 _ ((ir _ _ _ (aA (ltOf I.out) O.out.size)).trans ((O.out.block _ (ltOf I.out)).trans I.out)) Tryz.size183 iI (Qg _ _ _ _ _) ?_))
    refine Ht (λX=>X.1[iL w.1+1]?=lj (oh #[iE 0,pc iG,qh jh 0 0] 183)/\iF w X) ⟨ib _ _ _ _ _ _ ((ir _ _ _ (aA (ltOf I.out) O.out.size)).trans ((O.out.block _ (ltOf I.out)).trans I.out)),Cr ((HB.out.trans (O.out.mono HB.out.size)).alloc (by have:=HB.out.size;have:=O.out.size;omega) _) (cQ _) _⟩ ?_;rintro X⟨o,E⟩;have ⟨c0,Q,R⟩:=Jh o iI;have S:=hide E;clear E o e0 e1 e2 a0 cn a2 a3 a4 a5 cp cq;refine fy (v:=js #[vv 0 iG (qh jh 0 0),qh jh 0 0,gd sd]) (by simp[rz,results222,go_sem,c0,Q,R]) iI ⟨?_,S.out⟩;rw[HR.out];exact⟨_,_,_,_,_,_,_,_,iI⟩
   |some er=>
    obtain⟨v,Y⟩:=er;have HR:Hid ((Orch.takeE (Orch.take h k) t m' (i+1) Y).map (λr=>(ps.map l9++[v]++r.1,r.2))=A):=by
     show _=_;rw[HN.out,hq]
    have dp:=ax.out v Y hq;rw[hq]at ai;clear HN hq ax;go_wp2_with (first
     |(at_builtin;refine wpList_append_lies _ iI _ _ 177 iI (iL w.1+3) 183 i0 (vv 0 iG (qh jh 0 0)) 3 48 underlying177 aj ak al an iI Ae _ _ _ iI (((Ew N.out O.out).alloc _).alloc _) ⟨iL H.1+1,0,jh⟩ 1 1 (Eo (v,qh G (iK v.l) e)) iI iI ?hn ?h1 Ae ?c3 ?c4 ?c5 (iL H.1+1+1) ?hH ?_)
     |(go_at_call 206;refine(bn.out _ i Ib HB.out).mono ?_;rintro m w1⟨x,rfl,Z,a7⟩;obtain⟨xa,xc,rfl⟩:=Z.shape;have C:=hide a7;have ay:=hide (Z.congr (λ_ s=>s) (λc D=>a7.block c (aA (HS.out c D) HB.out.size)));clear Z a7)
     |(go_at_call 207;refine(ai.out wr _ _ (HB.out.trans (C.out.mono HB.out.size)) ay.out).mono ?_;rintro m H⟨⟨dq,rv,rfl,a8,aa,bz⟩,M⟩;obtain⟨G,e,rfl⟩:=a8.shape;have O:=hide (C.out.trans (M.mono C.out.size));have cu:Hid (D8 H (λc=>iL wr.1<=c/\c<iL H.1) v.l (qh G (iK v.l) e)):=a8.congr (λc D=>⟨aE C.out.size D.1,D.2⟩) (λ_ _=>rfl);have cw:=hide aa;have cx:=hide (BS.mono bz C.out.size (aC _));clear bz;have g2:=cellOf (j:=2) ((O.out.block _ (ltOf ad.out)).trans ad.out) iI;have dr:iL w.1+1+1<iL H.1:=aA (ltOf ad.out) O.out.size;clear M a8 aa))
    case hn=>exact jc (Ru H _ _).2
    case h1=>intro ae hu;simp only[Eo,bH,eC,or_false]at hu;rcases hu with rfl|rfl|rfl<;>rfl
    case c3=>unfold maxLen;omega
    case c4=>omega
    case c5=>have:=ah.out;have:=O.out.size;simp;omega
    case hH=>simp
    intro q cap L c6 az b5 _;obtain⟨r1,r2,r3⟩:=Akv (t:=v) (x:=qh G (iK v.l) e) ah.out N.out bw.out O.out cu.out (Dj H _ _) c6 az (by simpa using b5);have r4:=OX.grow (n:=iK ps+1) (cap:=cap) (t:=v) (x:=qh G (iK v.l) e) ah.out (λg' h'=>(N.out.lt g' h').2) bx.out O.out cx.out (Dj H _ _) az (by simpa using b5);have k2:L.1[iL w.1+1+1]?=_:=(r3.block _ Aa).trans ad.out;have k1:L.1[iL w.1+1]?=_:=(r3.block _ Aa).trans I.out;have k0:L.1[iL w.1]?=_:=(r3.block _ Aa).trans bu.out;have d2:=Vi 2 k2;have f2:=Dm (j:=2) k2;have s3:=hide (aE ah.out r3.size);have q2:=oe L (iL w.1+1+1) 2 _ 183 (qh (lj (iC q)) (iK ps+1) cap) k2;have Q2:=hide q2;have Q1:Hid ((L.setCell ⟨iL w.1+1+1,2,jh⟩ (qh (lj (iC q)) (iK ps+1) cap)).1[iL w.1+1]?=lj (oh #[iE 0,pc iG,qh jh 0 0] 183)):=(p7 _ ⟨iL w.1+1+1,2,jh⟩ _ _ (by show iL w.1+1≠iL w.1+1+1;omega)).trans k1;have Q0:Hid ((L.setCell ⟨iL w.1+1+1,2,jh⟩ (qh (lj (iC q)) (iK ps+1) cap)).1[iL w.1]?=lj (oh #[uu qg g,iE sh,iE P,iE f,iE V,gd K,uu qg u,qh F b d] 208)):=(p7 _ ⟨iL w.1+1+1,2,jh⟩ _ _ (by show iL w.1≠iL w.1+1+1;omega)).trans k0;have R1:=hide (ownsRow_setCell_below r1 (a:=⟨iL w.1+1+1,2,jh⟩) (by show iL w.1+1+1<iL w.1+3;omega) (qh (lj (iC q)) (iK ps+1) cap));have R2:Hid (∀p,p∈ps++[(v,qh G (iK v.l) e)]->D8 (L.setCell ⟨iL w.1+1+1,2,jh⟩ (qh (lj (iC q)) (iK ps+1) cap)) (Beside (iL w.1+3) (qh (lj (iC q)) (iK ps+1) cap) (L.setCell ⟨iL w.1+1+1,2,jh⟩ (qh (lj (iC q)) (iK ps+1) cap))) p.1.l p.2):=λp hp=>
     (r2 p hp).congr (λc D=>⟨D.1,by have:=D.2.1;simpa[mu] using this,D.2.2⟩) (λc D=>p7 _ ⟨iL w.1+1+1,2,jh⟩ _ _ (by have:=D.1;show c≠iL w.1+1+1;omega))
    have R3:Hid (iF w (L.setCell ⟨iL w.1+1+1,2,jh⟩ (qh (lj (iC q)) (iK ps+1) cap))):=(HB.out.trans (r3.mono Aa)).setCell (p:=⟨iL w.1+1+1,2,jh⟩) (by show iL w.1<=iL w.1+1+1;omega) _;have R4:Hid (iL w.1+3<=(L.setCell ⟨iL w.1+1+1,2,jh⟩ (qh (lj (iC q)) (iK ps+1) cap)).1.size):=by
     show _<=_;have:=s3.out;simpa[mu] using this
    have cy:Hid ((Orch.takeE (Orch.take h k) t m' (i+1) Y).map (λr=>((ps++[(v,qh G (iK v.l) e)]).map l9++r.1,r.2))=A):=by
     show _=_;rw[cP];exact HR.out
    have R5:Hid (OX (L.setCell ⟨iL w.1+1+1,2,jh⟩ (qh (lj (iC q)) (iK ps+1) cap)) (iL w.1+3) (qh (lj (iC q)) (iK ps+1) cap) (ps++[(v,qh G (iK v.l) e)])):=
     r4.keep (by simp[mu]) (λc D _ _=>p7 _ ⟨iL w.1+1+1,2,jh⟩ _ _ (by show c≠iL w.1+1+1;omega))
    clear r4;clear r1 r2 r3 k0 k1 k2 q2 c6 az b5 e0 e1 e2 g2;go_wp2;go_roundw
    case rel=>exact⟨i+1,m',Y,ps++[(v,qh G (iK v.l) e)],qh (lj (iC q)) (iK ps+1) cap,by go_num,by have:=cm.out;omega,by rw[aK,fv,ck.out],Aa,aw.out.trans cw.out,cy,R3,R4,Q0,Q1,Q2,R1,R2,R5⟩
    case measure=>simp[intOf];omega
  ·have cz:ab=0:=Aa;subst cz;clear av;have HR:Hid (A=lj (ps.map l9,lr)):=by
    show _=_;rw[←HE.out];simp[Orch.takeE]
   clear HE;go_wp2_with (refine wpList_store_row iI 183 _ _ iI (iL w.1+1) #[iE 0,pc iG,qh la (iK ps) lc] iI iI 183 _ I.out Tryz.size183 iI (Qg _ _ _ _ _) ?_);refine Ht (λX=>X.1[iL w.1+1]?=lj (oh #[iE 0,pc iG,qh la (iK ps) lc] 183)/\iF w X/\iL X.1=iL wr.1/\∀c,c≠iL w.1+1->X.1[c]?=wr.1[c]?) ⟨ib _ _ _ _ _ _ I.out,Cr HB.out (cQ _) _,Ad,λc D=>gn _ _ _ _ D⟩ ?_;rintro X⟨o,E,y,j⟩;have ⟨c0,Q,R⟩:=Jh o iI;have S:=hide E;have a1:=hide y;have a6:=hide j;clear E y j o e0 e1 e2;refine fy (v:=js #[vv 0 iG (qh la (iK ps) lc),u2,gd km]) (by simp[rz,results222,go_sem,c0,Q,R]) iI ⟨?_,S.out⟩;rw[HR.out];have dc:=OX.done N.out bx.out;refine⟨_,_,iI,?_,?_,Tq.keep (w:=wr) (base:=iL w.1+3) dc Aa (by rw[a1.out];exact aC _) (λc D _=>a6.out c Aa)⟩
   ·refine(Ake (B:=iL w.1+3) N.out bw.out (aC _)).congr (λc D=>⟨Aa,by rw[a1.out];exact D.2⟩) (λc D=>a6.out c Aa)
   ·exact aw.out
end
def Adw(pv:U->Y->U->Prop)(w:U)(e:Q)(w':U):Prop:=
 (∃W wb v,e=k8 v/\pv W v wb/\y w.1+2<=y W.1/\y w'.1=y wb.1/\∀b,b≠y w.1+1->w'.1[b]?=wb.1[b]?)/\iF w w'
def handed(pv:U->Y->U->Prop)(W:U)(e:Q)(w':U):Prop:=
 (∃(n:Int)(s:gU)(a:hU)(m c:Nat)(rv:Y)(ok:Bool),e=k8 (js #[i n s (qh a m c),rv,gd ok])/\pv W (js #[i n s (qh a m c),rv,gd ok]) w')/\iF W w'
def SZ(w)(g P:Nat)(f V K)(u:Nat)(k)(F:hU)(b d T)(j:Nat)(p:gY)(t:U->Y->U->Prop)(v:p=#[Ia g k P f V K u (qh F b d),T]/\(k=0/\j=219∨k=1/\j=220)∨p=#[Ia g k P f V K u (qh F b d),iE b,T]/\k=3/\j=222)(x:Hid (∀W,iF w W->Z prog j p W (handed t W))):Z prog 207 #[Ia g k P f V K u (qh F b d),T] w (Adw t w):=by
 refine Sec λl J=>?_;have i:=hide J;clear l J;have C:iL w.1+2<=((w.alloc (oh #[uu qg g,iE k,iE P,iE f,iE V,gd K,uu qg u,qh F b d] 208)).alloc (oh #[iE 0,pc iG,qh jh 0 0] 183)).1.size:=Ad;have q:=hide C;clear C;rcases v with⟨rfl,⟨rfl,rfl⟩|⟨rfl,rfl⟩⟩|⟨rfl,rfl,rfl⟩
 all_goals
  go_enter func207,ntmps207;go_wp2_with (first
   |(refine wpList_store_row iI 183 _ _ iI (iL w.1+1) #[iE n,pc s,qh a m c] iI iI 183 _ I.out Tryz.size183 iI (Qg _ _ _ _ _) ?_)
   |((first|go_at_call 219|go_at_call 220|go_at_call 222);refine(x.out _ (Dj _ _ _)).mono ?_;rintro A H⟨⟨n,s,a,m,c,r,e,rfl,M⟩,h⟩;have z:=hide M;have I:=hide ((h.block _ (ltOf i.out)).trans i.out);have O:=hide ((Dj _ _ _).trans (h.mono Ah));clear h M))
  refine Jr3 ?_;rintro X⟨o,E,y,j⟩;have ⟨c0,Q,R⟩:=Jh o iI;have S:=hide E;have a1:=hide y;have a6:=hide j;clear E y j o;exact fy (v:=js #[vv n s (qh a m c),r,gd e]) (by simp[rz,results207,go_sem,c0,Q,R]) iI ⟨⟨_,H,_,iI,z.out,q.out,a1.out,a6.out⟩,S.out⟩
def Al9(w)(f P:Nat)(B V K)(u:Nat)(F:hU)(b d T)(t:gk->uo->gk->Prop)(nn:Nat)(p:uo->Prop)(N:Hid (∀W,iF w W->xq prog 221 #[T,iE 32] W λk Y=>(∃v,k=k8 (js #[iE nn,v,gd km])/\p v)/\iF W Y))(Z:Hid (∀W v,p v->iF w W->xq prog 222 #[Ia f 2 P B V K u (qh F b d),iE nn,v] W (handed t W))):xq prog 207 #[Ia f 2 P B V K u (qh F b d),T] w (Adw t w):=by
 obtain⟨J,x⟩:=Ru w (oh #[uu qg f,iE 2,iE P,iE B,iE V,gd K,uu qg u,qh F b d] 208) (oh #[iE 0,pc iG,qh jh 0 0] 183);have U:=hide J;have A:=hide x;clear J x;have C:iL w.1+2<=((w.alloc (oh #[uu qg f,iE 2,iE P,iE B,iE V,gd K,uu qg u,qh F b d] 208)).alloc (oh #[iE 0,pc iG,qh jh 0 0] 183)).1.size:=Ad;have ad:=hide C;clear C;go_enter func207,ntmps207;go_wp2_with (first
  |(apply wpList_store_row iI 183 _ _ iI (iL w.1+1) #[iE n,pc s,qh a m c] iI iI 183 _ I.out Tryz.size183 iI (Qg _ _ _ _ _))
  |(go_at_call 221;apply(N.out _ (Dj _ _ _)).mono;rintro k D⟨⟨v0,rfl,G⟩,g⟩;have a7:=hide G;have l:=hide ((Dj _ _ _).trans (g.mono Ah));have i:=hide ((g.block _ (ltOf A.out)).trans A.out);have L:=(g.block _ (ltOf U.out)).trans U.out;have ⟨a0,a8,a2,a3,a4,a5,aa,ab⟩:=XB L iI;clear g G L)
  |(go_at_call 222;apply(Z.out _ _ a7.out l.out).mono;rintro k H⟨⟨n,s,a,m,c,r,e,rfl,M⟩,h⟩;have z:=hide M;have I:=hide ((h.block _ (ltOf i.out)).trans i.out);have O:=hide (l.out.trans (h.mono l.out.size));have q:=hide (ltOf i.out);clear h M a0 a8 a2 a3 a4 a5 aa ab))
 refine Jr3 ?_;rintro X⟨o,E,y,j⟩;have ⟨c0,Q,R⟩:=Jh o iI;have S:=hide E;have a1:=hide y;have a6:=hide j;clear E y j o;exact fy (v:=js #[vv n s (qh a m c),r,gd e]) (by simp[rz,results207,go_sem,c0,Q,R]) iI ⟨⟨_,H,_,iI,z.out,q.out,a1.out,a6.out⟩,S.out⟩
def TC(w)(a P:Nat)(f V K)(u:Nat)(F:hU)(b d T)(h:Hid (∀W,iF w W->Z prog 221 #[T,iE 32] W λe B=>e=k8 (js #[iE 0,qh jh 0 0,gd sd])/\iF W B)):Z prog 207 #[j a 2 P f V K u (qh F b d),T] w λe B=>Ra e/\iF w B:=by
 obtain⟨l,J⟩:=Ru w (oh #[uu qg a,iE 2,iE P,iE f,iE V,gd K,uu qg u,qh F b d] 208) (oh #[iE 0,pc iG,qh jh 0 0] 183);have U:=hide J;clear l J;go_enter func207,ntmps207;go_wp2_with (first
  |(apply wpList_store_row iI 183 _ _ iI (y w.1+1) #[iE 0,pc iG,qh jh 0 0] iI iI 183 _ I.out Tryz.size183 iI (Qg _ _ _ _ _))
  |(go_at_call 221;apply(h.out _ (Dj _ _ _)).mono;rintro e H⟨rfl,M⟩;have I:=hide ((M.block _ (ltOf U.out)).trans U.out);have O:=hide ((Dj _ _ _).trans (M.mono Ah));clear M))
 refine W4b ?_;rintro X⟨o,E⟩;have ⟨c0,Q,R⟩:=Jh o iI;have q:=hide E;clear E o;exact fy (v:=js #[i 0 iG (qh jh 0 0),qh jh 0 0,gd sd]) (by simp[rz,results207,go_sem,c0,Q,R]) iI ⟨⟨_,_,_,_,_,_,_,_,iI⟩,q.out⟩
structure Gr(w w':gk)(v v':uo):Prop where
 grown:w.grownBy w' v.ownBlock
 lies:v'.ownBlock=v.ownBlock∨∃g,v'.ownBlock=lj g/\iL w.1<=g
def Gr.refl(w v):Gr w w v v:=⟨⟨iI,iI,iI,aC _,λ_ _ _=>rfl⟩,Or.inl iI⟩
def Gr.trans{a c}(h:Gr r H a b)(k:Gr H E b c):Gr r E a c:=by
 have q:=h.grown.size;refine⟨⟨k.grown.os.trans h.grown.os,k.grown.tape.trans h.grown.tape,k.grown.output.trans h.grown.output,aE q k.grown.size,λi V f=>?_⟩,?_⟩
 ·rw[k.grown.block i Aa ?_,h.grown.block i V f];intro e;rcases h.2 with K|⟨g,K,G⟩
  ·grind
  grind
 ·rcases k.2 with d|⟨g,d,G⟩
  ·rw[d];exact h.2
  grind
def Gr.below{a}(h:Gr r H a b)(k:iF H E):Gr r E a b:=
 ⟨⟨k.os.trans h.grown.os,k.tape.trans h.grown.tape,k.output.trans h.grown.output,aE h.grown.size k.size,λi V f=>(k.block i (aA V h.grown.size)).trans (h.grown.block i V f)⟩,h.2⟩
def Gr.from{a}(W:iF r H)(X:Gr H E a b):Gr r E a b:=
 ⟨⟨X.grown.os.trans W.os,X.grown.tape.trans W.tape,X.grown.output.trans W.output,aE W.size X.grown.size,λN V f=>(X.grown.block N (aA V W.size) f).trans (W.block N V)⟩,by
  rcases X.2 with K|⟨g,K,G⟩
  ·exact Or.inl K
  ·exact Or.inr ⟨g,K,aE W.size G⟩⟩
def Gr.low{a}(h:Gr r H a b){base}(D:base<=y r.1)(d:∀g,a.ownBlock=lj g->base<=g):vu base r H:=
 ⟨h.grown.os,h.grown.tape,h.grown.output,h.grown.size,λk E=>h.grown.block k Aa (λe=>Aj)⟩
def Gr.keep{a}(h:Gr r H a b){g o}(G:r.1[g]?=lj o)(f:a.ownBlock≠lj g):=
 (h.grown.block g (T G) (λe=>f e.symm)).trans G
section
variable (w:U)
def Nw(a t u I e i)(R:P.underlying t=lj (.slice e))(r:P.underlying u=lj .string)(V:P.info? e=lj i)(N:i.zero=lj (uu qg 0))(D:i.size=1)(o:i.bytes=1)(v n)(z:0<n)(X:gZ)(d:w.ownsRow a e 1 v n X)(s:gU)(W:n+s.size<=maxLen)(k:n+s.size<=140737488355328)(c:a<=y w.1):∃U B,(Builtin.append_ #[t,u] I #[v,pc s]).run P w=.ok U B/\B.ownsRow a e 1 U (n+s.size) (X++zk s)/\Gr w B v U:=by
 obtain⟨U,B,Y,J,T,_⟩:=Lib.run_append_own_string (P:=P) w a t u I e i R r V N D o v n X d s W k c;refine⟨U,B,Y,J,T,?_⟩;have f:n+s.size<=9223372036854775807:=Aa;rcases d.2 with⟨_,F⟩|⟨g,b,H,rfl,m,G,S,p,h,j⟩
 ·omega
 ·by_cases Q:n+s.size<=b
  ·have Z:=Lib.run_append_room_string (P:=P) w t u I e i R r V D g n b H G s Q Aa;rw[Y]at Z;injection Z with q x;rw[q];exact Or.inl iI
  ·have Z:=Lib.run_append_grow_string (P:=P) w t u I e i (uu qg 0) R r V N (iC g) n b X (by rw[D];exact d.1) (d.cells (g:=g) iI) s Aa Aa (by rw[o];exact growslice_fits Aa Aa);rw[Y]at Z;injection Z with q x;rw[q];exact Or.inr ⟨y w.1,iI,aC _⟩
def Lr{g b o a}{Q:Exit->Act->gk->Prop}(H:o.guard=jh)(G x t u)(O:o.op=.call { callee:=.builtin .append,args:=#[G,x],argTypes:=#[t,u] })(c e i)(R:P.underlying t=lj (.slice e))(r:P.underlying u=lj .string)(V:P.info? e=lj i)(N:i.zero=lj (uu qg 0))(D:i.size=1)(d:i.bytes=1)(v n)(z:0<n)(X:gZ)(f:a.eval G=v)(h:w.ownsRow c e 1 v n X)(s:gU)(Z:a.eval x=pc s)(W:n+s.size<=maxLen)(k:n+s.size<=140737488355328)(Y:c<=y w.1)(j:∀U B,B.ownsRow c e 1 U (n+s.size) (X++zk s)->Gr w B v U->wpList P g Q b (a.put o.dst U) B):wpList P g Q (o::b) a w:=by
 refine wpList_plain H λK p=>?_;have ⟨U,B,l,J,T⟩:=Nw w c t u o.type e i R r V N D d v n z X h s W k Y;unfold Oper.wp execOp;simp only[O,resolve,invoke,builtin,Sem.run_bind,Sem.run_pure,Result.andThen_ok,cG,bC,cM,f,Z,l];exact p _ _ (j U B J T)
end
def Ye(w b v n)(a:Nat)(X:gT)(s:a<=8)(d:w.ownsRow b 5 1 v (N X) (A4 X))(k:b<=y w.1)(Z:N X<=100000):xq prog 80 #[v,iE n,iE a] w λe B=>∃U,e=k8 U/\B.ownsRow b 5 1 U (X++Orch.be n a).length (A4 (X++Orch.be n a))/\Gr w B v U:=by
 obtain⟨o,V,p,W,T⟩:=uz Tryz.info5;go_enter func80,ntmps80;go_wp2;go_loopw [0,7] (λu i wr=>∃j,j<=a/\i=iE ((j:Int) - 1)/\Hid (wr.ownsRow b 5 1 u (X++(Orch.be n a).take (a - j)).length (A4 (X++(Orch.be n a).take (a - j))))/\Hid (Gr w wr v u))
  (λ_ i _=>(intOf i+1).toNat)
 case atStart=>exact⟨a,aC _,iI,by show World.ownsRow _ _ _ _ _ _ _;rw[Nat.sub_self];simpa using d,Gr.refl _ _⟩
 case round=>
  obtain⟨j,l,rfl,O,x⟩:=hrel;cases j with
  |zero=>
   exact Xay
  |succ m=>
   rw[show((m+1:Nat):Int) - 1=(m:Int) by omega];refine Cvn λK f=>?_;have HB:=hide (UC n m Aa);generalize X++(Orch.be n a).take (a - (m+1))=L at *;go_wp2_with (at_builtin;refine wpList_append_own_at _ iI _ _ 37 iI b 5 o (uu qg 0) 1 1 underlying37 V p W T iI Ae _ _ _ iI (O.out.alloc _) (iC wr.1.size) 1 1 [_] iI iI (cell_one_new _ _ _) ?c2 ?c3 ?c4 ?c5 ?_)
   case c2=>intro u r;simp at r;subst r;rfl
   case c3=>unfold maxLen;omega
   case c4=>omega
   case c5=>have:=x.out.grown.size;simp;omega
   intro U H J D _ c;have M:=hide (x.out.trans (Gr.from (Bf wr _) ⟨D,by rcases c with h|h;exact Or.inl h;exact Or.inr ⟨_,h,Ad⟩⟩));refine Ge5 λg=>?_;clear J D c;exact Cl3
def VH(base:Nat)(w w':U)(ov:Y)(e:Q):Option (gT)->Prop
 |none=>(∃a m c,e=k8 (js #[qh a m c,gd sd]))/\w.grownBy w' ov.ownBlock
 |some o=>∃ov',e=k8 (js #[ov',gd km])/\w'.ownsRow base 5 1 ov' (N o) (A4 o)/\Gr w w' ov ov'
def IT{a b}(h:a=b):Ending.returned (js #[v,gd a])=k8 (js #[v,gd b]):=by rw[h]
def Ly{w:U}(h:w.ownsRow a 5 1 v n X):∃b c,v=qh b n c:=by
 rcases h.2 with⟨e,F⟩|⟨g,I,H,e,_⟩
 ·grind
 ·exact⟨_,_,e⟩
def YW(w t h f P s V K u)(F:hU)(p d x g)(Q:hU)(v q)(L:Hid (∀W,iF w W->Z prog 205 #[j h f P s V K u (qh F p d),i x g (qh Q v q)] W λe B=>e=k8 (gd sd)/\iF W B)):Z prog 182 #[t,j h f P s V K u (qh F p d),i x g (qh Q v q)] w λe B=>(∃a m c,e=k8 (js #[qh a m c,gd sd]))/\iF w B:=by
 go_enter func182,ntmps182;go_wp2_with (go_at_call 205;apply(L.out _ (Dj _ _ _)).mono;rintro e H⟨rfl,M⟩;have O:Hid _:=(Dj _ _ _).trans (M.mono Ah);clear M);go_ret2;exact⟨⟨_,_,_,iI⟩,O.out⟩
def Aoq(w a t)(X:gT)(Z:iK X<=4000)(c:w.ownsRow a 5 1 t (iK X) (A4 X))(m:a<=iL w.1)(h P:Nat)(C:P<=8)(s V K)(u:Nat)(F:hU)(b d x vs)(Q:hU)(q)(L:Hid (∀W,iF w W->xq prog 205 #[Ia h 0 P s V K u (qh F b d),vv x vs (qh Q 0 q)] W λe B=>e=k8 (gd km)/\iF W B)):xq prog 182 #[t,Ia h 0 P s V K u (qh F b d),vv x vs (qh Q 0 q)] w λe B=>∃S,e=k8 (js #[S,gd (decide ((X++Orch.be x P).length<=1000))])/\B.ownsRow a 5 1 S (X++Orch.be x P).length (A4 (X++Orch.be x P))/\Gr w B t S:=by
 obtain⟨l,J⟩:=Ru w (oh #[uu qg h,iE 0,iE P,iE s,iE V,gd K,uu qg u,qh F b d] 208) (oh #[iE x,pc vs,qh Q 0 q] 183);have r:=hide l;have U:=hide J;have N:=hide c;clear l J c;have T:Hid (∀W,iF w W->xq prog 80 #[t,iE x,iE P] W λe B=>∃f,e=k8 f/\B.ownsRow a 5 1 f (X++Orch.be x P).length (A4 (X++Orch.be x P))/\Gr W B t f):=λW D=>Ye W a t x P X C (Ew N.out D) (aE m D.size) Aa;have Y:(X++Orch.be x P).length<=4008:=by rw[aK,be_length];omega
 generalize X++Orch.be x P=O at *;go_enter func182,ntmps182;go_wp2_with (first
  |(go_at_call 205;apply(L.out _ (Dj _ _ _)).mono;rintro e H⟨rfl,M⟩;have j:=hide ((Dj _ _ _).trans (M.mono Ah));have z:=(M.block _ (ltOf r.out)).trans r.out;have p:=(M.block _ (ltOf U.out)).trans U.out;have ⟨_,n,o⟩:=Jh z iI;have v:=cellOf (j:=0) p iI;have g:=hide p;clear M z p)
  |(go_at_call 80;apply(T.out _ j.out).mono;rintro e E⟨f,rfl,k,R⟩;obtain⟨I,A,rfl⟩:=Ly k;have i:=hide k;have y:=hide (Gr.from j.out R);have G:=cellOf (j:=2) (R.keep g.out (λe=>by have:=(Ef N.out e).2;omega)) iI;clear k R))
 exact Czn
def Aor(w a t)(X:gT)(hx:iK X<=4000)(c:w.ownsRow a 5 1 t (iK X) (A4 X))(v:a<=iL w.1)(h P:Nat)(s V K)(u:Nat)(F:hU)(b d x j)(ad:j.size<=200)(Q:hU)(q)(L:Hid (∀W,iF w W->xq prog 205 #[Ia h 1 P s V K u (qh F b d),vv x j (qh Q 0 q)] W λe B=>e=k8 (gd km)/\iF W B)):xq prog 182 #[t,Ia h 1 P s V K u (qh F b d),vv x j (qh Q 0 q)] w λe B=>∃S,e=k8 (js #[S,gd (decide ((X++Orch.be j.size 4).length+j.size<=1000))])/\B.ownsRow a 5 1 S ((X++Orch.be j.size 4).length+j.size) (A4 (X++Orch.be j.size 4)++zk j)/\Gr w B t S:=by
 obtain⟨G,I,Y,Z,aa⟩:=uz Tryz.info5;obtain⟨l,J⟩:=Ru w (oh #[uu qg h,iE 1,iE P,iE s,iE V,gd K,uu qg u,qh F b d] 208) (oh #[iE x,pc j,qh Q 0 q] 183);have r:=hide l;have U:=hide J;have N:=hide c;clear l J c;have T:Hid (∀W,iF w W->xq prog 80 #[t,iE j.size,iE 4] W λe B=>∃f,e=k8 f/\B.ownsRow a 5 1 f (X++Orch.be j.size 4).length (A4 (X++Orch.be j.size 4))/\Gr W B t f):=λW D=>Ye W a t j.size 4 X Aa (Ew N.out D) (aE v D.size) Aa;have a1:(X++Orch.be j.size 4).length<=4008/\4<=(X++Orch.be j.size 4).length:=by rw[aK,be_length];omega
 generalize X++Orch.be j.size 4=O at *;obtain⟨ae,af⟩:=a1;go_enter func182,ntmps182;go_wp2_with (first
  |(at_builtin;refine Lr _ iI _ _ 37 9 iI a 5 G underlying37 underlying9 I Y Z aa _ (iK O) ?hn (A4 O) iI a6.out j iI ?h63 ?hby ?hba ?_)
  |(go_at_call 205;apply(L.out _ (Dj _ _ _)).mono;rintro e H⟨rfl,M⟩;have A:=hide ((Dj _ _ _).trans (M.mono Ah));have z:=(M.block _ (ltOf r.out)).trans r.out;have p:=(M.block _ (ltOf U.out)).trans U.out;have ao:=cellOf (j:=1) z iI;have b1:=cellOf (j:=1) p iI;have g:=hide p;clear M z p)
  |(go_at_call 80;apply(T.out _ A.out).mono;rintro e w2⟨f,rfl,k,n⟩;obtain⟨qa,qc,rfl⟩:=Ly k;have a6:=hide k;have a7:=hide n;have C:=hide (Gr.from A.out n);have E:=hide (n.keep g.out (λe=>by have:=(Ef N.out e).2;omega));have g1:=cellOf (j:=1) E.out iI;have a8:=hide (aE v C.out.grown.size);clear k n))
 case hn=>omega
 case h63=>unfold maxLen;omega
 case hby=>omega
 case hba=>exact a8.out
 intro v3 w3 m R;obtain⟨ra,rc,rfl⟩:=Ly m;have i:=hide m;have y:=hide (C.out.trans R);have k2:=cellOf (j:=2) (R.keep E.out (λe=>by
  rcases a7.out.2 with o|⟨ab,o,hg⟩
  ·rw[o]at e;have:=(Ef N.out e).2;omega
  ·rw[o]at e;have h1:ab=iL w.1+1:=by simpa using e
   have h2:=ltOf g.out;omega)) iI
 clear m R g1 b1 ao;go_wp2;exact Czn
def goE(f:Nat->gT->Option (gT)):Nat->Nat->gT->Option (gT)
 |0,_,o=>lj o
 |n+1,i,o=>match f i o with
  |none=>jh
  |some o'=>goE f n (i+1) o'
def Ai9(base:Nat)(w w':U)(ov:Y)(e:Q):Option (gT)->Prop
 |none=>(∃a m c,e=k8 (js #[qh a m c,gd sd]))/\w.grownBy w' ov.ownBlock
 |some o=>∃ov',e=k8 (js #[ov',gd (decide (N o<=1000))])/\w'.ownsRow base 5 1 ov' (N o) (A4 o)/\Gr w w' ov ov'
def Aos(w c l)(Y:gT)(hx:iK Y<=4000)(Jc:w.ownsRow c 5 1 l (iK Y) (A4 Y))(j:c<=iL w.1)(sg P:Nat)(f V K)(u:Nat)(Z)(F:hU)(b d x vs)(Q:hU)(v lc:Nat)(bq:v<=64)(Bd)(br:1000<=Bd)(bu:Bd<=1300)(O)(S:Z=2/\O=Y++Orch.be v 4∨Z=3/\O=Y)(s:Nat->gT->Option (gT))(E)(aq:goE s v 0 O=E)(R:Nat->Orch.V)(ex:hQ)(b8:Hid (∀W,vu c w W->∀i,i<v->∃(m:Nat)(J:hU)(T N:Nat),Q=lj (iC m)/\m<iL W.1/\v<=lc/\ex i=qh J T N/\W.cell? ⟨m,i * 3,jh⟩=lj (iE (R i).n)/\W.cell? ⟨m,i * 3+1,jh⟩=lj (pc (R i).s)/\W.cell? ⟨m,i * 3+2,jh⟩=lj (ex i)))(pl:Nat->Lt)(a7:Nat->gk->uo->Prop)(A:Hid (∀W,vu c w W->∀i,i<v->xq prog 206 #[Ia sg Z P f V K u (qh F b d),iE i] W λe g=>∃J T N,e=k8 (E6 (pl i) (qh J T N))/\a7 i W (qh J T N)/\iF W g))(a8:Hid (∀a W,vu c w a->iF a W->∀i,i<v->∀n,a7 i a n->∀ou(ys:gT),iK ys<=Bd->c<=iL W.1->W.ownsRow c 5 1 ou (iK ys) (A4 ys)->xq prog 182 #[ou,E6 (pl i) n,vv (R i).n (R i).s (ex i)] W λe g=>VH c W g ou e (s i ys)))(hf:∀i ys q,s i ys=lj q->iK q<=1000)(bw:iK O<=Bd∨v=0)(b9:iK O<=4008)(L:Hid (∀W,iF w W->xq prog 205 #[Ia sg Z P f V K u (qh F b d),vv x vs (qh Q v lc)] W λe g=>e=k8 (gd km)/\iF W g)):xq prog 182 #[l,Ia sg Z P f V K u (qh F b d),vv x vs (qh Q v lc)] w λe g=>Ai9 c w g l e E:=by
 have ba:=hide aq;obtain⟨n0,n1⟩:=Ru w (oh #[uu qg sg,iE Z,iE P,iE f,iE V,gd K,uu qg u,qh F b d] 208) (oh #[iE x,pc vs,qh Q v lc] 183);have r:=hide n0;have U:=hide n1;have HO:=hide Jc;have bb:=hide hf;clear n0 n1 Jc aq hf;rcases S with⟨rfl,S⟩|⟨rfl,S⟩;have bc:Hid (∀W,iF w W->xq prog 80 #[l,iE v,iE 4] W λe g=>∃v',e=k8 v'/\g.ownsRow c 5 1 v' (iK O) (A4 O)/\Gr W g l v'):=λW hb=>by
  rw[S];exact Ye W c l v 4 Y Aa (Ew HO.out hb) (aE j hb.size) Aa
 clear S
 all_goals
  go_enter func182,ntmps182;go_wp2_with (first
   |(go_at_call 205;refine(L.out _ (Dj _ _ _)).mono ?_;rintro e H⟨rfl,M⟩;have ae:Hid (iF w H):=(Dj _ _ _).trans (M.mono Ah);have z:=(M.block _ (ltOf r.out)).trans r.out;have p:=(M.block _ (ltOf U.out)).trans U.out;have ao:=cellOf (j:=1) z iI;have b2:=cellOf (j:=2) p iI;have M0:=hide z;have M1:=hide p;clear M z p)
   |(go_at_call 80;refine(bc.out _ ae.out).mono ?_;rintro e wq⟨v',rfl,ah,ag⟩;obtain⟨I,y,rfl⟩:=Ly ah;have ar:=hide ah;have au:=hide ag;have g2:=cellOf (j:=2) (ag.keep M1.out (λe=>by have:=(Ef HO.out e).2;omega)) iI;clear ah ag))
 rotate_left
 have ar:Hid (H.ownsRow c 5 1 l (iK O) (A4 O)):=by
  show World.ownsRow _ _ _ _ _ _ _;rw[S];exact Ew HO.out ae.out
 have au:Hid (Gr H H l l):=Gr.refl _ _;clear S
 all_goals
  go_loopw [0,48] (λu0 bd wr=>∃(i:Nat)(t:gT),bd=iE i/\i<=v/\(iK t<=Bd∨i=v)/\iK t<=4008/\Hid (goE s (v - i) i t=E)/\Hid (wr.ownsRow c 5 1 u0 (iK t) (A4 t))/\Hid (Gr H wr l u0))
   (λ_ i _=>v - (intOf i).toNat)
  case atStart=>exact⟨0,O,iI,bF _,Aa,b9,ba,ar,au⟩
  case round=>
   obtain⟨i,t,rfl,bx,bz,c6,HG,ad,ab⟩:=hrel;obtain⟨I,y,hq⟩:=Ly ad.out;subst hq;have av:Hid (∀m,l.ownBlock=lj m->c<=m/\m<iL w.1):=λm e=>Ef HO.out e;have bf:Hid (vu c w H):=ae.out.mono j;have B:Hid (vu c w wr):=bf.out.trans (ab.out.low (aE j ae.out.size) (λm e=>(av.out m e).1));by_cases a1:i<v
   ·have z:=ab.out.keep M0.out (λe=>by have:=(av.out _ e).2;omega);have ⟨c7,c8,c9,cc,cd,cf,cg,cj⟩:=XB z iI;have bg:=ltOf z;have MR:=hide z;obtain⟨m,J,T,N,bh,ck,cm,ai,e0,e1,e2⟩:=b8.out wr B.out i a1;subst bh;have aw:=hide ai;rw[ai]at e2;have cn:(i:Int)<(v:Int):=Aa;have ax:iK t<=Bd:=Aa;have h:Hid (E=match s i t with|none=>jh|some q=>goE s (v - (i+1)) (i+1) q):=by
     show _=_;rw[←HG.out,show v - i=(v - (i+1))+1 by omega,goE]
    have o:Hid (vu c w (wr.alloc (oh #[iE (R i).n,pc (R i).s,qh J T N] 183))):=B.out.alloc (aE j B.out.size) _;have af:=hide (iw wr (oh #[iE (R i).n,pc (R i).s,qh J T N] 183));have cp:Hid ((wr.alloc (oh #[iE (R i).n,pc (R i).s,qh J T N] 183)).1[iL w.1]?=_):=(ir _ _ _ bg).trans z;clear z ai HG;have aj:=hide (bb.out i t);cases G:s i t with
    |none=>
     have k:Hid (E=jh):=by
      show _=_;rw[h.out,G]
     have X:Hid (∀a W,vu c w a->iF a W->∀n,a7 i a n->W.ownsRow c 5 1 (qh I (iK t) y) (iK t) (A4 t)->xq prog 182 #[qh I (iK t) y,E6 (pl i) n,vv (R i).n (R i).s (qh J T N)] W λe g=>(∃bj bk bm,e=k8 (js #[qh bj bk bm,gd sd]))/\W.grownBy g (qh I (iK t) y).ownBlock):=λa W h1 h2 n h3 h4=>by
      exact Z24
     clear h G aj a8;go_wp2;go_region_with (first
      |(
        go_at_call 206;refine(A.out _ H7 i a1).mono ?_;rintro e w2⟨ya,ym,yc,rfl,a6,D⟩;refine Dxn λak C aa k2=>?_;have ⟨l0,l1,l2⟩:=Jh k2 iI;clear a6 D k2)
      |(
        go_at_call 182;refine(X.out _ _ H7 (by first|exact C.out|exact C.out.drew) _ ak.out (Ew ((ad.out.alloc _)) I1)).mono ?_;rintro e w3⟨⟨za,zm,zc,rfl⟩,ay⟩;have az:Hid (w.grownBy w3 l.ownBlock):=(Gr.trans (Gr.from ae.out (ab.out.below (by first|exact aa.out|exact aa.out.drew))) (⟨ay,Or.inl iI⟩:Gr _ w3 _ (qh I (iK t) y))).grown;clear ay))
     all_goals go_wp2
     all_goals go_ret2
     all_goals rw[k.out]
     all_goals exact⟨⟨_,_,_,iI⟩,by first|exact az.out|exact grownBy_drew az.out⟩
    |some q=>
     have k:Hid (goE s (v - (i+1)) (i+1) q=E):=by
      show _=_;rw[h.out,G]
     have cq:=aj.out q G;have X:Hid (∀a W,vu c w a->iF a W->∀n,a7 i a n->W.ownsRow c 5 1 (qh I (iK t) y) (iK t) (A4 t)->xq prog 182 #[qh I (iK t) y,E6 (pl i) n,vv (R i).n (R i).s (qh J T N)] W λe g=>∃al,e=k8 (js #[al,gd km])/\g.ownsRow c 5 1 al (iK q) (A4 q)/\Gr W g (qh I (iK t) y) al):=λa W h1 h2 n h3 h4=>by
      exact Z24
     clear h G aj a8;go_wp2;go_region_with (first
      |(
        go_at_call 206;refine(A.out _ H7 i a1).mono ?_;rintro e w2⟨ya,ym,yc,rfl,a6,D⟩;refine Dxn λak C aa k2=>?_;have ⟨l0,l1,l2⟩:=Jh k2 iI;clear a6 D k2)
      |(
        go_at_call 182;refine(X.out _ _ H7 (by first|exact C.out|exact C.out.drew) _ ak.out (Ew ((ad.out.alloc _)) I1)).mono ?_;rintro e w3⟨bn,rfl,b5,b6⟩;have bo:=hide b5;have b7:Hid (Gr H w3 l bn):=(ab.out.below (by first|exact aa.out|exact aa.out.drew)).trans b6;clear b5 b6))
     all_goals go_wp2
     all_goals go_roundw
     all_goals try(case rel=>exact⟨i+1,q,by go_num,Aa,Aa,Aa,k,bo,by first|exact b7|exact b7.out.below (Fg _)⟩)
     all_goals try(case measure=>simp[intOf];omega)
   ·have an:i=v:=Aa;have k:Hid (E=lj t):=by
     show _=_;rw[←HG.out,an,Nat.sub_self,goE]
    have cr:=hide an;clear an HG;go_wp2;go_ret2;rw[k.out];exact⟨_,IT Aaq,ad.out,Gr.from ae.out ab.out⟩
def zV:Orch.V:=.mk 0 iG []
def Acx(g:gT->u->Orch.V->Option (gT))(t a):∀n i o,n+i=N a ->
  goE (λi j=>g j (Orch.part t i) (a.getD i zV)) n i o=Orch.putE g t (a.drop i) i o:=by
 intro n
 induction n with
 |zero=>intro i o h;rw[eW Aa];rfl
 |succ n O=>
  intro i o h;have V:i<N a:=Aa;rw[goE,eK V,Orch.putE,Q5 _ _ _ V]
  grind
def put_len(a):∀k X t v o,Orch.put a k X t v=lj o->N o<=1000:=by
 intro k;cases k with
 |zero=>intro X t v o h;simp[Orch.put]at h
 |succ k=>
  intro X t v o h;unfold Orch.put at h
  grind
def D8.fam{w S b}(h:D8 w S b v):∃Y:Nat->uo,∀i (V:i<N b),
  ∃g I,v=qh (lj (iC g)) (N b) I/\N b<=I/\S g/\D8 w S b[i].l (Y i)/\∀j u,(Eo (b[i],Y i))[j]?=lj u->w.cell? ⟨g,i * 3+j,jh⟩=lj u:=by
 cases h with
 |nil a c=>simp
 |row d g I F C H M f=>
  refine⟨λi=>(d.getD i (zV,qh jh 0 0)).2,λi V=>?_⟩;have p:i<N d:=by simpa using V
  simp only[(Q5 _ _ _ p)];refine⟨g,I,by rw[bV],Aj,H,?_,λj u r=>?_⟩
  ·grind
  ·apply M _ u;have e:j<3:=by
    have:=(aF.1 r).1
    rwa[FO]at this
   rw[Uc Eo 3 FO d i j e,aH p,eM]
   rwa[List.getElem_map]at r
def OY(valid:gS)(Tabs:gX)(k:Nat):Prop:=∀w,Tabs w->∀base,Akr<=base->base<=y w.1->∀t,M k t->∀psv,O w (λb=>b<base) t.ps psv->∀v(lv:Y),D8 w (λb=>b<base) v.l lv->∀ov(xs:gT),N xs<=1000+4 * (10 - k)->w.ownsRow base 5 1 ov (N xs) (A4 xs) ->
 Z prog 182 #[ov,E6 t.l psv,OO v lv] w λe w'=>VH base w w' ov e (Orch.put valid k xs t v)
def Agw:Option (gT)->Option (gT)
 |none=>jh
 |some o=>if N o<=1000 then lj o else jh
def put_eq(a k X t v):Orch.put a (k+1) X t v=if Orch.fits a t v then Agw (Orch.putE (Orch.put a k) t v.l 0 (X++head t v)) else jh:=by
 rw[Orch.put];split
 ·cases Orch.putE _ t v.l 0 _<;>rfl
 ·rfl
def RY{w B t e o}(h:Ai9 a w B t e o):VH a w B t e (Agw o):=by
 cases o with
 |none=>exact h
 |some o=>
  obtain⟨S,rfl,O,R⟩:=h;by_cases K:N o<=1000
  ·rw[Agw,aL K,decide_eq_true K];exact⟨S,iI,O,R⟩
  ·rw[Agw,aM K,decide_eq_false K];obtain⟨b,c,rfl⟩:=Ly O;exact⟨⟨_,_,_,iI⟩,R.grown⟩
section
def Ahu(U:It h z)(k)(hk:k+1<=9)(ih:OY h z k):OY h z (k+1):=by
 intro w u c M d t p an T v lv Y n X ao y;obtain⟨F,f,rfl⟩:=T.shape;obtain⟨Q,q,rfl⟩:=Y.shape;have hF:∀W,iF w W->xq prog 205 #[E6 t.l (qh F (iK t.ps) f),OO v (qh Q (iK v.l) q)] W λe B=>e=k8 (gd (Orch.fits h t v))/\iF W B:=λW D=>Zo U W (U.kept (U.size u) D u) t p F f v Q q;rw[put_eq];cases R:Orch.fits h t v with
 |false=>
  rw[R]at hF;simp only[aR,bR];apply(YW w n _ _ _ _ _ _ _ F _ f _ _ Q _ q hF).mono;rintro e B⟨ad,D⟩;exact⟨ad,(⟨D.os,D.tape,D.output,D.size,λk af _=>D.block k af⟩)⟩
 |true=>
  rw[R]at hF;simp only[bQ];have ah:∀W,vu c w W->z W:=λW a=>U.kept M a u;rcases Nv p.1 with a|a|a
  ·have g:v.l = []:=by
    simp only[Orch.fits,a,aU,decide_eq_true_eq]at R;exact bN.1 R.2
   have E:head t v=Orch.be v.n t.l.size:=by simp[head,a]
   have am:=Uk p.1 a;rw[E,g,Orch.putE];rw[g]at hF;simp only[E6,a,aW]at hF⊢;apply(Aoq w c n X Aa y d _ _ Aa _ _ _ _ F _ f _ _ Q q hF).mono;rintro e B⟨G,rfl,O,I⟩;exact RY (o:=lj (X++Orch.be v.n t.l.size)) ⟨G,iI,O,I⟩
  ·have K:=R;simp only[Orch.fits,a,aU,decide_eq_true_eq]at K;have g:v.l = []:=bN.1 K.2;have E:head t v=Orch.be v.s.size 4++v.s.data.toList:=by simp[head,a]
   rw[E,g,Orch.putE];rw[g]at hF;simp only[E6,a,aW]at hF⊢;apply(Aor w c n X Aa y d _ _ _ _ _ _ F _ f _ _ K.1.2.1 Q q hF).mono;rintro e B⟨G,rfl,O,I⟩;have ae:(X++(Orch.be v.s.size 4++v.s.data.toList)).length=(X++Orch.be v.s.size 4).length+v.s.size:=by
    rw[←cB,aK,←qw]
   refine RY (o:=lj (X++(Orch.be v.s.size 4++v.s.data.toList))) ⟨G,by rw[ae],?_,I⟩
   rwa[ae,←cB,Iv]
  ·have S:iK v.l<=64/\(∀i,i<iK v.l->t.l.shape=2∨t.l.shape=3/\i<iK t.ps)/\((t.l.shape:Int)=2/\X++head t v=X++Orch.be (iK v.l) 4∨(t.l.shape:Int)=3/\X++head t v=X):=by
    have:=p.2.2.1;rcases a with a|a<;>simp only[Orch.fits,a,aU,decide_eq_true_eq]at R<;>exact⟨Aa,λi V=>Aa,by simp[head,a]⟩
   obtain⟨aq,al,S⟩:=S;have ar:(X++head t v).length<=iK X+4:=by rcases S with⟨_,e⟩|⟨_,e⟩<;>rw[e]<;>simp[be_length]
   obtain⟨a1,a6⟩:=Y.fam;have a7:=Acx (Orch.put h k) t v.l (iK v.l) 0 (X++head t v) Aa;rw[List.drop_zero]at a7;refine(Aos w c n X Aa y d _ _ _ _ _ _ _ F _ f v.n v.s Q (iK v.l) q Aa (1000+4 * (10 - k)) Aa Aa (X++head t v) S (λi r=>Orch.put h k r (Orch.part t i) (v.l.getD i zV)) _ a7
    (λi=>v.l.getD i zV) a1 (λW D i V=>?_) (λi=>(Orch.part t i).l) (λi W x=>E7 W (λb=>b<c) (Orch.part t i).ps x) (λW D i V=>?_)
    (λW0 W S a8 i V x Z ou r A ai ag=>?_) (λi r o O=>put_len h _ _ _ _ _ O) (Or.inl Aa) Aa hF).mono (λe B he=>RY he)
   ·obtain⟨l,aj,H,aa,m,L,s⟩:=a6 i V;obtain⟨J,N,ak⟩:=L.shape;simp only[Value.slice.injEq]at H;obtain⟨rfl,_,rfl⟩:=H;rw[Q5 _ _ _ V];exact⟨l,J,_,N,iI,aA m (aE d D.size),aa,ak,(D.cell (p:=⟨l,i * 3,jh⟩) m).trans (s 0 _ iI),(D.cell (p:=⟨l,i * 3+1,jh⟩) m).trans (s 1 _ iI),(D.cell (p:=⟨l,i * 3+2,jh⟩) m).trans (s 2 _ iI)⟩
   ·apply(MY W (λb=>b<c) t p _ (T.congr (λ_ P=>P) (λb j=>D.block b j)) (λb j=>aA j (aE d D.size)) i (al i V)).mono;rintro e B⟨x,rfl,Z,j⟩;obtain⟨J,N,rfl⟩:=Z.shape;exact⟨J,_,N,iI,Z,j⟩
   ·obtain⟨l,aj,H,aa,m,L,s⟩:=a6 i V;have ab:vu c w W:=S.trans (a8.mono (aE d S.size));have C:D8 W (λb=>b<c) (v.l.getD i zV).l (a1 i):=by
     rw[Q5 _ _ _ V];exact L.congr (λ_ P=>P) (λb j=>ab.block b j)
    exact ih W (ah W ab) c M ai (Orch.part t i) (VE p i (al i V)) x (Z.congr (λ_ P=>P) (λb j=>a8.block b (aA j (aE d S.size)))) _ _ C ou r A ag
def Alh(U:It h z):∀k,k<=9->OY h z k:=by
 intro k
 induction k with
 |zero=>intro _ w _ b _ _ t l;exact absurd l (by simp[M])
 |succ k O=>intro a;exact Ahu U k a (O Aa)
end
def Ajl(w w':U)(e:Q):Option (gT)->Prop
 |none=>e=k8 (js #[qh jh 0 0,gd sd])
 |some o=>∃ov,e=k8 (js #[ov,gd km])/\w'.ownsRow w.1.size 5 1 ov (N o) (A4 o)
def Aik(w)(h f P:Nat)(s V K)(u:Nat)(F:hU)(p d x g)(Q:hU)(v q)(R:Hid (∀W,iF w W->Z prog 182 #[qh jh 0 0,j h f P s V K u (qh F p d),i x g (qh Q v q)] W λe B=>(∃t m c,e=k8 (js #[qh t m c,gd sd]))/\iF W B)):Z prog 142 #[j h f P s V K u (qh F p d),i x g (qh Q v q)] w λe B=>Ajl w B e jh/\iF w B:=by
 go_enter func142,ntmps142;go_wp2_with (go_at_call 182;apply(R.out _ (Dj _ _ _)).mono;rintro e H⟨⟨t,m,c,rfl⟩,M⟩;have O:Hid _:=(Dj _ _ _).trans (M.mono Ah);clear M);go_ret2;exact⟨iI,O.out⟩
def Ail(w)(h c P:Nat)(s V K)(u:Nat)(F:hU)(p d x g)(Q:hU)(v a)(q:iA)(R:Hid (∀W,iF w W->Z prog 182 #[qh jh 0 0,j h c P s V K u (qh F p d),i x g (qh Q v a)] W λe B=>(∃t,e=k8 (js #[t,gd km])/\q t B)/\iF W B)):Z prog 142 #[j h c P s V K u (qh F p d),i x g (qh Q v a)] w λe B=>(∃t,e=k8 (js #[t,gd km])/\q t B)/\iF w B:=by
 go_enter func142,ntmps142;go_wp2_with (go_at_call 182;apply(R.out _ (Dj _ _ _)).mono;rintro e H⟨⟨t,rfl,f⟩,M⟩;have o:=hide f;have O:Hid _:=(Dj _ _ _).trans (M.mono Ah);clear M f);go_ret2;exact⟨⟨_,iI,o.out⟩,O.out⟩
section
def Af1(U:It h z)(w)(V:z w)(t)(l:M 9 t)(S X)(Z:E7 w S t.ps X)(v m)(L:D8 w S v.l m)(H:∀b,S b->b<y w.1):xq prog 142 #[E6 t.l X,OO v m] w λe B=>Ajl w B e (Orch.put h 9 [] t v)/\iF w B:=by
 obtain⟨F,d,rfl⟩:=Z.shape;obtain⟨j,q,rfl⟩:=L.shape;have Q:∀W,iF w W->xq prog 182 #[qh jh 0 0,E6 t.l _,OO v _] W λe B=>VH W.1.size W B _ e _:=λW D=>
  Alh U 9 Aa W (U.kept (U.size V) D V) W.1.size (aE (U.size V) D.size) (aC _) t l _ (Z.congr (λb a=>aA (H b a) D.size) (λb a=>D.block b (H b a))) v _ (L.congr (λb a=>aA (H b a) D.size) (λb a=>D.block b (H b a))) _ [] Ad (xn _ _ _ _)
 cases f:Orch.put h 9 [] t v with
 |none=>
  rw[f]at Q;refine Aik w _ _ _ _ _ _ _ F _ d _ _ j _ q (λW D=>(Q W D).mono ?_);rintro e B⟨N,G⟩;exact⟨N,G.os,G.tape,G.output,G.size,λk E=>G.block k E (by simp[yq])⟩
 |some o=>
  rw[f]at Q;refine(Ail w _ _ _ _ _ _ _ F _ d _ _ j _ q (λi B=>B.ownsRow w.1.size 5 1 i (iK o) (A4 o)) (λW D=>(Q W D).mono ?_)).mono (λe B a=>a);rintro e B⟨i,rfl,O,R⟩;have G:=R.grown;refine⟨⟨i,iI,⟨O.1,?_⟩⟩,G.os,G.tape,G.output,G.size,λk E=>G.block k E (by simp[yq])⟩;rcases O.2 with a|⟨g,I,c,C,J,T⟩
  ·exact Or.inl a
  ·exact Or.inr ⟨g,I,c,C,aE D.size J,T⟩
end
end Go.Proofs.YtcbilgmfdgpomaaGreatDoor
