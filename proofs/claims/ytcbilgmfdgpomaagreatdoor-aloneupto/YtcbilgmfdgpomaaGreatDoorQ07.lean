import Derived.Shelf.Strings.Split
import Derived.Shelf.Sort.Plain
import Derived.Deep.DrawnRows
import Derived.Deep.Upon
import Derived.Test.YtcbilgmfdgpomaaGreatDoorODec
import Derived.Deep.RegionHeld3
import Derived.Shelf.Slices.In.SortNone
import Derived.Shelf.SlSortCmp.NoneTotal
import Derived.Shelf.Small.Strs
open Array renaming size → iL
set_option maxHeartbeats 8000000
set_option maxRecDepth 8000
set_option linter.all false
open Option renaming some → lj,none → jh
open Go.Proofs.Tryz renaming prog → y7,underlying9 → rh,underlying106 → yj,underlying3 → yv,zeroValue3 → jw,zeroValue9 → lh,underlying126 → kq,underlying71 → qb,zeroValue126 → yl,underlying0 → og,underlying4 → we,underlying5 → gz,zeroValue71 → uj,zeroValue0 → kt,sizeOf3 → zt,zeroValue4 → qf,zeroValue5 → gl,sizeOf9 → np,sizeOf126 → qu,isAgg3 → ki,isAgg9 → x7,underlying123 → oz,underlying174 → ng,underlying193 → kg,underlying194 → vw,underlying242 → jz,underlying245 → sx,underlying270 → qj,underlying271 → xk,sizeOf71 → vh,isAgg126 → fx,zeroValue123 → je,zeroValue174 → wo,zeroValue193 → mg,zeroValue194 → wx,zeroValue242 → jf,zeroValue245 → xii,zeroValue270 → mi,zeroValue271 → nq,sizeOf0 → yh,sizeOf4 → o3,sizeOf5 → pt,isAgg71 → ko,isAgg0 → vb,isAgg4 → ni,isAgg5 → rm,sizeOf123 → vqu,sizeOf174 → zjo,sizeOf193 → uy,sizeOf194 → jmi,sizeOf242 → xy,sizeOf245 → vwq,sizeOf270 → pw,sizeOf271 → vy,ntmps236 → mif,isAgg123 → ejr,isAgg174 → dkk,isAgg193 → wcm,isAgg194 → taf,isAgg242 → ccu,isAgg245 → su,isAgg270 → mxu,isAgg271 → r9,func236 → eyq,ntmps92 → yz,func92 → lp,prog → Y
open Go renaming World → gk,Calls → xq,Value → uo,heap_alloc_new → iw,TypeId → q9,run_underlying → qi,leftOf → gi,keyOf → ye,bodyPost_ret → fy,results → rz,MapEntry → po,heap_setCell_other → p7,World → I,Calls → u
open Go.RowKit renaming Below → vu
open Bool renaming true → km,false → sd
open Go.MapKept renaming run_getObj_map → qx,run_setObj_map → xo,Stamped → qn
open Go.RowKit.Below renaming heap_alloc → ir
open Go.Value renaming string → pc,int → uu,ownBlock → yq,slice → qh,bool → gd,tuple → js,agg → faj
open Go.Instr renaming mapUpdate → yd,lookup → gq
open Go.Result renaming andThen → mm
open Go.WideMaps renaming keyOf_string_mk → pe
open Go.Shelf renaming Ren → tu
open Go.World renaming cell?_alloc_lt → mv,cell?_of_block → qpd
open Go.Maps renaming Keyed → oq
open Go.Builtin renaming delete_ → hh,append_ → ry
open List renaming mem_append_right → yt,length → iK,length → Z
open Prod renaming fst → l9
open Go.Sort renaming putCells → kj
open Go.Obj renaming cells → oh
open Go.IntKind renaming i64 → gh,u8 → qg
open Go.Ending renaming returned → k8
open Go.Proofs.YtcbilgmfdgpomaaGreatDoor renaming hide → S,cellOf → M
open Orch renaming parse → K
open Go.Proofs.Tryz
variable {A C:List (uo×uo)}{B H W:I}{X:gV}{g k:Nat}{key:uo}{s:gU}{t:q9}{x:Int}
def Rg2{p q:Prop}(k:q)(h:Hd q->p:=by
 intro kz;have z:=h.nodup;have c:((A++(n,v)::C).map Prod.fst)[j]?=some n:=by rw[aS,G];simp[kv,T]
 have e:((A++(n,v)::C).map Prod.fst)[A.length]?=some n:=Ad;revert z c e;exact kz.1):p:=h ⟨k⟩
def I3u{p:Prop}(h:p:=by
 have G:(X.toList.map kv)[j]?=some (kv F):=Aj;rw[N]at G;have z:=h.nodup;have c:((A++(n,v)::C).map Prod.fst)[j]?=some n:=by rw[aS,G];simp[kv,T]
 have e:((A++(n,v)::C).map Prod.fst)[A.length]?=some n:=Ad;exact(List.getElem?_inj ((aF.1 c).1) z).1 (c.trans e.symm)):p:=h
def M7k{p:Prop}(h:p:=by
 rintro e a⟨⟨X,rfl,Z⟩,o⟩;obtain⟨F,k,rfl⟩:=Z.shape;exact⟨⟨F,_,k,iI,Z.congr (λb D=>D.2) (λ_ _=>rfl)⟩,o⟩):p:=h
def Ylw{p:Prop}(h:p:=by
 rw[z];go_enter Tryz.func200,Tryz.ntmps200;go_wp2;go_ret;exact⟨iI,iI⟩):p:=h
def Do4{p:Prop}(h:p:=by
 go_enter Tryz.func178,Tryz.ntmps178;go_wp2;go_ret;exact⟨iI,Below.refl _ _⟩):p:=h
def Bbs{p:Prop}(h:p:=by
 go_enter Tryz.func213,Tryz.ntmps213;go_wp2_with (go_at_call 236;refine(R7 w s).mono ?_;rintro e H⟨rfl,rfl⟩;rw[h]);exact bodyPost_ret (by simp[results,Tryz.results213,go_sem]) iI ⟨iI,iI⟩):p:=h
def Jq1{p:Prop}(h:p:=by
 have s:(ByteArray.mk #[]).size=0:=iI;exact N9 f Aap iI):p:=h
def Mzn{p:Prop}(h:p:=by
 go_wp2_with (go_at_call 125;refine R.out.mono ?_;rintro e H⟨⟨t,rfl,O⟩,D⟩;have b:=hide O;have d:=hide D;clear O D);go_ret;exact⟨⟨_,iI,b.out⟩,d.out⟩):p:=h
def Q4r{p:Prop}(h:p:=by
 go_wp2_with (go_at_call 125;refine R.out.mono ?_;rintro e H⟨⟨t,rfl,O⟩,D⟩;have b:=hide O;have HB:=hide D;clear O D);go_ret;exact⟨⟨_,iI,b.out⟩,HB.out⟩):p:=h
def T4d{p:Prop}(h:p:=by
 go_enter Tryz.func117,Tryz.ntmps117;go_wp2_with (go_at_call 158;refine V.out.mono ?_;rintro e H⟨rfl,rfl⟩);go_ret2;exact⟨iI,iI⟩):p:=h
def Dfh{p:Prop}(h:p:=by
 go_enter Tryz.func119,Tryz.ntmps119;go_wp2;go_region_law (fail)
 all_goals go_wp2
 all_goals exact⟨iI,.tuple #[],by simp[results,Tryz.results119,go_sem],iI,by first|exact Z.out.drew|exact Z.out|exact Z.out.drew.drew⟩):p:=h
def Vyx{p q:Prop}(k:q)(h:Hd q->p:=by
 intro kz;have X:=hide (heap_alloc_new w (.cells (A5 0 0 iG iG iG 0 false) 131));revert X;exact kz.1):p:=h ⟨k⟩
def Qvk{p q:Prop}(k:q)(h:Hd q->p:=by
 intro kz;have V:(w.alloc (.cells (A5 0 0 iG iG iG 0 false) 131)).cell? ⟨0,kind * 3+1,none⟩=some (.string O):=(World.cell?_alloc_lt _ _ _ F).trans s;have d:(kind:Int)<8:=Aa;revert V d;exact kz.1):p:=h ⟨k⟩
def Ve6{p q:Prop}(k:q)(h:Hd q->p:=by
 intro kz;have E:Hid (K.1[k]?=some (.cells #[.int .i64 (num+1),.map (some t)] 108)):=by rw[←I];exact heap_setCell_same _ _ _ _ _ _ i.out
 have o:Hid (Ax w K (· = k)):=by rw[←I];exact(Ax.of_below (Bf _ _) (aC _)).trans (Ax.of_grown ((Br.refl i.out).set 0 _).grown (.inl iI))
 revert E o;exact kz.1):p:=h ⟨k⟩
def Ley{p:Prop}(h:p:=by
 go_enter Tryz.func169,Tryz.ntmps169;go_wp2;go_ret;exact⟨⟨_,iI,E.out⟩,C.out.alloc C.out.size _⟩):p:=h
def Wsr{p:Prop}(h:p:=by
 go_enter Tryz.func39,Tryz.ntmps39;go_wp2
 all_goals go_ret
 all_goals exact⟨iI,iI⟩):p:=h
namespace Go.Proofs.YtcbilgmfdgpomaaGreatDoor
variable {P:Program}{kl:Lit}
open Go.RowKit
def KM{w:I}{a x}(h:w.cell? a=lj x):a.block<iL w.1:=by
 unfold World.cell? at h;cases D:w.1[a.block]? with
 |none=>rw[D]at h;cases h
 |some o=>exact(aG.1 D).1
def KJ{w a B off b}(h:Bytes w B off b)(D:iF w a):Bytes a B off b:=λj l=>by
 have C:=h j l
 rwa[qpd (D.block B (KM C))]
set_option maxRecDepth 10000 in
def MC(w g c r)(q:Bytes w g 0 r)(G:g<iL w.1)(hl:Z r<=1000):xq Y 172 #[qh (lj (iC g)) (Z r) c] w λe B=>∃U,e=k8 (js #[U,gd km])/\B.ownsRow w.1.size 5 1 U (Orch.be (Z r) 4++r).length (A4 (Orch.be (Z r) 4++r))/\iF w B:=by
 have HB:=S q;go_enter func172,ntmps172;obtain⟨o,V,p,W,T⟩:=info_parts Tryz.info5;have H:=run_make (P:=Y) w 37 5 o _ underlying37 V p .i64 .i64 (0:Int) (4+(Z r:Int)) Aa Aa (by rw[T];omega) Aa;go_wp2_with fail;have d:(w.alloc (oh (madeCells #[uu qg 0] (4+Z r)) 5)).ownsRow w.1.size 5 1 (qh (lj (iC w.1.size)) 0 (4+Z r)) ([]:gT).length (A4 []):=
  ⟨iI,.inr ⟨iL w.1,4+Z r,_,iI,aC _,iw w _,bF _,H8,by simp[madeCells],by simp[A4]⟩⟩
 have y:=Ye _ w.1.size _ (Z r:Int) 4 [] Aa d Ad Ad;have X:=S y;have h:=S (Bf w (oh (madeCells #[uu qg 0] (4+Z r)) 5));clear d y;apply X.out.mono;rintro e s⟨t,rfl,a,R⟩;have b:iF w s:=h.out.trans (R.low (base:=iL w.1) Ad (λg G=>by simp[yq]at G;omega));have i:([]++Orch.be (Z r:Int) 4).length=4:=by rw[bW,Orch.be_length]
 rw[i,bW]at a;obtain⟨I,M,v⟩:∃x c,t=qh x 4 c:=by
  rcases a.2 with⟨e,F⟩|⟨g,K,L,e,_⟩
  ·omega
  ·exact⟨_,_,e⟩
 subst v;have N:=S a;have HW:=S b;have k:=KJ HB.out b;have O:=S k;have z:=b.size;clear a b k X h R i;go_wp2_with (at_builtin;refine wpList_append_own _ iI _ _ 37 iI w.1.size 5 o (uu qg 0) 1 1 underlying37 V p W T iI Ae _ _ _ iI N.out (iC g) (Z r) c (A4 r) iI ?hl ?hn ?h1 ?c3 ?c4 ?c5 ?_)
 case hl=>simp[A4]
 case hn=>
  intro j u f;have P:j<Z r:=by have:=(aF.1 f).1;simpa[A4] using this
  have h1:=O.out j P;rw[aX]at h1;have J:u=uu qg r[j].toNat:=by simp[A4,P]at f;exact f.symm
  rw[J,←h1];cases j<;>simp[Addr.add]
 case h1=>intro u l;simp[A4]at l;obtain⟨Q,_,rfl⟩:=l;rfl
 case c3=>unfold maxLen;omega
 case c4=>omega
 case c5=>omega
 intro U E a D _;have m:(Orch.be (Z r) 4++r).length=4+Z r:=by rw[aK,Orch.be_length]
 have n:A4 (Orch.be (Z r) 4++r)=A4 (Orch.be (Z r) 4)++A4 r:=by simp[A4]
 have A:Hid (E.ownsRow w.1.size 5 1 U (Orch.be (Z r) 4++r).length (A4 (Orch.be (Z r) 4++r))):=by show World.ownsRow _ _ _ _ _ _ _;rwa[m,n]
 have C:=S (HW.out.grown D z (λj f=>(N.out.lt j f).1));clear a D m n;go_wp2;exact fy (v:=js #[U,gd km]) (by simp[rz,results172,go_sem]) iI ⟨U,iI,A.out,C.out⟩
open Go.Maps
open Go.ChangeMaps (setBlock map_eraseIdx modify_eq_set)
def kv(e:po):uo×uo:=(e.key,e.val)
structure Bi(P k)(w:gk)(b:Nat)(m):Prop where
 ex:∃es clock,w.1[b]?=lj (.map es clock)/\qn es clock/\es.toList.map kv=m
 keys:∀p∈m,∃l,ye P k p.1=lj l
section
variable {k a:q9} {w:I} {b:Nat} {m:List (uo×uo)}
def Bi.nodup(h:Bi P k w b m):(m.map l9).Nodup:=by
 obtain⟨X,c,_,s,rfl⟩:=h.ex;rw[cW];exact s.2.2
def Bi.one(h:Bi P k w b m){n u v}(a:(n,u)∈m)(q:(n,v)∈m):u=v:=by
 have z:=h.nodup;clear h
 induction m with
 |nil=>cases a
 |cons p r O=>
  grind
def Bi.of_block(h:Bi P k w b m)(D:B.1[b]?=w.1[b]?):Bi P k B b m:=by
 have ⟨X,a,C,J,T⟩:=h.ex;exact⟨⟨X,a,by rwa[D],J,T⟩,h.keys⟩
def Bi.lt(h:Bi P k w b m):b<iL w.1:=by
 have ⟨X,a,C,_⟩:=h.ex
 grind
def Bi.made(w:I):Bi P k (w.alloc (.map #[] 0)) w.1.size []:=by
 refine⟨⟨#[],0,iw w _,⟨?_,?_,?_⟩,iI⟩,λp Q=>by cases Q⟩<;>simp
def Wt(o):w.grownBy (setBlock w b o) (lj b):=
 ⟨iI,iI,iI,by simp[setBlock],λi V f=>by
  show(w.1.setIfInBounds b o)[i]?=_
  grind⟩
def DU(K:oq P k){n d}(W:ye P k n=lj d){X:Array po}(E:∀p∈X.toList.map kv,∃l,ye P k p.1=lj l)(O:∀p∈X.toList.map kv,p.1≠n):(Instr.findKey k n X.toList).run P w=.ok jh w:=by
 rcases K.find w W X.toList (λx Z=>E (kv x) (aZ.2 ⟨x,Z,rfl⟩)) with⟨C,_⟩|⟨j,F,_,J,T⟩
 ·exact C
 ·exact absurd T (O (kv F) (aZ.2 ⟨F,bA J,iI⟩))
def Q3(K:oq P k){n v d}(W:ye P k n=lj d){X:Array po}(E:∀p∈X.toList.map kv,∃l,ye P k p.1=lj l)(y:(n,v)∈X.toList.map kv):∃j F,(Instr.findKey k n X.toList).run P w=.ok (lj (j,F.val)) w/\X.toList[j]?=lj F/\F.key=n:=by
 rcases K.find w W X.toList (λx Z=>E (kv x) (aZ.2 ⟨x,Z,rfl⟩)) with⟨C,J⟩|⟨j,F,C,J,T⟩
 ·have ⟨x,Z,a⟩:=aZ.1 y;exact absurd (by have:=aJ l9 a;exact this) (J x Z)
 grind
def Bi.look_none(c)(h:Bi P k w b m)(K:oq P k)(R:P.underlying t=lj (.map k a)){z}(N:(zeroValue a).run P w=.ok z w){n d}(W:ye P k n=lj d)(O:∀p∈m,p.1≠n):(gq t (.map (lj b)) n c).run P w=.ok (if c then js #[z,gd sd] else z) w:=by
 obtain⟨X,e,D,s,rfl⟩:=h.ex;simp[gq,qi R,qx D,K.check w _ W,(DU (w:=w) K W h.keys O),N,mm]
def Bi.look_some(c)(h:Bi P k w b m)(K:oq P k)(R:P.underlying t=lj (.map k a)){n v kl}(W:ye P k n=lj kl)(y:(n,v)∈m):(gq t (.map (lj b)) n c).run P w=.ok (if c then js #[v,gd km] else v) w:=by
 obtain⟨X,d,D,s,rfl⟩:=h.ex;have ⟨j,F,C,J,T⟩:=Q3 (w:=w) K W h.keys y;have q:F.val=v:=h.one (aZ.2 ⟨F,bA J,by simp[kv,T]⟩) y;simp[gq,qi R,qx D,K.check w _ W,C,q,mm]
def Bi.put_new(h:Bi P k w b m)(K:oq P k)(R:P.underlying t=lj (.map k a)){key val kl}(W:ye P k key=lj kl)(O:∀p∈m,p.1≠key):∃B,(yd t (.map (lj b)) key val).run P w=.ok () B/\Bi P k B b (m++[(key,val)])/\w.grownBy B (lj b):=by
 obtain⟨X,c,D,s,rfl⟩:=h.ex;refine⟨setBlock w b (.map (X.push ⟨key,val,c⟩) (c+1)),?_,⟨⟨X.push ⟨key,val,c⟩,c+1,(aQ h.lt),MapKept.stamped_push s (λx Z=>O (kv x) (aZ.2 ⟨x,Z,iI⟩)),?_⟩,?_⟩,Wt _⟩
 ·simp[yd,qi R,qx D,K.check w sd W,(DU (w:=w) K W h.keys O),xo _ D,mm,setBlock]
 ·simp[kv]
 ·intro p Q;rcases bP.1 Q with Q|Q
  ·exact h.keys p Q
  grind
def Bi.put_old(h:Bi P k w b m)(K:oq P k)(R:P.underlying t=lj (.map k a)){val v d}(W:ye P k key=lj d){A C}(L:m=A++(key,v)::C):∃f,(yd t (.map (lj b)) key val).run P w=.ok () f/\Bi P k f b (A++(key,val)::C)/\w.grownBy f (lj b):=by
 obtain⟨X,q,D,s,N⟩:=h.ex;subst L;have I:(key,v)∈X.toList.map kv:=by rw[N];simp
 obtain⟨j,F,O,J,T⟩:=Q3 (w:=w) K W (by rw[N];exact h.keys) I;have g:j<iK X.toList:=(aF.1 J).1;have l:j<X.size:=by simpa using g
 have i:(X.modify j (λE=>{ E with key:=key,val:=val })).toList=X.toList.set j { F with key:=key,val:=val }:=by rw[Array.toList_modify,modify_eq_set _ _ _ _ J]
 have S:j=iK A:=by
  have G:(X.toList.map kv)[j]?=lj (kv F):=by rw[aS,J];rfl
  rw[N]at G;have z:=h.nodup;have c:((A++(key,v)::C).map l9)[j]?=lj key:=by rw[aS,G];simp[kv,T]
  have e:((A++(key,v)::C).map l9)[iK A]?=lj key:=Ad;exact(List.getElem?_inj ((aF.1 c).1) z).1 (c.trans e.symm)
 have B:(X.toList.set j { F with key:=key,val:=val }).map kv=A++(key,val)::C:=by
  rw[fR,N,S];simp[kv]
 refine⟨setBlock w b (.map (X.modify j (λE=>{ E with key:=key,val:=val })) q),?_,⟨⟨_,_,aQ h.lt,?_,by rw[i,B]⟩,?_⟩,Wt _⟩
 ·have o:X[j]'l=F:=by
   obtain⟨_,h⟩:=aF.1 J;simpa using h
  simp[yd,qi R,qx D,K.check w sd W,O,l,o,T,K.stays w W,xo _ D,mm,setBlock]
 ·have n:(X.toList.set j { F with key:=key,val:=val }).map (·.born)=X.toList.map (·.born):=by
   rw[fR];refine bL λu=>?_;rw[List.getElem?_set];split
   ·rename_i r;subst r;rw[aL (by simpa using g),aS,J];rfl
   ·rfl
  have y:(X.toList.set j { F with key:=key,val:=val }).map (·.key)=X.toList.map (·.key):=by
   rw[fR];refine bL λu=>?_;rw[List.getElem?_set];split
   ·rename_i r;subst r;rw[aL (by simpa using g),aS,J];simp[T]
   ·rfl
  unfold qn;rw[i,n,y];refine⟨λx Z=>?_,s.2⟩;have:x.born∈(X.toList.set j { F with key:=key,val:=val }).map (·.born):=aZ.2 ⟨x,Z,rfl⟩;rw[n]at this;obtain⟨H,V,a⟩:=aZ.1 this;rw[←a];exact s.1 H V
 ·intro p Q;rcases bP.1 Q with Q|Q
  ·exact h.keys p (fC _ Q)
  ·rcases bH.1 Q with rfl|Q
   ·exact⟨_,W⟩
   ·exact h.keys p (yt _ (cI _ Q))
def Bi.drop_some{ty}(h:Bi P k w b m)(K:oq P k)(R:P.underlying t=lj (.map k a)){n v d}(W:ye P k n=lj d){A C}(L:m=A++(n,v)::C):∃B,(hh #[t,k] ty #[.map (lj b),n]).run P w=.ok (js #[]) B/\Bi P k B b (A++C)/\w.grownBy B (lj b):=by
 obtain⟨X,f,D,s,N⟩:=h.ex;subst L;have y:(n,v)∈X.toList.map kv:=by rw[N];simp
 obtain⟨j,F,l,J,T⟩:=Q3 (w:=w) K W (by rw[N];exact h.keys) y;have H:j<X.size:=by simpa using((aF.1 J).1)
 have O:(X.eraseIdxIfInBounds j).toList=X.toList.eraseIdx j:=by
  simp
 have S:j=Z A:=by
  exact I3u
 refine⟨setBlock w b (.map (X.eraseIdxIfInBounds j) f),?_,⟨⟨_,_,aQ h.lt,MapKept.stamped_erase s j,?_⟩,?_⟩,Wt _⟩
 ·simp[hh,qi R,qx D,K.check w _ W,l,xo _ D,mm,setBlock]
 ·rw[O,map_eraseIdx,N,S,List.eraseIdx_append_of_length_le (aC _)];simp
 ·intro p Q;rcases bP.1 Q with Q|Q
  ·exact h.keys p (fC _ Q)
  ·exact h.keys p (yt _ (cI _ Q))
def Bi.len(h:Bi P k w b m)(R:P.underlying t=lj (.map k a))(I):(Builtin.len_ #[t] I #[.map (lj b)]).run P w=.ok (iE (Z m)) w:=by
 obtain⟨X,c,D,s,rfl⟩:=h.ex;simp[Builtin.len_,qi R,qx D,mm]
 rfl
end
def Aoo(w)(R:gU)(Q:hU)(v l)(h u P:Nat)(s V K)(a:Nat)(q:Option Addr->Nat->Nat->I->Prop)(r:I->Option Addr->Nat->Nat->I->Prop)(z:I->uo->I->Prop)(g:Hid (xq y7 141 #[pc R] w λe B=>(∃p m n,e=k8 (js #[Ia h u P s V K a (qh p m n),gd km])/\q p m n B)/\iF w B))(d:Hid (∀S W p m n,q p m n S->iF S W->iF w W->xq y7 142 #[Ia h u P s V K a (qh p m n),vv 0 iG (qh Q v l)] W λe B=>(∃L i j,e=k8 (js #[qh L i j,gd km])/\r W L i j B)/\iF W B))(X:Hid (∀W L i j J,r W L i j J->iF w J->xq y7 172 #[qh L i j] J λe B=>(∃t,e=k8 (js #[t,gd km])/\z J t B)/\iF J B)):xq y7 125 #[pc R,qh Q v l] w λe B=>(∃t W,e=k8 t/\z W t B/\iL w.1<=iL W.1)/\iF w B:=by
 go_enter func125,ntmps125;go_wp2_with (first
  |(go_at_call 141;apply g.out.mono;rintro e H⟨⟨p,m,n,rfl,f⟩,M⟩;have o:=hide f;have O:=hide M;clear M f)
  |(go_at_call 142;apply(d.out H _ p m n o.out (Bf _ _) (O.out.alloc O.out.size _)).mono;rintro e w2⟨⟨L,i,j,rfl,Y⟩,D⟩;have x:=hide Y;have C:=hide ((O.out.alloc O.out.size _).trans (D.mono HH));clear D Y)
  |(go_at_call 172;apply(X.out _ L i j _ x.out C.out).mono;rintro e ad⟨⟨t,rfl,N⟩,F⟩;have y:=hide N;have k:=hide (C.out.trans (F.mono (by have:=C.out.size;omega)));clear F N))
 go_ret;exact⟨⟨_,_,iI,y.out,C.out.size⟩,k.out⟩
def Tu{w a t}{W:gT}(h:w.ownsRow a 5 1 t (Z W) (A4 W))(F:0<Z W):∃g I,t=qh (lj (iC g)) (Z W) I/\a<=g/\g<iL w.1/\Bytes w g 0 W:=by
 rcases h.2 with⟨_,h⟩|⟨g,I,H,e,C,J,T,q,z,f⟩
 ·omega
 ·refine⟨g,I,e,C,(aG.1 J).1,λj l=>?_⟩;have M:(H.toList.take (Z W * 1))[j]?=(A4 W)[j]?:=by rw[f]
  have b:H[j]?=lj (uu qg W[j].toNat):=by
   simp[A4,l]at M;simpa using M
  rw[aX];exact cellOf J b
section
variable {h:gS} {z:gX}
def Qk(U:It h z)(w)(V:z w)(y:Table w)(R:gU)(l S A)(L:D8 w S l A)(d:∀b,S b->b<iL w.1)(t)(Q:Orch.parse R.data.toList=lj t)(r)(u:Orch.put h 9 [] t ⟨0,iG,l⟩=lj r)(K:0<iK r)(P:iK r<=1000):xq y7 125 #[pc R,A] w λe a=>(∃E,e=k8 E/\a.ownsRow w.1.size 5 1 E (Orch.be (iK r) 4++r).length (A4 (Orch.be (iK r) 4++r)))/\iF w a:=by
 obtain⟨T,v,rfl⟩:=L.shape;have M:=Re w R y;rw[Q]at M;refine(Aoo w R T _ v t.l.sign.toNat t.l.shape t.l.size t.l.least t.l.5 t.l.text t.l.fin.toNat (λp m n a=>E7 a (λb=>b<iL a.1) t.ps (qh p m n)) (λW f i j a=>∃g,f=lj (iC g)/\i=iK r/\g<iL a.1/\Bytes a g 0 r)
  (λW E a=>a.ownsRow W.1.size 5 1 E (Orch.be (iK r) 4++r).length (A4 (Orch.be (iK r) 4++r))) (M.mono ?_) (λa6 W p m n Z N x=>?_) (λW f i j J Y N=>?_)).mono ?_
 ·exact M7k
 ·have:=Af1 U W (U.kept (U.size V) x V) t (Uv Q) (λb=>b<iL W.1) _ (Z.congr (λb c=>aA c N.size) (λb D=>N.block b D)) ⟨0,iG,l⟩ _ (L.congr (λb c=>aA (d b c) x.size) (λb c=>x.block b (d b c))) (λ_ c=>c);rw[u]at this;apply this.mono;rintro e a⟨⟨E,rfl,O⟩,D⟩;obtain⟨g,I,rfl,_,G,q⟩:=Tu O K
  grind
 ·obtain⟨g,rfl,rfl,G,q⟩:=Y;apply(MC J g j r q G P).mono
  grind
 ·rintro e a⟨⟨E,W,rfl,O,s⟩,D⟩;refine⟨⟨E,iI,O.1,?_⟩,D⟩;rcases O.2 with c|⟨g,I,H,C,B,a1⟩
  ·exact Or.inl c
  ·exact Or.inr ⟨g,I,H,C,aE s B,a1⟩
end
def Tryz.ren146:tu:=⟨fun|138=>238|143=>239|146=>199|195=>254|197=>255|217=>265|218=>256|219=>257|221=>214|224=>267|225=>266|260=>264|266=>270|267=>268|268=>237|314=>271|n=>n,fun|0=>0|3=>3|4=>4|5=>5|9=>9|21=>21|31=>236|46=>71|51=>126|105=>321|119=>294|138=>296|139=>297|146=>327|n=>n,fun|1=>1|3=>5|4=>6|n=>n⟩
set_option maxRecDepth 100000 in
def Tryz.lays146:Go.Proofs.Lays.n146 Y Tryz.ren146:=
 {mixed:=Ab,
  f138:=func238.trans (aJ lj Ab),
  f143:=func239.trans (aJ lj Ab),
  f146:=func199.trans (aJ lj Ab),
  f195:=func254.trans (aJ lj Ab),
  f197:=func255.trans (aJ lj Ab),
  f217:=func265.trans (aJ lj Ab),
  f218:=func256.trans (aJ lj Ab),
  f219:=func257.trans (aJ lj Ab),
  f221:=func214.trans (aJ lj Ab),
  f224:=func267.trans (aJ lj Ab),
  f225:=func266.trans (aJ lj Ab),
  f260:=func264.trans (aJ lj Ab),
  f266:=func270.trans (aJ lj Ab),
  f267:=func268.trans (aJ lj Ab),
  f268:=func237.trans (aJ lj Ab),
  f314:=func271.trans (aJ lj Ab),
  t0:=og,
  a0:=vb,
  z0:=yh,
  v0:=kt,
  t3:=yv,
  a3:=ki,
  z3:=zt,
  v3:=jw,
  t4:=we,
  a4:=ni,
  z4:=o3,
  v4:=qf,
  t5:=gz,
  a5:=rm,
  z5:=pt,
  v5:=gl,
  t9:=rh,
  a9:=x7,
  z9:=np,
  v9:=lh,
  t21:=underlying21,
  a21:=isAgg21,
  z21:=sizeOf21,
  v21:=zeroValue21,
  t31:=underlying236,
  a31:=isAgg236,
  z31:=sizeOf236,
  v31:=zeroValue236,
  t46:=qb,
  a46:=ko,
  z46:=vh,
  v46:=uj,
  t51:=kq,
  a51:=fx,
  z51:=qu,
  v51:=yl,
  t105:=underlying321,
  a105:=isAgg321,
  z105:=sizeOf321,
  v105:=zeroValue321,
  t119:=underlying294,
  a119:=isAgg294,
  z119:=sizeOf294,
  t138:=underlying296,
  a138:=isAgg296,
  z138:=sizeOf296,
  v138:=zeroValue296,
  t139:=underlying297,
  a139:=isAgg297,
  z139:=sizeOf297,
  v139:=zeroValue297,
  t146:=underlying327,
  a146:=isAgg327,
  z146:=sizeOf327,
  v146:=zeroValue327,
  g1:=Ab,
  g3:=Ab,
  g4:=by kernel_rfl }
def ZX(s S:gU)(m w)(b:s.size<4294967281)(L:w.cell? ⟨1,0,jh⟩=lj (iE m))(C:1<=S.size):u Y 199 #[pc s,pc S] w λe B=>e=k8 (qh (lj (iC w.1.size)) (Lib.countB s S+1) (Lib.countB s S+1))/\B=w.alloc (oh ((Lib.splitB S 0 (Lib.countB s S) s).map pc).toArray 9):=
 Any.strings_Split Tryz.lays146 Ab s S m w b L C
def Np(c:Nat):Bool:=decide (97<=c/\c<=122)||decide (48<=c/\c<=57)||decide (c=45)||decide (c=46)
def P8(s:gU):Bool:=decide (s≠iG/\s≠⟨#[46]⟩/\s≠⟨#[46,46]⟩)&&s.data.toList.all λc=>Np c.toNat
def AB(w)(c:Nat)(M:c<256):u Y 215 #[uu qg c] w λe B=>e=k8 (gd (Np c))/\B=w:=by
 by_cases C:(97:Int)<=c<;>by_cases J:(c:Int)<=122<;>by_cases T:(48:Int)<=c<;>by_cases q:(c:Int)<=57<;>by_cases z:(c:Int)=45<;>by_cases f:(c:Int)=46
 all_goals first
  |(exfalso;omega)
  |(
    rw[show Np c=km by simp[Np];omega];go_enter func215,ntmps215;go_wp2;go_ret;exact⟨by first|rfl|simp_all,iI⟩)
  |(
    rw[show Np c=sd by simp[Np];omega];go_enter func215,ntmps215;go_wp2;go_ret;exact⟨by first|rfl|simp_all,iI⟩)
def Aa9(l:gT)(k)(h:k<Z l):(l.take (k+1)).all (λc=>Np c.toNat)=((l.take k).all (λc=>Np c.toNat)&&Np l[k].toNat):=by
 rw[dM h,gH];simp
def I4(s:gU)(l:gT):(s.toList==l)=decide (s=⟨l.toArray⟩):=by
 rw[Lib.toList_data,eQ,beq_iff_eq,decide_eq_true_iff]
 constructor
 ·intro h;apply ByteArray.ext
  grind
 ·intro h;rw[h]
def QS(w)(s:gU)(f:s.size<=1000):u Y 200 #[pc s] w λe B=>e=k8 (gd (P8 s))/\B=w:=by
 by_cases F:s.toList==[]
 ·have z:P8 s=sd:=by
   rw[I4]at F;simp[P8,of_decide_eq_true F]
  exact Ylw
 ·by_cases C:s.toList==[46]
  ·have z:P8 s=sd:=by
    rw[I4]at C;simp[P8,of_decide_eq_true C]
   exact Ylw
  ·by_cases J:s.toList==[46,46]
   ·have z:P8 s=sd:=by
     rw[I4]at J;simp[P8,of_decide_eq_true J]
    exact Ylw
   ·have x:Hid (P8 s=s.data.toList.all λc=>Np c.toNat):=by
     show _=_;have I:=F;have d:=C;have o:=J;rw[I4,decide_eq_true_iff]at I d o;unfold P8;rw[decide_eq_true ⟨I,d,o⟩,gB]
    have O:Z s.data.toList=s.size:=(Lib.size_eq s).symm;go_enter func200,ntmps200;go_wp2;go_loop [16] (λi=>∃k,k<=s.size/\i=iE k/\Hid ((s.data.toList.take k).all (λc=>Np c.toNat)=km)) (λi=>s.size - (intOf i).toNat)
    case atStart=>exact⟨0,bF _,iI,by show _=_;simp⟩
    case round=>
     obtain⟨k,E,rfl,X⟩:=hrel;by_cases b:k<s.size
     ·have N:(k:Int)<(s.size:Int):=Aa;have V:Hid ((s.data.toList.take (k+1)).all (λc=>Np c.toNat)=Np s[k].toNat):=by
       show _=_;rw[Aa9 _ _ Aa,X.out,gB]
       rfl
      cases M:Np s[k].toNat with
      |true=>
       rw[M]at V;go_wp2_with (go_at_call 215;apply(AB w s[k].toNat (gJ _)).mono;rintro e H⟨rfl,rfl⟩;rw[M]);go_round
       case rel=>exact⟨k+1,Aa,by go_num,V⟩
       case measure=>first|(simp[intOf];done)|(simp[intOf];omega)
      |false=>
       have a:Hid (P8 s=sd):=by
        show _=_;rw[x.out];have T:=V.out;rw[M]at T;rw[←eH (k+1) s.data.toList,gH,T,fW]
       go_wp2_with (go_at_call 215;apply(AB w s[k].toNat (gJ _)).mono;rintro e H⟨rfl,rfl⟩;rw[M]);go_ret;exact⟨Gp a.out.symm,iI⟩
     ·have N:¬(k:Int)<(s.size:Int):=Aa;have a:Hid (P8 s=km):=by
       show _=_;rw[x.out,←X.out,bO Aa]
      go_wp2;go_ret;exact⟨Gp a.out.symm,iI⟩
def Eb(s:gU):Bool:=decide (1<=s.size)&&((s.extract 0 1).toList==[47])
def R7(w)(s:gU):u Y 236 #[pc s,pc ⟨#[47]⟩] w λe B=>e=k8 (gd (Eb s))/\B=w:=by
 by_cases C:(1:Int)<=s.size
 ·have H:1<=s.size:=Aa;cases J:((s.extract 0 1).toList==[47]) with
  |true=>
   rw[show Eb s=km by simp only[Eb,J,decide_eq_true H];rfl];go_enter eyq,mif;go_wp2;go_ret;simp
  |false=>
   rw[show Eb s=sd by simp only[Eb,J,decide_eq_true H];rfl];go_enter eyq,mif;go_wp2;go_ret;simp
 ·have H:¬1<=s.size:=Aa;rw[show Eb s=sd by simp only[Eb,decide_eq_false H];rfl];go_enter eyq,mif;go_wp2;go_ret;exact⟨iI,iI⟩
def GN(w)(s:gU):u Y 213 #[pc s,pc ⟨#[47]⟩] w λe B=>e=k8 (if Eb s=km then js #[pc (s.extract 1 s.size),gd km] else js #[pc s,gd sd])/\B=w:=by
 cases h:Eb s with
 |true=>
  have N:(1:Int)<=s.size:=by
   have:1<=s.size:=by
    unfold Eb at h
    grind
   omega
  exact Bbs
 |false=>
  exact Bbs
def CB(w)(s:gU):u Y 198 #[pc s,pc ⟨#[47]⟩] w λe B=>e=k8 (if Eb s=km then js #[pc (s.extract 1 s.size),gd km] else js #[pc s,gd sd])/\B=w:=by
 have M:=GN w s;cases h:Eb s with
 |true=>
  rw[h]at M;have g:=S M;go_enter func198,ntmps198;go_wp2_with (go_at_call 213;apply g.out.mono;rintro e H⟨rfl,rfl⟩);exact fy (by simp[rz,results198,go_sem]) iI ⟨iI,iI⟩
 |false=>
  rw[h]at M;have g:=S M;clear M;go_enter func198,ntmps198;go_wp2_with (go_at_call 213;apply g.out.mono;rintro e H⟨rfl,rfl⟩);exact fy (v:=js #[pc s,gd sd]) (by simp[rz,results198,go_sem]) iI ⟨iI,iI⟩
def names(s:gU):List gU:=Lib.splitB ⟨#[47]⟩ 0 (Lib.countB s ⟨#[47]⟩) s
def Xw(S:gU):∀k(s p:gU),p∈Lib.splitB S 0 k s->p.size<=s.size
 |0,s,p,h=>by
  simp only[Lib.splitB,eU]at h
  grind
 |k+1,s,p,h=>by
  unfold Lib.splitB at h;split at h
  ·grind
  ·rcases bH.1 h with h|h
   ·rw[h,dI];omega
   ·have:=Xw S k _ p h;rw[dI]at this;omega
def Lk(s:gU):Bool:=decide (s.size<=24)&&((s.toList==[47])||(Eb s&&(names (s.extract 1 s.size)).all P8))
def YF(s):(names s).length=Lib.countB s ⟨#[47]⟩+1:=Lib.splitB_all ⟨#[47]⟩ Ae 0 _ s iI
def Zx(w m)(j:w.cell? ⟨1,0,jh⟩=lj (iE m))(s:gU)(y:s.size<=140737488355328):xq y7 178 #[pc s] w λe B=>e=k8 (gd (Lk s))/\iF w B:=by
 by_cases z:(24:Int)<s.size
 ·rw[show Lk s=sd by simp only[Lk,decide_eq_false (show ¬s.size<=24 by omega)];rfl];exact Do4
 ·cases d:(s.toList==[47]) with
  |true=>
   rw[show Lk s=km by simp only[Lk,decide_eq_true (show s.size<=24 by omega),d];rfl];exact Do4
  |false=>
   have F:=CB w s;cases J:Eb s with
   |false=>
    rw[J]at F;have g:=S F;rw[show Lk s=sd by simp only[Lk,decide_eq_true (show s.size<=24 by omega),d,J];rfl];clear F;go_enter func178,ntmps178;go_wp2_with (go_at_call 198;apply g.out.mono;rintro e H⟨rfl,rfl⟩);go_ret;exact⟨iI,Below.refl _ _⟩
   |true=>
    rw[J]at F;have g:=S F;have x:Hid (Lk s=(names (s.extract 1 s.size)).all P8):=by
     show _=_;simp only[Lk,decide_eq_true (show s.size<=24 by omega),d,J]
     rfl
    have q:(s.extract 1 s.size).size<=24:=by rw[dI];omega
    generalize s.extract 1 s.size=r at *;have l:=S (ZX r ⟨#[47]⟩ m w Aa j Ae);have A:=YF r;have t:Lib.countB r ⟨#[47]⟩<=24:=aE (Lib.countB_le ⟨#[47]⟩ Ae r.size r (aC _)) q;have K:=iw w (oh ((names r).map pc).toArray 9);have u:Hid (∀i (h:i<(names r).length),(w.alloc (oh ((names r).map pc).toArray 9)).cell? (iD w.1.size i)=lj (pc (names r)[i])):=λi h=>by
     apply cellOf K;simp[h]
    have v:Hid (∀i (h:i<(names r).length),((names r)[i]).size<=1000):=λi h=>aE (Xw _ _ _ _ (eN h)) Aa;have HB:Hid (iF w (w.alloc (oh ((names r).map pc).toArray 9))):=Bf _ _;have n:Hid (w.alloc (oh ((Lib.splitB ⟨#[47]⟩ 0 (Lib.countB r ⟨#[47]⟩) r).map pc).toArray 9)=w.alloc (oh ((names r).map pc).toArray 9)):=iI;clear F K;go_enter func178,ntmps178;go_wp2_with (first
     |(go_at_call 198;apply g.out.mono;rintro e H⟨rfl,D⟩;have Y:=D.symm;clear D;subst Y)
     |(go_at_call 199;apply l.out.mono;rintro e H⟨rfl,rfl⟩;rw[n.out]))
    have G:(names r).length<=25:=Aa;have O:Hid (∀{o},o=w.alloc (oh ((names r).map pc).toArray 9)->iF w o):=λh=>by rw[h];exact HB.out
    have p:=HB.out;clear l g n t j O HB;generalize w.alloc (oh ((names r).map pc).toArray 9)=W at *;have HB:=S p;clear p;generalize names r=L at *;generalize Lib.countB r ⟨#[47]⟩=C at *;go_loop [22] (λi=>∃k,k<=Z L/\i=iE k/\Hid ((L.take k).all P8=km)) (λi=>Z L - (intOf i).toNat)
    case atStart=>exact⟨0,bF _,iI,by show _=_;simp⟩
    case round=>
     obtain⟨k,E,rfl,X⟩:=hrel;by_cases b:k<Z L
     ·have N:(k:Int)<(C:Int)+1:=Aa;have I:=u.out k b;have M:Hid ((L.take (k+1)).all P8=P8 L[k]):=by
       show _=_;rw[dM b,gH,X.out,gB];simp
      have c:=S (QS W L[k] (v.out k b));generalize L[k]=P at *;cases f:P8 P with
      |true=>
       rw[f]at M c;go_wp2_with (go_at_call 200;apply c.out.mono;rintro e H⟨rfl,D⟩;have Y:=D.symm;clear D;subst Y);go_round
       case rel=>exact⟨k+1,Aa,by go_num,M⟩
       case measure=>first|(simp[intOf];done)|(simp[intOf];omega)
      |false=>
       have a:Hid (Lk s=sd):=by
        show _=_;have T:=M.out;rw[f]at T;rw[x.out,←eH (k+1) L,gH,T,fW]
       rw[f]at c;go_wp2_with (go_at_call 200;apply c.out.mono;rintro e H⟨rfl,D⟩;have Y:=D.symm;clear D;subst Y);go_ret;exact⟨Gp a.out.symm,HB.out⟩
     ·have N:¬(k:Int)<(C:Int)+1:=Aa;have a:Hid (Lk s=km):=by
       show _=_;rw[x.out,←X.out,bO Aa]
      go_wp2;go_ret;exact⟨Gp a.out.symm,HB.out⟩
def Ey(l:gT):Nat->Int
 |0=>-1
 |k+1=>if l[k]?=lj 47 then(k:Int) else Ey l k
def V0(l):∀k,-1<=Ey l k/\Ey l k<(k:Int)
 |0=>by simp[Ey]
 |k+1=>by
  have:=V0 l k;unfold Ey;split<;>omega
def Sy(l)(h:l[0]?=lj 47):∀k,0<k->0<=Ey l k
 |0,F=>Aa
 |k+1,_=>by
  unfold Ey;split
  ·omega
  ·rename_i z;cases k with
   |zero=>exact absurd h z
   |succ k=>exact Sy l h _ Aa
def LS(w)(s:gU)(f:s.size<=140737488355328):u y7 217 #[pc s,uu qg 47] w λe B=>e=k8 (iE (Ey s.data.toList s.size))/\B=w:=by
 have O:iK s.data.toList=s.size:=(Lib.size_eq s).symm;go_enter func217,ntmps217;go_wp2;go_loop [5] (λc=>∃k,k<=s.size/\c=iE ((k:Int) - 1)/\Hid (Ey s.data.toList k=Ey s.data.toList s.size)) (λc=>(intOf c+1).toNat)
 case atStart=>exact⟨s.size,aC _,iI,iI⟩
 case round=>
  obtain⟨k,E,rfl,Z⟩:=hrel;cases k with
  |zero=>
   go_wp2;go_ret;exact⟨Rg (by rw[←Z.out];rfl),iI⟩
  |succ k=>
   rw[show((k+1:Nat):Int) - 1=(k:Int) by omega];have Y:k<s.size:=Aa;have b:s.data.toList[k]?=lj s[k]:=by
    rw[aH Aa]
    rfl
   have h:(s[k]).toNat<256:=gJ _;by_cases a:((s[k]).toNat:Int)=47
   ·have M:Hid (Ey s.data.toList s.size=(k:Int)):=by
     show _=_;rw[←Z.out];unfold Ey;rw[b,aL]
     congr 1
     apply gG.1
     show(s[k]).toNat=47;omega
    go_wp2;go_ret;exact⟨Rg M.out.symm,iI⟩
   ·have M:Hid (Ey s.data.toList k=Ey s.data.toList s.size):=by
     show _=_;rw[←Z.out]
     conv=>rhs;unfold Ey
     rw[b,aM];intro e;injection e with e;rw[e]at a;exact a iI
    go_wp2;go_round
    case rel=>exact⟨k,Aa,by first|rfl|go_num,M⟩
    case measure=>first|(simp[intOf];done)|(simp[intOf];omega)
def Uj(w)(s:gU)(b:s.size<=140737488355328):u Y 202 #[pc s,uu qg 47] w λe B=>e=k8 (iE (Ey s.data.toList s.size))/\B=w:=by
 go_enter func202,ntmps202;go_wp2_with (go_at_call 217;apply(LS w s b).mono;rintro e H⟨rfl,rfl⟩);go_ret;exact⟨iI,iI⟩
def Ej(s:gU):gU:=if Ey s.data.toList s.size=0 then⟨#[47]⟩ else s.extract 0 (Ey s.data.toList s.size).toNat
def FI(h:Eb s=km):s.data.toList[0]?=lj 47/\0<s.size:=by
 unfold Eb at h;rw[aU,decide_eq_true_iff,beq_iff_eq,Lib.toList_data]at h;have ⟨C,J⟩:=h;refine⟨?_,Aa⟩;have:=aJ (λl=>l[0]?) J;simpa using this
def Tc(w s)(b:s.size<=140737488355328)(O:Eb s=km):u Y 180 #[pc s] w λe B=>e=k8 (pc (Ej s))/\B=w:=by
 have ⟨F,C⟩:=FI O;have Q:=Sy _ F s.size C;have o:=(V0 s.data.toList s.size).2;have L:=S (Uj w s b);have R:Hid (Ej s=if Ey s.data.toList s.size=0 then⟨#[47]⟩ else s.extract 0 (Ey s.data.toList s.size).toNat):=iI;obtain⟨i,V⟩:∃i,Ey s.data.toList s.size=(i:Int):=⟨(Ey s.data.toList s.size).toNat,Aa⟩;rw[V]at L R o;by_cases N:(i:Int)=0
 ·rw[aL N]at R;go_enter func180,ntmps180;go_wp2_with (go_at_call 202;apply L.out.mono;rintro e H⟨rfl,rfl⟩);go_ret;exact⟨by rw[R.out];rfl,iI⟩
 ·rw[aM N]at R;go_enter func180,ntmps180;go_wp2_with (go_at_call 202;apply L.out.mono;rintro e H⟨rfl,rfl⟩);go_ret;exact⟨by rw[R.out];first|rfl|simp,iI⟩
def Tryz.ren189:tu:=⟨fun|125=>73|128=>134|129=>135|189=>210|215=>262|216=>247|257=>226|294=>241|295=>242|296=>243|297=>244|298=>245|299=>246|300=>248|301=>249|328=>259|329=>174|330=>175|331=>260|332=>261|343=>269|n=>n,fun|0=>0|3=>3|4=>4|5=>5|9=>9|28=>23|46=>71|51=>126|53=>123|131=>174|182=>193|183=>194|218=>242|222=>245|228=>270|229=>271|n=>n,λn=>n⟩
set_option maxRecDepth 100000 in
def Tryz.lays189:Go.Proofs.Lays.n189 Y Tryz.ren189:=
 {mixed:=Ab,
  f125:=func73.trans (aJ lj Ab),
  f128:=func134.trans (aJ lj Ab),
  f129:=func135.trans (aJ lj Ab),
  f189:=func210.trans (aJ lj Ab),
  f215:=func262.trans (aJ lj Ab),
  f216:=func247.trans (aJ lj Ab),
  f257:=func226.trans (aJ lj Ab),
  f294:=func241.trans (aJ lj Ab),
  f295:=func242.trans (aJ lj Ab),
  f296:=func243.trans (aJ lj Ab),
  f297:=func244.trans (aJ lj Ab),
  f298:=func245.trans (aJ lj Ab),
  f299:=func246.trans (aJ lj Ab),
  f300:=func248.trans (aJ lj Ab),
  f301:=func249.trans (aJ lj Ab),
  f328:=func259.trans (aJ lj Ab),
  f329:=func174.trans (aJ lj Ab),
  f330:=func175.trans (aJ lj Ab),
  f331:=func260.trans (aJ lj Ab),
  f332:=func261.trans (aJ lj Ab),
  f343:=func269.trans (aJ lj Ab),
  t0:=og,
  a0:=vb,
  z0:=yh,
  v0:=kt,
  t3:=yv,
  a3:=ki,
  z3:=zt,
  v3:=jw,
  t4:=we,
  a4:=ni,
  z4:=o3,
  v4:=qf,
  t5:=gz,
  a5:=rm,
  z5:=pt,
  v5:=gl,
  t9:=rh,
  a9:=x7,
  z9:=np,
  v9:=lh,
  t28:=underlying23,
  a28:=isAgg23,
  z28:=sizeOf23,
  v28:=zeroValue23,
  t46:=qb,
  a46:=ko,
  z46:=vh,
  v46:=uj,
  t51:=kq,
  a51:=fx,
  z51:=qu,
  v51:=yl,
  t53:=oz,
  a53:=ejr,
  z53:=vqu,
  v53:=je,
  t131:=ng,
  a131:=dkk,
  z131:=zjo,
  v131:=wo,
  t182:=kg,
  a182:=wcm,
  z182:=uy,
  v182:=mg,
  t183:=vw,
  a183:=taf,
  z183:=jmi,
  v183:=wx,
  t218:=jz,
  a218:=ccu,
  z218:=xy,
  v218:=jf,
  t222:=sx,
  a222:=su,
  z222:=vwq,
  v222:=xii,
  t228:=qj,
  a228:=mxu,
  z228:=pw,
  v228:=mi,
  t229:=xk,
  a229:=r9,
  z229:=vy,
  v229:=nq }
def ZV(w g I V)(H:gY)(t)(G:w.1[g]?=lj (oh H t))(N:∀j (h:j<Z V),H[j]?=lj (iE V[j]))(K:Z V<=1000):u y7 210 #[qh (lj (iC g)) (Z V) I] w λe B=>e=k8 (js #[])/\w.grownBy B (lj g)/\∀j (h:j<Z V),B.cell? (iD g j)=lj (iE ((V.mergeSort λx y=>decide (x<=y))[j]'(by rw[eI];exact h))):=by
 have p:Go.Sort.Holds (uu gh) w g 0 V.toArray:=λj l=>by
  have P:j<Z V:=by simpa using l
  rw[aX];refine⟨?_,Dm G⟩;rw[M G (N j P)];simp[P]
 apply(Any.slices_Sort_int Tryz.lays189 g 0 I V w p (ltOf G) Aa).mono;rintro e B⟨rfl,n,d,rfl⟩;refine⟨iI,⟨iI,iI,iI,?_,λk E f=>?_⟩,λj l=>?_⟩
 ·simp
 ·show((w.1.modify g _)++d)[k]?=_
  grind
 ·have D:(Go.Sort.grow (Go.Sort.putRow (uu gh) (Go.Sort.ahead w n) g 0 (V.mergeSort λx y=>decide (x<=y)).toArray) d).1[g]?=lj (oh (kj (uu gh) 0 (V.mergeSort λx y=>decide (x<=y)).toArray H) t):=by
   show((w.1.modify g _)++d)[g]?=_;rw[dJ (by simpa using(ltOf G)),bS,aL iI,G]
   rfl
  apply M D;have Y:=(aG.1 (N j l)).1;have b:j<(V.mergeSort λx y=>decide (x<=y)).length:=by rwa[eI]
  unfold kj
  grind
end Go.Proofs.YtcbilgmfdgpomaaGreatDoor
namespace Orch
variable (f:gS)
def GB(k:Nat)(t:Ty)(v:V)(bs:gT):Prop:=∀out:gT,Z out+Z bs<=1000->put f k out t v=lj (out++bs)
inductive Xa(k):List Ty->List V->gT->Prop
 |nil:Xa k [] [] []
 |cons {t v b ts vs bs} (h:GB f k t v b) (r:Xa k ts vs bs):Xa k (t::ts) (v::vs) (b++bs)
def N9{t v}(I:fits f t v=km)(K:v.l = []):GB f (k+1) t v (head t v):=λa O=>by
 rw[put,aL I,K,putE]
 grind
def Xa.len{L a W}(h:Xa f k L a W):Z a=Z L:=by
 induction h with
 |nil=>rfl
 |cons _ _ O=>simp[O]
def Xa.run{t}(P:t.l.shape≠2){L c W}(h:Xa f k L c W):∀pre,t.ps=pre++L->∀a:gT,Z a+Z W<=1000->putE (put f k) t c (Z pre) a=lj (a++W):=by
 induction h with
 |nil=>intro pre _ a _;simp[putE]
 |@cons S v b L c W Q Y d=>
  intro pre B a O;rw[aK]at O;have E:part t (Z pre)=S:=by
   unfold part;rw[aM P,B];simp
  rw[putE,E,Q a Aa];have:=d (pre++[S]) (by rw[B];simp) (a++b) HQ
  grind
def puts_rec{k l}(P:l.shape=3){b c W}(h:Xa f k b c W):GB f (k+1) (.mk l b) (.mk 0 iG c) W:=λa O=>by
 have I:fits f (.mk l b) (.mk 0 iG c)=km:=by
  have C:(ByteArray.mk #[]).size=0:=iI;simp[fits,Ty.l,Ty.ps,V.n,V.s,V.l,P,h.len,C]
 have g:head (.mk l b) (.mk 0 iG c) = []:=by simp[head,Ty.l,P]
 rw[put,aL I,g,bZ];have:=h.run f (t:=.mk l b) (by show l.shape≠2;omega) [] iI a O
 show(match putE _ _ c 0 a with|none=>jh|some o=>if Z o<=1000 then lj o else jh)=_
 grind
abbrev lq:Lt:=⟨63,0,1,0,1,sd,0⟩
abbrev l4:Lt:=⟨52,0,4,-2147483648,2147483647,sd,0⟩
abbrev l8:Lt:=⟨56,0,8,-9223372036854775808,9223372036854775807,sd,0⟩
abbrev lb:Lt:=⟨98,1,0,0,0,sd,0⟩
abbrev lt:Lt:=⟨116,1,0,0,0,km,0⟩
abbrev lr:Lt:=⟨40,3,0,0,0,sd,41⟩
abbrev tq:Ty:=.mk lq []
abbrev t4:Ty:=.mk l4 []
abbrev t8:Ty:=.mk l8 []
abbrev tb:Ty:=.mk lb []
abbrev tt:Ty:=.mk lt []
abbrev num(n:Int):V:=.mk n ⟨#[]⟩ []
abbrev txt(s:gU):V:=.mk 0 s []
def puts_4{n}(C:-2147483648<=n)(J:n<=2147483647):GB f (k+1) t4 (num n) (be n 4):=by
 exact Jq1
def puts_8{n}(C:-9223372036854775808<=n)(J:n<=9223372036854775807):GB f (k+1) t8 (num n) (be n 8):=by
 exact Jq1
def puts_t{k}(C:s.size<=200)(J:f s=km):GB f (k+1) tt (txt s) (be s.size 4++s.data.toList):=
 N9 f (by simp[fits,Ty.l,V.n,V.s,V.l,C,J]) iI
def parse_hello:K [40,52,41]=lj (.mk lr [t4]):=Ac
def parse_error:K [40,52,56,52,41]=lj (.mk lr [t4,t8,t4]):=Ac
def parse_event:K [40,52,56,52,52,116,41]=lj (.mk lr [t4,t8,t4,t4,tt]):=Ac
def parse_state:K [40,52,56,52,40,56,56,52,52,41,41]=lj (.mk lr [t4,t8,t4,.mk lr [t8,t8,t4,t4]]):=Ac
def puts_hello{n}(C:-2147483648<=n)(J:n<=2147483647):put f 9 [] (.mk lr [t4]) (.mk 0 iG [num n])=lj (be n 4):=by
 have:=puts_rec f (k:=8) (l:=lr) iI (.cons (puts_4 f C J) .nil) [] (by simp[be_length]);simpa using this
def puts_error{m z e}(o:-2147483648<=m)(i:m<=2147483647)(W:-9223372036854775808<=z)(T:z<=9223372036854775807)(g:-2147483648<=e)(A:e<=2147483647):put f 9 [] (.mk lr [t4,t8,t4]) (.mk 0 iG [num m,num z,num e])=lj (be m 4++be z 8++be e 4):=by
 have:=puts_rec f (k:=8) (l:=lr) iI (.cons (puts_4 f o i) (.cons (puts_8 f W T) (.cons (puts_4 f g A) .nil))) [] (by simp[be_length]);simpa using this
def puts_event{m z e}{d:gU}(o:-2147483648<=m)(i:m<=2147483647)(W:-9223372036854775808<=z)(T:z<=9223372036854775807)(g:-2147483648<=e)(A:e<=2147483647)(S:-2147483648<=x)(K:x<=2147483647)(Q:d.size<=200)(q:f d=km):put f 9 [] (.mk lr [t4,t8,t4,t4,tt]) (.mk 0 iG [num m,num z,num e,num x,txt d])=lj (be m 4++be z 8++be e 4++be x 4++be d.size 4++d.data.toList):=by
 have y:Z d.data.toList=d.size:=iI;have:=puts_rec f (k:=8) (l:=lr) iI (.cons (puts_4 f o i) (.cons (puts_8 f W T) (.cons (puts_4 f g A) (.cons (puts_4 f S K) (.cons (puts_t f Q q) .nil))))) [] I7;simpa using this
def puts_path{m z e}{p:gU}(o:-2147483648<=m)(i:m<=2147483647)(W:-9223372036854775808<=z)(T:z<=9223372036854775807)(g:-2147483648<=e)(A:e<=2147483647)(Q:p.size<=200)(q:f p=km):put f 9 [] (.mk lr [t4,t8,t4,tt]) (.mk 0 iG [num m,num z,num e,txt p])=lj (be m 4++be z 8++be e 4++be p.size 4++p.data.toList):=by
 have y:Z p.data.toList=p.size:=iI;have:=puts_rec f (k:=8) (l:=lr) iI (.cons (puts_4 f o i) (.cons (puts_8 f W T) (.cons (puts_4 f g A) (.cons (puts_t f Q q) .nil)))) [] I7;simpa using this
def puts_state{m z e a b c d}(o:-2147483648<=m)(i:m<=2147483647)(W:-9223372036854775808<=z)(T:z<=9223372036854775807)(g:-2147483648<=e)(A:e<=2147483647)(h:-9223372036854775808<=a)(j:a<=9223372036854775807)(M:-9223372036854775808<=b)(D:b<=9223372036854775807)(n:-2147483648<=c)(x:c<=2147483647)(k:-2147483648<=d)(E:d<=2147483647):put f 9 [] (.mk lr [t4,t8,t4,.mk lr [t8,t8,t4,t4]]) (.mk 0 iG [num m,num z,num e,.mk 0 iG [num a,num b,num c,num d]])=lj (be m 4++be z 8++be e 4++be a 8++be b 8++be c 4++be d 4):=by
 have:=puts_rec f (l:=lr) iI (.cons (puts_4 f o i) (.cons (puts_8 f W T) (.cons (puts_4 f g A) (.cons (puts_rec f (k:=7) (l:=lr) iI (.cons (puts_8 f h j) (.cons (puts_8 f M D) (.cons (puts_4 f n x) (.cons (puts_4 f k E) .nil))))) .nil)))) [] (by simp[be_length]);simpa using this
end Orch
namespace Go.Proofs.YtcbilgmfdgpomaaGreatDoor
variable {P:Program}
open Go.RowKit Go.Maps
open Go.ChangeMaps (setBlock)
def LF{l}(z:(l.map (·.born)).Nodup){e:po}(N:e∈l):(e::l.filter λx=>!(x.born==e.born)).Perm l:=by
 induction l with
 |nil=>cases N
 |cons y l O=>
  rw[bC,dQ]at z;rcases bH.1 N with rfl|N
  ·have S:(e::l).filter (λx=>!(x.born==e.born))=l:=by
    simp_all
   rw[S]
  ·rw[List.filter_cons_of_pos (by simpa using(λh=>z.1 (aZ.2 ⟨e,N,h.symm⟩)))];exact(List.Perm.swap y e _).trans ((O z.2 N).cons y)
def XY{X b}(s:qn X b)(a){e}(N:e∈(gi X a).toList):(e::(gi X (a.push e.born)).toList).Perm (gi X a).toList:=by
 have S:(gi X (a.push e.born)).toList=(gi X a).toList.filter λx=>!(x.born==e.born):=by
  simp only[gi,dX,List.filter_filter]
  grind
 rw[S];refine LF ?_ N;have:((gi X a).toList.map (·.born)).Sublist (X.toList.map (·.born)):=by
  simp only[gi,dX];exact List.Sublist.map _ (List.filter_sublist)
 exact this.nodup s.2.1
structure Ic(w:gk)(b r:Nat)(m R):Prop where
 ex:∃es clock since seen c0,w.1[b]?=lj (.map es clock)/\qn es clock/\es.toList.map kv=m/\w.1[r]?=lj (.mapIter (lj b) since seen c0)/\(∀x∈es.toList,x.born<since)/\(gi es seen).toList.map kv=R/\since<=c0/\since<=clock
section
variable {k a:q9} {w:I} {b r:Nat} {m R:List (uo×uo)}
def Bi.rangeL(h:Bi P k w b m)(R:P.underlying t=lj (.map k a)):∃o,(Instr.range t (.map (lj b))).run P w=.ok (iB w.1.size) (w.alloc o)/\Ic (w.alloc o) b w.1.size m m:=by
 obtain⟨X,c,D,s,rfl⟩:=h.ex;refine⟨_,run_range_map w t k a b X c R D,⟨X,c,c,#[],c,(ir _ _ _ h.lt).trans D,s,iI,iw _ _,s.1,?_,aC _,aC _⟩⟩;simp only[gi,dX]
 congr 1
 simp
def Ic.ne(h:Ic w b r m R):r≠b:=by
 have ⟨X,a,c,d,c0,D,_,_,Y,_⟩:=h.ex
 grind
def Ic.keep(h:Ic w b r m R)(D:B.1[b]?=w.1[b]?)(Y:B.1[r]?=w.1[r]?):Ic B b r m R:=by
 have ⟨X,a,c,d,c0,C,J,T,q,z⟩:=h.ex;exact⟨X,a,c,d,c0,by rwa[D],J,T,by rwa[Y],z⟩
def Ic.next(h:Ic w b r m R)(I):(R = []/\(Instr.next (iB r) sd I).run P w=.ok (js #[gd sd]) w) ∨
  ∃p z,(p::z).Perm R/\∃B,(Instr.next (iB r) sd I).run P w=.ok (js #[gd km,p.1,p.2]) B/\Ic B b r m z/\w.grownBy B (lj r)/\iL B.1=iL w.1/\∀x:gk,x.1[b]?=B.1[b]?->x.1[r]?=B.1[r]?->(Instr.entry (iB r)).run P x=.ok (js #[p.1,p.2]) x:=by
 obtain⟨X,d,e,c,c0,D,t,rfl,Y,f,rfl,u,l⟩:=h.ex;rcases run_next_at (P:=P) w I r b e c0 c X d Y D f u with⟨F,s⟩|⟨a,N,H,C,s⟩
 ·grind
 ·obtain⟨n,L⟩:=mem_left N;have G:(setBlock H r (.mapIter (lj b) e (c.push a.born) d)).1[r]?=lj (.mapIter (lj b) e (c.push a.born) d):=aQ (aG.1 (by rcases C with rfl|rfl<;>exact Y)).1;have J:∀i,i≠r->(setBlock H r (.mapIter (lj b) e (c.push a.born) d)).1[i]?=H.1[i]?:=λi V=>aD (λS=>V S.symm);have o:=(J b (λS=>h.ne S.symm)).trans (by rcases C with rfl|rfl<;>exact D);refine Or.inr ⟨kv a,(gi X (c.push a.born)).toList.map kv,(XY t c N).map kv,_,s,⟨X,d,e,c.push a.born,d,o,t,iI,G,f,iI,l,l⟩,?_,?_,λx E v=>run_entry_at _ r b e c X d a (v.trans G) (E.trans o) n t.2.1⟩
  ·rcases C with rfl|rfl<;>exact⟨iI,iI,iI,by simp[setBlock],λi _ V=>J i (λS=>V (by rw[S]))⟩
  ·rcases C with rfl|rfl<;>simp[setBlock]
end
def Nz(w:gk)(a S)(F:a≠[])(cs:gY)(f:cs.toList=a.flatMap Eo)(I n)(z:n=Z a)(l)(K:l=a.map l9)(H:S w.1.size)(Y:∀p,p∈a->D8 (w.alloc (oh cs I)) S p.1.l p.2):D8 (w.alloc (oh cs I)) S l (qh (lj (iC w.1.size)) n n):=by
 subst z K;refine .row a _ _ F (aC _) H (λj u b=>?_) Y;rw[←f]at b;exact M (iw w _) (by simpa using b)
def Fr(base:Nat)(w':I)(e:Ending)(body:gT):Prop:=∃ov,e=k8 ov/\w'.ownsRow base 5 1 ov (Orch.be (Z body) 4++body).length (A4 (Orch.be (Z body) 4++body))
def Fr.low{b a e c}(h:Fr b B e c)(D:a<=b):Fr a B e c:=by
 obtain⟨t,rfl,O⟩:=h;refine⟨t,iI,O.1,?_⟩;rcases O.2 with h|⟨g,I,H,C,J,T⟩
 ·exact Or.inl h
 ·exact Or.inr ⟨g,I,H,C,aE D J,T⟩
section
variable {h:gS} {z:gX}
def XT(U:It h z)(w)(V:z w)(c:Table w)(n)(C:-2147483648<=n)(J:n<=2147483647):u Y 116 #[iE n] w λe B=>Fr w.1.size B e (Orch.be n 4)/\iF w B:=by
 have R:Hid (u Y 125 #[pc ⟨#[40,52,41]⟩,qh (lj (iC w.1.size)) 1 1] (w.alloc (oh #[iE n,pc iG,qh jh 0 0] 183)) λe B=>Fr w.1.size B e (Orch.be n 4)/\iF w B):=by
  refine(Qk U _ (U.kept (U.size V) (Bf w _) V) (c.below (Bf w _) c.pos) ⟨#[40,52,41]⟩ [Orch.num n] (λf=>f<(w.alloc (oh #[iE n,pc iG,qh jh 0 0] 183)).1.size) _ (Nz w [(Orch.num n,qh jh 0 0)] _ Ad _ An 183 1 iI _ iI Ad ?_) (λ_ a=>a) _ Orch.parse_hello _ (Orch.puts_hello h C J) Al Al).mono ?_
  ·intro p Q;simp at Q;subst Q;exact .nil jh 0
  ·rintro e B⟨a,D⟩;exact⟨Fr.low a Ad,(Bf w _).trans (D.mono Ad)⟩
 go_enter func116,ntmps116;exact Mzn
abbrev J4(kind mark:Int)(p d n:gU)(ver:Int)(wt:Bool):uo:=faj #[iE kind,iE mark,pc p,pc d,pc n,iE ver,gd wt]
abbrev A5(kind mark:Int)(p d n:gU)(ver:Int)(wt:Bool):Array uo:=#[iE kind,iE mark,pc p,pc d,pc n,iE ver,gd wt]
def XI(U:It h z)(w)(V:z w)(c:Table w)(kind T p d n K f N e)(o:-2147483648<=T)(i:T<=2147483647)(W:-9223372036854775808<=N)(j:N<=9223372036854775807)(k:-2147483648<=e)(A:e<=2147483647):u Y 187 #[J4 kind T p d n K f,iE N,iE e] w λx B=>Fr w.1.size B x (Orch.be T 4++Orch.be N 8++Orch.be e 4)/\iF w B:=by
 have R:Hid (u Y 125 #[pc ⟨#[40,52,56,52,41]⟩,qh (lj ⟨iL w.1+1,0,jh⟩) 3 3] ((w.alloc (oh (A5 kind T p d n K f) 131)).alloc (oh #[iE T,pc iG,qh jh 0 0,iE N,pc iG,qh jh 0 0,iE e,pc iG,qh jh 0 0] 183)) λx B=>Fr w.1.size B x (Orch.be T 4++Orch.be N 8++Orch.be e 4)/\iF w B):=by
  have S:iF w ((w.alloc (oh (A5 kind T p d n K f) 131)).alloc (oh #[iE T,pc iG,qh jh 0 0,iE N,pc iG,qh jh 0 0,iE e,pc iG,qh jh 0 0] 183)):=(Bf w _).alloc Ad _;have q:=Nz (w.alloc (oh (A5 kind T p d n K f) 131)) [(Orch.num T,qh jh 0 0),(Orch.num N,qh jh 0 0),(Orch.num e,qh jh 0 0)] (λg=>g<iL w.1+2) Ad #[iE T,pc iG,qh jh 0 0,iE N,pc iG,qh jh 0 0,iE e,pc iG,qh jh 0 0] An 183 3 iI _ iI Ad (by
   intro p Q;simp at Q;rcases Q with rfl|rfl|rfl<;>exact .nil jh 0)
  rw[show(w.alloc (oh (A5 kind T p d n K f) 131)).1.size=iL w.1+1 by simp]at q;apply(Qk U _ (U.kept (U.size V) S V) (c.below S c.pos) ⟨#[40,52,56,52,41]⟩ _ _ _ q (λg a=>by simpa using a) _ Orch.parse_error _ (Orch.puts_error h o i W j k A) Al Al).mono;rintro e B⟨a,D⟩;exact⟨Fr.low a Ah,S.trans (D.mono Ah)⟩
 go_enter func187,ntmps187;exact Q4r
def XJ(U:It h z)(w)(V:z w)(c:Table w)(N x)(p:gU)(W:-9223372036854775808<=N)(T:N<=9223372036854775807)(S:-2147483648<=x)(K:x<=2147483647)(f:p.size<=200)(q:h p=km):u Y 192 #[iE N,iE x,pc p] w λy B=>Fr w.1.size B y (Orch.be (-1) 4++Orch.be N 8++Orch.be 0 4++Orch.be x 4++Orch.be p.size 4++p.data.toList)/\iF w B:=by
 have R:Hid (u Y 125 #[pc ⟨#[40,52,56,52,52,116,41]⟩,qh (lj (iC w.1.size)) 5 5] (w.alloc (oh #[iE (-1),pc iG,qh jh 0 0,iE N,pc iG,qh jh 0 0,iE 0,pc iG,qh jh 0 0,iE x,pc iG,qh jh 0 0,iE 0,pc p,qh jh 0 0] 183)) λy B=>Fr w.1.size B y (Orch.be (-1) 4++Orch.be N 8++Orch.be 0 4++Orch.be x 4++Orch.be p.size 4++p.data.toList)/\iF w B):=by
  have ai:Z p.data.toList=p.size:=iI;have l:=Nz w [(Orch.num (-1),qh jh 0 0),(Orch.num N,qh jh 0 0),(Orch.num 0,qh jh 0 0),(Orch.num x,qh jh 0 0),(Orch.txt p,qh jh 0 0)] (λg=>g<iL w.1+1) Ad #[iE (-1),pc iG,qh jh 0 0,iE N,pc iG,qh jh 0 0,iE 0,pc iG,qh jh 0 0,iE x,pc iG,qh jh 0 0,iE 0,pc p,qh jh 0 0] An 183 5 iI _ iI Ad (by
   intro p f;simp at f;rcases f with rfl|rfl|rfl|rfl|rfl<;>exact .nil jh 0)
  apply(Qk U _ (U.kept (U.size V) (Bf w _) V) (c.below (Bf w _) c.pos) ⟨#[40,52,56,52,52,116,41]⟩ _ _ _ l (λg a=>by simpa using a) _ Orch.parse_event _ (Orch.puts_event h Aa Aa W T Aa Aa S K f q) Ap HA).mono;rintro e B⟨a,D⟩;exact⟨Fr.low a Ad,(Bf w _).trans (D.mono Ad)⟩
 go_enter func192,ntmps192;exact Mzn
end
attribute [local go_sem ↓] Go.wp_at_zero Go.wp_at_succ
def Wu{g o a w}{K:Act->I->Prop}{Q:Exit->Act->I->Prop}{E}(H:o.guard=jh)(s x t)(O:o.op=.call { callee:=.builtin .append,args:=#[s,x],argTypes:=#[t,t] })(v u)(f:a.eval s=v)(Z:a.eval x=u)(F:iA)(Y:∃U B,(ry #[t,t] o.type #[v,u]).run P w=.ok U B/\F U B)(h:∀U B,F U B->K (a.put o.dst U) B):if Region.wanted o (yielded g a.tmps)=km then Oper.wp P o a w K Q else E:=by
 rw[aL (by simp[Region.wanted,H])];have ⟨U,B,Y,hF⟩:=Y;unfold Oper.wp execOp;simp only[O,resolve,invoke,builtin,Sem.run_bind,Sem.run_pure,Result.andThen_ok,cG,bC,cM,f,Z,Y];exact h _ _ hF
inductive Ed(W0):gk->Prop
 |refl:Ed W0 W0
 |step {W:gk} (h:Ed W0 W):Ed W0 W.drew
def Ed.heap{b}(h:Ed b W):W.1=b.heap:=by
 induction h with
 |refl=>rfl
 |step h O=>exact O
def Sf(w:I)(kind m:Int)(p d n:gU)(ver:Int)(wt:Bool)(z:Int):I:=(w.alloc (oh #[iE kind,iE m,pc p,pc d,pc n,iE ver,gd wt] 131)).alloc (oh #[iE m,pc iG,qh jh 0 0,iE z,pc iG,qh jh 0 0,iE 0,pc iG,qh jh 0 0] 183)
def Abc(w)(kind:Nat)(T p d n K a N)(E:kind<8)(O:gU)(Z:hU)(h f)(R:Option Addr->Nat->Nat->I->Prop)(g:iA)(s:w.cell? ⟨3,kind * 3+1,jh⟩=lj (pc O))(r:3<iL w.1)(X:Hid (∀W,Ed (Sf w kind T p d n K a N) W->∃U P,(ry #[177,177] 177 #[qh (lj ⟨iL w.1+1,0,jh⟩) 3 3,qh Z h f]).run Y W=.ok U P/\∃b i c,U=qh b i c/\P.cell? (iC w.1.size)=lj (iE kind)/\P.cell? ⟨3,kind * 3+1,jh⟩=lj (pc O)/\Hid (R b i c P)))(k:Hid (∀b i c P,R b i c P->∀W,Ed P W->xq Y 125 #[pc O,qh b i c] W λe B=>∃t,e=k8 t/\Hid (g t B))):xq Y 171 #[iE 1,J4 kind T p d n K a,iE N,qh Z h f] w λe B=>∃t,e=k8 t/\g t B:=by
 have D:(Sf w kind T p d n K a N).cell? ⟨3,kind * 3+1,jh⟩=lj (pc O):=by
  unfold Sf;rwa[mv _ _ _ Ah,mv _ _ _ (by simpa using r)]
 have u:(Sf w kind T p d n K a N).cell? (iC w.1.size)=lj (iE kind):=by
  unfold Sf;rw[mv _ _ _ Ad];exact M (iw w _) iI
 have v:(kind:Int)<8:=Aa;go_enter func171,ntmps171;go_wp2;rw[show(w.alloc (oh #[iE kind,iE T,pc p,pc d,pc n,iE K,gd a] 131)).alloc (oh #[iE T,pc iG,qh jh 0 0,iE N,pc iG,qh jh 0 0,iE 0,pc iG,qh jh 0 0] 183)=Sf w kind T p d n K a N from iI];generalize Sf w kind T p d n K a N=j at *;go_region_law (first
  |(apply Wu iI (.tmp 23) (.tmp 24) 177 Ac (qh (lj ⟨iL w.1+1,0,jh⟩) 3 3) (qh Z h f) Ac Ac _ (X.out _ (by(first|exact Ed.refl|exact Ed.step Ed.refl|exact Ed.step (Ed.step Ed.refl)|exact Ed.step (Ed.step (Ed.step Ed.refl))|exact Ed.step (Ed.step (Ed.step (Ed.step Ed.refl))))));rintro _ P⟨b,i,c,rfl,Q,l,q⟩)
  |(go_simp;apply(k.out b i c P q.out _ (by(first|exact Ed.refl|exact Ed.step Ed.refl|exact Ed.step (Ed.step Ed.refl)|exact Ed.step (Ed.step (Ed.step Ed.refl))|exact Ed.step (Ed.step (Ed.step (Ed.step Ed.refl)))))).mono;rintro e B⟨t,rfl,o⟩))
 all_goals (go_wp2;go_ret;exact⟨_,iI,o.out⟩)
def Ed.under{b}(h:Ed b W){B a}(D:vu B a b):vu B a W:=by
 induction h with
 |refl=>exact D
 |step h O=>exact O.drew
theorem Ed.cell{b:gk}(h:Ed b W)(a:Addr):W.cell? a=b.cell? a:=by unfold World.cell?;rw[h.heap]
section
variable {h:gS} {z:gX}
abbrev Ag9(m z:Int):List (Orch.V×uo):=[(Orch.num m,qh jh 0 0),(Orch.num z,qh jh 0 0),(Orch.num 0,qh jh 0 0)]
theorem PI(U:It h z)(w:gk)(V:z w)(F:Table w)(kind:Nat)(hk:kind<8)(T:Int)(p d n:gU)(K:Int)(a:Bool)(N:Int)(O:gU)(o:w.cell? ⟨3,kind * 3+1,jh⟩=lj (pc O))(v:3<w.heap.size)(l:List Orch.V)(lv:uo)(am:l = []->lv=qh jh 0 0)(an:l.length<=100)(G:D8 w (λb=>b<w.heap.size) l lv)(x:Orch.Ty)(hp:Orch.parse O.data.toList=lj x)(c:gT)(f:Orch.put h 9 [] x (.mk 0 ⟨#[]⟩ ([Orch.num T,Orch.num N,Orch.num 0]++l))=lj c)(h0:0<c.length)(hl:c.length<=1000) :
  xq y7 171 #[uu gh 1,J4 kind T p d n K a,uu gh N,lv] w λe B=>Fr w.heap.size B e c/\vu w.heap.size w B:=by
 obtain⟨ma,H,ag⟩:=G.shape;have L:vu w.heap.size w (Sf w kind T p d n K a N):=(Bf w _).alloc Ad _;have C:(Sf w kind T p d n K a N).heap.size=w.heap.size+2:=by simp[Sf]
 have hg:(Sf w kind T p d n K a N).heap[w.heap.size+1]? = lj (oh #[uu gh T,pc ⟨#[]⟩,qh jh 0 0,uu gh N,pc ⟨#[]⟩,qh jh 0 0,uu gh 0,pc ⟨#[]⟩,qh jh 0 0] 183):=by
  have:=iw (w.alloc (oh #[uu gh kind,uu gh T,pc p,pc d,pc n,uu gh K,gd a] 131)) (oh #[uu gh T,pc ⟨#[]⟩,qh jh 0 0,uu gh N,pc ⟨#[]⟩,qh jh 0 0,uu gh 0,pc ⟨#[]⟩,qh jh 0 0] 183);simpa[Sf] using this
 have Q:(Sf w kind T p d n K a N).cell? ⟨w.heap.size,0,jh⟩=lj (uu gh kind):=by
  unfold Sf;simp
 obtain⟨S,Y,a6,aq,ar⟩:=info_parts Tryz.info183;have X:=underlying177;generalize af:l.length=ln at ag an;subst ag;generalize hA:Sf w kind T p d n K a N=W0 at *;refine(Abc w kind T p d n K a N hk O ma ln H (λy Z E P=>D8 P (λb=>b<P.heap.size) ([Orch.num T,Orch.num N,Orch.num 0]++l) (qh y Z E)/\vu w.heap.size w P) (λt B=>Fr w.heap.size B (k8 t) c/\vu w.heap.size w B) o v ?_ ?_).mono ?_
 ·rw[hA];intro W k;have R:=k.heap;have g:=k.under L;cases G with
  | nil=>
   have e:=am rfl;cases e;refine⟨_,W,run_append_nothing W 177 177 177 183 S X Y _ 3 3 (aC _) _ (Src.ofNil W X 0),_,_,_,rfl,(k.cell _).trans Q,(k.cell _).trans ((L.cell (p:=⟨3,kind * 3+1,jh⟩) v).trans o),?_,g⟩;refine .row (Ag9 T N) _ _ Ad (aC _) (by rw[R,C];omega) (λj u I=>((k.cell _).trans (cellOf hg (by simpa[Eo,Orch.V.n,Orch.V.s] using I)))) (λq f=>?_)
   ·simp at f;rcases f with rfl|rfl|rfl <;> exact .nil jh 0
  | row ps i ai ao aj hS hc hr=>
   have ah:W.ownsRow w.heap.size 183 3 (qh (lj ⟨w.heap.size+1,0,jh⟩) 3 3) 3 ((Ag9 T N).flatMap Eo):=
    ⟨rfl,.inr ⟨w.heap.size+1,3,_,rfl,Aa,by rwa[R],Aa,H8,Ac,Ac⟩⟩
   obtain⟨g',a7,P,s,m,ad,ak,a8⟩:=run_append_lies (P:=y7) W 177 177 w.heap.size 183 S _ 3 _ X Y a6 aq ar rfl Ae _ 3 _ ah ⟨i,0,jh⟩ ps.length H (ps.flatMap Eo) (Acr Eo 3 (λ_=>rfl) ps)
    (λj u I=>by
     have:Addr.add ⟨i,0,jh⟩ j=⟨i,j,jh⟩:=by cases j <;> simp[Addr.add]
     rw[this];exact(g.cell (p:=⟨i,j,jh⟩) hS).trans (hc j u I))
    (λu r=>by
     obtain⟨q,f,r⟩:=List.mem_flatMap.1 r;have:=hr q f;obtain⟨y,E,e⟩:=this.shape;simp only[Eo,bH,eC,or_false]at r;rcases r with rfl|rfl|rfl
     ·rfl
     ·rfl
     ·rw[e];rfl)
    (eP.2 ao) H8 Aa g.size _ rfl
   have A:vu w.heap.size w P:=g.grown ad (by rw[R,C];omega) (λj I=>by simp[yq]at I;omega);refine⟨_,P,s,_,_,_,rfl,?_,((A.cell (p:=⟨3,kind * 3+1,jh⟩) v).trans o),?_,A⟩
   ·rw[qpd (w:=W) (ad.block _ (by rw[R,C];show w.heap.size<_;omega) (λe=>by simp[yq]at e))];exact(k.cell _).trans Q
   ·have aa:∀j u,((Ag9 T N++ps).flatMap Eo)[j]? = lj u->P.cell? ⟨g',j,jh⟩=lj u:=λj u I=>by
     rw[List.flatMap_append]at I;rcases m.2 with⟨e,_⟩|⟨g2,ab,ae,e,_,J,al,h4,h5,h6⟩
     ·cases e
     ·cases e;rw[←h6,eG]at I;split at I
      ·exact cellOf J (by simpa using I)
      ·cases I
    have:=D8.row (w:=P) (S:=λb=>b<P.heap.size) (Ag9 T N++ps) g' a7 Ad (by
      rcases m.2 with⟨e,_⟩|⟨g2,ab,ae,e,_,J,al,h4,h5,h6⟩
      ·cases e
      ·cases e;simp;omega) a8 aa (λq f=>by
      rcases bP.1 f with f|f
      ·simp at f;rcases f with rfl|rfl|rfl <;> exact .nil jh 0
      ·exact(hr q f).congr (λb D=>aA D A.size) (λb D=>A.block b D))
    simp only[aK,cP]at this;exact this
 ·intro y Z E P hR W k;have M:=k.under hR.2;refine(Qk U W (U.kept (U.size V) M V) (F.below M F.pos) O _ (λb=>b<W.heap.size) _ (hR.1.congr (λb a1=>by rwa[k.heap]) (λb _=>by rw[k.heap])) (λ_ a1=>a1) x hp c f h0 hl).mono ?_;rintro e B⟨⟨t,rfl,m⟩,D⟩;exact⟨t,rfl,Fr.low ⟨t,rfl,m⟩ M.size,M.trans (D.mono M.size)⟩
 grind
end
end Go.Proofs.YtcbilgmfdgpomaaGreatDoor
namespace Go.Proofs.YtcbilgmfdgpomaaGreatDoor
variable {P:Program}
open Go.RowKit
def An0(w)(R:gU)(L:hU)(T k)(h c P:Nat)(s V K)(u:Nat)(q:Option Addr->Nat->Nat->I->Prop)(r:I->Option Addr->Nat->Nat->I->Prop)(g:Hid (xq y7 141 #[pc R] w λe B=>(∃p m n,e=k8 (js #[Ia h c P s V K u (qh p m n),gd km])/\q p m n B)/\iF w B))(d:Hid (∀S W p m n,q p m n S->iF S W->iF w W->xq y7 147 #[Ia h c P s V K u (qh p m n),qh L T k] W λe B=>(∃b l a i j,e=k8 (js #[vv b l (qh a i j),gd km])/\r W a i j B)/\iF W B)):xq y7 118 #[pc R,qh L T k] w λe B=>(∃a i j W J,e=k8 (js #[qh a i j,gd km])/\r W a i j J/\iF J B/\iL w.1<=iL W.1)/\iF w B:=by
 go_enter func118,ntmps118;go_wp2_with (first
  |(go_at_call 141;apply g.out.mono;rintro e H⟨⟨p,m,n,rfl,f⟩,M⟩;have o:=hide f;have O:=hide M;clear M f)
  |(go_at_call 147;apply(d.out H _ p m n o.out (Bf _ _) (O.out.alloc O.out.size _)).mono;rintro e E⟨⟨b,l,a,i,j,rfl,Y⟩,D⟩;have x:=hide Y;have C:=hide ((O.out.alloc O.out.size _).trans (D.mono HH));clear D Y))
 go_ret2;exact⟨⟨_,_,_,_,_,iI,x.out,Bf _ _,HH⟩,C.out.alloc C.out.size _⟩
section
variable {h:gS} {z:gX}
def Sl(U:It h z)(w)(V:z w)(A:Table w)(R:gU)(t)(Q:Orch.parse R.data.toList=lj t)(T)(l:gT)(K:iK l<=1000)(u:J5 w T l)(v)(y:Vf h t l=lj v):xq y7 118 #[pc R,T] w λe a=>(∃d,e=k8 (js #[d,gd km])/\D8 a (λb=>iL w.1<=b/\b<iL a.1) v.l d)/\iF w a:=by
 have g:=u;obtain⟨b,off,I,rfl,C,Y,D⟩:=u;have M:=Re w R A;rw[Q]at M;refine(An0 w R _ _ _ t.l.sign.toNat t.l.shape t.l.size t.l.least t.l.5 t.l.text t.l.fin.toNat (λp m n a=>E7 a (λb=>b<iL a.1) t.ps (qh p m n)) (λW f i j a=>D8 a (λb=>iL W.1<=b/\b<iL a.1) v.l (qh f i j)) (M.mono ?_) (λS W p m n Z N x=>?_)).mono ?_
 ·exact M7k
 ·have:=Af0 U W (U.kept (U.size V) x V) t (Uv Q) (λb=>b<iL W.1) _ (Z.congr (λb c=>aA c N.size) (λb D=>N.block b D)) (λ_ c=>c) _ l Aa (g.below x (aC _));rw[y]at this;apply this.mono;rintro e a⟨⟨d,rfl,O⟩,D⟩;obtain⟨f,B,rfl⟩:=BS.shape O;exact⟨⟨_,_,_,_,_,iI,BS.vs O⟩,D⟩
 ·rintro e a⟨⟨f,i,j,W,J,rfl,r,q,s⟩,D⟩;exact⟨⟨_,iI,r.congr (λb D=>⟨aE s D.1,aA D.2 q.size⟩) (λb D=>q.block b D.2)⟩,D⟩
theorem BN{w:gk}{S:gV}{v:Orch.V}{a:List Orch.V}{d:uo}(h:D8 w S (v :: a) d) :
  ∃g I,d=qh (lj (iC g)) (a.length+1) I/\a.length+1<=I/\S g/\∀j (x:Orch.V),(v :: a)[j]? = lj x->w.cell? ⟨g,j * 3,jh⟩=lj (iE x.n)/\w.cell? ⟨g,j * 3+1,jh⟩=lj (pc x.s):=by
 generalize f:v :: a=L at h;cases h with
 | nil=>cases f
 | row c g I F C H M Y=>
  have b:c.length=a.length+1:=by have:=aJ List.length f;simpa using this.symm
  refine⟨g,I,by rw[b],Aa,H,λj x Z=>?_⟩;rw[aS]at Z;cases Q:c[j]? with
  | none=>grind
  | some q=>
   rw[Q]at Z;simp only[aI,aT]at Z;subst Z;refine⟨M _ _ ?_,M _ _ ?_⟩
   ·have:=Uc Eo 3 (λ_=>rfl) c j 0 Aa;rw[Nat.add_zero]at this;rw[this,Q];rfl
   ·have:=Uc Eo 3 (λ_=>rfl) c j 1 Aa;rw[this,Q];rfl
def CQ(U:It h z)(w)(V:z w)(d:Table w)(T)(l:gT)(K:Z l<=1000)(u:J5 w T l)(n)(y:Vf h (.mk Orch.lr [Orch.t4]) l=lj (.mk 0 iG [Orch.num n])):xq y7 115 #[T] w λe B=>e=k8 (js #[iE n,gd km])/\iF w B:=by
 have I:=Sl U w V d ⟨#[40,52,41]⟩ _ Orch.parse_hello T l K u _ y;obtain⟨b,off,f,rfl,C,Y,D⟩:=u;have r:Hid (xq y7 118 #[pc ⟨#[40,52,41]⟩,qh (lj (iD b off)) (Z l) f] w λe B=>∃g c,e=k8 (js #[qh (lj (iC g)) 1 c,gd km])/\B.cell? (iC g)=lj (iE n)/\iF w B):=I.mono (by
  rintro e B⟨⟨j,rfl,q⟩,a⟩;obtain⟨g,c,rfl,_,_,M⟩:=BN q;exact⟨g,c,iI,(M 0 _ iI).1,a⟩)
 clear I D y;go_enter func115,ntmps115;go_wp2_with (go_at_call 118;apply r.out.mono;rintro e H⟨g,c,rfl,c0,a⟩;have i:=S a;clear a);go_ret2;exact⟨iI,i.out⟩
def Uz(w T)(l:gT)(q:4<=Z l)(K:Z l<=1000)(u:J5 w T l)(k)(E:Orch.sgn (l.take 4)=k)(a:1<=k)(M:k<=7):xq y7 117 #[T] w λe B=>e=k8 (js #[iE k,gd km])/\B=w:=by
 obtain⟨b,off,I,rfl,C,Y,D⟩:=u;have V:Hid (xq y7 158 #[qh (lj (iD b off)) 4 I] w λe B=>e=k8 (iE k)/\B=w):=by
  have:=BA w b off I _ Ai (D.take (n:=4))
  rwa[E]at this
 exact T4d
end
attribute [local go_sem ↓] Go.wp_at_zero Go.wp_at_succ
structure Br(w w':gk)(g:Nat)(cs:gY)(t):Prop where
 blk:w'.1[g]?=lj (oh cs t)
 grown:w.grownBy w' (lj g)
def Br.refl{w}{cs:gY}(h:w.1[g]?=lj (oh cs t)):Br w w g cs t:=⟨h,⟨iI,iI,iI,aC _,λ_ _ _=>rfl⟩⟩
def Br.set{w cs}(h:Br w B g cs t)(j v):Br w (B.setCell (iD g j) v) g (cs.setIfInBounds j v) t:=
 ⟨heap_setCell_same _ _ _ _ _ _ h.blk,h.grown.os,h.grown.tape,h.grown.output,by simp only[World.setCell];split<;>simp[h.grown.size],λk E f=>(p7 _ _ _ _ (λe=>f (by rw[e]))).trans (h.grown.block k E f)⟩
def Br.drew{w cs}(h:Br w B g cs t):Br w B.drew g cs t:=⟨h.blk,h.grown.os,h.grown.tape,h.grown.output,h.grown.size,h.grown.block⟩
def KZ(w)(P m g off I:Nat)(N)(p v:gU)(Y:w.1[P]?=lj (oh (A5 1 N iG iG iG 0 sd) 131))(C:w.cell? ⟨g,off+1,jh⟩=lj (pc p))(J:w.cell? ⟨g,off+4,jh⟩=lj (pc v))(f:g≠P):u y7 119 #[iB P,qh (lj (iD g off)) 2 I] w λe B=>e=k8 (js #[])/\Br w B P (A5 1 N p v iG 0 sd) 131:=by
 have ⟨c0,_,R,U⟩:=Aj8 Y iI;have ⟨_,_,K,f3,_⟩:=Gu Y;have z:=S Y;clear Y;have Z:=S (((Br.refl z.out).set 2 (pc p)).set 3 (pc v));exact Dfh
def LD(w)(P m g off I:Nat)(N)(p:gU)(v)(Y:w.1[P]?=lj (oh (A5 2 N iG iG iG 0 sd) 131))(C:w.cell? ⟨g,off+1,jh⟩=lj (pc p))(J:w.cell? ⟨g,off+3,jh⟩=lj (iE v))(f:g≠P):u y7 119 #[iB P,qh (lj (iD g off)) 2 I] w λe B=>e=k8 (js #[])/\Br w B P (A5 2 N p iG iG v sd) 131:=by
 have ⟨c0,_,R,_,_,l⟩:=N4 Y iI;have ⟨_,_,K,_,_,t,_⟩:=Gu Y;have z:=S Y;clear Y;have Z:=S (((Br.refl z.out).set 2 (pc p)).set 5 (iE v));exact Dfh
def Ack(w)(P m g off I:Nat)(N)(p d:gU)(v)(Y:w.1[P]?=lj (oh (A5 3 N iG iG iG 0 sd) 131))(C:w.cell? ⟨g,off+1,jh⟩=lj (pc p))(J:w.cell? ⟨g,off+4,jh⟩=lj (pc d))(T:w.cell? ⟨g,off+6,jh⟩=lj (iE v))(f:g≠P):u y7 119 #[iB P,qh (lj (iD g off)) 3 I] w λe B=>e=k8 (js #[])/\Br w B P (A5 3 N p d iG v sd) 131:=by
 have ⟨c0,_,R,U,_,l⟩:=N4 Y iI;have ⟨_,_,K,f3,_,c,_⟩:=Gu Y;have z:=S Y;clear Y;have Z:=S ((((Br.refl z.out).set 2 (pc p)).set 3 (pc d)).set 5 (iE v));exact Dfh
end Go.Proofs.YtcbilgmfdgpomaaGreatDoor
namespace Go.Proofs.YtcbilgmfdgpomaaGreatDoor
variable {P:Program}
open Go.RowKit
def Ah6{E Z:I}{o}{cs d:gY}{S}(R:Br (E.alloc o) Z E.1.size cs t)(h:E.1[k]?=lj (oh d S)):Z.1[k]?=lj (oh d S):=by
 have a:=ltOf h
 rwa[R.grown.block k Ah Ah,ir _ _ _ a]
def Aje(w)(kind:Nat)(h8:kind<8)(L:hU)(T k u)(h2:2<=u)(O:gU)(a)(D:¬a<0)(p f S K n)(j:Nat->Nat->gk->Prop)(s:w.cell? ⟨0,kind * 3+1,jh⟩=lj (pc O))(F:0<iL w.1)(N:Hid (∀W,iF w W->xq Y 117 #[qh L T k] W λe B=>e=k8 (js #[iE kind,gd km])/\B=W))(r:Hid (∀W,iF w W->xq Y 118 #[pc O,qh L T k] W λe B=>∃g c,e=k8 (js #[qh (lj (iC g)) u c,gd km])/\u<=c/\B.cell? (iD g 3)=lj (iE a)/\Hid (j g c B/\g<iL B.1/\iF W B)))(m:Hid (∀g c J o,j g c J->g<iL J.1->(4<=u->o=qh (lj (iD g 6)) (u - 2) (c - 2))->∀b,iF J b->b.1[iL J.1]?=lj (oh (A5 kind a iG iG iG 0 sd) 131) ->
   xq Y 119 #[iB J.1.size,o] b λe B=>e=k8 (js #[])/\Br b B J.1.size (A5 kind a p f S K n) 131)):xq Y 67 #[iE 1,qh L T k] w λe B=>e=k8 (js #[J4 kind a p f S K n,gd km])/\iF w B:=by
 refine Vyx λX=>?_;refine Qvk λV d=>?_;have G:(1:Int)<(u:Int):=Aa;have H:(2:Int)<=(u:Int):=Aa;clear s;go_enter func67,ntmps67;go_wp2_with (first
  |(go_at_call 117;apply(N.out _ (Bf _ _)).mono;rintro e w1⟨rfl,rfl⟩)
  |(go_at_call 118;apply(r.out _ (Bf _ _)).mono;rintro e E⟨g,c,rfl,M,U,z⟩;have I:(2:Int)<=(c:Int):=Aa;have C:=hide ((Bf _ _).trans (z.out.2.2.mono Ad));have q:=hide ((z.out.2.2.block _ (ltOf X.out)).trans X.out)))
 all_goals
  apply(m.out g c E _ z.out.1 z.out.2.1 (λa1=>by first|rfl|(exfalso;omega)) _ (Bf _ _) (iw _ _)).mono;rintro e Z⟨rfl,R⟩;have t:=hide R;have h:Hid (Z.1[iL w.1]?=lj (oh (A5 0 0 iG iG iG 0 sd) 131)):=(by exact Ah6 R q.out);clear R;have ⟨b0,b1,b2,b3,b4,b5,b6⟩:=M4 t.out.blk iI;have ⟨a0,a6,a2,a3,a4,a5,a7⟩:=M4 h.out iI;have ⟨f0,f1,f2,f3,f4,f5,f6,_⟩:=Gu h.out;have a8:iL w.1≠iL E.1:=(by have:=ltOf q.out;omega);clear N r m U M I V G H d D;have Q:Hid (∀i cs v,Br Z i w.1.size cs v->iF w i):=λi cs v P=>by
   have x:iF w Z:=(C.out.alloc C.out.size _).grown t.out.grown Ady (λY l=>by cases l;exact C.out.size);exact x.grown P.grown x.size (λY l=>by cases l;exact aC _)
  generalize E.1.size=bb at *;go_wp2;apply Ht (λy=>Br Z y w.1.size _ 131) ((((((((Br.refl h.out).set 0 _).set 1 _).set 2 _).set 3 _).set 4 _).set 5 _).set 6 _);intro y A;have ⟨z0,z1,z2,z3,z4,z5,z6⟩:=M4 A.blk iI;exact fy (by simp[rz,results67,go_sem,z0,z1,z2,z3,z4,z5,z6]) iI ⟨iI,Q.out _ _ _ A⟩
open Go.Maps
structure Nd where
 path:gU
 data:gU
 note:gU
 made:Int
 changed:Int
 version:Int
abbrev Nd.cs(x:Nd):Array uo:=#[pc x.path,pc x.data,pc x.note,iE x.made,iE x.changed,iE x.version]
abbrev Nd.val(x:Nd):uo:=faj x.cs
abbrev Nd.zero:Nd:=⟨⟨#[]⟩,⟨#[]⟩,⟨#[]⟩,0,0,0⟩
abbrev Sk(p:gU×Nd):uo×uo:=(pc p.1,p.2.val)
def HX:oq Y 9:=string_keyed rh
def Af3(w):(zeroValue 87).run Y w=.ok Nd.zero.val w:=Ab
structure Ck(w:gk)(tb mb:Nat)(num)(ns:List (gU×Nd)):Prop where
 blk:w.1[tb]?=lj (oh #[iE num,.map (lj mb)] 108)
 map:Bi y7 9 w mb (ns.map Sk)
def Ck.below{w b B a t num r}(h:Ck w a t num r)(D:vu B w b)(C:a<B)(J:t<B):Ck b a t num r:=
 ⟨(D.block a C).trans h.blk,h.map.of_block (D.block t J)⟩
def Kb(w a t num r)(h:Ck w a t num r):u Y 42 #[iB a] w λe B=>e=k8 (iE num)/\B=w:=by
 have c0:=Vi (w:=w) 0 h.blk;go_enter func42,ntmps42;go_wp2;go_ret;exact⟨iI,iI⟩
def Zn(w tb t)(a:gU)(i s f g l V)(y:Nd)(k b)(c:k=km/\b=0/\y=⟨i,s,f,g,l,V⟩∨k=sd/\b=10/\y=Nd.zero)(Q:w.cell? (iD tb 1)=lj (.map (lj t)))(d:tb<iL w.1)(r:Hid (∀W,iF w W->xq y7 178 #[pc a] W λb B=>b=k8 (gd km)/\iF W B))(L:Hid (∀W,iF w W->(gq 106 (.map (lj t)) (pc a) km).run y7 W=.ok (js #[faj #[pc i,pc s,pc f,iE g,iE l,iE V],gd k]) W)):xq y7 163 #[iB tb,pc a] w λz B=>z=k8 (js #[y.val,iE b])/\iF w B:=by
 have U:=hide (iw w (oh Nd.zero.cs 87));rcases c with⟨rfl,rfl,rfl⟩|⟨rfl,rfl,rfl⟩
 all_goals
  go_enter func163,ntmps163;go_wp2_with (go_at_call 178;apply(r.out _ (Bf _ _)).mono;rintro b H⟨rfl,M⟩;have O:=hide ((Bf _ _).trans (M.mono Ad));have Z:=hide ((M.block _ (ltOf U.out)).trans U.out);have p:=(O.out.cell (p:=(iD tb 1)) d).trans Q;have q:=L.out H O.out;obtain⟨K,I⟩:∃K,H.alloc (oh #[pc i,pc s,pc f,iE g,iE l,iE V] 87)=K:=⟨_,iI⟩;have h:Hid (K.1[iL w.1]?=lj (oh Nd.zero.cs 87)):=Am;have J:Hid (K.1[iL H.1]?=lj (oh #[pc i,pc s,pc f,iE g,iE l,iE V] 87)):=Kx;have C:Hid (iF w K):=Ao;have u:iL w.1≠iL H.1:=(by have:=ltOf Z.out;omega);have ⟨A,D,F,S,G,Y⟩:=N4 h.out iI;have ⟨N,P,R,f3,T,f5,_⟩:=Gu h.out;have ⟨b0,b1,b2,b3,b4,b5⟩:=N4 J.out iI;clear M);apply Ht (λX=>Br K X w.1.size _ 87) (((((((Br.refl h.out).set 0 _).set 1 _).set 2 _).set 3 _).set 4 _).set 5 _);intro X v;have ⟨e,j,m,n,x,E⟩:=N4 v.blk iI;exact fy (by simp[rz,results163,go_sem,e,j,m,n,x,E]) iI ⟨iI,C.out.grown v.grown C.out.size (λa1 o=>by cases o;exact aC _)⟩
def Sq{w b t num r}(h:Ck w b t num r)(m)(L:w.cell? ⟨1,0,jh⟩=lj (iE m))(C:1<iL w.1)(a)(s:a.size<=1000)(Q:Lk a=km)(x)(Z:(a,x)∈r):u Y 163 #[iB b,pc a] w λe B=>e=k8 (js #[x.val,iE 0])/\iF w B:=by
 refine Zn w b t a _ _ _ _ _ _ x km 0 (.inl ⟨iI,iI,iI⟩) (M h.blk iI) (ltOf h.blk) (λW k=>?_) (λW k=>((h.map.of_block (k.block _ h.map.lt)).look_some km HX yj (pe rh H8) (aZ.2 ⟨_,Z,iI⟩)))
 ·have:=Zx W m ((k.cell (p:=⟨1,0,jh⟩) C).trans L) a Aa
  grind
def Zm{w b t num r}(h:Ck w b t num r)(m)(L:w.cell? ⟨1,0,jh⟩=lj (iE m))(C:1<iL w.1)(a)(s:a.size<=1000)(Q:Lk a=km)(O:∀q∈r,q.1≠a):u Y 163 #[iB b,pc a] w λe B=>e=k8 (js #[Nd.zero.val,iE 10])/\iF w B:=by
 refine Zn w b t a iG iG iG 0 0 0 _ sd 10 (.inr ⟨iI,iI,iI⟩) (M h.blk iI) (ltOf h.blk) (λW k=>?_) (λW k=>?_)
 ·have:=Zx W m ((k.cell (p:=⟨1,0,jh⟩) C).trans L) a Aa
  grind
 ·refine(h.map.of_block (k.block _ h.map.lt)).look_none km HX yj (Af3 W) (pe rh H8) (λp Q=>?_)
  grind
abbrev Du(kind:Int)(p d n:gU)(v:Int):Array uo:=#[iE kind,pc p,pc d,pc n,iE v]
abbrev M3(kind:Int)(p d n:gU)(v:Int):uo:=faj (Du kind p d n v)
end Go.Proofs.YtcbilgmfdgpomaaGreatDoor
namespace Orch
variable (f:gS)
def put_len{a t v o}(h:put f k a t v=lj o):Z o<=1000:=by
 cases k with
 |zero=>simp[put]at h
 |succ k=>
  unfold put at h
  grind
def puts_b(C:s.size<=200):GB f (k+1) tb (txt s) (be s.size 4++s.data.toList):=
 N9 f (by simp[fits,Ty.l,V.n,V.s,V.l,C]) iI
def puts_q{n}(C:0<=n)(J:n<=1):GB f (k+1) tq (num n) (be n 1):=by
 exact Jq1
def parse_create:K [40,52,52,116,98,41]=lj (.mk lr [t4,t4,tt,tb]):=Ac
def parse_delete:K [40,52,52,116,52,41]=lj (.mk lr [t4,t4,tt,t4]):=Ac
def parse_set:K [40,52,52,116,98,52,41]=lj (.mk lr [t4,t4,tt,tb,t4]):=Ac
def parse_exists:K [40,52,52,116,63,41]=lj (.mk lr [t4,t4,tt,tq]):=Ac
abbrev fld(s:gU):gT:=be s.size 4++s.data.toList
section
variable {m:Int} {p d:gU} (o:-2147483648<=m) (i:m<=2147483647) (Q:p.size<=200) (q:f p=km)
include o i Q q
def put_create(y:d.size<=200):put f 9 [] (.mk lr [t4,t4,tt,tb]) (.mk 0 iG [num 1,num m,txt p,txt d])=lj (be 1 4++(be m 4++(fld p++(fld d++[])))):=by
 have C:Z p.data.toList=p.size:=iI;have J:Z d.data.toList=d.size:=iI;have:=puts_rec f (k:=8) (l:=lr) iI (.cons (puts_4 f (n:=1) Aa Aa) (.cons (puts_4 f o i) (.cons (puts_t f Q q) (.cons (puts_b f y) .nil)))) [] KX;simpa using this
def put_delete(S:-2147483648<=x)(K:x<=2147483647):put f 9 [] (.mk lr [t4,t4,tt,t4]) (.mk 0 iG [num 2,num m,txt p,num x])=lj (be 2 4++(be m 4++(fld p++(be x 4++[])))):=by
 have C:Z p.data.toList=p.size:=iI;have:=puts_rec f (k:=8) (l:=lr) iI (.cons (puts_4 f (n:=2) Aa Aa) (.cons (puts_4 f o i) (.cons (puts_t f Q q) (.cons (puts_4 f S K) .nil)))) [] (by simp only[aK,be_length,C,aW];omega);simpa using this
def put_set(y:d.size<=200)(S:-2147483648<=x)(K:x<=2147483647):put f 9 [] (.mk lr [t4,t4,tt,tb,t4]) (.mk 0 iG [num 3,num m,txt p,txt d,num x])=lj (be 3 4++(be m 4++(fld p++(fld d++(be x 4++[]))))):=by
 have C:Z p.data.toList=p.size:=iI;have J:Z d.data.toList=d.size:=iI;have:=puts_rec f (k:=8) (l:=lr) iI (.cons (puts_4 f (n:=3) Aa Aa) (.cons (puts_4 f o i) (.cons (puts_t f Q q) (.cons (puts_b f y) (.cons (puts_4 f S K) .nil))))) [] KX;simpa using this
end
end Orch
namespace Go.Proofs.YtcbilgmfdgpomaaGreatDoor
variable {P:Program}
open Go.RowKit
def Of(b){s t}(Q:Orch.parse s=lj t){v a}(f:Orch.put b 9 [] t v=lj a):Vf b t a=lj v:=by
 have K:=Orch.put_len b f;have ⟨pre,e,h⟩:=Orch.take_put b 9 t v [] a (Orch.parse_well Q 9) f;have:=h [];unfold Vf
 grind
section
variable {h:gS} {z:gX}
section
variable (U:It h z) (w:I) (V:z w) (c:Table w) (F:0<iL w.1) (N:Int) (o:0<=N) (i:N<=2147483647) (p d:gU) (Q:p.size<=200) (q:h p=km) (T:uo)
include U V c F o i Q q
end
end
open Go.Maps
attribute [local go_sem ↓] Go.wp_at_zero Go.wp_at_succ
def Tw(w a kind)(p k n:gU)(v)(i s d:gU)(f g V)(c:¬(40:Int)<(k.size:Int))(e:¬(10:Int)<(n.size:Int))(t)(Q:w.cell? (iD a 1)=lj (.map (lj t)))(D:a<iL w.1)(r:Hid (∀W,iF w W->u Y 163 #[iB a,pc p] W λb B=>b=k8 (js #[faj #[pc i,pc s,pc d,iE f,iE g,iE V],iE 0])/\iF W B)):u Y 148 #[iB a,M3 kind p k n v] w λb B=>b=k8 (iE 9)/\iF w B:=by
 have U:=S (iw w (oh #[iE kind,pc p,pc k,pc n,iE v] 152));go_enter func148,ntmps148;go_wp2_with (go_at_call 163;apply(r.out _ (Bf _ _)).mono;rintro b H⟨rfl,M⟩;have O:=S ((Bf _ _).trans (M.mono Ad));have Z:=S ((M.block _ (ltOf U.out)).trans U.out);obtain⟨K,I⟩:∃K,H.alloc (oh #[pc i,pc s,pc d,iE f,iE g,iE V] 87)=K:=⟨_,iI⟩;have h:Hid (K.1[iL w.1]?=lj (oh #[iE kind,pc p,pc k,pc n,iE v] 152)):=Am;have J:Hid (K.1[iL H.1]?=lj (oh #[pc i,pc s,pc d,iE f,iE g,iE V] 87)):=Kx;have C:Hid (iF w K):=Ao;have ⟨_,y,z,A,F⟩:=T0 h.out iI;have P:=(C.out.cell (p:=(iD a 1)) D).trans Q;clear M)
 all_goals go_ret
 all_goals exact⟨iI,C.out⟩
end Go.Proofs.YtcbilgmfdgpomaaGreatDoor
namespace Go.Proofs.YtcbilgmfdgpomaaGreatDoor
variable {P:Program}
open Go.RowKit Go.Maps
def Vs(w a kind d n v):u Y 149 #[iB a,M3 kind ⟨#[47]⟩ d n v] w λe B=>e=k8 (iE 13)/\iF w B:=by
 go_enter func149,ntmps149;go_wp2;go_ret;exact⟨iI,Bf _ _⟩
def Ny(v:Int):Int:=if v=2147483647 then 0 else v+1
def Vg(w v)(C:0<=v)(J:v<=2147483647):u Y 151 #[iE v] w λe B=>e=k8 (iE (Ny v))/\B=w:=by
 by_cases h:v=2147483647
 ·subst h;go_enter func151,ntmps151;go_wp2;go_ret;exact⟨iI,iI⟩
 ·have q:Ny v=v+1:=aM h;rw[q];go_enter func151,ntmps151;go_wp2;go_ret;exact⟨iI,iI⟩
attribute [local go_sem ↓] Go.wp_at_zero Go.wp_at_succ
structure Ax(w w':gk)(X:gV):Prop where
 os:w'.os=w.os
 tape:w'.tape=w.tape
 output:w'.output=w.output
 size:iL w.1<=iL w'.1
 block:∀k,k<iL w.1->¬X k->w'.1[k]?=w.1[k]?
def Ax.refl(w X):Ax w w X:=⟨iI,iI,iI,aC _,λ_ _ _=>rfl⟩
def Ax.trans{w E}(h:Ax w H X)(c:Ax H E X):Ax w E X:=
 ⟨c.os.trans h.os,c.tape.trans h.tape,c.output.trans h.output,aE h.size c.size,λj l Z=>(c.block j (aA l h.size) Z).trans (h.block j l Z)⟩
def Ax.of_below{w a B}(h:vu B w a)(b:iL w.1<=B):Ax w a X:=⟨h.os,h.tape,h.output,h.size,λk E _=>h.block k (aA E b)⟩
def Ax.of_grown{w X b}(h:w.grownBy B (lj b))(t:X b∨iL w.1<=b):Ax w B X:=
 ⟨h.os,h.tape,h.output,h.size,λk E Z=>h.block k E (λe=>Aj)⟩
def Ax.drew{w}(h:Ax w B X):Ax w B.drew X:=⟨h.os,h.tape,h.output,h.size,h.block⟩
def Ax.mono{w Y}(h:Ax w B X)(a:∀k,X k->Y k):Ax w B Y:=⟨h.os,h.tape,h.output,h.size,λk E z=>h.block k E (λZ=>z (a k Z))⟩
def DM(w k)(p d n:gU)(v num)(F:0<=num)(C:num+1<=9223372036854775807)(t)(g:w.1[k]?=lj (oh #[iE num,.map (lj t)] 108))(Q:gX)(a)(R:gk->gk->Prop)(c:a=1/\R=(λW J=>(yd 106 (.map (lj t)) (pc p) (faj #[pc p,pc d,pc n,iE (num+1),iE (num+1),iE 0])).run Y W=.ok () J)∨a=2/\R=λW J=>(hh #[106,9] 0 #[.map (lj t),pc p]).run Y W=.ok (js #[]) J)(f:Hid (∀W,Ax w W (· = k)->W.1[k]?=lj (oh #[iE (num+1),.map (lj t)] 108)->∃J,R W J/\Hid (Ax W J (· = t))/\Hid (Q J)))(G:t≠k)(z:t<iL w.1):xq Y 93 #[iB k,M3 a p d n v] w λe B=>e=k8 (js #[])/\(∃J,Q J/\B=J):=by
 have D:=ltOf g;obtain⟨K,I⟩:∃K,(w.alloc (oh #[iE a,pc p,pc d,pc n,iE v] 152)).setCell (iC k) (iE (num+1))=K:=⟨_,iI⟩;have i:Hid ((w.alloc (oh #[iE a,pc p,pc d,pc n,iE v] 152)).1[k]?=lj (oh #[iE num,.map (lj t)] 108)):=(ir _ _ _ D).trans g;refine Ve6 λE o=>?_;have l:Hid (K.1[iL w.1]?=lj (oh #[iE a,pc p,pc d,pc n,iE v] 152)):=by rw[←I];exact(p7 _ _ _ _ (by show iL w.1≠k;omega)).trans (iw _ _)
 have ⟨u,P⟩:=Abz E.out iI;have ⟨y,m,h,j⟩:=Aj8 l.out iI;have q:=Vi (w:=(w.alloc (oh #[iE a,pc p,pc d,pc n,iE v] 152))) 0 i.out;have r:=Fk1 (w:=(w.alloc (oh #[iE a,pc p,pc d,pc n,iE v] 152))) 0 i.out;have U:=Vi (w:=w) 0 g;have M:=Fk1 (w:=w) 0 g;have a1:k≠iL w.1:=Aa;obtain⟨b,Z,H,s⟩:=f.out K.drew o.out.drew E.out;have N:Hid ((λB=>B.cell? (iC k)=lj (iE (num+1))/\B.cell? (iD k 1)=lj (.map (lj t))/\B.cell? (iD w.1.size 1)=lj (pc p)/\B.cell? (iD w.1.size 2)=lj (pc d)/\B.cell? (iD w.1.size 3)=lj (pc n)) b):=by
  have S:b.1[k]?=lj (oh #[iE (num+1),.map (lj t)] 108):=(H.out.block k (ltOf E.out) (λe=>G e.symm)).trans E.out;have L:b.1[iL w.1]?=lj (oh #[iE a,pc p,pc d,pc n,iE v] 152):=(H.out.block w.1.size (ltOf l.out) (λe=>Aa)).trans l.out;exact⟨cellOf S iI,cellOf S iI,cellOf L iI,cellOf L iI,cellOf L iI⟩
 clear g;rcases c with⟨rfl,rfl⟩|⟨rfl,rfl⟩
 all_goals
  go_enter func93,ntmps93;go_wp2;go_region_held3 (λB=>B.cell? (iC k)=lj (iE (num+1))/\B.cell? (iD k 1)=lj (.map (lj t))/\B.cell? (iD w.1.size 1)=lj (pc p)/\B.cell? (iD w.1.size 2)=lj (pc d)/\B.cell? (iD w.1.size 3)=lj (pc n)) (first|(go_keep;done)|exact N.out) (fail)
  all_goals go_wp2
  all_goals exact⟨iI,js #[],by simp[rz,results93,go_sem],iI,_,s.out,iI⟩
end Go.Proofs.YtcbilgmfdgpomaaGreatDoor
namespace Go.Proofs.YtcbilgmfdgpomaaGreatDoor
variable {P:Program}
open Go.RowKit Go.Maps
attribute [local go_sem ↓] Go.wp_at_zero Go.wp_at_succ
def Ax.step{w E b}(h:Ax w H X)(c:H.grownBy E (lj b))(D:iL w.1<=b):Ax w E X:=
 ⟨c.os.trans h.os,c.tape.trans h.tape,c.output.trans h.output,aE h.size c.size,λj m Z=>(c.block j (aA m h.size) (λe=>by injection e with e;omega)).trans (h.block j m Z)⟩
def Akc(w k)(p b n:gU)(v num)(h0:0<=num)(h1:num+1<=9223372036854775807)(t)(g:w.1[k]?=lj (oh #[iE num,.map (lj t)] 108))(d j u:gU)(T N e)(S:0<=e)(a6:e<=2147483647)(Q:gX)(L:Hid (∀W,Ax w W (· = k)->(gq 106 (.map (lj t)) (pc p) sd).run y7 W=.ok (faj #[pc d,pc j,pc u,iE T,iE N,iE e]) W))(HU:Hid (∀W,Ax w W (· = k)->W.1[k]?=lj (oh #[iE (num+1),.map (lj t)] 108)->∃J,(yd 106 (.map (lj t)) (pc p) (faj #[pc d,pc b,pc u,iE T,iE (num+1),iE (Ny e)])).run y7 W=.ok () J/\Hid (Ax W J (· = t))/\Hid (Q J)))(a7:t≠k)(aj:t<iL w.1):xq y7 93 #[iB k,M3 3 p b n v] w λf B=>f=k8 (js #[])/\(∃J,Q J/\B=J):=by
 have D:=ltOf g;have a8:Hid (∀W,xq y7 151 #[iE e] W λf B=>f=k8 (iE (Ny e))/\B=W):=λW=>Vg W e S a6;obtain⟨K,I⟩:∃K,(w.alloc (oh #[iE 3,pc p,pc b,pc n,iE v] 152)).setCell (iC k) (iE (num+1))=K:=⟨_,iI⟩;have i:Hid ((w.alloc (oh #[iE 3,pc p,pc b,pc n,iE v] 152)).1[k]?=lj (oh #[iE num,.map (lj t)] 108)):=(ir _ _ _ D).trans g;refine Ve6 λE o=>?_;have l:Hid (K.1[iL w.1]?=lj (oh #[iE 3,pc p,pc b,pc n,iE v] 152)):=by rw[←I];exact(p7 _ _ _ _ (by show iL w.1≠k;omega)).trans (iw _ _)
 have F:iL w.1<iL K.1:=ltOf l.out;obtain⟨c,m⟩:∃c,K.alloc (oh #[pc iG,pc iG,pc iG,iE 0,iE 0,iE 0] 87)=c:=⟨_,iI⟩;have R:Hid (c.1[iL K.1]?=lj (oh #[pc iG,pc iG,pc iG,iE 0,iE 0,iE 0] 87)):=by rw[←m];exact iw _ _
 have q:Hid (Ax w c (· = k)):=by rw[←m];exact o.out.trans (Ax.of_below (Bf _ _) (aC _))
 have x:Hid (c.1[k]?=lj (oh #[iE (num+1),.map (lj t)] 108)):=by rw[←m];exact(ir _ _ _ (ltOf E.out)).trans E.out
 have Y:Hid (c.1[iL w.1]?=lj (oh #[iE 3,pc p,pc b,pc n,iE v] 152)):=by rw[←m];exact(ir _ _ _ (ltOf l.out)).trans l.out
 obtain⟨a,Z⟩:∃a,((((((c.setCell (iC K.1.size) (pc d)).setCell (iD K.1.size 1) (pc j)).setCell (iD K.1.size 2) (pc u)).setCell (iD K.1.size 3) (iE T)).setCell (iD K.1.size 4) (iE N)).setCell (iD K.1.size 5) (iE e))=a:=⟨_,iI⟩;have X:Hid (a.1[iL K.1]?=lj (oh #[pc d,pc j,pc u,iE T,iE N,iE e] 87)):=by rw[←Z];exact((((((((Br.refl R.out).set 0 (pc d)).set 1 (pc j)).set 2 (pc u)).set 3 (iE T)).set 4 (iE N)).set 5 (iE e))).blk
 have y:Hid (c.grownBy a (lj K.1.size)):=by rw[←Z];exact((((((((Br.refl R.out).set 0 (pc d)).set 1 (pc j)).set 2 (pc u)).set 3 (iE T)).set 4 (iE N)).set 5 (iE e))).grown
 have aa:Hid (Ax w a (· = k)):=q.out.step y.out (eL F);have H:Hid (a.1[k]?=lj (oh #[iE (num+1),.map (lj t)] 108)):=(y.out.block k (ltOf x.out) Amw).trans x.out;have O:Hid (a.1[iL w.1]?=lj (oh #[iE 3,pc p,pc b,pc n,iE v] 152)):=(y.out.block _ (ltOf Y.out) Amw).trans Y.out;obtain⟨U,G⟩:∃U,(((a.setCell (iD K.1.size 1) (pc b)).setCell (iD K.1.size 4) (iE (num+1))).setCell (iD K.1.size 5) (iE (Ny e)))=U:=⟨_,iI⟩;have P:Hid (U.1[iL K.1]?=lj (oh #[pc d,pc b,pc u,iE T,iE (num+1),iE (Ny e)] 87)):=by rw[←G];exact(((((Br.refl X.out).set 1 (pc b)).set 4 (iE (num+1))).set 5 (iE (Ny e)))).blk
 have z:Hid (a.grownBy U (lj K.1.size)):=by rw[←G];exact(((((Br.refl X.out).set 1 (pc b)).set 4 (iE (num+1))).set 5 (iE (Ny e)))).grown
 have ab:Hid (Ax w U (· = k)):=aa.out.step z.out (eL F);have r:Hid (U.1[k]?=lj (oh #[iE (num+1),.map (lj t)] 108)):=(z.out.block k (ltOf H.out) Amw).trans H.out;have A:Hid (U.1[iL w.1]?=lj (oh #[iE 3,pc p,pc b,pc n,iE v] 152)):=(z.out.block _ (ltOf O.out) Amw).trans O.out;have ⟨ak,al⟩:=Abz E.out iI;have ⟨an,ao,aq⟩:=Jh l.out iI;have ⟨ar,ad⟩:=Abz x.out iI;have ⟨au,ae,av⟩:=Jh Y.out iI;have ⟨aw,af⟩:=Abz H.out iI;have ⟨ax,ah,ay⟩:=Jh O.out iI;have ⟨az,b5⟩:=Abz r.out iI;have ⟨b6,b7,b8⟩:=Jh A.out iI;have ⟨b9,ba,bb,bc,bd,bf⟩:=N4 R.out iI;have ⟨bg,bh,bj,bk,bm,bn,_⟩:=Gu R.out;have ⟨bo,bq,br,bu,bw,bx⟩:=N4 X.out iI;have ⟨bz,c6,c7,c8,c9,cc,_⟩:=Gu X.out;have ⟨cd,cf,cg,cj,ck,cm⟩:=N4 P.out iI;have cn:=L.out K o.out;have cp:=L.out c q.out;have cq:=L.out K.drew o.out.drew;have cr:=L.out c.drew q.out.drew;have cu:=L.out K.drew.drew o.out.drew.drew;have cw:=L.out c.drew.drew q.out.drew.drew;have cx:=L.out K.drew.drew.drew o.out.drew.drew.drew;have cy:=L.out c.drew.drew.drew q.out.drew.drew.drew;have s0:=Vi (w:=(w.alloc (oh #[iE 3,pc p,pc b,pc n,iE v] 152))) 0 i.out;have s1:=Fk1 (w:=(w.alloc (oh #[iE 3,pc p,pc b,pc n,iE v] 152))) 0 i.out;have r0:=Vi (w:=w) 0 g;have M:=Fk1 (w:=w) 0 g;have a1:k≠iL w.1:=Aa;have cz:k≠iL K.1:=Aa;have dc:iL w.1≠iL K.1:=Aa;obtain⟨V,uV,C,s⟩:=HU.out U.drew.drew.drew ab.out.drew.drew.drew r.out;have KV:Hid ((λB=>B.cell? (iD k 1)=lj (.map (lj t))/\B.cell? (iD w.1.size 1)=lj (pc p)/\B.cell? (iC K.1.size)=lj (pc d)/\B.cell? (iD K.1.size 1)=lj (pc b)/\B.cell? (iD K.1.size 2)=lj (pc u)/\B.cell? (iD K.1.size 3)=lj (iE T)/\B.cell? (iD K.1.size 4)=lj (iE (num+1))/\B.cell? (iD K.1.size 5)=lj (iE (Ny e))) V):=by
  have ai:iL K.1<iL U.1:=ltOf P.out;have e1:V.1[k]?=_:=(C.out.block k (ltOf r.out) (λf=>a7 f.symm)).trans r.out;have e2:V.1[iL w.1]?=_:=(C.out.block w.1.size (ltOf A.out) (λf=>Aa)).trans A.out;have h:V.1[iL K.1]?=_:=(C.out.block K.1.size ai (λf=>Aa)).trans P.out;exact⟨cellOf e1 iI,cellOf e2 iI,cellOf h iI,cellOf h iI,cellOf h iI,cellOf h iI,cellOf h iI,cellOf h iI⟩
 clear g;go_enter func93,ntmps93;go_wp2;go_region_held3 (λB=>B.cell? (iD k 1)=lj (.map (lj t))/\B.cell? (iD w.1.size 1)=lj (pc p)) (first|(go_keep;done)|exact⟨ad,ae⟩|exact⟨af,ah⟩) (fail)
 all_goals go_wp2
 all_goals (go_region_law (go_simp;go_at_call 151;apply(a8.out _).mono;rintro f w6⟨rfl,rfl⟩))
 all_goals go_wp2
 all_goals (go_region_held3 (λB=>B.cell? (iD k 1)=lj (.map (lj t))/\B.cell? (iD w.1.size 1)=lj (pc p)/\B.cell? (iC K.1.size)=lj (pc d)/\B.cell? (iD K.1.size 1)=lj (pc b)/\B.cell? (iD K.1.size 2)=lj (pc u)/\B.cell? (iD K.1.size 3)=lj (iE T)/\B.cell? (iD K.1.size 4)=lj (iE (num+1))/\B.cell? (iD K.1.size 5)=lj (iE (Ny e))) (first|(go_keep;done)|exact KV.out) (fail))
 all_goals go_wp2
 all_goals exact⟨iI,js #[],by simp[rz,results93,go_sem],iI,_,s.out,iI⟩
end Go.Proofs.YtcbilgmfdgpomaaGreatDoor
namespace Go.Proofs.YtcbilgmfdgpomaaGreatDoor
open Go.RowKit Go.Maps
section
variable {e:I} {tb t:Nat} {num:Int} {r:List (gU×Nd)}
def Ck.map_at(h:Ck e tb t num r)(f:t≠tb)(E:Ax e W (· = tb)):=h.map.of_block (E.block t h.map.lt f)
def Z0{J}(f:t≠tb){a q}(E:Ax e W (· = tb))(D:W.1[tb]?=lj (oh #[iE a,.map (lj t)] 108))(L:Bi Y 9 J t (q.map Sk))(G:W.grownBy J (lj t)):Hid (Ax W J (· = t))/\Hid (Ck J tb t a q/\Ax e J (λk=>k=tb∨k=t)):=
 ⟨Ax.of_grown G (.inl iI),⟨(G.block tb (ltOf D) (λb=>f Aj)).trans D,L⟩,(E.mono (λ_ h=>.inl h)).trans ((Ax.of_grown (X:=λk=>k=t) G (.inl iI)).mono (λ_ h=>.inr h))⟩
def Ada{p:gU}(Q:p.size<=1000):∃l,ye Y 9 (pc p)=lj l:=⟨_,pe rh H8⟩
variable (h:Ck e tb t num r) (f:t≠tb) (F:0<=num) (a:num+1<=9223372036854775807) (p d n:gU) (v:Int) (Q:p.size<=1000)
include h f F a Q
def doC(O:∀q∈r,q.1≠p):u y7 93 #[iB tb,M3 1 p d n v] e λb B=>b=k8 (js #[])/\Ck B tb t (num+1) (r++[(p,⟨p,d,n,num+1,num+1,0⟩)])/\Ax e B (λk=>k=tb∨k=t):=by
 refine(DM e tb p d n v num F a t h.blk (λJ=>Ck J tb t (num+1) (r++[(p,⟨p,d,n,num+1,num+1,0⟩)])/\Ax e J (λk=>k=tb∨k=t)) 1 _ (.inl ⟨iI,iI⟩) (λW E D=>?_) f h.map.lt).mono ?_
 ·have ⟨l,K⟩:=Ada Q;obtain⟨J,Y,L,G⟩:=(h.map_at f E).put_new HX yj K (λq c=>by
   grind)
  exact⟨J,Y,Z0 f E D Aj G⟩
 grind
def doD{A C x}(U:r=A++(p,x)::C):u y7 93 #[iB tb,M3 2 p d n v] e λb B=>b=k8 (js #[])/\Ck B tb t (num+1) (A++C)/\Ax e B (λk=>k=tb∨k=t):=by
 refine(DM e tb p d n v num F a t h.blk (λJ=>Ck J tb t (num+1) (A++C)/\Ax e J (λk=>k=tb∨k=t)) 2 _ (.inr ⟨iI,iI⟩) (λW E D=>?_) f h.map.lt).mono ?_
 ·have ⟨l,K⟩:=Ada Q;obtain⟨J,Y,L,G⟩:=(h.map_at f E).drop_some HX yj K (A:=A.map Sk) (C:=C.map Sk) (v:=x.val) Aj;exact⟨J,Y,Z0 f E D Aj G⟩
 grind
def doS{A C x}(U:r=A++(p,x)::C)(g:0<=x.version)(X:x.version<=2147483647):u y7 93 #[iB tb,M3 3 p d n v] e λb B=>b=k8 (js #[])/\Ck B tb t (num+1) (A++(p,{ x with data:=d,changed:=num+1,version:=Ny x.version })::C)/\Ax e B (λk=>k=tb∨k=t):=by
 refine(Akc e tb p d n v num F a t h.blk x.path x.data x.note x.made x.changed x.version g X (λJ=>Ck J tb t (num+1) (A++(p,{ x with data:=d,changed:=num+1,version:=Ny x.version })::C)/\Ax e J (λk=>k=tb∨k=t)) (λW E=>?_) (λW E D=>?_) f h.map.lt).mono ?_
 ·have ⟨l,K⟩:=Ada Q;exact(h.map_at f E).look_some sd HX yj K (aZ.2 ⟨(p,x),by rw[U];simp,iI⟩)
 ·obtain⟨l,K⟩:=Ada Q;obtain⟨J,Y,L,G⟩:=(h.map_at f E).put_old HX yj K (A:=A.map Sk) (C:=C.map Sk) (v:=x.val) Aj;exact⟨J,Y,Z0 f E D Aj G⟩
 grind
end
def WV(K f)(p d n:gU)(v)(F:Int->Prop)(i j)(o:i=1/\j=148∨i=2/\j=149∨i=3/\j=150)(H:Hid (∀W,iF K W->u Y j #[iB f,faj #[iE i,pc p,pc d,pc n,iE v]] W λe B=>(∃c,e=k8 (iE c)/\F c)/\iF W B)):u Y 92 #[iB f,M3 i p d n v] K λe B=>(∃c,e=k8 (iE c)/\F c)/\iF K B:=by
 obtain⟨a,Z⟩:∃a,K.alloc (oh #[iE i,pc p,pc d,pc n,iE v] 152)=a:=⟨_,iI⟩;have X:Hid (a.1[iL K.1]?=lj (oh #[iE i,pc p,pc d,pc n,iE v] 152)):=by rw[←Z];exact iw _ _
 have O:Hid (iF K a):=by rw[←Z];exact Bf _ _
 have ⟨y,m,b,S,h⟩:=T0 X.out iI;rcases o with⟨rfl,rfl⟩|⟨rfl,rfl⟩|⟨rfl,rfl⟩<;>(go_enter lp,yz;go_wp2_with ((first|go_at_call 148|go_at_call 149|go_at_call 150);apply(H.out a O.out).mono;rintro e E⟨⟨c,rfl,M⟩,D⟩;have g:=hide M;have C:Hid (iF K E):=O.out.trans (D.mono O.out.size);clear M D);go_ret;exact⟨⟨_,iI,g.out⟩,C.out⟩)
section
variable {e:I} {tb t:Nat} {num:Int} {r:List (gU×Nd)} (h:Ck e tb t num r) (m:Int) (L:e.cell? ⟨1,0,jh⟩=lj (iE m)) (a:1<iL e.1) (p d n:gU) (v:Int) (Q:p.size<=1000) (b:Lk p=km) (y:d.size<=40) (z:n.size<=10)
include h L a Q b y z
theorem GR(k:iF e W)(x)(Z:(p,x)∈r):u Y 163 #[iB tb,pc p] W λc B=>c=k8 (js #[x.val,iE 0])/\iF W B:=
 Sq (h.below k (ltOf h.blk) h.map.lt) m ((k.cell (p:=⟨1,0,jh⟩) a).trans L) (aA a k.size) p Q b x Z
theorem GS(k:iF e W)(x:∀q∈r,q.1≠p):u Y 163 #[iB tb,pc p] W λc B=>c=k8 (js #[Nd.zero.val,iE 10])/\iF W B:=
 Zm (h.below k (ltOf h.blk) h.map.lt) m ((k.cell (p:=⟨1,0,jh⟩) a).trans L) (aA a k.size) p Q b x
end
def Tryz.info9b:(prog.info? 9).map (λi=>(i.zero,i.size,i.bytes))=lj (lj (pc iG),1,16):=Ab
abbrev strs(L:gQ):List uo:=L.map pc
def Aed(w)(a:gU):u Y 193 #[pc a] w λe B=>(∃lv,e=k8 lv/\D8 B (λb=>b<iL B.1) [Orch.txt a] lv)/\iF w B:=by
 have R:=S (Nz w [(Orch.txt a,qh jh 0 0)] (λb=>b<(w.alloc (oh #[iE 0,pc a,qh jh 0 0] 183)).1.size) Ad #[iE 0,pc a,qh jh 0 0] An 183 1 iI _ iI Ad (by
  intro p f;simp at f;subst f;exact .nil jh 0))
 go_enter func193,ntmps193;go_wp2;go_ret;exact⟨⟨_,iI,R.out⟩,Bf _ _⟩
def FK(K)(d j u:gU)(T N e k):xq y7 169 #[faj #[pc d,pc j,pc u,iE T,iE N,iE e],iE k] K λg B=>(∃lv,g=k8 lv/\D8 B (λb=>b<iL B.1) [.mk 0 iG [Orch.num T,Orch.num N,Orch.num e,Orch.num k]] lv)/\iF K B:=by
 obtain⟨a,Z⟩:∃a,K.alloc (oh #[pc d,pc j,pc u,iE T,iE N,iE e] 87)=a:=⟨_,iI⟩;have X:Hid (a.1[iL K.1]?=lj (oh #[pc d,pc j,pc u,iE T,iE N,iE e] 87)):=by rw[←Z];exact iw _ _
 have O:Hid (iF K a):=by rw[←Z];exact Bf _ _
 have ⟨_,_,_,S,n,Y⟩:=N4 X.out iI;obtain⟨c,I⟩:∃c,a.alloc (oh #[iE T,pc iG,qh jh 0 0,iE N,pc iG,qh jh 0 0,iE e,pc iG,qh jh 0 0,iE k,pc iG,qh jh 0 0] 183)=c:=⟨_,iI⟩;have H:Hid (D8 c (λb=>b<iL c.1) [Orch.num T,Orch.num N,Orch.num e,Orch.num k] (qh (lj (iC a.1.size)) 4 4)):=by
  rw[←I];exact Nz a [(Orch.num T,qh jh 0 0),(Orch.num N,qh jh 0 0),(Orch.num e,qh jh 0 0),(Orch.num k,qh jh 0 0)] _ Ad _ An 183 4 iI _ iI Ad (by
   intro p f;simp at f;rcases f with rfl|rfl|rfl|rfl<;>exact .nil jh 0)
 have C:Hid (iF K c):=Ao;have E:=hide (Nz c [(.mk 0 iG [Orch.num T,Orch.num N,Orch.num e,Orch.num k],qh (lj (iC a.1.size)) 4 4)] (λb=>b<(c.alloc (oh #[iE 0,pc iG,qh (lj (iC a.1.size)) 4 4] 183)).1.size) Ad #[iE 0,pc iG,qh (lj (iC a.1.size)) 4 4] An 183 1 iI _ iI Ad (by
  intro p f;simp at f;subst f;exact H.out.congr (λb i=>Ah) (λb i=>ir _ _ _ i)))
 exact Ley
def Ak0:laidOutB Y=km:=Ab
def Aff:(189:Nat)<prog.types.size:=by
 simp
def Adb:prog.keyTypeAt 3 189=km:=Ab
def V3:oq Y 189:=Keyed.of_law (deep_law_laid Ak0 Aa Aff Adb (by rw[underlying189]))
def Za:prog.cellsOf 189=3:=Ab
def Abr:prog.cellsOf 3=1:=Ab
def Abs:prog.cellsOf 9=1:=Ab
def PT:prog.cellsOf 187=1:=Ab
def QU:prog.keyType 189=km:=Ab
def Akb:∃d,prog.types.size=d+1:=⟨prog.types.size - 1,by have:=Aff;omega⟩
abbrev Fo(s:Int)(p:gU)(o:Int):uo:=faj #[iE s,pc p,iE o]
theorem QT{s o:Int}{p:ByteArray}(a:(Lit.int .i64 s).wf=true)(O:(Lit.int .i64 o).wf=true)(Q:p.size<=1000):∃l,keyOf Tryz.prog 189 (Fo s p o)=some l:=by
 have ⟨d,y⟩:=Akb
 have u:p.size<=maxLen:=H8
 have I:Value.formed Tryz.prog 189 (Fo s p o)=true:=by simp [Value.formed,Tryz.underlying189,Za]
 unfold keyOf
 simp only [QU,I,Bool.and_self,if_true,y]
 have:Tryz.prog.keyLits (d+1+1) 189 (Fo s p o).cells.toList=some [.int .i64 s,.string p.data.toList,.int .i64 o]:=by
  unfold Program.keyLits
  simp [Value.cells,Za,Abr,Abs,PT,Program.keyLits,Tryz.underlying3,Tryz.underlying9,Tryz.underlying187,a,O,u]
 simp_all
abbrev Lf(w:I)(b:Nat)(ks:gZ):Prop:=Bi Y 189 w b (ks.map λk=>(k,faj #[]))
def Aa7(K b s o p)(Q:gX)(c:Hid (∀W,iF K W->∃J,(yd 92 (.map (lj b)) (Fo s p o) (faj #[])).run Y W=.ok () J/\Hid (Q J))):xq Y 165 #[.map (lj b),Fo s p o] K λe B=>e=k8 (js #[])/\Q B:=by
 obtain⟨a,Z⟩:∃a,K.alloc (oh #[iE s,pc p,iE o] 189)=a:=⟨_,iI⟩;have X:Hid (a.1[iL K.1]?=lj (oh #[iE s,pc p,iE o] 189)):=by rw[←Z];exact iw _ _
 have ⟨y,m,f⟩:=Jh X.out iI;have ⟨V,u,d⟩:=c.out a (by rw[←Z];exact Bf _ _);go_enter func165,ntmps165;go_wp2;exact⟨iI,js #[],by simp[rz,results165,go_sem],iI,d.out⟩
def Tryz.ren190:tu:=⟨fun|125=>73|128=>134|129=>135|190=>195|258=>212|302=>227|303=>228|304=>229|305=>230|306=>231|307=>232|308=>233|309=>234|310=>235|329=>174|330=>175|333=>250|334=>251|335=>252|336=>253|344=>263|n=>n,fun|0=>0|3=>3|4=>4|5=>5|9=>9|31=>236|46=>71|51=>126|53=>123|131=>174|182=>193|183=>194|218=>242|222=>245|228=>270|229=>271|n=>n,λn=>n⟩
set_option maxRecDepth 100000 in
def Tryz.lays190:Go.Proofs.Lays.n190 Y Tryz.ren190:=
 {mixed:=Ab,
  f125:=func73.trans (aJ lj Ab),
  f128:=func134.trans (aJ lj Ab),
  f129:=func135.trans (aJ lj Ab),
  f190:=func195.trans (aJ lj Ab),
  f258:=func212.trans (aJ lj Ab),
  f302:=func227.trans (aJ lj Ab),
  f303:=func228.trans (aJ lj Ab),
  f304:=func229.trans (aJ lj Ab),
  f305:=func230.trans (aJ lj Ab),
  f306:=func231.trans (aJ lj Ab),
  f307:=func232.trans (aJ lj Ab),
  f308:=func233.trans (aJ lj Ab),
  f309:=func234.trans (aJ lj Ab),
  f310:=func235.trans (aJ lj Ab),
  f329:=func174.trans (aJ lj Ab),
  f330:=func175.trans (aJ lj Ab),
  f333:=func250.trans (aJ lj Ab),
  f334:=func251.trans (aJ lj Ab),
  f335:=func252.trans (aJ lj Ab),
  f336:=func253.trans (aJ lj Ab),
  f344:=func263.trans (aJ lj Ab),
  t0:=og,
  a0:=vb,
  z0:=yh,
  v0:=kt,
  t3:=yv,
  a3:=ki,
  z3:=zt,
  v3:=jw,
  t4:=we,
  a4:=ni,
  z4:=o3,
  v4:=qf,
  t5:=gz,
  a5:=rm,
  z5:=pt,
  v5:=gl,
  t9:=rh,
  a9:=x7,
  z9:=np,
  v9:=lh,
  t31:=underlying236,
  a31:=isAgg236,
  z31:=sizeOf236,
  v31:=zeroValue236,
  t46:=qb,
  a46:=ko,
  z46:=vh,
  v46:=uj,
  t51:=kq,
  a51:=fx,
  z51:=qu,
  v51:=yl,
  t53:=oz,
  a53:=ejr,
  z53:=vqu,
  v53:=je,
  t131:=ng,
  a131:=dkk,
  z131:=zjo,
  v131:=wo,
  t182:=kg,
  a182:=wcm,
  z182:=uy,
  v182:=mg,
  t183:=vw,
  a183:=taf,
  z183:=jmi,
  v183:=wx,
  t218:=jz,
  a218:=ccu,
  z218:=xy,
  v218:=jf,
  t222:=sx,
  a222:=su,
  z222:=vwq,
  v222:=xii,
  t228:=qj,
  a228:=mxu,
  z228:=pw,
  v228:=mi,
  t229:=xk,
  a229:=r9,
  z229:=vy,
  v229:=nq }
abbrev Tl:=Int×Bool×Int
def Tryz.info87:(prog.info? 87).map (λi=>(i.zero,i.size,i.bytes))=lj (lj Nd.zero.val,6,72):=Ab
abbrev Fh(L:List Nd):List uo:=L.flatMap λx=>x.cs.toList
def Tryz.info266:(prog.info? 266).map (λi=>(i.zero,i.size,i.bytes))=lj (lj (faj #[iE 0,pc iG]),2,24):=Ab
def Tryz.ren6:tu:=⟨fun|6=>50|14=>72|15=>73|20=>126|21=>127|22=>128|23=>129|24=>130|25=>131|26=>132|27=>133|28=>134|29=>135|46=>173|47=>174|48=>175|49=>176|50=>177|57=>197|n=>n,fun|0=>0|3=>3|4=>4|5=>5|9=>9|22=>47|24=>87|25=>111|39=>71|45=>193|46=>194|50=>174|53=>126|55=>123|66=>242|70=>245|76=>270|77=>271|n=>n,λn=>n⟩
set_option maxRecDepth 100000 in
def Tryz.lays6:Go.Proofs.SlLaysF0.n6 Y Tryz.ren6:=
 {mixed:=Ab,
  f6:=⟨Tryz.f50.name,Ab,func50.trans (aJ lj Ab)⟩,
  f14:=⟨f72.name,Ab,func72.trans (aJ lj Ab)⟩,
  f15:=func73.trans (aJ lj Ab),
  f20:=⟨f126.name,Ab,func126.trans (aJ lj Ab)⟩,
  f21:=⟨f127.name,Ab,func127.trans (aJ lj Ab)⟩,
  f22:=⟨Tryz.f128.name,Ab,func128.trans (aJ lj Ab)⟩,
  f23:=⟨Tryz.f129.name,Ab,func129.trans (aJ lj Ab)⟩,
  f24:=⟨f130.name,Ab,func130.trans (aJ lj Ab)⟩,
  f25:=⟨f131.name,Ab,func131.trans (aJ lj Ab)⟩,
  f26:=⟨f132.name,Ab,func132.trans (aJ lj Ab)⟩,
  f27:=⟨f133.name,Ab,func133.trans (aJ lj Ab)⟩,
  f28:=func134.trans (aJ lj Ab),
  f29:=func135.trans (aJ lj Ab),
  f46:=⟨f173.name,Ab,func173.trans (aJ lj Ab)⟩,
  f47:=func174.trans (aJ lj Ab),
  f48:=func175.trans (aJ lj Ab),
  f49:=⟨f176.name,Ab,func176.trans (aJ lj Ab)⟩,
  f50:=⟨f177.name,Ab,func177.trans (aJ lj Ab)⟩,
  f57:=⟨Tryz.f197.name,Ab,func197.trans (aJ lj Ab)⟩,
  t0:=og,
  a0:=vb,
  z0:=yh,
  v0:=kt,
  t3:=yv,
  a3:=ki,
  z3:=zt,
  v3:=jw,
  t4:=we,
  a4:=ni,
  z4:=o3,
  v4:=qf,
  t5:=gz,
  a5:=rm,
  z5:=pt,
  v5:=gl,
  t9:=rh,
  a9:=x7,
  z9:=np,
  v9:=lh,
  t22:=underlying47,
  a22:=isAgg47,
  z22:=sizeOf47,
  v22:=zeroValue47,
  t25:=underlying111,
  a25:=isAgg111,
  z25:=sizeOf111,
  v25:=zeroValue111,
  t39:=qb,
  a39:=ko,
  z39:=vh,
  v39:=uj,
  t45:=kg,
  a45:=wcm,
  z45:=uy,
  v45:=mg,
  t46:=vw,
  a46:=taf,
  z46:=jmi,
  v46:=wx,
  t50:=ng,
  a50:=dkk,
  z50:=zjo,
  v50:=wo,
  t53:=kq,
  a53:=fx,
  z53:=qu,
  v53:=yl,
  t55:=oz,
  a55:=ejr,
  z55:=vqu,
  v55:=je,
  t66:=jz,
  a66:=ccu,
  z66:=xy,
  v66:=jf,
  t70:=sx,
  a70:=su,
  z70:=vwq,
  v70:=xii,
  t76:=qj,
  a76:=mxu,
  z76:=pw,
  v76:=mi,
  t77:=xk,
  a77:=r9,
  z77:=vy,
  v77:=nq }
def Tryz.ren106:tu:=⟨fun|106=>52|213=>74|265=>136|n=>n,λn=>n,λn=>n⟩
def Tryz.lays106:Go.Proofs.Lays.n106 Y Tryz.ren106:=
 {mixed:=Ab,f106:=func52.trans (aJ lj Ab),f213:=func74.trans (aJ lj Ab),f265:=func136.trans (aJ lj Ab),
  t3:=yv,
  a3:=ki,
  z3:=zt,
  v3:=jw,
  t9:=rh,
  a9:=x7,
  z9:=np,
  v9:=lh }
instance:Inhabited Nd:=⟨Nd.zero⟩
def GL(x y:Nd):Int:=Lib.compareBytes x.path.data.toList y.path.data.toList
def Tx:∀a b:gT,(Lib.compareBytes a b<0)=(a<b)
 |[],[]=>by simp[Lib.compareBytes]
 |[],_::_=>by simp[Lib.compareBytes]
 |_::_,[]=>by simp[Lib.compareBytes]
 |x::a,y::b=>by
  rw[Lib.compareBytes,List.cons_lt_cons_iff];by_cases C:x<y
  ·simp[C]
  ·by_cases J:y<x
   ·grind
   ·have:=UInt8.le_antisymm (UInt8.not_lt.1 J) (UInt8.not_lt.1 C);subst this;simp[C,Tx a b]
def Afq:Go.Sort.SWO (_root_.Go.Proofs.ltOf GL):=by
 refine⟨λx=>?_,λx y z C J=>?_,λx y z C J=>?_⟩
 ·simp only[_root_.Go.Proofs.ltOf,GL,Tx,decide_eq_false_iff_not];exact List.lt_irrefl _
 ·simp only[_root_.Go.Proofs.ltOf,GL,Tx,decide_eq_true_eq]at *;exact List.lt_trans C J
 ·simp only[_root_.Go.Proofs.ltOf,GL,Tx,decide_eq_false_iff_not,List.not_lt]at *;exact List.le_trans J C
def IJ(H x y):xq Y 51 #[x.val,y.val] H λb B=>b=k8 (iE (GL x y))/\B=(H.alloc (oh x.cs 87)).alloc (oh y.cs 87):=by
 obtain⟨i,s,d,f,g,V⟩:=x;obtain⟨n,j,u,T,N,e⟩:=y;obtain⟨K,Z⟩:∃K,H.alloc (oh #[pc i,pc s,pc d,iE f,iE g,iE V] 87)=K:=⟨_,iI⟩;obtain⟨a,I⟩:∃a,K.alloc (oh #[pc n,pc j,pc u,iE T,iE N,iE e] 87)=a:=⟨_,iI⟩;have X:a.cell? (iC H.1.size)=lj (pc i):=by
  have C:K.1[iL H.1]?=lj (oh #[pc i,pc s,pc d,iE f,iE g,iE V] 87):=by rw[←Z];exact iw _ _
  have J:a.1[iL H.1]?=lj (oh #[pc i,pc s,pc d,iE f,iE g,iE V] 87):=by rw[←I];exact(ir _ _ _ (ltOf C)).trans C
  exact M J iI
 have h:a.cell? (iC K.1.size)=lj (pc n):=by
  exact M Kx iI
 have c:=S (Any.strings_Compare Tryz.lays106 i n a)
 show xq Y 51 #[faj #[pc i,pc s,pc d,iE f,iE g,iE V],faj #[pc n,pc j,pc u,iE T,iE N,iE e]] H _;go_enter func51,ntmps51;go_wp2_with (go_at_call 52;apply c.out.mono;rintro b k⟨rfl,rfl⟩);go_ret;exact⟨iI,by rw[Z,I]⟩
def O2:∀L(j:Nat),j<Z L * 6->(Fh L)[j]?=lj ((L.toArray[j / 6]!).cs.toList[j % 6]!)
 |[],j,h=>Aix
 |x::L,j,h=>by
  have e:Fh (x::L)=x.cs.toList++Fh L:=iI;rw[e];by_cases l:j<6
  ·rw[fO (by simpa using l),Nat.div_eq_of_lt l,Nat.mod_eq_of_lt l]
   grind
  ·obtain⟨k,rfl⟩:∃k,j=k+6:=⟨j - 6,Aa⟩;rw[dK Ad,show k+6 - Z x.cs.toList=k from Ad,O2 L k (by simp at h;omega),Nat.add_div_right _ Ae,Nat.add_mod_right]
   grind
def Air(w):(zeroValue 119).run Y w=.ok (faj #[]) w:=Ab
section
variable {w:I} {b:Nat} {a:gZ}
def Lf.keep(h:Lf w b a)(D:B.1[b]?=w.1[b]?):Lf B b a:=Bi.of_block h D
structure Pm(w:gk)(kind g T):Prop where
 ex:∃o,w.cell? ⟨4,kind,jh⟩=lj (qh (lj (iD g o)) (iK T) (iK T))/\∀j (x:Tl),T[j]?=lj x->w.cell? ⟨g,o+j * 3,jh⟩=lj (iE x.1)/\w.cell? ⟨g,o+j * 3+1,jh⟩=lj (gd x.2.1)/\w.cell? ⟨g,o+j * 3+2,jh⟩=lj (iE x.2.2)
variable {kind:Nat} {T:List Tl} (h:Lf w b a) (E:kind<4) (V:Pm w kind g T) (c:Z T<=3) (e:4<iL w.1) (G:g<iL w.1) {s:Int} (f:(Lit.int gh s).wf=km) (i:∀x∈T,(Lit.int gh x.1).wf=km) {q:gU} (j:q.size<=1000) (O:Eb q=km) (d n:gU) (v:Int)
include h E V c e G f i j O
end
def FH(w z sm s num)(M:w.cell? (iD z 3)=lj (.map (lj sm)))(a:(gq 93 (.map (lj sm)) (iE num) sd).run Y w=.ok (iB s) w):u Y 38 #[iB z,iE num] w λe B=>e=k8 (iB s)/\B=w:=by
 go_enter func38,ntmps38;go_wp2;go_ret;exact⟨iI,iI⟩
def QR(w z)(M:w.cell? (iD z 5)=lj (gd sd)):u Y 39 #[iB z] w λe B=>e=k8 (gd sd)/\B=w:=by
 exact Wsr
def Q8(w b x)(M:w.cell? (iC b)=lj x):u Y 26 #[iB b] w λe B=>e=k8 x/\B=w:=by
 go_enter func26,ntmps26;go_wp2;go_ret;exact⟨iI,iI⟩
end Go.Proofs.YtcbilgmfdgpomaaGreatDoor
