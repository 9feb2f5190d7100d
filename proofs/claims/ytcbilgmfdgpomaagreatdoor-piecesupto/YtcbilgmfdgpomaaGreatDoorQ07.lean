import Derived.Shelf.Strings.Split
import Derived.Shelf.Sort.Plain
import Derived.Deep.DrawnRows
import Derived.Deep.Upon
import Derived.Test.YtcbilgmfdgpomaaGreatDoorODec
import Derived.Deep.RegionHeld3
import Derived.Shelf.Slices.In.SortNone
import Derived.Shelf.SlSortCmp.NoneTotal
import Derived.Shelf.Small.Strs
set_option linter.all false
open Array renaming size → iS
set_option maxHeartbeats 8000000
set_option maxRecDepth 8000
open Option renaming some → ni,none → su
open Go.Proofs.Tryz renaming prog → qz,underlying9 → qw,underlying3 → ku,underlying106 → yz,zeroValue3 → iq,zeroValue9 → lx,underlying126 → jd,underlying71 → rz,zeroValue126 → oq,underlying0 → vh,underlying4 → zh,underlying5 → xy,zeroValue71 → xx,zeroValue0 → xh,sizeOf3 → vf,zeroValue4 → k9,zeroValue5 → yp,sizeOf9 → mv,sizeOf126 → xf,isAgg3 → sj,isAgg9 → jw,underlying123 → zg,underlying174 → nh6,underlying193 → ki,underlying194 → uq,underlying242 → qm,underlying245 → qh,underlying270 → mf,underlying271 → uk,sizeOf71 → ie,isAgg126 → wc,zeroValue123 → aa7,zeroValue174 → o8,zeroValue193 → r9,zeroValue194 → od,zeroValue242 → ox,zeroValue245 → mz,zeroValue270 → ju,zeroValue271 → ub,sizeOf0 → ng,sizeOf4 → xq,sizeOf5 → xe,isAgg71 → mr,isAgg0 → sq,isAgg4 → p9,isAgg5 → qp,sizeOf123 → zy,sizeOf174 → tj,sizeOf193 → wb0,sizeOf194 → mu,sizeOf242 → xu,sizeOf245 → cek,sizeOf270 → wo,sizeOf271 → gk,ntmps236 → idn,isAgg123 → bz2,isAgg174 → sd,isAgg193 → jj,isAgg194 → ywa,isAgg242 → yu,isAgg245 → oh,isAgg270 → mj,isAgg271 → ysg,func236 → qbw,underlying189 → ux,prog → Y
open Go renaming World → qg,Calls → sf,Value → w8,heap_alloc_new → sx,bodyPost_ret → wj,results → qe,TypeId → mi,run_underlying → rh,leftOf → yt,keyOf → zv,MapEntry → nd,heap_setCell_other → mg,World → I,Value → u
open Go.RowKit renaming Below → ri
open Bool renaming false → o9,true → tu
open Go.RowKit.Below renaming heap_alloc → rm
open Go.MapKept renaming run_getObj_map → ug,run_setObj_map → l6,Stamped → ny
open Go.Instr renaming lookup → xg,mapUpdate → uv
open Go.Value renaming string → x7,int → pq,ownBlock → yf,slice → um,bool → vp,tuple → my,agg → h9
open Go.Result renaming andThen → gh
open Go.WideMaps renaming keyOf_string_mk → oa
open Go.Shelf renaming Ren → iy
open Go.World renaming cell?_alloc_lt → fyu,cell?_of_block → o2
open Go.Maps renaming Keyed → gn
open Go.Builtin renaming delete_ → wi,append_ → o7
open List renaming mem_append_right → l9,length → iR,length → S
open Prod renaming fst → wv
open Go.Sort renaming putCells → me
open Go.Obj renaming cells → jf
open Go.IntKind renaming i64 → yi,u8 → zi
open Go.Ending renaming returned → xr
open Go.Proofs.YtcbilgmfdgpomaaGreatDoor renaming hide → Z,cellOf → M
open Orch renaming parse → K
open Go.Proofs.Tryz
variable {A C:List (u×u)}{B H W:I}{X:hY}{body:hQ}{g k:Nat}{key:u}{s:hU}{t:mi}{x:Int}
def F0g{p:Prop}(h:p:=by
 have G:(X.toList.map kv)[j]?=some (kv F):=Ai;rw[N]at G;have z:=h.nodup;have c:((A++(n,v)::C).map Prod.fst)[j]?=some n:=by rw[aT,G];simp[kv,T]
 have e:((A++(n,v)::C).map Prod.fst)[A.length]?=some n:=Ad;exact(List.getElem?_inj ((aD.1 c).1) z).1 (c.trans e.symm)):p:=h
def X9u{p:Prop}(h:p:=by
 rintro e a⟨⟨X,rfl,Z⟩,o⟩;obtain⟨I,f,rfl⟩:=Z.shape;exact⟨⟨I,_,f,iP,Z.congr (λb D=>D.2) (λ_ _=>rfl)⟩,o⟩):p:=h
def Ylw{p:Prop}(h:p:=by
 rw[z];go_enter Tryz.func200,Tryz.ntmps200;go_wp2;go_ret;exact⟨iP,iP⟩):p:=h
def Do4{p:Prop}(h:p:=by
 go_enter Tryz.func178,Tryz.ntmps178;go_wp2;go_ret;exact⟨iP,Below.refl _ _⟩):p:=h
def Brg{p:Prop}(h:p:=by
 go_enter Tryz.func213,Tryz.ntmps213;go_wp2_with (go_at_call 236;refine(Sq w s).mono ?_;rintro e H⟨rfl,rfl⟩;rw[h]);exact bodyPost_ret (by simp[results,Tryz.results213,go_sem]) iP ⟨iP,iP⟩):p:=h
def Dge{p:Prop}(h:p:=by
 have s:(ByteArray.mk #[]).size=0:=iP;exact Ob f Aau iP):p:=h
def Br4{p:Prop}(h:p:=by
 go_wp2_with (go_at_call 125;refine R.out.mono ?_;rintro e H⟨⟨t,rfl,O⟩,D⟩;have N:=hide O;have d:=hide D;clear O D);go_ret;exact⟨⟨_,iP,N.out⟩,d.out⟩):p:=h
def Tax{p:Prop}(h:p:=by
 go_wp2_with (go_at_call 125;refine R.out.mono ?_;rintro e H⟨⟨t,rfl,O⟩,D⟩;have N:=hide O;have HB:=hide D;clear O D);go_ret;exact⟨⟨_,iP,N.out⟩,HB.out⟩):p:=h
def T4d{p:Prop}(h:p:=by
 go_enter Tryz.func117,Tryz.ntmps117;go_wp2_with (go_at_call 158;refine V.out.mono ?_;rintro e H⟨rfl,rfl⟩);go_ret2;exact⟨iP,iP⟩):p:=h
def Dfh{p:Prop}(h:p:=by
 go_enter Tryz.func119,Tryz.ntmps119;go_wp2;go_region_law (fail)
 all_goals go_wp2
 all_goals exact⟨iP,.tuple #[],by simp[results,Tryz.results119,go_sem],iP,by first|exact Z.out.drew|exact Z.out|exact Z.out.drew.drew⟩):p:=h
def R3h{p q:Prop}(k:q)(h:Hd q->p:=by
 intro kz;have X:=hide (heap_alloc_new w (.cells (A7 0 0 iN iN iN 0 false) 131));revert X;exact kz.1):p:=h ⟨k⟩
def U16{p q:Prop}(k:q)(h:Hd q->p:=by
 intro kz;have V:(w.alloc (.cells (A7 0 0 iN iN iN 0 false) 131)).cell? ⟨0,kind * 3+1,none⟩=some (.string O):=(World.cell?_alloc_lt _ _ _ F).trans s;have d:(kind:Int)<8:=Aa;revert V d;exact kz.1):p:=h ⟨k⟩
def P2l{p q:Prop}(k:q)(h:Hd q->p:=by
 intro kz;have U:=hide (heap_alloc_new w (.cells #[.int .i64 kind,.string p,.string d,.string n,.int .i64 v] 152));revert U;exact kz.1):p:=h ⟨k⟩
def S3r{p q:Prop}(k:q)(h:Hd q->p:=by
 intro kz;have E:Hid (K.1[k]?=some (.cells #[.int .i64 (num+1),.map (some t)] 108)):=by rw[←o];exact heap_setCell_same _ _ _ _ _ _ f.out
 have q:Hid (Ax w K (· = k)):=by rw[←o];exact(Ax.of_below (Be _ _) (aB _)).trans (Ax.of_grown ((B8.refl f.out).set 0 _).grown (.inl iP))
 revert E q;exact kz.1):p:=h ⟨k⟩
def Ley{p:Prop}(h:p:=by
 go_enter Tryz.func169,Tryz.ntmps169;go_wp2;go_ret;exact⟨⟨_,iP,E.out⟩,C.out.alloc C.out.size _⟩):p:=h
def Wsr{p:Prop}(h:p:=by
 go_enter Tryz.func39,Tryz.ntmps39;go_wp2
 all_goals go_ret
 all_goals exact⟨iP,iP⟩):p:=h
namespace Go.Proofs.YtcbilgmfdgpomaaGreatDoor
variable {P:Program}{kl:Lit}
open Go.RowKit
def LF{w:I}{a x}(h:w.cell? a=ni x):a.block<iS w.1:=by
 unfold World.cell? at h;cases D:w.1[a.block]? with
 |none=>rw[D]at h;cases h
 |some o=>exact(aH.1 D).1
def KZ{w a B off b}(h:Bytes w B off b)(D:iM w a):Bytes a B off b:=λj l=>by
 have C:=h j l
 rwa[o2 (D.block B (LF C))]
set_option maxRecDepth 10000 in
def MN(w g c r)(q:Bytes w g 0 r)(G:g<iS w.1)(hl:S r<=1000):sf Y 172 #[um (ni (iJ g)) (S r) c] w λa B=>∃U,a=xr (my #[U,vp tu])/\B.ownsRow w.1.size 5 1 U (Orch.be (S r) 4++r).length (A5 (Orch.be (S r) 4++r))/\iM w B:=by
 have HB:=Z q;go_enter func172,ntmps172;obtain⟨e,V,o,W,T⟩:=info_parts Tryz.info5;have F:=run_make (P:=Y) w 37 5 e _ underlying37 V o .i64 .i64 (0:Int) (4+(S r:Int)) Aa Aa (by rw[T];omega) Aa;go_wp2_with fail;have h:(w.alloc (jf (madeCells #[pq zi 0] (4+S r)) 5)).ownsRow w.1.size 5 1 (um (ni (iJ w.1.size)) 0 (4+S r)) ([]:hQ).length (A5 []):=
  ⟨iP,.inr ⟨iS w.1,4+S r,_,iP,aB _,sx w _,bE _,Pc,by simp[madeCells],by simp[A5]⟩⟩
 have y:=Ym _ w.1.size _ (S r:Int) 4 [] Aa h Ad Ad;have X:=Z y;have i:=Z (Be w (jf (madeCells #[pq zi 0] (4+S r)) 5));clear h y;apply X.out.mono;rintro a H⟨t,rfl,d,R⟩;have b:iM w H:=i.out.trans (R.low (base:=iS w.1) Ad (λg G=>by simp[yf]at G;omega));have k:([]++Orch.be (S r:Int) 4).length=4:=by rw[bR,Orch.be_length]
 rw[k,bR]at d;obtain⟨I,M,s⟩:∃v c,t=um v 4 c:=by
  rcases d.2 with⟨a,A⟩|⟨g,K,L,a,_⟩
  ·omega
  ·exact⟨_,_,a⟩
 subst s;have N:=Z d;have HW:=Z b;have l:=KZ HB.out b;have O:=Z l;have x:=b.size;clear d b l X i R k;go_wp2_with (at_builtin;refine wpList_append_own _ iP _ _ 37 iP w.1.size 5 e (pq zi 0) 1 1 underlying37 V o W T iP Ae _ _ _ iP N.out (iJ g) (S r) c (A5 r) iP ?hl ?hn ?h1 ?c3 ?c4 ?c5 ?_)
 case hl=>simp[A5]
 case hn=>
  intro j u f;have P:j<S r:=by have:=(aD.1 f).1;simpa[A5] using this
  have h1:=O.out j P;rw[aY]at h1;have J:u=pq zi r[j].toNat:=by simp[A5,P]at f;exact f.symm
  rw[J,←h1];cases j<;>simp[Addr.add]
 case h1=>intro u m;simp[A5]at m;obtain⟨Q,_,rfl⟩:=m;rfl
 case c3=>unfold maxLen;omega
 case c4=>omega
 case c5=>omega
 intro U E d D _;have n:(Orch.be (S r) 4++r).length=4+S r:=by rw[aM,Orch.be_length]
 have p:A5 (Orch.be (S r) 4++r)=A5 (Orch.be (S r) 4)++A5 r:=by simp[A5]
 have z:Hid (E.ownsRow w.1.size 5 1 U (Orch.be (S r) 4++r).length (A5 (Orch.be (S r) 4++r))):=by show World.ownsRow _ _ _ _ _ _ _;rwa[n,p]
 have C:=Z (HW.out.grown D x (λj f=>(N.out.lt j f).1));clear d D n p;go_wp2;exact wj (v:=my #[U,vp tu]) (by simp[qe,results172,go_sem]) iP ⟨U,iP,z.out,C.out⟩
open Go.Maps
open Go.ChangeMaps (setBlock map_eraseIdx modify_eq_set)
def kv(e:nd):u×u:=(e.key,e.val)
structure Bl(P k)(w:qg)(b:Nat)(m):Prop where
 ex:∃es clock,w.1[b]?=ni (.map es clock)/\ny es clock/\es.toList.map kv=m
 keys:∀p∈m,∃l,zv P k p.1=ni l
section
variable {k a:mi} {w:I} {b:Nat} {m:List (u×u)}
def Bl.nodup(h:Bl P k w b m):(m.map wv).Nodup:=by
 obtain⟨X,c,_,s,rfl⟩:=h.ex;rw[cY];exact s.2.2
def Bl.one(h:Bl P k w b m){n u v}(a:(n,u)∈m)(q:(n,v)∈m):u=v:=by
 have z:=h.nodup;clear h
 induction m with
 |nil=>cases a
 |cons p r O=>
  grind
def Bl.of_block(h:Bl P k w b m)(D:B.1[b]?=w.1[b]?):Bl P k B b m:=by
 have ⟨X,a,C,J,T⟩:=h.ex;exact⟨⟨X,a,by rwa[D],J,T⟩,h.keys⟩
def Bl.lt(h:Bl P k w b m):b<iS w.1:=by
 have ⟨X,a,C,_⟩:=h.ex
 grind
def Bl.made(w:I):Bl P k (w.alloc (.map #[] 0)) w.1.size []:=by
 refine⟨⟨#[],0,sx w _,⟨?_,?_,?_⟩,iP⟩,λp Q=>by cases Q⟩<;>simp
def Xd(o):w.grownBy (setBlock w b o) (ni b):=
 ⟨iP,iP,iP,by simp[setBlock],λi V f=>by
  show(w.1.setIfInBounds b o)[i]?=_
  grind⟩
def EE(K:gn P k){n d}(W:zv P k n=ni d){X:Array nd}(E:∀p∈X.toList.map kv,∃l,zv P k p.1=ni l)(O:∀p∈X.toList.map kv,p.1≠n):(Instr.findKey k n X.toList).run P w=.ok su w:=by
 rcases K.find w W X.toList (λx Z=>E (kv x) (aZ.2 ⟨x,Z,rfl⟩)) with⟨C,_⟩|⟨j,F,_,J,T⟩
 ·exact C
 ·exact absurd T (O (kv F) (aZ.2 ⟨F,aV J,iP⟩))
def Ri(K:gn P k){n v d}(W:zv P k n=ni d){X:Array nd}(E:∀p∈X.toList.map kv,∃l,zv P k p.1=ni l)(y:(n,v)∈X.toList.map kv):∃j F,(Instr.findKey k n X.toList).run P w=.ok (ni (j,F.val)) w/\X.toList[j]?=ni F/\F.key=n:=by
 rcases K.find w W X.toList (λx Z=>E (kv x) (aZ.2 ⟨x,Z,rfl⟩)) with⟨C,J⟩|⟨j,F,C,J,T⟩
 ·have ⟨x,Z,a⟩:=aZ.1 y;exact absurd (by have:=aK wv a;exact this) (J x Z)
 grind
def Bl.look_none(c)(h:Bl P k w b m)(K:gn P k)(R:P.underlying t=ni (.map k a)){z}(N:(zeroValue a).run P w=.ok z w){n d}(W:zv P k n=ni d)(O:∀p∈m,p.1≠n):(xg t (.map (ni b)) n c).run P w=.ok (if c then my #[z,vp o9] else z) w:=by
 obtain⟨X,e,D,s,rfl⟩:=h.ex;simp[xg,rh R,ug D,K.check w _ W,(EE (w:=w) K W h.keys O),N,gh]
def Bl.look_some(c)(h:Bl P k w b m)(K:gn P k)(R:P.underlying t=ni (.map k a)){n v kl}(W:zv P k n=ni kl)(y:(n,v)∈m):(xg t (.map (ni b)) n c).run P w=.ok (if c then my #[v,vp tu] else v) w:=by
 obtain⟨X,d,D,s,rfl⟩:=h.ex;have ⟨j,F,C,J,T⟩:=Ri (w:=w) K W h.keys y;have q:F.val=v:=h.one (aZ.2 ⟨F,aV J,by simp[kv,T]⟩) y;simp[xg,rh R,ug D,K.check w _ W,C,q,gh]
def Bl.put_new(h:Bl P k w b m)(K:gn P k)(R:P.underlying t=ni (.map k a)){key val kl}(W:zv P k key=ni kl)(O:∀p∈m,p.1≠key):∃B,(uv t (.map (ni b)) key val).run P w=.ok () B/\Bl P k B b (m++[(key,val)])/\w.grownBy B (ni b):=by
 obtain⟨X,c,D,s,rfl⟩:=h.ex;refine⟨setBlock w b (.map (X.push ⟨key,val,c⟩) (c+1)),?_,⟨⟨X.push ⟨key,val,c⟩,c+1,(aQ h.lt),MapKept.stamped_push s (λx Z=>O (kv x) (aZ.2 ⟨x,Z,iP⟩)),?_⟩,?_⟩,Xd _⟩
 ·simp[uv,rh R,ug D,K.check w o9 W,(EE (w:=w) K W h.keys O),l6 _ D,gh,setBlock]
 ·simp[kv]
 ·intro p Q;rcases bX.1 Q with Q|Q
  ·exact h.keys p Q
  grind
def Bl.put_old(h:Bl P k w b m)(K:gn P k)(R:P.underlying t=ni (.map k a)){val v d}(W:zv P k key=ni d){A C}(L:m=A++(key,v)::C):∃f,(uv t (.map (ni b)) key val).run P w=.ok () f/\Bl P k f b (A++(key,val)::C)/\w.grownBy f (ni b):=by
 obtain⟨X,q,D,s,N⟩:=h.ex;subst L;have I:(key,v)∈X.toList.map kv:=by rw[N];simp
 obtain⟨j,F,O,J,T⟩:=Ri (w:=w) K W (by rw[N];exact h.keys) I;have g:j<iR X.toList:=(aD.1 J).1;have l:j<X.size:=Aax;have i:(X.modify j (λE=>{ E with key:=key,val:=val })).toList=X.toList.set j { F with key:=key,val:=val }:=by rw[Array.toList_modify,modify_eq_set _ _ _ _ J]
 have S:j=iR A:=by
  have G:(X.toList.map kv)[j]?=ni (kv F):=by rw[aT,J];rfl
  rw[N]at G;have z:=h.nodup;have c:((A++(key,v)::C).map wv)[j]?=ni key:=by rw[aT,G];simp[kv,T]
  have e:((A++(key,v)::C).map wv)[iR A]?=ni key:=Ad;exact(List.getElem?_inj ((aD.1 c).1) z).1 (c.trans e.symm)
 have B:(X.toList.set j { F with key:=key,val:=val }).map kv=A++(key,val)::C:=by
  rw[fW,N,S];simp[kv]
 refine⟨setBlock w b (.map (X.modify j (λE=>{ E with key:=key,val:=val })) q),?_,⟨⟨_,_,aQ h.lt,?_,by rw[i,B]⟩,?_⟩,Xd _⟩
 ·have o:X[j]'l=F:=by
   obtain⟨_,h⟩:=aD.1 J;simpa using h
  simp[uv,rh R,ug D,K.check w o9 W,O,l,o,T,K.stays w W,l6 _ D,gh,setBlock]
 ·have n:(X.toList.set j { F with key:=key,val:=val }).map (·.born)=X.toList.map (·.born):=by
   rw[fW];refine bK λu=>?_;rw[List.getElem?_set];split
   ·rename_i r;subst r;rw[aJ Aax,aT,J];rfl
   ·rfl
  have y:(X.toList.set j { F with key:=key,val:=val }).map (·.key)=X.toList.map (·.key):=by
   rw[fW];refine bK λu=>?_;rw[List.getElem?_set];split
   ·rename_i r;subst r;rw[aJ Aax,aT,J];simp[T]
   ·rfl
  unfold ny;rw[i,n,y];refine⟨λx Z=>?_,s.2⟩;have:x.born∈(X.toList.set j { F with key:=key,val:=val }).map (·.born):=aZ.2 ⟨x,Z,rfl⟩;rw[n]at this;obtain⟨H,V,a⟩:=aZ.1 this;rw[←a];exact s.1 H V
 ·intro p Q;rcases bX.1 Q with Q|Q
  ·exact h.keys p (fI _ Q)
  ·rcases bG.1 Q with rfl|Q
   ·exact⟨_,W⟩
   ·exact h.keys p (l9 _ (cF _ Q))
def Bl.drop_some{ty}(h:Bl P k w b m)(K:gn P k)(R:P.underlying t=ni (.map k a)){n v d}(W:zv P k n=ni d){A C}(L:m=A++(n,v)::C):∃B,(wi #[t,k] ty #[.map (ni b),n]).run P w=.ok (my #[]) B/\Bl P k B b (A++C)/\w.grownBy B (ni b):=by
 obtain⟨X,f,D,s,N⟩:=h.ex;subst L;have y:(n,v)∈X.toList.map kv:=by rw[N];simp
 obtain⟨j,F,l,J,T⟩:=Ri (w:=w) K W (by rw[N];exact h.keys) y;have H:j<X.size:=by simpa using((aD.1 J).1)
 have O:(X.eraseIdxIfInBounds j).toList=X.toList.eraseIdx j:=by
  simp
 have S:j=iR A:=by
  exact F0g
 refine⟨setBlock w b (.map (X.eraseIdxIfInBounds j) f),?_,⟨⟨_,_,aQ h.lt,MapKept.stamped_erase s j,?_⟩,?_⟩,Xd _⟩
 ·simp[wi,rh R,ug D,K.check w _ W,l,l6 _ D,gh,setBlock]
 ·rw[O,map_eraseIdx,N,S,List.eraseIdx_append_of_length_le (aB _)];simp
 ·intro p Q;rcases bX.1 Q with Q|Q
  ·exact h.keys p (fI _ Q)
  ·exact h.keys p (l9 _ (cF _ Q))
def Bl.len(h:Bl P k w b m)(R:P.underlying t=ni (.map k a))(I):(Builtin.len_ #[t] I #[.map (ni b)]).run P w=.ok (iL (iR m)) w:=by
 obtain⟨X,c,D,s,rfl⟩:=h.ex;simp[Builtin.len_,rh R,ug D,gh]
 rfl
end
def Aow(w)(R:hU)(Q:iE)(v l)(h u P:Nat)(s V K)(a:Nat)(q:Option Addr->Nat->Nat->I->Prop)(r:I->Option Addr->Nat->Nat->I->Prop)(z:I->w8->I->Prop)(g:Hid (sf qz 141 #[x7 R] w λe B=>(∃p m n,e=xr (my #[Il h u P s V K a (um p m n),vp tu])/\q p m n B)/\iM w B))(d:Hid (∀S W p m n,q p m n S->iM S W->iM w W->sf qz 142 #[Il h u P s V K a (um p m n),vv 0 iN (um Q v l)] W λe B=>(∃L i j,e=xr (my #[um L i j,vp tu])/\r W L i j B)/\iM W B))(X:Hid (∀W L i j J,r W L i j J->iM w J->sf qz 172 #[um L i j] J λe B=>(∃t,e=xr (my #[t,vp tu])/\z J t B)/\iM J B)):sf qz 125 #[x7 R,um Q v l] w λe B=>(∃t W,e=xr t/\z W t B/\iS w.1<=iS W.1)/\iM w B:=by
 go_enter func125,ntmps125;go_wp2_with (first
  |(go_at_call 141;apply g.out.mono;rintro e H⟨⟨p,m,n,rfl,f⟩,M⟩;have o:=Z f;have O:=Z M;clear M f)
  |(go_at_call 142;apply(d.out H _ p m n o.out (Be _ _) (O.out.alloc O.out.size _)).mono;rintro e w2⟨⟨L,i,j,rfl,Y⟩,D⟩;have x:=Z Y;have C:=Z ((O.out.alloc O.out.size _).trans (D.mono HH));clear D Y)
  |(go_at_call 172;apply(X.out _ L i j _ x.out C.out).mono;rintro e ad⟨⟨t,rfl,N⟩,F⟩;have y:=Z N;have k:=Z (C.out.trans (F.mono (by have:=C.out.size;omega)));clear F N))
 go_ret;exact⟨⟨_,_,iP,y.out,C.out.size⟩,k.out⟩
def Ul{w a t}{W:hQ}(h:w.ownsRow a 5 1 t (S W) (A5 W))(F:0<S W):∃g I,t=um (ni (iJ g)) (S W) I/\a<=g/\g<iS w.1/\Bytes w g 0 W:=by
 rcases h.2 with⟨_,h⟩|⟨g,I,H,e,C,J,T,q,z,f⟩
 ·omega
 ·refine⟨g,I,e,C,(aH.1 J).1,λj l=>?_⟩;have M:(H.toList.take (S W * 1))[j]?=(A5 W)[j]?:=by rw[f]
  have b:H[j]?=ni (pq zi W[j].toNat):=by
   simp[A5,l]at M;simpa using M
  rw[aY];exact cellOf J b
section
variable {z:gZ} {F:iA}
def Qu(U:Im z F)(w)(V:F w)(y:Table w)(R:hU)(l S A)(L:D9 w S l A)(d:∀b,S b->b<iS w.1)(t)(Q:Orch.parse R.data.toList=ni t)(body)(u:Orch.put z 9 [] t ⟨0,iN,l⟩=ni body)(E:0<iR body)(K:iR body<=1000):sf qz 125 #[x7 R,A] w λe a=>(∃r,e=xr r/\a.ownsRow w.1.size 5 1 r (Orch.be (iR body) 4++body).length (A5 (Orch.be (iR body) 4++body)))/\iM w a:=by
 obtain⟨P,v,rfl⟩:=L.shape;have M:=Rz w R y;rw[Q]at M;refine(Aow w R P _ v t.l.sign.toNat t.l.shape t.l.size t.l.least t.l.5 t.l.text t.l.fin.toNat (λp m n a=>Fc a (λb=>b<iS a.1) t.ps (um p m n)) (λW c i j a=>∃g,c=ni (iJ g)/\i=iR body/\g<iS a.1/\Bytes a g 0 body)
  (λW r a=>a.ownsRow W.1.size 5 1 r (Orch.be (iR body) 4++body).length (A5 (Orch.be (iR body) 4++body))) (M.mono ?_) (λa1 W p m n Z N x=>?_) (λW c i j J Y N=>?_)).mono ?_
 ·exact X9u
 ·have:=Afz U W (U.kept (U.size V) x V) t (Vc Q) (λb=>b<iS W.1) _ (Z.congr (λb h=>aC h N.size) (λb D=>N.block b D)) ⟨0,iN,l⟩ _ (L.congr (λb h=>aC (d b h) x.size) (λb h=>x.block b (d b h))) (λ_ h=>h);rw[u]at this;apply this.mono;rintro e a⟨⟨r,rfl,O⟩,D⟩;obtain⟨g,q,rfl,_,G,k⟩:=Ul O E
  grind
 ·obtain⟨g,rfl,rfl,G,k⟩:=Y;apply(MN J g j body k G K).mono
  grind
 ·rintro e a⟨⟨r,W,rfl,O,s⟩,D⟩;refine⟨⟨r,iP,O.1,?_⟩,D⟩;rcases O.2 with h|⟨g,q,H,C,B,T⟩
  ·exact Or.inl h
  ·exact Or.inr ⟨g,q,H,C,aF s B,T⟩
end
def Tryz.ren146:iy:=⟨fun|138=>238|143=>239|146=>199|195=>254|197=>255|217=>265|218=>256|219=>257|221=>214|224=>267|225=>266|260=>264|266=>270|267=>268|268=>237|314=>271|n=>n,fun|0=>0|3=>3|4=>4|5=>5|9=>9|21=>21|31=>236|46=>71|51=>126|105=>321|119=>294|138=>296|139=>297|146=>327|n=>n,fun|1=>1|3=>5|4=>6|n=>n⟩
set_option maxRecDepth 100000 in
def Tryz.lays146:Go.Proofs.Lays.n146 Y Tryz.ren146:=
 {mixed:=Ab,
  f138:=func238.trans (aK ni Ab),
  f143:=func239.trans (aK ni Ab),
  f146:=func199.trans (aK ni Ab),
  f195:=func254.trans (aK ni Ab),
  f197:=func255.trans (aK ni Ab),
  f217:=func265.trans (aK ni Ab),
  f218:=func256.trans (aK ni Ab),
  f219:=func257.trans (aK ni Ab),
  f221:=func214.trans (aK ni Ab),
  f224:=func267.trans (aK ni Ab),
  f225:=func266.trans (aK ni Ab),
  f260:=func264.trans (aK ni Ab),
  f266:=func270.trans (aK ni Ab),
  f267:=func268.trans (aK ni Ab),
  f268:=func237.trans (aK ni Ab),
  f314:=func271.trans (aK ni Ab),
  t0:=vh,
  a0:=sq,
  z0:=ng,
  v0:=xh,
  t3:=ku,
  a3:=sj,
  z3:=vf,
  v3:=iq,
  t4:=zh,
  a4:=p9,
  z4:=xq,
  v4:=k9,
  t5:=xy,
  a5:=qp,
  z5:=xe,
  v5:=yp,
  t9:=qw,
  a9:=jw,
  z9:=mv,
  v9:=lx,
  t21:=underlying21,
  a21:=isAgg21,
  z21:=sizeOf21,
  v21:=zeroValue21,
  t31:=underlying236,
  a31:=isAgg236,
  z31:=sizeOf236,
  v31:=zeroValue236,
  t46:=rz,
  a46:=mr,
  z46:=ie,
  v46:=xx,
  t51:=jd,
  a51:=wc,
  z51:=xf,
  v51:=oq,
  t105:=underlying321,
  a105:=isAgg321,
  z105:=sizeOf321,
  v105:=zeroValue321,
  t119:=underlying294,
  a119:=isAgg294,
  z119:=sizeOf294,
  t138:=underlying296,
  a138:=isAgg296,
  z138:=sizeOf296,
  v138:=zeroValue296,
  t139:=underlying297,
  a139:=isAgg297,
  z139:=sizeOf297,
  v139:=zeroValue297,
  t146:=underlying327,
  a146:=isAgg327,
  z146:=sizeOf327,
  v146:=zeroValue327,
  g1:=Ab,
  g3:=Ab,
  g4:=by kernel_rfl }
def Aah(s S:hU)(m w)(b:s.size<4294967281)(L:w.cell? ⟨1,0,su⟩=ni (iL m))(C:1<=S.size):sf Y 199 #[x7 s,x7 S] w λe B=>e=xr (um (ni (iJ w.1.size)) (Lib.countB s S+1) (Lib.countB s S+1))/\B=w.alloc (jf ((Lib.splitB S 0 (Lib.countB s S) s).map x7).toArray 9):=
 Any.strings_Split Tryz.lays146 Ab s S m w b L C
def Lf(c:Nat):Bool:=decide (97<=c/\c<=122)||decide (48<=c/\c<=57)||decide (c=45)||decide (c=46)
def Pn(s:hU):Bool:=decide (s≠iN/\s≠⟨#[46]⟩/\s≠⟨#[46,46]⟩)&&s.data.toList.all λc=>Lf c.toNat
def AK(w)(c:Nat)(M:c<256):sf Y 215 #[pq zi c] w λe B=>e=xr (vp (Lf c))/\B=w:=by
 by_cases C:(97:Int)<=c<;>by_cases J:(c:Int)<=122<;>by_cases T:(48:Int)<=c<;>by_cases q:(c:Int)<=57<;>by_cases z:(c:Int)=45<;>by_cases f:(c:Int)=46
 all_goals first
  |(exfalso;omega)
  |(
    rw[show Lf c=tu by simp[Lf];omega];go_enter func215,ntmps215;go_wp2;go_ret;exact⟨by first|rfl|simp_all,iP⟩)
  |(
    rw[show Lf c=o9 by simp[Lf];omega];go_enter func215,ntmps215;go_wp2;go_ret;exact⟨by first|rfl|simp_all,iP⟩)
def Abh(l:hQ)(k)(h:k<S l):(l.take (k+1)).all (λc=>Lf c.toNat)=((l.take k).all (λc=>Lf c.toNat)&&Lf l[k].toNat):=by
 rw[dM h,gR];simp
def Gi(s:hU)(l:hQ):(s.toList==l)=decide (s=⟨l.toArray⟩):=by
 rw[Lib.toList_data,eW,beq_iff_eq,decide_eq_true_iff]
 constructor
 ·intro h;apply ByteArray.ext
  grind
 ·intro h;rw[h]
def QZ(w)(s:hU)(f:s.size<=1000):sf Y 200 #[x7 s] w λe B=>e=xr (vp (Pn s))/\B=w:=by
 by_cases F:s.toList==[]
 ·have z:Pn s=o9:=by
   rw[Gi]at F;simp[Pn,of_decide_eq_true F]
  exact Ylw
 ·by_cases C:s.toList==[46]
  ·have z:Pn s=o9:=by
    rw[Gi]at C;simp[Pn,of_decide_eq_true C]
   exact Ylw
  ·by_cases J:s.toList==[46,46]
   ·have z:Pn s=o9:=by
     rw[Gi]at J;simp[Pn,of_decide_eq_true J]
    exact Ylw
   ·have x:Hid (Pn s=s.data.toList.all λc=>Lf c.toNat):=by
     show _=_;have I:=F;have d:=C;have o:=J;rw[Gi,decide_eq_true_iff]at I d o;unfold Pn;rw[decide_eq_true ⟨I,d,o⟩,gJ]
    have O:S s.data.toList=s.size:=(Lib.size_eq s).symm;go_enter func200,ntmps200;go_wp2;go_loop [16] (λi=>∃k,k<=s.size/\i=iL k/\Hid ((s.data.toList.take k).all (λc=>Lf c.toNat)=tu)) (λi=>s.size - (intOf i).toNat)
    case atStart=>exact⟨0,bE _,iP,by show _=_;simp⟩
    case round=>
     obtain⟨k,E,rfl,X⟩:=hrel;by_cases b:k<s.size
     ·have N:(k:Int)<(s.size:Int):=Aa;have V:Hid ((s.data.toList.take (k+1)).all (λc=>Lf c.toNat)=Lf s[k].toNat):=by
       show _=_;rw[Abh _ _ Aa,X.out,gJ]
       rfl
      cases M:Lf s[k].toNat with
      |true=>
       rw[M]at V;go_wp2_with (go_at_call 215;apply(AK w s[k].toNat (gU _)).mono;rintro e H⟨rfl,rfl⟩;rw[M]);go_round
       case rel=>exact⟨k+1,Aa,by go_num,V⟩
       case measure=>first|(simp[intOf];done)|(simp[intOf];omega)
      |false=>
       have a:Hid (Pn s=o9):=by
        show _=_;rw[x.out];have T:=V.out;rw[M]at T;rw[←dO (k+1) s.data.toList,gR,T,gB]
       go_wp2_with (go_at_call 215;apply(AK w s[k].toNat (gU _)).mono;rintro e H⟨rfl,rfl⟩;rw[M]);go_ret;exact⟨Gw a.out.symm,iP⟩
     ·have N:¬(k:Int)<(s.size:Int):=Aa;have a:Hid (Pn s=tu):=by
       show _=_;rw[x.out,←X.out,bN Aa]
      go_wp2;go_ret;exact⟨Gw a.out.symm,iP⟩
def Eb(s:hU):Bool:=decide (1<=s.size)&&((s.extract 0 1).toList==[47])
def Sq(w)(s:hU):sf Y 236 #[x7 s,x7 ⟨#[47]⟩] w λe B=>e=xr (vp (Eb s))/\B=w:=by
 by_cases C:(1:Int)<=s.size
 ·have H:1<=s.size:=Aa;cases J:((s.extract 0 1).toList==[47]) with
  |true=>
   rw[show Eb s=tu by simp only[Eb,J,decide_eq_true H];rfl];go_enter qbw,idn;go_wp2;go_ret;simp
  |false=>
   rw[show Eb s=o9 by simp only[Eb,J,decide_eq_true H];rfl];go_enter qbw,idn;go_wp2;go_ret;simp
 ·have H:¬1<=s.size:=Aa;rw[show Eb s=o9 by simp only[Eb,decide_eq_false H];rfl];go_enter qbw,idn;go_wp2;go_ret;exact⟨iP,iP⟩
def GW(w)(s:hU):sf Y 213 #[x7 s,x7 ⟨#[47]⟩] w λe B=>e=xr (if Eb s=tu then my #[x7 (s.extract 1 s.size),vp tu] else my #[x7 s,vp o9])/\B=w:=by
 cases h:Eb s with
 |true=>
  have N:(1:Int)<=s.size:=by
   have:1<=s.size:=by
    unfold Eb at h
    grind
   omega
  exact Brg
 |false=>
  exact Brg
def CL(w)(s:hU):sf Y 198 #[x7 s,x7 ⟨#[47]⟩] w λe B=>e=xr (if Eb s=tu then my #[x7 (s.extract 1 s.size),vp tu] else my #[x7 s,vp o9])/\B=w:=by
 have M:=GW w s;cases h:Eb s with
 |true=>
  rw[h]at M;have g:=Z M;go_enter func198,ntmps198;go_wp2_with (go_at_call 213;apply g.out.mono;rintro e H⟨rfl,rfl⟩);exact wj (by simp[qe,results198,go_sem]) iP ⟨iP,iP⟩
 |false=>
  rw[h]at M;have g:=Z M;clear M;go_enter func198,ntmps198;go_wp2_with (go_at_call 213;apply g.out.mono;rintro e H⟨rfl,rfl⟩);exact wj (v:=my #[x7 s,vp o9]) (by simp[qe,results198,go_sem]) iP ⟨iP,iP⟩
def names(s:hU):List hU:=Lib.splitB ⟨#[47]⟩ 0 (Lib.countB s ⟨#[47]⟩) s
def X3(S:hU):∀k(s p:hU),p∈Lib.splitB S 0 k s->p.size<=s.size
 |0,s,p,h=>by
  simp only[Lib.splitB,fC]at h
  grind
 |k+1,s,p,h=>by
  unfold Lib.splitB at h;split at h
  ·grind
  ·rcases bG.1 h with h|h
   ·rw[h,cM];omega
   ·have:=X3 S k _ p h;rw[cM]at this;omega
def Hr(s:hU):Bool:=decide (s.size<=24)&&((s.toList==[47])||(Eb s&&(names (s.extract 1 s.size)).all Pn))
def YN(s):(names s).length=Lib.countB s ⟨#[47]⟩+1:=Lib.splitB_all ⟨#[47]⟩ Ae 0 _ s iP
def To(w m)(j:w.cell? ⟨1,0,su⟩=ni (iL m))(s:hU)(y:s.size<=140737488355328):sf qz 178 #[x7 s] w λe B=>e=xr (vp (Hr s))/\iM w B:=by
 by_cases z:(24:Int)<s.size
 ·rw[show Hr s=o9 by simp only[Hr,decide_eq_false (show ¬s.size<=24 by omega)];rfl];exact Do4
 ·cases d:(s.toList==[47]) with
  |true=>
   rw[show Hr s=tu by simp only[Hr,decide_eq_true (show s.size<=24 by omega),d];rfl];exact Do4
  |false=>
   have F:=CL w s;cases J:Eb s with
   |false=>
    rw[J]at F;have g:=Z F;rw[show Hr s=o9 by simp only[Hr,decide_eq_true (show s.size<=24 by omega),d,J];rfl];clear F;go_enter func178,ntmps178;go_wp2_with (go_at_call 198;apply g.out.mono;rintro e H⟨rfl,rfl⟩);go_ret;exact⟨iP,Below.refl _ _⟩
   |true=>
    rw[J]at F;have g:=Z F;have x:Hid (Hr s=(names (s.extract 1 s.size)).all Pn):=by
     show _=_;simp only[Hr,decide_eq_true (show s.size<=24 by omega),d,J]
     rfl
    have q:(s.extract 1 s.size).size<=24:=by rw[cM];omega
    generalize s.extract 1 s.size=r at *;have l:=Z (Aah r ⟨#[47]⟩ m w Aa j Ae);have A:=YN r;have t:Lib.countB r ⟨#[47]⟩<=24:=aF (Lib.countB_le ⟨#[47]⟩ Ae r.size r (aB _)) q;have K:=sx w (jf ((names r).map x7).toArray 9);have u:Hid (∀i (h:i<(names r).length),(w.alloc (jf ((names r).map x7).toArray 9)).cell? (iK w.1.size i)=ni (x7 (names r)[i])):=λi h=>by
     apply cellOf K;simp[h]
    have v:Hid (∀i (h:i<(names r).length),((names r)[i]).size<=1000):=λi h=>aF (X3 _ _ _ _ (eU h)) Aa;have HB:Hid (iM w (w.alloc (jf ((names r).map x7).toArray 9))):=Be _ _;have n:Hid (w.alloc (jf ((Lib.splitB ⟨#[47]⟩ 0 (Lib.countB r ⟨#[47]⟩) r).map x7).toArray 9)=w.alloc (jf ((names r).map x7).toArray 9)):=iP;clear F K;go_enter func178,ntmps178;go_wp2_with (first
     |(go_at_call 198;apply g.out.mono;rintro e H⟨rfl,D⟩;have Y:=D.symm;clear D;subst Y)
     |(go_at_call 199;apply l.out.mono;rintro e H⟨rfl,rfl⟩;rw[n.out]))
    have G:(names r).length<=25:=Aa;have O:Hid (∀{o},o=w.alloc (jf ((names r).map x7).toArray 9)->iM w o):=λh=>by rw[h];exact HB.out
    have p:=HB.out;clear l g n t j O HB;generalize w.alloc (jf ((names r).map x7).toArray 9)=W at *;have HB:=Z p;clear p;generalize names r=L at *;generalize Lib.countB r ⟨#[47]⟩=C at *;go_loop [22] (λi=>∃k,k<=S L/\i=iL k/\Hid ((L.take k).all Pn=tu)) (λi=>S L - (intOf i).toNat)
    case atStart=>exact⟨0,bE _,iP,by show _=_;simp⟩
    case round=>
     obtain⟨k,E,rfl,X⟩:=hrel;by_cases b:k<S L
     ·have N:(k:Int)<(C:Int)+1:=Aa;have I:=u.out k b;have M:Hid ((L.take (k+1)).all Pn=Pn L[k]):=by
       show _=_;rw[dM b,gR,X.out,gJ];simp
      have c:=Z (QZ W L[k] (v.out k b));generalize L[k]=P at *;cases f:Pn P with
      |true=>
       rw[f]at M c;go_wp2_with (go_at_call 200;apply c.out.mono;rintro e H⟨rfl,D⟩;have Y:=D.symm;clear D;subst Y);go_round
       case rel=>exact⟨k+1,Aa,by go_num,M⟩
       case measure=>first|(simp[intOf];done)|(simp[intOf];omega)
      |false=>
       have a:Hid (Hr s=o9):=by
        show _=_;have T:=M.out;rw[f]at T;rw[x.out,←dO (k+1) L,gR,T,gB]
       rw[f]at c;go_wp2_with (go_at_call 200;apply c.out.mono;rintro e H⟨rfl,D⟩;have Y:=D.symm;clear D;subst Y);go_ret;exact⟨Gw a.out.symm,HB.out⟩
     ·have N:¬(k:Int)<(C:Int)+1:=Aa;have a:Hid (Hr s=tu):=by
       show _=_;rw[x.out,←X.out,bN Aa]
      go_wp2;go_ret;exact⟨Gw a.out.symm,HB.out⟩
def Ey(l:hQ):Nat->Int
 |0=>-1
 |k+1=>if l[k]?=ni 47 then(k:Int) else Ey l k
def Wl(l):∀k,-1<=Ey l k/\Ey l k<(k:Int)
 |0=>by simp[Ey]
 |k+1=>by
  have:=Wl l k;unfold Ey;split<;>omega
def Tp(l)(h:l[0]?=ni 47):∀k,0<k->0<=Ey l k
 |0,F=>Aa
 |k+1,_=>by
  unfold Ey;split
  ·omega
  ·rename_i z;cases k with
   |zero=>exact absurd h z
   |succ k=>exact Tp l h _ Aa
def ME(w)(s:hU)(f:s.size<=140737488355328):sf qz 217 #[x7 s,pq zi 47] w λe B=>e=xr (iL (Ey s.data.toList s.size))/\B=w:=by
 have O:S s.data.toList=s.size:=(Lib.size_eq s).symm;go_enter func217,ntmps217;go_wp2;go_loop [5] (λc=>∃k,k<=s.size/\c=iL ((k:Int) - 1)/\Hid (Ey s.data.toList k=Ey s.data.toList s.size)) (λc=>(intOf c+1).toNat)
 case atStart=>exact⟨s.size,aB _,iP,iP⟩
 case round=>
  obtain⟨k,E,rfl,Z⟩:=hrel;cases k with
  |zero=>
   go_wp2;go_ret;exact⟨R0 (by rw[←Z.out];rfl),iP⟩
  |succ k=>
   rw[show((k+1:Nat):Int) - 1=(k:Int) by omega];have Y:k<s.size:=Aa;have b:s.data.toList[k]?=ni s[k]:=by
    rw[aG Aa]
    rfl
   have h:(s[k]).toNat<256:=gU _;by_cases a:((s[k]).toNat:Int)=47
   ·have M:Hid (Ey s.data.toList s.size=(k:Int)):=by
     show _=_;rw[←Z.out];unfold Ey;rw[b,aJ]
     congr 1
     apply gQ.1
     show(s[k]).toNat=47;omega
    go_wp2;go_ret;exact⟨R0 M.out.symm,iP⟩
   ·have M:Hid (Ey s.data.toList k=Ey s.data.toList s.size):=by
     show _=_;rw[←Z.out]
     conv=>rhs;unfold Ey
     rw[b,aL];intro e;injection e with e;rw[e]at a;exact a iP
    go_wp2;go_round
    case rel=>exact⟨k,Aa,by first|rfl|go_num,M⟩
    case measure=>first|(simp[intOf];done)|(simp[intOf];omega)
def U0(w)(s:hU)(b:s.size<=140737488355328):sf Y 202 #[x7 s,pq zi 47] w λe B=>e=xr (iL (Ey s.data.toList s.size))/\B=w:=by
 go_enter func202,ntmps202;go_wp2_with (go_at_call 217;apply(ME w s b).mono;rintro e H⟨rfl,rfl⟩);go_ret;exact⟨iP,iP⟩
def Ec(s:hU):hU:=if Ey s.data.toList s.size=0 then⟨#[47]⟩ else s.extract 0 (Ey s.data.toList s.size).toNat
def Xe(h:Eb s=tu):s.data.toList[0]?=ni 47/\0<s.size:=by
 unfold Eb at h;rw[aS,decide_eq_true_iff,beq_iff_eq,Lib.toList_data]at h;have ⟨C,J⟩:=h;refine⟨?_,Aa⟩;have:=aK (λl=>l[0]?) J;simpa using this
def Tt(w s)(b:s.size<=140737488355328)(O:Eb s=tu):sf Y 180 #[x7 s] w λe B=>e=xr (x7 (Ec s))/\B=w:=by
 have ⟨F,C⟩:=Xe O;have Q:=Tp _ F s.size C;have o:=(Wl s.data.toList s.size).2;have L:=Z (U0 w s b);have R:Hid (Ec s=if Ey s.data.toList s.size=0 then⟨#[47]⟩ else s.extract 0 (Ey s.data.toList s.size).toNat):=iP;obtain⟨i,V⟩:∃i,Ey s.data.toList s.size=(i:Int):=⟨(Ey s.data.toList s.size).toNat,Aa⟩;rw[V]at L R o;by_cases N:(i:Int)=0
 ·rw[aJ N]at R;go_enter func180,ntmps180;go_wp2_with (go_at_call 202;apply L.out.mono;rintro e H⟨rfl,rfl⟩);go_ret;exact⟨by rw[R.out];rfl,iP⟩
 ·rw[aL N]at R;go_enter func180,ntmps180;go_wp2_with (go_at_call 202;apply L.out.mono;rintro e H⟨rfl,rfl⟩);go_ret;exact⟨by rw[R.out];first|rfl|simp,iP⟩
def Tryz.ren189:iy:=⟨fun|125=>73|128=>134|129=>135|189=>210|215=>262|216=>247|257=>226|294=>241|295=>242|296=>243|297=>244|298=>245|299=>246|300=>248|301=>249|328=>259|329=>174|330=>175|331=>260|332=>261|343=>269|n=>n,fun|0=>0|3=>3|4=>4|5=>5|9=>9|28=>23|46=>71|51=>126|53=>123|131=>174|182=>193|183=>194|218=>242|222=>245|228=>270|229=>271|n=>n,λn=>n⟩
set_option maxRecDepth 100000 in
def Tryz.lays189:Go.Proofs.Lays.n189 Y Tryz.ren189:=
 {mixed:=Ab,
  f125:=func73.trans (aK ni Ab),
  f128:=func134.trans (aK ni Ab),
  f129:=func135.trans (aK ni Ab),
  f189:=func210.trans (aK ni Ab),
  f215:=func262.trans (aK ni Ab),
  f216:=func247.trans (aK ni Ab),
  f257:=func226.trans (aK ni Ab),
  f294:=func241.trans (aK ni Ab),
  f295:=func242.trans (aK ni Ab),
  f296:=func243.trans (aK ni Ab),
  f297:=func244.trans (aK ni Ab),
  f298:=func245.trans (aK ni Ab),
  f299:=func246.trans (aK ni Ab),
  f300:=func248.trans (aK ni Ab),
  f301:=func249.trans (aK ni Ab),
  f328:=func259.trans (aK ni Ab),
  f329:=func174.trans (aK ni Ab),
  f330:=func175.trans (aK ni Ab),
  f331:=func260.trans (aK ni Ab),
  f332:=func261.trans (aK ni Ab),
  f343:=func269.trans (aK ni Ab),
  t0:=vh,
  a0:=sq,
  z0:=ng,
  v0:=xh,
  t3:=ku,
  a3:=sj,
  z3:=vf,
  v3:=iq,
  t4:=zh,
  a4:=p9,
  z4:=xq,
  v4:=k9,
  t5:=xy,
  a5:=qp,
  z5:=xe,
  v5:=yp,
  t9:=qw,
  a9:=jw,
  z9:=mv,
  v9:=lx,
  t28:=underlying23,
  a28:=isAgg23,
  z28:=sizeOf23,
  v28:=zeroValue23,
  t46:=rz,
  a46:=mr,
  z46:=ie,
  v46:=xx,
  t51:=jd,
  a51:=wc,
  z51:=xf,
  v51:=oq,
  t53:=zg,
  a53:=bz2,
  z53:=zy,
  v53:=aa7,
  t131:=nh6,
  a131:=sd,
  z131:=tj,
  v131:=o8,
  t182:=ki,
  a182:=jj,
  z182:=wb0,
  v182:=r9,
  t183:=uq,
  a183:=ywa,
  z183:=mu,
  v183:=od,
  t218:=qm,
  a218:=yu,
  z218:=xu,
  v218:=ox,
  t222:=qh,
  a222:=oh,
  z222:=cek,
  v222:=mz,
  t228:=mf,
  a228:=mj,
  z228:=wo,
  v228:=ju,
  t229:=uk,
  a229:=ysg,
  z229:=gk,
  v229:=ub }
def Aaf(w g I V)(H:iB)(t)(G:w.1[g]?=ni (jf H t))(N:∀j (h:j<S V),H[j]?=ni (iL V[j]))(K:S V<=1000):sf qz 210 #[um (ni (iJ g)) (S V) I] w λe B=>e=xr (my #[])/\w.grownBy B (ni g)/\∀j (h:j<S V),B.cell? (iK g j)=ni (iL ((V.mergeSort λx y=>decide (x<=y))[j]'(by rw[eL];exact h))):=by
 have p:Go.Sort.Holds (pq yi) w g 0 V.toArray:=λj l=>by
  have P:j<S V:=by simpa using l
  rw[aY];refine⟨?_,Dr G⟩;rw[M G (N j P)];simp[P]
 apply(Any.slices_Sort_int Tryz.lays189 g 0 I V w p (ltOf G) Aa).mono;rintro e B⟨rfl,n,d,rfl⟩;refine⟨iP,⟨iP,iP,iP,?_,λk E f=>?_⟩,λj l=>?_⟩
 ·simp
 ·show((w.1.modify g _)++d)[k]?=_
  grind
 ·have D:(Go.Sort.grow (Go.Sort.putRow (pq yi) (Go.Sort.ahead w n) g 0 (V.mergeSort λx y=>decide (x<=y)).toArray) d).1[g]?=ni (jf (me (pq yi) 0 (V.mergeSort λx y=>decide (x<=y)).toArray H) t):=by
   show((w.1.modify g _)++d)[g]?=_;rw[dJ (by simpa using(ltOf G)),bS,aJ iP,G]
   rfl
  apply M D;have Y:=(aH.1 (N j l)).1;have b:j<(V.mergeSort λx y=>decide (x<=y)).length:=by rwa[eL]
  unfold me
  grind
end Go.Proofs.YtcbilgmfdgpomaaGreatDoor
namespace Orch
variable (f:gZ)
def GK(k:Nat)(t:Ty)(v:V)(bs:hQ):Prop:=∀out:hQ,S out+S bs<=1000->put f k out t v=ni (out++bs)
inductive Xi(k):List Ty->List V->hQ->Prop
 |nil:Xi k [] [] []
 |cons {t v b ts vs bs} (h:GK f k t v b) (r:Xi k ts vs bs):Xi k (t::ts) (v::vs) (b++bs)
def Ob{t v}(I:fits f t v=tu)(K:v.l = []):GK f (k+1) t v (head t v):=λa O=>by
 rw[put,aJ I,K,putE]
 grind
def Xi.len{L a W}(h:Xi f k L a W):iR a=iR L:=by
 induction h with
 |nil=>rfl
 |cons _ _ O=>simp[O]
def Xi.run{t}(P:t.l.shape≠2){L c W}(h:Xi f k L c W):∀pre,t.ps=pre++L->∀a:hQ,iR a+iR W<=1000->putE (put f k) t c (iR pre) a=ni (a++W):=by
 induction h with
 |nil=>intro pre _ a _;simp[putE]
 |@cons S v b L c W Q Y d=>
  intro pre B a O;rw[aM]at O;have E:part t (iR pre)=S:=by
   unfold part;rw[aL P,B];simp
  rw[putE,E,Q a Aa];have:=d (pre++[S]) (by rw[B];simp) (a++b) Aaz
  grind
def puts_rec{k l}(P:l.shape=3){b c W}(h:Xi f k b c W):GK f (k+1) (.mk l b) (.mk 0 iN c) W:=λa O=>by
 have I:fits f (.mk l b) (.mk 0 iN c)=tu:=by
  have C:(ByteArray.mk #[]).size=0:=iP;simp[fits,Ty.l,Ty.ps,V.n,V.s,V.l,P,h.len,C]
 have g:head (.mk l b) (.mk 0 iN c) = []:=by simp[head,Ty.l,P]
 rw[put,aJ I,g,bW];have:=h.run f (t:=.mk l b) (by show l.shape≠2;omega) [] iP a O
 show(match putE _ _ c 0 a with|none=>su|some o=>if S o<=1000 then ni o else su)=_
 grind
abbrev lq:Lt:=⟨63,0,1,0,1,o9,0⟩
abbrev l4:Lt:=⟨52,0,4,-2147483648,2147483647,o9,0⟩
abbrev l8:Lt:=⟨56,0,8,-9223372036854775808,9223372036854775807,o9,0⟩
abbrev lb:Lt:=⟨98,1,0,0,0,o9,0⟩
abbrev lt:Lt:=⟨116,1,0,0,0,tu,0⟩
abbrev lr:Lt:=⟨40,3,0,0,0,o9,41⟩
abbrev tq:Ty:=.mk lq []
abbrev t4:Ty:=.mk l4 []
abbrev t8:Ty:=.mk l8 []
abbrev tb:Ty:=.mk lb []
abbrev tt:Ty:=.mk lt []
abbrev num(n:Int):V:=.mk n ⟨#[]⟩ []
abbrev txt(s:hU):V:=.mk 0 s []
def puts_4{n}(C:-2147483648<=n)(J:n<=2147483647):GK f (k+1) t4 (num n) (be n 4):=by
 exact Dge
def puts_8{n}(C:-9223372036854775808<=n)(J:n<=9223372036854775807):GK f (k+1) t8 (num n) (be n 8):=by
 exact Dge
def puts_t{k}(C:s.size<=200)(J:f s=tu):GK f (k+1) tt (txt s) (be s.size 4++s.data.toList):=
 Ob f (by simp[fits,Ty.l,V.n,V.s,V.l,C,J]) iP
def parse_hello:K [40,52,41]=ni (.mk lr [t4]):=Ac
def parse_error:K [40,52,56,52,41]=ni (.mk lr [t4,t8,t4]):=Ac
def parse_event:K [40,52,56,52,52,116,41]=ni (.mk lr [t4,t8,t4,t4,tt]):=Ac
def parse_state:K [40,52,56,52,40,56,56,52,52,41,41]=ni (.mk lr [t4,t8,t4,.mk lr [t8,t8,t4,t4]]):=Ac
def puts_hello{n}(C:-2147483648<=n)(J:n<=2147483647):put f 9 [] (.mk lr [t4]) (.mk 0 iN [num n])=ni (be n 4):=by
 have:=puts_rec f (k:=8) (l:=lr) iP (.cons (puts_4 f C J) .nil) [] (by simp[be_length]);simpa using this
def puts_error{m z e}(o:-2147483648<=m)(i:m<=2147483647)(W:-9223372036854775808<=z)(T:z<=9223372036854775807)(g:-2147483648<=e)(A:e<=2147483647):put f 9 [] (.mk lr [t4,t8,t4]) (.mk 0 iN [num m,num z,num e])=ni (be m 4++be z 8++be e 4):=by
 have:=puts_rec f (k:=8) (l:=lr) iP (.cons (puts_4 f o i) (.cons (puts_8 f W T) (.cons (puts_4 f g A) .nil))) [] (by simp[be_length]);simpa using this
def puts_event{m z e}{d:hU}(o:-2147483648<=m)(i:m<=2147483647)(W:-9223372036854775808<=z)(T:z<=9223372036854775807)(g:-2147483648<=e)(A:e<=2147483647)(S:-2147483648<=x)(K:x<=2147483647)(Q:d.size<=200)(q:f d=tu):put f 9 [] (.mk lr [t4,t8,t4,t4,tt]) (.mk 0 iN [num m,num z,num e,num x,txt d])=ni (be m 4++be z 8++be e 4++be x 4++be d.size 4++d.data.toList):=by
 have y:iR d.data.toList=d.size:=iP;have:=puts_rec f (k:=8) (l:=lr) iP (.cons (puts_4 f o i) (.cons (puts_8 f W T) (.cons (puts_4 f g A) (.cons (puts_4 f S K) (.cons (puts_t f Q q) .nil))))) [] T5;simpa using this
def puts_path{m z e}{p:hU}(o:-2147483648<=m)(i:m<=2147483647)(W:-9223372036854775808<=z)(T:z<=9223372036854775807)(g:-2147483648<=e)(A:e<=2147483647)(Q:p.size<=200)(q:f p=tu):put f 9 [] (.mk lr [t4,t8,t4,tt]) (.mk 0 iN [num m,num z,num e,txt p])=ni (be m 4++be z 8++be e 4++be p.size 4++p.data.toList):=by
 have y:S p.data.toList=p.size:=iP;have:=puts_rec f (k:=8) (l:=lr) iP (.cons (puts_4 f o i) (.cons (puts_8 f W T) (.cons (puts_4 f g A) (.cons (puts_t f Q q) .nil)))) [] T5;simpa using this
def puts_state{m z e a b c d}(o:-2147483648<=m)(i:m<=2147483647)(W:-9223372036854775808<=z)(T:z<=9223372036854775807)(g:-2147483648<=e)(A:e<=2147483647)(h:-9223372036854775808<=a)(j:a<=9223372036854775807)(M:-9223372036854775808<=b)(D:b<=9223372036854775807)(n:-2147483648<=c)(x:c<=2147483647)(k:-2147483648<=d)(E:d<=2147483647):put f 9 [] (.mk lr [t4,t8,t4,.mk lr [t8,t8,t4,t4]]) (.mk 0 iN [num m,num z,num e,.mk 0 iN [num a,num b,num c,num d]])=ni (be m 4++be z 8++be e 4++be a 8++be b 8++be c 4++be d 4):=by
 have:=puts_rec f (l:=lr) iP (.cons (puts_4 f o i) (.cons (puts_8 f W T) (.cons (puts_4 f g A) (.cons (puts_rec f (k:=7) (l:=lr) iP (.cons (puts_8 f h j) (.cons (puts_8 f M D) (.cons (puts_4 f n x) (.cons (puts_4 f k E) .nil))))) .nil)))) [] (by simp[be_length]);simpa using this
end Orch
namespace Go.Proofs.YtcbilgmfdgpomaaGreatDoor
variable {P:Program}
open Go.RowKit Go.Maps
open Go.ChangeMaps (setBlock)
def LS{l}(z:(l.map (·.born)).Nodup){e:nd}(N:e∈l):(e::l.filter λx=>!(x.born==e.born)).Perm l:=by
 induction l with
 |nil=>cases N
 |cons y l O=>
  rw[bA,dS]at z;rcases bG.1 N with rfl|N
  ·have S:(e::l).filter (λx=>!(x.born==e.born))=l:=by
    simp_all
   rw[S]
  ·rw[List.filter_cons_of_pos (by simpa using(λh=>z.1 (aZ.2 ⟨e,N,h.symm⟩)))];exact(List.Perm.swap y e _).trans ((O z.2 N).cons y)
def YE{X b}(s:ny X b)(a){e}(N:e∈(yt X a).toList):(e::(yt X (a.push e.born)).toList).Perm (yt X a).toList:=by
 have S:(yt X (a.push e.born)).toList=(yt X a).toList.filter λx=>!(x.born==e.born):=by
  simp only[yt,eD,List.filter_filter]
  grind
 rw[S];refine LS ?_ N;have:((yt X a).toList.map (·.born)).Sublist (X.toList.map (·.born)):=by
  simp only[yt,eD];exact List.Sublist.map _ (List.filter_sublist)
 exact this.nodup s.2.1
structure Io(w:qg)(b r:Nat)(m R):Prop where
 ex:∃es clock since seen c0,w.1[b]?=ni (.map es clock)/\ny es clock/\es.toList.map kv=m/\w.1[r]?=ni (.mapIter (ni b) since seen c0)/\(∀x∈es.toList,x.born<since)/\(yt es seen).toList.map kv=R/\since<=c0/\since<=clock
section
variable {k a:mi} {w:I} {b r:Nat} {m R:List (u×u)}
def Bl.rangeL(h:Bl P k w b m)(R:P.underlying t=ni (.map k a)):∃o,(Instr.range t (.map (ni b))).run P w=.ok (iI w.1.size) (w.alloc o)/\Io (w.alloc o) b w.1.size m m:=by
 obtain⟨X,c,D,s,rfl⟩:=h.ex;refine⟨_,run_range_map w t k a b X c R D,⟨X,c,c,#[],c,(rm _ _ _ h.lt).trans D,s,iP,sx _ _,s.1,?_,aB _,aB _⟩⟩;simp only[yt,eD]
 congr 1
 simp
def Io.ne(h:Io w b r m R):r≠b:=by
 have ⟨X,a,c,d,c0,D,_,_,Y,_⟩:=h.ex
 grind
def Io.keep(h:Io w b r m R)(D:B.1[b]?=w.1[b]?)(Y:B.1[r]?=w.1[r]?):Io B b r m R:=by
 have ⟨X,a,c,d,c0,C,J,T,q,z⟩:=h.ex;exact⟨X,a,c,d,c0,by rwa[D],J,T,by rwa[Y],z⟩
def Io.next(h:Io w b r m R)(I):(R = []/\(Instr.next (iI r) o9 I).run P w=.ok (my #[vp o9]) w) ∨
  ∃p z,(p::z).Perm R/\∃B,(Instr.next (iI r) o9 I).run P w=.ok (my #[vp tu,p.1,p.2]) B/\Io B b r m z/\w.grownBy B (ni r)/\iS B.1=iS w.1/\∀x:qg,x.1[b]?=B.1[b]?->x.1[r]?=B.1[r]?->(Instr.entry (iI r)).run P x=.ok (my #[p.1,p.2]) x:=by
 obtain⟨X,d,e,c,c0,D,t,rfl,Y,f,rfl,u,l⟩:=h.ex;rcases run_next_at (P:=P) w I r b e c0 c X d Y D f u with⟨F,s⟩|⟨a,N,H,C,s⟩
 ·grind
 ·obtain⟨n,L⟩:=mem_left N;have G:(setBlock H r (.mapIter (ni b) e (c.push a.born) d)).1[r]?=ni (.mapIter (ni b) e (c.push a.born) d):=aQ (aH.1 (by rcases C with rfl|rfl<;>exact Y)).1;have J:∀i,i≠r->(setBlock H r (.mapIter (ni b) e (c.push a.born) d)).1[i]?=H.1[i]?:=λi V=>aE (λS=>V S.symm);have o:=(J b (λS=>h.ne S.symm)).trans (by rcases C with rfl|rfl<;>exact D);refine Or.inr ⟨kv a,(yt X (c.push a.born)).toList.map kv,(YE t c N).map kv,_,s,⟨X,d,e,c.push a.born,d,o,t,iP,G,f,iP,l,l⟩,?_,?_,λx E v=>run_entry_at _ r b e c X d a (v.trans G) (E.trans o) n t.2.1⟩
  ·rcases C with rfl|rfl<;>exact⟨iP,iP,iP,by simp[setBlock],λi _ V=>J i (λS=>V (by rw[S]))⟩
  ·rcases C with rfl|rfl<;>simp[setBlock]
end
def Nu(w:qg)(a S)(F:a≠[])(cs:iB)(f:cs.toList=a.flatMap Eo)(I n)(z:n=iR a)(l)(K:l=a.map wv)(H:S w.1.size)(Y:∀p,p∈a->D9 (w.alloc (jf cs I)) S p.1.l p.2):D9 (w.alloc (jf cs I)) S l (um (ni (iJ w.1.size)) n n):=by
 subst z K;refine .row a _ _ F (aB _) H (λj u b=>?_) Y;rw[←f]at b;exact M (sx w _) (by simpa using b)
def Fr(base:Nat)(w':I)(e:Ending)(body:hQ):Prop:=∃ov,e=xr ov/\w'.ownsRow base 5 1 ov (Orch.be (S body) 4++body).length (A5 (Orch.be (S body) 4++body))
def Fr.low{b a e}(h:Fr b B e body)(D:a<=b):Fr a B e body:=by
 obtain⟨t,rfl,O⟩:=h;refine⟨t,iP,O.1,?_⟩;rcases O.2 with h|⟨g,I,H,C,J,T⟩
 ·exact Or.inl h
 ·exact Or.inr ⟨g,I,H,C,aF D J,T⟩
section
variable {z:gZ} {F:iA}
def XZ(U:Im z F)(w)(V:F w)(c:Table w)(n)(C:-2147483648<=n)(J:n<=2147483647):sf Y 116 #[iL n] w λe B=>Fr w.1.size B e (Orch.be n 4)/\iM w B:=by
 have R:Hid (sf Y 125 #[x7 ⟨#[40,52,41]⟩,um (ni (iJ w.1.size)) 1 1] (w.alloc (jf #[iL n,x7 iN,um su 0 0] 183)) λe B=>Fr w.1.size B e (Orch.be n 4)/\iM w B):=by
  refine(Qu U _ (U.kept (U.size V) (Be w _) V) (c.below (Be w _) c.pos) ⟨#[40,52,41]⟩ [Orch.num n] (λb=>b<(w.alloc (jf #[iL n,x7 iN,um su 0 0] 183)).1.size) _ (Nu w [(Orch.num n,um su 0 0)] _ Ad _ Aq 183 1 iP _ iP Ad ?_) (λ_ h=>h) _ Orch.parse_hello _ (Orch.puts_hello z C J) Ao Ao).mono ?_
  ·intro p Q;simp at Q;subst Q;exact .nil su 0
  ·rintro e B⟨h,D⟩;exact⟨Fr.low h Ad,(Be w _).trans (D.mono Ad)⟩
 go_enter func116,ntmps116;exact Br4
abbrev J7(kind mark:Int)(p d n:hU)(ver:Int)(wt:Bool):u:=h9 #[iL kind,iL mark,x7 p,x7 d,x7 n,iL ver,vp wt]
abbrev A7(kind mark:Int)(p d n:hU)(ver:Int)(wt:Bool):Array u:=#[iL kind,iL mark,x7 p,x7 d,x7 n,iL ver,vp wt]
def XK(U:Im z F)(w)(V:F w)(c:Table w)(kind m p d n K a W e)(o:-2147483648<=m)(i:m<=2147483647)(f:-9223372036854775808<=W)(T:W<=9223372036854775807)(g:-2147483648<=e)(A:e<=2147483647):sf Y 187 #[J7 kind m p d n K a,iL W,iL e] w λx B=>Fr w.1.size B x (Orch.be m 4++Orch.be W 8++Orch.be e 4)/\iM w B:=by
 have R:Hid (sf Y 125 #[x7 ⟨#[40,52,56,52,41]⟩,um (ni ⟨iS w.1+1,0,su⟩) 3 3] ((w.alloc (jf (A7 kind m p d n K a) 131)).alloc (jf #[iL m,x7 iN,um su 0 0,iL W,x7 iN,um su 0 0,iL e,x7 iN,um su 0 0] 183)) λx B=>Fr w.1.size B x (Orch.be m 4++Orch.be W 8++Orch.be e 4)/\iM w B):=by
  have S:iM w ((w.alloc (jf (A7 kind m p d n K a) 131)).alloc (jf #[iL m,x7 iN,um su 0 0,iL W,x7 iN,um su 0 0,iL e,x7 iN,um su 0 0] 183)):=(Be w _).alloc Ad _;have q:=Nu (w.alloc (jf (A7 kind m p d n K a) 131)) [(Orch.num m,um su 0 0),(Orch.num W,um su 0 0),(Orch.num e,um su 0 0)] (λb=>b<iS w.1+2) Ad #[iL m,x7 iN,um su 0 0,iL W,x7 iN,um su 0 0,iL e,x7 iN,um su 0 0] Aq 183 3 iP _ iP Ad (by
   intro p Q;simp at Q;rcases Q with rfl|rfl|rfl<;>exact .nil su 0)
  rw[show(w.alloc (jf (A7 kind m p d n K a) 131)).1.size=iS w.1+1 by simp]at q;apply(Qu U _ (U.kept (U.size V) S V) (c.below S c.pos) ⟨#[40,52,56,52,41]⟩ _ _ _ q (λb h=>HI) _ Orch.parse_error _ (Orch.puts_error z o i f T g A) Ao Ao).mono;rintro e B⟨h,D⟩;exact⟨Fr.low h Ah,S.trans (D.mono Ah)⟩
 go_enter func187,ntmps187;exact Tax
def XN(U:Im z F)(w)(V:F w)(c:Table w)(W x)(p:hU)(a:-9223372036854775808<=W)(T:W<=9223372036854775807)(S:-2147483648<=x)(K:x<=2147483647)(f:p.size<=200)(q:z p=tu):sf Y 192 #[iL W,iL x,x7 p] w λy B=>Fr w.1.size B y (Orch.be (-1) 4++Orch.be W 8++Orch.be 0 4++Orch.be x 4++Orch.be p.size 4++p.data.toList)/\iM w B:=by
 have R:Hid (sf Y 125 #[x7 ⟨#[40,52,56,52,52,116,41]⟩,um (ni (iJ w.1.size)) 5 5] (w.alloc (jf #[iL (-1),x7 iN,um su 0 0,iL W,x7 iN,um su 0 0,iL 0,x7 iN,um su 0 0,iL x,x7 iN,um su 0 0,iL 0,x7 p,um su 0 0] 183)) λy B=>Fr w.1.size B y (Orch.be (-1) 4++Orch.be W 8++Orch.be 0 4++Orch.be x 4++Orch.be p.size 4++p.data.toList)/\iM w B):=by
  have aj:iR p.data.toList=p.size:=iP;have l:=Nu w [(Orch.num (-1),um su 0 0),(Orch.num W,um su 0 0),(Orch.num 0,um su 0 0),(Orch.num x,um su 0 0),(Orch.txt p,um su 0 0)] (λb=>b<iS w.1+1) Ad #[iL (-1),x7 iN,um su 0 0,iL W,x7 iN,um su 0 0,iL 0,x7 iN,um su 0 0,iL x,x7 iN,um su 0 0,iL 0,x7 p,um su 0 0] Aq 183 5 iP _ iP Ad (by
   intro p f;simp at f;rcases f with rfl|rfl|rfl|rfl|rfl<;>exact .nil su 0)
  apply(Qu U _ (U.kept (U.size V) (Be w _) V) (c.below (Be w _) c.pos) ⟨#[40,52,56,52,52,116,41]⟩ _ _ _ l (λb h=>HI) _ Orch.parse_event _ (Orch.puts_event z Aa Aa a T Aa Aa S K f q) D2 HA).mono;rintro e B⟨h,D⟩;exact⟨Fr.low h Ad,(Be w _).trans (D.mono Ad)⟩
 go_enter func192,ntmps192;exact Br4
end
attribute [local go_sem ↓] Go.wp_at_zero Go.wp_at_succ
def Xf{g o a w}{K:Act->I->Prop}{Q:Exit->Act->I->Prop}{E}(H:o.guard=su)(s x t)(O:o.op=.call { callee:=.builtin .append,args:=#[s,x],argTypes:=#[t,t] })(v u)(f:a.eval s=v)(Z:a.eval x=u)(F:iH)(Y:∃U B,(o7 #[t,t] o.type #[v,u]).run P w=.ok U B/\F U B)(h:∀U B,F U B->K (a.put o.dst U) B):if Region.wanted o (yielded g a.tmps)=tu then Oper.wp P o a w K Q else E:=by
 rw[aJ (by simp[Region.wanted,H])];have ⟨U,B,Y,hF⟩:=Y;unfold Oper.wp execOp;simp only[O,resolve,invoke,builtin,Sem.run_bind,Sem.run_pure,Result.andThen_ok,cK,bA,cO,f,Z,Y];exact h _ _ hF
inductive Ed(W0):qg->Prop
 |refl:Ed W0 W0
 |step {W:qg} (h:Ed W0 W):Ed W0 W.drew
def Ed.heap{b}(h:Ed b W):W.1=b.heap:=by
 induction h with
 |refl=>rfl
 |step h O=>exact O
def Ta(w:I)(kind m:Int)(p d n:hU)(ver:Int)(wt:Bool)(z:Int):I:=(w.alloc (jf #[iL kind,iL m,x7 p,x7 d,x7 n,iL ver,vp wt] 131)).alloc (jf #[iL m,x7 iN,um su 0 0,iL z,x7 iN,um su 0 0,iL 0,x7 iN,um su 0 0] 183)
def Abj(w)(kind:Nat)(m p d n K a W)(E:kind<8)(O:hU)(Z:iE)(h N)(R:Option Addr->Nat->Nat->I->Prop)(T:iH)(s:w.cell? ⟨3,kind * 3+1,su⟩=ni (x7 O))(r:3<iS w.1)(X:Hid (∀e,Ed (Ta w kind m p d n K a W) e->∃U P,(o7 #[177,177] 177 #[um (ni ⟨iS w.1+1,0,su⟩) 3 3,um Z h N]).run Y e=.ok U P/\∃b i c,U=um b i c/\P.cell? (iJ w.1.size)=ni (iL kind)/\P.cell? ⟨3,kind * 3+1,su⟩=ni (x7 O)/\Hid (R b i c P)))(k:Hid (∀b i c P,R b i c P->∀e,Ed P e->sf Y 125 #[x7 O,um b i c] e λf B=>∃t,f=xr t/\Hid (T t B))):sf Y 171 #[iL 1,J7 kind m p d n K a,iL W,um Z h N] w λf B=>∃t,f=xr t/\T t B:=by
 have D:(Ta w kind m p d n K a W).cell? ⟨3,kind * 3+1,su⟩=ni (x7 O):=by
  unfold Ta;rwa[fyu _ _ _ Ah,fyu _ _ _ (by simpa using r)]
 have u:(Ta w kind m p d n K a W).cell? (iJ w.1.size)=ni (iL kind):=by
  unfold Ta;rw[fyu _ _ _ Ad];exact M (sx w _) iP
 have v:(kind:Int)<8:=Aa;go_enter func171,ntmps171;go_wp2;rw[show(w.alloc (jf #[iL kind,iL m,x7 p,x7 d,x7 n,iL K,vp a] 131)).alloc (jf #[iL m,x7 iN,um su 0 0,iL W,x7 iN,um su 0 0,iL 0,x7 iN,um su 0 0] 183)=Ta w kind m p d n K a W from iP];generalize Ta w kind m p d n K a W=g at *;go_region_law (first
  |(apply Xf iP (.tmp 23) (.tmp 24) 177 Ac (um (ni ⟨iS w.1+1,0,su⟩) 3 3) (um Z h N) Ac Ac _ (X.out _ (by(first|exact Ed.refl|exact Ed.step Ed.refl|exact Ed.step (Ed.step Ed.refl)|exact Ed.step (Ed.step (Ed.step Ed.refl))|exact Ed.step (Ed.step (Ed.step (Ed.step Ed.refl))))));rintro _ P⟨b,i,c,rfl,Q,l,q⟩)
  |(go_simp;apply(k.out b i c P q.out _ (by(first|exact Ed.refl|exact Ed.step Ed.refl|exact Ed.step (Ed.step Ed.refl)|exact Ed.step (Ed.step (Ed.step Ed.refl))|exact Ed.step (Ed.step (Ed.step (Ed.step Ed.refl)))))).mono;rintro f B⟨t,rfl,o⟩))
 all_goals (go_wp2;go_ret;exact⟨_,iP,o.out⟩)
def Ed.under{b}(h:Ed b W){B a}(D:ri B a b):ri B a W:=by
 induction h with
 |refl=>exact D
 |step h O=>exact O.drew
theorem Ed.cell{b:qg}(h:Ed b W)(a:Addr):W.cell? a=b.cell? a:=by unfold World.cell?;rw[h.heap]
section
variable {z:gZ} {F:iA}
abbrev Ahf(m z:Int):List (Orch.V×u):=[(Orch.num m,um su 0 0),(Orch.num z,um su 0 0),(Orch.num 0,um su 0 0)]
theorem PW(U:Im z F)(w:qg)(V:F w)(y:Table w)(kind:Nat)(hk:kind<8)(m:Int)(p d n:hU)(K:Int)(c:Bool)(W:Int)(O:hU)(i:w.cell? ⟨3,kind * 3+1,su⟩=ni (x7 O))(T:3<w.heap.size)(l:List Orch.V)(lv:w8)(am:l = []->lv=um su 0 0)(an:l.length<=100)(E:D9 w (λb=>b<w.heap.size) l lv)(o:Orch.Ty)(hp:Orch.parse O.data.toList=ni o)(body:hQ)(f:Orch.put z 9 [] o (.mk 0 ⟨#[]⟩ ([Orch.num m,Orch.num W,Orch.num 0]++l))=ni body)(h0:0<body.length)(hl:body.length<=1000) :
  sf qz 171 #[pq yi 1,J7 kind m p d n K c,pq yi W,lv] w λe B=>Fr w.heap.size B e body/\ri w.heap.size w B:=by
 obtain⟨ma,G,ag⟩:=E.shape;have H:ri w.heap.size w (Ta w kind m p d n K c W):=(Be w _).alloc Ad _;have C:(Ta w kind m p d n K c W).heap.size=w.heap.size+2:=by simp[Ta]
 have hg:(Ta w kind m p d n K c W).heap[w.heap.size+1]? = ni (jf #[pq yi m,x7 ⟨#[]⟩,um su 0 0,pq yi W,x7 ⟨#[]⟩,um su 0 0,pq yi 0,x7 ⟨#[]⟩,um su 0 0] 183):=by
  have:=sx (w.alloc (jf #[pq yi kind,pq yi m,x7 p,x7 d,x7 n,pq yi K,vp c] 131)) (jf #[pq yi m,x7 ⟨#[]⟩,um su 0 0,pq yi W,x7 ⟨#[]⟩,um su 0 0,pq yi 0,x7 ⟨#[]⟩,um su 0 0] 183);simpa[Ta] using this
 have L:(Ta w kind m p d n K c W).cell? ⟨w.heap.size,0,su⟩=ni (pq yi kind):=by
  unfold Ta;simp
 obtain⟨Q,S,a6,aq,ar⟩:=info_parts Tryz.info183;have X:=underlying177;generalize af:l.length=ln at ag an;subst ag;generalize hA:Ta w kind m p d n K c W=W0 at *;refine(Abj w kind m p d n K c W hk O ma ln G (λv Y x P=>D9 P (λb=>b<P.heap.size) ([Orch.num m,Orch.num W,Orch.num 0]++l) (um v Y x)/\ri w.heap.size w P) (λt B=>Fr w.heap.size B (xr t) body/\ri w.heap.size w B) i T ?_ ?_).mono ?_
 ·rw[hA];intro a k;have R:=k.heap;have N:=k.under H;cases E with
  | nil=>
   have e:=am rfl;cases e;refine⟨_,a,run_append_nothing a 177 177 177 183 Q X S _ 3 3 (aB _) _ (Src.ofNil a X 0),_,_,_,rfl,(k.cell _).trans L,(k.cell _).trans ((H.cell (p:=⟨3,kind * 3+1,su⟩) T).trans i),?_,N⟩;refine .row (Ahf m W) _ _ Ad (aB _) (by rw[R,C];omega) (λj u I=>((k.cell _).trans (cellOf hg (by simpa[Eo,Orch.V.n,Orch.V.s] using I)))) (λq f=>?_)
   ·simp at f;rcases f with rfl|rfl|rfl <;> exact .nil su 0
  | row ps g ai ao aj hS hc Z=>
   have ah:a.ownsRow w.heap.size 183 3 (um (ni ⟨w.heap.size+1,0,su⟩) 3 3) 3 ((Ahf m W).flatMap Eo):=
    ⟨rfl,.inr ⟨w.heap.size+1,3,_,rfl,Aa,by rwa[R],Aa,Pc,Ac,Ac⟩⟩
   obtain⟨g',a7,P,s,h,ad,ak,a8⟩:=run_append_lies (P:=qz) a 177 177 w.heap.size 183 Q _ 3 _ X S a6 aq ar rfl Ae _ 3 _ ah ⟨g,0,su⟩ ps.length G (ps.flatMap Eo) (Acr Eo 3 (λ_=>rfl) ps)
    (λj u I=>by
     have:Addr.add ⟨g,0,su⟩ j=⟨g,j,su⟩:=by cases j <;> simp[Addr.add]
     rw[this];exact(N.cell (p:=⟨g,j,su⟩) hS).trans (hc j u I))
    (λu r=>by
     obtain⟨q,f,r⟩:=List.mem_flatMap.1 r;have:=Z q f;obtain⟨v,x,e⟩:=this.shape;simp only[Eo,bG,eH,or_false]at r;rcases r with rfl|rfl|rfl
     ·rfl
     ·rfl
     ·rw[e];rfl)
    (eV.2 ao) Pc Aa N.size _ rfl
   have A:ri w.heap.size w P:=N.grown ad (by rw[R,C];omega) (λj I=>by simp[yf]at I;omega);refine⟨_,P,s,_,_,_,rfl,?_,((A.cell (p:=⟨3,kind * 3+1,su⟩) T).trans i),?_,A⟩
   ·rw[o2 (w:=a) (ad.block _ (by rw[R,C];show w.heap.size<_;omega) (λe=>by simp[yf]at e))];exact(k.cell _).trans L
   ·have aa:∀j u,((Ahf m W++ps).flatMap Eo)[j]? = ni u->P.cell? ⟨g',j,su⟩=ni u:=λj u I=>by
     rw[List.flatMap_append]at I;rcases h.2 with⟨e,_⟩|⟨g2,ab,ae,e,_,J,al,h4,h5,h6⟩
     ·cases e
     ·cases e;rw[←h6,eK]at I;split at I
      ·exact cellOf J (by simpa using I)
      ·cases I
    have:=D9.row (w:=P) (S:=λb=>b<P.heap.size) (Ahf m W++ps) g' a7 Ad (by
      rcases h.2 with⟨e,_⟩|⟨g2,ab,ae,e,_,J,al,h4,h5,h6⟩
      ·cases e
      ·cases e;simp;omega) a8 aa (λq f=>by
      rcases bX.1 f with f|f
      ·simp at f;rcases f with rfl|rfl|rfl <;> exact .nil su 0
      ·exact(Z q f).congr (λb D=>aC D A.size) (λb D=>A.block b D))
    simp only[aM,cP]at this;exact this
 ·intro v Y x P hR a k;have M:=k.under hR.2;refine(Qu U a (U.kept (U.size V) M V) (y.below M y.pos) O _ (λb=>b<a.heap.size) _ (hR.1.congr (λb a1=>by rwa[k.heap]) (λb _=>by rw[k.heap])) (λ_ a1=>a1) o hp body f h0 hl).mono ?_;rintro e B⟨⟨t,rfl,h⟩,D⟩;exact⟨t,rfl,Fr.low ⟨t,rfl,h⟩ M.size,M.trans (D.mono M.size)⟩
 grind
end
end Go.Proofs.YtcbilgmfdgpomaaGreatDoor
namespace Go.Proofs.YtcbilgmfdgpomaaGreatDoor
variable {P:Program}
open Go.RowKit
def An8(w)(R:hU)(L:iE)(T k)(h c P:Nat)(s V K)(u:Nat)(q:Option Addr->Nat->Nat->I->Prop)(r:I->Option Addr->Nat->Nat->I->Prop)(g:Hid (sf qz 141 #[x7 R] w λe B=>(∃p m n,e=xr (my #[Il h c P s V K u (um p m n),vp tu])/\q p m n B)/\iM w B))(d:Hid (∀S W p m n,q p m n S->iM S W->iM w W->sf qz 147 #[Il h c P s V K u (um p m n),um L T k] W λe B=>(∃b l a i j,e=xr (my #[vv b l (um a i j),vp tu])/\r W a i j B)/\iM W B)):sf qz 118 #[x7 R,um L T k] w λe B=>(∃a i j W J,e=xr (my #[um a i j,vp tu])/\r W a i j J/\iM J B/\iS w.1<=iS W.1)/\iM w B:=by
 go_enter func118,ntmps118;go_wp2_with (first
  |(go_at_call 141;apply g.out.mono;rintro e H⟨⟨p,m,n,rfl,f⟩,M⟩;have o:=Z f;have O:=Z M;clear M f)
  |(go_at_call 147;apply(d.out H _ p m n o.out (Be _ _) (O.out.alloc O.out.size _)).mono;rintro e E⟨⟨b,l,a,i,j,rfl,Y⟩,D⟩;have x:=Z Y;have C:=Z ((O.out.alloc O.out.size _).trans (D.mono HH));clear D Y))
 go_ret2;exact⟨⟨_,_,_,_,_,iP,x.out,Be _ _,HH⟩,C.out.alloc C.out.size _⟩
section
variable {z:gZ} {F:iA}
def Tg(U:Im z F)(w)(V:F w)(A:Table w)(R:hU)(t)(Q:Orch.parse R.data.toList=ni t)(T)(l:hQ)(K:S l<=1000)(u:J8 w T l)(v)(y:Vt z t l=ni v):sf qz 118 #[x7 R,T] w λe a=>(∃k,e=xr (my #[k,vp tu])/\D9 a (λb=>iS w.1<=b/\b<iS a.1) v.l k)/\iM w a:=by
 have d:=u;obtain⟨b,off,r,rfl,C,Y,D⟩:=u;have M:=Rz w R A;rw[Q]at M;refine(An8 w R _ _ _ t.l.sign.toNat t.l.shape t.l.size t.l.least t.l.5 t.l.text t.l.fin.toNat (λp m n a=>Fc a (λb=>b<iS a.1) t.ps (um p m n)) (λW c i j a=>D9 a (λb=>iS W.1<=b/\b<iS a.1) v.l (um c i j)) (M.mono ?_) (λS W p m n Z N x=>?_)).mono ?_
 ·exact X9u
 ·have:=Afy U W (U.kept (U.size V) x V) t (Vc Q) (λb=>b<iS W.1) _ (Z.congr (λb h=>aC h N.size) (λb D=>N.block b D)) (λ_ h=>h) _ l Aa (d.below x (aB _));rw[y]at this;apply this.mono;rintro e a⟨⟨k,rfl,O⟩,D⟩;obtain⟨c,B,rfl⟩:=CE.shape O;exact⟨⟨_,_,_,_,_,iP,CE.vs O⟩,D⟩
 ·rintro e a⟨⟨c,i,j,W,J,rfl,q,g,s⟩,D⟩;exact⟨⟨_,iP,q.congr (λb D=>⟨aF s D.1,aC D.2 g.size⟩) (λb D=>g.block b D.2)⟩,D⟩
theorem BZ{w:qg}{S:hY}{v:Orch.V}{a:List Orch.V}{d:w8}(h:D9 w S (v :: a) d) :
  ∃g I,d=um (ni (iJ g)) (a.length+1) I/\a.length+1<=I/\S g/\∀j (x:Orch.V),(v :: a)[j]? = ni x->w.cell? ⟨g,j * 3,su⟩=ni (iL x.n)/\w.cell? ⟨g,j * 3+1,su⟩=ni (x7 x.s):=by
 generalize f:v :: a=L at h;cases h with
 | nil=>cases f
 | row c g I F C H M Y=>
  have b:c.length=a.length+1:=by have:=aK List.length f;simpa using this.symm
  refine⟨g,I,by rw[b],Aa,H,λj x Z=>?_⟩;rw[aT]at Z;cases Q:c[j]? with
  | none=>grind
  | some q=>
   rw[Q]at Z;simp only[aI,aW]at Z;subst Z;refine⟨M _ _ ?_,M _ _ ?_⟩
   ·have:=Us Eo 3 (λ_=>rfl) c j 0 Aa;rw[Nat.add_zero]at this;rw[this,Q];rfl
   ·have:=Us Eo 3 (λ_=>rfl) c j 1 Aa;rw[this,Q];rfl
def CZ(U:Im z F)(w)(V:F w)(d:Table w)(T)(l:hQ)(K:S l<=1000)(u:J8 w T l)(n)(y:Vt z (.mk Orch.lr [Orch.t4]) l=ni (.mk 0 iN [Orch.num n])):sf qz 115 #[T] w λe B=>e=xr (my #[iL n,vp tu])/\iM w B:=by
 have I:=Tg U w V d ⟨#[40,52,41]⟩ _ Orch.parse_hello T l K u _ y;obtain⟨b,off,f,rfl,C,Y,D⟩:=u;have r:Hid (sf qz 118 #[x7 ⟨#[40,52,41]⟩,um (ni (iK b off)) (S l) f] w λe B=>∃g c,e=xr (my #[um (ni (iJ g)) 1 c,vp tu])/\B.cell? (iJ g)=ni (iL n)/\iM w B):=I.mono (by
  rintro e B⟨⟨i,rfl,q⟩,a⟩;obtain⟨g,c,rfl,_,_,M⟩:=BZ q;exact⟨g,c,iP,(M 0 _ iP).1,a⟩)
 clear I D y;go_enter func115,ntmps115;go_wp2_with (go_at_call 118;apply r.out.mono;rintro e H⟨g,c,rfl,c0,a⟩;have h:=Z a;clear a);go_ret2;exact⟨iP,h.out⟩
def Ve(w T)(l:hQ)(q:4<=S l)(K:S l<=1000)(u:J8 w T l)(k)(E:Orch.sgn (l.take 4)=k)(a:1<=k)(M:k<=7):sf qz 117 #[T] w λe B=>e=xr (my #[iL k,vp tu])/\B=w:=by
 obtain⟨b,off,I,rfl,C,Y,D⟩:=u;have V:Hid (sf qz 158 #[um (ni (iK b off)) 4 I] w λe B=>e=xr (iL k)/\B=w):=by
  have:=BN w b off I _ Aj (D.take (n:=4))
  rwa[E]at this
 exact T4d
end
attribute [local go_sem ↓] Go.wp_at_zero Go.wp_at_succ
structure B8(w w':qg)(g:Nat)(cs:iB)(t):Prop where
 blk:w'.1[g]?=ni (jf cs t)
 grown:w.grownBy w' (ni g)
def B8.refl{w}{cs:iB}(h:w.1[g]?=ni (jf cs t)):B8 w w g cs t:=⟨h,⟨iP,iP,iP,aB _,λ_ _ _=>rfl⟩⟩
def B8.set{w cs}(h:B8 w B g cs t)(j v):B8 w (B.setCell (iK g j) v) g (cs.setIfInBounds j v) t:=
 ⟨heap_setCell_same _ _ _ _ _ _ h.blk,h.grown.os,h.grown.tape,h.grown.output,by simp only[World.setCell];split<;>simp[h.grown.size],λk E f=>(mg _ _ _ _ (λe=>f (by rw[e]))).trans (h.grown.block k E f)⟩
def B8.drew{w cs}(h:B8 w B g cs t):B8 w B.drew g cs t:=⟨h.blk,h.grown.os,h.grown.tape,h.grown.output,h.grown.size,h.grown.block⟩
def LP(w)(P m g off I:Nat)(N)(p v:hU)(Y:w.1[P]?=ni (jf (A7 1 N iN iN iN 0 o9) 131))(C:w.cell? ⟨g,off+1,su⟩=ni (x7 p))(J:w.cell? ⟨g,off+4,su⟩=ni (x7 v))(f:g≠P):sf qz 119 #[iI P,um (ni (iK g off)) 2 I] w λe B=>e=xr (my #[])/\B8 w B P (A7 1 N p v iN 0 o9) 131:=by
 have ⟨c0,_,R,U⟩:=Ake Y iP;have ⟨_,_,K,f3,_⟩:=Iv Y;have z:=hide Y;clear Y;have Z:=hide (((B8.refl z.out).set 2 (x7 p)).set 3 (x7 v));exact Dfh
def LQ(w)(P m g off I:Nat)(N)(p:hU)(v)(Y:w.1[P]?=ni (jf (A7 2 N iN iN iN 0 o9) 131))(C:w.cell? ⟨g,off+1,su⟩=ni (x7 p))(J:w.cell? ⟨g,off+3,su⟩=ni (iL v))(f:g≠P):sf qz 119 #[iI P,um (ni (iK g off)) 2 I] w λe B=>e=xr (my #[])/\B8 w B P (A7 2 N p iN iN v o9) 131:=by
 have ⟨c0,_,R,_,_,l⟩:=My Y iP;have ⟨_,_,K,_,_,c,_⟩:=Iv Y;have z:=hide Y;clear Y;have Z:=hide (((B8.refl z.out).set 2 (x7 p)).set 5 (iL v));exact Dfh
def Acj(w)(P m g off I:Nat)(N)(p d:hU)(v)(Y:w.1[P]?=ni (jf (A7 3 N iN iN iN 0 o9) 131))(C:w.cell? ⟨g,off+1,su⟩=ni (x7 p))(J:w.cell? ⟨g,off+4,su⟩=ni (x7 d))(T:w.cell? ⟨g,off+6,su⟩=ni (iL v))(f:g≠P):sf qz 119 #[iI P,um (ni (iK g off)) 3 I] w λe B=>e=xr (my #[])/\B8 w B P (A7 3 N p d iN v o9) 131:=by
 have ⟨c0,_,R,U,_,l⟩:=My Y iP;have ⟨_,_,K,f3,_,c,_⟩:=Iv Y;have z:=hide Y;clear Y;have Z:=hide ((((B8.refl z.out).set 2 (x7 p)).set 3 (x7 d)).set 5 (iL v));exact Dfh
end Go.Proofs.YtcbilgmfdgpomaaGreatDoor
namespace Go.Proofs.YtcbilgmfdgpomaaGreatDoor
variable {P:Program}
open Go.RowKit
def Aid{E Z:I}{o}{cs d:iB}{S}(R:B8 (E.alloc o) Z E.1.size cs t)(h:E.1[k]?=ni (jf d S)):Z.1[k]?=ni (jf d S):=by
 have a:=ltOf h
 rwa[R.grown.block k Ah Ah,rm _ _ _ a]
def Aji(w)(kind:Nat)(h8:kind<8)(L:iE)(T k u)(h2:2<=u)(O:hU)(a)(D:¬a<0)(p f S K n)(j:Nat->Nat->qg->Prop)(s:w.cell? ⟨0,kind * 3+1,su⟩=ni (x7 O))(F:0<iS w.1)(N:Hid (∀W,iM w W->sf Y 117 #[um L T k] W λe B=>e=xr (my #[iL kind,vp tu])/\B=W))(r:Hid (∀W,iM w W->sf Y 118 #[x7 O,um L T k] W λe B=>∃g c,e=xr (my #[um (ni (iJ g)) u c,vp tu])/\u<=c/\B.cell? (iK g 3)=ni (iL a)/\Hid (j g c B/\g<iS B.1/\iM W B)))(m:Hid (∀g c J o,j g c J->g<iS J.1->(4<=u->o=um (ni (iK g 6)) (u - 2) (c - 2))->∀b,iM J b->b.1[iS J.1]?=ni (jf (A7 kind a iN iN iN 0 o9) 131) ->
   sf Y 119 #[iI J.1.size,o] b λe B=>e=xr (my #[])/\B8 b B J.1.size (A7 kind a p f S K n) 131)):sf Y 67 #[iL 1,um L T k] w λe B=>e=xr (my #[J7 kind a p f S K n,vp tu])/\iM w B:=by
 refine R3h λX=>?_;refine U16 λV d=>?_;have G:(1:Int)<(u:Int):=Aa;have H:(2:Int)<=(u:Int):=Aa;clear s;go_enter func67,ntmps67;go_wp2_with (first
  |(go_at_call 117;apply(N.out _ (Be _ _)).mono;rintro e w1⟨rfl,rfl⟩)
  |(go_at_call 118;apply(r.out _ (Be _ _)).mono;rintro e E⟨g,c,rfl,M,U,z⟩;have I:(2:Int)<=(c:Int):=Aa;have C:=hide ((Be _ _).trans (z.out.2.2.mono Ad));have q:=hide ((z.out.2.2.block _ (ltOf X.out)).trans X.out)))
 all_goals
  apply(m.out g c E _ z.out.1 z.out.2.1 (λa1=>by first|rfl|(exfalso;omega)) _ (Be _ _) (sx _ _)).mono;rintro e Z⟨rfl,R⟩;have t:=hide R;have h:Hid (Z.1[iS w.1]?=ni (jf (A7 0 0 iN iN iN 0 o9) 131)):=(by exact Aid R q.out);clear R;have ⟨b0,b1,b2,b3,b4,b5,b6⟩:=P9 t.out.blk iP;have ⟨a0,a6,a2,a3,a4,a5,a7⟩:=P9 h.out iP;have ⟨f0,f1,f2,f3,f4,f5,f6,_⟩:=Iv h.out;have a8:iS w.1≠iS E.1:=(by have:=ltOf q.out;omega);clear N r m U M I V G H d D;have Q:Hid (∀i cs v,B8 Z i w.1.size cs v->iM w i):=λi cs v P=>by
   have x:iM w Z:=(C.out.alloc C.out.size _).grown t.out.grown Aa5 (λY l=>by cases l;exact C.out.size);exact x.grown P.grown x.size (λY l=>by cases l;exact aB _)
  generalize E.1.size=bb at *;go_wp2;apply Hq (λy=>B8 Z y w.1.size _ 131) ((((((((B8.refl h.out).set 0 _).set 1 _).set 2 _).set 3 _).set 4 _).set 5 _).set 6 _);intro y A;have ⟨z0,z1,z2,z3,z4,z5,z6⟩:=P9 A.blk iP;exact wj (by simp[qe,results67,go_sem,z0,z1,z2,z3,z4,z5,z6]) iP ⟨iP,Q.out _ _ _ A⟩
open Go.Maps
structure Nd where
 path:hU
 data:hU
 note:hU
 made:Int
 changed:Int
 version:Int
abbrev Nd.cs(x:Nd):Array u:=#[x7 x.path,x7 x.data,x7 x.note,iL x.made,iL x.changed,iL x.version]
abbrev Nd.val(x:Nd):u:=h9 x.cs
abbrev Nd.zero:Nd:=⟨⟨#[]⟩,⟨#[]⟩,⟨#[]⟩,0,0,0⟩
abbrev Tf(p:hU×Nd):u×u:=(x7 p.1,p.2.val)
def IH:gn Y 9:=string_keyed qw
def Af4(w):(zeroValue 87).run Y w=.ok Nd.zero.val w:=Ab
structure Cj(w:qg)(tb mb:Nat)(num)(ns:List (hU×Nd)):Prop where
 blk:w.1[tb]?=ni (jf #[iL num,.map (ni mb)] 108)
 map:Bl qz 9 w mb (ns.map Tf)
def Cj.below{w b B a t num r}(h:Cj w a t num r)(D:ri B w b)(C:a<B)(J:t<B):Cj b a t num r:=
 ⟨(D.block a C).trans h.blk,h.map.of_block (D.block t J)⟩
def Kd(w a t num r)(h:Cj w a t num r):sf Y 42 #[iI a] w λe B=>e=xr (iL num)/\B=w:=by
 have c0:=Vx (w:=w) 0 h.blk;go_enter func42,ntmps42;go_wp2;go_ret;exact⟨iP,iP⟩
def Zu(w tb t)(a:hU)(i s u T N V)(y:Nd)(k f)(d:k=tu/\f=0/\y=⟨i,s,u,T,N,V⟩∨k=o9/\f=10/\y=Nd.zero)(Q:w.cell? (iK tb 1)=ni (.map (ni t)))(e:tb<iS w.1)(r:Hid (∀W,iM w W->sf qz 178 #[x7 a] W λf B=>f=xr (vp tu)/\iM W B))(L:Hid (∀W,iM w W->(xg 106 (.map (ni t)) (x7 a) tu).run qz W=.ok (my #[h9 #[x7 i,x7 s,x7 u,iL T,iL N,iL V],vp k]) W)):sf qz 163 #[iI tb,x7 a] w λj B=>j=xr (my #[y.val,iL f])/\iM w B:=by
 have U:=hide (sx w (jf Nd.zero.cs 87));rcases d with⟨rfl,rfl,rfl⟩|⟨rfl,rfl,rfl⟩
 all_goals
  go_enter func163,ntmps163;go_wp2_with (go_at_call 178;apply(r.out _ (Be _ _)).mono;rintro f H⟨rfl,M⟩;have O:=hide ((Be _ _).trans (M.mono Ad));have Z:=hide ((M.block _ (ltOf U.out)).trans U.out);have n:=(O.out.cell (p:=(iK tb 1)) e).trans Q;have o:=L.out H O.out;obtain⟨K,I⟩:∃K,H.alloc (jf #[x7 i,x7 s,x7 u,iL T,iL N,iL V] 87)=K:=⟨_,iP⟩;have h:Hid (K.1[iS w.1]?=ni (jf Nd.zero.cs 87)):=Al;have J:Hid (K.1[iS H.1]?=ni (jf #[x7 i,x7 s,x7 u,iL T,iL N,iL V] 87)):=Am;have C:Hid (iM w K):=An;have p:iS w.1≠iS H.1:=(by have:=ltOf Z.out;omega);have ⟨q,A,D,S,F,Y⟩:=My h.out iP;have ⟨G,P,R,f3,f4,f5,_⟩:=Iv h.out;have ⟨b0,b1,b2,b3,b4,b5⟩:=My J.out iP;clear M);apply Hq (λX=>B8 K X w.1.size _ 87) (((((((B8.refl h.out).set 0 _).set 1 _).set 2 _).set 3 _).set 4 _).set 5 _);intro X v;have ⟨b,c,g,z,x,E⟩:=My v.blk iP;exact wj (by simp[qe,results163,go_sem,b,c,g,z,x,E]) iP ⟨iP,C.out.grown v.grown C.out.size (λm l=>by cases l;exact aB _)⟩
def Ti{w b t num r}(h:Cj w b t num r)(m)(L:w.cell? ⟨1,0,su⟩=ni (iL m))(C:1<iS w.1)(a)(s:a.size<=1000)(Q:Hr a=tu)(x)(Z:(a,x)∈r):sf Y 163 #[iI b,x7 a] w λe B=>e=xr (my #[x.val,iL 0])/\iM w B:=by
 refine Zu w b t a _ _ _ _ _ _ x tu 0 (.inl ⟨iP,iP,iP⟩) (M h.blk iP) (ltOf h.blk) (λW k=>?_) (λW k=>((h.map.of_block (k.block _ h.map.lt)).look_some tu IH yz (oa qw Pc) (aZ.2 ⟨_,Z,iP⟩)))
 ·have:=To W m ((k.cell (p:=⟨1,0,su⟩) C).trans L) a Aa
  grind
def Zt{w b t num r}(h:Cj w b t num r)(m)(L:w.cell? ⟨1,0,su⟩=ni (iL m))(C:1<iS w.1)(a)(s:a.size<=1000)(Q:Hr a=tu)(O:∀q∈r,q.1≠a):sf Y 163 #[iI b,x7 a] w λe B=>e=xr (my #[Nd.zero.val,iL 10])/\iM w B:=by
 refine Zu w b t a iN iN iN 0 0 0 _ o9 10 (.inr ⟨iP,iP,iP⟩) (M h.blk iP) (ltOf h.blk) (λW k=>?_) (λW k=>?_)
 ·have:=To W m ((k.cell (p:=⟨1,0,su⟩) C).trans L) a Aa
  grind
 ·refine(h.map.of_block (k.block _ h.map.lt)).look_none tu IH yz (Af4 W) (oa qw Pc) (λp Q=>?_)
  grind
abbrev Dx(kind:Int)(p d n:hU)(v:Int):Array u:=#[iL kind,x7 p,x7 d,x7 n,iL v]
abbrev Mx(kind:Int)(p d n:hU)(v:Int):u:=h9 (Dx kind p d n v)
end Go.Proofs.YtcbilgmfdgpomaaGreatDoor
namespace Orch
variable (f:gZ)
def put_len{a t v o}(h:put f k a t v=ni o):S o<=1000:=by
 cases k with
 |zero=>simp[put]at h
 |succ k=>
  unfold put at h
  grind
def puts_b(C:s.size<=200):GK f (k+1) tb (txt s) (be s.size 4++s.data.toList):=
 Ob f (by simp[fits,Ty.l,V.n,V.s,V.l,C]) iP
def puts_q{n}(C:0<=n)(J:n<=1):GK f (k+1) tq (num n) (be n 1):=by
 exact Dge
def parse_create:K [40,52,52,116,98,41]=ni (.mk lr [t4,t4,tt,tb]):=Ac
def parse_delete:K [40,52,52,116,52,41]=ni (.mk lr [t4,t4,tt,t4]):=Ac
def parse_set:K [40,52,52,116,98,52,41]=ni (.mk lr [t4,t4,tt,tb,t4]):=Ac
def parse_exists:K [40,52,52,116,63,41]=ni (.mk lr [t4,t4,tt,tq]):=Ac
abbrev fld(s:hU):hQ:=be s.size 4++s.data.toList
section
variable {m:Int} {p d:hU} (o:-2147483648<=m) (i:m<=2147483647) (Q:p.size<=200) (q:f p=tu)
include o i Q q
def put_create(y:d.size<=200):put f 9 [] (.mk lr [t4,t4,tt,tb]) (.mk 0 iN [num 1,num m,txt p,txt d])=ni (be 1 4++(be m 4++(fld p++(fld d++[])))):=by
 have C:S p.data.toList=p.size:=iP;have J:S d.data.toList=d.size:=iP;have:=puts_rec f (k:=8) (l:=lr) iP (.cons (puts_4 f (n:=1) Aa Aa) (.cons (puts_4 f o i) (.cons (puts_t f Q q) (.cons (puts_b f y) .nil)))) [] HZ;simpa using this
def put_delete(S:-2147483648<=x)(K:x<=2147483647):put f 9 [] (.mk lr [t4,t4,tt,t4]) (.mk 0 iN [num 2,num m,txt p,num x])=ni (be 2 4++(be m 4++(fld p++(be x 4++[])))):=by
 have C:iR p.data.toList=p.size:=iP;have:=puts_rec f (k:=8) (l:=lr) iP (.cons (puts_4 f (n:=2) Aa Aa) (.cons (puts_4 f o i) (.cons (puts_t f Q q) (.cons (puts_4 f S K) .nil)))) [] (by simp only[aM,be_length,C,aX];omega);simpa using this
def put_set(y:d.size<=200)(S:-2147483648<=x)(K:x<=2147483647):put f 9 [] (.mk lr [t4,t4,tt,tb,t4]) (.mk 0 iN [num 3,num m,txt p,txt d,num x])=ni (be 3 4++(be m 4++(fld p++(fld d++(be x 4++[]))))):=by
 have C:iR p.data.toList=p.size:=iP;have J:iR d.data.toList=d.size:=iP;have:=puts_rec f (k:=8) (l:=lr) iP (.cons (puts_4 f (n:=3) Aa Aa) (.cons (puts_4 f o i) (.cons (puts_t f Q q) (.cons (puts_b f y) (.cons (puts_4 f S K) .nil))))) [] HZ;simpa using this
end
end Orch
namespace Go.Proofs.YtcbilgmfdgpomaaGreatDoor
open Go.RowKit
def Oi(a){s t}(Q:Orch.parse s=ni t){v}(f:Orch.put a 9 [] t v=ni body):Vt a t body=ni v:=by
 have K:=Orch.put_len a f;have ⟨pre,e,h⟩:=Orch.take_put a 9 t v [] body (Orch.parse_well Q 9) f;have:=h [];unfold Vt
 grind
section
variable {z:gZ} {F:iA}
section
variable (U:Im z F) (w:I) (V:F w) (c:Table w) (a:0<iS w.1) (N:Int) (o:0<=N) (i:N<=2147483647) (p d:hU) (Q:p.size<=200) (q:z p=tu) (T:u)
include U V c a o i Q q
end
end
open Go.Maps
attribute [local go_sem ↓] Go.wp_at_zero Go.wp_at_succ
def Uo(w a kind)(p d n:hU)(v)(i s u:hU)(T N V)(b:¬(40:Int)<(d.size:Int))(z:¬(10:Int)<(n.size:Int))(t)(Q:w.cell? (iK a 1)=ni (.map (ni t)))(D:a<iS w.1)(r:Hid (∀W,iM w W->sf Y 163 #[iI a,x7 p] W λf B=>f=xr (my #[h9 #[x7 i,x7 s,x7 u,iL T,iL N,iL V],iL 0])/\iM W B)):sf Y 148 #[iI a,Mx kind p d n v] w λf B=>f=xr (iL 9)/\iM w B:=by
 refine P2l λU=>?_;go_enter func148,ntmps148;go_wp2_with (go_at_call 163;apply(r.out _ (Be _ _)).mono;rintro f H⟨rfl,M⟩;have O:=hide ((Be _ _).trans (M.mono Ad));have Z:=hide ((M.block _ (ltOf U.out)).trans U.out);obtain⟨K,I⟩:∃K,H.alloc (jf #[x7 i,x7 s,x7 u,iL T,iL N,iL V] 87)=K:=⟨_,iP⟩;have h:Hid (K.1[iS w.1]?=ni (jf #[iL kind,x7 p,x7 d,x7 n,iL v] 152)):=Al;have J:Hid (K.1[iS H.1]?=ni (jf #[x7 i,x7 s,x7 u,iL T,iL N,iL V] 87)):=Am;have C:Hid (iM w K):=An;have ⟨_,c,l,x,y⟩:=Wd h.out iP;have A:=(C.out.cell (p:=(iK a 1)) D).trans Q;clear M)
 all_goals go_ret
 all_goals exact⟨iP,C.out⟩
end Go.Proofs.YtcbilgmfdgpomaaGreatDoor
namespace Go.Proofs.YtcbilgmfdgpomaaGreatDoor
variable {P:Program}
open Go.RowKit Go.Maps
def Wc(w a kind d n v):sf Y 149 #[iI a,Mx kind ⟨#[47]⟩ d n v] w λe B=>e=xr (iL 13)/\iM w B:=by
 go_enter func149,ntmps149;go_wp2;go_ret;exact⟨iP,Be _ _⟩
def Nt(v:Int):Int:=if v=2147483647 then 0 else v+1
def Vu(w v)(C:0<=v)(J:v<=2147483647):sf Y 151 #[iL v] w λe B=>e=xr (iL (Nt v))/\B=w:=by
 by_cases h:v=2147483647
 ·subst h;go_enter func151,ntmps151;go_wp2;go_ret;exact⟨iP,iP⟩
 ·have q:Nt v=v+1:=aL h;rw[q];go_enter func151,ntmps151;go_wp2;go_ret;exact⟨iP,iP⟩
attribute [local go_sem ↓] Go.wp_at_zero Go.wp_at_succ
structure Ax(w w':qg)(X:hY):Prop where
 os:w'.os=w.os
 tape:w'.tape=w.tape
 output:w'.output=w.output
 size:iS w.1<=iS w'.1
 block:∀k,k<iS w.1->¬X k->w'.1[k]?=w.1[k]?
def Ax.refl(w X):Ax w w X:=⟨iP,iP,iP,aB _,λ_ _ _=>rfl⟩
def Ax.trans{w E}(h:Ax w H X)(c:Ax H E X):Ax w E X:=
 ⟨c.os.trans h.os,c.tape.trans h.tape,c.output.trans h.output,aF h.size c.size,λj l Z=>(c.block j (aC l h.size) Z).trans (h.block j l Z)⟩
def Ax.of_below{w a B}(h:ri B w a)(b:iS w.1<=B):Ax w a X:=⟨h.os,h.tape,h.output,h.size,λk E _=>h.block k (aC E b)⟩
def Ax.of_grown{w X b}(h:w.grownBy B (ni b))(t:X b∨iS w.1<=b):Ax w B X:=
 ⟨h.os,h.tape,h.output,h.size,λk E Z=>h.block k E (λe=>Ai)⟩
def Ax.drew{w}(h:Ax w B X):Ax w B.drew X:=⟨h.os,h.tape,h.output,h.size,h.block⟩
def Ax.mono{w Y}(h:Ax w B X)(a:∀k,X k->Y k):Ax w B Y:=⟨h.os,h.tape,h.output,h.size,λk E z=>h.block k E (λZ=>z (a k Z))⟩
def DX(w k)(p d n:hU)(v num)(F:0<=num)(C:num+1<=9223372036854775807)(t)(O:w.1[k]?=ni (jf #[iL num,.map (ni t)] 108))(Q:iA)(i)(R:I->I->Prop)(b:i=1/\R=(λW J=>(uv 106 (.map (ni t)) (x7 p) (h9 #[x7 p,x7 d,x7 n,iL (num+1),iL (num+1),iL 0])).run Y W=.ok () J)∨i=2/\R=λW J=>(wi #[106,9] 0 #[.map (ni t),x7 p]).run Y W=.ok (my #[]) J)(c:Hid (∀W,Ax w W (· = k)->W.1[k]?=ni (jf #[iL (num+1),.map (ni t)] 108)->∃J,R W J/\Hid (Ax W J (· = t))/\Hid (Q J)))(G:t≠k)(z:t<iS w.1):sf Y 93 #[iI k,Mx i p d n v] w λe B=>e=xr (my #[])/\(∃J,Q J/\B=J):=by
 have D:=ltOf O;obtain⟨K,o⟩:∃K,(w.alloc (jf #[iL i,x7 p,x7 d,x7 n,iL v] 152)).setCell (iJ k) (iL (num+1))=K:=⟨_,iP⟩;have f:Hid ((w.alloc (jf #[iL i,x7 p,x7 d,x7 n,iL v] 152)).1[k]?=ni (jf #[iL num,.map (ni t)] 108)):=(rm _ _ _ D).trans O;refine S3r λE q=>?_;have l:Hid (K.1[iS w.1]?=ni (jf #[iL i,x7 p,x7 d,x7 n,iL v] 152)):=by rw[←o];exact(mg _ _ _ _ (by show iS w.1≠k;omega)).trans (sx _ _)
 have ⟨u,P⟩:=Ab4 E.out iP;have ⟨y,m,g,h⟩:=Ake l.out iP;have j:=Vx (w:=(w.alloc (jf #[iL i,x7 p,x7 d,x7 n,iL v] 152))) 0 f.out;have r:=Fk1 (w:=(w.alloc (jf #[iL i,x7 p,x7 d,x7 n,iL v] 152))) 0 f.out;have U:=Vx (w:=w) 0 O;have T:=Fk1 (w:=w) 0 O;have a1:k≠iS w.1:=Aa;obtain⟨a,Z,H,s⟩:=c.out K.drew q.out.drew E.out;have N:Hid ((λB=>B.cell? (iJ k)=ni (iL (num+1))/\B.cell? (iK k 1)=ni (.map (ni t))/\B.cell? (iK w.1.size 1)=ni (x7 p)/\B.cell? (iK w.1.size 2)=ni (x7 d)/\B.cell? (iK w.1.size 3)=ni (x7 n)) a):=by
  have S:a.1[k]?=ni (jf #[iL (num+1),.map (ni t)] 108):=(H.out.block k (ltOf E.out) (λe=>G e.symm)).trans E.out;have L:a.1[iS w.1]?=ni (jf #[iL i,x7 p,x7 d,x7 n,iL v] 152):=(H.out.block w.1.size (ltOf l.out) (λe=>Aa)).trans l.out;exact⟨M S iP,M S iP,M L iP,M L iP,M L iP⟩
 clear O;rcases b with⟨rfl,rfl⟩|⟨rfl,rfl⟩
 all_goals
  go_enter func93,ntmps93;go_wp2;go_region_held3 (λB=>B.cell? (iJ k)=ni (iL (num+1))/\B.cell? (iK k 1)=ni (.map (ni t))/\B.cell? (iK w.1.size 1)=ni (x7 p)/\B.cell? (iK w.1.size 2)=ni (x7 d)/\B.cell? (iK w.1.size 3)=ni (x7 n)) (first|(go_keep;done)|exact N.out) (fail)
  all_goals go_wp2
  all_goals exact⟨iP,my #[],by simp[qe,results93,go_sem],iP,_,s.out,iP⟩
end Go.Proofs.YtcbilgmfdgpomaaGreatDoor
namespace Go.Proofs.YtcbilgmfdgpomaaGreatDoor
variable {P:Program}
open Go.RowKit Go.Maps
attribute [local go_sem ↓] Go.wp_at_zero Go.wp_at_succ
def Ax.step{w E b}(h:Ax w H X)(c:H.grownBy E (ni b))(D:iS w.1<=b):Ax w E X:=
 ⟨c.os.trans h.os,c.tape.trans h.tape,c.output.trans h.output,aF h.size c.size,λj n Z=>(c.block j (aC n h.size) (λe=>by injection e with e;omega)).trans (h.block j n Z)⟩
def Akk(w k)(p d n:hU)(v num)(h0:0<=num)(h1:num+1<=9223372036854775807)(t)(O:w.1[k]?=ni (jf #[iL num,.map (ni t)] 108))(g j Y:hU)(m W e)(S:0<=e)(a6:e<=2147483647)(Q:iA)(L:Hid (∀c,Ax w c (· = k)->(xg 106 (.map (ni t)) (x7 p) o9).run qz c=.ok (h9 #[x7 g,x7 j,x7 Y,iL m,iL W,iL e]) c))(HU:Hid (∀c,Ax w c (· = k)->c.1[k]?=ni (jf #[iL (num+1),.map (ni t)] 108)->∃J,(uv 106 (.map (ni t)) (x7 p) (h9 #[x7 g,x7 d,x7 Y,iL m,iL (num+1),iL (Nt e)])).run qz c=.ok () J/\Hid (Ax c J (· = t))/\Hid (Q J)))(a7:t≠k)(aj:t<iS w.1):sf qz 93 #[iI k,Mx 3 p d n v] w λb B=>b=xr (my #[])/\(∃J,Q J/\B=J):=by
 have D:=ltOf O;have a8:Hid (∀c,sf qz 151 #[iL e] c λb B=>b=xr (iL (Nt e))/\B=c):=λc=>Vu c e S a6;obtain⟨K,o⟩:∃K,(w.alloc (jf #[iL 3,x7 p,x7 d,x7 n,iL v] 152)).setCell (iJ k) (iL (num+1))=K:=⟨_,iP⟩;have f:Hid ((w.alloc (jf #[iL 3,x7 p,x7 d,x7 n,iL v] 152)).1[k]?=ni (jf #[iL num,.map (ni t)] 108)):=(rm _ _ _ D).trans O;refine S3r λE q=>?_;have l:Hid (K.1[iS w.1]?=ni (jf #[iL 3,x7 p,x7 d,x7 n,iL v] 152)):=by rw[←o];exact(mg _ _ _ _ (by show iS w.1≠k;omega)).trans (sx _ _)
 have M:iS w.1<iS K.1:=ltOf l.out;obtain⟨P,I⟩:∃P,K.alloc (jf #[x7 iN,x7 iN,x7 iN,iL 0,iL 0,iL 0] 87)=P:=⟨_,iP⟩;have R:Hid (P.1[iS K.1]?=ni (jf #[x7 iN,x7 iN,x7 iN,iL 0,iL 0,iL 0] 87)):=Am;have i:Hid (Ax w P (· = k)):=by rw[←I];exact q.out.trans (Ax.of_below (Be _ _) (aB _))
 have u:Hid (P.1[k]?=ni (jf #[iL (num+1),.map (ni t)] 108)):=by rw[←I];exact(rm _ _ _ (ltOf E.out)).trans E.out
 have x:Hid (P.1[iS w.1]?=ni (jf #[iL 3,x7 p,x7 d,x7 n,iL v] 152)):=by rw[←I];exact(rm _ _ _ (ltOf l.out)).trans l.out
 obtain⟨a,Z⟩:∃a,((((((P.setCell (iJ K.1.size) (x7 g)).setCell (iK K.1.size 1) (x7 j)).setCell (iK K.1.size 2) (x7 Y)).setCell (iK K.1.size 3) (iL m)).setCell (iK K.1.size 4) (iL W)).setCell (iK K.1.size 5) (iL e))=a:=⟨_,iP⟩;have X:Hid (a.1[iS K.1]?=ni (jf #[x7 g,x7 j,x7 Y,iL m,iL W,iL e] 87)):=by rw[←Z];exact((((((((B8.refl R.out).set 0 (x7 g)).set 1 (x7 j)).set 2 (x7 Y)).set 3 (iL m)).set 4 (iL W)).set 5 (iL e))).blk
 have y:Hid (P.grownBy a (ni K.1.size)):=by rw[←Z];exact((((((((B8.refl R.out).set 0 (x7 g)).set 1 (x7 j)).set 2 (x7 Y)).set 3 (iL m)).set 4 (iL W)).set 5 (iL e))).grown
 have aa:Hid (Ax w a (· = k)):=i.out.step y.out (eS M);have H:Hid (a.1[k]?=ni (jf #[iL (num+1),.map (ni t)] 108)):=(y.out.block k (ltOf u.out) Amu).trans u.out;have z:Hid (a.1[iS w.1]?=ni (jf #[iL 3,x7 p,x7 d,x7 n,iL v] 152)):=(y.out.block _ (ltOf x.out) Amu).trans x.out;obtain⟨U,N⟩:∃U,(((a.setCell (iK K.1.size 1) (x7 d)).setCell (iK K.1.size 4) (iL (num+1))).setCell (iK K.1.size 5) (iL (Nt e)))=U:=⟨_,iP⟩;have A:Hid (U.1[iS K.1]?=ni (jf #[x7 g,x7 d,x7 Y,iL m,iL (num+1),iL (Nt e)] 87)):=by rw[←N];exact(((((B8.refl X.out).set 1 (x7 d)).set 4 (iL (num+1))).set 5 (iL (Nt e)))).blk
 have C:Hid (a.grownBy U (ni K.1.size)):=by rw[←N];exact(((((B8.refl X.out).set 1 (x7 d)).set 4 (iL (num+1))).set 5 (iL (Nt e)))).grown
 have ab:Hid (Ax w U (· = k)):=aa.out.step C.out (eS M);have r:Hid (U.1[k]?=ni (jf #[iL (num+1),.map (ni t)] 108)):=(C.out.block k (ltOf H.out) Amu).trans H.out;have F:Hid (U.1[iS w.1]?=ni (jf #[iL 3,x7 p,x7 d,x7 n,iL v] 152)):=(C.out.block _ (ltOf z.out) Amu).trans z.out;have ⟨ak,al⟩:=Ab4 E.out iP;have ⟨an,ao,aq⟩:=Jn l.out iP;have ⟨ar,ad⟩:=Ab4 u.out iP;have ⟨au,ae,av⟩:=Jn x.out iP;have ⟨aw,af⟩:=Ab4 H.out iP;have ⟨ax,ah,ay⟩:=Jn z.out iP;have ⟨az,b5⟩:=Ab4 r.out iP;have ⟨b6,b7,b8⟩:=Jn F.out iP;have ⟨b9,ba,bb,bc,bd,bf⟩:=My R.out iP;have ⟨bg,bh,bj,bk,bm,bn,_⟩:=Iv R.out;have ⟨bo,bq,br,bu,bw,bx⟩:=My X.out iP;have ⟨bz,c6,c7,c8,c9,cc,_⟩:=Iv X.out;have ⟨cd,cf,cg,cj,ck,cm⟩:=My A.out iP;have cn:=L.out K q.out;have cp:=L.out P i.out;have cq:=L.out K.drew q.out.drew;have cr:=L.out P.drew i.out.drew;have cu:=L.out K.drew.drew q.out.drew.drew;have cw:=L.out P.drew.drew i.out.drew.drew;have cx:=L.out K.drew.drew.drew q.out.drew.drew.drew;have cy:=L.out P.drew.drew.drew i.out.drew.drew.drew;have s0:=Vx (w:=(w.alloc (jf #[iL 3,x7 p,x7 d,x7 n,iL v] 152))) 0 f.out;have s1:=Fk1 (w:=(w.alloc (jf #[iL 3,x7 p,x7 d,x7 n,iL v] 152))) 0 f.out;have r0:=Vx (w:=w) 0 O;have T:=Fk1 (w:=w) 0 O;have a1:k≠iS w.1:=Aa;have cz:k≠iS K.1:=Aa;have da:iS w.1≠iS K.1:=Aa;obtain⟨V,uV,G,s⟩:=HU.out U.drew.drew.drew ab.out.drew.drew.drew r.out;have KV:Hid ((λB=>B.cell? (iK k 1)=ni (.map (ni t))/\B.cell? (iK w.1.size 1)=ni (x7 p)/\B.cell? (iJ K.1.size)=ni (x7 g)/\B.cell? (iK K.1.size 1)=ni (x7 d)/\B.cell? (iK K.1.size 2)=ni (x7 Y)/\B.cell? (iK K.1.size 3)=ni (iL m)/\B.cell? (iK K.1.size 4)=ni (iL (num+1))/\B.cell? (iK K.1.size 5)=ni (iL (Nt e))) V):=by
  have ai:iS K.1<iS U.1:=ltOf A.out;have e1:V.1[k]?=_:=(G.out.block k (ltOf r.out) (λb=>a7 b.symm)).trans r.out;have e2:V.1[iS w.1]?=_:=(G.out.block w.1.size (ltOf F.out) (λb=>Aa)).trans F.out;have h:V.1[iS K.1]?=_:=(G.out.block K.1.size ai (λb=>Aa)).trans A.out;exact⟨cellOf e1 iP,cellOf e2 iP,cellOf h iP,cellOf h iP,cellOf h iP,cellOf h iP,cellOf h iP,cellOf h iP⟩
 clear O;go_enter func93,ntmps93;go_wp2;go_region_held3 (λB=>B.cell? (iK k 1)=ni (.map (ni t))/\B.cell? (iK w.1.size 1)=ni (x7 p)) (first|(go_keep;done)|exact⟨ad,ae⟩|exact⟨af,ah⟩) (fail)
 all_goals go_wp2
 all_goals (go_region_law (go_simp;go_at_call 151;apply(a8.out _).mono;rintro b w6⟨rfl,rfl⟩))
 all_goals go_wp2
 all_goals (go_region_held3 (λB=>B.cell? (iK k 1)=ni (.map (ni t))/\B.cell? (iK w.1.size 1)=ni (x7 p)/\B.cell? (iJ K.1.size)=ni (x7 g)/\B.cell? (iK K.1.size 1)=ni (x7 d)/\B.cell? (iK K.1.size 2)=ni (x7 Y)/\B.cell? (iK K.1.size 3)=ni (iL m)/\B.cell? (iK K.1.size 4)=ni (iL (num+1))/\B.cell? (iK K.1.size 5)=ni (iL (Nt e))) (first|(go_keep;done)|exact KV.out) (fail))
 all_goals go_wp2
 all_goals exact⟨iP,my #[],by simp[qe,results93,go_sem],iP,_,s.out,iP⟩
end Go.Proofs.YtcbilgmfdgpomaaGreatDoor
namespace Go.Proofs.YtcbilgmfdgpomaaGreatDoor
variable {P:Program}{kl:Lit}
open Go.RowKit Go.Maps
section
variable {e:I} {tb t:Nat} {num:Int} {r:List (hU×Nd)}
def Cj.map_at(h:Cj e tb t num r)(f:t≠tb)(E:Ax e W (· = tb)):=h.map.of_block (E.block t h.map.lt f)
def Z4{J}(f:t≠tb){a q}(E:Ax e W (· = tb))(D:W.1[tb]?=ni (jf #[iL a,.map (ni t)] 108))(L:Bl Y 9 J t (q.map Tf))(G:W.grownBy J (ni t)):Hid (Ax W J (· = t))/\Hid (Cj J tb t a q/\Ax e J (λk=>k=tb∨k=t)):=
 ⟨Ax.of_grown G (.inl iP),⟨(G.block tb (ltOf D) (λb=>f Ai)).trans D,L⟩,(E.mono (λ_ h=>.inl h)).trans ((Ax.of_grown (X:=λk=>k=t) G (.inl iP)).mono (λ_ h=>.inr h))⟩
def Ac9{p:hU}(Q:p.size<=1000):∃l,zv Y 9 (x7 p)=ni l:=⟨_,oa qw Pc⟩
variable (h:Cj e tb t num r) (f:t≠tb) (F:0<=num) (a:num+1<=9223372036854775807) (p d n:hU) (v:Int) (Q:p.size<=1000)
include h f F a Q
def doC(O:∀q∈r,q.1≠p):sf qz 93 #[iI tb,Mx 1 p d n v] e λb B=>b=xr (my #[])/\Cj B tb t (num+1) (r++[(p,⟨p,d,n,num+1,num+1,0⟩)])/\Ax e B (λk=>k=tb∨k=t):=by
 refine(DX e tb p d n v num F a t h.blk (λJ=>Cj J tb t (num+1) (r++[(p,⟨p,d,n,num+1,num+1,0⟩)])/\Ax e J (λk=>k=tb∨k=t)) 1 _ (.inl ⟨iP,iP⟩) (λW E D=>?_) f h.map.lt).mono ?_
 ·have ⟨l,K⟩:=Ac9 Q;obtain⟨J,Y,L,G⟩:=(h.map_at f E).put_new IH yz K (λq c=>by
   grind)
  exact⟨J,Y,Z4 f E D Ai G⟩
 grind
def doD{A C x}(U:r=A++(p,x)::C):sf qz 93 #[iI tb,Mx 2 p d n v] e λb B=>b=xr (my #[])/\Cj B tb t (num+1) (A++C)/\Ax e B (λk=>k=tb∨k=t):=by
 refine(DX e tb p d n v num F a t h.blk (λJ=>Cj J tb t (num+1) (A++C)/\Ax e J (λk=>k=tb∨k=t)) 2 _ (.inr ⟨iP,iP⟩) (λW E D=>?_) f h.map.lt).mono ?_
 ·have ⟨l,K⟩:=Ac9 Q;obtain⟨J,Y,L,G⟩:=(h.map_at f E).drop_some IH yz K (A:=A.map Tf) (C:=C.map Tf) (v:=x.val) Ai;exact⟨J,Y,Z4 f E D Ai G⟩
 grind
def doS{A C x}(U:r=A++(p,x)::C)(g:0<=x.version)(X:x.version<=2147483647):sf qz 93 #[iI tb,Mx 3 p d n v] e λb B=>b=xr (my #[])/\Cj B tb t (num+1) (A++(p,{ x with data:=d,changed:=num+1,version:=Nt x.version })::C)/\Ax e B (λk=>k=tb∨k=t):=by
 refine(Akk e tb p d n v num F a t h.blk x.path x.data x.note x.made x.changed x.version g X (λJ=>Cj J tb t (num+1) (A++(p,{ x with data:=d,changed:=num+1,version:=Nt x.version })::C)/\Ax e J (λk=>k=tb∨k=t)) (λW E=>?_) (λW E D=>?_) f h.map.lt).mono ?_
 ·have ⟨l,K⟩:=Ac9 Q;exact(h.map_at f E).look_some o9 IH yz K (aZ.2 ⟨(p,x),by rw[U];simp,iP⟩)
 ·obtain⟨l,K⟩:=Ac9 Q;obtain⟨J,Y,L,G⟩:=(h.map_at f E).put_old IH yz K (A:=A.map Tf) (C:=C.map Tf) (v:=x.val) Ai;exact⟨J,Y,Z4 f E D Ai G⟩
 grind
end
def Ny(K f)(p d n:hU)(v)(F:Int->Prop)(i)(j:Nat)(o:i=1/\j=148∨i=2/\j=149∨i=3/\j=150)(H:Hid (∀W,iM K W->sf Y j #[iI f,h9 #[iL i,x7 p,x7 d,x7 n,iL v]] W λe B=>(∃c,e=xr (iL c)/\F c)/\iM W B)):sf Y 92 #[iI f,Mx i p d n v] K λe B=>(∃c,e=xr (iL c)/\F c)/\iM K B:=by
 obtain⟨a,Z⟩:∃a,K.alloc (jf #[iL i,x7 p,x7 d,x7 n,iL v] 152)=a:=⟨_,iP⟩;have X:Hid (a.1[iS K.1]?=ni (jf #[iL i,x7 p,x7 d,x7 n,iL v] 152)):=by rw[←Z];exact sx _ _
 have O:Hid (iM K a):=by rw[←Z];exact Be _ _
 have ⟨y,m,b,S,h⟩:=Wd X.out iP;rcases o with⟨rfl,rfl⟩|⟨rfl,rfl⟩|⟨rfl,rfl⟩
 all_goals
  go_enter func92,ntmps92;go_wp2_with ((first|go_at_call 148|go_at_call 149|go_at_call 150);apply(H.out a O.out).mono;rintro e E⟨⟨c,rfl,M⟩,D⟩;have g:=hide M;have C:Hid (iM K E):=O.out.trans (D.mono O.out.size);clear M D);go_ret;exact⟨⟨_,iP,g.out⟩,C.out⟩
section
variable {e:I} {tb t:Nat} {num:Int} {r:List (hU×Nd)} (h:Cj e tb t num r) (m:Int) (L:e.cell? ⟨1,0,su⟩=ni (iL m)) (a:1<iS e.1) (p d n:hU) (v:Int) (Q:p.size<=1000) (b:Hr p=tu) (y:d.size<=40) (z:n.size<=10)
include h L a Q b y z
theorem Yq(k:iM e W)(x)(Z:(p,x)∈r):sf Y 163 #[iI tb,x7 p] W λc B=>c=xr (my #[x.val,iL 0])/\iM W B:=
 Ti (h.below k (ltOf h.blk) h.map.lt) m ((k.cell (p:=⟨1,0,su⟩) a).trans L) (aC a k.size) p Q b x Z
theorem Yr(k:iM e W)(x:∀q∈r,q.1≠p):sf Y 163 #[iI tb,x7 p] W λc B=>c=xr (my #[Nd.zero.val,iL 10])/\iM W B:=
 Zt (h.below k (ltOf h.blk) h.map.lt) m ((k.cell (p:=⟨1,0,su⟩) a).trans L) (aC a k.size) p Q b x
end
def Tryz.info9b:(prog.info? 9).map (λi=>(i.zero,i.size,i.bytes))=ni (ni (x7 iN),1,16):=Ab
abbrev strs(L:gX):List u:=L.map x7
def Aed(w)(a:hU):sf Y 193 #[x7 a] w λe B=>(∃lv,e=xr lv/\D9 B (λb=>b<iS B.1) [Orch.txt a] lv)/\iM w B:=by
 have R:=Z (Nu w [(Orch.txt a,um su 0 0)] (λb=>b<(w.alloc (jf #[iL 0,x7 a,um su 0 0] 183)).1.size) Ad #[iL 0,x7 a,um su 0 0] Aq 183 1 iP _ iP Ad (by
  intro p f;simp at f;subst f;exact .nil su 0))
 go_enter func193,ntmps193;go_wp2;go_ret;exact⟨⟨_,iP,R.out⟩,Be _ _⟩
def FR(K)(g j Y:hU)(m W e k):sf qz 169 #[h9 #[x7 g,x7 j,x7 Y,iL m,iL W,iL e],iL k] K λc B=>(∃lv,c=xr lv/\D9 B (λb=>b<iS B.1) [.mk 0 iN [Orch.num m,Orch.num W,Orch.num e,Orch.num k]] lv)/\iM K B:=by
 obtain⟨a,Z⟩:∃a,K.alloc (jf #[x7 g,x7 j,x7 Y,iL m,iL W,iL e] 87)=a:=⟨_,iP⟩;have X:Hid (a.1[iS K.1]?=ni (jf #[x7 g,x7 j,x7 Y,iL m,iL W,iL e] 87)):=by rw[←Z];exact sx _ _
 have O:Hid (iM K a):=by rw[←Z];exact Be _ _
 have ⟨_,_,_,S,n,h⟩:=My X.out iP;obtain⟨d,I⟩:∃d,a.alloc (jf #[iL m,x7 iN,um su 0 0,iL W,x7 iN,um su 0 0,iL e,x7 iN,um su 0 0,iL k,x7 iN,um su 0 0] 183)=d:=⟨_,iP⟩;have H:Hid (D9 d (λb=>b<iS d.1) [Orch.num m,Orch.num W,Orch.num e,Orch.num k] (um (ni (iJ a.1.size)) 4 4)):=by
  rw[←I];exact Nu a [(Orch.num m,um su 0 0),(Orch.num W,um su 0 0),(Orch.num e,um su 0 0),(Orch.num k,um su 0 0)] _ Ad _ Aq 183 4 iP _ iP Ad (by
   intro p f;simp at f;rcases f with rfl|rfl|rfl|rfl<;>exact .nil su 0)
 have C:Hid (iM K d):=An;have E:=hide (Nu d [(.mk 0 iN [Orch.num m,Orch.num W,Orch.num e,Orch.num k],um (ni (iJ a.1.size)) 4 4)] (λb=>b<(d.alloc (jf #[iL 0,x7 iN,um (ni (iJ a.1.size)) 4 4] 183)).1.size) Ad #[iL 0,x7 iN,um (ni (iJ a.1.size)) 4 4] Aq 183 1 iP _ iP Ad (by
  intro p f;simp at f;subst f;exact H.out.congr (λb l=>Ah) (λb l=>rm _ _ _ l)))
 exact Ley
def Alb:laidOutB Y=tu:=Ab
def Afb:(189:Nat)<prog.types.size:=by
 simp
def Ada:prog.keyTypeAt 3 189=tu:=Ab
def Wm:gn Y 189:=Keyed.of_law (deep_law_laid Alb Aa Afb Ada (by rw[ux]))
def Zh:prog.cellsOf 189=3:=Ab
def Abx:prog.cellsOf 9=1:=Ab
def QD:prog.cellsOf 187=1:=Ab
def RB:prog.keyType 189=tu:=Ab
def Akj:∃d,prog.types.size=d+1:=⟨prog.types.size - 1,by have:=Afb;omega⟩
abbrev Gp(s:Int)(p:hU)(o:Int):u:=h9 #[iL s,x7 p,iL o]
theorem RA{s o:Int}{p:ByteArray}(a:(Lit.int .i64 s).wf=true)(O:(Lit.int .i64 o).wf=true)(Q:p.size<=1000):∃l,keyOf Tryz.prog 189 (Gp s p o)=some l:=by
 have ⟨d,y⟩:=Akj
 have u:p.size<=maxLen:=Pc
 have I:Value.formed Tryz.prog 189 (Gp s p o)=true:=by simp [Value.formed,Tryz.underlying189,Zh]
 unfold keyOf
 simp only [RB,I,Bool.and_self,if_true,y]
 have:Tryz.prog.keyLits (d+1+1) 189 (Gp s p o).cells.toList=some [.int .i64 s,.string p.data.toList,.int .i64 o]:=by
  unfold Program.keyLits
  simp [Value.cells,Zh,Abu,Abx,QD,Program.keyLits,Tryz.underlying3,Tryz.underlying9,Tryz.underlying187,a,O,u]
 simp_all
abbrev Ld(w:I)(b:Nat)(ks:iC):Prop:=Bl Y 189 w b (ks.map λk=>(k,h9 #[]))
def Abf(K b s o p)(Q:iA)(c:Hid (∀W,iM K W->∃J,(uv 92 (.map (ni b)) (Gp s p o) (h9 #[])).run Y W=.ok () J/\Hid (Q J))):sf Y 165 #[.map (ni b),Gp s p o] K λe B=>e=xr (my #[])/\Q B:=by
 obtain⟨a,Z⟩:∃a,K.alloc (jf #[iL s,x7 p,iL o] 189)=a:=⟨_,iP⟩;have X:Hid (a.1[iS K.1]?=ni (jf #[iL s,x7 p,iL o] 189)):=by rw[←Z];exact sx _ _
 have ⟨y,m,f⟩:=Jn X.out iP;have ⟨V,u,d⟩:=c.out a (by rw[←Z];exact Be _ _);go_enter func165,ntmps165;go_wp2;exact⟨iP,my #[],by simp[qe,results165,go_sem],iP,d.out⟩
def Tryz.ren190:iy:=⟨fun|125=>73|128=>134|129=>135|190=>195|258=>212|302=>227|303=>228|304=>229|305=>230|306=>231|307=>232|308=>233|309=>234|310=>235|329=>174|330=>175|333=>250|334=>251|335=>252|336=>253|344=>263|n=>n,fun|0=>0|3=>3|4=>4|5=>5|9=>9|31=>236|46=>71|51=>126|53=>123|131=>174|182=>193|183=>194|218=>242|222=>245|228=>270|229=>271|n=>n,λn=>n⟩
set_option maxRecDepth 100000 in
def Tryz.lays190:Go.Proofs.Lays.n190 Y Tryz.ren190:=
 {mixed:=Ab,
  f125:=func73.trans (aK ni Ab),
  f128:=func134.trans (aK ni Ab),
  f129:=func135.trans (aK ni Ab),
  f190:=func195.trans (aK ni Ab),
  f258:=func212.trans (aK ni Ab),
  f302:=func227.trans (aK ni Ab),
  f303:=func228.trans (aK ni Ab),
  f304:=func229.trans (aK ni Ab),
  f305:=func230.trans (aK ni Ab),
  f306:=func231.trans (aK ni Ab),
  f307:=func232.trans (aK ni Ab),
  f308:=func233.trans (aK ni Ab),
  f309:=func234.trans (aK ni Ab),
  f310:=func235.trans (aK ni Ab),
  f329:=func174.trans (aK ni Ab),
  f330:=func175.trans (aK ni Ab),
  f333:=func250.trans (aK ni Ab),
  f334:=func251.trans (aK ni Ab),
  f335:=func252.trans (aK ni Ab),
  f336:=func253.trans (aK ni Ab),
  f344:=func263.trans (aK ni Ab),
  t0:=vh,
  a0:=sq,
  z0:=ng,
  v0:=xh,
  t3:=ku,
  a3:=sj,
  z3:=vf,
  v3:=iq,
  t4:=zh,
  a4:=p9,
  z4:=xq,
  v4:=k9,
  t5:=xy,
  a5:=qp,
  z5:=xe,
  v5:=yp,
  t9:=qw,
  a9:=jw,
  z9:=mv,
  v9:=lx,
  t31:=underlying236,
  a31:=isAgg236,
  z31:=sizeOf236,
  v31:=zeroValue236,
  t46:=rz,
  a46:=mr,
  z46:=ie,
  v46:=xx,
  t51:=jd,
  a51:=wc,
  z51:=xf,
  v51:=oq,
  t53:=zg,
  a53:=bz2,
  z53:=zy,
  v53:=aa7,
  t131:=nh6,
  a131:=sd,
  z131:=tj,
  v131:=o8,
  t182:=ki,
  a182:=jj,
  z182:=wb0,
  v182:=r9,
  t183:=uq,
  a183:=ywa,
  z183:=mu,
  v183:=od,
  t218:=qm,
  a218:=yu,
  z218:=xu,
  v218:=ox,
  t222:=qh,
  a222:=oh,
  z222:=cek,
  v222:=mz,
  t228:=mf,
  a228:=mj,
  z228:=wo,
  v228:=ju,
  t229:=uk,
  a229:=ysg,
  z229:=gk,
  v229:=ub }
abbrev Tl:=Int×Bool×Int
def Tryz.info87:(prog.info? 87).map (λi=>(i.zero,i.size,i.bytes))=ni (ni Nd.zero.val,6,72):=Ab
abbrev Fp(L:List Nd):List u:=L.flatMap λx=>x.cs.toList
def Tryz.info266:(prog.info? 266).map (λi=>(i.zero,i.size,i.bytes))=ni (ni (h9 #[iL 0,x7 iN]),2,24):=Ab
def Tryz.ren6:iy:=⟨fun|6=>50|14=>72|15=>73|20=>126|21=>127|22=>128|23=>129|24=>130|25=>131|26=>132|27=>133|28=>134|29=>135|46=>173|47=>174|48=>175|49=>176|50=>177|57=>197|n=>n,fun|0=>0|3=>3|4=>4|5=>5|9=>9|22=>47|24=>87|25=>111|39=>71|45=>193|46=>194|50=>174|53=>126|55=>123|66=>242|70=>245|76=>270|77=>271|n=>n,λn=>n⟩
set_option maxRecDepth 100000 in
def Tryz.lays6:Go.Proofs.SlLaysF0.n6 Y Tryz.ren6:=
 {mixed:=Ab,
  f6:=⟨Tryz.f50.name,Ab,func50.trans (aK ni Ab)⟩,
  f14:=⟨f72.name,Ab,func72.trans (aK ni Ab)⟩,
  f15:=func73.trans (aK ni Ab),
  f20:=⟨f126.name,Ab,func126.trans (aK ni Ab)⟩,
  f21:=⟨f127.name,Ab,func127.trans (aK ni Ab)⟩,
  f22:=⟨Tryz.f128.name,Ab,func128.trans (aK ni Ab)⟩,
  f23:=⟨Tryz.f129.name,Ab,func129.trans (aK ni Ab)⟩,
  f24:=⟨f130.name,Ab,func130.trans (aK ni Ab)⟩,
  f25:=⟨f131.name,Ab,func131.trans (aK ni Ab)⟩,
  f26:=⟨f132.name,Ab,func132.trans (aK ni Ab)⟩,
  f27:=⟨f133.name,Ab,func133.trans (aK ni Ab)⟩,
  f28:=func134.trans (aK ni Ab),
  f29:=func135.trans (aK ni Ab),
  f46:=⟨f173.name,Ab,func173.trans (aK ni Ab)⟩,
  f47:=func174.trans (aK ni Ab),
  f48:=func175.trans (aK ni Ab),
  f49:=⟨f176.name,Ab,func176.trans (aK ni Ab)⟩,
  f50:=⟨f177.name,Ab,func177.trans (aK ni Ab)⟩,
  f57:=⟨Tryz.f197.name,Ab,func197.trans (aK ni Ab)⟩,
  t0:=vh,
  a0:=sq,
  z0:=ng,
  v0:=xh,
  t3:=ku,
  a3:=sj,
  z3:=vf,
  v3:=iq,
  t4:=zh,
  a4:=p9,
  z4:=xq,
  v4:=k9,
  t5:=xy,
  a5:=qp,
  z5:=xe,
  v5:=yp,
  t9:=qw,
  a9:=jw,
  z9:=mv,
  v9:=lx,
  t22:=underlying47,
  a22:=isAgg47,
  z22:=sizeOf47,
  v22:=zeroValue47,
  t25:=underlying111,
  a25:=isAgg111,
  z25:=sizeOf111,
  v25:=zeroValue111,
  t39:=rz,
  a39:=mr,
  z39:=ie,
  v39:=xx,
  t45:=ki,
  a45:=jj,
  z45:=wb0,
  v45:=r9,
  t46:=uq,
  a46:=ywa,
  z46:=mu,
  v46:=od,
  t50:=nh6,
  a50:=sd,
  z50:=tj,
  v50:=o8,
  t53:=jd,
  a53:=wc,
  z53:=xf,
  v53:=oq,
  t55:=zg,
  a55:=bz2,
  z55:=zy,
  v55:=aa7,
  t66:=qm,
  a66:=yu,
  z66:=xu,
  v66:=ox,
  t70:=qh,
  a70:=oh,
  z70:=cek,
  v70:=mz,
  t76:=mf,
  a76:=mj,
  z76:=wo,
  v76:=ju,
  t77:=uk,
  a77:=ysg,
  z77:=gk,
  v77:=ub }
def Tryz.ren106:iy:=⟨fun|106=>52|213=>74|265=>136|n=>n,λn=>n,λn=>n⟩
def Tryz.lays106:Go.Proofs.Lays.n106 Y Tryz.ren106:=
 {mixed:=Ab,f106:=func52.trans (aK ni Ab),f213:=func74.trans (aK ni Ab),f265:=func136.trans (aK ni Ab),
  t3:=ku,
  a3:=sj,
  z3:=vf,
  v3:=iq,
  t9:=qw,
  a9:=jw,
  z9:=mv,
  v9:=lx }
instance:Inhabited Nd:=⟨Nd.zero⟩
def GU(x y:Nd):Int:=Lib.compareBytes x.path.data.toList y.path.data.toList
def Up:∀a b:hQ,(Lib.compareBytes a b<0)=(a<b)
 |[],[]=>by simp[Lib.compareBytes]
 |[],_::_=>by simp[Lib.compareBytes]
 |_::_,[]=>by simp[Lib.compareBytes]
 |x::a,y::b=>by
  rw[Lib.compareBytes,List.cons_lt_cons_iff];by_cases C:x<y
  ·simp[C]
  ·by_cases J:y<x
   ·grind
   ·have:=UInt8.le_antisymm (UInt8.not_lt.1 J) (UInt8.not_lt.1 C);subst this;simp[C,Up a b]
def Afm:Go.Sort.SWO (_root_.Go.Proofs.ltOf GU):=by
 refine⟨λx=>?_,λx y z C J=>?_,λx y z C J=>?_⟩
 ·simp only[_root_.Go.Proofs.ltOf,GU,Up,decide_eq_false_iff_not];exact List.lt_irrefl _
 ·simp only[_root_.Go.Proofs.ltOf,GU,Up,decide_eq_true_eq]at *;exact List.lt_trans C J
 ·simp only[_root_.Go.Proofs.ltOf,GU,Up,decide_eq_false_iff_not,List.not_lt]at *;exact List.le_trans J C
def IT(H x y):sf qz 51 #[x.val,y.val] H λb B=>b=xr (iL (GU x y))/\B=(H.alloc (jf x.cs 87)).alloc (jf y.cs 87):=by
 obtain⟨i,s,u,T,N,V⟩:=x;obtain⟨n,j,Y,m,W,e⟩:=y;obtain⟨K,Z⟩:∃K,H.alloc (jf #[x7 i,x7 s,x7 u,iL T,iL N,iL V] 87)=K:=⟨_,iP⟩;obtain⟨a,I⟩:∃a,K.alloc (jf #[x7 n,x7 j,x7 Y,iL m,iL W,iL e] 87)=a:=⟨_,iP⟩;have X:a.cell? (iJ H.1.size)=ni (x7 i):=by
  have C:K.1[iS H.1]?=ni (jf #[x7 i,x7 s,x7 u,iL T,iL N,iL V] 87):=by rw[←Z];exact sx _ _
  have J:a.1[iS H.1]?=ni (jf #[x7 i,x7 s,x7 u,iL T,iL N,iL V] 87):=by rw[←I];exact(rm _ _ _ (ltOf C)).trans C
  exact M J iP
 have c:a.cell? (iJ K.1.size)=ni (x7 n):=by
  exact M Am iP
 have g:=hide (Any.strings_Compare Tryz.lays106 i n a)
 show sf qz 51 #[h9 #[x7 i,x7 s,x7 u,iL T,iL N,iL V],h9 #[x7 n,x7 j,x7 Y,iL m,iL W,iL e]] H _;go_enter func51,ntmps51;go_wp2_with (go_at_call 52;apply g.out.mono;rintro b d⟨rfl,rfl⟩);go_ret;exact⟨iP,by rw[Z,I]⟩
def O2:∀L(j:Nat),j<S L * 6->(Fp L)[j]?=ni ((L.toArray[j / 6]!).cs.toList[j % 6]!)
 |[],j,h=>Agf
 |x::L,j,h=>by
  have e:Fp (x::L)=x.cs.toList++Fp L:=iP;rw[e];by_cases l:j<6
  ·rw[fT (by simpa using l),Nat.div_eq_of_lt l,Nat.mod_eq_of_lt l]
   grind
  ·obtain⟨k,rfl⟩:∃k,j=k+6:=⟨j - 6,Aa⟩;rw[dK Ad,show k+6 - S x.cs.toList=k from Ad,O2 L k (by simp at h;omega),Nat.add_div_right _ Ae,Nat.add_mod_right]
   grind
def Ai0(w):(zeroValue 119).run Y w=.ok (h9 #[]) w:=Ab
section
variable {w:I} {b:Nat} {a:iC}
def Ld.keep(h:Ld w b a)(D:B.1[b]?=w.1[b]?):Ld B b a:=Bl.of_block h D
structure Pw(w:qg)(kind g T):Prop where
 ex:∃o,w.cell? ⟨4,kind,su⟩=ni (um (ni (iK g o)) (iR T) (iR T))/\∀j (x:Tl),T[j]?=ni x->w.cell? ⟨g,o+j * 3,su⟩=ni (iL x.1)/\w.cell? ⟨g,o+j * 3+1,su⟩=ni (vp x.2.1)/\w.cell? ⟨g,o+j * 3+2,su⟩=ni (iL x.2.2)
variable {kind:Nat} {T:List Tl} (h:Ld w b a) (E:kind<4) (V:Pw w kind g T) (c:iR T<=3) (e:4<iS w.1) (G:g<iS w.1) {s:Int} (f:(Lit.int yi s).wf=tu) (i:∀x∈T,(Lit.int yi x.1).wf=tu) {q:hU} (j:q.size<=1000) (O:Eb q=tu) (d n:hU) (v:Int)
include h E V c e G f i j O
end
def FQ(w z sm s num)(M:w.cell? (iK z 3)=ni (.map (ni sm)))(a:(xg 93 (.map (ni sm)) (iL num) o9).run Y w=.ok (iI s) w):sf Y 38 #[iI z,iL num] w λe B=>e=xr (iI s)/\B=w:=by
 go_enter func38,ntmps38;go_wp2;go_ret;exact⟨iP,iP⟩
def QY(w z)(M:w.cell? (iK z 5)=ni (vp o9)):sf Y 39 #[iI z] w λe B=>e=xr (vp o9)/\B=w:=by
 exact Wsr
def Rn(w b x)(M:w.cell? (iJ b)=ni x):sf Y 26 #[iI b] w λe B=>e=xr x/\B=w:=by
 go_enter func26,ntmps26;go_wp2;go_ret;exact⟨iP,iP⟩
def Aoe:gn Y 3:=int_keyed ku
def Ami(w z sm s num)(M:w.cell? (iK z 3)=ni (.map (ni sm)))(a:(xg 93 (.map (ni sm)) (iL num) o9).run Y w=.ok (iI s) w)(n p t v b)(C:iE)(F U)(D:w.1[s]?=ni (jf #[n,p,t,v,b,um C F U] 84)):sf Y 28 #[iI z,iL num] w λE B=>E=xr (my #[um C F U,iL 0])/\B=w.setCell (iK s 5) (um su 0 0):=by
 have l:=Vx (w:=w) 5 D;have c:=Fk1 (w:=w) 5 D;have g:=Z (FQ w z sm s num M a);clear a;go_enter func28,ntmps28;go_wp2_with (go_at_call 38;apply g.out.mono;rintro e H⟨rfl,rfl⟩);exact wj (v:=my #[um C F U,iL 0]) (by simp[qe,results28,go_sem]) iP ⟨iP,iP⟩
def Amh(w P z sm s num)(V:w.cell? (iJ P)=ni (iI z))(M:w.cell? (iK z 3)=ni (.map (ni sm)))(b:(xg 93 (.map (ni sm)) (iL num) o9).run Y w=.ok (iI s) w)(n p t v e)(C:iE)(F U)(D:w.1[s]?=ni (jf #[n,p,t,v,e,um C F U] 84)):sf Y 12 #[iI P,iL num] w λE B=>E=xr (my #[um C F U,iL 0])/\B=w.setCell (iK s 5) (um su 0 0):=by
 have o:=Z (Ami w z sm s num M b n p t v e C F U D);go_enter func12,ntmps12;go_wp2_with (first|(go_at_call 26;apply(Z (Rn w P _ V)).out.mono;rintro S H⟨rfl,rfl⟩)|(go_at_call 28;apply o.out.mono;rintro S H⟨rfl,rfl⟩));exact wj (by simp[qe,results12,go_sem]) iP ⟨iP,iP⟩
def Ab1(w z D x M sm t k m)(b:w.1[z]?=ni (jf #[iI D,iI x,.map (ni M),.map (ni sm),iL t,vp o9] 95))(e:t=0/\k=1∨t=1/\k=2)(L:Bl qz 3 w sm m)(v:iR m<8)(O:∀p∈m,p.1≠iL k):sf qz 37 #[iI z] w λe a=>e=xr (my #[iL k,iL 0])/\Ax w a (λi=>i=z∨i=sm)/\iS w.1<iS a.1/\a.1[z]?=ni (jf #[iI D,iI x,.map (ni M),.map (ni sm),iL k,vp o9] 95) /\
   a.1[iS w.1]?=ni (jf #[iL k,um su 0 0,vp o9,iL 0,vp o9,um su 0 0] 84)/\Bl qz 3 a sm (m++[(iL k,iI w.1.size)]):=by
 have l:=hide (QY w z (cellOf (j:=5) b iP));have ⟨_,_,_,U,Q⟩:=Wd b iP;have J:=Fk1 (w:=w) 4 b;have A:=L.len (t:=93) underlying93 3;have N:z≠sm:=λe=>by
  obtain⟨X,G,h⟩:=L.ex;rw[←e,b]at h;cases h.1
 have H:decide ((8:Int)<=(iR m:Int))=o9:=Ah;obtain⟨K,j⟩:∃K,w.setCell (iK z 4) (iL k)=K:=⟨_,iP⟩;have T:B8 w K z #[iI D,iI x,.map (ni M),.map (ni sm),iL k,vp o9] 95:=by rw[←j];exact(B8.refl b).set 4 (iL k)
 have ⟨_,_,_,F,f⟩:=Wd T.blk iP;have V:iS K.1=iS w.1:=by rw[←j];simp
 have o:K.1[sm]?=w.1[sm]?:=T.grown.block sm L.lt (λe=>by cases e;exact N iP);obtain⟨P,I⟩:∃P,K.drew.alloc (jf #[iL k,um su 0 0,vp o9,iL 0,vp o9,um su 0 0] 84)=P:=⟨_,iP⟩;have q:∀k,k<iS K.1->P.1[k]?=K.1[k]?:=λk E=>by rw[←I];exact rm _ _ _ E
 have u:P.1[iS K.1]?=ni (jf #[iL k,um su 0 0,vp o9,iL 0,vp o9,um su 0 0] 84):=Am;have R:iS P.1=iS K.1+1:=by rw[←I];simp
 have n:sm<iS K.1:=by rw[V];exact L.lt
 obtain⟨c,S,W,y⟩:=(L.of_block ((q sm n).trans o)).put_new (val:=iI w.1.size) Aoe underlying93 (key:=.int .i64 k) (kl:=.int yi k) (by rcases e with⟨_,rfl⟩|⟨_,rfl⟩<;>kernel_rfl) O;have d:=(q z (ltOf T.blk)).trans T.blk;have i:=(y.block z (by have:=ltOf T.blk;omega) (λe=>by cases e;exact N iP)).trans d;have ⟨_,_,_,g,C⟩:=Wd i iP;have ⟨_,_,_,Y,s⟩:=Wd d iP;have r:Hid (Ax w c (λi=>i=z∨i=sm)/\iS w.1<iS c.1/\c.1[z]?=ni (jf #[iI D,iI x,.map (ni M),.map (ni sm),iL k,vp o9] 95) /\
   c.1[iS w.1]?=ni (jf #[iL k,um su 0 0,vp o9,iL 0,vp o9,um su 0 0] 84)/\Bl qz 3 c sm (m++[(iL k,iI w.1.size)])):=by
  have B:=y.size;refine⟨⟨?_,?_,?_,Aa,λk E Z=>?_⟩,Aa,i,?_,W⟩
  ·rw[y.os,←I];exact T.grown.os
  ·rw[y.tape,←I];exact T.grown.tape
  ·rw[y.output,←I];exact T.grown.output
  ·rw[y.block k Aa (λe=>by cases e;exact Z (.inr iP)),q k Aa];exact T.grown.block k E (λe=>by cases e;exact Z (.inl iP))
  ·rwa[←V,y.block _ Aa (λe=>by cases e;omega)]
 clear W y u q T L o O b d i;rcases e with⟨rfl,rfl⟩|⟨rfl,rfl⟩
 all_goals
  go_enter func37,ntmps37;go_wp2_with (go_at_call 39;apply l.out.mono;rintro a1 a6⟨rfl,rfl⟩)
  first
  |go_region_held3 (λa=>a.cell? (iK z 3)=ni (.map (ni sm))/\a.cell? (iK z 4)=ni (iL 1)) (first|(go_keep;done)|exact⟨F,f⟩|exact⟨Y,s⟩|exact⟨g,C⟩) (fail)
  |go_region_held3 (λa=>a.cell? (iK z 3)=ni (.map (ni sm))/\a.cell? (iK z 4)=ni (iL 2)) (first|(go_keep;done)|exact⟨F,f⟩|exact⟨Y,s⟩|exact⟨g,C⟩) (fail)
  go_wp2_with fail;exact wj (by simp[qe,results37,go_sem]) iP ⟨iP,r.out⟩
def XB(w P z k)(R:iA)(V:w.cell? (iJ P)=ni (iI z))(a:sf Y 37 #[iI z] w λe B=>e=xr (my #[iL k,iL 0])/\R B):sf Y 24 #[iI P] w λe B=>e=xr (my #[iL k,iL 0])/\R B:=by
 go_enter func24,ntmps24;go_wp2_with (first|(go_at_call 26;apply(Z (Rn w P _ V)).out.mono;rintro S H⟨rfl,rfl⟩)|(go_at_call 37;apply(Z a).out.mono;rintro S H⟨rfl,D⟩;have b:=Z D;clear D));exact wj (by simp[qe,results24,go_sem]) iP ⟨iP,b.out⟩
