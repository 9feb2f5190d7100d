import Derived.Shelf.Strings.Split
import Derived.Deep.DrawnRows
import Derived.Deep.Upon
import Derived.Test.YtnepogbkiocdhaaGreatDoorODec
import Derived.Shelf.Sort.Plain
import Derived.Deep.RegionHeld3
open Array renaming size->iZ
set_option maxHeartbeats 8000000
set_option maxRecDepth 8000
set_option linter.all false
open Option renaming some->je,none->zt
open Go renaming World->qi,Value->p8,heap_alloc_new->iy,Calls->yf,TypeId->uy,heap_setCell_other->tu,heap_setCell_same->wc,step_append_lies->ub,run_underlying->smf,bodyPost_ret->fx,leftOf->tz1,frozen_of_row->qd,info_parts->uu,results->yo,MapEntry->xk,Program->jd,World->M
open Go.Proofs.Tryz renaming prog->ow,underlying50->vf,underlying9->sr,ntmps233->ng,underlying123->iv,func233->oz,underlying103->pq,ntmps80->jay,ntmps11->iz,func80->xx,func11->qu
open Go.RowKit renaming Below->jg
open Bool renaming false->vy,true->jz
open Go.World renaming news_of_block->qp,cell?_alloc_lt->kg,ownsRow_nil->gu,cell?_of_block->rp,ownsRow->ki
open Go.MapKept renaming run_getObj_map->o1,run_setObj_map->ogd,Stamped->xu
open Go.Value renaming string->zx,slice->xh,ownBlock->vi,int->wy,pointer->vp,bool->o0,tuple->gq,agg->mn
open Go.RowKit.Below renaming heap_alloc->np,refl->zi
open Go.Instr renaming mapUpdate->oq,lookup->qy
open Go.Result renaming andThen->gg
open Go.IntKind renaming wrap_i64->bud,i64->yh,u8->ry
open Prod renaming fst->jw
open Go.WideMaps renaming keyOf_string_mk->vr
open Go.Builtin renaming delete_->ib,append_->tv
open List renaming length_set->td,mem_append_right->qj,length->iY,length->O
open Go.Maps renaming Keyed->ox
open Go.Sort renaming putCells->pz
open Go.Obj renaming cells->pf
open Go.Ending renaming returned->ia
open Or renaming inl->zk,inr->qx
open Go renaming iW->Z,iS->Y,iF->y
open Go
open Go.Proofs.Tryz
variable {A C:List (p8×p8)}{B E H W h:M}{F:iI}{I K S g j k n s:Nat}{P:jd}{X:iK}{body:iE}{bt e rt t:uy}{key u v:p8}{l m x z:Int}{r:iN}{pp:Prop}
theorem Neo(h:pp:=by
 exact(fH ((aF.1 a).1) z).1 (a.trans g.symm)):pp:=h
theorem Djk(h:pp:=by
 rintro e a⟨⟨X,rfl,Z⟩,v⟩;obtain⟨I,f,rfl⟩:=Z.shape;exact⟨⟨I,_,f,iW,Z.congr (λb D=>D.2) (λ_ _=>rfl)⟩,v⟩):pp:=h
theorem Ffc(h:pp:=by
 rw[z];go_enter Tryz.func197,Tryz.ntmps197;go_wp2;go_ret;exact⟨iW,iW⟩):pp:=h
theorem Clp(h:pp:=by
 go_enter Tryz.func175,Tryz.ntmps175;go_wp2;go_ret;exact⟨iW,Below.refl _ _⟩):pp:=h
theorem Dbs(h:pp:=by
 go_round
 case rel=>exact⟨k+1,Aa,by go_num,V⟩
 case measure=>first|(simp[intOf];done)|(simp[intOf];omega)):pp:=h
theorem Fka(h:pp:=by
 go_enter Tryz.func210,Tryz.ntmps210;go_wp2_with (go_at_call 233;refine(Tx w s).mono ?_;rintro e H⟨rfl,rfl⟩;rw[h]);exact bodyPost_ret (by simp[results,Tryz.results210,go_sem]) iW ⟨iW,iW⟩):pp:=h
theorem W5s(h:pp:=by
 have s:(ByteArray.mk #[]).size=0:=iW;exact Pf f Ac5 iW):pp:=h
theorem Hyx(h:pp:=by
 go_wp2_with (go_at_call 122;refine R.out.mono ?_;rintro e H⟨⟨t,rfl,O⟩,D⟩;have N:=hide O;have d:=hide D;clear O D);go_ret;exact⟨⟨_,iW,N.out⟩,d.out⟩):pp:=h
theorem W86(h:pp:=by
 go_enter Tryz.func116,Tryz.ntmps116;go_wp2;go_region_law (fail)
 all_goals go_wp2
 all_goals exact⟨iW,.tuple #[],by simp[results,Tryz.results116,go_sem],iW,by first|exact Z.out.drew|exact Z.out|exact Z.out.drew.drew⟩):pp:=h
theorem Ndk{p q:Prop}(k:q)(h:Hd q->p:=by
 intro kz;have j:Hid (E.1[k]?=some (.cells #[.int .i64 (num+1),.map (some f)] 105)):=by rw[←I];exact heap_setCell_same _ _ _ _ _ _ h.out
 have o:Hid (Ax w E (· = k)):=by rw[←I];exact(Ax.of_below (Bg _ _) (aA _)).trans (Ax.of_grown ((Cb.refl h.out).set 0 _).grown (.inl iW))
 revert j o;exact kz.1):p:=h ⟨k⟩
theorem Nga{p q:Prop}(k:q)(h:Hd q->p:=by
 intro kz;have y:(k:Int)<(S.length:Int):=Aa;obtain⟨f,I⟩:∃f,S[k]?=some f:=⟨_,aG Y⟩;revert y f I;exact kz.1):p:=h ⟨k⟩
theorem O9j(h:pp:=by
 go_wp2_with (go_at_call 80;refine V.out.mono ?_;rintro e H⟨rfl,g,a⟩;have R:=hid (l.out.lefts g a Ad);have t:=hid a;clear g a)
 all_goals go_ret
 all_goals exact⟨iW,k,.same R.out (I8.grown t.out),.inl ⟨K,iW⟩⟩):pp:=h
theorem Ywj{p q:Prop}(k:q)(h:Hd q->p:=by
 intro kz;have m:=hid ((U.out.block _ (ltOf e.out)).trans e.out);have n:=hid ((U.out.block _ (ltOf l.out)).trans l.out);have h:=hid ((U.out.block _ (ltOf w.out)).trans w.out);revert m n h;exact kz.1):p:=h ⟨k⟩
theorem Ug5{p q:Prop}(k:q)(h:Hd q->p:=by
 intro kz;have e:=hid ((b.out.block _ (ltOf HI.out.2.1)).trans HI.out.2.1);have l:=hid ((b.out.block _ (ltOf HI.out.2.2.2.1)).trans HI.out.2.2.2.1);have w:=hid ((b.out.block _ (ltOf HI.out.2.2.2.2)).trans HI.out.2.2.2.2);revert e l w;exact kz.1):p:=h ⟨k⟩
namespace Go.Proofs.Y
variable {kl:Lit}
open Go.RowKit
theorem OH{w:M}{a:Addr}{x:p8}(h:w.cell? a=je x):a.block<iZ w.1:=by rw[World.cell?]at h;cases D:w.1[a.1]? with|none=>rw[D]at h;cases h|some o=>exact(aJ.1 D).1
theorem OF{w a:M}{B off:Nat}{b:iE}(h:Bytes w B off b)(D:iT w a):Bytes a B off b:=λj l=>by have C:=h j l;rwa[rp (D.5 B (OH C))]
set_option maxRecDepth 10000 in
theorem PT(w:qi)(g c:Nat)(r:iE)(n:Bytes w g 0 r)(G:g<iZ w.1)(hl:iY r<=1000):yf ow 169 #[xh (je (iQ g)) (iY r) c] w λe B=>∃U,e=ia (gq #[U,o0 jz])/\B.ownsRow w.1.size 5 1 U (Orch.be (iY r) 4++r).length (A4 (Orch.be (iY r) 4++r))/\iT w B:=by
 have HB:=hide n;go_enter func169,ntmps169;obtain⟨o,Tz,v,W,T⟩:=uu Tryz.info5;have F:=run_make (P:=ow) w 35 5 o _ underlying35 Tz v .i64 .i64 (0:Int) (4+(iY r:Int)) Aa Aa (by rw[T];omega) Aa;go_wp2_with fail;have f:(w.alloc (pf (madeCells #[wy ry 0] (4+iY r)) 5)).ownsRow w.1.size 5 1 (xh (je (iQ w.1.size)) 0 (4+iY r)) ([]:iE).length (A4 []):=⟨Z,qx ⟨iZ w.1,4+iY r,_,Z,aA _,iy w _,bB _,Am,by simp[madeCells],by simp[A4]⟩⟩;have y:=Pv _ w.1.size _ (iY r:Int) 4 [] Aa f Ae Ae;have X:=hide y;have h:=hide (Bg w (pf (madeCells #[wy ry 0] (4+iY r)) 5));clear f y;refine X.mono ?_;rintro e H⟨t,rfl,a,R⟩;have d:iT w H:=h.trans (R.low (base:=iZ w.1) Ae (λg G=>by simp[vi]at G;omega));have i:([]++Orch.be (iY r:Int) 4).length=4:=by rw[bU,Orch.be_length]
 rw[i,bU]at a;obtain⟨I,M,p⟩:∃q c,t=xh q 4 c:=by obtain⟨e,z⟩|⟨g,A,K,e,_⟩:=a.2;omega;exact⟨_,_,e⟩
 subst p;have N:=hide a;have HW:=hide d;have k:=OF HB d;have s:=hide k;have V:=d.4;clear a d k X h R i;go_wp2_with (at_builtin;refine wpList_append_own _ Z _ _ 35 Z w.1.size 5 o (wy ry 0) 1 1 underlying35 Tz v W T Z Ad _ _ _ Z N (iQ g) (iY r) c (A4 r) Z ?hl ?hn ?h1 ?c3 ?c4 ?c5 ?_);case hl=>simp[A4]
 case hn=>intro j u b;(have P:j<iY r:=by have:=(aF.1 b).1;simpa[A4] using this);have h1:=s j P;rw[aY]at h1;(have J:u=wy ry r[j].toNat:=by simp[A4,P]at b;exact b.symm);rw[J,←h1];cases j<;>simp[Addr.add]
 case h1=>intro u l;simp[A4]at l;obtain⟨L,_,rfl⟩:=l;rfl
 case c3=>rw[maxLen];omega
 case c4=>omega
 case c5=>omega
 intro U E a D _;have m:(Orch.be (iY r) 4++r).length=4+iY r:=by rw[aH,Orch.be_length]
 have O:A4 (Orch.be (iY r) 4++r)=A4 (Orch.be (iY r) 4)++A4 r:=by simp[A4]
 have x:Hid (E.ownsRow w.1.size 5 1 U (Orch.be (iY r) 4++r).length (A4 (Orch.be (iY r) 4++r))):=by show ki _ _ _ _ _ _ _;rwa[m,O]
 have C:=hide (HW.grown D V (λj b=>(N.lt j b).1));clear a D m O;go_wp2;exact fx (v:=gq #[U,o0 jz]) (by simp[yo,results169,go_sem]) Z ⟨U,Z,x,C⟩
open Go.Maps
open Go.ChangeMaps (setBlock map_eraseIdx modify_eq_set)
def kv(e:xk):p8×p8:=(e.key,e.val)
structure Bq(P:jd)(k:uy)(w:qi)(b:Nat)(m:List (p8×p8)):Prop where
 ex:∃es clock,w.1[b]?=je (.map es clock)/\xu es clock/\es.toList.map kv=m
 keys:∀p∈m,∃l,keyOf P k p.1=je l
section
variable {k:uy} {w:M} {b:Nat} {m:List (p8×p8)}
theorem Bq.nodup(h:Bq P k w b m):(m.map jw).Nodup:=by obtain⟨X,c,_,s,rfl⟩:=h.1;rw[cU];exact s.2.2
theorem Bq.one(h:Bq P k w b m){n u v:p8}(a:(n,u)∈m)(q:(n,v)∈m):u=v:=by have z:=h.nodup;clear h;induction m with|nil=>cases a|cons p r O=>grind
theorem Bq.of_block(h:Bq P k w b m)(D:B.1[b]?=w.1[b]?):Bq P k B b m:=by have ⟨X,a,C,J,T⟩:=h.1;exact⟨⟨X,a,by rwa[D],J,T⟩,h.2⟩
theorem Bq.lt(h:Bq P k w b m):b<iZ w.1:=by have ⟨X,a,C,_⟩:=h.1;grind
theorem Bq.made(w:M):Bq P k (w.alloc (.map #[] 0)) w.1.size []:=by refine⟨⟨#[],0,iy w _,⟨?_,?_,?_⟩,Z⟩,λp Q=>by cases Q⟩<;>simp
theorem Yr(o:Obj):w.grownBy (setBlock w b o) (je b):=⟨Z,Z,Z,by simp[setBlock],λi V f=>by show(w.1.setIfInBounds b o)[i]?=_;grind⟩
theorem GZ(K:ox P k){n:p8}{d:Lit}(W:keyOf P k n=je d){X:Array xk}(E:∀p∈X.toList.map kv,∃l,keyOf P k p.1=je l)(O:∀p∈X.toList.map kv,p.1≠n):(Instr.findKey k n X.toList).run P w=.ok zt w:=by obtain⟨C,_⟩|⟨j,F,_,J,T⟩:=K.5 w W X.1 (λx Z=>E (kv x) (aZ.2 ⟨x,Z,rfl⟩));exact C;exact absurd T (O (kv F) (aZ.2 ⟨F,aS J,iW⟩))
theorem Xx(K:ox P k){n:p8}{d:Lit}(W:keyOf P k n=je d){X:Array xk}(E:∀p∈X.toList.map kv,∃l,keyOf P k p.1=je l)(y:(n,v)∈X.toList.map kv):∃j F,(Instr.findKey k n X.toList).run P w=.ok (je (j,F.val)) w/\X.toList[j]?=je F/\F.key=n:=by obtain⟨C,J⟩|⟨j,F,C,J,T⟩:=K.5 w W X.1 (λx Z=>E (kv x) (aZ.2 ⟨x,Z,rfl⟩));have ⟨x,Z,e⟩:=aZ.1 y;exact absurd (by have:=aK jw e;exact this) (J x Z);grind
theorem Bq.look_none(c:Bool)(h:Bq P k w b m)(K:ox P k)(R:P.underlying t=je (.map k e)){z:p8}(N:(zeroValue e).run P w=.ok z w){n:p8}{d:Lit}(W:keyOf P k n=je d)(O:∀p∈m,p.1≠n):(qy t (.map (je b)) n c).run P w=.ok (if c then gq #[z,o0 vy] else z) w:=by obtain⟨X,a,D,s,rfl⟩:=h.1;simp[qy,smf R,o1 D,K.4 w _ W,(GZ (w:=w) K W h.2 O),N,gg]
theorem Bq.look_some(c:Bool)(h:Bq P k w b m)(K:ox P k)(R:P.underlying t=je (.map k e)){n v:p8}{kl:Lit}(W:keyOf P k n=je kl)(y:(n,v)∈m):(qy t (.map (je b)) n c).run P w=.ok (if c then gq #[v,o0 jz] else v) w:=by obtain⟨X,a,D,s,rfl⟩:=h.1;have ⟨j,F,C,J,T⟩:=Xx (w:=w) K W h.2 y;have q:F.2=v:=h.one (aZ.2 ⟨F,aS J,by simp[kv,T]⟩) y;simp[qy,smf R,o1 D,K.4 w _ W,C,q,gg]
theorem Bq.put_new(h:Bq P k w b m)(K:ox P k)(R:P.underlying t=je (.map k e)){key val:p8}{kl:Lit}(W:keyOf P k key=je kl)(O:∀p∈m,p.1≠key):∃B,(oq t (.map (je b)) key val).run P w=.ok () B/\Bq P k B b (m++[(key,val)])/\w.grownBy B (je b):=by obtain⟨X,a,D,s,rfl⟩:=h.1;refine⟨setBlock w b (.map (X.push ⟨key,val,a⟩) (a+1)),?_,⟨⟨X.push ⟨key,val,a⟩,a+1,(aT h.lt),MapKept.stamped_push s (λx Z=>O (kv x) (aZ.2 ⟨x,Z,iW⟩)),?_⟩,?_⟩,Yr _⟩;simp[oq,smf R,o1 D,K.4 w vy W,(GZ (w:=w) K W h.2 O),ogd _ D,gg,setBlock];simp[kv];intro p Q;obtain Q|Q:=bC.1 Q;exact h.2 p Q;grind
theorem Bq.put_old(h:Bq P k w b m)(K:ox P k)(R:P.underlying t=je (.map k e)){val v:p8}{d:Lit}(W:keyOf P k key=je d){A C:List (p8×p8)}(L:m=A++(key,v)::C):∃c,(oq t (.map (je b)) key val).run P w=.ok () c/\Bq P k c b (A++(key,val)::C)/\w.grownBy c (je b):=by
 obtain⟨X,q,D,s,N⟩:=h.1;subst L;have I:(key,v)∈X.1.map kv:=by rw[N];simp
 obtain⟨j,F,O,J,T⟩:=Xx (w:=w) K W (N▸h.2) I;have f:j<iY X.1:=(aF.1 J).1;have l:j<X.size:=by simpa using f
 have i:(X.modify j (λE=>{ E with key:=key,val:=val })).1=X.1.set j { F with key:=key,val:=val }:=by rw[Array.toList_modify,modify_eq_set _ _ _ _ J]
 have S:j=iY A:=by (have G:(X.1.map kv)[j]?=je (kv F):=by rw[aV,J];rfl);rw[N]at G;have z:=h.nodup;(have a:((A++(key,v)::C).map jw)[j]?=je key:=by rw[aV,G];simp[kv,T]);have g:((A++(key,v)::C).map jw)[iY A]?=je key:=Ae;exact Neo
 have B:(X.1.set j { F with key:=key,val:=val }).map kv=A++(key,val)::C:=by rw[gW,N,S];simp[kv]
 refine⟨setBlock w b (.map (X.modify j (λE=>{ E with key:=key,val:=val })) q),?_,⟨⟨_,_,aT h.lt,?_,by rw[i,B]⟩,?_⟩,Yr _⟩;have o:X[j]'l=F:=by obtain⟨_,h⟩:=aF.1 J;simpa using h
 simp[oq,smf R,o1 D,K.4 w vy W,O,l,o,T,K.6 w W,ogd _ D,gg,setBlock];have n:(X.1.set j { F with key:=key,val:=val }).map (·.3)=X.1.map (·.3):=by rw[gW];refine cE λu=>?_;rw[List.getElem?_set];split;rename_i r;subst r;rw[aL (by simpa using f),aV,J];rfl;rfl
 have y:(X.1.set j { F with key:=key,val:=val }).map (·.1)=X.1.map (·.1):=by rw[gW];refine cE λu=>?_;rw[List.getElem?_set];split;rename_i r;subst r;rw[aL (by simpa using f),aV,J];simp[T];rfl
 rw[xu,i,n,y];refine⟨λx Z=>?_,s.2⟩;have:x.3∈(X.1.set j { F with key:=key,val:=val }).map (·.3):=aZ.2 ⟨x,Z,rfl⟩;rw[n]at this;obtain⟨H,V,e⟩:=aZ.1 this;rw[←e];exact s.1 H V;intro p Q;obtain Q|Q:=bC.1 Q;exact h.2 p (fJ _ Q);obtain rfl|Q:=bM.1 Q;exact⟨_,W⟩;exact h.2 p (qj _ (cJ _ Q))
theorem Bq.drop_some{ty:uy}(h:Bq P k w b m)(K:ox P k)(R:P.underlying t=je (.map k e)){n v:p8}{d:Lit}(W:keyOf P k n=je d){A C:List (p8×p8)}(L:m=A++(n,v)::C):∃B,(ib #[t,k] ty #[.map (je b),n]).run P w=.ok (gq #[]) B/\Bq P k B b (A++C)/\w.grownBy B (je b):=by
 obtain⟨X,c,D,s,N⟩:=h.1;subst L;have y:(n,v)∈X.1.map kv:=by rw[N];simp
 obtain⟨j,F,l,J,T⟩:=Xx (w:=w) K W (N▸h.2) y;have H:j<X.size:=by simpa using((aF.1 J).1)
 have O:(X.eraseIdxIfInBounds j).1=X.1.eraseIdx j:=by simp
 have S:j=iY A:=by have G:(X.1.map kv)[j]?=je (kv F):=Aj;rw[N]at G;have z:=h.nodup;(have a:((A++(n,v)::C).map jw)[j]?=je n:=by rw[aV,G];simp[kv,T]);have g:((A++(n,v)::C).map jw)[iY A]?=je n:=Ae;exact Neo
 refine⟨setBlock w b (.map (X.eraseIdxIfInBounds j) c),?_,⟨⟨_,_,aT h.lt,MapKept.stamped_erase s j,?_⟩,?_⟩,Yr _⟩;simp[ib,smf R,o1 D,K.4 w _ W,l,ogd _ D,gg,setBlock];rw[O,map_eraseIdx,N,S,List.eraseIdx_append_of_length_le (aA _)];simp;intro p Q;obtain Q|Q:=bC.1 Q;exact h.2 p (fJ _ Q);exact h.2 p (qj _ (cJ _ Q))
theorem Bq.len(h:Bq P k w b m)(R:P.underlying t=je (.map k e))(I:uy):(Builtin.len_ #[t] I #[.map (je b)]).run P w=.ok (Y (O m)) w:=by obtain⟨X,a,D,s,rfl⟩:=h.1;simp[Builtin.len_,smf R,o1 D,gg];rfl
end
theorem Aq4(w:qi)(R:iF)(Q:iM)(v l:Nat)(h u P:Nat)(s V:Int)(K:Bool)(a:Nat)(q:Option Addr->Nat->Nat->qi->Prop)(r:qi->Option Addr->Nat->Nat->qi->Prop)(z:qi->p8->qi->Prop)(g:Hid (yf ow 138 #[zx R] w λe B=>(∃p m n,e=ia (gq #[Ly h u P s V K a (xh p m n),o0 jz])/\q p m n B)/\iT w B))(d:Hid (∀S W p m n,q p m n S->iT S W->iT w W->yf ow 139 #[Ly h u P s V K a (xh p m n),vv 0 iU (xh Q v l)] W λe B=>(∃L i j,e=ia (gq #[xh L i j,o0 jz])/\r W L i j B)/\iT W B))(X:Hid (∀W L i j J,r W L i j J->iT w J->yf ow 169 #[xh L i j] J λe B=>(∃t,e=ia (gq #[t,o0 jz])/\z J t B)/\iT J B)):yf ow 122 #[zx R,xh Q v l] w λe B=>(∃t W,e=ia t/\z W t B/\iZ w.1<=iZ W.1)/\iT w B:=by go_enter func122,ntmps122;go_wp2_with (first|(go_at_call 138;refine g.mono ?_;rintro e H⟨⟨p,m,n,rfl,f⟩,M⟩;have o:=hide f;have O:=hide M;clear M f)|(go_at_call 139;refine(d H _ p m n o (Bg _ _) (O.alloc O.4 _)).mono ?_;rintro e b⟨⟨L,i,j,rfl,Y⟩,D⟩;have x:=hide Y;have C:=hide ((O.alloc O.4 _).trans (D.mono V5));clear D Y)|(go_at_call 169;refine(X _ L i j _ x C).mono ?_;rintro e ad⟨⟨t,rfl,N⟩,F⟩;have y:=hide N;have k:=hide (C.trans (F.mono (by have:=C.4;omega)));clear F N));go_ret;exact⟨⟨_,_,Z,y,C.4⟩,k⟩
theorem Vo{w:qi}{a:Nat}{t:p8}{W:iE}(h:w.ownsRow a 5 1 t (O W) (A4 W))(F:0<O W):∃g I,t=xh (je (iQ g)) (O W) I/\a<=g/\g<iZ w.1/\Bytes w g 0 W:=by
 obtain⟨_,h⟩|⟨g,I,H,e,C,J,T,q,z,f⟩:=h.2;omega;refine⟨g,I,e,C,(aJ.1 J).1,λj l=>?_⟩;have M:(H.1.take (O W * 1))[j]?=(A4 W)[j]?:=by rw[f]
 have b:H[j]?=je (wy ry W[j].toNat):=by simp[A4,l]at M;simpa using M
 rw[aY];exact cellOf J b
section
variable {o:iD}
theorem Wo(U:Hq o F)(w:qi)(V:F w)(y:Table w)(R:iF)(l:List Orch.V)(S:iG)(A:p8)(L:Ea w S l A)(z:∀b,S b->b<iZ w.1)(t:Orch.Ty)(Q:Orch.parse R.data.toList=je t)(body:iE)(x:Orch.put o 9 [] t ⟨0,iU,l⟩=je body)(E:0<iY body)(K:iY body<=1000):yf ow 122 #[zx R,A] w λe a=>(∃r,e=ia r/\a.ownsRow w.1.size 5 1 r (Orch.be (iY body) 4++body).length (A4 (Orch.be (iY body) 4++body)))/\iT w a:=by obtain⟨M,q,rfl⟩:=L.shape;have P:=Ms w R y Q;refine(Aq4 w R M _ q t.l.1.toNat t.l.2 t.l.3 t.l.4 t.l.5 t.l.6 t.l.7.toNat (λp m n a=>Ff a (λb=>b<iZ a.1) t.ps (xh p m n)) (λW c i j a=>∃g,c=je (iQ g)/\i=iY body/\g<iZ a.1/\Bytes a g 0 body) (λW r a=>a.ownsRow W.1.size 5 1 r (Orch.be (iY body) 4++body).length (A4 (Orch.be (iY body) 4++body))) (P.mono ?_) (λa1 W p m n Z N d=>?_) (λW c i j J Y N=>?_)).mono ?_;exact Djk;have:=WY U W (U.2 (U.3 V) d V) t (R6 Q) (λb=>b<iZ W.1) _ (Z.congr (λb h=>aB h N.4) (λb D=>N.5 b D)) ⟨0,iU,l⟩ _ (L.congr (λb h=>aB (z b h) d.4) (λb h=>d.5 b (z b h))) (λ_ h=>h) x;refine this.mono ?_;rintro e a⟨⟨r,rfl,O⟩,D⟩;obtain⟨g,k,rfl,_,G,u⟩:=Vo O E;grind;obtain⟨g,rfl,rfl,G,u⟩:=Y;refine(PT J g j body u G K).mono ?_;grind;rintro e a⟨⟨r,W,rfl,O,s⟩,D⟩;refine⟨⟨r,iW,O.1,?_⟩,D⟩;obtain h|⟨g,k,H,C,B,T⟩:=O.2;exact Or.inl h;exact Or.inr ⟨g,k,H,C,aD s B,T⟩
end
def Tryz.ren146:Go.Shelf.Ren:=⟨fun|138=>235|143=>236|146=>196|195=>251|197=>252|217=>262|218=>253|219=>254|221=>211|224=>264|225=>263|260=>261|266=>267|267=>265|268=>234|314=>268|n=>n,fun|0=>0|3=>3|4=>4|5=>5|9=>9|21=>21|31=>233|46=>75|51=>123|105=>319|119=>292|138=>294|139=>295|146=>325|n=>n,fun|1=>1|3=>5|4=>6|n=>n⟩
set_option maxRecDepth 100000 in
theorem Tryz.lays146:Go.Proofs.Lays.n146 ow Tryz.ren146:={mixed:=Ab,f138:=func235.trans (aK je Ab),f143:=func236.trans (aK je Ab),f146:=func196.trans (aK je Ab),f195:=func251.trans (aK je Ab),f197:=func252.trans (aK je Ab),f217:=func262.trans (aK je Ab),f218:=func253.trans (aK je Ab),f219:=func254.trans (aK je Ab),f221:=func211.trans (aK je Ab),f224:=func264.trans (aK je Ab),f225:=func263.trans (aK je Ab),f260:=func261.trans (aK je Ab),f266:=func267.trans (aK je Ab),f267:=func265.trans (aK je Ab),f268:=func234.trans (aK je Ab),f314:=func268.trans (aK je Ab),t0:=underlying0,a0:=isAgg0,z0:=sizeOf0,v0:=zeroValue0,t3:=underlying3,a3:=isAgg3,z3:=sizeOf3,v3:=zeroValue3,t4:=underlying4,a4:=isAgg4,z4:=sizeOf4,v4:=zeroValue4,t5:=underlying5,a5:=isAgg5,z5:=sizeOf5,v5:=zeroValue5,t9:=sr,a9:=isAgg9,z9:=sizeOf9,v9:=zeroValue9,t21:=underlying21,a21:=isAgg21,z21:=sizeOf21,v21:=zeroValue21,t31:=underlying233,a31:=isAgg233,z31:=sizeOf233,v31:=zeroValue233,t46:=underlying75,a46:=isAgg75,z46:=sizeOf75,v46:=zeroValue75,t51:=iv,a51:=isAgg123,z51:=sizeOf123,v51:=zeroValue123,t105:=underlying319,a105:=isAgg319,z105:=sizeOf319,v105:=zeroValue319,t119:=underlying292,a119:=isAgg292,z119:=sizeOf292,t138:=underlying294,a138:=isAgg294,z138:=sizeOf294,v138:=zeroValue294,t139:=underlying295,a139:=isAgg295,z139:=sizeOf295,v139:=zeroValue295,t146:=underlying325,a146:=isAgg325,z146:=sizeOf325,v146:=zeroValue325,g1:=Ab,g3:=Ab,g4:=by kernel_rfl }
theorem Acw(s S:y)(m:Int)(w:M)(b:s.size<4294967281)(L:w.cell? ⟨1,0,zt⟩=je (Y m))(C:1<=S.size):yf ow 196 #[zx s,zx S] w λe B=>e=ia (xh (je (iQ w.1.size)) (Lib.countB s S+1) (Lib.countB s S+1))/\B=w.alloc (pf ((Lib.splitB S 0 (Lib.countB s S) s).map zx).toArray 9):=
 Any.strings_Split Tryz.lays146 Ab s S m w b L C
def Md(c:Nat):Bool:=decide (97<=c/\c<=122)||decide (48<=c/\c<=57)||decide (c=45)||decide (c=46)
def Qu(s:y):Bool:=decide (s≠iU/\s≠⟨#[46]⟩/\s≠⟨#[46,46]⟩)&&s.data.toList.all λc=>Md c.toNat
theorem DU(w:qi)(c:Nat)(M:c<256):yf ow 212 #[wy ry c] w λe B=>e=ia (o0 (Md c))/\B=w:=by by_cases C:(97:Int)<=c<;>by_cases J:(c:Int)<=122<;>by_cases T:(48:Int)<=c<;>by_cases q:(c:Int)<=57<;>by_cases z:(c:Int)=45<;>by_cases f:(c:Int)=46;all_goals first|(exfalso;omega)|(rw[show Md c=jz by simp[Md];omega];go_enter func212,ntmps212;go_wp2;go_ret;exact⟨by first|rfl|simp_all,Z⟩)|(rw[show Md c=vy by simp[Md];omega];go_enter func212,ntmps212;go_wp2;go_ret;exact⟨by first|rfl|simp_all,Z⟩)
theorem Ady(l:iE)(k:Nat)(h:k<O l):(l.take (k+1)).all (λc=>Md c.toNat)=((l.take k).all (λc=>Md c.toNat)&&Md l[k].toNat):=by rw[bQ h,gX];simp
theorem Fv(s:y)(l:iE):(s.toList==l)=decide (s=⟨l.toArray⟩):=by rw[Lib.toList_data,gU,beq_iff_eq,decide_eq_true_iff];constructor;intro h;apply ByteArray.ext;grind;intro h;rw[h]
theorem UQ(w:qi)(s:y)(hs:s.size<=1000):yf ow 197 #[zx s] w λe B=>e=ia (o0 (Qu s))/\B=w:=by
 by_cases F:s.toList==[];have z:Qu s=vy:=by rw[Fv]at F;simp[Qu,of_decide_eq_true F]
 exact Ffc;by_cases C:s.toList==[46];have z:Qu s=vy:=by rw[Fv]at C;simp[Qu,of_decide_eq_true C]
 exact Ffc;by_cases J:s.toList==[46,46];have z:Qu s=vy:=by rw[Fv]at J;simp[Qu,of_decide_eq_true J]
 exact Ffc;have x:Hid (Qu s=s.1.1.all λc=>Md c.toNat):=by show _=_;have I:=F;have b:=C;have o:=J;rw[Fv,decide_eq_true_iff]at I b o;rw[Qu,decide_eq_true ⟨I,b,o⟩,gQ]
 have O:iY s.1.1=s.size:=(Lib.size_eq s).symm;go_enter func197,ntmps197;go_wp2;go_loop [16] (λi=>∃k:Nat,k<=s.size/\i=Y k/\Hid ((s.1.1.take k).all (λc=>Md c.toNat)=jz)) (λi=>s.size - (intOf i).toNat);case atStart=>exact⟨0,bB _,Z,by show _=_;simp⟩
 case round=>obtain⟨k,E,rfl,X⟩:=hrel;by_cases d:k<s.size;have N:(k:Int)<(s.size:Int):=Aa;(have V:Hid ((s.1.1.take (k+1)).all (λc=>Md c.toNat)=Md s[k].toNat):=by show _=_;rw[Ady _ _ Aa,X,gQ];rfl);(cases M:Md s[k].toNat with|true=>rw[M]at V;go_wp2_with (go_at_call 212;refine(DU w s[k].toNat (gC _)).mono ?_;rintro e H⟨rfl,rfl⟩;rw[M]);exact Dbs|false=>(have a:Hid (Qu s=vy):=by show _=_;rw[x];have T:=V;rw[M]at T;rw[←eN (k+1) s.1.1,gX,T,hY]);go_wp2_with (go_at_call 212;refine(DU w s[k].toNat (gC _)).mono ?_;rintro e H⟨rfl,rfl⟩;rw[M]);go_ret;exact⟨Ib a.symm,Z⟩);have N:¬(k:Int)<(s.size:Int):=Aa;(have a:Hid (Qu s=jz):=by show _=_;rw[x,←X,bE Aa]);go_wp2;go_ret;exact⟨Ib a.symm,Z⟩
def D5(s:y):Bool:=decide (1<=s.size)&&((s.extract 0 1).toList==[47])
theorem Tx(w:M)(s:y):yf ow 233 #[zx s,zx ⟨#[47]⟩] w λe B=>e=ia (o0 (D5 s))/\B=w:=by by_cases C:(1:Int)<=s.size;have H:1<=s.size:=Aa;(cases J:((s.extract 0 1).toList==[47]) with|true=>rw[show D5 s=jz by simp only[D5,J,decide_eq_true H];rfl];go_enter oz,ng;go_wp2;go_ret;simp|false=>rw[show D5 s=vy by simp only[D5,J,decide_eq_true H];rfl];go_enter oz,ng;go_wp2;go_ret;simp);have H:¬1<=s.size:=Aa;rw[show D5 s=vy by simp only[D5,decide_eq_false H];rfl];go_enter oz,ng;go_wp2;go_ret;exact⟨Z,Z⟩
theorem KZ(w:M)(s:y):yf ow 210 #[zx s,zx ⟨#[47]⟩] w λe B=>e=ia (if D5 s=jz then gq #[zx (s.extract 1 s.size),o0 jz] else gq #[zx s,o0 vy])/\B=w:=by cases h:D5 s with|true=>(have N:(1:Int)<=s.size:=by (have:1<=s.size:=by rw[D5]at h;grind);omega);exact Fka|false=>exact Fka
theorem FO(w:qi)(s:y):yf ow 195 #[zx s,zx ⟨#[47]⟩] w λe B=>e=ia (if D5 s=jz then gq #[zx (s.extract 1 s.size),o0 jz] else gq #[zx s,o0 vy])/\B=w:=by have M:=KZ w s;cases h:D5 s with|true=>rw[h]at M;have g:=hide M;go_enter func195,ntmps195;go_wp2_with (go_at_call 210;refine g.mono ?_;rintro e H⟨rfl,rfl⟩);exact fx (by simp[yo,results195,go_sem]) Z ⟨Z,Z⟩|false=>rw[h]at M;have g:=hide M;clear M;go_enter func195,ntmps195;go_wp2_with (go_at_call 210;refine g.mono ?_;rintro e H⟨rfl,rfl⟩);exact fx (v:=gq #[zx s,o0 vy]) (by simp[yo,results195,go_sem]) Z ⟨Z,Z⟩
def names(s:y):List y:=Lib.splitB ⟨#[47]⟩ 0 (Lib.countB s ⟨#[47]⟩) s
theorem Zs(S:y):∀(k:Nat)(s p:y),p∈Lib.splitB S 0 k s->p.size<=s.size
 |0,s,p,h=>by simp[Lib.splitB,dJ]at h;grind|k+1,s,p,h=>by rw[Lib.splitB]at h;split at h;grind;obtain h|h:=bM.1 h;rw[h,cK];omega;have:=Zs S k _ p h;rw[cK]at this;omega
def Em(s:y):Bool:=decide (s.size<=24)&&((s.toList==[47])||(D5 s&&(names (s.extract 1 s.size)).all Qu))
theorem Abm(s:y):(names s).length=Lib.countB s ⟨#[47]⟩+1:=Lib.splitB_all ⟨#[47]⟩ Ad 0 _ s Z
theorem Uz(w:qi)(m:Int)(L:w.cell? ⟨1,0,zt⟩=je (iS m))(s:iF)(hs:s.size<=140737488355328):yf ow 175 #[zx s] w λe B=>e=ia (o0 (Em s))/\iT w B:=by by_cases u:(24:Int)<s.size;rw[show Em s=vy by simp only[Em,decide_eq_false (show ¬s.size<=24 by omega)];rfl];exact Clp;cases f:(s.toList==[47]) with|true=>rw[show Em s=jz by simp only[Em,decide_eq_true (show s.size<=24 by omega),f];rfl];exact Clp|false=>have F:=FO w s;cases J:D5 s with|false=>rw[J]at F;have g:=hide F;rw[show Em s=vy by simp only[Em,decide_eq_true (show s.size<=24 by omega),f,J];rfl];clear F;go_enter func175,ntmps175;go_wp2_with (go_at_call 195;refine g.mono ?_;rintro e H⟨rfl,rfl⟩);go_ret;exact⟨Z,zi _ _⟩|true=>rw[J]at F;have g:=hide F;(have x:Hid (Em s=(names (s.extract 1 s.size)).all Qu):=by show _=_;simp only[Em,decide_eq_true (show s.size<=24 by omega),f,J];rfl);(have o:(s.extract 1 s.size).size<=24:=by rw[cK];omega);generalize s.extract 1 s.size=r at *;have i:=hide (Acw r ⟨#[47]⟩ m w Aa L Ad);have v:=Abm r;have p:Lib.countB r ⟨#[47]⟩<=24:=aD (Lib.countB_le ⟨#[47]⟩ Ad r.size r (aA _)) o;have K:=iy w (pf ((names r).map zx).toArray 9);(have q:Hid (∀h (b:h<(names r).length),(w.alloc (pf ((names r).map zx).toArray 9)).cell? (iR w.1.size h)=je (zx (names r)[h])):=λh b=>by refine cellOf K ?_;simp[b]);have t:Hid (∀h (b:h<(names r).length),((names r)[h]).size<=1000):=λh b=>aD (Zs _ _ _ _ (bP b)) Aa;have HB:Hid (iT w (w.alloc (pf ((names r).map zx).toArray 9))):=Bg _ _;have j:Hid (w.alloc (pf ((Lib.splitB ⟨#[47]⟩ 0 (Lib.countB r ⟨#[47]⟩) r).map zx).toArray 9)=w.alloc (pf ((names r).map zx).toArray 9)):=Z;clear F K;go_enter func175,ntmps175;go_wp2_with (first|(go_at_call 195;refine g.mono ?_;rintro e H⟨rfl,D⟩;have Y:=D.symm;clear D;subst Y)|(go_at_call 196;refine i.mono ?_;rintro e H⟨rfl,rfl⟩;rw[j]));have y:(names r).length<=25:=Aa;(have O:Hid (∀{l:qi},l=w.alloc (pf ((names r).map zx).toArray 9)->iT w l):=λb=>by rw[b];exact HB);have n:=HB;clear i g j p L O HB;generalize w.alloc (pf ((names r).map zx).toArray 9)=W at *;have HB:=hide n;clear n;generalize names r=S at *;generalize Lib.countB r ⟨#[47]⟩=C at *;go_loop [22] (λh=>∃k:Nat,k<=iY S/\h=iS k/\Hid ((S.take k).all Qu=jz)) (λh=>iY S - (intOf h).toNat);(case atStart=>exact⟨0,bB _,Z,by show _=_;simp⟩);case round=>obtain⟨k,E,rfl,X⟩:=hrel;by_cases d:k<iY S;have N:(k:Int)<(C:Int)+1:=Aa;have z:=q k d;(have V:Hid ((S.take (k+1)).all Qu=Qu S[k]):=by show _=_;rw[bQ d,gX,X,gQ];simp);have c:=hide (UQ W S[k] (t k d));generalize S[k]=P at *;(cases M:Qu P with|true=>rw[M]at V c;go_wp2_with (go_at_call 197;refine c.mono ?_;rintro e H⟨rfl,D⟩;have Y:=D.symm;clear D;subst Y);exact Dbs|false=>(have a:Hid (Em s=vy):=by show _=_;have T:=V;rw[M]at T;rw[x,←eN (k+1) S,gX,T,hY]);rw[M]at c;go_wp2_with (go_at_call 197;refine c.mono ?_;rintro e H⟨rfl,D⟩;have Y:=D.symm;clear D;subst Y);go_ret;exact⟨Ib a.symm,HB⟩);have N:¬(k:Int)<(C:Int)+1:=Aa;(have a:Hid (Em s=jz):=by show _=_;rw[x,←X,bE Aa]);go_wp2;go_ret;exact⟨Ib a.symm,HB⟩
def Fa(l:iE):Nat->Int
 |0=>-1
 |k+1=>if l[k]?=je 47 then(k:Int) else Fa l k
theorem Xz(l:iE):∀k,-1<=Fa l k/\Fa l k<(k:Int)
 |0=>by simp[Fa]|k+1=>by have:=Xz l k;rw[Fa];split<;>omega
theorem U0(l:iE)(h:l[0]?=je 47):∀k,0<k->0<=Fa l k
 |0,F=>Aa|k+1,_=>by rw[Fa];split;omega;rename_i z;cases k with|zero=>exact absurd h z|succ k=>exact U0 l h _ Aa
theorem PM(w:qi)(s:y)(f:s.size<=140737488355328):yf ow 214 #[zx s,wy ry 47] w λe B=>e=ia (iS (Fa s.data.toList s.size))/\B=w:=by have O:iY s.1.1=s.size:=(Lib.size_eq s).symm;go_enter func214,ntmps214;go_wp2;go_loop [5] (λc=>∃k:Nat,k<=s.size/\c=iS ((k:Int) - 1)/\Hid (Fa s.1.1 k=Fa s.1.1 s.size)) (λc=>(intOf c+1).toNat);(case atStart=>exact⟨s.size,aA _,iW,iW⟩);case round=>obtain⟨k,E,rfl,Z⟩:=hrel;cases k with|zero=>go_wp2;go_ret;exact⟨Qj (by rw[←Z];rfl),iW⟩|succ k=>rw[show((k+1:Nat):Int) - 1=(k:Int) by omega];have Y:k<s.size:=Aa;(have b:s.1.1[k]?=je s[k]:=by rw[aG Aa];rfl);have h:(s[k]).toNat<256:=gC _;by_cases M:((s[k]).toNat:Int)=47;(have V:Hid (Fa s.1.1 s.size=(k:Int)):=by show _=_;rw[←Z,Fa,b,aL];congr 1;apply gV.1;show(s[k]).toNat=47;omega);go_wp2;go_ret;exact⟨Qj V.symm,iW⟩;(have V:Hid (Fa s.1.1 k=Fa s.1.1 s.size):=by show _=_;rw[←Z];(conv=>rhs;unfold Fa);rw[b,aO];intro e;injection e with e;rw[e]at M;exact M iW);go_wp2;go_round;(case rel=>exact⟨k,Aa,by first|rfl|go_num,V⟩);case measure=>first|(simp[intOf];done)|(simp[intOf];omega)
theorem V7(w:M)(s:y)(b:s.size<=140737488355328):yf ow 199 #[zx s,wy ry 47] w λe B=>e=ia (Y (Fa s.data.toList s.size))/\B=w:=by go_enter func199,ntmps199;go_wp2_with (go_at_call 214;refine(PM w s b).mono ?_;rintro e H⟨rfl,rfl⟩);go_ret;exact⟨Z,Z⟩
def Da(s:y):y:=if Fa s.data.toList s.size=0 then⟨#[47]⟩ else s.extract 0 (Fa s.data.toList s.size).toNat
theorem Tg{s:y}(h:D5 s=jz):s.data.toList[0]?=je 47/\0<s.size:=by rw[D5,aQ,decide_eq_true_iff,beq_iff_eq,Lib.toList_data]at h;have ⟨C,J⟩:=h;refine⟨?_,Aa⟩;have:=aK (λl=>l[0]?) J;simpa using this
theorem Qg(w:M)(s:y)(b:s.size<=140737488355328)(O:D5 s=jz):yf ow 177 #[zx s] w λe B=>e=ia (zx (Da s))/\B=w:=by have ⟨F,C⟩:=Tg O;have Q:=U0 _ F s.size C;have o:=(Xz s.1.1 s.size).2;have L:=hide (V7 w s b);have R:Hid (Da s=if Fa s.1.1 s.size=0 then⟨#[47]⟩ else s.extract 0 (Fa s.1.1 s.size).toNat):=Z;obtain⟨i,V⟩:∃i:Nat,Fa s.1.1 s.size=(i:Int):=⟨(Fa s.1.1 s.size).toNat,Aa⟩;rw[V]at L R o;by_cases N:(i:Int)=0;rw[aL N]at R;go_enter func177,ntmps177;go_wp2_with (go_at_call 199;refine L.mono ?_;rintro e H⟨rfl,rfl⟩);go_ret;exact⟨by rw[R];rfl,Z⟩;rw[aO N]at R;go_enter func177,ntmps177;go_wp2_with (go_at_call 199;refine L.mono ?_;rintro e H⟨rfl,rfl⟩);go_ret;exact⟨by rw[R];first|rfl|simp,Z⟩
end Go.Proofs.Y
namespace Orch
variable (f:iD)
def KM(k:Nat)(t:Ty)(v:V)(bs:iE):Prop:=∀out:iE,O out+O bs<=1000->put f k out t v=je (out++bs)
inductive Yw(k:Nat):List Ty->List V->iE->Prop
 |nil:Yw k [] [] []
 |cons {t v b ts vs bs} (h:KM f k t v b) (r:Yw k ts vs bs):Yw k (t::ts) (v::vs) (b++bs)
theorem Pf{t:Ty}{v:V}(I:fits f t v=jz)(K:v.l = []):KM f (k+1) t v (head t v):=λa O=>by rw[put,aL I,K,putE];grind
theorem Yw.len{L:List Ty}{a:List V}{W:iE}(h:Yw f k L a W):iY a=iY L:=by induction h with|nil=>rfl|cons _ _ O=>simp[O]
theorem Yw.run{t:Ty}(P:t.l.shape≠2){L:List Ty}{c:List V}{W:iE}(h:Yw f k L c W):∀(pre:List Ty),t.ps=pre++L->∀a:iE,iY a+iY W<=1000->putE (put f k) t c (iY pre) a=je (a++W):=by induction h with|nil=>intro pre _ a _;simp[putE]|@cons S v b L c W Q Y d=>intro pre B a O;rw[aH]at O;(have E:part t (iY pre)=S:=by rw[part,aO P,B];simp);rw[putE,E,Q a Aa];have:=d (pre++[S]) (by rw[B];simp) (a++b) Aet;grind
theorem puts_rec{k:Nat}{l:Lt}(P:l.shape=3){b:List Ty}{c:List V}{W:iE}(h:Yw f k b c W):KM f (k+1) (.mk l b) (.mk 0 iU c) W:=λa O=>by
 have I:fits f (.mk l b) (.mk 0 iU c)=jz:=by have C:(ByteArray.mk #[]).size=0:=Z;simp[fits,Ty.l,Ty.ps,V.n,V.s,V.l,P,h.len,C]
 have g:head (.mk l b) (.mk 0 iU c) = []:=by simp[head,Ty.l,P]
 rw[put,aL I,g,bL];have:=h.run f (t:=.mk l b) (by show l.2≠2;omega) [] Z a O;show(match putE _ _ c 0 a with|none=>zt|some o=>if iY o<=1000 then je o else zt)=_;grind
abbrev lq:Lt:=⟨63,0,1,0,1,vy,0⟩
abbrev l4:Lt:=⟨52,0,4,-2147483648,2147483647,vy,0⟩
abbrev l8:Lt:=⟨56,0,8,-9223372036854775808,9223372036854775807,vy,0⟩
abbrev lb:Lt:=⟨98,1,0,0,0,vy,0⟩
abbrev lt:Lt:=⟨116,1,0,0,0,jz,0⟩
abbrev lr:Lt:=⟨40,3,0,0,0,vy,41⟩
abbrev tq:Ty:=.mk lq []
abbrev t4:Ty:=.mk l4 []
abbrev t8:Ty:=.mk l8 []
abbrev tb:Ty:=.mk lb []
abbrev tt:Ty:=.mk lt []
abbrev num(n:Int):V:=.mk n ⟨#[]⟩ []
abbrev txt(s:y):V:=.mk 0 s []
theorem puts_4{n:Int}(C:-2147483648<=n)(J:n<=2147483647):KM f (k+1) t4 (num n) (be n 4):=by exact W5s
theorem puts_8{n:Int}(C:-9223372036854775808<=n)(J:n<=9223372036854775807):KM f (k+1) t8 (num n) (be n 8):=by exact W5s
theorem puts_t{k:Nat}{s:y}(C:s.size<=200)(J:f s=jz):KM f (k+1) tt (txt s) (be s.size 4++s.data.toList):=Pf f (by simp[fits,Ty.l,V.n,V.s,V.l,C,J]) Z
theorem parse_hello:parse [40,52,41]=je (.mk lr [t4]):=Ac
theorem parse_error:parse [40,52,56,52,41]=je (.mk lr [t4,t8,t4]):=Ac
theorem parse_event:parse [40,52,56,52,52,116,41]=je (.mk lr [t4,t8,t4,t4,tt]):=Ac
theorem parse_state:parse [40,52,56,52,40,56,56,52,52,41,41]=je (.mk lr [t4,t8,t4,.mk lr [t8,t8,t4,t4]]):=Ac
theorem puts_hello{n:Int}(C:-2147483648<=n)(J:n<=2147483647):put f 9 [] (.mk lr [t4]) (.mk 0 iU [num n])=je (be n 4):=by have:=puts_rec f (k:=8) (l:=lr) Z (.cons (puts_4 f C J) .nil) [] (by simp[be_length]);simpa using this
theorem puts_error{m z e:Int}(o:-2147483648<=m)(i:m<=2147483647)(W:-9223372036854775808<=z)(T:z<=9223372036854775807)(g:-2147483648<=e)(A:e<=2147483647):put f 9 [] (.mk lr [t4,t8,t4]) (.mk 0 iU [num m,num z,num e])=je (be m 4++be z 8++be e 4):=by have:=puts_rec f (k:=8) (l:=lr) Z (.cons (puts_4 f o i) (.cons (puts_8 f W T) (.cons (puts_4 f g A) .nil))) [] (by simp[be_length]);simpa using this
theorem puts_event{e:Int}{d:iF}(o:-2147483648<=m)(i:m<=2147483647)(W:-9223372036854775808<=z)(T:z<=9223372036854775807)(g:-2147483648<=e)(A:e<=2147483647)(S:-2147483648<=x)(K:x<=2147483647)(Q:d.size<=200)(q:f d=jz):put f 9 [] (.mk lr [t4,t8,t4,t4,tt]) (.mk 0 iU [num m,num z,num e,num x,txt d])=je (be m 4++be z 8++be e 4++be x 4++be d.size 4++d.data.toList):=by have y:O d.1.1=d.size:=Z;have:=puts_rec f (k:=8) (l:=lr) Z (.cons (puts_4 f o i) (.cons (puts_8 f W T) (.cons (puts_4 f g A) (.cons (puts_4 f S K) (.cons (puts_t f Q q) .nil))))) [] N6;simpa using this
theorem puts_path{m z e:Int}{p:iF}(o:-2147483648<=m)(i:m<=2147483647)(W:-9223372036854775808<=z)(T:z<=9223372036854775807)(g:-2147483648<=e)(A:e<=2147483647)(Q:p.size<=200)(q:f p=jz):put f 9 [] (.mk lr [t4,t8,t4,tt]) (.mk 0 iU [num m,num z,num e,txt p])=je (be m 4++be z 8++be e 4++be p.size 4++p.data.toList):=by have y:O p.1.1=p.size:=Z;have:=puts_rec f (k:=8) (l:=lr) Z (.cons (puts_4 f o i) (.cons (puts_8 f W T) (.cons (puts_4 f g A) (.cons (puts_t f Q q) .nil)))) [] N6;simpa using this
theorem puts_state{m z e a b c d:Int}(o:-2147483648<=m)(i:m<=2147483647)(W:-9223372036854775808<=z)(T:z<=9223372036854775807)(g:-2147483648<=e)(A:e<=2147483647)(h:-9223372036854775808<=a)(j:a<=9223372036854775807)(M:-9223372036854775808<=b)(D:b<=9223372036854775807)(n:-2147483648<=c)(x:c<=2147483647)(k:-2147483648<=d)(E:d<=2147483647):put f 9 [] (.mk lr [t4,t8,t4,.mk lr [t8,t8,t4,t4]]) (.mk 0 iU [num m,num z,num e,.mk 0 iU [num a,num b,num c,num d]])=je (be m 4++be z 8++be e 4++be a 8++be b 8++be c 4++be d 4):=by have:=puts_rec f (l:=lr) Z (.cons (puts_4 f o i) (.cons (puts_8 f W T) (.cons (puts_4 f g A) (.cons (puts_rec f (k:=7) (l:=lr) Z (.cons (puts_8 f h j) (.cons (puts_8 f M D) (.cons (puts_4 f n x) (.cons (puts_4 f k E) .nil))))) .nil)))) [] (by simp[be_length]);simpa using this
end Orch
namespace Go.Proofs.Y
open Go.RowKit
theorem Qo(w:M)(a:List (Orch.V×p8))(S:iG)(F:a≠[])(cs:iJ)(f:cs.toList=a.flatMap Eu)(I:uy)(n:Nat)(z:n=O a)(l:List Orch.V)(K:l=a.map jw)(H:S w.1.size)(Y:∀p∈a,Ea (w.alloc (pf cs I)) S p.1.l p.2):Ea (w.alloc (pf cs I)) S l (xh (je (iQ w.1.size)) n n):=by subst z K;refine .row a _ _ F (aA _) H (λj u b=>?_) Y;rw[←f]at b;exact cellOf (iy w _) (by simpa using b)
def Fr(base:Nat)(w':M)(e:Ending)(body:iE):Prop:=∃ov,e=ia ov/\w'.ownsRow base 5 1 ov (Orch.be (O body) 4++body).length (A4 (Orch.be (O body) 4++body))
theorem Fr.low{b a:Nat}{e:Ending}(h:Fr b B e body)(D:a<=b):Fr a B e body:=by obtain⟨t,rfl,O⟩:=h;refine⟨t,Z,O.1,?_⟩;obtain h|⟨g,I,H,C,J,T⟩:=O.2;exact Or.inl h;exact Or.inr ⟨g,I,H,C,aD D J,T⟩
section
variable {o:iD}
theorem Aa8(U:Hq o F)(w:M)(V:F w)(c:Table w)(n:Int)(C:-2147483648<=n)(J:n<=2147483647):yf ow 113 #[Y n] w λe B=>Fr w.1.size B e (Orch.be n 4)/\iT w B:=by (have R:Hid (yf ow 122 #[zx ⟨#[40,52,41]⟩,xh (je (iQ w.1.size)) 1 1] (w.alloc (pf #[Y n,zx iU,xh zt 0 0] 180)) λe B=>Fr w.1.size B e (Orch.be n 4)/\iT w B):=by refine(Wo U _ (U.2 (U.3 V) (Bg w _) V) (c.below (Bg w _) c.pos) ⟨#[40,52,41]⟩ [Orch.num n] (λb=>b<(w.alloc (pf #[Y n,zx iU,xh zt 0 0] 180)).1.size) _ (Qo w [(Orch.num n,xh zt 0 0)] _ Ae _ G0 180 1 Z _ Z Ae ?_) (λ_ h=>h) _ Orch.parse_hello _ (Orch.puts_hello o C J) Ao Ao).mono ?_;intro p Q;simp at Q;subst Q;exact .nil zt 0;rintro e B⟨h,D⟩;exact⟨Fr.low h Ae,(Bg w _).trans (D.mono Ae)⟩);go_enter func113,ntmps113;exact Hyx
abbrev Mt(kind mark:Int)(p d n:y)(ver:Int)(wt:Bool):p8:=mn #[Y kind,Y mark,zx p,zx d,zx n,Y ver,o0 wt]
abbrev A9(kind mark:Int)(p d n:y)(ver:Int)(wt:Bool):Array p8:=#[Y kind,Y mark,zx p,zx d,zx n,Y ver,o0 wt]
theorem Aar(U:Hq o F)(w:M)(V:F w)(c:Table w)(kind T:Int)(p d n:y)(K:Int)(a:Bool)(z e:Int)(f:-2147483648<=T)(i:T<=2147483647)(W:-9223372036854775808<=z)(g:z<=9223372036854775807)(j:-2147483648<=e)(A:e<=2147483647):yf ow 184 #[Mt kind T p d n K a,Y z,Y e] w λx B=>Fr w.1.size B x (Orch.be T 4++Orch.be z 8++Orch.be e 4)/\iT w B:=by (have R:Hid (yf ow 122 #[zx ⟨#[40,52,56,52,41]⟩,xh (je ⟨iZ w.1+1,0,zt⟩) 3 3] ((w.alloc (pf (A9 kind T p d n K a) 128)).alloc (pf #[Y T,zx iU,xh zt 0 0,Y z,zx iU,xh zt 0 0,Y e,zx iU,xh zt 0 0] 180)) λx B=>Fr w.1.size B x (Orch.be T 4++Orch.be z 8++Orch.be e 4)/\iT w B):=by have S:iT w ((w.alloc (pf (A9 kind T p d n K a) 128)).alloc (pf #[Y T,zx iU,xh zt 0 0,Y z,zx iU,xh zt 0 0,Y e,zx iU,xh zt 0 0] 180)):=(Bg w _).alloc Ae _;have q:=Qo (w.alloc (pf (A9 kind T p d n K a) 128)) [(Orch.num T,xh zt 0 0),(Orch.num z,xh zt 0 0),(Orch.num e,xh zt 0 0)] (λb=>b<iZ w.1+2) Ae #[Y T,zx iU,xh zt 0 0,Y z,zx iU,xh zt 0 0,Y e,zx iU,xh zt 0 0] G0 180 3 Z _ Z Ae (by intro p Q;simp at Q;obtain rfl|rfl|rfl:=Q<;>exact .nil zt 0);rw[show(w.alloc (pf (A9 kind T p d n K a) 128)).1.size=iZ w.1+1 by simp]at q;refine(Wo U _ (U.2 (U.3 V) S V) (c.below S c.pos) ⟨#[40,52,56,52,41]⟩ _ _ _ q (λb h=>HM) _ Orch.parse_error _ (Orch.puts_error o f i W g j A) Ao Ao).mono ?_;rintro e B⟨h,D⟩;exact⟨Fr.low h Ai,S.trans (D.mono Ai)⟩);go_enter func184,ntmps184;go_wp2_with (go_at_call 122;refine R.mono ?_;rintro e H⟨⟨t,rfl,O⟩,D⟩;have N:=hide O;have HB:=hide D;clear O D);go_ret;exact⟨⟨_,Z,N⟩,HB⟩
theorem Aas(U:Hq o F)(w:M)(V:F w)(c:Table w)(z x:Int)(p:iF)(W:-9223372036854775808<=z)(T:z<=9223372036854775807)(S:-2147483648<=x)(K:x<=2147483647)(f:p.size<=200)(q:o p=jz):yf ow 189 #[Y z,Y x,zx p] w λy B=>Fr w.1.size B y (Orch.be (-1) 4++Orch.be z 8++Orch.be 0 4++Orch.be x 4++Orch.be p.size 4++p.data.toList)/\iT w B:=by (have R:Hid (yf ow 122 #[zx ⟨#[40,52,56,52,52,116,41]⟩,xh (je (iQ w.1.size)) 5 5] (w.alloc (pf #[Y (-1),zx iU,xh zt 0 0,Y z,zx iU,xh zt 0 0,Y 0,zx iU,xh zt 0 0,Y x,zx iU,xh zt 0 0,Y 0,zx p,xh zt 0 0] 180)) λy B=>Fr w.1.size B y (Orch.be (-1) 4++Orch.be z 8++Orch.be 0 4++Orch.be x 4++Orch.be p.size 4++p.1.1)/\iT w B):=by have ai:O p.1.1=p.size:=Z;have l:=Qo w [(Orch.num (-1),xh zt 0 0),(Orch.num z,xh zt 0 0),(Orch.num 0,xh zt 0 0),(Orch.num x,xh zt 0 0),(Orch.txt p,xh zt 0 0)] (λb=>b<iZ w.1+1) Ae #[Y (-1),zx iU,xh zt 0 0,Y z,zx iU,xh zt 0 0,Y 0,zx iU,xh zt 0 0,Y x,zx iU,xh zt 0 0,Y 0,zx p,xh zt 0 0] G0 180 5 Z _ Z Ae (by intro p f;simp at f;obtain rfl|rfl|rfl|rfl|rfl:=f<;>exact .nil zt 0);refine(Wo U _ (U.2 (U.3 V) (Bg w _) V) (c.below (Bg w _) c.pos) ⟨#[40,52,56,52,52,116,41]⟩ _ _ _ l (λb h=>HM) _ Orch.parse_event _ (Orch.puts_event o Aa Aa W T Aa Aa S K f q) Di Vw).mono ?_;rintro e B⟨h,D⟩;exact⟨Fr.low h Ae,(Bg w _).trans (D.mono Ae)⟩);go_enter func189,ntmps189;exact Hyx
end
attribute [local go_sem ↓] Go.wp_at_zero Go.wp_at_succ
theorem Ys{g:Array Oper}{o:Oper}{a:Act}{w:M}{K:Act->M->Prop}{Q:Exit->Act->M->Prop}{E:Prop}(H:o.guard=zt)(s x:Operand)(t:uy)(O:o.op=.call { callee:=.builtin .append,args:=#[s,x],argTypes:=#[t,t] })(v u:p8)(f:a.eval s=v)(Z:a.eval x=u)(F:iP)(Y:∃U B,(tv #[t,t] o.type #[v,u]).run P w=.ok U B/\F U B)(h:∀U B,F U B->K (a.put o.dst U) B):if Region.wanted o (yielded g a.tmps)=jz then Oper.wp P o a w K Q else E:=by rw[aL (by simp[Region.wanted,H])];have ⟨U,B,Y,hF⟩:=Y;rw[Oper.wp,execOp];simp[O,resolve,invoke,builtin,Sem.run_bind,Sem.run_pure,Result.andThen_ok,cD,bF,cM,f,Z,Y];exact h _ _ hF
inductive Ep(W0:qi):qi->Prop
 |refl:Ep W0 W0
 |step {W:qi} (h:Ep W0 W):Ep W0 W.drew
theorem Ep.heap{b:M}(h:Ep b W):W.1=b.heap:=by induction h with|refl=>rfl|step h O=>exact O
def Ui(w:M)(kind m:Int)(p d n:y)(ver:Int)(wt:Bool)(z:Int):M:=(w.alloc (pf #[Y kind,Y m,zx p,zx d,zx n,Y ver,o0 wt] 128)).alloc (pf #[Y m,zx iU,xh zt 0 0,Y z,zx iU,xh zt 0 0,Y 0,zx iU,xh zt 0 0] 180)
theorem Ad0(w:M)(kind:Nat)(T:Int)(p d n:y)(K:Int)(a:Bool)(z:Int)(E:kind<8)(O:y)(Z:iM)(h N:Nat)(R:Option Addr->Nat->Nat->M->Prop)(f:iP)(s:w.cell? ⟨3,kind * 3+1,zt⟩=je (zx O))(r:3<iZ w.1)(X:Hid (∀W,Ep (Ui w kind T p d n K a z) W->∃U P,(tv #[174,174] 174 #[xh (je ⟨iZ w.1+1,0,zt⟩) 3 3,xh Z h N]).run ow W=.ok U P/\∃b i c,U=xh b i c/\P.cell? (iQ w.1.size)=je (Y kind)/\P.cell? ⟨3,kind * 3+1,zt⟩=je (zx O)/\Hid (R b i c P)))(k:Hid (∀b i c P,R b i c P->∀W,Ep P W->yf ow 122 #[zx O,xh b i c] W λe B=>∃t,e=ia t/\Hid (f t B))):yf ow 168 #[Y 1,Mt kind T p d n K a,Y z,xh Z h N] w λe B=>∃t,e=ia t/\f t B:=by
 have D:(Ui w kind T p d n K a z).cell? ⟨3,kind * 3+1,zt⟩=je (zx O):=by rw[Ui];rwa[kg _ _ _ Ai,kg _ _ _ (by simpa using r)]
 have u:(Ui w kind T p d n K a z).cell? (iQ w.1.size)=je (Y kind):=by rw[Ui,kg _ _ _ Ae];exact cellOf (iy w _) iW
 have v:(kind:Int)<8:=Aa;go_enter func168,ntmps168;go_wp2;rw[show(w.alloc (pf #[Y kind,Y T,zx p,zx d,zx n,Y K,o0 a] 128)).alloc (pf #[Y T,zx iU,xh zt 0 0,Y z,zx iU,xh zt 0 0,Y 0,zx iU,xh zt 0 0] 180)=Ui w kind T p d n K a z from iW];generalize Ui w kind T p d n K a z=g at *;go_region_law (first|(refine Ys iW (.tmp 23) (.tmp 24) 174 Ac (xh (je ⟨iZ w.1+1,0,zt⟩) 3 3) (xh Z h N) Ac Ac _ (X _ (by (first|exact Ep.refl|exact Ep.step Ep.refl|exact Ep.step (Ep.step Ep.refl)|exact Ep.step (Ep.step (Ep.step Ep.refl))|exact Ep.step (Ep.step (Ep.step (Ep.step Ep.refl)))))) ?_;rintro _ P⟨b,i,c,rfl,Q,l,q⟩)|(go_simp;refine(k b i c P q _ (by (first|exact Ep.refl|exact Ep.step Ep.refl|exact Ep.step (Ep.step Ep.refl)|exact Ep.step (Ep.step (Ep.step Ep.refl))|exact Ep.step (Ep.step (Ep.step (Ep.step Ep.refl)))))).mono ?_;rintro e B⟨t,rfl,o⟩));all_goals (go_wp2;go_ret;exact⟨_,iW,o⟩)
theorem Ep.under{b:M}(h:Ep b W){B:Nat}{a:M}(D:jg B a b):jg B a W:=by induction h with|refl=>exact D|step h O=>exact O.drew
theorem Ep.cell{b:M}(h:Ep b W)(a:Addr):W.cell? a=b.cell? a:=by unfold World.cell?;rw[h.heap]
section
variable {o:iD}
abbrev Aj0(m z:Int):List (Orch.V×p8):=[(Orch.num m,xh zt 0 0),(Orch.num z,xh zt 0 0),(Orch.num 0,xh zt 0 0)]
theorem TG(U:Hq o F)(w:qi)(V:F w)(x:Table w)(kind:Nat)(hk:kind<8)(T:Int)(p d n:iF)(K:Int)(a:Bool)(z:Int)(O:iF)(hs:w.cell? ⟨3,kind * 3+1,zt⟩=je (zx O))(h:3<iZ w.1)(l:List Orch.V)(lv:p8)(am:l = []->lv=xh zt 0 0)(an:iY l<=100)(y:Ea w (λb=>b<iZ w.1) l lv)(i:Orch.Ty)(hp:Orch.parse O.data.toList=je i)(body:iE)(f:Orch.put o 9 [] i (.mk 0 iU ([Orch.num T,Orch.num z,Orch.num 0]++l))=je body)(h0:0<iY body)(hl:iY body<=1000):yf ow 168 #[iS 1,Mt kind T p d n K a,iS z,lv] w λe B=>Fr w.1.size B e body/\iT w B:=by
 obtain⟨ma,E,ag⟩:=y.shape;have G:iT w (Ui w kind T p d n K a z):=(Bg w _).alloc Ae _;have C:(Ui w kind T p d n K a z).1.size=iZ w.1+2:=by simp[Ui]
 have hg:(Ui w kind T p d n K a z).1[iZ w.1+1]?=je (pf #[iS T,zx iU,xh zt 0 0,iS z,zx iU,xh zt 0 0,iS 0,zx iU,xh zt 0 0] 180):=by have:=iy (w.alloc (pf #[iS kind,iS T,zx p,zx d,zx n,iS K,o0 a] 128)) (pf #[iS T,zx iU,xh zt 0 0,iS z,zx iU,xh zt 0 0,iS 0,zx iU,xh zt 0 0] 180);simpa[Ui] using this
 have H:(Ui w kind T p d n K a z).cell? (iQ w.1.size)=je (iS kind):=by rw[Ui];simp
 obtain⟨L,Q,a6,aq,ar⟩:=uu Tryz.info180;have X:=underlying174;generalize af:iY l=ln at ag an;subst ag;generalize hA:Ui w kind T p d n K a z=W0 at *;refine(Ad0 w kind T p d n K a z hk O ma ln E (λm S v P=>Ea P (λb=>b<iZ P.1) ([Orch.num T,Orch.num z,Orch.num 0]++l) (xh m S v)/\iT w P) (λt B=>Fr w.1.size B (ia t) body/\iT w B) hs h ?_ ?_).mono ?_;rw[hA];intro W k;have R:=k.heap;have N:=k.under G;cases y with|nil=>have e:=am iW;cases e;refine⟨_,W,run_append_nothing W 174 174 174 180 L X Q _ 3 3 (aA _) _ (Src.ofNil W X 0),_,_,_,iW,(k.cell _).trans H,(k.cell _).trans ((G.cell (p:=⟨3,kind * 3+1,zt⟩) h).trans hs),?_,N⟩;refine .row (Aj0 T z) _ _ Ae (aA _) (by rw[R,C];omega) (λj u I=>((k.cell _).trans (cellOf hg (by simpa[Eu,Orch.V.n,Orch.V.s] using I)))) (λq f=>?_);simp at f;obtain rfl|rfl|rfl:=f<;>exact .nil zt 0|row ps g ai ao aj hS hc Y=>have ah:W.ownsRow w.1.size 180 3 (xh (je ⟨iZ w.1+1,0,zt⟩) 3 3) 3 ((Aj0 T z).flatMap Eu):=⟨iW,qx ⟨iZ w.1+1,3,_,iW,Aa,by rwa[R],Aa,Am,Ac,Ac⟩⟩;obtain⟨Z,a7,P,s,c,ad,ak,a8⟩:=run_append_lies (P:=ow) W 174 174 w.1.size 180 L _ 3 _ X Q a6 aq ar iW Ad _ 3 _ ah (iQ g) (iY ps) E (ps.flatMap Eu) (Ae5 Eu 3 (λ_=>rfl) ps) (λj u I=>by (have:Addr.add (iQ g) j=(iR g j):=by cases j<;>simp[Addr.add]);rw[this];exact(N.cell (p:=(iR g j)) hS).trans (hc j u I)) (λu r=>by obtain⟨q,f,r⟩:=List.mem_flatMap.1 r;have:=Y q f;obtain⟨m,v,e⟩:=this.shape;simp[Eu,bM,dS,or_false]at r;obtain rfl|rfl|rfl:=r;rfl;rfl;rw[e];rfl) (eV.2 ao) Am Aa N.4 _ iW;have A:iT w P:=N.grown ad (by rw[R,C];omega) (λj I=>by simp[vi]at I;omega);refine⟨_,P,s,_,_,_,iW,?_,((A.cell (p:=⟨3,kind * 3+1,zt⟩) h).trans hs),?_,A⟩;rw[rp (w:=W) (ad.5 _ (by rw[R,C];show iZ w.1<_;omega) (λe=>by simp[vi]at e))];exact(k.cell _).trans H;(have aa:∀j u,((Aj0 T z++ps).flatMap Eu)[j]?=je u->P.cell? (iR Z j)=je u:=λj u I=>by rw[List.flatMap_append]at I;obtain⟨e,_⟩|⟨g2,ab,ae,e,_,J,al,h4,h5,h6⟩:=c.2;cases e;cases e;rw[←h6,eM]at I;split at I;exact cellOf J (by simpa using I);cases I);have:=Ea.row (w:=P) (S:=λb=>b<iZ P.1) (Aj0 T z++ps) Z a7 Ae (by obtain⟨e,_⟩|⟨g2,ab,ae,e,_,J,al,h4,h5,h6⟩:=c.2;cases e;cases e;simp;omega) a8 aa (λq f=>by obtain f|f:=bC.1 f;simp at f;obtain rfl|rfl|rfl:=f<;>exact .nil zt 0;exact(Y q f).congr (λb D=>aB D A.4) (λb D=>A.5 b D));simp only[aH,cP]at this;exact this
 intro m S v P hR W k;have M:=k.under hR.2;refine(Wo U W (U.2 (U.3 V) M V) (x.below M x.pos) O _ (λb=>b<iZ W.1) _ (hR.1.congr (λb a1=>by rwa[k.heap]) (λb _=>by rw[k.heap])) (λ_ a1=>a1) i hp body f h0 hl).mono ?_;rintro e B⟨⟨t,rfl,c⟩,D⟩;exact⟨t,iW,Fr.low ⟨t,iW,c⟩ M.4,M.trans (D.mono M.4)⟩;grind
end
end Go.Proofs.Y
namespace Go.Proofs.Y
open Go.RowKit
theorem Aqd(w:qi)(R:y)(L:iM)(T k:Nat)(h c P:Nat)(s V:Int)(K:Bool)(u:Nat)(q:Option Addr->Nat->Nat->qi->Prop)(r:qi->Option Addr->Nat->Nat->qi->Prop)(g:Hid (yf ow 138 #[zx R] w λe B=>(∃p m n,e=ia (gq #[Ly h c P s V K u (xh p m n),o0 jz])/\q p m n B)/\iT w B))(l:Hid (∀S W p m n,q p m n S->iT S W->iT w W->yf ow 144 #[Ly h c P s V K u (xh p m n),xh L T k] W λe B=>(∃b d a i j,e=ia (gq #[vv b d (xh a i j),o0 jz])/\r W a i j B)/\iT W B)):yf ow 115 #[zx R,xh L T k] w λe B=>(∃a i j W J,e=ia (gq #[xh a i j,o0 jz])/\r W a i j J/\iT J B/\iZ w.1<=iZ W.1)/\iT w B:=by go_enter func115,ntmps115;go_wp2_with (first|(go_at_call 138;refine g.mono ?_;rintro e H⟨⟨p,m,n,rfl,f⟩,M⟩;have o:=hide f;have O:=hide M;clear M f)|(go_at_call 144;refine(l H _ p m n o (Bg _ _) (O.alloc O.4 _)).mono ?_;rintro e E⟨⟨b,d,a,i,j,rfl,Y⟩,D⟩;have x:=hide Y;have C:=hide ((O.alloc O.4 _).trans (D.mono V5));clear D Y));go_ret2;exact⟨⟨_,_,_,_,_,Z,x,Bg _ _,V5⟩,C.alloc C.4 _⟩
section
variable {o:iD}
theorem Ur(U:Hq o F)(w:qi)(V:F w)(A:Table w)(R:iF)(t:Orch.Ty)(Q:Orch.parse R.data.toList=je t)(T:p8)(l:iE)(K:iY l<=1000)(u:Hy w T l)(d:Orch.V)(y:AK o t l=je d):yf ow 115 #[zx R,T] w λe a=>(∃k,e=ia (gq #[k,o0 jz])/\Ea a (λb=>iZ w.1<=b/\b<iZ a.1) d.l k)/\iT w a:=by have z:=u;obtain⟨b,off,r,rfl,C,Y,D⟩:=u;have M:=Ms w R A Q;refine(Aqd w R _ _ _ t.l.1.toNat t.l.2 t.l.3 t.l.4 t.l.5 t.l.6 t.l.7.toNat (λp m n a=>Ff a (λb=>b<iZ a.1) t.ps (xh p m n)) (λW c i j a=>Ea a (λb=>iZ W.1<=b/\b<iZ a.1) d.l (xh c i j)) (M.mono ?_) (λS W p m n Z N x=>?_)).mono ?_;exact Djk;have:=Aih U W (U.2 (U.3 V) x V) t (R6 Q) _ _ (Z.congr (λb h=>aB h N.4) (λb D=>N.5 b D)) (λ_ h=>h) _ l Aa (z.below x (aA _)) y;refine this.mono ?_;rintro e a⟨⟨k,rfl,O⟩,D⟩;obtain⟨c,B,rfl⟩:=BI.shape O;exact⟨⟨_,_,_,_,_,iW,BI.vs O⟩,D⟩;rintro e a⟨⟨c,i,j,W,J,rfl,q,g,s⟩,D⟩;exact⟨⟨_,iW,q.congr (λb D=>⟨aD s D.1,aB D.2 g.4⟩) (λb D=>g.5 b D.2)⟩,D⟩
theorem Xl{w:qi}{S:iG}{v:Orch.V}{a:List Orch.V}{d:p8}(h:Ea w S (v::a) d):∃g I,d=xh (je (iQ g)) (O a+1) I/\O a+1<=I/\S g/\∀j (x:Orch.V),(v::a)[j]?=je x->w.cell? ⟨g,j * 3,zt⟩=je (iS x.n)/\w.cell? ⟨g,j * 3+1,zt⟩=je (zx x.s):=by generalize f:v::a=L at h;cases h with|nil=>cases f|row c g I F C H M Y=>(have b:O c=O a+1:=by have:=aK O f;simpa using this.symm);refine⟨g,I,by rw[b],Aa,H,λj x Z=>?_⟩;rw[aV]at Z;cases Q:c[j]? with|none=>grind|some q=>rw[Q]at Z;simp[aI,aU]at Z;subst Z;refine⟨M _ _ ?_,M _ _ ?_⟩;have:=Rm Eu 3 (λ_=>rfl) c j 0 Aa;rw[gY]at this;rw[this,Q];rfl;have:=Rm Eu 3 (λ_=>rfl) c j 1 Aa;rw[this,Q];rfl
theorem FZ(U:Hq o F)(w:qi)(V:F w)(d:Table w)(T:p8)(l:iE)(K:O l<=1000)(u:Hy w T l)(n:Int)(y:AK o (.mk Orch.lr [Orch.t4]) l=je (.mk 0 iU [Orch.num n])):yf ow 112 #[T] w λe B=>e=ia (gq #[iS n,o0 jz])/\iT w B:=by have I:=Ur U w V d ⟨#[40,52,41]⟩ _ Orch.parse_hello T l K u _ y;obtain⟨b,off,a,rfl,C,Y,D⟩:=u;have r:Hid (yf ow 115 #[zx ⟨#[40,52,41]⟩,xh (je (iR b off)) (O l) a] w λe B=>∃g c,e=ia (gq #[xh (je (iQ g)) 1 c,o0 jz])/\B.cell? (iQ g)=je (iS n)/\iT w B):=I.mono (by rintro e B⟨⟨h,rfl,q⟩,z⟩;obtain⟨g,c,rfl,_,_,M⟩:=Xl q;exact⟨g,c,Z,(M 0 _ Z).1,z⟩);clear I D y;go_enter func112,ntmps112;go_wp2_with (go_at_call 115;refine r.mono ?_;rintro e H⟨g,c,rfl,c0,z⟩;have f:=hide z;clear z);go_ret2;exact⟨Z,f⟩
theorem Wq(w:qi)(T:p8)(l:iE)(q:4<=O l)(K:O l<=1000)(u:Hy w T l)(k:Int)(E:Orch.sgn (l.take 4)=k)(a:1<=k)(M:k<=7):yf ow 114 #[T] w λe B=>e=ia (gq #[iS k,o0 jz])/\B=w:=by obtain⟨b,off,I,rfl,C,Y,D⟩:=u;(have V:Hid (yf ow 155 #[xh (je (iR b off)) 4 I] w λe B=>e=ia (iS k)/\B=w):=by have:=RQ w b off I _ Al (D.take (n:=4));rwa[E]at this);go_enter func114,ntmps114;go_wp2_with (go_at_call 155;refine V.mono ?_;rintro e H⟨rfl,rfl⟩);go_ret2;exact⟨Z,Z⟩
end
attribute [local go_sem ↓] Go.wp_at_zero Go.wp_at_succ
structure Cb(w w':qi)(g:Nat)(cs:iJ)(t:uy):Prop where
 blk:w'.1[g]?=je (pf cs t)
 grown:w.grownBy w' (je g)
theorem Cb.refl{w:M}{cs:iJ}(h:w.1[g]?=je (pf cs t)):Cb w w g cs t:=⟨h,⟨Z,Z,Z,aA _,λ_ _ _=>rfl⟩⟩
theorem Cb.set{w:M}{cs:iJ}(h:Cb w B g cs t)(j:Nat)(v:p8):Cb w (B.setCell (iR g j) v) g (cs.setIfInBounds j v) t:=⟨wc _ _ _ _ _ _ h.1,h.2.1,h.2.2,h.2.3,by simp only[World.setCell];split<;>simp[h.2.4],λk E a=>(tu _ _ _ _ (λe=>a (by rw[e]))).trans (h.2.5 k E a)⟩
theorem Cb.drew{w:M}{cs:iJ}(h:Cb w B g cs t):Cb w B.drew g cs t:=⟨h.blk,h.grown.os,h.grown.tape,h.grown.output,h.grown.size,h.grown.block⟩
theorem OV(w:M)(P m g off I:Nat)(N:Int)(p v:y)(Y:w.1[P]?=je (pf (A9 1 N iU iU iU 0 vy) 128))(C:w.cell? ⟨g,off+1,zt⟩=je (zx p))(J:w.cell? ⟨g,off+4,zt⟩=je (zx v))(a:g≠P):yf ow 116 #[HZ P,xh (je (iR g off)) 2 I] w λe B=>e=ia (gq #[])/\Cb w B P (A9 1 N p v iU 0 vy) 128:=by have ⟨c0,_,R,U⟩:=Am2 Y iW;have ⟨_,_,K,c,_⟩:=It Y;have z:=hide Y;clear Y;have Z:=hide (((Cb.refl z).set 2 (zx p)).set 3 (zx v));exact W86
theorem OW(w:M)(P m g off I:Nat)(N:Int)(p:y)(v:Int)(Y:w.1[P]?=je (pf (A9 2 N iU iU iU 0 vy) 128))(C:w.cell? ⟨g,off+1,zt⟩=je (zx p))(J:w.cell? ⟨g,off+3,zt⟩=je (iS v))(a:g≠P):yf ow 116 #[HZ P,xh (je (iR g off)) 2 I] w λe B=>e=ia (gq #[])/\Cb w B P (A9 2 N p iU iU v vy) 128:=by have ⟨c0,_,R,_,_,l⟩:=Lj Y iW;have ⟨_,_,K,_,_,c,_⟩:=It Y;have z:=hide Y;clear Y;have Z:=hide (((Cb.refl z).set 2 (zx p)).set 5 (iS v));exact W86
theorem Aez(w:M)(P m g off I:Nat)(N:Int)(p d:y)(v:Int)(Y:w.1[P]?=je (pf (A9 3 N iU iU iU 0 vy) 128))(C:w.cell? ⟨g,off+1,zt⟩=je (zx p))(J:w.cell? ⟨g,off+4,zt⟩=je (zx d))(T:w.cell? ⟨g,off+6,zt⟩=je (iS v))(a:g≠P):yf ow 116 #[HZ P,xh (je (iR g off)) 3 I] w λe B=>e=ia (gq #[])/\Cb w B P (A9 3 N p d iU v vy) 128:=by have ⟨c0,_,R,U,_,l⟩:=Lj Y iW;have ⟨_,_,K,b,_,c,_⟩:=It Y;have z:=hide Y;clear Y;have Z:=hide ((((Cb.refl z).set 2 (zx p)).set 3 (zx d)).set 5 (iS v));exact W86
end Go.Proofs.Y
namespace Go.Proofs.Y
open Go.RowKit
theorem Akz{Z:M}{o:Obj}{cs d:iJ}{S:uy}(R:Cb (E.alloc o) Z E.1.size cs t)(h:E.1[k]?=je (pf d S)):Z.1[k]?=je (pf d S):=by have a:=ltOf h;rwa[R.2.5 k Ai Ai,np _ _ _ a]
theorem Amb(w:qi)(kind:Nat)(h8:kind<8)(L:iM)(T k u:Nat)(h2:2<=u)(O:iF)(N:Int)(s:¬N<0)(p d S:iF)(K:Int)(n:Bool)(b:Nat->Nat->qi->Prop)(hs:w.cell? ⟨0,kind * 3+1,zt⟩=je (zx O))(F:0<iZ w.1)(f:Hid (∀W,iT w W->yf ow 114 #[xh L T k] W λe B=>e=ia (gq #[iS kind,o0 jz])/\B=W))(r:Hid (∀W,iT w W->yf ow 115 #[zx O,xh L T k] W λe B=>∃g c,e=ia (gq #[xh (je (iQ g)) u c,o0 jz])/\u<=c/\B.cell? (iR g 3)=je (iS N)/\Hid (b g c B/\g<iZ B.1/\iT W B)))(j:Hid (∀g c J sv,b g c J->g<iZ J.1->(4<=u->sv=xh (je (iR g 6)) (u - 2) (c - 2))->∀a,iT J a->a.1[iZ J.1]?=je (pf (A9 kind N iU iU iU 0 vy) 128) ->
   yf ow 116 #[HZ J.1.size,sv] a λe B=>e=ia (gq #[])/\Cb a B J.1.size (A9 kind N p d S K n) 128)):yf ow 64 #[iS 1,xh L T k] w λe B=>e=ia (gq #[Mt kind N p d S K n,o0 jz])/\iT w B:=by have X:=hide (iy w (pf (A9 0 0 iU iU iU 0 vy) 128));have V:(w.alloc (pf (A9 0 0 iU iU iU 0 vy) 128)).cell? ⟨0,kind * 3+1,zt⟩=je (zx O):=(kg _ _ _ F).trans hs;have x:(kind:Int)<8:=Aa;have y:(1:Int)<(u:Int):=Aa;have A:(2:Int)<=(u:Int):=Aa;clear hs;go_enter func64,ntmps64;go_wp2_with (first|(go_at_call 114;refine(f _ (Bg _ _)).mono ?_;rintro e w1⟨rfl,rfl⟩)|(go_at_call 115;refine(r _ (Bg _ _)).mono ?_;rintro e E⟨g,c,rfl,M,U,z⟩;have D:(2:Int)<=(c:Int):=Aa;have C:=hide ((Bg _ _).trans (z.2.2.mono Ae));have m:=hide ((z.2.2.5 _ (ltOf X)).trans X)));all_goals refine(j g c E _ z.1 z.2.1 (λa1=>by first|rfl|(exfalso;omega)) _ (Bg _ _) (iy _ _)).mono ?_;rintro e Z⟨rfl,R⟩;have HT:=hide R;have h:Hid (Z.1[iZ w.1]?=je (pf (A9 0 0 iU iU iU 0 vy) 128)):=(by exact Akz R m);clear R;have ⟨b0,b1,b2,b3,b4,b5,b6⟩:=Z9 HT.1 iW;have ⟨a0,a6,a2,a3,a4,a5,a7⟩:=Z9 h iW;have ⟨f0,f1,f2,f3,f4,f5,f6,_⟩:=It h;have J4:iZ w.1≠iZ E.1:=(by have:=ltOf m;omega);clear f r j U M D V y A x s;(have Q:Hid (∀i cs t,Cb Z i w.1.size cs t->iT w i):=λi cs t G=>by have o:iT w Z:=(C.alloc C.4 _).grown HT.2 Aik (λH l=>by cases l;exact C.4);exact o.grown G.2 o.4 (λH l=>by cases l;exact aA _));generalize E.1.size=bb at *;go_wp2;refine Px (λq=>Cb Z q w.1.size _ 128) ((((((((Cb.refl h).set 0 _).set 1 _).set 2 _).set 3 _).set 4 _).set 5 _).set 6 _) ?_;intro q v;have ⟨I,P,Y,z3,z4,z5,z6⟩:=Z9 v.1 iW;exact fx (by simp[yo,results64,go_sem,I,P,Y,z3,z4,z5,z6]) iW ⟨iW,Q _ _ _ v⟩
end Go.Proofs.Y
namespace Orch
variable (f:iD)
theorem put_len{a:iE}{t:Ty}{v:V}{o:iE}(h:put f k a t v=je o):O o<=1000:=by cases k with|zero=>simp[put]at h|succ k=>rw[put]at h;grind
theorem puts_b{s:y}(C:s.size<=200):KM f (k+1) tb (txt s) (be s.size 4++s.data.toList):=Pf f (by simp[fits,Ty.l,V.n,V.s,V.l,C]) Z
theorem puts_q{n:Int}(C:0<=n)(J:n<=1):KM f (k+1) tq (num n) (be n 1):=by exact W5s
theorem parse_create:parse [40,52,52,116,98,41]=je (.mk lr [t4,t4,tt,tb]):=Ac
theorem parse_delete:parse [40,52,52,116,52,41]=je (.mk lr [t4,t4,tt,t4]):=Ac
theorem parse_set:parse [40,52,52,116,98,52,41]=je (.mk lr [t4,t4,tt,tb,t4]):=Ac
theorem parse_exists:parse [40,52,52,116,63,41]=je (.mk lr [t4,t4,tt,tq]):=Ac
abbrev fld(s:y):iE:=be s.size 4++s.data.toList
section
variable {p d:y} (o:-2147483648<=m) (i:m<=2147483647) (Q:p.size<=200) (q:f p=jz)
include o i Q q
theorem put_create(y:d.size<=200):put f 9 [] (.mk lr [t4,t4,tt,tb]) (.mk 0 iU [num 1,num m,txt p,txt d])=je (be 1 4++(be m 4++(fld p++(fld d++[])))):=by have C:O p.1.1=p.size:=Z;have J:O d.1.1=d.size:=Z;have:=puts_rec f (k:=8) (l:=lr) Z (.cons (puts_4 f (n:=1) Aa Aa) (.cons (puts_4 f o i) (.cons (puts_t f Q q) (.cons (puts_b f y) .nil)))) [] HK;simpa using this
theorem put_delete(S:-2147483648<=x)(K:x<=2147483647):put f 9 [] (.mk lr [t4,t4,tt,t4]) (.mk 0 iU [num 2,num m,txt p,num x])=je (be 2 4++(be m 4++(fld p++(be x 4++[])))):=by have C:O p.1.1=p.size:=Z;have:=puts_rec f (k:=8) (l:=lr) Z (.cons (puts_4 f (n:=2) Aa Aa) (.cons (puts_4 f o i) (.cons (puts_t f Q q) (.cons (puts_4 f S K) .nil)))) [] (by simp[aH,be_length,C,aR];omega);simpa using this
theorem put_set(y:d.size<=200)(S:-2147483648<=x)(K:x<=2147483647):put f 9 [] (.mk lr [t4,t4,tt,tb,t4]) (.mk 0 iU [num 3,num m,txt p,txt d,num x])=je (be 3 4++(be m 4++(fld p++(fld d++(be x 4++[]))))):=by have C:O p.1.1=p.size:=Z;have J:O d.1.1=d.size:=Z;have:=puts_rec f (k:=8) (l:=lr) Z (.cons (puts_4 f (n:=3) Aa Aa) (.cons (puts_4 f o i) (.cons (puts_t f Q q) (.cons (puts_b f y) (.cons (puts_4 f S K) .nil))))) [] HK;simpa using this
end
end Orch
namespace Go.Proofs.Y
open Go.RowKit
theorem Ns(a:iD){s:iE}{t:Orch.Ty}(Q:Orch.parse s=je t){v:Orch.V}{body:iE}(f:Orch.put a 9 [] t v=je body):AK a t body=je v:=by have K:=Orch.put_len a f;have ⟨pre,e,h⟩:=Orch.take_put a 9 t v [] body (Orch.parse_well Q 9) f;have:=h [];rw[AK];grind
section
variable {o:iD}
section
variable (U:Hq o F) (w:M) (V:F w) (c:Table w) (a:0<iZ w.1) (N:Int) (b:0<=N) (i:N<=2147483647) (p d:y) (Q:p.size<=200) (q:o p=jz) (T:p8)
include U V c a b i Q q
end
end
open Go.Maps
open Go.ChangeMaps (setBlock)
theorem OX{l:List xk}(z:(l.map (·.born)).Nodup){e:xk}(N:e∈l):(e::l.filter λx=>!(x.born==e.born)).Perm l:=by induction l with|nil=>cases N|cons y l O=>rw[bF,eZ]at z;obtain rfl|N:=bM.1 N;(have S:(e::l).filter (λx=>!(x.3==e.3))=l:=by simp_all);rw[S];rw[List.filter_cons_of_pos (by simpa using(λh=>z.1 (aZ.2 ⟨e,N,h.symm⟩)))];exact(List.Perm.swap y e _).trans ((O z.2 N).cons y)
theorem Abf{X:Array xk}{b:Nat}(s:xu X b)(a:Array Nat){e:xk}(N:e∈(tz1 X a).toList):(e::(tz1 X (a.push e.born)).toList).Perm (tz1 X a).toList:=by
 have S:(tz1 X (a.push e.3)).1=(tz1 X a).1.filter λx=>!(x.3==e.3):=by simp[tz1,fP,List.filter_filter];grind
 rw[S];refine OX ?_ N;have:((tz1 X a).1.map (·.3)).Sublist (X.1.map (·.3)):=by simp[tz1,fP];exact List.Sublist.map _ (List.filter_sublist)
 exact this.nodup s.2.1
structure Mz(w:qi)(b r:Nat)(m R:List (p8×p8)):Prop where
 ex:∃es clock since seen c0,w.1[b]?=je (.map es clock)/\xu es clock/\es.toList.map kv=m/\w.1[r]?=je (.mapIter (je b) since seen c0)/\(∀x∈es.toList,x.born<since)/\(tz1 es seen).toList.map kv=R/\since<=c0/\since<=clock
section
variable {k:uy} {w:M} {b r:Nat} {m R:List (p8×p8)}
theorem Bq.rangeL(h:Bq P k w b m)(R:P.underlying t=je (.map k e)):∃o,(Instr.range t (.map (je b))).run P w=.ok (HZ w.1.size) (w.alloc o)/\Mz (w.alloc o) b w.1.size m m:=by obtain⟨X,a,D,s,rfl⟩:=h.1;refine⟨_,run_range_map w t k e b X a R D,⟨X,a,a,#[],a,(np _ _ _ h.lt).trans D,s,Z,iy _ _,s.1,?_,aA _,aA _⟩⟩;simp[tz1,fP];congr 1;simp
theorem Mz.ne(h:Mz w b r m R):r≠b:=by have ⟨X,a,c,d,c0,D,_,_,Y,_⟩:=h.1;grind
theorem Mz.keep(h:Mz w b r m R)(D:B.1[b]?=w.1[b]?)(Y:B.1[r]?=w.1[r]?):Mz B b r m R:=by have ⟨X,a,c,d,c0,C,J,T,q,z⟩:=h.1;exact⟨X,a,c,d,c0,by rwa[D],J,T,by rwa[Y],z⟩
theorem Mz.next(h:Mz w b r m R)(I:uy):(R = []/\(Instr.next (HZ r) vy I).run P w=.ok (gq #[o0 vy]) w) ∨
  ∃p z,(p::z).Perm R/\∃B,(Instr.next (HZ r) vy I).run P w=.ok (gq #[o0 jz,p.1,p.2]) B/\Mz B b r m z/\w.grownBy B (je r)/\iZ B.1=iZ w.1/\∀x:M,x.1[b]?=B.1[b]?->x.1[r]?=B.1[r]?->(Instr.entry (HZ r)).run P x=.ok (gq #[p.1,p.2]) x:=by obtain⟨X,c,d,a,c0,D,t,rfl,Y,f,rfl,u,l⟩:=h.1;rcases run_next_at (P:=P) w I r b d c0 a X c Y D f u with⟨F,s⟩|⟨e,N,H,C,s⟩;grind;obtain⟨n,L⟩:=mem_left N;have G:(setBlock H r (.mapIter (je b) d (a.push e.3) c)).1[r]?=je (.mapIter (je b) d (a.push e.3) c):=aT (aJ.1 (by obtain rfl|rfl:=C<;>exact Y)).1;have J:∀i≠r,(setBlock H r (.mapIter (je b) d (a.push e.3) c)).1[i]?=H.1[i]?:=λi V=>aE (λS=>V S.symm);have o:=(J b (λS=>h.ne S.symm)).trans (by obtain rfl|rfl:=C<;>exact D);refine Or.inr ⟨kv e,(tz1 X (a.push e.3)).1.map kv,(Abf t a N).map kv,_,s,⟨X,c,d,a.push e.3,c,o,t,Z,G,f,Z,l,l⟩,?_,?_,λx E v=>run_entry_at _ r b d a X c e (v.trans G) (E.trans o) n t.2.1⟩;obtain rfl|rfl:=C<;>exact⟨Z,Z,Z,by simp[setBlock],λi _ V=>J i (λS=>V (by rw[S]))⟩;obtain rfl|rfl:=C<;>simp[setBlock]
end
def Tryz.ren189:Go.Shelf.Ren:=⟨fun|125=>70|128=>131|129=>132|189=>207|215=>259|216=>244|257=>223|294=>238|295=>239|296=>240|297=>241|298=>242|299=>243|300=>245|301=>246|328=>256|329=>171|330=>172|331=>257|332=>258|343=>266|n=>n,fun|0=>0|3=>3|4=>4|5=>5|9=>9|28=>256|46=>75|51=>123|53=>120|131=>171|182=>190|183=>191|218=>239|222=>242|228=>268|229=>269|n=>n,λn=>n⟩
set_option maxRecDepth 100000 in
theorem Tryz.lays189:Go.Proofs.Lays.n189 ow Tryz.ren189:=
 {mixed:=Ab,
  f125:=func70.trans (aK je Ab),
  f128:=func131.trans (aK je Ab),
  f129:=func132.trans (aK je Ab),
  f189:=func207.trans (aK je Ab),
  f215:=func259.trans (aK je Ab),
  f216:=func244.trans (aK je Ab),
  f257:=func223.trans (aK je Ab),
  f294:=func238.trans (aK je Ab),
  f295:=func239.trans (aK je Ab),
  f296:=func240.trans (aK je Ab),
  f297:=func241.trans (aK je Ab),
  f298:=func242.trans (aK je Ab),
  f299:=func243.trans (aK je Ab),
  f300:=func245.trans (aK je Ab),
  f301:=func246.trans (aK je Ab),
  f328:=func256.trans (aK je Ab),
  f329:=func171.trans (aK je Ab),
  f330:=func172.trans (aK je Ab),
  f331:=func257.trans (aK je Ab),
  f332:=func258.trans (aK je Ab),
  f343:=func266.trans (aK je Ab),
  t0:=underlying0,
  a0:=isAgg0,
  z0:=sizeOf0,
  v0:=zeroValue0,
  t3:=underlying3,
  a3:=isAgg3,
  z3:=sizeOf3,
  v3:=zeroValue3,
  t4:=underlying4,
  a4:=isAgg4,
  z4:=sizeOf4,
  v4:=zeroValue4,
  t5:=underlying5,
  a5:=isAgg5,
  z5:=sizeOf5,
  v5:=zeroValue5,
  t9:=sr,
  a9:=isAgg9,
  z9:=sizeOf9,
  v9:=zeroValue9,
  t28:=underlying256,
  a28:=isAgg256,
  z28:=sizeOf256,
  v28:=zeroValue256,
  t46:=underlying75,
  a46:=isAgg75,
  z46:=sizeOf75,
  v46:=zeroValue75,
  t51:=iv,
  a51:=isAgg123,
  z51:=sizeOf123,
  v51:=zeroValue123,
  t53:=underlying120,
  a53:=isAgg120,
  z53:=sizeOf120,
  v53:=zeroValue120,
  t131:=underlying171,
  a131:=isAgg171,
  z131:=sizeOf171,
  v131:=zeroValue171,
  t182:=underlying190,
  a182:=isAgg190,
  z182:=sizeOf190,
  v182:=zeroValue190,
  t183:=underlying191,
  a183:=isAgg191,
  z183:=sizeOf191,
  v183:=zeroValue191,
  t218:=underlying239,
  a218:=isAgg239,
  z218:=sizeOf239,
  v218:=zeroValue239,
  t222:=underlying242,
  a222:=isAgg242,
  z222:=sizeOf242,
  v222:=zeroValue242,
  t228:=underlying268,
  a228:=isAgg268,
  z228:=sizeOf268,
  v228:=zeroValue268,
  t229:=underlying269,
  a229:=isAgg269,
  z229:=sizeOf269,
  v229:=zeroValue269 }
theorem Acu(w:M)(g I:Nat)(V:List Int)(H:iJ)(t:uy)(G:w.1[g]?=je (pf H t))(N:∀j (h:j<O V),H[j]?=je (iS V[j]))(K:O V<=1000):yf ow 207 #[xh (je (iQ g)) (O V) I] w λe B=>e=ia (gq #[])/\w.grownBy B (je g)/\∀j (h:j<O V),B.cell? (iR g j)=je (iS ((V.mergeSort λx y=>decide (x<=y))[j]'(by rw[eO];exact h))):=by
 have p:Go.Sort.Holds (wy yh) w g 0 V.toArray:=λj l=>by (have P:j<O V:=by simpa using l);rw[aY];refine⟨?_,Ej G⟩;rw[cellOf G (N j P)];simp[P]
 refine(Any.slices_Sort_int Tryz.lays189 g 0 I V w p (ltOf G) Aa).mono ?_;rintro e B⟨rfl,n,d,rfl⟩;refine⟨Z,⟨Z,Z,Z,?_,λk E f=>?_⟩,λj l=>?_⟩;simp;show((w.1.modify g _)++d)[k]?=_;grind;have D:(Go.Sort.grow (Go.Sort.putRow (wy yh) (Go.Sort.ahead w n) g 0 (V.mergeSort λx y=>decide (x<=y)).toArray) d).1[g]?=je (pf (pz (wy yh) 0 (V.mergeSort λx y=>decide (x<=y)).toArray H) t):=by show((w.1.modify g _)++d)[g]?=_;rw[dN (by simpa using(ltOf G)),bW,aL Z,G];rfl
 refine cellOf D ?_;have Y:=(aJ.1 (N j l)).1;have b:j<(V.mergeSort λx y=>decide (x<=y)).length:=by rwa[eO]
 rw[pz];grind
structure Nd where
 path:iF
 data:iF
 note:iF
 made:Int
 changed:Int
 version:Int
abbrev Nd.cs(x:Nd):Array p8:=#[zx x.path,zx x.data,zx x.note,Y x.made,Y x.changed,Y x.version]
abbrev Nd.val(x:Nd):p8:=mn x.cs
abbrev Nd.zero:Nd:=⟨⟨#[]⟩,⟨#[]⟩,⟨#[]⟩,0,0,0⟩
abbrev Pz(p:y×Nd):p8×p8:=(zx p.1,p.2.val)
theorem AA:ox ow 9:=string_keyed sr
theorem Aim(w:M):(zeroValue 84).run ow w=.ok Nd.zero.val w:=Ab
structure Bw(w:qi)(tb mb:Nat)(num:Int)(ns:List (iF×Nd)):Prop where
 blk:w.1[tb]?=je (pf #[iS num,.map (je mb)] 105)
 map:Bq ow 9 w mb (ns.map Pz)
theorem Bw.below{w b:M}{B a t:Nat}{num:Int}{r:List (y×Nd)}(h:Bw w a t num r)(D:jg B w b)(C:a<B)(J:t<B):Bw b a t num r:=
 ⟨(D.block a C).trans h.blk,h.map.of_block (D.block t J)⟩
theorem Jp(w:M)(a t:Nat)(num:Int)(r:List (y×Nd))(h:Bw w a t num r):yf ow 38 #[HZ a] w λe B=>e=ia (Y num)/\B=w:=by have c0:=Kj (w:=w) 0 h.1;go_enter func38,ntmps38;go_wp2;go_ret;exact⟨Z,Z⟩
theorem CP(w:qi)(tb t:Nat)(a:iF)(f s u:iF)(k N V:Int)(y:Nd)(c:Bool)(b:Int)(e:c=jz/\b=0/\y=⟨f,s,u,k,N,V⟩∨c=vy/\b=10/\y=Nd.zero)(Q:w.cell? (iR tb 1)=je (.map (je t)))(g:tb<iZ w.1)(r:Hid (∀W,iT w W->yf ow 175 #[zx a] W λb B=>b=ia (o0 jz)/\iT W B))(L:Hid (∀W,iT w W->(qy 103 (.map (je t)) (zx a) jz).run ow W=.ok (gq #[mn #[zx f,zx s,zx u,iS k,iS N,iS V],o0 c]) W)):yf ow 160 #[HZ tb,zx a] w λz B=>z=ia (gq #[y.val,iS b])/\iT w B:=by have X:=hide (iy w (pf Nd.zero.cs 84));obtain⟨rfl,rfl,rfl⟩|⟨rfl,rfl,rfl⟩:=e;all_goals go_enter func160,ntmps160;go_wp2_with (go_at_call 175;refine(r _ (Bg _ _)).mono ?_;rintro b H⟨rfl,M⟩;have O:=hide ((Bg _ _).trans (M.mono Ae));have Z:=hide ((M.5 _ (ltOf X)).trans X);have p:=(O.cell (p:=(iR tb 1)) g).trans Q;have q:=L H O;obtain⟨E,I⟩:∃E,H.alloc (pf #[zx f,zx s,zx u,iS k,iS N,iS V] 84)=E:=⟨_,iW⟩;have h:Hid (E.1[iZ w.1]?=je (pf Nd.zero.cs 84)):=Ap;have J:Hid (E.1[iZ H.1]?=je (pf #[zx f,zx s,zx u,iS k,iS N,iS V] 84)):=O1;have C:Hid (iT w E):=Aq;have A:iZ w.1≠iZ H.1:=(by have:=ltOf Z;omega);have ⟨D,F,G,S,K,Y⟩:=Lj h iW;have ⟨P,R,T,U,f4,f5,_⟩:=It h;have ⟨b0,b1,b2,b3,b4,b5⟩:=Lj J iW;clear M);refine Px (λd=>Cb E d w.1.size _ 84) (((((((Cb.refl h).set 0 _).set 1 _).set 2 _).set 3 _).set 4 _).set 5 _) ?_;intro d v;have ⟨i,j,l,m,x,n⟩:=Lj v.1 iW;exact fx (by simp[yo,results160,go_sem,i,j,l,m,x,n]) iW ⟨iW,C.grown v.2 C.4 (λa1 o=>by cases o;exact aA _)⟩
theorem Ut{w:M}{b t:Nat}{num:Int}{r:List (y×Nd)}(h:Bw w b t num r)(m:Int)(L:w.cell? ⟨1,0,zt⟩=je (Y m))(C:1<iZ w.1)(a:y)(s:a.size<=1000)(Q:Em a=jz)(x:Nd)(Z:(a,x)∈r):yf ow 160 #[HZ b,zx a] w λe B=>e=ia (gq #[x.val,Y 0])/\iT w B:=by refine CP w b t a _ _ _ _ _ _ x jz 0 (zk ⟨iW,iW,iW⟩) (cellOf h.1 iW) (ltOf h.1) (λW k=>?_) (λW k=>((h.2.of_block (k.5 _ h.2.lt)).look_some jz AA pq (vr sr Am) (aZ.2 ⟨_,Z,iW⟩)));have:=Uz W m ((k.cell (p:=⟨1,0,zt⟩) C).trans L) a Aa;grind
theorem CO{w:M}{b t:Nat}{num:Int}{r:List (y×Nd)}(h:Bw w b t num r)(m:Int)(L:w.cell? ⟨1,0,zt⟩=je (Y m))(C:1<iZ w.1)(a:y)(s:a.size<=1000)(Q:Em a=jz)(O:∀q∈r,q.1≠a):yf ow 160 #[HZ b,zx a] w λe B=>e=ia (gq #[Nd.zero.val,Y 10])/\iT w B:=by refine CP w b t a iU iU iU 0 0 0 _ vy 10 (qx ⟨Z,Z,Z⟩) (cellOf h.1 Z) (ltOf h.1) (λW k=>?_) (λW k=>?_);have:=Uz W m ((k.cell (p:=⟨1,0,zt⟩) C).trans L) a Aa;grind;refine(h.2.of_block (k.5 _ h.2.lt)).look_none jz AA pq (Aim W) (vr sr Am) (λp Q=>?_);grind
abbrev D3(kind:Int)(p d n:y)(v:Int):Array p8:=#[Y kind,zx p,zx d,zx n,Y v]
abbrev Mo(kind:Int)(p d n:y)(v:Int):p8:=mn (D3 kind p d n v)
attribute [local go_sem ↓] Go.wp_at_zero Go.wp_at_succ
theorem Vq(w:qi)(a:Nat)(kind:Int)(p j n:iF)(v:Int)(f s u:iF)(c N V:Int)(d:¬(40:Int)<(j.size:Int))(z:¬(10:Int)<(n.size:Int))(t:Nat)(Q:w.cell? (iR a 1)=je (.map (je t)))(D:a<iZ w.1)(r:Hid (∀W,iT w W->yf ow 160 #[HZ a,zx p] W λb B=>b=ia (gq #[mn #[zx f,zx s,zx u,Y c,Y N,Y V],Y 0])/\iT W B)):yf ow 145 #[HZ a,Mo kind p j n v] w λb B=>b=ia (Y 9)/\iT w B:=by have X:=hide (iy w (pf #[Y kind,zx p,zx j,zx n,Y v] 149));go_enter func145,ntmps145;go_wp2_with (go_at_call 160;refine(r _ (Bg _ _)).mono ?_;rintro b H⟨rfl,M⟩;have O:=hide ((Bg _ _).trans (M.mono Ae));have Z:=hide ((M.5 _ (ltOf X)).trans X);obtain⟨E,I⟩:∃E,H.alloc (pf #[zx f,zx s,zx u,Y c,Y N,Y V] 84)=E:=⟨_,iW⟩;have h:Hid (E.1[iZ w.1]?=je (pf #[Y kind,zx p,zx j,zx n,Y v] 149)):=Ap;have J:Hid (E.1[iZ H.1]?=je (pf #[zx f,zx s,zx u,Y c,Y N,Y V] 84)):=O1;have C:Hid (iT w E):=Aq;have ⟨_,y,A,F,G⟩:=Un h iW;have P:=(C.cell (p:=(iR a 1)) D).trans Q;clear M);(all_goals go_ret);all_goals exact⟨iW,C⟩
end Go.Proofs.Y
namespace Go.Proofs.Y
open Go.RowKit Go.Maps
theorem Xu(w:M)(a:Nat)(kind:Int)(d n:y)(v:Int):yf ow 146 #[HZ a,Mo kind ⟨#[47]⟩ d n v] w λe B=>e=ia (Y 13)/\iT w B:=by go_enter func146,ntmps146;go_wp2;go_ret;exact⟨Z,Bg _ _⟩
def Mc(v:Int):Int:=if v=2147483647 then 0 else v+1
theorem Xj(w:M)(v:Int)(C:0<=v)(J:v<=2147483647):yf ow 148 #[Y v] w λe B=>e=ia (Y (Mc v))/\B=w:=by by_cases h:v=2147483647;(·subst h;go_enter func148,ntmps148;go_wp2;go_ret;exact⟨Z,Z⟩);have q:Mc v=v+1:=aO h;rw[q];go_enter func148,ntmps148;go_wp2;go_ret;exact⟨Z,Z⟩
attribute [local go_sem ↓] Go.wp_at_zero Go.wp_at_succ
structure Ax(w w':qi)(X:iG):Prop where
 os:w'.os=w.os
 tape:w'.tape=w.tape
 output:w'.output=w.output
 size:iZ w.1<=iZ w'.1
 block:∀k<iZ w.1,¬X k->w'.1[k]?=w.1[k]?
theorem Ax.refl(w:M)(X:iG):Ax w w X:=⟨Z,Z,Z,aA _,λ_ _ _=>rfl⟩
theorem Ax.trans{w:M}{X:iG}(h:Ax w H X)(g:Ax H E X):Ax w E X:=
 ⟨g.os.trans h.os,g.tape.trans h.tape,g.output.trans h.output,aD h.size g.size,λf l Z=>(g.block f (aB l h.size) Z).trans (h.block f l Z)⟩
theorem Ax.of_below{w a:M}{X:iG}{B:Nat}(h:jg B w a)(b:iZ w.1<=B):Ax w a X:=⟨h.os,h.tape,h.output,h.size,λk E _=>h.block k (aB E b)⟩
theorem Ax.of_grown{w:M}{X:iG}{b:Nat}(h:w.grownBy B (je b))(t:X b∨iZ w.1<=b):Ax w B X:=
 ⟨h.os,h.tape,h.output,h.size,λk E Z=>h.block k E (λe=>Aj)⟩
theorem Ax.drew{w:M}{X:iG}(h:Ax w B X):Ax w B.drew X:=⟨h.os,h.tape,h.output,h.size,h.block⟩
theorem Ax.mono{w:M}{X Y:iG}(h:Ax w B X)(a:∀k,X k->Y k):Ax w B Y:=⟨h.os,h.tape,h.output,h.size,λk E z=>h.block k E (λZ=>z (a k Z))⟩
theorem GV(w:M)(k:Nat)(p b n:iF)(v:Int)(num:Int)(F:0<=num)(C:num+1<=9223372036854775807)(f:Nat)(O:w.1[k]?=je (pf #[Y num,.map (je f)] 105))(Q:iI)(i:Int)(R:M->M->Prop)(c:i=1/\R=(λW J=>(oq 103 (.map (je f)) (zx p) (mn #[zx p,zx b,zx n,Y (num+1),Y (num+1),Y 0])).run ow W=.ok () J)∨i=2/\R=λW J=>(ib #[103,9] 0 #[.map (je f),zx p]).run ow W=.ok (gq #[]) J)(d:Hid (∀W,Ax w W (· = k)->W.1[k]?=je (pf #[Y (num+1),.map (je f)] 105)->∃J,R W J/\Hid (Ax W J (· = f))/\Hid (Q J)))(G:f≠k)(z:f<iZ w.1):yf ow 90 #[HZ k,Mo i p b n v] w λe B=>e=ia (gq #[])/\(∃J,Q J/\B=J):=by
 have D:=ltOf O;obtain⟨E,I⟩:∃E,(w.alloc (pf #[Y i,zx p,zx b,zx n,Y v] 149)).setCell (iQ k) (Y (num+1))=E:=⟨_,iW⟩;have h:Hid ((w.alloc (pf #[Y i,zx p,zx b,zx n,Y v] 149)).1[k]?=je (pf #[Y num,.map (je f)] 105)):=(np _ _ _ D).trans O;refine Ndk λj o=>?_;have l:Hid (E.1[iZ w.1]?=je (pf #[Y i,zx p,zx b,zx n,Y v] 149)):=I▸(tu _ _ _ _ (by show iZ w.1≠k;omega)).trans (iy _ _)
 have ⟨u,P⟩:=Aek j iW;have ⟨y,m,q,r⟩:=Am2 l iW;have t:=Kj (w:=(w.alloc (pf #[Y i,zx p,zx b,zx n,Y v] 149))) 0 h;have x:=Fk1 (w:=(w.alloc (pf #[Y i,zx p,zx b,zx n,Y v] 149))) 0 h;have U:=Kj (w:=w) 0 O;have N:=Fk1 (w:=w) 0 O;have A:k≠iZ w.1:=Aa;obtain⟨a,Z,H,s⟩:=d E.drew o.drew j;have g:Hid ((λB=>B.cell? (iQ k)=je (Y (num+1))/\B.cell? (iR k 1)=je (.map (je f))/\B.cell? (iR w.1.size 1)=je (zx p)/\B.cell? (iR w.1.size 2)=je (zx b)/\B.cell? (iR w.1.size 3)=je (zx n)) a):=by have S:a.1[k]?=je (pf #[Y (num+1),.map (je f)] 105):=(H.5 k (ltOf j) (λe=>G e.symm)).trans j;have L:a.1[iZ w.1]?=je (pf #[Y i,zx p,zx b,zx n,Y v] 149):=(H.5 w.1.size (ltOf l) (λe=>Aa)).trans l;exact⟨cellOf S iW,cellOf S iW,cellOf L iW,cellOf L iW,cellOf L iW⟩
 clear O;obtain⟨rfl,rfl⟩|⟨rfl,rfl⟩:=c;all_goals go_enter func90,ntmps90;go_wp2;go_region_held3 (λB=>B.cell? (iQ k)=je (Y (num+1))/\B.cell? (iR k 1)=je (.map (je f))/\B.cell? (iR w.1.size 1)=je (zx p)/\B.cell? (iR w.1.size 2)=je (zx b)/\B.cell? (iR w.1.size 3)=je (zx n)) (first|(go_keep;done)|exact g) (fail);(all_goals go_wp2);all_goals exact⟨iW,gq #[],by simp[yo,results90,go_sem],iW,_,s,iW⟩
end Go.Proofs.Y
namespace Go.Proofs.Y
open Go Go.RowKit
structure Fl where
 n:iF
 d:iF
 s:Nat
def C9(L:List Fl):List p8:=L.flatMap λf=>[zx f.n,zx f.d,Y f.s]
theorem P3{L:List Fl}{i:Nat}{f:Fl}(h:L[i]?=je f):(C9 L)[i * 3]?=je (zx f.n)/\(C9 L)[i * 3+1]?=je (zx f.d)/\(C9 L)[i * 3+2]?=je (Y f.s):=by induction L generalizing i with|nil=>simp at h|cons x l O=>cases i with|zero=>simp at h;subst h;simp[C9]|succ i=>have:=O HM;rw[show(i+1) * 3=i * 3+3 by omega];simpa[C9] using this
theorem Na(L:List Fl)(f:Fl):C9 (L++[f])=C9 L++[zx f.n,zx f.d,Y f.s]:=by simp[C9]
theorem CM{L:List Fl}{i:Nat}{f g:Fl}(h:L[i]?=je f):C9 (L.set i g)=(((C9 L).set (i * 3) (zx g.n)).set (i * 3+1) (zx g.d)).set (i * 3+2) (Y g.s):=by induction L generalizing i with|nil=>simp at h|cons x l O=>cases i with|zero=>simp[C9]|succ i=>have:=O HM;rw[show(i+1) * 3=i * 3+3 by omega];simp only[C9,List.set_cons_succ,gG]at *;rw[this];simp
def wo(L:List Fl)(n:y):List Fl:=L.filter λf=>decide (f.n≠n)
theorem NH{L:List Fl}{n:y}{i:Nat}{f:Fl}(h:L[i]?=je f):wo (L.take (i+1)) n=if f.n≠n then wo (L.take i) n++[f] else wo (L.take i) n:=by obtain⟨V,rfl⟩:=aF.1 h;rw[bQ V,wo,List.filter_append];by_cases z:L[i].n=n;simp[z,wo];simp[z,wo]
def dec(left:Int):Int:=if 0<left then left - 1 else left
theorem Tryz.info97:(prog.info? 97).map (λi=>(i.zero,i.size,i.bytes))=je (je (mn #[zx iU,zx iU,Y 0]),3,40):=Ab
theorem WK{a b:y}(h:¬a=b):(a.toList==b.toList)=vy:=by rw[beq_eq_false_iff_ne,Lib.toList_data,Lib.toList_data];intro e;apply h;cases a;simp_all
theorem WJ{a b:y}(h:a=b):(a.toList==b.toList)=jz:=by rw[h];simp
theorem Rn{a b:M}(h:iT a b):a.grownBy b r:=⟨h.os,h.tape,h.output,h.size,λi V _=>h.block i V⟩
theorem CX{w:M}{B j:Nat}(u:p8):w.grownBy (w.setCell (iR B j) u) (je B):=⟨Z,Z,Z,Ae,λi V z=>tu _ _ _ _ (λe=>z (by rw[e]))⟩
theorem Sw(w:M)(S:Nat)(y:p8)(a:Int)(D:w.1[S]?=je (pf #[y,Y a] 52))(F:-1<=a)(C:a<=9223372036854775807):yf ow 80 #[HZ S] w λe B=>e=ia (o0 (decide (a≠0)))/\B.1[S]?=je (pf #[y,Y (dec a)] 52)/\w.grownBy B (je S):=by
 have d:=Kj 1 D;have b:=qd w S 1 _ 52 D;have c:=hid D;have V:=hid (wc w S 1 _ 52 (Y (a - 1)) D);clear D;by_cases K:a=0;·subst K;go_enter xx,jay;go_wp2;(all_goals go_ret);all_goals exact⟨Z,by simpa[dec] using c.out,Rn (zi _ _)⟩
 by_cases Q:a > 0;·(have W:IntKind.i64.wrap (a - 1)=a - 1:=by rw[bud];omega);go_enter xx,jay;go_wp2;(all_goals go_ret);all_goals exact⟨by simp[K],by have:=V.out;simpa[dec,show(0:Int)<a from Q] using this,(hid (CX (w:=w) (B:=S) (j:=1) (Y (a - 1))))⟩
 go_enter xx,jay;go_wp2;all_goals go_ret
 all_goals exact⟨by first|(simp[K];done)|simp,by have:=c.out;simpa[dec,show ¬(0:Int)<a by omega] using this,Rn (zi _ _)⟩
theorem Rl(w:qi)(b:Nat)(v:iM)(s:Nat)(c:Int)(S:List Fl)(n:iF)(D:w.1[b]?=je (pf #[xh v (O S) s,iS c] 52))(P:w.ownsRow 0 97 3 (xh v (O S) s) (O S) (C9 S))(o:O S<=100000000):yf ow 82 #[HZ b,zx n] w λe B=>B=w/\((e=ia (iS (-1))/\∀f∈S,f.n≠n)∨∃(k:Nat)(f:Fl),e=ia (iS k)/\S[k]?=je f/\f.n=n):=by have c0:=Kj 0 D;have m:=hid P;clear D P;go_enter func82,ntmps82;go_wp2;go_loopw [11] (λa t=>∃k:Nat,a=iS k/\k<=O S/\t=w/\Hid (∀j f,j<k->S[j]?=je f->f.n≠n)) (λa _=>O S - (intOf a).toNat);(case atStart=>exact⟨0,Z,bB _,Z,λj f l=>Aa⟩);case round=>obtain⟨k,rfl,V,K,x⟩:=hrel;subst K;by_cases Y:k<O S;refine Nga λy f I=>?_;(obtain⟨g,d⟩:∃g,v=je (iQ g):=by obtain⟨e,h⟩|⟨g,i,H,e,_⟩:=m.2;omega;cases e;exact⟨g,Z⟩);subst d;(have p:O S<=s:=by obtain⟨e,h⟩|⟨g,i,H,e,_,_,M,_⟩:=m.2;omega;cases e;exact M);(have Q:wr.cell? ⟨g,k * 3,zt⟩=je (zx f.n):=by have:=m.cells (g:=g) Z (k * 3) _ (P3 I).1;rwa[Addr.add_lit,aY]at this);by_cases z:f.n=n;(·have q:=WJ z;go_wp2;(all_goals go_ret);all_goals exact⟨Z,qx ⟨k,f,Z,I,z⟩⟩);(·have q:=WK z;go_wp2;(all_goals go_roundw);(all_goals try (case rel=>exact⟨k+1,by go_num,Aa,by first|rfl|trivial,λj r l W=>by obtain h|h:=Nat.lt_succ_iff_lt_or_eq.1 l;exact x j r h W;subst h;rw[I]at W;cases W;exact z⟩));all_goals try (case measure=>simp[intOf];omega));have y:¬(k:Int)<(O S:Int):=Aa;go_wp2;(all_goals go_ret);all_goals exact⟨Z,zk ⟨Z,λf I=>by obtain⟨j,l,rfl⟩:=List.getElem_of_mem I;exact x j _ Aa (aG l)⟩⟩
theorem VF{w:M}{b:Nat}{a m:Nat}{c:iK}(h:w.ownsRow b e a (xh (je (iQ g)) (n+m) I) (n+m) (X++c))(Z:O X=n * a):w.ownsRow b e a (xh (je (iQ g)) n I) n X:=by obtain⟨F,_⟩|⟨R,L,H,q,o,G,S,t,f,d⟩:=h.2;cases F;cases q;refine⟨Z,qx ⟨g,I,H,iW,o,G,Aa,t,f,?_⟩⟩;have C:=aK (List.take (n * a)) d;grind
section
variable (w:M)
def SQ(w w':M)(base:Nat)(e:uy)(size:Nat)(v v':p8)(n m:Nat)(xs news:iK):Prop:=
 w'.ownsRow base e size v' (n+m) (xs++news)/\w'.ownsRow base e size v n xs/\((v'.ownBlock=v.ownBlock/\w.grownBy w' v.ownBlock)∨(v'.ownBlock=je w.1.size/\iT w w'))
theorem AH(b:Nat)(t I e:uy)(i:TypeInfo)(z:p8)(h k:Nat)(R:P.underlying t=je (.slice e))(V:P.info? e=je i)(N:i.zero=je z)(D:i.size=h)(p:i.bytes=k)(x:z.cells.size=h)(C:0<h)(v:p8)(n:Nat)(X:iK)(d:w.ownsRow b e h v n X)(a:Addr)(m c:Nat)(f:iK)(K:iY f=m * h)(M:∀q u,f[q]?=je u->w.cell? (a.add q)=je u)(s:∀u∈f,u.oneCell'=jz)(L:0<m)(W:n+m<=maxLen)(r:(n+m) * k<=140737488355328)(y:b<=iZ w.1):∃U B,(tv #[t,t] I #[v,xh (je a) m c]).run P w=.ok U B/\SQ w B b e h v U n m X f:=by obtain⟨U,B,j,O,_⟩:=run_append_own_at (P:=P) w b t I e i z h k R V N D p x C v n X d a m c f K M s W r y;subst D p;(have A:n+m<=9223372036854775807:=by simp[maxLen]at W;omega);have l:∀F,iT w (w.drew.alloc F):=λF=>(Kl w).trans (Bg w.drew F);obtain⟨rfl,rfl⟩|⟨g,o,_,rfl,_⟩:=d.2;have Z:X = []:=eC (by simpa using d.1);subst Z;have Y:=run_append_nil (P:=P) w t I e i z R V N a m c f K M Aa Aa Aj;rw[Y]at j;cases j;exact⟨_,_,Y,O,gu _ _ _ _,qx ⟨iW,l _⟩⟩;by_cases Q:n+m<=o;obtain⟨E,Y,J,T⟩:=run_append_fits (P:=P) w b t I e i i.3 R V iW g n o X d a m c f K M s Q;exact⟨_,E,Y,J,VF J d.1,zk ⟨iW,T⟩⟩;have Y:=run_append_grow (P:=P) w t I e i z R V N (iQ g) n o X d.1 (d.cells (g:=g) iW) a m c f K M Aa Aa (growslice_fits Aa r);rw[Y]at j;cases j;exact⟨_,_,Y,O,d.drew.alloc _,qx ⟨iW,l _⟩⟩
theorem Vh{g:Array Oper}{b:List Oper}{o:Oper}{a:Act}{Q:Exit->Act->qi->Prop}(H:o.guard=zt)(s x:Operand)(t:uy)(O:o.op=.call { callee:=.builtin .append,args:=#[s,x],argTypes:=#[t,t] })(d:Nat)(e:uy)(i:TypeInfo)(z:p8)(c h:Nat)(R:P.underlying t=je (.slice e))(V:P.info? e=je i)(N:i.zero=je z)(D:i.size=c)(l:i.bytes=h)(q:z.cells.size=c)(C:0<c)(v:p8)(n:Nat)(X:iK)(A:a.eval s=v)(r:w.ownsRow d e c v n X)(I:Addr)(m j:Nat)(f:iK)(Z:a.eval x=xh (je I) m j)(y:iY f=m * c)(M:∀p u,f[p]?=je u->w.cell? (I.add p)=je u)(E:∀u∈f,u.oneCell'=jz)(L:0<m)(W:n+m<=maxLen)(k:(n+m) * h<=140737488355328)(Y:d<=iZ w.1)(F:∀U B,SQ w B d e c v U n m X f->wpList P g Q b (a.put o.dst U) B):wpList P g Q (o::b) a w:=by refine wpList_plain H λS G=>?_;have ⟨U,B,K,J⟩:=AH w d t o.3 e i z c h R V N D l q C v n X r I m j f y M E L W k Y;rw[Oper.wp,execOp];simp[O,resolve,invoke,builtin,Sem.run_bind,Sem.run_pure,Result.andThen_ok,cD,bF,cM,A,Z,K];exact G _ _ (F U B J)
end
theorem Fj{J:M}{B:Nat}{a:Nat}(h:W.ownsRow B e a v n X)(s:∀g cs,v.ownBlock=je g->W.1[g]?=je (pf cs e)->J.1[g]?=W.1[g]?):J.ownsRow B e a v n X:=by refine⟨h.1,?_⟩;obtain F|⟨g,I,H,q,c,k,N⟩:=h.2;exact zk F;exact qx ⟨g,I,H,q,c,(s g H (by rw[q];rfl) k).trans k,N⟩
section
variable {a X:Nat} {l:p8}
theorem Ex{b:Nat}{X:iK}(c:h.ownsRow a e b v n X)(G:v.ownBlock=je g):∃cs,h.1[g]?=je (pf cs e):=by obtain⟨N,_⟩|⟨R,I,H,N,_,m,_⟩:=c.2;rw[N]at G;cases G;rw[N]at G;cases G;exact⟨H,m⟩
theorem DZ{b:Nat}{c:iK}(h:W.ownsRow a e b l n c)(f:l.ownBlock≠je X)(z:p8):(W.setCell (iR X j) z).ownsRow a e b l n c:=h.kept ⟨Z,Z,Z,Ae,λi _ V=>tu _ _ _ _ (λe=>V (by rw[e]))⟩ (qx f)
theorem U6{a:Nat}{b:Nat}{X:iK}(c:h.ownsRow a e b v n X):∃d f,v=xh d n f:=by obtain⟨e,F⟩|⟨g,I,H,e,_⟩:=c.2;grind;exact⟨_,_,e⟩
end
theorem ZY{w J:M}{a:Nat}{b:Nat}{U:p8}{m:Nat}{c:iK}(h:SQ W J a e b v U n m X c)(d:W.ownsRow a e b v n X)(D:jg a w W)(k:a<=iZ W.1):jg a w J:=by obtain⟨_,G⟩|⟨_,G⟩:=h.2.2;exact D.trans ⟨G.1,G.2,G.3,G.4,λi V=>G.5 i Aa (λe=>by have:=(d.lt i e.symm).1;omega)⟩;exact D.trans (G.mono k)
theorem Ko{w:M}{L:List Fl}{i:Nat}{f:Fl}{a:Nat}{c:Nat}(h:w.ownsRow a t 3 (xh (je (iQ g)) n c) n (C9 L))(I:L[i]?=je f):w.cell? ⟨g,i * 3,zt⟩=je (zx f.n)/\w.cell? ⟨g,i * 3+1,zt⟩=je (zx f.d)/\w.cell? ⟨g,i * 3+2,zt⟩=je (Y f.s):=by have ⟨F,C,J⟩:=P3 I;have y:=h.cells Z _ _ F;have m:=h.cells Z _ _ C;have b:=h.cells Z _ _ J;rw[Addr.add_lit,aY]at y m b;exact⟨y,m,b⟩
theorem Yn{w:qi}{a:Nat}{v:iM}(h:w.ownsRow a t 3 (xh v n s) n X)(z:0<n):∃g,v=je (iQ g)/\n<=s/\g<iZ w.1/\a<=g:=by obtain⟨e,F⟩|⟨g,I,H,e,D,G,M,_⟩:=h.2;omega;grind
theorem Sl(w:qi)(e:Nat)(v:iM)(h:Nat)(E:Int)(S:List Fl)(n:iF)(D:w.1[e]?=je (pf #[xh v (iY S) h,iS E] 52))(P:w.ownsRow 0 97 3 (xh v (iY S) h) (iY S) (C9 S))(hL:iY S<=100000000):yf ow 81 #[HZ e,zx n] w λj B=>∃a G,j=ia (xh a (wo S n).length G)/\B.ownsRow w.1.size 97 3 (xh a (wo S n).length G) (wo S n).length (C9 (wo S n))/\iT w B:=by have c0:=Kj 0 D;have o:=hid P;clear D P;obtain⟨l,Tz,m,W,u⟩:=uu Tryz.info97;go_enter func81,ntmps81;go_wp2;clear c0;go_loopw [5,13] (λx d r=>∃(k:Nat)(a:iM)(G:Nat),x=xh a (wo (S.take k) n).length G/\d=iS k/\k<=iY S/\Hid (iT w r)/\Hid (r.ownsRow w.1.size 97 3 (xh a (wo (S.take k) n).length G) (wo (S.take k) n).length (C9 (wo (S.take k) n)))) (λ_ d _=>iY S - (intOf d).toNat);(case atStart=>exact⟨0,zt,0,iW,iW,bB _,zi _ _,gu _ _ _ _⟩);case round=>obtain⟨k,a,G,rfl,rfl,hi,t,R⟩:=hrel;by_cases Y:k<iY S;refine Nga λy f I=>?_;obtain⟨g,T,a6,J,_⟩:=Yn o Aa;subst T;obtain⟨q,F,s⟩:=Ko o I;have K:=(t.cell (p:=⟨g,k * 3,zt⟩) J).trans q;have f1:=(t.cell (p:=⟨g,k * 3+1,zt⟩) J).trans F;have f2:=(t.cell (p:=⟨g,k * 3+2,zt⟩) J).trans s;clear q F s;have a7:(wo (S.take k) n).length<=iY S:=aD (dT _ _) Al;have b:=hid (NH (n:=n) I);have O:=hid (t.trans ((Bg wr (pf #[zx f.n,zx f.d,iS f.s] 97)).mono t.4));have p:=hid (iy wr (pf #[zx f.n,zx f.d,iS f.s] 97));have ⟨d0,d1,d2⟩:=Kg p iW;have A:=hid (R.alloc (pf #[zx f.n,zx f.d,iS f.s] 97));by_cases z:f.n=n;(·have L:=WJ z;(have X:Hid (wo (S.take (k+1)) n=wo (S.take k) n):=by show _=_;rw[b,aO (by simp[z])]);clear z b;go_wp2;(all_goals go_roundw);(all_goals try (case rel=>exact⟨k+1,a,G,by rw[X],by go_num,Aa,O,by show ki _ _ _ _ _ _ _;rw[X];exact A⟩));all_goals try (case measure=>simp[intOf];omega));(·have L:=WK z;(have X:Hid (wo (S.take (k+1)) n=wo (S.take k) n++[f]):=by show _=_;rw[b,aL (by simp[z])]);have C:=hid (O.trans ((Bg (wr.alloc (pf #[zx f.n,zx f.d,iS f.s] 97)) (pf #[zx f.n,zx f.d,iS f.s] 97)).mono O.4));have H:=hid (A.alloc (pf #[zx f.n,zx f.d,iS f.s] 97));(have i:Hid (((wr.alloc (pf #[zx f.n,zx f.d,iS f.s] 97)).alloc (pf #[zx f.n,zx f.d,iS f.s] 97)).1[iZ wr.1+1]?=je (pf #[zx f.n,zx f.d,iS f.s] 97)):=by have M:=iy (wr.alloc (pf #[zx f.n,zx f.d,iS f.s] 97)) (pf #[zx f.n,zx f.d,iS f.s] 97);rwa[show(wr.alloc (pf #[zx f.n,zx f.d,iS f.s] 97)).1.size=iZ wr.1+1 by simp]at M);go_wp2_with (at_builtin;refine Vh _ iW _ _ 50 iW w.1.size 97 l (mn #[zx iU,zx iU,iS 0]) 3 40 vf Tz m W u iW Ad _ _ (C9 (wo (S.take k) n)) iW H ⟨iZ wr.1+1,0,zt⟩ 1 1 [zx f.n,zx f.d,iS f.s] iW iW (qp i) An Aa Am Aa C.4 ?_);intro V w2 c;have N:=hid (ZY c H C C.4);obtain⟨U,a1,Q⟩:=U6 c.1;subst Q;have HO:=hid c.1;clear c i H C;go_wp2;(all_goals go_roundw);(all_goals try (case rel=>exact⟨k+1,U,a1,by rw[X,aH];rfl,by go_num,Aa,N,by show ki _ _ _ _ _ _ _;rw[X,aH,Na];exact HO⟩));all_goals try (case measure=>simp[intOf];omega));·have y:¬(k:Int)<(iY S:Int):=Aa;have Z:k=iY S:=Aa;subst Z;(have b:Hid (S.take (iY S)=S):=by show _=_;simp);go_wp2;(all_goals go_ret);all_goals (rw[b]at R;exact⟨a,G,iW,R,t⟩)
structure St(bt rt:uy)(w:qi)(K:Nat)(left:Int)(L:List Fl)(fa:iM)(fc:Nat):Prop where
 blk:w.1[K]?=je (pf #[xh fa (iY L) fc,iS left] bt)
 row:w.ownsRow 0 rt 3 (xh fa (iY L) fc) (iY L) (C9 L)
structure I8(w w':qi)(K:Nat)(o o':iN):Prop where
 k:Ax w w' (λi=>i=K∨o=je i)
 own:∀g,o'=je g->o=je g∨iZ w.1<=g
theorem I8.size{w:M}{o I:iN}(h:I8 w B K o I):iZ w.1<=iZ B.1:=h.k.size
theorem I8.same{w:M}{o I:iN}(h:I8 w B K o I)(i:Nat)(C:i<iZ w.1)(J:i≠K)(T:o≠je i):B.1[i]?=w.1[i]?:=h.k.block i C λe=>e.elim J T
theorem I8.trans{w t:M}{o I A:iN}(h:I8 w B K o I)(P:I8 B t K I A):I8 w t K o A:=⟨⟨P.k.1.trans h.k.1,P.k.2.trans h.k.2,P.k.3.trans h.k.3,aD h.size P.size,λi V O=>(P.k.5 i (aB V h.size) (λe=>by obtain e|e:=e;exact O (zk e);obtain C|C:=h.2 i e;exact O (qx C);omega)).trans (h.k.5 i V O)⟩,λg G=>by obtain C|C:=P.2 g G;exact h.2 g C;exact qx (aD h.size C)⟩
theorem I8.grown{w:M}{o:iN}(h:w.grownBy B (je K)):I8 w B K o o:=⟨⟨h.os,h.tape,h.output,h.size,λi V E=>h.block i V (λe=>E (zk Ada))⟩,λ_ h=>zk h⟩
theorem I8.grownO{w:M}{o:iN}(h:w.grownBy B o):I8 w B K o o:=⟨⟨h.os,h.tape,h.output,h.size,λi V E=>h.block i V (λe=>E (qx e.symm))⟩,λ_ h=>zk h⟩
theorem I8.below{w:M}{o:iN}(h:iT w B):I8 w B K o o:=⟨⟨h.os,h.tape,h.output,h.size,λi V _=>h.block i V⟩,λ_ h=>zk h⟩
def KE(L:List Fl)(n:y):Option Fl->Prop
 |some f=>f∈L/\f.n=n
 |none=>∀f∈L,f.n≠n
def fl0:Fl:=⟨iU,iU,0⟩
variable {w d:M} {L:List Fl} {a:iM} {m:Nat}
theorem St.below(h:St bt rt w K l L a m)(D:iT w d):St bt rt d K l L a m:=⟨(D.block _ (ltOf h.blk)).trans h.blk,El h.row D⟩
theorem St.lefts(h:St bt rt w K l L a m){V:Int}(D:d.1[K]?=je (pf #[xh a (O L) m,Y V] bt))(G:w.grownBy d (je K))(R:rt≠bt):St bt rt d K V L a m:=⟨D,Fj h.2 (λg cs b M=>G.5 g (ltOf M) (λe=>by cases e;rw[h.1]at M;cases M;exact R Z))⟩
abbrev Cl(a:iM):Option Nat:=(xh a 0 0).ownBlock
theorem Of(v:iM)(n c:Nat):(xh v n c).ownBlock=Cl v:=by cases v<;>rfl
structure NJ(bt rt:uy)(w d:qi)(K:Nat)(Ce:Int)(a:iM)(L':List Fl):Prop where
 st:∃Ec Hl,St bt rt d K Ce L' Ec Hl/\I8 w d K (Cl a) (Cl Ec)
theorem NJ.same{w:M}{u:Int}{L:List Fl}{v:iM}(h:St bt rt B K u L v s)(G:I8 w B K (Cl v) (Cl v)):NJ bt rt w B K u v L:=⟨v,s,h,G⟩
theorem NJ.new{w b:M}{u:Int}{v a:iM}{G:Nat}{p:List Fl}(W:I8 w b K (Cl v) (Cl v))(D:B.1[K]?=je (pf #[xh a (O p) G,iS u] bt))(Y:B.ownsRow b.1.size rt 3 (xh a (O p) G) (O p) (C9 p))(c:b.grownBy B (je K)):NJ bt rt w B K u v p:=by refine⟨a,G,⟨D,Y.1,Y.2.imp id (fun⟨g,cap,H,C,J,T⟩=>⟨g,cap,H,C,bB _,T⟩)⟩,⟨W.k.trans ⟨c.1,c.2,c.3,c.4,λi V E=>c.5 i V (λe=>E (zk Ada))⟩,λg X=>qx ?_⟩⟩;have:=(Y.lt g ((Of a _ _).trans X)).1;have:=W.size;omega
theorem St.swap{w:qi}{L:List Fl}{v:iM}{M:List Fl}{a:iM}{G b:Nat}(D:w.1[K]?=je (pf #[xh v (O L) s,iS l] bt))(Y:w.ownsRow b rt 3 (xh a (O M) G) (O M) (C9 M))(R:rt≠bt):St bt rt (w.setCell (iQ K) (xh a (O M) G)) K l M a G/\(w.setCell (iQ K) (xh a (O M) G)).ownsRow b rt 3 (xh a (O M) G) (O M) (C9 M):=by have J:(w.setCell (iQ K) (xh a (O M) G)).ownsRow b rt 3 _ (O M) _:=DZ Y (λe=>by have ⟨Q,P⟩:=Ex Y e;grind) _;exact⟨⟨(wc w K 0 _ bt (xh a (O M) G) D),J.1,J.2.imp id (fun⟨g,cap,H,c,k,N⟩=>⟨g,cap,H,c,bB _,N⟩)⟩,J⟩
end Go.Proofs.Y
namespace Go.Proofs.Y
open Go Go.RowKit
theorem Agj{w:M}{a i:Nat}{L:List Fl}{f:Fl}{c:Nat}(h:w.ownsRow a t 3 (xh (je (iQ g)) (O L) c) (O L) (C9 L))(I:L[i]?=je f)(d:y):(w.setCell ⟨g,i * 3+1,zt⟩ (zx d)).ownsRow a t 3 (xh (je (iQ g)) (O L) c) (O L) (C9 (L.set i { f with d:=d }))/\w.grownBy (w.setCell ⟨g,i * 3+1,zt⟩ (zx d)) (je g):=by have:=h.stored (i * 3+1) (zx d);refine⟨?_,this.2⟩;(have e:(C9 L).set (i * 3+1) (zx d)=C9 (L.set i { f with d:=d }):=by rw[CM I];have ⟨F,C,J⟩:=P3 I;refine cE λj=>?_;grind);grind
def BP(L:List Fl)(n d:y)(L':List Fl):Prop:=
 ((∀f∈L,f.n≠n)/\L'=L++[⟨n,(iU:y)++d,0⟩])∨∃i f,L[i]?=je f/\f.n=n/\L'=L.set i { f with d:=f.d++d }
theorem St.data{a:uy}{w:M}{L:List Fl}{i:Nat}{f:Fl}(h:St a rt w K l L (je (iQ g)) s)(R:rt≠a)(I:L[i]?=je f)(d:y):St a rt (w.setCell ⟨g,i * 3+1,zt⟩ (zx d)) K l (L.set i { f with d:=d }) (je (iQ g)) s/\w.grownBy (w.setCell ⟨g,i * 3+1,zt⟩ (zx d)) (je g):=by have ⟨C,J⟩:=Agj h.2 I d;(have b:K≠g:=λe=>by have ⟨Q,P⟩:=Ex h.2 Z;rw[←e,h.1]at P;cases P;exact R Z);refine⟨⟨?_,?_⟩,J⟩;rw[td];exact(tu _ _ _ _ b).trans h.1;grind
theorem ZW{r k:qi}{x:Nat}{L:List Fl}{v:iM}{n d:iF}(U:St 52 97 E S l L v s)(F:iT E r)(p:k.1[x]?=je (pf #[HZ S] 54))(q:k.1[S]?=je (pf #[xh v (iY L) s,Y l] 52))(f:k.ownsRow 0 97 3 (xh (je (iQ g)) (iY L+1) I) (iY L+1) (C9 L++[zx n,zx iU,Y 0]))(D:r.drew.grownBy k (xh v (iY L) s).ownBlock)(j:(xh v (iY L) s).ownBlock=je g∨g=r.drew.1.size):∃N,k.setCell (iQ S) (xh (je (iQ g)) (iY L+1) I)=N/\N.cell? (iQ x)=je (HZ S)/\N.cell? (iQ S)=je (xh (je (iQ g)) (iY L+1) I)/\N.cell? ⟨g,iY L * 3+1,zt⟩=je (zx iU)/\N.frozen? ⟨g,iY L * 3+1,zt⟩=vy/\iY L+1<=I /\
   Hid (NJ 52 97 E (N.setCell ⟨g,iY L * 3+1,zt⟩ (zx (iU++d))) S l v (L++[⟨n,(iU:iF)++d,0⟩])):=by
 have K:(L++[(⟨n,iU,0⟩:Fl)]).length=iY L+1:=Ae;have y:g≠S:=λe=>by obtain⟨c,t⟩:=(Ex f iW);rw[e,q]at t;cases t
 have a:(k.setCell (iQ S) (xh (je (iQ g)) (iY L+1) I)).ownsRow 0 97 3 (xh (je (iQ g)) (iY L+1) I) (iY L+1) (C9 (L++[⟨n,iU,0⟩])):=by rw[Na];exact DZ f (by simp[vi,y]) _
 have B:=wc k S 0 _ 52 (xh (je (iQ g)) (iY L+1) I) q;have T:St 52 97 (k.setCell (iQ S) (xh (je (iQ g)) (iY L+1) I)) S l (L++[⟨n,iU,0⟩]) (je (iQ g)) I:=⟨by rwa[K],by rwa[K]⟩;have b:(L++[(⟨n,iU,0⟩:Fl)])[iY L]?=je ⟨n,iU,0⟩:=Ae;obtain⟨_,Q,_⟩:=Ko a b;obtain⟨J,P⟩:=T.data Ad b (iU++d);have u:(L++[(⟨n,iU,0⟩:Fl)]).set (iY L) ⟨n,(iU:iF)++d,0⟩=L++[⟨n,(iU:iF)++d,0⟩]:=Ae;rw[u]at J;refine⟨_,iW,cellOf ((tu _ _ _ _ (λe=>by rw[e,q]at p;simp at p)).trans p) iW,cellOf B iW,Q,a.frozenAt (iY L * 3+1),?_,⟨je (iQ g),I,J,?_⟩⟩;obtain⟨e,_⟩|⟨R,o,H,e,_,_,M,_⟩:=f.2;cases e;cases e;exact M;have A:iZ r.1<=iZ k.1:=D.4;have C:=F.4;refine⟨⟨P.1.trans (D.1.trans F.1),P.2.trans (D.2.trans F.2),P.3.trans (D.3.trans F.3),by have:=P.4;simp at this⊢;omega,λi V Z=>?_⟩,λR m=>?_⟩;have O:Cl v≠je i:=λe=>Z (qx e);have z:i≠g:=λe=>by subst e;obtain h|h:=j;exact O ((Of v _ _).symm.trans h);have:i=iZ r.1:=h;omega
 rw[P.5 i Ai (λe=>z Ada),tu _ _ _ _ (λe=>Z (zk e)),D.5 i (by show i<iZ r.1;omega) (λe=>O ((Of v _ _).symm.trans e.symm))];exact F.5 i V;cases m;obtain h|h:=j;exact zk ((Of v _ _).symm.trans h);exact qx (by have:g=iZ r.1:=h;show iZ E.1<=g;omega)
theorem NJ.pre{a:uy}{w:M}{v:iM}{p:List Fl}(G:I8 w H K (Cl v) (Cl v))(h:NJ a rt H B K l v p):NJ a rt w B K l v p:=by have ⟨C,g,c,b⟩:=h.1;exact⟨C,g,c,G.trans b⟩
theorem Zj(w:qi)(b S:Nat)(j:Int)(k:List Fl)(v:iM)(s:Nat)(n d:iF)(c:w.1[b]?=je (pf #[HZ S] 54))(h:St 52 97 w S j k v s)(ai:-1<=j)(aj:j<=9223372036854775807)(hL:iY k<=10000000)(M:∀f∈k,f.d.size+d.size<=1099511627776)(ar:d.size<=1099511627776):yf ow 52 #[HZ b,zx n,zx d] w λe w'=>e=ia (o0 (decide (j≠0)))/\∃C,NJ 52 97 w w' S (dec j) v C/\((j=0/\C=k)∨(j≠0/\BP k n d C)):=by
 have Y:b≠S:=λe=>by have:=h.1;rw[←e,c]at this;simp at this
 have J:=Sw w S _ j h.1 ai aj;have c0:=Kj 0 c;have l:=hid h;have HD:=hid M;have A:=hid c;clear h M c;by_cases K:j=0;·(have P:decide (j≠0)=vy:=by simp[K]);rw[P]at J⊢;have V:=hid J;clear J;go_enter func52,ntmps52;exact O9j
 ·(have P:decide (j≠0)=jz:=by simp[K]);rw[P]at J⊢;have V:=hid J;have y:=hid K;clear J K P;go_enter func52,ntmps52;go_wp2_with (go_at_call 80;refine V.mono ?_;rintro e H⟨rfl,g,a⟩;have R:=hid (l.lefts g a Ad);have t:=hid a;have o:=hid ((a.5 b (ltOf A) (λe=>Y Ada)).trans A);have Z:=cellOf (j:=0) o iW;have a1:=hid (Rl H S v s (dec j) k n R.1 R.2 Aa);clear g a);refine a1.mono ?_;rintro e u⟨ae,r⟩;subst ae;have s0:=Kj 0 R.1;obtain⟨rfl,O⟩|⟨p,f,rfl,I,T⟩:=r;(·have Q:=hid O;clear O;have i:=hid (iy u (pf #[zx n,zx iU,iS 0] 97));have z:=hid (Bg u (pf #[zx n,zx iU,iS 0] 97));have N:=hid (R.2.alloc (pf #[zx n,zx iU,iS 0] 97));have F:=hid ((z.5 S (ltOf R.1)).trans R.1);(have ak:Hid ((xh v (iY k) s).ownBlock≠je S):=λe=>by obtain⟨Z,m⟩:=Ex R.2 e;rw[R.1]at m;cases m);(have al:Hid ((xh v (iY k) s).ownBlock≠je b):=λe=>by obtain⟨Z,m⟩:=Ex R.2 e;rw[o]at m;cases m);have U:=hid ((z.5 b (ltOf o)).trans o);obtain⟨E,L,W,X,a6⟩:=uu Tryz.info97;have au:=Kj 0 F;have av:=(z.cell (p:=(iQ b)) (ltOf o)).trans Z;go_wp2;go_region_law (refine ub _ iW (.tmp 32) (.tmp 35) 50 iW 0 97 E _ 3 40 vf L W X a6 iW Ad (.slice v (iY k) s) (iY k) (C9 k) Kx N.drew (iQ u.1.size) 1 1 _ Kx Ac (qp i) An Aa Am Aa (bB _) _ iW λq aw w5 a7 D a8 ax=>?_;have B:=hid ((D.5 S (by show S<_;exact ltOf F) (λe=>ak e.symm)).trans F);have G:=hid ((D.5 b (by show b<_;exact ltOf U) (λe=>al e.symm)).trans U);have d5:=cellOf (j:=0) G iW;have k5:=cellOf (j:=0) B iW;have z5:=qd w5 S 0 _ _ B;have ab:=hid a7;have ad:=hid D;have ah:=hid a8;clear a7 D a8);(all_goals (obtain⟨W6,ay,D6,S6,q6,z6,az,ao⟩:=ZW (d:=d) R z G B ab ad ah));(all_goals clear ab ad ah G B k5 z5 d5 i N);(all_goals go_wp2);(all_goals go_ret);all_goals exact⟨iW,_,.pre (I8.grown t) ao,qx ⟨y,zk ⟨Q,iW⟩⟩⟩);·have bb:=(aF.1 I).1;have bc:(p:Int)<(iY k:Int):=Aa;obtain⟨q,aa,b5,bd,_⟩:=Yn R.2 Aa;subst aa;obtain⟨q0,q1,q2⟩:=Ko R.2 I;have z1:=R.2.frozenAt (p * 3+1);have b6:=HD f (aS I);have x:=hid (R.data Ad I (f.d++d));have HF:=hid I;have aq:=hid T;clear I T q0 q2;go_wp2;(all_goals go_ret);all_goals exact⟨iW,_,⟨je (iQ q),s,x.1,(I8.grown t).trans (I8.grownO (by simpa[Cl,vi] using x.2))⟩,qx ⟨y,qx ⟨p,f,HF,aq,iW⟩⟩⟩
theorem Ab1(w:M)(k S:Nat)(b:Int)(L:List Fl)(v:iM)(s:Nat)(n:iF)(m:w.1[k]?=je (pf #[HZ S] 54))(h:St 52 97 w S b L v s)(c:iY L<=10000000):yf ow 84 #[HZ k,zx n] w λe B=>B=w/\∃o,KE L n o/\e=ia (zx (o.getD fl0).d):=by
 have c0:=Kj 0 m;have q:=Kj 0 h.1;have y:=hid (Rl w S v s b L n h.1 h.2 Aa);have D:=hid h;clear h m;go_enter func84,ntmps84;go_wp2_with fail;refine y.mono ?_;rintro e E⟨Y,N⟩;subst Y;obtain⟨rfl,O⟩|⟨i,f,rfl,I,T⟩:=N;·have H:=hid O;clear O;go_wp2;(all_goals go_ret);all_goals exact⟨Z,zt,H,Z⟩
 have X:=(aF.1 I).1;have l:(i:Int)<(iY L:Int):=Aa;have a:(i:Int) ≥ 0:=Aa;obtain⟨g,j,p,J,_⟩:=Yn D.2 Aa;subst j;obtain⟨U,F,z⟩:=Ko D.2 I;have r:=hid I;have C:=hid T;clear I T U z;go_wp2;all_goals go_ret
 all_goals exact⟨Z,je f,⟨aS r,C⟩,Z⟩
theorem Agu(w:M)(b S:Nat)(a:Int)(L:List Fl)(v:iM)(s:Nat)(n:y)(m:w.1[b]?=je (pf #[HZ S] 54))(h:St 52 97 w S a L v s)(c:iY L<=10000000):yf ow 57 #[HZ b,zx n] w λe B=>B=w/\∃o,KE L n o/\e=ia (o0 o.isSome):=by
 have c0:=Kj 0 m;go_enter func57,ntmps57;go_wp2_with fail;refine(hid (Rl w S v s a L n h.1 h.2 Aa)).out.mono ?_;rintro e E⟨Y,N⟩;obtain⟨rfl,O⟩|⟨i,f,rfl,I,T⟩:=N;·go_wp2;(all_goals go_ret);all_goals exact⟨Z,zt,(hid O),Z⟩
 go_wp2;all_goals go_ret
 all_goals exact⟨Z,je f,⟨aS (hid I),(hid T)⟩,by first|rfl|simp⟩
theorem MG(w:M)(b S:Nat)(a:Int)(y:p8)(m:w.1[b]?=je (pf #[HZ S] 54))(D:w.1[S]?=je (pf #[y,Y a] 52)):yf ow 15 #[HZ b] w λe B=>B=w/\e=ia (o0 (decide (a=0))):=by
 have c0:=Kj 0 m;have l:=Kj 1 D;by_cases K:a=0;·subst K;go_enter func15,ntmps15;go_wp2;(all_goals go_ret);all_goals exact⟨Z,Z⟩
 go_enter func15,ntmps15;go_wp2;all_goals go_ret
 simp_all
theorem Ab2(w:M)(c S:Nat)(a n:Int)(y:p8)(p:w.1[c]?=je (pf #[HZ S] 56))(D:w.1[S]?=je (pf #[y,Y a] 52)):yf ow 11 #[HZ c,Y n] w λe B=>e=ia (gq #[])/\B.1[S]?=je (pf #[y,Y (if a=0 then 0 else if n<0 then -1 else n)] 52)/\w.grownBy B (je S):=by
 have c0:=Kj 0 p;have l:=Kj 1 D;have d:=qd w S 1 _ 52 D;have V:=hid D;have q:=hid (wc w S 1 _ 52 (Y (if n<0 then -1 else n)) D);clear p D;by_cases K:a=0;·subst K;go_enter qu,iz;go_wp2;(all_goals go_end0);all_goals exact⟨Z,by simpa using V.out,Rn (zi _ _)⟩
 by_cases z:n<0;·have b:max (-1) n = -1:=Aa;go_enter qu,iz;go_wp2;(all_goals go_end0);all_goals exact⟨Z,by have:=q.out;simpa[K,z] using this,CX _⟩
 ·have b:max (-1) n=n:=Aa;go_enter qu,iz;go_wp2;(all_goals go_end0);all_goals exact⟨Z,by have:=q.out;rw[aO (show ¬n<0 by omega)]at this;simpa[K,show ¬n<0 by omega] using this,CX _⟩
theorem QN(u:M):yf ow 4 #[] u λe B=>e=ia (gq #[vp (je ⟨iZ u.1+1,0,zt⟩),vp (je ⟨iZ u.1+2,0,zt⟩)])/\B.1[iZ u.1]?=je (pf #[xh zt 0 0,Y (-1)] 52) /\
  B.1[iZ u.1+1]?=je (pf #[HZ u.1.size] 54)/\B.1[iZ u.1+2]?=je (pf #[HZ u.1.size] 56)/\iT u B:=by go_enter func4,ntmps4;go_wp2;have f:(u.alloc (pf #[xh zt 0 0,Y (-1)] 52)).1.size=iZ u.1+1:=Ae;have R:((u.alloc (pf #[xh zt 0 0,Y (-1)] 52)).alloc (pf #[HZ u.1.size] 54)).1.size=iZ u.1+2:=Ae;have J:=iy (u.alloc (pf #[xh zt 0 0,Y (-1)] 52)) (pf #[HZ u.1.size] 54);have a:=iy ((u.alloc (pf #[xh zt 0 0,Y (-1)] 52)).alloc (pf #[HZ u.1.size] 54)) (pf #[HZ u.1.size] 56);rw[f]at J;rw[R]at a;have d:=Bg ((u.alloc (pf #[xh zt 0 0,Y (-1)] 52)).alloc (pf #[HZ u.1.size] 54)) (pf #[HZ u.1.size] 56);exact fx (v:=gq #[vp (je ⟨iZ u.1+1,0,zt⟩),vp (je ⟨iZ u.1+2,0,zt⟩)]) (by simp[yo,results12,go_sem]) Z ⟨Z,(d.5 _ Aa).trans (((Bg (u.alloc (pf #[xh zt 0 0,Y (-1)] 52)) (pf #[HZ u.1.size] 54)).5 _ Aa).trans (iy u (pf #[xh zt 0 0,Y (-1)] 52))),(d.5 _ Aa).trans J,a,Pw _ _ _ _⟩
theorem Agk{w:M}{a i:Nat}{L:List Fl}{f:Fl}{c:Nat}(h:w.ownsRow a t 3 (xh (je (iQ g)) (O L) c) (O L) (C9 L))(I:L[i]?=je f)(s:Nat):(w.setCell ⟨g,i * 3+2,zt⟩ (Y s)).ownsRow a t 3 (xh (je (iQ g)) (O L) c) (O L) (C9 (L.set i { f with s:=s }))/\w.grownBy (w.setCell ⟨g,i * 3+2,zt⟩ (Y s)) (je g):=by have:=h.stored (i * 3+2) (Y s);refine⟨?_,this.2⟩;(have e:(C9 L).set (i * 3+2) (Y s)=C9 (L.set i { f with s:=s }):=by rw[CM I];obtain⟨F,C,J⟩:=P3 I;refine cE λj=>?_;grind);grind
theorem St.safe{w:M}{L:List Fl}{a i:Nat}{f:Fl}(h:St bt rt w K l L (je (iQ g)) a)(R:rt≠bt)(I:L[i]?=je f)(s:Nat):St bt rt (w.setCell ⟨g,i * 3+2,zt⟩ (Y s)) K l (L.set i { f with s:=s }) (je (iQ g)) a/\w.grownBy (w.setCell ⟨g,i * 3+2,zt⟩ (Y s)) (je g):=by have ⟨C,J⟩:=Agk h.2 I s;(have b:K≠g:=λe=>by have ⟨Q,P⟩:=Ex h.2 Z;rw[←e,h.1]at P;cases P;exact R Z);refine⟨⟨?_,?_⟩,J⟩;rw[td];exact(tu _ _ _ _ b).trans h.1;rwa[td]
theorem St.drew{w:M}{L:List Fl}{v:iM}(h:St bt rt w K l L v s):St bt rt w.drew K l L v s:=⟨h.blk,h.row.drew⟩
def Zu(L:List Fl)(n:y)(L':List Fl):Prop:=
 ((∀f∈L,f.n≠n)/\L'=L)∨∃i f,L[i]?=je f/\f.n=n/\L'=L.set i { f with s:=f.d.size }
theorem IY(w:qi)(b S:Nat)(left:Int)(k:List Fl)(v:iM)(s:Nat)(n:iF)(c:w.1[b]?=je (pf #[HZ S] 54))(h:St 52 97 w S left k v s)(ab:-1<=left)(ad:left<=9223372036854775807)(z:iY k<=10000000):yf ow 53 #[HZ b,zx n] w λe B=>e=ia (o0 (decide (left≠0)))/\∃d,NJ 52 97 w B S (dec left) v d/\((left=0/\d=k)∨(left≠0/\Zu k n d)):=by
 have Y:b≠S:=λe=>by have:=h.1;rw[←e,c]at this;simp at this
 have J:=Sw w S _ left h.1 ab ad;have c0:=Kj 0 c;have l:=hid h;have A:=hid c;clear h c;by_cases K:left=0;·(have P:decide (left≠0)=vy:=by simp[K]);rw[P]at J⊢;have V:=hid J;clear J;go_enter func53,ntmps53;exact O9j
 ·(have P:decide (left≠0)=jz:=by simp[K]);rw[P]at J⊢;have V:=hid J;have y:=hid K;clear J K P;go_enter func53,ntmps53;go_wp2_with (go_at_call 80;refine V.mono ?_;rintro e H⟨rfl,g,a⟩;have R:=hid (l.lefts g a Ad);have t:=hid a;have o:=hid ((a.5 b (ltOf A) (λe=>Y Ada)).trans A);have Z:=cellOf (j:=0) o iW;have a1:=hid (Rl H S v s (dec left) k n R.1 R.2 Aa);clear g a);refine a1.mono ?_;rintro e u⟨ae,D⟩;subst ae;have G:=Kj 0 R.1;obtain⟨rfl,O⟩|⟨p,f,rfl,I,T⟩:=D;(·have E:=hid O;clear O;go_wp2;(all_goals go_ret);all_goals exact⟨iW,k,.same R (I8.grown t),qx ⟨y,zk ⟨E,iW⟩⟩⟩);·have L:=(aF.1 I).1;have M:(p:Int)<(iY k:Int):=Aa;have Tz:(p:Int) ≥ 0:=Aa;obtain⟨q,aa,N,Q,_⟩:=Yn R.2 Aa;subst aa;obtain⟨F,U,W⟩:=Ko R.2 I;have X:=R.2.frozenAt (p * 3+2);have x:=hid (R.drew.safe Ad I f.d.size);have r:=hid I;have C:=hid T;clear I T F;go_wp2;go_region_law (fail);(all_goals go_wp2);(all_goals go_ret);all_goals exact⟨iW,_,⟨je (iQ q),s,x.1,(I8.grown t).trans ⟨⟨x.2.1,x.2.2,x.2.3,x.2.4,λj i m=>x.2.5 j i (λe=>m (qx Ada))⟩,λ_ h=>zk h⟩⟩,qx ⟨y,qx ⟨p,f,r,C,iW⟩⟩⟩
theorem PF{a b c:M}(h:a.grownBy b r)(g:b.grownBy c r):a.grownBy c r:=
 ⟨g.os.trans h.os,g.tape.trans h.tape,g.output.trans h.output,aD h.size g.size,λf n Y=>(g.block f (aB n h.size) Y).trans (h.block f n Y)⟩
theorem Yy(w:M):iT w w.drew:=⟨Z,Z,Z,aA _,λ_ _=>rfl⟩
theorem Vl{W w2:qi}{b:Nat}{L M:List Fl}{v a:iM}{G:Nat}(k:W=H∨W=H.drew)(c:St 52 97 H S l L v s)(m:H.1[b]?=je (pf #[HZ S] 54))(Y:w2.ownsRow W.1.size 97 3 (xh a (O M) G) (O M) (C9 M))(D:iT W w2):w2.cell? (iQ b)=je (HZ S)/\w2.cell? (iQ S)=je (xh v (O L) s)/\w2.frozen? (iQ S)=vy /\
  Hid (St 52 97 (w2.setCell (iQ S) (xh a (O M) G)) S l M a G/\(w2.setCell (iQ S) (xh a (O M) G)).ownsRow H.1.size 97 3 (xh a (O M) G) (O M) (C9 M)/\H.grownBy (w2.setCell (iQ S) (xh a (O M) G)) (je S)) /\
  Hid (St 52 97 (w2.drew.setCell (iQ S) (xh a (O M) G)) S l M a G/\(w2.drew.setCell (iQ S) (xh a (O M) G)).ownsRow H.1.size 97 3 (xh a (O M) G) (O M) (C9 M)/\H.grownBy (w2.drew.setCell (iQ S) (xh a (O M) G)) (je S)):=by
 have hs:iZ W.1=iZ H.1:=by obtain rfl|rfl:=k<;>rfl
 have o:iT H w2:=by obtain rfl|rfl:=k;exact D;exact(Yy H).trans D
 rw[hs]at Y;have E:=(o.5 _ (ltOf c.1)).trans c.1;have C:=St.swap E Y Ad;have J:=St.swap (w:=w2.drew) E Y.drew Ad;exact⟨cellOf ((o.5 _ (ltOf m)).trans m) Z,cellOf E Z,qd w2 S 0 _ 52 E,⟨C.1,C.2,PF (Rn o) (CX _)⟩,⟨J.1,J.2,PF (Rn (o.trans ((Yy w2).mono o.4))) (CX _)⟩⟩
theorem QP(w:M)(b S:Nat)(left:Int)(k:List Fl)(v:iM)(s:Nat)(n:y)(c:w.1[b]?=je (pf #[HZ S] 54))(h:St 52 97 w S left k v s)(ab:-1<=left)(ad:left<=9223372036854775807)(g:O k<=10000000):yf ow 51 #[HZ b,zx n] w λe B=>e=ia (o0 (decide (left≠0)))/\NJ 52 97 w B S (dec left) v (if left=0 then k else wo k n):=by
 have f:b≠S:=λe=>by have:=h.1;grind
 have J:=Sw w S _ left h.1 ab ad;have c0:=Kj 0 c;have l:=hid h;have A:=hid c;clear h c;by_cases K:left=0;·(have P:decide (left≠0)=vy:=by simp[K]);rw[P]at J⊢;rw[aL K];have V:=hid J;clear J;go_enter func51,ntmps51;go_wp2_with (go_at_call 80;refine V.mono ?_;rintro e H⟨rfl,a,W⟩;have j:=hid (l.lefts a W Ad);have t:=hid W;clear a W);(all_goals go_ret);all_goals exact⟨Z,.same j (I8.grown t)⟩
 ·(have P:decide (left≠0)=jz:=by simp[K]);rw[P]at J⊢;rw[aO K];have V:=hid J;clear J K P;go_enter func51,ntmps51;go_wp2_with (go_at_call 80;refine V.mono ?_;rintro e H⟨rfl,a,W⟩;have j:=hid (l.lefts a W Ad);have t:=hid W;have U:=hid ((W.5 b (ltOf A) (λe=>f Ada)).trans A);have Q:=cellOf (j:=0) U Z;have X:Hid (∀d,d=H∨d=H.drew->_):=(λd E=>Sl d S v s (dec left) k n (by obtain rfl|rfl:=E<;>exact j.1) HA Aa);clear a W);go_region_with (go_at_call 81;refine(X _ BQ).mono ?_;rintro e i⟨F,G,rfl,ah,ai⟩;obtain⟨m,o,p,N,x⟩:=Vl BQ j U ah ai;clear ah ai);(all_goals go_wp2);(all_goals go_ret);all_goals first|exact⟨Z,.new (I8.grown t) N.1.1 N.2.1 N.2.2⟩|exact⟨Z,.new (I8.grown t) x.1.blk x.2.1 x.2.2⟩
def Aoi(L:List Fl)(n m:y)(L':List Fl):Prop:=
 (((∀f∈L,f.n≠n)∨n=m)/\L'=L)∨∃f∈L,f.n=n/\n≠m/\L'=wo (wo L n) m++[⟨m,f.d,f.s⟩]
def Amk(A:Option Addr->Nat->Act)(R:Option Addr->Nat->M->Prop):Exit->Act->M->Prop
 |.normal,a,w=>∃x y,a=A x y/\R x y w
 |_,_,_=>False
theorem Ac8{c:Code}{Q:Exit->Act->M->Prop}{a:Act}{w:M}(R:Option Addr->Nat->M->Prop)(h:∃A,Code.wp P c (Amk A R) a w/\∀x y W,R x y W->Q .normal (A x y) W):Code.wp P c Q a w:=by have ⟨A,C,J⟩:=h;refine Code.wp_mono ?_ C;intro e a w he;cases e with|normal=>obtain⟨x,y,rfl,Y⟩:=he;exact J x y w Y|_=>exact(he:False).elim
def Aiu(A:Option Addr->Nat->Nat->Nat->Nat->Act)(R:iI):Exit->Act->M->Prop
 |.normal,a,w=>∃x y z t u,a=A x y z t u/\R w
 |_,_,_=>False
theorem XD{c:Code}{Q:Exit->Act->M->Prop}{a:Act}{w:M}(R:iI)(h:∃A,Code.wp P c (Aiu A R) a w/\∀x y z t u W,R W->Q .normal (A x y z t u) W):Code.wp P c Q a w:=by have ⟨A,C,J⟩:=h;refine Code.wp_mono ?_ C;intro e a w he;cases e with|normal=>obtain⟨x,y,z,t,u,rfl,Y⟩:=he;grind|_=>exact(he:False).elim
theorem YZ{w U b:M}{G:Nat}{X:List Fl}{y:Fl}{v a:iM}(c:I8 w U S (Cl v) (Cl v))(H:St 52 97 (b.setCell (iQ S) (xh a (X++[y]).length G)) S l (X++[y]) a G/\(b.setCell (iQ S) (xh a (X++[y]).length G)).ownsRow U.1.size 97 3 (xh a (X++[y]).length G) (X++[y]).length (C9 (X++[y]))/\U.grownBy (b.setCell (iQ S) (xh a (X++[y]).length G)) (je S)):NJ 52 97 w (b.setCell (iQ S) (xh a (O X+1) G)) S l v (X++[y]):=by have e:(X++[y]).length=O X+1:=Ae;rw[←e];exact .new c H.1.1 H.2.1 H.2.2
theorem XL{U a b:M}(D:iT U a)(Y:a.ownsRow U.1.size 97 3 v n X)(c:a.grownBy b v.ownBlock):iT U b:=D.trans ⟨c.1,c.2,c.3,by have:=c.4;omega,λj l=>c.5 j (by have:=D.4;omega) (λe=>by have:=(Y.lt j e.symm).1;omega)⟩
theorem Aoa{W5 J:M}(k:iT W5 W)(Y:J.ownsRow W.1.size 97 3 v n X)(D:iT W J)(o:Obj):Hid (J.ownsRow W5.1.size 97 3 v n X)/\Hid (iT W5 J)/\Hid ((J.alloc o).ownsRow W5.1.size 97 3 v n X)/\Hid (iT W5 (J.alloc o))/\Hid ((J.alloc o).1[iZ J.1]?=je o):=by have C:J.ownsRow W5.1.size 97 3 v n X:=⟨Y.1,Y.2.imp id (fun⟨g,cap,cur,k1,k2,k3⟩=>⟨g,cap,cur,k1,by have:=k.4;omega,k3⟩)⟩;have a:=k.trans (D.mono k.4);exact⟨C,a,C.alloc o,a.trans ((Bg J o).mono a.4),iy J o⟩
theorem QQ(w:qi)(b S:Nat)(left:Int)(k:List Fl)(v:iM)(s:Nat)(n m:iF)(c:w.1[b]?=je (pf #[HZ S] 54))(h:St 52 97 w S left k v s)(ab:-1<=left)(ad:left<=9223372036854775807)(hL:iY k<=10000000):yf ow 54 #[HZ b,zx n,zx m] w λe w'=>e=ia (o0 (decide (left≠0)))/\∃L',NJ 52 97 w w' S (dec left) v L'/\((left=0/\L'=k)∨(left≠0/\Aoi k n m L')):=by
 have Y:b≠S:=λe=>by have:=h.1;rw[←e,c]at this;simp at this
 have J:=Sw w S _ left h.1 ab ad;have c0:=Kj 0 c;have l:=hid h;have A:=hid c;clear h c;by_cases K:left=0;·(have P:decide (left≠0)=vy:=by simp[K]);rw[P]at J⊢;have V:=hid J;clear J;go_enter func54,ntmps54;exact O9j
 ·(have P:decide (left≠0)=jz:=by simp[K]);rw[P]at J⊢;have V:=hid J;have y:=hid K;clear J K P;go_enter func54,ntmps54;go_wp2_with (go_at_call 80;refine V.out.mono ?_;rintro e H⟨rfl,g,a⟩;have R:=hid (l.out.lefts g a Ad);have t:=hid a;have o:=hid ((a.5 b (ltOf A.out) (λe=>Y Ada)).trans A.out);have Z:=cellOf (j:=0) o.out iW;have a1:=hid (Rl H S v s (dec left) k n R.out.1 R.out.2 Aa);clear g a);refine a1.out.mono ?_;rintro e w2⟨ae,hz⟩;subst ae;have s0:=Kj 0 R.out.1;rcases hz with⟨rfl,O⟩|⟨p,f,rfl,I,T⟩;(·have af:=hid O;clear O;go_wp2;(all_goals go_ret);all_goals exact⟨iW,k,.same R.out (I8.grown t.out),qx ⟨y.out,zk ⟨zk af.out,iW⟩⟩⟩);·have bb:=(aF.1 I).1;have bc:(p:Int)<(iY k:Int):=Aa;have Tz:¬(p:Int)<0:=Aa;obtain⟨q,aa,bq,bd,_⟩:=Yn R.out.2 Aa;subst aa;obtain⟨q0,q1,q2⟩:=Ko R.out.2 I;by_cases a6:n=m;(·have hq:=WJ a6;have az:=hid a6;clear a6;go_wp2;(all_goals go_ret);all_goals exact⟨iW,k,.same R.out (I8.grown t.out),qx ⟨y.out,zk ⟨qx az.out,iW⟩⟩⟩);·have hq:=WK a6;have az:=hid a6;have HF:=hid I;have bz:=hid T;clear a6 I T;go_wp2;have b5:=hid (Bg w2 (pf #[zx m,zx f.d,iS f.s] 97));have bf:=hid (iy w2 (pf #[zx m,zx f.d,iS f.s] 97));have j:=hid (R.out.below b5.out);have U:=hid ((b5.out.5 b (ltOf o.out)).trans o.out);clear Z s0 q0 q1 q2 a1 c0;have c3:=Kj 0 U.out;generalize cd:w2.alloc (pf #[zx m,zx f.d,iS f.s] 97)=W3 at *;generalize c6:iZ w2.1=FB at *;have X:Hid (∀W,W=W3∨W=W3.drew->_):=(λW E=>Sl W S (je (iQ q)) s (dec left) k n (by rcases E with rfl|rfl<;>exact j.out.1) HA Aa);refine Ac8 (λF G W5=>Hid (St 52 97 W5 S (dec left) (wo k n) F G/\W5.ownsRow W3.1.size 97 3 (xh F (wo k n).length G) (wo k n).length (C9 (wo k n))/\W3.grownBy W5 (je S))) ?_;apply Exists.intro;refine⟨?_,?_⟩;(·go_region_with (go_at_call 81;refine(X.out _ BQ).mono ?_;rintro e br⟨F,G,rfl,ah,ai⟩;obtain⟨bu,bw,bx,N,x⟩:=Vl BQ j.out U.out ah ai;clear ah ai);all_goals first|exact⟨F,G,iW,N⟩|exact⟨F,G,iW,x⟩);intro F G W5 L;clear X c3;go_wp2;(all_goals (have al:Hid (W5.1[FB]?=je (pf #[zx m,zx f.d,iS f.s] 97)):=(L.out.2.2.5 FB (ltOf bf.out) (λe=>by cases e;have:=ltOf R.out.1;omega)).trans bf.out;have a7:Hid (W5.1[b]?=je (pf #[HZ S] 54)):=(L.out.2.2.5 b (ltOf U.out) (λe=>Y Ada)).trans U.out;have c5:=Kj 0 a7.out;obtain⟨m0,m1,m2⟩:=Ck3 0 1 2 al.out;have aj:Hid ((wo k n).length<=iY k):=dT _ _;have ao:Hid ((wo (wo k n) m).length<=(wo k n).length):=dT _ _;have X:Hid (∀W,iT W5 W->_):=(λW E=>Sl W S F G (dec left) (wo k n) m ((E.5 _ (ltOf L.out.1.1)).trans L.out.1.1) (El L.out.1.2 E) (by have:=aj.out;omega));have ak:=hid (Bg W5 (pf #[zx m,zx f.d,iS f.s] 97));have bg:=hid (iy W5 (pf #[zx m,zx f.d,iS f.s] 97))));(all_goals (have c7:=(ak.out.cell (p:=(iQ b)) (ltOf a7.out)).trans c5));(all_goals (have bh:Hid (iT W5 (W5.alloc (pf #[zx m,zx f.d,iS f.s] 97)).drew):=ak.out.trans ((Yy _).mono ak.out.4)));have bj:Hid (I8 w W5 S (Cl (je (iQ q))) (Cl (je (iQ q)))):=((I8.grown t.out).trans (I8.below b5.out)).trans (I8.grown L.out.2.2);(all_goals (obtain⟨j0,bk,bm,bn,bo⟩:=uu Tryz.info97));refine XD (λu=>Hid (NJ 52 97 w u S (dec left) (je (iQ q)) (wo (wo k n) m++[⟨m,f.d,f.s⟩]))) ?_;apply Exists.intro;refine⟨?_,?_⟩;(·go_region_law (first|(refine ub _ iW (.tmp 61) (.tmp 63) 50 iW W5.1.size 97 j0 _ 3 40 vf bk bm bn bo iW Ad (.slice aq (wo (wo k n) m).length ar) (wo (wo k n) m).length (C9 (wo (wo k n) m)) Kx (by first|exact b6.out|exact b6.out.drew) (iQ W5.1.size) 1 1 [zx m,zx f.d,iS f.s] Kx Ac (qp i.out) An Aa Adg (by have:=aj.out;have:=ao.out;omega) a8.out.4 _ iW ?_;intro z B M d D C au;obtain⟨av,aw,ax,N,x⟩:=Vl (W:=W5) (w2:=M) (M:=wo (wo k n) m++[⟨m,f.d,f.s⟩]) (zk iW) L.out.1 a7.out (by rw[Na,aH];exact d) (XL a8.out b6.out D);obtain⟨u,b7⟩:∃u,M.setCell (iQ S) (xh (je (iQ z)) ((wo (wo k n) m).length+1) B)=u:=⟨_,iW⟩;have r:Hid (NJ 52 97 w u S (dec left) (je (iQ q)) (wo (wo k n) m++[⟨m,f.d,f.s⟩])):=(by subst b7;exact YZ bj.out N.out);clear d D C N x)|(refine ub _ iW (.tmp 61) (.tmp 63) 50 iW W5.1.size 97 j0 _ 3 40 vf bk bm bn bo iW Ad (.slice aq (wo (wo k n) m).length ar) (wo (wo k n) m).length (C9 (wo (wo k n) m)) Kx (by first|exact b8.out|exact b8.out.drew) (iQ w6.1.size) 1 1 [zx m,zx f.d,iS f.s] Kx Ac (qp c8.out) An Aa Adg (by have:=aj.out;have:=ao.out;omega) b9.out.4 _ iW ?_;intro z B M d D C au;obtain⟨av,aw,ax,N,x⟩:=Vl (W:=W5) (w2:=M) (M:=wo (wo k n) m++[⟨m,f.d,f.s⟩]) (zk iW) L.out.1 a7.out (by rw[Na,aH];exact d) (XL b9.out b8.out D);obtain⟨u,b7⟩:∃u,M.setCell (iQ S) (xh (je (iQ z)) ((wo (wo k n) m).length+1) B)=u:=⟨_,iW⟩;have r:Hid (NJ 52 97 w u S (dec left) (je (iQ q)) (wo (wo k n) m++[⟨m,f.d,f.s⟩])):=(by subst b7;exact YZ bj.out N.out);clear d D C N x)|(go_simp;refine(X.out _ HQ).mono ?_;rintro e w6⟨aq,ar,rfl,ba,ay⟩;obtain⟨b6,a8,b8,b9,c8⟩:=Aoa (W5:=W5) HQ ba ay (pf #[zx m,zx f.d,iS f.s] 97);have cf:=(a8.out.cell (p:=(iQ b)) (ltOf a7.out)).trans c5;have n0:=(a8.out.cell (p:=(iQ FB)) (ltOf al.out)).trans m0;have n1:=(a8.out.cell (p:=(iR FB 1)) (ltOf al.out)).trans m1;have n2:=(a8.out.cell (p:=(iR FB 2)) (ltOf al.out)).trans m2;have cg:=(b9.out.cell (p:=(iQ b)) (ltOf a7.out)).trans c5;first|(have i:=hid ((ay.5 _ (ltOf bg.out)).trans bg.out);clear ba ay)|clear ba ay;dsimp only));(all_goals generalize W5.1.size=c9);(all_goals generalize w6.1.size=cc);all_goals first|exact⟨aq,ar,c9,z,B,iW,r⟩|exact⟨aq,ar,cc,z,B,iW,r⟩);intro cj ck cm cn Q u r;clear X c5 m0 m1 m2 c7;go_wp2;(all_goals go_ret);all_goals exact⟨iW,_,r.out,qx ⟨y.out,qx ⟨f,aS HF.out,bz.out,az.out,iW⟩⟩⟩
theorem TP{C X:Nat}(t:C<=X):jg C W (W.setCell (iR X j) u):=⟨Z,Z,Z,Ae,λi V=>tu _ _ _ _ (by show i≠X;omega)⟩
def GS(keep:Int)(f:Fl):Nat:=if keep<0 then f.s else if keep<(f.d.size:Int) - f.s then f.s+keep.toNat else f.d.size
def cr(keep:Int)(f:Fl):Fl:=⟨f.n,f.d.extract 0 (GS keep f),GS keep f⟩
theorem UA{keep:Int}{f:Fl}(h:f.s<=f.d.size):GS keep f<=f.d.size:=by rw[GS];grind
theorem Xq{w P:qi}{i G:Nat}{a:iM}{M:List Fl}{f:Fl}(D:iT w P)(E:P.1[iZ w.1]?=je (pf #[xh a i G,iS (-1)] 52))(n:P.1[iZ w.1+1]?=je (pf #[HZ w.1.size] 54))(p:P.1[iZ w.1+2]?=je (pf #[HZ w.1.size] 56))(Y:P.ownsRow (iZ w.1+3) 97 3 (xh a i G) i (C9 M))(k:h.ownsRow (iZ w.1+3) 97 3 (xh (je (iQ g)) (i+1) I) (i+1) (C9 M++[zx f.n,zx f.d,iS f.s]))(c:P.grownBy h (xh a i G).ownBlock):h.cell? (iQ w.1.size)=je (xh a i G)/\h.frozen? (iQ w.1.size)=vy/\h.cell? ⟨iZ w.1+2,0,zt⟩=je (HZ w.1.size) /\
   ∃N,h.setCell (iQ w.1.size) (xh (je (iQ g)) (i+1) I)=N/\Hid (iT w N/\N.1[iZ w.1]?=je (pf #[xh (je (iQ g)) (i+1) I,iS (-1)] 52)/\N.ownsRow (iZ w.1+3) 97 3 (xh (je (iQ g)) (i+1) I) (i+1) (C9 (M++[f])) /\
    N.1[iZ w.1+1]?=je (pf #[HZ w.1.size] 54)/\N.1[iZ w.1+2]?=je (pf #[HZ w.1.size] 56)):=by (have b:∀j<iZ w.1+3,(xh a i G).ownBlock≠je j:=λj l e=>by have:=(Y.lt j e).1;omega);have hs:=ltOf p;have d:=(c.5 _ Aa (λe=>b _ Aa e.symm)).trans E;have o:=(c.5 _ Aa (λe=>b _ Aa e.symm)).trans n;have m:=(c.5 _ Aa (λe=>b _ Aa e.symm)).trans p;have q:=D.trans ⟨c.1,c.2,c.3,by have:=c.4;omega,λj l=>c.5 j Aa (λe=>b j Aa e.symm)⟩;refine⟨cellOf d Z,qd h _ 0 _ 52 d,cellOf m Z,_,Z,q.trans (TP (aA _)),wc h w.1.size 0 _ 52 _ d,?_,(tu _ _ _ _ Aj).trans o,(tu _ _ _ _ Aj).trans m⟩;rw[Na];exact DZ k (λe=>by have:=(k.lt _ e).1;omega) _
theorem VM(u:qi)(HB V:Nat)(left keep:Int)(S:List Fl)(fa:iM)(fc:Nat)(hH:u.1[HB]?=je (pf #[HZ V] 56))(J:St 52 97 u V left S fa fc)(b6:-9223372036854775808<=keep)(b7:keep<=9223372036854775807)(hL:iY S<=10000000)(hs:∀f∈S,f.s<=f.d.size)(hd:∀f∈S,f.d.size<=1099511627776):yf ow 32 #[HZ HB,iS keep] u λab p=>ab=ia (gq #[vp (je ⟨iZ u.1+1,0,zt⟩),vp (je ⟨iZ u.1+2,0,zt⟩)])/\iT u p/\p.1[iZ u.1+1]?=je (pf #[HZ u.1.size] 54)/\p.1[iZ u.1+2]?=je (pf #[HZ u.1.size] 56) /\
   ∃v G,p.1[iZ u.1]?=je (pf #[xh v (S.map (cr keep)).length G,iS (-1)] 52)/\p.ownsRow (iZ u.1+3) 97 3 (xh v (S.map (cr keep)).length G) (S.map (cr keep)).length (C9 (S.map (cr keep))):=by
 have c0:=Kj 0 J.blk;have al:=ltOf J.blk;have b0:=Kj 0 hH;have ao:=ltOf hH;have o:=hid J.row;have aq:=hid hs;have ar:=hid hd;have ay:=hid (QN u);clear J hs hd;go_enter func32,ntmps32;go_wp2_with (go_at_call 4;refine ay.out.mono ?_;rintro ab w1⟨rfl,ad,ae,af,P⟩;have R:=hid ad;have n:=hid ae;have h:=hid af;have O:=hid P;have b1:=(P.cell (p:=(iQ HB)) ao).trans b0;have c1:=(P.cell (p:=(iQ V)) al).trans c0;clear ad ae af P);obtain⟨E,L,W,X,a6⟩:=uu Tryz.info97;go_loopw [23] (λa1 r=>∃(k:Nat)(v:iM)(G:Nat),a1=iS k/\k<=iY S/\Hid (iT u r/\r.1[iZ u.1]?=je (pf #[xh v k G,iS (-1)] 52)/\r.ownsRow (iZ u.1+3) 97 3 (xh v k G) k (C9 ((S.take k).map (cr keep)))/\r.1[iZ u.1+1]?=je (pf #[HZ u.1.size] 54)/\r.1[iZ u.1+2]?=je (pf #[HZ u.1.size] 56))) (λa1 _=>iY S - (intOf a1).toNat)
 case atStart=>exact⟨0,zt,0,iW,bB _,O.out,R.out,gu _ _ _ _,n.out,h.out⟩
 case round=>
  obtain⟨k,v,G,rfl,hi,HI⟩:=hrel;by_cases Y:k<iY S
  ·refine Nga λy f I=>?_;obtain⟨a7,T,b8,a8,_⟩:=Yn o.out Aa;subst T;obtain⟨q,F,s⟩:=Ko o.out I;have K:=(HI.out.1.cell (p:=⟨a7,k * 3,zt⟩) a8).trans q;have Q:=(HI.out.1.cell (p:=⟨a7,k * 3+1,zt⟩) a8).trans F;have f2:=(HI.out.1.cell (p:=⟨a7,k * 3+2,zt⟩) a8).trans s;clear q F s b1 c1 b0 c0;have b9:=aq.out f (aS I);have ba:=ar.out f (aS I);have bb:IntKind.i64.wrap ((f.d.size:Int) - f.s)=(f.d.size:Int) - f.s:=by rw[bud];omega
   have aa:Hid ((S.take (k+1)).map (cr keep)=(S.take k).map (cr keep)++[cr keep f]):=by
    show _=_;rw[bQ Y,cP,(aF.1 I).2]
    rfl
   by_cases hk:keep<0
   ·have t:Hid (cr keep f=⟨f.n,(f.d.extract 0 f.s),f.s⟩):=by show _=_;unfold cr;rw[show GS keep f=f.s by unfold GS;simp[hk]]
    have ah:min keep ((f.d.size:Int) - f.s)=keep:=Aa;have ai:max 0 keep=0:=Aa;have b:=hid (Bg wr (pf #[zx f.n,zx (f.d.extract 0 f.s),iS (f.s:Nat)] 97));have A:=hid (iy wr (pf #[zx f.n,zx (f.d.extract 0 f.s),iS (f.s:Nat)] 97));have H:=hid (HI.out.2.2.1.alloc (pf #[zx f.n,zx (f.d.extract 0 f.s),iS (f.s:Nat)] 97));refine Ug5 λe l w=>?_;have g:Hid (iT u (wr.alloc (pf #[zx f.n,zx (f.d.extract 0 f.s),iS (f.s:Nat)] 97))):=HI.out.1.trans (b.out.mono HI.out.1.size);obtain⟨n0,n1,n2⟩:=Ck3 0 1 2 A.out;have k0:=Kj 0 e.out;have h0:=Kj 0 w.out;go_wp2;clear K Q f2;generalize aj:wr.alloc (pf #[zx f.n,zx (f.d.extract 0 f.s),iS (f.s:Nat)] 97)=c at *;have U:=hid (Bg c (pf #[zx f.n,zx (f.d.extract 0 f.s),iS (f.s:Nat)] 97));have i:=hid (iy c (pf #[zx f.n,zx (f.d.extract 0 f.s),iS (f.s:Nat)] 97));have R:=hid (H.out.alloc (pf #[zx f.n,zx (f.d.extract 0 f.s),iS (f.s:Nat)] 97));refine Ywj λm n h=>?_;have O:Hid (iT u (c.alloc (pf #[zx f.n,zx (f.d.extract 0 f.s),iS (f.s:Nat)] 97)).drew):=(g.out.trans (U.out.mono g.out.size)).trans ((Yy _).mono NB);have k1:=Kj 0 m.out;have h1:=Kj 0 h.out;go_region_law (refine ub _ iW (.tmp 58) (.tmp 60) 50 iW (iZ u.1+3) 97 E _ 3 40 vf L W X a6 iW Ad (.slice v k G) k (C9 ((S.take k).map (cr keep))) Kx R.out.drew (iQ c.1.size) 1 1 [zx f.n,zx (f.d.extract 0 f.s),iS (f.s:Nat)] Kx Ac (qp i.out) An Aa Am Aa Age _ iW λz B M d D C au=>?_;obtain⟨av,aw,ax,N,x,a⟩:=Xq (f:=cr keep f) O.out m.out n.out h.out R.out.drew (by rw[t.out];exact d) D;clear d D C)
    all_goals go_wp2
    all_goals go_roundw
    all_goals try(case rel=>exact⟨k+1,je (iQ z),B,by go_num,Aa,a.out.1,a.out.2.1,by rw[aa.out];exact a.out.2.2.1,a.out.2.2.2.1,a.out.2.2.2.2⟩)
    all_goals try(case measure=>simp[intOf];omega)
   ·obtain⟨j,rfl⟩:∃j:Nat,keep=j:=⟨keep.toNat,Aa⟩;obtain⟨nn,az⟩:∃nn,f.s+j=nn:=⟨_,iW⟩;by_cases ak:(j:Int)<(f.d.size:Int) - f.s
    ·have t:Hid (cr j f=⟨f.n,(f.d.extract 0 nn),nn⟩):=by show _=_;unfold cr;rw[show GS j f=nn by rw[←az];unfold GS;simp[hk,ak]]
     have bc:nn<=f.d.size:=Aa;have ah:min (j:Int) ((f.d.size:Int) - f.s)=j:=Aa;have ai:max 0 (j:Int)=j:=Aa;have b5:IntKind.i64.wrap ((f.s:Int)+j)=(nn:Int):=by rw[bud];omega
     have b:=hid (Bg wr (pf #[zx f.n,zx (f.d.extract 0 nn),iS (nn:Nat)] 97));have A:=hid (iy wr (pf #[zx f.n,zx (f.d.extract 0 nn),iS (nn:Nat)] 97));have H:=hid (HI.out.2.2.1.alloc (pf #[zx f.n,zx (f.d.extract 0 nn),iS (nn:Nat)] 97));refine Ug5 λe l w=>?_;have g:Hid (iT u (wr.alloc (pf #[zx f.n,zx (f.d.extract 0 nn),iS (nn:Nat)] 97))):=HI.out.1.trans (b.out.mono HI.out.1.size);obtain⟨n0,n1,n2⟩:=Ck3 0 1 2 A.out;have k0:=Kj 0 e.out;have h0:=Kj 0 w.out;go_wp2;clear K Q f2;generalize aj:wr.alloc (pf #[zx f.n,zx (f.d.extract 0 nn),iS (nn:Nat)] 97)=c at *;have U:=hid (Bg c (pf #[zx f.n,zx (f.d.extract 0 nn),iS (nn:Nat)] 97));have i:=hid (iy c (pf #[zx f.n,zx (f.d.extract 0 nn),iS (nn:Nat)] 97));have R:=hid (H.out.alloc (pf #[zx f.n,zx (f.d.extract 0 nn),iS (nn:Nat)] 97));refine Ywj λm n h=>?_;have O:Hid (iT u (c.alloc (pf #[zx f.n,zx (f.d.extract 0 nn),iS (nn:Nat)] 97)).drew):=(g.out.trans (U.out.mono g.out.size)).trans ((Yy _).mono NB);have k1:=Kj 0 m.out;have h1:=Kj 0 h.out;go_region_law (refine ub _ iW (.tmp 58) (.tmp 60) 50 iW (iZ u.1+3) 97 E _ 3 40 vf L W X a6 iW Ad (.slice v k G) k (C9 ((S.take k).map (cr j))) Kx R.out.drew (iQ c.1.size) 1 1 [zx f.n,zx (f.d.extract 0 nn),iS (nn:Nat)] Kx Ac (qp i.out) An Aa Am Aa Age _ iW λz B M d D C au=>?_;obtain⟨av,aw,ax,N,x,a⟩:=Xq (f:=cr j f) O.out m.out n.out h.out R.out.drew (by rw[t.out];exact d) D;clear d D C)
     all_goals go_wp2
     all_goals go_roundw
     all_goals try(case rel=>exact⟨k+1,je (iQ z),B,by go_num,Aa,a.out.1,a.out.2.1,by rw[aa.out];exact a.out.2.2.1,a.out.2.2.2.1,a.out.2.2.2.2⟩)
     all_goals try(case measure=>simp[intOf];omega)
    ·have t:Hid (cr j f=⟨f.n,f.d,f.d.size⟩):=by show _=_;unfold cr;rw[show GS j f=f.d.size by unfold GS;simp[hk,ak]];simp
     have ah:min (j:Int) ((f.d.size:Int) - f.s)=(f.d.size:Int) - f.s:=Aa;have ai:max 0 ((f.d.size:Int) - f.s)=(f.d.size:Int) - f.s:=Aa;have b5:IntKind.i64.wrap ((f.s:Int)+((f.d.size:Int) - f.s))=(f.d.size:Int):=by rw[bud];omega
     have b:=hid (Bg wr (pf #[zx f.n,zx f.d,iS (f.d.size:Nat)] 97));have A:=hid (iy wr (pf #[zx f.n,zx f.d,iS (f.d.size:Nat)] 97));have H:=hid (HI.out.2.2.1.alloc (pf #[zx f.n,zx f.d,iS (f.d.size:Nat)] 97));refine Ug5 λe l w=>?_;have g:Hid (iT u (wr.alloc (pf #[zx f.n,zx f.d,iS (f.d.size:Nat)] 97))):=HI.out.1.trans (b.out.mono HI.out.1.size);obtain⟨n0,n1,n2⟩:=Ck3 0 1 2 A.out;have k0:=Kj 0 e.out;have h0:=Kj 0 w.out;go_wp2;clear K Q f2;generalize aj:wr.alloc (pf #[zx f.n,zx f.d,iS (f.d.size:Nat)] 97)=c at *;have U:=hid (Bg c (pf #[zx f.n,zx f.d,iS (f.d.size:Nat)] 97));have i:=hid (iy c (pf #[zx f.n,zx f.d,iS (f.d.size:Nat)] 97));have R:=hid (H.out.alloc (pf #[zx f.n,zx f.d,iS (f.d.size:Nat)] 97));refine Ywj λm n h=>?_;have O:Hid (iT u (c.alloc (pf #[zx f.n,zx f.d,iS (f.d.size:Nat)] 97)).drew):=(g.out.trans (U.out.mono g.out.size)).trans ((Yy _).mono NB);have k1:=Kj 0 m.out;have h1:=Kj 0 h.out;go_region_law (refine ub _ iW (.tmp 58) (.tmp 60) 50 iW (iZ u.1+3) 97 E _ 3 40 vf L W X a6 iW Ad (.slice v k G) k (C9 ((S.take k).map (cr j))) Kx R.out.drew (iQ c.1.size) 1 1 [zx f.n,zx f.d,iS (f.d.size:Nat)] Kx Ac (qp i.out) An Aa Am Aa Age _ iW λz B M d D C au=>?_;obtain⟨av,aw,ax,N,x,a⟩:=Xq (f:=cr j f) O.out m.out n.out h.out R.out.drew (by rw[t.out];exact d) D;clear d D C)
     all_goals go_wp2
     all_goals go_roundw
     all_goals try(case rel=>exact⟨k+1,je (iQ z),B,by go_num,Aa,a.out.1,a.out.2.1,by rw[aa.out];exact a.out.2.2.1,a.out.2.2.2.1,a.out.2.2.2.2⟩)
     all_goals try(case measure=>simp[intOf];omega)
  ·have y:¬(k:Int)<(iY S:Int):=Aa;have Z:k=iY S:=Aa;subst Z;have HT:Hid (S.take (iY S)=S):=by show _=_;simp
   go_wp2
   all_goals go_ret2
   all_goals (rw[HT.out]at HI;exact⟨iW,HI.out.1,HI.out.2.2.2.1,HI.out.2.2.2.2,v,G,HI.out.2.1,HI.out.2.2.1⟩)
open Go.Maps
attribute [local go_sem ↓] Go.wp_at_zero Go.wp_at_succ
theorem Ax.step{w:M}{X:iG}{b:Nat}(h:Ax w H X)(g:H.grownBy E (je b))(D:iZ w.1<=b):Ax w E X:=⟨g.1.trans h.1,g.2.trans h.2,g.3.trans h.3,aD h.4 g.4,λf n Y=>(g.5 f (aB n h.4) (λe=>by injection e with e;omega)).trans (h.5 f n Y)⟩
theorem Am6(w:qi)(k:Nat)(p b n:iF)(v:Int)(num:Int)(h0:0<=num)(h1:num+1<=9223372036854775807)(f:Nat)(O:w.1[k]?=je (pf #[iS num,.map (je f)] 105))(i d t:iF)(T z e:Int)(S:0<=e)(a1:e<=2147483647)(Q:iI)(L:Hid (∀W,Ax w W (· = k)->(qy 103 (.map (je f)) (zx p) vy).run ow W=.ok (mn #[zx i,zx d,zx t,iS T,iS z,iS e]) W))(HU:Hid (∀W,Ax w W (· = k)->W.1[k]?=je (pf #[iS (num+1),.map (je f)] 105)->∃J,(oq 103 (.map (je f)) (zx p) (mn #[zx i,zx b,zx t,iS T,iS (num+1),iS (Mc e)])).run ow W=.ok () J/\Hid (Ax W J (· = f))/\Hid (Q J)))(a6:f≠k)(ai:f<iZ w.1):yf ow 90 #[HZ k,Mo 3 p b n v] w λg B=>g=ia (gq #[])/\(∃J,Q J/\B=J):=by
 have D:=ltOf O;have a7:Hid (∀W,yf ow 148 #[iS e] W λg B=>g=ia (iS (Mc e))/\B=W):=λW=>Xj W e S a1;obtain⟨E,I⟩:∃E,(w.alloc (pf #[iS 3,zx p,zx b,zx n,iS v] 149)).setCell (iQ k) (iS (num+1))=E:=⟨_,iW⟩;have h:Hid ((w.alloc (pf #[iS 3,zx p,zx b,zx n,iS v] 149)).1[k]?=je (pf #[iS num,.map (je f)] 105)):=(np _ _ _ D).trans O;refine Ndk λj o=>?_;have l:Hid (E.1[iZ w.1]?=je (pf #[iS 3,zx p,zx b,zx n,iS v] 149)):=I▸(tu _ _ _ _ (by show iZ w.1≠k;omega)).trans (iy _ _)
 have K:iZ w.1<iZ E.1:=ltOf l;obtain⟨c,m⟩:∃c,E.alloc (pf #[zx iU,zx iU,zx iU,iS 0,iS 0,iS 0] 84)=c:=⟨_,iW⟩;have R:Hid (c.1[iZ E.1]?=je (pf #[zx iU,zx iU,zx iU,iS 0,iS 0,iS 0] 84)):=m▸iy _ _
 have q:Hid (Ax w c (· = k)):=m▸o.trans (Ax.of_below (Bg _ _) (aA _))
 have u:Hid (c.1[k]?=je (pf #[iS (num+1),.map (je f)] 105)):=m▸(np _ _ _ (ltOf j)).trans j
 have x:Hid (c.1[iZ w.1]?=je (pf #[iS 3,zx p,zx b,zx n,iS v] 149)):=m▸(np _ _ _ (ltOf l)).trans l
 obtain⟨a,Z⟩:∃a,((((((c.setCell (iQ E.1.size) (zx i)).setCell (iR E.1.size 1) (zx d)).setCell (iR E.1.size 2) (zx t)).setCell (iR E.1.size 3) (iS T)).setCell (iR E.1.size 4) (iS z)).setCell (iR E.1.size 5) (iS e))=a:=⟨_,iW⟩;have X:Hid (a.1[iZ E.1]?=je (pf #[zx i,zx d,zx t,iS T,iS z,iS e] 84)):=Z▸((((((((Cb.refl R).set 0 (zx i)).set 1 (zx d)).set 2 (zx t)).set 3 (iS T)).set 4 (iS z)).set 5 (iS e))).1
 have y:Hid (c.grownBy a (je E.1.size)):=Z▸((((((((Cb.refl R).set 0 (zx i)).set 1 (zx d)).set 2 (zx t)).set 3 (iS T)).set 4 (iS z)).set 5 (iS e))).2
 have a8:Hid (Ax w a (· = k)):=q.step y (eI K);have H:Hid (a.1[k]?=je (pf #[iS (num+1),.map (je f)] 105)):=(y.5 k (ltOf u) Amt).trans u;have A:Hid (a.1[iZ w.1]?=je (pf #[iS 3,zx p,zx b,zx n,iS v] 149)):=(y.5 _ (ltOf x) Amt).trans x;obtain⟨U,M⟩:∃U,(((a.setCell (iR E.1.size 1) (zx b)).setCell (iR E.1.size 4) (iS (num+1))).setCell (iR E.1.size 5) (iS (Mc e)))=U:=⟨_,iW⟩;have P:Hid (U.1[iZ E.1]?=je (pf #[zx i,zx b,zx t,iS T,iS (num+1),iS (Mc e)] 84)):=M▸(((((Cb.refl X).set 1 (zx b)).set 4 (iS (num+1))).set 5 (iS (Mc e)))).1
 have C:Hid (a.grownBy U (je E.1.size)):=M▸(((((Cb.refl X).set 1 (zx b)).set 4 (iS (num+1))).set 5 (iS (Mc e)))).2
 have aa:Hid (Ax w U (· = k)):=a8.step C (eI K);have r:Hid (U.1[k]?=je (pf #[iS (num+1),.map (je f)] 105)):=(C.5 k (ltOf H) Amt).trans H;have F:Hid (U.1[iZ w.1]?=je (pf #[iS 3,zx p,zx b,zx n,iS v] 149)):=(C.5 _ (ltOf A) Amt).trans A;have ⟨aj,ak⟩:=Aek j iW;have ⟨al,ao,aq⟩:=Kg l iW;have ⟨ar,ab⟩:=Aek u iW;have ⟨au,ad,av⟩:=Kg x iW;have ⟨aw,ae⟩:=Aek H iW;have ⟨ax,af,ay⟩:=Kg A iW;have ⟨az,b5⟩:=Aek r iW;have ⟨b6,b7,b8⟩:=Kg F iW;have ⟨b9,ba,bb,bc,bd,bf⟩:=Lj R iW;have ⟨bg,bh,bj,bk,bm,bn,_⟩:=It R;have ⟨bo,bq,br,bu,bw,bx⟩:=Lj X iW;have ⟨bz,c6,c7,c8,c9,cc,_⟩:=It X;have ⟨cd,cf,cg,cj,ck,cm⟩:=Lj P iW;have cn:=L E o;have cp:=L c q;have cq:=L E.drew o.drew;have cu:=L c.drew q.drew;have cw:=L E.drew.drew o.drew.drew;have cx:=L c.drew.drew q.drew.drew;have cy:=L E.drew.drew.drew o.drew.drew.drew;have cz:=L c.drew.drew.drew q.drew.drew.drew;have s0:=Kj (w:=(w.alloc (pf #[iS 3,zx p,zx b,zx n,iS v] 149))) 0 h;have s1:=Fk1 (w:=(w.alloc (pf #[iS 3,zx p,zx b,zx n,iS v] 149))) 0 h;have r0:=Kj (w:=w) 0 O;have N:=Fk1 (w:=w) 0 O;have J4:k≠iZ w.1:=Aa;have da:k≠iZ E.1:=Aa;have db:iZ w.1≠iZ E.1:=Aa;obtain⟨V,uV,G,s⟩:=HU U.drew.drew.drew aa.drew.drew.drew r;have KV:Hid ((λB=>B.cell? (iR k 1)=je (.map (je f))/\B.cell? (iR w.1.size 1)=je (zx p)/\B.cell? (iQ E.1.size)=je (zx i)/\B.cell? (iR E.1.size 1)=je (zx b)/\B.cell? (iR E.1.size 2)=je (zx t)/\B.cell? (iR E.1.size 3)=je (iS T)/\B.cell? (iR E.1.size 4)=je (iS (num+1))/\B.cell? (iR E.1.size 5)=je (iS (Mc e))) V):=by have ah:iZ E.1<iZ U.1:=ltOf P;have e1:V.1[k]?=_:=(G.5 k (ltOf r) (λg=>a6 g.symm)).trans r;have e2:V.1[iZ w.1]?=_:=(G.5 w.1.size (ltOf F) (λg=>Aa)).trans F;have Y:V.1[iZ E.1]?=_:=(G.5 E.1.size ah (λg=>Aa)).trans P;exact⟨cellOf e1 iW,cellOf e2 iW,cellOf Y iW,cellOf Y iW,cellOf Y iW,cellOf Y iW,cellOf Y iW,cellOf Y iW⟩
 clear O;go_enter func90,ntmps90;go_wp2;go_region_held3 (λB=>B.cell? (iR k 1)=je (.map (je f))/\B.cell? (iR w.1.size 1)=je (zx p)) (first|(go_keep;done)|exact⟨ab,ad⟩|exact⟨ae,af⟩) (fail);all_goals go_wp2
 all_goals (go_region_law (go_simp;go_at_call 148;refine(a7 _).mono ?_;rintro g w6⟨rfl,rfl⟩))
 all_goals go_wp2
 all_goals (go_region_held3 (λB=>B.cell? (iR k 1)=je (.map (je f))/\B.cell? (iR w.1.size 1)=je (zx p)/\B.cell? (iQ E.1.size)=je (zx i)/\B.cell? (iR E.1.size 1)=je (zx b)/\B.cell? (iR E.1.size 2)=je (zx t)/\B.cell? (iR E.1.size 3)=je (iS T)/\B.cell? (iR E.1.size 4)=je (iS (num+1))/\B.cell? (iR E.1.size 5)=je (iS (Mc e))) (first|(go_keep;done)|exact KV) (fail))
 all_goals go_wp2
 all_goals exact⟨iW,gq #[],by simp[yo,results90,go_sem],iW,_,s,iW⟩
end Go.Proofs.Y
