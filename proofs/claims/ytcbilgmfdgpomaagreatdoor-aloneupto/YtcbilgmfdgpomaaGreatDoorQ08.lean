import Derived.Test.YtcbilgmfdgpomaaGreatDoorQ07
import Derived.Lib.ConvBytes
set_option maxHeartbeats 4000000
set_option maxRecDepth 8000
set_option linter.all false
open Option renaming some → lj,none → jh
open Go.RowKit renaming Below → vu
open Go renaming World → gk,Calls → xq,Value → uo,heap_alloc_new → iw,TypeId → q9,bodyPost_ret → fy,Addr → lg,heap_setCell_other → p7,results → rz,info_parts → uz,World → Z,Calls → F,Value → O
open Bool renaming false → sd,true → km
open Go.RowKit.Below renaming heap_alloc → ir,refl → nu
open Go.Value renaming slice → qh,ownBlock → yq,int → uu,string → pc,pointer → pdw,bool → gd,tuple → js,agg → faj
open Go.Sort renaming putCells → kj,get_flatK → xi
open Prod renaming snd → udw
open Go.World renaming news_of_block → jc,ownsRow_nil → xn
open Go.Instr renaming lookup → gq
open List renaming filterMap_cons_none → iv,length_set → wcl,filterMap_nil → pd,length → iK
open Go.Builtin renaming delete_ → hh
open Go.Lib renaming toList_data → joc
open UInt8 renaming ofNat → qe
open Array renaming getElem?_mapIdx → fka,size → iL,size → Y
open Go.Addr renaming add_lit → wh
open Go.Obj renaming cells → oh
open Go.IntKind renaming i64 → gh,u8 → qg
open Go.Ending renaming returned → k8
open Or renaming inl → r7,inr → kr
open Go.Proofs.YtcbilgmfdgpomaaGreatDoor renaming hide → u,cellOf → T,ltOf → N
open Orch renaming fits → M,puts_4 → S
open Go.Proofs.Tryz
variable {B H W:Z}{I o:hY}{R:List (O×O)}{U:O}{bt e rt t:q9}{c g i j k s:Nat}{l:Int}{q:Prop}
def Y4f{p:Prop}(k:q)(h:Hd q->p:=by
 intro kz;have o:=hide (Wx a.out);generalize ((((((P.setCell ⟨w.1.size,0,none⟩ (.int .i64 0)).setCell ⟨w.1.size,1,none⟩ (.int .i64 0)).setCell ⟨w.1.size,2,none⟩ (.string iG)).setCell ⟨w.1.size,3,none⟩ (.string iG)).setCell ⟨w.1.size,4,none⟩ (.string iG)).setCell ⟨w.1.size,5,none⟩ (.int .i64 0)).setCell ⟨w.1.size,6,none⟩ (.bool false)=G at o⊢;revert G o;exact kz.1):p:=h ⟨k⟩
def Lvc{p:Prop}(h:p:=by
 have o:=hide (Wx a.out);generalize ((((((P.setCell ⟨w.1.size,0,none⟩ (.int .i64 0)).setCell ⟨w.1.size,1,none⟩ (.int .i64 0)).setCell ⟨w.1.size,2,none⟩ (.string iG)).setCell ⟨w.1.size,3,none⟩ (.string iG)).setCell ⟨w.1.size,4,none⟩ (.string iG)).setCell ⟨w.1.size,5,none⟩ (.int .i64 0)).setCell ⟨w.1.size,6,none⟩ (.bool false)=G at o⊢;have ⟨M,b,g,z,x,E,u⟩:=M4 o.out.blk iI;exact⟨iI,.tuple #[J4 0 0 iG iG iG 0 false,.bool false],by simp[results,Tryz.results67,go_sem,M,b,g,z,x,E,u],iI,C.out.grown o.out.grown C.out.size Amr⟩):p:=h
def Lay{p:Prop}(h:p:=by
 go_wp2_with (go_at_call 83;refine V.out.mono ?_;rintro e H⟨rfl,M,W⟩;have R:=hid (b.out.lefts M W Ae);have t:=hid W;clear M W)
 all_goals go_ret
 all_goals exact⟨iI,L,.same R.out (To.grown t.out),.inl ⟨K,iI⟩⟩):p:=h
def A5v{p:Prop}(h:p:=by
 rw[dJ (by simpa using ltOf G),bS,aL iI,G]
 rfl):p:=h
def Mdq{p:Prop}(h:p:=by
 go_wp2_with (go_at_call 85;refine r.out.mono ?_;rintro S H⟨rfl,rfl⟩);go_ret;exact⟨iI,iI⟩):p:=h
def Bd8{p:Prop}(k:q)(h:Hd q->p:=by
 intro kz;have A:Hid (∀W c n,Ph c->0<n->n<=9223372036854775807->Calls Tryz.prog 11 #[.int .i64 c,.int .i64 n] W λe B=>e=.returned (.int .i64 (M5 c n))/\B=W):=λW c n C J T=>Uw W c n C J T;revert A;exact kz.1):p:=h ⟨k⟩
def Q0a{p:Prop}(h:p:=by
 rcases b.out.1.2 with⟨m,F⟩|⟨g,I,o,m,_⟩
 ·exact⟨none,0,by rw[m,F]⟩
 ·exact⟨_,_,m⟩):p:=h
def Tpn{p:Prop}(h:p:=by
 exact⟨⟨L,i,⟨by have:=A.out.2.1;omega,O.out,p.out⟩,q.out,M.out,C.out⟩,by rw[A.out.2.2];exact A.out.1⟩):p:=h
def Wi3{p:Prop}(h:p:=by
 rcases b.out.1.2 with⟨m,F⟩|⟨g,I,o,m,j,S,_⟩
 ·rw[m]at d;simp[Value.ownBlock]at d
 ·rw[m]at d;simp[Value.ownBlock]at d;subst d;refine⟨λk=>?_,j⟩;obtain⟨es,ay,az,b5,c0,_,_,_,a1,_⟩:=b.out.2.1.ex;rw[k,a1]at S;cases S):p:=h
namespace Go.Proofs.YtcbilgmfdgpomaaGreatDoor
variable {P:Program}{r:List (gU×Nd)}{x:Nd}
open Go Go.RowKit
def Tz{w base t}{b:gT}(h:w.ownsRow base 5 1 t (iK b) (A4 b)):(convert 37 9 t).run prog w=.ok (pc ⟨b.toArray⟩) w:=by
 rcases h.2 with⟨rfl,F⟩|⟨g,I,H,rfl,D,G,z,_,s,R⟩
 ·have:b = []:=bN.1 F;subst this;exact run_convert_bytes_nil (P:=prog) w 37 5 underlying37 underlying5 0 0 9 underlying9
 ·have a:strOfNums (b.map λc=>(c.toNat:Int))=(⟨b.toArray⟩:gU):=by
   unfold strOfNums
   congr 2
   rw[cW]
   conv=>rhs;rw[←fG b]
   apply dF;intro c _;simp
  have:=run_convert_bytes_arg (P:=prog) w 37 5 underlying37 underlying5 g 0 (iK b) I (b.map λc=>(c.toNat:Int)) Ad (λi V=>by
   have C:=h.cells (g:=g) iI i (uu qg b[i].toNat) (by simp[A4,V]);rw[wh,aX]at C;rw[aX,C,cO,aS,aH V]
   rfl) 9 underlying9
  rwa[a]at this
open Go.Maps
open Go.ChangeMaps (setBlock)
def Ub{a:Type}(p:a->Bool):∀(l:List a)j(x:a),l[j]?=lj x->p x=sd->(l.eraseIdx j).filter p=l.filter p
 |[],j,x,h,_=>by cases h
 |y::l,0,x,h,hp=>by
  grind
 |y::l,j+1,x,h,hp=>by
  simp only[List.eraseIdx_cons_succ,List.filter_cons];rw[Ub p l j x h hp]
def N7{a b:Type}(f:a->b):∀(l:List a)j,(l.eraseIdx j).map f=(l.map f).eraseIdx j
 |[],j=>Ad
 |y::l,0=>Ad
 |y::l,j+1=>by simp[N7 f l j]
section
variable {k a:q9} {w:Z} {b r:Nat} {m:List (O×O)}
def Ic.drop{ty}(Y:Ic w b r m R)(h:Bi P k w b m)(K:Keyed P k)(g:P.underlying t=lj (.map k a)){n v d}(W:keyOf P k n=lj d){A C}(L:m=A++(n,v)::C)(p:∀x∈R,x.1≠n):∃B,(hh #[t,k] ty #[.map (lj b),n]).run P w=.ok (js #[]) B/\Bi P k B b (A++C)/\Ic B b r (A++C) R/\w.grownBy B (lj b):=by
 have q:=Y.ne;obtain⟨X,i,u,f,c0,D,y,N,V,E,l,H,I⟩:=Y.ex;subst L;have M:(n,v)∈X.toList.map kv:=by rw[N];simp
 obtain⟨j,F,U,J,T⟩:=Q3 (w:=w) K W (by rw[N];exact h.keys) M;have aa:j<X.size:=Aj;have O:(X.eraseIdxIfInBounds j).toList=X.toList.eraseIdx j:=by
  simp
 have S:j=iK A:=by
  exact I3u
 have a1:(X.eraseIdxIfInBounds j).toList.map kv=A++C:=by
  rw[O,N7,N,S,List.eraseIdx_append_of_length_le (aC _)];simp
 have s:(hh #[t,k] ty #[.map (lj b),n]).run P w=.ok (js #[]) (setBlock w b (.map (X.eraseIdxIfInBounds j) i)):=by
  simp[hh,run_underlying g,MapKept.run_getObj_map D,K.check w _ W,U,MapKept.run_setObj_map _ D,Result.andThen,setBlock]
 obtain⟨w2,o,a6,Q⟩:=Bi.drop_some (ty:=ty) h K g W iI;rw[s]at o;injection o with _ hw2;subst hw2;have a7:f.contains F.born=km:=by
  refine cH λc=>?_;have a8:F∈(leftOf X f).toList:=by
   simp only[leftOf,dX,List.mem_filter];exact⟨bA J,by simpa using c⟩
  have:kv F∈R:=by rw[←l];exact aZ.2 ⟨_,a8,iI⟩
  exact p _ this T
 refine⟨_,s,a6,⟨_,i,u,f,c0,aQ h.lt,MapKept.stamped_erase y j,a1,((Q.block r (aG.1 V).1 (λa=>q (by injection a))).trans V),λx Z=>E x ?_,?_,H,I⟩,Q⟩
 ·rw[O]at Z;exact List.mem_of_mem_eraseIdx Z
 ·rw[←l]
  congr 1
  simp only[leftOf,dX,O];exact Ub _ _ j F J (by rw[a7];rfl)
end
def Hx(s:gU):gU:=s.extract ((Ey s.data.toList s.size).toNat+1) s.size
def LU(w s)(a:s.size<=1000)(O:Eb s=km):xq prog 194 #[pc s] w λe B=>e=k8 (pc (Hx s))/\B=w:=by
 obtain⟨F,C⟩:=FI O;have Q:=Sy _ F s.size C;have o:=(V0 s.data.toList s.size).2;have L:=u (Uj w s Aa);have W:Hx s=s.extract ((Ey s.data.toList s.size).toNat+1) s.size:=iI;obtain⟨i,V⟩:∃i:Nat,Ey s.data.toList s.size=(i:Int):=⟨(Ey s.data.toList s.size).toNat,Aa⟩;rw[V]at L o W;have m:(i:Int)+1<=(s.size:Int):=Aa;rw[show((i:Int).toNat)=i by omega]at W;rw[W];clear Q F C V W;go_enter func194,ntmps194;go_wp2_with (go_at_call 202;apply L.out.mono;rintro e H⟨rfl,rfl⟩);go_ret;exact⟨Ad,iI⟩
end Go.Proofs.YtcbilgmfdgpomaaGreatDoor
namespace Orch
variable (f:gS)
abbrev lv:Lt:=⟨91,2,0,0,0,sd,93⟩
def parse_get:parse [40,52,56,52,98,40,56,56,52,52,41,41]=lj (.mk lr [t4,t8,t4,tb,.mk lr [t8,t8,t4,t4]]):=Ac
def parse_list:parse [40,52,56,52,91,116,93,41]=lj (.mk lr [t4,t8,t4,.mk lv [tt]]):=Ac
def txB(L:gQ):gT:=L.flatMap λs=>be s.size 4++s.data.toList
def txB_cons(s:gU)(L:gQ):txB (s::L)=be s.size 4++s.data.toList++txB L:=by simp[txB]
def ER{k}:∀L(i:Nat)(a:gT),(∀s∈L,s.size<=200/\f s=km)->iK a+(txB L).length<=1000->putE (put f (k+1)) (.mk lv [tt]) (L.map txt) i a=lj (a++txB L)
 |[],i,a,h,K=>by simp[putE,txB]
 |s::L,i,a,h,K=>by
  rw[txB_cons,aK]at K;have E:part (.mk lv [tt]) i=tt:=by simp[part,Ty.l,Ty.ps]
  rw[bC,putE,E,(puts_t f (k:=k) (h s cJ).1 (h s cJ).2 a Aa)];simp only;rw[ER L _ _ (λx Z=>h x (cI _ Z)) HQ,txB_cons];simp
def Ael{k}{L:gQ}(U:iK L<=32)(h:∀s∈L,s.size<=200/\f s=km):GB f (k+2) (.mk lv [tt]) (.mk 0 iG (L.map txt)) (be (iK L) 4++txB L):=λa O=>by
 have I:M f (.mk lv [tt]) (.mk 0 iG (L.map txt))=km:=by
  have C:(ByteArray.mk #[]).size=0:=iI;simp[M,Ty.l,V.n,V.s,V.l,C,U]
 have g:head (.mk lv [tt]) (.mk 0 iG (L.map txt))=be (iK L) 4:=by simp[head,Ty.l,V.l]
 rw[put,aL I,g];rw[aK]at O;have:=ER f (k:=k) L 0 (a++be (iK L) 4) h HQ
 show(match putE _ _ (L.map txt) 0 _ with|none=>jh|some o=>if iK o<=1000 then lj o else jh)=_
 grind
def puts_get{m z e a b c d s}(o:-2147483648<=m)(i:m<=2147483647)(W:-9223372036854775808<=z)(T:z<=9223372036854775807)(g:-2147483648<=e)(A:e<=2147483647)(l:s.size<=200)(h:-9223372036854775808<=a)(j:a<=9223372036854775807)(M:-9223372036854775808<=b)(D:b<=9223372036854775807)(n:-2147483648<=c)(x:c<=2147483647)(k:-2147483648<=d)(E:d<=2147483647):put f 9 [] (.mk lr [t4,t8,t4,tb,.mk lr [t8,t8,t4,t4]]) (.mk 0 iG [num m,num z,num e,txt s,.mk 0 iG [num a,num b,num c,num d]])=lj (be m 4++be z 8++be e 4++be s.size 4++s.data.toList++be a 8++be b 8++be c 4++be d 4):=by
 have y:iK s.data.toList=s.size:=iI;have:=puts_rec f (l:=lr) iI (.cons (S f o i) (.cons (puts_8 f W T) (.cons (S f g A) (.cons (puts_b f l) (.cons (puts_rec f (k:=7) (l:=lr) iI (.cons (puts_8 f h j) (.cons (puts_8 f M D) (.cons (S f n x) (.cons (S f k E) .nil))))) .nil))))) [] I7;simpa using this
def puts_list{m z e}{L:gQ}(o:-2147483648<=m)(i:m<=2147483647)(W:-9223372036854775808<=z)(T:z<=9223372036854775807)(g:-2147483648<=e)(A:e<=2147483647)(U:iK L<=32)(h:∀s∈L,s.size<=200/\f s=km)(K:(txB L).length<=980):put f 9 [] (.mk lr [t4,t8,t4,.mk lv [tt]]) (.mk 0 iG [num m,num z,num e,.mk 0 iG (L.map txt)])=lj (be m 4++be z 8++be e 4++be (iK L) 4++txB L):=by
 have:=puts_rec f (l:=lr) iI (.cons (S f o i) (.cons (puts_8 f W T) (.cons (S f g A) (.cons (Ael f (k:=6) U h) .nil)))) [] (by simp only[aK,be_length,aW];omega);simpa using this
end Orch
namespace Go.Proofs.YtcbilgmfdgpomaaGreatDoor
variable {P:Program}{r:List (gU×Nd)}{x:Nd}
open Go Go.RowKit
def Orch.parse_record:Orch.parse [40,52,56,116,98,116,41]=lj (.mk Orch.lr [Orch.t4,Orch.t8,Orch.tt,Orch.tb,Orch.tt]):=Ac
def Oa(kind last:Int)(p d n:gU):gT:=Orch.be kind 4++Orch.be last 8++Orch.be p.size 4++p.data.toList++Orch.be d.size 4++d.data.toList++Orch.be n.size 4++n.data.toList
abbrev Ajd(kind last:Int)(p d n:gU):Array O:=#[iE kind,pc ⟨#[]⟩,qh jh 0 0,iE last,pc ⟨#[]⟩,qh jh 0 0,iE 0,pc p,qh jh 0 0,iE 0,pc d,qh jh 0 0,iE 0,pc n,qh jh 0 0]
def AJ(kind a p d n):(Oa kind a p d n).length=24+p.size+d.size+n.size:=by
 simp[Oa,Orch.be_length];omega
def NF(a){kind b p d n}(X:-2147483648<=kind)(c:kind<=2147483647)(r:-9223372036854775808<=b)(j:b<=9223372036854775807)(Q:p.size<=200)(q:a p=km)(y:d.size<=200)(z:n.size<=200)(e:a n=km):Orch.put a 9 [] (.mk Orch.lr [Orch.t4,Orch.t8,Orch.tt,Orch.tb,Orch.tt]) (.mk 0 iG [Orch.num kind,Orch.num b,Orch.txt p,Orch.txt d,Orch.txt n])=lj (Oa kind b p d n):=by
 have C:iK p.data.toList=p.size:=iI;have J:iK d.data.toList=d.size:=iI;have T:iK n.data.toList=n.size:=iI;have:=Orch.puts_rec a (k:=8) (l:=Orch.lr) iI (.cons (Orch.puts_4 a X c) (.cons (Orch.puts_8 a r j) (.cons (Orch.puts_t a Q q) (.cons (Orch.puts_b a y) (.cons (Orch.puts_t a z e) .nil))))) [] (by simp only[aK,Orch.be_length,C,J,T,aW];omega);simpa[Oa] using this
def Rm(w o I):iF w ((w.alloc o).alloc I):=(Bf w o).trans ((Bf _ I).mono Ad)
def Aoi(w g kind p d n v)(h B P:Nat)(s V E)(u:Nat)(q:Option lg->Nat->Nat->gk->Prop)(r:gk->Option lg->Nat->Nat->gk->Prop)(z:gk->uo->gk->Prop)(HC:Hid (∀W,iF w W->xq prog 141 #[pc ⟨#[40,52,56,116,98,116,41]⟩] W λe a=>(∃p m n,e=k8 (js #[Ia h B P s V E u (qh p m n),gd km])/\q p m n a)/\iF W a))(HE:Hid (∀G W T m Z a1,q T m Z G->iF G W->iF w W->W.1[a1]?=lj (oh (Ajd kind g p d n) 183)->xq prog 142 #[Ia h B P s V E u (qh T m Z),vv 0 iG (qh (lj (iC a1)) 5 5)] W λe a=>(∃b c f,e=k8 (js #[qh b c f,gd km])/\r W b c f a)/\iF W a))(X:Hid (∀W b c f J,r W b c f J->iF w J->xq prog 172 #[qh b c f] J λe a=>(∃t,e=k8 (js #[t,gd km])/\z J t a)/\iF J a)):xq prog 188 #[iE g,M3 kind p d n v] w λe a=>(∃t W,e=k8 (js #[t,gd km])/\z W t a/\iL w.1<=iL W.1)/\iF w a:=by
 have I:=hid (Bf w (oh (Du kind p d n v) 152));obtain⟨o,ae⟩:∃o,w.alloc (oh (Du kind p d n v) 152)=o:=⟨_,iI⟩;have S:=iw w (oh (Du kind p d n v) 152);rw[ae]at I S;have ⟨c0,Q,R,U⟩:=Aj8 S iI;have K:iL w.1<iL o.1:=ltOf S;clear S;go_enter func188,ntmps188;go_wp2_with (first
  |(go_at_call 141;apply(HC.out _ I.out).mono;rintro e H⟨⟨l,pm,pn,rfl,a6⟩,M⟩;have af:=hide a6;have O:=hide (I.out.trans (M.mono I.out.size));have a7:=(M.cell (p:=(iC w.1.size)) K).trans c0;have a8:=(M.cell (p:=(iD w.1.size 1)) K).trans Q;have aa:=(M.cell (p:=(iD w.1.size 2)) K).trans R;have d3:=(M.cell (p:=(iD w.1.size 3)) K).trans U;have ab:iL w.1<iL H.1:=aA K M.size;clear M a6)
  |(go_at_call 142;apply(HE.out H _ l pm pn (iL H.1+1) af.out (Rm H _ _) (O.out.trans ((Rm H _ _).mono O.out.size)) (by have:=iw (H.alloc (oh #[uu qg h,iE B,iE P,iE s,iE V,gd E,uu qg u,qh l pm pn] 208)) (oh (Ajd kind g p d n) 183);simpa using this)).mono;rintro e w2⟨⟨L,i,j,rfl,Y⟩,D⟩;have x:=hide Y;have C:=hide ((O.out.trans ((Rm H _ _).mono O.out.size)).trans (D.mono HH));clear D Y)
  |(go_at_call 172;apply(X.out _ L i j _ x.out C.out).mono;rintro e ad⟨⟨t,rfl,N⟩,F⟩;have y:=hide N;have k:=hide (C.out.trans (F.mono C.out.size));have A:=C.out.size;clear F N))
 go_ret2;exact⟨⟨_,_,iI,y.out,A⟩,k.out⟩
section
variable {h:gS} {z:gX}
def CK(U:It h z)(w)(V:z w)(x:∀W,iF w W->Table W)(A kind)(p d n:gU)(v)(X:-2147483648<=kind)(y:kind<=2147483647)(B:-9223372036854775808<=A)(K:A<=9223372036854775807)(Q:p.size<=200)(L:h p=km)(P:d.size<=200)(R:n.size<=200)(S:h n=km):xq prog 188 #[iE A,M3 kind p d n v] w λe a=>(∃E,e=k8 (js #[E,gd km])/\a.ownsRow w.1.size 5 1 E (Orch.be (Oa kind A p d n).length 4++Oa kind A p d n).length (A4 (Orch.be (Oa kind A p d n).length 4++Oa kind A p d n)))/\iF w a:=by
 have u:=NF h X y B K Q L P R S;have aa:=AJ kind A p d n;have l:=Uv (s:=[40,52,56,116,98,116,41]) Orch.parse_record;generalize T:(Orch.Ty.mk Orch.lr [Orch.t4,Orch.t8,Orch.tt,Orch.tb,Orch.tt])=t at u l;refine(Aoi w A kind p d n v t.l.sign.toNat t.l.shape t.l.size t.l.least t.l.5 t.l.text t.l.fin.toNat (λp m n a=>E7 a (λb=>b<iL a.1) t.ps (qh p m n)) (λW f i j a=>∃g,f=lj (iC g)/\i=(Oa kind A p d n).length/\g<iL a.1/\Bytes a g 0 (Oa kind A p d n))
  (λW E a=>a.ownsRow W.1.size 5 1 E (Orch.be (Oa kind A p d n).length 4++Oa kind A p d n).length (A4 (Orch.be (Oa kind A p d n).length 4++Oa kind A p d n))) (λW Y=>?_) (λab W p' m n' g Z N a1 G=>?_) (λW f i j J a6 N=>?_)).mono ?_
 ·have M:=Re W ⟨#[40,52,56,116,98,116,41]⟩ (x W Y);rw[show Orch.parse (⟨#[40,52,56,116,98,116,41]⟩:gU).data.toList=lj t from by rw[←T];exact Orch.parse_record]at M;apply M.mono;rintro e a⟨⟨af,rfl,Z⟩,o⟩;obtain⟨F,k,rfl⟩:=Z.shape;exact⟨⟨F,_,k,iI,Z.congr (λb D=>D.2) (λ_ _=>rfl)⟩,o⟩
 ·have a7:D8 W (λb=>b<iL W.1) [Orch.num kind,Orch.num A,Orch.txt p,Orch.txt d,Orch.txt n] (qh (lj (iC g)) 5 5):=by
   refine .row [(Orch.num kind,qh jh 0 0),(Orch.num A,qh jh 0 0),(Orch.txt p,qh jh 0 0),(Orch.txt d,qh jh 0 0),(Orch.txt n,qh jh 0 0)] _ _ Ad (aC _) (ltOf G) (λj ad hj=>?_) (λae r=>?_)
   ·apply cellOf G;simpa[Eo,Orch.V.n,Orch.V.s,Orch.num,Orch.txt] using hj
   ·simp only[bH,dL,or_false]at r;rcases r with rfl|rfl|rfl|rfl|rfl<;>exact .nil _ _
  have:=Af1 U W (U.kept (U.size V) a1 V) t l (λb=>b<iL W.1) _ (Z.congr (λb c=>aA c N.size) (λb D=>N.block b D)) ⟨0,iG,[Orch.num kind,Orch.num A,Orch.txt p,Orch.txt d,Orch.txt n]⟩ _ a7 (λ_ c=>c);rw[u]at this;apply this.mono;rintro e a⟨⟨E,rfl,O⟩,D⟩;obtain⟨g,I,rfl,_,G,q⟩:=Tu O Aa;exact⟨⟨_,_,_,iI,g,iI,iI,G,q⟩,D⟩
 ·obtain⟨g,rfl,rfl,G,q⟩:=a6;apply(MC J g j (Oa kind A p d n) q G Aa).mono;rintro e a⟨v',rfl,O,D⟩;exact⟨⟨v',iI,O⟩,D⟩
 ·rintro e a⟨⟨E,W,rfl,O,s⟩,D⟩;refine⟨⟨E,iI,O.1,?_⟩,D⟩;rcases O.2 with c|⟨g,I,H,C,h2,a8⟩
  ·exact Or.inl c
  ·exact Or.inr ⟨g,I,H,C,aE s h2,a8⟩
end
def AI(w)(a:hU)(n c)(h:n<4):F prog 117 #[qh a n c] w λe B=>e=k8 (js #[iE 0,gd sd])/\B=w:=by
 go_enter func117,ntmps117;go_wp2;go_ret2;exact⟨iI,iI⟩
def IP(w T)(l:gT)(q:4<=iK l)(K:iK l<=1000)(u:J5 w T l)(k)(E:Orch.sgn (l.take 4)=k)(a:¬(1<=k/\k<=7)):F prog 117 #[T] w λe B=>e=k8 (js #[iE k,gd sd])/\B=w:=by
 obtain⟨b,off,I,rfl,C,Y,D⟩:=u;have V:Hid (F prog 158 #[qh (lj (iD b off)) 4 I] w λe B=>e=k8 (iE k)/\B=w):=by
  have:=BA w b off I (l.take 4) Ai (D.take (n:=4))
  rwa[E]at this
 have z:¬((iK l:Int)<4):=Aa;have c:(4:Int)<=(I:Int):=Aa;clear D E;by_cases J:1<=k
 ·have M:¬k<=7:=λh=>a ⟨J,h⟩;go_enter func117,ntmps117;go_wp2_with (go_at_call 158;apply V.out.mono;rintro e H⟨rfl,rfl⟩);go_ret2;exact⟨by simp[M],iI⟩
 ·exact T4d
def Anz(w)(R:gU)(L:hU)(T k)(h b P:Nat)(s V K)(u:Nat)(q:Option lg->Nat->Nat->Z->Prop)(g:Hid (F prog 141 #[pc R] w λe B=>(∃p m n,e=k8 (js #[Ia h b P s V K u (qh p m n),gd km])/\q p m n B)/\iF w B))(d:Hid (∀S W p m n,q p m n S->iF S W->iF w W->F prog 147 #[Ia h b P s V K u (qh p m n),qh L T k] W λe B=>e=k8 (js #[vv 0 iG (qh jh 0 0),gd sd])/\iF W B)):F prog 118 #[pc R,qh L T k] w λe B=>e=k8 (js #[qh jh 0 0,gd sd])/\iF w B:=by
 go_enter func118,ntmps118;go_wp2_with (first
  |(go_at_call 141;apply g.out.mono;rintro e H⟨⟨p,m,n,rfl,f⟩,M⟩;have o:=hide f;have O:=hide M;clear M f)
  |(go_at_call 147;apply(d.out H _ p m n o.out (Bf _ _) (O.out.alloc O.out.size _)).mono;rintro e E⟨rfl,D⟩;have C:=hide ((O.out.alloc O.out.size _).trans (D.mono HH));clear D))
 go_ret2;exact⟨iI,C.out.alloc C.out.size _⟩
section
variable {h:gS} {z:gX}
def XL(U:It h z)(w)(V:z w)(d:Table w)(R:gU)(t)(Q:Orch.parse R.data.toList=lj t)(T)(l:gT)(K:iK l<=1000)(u:J5 w T l)(y:Vf h t l=jh):F prog 118 #[pc R,T] w λe a=>e=k8 (js #[qh jh 0 0,gd sd])/\iF w a:=by
 have g:=u;obtain⟨b,off,I,rfl,C,Y,D⟩:=u;have M:=Re w R d;rw[Q]at M;refine Anz w R _ _ _ t.l.sign.toNat t.l.shape t.l.size t.l.least t.l.5 t.l.text t.l.fin.toNat (λp m n a=>E7 a (λb=>b<iL a.1) t.ps (qh p m n)) (M.mono ?_) (λS W p m n Z N x=>?_)
 ·exact M7k
 ·have:=Af0 U W (U.kept (U.size V) x V) t (Uv Q) _ _ (Z.congr (λb c=>aA c N.size) (λb D=>N.block b D)) (λ_ c=>c) _ l Aa (g.below x (aC _))
  rwa[y]at this
end
def Wx{w:Z}(h:H.1[Y w.1]?=lj (oh (A5 0 0 iG iG iG 0 sd) 131)):Br H (((((((H.setCell (iC w.1.size) (iE 0)).setCell (iD w.1.size 1) (iE 0)).setCell (iD w.1.size 2) (pc iG)).setCell (iD w.1.size 3) (pc iG)).setCell (iD w.1.size 4) (pc iG)).setCell (iD w.1.size 5) (iE 0)).setCell (iD w.1.size 6) (gd sd)) w.1.size (A5 0 0 iG iG iG 0 sd) 131:=
 (((((((Br.refl h).set 0 (iE 0)).set 1 (iE 0)).set 2 (pc iG)).set 3 (pc iG)).set 4 (pc iG)).set 5 (iE 0)).set 6 _
def Ae7(w)(L:hU)(T k a)(N:Hid (∀W,iF w W->F prog 117 #[qh L T k] W λe B=>e=k8 (js #[iE a,gd sd])/\B=W)):F prog 67 #[iE 1,qh L T k] w λe B=>e=k8 (js #[J4 0 0 iG iG iG 0 sd,gd sd])/\iF w B:=by
 refine Vyx λX=>?_;have C:=hide (Bf w (oh (A5 0 0 iG iG iG 0 sd) 131));obtain⟨P,Z⟩:∃P,w.alloc (oh (A5 0 0 iG iG iG 0 sd) 131)=P:=⟨_,iI⟩;rw[Z]at X C;have ⟨y,m,c,S,n,Y,d⟩:=M4 X.out iI;have ⟨Q,D,K,r,J,f,t,_⟩:=Gu X.out;have o:=hide (Wx X.out);obtain⟨i,p⟩:∃i,(((((((P.setCell (iC w.1.size) (iE 0)).setCell (iD w.1.size 1) (iE 0)).setCell (iD w.1.size 2) (pc iG)).setCell (iD w.1.size 3) (pc iG)).setCell (iD w.1.size 4) (pc iG)).setCell (iD w.1.size 5) (iE 0)).setCell (iD w.1.size 6) (gd sd))=i:=⟨_,iI⟩;rw[p]at o;go_enter func67,ntmps67;go_wp2_with (go_at_call 117;apply(N.out _ C.out).mono;rintro e H⟨rfl,rfl⟩);have ⟨M,b,g,z,x,E,u⟩:=M4 o.out.blk iI;exact⟨iI,js #[J4 0 0 iG iG iG 0 sd,gd sd],by simp[rz,results67,go_sem,M,b,g,z,x,E,u],iI,C.out.grown o.out.grown C.out.size Amr⟩
def NX{P:Z}{b}(h:P.1[b]?=lj (oh (A5 0 0 iG iG iG 0 sd) 131)):P.cell? (iC b)=lj (iE 0)/\P.cell? (iD b 1)=lj (iE 0)/\P.cell? (iD b 2)=lj (pc iG)/\P.cell? (iD b 3)=lj (pc iG)/\P.cell? (iD b 4)=lj (pc iG)/\P.cell? (iD b 5)=lj (iE 0)/\P.cell? (iD b 6)=lj (gd sd)/\P.frozen? (iC b)=sd/\P.frozen? (iD b 1)=sd/\P.frozen? (iD b 2)=sd/\P.frozen? (iD b 3)=sd/\P.frozen? (iD b 4)=sd/\P.frozen? (iD b 5)=sd/\P.frozen? (iD b 6)=sd:=
 ⟨T h iI,T h iI,T h iI,T h iI,T h iI,T h iI,T h iI,Dm h,Dm h,Dm h,Dm h,Dm h,Dm h,Dm h⟩
def Als(w)(kind:Nat)(c:kind<8)(L:hU)(T k)(O:gU)(s:w.cell? ⟨0,kind * 3+1,jh⟩=lj (pc O))(F:0<iL w.1)(N:Hid (∀W,iF w W->xq prog 117 #[qh L T k] W λe B=>e=k8 (js #[iE kind,gd km])/\B=W))(r:Hid (∀W,iF w W->xq prog 118 #[pc O,qh L T k] W λe B=>e=k8 (js #[qh jh 0 0,gd sd])/\iF W B)):xq prog 67 #[iE 1,qh L T k] w λe B=>e=k8 (js #[J4 0 0 iG iG iG 0 sd,gd sd])/\iF w B:=by
 refine Vyx λX=>?_;have I:=u (Bf w (oh (A5 0 0 iG iG iG 0 sd) 131));refine Qvk λV d=>?_;clear s;go_enter func67,ntmps67;go_wp2_with (first
  |(go_at_call 117;apply(N.out _ I.out).mono;rintro e H⟨rfl,rfl⟩)
  |(go_at_call 118;apply(r.out _ I.out).mono;rintro e P⟨rfl,D⟩;have C:=u (I.out.trans (D.mono I.out.size));have a:=u ((D.block _ (ltOf X.out)).trans X.out);clear D;obtain⟨y,m,n,S,p,Y,q,Q,t,K,f3,J,v,A⟩:=(NX a.out)))
 exact Lvc
def Alu(w)(kind:Nat)(U:kind<8)(L:hU)(T k)(O:gU)(c)(Z:2<=c)(h)(a1:h<0)(s:w.cell? ⟨0,kind * 3+1,jh⟩=lj (pc O))(F:0<iL w.1)(N:Hid (∀W,iF w W->xq prog 117 #[qh L T k] W λe B=>e=k8 (js #[iE kind,gd km])/\B=W))(r:Hid (∀W,iF w W->xq prog 118 #[pc O,qh L T k] W λe B=>∃f i,e=k8 (js #[qh (lj (iC f)) c i,gd km])/\B.cell? (iD f 3)=lj (iE h)/\Hid (iF W B))):xq prog 67 #[iE 1,qh L T k] w λe B=>e=k8 (js #[J4 0 0 iG iG iG 0 sd,gd sd])/\iF w B:=by
 refine Vyx λX=>?_;have I:=u (Bf w (oh (A5 0 0 iG iG iG 0 sd) 131));refine Qvk λV d=>?_;have a6:(1:Int)<(c:Int):=Aa;clear s;go_enter func67,ntmps67;go_wp2_with (first
  |(go_at_call 117;apply(N.out _ I.out).mono;rintro e H⟨rfl,rfl⟩)
  |(go_at_call 118;apply(r.out _ I.out).mono;rintro e P⟨f,i,rfl,c3,R⟩;have D:=R.out;have C:=u (I.out.trans (D.mono I.out.size));have a:=u ((D.block _ (ltOf X.out)).trans X.out);clear D;obtain⟨y,m,n,S,p,Y,q,Q,t,K,f3,J,v,A⟩:=(NX a.out)))
 exact Lvc
def Ace(w)(P m g off I:Nat)(N)(p:gU)(k q i)(o:(k=4∨k=5∨k=6)/\(q=sd/\i=0∨q=km/\i=1))(Y:w.1[P]?=lj (oh (A5 k N iG iG iG 0 sd) 131))(C:w.cell? ⟨g,off+1,jh⟩=lj (pc p))(J:w.cell? ⟨g,off+3,jh⟩=lj (iE i))(f:g≠P):F prog 119 #[iB P,qh (lj (iD g off)) 2 I] w λe B=>e=k8 (js #[])/\Br w B P (A5 k N p iG iG 0 q) 131:=by
 have ⟨c0,_,R,_,_,_,r⟩:=M4 Y iI;have ⟨_,_,K,_,_,_,t,_⟩:=Gu Y;have z:=hide Y;clear Y;have Z:=hide (((Br.refl z.out).set 2 (.string p)).set 6 (.bool q));rcases o with⟨rfl|rfl|rfl,⟨rfl,rfl⟩|⟨rfl,rfl⟩⟩<;>(go_enter func119,ntmps119;go_wp2;go_region_law (fail))
 all_goals go_wp2
 all_goals exact⟨iI,js #[],by simp[rz,results119,go_sem],iI,by first|exact Z.out.drew|exact Z.out|exact Z.out.drew.drew⟩
def XM(w P b N)(Y:w.1[P]?=lj (oh (A5 7 N iG iG iG 0 sd) 131)):F prog 119 #[iB P,b] w λe B=>e=k8 (js #[])/\Br w B P (A5 7 N iG iG iG 0 sd) 131:=by
 have c0:=Vi 0 Y;go_enter func119,ntmps119;go_wp2
 all_goals exact⟨iI,js #[],by simp[rz,results119,go_sem],iI,by first|omega|exact Br.refl (u Y).out⟩
structure Fl where
 n:gU
 d:gU
 s:Nat
def Es(L:List Fl):List O:=L.flatMap λf=>[pc f.n,pc f.d,iE f.s]
def Ot{L f}(h:L[i]?=lj f):(Es L)[i * 3]?=lj (pc f.n)/\(Es L)[i * 3+1]?=lj (pc f.d)/\(Es L)[i * 3+2]?=lj (iE f.s):=by
 induction L generalizing i with
 |nil=>simp at h
 |cons x l O=>
  cases i with
  |zero=>simp at h;subst h;simp[Es]
  |succ i=>
   have:=O Aan;rw[show(i+1) * 3=i * 3+3 by omega];simpa[Es] using this
def QI(L f):Es (L++[f])=Es L++[pc f.n,pc f.d,iE f.s]:=by simp[Es]
def Zk{L f g}(h:L[i]?=lj f):Es (L.set i g)=(((Es L).set (i * 3) (pc g.n)).set (i * 3+1) (pc g.d)).set (i * 3+2) (iE g.s):=by
 induction L generalizing i with
 |nil=>simp at h
 |cons x l O=>
  cases i with
  |zero=>simp[Es]
  |succ i=>
   have:=O Aan;rw[show(i+1) * 3=i * 3+3 by omega];simp only[Es,List.set_cons_succ,List.flatMap_cons]at *;rw[this];simp
def dec(left:Int):Int:=if 0<left then left - 1 else left
def Tryz.info100:(prog.info? 100).map (λi=>(i.zero,i.size,i.bytes))=lj (lj (faj #[pc iG,pc iG,iE 0]),3,40):=Ab
def Al4{a b:gU}(h:¬a=b):(a.toList==b.toList)=sd:=by
 rw[beq_eq_false_iff_ne,joc,joc];intro e;apply h;cases a;simp_all
def Al3{a b:gU}(h:a=b):(a.toList==b.toList)=km:=by rw[h];simp
def LM{a b}{r:hY}(h:iF a b):a.grownBy b r:=⟨h.os,h.tape,h.output,h.size,λi V _=>h.block i V⟩
def Aks{w:Z}{B j}(u):w.grownBy (w.setCell (iD B j) u) (lj B):=
 ⟨iI,iI,iI,Ad,λi V z=>p7 _ _ _ _ (λe=>z (by rw[e]))⟩
def DN(w S y a)(D:w.1[S]?=lj (oh #[y,iE a] 58))(F:-1<=a)(C:a<=9223372036854775807):xq prog 83 #[iB S] w λe B=>e=k8 (gd (decide (a≠0)))/\B.1[S]?=lj (oh #[y,iE (dec a)] 58)/\w.grownBy B (lj S):=by
 have d:=Vi 1 D;have b:=frozen_of_row w S 1 _ 58 D;have c:=hid D;have V:=hid (heap_setCell_same w S 1 _ 58 (iE (a - 1)) D);clear D;by_cases K:a=0
 ·subst K;go_enter func83,ntmps83;go_wp2
  all_goals go_ret
  all_goals exact⟨iI,by simpa[dec] using c.out,LM (nu _ _)⟩
 ·by_cases Q:a > 0
  ·have W:IntKind.i64.wrap (a - 1)=a - 1:=by rw[IntKind.wrap_i64];omega
   go_enter func83,ntmps83;go_wp2
   all_goals go_ret
   all_goals exact⟨by simp[K],by have:=V.out;simpa[dec,show(0:Int)<a from Q] using this,(hid (Aks (w:=w) (B:=S) (j:=1) (iE (a - 1)))).out⟩
  ·go_enter func83,ntmps83;go_wp2
   all_goals go_ret
   all_goals exact⟨by first|(simp[K];done)|simp,by have:=c.out;simpa[dec,show ¬(0:Int)<a by omega] using this,LM (nu _ _)⟩
def LH(w S)(v:hU)(s a L)(n:gU)(D:w.1[S]?=lj (oh #[qh v (iK L) s,iE a] 58))(P:w.ownsRow 0 100 3 (qh v (iK L) s) (iK L) (Es L))(o:iK L<=100000000):F prog 85 #[iB S,pc n] w λe B=>B=w/\((e=k8 (iE (-1))/\∀f,f∈L->f.n≠n)∨∃(i:Nat)(f:Fl),e=k8 (iE i)/\L[i]?=lj f/\f.n=n):=by
 have c0:=Vi 0 D;have m:=hid P;clear D P;go_enter func85,ntmps85;go_wp2;go_loopw [11] (λk wr=>∃i:Nat,k=iE i/\i<=iK L/\wr=w/\Hid (∀j f,j<i->L[j]?=lj f->f.n≠n)) (λk _=>iK L - (intOf k).toNat)
 case atStart=>exact⟨0,iI,bF _,iI,λj f l=>Aa⟩
 case round=>
  obtain⟨i,rfl,V,K,x⟩:=hrel;subst K;by_cases Y:i<iK L
  ·have b:(i:Int)<(iK L:Int):=Aa;obtain⟨f,I⟩:∃f,L[i]?=lj f:=⟨_,aH Y⟩;obtain⟨g,d⟩:∃g,v=lj (iC g):=by
    rcases m.out.2 with⟨e,h⟩|⟨g,c,H,e,_⟩
    ·omega
    ·cases e;exact⟨g,iI⟩
   subst d;have p:iK L<=s:=by
    rcases m.out.2 with⟨e,h⟩|⟨g,c,H,e,_,_,M,_⟩
    ·omega
    ·cases e;exact M
   have Q:wr.cell? ⟨g,i * 3,jh⟩=lj (pc f.n):=by
    have:=m.out.cells (g:=g) iI (i * 3) _ (Ot I).1
    rwa[wh,aX]at this
   by_cases z:f.n=n
   ·have q:=Al3 z;go_wp2
    all_goals go_ret
    all_goals exact⟨iI,kr ⟨i,f,iI,I,z⟩⟩
   ·have q:=Al4 z;go_wp2
    all_goals go_roundw
    all_goals try(case rel=>exact⟨i+1,by go_num,Aa,by first|rfl|trivial,λj r l W=>by
     rcases Nat.lt_succ_iff_lt_or_eq.1 l with h|h
     ·exact x.out j r h W
     ·subst h;rw[I]at W;cases W;exact z⟩)
    all_goals try(case measure=>simp[intOf];omega)
  ·have b:¬(i:Int)<(iK L:Int):=Aa;go_wp2
   all_goals go_ret
   all_goals exact⟨iI,r7 ⟨iI,λf I=>by
    obtain⟨j,l,rfl⟩:=List.getElem_of_mem I;exact x.out j _ Aa (aH l)⟩⟩
end Go.Proofs.YtcbilgmfdgpomaaGreatDoor
namespace Orch
variable (f:gS)
def Aac{t}{b:gT}{v a}(D:iK b<=1000)(h:take f k t b=lj (v,a)):M f t v=km/\iK a<=iK b:=by
 have ⟨pre,e,Q⟩:=put_take f k t b v a h;have:=Q [] (by simpa using Aj);refine⟨?_,Aj⟩;cases k with
 |zero=>simp[put]at this
 |succ k=>
  unfold put at this
  grind
def BG{t}:∀m i(b:gT)X(r:gT),iK b<=1000->takeE (take f k) t m i b=lj (X,r)->∀j x,X[j]?=lj x->M f (part t (i+j)) x=km
 |0,i,b,X,r,D,h,j,x,Z=>by
  simp[takeE]at h
  grind
 |m+1,i,b,X,r,D,h,j,x,Z=>by
  unfold takeE at h;split at h
  ·cases h
  ·rename_i e a I;split at h
   ·cases h
   ·rename_i G c N;simp only[aT,cS]at h;obtain⟨rfl,rfl⟩:=h;have ⟨C,J⟩:=Aac f D I;cases j with
    |zero=>
     grind
    |succ j=>
     have:=BG m _ a G c Aa N j x Aao
     grind
def take_rec{a}{b:gT}{v r}(D:iK b<=1000)(h:take f (k+1) (.mk lr a) b=lj (v,r)):v.n=0/\v.s=iG/\iK v.l=iK a/\∀(j:Nat)t(x:V),a[j]?=lj t->v.l[j]?=lj x->M f t x=km:=by
 have C:(takeE _ _ (iK a) 0 b).map listV=lj (v,r):=h;cases c:takeE (take f k) (.mk lr a) (iK a) 0 b with
 |none=>grind
 |some q=>
  have ⟨X,d⟩:=q;rw[c]at C;obtain⟨rfl,rfl⟩:=C;refine⟨iI,iI,O9 _ _ _ _ _ _ _ c,λj t x R Z=>?_⟩;have:=BG f (iK a) 0 b X d D c j x Z;rw[aX]at this;have e:part (.mk lr a) j=t:=by simp[part,Ty.l,Ty.ps,R]
  rwa[e]at this
def fits_4{x}(h:M f t4 x=km):x=num x.n∧-2147483648<=x.n/\x.n<=2147483647:=by
 have ⟨n,s,l⟩:=x;simp only[M,Ty.l,V.n,V.s,V.l,aU]at h;have ⟨⟨⟨C,J⟩,T⟩,q⟩:=h;have z:=Ix (of_decide_eq_true T);have a:=bN.1 (of_decide_eq_true q);subst z a;exact⟨iI,(of_decide_eq_true C),(of_decide_eq_true J)⟩
def fits_q{x}(h:M f tq x=km):x=num x.n/\(x.n=0∨x.n=1):=by
 have ⟨n,s,l⟩:=x;simp only[M,Ty.l,V.n,V.s,V.l,aU]at h;have ⟨⟨⟨C,J⟩,T⟩,q⟩:=h;have X:=of_decide_eq_true C;have o:=of_decide_eq_true J;have z:=Ix (of_decide_eq_true T);have a:=bN.1 (of_decide_eq_true q);subst z a;exact⟨iI,by simp only[V.n];omega⟩
def fits_t{x}(h:M f tt x=km):x=txt x.s/\x.s.size<=200/\f x.s=km:=by
 have ⟨n,s,l⟩:=x;simp only[M,Ty.l,V.n,V.s,V.l,aU, Bool.not_true,Bool.false_or]at h;have ⟨⟨C,J,T⟩,q⟩:=h;have z:=of_decide_eq_true C;have a:=bN.1 (of_decide_eq_true q);subst z a;exact⟨iI,(of_decide_eq_true J),T⟩
def fits_b{x}(h:M f tb x=km):x=txt x.s/\x.s.size<=200:=by
 have ⟨n,s,l⟩:=x;simp only[M,Ty.l,V.n,V.s,V.l,aU, Bool.not_false,Bool.true_or,and_true]at h;have ⟨⟨C,J⟩,q⟩:=h;have z:=of_decide_eq_true C;have a:=bN.1 (of_decide_eq_true q);subst z a;exact⟨iI,(of_decide_eq_true J)⟩
def parse_ping:parse [40,52,52,41]=lj (.mk lr [t4,t4]):=Ac
end Orch
namespace Go.Proofs.YtcbilgmfdgpomaaGreatDoor
variable {P:Program}{r:List (gU×Nd)}{x:Nd}
open Go.RowKit
structure Rq where
 kind:Nat
 m:Int
 p:gU
 d:gU
 ver:Int
 wt:Bool
def Jy(k:Nat):List Orch.Ty:=
 if k=1 then [Orch.t4,Orch.t4,Orch.tt,Orch.tb] else if k=2 then [Orch.t4,Orch.t4,Orch.tt,Orch.t4] else if k=3 then [Orch.t4,Orch.t4,Orch.tt,Orch.tb,Orch.t4] else if k=7 then [Orch.t4,Orch.t4] else [Orch.t4,Orch.t4,Orch.tt,Orch.tq]
def Og(k:Nat)(l:List Orch.V):Rq:=
 match l with
 |_::b::r=>match k,r with
  |1,[p,d]=>⟨1,b.n,p.s,d.s,0,sd⟩
  |2,[p,v]=>⟨2,b.n,p.s,iG,v.n,sd⟩
  |3,[p,d,v]=>⟨3,b.n,p.s,d.s,v.n,sd⟩
  |k,[p,q]=>⟨k,b.n,p.s,iG,0,q.n==1⟩
  |k,_=>⟨k,b.n,iG,iG,0,sd⟩
 |_=>⟨k,0,iG,iG,0,sd⟩
def Il(valid:gS)(body:gT):Option Rq:=
 if iK body<4 then jh
 else if 1<=Orch.sgn (body.take 4)/\Orch.sgn (body.take 4)<=7 then
  match Vf valid (.mk Orch.lr (Jy (Orch.sgn (body.take 4)).toNat)) body with
  |none=>jh
  |some v=>if(v.l.getD 1 (Orch.num 0)).n<0 then jh else lj (Og (Orch.sgn (body.take 4)).toNat v.l)
 else jh
def Ae5:Option Rq->O
 |some r=>js #[J4 r.kind r.m r.p r.d iG r.ver r.6,gd km]
 |none=>js #[J4 0 0 iG iG iG 0 sd,gd sd]
section
variable {h:gS} {z:gX}
def Wo(U:It h z)(w)(V:z w)(n:Table w)(kind)(a1:1<=kind)(a6:kind<=7)(O:gU)(s:w.cell? ⟨0,kind * 3+1,jh⟩=lj (pc O))(F:0<iL w.1)(f)(Q:Orch.parse O.data.toList=lj f)(b:gT)(o:iK b<=1000)(r:4<=iK b)(y:Orch.sgn (b.take 4)=kind)(H A I t)(a7:0<=t.n)(a)(a8:2<=iK a)(L:Vf h f b=lj (.mk H A (I::t::a)))(T)(u:J5 w T b)(p i S K m)(M:∀g c P W,(∀j x,a[j]?=lj x->W.cell? ⟨g,6+j * 3,jh⟩=lj (iE x.n)/\W.cell? ⟨g,6+(j * 3+1),jh⟩=lj (pc x.s))->g≠P->W.1[P]?=lj (oh (A5 kind t.n iG iG iG 0 sd) 131) ->
   xq prog 119 #[iB P,qh (lj (iD g 6)) (iK a) c] W λe d=>e=k8 (js #[])/\Br W d P (A5 kind t.n p i S K m) 131):xq prog 67 #[iE 1,T] w λe d=>e=k8 (js #[J4 kind t.n p i S K m,gd km])/\iF w d:=by
 have q:=u;obtain⟨aa,off,ab,rfl,C,ad,D⟩:=u;refine Aje w kind Aa _ _ _ (iK a+2) Aa O t.n Aa p i S K m (λg c W=>∀j x,a[j]?=lj x->W.cell? ⟨g,6+j * 3,jh⟩=lj (iE x.n)/\W.cell? ⟨g,6+(j * 3+1),jh⟩=lj (pc x.s)) s F ?_ ?_ ?_
 ·intro W k;exact Uz W _ _ r o (q.below k (aC _)) kind y Aa Aa
 ·intro W k;apply(Sl U W (U.kept (U.size V) k V) (n.below k n.pos) O f Q _ _ o (q.below k (aC _)) _ L).mono;rintro e d⟨⟨ae,rfl,B⟩,R⟩;obtain⟨g,c,rfl,X,G,E⟩:=BN B;refine⟨g,c,iI,X,(E 1 _ iI).1,λj x Z=>?_,G.2,R⟩;have:=E (j+2) x Aao
  grind
 ·intro g c J sv v G e Y N l;rw[e Aa,Nat.add_sub_cancel];exact M g (c - 2) J.1.size Y (λj x Z=>⟨(N.cell (p:=(iD g _)) G).trans (v j x Z).1,(N.cell (p:=(iD g _)) G).trans (v j x Z).2⟩) Aa l
end
open Go
section
variable (w:Z)
end
def Wj{J:Z}{B a n v}{X:gZ}(h:W.ownsRow B e a v n X)(s:∀g cs,v.ownBlock=lj g->W.1[g]?=lj (oh cs e)->J.1[g]?=W.1[g]?):J.ownsRow B e a v n X:=by
 refine⟨h.1,?_⟩;rcases h.2 with F|⟨g,I,H,q,c,k,N⟩
 ·exact r7 F
 ·exact kr ⟨g,I,H,q,c,(s g H (by rw[q];rfl) k).trans k,N⟩
section
variable {e:Z} {b X:Nat} {l v:O} {a:q9}
def Hz{n}{X:gZ}(h:e.ownsRow b a c v n X)(G:v.ownBlock=lj g):∃cs,e.1[g]?=lj (oh cs a):=by
 rcases h.2 with⟨N,_⟩|⟨R,I,H,N,_,m,_⟩
 ·rw[N]at G;cases G
 ·rw[N]at G;cases G;exact⟨H,m⟩
def Ad6{n e a}{c:gZ}(h:W.ownsRow b e a l n c)(f:l.ownBlock≠lj X)(z):(W.setCell (iD X j) z).ownsRow b e a l n c:=
 h.kept ⟨iI,iI,iI,Ad,λi _ V=>p7 _ _ _ _ (λe=>V (by rw[e]))⟩ (kr f)
def AG{b n a v}{X:gZ}(h:e.ownsRow b a c v n X):∃d f,v=qh d n f:=by
 rcases h.2 with⟨a,F⟩|⟨g,I,H,a,_⟩
 ·grind
 ·exact⟨_,_,a⟩
end
def Vq{w:Z}{L f a n}(h:w.ownsRow a t 3 (qh (lj (iC g)) n c) n (Es L))(I:L[i]?=lj f):w.cell? ⟨g,i * 3,jh⟩=lj (pc f.n)/\w.cell? ⟨g,i * 3+1,jh⟩=lj (pc f.d)/\w.cell? ⟨g,i * 3+2,jh⟩=lj (iE f.s):=by
 have ⟨F,C,J⟩:=Ot I;have y:=h.cells iI _ _ F;have m:=h.cells iI _ _ C;have b:=h.cells iI _ _ J;rw[wh,aX]at y m b;exact⟨y,m,b⟩
def Ae2{w:Z}{a}{v:hU}{n}{X:gZ}(h:w.ownsRow a t 3 (qh v n s) n X)(z:0<n):∃g,v=lj (iC g)/\n<=s/\g<Y w.1/\a<=g:=by
 rcases h.2 with⟨e,F⟩|⟨g,I,H,e,D,G,M,_⟩
 ·omega
 grind
structure St(bt rt)(w:gk)(K:Nat)(left L)(fa:hU)(fc):Prop where
 blk:w.1[K]?=lj (oh #[qh fa (iK L) fc,iE left] bt)
 row:w.ownsRow 0 rt 3 (qh fa (iK L) fc) (iK L) (Es L)
structure To(w w' K)(o o':hY):Prop where
 k:Ax w w' (λi=>i=K∨o=lj i)
 own:∀g,o'=lj g->o=lj g∨iL w.1<=g
def To.size{w K}(h:To w B K o I):=h.k.size
def To.same{w K}(h:To w B K o I)(i)(C:i<Y w.1)(J:i≠K)(T:o≠lj i):=h.k.block i C λe=>e.elim J T
def To.trans{w t K A}(h:To w B K o I)(P:To B t K I A):To w t K o A:=
 ⟨⟨P.k.os.trans h.k.os,P.k.tape.trans h.k.tape,P.k.output.trans h.k.output,aE h.size P.size,λi V O=>(P.k.block i (aA V h.size) (λe=>by
  rcases e with e|e
  ·exact O (r7 e)
  ·rcases h.own i e with C|C
   ·exact O (kr C)
   ·omega)).trans (h.k.block i V O)⟩,λg G=>by
  rcases P.own g G with C|C
  ·exact h.own g C
  ·exact kr (aE h.size C)⟩
def To.grown{w K}(h:w.grownBy B (lj K)):To w B K o o:=⟨⟨h.os,h.tape,h.output,h.size,λi V E=>h.block i V (λe=>E (r7 Aiv))⟩,λ_ h=>r7 h⟩
def To.grownO{w K}(h:w.grownBy B o):To w B K o o:=⟨⟨h.os,h.tape,h.output,h.size,λi V E=>h.block i V (λe=>E (kr e.symm))⟩,λ_ h=>r7 h⟩
def To.below{w K}(h:iF w B):To w B K o o:=⟨⟨h.os,h.tape,h.output,h.size,λi V _=>h.block i V⟩,λ_ h=>r7 h⟩
variable {e d:Z} {K:Nat} {L:List Fl} {f:hU} {m:Nat}
def St.below(h:St bt rt e K l L f m)(D:iF e d):St bt rt d K l L f m:=⟨(D.block _ (N h.blk)).trans h.blk,Ew h.row D⟩
def St.lefts(h:St bt rt e K l L f m){V}(D:d.1[K]?=lj (oh #[qh f (iK L) m,iE V] bt))(G:e.grownBy d (lj K))(R:rt≠bt):St bt rt d K V L f m:=
 ⟨D,Wj h.row (λg cs b M=>G.block g (N M) (λa=>by cases a;rw[h.blk]at M;cases M;exact R iI))⟩
abbrev Fq(f:hU):Option Nat:=(qh f 0 0).ownBlock
def Xq(v:hU)(n c):(qh v n c).ownBlock=Fq v:=by cases v<;>rfl
structure Dgo(bt rt e d K left' f L'):Prop where
 st:∃fa' fc',St bt rt d K left' L' fa' fc'/\To e d K (Fq f) (Fq fa')
def Dgo.same{w K u L v}(h:St bt rt B K u L v s)(G:To w B K (Fq v) (Fq v)):Dgo bt rt w B K u v L:=⟨v,s,h,G⟩
end Go.Proofs.YtcbilgmfdgpomaaGreatDoor
namespace Go.Proofs.YtcbilgmfdgpomaaGreatDoor
variable {P:Program}{r:List (gU×Nd)}{x:Nd}
open Go Go.RowKit
def Ad4{w:Z}{a L f}(h:w.ownsRow a t 3 (qh (lj (iC g)) (iK L) c) (iK L) (Es L))(I:L[i]?=lj f)(d:gU):(w.setCell ⟨g,i * 3+1,jh⟩ (pc d)).ownsRow a t 3 (qh (lj (iC g)) (iK L) c) (iK L) (Es (L.set i { f with d:=d }))/\w.grownBy (w.setCell ⟨g,i * 3+1,jh⟩ (pc d)) (lj g):=by
 have:=h.stored (i * 3+1) (pc d);refine⟨?_,this.2⟩;have e:(Es L).set (i * 3+1) (pc d)=Es (L.set i { f with d:=d }):=by
  rw[Zk I];have ⟨F,C,J⟩:=Ot I;refine bL λj=>?_
  grind
 grind
def PK(L:List Fl)(n d:gU)(L':List Fl):Prop:=
 ((∀f,f∈L->f.n≠n)/\L'=L++[⟨n,(iG:gU)++d,0⟩])∨∃i f,L[i]?=lj f/\f.n=n/\L'=L.set i { f with d:=f.d++d }
def St.data{a w K L f}(h:St a rt w K l L (lj (iC g)) s)(R:rt≠a)(I:L[i]?=lj f)(d:gU):St a rt (w.setCell ⟨g,i * 3+1,jh⟩ (pc d)) K l (L.set i { f with d:=d }) (lj (iC g)) s/\w.grownBy (w.setCell ⟨g,i * 3+1,jh⟩ (pc d)) (lj g):=by
 have ⟨C,J⟩:=Ad4 h.row I d;have b:K≠g:=λe=>by
  have ⟨Q,P⟩:=Hz h.row iI;rw[←e,h.blk]at P;cases P;exact R iI
 refine⟨⟨?_,?_⟩,J⟩
 ·rw[wcl];exact(p7 _ _ _ _ b).trans h.blk
 grind
def WJ{E r k S x I L v}{n d:gU}(U:St 58 100 E S l L v s)(F:iF E r)(p:k.1[x]?=lj (oh #[iB S] 60))(q:k.1[S]?=lj (oh #[qh v (iK L) s,iE l] 58))(f:k.ownsRow 0 100 3 (qh (lj (iC g)) (iK L+1) I) (iK L+1) (Es L++[pc n,pc iG,iE 0]))(D:r.drew.grownBy k (qh v (iK L) s).ownBlock)(j:(qh v (iK L) s).ownBlock=lj g∨g=r.drew.1.size):∃N,k.setCell (iC S) (qh (lj (iC g)) (iK L+1) I)=N/\N.cell? (iC x)=lj (iB S)/\N.cell? (iC S)=lj (qh (lj (iC g)) (iK L+1) I)/\N.cell? ⟨g,iK L * 3+1,jh⟩=lj (pc iG)/\N.frozen? ⟨g,iK L * 3+1,jh⟩=sd/\iK L+1<=I /\
   Hid (Dgo 58 100 E (N.setCell ⟨g,iK L * 3+1,jh⟩ (pc (iG++d))) S l v (L++[⟨n,(iG:gU)++d,0⟩])):=by
 have K:(L++[(⟨n,iG,0⟩:Fl)]).length=iK L+1:=Ad;have y:g≠S:=λe=>by obtain⟨c,t⟩:=(Hz f iI);rw[e,q]at t;cases t
 have a:(k.setCell (iC S) (qh (lj (iC g)) (iK L+1) I)).ownsRow 0 100 3 (qh (lj (iC g)) (iK L+1) I) (iK L+1) (Es (L++[⟨n,iG,0⟩])):=by
  rw[QI];exact Ad6 f (by simp[yq,y]) _
 have B:=heap_setCell_same k S 0 _ 58 (qh (lj (iC g)) (iK L+1) I) q;have T:St 58 100 (k.setCell (iC S) (qh (lj (iC g)) (iK L+1) I)) S l (L++[⟨n,iG,0⟩]) (lj (iC g)) I:=⟨by rwa[K],by rwa[K]⟩;have b:(L++[(⟨n,iG,0⟩:Fl)])[iK L]?=lj ⟨n,iG,0⟩:=Ad;obtain⟨_,Q,_⟩:=Vq a b;obtain⟨J,P⟩:=T.data Ae b (iG++d);have u:(L++[(⟨n,iG,0⟩:Fl)]).set (iK L) ⟨n,(iG:gU)++d,0⟩=L++[⟨n,(iG:gU)++d,0⟩]:=Ad;rw[u]at J;refine⟨_,iI,cellOf ((p7 _ _ _ _ (λe=>by rw[e,q]at p;simp at p)).trans p) iI,cellOf B iI,Q,a.frozenAt (iK L * 3+1),?_,⟨lj (iC g),I,J,?_⟩⟩
 ·rcases f.2 with⟨e,_⟩|⟨R,o,H,e,_,_,M,_⟩
  ·cases e
  ·cases e;exact M
 ·have A:Y r.1<=Y k.1:=D.size;have C:=F.size;refine⟨⟨P.os.trans (D.os.trans F.os),P.tape.trans (D.tape.trans F.tape),P.output.trans (D.output.trans F.output),by have:=P.size;simp at this⊢;omega,λi V Z=>?_⟩,λR m=>?_⟩
  ·have O:Fq v≠lj i:=λe=>Z (kr e);have z:i≠g:=λe=>by
    subst e;rcases j with h|h
    ·exact O ((Xq v _ _).symm.trans h)
    ·have:i=Y r.1:=h;omega
   rw[P.block i Ah (λe=>z Aiv),p7 _ _ _ _ (λe=>Z (r7 e)),D.block i (by show i<Y r.1;omega) (λe=>O ((Xq v _ _).symm.trans e.symm))];exact F.block i V
  ·cases m;rcases j with h|h
   ·exact r7 ((Xq v _ _).symm.trans h)
   ·exact kr (by have:g=Y r.1:=h;show Y E.1<=g;omega)
def Dgo.pre{a w K v p}(G:To w H K (Fq v) (Fq v))(h:Dgo a rt H B K l v p):Dgo a rt w B K l v p:=by
 have ⟨C,g,c,b⟩:=h.st;exact⟨C,g,c,G.trans b⟩
def MV(w DB S j L v s)(n d:gU)(m:w.1[DB]?=lj (oh #[iB S] 60))(h:St 58 100 w S j L v s)(ab:-1<=j)(ad:j<=9223372036854775807)(hL:iK L<=10000000)(z:∀f,f∈L->f.d.size+d.size<=1099511627776)(av:d.size<=1099511627776):xq prog 55 #[iB DB,pc n,pc d] w λe w'=>e=k8 (gd (decide (j≠0)))/\∃p,Dgo 58 100 w w' S (dec j) v p/\((j=0/\p=L)∨(j≠0/\PK L n d p)):=by
 have G:DB≠S:=λe=>by have:=h.blk;rw[←e,m]at this;simp at this
 have J:=DN w S _ j h.blk ab ad;have c0:=Vi 0 m;have b:=hid h;have HD:=hid z;have A:=hid m;clear h z m;by_cases K:j=0
 ·have P:decide (j≠0)=sd:=by simp[K]
  rw[P]at J⊢;have V:=hid J;clear J;go_enter func55,ntmps55;exact Lay
 ·have P:decide (j≠0)=km:=by simp[K]
  rw[P]at J⊢;have V:=hid J;have c:=hid K;clear J K P;go_enter func55,ntmps55;go_wp2_with (go_at_call 83;apply V.out.mono;rintro e H⟨rfl,M,W⟩;have R:=hid (b.out.lefts M W Ae);have t:=hid W;have a:=hid ((W.block DB (ltOf A.out) (λe=>G Aiv)).trans A.out);have Q:=cellOf (j:=0) a.out iI;have y:=hid (LH H S v s (dec j) L n R.out.blk R.out.row Aa);clear M W);apply y.out.mono;rintro e E⟨Y,N⟩;subst Y;have s0:=Vi 0 R.out.blk;rcases N with⟨rfl,O⟩|⟨i,f,rfl,I,T⟩
  ·
   have o:=hid O;clear O;have B:=hid (iw E (oh #[pc n,pc iG,iE 0] 100));have k:=hid (Bf E (oh #[pc n,pc iG,iE 0] 100));have C:=hid (R.out.row.alloc (oh #[pc n,pc iG,iE 0] 100));have Z:=hid ((k.out.block S (ltOf R.out.blk)).trans R.out.blk);have ae:Hid ((qh v (iK L) s).ownBlock≠lj S):=λe=>by
    obtain⟨Q,g⟩:=Hz R.out.row e;rw[R.out.blk]at g;cases g
   have af:Hid ((qh v (iK L) s).ownBlock≠lj DB):=λe=>by
    obtain⟨Q,g⟩:=Hz R.out.row e;rw[a.out]at g;cases g
   have F:=hid ((k.out.block DB (ltOf a.out)).trans a.out);obtain⟨j0,ah,ai,aj,ak⟩:=uz Tryz.info100;have aw:=Vi 0 Z.out;have ax:=(k.out.cell (p:=(iC DB)) (ltOf a.out)).trans Q;go_wp2;go_region_law (apply step_append_lies _ iI (.tmp 32) (.tmp 35) 56 iI 0 100 j0 _ 3 40 underlying56 ah ai aj ak iI Ae (.slice v (iK L) s) (iK L) (Es L) (by simp[Act.eval]) C.out.drew (iC E.1.size) 1 1 _ (by simp[Act.eval]) Ac (jc B.out) (by intro ay X;simp at X;rcases X with rfl|rfl|rfl<;>rfl) Aa H8 Aa (bF _) _ iI;intro l az w5 a1 D a6 b5;have q:=hid ((D.block S (by show S<_;exact ltOf Z.out) (λe=>ae.out e.symm)).trans Z.out);have r:=hid ((D.block DB (by show DB<_;exact ltOf F.out) (λe=>af.out e.symm)).trans F.out);have d5:=cellOf (j:=0) r.out iI;have k5:=cellOf (j:=0) q.out iI;have z5:=frozen_of_row w5 S 0 _ _ q.out;have a7:=hid a1;have a8:=hid D;have aa:=hid a6;clear a1 D a6)
   all_goals (obtain⟨W6,b6,D6,S6,q6,z6,b7,al⟩:=WJ (d:=d) R.out k.out r.out q.out a7.out a8.out aa.out)
   all_goals clear a7 a8 aa r q k5 z5 d5 B C
   all_goals go_wp2
   all_goals go_ret
   all_goals exact⟨iI,_,.pre (To.grown t.out) al.out,kr ⟨c.out,r7 ⟨o.out,iI⟩⟩⟩
  ·
   have an:=(aF.1 I).1;have ao:(i:Int)<(iK L:Int):=Aa;obtain⟨l,u,aq,ar,_⟩:=Ae2 R.out.row Aa;subst u;obtain⟨U,q1,q2⟩:=Vq R.out.row I;have z1:=R.out.row.frozenAt (i * 3+1);have b8:=HD.out f (bA I);have x:=hid (R.out.data Ae I (f.d++d));have HF:=hid I;have au:=hid T;clear I T U q2;go_wp2
   all_goals go_ret
   all_goals exact⟨iI,_,⟨lj (iC l),s,x.out.1,(To.grown t.out).trans (To.grownO (by simpa[Fq,yq] using x.out.2))⟩,kr ⟨c.out,kr ⟨i,f,HF.out,au.out,iI⟩⟩⟩
section
variable {h:gS} {z:gX}
def Acb(U:It h z)(w)(V:z w)(c:Table w)(N e)(W:-9223372036854775808<=N)(T:N<=9223372036854775807)(f:-2147483648<=e)(A:e<=2147483647):F prog 71 #[iE N,iE e] w λx B=>Fr w.1.size B x (Orch.be (-2) 4++Orch.be N 8++Orch.be e 4)/\iF w B:=by
 have R:Hid (F prog 125 #[pc ⟨#[40,52,56,52,41]⟩,qh (lj (iC w.1.size)) 3 3] (w.alloc (oh #[iE (-2),pc iG,qh jh 0 0,iE N,pc iG,qh jh 0 0,iE e,pc iG,qh jh 0 0] 183)) λx B=>Fr w.1.size B x (Orch.be (-2) 4++Orch.be N 8++Orch.be e 4)/\iF w B):=by
  have S:iF w (w.alloc (oh #[iE (-2),pc iG,qh jh 0 0,iE N,pc iG,qh jh 0 0,iE e,pc iG,qh jh 0 0] 183)):=Bf w _;have q:=Nz w [(Orch.num (-2),qh jh 0 0),(Orch.num N,qh jh 0 0),(Orch.num e,qh jh 0 0)] (λg=>g<Y w.1+1) Ad #[iE (-2),pc iG,qh jh 0 0,iE N,pc iG,qh jh 0 0,iE e,pc iG,qh jh 0 0] An 183 3 iI _ iI Ad (by
   intro p Q;simp at Q;rcases Q with rfl|rfl|rfl<;>exact .nil jh 0)
  apply(Qk U _ (U.kept (U.size V) S V) (c.below S c.pos) ⟨#[40,52,56,52,41]⟩ _ _ _ q (λg a=>by simpa using a) _ Orch.parse_error _ (Orch.puts_error h Ae Ae W T f A) Al Al).mono;rintro e B⟨a,D⟩;exact⟨Fr.low a Ad,S.trans (D.mono Ad)⟩
 go_enter func71,ntmps71;exact Q4r
end
def ME(w kind F):xq prog 164 #[iE kind,iE F] w λe B=>e=k8 (gd (F==0||(kind==5&&F==10)))/\B=w:=by
 by_cases a:F=0
 ·subst a;go_enter func164,ntmps164;go_wp2;go_ret;exact⟨iI,iI⟩
 ·by_cases z:kind=5
  ·subst z;go_enter func164,ntmps164;go_wp2;go_ret;simp
  ·go_enter func164,ntmps164;go_wp2;go_ret;exact⟨by simp[a,z],iI⟩
def TJ(w kind):F prog 166 #[iE kind] w λe B=>e=k8 (iE (if kind=6 then 1 else 0))/\B=w:=by
 by_cases h:kind=6
 ·go_enter func166,ntmps166;go_wp2;go_ret;exact⟨iI,iI⟩
 ·go_enter func166,ntmps166;go_wp2;go_ret;exact⟨iI,iI⟩
def Ad5{w:Z}{a L f}(h:w.ownsRow a t 3 (qh (lj (iC g)) (iK L) c) (iK L) (Es L))(I:L[i]?=lj f)(s:Nat):(w.setCell ⟨g,i * 3+2,jh⟩ (iE s)).ownsRow a t 3 (qh (lj (iC g)) (iK L) c) (iK L) (Es (L.set i { f with s:=s }))/\w.grownBy (w.setCell ⟨g,i * 3+2,jh⟩ (iE s)) (lj g):=by
 have:=h.stored (i * 3+2) (iE s);refine⟨?_,this.2⟩;have e:(Es L).set (i * 3+2) (iE s)=Es (L.set i { f with s:=s }):=by
  rw[Zk I];obtain⟨F,C,J⟩:=Ot I;refine bL λj=>?_
  grind
 grind
def St.safe{w K L a f}(h:St bt rt w K l L (lj (iC g)) a)(R:rt≠bt)(I:L[i]?=lj f)(s:Nat):St bt rt (w.setCell ⟨g,i * 3+2,jh⟩ (iE s)) K l (L.set i { f with s:=s }) (lj (iC g)) a/\w.grownBy (w.setCell ⟨g,i * 3+2,jh⟩ (iE s)) (lj g):=by
 have ⟨C,J⟩:=Ad5 h.row I s;have b:K≠g:=λe=>by
  have ⟨Q,P⟩:=Hz h.row iI;rw[←e,h.blk]at P;cases P;exact R iI
 refine⟨⟨?_,?_⟩,J⟩
 ·rw[wcl];exact(p7 _ _ _ _ b).trans h.blk
 ·rwa[wcl]
def St.drew{w K L v}(h:St bt rt w K l L v s):St bt rt w.drew K l L v s:=⟨h.blk,h.row.drew⟩
def VP(L:List Fl)(n:gU)(L':List Fl):Prop:=
 ((∀f,f∈L->f.n≠n)/\L'=L)∨∃i f,L[i]?=lj f/\f.n=n/\L'=L.set i { f with s:=f.d.size }
def YU(w DB S left L v s)(n:gU)(m:w.1[DB]?=lj (oh #[iB S] 60))(h:St 58 100 w S left L v s)(k:-1<=left)(r:left<=9223372036854775807)(q:iK L<=10000000):xq prog 56 #[iB DB,pc n] w λe B=>e=k8 (gd (decide (left≠0)))/\∃p,Dgo 58 100 w B S (dec left) v p/\((left=0/\p=L)∨(left≠0/\VP L n p)):=by
 have G:DB≠S:=λe=>by have:=h.blk;rw[←e,m]at this;simp at this
 have J:=DN w S _ left h.blk k r;have c0:=Vi 0 m;have b:=hid h;have A:=hid m;clear h m;by_cases K:left=0
 ·have P:decide (left≠0)=sd:=by simp[K]
  rw[P]at J⊢;have V:=hid J;clear J;go_enter func56,ntmps56;exact Lay
 ·have P:decide (left≠0)=km:=by simp[K]
  rw[P]at J⊢;have V:=hid J;have c:=hid K;clear J K P;go_enter func56,ntmps56;go_wp2_with (go_at_call 83;apply V.out.mono;rintro e H⟨rfl,M,W⟩;have R:=hid (b.out.lefts M W Ae);have t:=hid W;have a:=hid ((W.block DB (ltOf A.out) (λe=>G Aiv)).trans A.out);have Q:=cellOf (j:=0) a.out iI;have y:=hid (LH H S v s (dec left) L n R.out.blk R.out.row Aa);clear M W);apply y.out.mono;rintro e E⟨Y,N⟩;subst Y;have D:=Vi 0 R.out.blk;rcases N with⟨rfl,O⟩|⟨i,f,rfl,I,T⟩
  ·have o:=hid O;clear O;go_wp2
   all_goals go_ret
   all_goals exact⟨iI,L,.same R.out (To.grown t.out),kr ⟨c.out,r7 ⟨o.out,iI⟩⟩⟩
  ·have an:=(aF.1 I).1;have F:(i:Int)<(iK L:Int):=Aa;have z:(i:Int) ≥ 0:=Aa;obtain⟨l,u,aq,X,_⟩:=Ae2 R.out.row Aa;subst u;obtain⟨U,q1,q2⟩:=Vq R.out.row I;have z1:=R.out.row.frozenAt (i * 3+2);have x:=hid (R.out.drew.safe Ae I f.d.size);have d:=hid I;have C:=hid T;clear I T U;go_wp2;go_region_law (fail)
   all_goals go_wp2
   all_goals go_ret
   all_goals exact⟨iI,_,⟨lj (iC l),s,x.out.1,(To.grown t.out).trans ⟨⟨x.out.2.os,x.out.2.tape,x.out.2.output,x.out.2.size,λj g Z=>x.out.2.block j g (λe=>Z (kr Aiv))⟩,λ_ h=>r7 h⟩⟩,kr ⟨c.out,kr ⟨i,f,d.out,C.out,iI⟩⟩⟩
open Go.Maps
def Pe(L:gQ):List gU:=((L.map λx=>x.data.toList).mergeSort λx y=>decide (x<=y)).map λx=>⟨x.toArray⟩
def Lo(L):(Pe L).length=iK L:=by simp[Pe,eI]
def SV{L p}(h:L.Perm p):Pe L=Pe p:=by
 unfold Pe
 congr 1
 have J:=h.map λx:gU=>x.data.toList;have e:∀a b c:gT,decide (a<=b)=km->decide (b<=c)=km->decide (a<=c)=km:=λa b c C J=>by
  grind
 have d:∀a b:gT,(decide (a<=b)||decide (b<=a))=km:=λa b=>by
  simp only[eT,decide_eq_true_eq];exact List.le_total a b
 exact fS (le:=λa b=>a<=b) (λa b _ _ C J=>List.le_antisymm C J) ((fX e d _).imp λh=>Aan) ((fX e d _).imp λh=>Aan) ((fI _ _).trans (J.trans (fI _ _).symm))
def Afh(w a v)(L:gQ)(K:iK L<=1000)(O:w.ownsRow a 9 1 v (iK L) (strs L))(r)(D:vu a r w):xq prog 195 #[v] w λe B=>e=k8 (js #[])/\vu a r B/\B.ownsRow a 9 1 v (iK L) (strs (Pe L)):=by
 rcases O.2 with⟨rfl,F⟩|⟨g,I,H,rfl,o,G,S,t,f,R⟩
 ·apply(Any.slices_Sort_string_none Tryz.lays190 jh 0 w).mono;rintro e B⟨rfl,rfl⟩;have c:L = []:=eY F;subst c;exact⟨iI,D,by simpa[Pe] using O⟩
 ·have p:Go.Sort.Holds encStr w g 0 (L.map λx=>x.data.toList).toArray:=λj l=>by
   have P:j<iK L:=by simpa using l
   rw[aX];refine⟨?_,Dm G⟩;have C:(H.toList.take (iK L * 1))[j]?=(strs L)[j]?:=by rw[R]
   rw[eG,aL Aa]at C;have J:H[j]?=lj (pc L[j]):=by
    simp[strs,P]at C;simpa using C
   rw[T G J];simp[encStr,P]
  have:=Any.slices_Sort_string Tryz.lays190 g 0 I (L.map λx=>x.data.toList) w p (N G) Ah;rw[bV]at this;apply this.mono;rintro e B⟨rfl,n,d,rfl⟩;refine⟨iI,⟨D.os,D.tape,D.output,?_,λk E=>?_⟩,⟨by simp[strs,Lo],kr ⟨g,I,kj encStr 0 ((L.map λx=>x.data.toList).mergeSort λx y=>decide (x<=y)).toArray H,iI,o,?_,S,t,?_,?_⟩⟩⟩
  ·have:=D.size;simp[Go.Sort.grow,Go.Sort.putRow,Go.Sort.mapBlock,Go.Sort.ahead];omega
  ·rw[←D.block k E]
   show((w.1.modify g _)++d)[k]?=_;rw[dJ HM,bS,aM Aa]
  ·show((w.1.modify g _)++d)[g]?=_;exact A5v
  ·simp[kj,f]
  ·have b:(((L.map λx=>x.data.toList).mergeSort λx y=>decide (x<=y)).toArray).size=iK L:=by simp[eI]
   refine bL λj=>?_;rw[gO,eG];by_cases l:j<iK L
   ·have Y:j<H.size:=Aa;rw[aL l];simp only[kj,cN,fka,aO Y,aI,aX,bF,true_and,b,l,bQ,Nat.sub_zero];have h:j<((L.map λx=>x.data.toList).mergeSort λx y=>decide (x<=y)).length:=by simp[eI];exact l
    simp[strs,Pe,encStr,aH h]
   ·rw[aM l]
    symm
    rw[fN];simp[strs,Lo];omega
def An7:Keyed prog 3:=int_keyed underlying3
def Al7(w z sm s num)(M:w.cell? (iD z 3)=lj (.map (lj sm)))(a:(gq 93 (.map (lj sm)) (iE num) sd).run prog w=.ok (iB s) w)(n p t v b)(C:hU)(F U)(D:w.1[s]?=lj (oh #[n,p,t,v,b,qh C F U] 84)):xq prog 28 #[iB z,iE num] w λE B=>E=k8 (js #[qh C F U,iE 0])/\B=w.setCell (iD s 5) (qh jh 0 0):=by
 have l:=Vi (w:=w) 5 D;have c:=Fk1 (w:=w) 5 D;have g:=u (FH w z sm s num M a);clear a;go_enter func28,ntmps28;go_wp2_with (go_at_call 38;apply g.out.mono;rintro e H⟨rfl,rfl⟩);exact fy (v:=js #[qh C F U,iE 0]) (by simp[rz,results28,go_sem]) iI ⟨iI,iI⟩
def Al6(w P z sm s num)(V:w.cell? (iC P)=lj (iB z))(M:w.cell? (iD z 3)=lj (.map (lj sm)))(b:(gq 93 (.map (lj sm)) (iE num) sd).run prog w=.ok (iB s) w)(n p t v e)(C:hU)(F U)(D:w.1[s]?=lj (oh #[n,p,t,v,e,qh C F U] 84)):xq prog 12 #[iB P,iE num] w λE B=>E=k8 (js #[qh C F U,iE 0])/\B=w.setCell (iD s 5) (qh jh 0 0):=by
 have o:=u (Al7 w z sm s num M b n p t v e C F U D);go_enter func12,ntmps12;go_wp2_with (first|(go_at_call 26;apply(u (Q8 w P _ V)).out.mono;rintro S H⟨rfl,rfl⟩)|(go_at_call 28;apply o.out.mono;rintro S H⟨rfl,rfl⟩));exact fy (by simp[rz,results12,go_sem]) iI ⟨iI,iI⟩
def Abw(w z D x M sm t k b)(d:w.1[z]?=lj (oh #[iB D,iB x,.map (lj M),.map (lj sm),iE t,gd sd] 95))(e:t=0/\k=1∨t=1/\k=2)(L:Bi prog 3 w sm b)(G:iK b<8)(O:∀p∈b,p.1≠iE k):xq prog 37 #[iB z] w λe a=>e=k8 (js #[iE k,iE 0])/\Ax w a (λi=>i=z∨i=sm)/\iL w.1<iL a.1/\a.1[z]?=lj (oh #[iB D,iB x,.map (lj M),.map (lj sm),iE k,gd sd] 95) /\
   a.1[iL w.1]?=lj (oh #[iE k,qh jh 0 0,gd sd,iE 0,gd sd,qh jh 0 0] 84)/\Bi prog 3 a sm (b++[(iE k,iB w.1.size)]):=by
 have l:=hide (QR w z (cellOf (j:=5) d iI));have ⟨_,_,_,U,Q⟩:=T0 d iI;have J:=Fk1 (w:=w) 4 d;have A:=L.len (t:=93) underlying93 3;have N:z≠sm:=λe=>by
  obtain⟨X,H,h⟩:=L.ex;rw[←e,d]at h;cases h.1
 have I:decide ((8:Int)<=(iK b:Int))=sd:=Ah;obtain⟨K,j⟩:∃K,w.setCell (iD z 4) (iE k)=K:=⟨_,iI⟩;have T:Br w K z #[iB D,iB x,.map (lj M),.map (lj sm),iE k,gd sd] 95:=by rw[←j];exact(Br.refl d).set 4 (iE k)
 have ⟨_,_,_,F,g⟩:=T0 T.blk iI;have V:iL K.1=iL w.1:=by rw[←j];simp
 have o:K.1[sm]?=w.1[sm]?:=T.grown.block sm L.lt (λe=>by cases e;exact N iI);obtain⟨c,m⟩:∃c,K.drew.alloc (oh #[iE k,qh jh 0 0,gd sd,iE 0,gd sd,qh jh 0 0] 84)=c:=⟨_,iI⟩;have q:∀k,k<iL K.1->c.1[k]?=K.1[k]?:=λk E=>by rw[←m];exact ir _ _ _ E
 have u:c.1[iL K.1]?=lj (oh #[iE k,qh jh 0 0,gd sd,iE 0,gd sd,qh jh 0 0] 84):=by rw[←m];exact iw _ _
 have R:iL c.1=iL K.1+1:=by rw[←m];simp
 have r:sm<iL K.1:=by rw[V];exact L.lt
 obtain⟨f,S,W,y⟩:=(L.of_block ((q sm r).trans o)).put_new (val:=iB w.1.size) An7 underlying93 (key:=.int .i64 k) (kl:=.int gh k) (by rcases e with⟨_,rfl⟩|⟨_,rfl⟩<;>kernel_rfl) O;have P:=(q z (ltOf T.blk)).trans T.blk;have i:=(y.block z (by have:=ltOf T.blk;omega) (λe=>by cases e;exact N iI)).trans P;have ⟨_,_,_,n,C⟩:=T0 i iI;have ⟨_,_,_,Y,s⟩:=T0 P iI;have v:Hid (Ax w f (λi=>i=z∨i=sm)/\iL w.1<iL f.1/\f.1[z]?=lj (oh #[iB D,iB x,.map (lj M),.map (lj sm),iE k,gd sd] 95) /\
   f.1[iL w.1]?=lj (oh #[iE k,qh jh 0 0,gd sd,iE 0,gd sd,qh jh 0 0] 84)/\Bi prog 3 f sm (b++[(iE k,iB w.1.size)])):=by
  have B:=y.size;refine⟨⟨?_,?_,?_,Aa,λk E Z=>?_⟩,Aa,i,?_,W⟩
  ·rw[y.os,←m];exact T.grown.os
  ·rw[y.tape,←m];exact T.grown.tape
  ·rw[y.output,←m];exact T.grown.output
  ·rw[y.block k Aa (λe=>by cases e;exact Z (kr iI)),q k Aa];exact T.grown.block k E (λe=>by cases e;exact Z (r7 iI))
  ·rwa[←V,y.block _ Aa (λe=>by cases e;omega)]
 clear W y u q T L o O d P i;rcases e with⟨rfl,rfl⟩|⟨rfl,rfl⟩
 all_goals
  go_enter func37,ntmps37;go_wp2_with (go_at_call 39;apply l.out.mono;rintro a1 a6⟨rfl,rfl⟩)
  first
  |go_region_held3 (λa=>a.cell? (iD z 3)=lj (.map (lj sm))/\a.cell? (iD z 4)=lj (iE 1)) (first|(go_keep;done)|exact⟨F,g⟩|exact⟨Y,s⟩|exact⟨n,C⟩) (fail)
  |go_region_held3 (λa=>a.cell? (iD z 3)=lj (.map (lj sm))/\a.cell? (iD z 4)=lj (iE 2)) (first|(go_keep;done)|exact⟨F,g⟩|exact⟨Y,s⟩|exact⟨n,C⟩) (fail)
  go_wp2_with fail;exact fy (by simp[rz,results37,go_sem]) iI ⟨iI,v.out⟩
def XA(w P z k)(R:gX)(V:w.cell? (iC P)=lj (iB z))(a:F prog 37 #[iB z] w λe B=>e=k8 (js #[iE k,iE 0])/\R B):F prog 24 #[iB P] w λe B=>e=k8 (js #[iE k,iE 0])/\R B:=by
 go_enter func24,ntmps24;go_wp2_with (first|(go_at_call 26;apply(u (Q8 w P _ V)).out.mono;rintro S H⟨rfl,rfl⟩)|(go_at_call 37;apply(u a).out.mono;rintro S H⟨rfl,D⟩;have b:=u D;clear D));exact fy (by simp[rz,results24,go_sem]) iI ⟨iI,b.out⟩
def M5(c n:Int):Int:=(if c<0 then -(c+1) else c) % n
def Ql(c){n}(z:0<n):0<=M5 c n/\M5 c n<n:=⟨Int.emod_nonneg _ Aa,Int.emod_lt_of_pos _ z⟩
def Ph(c:Int):Prop:=-9223372036854775808<=c/\c<=9223372036854775807
def Uw(w c n)(M:Ph c)(z:0<n)(p:n<=9223372036854775807):F prog 11 #[iE c,iE n] w λe B=>e=k8 (iE (M5 c n))/\B=w:=by
 have ⟨C,J⟩:=M;go_enter func11,ntmps11;go_wp2
 ·have e:Int.tmod (-(c+1)) n=M5 c n:=by
   unfold M5
   grind
  refine fy ?_ iI ⟨iI,iI⟩;simp[rz,results11,go_sem];rw[←e,Int.neg_tmod]
 ·refine fy ?_ iI ⟨iI,iI⟩;have e:c % n=M5 c n:=by
   unfold M5;rw[aM Aa]
  simp[rz,results11,go_sem,e]
def MT(w:Z)(W)(cs:gY)(f:cs=(A4 W).toArray)(K:iK W<=1000):(w.alloc (oh cs 5)).ownsRow w.1.size 5 1 (qh (lj (iC w.1.size)) (iK W) (iK W)) (iK W) (A4 W):=by
 refine⟨by simp[A4],kr ⟨Y w.1,iK W,cs,iI,aC _,iw _ _,aC _,H8,by rw[f];simp[A4],by rw[f,gO];exact bO (by simp[A4])⟩⟩
def b4(n:Int):gU:=⟨(Orch.be n 4).toArray⟩
def Lh(n):(b4 n).size=4:=by
 show(Orch.be n 4).toArray.size=4;rw[bD,Orch.be_length]
def Ie(n):(b4 n).data.toList=Orch.be n 4:=iI
def E9(s:gU):gU:=b4 s.size++s
def I8(s):(E9 s).size=4+s.size:=by
 unfold E9;rw[bT,Lh]
def Zq(w n)(z:Ph n):F prog 16 #[iE n] w λe B=>e=k8 (pc (b4 n))/\iF w B:=by
 obtain⟨C,J⟩:=z;obtain⟨P,Z⟩:∃P,w.alloc (oh #[uu qg (n / 16777216 % 256),uu qg (n / 65536 % 256),uu qg (n / 256 % 256),uu qg (n % 256)] 5)=P:=⟨_,iI⟩;have E:(convert 37 9 (qh (lj (iC w.1.size)) 4 4)).run prog P=.ok (pc (b4 n)) P:=by
  apply Tz (base:=Y w.1) (b:=Orch.be n 4);rw[←Z];have:=MT w (Orch.be n 4) #[uu qg (n / 16777216 % 256),uu qg (n / 65536 % 256),uu qg (n / 256 % 256),uu qg (n % 256)] (by simp[A4,Orch.be];refine⟨?_,?_,?_,?_⟩<;>omega) Af8
  rwa[Orch.be_length]at this⊢
 have a:Hid (iF w P):=by rw[←Z];exact Bf _ _
 go_enter func16,ntmps16;go_wp2;go_ret;exact⟨iI,a.out⟩
def DS(w)(s:gU)(b:s.size<=1000000):F prog 30 #[pc s] w λe B=>e=k8 (pc (E9 s))/\iF w B:=by
 have N:=Lh s.size;go_enter func30,ntmps30;go_wp2_with (go_at_call 16;apply(u (Zq w s.size ⟨Aa,Aa⟩)).out.mono;rintro S H⟨rfl,D⟩;have a:=u D;clear D)
 all_goals first|(exfalso;omega)|skip
 go_ret;exact⟨iI,a.out⟩
def DX(w)(s:gU)(b:s.size<=1000000):F prog 15 #[pc s] w λe B=>e=k8 (pc (E9 s))/\iF w B:=by
 go_enter func15,ntmps15;go_wp2_with (go_at_call 30;apply(u (DS w s b)).out.mono;rintro S H⟨rfl,D⟩;have a:=u D;clear D);go_ret;exact⟨iI,a.out⟩
def QZ(i:Int):Int:=i % 2147483648
def Adj(w i)(F:0<=i)(C:i<=9223372036854775807):xq prog 25 #[iE i] w λe B=>e=k8 (iE (QZ i))/\B=w:=by
 go_enter func25,ntmps25;go_wp2;go_ret;exact⟨iI,iI⟩
def smB(n:Int):gU:=⟨#[qe (97+M5 n 20).toNat]⟩
def ZT(w n)(z:Ph n):F prog 41 #[iE n] w λe B=>e=k8 (pc (smB n))/\iF w B:=by
 have R:=u (Uw w n 20 z Ae Ae);obtain⟨N,m⟩:=Ql n (n:=20) Ae;unfold smB;generalize M5 n 20=p at R N m⊢;obtain⟨P,Z⟩:∃P,w.alloc (oh #[uu qg (97+p)] 5)=P:=⟨_,iI⟩;have E:(convert 37 9 (qh (lj (iC w.1.size)) 1 1)).run prog P=.ok (pc ⟨#[qe (97+p).toNat]⟩) P:=by
  apply Tz (base:=Y w.1) (b:=[qe (97+p).toNat]);rw[←Z];exact MT w [qe (97+p).toNat] #[uu qg (97+p)] (by
   simp[A4];omega) Ad
 have b:Hid (iF w P):=by rw[←Z];exact Bf _ _
 go_enter func41,ntmps41;go_wp2_with (go_at_call 11;apply R.out.mono;rintro S H⟨rfl,rfl⟩);go_ret;exact⟨iI,b.out⟩
def MI(u):F prog 6 #[] u λe B=>e=k8 (js #[pdw (lj ⟨Y u.1+1,0,jh⟩),pdw (lj ⟨Y u.1+2,0,jh⟩)])/\B=((u.alloc (oh #[qh jh 0 0,iE (-1)] 58)).alloc (oh #[iB u.1.size] 60)).alloc (oh #[iB u.1.size] 62):=by
 go_enter func6,ntmps6;go_wp2;exact fy (v:=js #[pdw (lj ⟨Y u.1+1,0,jh⟩),pdw (lj ⟨Y u.1+2,0,jh⟩)]) (by simp[rz,results6,go_sem]) iI ⟨iI,iI⟩
section
variable (w:Z) (D K:Nat) (y:w.cell? (iC D)=lj (iB K)) (E:w.cell? (iC K)=lj (qh jh 0 0)) (X:w.cell? (iD K 1)=lj (iE (-1)))
include E in
theorem Zf(s:gU):F prog 85 #[iB K,pc s] w λe B=>e=k8 (iE (-1))/\B=w:=by
 go_enter func85,ntmps85;go_wp2;apply wp_loop_rounds 1;rw[rounds_succ];go_wp2;go_ret;exact⟨iI,iI⟩
include y E in
theorem QC(s:gU):F prog 87 #[iB D,pc s] w λe B=>e=k8 (pc iG)/\B=w:=by
 have r:=u (Zf w K E s);go_enter func87,ntmps87;exact Mdq
include y E in
theorem XE(s:gU):F prog 60 #[iB D,pc s] w λe B=>e=k8 (gd sd)/\B=w:=by
 have r:=u (Zf w K E s);go_enter func60,ntmps60;exact Mdq
include y X in
theorem CC:F prog 21 #[iB D] w λe B=>e=k8 (gd sd)/\B=w:=by
 go_enter func21,ntmps21;go_wp2;go_ret;exact⟨iI,iI⟩
end
def Yd(w)(a:hU)(c):F prog 144 #[qh a 0 c] w λe B=>e=k8 (js #[qh jh 0 0,gd sd])/\B=w:=by
 go_enter func144,ntmps144;go_wp2;exact fy (by simp[rz,results144,go_sem]) iI ⟨iI,iI⟩
abbrev Jv:Nd:=⟨⟨#[47]⟩,⟨#[]⟩,⟨#[]⟩,0,0,0⟩
def Amg(w g)(G:w.1[g]?=lj (oh Jv.cs 87)):xq prog 89 #[iE 0,qh (lj (iC g)) 1 1] w λe B=>e=k8 (pdw (lj ⟨iL w.1+1,0,jh⟩))/\Ck B (iL w.1+1) w.1.size 0 [(⟨#[47]⟩,Jv)]/\iF w B:=by
 obtain⟨P,Z⟩:∃P,w.alloc (.map #[] 0)=P:=⟨_,iI⟩;have M:(Instr.makeMap 106 jh).run prog w=.ok (.map (lj w.1.size)) P:=by rw[←Z];simp[Instr.makeMap,runUnderlying92,go_sem]
 have l:iL P.1=iL w.1+1:=by rw[←Z];simp
 have n:Bi prog 9 P w.1.size []:=by rw[←Z];exact Bi.made w
 obtain⟨K,I⟩:∃K,P.alloc (oh #[iE 0,.map (lj w.1.size)] 108)=K:=⟨_,iI⟩;have h:iL K.1=iL w.1+2:=by rw[←I];simp;omega
 have s:∀k,k<iL P.1->K.1[k]?=P.1[k]?:=λk E=>by rw[←I];exact ir _ _ _ E
 have O:K.1[iL w.1+1]?=lj (oh #[iE 0,.map (lj w.1.size)] 108):=by rw[←I,←l];exact iw _ _
 have X:P.1[g]?=lj (oh Jv.cs 87):=by rw[←Z];exact(ir _ _ _ (ltOf G)).trans G
 have o:K.1[g]?=lj (oh Jv.cs 87):=(s g (ltOf X)).trans X;have ⟨N,Q,T,x3,x4,x5⟩:=N4 o iI;obtain⟨c,m⟩:∃c,K.alloc (oh #[pc iG,pc iG,pc iG,iE 0,iE 0,iE 0] 87)=c:=⟨_,iI⟩;have R:c.1[iL K.1]?=lj (oh #[pc iG,pc iG,pc iG,iE 0,iE 0,iE 0] 87):=by rw[←m];exact iw _ _
 have q:∀k,k<iL K.1->c.1[k]?=K.1[k]?:=λk E=>by rw[←m];exact ir _ _ _ E
 have ⟨y,C,A,i,J,p⟩:=N4 R iI;have ⟨x,F,r,t,v,z,_⟩:=Gu R;obtain⟨a,S⟩:∃a,((((((c.setCell (iC K.1.size) (pc ⟨#[47]⟩)).setCell (iD K.1.size 1) (pc iG)).setCell (iD K.1.size 2) (pc iG)).setCell (iD K.1.size 3) (iE 0)).setCell (iD K.1.size 4) (iE 0)).setCell (iD K.1.size 5) (iE 0))=a:=⟨_,iI⟩;have D:Br c a K.1.size Jv.cs 87:=by rw[←S];exact(((((((Br.refl R).set 0 (pc ⟨#[47]⟩)).set 1 (pc iG)).set 2 (pc iG)).set 3 (iE 0)).set 4 (iE 0)).set 5 (iE 0))
 have V:iL c.1=iL w.1+3:=by rw[←m];simp;omega
 have b:∀k,k<iL K.1->a.1[k]?=K.1[k]?:=λk E=>(D.grown.block k Aa Amq).trans (q k E);have t4:a.1[iL w.1+1]?=lj (oh #[iE 0,.map (lj w.1.size)] 108):=(b _ Aa).trans O;have d:Bi prog 9 a.drew w.1.size []:=n.of_block ((b _ Aa).trans (s _ Aa));obtain⟨U,hu,j,W⟩:=d.put_new (val:=Jv.val) HX underlying106 (key:=.string ⟨#[47]⟩) (kl:=.string [47]) Ab Ad;have Y:a.cell? ⟨iL w.1+1,1,jh⟩=lj (.map (lj w.1.size))/\a.cell? (iC K.1.size)=lj (pc ⟨#[47]⟩)/\a.cell? (iD K.1.size 1)=lj (pc iG)/\a.cell? (iD K.1.size 2)=lj (pc iG)/\a.cell? (iD K.1.size 3)=lj (iE 0)/\a.cell? (iD K.1.size 4)=lj (iE 0)/\a.cell? (iD K.1.size 5)=lj (iE 0):=
  ⟨cellOf (j:=1) t4 iI,cellOf (j:=0) D.blk iI,cellOf (j:=1) D.blk iI,cellOf (j:=2) D.blk iI,cellOf (j:=3) D.blk iI,cellOf (j:=4) D.blk iI,cellOf (j:=5) D.blk iI⟩
 have f:U.1[iL w.1+1]?=lj (oh #[iE 0,.map (lj w.1.size)] 108):=(W.block _ (by show _<iL a.1;have:=D.grown.size;omega) Amq).trans t4;have L:U.1[iL K.1]?=lj (oh Jv.cs 87):=(W.block _ (ltOf D.blk) Amq).trans D.blk;have u:U.cell? ⟨iL w.1+1,1,jh⟩=lj (.map (lj w.1.size))/\U.cell? (iC K.1.size)=lj (pc ⟨#[47]⟩)/\U.cell? (iD K.1.size 1)=lj (pc iG)/\U.cell? (iD K.1.size 2)=lj (pc iG)/\U.cell? (iD K.1.size 3)=lj (iE 0)/\U.cell? (iD K.1.size 4)=lj (iE 0)/\U.cell? (iD K.1.size 5)=lj (iE 0):=
  ⟨cellOf (j:=1) f iI,cellOf (j:=0) L iI,cellOf (j:=1) L iI,cellOf (j:=2) L iI,cellOf (j:=3) L iI,cellOf (j:=4) L iI,cellOf (j:=5) L iI⟩
 have H:Hid (Ck U (iL w.1+1) w.1.size 0 [(⟨#[47]⟩,Jv)]/\iF w U):=by
  refine⟨⟨f,j⟩,?_,?_,?_,?_,λk E=>?_⟩
  ·rw[W.os];show a.os=_;rw[D.grown.os,←m,←I,←Z];rfl
  ·rw[W.tape];show a.tape=_;rw[D.grown.tape,←m,←I,←Z];rfl
  ·rw[W.output];show a.output=_;rw[D.grown.output,←m,←I,←Z];rfl
  ·have h1:=W.size;have h2:=D.grown.size;have h3:a.drew.1.size=iL a.1:=iI;omega
  ·rw[W.block k (by show _<iL a.1;have:=D.grown.size;omega) Amq]
   show a.1[k]?=_;rw[b k Aa,s k Aa,←Z];exact ir _ _ _ E
 clear j W d D n s q b t4 f L R X o O G;rw[h]at y x C F A r i t J v p z S Y u;clear V;go_enter func89,ntmps89;go_wp2;apply wp_loop_rounds 2;rw[rounds_succ];go_wp2;go_region_held3 (λB=>B.cell? ⟨iL w.1+1,1,jh⟩=lj (.map (lj w.1.size))/\B.cell? ⟨iL w.1+2,0,jh⟩=lj (pc ⟨#[47]⟩)/\B.cell? ⟨iL w.1+2,1,jh⟩=lj (pc iG)/\B.cell? ⟨iL w.1+2,2,jh⟩=lj (pc iG)/\B.cell? ⟨iL w.1+2,3,jh⟩=lj (iE 0)/\B.cell? ⟨iL w.1+2,4,jh⟩=lj (iE 0)/\B.cell? ⟨iL w.1+2,5,jh⟩=lj (iE 0)) (first|(go_keep;done)|exact Y|exact u) (fail);go_wp2;rw[rounds_succ];go_wp2;go_ret;exact⟨iI,H.out⟩
def Ag7(w):F prog 88 #[] w λe B=>e=k8 (pdw (lj ⟨Y w.1+2,0,jh⟩))/\Ck B (Y w.1+2) (Y w.1+1) 0 [(⟨#[47]⟩,Jv)]/\iF w B:=by
 obtain⟨c,Z⟩:∃c,w.alloc (oh #[pc ⟨#[47]⟩,pc iG,pc iG,iE 0,iE 0,iE 0] 87)=c:=⟨_,iI⟩;have l:Y c.1=Y w.1+1:=by rw[←Z];simp
 have o:=Amg c w.1.size (by rw[←Z];exact iw _ _);have D:iF w c:=by rw[←Z];exact Bf _ _
 rw[l]at o;have a:Hid (F prog 89 #[iE 0,qh (lj (iC w.1.size)) 1 1] c λe B=>e=k8 (pdw (lj ⟨Y w.1+2,0,jh⟩))/\Ck B (Y w.1+2) (Y w.1+1) 0 [(⟨#[47]⟩,Jv)]/\iF w B):=o.mono λe B⟨C,J,T⟩=>⟨C,J,D.trans (T.mono Aa)⟩;clear o D l;go_enter func88,ntmps88;go_wp2_with (go_at_call 89;apply a.out.mono;rintro S H⟨rfl,g⟩;have b:=u g;clear g);go_ret;exact⟨iI,b.out⟩
def E3(a b:Int):gU:=if a<0 then⟨#[47]⟩ else if b<0 then⟨#[47]⟩++smB (M5 a 4) else⟨#[47]⟩++smB (M5 a 4)++⟨#[47]⟩++smB (M5 b 3)
def Qr(n):(smB n).size=1:=iI
def Td(a b):(E3 a b).size<=4:=by
 unfold E3;split
 ·decide
 ·split
  ·rw[bT,Qr];decide
  ·rw[bT,bT,bT,Qr,Qr];decide
def YS(w a b)(f:Ph a)(D:Ph b):xq prog 31 #[iE a,iE b] w λe B=>e=k8 (pc (E3 a b))/\iF w B:=by
 have F:=Ql a (n:=4) Ae;have k:=Ql b (n:=3) Ae;refine Bd8 λA=>?_;have d:Hid (∀W n,Ph n->iF w W->xq prog 41 #[iE n] W λe B=>e=k8 (pc (smB n))/\Hid (iF w B)):=λW n z D=>(ZT W n z).mono λe B⟨C,J⟩=>⟨C,D.trans (J.mono D.size)⟩;have h:Hid (iF w w):=nu _ _;have V:=Qr (M5 a 4);have U:=Qr (M5 b 3);have g:Ph (M5 a 4):=⟨Aa,Aa⟩;have j:Ph (M5 b 3):=⟨Aa,Aa⟩;have S:a<0->E3 a b=⟨#[47]⟩:=λC=>by unfold E3;rw[aL C]
 have L:¬a<0->b<0->E3 a b=⟨#[47]⟩++smB (M5 a 4):=λC J=>by unfold E3;rw[aM C,aL J]
 have Y:¬a<0->¬b<0->E3 a b=⟨#[47]⟩++smB (M5 a 4)++⟨#[47]⟩++smB (M5 b 3):=λC J=>by unfold E3;rw[aM C,aM J]
 by_cases C:a<0
 ·rw[S C];clear S L Y;go_enter func31,ntmps31;go_wp2;go_ret;exact⟨iI,h.out⟩
 ·by_cases J:b<0
  ·rw[L C J];clear S L Y;go_enter func31,ntmps31;go_wp2_with (first|(go_at_call 11;apply(A.out _ _ _ HV Ae Ae).mono;rintro S H⟨rfl,rfl⟩)|(go_at_call 41;apply(d.out _ _ HV h.out).mono;clear h;rintro S H⟨rfl,h⟩))
   all_goals first|omega|skip
   all_goals go_ret
   all_goals exact⟨iI,h.out⟩
  ·rw[Y C J];clear S L Y;go_enter func31,ntmps31;go_wp2_with (first|(go_at_call 11;apply(A.out _ _ _ HV Ae Ae).mono;rintro S H⟨rfl,rfl⟩)|(go_at_call 41;apply(d.out _ _ HV h.out).mono;clear h;rintro S H⟨rfl,h⟩))
   all_goals first|(exfalso;rename_i i;simp only[bT,V,U]at i;revert i;decide)|skip
   all_goals go_ret
   all_goals exact⟨iI,h.out⟩
def Py(s:gU):gU:=if 40<s.size then s.extract 0 40 else s
def DL(s):(Py s).size<=40:=by
 unfold Py;split
 ·rw[dI];omega
 ·omega
def XD(w)(s:gU)(a:s.size<=9223372036854775807):F prog 32 #[pc s,iE 40] w λe B=>e=k8 (pc (Py s))/\B=w:=by
 by_cases h:40<s.size
 ·have e:Py s=s.extract 0 40:=aL h;rw[e];go_enter func32,ntmps32;go_wp2;go_ret;exact⟨iI,iI⟩
 ·have e:Py s=s:=aM h;rw[e];go_enter func32,ntmps32;go_wp2;go_ret;exact⟨iI,iI⟩
def Tm(v:Int):Int:=if 0<v then M5 v 3 else -1
def VX(v):-1<=Tm v/\Tm v<=2:=by
 have:=Ql v (n:=3) Ae;unfold Tm;split<;>omega
def Agi(kind mk:Int)(p d:gU)(v:Int):gU:=if kind=1 then b4 1++b4 mk++E9 p++E9 d else if kind=2 then b4 2++b4 mk++E9 p++b4 v else b4 3++b4 mk++E9 p++E9 d++b4 v
def Ic.left_eq{w b r m}(h:Ic w b r m R):w.rangeLeft b r=iK R:=by
 have ⟨X,a,c,d,c0,C,_,_,q,_,f,_⟩:=h.ex;unfold World.rangeLeft
 grind
def Qa(path:gU)(q:O×O):Option gU:=
 match q.1 with
 |pc s=>if s≠⟨#[47]⟩/\Ej s=path then lj (Hx s) else jh
 |_=>jh
def kids(path:gU)(ns:List (gU×Nd)):List gU:=Pe ((ns.map Sk).filterMap (Qa path))
def XW{w h J t K}{L:gQ}{T:gU}{m o}(O:h.ownsRow w.1.size 9 1 K (iK L) (strs L))(f:∀a,K.ownBlock=lj a->a≠Y w.1/\Y w.1<=a)(b:Ic h t w.1.size m R)(D:iF w h)(z:t<Y w.1)(d:J.ownsRow w.1.size 9 1 U (iK L+1) (strs L++[pc T]))(G:(h.alloc o).grownBy J K.ownBlock):Hid (J.ownsRow w.1.size 9 1 U (L++[T]).length (strs (L++[T]))/\Ic J t w.1.size m R/\iF w J):=by
 have Q:Y w.1<Y h.1:=by
  have ⟨X,g,k,c,c0,_,_,_,V,_⟩:=b.ex
  grind
 refine⟨by simpa using d,b.keep ?_ ?_,(D.alloc D.size _).grown G Ah (λj l=>(f j l).2)⟩
 ·rw[G.block t Ah (λe=>Aj),ir _ _ _ Aa]
 ·rw[G.block w.1.size Ah (λe=>(f _ e.symm).1 iI),ir _ _ _ Q]
def Pt(w tb t num r)(y:Ck w tb t num r)(a:gU)(b8:r.length<=1000)(ah:∀X∈r,X.1.size<=1000/\Eb X.1=km) :
  xq prog 167 #[iB tb,pc a] w λm B=>(∃a7,m=k8 a7/\B.ownsRow w.1.size 9 1 a7 (kids a r).length (strs (kids a r)))/\iF w B:=by
 have c1:=Vi (w:=w) 1 y.blk;obtain⟨ai,hr,z⟩:=y.map.rangeL (t:=106) underlying106;obtain⟨P,Z⟩:∃P,w.alloc ai=P:=⟨_,iI⟩;have aj:Hid (iF w P):=by rw[←Z];exact Bf _ _
 rw[Z]at hr z;have HR:=hide z;have ak:=hide y.map.lt;clear z Z;obtain⟨i0,al,an,ao,aq⟩:=uz Tryz.info9b;go_enter func167,ntmps167;go_wp2;go_loopw [5,6] (λnm pp wr=>∃L l,Hid (L.length+l.length<=r.length/\(∀x∈l,x∈r.map Sk)/\(L++l.filterMap (Qa a)).Perm ((r.map Sk).filterMap (Qa a)))/\Hid (wr.ownsRow w.1.size 9 1 nm L.length (strs L)/\Ic wr t w.1.size (r.map Sk) l/\iF w wr)) (λ_ _ wr=>wr.rangeLeft t w.1.size)
 case atStart=>exact⟨[],r.map Sk,⟨Ad,λx D=>D,gL _⟩,xn _ _ _ _,HR.out,aj.out⟩
 case round=>
  obtain⟨L,l,e,b⟩:=hrel;obtain⟨na,n,E⟩:∃na n,u5=qh na L.length n:=by
   exact Q0a
  subst E;rcases b.out.2.1.next (P:=prog) 0 with⟨F,ar⟩|⟨a8,i,Q,K,ar,N,H,au,b9⟩
  ·have av:(kids a r).length=L.length:=by
    have:=e.out.2.2.length_eq;rw[F]at this;simp only[pd,bZ]at this;rw[kids,Lo,←this]
   have aw:Pe L=kids a r:=by
    have:=e.out.2.2;rw[F]at this;simp only[pd,bZ]at this;exact SV this
   have Y:Hid (xq prog 195 #[qh na L.length n] wr λm B=>m=k8 (js #[])/\iF w B/\B.ownsRow w.1.size 9 1 (qh na L.length n) (kids a r).length (strs (kids a r))):=by
    have:=Afh wr w.1.size (qh na L.length n) L (by have:=e.out.1;omega) b.out.1 w b.out.2.2;rw[aw]at this
    rwa[av]
   go_wp2_with fail;apply Y.out.mono;rintro m w3⟨rfl,h⟩;have U:=hide h;clear h;go_wp2;go_ret;exact⟨⟨_,iI,U.out.2⟩,U.out.1⟩
  ·have aa:a8∈r.map Sk:=e.out.2.1 a8 (Q.subset (cJ ..));obtain⟨⟨c,J⟩,hq,rfl⟩:=aZ.1 aa;have s:c.size<=1000/\Eb c=km:=ah _ hq;have C:=hide (b.out.2.2.grown H b.out.2.2.size (λba hj=>by cases hj;exact aC _));have M:=hide N;have ax:l.length=i.length+1:=by rw[←Q.length_eq];rfl
   have HP:Hid (∀W,xq prog 180 #[pc c] W λm B=>m=k8 (pc (Ej c))/\B=W):=λW=>Tc W c (by have:=s.1;omega) s.2;have HN:Hid (∀W,xq prog 194 #[pc c] W λm B=>m=k8 (pc (Hx c))/\B=W):=λW=>LU W c s.1 s.2;have A:Hid (i.length<wr.rangeLeft t w.1.size/\L.length+1+i.length<=r.length/\K.rangeLeft t w.1.size=i.length):=⟨by rw[(hide b.out.2.1.left_eq).out];omega,by have:=e.out.1;omega,N.left_eq⟩;have O:Hid (∀x∈i,x∈r.map Sk):=λx D=>e.out.2.1 x (Q.subset (cI _ D));have T:=hide (((gL L).append (Q.filterMap (Qa a))).trans e.out.2.2);have G:Hid (∀R,(qh na L.length n).ownBlock=lj R->R≠w.1.size/\w.1.size<=R):=λR d=>by
    exact Wi3
   have q:Hid (K.ownsRow w.1.size 9 1 (qh na L.length n) L.length (strs L)):=by
    refine⟨b.out.1.1,?_⟩;rcases b.out.1.2 with⟨m,F⟩|⟨g,I,o,m,j,S,a6⟩
    ·exact r7 ⟨m,F⟩
    ·have:=G.out g (by rw[m];simp[yq]);exact kr ⟨g,I,o,m,j,(H.block g (ltOf S) (λk=>this.1 (by injection k))).trans S,a6⟩
   have ab:Hid (L.length+1<=1000):=by have:=e.out.1;exact(by omega:L.length+1<=1000)
   clear N H Q hq au ax aa;by_cases u:c=⟨#[47]⟩
   ·have f:Qa a (Sk (c,J))=jh:=by simp[Qa,Sk,u]
    have p:Hid ((L++i.filterMap (Qa a)).Perm ((r.map Sk).filterMap (Qa a))):=by
     have:=T.out
     rwa[iv f]at this
    subst u;go_wp2_with fail;exact Tpn
   ·have af:(c.toList == [47])=sd:=by rw[I4];exact decide_eq_false u
    by_cases V:Ej c=a
    ·have f:Qa a (Sk (c,J))=lj (Hx c):=by simp[Qa,Sk,u,V]
     have p:Hid (((L ++ [Hx c])++i.filterMap (Qa a)).Perm ((r.map Sk).filterMap (Qa a))):=by
      have:=T.out;rw[fT f]at this
      rwa[cB]
     have b6:((Ej c).toList == a.toList)=km:=by rw[V];simp
     clear f;go_wp2_with (first
      | (go_at_call 180;apply(HP.out _).mono;rintro m v⟨rfl,rfl⟩)
      | (go_at_call 194;apply(HN.out _).mono;rintro m v⟨rfl,rfl⟩)
      | (at_builtin;apply wpList_append_own_at _ iI _ _ 236 iI w.1.size 9 i0 _ 1 16 underlying236 al an ao aq iI Ae (.slice na L.length n) L.length (strs L) iI (q.out.alloc _) (iC v.1.size) 1 1 [pc (Hx c)] iI iI (jc (iw v _)) (by intro bb hu;simp at hu;subst hu;rfl) (by unfold maxLen;have:=ab.out;omega) (by have:=ab.out;omega) Ady;intro v' w6 ad ae _ b7;have HE:=hide (XW q.out G.out M.out C.out ak.out ad ae);clear ad ae b7))
     exact⟨⟨L ++ [Hx c],i,⟨by have:=A.out.2.1;simp;omega,O.out,p.out⟩,HE.out⟩,by rw[HE.out.2.1.left_eq];exact A.out.1⟩
    ·have f:Qa a (Sk (c,J))=jh:=by simp[Qa,Sk,V]
     have p:Hid ((L++i.filterMap (Qa a)).Perm ((r.map Sk).filterMap (Qa a))):=by
      have:=T.out
      rwa[iv f]at this
     have b6:((Ej c).toList == a.toList)=sd:=by
      rw[I4];refine decide_eq_false λm=>V ?_;rw[m,joc]
     clear f;go_wp2_with (go_at_call 180;apply(HP.out _).mono;rintro m v⟨rfl,rfl⟩);exact Tpn
def QW:gU:=⟨#[108,111,103]⟩
def Aen(left:Int)(L:List Fl)(data:gU)(b:Bool)(left':Int)(L':List Fl):Prop:=
 (left=0/\b=sd/\left'=0/\L'=L)∨(left≠0/\∃L1,PK L QW data L1/\((dec left=0/\b=sd/\left'=0/\L'=L1)∨(dec left≠0/\b=km/\left'=dec (dec left)/\VP L1 QW L')))
def AK(kind last:Int)(p d n:gU):gU:=⟨(Orch.be (Oa kind last p d n).length 4++Oa kind last p d n).toArray⟩
def QB{a}(h:-1<=a):-1<=dec a/\dec a<=a:=by unfold dec;split<;>omega
def St.kx{b w K a L v}(h:St b rt w K a L v s){X}(k:Ax w B X)(C:¬X K)(J:∀g,Fq v=lj g->¬X g):St b rt B K a L v s:=
 ⟨(k.block _ (N h.blk) C).trans h.blk,Wj h.row λg cs G M=>k.block g (N M) (J g ((Xq v _ _).symm.trans G))⟩
section
variable {h:gS} {z:gX}
def Aeo(w D g kind p d n v)(a:gT)(X:Hid (∀W,iF w W->F prog 188 #[iE g,M3 kind p d n v] W λe B=>(∃t,e=k8 (js #[t,gd km])/\B.ownsRow W.1.size 5 1 t (iK a) (A4 a))/\iF W B))(P b2)(l:Z->Z->Prop)(f:Z->Z->Z->Prop)(q:Hid (∀W,iF w W->F prog 55 #[iB D,pc ⟨#[108,111,103]⟩,pc ⟨a.toArray⟩] W λe B=>e=k8 (gd P)/\l W B/\∀i,iL w.1<=i->i<iL W.1->B.1[i]?=W.1[i]?))(r:Hid (∀W H,iF w W->l W H->F prog 56 #[iB D,pc ⟨#[108,111,103]⟩] H λe B=>e=k8 (gd b2)/\f W H B)):F prog 160 #[faj #[iB D],iE g,M3 kind p d n v] w λe B=>∃W,iF w W/\((P=sd/\e=k8 (gd sd)/\l W B)∨(P=km/\e=k8 (gd b2)/\∃H,l W H/\f W H B)):=by
 have I:=hid (Rm w (oh #[iB D] 89) (oh (Du kind p d n v) 152));obtain⟨b,c⟩:∃b,(w.alloc (oh #[iB D] 89)).alloc (oh (Du kind p d n v) 152)=b:=⟨_,iI⟩;have S:=iw (w.alloc (oh #[iB D] 89)) (oh (Du kind p d n v) 152);have o:b.1[iL w.1]?=lj (oh #[iB D] 89):=by
  rw[←c];exact((Bf (w.alloc (oh #[iB D] 89)) (oh (Du kind p d n v) 152)).block _ Ad).trans (iw _ _)
 rw[c]at I S;have S:b.1[iL w.1+1]?=lj (oh (Du kind p d n v) 152):=by simpa using S
 have ⟨c0,Q,R,U,u⟩:=T0 S iI;have h:=hid o;clear S o;cases P
 all_goals
  go_enter func160,ntmps160;go_wp2_with (first
   |(go_at_call 188;apply(X.out _ I.out).mono;rintro e H⟨⟨t,rfl,j⟩,M⟩;have y:=Tz j;have O:=hide (I.out.trans (M.mono I.out.size));have k:=hid ((M.block _ (N h.out)).trans h.out);have z:H.cell? (iC w.1.size)=lj (iB D):=T (j:=0) k.out iI;clear M j)
   |(go_at_call 55;apply(q.out _ O.out).mono;rintro e E⟨rfl,Y,s⟩;have m:=hide Y;have C:E.cell? (iC w.1.size)=lj (iB D):=T (j:=0) ((s _ (aC _) (N k.out)).trans k.out) iI;clear Y s)
   |(go_at_call 56;apply(r.out _ _ O.out m.out).mono;rintro e L⟨rfl,Y⟩;have x:=hide Y;clear Y))
  go_ret
 ·exact⟨_,O.out,r7 ⟨by first|rfl|trivial,by first|rfl|trivial,m.out⟩⟩
 ·exact⟨_,O.out,kr ⟨by first|rfl|trivial,by first|rfl|trivial,_,m.out,x.out⟩⟩
def ZA(U:It h z)(w)(V:z w)(I:∀W,iF w W->Table W)(D K l L v s)(m:w.1[D]?=lj (oh #[iB K] 60))(a:St 58 100 w K l L v s)(q:-1<=l)(P:l<=9223372036854775807)(ah:iK L<=1000000)(Q:∀f,f∈L->f.d.size<=1000000000000)(A kind)(p d n:gU)(c)(X:-2147483648<=kind)(T:kind<=2147483647)(Y:-9223372036854775808<=A)(a1:A<=9223372036854775807)(a6:p.size<=200)(a7:h p=km)(a8:d.size<=200)(hn:n.size<=200)(ao:h n=km):xq prog 160 #[faj #[iB D],iE A,M3 kind p d n c] w λe b=>∃u y E,e=k8 (gd u)/\Aen l L (AK kind A p d n) u y E/\Dgo 58 100 w b K y v E:=by
 have ai:=AJ kind A p d n;have an:(AK kind A p d n).size<=1000000:=by
  show(Orch.be (Oa kind A p d n).length 4++Oa kind A p d n).toArray.size<=_;simp[Orch.be_length];omega
 have am:K≠D:=λe=>by
  subst e;rw[a.blk]at m;cases m
 have ar:=ltOf a.blk;have aj:∀W,iF w W->xq prog 55 #[iB D,pc ⟨#[108,111,103]⟩,pc (AK kind A p d n)] W λe b=>e=k8 (gd (decide (l≠0)))/\(∃t O Z,St 58 100 b K (dec l) t O Z/\To W b K (Fq v) (Fq O)/\((l=0/\t=L)∨(l≠0/\PK L QW (AK kind A p d n) t)))/\∀i,iL w.1<=i->i<iL W.1->b.1[i]?=W.1[i]?:=λW k=>by
  apply(MV W D K l L v s ⟨#[108,111,103]⟩ (AK kind A p d n) ((k.block _ (ltOf m)).trans m) (a.below k) q P Aa (λf aa=>by have:=Q f aa;omega) Aa).mono;rintro e b⟨rfl,t,⟨O,Z,r,M⟩,S⟩;exact⟨iI,⟨t,O,Z,r,M,S⟩,λi C J=>M.same i J Aa λe=>by have:=(λab ad=>(a.row.lt ab ((Xq v _ _).trans ad)).2) i e;omega⟩
 have ag:∀t,PK L QW (AK kind A p d n) t->iK t<=1000001:=by
  rintro t(⟨_,rfl⟩|⟨i,f,_,_,rfl⟩)
  ·simp;omega
  ·simp;omega
 have ae:=QB q;have ak:∀W H,iF w W->(∃t O Z,St 58 100 H K (dec l) t O Z/\To W H K (Fq v) (Fq O)/\((l=0/\t=L)∨(l≠0/\PK L QW (AK kind A p d n) t)))->xq prog 56 #[iB D,pc ⟨#[108,111,103]⟩] H λe b=>e=k8 (gd (decide (dec l≠0)))/\∃t N j B,St 58 100 b K (dec (dec l)) N j B/\To W b K (Fq v) (Fq j)/\((l=0/\t=L)∨(l≠0/\PK L QW (AK kind A p d n) t))/\((dec l=0/\N=t)∨(dec l≠0/\VP t QW N)):=by
  rintro W H k⟨t,O,Z,r,M,S⟩;have al:H.1[D]?=lj (oh #[iB K] 60):=(M.same D (aA (ltOf m) k.size) (dG am) (λe=>by
   obtain⟨cs,G⟩:=Hz a.row ((Xq v _ _).trans e);rw[m]at G;cases G)).trans ((k.block _ (ltOf m)).trans m)
  apply(YU H D K (dec l) t O Z ⟨#[108,111,103]⟩ al r ae.1 Aa (by rcases S with⟨_,rfl⟩|⟨_,a⟩;omega;have:=ag _ a;omega)).mono;rintro e b⟨rfl,N,⟨j,B,g,R⟩,x⟩;exact⟨iI,t,N,j,B,g,M.trans R,S,x⟩
 apply(Aeo w D A kind p d n c _ (λW k=>CK U W (U.kept (U.size V) k V) (λW' af=>I W' (k.trans (af.mono k.size))) A kind p d n c X T Y a1 a6 a7 a8 hn ao) _ _ _ _ aj ak).mono;rintro e b⟨W,k,⟨o,rfl,t,O,Z,r,M,S⟩|⟨o,rfl,H,-,t,N,j,B,g,R,S,x⟩⟩
 ·have F:l=0:=by simpa using o
  refine⟨sd,dec l,t,iI,r7 ⟨F,iI,by simp[F,dec],?_⟩,O,Z,r,(To.below k).trans M⟩;rcases S with⟨_,a⟩|⟨a,_⟩
  ·exact a
  ·exact absurd F a
 ·have F:l≠0:=by simpa using o
  rcases S with⟨a,_⟩|⟨_,ha⟩
  ·exact absurd a F
  refine⟨decide (dec l≠0),dec (dec l),N,iI,kr ⟨F,t,ha,?_⟩,j,B,g,(To.below k).trans R⟩;rcases x with⟨C,J⟩|⟨C,J⟩
  ·exact r7 ⟨C,by simp[C],by rw[C];rfl,J⟩
  ·exact kr ⟨C,by simp[C],iI,J⟩
end
def Ut(v xv:Int):Bool:=v == -1||v==xv
def P9(w)(i s u:gU)(T N V v):F prog 186 #[faj #[pc i,pc s,pc u,iE T,iE N,iE V],iE v] w λe B=>e=k8 (gd (Ut v V))/\iF w B:=by
 by_cases h:v = -1
 ·subst h;go_enter func186,ntmps186;go_wp2;go_ret;exact⟨iI,Bf _ _⟩
 ·go_enter func186,ntmps186;go_wp2;go_ret;exact⟨iI,Bf _ _⟩
def Xe(w j kind)(c a n:gU)(v)(i s d:gU)(f g V e)(Q:e=0∨e=10)(y:¬(40:Int)<(a.size:Int))(r:Hid (∀W,iF w W->xq prog 163 #[iB j,pc c] W λb B=>b=k8 (js #[faj #[pc i,pc s,pc d,iE f,iE g,iE V],iE e])/\iF W B)):xq prog 150 #[iB j,M3 kind c a n v] w λb B=>b=k8 (iE (if e=0 then(if Ut v V then 0 else 14) else 10))/\iF w B:=by
 have R:Hid (∀W,xq prog 186 #[faj #[pc i,pc s,pc d,iE f,iE g,iE V],iE v] W λb B=>b=k8 (gd (Ut v V))/\iF W B):=λW=>P9 W i s d f g V v;have U:=u (iw w (oh #[iE kind,pc c,pc a,pc n,iE v] 152));cases Y:Ut v V
 all_goals rw[Y]at R
 all_goals rcases Q with rfl|rfl
 all_goals (
  go_enter func150,ntmps150;go_wp2_with (first
   |(go_at_call 163;apply(r.out _ (Bf _ _)).mono;rintro b H⟨rfl,M⟩;have O:=u ((Bf _ _).trans (M.mono Ad));have Z:=u ((M.block _ (N U.out)).trans U.out);obtain⟨K,I⟩:∃K,H.alloc (oh #[pc i,pc s,pc d,iE f,iE g,iE V] 87)=K:=⟨_,iI⟩;have h:Hid (K.1[iL w.1]?=lj (oh #[iE kind,pc c,pc a,pc n,iE v] 152)):=Am;have J:Hid (K.1[iL H.1]?=lj (oh #[pc i,pc s,pc d,iE f,iE g,iE V] 87)):=Kx;have C:Hid (iF w K):=Ao;have ⟨_,_,m,_,o⟩:=T0 h.out iI;have ⟨x,P,p,t,l,q⟩:=N4 J.out iI;clear M)
   |(go_at_call 186;apply(R.out _).mono;rintro b L⟨rfl,F⟩;have k:=u (C.out.trans (F.mono C.out.size));clear F)))
 all_goals go_ret
 all_goals first|exact⟨iI,k.out⟩|exact⟨iI,C.out⟩
section
attribute [local go_sem ↓] Go.wp_at_zero Go.wp_at_succ
def Zb(w tb kind)(p k n:gU)(v)(i s f:gU)(g l V)(hd:¬(40:Int)<(k.size:Int))(hn:¬(10:Int)<(n.size:Int))(x)(Q:w.cell? (iD tb 1)=lj (.map (lj x)))(D:tb<iL w.1)(G:gU)(d j u:gU)(T N e ok)(q:Nat)(r:Hid (∀W,iF w W->xq prog 163 #[iB tb,pc p] W λb B=>b=k8 (js #[faj #[pc i,pc s,pc f,iE g,iE l,iE V],iE 10])/\iF W B))(X:Hid (∀W,xq prog 180 #[pc p] W λb B=>b=k8 (pc G)/\B=W))(L:Hid (∀W,iF w W->(gq 106 (.map (lj x)) (pc G) km).run prog W=.ok (js #[faj #[pc d,pc j,pc u,iE T,iE N,iE e],gd ok]) W/\(Builtin.len_ #[106] 3 #[.map (lj x)]).run prog W=.ok (iE q) W)):xq prog 148 #[iB tb,M3 kind p k n v] w λb B=>b=k8 (iE (if ok then(if q<32 then 0 else 12) else 10))/\iF w B:=by
 have m:(∃Y:Int,Y=(if ok then(if q<32 then 0 else 12) else 10)):=⟨_,iI⟩;obtain⟨cd,m⟩:=m;rw[←m];have a1:=hide m;clear m;have ao:((32:Int)<=(q:Int))∨¬((32:Int)<=(q:Int)):=Classical.em _;have U:=hide (iw w (oh #[iE kind,pc p,pc k,pc n,iE v] 152));go_enter func148,ntmps148;go_wp2_with (go_at_call 163;refine(r.out _ (Bf _ _)).mono ?_;rintro b H⟨rfl,M⟩;have O:=hide ((Bf _ _).trans (M.mono Ad));have Z:=hide ((M.block _ (ltOf U.out)).trans U.out);obtain⟨K,I⟩:∃K,H.alloc (oh #[pc i,pc s,pc f,iE g,iE l,iE V] 87)=K:=⟨_,iI⟩;have h:Hid (K.1[iL w.1]?=lj (oh #[iE kind,pc p,pc k,pc n,iE v] 152)):=Am;have J:Hid (K.1[iL H.1]?=lj (oh #[pc i,pc s,pc f,iE g,iE l,iE V] 87)):=Kx;have C:Hid (iF w K):=Ao;have ⟨_,y,z,A,F⟩:=T0 h.out iI;have P:=(C.out.cell (p:=(iD tb 1)) D).trans Q;have l0:=(L.out K C.out).1;have l1:=(L.out K.drew C.out.drew).1;have l2:=(L.out K.drew.drew C.out.drew.drew).1;have l3:=(L.out K.drew.drew.drew C.out.drew.drew.drew).1;obtain⟨c,t⟩:∃c,K.alloc (oh #[pc iG,pc iG,pc iG,iE 0,iE 0,iE 0] 87)=c:=⟨_,iI⟩;have R:Hid (c.1[iL K.1]?=lj (oh #[pc iG,pc iG,pc iG,iE 0,iE 0,iE 0] 87)):=(by rw[←t];exact iw _ _);have o:Hid (iF w c):=(by rw[←t];exact C.out.alloc C.out.size _);have a6:Hid (c.1[iL w.1]?=lj (oh #[iE kind,pc p,pc k,pc n,iE v] 152)):=(by rw[←t];exact(ir _ _ _ (ltOf h.out)).trans h.out);have a7:c.cell? (iD w.1.size 1)=lj (pc p):=cellOf a6.out iI;have t3:=(o.out.cell (p:=(iD tb 1)) D).trans Q;have ⟨a8,aa,ab,ad,ae,af⟩:=N4 R.out iI;have ⟨ah,ai,aj,ak,al,an,_⟩:=Gu R.out;have z0:=(L.out c o.out).1;have z1:=(L.out c.drew o.out.drew).1;have z2:=(L.out c.drew.drew o.out.drew.drew).1;have z3:=(L.out c.drew.drew.drew o.out.drew.drew.drew).1;obtain⟨a,S⟩:∃a,((((((c.setCell (iC K.1.size) (pc d)).setCell (iD K.1.size 1) (pc j)).setCell (iD K.1.size 2) (pc u)).setCell (iD K.1.size 3) (iE T)).setCell (iD K.1.size 4) (iE N)).setCell (iD K.1.size 5) (iE e))=a:=⟨_,iI⟩;have T4:Hid (Br c a K.1.size _ 87):=(by rw[←S];exact(((((((Br.refl R.out).set 0 (pc d)).set 1 (pc j)).set 2 (pc u)).set 3 (iE T)).set 4 (iE N)).set 5 (iE e)));have E:=hide (o.out.grown T4.out.grown o.out.size (λaq hj=>by cases hj;exact C.out.size));have t4:=(E.out.cell (p:=(iD tb 1)) D).trans Q;have y0:=(L.out a E.out).2;have y1:=(L.out a.drew E.out.drew).2;have y2:=(L.out a.drew.drew E.out.drew.drew).2;have y3:=(L.out a.drew.drew.drew E.out.drew.drew.drew).2;clear M);go_region_law (go_simp;refine(X.out _).mono ?_;rintro b B⟨rfl,rfl⟩)
 all_goals (clear l0 l1 l2 l3 z0 z1 z2 z3 a8 aa ab ad ae af ah ai aj ak al an a7 t3 y z A F P I t S;go_wp2)
 all_goals go_ret
 all_goals (have m:=a1.out;first
  |(refine⟨?_,by first|exact E.out|exact E.out.drew|exact E.out.drew.drew|exact E.out.drew.drew.drew⟩;rw[m];simp_all;(first|done|omega))
  |(refine⟨?_,by first|exact E.out|exact E.out.drew|exact E.out.drew.drew|exact E.out.drew.drew.drew⟩;rw[m];congr 2;repeat' split<;>first|rfl|omega|simp_all|(exfalso;omega)))
end
def Ps(w G kind)(c a n:gU)(v)(i s d:gU)(f g V j)(Q:j=0∨j=10)(B:c≠⟨#[47]⟩)(m)(u:Hid (∀W,iF w W->xq prog 167 #[iB G,pc c] W λb e=>(∃o p,b=k8 (qh o m p))/\iF W e))(r:Hid (∀W,iF w W->xq prog 163 #[iB G,pc c] W λb e=>b=k8 (js #[faj #[pc i,pc s,pc d,iE f,iE g,iE V],iE j])/\iF W e)):xq prog 149 #[iB G,M3 kind c a n v] w λb e=>b=k8 (iE (if j=0 then(if Ut v V then(if m=0 then 0 else 15) else 14) else 10))/\iF w e:=by
 have R:Hid (∀W,xq prog 186 #[faj #[pc i,pc s,pc d,iE f,iE g,iE V],iE v] W λb e=>b=k8 (gd (Ut v V))/\iF W e):=λW=>P9 W i s d f g V v;have af:(c.toList==[47])=sd:=by rw[I4];exact decide_eq_false B
 have U:=hide (iw w (oh #[iE kind,pc c,pc a,pc n,iE v] 152));obtain⟨y,t⟩:∃y,decide ((0:Int)<(m:Int))=y:=⟨_,iI⟩;have z:(m=0)=(y=sd):=by rw[←t];simp
 simp only[z];cases A:Ut v V
 all_goals rw[A]at R
 all_goals rcases Q with rfl|rfl
 all_goals cases y
 all_goals simp only[decide_eq_true_eq,decide_eq_false_iff_not]at t
 all_goals (
  go_enter func149,ntmps149;go_wp2_with (first
   |(go_at_call 163;apply(r.out _ (Bf _ _)).mono;rintro b H⟨rfl,M⟩;have O:=hide ((Bf _ _).trans (M.mono Ad));have Z:=hide ((M.block _ (ltOf U.out)).trans U.out);obtain⟨K,I⟩:∃K,H.alloc (oh #[pc i,pc s,pc d,iE f,iE g,iE V] 87)=K:=⟨_,iI⟩;have h:Hid (K.1[iL w.1]?=lj (oh #[iE kind,pc c,pc a,pc n,iE v] 152)):=Am;have J:Hid (K.1[iL H.1]?=lj (oh #[pc i,pc s,pc d,iE f,iE g,iE V] 87)):=Kx;have C:Hid (iF w K):=Ao;have ⟨_,x,_,_,N⟩:=T0 h.out iI;have ⟨P,S,b2,T,b4,q⟩:=N4 J.out iI;clear M)
   |(go_at_call 186;apply(R.out _).mono;rintro b L⟨rfl,F⟩;have k:=hide (C.out.trans (F.mono C.out.size));have Y:=hide ((F.block _ (ltOf h.out)).trans h.out);have D:L.cell? (iD w.1.size 1)=lj (pc c):=cellOf Y.out iI;clear F)
   |(go_at_call 167;apply(u.out _ k.out).mono;rintro b X⟨⟨o,p,rfl⟩,l⟩;have E:=hide (k.out.trans (l.mono k.out.size));clear l)))
 all_goals go_ret
 all_goals first|exact⟨iI,E.out⟩|exact⟨iI,k.out⟩|exact⟨iI,C.out⟩
end Go.Proofs.YtcbilgmfdgpomaaGreatDoor
namespace Go.Proofs.YtcbilgmfdgpomaaGreatDoor
variable {P:Program}{r:List (gU×Nd)}{x:Nd}
open Go.RowKit
def CZ(L:gQ):List O:=L.flatMap λs=>[iE 0,pc s,qh jh 0 0]
def ON(L)(s:gU):CZ (L++[s])=CZ L++[iE 0,pc s,qh jh 0 0]:=by simp[CZ]
def TH(L):(L.map λs=>(Orch.txt s,qh jh 0 0)).flatMap Eo=CZ L:=by
 simp only[CZ,List.flatMap_map]
 rfl
def Ain{w a d}{L:gQ}(h:w.ownsRow a 183 3 d (iK L) (CZ L)):D8 w (λb=>b<Y w.1) (L.map Orch.txt) d:=by
 obtain⟨F,⟨rfl,C⟩|⟨g,I,H,rfl,o,G,M,f,i,R⟩⟩:=h
 ·have:=eY C;subst this;exact .nil jh 0
 ·by_cases c:L = []
  ·subst c;exact .nil _ _
  ·have:=D8.row (S:=λb=>b<Y w.1) (L.map λs=>(Orch.txt s,qh jh 0 0)) g I (by simpa using c) (by simpa using M) (N G) (λj u l=>by
    rw[TH]at l;have e:=(aF.1 l).1;rw[F]at e;have S:(H.toList.take (iK L * 3))[j]?=lj u:=by rwa[R]
    rw[dD e,cN]at S;exact T G S) (λp Q=>by
    obtain⟨s,_,rfl⟩:=aZ.1 Q;exact .nil jh 0)
   simpa[cW,dT] using this
def YE{w wr b o}(S:wr.1[Y w.1]?=lj (oh #[iE 0,pc iG,b] 183))(f:∀R,b.ownBlock=lj R->Y w.1+1<=R)(D:iF w wr)(G:(wr.alloc o).grownBy H b.ownBlock):H.1[Y w.1]?=lj (oh #[iE 0,pc iG,b] 183)/\iF w H:=by
 have K:=N S;refine⟨?_,(D.alloc D.size _).grown G Ah (λj l=>by have:=f j l;omega)⟩
 rwa[G.block _ Ah (λe=>Aj),ir _ _ _ K]
def Adm(w)(na:hU)(P)(L:gQ)(hL:iK L<=1000)(z:∀j (T:j<iK L),∃g k,na=lj (iD g k)/\g<iL w.1/\w.cell? ⟨g,k+j,jh⟩=lj (pc L[j])):xq prog 170 #[qh na (iK L) P] w λm t=>(∃y,m=k8 y/\D8 t (λb=>b<iL t.1) [.mk 0 iG (L.map Orch.txt)] y)/\iF w t:=by
 obtain⟨a,Z⟩:∃a,w.alloc (oh #[iE 0,pc iG,qh jh 0 0] 183)=a:=⟨_,iI⟩;have X:Hid (a.1[iL w.1]?=lj (oh #[iE 0,pc iG,qh jh 0 0] 183)):=by rw[←Z];exact iw _ _
 have O:Hid (iF w a):=by rw[←Z];exact Bf _ _
 have v:=hide z;clear z;obtain⟨V,W,Y,a1,a6⟩:=uz Tryz.info183;go_enter func170,ntmps170;go_wp2;go_loopw [5,8] (λ_ q wr=>∃j y,j<=iK L/\q=iE j/\Hid (wr.1[iL w.1]?=lj (oh #[iE 0,pc iG,y] 183)/\wr.ownsRow (iL w.1+1) 183 3 y j (CZ (L.take j))/\iF w wr)) (λ_ q _=>iK L - (intOf q).toNat)
 case atStart=>exact⟨0,qh jh 0 0,bF _,iI,X.out,xn _ _ _ _,O.out⟩
 case round=>
  obtain⟨j,y,T,rfl,c⟩:=hrel;have ⟨b0,b1,b2⟩:=Jh c.out.1 iI;by_cases Ib:j=iK L
  ·subst Ib;have A:=c.out.2.1;rw[List.take_length]at A;have H:=hide (Ain A);have a7:=hide (Nz wr [(.mk 0 iG (L.map Orch.txt),y)] (λb=>b<(wr.alloc (oh #[iE 0,pc iG,y] 183)).1.size) Ad #[iE 0,pc iG,y] An 183 1 iI _ iI Ad (by
    intro p f;simp at f;subst f;exact H.out.congr (λb i=>Ah) (λb i=>ir _ _ _ i)))
   go_wp2;go_ret;exact⟨⟨_,iI,a7.out⟩,c.out.2.2.alloc c.out.2.2.size _⟩
  ·obtain⟨g,k,E,a8,s⟩:=v.out j Aa;have e0:wr.cell? ⟨g,k+j,jh⟩=lj (pc L[j]):=(c.out.2.2.cell (p:=⟨g,k+j,jh⟩) a8).trans s;have aj:(j:Int)<(iK L:Int):=Aa;obtain⟨Q,r,aa⟩:∃Q r,y=qh Q j r:=by
    rcases c.out.2.1.2 with⟨m,F⟩|⟨g,I,o,m,_⟩
    ·exact⟨jh,0,by rw[m,F]⟩
    ·exact⟨_,_,m⟩
   subst E aa;have C:L.take (j+1)=L.take j++[L[j]]:=by rw[dM]
   have ab:Hid (∀R,(qh Q j r).ownBlock=lj R->iL w.1+1<=R):=λR d=>by
    rcases c.out.2.1.2 with⟨m,F⟩|⟨g,I,o,m,S,_⟩
    ·rw[m]at d;simp[yq]at d
    ·rw[m]at d;simp[yq]at d;omega
   have bh:=hide C;obtain⟨u,N⟩:∃u,L[j]=u:=⟨_,iI⟩;rw[N]at e0 bh;have f2:=Fk1 (w:=wr) 2 c.out.1;clear s C N;have ak:=ltOf c.out.1;go_wp2_with (at_builtin;refine wpList_append_own_at _ iI _ _ 177 iI (iL w.1+1) 183 V _ 3 48 underlying177 W Y a1 a6 iI Ae (.slice Q j r) j (CZ (L.take j)) iI (c.out.2.1.alloc _) (iC wr.1.size) 1 1 [iE 0,pc u,qh jh 0 0] iI iI ?c1 ?c2 ?c3 ?c4 ?c5 ?_)
   case c1=>exact jc (iw wr _)
   case c2=>intro al K;simp at K;rcases K with rfl|rfl|rfl<;>rfl
   case c3=>unfold maxLen;omega
   case c4=>omega
   case c5=>simp;omega
   intro U l J D _ ad;have n:=hide (YE c.out.1 ab.out c.out.2.2 D);have M:Hid (l.ownsRow (iL w.1+1) 183 3 U (j+1) (CZ (L.take (j+1)))):=by rwa[bh.out,ON]
   have c6:=Vi (w:=l) 2 n.out.1;have f6:=Fk1 (w:=l) 2 n.out.1;obtain⟨e,x,G,ae⟩:∃e x G,U=qh e x G:=by
    rcases J.2 with⟨m,F⟩|⟨g,I,o,m,_⟩
    ·exact⟨_,_,_,m⟩
    ·exact⟨_,_,_,m⟩
   subst ae;obtain⟨h,af⟩:∃h,l.setCell (iD w.1.size 2) (qh e x G)=h:=⟨_,iI⟩;have B:Br l h w.1.size #[iE 0,pc iG,qh e x G] 183:=by
    rw[←af];have:=(Br.refl n.out.1).set 2 (qh e x G);simpa using this
   have ah:Hid (h.1[iL w.1]?=lj (oh #[iE 0,pc iG,qh e x G] 183)/\h.ownsRow (iL w.1+1) 183 3 (qh e x G) (j+1) (CZ (L.take (j+1)))/\iF w h):=by
    refine⟨B.blk,?_,n.out.2.grown B.grown (by have:=ltOf n.out.1;omega) (λq hi=>by cases hi;exact aC _)⟩;refine⟨M.out.1,?_⟩;rcases M.out.2 with⟨m,F⟩|⟨R,I,o,m,S,d,ai⟩
    ·exact r7 ⟨m,F⟩
    ·exact kr ⟨R,I,o,m,S,(B.grown.block R (ltOf d) (λe1=>by injection e1;omega)).trans d,ai⟩
   clear J D ad B;go_wp2;go_roundw
   case rel=>exact⟨j+1,qh e x G,Aa,by go_num,ah.out⟩
   case measure=>first|(simp[intOf];done)|(simp[intOf];omega)
open Go.Maps
def Kf(L:List Nd):Prop:=L.Pairwise λx y=>¬GL y x<0
def Tb(L):(Fh L).length=iK L * 6:=by
 induction L with
 |nil=>rfl
 |cons x L O=>
  have e:Fh (x::L)=x.cs.toList++Fh L:=iI;rw[e,aK,O,aV];simp;omega
def Afg(w b v L)(K:iK L<=1000)(O:w.ownsRow b 87 6 v (iK L) (Fh L))(r)(D:vu b r w):xq prog 50 #[v,.func (.func 51) #[] #[]] w λe B=>e=k8 (js #[])/\vu b r B/\∃p,p.Perm L/\Kf p/\B.ownsRow b 87 6 v (iK p) (Fh p):=by
 rcases O.2 with⟨rfl,F⟩|⟨g,I,H,rfl,o,G,S,t,f,R⟩
 ·apply(AnyF.slices_SortFunc_none Tryz.lays6 jh 0 _ w).mono;rintro e B⟨rfl,rfl⟩;have c:L = []:=eY F;subst c;exact⟨iI,D,[],gL _,List.Pairwise.nil,O⟩
 ·have N:Go.Sort.HoldsK (λx:Nd=>x.cs.toList) 6 w g 0 L.toArray:=λj l=>by
   have h:j<iK L * 6:=by simpa using l
   rw[aX];refine⟨?_,Dm G⟩;have C:(H.toList.take (iK L * 6))[j]?=(Fh L)[j]?:=by rw[R]
   rw[eG,aL h,O2 L j h]at C;rw[xi _ _ _ _ Aan];exact cellOf G (by simpa using C)
  have:=AnyQ.slices_SortFunc Tryz.lays6 6 isAgg87 sizeOf87 (λx:Nd=>x.cs.toList) (λx=>rfl) (λx v q=>by simp at q;rcases q with rfl|rfl|rfl|rfl|rfl|rfl<;>rfl) GL Afq 51 #[] g 0 I L.toArray w (enters_of func51 Ab iI) (λu i T s x y=>(IJ _ x y).mono λe B⟨C,J⟩=>⟨C,0,#[oh x.cs 87,oh y.cs 87],by rw[J];rfl⟩) N (ltOf G) Ah;apply this.mono;rintro e B⟨rfl,M,n,i,Q,s,rfl⟩;have d:M.size=iK L:=by simpa using Q.1
  have U:M.toList.Perm L:=by
   have:=Q.2.2;simp at this
   rwa[bO (by simp[d])]at this
  refine⟨iI,⟨D.os,D.tape,D.output,?_,λk E=>?_⟩,M.toList,U,?_,?_⟩
  ·have:=D.size;simp[sortWorldK,Go.Sort.putRowK,Go.Sort.grow,Go.Sort.putRow,Go.Sort.mapBlock,Go.Sort.ahead];omega
  ·rw[←D.block k E]
   show((w.1.modify g _)++i)[k]?=_;rw[dJ HM,bS,aM Aa]
  ·refine List.pairwise_iff_getElem.2 λm j V l W=>?_;have:=s m j (bF _) W (by simpa[d] using l);rw[getElem!_pos M m (by simpa using V),getElem!_pos M j (by simpa using l)]at this;simpa[_root_.Go.Proofs.ltOf] using this
  ·have a:iK M.toList=iK L:=by simpa using d
   refine⟨by rw[Tb],kr ⟨g,I,kj id 0 (Go.Sort.flatK (λx:Nd=>x.cs.toList) 6 M) H,by rw[a],o,?_,by rwa[a],t,?_,?_⟩⟩
   ·show((w.1.modify g _)++i)[g]?=_;exact A5v
   ·simp[kj,f]
   ·refine bL λj=>?_;rw[a,eG];by_cases l:j<iK L * 6
    ·have Y:j<H.size:=by
      have C:(H.toList.take (iK L * 6)).length=iK L * 6:=by rw[R,(Tb L)]
      rw[dZ]at C;simp at C;omega
     rw[aL l,O2 _ j (by rwa[a])];simp only[kj,cN,fka,aO Y,aI,aX,bF,true_and,Go.Sort.size_flatK,d,l,bQ,Nat.sub_zero,id];rw[xi _ _ _ _ (by rwa[d])]
    ·rw[aM l]
     symm
     rw[fN,Tb,a];omega
def Adp(q:uo×uo):Option Nd:=
 match q.2 with
 | faj a=>match a.toList with
  | [pc p,pc d,pc n,uu gh m,uu gh c,uu gh v]=>lj ⟨p,d,n,m,c,v⟩
  | _=>jh
 | _=>jh
def MJ(c D):Adp (Sk (c,D))=lj D:=iI
def Adq(r:List (gU×Nd)):(r.map Sk).filterMap Adp=r.map udw:=by
 induction r with
 |nil=>rfl
 |cons q r O=>
  rw[bC,fT (MJ q.1 q.2),O]
  rfl
def RJ{w h J t r}{K:O}{L x m o I}(f:∀a,K.ownBlock=lj a->a≠r/\Y w.1<=a)(b:Ic h t r m R)(D:iF w h)(z:t<Y w.1)(d:J.ownsRow w.1.size 87 6 U (iK L+1) (Fh L++x.cs.toList))(G:((h.alloc I).alloc o).grownBy J K.ownBlock):Hid (J.ownsRow w.1.size 87 6 U (L++[x]).length (Fh (L++[x]))/\Ic J t r m R/\iF w J):=by
 have s:=D.size;have Q:r<Y h.1:=by
  have ⟨X,i,n,c,c0,_,_,_,V,_⟩:=b.ex
  grind
 refine⟨by simpa[Fh] using d,b.keep ?_ ?_,((D.alloc s _).alloc Ah _).grown G Ah (λj l=>(f j l).2)⟩
 ·rw[G.block t Ah (λe=>Aj),ir _ _ _ Ah,ir _ _ _ Aa]
 ·rw[G.block r Ah (λe=>(f _ e.symm).1 iI),ir _ _ _ Ah,ir _ _ _ Q]
def Ala(w tb t num r)(l:Ck w tb t num r)(bc:iK r<=1000):xq prog 43 #[iB tb] w λm v=>(∃a8 L,m=k8 a8/\L.Perm (r.map udw)/\Kf L/\v.ownsRow w.1.size 87 6 a8 (iK L) (Fh L))/\iF w v:=by
 have c1:=Vi (w:=w) 1 l.blk;obtain⟨i0,ab,ad,ae,af⟩:=uz Tryz.info87;have aa:=l.map.len (t:=106) underlying106 3;rw[bV]at aa;have ah:=run_make (P:=prog) w 47 87 i0 _ Tryz.underlying47 ab ad .i64 .i64 (0:Int) (iK r:Int) Aa Aa (by rw[af];omega) Aa;simp only[Int.toNat_zero,dU,ae]at ah;obtain⟨P,A⟩:∃P,w.alloc (oh (madeCells Nd.zero.val.cells (iK r * 6)) 87)=P:=⟨_,iI⟩;rw[A]at ah;have O:Hid (iF w P):=by rw[←A];exact Bf _ _
 have ao:Hid (P.ownsRow w.1.size 87 6 (qh (lj (iC w.1.size)) 0 (iK r)) 0 []):=by
  rw[←A];exact⟨iI,kr ⟨iL w.1,iK r,_,iI,aC _,iw w _,bF _,H8,by simp[madeCells,Value.cells],Ad⟩⟩
 have ai:iL w.1<iL P.1:=by rw[←A];simp
 have d1:P.cell? (iD tb 1)=lj (.map (lj t)):=(O.out.cell (p:=(iD tb 1)) (ltOf l.blk)).trans c1;obtain⟨aq,hr,hR⟩:=(l.map.of_block (O.out.block t l.map.lt)).rangeL (t:=106) underlying106;obtain⟨c,e⟩:∃c,P.alloc aq=c:=⟨_,iI⟩;have C:Hid (iF w c):=by rw[←e];exact O.out.alloc O.out.size _
 have H:Hid (c.ownsRow w.1.size 87 6 (qh (lj (iC w.1.size)) 0 (iK r)) 0 []):=by rw[←e];exact ao.out.alloc _
 rw[e]at hr hR;have HR:=hide hR;have ar:=hide l.map.lt;have au:=hide (eL ai);clear hR A e ai;generalize P.1.size=W at *;go_enter func43,ntmps43;go_wp2;go_loopw [3,5] (λnm pp wr=>∃L y,Hid (iK L+iK y<=iK r/\(∀x∈y,x∈r.map Sk)/\(L++y.filterMap Adp).Perm (r.map udw))/\Hid (wr.ownsRow w.1.size 87 6 nm (iK L) (Fh L)/\Ic wr t W (r.map Sk) y/\iF w wr)) (λ_ _ wr=>wr.rangeLeft t W)
 case atStart=>exact⟨[],r.map Sk,⟨Ad,λx hx=>hx,by rw[bW,Adq]⟩,H.out,HR.out,C.out⟩
 case round=>
  obtain⟨L,y,B,b⟩:=hrel;obtain⟨M,n,E⟩:∃M n,u3=qh M (iK L) n:=by
   exact Q0a
  subst E;have av:=hide b.out.2.1.left_eq;rcases b.out.2.1.next (P:=prog) 0 with⟨F,aw⟩|⟨p,z,Q,K,aw,aj,ag,ax,bd⟩
  ·have b6:L.Perm (r.map udw):=by
    have:=B.out.2.2;rw[F]at this;simpa using this
   have Y:Hid (xq prog 50 #[qh M (iK L) n,.func (.func 51) #[] #[]] wr λm v=>m=k8 (js #[])/\iF w v/\∃f,f.Perm (r.map udw)/\Kf f/\v.ownsRow w.1.size 87 6 (qh M (iK L) n) (iK f) (Fh f)):=
    (Afg wr w.1.size (qh M (iK L) n) L (by have:=B.out.1;omega) b.out.1 w b.out.2.2).mono λm v⟨h1,h2,f,h3,h4,h5⟩=>⟨h1,h2,f,h3.trans b6,h4,h5⟩
   go_wp2_with fail;apply Y.out.mono;rintro m w3⟨rfl,h⟩;have U:=hide h;clear h;go_wp2;go_ret;obtain⟨h,f,h3,h4,h5⟩:=U.out;exact⟨⟨_,f,iI,h3,h4,h5⟩,h⟩
  ·have ak:p∈r.map Sk:=B.out.2.1 p (Q.subset (cJ ..));obtain⟨⟨pk,px⟩,hq,rfl⟩:=aZ.1 ak;have aa:iK y=iK z+1:=by rw[←Q.length_eq];rfl
   have b7:Hid (∀x∈z,x∈r.map Sk):=λx hx=>B.out.2.1 x (Q.subset (cI _ hx));have al:(L++[px]++z.filterMap Adp).Perm (r.map udw):=by
    have:=((gL L).append (Q.filterMap Adp)).trans B.out.2.2;rw[fT (MJ pk px)]at this;simpa using this
   have b8:=hide al;clear al;have C:=hide (b.out.2.2.grown ag b.out.2.2.size (λbf hj=>by cases hj;exact au.out));have b9:=hide aj;have an:Hid (iK z<wr.rangeLeft t W/\iK L+1+iK z<=iK r):=⟨by rw[av.out];omega,by have:=B.out.1;omega⟩;have a7:Hid (iK L+1<=1000):=by have:=B.out.1;exact(by omega:iK L+1<=1000)
   have G:Hid (∀R,(qh M (iK L) n).ownBlock=lj R->R≠W/\iL w.1<=R):=λR d=>by
    exact Wi3
   have q:Hid (K.ownsRow w.1.size 87 6 (qh M (iK L) n) (iK L) (Fh L)):=by
    refine⟨b.out.1.1,?_⟩;rcases b.out.1.2 with⟨m,F⟩|⟨g,I,o,m,j,S,a6⟩
    ·exact r7 ⟨m,F⟩
    ·have:=G.out g (by rw[m];simp[yq]);exact kr ⟨g,I,o,m,j,(ag.block g (ltOf S) (λk=>this.1 (by injection k))).trans S,a6⟩
   obtain⟨i,s,u,T,N,V⟩:=px;obtain⟨a,Z⟩:∃a,K.alloc (oh #[pc i,pc s,pc u,iE T,iE N,iE V] 87)=a:=⟨_,iI⟩;have X:Hid (a.1[iL K.1]?=lj (oh #[pc i,pc s,pc u,iE T,iE N,iE V] 87)):=by rw[←Z];exact iw _ _
   have ⟨b0,b1,b2,b3,b4,bg⟩:=N4 X.out iI;have ba:Hid ((a.alloc (oh #[pc i,pc s,pc u,iE T,iE N,iE V] 87)).ownsRow w.1.size 87 6 (qh M (iK L) n) (iK L) (Fh L)):=by rw[←Z];exact(q.out.alloc _).alloc _
   have bh:iL w.1<=iL a.1:=by rw[←Z];have:=C.out.size;simp;omega
   clear aj ag Q hq ax aa ak;go_wp2_with (at_builtin;refine wpList_append_own_at _ iI _ _ 47 iI w.1.size 87 i0 _ 6 72 Tryz.underlying47 ab ad ae af ?g0 Ae (.slice M (iK L) n) (iK L) (Fh L) iI ba.out (iC a.1.size) 1 1 [pc i,pc s,pc u,iE T,iE N,iE V] iI ?g1 ?g2 ?g3 ?g4 ?g5 ?g6 ?_)
   case g3=>first|exact⟨iI,iI,iI,iI,iI,iI⟩|(simp[Value.oneCell'];done)|trace_state
   case g4=>have:=a7.out;unfold maxLen;omega
   case g5=>have:=a7.out;omega
   case g6=>have:=a7.out;omega
   intro v' w6 J D _ bb;rw[←Z]at D;have HE:=hide (RJ (x:=Nd.mk i s u T N V) G.out b9.out C.out ar.out J D);clear J D bb;go_wp2
   all_goals exact⟨⟨L++[Nd.mk i s u T N V],z,⟨by have:=an.out.2;simp;omega,b7.out,b8.out⟩,HE⟩,by rw[HE.out.2.1.left_eq];exact an.out.1⟩
open Go
def ZU{L s}(h:s∈Pe L):s∈L:=by
 unfold Pe at h;obtain⟨x,Z,rfl⟩:=aZ.1 h;have:=(fI _ _).mem_iff.1 Z;obtain⟨y,U,rfl⟩:=aZ.1 this;have e:(⟨y.data.toList.toArray⟩:gU)=y:=by cases y;simp
 rwa[e]
def LQ{a s}(h:s∈kids a r):∃q∈r,s=Hx q.1:=by
 obtain⟨e,N,E⟩:=List.mem_filterMap.1 (ZU h);obtain⟨q,f,rfl⟩:=aZ.1 N;unfold Qa Sk at E;simp only at E;split at E
 ·exact⟨q,f,(aB E).symm⟩
 ·cases E
def Z1{path ns}:(kids path ns).length<=iK ns:=by
 unfold kids;rw[Lo];apply aE (List.length_filterMap_le _ _);simp
structure TrN(valid:gS)(ns:List (gU×Nd)):Prop where
 nm:∀q∈ns,(Hx q.1).size<=24/\valid (Hx q.1)=km/\q.2.data.size<=40
def VT{L}(h:∀s∈L,s.size<=24):(Orch.txB L).length<=iK L * 28:=by
 induction L with
 |nil=>simp[Orch.txB]
 |cons s L O=>
  have C:=O λx Z=>h x (cI _ Z);have J:=h s cJ;have T:iK s.data.toList=s.size:=iI;rw[Orch.txB_cons,aK,aK,Orch.be_length,T,aV];omega
noncomputable def Rs(ks:gZ)(k:O):List O:=open Classical in if k∈ks then ks else ks++[k]
def Ajx{w b g}(h:Lf w b g){s o p}(c:(Lit.int gh s).wf=km)(O:(Lit.int gh o).wf=km)(d:p.size<=1000):F prog 165 #[.map (lj b),Fo s p o] w λe B=>e=k8 (js #[])/\Lf B b (Rs g (Fo s p o))/\Ax w B (· = b):=by
 obtain⟨l,K⟩:=QT c O d;refine Aa7 w b s o p (λB=>Lf B b (Rs g (Fo s p o))/\Ax w B (· = b)) (λW a=>?_);have L:Lf W b g:=h.keep (a.block b (Bi.lt h));have z:∀{J},W.grownBy J (lj b)->Ax w J (· = b):=λG=>(Ax.of_below a (aC _)).trans (Ax.of_grown G (r7 iI));by_cases E:Fo s p o∈g
 ·obtain⟨A,C,Q⟩:=eV E;have S:Rs g (Fo s p o)=g:=aL E;rw[S];obtain⟨J,Y,M,G⟩:=Bi.put_old L V3 underlying92 K (val:=.agg #[]) (A:=A.map λk=>(k,faj #[])) (C:=C.map λk=>(k,faj #[])) (v:=faj #[]) (by rw[Q];simp);refine⟨J,Y,?_,z G⟩;have:Lf J b (A++Fo s p o::C):=by
   unfold Lf;simpa using M
  rwa[Q]
 ·have S:Rs g (Fo s p o)=g++[Fo s p o]:=aM E;rw[S];obtain⟨J,Y,M,G⟩:=Bi.put_new L V3 underlying92 K (val:=.agg #[]) (λq f e=>by
   obtain⟨k,P,rfl⟩:=aZ.1 f;exact E (by rwa[←e]))
  refine⟨J,Y,?_,z G⟩;unfold Lf;simpa using M
def Fi(ns:List (gU×Nd))(p:gU):Option Nd:=(ns.find? λq=>decide (q.1=p)).map udw
def F9{p}(h:Fi r p=lj x):(p,x)∈r:=by
 obtain⟨⟨a,b⟩,C,rfl⟩:=bB.1 h
 grind
def Hy{p}(h:Fi r p=jh):∀q∈r,q.1≠p:=by
 unfold Fi at h;rw[Option.map_eq_none_iff,List.find?_eq_none]at h
 grind
def BY(ns:List (gU×Nd))(p:gU):Int:=
 match Fi ns p with
 |some _=>9
 |none=>if(Fi ns (Ej p)).isSome then(if iK ns<32 then 0 else 12) else 10
def BZ(ns:List (gU×Nd))(p:gU)(v:Int):Int:=
 match Fi ns p with
 |some x=>if Ut v x.version then 0 else 14
 |none=>10
def X5(ns:List (gU×Nd))(p:gU)(v:Int):Int:=
 if p=⟨#[47]⟩ then 13 else
 match Fi ns p with
 |some x=>if Ut v x.version then(if(kids p ns).length=0 then 0 else 15) else 14
 |none=>10
section
variable {e:Z} {tb t:Nat} {num:Int} (h:Ck e tb t num r) (m:Int) (L:e.cell? ⟨1,0,jh⟩=lj (iE m)) (a:1<Y e.1) (p d n:gU) (v:Int) (Q:p.size<=1000) (b:Lk p=km) (y:d.size<=40) (z:n.size<=10)
include h L a Q b y z
def WY:F prog 92 #[iB tb,M3 3 p d n v] e λc B=>c=k8 (iE (BZ r p v))/\iF e B:=by
 have g:=WV e tb p d n v (λf=>f=BZ r p v) 3 150 (.inr (.inr ⟨iI,iI⟩)) (λW k=>?_)
 ·grind
 cases Z:Fi r p with
 |some x=>
  apply(Xe W tb 3 p d n v x.path x.data x.note x.made x.changed x.version 0 (r7 iI) Aa Ajp).mono;rintro c B⟨rfl,D⟩;exact⟨⟨_,iI,by simp[BZ,Z]⟩,D⟩
 |none=>
  apply(Xe W tb 3 p d n v _ _ _ _ _ _ 10 (kr iI) Aa Ajy).mono;rintro c B⟨rfl,D⟩;exact⟨⟨_,iI,by simp[BZ,Z]⟩,D⟩
def WU(j:Eb p=km):F prog 92 #[iB tb,M3 1 p d n v] e λc B=>c=k8 (iE (BY r p))/\iF e B:=by
 have q:=WV e tb p d n v (λg=>g=BY r p) 1 148 (.inl ⟨iI,iI⟩) (λW k=>?_)
 ·grind
 have V:=h.below k (ltOf h.blk) h.map.lt;cases Z:Fi r p with
 |some x=>
  apply(Tw W tb 1 p d n v x.path x.data x.note x.made x.changed x.version Aa Aa t (T V.blk iI) (ltOf V.blk) Ajp).mono;rintro c B⟨rfl,D⟩;exact⟨⟨9,iI,by simp[BY,Z]⟩,D⟩
 |none=>
  have C:(Ej p).size<=1000:=by
   unfold Ej;split
   ·decide
   ·rw[dI];omega
  obtain⟨l,K⟩:=Ada C;obtain⟨f,U⟩:∃(f:Nd),∀J,iF W J->(gq 106 (.map (lj t)) (pc (Ej p)) km).run prog J=.ok (js #[f.val,gd (Fi r (Ej p)).isSome]) J:=by
   cases U:Fi r (Ej p) with
   |some f=>exact⟨f,λJ E=>(V.map.of_block (E.block _ V.map.lt)).look_some km HX underlying106 K (aZ.2 ⟨_,F9 U,iI⟩)⟩
   |none=>
    refine⟨Nd.zero,λJ E=>(V.map.of_block (E.block _ V.map.lt)).look_none km HX underlying106 (Af3 J) K (λs i=>?_)⟩;obtain⟨o,N,rfl⟩:=aZ.1 i;intro c;injection c with c;exact Hy U o N c
  refine(Zb W tb 1 p d n v _ _ _ _ _ _ Aa Aa t (T V.blk iI) (ltOf V.blk) (Ej p) f.path f.data f.note f.made f.changed f.version (Fi r (Ej p)).isSome (iK r) Ajy (λJ=>Tc J p Aa j) (λJ E=>⟨U J E,?_⟩)).mono ?_
  ·have:=(V.map.of_block (E.block _ V.map.lt)).len underlying106 3
   grind
  ·rintro c B⟨rfl,D⟩;exact⟨⟨_,iI,by simp[BY,Z]⟩,D⟩
def WW(U:r.length<=1000)(i:∀q∈r,q.1.size<=1000/\Eb q.1=km):xq prog 92 #[iB tb,M3 2 p d n v] e λc B=>c=k8 (iE (X5 r p v))/\iF e B:=by
 have j:=WV e tb p d n v (λf=>f=X5 r p v) 2 149 (.inr (.inl ⟨iI,iI⟩)) (λW k=>?_)
 ·grind
 by_cases Y:p=⟨#[47]⟩
 ·subst Y;apply(Vs W tb 2 d n v).mono;rintro c B⟨rfl,D⟩;exact⟨⟨13,iI,by simp[X5]⟩,D⟩
 ·have V:=h.below k (ltOf h.blk) h.map.lt;have C:∀J,iF W J->xq prog 167 #[iB tb,pc p] J λc B=>(∃g f,c=k8 (qh g (kids p r).length f))/\iF J B:=λJ E=>by
   apply(Pt J tb t num r (V.below E (ltOf V.blk) V.map.lt) p U i).mono;rintro c B⟨⟨x,rfl,O⟩,D⟩;refine⟨?_,D⟩;rcases O.2 with⟨rfl,F⟩|⟨l,I,H,rfl,_⟩
   ·grind
   ·exact⟨_,_,iI⟩
  cases Z:Fi r p with
  | some x=>
   apply(Ps W tb 2 p d n v x.path x.data x.note x.made x.changed x.version 0 (r7 iI) Y (kids p r).length C Ajp).mono;rintro c B⟨rfl,D⟩;exact⟨⟨_,iI,by simp[X5,Z,Y]⟩,D⟩
  | none=>
   apply(Ps W tb 2 p d n v _ _ _ _ _ _ 10 (kr iI) Y (kids p r).length C Ajy).mono;rintro c B⟨rfl,D⟩;exact⟨⟨_,iI,by simp[X5,Z,Y]⟩,D⟩
end
def QP(w):F prog 196 #[iE 1] w λe B=>e=k8 (gd sd)/\B=w:=by
 go_enter func196,ntmps196;go_wp2;go_ret;exact⟨iI,iI⟩
def ZY(K)(i s u:gU)(T N V k):F prog 169 #[faj #[pc i,pc s,pc u,iE T,iE N,iE V],iE k] K λe B=>(∃lv,e=k8 lv/\D8 B (λb=>iL K.1<=b/\b<iL B.1) [.mk 0 iG [Orch.num T,Orch.num N,Orch.num V,Orch.num k]] lv)/\iF K B:=by
 obtain⟨a,Z⟩:∃a,K.alloc (oh #[pc i,pc s,pc u,iE T,iE N,iE V] 87)=a:=⟨_,iI⟩;have X:Hid (a.1[iL K.1]?=lj (oh #[pc i,pc s,pc u,iE T,iE N,iE V] 87)):=by rw[←Z];exact iw _ _
 have O:Hid (iF K a):=by rw[←Z];exact Bf _ _
 have ⟨_,_,_,S,n,Y⟩:=N4 X.out iI;obtain⟨c,I⟩:∃c,a.alloc (oh #[iE T,pc iG,qh jh 0 0,iE N,pc iG,qh jh 0 0,iE V,pc iG,qh jh 0 0,iE k,pc iG,qh jh 0 0] 183)=c:=⟨_,iI⟩;have H:Hid (D8 c (λb=>iL K.1<=b/\b<iL c.1) [Orch.num T,Orch.num N,Orch.num V,Orch.num k] (qh (lj (iC a.1.size)) 4 4)):=by
  rw[←I];exact Nz a [(Orch.num T,qh jh 0 0),(Orch.num N,qh jh 0 0),(Orch.num V,qh jh 0 0),(Orch.num k,qh jh 0 0)] _ Ad _ An 183 4 iI _ iI HH (by
   intro p f;simp at f;rcases f with rfl|rfl|rfl|rfl<;>exact .nil jh 0)
 have C:Hid (iF K c):=Ao;have E:=hide (Nz c [(.mk 0 iG [Orch.num T,Orch.num N,Orch.num V,Orch.num k],qh (lj (iC a.1.size)) 4 4)] (λb=>iL K.1<=b/\b<(c.alloc (oh #[iE 0,pc iG,qh (lj (iC a.1.size)) 4 4] 183)).1.size) Ad #[iE 0,pc iG,qh (lj (iC a.1.size)) 4 4] An 183 1 iI _ iI Ady (by
  intro p f;simp at f;subst f;exact H.out.congr (λb D=>Ah) (λb D=>ir _ _ _ D.2)))
 exact Ley
def Amh{w S x b}(h:D8 w S [x] b):∃g I p,b=qh (lj (iC g)) 1 I/\S g/\w.cell? (iC g)=lj (iE x.n)/\w.cell? (iD g 1)=lj (pc x.s)/\w.cell? (iD g 2)=lj p/\D8 w S x.l p:=by
 generalize K:[x]=l at h;cases h with
 |nil a c=>cases K
 |row d g I F C H M Y=>
  match d,K with
  |[q],K=>
   obtain rfl:x=q.1:=by simpa using K
   exact⟨g,I,q.2,iI,H,(M 0 _ iI),(M 1 _ iI),(M 2 _ iI),Y q Ad⟩
def PY(w)(i s u:gU)(T N V k):xq prog 168 #[iE 1,faj #[pc i,pc s,pc u,iE T,iE N,iE V],iE k] w λb B=>(∃lv,b=k8 lv/\D8 B (λd=>d<iL B.1) [Orch.txt s,.mk 0 iG [Orch.num T,Orch.num N,Orch.num V,Orch.num k]] lv)/\iF w B:=by
 obtain⟨a,Z⟩:∃a,w.alloc (oh #[pc i,pc s,pc u,iE T,iE N,iE V] 87)=a:=⟨_,iI⟩;have X:Hid (a.1[iL w.1]?=lj (oh #[pc i,pc s,pc u,iE T,iE N,iE V] 87)):=by rw[←Z];exact iw _ _
 have O:Hid (iF w a):=by rw[←Z];exact Bf _ _
 have v:=Vi (w:=a) 1 X.out;obtain⟨c,e⟩:∃c,a.alloc (oh #[iE 0,pc s,qh jh 0 0] 183)=c:=⟨_,iI⟩;have y:Hid (c.1[iL w.1]?=lj (oh #[pc i,pc s,pc u,iE T,iE N,iE V] 87)):=by rw[←e];exact(ir _ _ _ (ltOf X.out)).trans X.out
 have A:Hid (c.1[iL a.1]?=lj (oh #[iE 0,pc s,qh jh 0 0] 183)):=by rw[←e];exact iw _ _
 have C:Hid (iF w c):=by rw[←e];exact O.out.alloc O.out.size _
 have H:iL w.1<iL a.1:=ltOf X.out;have Y:iL a.1<iL c.1:=ltOf A.out;have ⟨b0,b1,b2,b3,b4,b5⟩:=N4 y.out iI;have z:=hide (ZY c i s u T N V k);obtain⟨E,K,M,W,P⟩:=uz Tryz.info183;go_enter func168,ntmps168;go_wp2_with (first
  |(go_at_call 196;apply((hide QP).out _).mono;rintro b w5⟨rfl,rfl⟩)
  |(go_at_call 169;apply z.out.mono;rintro b L⟨⟨lv,rfl,q⟩,F⟩;obtain⟨Q,R,p,rfl,aa,c0,c1,c2,h⟩:=Amh q;have m:=hide h;have t:=hide F;have S:=hide ((F.block _ Y).trans A.out);have ag:Hid (L.ownsRow w.1.size 183 3 (qh (lj (iC a.1.size)) 1 1) 1 [iE 0,pc s,qh jh 0 0]):=⟨iI,kr ⟨iL a.1,1,_,iI,eL H,S.out,aC _,Ae,iI,iI⟩⟩;clear q h F)
  |(at_builtin;refine wpList_append_own_at _ iI _ _ 177 iI w.1.size 183 E _ 3 48 underlying177 K M W P iI Ae (.slice (lj (iC a.1.size)) 1 1) 1 [iE 0,pc s,qh jh 0 0] iI ag.out (iC Q) 1 R [iE 0,pc iG,p] iI iI ?c1 ?c2 ?c3 ?c4 ?c5 ?_))
 case c1=>
  intro j f l
  match j,l with
  |0,l=>simp at l;subst l;exact c0
  |1,l=>simp at l;subst l;exact c1
  |2,l=>simp at l;subst l;exact c2
 case c2=>
  intro f r;simp at r;rcases r with rfl|rfl|rfl
  ·rfl
  ·rfl
  ·obtain⟨ma,mc,U⟩:=m.out.shape;rw[U];rfl
 case c3=>unfold maxLen;omega
 case c4=>omega
 case c5=>exact aE C.out.size t.out.size
 intro v' n J D _ a1;have ab:=t.out.size;have ad:iL a.1<iL L.1:=Aa;have o:Hid (D8 n (λd=>d<iL n.1) [Orch.txt s,.mk 0 iG [Orch.num T,Orch.num N,Orch.num V,Orch.num k]] v'/\iF w n):=by
  refine⟨?_,((C.out.trans (t.out.mono C.out.size)).grown D (by have:=C.out.size;omega) (λj l=>by simp[yq]at l;omega))⟩;obtain⟨h0,⟨b,h1⟩|⟨a6,a7,a8,b,ae,G,hc,hm,hs,aj⟩⟩:=J
  ·cases h1
  ·subst b;exact D8.row (w:=n) (S:=λd=>d<iL n.1) [(Orch.txt s,qh jh 0 0),(.mk 0 iG [Orch.num T,Orch.num N,Orch.num V,Orch.num k],p)] a6 a7 Ad (by simpa using hc) (ltOf G) (λj f l=>by
    have af:j<6:=by simpa[Eo] using(aF.1 l).1
    have I:(a8.toList.take (2 * 3))[j]?=lj f:=by rwa[aj]
    rw[dD Aa,cN]at I;exact cellOf G I) (λah x=>by
    simp at x;rcases x with rfl|rfl
    ·exact .nil jh 0
    ·exact(m.out.congr (λd g=>aA g.2 D.size) (λd g=>D.block d g.2 (λb=>by simp[yq]at b;omega))))
 clear J D a1;go_wp2;go_ret;exact⟨⟨_,iI,o.out.1⟩,o.out.2⟩
def Ag0(w s W o p f)(M:w.cell? (iC f)=lj (iE s))(b:f<Y w.1):F prog 124 #[Fo W p o,faj #[],iB f] w λd B=>d=k8 (gd (W==s))/\iF w B:=by
 obtain⟨a,Z⟩:∃a,w.alloc (oh #[iE W,pc p,iE o] 189)=a:=⟨_,iI⟩;have X:Hid (a.1[Y w.1]?=lj (oh #[iE W,pc p,iE o] 189)):=by rw[←Z];exact iw _ _
 have O:Hid (iF w a):=by rw[←Z];exact Bf _ _
 obtain⟨c,e⟩:∃c,a.alloc (oh #[] 119)=c:=⟨_,iI⟩;have h:Hid (c.1[Y w.1]?=lj (oh #[iE W,pc p,iE o] 189)):=by rw[←e];exact(ir _ _ _ (N X.out)).trans X.out
 have C:Hid (iF w c):=by rw[←e];exact O.out.alloc O.out.size _
 have H:=Vi (w:=c) 0 h.out;have x:=(C.out.cell b).trans M;go_enter func124,ntmps124;go_wp2;go_ret;exact⟨iI,C.out⟩
def LP(s:Int)(k:O):Prop:=∀p o,k≠Fo s p o
noncomputable def CE(s:Int)(ks:gZ):List O:=open Classical in ks.filter λk=>decide (LP s k)
def Tp(k:O):Prop:=∃s p o,k=Fo s p o/\(Lit.int gh s).wf=km/\(Lit.int gh o).wf=km/\p.size<=1000
def Vx{s W o p}:LP s (Fo W p o)↔W≠s:=by
 constructor
 ·intro h e;subst e;exact h p o iI
 ·intro h u I e
  grind
def Mt(q:gU)(par:Bool):gU:=if par then Ej q else q
noncomputable def En(s:Int)(q:gU):List Tl->List O->List (Int×gU)×List O
 |[],ks=>([],ks)
 |x::T,ks=>open Classical in
  if Fo s (Mt q x.2.1) x.1∈ks then
   ((x.2.2,Mt q x.2.1)::(En s q T (ks.filter λk=>k≠Fo s (Mt q x.2.1) x.1)).1,(En s q T (ks.filter λk=>k≠Fo s (Mt q x.2.1) x.1)).2)
  else En s q T ks
def OT(E:List (Int×gU)):List O:=E.flatMap λe=>[iE e.1,pc e.2]
def QF(E e):OT (E++[e])=OT E++[iE e.1,pc e.2]:=by simp[OT]
def GQ{A C:gZ}{k}(z:(A++k::C).Nodup):open Classical in(A++k::C).filter (λx=>x≠k)=A++C:=by
 classical
 rw[eZ]at z;have ⟨d,J,T⟩:=z;rw[fU,List.filter_cons_of_neg Ad]
 congr 1
 ·simp_all
 ·refine fJ.2 λx Z=>?_
  grind
def Ad7{w:Z}{b a e size n:Nat}{x}{X:gZ}(h:w.ownsRow b e size x n X)(D:a<=b):w.ownsRow a e size x n X:=by
 obtain⟨F,C|⟨g,I,H,C,J,T⟩⟩:=h
 ·exact⟨F,r7 C⟩
 ·exact⟨F,kr ⟨g,I,H,C,aE D J,T⟩⟩
def Pf(w:Z)(B:Nat)(v:O)(L:List Nd):Prop:=
 ∃b cap,v=qh (lj (iC b)) (iK L) cap/\iK L<=cap/\b<B/\∀i (h:i<iK L) j u,(L[i].cs)[j]?=lj u->w.cell? ⟨b,i * 6+j,jh⟩=lj u
def Pf.below{B w a v L}(h:Pf w B v L)(D:vu B w a):Pf a B v L:=by
 have ⟨b,I,e,M,Y,z⟩:=h;exact⟨b,I,e,M,Y,λi V j u r=>(D.cell (p:=⟨b,i * 6+j,jh⟩) Y).trans (z i V j u r)⟩
def Pf.of{a w v L}(h:w.ownsRow a 87 6 v (iK L) (Fh L))(F:0<iK L):Pf w w.1.size v L:=by
 rcases h.2 with⟨rfl,e⟩|⟨g,I,H,rfl,o,G,S,t,f,R⟩
 ·omega
 ·refine⟨g,I,iI,S,N G,λi V j u r=>?_⟩;have l:j<6:=(aG.1 r).1;have E:i * 6+j<iK L * 6:=Aa;have C:(H.toList.take (iK L * 6))[i * 6+j]?=(Fh L)[i * 6+j]?:=by rw[R]
  rw[eG,aL E,O2 L _ E]at C;have b:(i * 6+j) / 6=i:=Aa;have c:(i * 6+j) % 6=j:=Aa;rw[b,c]at C;have Y:L.toArray[i]! = L[i]:=by simp[V]
  rw[Y]at C;have s:L[i].cs.toList[j]! = u:=by
   grind
  rw[s]at C;exact T G (by simpa using C)
def IZ(w a M r)(d:Pf w w.1.size a r)(D:Pf w w.1.size M r)(z:iK r<=1000000):xq prog 29 #[a,M] w λe b=>e=k8 (gd km)/\iF w b:=by
 have X:Hid (∀W,iF w W->Pf W w.1.size a r):=λW h=>d.below h;have o:Hid (∀W,iF w W->Pf W w.1.size M r):=λW h=>D.below h;obtain⟨c,I,rfl,C,y,_⟩:=d;obtain⟨j,L,rfl,q,p,_⟩:=D;go_enter func29,ntmps29;go_wp2_with fail;go_loopw [5] (λi wr=>∃k,k<=iK r/\i=iE k/\Hid (iF w wr)) (λi _=>iK r - (intOf i).toNat)
 case atStart=>exact⟨0,bF _,iI,nu _ _⟩
 case round=>
  obtain⟨k,E,rfl,n⟩:=hrel;by_cases Y:k<iK r
  ·have N:(k:Int)<(iK r:Int):=Aa;obtain⟨P,m,S,_,_,g⟩:=X.out wr n.out;obtain⟨G,t,v,_,_,f⟩:=o.out wr n.out;simp only[Value.slice.injEq,aT,Addr.mk.injEq]at S v;obtain⟨⟨rfl,_,_⟩,_,rfl⟩:=S;obtain⟨⟨rfl,_,_⟩,_,rfl⟩:=v;have c0:=g k Y 0 _ iI;have Q:=g k Y 1 _ iI;have R:=g k Y 2 _ iI;have U:=g k Y 3 _ iI;have u:=g k Y 4 _ iI;have l:=g k Y 5 _ iI;have A:=f k Y 0 _ iI;have Z:=f k Y 1 _ iI;have T:=f k Y 2 _ iI;have F:=f k Y 3 _ iI;have H:=f k Y 4 _ iI;have K:=f k Y 5 _ iI;rw[Nat.add_zero]at c0 A;clear g f;generalize r[k]=x at *;obtain⟨J,s,O,a1,B,V⟩:=x;go_wp2_with fail;go_region
   all_goals go_wp2_with fail
   all_goals go_roundw
   all_goals first
    |exact⟨k+1,Aa,by go_num,n.out.drew⟩
    |(simp[intOf];done)
    |(simp[intOf];omega)
  ·have N:¬(k:Int)<(iK r:Int):=Aa;go_wp2;go_ret;exact⟨iI,n.out⟩
def JF{L p}(h:L.Perm p)(s:Kf L)(v:Kf p)(z:(L.map Nd.path).Nodup):L=p:=by
 refine fS (le:=λx y=>¬GL y x<0) (λa b d D C J=>?_) s v h;have e:a.path.data.toList=b.path.data.toList:=by
  unfold GL at C J;rw[Tx,List.not_lt]at C J;exact List.le_antisymm C J
 have g:a.path=b.path:=by
  have:a.path.data=b.path.data:=Array.ext' e;cases Q:a.path;simp_all
 obtain⟨i,V,rfl⟩:=gF.1 d;obtain⟨j,l,rfl⟩:=gF.1 (h.symm.subset D);have c:(L.map Nd.path)[i]?=lj L[i].path:=Aj;have k:(L.map Nd.path)[j]?=lj L[i].path:=Aj;have:i=j:=(List.getElem?_inj (by simpa using V) z).1 (c.trans k.symm);subst this
 rfl
def MU{w:Z}{B G n v}{X:gZ}(h:w.ownsRow B e k v n X)(a:G<=B):w.ownsRow G e k v n X:=by
 obtain⟨F,⟨rfl,C⟩|⟨g,I,H,rfl,J,T⟩⟩:=h
 ·exact⟨F,r7 ⟨iI,C⟩⟩
 ·exact⟨F,kr ⟨g,I,H,iI,aE a J,T⟩⟩
def Aaf(w z c t num r)(a:w.cell? (iD z 1)=lj (iB c))(b:z<Y w.1)(h:Ck w c t num r)(U:iK r<=1000):F prog 33 #[iB z] w λe B=>(∃v L,e=k8 (js #[iE num,v])/\L.Perm (r.map udw)/\Kf L/\B.ownsRow w.1.size 87 6 v (iK L) (Fh L))/\iF w B:=by
 have d:Hid (∀W,iF w W->F prog 42 #[iB c] W λe B=>e=k8 (iE num)/\B=W):=λW D=>Kb W c t num r (h.below D (N h.blk) h.map.lt);have f:Hid (∀W,iF w W->F prog 43 #[iB c] W λe B=>(∃v L,e=k8 v/\L.Perm (r.map udw)/\Kf L/\B.ownsRow w.1.size 87 6 v (iK L) (Fh L))/\iF w B):=λW D=>(Ala W c t num r (h.below D (N h.blk) h.map.lt) U).mono λe B⟨⟨v,L,C,T,g,i⟩,J⟩=>⟨⟨v,L,C,T,g,MU i D.size⟩,D.trans (J.mono D.size)⟩;have HB:Hid (iF w w):=nu _ _;have j:Hid (∀W,iF w W->W.cell? (iD z 1)=lj (iB c)):=λW D=>(D.cell (p:=(iD z 1)) b).trans a;go_enter func33,ntmps33;go_wp2_with fail;go_region_held3 (λB=>B.cell? (iD z 1)=lj (iB c)) (first|(go_keep;done)|assumption) (first|(go_at_call 42;apply(d.out _ Vw).mono;rintro e H⟨rfl,rfl⟩)|(go_at_call 43;apply(f.out _ Vw).mono;rintro e H⟨⟨v,L,rfl,q⟩,M⟩;have O:=u M;have R:=u q;have k:=j.out _ M;clear M q));go_wp2_with fail;exact fy (v:=js #[iE num,v]) (by simp[rz,results33,go_sem]) iI ⟨⟨v,L,iI,R.out⟩,O.out⟩
def Aae(w P z b t num r)(V:w.cell? (iC P)=lj (iB z))(M:w.cell? (iD z 1)=lj (iB b))(Y:z<iL w.1)(h:Ck w b t num r)(U:iK r<=1000):F prog 18 #[iB P] w λe B=>(∃v L,e=k8 (js #[iE num,v])/\L.Perm (r.map udw)/\Kf L/\B.ownsRow w.1.size 87 6 v (iK L) (Fh L))/\iF w B:=by
 have o:=u (Aaf w z b t num r M Y h U);go_enter func18,ntmps18;go_wp2_with (first|(go_at_call 26;apply(u (Q8 w P _ V)).out.mono;rintro S H⟨rfl,rfl⟩)|(go_at_call 33;apply o.out.mono;rintro S H⟨⟨v,L,rfl,q⟩,D⟩;have c:=u D;have R:=u q;clear D q));exact fy (by simp[rz,results18,go_sem]) iI ⟨⟨v,L,iI,R.out⟩,c.out⟩
end Go.Proofs.YtcbilgmfdgpomaaGreatDoor
